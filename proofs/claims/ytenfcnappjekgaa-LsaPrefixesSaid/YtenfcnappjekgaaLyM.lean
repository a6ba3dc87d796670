/-
  Links and routers in memory; what their checks answer.
-/
import Derived.Test.YtenfcnappjekgaaLaI
namespace Go.Proofs.Ytenfcnappjekgaa
open Go.RowKit
set_option linter.unusedSimpArgs false
set_option linter.unusedVariables false

/-- a link: kind, ID, data, cost -/
structure Lk where
  kind : Int
  id : Nat
  data : Nat
  cost : Int
structure LkOk (x : Lk) : Prop where
  kind : I64 x.kind
  id : x.id < 4294967296
  data : x.data < 4294967296
  cost : I64 x.cost
abbrev lkV (x : Lk) : Value := .agg #[.int .i64 x.kind, .int .u32 (x.id : Int), .int .u32 (x.data : Int), .int .i64 x.cost]
abbrev lkC4 (x : Lk) : Obj := .cells #[.int .i64 x.kind, .int .u32 (x.id : Int), .int .u32 (x.data : Int), .int .i64 x.cost] 73
def RdL (w : World) (v : Value) (ls : List Lk) : Prop := ∃ ad cap, v = .slice ad ls.length cap ∧ (ls.length ≤ cap ∧ cap ≤ 9223372036854775807) ∧ (∀ r ∈ ls, LkOk r) ∧ ∀ (k : Nat) (r : Lk), ls[k]? = some r → ∃ b off, ad = some ⟨b, off, none⟩ ∧ b < w.heap.size ∧ w.cell? ⟨b, off + k * 4, none⟩ = some (.int .i64 r.kind) ∧ w.cell? ⟨b, off + k * 4 + 1, none⟩ = some (.int .u32 (r.id : Int)) ∧ w.cell? ⟨b, off + k * 4 + 2, none⟩ = some (.int .u32 (r.data : Int)) ∧ w.cell? ⟨b, off + k * 4 + 3, none⟩ = some (.int .i64 r.cost)
theorem RdL.below {w w' : World} {v : Value} {ns : List Lk} (h : RdL w v ns) (hb : Below w.heap.size w w') : RdL w' v ns := by
  obtain ⟨ad, cap, e, hc, ho, hx⟩ := h
  refine ⟨ad, cap, e, hc, ho, fun k r hk => ?_⟩
  obtain ⟨b, off, e1, e2, e3, e4, e5, e6⟩ := hx k r hk
  exact ⟨b, off, e1, Nat.lt_of_lt_of_le e2 hb.size, carry hb e3, carry hb e4, carry hb e5, carry hb e6⟩
def RdW (w : World) (v : Value) (l : List Nat) : Prop := ∃ ad cap, v = .slice ad l.length cap ∧ (l.length ≤ cap ∧ cap ≤ 9223372036854775807) ∧ (∀ x ∈ l, x < 4294967296) ∧ ∀ (k : Nat) (x : Nat), l[k]? = some x → ∃ b off, ad = some ⟨b, off, none⟩ ∧ b < w.heap.size ∧ w.cell? ⟨b, off + k, none⟩ = some (.int .u32 (x : Int))
theorem RdW.below {w w' : World} {v : Value} {l : List Nat} (h : RdW w v l) (hb : Below w.heap.size w w') : RdW w' v l := by
  obtain ⟨ad, cap, e, hc, ho, hx⟩ := h
  refine ⟨ad, cap, e, hc, ho, fun k r hk => ?_⟩
  obtain ⟨b, off, e1, e2, e3⟩ := hx k r hk
  exact ⟨b, off, e1, Nat.lt_of_lt_of_le e2 hb.size, carry hb e3⟩
def lkC (x : Lk) (rt : Nat) : Int :=
  if x.kind < 1 then 15 else if 3 < x.kind then 15 else if x.cost < 1 then 5 else if 65535 < x.cost then 5
  else if x.kind = 1 then (if x.id = 0 then 1 else if x.id = rt then 1 else 0) else if x.kind = 3 then (if vld x.id x.data = true then 0 else 1) else 0
def cmpL (a b : Lk) : Int := orL [cmpI a.kind b.kind, cmpI a.id b.id, cmpI a.data b.data]
def errA (ls : List Lk) (rt k : Nat) : Int :=
  match ls[k]? with
  | none => 0
  | some x => if lkC x rt ≠ 0 then lkC x rt else if k = 0 then 0 else match ls[k - 1]? with
    | none => 0
    | some y => if 0 ≤ cmpL y x then 16 else 0
def lnkC (ls : List Lk) (rt : Nat) : Int := if 64 < ls.length then 4 else orL ((List.range ls.length).map (errA ls rt))
theorem errA_bad {ls : List Lk} {rt k : Nat} {x : Lk} (h : ls[k]? = some x) (hb : lkC x rt ≠ 0) : errA ls rt k = lkC x rt := by unfold errA; rw [h]; simp [hb]
theorem errA_zero {ls : List Lk} {rt : Nat} {x : Lk} (h : ls[0]? = some x) (hb : lkC x rt = 0) : errA ls rt 0 = 0 := by unfold errA; rw [h]; simp [hb]
theorem errA_succ {ls : List Lk} {rt k : Nat} {x y : Lk} (h : ls[k + 1]? = some x) (hy : ls[k]? = some y) (hb : lkC x rt = 0) : errA ls rt (k + 1) = if 0 ≤ cmpL y x then 16 else 0 := by unfold errA; rw [h]; simp [hb, hy]
theorem map_get {f : Nat → Int} {n k : Nat} (h : k < n) : ((List.range n).map f)[k]? = some (f k) := by simp [h]
theorem take_zero {f : Nat → Int} {n k : Nat} (h : ∀ x ∈ ((List.range n).map f).take k, x = 0) (hk : k < n) (h0 : f k = 0) : ∀ x ∈ ((List.range n).map f).take (k + 1), x = 0 := by
  intro y hy
  rw [List.take_add_one, map_get hk] at hy
  rcases List.mem_append.1 hy with h1 | h1
  · exact h y h1
  · have : y = f k := by simpa using h1
    rw [this, h0]
theorem all_zero {f : Nat → Int} {n : Nat} (h : ∀ x ∈ ((List.range n).map f).take n, x = 0) : orL ((List.range n).map f) = 0 := by
  rw [orL_skip _ n h, List.drop_eq_nil_of_le (by simp)]; rfl
def ascN (l : List Nat) (k : Nat) : Int := match l[k]? with
  | none => 0
  | some x => if k = 0 then (if x = 0 then 16 else 0) else match l[k - 1]? with
    | none => 0
    | some y => if x = 0 ∨ x ≤ y then 16 else 0
def attC (l : List Nat) (rt : Nat) : Int := if 64 < l.length then 4 else if orL ((List.range l.length).map (ascN l)) ≠ 0 then orL ((List.range l.length).map (ascN l)) else if rt ∈ l then 0 else 14
end Go.Proofs.Ytenfcnappjekgaa
