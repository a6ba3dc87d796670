/-
  A slice of communities (32-bit numbers) as memory reads; rows of the call's own.
-/
import Derived.Test.YtaniiennfogjaaaDoorRows
import Derived.Test.YtaniiennfogjaaaDoorMemB
import Derived.Test.YtaniiennfogjaaaDoorMa
import Derived.Below
import Derived.Deep.DeepAppendWide
import Derived.OwnWalk
namespace Go.Proofs.YtaniiennfogjaaaDoor
open Go.RowKit
set_option linter.unusedSimpArgs false
set_option linter.unusedVariables false

abbrev I64 (n : Int) : Prop := -9223372036854775808 ≤ n ∧ n ≤ 9223372036854775807
theorem cellO {w : World} {g o : Nat} {cs : Array Value} {t : TypeId} {v : Value} (h : w.heap[g]? = some (.cells cs t (0, 0))) (hv : cs[o]? = some v) : w.cell? ⟨g, o, none⟩ = some v := by simp [World.cell?, h, hv]
theorem freeO {w : World} {g : Nat} {cs : Array Value} {t : TypeId} (h : w.heap[g]? = some (.cells cs t (0, 0))) (o : Nat) : w.frozen? ⟨g, o, none⟩ = false := by simp [World.frozen?, h]
theorem ltO {w : World} {g : Nat} {o : Obj} (h : w.heap[g]? = some o) : g < w.heap.size := (Array.getElem?_eq_some_iff.1 h).1
theorem own_below {w w1 : World} {B s n : Nat} {e : TypeId} {v : Value} {xs : List Value} (h : w.ownsRow B e s v n xs) (hb : Below w.heap.size w w1) : w1.ownsRow B e s v n xs :=
  ⟨h.1, h.2.imp id (fun ⟨g, cap, cur, a, b, c, d⟩ => ⟨g, cap, cur, a, b, (hb.block g (Array.getElem?_eq_some_iff.1 c).1).trans c, d⟩)⟩
theorem own_base {w : World} {B B' s n : Nat} {e : TypeId} {v : Value} {xs : List Value} (h : w.ownsRow B' e s v n xs) (hB : B ≤ B') : w.ownsRow B e s v n xs :=
  ⟨h.1, h.2.imp id (fun ⟨g, cap, cur, a, b, c⟩ => ⟨g, cap, cur, a, Nat.le_trans hB b, c⟩)⟩

def adV (m : List Nat) : List Value := m.map (fun n : Nat => Value.int .u32 (n : Int))
theorem adV_len (l : List Nat) : (adV l).length = l.length := by simp [adV]
theorem adV_at {m : List Nat} {i z : Nat} (h : m[i]? = some z) : (adV m)[i]? = some (.int .u32 (z : Int)) := by unfold adV; simp [h]
theorem adV_setL (m : List Nat) (i z : Nat) : (adV m).set i (.int .u32 (z : Int)) = adV (m.set i z) := by unfold adV; rw [List.map_set]
theorem adV_app (l m : List Nat) : adV (l ++ m) = adV l ++ adV m := by simp [adV]
theorem adV_one (l : List Nat) : ∀ u ∈ adV l, u.oneCell' = true := by
  intro u hu
  obtain ⟨x, _, rfl⟩ := List.mem_map.1 hu
  rfl
/-- the numbers of a list have 32 bits -/
def W32 (l : List Nat) : Prop := ∀ x ∈ l, x < 4294967296
theorem W32.app {l m : List Nat} (h : W32 l) (g : W32 m) : W32 (l ++ m) := fun x hx => by
  rcases List.mem_append.1 hx with h1 | h1
  · exact h x h1
  · exact g x h1
theorem W32.get {l : List Nat} (h : W32 l) {i x : Nat} (hx : l[i]? = some x) : x < 4294967296 := h x (List.mem_of_getElem? hx)
/-- the cells of a slice lie at an address -/
def At (w : World) (B : Nat) (A : Option Addr) (l : List Nat) : Prop :=
  ∀ (k x : Nat), l[k]? = some x → ∃ b off, A = some ⟨b, off, none⟩ ∧ b < B ∧ w.cell? ⟨b, off + k, none⟩ = some (.int .u32 (x : Int))
theorem At.below {w w' : World} {B C : Nat} {A : Option Addr} {l : List Nat} (h : At w B A l) (hB : B ≤ C) (hb : Below C w w') : At w' B A l := fun k x hk => by
  obtain ⟨b, off, e, hlt, hc⟩ := h k x hk
  exact ⟨b, off, e, hlt, (hb.cell (p := ⟨b, off + k, none⟩) (Nat.lt_of_lt_of_le hlt hB)).trans hc⟩
theorem At.more {w : World} {B C : Nat} {A : Option Addr} {l : List Nat} (h : At w B A l) (hB : B ≤ C) : At w C A l := fun k x hk => by
  obtain ⟨b, off, e, hlt, hc⟩ := h k x hk
  exact ⟨b, off, e, Nat.lt_of_lt_of_le hlt hB, hc⟩
theorem at_nil (w : World) (B : Nat) (A : Option Addr) : At w B A [] := fun k x h => by simp at h
theorem At.take {w : World} {B : Nat} {A : Option Addr} {l : List Nat} (h : At w B A l) (n : Nat) : At w B A (l.take n) := fun k x hk => by
  rw [List.getElem?_take] at hk
  split at hk
  · exact h k x hk
  · cases hk
theorem At.cells {w : World} {B b off : Nat} {l : List Nat} (h : At w B (some ⟨b, off, none⟩) l) : ∀ j u, (adV l)[j]? = some u → w.cell? ((⟨b, off, none⟩ : Addr).add j) = some u := by
  intro j u hu
  unfold adV at hu
  rw [List.getElem?_map] at hu
  cases hx : l[j]? with
  | none => rw [hx] at hu; cases hu
  | some x =>
    rw [hx] at hu
    obtain rfl := Option.some.inj hu
    obtain ⟨b', off', e, _, hc⟩ := h j x hx
    obtain ⟨rfl, rfl⟩ : b = b' ∧ off = off' := by injection e with e; injection e with e1 e2; exact ⟨e1, e2⟩
    rw [Addr.add_lit]; exact hc
theorem at_own {w : World} {B n : Nat} {e : TypeId} {ad : Option Addr} {cap : Nat} {l : List Nat} (h : w.ownsRow B e 1 (.slice ad n cap) l.length (adV l)) : At w w.heap.size ad l := by
  intro k x hk
  rcases h.2 with ⟨h0, hn⟩ | ⟨g, cap', cur, hv, hB, hg, hnc, _, _, _⟩
  · obtain rfl := List.length_eq_zero_iff.1 hn
    simp at hk
  · injection hv with h1 h2 h3
    subst h1 h2 h3
    have hlt := (List.getElem?_eq_some_iff.1 hk).1
    refine ⟨g, 0, rfl, (Array.getElem?_eq_some_iff.1 hg).1, ?_⟩
    rw [Nat.zero_add, h.cellAt k (by omega)]
    exact adV_at hk
/-- a slice value that reads as these numbers -/
def Rd (w : World) (v : Value) (l : List Nat) : Prop := ∃ ad cap, v = .slice ad l.length cap ∧ (l.length ≤ cap ∧ cap ≤ 9223372036854775807) ∧ W32 l ∧ At w w.heap.size ad l
theorem Rd.below {w w' : World} {v : Value} {l : List Nat} (h : Rd w v l) (hb : Below w.heap.size w w') : Rd w' v l := by
  obtain ⟨ad, cap, rfl, hc, hB, ha⟩ := h
  exact ⟨ad, cap, rfl, hc, hB, (ha.below (Nat.le_refl _) hb).more hb.size⟩
theorem Rd.w32 {w : World} {v : Value} {l : List Nat} (h : Rd w v l) : W32 l := h.choose_spec.choose_spec.2.2.1
theorem rd_nil (w : World) : Rd w (.slice none 0 0) [] := ⟨none, 0, rfl, ⟨Nat.le_refl _, by omega⟩, fun x h => by simp at h, at_nil _ _ _⟩
theorem rd_own {w : World} {B : Nat} {e : TypeId} {v : Value} {l : List Nat} (h : w.ownsRow B e 1 v l.length (adV l)) (hb : W32 l) : Rd w v l := by
  have hk := h.2
  rcases hk with ⟨rfl, hn⟩ | ⟨g, cap, cur, rfl, hB, hg, hnc, hml, _, _⟩
  · obtain rfl := List.length_eq_zero_iff.1 hn
    exact rd_nil w
  · exact ⟨some ⟨g, 0, none⟩, cap, rfl, ⟨hnc, hml⟩, hb, at_own h⟩
theorem Rd.form {w : World} {v : Value} {l : List Nat} (h : Rd w v l) : ∃ ad cap, v = .slice ad l.length cap := by
  obtain ⟨ad, cap, e, _⟩ := h
  exact ⟨ad, cap, e⟩
/-- block g is just these cells, none frozen -/
def Blk (w : World) (g : Nat) (t : TypeId) (cs : Array Value) : Prop := w.heap[g]? = some (.cells cs t (0, 0))
end Go.Proofs.YtaniiennfogjaaaDoor
