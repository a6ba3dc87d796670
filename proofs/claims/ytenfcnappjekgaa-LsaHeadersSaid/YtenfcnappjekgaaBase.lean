/-
  A slice of bytes as memory reads; blocks that are known whole.
-/
import Derived.Test.YtenfcnappjekgaaRows
import Derived.Test.YtenfcnappjekgaaMath
import Derived.Test.YtenfcnappjekgaaFdMath
import Derived.WalkKit
import Derived.WalkSpells
import Derived.WalkLawsBesides
import Derived.Lib.Hide
import Derived.Below
import Derived.Laws.OwnMore
import Derived.Deep.AppendLies
import Derived.Deep.Draws
import Derived.Deep.LoopGhost
import Derived.Deep.DeepAppendWide
import Derived.OwnWalk
namespace Go.Proofs.Ytenfcnappjekgaa
open Go.RowKit
set_option linter.unusedSimpArgs false
set_option linter.unusedVariables false

theorem ret_i {k : IntKind} {a b : Int} (h : a = b) : Ending.returned (.int k a) = .returned (.int k b) := by rw [h]
theorem ret_b {a b : Bool} (h : a = b) : Ending.returned (.bool a) = .returned (.bool b) := by rw [h]
theorem val_i {k : IntKind} {a b : Int} (h : a = b) : (Value.int k a) = .int k b := by rw [h]
abbrev I64 (n : Int) : Prop := -9223372036854775808 ≤ n ∧ n ≤ 9223372036854775807

def u8s (l : List Nat) : List Value := l.map fun (x : Nat) => Value.int .u8 (x : Int)
theorem u8s_len (l : List Nat) : (u8s l).length = l.length := by simp [u8s]
theorem u8s_get {l : List Nat} {k x : Nat} (h : l[k]? = some x) : (u8s l)[k]? = some (.int .u8 (x : Int)) := by simp [u8s, h]
theorem u8s_app (l m : List Nat) : u8s (l ++ m) = u8s l ++ u8s m := by simp [u8s]
theorem u8s_one (l : List Nat) : ∀ u ∈ u8s l, u.oneCell' = true := by
  intro u hu
  obtain ⟨x, _, rfl⟩ := List.mem_map.1 hu
  rfl

/-- the bytes of a slice lie at an address -/
def At (w : World) (B : Nat) (A : Option Addr) (l : List Nat) : Prop :=
  ∀ (k x : Nat), l[k]? = some x → ∃ b off, A = some ⟨b, off, none⟩ ∧ b < B ∧ w.cell? ⟨b, off + k, none⟩ = some (.int .u8 (x : Int))
theorem At.below {w w' : World} {B C : Nat} {A : Option Addr} {l : List Nat} (h : At w B A l) (hB : B ≤ C) (hb : Below C w w') : At w' B A l := fun k x hk => by
  obtain ⟨b, off, e, hlt, hc⟩ := h k x hk
  exact ⟨b, off, e, hlt, (hb.cell (p := ⟨b, off + k, none⟩) (Nat.lt_of_lt_of_le hlt hB)).trans hc⟩
theorem At.more {w : World} {B C : Nat} {A : Option Addr} {l : List Nat} (h : At w B A l) (hB : B ≤ C) : At w C A l := fun k x hk => by
  obtain ⟨b, off, e, hlt, hc⟩ := h k x hk
  exact ⟨b, off, e, Nat.lt_of_lt_of_le hlt hB, hc⟩
theorem at_nil (w : World) (B : Nat) (A : Option Addr) : At w B A [] := fun k x h => by simp at h
theorem At.take {w : World} {B : Nat} {A : Option Addr} {l : List Nat} (h : At w B A l) (n : Nat) : At w B A (l.take n) := fun k x hk => by
  rw [List.getElem?_take] at hk
  split at hk
  · exact h k x hk
  · cases hk
theorem At.cut {w : World} {B : Nat} {A : Option Addr} {l : List Nat} (h : At w B A l) {n cap : Nat} (hc : l.length ≤ cap) : At w B (if cap = n then A else A.map (·.add n)) (l.drop n) := fun k x hk => by
  rw [List.getElem?_drop] at hk
  obtain ⟨b, off, rfl, hlt, hcell⟩ := h (n + k) x hk
  have := (List.getElem?_eq_some_iff.1 hk).1
  rw [if_neg (by omega)]
  exact ⟨b, off + n, by simp [Addr.add_lit], hlt, by rw [Nat.add_assoc]; exact hcell⟩
theorem At.cells {w : World} {B b off : Nat} {l : List Nat} (h : At w B (some ⟨b, off, none⟩) l) : ∀ j u, (u8s l)[j]? = some u → w.cell? ((⟨b, off, none⟩ : Addr).add j) = some u := by
  intro j u hu
  unfold u8s at hu
  rw [List.getElem?_map] at hu
  cases hx : l[j]? with
  | none => rw [hx] at hu; cases hu
  | some x =>
    rw [hx] at hu
    obtain rfl := Option.some.inj hu
    obtain ⟨b', off', e, _, hc⟩ := h j x hx
    obtain ⟨rfl, rfl⟩ : b = b' ∧ off = off' := by injection e with e; injection e with e1 e2; exact ⟨e1, e2⟩
    rw [Addr.add_lit]; exact hc
theorem at_own {w : World} {B n : Nat} {e : TypeId} {ad : Option Addr} {cap : Nat} {l : List Nat} (h : w.ownsRow B e 1 (.slice ad n cap) l.length (u8s l)) : At w w.heap.size ad l := by
  intro k x hk
  rcases h.2 with ⟨h0, hn⟩ | ⟨g, cap', cur, hv, hB, hg, hnc, _, _, _⟩
  · obtain rfl := List.length_eq_zero_iff.1 hn
    simp at hk
  · injection hv with h1 h2 h3
    subst h1 h2 h3
    have hlt := (List.getElem?_eq_some_iff.1 hk).1
    refine ⟨g, 0, rfl, (Array.getElem?_eq_some_iff.1 hg).1, ?_⟩
    rw [Nat.zero_add, h.cellAt k (by omega)]
    exact u8s_get hk

/-- a slice value that reads as these bytes -/
def Rd (w : World) (v : Value) (l : List Nat) : Prop := ∃ ad cap, v = .slice ad l.length cap ∧ l.length ≤ cap ∧ Bytes l ∧ At w w.heap.size ad l
theorem Rd.below {w w' : World} {v : Value} {l : List Nat} (h : Rd w v l) (hb : Below w.heap.size w w') : Rd w' v l := by
  obtain ⟨ad, cap, rfl, hc, hB, ha⟩ := h
  exact ⟨ad, cap, rfl, hc, hB, (ha.below (Nat.le_refl _) hb).more hb.size⟩
theorem Rd.bytes {w : World} {v : Value} {l : List Nat} (h : Rd w v l) : Bytes l := h.choose_spec.choose_spec.2.2.1
theorem rd_nil (w : World) : Rd w (.slice none 0 0) [] := ⟨none, 0, rfl, Nat.le_refl _, fun x h => by simp at h, at_nil _ _ _⟩
theorem rd_own {w : World} {B : Nat} {e : TypeId} {v : Value} {l : List Nat} (h : w.ownsRow B e 1 v l.length (u8s l)) (hb : Bytes l) : Rd w v l := by
  have hk := h.2
  rcases hk with ⟨rfl, hn⟩ | ⟨g, cap, cur, rfl, hB, hg, hnc, _, _, _⟩
  · obtain rfl := List.length_eq_zero_iff.1 hn
    exact rd_nil w
  · exact ⟨some ⟨g, 0, none⟩, cap, rfl, hnc, hb, at_own h⟩
theorem own_below {w w1 : World} {B s n : Nat} {e : TypeId} {v : Value} {xs : List Value} (h : w.ownsRow B e s v n xs) (hb : Below w.heap.size w w1) : w1.ownsRow B e s v n xs :=
  ⟨h.1, h.2.imp id (fun ⟨g, cap, cur, a, b, c, d⟩ => ⟨g, cap, cur, a, b, (hb.block g (Array.getElem?_eq_some_iff.1 c).1).trans c, d⟩)⟩
theorem own_base {w : World} {B B' s n : Nat} {e : TypeId} {v : Value} {xs : List Value} (h : w.ownsRow B' e s v n xs) (hB : B ≤ B') : w.ownsRow B e s v n xs :=
  ⟨h.1, h.2.imp id (fun ⟨g, cap, cur, a, b, c⟩ => ⟨g, cap, cur, a, Nat.le_trans hB b, c⟩)⟩
theorem below_drewN {B : Nat} {a w : World} (h : Below B a w) (n : Nat) : Below B a (w.drewN n) := ⟨h.os, h.tape, h.output, h.size, h.block⟩

theorem below_drew {B : Nat} {a w : World} (h : Below B a w) : Below B a w.drew := ⟨h.os, h.tape, h.output, h.size, h.block⟩

/-- block g is just these cells, none frozen -/
def Blk (w : World) (g : Nat) (t : TypeId) (cs : Array Value) : Prop := w.heap[g]? = some (.cells cs t (0, 0))
section
variable {w w' : World} {g : Nat} {t : TypeId} {cs : Array Value}
theorem Blk.lt (h : Blk w g t cs) : g < w.heap.size := (Array.getElem?_eq_some_iff.1 h).1
theorem Blk.cell (h : Blk w g t cs) (i : Nat) : w.cell? ⟨g, i, none⟩ = cs[i]? := cell_of_row w g i cs t (0, 0) h
theorem Blk.frozen (h : Blk w g t cs) (i : Nat) : w.frozen? ⟨g, i, none⟩ = false := by
  unfold Blk at h
  simp [World.frozen?, h]
theorem Blk.new (w : World) (t : TypeId) (cs : Array Value) : Blk (w.alloc (.cells cs t)) w.heap.size t cs := heap_alloc_new w _
theorem Blk.drewN (h : Blk w g t cs) (n : Nat) : Blk (w.drewN n) g t cs := h
theorem Blk.alloc (h : Blk w g t cs) (o : Obj) : Blk (w.alloc o) g t cs := (Below.heap_alloc w o g h.lt).trans h
theorem Blk.set_ (h : Blk w g t cs) (i : Nat) (u : Value) : Blk (w.setCell ⟨g, i, none⟩ u) g t (cs.setIfInBounds i u) := by
  unfold Blk at h ⊢
  simp [World.setCell, Array.getElem?_modify, h]
theorem Blk.drew (h : Blk w g t cs) : Blk w.drew g t cs := h
theorem Blk.set0 {a b : Value} (h : Blk w g t #[a, b]) (u : Value) : Blk (w.setCell ⟨g, 0, none⟩ u) g t #[u, b] := by simpa using h.set_ 0 u
theorem Blk.set1 {a b : Value} (h : Blk w g t #[a, b]) (u : Value) : Blk (w.setCell ⟨g, 1, none⟩ u) g t #[a, u] := by simpa using h.set_ 1 u
theorem Blk.far (h : Blk w g t cs) {p : Addr} (hp : g ≠ p.block) (u : Value) : Blk (w.setCell p u) g t cs := (Below.heap_setCell w p u g hp).trans h
theorem Blk.below {B : Nat} (h : Blk w g t cs) (hb : Below B w w') (hg : g < B) : Blk w' g t cs := (hb.block g hg).trans h
end

/-- the hash, step by step -/
def hashV (l : List Nat) : Int := l.foldl (fun (h : Int) (c : Nat) => bits .xor .u32 h (c : Int) * 16777619 % 4294967296) 2166136261
theorem hashV_snoc (l : List Nat) (x : Nat) : hashV (l ++ [x]) = bits .xor .u32 (hashV l) x * 16777619 % 4294967296 := by unfold hashV; rw [List.foldl_append]; rfl
end Go.Proofs.Ytenfcnappjekgaa
