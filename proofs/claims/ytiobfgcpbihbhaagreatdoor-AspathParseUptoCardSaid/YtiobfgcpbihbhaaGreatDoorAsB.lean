/-
  Lists of numbers and paths as memory reads.
-/
import Derived.Test.YtiobfgcpbihbhaaGreatDoorMemB
import Derived.Test.YtiobfgcpbihbhaaGreatDoorAsM
import Derived.Below
import Derived.Deep.DeepAppendWide
import Derived.OwnWalk
namespace Go.Proofs.YtiobfgcpbihbhaaGreatDoor
open Go.RowKit P
set_option linter.unusedSimpArgs false
set_option linter.unusedVariables false
set_option maxRecDepth 100000

abbrev I64 (n : Int) : Prop := -9223372036854775808 ≤ n ∧ n ≤ 9223372036854775807
/-- a slice of integers as memory reads -/
def RdI (w : World) (v : Value) (l : List Int) : Prop :=
  ∃ ad cap, v = .slice ad l.length cap ∧ l.length ≤ cap ∧ (cap ≤ 9223372036854775807 ∧ (ad = none → cap = 0)) ∧ ∀ k x, l[k]? = some x → ∃ b off, ad = some ⟨b, off, none⟩ ∧ b < w.heap.size ∧ w.cell? ⟨b, off + k, none⟩ = some (.int .i64 x)
theorem RdI.below {w w' : World} {v : Value} {l : List Int} (h : RdI w v l) (hb : Below w.heap.size w w') : RdI w' v l := by
  obtain ⟨ad, cap, rfl, h1, h2, hc⟩ := h
  refine ⟨ad, cap, rfl, h1, h2, fun k x hk => ?_⟩
  obtain ⟨b, off, e, hlt, c0⟩ := hc k x hk
  exact ⟨b, off, e, Nat.lt_of_lt_of_le hlt hb.size, by rw [hb.cell hlt]; exact c0⟩
theorem RdI.form {w : World} {v : Value} {l : List Int} (h : RdI w v l) : ∃ ad cap, v = .slice ad l.length cap := by obtain ⟨ad, cap, rfl, _⟩ := h; exact ⟨ad, cap, rfl⟩
theorem rdi_nil (w : World) : RdI w (.slice none 0 0) [] := ⟨none, 0, rfl, Nat.le_refl _, ⟨by omega, fun _ => rfl⟩, fun k x h => by simp at h⟩
theorem rdi_new (W : World) (l : List Int) (t : TypeId) (hl : l.length ≤ 1000) : RdI (W.alloc (.cells (ints l).toArray t (0, 0))) (.slice (some ⟨W.heap.size, 0, none⟩) l.length l.length) l := by
  refine ⟨_, _, rfl, Nat.le_refl _, ⟨by omega, fun e => by cases e⟩, fun k x hk => ⟨W.heap.size, 0, rfl, by simp, ?_⟩⟩
  refine cell_of (heap_alloc_new _ _) ?_
  rw [Nat.zero_add, List.getElem?_toArray]
  exact ints_get hk
theorem heap_at {w : World} {o : Obj} {g : Nat} (h : g = w.heap.size) : (w.alloc o).heap[g]? = some o := by subst h; exact heap_alloc_new _ _
theorem rdi_at (W : World) (l : List Int) (t : TypeId) (b : Nat) (hb : b = W.heap.size) (n : Nat) (hn : n = l.length) (cs : Array Value) (hcs : cs = (ints l).toArray) (hl : l.length ≤ 1000) : RdI (W.alloc (.cells cs t (0, 0))) (.slice (some ⟨b, 0, none⟩) n n) l := by
  subst hb hn hcs
  exact rdi_new W l t hl
theorem rdi_own {w : World} {B : Nat} {t : TypeId} {v : Value} {l : List Int} (h : w.ownsRow B t 1 v l.length (ints l)) : RdI w v l := by
  rcases h.2 with ⟨rfl, hn⟩ | ⟨g, cap, cur, rfl, hB, hg, hnc, hml, _, _⟩
  · obtain rfl := List.length_eq_zero_iff.1 hn
    exact rdi_nil w
  · refine ⟨some ⟨g, 0, none⟩, cap, rfl, hnc, ⟨hml, fun e => by cases e⟩, fun k x hk => ⟨g, 0, rfl, lt_block hg, ?_⟩⟩
    have := (List.getElem?_eq_some_iff.1 hk).1
    rw [Nat.zero_add, h.cellAt k (by omega)]
    exact ints_get hk
/-- a path as memory reads -/
def RdS (w : World) (v : Value) (p : List Sg) : Prop :=
  ∃ ad cap, v = .slice ad p.length cap ∧ p.length ≤ cap ∧ (cap ≤ 9223372036854775807 ∧ (ad = none → cap = 0)) ∧ ∀ k s, p[k]? = some s → ∃ b off u, ad = some ⟨b, off, none⟩ ∧ b < w.heap.size ∧ w.cell? ⟨b, off + k * 2, none⟩ = some (.int .i64 s.k) ∧ w.cell? ⟨b, off + k * 2 + 1, none⟩ = some u ∧ RdI w u s.as
theorem RdS.below {w w' : World} {v : Value} {p : List Sg} (h : RdS w v p) (hb : Below w.heap.size w w') : RdS w' v p := by
  obtain ⟨ad, cap, rfl, h1, h2, hc⟩ := h
  refine ⟨ad, cap, rfl, h1, h2, fun k x hk => ?_⟩
  obtain ⟨b, off, u, e, hlt, c0, c1, hr⟩ := hc k x hk
  exact ⟨b, off, u, e, Nat.lt_of_lt_of_le hlt hb.size, carry hb c0, carry hb c1, hr.below hb⟩
theorem RdS.form {w : World} {v : Value} {p : List Sg} (h : RdS w v p) : ∃ ad cap, v = .slice ad p.length cap := by obtain ⟨ad, cap, rfl, _⟩ := h; exact ⟨ad, cap, rfl⟩
theorem rds_nil (w : World) : RdS w (.slice none 0 0) [] := ⟨none, 0, rfl, Nat.le_refl _, ⟨by omega, fun _ => rfl⟩, fun k x h => by simp at h⟩
end Go.Proofs.YtiobfgcpbihbhaaGreatDoor
