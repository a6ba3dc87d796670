/-
  What combine's closure leaves behind where a list parts.
-/
import Derived.Test.YtegponbmelgngaaCvD
import Derived.Deep.RegionLaw
namespace Go.Proofs.Ytegponbmelgngaa
open Go.RowKit
set_option linter.unusedSimpArgs false
set_option linter.unusedVariables false
set_option maxHeartbeats 4000000
set_option maxRecDepth 100000

/-- what the closure does at a block of 2^k addresses -/
def CombV (S Sa Sb : Nat → Bool) (kf kb r vb k : Nat) : Prop := ∀ (A : Nat) (n : Int) (la lb : List PP) (va vb' : Value) (L : List PP) (K : Nat → Prop) (w : World), n = ((32 - k : Nat) : Int) → k ≤ 32 → A % 2 ^ k = 0 → A + 2 ^ k ≤ 4294967296 →
    GL Sa A k la → GL Sb A k lb → RdK K w va la → RdK K w vb' lb → K kb → K vb → w.cell? ⟨kb, 0, none⟩ = some (.func (.func kf) #[] #[]) →
    w.cell? ⟨vb, 0, none⟩ = some (.func (.func 105) #[] #[.pointer (some ⟨kb, 0, none⟩), .pointer (some ⟨r, 0, none⟩), .pointer (some ⟨vb, 0, none⟩)]) →
    ResI r K L w → L.length ≤ A → (∀ x ∈ L, (blk x).1 + 2 ^ (blk x).2 ≤ A) →
    Calls Try.prog 105 #[.agg #[.int .u32 (A : Int), .int .i64 n], va, vb', .pointer (some ⟨kb, 0, none⟩), .pointer (some ⟨r, 0, none⟩), .pointer (some ⟨vb, 0, none⟩)] w (VisPost S k A r K L w)
theorem vis_merge {S : Nat → Bool} {k A r : Nat} {K : Nat → Prop} {L : List PP} {v : Value} {w w5 w6 w7 : World} {g cap : Nat} {X : List PP} (ha : A % 2 ^ (k + 1) = 0) (hl : CM.NrmB S k A [(A, k)]) (hm : CM.NrmB S k (A + 2 ^ k) [(A + 2 ^ k, k)])
    (hR : ResV r K X v w5) (h1 : w7.ownsRow 0 28 2 (.slice (some ⟨g, 0, none⟩) (L.length + 1) cap) (L.length + 1) (flat L ++ encP (pfx (A, k + 1)))) (hb : Below w5.heap.size w5 w6) (h2 : w6.grownBy w7 v.ownBlock) (h3 : v.ownBlock = some g ∨ w6.heap.size ≤ g) (hK : KC K w w5) (hlt : ∀ k, K k → k < w.heap.size) :
    VisPost S (k + 1) A r K L w (.returned (.tuple #[])) (w7.setCell ⟨r, 0, none⟩ (.slice (some ⟨g, 0, none⟩) (L.length + 1) cap)) := by
  have hj := CM.NrmB.join ha hl hm
  rw [if_pos ⟨rfl, rfl⟩] at hj
  have e : (L ++ [pfx (A, k + 1)]).length = L.length + 1 := by simp
  have := (hR.below hb).push (L' := L ++ [pfx (A, k + 1)]) (w2 := w7) (g := g) (cap := cap) (by rw [e, flat_snoc]; exact h1) h2 h3
  rw [e] at this
  exact ⟨rfl, [(A, k + 1)], hj, this.1, hK.trans ((KC.of_below hb hR.klt).trans this.2)⟩
theorem vis_join2 {S : Nat → Bool} {k A r : Nat} {K : Nat → Prop} {L : List PP} {w : World} {l m : List (Nat × Nat)} {w' : World} (ha : A % 2 ^ (k + 1) = 0) (hl : CM.NrmB S k A l) (hm : CM.NrmB S k (A + 2 ^ k) m)
    (hno : ¬ (l = [(A, k)] ∧ m = [(A + 2 ^ k, k)])) (hR : ResI r K (L ++ l.map pfx ++ m.map pfx) w') (hK : KC K w w') : VisPost S (k + 1) A r K L w (.returned (.tuple #[])) w' := by
  have hj := CM.NrmB.join ha hl hm
  rw [if_neg hno] at hj
  exact ⟨rfl, _, hj, by rw [List.map_append, ← List.append_assoc]; exact hR, hK⟩
end Go.Proofs.Ytegponbmelgngaa
