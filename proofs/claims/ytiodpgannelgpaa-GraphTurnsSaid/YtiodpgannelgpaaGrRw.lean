/-
  Whole rows of edges; copies into them; the library's Insert and Delete at edges.
-/
import Derived.Test.YtiodpgannelgpaaGrPu
import Derived.Shelf.Spec.SlicesInsert
import Derived.Lib.AppendZerosOnto
namespace Go.Proofs.Ytiodpgannelgpaa
open Go.RowKit GM Go.Sort
set_option linter.unusedSimpArgs false
set_option linter.unusedVariables false
set_option maxHeartbeats 4000000
set_option maxRecDepth 100000

/-- block g is a row of edges with just these cells -/
def Row (W : World) (g : Nat) (xs : List Value) : Prop := W.heap[g]? = some (.cells xs.toArray 52 (0, 0))
theorem Row.sets : ∀ (vs : List Value) {W : World} {g : Nat} {a b c : List Value}, b.length = vs.length → Row W g (a ++ b ++ c) → Row (W.setCells g a.length vs) g (a ++ vs ++ c)
  | [], W, g, a, b, c, hb, h => by
    have : b = [] := List.length_eq_zero_iff.1 hb
    subst this; exact h
  | v :: vs, W, g, a, [], c, hb, h => by simp at hb
  | v :: vs, W, g, a, b0 :: b, c, hb, h => by
    have h1 : Row (W.setCell ⟨g, a.length, none⟩ v) g ((a ++ [v]) ++ b ++ c) := by
      unfold Row at h ⊢
      rw [heap_set_eq h]
      congr 2
      simp
    have h2 := Row.sets vs (a := a ++ [v]) (by simpa using hb) h1
    have e : (a ++ [v]).length = a.length + 1 := by simp
    rw [e] at h2
    have e2 : a ++ v :: vs ++ c = a ++ [v] ++ vs ++ c := by simp
    rw [e2]; exact h2
theorem Row.cell {W : World} {g : Nat} {xs : List Value} (h : Row W g xs) (j : Nat) : W.cell? ⟨g, j, none⟩ = xs[j]? := by
  unfold Row at h; simp [World.cell?, h]
theorem Row.free {W : World} {g : Nat} {xs : List Value} (h : Row W g xs) (j : Nat) : W.frozen? ⟨g, j, none⟩ = false := free_of h j
theorem own_row {B g cap : Nat} {W : World} {l : List E} {xs : List Value} (h : Row W g xs) (hB : B ≤ g) (hx : xs.length = cap * 3) (hn : l.length ≤ cap) (hm : cap ≤ maxLen) (ht : xs.take (l.length * 3) = flatE l) : OwnL B W (.slice (some ⟨g, 0, none⟩) l.length cap) l :=
  ⟨by rw [flatE_len], .inr ⟨g, cap, xs.toArray, rfl, hB, h, hn, hm, by simpa using hx, by simpa using ht⟩⟩
theorem row_own {B g cap n : Nat} {W : World} {l : List E} (h : OwnL B W (.slice (some ⟨g, 0, none⟩) n cap) l) : n = l.length ∧ ∃ sp, Row W g (flatE l ++ sp) ∧ B ≤ g ∧ (flatE l ++ sp).length = cap * 3 ∧ l.length ≤ cap ∧ cap ≤ maxLen := by
  rcases h.2 with ⟨h', _⟩ | ⟨g', cap', cur, h', hb, hg, hnc, hcm, hcs, htake⟩
  · cases h'
  · injection h' with e1 e2 e3
    injection e1 with e1
    injection e1 with e1 _ _
    subst e1 e2 e3
    have e : cur.toList = flatE l ++ cur.toList.drop (l.length * 3) := by rw [← htake, List.take_append_drop]
    have e' : cur = (flatE l ++ cur.toList.drop (l.length * 3)).toArray := by rw [← e]
    refine ⟨rfl, cur.toList.drop (l.length * 3), ?_, hb, ?_, hnc, hcm⟩
    · unfold Row
      rw [← e']; exact hg
    · rw [← e]; simpa using hcs
theorem flatE_app (a b : List E) : flatE (a ++ b) = flatE a ++ flatE b := by unfold flatE; simp
theorem flatE_cons (x : E) (b : List E) : flatE (x :: b) = encE x ++ flatE b := by unfold flatE; simp
/-- copy of m elements of three cells -/
theorem run_copyE (w : World) (ty : TypeId) (b o dLen dCap : Nat) (a : Addr) (sLen sCap m : Nat) (cs : List Value) (hm : Nat.min sLen dLen = m) (hn : cs.length = m * 3)
    (hsrc : ∀ j v, cs[j]? = some v → w.cell? (a.add j) = some v) (hc : ∀ j, j < cs.length → (w.cell? ⟨b, o + j, none⟩).isSome = true) (hf : ∀ j, j < cs.length → w.frozen? ⟨b, o + j, none⟩ = false) (h1 : ∀ v ∈ cs, v.oneCell' = true) :
    (Builtin.copy_ #[22, 22] ty #[.slice (some ⟨b, o, none⟩) dLen dCap, .slice (some a) sLen sCap]).run Try.prog w = .ok (goInt m) (w.setCells b o cs) := by
  obtain ⟨i0, hi, hz0, hz1, hz2⟩ := infoE_parts info52
  have hl := run_loadCells_list (P := Try.prog) w a cs hsrc
  have hst := run_storeCells_cells (P := Try.prog) b o cs 0 w (by simpa using hc) (by simpa using hf) h1
  rw [hn] at hl
  simp [Builtin.copy_, run_underlying Try.underlying22, Builtin.lenOf, Builtin.firstCells, sizeOf, typeInfo, hi, hz1, hm, hl, hst]
end Go.Proofs.Ytiodpgannelgpaa
