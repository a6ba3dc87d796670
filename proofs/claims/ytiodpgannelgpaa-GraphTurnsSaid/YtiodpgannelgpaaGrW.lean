/-
  The walk of graph.Of.
-/
import Derived.Test.YtiodpgannelgpaaGrV
import Derived.Test.YtiodpgannelgpaaGrE
namespace Go.Proofs.Ytiodpgannelgpaa
open Go.RowKit GM Go.Sort Go.Lib
set_option linter.unusedSimpArgs false
set_option linter.unusedVariables false
set_option maxHeartbeats 4000000
set_option maxRecDepth 100000

/-- what is done to the edges: cloned, sorted, compacted: one row of the call's own -/
def ofV (R N : Int) (r : List E) (s : Value) : Value := if chk R N r = 0 then .agg #[.int .i64 R, .int .i64 N, s] else .agg #[.int .i64 0, .int .i64 0, .slice none 0 0]
theorem of_any (R N : Int) (l r : List E) (v : Value) (w : World) (hR : I64 R) (hN : I64 N) (hl : Fits l) (hr : Rd3 w v l) (hL : Least l r) :
    Calls Try.prog 37 #[.int .i64 R, .int .i64 N, v] w fun e w' => ∃ s, e = .returned (.tuple #[ofV R N r s, .int .i64 (chk R N r)]) ∧ OwnS w.heap.size w' s r ∧ Below w.heap.size w w' := by
  have HCL : Hid (∀ W, Below w.heap.size w W → Calls Try.prog 60 #[v] W fun e w' => ∃ v', e = .returned v' ∧ w'.ownsRow W.heap.size 52 3 v' l.length (flatE l) ∧ Below W.heap.size W w') := fun W hb => clone_any l v W hl (hr.below hb)
  have HF : Hid (∀ (g cap : Nat) (w : World), HoldsK encE 3 w g 0 l.toArray → g < w.heap.size →
      Calls Try.prog 73 #[.slice (some ⟨g, 0, none⟩) l.length cap, .func (.func 74) #[] #[]] w fun e w' => e = .returned (.tuple #[]) ∧ ∃ d' : Array E, d'.size = l.length ∧ d'.toList.Perm l ∧ (∀ i j, i < j → j < d'.size → ¬ lt3 d'[j]! d'[i]!) ∧ HoldsK encE 3 w' g 0 d' ∧ w.grownBy w' (some g)) := fun g cap w => sortFunc_any l g cap w hl
  have HCK : Hid (∀ s W, Rd3 W s r → Calls Try.prog 17 #[.agg #[.int .i64 R, .int .i64 N, s]] W fun e w' => e = .returned (.int .i64 (chk R N r)) ∧ Below W.heap.size W w') := fun s W h => check_any R N s r W hR hN h
  have HL := Lib.hid hL
  have HLN := Lib.hid hl
  clear hr hR hN hL hl
  go_enter Try.func37, Try.ntmps37
  go_wp2_with (go_at_call 60; refine (HCL.out _ (below_alloc _ _)).mono ?_; rintro e w1 ⟨v1, rfl, hown, hb⟩; have HO := Lib.hid (And.intro hown hb); clear hown hb)
  have hown := HO.out.1
  have hz1 : w.heap.size + 1 ≤ w1.heap.size := by have := HO.out.2.size; simpa using this
  have X1 : Hid (w1.heap[w.heap.size]? = some (.cells #[.int .i64 0, .int .i64 0, .slice none 0 0] 24 (0, 0))) := (HO.out.2.block _ (by simp)).trans (heap_alloc_new _ _)
  have B1 : Hid (Below w.heap.size w w1) := below_then (below_alloc _ _) HO.out.2
  rcases hown.2 with ⟨rfl, hn⟩ | ⟨g, cap, cur, rfl, hB, hg, hnc, hcm, hcs, htk⟩
  · have hl0 : l = [] := List.length_eq_zero_iff.1 hn
    subst hl0
    have hr0 : r = [] := by
      cases r with
      | nil => rfl
      | cons x r => have := (HL.out.2 x).1 (by simp); simp at this
    subst hr0
    clear hown hn
    go_wp2_with (first | (go_at_call 73; refine (sortFunc_none _ _).mono ?_; rintro e w2 ⟨rfl, rfl⟩) | (go_at_call 77; refine (compact_none _ _).mono ?_; rintro e w3 ⟨rfl, rfl⟩))
    clear HO HF
    go_wp2_with fail
    go_at_call 17
    refine (HCK.out _ _ (Rd3.below (rd3_nil _) (below_alloc _ _))).mono ?_
    rintro e w4 ⟨rfl, hb4⟩
    have Y0 : w4.heap[w3.heap.size]? = some (.cells #[.int .i64 R, .int .i64 N, .slice none 0 0] 24 (0, 0)) := (hb4.block _ (by simp)).trans (heap_alloc_new _ _)
    have Z0 : w4.heap[w.heap.size]? = some (.cells #[.int .i64 0, .int .i64 0, .slice none 0 0] 24 (0, 0)) := (hb4.block _ (by have := hz1; simp; omega)).trans ((Below.heap_alloc _ _ _ (by have := hz1; omega)).trans X1.out)
    have g0 : w4.cell? ⟨w3.heap.size, 0, none⟩ = some (.int .i64 R) := cell_of Y0 rfl
    have g1 : w4.cell? ⟨w3.heap.size, 1, none⟩ = some (.int .i64 N) := cell_of Y0 rfl
    have g2 : w4.cell? ⟨w3.heap.size, 2, none⟩ = some (.slice none 0 0) := cell_of Y0 rfl
    have z0 : w4.cell? ⟨w.heap.size, 0, none⟩ = some (.int .i64 0) := cell_of Z0 rfl
    have z1 : w4.cell? ⟨w.heap.size, 1, none⟩ = some (.int .i64 0) := cell_of Z0 rfl
    have z2 : w4.cell? ⟨w.heap.size, 2, none⟩ = some (.slice none 0 0) := cell_of Z0 rfl
    have y0 : w4.frozen? ⟨w.heap.size, 0, none⟩ = false := by simp [World.frozen?, Z0]
    have y1 : w4.frozen? ⟨w.heap.size, 1, none⟩ = false := by simp [World.frozen?, Z0]
    have y2 : w4.frozen? ⟨w.heap.size, 2, none⟩ = false := by simp [World.frozen?, Z0]
    have B4 : Hid (Below w.heap.size w w4) := B1.out.trans ((below_then (below_alloc _ _) hb4).mono (by have := hz1; omega))
    have O4 : Hid (OwnS (w.heap.size + 1) w4 (.slice none 0 0) []) := OwnS.below (.inl ⟨rfl, rfl⟩) (below_then (below_alloc _ _) hb4)
    clear hb4 Y0 Z0
    by_cases hq : chk R N [] = 0
    · have HV : Hid (ofV R N [] (.slice none 0 0) = .agg #[.int .i64 R, .int .i64 N, .slice none 0 0]) := if_pos hq
      have HQ := Lib.hid hq
      rw [hq]
      clear hq
      go_wp2
      (try simp only [Exit.inBlock, Exit.then])
      refine bodyPost_ret (v := .tuple #[.agg #[.int .i64 R, .int .i64 N, .slice none 0 0], .int .i64 0]) (by rw [results_cell_tmp rfl]; go_simp) rfl ?_
      exact ⟨_, by rw [HV.out, HQ.out], ((O4.out.setCell (Nat.lt_succ_self _)).setCell (Nat.lt_succ_self _)).setCell (Nat.lt_succ_self _) |>.mono (Nat.le_succ _), ((B4.out.setCell (Nat.le_refl _) _).setCell (Nat.le_refl _) _).setCell (Nat.le_refl _) _⟩
    · have HV : Hid (ofV R N [] (.slice none 0 0) = .agg #[.int .i64 0, .int .i64 0, .slice none 0 0]) := if_neg hq
      have HQ : Hid (∃ q, chk R N [] = q) := ⟨_, rfl⟩
      generalize hz : chk R N [] = q at *
      have hq1 : (q == 0) = false := by simpa using hq
      have hq2 : (q != 0) = true := by simpa using hq
      have HZ := Lib.hid hz
      clear hq hz
      go_wp2
      (try simp only [Exit.inBlock, Exit.then])
      refine bodyPost_ret (v := .tuple #[.agg #[.int .i64 0, .int .i64 0, .slice none 0 0], .int .i64 q]) (by rw [results_cell_tmp rfl]; go_simp) rfl ?_
      exact ⟨_, by rw [HV.out, HZ.out], ((O4.out.setCell (Nat.lt_succ_self _)).setCell (Nat.lt_succ_self _)).setCell (Nat.lt_succ_self _) |>.mono (Nat.le_succ _), ((B4.out.setCell (Nat.le_refl _) _).setCell (Nat.le_refl _) _).setCell (Nat.le_refl _) _⟩
  · have hg1 : g < w1.heap.size := lt_block hg
    have hs := HF.out g cap w1 (holdsE_own hown) hg1
    have HG := Lib.hid (And.intro hB (And.intro hg1 (And.intro hnc hcm)))
    clear hown hg hcs htk hB hg1 hnc hcm
    go_wp2_with (first
      | (go_at_call 73; refine hs.mono ?_; rintro e w2 ⟨rfl, d', hd, hp, hsd, hH2, hgr⟩
         have hc2 := compact_any g 0 cap d' w2 hH2 (by have := HLN.out; unfold Fits at this; omega) (by have := HG.out.2.2.1; omega) (by have := HG.out.2.2.2; unfold maxLen at this; omega) (Nat.lt_of_lt_of_le HG.out.2.1 hgr.size)
         rw [hd] at hc2
         have HX := Lib.hid (And.intro hd (And.intro hp (And.intro hsd hgr)))
         clear hs hp hsd hH2 hgr)
      | (go_at_call 77; refine hc2.mono ?_; rintro e w3 ⟨v3, rfl, hrd, hb3⟩; have HR := Lib.hid (And.intro hrd hb3); obtain ⟨cap3, hv3, _⟩ := hrd; subst hv3; clear hb3 hc2))
    have hrr : pickU (kpE d') d' l.length = r := by
      have h1 := (pick_least d' HX.out.2.2.1).perm HX.out.2.1
      rw [HX.out.1] at h1
      exact h1.unique HL.out
    have hgz : w.heap.size + 1 ≤ g := by have := HG.out.1; simpa using this
    have X3 : Hid (w3.heap[w.heap.size]? = some (.cells #[.int .i64 0, .int .i64 0, .slice none 0 0] 24 (0, 0))) := (HR.out.2.block _ (by omega)).trans ((HX.out.2.2.2.block _ (by omega) (by intro e; cases e; omega)).trans X1.out)
    have O3 : Hid (OwnS (w.heap.size + 1) w3 (.slice (some ⟨g, 0, none⟩) (pickU (kpE d') d' l.length).length cap3) r) := .inr ⟨g, hgz, hrr ▸ HR.out.1⟩
    generalize (pickU (kpE d') d' l.length).length = m3 at *
    have B3 : Hid (Below w.heap.size w w3) := (B1.out.grown HX.out.2.2.2 B1.out.size (fun k hk => by cases hk; omega)).trans (HR.out.2.mono (by omega))
    have hz3 : w.heap.size + 1 ≤ w3.heap.size := by have := HR.out.2.size; have := HX.out.2.2.2.size; omega
    clear HO HF HG HX HR X1 hrr hgz hd
    go_wp2_with fail
    go_at_call 17
    refine (HCK.out _ _ (Rd3.below O3.out.rd (below_alloc _ _))).mono ?_
    rintro e w4 ⟨rfl, hb4⟩
    have Y0 : w4.heap[w3.heap.size]? = some (.cells #[.int .i64 R, .int .i64 N, .slice (some ⟨g, 0, none⟩) m3 cap3] 24 (0, 0)) := (hb4.block _ (by simp)).trans (heap_alloc_new _ _)
    have Z0 : w4.heap[w.heap.size]? = some (.cells #[.int .i64 0, .int .i64 0, .slice none 0 0] 24 (0, 0)) := (hb4.block _ (by have := hz3; simp; omega)).trans ((Below.heap_alloc _ _ _ (by have := hz3; omega)).trans X3.out)
    have g0 : w4.cell? ⟨w3.heap.size, 0, none⟩ = some (.int .i64 R) := cell_of Y0 rfl
    have g1 : w4.cell? ⟨w3.heap.size, 1, none⟩ = some (.int .i64 N) := cell_of Y0 rfl
    have g2 : w4.cell? ⟨w3.heap.size, 2, none⟩ = some (.slice (some ⟨g, 0, none⟩) m3 cap3) := cell_of Y0 rfl
    have z0 : w4.cell? ⟨w.heap.size, 0, none⟩ = some (.int .i64 0) := cell_of Z0 rfl
    have z1 : w4.cell? ⟨w.heap.size, 1, none⟩ = some (.int .i64 0) := cell_of Z0 rfl
    have z2 : w4.cell? ⟨w.heap.size, 2, none⟩ = some (.slice none 0 0) := cell_of Z0 rfl
    have y0 : w4.frozen? ⟨w.heap.size, 0, none⟩ = false := by simp [World.frozen?, Z0]
    have y1 : w4.frozen? ⟨w.heap.size, 1, none⟩ = false := by simp [World.frozen?, Z0]
    have y2 : w4.frozen? ⟨w.heap.size, 2, none⟩ = false := by simp [World.frozen?, Z0]
    have B4 : Hid (Below w.heap.size w w4) := B3.out.trans ((below_then (below_alloc _ _) hb4).mono (by have := hz3; omega))
    have O4 : Hid (OwnS (w.heap.size + 1) w4 (.slice (some ⟨g, 0, none⟩) m3 cap3) r) := OwnS.below O3.out (below_then (below_alloc _ _) hb4)
    clear hb4 Y0 Z0
    by_cases hq : chk R N r = 0
    · have HV : Hid (ofV R N r (.slice (some ⟨g, 0, none⟩) m3 cap3) = .agg #[.int .i64 R, .int .i64 N, .slice (some ⟨g, 0, none⟩) m3 cap3]) := if_pos hq
      have HQ := Lib.hid hq
      rw [hq]
      clear hq
      go_wp2
      (try simp only [Exit.inBlock, Exit.then])
      refine bodyPost_ret (v := .tuple #[.agg #[.int .i64 R, .int .i64 N, .slice (some ⟨g, 0, none⟩) m3 cap3], .int .i64 0]) (by rw [results_cell_tmp rfl]; go_simp) rfl ?_
      exact ⟨_, by rw [HV.out, HQ.out], ((O4.out.setCell (Nat.lt_succ_self _)).setCell (Nat.lt_succ_self _)).setCell (Nat.lt_succ_self _) |>.mono (Nat.le_succ _), ((B4.out.setCell (Nat.le_refl _) _).setCell (Nat.le_refl _) _).setCell (Nat.le_refl _) _⟩
    · have HV : Hid (ofV R N r (.slice (some ⟨g, 0, none⟩) m3 cap3) = .agg #[.int .i64 0, .int .i64 0, .slice none 0 0]) := if_neg hq
      have HQ : Hid (∃ q, chk R N r = q) := ⟨_, rfl⟩
      generalize hz : chk R N r = q at *
      have hq1 : (q == 0) = false := by simpa using hq
      have hq2 : (q != 0) = true := by simpa using hq
      have HZ := Lib.hid hz
      clear hq hz
      go_wp2
      (try simp only [Exit.inBlock, Exit.then])
      refine bodyPost_ret (v := .tuple #[.agg #[.int .i64 0, .int .i64 0, .slice none 0 0], .int .i64 q]) (by rw [results_cell_tmp rfl]; go_simp) rfl ?_
      exact ⟨_, by rw [HV.out, HZ.out], ((O4.out.setCell (Nat.lt_succ_self _)).setCell (Nat.lt_succ_self _)).setCell (Nat.lt_succ_self _) |>.mono (Nat.le_succ _), ((B4.out.setCell (Nat.le_refl _) _).setCell (Nat.le_refl _) _).setCell (Nat.le_refl _) _⟩
end Go.Proofs.Ytiodpgannelgpaa
