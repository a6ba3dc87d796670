/-
  The walks of the laws on Apply.
-/
import Derived.Test.YtiodpgannelgpaaGrRq
import Derived.Test.YtiodpgannelgpaaGrRO
namespace Go.Proofs.Ytiodpgannelgpaa
open Go.RowKit GM Go.Sort
set_option linter.unusedSimpArgs false
set_option linter.unusedVariables false
set_option maxHeartbeats 4000000
set_option maxRecDepth 100000

theorem rapply_bad (R N : Int) (l cs : List E) (s v : Value) (w : World) (hR : I64 R) (hN : I64 N) (hr : Rd3 w s l) (hv : Rd3 w v cs) (hF : FitT l) (hq : chk R N l ≠ 0) :
    Calls Try.prog 26 #[.agg #[.int .i64 R, .int .i64 N, s], v] w fun e w' => e = .returned (.tuple #[.agg #[.int .i64 0, .int .i64 0, .slice none 0 0], .int .i64 (chk R N l)]) ∧ Below w.heap.size w w' := by
  have HC : Hid (∀ W, Below w.heap.size w W → Calls Try.prog 18 #[.agg #[.int .i64 R, .int .i64 N, s]] W fun e w' => e = .returned (.int .i64 (chk R N l)) ∧ Below W.heap.size W w') := fun W hW => rcheck_any R N s l W hR hN (hr.below hW) hF
  obtain ⟨ad, cap, rfl⟩ := rd3_slice hr
  obtain ⟨va, vc, rfl⟩ := rd3_slice hv
  generalize chk R N l = q at *
  have hq1 : (q == 0) = false := by simpa using hq
  have hq2 : (q != 0) = true := by simpa using hq
  have HB0 : Hid (Below w.heap.size w ((w.alloc (.cells #[.int .i64 R, .int .i64 N, .slice ad l.length cap] 24)).alloc (.cells #[.int .i64 0, .int .i64 0, .slice none 0 0] 24)) ∧ ((w.alloc (.cells #[.int .i64 R, .int .i64 N, .slice ad l.length cap] 24)).alloc (.cells #[.int .i64 0, .int .i64 0, .slice none 0 0] 24)).heap[w.heap.size + 1]? = some (.cells #[.int .i64 0, .int .i64 0, .slice none 0 0] 24 (0, 0))) := by
    refine ⟨below_two _ _ _, ?_⟩
    have := heap_alloc_new (w.alloc (.cells #[.int .i64 R, .int .i64 N, .slice ad l.length cap] 24)) (.cells #[.int .i64 0, .int .i64 0, .slice none 0 0] 24)
    rwa [show (w.alloc _).heap.size = w.heap.size + 1 by simp] at this
  clear hr hv hq hR hN hF
  go_enter Try.func26, Try.ntmps26
  go_wp2_with fail
  go_at_call 18
  refine (HC.out _ HB0.out.1).mono ?_
  rintro e w1 ⟨rfl, hb1⟩
  have hz := (hb1.block _ (lt_block HB0.out.2)).trans HB0.out.2
  have z0 : w1.cell? ⟨w.heap.size + 1, 0, none⟩ = some (.int .i64 0) := cell_of hz rfl
  have z1 : w1.cell? ⟨w.heap.size + 1, 1, none⟩ = some (.int .i64 0) := cell_of hz rfl
  have z2 : w1.cell? ⟨w.heap.size + 1, 2, none⟩ = some (.slice none 0 0) := cell_of hz rfl
  have y0 : w1.frozen? ⟨w.heap.size + 1, 0, none⟩ = false := free_of hz _
  have y1 : w1.frozen? ⟨w.heap.size + 1, 1, none⟩ = false := free_of hz _
  have y2 : w1.frozen? ⟨w.heap.size + 1, 2, none⟩ = false := free_of hz _
  have HB1 := Lib.hid (below_then HB0.out.1 hb1)
  clear hb1 hz
  go_wp2
  (try simp only [Exit.inBlock, Exit.then])
  refine bodyPost_ret (v := .tuple #[.agg #[.int .i64 0, .int .i64 0, .slice none 0 0], .int .i64 q]) (by rw [results_cell_tmp rfl]; go_simp) rfl ?_
  exact ⟨rfl, ((HB1.out.setCell (by show _ ≤ w.heap.size + 1; omega) _).setCell (by show _ ≤ w.heap.size + 1; omega) _).setCell (by show _ ≤ w.heap.size + 1; omega) _⟩
theorem rapply_any (R N : Int) (l cs : List E) (s v : Value) (w : World) (hR : I64 R) (hN : I64 N) (hr : Rd3 w s l) (hv : Rd3 w v cs) (hF : FitT l) (hFc : FitT cs) :
    Calls Try.prog 26 #[.agg #[.int .i64 R, .int .i64 N, s], v] w fun e w' => ∃ s', e = .returned (.tuple #[grV R N (apR R N l cs).1 s', .int .i64 (apR R N l cs).1]) ∧ ((apR R N l cs).1 = 0 → Rd3 w' s' (apR R N l cs).2) ∧ Below w.heap.size w w' := by
  by_cases hq : chk R N l = 0
  · have e : apR R N l cs = apF R N l cs := if_pos hq
    rw [e]; exact rapply_good R N l cs s v w hR hN hr hv hF hFc hq
  · have e : apR R N l cs = (chk R N l, []) := if_neg hq
    rw [e]
    refine (rapply_bad R N l cs s v w hR hN hr hv hF hq).mono ?_
    rintro e w' ⟨rfl, hb⟩
    exact ⟨.slice none 0 0, by unfold grV; rw [if_neg hq], fun h => absurd h hq, hb⟩
theorem applies_walk (R N : Int) (l : List E) (s : Value) (cs : List E) (v : Value) (w : World) (hR : I64 R) (hN : I64 N) (hl : Fits l) (hr : Rd3 w s l) (hF : FitT l) (hlc : Fits cs) (hv : Rd3 w v cs) (hFc : FitT cs) :
    Calls Try.prog 5 #[.agg #[.int .i64 R, .int .i64 N, s], v] w fun e w' => e = .returned (.bool true) ∧ Below w.heap.size w w' := by
  have H25 : Hid (∀ W, Below w.heap.size w W → Calls Try.prog 25 #[.agg #[.int .i64 R, .int .i64 N, s], v] W fun e w' => ∃ s', e = .returned (.tuple #[grV R N (apR R N l cs).1 s', .int .i64 (apR R N l cs).1]) ∧ ((apR R N l cs).1 = 0 → Rd3 w' s' (apR R N l cs).2) ∧ Below W.heap.size W w') := fun W hW => apply_any R N l cs s v W hR hN (hr.below hW) (hv.below hW)
  have H26 : Hid (∀ W, Below w.heap.size w W → Calls Try.prog 26 #[.agg #[.int .i64 R, .int .i64 N, s], v] W fun e w' => ∃ s', e = .returned (.tuple #[grV R N (apR R N l cs).1 s', .int .i64 (apR R N l cs).1]) ∧ ((apR R N l cs).1 = 0 → Rd3 w' s' (apR R N l cs).2) ∧ Below W.heap.size W w') := fun W hW => rapply_any R N l cs s v W hR hN (hr.below hW) (hv.below hW) hF hFc
  obtain ⟨ad, cap, rfl⟩ := rd3_slice hr
  obtain ⟨va, vc, rfl⟩ := rd3_slice hv
  clear hr hF hR hN hl hlc hv hFc
  generalize apR R N l cs = qr at *
  obtain ⟨q, r⟩ := qr
  dsimp only at H25 H26
  by_cases hq : q = 0
  · have HV : Hid (∀ s, grV R N q s = .agg #[.int .i64 R, .int .i64 N, s]) := fun s => if_pos hq
    subst hq
    go_enter Try.func5, Try.ntmps5
    go_wp2_with fail
    go_at_call 25
    refine (H25.out _ (below_alloc _ _)).mono ?_
    rintro e w1 ⟨s1, rfl, hs1, hb1⟩
    rw [HV.out]
    obtain ⟨g0, g1, g2, hb1'⟩ := holdG_below (R := R) (N := N) (s := .slice ad l.length cap) ⟨by simp, by simp, by simp, below_alloc _ _⟩ hb1
    have hs1 := hs1 (by first | rfl | simp)
    obtain ⟨ad1, cap1, rfl⟩ := rd3_slice hs1
    have HS1 := Lib.hid hs1
    have HB1 := Lib.hid hb1'
    have g0a : ∀ o, (w1.alloc o).cell? ⟨w.heap.size, 0, none⟩ = some (.int .i64 R) := fun o => Lib.cell?_alloc_some _ g0
    have g1a : ∀ o, (w1.alloc o).cell? ⟨w.heap.size, 1, none⟩ = some (.int .i64 N) := fun o => Lib.cell?_alloc_some _ g1
    have g2a : ∀ o, (w1.alloc o).cell? ⟨w.heap.size, 2, none⟩ = some (.slice ad l.length cap) := fun o => Lib.cell?_alloc_some _ g2
    clear hs1 hb1 hb1' g0 g1 g2
    go_wp2_with fail
    have HX1 : Hid ((w1.alloc (.cells #[.int .i64 R, .int .i64 N, .slice ad1 r.length cap1] 24)).heap[w1.heap.size]? = some (.cells #[.int .i64 R, .int .i64 N, .slice ad1 r.length cap1] 24 (0, 0))) := heap_alloc_new _ _
    have HB2 : Hid (Below w1.heap.size w1 (w1.alloc (.cells #[.int .i64 R, .int .i64 N, .slice ad1 r.length cap1] 24))) := below_alloc _ _
    clear g0a g1a g2a
    generalize w1.alloc (.cells #[.int .i64 R, .int .i64 N, .slice ad1 r.length cap1] 24) = W2 at *
    go_at_call 26
    refine (H26.out _ (below_then HB1.out HB2.out)).mono ?_
    rintro e w3 ⟨s3, rfl, hs3, hb3⟩
    rw [HV.out]
    have hs3 := hs3 (by first | rfl | simp)
    obtain ⟨ad3, cap3, rfl⟩ := rd3_slice hs3
    have HS3 := Lib.hid hs3
    have HB3 := Lib.hid hb3
    have HX3 : Hid (w3.heap[w1.heap.size]? = some (.cells #[.int .i64 R, .int .i64 N, .slice ad1 r.length cap1] 24 (0, 0))) := (hb3.block _ (lt_block HX1.out)).trans HX1.out
    have g0 : ∀ o, (w3.alloc o).cell? ⟨w1.heap.size, 0, none⟩ = some (.int .i64 R) := fun o => Lib.cell?_alloc_some _ (cell_of HX3.out rfl)
    have g1 : ∀ o, (w3.alloc o).cell? ⟨w1.heap.size, 1, none⟩ = some (.int .i64 N) := fun o => Lib.cell?_alloc_some _ (cell_of HX3.out rfl)
    have g2 : ∀ o, (w3.alloc o).cell? ⟨w1.heap.size, 2, none⟩ = some (.slice ad1 r.length cap1) := fun o => Lib.cell?_alloc_some _ (cell_of HX3.out rfl)
    clear hs3 hb3
    go_wp2_with fail
    go_at_call 27
    refine (same27_any R N r _ _ _ (((HS1.out.below HB2.out).below HB3.out).below (below_alloc _ _)) (HS3.out.below (below_alloc _ _))).mono ?_
    rintro e w5 ⟨rfl, hb5⟩
    have HB5 := Lib.hid (below_then (below_then HB1.out HB2.out) (below_then HB3.out (below_then (below_alloc _ _) hb5)))
    clear hb5 g0 g1 g2
    go_wp2_with (go_at_call 19; refine (lives_any _).mono ?_; rintro e w6 ⟨rfl, hb6⟩; have HB6 := Lib.hid hb6; clear hb6)
    go_ret
    exact ⟨rfl, below_then HB5.out HB6.out⟩
  · have HV : Hid (∀ s, grV R N q s = .agg #[.int .i64 0, .int .i64 0, .slice none 0 0]) := fun s => if_neg hq
    have hq1 : (q == q) = true := by simp
    clear hq
    go_enter Try.func5, Try.ntmps5
    go_wp2_with fail
    go_at_call 25
    refine (H25.out _ (below_alloc _ _)).mono ?_
    rintro e w1 ⟨s1, rfl, hs1, hb1⟩
    rw [HV.out]
    obtain ⟨g0, g1, g2, hb1'⟩ := holdG_below (R := R) (N := N) (s := .slice ad l.length cap) ⟨by simp, by simp, by simp, below_alloc _ _⟩ hb1
    have HB1 := Lib.hid hb1'
    have g0a : ∀ o, (w1.alloc o).cell? ⟨w.heap.size, 0, none⟩ = some (.int .i64 R) := fun o => Lib.cell?_alloc_some _ g0
    have g1a : ∀ o, (w1.alloc o).cell? ⟨w.heap.size, 1, none⟩ = some (.int .i64 N) := fun o => Lib.cell?_alloc_some _ g1
    have g2a : ∀ o, (w1.alloc o).cell? ⟨w.heap.size, 2, none⟩ = some (.slice ad l.length cap) := fun o => Lib.cell?_alloc_some _ g2
    clear hs1 hb1 hb1' g0 g1 g2
    go_wp2_with fail
    have HX1 : Hid ((w1.alloc (.cells #[.int .i64 0, .int .i64 0, .slice none 0 0] 24)).heap[w1.heap.size]? = some (.cells #[.int .i64 0, .int .i64 0, .slice none 0 0] 24 (0, 0))) := heap_alloc_new _ _
    have HB2 : Hid (Below w1.heap.size w1 (w1.alloc (.cells #[.int .i64 0, .int .i64 0, .slice none 0 0] 24))) := below_alloc _ _
    clear g0a g1a g2a
    generalize w1.alloc (.cells #[.int .i64 0, .int .i64 0, .slice none 0 0] 24) = W2 at *
    go_at_call 26
    refine (H26.out _ (below_then HB1.out HB2.out)).mono ?_
    rintro e w3 ⟨s3, rfl, hs3, hb3⟩
    rw [HV.out]
    have HB3 := Lib.hid hb3
    have HX3 : Hid (w3.heap[w1.heap.size]? = some (.cells #[.int .i64 0, .int .i64 0, .slice none 0 0] 24 (0, 0))) := (hb3.block _ (lt_block HX1.out)).trans HX1.out
    have g0 : ∀ o, (w3.alloc o).cell? ⟨w1.heap.size, 0, none⟩ = some (.int .i64 0) := fun o => Lib.cell?_alloc_some _ (cell_of HX3.out rfl)
    have g1 : ∀ o, (w3.alloc o).cell? ⟨w1.heap.size, 1, none⟩ = some (.int .i64 0) := fun o => Lib.cell?_alloc_some _ (cell_of HX3.out rfl)
    have g2 : ∀ o, (w3.alloc o).cell? ⟨w1.heap.size, 2, none⟩ = some (.slice none 0 0) := fun o => Lib.cell?_alloc_some _ (cell_of HX3.out rfl)
    clear hs3 hb3
    go_wp2_with fail
    go_at_call 27
    refine (same27_any 0 0 [] _ _ _ (rd3_nil _) (rd3_nil _)).mono ?_
    rintro e w5 ⟨rfl, hb5⟩
    have HB5 := Lib.hid (below_then (below_then HB1.out HB2.out) (below_then HB3.out (below_then (below_alloc _ _) hb5)))
    clear hb5 g0 g1 g2
    go_wp2_with (go_at_call 19; refine (lives_any _).mono ?_; rintro e w6 ⟨rfl, hb6⟩; have HB6 := Lib.hid hb6; clear hb6)
    go_ret
    exact ⟨rfl, below_then HB5.out HB6.out⟩
end Go.Proofs.Ytiodpgannelgpaa
