/-
  The walk of Parse.
-/
import Derived.Test.YtiiojkekcnmddaaDoorPlG
import Derived.Test.YtiiojkekcnmddaaDoorPlH
import Derived.BigQuiet
namespace Go.Proofs.YtiiojkekcnmddaaDoor
open Go.RowKit
set_option linter.unusedSimpArgs false
set_option linter.unusedVariables false
set_option maxHeartbeats 1500000
set_option maxRecDepth 100000

theorem pV_ok (l : List UInt8) : (pV l).1 < 4294967296 ∧ I64 (pV l).2 := by
  have hz : ((0 : Nat), (0 : Int)).1 < 4294967296 ∧ I64 ((0 : Nat), (0 : Int)).2 := ⟨by decide, by constructor <;> decide⟩
  cases h : pr l with
  | none => rw [show pV l = (0, 0) by unfold pV; rw [h]]; exact hz
  | some x =>
    obtain ⟨a, n⟩ := x
    cases hv : vld a n with
    | false => rw [show pV l = (0, 0) by unfold pV; rw [h]; simp [hv]]; exact hz
    | true =>
      rw [show pV l = (a, (n : Int)) by unfold pV; rw [h]; simp [hv]]
      unfold pr at h
      split at h
      · cases hp : pa (T.wordC 47 l) with
        | none => rw [hp] at h; cases h
        | some a' =>
          rw [hp] at h
          obtain ⟨n', _, e⟩ := Option.map_eq_some_iff.1 h
          cases e
          have := vld_in hv
          exact ⟨pa_lt hp, by constructor <;> omega⟩
      · cases h
theorem candR_ok (l : List UInt8) : RuOk (candR l) := by
  have hp := pV_ok (T.wordC 32 (T.restC 32 l))
  unfold candR
  split
  · exact ⟨hp.1, hp.2, atoiV_in _, atoiV_in _⟩
  · exact ⟨hp.1, hp.2, hp.2, hp.2⟩
def zeroR : Ru := (false, (0, 0), 0, 0)
/-- the valid rule with the text l -/
def parR (l : List UInt8) : Option Ru := if chkR (candR l) = 0 ∧ rtxtL (candR l) = l then some (candR l) else none
def parV : Option Ru → Value
  | some r => .tuple #[ruV r, .int .i64 0]
  | none => .tuple #[ruV zeroR, .int .i64 2]
theorem bs_eq (l m : List UInt8) : ((bs l).toList == (bs m).toList) = decide (l = m) := by
  rw [ByteArray.toList_eq, ByteArray.toList_eq, bs_list, bs_list]
  by_cases h : l = m
  · rw [h]; simp
  · rw [decide_eq_false h]; exact beq_false_of_ne h
theorem parse19_any (l : List UInt8) (hl : l.length ≤ 100000) (w : World) (hT : Lt w) :
    Calls Tryd.prog 19 #[.string (bs l)] w fun e w' => e = .returned (parV (parR l)) ∧ Below w.heap.size w w' := by
  have HC : Hid (∀ W, Below w.heap.size w W → Calls Tryd.prog 34 #[.string (bs l)] W fun e w' => e = .returned (ruV (candR l)) ∧ Below W.heap.size W w') := fun W hW => cand_any l hl W (hT.below hW)
  have HX : Hid (∀ W, Below w.heap.size w W → Calls Tryd.prog 17 #[ruV (candR l)] W fun e w' => e = .returned (txV (candR l)) ∧ Below W.heap.size W w') := fun W hW => text19_any _ (candR_ok l) W (hT.below hW).tab
  clear hT
  by_cases h0 : chkR (candR l) = 0
  · have e1 : txV (candR l) = .tuple #[.string (bs (rtxtL (candR l))), .int .i64 0] := by unfold txV; rw [if_pos h0, h0]
    rw [e1] at HX
    by_cases h1 : rtxtL (candR l) = l
    · have HV : Hid (parR l = some (candR l)) := if_pos ⟨h0, h1⟩
      have hz := bs_eq (rtxtL (candR l)) l
      rw [decide_eq_true h1] at hz
      generalize bs (rtxtL (candR l)) = T1 at *
      clear h0 h1 e1
      generalize candR l = r at *
      obtain ⟨pm, ⟨a, n⟩, mn, mx⟩ := r
      generalize hL : bs l = L at *
      go_enter Tryd.func19, Tryd.ntmps19
      go_wp2_with fail
      go_at_call 34
      refine (HC.out _ (below_alloc _ _)).mono ?_
      rintro e w1 ⟨rfl, h1⟩
      have B1 := below_then (below_alloc w _) h1
      have s0 : w.heap.size < w1.heap.size := by have := h1.size; simp at this; omega
      obtain ⟨hc1, hf1⟩ := bcell h1
      have x0 : w1.cell? ⟨w.heap.size, 0, none⟩ = some (.bool false) := by rw [hc1 _ _ (by simp)]; go_simp
      have x1 : w1.cell? ⟨w.heap.size, 1, none⟩ = some (.int .u32 0) := by rw [hc1 _ _ (by simp)]; go_simp
      have x2 : w1.cell? ⟨w.heap.size, 2, none⟩ = some (.int .i64 0) := by rw [hc1 _ _ (by simp)]; go_simp
      have x3 : w1.cell? ⟨w.heap.size, 3, none⟩ = some (.int .i64 0) := by rw [hc1 _ _ (by simp)]; go_simp
      have x4 : w1.cell? ⟨w.heap.size, 4, none⟩ = some (.int .i64 0) := by rw [hc1 _ _ (by simp)]; go_simp
      go_wp2_with fail
      go_at_call 17
      refine (HX.out _ (below_then B1 (below_alloc _ _))).mono ?_
      rintro e w2 ⟨rfl, h2⟩
      have B2 := below_then (below_then B1 (below_alloc _ _)) h2
      have D2 : Below w1.heap.size w1 w2 := below_then (below_alloc _ _) h2
      have s1 : w1.heap.size < w2.heap.size := by have := h2.size; simp at this; omega
      have t0 : w.heap.size < w2.heap.size := by omega
      obtain ⟨hc2, hf2⟩ := bcell h2
      have y0 := carry4 D2 x0
      have y1 := carry4 D2 x1
      have y2 := carry4 D2 x2
      have y3 := carry4 D2 x3
      have y4 := carry4 D2 x4
      have n0 : ¬ w.heap.size = w1.heap.size := by omega
      have n1 : ¬ w1.heap.size = w.heap.size := by omega
      go_wp2_with fail
      refine bodyPost_ret (v := .tuple #[ruV (pm, (a, n), mn, mx), .int .i64 0]) (by simp [results, Tryd.results19, go_sem, y0, y1, y2, y3, y4, n0, n1, t0]) rfl ⟨by rw [HV.out]; rfl, ?_⟩
      exact ((((B2.setCell (by simp) _).setCell (by simp) _).setCell (by simp) _).setCell (by simp) _).setCell (by simp) _
    · have HV : Hid (parR l = none) := if_neg (fun h => h1 h.2)
      have hz := bs_eq (rtxtL (candR l)) l
      rw [decide_eq_false h1] at hz
      generalize bs (rtxtL (candR l)) = T1 at *
      clear h0 h1 e1
      generalize candR l = r at *
      obtain ⟨pm, ⟨a, n⟩, mn, mx⟩ := r
      generalize hL : bs l = L at *
      go_enter Tryd.func19, Tryd.ntmps19
      go_wp2_with fail
      go_at_call 34
      refine (HC.out _ (below_alloc _ _)).mono ?_
      rintro e w1 ⟨rfl, h1⟩
      have B1 := below_then (below_alloc w _) h1
      have s0 : w.heap.size < w1.heap.size := by have := h1.size; simp at this; omega
      obtain ⟨hc1, hf1⟩ := bcell h1
      have x0 : w1.cell? ⟨w.heap.size, 0, none⟩ = some (.bool false) := by rw [hc1 _ _ (by simp)]; go_simp
      have x1 : w1.cell? ⟨w.heap.size, 1, none⟩ = some (.int .u32 0) := by rw [hc1 _ _ (by simp)]; go_simp
      have x2 : w1.cell? ⟨w.heap.size, 2, none⟩ = some (.int .i64 0) := by rw [hc1 _ _ (by simp)]; go_simp
      have x3 : w1.cell? ⟨w.heap.size, 3, none⟩ = some (.int .i64 0) := by rw [hc1 _ _ (by simp)]; go_simp
      have x4 : w1.cell? ⟨w.heap.size, 4, none⟩ = some (.int .i64 0) := by rw [hc1 _ _ (by simp)]; go_simp
      go_wp2_with fail
      go_at_call 17
      refine (HX.out _ (below_then B1 (below_alloc _ _))).mono ?_
      rintro e w2 ⟨rfl, h2⟩
      have B2 := below_then (below_then B1 (below_alloc _ _)) h2
      have D2 : Below w1.heap.size w1 w2 := below_then (below_alloc _ _) h2
      have s1 : w1.heap.size < w2.heap.size := by have := h2.size; simp at this; omega
      have t0 : w.heap.size < w2.heap.size := by omega
      obtain ⟨hc2, hf2⟩ := bcell h2
      have y0 := carry4 D2 x0
      have y1 := carry4 D2 x1
      have y2 := carry4 D2 x2
      have y3 := carry4 D2 x3
      have y4 := carry4 D2 x4
      have n0 : ¬ w.heap.size = w1.heap.size := by omega
      have n1 : ¬ w1.heap.size = w.heap.size := by omega
      go_wp2_with fail
      refine bodyPost_ret (v := .tuple #[ruV zeroR, .int .i64 2]) (by simp [results, Tryd.results19, go_sem, y0, y1, y2, y3, y4, n0, n1, t0, zeroR]) rfl ⟨by rw [HV.out]; rfl, ?_⟩
      exact ((((B2.setCell (by simp) _).setCell (by simp) _).setCell (by simp) _).setCell (by simp) _).setCell (by simp) _
  · have HV : Hid (parR l = none) := if_neg (fun h => h0 h.1)
    have e1 : txV (candR l) = .tuple #[.string ⟨#[]⟩, .int .i64 (chkR (candR l))] := by unfold txV; rw [if_neg h0]; rfl
    rw [e1] at HX
    have hz : (chkR (candR l) == 0) = false := by simpa using h0
    generalize chkR (candR l) = cz at *
    clear h0 e1
    generalize candR l = r at *
    obtain ⟨pm, ⟨a, n⟩, mn, mx⟩ := r
    generalize hL : bs l = L at *
    go_enter Tryd.func19, Tryd.ntmps19
    go_wp2_with fail
    go_at_call 34
    refine (HC.out _ (below_alloc _ _)).mono ?_
    rintro e w1 ⟨rfl, h1⟩
    have B1 := below_then (below_alloc w _) h1
    have s0 : w.heap.size < w1.heap.size := by have := h1.size; simp at this; omega
    obtain ⟨hc1, hf1⟩ := bcell h1
    have x0 : w1.cell? ⟨w.heap.size, 0, none⟩ = some (.bool false) := by rw [hc1 _ _ (by simp)]; go_simp
    have x1 : w1.cell? ⟨w.heap.size, 1, none⟩ = some (.int .u32 0) := by rw [hc1 _ _ (by simp)]; go_simp
    have x2 : w1.cell? ⟨w.heap.size, 2, none⟩ = some (.int .i64 0) := by rw [hc1 _ _ (by simp)]; go_simp
    have x3 : w1.cell? ⟨w.heap.size, 3, none⟩ = some (.int .i64 0) := by rw [hc1 _ _ (by simp)]; go_simp
    have x4 : w1.cell? ⟨w.heap.size, 4, none⟩ = some (.int .i64 0) := by rw [hc1 _ _ (by simp)]; go_simp
    go_wp2_with fail
    go_at_call 17
    refine (HX.out _ (below_then B1 (below_alloc _ _))).mono ?_
    rintro e w2 ⟨rfl, h2⟩
    have B2 := below_then (below_then B1 (below_alloc _ _)) h2
    have D2 : Below w1.heap.size w1 w2 := below_then (below_alloc _ _) h2
    have s1 : w1.heap.size < w2.heap.size := by have := h2.size; simp at this; omega
    have t0 : w.heap.size < w2.heap.size := by omega
    obtain ⟨hc2, hf2⟩ := bcell h2
    have y0 := carry4 D2 x0
    have y1 := carry4 D2 x1
    have y2 := carry4 D2 x2
    have y3 := carry4 D2 x3
    have y4 := carry4 D2 x4
    have n0 : ¬ w.heap.size = w1.heap.size := by omega
    have n1 : ¬ w1.heap.size = w.heap.size := by omega
    have hzn : ¬ cz = 0 := by simpa using hz
    go_wp2_with fail
    refine bodyPost_ret (v := .tuple #[ruV zeroR, .int .i64 2]) (by simp [results, Tryd.results19, go_sem, y0, y1, y2, y3, y4, n0, n1, t0, zeroR]) rfl ⟨by rw [HV.out]; rfl, ?_⟩
    exact ((((B2.setCell (by simp) _).setCell (by simp) _).setCell (by simp) _).setCell (by simp) _).setCell (by simp) _
end Go.Proofs.YtiiojkekcnmddaaDoor
