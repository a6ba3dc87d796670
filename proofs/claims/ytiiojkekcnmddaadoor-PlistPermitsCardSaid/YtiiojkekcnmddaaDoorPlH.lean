/-
  The walk of candidate.
-/
import Derived.Test.YtiiojkekcnmddaaDoorPlE
import Derived.Lib.AtoiErrMem
import Derived.BigQuiet
namespace Go.Proofs.YtiiojkekcnmddaaDoor
open Go.RowKit
set_option linter.unusedSimpArgs false
set_option linter.unusedVariables false
set_option maxHeartbeats 1500000
set_option maxRecDepth 100000

theorem gSyn : Tryd.prog.globalNamed "strconv.ErrSyntax" = some 2 := by kernel_rfl
theorem gRng : Tryd.prog.globalNamed "strconv.ErrRange" = some 3 := by kernel_rfl
/-- what the library's variables hold -/
structure Lt (w : World) : Prop where
  tab : Tab w
  syn : ∃ tp p, w.var? Tryd.prog "strconv.ErrSyntax" = some #[.iface tp p]
  rng : ∃ tp p, w.var? Tryd.prog "strconv.ErrRange" = some #[.iface tp p]
theorem var_keep {w w' : World} {n : String} {g : Nat} {tp : TypeId} {p : Value} (hg : Tryd.prog.globalNamed n = some g) (h : w.var? Tryd.prog n = some #[.iface tp p]) (hb : Below w.heap.size w w') : w'.var? Tryd.prog n = some #[.iface tp p] :=
  var?_below hb hg (World.block_lt_of_cell? _ _ (show w.cell? ⟨g, 0, none⟩ = some (.iface tp p) by have h0 := World.var?_cell hg h 0; simpa using h0)) h
theorem Lt.below {w w' : World} (h : Lt w) (hb : Below w.heap.size w w') : Lt w' := by
  obtain ⟨h1, ⟨t2, p2, h2⟩, ⟨t3, p3, h3⟩⟩ := h
  exact ⟨tab_below h1 hb, ⟨t2, p2, var_keep gSyn h2 hb⟩, ⟨t3, p3, var_keep gRng h3 hb⟩⟩
def atoiV (l : List UInt8) : Int := match Lib.atoiAll l with
  | .ok v => v
  | .range => Lib.atoiSat l
  | _ => 0
theorem atoiV_in (l : List UInt8) : I64 (atoiV l) := by
  unfold atoiV
  cases h : Lib.atoiAll l
  · exact Lib.atoiAll_bounds h
  · constructor <;> simp
  · exact Lib.atoiSat_bounds l
theorem atoi_any (l : List UInt8) (hl : l.length ≤ 100000) (w : World) (hT : Lt w) :
    Calls Tryd.prog 53 #[.string (bs l)] w fun e w' => ∃ ev, e = .returned (.tuple #[.int .i64 (atoiV l), ev]) ∧ Below w.heap.size w w' := by
  have hs : (bs l).size ≤ 100000 := by rw [bs_size]; exact hl
  have hd : (bs l).data.toList = l := bs_list l
  by_cases hr : Lib.atoiAll l = .range
  · have e : atoiV l = Lib.atoiSat l := by unfold atoiV; rw [hr]
    obtain ⟨tp, p, hv⟩ := hT.rng
    refine (Tryd.strconv_Atoi_range_var (bs l) (by omega) (by rw [hd]; exact hr) tp p w hv).mono ?_
    rintro en w' ⟨N, rfl, _, _, hb⟩
    exact ⟨_, by rw [e, hd], hb⟩
  · by_cases ho : ∃ v, Lib.atoiAll l = .ok v
    · obtain ⟨v, h⟩ := ho
      have e : atoiV l = v := by unfold atoiV; rw [h]
      refine (Tryd.strconv_Atoi_ok (bs l) (by omega) v (by rw [hd]; exact h) w).mono ?_
      rintro en w' ⟨rfl, rfl | ⟨t, rfl⟩⟩
      · exact ⟨_, by rw [e], Below.refl _ _⟩
      · exact ⟨_, by rw [e], Lib.bytesWorld_below _ _ _⟩
    · have e : atoiV l = 0 := by
        unfold atoiV
        cases h : Lib.atoiAll l
        · exact absurd ⟨_, h⟩ ho
        · rfl
        · exact absurd h hr
      obtain ⟨tp, p, hv⟩ := hT.syn
      refine (Tryd.strconv_Atoi_bad_var (bs l) (by omega) (fun v h => ho ⟨v, by rw [← hd]; exact h⟩) (fun h => hr (by rw [← hd]; exact h)) tp p w hv).mono ?_
      rintro en w' ⟨N, rfl, _, _, hb⟩
      exact ⟨_, by rw [e], hb⟩
/-- the prefix that Parse returns -/
def pV (l : List UInt8) : Nat × Int := match pr l with
  | some (a, n) => bif vld a n then (a, (n : Int)) else (0, 0)
  | none => (0, 0)
theorem prV_form (l : List UInt8) : ∃ c : Int, prV (pr l) = .tuple #[.agg #[.int .u32 ((pV l).1 : Int), .int .i64 (pV l).2], .int .i64 c] := by
  unfold pV
  cases h : pr l with
  | none => exact ⟨2, rfl⟩
  | some x =>
    obtain ⟨a, n⟩ := x
    cases hv : vld a n with
    | false => exact ⟨1, by simp [prV, hv]⟩
    | true => exact ⟨0, by simp [prV, hv]⟩
def permitL : List UInt8 := [112, 101, 114, 109, 105, 116]
/-- the only rule that can have the text l -/
def candR (l : List UInt8) : Ru :=
  if (32 : UInt8) ∈ T.restC 32 l then (decide (T.wordC 32 l = permitL), pV (T.wordC 32 (T.restC 32 l)), atoiV (T.wordC 45 (T.restC 32 (T.restC 32 l))), atoiV (T.restC 45 (T.restC 32 (T.restC 32 l))))
  else (decide (T.wordC 32 l = permitL), pV (T.wordC 32 (T.restC 32 l)), (pV (T.wordC 32 (T.restC 32 l))).2, (pV (T.wordC 32 (T.restC 32 l))).2)
theorem eq_word (l : List UInt8) : ((bs l).toList == [112, 101, 114, 109, 105, 116]) = decide (l = permitL) := by
  have e : (bs l).toList = l := by rw [ByteArray.toList_eq, bs_list]
  rw [e]
  by_cases h : l = permitL
  · rw [h]; rfl
  · rw [decide_eq_false h]
    exact beq_false_of_ne h
theorem carry4 {W w1 : World} (hb : Below W.heap.size W w1) {p : Addr} {v : Value} (h : W.cell? p = some v) : w1.cell? p = some v := (hb.cell (World.block_lt_of_cell? _ _ h)).trans h
theorem cand_any (l : List UInt8) (hl : l.length ≤ 100000) (w : World) (hT : Lt w) :
    Calls Tryd.prog 34 #[.string (bs l)] w fun e w' => e = .returned (ruV (candR l)) ∧ Below w.heap.size w w' := by
  have l1 := word_len 32 l
  have l2 := word_len 32 (T.restC 32 l)
  have l3 := word_len 45 (T.restC 32 (T.restC 32 l))
  have HC1 := Lib.hid (cut_any 32 l (by omega))
  have HC2 := Lib.hid (cut_any 32 (T.restC 32 l) (by omega))
  have HC3 := Lib.hid (cut_any 45 (T.restC 32 (T.restC 32 l)) (by omega))
  have HP := Lib.hid (parse_any (T.wordC 32 (T.restC 32 l)) (by omega))
  obtain ⟨cc, hcc⟩ := prV_form (T.wordC 32 (T.restC 32 l))
  rw [hcc] at HP
  have HA : Hid (∀ W, Below w.heap.size w W → Calls Tryd.prog 53 #[.string (bs (T.wordC 45 (T.restC 32 (T.restC 32 l))))] W fun e w' => ∃ ev, e = .returned (.tuple #[.int .i64 (atoiV (T.wordC 45 (T.restC 32 (T.restC 32 l)))), ev]) ∧ Below W.heap.size W w') := fun W hW => atoi_any _ (by omega) W (hT.below hW)
  have HB : Hid (∀ W, Below w.heap.size w W → Calls Tryd.prog 53 #[.string (bs (T.restC 45 (T.restC 32 (T.restC 32 l))))] W fun e w' => ∃ ev, e = .returned (.tuple #[.int .i64 (atoiV (T.restC 45 (T.restC 32 (T.restC 32 l)))), ev]) ∧ Below W.heap.size W w') := fun W hW => atoi_any _ (by omega) W (hT.below hW)
  have HE := Lib.hid exact_any
  have HW := eq_word (T.wordC 32 l)
  by_cases hr : (32 : UInt8) ∈ T.restC 32 l
  · have HV : Hid (candR l = (decide (T.wordC 32 l = permitL), pV (T.wordC 32 (T.restC 32 l)), atoiV (T.wordC 45 (T.restC 32 (T.restC 32 l))), atoiV (T.restC 45 (T.restC 32 (T.restC 32 l))))) := if_pos hr
    rw [decide_eq_true hr] at HC2
    clear l1 l2 l3 hcc hT hr
    generalize pV (T.wordC 32 (T.restC 32 l)) = pp at *
    generalize atoiV (T.wordC 45 (T.restC 32 (T.restC 32 l))) = v1 at *
    generalize atoiV (T.restC 45 (T.restC 32 (T.restC 32 l))) = v2 at *
    generalize decide (T.wordC 32 l = permitL) = pm at *
    generalize T.wordC 45 (T.restC 32 (T.restC 32 l)) = q1 at *
    generalize T.restC 45 (T.restC 32 (T.restC 32 l)) = q2 at *
    generalize T.restC 32 (T.restC 32 l) = q3 at *
    generalize T.wordC 32 (T.restC 32 l) = q4 at *
    generalize T.wordC 32 l = q5 at *
    generalize T.restC 32 l = q6 at *
    go_enter Tryd.func34, Tryd.ntmps34
    go_wp2_with fail
    go_at_call 51
    refine (HC1.out _).mono ?_
    rintro e w1 ⟨rfl, n1, rfl⟩
    go_wp2_with fail
    go_at_call 51
    refine (HC2.out _).mono ?_
    rintro e w1 ⟨rfl, n2, rfl⟩
    go_wp2_with fail
    go_at_call 52
    refine (HP.out _).mono ?_
    rintro e w1 ⟨rfl, h1⟩
    go_wp2_with fail
    go_at_call 30
    refine (HE.out _ _ _ _).mono ?_
    rintro e w2 ⟨rfl, h2⟩
    go_wp2_with fail
    go_at_call 51
    refine (HC3.out _).mono ?_
    rintro e w9 ⟨rfl, n3, rfl⟩
    have B1 : Below w.heap.size w w1 := below_then (w := w) (by first | exact below_alloc _ _ | exact below_drewN (below_alloc _ _) _ | exact below_drewN (below_drewN (below_alloc _ _) _) _) h1
    have B2 : Below w.heap.size w w2 := below_then (below_then B1 (below_alloc _ _)) h2
    have s0 : w.heap.size < w1.heap.size := by have := h1.size; simp at this; omega
    have s1 : w1.heap.size < w2.heap.size := by have := h2.size; simp at this; omega
    obtain ⟨hc1, hf1⟩ := bcell h1
    obtain ⟨hc2, hf2⟩ := bcell h2
    go_wp2_with fail
    go_at_call 53
    refine (HA.out _ (by first | exact below_drewN (below_then B2 (below_alloc _ _)) _ | exact below_then B2 (below_alloc _ _))).mono ?_
    rintro e w3 ⟨ev3, rfl, h3⟩
    have B3 : Below w.heap.size w w3 := below_then (below_drewN (below_then B2 (below_alloc _ _)) _) h3
    have s2 : w2.heap.size < w3.heap.size := by have := h3.size; simp at this; omega
    obtain ⟨hc3, hf3⟩ := bcell h3
    have t0 : w.heap.size < w2.heap.size := by omega
    have t1 : w.heap.size < w3.heap.size := by omega
    go_wp2_with fail
    go_at_call 53
    have B3' : Below w.heap.size w (w3.setCell ⟨w2.heap.size, 3, none⟩ (.int .i64 v1)) := B3.setCell (by simp; omega) _
    refine (HB.out _ B3').mono ?_
    rintro e w4 ⟨ev4, rfl, h4⟩
    have B4 : Below w.heap.size w w4 := below_then B3' h4
    have s3 : w3.heap.size ≤ w4.heap.size := by have := h4.size; simpa using this
    obtain ⟨hc4, hf4⟩ := bcell h4
    have t2 : w.heap.size < w4.heap.size := by omega
    have t3 : w2.heap.size < w4.heap.size := by omega
    have D2 : Below w1.heap.size w1 w2 := below_then (below_alloc _ _) h2
    have D3 : Below w1.heap.size w1 w3 := below_then (below_drewN (below_then D2 (below_alloc _ _)) _) h3
    have D4 : Below w1.heap.size w1 w4 := below_then (D3.setCell (by simp; omega) _) h4
    have x0 := carry4 D4 (show w1.cell? ⟨w.heap.size, 0, none⟩ = some (.bool false) by rw [hc1 _ _ (by simp)]; go_simp)
    have x1 := carry4 D4 (show w1.cell? ⟨w.heap.size, 1, none⟩ = some (.int .u32 0) by rw [hc1 _ _ (by simp)]; go_simp)
    have x2 := carry4 D4 (show w1.cell? ⟨w.heap.size, 2, none⟩ = some (.int .i64 0) by rw [hc1 _ _ (by simp)]; go_simp)
    have x3 := carry4 D4 (show w1.cell? ⟨w.heap.size, 3, none⟩ = some (.int .i64 0) by rw [hc1 _ _ (by simp)]; go_simp)
    have x4 := carry4 D4 (show w1.cell? ⟨w.heap.size, 4, none⟩ = some (.int .i64 0) by rw [hc1 _ _ (by simp)]; go_simp)
    have n0 : ¬ w.heap.size = w2.heap.size := by omega
    have n1 : ¬ w2.heap.size = w.heap.size := by omega
    go_wp2_with fail
    refine bodyPost_ret (v := ruV (pm, pp, v1, v2)) (by simp [results, Tryd.results34, go_sem, x0, x1, x2, x3, x4, n0, n1]) rfl ⟨by rw [HV.out], ?_⟩
    exact (((((B4.setCell (by simp; omega) _).setCell (by simp) _).setCell (by simp) _).setCell (by simp) _).setCell (by simp) _).setCell (by simp) _
  · have HV : Hid (candR l = (decide (T.wordC 32 l = permitL), pV (T.wordC 32 (T.restC 32 l)), (pV (T.wordC 32 (T.restC 32 l))).2, (pV (T.wordC 32 (T.restC 32 l))).2)) := if_neg hr
    rw [decide_eq_false hr] at HC2
    clear l1 l2 l3 hcc hT hr HA HB HC3
    generalize pV (T.wordC 32 (T.restC 32 l)) = pp at *
    generalize decide (T.wordC 32 l = permitL) = pm at *
    generalize T.restC 32 (T.restC 32 l) = q3 at *
    generalize T.wordC 32 (T.restC 32 l) = q4 at *
    generalize T.wordC 32 l = q5 at *
    generalize T.restC 32 l = q6 at *
    go_enter Tryd.func34, Tryd.ntmps34
    go_wp2_with fail
    go_at_call 51
    refine (HC1.out _).mono ?_
    rintro e w1 ⟨rfl, n1, rfl⟩
    go_wp2_with fail
    go_at_call 51
    refine (HC2.out _).mono ?_
    rintro e w1 ⟨rfl, n2, rfl⟩
    go_wp2_with fail
    go_at_call 52
    refine (HP.out _).mono ?_
    rintro e w1 ⟨rfl, h1⟩
    go_wp2_with fail
    go_at_call 30
    refine (HE.out _ _ _ _).mono ?_
    rintro e w2 ⟨rfl, h2⟩
    have B1 : Below w.heap.size w w1 := below_then (w := w) (by first | exact below_alloc _ _ | exact below_drewN (below_alloc _ _) _ | exact below_drewN (below_drewN (below_alloc _ _) _) _) h1
    have B2 : Below w.heap.size w w2 := below_then (below_then B1 (below_alloc _ _)) h2
    have s0 : w.heap.size < w1.heap.size := by have := h1.size; simp at this; omega
    have s1 : w1.heap.size < w2.heap.size := by have := h2.size; simp at this; omega
    have t0 : w.heap.size < w2.heap.size := by omega
    obtain ⟨hc1, hf1⟩ := bcell h1
    obtain ⟨hc2, hf2⟩ := bcell h2
    have D4 : Below w1.heap.size w1 w2 := below_then (below_alloc _ _) h2
    have x0 := carry4 D4 (show w1.cell? ⟨w.heap.size, 0, none⟩ = some (.bool false) by rw [hc1 _ _ (by simp)]; go_simp)
    have x1 := carry4 D4 (show w1.cell? ⟨w.heap.size, 1, none⟩ = some (.int .u32 0) by rw [hc1 _ _ (by simp)]; go_simp)
    have x2 := carry4 D4 (show w1.cell? ⟨w.heap.size, 2, none⟩ = some (.int .i64 0) by rw [hc1 _ _ (by simp)]; go_simp)
    have x3 := carry4 D4 (show w1.cell? ⟨w.heap.size, 3, none⟩ = some (.int .i64 0) by rw [hc1 _ _ (by simp)]; go_simp)
    have x4 := carry4 D4 (show w1.cell? ⟨w.heap.size, 4, none⟩ = some (.int .i64 0) by rw [hc1 _ _ (by simp)]; go_simp)
    have n0 : ¬ w.heap.size = w2.heap.size := by omega
    have n1 : ¬ w2.heap.size = w.heap.size := by omega
    go_wp2_with fail
    refine bodyPost_ret (v := ruV (pm, pp, pp.2, pp.2)) (by simp [results, Tryd.results34, go_sem, x0, x1, x2, x3, x4, n0, n1, t0]) rfl ⟨by rw [HV.out], ?_⟩
    exact (((((B2.setCell (by simp) _).setCell (by simp) _).setCell (by simp) _).setCell (by simp) _).setCell (by simp) _).alloc (by simp; omega) _
end Go.Proofs.YtiiojkekcnmddaaDoor
