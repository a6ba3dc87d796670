/-
  The walks of graph.Check and of the reference's Check.
-/
import Derived.Test.YtmlpbhankgojpaaGrA
namespace Go.Proofs.Ytmlpbhankgojpaa
open Go.RowKit GM Go.Sort
set_option linter.unusedSimpArgs false
set_option linter.unusedVariables false
set_option maxHeartbeats 4000000
set_option maxRecDepth 100000

theorem rd3_slice {w : World} {v : Value} {l : List Tri} (h : Rd3 w v l) : ∃ ad cap, v = .slice ad l.length cap := by obtain ⟨ad, cap, rfl, _⟩ := h; exact ⟨ad, cap, rfl⟩
theorem chk_neg {R N : Int} {l : List E} (h : R < 0 ∨ N < 0) : chk R N l = 5 := by unfold chk; rw [if_pos h]
theorem chk_big {R N : Int} {l : List E} (h : ¬ (R < 0 ∨ N < 0)) (k : 128 < R + N ∨ 1024 < l.length) : chk R N l = 4 := by unfold chk; rw [if_neg h, if_pos k]
theorem chk_in {R N : Int} {l : List E} (h : ¬ (R < 0 ∨ N < 0)) (k : ¬ (128 < R + N ∨ 1024 < l.length)) : chk R N l = scan R N none l := by unfold chk; rw [if_neg h, if_neg k]
theorem check_neg (R N : Int) (s : Value) (l : List E) (w : World) (hr : Rd3 w s l) (h : R < 0 ∨ N < 0) :
    Calls Try.prog 27 #[.agg #[.int .i64 R, .int .i64 N, s]] w fun e w' => e = .returned (.int .i64 5) ∧ Below w.heap.size w w' := by
  obtain ⟨ad, cap, rfl⟩ := rd3_slice hr
  clear hr
  by_cases h0 : R < 0
  · clear h
    go_enter Try.func27, Try.ntmps27
    go_wp2
    go_ret
    exact ⟨rfl, below_alloc _ _⟩
  · have h1 : N < 0 := by omega
    have e0 : decide (R < 0) = false := decide_eq_false h0
    clear h
    go_enter Try.func27, Try.ntmps27
    go_wp2
    go_ret
    exact ⟨rfl, below_alloc _ _⟩
theorem check_big (R N : Int) (s : Value) (l : List E) (w : World) (hR : I64 R) (hN : I64 N) (hr : Rd3 w s l) (h : ¬ (R < 0 ∨ N < 0)) (k : 128 < R + N ∨ 1024 < l.length) :
    Calls Try.prog 27 #[.agg #[.int .i64 R, .int .i64 N, s]] w fun e w' => e = .returned (.int .i64 4) ∧ Below w.heap.size w w' := by
  obtain ⟨ad, cap, rfl⟩ := rd3_slice hr
  clear hr
  unfold I64 at hR hN
  have h0 : decide (R < 0) = false := decide_eq_false (by omega)
  have h1 : decide (N < 0) = false := decide_eq_false (by omega)
  have h0' : 0 ≤ R := by omega
  have h1' : 0 ≤ N := by omega
  have n2 := hN.2
  by_cases h2 : 128 - N < R
  · clear h k hR hN
    go_enter Try.func27, Try.ntmps27
    go_wp2
    go_ret
    exact ⟨rfl, below_alloc _ _⟩
  · have h3 : 1024 < l.length := by omega
    have e2 : decide (128 - N < R) = false := decide_eq_false h2
    clear h k hR hN
    go_enter Try.func27, Try.ntmps27
    go_wp2
    go_ret
    exact ⟨rfl, below_alloc _ _⟩
theorem check_in (R N : Int) (s : Value) (l : List E) (w : World) (hr : Rd3 w s l) (h : ¬ (R < 0 ∨ N < 0)) (k : ¬ (128 < R + N ∨ 1024 < l.length)) :
    Calls Try.prog 27 #[.agg #[.int .i64 R, .int .i64 N, s]] w fun e w' => e = .returned (.int .i64 (scan R N none l)) ∧ Below w.heap.size w w' := by
  obtain ⟨ad, cap, rfl, hcap1, hcap2, hc⟩ := hr
  have h0 : decide (R < 0) = false := decide_eq_false (by omega)
  have h1 : decide (N < 0) = false := decide_eq_false (by omega)
  have h0' : 0 ≤ R := by omega
  have h1' : 0 ≤ N := by omega
  have h2 : decide (128 - N < R) = false := decide_eq_false (by omega)
  have h3 : decide (1024 < (l.length : Int)) = false := decide_eq_false (by omega)
  have h3' : l.length ≤ 1024 := by omega
  have hs : R + N ≤ 128 := by omega
  have HC := Lib.hid hc
  have HAL : Hid (∀ e : E, ∀ s W, Calls Try.prog 41 #[.agg #[.int .i64 R, .int .i64 N, s], .agg #[.int .i64 e.1, .int .i64 e.2.1, .int .i64 e.2.2]] W fun en w' => en = .returned (.int .i64 (alw R N e)) ∧ Below W.heap.size W w') := fun e s W => allowed_any R N s e W h0' h1' hs
  clear hc h k
  obtain ⟨L, hL⟩ : ∃ L, l.length = L := ⟨_, rfl⟩
  rw [hL] at h3 h3' hcap1 ⊢
  have HL := Lib.hid hL
  clear hL
  go_enter Try.func27, Try.ntmps27
  go_wp2_with fail
  have bx : (w.alloc (.cells #[.int .i64 R, .int .i64 N, .slice ad L cap] 24)).heap[w.heap.size]? = some (.cells #[.int .i64 R, .int .i64 N, .slice ad L cap] 24 (0, 0)) := heap_alloc_new _ _
  have HS : Hid (Below w.heap.size w (w.alloc (.cells #[.int .i64 R, .int .i64 N, .slice ad L cap] 24)) ∧ (w.alloc (.cells #[.int .i64 R, .int .i64 N, .slice ad L cap] 24)).heap[w.heap.size]? = some (.cells #[.int .i64 R, .int .i64 N, .slice ad L cap] 24 (0, 0)) ∧ scan R N none l = scan R N (prevO l 0) (l.drop 0)) := ⟨below_alloc _ _, bx, rfl⟩
  clear bx
  go_loopg [29, 3, 4, 5] L (fun g s29 s3 s4 s5 wr => ∃ k : Nat, k ≤ L ∧ L - k ≤ g ∧ s29 = .int .i64 (k : Int) ∧ (∃ v, v = s3) ∧ (∃ v, v = s4) ∧ (∃ v, v = s5) ∧ Hid (Below w.heap.size w wr ∧ wr.heap[w.heap.size]? = some (.cells #[.int .i64 R, .int .i64 N, .slice ad L cap] 24 (0, 0)) ∧ scan R N none l = scan R N (prevO l k) (l.drop k)))
  case atStart => exact ⟨0, by omega, by omega, rfl, ⟨_, rfl⟩, ⟨_, rfl⟩, ⟨_, rfl⟩, HS⟩
  case round =>
    clear HS
    obtain ⟨k, hk, hkg, rfl, ⟨v3, rfl⟩, ⟨v4, rfl⟩, ⟨v5, rfl⟩, HS⟩ := hrel
    by_cases hlt : k < L
    · obtain ⟨e, he⟩ : ∃ x, l[k]? = some x := ⟨_, List.getElem?_eq_getElem (by have := HL.out; omega)⟩
      obtain ⟨b, off, e1, hbl, c0, c1, c2⟩ := HC.out k e he
      subst e1
      have d0 := carryB HS.out.1 hbl c0
      have d1 := carryB HS.out.1 hbl c1
      have d2 := carryB HS.out.1 hbl c2
      have hsd := scan_drop (R := R) (N := N) he
      have r0 : wr.cell? ⟨w.heap.size, 0, none⟩ = some (.int .i64 R) := cell_of HS.out.2.1 rfl
      have r1 : wr.cell? ⟨w.heap.size, 1, none⟩ = some (.int .i64 N) := cell_of HS.out.2.1 rfl
      have r2 : wr.cell? ⟨w.heap.size, 2, none⟩ = some (.slice (some ⟨b, off, none⟩) L cap) := cell_of HS.out.2.1 rfl
      have hbz : w.heap.size < wr.heap.size := lt_block HS.out.2.1
      have HAe : Hid (∀ s W, Calls Try.prog 41 #[.agg #[.int .i64 R, .int .i64 N, s], .agg #[.int .i64 e.1, .int .i64 e.2.1, .int .i64 e.2.2]] W fun en w' => en = .returned (.int .i64 (alw R N e)) ∧ Below W.heap.size W w') := fun s W => HAL.out e s W
      have k0 : (0 : Int) ≤ (k : Int) := by omega
      have k1 : (k : Int) < (L : Int) := by omega
      clear c0 c1 c2
      by_cases ha : alw R N e = 0
      · rw [if_neg (by simpa using ha)] at hsd
        cases k with
        | zero =>
          have HR : Hid (scan R N none l = scan R N (prevO l (0 + 1)) (l.drop (0 + 1))) := HS.out.2.2.trans (by rw [hsd]; rfl)
          rw [ha] at HAe
          obtain ⟨x, y, z⟩ := e
          dsimp only at d0 d1 d2 HAe
          have HB := Lib.hid HS.out.1
          have HBX := Lib.hid HS.out.2.1
          clear ha hsd HS he
          simp only [Nat.zero_mul, Nat.add_zero] at d0 d1 d2
          go_wp2_with fail
          go_at_call 41
          refine (HAe.out _ _).mono ?_
          rintro en w1 ⟨rfl, hb1⟩
          have B1 : Hid (Below w.heap.size w w1) := (HB.out.alloc HB.out.size _).trans (hb1.mono (by have := HB.out.size; simp; omega))
          have X1 : Hid (w1.heap[w.heap.size]? = some (.cells #[.int .i64 R, .int .i64 N, .slice (some ⟨b, off, none⟩) L cap] 24 (0, 0))) := (hb1.block _ (by simp; omega)).trans ((Below.heap_alloc _ _ _ hbz).trans HBX.out)
          clear hb1
          go_wp2_with fail
          go_quiet (fail)
          go_wp2_with fail
          go_roundg (L - (0 + 1))
          case measure => omega
          case rel => exact ⟨0 + 1, by omega, Nat.le_refl _, by go_num, ⟨_, rfl⟩, ⟨_, rfl⟩, ⟨_, rfl⟩, below_drewN B1.out _, X1.out, HR.out⟩
        | succ j =>
          obtain ⟨p, hp⟩ : ∃ x, l[j]? = some x := ⟨_, List.getElem?_eq_getElem (by have := HL.out; omega)⟩
          obtain ⟨b', off', e1, _, p0, p1, p2⟩ := HC.out j p hp
          cases e1
          have q0 := carryB HS.out.1 hbl p0
          have q1 := carryB HS.out.1 hbl p1
          have q2 := carryB HS.out.1 hbl p2
          have HO : Hid (∀ W, Calls Try.prog 42 #[.agg #[.int .i64 p.1, .int .i64 p.2.1, .int .i64 p.2.2], .agg #[.int .i64 e.1, .int .i64 e.2.1, .int .i64 e.2.2]] W fun en w' => en = .returned (.int .i64 (ordC p e)) ∧ Gr W w') := fun W => order_any p e W
          have hpe : pe (prevO l (j + 1)) e = bef p e := by show pe (l[j]?) e = _; rw [hp]; rfl
          rw [hpe] at hsd
          have HON := Lib.hid (ordC_nonneg (a := p) (b := e))
          have HSD := Lib.hid (HS.out.2.2.trans hsd)
          rw [ha] at HAe
          obtain ⟨x, y, z⟩ := e
          obtain ⟨px, py, pz⟩ := p
          dsimp only at d0 d1 d2 q0 q1 q2 HAe HO
          have HB := Lib.hid HS.out.1
          have HBX := Lib.hid HS.out.2.1
          have j0 : (0 : Int) ≤ (j : Int) := by omega
          have j1 : (j : Int) < (L : Int) := by omega
          have hjk : 0 < j + 1 := by omega
          clear ha hsd hpe HS he hp p0 p1 p2
          generalize ordC (px, py, pz) (x, y, z) = oc at *
          generalize bef (px, py, pz) (x, y, z) = bb at *
          go_wp2_with fail
          go_at_call 41
          refine (HAe.out _ _).mono ?_
          rintro en w1 ⟨rfl, hb1⟩
          have B1 : Hid (Below w.heap.size w w1) := (HB.out.alloc HB.out.size _).trans (hb1.mono (by have := HB.out.size; simp; omega))
          have X1 : Hid (w1.heap[w.heap.size]? = some (.cells #[.int .i64 R, .int .i64 N, .slice (some ⟨b, off, none⟩) L cap] 24 (0, 0))) := (hb1.block _ (by simp; omega)).trans ((Below.heap_alloc _ _ _ hbz).trans HBX.out)
          have E1 : Hid (w1.heap[wr.heap.size]? = some (.cells #[.int .i64 x, .int .i64 y, .int .i64 z] 46 (0, 0))) := (hb1.block _ (by simp)).trans (heap_alloc_new _ _)
          have g2 : w1.cell? ⟨w.heap.size, 2, none⟩ = some (.slice (some ⟨b, off, none⟩) L cap) := cell_of X1.out rfl
          have e0 : w1.cell? ⟨wr.heap.size, 0, none⟩ = some (.int .i64 x) := cell_of E1.out rfl
          have e1 : w1.cell? ⟨wr.heap.size, 1, none⟩ = some (.int .i64 y) := cell_of E1.out rfl
          have e2 : w1.cell? ⟨wr.heap.size, 2, none⟩ = some (.int .i64 z) := cell_of E1.out rfl
          have q0' := carry hb1 (Lib.cell?_alloc_some _ q0)
          have q1' := carry hb1 (Lib.cell?_alloc_some _ q1)
          have q2' := carry hb1 (Lib.cell?_alloc_some _ q2)
          clear hb1 q0 q1 q2 d0 d1 d2 r0 r1 r2
          have hjw : IntKind.i64.wrap ((j : Int)) = (j : Int) := IntWalk.i64_in _ (by omega)
          go_wp2_with fail
          go_region_held3 (fun w' => w'.cell? ⟨w.heap.size, 2, none⟩ = some (.slice (some ⟨b, off, none⟩) L cap) ∧ w'.cell? ⟨wr.heap.size, 0, none⟩ = some (.int .i64 x) ∧ w'.cell? ⟨wr.heap.size, 1, none⟩ = some (.int .i64 y) ∧ w'.cell? ⟨wr.heap.size, 2, none⟩ = some (.int .i64 z) ∧
              w'.cell? ⟨b, off + j * 3, none⟩ = some (.int .i64 px) ∧ w'.cell? ⟨b, off + j * 3 + 1, none⟩ = some (.int .i64 py) ∧ w'.cell? ⟨b, off + j * 3 + 2, none⟩ = some (.int .i64 pz))
            (first | exact ⟨g2, e0, e1, e2, q0', q1', q2'⟩ | assumption)
            (first | (go_at_call 42; refine (HO.out _).mono ?_; rintro en w2 ⟨rfl, hg⟩; have G := Lib.hid hg; have hk := (And.intro (carry hg.below (show w1.drew.cell? _ = _ from g2)) (And.intro (carry hg.below (show w1.drew.cell? _ = _ from e0)) (And.intro (carry hg.below (show w1.drew.cell? _ = _ from e1)) (And.intro (carry hg.below (show w1.drew.cell? _ = _ from e2)) (And.intro (carry hg.below (show w1.drew.cell? _ = _ from q0')) (And.intro (carry hg.below (show w1.drew.cell? _ = _ from q1')) (carry hg.below (show w1.drew.cell? _ = _ from q2')))))))); clear hg))
          all_goals (
            have B2 : Hid (Below w.heap.size w w2) := B1.out.trans ((⟨G.out.below.os, G.out.below.tape, G.out.below.output, G.out.below.size, G.out.below.block⟩ : Below w1.heap.size w1 w2).mono (by have := B1.out.size; omega))
            have X2 : Hid (w2.heap[w.heap.size]? = some (.cells #[.int .i64 R, .int .i64 N, .slice (some ⟨b, off, none⟩) L cap] 24 (0, 0))) := (G.out.below.block _ (by have := lt_block X1.out; simpa using this)).trans X1.out
            by_cases ho : 0 ≤ oc
            · have HR : Hid (scan R N none l = 16) := by show _ = _; have := HSD.out; rw [HON.out.1 ho] at this; simpa using this
              go_wp2
              go_ret
              exact ⟨by rw [HR.out]; rfl, B2.out⟩
            · have HR : Hid (scan R N none l = scan R N (prevO l (j + 1 + 1)) (l.drop (j + 1 + 1))) := by
                show _ = _
                have h1 := HSD.out
                have h2 : bb = true := by
                  cases hb : bb
                  · exact absurd (HON.out.2 hb) ho
                  · rfl
                rw [h2] at h1; simpa using h1
              have ho' : decide (0 ≤ oc) = false := decide_eq_false ho
              go_wp2_with fail
              go_roundg (L - (j + 1 + 1))
              case measure => omega
              case rel => exact ⟨j + 1 + 1, by omega, Nat.le_refl _, by go_num, ⟨_, rfl⟩, ⟨_, rfl⟩, ⟨_, rfl⟩, B2.out, X2.out, HR.out⟩)
      · rw [if_pos ha] at hsd
        have HR : Hid (scan R N none l = alw R N e) := HS.out.2.2.trans hsd
        obtain ⟨x, y, z⟩ := e
        dsimp only at d0 d1 d2 HAe
        generalize hz : alw R N (x, y, z) = q at *
        have hq1 : (q == 0) = false := by simpa using ha
        have hq2 : (q != 0) = true := by simpa using ha
        have HB := Lib.hid HS.out.1
        clear ha hz hsd HS he
        go_wp2_with (go_at_call 41; refine (HAe.out _ _).mono ?_; rintro en w1 ⟨rfl, hb1⟩; have B1 := Lib.hid hb1; clear hb1)
        go_ret
        exact ⟨by rw [HR.out]; rfl, (HB.out.alloc HB.out.size _).trans (B1.out.mono (by have := HB.out.size; simp; omega))⟩
    · have HR : Hid (scan R N none l = 0) := by
        have hkl : k = l.length := by have := HL.out; omega
        have := HS.out.2.2
        rw [hkl, scan_end] at this
        exact this
      go_wp2
      go_ret
      exact ⟨by rw [HR.out]; rfl, HS.out.1⟩
theorem check_any (R N : Int) (s : Value) (l : List E) (w : World) (hR : I64 R) (hN : I64 N) (hr : Rd3 w s l) :
    Calls Try.prog 27 #[.agg #[.int .i64 R, .int .i64 N, s]] w fun e w' => e = .returned (.int .i64 (chk R N l)) ∧ Below w.heap.size w w' := by
  by_cases h : R < 0 ∨ N < 0
  · rw [chk_neg h]; exact check_neg R N s l w hr h
  · by_cases k : 128 < R + N ∨ 1024 < l.length
    · rw [chk_big h k]; exact check_big R N s l w hR hN hr h k
    · rw [chk_in h k]; exact check_in R N s l w hr h k
end Go.Proofs.Ytmlpbhankgojpaa
