/-
  The walk of the reference's Check.
-/
import Derived.Test.YtmlpbhankgojpaaGrD
namespace Go.Proofs.Ytmlpbhankgojpaa
open Go.RowKit GM Go.Sort
set_option linter.unusedSimpArgs false
set_option linter.unusedVariables false
set_option maxHeartbeats 4000000
set_option maxRecDepth 100000

theorem rcheck_size (R N : Int) (s : Value) (l : List E) (w : World) (hR : I64 R) (hN : I64 N) (h : szE R N ≠ 0) :
    Calls Try.prog 17 #[.agg #[.int .i64 R, .int .i64 N, s]] w fun e w' => e = .returned (.int .i64 (chk R N l)) ∧ Below w.heap.size w w' := by
  have HC : Hid (chk R N l = szE R N) := by
    show _ = _
    unfold szE at h ⊢
    unfold chk
    split
    · rfl
    · rename_i h1
      rw [if_neg h1] at h
      by_cases h2 : 128 < R + N
      · rw [if_pos (.inl h2), if_pos h2]
      · rw [if_neg h2] at h; exact absurd rfl h
  have HS : Hid (∀ W, Calls Try.prog 32 #[.agg #[.int .i64 R, .int .i64 N, s]] W fun e w' => e = .returned (.int .i64 (szE R N)) ∧ Below W.heap.size W w') := fun W => size_any R N s W hR hN
  clear hR hN
  generalize szE R N = q at *
  have hq1 : (q == 0) = false := by simpa using h
  have hq2 : (q != 0) = true := by simpa using h
  clear h
  go_enter Try.func17, Try.ntmps17
  go_wp2_with (go_at_call 32; refine (HS.out _).mono ?_; rintro e w1 ⟨rfl, hb1⟩; have B1 := Lib.hid hb1; clear hb1)
  go_ret
  exact ⟨by rw [HC.out]; rfl, below_then (below_alloc _ _) B1.out⟩
theorem rcheck_long (R N : Int) (s : Value) (l : List E) (w : World) (hR : I64 R) (hN : I64 N) (hr : Rd3 w s l) (h : szE R N = 0) (h3 : 1024 < l.length) :
    Calls Try.prog 17 #[.agg #[.int .i64 R, .int .i64 N, s]] w fun e w' => e = .returned (.int .i64 (chk R N l)) ∧ Below w.heap.size w w' := by
  have HC : Hid (chk R N l = 4) := by
    show _ = _
    unfold szE at h
    unfold chk
    split at h
    · omega
    · rename_i h1
      rw [if_neg h1, if_pos (.inr h3)]
  have HS : Hid (∀ W, Calls Try.prog 32 #[.agg #[.int .i64 R, .int .i64 N, s]] W fun e w' => e = .returned (.int .i64 0) ∧ Below W.heap.size W w') := fun W => by rw [← h]; exact size_any R N s W hR hN
  clear hR hN h
  obtain ⟨ad, cap, rfl⟩ := rd3_slice hr
  clear hr
  go_enter Try.func17, Try.ntmps17
  go_wp2_with fail
  go_at_call 32
  refine (HS.out _).mono ?_
  rintro e w1 ⟨rfl, hb1⟩
  have c2 : w1.cell? ⟨w.heap.size, 2, none⟩ = some (.slice ad l.length cap) := carry hb1 (by simp)
  have B1 := Lib.hid hb1
  clear hb1
  go_wp2
  go_ret
  exact ⟨by rw [HC.out]; rfl, below_then (below_alloc _ _) B1.out⟩
theorem rcheck_in (R N : Int) (s : Value) (l : List E) (w : World) (hr : Rd3 w s l) (hF : FitT l) (hRb : I64 R) (hNb : I64 N) (h : ¬ (R < 0 ∨ N < 0)) (k : ¬ (128 < R + N ∨ 1024 < l.length)) :
    Calls Try.prog 17 #[.agg #[.int .i64 R, .int .i64 N, s]] w fun e w' => e = .returned (.int .i64 (scan R N none l)) ∧ Below w.heap.size w w' := by
  obtain ⟨ad, cap, rfl, hcap1, hcap2, hc⟩ := hr
  have h0' : 0 ≤ R := by omega
  have h1' : 0 ≤ N := by omega
  have h3 : decide (1024 < (l.length : Int)) = false := decide_eq_false (by omega)
  have h3' : l.length ≤ 1024 := by omega
  have hs : R + N ≤ 128 := by omega
  have hsz : szE R N = 0 := by unfold szE; rw [if_neg h, if_neg (by omega)]
  have HS0 : Hid (∀ s W, Calls Try.prog 32 #[.agg #[.int .i64 R, .int .i64 N, s]] W fun e w' => e = .returned (.int .i64 0) ∧ Below W.heap.size W w') := fun s W => by rw [← hsz]; exact size_any R N s W hRb hNb
  have HC := Lib.hid hc
  have HAL : Hid (∀ k e, l[k]? = some e → ∀ s W, Calls Try.prog 33 #[.agg #[.int .i64 R, .int .i64 N, s], .agg #[.int .i64 e.1, .int .i64 e.2.1, .int .i64 e.2.2]] W fun en w' => en = .returned (.int .i64 (alw R N e)) ∧ Below W.heap.size W w') := fun k e he s W => by
    have := hF e (List.mem_of_getElem? he)
    exact rallowed_any R N s e W h0' h1' hs ⟨this.1, this.2.1⟩
  clear hc h k hRb hNb hsz hF
  obtain ⟨L, hL⟩ : ∃ L, l.length = L := ⟨_, rfl⟩
  rw [hL] at h3 h3' hcap1 ⊢
  have HL := Lib.hid hL
  clear hL
  go_enter Try.func17, Try.ntmps17
  go_wp2_with fail
  go_at_call 32
  refine (HS0.out _ _).mono ?_
  rintro e w1 ⟨rfl, hb1⟩
  have bx : w1.heap[w.heap.size]? = some (.cells #[.int .i64 R, .int .i64 N, .slice ad L cap] 24 (0, 0)) := (hb1.block _ (by simp)).trans (heap_alloc_new _ _)
  have c2 : w1.cell? ⟨w.heap.size, 2, none⟩ = some (.slice ad L cap) := cell_of bx rfl
  have HS : Hid (Below w.heap.size w w1 ∧ w1.heap[w.heap.size]? = some (.cells #[.int .i64 R, .int .i64 N, .slice ad L cap] 24 (0, 0)) ∧ scan R N none l = scan R N (prevO l 0) (l.drop 0)) := ⟨below_then (below_alloc _ _) hb1, bx, rfl⟩
  clear bx hb1
  go_wp2_with fail
  clear c2
  go_loopg [4, 5] L (fun g s4 s5 wr => ∃ k : Nat, k ≤ L ∧ L - k ≤ g ∧ s4 = .int .i64 (k : Int) ∧ (∃ v, v = s5) ∧ Hid (Below w.heap.size w wr ∧ wr.heap[w.heap.size]? = some (.cells #[.int .i64 R, .int .i64 N, .slice ad L cap] 24 (0, 0)) ∧ scan R N none l = scan R N (prevO l k) (l.drop k)))
  case atStart => exact ⟨0, by omega, by omega, rfl, ⟨_, rfl⟩, HS⟩
  case round =>
    clear HS
    obtain ⟨k, hk, hkg, rfl, ⟨v5, rfl⟩, HS⟩ := hrel
    have r2 : wr.cell? ⟨w.heap.size, 2, none⟩ = some (.slice ad L cap) := cell_of HS.out.2.1 rfl
    by_cases hlt : k < L
    · obtain ⟨e, he⟩ : ∃ x, l[k]? = some x := ⟨_, List.getElem?_eq_getElem (by have := HL.out; omega)⟩
      obtain ⟨b, off, e1, hbl, c0, c1, c2⟩ := HC.out k e he
      subst e1
      have d0 := carryB HS.out.1 hbl c0
      have d1 := carryB HS.out.1 hbl c1
      have d2 := carryB HS.out.1 hbl c2
      have hsd := scan_drop (R := R) (N := N) he
      have r0 : wr.cell? ⟨w.heap.size, 0, none⟩ = some (.int .i64 R) := cell_of HS.out.2.1 rfl
      have r1 : wr.cell? ⟨w.heap.size, 1, none⟩ = some (.int .i64 N) := cell_of HS.out.2.1 rfl
      have hbz : w.heap.size < wr.heap.size := lt_block HS.out.2.1
      have HAe : Hid (∀ s W, Calls Try.prog 33 #[.agg #[.int .i64 R, .int .i64 N, s], .agg #[.int .i64 e.1, .int .i64 e.2.1, .int .i64 e.2.2]] W fun en w' => en = .returned (.int .i64 (alw R N e)) ∧ Below W.heap.size W w') := fun s W => HAL.out k e he s W
      have k0 : (0 : Int) ≤ (k : Int) := by omega
      have k1 : (k : Int) < (L : Int) := by omega
      have HB := Lib.hid HS.out.1
      have HBX := Lib.hid HS.out.2.1
      obtain ⟨x, y, z⟩ := e
      dsimp only at c0 c1 c2 d0 d1 d2 HAe
      go_wp2_with fail
      go_region_held3 (fun w' => w'.cell? ⟨w.heap.size, 0, none⟩ = some (.int .i64 R) ∧ w'.cell? ⟨w.heap.size, 1, none⟩ = some (.int .i64 N) ∧ w'.cell? ⟨w.heap.size, 2, none⟩ = some (.slice (some ⟨b, off, none⟩) L cap) ∧
          w'.cell? ⟨b, off + k * 3, none⟩ = some (.int .i64 x) ∧ w'.cell? ⟨b, off + k * 3 + 1, none⟩ = some (.int .i64 y) ∧ w'.cell? ⟨b, off + k * 3 + 2, none⟩ = some (.int .i64 z))
        (first | exact ⟨r0, r1, r2, d0, d1, d2⟩ | assumption)
        (first | (go_at_call 33; refine (HAe.out _ _).mono ?_; rintro en w2 ⟨rfl, hg⟩; have G := Lib.hid hg; have hk := (And.intro (carry hg (show wr.drew.cell? _ = _ from r0)) (And.intro (carry hg (show wr.drew.cell? _ = _ from r1)) (And.intro (carry hg (show wr.drew.cell? _ = _ from r2)) (And.intro (carry hg (show wr.drew.cell? _ = _ from d0)) (And.intro (carry hg (show wr.drew.cell? _ = _ from d1)) (carry hg (show wr.drew.cell? _ = _ from d2))))))); clear hg))
      all_goals (
        have B2 : Hid (Below w.heap.size w w2) := HB.out.trans ((⟨G.out.os, G.out.tape, G.out.output, G.out.size, G.out.block⟩ : Below wr.heap.size wr w2).mono (by have := HB.out.size; omega))
        have X2 : Hid (w2.heap[w.heap.size]? = some (.cells #[.int .i64 R, .int .i64 N, .slice (some ⟨b, off, none⟩) L cap] 24 (0, 0))) := (G.out.block _ (by simpa using hbz)).trans HBX.out
        have g2 : w2.cell? ⟨w.heap.size, 2, none⟩ = some (.slice (some ⟨b, off, none⟩) L cap) := cell_of X2.out rfl
        have e0 := carryB B2.out hbl c0
        have e1 := carryB B2.out hbl c1
        have e2 := carryB B2.out hbl c2
        have HSX := Lib.hid HS.out.2.2
        clear hk HBX HAe HS G HB r0 r1 r2 d0 d1 d2 c0 c1 c2
        by_cases ha : alw R N (x, y, z) = 0
        · rw [if_neg (by simpa using ha)] at hsd
          rw [ha]
          cases k with
          | zero =>
            have HR : Hid (scan R N none l = scan R N (prevO l (0 + 1)) (l.drop (0 + 1))) := HSX.out.trans (by rw [hsd]; rfl)
            clear ha hsd he
            simp only [Nat.zero_mul, Nat.add_zero] at e0 e1 e2
            go_wp2_with fail
            go_quiet (fail)
            go_wp2_with fail
            go_roundg (L - (0 + 1))
            case measure => omega
            case rel => exact ⟨0 + 1, by omega, Nat.le_refl _, by go_num, ⟨_, rfl⟩, below_drewN B2.out _, X2.out, HR.out⟩
          | succ j =>
            obtain ⟨p, hp⟩ : ∃ x, l[j]? = some x := ⟨_, List.getElem?_eq_getElem (by have := HL.out; omega)⟩
            obtain ⟨b', off', eb, _, p0, p1, p2⟩ := HC.out j p hp
            cases eb
            have q0 := carryB B2.out hbl p0
            have q1 := carryB B2.out hbl p1
            have q2 := carryB B2.out hbl p2
            have HO : Hid (∀ W, Calls Try.prog 34 #[.agg #[.int .i64 p.1, .int .i64 p.2.1, .int .i64 p.2.2], .agg #[.int .i64 x, .int .i64 y, .int .i64 z]] W fun en w' => en = .returned (.bool (bef p (x, y, z))) ∧ Gr W w') := fun W => gbefore_any p (x, y, z) W
            have hpe : pe (prevO l (j + 1)) (x, y, z) = bef p (x, y, z) := by show pe (l[j]?) _ = _; rw [hp]; rfl
            rw [hpe] at hsd
            have HSD := Lib.hid (HSX.out.trans hsd)
            obtain ⟨px, py, pz⟩ := p
            dsimp only at q0 q1 q2 HO
            have j0 : (0 : Int) ≤ (j : Int) := by omega
            have j1 : (j : Int) < (L : Int) := by omega
            have hjk : 0 < j + 1 := by omega
            clear ha hsd hpe he hp p0 p1 p2 HSX
            generalize bef (px, py, pz) (x, y, z) = bb at *
            have hjw : IntKind.i64.wrap ((j : Int)) = (j : Int) := IntWalk.i64_in _ (by omega)
            have j2 : (0 : Int) ≤ (j : Int) + 1 := by omega
            have j3 : (j : Int) + 1 < (L : Int) := by omega
            go_wp2_with fail
            go_region_held3 (fun w' => w'.cell? ⟨w.heap.size, 2, none⟩ = some (.slice (some ⟨b, off, none⟩) L cap) ∧ w'.cell? ⟨b, off + (j + 1) * 3, none⟩ = some (.int .i64 x) ∧ w'.cell? ⟨b, off + (j + 1) * 3 + 1, none⟩ = some (.int .i64 y) ∧ w'.cell? ⟨b, off + (j + 1) * 3 + 2, none⟩ = some (.int .i64 z) ∧
                w'.cell? ⟨b, off + j * 3, none⟩ = some (.int .i64 px) ∧ w'.cell? ⟨b, off + j * 3 + 1, none⟩ = some (.int .i64 py) ∧ w'.cell? ⟨b, off + j * 3 + 2, none⟩ = some (.int .i64 pz))
              (first | exact ⟨g2, e0, e1, e2, q0, q1, q2⟩ | assumption)
              (first | (go_at_call 34; refine (HO.out _).mono ?_; rintro en w3 ⟨rfl, hg⟩; have G := Lib.hid hg; have hk := (And.intro (carry hg.below (show w2.drew.cell? _ = _ from g2)) (And.intro (carry hg.below (show w2.drew.cell? _ = _ from e0)) (And.intro (carry hg.below (show w2.drew.cell? _ = _ from e1)) (And.intro (carry hg.below (show w2.drew.cell? _ = _ from e2)) (And.intro (carry hg.below (show w2.drew.cell? _ = _ from q0)) (And.intro (carry hg.below (show w2.drew.cell? _ = _ from q1)) (carry hg.below (show w2.drew.cell? _ = _ from q2)))))))); clear hg))
            all_goals (
              have B3 : Hid (Below w.heap.size w w3) := B2.out.trans ((⟨G.out.below.os, G.out.below.tape, G.out.below.output, G.out.below.size, G.out.below.block⟩ : Below w2.heap.size w2 w3).mono (by have := B2.out.size; omega))
              have X3 : Hid (w3.heap[w.heap.size]? = some (.cells #[.int .i64 R, .int .i64 N, .slice (some ⟨b, off, none⟩) L cap] 24 (0, 0))) := (G.out.below.block _ (by have := lt_block X2.out; simpa using this)).trans X2.out
              cases bb
              · have HR : Hid (scan R N none l = 16) := by show _ = _; have := HSD.out; simpa using this
                go_wp2
                go_ret
                exact ⟨by rw [HR.out]; rfl, B3.out⟩
              · have HR : Hid (scan R N none l = scan R N (prevO l (j + 1 + 1)) (l.drop (j + 1 + 1))) := by
                  show _ = _
                  have h1 := HSD.out
                  simpa using h1
                go_wp2_with fail
                go_roundg (L - (j + 1 + 1))
                case measure => omega
                case rel => exact ⟨j + 1 + 1, by omega, Nat.le_refl _, by go_num, ⟨_, rfl⟩, B3.out, X3.out, HR.out⟩)
        · rw [if_pos ha] at hsd
          have HR : Hid (scan R N none l = alw R N (x, y, z)) := HSX.out.trans hsd
          generalize hz : alw R N (x, y, z) = q at *
          have hq1 : (q == 0) = false := by simpa using ha
          have hq2 : (q != 0) = true := by simpa using ha
          clear ha hz hsd he
          go_wp2
          go_ret
          exact ⟨by rw [HR.out]; rfl, B2.out⟩)
    · have HR : Hid (scan R N none l = 0) := by
        have hkl : k = l.length := by have := HL.out; omega
        have := HS.out.2.2
        rw [hkl, scan_end] at this
        exact this
      have k1 : decide ((k : Int) < (L : Int)) = false := decide_eq_false (by omega)
      go_wp2
      go_ret
      exact ⟨by rw [HR.out]; rfl, HS.out.1⟩
theorem rcheck_any (R N : Int) (s : Value) (l : List E) (w : World) (hR : I64 R) (hN : I64 N) (hr : Rd3 w s l) (hF : FitT l) :
    Calls Try.prog 17 #[.agg #[.int .i64 R, .int .i64 N, s]] w fun e w' => e = .returned (.int .i64 (chk R N l)) ∧ Below w.heap.size w w' := by
  by_cases h : szE R N = 0
  · have h1 : ¬ (R < 0 ∨ N < 0) := by unfold szE at h; split at h <;> omega
    have h2 : ¬ 128 < R + N := by unfold szE at h; rw [if_neg h1] at h; split at h <;> omega
    by_cases k : 1024 < l.length
    · exact rcheck_long R N s l w hR hN hr h k
    · rw [chk_in h1 (by omega)]; exact rcheck_in R N s l w hr hF hR hN h1 (by omega)
  · exact rcheck_size R N s l w hR hN h
end Go.Proofs.Ytmlpbhankgojpaa
