/-
  The walk of the reference's Parse.
-/
import Derived.Test.YtiiojkekcnmddaaDoorPlL
import Derived.Test.YtiiojkekcnmddaaDoorPlG
import Derived.BigQuiet
namespace Go.Proofs.YtiiojkekcnmddaaDoor
open Go.RowKit
set_option linter.unusedSimpArgs false
set_option linter.unusedVariables false
set_option maxHeartbeats 2000000
set_option maxRecDepth 100000

theorem word_take (l : List UInt8) : l.take (T.wordC 32 l).length = T.wordC 32 l := by
  rcases T.split_word 32 l with ⟨h1, _, _⟩ | ⟨h1, _⟩
  · rw [← h1, List.take_length]
  · have h2 := List.take_left (l₁ := T.wordC 32 l) (l₂ := 32 :: T.restC 32 l)
    rw [← h1] at h2
    exact h2
theorem ext_full {R : ByteArray} {k : Nat} (h : k = R.size) : R.extract 0 k = R := by
  subst h
  have h := ext_take R.data.toList R.size
  rw [← bs_get R, ← list_len R, List.take_length, ← bs_get R] at h
  rwa [list_len] at h
theorem ref_call (R : ByteArray) (hR : R.size ≤ 100000) (W : World) : Calls Tryd.prog 35 #[.string (R.extract 0 (T.wordC 32 R.data.toList).length)] W fun e w' => e = .returned (.tuple #[.agg #[.int .u32 ((pV (T.wordC 32 R.data.toList)).1 : Int), .int .i64 (pV (T.wordC 32 R.data.toList)).2], .int .i64 (prC (T.wordC 32 R.data.toList))]) ∧ Below W.heap.size W w' := by
  have e : R.extract 0 (T.wordC 32 R.data.toList).length = bs (T.wordC 32 R.data.toList) := by
    have h := ext_take R.data.toList (T.wordC 32 R.data.toList).length
    rw [← bs_get R, word_take] at h
    exact h
  have h := rparse_any (R.extract 0 (T.wordC 32 R.data.toList).length) (by rw [e, bs_size]; have := (word_len 32 R.data.toList).1; rw [list_len] at this; omega) W
  rw [e, bs_list, prV_code] at h
  rw [e]
  exact h
theorem rpar_true (l : List UInt8) (hl : l.length ≤ 100000) (w : World) (h7 : 7 < l.length ∧ l.take 7 = permS) : Calls Tryd.prog 20 #[.string (bs l)] w fun e w' => e = .returned (parV (parR l)) ∧ Below w.heap.size w w' := by
  have hsz := bs_size l
  obtain ⟨R, hR⟩ : ∃ R, bs (l.drop 7) = R := ⟨_, rfl⟩
  have hRl : R.data.toList = l.drop 7 := by rw [← hR, bs_list]
  have hRs : R.size ≤ 100000 := by rw [← hR, bs_size, List.length_drop]; omega
  have x1 : (bs l).extract 7 l.length = R := by rw [← hsz, ext_drop, hR]
  have HL : Hid (l = wordR true ++ 32 :: R.data.toList) := by unfold Hid; rw [hRl]; exact head_true h7.2
  have x2 : (((bs l).extract 0 7).toList == [112, 101, 114, 109, 105, 116, 32]) = true := by rw [ext_take, eq_perm, decide_eq_true h7.2]
  have x3 : (7 : Int) < (l.length : Int) := by omega
  have x4 : (7 : Int) ≤ (l.length : Int) := by omega
  have HP35 := Lib.hid (ref_call R hRs)
  have HEQ : Hid (∀ r, ((bs (rtxtL r)).toList == (bs l).toList) = decide (rtxtL r = l)) := fun r => bs_eq (rtxtL r) l
  have hwl := (word_len 32 R.data.toList).1
  rw [list_len] at hwl
  obtain ⟨n0, hn0⟩ : ∃ n0, (T.wordC 32 R.data.toList).length = n0 := ⟨_, rfl⟩
  have HWL : Hid (∀ k, k < n0 → ∃ hk : k < R.size, ((R[k].toNat : Int) == 32) = false) := by cases hn0; exact word_lt R
  have HWE : Hid (n0 = R.size ∨ ∃ hk : n0 < R.size, ((R[n0].toNat : Int) == 32) = true) := by cases hn0; exact word_end R
  rw [hn0] at HP35 hwl
  have HBX : Hid (Below w.heap.size w ((w.alloc (ruC zeroR)).alloc (.cells #[.bool true, .int .u32 0, .int .i64 0, .int .i64 0, .int .i64 0] 27))) := below2 _ _ _
  have HF0 : Hid (Five ((w.alloc (ruC zeroR)).alloc (.cells #[.bool true, .int .u32 0, .int .i64 0, .int .i64 0, .int .i64 0] 27)) w.heap.size (.bool false) (.int .u32 0) (.int .i64 0) (.int .i64 0) (.int .i64 0)) := Five.below (heap_alloc_new _ _) (below_alloc _ _)
  have HF1 : Hid (Five ((w.alloc (ruC zeroR)).alloc (.cells #[.bool true, .int .u32 0, .int .i64 0, .int .i64 0, .int .i64 0] 27)) (w.heap.size + 1) (.bool true) (.int .u32 0) (.int .i64 0) (.int .i64 0) (.int .i64 0)) := heap_at (by simp)
  have HPO : Hid ((pV (T.wordC 32 R.data.toList)).1 < 4294967296) := (pV_ok _).1
  have HNP : Hid (prC (T.wordC 32 R.data.toList) ≠ 0 → parR l = none) := no_prefix HL.out
  have HVL : Hid (prC (T.wordC 32 R.data.toList) = 0 → vld (pV (T.wordC 32 R.data.toList)).1 (pV (T.wordC 32 R.data.toList)).2 = true) := prC_zero
  have HNR : Hid ((∀ mn mx : Int, (pV (T.wordC 32 R.data.toList)).2 ≤ mn → mn ≤ mx → mx ≤ 32 → rtxtL (true, pV (T.wordC 32 R.data.toList), mn, mx) ≠ l) → parR l = none) := no_range HL.out rfl
  generalize pV (T.wordC 32 R.data.toList) = pp at *
  generalize prC (T.wordC 32 R.data.toList) = cc at *
  clear hRl hR hn0 HL
  obtain ⟨S, hS⟩ : ∃ S, bs l = S := ⟨_, rfl⟩
  rw [hS] at hsz x1 x2 HEQ ⊢
  clear h7
  go_enter Tryd.func20, Tryd.ntmps20
  go_wp2_with fail
  go_loopg [6] n0 (fun g s6 wr => ∃ (k : Nat), k ≤ n0 ∧ n0 - k ≤ g ∧ .int .i64 (k : Int) = s6 ∧ ((w.alloc (ruC zeroR)).alloc (.cells #[.bool true, .int .u32 0, .int .i64 0, .int .i64 0, .int .i64 0] 27)) = wr)
  case atStart => exact ⟨0, by omega, by omega, rfl, rfl⟩
  case round =>
    obtain ⟨k, hk, hkg, rfl, rfl⟩ := hrel
    by_cases hkn : k < n0
    · obtain ⟨hkR, hne⟩ := HWL.out k hkn
      have k0 : (0 : Int) ≤ (k : Int) := by omega
      have k1 : (k : Int) < (R.size : Int) := by omega
      go_wp2_with fail
      go_roundg (n0 - (k + 1))
      case measure => omega
      case rel => exact ⟨k + 1, by omega, Nat.le_refl _, by go_num, rfl⟩
    · have hkn0 : k = n0 := by omega
      subst hkn0
      have k0 : (0 : Int) ≤ (k : Int) := by omega
      have k2 : (k : Int) ≤ (R.size : Int) := by omega
      have HS1 : Hid (w.heap.size + 2 = ((w.alloc (ruC zeroR)).alloc (.cells #[.bool true, .int .u32 0, .int .i64 0, .int .i64 0, .int .i64 0] 27)).heap.size) := by unfold Hid; simp
      rcases HWE.out with he | ⟨hkR, he⟩
      · have k1 : decide ((k : Int) < (R.size : Int)) = false := decide_eq_false (by omega)
        have k3 : ¬ (k : Int) < (R.size : Int) := by omega
        have HC35 : Hid (∀ W, Calls Tryd.prog 35 #[.string R] W fun e w' => e = .returned (.tuple #[.agg #[.int .u32 (pp.1 : Int), .int .i64 pp.2], .int .i64 cc]) ∧ Below W.heap.size W w') := fun W => by
          have h := HP35.out W
          rwa [ext_full he] at h
        go_wp2_with fail
        go_at_call 35
        refine (HC35.out _).mono ?_
        rintro e w1 ⟨rfl, hw1⟩
        have HB1 := Lib.hid (below_then HBX.out hw1)
        have HF01 := Lib.hid (HF0.out.below hw1)
        have HF11 := Lib.hid (HF1.out.below hw1)
        have hs1 : w.heap.size + 2 ≤ w1.heap.size := by have := hw1.size; rw [← HS1.out] at this; exact this
        clear hw1
        by_cases hcc : cc = 0
        · subst hcc
          have hvl := HVL.out rfl
          obtain ⟨f0, f1, f2, f3, f4⟩ := HF11.out.cells
          have fr := fun o => free_of HF11.out o
          have t0 : w.heap.size + 1 < w1.heap.size := by omega
          have hv3 := vld_in hvl
          have HG1 : Hid (Five ((((w1.setCell ⟨w.heap.size + 1, 1, none⟩ (.int .u32 (pp.1 : Int))).setCell ⟨w.heap.size + 1, 2, none⟩ (.int .i64 pp.2)).setCell ⟨w.heap.size + 1, 3, none⟩ (.int .i64 pp.2)).alloc (.cells #[.int .u32 (pp.1 : Int), .int .i64 pp.2] 25)) (w.heap.size + 1) (.bool true) (.int .u32 (pp.1 : Int)) (.int .i64 pp.2) (.int .i64 pp.2) (.int .i64 0)) := (((HF11.out.set1 _).set2 _).set3 _).below (below_alloc _ _)
          have HG0 : Hid (Five ((((w1.setCell ⟨w.heap.size + 1, 1, none⟩ (.int .u32 (pp.1 : Int))).setCell ⟨w.heap.size + 1, 2, none⟩ (.int .i64 pp.2)).setCell ⟨w.heap.size + 1, 3, none⟩ (.int .i64 pp.2)).alloc (.cells #[.int .u32 (pp.1 : Int), .int .i64 pp.2] 25)) w.heap.size (.bool false) (.int .u32 0) (.int .i64 0) (.int .i64 0) (.int .i64 0)) := (((HF01.out.other (by omega)).other (by omega)).other (by omega)).below (below_alloc _ _)
          have HGB : Hid (Below w.heap.size w ((((w1.setCell ⟨w.heap.size + 1, 1, none⟩ (.int .u32 (pp.1 : Int))).setCell ⟨w.heap.size + 1, 2, none⟩ (.int .i64 pp.2)).setCell ⟨w.heap.size + 1, 3, none⟩ (.int .i64 pp.2)).alloc (.cells #[.int .u32 (pp.1 : Int), .int .i64 pp.2] 25))) := below_then (((HB1.out.setCell (by simp) _).setCell (by simp) _).setCell (by simp) _) (below_alloc _ _)
          have HM0 : Hid (∀ mn mx : Int, pp.2 ≤ mn → mn < pp.2 → mn ≤ mx → mx ≤ 32 → rtxtL (true, pp, mn, mx) ≠ l) := fun mn mx h1 h2 => by omega
          go_wp2_with fail
          clear f0 f1 f2 f3 f4 fr
          go_loopg [9, 10] 40 (fun g s9 s10 wr => ∃ mn mx : Int, pp.2 ≤ mn ∧ mn ≤ 33 ∧ (33 - mn).toNat ≤ g ∧ (∃ q, q = s9) ∧ (∃ q, q = s10) ∧ Hid (Five wr (w.heap.size + 1) (.bool true) (.int .u32 (pp.1 : Int)) (.int .i64 pp.2) (.int .i64 mn) (.int .i64 mx)) ∧ Hid (Five wr w.heap.size (.bool false) (.int .u32 0) (.int .i64 0) (.int .i64 0) (.int .i64 0)) ∧ Hid (Below w.heap.size w wr) ∧ Hid (∀ mn' mx' : Int, pp.2 ≤ mn' → mn' < mn → mn' ≤ mx' → mx' ≤ 32 → rtxtL (true, pp, mn', mx') ≠ l))
          case atStart => exact ⟨pp.2, 0, by omega, by omega, by omega, ⟨_, rfl⟩, ⟨_, rfl⟩, HG1, HG0, HGB, HM0⟩
          case round =>
            clear HG1 HG0 HGB HM0 HB1 HF01 HF11 HF0 HF1 HBX
            obtain ⟨mn, mx0, hm1, hm2, hmg, ⟨u9, rfl⟩, ⟨u10, rfl⟩, HG1, HG0, HGB, HM⟩ := hrel
            obtain ⟨f0, f1, f2, f3, f4⟩ := HG1.out.cells
            have fr := fun o => free_of HG1.out o
            have hlt := lt_block HG1.out
            by_cases hm : mn ≤ 32
            · have hmd : decide (mn ≤ 32) = true := decide_eq_true hm
              have HK1 : Hid (Five (wr.setCell ⟨w.heap.size + 1, 4, none⟩ (.int .i64 mn)) (w.heap.size + 1) (.bool true) (.int .u32 (pp.1 : Int)) (.int .i64 pp.2) (.int .i64 mn) (.int .i64 mn)) := HG1.out.set4 _
              have HK0 : Hid (Five (wr.setCell ⟨w.heap.size + 1, 4, none⟩ (.int .i64 mn)) w.heap.size (.bool false) (.int .u32 0) (.int .i64 0) (.int .i64 0) (.int .i64 0)) := HG0.out.other (by omega)
              have HKB : Hid (Below w.heap.size w (wr.setCell ⟨w.heap.size + 1, 4, none⟩ (.int .i64 mn))) := HGB.out.setCell (by simp) _
              have HI0 : Hid (∀ mx' : Int, mn ≤ mx' → mx' < mn → rtxtL (true, pp, mn, mx') ≠ l) := fun mx h1 h2 => by omega
              go_wp2_with fail
              clear f0 f1 f2 f3 f4 fr
              go_loopg [9, 10] 40 (fun g s9 s10 wr => ∃ mx : Int, mn ≤ mx ∧ mx ≤ 33 ∧ (33 - mx).toNat ≤ g ∧ (∃ q, q = s9) ∧ (∃ q, q = s10) ∧ Hid (Five wr (w.heap.size + 1) (.bool true) (.int .u32 (pp.1 : Int)) (.int .i64 pp.2) (.int .i64 mn) (.int .i64 mx)) ∧ Hid (Five wr w.heap.size (.bool false) (.int .u32 0) (.int .i64 0) (.int .i64 0) (.int .i64 0)) ∧ Hid (Below w.heap.size w wr) ∧ Hid (∀ mx' : Int, mn ≤ mx' → mx' < mx → rtxtL (true, pp, mn, mx') ≠ l))
              case atStart => exact ⟨mn, by omega, by omega, by omega, ⟨_, rfl⟩, ⟨_, rfl⟩, HK1, HK0, HKB, HI0⟩
              case round =>
                clear HK1 HK0 HKB HI0 HG1 HG0 HGB hlt
                obtain ⟨mx, hx1, hx2, hxg, ⟨u9, rfl⟩, ⟨u10, rfl⟩, HG1, HG0, HGB, HI⟩ := hrel
                obtain ⟨f0, f1, f2, f3, f4⟩ := HG1.out.cells
                have fr := fun o => free_of HG1.out o
                have hlt := lt_block HG1.out
                by_cases hx : mx ≤ 32
                · have hxd : decide (mx ≤ 32) = true := decide_eq_true hx
                  have hzz : chkR (true, pp, mn, mx) = 0 := chk_mk hvl hm1 hx1 hx
                  have i1 : I64 pp.2 := by constructor <;> omega
                  have i2 : I64 mn := by constructor <;> omega
                  have i3 : I64 mx := by constructor <;> omega
                  have hrok : RuOk (true, pp, mn, mx) := ⟨HPO.out, i1, i2, i3⟩
                  have HT18 : Hid (∀ W, Calls Tryd.prog 18 #[ruV (true, pp, mn, mx)] W fun e w' => e = .returned (.tuple #[.string (bs (rtxtL (true, pp, mn, mx))), .int .i64 0]) ∧ Below W.heap.size W w') := fun W => by
                    have h := rtext19_any (true, pp, mn, mx) hrok W
                    have e : txV (true, pp, mn, mx) = .tuple #[.string (bs (rtxtL (true, pp, mn, mx))), .int .i64 0] := by unfold txV; rw [if_pos hzz, hzz]
                    rwa [e] at h
                  have hq := HEQ.out (true, pp, mn, mx)
                  have HYR : Hid (rtxtL (true, pp, mn, mx) = l → parR l = some (true, pp, mn, mx)) := yes_range HPO.out hvl hm1 hx1 hx
                  by_cases hyes : rtxtL (true, pp, mn, mx) = l
                  · rw [decide_eq_true hyes] at hq
                    have HY : Hid (parR l = some (true, pp, mn, mx)) := HYR.out hyes
                    generalize bs (rtxtL (true, pp, mn, mx)) = T1 at *
                    clear hyes HYR
                    go_wp2_with fail
                    go_at_call 18
                    refine (HT18.out _).mono ?_
                    rintro e w2 ⟨rfl, hw2⟩
                    have HJ1 := Lib.hid (HG1.out.below hw2)
                    have HJ0 := Lib.hid (HG0.out.below hw2)
                    have HJB := Lib.hid (below_then HGB.out hw2)
                    clear hw2 f0 f1 f2 f3 f4 fr
                    obtain ⟨f0, f1, f2, f3, f4⟩ := HJ1.out.cells
                    obtain ⟨y0, y1, y2, y3, y4⟩ := HJ0.out.cells
                    have fr := fun o => free_of HJ0.out o
                    go_wp2_with fail
                    refine bodyPost_ret (v := .tuple #[ruV (true, pp, mn, mx), .int .i64 0]) (by simp [results, Tryd.results20, go_sem, y0, y1, y2, y3, y4]) rfl ⟨by rw [HY.out]; rfl, ?_⟩
                    exact ((((HJB.out.setCell (by simp) _).setCell (by simp) _).setCell (by simp) _).setCell (by simp) _).setCell (by simp) _
                  · rw [decide_eq_false hyes] at hq
                    have HI2 : Hid (∀ mx' : Int, mn ≤ mx' → mx' < mx + 1 → rtxtL (true, pp, mn, mx') ≠ l) := fun mx' h1 h2 => by
                      by_cases e : mx' = mx
                      · rw [e]; exact hyes
                      · exact HI.out mx' h1 (by omega)
                    generalize bs (rtxtL (true, pp, mn, mx)) = T1 at *
                    clear hyes HYR HI
                    go_wp2_with fail
                    go_at_call 18
                    refine (HT18.out _).mono ?_
                    rintro e w2 ⟨rfl, hw2⟩
                    have HJ1 := Lib.hid (HG1.out.below hw2)
                    have HJ0 := Lib.hid (HG0.out.below hw2)
                    have HJB := Lib.hid (below_then HGB.out hw2)
                    clear hw2 f0 f1 f2 f3 f4 fr
                    obtain ⟨f0, f1, f2, f3, f4⟩ := HJ1.out.cells
                    have fr := fun o => free_of HJ1.out o
                    have HK1 : Hid (Five (w2.setCell ⟨w.heap.size + 1, 4, none⟩ (.int .i64 (mx + 1))) (w.heap.size + 1) (.bool true) (.int .u32 (pp.1 : Int)) (.int .i64 pp.2) (.int .i64 mn) (.int .i64 (mx + 1))) := HJ1.out.set4 _
                    have HK0 : Hid (Five (w2.setCell ⟨w.heap.size + 1, 4, none⟩ (.int .i64 (mx + 1))) w.heap.size (.bool false) (.int .u32 0) (.int .i64 0) (.int .i64 0) (.int .i64 0)) := HJ0.out.other (by omega)
                    have HKB : Hid (Below w.heap.size w (w2.setCell ⟨w.heap.size + 1, 4, none⟩ (.int .i64 (mx + 1)))) := HJB.out.setCell (by simp) _
                    go_wp2_with fail
                    go_roundg (33 - (mx + 1)).toNat
                    case measure => omega
                    case rel => exact ⟨mx + 1, by omega, by omega, by omega, ⟨_, rfl⟩, ⟨_, rfl⟩, HK1, HK0, HKB, HI2⟩
                · have hxd : decide (mx ≤ 32) = false := decide_eq_false hx
                  have hx33 : mx = 33 := by omega
                  have HM2 : Hid (∀ mn' mx' : Int, pp.2 ≤ mn' → mn' < mn + 1 → mn' ≤ mx' → mx' ≤ 32 → rtxtL (true, pp, mn', mx') ≠ l) := fun mn' mx' h1 h2 h3 h4 => by
                    by_cases e : mn' = mn
                    · subst e; exact HI.out mx' h3 (by omega)
                    · exact HM.out mn' mx' h1 (by omega) h3 h4
                  have HK1 : Hid (Five (wr.setCell ⟨w.heap.size + 1, 3, none⟩ (.int .i64 (mn + 1))) (w.heap.size + 1) (.bool true) (.int .u32 (pp.1 : Int)) (.int .i64 pp.2) (.int .i64 (mn + 1)) (.int .i64 mx)) := HG1.out.set3 _
                  have HK0 : Hid (Five (wr.setCell ⟨w.heap.size + 1, 3, none⟩ (.int .i64 (mn + 1))) w.heap.size (.bool false) (.int .u32 0) (.int .i64 0) (.int .i64 0) (.int .i64 0)) := HG0.out.other (by omega)
                  have HKB : Hid (Below w.heap.size w (wr.setCell ⟨w.heap.size + 1, 3, none⟩ (.int .i64 (mn + 1)))) := HGB.out.setCell (by simp) _
                  go_wp2_with fail
                  go_roundg (33 - (mn + 1)).toNat
                  case measure => omega
                  case rel => exact ⟨mn + 1, mx, by omega, by omega, by omega, ⟨_, rfl⟩, ⟨_, rfl⟩, HK1, HK0, HKB, HM2⟩
            · have hmd : decide (mn ≤ 32) = false := decide_eq_false hm
              have HNN : Hid (parR l = none) := HNR.out (fun mn' mx' h1 h2 h3 => HM.out mn' mx' h1 (by omega) h2 h3)
              obtain ⟨y0, y1, y2, y3, y4⟩ := HG0.out.cells
              have fr0 := fun o => free_of HG0.out o
              go_wp2_with fail
              refine bodyPost_ret (v := .tuple #[ruV zeroR, .int .i64 2]) (by simp [results, Tryd.results20, go_sem, y0, y1, y2, y3, y4, zeroR]) rfl ⟨by rw [HNN.out]; rfl, ?_⟩
              exact ((((HGB.out.setCell (by simp) _).setCell (by simp) _).setCell (by simp) _).setCell (by simp) _).setCell (by simp) _
        · have hcb : (cc == 0) = false := by simpa using hcc
          have HN : Hid (parR l = none) := HNP.out hcc
          obtain ⟨y0, y1, y2, y3, y4⟩ := HF01.out.cells
          have fr := fun o => free_of HF01.out o
          have t0 : w.heap.size < w1.heap.size := by omega
          go_wp2_with fail
          refine bodyPost_ret (v := .tuple #[ruV zeroR, .int .i64 2]) (by simp [results, Tryd.results20, go_sem, y0, y1, y2, y3, y4, t0, zeroR]) rfl ⟨by rw [HN.out]; rfl, ?_⟩
          exact (((((HB1.out.setCell (by simp) _).setCell (by simp) _).setCell (by simp) _).setCell (by simp) _).setCell (by simp) _).alloc (by simp; omega) _
      · have k1 : (k : Int) < (R.size : Int) := by omega
        have HC35 := HP35
        go_wp2_with fail
        go_at_call 35
        refine (HC35.out _).mono ?_
        rintro e w1 ⟨rfl, hw1⟩
        have HB1 := Lib.hid (below_then HBX.out hw1)
        have HF01 := Lib.hid (HF0.out.below hw1)
        have HF11 := Lib.hid (HF1.out.below hw1)
        have hs1 : w.heap.size + 2 ≤ w1.heap.size := by have := hw1.size; rw [← HS1.out] at this; exact this
        clear hw1
        by_cases hcc : cc = 0
        · subst hcc
          have hvl := HVL.out rfl
          obtain ⟨f0, f1, f2, f3, f4⟩ := HF11.out.cells
          have fr := fun o => free_of HF11.out o
          have t0 : w.heap.size + 1 < w1.heap.size := by omega
          have hv3 := vld_in hvl
          have HG1 : Hid (Five ((((w1.setCell ⟨w.heap.size + 1, 1, none⟩ (.int .u32 (pp.1 : Int))).setCell ⟨w.heap.size + 1, 2, none⟩ (.int .i64 pp.2)).setCell ⟨w.heap.size + 1, 3, none⟩ (.int .i64 pp.2)).alloc (.cells #[.int .u32 (pp.1 : Int), .int .i64 pp.2] 25)) (w.heap.size + 1) (.bool true) (.int .u32 (pp.1 : Int)) (.int .i64 pp.2) (.int .i64 pp.2) (.int .i64 0)) := (((HF11.out.set1 _).set2 _).set3 _).below (below_alloc _ _)
          have HG0 : Hid (Five ((((w1.setCell ⟨w.heap.size + 1, 1, none⟩ (.int .u32 (pp.1 : Int))).setCell ⟨w.heap.size + 1, 2, none⟩ (.int .i64 pp.2)).setCell ⟨w.heap.size + 1, 3, none⟩ (.int .i64 pp.2)).alloc (.cells #[.int .u32 (pp.1 : Int), .int .i64 pp.2] 25)) w.heap.size (.bool false) (.int .u32 0) (.int .i64 0) (.int .i64 0) (.int .i64 0)) := (((HF01.out.other (by omega)).other (by omega)).other (by omega)).below (below_alloc _ _)
          have HGB : Hid (Below w.heap.size w ((((w1.setCell ⟨w.heap.size + 1, 1, none⟩ (.int .u32 (pp.1 : Int))).setCell ⟨w.heap.size + 1, 2, none⟩ (.int .i64 pp.2)).setCell ⟨w.heap.size + 1, 3, none⟩ (.int .i64 pp.2)).alloc (.cells #[.int .u32 (pp.1 : Int), .int .i64 pp.2] 25))) := below_then (((HB1.out.setCell (by simp) _).setCell (by simp) _).setCell (by simp) _) (below_alloc _ _)
          have HM0 : Hid (∀ mn mx : Int, pp.2 ≤ mn → mn < pp.2 → mn ≤ mx → mx ≤ 32 → rtxtL (true, pp, mn, mx) ≠ l) := fun mn mx h1 h2 => by omega
          go_wp2_with fail
          clear f0 f1 f2 f3 f4 fr
          go_loopg [9, 10] 40 (fun g s9 s10 wr => ∃ mn mx : Int, pp.2 ≤ mn ∧ mn ≤ 33 ∧ (33 - mn).toNat ≤ g ∧ (∃ q, q = s9) ∧ (∃ q, q = s10) ∧ Hid (Five wr (w.heap.size + 1) (.bool true) (.int .u32 (pp.1 : Int)) (.int .i64 pp.2) (.int .i64 mn) (.int .i64 mx)) ∧ Hid (Five wr w.heap.size (.bool false) (.int .u32 0) (.int .i64 0) (.int .i64 0) (.int .i64 0)) ∧ Hid (Below w.heap.size w wr) ∧ Hid (∀ mn' mx' : Int, pp.2 ≤ mn' → mn' < mn → mn' ≤ mx' → mx' ≤ 32 → rtxtL (true, pp, mn', mx') ≠ l))
          case atStart => exact ⟨pp.2, 0, by omega, by omega, by omega, ⟨_, rfl⟩, ⟨_, rfl⟩, HG1, HG0, HGB, HM0⟩
          case round =>
            clear HG1 HG0 HGB HM0 HB1 HF01 HF11 HF0 HF1 HBX
            obtain ⟨mn, mx0, hm1, hm2, hmg, ⟨u9, rfl⟩, ⟨u10, rfl⟩, HG1, HG0, HGB, HM⟩ := hrel
            obtain ⟨f0, f1, f2, f3, f4⟩ := HG1.out.cells
            have fr := fun o => free_of HG1.out o
            have hlt := lt_block HG1.out
            by_cases hm : mn ≤ 32
            · have hmd : decide (mn ≤ 32) = true := decide_eq_true hm
              have HK1 : Hid (Five (wr.setCell ⟨w.heap.size + 1, 4, none⟩ (.int .i64 mn)) (w.heap.size + 1) (.bool true) (.int .u32 (pp.1 : Int)) (.int .i64 pp.2) (.int .i64 mn) (.int .i64 mn)) := HG1.out.set4 _
              have HK0 : Hid (Five (wr.setCell ⟨w.heap.size + 1, 4, none⟩ (.int .i64 mn)) w.heap.size (.bool false) (.int .u32 0) (.int .i64 0) (.int .i64 0) (.int .i64 0)) := HG0.out.other (by omega)
              have HKB : Hid (Below w.heap.size w (wr.setCell ⟨w.heap.size + 1, 4, none⟩ (.int .i64 mn))) := HGB.out.setCell (by simp) _
              have HI0 : Hid (∀ mx' : Int, mn ≤ mx' → mx' < mn → rtxtL (true, pp, mn, mx') ≠ l) := fun mx h1 h2 => by omega
              go_wp2_with fail
              clear f0 f1 f2 f3 f4 fr
              go_loopg [9, 10] 40 (fun g s9 s10 wr => ∃ mx : Int, mn ≤ mx ∧ mx ≤ 33 ∧ (33 - mx).toNat ≤ g ∧ (∃ q, q = s9) ∧ (∃ q, q = s10) ∧ Hid (Five wr (w.heap.size + 1) (.bool true) (.int .u32 (pp.1 : Int)) (.int .i64 pp.2) (.int .i64 mn) (.int .i64 mx)) ∧ Hid (Five wr w.heap.size (.bool false) (.int .u32 0) (.int .i64 0) (.int .i64 0) (.int .i64 0)) ∧ Hid (Below w.heap.size w wr) ∧ Hid (∀ mx' : Int, mn ≤ mx' → mx' < mx → rtxtL (true, pp, mn, mx') ≠ l))
              case atStart => exact ⟨mn, by omega, by omega, by omega, ⟨_, rfl⟩, ⟨_, rfl⟩, HK1, HK0, HKB, HI0⟩
              case round =>
                clear HK1 HK0 HKB HI0 HG1 HG0 HGB hlt
                obtain ⟨mx, hx1, hx2, hxg, ⟨u9, rfl⟩, ⟨u10, rfl⟩, HG1, HG0, HGB, HI⟩ := hrel
                obtain ⟨f0, f1, f2, f3, f4⟩ := HG1.out.cells
                have fr := fun o => free_of HG1.out o
                have hlt := lt_block HG1.out
                by_cases hx : mx ≤ 32
                · have hxd : decide (mx ≤ 32) = true := decide_eq_true hx
                  have hzz : chkR (true, pp, mn, mx) = 0 := chk_mk hvl hm1 hx1 hx
                  have i1 : I64 pp.2 := by constructor <;> omega
                  have i2 : I64 mn := by constructor <;> omega
                  have i3 : I64 mx := by constructor <;> omega
                  have hrok : RuOk (true, pp, mn, mx) := ⟨HPO.out, i1, i2, i3⟩
                  have HT18 : Hid (∀ W, Calls Tryd.prog 18 #[ruV (true, pp, mn, mx)] W fun e w' => e = .returned (.tuple #[.string (bs (rtxtL (true, pp, mn, mx))), .int .i64 0]) ∧ Below W.heap.size W w') := fun W => by
                    have h := rtext19_any (true, pp, mn, mx) hrok W
                    have e : txV (true, pp, mn, mx) = .tuple #[.string (bs (rtxtL (true, pp, mn, mx))), .int .i64 0] := by unfold txV; rw [if_pos hzz, hzz]
                    rwa [e] at h
                  have hq := HEQ.out (true, pp, mn, mx)
                  have HYR : Hid (rtxtL (true, pp, mn, mx) = l → parR l = some (true, pp, mn, mx)) := yes_range HPO.out hvl hm1 hx1 hx
                  by_cases hyes : rtxtL (true, pp, mn, mx) = l
                  · rw [decide_eq_true hyes] at hq
                    have HY : Hid (parR l = some (true, pp, mn, mx)) := HYR.out hyes
                    generalize bs (rtxtL (true, pp, mn, mx)) = T1 at *
                    clear hyes HYR
                    go_wp2_with fail
                    go_at_call 18
                    refine (HT18.out _).mono ?_
                    rintro e w2 ⟨rfl, hw2⟩
                    have HJ1 := Lib.hid (HG1.out.below hw2)
                    have HJ0 := Lib.hid (HG0.out.below hw2)
                    have HJB := Lib.hid (below_then HGB.out hw2)
                    clear hw2 f0 f1 f2 f3 f4 fr
                    obtain ⟨f0, f1, f2, f3, f4⟩ := HJ1.out.cells
                    obtain ⟨y0, y1, y2, y3, y4⟩ := HJ0.out.cells
                    have fr := fun o => free_of HJ0.out o
                    go_wp2_with fail
                    refine bodyPost_ret (v := .tuple #[ruV (true, pp, mn, mx), .int .i64 0]) (by simp [results, Tryd.results20, go_sem, y0, y1, y2, y3, y4]) rfl ⟨by rw [HY.out]; rfl, ?_⟩
                    exact ((((HJB.out.setCell (by simp) _).setCell (by simp) _).setCell (by simp) _).setCell (by simp) _).setCell (by simp) _
                  · rw [decide_eq_false hyes] at hq
                    have HI2 : Hid (∀ mx' : Int, mn ≤ mx' → mx' < mx + 1 → rtxtL (true, pp, mn, mx') ≠ l) := fun mx' h1 h2 => by
                      by_cases e : mx' = mx
                      · rw [e]; exact hyes
                      · exact HI.out mx' h1 (by omega)
                    generalize bs (rtxtL (true, pp, mn, mx)) = T1 at *
                    clear hyes HYR HI
                    go_wp2_with fail
                    go_at_call 18
                    refine (HT18.out _).mono ?_
                    rintro e w2 ⟨rfl, hw2⟩
                    have HJ1 := Lib.hid (HG1.out.below hw2)
                    have HJ0 := Lib.hid (HG0.out.below hw2)
                    have HJB := Lib.hid (below_then HGB.out hw2)
                    clear hw2 f0 f1 f2 f3 f4 fr
                    obtain ⟨f0, f1, f2, f3, f4⟩ := HJ1.out.cells
                    have fr := fun o => free_of HJ1.out o
                    have HK1 : Hid (Five (w2.setCell ⟨w.heap.size + 1, 4, none⟩ (.int .i64 (mx + 1))) (w.heap.size + 1) (.bool true) (.int .u32 (pp.1 : Int)) (.int .i64 pp.2) (.int .i64 mn) (.int .i64 (mx + 1))) := HJ1.out.set4 _
                    have HK0 : Hid (Five (w2.setCell ⟨w.heap.size + 1, 4, none⟩ (.int .i64 (mx + 1))) w.heap.size (.bool false) (.int .u32 0) (.int .i64 0) (.int .i64 0) (.int .i64 0)) := HJ0.out.other (by omega)
                    have HKB : Hid (Below w.heap.size w (w2.setCell ⟨w.heap.size + 1, 4, none⟩ (.int .i64 (mx + 1)))) := HJB.out.setCell (by simp) _
                    go_wp2_with fail
                    go_roundg (33 - (mx + 1)).toNat
                    case measure => omega
                    case rel => exact ⟨mx + 1, by omega, by omega, by omega, ⟨_, rfl⟩, ⟨_, rfl⟩, HK1, HK0, HKB, HI2⟩
                · have hxd : decide (mx ≤ 32) = false := decide_eq_false hx
                  have hx33 : mx = 33 := by omega
                  have HM2 : Hid (∀ mn' mx' : Int, pp.2 ≤ mn' → mn' < mn + 1 → mn' ≤ mx' → mx' ≤ 32 → rtxtL (true, pp, mn', mx') ≠ l) := fun mn' mx' h1 h2 h3 h4 => by
                    by_cases e : mn' = mn
                    · subst e; exact HI.out mx' h3 (by omega)
                    · exact HM.out mn' mx' h1 (by omega) h3 h4
                  have HK1 : Hid (Five (wr.setCell ⟨w.heap.size + 1, 3, none⟩ (.int .i64 (mn + 1))) (w.heap.size + 1) (.bool true) (.int .u32 (pp.1 : Int)) (.int .i64 pp.2) (.int .i64 (mn + 1)) (.int .i64 mx)) := HG1.out.set3 _
                  have HK0 : Hid (Five (wr.setCell ⟨w.heap.size + 1, 3, none⟩ (.int .i64 (mn + 1))) w.heap.size (.bool false) (.int .u32 0) (.int .i64 0) (.int .i64 0) (.int .i64 0)) := HG0.out.other (by omega)
                  have HKB : Hid (Below w.heap.size w (wr.setCell ⟨w.heap.size + 1, 3, none⟩ (.int .i64 (mn + 1)))) := HGB.out.setCell (by simp) _
                  go_wp2_with fail
                  go_roundg (33 - (mn + 1)).toNat
                  case measure => omega
                  case rel => exact ⟨mn + 1, mx, by omega, by omega, by omega, ⟨_, rfl⟩, ⟨_, rfl⟩, HK1, HK0, HKB, HM2⟩
            · have hmd : decide (mn ≤ 32) = false := decide_eq_false hm
              have HNN : Hid (parR l = none) := HNR.out (fun mn' mx' h1 h2 h3 => HM.out mn' mx' h1 (by omega) h2 h3)
              obtain ⟨y0, y1, y2, y3, y4⟩ := HG0.out.cells
              have fr0 := fun o => free_of HG0.out o
              go_wp2_with fail
              refine bodyPost_ret (v := .tuple #[ruV zeroR, .int .i64 2]) (by simp [results, Tryd.results20, go_sem, y0, y1, y2, y3, y4, zeroR]) rfl ⟨by rw [HNN.out]; rfl, ?_⟩
              exact ((((HGB.out.setCell (by simp) _).setCell (by simp) _).setCell (by simp) _).setCell (by simp) _).setCell (by simp) _
        · have hcb : (cc == 0) = false := by simpa using hcc
          have HN : Hid (parR l = none) := HNP.out hcc
          obtain ⟨y0, y1, y2, y3, y4⟩ := HF01.out.cells
          have fr := fun o => free_of HF01.out o
          have t0 : w.heap.size < w1.heap.size := by omega
          go_wp2_with fail
          refine bodyPost_ret (v := .tuple #[ruV zeroR, .int .i64 2]) (by simp [results, Tryd.results20, go_sem, y0, y1, y2, y3, y4, t0, zeroR]) rfl ⟨by rw [HN.out]; rfl, ?_⟩
          exact (((((HB1.out.setCell (by simp) _).setCell (by simp) _).setCell (by simp) _).setCell (by simp) _).setCell (by simp) _).alloc (by simp; omega) _
end Go.Proofs.YtiiojkekcnmddaaDoor
