/-
  The walk of symMerge at edges where the second part holds one edge.
-/
import Derived.Test.YtiodpgannelgpaaGrSl
namespace Go.Proofs.Ytiodpgannelgpaa
open Go.RowKit GM Go.Sort Go.Lib
set_option linter.unusedSimpArgs false
set_option linter.unusedVariables false
set_option maxHeartbeats 4000000
set_option maxRecDepth 100000

theorem swp_list' {P Q S : List E} {x y : E} {d : Array E} {i j : Nat} (h : d.toList = P ++ x :: (Q ++ y :: S)) (hi : i = P.length) (hj : j = P.length + 1 + Q.length) : (swp d j i).toList = P ++ y :: (Q ++ x :: S) := by
  have hd : d = (P ++ x :: (Q ++ y :: S)).toArray := by rw [← h]
  subst hd hi hj
  have h1 : (P ++ x :: (Q ++ y :: S))[P.length + 1 + Q.length]? = some y := by
    rw [List.getElem?_append_right (by omega), show P.length + 1 + Q.length - P.length = Q.length + 1 by omega, List.getElem?_cons_succ, List.getElem?_append_right (by omega)]
    simp
  have h0 : (P ++ x :: (Q ++ y :: S))[P.length]? = some x := by simp
  unfold swp
  simp only [Array.toList_setIfInBounds, List.getElem!_toArray, List.getElem!_eq_getElem?_getD, h0, h1, Option.getD_some]
  rw [List.set_append_right _ _ (by omega), show P.length + 1 + Q.length - P.length = Q.length + 1 by omega, List.set_cons_succ, List.set_append_right _ _ (by omega), Nat.sub_self, List.set_cons_zero, List.set_append_right _ _ (by omega), Nat.sub_self, List.set_cons_zero]

theorem merge_right (blk cap : Nat) (d0 : Array E) (w0 : World) (R : RowK encE 3 w0 blk 0 d0) (hsz : d0.size < 4611686018427387904)
    (A u C : List E) (x : E) (d : Array E) (w : World) (a m b : Nat) (hd : d.toList = A ++ (u ++ (x :: C))) (hs : d.size = d0.size) (S : SW w0 blk d w) (ha : a = A.length) (hm : m = a + u.length) (hb : b = m + 1) (hu : SrtE u) (hu1 : 1 < u.length) :
    Calls Try.prog 115 #[.slice (some ⟨blk, 0, none⟩) d0.size cap, .int .i64 a, .int .i64 m, .int .i64 b, .func (.func 51) #[] #[]] w fun e w' => e = .returned (.tuple #[]) ∧ ∃ (d' : Array E) (z : List E), MergeP u [x] z ∧ d'.toList = A ++ (z ++ C) ∧ d'.size = d0.size ∧ SW w0 blk d' w' := by
  have mixed := Try.sortE.mixed
  have hl := arr_len hd
  simp only [List.length_append, List.length_cons] at hl
  have HE : Hid (a = A.length ∧ m = a + u.length ∧ b = m + 1 ∧ d.toList = A ++ (u ++ (x :: C)) ∧ d.size = d0.size ∧ SrtE u) := ⟨ha, hm, hb, hd, hs, hu⟩
  have S0 : Hid (SW w0 blk d w) := S
  have hma : ((m : Int) - (a : Int) == 1) = false := by rw [beq_eq_false_iff_ne]; omega
  have hma' : ((m : Int) - (a : Int) != 1) = true := by rw [bne_iff_ne]; omega
  have hbm : (b : Int) - (m : Int) = 1 := by omega
  have hmb : m < b := by omega
  have hbd : b ≤ d0.size := by omega
  have ham : a ≤ m := by omega
  have hxm : d.toList[m]? = some x := by rw [hd, hm, ha, List.getElem?_append_right (by omega), Nat.add_sub_cancel_left, List.getElem?_append_right (by omega)]; simp
  have HXA := Lib.hid hxm
  clear S hd hs ha hm hb hu hl hxm hu1
  go_enter Try.func115, Try.ntmps115
  go_wp2
  go_loopg [14, 15, 16] m (fun g s14 s15 s16 wr => ∃ (i j : Nat), s14 = .int .i64 i ∧ s15 = .int .i64 j ∧ (∃ v, v = s16) ∧ a ≤ i ∧ i ≤ j ∧ j ≤ m ∧ j - i ≤ g ∧ Hid ((∀ k y, u[k]? = some y → a + k < i → bef x y = false) ∧ (∀ k y, u[k]? = some y → j ≤ a + k → bef x y = true) ∧ SW w0 blk d wr))
  case atStart => exact ⟨a, m, rfl, rfl, ⟨_, rfl⟩, Nat.le_refl _, ham, Nat.le_refl _, by omega, fun k y h1 h2 => by omega, fun k y h1 h2 => by have := (List.getElem?_eq_some_iff.1 h1).1; have := HE.out; omega, S0.out⟩
  case round =>
    clear S0
    obtain ⟨i, j, rfl, rfl, ⟨v12, rfl⟩, hmi, hij, hjb, hg, HI⟩ := hrel
    by_cases hlt : i < j
    · go_wp2
      obtain ⟨h, hh⟩ : ∃ h : Nat, h = (i + j) / 2 := ⟨_, rfl⟩
      have eh : ((i : Int) + (j : Int)) / 2 = (h : Int) := by omega
      simp only [eh]
      have hih : i ≤ h := by omega
      have hhj : h < j := by omega
      have hhl : h < d0.size := by omega
      have hal : m < d0.size := by omega
      clear eh hh
      obtain ⟨y, hy, hyv⟩ : ∃ y, d.toList[h]? = some y ∧ u[h - a]? = some y := by
        obtain ⟨e1, e2, e3, e4, e5, e6⟩ := HE.out
        refine ⟨u[h - a]'(by omega), ?_, List.getElem?_eq_getElem _⟩
        rw [e4, List.getElem?_append_right (by omega), show h - A.length = h - a by omega, List.getElem?_append_left (by omega)]
        exact List.getElem?_eq_getElem _
      have hx := HXA.out
      have cy := fun n os => (sw_grown R HI.out.2.2 HE.out.2.2.2.2.1 hy n os).1
      have cy1 := fun n os => (sw_grown R HI.out.2.2 HE.out.2.2.2.2.1 hy n os).2.1
      have cy2 := fun n os => (sw_grown R HI.out.2.2 HE.out.2.2.2.2.1 hy n os).2.2
      have cx := fun n os => (sw_grown R HI.out.2.2 HE.out.2.2.2.2.1 hx n os).1
      have cx1 := fun n os => (sw_grown R HI.out.2.2 HE.out.2.2.2.2.1 hx n os).2.1
      have cx2 := fun n os => (sw_grown R HI.out.2.2 HE.out.2.2.2.2.1 hx n os).2.2
      have HN := Lib.hid (ordC_neg (a := x) (b := y))
      have HYV := Lib.hid hyv
      have HP : Hid (∀ W, Calls Try.prog 51 #[.agg #[.int .i64 x.1, .int .i64 x.2.1, .int .i64 x.2.2], .agg #[.int .i64 y.1, .int .i64 y.2.1, .int .i64 y.2.2]] W fun e w' => e = .returned (.int .i64 (ordC x y)) ∧ Gr W w') := fun W => order_any x y W
      generalize ordC x y = z at HN HP
      obtain ⟨x0, x1, x2⟩ := x
      obtain ⟨y0, y1, y2⟩ := y
      dsimp only at cx cx1 cx2 cy cy1 cy2 HP
      clear hx hy hyv
      go_wp2_with fail
      go_quiet_grown (first | (go_at_call 51; refine Calls.grown_of (HP.out _)))
      have HI2 : Hid ((∀ k y, u[k]? = some y → a + k < i → bef (x0, x1, x2) y = false) ∧ (∀ k y, u[k]? = some y → j ≤ a + k → bef (x0, x1, x2) y = true) ∧ SW w0 blk d (grow (wr.drewN nq) osq)) := ⟨HI.out.1, HI.out.2.1, HI.out.2.2.grown nq osq⟩
      clear cx cx1 cx2 cy cy1 cy2 HP HI
      generalize grow (wr.drewN nq) osq = wu2 at HI2 ⊢
      clear nq osq
      by_cases hneg : z < 0
      · have HL : Hid (bef (x0, x1, x2) (y0, y1, y2) = true) := HN.out.1 hneg
        have hn1 : decide (z < 0) = true := decide_eq_true hneg
        simp only [hn1, Bool.not_true]
        go_wp2_with fail
        go_roundg (h - i)
        case measure => omega
        case rel =>
          refine ⟨i, h, rfl, rfl, ⟨_, rfl⟩, hmi, hih, by omega, Nat.le_refl _, HI2.out.1, fun k u2 hu hk => ?_, HI2.out.2.2⟩
          rcases (by omega : j ≤ a + k ∨ k = h - a ∨ (h - a < k)) with g1 | g1 | g1
          · exact HI2.out.2.1 k u2 hu g1
          · have := HYV.out; rw [g1, this] at hu; cases hu; exact HL.out
          · obtain ⟨a1, a2⟩ := List.getElem?_eq_some_iff.1 hu
            obtain ⟨b1, b2⟩ := List.getElem?_eq_some_iff.1 HYV.out
            have := List.pairwise_iff_getElem.1 HE.out.2.2.2.2.2 (h - a) k b1 a1 g1
            rw [a2, b2] at this
            exact lt_le HL.out this
      · have HL : Hid (bef (x0, x1, x2) (y0, y1, y2) = false) := by
          show _ = _
          cases hb : bef (x0, x1, x2) (y0, y1, y2)
          · rfl
          · exact absurd (HN.out.2 hb) hneg
        have hneg' : decide (z < 0) = false := decide_eq_false hneg; simp only [hneg', Bool.not_false]
        go_wp2_with fail
        go_roundg (j - (h + 1))
        case measure => omega
        case rel =>
          refine ⟨h + 1, j, by go_num, rfl, ⟨_, rfl⟩, by omega, by omega, hjb, Nat.le_refl _, fun k u2 hu hk => ?_, HI2.out.2.1, HI2.out.2.2⟩
          rcases (by omega : a + k < i ∨ k = h - a ∨ (k < h - a)) with g1 | g1 | g1
          · exact HI2.out.1 k u2 hu g1
          · have := HYV.out; rw [g1, this] at hu; cases hu; exact HL.out
          · obtain ⟨a1, a2⟩ := List.getElem?_eq_some_iff.1 hu
            obtain ⟨b1, b2⟩ := List.getElem?_eq_some_iff.1 HYV.out
            have := List.pairwise_iff_getElem.1 HE.out.2.2.2.2.2 k (h - a) a1 b1 g1
            rw [a2, b2] at this
            exact le_of this HL.out
    · obtain rfl : i = j := by omega
      go_wp2
      go_loopg [17] b (fun g s17 wr2 => ∃ (k : Nat) (dk : Array E), s17 = .int .i64 k ∧ i ≤ k ∧ k ≤ m ∧ k - i ≤ g ∧ Hid (dk.toList = A ++ (u.take (k - a) ++ (x :: (u.drop (k - a) ++ C))) ∧ dk.size = d0.size ∧ SW w0 blk dk wr2))
      case atStart => exact ⟨m, d, rfl, by omega, Nat.le_refl _, by omega, by obtain ⟨e1, e2, e3, e4, e5, e6⟩ := HE.out; rw [e4, List.take_of_length_le (by omega), List.drop_of_length_le (by omega)]; simp, HE.out.2.2.2.2.1, HI.out.2.2⟩
      case round =>
        obtain ⟨k, dk, rfl, hik, hkm, hg2, HK⟩ := hrel
        by_cases hlk : i < k
        · obtain ⟨k1, hk1⟩ : ∃ k1, k = k1 + 1 := ⟨k - 1, by omega⟩
          have ek : (k : Int) - 1 = (k1 : Int) := by omega
          have hk1s : k1 < d0.size := by omega
          have hks : k < d0.size := by omega
          obtain ⟨y, hy⟩ : ∃ y, u[k1 - a]? = some y := ⟨_, List.getElem?_eq_getElem (by have := HE.out; omega)⟩
          have htk : (u.take (k1 - a)).length = k1 - a := by rw [List.length_take]; have := HE.out; have := (List.getElem?_eq_some_iff.1 hy).1; omega
          have hdr : u.drop (k1 - a) = y :: u.drop (k - a) := by
            obtain ⟨e1, e2⟩ := List.getElem?_eq_some_iff.1 hy
            rw [List.drop_eq_getElem_cons e1, e2, show k1 - a + 1 = k - a by omega]
          have htk1 : u.take (k - a) = u.take (k1 - a) ++ [y] := by
            rw [show k - a = k1 - a + 1 by omega, List.take_add_one, hy]; rfl
          have hda : dk.toList = (A ++ u.take (k1 - a)) ++ y :: ([] ++ x :: (u.drop (k - a) ++ C)) := by rw [HK.out.1, htk1]; simp
          have hPl : (A ++ u.take (k1 - a)).length = k1 := by rw [List.length_append, htk]; have := HE.out; omega
          have hdk : dk.toList[k1]? = some y := by rw [hda, List.getElem?_append_right (by omega), hPl, Nat.sub_self]; rfl
          have hdk1 : dk.toList[k]? = some x := by rw [hda, List.getElem?_append_right (by omega), hPl, show k - k1 = 1 by omega]; rfl
          have HNX : Hid ((swp dk k k1).toList = A ++ (u.take (k1 - a) ++ (x :: (u.drop (k1 - a) ++ C)))) := by
            show _ = _
            rw [swp_list' hda hPl.symm (by rw [hPl]; simp; omega), hdr]; simp
          obtain ⟨⟨a0, a1, a2⟩, f0, f1, f2⟩ := sw_cells R HK.out.2.2 HK.out.2.1 hdk
          obtain ⟨⟨b0, b1, b2⟩, g0, g1, g2⟩ := sw_cells R HK.out.2.2 HK.out.2.1 hdk1
          obtain ⟨x0, x1, x2⟩ := x
          obtain ⟨y0, y1, y2⟩ := y
          dsimp only at a0 a1 a2 b0 b1 b2
          have HW := Lib.hid (sw_swap R HK.out.2.2 hdk1 hdk)
          have HKS : Hid (dk.size = d0.size ∧ k = k1 + 1) := ⟨HK.out.2.1, hk1⟩
          have hlkz : (i : Int) < (k : Int) := by omega
          have hk1p : 1 ≤ k := by omega
          clear hy htk hdr htk1 hda hPl hdk hdk1 HK HI hk1 HXA
          go_wp2_with fail
          go_big_region_o
          all_goals go_wp2
          all_goals go_roundg (k1 - i)
          case measure => have := HKS.out.2; omega
          case rel =>
            have hk1 := HKS.out.2
            exact ⟨k1, swp dk k k1, by first | go_num | (congr 1; omega), by omega, by omega, Nat.le_refl _, HNX.out, by rw [size_swp]; exact HKS.out.1, HW.out⟩
        · have hke : k = i := by omega
          have HF : Hid (∃ (d' : Array E) (z : List E), MergeP u [x] z ∧ d'.toList = A ++ (z ++ C) ∧ d'.size = d0.size ∧ SW w0 blk d' wr) := by
            obtain ⟨e1, e2, e3, e4, e5, e6⟩ := HE.out
            refine ⟨dk, u.take (k - a) ++ x :: u.drop (k - a), ?_, by rw [HK.out.1]; simp, HK.out.2.1, HK.out.2.2⟩
            have := MergeP.one_right (x := x) (u1 := u.take (k - a)) (u2 := u.drop (k - a)) (by rw [List.take_append_drop]; exact e6) (fun y hy => ?_) (fun y hy => ?_)
            · rwa [List.take_append_drop] at this
            · obtain ⟨t, ht, e⟩ := List.getElem_of_mem hy
              rw [List.length_take] at ht
              exact HI.out.1 t y (by rw [← e, List.getElem_take]; exact List.getElem?_eq_getElem _) (by omega)
            · obtain ⟨t, ht, e⟩ := List.getElem_of_mem hy
              rw [List.length_drop] at ht
              exact HI.out.2.1 (k - a + t) y (by rw [← e, List.getElem_drop]; exact List.getElem?_eq_getElem _) (by omega)
          have hlkz : ¬ (i : Int) < (k : Int) := by omega
          clear HK HI HXA HE
          go_wp2
          (try simp only [Exit.inBlock, Exit.then])
          refine bodyPost_ret (results_none rfl _ _ _) rfl ?_
          exact ⟨rfl, HF.out⟩
end Go.Proofs.Ytiodpgannelgpaa
