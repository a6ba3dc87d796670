/-
  The walk of symMerge at edges where one of the two parts holds one edge.
-/
import Derived.Test.YtiodpgannelgpaaGrRt
namespace Go.Proofs.Ytiodpgannelgpaa
open Go.RowKit GM Go.Sort Go.Lib
set_option linter.unusedSimpArgs false
set_option linter.unusedVariables false
set_option maxHeartbeats 4000000
set_option maxRecDepth 100000

theorem sw_cells {blk : Nat} {d0 d : Array E} {w0 W : World} (R : RowK encE 3 w0 blk 0 d0) (S : SW w0 blk d W) (hs : d.size = d0.size) {i : Nat} {x : E} (hx : d.toList[i]? = some x) :
    (W.cell? ⟨blk, i * 3, none⟩ = some (.int .i64 x.1) ∧ W.cell? ⟨blk, i * 3 + 1, none⟩ = some (.int .i64 x.2.1) ∧ W.cell? ⟨blk, i * 3 + 2, none⟩ = some (.int .i64 x.2.2)) ∧ W.frozen? ⟨blk, i * 3, none⟩ = false ∧ W.frozen? ⟨blk, i * 3 + 1, none⟩ = false ∧ W.frozen? ⟨blk, i * 3 + 2, none⟩ = false := by
  obtain ⟨hi, e⟩ := List.getElem?_eq_some_iff.1 hx
  have hi' : i < d.size := by simpa using hi
  have := he_cells (S.holds R.hblk R.hH hs) hi' (a := x.1) (b := x.2.1) (c := x.2.2) (by rw [getElem!_pos d i hi']; simpa using e)
  simpa only [Nat.zero_add] using this
theorem sw_grown {blk : Nat} {d0 d : Array E} {w0 W : World} (R : RowK encE 3 w0 blk 0 d0) (S : SW w0 blk d W) (hs : d.size = d0.size) {i : Nat} {x : E} (hx : d.toList[i]? = some x) (n : Nat) (os : Array Obj) :
    (grow (W.drewN n) os).cell? ⟨blk, i * 3, none⟩ = some (.int .i64 x.1) ∧ (grow (W.drewN n) os).cell? ⟨blk, i * 3 + 1, none⟩ = some (.int .i64 x.2.1) ∧ (grow (W.drewN n) os).cell? ⟨blk, i * 3 + 2, none⟩ = some (.int .i64 x.2.2) :=
  (sw_cells R (S.grown n os) hs hx).1
theorem sw_swap {blk : Nat} {d0 d : Array E} {w0 W : World} (R : RowK encE 3 w0 blk 0 d0) (S : SW w0 blk d W) {i j : Nat} {x y z p q r : Int} (hx : d.toList[i]? = some (x, y, z)) (hy : d.toList[j]? = some (p, q, r)) :
    SW w0 blk (swp d i j) (((((((W.setCell ⟨blk, i * 3, none⟩ (.int .i64 p)).setCell ⟨blk, i * 3 + 1, none⟩ (.int .i64 q)).setCell ⟨blk, i * 3 + 2, none⟩ (.int .i64 r)).setCell ⟨blk, j * 3, none⟩ (.int .i64 x)).setCell ⟨blk, j * 3 + 1, none⟩ (.int .i64 y)).setCell ⟨blk, j * 3 + 2, none⟩ (.int .i64 z)).drew) := by
  obtain ⟨hi, e1⟩ := List.getElem?_eq_some_iff.1 hx
  obtain ⟨hj, e2⟩ := List.getElem?_eq_some_iff.1 hy
  have hi' : i < d.size := by simpa using hi
  have hj' : j < d.size := by simpa using hj
  have h1 : d[i]! = (x, y, z) := by rw [getElem!_pos d i hi']; simpa using e1
  have h2 : d[j]! = (p, q, r) := by rw [getElem!_pos d j hj']; simpa using e2
  have := S.swap R.hk R.hblk i j hi' hj'
  rw [Nat.zero_add, Nat.zero_add, h1, h2] at this
  exact this.drew

theorem merge_left (blk cap : Nat) (d0 : Array E) (w0 : World) (R : RowK encE 3 w0 blk 0 d0) (hsz : d0.size < 4611686018427387904)
    (A v C : List E) (x : E) (d : Array E) (w : World) (a m b : Nat) (hd : d.toList = A ++ (x :: (v ++ C))) (hs : d.size = d0.size) (S : SW w0 blk d w) (ha : a = A.length) (hm : m = a + 1) (hb : b = m + v.length) (hv : SrtE v) :
    Calls Try.prog 115 #[.slice (some ⟨blk, 0, none⟩) d0.size cap, .int .i64 a, .int .i64 m, .int .i64 b, .func (.func 51) #[] #[]] w fun e w' => e = .returned (.tuple #[]) ∧ ∃ (d' : Array E) (z : List E), MergeP [x] v z ∧ d'.toList = A ++ (z ++ C) ∧ d'.size = d0.size ∧ SW w0 blk d' w' := by
  have mixed := Try.sortE.mixed
  have hl := arr_len hd
  simp only [List.length_append, List.length_cons] at hl
  have HE : Hid (a = A.length ∧ m = a + 1 ∧ b = m + v.length ∧ d.toList = A ++ (x :: (v ++ C)) ∧ d.size = d0.size ∧ SrtE v) := ⟨ha, hm, hb, hd, hs, hv⟩
  have S0 : Hid (SW w0 blk d w) := S
  have hma : (m : Int) - (a : Int) = 1 := by omega
  have hmb : m ≤ b := by omega
  have hbd : b ≤ d0.size := by omega
  have ham : a < m := by omega
  have hxa : d.toList[a]? = some x := by rw [hd, ha]; simp
  have HXA := Lib.hid hxa
  clear S hd hs ha hm hb hv hl hxa
  go_enter Try.func115, Try.ntmps115
  go_wp2
  go_loopg [10, 11, 12] b (fun g s10 s11 s12 wr => ∃ (i j : Nat), s10 = .int .i64 i ∧ s11 = .int .i64 j ∧ (∃ v, v = s12) ∧ m ≤ i ∧ i ≤ j ∧ j ≤ b ∧ j - i ≤ g ∧ Hid ((∀ k y, v[k]? = some y → m + k < i → bef y x = true) ∧ (∀ k y, v[k]? = some y → j ≤ m + k → bef y x = false) ∧ SW w0 blk d wr))
  case atStart => exact ⟨m, b, rfl, rfl, ⟨_, rfl⟩, Nat.le_refl _, hmb, Nat.le_refl _, by omega, fun k y h1 h2 => by omega, fun k y h1 h2 => by have := (List.getElem?_eq_some_iff.1 h1).1; have := HE.out; omega, S0.out⟩
  case round =>
    clear S0
    obtain ⟨i, j, rfl, rfl, ⟨v12, rfl⟩, hmi, hij, hjb, hg, HI⟩ := hrel
    by_cases hlt : i < j
    · go_wp2
      obtain ⟨h, hh⟩ : ∃ h : Nat, h = (i + j) / 2 := ⟨_, rfl⟩
      have eh : ((i : Int) + (j : Int)) / 2 = (h : Int) := by omega
      simp only [eh]
      have hih : i ≤ h := by omega
      have hhj : h < j := by omega
      have hhl : h < d0.size := by omega
      have hal : a < d0.size := by omega
      clear eh hh
      obtain ⟨y, hy, hyv⟩ : ∃ y, d.toList[h]? = some y ∧ v[h - m]? = some y := by
        obtain ⟨e1, e2, e3, e4, e5, e6⟩ := HE.out
        refine ⟨v[h - m]'(by omega), ?_, List.getElem?_eq_getElem _⟩
        rw [e4, List.getElem?_append_right (by omega), show h - A.length = (h - m) + 1 by omega, List.getElem?_cons_succ, List.getElem?_append_left (by omega)]
        exact List.getElem?_eq_getElem _
      have hx := HXA.out
      have cy := fun n os => (sw_grown R HI.out.2.2 HE.out.2.2.2.2.1 hy n os).1
      have cy1 := fun n os => (sw_grown R HI.out.2.2 HE.out.2.2.2.2.1 hy n os).2.1
      have cy2 := fun n os => (sw_grown R HI.out.2.2 HE.out.2.2.2.2.1 hy n os).2.2
      have cx := fun n os => (sw_grown R HI.out.2.2 HE.out.2.2.2.2.1 hx n os).1
      have cx1 := fun n os => (sw_grown R HI.out.2.2 HE.out.2.2.2.2.1 hx n os).2.1
      have cx2 := fun n os => (sw_grown R HI.out.2.2 HE.out.2.2.2.2.1 hx n os).2.2
      have HN := Lib.hid (ordC_neg (a := y) (b := x))
      have HYV := Lib.hid hyv
      have HP : Hid (∀ W, Calls Try.prog 51 #[.agg #[.int .i64 y.1, .int .i64 y.2.1, .int .i64 y.2.2], .agg #[.int .i64 x.1, .int .i64 x.2.1, .int .i64 x.2.2]] W fun e w' => e = .returned (.int .i64 (ordC y x)) ∧ Gr W w') := fun W => order_any y x W
      generalize ordC y x = z at HN HP
      obtain ⟨x0, x1, x2⟩ := x
      obtain ⟨y0, y1, y2⟩ := y
      dsimp only at cx cx1 cx2 cy cy1 cy2 HP
      clear hx hy hyv
      go_wp2_with fail
      go_quiet_grown (first | (go_at_call 51; refine Calls.grown_of (HP.out _)))
      have HI2 : Hid ((∀ k y, v[k]? = some y → m + k < i → bef y (x0, x1, x2) = true) ∧ (∀ k y, v[k]? = some y → j ≤ m + k → bef y (x0, x1, x2) = false) ∧ SW w0 blk d (grow (wr.drewN nq) osq)) := ⟨HI.out.1, HI.out.2.1, HI.out.2.2.grown nq osq⟩
      clear cx cx1 cx2 cy cy1 cy2 HP HI
      generalize grow (wr.drewN nq) osq = wu2 at HI2 ⊢
      clear nq osq
      by_cases hneg : z < 0
      · have HL : Hid (bef (y0, y1, y2) (x0, x1, x2) = true) := HN.out.1 hneg
        go_wp2_with fail
        go_roundg (j - (h + 1))
        case measure => omega
        case rel =>
          refine ⟨h + 1, j, by go_num, rfl, ⟨_, rfl⟩, by omega, by omega, hjb, Nat.le_refl _, fun k u hu hk => ?_, HI2.out.2.1, HI2.out.2.2⟩
          rcases (by omega : m + k < i ∨ k = h - m ∨ (k < h - m)) with g1 | g1 | g1
          · exact HI2.out.1 k u hu g1
          · have := HYV.out; rw [g1, this] at hu; cases hu; exact HL.out
          · obtain ⟨a1, a2⟩ := List.getElem?_eq_some_iff.1 hu
            obtain ⟨b1, b2⟩ := List.getElem?_eq_some_iff.1 HYV.out
            have := List.pairwise_iff_getElem.1 HE.out.2.2.2.2.2 k (h - m) a1 b1 g1
            rw [a2, b2] at this
            exact le_lt this HL.out
      · have HL : Hid (bef (y0, y1, y2) (x0, x1, x2) = false) := by
          show _ = _
          cases hb : bef (y0, y1, y2) (x0, x1, x2)
          · rfl
          · exact absurd (HN.out.2 hb) hneg
        have hneg' : decide (z < 0) = false := decide_eq_false hneg
        go_wp2_with fail
        go_roundg (h - i)
        case measure => omega
        case rel =>
          refine ⟨i, h, rfl, rfl, ⟨_, rfl⟩, hmi, hih, by omega, Nat.le_refl _, HI2.out.1, fun k u hu hk => ?_, HI2.out.2.2⟩
          rcases (by omega : j ≤ m + k ∨ k = h - m ∨ (h - m < k)) with g1 | g1 | g1
          · exact HI2.out.2.1 k u hu g1
          · have := HYV.out; rw [g1, this] at hu; cases hu; exact HL.out
          · obtain ⟨a1, a2⟩ := List.getElem?_eq_some_iff.1 hu
            obtain ⟨b1, b2⟩ := List.getElem?_eq_some_iff.1 HYV.out
            have := List.pairwise_iff_getElem.1 HE.out.2.2.2.2.2 (h - m) k b1 a1 g1
            rw [a2, b2] at this
            exact le_of HL.out this
    · obtain rfl : i = j := by omega
      have him1 : ((i : Int) - 1) = ((i - 1 : Nat) : Int) := by omega
      go_wp2
      go_loopg [13] b (fun g s13 wr2 => ∃ (k : Nat) (dk : Array E), s13 = .int .i64 k ∧ a ≤ k ∧ k ≤ i - 1 ∧ i - 1 - k ≤ g ∧ Hid (dk.toList = A ++ (v.take (k - a) ++ (x :: (v.drop (k - a) ++ C))) ∧ dk.size = d0.size ∧ SW w0 blk dk wr2))
      case atStart => exact ⟨a, d, rfl, Nat.le_refl _, by omega, by omega, by rw [HE.out.2.2.2.1, Nat.sub_self]; simp, HE.out.2.2.2.2.1, HI.out.2.2⟩
      case round =>
        obtain ⟨k, dk, rfl, hak, hki, hg2, HK⟩ := hrel
        by_cases hlk : k < i - 1
        · obtain ⟨k1, hk1⟩ : ∃ k1, k1 = k + 1 := ⟨_, rfl⟩
          have ek : (k : Int) + 1 = (k1 : Int) := by omega
          have hk1s : k1 < d0.size := by omega
          have hks : k < d0.size := by omega
          obtain ⟨y, hy⟩ : ∃ y, v[k - a]? = some y := ⟨_, List.getElem?_eq_getElem (by have := HE.out; omega)⟩
          have htk : (v.take (k - a)).length = k - a := by rw [List.length_take]; have := HE.out; have := (List.getElem?_eq_some_iff.1 hy).1; omega
          have hdr : v.drop (k - a) = y :: v.drop (k + 1 - a) := by
            obtain ⟨e1, e2⟩ := List.getElem?_eq_some_iff.1 hy
            rw [List.drop_eq_getElem_cons e1, e2, show k - a + 1 = k + 1 - a by omega]
          have htk1 : v.take (k + 1 - a) = v.take (k - a) ++ [y] := by
            rw [show k + 1 - a = k - a + 1 by omega, List.take_add_one, hy]; rfl
          have hda : dk.toList = (A ++ v.take (k - a)) ++ x :: ([] ++ y :: (v.drop (k + 1 - a) ++ C)) := by rw [HK.out.1, hdr]; simp
          have hPl : (A ++ v.take (k - a)).length = k := by rw [List.length_append, htk]; have := HE.out; omega
          have hdk : dk.toList[k]? = some x := by rw [hda, List.getElem?_append_right (by omega), hPl, Nat.sub_self]; rfl
          have hdk1 : dk.toList[k1]? = some y := by rw [hda, List.getElem?_append_right (by omega), hPl, show k1 - k = 1 by omega]; rfl
          have HNX : Hid ((swp dk k k1).toList = A ++ (v.take (k + 1 - a) ++ (x :: (v.drop (k + 1 - a) ++ C)))) := by
            show _ = _
            rw [swp_list hda hPl.symm (by rw [hPl]; simp; omega), htk1]; simp
          obtain ⟨⟨a0, a1, a2⟩, f0, f1, f2⟩ := sw_cells R HK.out.2.2 HK.out.2.1 hdk
          obtain ⟨⟨b0, b1, b2⟩, g0, g1, g2⟩ := sw_cells R HK.out.2.2 HK.out.2.1 hdk1
          obtain ⟨x0, x1, x2⟩ := x
          obtain ⟨y0, y1, y2⟩ := y
          dsimp only at a0 a1 a2 b0 b1 b2
          have HW := Lib.hid (sw_swap R HK.out.2.2 hdk hdk1)
          have HKS : Hid (dk.size = d0.size ∧ k1 = k + 1) := ⟨HK.out.2.1, hk1⟩
          have hlkz : (k : Int) < ((i - 1 : Nat) : Int) := by omega
          clear hy htk hdr htk1 hda hPl hdk hdk1 HK HI hk1 HXA
          go_wp2_with fail
          go_big_region_o
          all_goals go_wp2
          all_goals go_roundg (i - 1 - (k + 1))
          case measure => omega
          case rel =>
            have hk1 := HKS.out.2
            exact ⟨k + 1, swp dk k k1, by first | go_num | (congr 1; omega), by omega, by omega, Nat.le_refl _, HNX.out, by rw [size_swp]; exact HKS.out.1, HW.out⟩
        · have hke : k = i - 1 := by omega
          have HF : Hid (∃ (d' : Array E) (z : List E), MergeP [x] v z ∧ d'.toList = A ++ (z ++ C) ∧ d'.size = d0.size ∧ SW w0 blk d' wr) := by
            obtain ⟨e1, e2, e3, e4, e5, e6⟩ := HE.out
            refine ⟨dk, v.take (k - a) ++ x :: v.drop (k - a), ?_, by rw [HK.out.1]; simp, HK.out.2.1, HK.out.2.2⟩
            have := MergeP.one_left (x := x) (v1 := v.take (k - a)) (v2 := v.drop (k - a)) (by rw [List.take_append_drop]; exact e6) (fun y hy => ?_) (fun y hy => ?_)
            · rwa [List.take_append_drop] at this
            · obtain ⟨t, ht, e⟩ := List.getElem_of_mem hy
              rw [List.length_take] at ht
              exact HI.out.1 t y (by rw [← e, List.getElem_take]; exact List.getElem?_eq_getElem _) (by omega)
            · obtain ⟨t, ht, e⟩ := List.getElem_of_mem hy
              rw [List.length_drop] at ht
              exact HI.out.2.1 (k - a + t) y (by rw [← e, List.getElem_drop]; exact List.getElem?_eq_getElem _) (by omega)
          have hlkz : ¬ (k : Int) < ((i - 1 : Nat) : Int) := by omega
          clear HK HI HXA HE
          go_wp2
          (try simp only [Exit.inBlock, Exit.then])
          refine bodyPost_ret (results_none rfl _ _ _) rfl ?_
          exact ⟨rfl, HF.out⟩
end Go.Proofs.Ytiodpgannelgpaa
