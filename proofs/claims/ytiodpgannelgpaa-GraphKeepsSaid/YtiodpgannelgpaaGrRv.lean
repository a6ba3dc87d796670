/-
  The walk of graph.Reverse.
-/
import Derived.Test.YtiodpgannelgpaaGrDp
import Derived.Test.YtiodpgannelgpaaGrSt
namespace Go.Proofs.Ytiodpgannelgpaa
open Go.RowKit GM Go.Sort Go.Lib
set_option linter.unusedSimpArgs false
set_option linter.unusedVariables false
set_option maxHeartbeats 1500000
set_option maxRecDepth 100000

theorem turn_list {l : List E} {k : Nat} {e : E} {d : Array E} (he : l[k]? = some e) (hd : d.toList = (l.take k).map flp ++ l.drop k) : (d.setIfInBounds k (flp e)).toList = (l.take (k + 1)).map flp ++ l.drop (k + 1) := by
  obtain ⟨hk, hx⟩ := List.getElem?_eq_some_iff.1 he
  have hl : ((l.take k).map flp).length = k := by rw [List.length_map, List.length_take]; omega
  rw [Array.toList_setIfInBounds, hd, List.set_append_right _ _ (by omega), hl, Nat.sub_self, List.drop_eq_getElem_cons hk, List.set_cons_zero, List.take_add_one, he]
  simp
theorem turn_get {l : List E} {k : Nat} {e : E} {d : Array E} (he : l[k]? = some e) (hd : d.toList = (l.take k).map flp ++ l.drop k) : d[k]! = e := by
  obtain ⟨hk, hx⟩ := List.getElem?_eq_some_iff.1 he
  have hl : ((l.take k).map flp).length = k := by rw [List.length_map, List.length_take]; omega
  have h1 : d.toList[k]? = some e := by rw [hd, List.getElem?_append_right (by omega), hl, Nat.sub_self, List.getElem?_drop]; simpa using he
  obtain ⟨h2, h3⟩ := List.getElem?_eq_some_iff.1 h1
  rw [getElem!_pos d k (by simpa using h2)]
  simpa using h3
theorem rev_any (R N : Int) (l : List E) (v : Value) (w : World) (hl : Fits l) (hr : Rd3 w v l) :
    Calls Try.prog 28 #[.agg #[.int .i64 R, .int .i64 N, v]] w fun e w' => ∃ s o, e = .returned (.agg #[.int .i64 R, .int .i64 N, s]) ∧ OwnS w.heap.size w' s o ∧ (SrtE o ∧ Stb (l.map flp) o) ∧ Below w.heap.size w w' := by
  have HCL : Hid (∀ W, Below w.heap.size w W → Calls Try.prog 60 #[v] W fun e w' => ∃ v', e = .returned v' ∧ w'.ownsRow W.heap.size 52 3 v' l.length (flatE l) ∧ Below W.heap.size W w') := fun W hb => clone_any l v W hl (hr.below hb)
  have HLN := Lib.hid hl
  obtain ⟨ad, cap0, rfl⟩ := rd3_slice hr
  obtain ⟨L, hL⟩ : ∃ L, l.length = L := ⟨_, rfl⟩
  rw [hL] at HCL ⊢
  have HL := Lib.hid hL
  have hLb : L ≤ 5864062014634 := by unfold Fits at hl; omega
  clear hr hl hL
  go_enter Try.func28, Try.ntmps28
  go_wp2_with fail
  go_at_call 60
  refine (HCL.out _ (below_two _ _ _)).mono ?_
  rintro e w0 ⟨v1, rfl, hown, hb⟩
  have HO := Lib.hid (And.intro hown hb)
  clear hb
  have hz1 : w.heap.size + 2 ≤ w0.heap.size := by have := HO.out.2.size; simpa using this
  have B1 : Hid (Below w.heap.size w w0) := below_then (below_two _ _ _) HO.out.2
  have X1 : Hid (w0.heap[w.heap.size]? = some (.cells #[.int .i64 R, .int .i64 N, .slice ad L cap0] 24 (0, 0)) ∧ w0.heap[w.heap.size + 1]? = some (.cells #[.int .i64 0, .int .i64 0, .slice none 0 0] 24 (0, 0))) :=
    ⟨(HO.out.2.block _ (by simp; omega)).trans (heap_up (heap_at rfl)), (HO.out.2.block _ (by simp)).trans (heap_at (by simp))⟩
  have z3 : w0.frozen? ⟨w.heap.size, 2, none⟩ = false := free_of X1.out.1 _
  have z4 : w0.cell? ⟨w.heap.size, 2, none⟩ = some (.slice ad L cap0) := cell_of X1.out.1 rfl
  rcases hown.2 with ⟨rfl, hn⟩ | ⟨g, cap, cur, rfl, hB, hg, hnc, hcm, hcs, htk⟩
  · have hl0 : l = [] := List.length_eq_zero_iff.1 (by have := HL.out; omega)
    obtain ⟨w2, hw2⟩ : ∃ w2, w2 = w0.setCell ⟨w.heap.size, 2, none⟩ (.slice none 0 0) := ⟨_, rfl⟩
    have O2 : Hid (OwnS (w.heap.size + 2) w2 (.slice none 0 0) []) := .inl ⟨rfl, rfl⟩
    have B2 : Hid (Below w.heap.size w w2) := by show Below _ _ _; rw [hw2]; exact B1.out.setCell (Nat.le_refl _) _
    have X2 : Hid (w2.heap[w.heap.size]? = some (.cells #[.int .i64 R, .int .i64 N, .slice none 0 0] 24 (0, 0)) ∧ w2.heap[w.heap.size + 1]? = some (.cells #[.int .i64 0, .int .i64 0, .slice none 0 0] 24 (0, 0))) := by
      show _ ∧ _
      rw [hw2]
      exact ⟨by rw [heap_set_eq X1.out.1]; rfl, (heap_set_ne (by omega)).trans X1.out.2⟩
    have z5 : w2.cell? ⟨w.heap.size, 2, none⟩ = some (.slice none 0 0) := cell_of X2.out.1 rfl
    have HS : Hid (SrtE ([] : List E) ∧ Stb (l.map flp) []) := by
      show _ ∧ _
      rw [hl0]
      exact ⟨List.Pairwise.nil, Stb.refl _⟩
    clear hown hn hl0
    go_upto_region 2 with (fail)
    rw [← hw2]
    clear hw2 X1 B1 HO z3 z4
    go_wp2_with fail
    refine wp_loop_rounds 1 ?_
    rw [rounds_succ]
    go_wp2_with fail
    go_at_call 66
    refine (sortStable_none _ _).mono ?_
    rintro e w3 ⟨rfl, hw3⟩
    rw [hw3]
    clear hw3 w3
    have z0 : w2.cell? ⟨w.heap.size, 0, none⟩ = some (.int .i64 R) := cell_of X2.out.1 rfl
    have z1 : w2.cell? ⟨w.heap.size, 1, none⟩ = some (.int .i64 N) := cell_of X2.out.1 rfl
    have z2 : w2.cell? ⟨w.heap.size, 2, none⟩ = some (.slice none 0 0) := cell_of X2.out.1 rfl
    have y0 : w2.cell? ⟨w.heap.size + 1, 0, none⟩ = some (.int .i64 0) := cell_of X2.out.2 rfl
    have y1 : w2.cell? ⟨w.heap.size + 1, 1, none⟩ = some (.int .i64 0) := cell_of X2.out.2 rfl
    have y2 : w2.cell? ⟨w.heap.size + 1, 2, none⟩ = some (.slice none 0 0) := cell_of X2.out.2 rfl
    have y3 : w2.frozen? ⟨w.heap.size + 1, 0, none⟩ = false := free_of X2.out.2 _
    have y4 : w2.frozen? ⟨w.heap.size + 1, 1, none⟩ = false := free_of X2.out.2 _
    have y5 : w2.frozen? ⟨w.heap.size + 1, 2, none⟩ = false := free_of X2.out.2 _
    have HEND : Hid (∀ u1 u2 u3, OwnS w.heap.size (((w2.setCell ⟨w.heap.size + 1, 0, none⟩ u1).setCell ⟨w.heap.size + 1, 1, none⟩ u2).setCell ⟨w.heap.size + 1, 2, none⟩ u3) (.slice none 0 0) [] ∧
        Below w.heap.size w (((w2.setCell ⟨w.heap.size + 1, 0, none⟩ u1).setCell ⟨w.heap.size + 1, 1, none⟩ u2).setCell ⟨w.heap.size + 1, 2, none⟩ u3)) := fun u1 u2 u3 =>
      ⟨(((O2.out.setCell (by omega)).setCell (by omega)).setCell (by omega)).mono (by omega), ((B2.out.setCell (Nat.le_succ _) _).setCell (Nat.le_succ _) _).setCell (Nat.le_succ _) _⟩
    go_wp2
    (try simp only [Exit.inBlock, Exit.then])
    refine bodyPost_ret (v := .agg #[.int .i64 R, .int .i64 N, .slice none 0 0]) (by rw [results_cell_one rfl]; go_simp) rfl ?_
    exact ⟨_, [], rfl, (HEND.out _ _ _).1, HS.out, (HEND.out _ _ _).2⟩
  · have hg1 : g < w0.heap.size := lt_block hg
    have hgz : w.heap.size + 2 ≤ g := by simpa using hB
    obtain ⟨w1, hw1⟩ : ∃ w1, w1 = w0.setCell ⟨w.heap.size, 2, none⟩ (.slice (some ⟨g, 0, none⟩) L cap) := ⟨_, rfl⟩
    have HG : Hid (HoldsK encE 3 w1 g 0 l.toArray ∧ Below w.heap.size w w1 ∧ g < w1.heap.size ∧ cap ≤ 9223372036854775807 ∧ L ≤ cap) := by
      have hown2 := hown
      rw [← HL.out] at hown2
      have hh := holdsE_own hown2
      refine ⟨fun j hj => ?_, by rw [hw1]; exact B1.out.setCell (Nat.le_refl _) _, by rw [hw1]; simpa using hg1, by unfold maxLen at hcm; omega, hnc⟩
      have hb : w1.heap[g]? = w0.heap[g]? := by rw [hw1]; exact heap_set_ne (by omega)
      exact ⟨(World.cell?_of_block hb).trans (hh j hj).1, by have := (hh j hj).2; simpa [World.frozen?, hb] using this⟩
    have X2 : Hid (w1.heap[w.heap.size]? = some (.cells #[.int .i64 R, .int .i64 N, .slice (some ⟨g, 0, none⟩) L cap] 24 (0, 0)) ∧ w1.heap[w.heap.size + 1]? = some (.cells #[.int .i64 0, .int .i64 0, .slice none 0 0] 24 (0, 0))) := by
      show _ ∧ _
      rw [hw1]
      exact ⟨by rw [heap_set_eq X1.out.1]; rfl, (heap_set_ne (by omega)).trans X1.out.2⟩
    have z5 : w1.cell? ⟨w.heap.size, 2, none⟩ = some (.slice (some ⟨g, 0, none⟩) L cap) := cell_of X2.out.1 rfl
    clear hown hg hcs htk hB hnc hcm hg1
    go_upto_region 2 with (fail)
    rw [← hw1]
    clear hw1 X1 B1 HO z3 z4 hz1
    go_wp2_with fail
    go_loopg [3, 4, 12] L (fun g9 s3 s4 s12 wr => ∃ (k : Nat) (dk : Array E), (∃ u, u = s3) ∧ (∃ u, u = s4) ∧ s12 = .int .i64 (k : Int) ∧ k ≤ L ∧ L - k ≤ g9 ∧ dk.size = L ∧ Hid (HoldsK encE 3 wr g 0 dk ∧ dk.toList = (l.take k).map flp ++ l.drop k ∧ Below (w.heap.size + 2) w1 wr ∧ g < wr.heap.size))
    case atStart => exact ⟨0, l.toArray, ⟨_, rfl⟩, ⟨_, rfl⟩, rfl, by omega, by omega, by simpa using HL.out, HG.out.1, by simp, Below.refl _ _, HG.out.2.2.1⟩
    case round =>
      obtain ⟨k, dk, ⟨u3, rfl⟩, ⟨u4, rfl⟩, rfl, hk, hg9, hds, HI⟩ := hrel
      have X3 : Hid (wr.heap[w.heap.size]? = some (.cells #[.int .i64 R, .int .i64 N, .slice (some ⟨g, 0, none⟩) L cap] 24 (0, 0)) ∧ wr.heap[w.heap.size + 1]? = some (.cells #[.int .i64 0, .int .i64 0, .slice none 0 0] 24 (0, 0))) := ⟨(HI.out.2.2.1.block _ (by omega)).trans X2.out.1, (HI.out.2.2.1.block _ (by omega)).trans X2.out.2⟩
      have z6 : wr.cell? ⟨w.heap.size, 2, none⟩ = some (.slice (some ⟨g, 0, none⟩) L cap) := cell_of X3.out.1 rfl
      have hgr := HI.out.2.2.2
      by_cases hlt : k < L
      · obtain ⟨e, he⟩ : ∃ y, l[k]? = some y := ⟨_, List.getElem?_eq_getElem (by have := HL.out; omega)⟩
        have hdk := turn_get he HI.out.2.1
        have HT := Lib.hid (turn_list he HI.out.2.1)
        obtain ⟨x, y, z⟩ := e
        obtain ⟨⟨c0, c1, c2⟩, f0, f1, f2⟩ := he_cells HI.out.1 (show k < dk.size by omega) hdk
        simp only [Nat.zero_add] at c0 c1 c2 f0 f1 f2
        have HEND : Hid (∀ W, Below wr.heap.size wr W → HoldsK encE 3 (((W.setCell ⟨g, k * 3, none⟩ (.int .i64 y)).setCell ⟨g, k * 3 + 1, none⟩ (.int .i64 x)).setCell ⟨g, k * 3 + 2, none⟩ (.int .i64 z)) g 0 (dk.setIfInBounds k (flp (x, y, z))) ∧ Below (w.heap.size + 2) w1 (((W.setCell ⟨g, k * 3, none⟩ (.int .i64 y)).setCell ⟨g, k * 3 + 1, none⟩ (.int .i64 x)).setCell ⟨g, k * 3 + 2, none⟩ (.int .i64 z)) ∧ g < (((W.setCell ⟨g, k * 3, none⟩ (.int .i64 y)).setCell ⟨g, k * 3 + 1, none⟩ (.int .i64 x)).setCell ⟨g, k * 3 + 2, none⟩ (.int .i64 z)).heap.size) := fun W hW => by
          have hs := holdsE_store (W := W) (holdsE_below HI.out.1 hW hgr) (i := k) (by omega) (flp (x, y, z))
          rw [Nat.zero_add] at hs
          have hb := HI.out.2.2.1.trans (hW.mono (show w.heap.size + 2 ≤ wr.heap.size by omega))
          exact ⟨hs, ((hb.setCell hgz _).setCell hgz _).setCell hgz _, by have := hW.size; simp; omega⟩
        have z6a := fun o => carry (below_alloc wr o) z6
        have hwz : w.heap.size < wr.heap.size := by omega
        clear he hdk
        go_wp2_with fail
        go_roundg (L - (k + 1))
        case measure => omega
        case rel =>
          have := HEND.out _ (Below.refl _ wr)
          exact ⟨k + 1, dk.setIfInBounds k (flp (x, y, z)), ⟨_, rfl⟩, ⟨_, rfl⟩, by go_num, by omega, Nat.le_refl _, by simpa using hds, holdsE_below this.1 (below_alloc _ _) this.2.2, HT.out, this.2.1.trans ((below_alloc _ _).mono (by simp; omega)), by have := this.2.2; simp at this ⊢; omega⟩
      · have hkl : k = L := by omega
        have HD : Hid (Calls Try.prog 66 #[.slice (some ⟨g, 0, none⟩) L cap, .func (.func 51) #[] #[]] wr fun e w' => e = .returned (.tuple #[]) ∧ ∃ o : List E, SrtE o ∧ Stb (l.map flp) o ∧ OwnS (w.heap.size + 2) w' (.slice (some ⟨g, 0, none⟩) L cap) o ∧ wr.grownBy w' (some g)) := by
          have hdl : dk.toList = l.map flp := by
            rw [HI.out.2.1, hkl, ← HL.out, List.take_length, List.drop_length, List.append_nil]
          have hda : dk = (l.map flp).toArray := by rw [← hdl]
          have hh := HI.out.1
          rw [hda] at hh
          have := sortStable_any (l.map flp) g cap wr (by unfold Fits; rw [List.length_map]; have := HL.out; omega) hh hgr
          rw [List.length_map, HL.out] at this
          refine this.mono ?_
          rintro e w' ⟨rfl, d', h1, h2, h3, h4, h5⟩
          refine ⟨rfl, d'.toList, h1, h2, .inr ⟨g, hgz, cap, by simp [h3], by simp [h3]; exact HG.out.2.2.2.2, HG.out.2.2.2.1, by simpa using h4, Nat.lt_of_lt_of_le hgr h5.size⟩, h5⟩
        clear hkl
        go_wp2_with fail
        go_at_call 66
        refine HD.out.mono ?_
        rintro e w2 ⟨rfl, o, hs1, hs2, ho2, hgr2⟩
        have HS : Hid (SrtE o ∧ Stb (l.map flp) o) := ⟨hs1, hs2⟩
        have O2 : Hid (OwnS (w.heap.size + 2) w2 (.slice (some ⟨g, 0, none⟩) L cap) o) := ho2
        have B2 : Hid (Below w.heap.size w w2) := (HG.out.2.1.trans (HI.out.2.2.1.mono (by omega))).grown hgr2 (by omega) (fun j hj => by cases hj; omega)
        have X2 : Hid (w2.heap[w.heap.size]? = some (.cells #[.int .i64 R, .int .i64 N, .slice (some ⟨g, 0, none⟩) L cap] 24 (0, 0)) ∧ w2.heap[w.heap.size + 1]? = some (.cells #[.int .i64 0, .int .i64 0, .slice none 0 0] 24 (0, 0))) := ⟨(hgr2.block _ (by omega) (fun e => by cases e; omega)).trans X3.out.1, (hgr2.block _ (by omega) (fun e => by cases e; omega)).trans X3.out.2⟩
        clear HD HI hs1 hs2 ho2 hgr2 X3 z6
        have z0 : w2.cell? ⟨w.heap.size, 0, none⟩ = some (.int .i64 R) := cell_of X2.out.1 rfl
        have z1 : w2.cell? ⟨w.heap.size, 1, none⟩ = some (.int .i64 N) := cell_of X2.out.1 rfl
        have z2 : w2.cell? ⟨w.heap.size, 2, none⟩ = some (.slice (some ⟨g, 0, none⟩) L cap) := cell_of X2.out.1 rfl
        have y0 : w2.cell? ⟨w.heap.size + 1, 0, none⟩ = some (.int .i64 0) := cell_of X2.out.2 rfl
        have y1 : w2.cell? ⟨w.heap.size + 1, 1, none⟩ = some (.int .i64 0) := cell_of X2.out.2 rfl
        have y2 : w2.cell? ⟨w.heap.size + 1, 2, none⟩ = some (.slice none 0 0) := cell_of X2.out.2 rfl
        have y3 : w2.frozen? ⟨w.heap.size + 1, 0, none⟩ = false := free_of X2.out.2 _
        have y4 : w2.frozen? ⟨w.heap.size + 1, 1, none⟩ = false := free_of X2.out.2 _
        have y5 : w2.frozen? ⟨w.heap.size + 1, 2, none⟩ = false := free_of X2.out.2 _
        have HEND : Hid (∀ u1 u2 u3, OwnS w.heap.size (((w2.setCell ⟨w.heap.size + 1, 0, none⟩ u1).setCell ⟨w.heap.size + 1, 1, none⟩ u2).setCell ⟨w.heap.size + 1, 2, none⟩ u3) (.slice (some ⟨g, 0, none⟩) L cap) o ∧
            Below w.heap.size w (((w2.setCell ⟨w.heap.size + 1, 0, none⟩ u1).setCell ⟨w.heap.size + 1, 1, none⟩ u2).setCell ⟨w.heap.size + 1, 2, none⟩ u3)) := fun u1 u2 u3 =>
          ⟨(((O2.out.setCell (by omega)).setCell (by omega)).setCell (by omega)).mono (by omega), ((B2.out.setCell (Nat.le_succ _) _).setCell (Nat.le_succ _) _).setCell (Nat.le_succ _) _⟩
        go_wp2
        (try simp only [Exit.inBlock, Exit.then])
        refine bodyPost_ret (v := .agg #[.int .i64 R, .int .i64 N, .slice (some ⟨g, 0, none⟩) L cap]) (by rw [results_cell_one rfl]; go_simp) rfl ?_
        exact ⟨_, o, rfl, (HEND.out _ _ _).1, HS.out, (HEND.out _ _ _).2⟩
end Go.Proofs.Ytiodpgannelgpaa
