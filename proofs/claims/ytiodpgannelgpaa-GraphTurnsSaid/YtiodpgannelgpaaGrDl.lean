/-
  The walk of the library's Delete of one edge.
-/
import Derived.Test.YtiodpgannelgpaaGrIs
namespace Go.Proofs.Ytiodpgannelgpaa
open Go.RowKit GM Go.Sort
set_option linter.unusedSimpArgs false
set_option linter.unusedVariables false
set_option maxHeartbeats 4000000
set_option maxRecDepth 100000

/-- without place i -/
def delE (l : List E) (i : Nat) : List E := l.take i ++ l.drop (i + 1)
theorem del_any (B g cap i : Nat) (l : List E) (w : World) (ho : OwnL B w (.slice (some ⟨g, 0, none⟩) l.length cap) l) (hi : i < l.length) (hl : l.length ≤ 1024) :
    Calls Try.prog 91 #[.slice (some ⟨g, 0, none⟩) l.length cap, .int .i64 (i : Int), .int .i64 ((i : Int) + 1)] w fun e w' => ∃ v', e = .returned v' ∧ OwnL B w' v' (delE l i) ∧ w.grownBy w' (some g) := by
  obtain ⟨i0, hi0, hz0, hz1, hz2⟩ := infoE_parts info52
  obtain ⟨_, sp, hrow, hB, hlen, hnc, hcm⟩ := row_own ho
  obtain ⟨M, hM⟩ : ∃ M, l.length = M + 1 := ⟨l.length - 1, by omega⟩
  have hsplit : flatE l = flatE (l.take i) ++ encE l[i] ++ flatE (l.drop (i + 1)) := by
    rw [List.append_assoc, ← flatE_cons, ← List.drop_eq_getElem_cons hi, ← flatE_app, List.take_append_drop]
  have hf1 : (flatE (l.take i)).length = i * 3 := by rw [flatE_len, List.length_take]; omega
  have hf2 : (flatE (l.drop (i + 1))).length = (M - i) * 3 := by rw [flatE_len, List.length_drop, hM]; omega
  obtain ⟨D, hD⟩ : ∃ D, flatE (l.drop (i + 1)) = D := ⟨_, rfl⟩
  rw [hD] at hsplit hf2
  obtain ⟨b, r3, hbr, hbl, hr3⟩ : ∃ b r3, encE l[i] ++ D = b ++ r3 ∧ b.length = D.length ∧ r3.length = 3 := ⟨(encE l[i] ++ D).take D.length, (encE l[i] ++ D).drop D.length, by rw [List.take_append_drop], by
    rw [List.length_take, List.length_append, encE_len]; omega, by rw [List.length_drop, List.length_append, encE_len]; omega⟩
  have e0 : flatE l ++ sp = flatE (l.take i) ++ b ++ (r3 ++ sp) := by
    rw [hsplit]
    have : flatE (l.take i) ++ encE l[i] ++ D ++ sp = flatE (l.take i) ++ (encE l[i] ++ D) ++ sp := by simp
    rw [this, hbr]; simp
  have hr1 : Row (w.setCells g (i * 3) D) g (flatE (l.take i) ++ D ++ (r3 ++ sp)) := by
    have := Row.sets D (W := w) (g := g) (a := flatE (l.take i)) (b := b) (c := r3 ++ sp) hbl (by rw [← e0]; exact hrow)
    rwa [hf1] at this
  have hdl : (delE l i).length = M := by unfold delE; rw [List.length_append, List.length_take, List.length_drop]; omega
  have hdf : flatE (delE l i) = flatE (l.take i) ++ D := by unfold delE; rw [flatE_app, hD]
  obtain ⟨W1, hW1⟩ : ∃ W1, W1 = w.drew.setCells g (0 + i * 3) D := ⟨_, rfl⟩
  have hW1d : W1 = (w.setCells g (i * 3) D).drewN 1 := by rw [hW1, Nat.zero_add]; exact drewN_setCells g 1 D _ w
  have hr1' : Row W1 g (flatE (l.take i) ++ D ++ (r3 ++ sp)) := by rw [hW1d]; exact hr1
  obtain ⟨vs, hvl, hcl⟩ := clear_three (P := Try.prog) W1 22 52 (.int .i64 0) (.int .i64 0) (.int .i64 0) Try.underlying22 Try.zeroValue52 rfl rfl rfl g (M * 3) 1 (cap - M) (by omega)
    (fun j hj => by rw [hr1'.cell, List.getElem?_eq_getElem (by simp only [List.length_append]; omega)]; rfl) (fun j hj => hr1'.free _)
  have HEND : Hid (OwnL B (W1.setCells g (M * 3) vs) (.slice (some ⟨g, 0, none⟩) M cap) (delE l i) ∧ w.grownBy (W1.setCells g (M * 3) vs) (some g)) := by
    constructor
    · have hr2 : Row (W1.setCells g (M * 3) vs) g (flatE (l.take i) ++ D ++ vs ++ sp) := by
        have := Row.sets vs (W := W1) (g := g) (a := flatE (l.take i) ++ D) (b := r3) (c := sp) (by rw [hr3, hvl]) (by simpa using hr1')
        rwa [List.length_append, hf1, hf2, show i * 3 + (M - i) * 3 = M * 3 by omega] at this
      have := own_row (B := B) (cap := cap) (l := delE l i) hr2 hB (by
        rw [← hlen, e0]; simp only [List.length_append]; omega) (by omega) hcm (by
        rw [hdl, hdf, List.append_assoc (flatE (l.take i) ++ D), List.take_append_of_le_length (by simp only [List.length_append]; omega), List.take_of_length_le (by simp only [List.length_append]; omega)])
      rwa [hdl] at this
    · refine grown_setCells _ _ _ ?_
      rw [hW1d]
      exact grown_drewN (grown_setCells _ _ _ (World.grownBy.refl w _)) 1
  have s1 : Hid (D.length = (M - i) * 3) := hf2
  have s2 : Hid (∀ u ∈ D, u.oneCell' = true) := by rw [← hD]; exact flatE_one _
  have s3 : Hid (∀ t, t < D.length → (w.drew.cell? ⟨g, 0 + i * 3 + t, none⟩).isSome = true ∧ w.drew.frozen? ⟨g, 0 + i * 3 + t, none⟩ = false) := by
    intro t ht
    constructor
    · show (w.cell? _).isSome = true
      rw [hrow.cell, e0, List.getElem?_eq_getElem (by simp only [List.length_append]; omega)]; rfl
    · exact hrow.free _
  have s4 : Hid (∀ t u, D[t]? = some u → w.drew.cell? ((⟨g, (i + 1) * 3, none⟩ : Addr).add t) = some u) := by
    intro t u ht
    have htl := (List.getElem?_eq_some_iff.1 ht).1
    rw [Addr.add_lit]
    show w.cell? _ = _
    rw [hrow.cell, List.getElem?_append_left (by rw [flatE_len]; omega), hsplit, List.getElem?_append_right (by rw [List.length_append, hf1, encE_len]; omega), List.length_append, hf1, encE_len, show (i + 1) * 3 + t - (i * 3 + 3) = t by omega]
    exact ht
  have s5 : Hid (i + 1 = cap → D = []) := fun h => List.length_eq_zero_iff.1 (by rw [hf2]; omega)
  rw [hM] at hl hnc hi ⊢
  unfold maxLen at hcm
  have HW := Lib.hid hW1
  have hMi : i + (M - i) = M := by omega
  have hic : i ≤ cap := by omega
  have hic1 : i + 1 ≤ cap := by omega
  have hw1 : IntKind.i64.wrap ((i : Int) + 1) = (i : Int) + 1 := IntWalk.i64_in _ (by omega)
  have htn : ((i : Int) + 1).toNat = i + 1 := by omega
  have hbi : (0 : Int) ≤ (i : Int) + 1 := by omega
  have hbi2 : (i : Int) + 1 ≤ (M : Int) + 1 := by omega
  have hbi3 : ¬ ((i : Int) = (i : Int) + 1) := by omega
  have hcM : ¬ (cap = M) := by omega
  have hic' : (i : Int) ≤ (cap : Int) := by omega
  have hi0' : (0 : Int) ≤ (i : Int) := by omega
  have him : (i : Int) ≤ (M : Int) + 1 := by omega
  have hii : (i : Int) ≤ (i : Int) + 1 := by omega
  have hMM : M + 1 - M = 1 := by omega
  clear hW1 hW1d hr1 hr1' hrow e0 hbr hbl hr3 hsplit hf1 hf2 hD hdl hdf hlen hvl ho
  by_cases hci : cap = i + 1
  · have hD0 := s5.out hci.symm
    obtain rfl : M = i := by omega
    subst hci
    subst hD0
    rw [hMM] at hcl
    have s4' : Hid (∀ t u, ([] : List Value)[t]? = some u → w.drew.cell? ((⟨g, 0, none⟩ : Addr).add t) = some u) := by
      intro t u ht
      simp at ht
    clear hMi hbi2
    go_enter Try.func91, Try.ntmps91
    go_wp2_with fail
    go_region_law (refine step_append_room rfl (.tmp 22) (.tmp 25) 22 rfl 52 i0 3 Try.underlying22 hi0 hz1 g 0 M (M + 1) (by simp [Act.eval, Act.put]) ⟨g, 0, none⟩ 0 0 [] (by simp [Act.eval, Act.put]) rfl s4'.out s2.out (by omega) s3.out ?_; rw [← HW.out])
    go_wp2
    go_ret
    exact ⟨_, rfl, HEND.out⟩
  · go_enter Try.func91, Try.ntmps91
    go_wp2_with fail
    go_region_law (refine step_append_room rfl (.tmp 22) (.tmp 25) 22 rfl 52 i0 3 Try.underlying22 hi0 hz1 g 0 i cap (by simp [Act.eval, Act.put]) ⟨g, (i + 1) * 3, none⟩ (M - i) (cap - (i + 1)) D (by simp [Act.eval, Act.put]) s1.out s4.out s2.out (by omega) s3.out ?_; rw [← HW.out])
    go_wp2
    go_ret
    exact ⟨_, rfl, HEND.out⟩
end Go.Proofs.Ytiodpgannelgpaa
