/-
  The walk of the library's Insert at one edge.
-/
import Derived.Test.YtiodpgannelgpaaGrRw
import Derived.Shelf.RegionOpenPlain
namespace Go.Proofs.Ytiodpgannelgpaa
open Go.RowKit GM Go.Sort
set_option linter.unusedSimpArgs false
set_option linter.unusedVariables false
set_option maxHeartbeats 4000000
set_option maxRecDepth 100000

theorem drewN_setCells (b q : Nat) : ∀ (vs : List Value) (o : Nat) (w : World), (w.drewN q).setCells b o vs = (w.setCells b o vs).drewN q
  | [], _, _ => rfl
  | v :: vs, o, w => drewN_setCells b q vs (o + 1) (w.setCell ⟨b, o, none⟩ v)
theorem grown_setCells {w : World} {g : Nat} : ∀ (vs : List Value) (o : Nat) (W : World), w.grownBy W (some g) → w.grownBy (W.setCells g o vs) (some g)
  | [], _, _, h => h
  | v :: vs, o, W, h => grown_setCells vs (o + 1) _ ⟨h.os, h.tape, h.output, by simpa using h.size, fun k hk hne => (heap_set_ne (fun e => hne (by rw [e]))).trans (h.block k hk hne)⟩
theorem grown_drewN {w W : World} {r : Option Nat} (h : w.grownBy W r) (n : Nat) : w.grownBy (W.drewN n) r := ⟨h.os, h.tape, h.output, h.size, h.block⟩
/-- x in front of place i -/
def insE (l : List E) (i : Nat) (x : E) : List E := l.take i ++ x :: l.drop i
theorem ins_room (B g cap i : Nat) (l : List E) (x : E) (vb : Nat) (w : World) (ho : OwnL B w (.slice (some ⟨g, 0, none⟩) l.length cap) l) (hi : i < l.length) (hc : l.length + 1 ≤ cap) (hl : l.length ≤ 1024) (hne : vb ≠ g)
    (hv : w.heap[vb]? = some (.cells #[.int .i64 x.1, .int .i64 x.2.1, .int .i64 x.2.2] 52 (0, 0))) :
    Calls Try.prog 92 #[.slice (some ⟨g, 0, none⟩) l.length cap, .int .i64 (i : Int), .slice (some ⟨vb, 0, none⟩) 1 1] w fun e w' => ∃ v', e = .returned v' ∧ OwnL B w' v' (insE l i x) ∧ w.grownBy w' (some g) := by
  obtain ⟨_, sp, hrow, hB, hlen, hnc, hcm⟩ := row_own ho
  obtain ⟨L, hL⟩ : ∃ L, l.length = L := ⟨_, rfl⟩
  have HL := Lib.hid hL
  have hov : ∀ lb cb, (callFunc 112 #[.slice (some ⟨vb, 0, none⟩) 1 1, .slice (some ⟨g, (i + 1) * 3, none⟩) lb cb]).run Try.prog w = .ok (.value (.bool false)) w := fun lb cb => by
    rw [run_callFunc_extern Try.func112 (by kernel_rfl) (by kernel_rfl) (by kernel_rfl) (e := Extern.SlicesOverlaps.overlaps #[22, 22] #[4]) (by kernel_rfl),
      Lib.run_overlaps_apart w 22 4 52 Try.underlying22 3 Try.sizeOf52 ⟨vb, 0, none⟩ ⟨g, (i + 1) * 3, none⟩ 1 1 lb cb hne 52 52 3 (flatE l ++ sp).length (by simp [World.shape?, hv]) (by unfold Row at hrow; simp [World.shape?, hrow]) (by rw [hlen]; omega) (free_of hv _) (free_of hv _)]
    rfl
  obtain ⟨s3, s', hsp, hs3⟩ : ∃ s3 s', sp = s3 ++ s' ∧ s3.length = 3 := ⟨sp.take 3, sp.drop 3, by rw [List.take_append_drop], by
    rw [List.length_append, flatE_len] at hlen
    rw [List.length_take]; omega⟩
  subst hsp
  have hsplit : flatE l = flatE (l.take i) ++ flatE (l.drop i) := by rw [← flatE_app, List.take_append_drop]
  have hf1 : (flatE (l.take i)).length = i * 3 := by rw [flatE_len, List.length_take]; omega
  have hf2 : (flatE (l.drop i)).length = (L - i) * 3 := by rw [flatE_len, List.length_drop, hL]
  rw [hL] at hi hc hl ⊢
  obtain ⟨t3, tm, htm, ht3⟩ : ∃ t3 tm, flatE (l.drop i) ++ s3 = t3 ++ tm ∧ t3.length = 3 := ⟨(flatE (l.drop i) ++ s3).take 3, (flatE (l.drop i) ++ s3).drop 3, by rw [List.take_append_drop], by
    rw [List.length_take, List.length_append, hf2, hs3]; omega⟩
  have htl : tm.length = (L - i) * 3 := by
    have := congrArg List.length htm
    rw [List.length_append, List.length_append, hf2, hs3, ht3] at this
    omega
  have e0 : flatE l ++ (s3 ++ s') = (flatE (l.take i) ++ t3) ++ tm ++ s' := by
    rw [hsplit]
    have : flatE (l.take i) ++ flatE (l.drop i) ++ (s3 ++ s') = flatE (l.take i) ++ (flatE (l.drop i) ++ s3) ++ s' := by simp
    rw [this, htm]; simp
  have hr1 : Row (w.setCells g ((i + 1) * 3) (flatE (l.drop i))) g ((flatE (l.take i) ++ t3) ++ flatE (l.drop i) ++ s') := by
    have := Row.sets (flatE (l.drop i)) (W := w) (g := g) (a := flatE (l.take i) ++ t3) (b := tm) (c := s') (by rw [htl, hf2]) (by rw [← e0]; exact hrow)
    rwa [List.length_append, hf1, ht3, show i * 3 + 3 = (i + 1) * 3 by omega] at this
  have hr2 : Row ((w.setCells g ((i + 1) * 3) (flatE (l.drop i))).setCells g (i * 3) (encE x)) g (flatE (insE l i x) ++ s') := by
    have := Row.sets (encE x) (g := g) (a := flatE (l.take i)) (b := t3) (c := flatE (l.drop i) ++ s') (by rw [ht3]; rfl) (by simpa using hr1)
    rw [hf1] at this
    unfold insE
    rw [flatE_app, flatE_cons]
    simpa using this
  have hcp1 : ∀ q ty dc sc, (Builtin.copy_ #[22, 22] ty #[.slice (some ⟨g, (i + 1) * 3, none⟩) (L - i) dc, .slice (some ⟨g, i * 3, none⟩) (L + 1 - i) sc]).run Try.prog (w.drewN q) = .ok (goInt (L - i : Nat)) ((w.drewN q).setCells g ((i + 1) * 3) (flatE (l.drop i))) := fun q ty dc sc =>
    run_copyE (w.drewN q) ty g ((i + 1) * 3) (L - i) dc ⟨g, i * 3, none⟩ (L + 1 - i) sc (L - i) (flatE (l.drop i)) (by simp only [Nat.min_def]; split <;> omega) hf2
      (fun j v hj => by
        have hjl := (List.getElem?_eq_some_iff.1 hj).1
        rw [Addr.add_lit]
        show w.cell? _ = _
        rw [hrow.cell, hsplit, List.append_assoc, List.getElem?_append_right (by omega), hf1, Nat.add_sub_cancel_left, List.getElem?_append_left (by omega)]
        exact hj)
      (fun j hj => by
        show (w.cell? _).isSome = true
        rw [hrow.cell, List.getElem?_eq_getElem (by rw [hlen]; omega)]; rfl) (fun j hj => hrow.free _) (flatE_one _)
  have hcp2 : ∀ q ty dc, (Builtin.copy_ #[22, 22] ty #[.slice (some ⟨g, i * 3, none⟩) (L + 1 - i) dc, .slice (some ⟨vb, 0, none⟩) 1 1]).run Try.prog ((w.drewN q).setCells g ((i + 1) * 3) (flatE (l.drop i))) = .ok (goInt 1) (((w.drewN q).setCells g ((i + 1) * 3) (flatE (l.drop i))).setCells g (i * 3) (encE x)) := fun q ty dc => by
    rw [drewN_setCells]
    refine run_copyE _ ty g (i * 3) (L + 1 - i) dc ⟨vb, 0, none⟩ 1 1 1 (encE x) (by simp only [Nat.min_def]; split <;> omega) rfl (fun j v hj => ?_) (fun j hj => ?_) (fun j hj => hr1.free _) (encE_one _)
    · have hvw : (w.setCells g ((i + 1) * 3) (flatE (l.drop i))).cell? ⟨vb, j, none⟩ = w.cell? ⟨vb, j, none⟩ := World.cell?_setCells_out g _ _ _ _ (fun h _ => absurd h hne)
      rw [Addr.add_lit, Nat.zero_add]
      show (w.setCells g ((i + 1) * 3) (flatE (l.drop i))).cell? _ = _
      rw [hvw]
      have hj3 : j < 3 := (List.getElem?_eq_some_iff.1 hj).1
      exact cell_of hv (by rw [← hj]; simp [encE])
    · have hj3 : j < 3 := hj
      show ((w.setCells g ((i + 1) * 3) (flatE (l.drop i))).cell? _).isSome = true
      rw [hr1.cell, List.getElem?_eq_getElem (by simp only [List.length_append]; omega)]; rfl
  have HEND : Hid (∀ q, OwnL B (((w.drewN q).setCells g ((i + 1) * 3) (flatE (l.drop i))).setCells g (i * 3) (encE x)) (.slice (some ⟨g, 0, none⟩) (L + 1) cap) (insE l i x) ∧ w.grownBy (((w.drewN q).setCells g ((i + 1) * 3) (flatE (l.drop i))).setCells g (i * 3) (encE x)) (some g)) := fun q => by
    have hil : (insE l i x).length = L + 1 := by unfold insE; simp [hL]; omega
    constructor
    · rw [drewN_setCells, drewN_setCells, ← hil]
      refine own_row (xs := flatE (insE l i x) ++ s') hr2 hB ?_ (by omega) hcm ?_
      · rw [← hlen, List.length_append, List.length_append, List.length_append, flatE_len, flatE_len, hil, hL, hs3]; omega
      · rw [List.take_append_of_le_length (by rw [flatE_len]; omega), List.take_of_length_le (by rw [flatE_len]; omega)]
    · exact grown_setCells _ _ _ (grown_setCells _ _ _ (grown_drewN (World.grownBy.refl w _) q))
  have hz2 : ¬ ((i : Int) = (L : Int)) := by omega
  have hw1 : IntKind.i64.wrap ((i : Int) + 1) = (i : Int) + 1 := IntWalk.i64_in _ (by omega)
  have hb1 : (0 : Int) ≤ (i : Int) + 1 := by omega
  have hin : i ≤ L := by omega
  have htn : ((i : Int) + 1).toNat = i + 1 := by omega
  have hb2 : ¬ (cap = i + 1) := by omega
  have hb3 : (i : Int) ≤ (L : Int) + 1 := by omega
  have hb4 : ¬ (cap = i) := by omega
  unfold maxLen at hcm
  have hd : w.drew = w.drewN 1 := rfl
  have hcp1' := hcp1 1
  have hcp2' := hcp2 1
  have HE1 := Lib.hid (HEND.out 1)
  rw [← hd] at hcp1' hcp2' HE1
  clear hcp1 hcp2 HEND hd
  generalize flatE (l.drop i) = FD at *
  generalize encE x = EX at *
  clear hrow hsplit hf1 hf2 htm ht3 htl e0 hr1 hr2 hlen hL ho hv hs3 hnc
  go_enter Try.func92, Try.ntmps92
  go_wp2_with (simp only [hov])
  go_region_law (refine step_copy_runI rfl _ _ 22 22 rfl _ _ (by simp [Act.eval, Act.put]) (by simp [Act.eval, Act.put]) (hcp1' _ _ _) ?_)
  go_wp2_with (at_builtin; refine wpList_copy_runI _ rfl _ _ 22 22 rfl _ _ rfl rfl (hcp2' _ _) ?_)
  go_ret
  exact ⟨_, rfl, HE1.out⟩
theorem insE_end (l : List E) (x : E) : insE l l.length x = l ++ [x] := by unfold insE; simp
theorem ins_end (B : Nat) (v : Value) (l : List E) (x : E) (vb : Nat) (w : World) (ho : OwnL B w v l) (hl : l.length ≤ 1024) (hB : B ≤ w.heap.size)
    (hv : w.heap[vb]? = some (.cells #[.int .i64 x.1, .int .i64 x.2.1, .int .i64 x.2.2] 52 (0, 0))) :
    Calls Try.prog 92 #[v, .int .i64 (l.length : Int), .slice (some ⟨vb, 0, none⟩) 1 1] w fun e w' => ∃ v', e = .returned v' ∧ OwnL B w' v' (insE l l.length x) ∧ w.grownBy w' v.ownBlock := by
  obtain ⟨i0, hi, hz0, hz1, hz2⟩ := infoE_parts info52
  have HV : Hid (∀ j u, (encE x)[j]? = some u → w.cell? ((⟨vb, 0, none⟩ : Addr).add j) = some u) := fun j u hj => by
    rw [Addr.add_lit, Nat.zero_add]; exact cell_of hv (by rw [← hj]; simp [encE])
  have HO := Lib.hid ho
  have HE := Lib.hid (insE_end l x)
  have HFX : Hid (∀ v' w', w'.ownsRow B 52 3 v' (l.length + 1) (flatE l ++ encE x) → OwnL B w' v' (insE l l.length x)) := fun v' w' h => by rw [insE_end]; exact OwnL.push (v := v') x h
  rcases ho.2 with ⟨rfl, hn⟩ | ⟨g, cap, cur, rfl, _, _, hnc, hcm, _⟩
  · have h0 : l = [] := List.length_eq_zero_iff.1 hn
    subst h0
    clear ho hn hv
    go_enter Try.func92, Try.ntmps92
    go_wp2_with (at_builtin; refine wpList_append_own _ rfl (.tmp 23) (.tmp 24) 22 rfl B 52 i0 (.agg #[.int .i64 0, .int .i64 0, .int .i64 0]) 3 24 Try.underlying22 hi hz0 hz1 hz2 rfl (by decide) (.slice none 0 0) 0 [] rfl HO.out ⟨vb, 0, none⟩ 1 1 (encE x) rfl rfl HV.out (encE_one _) (by unfold maxLen; omega) (by omega) hB ?_; intro v1 w4 hown hgrow hnil; have H2 : Hid (OwnL B w4 v1 (insE [] ([] : List E).length x) ∧ w.grownBy w4 (Value.slice none 0 0).ownBlock) := ⟨HFX.out _ _ hown, hgrow⟩; clear hown hgrow hnil)
    go_ret
    exact ⟨_, rfl, H2.out⟩
  · unfold maxLen at hcm
    obtain ⟨L, hL⟩ : ∃ L, l.length = L := ⟨_, rfl⟩
    have HL := Lib.hid hL
    have hLe : (l.length : Int) = (L : Int) := by rw [hL]
    rw [hL] at hnc hl HO HFX ⊢
    have hee : ((L : Int) == (L : Int)) = true := by simp
    clear ho hv hL hLe HE
    by_cases hcl : cap = L
    all_goals (
      go_enter Try.func92, Try.ntmps92
      go_wp2_with (at_builtin; refine wpList_append_own _ rfl (.tmp 23) (.tmp 24) 22 rfl B 52 i0 (.agg #[.int .i64 0, .int .i64 0, .int .i64 0]) 3 24 Try.underlying22 hi hz0 hz1 hz2 rfl (by decide) _ _ (flatE l) rfl (by have := HO.out; unfold OwnL at this; rw [HL.out] at this; exact this) ⟨vb, 0, none⟩ 1 1 (encE x) rfl rfl HV.out (encE_one _) (by unfold maxLen; omega) (by omega) hB ?_; intro v1 w4 hown hgrow hnil; have H2 := Lib.hid (And.intro (HFX.out _ _ hown) hgrow); clear hown hgrow hnil)
      go_ret
      exact ⟨_, rfl, H2.out⟩)
theorem zeros_len (n : Nat) : (Builtin.zeroCells (Value.agg #[.int .i64 0, .int .i64 0, .int .i64 0]).cells n).toList.length = n * 3 := by simp [Builtin.zeroCells, Value.cells]
theorem ins_grow (B g cap i : Nat) (l : List E) (x : E) (vb : Nat) (w : World) (ho : OwnL B w (.slice (some ⟨g, 0, none⟩) l.length cap) l) (hi : i < l.length) (hc : cap < l.length + 1) (hl : l.length ≤ 1024) (hne : vb ≠ g)
    (hv : w.heap[vb]? = some (.cells #[.int .i64 x.1, .int .i64 x.2.1, .int .i64 x.2.2] 52 (0, 0))) :
    Calls Try.prog 92 #[.slice (some ⟨g, 0, none⟩) l.length cap, .int .i64 (i : Int), .slice (some ⟨vb, 0, none⟩) 1 1] w fun e w' => ∃ v', e = .returned v' ∧ OwnL B w' v' (insE l i x) ∧ w.grownBy w' (some g) := by
  obtain ⟨i0, hi0, hz0, hz1, hz2⟩ := infoE_parts info52
  obtain ⟨_, sp, hrow, hB, hlen, hnc, hcm⟩ := row_own ho
  obtain ⟨L, hL⟩ : ∃ L, l.length = L := ⟨_, rfl⟩
  have hgw : g < w.heap.size := lt_block hrow
  have hvw : vb < w.heap.size := lt_block hv
  have hsplit : flatE l = flatE (l.take i) ++ flatE (l.drop i) := by rw [← flatE_app, List.take_append_drop]
  have hf1 : (flatE (l.take i)).length = i * 3 := by rw [flatE_len, List.length_take]; omega
  have hf2 : (flatE (l.drop i)).length = (L - i) * 3 := by rw [flatE_len, List.length_drop, hL]
  rw [hL] at hi hc hl hnc ⊢
  have hcell : ∀ j u, (flatE l)[j]? = some u → w.cell? ⟨g, j, none⟩ = some u := fun j u hj => by
    have hjl := (List.getElem?_eq_some_iff.1 hj).1
    rw [hrow.cell, List.getElem?_append_left hjl]; exact hj
  have hik : i + (L + 1 - i) = L + 1 := by omega
  have hkk : (L : Int) + 1 - (i : Int) = ((L + 1 - i : Nat) : Int) := by omega
  have hold : (Builtin.firstCells i0.size i (.slice (some ⟨g, 0, none⟩) i cap)).run Try.prog w.drew = .ok (flatE (l.take i)).toArray w.drew := by
    rw [hz1]
    exact run_firstCells_some w.drew 3 i ⟨g, 0, none⟩ i cap (flatE (l.take i)) hf1 (fun j u hj => by
      rw [Addr.add_lit, Nat.zero_add]
      show w.cell? _ = _
      refine hcell j u ?_
      rw [hsplit, List.getElem?_append_left (List.getElem?_eq_some_iff.1 hj).1]; exact hj)
  obtain ⟨G, hG⟩ : ∃ G, G = grownCap w (L + 1) cap 52 := ⟨_, rfl⟩
  have hrz : ∀ ty, (Builtin.append_ #[22, 3] ty #[.slice (some ⟨g, 0, none⟩) i cap, .int .i64 ((L : Int) + 1 - (i : Int))]).run Try.prog w =
      .ok (.slice (some ⟨w.heap.size, 0, none⟩) (L + 1) G) (w.drew.alloc (.cells ((flatE (l.take i)).toArray ++ Builtin.zeroCells (Value.agg #[.int .i64 0, .int .i64 0, .int .i64 0]).cells (L + 1 - i) ++ Builtin.zeroCells (Value.agg #[.int .i64 0, .int .i64 0, .int .i64 0]).cells (G - (L + 1))) 52)) := fun ty => by
    have h := Lib.run_append_grow_zeros w 22 3 ty 52 i0 _ .i64 .i64 Try.underlying22 Try.underlying3 hi0 hz0 (some ⟨g, 0, none⟩) i cap (flatE (l.take i)) hold (L + 1 - i) (by omega) (by omega) (by omega) (by omega) (by rw [hz2]; omega) (by rw [hz2, hik]; exact growslice_fits (by omega) (by omega))
    rw [hik, ← hG] at h
    rw [hkk]
    exact h
  have hGn : L + 1 ≤ G := by rw [hG]; exact grownCap_ge w _ _ _
  have hG63 : G ≤ 9223372036854775807 := by
    have := grownCap_le_maxLen w (L + 1) cap 52 (by unfold maxLen; omega)
    rw [← hG] at this
    unfold maxLen at this
    omega
  obtain ⟨Z1, hZ1⟩ : ∃ Z, Z = (Builtin.zeroCells (Value.agg #[.int .i64 0, .int .i64 0, .int .i64 0]).cells (L + 1 - i)).toList := ⟨_, rfl⟩
  obtain ⟨Z2, hZ2⟩ : ∃ Z, Z = (Builtin.zeroCells (Value.agg #[.int .i64 0, .int .i64 0, .int .i64 0]).cells (G - (L + 1))).toList := ⟨_, rfl⟩
  have hl1 : Z1.length = (L + 1 - i) * 3 := by rw [hZ1]; exact zeros_len _
  have hl2 : Z2.length = (G - (L + 1)) * 3 := by rw [hZ2]; exact zeros_len _
  have hA : (flatE (l.take i)).toArray ++ Builtin.zeroCells (Value.agg #[.int .i64 0, .int .i64 0, .int .i64 0]).cells (L + 1 - i) ++ Builtin.zeroCells (Value.agg #[.int .i64 0, .int .i64 0, .int .i64 0]).cells (G - (L + 1)) = (flatE (l.take i) ++ Z1 ++ Z2).toArray := by
    rw [hZ1, hZ2]; apply Array.ext'; simp
  rw [hA] at hrz
  obtain ⟨W1, hW1⟩ : ∃ W1, W1 = w.drew.alloc (.cells (flatE (l.take i) ++ Z1 ++ Z2).toArray 52) := ⟨_, rfl⟩
  rw [← hW1] at hrz
  obtain ⟨z3, z', hz, hz3⟩ : ∃ z3 z', Z1 = z3 ++ z' ∧ z3.length = 3 := ⟨Z1.take 3, Z1.drop 3, by rw [List.take_append_drop], by rw [List.length_take]; omega⟩
  have hzl : z'.length = (L - i) * 3 := by
    have := congrArg List.length hz
    rw [List.length_append, hz3, hl1] at this
    omega
  have hr0 : Row W1 w.heap.size (flatE (l.take i) ++ z3 ++ (z' ++ Z2)) := by
    unfold Row
    rw [hW1, show w.heap.size = w.drew.heap.size from rfl, heap_alloc_new, hz]; simp
  have hr1 : Row (W1.setCells w.heap.size (i * 3) (encE x)) w.heap.size (flatE (l.take i) ++ encE x ++ (z' ++ Z2)) := by
    have := Row.sets (encE x) (by rw [hz3]; rfl) hr0
    rwa [hf1] at this
  have hr2 : Row ((W1.setCells w.heap.size (i * 3) (encE x)).setCells w.heap.size ((i + 1) * 3) (flatE (l.drop i))) w.heap.size (flatE (insE l i x) ++ Z2) := by
    have := Row.sets (flatE (l.drop i)) (W := W1.setCells w.heap.size (i * 3) (encE x)) (g := w.heap.size) (a := flatE (l.take i) ++ encE x) (b := z') (c := Z2) (by rw [hzl, hf2]) (by simpa using hr1)
    rw [List.length_append, hf1, show i * 3 + (encE x).length = (i + 1) * 3 by rw [encE_len]; omega] at this
    unfold insE
    rw [flatE_app, flatE_cons]
    simpa using this
  have hOb : ∀ b j, b < w.heap.size → W1.cell? ⟨b, j, none⟩ = w.cell? ⟨b, j, none⟩ := fun b j hb => by
    rw [hW1]; exact (below_alloc w.drew _).cell (p := ⟨b, j, none⟩) hb
  have hcpA : ∀ ty dc, (Builtin.copy_ #[22, 22] ty #[.slice (some ⟨w.heap.size, i * 3, none⟩) (L + 1 - i) dc, .slice (some ⟨vb, 0, none⟩) 1 1]).run Try.prog W1 = .ok (goInt 1) (W1.setCells w.heap.size (i * 3) (encE x)) := fun ty dc =>
    run_copyE W1 ty w.heap.size (i * 3) (L + 1 - i) dc ⟨vb, 0, none⟩ 1 1 1 (encE x) (by simp only [Nat.min_def]; split <;> omega) rfl
      (fun j u hj => by
        rw [Addr.add_lit, Nat.zero_add, hOb _ _ hvw]
        exact cell_of hv (by rw [← hj]; simp [encE]))
      (fun j hj => by
        have hj3 : j < 3 := hj
        rw [hr0.cell, List.getElem?_eq_getElem (by simp only [List.length_append]; omega)]; rfl) (fun j hj => hr0.free _) (encE_one _)
  have hcpB : ∀ ty dc sc, (Builtin.copy_ #[22, 22] ty #[.slice (some ⟨w.heap.size, (i + 1) * 3, none⟩) (L - i) dc, .slice (some ⟨g, i * 3, none⟩) (L - i) sc]).run Try.prog (W1.setCells w.heap.size (i * 3) (encE x)).drew = .ok (goInt (L - i : Nat)) ((W1.setCells w.heap.size (i * 3) (encE x)).drew.setCells w.heap.size ((i + 1) * 3) (flatE (l.drop i))) := fun ty dc sc =>
    run_copyE _ ty w.heap.size ((i + 1) * 3) (L - i) dc ⟨g, i * 3, none⟩ (L - i) sc (L - i) (flatE (l.drop i)) (by simp [Nat.min_def]) hf2
      (fun j u hj => by
        have hjl := (List.getElem?_eq_some_iff.1 hj).1
        rw [Addr.add_lit]
        show (W1.setCells w.heap.size (i * 3) (encE x)).cell? _ = _
        rw [World.cell?_setCells_out _ _ _ _ _ (fun h _ => absurd h (by show g ≠ _; omega)), hOb _ _ hgw]
        refine hcell _ u ?_
        rw [hsplit, List.getElem?_append_right (by omega), hf1, Nat.add_sub_cancel_left]; exact hj)
      (fun j hj => by
        show ((W1.setCells w.heap.size (i * 3) (encE x)).cell? _).isSome = true
        rw [hr1.cell, List.getElem?_eq_getElem (by simp only [List.length_append, encE_len]; omega)]; rfl) (fun j hj => hr1.free _) (flatE_one _)
  have HEND : Hid (OwnL B ((W1.setCells w.heap.size (i * 3) (encE x)).drew.setCells w.heap.size ((i + 1) * 3) (flatE (l.drop i))) (.slice (some ⟨w.heap.size, 0, none⟩) (L + 1) G) (insE l i x) ∧ w.grownBy ((W1.setCells w.heap.size (i * 3) (encE x)).drew.setCells w.heap.size ((i + 1) * 3) (flatE (l.drop i))) (some g)) := by
    have hil : (insE l i x).length = L + 1 := by unfold insE; simp [hL]; omega
    have hdd : (W1.setCells w.heap.size (i * 3) (encE x)).drew.setCells w.heap.size ((i + 1) * 3) (flatE (l.drop i)) = ((W1.setCells w.heap.size (i * 3) (encE x)).setCells w.heap.size ((i + 1) * 3) (flatE (l.drop i))).drewN 1 := drewN_setCells _ 1 _ _ _
    constructor
    · rw [hdd, ← hil]
      refine own_row (xs := flatE (insE l i x) ++ Z2) hr2 (by omega) ?_ (by omega) (by unfold maxLen; omega) ?_
      · rw [List.length_append, flatE_len, hil, hl2]; omega
      · rw [List.take_append_of_le_length (by rw [flatE_len]; omega), List.take_of_length_le (by rw [flatE_len]; omega)]
    · rw [hdd]
      have hb1 : Below w.heap.size w W1 := by
        rw [hW1]
        have hbd := below_alloc w.drew (.cells (flatE (l.take i) ++ Z1 ++ Z2).toArray 52)
        exact ⟨hbd.os, hbd.tape, hbd.output, hbd.size, hbd.block⟩
      have hb2 : Below w.heap.size w ((W1.setCells w.heap.size (i * 3) (encE x)).setCells w.heap.size ((i + 1) * 3) (flatE (l.drop i))) := setCells_below (Nat.le_refl _) _ _ _ (setCells_below (Nat.le_refl _) _ _ _ hb1)
      exact grown_drewN ⟨hb2.os, hb2.tape, hb2.output, hb2.size, fun k hk _ => hb2.block k hk⟩ 1
  have hz2' : ¬ ((i : Int) = (L : Int)) := by omega
  have hz3' : (cap : Int) < (L : Int) + 1 := by omega
  have hw1 : IntKind.i64.wrap ((i : Int) + 1) = (i : Int) + 1 := IntWalk.i64_in _ (by omega)
  have hb1 : (0 : Int) ≤ (i : Int) + 1 := by omega
  have hin : i ≤ L := by omega
  have htn : ((i : Int) + 1).toNat = i + 1 := by omega
  have hb3 : (i : Int) ≤ (L : Int) := by omega
  have hGi : ¬ (G = i) := by omega
  have hGim : ¬ (G = i + 1) := by omega
  have hci : ¬ (cap = i) := by omega
  have hci1 : i ≤ cap := by omega
  clear hW1 hrow hsplit hf1 hf2 hcell hik hkk hold hG hA hZ1 hZ2 hl1 hl2 hz hz3 hzl hr0 hr1 hr2 hOb hlen hL ho hv hcm hi0 hz0 hz1 hz2
  generalize flatE (l.drop i) = FD at *
  generalize encE x = EX at *
  go_enter Try.func92, Try.ntmps92
  go_wp2_with (first
    | (at_builtin; refine Lib.wpList_append_run _ rfl _ _ _ _ rfl _ _ rfl rfl _ _ (hrz _) ?_)
    | (at_builtin; refine wpList_copy_runI _ rfl _ _ 22 22 rfl _ _ rfl rfl (hcpA _ _) ?_))
  go_region_law (refine step_copy_runI rfl _ _ 22 22 rfl _ _ (by simp [Act.eval, Act.put]) (by simp [Act.eval, Act.put]) (hcpB _ _ _) ?_)
  go_wp2
  go_ret
  exact ⟨_, rfl, HEND.out⟩
theorem insert_any (B i : Nat) (v : Value) (l : List E) (x : E) (vb : Nat) (w : World) (ho : OwnL B w v l) (hi : i ≤ l.length) (hl : l.length ≤ 1024) (hB : B ≤ w.heap.size) (hne : v.ownBlock ≠ some vb)
    (hv : w.heap[vb]? = some (.cells #[.int .i64 x.1, .int .i64 x.2.1, .int .i64 x.2.2] 52 (0, 0))) :
    Calls Try.prog 92 #[v, .int .i64 (i : Int), .slice (some ⟨vb, 0, none⟩) 1 1] w fun e w' => ∃ v', e = .returned v' ∧ OwnL B w' v' (insE l i x) ∧ w.grownBy w' v.ownBlock := by
  rcases (by omega : i = l.length ∨ i < l.length) with h | h
  · subst h; exact ins_end B v l x vb w ho hl hB hv
  · obtain ⟨g, cap, rfl, _, _⟩ := World.ownsRow.form ho (by omega)
    have hng : vb ≠ g := fun e => hne (by rw [e]; rfl)
    by_cases hc : l.length + 1 ≤ cap
    · exact ins_room B g cap i l x vb w ho h hc hl hng hv
    · exact ins_grow B g cap i l x vb w ho h (by omega) hl hng hv
end Go.Proofs.Ytiodpgannelgpaa
