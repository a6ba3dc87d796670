/-
  The walk of the law FieldList.
-/
import Derived.Test.YthoonegckifiaaaDoorWalkR
namespace Go.Proofs.YthoonegckifiaaaDoor.fieldList
open Go.ChangeShapes Go.WideShapes Go.ChangeAt Go.RowKit
set_option linter.unusedSimpArgs false
set_option linter.unusedVariables false
set_option maxHeartbeats 4000000
set_option maxRecDepth 100000

abbrev US := List (Nat × List Nat)
def L (us : US) : List Nat := us.flatMap encT
def ofs (us : US) : List Nat := (List.range us.length).map (offs us)
def Good (us : US) : Prop := ∀ t ∈ us, t.1 < 256 ∧ t.2.length ≤ 65535 ∧ Bytes t.2
theorem L_snoc (us : US) (t : Nat × List Nat) : L (us ++ [t]) = L us ++ encT t := by simp [L]
theorem ofs_len (us : US) : (ofs us).length = us.length := by simp [ofs]
theorem ofs_snoc (us : US) (t : Nat × List Nat) : ofs (us ++ [t]) = ofs us ++ [(L us).length] := by
  unfold ofs
  rw [List.length_append, List.length_singleton, List.range_succ, List.map_append, List.map_singleton]
  congr 1
  · apply List.map_congr_left
    intro i hi
    have := List.mem_range.1 hi
    unfold offs
    rw [List.take_append_of_le_length (by omega)]
  · unfold offs L
    rw [List.take_left]
theorem L_len (us : US) : (L us).length = encLen (us.map toI) := by
  induction us with
  | nil => rfl
  | cons a b ih =>
    unfold L encLen at *
    rw [List.flatMap_cons, List.length_append, ih, encT_len]
    simp [toI]
theorem enc_take (ts : List TV) (k : Nat) : encLen (ts.take k) ≤ encLen ts := by
  induction ts generalizing k with
  | nil => simp
  | cons a b ih =>
    cases k with
    | zero => simp [encLen]
    | succ k =>
      have := ih k
      unfold encLen at *
      simp only [List.take_succ_cons, List.map_cons, List.sum_cons]; omega
theorem enc_count (ts : List TV) : ts.length ≤ encLen ts := by
  induction ts with
  | nil => simp
  | cons a b ih =>
    unfold encLen at *
    simp only [List.length_cons, List.map_cons, List.sum_cons]; omega
theorem enc_mem (ts : List TV) : ∀ t ∈ ts, t.2.length ≤ encLen ts := by
  induction ts with
  | nil => intro t h; cases h
  | cons a b ih =>
    intro t ht
    unfold encLen at *
    simp only [List.map_cons, List.sum_cons]
    rcases List.mem_cons.1 ht with rfl | ht
    · omega
    · have := ih t ht; omega
theorem good_bytes {us : US} (h : Good us) : Bytes (L us) := by
  unfold L
  induction us with
  | nil => intro x hx; simp at hx
  | cons a b ih =>
    rw [List.flatMap_cons]
    have ha := h a (by simp)
    exact (enc_bytes ha.1 (by have := ha.2.1; omega) ha.2.2).app (ih fun t ht => h t (by simp [ht]))
theorem good_snoc {us : US} {t : Nat × List Nat} (h : Good us) (h1 : t.1 < 256) (h2 : t.2.length ≤ 65535) (h3 : Bytes t.2) : Good (us ++ [t]) := fun x hx => by
  rcases List.mem_append.1 hx with hx | hx
  · exact h x hx
  · obtain rfl := List.mem_singleton.1 hx; exact ⟨h1, h2, h3⟩
theorem int_info : (Tryd.prog.info? 3).map (fun i => (i.zero, i.size, i.bytes)) = some (some (.int .i64 0), 1, 8) := by kernel_rfl
theorem one_int (x : Int) : ∀ u ∈ [Value.int .i64 x], u.oneCell' = true := by
  intro u hu; simp at hu; subst hu; rfl
theorem under50 : Tryd.prog.underlying 50 = some (.slice 3) := by kernel_rfl
theorem cut_none {us : US} {c : Nat} (hc : c < (L us).length) (h : ¬ ∃ x ∈ ofs us, (x : Int) = (c : Int)) : tlvs ((L us).take c) = none :=
  tlvs_prefix us c hc fun i hi e => h ⟨offs us i, List.mem_map.2 ⟨i, List.mem_range.2 hi, rfl⟩, by omega⟩
theorem rd_take {w : World} {ad : Option Addr} {l : List Nat} {n cap c : Nat} (h : Rd w (.slice ad n cap) l) (hc : c ≤ n) : Rd w (.slice ad c cap) (l.take c) := by
  obtain ⟨ad', cap', e, h1, h2, h3⟩ := h
  cases e
  exact ⟨ad, cap, by rw [List.length_take, Nat.min_eq_left hc], by rw [List.length_take]; omega, fun x hx => h2 x (List.mem_of_mem_take hx), h3.take c⟩

theorem puttlv_kind2 (lb : List Nat) (vb : Value) (kind : Int) (lv : List Nat) (vv : Value) (w : World) (hb : Rd w vb lb) (hv : Rd w vv lv) (h : kind < 0 ∨ 255 < kind) :
    Calls Tryd.prog 20 #[vb, .agg #[.int .i64 kind, vv]] w fun e w' => e = .returned (.tuple #[.slice none 0 0, .int .i64 5]) ∧ Below w.heap.size w w' := by
  obtain ⟨ad, cap, rfl, _⟩ := hb
  obtain ⟨ad2, cap2, rfl, _⟩ := hv
  rcases h with h | h
  · go_enter Tryd.func20, Tryd.ntmps20
    go_wp2
    go_ret2
    exact ⟨rfl, (Below.refl _ _).alloc (Nat.le_refl _) _⟩
  · have h0 : ¬ kind < 0 := by omega
    go_enter Tryd.func20, Tryd.ntmps20
    go_wp2
    go_ret2
    exact ⟨rfl, (Below.refl _ _).alloc (Nat.le_refl _) _⟩
theorem walk (t0 : List TV) (v0 : Value) (a1 : Int) (w : World) (hT : Tab w) (hl0 : encLen t0 ≤ 1048576) (hr0 : RdT w v0 t0) (h1 : I64 a1) :
    Calls Tryd.prog 8 #[v0, .int .i64 a1] w fun e w' => e = .returned (.bool true) ∧ Below w.heap.size w w' := by
  obtain ⟨i0, hi, hz0, hz1, hz2⟩ := info_parts int_info
  have HT := Lib.hid hT
  have HR0 := Lib.hid hr0
  have hcn := enc_count t0
  have HMEM := Lib.hid (enc_mem t0)
  obtain ⟨ad, cap, rfl, hc⟩ := hr0
  have HC := Lib.hid hc
  have HL0 := Lib.hid hl0
  clear hT hc
  go_enter Tryd.func8, Tryd.ntmps8
  go_wp2
  go_loopg [5, 6, 8, 9, 10, 17] t0.length (fun g s5 s6 _ _ _ s17 wr => ∃ (k : Nat) (us : US) (vb ve : Value), k ≤ t0.length ∧ t0.length - k ≤ g ∧ vb = s5 ∧ ve = s6 ∧ s17 = .int .i64 k ∧ Hid (t0.take k = us.map toI ∧ Good us ∧ us.length = k) ∧ wr.ownsRow w.heap.size 5 1 vb (L us).length (u8s (L us)) ∧ wr.ownsRow w.heap.size 3 1 ve k (intsV (ofs us)) ∧ Below w.heap.size w wr)
  case atStart => exact ⟨0, [], _, _, by omega, by omega, rfl, rfl, rfl, ⟨rfl, (fun t h => by cases h), rfl⟩, World.ownsRow_nil _ _ _ _, World.ownsRow_nil _ _ _ _, Below.refl _ _⟩
  case round =>
    obtain ⟨k, us, vb, ve, hk, hg, rfl, rfl, rfl, HU, hob, hoe, hbel⟩ := hrel
    have HW := Lib.hid hbel
    have HOB := Lib.hid hob
    have HOE := Lib.hid hoe
    have hz : w.heap.size ≤ wr.heap.size := hbel.size
    have HRB : Hid (Rd wr vb (L us)) := rd_own hob (good_bytes HU.out.2.1)
    have hLl : (L us).length ≤ 1048576 := by rw [L_len, ← HU.out.1]; exact Nat.le_trans (enc_take t0 k) HL0.out
    obtain ⟨adb, capb, rfl, hbc, _⟩ := HRB.out
    clear hob hoe hbel
    by_cases hlt : k < t0.length
    · obtain ⟨t, ht⟩ : ∃ t, t0[k]? = some t := ⟨_, List.getElem?_eq_getElem hlt⟩
      obtain ⟨blk, off, x, rfl, hblk, hc0, hc1, hrx⟩ := HC.out k t ht
      have htl : t.2.length ≤ 1048576 := Nat.le_trans (HMEM.out t (List.mem_of_getElem? ht)) HL0.out
      obtain ⟨n, l⟩ := t
      have HTK : Hid (t0.take (k + 1) = t0.take k ++ [(n, l)]) := by unfold Hid; rw [List.take_add_one, ht]; rfl
      clear ht
      have e0 : wr.cell? ⟨blk, off + k * 2, none⟩ = some (.int .i64 n) := (HW.out.cell (p := ⟨blk, off + k * 2, none⟩) hblk).trans hc0
      have e1 : wr.cell? ⟨blk, off + k * 2 + 1, none⟩ = some x := (HW.out.cell (p := ⟨blk, off + k * 2 + 1, none⟩) hblk).trans hc1
      have HRX := Lib.hid (hrx.below HW.out)
      obtain ⟨A1, p1, rfl, _⟩ := hrx
      have n1 : ¬ blk = wr.heap.size := by omega
      have m0 : blk < wr.heap.size := by omega
      clear hc0 hc1
      have HA := Lib.hid (HW.out.alloc hz (.cells #[.int .i64 n, .slice A1 l.length p1] 36))
      have HAR := Lib.hid ((Below.refl wr.heap.size wr).alloc (Nat.le_refl _) (.cells #[.int .i64 n, .slice A1 l.length p1] 36))
      by_cases hbk : n < 0 ∨ 255 < n
      · have HP := Lib.hid (puttlv_kind2 (L us) _ n l _ _ (HRB.out.below HAR.out) (HRX.out.below HAR.out) hbk)
        clear hbk
        go_wp2_with (first
          | (go_at_call 20; refine HP.out.mono ?_; rintro e w1 ⟨rfl, hb⟩; have X1 := Lib.hid (HA.out.trans (hb.mono HA.out.size)); clear hb)
          | (go_at_call 12; refine (awake_any _ (tab_below HT.out X1.out)).mono ?_; rintro e w2 ⟨rfl, hb⟩; have X2 := Lib.hid (X1.out.trans (hb.mono X1.out.size)); clear hb))
        go_ret
        exact ⟨rfl, X2.out⟩
      · obtain ⟨m, rfl⟩ := Int.eq_ofNat_of_zero_le (show 0 ≤ n by omega)
        by_cases hlg : 65535 < l.length
        · have HP := Lib.hid (puttlv_long (L us) _ m l _ _ (by omega) (HRB.out.below HAR.out) (HRX.out.below HAR.out) hlg (by simp only at htl; omega))
          go_wp2_with (first
            | (go_at_call 20; refine HP.out.mono ?_; rintro e w1 ⟨rfl, hb⟩; have X1 := Lib.hid (HA.out.trans (hb.mono HA.out.size)); clear hb)
            | (go_at_call 12; refine (awake_any _ (tab_below HT.out X1.out)).mono ?_; rintro e w2 ⟨rfl, hb⟩; have X2 := Lib.hid (X1.out.trans (hb.mono X1.out.size)); clear hb))
          go_ret
          exact ⟨rfl, X2.out⟩
        · have HP := Lib.hid (puttlv_yes (L us) _ m l _ _ (by omega) (HRB.out.below HAR.out) (HRX.out.below HAR.out) (by omega) (by omega))
          have HG2 : Hid (Good (us ++ [(m, l)])) := good_snoc HU.out.2.1 (by simp only; omega) (by simp only; omega) HRX.out.bytes
          have HU2 : Hid (t0.take (k + 1) = (us ++ [(m, l)]).map toI ∧ (us ++ [(m, l)]).length = k + 1) := by
            refine ⟨?_, by rw [List.length_append, HU.out.2.2]; rfl⟩
            rw [HTK.out, HU.out.1, List.map_append]; rfl
          have hkm : k ≤ 1048576 := by have := HL0.out; omega
          go_wp2_with (first
            | (go_at_call 20; refine HP.out.mono ?_; rintro e w1 ⟨v1, rfl, hown, hb⟩; have X1 : Hid (w1.ownsRow w.heap.size 5 1 v1 (L (us ++ [(m, l)])).length (u8s (L (us ++ [(m, l)]))) ∧ w1.ownsRow w.heap.size 3 1 ve k (intsV (ofs us)) ∧ Below w.heap.size w w1) := ⟨by rw [L_snoc]; exact own_base hown HA.out.size, own_below (own_below HOE.out HAR.out) hb, HA.out.trans (hb.mono HA.out.size)⟩; clear hown hb)
            | (at_builtin; refine wpList_append_own _ rfl (.tmp 30) (.tmp 33) 50 rfl w.heap.size 3 i0 (.int .i64 0) 1 8 under50 hi hz0 hz1 hz2 rfl (by decide) ve k (intsV (ofs us)) rfl (X1.out.2.1.alloc _) ⟨w1.heap.size, 0, none⟩ 1 1 [.int .i64 (L us).length] rfl rfl (cell_one_new _ _ _) (one_int _) (by unfold maxLen; omega) (by omega) (by have := X1.out.2.2.size; simp; omega) ?_; intro v2 w2 hown2 hg2 hn2; have k5 := X1.out.1.alloc (.cells #[.int .i64 ((L us).length : Int)] 3); have k3 := X1.out.2.1.alloc (.cells #[.int .i64 ((L us).length : Int)] 3); have X2 : Hid (w2.ownsRow w.heap.size 5 1 v1 (L (us ++ [(m, l)])).length (u8s (L (us ++ [(m, l)]))) ∧ w2.ownsRow w.heap.size 3 1 v2 (k + 1) (intsV (ofs (us ++ [(m, l)]))) ∧ Below w.heap.size w w2) := ⟨k5.kept hg2 (own_ne k5 k3 (show (5 : TypeId) ≠ 3 by decide)), by rw [ofs_snoc, intsV_snoc]; exact hown2, below_grown (X1.out.2.2.alloc X1.out.2.2.size _) (X1.out.2.1.alloc _) hg2 (by have := X1.out.2.2.size; simp; omega)⟩; clear hown2 hg2 hn2 k5 k3))
          go_roundg (t0.length - (k + 1))
          case measure => omega
          case rel => exact ⟨k + 1, us ++ [(m, l)], v1, v2, by omega, Nat.le_refl _, rfl, rfl, by go_num, ⟨HU2.out.1, HG2.out, HU2.out.2⟩, X2.out.1, X2.out.2.1, X2.out.2.2⟩
    · have hkl : k = t0.length := by omega
      subst hkl
      have HX : Hid (t0 = us.map toI) := by have := HU.out.1; rw [List.take_length] at this; exact this
      have HLE : Hid (∀ t ∈ t0, t.2.length ≤ 140737489403904) := fun t ht => Nat.le_trans (HMEM.out t ht) (by have := HL0.out; omega)
      have HOL : Hid ((ofs us).length ≤ 140737489403904) := by unfold Hid; rw [ofs_len, HU.out.2.2]; omega
      have HRI : Hid (∀ W, Below wr.heap.size wr W → RdI W ve (ofs us)) := fun W hW => by
        have h := own_below HOE.out hW
        rw [show t0.length = (ofs us).length from ((ofs_len us).trans HU.out.2.2).symm] at h
        exact rdi_own h
      have H22 : Hid (∀ W, Below wr.heap.size wr W → Calls Tryd.prog 22 #[.slice adb (L us).length capb] W fun e w' => ∃ v, e = .returned (.tuple #[v, .int .i64 0]) ∧ RdT w' v t0 ∧ Below W.heap.size W w') := fun W hW =>
        (tlvs_any (L us) _ W (by omega) (HRB.out.below hW)).mono fun e w' h => by
          have ha := tlvs_all us
          rcases h with ⟨⟨h, _⟩ | ⟨ts, v, h, he, hr⟩, hb⟩
          · exact absurd (h.symm.trans ha) (by simp)
          · obtain rfl := Option.some.inj (h.symm.trans ha)
            exact ⟨v, he, by rw [HX.out]; exact hr, hb⟩
      by_cases hc0 : 0 ≤ a1
      · obtain ⟨c, rfl⟩ := Int.eq_ofNat_of_zero_le hc0
        by_cases hc1 : c < (L us).length
        · by_cases hin : ∃ x ∈ ofs us, (x : Int) = (c : Int)
          · have HB : Hid (true = true ↔ ∃ x ∈ ofs us, (x : Int) = (c : Int)) := ⟨fun _ => hin, fun _ => rfl⟩
            have HAS : Hid (∀ W, Below wr.heap.size wr W → Calls Tryd.prog 28 #[ve, .int .i64 (c : Int)] W fun e w' => e = .returned (.bool true) ∧ W = w') := fun W hW => has_any (ofs us) ve c true W HOL.out h1 (HRI.out W hW) HB.out
            clear hin
            go_wp2_with (first
              | (go_at_call 22; refine (H22.out _ (Below.refl _ _)).mono ?_; rintro e w1 ⟨v1, rfl, hr, hb⟩; have X1 := Lib.hid (And.intro hr hb); clear hr hb)
              | (go_at_call 24; refine (samet_yes t0 _ _ _ (by omega) HLE.out (HR0.out.below (HW.out.trans (X1.out.2.mono hz))) X1.out.1).mono ?_; rintro e w2 ⟨rfl, hb⟩; have X2 := Lib.hid (X1.out.2.trans (hb.mono X1.out.2.size)); clear hb)
              | (go_at_call 28; refine (HAS.out _ X2.out).mono ?_; rintro e w' ⟨rfl, rfl⟩)
              | (go_at_call 12; refine (awake_any _ (tab_below HT.out (HW.out.trans (X2.out.mono hz)))).mono ?_; rintro e w4 ⟨rfl, hb⟩; have X4 := Lib.hid (X2.out.trans (hb.mono X2.out.size)); clear hb))
            go_ret
            exact ⟨rfl, HW.out.trans (X4.out.mono hz)⟩
          · have HB : Hid (false = true ↔ ∃ x ∈ ofs us, (x : Int) = (c : Int)) := ⟨(fun h => by cases h), fun h => absurd h hin⟩
            have H22b : Hid (∀ W, Below wr.heap.size wr W → Calls Tryd.prog 22 #[.slice adb c capb] W fun e w' => e = .returned (.tuple #[.slice none 0 0, .int .i64 3]) ∧ Below W.heap.size W w') := fun W hW =>
              (tlvs_any ((L us).take c) _ W (by rw [List.length_take]; omega) (rd_take (HRB.out.below hW) (by omega))).mono fun e w' h => by
                have ha := cut_none hc1 hin
                rcases h with ⟨⟨_, he⟩ | ⟨ts, v, h, _⟩, hb⟩
                · exact ⟨he, hb⟩
                · exact absurd (h.symm.trans ha) (by simp)
            have HAS : Hid (∀ W, Below wr.heap.size wr W → Calls Tryd.prog 28 #[ve, .int .i64 (c : Int)] W fun e w' => e = .returned (.bool false) ∧ W = w') := fun W hW => has_any (ofs us) ve c false W HOL.out h1 (HRI.out W hW) HB.out
            clear hin
            go_wp2_with (first
              | (go_at_call 22; first | (have := M22; refine (H22b.out _ X2.out).mono ?_; rintro e w3 ⟨rfl, hb⟩; have X3 := Lib.hid (X2.out.trans (hb.mono X2.out.size)); clear hb) | (refine (H22.out _ (Below.refl _ _)).mono ?_; rintro e w1 ⟨v1, rfl, hr, hb⟩; have X1 := Lib.hid (And.intro hr hb); clear hr hb; have M22 := True.intro))
              | (go_at_call 24; refine (samet_yes t0 _ _ _ (by omega) HLE.out (HR0.out.below (HW.out.trans (X1.out.2.mono hz))) X1.out.1).mono ?_; rintro e w2 ⟨rfl, hb⟩; have X2 := Lib.hid (X1.out.2.trans (hb.mono X1.out.2.size)); clear hb)
              | (go_at_call 28; refine (HAS.out _ X2.out).mono ?_; rintro e w' ⟨rfl, rfl⟩)
              | (go_at_call 12; refine (awake_any _ (tab_below HT.out (HW.out.trans (X3.out.mono hz)))).mono ?_; rintro e w4 ⟨rfl, hb⟩; have X4 := Lib.hid (X3.out.trans (hb.mono X3.out.size)); clear hb))
            go_ret
            exact ⟨rfl, HW.out.trans (X4.out.mono hz)⟩
        · go_wp2_with (first
            | (go_at_call 22; refine (H22.out _ (Below.refl _ _)).mono ?_; rintro e w1 ⟨v1, rfl, hr, hb⟩; have X1 := Lib.hid (And.intro hr hb); clear hr hb)
            | (go_at_call 24; refine (samet_yes t0 _ _ _ (by omega) HLE.out (HR0.out.below (HW.out.trans (X1.out.2.mono hz))) X1.out.1).mono ?_; rintro e w2 ⟨rfl, hb⟩; have X2 := Lib.hid (X1.out.2.trans (hb.mono X1.out.2.size)); clear hb)
            | (go_at_call 12; refine (awake_any _ (tab_below HT.out (HW.out.trans (X2.out.mono hz)))).mono ?_; rintro e w4 ⟨rfl, hb⟩; have X4 := Lib.hid (X2.out.trans (hb.mono X2.out.size)); clear hb))
          go_ret
          exact ⟨rfl, HW.out.trans (X4.out.mono hz)⟩
      · go_wp2_with (first
          | (go_at_call 22; refine (H22.out _ (Below.refl _ _)).mono ?_; rintro e w1 ⟨v1, rfl, hr, hb⟩; have X1 := Lib.hid (And.intro hr hb); clear hr hb)
          | (go_at_call 24; refine (samet_yes t0 _ _ _ (by omega) HLE.out (HR0.out.below (HW.out.trans (X1.out.2.mono hz))) X1.out.1).mono ?_; rintro e w2 ⟨rfl, hb⟩; have X2 := Lib.hid (X1.out.2.trans (hb.mono X1.out.2.size)); clear hb)
          | (go_at_call 12; refine (awake_any _ (tab_below HT.out (HW.out.trans (X2.out.mono hz)))).mono ?_; rintro e w4 ⟨rfl, hb⟩; have X4 := Lib.hid (X2.out.trans (hb.mono X2.out.size)); clear hb))
        go_ret
        exact ⟨rfl, HW.out.trans (X4.out.mono hz)⟩
end Go.Proofs.YthoonegckifiaaaDoor.fieldList
