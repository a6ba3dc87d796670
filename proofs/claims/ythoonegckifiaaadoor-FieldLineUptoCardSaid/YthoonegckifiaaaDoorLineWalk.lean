/-
  The walk of the law FieldLine.
-/
import Derived.Test.YthoonegckifiaaaDoorWalkP
namespace Go.Proofs.YthoonegckifiaaaDoor.fieldLine
open Go.ChangeShapes Go.WideShapes Go.ChangeAt Go.RowKit
set_option linter.unusedSimpArgs false
set_option linter.unusedVariables false
set_option maxHeartbeats 4000000
set_option maxRecDepth 100000
theorem sp32 (J : List UInt8) : bs J ++ ⟨#[32]⟩ = bs (J ++ [32]) := bs_app J [32]
theorem walk (p0 : List (List UInt8)) (v0 : Value) (s1 : ByteArray) (w : World) (hT : Tab w) (hl0 : lineLen p0 ≤ 1048576) (hr0 : RdW w v0 p0) (hs1 : s1.size ≤ 1048576) :
    Calls Tryd.prog 9 #[v0, .string s1] w fun e w' => e = .returned (.bool true) ∧ Below w.heap.size w w' := by
  have HT := Lib.hid hT
  have HR0 := Lib.hid hr0
  have hpl := line_count p0
  have HW1 : Hid (∃ F : Bool, p0.all T.fine = F ∧ Calls Tryd.prog 25 #[.string (bs (T.joinS p0))] w fun e w' => ∃ (v : Value) (er : Int), e = .returned (.tuple #[v, .int .i64 er]) ∧ (F = true → er = 0 ∧ RdW w' v p0) ∧ Below w.heap.size w w') := by
    refine ⟨_, rfl, (words_any (bs (T.joinS p0)) w (by rw [bs_size]; have := join_len p0; omega)).mono fun e w' h => ?_⟩
    rw [bs_data] at h
    rcases h with ⟨⟨h, he⟩ | ⟨ps, v, h, he, hr⟩, hb⟩
    · refine ⟨_, _, he, fun hf => ?_, hb⟩
      rw [T.words_join p0 (List.all_eq_true.1 hf)] at h; cases h
    · refine ⟨_, _, he, fun hf => ?_, hb⟩
      rw [T.words_join p0 (List.all_eq_true.1 hf)] at h
      obtain rfl := Option.some.inj h
      exact ⟨rfl, hr⟩
  have HW2 : Hid (∀ W, ∃ (ps : List (List UInt8)) (er : Int), lineLen ps ≤ 1048577 ∧ (er = 2 ∨ (er = 0 ∧ bs (T.joinS ps) = s1)) ∧ Calls Tryd.prog 25 #[.string s1] W fun e w' => ∃ v, e = .returned (.tuple #[v, .int .i64 er]) ∧ RdW w' v ps ∧ Below W.heap.size W w') := fun W => by
    have h := words_any s1 W hs1
    cases hw : T.words s1.data.toList with
    | none =>
      refine ⟨[], 2, by simp [lineLen], .inl rfl, h.mono fun e w' h => ?_⟩
      rcases h with ⟨⟨_, he⟩ | ⟨ps, v, h, he, hr⟩, hb⟩
      · exact ⟨_, he, rdw_nil _, hb⟩
      · rw [hw] at h; cases h
    | some ps =>
      have hj := T.join_words hw
      have hlen : s1.data.toList.length = s1.size := by simp
      refine ⟨ps, 0, by have := join_len ps; rw [hj] at this; omega, .inr ⟨rfl, by rw [hj, ← bs_of]⟩, h.mono fun e w' h => ?_⟩
      rcases h with ⟨⟨h, _⟩ | ⟨ps', v, h, he, hr⟩, hb⟩
      · rw [hw] at h; cases h
      · rw [hw] at h; obtain rfl := Option.some.inj h; exact ⟨_, he, hr, hb⟩
  obtain ⟨ad, cap, rfl, hc⟩ := hr0
  have HC := Lib.hid hc
  have HL0 := Lib.hid hl0
  clear hT hc
  go_enter Tryd.func9, Tryd.ntmps9
  go_wp2
  go_loop [5, 6, 7, 8, 18] (fun s5 s6 _ _ i => ∃ (k : Nat) (J : List UInt8) (F : Bool), k ≤ p0.length ∧ i = .int .i64 k ∧ s5 = .string (bs J) ∧ s6 = .bool F ∧ Hid (J = T.joinS (p0.take k) ∧ F = (p0.take k).all T.fine) ∧ J.length ≤ 1048576) (fun _ _ _ _ i => p0.length - (intOf i).toNat)
  case atStart => exact ⟨0, [], true, Nat.zero_le _, rfl, rfl, rfl, ⟨rfl, rfl⟩, by simp⟩
  case round =>
    obtain ⟨k, J, F, hk, rfl, rfl, rfl, HJ, hJl⟩ := hrel
    by_cases hlt : k < p0.length
    · obtain ⟨p, hp⟩ : ∃ p, p0[k]? = some p := ⟨_, List.getElem?_eq_getElem hlt⟩
      obtain ⟨blk, off, rfl, hblk, hc0⟩ := HC.out k p hp
      have HTK : Hid (p0.take (k + 1) = p0.take k ++ [p]) := by unfold Hid; rw [List.take_add_one, hp]; rfl
      have HLT := Lib.hid (line_take p0 (k + 1))
      clear hp
      have HPB : Hid (p.length ≤ 1048576 ∧ ∀ J', J' = T.joinS (p0.take (k + 1)) → J'.length ≤ 1048576) := by
        have h1 := join_len (p0.take (k + 1))
        have h2 := HL0.out
        have h3 := HLT.out
        refine ⟨?_, fun J' e => by rw [e]; omega⟩
        rw [HTK.out, line_snoc] at h3; omega
      have HF : Hid ((p0.take (k + 1)).all T.fine = (F && T.fine p)) := by unfold Hid; rw [HTK.out, all_snoc, HJ.out.2]
      have hpz : ¬ 9223372036854775807 < (bs J).size + (bs p).size := by rw [bs_size, bs_size]; have := HPB.out.1; omega
      have hpn : (bs p).size ≤ 140737488355328 := by rw [bs_size]; have := HPB.out.1; omega
      have HPL : Hid (∀ W, Calls Tryd.prog 29 #[.string (bs p)] W fun e w' => e = .returned (.bool (plainS p)) ∧ W = w') := fun W => by
        have := plain_any (bs p) W hpn
        rw [bs_data] at this; exact this
      have hz1 : ¬ 9223372036854775807 < (bs J).size + 1 := by rw [bs_size]; omega
      obtain ⟨J', HJ'⟩ : ∃ J', Hid (J' = T.joinS (p0.take (k + 1))) := ⟨_, rfl⟩
      have HJL := Lib.hid (HPB.out.2 J' HJ'.out)
      by_cases hk0 : k = 0
      · subst hk0
        rw [Nat.add_zero] at hc0
        have HE : Hid (bs J ++ bs p = bs J') := by
          unfold Hid; rw [bs_app, HJ'.out, HTK.out, HJ.out.1]; simp [T.joinS]
        by_cases hF : F = true
        · subst hF
          by_cases hpe : p = []
          · have w2 : (bs p).toList = [] := by rw [str_list, bs_data]; exact hpe
            have w3 : (bs p).toList.isEmpty = true := by rw [w2]; rfl
            have hfp : Hid (T.fine p = false) := by unfold Hid; rw [hpe]; rfl
            clear hpe
            go_wp2
            go_round
            case rel => exact ⟨0 + 1, J', false, by omega, by go_num, by rw [← HE.out], rfl, ⟨HJ'.out, by rw [HF.out, hfp.out]; simp⟩, HJL.out⟩
            case measure => simp [intOf]; omega
          · have w3 : (bs p).toList.isEmpty = false := by rw [str_list, bs_data]; simpa using hpe
            have hfp : Hid (T.fine p = plainS p) := fine_eq p hpe
            clear hpe
            go_wp2_with (go_at_call 29; refine (HPL.out _).mono ?_; rintro e w' ⟨rfl, rfl⟩)
            go_round
            case rel => exact ⟨0 + 1, J', plainS p, by omega, by go_num, by rw [← HE.out], rfl, ⟨HJ'.out, by rw [HF.out, hfp.out]; simp⟩, HJL.out⟩
            case measure => simp [intOf]; omega
        · obtain rfl : F = false := by simpa using hF
          go_wp2
          go_round
          case rel => exact ⟨0 + 1, J', false, by omega, by go_num, by rw [← HE.out], rfl, ⟨HJ'.out, by rw [HF.out]; rfl⟩, HJL.out⟩
          case measure => simp [intOf]; omega
      · have HE : Hid (bs J ++ ⟨#[32]⟩ ++ bs p = bs J') := by
          unfold Hid; rw [sp32, bs_app, HJ'.out, HTK.out, HJ.out.1, T.joinS_snoc _ _ (by intro e; have := congrArg List.length e; rw [List.length_take, List.length_nil] at this; omega)]; simp
        have hz2 : ¬ 9223372036854775807 < (bs J).size + 1 + (bs p).size := by rw [bs_size, bs_size]; have := HPB.out.1; omega
        have hz3 : ¬ 9223372036854775807 < (bs J ++ ⟨#[32]⟩).size + (bs p).size := by rw [sp32, bs_size, bs_size]; have := HPB.out.1; simp; omega
        by_cases hF : F = true
        · subst hF
          by_cases hpe : p = []
          · have w2 : (bs p).toList = [] := by rw [str_list, bs_data]; exact hpe
            have w3 : (bs p).toList.isEmpty = true := by rw [w2]; rfl
            have hfp : Hid (T.fine p = false) := by unfold Hid; rw [hpe]; rfl
            clear hpe
            go_wp2
            go_round
            case rel => exact ⟨k + 1, J', false, by omega, by go_num, by rw [← HE.out], rfl, ⟨HJ'.out, by rw [HF.out, hfp.out]; simp⟩, HJL.out⟩
            case measure => simp [intOf]; omega
          · have w3 : (bs p).toList.isEmpty = false := by rw [str_list, bs_data]; simpa using hpe
            have hfp : Hid (T.fine p = plainS p) := fine_eq p hpe
            clear hpe
            go_wp2_with (go_at_call 29; refine (HPL.out _).mono ?_; rintro e w' ⟨rfl, rfl⟩)
            go_round
            case rel => exact ⟨k + 1, J', plainS p, by omega, by go_num, by rw [← HE.out], rfl, ⟨HJ'.out, by rw [HF.out, hfp.out]; simp⟩, HJL.out⟩
            case measure => simp [intOf]; omega
        · obtain rfl : F = false := by simpa using hF
          go_wp2
          go_round
          case rel => exact ⟨k + 1, J', false, by omega, by go_num, by rw [← HE.out], rfl, ⟨HJ'.out, by rw [HF.out]; rfl⟩, HJL.out⟩
          case measure => simp [intOf]; omega
    · have hkl : k = p0.length := by omega
      subst hkl
      have HX : Hid (J = T.joinS p0 ∧ F = p0.all T.fine) := by have := HJ.out; rw [List.take_length] at this; exact this
      obtain ⟨F', hF', hW1⟩ := HW1.out
      obtain rfl : F' = F := hF'.symm.trans HX.out.2.symm
      rw [← HX.out.1] at hW1
      have HWF := Lib.hid hW1
      clear hW1 hF'
      by_cases hF : F' = true
      · subst hF
        go_wp2_with (first
          | (go_at_call 25; first
            | (have := M25; obtain ⟨ps, er, hpl2, her, hcall⟩ := HW2.out w1; refine hcall.mono ?_; clear hcall; rintro e w2 ⟨v2, rfl, hr, hb⟩; obtain ⟨ad2, cap2, rfl, hc2⟩ := hr; have HC2 := Lib.hid hc2; have HL2 := Lib.hid hpl2; have hplc := line_count ps; have X2 := Lib.hid (X1.out.2.trans (hb.mono X1.out.2.size)); clear hb hc2)
            | (refine HWF.out.mono ?_; rintro e w1 ⟨v1, er1, rfl, hf, hb⟩; obtain ⟨rfl, hr⟩ := hf rfl; have X1 := Lib.hid (And.intro hr hb); clear hr hb hf; have M25 := True.intro))
          | (go_at_call 27; refine (sames_yes p0 _ _ _ (by omega) X1.out.1 (HR0.out.below X1.out.2)).mono ?_; rintro e w' ⟨rfl, rfl⟩))
        go_loop [13, 14, 15, 63] (fun s13 _ _ i => ∃ (k : Nat) (J : List UInt8), k ≤ ps.length ∧ i = .int .i64 k ∧ s13 = .string (bs J) ∧ Hid (J = T.joinS (ps.take k)) ∧ J.length ≤ 1048577) (fun _ _ _ i => ps.length - (intOf i).toNat)
        case atStart => exact ⟨0, [], Nat.zero_le _, rfl, rfl, rfl, by simp⟩
        case round =>
          obtain ⟨k, J, hk, rfl, rfl, HJ, hJl⟩ := hrel
          by_cases hlt : k < ps.length
          · obtain ⟨p, hp⟩ : ∃ p, ps[k]? = some p := ⟨_, List.getElem?_eq_getElem hlt⟩
            obtain ⟨blk, off, rfl, hblk, hc0⟩ := HC2.out k p hp
            have HTK : Hid (ps.take (k + 1) = ps.take k ++ [p]) := by unfold Hid; rw [List.take_add_one, hp]; rfl
            have HLT := Lib.hid (line_take ps (k + 1))
            clear hp
            have HPB : Hid (p.length ≤ 1048577 ∧ ∀ J', J' = T.joinS (ps.take (k + 1)) → J'.length ≤ 1048577) := by
              have h1 := join_len (ps.take (k + 1))
              have h2 := HL2.out
              have h3 := HLT.out
              refine ⟨?_, fun J' e => by rw [e]; omega⟩
              rw [HTK.out, line_snoc] at h3; omega
            have hpz : ¬ 9223372036854775807 < (bs J).size + (bs p).size := by rw [bs_size, bs_size]; have := HPB.out.1; omega
            have hz1 : ¬ 9223372036854775807 < (bs J).size + 1 := by rw [bs_size]; omega
            obtain ⟨J', HJ'⟩ : ∃ J', Hid (J' = T.joinS (ps.take (k + 1))) := ⟨_, rfl⟩
            have HJL := Lib.hid (HPB.out.2 J' HJ'.out)
            by_cases hk0 : k = 0
            · subst hk0
              rw [Nat.add_zero] at hc0
              have HE : Hid (bs J ++ bs p = bs J') := by
                unfold Hid; rw [bs_app, HJ'.out, HTK.out, HJ.out]; simp [T.joinS]
              go_wp2
              go_round
              case rel => exact ⟨0 + 1, J', by omega, by go_num, by rw [← HE.out], HJ'.out, HJL.out⟩
              case measure => simp [intOf]; omega
            · have HE : Hid (bs J ++ ⟨#[32]⟩ ++ bs p = bs J') := by
                unfold Hid; rw [sp32, bs_app, HJ'.out, HTK.out, HJ.out, T.joinS_snoc _ _ (by intro e; have := congrArg List.length e; rw [List.length_take, List.length_nil] at this; omega)]; simp
              have hz2 : ¬ 9223372036854775807 < (bs J).size + 1 + (bs p).size := by rw [bs_size, bs_size]; have := HPB.out.1; omega
              have hz3 : ¬ 9223372036854775807 < (bs J ++ ⟨#[32]⟩).size + (bs p).size := by rw [sp32, bs_size, bs_size]; have := HPB.out.1; simp; omega
              go_wp2
              go_round
              case rel => exact ⟨k + 1, J', by omega, by go_num, by rw [← HE.out], HJ'.out, HJL.out⟩
              case measure => simp [intOf]; omega
          · have hkl : k = ps.length := by omega
            subst hkl
            have HJE : Hid (J = T.joinS ps) := by have := HJ.out; rw [List.take_length] at this; exact this
            rcases her with rfl | ⟨rfl, hj⟩
            · go_wp2_with (go_at_call 12; refine (awake_any _ (tab_below HT.out X2.out)).mono ?_; rintro e w3 ⟨rfl, hb⟩; have X3 := Lib.hid (X2.out.trans (hb.mono X2.out.size)); clear hb)
              go_ret
              exact ⟨rfl, X3.out⟩
            · obtain rfl : bs J = s1 := by rw [HJE.out]; exact hj
              clear hj
              go_wp2_with (go_at_call 12; refine (awake_any _ (tab_below HT.out X2.out)).mono ?_; rintro e w3 ⟨rfl, hb⟩; have X3 := Lib.hid (X2.out.trans (hb.mono X2.out.size)); clear hb)
              go_ret
              exact ⟨rfl, X3.out⟩
      · obtain rfl : F' = false := by simpa using hF
        go_wp2_with (go_at_call 25; first
            | (have := M25; obtain ⟨ps, er, hpl2, her, hcall⟩ := HW2.out w1; refine hcall.mono ?_; clear hcall; rintro e w2 ⟨v2, rfl, hr, hb⟩; obtain ⟨ad2, cap2, rfl, hc2⟩ := hr; have HC2 := Lib.hid hc2; have HL2 := Lib.hid hpl2; have hplc := line_count ps; have X2 := Lib.hid (X1.out.trans (hb.mono X1.out.size)); clear hb hc2)
            | (refine HWF.out.mono ?_; rintro e w1 ⟨v1, er1, rfl, hf, hb⟩; have X1 := Lib.hid hb; clear hb hf; have M25 := True.intro))
        go_loop [13, 14, 15, 63] (fun s13 _ _ i => ∃ (k : Nat) (J : List UInt8), k ≤ ps.length ∧ i = .int .i64 k ∧ s13 = .string (bs J) ∧ Hid (J = T.joinS (ps.take k)) ∧ J.length ≤ 1048577) (fun _ _ _ i => ps.length - (intOf i).toNat)
        case atStart => exact ⟨0, [], Nat.zero_le _, rfl, rfl, rfl, by simp⟩
        case round =>
          obtain ⟨k, J, hk, rfl, rfl, HJ, hJl⟩ := hrel
          by_cases hlt : k < ps.length
          · obtain ⟨p, hp⟩ : ∃ p, ps[k]? = some p := ⟨_, List.getElem?_eq_getElem hlt⟩
            obtain ⟨blk, off, rfl, hblk, hc0⟩ := HC2.out k p hp
            have HTK : Hid (ps.take (k + 1) = ps.take k ++ [p]) := by unfold Hid; rw [List.take_add_one, hp]; rfl
            have HLT := Lib.hid (line_take ps (k + 1))
            clear hp
            have HPB : Hid (p.length ≤ 1048577 ∧ ∀ J', J' = T.joinS (ps.take (k + 1)) → J'.length ≤ 1048577) := by
              have h1 := join_len (ps.take (k + 1))
              have h2 := HL2.out
              have h3 := HLT.out
              refine ⟨?_, fun J' e => by rw [e]; omega⟩
              rw [HTK.out, line_snoc] at h3; omega
            have hpz : ¬ 9223372036854775807 < (bs J).size + (bs p).size := by rw [bs_size, bs_size]; have := HPB.out.1; omega
            have hz1 : ¬ 9223372036854775807 < (bs J).size + 1 := by rw [bs_size]; omega
            obtain ⟨J', HJ'⟩ : ∃ J', Hid (J' = T.joinS (ps.take (k + 1))) := ⟨_, rfl⟩
            have HJL := Lib.hid (HPB.out.2 J' HJ'.out)
            by_cases hk0 : k = 0
            · subst hk0
              rw [Nat.add_zero] at hc0
              have HE : Hid (bs J ++ bs p = bs J') := by
                unfold Hid; rw [bs_app, HJ'.out, HTK.out, HJ.out]; simp [T.joinS]
              go_wp2
              go_round
              case rel => exact ⟨0 + 1, J', by omega, by go_num, by rw [← HE.out], HJ'.out, HJL.out⟩
              case measure => simp [intOf]; omega
            · have HE : Hid (bs J ++ ⟨#[32]⟩ ++ bs p = bs J') := by
                unfold Hid; rw [sp32, bs_app, HJ'.out, HTK.out, HJ.out, T.joinS_snoc _ _ (by intro e; have := congrArg List.length e; rw [List.length_take, List.length_nil] at this; omega)]; simp
              have hz2 : ¬ 9223372036854775807 < (bs J).size + 1 + (bs p).size := by rw [bs_size, bs_size]; have := HPB.out.1; omega
              have hz3 : ¬ 9223372036854775807 < (bs J ++ ⟨#[32]⟩).size + (bs p).size := by rw [sp32, bs_size, bs_size]; have := HPB.out.1; simp; omega
              go_wp2
              go_round
              case rel => exact ⟨k + 1, J', by omega, by go_num, by rw [← HE.out], HJ'.out, HJL.out⟩
              case measure => simp [intOf]; omega
          · have hkl : k = ps.length := by omega
            subst hkl
            have HJE : Hid (J = T.joinS ps) := by have := HJ.out; rw [List.take_length] at this; exact this
            rcases her with rfl | ⟨rfl, hj⟩
            · go_wp2_with (go_at_call 12; refine (awake_any _ (tab_below HT.out X2.out)).mono ?_; rintro e w3 ⟨rfl, hb⟩; have X3 := Lib.hid (X2.out.trans (hb.mono X2.out.size)); clear hb)
              go_ret
              exact ⟨rfl, X3.out⟩
            · obtain rfl : bs J = s1 := by rw [HJE.out]; exact hj
              clear hj
              go_wp2_with (go_at_call 12; refine (awake_any _ (tab_below HT.out X2.out)).mono ?_; rintro e w3 ⟨rfl, hb⟩; have X3 := Lib.hid (X2.out.trans (hb.mono X2.out.size)); clear hb)
              go_ret
              exact ⟨rfl, X3.out⟩
end Go.Proofs.YthoonegckifiaaaDoor.fieldLine
