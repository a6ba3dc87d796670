/-
  The walks of the reference's Words and of SameStrings.
-/
import Derived.Test.YthoonegckifiaaaDoorWalkM
namespace Go.Proofs.YthoonegckifiaaaDoor
open Go.RowKit
set_option linter.unusedSimpArgs false
set_option linter.unusedVariables false
set_option maxHeartbeats 4000000
set_option maxRecDepth 100000

theorem str_info : (Tryd.prog.info? 9).map (fun i => (i.zero, i.size, i.bytes)) = some (some (.string ByteArray.empty), 1, 16) := by kernel_rfl
theorem ext_one (s : ByteArray) (i : Nat) (h : i < s.size) : s.extract i (i + 1) = bs [s[i]] := by
  rw [bs_of (s.extract i (i + 1))]
  congr 1
  have : (s.extract i (i + 1)).data.toList = (s.data.toList.drop i).take 1 := by
    rw [Lib.extract_data]; simp
  rw [this, drop_at s i h]; rfl
theorem one_str (p : List UInt8) : ∀ u ∈ [Value.string (bs p)], u.oneCell' = true := by
  intro u hu; simp at hu; subst hu; rfl
theorem refW_nil (out : List (List UInt8)) (wd : List UInt8) : T.refW out wd [] = if wd = [] then none else some (out ++ [wd]) := rfl
theorem refW_cons (out : List (List UInt8)) (wd : List UInt8) (c : UInt8) (r : List UInt8) : T.refW out wd (c :: r) = if c = 10 then none else if c ≠ 32 then T.refW out (wd ++ [c]) r else if wd = [] then none else T.refW (out ++ [wd]) [] r := rfl
theorem rwords_any (s : ByteArray) (w : World) (hs : s.size ≤ 1048576) :
    Calls Tryd.prog 26 #[.string s] w (WordsPost s.data.toList w) := by
  obtain ⟨i0, hi, hz0, hz1, hz2⟩ := info_parts str_info
  have hlen : s.data.toList.length = s.size := by simp
  have HSL := Lib.hid (str_list s)
  by_cases h0 : s.size = 0
  · have hnil : s.data.toList = [] := List.length_eq_zero_iff.1 (by rw [hlen]; exact h0)
    have HN : Hid (T.words s.data.toList = some []) := by unfold Hid; rw [hnil]; rfl
    have t2 : s.toList = [] := by rw [HSL.out]; exact hnil
    have t3 : s.toList.isEmpty = true := by rw [t2]; rfl
    clear hnil hlen
    go_enter Tryd.func26, Tryd.ntmps26
    go_wp2
    go_ret2
    exact ⟨.inr ⟨[], _, HN.out, rfl, rdw_nil _⟩, Below.refl _ _⟩
  · have hne : s.data.toList ≠ [] := by intro h; rw [h] at hlen; simp at hlen; omega
    have t2 : s.toList.isEmpty = false := by rw [HSL.out]; simpa using hne
    have HWD : Hid (T.words s.data.toList = T.refW [] [] s.data.toList) := (T.refW_words _ hne).symm
    have HDE : Hid (s.data.toList.drop s.size = []) := List.drop_of_length_le (by omega)
    clear hne hlen
    go_enter Tryd.func26, Tryd.ntmps26
    go_wp2
    go_loopg [4, 5, 6, 19, 30, 48] (s.size + 1) (fun g s4 s5 s6 _ _ _ wr => ∃ (i : Nat) (v : Value) (out : List (List UInt8)) (wd : List UInt8), i ≤ s.size + 1 ∧ s.size + 1 - i ≤ g ∧ v = s4 ∧ s5 = .string (bs wd) ∧ s6 = .int .i64 i ∧ out.length + wd.length ≤ i ∧ wr.ownsRow w.heap.size 9 1 v out.length (strs out) ∧ Below w.heap.size w wr ∧
      Hid ((i ≤ s.size → T.words s.data.toList = T.refW out wd (s.data.toList.drop i)) ∧ (i = s.size + 1 → T.words s.data.toList = some out)))
    case atStart => exact ⟨0, _, [], [], by omega, by omega, rfl, rfl, rfl, by simp, World.ownsRow_nil _ _ _ _, Below.refl _ _, fun _ => by rw [HWD.out]; rfl, fun h => by omega⟩
    case round =>
      obtain ⟨i, v, out, wd, hil, hg, rfl, rfl, rfl, hol, hown, hbel, HR⟩ := hrel
      have HO := Lib.hid hown
      have HW := Lib.hid hbel
      have HOL := Lib.hid hol
      have hz : w.heap.size ≤ wr.heap.size := hbel.size
      clear hown hbel hol
      by_cases hlt : i < s.size
      · have HD := Lib.hid ((HR.out.1 (by omega)).trans (by rw [drop_at s i hlt, refW_cons]))
        by_cases c10 : s[i] = 10
        · have HN : Hid (T.words s.data.toList = none) := by unfold Hid; rw [HD.out, if_pos c10]
          have u1 : (s[i].toNat : Int) = 10 := by rw [c10]; rfl
          have u2 : ((s[i].toNat : Int) == 10) = true := by rw [u1]; rfl
          clear c10
          go_wp2
          go_ret2
          exact ⟨.inl ⟨HN.out, rfl⟩, HW.out⟩
        · have c10' : s[i].toNat ≠ 10 := fun h => c10 (UInt8.toNat_inj.1 h)
          have u2 : ((s[i].toNat : Int) == 10) = false := by simp; omega
          by_cases c32 : s[i] = 32
          · have u3 : ((s[i].toNat : Int) != 32) = false := by rw [c32]; rfl
            have u4 : (s[i].toNat : Int) = 32 := by rw [c32]; rfl
            by_cases hw : wd = []
            · have HN : Hid (T.words s.data.toList = none) := by unfold Hid; rw [HD.out, if_neg c10, if_neg (by simpa using c32), if_pos hw]
              have w2 : (bs wd).toList = [] := by rw [str_list, bs_data]; exact hw
              have w3 : (bs wd).toList.isEmpty = true := by rw [w2]; rfl
              clear c10 c32 hw
              go_wp2
              go_ret2
              exact ⟨.inl ⟨HN.out, rfl⟩, HW.out⟩
            · have HN : Hid (T.words s.data.toList = T.refW (out ++ [wd]) [] (s.data.toList.drop (i + 1))) := by unfold Hid; rw [HD.out, if_neg c10, if_neg (by simpa using c32), if_neg hw]
              have w3 : (bs wd).toList.isEmpty = false := by rw [str_list, bs_data]; simpa using hw
              have HWL : Hid (1 ≤ wd.length) := by unfold Hid; cases wd with
                | nil => exact absurd rfl hw
                | cons a b => simp
              clear c10 c32 hw
              go_wp2_with (at_builtin; refine wpList_append_own _ rfl (.tmp 15) (.tmp 17) 44 rfl w.heap.size 9 i0 (.string ByteArray.empty) 1 16 Tryd.underlying44 hi hz0 hz1 hz2 rfl (by decide) v out.length (strs out) rfl (HO.out.alloc _) ⟨wr.heap.size, 0, none⟩ 1 1 [.string (bs wd)] rfl rfl (cell_one_new _ _ _) (one_str _) (by have := HOL.out; unfold maxLen; omega) (by have := HOL.out; omega) (by simp; omega) ?_; intro v1 w1 hown1 hg1 hn1; have X1 : Hid (w1.ownsRow w.heap.size 9 1 v1 (out ++ [wd]).length (strs (out ++ [wd])) ∧ Below w.heap.size w w1) := ⟨by rw [strs_snoc, List.length_append]; exact hown1, below_grown (HW.out.alloc hz _) (HO.out.alloc _) hg1 (by simp; omega)⟩; clear hown1 hg1 hn1)
              go_roundg (s.size + 1 - (i + 1))
              case measure => omega
              case rel => exact ⟨i + 1, v1, out ++ [wd], [], by omega, Nat.le_refl _, rfl, rfl, by go_num, by have := HOL.out; have := HWL.out; simp; omega, X1.out.1, X1.out.2, fun _ => HN.out, fun h => by omega⟩
          · have c32' : s[i].toNat ≠ 32 := fun h => c32 (UInt8.toNat_inj.1 h)
            have u3 : ((s[i].toNat : Int) != 32) = true := by simp; omega
            have HN : Hid (T.words s.data.toList = T.refW out (wd ++ [s[i]]) (s.data.toList.drop (i + 1))) := by unfold Hid; rw [HD.out, if_neg c10, if_pos (by simpa using c32)]
            have HE : Hid (bs wd ++ s.extract i (i + 1) = bs (wd ++ [s[i]])) := by unfold Hid; rw [ext_one s i hlt, bs_app]
            have hz1 : (s.extract i (i + 1)).size = 1 := by rw [ext_one s i hlt]; rfl
            have hz2 : ¬ 9223372036854775807 < (bs wd).size + 1 := by rw [bs_size]; have := HOL.out; omega
            clear c10 c32
            go_wp2
            go_roundg (s.size + 1 - (i + 1))
            case measure => omega
            case rel => exact ⟨i + 1, v, out, wd ++ [s[i]], by omega, Nat.le_refl _, rfl, by rw [← HE.out], by go_num, by have := HOL.out; simp; omega, HO.out, HW.out, fun _ => HN.out, fun h => by omega⟩
      · by_cases hle : i ≤ s.size
        · have hei : i = s.size := by omega
          subst hei
          have HD := Lib.hid ((HR.out.1 hle).trans (by rw [HDE.out, refW_nil]))
          by_cases hw : wd = []
          · have HN : Hid (T.words s.data.toList = none) := by unfold Hid; rw [HD.out, if_pos hw]
            have w2 : (bs wd).toList = [] := by rw [str_list, bs_data]; exact hw
            have w3 : (bs wd).toList.isEmpty = true := by rw [w2]; rfl
            clear hw
            go_wp2
            go_ret2
            exact ⟨.inl ⟨HN.out, rfl⟩, HW.out⟩
          · have HN : Hid (T.words s.data.toList = some (out ++ [wd])) := by unfold Hid; rw [HD.out, if_neg hw]
            have w3 : (bs wd).toList.isEmpty = false := by rw [str_list, bs_data]; simpa using hw
            have HWL : Hid (1 ≤ wd.length) := by unfold Hid; cases wd with
              | nil => exact absurd rfl hw
              | cons a b => simp
            clear hw
            go_wp2_with (at_builtin; refine wpList_append_own _ rfl (.tmp 15) (.tmp 17) 44 rfl w.heap.size 9 i0 (.string ByteArray.empty) 1 16 Tryd.underlying44 hi hz0 hz1 hz2 rfl (by decide) v out.length (strs out) rfl (HO.out.alloc _) ⟨wr.heap.size, 0, none⟩ 1 1 [.string (bs wd)] rfl rfl (cell_one_new _ _ _) (one_str _) (by have := HOL.out; unfold maxLen; omega) (by have := HOL.out; omega) (by simp; omega) ?_; intro v1 w1 hown1 hg1 hn1; have X1 : Hid (w1.ownsRow w.heap.size 9 1 v1 (out ++ [wd]).length (strs (out ++ [wd])) ∧ Below w.heap.size w w1) := ⟨by rw [strs_snoc, List.length_append]; exact hown1, below_grown (HW.out.alloc hz _) (HO.out.alloc _) hg1 (by simp; omega)⟩; clear hown1 hg1 hn1)
            go_roundg 0
            case measure => omega
            case rel => exact ⟨s.size + 1, v1, out ++ [wd], [], by omega, by omega, rfl, rfl, by go_num, by have := HOL.out; have := HWL.out; simp; omega, X1.out.1, X1.out.2, fun h => by omega, fun _ => HN.out⟩
        · have hei : i = s.size + 1 := by omega
          subst hei
          have HN := Lib.hid (HR.out.2 rfl)
          go_wp2
          go_ret2
          exact ⟨.inr ⟨out, v, HN.out, rfl, rdw_own HO.out⟩, HW.out⟩

/-- SameStrings at equal lists -/
theorem sames_yes (ps : List (List UInt8)) (u v : Value) (w : World) (hl : ps.length ≤ 140737489403904) (hu : RdW w u ps) (hv : RdW w v ps) :
    Calls Tryd.prog 27 #[u, v] w fun e w' => e = .returned (.bool true) ∧ w = w' := by
  obtain ⟨ad, cap, rfl, hc⟩ := hu
  obtain ⟨ad2, cap2, rfl, hc2⟩ := hv
  have HC := Lib.hid hc
  have HC2 := Lib.hid hc2
  clear hc hc2
  go_enter Tryd.func27, Tryd.ntmps27
  go_wp2
  go_loop [5, 6, 14] (fun _ _ i => ∃ k : Nat, k ≤ ps.length ∧ i = .int .i64 k) (fun _ _ i => ps.length - (intOf i).toNat)
  case atStart => exact ⟨0, Nat.zero_le _, rfl⟩
  case round =>
    obtain ⟨k, hk, rfl⟩ := hrel
    by_cases hlt : k < ps.length
    · obtain ⟨p, hp⟩ : ∃ p, ps[k]? = some p := ⟨_, List.getElem?_eq_getElem hlt⟩
      obtain ⟨blk, off, rfl, hblk, hc0⟩ := HC.out k p hp
      obtain ⟨blk2, off2, rfl, hblk2, hc2⟩ := HC2.out k p hp
      clear hp
      go_wp2
      go_round
      case rel => exact ⟨k + 1, by omega, by go_num⟩
      case measure => simp [intOf]; omega
    · have hkl : k = ps.length := by omega
      subst hkl
      go_wp2
      go_ret
      exact ⟨rfl, rfl⟩
end Go.Proofs.YthoonegckifiaaaDoor
