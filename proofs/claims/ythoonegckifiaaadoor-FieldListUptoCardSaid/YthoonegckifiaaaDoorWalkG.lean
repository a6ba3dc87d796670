/-
  The walk of the reference's Number.
-/
import Derived.Test.YthoonegckifiaaaDoorWalkD
namespace Go.Proofs.YthoonegckifiaaaDoor
open Go.RowKit
set_option linter.unusedSimpArgs false
set_option linter.unusedVariables false
set_option maxHeartbeats 4000000
set_option maxRecDepth 100000

theorem notdig (s : ByteArray) (hd : ¬ T.Dig s.data.toList) : ∃ j, ∃ h : j < s.size, s[j].toNat < 48 ∨ 57 < s[j].toNat := by
  have hlen : s.data.toList.length = s.size := by simp
  have : ∃ c ∈ s.data.toList, T.isD c = false := by
    refine Classical.byContradiction fun h => hd fun c hc => ?_
    cases hx : T.isD c with
    | true => rfl
    | false => exact absurd ⟨c, hc, hx⟩ h
  obtain ⟨c, hc, hx⟩ := this
  obtain ⟨j, hj⟩ := List.getElem?_of_mem hc
  have hlt : j < s.size := by rw [← hlen]; exact (List.getElem?_eq_some_iff.1 hj).1
  rw [byte_at s j hlt] at hj
  refine ⟨j, hlt, ?_⟩
  rw [← Option.some.inj hj] at hx
  have : ¬ T.isD s[j] = true := by rw [hx]; simp
  rw [T.isD_iff] at this; omega
theorem rnumber_any (s : ByteArray) (most : Int) (w : World) (hs : s.size ≤ 140737488355328) (hm : I64 most) :
    Calls Tryd.prog 17 #[.string s, .int .i64 most] w fun e w' => e = .returned (.tuple #[.int .i64 (T.number s.data.toList most).1, .int .i64 (T.number s.data.toList most).2]) ∧ w = w' := by
  have HSL := Lib.hid (str_list s)
  have hlen : s.data.toList.length = s.size := by simp
  have HLEN := Lib.hid hlen
  clear hlen
  cases hc : T.canS s.data.toList with
  | false =>
    have HN := Lib.hid (number_no (most := most) hc)
    by_cases h1 : s.size = 0
    · have hnil : s.data.toList = [] := List.length_eq_zero_iff.1 (by rw [HLEN.out]; exact h1)
      have t2 : s.toList = [] := by rw [HSL.out]; exact hnil
      have t3 : s.toList.isEmpty = true := by rw [t2]; rfl
      clear hc hnil
      go_enter Tryd.func17, Tryd.ntmps17
      go_wp2
      go_ret2
      exact ⟨by rw [HN.out]; rfl, rfl⟩
    · have h2 : 0 < s.size := by omega
      have hne : s.data.toList ≠ [] := by intro h; have := HLEN.out; rw [h] at this; simp at this; omega
      have hhd : s.data.toList.head? = some s[0] := by rw [List.head?_eq_getElem?]; exact byte_at s 0 h2
      have t2 : s.toList.isEmpty = false := by rw [HSL.out]; simpa using hne
      by_cases h3 : 1 < s.size ∧ s[0] = 48
      · have t3 : ((s[0].toNat : Int) == 48) = true := by rw [h3.2]; rfl
        have t4 : (s[0].toNat : Int) = 48 := by rw [h3.2]; rfl
        have h4 := h3.1
        clear hc hne hhd h3
        go_enter Tryd.func17, Tryd.ntmps17
        go_wp2
        go_ret2
        exact ⟨by rw [HN.out]; rfl, rfl⟩
      · have hd : ¬ T.Dig s.data.toList := by
          intro hd
          have : T.canS s.data.toList = true := by
            rw [T.canS_iff]
            refine ⟨hd, ?_⟩
            by_cases h48 : s[0] = 48
            · left
              have h5 : s.size = 1 := by have hx : ¬ 1 < s.size := fun h => h3 ⟨h, h48⟩; omega
              have e1 : s.data.toList = s.data.toList.drop 0 := rfl
              rw [e1, drop_at s 0 h2, List.drop_of_length_le (by rw [HLEN.out]; omega), h48]
            · right; exact ⟨hne, by rw [hhd]; simpa using h48⟩
          rw [hc] at this; cases this
        obtain ⟨j, hj, hj2⟩ := notdig s hd
        have HJ : Hid (∀ k (h : k < s.size), k = j → s[k].toNat < 48 ∨ 57 < s[k].toNat) := fun k h e => by subst e; exact hj2
        have h5 : s.size = 1 ∨ (1 < s.size ∧ s[0] ≠ 48) := by
          by_cases h1' : s.size = 1
          · exact .inl h1'
          · exact .inr ⟨by omega, fun e => h3 ⟨by omega, e⟩⟩
        clear hc hne hhd h3 hd hj2
        have T3 : Hid (s.size = 1 → ¬ (1 : Int) < (s.size : Int)) := fun h => by omega
        have T4 : Hid (s[0] ≠ 48 → s[0].toNat ≠ 48 ∧ ((s[0].toNat : Int) == 48) = false) := fun h6 => by
          have t4 : s[0].toNat ≠ 48 := fun h => h6 (UInt8.toNat_inj.1 h)
          exact ⟨t4, by simp; omega⟩
        rcases h5 with h5 | ⟨h5, h6⟩
        all_goals (
          first | have t3 := T3.out h5 | (have t3 := T4.out h6; clear h6)
          go_enter Tryd.func17, Tryd.ntmps17
          go_wp2
          go_loop [6] (fun i => ∃ k : Nat, k ≤ j ∧ i = .int .i64 k) (fun i => s.size - (intOf i).toNat)
          case atStart => exact ⟨0, Nat.zero_le _, rfl⟩
          case round =>
            obtain ⟨k, hk, rfl⟩ := hrel
            have hlt : k < s.size := by omega
            by_cases b1 : s[k].toNat < 48
            · go_wp2
              go_ret2
              exact ⟨by rw [HN.out]; rfl, rfl⟩
            · by_cases b2 : 57 < s[k].toNat
              · go_wp2
                go_ret2
                exact ⟨by rw [HN.out]; rfl, rfl⟩
              · have hkj : k < j := by
                  refine Nat.lt_of_le_of_ne hk fun e => ?_
                  rcases HJ.out k hlt e with h | h <;> omega
                first
                  | (exfalso; omega)
                  | (go_wp2
                     go_round
                     case rel => exact ⟨k + 1, by omega, by go_num⟩
                     case measure => simp [intOf]; omega))
  | true =>
    have HN := Lib.hid (number_go (most := most) hc)
    have hcc := (T.canS_iff _).1 hc
    have HD : Hid (∀ k (h : k < s.size), 48 ≤ s[k].toNat ∧ s[k].toNat ≤ 57) := fun k h => (T.isD_iff _).1 (hcc.1 _ (List.mem_of_getElem? (byte_at s k h)))
    have hne : s.data.toList ≠ [] := T.canS_ne hc
    have h2 : 0 < s.size := by
      rcases Nat.eq_zero_or_pos s.size with h | h
      · exact absurd (List.length_eq_zero_iff.1 (by rw [HLEN.out]; exact h)) hne
      · exact h
    have hhd : s.data.toList.head? = some s[0] := by rw [List.head?_eq_getElem?]; exact byte_at s 0 h2
    have t2 : s.toList.isEmpty = false := by rw [HSL.out]; simpa using hne
    have h5 : s.size = 1 ∨ (1 < s.size ∧ s[0] ≠ 48) := by
      rcases hcc.2 with h | ⟨_, h⟩
      · left; have := HLEN.out; rw [h] at this; simpa using this.symm
      · by_cases h1 : s.size = 1
        · exact .inl h1
        · exact .inr ⟨by omega, fun e => h (by rw [hhd, e])⟩
    clear hc hcc hne hhd
    have T3 : Hid (s.size = 1 → ¬ (1 : Int) < (s.size : Int)) := fun h => by omega
    have T4 : Hid (s[0] ≠ 48 → s[0].toNat ≠ 48 ∧ ((s[0].toNat : Int) == 48) = false) := fun h6 => by
      have t4 : s[0].toNat ≠ 48 := fun h => h6 (UInt8.toNat_inj.1 h)
      exact ⟨t4, by simp; omega⟩
    rcases h5 with h5 | ⟨h5, h6⟩
    all_goals (
      first | have t3 := T3.out h5 | (have t3 := T4.out h6; clear h6)
      go_enter Tryd.func17, Tryd.ntmps17
      go_wp2
      go_loop [6] (fun i => ∃ k : Nat, k ≤ s.size ∧ i = .int .i64 k) (fun i => s.size - (intOf i).toNat)
      case atStart => exact ⟨0, Nat.zero_le _, rfl⟩
      case round =>
        obtain ⟨k, hk, rfl⟩ := hrel
        by_cases hlt : k < s.size
        · have hb := HD.out k hlt
          have hb1 := hb.1
          have hb2 := hb.2
          go_wp2
          go_round
          case rel => exact ⟨k + 1, by omega, by go_num⟩
          case measure => simp [intOf]; omega
        · have hkl : k = s.size := by omega
          subst hkl
          go_wp2
          go_loop [7, 8, 9] (fun n i _ => ∃ k n' : Nat, k ≤ s.size ∧ (n' : Int) ≤ 9223372036854775807 ∧ i = .int .i64 k ∧ n = .int .i64 n' ∧ Hid (T.numF most 0 s.data.toList = T.numF most n' (s.data.toList.drop k))) (fun _ i _ => s.size - (intOf i).toNat)
          case atStart => exact ⟨0, 0, Nat.zero_le _, by omega, rfl, rfl, rfl⟩
          case round =>
            obtain ⟨k, n, hk, hn, rfl, rfl, HF⟩ := hrel
            by_cases hlt : k < s.size
            · have hb := HD.out k hlt
              have hb1 := hb.1
              have hb2 := hb.2
              by_cases h1 : (s[k].toNat : Int) - 48 > most
              · have HX : Hid (T.number s.data.toList most = (0, 5)) := by unfold Hid; rw [HN.out, HF.out, numF_stop hlt hb1 (.inl h1)]
                go_wp2
                all_goals (go_ret2; exact ⟨by rw [HX.out]; rfl, rfl⟩)
              · have hm0 : ¬ most < 0 := by omega
                by_cases h2 : (n : Int) > (most - ((s[k].toNat : Int) - 48)) / 10
                · have HX : Hid (T.number s.data.toList most = (0, 5)) := by unfold Hid; rw [HN.out, HF.out, numF_stop hlt hb1 (.inr h2)]
                  go_wp2
                  go_ret2
                  exact ⟨by rw [HX.out]; rfl, rfl⟩
                · have HX := Lib.hid (numF_next hlt hb1 (fun h => h.elim h1 h2))
                  go_wp2
                  go_round
                  case rel => exact ⟨k + 1, 10 * n + (s[k].toNat - 48), by omega, by omega, by go_num, val_i (by omega), HF.out.trans HX.out⟩
                  case measure => simp [intOf]; omega
            · have hkl : k = s.size := by omega
              subst hkl
              have HX : Hid (T.number s.data.toList most = ((n : Int), 0)) := by
                unfold Hid
                rw [HN.out, HF.out, List.drop_of_length_le (by simp)]; rfl
              go_wp2
              go_ret2
              exact ⟨by rw [HX.out]; rfl, rfl⟩)
end Go.Proofs.YthoonegckifiaaaDoor
