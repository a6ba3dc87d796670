/-
  Small functions of communities that read only: high, low, fits, Index, Contains, Has, ascends, Check and the reference's Check, Has, Same.
-/
import Derived.Test.YtaniiennfogjaaaDoorCmB
import Derived.Laws.BitsAllLaws
namespace Go.Proofs.YtaniiennfogjaaaDoor
open Go.RowKit
set_option linter.unusedSimpArgs false
set_option linter.unusedVariables false
set_option maxHeartbeats 1500000
set_option maxRecDepth 100000

theorem and16 {c : Nat} (h : c < 4294967296) : bits .and .u32 (c : Int) 65535 = ((c % 65536 : Nat) : Int) := by
  have := u32_and_nat c 65535 h (by omega)
  rw [show ((65535 : Nat) : Int) = 65535 from rfl] at this
  rw [this]
  congr 1
  exact Nat.and_two_pow_sub_one_eq_mod c 16
theorem high_any (c : Nat) (w : World) (hc : c < 4294967296) : Calls Tryd.prog 31 #[.int .u32 (c : Int)] w fun e w' => e = .returned (.int .i64 ((c / 65536 : Nat) : Int)) ∧ w = w' := by
  have h1 : IntKind.i64.wrap ((c : Int) / 65536) = (c : Int) / 65536 := IntWalk.i64_in _ (by constructor <;> omega)
  go_enter Tryd.func31, Tryd.ntmps31
  go_wp2
  go_ret
  exact ⟨ret_i (by first | exact h1 | omega), rfl⟩
theorem low_any (c : Nat) (w : World) (hc : c < 4294967296) : Calls Tryd.prog 32 #[.int .u32 (c : Int)] w fun e w' => e = .returned (.int .i64 ((c % 65536 : Nat) : Int)) ∧ w = w' := by
  have h0 := and16 hc
  have h1 : IntKind.i64.wrap ((c % 65536 : Nat) : Int) = ((c % 65536 : Nat) : Int) := IntWalk.i64_in _ (by constructor <;> omega)
  go_enter Tryd.func32, Tryd.ntmps32
  go_wp2
  go_ret
  exact ⟨ret_i (by first | (rw [h0]; exact h1) | (rw [h0]) | omega), rfl⟩
def fitB (a b : Int) : Bool := decide (a = -1) || decide (a = b)
theorem fits_any (a b : Int) (w : World) : Calls Tryd.prog 43 #[.int .i64 a, .int .i64 b] w fun e w' => e = .returned (.bool (fitB a b)) ∧ w = w' := by
  by_cases h1 : a = -1
  · subst h1
    go_enter Tryd.func43, Tryd.ntmps43
    go_wp2
    go_ret
    exact ⟨rfl, rfl⟩
  · have f1 : (a == -1) = false := by simpa using h1
    by_cases h2 : a = b
    · subst h2
      have HD : Hid (fitB a a = true) := by unfold Hid fitB; simp
      clear h1
      go_enter Tryd.func43, Tryd.ntmps43
      go_wp2
      go_ret
      exact ⟨ret_b HD.out.symm, rfl⟩
    · have f2 : (a == b) = false := by simpa using h2
      have HD : Hid (fitB a b = false) := by unfold Hid fitB; simp [h1, h2]
      clear h1 h2
      go_enter Tryd.func43, Tryd.ntmps43
      go_wp2
      go_ret
      exact ⟨ret_b HD.out.symm, rfl⟩
/-- where a number stands first -/
def IdxR (m : List Nat) (y : Nat) (i : Int) : Prop := (i = -1 ∧ y ∉ m) ∨ (0 ≤ i ∧ y ∈ m)
theorem index_any (m : List Nat) (v : Value) (y : Nat) (w : World) (hv : Rd w v m) : Calls Tryd.prog 50 #[v, .int .u32 (y : Int)] w fun e w' => ∃ i, e = .returned (.int .i64 i) ∧ IdxR m y i ∧ w' = w := by
  obtain ⟨ad, cap, rfl, ⟨h1, h1'⟩, h2, hc⟩ := hv
  have HC := Lib.hid hc
  obtain ⟨L, hL⟩ : ∃ L, m.length = L := ⟨_, rfl⟩
  rw [hL] at h1 ⊢
  have HL := Lib.hid hL
  clear hc hL h2
  go_enter Tryd.func50, Tryd.ntmps50
  go_wp2_with fail
  have HS : Hid (∀ k z, k < 0 → m[k]? = some z → z ≠ y) := fun k z h => by omega
  go_loop [5, 8] (fun s5 s8 => ∃ k : Nat, k ≤ L ∧ s8 = .int .i64 (k : Int) ∧ (∃ q, q = s5) ∧ Hid (∀ j z, j < k → m[j]? = some z → z ≠ y)) (fun _ s8 => L - (intOf s8).toNat)
  case atStart => exact ⟨0, by omega, rfl, ⟨_, rfl⟩, HS⟩
  case round =>
    clear HS
    obtain ⟨k, hk, rfl, ⟨u5, rfl⟩, HS⟩ := hrel
    by_cases hlt : k < L
    · obtain ⟨z, hz⟩ : ∃ z, m[k]? = some z := ⟨_, List.getElem?_eq_getElem (by rw [HL.out]; exact hlt)⟩
      obtain ⟨b, off, rfl, hb, c⟩ := HC.out k z hz
      have HZ := Lib.hid hz
      have k0 : (0 : Int) ≤ (k : Int) := by omega
      have k1 : (k : Int) < (L : Int) := by omega
      clear hz
      by_cases he : y = z
      · have HM : Hid (IdxR m y (k : Int)) := .inr ⟨by omega, by rw [he]; exact List.mem_of_getElem? HZ.out⟩
        clear HS HZ
        subst he
        go_wp2
        go_ret
        exact ⟨_, rfl, HM.out, rfl⟩
      · have he1 : ((y : Int) == (z : Int)) = false := by simpa using fun h => he (by omega)
        have HN : Hid (∀ j z, j < k + 1 → m[j]? = some z → z ≠ y) := fun j z' hj hz' => by
          by_cases e : j = k
          · subst e; have := HZ.out; rw [hz'] at this; cases this; exact fun e => he e.symm
          · exact HS.out j z' (by omega) hz'
        clear HS
        go_wp2_with fail
        go_round
        case measure => simp [intOf]; omega
        case rel => exact ⟨k + 1, by omega, by go_num, ⟨_, rfl⟩, HN⟩
    · have k1 : decide ((k : Int) < (L : Int)) = false := decide_eq_false (by omega)
      have HM : Hid (IdxR m y (-1)) := .inl ⟨rfl, fun hm => by
        obtain ⟨j, hj⟩ := List.getElem?_of_mem hm
        exact HS.out j y (by have := (List.getElem?_eq_some_iff.1 hj).1; have := HL.out; omega) hj rfl⟩
      clear HS
      go_wp2
      go_ret
      exact ⟨_, rfl, HM.out, rfl⟩
theorem contains_any (m : List Nat) (v : Value) (y : Nat) (w : World) (hv : Rd w v m) : Calls Tryd.prog 36 #[v, .int .u32 (y : Int)] w fun e w' => e = .returned (.bool (decide (y ∈ m))) ∧ w' = w := by
  have H := Lib.hid (index_any m v y w hv)
  obtain ⟨ad, cap, rfl⟩ := hv.form
  generalize m.length = L at *
  clear hv
  go_enter Tryd.func36, Tryd.ntmps36
  go_wp2_with fail
  go_at_call 50
  refine H.out.mono ?_
  rintro e w1 ⟨i, rfl, hi, rfl⟩
  clear H
  have HD : Hid (decide (0 ≤ i) = decide (y ∈ m)) := by
    rcases hi with ⟨rfl, h⟩ | ⟨h1, h2⟩
    · show decide _ = decide _; rw [decide_eq_false h]; rfl
    · show decide _ = decide _; rw [decide_eq_true h1, decide_eq_true h2]
  clear hi
  go_wp2
  go_ret
  exact ⟨by rw [← HD.out]; rfl, rfl⟩
theorem has_any (m : List Nat) (v : Value) (y : Nat) (w : World) (hv : Rd w v m) : Calls Tryd.prog 16 #[v, .int .u32 (y : Int)] w fun e w' => e = .returned (.bool (decide (y ∈ m))) ∧ w' = w := by
  have H := Lib.hid (contains_any m v y w hv)
  obtain ⟨ad, cap, rfl⟩ := hv.form
  generalize m.length = L at *
  generalize decide (y ∈ m) = q at *
  clear hv
  go_enter Tryd.func16, Tryd.ntmps16
  go_wp2_with (go_at_call 36; refine H.out.mono ?_; rintro e w1 ⟨rfl, rfl⟩)
  go_ret
  exact ⟨rfl, rfl⟩
theorem rhas_any (m : List Nat) (v : Value) (y : Nat) (w : World) (hv : Rd w v m) : Calls Tryd.prog 17 #[v, .int .u32 (y : Int)] w fun e w' => e = .returned (.bool (decide (y ∈ m))) ∧ w' = w := by
  obtain ⟨ad, cap, rfl, ⟨h1, h1'⟩, h2, hc⟩ := hv
  have HC := Lib.hid hc
  obtain ⟨L, hL⟩ : ∃ L, m.length = L := ⟨_, rfl⟩
  rw [hL] at h1 ⊢
  have HL := Lib.hid hL
  clear hc hL h2
  obtain ⟨q, hq⟩ : ∃ q, decide (y ∈ m) = q := ⟨_, rfl⟩
  rw [hq]
  have HQ := Lib.hid hq
  clear hq
  go_enter Tryd.func17, Tryd.ntmps17
  go_wp2_with fail
  have HS : Hid (∀ k z, k < 0 → m[k]? = some z → z ≠ y) := fun k z h => by omega
  go_loop [6, 9] (fun s5 s8 => ∃ k : Nat, k ≤ L ∧ s8 = .int .i64 (k : Int) ∧ (∃ q, q = s5) ∧ Hid (∀ j z, j < k → m[j]? = some z → z ≠ y)) (fun _ s8 => L - (intOf s8).toNat)
  case atStart => exact ⟨0, by omega, rfl, ⟨_, rfl⟩, HS⟩
  case round =>
    clear HS
    obtain ⟨k, hk, rfl, ⟨u5, rfl⟩, HS⟩ := hrel
    by_cases hlt : k < L
    · obtain ⟨z, hz⟩ : ∃ z, m[k]? = some z := ⟨_, List.getElem?_eq_getElem (by rw [HL.out]; exact hlt)⟩
      obtain ⟨b, off, rfl, hb, c⟩ := HC.out k z hz
      have HZ := Lib.hid hz
      have k0 : (0 : Int) ≤ (k : Int) := by omega
      have k1 : (k : Int) < (L : Int) := by omega
      clear hz
      by_cases he : z = y
      · have HM : Hid (true = q) := by unfold Hid; rw [← HQ.out]; exact (decide_eq_true (by rw [← he]; exact List.mem_of_getElem? HZ.out)).symm
        clear HS HZ
        subst he
        go_wp2
        go_ret
        exact ⟨ret_b HM.out, rfl⟩
      · have he1 : ((z : Int) == (y : Int)) = false := by simpa using fun h => he (by omega)
        have HN : Hid (∀ j z, j < k + 1 → m[j]? = some z → z ≠ y) := fun j z' hj hz' => by
          by_cases e : j = k
          · subst e; have := HZ.out; rw [hz'] at this; cases this; exact he
          · exact HS.out j z' (by omega) hz'
        clear HS
        go_wp2_with fail
        go_round
        case measure => simp [intOf]; omega
        case rel => exact ⟨k + 1, by omega, by go_num, ⟨_, rfl⟩, HN⟩
    · have k1 : decide ((k : Int) < (L : Int)) = false := decide_eq_false (by omega)
      have HM : Hid (false = q) := by
        unfold Hid; rw [← HQ.out]
        refine (decide_eq_false fun hm => ?_).symm
        obtain ⟨j, hj⟩ := List.getElem?_of_mem hm
        exact HS.out j y (by have := (List.getElem?_eq_some_iff.1 hj).1; have := HL.out; omega) hj rfl
      clear HS
      go_wp2
      go_ret
      exact ⟨ret_b HM.out, rfl⟩
end Go.Proofs.YtaniiennfogjaaaDoor
