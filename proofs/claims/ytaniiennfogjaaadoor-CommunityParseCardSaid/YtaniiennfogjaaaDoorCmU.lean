/-
  IndexFunc, ContainsFunc and DeleteFunc at communities with the program's closures; the walks of Drop and Match.
-/
import Derived.Test.YtaniiennfogjaaaDoorCmO
import Derived.BigQuiet
namespace Go.Proofs.YtaniiennfogjaaaDoor
open Go.RowKit T
set_option linter.unusedSimpArgs false
set_option linter.unusedVariables false
set_option maxHeartbeats 1500000
set_option maxRecDepth 100000

/-- where a property holds first -/
def IdxP (m : List Nat) (p : Nat → Bool) (i : Int) : Prop := (i = -1 ∧ ∀ x ∈ m, p x = false) ∨ (∃ k x : Nat, i = (k : Int) ∧ m[k]? = some x ∧ p x = true ∧ ∀ j y, j < k → m[j]? = some y → p y = false)
def Pred40 (W0 : World) (cp : Value) (p : Nat → Bool) : Prop := ∀ (n x : Nat), x < 4294967296 → Calls Tryd.prog 40 #[.int .u32 (x : Int), cp] (W0.drewN n) fun e w' => e = .returned (.bool (p x)) ∧ ∃ m, w' = W0.drewN m
theorem indexf40_any (m : List Nat) (v cp : Value) (p : Nat → Bool) (w : World) (hv : Rd w v m) (hp : Pred40 w cp p) : Calls Tryd.prog 54 #[v, .func (.func 40) #[] #[cp]] w fun e w' => ∃ i, e = .returned (.int .i64 i) ∧ IdxP m p i ∧ ∃ n, w' = w.drewN n := by
  obtain ⟨ad, cap, rfl, ⟨h1, h1'⟩, h2, hc⟩ := hv
  have HC : Hid (∀ (n k x : Nat), m[k]? = some x → ∃ b off, ad = some ⟨b, off, none⟩ ∧ (w.drewN n).cell? ⟨b, off + k, none⟩ = some (.int .u32 (x : Int))) := fun n k x hk => by
    obtain ⟨b, off, e, _, hcell⟩ := hc k x hk
    exact ⟨b, off, e, hcell⟩
  obtain ⟨L, hL⟩ : ∃ L, m.length = L := ⟨_, rfl⟩
  rw [hL] at h1 ⊢
  have HL := Lib.hid hL
  have H32 := Lib.hid h2
  have HP := Lib.hid hp
  clear hc hL h2 hp
  have HS : Hid (∀ k z, k < 0 → m[k]? = some z → p z = false) := fun k z h => by omega
  have HW : Hid (w = w.drewN 0) := rfl
  go_enter Tryd.func54, Tryd.ntmps54
  go_wp2_with fail
  go_loopg [5, 8] L (fun g s5 s8 wr => ∃ k : Nat, k ≤ L ∧ L - k ≤ g ∧ s8 = .int .i64 (k : Int) ∧ (∃ q, q = s5) ∧ Hid (∀ j z, j < k → m[j]? = some z → p z = false) ∧ Hid (∃ n, wr = w.drewN n))
  case atStart => exact ⟨0, by omega, by omega, rfl, ⟨_, rfl⟩, HS, ⟨0, HW.out⟩⟩
  case round =>
    clear HS HW
    obtain ⟨k, hk, hkg, rfl, ⟨u5, rfl⟩, HS, HWR⟩ := hrel
    obtain ⟨n, rfl⟩ := HWR.out
    by_cases hlt : k < L
    · obtain ⟨z, hz⟩ : ∃ z, m[k]? = some z := ⟨_, List.getElem?_eq_getElem (by rw [HL.out]; exact hlt)⟩
      obtain ⟨b, off, rfl, c⟩ := HC.out n k z hz
      have HZ := Lib.hid hz
      have HPZ := Lib.hid (HP.out n z (H32.out.get hz))
      have k0 : (0 : Int) ≤ (k : Int) := by omega
      have k1 : (k : Int) < (L : Int) := by omega
      clear hz
      cases hpz : p z with
      | true =>
        have HM : Hid (IdxP m p (k : Int)) := .inr ⟨k, z, rfl, HZ.out, hpz, HS.out⟩
        rw [hpz] at HPZ
        clear HS HZ hpz
        go_wp2_with fail
        refine HPZ.out.mono ?_
        rintro e w1 ⟨rfl, hw1⟩
        have HW1 := Lib.hid hw1
        clear hw1
        go_wp2
        go_ret
        exact ⟨_, rfl, HM.out, HW1.out⟩
      | false =>
        have HN : Hid (∀ j z, j < k + 1 → m[j]? = some z → p z = false) := fun j z' hj hz' => by
          by_cases e : j = k
          · subst e; have := HZ.out; rw [hz'] at this; cases this; exact hpz
          · exact HS.out j z' (by omega) hz'
        rw [hpz] at HPZ
        clear HS HZ hpz
        go_wp2_with fail
        refine HPZ.out.mono ?_
        rintro e w1 ⟨rfl, hw1⟩
        have HW1 := Lib.hid hw1
        clear hw1
        go_wp2_with fail
        go_roundg (L - (k + 1))
        case measure => omega
        case rel => exact ⟨k + 1, by omega, Nat.le_refl _, by go_num, ⟨_, rfl⟩, HN, HW1⟩
    · have k1 : decide ((k : Int) < (L : Int)) = false := decide_eq_false (by omega)
      have HM : Hid (IdxP m p (-1)) := .inl ⟨rfl, fun x hm => by
        obtain ⟨j, hj⟩ := List.getElem?_of_mem hm
        exact HS.out j x (by have := (List.getElem?_eq_some_iff.1 hj).1; have := HL.out; omega) hj⟩
      clear HS
      go_wp2
      go_ret
      exact ⟨_, rfl, HM.out, n, rfl⟩
def Pred42 (W0 : World) (cp : Value) (p : Nat → Bool) : Prop := ∀ (n x : Nat), x < 4294967296 → Calls Tryd.prog 42 #[.int .u32 (x : Int), cp] (W0.drewN n) fun e w' => e = .returned (.bool (p x)) ∧ ∃ m, w' = W0.drewN m
theorem indexf42_any (m : List Nat) (v cp : Value) (p : Nat → Bool) (w : World) (hv : Rd w v m) (hp : Pred42 w cp p) : Calls Tryd.prog 54 #[v, .func (.func 42) #[] #[cp]] w fun e w' => ∃ i, e = .returned (.int .i64 i) ∧ IdxP m p i ∧ ∃ n, w' = w.drewN n := by
  obtain ⟨ad, cap, rfl, ⟨h1, h1'⟩, h2, hc⟩ := hv
  have HC : Hid (∀ (n k x : Nat), m[k]? = some x → ∃ b off, ad = some ⟨b, off, none⟩ ∧ (w.drewN n).cell? ⟨b, off + k, none⟩ = some (.int .u32 (x : Int))) := fun n k x hk => by
    obtain ⟨b, off, e, _, hcell⟩ := hc k x hk
    exact ⟨b, off, e, hcell⟩
  obtain ⟨L, hL⟩ : ∃ L, m.length = L := ⟨_, rfl⟩
  rw [hL] at h1 ⊢
  have HL := Lib.hid hL
  have H32 := Lib.hid h2
  have HP := Lib.hid hp
  clear hc hL h2 hp
  have HS : Hid (∀ k z, k < 0 → m[k]? = some z → p z = false) := fun k z h => by omega
  have HW : Hid (w = w.drewN 0) := rfl
  go_enter Tryd.func54, Tryd.ntmps54
  go_wp2_with fail
  go_loopg [5, 8] L (fun g s5 s8 wr => ∃ k : Nat, k ≤ L ∧ L - k ≤ g ∧ s8 = .int .i64 (k : Int) ∧ (∃ q, q = s5) ∧ Hid (∀ j z, j < k → m[j]? = some z → p z = false) ∧ Hid (∃ n, wr = w.drewN n))
  case atStart => exact ⟨0, by omega, by omega, rfl, ⟨_, rfl⟩, HS, ⟨0, HW.out⟩⟩
  case round =>
    clear HS HW
    obtain ⟨k, hk, hkg, rfl, ⟨u5, rfl⟩, HS, HWR⟩ := hrel
    obtain ⟨n, rfl⟩ := HWR.out
    by_cases hlt : k < L
    · obtain ⟨z, hz⟩ : ∃ z, m[k]? = some z := ⟨_, List.getElem?_eq_getElem (by rw [HL.out]; exact hlt)⟩
      obtain ⟨b, off, rfl, c⟩ := HC.out n k z hz
      have HZ := Lib.hid hz
      have HPZ := Lib.hid (HP.out n z (H32.out.get hz))
      have k0 : (0 : Int) ≤ (k : Int) := by omega
      have k1 : (k : Int) < (L : Int) := by omega
      clear hz
      cases hpz : p z with
      | true =>
        have HM : Hid (IdxP m p (k : Int)) := .inr ⟨k, z, rfl, HZ.out, hpz, HS.out⟩
        rw [hpz] at HPZ
        clear HS HZ hpz
        go_wp2_with fail
        refine HPZ.out.mono ?_
        rintro e w1 ⟨rfl, hw1⟩
        have HW1 := Lib.hid hw1
        clear hw1
        go_wp2
        go_ret
        exact ⟨_, rfl, HM.out, HW1.out⟩
      | false =>
        have HN : Hid (∀ j z, j < k + 1 → m[j]? = some z → p z = false) := fun j z' hj hz' => by
          by_cases e : j = k
          · subst e; have := HZ.out; rw [hz'] at this; cases this; exact hpz
          · exact HS.out j z' (by omega) hz'
        rw [hpz] at HPZ
        clear HS HZ hpz
        go_wp2_with fail
        refine HPZ.out.mono ?_
        rintro e w1 ⟨rfl, hw1⟩
        have HW1 := Lib.hid hw1
        clear hw1
        go_wp2_with fail
        go_roundg (L - (k + 1))
        case measure => omega
        case rel => exact ⟨k + 1, by omega, Nat.le_refl _, by go_num, ⟨_, rfl⟩, HN, HW1⟩
    · have k1 : decide ((k : Int) < (L : Int)) = false := decide_eq_false (by omega)
      have HM : Hid (IdxP m p (-1)) := .inl ⟨rfl, fun x hm => by
        obtain ⟨j, hj⟩ := List.getElem?_of_mem hm
        exact HS.out j x (by have := (List.getElem?_eq_some_iff.1 hj).1; have := HL.out; omega) hj⟩
      clear HS
      go_wp2
      go_ret
      exact ⟨_, rfl, HM.out, n, rfl⟩
theorem closure40_any (c x : Nat) (b : Nat) (w : World) (h : w.cell? ⟨b, 0, none⟩ = some (.int .u32 (c : Int))) : Calls Tryd.prog 40 #[.int .u32 (x : Int), .pointer (some ⟨b, 0, none⟩)] w fun e w' => e = .returned (.bool (decide (x = c))) ∧ w' = w := by
  by_cases hxc : x = c
  · subst hxc
    go_enter Tryd.func40, Tryd.ntmps40
    go_wp2
    go_ret
    exact ⟨by simp, rfl⟩
  · have t1 : ((x : Int) == (c : Int)) = false := by simp; omega
    have HD : Hid (decide (x = c) = false) := by unfold Hid; simp [hxc]
    clear hxc
    go_enter Tryd.func40, Tryd.ntmps40
    go_wp2
    go_ret
    exact ⟨ret_b HD.out.symm, rfl⟩
end Go.Proofs.YtaniiennfogjaaaDoor
