/-
  The walks of the functions that only read bytes: Hash, Internet, the sums.
-/
import Derived.Test.YthoonegckifiaaaBase
import Derived.RegionTactic
namespace Go.Proofs.Ythoonegckifiaaa
open Go.RowKit
set_option linter.unusedSimpArgs false
set_option linter.unusedVariables false
set_option maxHeartbeats 4000000
set_option maxRecDepth 100000

theorem hash_any (l : List Nat) (v : Value) (w : World) (hl : l.length ≤ 140737488355328) (hr : Rd w v l) :
    Calls Try.prog 17 #[v] w fun e w' => e = .returned (.int .u32 (hashV l)) ∧ w = w' := by
  obtain ⟨ad, cap, rfl, hcap, hby, hat⟩ := hr
  have HAT := Lib.hid hat
  have HBY := Lib.hid hby
  clear hat hby
  go_enter Try.func17, Try.ntmps17
  go_wp2
  go_loop [3, 8] (fun h i => ∃ k : Nat, k ≤ l.length ∧ i = .int .i64 k ∧ h = .int .u32 (hashV (l.take k))) (fun _ i => l.length - (intOf i).toNat)
  case atStart => exact ⟨0, Nat.zero_le _, rfl, rfl⟩
  case round =>
    obtain ⟨k, hk, rfl, rfl⟩ := hrel
    by_cases hlt : k < l.length
    · obtain ⟨x, hx⟩ : ∃ x, l[k]? = some x := ⟨_, List.getElem?_eq_getElem hlt⟩
      obtain ⟨blk, off, rfl, hblk, hc0⟩ := HAT.out k x hx
      have hxb := HBY.out.get hx
      have HX := Lib.hid hx
      clear hx
      go_wp2
      go_round
      case rel => exact ⟨k + 1, by omega, by go_num, by rw [take_snoc HX.out, hashV_snoc]⟩
      case measure => simp [intOf]; omega
    · have hkl : k = l.length := by omega
      subst hkl
      go_wp2
      go_ret
      exact ⟨rfl, rfl⟩
theorem rhash_any (l : List Nat) (v : Value) (w : World) (hl : l.length ≤ 140737488355328) (hr : Rd w v l) :
    Calls Try.prog 18 #[v] w fun e w' => e = .returned (.int .u32 (hashV l)) ∧ w = w' := by
  obtain ⟨ad, cap, rfl, hcap, hby, hat⟩ := hr
  have HAT := Lib.hid hat
  have HBY := Lib.hid hby
  clear hat hby
  go_enter Try.func18, Try.ntmps18
  go_wp2
  go_loop [3, 4] (fun h i => ∃ k : Nat, k ≤ l.length ∧ i = .int .i64 k ∧ h = .int .u32 (hashV (l.take k))) (fun _ i => l.length - (intOf i).toNat)
  case atStart => exact ⟨0, Nat.zero_le _, rfl, rfl⟩
  case round =>
    obtain ⟨k, hk, rfl, rfl⟩ := hrel
    by_cases hlt : k < l.length
    · obtain ⟨x, hx⟩ : ∃ x, l[k]? = some x := ⟨_, List.getElem?_eq_getElem hlt⟩
      obtain ⟨blk, off, rfl, hblk, hc0⟩ := HAT.out k x hx
      have hxb := HBY.out.get hx
      have HX := Lib.hid hx
      clear hx
      go_wp2
      go_round
      case rel => exact ⟨k + 1, by omega, by go_num, by rw [take_snoc HX.out, hashV_snoc]⟩
      case measure => simp [intOf]; omega
    · have hkl : k = l.length := by omega
      subst hkl
      go_wp2
      go_ret
      exact ⟨rfl, rfl⟩

theorem rinternet_any (l : List Nat) (v : Value) (w : World) (hl : l.length ≤ 140737488355328) (hr : Rd w v l) :
    Calls Try.prog 11 #[v] w fun e w' => e = .returned (.int .i64 (inet l)) ∧ w = w' := by
  obtain ⟨ad, cap, rfl, hcap, hby, hat⟩ := hr
  have HAT := Lib.hid hat
  have HBY := Lib.hid hby
  clear hat hby
  go_enter Try.func11, Try.ntmps11
  go_wp2
  go_loop [3, 4] (fun h i => ∃ k : Nat, k ≤ l.length ∧ i = .int .i64 k ∧ h = .int .i64 (ws (l.take k) : Nat)) (fun _ i => l.length - (intOf i).toNat)
  case atStart => exact ⟨0, Nat.zero_le _, rfl, rfl⟩
  case round =>
    obtain ⟨k, hk, rfl, rfl⟩ := hrel
    have hwb : ws (l.take k) ≤ 65535 * k := by
      have h1 := evod_le (l.take k) (HBY.out.take k)
      have h2 : (l.take k).length = k := by rw [List.length_take]; omega
      rw [h2] at h1; unfold ws; omega
    by_cases hlt : k < l.length
    · obtain ⟨x, hx⟩ : ∃ x, l[k]? = some x := ⟨_, List.getElem?_eq_getElem hlt⟩
      obtain ⟨blk, off, rfl, hblk, hc0⟩ := HAT.out k x hx
      have hxb := HBY.out.get hx
      have HW : Hid (ws (l.take (k + 1)) = ws (l.take k) + if k % 2 = 0 then x * 256 else x) := by
        have := ws_snoc (l.take k) x
        rw [← take_snoc hx, List.length_take, Nat.min_eq_left (by omega)] at this
        exact this
      clear hx
      rcases (by omega : k % 2 = 0 ∨ k % 2 = 1) with hp | hp
      · have hp' : (k : Int) % 2 = 0 := by omega
        go_wp2
        go_round
        case rel => exact ⟨k + 1, by omega, by go_num, by rw [HW.out, if_pos hp]; push_cast; rfl⟩
        case measure => simp [intOf]; omega
      · have hp' : (k : Int) % 2 = 1 := by omega
        go_wp2
        go_round
        case rel => exact ⟨k + 1, by omega, by go_num, by rw [HW.out, if_neg (by omega)]; push_cast; rfl⟩
        case measure => simp [intOf]; omega
    · have hkl : k = l.length := by omega
      subst hkl
      have HT : Hid (l.take l.length = l) := List.take_length
      by_cases hz : ws l = 0
      · have HZ : Hid (inet l = 65535) := by unfold Hid inet; rw [if_pos hz]
        rw [HT.out] at hwb ⊢
        go_wp2
        go_ret
        exact ⟨ret_i HZ.out.symm, rfl⟩
      · have HZ := Lib.hid (inet_ref l hz)
        rw [HT.out] at hwb ⊢
        go_wp2
        go_ret
        exact ⟨ret_i HZ.out.symm, rfl⟩
end Go.Proofs.Ythoonegckifiaaa
