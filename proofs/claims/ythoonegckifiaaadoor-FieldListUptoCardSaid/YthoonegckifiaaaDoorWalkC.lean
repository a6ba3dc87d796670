/-
  The walks of canonical, Number and the reference's Number.
-/
import Derived.Test.YthoonegckifiaaaDoorWalkB
import Derived.Test.YthoonegckifiaaaDoorNum
namespace Go.Proofs.YthoonegckifiaaaDoor
open Go.RowKit
set_option linter.unusedSimpArgs false
set_option linter.unusedVariables false
set_option maxHeartbeats 4000000
set_option maxRecDepth 100000

theorem byte_at (s : ByteArray) (k : Nat) (h : k < s.size) : s.data.toList[k]? = some s[k] := by
  have : k < s.data.toList.length := by simpa using h
  rw [List.getElem?_eq_getElem this]; rfl
theorem str_list (s : ByteArray) : s.toList = s.data.toList := ByteArray.toList_eq s
theorem can_any (s : ByteArray) (w : World) (hs : s.size ≤ 140737488355328) :
    Calls Tryd.prog 32 #[.string s] w fun e w' => e = .returned (.bool (T.canS s.data.toList)) ∧ w = w' := by
  have hlen : s.data.toList.length = s.size := by simp
  by_cases hd : T.Dig s.data.toList
  · have HD : Hid (∀ k (h : k < s.size), 48 ≤ s[k].toNat ∧ s[k].toNat ≤ 57) := fun k h => (T.isD_iff _).1 (hd _ (List.mem_of_getElem? (byte_at s k h)))
    have HI := Lib.hid (T.canS_iff s.data.toList)
    have HDD := Lib.hid hd
    have HSL := Lib.hid (str_list s)
    have HLEN := Lib.hid hlen
    clear hd hlen
    go_enter Tryd.func32, Tryd.ntmps32
    go_wp2
    go_loop [3, 6] (fun _ i => ∃ k : Nat, k ≤ s.size ∧ i = .int .i64 k) (fun _ i => s.size - (intOf i).toNat)
    case atStart => exact ⟨0, Nat.zero_le _, rfl⟩
    case round =>
      obtain ⟨k, hk, rfl⟩ := hrel
      by_cases hlt : k < s.size
      · have hb := HD.out k hlt
        go_wp2
        go_round
        case rel => exact ⟨k + 1, by omega, by go_num⟩
        case measure => simp [intOf]; omega
      · have hkl : k = s.size := by omega
        subst hkl
        by_cases h0 : s.data.toList = [48]
        · have HC : Hid (T.canS s.data.toList = true) := HI.out.2 ⟨HDD.out, .inl h0⟩
          have t1 : (s.toList == [48]) = true := by rw [HSL.out, h0]; rfl
          clear h0
          go_wp2
          go_ret
          exact ⟨ret_b HC.out.symm, rfl⟩
        · have t1 : (s.toList == [48]) = false := by rw [HSL.out]; simpa using h0
          by_cases h1 : s.size = 0
          · have hnil : s.data.toList = [] := List.length_eq_zero_iff.1 (by rw [HLEN.out]; exact h1)
            have HC : Hid (T.canS s.data.toList = false) := by unfold Hid; rw [hnil]; rfl
            have t2 : s.toList = [] := by rw [HSL.out]; exact hnil
            have t3 : s.toList.isEmpty = true := by rw [t2]; rfl
            clear h0 hnil
            go_wp2
            go_ret
            exact ⟨ret_b HC.out.symm, rfl⟩
          · have h2 : 0 < s.size := by omega
            have hne : s.data.toList ≠ [] := by intro h; have := HLEN.out; rw [h] at this; simp at this; omega
            have hhd : s.data.toList.head? = some s[0] := by rw [List.head?_eq_getElem?]; exact byte_at s 0 h2
            have t2 : s.toList.isEmpty = false := by rw [HSL.out]; simpa using hne
            by_cases h3 : s[0] = 48
            · have HC : Hid (T.canS s.data.toList = false) := by
                unfold Hid
                rw [Bool.eq_false_iff]
                intro h
                rcases ((HI.out.1 h).2) with h | ⟨_, h⟩
                · exact h0 h
                · exact h (by rw [hhd, h3])
              have t3 : ((s[0].toNat : Int) != 48) = false := by rw [h3]; rfl
              have t4 : (s[0].toNat : Int) = 48 := by rw [h3]; rfl
              clear h0 hne hhd h3
              go_wp2
              go_ret
              exact ⟨ret_b HC.out.symm, rfl⟩
            · have HC : Hid (T.canS s.data.toList = true) := HI.out.2 ⟨HDD.out, .inr ⟨hne, by rw [hhd]; simpa using h3⟩⟩
              have h4 : s[0].toNat ≠ 48 := fun h => h3 (UInt8.toNat_inj.1 h)
              have t3 : ((s[0].toNat : Int) != 48) = true := by simp; omega
              clear h0 hne hhd h3
              go_wp2
              go_ret
              exact ⟨ret_b HC.out.symm, rfl⟩
  · obtain ⟨j, hj, hjd⟩ : ∃ j, ∃ h : j < s.size, T.isD s[j] = false := by
      have : ∃ c ∈ s.data.toList, T.isD c = false := by
        refine Classical.byContradiction fun h => hd fun c hc => ?_
        cases hx : T.isD c with
        | true => rfl
        | false => exact absurd ⟨c, hc, hx⟩ h
      obtain ⟨c, hc, hx⟩ := this
      obtain ⟨j, hj⟩ := List.getElem?_of_mem hc
      have hlt : j < s.size := by rw [← hlen]; exact (List.getElem?_eq_some_iff.1 hj).1
      rw [byte_at s j hlt] at hj
      exact ⟨j, hlt, by rw [Option.some.inj hj]; exact hx⟩
    have HC : Hid (T.canS s.data.toList = false) := by
      unfold Hid
      rw [Bool.eq_false_iff]
      intro h
      exact hd ((T.canS_iff _).1 h).1
    have hj2 : s[j].toNat < 48 ∨ 57 < s[j].toNat := by
      have : ¬ T.isD s[j] = true := by rw [hjd]; simp
      rw [T.isD_iff] at this; omega
    have HJ : Hid (∀ k (h : k < s.size), k = j → s[k].toNat < 48 ∨ 57 < s[k].toNat) := fun k h e => by subst e; exact hj2
    clear hd hlen hjd hj2
    go_enter Tryd.func32, Tryd.ntmps32
    go_wp2
    go_loop [3, 6] (fun _ i => ∃ k : Nat, k ≤ j ∧ i = .int .i64 k) (fun _ i => s.size - (intOf i).toNat)
    case atStart => exact ⟨0, Nat.zero_le _, rfl⟩
    case round =>
      obtain ⟨k, hk, rfl⟩ := hrel
      have hlt : k < s.size := by omega
      by_cases b1 : s[k].toNat < 48
      · go_wp2
        go_ret
        exact ⟨ret_b HC.out.symm, rfl⟩
      · by_cases b2 : 57 < s[k].toNat
        · go_wp2
          go_ret
          exact ⟨ret_b HC.out.symm, rfl⟩
        · have hkj : k < j := by
            refine Nat.lt_of_le_of_ne hk fun e => ?_
            rcases HJ.out k hlt e with h | h <;> omega
          go_wp2
          go_round
          case rel => exact ⟨k + 1, by omega, by go_num⟩
          case measure => simp [intOf]; omega
end Go.Proofs.YthoonegckifiaaaDoor
