/-
  The walks of Number and the reference's Number.
-/
import Derived.Test.YthoonegckifiaaaDoorWalkC
namespace Go.Proofs.YthoonegckifiaaaDoor
open Go.RowKit
set_option linter.unusedSimpArgs false
set_option linter.unusedVariables false
set_option maxHeartbeats 4000000
set_option maxRecDepth 100000

theorem number_no {l : List UInt8} {most : Int} (h : T.canS l = false) : T.number l most = (0, 2) := by unfold T.number; rw [if_pos h]
theorem number_go {l : List UInt8} {most : Int} (h : T.canS l = true) : T.number l most = match T.numF most 0 l with | none => (0, 5) | some n => ((n : Int), 0) := by unfold T.number; rw [h]; rfl
theorem drop_at (s : ByteArray) (k : Nat) (h : k < s.size) : s.data.toList.drop k = s[k] :: s.data.toList.drop (k + 1) := by
  have hlt : k < s.data.toList.length := by simpa using h
  rw [List.drop_eq_getElem_cons hlt]; rfl
theorem numF_stop {most : Int} {n : Nat} {s : ByteArray} {k : Nat} (hk : k < s.size) (h48 : 48 ≤ s[k].toNat) (h : (s[k].toNat : Int) - 48 > most ∨ (n : Int) > (most - ((s[k].toNat : Int) - 48)) / 10) : T.numF most n (s.data.toList.drop k) = none := by
  rw [drop_at s k hk]
  simp only [T.numF]
  rw [if_pos]
  rw [show ((s[k].toNat - 48 : Nat) : Int) = (s[k].toNat : Int) - 48 by omega]
  exact h
theorem numF_next {most : Int} {n : Nat} {s : ByteArray} {k : Nat} (hk : k < s.size) (h48 : 48 ≤ s[k].toNat) (h : ¬ ((s[k].toNat : Int) - 48 > most ∨ (n : Int) > (most - ((s[k].toNat : Int) - 48)) / 10)) : T.numF most n (s.data.toList.drop k) = T.numF most (10 * n + (s[k].toNat - 48)) (s.data.toList.drop (k + 1)) := by
  rw [drop_at s k hk]
  simp only [T.numF]
  rw [if_neg]
  rw [show ((s[k].toNat - 48 : Nat) : Int) = (s[k].toNat : Int) - 48 by omega]
  exact h
theorem number_any (s : ByteArray) (most : Int) (w : World) (hs : s.size ≤ 140737488355328) (hm : I64 most) :
    Calls Tryd.prog 16 #[.string s, .int .i64 most] w fun e w' => e = .returned (.tuple #[.int .i64 (T.number s.data.toList most).1, .int .i64 (T.number s.data.toList most).2]) ∧ w = w' := by
  have hcan := can_any s w hs
  cases hc : T.canS s.data.toList with
  | false =>
    have HN := Lib.hid (number_no (most := most) hc)
    rw [hc] at hcan
    clear hc
    go_enter Tryd.func16, Tryd.ntmps16
    go_wp2_with (go_at_call 32; refine hcan.mono ?_; rintro e w' ⟨rfl, rfl⟩)
    go_ret2
    exact ⟨by rw [HN.out]; rfl, rfl⟩
  | true =>
    have HN := Lib.hid (number_go (most := most) hc)
    have HD : Hid (∀ k (h : k < s.size), 48 ≤ s[k].toNat ∧ s[k].toNat ≤ 57) := fun k h => (T.isD_iff _).1 (((T.canS_iff _).1 hc).1 _ (List.mem_of_getElem? (byte_at s k h)))
    rw [hc] at hcan
    clear hc
    go_enter Tryd.func16, Tryd.ntmps16
    go_wp2_with (go_at_call 32; refine hcan.mono ?_; rintro e w' ⟨rfl, rfl⟩)
    go_loop [6, 7, 8, 14] (fun n _ _ i => ∃ k n' : Nat, k ≤ s.size ∧ (n' : Int) ≤ 9223372036854775807 ∧ i = .int .i64 k ∧ n = .int .i64 n' ∧ Hid (T.numF most 0 s.data.toList = T.numF most n' (s.data.toList.drop k))) (fun _ _ _ i => s.size - (intOf i).toNat)
    case atStart => exact ⟨0, 0, Nat.zero_le _, by omega, rfl, rfl, rfl⟩
    case round =>
      obtain ⟨k, n, hk, hn, rfl, rfl, HF⟩ := hrel
      by_cases hlt : k < s.size
      · have hb := HD.out k hlt
        have hb1 := hb.1
        have hb2 := hb.2
        by_cases h1 : (s[k].toNat : Int) - 48 > most
        · have HX : Hid (T.number s.data.toList most = (0, 5)) := by unfold Hid; rw [HN.out, HF.out, numF_stop hlt hb1 (.inl h1)]
          go_wp2
          go_ret2
          exact ⟨by rw [HX.out]; rfl, rfl⟩
        · by_cases h2 : (n : Int) > (most - ((s[k].toNat : Int) - 48)) / 10
          · have HX : Hid (T.number s.data.toList most = (0, 5)) := by unfold Hid; rw [HN.out, HF.out, numF_stop hlt hb1 (.inr h2)]
            go_wp2
            go_ret2
            exact ⟨by rw [HX.out]; rfl, rfl⟩
          · have HX := Lib.hid (numF_next hlt hb1 (fun h => h.elim h1 h2))
            go_wp2
            go_round
            case rel => exact ⟨k + 1, 10 * n + (s[k].toNat - 48), by omega, by omega, by go_num, val_i (by omega), HF.out.trans HX.out⟩
            case measure => simp [intOf]; omega
      · have hkl : k = s.size := by omega
        subst hkl
        have HX : Hid (T.number s.data.toList most = ((n : Int), 0)) := by
          unfold Hid
          rw [HN.out, HF.out, List.drop_of_length_le (by simp)]; rfl
        go_wp2
        go_ret2
        exact ⟨by rw [HX.out]; rfl, rfl⟩
end Go.Proofs.YthoonegckifiaaaDoor
