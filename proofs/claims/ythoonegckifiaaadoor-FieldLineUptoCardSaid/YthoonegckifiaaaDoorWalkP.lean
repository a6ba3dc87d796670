/-
  The walk of the law's plain, and how long joined words are.
-/
import Derived.Test.YthoonegckifiaaaDoorOpen
namespace Go.Proofs.YthoonegckifiaaaDoor
open Go.RowKit
set_option linter.unusedSimpArgs false
set_option linter.unusedVariables false
set_option maxHeartbeats 4000000
set_option maxRecDepth 100000

def plainS (l : List UInt8) : Bool := l.all fun c => !(c == 32 || c == 10)
theorem fine_eq (p : List UInt8) (h : p ≠ []) : T.fine p = plainS p := by
  cases p with
  | nil => exact absurd rfl h
  | cons a b => simp [T.fine, plainS]
theorem all_snoc (ws : List (List UInt8)) (p : List UInt8) : (ws ++ [p]).all T.fine = (ws.all T.fine && T.fine p) := by simp
theorem line_snoc (ws : List (List UInt8)) (p : List UInt8) : lineLen (ws ++ [p]) = lineLen ws + (p.length + 1) := by simp [lineLen]
theorem line_cons (ws : List (List UInt8)) (p : List UInt8) : lineLen (p :: ws) = (p.length + 1) + lineLen ws := by simp [lineLen]
theorem line_take (ws : List (List UInt8)) (k : Nat) : lineLen (ws.take k) ≤ lineLen ws := by
  induction ws generalizing k with
  | nil => simp
  | cons a b ih =>
    cases k with
    | zero => simp [lineLen]
    | succ k => rw [List.take_succ_cons, line_cons, line_cons]; have := ih k; omega
theorem line_count (ws : List (List UInt8)) : ws.length ≤ lineLen ws := by
  induction ws with
  | nil => simp
  | cons a b ih => rw [line_cons, List.length_cons]; omega
theorem join_len (ws : List (List UInt8)) : (T.joinS ws).length ≤ lineLen ws ∧ lineLen ws ≤ (T.joinS ws).length + 1 := by
  induction ws with
  | nil => exact ⟨Nat.le_refl _, by simp [lineLen]⟩
  | cons w r ih =>
    cases r with
    | nil => rw [line_cons]; simp [T.joinS, lineLen]
    | cons a b =>
      rw [line_cons, T.joinS_cons _ _ (by simp), List.length_append, List.length_cons]; omega
theorem plain_any (s : ByteArray) (w : World) (hs : s.size ≤ 140737488355328) :
    Calls Tryd.prog 29 #[.string s] w fun e w' => e = .returned (.bool (plainS s.data.toList)) ∧ w = w' := by
  have hlen : s.data.toList.length = s.size := by simp
  by_cases hd : ∀ c ∈ s.data.toList, c ≠ 32 ∧ c ≠ 10
  · have HD : Hid (∀ k (h : k < s.size), s[k].toNat ≠ 32 ∧ s[k].toNat ≠ 10) := fun k h => by
      have := hd _ (List.mem_of_getElem? (byte_at s k h))
      exact ⟨fun e => this.1 (UInt8.toNat_inj.1 e), fun e => this.2 (UInt8.toNat_inj.1 e)⟩
    have HC : Hid (plainS s.data.toList = true) := by
      unfold Hid plainS
      rw [List.all_eq_true]
      intro x hx
      have := hd x hx
      simp [this.1, this.2]
    clear hd hlen
    go_enter Tryd.func29, Tryd.ntmps29
    go_wp2
    go_loop [3] (fun i => ∃ k : Nat, k ≤ s.size ∧ i = .int .i64 k) (fun i => s.size - (intOf i).toNat)
    case atStart => exact ⟨0, Nat.zero_le _, rfl⟩
    case round =>
      obtain ⟨k, hk, rfl⟩ := hrel
      by_cases hlt : k < s.size
      · have hb := HD.out k hlt
        have u1 : ((s[k].toNat : Int) == 32) = false := by simp; omega
        have u2 : ((s[k].toNat : Int) == 10) = false := by simp; omega
        go_wp2
        go_round
        case rel => exact ⟨k + 1, by omega, by go_num⟩
        case measure => simp [intOf]; omega
      · have hkl : k = s.size := by omega
        subst hkl
        go_wp2
        go_ret
        exact ⟨ret_b HC.out.symm, rfl⟩
  · obtain ⟨j, hj, hjd⟩ : ∃ j, ∃ h : j < s.size, s[j].toNat = 32 ∨ s[j].toNat = 10 := by
      have : ∃ c ∈ s.data.toList, c = 32 ∨ c = 10 := by
        refine Classical.byContradiction fun h => hd fun c hc => ⟨fun e => h ⟨c, hc, .inl e⟩, fun e => h ⟨c, hc, .inr e⟩⟩
      obtain ⟨c, hc, hx⟩ := this
      obtain ⟨j, hj⟩ := List.getElem?_of_mem hc
      have hlt : j < s.size := by rw [← hlen]; exact (List.getElem?_eq_some_iff.1 hj).1
      rw [byte_at s j hlt] at hj
      refine ⟨j, hlt, ?_⟩
      rw [Option.some.inj hj]
      rcases hx with rfl | rfl
      · exact .inl rfl
      · exact .inr rfl
    have HC : Hid (plainS s.data.toList = false) := by
      unfold Hid plainS
      rw [Bool.eq_false_iff]
      intro h
      rw [List.all_eq_true] at h
      refine hd fun c hc => ?_
      have := h c hc
      simpa using this
    have HJ : Hid (∀ k (h : k < s.size), k = j → s[k].toNat = 32 ∨ s[k].toNat = 10) := fun k h e => by subst e; exact hjd
    clear hd hlen hjd
    go_enter Tryd.func29, Tryd.ntmps29
    go_wp2
    go_loop [3] (fun i => ∃ k : Nat, k ≤ j ∧ i = .int .i64 k) (fun i => s.size - (intOf i).toNat)
    case atStart => exact ⟨0, Nat.zero_le _, rfl⟩
    case round =>
      obtain ⟨k, hk, rfl⟩ := hrel
      have hlt : k < s.size := by omega
      by_cases b1 : s[k].toNat = 32
      · have u1 : ((s[k].toNat : Int) == 32) = true := by simp; omega
        have u0 : (s[k].toNat : Int) = 32 := by omega
        go_wp2
        go_ret
        exact ⟨ret_b HC.out.symm, rfl⟩
      · have u1 : ((s[k].toNat : Int) == 32) = false := by simp; omega
        by_cases b2 : s[k].toNat = 10
        · have u2 : ((s[k].toNat : Int) == 10) = true := by simp; omega
          have u0 : (s[k].toNat : Int) = 10 := by omega
          go_wp2
          go_ret
          exact ⟨ret_b HC.out.symm, rfl⟩
        · have u2 : ((s[k].toNat : Int) == 10) = false := by simp; omega
          have hkj : k < j := by
            refine Nat.lt_of_le_of_ne hk fun e => ?_
            rcases HJ.out k hlt e with h | h <;> omega
          go_wp2
          go_round
          case rel => exact ⟨k + 1, by omega, by go_num⟩
          case measure => simp [intOf]; omega
end Go.Proofs.YthoonegckifiaaaDoor
