/-
  Comparisons of numbers, the first that is not 0.
-/
import Derived.Test.YtenfcnappjekgaaLaB
namespace Go.Proofs.Ytenfcnappjekgaa
open Go.RowKit
set_option linter.unusedSimpArgs false
set_option linter.unusedVariables false
set_option maxHeartbeats 2000000
set_option maxRecDepth 100000

def cmpI (a b : Int) : Int := if a < b then -1 else if b < a then 1 else 0
theorem cmpI_lt {a b : Int} (h : a < b) : cmpI a b = -1 := by unfold cmpI; rw [if_pos h]
theorem cmpI_gt {a b : Int} (h : b < a) : cmpI a b = 1 := by unfold cmpI; rw [if_neg (by omega), if_pos h]
theorem cmpI_eq (a : Int) : cmpI a a = 0 := by unfold cmpI; rw [if_neg (by omega), if_neg (by omega)]
theorem cmpI_range (a b : Int) : -1 ≤ cmpI a b ∧ cmpI a b ≤ 1 := by unfold cmpI; split <;> (try split) <;> omega
theorem nan_any (a : Int) (w : World) : Calls Try.prog 83 #[.int .i64 a] w fun e w' => e = .returned (.bool false) ∧ w = w' := by
  go_enter Try.func83, Try.ntmps83
  go_wp2
  go_ret
  exact ⟨rfl, rfl⟩
theorem nanw_any (a : Int) (w : World) : Calls Try.prog 84 #[.int .u32 a] w fun e w' => e = .returned (.bool false) ∧ w = w' := by
  go_enter Try.func84, Try.ntmps84
  go_wp2
  go_ret
  exact ⟨rfl, rfl⟩
theorem cmp_any (a b : Int) (w : World) : Calls Try.prog 50 #[.int .i64 a, .int .i64 b] w fun e w' => e = .returned (.int .i64 (cmpI a b)) ∧ w = w' := by
  rcases Int.lt_trichotomy a b with h | rfl | h
  · have hc := cmpI_lt h
    have h' : ¬ b < a := by omega
    go_enter Try.func50, Try.ntmps50
    go_wp2_with (go_at_call 83; refine (nan_any _ _).mono ?_; rintro e w' ⟨rfl, rfl⟩)
    go_ret
    exact ⟨by first | rfl | exact ret_i hc.symm, rfl⟩
  · have hc := cmpI_eq a
    have h' : ¬ a < a := by omega
    go_enter Try.func50, Try.ntmps50
    go_wp2_with (go_at_call 83; refine (nan_any _ _).mono ?_; rintro e w' ⟨rfl, rfl⟩)
    go_ret
    exact ⟨by first | rfl | exact ret_i hc.symm, rfl⟩
  · have hc := cmpI_gt h
    have h' : ¬ a < b := by omega
    go_enter Try.func50, Try.ntmps50
    go_wp2_with (go_at_call 83; refine (nan_any _ _).mono ?_; rintro e w' ⟨rfl, rfl⟩)
    go_ret
    exact ⟨by first | rfl | exact ret_i hc.symm, rfl⟩
theorem cmpw_any (a b : Nat) (w : World) : Calls Try.prog 51 #[.int .u32 (a : Int), .int .u32 (b : Int)] w fun e w' => e = .returned (.int .i64 (cmpI a b)) ∧ w = w' := by
  rcases Int.lt_trichotomy (a : Int) (b : Int) with h | h | h
  · have hc := cmpI_lt h
    have h' : ¬ (b : Int) < (a : Int) := by omega
    go_enter Try.func51, Try.ntmps51
    go_wp2_with (go_at_call 84; refine (nanw_any _ _).mono ?_; rintro e w' ⟨rfl, rfl⟩)
    go_ret
    exact ⟨by first | rfl | exact ret_i hc.symm, rfl⟩
  · obtain rfl : a = b := by omega
    have hc := cmpI_eq (a : Int)
    have h' : ¬ (a : Int) < (a : Int) := by omega
    clear h
    go_enter Try.func51, Try.ntmps51
    go_wp2_with (go_at_call 84; refine (nanw_any _ _).mono ?_; rintro e w' ⟨rfl, rfl⟩)
    go_ret
    exact ⟨by first | rfl | exact ret_i hc.symm, rfl⟩
  · have hc := cmpI_gt h
    have h' : ¬ (a : Int) < (b : Int) := by omega
    go_enter Try.func51, Try.ntmps51
    go_wp2_with (go_at_call 84; refine (nanw_any _ _).mono ?_; rintro e w' ⟨rfl, rfl⟩)
    go_ret
    exact ⟨by first | rfl | exact ret_i hc.symm, rfl⟩
theorem num_any (a b : Int) (w : World) : Calls Try.prog 52 #[.int .i64 a, .int .i64 b] w fun e w' => e = .returned (.int .i64 (cmpI a b)) ∧ w = w' := by
  rcases Int.lt_trichotomy a b with h | rfl | h
  · have hc := cmpI_lt h
    have h' : ¬ b < a := by omega
    go_enter Try.func52, Try.ntmps52
    go_wp2
    go_ret
    exact ⟨by first | rfl | exact ret_i hc.symm, rfl⟩
  · have hc := cmpI_eq a
    have h' : ¬ a < a := by omega
    go_enter Try.func52, Try.ntmps52
    go_wp2
    go_ret
    exact ⟨by first | rfl | exact ret_i hc.symm, rfl⟩
  · have hc := cmpI_gt h
    have h' : ¬ a < b := by omega
    go_enter Try.func52, Try.ntmps52
    go_wp2
    go_ret
    exact ⟨by first | rfl | exact ret_i hc.symm, rfl⟩
theorem word_any (a b : Nat) (w : World) : Calls Try.prog 53 #[.int .u32 (a : Int), .int .u32 (b : Int)] w fun e w' => e = .returned (.int .i64 (cmpI a b)) ∧ w = w' := by
  rcases Int.lt_trichotomy (a : Int) (b : Int) with h | h | h
  · have hc := cmpI_lt h
    have h' : ¬ (b : Int) < (a : Int) := by omega
    go_enter Try.func53, Try.ntmps53
    go_wp2
    go_ret
    exact ⟨by first | rfl | exact ret_i hc.symm, rfl⟩
  · obtain rfl : a = b := by omega
    have hc := cmpI_eq (a : Int)
    have h' : ¬ (a : Int) < (a : Int) := by omega
    clear h
    go_enter Try.func53, Try.ntmps53
    go_wp2
    go_ret
    exact ⟨by first | rfl | exact ret_i hc.symm, rfl⟩
  · have hc := cmpI_gt h
    have h' : ¬ (a : Int) < (b : Int) := by omega
    go_enter Try.func53, Try.ntmps53
    go_wp2
    go_ret
    exact ⟨by first | rfl | exact ret_i hc.symm, rfl⟩

/-- the first that is not 0 -/
def orL : List Int → Int
  | [] => 0
  | x :: l => if x = 0 then orL l else x
theorem orL_skip (l : List Int) (k : Nat) (h : ∀ x ∈ l.take k, x = 0) : orL l = orL (l.drop k) := by
  induction l generalizing k with
  | nil => simp
  | cons x l ih =>
    cases k with
    | zero => rfl
    | succ k =>
      have hx : x = 0 := h x (by simp)
      rw [List.drop_succ_cons, orL, if_pos hx]
      exact ih k (fun y hy => h y (by simp [hy]))
theorem orL_at (l : List Int) (k : Nat) (h : ∀ x ∈ l.take k, x = 0) {x : Int} (hx : l[k]? = some x) (hn : x ≠ 0) : orL l = x := by
  rw [orL_skip l k h, List.drop_eq_getElem_cons (List.getElem?_eq_some_iff.1 hx).1, (List.getElem?_eq_some_iff.1 hx).2, orL, if_neg hn]
theorem or_any (l : List Int) (g : Nat) (w : World) (hl : l.length ≤ 1000) (hc : ∀ (k : Nat) (x : Int), l[k]? = some x → w.cell? ⟨g, k, none⟩ = some (.int .i64 x)) :
    Calls Try.prog 49 #[.slice (some ⟨g, 0, none⟩) l.length l.length] w fun e w' => e = .returned (.int .i64 (orL l)) ∧ w = w' := by
  have HC := Lib.hid hc
  clear hc
  go_enter Try.func49, Try.ntmps49
  go_wp2
  go_loopg [5, 8] l.length (fun gg s5 s8 wr => ∃ k : Nat, k ≤ l.length ∧ l.length - k ≤ gg ∧ s8 = .int .i64 k ∧ (∀ x ∈ l.take k, x = 0) ∧ w = wr)
  case atStart => exact ⟨0, by omega, by omega, rfl, by simp, rfl⟩
  case round =>
    obtain ⟨k, hk, hg, rfl, hz, rfl⟩ := hrel
    have HZ := Lib.hid hz
    clear hz
    by_cases hlt : k < l.length
    · obtain ⟨x, hx⟩ : ∃ x, l[k]? = some x := ⟨_, List.getElem?_eq_getElem hlt⟩
      have hcx := HC.out k x hx
      have HX := Lib.hid hx
      clear hx
      by_cases h0 : x = 0
      · subst h0
        go_wp2
        go_roundg (l.length - (k + 1))
        case measure => omega
        case rel =>
          refine ⟨k + 1, by omega, Nat.le_refl _, by go_num, ?_, rfl⟩
          intro y hy
          rw [List.take_add_one, HX.out] at hy
          rcases List.mem_append.1 hy with h | h
          · exact HZ.out y h
          · simpa using h
      · go_wp2
        go_ret
        exact ⟨ret_i (orL_at l k HZ.out HX.out h0).symm, rfl⟩
    · have hkl : k = l.length := by omega
      have he : orL l = 0 := by rw [orL_skip l k HZ.out, hkl, List.drop_length]; rfl
      subst hkl
      go_wp2
      go_ret
      exact ⟨ret_i he.symm, rfl⟩
end Go.Proofs.Ytenfcnappjekgaa
