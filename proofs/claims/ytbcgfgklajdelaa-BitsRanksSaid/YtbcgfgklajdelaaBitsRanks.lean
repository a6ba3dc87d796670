/-
  Proved: for every uint64 and every int the law BitsRanks returns true (Rank agrees with the reference and grows by each bit, and the examples hold); no conditions.
-/
import Derived.Test.YtbcgfgklajdelaaRows
import Derived.Test.YtbcgfgklajdelaaWalks
import Derived.WalkKit
import Derived.ProofKit
import Derived.OpenShut
namespace Go.Proofs.Ytbcgfgklajdelaa.bitsRanks
open Go.ChangeShapes Go.WideShapes Go.ChangeAt Go.RowKit
set_option linter.unusedVariables false      -- a walk need not use every 'w<i>' (that an integer argument fits its kind)

theorem own : ownKnob Try.prog.godebug = none := by kernel_rfl

theorem rank_in (x : Nat) (hx : x < 18446744073709551616) (n : Int) (h0 : 0 ≤ n) (h1 : n ≤ 64) (w : World) :
    Calls Try.prog 23 #[.int .u64 x, .int .i64 n] w fun e w' => e = .returned (.int .i64 (M.rankN x n.toNat : Nat)) ∧ w = w' := by
  have e : M.lowN n 64 = n.toNat := by unfold M.lowN; omega
  rw [← e]; exact rank_any x hx n (by omega) w
theorem bit_step (x k : Nat) (hx : x < 18446744073709551616) (h : k < 64) : wrap64 (bits BinOp.and IntKind.u64 (↑x / 2 ^ k) 1) = (M.rankN x (k + 1) : Nat) - (M.rankN x k : Nat) := by
  have e : ((x : Int) / 2 ^ k) = ((x / 2 ^ k : Nat) : Int) := by simp
  have hlt : x / 2 ^ k < 18446744073709551616 := Nat.lt_of_le_of_lt (Nat.div_le_self _ _) hx
  rw [e, show (1 : Int) = ((1 : Nat) : Int) from rfl, u64_and_nat _ 1 hlt (by omega), nat_mask1]
  have hb := M.bitN_le x k
  show wrap64 (M.bitN x k : Nat) = ((M.rankN x k + M.bitN x k : Nat) : Int) - (M.rankN x k : Nat)
  rw [IntWalk.wrap64_in (M.bitN x k : Nat) ⟨by omega, by omega⟩]
  omega

theorem walk (a0 : Int) (a1 : Int) (w0 : (Lit.int .u64 a0).wf = true) (w1 : (Lit.int .i64 a1).wf = true) (w : World) :
    Calls Try.prog 5 #[.int .u64 a0, .int .i64 a1] w fun e w' => e = .returned (.bool true) ∧ Grown w w' := by
  have b0 := bounds_u64 w0; have b1 := bounds_i64 w1
  clear w0 w1
  obtain ⟨x, rfl⟩ := Int.eq_ofNat_of_zero_le b0.1
  have hx : x < 18446744073709551616 := by omega
  clear b0
  have r23 := Lib.hid (rank_in x hx); have r18 := Lib.hid (rrank_any x hx); have r17 := Lib.hid (ones_any x hx)
  have rall := Lib.hid (rank_any x hx)
  have st2 := Lib.hid hx
  clear hx
  have e0 : M.rankN x 0 = 0 := rfl
  have c0 : ∀ W, Calls Try.prog 23 #[.int .u64 x, .int .i64 0] W fun e w' => e = .returned (.int .i64 0) ∧ W = w' := fun W => r23.out 0 (by omega) (by omega) W
  have c64 : ∀ W, Calls Try.prog 23 #[.int .u64 x, .int .i64 64] W fun e w' => e = .returned (.int .i64 (M.rankN x 64 : Nat)) ∧ W = w' := fun W => r23.out 64 (by omega) (by omega) W
  have C0 := Lib.hid c0; have C64 := Lib.hid c64
  clear c0 c64 e0
  refine Calls.mono (R := fun e w' => e = .returned (.bool true) ∧ w = w') ?_ (fun e w' ⟨he, hw⟩ => ⟨he, by rw [hw]; exact Grown.refl _⟩)
  go_enter Try.func5, Try.ntmps5
  go_wp2_with (first
    | (go_at_call 23; first
        | (with_reducible refine (C0.out _).mono ?_)
        | (with_reducible refine (C64.out _).mono ?_)
        | refine (rall.out _ (by omega) _).mono ?_
       rintro e w' ⟨rfl, rfl⟩)
    | (go_at_call 18; refine (r18.out _ (by omega) _).mono ?_; rintro e w' ⟨rfl, rfl⟩)
    | (go_at_call 17; refine (r17.out _).mono ?_; rintro e w' ⟨rfl, rfl⟩))
  go_loop [25] (fun i => ∃ k : Nat, k ≤ 64 ∧ i = .int .i64 k) (fun i => 64 - (intOf i).toNat)
  case atStart => exact ⟨0, Nat.zero_le _, rfl⟩
  case round =>
    obtain ⟨k, hk, rfl⟩ := hrel
    by_cases hlt : k < 64
    · have hs := bit_step x k st2.out hlt
      have hb := M.rankN_le x k
      have hb1 := M.rankN_le x (k + 1)
      go_wp2_with (go_at_call 23; refine (r23.out _ (by omega) (by omega) _).mono ?_; rintro e w' ⟨rfl, rfl⟩)
      go_round
      case rel => exact ⟨k + 1, by omega, by go_num⟩
      case measure => simp [intOf]; omega
    · go_wp2_with (go_at_call 14; refine (lives_any _).mono ?_; rintro e w' ⟨rfl, rfl⟩)
      go_ret
      exact ⟨rfl, rfl⟩

set_option maxRecDepth 100000 in
theorem lifted (os : Os) (started : os.Started) (H : Type) (enc : TypeId × Value → H) :
    ReturnsInHanded {} Try.checked os 5 .any (Rows.bitsRanksSpec.pre6 enc Try.prog Try.f5 Rows.bitsRanksRow.domain false) (Rows.bitsRanksSpec.post enc Try.prog Try.f5 false true false false) := by
  refine returnsInHanded_of_change (C := Try.checked) own started (by kernel_rfl) Try.func5
    (ChangeSpec.witness6 (enc := enc) (C := Try.checked) false ⟨#[], #[.int .u64 0, .int .i64 0], []⟩ 8 (by kernel_rfl) (by kernel_rfl) (by kernel_rfl) (by kernel_rfl)) ?_
  intro W base args ds gs before hval0 hW hcnd _
  have hval : ∀ (j : Nat) t v, Try.f5.params[j]? = some t → args[j]? = some v → Value.okWide Try.prog W .any base t v := hval0
  have hW' := hW
  obtain ⟨p, q, hA0, hV, rfl, hfz, hnd⟩ := hW
  have hA : DataW.TrodAll enc Try.prog W 0 (fun _ => true) true Try.f5.params.toList args.toList ds p := hA0
  rw [Try.params5] at hA hval
  obtain ⟨v0, vs0, d0, ds0, p0, q0, hargs, rfl, rfl, h0, r0⟩ := trodAll_cons hA
  obtain ⟨v1, vs1, d1, ds1, p1, q1, rfl, rfl, rfl, h1, r1⟩ := trodAll_cons r0
  obtain ⟨rfl, rfl, rfl⟩ := trodAll_nil r1
  obtain rfl : args = #[v0, v1] := by cases args; simp_all
  obtain ⟨rfl, rfl⟩ := trodVars_none hV
  obtain ⟨a0, rfl, rfl, rfl, w0⟩ := open_int Try.underlying28 (hval 0 28 v0 rfl rfl) h0
  obtain ⟨a1, rfl, rfl, rfl, w1⟩ := open_int Try.underlying3 (hval 1 3 v1 rfl rfl) h1
  clear hA0 hval0
  simp only [List.append_nil] at hW'
  refine (walk a0 a1 w0 w1 W).mono fun e W' ⟨he, hg⟩ => ?_
  subst he
  exact ⟨_, rfl, post_of_same (pa := []) (pv := []) hW' (fun _ _ _ => (trodAll_cons_mk (shut_bool Try.underlying4 _) trodAll_mk0)) (fun sp _ => (trodAll_cons_mk (shut_int Try.underlying28 w0) (trodAll_cons_mk (shut_int Try.underlying3 w1) trodAll_mk0))) (fun _ _ => rfl) rfl
    (hg.frame _) hg.2.1 (ok_one (by kernel_rfl) rfl (okWide_bool_mk Try.underlying4 _))⟩

theorem over : Rows.bitsRanksRow.holds Try.pinned (OpenSpec.ofChange Rows.bitsRanksSpec) :=
  OpenClaim.holds_of_wide 5 Try.f5 rfl rfl rfl rfl rfl rfl rfl ⟨rfl, rfl, rfl, rfl, rfl⟩ rfl rfl rfl rfl rfl (by kernel_rfl) Try.func5 (by kernel_rfl)
    (of_decide_eq_true (by kernel_rfl)) (by unfold Func.isWrapper; first | (rw [if_pos (by decide +kernel)]; kernel_rfl) | (rw [if_neg (by decide +kernel)]; exact ⟨rfl, rfl⟩))
    (fun os started H enc _ => lifted os started H enc)

theorem proved : Rows.BitsRanksSaid :=
  over
#print axioms proved
end Go.Proofs.Ytbcgfgklajdelaa.bitsRanks
