/-
  The law's own examples.
-/
import Derived.Test.YtenfcnappjekgaaLaU
import Derived.Lib.SliceRun
namespace Go.Proofs.Ytenfcnappjekgaa
open Go.RowKit
set_option linter.unusedSimpArgs false
set_option linter.unusedVariables false
set_option maxHeartbeats 4000000
set_option maxRecDepth 100000

theorem cloneL_nil (w : World) : Calls Try.prog 58 #[.slice none 0 0] w fun e w' => e = .returned (.slice none 0 0) ∧ w = w' := by
  have q48 : ∀ (w : World) (a : Option Addr) (n c n' c' : Nat), (binOp .eql 25 (.slice a n c) (.slice none n' c')).run Try.prog w = .ok (.bool a.isNone) w := fun w a n c n' c' => Lib.run_eql_slice_nil w _ _ a n c n' c' Try.underlying25
  go_enter Try.func58, Try.ntmps58
  go_wp2
  go_ret
  exact ⟨rfl, rfl⟩
theorem cloneA_nil (w : World) : Calls Try.prog 59 #[.slice none 0 0] w fun e w' => e = .returned (.slice none 0 0) ∧ w = w' := by
  have q48 : ∀ (w : World) (a : Option Addr) (n c n' c' : Nat), (binOp .eql 26 (.slice a n c) (.slice none n' c')).run Try.prog w = .ok (.bool a.isNone) w := fun w a n c n' c' => Lib.run_eql_slice_nil w _ _ a n c n' c' Try.underlying26
  go_enter Try.func59, Try.ntmps59
  go_wp2
  go_ret
  exact ⟨rfl, rfl⟩
def smp (s : Nat) : HdN := ⟨3, 167772160, 8, 1, 4, 0, s⟩
theorem smp_ok : HdNok (smp 0) ∧ HdNok (smp 1238) := ⟨⟨by decide, by decide, by decide, by decide, by decide, by decide, by decide⟩, ⟨by decide, by decide, by decide, by decide, by decide, by decide, by decide⟩⟩
theorem smp_sum : sumL (encL (smp 0) (lowB 4 7)) = 1238 ∧ sumL (encL (smp 1238) (lowB 4 7)) = 1238 := by decide
theorem smp_chk (s : Nat) (hs : s = 0 ∨ s = 1238) (w : World) : Calls Try.prog 13 #[lsV (smp s).z false false (.slice none 0 0) (.slice none 0 0) 7 false 0 0] w fun e w' => e = .returned (.int .i64 0) ∧ Below w.heap.size w w' := by
  rcases hs with rfl | rfl
  · have h := check_gen (smp 0).z ⟨by decide, by decide, by decide, by decide, by decide, by decide, by decide⟩ false false none 0 0 none 0 0 7 false 0 0 0 0 w (fun h => absurd h (by decide)) (fun h => absurd h (by decide))
    rw [show chkC (smp 0).z (ownB (smp 0).z.ty false false 0 0 7 false 0 0) 0 0 7 0 = 0 by decide] at h
    exact h
  · have h := check_gen (smp 1238).z ⟨by decide, by decide, by decide, by decide, by decide, by decide, by decide⟩ false false none 0 0 none 0 0 7 false 0 0 0 0 w (fun h => absurd h (by decide)) (fun h => absurd h (by decide))
    rw [show chkC (smp 1238).z (ownB (smp 1238).z.ty false false 0 0 7 false 0 0) 0 0 7 0 = 0 by decide] at h
    exact h
theorem smp_enc (s : Nat) (hs : s = 0 ∨ s = 1238) (w : World) : Calls Try.prog 57 #[lsV (smp s).z false false (.slice none 0 0) (.slice none 0 0) 7 false 0 0] w fun e w' => ∃ v, e = .returned v ∧ OwnB w w' v (encL (smp s) (lowB 4 7)) ∧ Below w.heap.size w w' := by
  have hh : HdNok (smp s) := by rcases hs with rfl | rfl; exact smp_ok.1; exact smp_ok.2
  exact encoding_any (smp s) hh false false none 0 0 none 0 0 7 false 0 0 (lowB 4 7) (by simp [lowB_len]) w (fun W B hp _ => bodySum_any (smp s).z (Or.inl rfl) false false none 0 0 none 0 0 7 (by decide) false 0 0 B [] W hp (by simp))
theorem smp_seal (w : World) : Calls Try.prog 22 #[lsV (smp 0).z false false (.slice none 0 0) (.slice none 0 0) 7 false 0 0] w fun e w' => e = .returned (.tuple #[lsV (smp 1238).z false false (.slice none 0 0) (.slice none 0 0) 7 false 0 0, .int .i64 0]) ∧ Below w.heap.size w w' := by
  have h := seal_gen (smp 0) false false none 0 0 none 0 0 7 false 0 0 (encL (smp 0) (lowB 4 7)) (by decide) (by decide) 1238 smp_sum.1 w (fun _ v => v = .slice none 0 0) (fun _ v => v = .slice none 0 0) (fun _ _ _ h _ => h) (fun _ _ _ h _ => h)
    (fun W _ => smp_chk 0 (Or.inl rfl) W) (fun W _ => smp_enc 0 (Or.inl rfl) W)
    (fun W _ _ => (cloneL_nil W).mono fun e w' ⟨h1, h2⟩ => ⟨none, 0, 0, h1, rfl, h2 ▸ Below.refl _ _⟩) (fun W _ _ => (cloneA_nil W).mono fun e w' ⟨h1, h2⟩ => ⟨none, 0, 0, h1, rfl, h2 ▸ Below.refl _ _⟩)
  refine h.mono fun e w' hp => ?_
  obtain ⟨vL, vA, he, rfl, rfl, hb⟩ := hp
  exact ⟨he, hb⟩
theorem smp_encode (w : World) : Calls Try.prog 25 #[lsV (smp 1238).z false false (.slice none 0 0) (.slice none 0 0) 7 false 0 0] w fun e w' => ∃ a c, e = .returned (.tuple #[.slice a 24 c, .int .i64 0]) ∧ Below w.heap.size w w' := by
  have h := encode_gen (smp 1238) false false none 0 0 none 0 0 7 false 0 0 (encL (smp 1238) (lowB 4 7)) (by decide) (by decide) 1238 smp_sum.2 0 0 (by decide) w (fun W _ => smp_chk 1238 (Or.inr rfl) W) (fun _ W _ => smp_enc 1238 (Or.inr rfl) W)
  refine h.mono fun e w' hp => ?_
  obtain ⟨v, he, ho, hb⟩ := hp
  rw [if_pos rfl] at ho
  obtain ⟨a, c, rfl⟩ := own_sliceN ho.1
  exact ⟨a, c, he, hb⟩
theorem sample_any (w : World) : Calls Try.prog 48 #[] w fun e w' => e = .returned (lsV (smp 0).z false false (.slice none 0 0) (.slice none 0 0) 7 false 0 0) ∧ Below w.heap.size w w' := by
  go_enter Try.func48, Try.ntmps48
  go_wp2
  exact bodyPost_ret (v := lsV (smp 0).z false false (.slice none 0 0) (.slice none 0 0) 7 false 0 0) (by simp [results, Try.results48, go_sem]; decide) rfl ⟨rfl, (by exact below_alloc _ _)⟩
end Go.Proofs.Ytenfcnappjekgaa
