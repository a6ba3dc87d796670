/-
  The walks of Differ and Same at any two tables.
-/
import Derived.Test.YtegponbmelgngaaMgAm
import Derived.Test.YtegponbmelgngaaMgAj
namespace Go.Proofs.Ytegponbmelgngaa
open Go.RowKit
open Classical
set_option linter.unusedSimpArgs false
set_option linter.unusedVariables false
set_option maxHeartbeats 1500000
set_option maxRecDepth 100000

theorem differ_none (v1 v2 : Value) (w : World) (hr1 : RdE w v1 []) (hr2 : RdE w v2 []) :
    Calls Try.prog 51 #[v1, v2] w fun e w' => e = .returned (.tuple #[.int .u32 0, .bool false]) ∧ Below w.heap.size w w' := by
  have hck : ckE [] = 0 := ckE_iff.2 ⟨by simp, (fun e h => by cases h), List.Pairwise.nil⟩
  have hfe : FitE [] := fun e h => by cases h
  have HC1 : Hid (∀ W, Below w.heap.size w W → Calls Try.prog 47 #[v1] W fun e w' => e = .returned (.int .i64 0) ∧ Below W.heap.size W w') := fun W hW => by have := check47_any [] v1 W (hr1.below hW) hfe; rwa [hck] at this
  have HC2 : Hid (∀ W, Below w.heap.size w W → Calls Try.prog 47 #[v2] W fun e w' => e = .returned (.int .i64 0) ∧ Below W.heap.size W w') := fun W hW => by have := check47_any [] v2 W (hr2.below hW) hfe; rwa [hck] at this
  have HT1 : Hid (∀ W, Below w.heap.size w W → Calls Try.prog 87 #[v1] W fun en w' => ∃ t, en = .returned (.tuple #[t, .int .i64 0]) ∧ Below W.heap.size W w') := fun W hW => by
    refine (of_yes [] v1 W (by simp) (fit_of hfe) (hr1.below hW) rfl).mono ?_
    rintro e w' ⟨t, gs, he, _, _, hb⟩
    exact ⟨t, he, hb⟩
  have HT2 : Hid (∀ W, Below w.heap.size w W → Calls Try.prog 87 #[v2] W fun en w' => ∃ t, en = .returned (.tuple #[t, .int .i64 0]) ∧ Below W.heap.size W w') := fun W hW => by
    refine (of_yes [] v2 W (by simp) (fit_of hfe) (hr2.below hW) rfl).mono ?_
    rintro e w' ⟨t, gs, he, _, _, hb⟩
    exact ⟨t, he, hb⟩
  obtain ⟨ad1, cap1, rfl, -⟩ := hr1
  obtain ⟨ad2, cap2, rfl, -⟩ := hr2
  rw [List.length_nil] at HC1 HC2 HT1 HT2 ⊢
  have HBN : Hid (∀ W, Calls Try.prog 88 #[.slice (some ⟨W.heap.size, 0, none⟩) 2 2] (W.alloc (.cells #[.slice ad1 0 cap1, .slice ad2 0 cap2] 56)) fun e w' => e = .returned (.slice none 0 0) ∧ Below W.heap.size W w') := fun W => by
    refine (bounds_nil ad1 ad2 cap1 cap2 W.heap.size (W.alloc (.cells #[.slice ad1 0 cap1, .slice ad2 0 cap2] 56)) (heap_alloc_new _ _)).mono ?_
    rintro e w' ⟨he, hb⟩
    exact ⟨he, below_then (below_alloc _ _) hb⟩
  clear hck hfe
  go_enter Try.func51, Try.ntmps51
  go_wp2_with (first
    | (go_at_call 47; refine (HC2.out _ HB.out).mono ?_; rintro en w2 ⟨rfl, hb⟩; have HB2 := Lib.hid (below_then HB.out hb); clear hb)
    | (go_at_call 47; refine (HC1.out _ (Below.refl _ _)).mono ?_; rintro en w1 ⟨rfl, hb⟩; have HB := Lib.hid hb; clear hb)
    | (go_at_call 87; refine (HT2.out _ HG1.out).mono ?_; rintro en w4 ⟨t2, rfl, hb⟩; have HG2 : Hid (Below w.heap.size w w4) := below_then HG1.out hb; clear hb)
    | (go_at_call 87; refine (HT1.out _ HB2.out).mono ?_; rintro en w3 ⟨t1, rfl, hb⟩; have HG1 : Hid (Below w.heap.size w w3) := below_then HB2.out hb; clear hb))
  go_at_call 88
  refine (HBN.out _).mono ?_
  rintro en w5 ⟨rfl, hb5⟩
  have H5 := Lib.hid (below_then HG2.out hb5)
  clear hb5
  go_wp2_with fail
  refine wp_loop_rounds 1 ?_
  rw [rounds_succ]
  go_wp2
  go_ret2
  exact ⟨rfl, H5.out⟩
theorem differ_any (a b : List En) (v1 v2 : Value) (w : World) (hla : a.length ≤ 200) (hlb : b.length ≤ 200) (hr1 : RdE w v1 a) (hr2 : RdE w v2 b) (fa : FitE a) (fb : FitE b) :
    Calls Try.prog 51 #[v1, v2] w fun e w' => ∃ (d : Nat) (f : Bool), e = .returned (.tuple #[.int .u32 (d : Int), .bool f]) ∧ DifP a b d f ∧ Below w.heap.size w w' := by
  by_cases hp : ckE a = 0
  · by_cases hq : ckE b = 0
    · by_cases hpos : 0 < a.length + b.length
      · exact differ_few a b v1 v2 w (ckE_iff.1 hp) (ckE_iff.1 hq) hr1 hr2 fa fb (by omega) hpos
      · obtain rfl : a = [] := List.eq_nil_of_length_eq_zero (by omega)
        obtain rfl : b = [] := List.eq_nil_of_length_eq_zero (by omega)
        refine (differ_none v1 v2 w hr1 hr2).mono ?_
        rintro e w' ⟨he, hb⟩
        exact ⟨0, false, he, by unfold DifP; rw [if_pos ⟨hp, hq⟩]; exact ⟨by omega, fun y _ _ => rfl, (fun e => by cases e), fun _ => rfl⟩, hb⟩
    · have HD : Hid (DifP a b 0 false) := by
        show DifP a b 0 false
        unfold DifP; rw [if_neg (fun h => hq h.2)]; exact ⟨rfl, rfl⟩
      have HC1 : Hid (Calls Try.prog 47 #[v1] w fun e w' => e = .returned (.int .i64 0) ∧ Below w.heap.size w w') := by have := check47_any a v1 w hr1 fa; rwa [hp] at this
      have HC2 : Hid (∀ W, Below w.heap.size w W → Calls Try.prog 47 #[v2] W fun e w' => e = .returned (.int .i64 (ckE b)) ∧ Below W.heap.size W w') := fun W hW => check47_any b v2 W (hr2.below hW) fb
      generalize ckE b = q at *
      have h1 : (q == 0) = false := by simpa using hq
      have h2 : (q != 0) = true := by simpa using hq
      clear hp hr1 hr2 fa fb hla hlb
      go_enter Try.func51, Try.ntmps51
      go_wp2_with (first
        | (go_at_call 47; refine (HC2.out _ HB.out).mono ?_; rintro en w2 ⟨rfl, hb⟩; have HB2 := Lib.hid (below_then HB.out hb); clear hb)
        | (go_at_call 47; refine HC1.out.mono ?_; rintro en w1 ⟨rfl, hb⟩; have HB := Lib.hid hb; clear hb))
      go_ret2
      exact ⟨0, false, rfl, HD.out, HB2.out⟩
  · have HD : Hid (DifP a b 0 false) := by
      show DifP a b 0 false
      unfold DifP; rw [if_neg (fun h => hp h.1)]; exact ⟨rfl, rfl⟩
    have HC1 : Hid (Calls Try.prog 47 #[v1] w fun e w' => e = .returned (.int .i64 (ckE a)) ∧ Below w.heap.size w w') := check47_any a v1 w hr1 fa
    generalize ckE a = p at *
    have h1 : (p == 0) = false := by simpa using hp
    have h2 : (p != 0) = true := by simpa using hp
    clear hp hr1 hr2 fa fb hla hlb
    go_enter Try.func51, Try.ntmps51
    go_wp2_with (go_at_call 47; refine HC1.out.mono ?_; rintro en w1 ⟨rfl, hb⟩; have HB := Lib.hid hb; clear hb)
    go_ret2
    exact ⟨0, false, rfl, HD.out, HB.out⟩
theorem same_any (a b : List En) (v1 v2 : Value) (w : World) (hla : a.length ≤ 200) (hlb : b.length ≤ 200) (hr1 : RdE w v1 a) (hr2 : RdE w v2 b) (fa : FitE a) (fb : FitE b) :
    Calls Try.prog 53 #[v1, v2] w fun e w' => e = .returned (.bool (decide (SamE a b))) ∧ Below w.heap.size w w' := by
  have HD := Lib.hid (differ_any a b v1 v2 w hla hlb hr1 hr2 fa fb)
  have HC1 : Hid (∀ W, Below w.heap.size w W → Calls Try.prog 47 #[v1] W fun e w' => e = .returned (.int .i64 (ckE a)) ∧ Below W.heap.size W w') := fun W hW => check47_any a v1 W (hr1.below hW) fa
  have HC2 : Hid (∀ W, Below w.heap.size w W → Calls Try.prog 47 #[v2] W fun e w' => e = .returned (.int .i64 (ckE b)) ∧ Below W.heap.size W w') := fun W hW => check47_any b v2 W (hr2.below hW) fb
  have HS : Hid (∀ d f, DifP a b d f → decide (SamE a b) = (!f && (decide (ckE a = 0) && decide (ckE b = 0)))) := fun d f h => by
    rw [Bool.eq_iff_iff, decide_eq_true_iff, h.same]
    cases f <;> simp
  generalize ckE a = p at *
  generalize ckE b = q at *
  generalize decide (SamE a b) = r at *
  clear hr1 hr2 fa fb hla hlb
  by_cases hp : p = 0
  · subst hp
    by_cases hq : q = 0
    · subst hq
      go_enter Try.func53, Try.ntmps53
      go_wp2_with (first
        | (go_at_call 47; refine (HC2.out _ HB2.out).mono ?_; rintro en w3 ⟨rfl, hb⟩; have HB3 := Lib.hid (below_then HB2.out hb); clear hb)
        | (go_at_call 47; refine (HC1.out _ HB1.out).mono ?_; rintro en w2 ⟨rfl, hb⟩; have HB2 := Lib.hid (below_then HB1.out hb); clear hb)
        | (go_at_call 51; refine HD.out.mono ?_; rintro en w1 ⟨d, f, rfl, hd, hb⟩; have HR := Lib.hid (HS.out d f hd); have HB1 := Lib.hid hb; clear hd hb; cases f))
      all_goals go_ret
      · exact ⟨by rw [HR.out]; rfl, HB3.out⟩
      · exact ⟨by rw [HR.out]; rfl, HB1.out⟩
    · have h1 : (q == 0) = false := by simpa using hq
      have HQ : Hid (decide (q = 0) = false) := decide_eq_false hq
      clear hq
      go_enter Try.func53, Try.ntmps53
      go_wp2_with (first
        | (go_at_call 47; refine (HC2.out _ HB2.out).mono ?_; rintro en w3 ⟨rfl, hb⟩; have HB3 := Lib.hid (below_then HB2.out hb); clear hb)
        | (go_at_call 47; refine (HC1.out _ HB1.out).mono ?_; rintro en w2 ⟨rfl, hb⟩; have HB2 := Lib.hid (below_then HB1.out hb); clear hb)
        | (go_at_call 51; refine HD.out.mono ?_; rintro en w1 ⟨d, f, rfl, hd, hb⟩; have HR := Lib.hid (HS.out d f hd); have HB1 := Lib.hid hb; clear hd hb; cases f))
      all_goals go_ret
      · exact ⟨by rw [HR.out, HQ.out]; rfl, HB3.out⟩
      · exact ⟨by rw [HR.out]; rfl, HB1.out⟩
  · have h1 : (p == 0) = false := by simpa using hp
    have HQ : Hid (decide (p = 0) = false) := decide_eq_false hp
    clear hp
    go_enter Try.func53, Try.ntmps53
    go_wp2_with (first
      | (go_at_call 47; refine (HC1.out _ HB1.out).mono ?_; rintro en w2 ⟨rfl, hb⟩; have HB2 := Lib.hid (below_then HB1.out hb); clear hb)
      | (go_at_call 51; refine HD.out.mono ?_; rintro en w1 ⟨d, f, rfl, hd, hb⟩; have HR := Lib.hid (HS.out d f hd); have HB1 := Lib.hid hb; clear hd hb; cases f))
    all_goals go_ret
    · exact ⟨by rw [HR.out, HQ.out]; rfl, HB2.out⟩
    · exact ⟨by rw [HR.out]; rfl, HB1.out⟩
end Go.Proofs.Ytegponbmelgngaa
