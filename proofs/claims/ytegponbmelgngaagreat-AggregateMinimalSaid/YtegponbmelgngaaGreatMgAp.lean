/-
  The walk of the law AggregateMinimal.
-/
import Derived.Test.YtegponbmelgngaaGreatMgAo
import Derived.Test.YtegponbmelgngaaGreatMgAm
section
namespace Go.Proofs.YtegponbmelgngaaGreat
open Go.RowKit
open Classical
set_option linter.unusedSimpArgs false
set_option linter.unusedVariables false
set_option maxHeartbeats 1500000
set_option maxRecDepth 100000

theorem minimal_good (l : List En) (v : Value) (w : World) (hl : l.length ≤ 40) (hck : ckE l = 0) (hr : RdE w v l) (hn : NilE v) (hc : CapE v) (hf : FitE l) :
    Calls Tryz.prog 3 #[v] w fun e w' => e = .returned (.bool true) ∧ Below w.heap.size w w' := by
  have ht := ckE_iff.1 hck
  have HAW := Lib.hid awake7_any
  have hlm := minE_len ht hf
  obtain ⟨P, hP⟩ : ∃ P, (minE l).length = P := ⟨_, rfl⟩
  have HM : Hid (Calls Tryz.prog 5 #[v] w fun e w' => ∃ ad cap, e = .returned (.tuple #[.slice ad P cap, .int .i64 0]) ∧ RdE w' (.slice ad P cap) (minE l) ∧ NilE (.slice ad P cap) ∧ Below w.heap.size w w') := by
    refine (minimal_any l v w hr hc hf).mono ?_
    rintro e w' ⟨v', he, h1, _, hb⟩
    rw [hck] at he h1
    obtain ⟨h2, h3, _⟩ := h1 rfl
    obtain ⟨ad, cap, rfl, _⟩ := id h2
    rw [hP] at he h2 h3
    exact ⟨ad, cap, he, h2, h3, hb⟩
  have HC1 : Hid (∀ W, Below w.heap.size w W → Calls Tryz.prog 6 #[v] W fun e w' => e = .returned (.int .i64 0) ∧ Below W.heap.size W w') := fun W hW => by
    have := rcheck48_any l v W (hr.below hW) hf
    rwa [hck] at this
  have HC2 : Hid (∀ W m, RdE W m (minE l) → Calls Tryz.prog 6 #[m] W fun e w' => e = .returned (.int .i64 0) ∧ Below W.heap.size W w') := fun W m hm => by
    have := rcheck48_any (minE l) m W hm (minE_fit ht hf)
    rwa [ckE_iff.2 (minE_tab ht hf)] at this
  have HS : Hid (∀ W m, Below w.heap.size w W → RdE W m (minE l) → NilE m → Calls Tryz.prog 7 #[v, m] W fun e w' => e = .returned (.bool true) ∧ Below W.heap.size W w') := fun W m hW hm nm => by
    have h1 : SamE l (minE l) := ⟨hck, ckE_iff.2 (minE_tab ht hf), fun y hy => (minE_look ht hf y hy).symm⟩
    have := rsame_any l (minE l) v m W (by omega) (by omega) (hr.below hW) hm hn nm hf (minE_fit ht hf)
    rwa [decide_eq_true h1] at this
  have HLS : Hid (∀ W, Below w.heap.size w W → Calls Tryz.prog 8 #[v] W fun e w' => e = .returned (.int .i64 (P : Int)) ∧ Below W.heap.size W w') := fun W hW => by
    have := least_any l v W ht (hr.below hW) hf hl
    rwa [hP] at this
  obtain ⟨ad1, cap1, rfl, -⟩ := hr
  obtain ⟨L, hL⟩ : ∃ L, l.length = L := ⟨_, rfl⟩
  rw [hL] at hl HM HC1 HS HLS ⊢
  have k1 : decide ((L : Int) > 40) = false := decide_eq_false (by omega)
  have k2 : ¬ (40 : Int) < (L : Int) := by omega
  clear ht hck hn hc hf hP hlm hL hl
  go_enter Tryz.func3, Tryz.ntmps3
  go_wp2_with (first
    | (go_at_call 8; refine (HLS.out _ H5.out.2).mono ?_; rintro en w6 ⟨rfl, hb⟩; have H6 := Lib.hid (below_then H5.out.2 hb); clear hb)
    | (go_at_call 7; refine (HS.out _ _ H4.out.2.2 H4.out.1 H4.out.2.1).mono ?_; rintro en w5 ⟨rfl, hb⟩; have H5 : Hid (True ∧ Below w.heap.size w w5) := ⟨trivial, below_then H4.out.2.2 hb⟩; clear hb)
    | (go_at_call 6; have tok := H3; clear tok; refine (HC2.out _ _ H3.out.1).mono ?_; rintro en w4 ⟨rfl, hb⟩; have H4 : Hid (RdE w4 (.slice ad P cap) (minE l) ∧ NilE (.slice ad P cap) ∧ Below w.heap.size w w4) := ⟨H3.out.1.below hb, H3.out.2.1, below_then H3.out.2.2 hb⟩; clear hb)
    | (go_at_call 4; refine (HAW.out _).mono ?_; rintro en w3 ⟨rfl, hb⟩; have H3 : Hid (RdE w3 (.slice ad P cap) (minE l) ∧ NilE (.slice ad P cap) ∧ Below w.heap.size w w3) := ⟨H2.out.1.below hb, H2.out.2.1, below_then H2.out.2.2 hb⟩; clear hb)
    | (go_at_call 6; have tok := H1; clear tok; refine (HC1.out _ H1.out.2.2).mono ?_; rintro en w2 ⟨rfl, hb⟩; have H2 : Hid (RdE w2 (.slice ad P cap) (minE l) ∧ NilE (.slice ad P cap) ∧ Below w.heap.size w w2) := ⟨H1.out.1.below hb, H1.out.2.1, below_then H1.out.2.2 hb⟩; clear hb)
    | (go_at_call 5; refine HM.out.mono ?_; rintro en w1 ⟨ad, cap, rfl, hm, nm, hb⟩; have H1 : Hid (RdE w1 (.slice ad P cap) (minE l) ∧ NilE (.slice ad P cap) ∧ Below w.heap.size w w1) := ⟨hm, nm, hb⟩; clear hm nm hb))
  go_ret
  exact ⟨by simp, H6.out⟩
theorem minimal_walk (l : List En) (v : Value) (w : World) (hr : RdE w v l) (hn : NilE v) (hc : CapE v) (hf : FitE l) :
    Calls Tryz.prog 3 #[v] w fun e w' => e = .returned (.bool true) ∧ Below w.heap.size w w' := by
  have HAW := Lib.hid awake7_any
  by_cases hl : l.length ≤ 40
  · by_cases hck : ckE l = 0
    · exact minimal_good l v w hl hck hr hn hc hf
    · have HM : Hid (Calls Tryz.prog 5 #[v] w fun e w' => e = .returned (.tuple #[.slice none 0 0, .int .i64 (ckE l)]) ∧ Below w.heap.size w w') := by
        refine (minimal_any l v w hr hc hf).mono ?_
        rintro e w' ⟨v', he, _, h1, hb⟩
        rw [h1 hck] at he
        exact ⟨he, hb⟩
      have HC : Hid (∀ W, Below w.heap.size w W → Calls Tryz.prog 6 #[v] W fun e w' => e = .returned (.int .i64 (ckE l)) ∧ Below W.heap.size W w') := fun W hW => rcheck48_any l v W (hr.below hW) hf
      obtain ⟨q, hq⟩ : ∃ q, ckE l = q := ⟨_, rfl⟩
      rw [hq] at HM HC hck
      obtain ⟨ad1, cap1, rfl, -⟩ := hr
      obtain ⟨L, hL⟩ : ∃ L, l.length = L := ⟨_, rfl⟩
      rw [hL] at hl HM HC ⊢
      have k1 : decide ((L : Int) > 40) = false := decide_eq_false (by omega)
      have k2 : ¬ (40 : Int) < (L : Int) := by omega
      have k3 : (q == 0) = false := by simpa using hck
      have k4 : (q != 0) = true := by simpa using hck
      clear hn hc hf hL hl hck hq
      go_enter Tryz.func3, Tryz.ntmps3
      go_wp2_with (first
        | (go_at_call 4; refine (HAW.out _).mono ?_; rintro en w3 ⟨rfl, hb⟩; have H3 := Lib.hid (below_then H2.out hb); clear hb)
        | (go_at_call 6; refine (HC.out _ H1.out).mono ?_; rintro en w2 ⟨rfl, hb⟩; have H2 := Lib.hid (below_then H1.out hb); clear hb)
        | (go_at_call 5; refine HM.out.mono ?_; rintro en w1 ⟨rfl, hb⟩; have H1 := Lib.hid hb; clear hb))
      go_ret
      exact ⟨rfl, H3.out⟩
  · obtain ⟨ad1, cap1, rfl, -⟩ := hr
    obtain ⟨L, hL⟩ : ∃ L, l.length = L := ⟨_, rfl⟩
    rw [hL] at hl ⊢
    have k1 : decide ((L : Int) > 40) = true := decide_eq_true (by omega)
    have k2 : (40 : Int) < (L : Int) := by omega
    clear hn hc hf hL hl
    go_enter Tryz.func3, Tryz.ntmps3
    go_wp2_with (go_at_call 4; refine (HAW.out _).mono ?_; rintro en w4 ⟨rfl, hb⟩; have H4 := Lib.hid hb; clear hb)
    go_ret
    exact ⟨rfl, H4.out⟩
end Go.Proofs.YtegponbmelgngaaGreat
end
