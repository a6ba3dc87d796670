/-
  The walks of the laws AggregateDiffers and AggregateFirst.
-/
import Derived.Test.YtegponbmelgngaaAgDh
import Derived.Test.YtegponbmelgngaaMgAm
namespace Go.Proofs.Ytegponbmelgngaa
open Go.RowKit
open Classical
set_option linter.unusedSimpArgs false
set_option linter.unusedVariables false
set_option maxHeartbeats 1500000
set_option maxRecDepth 100000

theorem differs_walk (a b : List En) (v1 v2 : Value) (w : World) (hr1 : RdE w v1 a) (hr2 : RdE w v2 b) (n1 : NilE v1) (n2 : NilE v2) (fa : FitE a) (fb : FitE b) :
    Calls Try.prog 11 #[v1, v2] w fun e w' => e = .returned (.bool true) ∧ Below w.heap.size w w' := by
  have HAW := Lib.hid awake7_any
  by_cases hlen : a.length ≤ 60 ∧ b.length ≤ 60
  · have HD := Lib.hid (differ_any a b v1 v2 w (by omega) (by omega) hr1 hr2 fa fb)
    have HE : Hid (∀ W, Below w.heap.size w W → Calls Try.prog 52 #[v1, v2] W fun e w' => ∃ (d : Nat) (f : Bool), e = .returned (.tuple #[.int .u32 (d : Int), .bool f]) ∧ DifP a b d f ∧ Below W.heap.size W w') := fun W hW => rdiffer_any a b v1 v2 W (by omega) (by omega) (hr1.below hW) (hr2.below hW) n1 n2 fa fb
    have HS1 : Hid (∀ W, Below w.heap.size w W → Calls Try.prog 53 #[v1, v2] W fun e w' => e = .returned (.bool (decide (SamE a b))) ∧ Below W.heap.size W w') := fun W hW => same_any a b v1 v2 W (by omega) (by omega) (hr1.below hW) (hr2.below hW) fa fb
    have HS2 : Hid (∀ W, Below w.heap.size w W → Calls Try.prog 54 #[v1, v2] W fun e w' => e = .returned (.bool (decide (SamE a b))) ∧ Below W.heap.size W w') := fun W hW => rsame_any a b v1 v2 W (by omega) (by omega) (hr1.below hW) (hr2.below hW) n1 n2 fa fb
    have HU : Hid (∀ d f d' f', DifP a b d f → DifP a b d' f' → d' = d ∧ f' = f) := fun d f d' f' h g => g.unique h
    generalize decide (SamE a b) = r at HS1 HS2
    obtain ⟨ad1, cap1, rfl, -⟩ := hr1
    obtain ⟨ad2, cap2, rfl, -⟩ := hr2
    obtain ⟨L, hL⟩ : ∃ L, a.length = L := ⟨_, rfl⟩
    obtain ⟨M, hM⟩ : ∃ M, b.length = M := ⟨_, rfl⟩
    rw [hL] at hlen HD HE HS1 HS2 ⊢; rw [hM] at hlen HD HE HS1 HS2 ⊢
    have k1 : decide ((L : Int) > 60) = false := decide_eq_false (by omega)
    have k2 : ¬ (60 : Int) < (L : Int) := by omega
    have k3 : decide ((M : Int) > 60) = false := decide_eq_false (by omega)
    have k4 : ¬ (60 : Int) < (M : Int) := by omega
    clear n1 n2 fa fb hL hM hlen
    go_enter Try.func11, Try.ntmps11
    go_wp2_with (first
      | (go_at_call 54; refine (HS2.out _ H4.out).mono ?_; rintro en w5 ⟨rfl, hb⟩; have H5 := Lib.hid (below_then H4.out hb); clear hb)
      | (go_at_call 53; refine (HS1.out _ H3.out).mono ?_; rintro en w4 ⟨rfl, hb⟩; have H4 := Lib.hid (below_then H3.out hb); clear hb)
      | (go_at_call 46; refine (HAW.out _).mono ?_; rintro en w3 ⟨rfl, hb⟩; have H3 := Lib.hid (below_then H2.out hb); clear hb)
      | (go_at_call 52; refine (HE.out _ H1.out).mono ?_; rintro en w2 ⟨d', f', rfl, hd', hb⟩; obtain ⟨rfl, rfl⟩ := HU.out _ _ _ _ HDP.out hd'; have H2 := Lib.hid (below_then H1.out hb); clear hb hd')
      | (go_at_call 51; refine HD.out.mono ?_; rintro en w1 ⟨d, f, rfl, hd, hb⟩; have HDP := Lib.hid hd; have H1 := Lib.hid hb; clear hd hb))
    go_ret
    exact ⟨by simp, H5.out⟩
  · obtain ⟨ad1, cap1, rfl, -⟩ := hr1
    obtain ⟨ad2, cap2, rfl, -⟩ := hr2
    obtain ⟨L, hL⟩ : ∃ L, a.length = L := ⟨_, rfl⟩
    obtain ⟨M, hM⟩ : ∃ M, b.length = M := ⟨_, rfl⟩
    rw [hL] at hlen ⊢; rw [hM] at hlen ⊢
    clear n1 n2 fa fb hL hM
    by_cases hl : L ≤ 60
    · have k1 : decide ((L : Int) > 60) = false := decide_eq_false (by omega)
      have k2 : ¬ (60 : Int) < (L : Int) := by omega
      have k3 : decide ((M : Int) > 60) = true := decide_eq_true (by omega)
      have k4 : (60 : Int) < (M : Int) := by omega
      clear hlen hl
      go_enter Try.func11, Try.ntmps11
      go_wp2_with (go_at_call 46; refine (HAW.out _).mono ?_; rintro en w3 ⟨rfl, hb⟩; have H3 := Lib.hid hb; clear hb)
      go_ret
      exact ⟨rfl, H3.out⟩
    · have k1 : decide ((L : Int) > 60) = true := decide_eq_true (by omega)
      have k2 : (60 : Int) < (L : Int) := by omega
      clear hlen hl
      go_enter Try.func11, Try.ntmps11
      go_wp2_with (go_at_call 46; refine (HAW.out _).mono ?_; rintro en w3 ⟨rfl, hb⟩; have H3 := Lib.hid hb; clear hb)
      go_ret
      exact ⟨rfl, H3.out⟩
theorem first_good (a b : List En) (v1 v2 : Value) (x : Nat) (w : World) (hla : a.length ≤ 100) (hlb : b.length ≤ 100) (hp : ckE a = 0) (hq : ckE b = 0) (hr1 : RdE w v1 a) (hr2 : RdE w v2 b) (fa : FitE a) (fb : FitE b) (hx : x < 4294967296) :
    Calls Try.prog 15 #[v1, v2, .int .u32 (x : Int)] w fun e w' => e = .returned (.bool true) ∧ Below w.heap.size w w' := by
  have HAW := Lib.hid awake7_any
  have HC1 : Hid (Calls Try.prog 48 #[v1] w fun e w' => e = .returned (.int .i64 0) ∧ Below w.heap.size w w') := by have := rcheck48_any a v1 w hr1 fa; rwa [hp] at this
  have HC2 : Hid (∀ W, Below w.heap.size w W → Calls Try.prog 48 #[v2] W fun e w' => e = .returned (.int .i64 0) ∧ Below W.heap.size W w') := fun W hW => by have := rcheck48_any b v2 W (hr2.below hW) fb; rwa [hq] at this
  have HD : Hid (∀ W, Below w.heap.size w W → Calls Try.prog 51 #[v1, v2] W fun e w' => ∃ (d : Nat) (f : Bool), e = .returned (.tuple #[.int .u32 (d : Int), .bool f]) ∧ DifP a b d f ∧ Below W.heap.size W w') := fun W hW => differ_any a b v1 v2 W (by omega) (by omega) (hr1.below hW) (hr2.below hW) fa fb
  have HS : Hid (∀ W, Below w.heap.size w W → Calls Try.prog 53 #[v1, v2] W fun e w' => e = .returned (.bool (decide (SamE a b))) ∧ Below W.heap.size W w') := fun W hW => same_any a b v1 v2 W (by omega) (by omega) (hr1.below hW) (hr2.below hW) fa fb
  have HL1 : Hid (∀ W y, Below w.heap.size w W → y < 4294967296 → Calls Try.prog 50 #[v1, .int .u32 (y : Nat)] W fun e w' => e = .returned (.int .i64 (lkE y (-1) a)) ∧ Below W.heap.size W w') := fun W y hW hy => by have := rlookup50_any a v1 y W (hr1.below hW) fa hy; rwa [show lkT y a = lkE y (-1) a from if_pos hp] at this
  have HL2 : Hid (∀ W y, Below w.heap.size w W → y < 4294967296 → Calls Try.prog 50 #[v2, .int .u32 (y : Nat)] W fun e w' => e = .returned (.int .i64 (lkE y (-1) b)) ∧ Below W.heap.size W w') := fun W y hW hy => by have := rlookup50_any b v2 y W (hr2.below hW) fb hy; rwa [show lkT y b = lkE y (-1) b from if_pos hq] at this
  have HDP : Hid (∀ d f, DifP a b d f → (d < 4294967296 ∧ (∀ y, y < 4294967296 → (f = true → y < d) → lkE y (-1) a = lkE y (-1) b) ∧ (f = true → lkE d (-1) a ≠ lkE d (-1) b)) ∧ decide (SamE a b) = !f) := fun d f h => by
    refine ⟨?_, ?_⟩
    · unfold DifP at h; rw [if_pos ⟨hp, hq⟩] at h; exact ⟨h.1, h.2.1, h.2.2.1⟩
    · rw [Bool.eq_iff_iff, decide_eq_true_iff, h.same]
      cases f <;> simp [hp, hq]
  generalize decide (SamE a b) = r at HS HDP
  obtain ⟨ad1, cap1, rfl, -⟩ := hr1
  obtain ⟨ad2, cap2, rfl, -⟩ := hr2
  obtain ⟨L, hL⟩ : ∃ L, a.length = L := ⟨_, rfl⟩
  obtain ⟨M, hM⟩ : ∃ M, b.length = M := ⟨_, rfl⟩
  rw [hL] at hla HC1 HD HS HL1 ⊢; rw [hM] at hlb HC2 HD HS HL2 ⊢
  have k1 : decide ((L : Int) > 100) = false := decide_eq_false (by omega)
  have k2 : ¬ (100 : Int) < (L : Int) := by omega
  have k3 : decide ((M : Int) > 100) = false := decide_eq_false (by omega)
  have k4 : ¬ (100 : Int) < (M : Int) := by omega
  clear fa fb hL hM hp hq hla hlb
  go_enter Try.func15, Try.ntmps15
  go_wp2_with (first
    | (go_at_call 48; refine (HC2.out _ HB.out).mono ?_; rintro en w2 ⟨rfl, hb⟩; have HB2 := Lib.hid (below_then HB.out hb); clear hb)
    | (go_at_call 48; refine HC1.out.mono ?_; rintro en w1 ⟨rfl, hb⟩; have HB := Lib.hid hb; clear hb))
  go_at_call 51
  refine (HD.out _ HB2.out).mono ?_
  rintro en w3 ⟨d, f, rfl, hd, hb⟩
  have HB3 := Lib.hid (below_then HB2.out hb)
  obtain ⟨⟨hd1, hd2, hd3⟩, hd4⟩ := HDP.out d f hd
  clear hb hd HDP HD HC1 HC2
  cases f
  · have HX1 : Hid (∀ W, Below w.heap.size w W → Calls Try.prog 50 #[.slice ad1 L cap1, .int .u32 (x : Nat)] W fun e w' => e = .returned (.int .i64 (lkE x (-1) a)) ∧ Below W.heap.size W w') := fun W hW => HL1.out W x hW hx
    have HX2 : Hid (∀ W, Below w.heap.size w W → Calls Try.prog 50 #[.slice ad2 M cap2, .int .u32 (x : Nat)] W fun e w' => e = .returned (.int .i64 (lkE x (-1) a)) ∧ Below W.heap.size W w') := fun W hW => by rw [hd2 x hx (fun e => by cases e)]; exact HL2.out W x hW hx
    generalize lkE x (-1) a = p at *
    rw [hd4] at HS
    clear hd1 hd2 hd3 hd4 HL1 HL2 hx
    go_wp2_with (first
      | (go_at_call 53; refine (HS.out _ H6.out).mono ?_; rintro en w7 ⟨rfl, hb⟩; have H7 := Lib.hid (below_then H6.out hb); clear hb)
      | (go_at_call 46; refine (HAW.out _).mono ?_; rintro en w6 ⟨rfl, hb⟩; have H6 := Lib.hid (below_then H5.out hb); clear hb)
      | (go_at_call 50; refine (HX2.out _ H4.out).mono ?_; rintro en w5 ⟨rfl, hb⟩; have H5 := Lib.hid (below_then H4.out hb); clear hb)
      | (go_at_call 50; refine (HX1.out _ HB3.out).mono ?_; rintro en w4 ⟨rfl, hb⟩; have H4 := Lib.hid (below_then HB3.out hb); clear hb))
    go_ret
    exact ⟨rfl, H7.out⟩
  · have HY1 : Hid (∀ W, Below w.heap.size w W → Calls Try.prog 50 #[.slice ad1 L cap1, .int .u32 (d : Nat)] W fun e w' => e = .returned (.int .i64 (lkE d (-1) a)) ∧ Below W.heap.size W w') := fun W hW => HL1.out W d hW hd1
    have HY2 : Hid (∀ W, Below w.heap.size w W → Calls Try.prog 50 #[.slice ad2 M cap2, .int .u32 (d : Nat)] W fun e w' => e = .returned (.int .i64 (lkE d (-1) b)) ∧ Below W.heap.size W w') := fun W hW => HL2.out W d hW hd1
    have hne := hd3 rfl
    generalize lkE d (-1) a = p at *
    generalize lkE d (-1) b = q at *
    have f1 : (p == q) = false := by simpa using hne
    rw [hd4] at HS
    by_cases hxd : x < d
    · have HX1 : Hid (∀ W, Below w.heap.size w W → Calls Try.prog 50 #[.slice ad1 L cap1, .int .u32 (x : Nat)] W fun e w' => e = .returned (.int .i64 (lkE x (-1) a)) ∧ Below W.heap.size W w') := fun W hW => HL1.out W x hW hx
      have HX2 : Hid (∀ W, Below w.heap.size w W → Calls Try.prog 50 #[.slice ad2 M cap2, .int .u32 (x : Nat)] W fun e w' => e = .returned (.int .i64 (lkE x (-1) a)) ∧ Below W.heap.size W w') := fun W hW => by rw [hd2 x hx (fun _ => hxd)]; exact HL2.out W x hW hx
      generalize lkE x (-1) a = s at *
      have z1 : (x : Int) < (d : Int) := by omega
      have z2 : decide ((x : Int) < (d : Int)) = true := decide_eq_true z1
      clear hd1 hd2 hd3 hd4 HL1 HL2 hx hne hxd
      go_wp2_with (first
        | (go_at_call 53; refine (HS.out _ H8.out).mono ?_; rintro en w9 ⟨rfl, hb⟩; have H9 := Lib.hid (below_then H8.out hb); clear hb)
        | (go_at_call 46; refine (HAW.out _).mono ?_; rintro en w8 ⟨rfl, hb⟩; have H8 := Lib.hid (below_then H7.out hb); clear hb)
        | (go_at_call 50; refine (HX2.out _ H6.out).mono ?_; rintro en w7 ⟨rfl, hb⟩; have H7 := Lib.hid (below_then H6.out hb); clear hb)
        | (go_at_call 50; refine (HX1.out _ H5.out).mono ?_; rintro en w6 ⟨rfl, hb⟩; have H6 := Lib.hid (below_then H5.out hb); clear hb)
        | (go_at_call 50; refine (HY2.out _ H4.out).mono ?_; rintro en w5 ⟨rfl, hb⟩; have H5 := Lib.hid (below_then H4.out hb); clear hb)
        | (go_at_call 50; refine (HY1.out _ HB3.out).mono ?_; rintro en w4 ⟨rfl, hb⟩; have H4 := Lib.hid (below_then HB3.out hb); clear hb))
      go_ret
      exact ⟨rfl, H9.out⟩
    · have z1 : ¬ (x : Int) < (d : Int) := by omega
      have z2 : decide ((x : Int) < (d : Int)) = false := decide_eq_false z1
      clear hd1 hd2 hd3 hd4 HL1 HL2 hx hne hxd
      go_wp2_with (first
        | (go_at_call 53; refine (HS.out _ H8.out).mono ?_; rintro en w9 ⟨rfl, hb⟩; have H9 := Lib.hid (below_then H8.out hb); clear hb)
        | (go_at_call 46; refine (HAW.out _).mono ?_; rintro en w8 ⟨rfl, hb⟩; have H8 := Lib.hid (below_then H5.out hb); clear hb)
        | (go_at_call 50; refine (HY2.out _ H4.out).mono ?_; rintro en w5 ⟨rfl, hb⟩; have H5 := Lib.hid (below_then H4.out hb); clear hb)
        | (go_at_call 50; refine (HY1.out _ HB3.out).mono ?_; rintro en w4 ⟨rfl, hb⟩; have H4 := Lib.hid (below_then HB3.out hb); clear hb))
      go_ret
      exact ⟨rfl, H9.out⟩
theorem first_walk (a b : List En) (v1 v2 : Value) (x : Nat) (w : World) (hr1 : RdE w v1 a) (hr2 : RdE w v2 b) (fa : FitE a) (fb : FitE b) (hx : x < 4294967296) :
    Calls Try.prog 15 #[v1, v2, .int .u32 (x : Int)] w fun e w' => e = .returned (.bool true) ∧ Below w.heap.size w w' := by
  have HAW := Lib.hid awake7_any
  have HC1 : Hid (Calls Try.prog 48 #[v1] w fun e w' => e = .returned (.int .i64 (ckE a)) ∧ Below w.heap.size w w') := rcheck48_any a v1 w hr1 fa
  have HC2 : Hid (∀ W, Below w.heap.size w W → Calls Try.prog 48 #[v2] W fun e w' => e = .returned (.int .i64 (ckE b)) ∧ Below W.heap.size W w') := fun W hW => rcheck48_any b v2 W (hr2.below hW) fb
  by_cases hl1 : a.length ≤ 100
  · by_cases hl2 : b.length ≤ 100
    · by_cases hp : ckE a = 0
      · by_cases hq : ckE b = 0
        · exact first_good a b v1 v2 x w hl1 hl2 hp hq hr1 hr2 fa fb hx
        · rw [hp] at HC1
          generalize ckE b = q at *
          obtain ⟨ad1, cap1, rfl, -⟩ := hr1
          obtain ⟨ad2, cap2, rfl, -⟩ := hr2
          obtain ⟨L, hL⟩ : ∃ L, a.length = L := ⟨_, rfl⟩
          obtain ⟨M, hM⟩ : ∃ M, b.length = M := ⟨_, rfl⟩
          rw [hL] at hl1 HC1 ⊢; rw [hM] at hl2 HC2 ⊢
          have k1 : decide ((L : Int) > 100) = false := decide_eq_false (by omega)
          have k2 : ¬ (100 : Int) < (L : Int) := by omega
          have k3 : decide ((M : Int) > 100) = false := decide_eq_false (by omega)
          have k4 : ¬ (100 : Int) < (M : Int) := by omega
          have k5 : (q == 0) = false := by simpa using hq
          have k6 : (q != 0) = true := by simpa using hq
          clear fa fb hL hM hp hq hl1 hl2 hx
          go_enter Try.func15, Try.ntmps15
          go_wp2_with (first
            | (go_at_call 46; refine (HAW.out _).mono ?_; rintro en w3 ⟨rfl, hb⟩; have H3 := Lib.hid (below_then HB2.out hb); clear hb)
            | (go_at_call 48; refine (HC2.out _ HB.out).mono ?_; rintro en w2 ⟨rfl, hb⟩; have HB2 := Lib.hid (below_then HB.out hb); clear hb)
            | (go_at_call 48; refine HC1.out.mono ?_; rintro en w1 ⟨rfl, hb⟩; have HB := Lib.hid hb; clear hb))
          go_ret
          exact ⟨rfl, H3.out⟩
      · generalize ckE a = p at *
        obtain ⟨ad1, cap1, rfl, -⟩ := hr1
        obtain ⟨ad2, cap2, rfl, -⟩ := hr2
        obtain ⟨L, hL⟩ : ∃ L, a.length = L := ⟨_, rfl⟩
        obtain ⟨M, hM⟩ : ∃ M, b.length = M := ⟨_, rfl⟩
        rw [hL] at hl1 HC1 ⊢; rw [hM] at hl2 ⊢
        have k1 : decide ((L : Int) > 100) = false := decide_eq_false (by omega)
        have k2 : ¬ (100 : Int) < (L : Int) := by omega
        have k3 : decide ((M : Int) > 100) = false := decide_eq_false (by omega)
        have k4 : ¬ (100 : Int) < (M : Int) := by omega
        have k5 : (p == 0) = false := by simpa using hp
        have k6 : (p != 0) = true := by simpa using hp
        clear fa fb hL hM hp hl1 hl2 hx HC2
        go_enter Try.func15, Try.ntmps15
        go_wp2_with (first
          | (go_at_call 46; refine (HAW.out _).mono ?_; rintro en w3 ⟨rfl, hb⟩; have H3 := Lib.hid (below_then HB.out hb); clear hb)
          | (go_at_call 48; refine HC1.out.mono ?_; rintro en w1 ⟨rfl, hb⟩; have HB := Lib.hid hb; clear hb))
        go_ret
        exact ⟨rfl, H3.out⟩
    · obtain ⟨ad1, cap1, rfl, -⟩ := hr1
      obtain ⟨ad2, cap2, rfl, -⟩ := hr2
      obtain ⟨L, hL⟩ : ∃ L, a.length = L := ⟨_, rfl⟩
      obtain ⟨M, hM⟩ : ∃ M, b.length = M := ⟨_, rfl⟩
      rw [hL] at hl1 ⊢; rw [hM] at hl2 ⊢
      have k1 : decide ((L : Int) > 100) = false := decide_eq_false (by omega)
      have k2 : ¬ (100 : Int) < (L : Int) := by omega
      have k3 : decide ((M : Int) > 100) = true := decide_eq_true (by omega)
      have k4 : (100 : Int) < (M : Int) := by omega
      clear fa fb hL hM hl1 hl2 hx HC1 HC2
      go_enter Try.func15, Try.ntmps15
      go_wp2_with (go_at_call 46; refine (HAW.out _).mono ?_; rintro en w3 ⟨rfl, hb⟩; have H3 := Lib.hid hb; clear hb)
      go_ret
      exact ⟨rfl, H3.out⟩
  · obtain ⟨ad1, cap1, rfl, -⟩ := hr1
    obtain ⟨ad2, cap2, rfl, -⟩ := hr2
    obtain ⟨L, hL⟩ : ∃ L, a.length = L := ⟨_, rfl⟩
    rw [hL] at hl1 ⊢
    have k1 : decide ((L : Int) > 100) = true := decide_eq_true (by omega)
    have k2 : (100 : Int) < (L : Int) := by omega
    clear fa fb hL hl1 hx HC1 HC2
    go_enter Try.func15, Try.ntmps15
    go_wp2_with (go_at_call 46; refine (HAW.out _).mono ?_; rintro en w3 ⟨rfl, hb⟩; have H3 := Lib.hid hb; clear hb)
    go_ret
    exact ⟨rfl, H3.out⟩
end Go.Proofs.Ytegponbmelgngaa
