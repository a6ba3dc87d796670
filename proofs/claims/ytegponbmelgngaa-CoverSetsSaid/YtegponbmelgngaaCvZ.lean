/-
  The walks of the reference's Normal, Intersect and Subtract, as far as merging.
-/
import Derived.Test.YtegponbmelgngaaCvY
namespace Go.Proofs.Ytegponbmelgngaa
open Go.RowKit
set_option linter.unusedSimpArgs false
set_option linter.unusedVariables false
set_option maxHeartbeats 4000000
set_option maxRecDepth 100000

theorem gap_len : ∀ {l : List (Nat × Nat)} {N : Nat}, l.Pairwise (fun x y => x.2 < y.1) → (∀ x ∈ l, x.1 < x.2) → (∀ x ∈ l, x.2 ≤ N) → ∀ A, (∀ x ∈ l, A ≤ x.1) → A ≤ N → l.length + A ≤ N
  | [], N, _, _, _, A, _, h => by simpa using h
  | x :: r, N, ha, hn, hb, A, hA, h => by
    obtain ⟨h1, h2⟩ := List.pairwise_cons.1 ha
    have := gap_len (l := r) (N := N) h2 (fun y hy => hn y (by simp [hy])) (fun y hy => hb y (by simp [hy])) x.2 (fun y hy => Nat.le_of_lt (h1 y hy)) (hb x (by simp))
    have := hA x (by simp)
    have := hn x (by simp)
    simp only [List.length_cons]
    omega
theorem sep_len {S : Nat → Bool} {l : List (Nat × Nat)} {N : Nat} (h : CM.Sep S l) (hh : ∀ x ∈ l, x.2 ≤ N) : l.length ≤ N :=
  gap_len h.asc h.ne hh 0 (fun _ _ => Nat.zero_le _) (Nat.zero_le _)
theorem rinter_any (HM : MergedC) (a b : List PP) (v1 v2 : Value) (w : World) (ha : a.length ≤ 60) (hb : b.length ≤ 60) (fa : FitL a) (fb : FitL b) (hr1 : Rd w v1 a) (hr2 : Rd w v2 b) :
    Calls Try.prog 30 #[v1, v2] w fun e w' => ∃ v B, e = .returned v ∧ CM.Nrm (fun y => (mem a y && mem b y)) B ∧ Rd w' v (B.map pfx) ∧ Below w.heap.size w w' := by
  have H1 := Lib.hid (spans_any HM a v1 w (big60 ha) fa hr1)
  have H2 : Hid (∀ W, Below w.heap.size w W → Calls Try.prog 63 #[v2] W fun e w' => ∃ v' O, e = .returned v' ∧ CM.Sep (mem b) O ∧ (∀ x ∈ O, x.2 ≤ 4294967296) ∧ O.length ≤ b.length ∧ RdQ w' v' O ∧ Below W.heap.size W w') := fun W hW => spans_any HM b v2 W (big60 hb) fb (hr2.below hW)
  have HMM := Lib.hid HM
  clear hr1 hr2 fa fb HM
  go_enter Try.func30, Try.ntmps30
  go_wp2_with fail
  go_at_call 63
  refine H1.out.mono ?_
  rintro e w1 ⟨u1, O1, rfl, s1, h1, l1, r1, hb1⟩
  have D1 := Lib.hid hb1
  have K1 := Lib.hid (And.intro s1 (And.intro h1 r1))
  clear s1 h1 r1 hb1
  go_wp2_with fail
  go_at_call 63
  refine (H2.out _ D1.out).mono ?_
  rintro e w2 ⟨u2, O2, rfl, s2, h2, l2, r2, hb2⟩
  have HB := Lib.hid (both_any HMM.out (mem a) (mem b) O1 O2 u1 u2 w2 K1.out.1 s2 K1.out.2.1 (by omega) (by omega) (K1.out.2.2.below hb2) r2)
  have D2 := Lib.hid (below_then D1.out hb2)
  clear s2 h2 r2 hb2
  go_wp2_with fail
  go_at_call 69
  refine HB.out.mono ?_
  rintro e w3 ⟨u3, O3, rfl, s3, h3, r3, hb3⟩
  have HP := Lib.hid (rpref_any _ O3 u3 w3 s3 h3 (sep_len s3 h3) r3)
  have D3 := Lib.hid (below_then D2.out hb3)
  clear s3 h3 r3 hb3
  go_wp2_with fail
  go_at_call 64
  refine HP.out.mono ?_
  rintro e w4 ⟨u4, B, rfl, hN, hr, hb4⟩
  have K := Lib.hid (And.intro hN (And.intro hr (below_then D3.out hb4)))
  clear hN hr hb4
  go_wp2_with fail
  go_ret
  exact ⟨_, B, rfl, K.out.1, K.out.2.1, K.out.2.2⟩
theorem rsubt_any (HM : MergedC) (a b : List PP) (v1 v2 : Value) (w : World) (ha : a.length ≤ 60) (hb : b.length ≤ 60) (fa : FitL a) (fb : FitL b) (hr1 : Rd w v1 a) (hr2 : Rd w v2 b) :
    Calls Try.prog 32 #[v1, v2] w fun e w' => ∃ v B, e = .returned v ∧ CM.Nrm (fun y => (mem a y && !mem b y)) B ∧ Rd w' v (B.map pfx) ∧ Below w.heap.size w w' := by
  have H1 := Lib.hid (spans_any HM a v1 w (big60 ha) fa hr1)
  have H2 : Hid (∀ W, Below w.heap.size w W → Calls Try.prog 63 #[v2] W fun e w' => ∃ v' O, e = .returned v' ∧ CM.Sep (mem b) O ∧ (∀ x ∈ O, x.2 ≤ 4294967296) ∧ O.length ≤ b.length ∧ RdQ w' v' O ∧ Below W.heap.size W w') := fun W hW => spans_any HM b v2 W (big60 hb) fb (hr2.below hW)
  have HMM := Lib.hid HM
  have ML := Lib.hid (mem_lt (l := a) (fun p hp => (fa p hp).1))
  clear hr1 hr2 fa fb HM
  go_enter Try.func32, Try.ntmps32
  go_wp2_with fail
  go_at_call 63
  refine H1.out.mono ?_
  rintro e w1 ⟨u1, O1, rfl, s1, h1, l1, r1, hb1⟩
  have D1 := Lib.hid hb1
  have K1 := Lib.hid (And.intro s1 (And.intro h1 r1))
  clear s1 h1 r1 hb1
  go_wp2_with fail
  go_at_call 63
  refine (H2.out _ D1.out).mono ?_
  rintro e w2 ⟨u2, O2, rfl, s2, h2, l2, r2, hb2⟩
  have HO := Lib.hid (outside_any (mem b) O2 u2 w2 s2 h2 (by omega) r2)
  have D2 := Lib.hid (below_then D1.out hb2)
  have K2 := Lib.hid (K1.out.2.2.below hb2)
  clear s2 h2 r2 hb2
  go_wp2_with fail
  go_at_call 71
  refine HO.out.mono ?_
  rintro e w3 ⟨u3, O3, rfl, s3, h3, l3, r3, hb3⟩
  have HB := Lib.hid (both_any HMM.out (mem a) (fun y => decide (y < 4294967296) && !mem b y) O1 O3 u1 u3 w3 K1.out.1 s3 K1.out.2.1 (by omega) (by omega) (K2.out.below hb3) r3)
  have D3 := Lib.hid (below_then D2.out hb3)
  clear s3 h3 r3 hb3
  go_wp2_with fail
  go_at_call 69
  refine HB.out.mono ?_
  rintro e w4 ⟨u4, O4, rfl, s4, h4, r4, hb4⟩
  have e : (fun y => mem a y && (decide (y < 4294967296) && !mem b y)) = fun y => (mem a y && !mem b y) := funext fun y => by
    cases hm : mem a y
    · rfl
    · have := ML.out y hm; simp [this]
  rw [e] at s4
  clear e
  have HP := Lib.hid (rpref_any _ O4 u4 w4 s4 h4 (sep_len s4 h4) r4)
  have D4 := Lib.hid (below_then D3.out hb4)
  clear s4 h4 r4 hb4
  go_wp2_with fail
  go_at_call 64
  refine HP.out.mono ?_
  rintro e w5 ⟨u5, B, rfl, hN, hr, hb5⟩
  have K := Lib.hid (And.intro hN (And.intro hr (below_then D4.out hb5)))
  clear hN hr hb5
  go_wp2_with fail
  go_ret
  exact ⟨_, B, rfl, K.out.1, K.out.2.1, K.out.2.2⟩
theorem rnorm_any (HM : MergedC) (a : List PP) (v1 : Value) (w : World) (ha : Big a) (fa : FitL a) (hr1 : Rd w v1 a) :
    Calls Try.prog 22 #[v1] w fun e w' => ∃ v B, e = .returned v ∧ CM.Nrm (mem a) B ∧ Rd w' v (B.map pfx) ∧ Below w.heap.size w w' := by
  have H1 := Lib.hid (spans_any HM a v1 w ha fa hr1)
  unfold Big at ha
  clear hr1 fa HM
  go_enter Try.func22, Try.ntmps22
  go_wp2_with fail
  go_at_call 63
  refine H1.out.mono ?_
  rintro e w1 ⟨u1, O1, rfl, s1, h1, l1, r1, hb1⟩
  have D1 := Lib.hid hb1
  have HP := Lib.hid (rpref_any _ O1 u1 w1 s1 h1 (by omega) r1)
  clear s1 h1 r1 hb1
  go_wp2_with fail
  go_at_call 64
  refine HP.out.mono ?_
  rintro e w2 ⟨u2, B, rfl, hN, hr, hb2⟩
  have K := Lib.hid (And.intro hN (And.intro hr (below_then D1.out hb2)))
  clear hN hr hb2
  go_wp2_with fail
  go_ret
  exact ⟨_, B, rfl, K.out.1, K.out.2.1, K.out.2.2⟩
end Go.Proofs.Ytegponbmelgngaa
