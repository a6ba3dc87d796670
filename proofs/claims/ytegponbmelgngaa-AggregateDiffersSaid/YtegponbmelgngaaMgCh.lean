/-
  The walk of the reference's spans, as far as merging.
  The walks of the reference's Normal, Intersect and Subtract, as far as merging.
  The walk of the reference's merging.
-/
import Derived.Test.YtegponbmelgngaaMgCg
section
namespace Go.Proofs.Ytegponbmelgngaa
open Go.RowKit
set_option linter.unusedSimpArgs false
set_option linter.unusedVariables false
set_option maxHeartbeats 4000000
set_option maxRecDepth 100000

theorem con_not {p : PP} (h : V p = false) (y : Nat) : con p.1 p.2 y = false := by
  refine Bool.eq_false_iff.2 fun hc => ?_
  have := (mem_iff [p] y).1 (by unfold mem; simp [hc])
  obtain ⟨q, hq, hv, _⟩ := this
  rw [List.mem_singleton] at hq; subst hq
  rw [h] at hv; cases hv
theorem mem_snocY (l : List PP) (p : PP) (y : Nat) : mem (l ++ [p]) y = (mem l y || con p.1 p.2 y) := by unfold mem; rw [List.any_append]; simp
/-- what spans has gathered -/
structure Sps (l : List PP) (k : Nat) (O : List (Nat × Nat)) : Prop where
  set : ∀ z, ivs O z = mem (l.take k) z
  hi : ∀ y ∈ O, y.2 ≤ 4294967296
  cnt : O.length ≤ k
theorem sps_start (l : List PP) : Sps l 0 [] := ⟨fun z => by simp [ivs, mem], fun y hy => (by cases hy), Nat.le_refl _⟩
theorem sps_skip {l : List PP} {k : Nat} {p : PP} {O : List (Nat × Nat)} (h : Sps l k O) (hp : l[k]? = some p) (hv : V p = false) : Sps l (k + 1) O :=
  ⟨fun z => by rw [h.set z, take_snocP hp, mem_snocY, con_not hv]; simp, h.hi, by have := h.cnt; omega⟩
theorem sps_more {l : List PP} {k : Nat} {p : PP} {O : List (Nat × Nat)} (h : Sps l k O) (hp : l[k]? = some p) (hv : V p = true) (hlt : p.1 < 4294967296) : Sps l (k + 1) (O ++ [(p.1, p.1 + 2 ^ (32 - p.2.toNat))]) :=
  ⟨fun z => by
    rw [ivs_append, ivs_one, h.set z, take_snocP hp, mem_snocY]
    congr 1
    rw [Bool.eq_iff_iff, con_in hv]
    simp only [Bool.and_eq_true, decide_eq_true_iff],
   fun u hu => by
    rcases List.mem_append.1 hu with hu | hu
    · exact h.hi u hu
    · rw [List.mem_singleton] at hu; subst hu
      exact block_top hlt hv,
   by have := h.cnt; simp; omega⟩
theorem spans_any (HM : MergedC) (l : List PP) (v : Value) (w : World) (hl : Big l) (hf : FitL l) (hr : Rd w v l) :
    Calls Try.prog 63 #[v] w fun e w' => ∃ v' O, e = .returned v' ∧ CM.Sep (mem l) O ∧ (∀ x ∈ O, x.2 ≤ 4294967296) ∧ O.length ≤ l.length ∧ RdQ w' v' O ∧ Below w.heap.size w w' := by
  obtain ⟨i0, hi, hz0, hz1, hz2⟩ := infoP_parts info74
  unfold Big at hl
  obtain ⟨ad, cap, rfl, hc⟩ := hr
  have HC := Lib.hid hc
  have HF := Lib.hid hf
  have HMM := Lib.hid HM
  clear hc hf HM
  go_enter Try.func63, Try.ntmps63
  go_wp2
  go_loopg [8, 3] l.length (fun g s8 s3 wr => ∃ (k : Nat) (O : List (Nat × Nat)) (v3 : Value), k ≤ l.length ∧ l.length - k ≤ g ∧ s8 = .int .i64 k ∧ v3 = s3 ∧ Hid (Below w.heap.size w wr ∧ wr.ownsRow w.heap.size 74 2 v3 O.length (flatQ O) ∧ Sps l k O))
  case atStart => exact ⟨0, [], _, by omega, by omega, rfl, rfl, Below.refl _ _, World.ownsRow_nil _ _ _ _, sps_start _⟩
  case round =>
    obtain ⟨k, O, v3, hk, hg, rfl, rfl, HB⟩ := hrel
    by_cases hlt : k < l.length
    · obtain ⟨x, hx⟩ : ∃ x, l[k]? = some x := ⟨_, List.getElem?_eq_getElem hlt⟩
      obtain ⟨blk', off', rfl, hblk, hc0, hc1⟩ := HC.out k x hx
      have f0 := carryB HB.out.1 hblk hc0
      have f1 := carryB HB.out.1 hblk hc1
      have HX := Lib.hid hx
      have hm := List.mem_of_getElem? hx
      have hfx := HF.out x hm
      have hws := HB.out.1.size
      have hcn := HB.out.2.2.cnt
      obtain ⟨adv, capv, hvf⟩ := rdQ_slice (rdQ_own HB.out.2.1)
      subst hvf
      obtain ⟨a, n⟩ := x
      have HV : Hid (∀ W, Calls Try.prog 39 #[.agg #[.int .u32 (a : Int), .int .i64 n]] W fun e w' => e = .returned (.bool (V (a, n))) ∧ Below W.heap.size W w') := fun W => rvalid_any a hfx.1 n hfx.2 W
      dsimp only at f0 f1 hfx
      have R0 := Lib.hid HB.out.2.1
      have D0 := Lib.hid HB.out.1
      have SP := Lib.hid HB.out.2.2
      clear hc0 hc1 hx hm HB
      cases hv : V (a, n)
      · have S1 := Lib.hid (sps_skip SP.out HX.out hv)
        rw [hv] at HV
        clear hv
        go_wp2_with fail
        go_at_call 39
        refine (HV.out _).mono ?_
        rintro e w5 ⟨rfl, hb⟩
        have D5 := Lib.hid (below_then (D0.out.alloc hws (.cells #[.int .u32 (a : Int), .int .i64 n] 28)) (hb))
        have R5 := Lib.hid (ownP_below (ownP_below R0.out (below_alloc wr (.cells #[.int .u32 (a : Int), .int .i64 n] 28))) hb)
        clear hb
        go_wp2_with fail
        go_roundg (l.length - (k + 1))
        case measure => omega
        case rel => exact ⟨k + 1, O, _, by omega, Nat.le_refl _, by rw [Int.natCast_add]; rfl, rfl, D5.out, R5.out, S1.out⟩
      · have S1 := Lib.hid (sps_more SP.out HX.out hv hfx.1)
        have hvi := (V_iff _).1 hv
        have hv0 : 0 ≤ n := hvi.1
        have hv1 : n ≤ 32 := hvi.2.1
        have htop : a + 2 ^ (32 - n.toNat) ≤ 4294967296 := block_top hfx.1 hv
        rw [hv] at HV
        clear hv hvi
        obtain ⟨m, rfl⟩ := Int.eq_ofNat_of_zero_le hv0
        rw [Int.toNat_natCast] at htop
        dsimp only at S1
        rw [Int.toNat_natCast] at S1
        obtain ⟨Q, hQ⟩ : ∃ Q, Q = 2 ^ (32 - m) := ⟨_, rfl⟩
        have hQ2 : ((2 : Int) ^ (32 - m)) = (Q : Int) := by rw [hQ]; simp
        rw [← hQ] at htop S1
        have hQw : IntKind.u64.wrap (Q : Int) = (Q : Int) := IntWalk.u64_in _ (by constructor <;> omega)
        have hcw : IntKind.u64.wrap ((a : Int) + (Q : Int)) = (a : Int) + (Q : Int) := IntWalk.u64_in _ (by constructor <;> omega)
        have haw : IntKind.u64.wrap (a : Int) = (a : Int) := IntWalk.u64_in _ (by constructor <;> omega)
        have wt2 : IntKind.i64.wrap (32 - (m : Int)) = 32 - (m : Int) := IntWalk.i64_in _ (by constructor <;> omega)
        clear hQ
        go_wp2_with fail
        go_at_call 39
        refine (HV.out _).mono ?_
        rintro e w5 ⟨rfl, hb⟩
        have D5 := Lib.hid (below_then (D0.out.alloc hws (.cells #[.int .u32 (a : Int), .int .i64 (m : Int)] 28)) (hb))
        have R5 := Lib.hid (ownP_below (ownP_below R0.out (below_alloc wr (.cells #[.int .u32 (a : Int), .int .i64 (m : Int)] 28))) hb)
        obtain ⟨hc5, hf5⟩ := bcell hb
        have p0 : w5.cell? ⟨wr.heap.size, 0, none⟩ = some (.int .u32 (a : Int)) := by rw [hc5 _ _ (by simp)]; simp
        have p1 : w5.cell? ⟨wr.heap.size, 1, none⟩ = some (.int .i64 (m : Int)) := by rw [hc5 _ _ (by simp)]; simp
        have p0a := fun o => carry (below_alloc w5 o) p0
        have p1a := fun o => carry (below_alloc w5 o) p1
        have h5s := D5.out.size
        clear hb hc5 hf5
        go_wp2_with fail
        go_region_law (first | (refine step_append_lies _ rfl (.tmp 14) (.tmp 27) 71 rfl w.heap.size 74 i0 (.agg #[.int .u64 0, .int .u64 0]) 2 16 Try.underlying71 hi hz0 hz1 hz2 rfl (by decide) (.slice adv O.length capv) O.length (flatQ O) rfl (ownP_below R5.out (below_alloc w5 (.cells #[.int .u64 (a : Int), .int .u64 ((a + Q : Nat) : Int)] 74)).drew) ⟨w5.heap.size, 0, none⟩ 1 1 [.int .u64 (a : Int), .int .u64 ((a + Q : Nat) : Int)] rfl rfl (cellP_two_new _ _ _ _ (by simp)) (one_twoQ _ _) (by decide) (by unfold maxLen; omega) (by omega) (by simp; omega) (w5.heap.size + 1) (by simp) ?_; intro g2 cp2 w9 hown9 hgrow9 hat9 hlt9; have G := Lib.hid (And.intro hown9 (And.intro hgrow9 hat9)); clear hown9 hgrow9 hat9))
        all_goals (
          go_wp2
          go_roundg (l.length - (k + 1))
          case measure => omega
          case rel =>
            obtain ⟨r1, r2, r3⟩ := G.out
            refine ⟨k + 1, O ++ [(a, a + Q)], _, by omega, Nat.le_refl _, by rw [Int.natCast_add]; rfl, rfl, ?_, ?_, S1.out⟩
            · exact Below.grown (D5.out.trans ((below_alloc w5 (.cells #[.int .u64 (a : Int), .int .u64 ((a + Q : Nat) : Int)] 74)).drew.mono h5s)) r2 (by simp; omega) (fun j hj => (ownP_lt R5.out hj).1)
            · rw [flatQ_snoc, List.length_append]; exact r1)
    · obtain rfl : k = l.length := by omega
      have hcn := HB.out.2.2.cnt
      have HFi : Hid (Calls Try.prog 104 #[v3] wr fun e w' => ∃ v' O, e = .returned v' ∧ CM.Sep (mem l) O ∧ (∀ x ∈ O, x.2 ≤ 4294967296) ∧ O.length ≤ l.length ∧ RdQ w' v' O ∧ Below wr.heap.size wr w') := by
        refine (HMM.out O v3 wr HB.out.2.2.hi (by omega) (rdQ_own HB.out.2.1)).mono ?_
        rintro e w' ⟨v', O', rfl, h1, h2, h3, h4, h5⟩
        refine ⟨v', O', rfl, ?_, h2, by omega, h4, h5⟩
        have e : ivs O = mem l := funext fun y => by rw [HB.out.2.2.set y, List.take_length]
        rwa [e] at h1
      have D0 := Lib.hid HB.out.1
      clear HB
      go_wp2_with (go_at_call 104; refine HFi.out.mono ?_; rintro e w1 ⟨v', O', rfl, h1, h2, h3, h4, h5⟩; have K := Lib.hid (And.intro h1 (And.intro h2 (And.intro h3 (And.intro h4 (below_then D0.out h5))))); clear h1 h2 h3 h4 h5)
      go_ret
      exact ⟨_, O', rfl, K.out.1, K.out.2.1, K.out.2.2.1, K.out.2.2.2.1, K.out.2.2.2.2⟩
end Go.Proofs.Ytegponbmelgngaa
end

section
namespace Go.Proofs.Ytegponbmelgngaa
open Go.RowKit
set_option linter.unusedSimpArgs false
set_option linter.unusedVariables false
set_option maxHeartbeats 4000000
set_option maxRecDepth 100000

theorem gap_len : ∀ {l : List (Nat × Nat)} {N : Nat}, l.Pairwise (fun x y => x.2 < y.1) → (∀ x ∈ l, x.1 < x.2) → (∀ x ∈ l, x.2 ≤ N) → ∀ A, (∀ x ∈ l, A ≤ x.1) → A ≤ N → l.length + A ≤ N
  | [], N, _, _, _, A, _, h => by simpa using h
  | x :: r, N, ha, hn, hb, A, hA, h => by
    obtain ⟨h1, h2⟩ := List.pairwise_cons.1 ha
    have := gap_len (l := r) (N := N) h2 (fun y hy => hn y (by simp [hy])) (fun y hy => hb y (by simp [hy])) x.2 (fun y hy => Nat.le_of_lt (h1 y hy)) (hb x (by simp))
    have := hA x (by simp)
    have := hn x (by simp)
    simp only [List.length_cons]
    omega
theorem sep_len {S : Nat → Bool} {l : List (Nat × Nat)} {N : Nat} (h : CM.Sep S l) (hh : ∀ x ∈ l, x.2 ≤ N) : l.length ≤ N :=
  gap_len h.asc h.ne hh 0 (fun _ _ => Nat.zero_le _) (Nat.zero_le _)
theorem rinter_any (HM : MergedC) (a b : List PP) (v1 v2 : Value) (w : World) (ha : a.length ≤ 60) (hb : b.length ≤ 60) (fa : FitL a) (fb : FitL b) (hr1 : Rd w v1 a) (hr2 : Rd w v2 b) :
    Calls Try.prog 30 #[v1, v2] w fun e w' => ∃ v B, e = .returned v ∧ CM.Nrm (fun y => (mem a y && mem b y)) B ∧ Rd w' v (B.map pfx) ∧ Below w.heap.size w w' := by
  have H1 := Lib.hid (spans_any HM a v1 w (big60 ha) fa hr1)
  have H2 : Hid (∀ W, Below w.heap.size w W → Calls Try.prog 63 #[v2] W fun e w' => ∃ v' O, e = .returned v' ∧ CM.Sep (mem b) O ∧ (∀ x ∈ O, x.2 ≤ 4294967296) ∧ O.length ≤ b.length ∧ RdQ w' v' O ∧ Below W.heap.size W w') := fun W hW => spans_any HM b v2 W (big60 hb) fb (hr2.below hW)
  have HMM := Lib.hid HM
  clear hr1 hr2 fa fb HM
  go_enter Try.func30, Try.ntmps30
  go_wp2_with fail
  go_at_call 63
  refine H1.out.mono ?_
  rintro e w1 ⟨u1, O1, rfl, s1, h1, l1, r1, hb1⟩
  have D1 := Lib.hid hb1
  have K1 := Lib.hid (And.intro s1 (And.intro h1 r1))
  clear s1 h1 r1 hb1
  go_wp2_with fail
  go_at_call 63
  refine (H2.out _ D1.out).mono ?_
  rintro e w2 ⟨u2, O2, rfl, s2, h2, l2, r2, hb2⟩
  have HB := Lib.hid (both_any HMM.out (mem a) (mem b) O1 O2 u1 u2 w2 K1.out.1 s2 K1.out.2.1 (by omega) (by omega) (K1.out.2.2.below hb2) r2)
  have D2 := Lib.hid (below_then D1.out hb2)
  clear s2 h2 r2 hb2
  go_wp2_with fail
  go_at_call 69
  refine HB.out.mono ?_
  rintro e w3 ⟨u3, O3, rfl, s3, h3, r3, hb3⟩
  have HP := Lib.hid (rpref_any _ O3 u3 w3 s3 h3 (sep_len s3 h3) r3)
  have D3 := Lib.hid (below_then D2.out hb3)
  clear s3 h3 r3 hb3
  go_wp2_with fail
  go_at_call 64
  refine HP.out.mono ?_
  rintro e w4 ⟨u4, B, rfl, hN, hr, hb4⟩
  have K := Lib.hid (And.intro hN (And.intro hr (below_then D3.out hb4)))
  clear hN hr hb4
  go_wp2_with fail
  go_ret
  exact ⟨_, B, rfl, K.out.1, K.out.2.1, K.out.2.2⟩
theorem rsubt_any (HM : MergedC) (a b : List PP) (v1 v2 : Value) (w : World) (ha : a.length ≤ 60) (hb : b.length ≤ 60) (fa : FitL a) (fb : FitL b) (hr1 : Rd w v1 a) (hr2 : Rd w v2 b) :
    Calls Try.prog 32 #[v1, v2] w fun e w' => ∃ v B, e = .returned v ∧ CM.Nrm (fun y => (mem a y && !mem b y)) B ∧ Rd w' v (B.map pfx) ∧ Below w.heap.size w w' := by
  have H1 := Lib.hid (spans_any HM a v1 w (big60 ha) fa hr1)
  have H2 : Hid (∀ W, Below w.heap.size w W → Calls Try.prog 63 #[v2] W fun e w' => ∃ v' O, e = .returned v' ∧ CM.Sep (mem b) O ∧ (∀ x ∈ O, x.2 ≤ 4294967296) ∧ O.length ≤ b.length ∧ RdQ w' v' O ∧ Below W.heap.size W w') := fun W hW => spans_any HM b v2 W (big60 hb) fb (hr2.below hW)
  have HMM := Lib.hid HM
  have ML := Lib.hid (mem_lt (l := a) (fun p hp => (fa p hp).1))
  clear hr1 hr2 fa fb HM
  go_enter Try.func32, Try.ntmps32
  go_wp2_with fail
  go_at_call 63
  refine H1.out.mono ?_
  rintro e w1 ⟨u1, O1, rfl, s1, h1, l1, r1, hb1⟩
  have D1 := Lib.hid hb1
  have K1 := Lib.hid (And.intro s1 (And.intro h1 r1))
  clear s1 h1 r1 hb1
  go_wp2_with fail
  go_at_call 63
  refine (H2.out _ D1.out).mono ?_
  rintro e w2 ⟨u2, O2, rfl, s2, h2, l2, r2, hb2⟩
  have HO := Lib.hid (outside_any (mem b) O2 u2 w2 s2 h2 (by omega) r2)
  have D2 := Lib.hid (below_then D1.out hb2)
  have K2 := Lib.hid (K1.out.2.2.below hb2)
  clear s2 h2 r2 hb2
  go_wp2_with fail
  go_at_call 71
  refine HO.out.mono ?_
  rintro e w3 ⟨u3, O3, rfl, s3, h3, l3, r3, hb3⟩
  have HB := Lib.hid (both_any HMM.out (mem a) (fun y => decide (y < 4294967296) && !mem b y) O1 O3 u1 u3 w3 K1.out.1 s3 K1.out.2.1 (by omega) (by omega) (K2.out.below hb3) r3)
  have D3 := Lib.hid (below_then D2.out hb3)
  clear s3 h3 r3 hb3
  go_wp2_with fail
  go_at_call 69
  refine HB.out.mono ?_
  rintro e w4 ⟨u4, O4, rfl, s4, h4, r4, hb4⟩
  have e : (fun y => mem a y && (decide (y < 4294967296) && !mem b y)) = fun y => (mem a y && !mem b y) := funext fun y => by
    cases hm : mem a y
    · rfl
    · have := ML.out y hm; simp [this]
  rw [e] at s4
  clear e
  have HP := Lib.hid (rpref_any _ O4 u4 w4 s4 h4 (sep_len s4 h4) r4)
  have D4 := Lib.hid (below_then D3.out hb4)
  clear s4 h4 r4 hb4
  go_wp2_with fail
  go_at_call 64
  refine HP.out.mono ?_
  rintro e w5 ⟨u5, B, rfl, hN, hr, hb5⟩
  have K := Lib.hid (And.intro hN (And.intro hr (below_then D4.out hb5)))
  clear hN hr hb5
  go_wp2_with fail
  go_ret
  exact ⟨_, B, rfl, K.out.1, K.out.2.1, K.out.2.2⟩
theorem rnorm_any (HM : MergedC) (a : List PP) (v1 : Value) (w : World) (ha : Big a) (fa : FitL a) (hr1 : Rd w v1 a) :
    Calls Try.prog 22 #[v1] w fun e w' => ∃ v B, e = .returned v ∧ CM.Nrm (mem a) B ∧ Rd w' v (B.map pfx) ∧ Below w.heap.size w w' := by
  have H1 := Lib.hid (spans_any HM a v1 w ha fa hr1)
  unfold Big at ha
  clear hr1 fa HM
  go_enter Try.func22, Try.ntmps22
  go_wp2_with fail
  go_at_call 63
  refine H1.out.mono ?_
  rintro e w1 ⟨u1, O1, rfl, s1, h1, l1, r1, hb1⟩
  have D1 := Lib.hid hb1
  have HP := Lib.hid (rpref_any _ O1 u1 w1 s1 h1 (by omega) r1)
  clear s1 h1 r1 hb1
  go_wp2_with fail
  go_at_call 64
  refine HP.out.mono ?_
  rintro e w2 ⟨u2, B, rfl, hN, hr, hb2⟩
  have K := Lib.hid (And.intro hN (And.intro hr (below_then D1.out hb2)))
  clear hN hr hb2
  go_wp2_with fail
  go_ret
  exact ⟨_, B, rfl, K.out.1, K.out.2.1, K.out.2.2⟩
end Go.Proofs.Ytegponbmelgngaa
end

section
namespace Go.Proofs.Ytegponbmelgngaa
open Go.RowKit
set_option linter.unusedSimpArgs false
set_option linter.unusedVariables false
set_option maxHeartbeats 4000000
set_option maxRecDepth 100000

/-- the list without one of its own, up to i -/
def wo (R : List (Nat × Nat)) (b i : Nat) : List (Nat × Nat) := R.take (min i b) ++ (R.take i).drop (b + 1)
theorem wo_start (R : List (Nat × Nat)) (b : Nat) : wo R b 0 = [] := by unfold wo; simp
theorem wo_skip (R : List (Nat × Nat)) (b : Nat) : wo R b (b + 1) = wo R b b := by
  unfold wo
  rw [show min (b + 1) b = min b b by omega, List.drop_eq_nil_of_le (by rw [List.length_take]; omega), List.drop_eq_nil_of_le (by rw [List.length_take]; omega)]
theorem wo_more {R : List (Nat × Nat)} {b i : Nat} {x : Nat × Nat} (hx : R[i]? = some x) (hne : i ≠ b) : wo R b (i + 1) = wo R b i ++ [x] := by
  have hi := (List.getElem?_eq_some_iff.1 hx).1
  unfold wo
  rcases Nat.lt_or_gt_of_ne hne with h | h
  · rw [show min (i + 1) b = i + 1 by omega, show min i b = i by omega, take_snocW hx, List.drop_eq_nil_of_le (by simp; omega), List.drop_eq_nil_of_le (by simp; omega)]
    simp
  · rw [show min (i + 1) b = b by omega, show min i b = b by omega, take_snocW hx, List.drop_append_of_le_length (by rw [List.length_take]; omega), List.append_assoc]
theorem wo_end {R : List (Nat × Nat)} {b : Nat} (h : b < R.length) : wo R b R.length = R.take b ++ R.drop (b + 1) := by
  unfold wo
  rw [show min R.length b = b by omega, List.take_length]
theorem wo_len (R : List (Nat × Nat)) (b i : Nat) : (wo R b i).length ≤ i := by
  unfold wo; simp; omega
theorem wo_all {R : List (Nat × Nat)} {b : Nat} (h : b < R.length) : (R.take b ++ R.drop (b + 1)).length + 1 = R.length := by simp; omega
theorem least_lt {l : List (Nat × Nat)} {k b : Nat} (h : Least l k b) : b < l.length := by
  obtain ⟨s, hs, _⟩ := h; exact (List.getElem?_eq_some_iff.1 hs).1
/-- the slice does not lie in the row of the other -/
def Apart (v v3 : Value) : Prop := ∀ b off n c, v = .slice (some ⟨b, off, none⟩) n c → v3.ownBlock ≠ some b
theorem mstep_nil (s : Nat × Nat) : CM.mstep [] s = if s.1 < s.2 then [s] else [] := rfl
theorem mstep_snoc (I : List (Nat × Nat)) (t s : Nat × Nat) : CM.mstep (I ++ [t]) s = if s.1 ≤ t.2 then I ++ [(t.1, max t.2 s.2)] else if s.1 < s.2 then I ++ [t] ++ [s] else I ++ [t] := by
  unfold CM.mstep
  rw [List.getLast?_concat, List.dropLast_concat]
theorem own_apart {w : World} {B e1 k1 n1 : Nat} {v8 v3 : Value} {xs : List Value} (h : w.ownsRow B e1 k1 v8 n1 xs) (hlt : ∀ g, v3.ownBlock = some g → g < B) : v8.ownBlock = none ∨ v8.ownBlock ≠ v3.ownBlock := by
  rcases hb : v8.ownBlock with _ | g
  · exact .inl rfl
  · refine .inr fun e => ?_
    have h1 := (ownP_lt h hb).1
    have h2 := hlt g e.symm
    omega
theorem apart_of {w : World} {B e1 k1 n1 : Nat} {v8 v3 : Value} {xs : List Value} (h : w.ownsRow B e1 k1 v8 n1 xs) (hlt : ∀ g, v3.ownBlock = some g → g < B ∨ w.heap.size ≤ g) : Apart v8 v3 := by
  intro b off n c e hb
  have h0 : v8.ownBlock = some b := by
    rcases h.2 with ⟨rfl, _⟩ | ⟨g, cap, cur, rfl, _⟩
    · cases e
    · cases e; rfl
  have h1 := ownP_lt h h0
  rcases hlt b hb with h2 | h2 <;> omega
theorem flatQ_set (I : List (Nat × Nat)) (a b N : Nat) : (flatQ (I ++ [(a, b)])).set (I.length * 2 + 1) (.int .u64 (N : Int)) = flatQ (I ++ [(a, N)]) := by
  rw [flatQ_snoc, flatQ_snoc, List.set_append_right _ _ (by rw [flatQ_len]; omega), flatQ_len, show I.length * 2 + 1 - I.length * 2 = 1 by omega]; rfl
theorem merged_any : MergedC := by
  intro l v w hhi hl hr
  obtain ⟨i0, hi, hz0, hz1, hz2⟩ := infoP_parts info74
  have hvs := rdQ_slice hr
  have HR := Lib.hid hr
  have HH := Lib.hid hhi
  clear hr hhi
  obtain ⟨ad00, cap00, rfl⟩ := hvs
  go_enter Try.func104, Try.ntmps104
  go_wp2
  go_loopg [0, 3] l.length (fun g s0 s3 wr => ∃ (R O : List (Nat × Nat)) (v0 v3 : Value), v0 = s0 ∧ v3 = s3 ∧ R.length ≤ g ∧ O.length + R.length ≤ l.length ∧ Hid (Below w.heap.size w wr ∧ RdQ wr v0 R ∧ wr.ownsRow w.heap.size 74 2 v3 O.length (flatQ O) ∧ Apart v0 v3 ∧ MInv (ivs l) R O))
  case atStart => exact ⟨l, [], _, _, rfl, rfl, Nat.le_refl _, by simp, Below.refl _ _, HR.out, World.ownsRow_nil _ _ _ _, fun b off n c _ => by simp [Value.ownBlock], MInv.start HH.out⟩
  case round =>
    obtain ⟨R, O, v0, v3, rfl, rfl, hRg, hOR, HB⟩ := hrel
    obtain ⟨ad, cap, hvf⟩ := rdQ_slice HB.out.2.1
    obtain ⟨adv, capv, hvf3⟩ := rdQ_slice (rdQ_own HB.out.2.2.1)
    subst hvf hvf3
    have hws := HB.out.1.size
    by_cases hR0 : 0 < R.length
    · have HC : Hid (∀ k x, R[k]? = some x → ∃ b off, ad = some ⟨b, off, none⟩ ∧ b < wr.heap.size ∧ wr.cell? ⟨b, off + k * 2, none⟩ = some (.int .u64 (x.1 : Int)) ∧ wr.cell? ⟨b, off + k * 2 + 1, none⟩ = some (.int .u64 (x.2 : Int))) := by
        obtain ⟨ad', cap', e, hc⟩ := HB.out.2.1
        cases e; exact hc
      obtain ⟨blk, off, rfl, _, _, _⟩ := HC.out 0 _ (List.getElem?_eq_getElem hR0)
      have HA : Hid (wr.cells? = wr.cells?) := rfl
      have HQ : Hid (∀ k x, R[k]? = some x → blk < wr.heap.size ∧ wr.cell? ⟨blk, off + k * 2, none⟩ = some (.int .u64 (x.1 : Int)) ∧ wr.cell? ⟨blk, off + k * 2 + 1, none⟩ = some (.int .u64 (x.2 : Int))) := fun k x hk => by
        obtain ⟨b, o, e, h⟩ := HC.out k x hk
        cases e; exact h
      go_wp2_with fail
      go_loopg [17, 4] R.length (fun g s17 s4 wi => ∃ (i b : Nat), s17 = .int .i64 i ∧ s4 = .int .i64 b ∧ i ≤ R.length ∧ R.length - i ≤ g ∧ b < R.length ∧ Hid (Least R i b ∧ Below wr.heap.size wr wi))
      case atStart => exact ⟨0, 0, rfl, rfl, by omega, by omega, hR0, least_start hR0, Below.refl _ _⟩
      case round =>
        obtain ⟨i, b, rfl, rfl, hi', hig, hbR, HL⟩ := hrel
        by_cases hiR : i < R.length
        · obtain ⟨x, hx⟩ : ∃ x, R[i]? = some x := ⟨_, List.getElem?_eq_getElem hiR⟩
          obtain ⟨s, hs⟩ : ∃ s, R[b]? = some s := ⟨_, List.getElem?_eq_getElem hbR⟩
          obtain ⟨hbk, c0, c1⟩ := HQ.out i x hx
          obtain ⟨_, d0, d1⟩ := HQ.out b s hs
          have e0 := carry HL.out.2 c0
          have e1 := carry HL.out.2 c1
          have k0 := carry HL.out.2 d0
          have k0a := fun o => carry (below_alloc wr o) k0
          have HX := Lib.hid (And.intro hx hs)
          obtain ⟨xa, xb⟩ := x
          obtain ⟨sa, sb⟩ := s
          dsimp only at e0 e1 k0 k0a
          clear c0 c1 d0 d1 hx hs
          have L0 := Lib.hid HL.out.1
          have B0 := Lib.hid HL.out.2
          clear HL
          have wti : IntKind.i64.wrap (i : Int) = (i : Int) := IntWalk.i64_in _ (by constructor <;> omega)
          have wtb : IntKind.i64.wrap (b : Int) = (b : Int) := IntWalk.i64_in _ (by constructor <;> omega)
          by_cases hlt : xa < sa
          · go_wp2_with fail
            go_quiet (fail)
            go_wp2
            go_roundg (R.length - (i + 1))
            case measure => omega
            case rel => exact ⟨i + 1, i, by rw [Int.natCast_add]; rfl, rfl, by omega, Nat.le_refl _, hiR, least_new L0.out HX.out.1 HX.out.2 hlt, below_then B0.out (below_drewN (below_alloc _ _) _)⟩
          · go_wp2_with fail
            go_quiet (fail)
            go_wp2
            go_roundg (R.length - (i + 1))
            case measure => omega
            case rel => exact ⟨i + 1, b, by rw [Int.natCast_add]; rfl, rfl, by omega, Nat.le_refl _, hbR, least_old L0.out HX.out.1 HX.out.2 hlt, below_then B0.out (below_drewN (below_alloc _ _) _)⟩
        · obtain rfl : i = R.length := by omega
          obtain ⟨s, hs⟩ : ∃ s, R[b]? = some s := ⟨_, List.getElem?_eq_getElem hbR⟩
          have hmin : ∀ r ∈ R, s.1 ≤ r.1 := by
            obtain ⟨s', h1, h2⟩ := HL.out.1
            rw [hs] at h1; cases h1
            rwa [List.take_length] at h2
          have D := Lib.hid (below_then HB.out.1 HL.out.2)
          have OW := Lib.hid (ownP_below HB.out.2.2.1 HL.out.2)
          have MS := Lib.hid (HB.out.2.2.2.2.step hs hmin)
          have HQ2 : Hid (∀ k x, R[k]? = some x → blk < wr.heap.size ∧ wr.cell? ⟨blk, off + k * 2, none⟩ = some (.int .u64 (x.1 : Int)) ∧ wr.cell? ⟨blk, off + k * 2 + 1, none⟩ = some (.int .u64 (x.2 : Int))) := fun k x hk => by
            obtain ⟨h1, h2, h3⟩ := HQ.out k x hk
            exact ⟨Nat.lt_of_lt_of_le h1 HL.out.2.size, carry HL.out.2 h2, carry HL.out.2 h3⟩
          obtain ⟨hbk, d0, d1⟩ := HQ2.out b s hs
          have hwo := D.out.size
          clear HL HB HQ HC HA hmin hs hi'
          obtain ⟨sa, sb⟩ := s
          dsimp only at d0 d1
          go_wp2_with fail
          have hq1 : (wr.alloc (.cells #[.int .u64 (sa : Int), .int .u64 (sb : Int)] 74)).heap.size = wr.heap.size + 1 := by simp
          have GQ : Hid ((wr.alloc (.cells #[.int .u64 (sa : Int), .int .u64 (sb : Int)] 74)).heap[wr.heap.size]? = some (.cells #[.int .u64 (sa : Int), .int .u64 (sb : Int)] 74 (0, 0))) := heap_alloc_new _ _
          have D1 := Lib.hid (below_then D.out (below_alloc wr (.cells #[.int .u64 (sa : Int), .int .u64 (sb : Int)] 74)))
          have OW1 := Lib.hid (ownP_below OW.out (below_alloc wr (.cells #[.int .u64 (sa : Int), .int .u64 (sb : Int)] 74)))
          have OB : Hid (∀ g, (Value.slice adv O.length capv).ownBlock = some g → g < wr.heap.size) := fun g hg => (ownP_lt OW.out hg).2
          have HQ3 : Hid (∀ k x, R[k]? = some x → blk < (wr.alloc (.cells #[.int .u64 (sa : Int), .int .u64 (sb : Int)] 74)).heap.size ∧ (wr.alloc (.cells #[.int .u64 (sa : Int), .int .u64 (sb : Int)] 74)).cell? ⟨blk, off + k * 2, none⟩ = some (.int .u64 (x.1 : Int)) ∧ (wr.alloc (.cells #[.int .u64 (sa : Int), .int .u64 (sb : Int)] 74)).cell? ⟨blk, off + k * 2 + 1, none⟩ = some (.int .u64 (x.2 : Int))) := fun k x hk => by
            obtain ⟨h1, h2, h3⟩ := HQ2.out k x hk
            exact ⟨by omega, carry (below_alloc _ _) h2, carry (below_alloc _ _) h3⟩
          obtain ⟨q, hq⟩ : ∃ q, wr.heap.size = q := ⟨_, rfl⟩
          rw [hq] at GQ OB hq1 hwo ⊢
          generalize wr.alloc (.cells #[.int .u64 (sa : Int), .int .u64 (sb : Int)] 74) = wa at *
          clear hq d0 d1 hbk D OW HQ2
          go_loopg [38, 8] R.length (fun g s38 s8 wj => ∃ (i : Nat) (v8 : Value), s38 = .int .i64 i ∧ v8 = s8 ∧ i ≤ R.length ∧ R.length - i ≤ g ∧ Hid (Below wa.heap.size wa wj ∧ wj.ownsRow wa.heap.size 74 2 v8 (wo R b i).length (flatQ (wo R b i))))
          case atStart => exact ⟨0, _, rfl, rfl, by omega, by omega, Below.refl _ _, by rw [wo_start]; exact World.ownsRow_nil _ _ _ _⟩
          case round =>
            obtain ⟨i, v8, rfl, rfl, hi', hig', HJ⟩ := hrel
            obtain ⟨ad8, cap8, hvf8⟩ := rdQ_slice (rdQ_own HJ.out.2)
            subst hvf8
            have hwl := wo_len R b i
            have hjs := HJ.out.1.size
            by_cases hiR : i < R.length
            · obtain ⟨x, hx⟩ : ∃ x, R[i]? = some x := ⟨_, List.getElem?_eq_getElem hiR⟩
              obtain ⟨hbk, c0, c1⟩ := HQ3.out i x hx
              have e0 := carry HJ.out.1 c0
              have e1 := carry HJ.out.1 c1
              have HX := Lib.hid hx
              obtain ⟨xa, xb⟩ := x
              dsimp only at e0 e1
              have R8 := Lib.hid HJ.out.2
              have J8 := Lib.hid HJ.out.1
              clear c0 c1 hx HJ
              by_cases hib : i = b
              · subst hib
                go_wp2
                go_roundg (R.length - (i + 1))
                case measure => omega
                case rel => exact ⟨i + 1, _, by rw [Int.natCast_add]; rfl, rfl, by omega, Nat.le_refl _, J8.out.alloc hjs _, by rw [wo_skip]; exact ownP_below R8.out (below_alloc _ _)⟩
              · have R9 := Lib.hid (ownP_below R8.out (below_alloc wr (.cells #[.int .u64 (xa : Int), .int .u64 (xb : Int)] 74)))
                go_wp2_with (at_builtin; go_loud (refine wpList_append_lies _ rfl (.tmp 46) (.tmp 48) 71 rfl wa.heap.size 74 i0 (.agg #[.int .u64 0, .int .u64 0]) 2 16 Try.underlying71 hi hz0 hz1 hz2 rfl (by decide) (.slice ad8 (wo R b i).length cap8) (wo R b i).length (flatQ (wo R b i)) rfl (ownP_below R9.out (below_alloc _ _)) ⟨wr.heap.size + 1, 0, none⟩ 1 1 [.int .u64 (xa : Int), .int .u64 (xb : Int)] rfl rfl (cellP_two_new _ _ _ _ (by simp)) (one_twoQ _ _) (by decide) (by unfold maxLen; omega) (by omega) (by simp; omega) (wr.heap.size + 1 + 1) (by simp) ?_; intro g cp w4 hown4 hgrow4 hat4 hlt4; have G := Lib.hid (And.intro hown4 (And.intro hgrow4 hat4)); clear hown4 hgrow4 hat4))
                go_roundg (R.length - (i + 1))
                case measure => omega
                case rel =>
                  obtain ⟨r1, r2, r3⟩ := G.out
                  refine ⟨i + 1, _, by rw [Int.natCast_add]; rfl, rfl, by omega, Nat.le_refl _, ?_, ?_⟩
                  · exact Below.grown ((J8.out.alloc hjs _).alloc (by simp; omega) _) r2 (by simp; omega) (fun j hj => (ownP_lt R8.out hj).1)
                  · rw [wo_more HX.out hib, flatQ_snoc, List.length_append]; exact r1
            · obtain rfl : i = R.length := by omega
              obtain ⟨R', hR'⟩ : ∃ R', R' = wo R b R.length := ⟨_, rfl⟩
              have hRl : R'.length + 1 = R.length := by rw [hR', wo_end hbR]; exact wo_all hbR
              have MS : Hid (MInv (ivs l) R' (CM.mstep O (sa, sb))) := by rw [hR', wo_end hbR]; exact MS.out
              rw [← hR'] at HJ hwl ⊢
              have R8 := Lib.hid HJ.out.2
              have D2 := Lib.hid (below_then D1.out HJ.out.1)
              have OW2 := Lib.hid (ownP_below OW1.out HJ.out.1)
              have GQ2 := (HJ.out.1.block q (by omega)).trans GQ.out
              have b0 : wr.cell? ⟨q, 0, none⟩ = some (.int .u64 (sa : Int)) := by simp [World.cell?, GQ2]
              have b1 : wr.cell? ⟨q, 1, none⟩ = some (.int .u64 (sb : Int)) := by simp [World.cell?, GQ2]
              have h2s := D2.out.size
              clear HJ GQ2 hR' hi' hig' hiR
              by_cases hO : O = []
              · have hms : CM.mstep O (sa, sb) = if sa < sb then O ++ [(sa, sb)] else O := by subst hO; rfl
                have hO0 : O.length = 0 := by rw [hO]; rfl
                have hd : decide ((0 : Int) < (O.length : Int)) = false := decide_eq_false (by omega)
                go_wp2_with fail
                go_quiet (fail)
                have hb8 : Below wr.heap.size wr (wr.drewN nq) := below_drewN (Below.refl _ _) _
                generalize wr.drewN nq = w3 at *
                have OW3 := Lib.hid (ownP_below OW2.out hb8)
                have R83 := Lib.hid (ownP_below R8.out hb8)
                have D3 := Lib.hid (below_then D2.out hb8)
                have b0 := carry hb8 b0
                have b1 := carry hb8 b1
                have h3s := D3.out.size
                have hw3 := hb8.size
                clear hb8
                by_cases hss : sa < sb
                · have MT : Hid (MInv (ivs l) R' (O ++ [(sa, sb)])) := by have := MS.out; rwa [hms, if_pos hss] at this
                  go_wp2_with (at_builtin; go_loud (refine wpList_append_lies _ rfl (.tmp 86) (.tmp 88) 71 rfl w.heap.size 74 i0 (.agg #[.int .u64 0, .int .u64 0]) 2 16 Try.underlying71 hi hz0 hz1 hz2 rfl (by decide) (.slice adv O.length capv) O.length (flatQ O) rfl (ownP_below OW3.out (below_alloc _ _)) ⟨w3.heap.size, 0, none⟩ 1 1 [.int .u64 (sa : Int), .int .u64 (sb : Int)] rfl rfl (cellP_two_new _ _ _ _ (by simp)) (one_twoQ _ _) (by decide) (by unfold maxLen; omega) (by omega) (by simp; omega) (w3.heap.size + 1) (by simp) ?_; intro g cp w4 hown4 hgrow4 hat4 hlt4; have G := Lib.hid (And.intro hown4 (And.intro hgrow4 hat4)); clear hown4 hgrow4 hat4))
                  go_roundg R'.length
                  case measure => omega
                  case rel =>
                    obtain ⟨r1, r2, r3⟩ := G.out
                    refine ⟨R', O ++ [(sa, sb)], _, _, rfl, rfl, Nat.le_refl _, by simp; omega, Below.grown (D3.out.alloc h3s _) r2 (by simp; omega) (fun j hj => (ownP_lt OW3.out hj).1), rdQ_own ((ownP_below R83.out (below_alloc _ _)).kept r2 (own_apart R83.out (fun g hg => by have := OB.out g hg; omega))), by rw [flatQ_snoc, List.length_append]; simp only [hO0] at r1 ⊢; exact r1, ?_, MT.out⟩
                    refine apart_of R83.out (fun g' hg' => ?_)
                    simp [Value.ownBlock] at hg'
                    subst hg'
                    rcases r3 with r3 | r3
                    · have := OB.out _ r3; omega
                    · right; omega
                · have MT : Hid (MInv (ivs l) R' O) := by have := MS.out; rwa [hms, if_neg hss] at this
                  go_wp2
                  go_roundg R'.length
                  case measure => omega
                  case rel => exact ⟨R', O, _, _, rfl, rfl, Nat.le_refl _, by omega, D3.out, rdQ_own R83.out, OW3.out, apart_of R83.out (fun g hg => by have := OB.out g hg; omega), MT.out⟩
              · obtain ⟨I, t, hIt⟩ : ∃ I t, O = I ++ [t] := by
                  rcases List.eq_nil_or_concat O with h | ⟨I, t, h⟩
                  · exact absurd h hO
                  · exact ⟨I, t, by rw [h, List.concat_eq_append]⟩
                have hOm : O.length = I.length + 1 := by rw [hIt]; simp
                have hlast : O[I.length]? = some t := by rw [hIt]; simp
                obtain ⟨ta, tb⟩ := t
                have hmst := mstep_snoc I (ta, tb) (sa, sb)
                rw [← hIt] at hmst
                dsimp only at hmst
                obtain ⟨m, hm⟩ : ∃ m, m = I.length := ⟨_, rfl⟩
                rw [← hm] at hOm hlast
                obtain ⟨go, capo, hvo⟩ : ∃ go capo, (Value.slice adv O.length capv) = .slice (some ⟨go, 0, none⟩) O.length capo := by
                  rcases OW2.out.2 with ⟨_, hn⟩ | ⟨g, cap', cur, e, _⟩
                  · omega
                  · exact ⟨g, cap', e⟩
                rw [hvo] at OW2 OB ⊢
                have t0 : wr.cell? ⟨go, m * 2, none⟩ = some (.int .u64 (ta : Int)) := by rw [OW2.out.cellAt (m * 2) (by omega)]; exact (flatQ_get O m (ta, tb) hlast).1
                have t1 : wr.cell? ⟨go, m * 2 + 1, none⟩ = some (.int .u64 (tb : Int)) := by rw [OW2.out.cellAt (m * 2 + 1) (by omega)]; exact (flatQ_get O m (ta, tb) hlast).2
                have hd : decide ((0 : Int) < (m : Int) + 1) = true := decide_eq_true (by omega)
                have HI := Lib.hid hIt
                have HLa := Lib.hid hlast
                have HM := Lib.hid hm
                clear hvo hIt hlast hm hO
                by_cases hst : sa ≤ tb
                · have MT : Hid (MInv (ivs l) R' (I ++ [(ta, max tb sb)])) := by have := MS.out; rwa [hmst, if_pos hst] at this
                  have wt0 : IntKind.i64.wrap ((m : Int) + 1 - 1) = (m : Int) := (IntWalk.i64_in _ (by constructor <;> omega)).trans (by omega)
                  have wt1 : IntKind.i64.wrap (m : Int) = (m : Int) := IntWalk.i64_in _ (by constructor <;> omega)
                  go_wp2_with fail
                  go_quiet (fail)
                  have hb8 : Below wr.heap.size wr (wr.drewN nq) := below_drewN (Below.refl _ _) _
                  generalize wr.drewN nq = w3 at *
                  have OW3 := Lib.hid (ownP_below OW2.out hb8)
                  have R83 := Lib.hid (ownP_below R8.out hb8)
                  have D3 := Lib.hid (below_then D2.out hb8)
                  have b0 := carry hb8 b0
                  have b1 := carry hb8 b1
                  have t0 := carry hb8 t0
                  have t1 := carry hb8 t1
                  have fz := OW3.out.frozenAt (m * 2 + 1)
                  have h3s := D3.out.size
                  have hw3 := hb8.size
                  clear hb8
                  obtain ⟨N, hN⟩ : ∃ N, N = max tb sb := ⟨_, rfl⟩
                  have hmx : max (tb : Int) (sb : Int) = (N : Int) := by omega
                  rw [← hN] at MT
                  clear hN
                  go_wp2_with fail
                  go_region
                  go_wp2
                  go_roundg R'.length
                  case measure => omega
                  case rel =>
                    have hst2 := OW3.out.stored (m * 2 + 1) (.int .u64 (N : Int))
                    have eF : (flatQ O).set (m * 2 + 1) (.int .u64 (N : Int)) = flatQ (I ++ [(ta, N)]) := by rw [HI.out, HM.out]; exact flatQ_set I ta tb N
                    have eL : (I ++ [(ta, N)]).length = O.length := by rw [HI.out]; simp
                    refine ⟨R', I ++ [(ta, N)], _, _, rfl, rfl, Nat.le_refl _, by rw [eL]; omega, ?_, rdQ_own (B := wa.heap.size) ?_, ?_, apart_of R83.out (fun g hg => by have := OB.out g hg; omega), MT.out⟩
                    · exact (Below.grown D3.out hst2.2 h3s (fun j hj => by cases hj; exact (ownP_lt OW3.out rfl).1)).drew
                    · exact (R83.out.kept hst2.2 (own_apart (v3 := .slice (some ⟨go, 0, none⟩) O.length capo) R83.out (fun g hg => by have := OB.out g hg; omega))).drew
                    · rw [eL, ← eF]; exact hst2.1.drew
                · have hms : CM.mstep O (sa, sb) = if sa < sb then O ++ [(sa, sb)] else O := by rw [hmst, if_neg hst, HI.out]
                  have wt0 : IntKind.i64.wrap ((m : Int) + 1 - 1) = (m : Int) := (IntWalk.i64_in _ (by constructor <;> omega)).trans (by omega)
                  have wt1 : IntKind.i64.wrap (m : Int) = (m : Int) := IntWalk.i64_in _ (by constructor <;> omega)
                  go_wp2_with fail
                  go_quiet (fail)
                  have hb8 : Below wr.heap.size wr (wr.drewN nq) := below_drewN (Below.refl _ _) _
                  generalize wr.drewN nq = w3 at *
                  have OW3 := Lib.hid (ownP_below OW2.out hb8)
                  have R83 := Lib.hid (ownP_below R8.out hb8)
                  have D3 := Lib.hid (below_then D2.out hb8)
                  have b0 := carry hb8 b0
                  have b1 := carry hb8 b1
                  have h3s := D3.out.size
                  have hw3 := hb8.size
                  clear hb8
                  by_cases hss : sa < sb
                  · have MT : Hid (MInv (ivs l) R' (O ++ [(sa, sb)])) := by have := MS.out; rwa [hms, if_pos hss] at this
                    go_wp2_with (at_builtin; go_loud (refine wpList_append_lies _ rfl (.tmp 86) (.tmp 88) 71 rfl w.heap.size 74 i0 (.agg #[.int .u64 0, .int .u64 0]) 2 16 Try.underlying71 hi hz0 hz1 hz2 rfl (by decide) (.slice (some ⟨go, 0, none⟩) O.length capo) O.length (flatQ O) rfl (ownP_below OW3.out (below_alloc _ _)) ⟨w3.heap.size, 0, none⟩ 1 1 [.int .u64 (sa : Int), .int .u64 (sb : Int)] rfl rfl (cellP_two_new _ _ _ _ (by simp)) (one_twoQ _ _) (by decide) (by unfold maxLen; omega) (by omega) (by simp; omega) (w3.heap.size + 1) (by simp) ?_; intro g cp w4 hown4 hgrow4 hat4 hlt4; have G := Lib.hid (And.intro hown4 (And.intro hgrow4 hat4)); clear hown4 hgrow4 hat4))
                    go_roundg R'.length
                    case measure => omega
                    case rel =>
                      obtain ⟨r1, r2, r3⟩ := G.out
                      refine ⟨R', O ++ [(sa, sb)], _, _, rfl, rfl, Nat.le_refl _, by simp; omega, Below.grown (D3.out.alloc h3s _) r2 (by simp; omega) (fun j hj => (ownP_lt OW3.out hj).1), rdQ_own ((ownP_below R83.out (below_alloc _ _)).kept r2 (own_apart R83.out (fun g hg => by have := OB.out g hg; omega))), by rw [flatQ_snoc, List.length_append]; simp only [hOm] at r1 ⊢; exact r1, ?_, MT.out⟩
                      refine apart_of R83.out (fun g' hg' => ?_)
                      simp [Value.ownBlock] at hg'
                      subst hg'
                      rcases r3 with r3 | r3
                      · have := OB.out _ r3; omega
                      · right; omega
                  · have MT : Hid (MInv (ivs l) R' O) := by have := MS.out; rwa [hms, if_neg hss] at this
                    go_wp2
                    go_roundg R'.length
                    case measure => omega
                    case rel => exact ⟨R', O, _, _, rfl, rfl, Nat.le_refl _, by omega, D3.out, rdQ_own R83.out, OW3.out, apart_of R83.out (fun g hg => by have := OB.out g hg; omega), MT.out⟩
    · have hR : R = [] := List.length_eq_zero_iff.1 (by omega)
      subst hR
      have K := Lib.hid (And.intro HB.out.2.2.2.2.done (And.intro HB.out.2.2.2.2.hi (And.intro (rdQ_own HB.out.2.2.1) HB.out.1)))
      clear HB
      go_wp2
      go_ret
      exact ⟨_, O, rfl, K.out.1, K.out.2.1, by simp at hOR; exact hOR, K.out.2.2.1, K.out.2.2.2⟩
end Go.Proofs.Ytegponbmelgngaa
end
