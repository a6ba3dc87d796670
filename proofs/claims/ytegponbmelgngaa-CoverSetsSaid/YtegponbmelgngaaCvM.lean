/-
  The walk of the law on members.
-/
import Derived.Test.YtegponbmelgngaaCvL
namespace Go.Proofs.Ytegponbmelgngaa
open Go.RowKit
set_option linter.unusedSimpArgs false
set_option linter.unusedVariables false
set_option maxHeartbeats 4000000
set_option maxRecDepth 100000

theorem large_yes (ad ad' : Option Addr) (n m cap cap' : Nat) (h : 60 < n ∨ 60 < m) (w : World) : Calls Try.prog 16 #[.slice ad n cap, .slice ad' m cap'] w fun e w' => e = .returned (.bool true) ∧ w = w' := by
  by_cases h1 : 60 < n
  · go_enter Try.func16, Try.ntmps16
    go_wp2
    go_ret
    exact ⟨rfl, rfl⟩
  · have h2 : 60 < m := by omega
    clear h
    go_enter Try.func16, Try.ntmps16
    go_wp2
    go_ret
    exact ⟨ret_b (by simp; omega), rfl⟩
theorem large_no (ad ad' : Option Addr) (n m cap cap' : Nat) (h1 : n ≤ 60) (h2 : m ≤ 60) (w : World) : Calls Try.prog 16 #[.slice ad n cap, .slice ad' m cap'] w fun e w' => e = .returned (.bool false) ∧ w = w' := by
  go_enter Try.func16, Try.ntmps16
  go_wp2
  go_ret
  exact ⟨ret_b (by simp; omega), rfl⟩
theorem rhas_any (l : List PP) (v : Value) (y : Nat) (hy : y < 4294967296) (w : World) (hl : Big l) (hf : FitL l) (hr : Rd w v l) :
    Calls Try.prog 36 #[v, .int .u32 (y : Int)] w fun e w' => e = .returned (.bool (mem l y)) ∧ Below w.heap.size w w' := by
  unfold Big at hl
  obtain ⟨ad, cap, rfl, hc⟩ := hr
  have HC := Lib.hid hc
  have HF := Lib.hid hf
  clear hc hf
  go_enter Try.func36, Try.ntmps36
  go_wp2
  go_loopg [9, 6] l.length (fun g s9 s6 wr => ∃ k : Nat, k ≤ l.length ∧ l.length - k ≤ g ∧ s9 = .int .i64 k ∧ Hid (Below w.heap.size w wr ∧ ∀ x ∈ l.take k, con x.1 x.2 y = false))
  case atStart => exact ⟨0, by omega, by omega, rfl, Below.refl _ _, by simp⟩
  case round =>
    obtain ⟨k, hk, hg, rfl, HB⟩ := hrel
    by_cases hlt : k < l.length
    · obtain ⟨x, hx⟩ : ∃ x, l[k]? = some x := ⟨_, List.getElem?_eq_getElem hlt⟩
      obtain ⟨blk, off, rfl, hblk, hc0, hc1⟩ := HC.out k x hx
      have f0 := carryB HB.out.1 hblk hc0
      have f1 := carryB HB.out.1 hblk hc1
      have HX := Lib.hid hx
      have hfx := HF.out x (List.mem_of_getElem? hx)
      obtain ⟨a, n⟩ := x
      have HV : Hid (∀ W, Calls Try.prog 77 #[.agg #[.int .u32 (a : Int), .int .i64 n], .int .u32 (y : Int)] W fun e w' => e = .returned (.bool (con a n y)) ∧ Below W.heap.size W w') := fun W => rcontains_any a hfx.1 n hfx.2 y hy W
      clear hc0 hc1 hx hfx
      dsimp only at f0 f1
      cases h : con a n y
      · have HH := Lib.hid h
        rw [h] at HV
        clear h
        go_wp2_with (go_at_call 77; refine (HV.out _).mono ?_; rintro e w1 ⟨rfl, hb⟩; have B := Lib.hid (below_then (HB.out.1.alloc HB.out.1.size _) hb); clear hb)
        go_roundg (l.length - (k + 1))
        case measure => omega
        case rel =>
          refine ⟨k + 1, by omega, Nat.le_refl _, by go_num, B.out, ?_⟩
          rw [take_snocP HX.out]
          intro y hy
          rcases List.mem_append.1 hy with hy | hy
          · exact HB.out.2 y hy
          · rw [List.mem_singleton] at hy; subst hy; exact HH.out
      · have HM : Hid (mem l y = true) := by show _ = _; unfold mem; rw [List.any_eq_true]; exact ⟨(a, n), List.mem_of_getElem? HX.out, h⟩
        rw [h] at HV
        clear h
        go_wp2_with (go_at_call 77; refine (HV.out _).mono ?_; rintro e w1 ⟨rfl, hb⟩; have B := Lib.hid (below_then (HB.out.1.alloc HB.out.1.size _) hb); clear hb)
        go_ret
        exact ⟨ret_b HM.out.symm, B.out⟩
    · have hkl : k = l.length := by omega
      subst hkl
      have HM : Hid (mem l y = false) := by
        show _ = _; unfold mem; rw [List.any_eq_false]
        intro x hx
        have := HB.out.2 x (by rw [List.take_length]; exact hx)
        rw [this]; simp
      go_wp2
      go_ret
      exact ⟨ret_b HM.out.symm, HB.out.1⟩
theorem big60 {l : List PP} (h : l.length ≤ 60) : Big l := by unfold Big; omega
theorem members_big (a b : List PP) (v1 v2 : Value) (x : Nat) (w : World) (h : 60 < a.length ∨ 60 < b.length) (hr1 : Rd w v1 a) (hr2 : Rd w v2 b) :
    Calls Try.prog 6 #[v1, v2, .int .u32 (x : Int)] w fun e w' => e = .returned (.bool true) ∧ Below w.heap.size w w' := by
  obtain ⟨ad, cap, rfl⟩ := rdP_slice hr1
  obtain ⟨ad', cap', rfl⟩ := rdP_slice hr2
  have HL := Lib.hid (large_yes ad ad' a.length b.length cap cap' h w)
  clear hr1 hr2 h
  go_enter Try.func6, Try.ntmps6
  go_wp2_with (first
    | (go_at_call 16; refine HL.out.mono ?_; rintro e w1 ⟨rfl, rfl⟩)
    | (go_at_call 17; refine (awake5_any _).mono ?_; rintro e w1 ⟨rfl, hb⟩; have B := Lib.hid hb; clear hb))
  go_ret
  exact ⟨rfl, B.out⟩
theorem members_small (a b : List PP) (v1 v2 : Value) (x : Nat) (w : World) (ha : a.length ≤ 60) (hb : b.length ≤ 60) (fa : FitL a) (fb : FitL b) (hx : x < 4294967296) (hr1 : Rd w v1 a) (hr2 : Rd w v2 b) :
    Calls Try.prog 6 #[v1, v2, .int .u32 (x : Int)] w fun e w' => e = .returned (.bool true) ∧ Below w.heap.size w w' := by
  have HA : Hid (∀ W, Below w.heap.size w W → Calls Try.prog 35 #[v1, .int .u32 (x : Int)] W fun e w' => e = .returned (.bool (mem a x)) ∧ Below W.heap.size W w') := fun W hW => has_any a v1 x hx W (big60 ha) fa (hr1.below hW)
  have HB : Hid (∀ W, Below w.heap.size w W → Calls Try.prog 35 #[v2, .int .u32 (x : Int)] W fun e w' => e = .returned (.bool (mem b x)) ∧ Below W.heap.size W w') := fun W hW => has_any b v2 x hx W (big60 hb) fb (hr2.below hW)
  have HRA : Hid (∀ W, Below w.heap.size w W → Calls Try.prog 36 #[v1, .int .u32 (x : Int)] W fun e w' => e = .returned (.bool (mem a x)) ∧ Below W.heap.size W w') := fun W hW => rhas_any a v1 x hx W (big60 ha) fa (hr1.below hW)
  have AW : Hid (∀ W, Calls Try.prog 17 #[] W fun e w' => e = .returned (.bool true) ∧ Below W.heap.size W w') := fun W => awake5_any W
  have HH : ∀ {S : Nat → Bool} {B : List (Nat × Nat)} {v : Value} {W : World}, CM.Nrm S B → (∀ y, S y = true → y < 4294967296) → Rd W v (B.map pfx) → Calls Try.prog 35 #[v, .int .u32 (x : Int)] W fun e w' => e = .returned (.bool (S x)) ∧ Below W.heap.size W w' := fun {S B v W} hN hS hr => by
    have := has_any (B.map pfx) v x hx W (by unfold Big; rw [List.length_map]; exact nrm_len hN hS) (fun p hp => ⟨fit_pfx hN hS p hp, V_I64 (valid_pfx hN p hp)⟩) hr
    rwa [mem_pfx hN] at this
  have mla := mem_lt (l := a) (fun p hp => (fa p hp).1)
  have mlb := mem_lt (l := b) (fun p hp => (fb p hp).1)
  have HN : Hid (∀ W, Below w.heap.size w W → Calls Try.prog 21 #[v1] W fun e w' => ∃ v, e = .returned v ∧ (∀ W', Below w'.heap.size w' W' → Calls Try.prog 35 #[v, .int .u32 (x : Int)] W' fun e w'' => e = .returned (.bool (mem a x)) ∧ Below W'.heap.size W' w'') ∧ Below W.heap.size W w') := fun W hW => by
    refine (normal_any a v1 W (big60 ha) fa (hr1.below hW)).mono ?_
    rintro e w' ⟨v, B, rfl, hN, hr, hb⟩
    exact ⟨v, rfl, fun W' h' => HH hN mla (hr.below h'), hb⟩
  have HU : Hid (∀ W, Below w.heap.size w W → Calls Try.prog 27 #[v1, v2] W fun e w' => ∃ v, e = .returned v ∧ (∀ W', Below w'.heap.size w' W' → Calls Try.prog 35 #[v, .int .u32 (x : Int)] W' fun e w'' => e = .returned (.bool (mem a x || mem b x)) ∧ Below W'.heap.size W' w'') ∧ Below W.heap.size W w') := fun W hW => by
    refine (union_any a b v1 v2 W (big60 ha) (big60 hb) fa fb (hr1.below hW) (hr2.below hW)).mono ?_
    rintro e w' ⟨v, B, rfl, hN, hr, hb⟩
    exact ⟨v, rfl, fun W' h' => HH hN (fun y hy => by rw [Bool.or_eq_true] at hy; exact hy.elim (mla y) (mlb y)) (hr.below h'), hb⟩
  have HI : Hid (∀ W, Below w.heap.size w W → Calls Try.prog 29 #[v1, v2] W fun e w' => ∃ v, e = .returned v ∧ (∀ W', Below w'.heap.size w' W' → Calls Try.prog 35 #[v, .int .u32 (x : Int)] W' fun e w'' => e = .returned (.bool (mem a x && mem b x)) ∧ Below W'.heap.size W' w'') ∧ Below W.heap.size W w') := fun W hW => by
    refine (inter_any a b v1 v2 W (big60 ha) (big60 hb) fa fb (hr1.below hW) (hr2.below hW)).mono ?_
    rintro e w' ⟨v, B, rfl, hN, hr, hb⟩
    exact ⟨v, rfl, fun W' h' => HH hN (fun y hy => by rw [Bool.and_eq_true] at hy; exact mla y hy.1) (hr.below h'), hb⟩
  have HD : Hid (∀ W, Below w.heap.size w W → Calls Try.prog 31 #[v1, v2] W fun e w' => ∃ v, e = .returned v ∧ (∀ W', Below w'.heap.size w' W' → Calls Try.prog 35 #[v, .int .u32 (x : Int)] W' fun e w'' => e = .returned (.bool (mem a x && !mem b x)) ∧ Below W'.heap.size W' w'') ∧ Below W.heap.size W w') := fun W hW => by
    refine (subt_any a b v1 v2 W (big60 ha) (big60 hb) fa fb (hr1.below hW) (hr2.below hW)).mono ?_
    rintro e w' ⟨v, B, rfl, hN, hr, hb⟩
    exact ⟨v, rfl, fun W' h' => HH hN (fun y hy => by rw [Bool.and_eq_true] at hy; exact mla y hy.1) (hr.below h'), hb⟩
  have HLg : Hid (Calls Try.prog 16 #[v1, v2] w fun e w' => e = .returned (.bool false) ∧ w = w') := by
    obtain ⟨ad, cap, rfl⟩ := rdP_slice hr1
    obtain ⟨ad', cap', rfl⟩ := rdP_slice hr2
    exact large_no ad ad' a.length b.length cap cap' ha hb w
  clear hr1 hr2 fa fb ha hb HH mla mlb
  generalize mem a x = p at *
  generalize mem b x = q at *
  cases p <;> cases q
  all_goals
    simp only [Bool.or_false, Bool.or_true, Bool.and_false, Bool.and_true, Bool.not_false, Bool.not_true, Bool.or_self, Bool.and_self] at HU HI HD
    go_enter Try.func6, Try.ntmps6
    go_wp2_with fail
    go_at_call 16
    refine HLg.out.mono ?_
    rintro e w1 ⟨rfl, rfl⟩
    go_wp2_with fail
    go_at_call 35
    refine (HA.out _ (Below.refl _ _)).mono ?_
    rintro e w2 ⟨rfl, hb⟩
    have B2 := Lib.hid hb
    clear hb
    go_wp2_with fail
    go_at_call 35
    refine (HB.out _ B2.out).mono ?_
    rintro e w3 ⟨rfl, hb⟩
    have B3 := Lib.hid (below_then B2.out hb)
    clear hb
    go_wp2_with fail
    go_at_call 36
    refine (HRA.out _ B3.out).mono ?_
    rintro e w4 ⟨rfl, hb⟩
    have B4 := Lib.hid (below_then B3.out hb)
    clear hb
    go_wp2_with fail
    go_at_call 21
    refine (HN.out _ B4.out).mono ?_
    rintro e w5 ⟨n5, rfl, h5, hb⟩
    have H5 := Lib.hid (h5 _ (Below.refl _ _))
    have B5 := Lib.hid (below_then B4.out hb)
    clear hb h5
    go_wp2_with fail
    go_at_call 35
    refine H5.out.mono ?_
    rintro e w6 ⟨rfl, hb⟩
    have B6 := Lib.hid (below_then B5.out hb)
    clear hb
    go_wp2_with fail
    go_at_call 17
    refine (AW.out _).mono ?_
    rintro e w7 ⟨rfl, hb⟩
    have B7 := Lib.hid (below_then B6.out hb)
    clear hb
    go_wp2_with fail
    go_at_call 27
    refine (HU.out _ B7.out).mono ?_
    rintro e w8 ⟨n8, rfl, h8, hb⟩
    have H8 := Lib.hid (h8 _ (Below.refl _ _))
    have B8 := Lib.hid (below_then B7.out hb)
    clear hb h8
    go_wp2_with fail
    go_at_call 35
    refine H8.out.mono ?_
    rintro e w9 ⟨rfl, hb⟩
    have B9 := Lib.hid (below_then B8.out hb)
    clear hb
    go_wp2_with fail
    go_at_call 29
    refine (HI.out _ B9.out).mono ?_
    rintro e w10 ⟨n10, rfl, h10, hb⟩
    have H10 := Lib.hid (h10 _ (Below.refl _ _))
    have B10 := Lib.hid (below_then B9.out hb)
    clear hb h10
    go_wp2_with fail
    go_at_call 35
    refine H10.out.mono ?_
    rintro e w11 ⟨rfl, hb⟩
    have B11 := Lib.hid (below_then B10.out hb)
    clear hb
    go_wp2_with fail
    go_at_call 31
    refine (HD.out _ B11.out).mono ?_
    rintro e w12 ⟨n12, rfl, h12, hb⟩
    have H12 := Lib.hid (h12 _ (Below.refl _ _))
    have B12 := Lib.hid (below_then B11.out hb)
    clear hb h12
    go_wp2_with fail
    go_at_call 35
    refine H12.out.mono ?_
    rintro e w13 ⟨rfl, hb⟩
    have B13 := Lib.hid (below_then B12.out hb)
    clear hb
    go_wp2
    go_ret
    exact ⟨rfl, B13.out⟩
end Go.Proofs.Ytegponbmelgngaa
