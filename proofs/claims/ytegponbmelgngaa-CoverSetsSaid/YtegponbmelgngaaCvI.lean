/-
  The walks of Union, Intersect, Subtract, Normal, of the comparison of lists, of Is and Has.
-/
import Derived.Test.YtegponbmelgngaaCvH
import Derived.Test.YtegponbmelgngaaFrameC
namespace Go.Proofs.Ytegponbmelgngaa
open Go.RowKit
set_option linter.unusedSimpArgs false
set_option linter.unusedVariables false
set_option maxHeartbeats 4000000
set_option maxRecDepth 100000

def Big (l : List PP) : Prop := l.length ≤ 4294967296
theorem union_any (a b : List PP) (v1 v2 : Value) (w : World) (ha : Big a) (hb : Big b) (fa : FitL a) (fb : FitL b) (hr1 : Rd w v1 a) (hr2 : Rd w v2 b) :
    Calls Try.prog 27 #[v1, v2] w fun e w' => ∃ v B, e = .returned v ∧ CM.Nrm (fun y => (mem a y || mem b y)) B ∧ Rd w' v (B.map pfx) ∧ Below w.heap.size w w' := by
  have H := Lib.hid (combine67_any a b v1 v2 w ha hb fa fb hr1 hr2)
  clear hr1 hr2
  go_enter Try.func27, Try.ntmps27
  go_wp2_with (go_at_call 66; refine H.out.mono ?_; rintro e w1 ⟨v, B, rfl, hB⟩; have HB := Lib.hid hB; clear hB)
  go_ret
  exact ⟨v, B, rfl, HB.out⟩
theorem inter_any (a b : List PP) (v1 v2 : Value) (w : World) (ha : Big a) (hb : Big b) (fa : FitL a) (fb : FitL b) (hr1 : Rd w v1 a) (hr2 : Rd w v2 b) :
    Calls Try.prog 29 #[v1, v2] w fun e w' => ∃ v B, e = .returned v ∧ CM.Nrm (fun y => (mem a y && mem b y)) B ∧ Rd w' v (B.map pfx) ∧ Below w.heap.size w w' := by
  have H := Lib.hid (combine68_any a b v1 v2 w ha hb fa fb hr1 hr2)
  clear hr1 hr2
  go_enter Try.func29, Try.ntmps29
  go_wp2_with (go_at_call 66; refine H.out.mono ?_; rintro e w1 ⟨v, B, rfl, hB⟩; have HB := Lib.hid hB; clear hB)
  go_ret
  exact ⟨v, B, rfl, HB.out⟩
theorem subt_any (a b : List PP) (v1 v2 : Value) (w : World) (ha : Big a) (hb : Big b) (fa : FitL a) (fb : FitL b) (hr1 : Rd w v1 a) (hr2 : Rd w v2 b) :
    Calls Try.prog 31 #[v1, v2] w fun e w' => ∃ v B, e = .returned v ∧ CM.Nrm (fun y => (mem a y && !mem b y)) B ∧ Rd w' v (B.map pfx) ∧ Below w.heap.size w w' := by
  have H := Lib.hid (combine70_any a b v1 v2 w ha hb fa fb hr1 hr2)
  clear hr1 hr2
  go_enter Try.func31, Try.ntmps31
  go_wp2_with (go_at_call 66; refine H.out.mono ?_; rintro e w1 ⟨v, B, rfl, hB⟩; have HB := Lib.hid hB; clear hB)
  go_ret
  exact ⟨v, B, rfl, HB.out⟩
theorem normal_any (a : List PP) (v1 : Value) (w : World) (ha : Big a) (fa : FitL a) (hr1 : Rd w v1 a) :
    Calls Try.prog 21 #[v1] w fun e w' => ∃ v B, e = .returned v ∧ CM.Nrm (mem a) B ∧ Rd w' v (B.map pfx) ∧ Below w.heap.size w w' := by
  have H : Hid (Calls Try.prog 27 #[v1, .slice none 0 0] w fun e w' => ∃ v B, e = .returned v ∧ CM.Nrm (mem a) B ∧ Rd w' v (B.map pfx) ∧ Below w.heap.size w w') := by
    refine (union_any a [] v1 (.slice none 0 0) w ha (by simp [Big]) fa (by intro x hx; cases hx) hr1 (rd_nil w)).mono ?_
    rintro e w' ⟨v, B, rfl, hB, h⟩
    refine ⟨v, B, rfl, ?_, h⟩
    have e : (fun y => (mem a y || mem [] y)) = mem a := funext fun y => by simp [mem]
    rw [e] at hB; exact hB
  clear hr1
  go_enter Try.func21, Try.ntmps21
  go_wp2_with (go_at_call 27; refine H.out.mono ?_; rintro e w1 ⟨v, B, rfl, hB⟩; have HB := Lib.hid hB; clear hB)
  go_ret
  exact ⟨v, B, rfl, HB.out⟩
theorem rdP_slice {w : World} {v : Value} {l : List PP} (h : Rd w v l) : ∃ ad cap, v = .slice ad l.length cap := by obtain ⟨ad, cap, rfl, _⟩ := h; exact ⟨ad, cap, rfl⟩
theorem sameP_any (l m : List PP) (v v' : Value) (w : World) (hl : Big l) (hr : Rd w v l) (hr' : Rd w v' m) :
    Calls Try.prog 20 #[v, v'] w fun e w' => e = .returned (.bool (decide (l = m))) ∧ Below w.heap.size w w' := by
  unfold Big at hl
  obtain ⟨ad, cap, rfl, hc⟩ := hr
  obtain ⟨ad', cap', rfl, hc'⟩ := hr'
  have HC := Lib.hid hc
  have HC' := Lib.hid hc'
  clear hc hc'
  obtain ⟨N, hN⟩ : ∃ N, N = l.length := ⟨_, rfl⟩
  obtain ⟨N', hN'⟩ : ∃ N', N' = m.length := ⟨_, rfl⟩
  have HN := Lib.hid hN
  have HN' := Lib.hid hN'
  rw [← hN] at hl ⊢
  rw [← hN']
  clear hN hN'
  by_cases hlen : N = N'
  · subst hlen
    go_enter Try.func20, Try.ntmps20
    go_wp2
    go_loopg [14, 5, 6] N (fun g s14 s5 s6 wr => ∃ (k : Nat), k ≤ N ∧ N - k ≤ g ∧ s14 = .int .i64 k ∧ Hid (Below w.heap.size w wr ∧ l.take k = m.take k))
    case atStart => exact ⟨0, by omega, by omega, rfl, Below.refl _ _, by simp⟩
    case round =>
      obtain ⟨k, hk, hg, rfl, HB⟩ := hrel
      by_cases hlt : k < N
      · obtain ⟨x, hx⟩ : ∃ x, l[k]? = some x := ⟨_, List.getElem?_eq_getElem (by rw [← HN.out]; exact hlt)⟩
        obtain ⟨y, hy⟩ : ∃ y, m[k]? = some y := ⟨_, List.getElem?_eq_getElem (by rw [← HN'.out]; exact hlt)⟩
        obtain ⟨blk, off, rfl, hblk, hc0, hc1⟩ := HC.out k x hx
        obtain ⟨blk', off', rfl, hblk', hd0, hd1⟩ := HC'.out k y hy
        have HX := Lib.hid (And.intro hx hy)
        obtain ⟨a, n⟩ := x
        obtain ⟨b, o⟩ := y
        dsimp only at hc0 hc1 hd0 hd1
        have f0 := carryB HB.out.1 hblk hc0
        have f1 := carryB HB.out.1 hblk hc1
        have k0 := carryB HB.out.1 hblk' hd0
        have k1 := carryB HB.out.1 hblk' hd1
        have al0 : ∀ o, (wr.alloc o).cell? ⟨blk', off' + k * 2, none⟩ = _ := fun o => carry (below_alloc _ _) k0
        have al1 : ∀ o, (wr.alloc o).cell? ⟨blk', off' + k * 2 + 1, none⟩ = _ := fun o => carry (below_alloc _ _) k1
        clear hc0 hc1 hd0 hd1 hx hy
        by_cases he : (a, n) = (b, o)
        · obtain ⟨rfl, rfl⟩ := Prod.mk.inj he
          clear he
          go_wp2_with fail
          go_quiet (fail)
          all_goals go_wp2
          go_roundg (N - (k + 1))
          case measure => omega
          case rel => exact ⟨k + 1, by omega, Nat.le_refl _, by go_num, by first | exact below_drewN (HB.out.1.alloc HB.out.1.size _) _ | exact below_drewN HB.out.1 _, by rw [take_snocP HX.out.1, take_snocP HX.out.2, HB.out.2]⟩
        · have HF : Hid (decide (l = m) = false) := by
            show _ = _
            rw [decide_eq_false_iff_not]
            rintro rfl
            have := HX.out.1.symm.trans HX.out.2
            exact he (Option.some.inj this)
          have hpn := pp_ne he
          clear he
          rcases hpn with h | ⟨rfl, h⟩
          all_goals
            go_wp2_with fail
            go_quiet (fail)
            all_goals go_wp2
            go_ret
            exact ⟨ret_b HF.out.symm, by first | exact below_drewN (HB.out.1.alloc HB.out.1.size _) _ | exact below_drewN HB.out.1 _⟩
      · have hkl : k = N := by omega
        subst hkl
        have HF : Hid (decide (l = m) = true) := by
          have := HB.out.2
          rw [List.take_of_length_le (by rw [← HN.out]; exact Nat.le_refl _), List.take_of_length_le (by rw [← HN'.out]; exact Nat.le_refl _)] at this
          show _ = _
          exact decide_eq_true this
        go_wp2
        go_ret
        exact ⟨ret_b HF.out.symm, HB.out.1⟩
  · have HF : Hid (decide (l = m) = false) := by
      show _ = _
      rw [decide_eq_false_iff_not]
      rintro rfl
      exact hlen (HN.out.trans HN'.out.symm)
    have hd : ((N : Int) == (N' : Int)) = false := by simp; omega
    have hd2 : ((N : Int) != (N' : Int)) = true := by simp; omega
    go_enter Try.func20, Try.ntmps20
    go_wp2
    go_ret
    exact ⟨ret_b HF.out.symm, Below.refl _ _⟩
theorem equalP_any (l m : List PP) (v v' : Value) (w : World) (hl : Big l) (hr : Rd w v l) (hr' : Rd w v' m) :
    Calls Try.prog 65 #[v, v'] w fun e w' => e = .returned (.bool (decide (l = m))) ∧ Below w.heap.size w w' := by
  unfold Big at hl
  obtain ⟨ad, cap, rfl, hc⟩ := hr
  obtain ⟨ad', cap', rfl, hc'⟩ := hr'
  have HC := Lib.hid hc
  have HC' := Lib.hid hc'
  clear hc hc'
  obtain ⟨N, hN⟩ : ∃ N, N = l.length := ⟨_, rfl⟩
  obtain ⟨N', hN'⟩ : ∃ N', N' = m.length := ⟨_, rfl⟩
  have HN := Lib.hid hN
  have HN' := Lib.hid hN'
  rw [← hN] at hl ⊢
  rw [← hN']
  clear hN hN'
  by_cases hlen : N = N'
  · subst hlen
    go_enter Try.func65, Try.ntmps65
    go_wp2
    go_loopg [13, 5] N (fun g s13 s5 wr => ∃ (k : Nat), k ≤ N ∧ N - k ≤ g ∧ s13 = .int .i64 k ∧ Hid (Below w.heap.size w wr ∧ l.take k = m.take k))
    case atStart => exact ⟨0, by omega, by omega, rfl, Below.refl _ _, by simp⟩
    case round =>
      obtain ⟨k, hk, hg, rfl, HB⟩ := hrel
      by_cases hlt : k < N
      · obtain ⟨x, hx⟩ : ∃ x, l[k]? = some x := ⟨_, List.getElem?_eq_getElem (by rw [← HN.out]; exact hlt)⟩
        obtain ⟨y, hy⟩ : ∃ y, m[k]? = some y := ⟨_, List.getElem?_eq_getElem (by rw [← HN'.out]; exact hlt)⟩
        obtain ⟨blk, off, rfl, hblk, hc0, hc1⟩ := HC.out k x hx
        obtain ⟨blk', off', rfl, hblk', hd0, hd1⟩ := HC'.out k y hy
        have HX := Lib.hid (And.intro hx hy)
        obtain ⟨a, n⟩ := x
        obtain ⟨b, o⟩ := y
        dsimp only at hc0 hc1 hd0 hd1
        have f0 := carryB HB.out.1 hblk hc0
        have f1 := carryB HB.out.1 hblk hc1
        have k0 := carryB HB.out.1 hblk' hd0
        have k1 := carryB HB.out.1 hblk' hd1
        clear hc0 hc1 hd0 hd1 hx hy
        by_cases he : (a, n) = (b, o)
        · obtain ⟨rfl, rfl⟩ := Prod.mk.inj he
          clear he
          go_wp2_with fail
          go_quiet (fail)
          all_goals go_wp2
          go_roundg (N - (k + 1))
          case measure => omega
          case rel => exact ⟨k + 1, by omega, Nat.le_refl _, by go_num, by first | exact below_drewN (HB.out.1.alloc HB.out.1.size _) _ | exact below_drewN HB.out.1 _, by rw [take_snocP HX.out.1, take_snocP HX.out.2, HB.out.2]⟩
        · have HF : Hid (decide (l = m) = false) := by
            show _ = _
            rw [decide_eq_false_iff_not]
            rintro rfl
            have := HX.out.1.symm.trans HX.out.2
            exact he (Option.some.inj this)
          have hpn := pp_ne he
          clear he
          rcases hpn with h | ⟨rfl, h⟩
          all_goals
            go_wp2_with fail
            go_quiet (fail)
            all_goals go_wp2
            go_ret
            exact ⟨ret_b HF.out.symm, by first | exact below_drewN (HB.out.1.alloc HB.out.1.size _) _ | exact below_drewN HB.out.1 _⟩
      · have hkl : k = N := by omega
        subst hkl
        have HF : Hid (decide (l = m) = true) := by
          have := HB.out.2
          rw [List.take_of_length_le (by rw [← HN.out]; exact Nat.le_refl _), List.take_of_length_le (by rw [← HN'.out]; exact Nat.le_refl _)] at this
          show _ = _
          exact decide_eq_true this
        go_wp2
        go_ret
        exact ⟨ret_b HF.out.symm, HB.out.1⟩
  · have HF : Hid (decide (l = m) = false) := by
      show _ = _
      rw [decide_eq_false_iff_not]
      rintro rfl
      exact hlen (HN.out.trans HN'.out.symm)
    have hd : ((N : Int) == (N' : Int)) = false := by simp; omega
    have hd2 : ((N : Int) != (N' : Int)) = true := by simp; omega
    go_enter Try.func65, Try.ntmps65
    go_wp2
    go_ret
    exact ⟨ret_b HF.out.symm, Below.refl _ _⟩
end Go.Proofs.Ytegponbmelgngaa
