/-
  The walks of the laws Keys, Compares and Order.
-/
import Derived.Test.YtenfcnappjekgaaLaW
namespace Go.Proofs.Ytenfcnappjekgaa
open Go.RowKit
set_option linter.unusedSimpArgs false
set_option linter.unusedVariables false
set_option maxHeartbeats 4000000
set_option maxRecDepth 100000

theorem keep2 {W0 w' w3 : World} (h : Below W0.heap.size W0 w') (hb : Below w'.heap.size w' w3) : Below W0.heap.size W0 w3 := h.trans (hb.mono h.size)

theorem lawCompares (a b : Hd) (ha : HdOk a) (hb : HdOk b) (w : World) : Calls Try.prog 5 #[hdV a, hdV b] w fun e w' => e = .returned (.bool true) ∧ Below w.heap.size w w' := by
  obtain ⟨c, hc⟩ : ∃ c, cmpH a b = c := ⟨_, rfl⟩
  have H1 : Hid (∀ W, Calls Try.prog 20 #[hdV a, hdV b] W fun e w' => e = .returned (.int .i64 c) ∧ Below W.heap.size W w') := fun W => hc ▸ compare_any a b ha hb W
  have H2 : Hid (∀ W, Calls Try.prog 21 #[hdV a, hdV b] W fun e w' => e = .returned (.int .i64 c) ∧ Below W.heap.size W w') := fun W => hc ▸ rcompare_any a b ha hb W
  have H3 := Lib.hid lives_any
  have t1 : (c == c) = true := by simp
  clear hc ha hb
  have BW : Hid (Below w.heap.size w ((w.alloc (hdC a)).alloc (hdC b))) := below2 _ _ _
  have SW : Hid (((w.alloc (hdC a)).alloc (hdC b)).heap.size = w.heap.size + 1 + 1) := by unfold Hid; simp
  have KW : Hid (∀ W', Below ((w.alloc (hdC a)).alloc (hdC b)).heap.size ((w.alloc (hdC a)).alloc (hdC b)) W' → ∀ g o, g < w.heap.size + 1 + 1 → W'.cell? ⟨g, o, none⟩ = ((w.alloc (hdC a)).alloc (hdC b)).cell? ⟨g, o, none⟩) := fun W' h g o hb => h.cell (p := ⟨g, o, none⟩) (by rw [SW.out]; exact hb)
  have K0 := KW.out _ (below_drewN (Below.refl _ ((w.alloc (hdC a)).alloc (hdC b))) 1)
  have D0 : Hid (Below ((w.alloc (hdC a)).alloc (hdC b)).heap.size ((w.alloc (hdC a)).alloc (hdC b)) ((w.alloc (hdC a)).alloc (hdC b)).drew) := below_drewN (Below.refl _ ((w.alloc (hdC a)).alloc (hdC b))) 1
  go_enter Try.func5, Try.ntmps5
  go_wp2_with fail
  go_region_held3 (fun w' => (∀ g o, g < w.heap.size + 1 + 1 → w'.cell? ⟨g, o, none⟩ = ((w.alloc (hdC a)).alloc (hdC b)).cell? ⟨g, o, none⟩) ∧ Hid (Below ((w.alloc (hdC a)).alloc (hdC b)).heap.size ((w.alloc (hdC a)).alloc (hdC b)) w')) (first | exact hk | exact ⟨K0, D0⟩ | go_keep)
    (first
      | (go_at_call 20; ((with_reducible refine (H1.out _).mono ?_); rintro e w3 ⟨rfl, hb⟩; have hB := keep2 (Hid.out (And.right ‹_ ∧ Hid (Below _ ((w.alloc (hdC a)).alloc (hdC b)) _)›)) hb; have hk := And.intro (KW.out _ hB) (Lib.hid hB); clear hb))
      | (go_at_call 21; ((with_reducible refine (H2.out _).mono ?_); rintro e w3 ⟨rfl, hb⟩; have hB := keep2 (Hid.out (And.right ‹_ ∧ Hid (Below _ ((w.alloc (hdC a)).alloc (hdC b)) _)›)) hb; have hk := And.intro (KW.out _ hB) (Lib.hid hB); clear hb))
      | (go_at_call 15; ((with_reducible refine (H3.out _).mono ?_); rintro e w3 ⟨rfl, hb⟩; have hB := keep2 (Hid.out (And.right ‹_ ∧ Hid (Below _ ((w.alloc (hdC a)).alloc (hdC b)) _)›)) hb; have hk := And.intro (KW.out _ hB) (Lib.hid hB); clear hb)))
  all_goals go_wp2
  all_goals go_ret
  all_goals (
    obtain ⟨-, hB2⟩ := hk
    exact ⟨rfl, below_then BW.out hB2.out⟩)

theorem ageC_neg (a b : Int) : ageC a b = -ageC b a := by
  unfold ageC
  by_cases h0 : a = b
  · subst h0; simp
  · have h0' : ¬ b = a := fun e => h0 e.symm
    rw [if_neg h0, if_neg h0']
    by_cases h1 : a = 3600
    · have h2 : ¬ b = 3600 := by omega
      simp [h1, h2]
    · by_cases h2 : b = 3600
      · simp [h1, h2]
      · simp only [h1, h2, if_false]
        rw [Int.max_comm b a, Int.min_comm b a]
        split
        · unfold cmpI; split <;> split <;> (try split) <;> omega
        · rfl
theorem cmpI_neg (a b : Int) : cmpI a b = -cmpI b a := by unfold cmpI; split <;> split <;> (try split) <;> omega
theorem cmpH_neg (a b : Hd) : cmpH a b = -cmpH b a := by
  unfold cmpH orL orL orL orL
  have e1 := cmpI_neg a.seq b.seq
  have e2 := cmpI_neg a.sum b.sum
  have e3 := ageC_neg a.age b.age
  generalize cmpI a.seq b.seq = x1 at *
  generalize cmpI b.seq a.seq = x2 at *
  generalize cmpI a.sum b.sum = y1 at *
  generalize cmpI b.sum a.sum = y2 at *
  generalize ageC a.age b.age = z1 at *
  generalize ageC b.age a.age = z2 at *
  subst e1 e2 e3
  by_cases hx : x2 = 0
  · subst hx
    by_cases hy : y2 = 0
    · subst hy
      by_cases hz : z2 = 0
      · subst hz; simp
      · have : ¬ -z2 = 0 := by omega
        simp [hz, this]
    · have : ¬ -y2 = 0 := by omega
      simp [hy, this]
  · have : ¬ -x2 = 0 := by omega
    simp [hx, this]
theorem cmpH_self (a : Hd) : cmpH a a = 0 := by have := cmpH_neg a a; omega
theorem cmpH_seq {a b : Hd} (h : b.seq < a.seq) : cmpH a b = 1 := by unfold cmpH; rw [cmpI_gt h]; rfl
theorem cmpH_range (a b : Hd) : -1 ≤ cmpH a b ∧ cmpH a b ≤ 1 := by
  have e1 := cmpI_range a.seq b.seq
  have e2 := cmpI_range a.sum b.sum
  have e3 : -1 ≤ ageC a.age b.age ∧ ageC a.age b.age ≤ 1 := by
    have := cmpI_range b.age a.age
    unfold ageC; split <;> (try split) <;> (try split) <;> (try split) <;> omega
  unfold cmpH orL orL orL orL
  split <;> (try split) <;> (try split) <;> omega

theorem lawOrder1 (a b : Hd) (ha : HdOk a) (hb : HdOk b) (hs : a.seq ≤ b.seq) (w : World) : Calls Try.prog 11 #[hdV a, hdV b] w fun e w' => e = .returned (.bool true) ∧ Below w.heap.size w w' := by
  obtain ⟨c, hc⟩ : ∃ c, cmpH a b = c := ⟨_, rfl⟩
  obtain ⟨d, hd⟩ : ∃ d, cmpH b a = d := ⟨_, rfl⟩
  have hr := cmpH_range b a
  have hn := cmpH_neg a b
  rw [hc, hd] at hn
  rw [hd] at hr
  have H1 : Hid (∀ W, Calls Try.prog 20 #[hdV a, hdV b] W fun e w' => e = .returned (.int .i64 c) ∧ Below W.heap.size W w') := fun W => hc ▸ compare_any a b ha hb W
  have H2 : Hid (∀ W, Calls Try.prog 20 #[hdV b, hdV a] W fun e w' => e = .returned (.int .i64 d) ∧ Below W.heap.size W w') := fun W => hd ▸ compare_any b a hb ha W
  have H4 : Hid (∀ W, Calls Try.prog 20 #[hdV a, hdV a] W fun e w' => e = .returned (.int .i64 0) ∧ Below W.heap.size W w') := fun W => cmpH_self a ▸ compare_any a a ha ha W
  have H3 := Lib.hid lives_any
  have hw : IntKind.i64.wrap (-d) = c := by rw [hn]; exact IntWalk.i64_in _ (by omega)
  have t1 : (c == c) = true := by simp
  have t2 : ((0 : Int) == 0) = true := rfl
  have t3 : ((1 : Int) == 1) = true := rfl
  have z1 : decide (a.seq ≤ b.seq) = true := decide_eq_true hs
  clear hc hd hr hn ha hb
  have BW : Hid (Below w.heap.size w ((w.alloc (hdC a)).alloc (hdC b))) := below2 _ _ _
  have SW : Hid (((w.alloc (hdC a)).alloc (hdC b)).heap.size = w.heap.size + 1 + 1) := by unfold Hid; simp
  have KW : Hid (∀ W', Below ((w.alloc (hdC a)).alloc (hdC b)).heap.size ((w.alloc (hdC a)).alloc (hdC b)) W' → ∀ g o, g < w.heap.size + 1 + 1 → W'.cell? ⟨g, o, none⟩ = ((w.alloc (hdC a)).alloc (hdC b)).cell? ⟨g, o, none⟩) := fun W' h g o hb => h.cell (p := ⟨g, o, none⟩) (by rw [SW.out]; exact hb)
  go_enter Try.func11, Try.ntmps11
  go_wp2_with fail
  refine wp_region_held_drew (S := (fun W' : World => Below ((w.alloc (hdC a)).alloc (hdC b)).heap.size ((w.alloc (hdC a)).alloc (hdC b)) W')) (by kernel_rfl) (below_drewN (Below.refl _ _) 1) (fun hS0 => ?_)
  refine wpAnyH_take (i := 0) (oi := ⟨some 5, _, _, _, _, _⟩) (v := hdV a) rfl (by kernel_rfl) (by kernel_rfl) (by kernel_rfl) (fun _ _ _ h => h) (Or.inl ⟨by rfl, by intro w' hw'; have kk := KW.out _ hw'; go_simp⟩) hS0 ?_
  simp only [Act.put, List.setIfInBounds_toArray, List.set_cons_zero, List.set_cons_succ]
  refine wpAnyH_take (i := 1) (oi := ⟨some 6, _, _, _, _, _⟩) (v := hdV b) rfl (by kernel_rfl) (by kernel_rfl) (by kernel_rfl) (fun _ _ _ h => h) (Or.inl ⟨by rfl, by intro w' hw'; have kk := KW.out _ hw'; go_simp⟩) hS0 ?_
  simp only [Act.put, List.setIfInBounds_toArray, List.set_cons_zero, List.set_cons_succ]
  refine wpAnyH_take (i := 3) (oi := ⟨some 8, _, _, _, _, _⟩) (v := hdV b) rfl (by kernel_rfl) (by kernel_rfl) (by kernel_rfl) (fun _ _ _ h => h) (Or.inl ⟨by rfl, by intro w' hw'; have kk := KW.out _ hw'; go_simp⟩) hS0 ?_
  simp only [Act.put, List.setIfInBounds_toArray, List.set_cons_zero, List.set_cons_succ]
  refine wpAnyH_take (i := 4) (oi := ⟨some 9, _, _, _, _, _⟩) (v := hdV a) rfl (by kernel_rfl) (by kernel_rfl) (by kernel_rfl) (fun _ _ _ h => h) (Or.inl ⟨by rfl, by intro w' hw'; have kk := KW.out _ hw'; go_simp⟩) hS0 ?_
  simp only [Act.put, List.setIfInBounds_toArray, List.set_cons_zero, List.set_cons_succ]
  refine wpAnyH_ready (rs := [2]) (by kernel_rfl) (by simp) ?_
  refine AllReadyH.cons rfl (fun K hK => ?_) AllReadyH.nil
  go_simp
  go_at_call 20
  refine (H1.out _).mono ?_
  rintro e w3 ⟨rfl, hb⟩
  have hS1 := keep2 hS0 hb
  clear hb
  (try go_wp2_with fail)
  refine hK.out _ _ hS1 (fun _ => ?_)
  clear hK K
  (try simp only [Act.put, List.setIfInBounds_toArray, List.set_cons_zero, List.set_cons_succ])
  refine wpAnyH_ready (rs := [5]) (by kernel_rfl) (by simp) ?_
  refine AllReadyH.cons rfl (fun K hK => ?_) AllReadyH.nil
  go_simp
  go_at_call 20
  refine (H2.out _).mono ?_
  rintro e w3 ⟨rfl, hb⟩
  have hS2 := keep2 hS1 hb
  clear hb
  (try go_wp2_with fail)
  refine hK.out _ _ hS2 (fun _ => ?_)
  clear hK K
  (try simp only [Act.put, List.setIfInBounds_toArray, List.set_cons_zero, List.set_cons_succ])
  refine wpAnyH_take (i := 6) (oi := ⟨some 11, _, _, _, _, _⟩) (v := .int .i64 c) rfl (by kernel_rfl) (by kernel_rfl) (by kernel_rfl) (fun _ _ _ h => h) (Or.inl ⟨by rfl, by intro w' hw'; have kk := KW.out _ hw'; go_simp⟩) hS2 ?_
  simp only [Act.put, List.setIfInBounds_toArray, List.set_cons_zero, List.set_cons_succ]
  refine wpAnyH_take (i := 7) (oi := ⟨some 12, _, _, _, _, _⟩) (v := .bool true) rfl (by kernel_rfl) (by kernel_rfl) (by kernel_rfl) (fun _ _ _ h => h) (Or.inl ⟨by rfl, by intro w' hw'; have kk := KW.out _ hw'; go_simp⟩) hS2 ?_
  simp only [Act.put, List.setIfInBounds_toArray, List.set_cons_zero, List.set_cons_succ]
  refine wpAnyH_take (i := 8) (oi := ⟨some 13, _, _, _, _, _⟩) (v := .bool true) rfl (by kernel_rfl) (by kernel_rfl) (by kernel_rfl) (fun _ _ _ h => h) (Or.inl ⟨by rfl, by intro w' hw'; have kk := KW.out _ hw'; go_simp⟩) hS2 ?_
  simp only [Act.put, List.setIfInBounds_toArray, List.set_cons_zero, List.set_cons_succ]
  refine wpAnyH_take (i := 9) (oi := ⟨some 14, _, _, _, _, _⟩) (v := hdV a) rfl (by kernel_rfl) (by kernel_rfl) (by kernel_rfl) (fun _ _ _ h => h) (Or.inl ⟨by rfl, by intro w' hw'; have kk := KW.out _ hw'; go_simp⟩) hS2 ?_
  simp only [Act.put, List.setIfInBounds_toArray, List.set_cons_zero, List.set_cons_succ]
  refine wpAnyH_take (i := 10) (oi := ⟨some 15, _, _, _, _, _⟩) (v := hdV a) rfl (by kernel_rfl) (by kernel_rfl) (by kernel_rfl) (fun _ _ _ h => h) (Or.inl ⟨by rfl, by intro w' hw'; have kk := KW.out _ hw'; go_simp⟩) hS2 ?_
  simp only [Act.put, List.setIfInBounds_toArray, List.set_cons_zero, List.set_cons_succ]
  refine wpAnyH_ready (rs := [11]) (by kernel_rfl) (by simp) ?_
  refine AllReadyH.cons rfl (fun K hK => ?_) AllReadyH.nil
  go_simp
  go_at_call 20
  refine (H4.out _).mono ?_
  rintro e w3 ⟨rfl, hb⟩
  have hS3 := keep2 hS2 hb
  clear hb
  (try go_wp2_with fail)
  refine hK.out _ _ hS3 (fun _ => ?_)
  clear hK K
  (try simp only [Act.put, List.setIfInBounds_toArray, List.set_cons_zero, List.set_cons_succ])
  refine wpAnyH_take (i := 12) (oi := ⟨some 17, _, _, _, _, _⟩) (v := .bool true) rfl (by kernel_rfl) (by kernel_rfl) (by kernel_rfl) (fun _ _ _ h => h) (Or.inl ⟨by rfl, by intro w' hw'; have kk := KW.out _ hw'; go_simp⟩) hS3 ?_
  simp only [Act.put, List.setIfInBounds_toArray, List.set_cons_zero, List.set_cons_succ]
  refine wpAnyH_take (i := 13) (oi := ⟨some 18, _, _, _, _, _⟩) (v := .bool true) rfl (by kernel_rfl) (by kernel_rfl) (by kernel_rfl) (fun _ _ _ h => h) (Or.inl ⟨by rfl, by intro w' hw'; have kk := KW.out _ hw'; go_simp⟩) hS3 ?_
  simp only [Act.put, List.setIfInBounds_toArray, List.set_cons_zero, List.set_cons_succ]
  refine wpAnyH_take (i := 14) (oi := ⟨some 19, _, _, _, _, _⟩) (v := .bool true) rfl (by kernel_rfl) (by kernel_rfl) (by kernel_rfl) (fun _ _ _ h => h) (Or.inl ⟨by rfl, by intro w' hw'; have kk := KW.out _ hw'; go_simp⟩) hS3 ?_
  simp only [Act.put, List.setIfInBounds_toArray, List.set_cons_zero, List.set_cons_succ]
  refine wpAnyH_take (i := 15) (oi := ⟨some 20, _, _, _, _, _⟩) (v := Value.pointer (some ⟨w.heap.size, 4, none⟩)) rfl (by kernel_rfl) (by kernel_rfl) (by kernel_rfl) (fun _ _ _ h => h) (Or.inl ⟨by rfl, by intro w' hw'; have kk := KW.out _ hw'; go_simp⟩) hS3 ?_
  simp only [Act.put, List.setIfInBounds_toArray, List.set_cons_zero, List.set_cons_succ]
  refine wpAnyH_take (i := 16) (oi := ⟨some 21, _, _, _, _, _⟩) (v := .int .i64 a.seq) rfl (by kernel_rfl) (by kernel_rfl) (by kernel_rfl) (fun _ _ _ h => h) (Or.inl ⟨by rfl, by intro w' hw'; have kk := KW.out _ hw'; go_simp⟩) hS3 ?_
  simp only [Act.put, List.setIfInBounds_toArray, List.set_cons_zero, List.set_cons_succ]
  refine wpAnyH_take (i := 17) (oi := ⟨some 22, _, _, _, _, _⟩) (v := Value.pointer (some ⟨w.heap.size + 1, 4, none⟩)) rfl (by kernel_rfl) (by kernel_rfl) (by kernel_rfl) (fun _ _ _ h => h) (Or.inl ⟨by rfl, by intro w' hw'; have kk := KW.out _ hw'; go_simp⟩) hS3 ?_
  simp only [Act.put, List.setIfInBounds_toArray, List.set_cons_zero, List.set_cons_succ]
  refine wpAnyH_take (i := 18) (oi := ⟨some 23, _, _, _, _, _⟩) (v := .int .i64 b.seq) rfl (by kernel_rfl) (by kernel_rfl) (by kernel_rfl) (fun _ _ _ h => h) (Or.inl ⟨by rfl, by intro w' hw'; have kk := KW.out _ hw'; go_simp⟩) hS3 ?_
  simp only [Act.put, List.setIfInBounds_toArray, List.set_cons_zero, List.set_cons_succ]
  refine wpAnyH_take (i := 19) (oi := ⟨some 24, _, _, _, _, _⟩) (v := .bool true) rfl (by kernel_rfl) (by kernel_rfl) (by kernel_rfl) (fun _ _ _ h => h) (Or.inl ⟨by rfl, by intro w' hw'; have kk := KW.out _ hw'; go_simp⟩) hS3 ?_
  simp only [Act.put, List.setIfInBounds_toArray, List.set_cons_zero, List.set_cons_succ]
  refine wpAnyH_take (i := 20) (oi := ⟨some 25, _, _, _, _, _⟩) (v := .bool true) rfl (by kernel_rfl) (by kernel_rfl) (by kernel_rfl) (fun _ _ _ h => h) (Or.inl ⟨by rfl, by intro w' hw'; have kk := KW.out _ hw'; go_simp⟩) hS3 ?_
  simp only [Act.put, List.setIfInBounds_toArray, List.set_cons_zero, List.set_cons_succ]
  refine wpAnyH_take (i := 21) (oi := ⟨some 26, _, _, _, _, _⟩) (v := undef) rfl (by kernel_rfl) (by kernel_rfl) (by kernel_rfl) (fun _ _ _ h => h) (Or.inr ⟨by rfl, rfl⟩) hS3 ?_
  simp only [Act.put, List.setIfInBounds_toArray, List.set_cons_zero, List.set_cons_succ]
  refine wpAnyH_take (i := 22) (oi := ⟨some 27, _, _, _, _, _⟩) (v := undef) rfl (by kernel_rfl) (by kernel_rfl) (by kernel_rfl) (fun _ _ _ h => h) (Or.inr ⟨by rfl, rfl⟩) hS3 ?_
  simp only [Act.put, List.setIfInBounds_toArray, List.set_cons_zero, List.set_cons_succ]
  refine wpAnyH_take (i := 23) (oi := ⟨some 28, _, _, _, _, _⟩) (v := undef) rfl (by kernel_rfl) (by kernel_rfl) (by kernel_rfl) (fun _ _ _ h => h) (Or.inr ⟨by rfl, rfl⟩) hS3 ?_
  simp only [Act.put, List.setIfInBounds_toArray, List.set_cons_zero, List.set_cons_succ]
  refine wpAnyH_take (i := 24) (oi := ⟨some 29, _, _, _, _, _⟩) (v := undef) rfl (by kernel_rfl) (by kernel_rfl) (by kernel_rfl) (fun _ _ _ h => h) (Or.inr ⟨by rfl, rfl⟩) hS3 ?_
  simp only [Act.put, List.setIfInBounds_toArray, List.set_cons_zero, List.set_cons_succ]
  refine wpAnyH_take (i := 25) (oi := ⟨some 30, _, _, _, _, _⟩) (v := .bool true) rfl (by kernel_rfl) (by kernel_rfl) (by kernel_rfl) (fun _ _ _ h => h) (Or.inl ⟨by rfl, by intro w' hw'; have kk := KW.out _ hw'; go_simp⟩) hS3 ?_
  simp only [Act.put, List.setIfInBounds_toArray, List.set_cons_zero, List.set_cons_succ]
  refine wpAnyH_take (i := 26) (oi := ⟨some 31, _, _, _, _, _⟩) (v := .bool true) rfl (by kernel_rfl) (by kernel_rfl) (by kernel_rfl) (fun _ _ _ h => h) (Or.inl ⟨by rfl, by intro w' hw'; have kk := KW.out _ hw'; go_simp⟩) hS3 ?_
  simp only [Act.put, List.setIfInBounds_toArray, List.set_cons_zero, List.set_cons_succ]
  refine wpAnyH_take (i := 27) (oi := ⟨some 32, _, _, _, _, _⟩) (v := .bool true) rfl (by kernel_rfl) (by kernel_rfl) (by kernel_rfl) (fun _ _ _ h => h) (Or.inl ⟨by rfl, by intro w' hw'; have kk := KW.out _ hw'; go_simp⟩) hS3 ?_
  simp only [Act.put, List.setIfInBounds_toArray, List.set_cons_zero, List.set_cons_succ]
  refine wpAnyH_ready (rs := [28]) (by kernel_rfl) (by simp) ?_
  refine AllReadyH.cons rfl (fun K hK => ?_) AllReadyH.nil
  go_simp
  go_at_call 15
  refine (H3.out _).mono ?_
  rintro e w3 ⟨rfl, hb⟩
  have hS9 := keep2 hS3 hb
  clear hb
  (try go_wp2_with fail)
  refine hK.out _ _ hS9 (fun _ => ?_)
  clear hK K
  (try simp only [Act.put, List.setIfInBounds_toArray, List.set_cons_zero, List.set_cons_succ])
  refine wpAnyH_take (i := 29) (oi := ⟨some 34, _, _, _, _, _⟩) (v := .bool true) rfl (by kernel_rfl) (by kernel_rfl) (by kernel_rfl) (fun _ _ _ h => h) (Or.inl ⟨by rfl, by intro w' hw'; have kk := KW.out _ hw'; go_simp⟩) hS9 ?_
  simp only [Act.put, List.setIfInBounds_toArray, List.set_cons_zero, List.set_cons_succ]
  refine wpAnyH_take (i := 30) (oi := ⟨some 4, _, _, _, _, _⟩) (v := .bool true) rfl (by kernel_rfl) (by kernel_rfl) (by kernel_rfl) (fun _ _ _ h => h) (Or.inl ⟨by rfl, by intro w' hw'; have kk := KW.out _ hw'; go_simp⟩) hS9 ?_
  simp only [Act.put, List.setIfInBounds_toArray, List.set_cons_zero, List.set_cons_succ]
  refine wpAnyH_done (by kernel_rfl) ?_ _
  go_wp2
  go_ret
  exact ⟨rfl, below_then BW.out hS9⟩
theorem lawOrder2 (a b : Hd) (ha : HdOk a) (hb : HdOk b) (hs : b.seq < a.seq) (w : World) : Calls Try.prog 11 #[hdV a, hdV b] w fun e w' => e = .returned (.bool true) ∧ Below w.heap.size w w' := by
  obtain ⟨c, hc⟩ : ∃ c, cmpH a b = c := ⟨_, rfl⟩
  obtain ⟨d, hd⟩ : ∃ d, cmpH b a = d := ⟨_, rfl⟩
  have hr := cmpH_range b a
  have hn := cmpH_neg a b
  rw [hc, hd] at hn
  rw [hd] at hr
  have H1 : Hid (∀ W, Calls Try.prog 20 #[hdV a, hdV b] W fun e w' => e = .returned (.int .i64 c) ∧ Below W.heap.size W w') := fun W => hc ▸ compare_any a b ha hb W
  have H2 : Hid (∀ W, Calls Try.prog 20 #[hdV b, hdV a] W fun e w' => e = .returned (.int .i64 d) ∧ Below W.heap.size W w') := fun W => hd ▸ compare_any b a hb ha W
  have H4 : Hid (∀ W, Calls Try.prog 20 #[hdV a, hdV a] W fun e w' => e = .returned (.int .i64 0) ∧ Below W.heap.size W w') := fun W => cmpH_self a ▸ compare_any a a ha ha W
  have H3 := Lib.hid lives_any
  have hw : IntKind.i64.wrap (-d) = c := by rw [hn]; exact IntWalk.i64_in _ (by omega)
  have t1 : (c == c) = true := by simp
  have t2 : ((0 : Int) == 0) = true := rfl
  have t3 : ((1 : Int) == 1) = true := rfl
  have h1 := cmpH_seq hs
  rw [hc] at h1
  have z1 : decide (a.seq ≤ b.seq) = false := decide_eq_false (by omega)
  clear hc hd hr hn ha hb
  subst h1
  have BW : Hid (Below w.heap.size w ((w.alloc (hdC a)).alloc (hdC b))) := below2 _ _ _
  have SW : Hid (((w.alloc (hdC a)).alloc (hdC b)).heap.size = w.heap.size + 1 + 1) := by unfold Hid; simp
  have KW : Hid (∀ W', Below ((w.alloc (hdC a)).alloc (hdC b)).heap.size ((w.alloc (hdC a)).alloc (hdC b)) W' → ∀ g o, g < w.heap.size + 1 + 1 → W'.cell? ⟨g, o, none⟩ = ((w.alloc (hdC a)).alloc (hdC b)).cell? ⟨g, o, none⟩) := fun W' h g o hb => h.cell (p := ⟨g, o, none⟩) (by rw [SW.out]; exact hb)
  go_enter Try.func11, Try.ntmps11
  go_wp2_with fail
  refine wp_region_held_drew (S := (fun W' : World => Below ((w.alloc (hdC a)).alloc (hdC b)).heap.size ((w.alloc (hdC a)).alloc (hdC b)) W')) (by kernel_rfl) (below_drewN (Below.refl _ _) 1) (fun hS0 => ?_)
  refine wpAnyH_take (i := 0) (oi := ⟨some 5, _, _, _, _, _⟩) (v := hdV a) rfl (by kernel_rfl) (by kernel_rfl) (by kernel_rfl) (fun _ _ _ h => h) (Or.inl ⟨by rfl, by intro w' hw'; have kk := KW.out _ hw'; go_simp⟩) hS0 ?_
  simp only [Act.put, List.setIfInBounds_toArray, List.set_cons_zero, List.set_cons_succ]
  refine wpAnyH_take (i := 1) (oi := ⟨some 6, _, _, _, _, _⟩) (v := hdV b) rfl (by kernel_rfl) (by kernel_rfl) (by kernel_rfl) (fun _ _ _ h => h) (Or.inl ⟨by rfl, by intro w' hw'; have kk := KW.out _ hw'; go_simp⟩) hS0 ?_
  simp only [Act.put, List.setIfInBounds_toArray, List.set_cons_zero, List.set_cons_succ]
  refine wpAnyH_take (i := 3) (oi := ⟨some 8, _, _, _, _, _⟩) (v := hdV b) rfl (by kernel_rfl) (by kernel_rfl) (by kernel_rfl) (fun _ _ _ h => h) (Or.inl ⟨by rfl, by intro w' hw'; have kk := KW.out _ hw'; go_simp⟩) hS0 ?_
  simp only [Act.put, List.setIfInBounds_toArray, List.set_cons_zero, List.set_cons_succ]
  refine wpAnyH_take (i := 4) (oi := ⟨some 9, _, _, _, _, _⟩) (v := hdV a) rfl (by kernel_rfl) (by kernel_rfl) (by kernel_rfl) (fun _ _ _ h => h) (Or.inl ⟨by rfl, by intro w' hw'; have kk := KW.out _ hw'; go_simp⟩) hS0 ?_
  simp only [Act.put, List.setIfInBounds_toArray, List.set_cons_zero, List.set_cons_succ]
  refine wpAnyH_ready (rs := [2]) (by kernel_rfl) (by simp) ?_
  refine AllReadyH.cons rfl (fun K hK => ?_) AllReadyH.nil
  go_simp
  go_at_call 20
  refine (H1.out _).mono ?_
  rintro e w3 ⟨rfl, hb⟩
  have hS1 := keep2 hS0 hb
  clear hb
  (try go_wp2_with fail)
  refine hK.out _ _ hS1 (fun _ => ?_)
  clear hK K
  (try simp only [Act.put, List.setIfInBounds_toArray, List.set_cons_zero, List.set_cons_succ])
  refine wpAnyH_ready (rs := [5]) (by kernel_rfl) (by simp) ?_
  refine AllReadyH.cons rfl (fun K hK => ?_) AllReadyH.nil
  go_simp
  go_at_call 20
  refine (H2.out _).mono ?_
  rintro e w3 ⟨rfl, hb⟩
  have hS2 := keep2 hS1 hb
  clear hb
  (try go_wp2_with fail)
  refine hK.out _ _ hS2 (fun _ => ?_)
  clear hK K
  (try simp only [Act.put, List.setIfInBounds_toArray, List.set_cons_zero, List.set_cons_succ])
  refine wpAnyH_take (i := 6) (oi := ⟨some 11, _, _, _, _, _⟩) (v := .int .i64 1) rfl (by kernel_rfl) (by kernel_rfl) (by kernel_rfl) (fun _ _ _ h => h) (Or.inl ⟨by rfl, by intro w' hw'; have kk := KW.out _ hw'; go_simp⟩) hS2 ?_
  simp only [Act.put, List.setIfInBounds_toArray, List.set_cons_zero, List.set_cons_succ]
  refine wpAnyH_take (i := 7) (oi := ⟨some 12, _, _, _, _, _⟩) (v := .bool true) rfl (by kernel_rfl) (by kernel_rfl) (by kernel_rfl) (fun _ _ _ h => h) (Or.inl ⟨by rfl, by intro w' hw'; have kk := KW.out _ hw'; go_simp⟩) hS2 ?_
  simp only [Act.put, List.setIfInBounds_toArray, List.set_cons_zero, List.set_cons_succ]
  refine wpAnyH_take (i := 8) (oi := ⟨some 13, _, _, _, _, _⟩) (v := .bool true) rfl (by kernel_rfl) (by kernel_rfl) (by kernel_rfl) (fun _ _ _ h => h) (Or.inl ⟨by rfl, by intro w' hw'; have kk := KW.out _ hw'; go_simp⟩) hS2 ?_
  simp only [Act.put, List.setIfInBounds_toArray, List.set_cons_zero, List.set_cons_succ]
  refine wpAnyH_take (i := 9) (oi := ⟨some 14, _, _, _, _, _⟩) (v := hdV a) rfl (by kernel_rfl) (by kernel_rfl) (by kernel_rfl) (fun _ _ _ h => h) (Or.inl ⟨by rfl, by intro w' hw'; have kk := KW.out _ hw'; go_simp⟩) hS2 ?_
  simp only [Act.put, List.setIfInBounds_toArray, List.set_cons_zero, List.set_cons_succ]
  refine wpAnyH_take (i := 10) (oi := ⟨some 15, _, _, _, _, _⟩) (v := hdV a) rfl (by kernel_rfl) (by kernel_rfl) (by kernel_rfl) (fun _ _ _ h => h) (Or.inl ⟨by rfl, by intro w' hw'; have kk := KW.out _ hw'; go_simp⟩) hS2 ?_
  simp only [Act.put, List.setIfInBounds_toArray, List.set_cons_zero, List.set_cons_succ]
  refine wpAnyH_ready (rs := [11]) (by kernel_rfl) (by simp) ?_
  refine AllReadyH.cons rfl (fun K hK => ?_) AllReadyH.nil
  go_simp
  go_at_call 20
  refine (H4.out _).mono ?_
  rintro e w3 ⟨rfl, hb⟩
  have hS3 := keep2 hS2 hb
  clear hb
  (try go_wp2_with fail)
  refine hK.out _ _ hS3 (fun _ => ?_)
  clear hK K
  (try simp only [Act.put, List.setIfInBounds_toArray, List.set_cons_zero, List.set_cons_succ])
  refine wpAnyH_take (i := 12) (oi := ⟨some 17, _, _, _, _, _⟩) (v := .bool true) rfl (by kernel_rfl) (by kernel_rfl) (by kernel_rfl) (fun _ _ _ h => h) (Or.inl ⟨by rfl, by intro w' hw'; have kk := KW.out _ hw'; go_simp⟩) hS3 ?_
  simp only [Act.put, List.setIfInBounds_toArray, List.set_cons_zero, List.set_cons_succ]
  refine wpAnyH_take (i := 13) (oi := ⟨some 18, _, _, _, _, _⟩) (v := .bool true) rfl (by kernel_rfl) (by kernel_rfl) (by kernel_rfl) (fun _ _ _ h => h) (Or.inl ⟨by rfl, by intro w' hw'; have kk := KW.out _ hw'; go_simp⟩) hS3 ?_
  simp only [Act.put, List.setIfInBounds_toArray, List.set_cons_zero, List.set_cons_succ]
  refine wpAnyH_take (i := 14) (oi := ⟨some 19, _, _, _, _, _⟩) (v := .bool true) rfl (by kernel_rfl) (by kernel_rfl) (by kernel_rfl) (fun _ _ _ h => h) (Or.inl ⟨by rfl, by intro w' hw'; have kk := KW.out _ hw'; go_simp⟩) hS3 ?_
  simp only [Act.put, List.setIfInBounds_toArray, List.set_cons_zero, List.set_cons_succ]
  refine wpAnyH_take (i := 15) (oi := ⟨some 20, _, _, _, _, _⟩) (v := Value.pointer (some ⟨w.heap.size, 4, none⟩)) rfl (by kernel_rfl) (by kernel_rfl) (by kernel_rfl) (fun _ _ _ h => h) (Or.inl ⟨by rfl, by intro w' hw'; have kk := KW.out _ hw'; go_simp⟩) hS3 ?_
  simp only [Act.put, List.setIfInBounds_toArray, List.set_cons_zero, List.set_cons_succ]
  refine wpAnyH_take (i := 16) (oi := ⟨some 21, _, _, _, _, _⟩) (v := .int .i64 a.seq) rfl (by kernel_rfl) (by kernel_rfl) (by kernel_rfl) (fun _ _ _ h => h) (Or.inl ⟨by rfl, by intro w' hw'; have kk := KW.out _ hw'; go_simp⟩) hS3 ?_
  simp only [Act.put, List.setIfInBounds_toArray, List.set_cons_zero, List.set_cons_succ]
  refine wpAnyH_take (i := 17) (oi := ⟨some 22, _, _, _, _, _⟩) (v := Value.pointer (some ⟨w.heap.size + 1, 4, none⟩)) rfl (by kernel_rfl) (by kernel_rfl) (by kernel_rfl) (fun _ _ _ h => h) (Or.inl ⟨by rfl, by intro w' hw'; have kk := KW.out _ hw'; go_simp⟩) hS3 ?_
  simp only [Act.put, List.setIfInBounds_toArray, List.set_cons_zero, List.set_cons_succ]
  refine wpAnyH_take (i := 18) (oi := ⟨some 23, _, _, _, _, _⟩) (v := .int .i64 b.seq) rfl (by kernel_rfl) (by kernel_rfl) (by kernel_rfl) (fun _ _ _ h => h) (Or.inl ⟨by rfl, by intro w' hw'; have kk := KW.out _ hw'; go_simp⟩) hS3 ?_
  simp only [Act.put, List.setIfInBounds_toArray, List.set_cons_zero, List.set_cons_succ]
  refine wpAnyH_take (i := 19) (oi := ⟨some 24, _, _, _, _, _⟩) (v := .bool false) rfl (by kernel_rfl) (by kernel_rfl) (by kernel_rfl) (fun _ _ _ h => h) (Or.inl ⟨by rfl, by intro w' hw'; have kk := KW.out _ hw'; go_simp⟩) hS3 ?_
  simp only [Act.put, List.setIfInBounds_toArray, List.set_cons_zero, List.set_cons_succ]
  refine wpAnyH_take (i := 20) (oi := ⟨some 25, _, _, _, _, _⟩) (v := .bool false) rfl (by kernel_rfl) (by kernel_rfl) (by kernel_rfl) (fun _ _ _ h => h) (Or.inl ⟨by rfl, by intro w' hw'; have kk := KW.out _ hw'; go_simp⟩) hS3 ?_
  simp only [Act.put, List.setIfInBounds_toArray, List.set_cons_zero, List.set_cons_succ]
  refine wpAnyH_take (i := 21) (oi := ⟨some 26, _, _, _, _, _⟩) (v := hdV a) rfl (by kernel_rfl) (by kernel_rfl) (by kernel_rfl) (fun _ _ _ h => h) (Or.inl ⟨by rfl, by intro w' hw'; have kk := KW.out _ hw'; go_simp⟩) hS3 ?_
  simp only [Act.put, List.setIfInBounds_toArray, List.set_cons_zero, List.set_cons_succ]
  refine wpAnyH_take (i := 22) (oi := ⟨some 27, _, _, _, _, _⟩) (v := hdV b) rfl (by kernel_rfl) (by kernel_rfl) (by kernel_rfl) (fun _ _ _ h => h) (Or.inl ⟨by rfl, by intro w' hw'; have kk := KW.out _ hw'; go_simp⟩) hS3 ?_
  simp only [Act.put, List.setIfInBounds_toArray, List.set_cons_zero, List.set_cons_succ]
  refine wpAnyH_ready (rs := [23]) (by kernel_rfl) (by simp) ?_
  refine AllReadyH.cons rfl (fun K hK => ?_) AllReadyH.nil
  go_simp
  go_at_call 20
  refine (H1.out _).mono ?_
  rintro e w3 ⟨rfl, hb⟩
  have hS4 := keep2 hS3 hb
  clear hb
  (try go_wp2_with fail)
  refine hK.out _ _ hS4 (fun _ => ?_)
  clear hK K
  (try simp only [Act.put, List.setIfInBounds_toArray, List.set_cons_zero, List.set_cons_succ])
  refine wpAnyH_take (i := 24) (oi := ⟨some 29, _, _, _, _, _⟩) (v := .bool true) rfl (by kernel_rfl) (by kernel_rfl) (by kernel_rfl) (fun _ _ _ h => h) (Or.inl ⟨by rfl, by intro w' hw'; have kk := KW.out _ hw'; go_simp⟩) hS4 ?_
  simp only [Act.put, List.setIfInBounds_toArray, List.set_cons_zero, List.set_cons_succ]
  refine wpAnyH_take (i := 25) (oi := ⟨some 30, _, _, _, _, _⟩) (v := .bool true) rfl (by kernel_rfl) (by kernel_rfl) (by kernel_rfl) (fun _ _ _ h => h) (Or.inl ⟨by rfl, by intro w' hw'; have kk := KW.out _ hw'; go_simp⟩) hS4 ?_
  simp only [Act.put, List.setIfInBounds_toArray, List.set_cons_zero, List.set_cons_succ]
  refine wpAnyH_take (i := 26) (oi := ⟨some 31, _, _, _, _, _⟩) (v := .bool true) rfl (by kernel_rfl) (by kernel_rfl) (by kernel_rfl) (fun _ _ _ h => h) (Or.inl ⟨by rfl, by intro w' hw'; have kk := KW.out _ hw'; go_simp⟩) hS4 ?_
  simp only [Act.put, List.setIfInBounds_toArray, List.set_cons_zero, List.set_cons_succ]
  refine wpAnyH_take (i := 27) (oi := ⟨some 32, _, _, _, _, _⟩) (v := .bool true) rfl (by kernel_rfl) (by kernel_rfl) (by kernel_rfl) (fun _ _ _ h => h) (Or.inl ⟨by rfl, by intro w' hw'; have kk := KW.out _ hw'; go_simp⟩) hS4 ?_
  simp only [Act.put, List.setIfInBounds_toArray, List.set_cons_zero, List.set_cons_succ]
  refine wpAnyH_ready (rs := [28]) (by kernel_rfl) (by simp) ?_
  refine AllReadyH.cons rfl (fun K hK => ?_) AllReadyH.nil
  go_simp
  go_at_call 15
  refine (H3.out _).mono ?_
  rintro e w3 ⟨rfl, hb⟩
  have hS9 := keep2 hS4 hb
  clear hb
  (try go_wp2_with fail)
  refine hK.out _ _ hS9 (fun _ => ?_)
  clear hK K
  (try simp only [Act.put, List.setIfInBounds_toArray, List.set_cons_zero, List.set_cons_succ])
  refine wpAnyH_take (i := 29) (oi := ⟨some 34, _, _, _, _, _⟩) (v := .bool true) rfl (by kernel_rfl) (by kernel_rfl) (by kernel_rfl) (fun _ _ _ h => h) (Or.inl ⟨by rfl, by intro w' hw'; have kk := KW.out _ hw'; go_simp⟩) hS9 ?_
  simp only [Act.put, List.setIfInBounds_toArray, List.set_cons_zero, List.set_cons_succ]
  refine wpAnyH_take (i := 30) (oi := ⟨some 4, _, _, _, _, _⟩) (v := .bool true) rfl (by kernel_rfl) (by kernel_rfl) (by kernel_rfl) (fun _ _ _ h => h) (Or.inl ⟨by rfl, by intro w' hw'; have kk := KW.out _ hw'; go_simp⟩) hS9 ?_
  simp only [Act.put, List.setIfInBounds_toArray, List.set_cons_zero, List.set_cons_succ]
  refine wpAnyH_done (by kernel_rfl) ?_ _
  go_wp2
  go_ret
  exact ⟨rfl, below_then BW.out hS9⟩
theorem lawOrder (a b : Hd) (ha : HdOk a) (hb : HdOk b) (w : World) : Calls Try.prog 11 #[hdV a, hdV b] w fun e w' => e = .returned (.bool true) ∧ Below w.heap.size w w' := by
  by_cases h : a.seq ≤ b.seq
  · exact lawOrder1 a b ha hb h w
  · exact lawOrder2 a b ha hb (by omega) w
end Go.Proofs.Ytenfcnappjekgaa
