/-
  The walks of Covers, Overlap, Compare, Last, Parent, Halves and of their references.
-/
import Derived.Test.YtiiojkekcnmddaaDoorWalkB
namespace Go.Proofs.YtiiojkekcnmddaaDoor
open Go.RowKit
set_option linter.unusedSimpArgs false
set_option maxHeartbeats 1000000
theorem below_then {w W w1 : World} (h : Below w.heap.size w W) (hb : Below W.heap.size W w1) : Below w.heap.size w w1 := h.trans (hb.mono h.size)
theorem below2 (w : World) (o1 o2 : Obj) : Below w.heap.size w ((w.alloc o1).alloc o2) := below_then (below_alloc _ _) (below_alloc _ _)
theorem below3 (w : World) (o1 o2 o3 : Obj) : Below w.heap.size w (((w.alloc o1).alloc o2).alloc o3) := below_then (below2 _ _ _) (below_alloc _ _)

theorem rcontains_any (a : Nat) (ha : a < 4294967296) (n : Int) (hn : I64 n) (x : Nat) (hx : x < 4294967296) (w : World) :
    Calls Tryd.prog 45 #[.agg #[.int .u32 a, .int .i64 n], .int .u32 x] w fun e w' => e = .returned (.bool (con a n x)) ∧ Below w.heap.size w w' := by
  cases hv : vld a n
  · have hc := Lib.hid (con_out (x := x) hv)
    go_enter Tryd.func45, Tryd.ntmps45
    go_wp2
    refine wp_region_held_drew (S := fun w' => w'.cell? ⟨w.heap.size, 0, none⟩ = some (.int .u32 a) ∧ w'.cell? ⟨w.heap.size, 1, none⟩ = some (.int .i64 n) ∧ Boxed w w') (by kernel_rfl) ⟨by simp [*], by simp [*], boxed_box _ _⟩ (fun hS0 => ?_)
    refine wpAnyH_take (i := 0) (oi := ⟨some 5, _, _, _, _, _⟩) (v := .agg #[.int .u32 a, .int .i64 n]) rfl (by kernel_rfl) (by kernel_rfl) (by kernel_rfl) (fun _ _ _ h => h) (Or.inl ⟨by rfl, by intro w' hw'; (try dsimp only at hw'); go_simp⟩) hS0 ?_
    simp only [Act.put, List.setIfInBounds_toArray, List.set_cons_zero, List.set_cons_succ]
    refine wpAnyH_ready (rs := [1]) (by kernel_rfl) (by simp) ?_
    refine AllReadyH.cons rfl (fun K hK => ?_) AllReadyH.nil
    go_simp
    go_at_call 23
    refine (rvalid_any _ (by omega) _ (by omega) _).mono ?_
    rintro e w1 ⟨rfl, hb⟩
    have hk := boxed_keep hS0 hb
    go_wp2_with fail
    refine hK.out _ _ hk (fun _ => ?_)
    clear hK K hb
    (try simp only [Act.put, List.setIfInBounds_toArray, List.set_cons_zero, List.set_cons_succ])
    refine wpAnyH_take (i := 2) (oi := ⟨some 7, _, _, _, _, _⟩) (v := .bool false) rfl (by kernel_rfl) (by kernel_rfl) (by kernel_rfl) (fun _ _ _ h => h) (Or.inl ⟨by rfl, by intro w' hw'; (try dsimp only at hw'); go_simp⟩) hk ?_
    simp only [Act.put, List.setIfInBounds_toArray, List.set_cons_zero, List.set_cons_succ]
    refine wpAnyH_take (i := 3) (oi := ⟨some 8, _, _, _, _, _⟩) (v := undef) rfl (by kernel_rfl) (by kernel_rfl) (by kernel_rfl) (fun _ _ _ h => h) (Or.inr ⟨by rfl, rfl⟩) hk ?_
    refine wpAnyH_take (i := 4) (oi := ⟨some 9, _, _, _, _, _⟩) (v := undef) rfl (by kernel_rfl) (by kernel_rfl) (by kernel_rfl) (fun _ _ _ h => h) (Or.inr ⟨by rfl, rfl⟩) hk ?_
    refine wpAnyH_take (i := 5) (oi := ⟨some 10, _, _, _, _, _⟩) (v := undef) rfl (by kernel_rfl) (by kernel_rfl) (by kernel_rfl) (fun _ _ _ h => h) (Or.inr ⟨by rfl, rfl⟩) hk ?_
    refine wpAnyH_take (i := 6) (oi := ⟨some 11, _, _, _, _, _⟩) (v := undef) rfl (by kernel_rfl) (by kernel_rfl) (by kernel_rfl) (fun _ _ _ h => h) (Or.inr ⟨by rfl, rfl⟩) hk ?_
    refine wpAnyH_take (i := 7) (oi := ⟨some 12, _, _, _, _, _⟩) (v := undef) rfl (by kernel_rfl) (by kernel_rfl) (by kernel_rfl) (fun _ _ _ h => h) (Or.inr ⟨by rfl, rfl⟩) hk ?_
    refine wpAnyH_take (i := 8) (oi := ⟨some 13, _, _, _, _, _⟩) (v := undef) rfl (by kernel_rfl) (by kernel_rfl) (by kernel_rfl) (fun _ _ _ h => h) (Or.inr ⟨by rfl, rfl⟩) hk ?_
    simp only [Act.put, List.setIfInBounds_toArray, List.set_cons_zero, List.set_cons_succ]
    refine wpAnyH_take (i := 9) (oi := ⟨some 14, _, _, _, _, _⟩) (v := .bool false) rfl (by kernel_rfl) (by kernel_rfl) (by kernel_rfl) (fun _ _ _ h => h) (Or.inl ⟨by rfl, by intro w' hw'; (try dsimp only at hw'); go_simp⟩) hk ?_
    simp only [Act.put, List.setIfInBounds_toArray, List.set_cons_zero, List.set_cons_succ]
    refine wpAnyH_take (i := 10) (oi := ⟨some 4, _, _, _, _, _⟩) (v := .bool false) rfl (by kernel_rfl) (by kernel_rfl) (by kernel_rfl) (fun _ _ _ h => h) (Or.inl ⟨by rfl, by intro w' hw'; (try dsimp only at hw'); go_simp⟩) hk ?_
    simp only [Act.put, List.setIfInBounds_toArray, List.set_cons_zero, List.set_cons_succ]
    refine wpAnyH_done (by kernel_rfl) ?_ _
    go_wp2
    go_ret
    exact ⟨ret_b hc.out.symm, hk.2.2.1⟩
  · by_cases hk : M.keepN x (M.lowN n 32) = a
    · have hc := Lib.hid (con_yes (x := x) hv hk)
      have hd : ((M.keepN x (M.lowN n 32) : Int) == (a : Int)) = true := by rw [hk]; simp
      clear hk
      go_enter Tryd.func45, Tryd.ntmps45
      go_wp2
      go_region_held3 (fun w' => w'.cell? ⟨w.heap.size, 0, none⟩ = some (.int .u32 a) ∧ w'.cell? ⟨w.heap.size, 1, none⟩ = some (.int .i64 n) ∧ Boxed w w')
        (first | exact ⟨by simp [*], by simp [*], boxed_box _ _⟩ | go_keep)
        (first | (go_at_call 23; refine (rvalid_any _ (by omega) _ (by omega) _).mono ?_; rintro e w1 ⟨rfl, hb⟩; have hk := boxed_keep ‹_› hb; clear hb) | (go_at_call 59; refine (rmake_any _ (by omega) _ (by omega) _).mono ?_; rintro e w1 ⟨rfl, hb⟩; have hk := boxed_keep ‹_› hb; clear hb))
      all_goals go_wp2
      go_ret
      exact ⟨ret_b hc.out.symm, by obtain ⟨_, _, hB⟩ := hk; exact hB.1⟩
    · have hc := Lib.hid (con_no (n := n) hk)
      have hd : ((M.keepN x (M.lowN n 32) : Int) == (a : Int)) = false := by simp; omega
      clear hk
      go_enter Tryd.func45, Tryd.ntmps45
      go_wp2
      go_region_held3 (fun w' => w'.cell? ⟨w.heap.size, 0, none⟩ = some (.int .u32 a) ∧ w'.cell? ⟨w.heap.size, 1, none⟩ = some (.int .i64 n) ∧ Boxed w w')
        (first | exact ⟨by simp [*], by simp [*], boxed_box _ _⟩ | go_keep)
        (first | (go_at_call 23; refine (rvalid_any _ (by omega) _ (by omega) _).mono ?_; rintro e w1 ⟨rfl, hb⟩; have hk := boxed_keep ‹_› hb; clear hb) | (go_at_call 59; refine (rmake_any _ (by omega) _ (by omega) _).mono ?_; rintro e w1 ⟨rfl, hb⟩; have hk := boxed_keep ‹_› hb; clear hb))
      all_goals go_wp2
      go_ret
      exact ⟨ret_b hc.out.symm, by obtain ⟨_, _, hB⟩ := hk; exact hB.1⟩

def cov (a : Nat) (n : Int) (b : Nat) (m : Int) : Bool := vld b m && (decide (n ≤ m) && con a n b)
theorem cov_out {a : Nat} {n : Int} {b : Nat} {m : Int} (h : vld b m = false) : cov a n b m = false := by unfold cov; simp [h]
theorem cov_gt {a : Nat} {n : Int} {b : Nat} {m : Int} (h : ¬ n ≤ m) : cov a n b m = false := by unfold cov; simp [h]
theorem cov_in {a : Nat} {n : Int} {b : Nat} {m : Int} (h : vld b m = true) (h2 : n ≤ m) : cov a n b m = con a n b := by unfold cov; simp [h, h2]
theorem cov_con {a : Nat} {n : Int} {b : Nat} {m : Int} (h : con a n b = false) : cov a n b m = false := by unfold cov; simp [h]
theorem covers_any (a : Nat) (ha : a < 4294967296) (n : Int) (hn : I64 n) (b : Nat) (hb : b < 4294967296) (m : Int) (hm : I64 m) (w : World) :
    Calls Tryd.prog 25 #[.agg #[.int .u32 a, .int .i64 n], .agg #[.int .u32 b, .int .i64 m]] w fun e w' => e = .returned (.bool (cov a n b m)) ∧ Below w.heap.size w w' := by
  cases hv : vld b m
  · have hc := Lib.hid (cov_out (a := a) (n := n) hv)
    go_enter Tryd.func25, Tryd.ntmps25
    go_wp2_with fail
    go_at_call 24
    refine (valid_any _ (by omega) _ (by omega) _).mono ?_
    rintro e w1 ⟨rfl, h1⟩
    obtain ⟨hc1, hf1⟩ := bcell h1
    go_wp2_with fail
    go_ret
    exact ⟨ret_b hc.out.symm, below_then (below2 _ _ _) h1⟩
  · by_cases hle : n ≤ m
    · have hc := Lib.hid (cov_in (a := a) (n := n) hv hle)
      have hd : decide (n ≤ m) = true := decide_eq_true hle
      go_enter Tryd.func25, Tryd.ntmps25
      go_wp2_with fail
      go_at_call 24
      refine (valid_any _ (by omega) _ (by omega) _).mono ?_
      rintro e w1 ⟨rfl, h1⟩
      obtain ⟨hc1, hf1⟩ := bcell h1
      go_wp2_with fail
      go_at_call 44
      refine (contains_any _ (by omega) _ (by omega) _ (by omega) _).mono ?_
      rintro e w2 ⟨rfl, h2⟩
      go_wp2_with fail
      go_ret
      exact ⟨ret_b hc.out.symm, below_then (below_then (below2 _ _ _) h1) h2⟩
    · have hc := Lib.hid (cov_gt (a := a) (b := b) hle)
      have hd : decide (n ≤ m) = false := decide_eq_false hle
      go_enter Tryd.func25, Tryd.ntmps25
      go_wp2_with fail
      go_at_call 24
      refine (valid_any _ (by omega) _ (by omega) _).mono ?_
      rintro e w1 ⟨rfl, h1⟩
      obtain ⟨hc1, hf1⟩ := bcell h1
      go_wp2_with fail
      go_ret
      exact ⟨ret_b hc.out.symm, below_then (below2 _ _ _) h1⟩
theorem rcovers_any (a : Nat) (ha : a < 4294967296) (n : Int) (hn : I64 n) (b : Nat) (hb : b < 4294967296) (m : Int) (hm : I64 m) (w : World) :
    Calls Tryd.prog 26 #[.agg #[.int .u32 a, .int .i64 n], .agg #[.int .u32 b, .int .i64 m]] w fun e w' => e = .returned (.bool (cov a n b m)) ∧ Below w.heap.size w w' := by
  cases hv : vld b m
  · have hc := Lib.hid (cov_out (a := a) (n := n) hv)
    go_enter Tryd.func26, Tryd.ntmps26
    go_wp2_with fail
    go_at_call 23
    refine (rvalid_any _ (by omega) _ (by omega) _).mono ?_
    rintro e w1 ⟨rfl, h1⟩
    obtain ⟨hc1, hf1⟩ := bcell h1
    go_wp2_with fail
    go_ret
    exact ⟨ret_b hc.out.symm, below_then (below2 _ _ _) h1⟩
  · cases hcn : con a n b
    · have hc := Lib.hid (cov_con (m := m) hcn)
      go_enter Tryd.func26, Tryd.ntmps26
      go_wp2_with fail
      go_at_call 23
      refine (rvalid_any _ (by omega) _ (by omega) _).mono ?_
      rintro e w1 ⟨rfl, h1⟩
      obtain ⟨hc1, hf1⟩ := bcell h1
      go_wp2_with fail
      go_at_call 45
      refine (rcontains_any _ (by omega) _ (by omega) _ (by omega) _).mono ?_
      rintro e w2 ⟨rfl, h2⟩
      go_wp2_with fail
      go_ret
      exact ⟨ret_b hc.out.symm, below_then (below_then (below2 _ _ _) h1) h2⟩
    · have hc := Lib.hid (show cov a n b m = decide (n ≤ m) by unfold cov; simp [hv, hcn])
      go_enter Tryd.func26, Tryd.ntmps26
      go_wp2_with fail
      go_at_call 23
      refine (rvalid_any _ (by omega) _ (by omega) _).mono ?_
      rintro e w1 ⟨rfl, h1⟩
      obtain ⟨hc1, hf1⟩ := bcell h1
      go_wp2_with fail
      go_at_call 45
      refine (rcontains_any _ (by omega) _ (by omega) _ (by omega) _).mono ?_
      rintro e w2 ⟨rfl, h2⟩
      have hz1 : w.heap.size + 1 < w1.heap.size := by have := h1.size; simp at this; omega
      have hz0 : w.heap.size < w1.heap.size := by omega
      obtain ⟨hc2, hf2⟩ := bcell h2
      go_wp2_with fail
      go_ret
      exact ⟨ret_b hc.out.symm, below_then (below_then (below2 _ _ _) h1) h2⟩
end Go.Proofs.YtiiojkekcnmddaaDoor
