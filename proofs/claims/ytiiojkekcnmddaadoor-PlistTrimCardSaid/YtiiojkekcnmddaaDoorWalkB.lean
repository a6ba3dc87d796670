/-
  The walks of the functions on prefixes that call others on prefixes: Contains, Covers, Overlap, Compare, Last, Parent, Halves.
-/
import Derived.Test.YtiiojkekcnmddaaDoorWalkA
namespace Go.Proofs.YtiiojkekcnmddaaDoor
open Go.RowKit
set_option linter.unusedSimpArgs false
set_option maxHeartbeats 1000000

theorem bcell {W w1 : World} (hb : Below W.heap.size W w1) : (∀ b o, b < W.heap.size → w1.cell? ⟨b, o, none⟩ = W.cell? ⟨b, o, none⟩) ∧ (∀ b o, b < W.heap.size → w1.frozen? ⟨b, o, none⟩ = W.frozen? ⟨b, o, none⟩) :=
  ⟨fun b o h => hb.cell (p := ⟨b, o, none⟩) h, fun b o h => hb.frozen (p := ⟨b, o, none⟩) h⟩
theorem below_drewN {B : Nat} {a w : World} (h : Below B a w) (n : Nat) : Below B a (w.drewN n) := ⟨h.os, h.tape, h.output, h.size, h.block⟩
def con (a : Nat) (n : Int) (x : Nat) : Bool := vld a n && decide (M.keepN x (M.lowN n 32) = a)
theorem con_out {a : Nat} {n : Int} {x : Nat} (h : vld a n = false) : con a n x = false := by unfold con; simp [h]
theorem con_yes {a : Nat} {n : Int} {x : Nat} (h : vld a n = true) (h2 : M.keepN x (M.lowN n 32) = a) : con a n x = true := by unfold con; simp [h, h2]
theorem con_no {a : Nat} {n : Int} {x : Nat} (h2 : M.keepN x (M.lowN n 32) ≠ a) : con a n x = false := by unfold con; simp [h2]

/-- the world behind a new block of the call's own: what was below is as it was, and the block is there -/
def Boxed (w w' : World) : Prop := Below w.heap.size w w' ∧ w.heap.size < w'.heap.size
theorem boxed_box (w : World) (o : Obj) : Boxed w (w.alloc o).drew := ⟨(below_alloc w o).drew, by simp⟩
theorem boxed_step {w W w1 : World} (h : Boxed w W) (hb : Below W.heap.size W w1) : Boxed w w1 ∧ ∀ o, w1.cell? ⟨w.heap.size, o, none⟩ = W.cell? ⟨w.heap.size, o, none⟩ :=
  ⟨⟨h.1.trans (hb.mono (by have := h.2; omega)), Nat.lt_of_lt_of_le h.2 hb.size⟩, fun o => (bcell hb).1 _ o h.2⟩

theorem boxed_keep {w W w1 : World} {c0 c1 : Value} (h : W.cell? ⟨w.heap.size, 0, none⟩ = some c0 ∧ W.cell? ⟨w.heap.size, 1, none⟩ = some c1 ∧ Boxed w W) (hb : Below W.heap.size W w1) :
    w1.cell? ⟨w.heap.size, 0, none⟩ = some c0 ∧ w1.cell? ⟨w.heap.size, 1, none⟩ = some c1 ∧ Boxed w w1 :=
  ⟨((boxed_step h.2.2 hb).2 0).trans h.1, ((boxed_step h.2.2 hb).2 1).trans h.2.1, (boxed_step h.2.2 hb).1⟩

theorem contains_any (a : Nat) (ha : a < 4294967296) (n : Int) (hn : I64 n) (x : Nat) (hx : x < 4294967296) (w : World) :
    Calls Tryd.prog 44 #[.agg #[.int .u32 a, .int .i64 n], .int .u32 x] w fun e w' => e = .returned (.bool (con a n x)) ∧ Below w.heap.size w w' := by
  cases hv : vld a n
  · have hc := Lib.hid (con_out (x := x) hv)
    go_enter Tryd.func44, Tryd.ntmps44
    go_wp2
    refine wp_region_held_drew (S := fun w' => w'.cell? ⟨w.heap.size, 0, none⟩ = some (.int .u32 a) ∧ w'.cell? ⟨w.heap.size, 1, none⟩ = some (.int .i64 n) ∧ Boxed w w') (by kernel_rfl) ⟨by simp [*], by simp [*], boxed_box _ _⟩ (fun hS0 => ?_)
    refine wpAnyH_take (i := 0) (oi := ⟨some 5, _, _, _, _, _⟩) (v := .agg #[.int .u32 a, .int .i64 n]) rfl (by kernel_rfl) (by kernel_rfl) (by kernel_rfl) (fun _ _ _ h => h) (Or.inl ⟨by rfl, by intro w' hw'; (try dsimp only at hw'); go_simp⟩) hS0 ?_
    simp only [Act.put, List.setIfInBounds_toArray, List.set_cons_zero, List.set_cons_succ]
    refine wpAnyH_ready (rs := [1]) (by kernel_rfl) (by simp) ?_
    refine AllReadyH.cons rfl (fun K hK => ?_) AllReadyH.nil
    go_simp
    go_at_call 24
    refine (valid_any _ (by omega) _ (by omega) _).mono ?_
    rintro e w1 ⟨rfl, hb⟩
    have hk := boxed_keep hS0 hb
    go_wp2_with fail
    refine hK.out _ _ hk (fun _ => ?_)
    clear hK K hb
    (try simp only [Act.put, List.setIfInBounds_toArray, List.set_cons_zero, List.set_cons_succ])
    refine wpAnyH_take (i := 2) (oi := ⟨some 7, _, _, _, _, _⟩) (v := .bool false) rfl (by kernel_rfl) (by kernel_rfl) (by kernel_rfl) (fun _ _ _ h => h) (Or.inl ⟨by rfl, by intro w' hw'; (try dsimp only at hw'); go_simp⟩) hk ?_
    simp only [Act.put, List.setIfInBounds_toArray, List.set_cons_zero, List.set_cons_succ]
    refine wpAnyH_take (i := 3) (oi := ⟨some 8, _, _, _, _, _⟩) (v := undef) rfl (by kernel_rfl) (by kernel_rfl) (by kernel_rfl) (fun _ _ _ h => h) (Or.inr ⟨by rfl, rfl⟩) hk ?_
    refine wpAnyH_take (i := 4) (oi := ⟨some 9, _, _, _, _, _⟩) (v := undef) rfl (by kernel_rfl) (by kernel_rfl) (by kernel_rfl) (fun _ _ _ h => h) (Or.inr ⟨by rfl, rfl⟩) hk ?_
    refine wpAnyH_take (i := 5) (oi := ⟨some 10, _, _, _, _, _⟩) (v := undef) rfl (by kernel_rfl) (by kernel_rfl) (by kernel_rfl) (fun _ _ _ h => h) (Or.inr ⟨by rfl, rfl⟩) hk ?_
    refine wpAnyH_take (i := 6) (oi := ⟨some 11, _, _, _, _, _⟩) (v := undef) rfl (by kernel_rfl) (by kernel_rfl) (by kernel_rfl) (fun _ _ _ h => h) (Or.inr ⟨by rfl, rfl⟩) hk ?_
    refine wpAnyH_take (i := 7) (oi := ⟨some 12, _, _, _, _, _⟩) (v := undef) rfl (by kernel_rfl) (by kernel_rfl) (by kernel_rfl) (fun _ _ _ h => h) (Or.inr ⟨by rfl, rfl⟩) hk ?_
    refine wpAnyH_take (i := 8) (oi := ⟨some 13, _, _, _, _, _⟩) (v := undef) rfl (by kernel_rfl) (by kernel_rfl) (by kernel_rfl) (fun _ _ _ h => h) (Or.inr ⟨by rfl, rfl⟩) hk ?_
    refine wpAnyH_take (i := 9) (oi := ⟨some 14, _, _, _, _, _⟩) (v := undef) rfl (by kernel_rfl) (by kernel_rfl) (by kernel_rfl) (fun _ _ _ h => h) (Or.inr ⟨by rfl, rfl⟩) hk ?_
    simp only [Act.put, List.setIfInBounds_toArray, List.set_cons_zero, List.set_cons_succ]
    refine wpAnyH_take (i := 10) (oi := ⟨some 15, _, _, _, _, _⟩) (v := .bool false) rfl (by kernel_rfl) (by kernel_rfl) (by kernel_rfl) (fun _ _ _ h => h) (Or.inl ⟨by rfl, by intro w' hw'; (try dsimp only at hw'); go_simp⟩) hk ?_
    simp only [Act.put, List.setIfInBounds_toArray, List.set_cons_zero, List.set_cons_succ]
    refine wpAnyH_take (i := 11) (oi := ⟨some 4, _, _, _, _, _⟩) (v := .bool false) rfl (by kernel_rfl) (by kernel_rfl) (by kernel_rfl) (fun _ _ _ h => h) (Or.inl ⟨by rfl, by intro w' hw'; (try dsimp only at hw'); go_simp⟩) hk ?_
    simp only [Act.put, List.setIfInBounds_toArray, List.set_cons_zero, List.set_cons_succ]
    refine wpAnyH_done (by kernel_rfl) ?_ _
    go_wp2
    go_ret
    exact ⟨ret_b hc.out.symm, hk.2.2.1⟩
  · by_cases hk : M.keepN x (M.lowN n 32) = a
    · have hc := Lib.hid (con_yes (x := x) hv hk)
      have hd : ((M.keepN x (M.lowN n 32) : Int) == (a : Int)) = true := by rw [hk]; simp
      clear hk
      go_enter Tryd.func44, Tryd.ntmps44
      go_wp2
      go_region_held3 (fun w' => w'.cell? ⟨w.heap.size, 0, none⟩ = some (.int .u32 a) ∧ w'.cell? ⟨w.heap.size, 1, none⟩ = some (.int .i64 n) ∧ Boxed w w')
        (first | exact ⟨by simp [*], by simp [*], boxed_box _ _⟩ | go_keep)
        (first | (go_at_call 24; refine (valid_any _ (by omega) _ (by omega) _).mono ?_; rintro e w1 ⟨rfl, hb⟩; have hk := boxed_keep ‹_› hb; clear hb) | (go_at_call 43; refine (pkeep_any _ (by omega) _ (by omega) _).mono ?_; rintro e w1 ⟨rfl, rfl⟩))
      all_goals go_wp2
      go_ret
      exact ⟨ret_b hc.out.symm, by obtain ⟨_, _, hB⟩ := hk; exact hB.1⟩
    · have hc := Lib.hid (con_no (n := n) hk)
      have hd : ((M.keepN x (M.lowN n 32) : Int) == (a : Int)) = false := by simp; omega
      clear hk
      go_enter Tryd.func44, Tryd.ntmps44
      go_wp2
      go_region_held3 (fun w' => w'.cell? ⟨w.heap.size, 0, none⟩ = some (.int .u32 a) ∧ w'.cell? ⟨w.heap.size, 1, none⟩ = some (.int .i64 n) ∧ Boxed w w')
        (first | exact ⟨by simp [*], by simp [*], boxed_box _ _⟩ | go_keep)
        (first | (go_at_call 24; refine (valid_any _ (by omega) _ (by omega) _).mono ?_; rintro e w1 ⟨rfl, hb⟩; have hk := boxed_keep ‹_› hb; clear hb) | (go_at_call 43; refine (pkeep_any _ (by omega) _ (by omega) _).mono ?_; rintro e w1 ⟨rfl, rfl⟩))
      all_goals go_wp2
      go_ret
      exact ⟨ret_b hc.out.symm, by obtain ⟨_, _, hB⟩ := hk; exact hB.1⟩
end Go.Proofs.YtiiojkekcnmddaaDoor
