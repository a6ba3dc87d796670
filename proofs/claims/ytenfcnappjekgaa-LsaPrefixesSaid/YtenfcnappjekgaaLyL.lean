/-
  One link: its check; two links: their order, the code and the reference.
-/
import Derived.Test.YtenfcnappjekgaaLyM
namespace Go.Proofs.Ytenfcnappjekgaa
open Go.RowKit
set_option linter.unusedSimpArgs false
set_option linter.unusedVariables false
set_option maxHeartbeats 4000000
set_option maxRecDepth 100000

theorem link_any (x : Lk) (hx : LkOk x) (rt : Nat) (w : World) : Calls Try.prog 79 #[lkV x, .int .u32 (rt : Int)] w fun e w' => e = .returned (.int .i64 (lkC x rt)) ∧ Below w.heap.size w w' := by
  have B := Lib.hid (below_alloc w (lkC4 x))
  have hid_ := hx.id
  have hda := hx.data
  obtain ⟨kind, id, data, cost⟩ := x
  dsimp only at hid_ hda
  clear hx
  by_cases c1 : kind < 1
  · have HV : Hid (lkC ⟨kind, id, data, cost⟩ rt = 15) := by unfold Hid lkC; simp [c1]
    go_enter Try.func79, Try.ntmps79
    go_wp2
    go_ret
    exact ⟨ret_i HV.out.symm, B.out⟩
  by_cases c2 : 3 < kind
  · have HV : Hid (lkC ⟨kind, id, data, cost⟩ rt = 15) := by unfold Hid lkC; simp [c1, c2]
    go_enter Try.func79, Try.ntmps79
    go_wp2
    go_ret
    exact ⟨ret_i HV.out.symm, B.out⟩
  by_cases c3 : cost < 1
  · have HV : Hid (lkC ⟨kind, id, data, cost⟩ rt = 5) := by unfold Hid lkC; simp [c1, c2, c3]
    go_enter Try.func79, Try.ntmps79
    go_wp2
    go_ret
    exact ⟨ret_i HV.out.symm, B.out⟩
  by_cases c4 : 65535 < cost
  · have HV : Hid (lkC ⟨kind, id, data, cost⟩ rt = 5) := by unfold Hid lkC; simp [c1, c2, c3, c4]
    go_enter Try.func79, Try.ntmps79
    go_wp2
    go_ret
    exact ⟨ret_i HV.out.symm, B.out⟩
  rcases (by omega : kind = 1 ∨ kind = 2 ∨ kind = 3) with rfl | rfl | rfl
  · by_cases d1 : id = 0
    · have HV : Hid (lkC ⟨1, id, data, cost⟩ rt = 1) := by unfold Hid lkC; simp [c1, c2, c3, c4, d1]
      subst d1
      go_enter Try.func79, Try.ntmps79
      go_wp2
      go_ret
      exact ⟨ret_i HV.out.symm, B.out⟩
    have e1 : ((id : Int) == 0) = false := by simpa using d1
    by_cases d2 : id = rt
    · have HV : Hid (lkC ⟨1, id, data, cost⟩ rt = 1) := by unfold Hid lkC; simp [c1, c2, c3, c4, d2]
      subst d2
      have e2 : ((id : Int) == (id : Int)) = true := by simp
      go_enter Try.func79, Try.ntmps79
      go_wp2
      go_ret
      exact ⟨ret_i HV.out.symm, B.out⟩
    · have HV : Hid (lkC ⟨1, id, data, cost⟩ rt = 0) := by unfold Hid lkC; simp [c1, c2, c3, c4, d1, d2]
      have e2 : ((id : Int) == (rt : Int)) = false := by rw [beq_eq_false_iff_ne]; omega
      go_enter Try.func79, Try.ntmps79
      go_wp2
      go_ret
      exact ⟨ret_i HV.out.symm, B.out⟩
  · have HV : Hid (lkC ⟨2, id, data, cost⟩ rt = 0) := by unfold Hid lkC; simp [c1, c2, c3, c4]
    go_enter Try.func79, Try.ntmps79
    go_wp2
    go_ret
    exact ⟨ret_i HV.out.symm, B.out⟩
  · have hI : I64 (data : Int) := by unfold I64; omega
    cases hv : vld id data
    · have HV : Hid (lkC ⟨3, id, data, cost⟩ rt = 1) := by unfold Hid lkC; simp [c1, c2, c3, c4, hv]
      have HC : Hid (∀ W, Calls Try.prog 100 #[.agg #[.int .u32 (id : Int), .int .i64 (data : Int)]] W fun e w' => e = .returned (.bool false) ∧ Below W.heap.size W w') := fun W => hv ▸ valid_any id hid_ data hI W
      clear hv hid_ hI
      go_enter Try.func79, Try.ntmps79
      go_wp2_with (go_at_call 100; refine (HC.out _).mono ?_; rintro e w1 ⟨rfl, hb⟩; have HB := Lib.hid (below_then B.out hb); clear hb)
      go_ret
      exact ⟨ret_i HV.out.symm, HB.out⟩
    · have HV : Hid (lkC ⟨3, id, data, cost⟩ rt = 0) := by unfold Hid lkC; simp [c1, c2, c3, c4, hv]
      have HC : Hid (∀ W, Calls Try.prog 100 #[.agg #[.int .u32 (id : Int), .int .i64 (data : Int)]] W fun e w' => e = .returned (.bool true) ∧ Below W.heap.size W w') := fun W => hv ▸ valid_any id hid_ data hI W
      clear hv hid_ hI
      go_enter Try.func79, Try.ntmps79
      go_wp2_with (go_at_call 100; refine (HC.out _).mono ?_; rintro e w1 ⟨rfl, hb⟩; have HB := Lib.hid (below_then B.out hb); clear hb)
      go_ret
      exact ⟨ret_i HV.out.symm, HB.out⟩
theorem links_cmp (a b : Lk) (w : World) : Calls Try.prog 80 #[lkV a, lkV b] w fun e w' => e = .returned (.int .i64 (cmpL a b)) ∧ Below w.heap.size w w' := by
  obtain ⟨x, hx⟩ : ∃ x, cmpI a.kind b.kind = x := ⟨_, rfl⟩
  obtain ⟨y, hy⟩ : ∃ y, cmpI a.id b.id = y := ⟨_, rfl⟩
  obtain ⟨z, hz⟩ : ∃ z, cmpI a.data b.data = z := ⟨_, rfl⟩
  have HR : Hid (cmpL a b = orL [x, y, z]) := by unfold Hid cmpL; rw [hx, hy, hz]
  have ha0 := heap_alloc_new w (lkC4 a)
  have ha1 := (Below.heap_alloc (w.alloc (lkC4 a)) (lkC4 b) w.heap.size (by simp)).trans ha0
  have hb1 := heap_alloc_new (w.alloc (lkC4 a)) (lkC4 b)
  have k00 : ((w.alloc (lkC4 a)).alloc (lkC4 b)).cell? ⟨w.heap.size, 0, none⟩ = some (.int .i64 a.kind) := cell_of ha1 rfl
  have k01 : ((w.alloc (lkC4 a)).alloc (lkC4 b)).cell? ⟨w.heap.size, 1, none⟩ = some (.int .u32 (a.id : Int)) := cell_of ha1 rfl
  have k02 : ((w.alloc (lkC4 a)).alloc (lkC4 b)).cell? ⟨w.heap.size, 2, none⟩ = some (.int .u32 (a.data : Int)) := cell_of ha1 rfl
  have k10 : ((w.alloc (lkC4 a)).alloc (lkC4 b)).cell? ⟨w.heap.size + 1, 0, none⟩ = some (.int .i64 b.kind) := cell_of (by simpa using hb1) rfl
  have k11 : ((w.alloc (lkC4 a)).alloc (lkC4 b)).cell? ⟨w.heap.size + 1, 1, none⟩ = some (.int .u32 (b.id : Int)) := cell_of (by simpa using hb1) rfl
  have k12 : ((w.alloc (lkC4 a)).alloc (lkC4 b)).cell? ⟨w.heap.size + 1, 2, none⟩ = some (.int .u32 (b.data : Int)) := cell_of (by simpa using hb1) rfl
  have H1 : Hid (∀ W, Calls Try.prog 50 #[.int .i64 a.kind, .int .i64 b.kind] W fun e w' => e = .returned (.int .i64 x) ∧ W = w') := fun W => hx ▸ cmp_any a.kind b.kind W
  have H2 : Hid (∀ W, Calls Try.prog 51 #[.int .u32 (a.id : Int), .int .u32 (b.id : Int)] W fun e w' => e = .returned (.int .i64 y) ∧ W = w') := fun W => hy ▸ cmpw_any a.id b.id W
  have H3 : Hid (∀ W, Calls Try.prog 51 #[.int .u32 (a.data : Int), .int .u32 (b.data : Int)] W fun e w' => e = .returned (.int .i64 z) ∧ W = w') := fun W => hz ▸ cmpw_any a.data b.data W
  have H4 : Hid (∀ (W : World) (g : Nat), W.heap[g]? = some (.cells #[.int .i64 x, .int .i64 y, .int .i64 z] 3 (0, 0)) → Calls Try.prog 49 #[.slice (some ⟨g, 0, none⟩) 3 3] W fun e w' => e = .returned (.int .i64 (orL [x, y, z])) ∧ W = w') := fun W g hg =>
    (or_any [x, y, z] g _ (by simp) (three_cells hg))
  clear hx hy hz ha0 ha1 hb1
  go_enter Try.func80, Try.ntmps80
  go_wp2_with fail
  go_region_held3 (fun w' => w'.cell? ⟨w.heap.size, 0, none⟩ = some (.int .i64 a.kind) ∧ w'.cell? ⟨w.heap.size, 1, none⟩ = some (.int .u32 (a.id : Int)) ∧ w'.cell? ⟨w.heap.size, 2, none⟩ = some (.int .u32 (a.data : Int)) ∧ w'.cell? ⟨w.heap.size + 1, 0, none⟩ = some (.int .i64 b.kind) ∧ w'.cell? ⟨w.heap.size + 1, 1, none⟩ = some (.int .u32 (b.id : Int)) ∧ w'.cell? ⟨w.heap.size + 1, 2, none⟩ = some (.int .u32 (b.data : Int)))
    (first | (refine ⟨?_, ?_, ?_, ?_, ?_, ?_⟩ <;> assumption) | go_keep)
    (first
      | (go_at_call 50; ((with_reducible refine (H1.out _).mono ?_); rintro e w' ⟨rfl, rfl⟩))
      | (go_at_call 51; ((with_reducible refine (H2.out _).mono ?_); rintro e w' ⟨rfl, rfl⟩))
      | (go_at_call 51; ((with_reducible refine (H3.out _).mono ?_); rintro e w' ⟨rfl, rfl⟩))
      | (go_at_call 49; refine Calls.mono (H4.out _ (w.heap.size + 1 + 1) (alloc_at (W := (w.alloc _).alloc _) (by simp))) ?_; rintro e w' ⟨rfl, rfl⟩))
  all_goals go_wp2
  all_goals go_ret
  all_goals exact ⟨ret_i HR.out.symm, by exact (below3 _ _ _ _).drew⟩
theorem rlinks_cmp (a b : Lk) (w : World) : Calls Try.prog 82 #[lkV a, lkV b] w fun e w' => e = .returned (.int .i64 (cmpL a b)) ∧ Below w.heap.size w w' := by
  have B2 := Lib.hid (below2 w (lkC4 a) (lkC4 b))
  obtain ⟨ak, ai, ad, ac⟩ := a
  obtain ⟨bk, bi, bd, bc⟩ := b
  by_cases h0 : ak = bk
  · subst h0
    by_cases h1 : ai = bi
    · subst h1
      have HR : Hid (cmpL ⟨ak, ai, ad, ac⟩ ⟨ak, ai, bd, bc⟩ = cmpI ad bd) := by unfold Hid cmpL; rw [cmpI_eq, cmpI_eq, orL_zero, orL_zero, orL_one]
      go_enter Try.func82, Try.ntmps82
      go_wp2_with (go_at_call 53; refine (word_any _ _ _).mono ?_; rintro e w' ⟨rfl, rfl⟩)
      go_ret
      exact ⟨ret_i HR.out.symm, B2.out⟩
    · have HR : Hid (cmpL ⟨ak, ai, ad, ac⟩ ⟨ak, bi, bd, bc⟩ = cmpI ai bi) := by unfold Hid cmpL; rw [cmpI_eq, orL_zero, orL_head (cmpI_ne (by show (ai : Int) ≠ (bi : Int); omega))]
      have h1' : ¬ (ai : Int) = (bi : Int) := by omega
      go_enter Try.func82, Try.ntmps82
      go_wp2_with (go_at_call 53; refine (word_any _ _ _).mono ?_; rintro e w' ⟨rfl, rfl⟩)
      go_ret
      exact ⟨ret_i HR.out.symm, B2.out⟩
  · have HR : Hid (cmpL ⟨ak, ai, ad, ac⟩ ⟨bk, bi, bd, bc⟩ = cmpI ak bk) := by unfold Hid cmpL; rw [orL_head (cmpI_ne h0)]
    go_enter Try.func82, Try.ntmps82
    go_wp2_with (go_at_call 52; refine (num_any _ _ _).mono ?_; rintro e w' ⟨rfl, rfl⟩)
    go_ret
    exact ⟨ret_i HR.out.symm, B2.out⟩
end Go.Proofs.Ytenfcnappjekgaa
