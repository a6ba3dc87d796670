/-
  The walk of layer 6's examples.
-/
import Derived.Test.YtkelfjgjgjdinaaTwN
namespace Go.Proofs.Ytkelfjgjgjdinaa
open Go.RowKit
set_option linter.unusedSimpArgs false
set_option linter.unusedVariables false
set_option maxHeartbeats 800000
set_option maxRecDepth 100000

def exL : List En := [((167772160, 8), 1), ((167837696, 16), 2)]
theorem ex_fit : Fit exL := by intro x hx; simp [exL] at hx; rcases hx with rfl | rfl <;> refine ⟨by decide, by decide, by decide⟩
theorem ex_all : allV exL = true := by decide +kernel
theorem ex_fold : foldE exL = exL := by decide +kernel
theorem ex_a : exL.filter (fun x => C x.1 (167838211, 32)) = exL := by decide +kernel
theorem ex_b : exL.filter (fun x => C x.1 (167903232, 32)) = [((167772160, 8), 1)] := by decide +kernel
theorem ex_c : exL.filter (fun x => C x.1 (184549376, 32)) = [] := by decide +kernel
theorem ex_d : exL.filter (fun x => C (167772160, 8) x.1) = exL := by decide +kernel
theorem ex_rd (w : World) (o : Obj) (ho : o = .cells #[.int .u32 167772160, .int .i64 8, .int .i64 1, .int .u32 167837696, .int .i64 16, .int .i64 2] 65) : RdE (w.alloc o) (.slice (some ⟨w.heap.size, 0, none⟩) 2 2) exL := by
  subst ho
  refine ⟨_, 2, rfl, fun k x hk => ⟨w.heap.size, 0, rfl, by simp, ?_⟩⟩
  match k, hk with
  | 0, hk => simp [exL] at hk; subst hk; simp
  | 1, hk => simp [exL] at hk; subst hk; simp
  | (k + 2), hk => simp [exL] at hk
theorem awake6_any (w : World) : Calls Try.prog 41 #[] w fun en w' => en = .returned (.bool true) ∧ Below w.heap.size w w' := by
  have L1 : Hid (∀ t gs W, TrieR W t exL gs → Calls Try.prog 53 #[t, .int .u32 167838211] W fun en w' => en = .returned (.tuple #[.agg #[.int .u32 167837696, .int .i64 16, .int .i64 2], .bool true]) ∧ Below W.heap.size W w') := fun t gs W h => by
    have := lookup_any t exL gs W 167838211 (by decide) (.inr h) h.lt (by decide)
    rw [ex_a] at this; exact this
  have L2 : Hid (∀ t gs W, TrieR W t exL gs → Calls Try.prog 53 #[t, .int .u32 167903232] W fun en w' => en = .returned (.tuple #[.agg #[.int .u32 167772160, .int .i64 8, .int .i64 1], .bool true]) ∧ Below W.heap.size W w') := fun t gs W h => by
    have := lookup_any t exL gs W 167903232 (by decide) (.inr h) h.lt (by decide)
    rw [ex_b] at this; exact this
  have L3 : Hid (∀ t gs W, TrieR W t exL gs → Calls Try.prog 53 #[t, .int .u32 184549376] W fun en w' => en = .returned (.tuple #[.agg #[.int .u32 0, .int .i64 0, .int .i64 0], .bool false]) ∧ Below W.heap.size W w') := fun t gs W h => by
    have := lookup_any t exL gs W 184549376 (by decide) (.inr h) h.lt (by decide)
    rw [ex_c] at this; exact this
  have U1 : Hid (∀ t gs W, TrieR W t exL gs → Calls Try.prog 59 #[t, .agg #[.int .u32 167772160, .int .i64 8]] W fun en w' => ∃ v, en = .returned v ∧ RdE w' v exL ∧ Below W.heap.size W w') := fun t gs W h => by
    have := under_any t exL gs W (167772160, 8) (by decide) (by constructor <;> decide) (.inr h) (by decide)
    rw [ex_d] at this; exact this.mono fun en w' ⟨v, h1, h2, h3⟩ => ⟨v, h1, h2.rd, h3⟩
  have N1 : Hid (∀ t gs W, TrieR W t exL gs → Calls Try.prog 45 #[t] W fun en w' => en = .returned (.int .i64 2) ∧ W = w') := fun t gs W h => len_any t exL gs W (.inr h)
  have O1 : Hid (∀ (W : World) o, o = Obj.cells #[.int .u32 167772160, .int .i64 8, .int .i64 1, .int .u32 167837696, .int .i64 16, .int .i64 2] 65 → Calls Try.prog 50 #[.slice (some ⟨W.heap.size, 0, none⟩) 2 2] (W.alloc o) fun en w' => ∃ t gs, en = .returned (.tuple #[t, .int .i64 0]) ∧ TrieR w' t exL gs ∧ Below (W.alloc o).heap.size (W.alloc o) w') := fun W o ho => by
    have := of_yes exL _ (W.alloc o) (by decide) ex_fit (ex_rd W o ho) ex_all
    rw [ex_fold] at this
    exact this.mono fun en w' ⟨t, gs, h1, h2, h3, h4⟩ => ⟨t, gs, h1, h2, h4⟩
  go_enter Try.func41, Try.ntmps41
  go_wp2_with fail
  refine (O1.out _ _ rfl).mono ?_
  rintro e w1 ⟨t, gs, rfl, hT, hb⟩
  obtain ⟨g, rfl, -⟩ := hT.ptr
  have T1 := Lib.hid hT
  have B1 : Hid (Below w.heap.size w w1) := below_then (below_alloc _ _) hb
  clear hT hb
  go_wp2_with fail
  refine (L1.out _ gs _ T1.out).mono ?_
  rintro e w2 ⟨rfl, hb⟩
  have T2 := Lib.hid (T1.out.below hb)
  have B2 := Lib.hid (below_then B1.out hb)
  clear hb
  go_wp2_with fail
  refine (L2.out _ gs _ (T2.out.below (below_alloc _ _))).mono ?_
  rintro e w3 ⟨rfl, hb⟩
  have T3 := Lib.hid ((T2.out.below (below_alloc _ _)).below hb)
  have B3 := Lib.hid (below_then (below_then B2.out (below_alloc _ _)) hb)
  have c0 : w3.cell? ⟨w2.heap.size, 2, none⟩ = some (.int .i64 2) := carry hb (by simp)
  clear hb
  go_wp2_with fail
  refine (L3.out _ gs _ (T3.out.below (below_alloc _ _))).mono ?_
  rintro e w4 ⟨rfl, hb⟩
  have T4 := Lib.hid ((T3.out.below (below_alloc _ _)).below hb)
  have B4 := Lib.hid (below_then (below_then B3.out (below_alloc _ _)) hb)
  have d0 : w4.cell? ⟨w2.heap.size, 2, none⟩ = some (.int .i64 2) := carry hb (carry (below_alloc _ _) c0)
  have d1 : w4.cell? ⟨w3.heap.size, 2, none⟩ = some (.int .i64 1) := carry hb (by simp)
  have e0 : ∀ o, (w4.alloc o).cell? ⟨w2.heap.size, 2, none⟩ = some (.int .i64 2) := fun o => carry (below_alloc _ _) d0
  have e1 : ∀ o, (w4.alloc o).cell? ⟨w3.heap.size, 2, none⟩ = some (.int .i64 1) := fun o => carry (below_alloc _ _) d1
  clear hb
  go_wp2_with fail
  refine (U1.out _ gs _ (T4.out.below (below_alloc _ _))).mono ?_
  rintro e w5 ⟨v, rfl, hr, hb⟩
  obtain ⟨ad, cap, rfl⟩ := rdE_slice hr
  have T5 := Lib.hid ((T4.out.below (below_alloc _ _)).below hb)
  have B5 := Lib.hid (below_then (below_then B4.out (below_alloc _ _)) hb)
  have hll : exL.length = 2 := rfl
  clear hb hr
  go_wp2_with fail
  refine (N1.out _ gs _ T5.out).mono ?_
  rintro e w6 ⟨rfl, rfl⟩
  go_wp2_with fail
  go_ret
  exact ⟨rfl, B5.out⟩
end Go.Proofs.Ytkelfjgjgjdinaa
