/-
  The newer of two instances: the code and the reference; keys.
-/
import Derived.Test.YtenfcnappjekgaaLaA
namespace Go.Proofs.Ytenfcnappjekgaa
open Go.RowKit
set_option linter.unusedSimpArgs false
set_option linter.unusedVariables false
set_option maxHeartbeats 2000000
set_option maxRecDepth 100000

def ageC (a b : Int) : Int := if a = b then 0 else if a = 3600 then 1 else if b = 3600 then -1 else if 900 < max a b - min a b then cmpI b a else 0
def cmpH (a b : Hd) : Int := orL [cmpI a.seq b.seq, cmpI a.sum b.sum, ageC a.age b.age]
theorem u64_gap (a b : Int) (ha : I64 a) (hb : I64 b) (h : a ≤ b) : IntKind.u64.wrap (IntKind.u64.wrap b - IntKind.u64.wrap a) = b - a := by
  unfold I64 at *
  have e : ∀ n : Int, IntKind.u64.wrap n = n % 18446744073709551616 := fun n => by simp [IntKind.wrap, IntKind.signed, IntKind.bits]
  rw [e, e, e]
  omega
theorem ages_any (a b : Int) (ha : I64 a) (hb : I64 b) (w : World) : Calls Try.prog 54 #[.int .i64 a, .int .i64 b] w fun e w' => e = .returned (.int .i64 (ageC a b)) ∧ w = w' := by
  by_cases h0 : a = b
  · subst h0
    have hc : ageC a a = 0 := by unfold ageC; rw [if_pos rfl]
    go_enter Try.func54, Try.ntmps54
    go_wp2
    go_ret
    exact ⟨by first | rfl | exact ret_i hc.symm, rfl⟩
  by_cases h1 : a = 3600
  · have hc : ageC a b = 1 := by unfold ageC; rw [if_neg h0, if_pos h1]
    subst h1
    go_enter Try.func54, Try.ntmps54
    go_wp2
    go_ret
    exact ⟨by first | rfl | exact ret_i hc.symm, rfl⟩
  by_cases h2 : b = 3600
  · have hc : ageC a b = -1 := by unfold ageC; rw [if_neg h0, if_neg h1, if_pos h2]
    subst h2
    go_enter Try.func54, Try.ntmps54
    go_wp2
    go_ret
    exact ⟨by first | rfl | exact ret_i hc.symm, rfl⟩
  have hc : Hid (ageC a b = if 900 < max a b - min a b then cmpI b a else 0) := by unfold Hid ageC; rw [if_neg h0, if_neg h1, if_neg h2]
  rcases Int.lt_trichotomy a b with h | h | h
  · have hg := u64_gap a b ha hb (by omega)
    have h' : ¬ b < a := by omega
    by_cases h3 : 900 < b - a
    · have hd : Hid (ageC a b = cmpI b a) := by unfold Hid; rw [hc.out, if_pos (by omega)]
      go_enter Try.func54, Try.ntmps54
      go_wp2_with (go_at_call 50; refine (cmp_any _ _ _).mono ?_; rintro e w' ⟨rfl, rfl⟩)
      go_ret
      exact ⟨ret_i hd.out.symm, rfl⟩
    · have hd : Hid (ageC a b = 0) := by unfold Hid; rw [hc.out, if_neg (by omega)]
      go_enter Try.func54, Try.ntmps54
      go_wp2
      go_ret
      exact ⟨ret_i hd.out.symm, rfl⟩
  · omega
  · have hg := u64_gap b a hb ha (by omega)
    have h' : ¬ a < b := by omega
    by_cases h3 : 900 < a - b
    · have hd : Hid (ageC a b = cmpI b a) := by unfold Hid; rw [hc.out, if_pos (by omega)]
      go_enter Try.func54, Try.ntmps54
      go_wp2_with (go_at_call 50; refine (cmp_any _ _ _).mono ?_; rintro e w' ⟨rfl, rfl⟩)
      go_ret
      exact ⟨ret_i hd.out.symm, rfl⟩
    · have hd : Hid (ageC a b = 0) := by unfold Hid; rw [hc.out, if_neg (by omega)]
      go_enter Try.func54, Try.ntmps54
      go_wp2
      go_ret
      exact ⟨ret_i hd.out.symm, rfl⟩
theorem apart_any (a b : Int) (ha : I64 a) (hb : I64 b) (h : a < b) (w : World) : Calls Try.prog 55 #[.int .i64 a, .int .i64 b] w fun e w' => e = .returned (.bool (decide (900 < b - a))) ∧ w = w' := by
  unfold I64 at ha hb
  go_enter Try.func55, Try.ntmps55
  go_wp2
  go_loopg [0, 5] 901 (fun g s0 s5 wr => ∃ k : Nat, (k : Int) ≤ 901 ∧ 901 - k ≤ g ∧ a + k ≤ b ∧ s0 = .int .i64 (a + k) ∧ s5 = .int .i64 k ∧ w = wr)
  case atStart => exact ⟨0, by omega, by omega, by omega, by simp, rfl, rfl⟩
  case round =>
    obtain ⟨k, hk, hg, hab, rfl, rfl, rfl⟩ := hrel
    by_cases hlt : (k : Int) ≤ 900
    · by_cases he : a + k = b
      · have hd : Hid (decide (900 < b - a) = false) := decide_eq_false (by omega)
        go_wp2
        go_ret
        exact ⟨ret_b hd.out.symm, rfl⟩
      · have q : IntKind.i64.wrap (a + k + 1) = a + k + 1 := IntWalk.i64_in _ (by omega)
        go_wp2
        go_roundg (901 - (k + 1))
        case measure => omega
        case rel => exact ⟨k + 1, by omega, Nat.le_refl _, by omega, by congr 1; push_cast; omega, by go_num, rfl⟩
    · have hd : Hid (decide (900 < b - a) = true) := decide_eq_true (by omega)
      go_wp2
      go_ret
      exact ⟨ret_b hd.out.symm, rfl⟩
theorem six_keep {w W w1 : World} {c1 c2 c3 c4 c5 c6 : Value} {p1 p2 p3 p4 p5 p6 : Addr} (h : W.cell? p1 = some c1 ∧ W.cell? p2 = some c2 ∧ W.cell? p3 = some c3 ∧ W.cell? p4 = some c4 ∧ W.cell? p5 = some c5 ∧ W.cell? p6 = some c6 ∧ Boxed w W) (hb : Below W.heap.size W w1) :
    w1.cell? p1 = some c1 ∧ w1.cell? p2 = some c2 ∧ w1.cell? p3 = some c3 ∧ w1.cell? p4 = some c4 ∧ w1.cell? p5 = some c5 ∧ w1.cell? p6 = some c6 ∧ Boxed w w1 := by
  obtain ⟨h1, h2, h3, h4, h5, h6, h7⟩ := h
  exact ⟨carry hb h1, carry hb h2, carry hb h3, carry hb h4, carry hb h5, carry hb h6, boxed_then h7 hb⟩
theorem three_cells {W : World} {g : Nat} {x y z : Int} (hg : W.heap[g]? = some (.cells #[.int .i64 x, .int .i64 y, .int .i64 z] 3 (0, 0))) (k : Nat) (u : Int) (hu : [x, y, z][k]? = some u) : W.cell? ⟨g, k, none⟩ = some (.int .i64 u) := by
  refine cell_of hg ?_
  match k, hu with
  | 0, hu => obtain rfl := Option.some.inj hu; rfl
  | 1, hu => obtain rfl := Option.some.inj hu; rfl
  | 2, hu => obtain rfl := Option.some.inj hu; rfl
  | k + 3, hu => simp at hu
theorem compare_any (a b : Hd) (ha : HdOk a) (hb : HdOk b) (w : World) : Calls Try.prog 20 #[hdV a, hdV b] w fun e w' => e = .returned (.int .i64 (cmpH a b)) ∧ Below w.heap.size w w' := by
  obtain ⟨x, hx⟩ : ∃ x, cmpI a.seq b.seq = x := ⟨_, rfl⟩
  obtain ⟨y, hy⟩ : ∃ y, cmpI a.sum b.sum = y := ⟨_, rfl⟩
  obtain ⟨z, hz⟩ : ∃ z, ageC a.age b.age = z := ⟨_, rfl⟩
  have HR : Hid (cmpH a b = orL [x, y, z]) := by unfold Hid cmpH; rw [hx, hy, hz]
  have HB1 : Boxed w ((w.alloc (hdC a)).alloc (hdC b)).drew := ⟨(below2 w (hdC a) (hdC b)).drew, by simp; omega⟩
  have ha0 := heap_alloc_new w (hdC a)
  have ha1 := (Below.heap_alloc (w.alloc (hdC a)) (hdC b) w.heap.size (by simp)).trans ha0
  have hb1 := heap_alloc_new (w.alloc (hdC a)) (hdC b)
  have k1 : ((w.alloc (hdC a)).alloc (hdC b)).cell? ⟨w.heap.size, 4, none⟩ = some (.int .i64 a.seq) := cell_of ha1 rfl
  have k2 : ((w.alloc (hdC a)).alloc (hdC b)).cell? ⟨w.heap.size, 6, none⟩ = some (.int .i64 a.sum) := cell_of ha1 rfl
  have k3 : ((w.alloc (hdC a)).alloc (hdC b)).cell? ⟨w.heap.size, 5, none⟩ = some (.int .i64 a.age) := cell_of ha1 rfl
  have k4 : ((w.alloc (hdC a)).alloc (hdC b)).cell? ⟨w.heap.size + 1, 4, none⟩ = some (.int .i64 b.seq) := cell_of (by simpa using hb1) rfl
  have k5 : ((w.alloc (hdC a)).alloc (hdC b)).cell? ⟨w.heap.size + 1, 6, none⟩ = some (.int .i64 b.sum) := cell_of (by simpa using hb1) rfl
  have k6 : ((w.alloc (hdC a)).alloc (hdC b)).cell? ⟨w.heap.size + 1, 5, none⟩ = some (.int .i64 b.age) := cell_of (by simpa using hb1) rfl
  have H1 : Hid (∀ W, Calls Try.prog 50 #[.int .i64 a.seq, .int .i64 b.seq] W fun e w' => e = .returned (.int .i64 x) ∧ W = w') := fun W => hx ▸ cmp_any a.seq b.seq W
  have H2 : Hid (∀ W, Calls Try.prog 50 #[.int .i64 a.sum, .int .i64 b.sum] W fun e w' => e = .returned (.int .i64 y) ∧ W = w') := fun W => hy ▸ cmp_any a.sum b.sum W
  have H3 : Hid (∀ W, Calls Try.prog 54 #[.int .i64 a.age, .int .i64 b.age] W fun e w' => e = .returned (.int .i64 z) ∧ W = w') := fun W => hz ▸ ages_any a.age b.age ha.age hb.age W
  have H4 : Hid (∀ (W : World) (g : Nat), W.heap[g]? = some (.cells #[.int .i64 x, .int .i64 y, .int .i64 z] 3 (0, 0)) → Calls Try.prog 49 #[.slice (some ⟨g, 0, none⟩) 3 3] W fun e w' => e = .returned (.int .i64 (orL [x, y, z])) ∧ W = w') := fun W g hg =>
    (or_any [x, y, z] g _ (by simp) (three_cells hg))
  clear hx hy hz ha0 ha1 hb1
  obtain ⟨aty, aid, alen, art, aseq, aage, asum⟩ := a
  obtain ⟨bty, bid, blen, brt, bseq, bage, bsum⟩ := b
  dsimp only at *
  clear ha hb
  go_enter Try.func20, Try.ntmps20
  go_wp2_with fail
  go_region_held3 (fun w' => w'.cell? ⟨w.heap.size, 4, none⟩ = some (.int .i64 aseq) ∧ w'.cell? ⟨w.heap.size, 6, none⟩ = some (.int .i64 asum) ∧ w'.cell? ⟨w.heap.size, 5, none⟩ = some (.int .i64 aage) ∧ w'.cell? ⟨w.heap.size + 1, 4, none⟩ = some (.int .i64 bseq) ∧ w'.cell? ⟨w.heap.size + 1, 6, none⟩ = some (.int .i64 bsum) ∧ w'.cell? ⟨w.heap.size + 1, 5, none⟩ = some (.int .i64 bage))
    (first | (refine ⟨?_, ?_, ?_, ?_, ?_, ?_⟩ <;> assumption) | go_keep)
    (first
      | (go_at_call 50; ((with_reducible refine (H1.out _).mono ?_); rintro e w' ⟨rfl, rfl⟩))
      | (go_at_call 50; ((with_reducible refine (H2.out _).mono ?_); rintro e w' ⟨rfl, rfl⟩))
      | (go_at_call 54; ((with_reducible refine (H3.out _).mono ?_); rintro e w' ⟨rfl, rfl⟩))
      | (go_at_call 49; refine Calls.mono (H4.out _ (w.heap.size + 1 + 1) (alloc_at (W := (w.alloc _).alloc _) (by simp))) ?_; rintro e w' ⟨rfl, rfl⟩))
  all_goals go_wp2
  all_goals go_ret
  all_goals exact ⟨ret_i HR.out.symm, by exact (below3 _ _ _ _).drew⟩
end Go.Proofs.Ytenfcnappjekgaa
