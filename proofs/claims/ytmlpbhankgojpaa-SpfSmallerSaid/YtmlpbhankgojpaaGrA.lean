/-
  The walks of a graph's small functions: isNode, allowed, cmp.Compare, cmp.Or of two, order, leads.
-/
import Derived.Test.YtmlpbhankgojpaaMemB
import Derived.Test.YtmlpbhankgojpaaFrame
import Derived.Test.YtmlpbhankgojpaaGrMath
import Derived.Sort.Grow
namespace Go.Proofs.Ytmlpbhankgojpaa
open Go.RowKit GM Go.Sort
set_option linter.unusedSimpArgs false
set_option linter.unusedVariables false
set_option maxHeartbeats 4000000
set_option maxRecDepth 100000

def gV (R N : Int) (s : Value) : Value := .agg #[.int .i64 R, .int .i64 N, s]
theorem bcell {W w1 : World} (hb : Below W.heap.size W w1) : (∀ b o, b < W.heap.size → w1.cell? ⟨b, o, none⟩ = W.cell? ⟨b, o, none⟩) ∧ (∀ b o, b < W.heap.size → w1.frozen? ⟨b, o, none⟩ = W.frozen? ⟨b, o, none⟩) :=
  ⟨fun b o h => hb.cell (p := ⟨b, o, none⟩) h, fun b o h => hb.frozen (p := ⟨b, o, none⟩) h⟩
theorem isNode_any (R N : Int) (s : Value) (x : Int) (w : World) (hR : 0 ≤ R) (hN : 0 ≤ N) (hs : R + N ≤ 128) :
    Calls Try.prog 52 #[.agg #[.int .i64 R, .int .i64 N, s], .int .i64 x] w fun e w' => e = .returned (.bool (isN R N x)) ∧ Below w.heap.size w w' := by
  by_cases h0 : 0 ≤ x
  · have H : Hid (isN R N x = decide (x < R + N)) := by show _ = _; unfold isN; exact decide_eq_decide.2 ⟨fun h => h.2, fun h => ⟨h0, h⟩⟩
    go_enter Try.func52, Try.ntmps52
    go_wp2
    go_ret
    exact ⟨by rw [H.out]; rfl, below_alloc _ _⟩
  · have H : Hid (isN R N x = false) := decide_eq_false (fun h => h0 h.1)
    have h1 : decide (0 ≤ x) = false := decide_eq_false h0
    go_enter Try.func52, Try.ntmps52
    go_wp2
    go_ret
    exact ⟨by rw [H.out]; rfl, below_alloc _ _⟩
theorem carryB {B : Nat} {W w1 : World} {b o : Nat} {v : Value} (hb : Below B W w1) (hlt : b < B) (h : W.cell? ⟨b, o, none⟩ = some v) : w1.cell? ⟨b, o, none⟩ = some v := (hb.cell (p := ⟨b, o, none⟩) hlt).trans h
theorem below_two (w : World) (a b : Obj) : Below w.heap.size w ((w.alloc a).alloc b) := below_then (below_alloc _ _) (below_alloc _ _)
/-- From or To is no node -/
theorem allowed_bad (R N : Int) (s : Value) (e : E) (w : World) (hR : 0 ≤ R) (hN : 0 ≤ N) (hs : R + N ≤ 128) (hb : ¬ (isN R N e.1 = true ∧ isN R N e.2.1 = true)) :
    Calls Try.prog 41 #[.agg #[.int .i64 R, .int .i64 N, s], .agg #[.int .i64 e.1, .int .i64 e.2.1, .int .i64 e.2.2]] w fun en w' => en = .returned (.int .i64 5) ∧ Below w.heap.size w w' := by
  obtain ⟨a, b, c⟩ := e
  dsimp only at hb ⊢
  have HA : Hid (∀ W, Calls Try.prog 52 #[.agg #[.int .i64 R, .int .i64 N, s], .int .i64 a] W fun e w' => e = .returned (.bool (isN R N a)) ∧ Below W.heap.size W w') := fun W => isNode_any R N s a W hR hN hs
  have HB : Hid (∀ W, Calls Try.prog 52 #[.agg #[.int .i64 R, .int .i64 N, s], .int .i64 b] W fun e w' => e = .returned (.bool (isN R N b)) ∧ Below W.heap.size W w') := fun W => isNode_any R N s b W hR hN hs
  cases ha : isN R N a
  · rw [ha] at HA
    clear hb ha HB
    go_enter Try.func41, Try.ntmps41
    go_wp2_with (go_at_call 52; refine (HA.out _).mono ?_; rintro e w1 ⟨rfl, hb1⟩; have B1 := Lib.hid hb1; clear hb1)
    go_ret
    exact ⟨rfl, below_then (below_two _ _ _) B1.out⟩
  · cases hbb : isN R N b
    · rw [ha] at HA
      rw [hbb] at HB
      clear hb ha hbb
      go_enter Try.func41, Try.ntmps41
      go_wp2_with fail
      go_at_call 52
      refine (HA.out _).mono ?_
      rintro e w1 ⟨rfl, hb1⟩
      obtain ⟨hc1, hf1⟩ := bcell hb1
      have hz1 : w.heap.size + 1 < w1.heap.size := by have := hb1.size; simp at this; omega
      have B1 := Lib.hid hb1
      clear hb1
      go_wp2_with (go_at_call 52; refine (HB.out _).mono ?_; rintro e w2 ⟨rfl, hb2⟩; have B2 := Lib.hid hb2; clear hb2)
      go_ret
      exact ⟨rfl, below_then (below_then (below_two _ _ _) B1.out) B2.out⟩
    · exact absurd ⟨ha, hbb⟩ hb
theorem allowed_in (R N : Int) (s : Value) (e : E) (w : World) (hR : 0 ≤ R) (hN : 0 ≤ N) (hs : R + N ≤ 128) (hb : isN R N e.1 = true ∧ isN R N e.2.1 = true) :
    Calls Try.prog 41 #[.agg #[.int .i64 R, .int .i64 N, s], .agg #[.int .i64 e.1, .int .i64 e.2.1, .int .i64 e.2.2]] w fun en w' => en = .returned (.int .i64 (alw R N e)) ∧ Below w.heap.size w w' := by
  have HAL : Hid (alw R N e = if e.1 = e.2.1 ∨ (R ≤ e.1 ∧ R ≤ e.2.1) ∨ costOK R e = false then 1 else 0) := by show _ = _; unfold alw; rw [if_pos hb]
  obtain ⟨a, b, c⟩ := e
  dsimp only at hb ⊢
  have HA : Hid (∀ W, Calls Try.prog 52 #[.agg #[.int .i64 R, .int .i64 N, s], .int .i64 a] W fun e w' => e = .returned (.bool true) ∧ Below W.heap.size W w') := fun W => by
    have := isNode_any R N s a W hR hN hs; rwa [hb.1] at this
  have HB : Hid (∀ W, Calls Try.prog 52 #[.agg #[.int .i64 R, .int .i64 N, s], .int .i64 b] W fun e w' => e = .returned (.bool true) ∧ Below W.heap.size W w') := fun W => by
    have := isNode_any R N s b W hR hN hs; rwa [hb.2] at this
  clear hb
  go_enter Try.func41, Try.ntmps41
  go_wp2_with fail
  go_at_call 52
  refine (HA.out _).mono ?_
  rintro e w1 ⟨rfl, hb1⟩
  obtain ⟨hc1, hf1⟩ := bcell hb1
  have hz1 : w.heap.size + 1 < w1.heap.size := by have := hb1.size; simp at this; omega
  have B1 := Lib.hid hb1
  clear hb1
  go_wp2_with fail
  go_at_call 52
  refine (HB.out _).mono ?_
  rintro e w2 ⟨rfl, hb2⟩
  obtain ⟨hc2, hf2⟩ := bcell hb2
  have c0 : w2.cell? ⟨w.heap.size, 0, none⟩ = some (.int .i64 R) := by rw [hc2 _ _ (by omega), hc1 _ _ (by simp; omega)]; simp [World.cell?_alloc_some]
  have d0 : w2.cell? ⟨w.heap.size + 1, 0, none⟩ = some (.int .i64 a) := by rw [hc2 _ _ (by omega), hc1 _ _ (by simp)]; simp
  have d1 : w2.cell? ⟨w.heap.size + 1, 1, none⟩ = some (.int .i64 b) := by rw [hc2 _ _ (by omega), hc1 _ _ (by simp)]; simp
  have d2 : w2.cell? ⟨w.heap.size + 1, 2, none⟩ = some (.int .i64 c) := by rw [hc2 _ _ (by omega), hc1 _ _ (by simp)]; simp
  have B2 := Lib.hid (below_then (below_then (below_two w (.cells #[.int .i64 R, .int .i64 N, s] 24) (.cells #[.int .i64 a, .int .i64 b, .int .i64 c] 46)) B1.out) hb2)
  clear hb2 hc1 hc2 hf1 hf2
  go_wp2_with fail
  go_quiet (fail)
  by_cases hab : a = b
  · have HX : Hid ((if a = b ∨ (R ≤ a ∧ R ≤ b) ∨ costOK R (a, b, c) = false then (1 : Int) else 0) = 1) := by show _ = _; rw [if_pos (.inl hab)]
    have e1 : (a == b) = true := by simpa using hab
    by_cases hra : R ≤ a
    · clear hab
      go_wp2
      go_ret
      exact ⟨by rw [HAL.out, HX.out]; rfl, below_drewN B2.out _⟩
    · have e2 : decide (R ≤ a) = false := decide_eq_false hra
      clear hab
      go_wp2
      go_ret
      exact ⟨by rw [HAL.out, HX.out]; rfl, below_drewN B2.out _⟩
  · have e1 : (a == b) = false := by simpa using hab
    by_cases hra : R ≤ a
    · by_cases hrb : R ≤ b
      · have HX : Hid ((if a = b ∨ (R ≤ a ∧ R ≤ b) ∨ costOK R (a, b, c) = false then (1 : Int) else 0) = 1) := by show _ = _; rw [if_pos (.inr (.inl ⟨hra, hrb⟩))]
        clear hab
        go_wp2
        go_ret
        exact ⟨by rw [HAL.out, HX.out]; rfl, below_drewN B2.out _⟩
      · have e2 : decide (R ≤ b) = false := decide_eq_false hrb
        by_cases h0 : c < 0
        · have HX : Hid ((if a = b ∨ (R ≤ a ∧ R ≤ b) ∨ costOK R (a, b, c) = false then (1 : Int) else 0) = 1) := by show _ = _; rw [if_pos (.inr (.inr (by unfold costOK; rw [if_pos hra]; exact decide_eq_false (by dsimp only; omega))))]
          clear hab
          go_wp2
          go_ret
          exact ⟨by rw [HAL.out, HX.out]; rfl, below_drewN B2.out _⟩
        · have e3 : decide (c < 0) = false := decide_eq_false h0
          by_cases h1 : 0 < c
          · have HX : Hid ((if a = b ∨ (R ≤ a ∧ R ≤ b) ∨ costOK R (a, b, c) = false then (1 : Int) else 0) = 1) := by show _ = _; rw [if_pos (.inr (.inr (by unfold costOK; rw [if_pos hra]; exact decide_eq_false (by dsimp only; omega))))]
            clear hab
            go_wp2
            go_ret
            exact ⟨by rw [HAL.out, HX.out]; rfl, below_drewN B2.out _⟩
          · have e4 : decide (0 < c) = false := decide_eq_false h1
            have HX : Hid ((if a = b ∨ (R ≤ a ∧ R ≤ b) ∨ costOK R (a, b, c) = false then (1 : Int) else 0) = 0) := by show _ = _; rw [if_neg (by rintro (h | h | h); exact hab h; exact hrb h.2; (unfold costOK at h; rw [if_pos hra] at h; have := of_decide_eq_false h; dsimp only at this; omega))]
            clear hab
            go_wp2
            go_ret
            exact ⟨by rw [HAL.out, HX.out]; rfl, below_drewN B2.out _⟩
    · have e2 : decide (R ≤ a) = false := decide_eq_false hra
      by_cases h0 : c < 1
      · have HX : Hid ((if a = b ∨ (R ≤ a ∧ R ≤ b) ∨ costOK R (a, b, c) = false then (1 : Int) else 0) = 1) := by show _ = _; rw [if_pos (.inr (.inr (by unfold costOK; rw [if_neg hra]; exact decide_eq_false (by dsimp only; omega))))]
        clear hab
        go_wp2
        go_ret
        exact ⟨by rw [HAL.out, HX.out]; rfl, below_drewN B2.out _⟩
      · have e3 : decide (c < 1) = false := decide_eq_false h0
        by_cases h1 : 65535 < c
        · have HX : Hid ((if a = b ∨ (R ≤ a ∧ R ≤ b) ∨ costOK R (a, b, c) = false then (1 : Int) else 0) = 1) := by show _ = _; rw [if_pos (.inr (.inr (by unfold costOK; rw [if_neg hra]; exact decide_eq_false (by dsimp only; omega))))]
          clear hab
          go_wp2
          go_ret
          exact ⟨by rw [HAL.out, HX.out]; rfl, below_drewN B2.out _⟩
        · have e4 : decide (65535 < c) = false := decide_eq_false h1
          have HX : Hid ((if a = b ∨ (R ≤ a ∧ R ≤ b) ∨ costOK R (a, b, c) = false then (1 : Int) else 0) = 0) := by show _ = _; rw [if_neg (by rintro (h | h | h); exact hab h; exact hra h.1; (unfold costOK at h; rw [if_neg hra] at h; have := of_decide_eq_false h; dsimp only at this; omega))]
          clear hab
          go_wp2
          go_ret
          exact ⟨by rw [HAL.out, HX.out]; rfl, below_drewN B2.out _⟩
theorem allowed_any (R N : Int) (s : Value) (e : E) (w : World) (hR : 0 ≤ R) (hN : 0 ≤ N) (hs : R + N ≤ 128) :
    Calls Try.prog 41 #[.agg #[.int .i64 R, .int .i64 N, s], .agg #[.int .i64 e.1, .int .i64 e.2.1, .int .i64 e.2.2]] w fun en w' => en = .returned (.int .i64 (alw R N e)) ∧ Below w.heap.size w w' := by
  by_cases hb : isN R N e.1 = true ∧ isN R N e.2.1 = true
  · exact allowed_in R N s e w hR hN hs hb
  · rw [show alw R N e = 5 by unfold alw; rw [if_neg hb]]
    exact allowed_bad R N s e w hR hN hs hb
theorem isNaN_any (x : Int) (w : World) : Calls Try.prog 63 #[.int .i64 x] w fun e w' => e = .returned (.bool false) ∧ w = w' := by
  go_enter Try.func63, Try.ntmps63
  go_wp2
  go_ret
  exact ⟨by simp, rfl⟩
def cmpZ (x y : Int) : Int := if x < y then -1 else if y < x then 1 else 0
theorem compare_any (x y : Int) (w : World) : Calls Try.prog 54 #[.int .i64 x, .int .i64 y] w fun e w' => e = .returned (.int .i64 (cmpZ x y)) ∧ w = w' := by
  rcases (by omega : x < y ∨ y < x ∨ x = y) with h | h | h
  · have H : Hid (cmpZ x y = -1) := by show _ = _; unfold cmpZ; rw [if_pos h]
    go_enter Try.func54, Try.ntmps54
    go_wp2_with (go_at_call 63; refine (isNaN_any _ _).mono ?_; rintro e w1 ⟨rfl, rfl⟩)
    go_ret
    exact ⟨by rw [H.out]; rfl, rfl⟩
  · have H : Hid (cmpZ x y = 1) := by show _ = _; unfold cmpZ; rw [if_neg (by omega), if_pos h]
    have h' : ¬ x < y := by omega
    go_enter Try.func54, Try.ntmps54
    go_wp2_with (go_at_call 63; refine (isNaN_any _ _).mono ?_; rintro e w1 ⟨rfl, rfl⟩)
    go_ret
    exact ⟨by rw [H.out]; rfl, rfl⟩
  · have H : Hid (cmpZ x y = 0) := by show _ = _; unfold cmpZ; rw [if_neg (by omega), if_neg (by omega)]
    have h' : ¬ x < y := by omega
    have h'' : ¬ y < x := by omega
    clear h
    go_enter Try.func54, Try.ntmps54
    go_wp2_with (go_at_call 63; refine (isNaN_any _ _).mono ?_; rintro e w1 ⟨rfl, rfl⟩)
    go_ret
    exact ⟨by rw [H.out]; rfl, rfl⟩
def orZ (x y : Int) : Int := if x = 0 then y else x
theorem or2_any (x y : Int) (g : Nat) (w : World) (hc : w.heap[g]? = some (.cells #[.int .i64 x, .int .i64 y] 3 (0, 0))) : Calls Try.prog 53 #[.slice (some ⟨g, 0, none⟩) 2 2] w fun e w' => e = .returned (.int .i64 (orZ x y)) ∧ w = w' := by
  have HC : Hid (∀ k : Nat, k < 2 → w.cell? ⟨g, k, none⟩ = some (.int .i64 (if k = 0 then x else y))) := fun k hk => by
    rcases (by omega : k = 0 ∨ k = 1) with rfl | rfl
    · exact cell_of hc rfl
    · exact cell_of hc rfl
  clear hc
  go_enter Try.func53, Try.ntmps53
  go_wp2_with fail
  go_loopg [8, 5] 2 (fun g s8 s5 wr => ∃ k : Nat, k ≤ 2 ∧ 2 - k ≤ g ∧ s8 = .int .i64 (k : Int) ∧ (∃ v, v = s5) ∧ Hid (orZ x y = if k = 0 then orZ x y else if k = 1 then y else 0) ∧ w = wr)
  case atStart => exact ⟨0, by omega, by omega, rfl, ⟨_, rfl⟩, rfl, rfl⟩
  case round =>
    obtain ⟨k, hk, hkg, rfl, ⟨v5, rfl⟩, HO, rfl⟩ := hrel
    by_cases hlt : k < 2
    · have c := HC.out k hlt
      have hE : (if k = 0 then x else y) = (if k = 0 then x else y) := rfl
      by_cases hz : (if k = 0 then x else y) = 0
      · have HO2 : Hid (orZ x y = if k + 1 = 0 then orZ x y else if k + 1 = 1 then y else 0) := by
          show _ = _
          have h1 := HO.out
          rcases (by omega : k = 0 ∨ k = 1) with rfl | rfl
          · simp at hz ⊢; unfold orZ; rw [if_pos hz]
          · simp at hz h1 ⊢; rw [h1, hz]
        rw [hz] at c
        clear hz hE HO
        go_wp2
        go_roundg (2 - (k + 1))
        case measure => omega
        case rel => exact ⟨k + 1, by omega, Nat.le_refl _, by go_num, ⟨_, rfl⟩, HO2, rfl⟩
      · have HO2 : Hid (orZ x y = if k = 0 then x else y) := by
          show _ = _
          have h1 := HO.out
          rcases (by omega : k = 0 ∨ k = 1) with rfl | rfl
          · simp at hz ⊢; unfold orZ; rw [if_neg hz]
          · simp at hz h1 ⊢; rw [h1]
        clear hE HO
        generalize (if k = 0 then x else y) = z at *
        have hz1 : (z == 0) = false := by simpa using hz
        have hz2 : (z != 0) = true := by simpa using hz
        clear hz
        go_wp2
        go_ret
        exact ⟨by rw [HO2.out]; rfl, rfl⟩
    · have HO2 : Hid (orZ x y = 0) := by
        have h1 := HO.out
        rw [show k = 2 by omega] at h1; exact h1
      clear HO
      go_wp2
      go_ret
      exact ⟨by rw [HO2.out]; rfl, rfl⟩
theorem ordC_or (a b : E) : ordC a b = orZ (cmpZ a.1 b.1) (cmpZ a.2.1 b.2.1) := by
  unfold ordC orZ cmpZ
  split
  · simp
  · split
    · simp
    · simp
/-- the world has grown by blocks, and has drawn -/
def Gr (w w' : World) : Prop := ∃ q os, w' = grow (w.drewN q) os
theorem Gr.refl (w : World) : Gr w w := ⟨0, #[], by simp [grow, World.drewN]⟩
theorem Gr.alloc {w W : World} (h : Gr w W) (o : Obj) : Gr w (W.alloc o) := by
  obtain ⟨q, os, rfl⟩ := h
  exact ⟨q, os.push o, by simp [grow, World.alloc, World.drewN]⟩
theorem Gr.drewN {w W : World} (h : Gr w W) (n : Nat) : Gr w (W.drewN n) := by
  obtain ⟨q, os, rfl⟩ := h
  exact ⟨q + n, os, by simp [grow, World.drewN, Nat.add_assoc]⟩
theorem Gr.drew {w W : World} (h : Gr w W) : Gr w W.drew := h.drewN 1
theorem Gr.trans {a b c : World} (h : Gr a b) (k : Gr b c) : Gr a c := by
  obtain ⟨q, os, rfl⟩ := h
  obtain ⟨q', os', rfl⟩ := k
  exact ⟨q + q', os ++ os', by simp [grow, World.drewN, Nat.add_assoc]⟩
theorem Gr.below {w W : World} (h : Gr w W) : Below w.heap.size w W := by
  obtain ⟨q, os, rfl⟩ := h
  exact ⟨rfl, rfl, rfl, by simp [grow, World.drewN], fun k hk => by simp [grow, World.drewN, Array.getElem?_append, hk]⟩
theorem below_lt {w W : World} (h : Gr w W) {g : Nat} {o : Obj} (hc : w.heap[g]? = some o) : W.heap[g]? = some o := (h.below.block g (lt_block hc)).trans hc
theorem order_any (a b : E) (w : World) : Calls Try.prog 42 #[.agg #[.int .i64 a.1, .int .i64 a.2.1, .int .i64 a.2.2], .agg #[.int .i64 b.1, .int .i64 b.2.1, .int .i64 b.2.2]] w fun e w' => e = .returned (.int .i64 (ordC a b)) ∧ Gr w w' := by
  have HO := Lib.hid (ordC_or a b)
  obtain ⟨a0, a1, a2⟩ := a
  obtain ⟨b0, b1, b2⟩ := b
  dsimp only at HO ⊢
  have G2 := Lib.hid (((Gr.refl w).alloc (.cells #[.int .i64 a0, .int .i64 a1, .int .i64 a2] 46)).alloc (.cells #[.int .i64 b0, .int .i64 b1, .int .i64 b2] 46))
  go_enter Try.func42, Try.ntmps42
  go_wp2_with fail
  have h0 : ((w.alloc (.cells #[.int .i64 a0, .int .i64 a1, .int .i64 a2] 46)).alloc (.cells #[.int .i64 b0, .int .i64 b1, .int .i64 b2] 46)).heap[w.heap.size]? = some (.cells #[.int .i64 a0, .int .i64 a1, .int .i64 a2] 46 (0, 0)) := (Below.heap_alloc _ _ _ (by simp)).trans (heap_alloc_new _ _)
  have h1 : ((w.alloc (.cells #[.int .i64 a0, .int .i64 a1, .int .i64 a2] 46)).alloc (.cells #[.int .i64 b0, .int .i64 b1, .int .i64 b2] 46)).heap[w.heap.size + 1]? = some (.cells #[.int .i64 b0, .int .i64 b1, .int .i64 b2] 46 (0, 0)) := by
    have := heap_alloc_new (w.alloc (.cells #[.int .i64 a0, .int .i64 a1, .int .i64 a2] 46)) (.cells #[.int .i64 b0, .int .i64 b1, .int .i64 b2] 46)
    rwa [show (w.alloc _).heap.size = w.heap.size + 1 by simp] at this
  generalize (w.alloc (.cells #[.int .i64 a0, .int .i64 a1, .int .i64 a2] 46)).alloc (.cells #[.int .i64 b0, .int .i64 b1, .int .i64 b2] 46) = W2 at *
  have HSZ : Hid (w.heap.size + 1 < W2.heap.size) := lt_block h1
  have c0 : W2.cell? ⟨w.heap.size, 0, none⟩ = some (.int .i64 a0) := cell_of h0 rfl
  have c1 : W2.cell? ⟨w.heap.size, 1, none⟩ = some (.int .i64 a1) := cell_of h0 rfl
  have d0 : W2.cell? ⟨w.heap.size + 1, 0, none⟩ = some (.int .i64 b0) := cell_of h1 rfl
  have d1 : W2.cell? ⟨w.heap.size + 1, 1, none⟩ = some (.int .i64 b1) := cell_of h1 rfl
  have n0 := World.new_ne W2 _ c0
  have n1 := World.new_ne W2 _ d0
  clear h0 h1
  go_region_held3 (fun w' => w'.cell? ⟨w.heap.size, 0, none⟩ = some (.int .i64 a0) ∧ w'.cell? ⟨w.heap.size, 1, none⟩ = some (.int .i64 a1) ∧ w'.cell? ⟨w.heap.size + 1, 0, none⟩ = some (.int .i64 b0) ∧ w'.cell? ⟨w.heap.size + 1, 1, none⟩ = some (.int .i64 b1))
    (first | exact ⟨c0, c1, d0, d1⟩ | assumption | go_keep)
    (first
      | (go_at_call 54; refine (compare_any _ _ _).mono ?_; rintro e w3 ⟨rfl, rfl⟩)
      | (go_at_call 53; refine (or2_any (cmpZ a0 b0) (cmpZ a1 b1) W2.heap.size _ (by first | exact heap_alloc_new _ _ | exact heap_alloc_new W2 _ | exact heap_alloc_new W2.drew _)).mono ?_; rintro e w3 ⟨rfl, rfl⟩))
  go_wp2
  go_ret
  exact ⟨by rw [HO.out]; rfl, (G2.out.alloc _).drew⟩
def ldB (e : E) (a b : Int) : Bool := decide (e.1 = a ∧ e.2.1 = b)
end Go.Proofs.Ytmlpbhankgojpaa
