/-
  The walks of a graph's small functions: isNode, allowed, cmp.Compare, cmp.Or of two, order, leads. The walks of graph.Check and of the reference's Check. The walks of the reference's Node, Size, Allowed, Before and Check. The walk of the reference's Allowed. The walk of the reference's Check. The walks of the reference's Find and Same. The walks of Cost, of the reference's Cost, SameInts.
-/
import Derived.Test.YtmbogobebllheaaMh
import Derived.Test.YtmbogobebllheaaMm
import Derived.Sort.Grow
namespace Go.Proofs.Ytmbogobebllheaa
open Go.RowKit GM Go.Sort
set_option linter.unusedSimpArgs false
set_option linter.unusedVariables false
set_option maxHeartbeats 4000000
set_option maxRecDepth 100000

theorem bcell {W w1 : World} (hb : Below W.heap.size W w1) : (∀ b o, b < W.heap.size → w1.cell? ⟨b, o, none⟩ = W.cell? ⟨b, o, none⟩) ∧ (∀ b o, b < W.heap.size → w1.frozen? ⟨b, o, none⟩ = W.frozen? ⟨b, o, none⟩) :=
  ⟨fun b o h => hb.cell (p := ⟨b, o, none⟩) h, fun b o h => hb.frozen (p := ⟨b, o, none⟩) h⟩
theorem isNode_any (R N : Int) (s : Value) (x : Int) (w : World) (hR : 0 ≤ R) (hN : 0 ≤ N) (hs : R + N ≤ 128) :
    Calls Try.prog 133 #[.agg #[.int .i64 R, .int .i64 N, s], .int .i64 x] w fun e w' => e = .returned (.bool (isN R N x)) ∧ Below w.heap.size w w' := by
  by_cases h0 : 0 ≤ x
  · have H : Hid (isN R N x = decide (x < R + N)) := by show _ = _; unfold isN; exact decide_eq_decide.2 ⟨fun h => h.2, fun h => ⟨h0, h⟩⟩
    go_enter Try.func133, Try.ntmps133
    go_wp2
    go_ret
    exact ⟨by rw [H.out]; rfl, below_alloc _ _⟩
  · have H : Hid (isN R N x = false) := decide_eq_false (fun h => h0 h.1)
    have h1 : decide (0 ≤ x) = false := decide_eq_false h0
    go_enter Try.func133, Try.ntmps133
    go_wp2
    go_ret
    exact ⟨by rw [H.out]; rfl, below_alloc _ _⟩
theorem carryB {B : Nat} {W w1 : World} {b o : Nat} {v : Value} (hb : Below B W w1) (hlt : b < B) (h : W.cell? ⟨b, o, none⟩ = some v) : w1.cell? ⟨b, o, none⟩ = some v := (hb.cell (p := ⟨b, o, none⟩) hlt).trans h
theorem below_two (w : World) (a b : Obj) : Below w.heap.size w ((w.alloc a).alloc b) := below_then (below_alloc _ _) (below_alloc _ _)
/-- From or To is no node -/
theorem allowed_bad (R N : Int) (s : Value) (e : E) (w : World) (hR : 0 ≤ R) (hN : 0 ≤ N) (hs : R + N ≤ 128) (hb : ¬ (isN R N e.1 = true ∧ isN R N e.2.1 = true)) :
    Calls Try.prog 106 #[.agg #[.int .i64 R, .int .i64 N, s], .agg #[.int .i64 e.1, .int .i64 e.2.1, .int .i64 e.2.2]] w fun en w' => en = .returned (.int .i64 5) ∧ Below w.heap.size w w' := by
  obtain ⟨a, b, c⟩ := e
  dsimp only at hb ⊢
  have HA : Hid (∀ W, Calls Try.prog 133 #[.agg #[.int .i64 R, .int .i64 N, s], .int .i64 a] W fun e w' => e = .returned (.bool (isN R N a)) ∧ Below W.heap.size W w') := fun W => isNode_any R N s a W hR hN hs
  have HB : Hid (∀ W, Calls Try.prog 133 #[.agg #[.int .i64 R, .int .i64 N, s], .int .i64 b] W fun e w' => e = .returned (.bool (isN R N b)) ∧ Below W.heap.size W w') := fun W => isNode_any R N s b W hR hN hs
  cases ha : isN R N a
  · rw [ha] at HA
    clear hb ha HB
    go_enter Try.func106, Try.ntmps106
    go_wp2_with (go_at_call 133; refine (HA.out _).mono ?_; rintro e w1 ⟨rfl, hb1⟩; have B1 := Lib.hid hb1; clear hb1)
    go_ret
    exact ⟨rfl, below_then (below_two _ _ _) B1.out⟩
  · cases hbb : isN R N b
    · rw [ha] at HA
      rw [hbb] at HB
      clear hb ha hbb
      go_enter Try.func106, Try.ntmps106
      go_wp2_with fail
      go_at_call 133
      refine (HA.out _).mono ?_
      rintro e w1 ⟨rfl, hb1⟩
      obtain ⟨hc1, hf1⟩ := bcell hb1
      have hz1 : w.heap.size + 1 < w1.heap.size := by have := hb1.size; simp at this; omega
      have B1 := Lib.hid hb1
      clear hb1
      go_wp2_with (go_at_call 133; refine (HB.out _).mono ?_; rintro e w2 ⟨rfl, hb2⟩; have B2 := Lib.hid hb2; clear hb2)
      go_ret
      exact ⟨rfl, below_then (below_then (below_two _ _ _) B1.out) B2.out⟩
    · exact absurd ⟨ha, hbb⟩ hb
theorem allowed_in (R N : Int) (s : Value) (e : E) (w : World) (hR : 0 ≤ R) (hN : 0 ≤ N) (hs : R + N ≤ 128) (hb : isN R N e.1 = true ∧ isN R N e.2.1 = true) :
    Calls Try.prog 106 #[.agg #[.int .i64 R, .int .i64 N, s], .agg #[.int .i64 e.1, .int .i64 e.2.1, .int .i64 e.2.2]] w fun en w' => en = .returned (.int .i64 (alw R N e)) ∧ Below w.heap.size w w' := by
  have HAL : Hid (alw R N e = if e.1 = e.2.1 ∨ (R ≤ e.1 ∧ R ≤ e.2.1) ∨ costOK R e = false then 1 else 0) := by show _ = _; unfold alw; rw [if_pos hb]
  obtain ⟨a, b, c⟩ := e
  dsimp only at hb ⊢
  have HA : Hid (∀ W, Calls Try.prog 133 #[.agg #[.int .i64 R, .int .i64 N, s], .int .i64 a] W fun e w' => e = .returned (.bool true) ∧ Below W.heap.size W w') := fun W => by
    have := isNode_any R N s a W hR hN hs; rwa [hb.1] at this
  have HB : Hid (∀ W, Calls Try.prog 133 #[.agg #[.int .i64 R, .int .i64 N, s], .int .i64 b] W fun e w' => e = .returned (.bool true) ∧ Below W.heap.size W w') := fun W => by
    have := isNode_any R N s b W hR hN hs; rwa [hb.2] at this
  clear hb
  go_enter Try.func106, Try.ntmps106
  go_wp2_with fail
  go_at_call 133
  refine (HA.out _).mono ?_
  rintro e w1 ⟨rfl, hb1⟩
  obtain ⟨hc1, hf1⟩ := bcell hb1
  have hz1 : w.heap.size + 1 < w1.heap.size := by have := hb1.size; simp at this; omega
  have B1 := Lib.hid hb1
  clear hb1
  go_wp2_with fail
  go_at_call 133
  refine (HB.out _).mono ?_
  rintro e w2 ⟨rfl, hb2⟩
  obtain ⟨hc2, hf2⟩ := bcell hb2
  have c0 : w2.cell? ⟨w.heap.size, 0, none⟩ = some (.int .i64 R) := by rw [hc2 _ _ (by omega), hc1 _ _ (by simp; omega)]; simp [World.cell?_alloc_some]
  have d0 : w2.cell? ⟨w.heap.size + 1, 0, none⟩ = some (.int .i64 a) := by rw [hc2 _ _ (by omega), hc1 _ _ (by simp)]; simp
  have d1 : w2.cell? ⟨w.heap.size + 1, 1, none⟩ = some (.int .i64 b) := by rw [hc2 _ _ (by omega), hc1 _ _ (by simp)]; simp
  have d2 : w2.cell? ⟨w.heap.size + 1, 2, none⟩ = some (.int .i64 c) := by rw [hc2 _ _ (by omega), hc1 _ _ (by simp)]; simp
  have B2 := Lib.hid (below_then (below_then (below_two w (.cells #[.int .i64 R, .int .i64 N, s] 27) (.cells #[.int .i64 a, .int .i64 b, .int .i64 c] 72)) B1.out) hb2)
  clear hb2 hc1 hc2 hf1 hf2
  go_wp2_with fail
  go_quiet (fail)
  by_cases hab : a = b
  · have HX : Hid ((if a = b ∨ (R ≤ a ∧ R ≤ b) ∨ costOK R (a, b, c) = false then (1 : Int) else 0) = 1) := by show _ = _; rw [if_pos (.inl hab)]
    have e1 : (a == b) = true := by simpa using hab
    by_cases hra : R ≤ a
    · clear hab
      go_wp2
      go_ret
      exact ⟨by rw [HAL.out, HX.out]; rfl, below_drewN B2.out _⟩
    · have e2 : decide (R ≤ a) = false := decide_eq_false hra
      clear hab
      go_wp2
      go_ret
      exact ⟨by rw [HAL.out, HX.out]; rfl, below_drewN B2.out _⟩
  · have e1 : (a == b) = false := by simpa using hab
    by_cases hra : R ≤ a
    · by_cases hrb : R ≤ b
      · have HX : Hid ((if a = b ∨ (R ≤ a ∧ R ≤ b) ∨ costOK R (a, b, c) = false then (1 : Int) else 0) = 1) := by show _ = _; rw [if_pos (.inr (.inl ⟨hra, hrb⟩))]
        clear hab
        go_wp2
        go_ret
        exact ⟨by rw [HAL.out, HX.out]; rfl, below_drewN B2.out _⟩
      · have e2 : decide (R ≤ b) = false := decide_eq_false hrb
        by_cases h0 : c < 0
        · have HX : Hid ((if a = b ∨ (R ≤ a ∧ R ≤ b) ∨ costOK R (a, b, c) = false then (1 : Int) else 0) = 1) := by show _ = _; rw [if_pos (.inr (.inr (by unfold costOK; rw [if_pos hra]; exact decide_eq_false (by dsimp only; omega))))]
          clear hab
          go_wp2
          go_ret
          exact ⟨by rw [HAL.out, HX.out]; rfl, below_drewN B2.out _⟩
        · have e3 : decide (c < 0) = false := decide_eq_false h0
          by_cases h1 : 0 < c
          · have HX : Hid ((if a = b ∨ (R ≤ a ∧ R ≤ b) ∨ costOK R (a, b, c) = false then (1 : Int) else 0) = 1) := by show _ = _; rw [if_pos (.inr (.inr (by unfold costOK; rw [if_pos hra]; exact decide_eq_false (by dsimp only; omega))))]
            clear hab
            go_wp2
            go_ret
            exact ⟨by rw [HAL.out, HX.out]; rfl, below_drewN B2.out _⟩
          · have e4 : decide (0 < c) = false := decide_eq_false h1
            have HX : Hid ((if a = b ∨ (R ≤ a ∧ R ≤ b) ∨ costOK R (a, b, c) = false then (1 : Int) else 0) = 0) := by show _ = _; rw [if_neg (by rintro (h | h | h); exact hab h; exact hrb h.2; (unfold costOK at h; rw [if_pos hra] at h; have := of_decide_eq_false h; dsimp only at this; omega))]
            clear hab
            go_wp2
            go_ret
            exact ⟨by rw [HAL.out, HX.out]; rfl, below_drewN B2.out _⟩
    · have e2 : decide (R ≤ a) = false := decide_eq_false hra
      by_cases h0 : c < 1
      · have HX : Hid ((if a = b ∨ (R ≤ a ∧ R ≤ b) ∨ costOK R (a, b, c) = false then (1 : Int) else 0) = 1) := by show _ = _; rw [if_pos (.inr (.inr (by unfold costOK; rw [if_neg hra]; exact decide_eq_false (by dsimp only; omega))))]
        clear hab
        go_wp2
        go_ret
        exact ⟨by rw [HAL.out, HX.out]; rfl, below_drewN B2.out _⟩
      · have e3 : decide (c < 1) = false := decide_eq_false h0
        by_cases h1 : 65535 < c
        · have HX : Hid ((if a = b ∨ (R ≤ a ∧ R ≤ b) ∨ costOK R (a, b, c) = false then (1 : Int) else 0) = 1) := by show _ = _; rw [if_pos (.inr (.inr (by unfold costOK; rw [if_neg hra]; exact decide_eq_false (by dsimp only; omega))))]
          clear hab
          go_wp2
          go_ret
          exact ⟨by rw [HAL.out, HX.out]; rfl, below_drewN B2.out _⟩
        · have e4 : decide (65535 < c) = false := decide_eq_false h1
          have HX : Hid ((if a = b ∨ (R ≤ a ∧ R ≤ b) ∨ costOK R (a, b, c) = false then (1 : Int) else 0) = 0) := by show _ = _; rw [if_neg (by rintro (h | h | h); exact hab h; exact hra h.1; (unfold costOK at h; rw [if_neg hra] at h; have := of_decide_eq_false h; dsimp only at this; omega))]
          clear hab
          go_wp2
          go_ret
          exact ⟨by rw [HAL.out, HX.out]; rfl, below_drewN B2.out _⟩
theorem allowed_any (R N : Int) (s : Value) (e : E) (w : World) (hR : 0 ≤ R) (hN : 0 ≤ N) (hs : R + N ≤ 128) :
    Calls Try.prog 106 #[.agg #[.int .i64 R, .int .i64 N, s], .agg #[.int .i64 e.1, .int .i64 e.2.1, .int .i64 e.2.2]] w fun en w' => en = .returned (.int .i64 (alw R N e)) ∧ Below w.heap.size w w' := by
  by_cases hb : isN R N e.1 = true ∧ isN R N e.2.1 = true
  · exact allowed_in R N s e w hR hN hs hb
  · rw [show alw R N e = 5 by unfold alw; rw [if_neg hb]]
    exact allowed_bad R N s e w hR hN hs hb
theorem isNaN_any (x : Int) (w : World) : Calls Try.prog 148 #[.int .i64 x] w fun e w' => e = .returned (.bool false) ∧ w = w' := by
  go_enter Try.func148, Try.ntmps148
  go_wp2
  go_ret
  exact ⟨by simp, rfl⟩
def cmpZ (x y : Int) : Int := if x < y then -1 else if y < x then 1 else 0
theorem compare_any (x y : Int) (w : World) : Calls Try.prog 121 #[.int .i64 x, .int .i64 y] w fun e w' => e = .returned (.int .i64 (cmpZ x y)) ∧ w = w' := by
  rcases (by omega : x < y ∨ y < x ∨ x = y) with h | h | h
  · have H : Hid (cmpZ x y = -1) := by show _ = _; unfold cmpZ; rw [if_pos h]
    go_enter Try.func121, Try.ntmps121
    go_wp2_with (go_at_call 148; refine (isNaN_any _ _).mono ?_; rintro e w1 ⟨rfl, rfl⟩)
    go_ret
    exact ⟨by rw [H.out]; rfl, rfl⟩
  · have H : Hid (cmpZ x y = 1) := by show _ = _; unfold cmpZ; rw [if_neg (by omega), if_pos h]
    have h' : ¬ x < y := by omega
    go_enter Try.func121, Try.ntmps121
    go_wp2_with (go_at_call 148; refine (isNaN_any _ _).mono ?_; rintro e w1 ⟨rfl, rfl⟩)
    go_ret
    exact ⟨by rw [H.out]; rfl, rfl⟩
  · have H : Hid (cmpZ x y = 0) := by show _ = _; unfold cmpZ; rw [if_neg (by omega), if_neg (by omega)]
    have h' : ¬ x < y := by omega
    have h'' : ¬ y < x := by omega
    clear h
    go_enter Try.func121, Try.ntmps121
    go_wp2_with (go_at_call 148; refine (isNaN_any _ _).mono ?_; rintro e w1 ⟨rfl, rfl⟩)
    go_ret
    exact ⟨by rw [H.out]; rfl, rfl⟩
def orZ (x y : Int) : Int := if x = 0 then y else x
theorem or2_any (x y : Int) (g : Nat) (w : World) (hc : w.heap[g]? = some (.cells #[.int .i64 x, .int .i64 y] 3 (0, 0))) : Calls Try.prog 120 #[.slice (some ⟨g, 0, none⟩) 2 2] w fun e w' => e = .returned (.int .i64 (orZ x y)) ∧ w = w' := by
  have HC : Hid (∀ k : Nat, k < 2 → w.cell? ⟨g, k, none⟩ = some (.int .i64 (if k = 0 then x else y))) := fun k hk => by
    rcases (by omega : k = 0 ∨ k = 1) with rfl | rfl
    · exact cell_of hc rfl
    · exact cell_of hc rfl
  clear hc
  go_enter Try.func120, Try.ntmps120
  go_wp2_with fail
  go_loopg [8, 5] 2 (fun g s8 s5 wr => ∃ k : Nat, k ≤ 2 ∧ 2 - k ≤ g ∧ s8 = .int .i64 (k : Int) ∧ (∃ v, v = s5) ∧ Hid (orZ x y = if k = 0 then orZ x y else if k = 1 then y else 0) ∧ w = wr)
  case atStart => exact ⟨0, by omega, by omega, rfl, ⟨_, rfl⟩, rfl, rfl⟩
  case round =>
    obtain ⟨k, hk, hkg, rfl, ⟨v5, rfl⟩, HO, rfl⟩ := hrel
    by_cases hlt : k < 2
    · have c := HC.out k hlt
      have hE : (if k = 0 then x else y) = (if k = 0 then x else y) := rfl
      by_cases hz : (if k = 0 then x else y) = 0
      · have HO2 : Hid (orZ x y = if k + 1 = 0 then orZ x y else if k + 1 = 1 then y else 0) := by
          show _ = _
          have h1 := HO.out
          rcases (by omega : k = 0 ∨ k = 1) with rfl | rfl
          · simp at hz ⊢; unfold orZ; rw [if_pos hz]
          · simp at hz h1 ⊢; rw [h1, hz]
        rw [hz] at c
        clear hz hE HO
        go_wp2
        go_roundg (2 - (k + 1))
        case measure => omega
        case rel => exact ⟨k + 1, by omega, Nat.le_refl _, by go_num, ⟨_, rfl⟩, HO2, rfl⟩
      · have HO2 : Hid (orZ x y = if k = 0 then x else y) := by
          show _ = _
          have h1 := HO.out
          rcases (by omega : k = 0 ∨ k = 1) with rfl | rfl
          · simp at hz ⊢; unfold orZ; rw [if_neg hz]
          · simp at hz h1 ⊢; rw [h1]
        clear hE HO
        generalize (if k = 0 then x else y) = z at *
        have hz1 : (z == 0) = false := by simpa using hz
        have hz2 : (z != 0) = true := by simpa using hz
        clear hz
        go_wp2
        go_ret
        exact ⟨by rw [HO2.out]; rfl, rfl⟩
    · have HO2 : Hid (orZ x y = 0) := by
        have h1 := HO.out
        rw [show k = 2 by omega] at h1; exact h1
      clear HO
      go_wp2
      go_ret
      exact ⟨by rw [HO2.out]; rfl, rfl⟩
theorem ordC_or (a b : E) : ordC a b = orZ (cmpZ a.1 b.1) (cmpZ a.2.1 b.2.1) := by
  unfold ordC orZ cmpZ
  split
  · simp
  · split
    · simp
    · simp
/-- the world has grown by blocks, and has drawn -/
def Gr (w w' : World) : Prop := ∃ q os, w' = grow (w.drewN q) os
theorem Gr.refl (w : World) : Gr w w := ⟨0, #[], by simp [grow, World.drewN]⟩
theorem Gr.alloc {w W : World} (h : Gr w W) (o : Obj) : Gr w (W.alloc o) := by
  obtain ⟨q, os, rfl⟩ := h
  exact ⟨q, os.push o, by simp [grow, World.alloc, World.drewN]⟩
theorem Gr.drewN {w W : World} (h : Gr w W) (n : Nat) : Gr w (W.drewN n) := by
  obtain ⟨q, os, rfl⟩ := h
  exact ⟨q + n, os, by simp [grow, World.drewN, Nat.add_assoc]⟩
theorem Gr.drew {w W : World} (h : Gr w W) : Gr w W.drew := h.drewN 1
theorem Gr.trans {a b c : World} (h : Gr a b) (k : Gr b c) : Gr a c := by
  obtain ⟨q, os, rfl⟩ := h
  obtain ⟨q', os', rfl⟩ := k
  exact ⟨q + q', os ++ os', by simp [grow, World.drewN, Nat.add_assoc]⟩
theorem Gr.below {w W : World} (h : Gr w W) : Below w.heap.size w W := by
  obtain ⟨q, os, rfl⟩ := h
  exact ⟨rfl, rfl, rfl, by simp [grow, World.drewN], fun k hk => by simp [grow, World.drewN, Array.getElem?_append, hk]⟩
theorem order_any (a b : E) (w : World) : Calls Try.prog 107 #[.agg #[.int .i64 a.1, .int .i64 a.2.1, .int .i64 a.2.2], .agg #[.int .i64 b.1, .int .i64 b.2.1, .int .i64 b.2.2]] w fun e w' => e = .returned (.int .i64 (ordC a b)) ∧ Gr w w' := by
  have HO := Lib.hid (ordC_or a b)
  obtain ⟨a0, a1, a2⟩ := a
  obtain ⟨b0, b1, b2⟩ := b
  dsimp only at HO ⊢
  have G2 := Lib.hid (((Gr.refl w).alloc (.cells #[.int .i64 a0, .int .i64 a1, .int .i64 a2] 72)).alloc (.cells #[.int .i64 b0, .int .i64 b1, .int .i64 b2] 72))
  go_enter Try.func107, Try.ntmps107
  go_wp2_with fail
  have h0 : ((w.alloc (.cells #[.int .i64 a0, .int .i64 a1, .int .i64 a2] 72)).alloc (.cells #[.int .i64 b0, .int .i64 b1, .int .i64 b2] 72)).heap[w.heap.size]? = some (.cells #[.int .i64 a0, .int .i64 a1, .int .i64 a2] 72 (0, 0)) := (Below.heap_alloc _ _ _ (by simp)).trans (heap_alloc_new _ _)
  have h1 : ((w.alloc (.cells #[.int .i64 a0, .int .i64 a1, .int .i64 a2] 72)).alloc (.cells #[.int .i64 b0, .int .i64 b1, .int .i64 b2] 72)).heap[w.heap.size + 1]? = some (.cells #[.int .i64 b0, .int .i64 b1, .int .i64 b2] 72 (0, 0)) := by
    have := heap_alloc_new (w.alloc (.cells #[.int .i64 a0, .int .i64 a1, .int .i64 a2] 72)) (.cells #[.int .i64 b0, .int .i64 b1, .int .i64 b2] 72)
    rwa [show (w.alloc _).heap.size = w.heap.size + 1 by simp] at this
  generalize (w.alloc (.cells #[.int .i64 a0, .int .i64 a1, .int .i64 a2] 72)).alloc (.cells #[.int .i64 b0, .int .i64 b1, .int .i64 b2] 72) = W2 at *
  have HSZ : Hid (w.heap.size + 1 < W2.heap.size) := lt_block h1
  have c0 : W2.cell? ⟨w.heap.size, 0, none⟩ = some (.int .i64 a0) := cell_of h0 rfl
  have c1 : W2.cell? ⟨w.heap.size, 1, none⟩ = some (.int .i64 a1) := cell_of h0 rfl
  have d0 : W2.cell? ⟨w.heap.size + 1, 0, none⟩ = some (.int .i64 b0) := cell_of h1 rfl
  have d1 : W2.cell? ⟨w.heap.size + 1, 1, none⟩ = some (.int .i64 b1) := cell_of h1 rfl
  have n0 := World.new_ne W2 _ c0
  have n1 := World.new_ne W2 _ d0
  clear h0 h1
  go_region_held3 (fun w' => w'.cell? ⟨w.heap.size, 0, none⟩ = some (.int .i64 a0) ∧ w'.cell? ⟨w.heap.size, 1, none⟩ = some (.int .i64 a1) ∧ w'.cell? ⟨w.heap.size + 1, 0, none⟩ = some (.int .i64 b0) ∧ w'.cell? ⟨w.heap.size + 1, 1, none⟩ = some (.int .i64 b1))
    (first | exact ⟨c0, c1, d0, d1⟩ | assumption | go_keep)
    (first
      | (go_at_call 121; refine (compare_any _ _ _).mono ?_; rintro e w3 ⟨rfl, rfl⟩)
      | (go_at_call 120; refine (or2_any (cmpZ a0 b0) (cmpZ a1 b1) W2.heap.size _ (by first | exact heap_alloc_new _ _ | exact heap_alloc_new W2 _ | exact heap_alloc_new W2.drew _)).mono ?_; rintro e w3 ⟨rfl, rfl⟩))
  go_wp2
  go_ret
  exact ⟨by rw [HO.out]; rfl, (G2.out.alloc _).drew⟩
def ldB (e : E) (a b : Int) : Bool := decide (e.1 = a ∧ e.2.1 = b)
end Go.Proofs.Ytmbogobebllheaa
namespace Go.Proofs.Ytmbogobebllheaa
open Go.RowKit GM Go.Sort
set_option linter.unusedSimpArgs false
set_option linter.unusedVariables false
set_option maxHeartbeats 4000000
set_option maxRecDepth 100000

theorem rd3_slice {w : World} {v : Value} {l : List Tri} (h : Rd3 w v l) : ∃ ad cap, v = .slice ad l.length cap := by obtain ⟨ad, cap, rfl, _⟩ := h; exact ⟨ad, cap, rfl⟩
theorem chk_neg {R N : Int} {l : List E} (h : R < 0 ∨ N < 0) : chk R N l = 5 := by unfold chk; rw [if_pos h]
theorem chk_big {R N : Int} {l : List E} (h : ¬ (R < 0 ∨ N < 0)) (k : 128 < R + N ∨ 1024 < l.length) : chk R N l = 4 := by unfold chk; rw [if_neg h, if_pos k]
theorem chk_in {R N : Int} {l : List E} (h : ¬ (R < 0 ∨ N < 0)) (k : ¬ (128 < R + N ∨ 1024 < l.length)) : chk R N l = scan R N none l := by unfold chk; rw [if_neg h, if_neg k]
theorem check_neg (R N : Int) (s : Value) (l : List E) (w : World) (hr : Rd3 w s l) (h : R < 0 ∨ N < 0) :
    Calls Try.prog 57 #[.agg #[.int .i64 R, .int .i64 N, s]] w fun e w' => e = .returned (.int .i64 5) ∧ Below w.heap.size w w' := by
  obtain ⟨ad, cap, rfl⟩ := rd3_slice hr
  clear hr
  by_cases h0 : R < 0
  · clear h
    go_enter Try.func57, Try.ntmps57
    go_wp2
    go_ret
    exact ⟨rfl, below_alloc _ _⟩
  · have h1 : N < 0 := by omega
    have e0 : decide (R < 0) = false := decide_eq_false h0
    clear h
    go_enter Try.func57, Try.ntmps57
    go_wp2
    go_ret
    exact ⟨rfl, below_alloc _ _⟩
theorem check_big (R N : Int) (s : Value) (l : List E) (w : World) (hR : I64 R) (hN : I64 N) (hr : Rd3 w s l) (h : ¬ (R < 0 ∨ N < 0)) (k : 128 < R + N ∨ 1024 < l.length) :
    Calls Try.prog 57 #[.agg #[.int .i64 R, .int .i64 N, s]] w fun e w' => e = .returned (.int .i64 4) ∧ Below w.heap.size w w' := by
  obtain ⟨ad, cap, rfl⟩ := rd3_slice hr
  clear hr
  unfold I64 at hR hN
  have h0 : decide (R < 0) = false := decide_eq_false (by omega)
  have h1 : decide (N < 0) = false := decide_eq_false (by omega)
  have h0' : 0 ≤ R := by omega
  have h1' : 0 ≤ N := by omega
  have n2 := hN.2
  by_cases h2 : 128 - N < R
  · clear h k hR hN
    go_enter Try.func57, Try.ntmps57
    go_wp2
    go_ret
    exact ⟨rfl, below_alloc _ _⟩
  · have h3 : 1024 < l.length := by omega
    have e2 : decide (128 - N < R) = false := decide_eq_false h2
    clear h k hR hN
    go_enter Try.func57, Try.ntmps57
    go_wp2
    go_ret
    exact ⟨rfl, below_alloc _ _⟩
theorem check_in (R N : Int) (s : Value) (l : List E) (w : World) (hr : Rd3 w s l) (h : ¬ (R < 0 ∨ N < 0)) (k : ¬ (128 < R + N ∨ 1024 < l.length)) :
    Calls Try.prog 57 #[.agg #[.int .i64 R, .int .i64 N, s]] w fun e w' => e = .returned (.int .i64 (scan R N none l)) ∧ Below w.heap.size w w' := by
  obtain ⟨ad, cap, rfl, hcap1, hcap2, hc⟩ := hr
  have h0 : decide (R < 0) = false := decide_eq_false (by omega)
  have h1 : decide (N < 0) = false := decide_eq_false (by omega)
  have h0' : 0 ≤ R := by omega
  have h1' : 0 ≤ N := by omega
  have h2 : decide (128 - N < R) = false := decide_eq_false (by omega)
  have h3 : decide (1024 < (l.length : Int)) = false := decide_eq_false (by omega)
  have h3' : l.length ≤ 1024 := by omega
  have hs : R + N ≤ 128 := by omega
  have HC := Lib.hid hc
  have HAL : Hid (∀ e : E, ∀ s W, Calls Try.prog 106 #[.agg #[.int .i64 R, .int .i64 N, s], .agg #[.int .i64 e.1, .int .i64 e.2.1, .int .i64 e.2.2]] W fun en w' => en = .returned (.int .i64 (alw R N e)) ∧ Below W.heap.size W w') := fun e s W => allowed_any R N s e W h0' h1' hs
  clear hc h k
  obtain ⟨L, hL⟩ : ∃ L, l.length = L := ⟨_, rfl⟩
  rw [hL] at h3 h3' hcap1 ⊢
  have HL := Lib.hid hL
  clear hL
  go_enter Try.func57, Try.ntmps57
  go_wp2_with fail
  have bx : (w.alloc (.cells #[.int .i64 R, .int .i64 N, .slice ad L cap] 27)).heap[w.heap.size]? = some (.cells #[.int .i64 R, .int .i64 N, .slice ad L cap] 27 (0, 0)) := heap_alloc_new _ _
  have HS : Hid (Below w.heap.size w (w.alloc (.cells #[.int .i64 R, .int .i64 N, .slice ad L cap] 27)) ∧ (w.alloc (.cells #[.int .i64 R, .int .i64 N, .slice ad L cap] 27)).heap[w.heap.size]? = some (.cells #[.int .i64 R, .int .i64 N, .slice ad L cap] 27 (0, 0)) ∧ scan R N none l = scan R N (prevO l 0) (l.drop 0)) := ⟨below_alloc _ _, bx, rfl⟩
  clear bx
  go_loopg [29, 3, 4, 5] L (fun g s29 s3 s4 s5 wr => ∃ k : Nat, k ≤ L ∧ L - k ≤ g ∧ s29 = .int .i64 (k : Int) ∧ (∃ v, v = s3) ∧ (∃ v, v = s4) ∧ (∃ v, v = s5) ∧ Hid (Below w.heap.size w wr ∧ wr.heap[w.heap.size]? = some (.cells #[.int .i64 R, .int .i64 N, .slice ad L cap] 27 (0, 0)) ∧ scan R N none l = scan R N (prevO l k) (l.drop k)))
  case atStart => exact ⟨0, by omega, by omega, rfl, ⟨_, rfl⟩, ⟨_, rfl⟩, ⟨_, rfl⟩, HS⟩
  case round =>
    clear HS
    obtain ⟨k, hk, hkg, rfl, ⟨v3, rfl⟩, ⟨v4, rfl⟩, ⟨v5, rfl⟩, HS⟩ := hrel
    by_cases hlt : k < L
    · obtain ⟨e, he⟩ : ∃ x, l[k]? = some x := ⟨_, List.getElem?_eq_getElem (by have := HL.out; omega)⟩
      obtain ⟨b, off, e1, hbl, c0, c1, c2⟩ := HC.out k e he
      subst e1
      have d0 := carryB HS.out.1 hbl c0
      have d1 := carryB HS.out.1 hbl c1
      have d2 := carryB HS.out.1 hbl c2
      have hsd := scan_drop (R := R) (N := N) he
      have r0 : wr.cell? ⟨w.heap.size, 0, none⟩ = some (.int .i64 R) := cell_of HS.out.2.1 rfl
      have r1 : wr.cell? ⟨w.heap.size, 1, none⟩ = some (.int .i64 N) := cell_of HS.out.2.1 rfl
      have r2 : wr.cell? ⟨w.heap.size, 2, none⟩ = some (.slice (some ⟨b, off, none⟩) L cap) := cell_of HS.out.2.1 rfl
      have hbz : w.heap.size < wr.heap.size := lt_block HS.out.2.1
      have HAe : Hid (∀ s W, Calls Try.prog 106 #[.agg #[.int .i64 R, .int .i64 N, s], .agg #[.int .i64 e.1, .int .i64 e.2.1, .int .i64 e.2.2]] W fun en w' => en = .returned (.int .i64 (alw R N e)) ∧ Below W.heap.size W w') := fun s W => HAL.out e s W
      have k0 : (0 : Int) ≤ (k : Int) := by omega
      have k1 : (k : Int) < (L : Int) := by omega
      clear c0 c1 c2
      by_cases ha : alw R N e = 0
      · rw [if_neg (by simpa using ha)] at hsd
        cases k with
        | zero =>
          have HR : Hid (scan R N none l = scan R N (prevO l (0 + 1)) (l.drop (0 + 1))) := HS.out.2.2.trans (by rw [hsd]; rfl)
          rw [ha] at HAe
          obtain ⟨x, y, z⟩ := e
          dsimp only at d0 d1 d2 HAe
          have HB := Lib.hid HS.out.1
          have HBX := Lib.hid HS.out.2.1
          clear ha hsd HS he
          simp only [Nat.zero_mul, Nat.add_zero] at d0 d1 d2
          go_wp2_with fail
          go_at_call 106
          refine (HAe.out _ _).mono ?_
          rintro en w1 ⟨rfl, hb1⟩
          have B1 : Hid (Below w.heap.size w w1) := (HB.out.alloc HB.out.size _).trans (hb1.mono (by have := HB.out.size; simp; omega))
          have X1 : Hid (w1.heap[w.heap.size]? = some (.cells #[.int .i64 R, .int .i64 N, .slice (some ⟨b, off, none⟩) L cap] 27 (0, 0))) := (hb1.block _ (by simp; omega)).trans ((Below.heap_alloc _ _ _ hbz).trans HBX.out)
          clear hb1
          go_wp2_with fail
          go_quiet (fail)
          go_wp2_with fail
          go_roundg (L - (0 + 1))
          case measure => omega
          case rel => exact ⟨0 + 1, by omega, Nat.le_refl _, by go_num, ⟨_, rfl⟩, ⟨_, rfl⟩, ⟨_, rfl⟩, below_drewN B1.out _, X1.out, HR.out⟩
        | succ j =>
          obtain ⟨p, hp⟩ : ∃ x, l[j]? = some x := ⟨_, List.getElem?_eq_getElem (by have := HL.out; omega)⟩
          obtain ⟨b', off', e1, _, p0, p1, p2⟩ := HC.out j p hp
          cases e1
          have q0 := carryB HS.out.1 hbl p0
          have q1 := carryB HS.out.1 hbl p1
          have q2 := carryB HS.out.1 hbl p2
          have HO : Hid (∀ W, Calls Try.prog 107 #[.agg #[.int .i64 p.1, .int .i64 p.2.1, .int .i64 p.2.2], .agg #[.int .i64 e.1, .int .i64 e.2.1, .int .i64 e.2.2]] W fun en w' => en = .returned (.int .i64 (ordC p e)) ∧ Gr W w') := fun W => order_any p e W
          have hpe : pe (prevO l (j + 1)) e = bef p e := by show pe (l[j]?) e = _; rw [hp]; rfl
          rw [hpe] at hsd
          have HON := Lib.hid (ordC_nonneg (a := p) (b := e))
          have HSD := Lib.hid (HS.out.2.2.trans hsd)
          rw [ha] at HAe
          obtain ⟨x, y, z⟩ := e
          obtain ⟨px, py, pz⟩ := p
          dsimp only at d0 d1 d2 q0 q1 q2 HAe HO
          have HB := Lib.hid HS.out.1
          have HBX := Lib.hid HS.out.2.1
          have j0 : (0 : Int) ≤ (j : Int) := by omega
          have j1 : (j : Int) < (L : Int) := by omega
          have hjk : 0 < j + 1 := by omega
          clear ha hsd hpe HS he hp p0 p1 p2
          generalize ordC (px, py, pz) (x, y, z) = oc at *
          generalize bef (px, py, pz) (x, y, z) = bb at *
          go_wp2_with fail
          go_at_call 106
          refine (HAe.out _ _).mono ?_
          rintro en w1 ⟨rfl, hb1⟩
          have B1 : Hid (Below w.heap.size w w1) := (HB.out.alloc HB.out.size _).trans (hb1.mono (by have := HB.out.size; simp; omega))
          have X1 : Hid (w1.heap[w.heap.size]? = some (.cells #[.int .i64 R, .int .i64 N, .slice (some ⟨b, off, none⟩) L cap] 27 (0, 0))) := (hb1.block _ (by simp; omega)).trans ((Below.heap_alloc _ _ _ hbz).trans HBX.out)
          have E1 : Hid (w1.heap[wr.heap.size]? = some (.cells #[.int .i64 x, .int .i64 y, .int .i64 z] 72 (0, 0))) := (hb1.block _ (by simp)).trans (heap_alloc_new _ _)
          have g2 : w1.cell? ⟨w.heap.size, 2, none⟩ = some (.slice (some ⟨b, off, none⟩) L cap) := cell_of X1.out rfl
          have e0 : w1.cell? ⟨wr.heap.size, 0, none⟩ = some (.int .i64 x) := cell_of E1.out rfl
          have e1 : w1.cell? ⟨wr.heap.size, 1, none⟩ = some (.int .i64 y) := cell_of E1.out rfl
          have e2 : w1.cell? ⟨wr.heap.size, 2, none⟩ = some (.int .i64 z) := cell_of E1.out rfl
          have q0' := carry hb1 (Lib.cell?_alloc_some _ q0)
          have q1' := carry hb1 (Lib.cell?_alloc_some _ q1)
          have q2' := carry hb1 (Lib.cell?_alloc_some _ q2)
          clear hb1 q0 q1 q2 d0 d1 d2 r0 r1 r2
          have hjw : IntKind.i64.wrap ((j : Int)) = (j : Int) := IntWalk.i64_in _ (by omega)
          go_wp2_with fail
          go_region_held3 (fun w' => w'.cell? ⟨w.heap.size, 2, none⟩ = some (.slice (some ⟨b, off, none⟩) L cap) ∧ w'.cell? ⟨wr.heap.size, 0, none⟩ = some (.int .i64 x) ∧ w'.cell? ⟨wr.heap.size, 1, none⟩ = some (.int .i64 y) ∧ w'.cell? ⟨wr.heap.size, 2, none⟩ = some (.int .i64 z) ∧
              w'.cell? ⟨b, off + j * 3, none⟩ = some (.int .i64 px) ∧ w'.cell? ⟨b, off + j * 3 + 1, none⟩ = some (.int .i64 py) ∧ w'.cell? ⟨b, off + j * 3 + 2, none⟩ = some (.int .i64 pz))
            (first | exact ⟨g2, e0, e1, e2, q0', q1', q2'⟩ | assumption)
            (first | (go_at_call 107; refine (HO.out _).mono ?_; rintro en w2 ⟨rfl, hg⟩; have G := Lib.hid hg; have hk := (And.intro (carry hg.below (show w1.drew.cell? _ = _ from g2)) (And.intro (carry hg.below (show w1.drew.cell? _ = _ from e0)) (And.intro (carry hg.below (show w1.drew.cell? _ = _ from e1)) (And.intro (carry hg.below (show w1.drew.cell? _ = _ from e2)) (And.intro (carry hg.below (show w1.drew.cell? _ = _ from q0')) (And.intro (carry hg.below (show w1.drew.cell? _ = _ from q1')) (carry hg.below (show w1.drew.cell? _ = _ from q2')))))))); clear hg))
          all_goals (
            have B2 : Hid (Below w.heap.size w w2) := B1.out.trans ((⟨G.out.below.os, G.out.below.tape, G.out.below.output, G.out.below.size, G.out.below.block⟩ : Below w1.heap.size w1 w2).mono (by have := B1.out.size; omega))
            have X2 : Hid (w2.heap[w.heap.size]? = some (.cells #[.int .i64 R, .int .i64 N, .slice (some ⟨b, off, none⟩) L cap] 27 (0, 0))) := (G.out.below.block _ (by have := lt_block X1.out; simpa using this)).trans X1.out
            by_cases ho : 0 ≤ oc
            · have HR : Hid (scan R N none l = 16) := by show _ = _; have := HSD.out; rw [HON.out.1 ho] at this; simpa using this
              go_wp2
              go_ret
              exact ⟨by rw [HR.out]; rfl, B2.out⟩
            · have HR : Hid (scan R N none l = scan R N (prevO l (j + 1 + 1)) (l.drop (j + 1 + 1))) := by
                show _ = _
                have h1 := HSD.out
                have h2 : bb = true := by
                  cases hb : bb
                  · exact absurd (HON.out.2 hb) ho
                  · rfl
                rw [h2] at h1; simpa using h1
              have ho' : decide (0 ≤ oc) = false := decide_eq_false ho
              go_wp2_with fail
              go_roundg (L - (j + 1 + 1))
              case measure => omega
              case rel => exact ⟨j + 1 + 1, by omega, Nat.le_refl _, by go_num, ⟨_, rfl⟩, ⟨_, rfl⟩, ⟨_, rfl⟩, B2.out, X2.out, HR.out⟩)
      · rw [if_pos ha] at hsd
        have HR : Hid (scan R N none l = alw R N e) := HS.out.2.2.trans hsd
        obtain ⟨x, y, z⟩ := e
        dsimp only at d0 d1 d2 HAe
        generalize hz : alw R N (x, y, z) = q at *
        have hq1 : (q == 0) = false := by simpa using ha
        have hq2 : (q != 0) = true := by simpa using ha
        have HB := Lib.hid HS.out.1
        clear ha hz hsd HS he
        go_wp2_with (go_at_call 106; refine (HAe.out _ _).mono ?_; rintro en w1 ⟨rfl, hb1⟩; have B1 := Lib.hid hb1; clear hb1)
        go_ret
        exact ⟨by rw [HR.out]; rfl, (HB.out.alloc HB.out.size _).trans (B1.out.mono (by have := HB.out.size; simp; omega))⟩
    · have HR : Hid (scan R N none l = 0) := by
        have hkl : k = l.length := by have := HL.out; omega
        have := HS.out.2.2
        rw [hkl, scan_end] at this
        exact this
      go_wp2
      go_ret
      exact ⟨by rw [HR.out]; rfl, HS.out.1⟩
theorem check_any (R N : Int) (s : Value) (l : List E) (w : World) (hR : I64 R) (hN : I64 N) (hr : Rd3 w s l) :
    Calls Try.prog 57 #[.agg #[.int .i64 R, .int .i64 N, s]] w fun e w' => e = .returned (.int .i64 (chk R N l)) ∧ Below w.heap.size w w' := by
  by_cases h : R < 0 ∨ N < 0
  · rw [chk_neg h]; exact check_neg R N s l w hr h
  · by_cases k : 128 < R + N ∨ 1024 < l.length
    · rw [chk_big h k]; exact check_big R N s l w hR hN hr h k
    · rw [chk_in h k]; exact check_in R N s l w hr h k
end Go.Proofs.Ytmbogobebllheaa
namespace Go.Proofs.Ytmbogobebllheaa
open Go.RowKit GM Go.Sort
set_option linter.unusedSimpArgs false
set_option linter.unusedVariables false
set_option maxHeartbeats 4000000
set_option maxRecDepth 100000

theorem node_any (R N : Int) (s : Value) (x : Int) (w : World) (hR : 0 ≤ R) (hN : 0 ≤ N) (hs : R + N ≤ 128) (hx : I64 x) :
    Calls Try.prog 118 #[.agg #[.int .i64 R, .int .i64 N, s], .int .i64 x] w fun e w' => e = .returned (.bool (isN R N x)) ∧ Below w.heap.size w w' := by
  unfold I64 at hx
  by_cases h0 : 0 ≤ x
  · by_cases h1 : x < R
    · have H : Hid (isN R N x = true) := decide_eq_true ⟨h0, by omega⟩
      go_enter Try.func118, Try.ntmps118
      go_wp2
      go_ret
      exact ⟨by rw [H.out]; rfl, below_alloc _ _⟩
    · have e1 : decide (x < R) = false := decide_eq_false h1
      have H : Hid (isN R N x = decide (x - R < N)) := by show _ = _; unfold isN; exact decide_eq_decide.2 ⟨fun h => by omega, fun h => ⟨h0, by omega⟩⟩
      have hw : IntKind.i64.wrap (x - R) = x - R := IntWalk.i64_in _ (by omega)
      go_enter Try.func118, Try.ntmps118
      go_wp2
      go_ret
      exact ⟨by rw [H.out]; rfl, below_alloc _ _⟩
  · have H : Hid (isN R N x = false) := decide_eq_false (fun h => h0 h.1)
    have h1 : decide (0 ≤ x) = false := decide_eq_false h0
    clear hx
    go_enter Try.func118, Try.ntmps118
    go_wp2
    go_ret
    exact ⟨by rw [H.out]; rfl, below_alloc _ _⟩
theorem gbefore_any (a b : E) (w : World) : Calls Try.prog 81 #[.agg #[.int .i64 a.1, .int .i64 a.2.1, .int .i64 a.2.2], .agg #[.int .i64 b.1, .int .i64 b.2.1, .int .i64 b.2.2]] w fun e w' => e = .returned (.bool (bef a b)) ∧ Gr w w' := by
  have HB := Lib.hid (bef_iff (a := a) (b := b))
  obtain ⟨a0, a1, a2⟩ := a
  obtain ⟨b0, b1, b2⟩ := b
  dsimp only at HB ⊢
  have G2 := Lib.hid (((Gr.refl w).alloc (.cells #[.int .i64 a0, .int .i64 a1, .int .i64 a2] 72)).alloc (.cells #[.int .i64 b0, .int .i64 b1, .int .i64 b2] 72))
  by_cases h0 : a0 < b0
  · have H : Hid (bef (a0, a1, a2) (b0, b1, b2) = true) := HB.out.2 (.inl h0)
    go_enter Try.func81, Try.ntmps81
    go_wp2
    go_ret
    exact ⟨by rw [H.out]; rfl, G2.out⟩
  · have e0 : decide (a0 < b0) = false := decide_eq_false h0
    by_cases h1 : a0 = b0
    · subst h1
      by_cases h2 : a1 < b1
      · have H : Hid (bef (a0, a1, a2) (a0, b1, b2) = true) := HB.out.2 (.inr ⟨rfl, h2⟩)
        go_enter Try.func81, Try.ntmps81
        go_wp2
        go_ret
        exact ⟨by rw [H.out]; rfl, G2.out⟩
      · have e2 : decide (a1 < b1) = false := decide_eq_false h2
        have H : Hid (bef (a0, a1, a2) (a0, b1, b2) = false) := by
          show _ = _
          cases hb : bef (a0, a1, a2) (a0, b1, b2)
          · rfl
          · rcases HB.out.1 hb with h | h
            · exact absurd h h0
            · exact absurd h.2 h2
        go_enter Try.func81, Try.ntmps81
        go_wp2
        go_ret
        exact ⟨by rw [H.out]; rfl, G2.out⟩
    · have e1 : (a0 == b0) = false := by simpa using h1
      have H : Hid (bef (a0, a1, a2) (b0, b1, b2) = false) := by
        show _ = _
        cases hb : bef (a0, a1, a2) (b0, b1, b2)
        · rfl
        · rcases HB.out.1 hb with h | h
          · exact absurd h h0
          · exact absurd h.1 h1
      clear h1
      go_enter Try.func81, Try.ntmps81
      go_wp2
      go_ret
      exact ⟨by rw [H.out]; rfl, G2.out⟩
def szE (R N : Int) : Int := if R < 0 ∨ N < 0 then 5 else if 128 < R + N then 4 else 0
theorem size_any (R N : Int) (s : Value) (w : World) (hR : I64 R) (hN : I64 N) :
    Calls Try.prog 79 #[.agg #[.int .i64 R, .int .i64 N, s]] w fun e w' => e = .returned (.int .i64 (szE R N)) ∧ Below w.heap.size w w' := by
  unfold I64 at hR hN
  by_cases h0 : R < 0
  · have H : Hid (szE R N = 5) := by show _ = _; unfold szE; rw [if_pos (.inl h0)]
    go_enter Try.func79, Try.ntmps79
    go_wp2
    go_ret
    exact ⟨by rw [H.out]; rfl, below_alloc _ _⟩
  · have e0 : decide (R < 0) = false := decide_eq_false h0
    by_cases h1 : N < 0
    · have H : Hid (szE R N = 5) := by show _ = _; unfold szE; rw [if_pos (.inr h1)]
      go_enter Try.func79, Try.ntmps79
      go_wp2
      go_ret
      exact ⟨by rw [H.out]; rfl, below_alloc _ _⟩
    · have e1 : decide (N < 0) = false := decide_eq_false h1
      by_cases h2 : 128 < R
      · have H : Hid (szE R N = 4) := by show _ = _; unfold szE; rw [if_neg (by omega), if_pos (by omega)]
        go_enter Try.func79, Try.ntmps79
        go_wp2
        go_ret
        exact ⟨by rw [H.out]; rfl, below_alloc _ _⟩
      · have e2 : decide (128 < R) = false := decide_eq_false h2
        have hw : IntKind.i64.wrap (128 - R) = 128 - R := IntWalk.i64_in _ (by omega)
        by_cases h3 : 128 - R < N
        · have H : Hid (szE R N = 4) := by show _ = _; unfold szE; rw [if_neg (by omega), if_pos (by omega)]
          go_enter Try.func79, Try.ntmps79
          go_wp2
          go_ret
          exact ⟨by rw [H.out]; rfl, below_alloc _ _⟩
        · have e3 : decide (128 - R < N) = false := decide_eq_false h3
          have H : Hid (szE R N = 0) := by show _ = _; unfold szE; rw [if_neg (by omega), if_neg (by omega)]
          go_enter Try.func79, Try.ntmps79
          go_wp2
          go_ret
          exact ⟨by rw [H.out]; rfl, below_alloc _ _⟩
end Go.Proofs.Ytmbogobebllheaa
namespace Go.Proofs.Ytmbogobebllheaa
open Go.RowKit GM Go.Sort
set_option linter.unusedSimpArgs false
set_option linter.unusedVariables false
set_option maxHeartbeats 4000000
set_option maxRecDepth 100000

theorem rallowed_bad (R N : Int) (s : Value) (e : E) (w : World) (hR : 0 ≤ R) (hN : 0 ≤ N) (hs : R + N ≤ 128) (hf : I64 e.1 ∧ I64 e.2.1) (hb : ¬ (isN R N e.1 = true ∧ isN R N e.2.1 = true)) :
    Calls Try.prog 80 #[.agg #[.int .i64 R, .int .i64 N, s], .agg #[.int .i64 e.1, .int .i64 e.2.1, .int .i64 e.2.2]] w fun en w' => en = .returned (.int .i64 5) ∧ Below w.heap.size w w' := by
  obtain ⟨a, b, c⟩ := e
  dsimp only at hb hf ⊢
  have HA : Hid (∀ W, Calls Try.prog 118 #[.agg #[.int .i64 R, .int .i64 N, s], .int .i64 a] W fun e w' => e = .returned (.bool (isN R N a)) ∧ Below W.heap.size W w') := fun W => node_any R N s a W hR hN hs hf.1
  have HB : Hid (∀ W, Calls Try.prog 118 #[.agg #[.int .i64 R, .int .i64 N, s], .int .i64 b] W fun e w' => e = .returned (.bool (isN R N b)) ∧ Below W.heap.size W w') := fun W => node_any R N s b W hR hN hs hf.2
  clear hf
  cases ha : isN R N a
  · rw [ha] at HA
    clear hb ha HB
    go_enter Try.func80, Try.ntmps80
    go_wp2_with (go_at_call 118; refine (HA.out _).mono ?_; rintro e w1 ⟨rfl, hb1⟩; have B1 := Lib.hid hb1; clear hb1)
    go_ret
    exact ⟨rfl, below_then (below_two _ _ _) B1.out⟩
  · cases hbb : isN R N b
    · rw [ha] at HA
      rw [hbb] at HB
      clear hb ha hbb
      go_enter Try.func80, Try.ntmps80
      go_wp2_with fail
      go_at_call 118
      refine (HA.out _).mono ?_
      rintro e w1 ⟨rfl, hb1⟩
      obtain ⟨hc1, hf1⟩ := bcell hb1
      have hz1 : w.heap.size + 1 < w1.heap.size := by have := hb1.size; simp at this; omega
      have B1 := Lib.hid hb1
      clear hb1
      go_wp2_with (go_at_call 118; refine (HB.out _).mono ?_; rintro e w2 ⟨rfl, hb2⟩; have B2 := Lib.hid hb2; clear hb2)
      go_ret
      exact ⟨rfl, below_then (below_then (below_two _ _ _) B1.out) B2.out⟩
    · exact absurd ⟨ha, hbb⟩ hb
theorem rallowed_in (R N : Int) (s : Value) (e : E) (w : World) (hR : 0 ≤ R) (hN : 0 ≤ N) (hs : R + N ≤ 128) (hf : I64 e.1 ∧ I64 e.2.1) (hb : isN R N e.1 = true ∧ isN R N e.2.1 = true) :
    Calls Try.prog 80 #[.agg #[.int .i64 R, .int .i64 N, s], .agg #[.int .i64 e.1, .int .i64 e.2.1, .int .i64 e.2.2]] w fun en w' => en = .returned (.int .i64 (alw R N e)) ∧ Below w.heap.size w w' := by
  have HAL : Hid (alw R N e = if e.1 = e.2.1 ∨ (R ≤ e.1 ∧ R ≤ e.2.1) ∨ costOK R e = false then 1 else 0) := by show _ = _; unfold alw; rw [if_pos hb]
  obtain ⟨a, b, c⟩ := e
  dsimp only at hb hf ⊢
  have HA : Hid (∀ W, Calls Try.prog 118 #[.agg #[.int .i64 R, .int .i64 N, s], .int .i64 a] W fun e w' => e = .returned (.bool true) ∧ Below W.heap.size W w') := fun W => by
    have := node_any R N s a W hR hN hs hf.1; rwa [hb.1] at this
  have HB : Hid (∀ W, Calls Try.prog 118 #[.agg #[.int .i64 R, .int .i64 N, s], .int .i64 b] W fun e w' => e = .returned (.bool true) ∧ Below W.heap.size W w') := fun W => by
    have := node_any R N s b W hR hN hs hf.2; rwa [hb.2] at this
  clear hb hf
  go_enter Try.func80, Try.ntmps80
  go_wp2_with fail
  go_at_call 118
  refine (HA.out _).mono ?_
  rintro e w1 ⟨rfl, hb1⟩
  obtain ⟨hc1, hf1⟩ := bcell hb1
  have hz1 : w.heap.size + 1 < w1.heap.size := by have := hb1.size; simp at this; omega
  have B1 := Lib.hid hb1
  clear hb1
  go_wp2_with fail
  go_at_call 118
  refine (HB.out _).mono ?_
  rintro e w2 ⟨rfl, hb2⟩
  obtain ⟨hc2, hf2⟩ := bcell hb2
  have c0 : w2.cell? ⟨w.heap.size, 0, none⟩ = some (.int .i64 R) := by rw [hc2 _ _ (by omega), hc1 _ _ (by simp; omega)]; simp [World.cell?_alloc_some]
  have d0 : w2.cell? ⟨w.heap.size + 1, 0, none⟩ = some (.int .i64 a) := by rw [hc2 _ _ (by omega), hc1 _ _ (by simp)]; simp
  have d1 : w2.cell? ⟨w.heap.size + 1, 1, none⟩ = some (.int .i64 b) := by rw [hc2 _ _ (by omega), hc1 _ _ (by simp)]; simp
  have d2 : w2.cell? ⟨w.heap.size + 1, 2, none⟩ = some (.int .i64 c) := by rw [hc2 _ _ (by omega), hc1 _ _ (by simp)]; simp
  have B2 := Lib.hid (below_then (below_then (below_two w (.cells #[.int .i64 R, .int .i64 N, s] 27) (.cells #[.int .i64 a, .int .i64 b, .int .i64 c] 72)) B1.out) hb2)
  clear hb2 hc1 hc2 hf1 hf2
  by_cases hab : a = b
  · have HX : Hid (alw R N (a, b, c) = 1) := by show _ = _; rw [HAL.out, if_pos (.inl hab)]
    have e1 : (a == b) = true := by simpa using hab
    clear hab HAL
    go_wp2
    go_ret
    exact ⟨by rw [HX.out]; rfl, B2.out⟩
  · have e1 : (a == b) = false := by simpa using hab
    by_cases hra : R ≤ a
    · have ea : decide (a < R) = false := decide_eq_false (by omega)
      by_cases hrb : R ≤ b
      · have HX : Hid (alw R N (a, b, c) = 1) := by show _ = _; rw [HAL.out, if_pos (.inr (.inl ⟨hra, hrb⟩))]
        clear hab HAL
        go_wp2
        go_ret
        exact ⟨by rw [HX.out]; rfl, B2.out⟩
      · have e2 : decide (R ≤ b) = false := decide_eq_false hrb
        by_cases h0 : c = 0
        · have e3 : (c != 0) = false := by simpa using h0
          have HX : Hid (alw R N (a, b, c) = 0) := by show _ = _; rw [HAL.out, if_neg (by rintro (h | h | h); exact hab h; exact hrb h.2; (unfold costOK at h; rw [if_pos hra] at h; exact of_decide_eq_false h h0))]
          clear hab HAL h0
          go_wp2
          go_ret
          exact ⟨by rw [HX.out]; rfl, B2.out⟩
        · have e3 : (c != 0) = true := by simpa using h0
          have HX : Hid (alw R N (a, b, c) = 1) := by show _ = _; rw [HAL.out, if_pos (.inr (.inr (by unfold costOK; rw [if_pos hra]; exact decide_eq_false h0)))]
          clear hab HAL h0
          go_wp2
          go_ret
          exact ⟨by rw [HX.out]; rfl, B2.out⟩
    · have e2 : decide (R ≤ a) = false := decide_eq_false hra
      have hra' : a < R := by omega
      by_cases h0 : c < 1
      · have HX : Hid (alw R N (a, b, c) = 1) := by show _ = _; rw [HAL.out, if_pos (.inr (.inr (by unfold costOK; rw [if_neg hra]; exact decide_eq_false (by dsimp only; omega))))]
        clear hab HAL
        go_wp2
        go_ret
        exact ⟨by rw [HX.out]; rfl, B2.out⟩
      · have e3 : decide (c < 1) = false := decide_eq_false h0
        by_cases h1 : 65535 < c
        · have HX : Hid (alw R N (a, b, c) = 1) := by show _ = _; rw [HAL.out, if_pos (.inr (.inr (by unfold costOK; rw [if_neg hra]; exact decide_eq_false (by dsimp only; omega))))]
          clear hab HAL
          go_wp2
          go_ret
          exact ⟨by rw [HX.out]; rfl, B2.out⟩
        · have e4 : decide (65535 < c) = false := decide_eq_false h1
          have HX : Hid (alw R N (a, b, c) = 0) := by show _ = _; rw [HAL.out, if_neg (by rintro (h | h | h); exact hab h; exact hra h.1; (unfold costOK at h; rw [if_neg hra] at h; have := of_decide_eq_false h; dsimp only at this; omega))]
          clear hab HAL
          go_wp2
          go_ret
          exact ⟨by rw [HX.out]; rfl, B2.out⟩
theorem rallowed_any (R N : Int) (s : Value) (e : E) (w : World) (hR : 0 ≤ R) (hN : 0 ≤ N) (hs : R + N ≤ 128) (hf : I64 e.1 ∧ I64 e.2.1) :
    Calls Try.prog 80 #[.agg #[.int .i64 R, .int .i64 N, s], .agg #[.int .i64 e.1, .int .i64 e.2.1, .int .i64 e.2.2]] w fun en w' => en = .returned (.int .i64 (alw R N e)) ∧ Below w.heap.size w w' := by
  by_cases hb : isN R N e.1 = true ∧ isN R N e.2.1 = true
  · exact rallowed_in R N s e w hR hN hs hf hb
  · rw [show alw R N e = 5 by unfold alw; rw [if_neg hb]]
    exact rallowed_bad R N s e w hR hN hs hf hb
end Go.Proofs.Ytmbogobebllheaa
namespace Go.Proofs.Ytmbogobebllheaa
open Go.RowKit GM Go.Sort
set_option linter.unusedSimpArgs false
set_option linter.unusedVariables false
set_option maxHeartbeats 4000000
set_option maxRecDepth 100000

theorem rcheck_size (R N : Int) (s : Value) (l : List E) (w : World) (hR : I64 R) (hN : I64 N) (h : szE R N ≠ 0) :
    Calls Try.prog 37 #[.agg #[.int .i64 R, .int .i64 N, s]] w fun e w' => e = .returned (.int .i64 (chk R N l)) ∧ Below w.heap.size w w' := by
  have HC : Hid (chk R N l = szE R N) := by
    show _ = _
    unfold szE at h ⊢
    unfold chk
    split
    · rfl
    · rename_i h1
      rw [if_neg h1] at h
      by_cases h2 : 128 < R + N
      · rw [if_pos (.inl h2), if_pos h2]
      · rw [if_neg h2] at h; exact absurd rfl h
  have HS : Hid (∀ W, Calls Try.prog 79 #[.agg #[.int .i64 R, .int .i64 N, s]] W fun e w' => e = .returned (.int .i64 (szE R N)) ∧ Below W.heap.size W w') := fun W => size_any R N s W hR hN
  clear hR hN
  generalize szE R N = q at *
  have hq1 : (q == 0) = false := by simpa using h
  have hq2 : (q != 0) = true := by simpa using h
  clear h
  go_enter Try.func37, Try.ntmps37
  go_wp2_with (go_at_call 79; refine (HS.out _).mono ?_; rintro e w1 ⟨rfl, hb1⟩; have B1 := Lib.hid hb1; clear hb1)
  go_ret
  exact ⟨by rw [HC.out]; rfl, below_then (below_alloc _ _) B1.out⟩
theorem rcheck_long (R N : Int) (s : Value) (l : List E) (w : World) (hR : I64 R) (hN : I64 N) (hr : Rd3 w s l) (h : szE R N = 0) (h3 : 1024 < l.length) :
    Calls Try.prog 37 #[.agg #[.int .i64 R, .int .i64 N, s]] w fun e w' => e = .returned (.int .i64 (chk R N l)) ∧ Below w.heap.size w w' := by
  have HC : Hid (chk R N l = 4) := by
    show _ = _
    unfold szE at h
    unfold chk
    split at h
    · omega
    · rename_i h1
      rw [if_neg h1, if_pos (.inr h3)]
  have HS : Hid (∀ W, Calls Try.prog 79 #[.agg #[.int .i64 R, .int .i64 N, s]] W fun e w' => e = .returned (.int .i64 0) ∧ Below W.heap.size W w') := fun W => by rw [← h]; exact size_any R N s W hR hN
  clear hR hN h
  obtain ⟨ad, cap, rfl⟩ := rd3_slice hr
  clear hr
  go_enter Try.func37, Try.ntmps37
  go_wp2_with fail
  go_at_call 79
  refine (HS.out _).mono ?_
  rintro e w1 ⟨rfl, hb1⟩
  have c2 : w1.cell? ⟨w.heap.size, 2, none⟩ = some (.slice ad l.length cap) := carry hb1 (by simp)
  have B1 := Lib.hid hb1
  clear hb1
  go_wp2
  go_ret
  exact ⟨by rw [HC.out]; rfl, below_then (below_alloc _ _) B1.out⟩
theorem rcheck_in (R N : Int) (s : Value) (l : List E) (w : World) (hr : Rd3 w s l) (hF : FitT l) (hRb : I64 R) (hNb : I64 N) (h : ¬ (R < 0 ∨ N < 0)) (k : ¬ (128 < R + N ∨ 1024 < l.length)) :
    Calls Try.prog 37 #[.agg #[.int .i64 R, .int .i64 N, s]] w fun e w' => e = .returned (.int .i64 (scan R N none l)) ∧ Below w.heap.size w w' := by
  obtain ⟨ad, cap, rfl, hcap1, hcap2, hc⟩ := hr
  have h0' : 0 ≤ R := by omega
  have h1' : 0 ≤ N := by omega
  have h3 : decide (1024 < (l.length : Int)) = false := decide_eq_false (by omega)
  have h3' : l.length ≤ 1024 := by omega
  have hs : R + N ≤ 128 := by omega
  have hsz : szE R N = 0 := by unfold szE; rw [if_neg h, if_neg (by omega)]
  have HS0 : Hid (∀ s W, Calls Try.prog 79 #[.agg #[.int .i64 R, .int .i64 N, s]] W fun e w' => e = .returned (.int .i64 0) ∧ Below W.heap.size W w') := fun s W => by rw [← hsz]; exact size_any R N s W hRb hNb
  have HC := Lib.hid hc
  have HAL : Hid (∀ k e, l[k]? = some e → ∀ s W, Calls Try.prog 80 #[.agg #[.int .i64 R, .int .i64 N, s], .agg #[.int .i64 e.1, .int .i64 e.2.1, .int .i64 e.2.2]] W fun en w' => en = .returned (.int .i64 (alw R N e)) ∧ Below W.heap.size W w') := fun k e he s W => by
    have := hF e (List.mem_of_getElem? he)
    exact rallowed_any R N s e W h0' h1' hs ⟨this.1, this.2.1⟩
  clear hc h k hRb hNb hsz hF
  obtain ⟨L, hL⟩ : ∃ L, l.length = L := ⟨_, rfl⟩
  rw [hL] at h3 h3' hcap1 ⊢
  have HL := Lib.hid hL
  clear hL
  go_enter Try.func37, Try.ntmps37
  go_wp2_with fail
  go_at_call 79
  refine (HS0.out _ _).mono ?_
  rintro e w1 ⟨rfl, hb1⟩
  have bx : w1.heap[w.heap.size]? = some (.cells #[.int .i64 R, .int .i64 N, .slice ad L cap] 27 (0, 0)) := (hb1.block _ (by simp)).trans (heap_alloc_new _ _)
  have c2 : w1.cell? ⟨w.heap.size, 2, none⟩ = some (.slice ad L cap) := cell_of bx rfl
  have HS : Hid (Below w.heap.size w w1 ∧ w1.heap[w.heap.size]? = some (.cells #[.int .i64 R, .int .i64 N, .slice ad L cap] 27 (0, 0)) ∧ scan R N none l = scan R N (prevO l 0) (l.drop 0)) := ⟨below_then (below_alloc _ _) hb1, bx, rfl⟩
  clear bx hb1
  go_wp2_with fail
  clear c2
  go_loopg [4, 5] L (fun g s4 s5 wr => ∃ k : Nat, k ≤ L ∧ L - k ≤ g ∧ s4 = .int .i64 (k : Int) ∧ (∃ v, v = s5) ∧ Hid (Below w.heap.size w wr ∧ wr.heap[w.heap.size]? = some (.cells #[.int .i64 R, .int .i64 N, .slice ad L cap] 27 (0, 0)) ∧ scan R N none l = scan R N (prevO l k) (l.drop k)))
  case atStart => exact ⟨0, by omega, by omega, rfl, ⟨_, rfl⟩, HS⟩
  case round =>
    clear HS
    obtain ⟨k, hk, hkg, rfl, ⟨v5, rfl⟩, HS⟩ := hrel
    have r2 : wr.cell? ⟨w.heap.size, 2, none⟩ = some (.slice ad L cap) := cell_of HS.out.2.1 rfl
    by_cases hlt : k < L
    · obtain ⟨e, he⟩ : ∃ x, l[k]? = some x := ⟨_, List.getElem?_eq_getElem (by have := HL.out; omega)⟩
      obtain ⟨b, off, e1, hbl, c0, c1, c2⟩ := HC.out k e he
      subst e1
      have d0 := carryB HS.out.1 hbl c0
      have d1 := carryB HS.out.1 hbl c1
      have d2 := carryB HS.out.1 hbl c2
      have hsd := scan_drop (R := R) (N := N) he
      have r0 : wr.cell? ⟨w.heap.size, 0, none⟩ = some (.int .i64 R) := cell_of HS.out.2.1 rfl
      have r1 : wr.cell? ⟨w.heap.size, 1, none⟩ = some (.int .i64 N) := cell_of HS.out.2.1 rfl
      have hbz : w.heap.size < wr.heap.size := lt_block HS.out.2.1
      have HAe : Hid (∀ s W, Calls Try.prog 80 #[.agg #[.int .i64 R, .int .i64 N, s], .agg #[.int .i64 e.1, .int .i64 e.2.1, .int .i64 e.2.2]] W fun en w' => en = .returned (.int .i64 (alw R N e)) ∧ Below W.heap.size W w') := fun s W => HAL.out k e he s W
      have k0 : (0 : Int) ≤ (k : Int) := by omega
      have k1 : (k : Int) < (L : Int) := by omega
      have HB := Lib.hid HS.out.1
      have HBX := Lib.hid HS.out.2.1
      obtain ⟨x, y, z⟩ := e
      dsimp only at c0 c1 c2 d0 d1 d2 HAe
      go_wp2_with fail
      go_region_held3 (fun w' => w'.cell? ⟨w.heap.size, 0, none⟩ = some (.int .i64 R) ∧ w'.cell? ⟨w.heap.size, 1, none⟩ = some (.int .i64 N) ∧ w'.cell? ⟨w.heap.size, 2, none⟩ = some (.slice (some ⟨b, off, none⟩) L cap) ∧
          w'.cell? ⟨b, off + k * 3, none⟩ = some (.int .i64 x) ∧ w'.cell? ⟨b, off + k * 3 + 1, none⟩ = some (.int .i64 y) ∧ w'.cell? ⟨b, off + k * 3 + 2, none⟩ = some (.int .i64 z))
        (first | exact ⟨r0, r1, r2, d0, d1, d2⟩ | assumption)
        (first | (go_at_call 80; refine (HAe.out _ _).mono ?_; rintro en w2 ⟨rfl, hg⟩; have G := Lib.hid hg; have hk := (And.intro (carry hg (show wr.drew.cell? _ = _ from r0)) (And.intro (carry hg (show wr.drew.cell? _ = _ from r1)) (And.intro (carry hg (show wr.drew.cell? _ = _ from r2)) (And.intro (carry hg (show wr.drew.cell? _ = _ from d0)) (And.intro (carry hg (show wr.drew.cell? _ = _ from d1)) (carry hg (show wr.drew.cell? _ = _ from d2))))))); clear hg))
      all_goals (
        have B2 : Hid (Below w.heap.size w w2) := HB.out.trans ((⟨G.out.os, G.out.tape, G.out.output, G.out.size, G.out.block⟩ : Below wr.heap.size wr w2).mono (by have := HB.out.size; omega))
        have X2 : Hid (w2.heap[w.heap.size]? = some (.cells #[.int .i64 R, .int .i64 N, .slice (some ⟨b, off, none⟩) L cap] 27 (0, 0))) := (G.out.block _ (by simpa using hbz)).trans HBX.out
        have g2 : w2.cell? ⟨w.heap.size, 2, none⟩ = some (.slice (some ⟨b, off, none⟩) L cap) := cell_of X2.out rfl
        have e0 := carryB B2.out hbl c0
        have e1 := carryB B2.out hbl c1
        have e2 := carryB B2.out hbl c2
        have HSX := Lib.hid HS.out.2.2
        clear hk HBX HAe HS G HB r0 r1 r2 d0 d1 d2 c0 c1 c2
        by_cases ha : alw R N (x, y, z) = 0
        · rw [if_neg (by simpa using ha)] at hsd
          rw [ha]
          cases k with
          | zero =>
            have HR : Hid (scan R N none l = scan R N (prevO l (0 + 1)) (l.drop (0 + 1))) := HSX.out.trans (by rw [hsd]; rfl)
            clear ha hsd he
            simp only [Nat.zero_mul, Nat.add_zero] at e0 e1 e2
            go_wp2_with fail
            go_quiet (fail)
            go_wp2_with fail
            go_roundg (L - (0 + 1))
            case measure => omega
            case rel => exact ⟨0 + 1, by omega, Nat.le_refl _, by go_num, ⟨_, rfl⟩, below_drewN B2.out _, X2.out, HR.out⟩
          | succ j =>
            obtain ⟨p, hp⟩ : ∃ x, l[j]? = some x := ⟨_, List.getElem?_eq_getElem (by have := HL.out; omega)⟩
            obtain ⟨b', off', eb, _, p0, p1, p2⟩ := HC.out j p hp
            cases eb
            have q0 := carryB B2.out hbl p0
            have q1 := carryB B2.out hbl p1
            have q2 := carryB B2.out hbl p2
            have HO : Hid (∀ W, Calls Try.prog 81 #[.agg #[.int .i64 p.1, .int .i64 p.2.1, .int .i64 p.2.2], .agg #[.int .i64 x, .int .i64 y, .int .i64 z]] W fun en w' => en = .returned (.bool (bef p (x, y, z))) ∧ Gr W w') := fun W => gbefore_any p (x, y, z) W
            have hpe : pe (prevO l (j + 1)) (x, y, z) = bef p (x, y, z) := by show pe (l[j]?) _ = _; rw [hp]; rfl
            rw [hpe] at hsd
            have HSD := Lib.hid (HSX.out.trans hsd)
            obtain ⟨px, py, pz⟩ := p
            dsimp only at q0 q1 q2 HO
            have j0 : (0 : Int) ≤ (j : Int) := by omega
            have j1 : (j : Int) < (L : Int) := by omega
            have hjk : 0 < j + 1 := by omega
            clear ha hsd hpe he hp p0 p1 p2 HSX
            generalize bef (px, py, pz) (x, y, z) = bb at *
            have hjw : IntKind.i64.wrap ((j : Int)) = (j : Int) := IntWalk.i64_in _ (by omega)
            have j2 : (0 : Int) ≤ (j : Int) + 1 := by omega
            have j3 : (j : Int) + 1 < (L : Int) := by omega
            go_wp2_with fail
            go_region_held3 (fun w' => w'.cell? ⟨w.heap.size, 2, none⟩ = some (.slice (some ⟨b, off, none⟩) L cap) ∧ w'.cell? ⟨b, off + (j + 1) * 3, none⟩ = some (.int .i64 x) ∧ w'.cell? ⟨b, off + (j + 1) * 3 + 1, none⟩ = some (.int .i64 y) ∧ w'.cell? ⟨b, off + (j + 1) * 3 + 2, none⟩ = some (.int .i64 z) ∧
                w'.cell? ⟨b, off + j * 3, none⟩ = some (.int .i64 px) ∧ w'.cell? ⟨b, off + j * 3 + 1, none⟩ = some (.int .i64 py) ∧ w'.cell? ⟨b, off + j * 3 + 2, none⟩ = some (.int .i64 pz))
              (first | exact ⟨g2, e0, e1, e2, q0, q1, q2⟩ | assumption)
              (first | (go_at_call 81; refine (HO.out _).mono ?_; rintro en w3 ⟨rfl, hg⟩; have G := Lib.hid hg; have hk := (And.intro (carry hg.below (show w2.drew.cell? _ = _ from g2)) (And.intro (carry hg.below (show w2.drew.cell? _ = _ from e0)) (And.intro (carry hg.below (show w2.drew.cell? _ = _ from e1)) (And.intro (carry hg.below (show w2.drew.cell? _ = _ from e2)) (And.intro (carry hg.below (show w2.drew.cell? _ = _ from q0)) (And.intro (carry hg.below (show w2.drew.cell? _ = _ from q1)) (carry hg.below (show w2.drew.cell? _ = _ from q2)))))))); clear hg))
            all_goals (
              have B3 : Hid (Below w.heap.size w w3) := B2.out.trans ((⟨G.out.below.os, G.out.below.tape, G.out.below.output, G.out.below.size, G.out.below.block⟩ : Below w2.heap.size w2 w3).mono (by have := B2.out.size; omega))
              have X3 : Hid (w3.heap[w.heap.size]? = some (.cells #[.int .i64 R, .int .i64 N, .slice (some ⟨b, off, none⟩) L cap] 27 (0, 0))) := (G.out.below.block _ (by have := lt_block X2.out; simpa using this)).trans X2.out
              cases bb
              · have HR : Hid (scan R N none l = 16) := by show _ = _; have := HSD.out; simpa using this
                go_wp2
                go_ret
                exact ⟨by rw [HR.out]; rfl, B3.out⟩
              · have HR : Hid (scan R N none l = scan R N (prevO l (j + 1 + 1)) (l.drop (j + 1 + 1))) := by
                  show _ = _
                  have h1 := HSD.out
                  simpa using h1
                go_wp2_with fail
                go_roundg (L - (j + 1 + 1))
                case measure => omega
                case rel => exact ⟨j + 1 + 1, by omega, Nat.le_refl _, by go_num, ⟨_, rfl⟩, B3.out, X3.out, HR.out⟩)
        · rw [if_pos ha] at hsd
          have HR : Hid (scan R N none l = alw R N (x, y, z)) := HSX.out.trans hsd
          generalize hz : alw R N (x, y, z) = q at *
          have hq1 : (q == 0) = false := by simpa using ha
          have hq2 : (q != 0) = true := by simpa using ha
          clear ha hz hsd he
          go_wp2
          go_ret
          exact ⟨by rw [HR.out]; rfl, B2.out⟩)
    · have HR : Hid (scan R N none l = 0) := by
        have hkl : k = l.length := by have := HL.out; omega
        have := HS.out.2.2
        rw [hkl, scan_end] at this
        exact this
      have k1 : decide ((k : Int) < (L : Int)) = false := decide_eq_false (by omega)
      go_wp2
      go_ret
      exact ⟨by rw [HR.out]; rfl, HS.out.1⟩
theorem rcheck_any (R N : Int) (s : Value) (l : List E) (w : World) (hR : I64 R) (hN : I64 N) (hr : Rd3 w s l) (hF : FitT l) :
    Calls Try.prog 37 #[.agg #[.int .i64 R, .int .i64 N, s]] w fun e w' => e = .returned (.int .i64 (chk R N l)) ∧ Below w.heap.size w w' := by
  by_cases h : szE R N = 0
  · have h1 : ¬ (R < 0 ∨ N < 0) := by unfold szE at h; split at h <;> omega
    have h2 : ¬ 128 < R + N := by unfold szE at h; rw [if_neg h1] at h; split at h <;> omega
    by_cases k : 1024 < l.length
    · exact rcheck_long R N s l w hR hN hr h k
    · rw [chk_in h1 (by omega)]; exact rcheck_in R N s l w hr hF hR hN h1 (by omega)
  · exact rcheck_size R N s l w hR hN h
end Go.Proofs.Ytmbogobebllheaa
namespace Go.Proofs.Ytmbogobebllheaa
open Go.RowKit GM Go.Sort
set_option linter.unusedSimpArgs false
set_option linter.unusedVariables false
set_option maxHeartbeats 4000000
set_option maxRecDepth 100000
namespace GM
/-- the first edge between two nodes -/
def FndP (l : List E) (a b r : Int) : Prop := (r = -1 ∧ ∀ y ∈ l, ¬ (y.1 = a ∧ y.2.1 = b)) ∨ ∃ (k : Nat) (e : E), r = (k : Int) ∧ l[k]? = some e ∧ (e.1 = a ∧ e.2.1 = b) ∧ ∀ j f, l[j]? = some f → j < k → ¬ (f.1 = a ∧ f.2.1 = b)
end GM
theorem find56_any (R N a b : Int) (l : List E) (s : Value) (w : World) (hr : Rd3 w s l) :
    Calls Try.prog 84 #[.agg #[.int .i64 R, .int .i64 N, s], .int .i64 a, .int .i64 b] w fun e w' => ∃ r, e = .returned (.int .i64 r) ∧ FndP l a b r ∧ Below w.heap.size w w' := by
  obtain ⟨ad, cap, rfl, hcap1, hcap2, hc⟩ := hr
  have HC := Lib.hid hc
  obtain ⟨L, hL⟩ : ∃ L, l.length = L := ⟨_, rfl⟩
  rw [hL] at hcap1 ⊢
  have HL := Lib.hid hL
  have hL2 : L ≤ 9223372036854775807 := by omega
  have HX : Hid ((w.alloc (.cells #[.int .i64 R, .int .i64 N, .slice ad L cap] 27)).heap[w.heap.size]? = some (.cells #[.int .i64 R, .int .i64 N, .slice ad L cap] 27 (0, 0))) := heap_alloc_new _ _
  have HB : Hid (Below w.heap.size w (w.alloc (.cells #[.int .i64 R, .int .i64 N, .slice ad L cap] 27))) := below_alloc _ _
  have H0 : Hid (∀ j f, l[j]? = some f → j < 0 → ¬ (f.1 = a ∧ f.2.1 = b)) := fun j f _ h => by omega
  clear hc hL
  go_enter Try.func84, Try.ntmps84
  go_wp2_with fail
  generalize w.alloc (.cells #[.int .i64 R, .int .i64 N, .slice ad L cap] 27) = W at *
  go_loopg [7] L (fun g s7 wr => ∃ k : Nat, k ≤ L ∧ L - k ≤ g ∧ s7 = .int .i64 (k : Int) ∧ Hid (∀ j f, l[j]? = some f → j < k → ¬ (f.1 = a ∧ f.2.1 = b)) ∧ W = wr)
  case atStart => exact ⟨0, by omega, by omega, rfl, H0, rfl⟩
  case round =>
    clear H0
    obtain ⟨k, hk, hkg, rfl, H0, rfl⟩ := hrel
    have g2 : W.cell? ⟨w.heap.size, 2, none⟩ = some (.slice ad L cap) := cell_of HX.out rfl
    by_cases hlt : k < L
    · obtain ⟨e, he⟩ : ∃ y, l[k]? = some y := ⟨_, List.getElem?_eq_getElem (by have := HL.out; omega)⟩
      obtain ⟨bl, off, rfl, hbl, c0, c1, c2⟩ := HC.out k e he
      have d0 := carryB HB.out hbl c0
      have d1 := carryB HB.out hbl c1
      have HE := Lib.hid he
      obtain ⟨x, y, z⟩ := e
      dsimp only at d0 d1
      have k1 : (k : Int) < (L : Int) := by omega
      clear c0 c1 c2 he
      have HNX : Hid (¬ (x = a ∧ y = b) → ∀ j f, l[j]? = some f → j < k + 1 → ¬ (f.1 = a ∧ f.2.1 = b)) := fun hn j f hj hjk => by
        rcases (by omega : j < k ∨ j = k) with h | h
        · exact H0.out j f hj h
        · subst h; rw [HE.out] at hj; cases hj; exact hn
      by_cases h1 : x = a
      · by_cases h2 : y = b
        · have HF : Hid (FndP l a b (k : Int)) := .inr ⟨k, _, rfl, HE.out, ⟨h1, h2⟩, H0.out⟩
          subst h1
          subst h2
          clear H0 HNX
          go_wp2
          go_ret
          exact ⟨_, rfl, HF.out, HB.out⟩
        · have HN : Hid (∀ j f, l[j]? = some f → j < k + 1 → ¬ (f.1 = a ∧ f.2.1 = b)) := HNX.out (fun h => h2 h.2)
          subst h1
          have e2 : (y == b) = false := by simpa using h2
          clear H0 HNX h2
          go_wp2_with fail
          go_roundg (L - (k + 1))
          case measure => omega
          case rel => exact ⟨k + 1, by omega, Nat.le_refl _, by go_num, HN, rfl⟩
      · have HN : Hid (∀ j f, l[j]? = some f → j < k + 1 → ¬ (f.1 = a ∧ f.2.1 = b)) := HNX.out (fun h => h1 h.1)
        have e2 : (x == a) = false := by simpa using h1
        clear H0 HNX h1
        go_wp2_with fail
        go_roundg (L - (k + 1))
        case measure => omega
        case rel => exact ⟨k + 1, by omega, Nat.le_refl _, by go_num, HN, rfl⟩
    · have k1 : decide ((k : Int) < (L : Int)) = false := decide_eq_false (by omega)
      have HF : Hid (FndP l a b (-1)) := .inl ⟨rfl, fun y hy => by
        obtain ⟨j, hj, e⟩ := List.getElem_of_mem hy
        exact H0.out j y (by rw [List.getElem?_eq_getElem hj, e]) (by have := HL.out; omega)⟩
      clear H0
      go_wp2
      go_ret
      exact ⟨_, rfl, HF.out, HB.out⟩
end Go.Proofs.Ytmbogobebllheaa
namespace Go.Proofs.Ytmbogobebllheaa
open Go.RowKit GM Go.Sort
set_option linter.unusedSimpArgs false
set_option linter.unusedVariables false
set_option maxHeartbeats 4000000
set_option maxRecDepth 100000
namespace GM
/-- the cost of the first edge between two nodes -/
def cstF (a b : Int) : List E → Int × Bool
  | [] => (0, false)
  | e :: r => if e.1 = a ∧ e.2.1 = b then (e.2.2, true) else cstF a b r
theorem cstF_none {a b : Int} : ∀ {l : List E}, (∀ y ∈ l, ¬ (y.1 = a ∧ y.2.1 = b)) → cstF a b l = (0, false)
  | [], _ => rfl
  | e :: r, h => by unfold cstF; rw [if_neg (h e (by simp))]; exact cstF_none (fun y hy => h y (List.mem_cons_of_mem _ hy))
theorem cstF_some {a b : Int} : ∀ {l : List E} {k : Nat} {e : E}, l[k]? = some e → (e.1 = a ∧ e.2.1 = b) → (∀ j f, l[j]? = some f → j < k → ¬ (f.1 = a ∧ f.2.1 = b)) → cstF a b l = (e.2.2, true)
  | [], k, e, h, _, _ => by simp at h
  | x :: r, 0, e, h, hm, _ => by simp at h; subst h; unfold cstF; rw [if_pos hm]
  | x :: r, k + 1, e, h, hm, hn => by
    unfold cstF
    rw [if_neg (hn 0 x rfl (by omega))]
    exact cstF_some (k := k) (by simpa using h) hm (fun j f hj hk => hn (j + 1) f (by simpa using hj) (by omega))
theorem cstF_find {a b q : Int} {l : List E} (h : FndP l a b q) : (q = -1 ∧ cstF a b l = (0, false)) ∨ ∃ (k : Nat) (e : E), q = (k : Int) ∧ l[k]? = some e ∧ cstF a b l = (e.2.2, true) := by
  rcases h with ⟨h1, h2⟩ | ⟨k, e, h1, h2, h3, h4⟩
  · exact .inl ⟨h1, cstF_none h2⟩
  · exact .inr ⟨k, e, h1, h2, cstF_some h2 h3 h4⟩
end GM
theorem rcost_any (R N a b : Int) (l : List E) (s : Value) (w : World) (hr : Rd3 w s l) :
    Calls Try.prog 43 #[.agg #[.int .i64 R, .int .i64 N, s], .int .i64 a, .int .i64 b] w fun e w' => e = .returned (.tuple #[.int .i64 (cstF a b l).1, .bool (cstF a b l).2]) ∧ Below w.heap.size w w' := by
  have HFD : Hid (∀ W, Below w.heap.size w W → Calls Try.prog 84 #[.agg #[.int .i64 R, .int .i64 N, s], .int .i64 a, .int .i64 b] W fun e w' => ∃ r, e = .returned (.int .i64 r) ∧ FndP l a b r ∧ Below W.heap.size W w') := fun W hW => find56_any R N a b l s W (hr.below hW)
  obtain ⟨ad, cap, rfl, hcap1, hcap2, hc⟩ := hr
  have HC := Lib.hid hc
  obtain ⟨L, hL⟩ : ∃ L, l.length = L := ⟨_, rfl⟩
  rw [hL] at hcap1 HFD ⊢
  have HL := Lib.hid hL
  clear hc hL
  go_enter Try.func43, Try.ntmps43
  go_wp2_with fail
  go_at_call 84
  refine (HFD.out _ (below_alloc _ _)).mono ?_
  rintro e w1 ⟨q, rfl, hf, hb1⟩
  have g2 : w1.cell? ⟨w.heap.size, 2, none⟩ = some (.slice ad L cap) := carry hb1 (by simp)
  have HB := Lib.hid (below_then (below_alloc _ _) hb1)
  have HF := Lib.hid (cstF_find hf)
  clear hf hb1
  rcases HF.out with ⟨rfl, hcs⟩ | ⟨k, e, rfl, hke, hcs⟩
  · have HCS := Lib.hid hcs
    clear hcs
    go_wp2
    go_ret2
    exact ⟨by rw [HCS.out]; rfl, HB.out⟩
  · have HCS := Lib.hid hcs
    obtain ⟨bl, off, rfl, hbl, c0, c1, c2⟩ := HC.out k e hke
    have d2 := carryB HB.out hbl c2
    have hkl : k < L := by have := (List.getElem?_eq_some_iff.1 hke).1; have := HL.out; omega
    obtain ⟨x, y, z⟩ := e
    dsimp only at d2 HCS
    have k0 : ¬ (k : Int) < 0 := by omega
    have k1 : (k : Int) < (L : Int) := by omega
    clear hcs c0 c1 c2 hke hbl
    go_wp2
    go_ret2
    exact ⟨by rw [HCS.out]; rfl, HB.out⟩
end Go.Proofs.Ytmbogobebllheaa
