/-
  The walks of the reference's Reverse, Without and Cut.
-/
import Derived.Test.YtiodpgannelgpaaGrRp
import Derived.Test.YtiodpgannelgpaaGrSm
import Derived.Deep.AppendLies
namespace Go.Proofs.Ytiodpgannelgpaa
open Go.RowKit GM Go.Sort
set_option linter.unusedSimpArgs false
set_option linter.unusedVariables false
set_option maxHeartbeats 1500000
set_option maxRecDepth 100000

theorem results_cell_one {fn : Func} {p : Tmp} {ty : TypeId} (h : fn.results = #[.cell p ty]) (tmps : Array Value) (P : Program) (w : World) :
    (results fn tmps).run P w = ((asAddr (tmps.getD p undef)).run P w).andThen fun a w₁ => ((loadVar ty a).run P w₁).andThen fun v w₂ => .ok v w₂ := by
  simp only [results, h]
  simp [Sem.run_bind, Result.andThen]
  cases Sem.run P (asAddr (tmps[p]?.getD undef)) w with
  | ok a w1 =>
    dsimp only
    cases Sem.run P (loadVar ty a) w1 <;> rfl
  | halt _ _ => rfl
/-- in the midst of Reverse, Without, Cut: the graph's box, the result's, that of the graph that is made -/
def RTu (w : World) (R N : Int) (s0 v : Value) (o : List E) (W : World) : Prop :=
  OwnL (w.heap.size + 3) W v o ∧ Below w.heap.size w W ∧ W.heap[w.heap.size]? = some (.cells #[.int .i64 R, .int .i64 N, s0] 24 (0, 0)) ∧ W.heap[w.heap.size + 1]? = some (.cells #[.int .i64 0, .int .i64 0, .slice none 0 0] 24 (0, 0)) ∧ W.heap[w.heap.size + 2]? = some (.cells #[.int .i64 R, .int .i64 N, v] 24 (0, 0))
theorem RTu.below {w W W1 : World} {R N : Int} {s0 v : Value} {o : List E} (h : RTu w R N s0 v o W) (hb : Below W.heap.size W W1) : RTu w R N s0 v o W1 :=
  ⟨row_below h.1 hb, below_then h.2.1 hb, (hb.block _ (lt_block h.2.2.1)).trans h.2.2.1, (hb.block _ (lt_block h.2.2.2.1)).trans h.2.2.2.1, (hb.block _ (lt_block h.2.2.2.2)).trans h.2.2.2.2⟩
theorem RTu.store {w W : World} {R N : Int} {s0 v v' : Value} {o o' : List E} (h : RTu w R N s0 v o W) (ho : OwnL (w.heap.size + 3) W v' o') : RTu w R N s0 v' o' (W.setCell ⟨w.heap.size + 2, 2, none⟩ v') := by
  refine ⟨row_congr ho (fun g hg => heap_set_ne (by have := (row_lt ho hg).1; omega)), h.2.1.setCell (by show _ ≤ w.heap.size + 2; omega) _, (heap_set_ne (by omega)).trans h.2.2.1, (heap_set_ne (by omega)).trans h.2.2.2.1, ?_⟩
  rw [heap_set_eq h.2.2.2.2]; rfl
theorem RTu.grown {w W W1 : World} {R N : Int} {s0 v v' : Value} {o o' : List E} (h : RTu w R N s0 v o W) (hg : W.grownBy W1 v.ownBlock) (ho : OwnL (w.heap.size + 3) W1 v' o') : RTu w R N s0 v' o' (W1.setCell ⟨w.heap.size + 2, 2, none⟩ v') ∧ W1.frozen? ⟨w.heap.size + 2, 2, none⟩ = false ∧ W1.cell? ⟨w.heap.size + 2, 2, none⟩ = some v := by
  have hlt := lt_block h.2.2.2.2
  have hf : ∀ k, k < w.heap.size + 3 → W1.heap[k]? = W.heap[k]? := fun k hk => hg.block k (by omega) (fun e => by have := (row_lt h.1 e.symm).1; omega)
  have h2 := (hf (w.heap.size + 2) (by omega)).trans h.2.2.2.2
  refine ⟨⟨row_congr ho (fun g hg => heap_set_ne (by have := (row_lt ho hg).1; omega)), (h.2.1.grown hg h.2.1.size (fun k hk => by have := (row_lt h.1 hk).1; omega)).setCell (by show _ ≤ w.heap.size + 2; omega) _, (heap_set_ne (by omega)).trans ((hf _ (by omega)).trans h.2.2.1), (heap_set_ne (by omega)).trans ((hf _ (by omega)).trans h.2.2.2.1), ?_⟩, free_of h2 _, cell_of h2 rfl⟩
  rw [heap_set_eq h2]; rfl
theorem RTu.start {w : World} {R N : Int} {s0 : Value} : RTu w R N s0 (.slice none 0 0) [] (((w.alloc (.cells #[.int .i64 R, .int .i64 N, s0] 24)).alloc (.cells #[.int .i64 0, .int .i64 0, .slice none 0 0] 24)).alloc (.cells #[.int .i64 R, .int .i64 N, .slice none 0 0] 24)) := by
  have e1 : (w.alloc (.cells #[.int .i64 R, .int .i64 N, s0] 24)).heap.size = w.heap.size + 1 := by simp
  have e2 : ((w.alloc (.cells #[.int .i64 R, .int .i64 N, s0] 24)).alloc (.cells #[.int .i64 0, .int .i64 0, .slice none 0 0] 24)).heap.size = w.heap.size + 2 := by simp
  refine ⟨World.ownsRow_nil _ _ _ _, below_then (below_two _ _ _) (below_alloc _ _), ?_, ?_, ?_⟩
  · exact (Below.heap_alloc _ _ _ (by omega)).trans ((Below.heap_alloc _ _ _ (by omega)).trans (heap_alloc_new _ _))
  · refine (Below.heap_alloc _ _ _ (by omega)).trans ?_
    have := heap_alloc_new (w.alloc (.cells #[.int .i64 R, .int .i64 N, s0] 24)) (.cells #[.int .i64 0, .int .i64 0, .slice none 0 0] 24)
    rwa [e1] at this
  · have := heap_alloc_new ((w.alloc (.cells #[.int .i64 R, .int .i64 N, s0] 24)).alloc (.cells #[.int .i64 0, .int .i64 0, .slice none 0 0] 24)) (.cells #[.int .i64 R, .int .i64 N, .slice none 0 0] 24)
    rwa [e2] at this
/-- the result is stored in its box -/
theorem RTu.done {w W : World} {R N : Int} {s0 v : Value} {o : List E} (h : RTu w R N s0 v o W) (u0 u1 u2 : Value) :
    Rd3 (((W.setCell ⟨w.heap.size + 1, 0, none⟩ u0).setCell ⟨w.heap.size + 1, 1, none⟩ u1).setCell ⟨w.heap.size + 1, 2, none⟩ u2) v o ∧ Below w.heap.size w (((W.setCell ⟨w.heap.size + 1, 0, none⟩ u0).setCell ⟨w.heap.size + 1, 1, none⟩ u1).setCell ⟨w.heap.size + 1, 2, none⟩ u2) := by
  have hh : ∀ g : Nat, w.heap.size + 3 ≤ g → (((W.setCell ⟨w.heap.size + 1, 0, none⟩ u0).setCell ⟨w.heap.size + 1, 1, none⟩ u1).setCell ⟨w.heap.size + 1, 2, none⟩ u2).heap[g]? = W.heap[g]? := fun g hg => by
    rw [heap_set_ne (by omega), heap_set_ne (by omega), heap_set_ne (by omega)]
  exact ⟨rd3_own (row_congr h.1 (fun g hg => hh g (row_lt h.1 hg).1)), ((h.2.1.setCell (by show _ ≤ w.heap.size + 1; omega) _).setCell (by show _ ≤ w.heap.size + 1; omega) _).setCell (by show _ ≤ w.heap.size + 1; omega) _⟩

/-- an edge turned round -/
def flp (e : E) : E := (e.2.1, e.1, e.2.2)
theorem rrev_any (R N : Int) (l : List E) (v : Value) (w : World) (hR : I64 R) (hN : I64 N) (hl : Fits l) (hr : Rd3 w v l) :
    Calls Try.prog 29 #[.agg #[.int .i64 R, .int .i64 N, v]] w fun e w' => ∃ s o, e = .returned (.agg #[.int .i64 R, .int .i64 N, s]) ∧ Rd3 w' s o ∧ SrtE o ∧ Stb (l.map flp) o ∧ Below w.heap.size w w' := by
  unfold Fits at hl
  obtain ⟨ad, cap, rfl, hcap1, hcap2, hc⟩ := hr
  have HC := Lib.hid hc
  obtain ⟨L, hL⟩ : ∃ L, l.length = L := ⟨_, rfl⟩
  rw [hL] at hcap1 hl ⊢
  have HL := Lib.hid hL
  have HS0 := Lib.hid (RTu.start (w := w) (R := R) (N := N) (s0 := .slice ad L cap))
  clear hc hL hR hN
  go_enter Try.func29, Try.ntmps29
  go_wp2_with fail
  go_loopg [4] L (fun g s4 wr => ∃ (k : Nat) (v : Value) (o : List E), k ≤ L ∧ o.length ≤ k ∧ L - k ≤ g ∧ s4 = .int .i64 (k : Int) ∧ Hid (SrtE o ∧ Stb ((l.take k).map flp) o) ∧ Hid (RTu w R N (.slice ad L cap) v o wr))
  case atStart => exact ⟨0, _, [], by omega, Nat.le_refl _, by omega, rfl, ⟨List.Pairwise.nil, by simpa using Stb.refl _⟩, HS0.out⟩
  case round =>
    clear HS0
    obtain ⟨k, v, o, hk, hok, hg, rfl, HI, HS⟩ := hrel
    have hrdo := rd3_own HS.out.1
    have hol : o.length ≤ L := by omega
    have r2 : wr.cell? ⟨w.heap.size, 2, none⟩ = some (.slice ad L cap) := cell_of HS.out.2.2.1 rfl
    by_cases hlt : k < L
    · obtain ⟨e, he⟩ : ∃ y, l[k]? = some y := ⟨_, List.getElem?_eq_getElem (by have := HL.out; omega)⟩
      obtain ⟨bl, off, rfl, hbl, c0, c1, c2⟩ := HC.out k e he
      have d0 := carryB HS.out.2.1 hbl c0
      have d1 := carryB HS.out.2.1 hbl c1
      have d2 := carryB HS.out.2.1 hbl c2
      have HI2 : Hid (SrtE (putE (flp e) o) ∧ Stb ((l.take (k + 1)).map flp) (putE (flp e) o)) := by
        have h1 := putE_srt (x := flp e) HI.out.1
        refine ⟨h1.1, ?_⟩
        rw [List.take_add_one, he]
        simp only [Option.toList_some, List.map_append, List.map_cons, List.map_nil]
        exact (HI.out.2.app (Stb.refl [flp e])).trans h1.2
      have HPU : Hid (∀ W, Below wr.heap.size wr W → Calls Try.prog 65 #[v, .agg #[.int .i64 e.2.1, .int .i64 e.1, .int .i64 e.2.2]] W fun e' w' => ∃ v', e' = .returned v' ∧ OwnL (W.heap.size + 1) w' v' (putE (flp e) o) ∧ Below W.heap.size W w') := fun W hW => put65_any o (flp e) v W (by omega) (hrdo.below hW)
      have HLP : Hid ((putE (flp e) o).length ≤ k + 1) := by show _ ≤ _; rw [putE_len]; omega
      obtain ⟨ad2, cap2, rfl⟩ := rd3_slice hrdo
      have g2 : wr.cell? ⟨w.heap.size + 1 + 1, 2, none⟩ = some (.slice ad2 o.length cap2) := cell_of HS.out.2.2.2.2 rfl
      have k0 : (0 : Int) ≤ (k : Int) := by omega
      have k1 : (k : Int) < (L : Int) := by omega
      obtain ⟨x, y, z⟩ := e
      dsimp only at d0 d1 d2 HPU
      generalize putE (flp (x, y, z)) o = o2 at *
      have HBL := Lib.hid hbl
      clear c0 c1 c2 he hbl hrdo
      go_wp2_with fail
      have HKS : Hid (∀ (W : World) (u : Value), (W.cell? ⟨w.heap.size, 2, none⟩ = some (.slice (some ⟨bl, off, none⟩) L cap) ∧ W.cell? ⟨bl, off + k * 3, none⟩ = some (.int .i64 x) ∧ W.cell? ⟨bl, off + k * 3 + 1, none⟩ = some (.int .i64 y) ∧ W.cell? ⟨bl, off + k * 3 + 2, none⟩ = some (.int .i64 z)) →
          (W.setCell ⟨w.heap.size + 1 + 1, 2, none⟩ u).cell? ⟨w.heap.size, 2, none⟩ = some (.slice (some ⟨bl, off, none⟩) L cap) ∧ (W.setCell ⟨w.heap.size + 1 + 1, 2, none⟩ u).cell? ⟨bl, off + k * 3, none⟩ = some (.int .i64 x) ∧ (W.setCell ⟨w.heap.size + 1 + 1, 2, none⟩ u).cell? ⟨bl, off + k * 3 + 1, none⟩ = some (.int .i64 y) ∧ (W.setCell ⟨w.heap.size + 1 + 1, 2, none⟩ u).cell? ⟨bl, off + k * 3 + 2, none⟩ = some (.int .i64 z)) := by
        intro W u h
        have hb := HBL.out
        rw [World.cell?_setCell_far _ _ _ _ (by show w.heap.size + 1 + 1 ≠ w.heap.size; omega), World.cell?_setCell_far _ _ _ _ (by show w.heap.size + 1 + 1 ≠ bl; omega), World.cell?_setCell_far _ _ _ _ (by show w.heap.size + 1 + 1 ≠ bl; omega), World.cell?_setCell_far _ _ _ _ (by show w.heap.size + 1 + 1 ≠ bl; omega)]
        exact h
      refine wp_region_held_drew (S := (fun w' => w'.cell? ⟨w.heap.size, 2, none⟩ = some (.slice (some ⟨bl, off, none⟩) L cap) ∧ w'.cell? ⟨bl, off + k * 3, none⟩ = some (.int .i64 x) ∧ w'.cell? ⟨bl, off + k * 3 + 1, none⟩ = some (.int .i64 y) ∧ w'.cell? ⟨bl, off + k * 3 + 2, none⟩ = some (.int .i64 z))) (by kernel_rfl) ⟨r2, d0, d1, d2⟩ (fun hS0 => ?_)
      refine wpAnyH_take (i := 0) (oi := ⟨some 17, _, _, _, _, _⟩) (v := .pointer (some ⟨w.heap.size + 1 + 1, 2, none⟩)) rfl (by kernel_rfl) (by kernel_rfl) (by kernel_rfl) (fun _ _ _ h => h) (Or.inl ⟨by rfl, by intro w' hw'; obtain ⟨q0, q1, q2, q3⟩ := hw'; go_simp⟩) hS0 ?_
      simp only [Act.put, List.setIfInBounds_toArray, List.set_cons_zero, List.set_cons_succ]
      refine wpAnyH_take (i := 2) (oi := ⟨some 19, _, _, _, _, _⟩) (v := .pointer (some ⟨w.heap.size, 2, none⟩)) rfl (by kernel_rfl) (by kernel_rfl) (by kernel_rfl) (fun _ _ _ h => h) (Or.inl ⟨by rfl, by intro w' hw'; obtain ⟨q0, q1, q2, q3⟩ := hw'; go_simp⟩) hS0 ?_
      simp only [Act.put, List.setIfInBounds_toArray, List.set_cons_zero, List.set_cons_succ]
      refine wpAnyH_take (i := 3) (oi := ⟨some 20, _, _, _, _, _⟩) (v := .slice (some ⟨bl, off, none⟩) L cap) rfl (by kernel_rfl) (by kernel_rfl) (by kernel_rfl) (fun _ _ _ h => h) (Or.inl ⟨by rfl, by intro w' hw'; obtain ⟨q0, q1, q2, q3⟩ := hw'; go_simp⟩) hS0 ?_
      simp only [Act.put, List.setIfInBounds_toArray, List.set_cons_zero, List.set_cons_succ]
      refine wpAnyH_take (i := 4) (oi := ⟨some 21, _, _, _, _, _⟩) (v := .int .i64 (k : Int)) rfl (by kernel_rfl) (by kernel_rfl) (by kernel_rfl) (fun _ _ _ h => h) (Or.inl ⟨by rfl, by intro w' hw'; obtain ⟨q0, q1, q2, q3⟩ := hw'; go_simp⟩) hS0 ?_
      simp only [Act.put, List.setIfInBounds_toArray, List.set_cons_zero, List.set_cons_succ]
      refine wpAnyH_take (i := 5) (oi := ⟨some 22, _, _, _, _, _⟩) (v := .pointer (some ⟨bl, off + k * 3, none⟩)) rfl (by kernel_rfl) (by kernel_rfl) (by kernel_rfl) (fun _ _ _ h => h) (Or.inl ⟨by rfl, by intro w' hw'; obtain ⟨q0, q1, q2, q3⟩ := hw'; go_simp⟩) hS0 ?_
      simp only [Act.put, List.setIfInBounds_toArray, List.set_cons_zero, List.set_cons_succ]
      refine wpAnyH_take (i := 6) (oi := ⟨some 23, _, _, _, _, _⟩) (v := .pointer (some ⟨bl, off + k * 3 + 1, none⟩)) rfl (by kernel_rfl) (by kernel_rfl) (by kernel_rfl) (fun _ _ _ h => h) (Or.inl ⟨by rfl, by intro w' hw'; obtain ⟨q0, q1, q2, q3⟩ := hw'; go_simp⟩) hS0 ?_
      simp only [Act.put, List.setIfInBounds_toArray, List.set_cons_zero, List.set_cons_succ]
      refine wpAnyH_take (i := 7) (oi := ⟨some 24, _, _, _, _, _⟩) (v := .int .i64 y) rfl (by kernel_rfl) (by kernel_rfl) (by kernel_rfl) (fun _ _ _ h => h) (Or.inl ⟨by rfl, by intro w' hw'; obtain ⟨q0, q1, q2, q3⟩ := hw'; go_simp⟩) hS0 ?_
      simp only [Act.put, List.setIfInBounds_toArray, List.set_cons_zero, List.set_cons_succ]
      refine wpAnyH_take (i := 8) (oi := ⟨some 25, _, _, _, _, _⟩) (v := .pointer (some ⟨w.heap.size, 2, none⟩)) rfl (by kernel_rfl) (by kernel_rfl) (by kernel_rfl) (fun _ _ _ h => h) (Or.inl ⟨by rfl, by intro w' hw'; obtain ⟨q0, q1, q2, q3⟩ := hw'; go_simp⟩) hS0 ?_
      simp only [Act.put, List.setIfInBounds_toArray, List.set_cons_zero, List.set_cons_succ]
      refine wpAnyH_take (i := 9) (oi := ⟨some 26, _, _, _, _, _⟩) (v := .slice (some ⟨bl, off, none⟩) L cap) rfl (by kernel_rfl) (by kernel_rfl) (by kernel_rfl) (fun _ _ _ h => h) (Or.inl ⟨by rfl, by intro w' hw'; obtain ⟨q0, q1, q2, q3⟩ := hw'; go_simp⟩) hS0 ?_
      simp only [Act.put, List.setIfInBounds_toArray, List.set_cons_zero, List.set_cons_succ]
      refine wpAnyH_take (i := 10) (oi := ⟨some 27, _, _, _, _, _⟩) (v := .int .i64 (k : Int)) rfl (by kernel_rfl) (by kernel_rfl) (by kernel_rfl) (fun _ _ _ h => h) (Or.inl ⟨by rfl, by intro w' hw'; obtain ⟨q0, q1, q2, q3⟩ := hw'; go_simp⟩) hS0 ?_
      simp only [Act.put, List.setIfInBounds_toArray, List.set_cons_zero, List.set_cons_succ]
      refine wpAnyH_take (i := 11) (oi := ⟨some 28, _, _, _, _, _⟩) (v := .pointer (some ⟨bl, off + k * 3, none⟩)) rfl (by kernel_rfl) (by kernel_rfl) (by kernel_rfl) (fun _ _ _ h => h) (Or.inl ⟨by rfl, by intro w' hw'; obtain ⟨q0, q1, q2, q3⟩ := hw'; go_simp⟩) hS0 ?_
      simp only [Act.put, List.setIfInBounds_toArray, List.set_cons_zero, List.set_cons_succ]
      refine wpAnyH_take (i := 12) (oi := ⟨some 29, _, _, _, _, _⟩) (v := .pointer (some ⟨bl, off + k * 3, none⟩)) rfl (by kernel_rfl) (by kernel_rfl) (by kernel_rfl) (fun _ _ _ h => h) (Or.inl ⟨by rfl, by intro w' hw'; obtain ⟨q0, q1, q2, q3⟩ := hw'; go_simp⟩) hS0 ?_
      simp only [Act.put, List.setIfInBounds_toArray, List.set_cons_zero, List.set_cons_succ]
      refine wpAnyH_take (i := 13) (oi := ⟨some 30, _, _, _, _, _⟩) (v := .int .i64 x) rfl (by kernel_rfl) (by kernel_rfl) (by kernel_rfl) (fun _ _ _ h => h) (Or.inl ⟨by rfl, by intro w' hw'; obtain ⟨q0, q1, q2, q3⟩ := hw'; go_simp⟩) hS0 ?_
      simp only [Act.put, List.setIfInBounds_toArray, List.set_cons_zero, List.set_cons_succ]
      refine wpAnyH_take (i := 14) (oi := ⟨some 31, _, _, _, _, _⟩) (v := .pointer (some ⟨w.heap.size, 2, none⟩)) rfl (by kernel_rfl) (by kernel_rfl) (by kernel_rfl) (fun _ _ _ h => h) (Or.inl ⟨by rfl, by intro w' hw'; obtain ⟨q0, q1, q2, q3⟩ := hw'; go_simp⟩) hS0 ?_
      simp only [Act.put, List.setIfInBounds_toArray, List.set_cons_zero, List.set_cons_succ]
      refine wpAnyH_take (i := 15) (oi := ⟨some 32, _, _, _, _, _⟩) (v := .slice (some ⟨bl, off, none⟩) L cap) rfl (by kernel_rfl) (by kernel_rfl) (by kernel_rfl) (fun _ _ _ h => h) (Or.inl ⟨by rfl, by intro w' hw'; obtain ⟨q0, q1, q2, q3⟩ := hw'; go_simp⟩) hS0 ?_
      simp only [Act.put, List.setIfInBounds_toArray, List.set_cons_zero, List.set_cons_succ]
      refine wpAnyH_take (i := 16) (oi := ⟨some 33, _, _, _, _, _⟩) (v := .int .i64 (k : Int)) rfl (by kernel_rfl) (by kernel_rfl) (by kernel_rfl) (fun _ _ _ h => h) (Or.inl ⟨by rfl, by intro w' hw'; obtain ⟨q0, q1, q2, q3⟩ := hw'; go_simp⟩) hS0 ?_
      simp only [Act.put, List.setIfInBounds_toArray, List.set_cons_zero, List.set_cons_succ]
      refine wpAnyH_take (i := 17) (oi := ⟨some 34, _, _, _, _, _⟩) (v := .pointer (some ⟨bl, off + k * 3, none⟩)) rfl (by kernel_rfl) (by kernel_rfl) (by kernel_rfl) (fun _ _ _ h => h) (Or.inl ⟨by rfl, by intro w' hw'; obtain ⟨q0, q1, q2, q3⟩ := hw'; go_simp⟩) hS0 ?_
      simp only [Act.put, List.setIfInBounds_toArray, List.set_cons_zero, List.set_cons_succ]
      refine wpAnyH_take (i := 18) (oi := ⟨some 35, _, _, _, _, _⟩) (v := .pointer (some ⟨bl, off + k * 3 + 2, none⟩)) rfl (by kernel_rfl) (by kernel_rfl) (by kernel_rfl) (fun _ _ _ h => h) (Or.inl ⟨by rfl, by intro w' hw'; obtain ⟨q0, q1, q2, q3⟩ := hw'; go_simp⟩) hS0 ?_
      simp only [Act.put, List.setIfInBounds_toArray, List.set_cons_zero, List.set_cons_succ]
      refine wpAnyH_take (i := 19) (oi := ⟨some 36, _, _, _, _, _⟩) (v := .int .i64 z) rfl (by kernel_rfl) (by kernel_rfl) (by kernel_rfl) (fun _ _ _ h => h) (Or.inl ⟨by rfl, by intro w' hw'; obtain ⟨q0, q1, q2, q3⟩ := hw'; go_simp⟩) hS0 ?_
      simp only [Act.put, List.setIfInBounds_toArray, List.set_cons_zero, List.set_cons_succ]
      refine wpAnyH_take (i := 20) (oi := ⟨some 37, _, _, _, _, _⟩) (v := .agg #[.int .i64 y, .int .i64 x, .int .i64 z]) rfl (by kernel_rfl) (by kernel_rfl) (by kernel_rfl) (fun _ _ _ h => h) (Or.inl ⟨by rfl, by intro w' hw'; obtain ⟨q0, q1, q2, q3⟩ := hw'; go_simp⟩) hS0 ?_
      simp only [Act.put, List.setIfInBounds_toArray, List.set_cons_zero, List.set_cons_succ]
      refine wpAnyH_ready (rs := [1]) (by kernel_rfl) (by simp) ?_
      refine AllReadyH.cons rfl (fun K hK => ?_) AllReadyH.nil
      go_simp
      (try go_wp2_with fail)
      refine hK.out _ _ hS0 (fun _ => ?_)
      clear hK K
      (try simp only [Act.put, List.setIfInBounds_toArray, List.set_cons_zero, List.set_cons_succ])
      refine wpAnyH_ready (rs := [21]) (by kernel_rfl) (by simp) ?_
      refine AllReadyH.cons rfl (fun K hK => ?_) AllReadyH.nil
      go_simp
      go_at_call 65
      refine (HPU.out _ (Below.refl _ wr).drew).mono ?_
      rintro en w5 ⟨v5, rfl, hown, hb⟩
      have HB5 : Hid (Below wr.heap.size wr w5) := ⟨hb.os, hb.tape, hb.output, hb.size, hb.block⟩
      obtain ⟨ad5, cap5, rfl⟩ := rd3_slice (rd3_own hown)
      have HOW := Lib.hid hown
      have hk5 := carry HB5.out g2
      have hS1 := (And.intro (carry HB5.out r2) (And.intro (carry HB5.out d0) (And.intro (carry HB5.out d1) (carry HB5.out d2))))
      clear hb hown
      have y2 : w5.frozen? ⟨w.heap.size + 1 + 1, 2, none⟩ = false := free_of (HS.out.below HB5.out).2.2.2.2 _
      (try go_wp2_with fail)
      refine hK.out _ _ hS1 (fun _ => ?_)
      clear hK K
      (try simp only [Act.put, List.setIfInBounds_toArray, List.set_cons_zero, List.set_cons_succ])
      refine wpAnyH_take (i := 22) (oi := ⟨some 39, _, _, _, _, _⟩) (v := .pointer (some ⟨w.heap.size + 1 + 1, 2, none⟩)) rfl (by kernel_rfl) (by kernel_rfl) (by kernel_rfl) (fun _ _ _ h => h) (Or.inl ⟨by rfl, by intro w' hw'; obtain ⟨q0, q1, q2, q3⟩ := hw'; go_simp⟩) hS1 ?_
      simp only [Act.put, List.setIfInBounds_toArray, List.set_cons_zero, List.set_cons_succ]
      refine wpAnyH_ready (rs := [23]) (by kernel_rfl) (by simp) ?_
      refine AllReadyH.cons rfl (fun K hK => ?_) AllReadyH.nil
      go_simp
      (try go_wp2_with fail)
      refine hK.out _ _ (HKS.out _ _ hS1) (fun _ => ?_)
      clear hK K
      (try simp only [Act.put, List.setIfInBounds_toArray, List.set_cons_zero, List.set_cons_succ])
      refine wpAnyH_done (by kernel_rfl) ?_ _
      all_goals (
        have S5 : Hid (RTu w R N (.slice (some ⟨bl, off, none⟩) L cap) (.slice ad5 o2.length cap5) o2 (w5.setCell ⟨w.heap.size + 1 + 1, 2, none⟩ (.slice ad5 o2.length cap5))) := (HS.out.below HB5.out).store (ownE_base HOW.out (by have := lt_block HS.out.2.2.2.2; simp; omega))
        go_wp2_with fail
        go_roundg (L - (k + 1))
        case measure => omega
        case rel => exact ⟨k + 1, _, _, by omega, HLP.out, Nat.le_refl _, by go_num, HI2.out, S5⟩)
    · have k1 : decide ((k : Int) < (L : Int)) = false := decide_eq_false (by omega)
      have HF : Hid (Stb (l.map flp) o) := by have := HI.out.2; rwa [List.take_of_length_le (by have := HL.out; omega)] at this
      obtain ⟨ad2, cap2, rfl⟩ := rd3_slice hrdo
      have g0 : wr.cell? ⟨w.heap.size + 1 + 1, 0, none⟩ = some (.int .i64 R) := cell_of HS.out.2.2.2.2 rfl
      have g1 : wr.cell? ⟨w.heap.size + 1 + 1, 1, none⟩ = some (.int .i64 N) := cell_of HS.out.2.2.2.2 rfl
      have g2 : wr.cell? ⟨w.heap.size + 1 + 1, 2, none⟩ = some (.slice ad2 o.length cap2) := cell_of HS.out.2.2.2.2 rfl
      have z0 : wr.cell? ⟨w.heap.size + 1, 0, none⟩ = some (.int .i64 0) := cell_of HS.out.2.2.2.1 rfl
      have z1 : wr.cell? ⟨w.heap.size + 1, 1, none⟩ = some (.int .i64 0) := cell_of HS.out.2.2.2.1 rfl
      have z2 : wr.cell? ⟨w.heap.size + 1, 2, none⟩ = some (.slice none 0 0) := cell_of HS.out.2.2.2.1 rfl
      have y0 : wr.frozen? ⟨w.heap.size + 1, 0, none⟩ = false := free_of HS.out.2.2.2.1 _
      have y1 : wr.frozen? ⟨w.heap.size + 1, 1, none⟩ = false := free_of HS.out.2.2.2.1 _
      have y2 : wr.frozen? ⟨w.heap.size + 1, 2, none⟩ = false := free_of HS.out.2.2.2.1 _
      have RB := Lib.hid (RTu.done HS.out)
      clear hrdo
      go_wp2
      (try simp only [Exit.inBlock, Exit.then])
      refine bodyPost_ret (v := .agg #[.int .i64 R, .int .i64 N, .slice ad2 o.length cap2]) (by rw [results_cell_one rfl]; go_simp) rfl ?_
      exact ⟨_, o, rfl, (RB.out _ _ _).1, HI.out.1, HF.out, (RB.out _ _ _).2⟩
end Go.Proofs.Ytiodpgannelgpaa
