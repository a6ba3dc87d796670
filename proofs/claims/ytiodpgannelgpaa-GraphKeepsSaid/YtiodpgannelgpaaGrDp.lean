/-
  The walks of graph.drop, graph.Without and graph.Cut.
-/
import Derived.Test.YtiodpgannelgpaaGrDf
namespace Go.Proofs.Ytiodpgannelgpaa
open Go.RowKit GM Go.Sort Go.Lib
set_option linter.unusedSimpArgs false
set_option linter.unusedVariables false
set_option maxHeartbeats 1500000
set_option maxRecDepth 100000

theorem heap_at {w : World} {o : Obj} {g : Nat} (h : g = w.heap.size) : (w.alloc o).heap[g]? = some o := by subst h; exact heap_alloc_new _ _
theorem heap_up {w : World} {o o' : Obj} {g : Nat} (h : w.heap[g]? = some o') : (w.alloc o).heap[g]? = some o' := (Below.heap_alloc _ _ _ (lt_block h)).trans h
theorem drop68_any (q : E → Bool) (c : Nat) (R N : Int) (l : List E) (v : Value) (w : World) (hl : Fits l) (hr : Rd3 w v l)
    (hQ : ∀ (x : E) (W : World), Below w.heap.size w W → Calls Try.prog 68 #[.agg #[.int .i64 x.1, .int .i64 x.2.1, .int .i64 x.2.2], .pointer (some ⟨c, 0, none⟩)] W fun e w' => e = .returned (.bool (q x)) ∧ Below W.heap.size W w') :
    Calls Try.prog 67 #[.agg #[.int .i64 R, .int .i64 N, v], .func (.func 68) #[] #[.pointer (some ⟨c, 0, none⟩)]] w fun e w' => ∃ s, e = .returned (.agg #[.int .i64 R, .int .i64 N, s]) ∧ OwnS w.heap.size w' s (notQ q l) ∧ Below w.heap.size w w' := by
  have HCL : Hid (∀ W, Below w.heap.size w W → Calls Try.prog 60 #[v] W fun e w' => ∃ v', e = .returned v' ∧ w'.ownsRow W.heap.size 52 3 v' l.length (flatE l) ∧ Below W.heap.size W w') := fun W hb => clone_any l v W hl (hr.below hb)
  have HQ := Lib.hid hQ
  have HLN := Lib.hid hl
  obtain ⟨ad, cap0, rfl⟩ := rd3_slice hr
  obtain ⟨L, hL⟩ : ∃ L, l.length = L := ⟨_, rfl⟩
  rw [hL] at HCL ⊢
  have HL := Lib.hid hL
  clear hQ hr hl hL
  go_enter Try.func67, Try.ntmps67
  go_wp2_with fail
  go_at_call 60
  refine (HCL.out _ (below_two _ _ _)).mono ?_
  rintro e w1 ⟨v1, rfl, hown, hb⟩
  have HO := Lib.hid (And.intro hown hb)
  clear hb
  have hz1 : w.heap.size + 2 ≤ w1.heap.size := by have := HO.out.2.size; simpa using this
  have B1 : Hid (Below w.heap.size w w1) := below_then (below_two _ _ _) HO.out.2
  have X1 : Hid (w1.heap[w.heap.size]? = some (.cells #[.int .i64 R, .int .i64 N, .slice ad L cap0] 24 (0, 0)) ∧ w1.heap[w.heap.size + 1]? = some (.cells #[.int .i64 0, .int .i64 0, .slice none 0 0] 24 (0, 0))) := by
    refine ⟨(HO.out.2.block _ (by simp; omega)).trans ((Below.heap_alloc _ _ _ (by simp)).trans (heap_alloc_new _ _)), (HO.out.2.block _ (by simp)).trans ?_⟩
    have := heap_alloc_new (w.alloc (.cells #[.int .i64 R, .int .i64 N, .slice ad L cap0] 24)) (.cells #[.int .i64 0, .int .i64 0, .slice none 0 0] 24)
    rwa [show (w.alloc _).heap.size = w.heap.size + 1 by simp] at this
  rcases hown.2 with ⟨rfl, hn⟩ | ⟨g, cap, cur, rfl, hB, hg, hnc, hcm, hcs, htk⟩
  · have hl0 : notQ q l = [] := by
      have : l = [] := List.length_eq_zero_iff.1 (by have := HL.out; omega)
      rw [this]; rfl
    have O2 : Hid (OwnS (w.heap.size + 2) w1 (.slice none 0 0) (notQ q l)) := .inl ⟨rfl, hl0⟩
    clear hown hn hl0
    go_wp2_with fail
    go_at_call 94
    refine (delete68_none c _).mono ?_
    rintro e w2 ⟨rfl, hw2⟩
    subst hw2
    have X2 := X1
    have B2 := B1
    clear X1 B1 HO
    have z0 : w2.cell? ⟨w.heap.size, 0, none⟩ = some (.int .i64 R) := cell_of X2.out.1 rfl
    have z1 : w2.cell? ⟨w.heap.size, 1, none⟩ = some (.int .i64 N) := cell_of X2.out.1 rfl
    have z2 : w2.cell? ⟨w.heap.size, 2, none⟩ = some (.slice ad L cap0) := cell_of X2.out.1 rfl
    have z3 : w2.frozen? ⟨w.heap.size, 2, none⟩ = false := free_of X2.out.1 _
    have y0 : w2.cell? ⟨w.heap.size + 1, 0, none⟩ = some (.int .i64 0) := cell_of X2.out.2 rfl
    have y1 : w2.cell? ⟨w.heap.size + 1, 1, none⟩ = some (.int .i64 0) := cell_of X2.out.2 rfl
    have y2 : w2.cell? ⟨w.heap.size + 1, 2, none⟩ = some (.slice none 0 0) := cell_of X2.out.2 rfl
    have y3 : w2.frozen? ⟨w.heap.size + 1, 0, none⟩ = false := free_of X2.out.2 _
    have y4 : w2.frozen? ⟨w.heap.size + 1, 1, none⟩ = false := free_of X2.out.2 _
    have y5 : w2.frozen? ⟨w.heap.size + 1, 2, none⟩ = false := free_of X2.out.2 _
    have HEND : Hid (∀ u0 u1 u2 u3, OwnS w.heap.size ((((w2.setCell ⟨w.heap.size, 2, none⟩ u0).setCell ⟨w.heap.size + 1, 0, none⟩ u1).setCell ⟨w.heap.size + 1, 1, none⟩ u2).setCell ⟨w.heap.size + 1, 2, none⟩ u3) (.slice none 0 0) (notQ q l) ∧
        Below w.heap.size w ((((w2.setCell ⟨w.heap.size, 2, none⟩ u0).setCell ⟨w.heap.size + 1, 0, none⟩ u1).setCell ⟨w.heap.size + 1, 1, none⟩ u2).setCell ⟨w.heap.size + 1, 2, none⟩ u3)) := fun u0 u1 u2 u3 =>
      ⟨((((O2.out.setCell (by omega)).setCell (by omega)).setCell (by omega)).setCell (by omega)).mono (by omega), (((B2.out.setCell (Nat.le_refl _) _).setCell (Nat.le_succ _) _).setCell (Nat.le_succ _) _).setCell (Nat.le_succ _) _⟩
    go_wp2
    (try simp only [Exit.inBlock, Exit.then])
    refine bodyPost_ret (v := .agg #[.int .i64 R, .int .i64 N, .slice none 0 0]) (by rw [results_cell_one rfl]; go_simp) rfl ?_
    exact ⟨_, rfl, (HEND.out _ _ _ _).1, (HEND.out _ _ _ _).2⟩
  · have hg1 : g < w1.heap.size := lt_block hg
    have hgz : w.heap.size + 2 ≤ g := by simpa using hB
    have HD : Hid (Calls Try.prog 94 #[.slice (some ⟨g, 0, none⟩) L cap, .func (.func 68) #[] #[.pointer (some ⟨c, 0, none⟩)]] w1 fun e w' => ∃ (M cap2 : Nat), e = .returned (.slice (some ⟨g, 0, none⟩) M cap2) ∧ OwnS (w.heap.size + 2) w' (.slice (some ⟨g, 0, none⟩) M cap2) (notQ q l) ∧ Below g w1 w') := by
      have hL := HL.out
      have hown2 := hown
      rw [← hL] at hown2
      have := delete68_any q c g l (.slice (some ⟨g, 0, none⟩) l.length cap) w1 HLN.out ⟨cap, rfl, by omega, by unfold maxLen at hcm; omega, holdsE_own hown2, hg1⟩ (fun x W hb => HQ.out x W (B1.out.trans (hb.mono (by omega))))
      rw [hL] at this
      refine this.mono ?_
      rintro e w' ⟨v', rfl, ho, hb⟩
      have ho' := ho
      obtain ⟨cap2, rfl, _⟩ := ho'
      exact ⟨_, cap2, rfl, .inr ⟨g, hgz, ho⟩, hb⟩
    clear hown hg hcs htk hB hnc hcm
    go_wp2_with fail
    go_at_call 94
    refine HD.out.mono ?_
    rintro e w2 ⟨M, cap2, rfl, ho2, hb2⟩
    have HX := Lib.hid (And.intro ho2 hb2)
    clear ho2 hb2
    have O2 : Hid (OwnS (w.heap.size + 2) w2 (.slice (some ⟨g, 0, none⟩) M cap2) (notQ q l)) := HX.out.1
    have B2 : Hid (Below w.heap.size w w2) := B1.out.trans (HX.out.2.mono (by omega))
    have X2 : Hid (w2.heap[w.heap.size]? = some (.cells #[.int .i64 R, .int .i64 N, .slice ad L cap0] 24 (0, 0)) ∧ w2.heap[w.heap.size + 1]? = some (.cells #[.int .i64 0, .int .i64 0, .slice none 0 0] 24 (0, 0))) := ⟨(HX.out.2.block _ (by omega)).trans X1.out.1, (HX.out.2.block _ (by omega)).trans X1.out.2⟩
    clear X1 B1 HO HX HD hg1 hgz
    have z0 : w2.cell? ⟨w.heap.size, 0, none⟩ = some (.int .i64 R) := cell_of X2.out.1 rfl
    have z1 : w2.cell? ⟨w.heap.size, 1, none⟩ = some (.int .i64 N) := cell_of X2.out.1 rfl
    have z2 : w2.cell? ⟨w.heap.size, 2, none⟩ = some (.slice ad L cap0) := cell_of X2.out.1 rfl
    have z3 : w2.frozen? ⟨w.heap.size, 2, none⟩ = false := free_of X2.out.1 _
    have y0 : w2.cell? ⟨w.heap.size + 1, 0, none⟩ = some (.int .i64 0) := cell_of X2.out.2 rfl
    have y1 : w2.cell? ⟨w.heap.size + 1, 1, none⟩ = some (.int .i64 0) := cell_of X2.out.2 rfl
    have y2 : w2.cell? ⟨w.heap.size + 1, 2, none⟩ = some (.slice none 0 0) := cell_of X2.out.2 rfl
    have y3 : w2.frozen? ⟨w.heap.size + 1, 0, none⟩ = false := free_of X2.out.2 _
    have y4 : w2.frozen? ⟨w.heap.size + 1, 1, none⟩ = false := free_of X2.out.2 _
    have y5 : w2.frozen? ⟨w.heap.size + 1, 2, none⟩ = false := free_of X2.out.2 _
    have HEND : Hid (∀ u0 u1 u2 u3, OwnS w.heap.size ((((w2.setCell ⟨w.heap.size, 2, none⟩ u0).setCell ⟨w.heap.size + 1, 0, none⟩ u1).setCell ⟨w.heap.size + 1, 1, none⟩ u2).setCell ⟨w.heap.size + 1, 2, none⟩ u3) (.slice (some ⟨g, 0, none⟩) M cap2) (notQ q l) ∧
        Below w.heap.size w ((((w2.setCell ⟨w.heap.size, 2, none⟩ u0).setCell ⟨w.heap.size + 1, 0, none⟩ u1).setCell ⟨w.heap.size + 1, 1, none⟩ u2).setCell ⟨w.heap.size + 1, 2, none⟩ u3)) := fun u0 u1 u2 u3 =>
      ⟨((((O2.out.setCell (by omega)).setCell (by omega)).setCell (by omega)).setCell (by omega)).mono (by omega), (((B2.out.setCell (Nat.le_refl _) _).setCell (Nat.le_succ _) _).setCell (Nat.le_succ _) _).setCell (Nat.le_succ _) _⟩
    go_wp2
    (try simp only [Exit.inBlock, Exit.then])
    refine bodyPost_ret (v := .agg #[.int .i64 R, .int .i64 N, .slice (some ⟨g, 0, none⟩) M cap2]) (by rw [results_cell_one rfl]; go_simp) rfl ?_
    exact ⟨_, rfl, (HEND.out _ _ _ _).1, (HEND.out _ _ _ _).2⟩
theorem drop69_any (q : E → Bool) (c d : Nat) (R N : Int) (l : List E) (v : Value) (w : World) (hl : Fits l) (hr : Rd3 w v l)
    (hQ : ∀ (x : E) (W : World), Below w.heap.size w W → Calls Try.prog 69 #[.agg #[.int .i64 x.1, .int .i64 x.2.1, .int .i64 x.2.2], .pointer (some ⟨c, 0, none⟩), .pointer (some ⟨d, 0, none⟩)] W fun e w' => e = .returned (.bool (q x)) ∧ Below W.heap.size W w') :
    Calls Try.prog 67 #[.agg #[.int .i64 R, .int .i64 N, v], .func (.func 69) #[] #[.pointer (some ⟨c, 0, none⟩), .pointer (some ⟨d, 0, none⟩)]] w fun e w' => ∃ s, e = .returned (.agg #[.int .i64 R, .int .i64 N, s]) ∧ OwnS w.heap.size w' s (notQ q l) ∧ Below w.heap.size w w' := by
  have HCL : Hid (∀ W, Below w.heap.size w W → Calls Try.prog 60 #[v] W fun e w' => ∃ v', e = .returned v' ∧ w'.ownsRow W.heap.size 52 3 v' l.length (flatE l) ∧ Below W.heap.size W w') := fun W hb => clone_any l v W hl (hr.below hb)
  have HQ := Lib.hid hQ
  have HLN := Lib.hid hl
  obtain ⟨ad, cap0, rfl⟩ := rd3_slice hr
  obtain ⟨L, hL⟩ : ∃ L, l.length = L := ⟨_, rfl⟩
  rw [hL] at HCL ⊢
  have HL := Lib.hid hL
  clear hQ hr hl hL
  go_enter Try.func67, Try.ntmps67
  go_wp2_with fail
  go_at_call 60
  refine (HCL.out _ (below_two _ _ _)).mono ?_
  rintro e w1 ⟨v1, rfl, hown, hb⟩
  have HO := Lib.hid (And.intro hown hb)
  clear hb
  have hz1 : w.heap.size + 2 ≤ w1.heap.size := by have := HO.out.2.size; simpa using this
  have B1 : Hid (Below w.heap.size w w1) := below_then (below_two _ _ _) HO.out.2
  have X1 : Hid (w1.heap[w.heap.size]? = some (.cells #[.int .i64 R, .int .i64 N, .slice ad L cap0] 24 (0, 0)) ∧ w1.heap[w.heap.size + 1]? = some (.cells #[.int .i64 0, .int .i64 0, .slice none 0 0] 24 (0, 0))) := by
    refine ⟨(HO.out.2.block _ (by simp; omega)).trans ((Below.heap_alloc _ _ _ (by simp)).trans (heap_alloc_new _ _)), (HO.out.2.block _ (by simp)).trans ?_⟩
    have := heap_alloc_new (w.alloc (.cells #[.int .i64 R, .int .i64 N, .slice ad L cap0] 24)) (.cells #[.int .i64 0, .int .i64 0, .slice none 0 0] 24)
    rwa [show (w.alloc _).heap.size = w.heap.size + 1 by simp] at this
  rcases hown.2 with ⟨rfl, hn⟩ | ⟨g, cap, cur, rfl, hB, hg, hnc, hcm, hcs, htk⟩
  · have hl0 : notQ q l = [] := by
      have : l = [] := List.length_eq_zero_iff.1 (by have := HL.out; omega)
      rw [this]; rfl
    have O2 : Hid (OwnS (w.heap.size + 2) w1 (.slice none 0 0) (notQ q l)) := .inl ⟨rfl, hl0⟩
    clear hown hn hl0
    go_wp2_with fail
    go_at_call 94
    refine (delete69_none c d _).mono ?_
    rintro e w2 ⟨rfl, hw2⟩
    subst hw2
    have X2 := X1
    have B2 := B1
    clear X1 B1 HO
    have z0 : w2.cell? ⟨w.heap.size, 0, none⟩ = some (.int .i64 R) := cell_of X2.out.1 rfl
    have z1 : w2.cell? ⟨w.heap.size, 1, none⟩ = some (.int .i64 N) := cell_of X2.out.1 rfl
    have z2 : w2.cell? ⟨w.heap.size, 2, none⟩ = some (.slice ad L cap0) := cell_of X2.out.1 rfl
    have z3 : w2.frozen? ⟨w.heap.size, 2, none⟩ = false := free_of X2.out.1 _
    have y0 : w2.cell? ⟨w.heap.size + 1, 0, none⟩ = some (.int .i64 0) := cell_of X2.out.2 rfl
    have y1 : w2.cell? ⟨w.heap.size + 1, 1, none⟩ = some (.int .i64 0) := cell_of X2.out.2 rfl
    have y2 : w2.cell? ⟨w.heap.size + 1, 2, none⟩ = some (.slice none 0 0) := cell_of X2.out.2 rfl
    have y3 : w2.frozen? ⟨w.heap.size + 1, 0, none⟩ = false := free_of X2.out.2 _
    have y4 : w2.frozen? ⟨w.heap.size + 1, 1, none⟩ = false := free_of X2.out.2 _
    have y5 : w2.frozen? ⟨w.heap.size + 1, 2, none⟩ = false := free_of X2.out.2 _
    have HEND : Hid (∀ u0 u1 u2 u3, OwnS w.heap.size ((((w2.setCell ⟨w.heap.size, 2, none⟩ u0).setCell ⟨w.heap.size + 1, 0, none⟩ u1).setCell ⟨w.heap.size + 1, 1, none⟩ u2).setCell ⟨w.heap.size + 1, 2, none⟩ u3) (.slice none 0 0) (notQ q l) ∧
        Below w.heap.size w ((((w2.setCell ⟨w.heap.size, 2, none⟩ u0).setCell ⟨w.heap.size + 1, 0, none⟩ u1).setCell ⟨w.heap.size + 1, 1, none⟩ u2).setCell ⟨w.heap.size + 1, 2, none⟩ u3)) := fun u0 u1 u2 u3 =>
      ⟨((((O2.out.setCell (by omega)).setCell (by omega)).setCell (by omega)).setCell (by omega)).mono (by omega), (((B2.out.setCell (Nat.le_refl _) _).setCell (Nat.le_succ _) _).setCell (Nat.le_succ _) _).setCell (Nat.le_succ _) _⟩
    go_wp2
    (try simp only [Exit.inBlock, Exit.then])
    refine bodyPost_ret (v := .agg #[.int .i64 R, .int .i64 N, .slice none 0 0]) (by rw [results_cell_one rfl]; go_simp) rfl ?_
    exact ⟨_, rfl, (HEND.out _ _ _ _).1, (HEND.out _ _ _ _).2⟩
  · have hg1 : g < w1.heap.size := lt_block hg
    have hgz : w.heap.size + 2 ≤ g := by simpa using hB
    have HD : Hid (Calls Try.prog 94 #[.slice (some ⟨g, 0, none⟩) L cap, .func (.func 69) #[] #[.pointer (some ⟨c, 0, none⟩), .pointer (some ⟨d, 0, none⟩)]] w1 fun e w' => ∃ (M cap2 : Nat), e = .returned (.slice (some ⟨g, 0, none⟩) M cap2) ∧ OwnS (w.heap.size + 2) w' (.slice (some ⟨g, 0, none⟩) M cap2) (notQ q l) ∧ Below g w1 w') := by
      have hL := HL.out
      have hown2 := hown
      rw [← hL] at hown2
      have := delete69_any q c d g l (.slice (some ⟨g, 0, none⟩) l.length cap) w1 HLN.out ⟨cap, rfl, by omega, by unfold maxLen at hcm; omega, holdsE_own hown2, hg1⟩ (fun x W hb => HQ.out x W (B1.out.trans (hb.mono (by omega))))
      rw [hL] at this
      refine this.mono ?_
      rintro e w' ⟨v', rfl, ho, hb⟩
      have ho' := ho
      obtain ⟨cap2, rfl, _⟩ := ho'
      exact ⟨_, cap2, rfl, .inr ⟨g, hgz, ho⟩, hb⟩
    clear hown hg hcs htk hB hnc hcm
    go_wp2_with fail
    go_at_call 94
    refine HD.out.mono ?_
    rintro e w2 ⟨M, cap2, rfl, ho2, hb2⟩
    have HX := Lib.hid (And.intro ho2 hb2)
    clear ho2 hb2
    have O2 : Hid (OwnS (w.heap.size + 2) w2 (.slice (some ⟨g, 0, none⟩) M cap2) (notQ q l)) := HX.out.1
    have B2 : Hid (Below w.heap.size w w2) := B1.out.trans (HX.out.2.mono (by omega))
    have X2 : Hid (w2.heap[w.heap.size]? = some (.cells #[.int .i64 R, .int .i64 N, .slice ad L cap0] 24 (0, 0)) ∧ w2.heap[w.heap.size + 1]? = some (.cells #[.int .i64 0, .int .i64 0, .slice none 0 0] 24 (0, 0))) := ⟨(HX.out.2.block _ (by omega)).trans X1.out.1, (HX.out.2.block _ (by omega)).trans X1.out.2⟩
    clear X1 B1 HO HX HD hg1 hgz
    have z0 : w2.cell? ⟨w.heap.size, 0, none⟩ = some (.int .i64 R) := cell_of X2.out.1 rfl
    have z1 : w2.cell? ⟨w.heap.size, 1, none⟩ = some (.int .i64 N) := cell_of X2.out.1 rfl
    have z2 : w2.cell? ⟨w.heap.size, 2, none⟩ = some (.slice ad L cap0) := cell_of X2.out.1 rfl
    have z3 : w2.frozen? ⟨w.heap.size, 2, none⟩ = false := free_of X2.out.1 _
    have y0 : w2.cell? ⟨w.heap.size + 1, 0, none⟩ = some (.int .i64 0) := cell_of X2.out.2 rfl
    have y1 : w2.cell? ⟨w.heap.size + 1, 1, none⟩ = some (.int .i64 0) := cell_of X2.out.2 rfl
    have y2 : w2.cell? ⟨w.heap.size + 1, 2, none⟩ = some (.slice none 0 0) := cell_of X2.out.2 rfl
    have y3 : w2.frozen? ⟨w.heap.size + 1, 0, none⟩ = false := free_of X2.out.2 _
    have y4 : w2.frozen? ⟨w.heap.size + 1, 1, none⟩ = false := free_of X2.out.2 _
    have y5 : w2.frozen? ⟨w.heap.size + 1, 2, none⟩ = false := free_of X2.out.2 _
    have HEND : Hid (∀ u0 u1 u2 u3, OwnS w.heap.size ((((w2.setCell ⟨w.heap.size, 2, none⟩ u0).setCell ⟨w.heap.size + 1, 0, none⟩ u1).setCell ⟨w.heap.size + 1, 1, none⟩ u2).setCell ⟨w.heap.size + 1, 2, none⟩ u3) (.slice (some ⟨g, 0, none⟩) M cap2) (notQ q l) ∧
        Below w.heap.size w ((((w2.setCell ⟨w.heap.size, 2, none⟩ u0).setCell ⟨w.heap.size + 1, 0, none⟩ u1).setCell ⟨w.heap.size + 1, 1, none⟩ u2).setCell ⟨w.heap.size + 1, 2, none⟩ u3)) := fun u0 u1 u2 u3 =>
      ⟨((((O2.out.setCell (by omega)).setCell (by omega)).setCell (by omega)).setCell (by omega)).mono (by omega), (((B2.out.setCell (Nat.le_refl _) _).setCell (Nat.le_succ _) _).setCell (Nat.le_succ _) _).setCell (Nat.le_succ _) _⟩
    go_wp2
    (try simp only [Exit.inBlock, Exit.then])
    refine bodyPost_ret (v := .agg #[.int .i64 R, .int .i64 N, .slice (some ⟨g, 0, none⟩) M cap2]) (by rw [results_cell_one rfl]; go_simp) rfl ?_
    exact ⟨_, rfl, (HEND.out _ _ _ _).1, (HEND.out _ _ _ _).2⟩
theorem without_any (R N n : Int) (l : List E) (v : Value) (w : World) (hl : Fits l) (hr : Rd3 w v l) :
    Calls Try.prog 30 #[.agg #[.int .i64 R, .int .i64 N, v], .int .i64 n] w fun e w' => ∃ s, e = .returned (.agg #[.int .i64 R, .int .i64 N, s]) ∧ OwnS w.heap.size w' s (notQ (woQ n) l) ∧ Below w.heap.size w w' := by
  obtain ⟨W0, hW0⟩ : ∃ W0, W0 = ((w.alloc (.cells #[.int .i64 R, .int .i64 N, v] 24)).alloc (.cells #[.int .i64 n] 3)).alloc (.cells #[.int .i64 0, .int .i64 0, .slice none 0 0] 24) := ⟨_, rfl⟩
  have HB : Hid (Below w.heap.size w W0) := by show Below _ _ _; rw [hW0]; exact below_then (below_two _ _ _) (below_alloc _ _)
  have HX : Hid (W0.heap[w.heap.size + 1]? = some (.cells #[.int .i64 n] 3 (0, 0)) ∧ W0.heap[w.heap.size + 1 + 1]? = some (.cells #[.int .i64 0, .int .i64 0, .slice none 0 0] 24 (0, 0))) := by
    show _ ∧ _
    rw [hW0]
    exact ⟨heap_up (heap_at (by simp)), heap_at (by simp)⟩
  have HD : Hid (Calls Try.prog 67 #[.agg #[.int .i64 R, .int .i64 N, v], .func (.func 68) #[] #[.pointer (some ⟨w.heap.size + 1, 0, none⟩)]] W0 fun e w' => ∃ s, e = .returned (.agg #[.int .i64 R, .int .i64 N, s]) ∧ OwnS W0.heap.size w' s (notQ (woQ n) l) ∧ Below W0.heap.size W0 w') :=
    drop68_any (woQ n) (w.heap.size + 1) R N l v W0 hl (hr.below HB.out) (fun x W hb => wo68_any x (w.heap.size + 1) n W (carry hb (cell_of HX.out.1 rfl)))
  have HZ : Hid (W0.heap.size = w.heap.size + 3) := by show _ = _; rw [hW0]; simp
  obtain ⟨ad, cap0, rfl⟩ := rd3_slice hr
  clear hr hl
  go_enter Try.func30, Try.ntmps30
  go_wp2_with fail
  go_at_call 67
  rw [← hW0]
  clear hW0
  refine HD.out.mono ?_
  rintro e w1 ⟨s, rfl, hown, hb⟩
  have X1 : Hid (w1.heap[w.heap.size + 1 + 1]? = some (.cells #[.int .i64 0, .int .i64 0, .slice none 0 0] 24 (0, 0))) := (hb.block _ (lt_block HX.out.2)).trans HX.out.2
  have B1 : Hid (Below w.heap.size w w1) := below_then HB.out hb
  have O1 : Hid (OwnS (w.heap.size + 3) w1 s (notQ (woQ n) l)) := by have := hown; rwa [HZ.out] at this
  obtain ⟨ad1, cap1, rfl⟩ := rd3_slice O1.out.rd
  have y0 : w1.cell? ⟨w.heap.size + 1 + 1, 0, none⟩ = some (.int .i64 0) := cell_of X1.out rfl
  have y1 : w1.cell? ⟨w.heap.size + 1 + 1, 1, none⟩ = some (.int .i64 0) := cell_of X1.out rfl
  have y2 : w1.cell? ⟨w.heap.size + 1 + 1, 2, none⟩ = some (.slice none 0 0) := cell_of X1.out rfl
  have y3 : w1.frozen? ⟨w.heap.size + 1 + 1, 0, none⟩ = false := free_of X1.out _
  have y4 : w1.frozen? ⟨w.heap.size + 1 + 1, 1, none⟩ = false := free_of X1.out _
  have y5 : w1.frozen? ⟨w.heap.size + 1 + 1, 2, none⟩ = false := free_of X1.out _
  generalize (notQ (woQ n) l).length = M at *
  have HEND : Hid (∀ u1 u2 u3, OwnS w.heap.size (((w1.setCell ⟨w.heap.size + 1 + 1, 0, none⟩ u1).setCell ⟨w.heap.size + 1 + 1, 1, none⟩ u2).setCell ⟨w.heap.size + 1 + 1, 2, none⟩ u3) (.slice ad1 M cap1) (notQ (woQ n) l) ∧
      Below w.heap.size w (((w1.setCell ⟨w.heap.size + 1 + 1, 0, none⟩ u1).setCell ⟨w.heap.size + 1 + 1, 1, none⟩ u2).setCell ⟨w.heap.size + 1 + 1, 2, none⟩ u3)) := fun u1 u2 u3 =>
    ⟨(((O1.out.setCell (by omega)).setCell (by omega)).setCell (by omega)).mono (by omega), ((B1.out.setCell (by show _ ≤ w.heap.size + 1 + 1; omega) _).setCell (by show _ ≤ w.heap.size + 1 + 1; omega) _).setCell (by show _ ≤ w.heap.size + 1 + 1; omega) _⟩
  clear hown hb
  go_wp2
  (try simp only [Exit.inBlock, Exit.then])
  refine bodyPost_ret (v := .agg #[.int .i64 R, .int .i64 N, .slice ad1 M cap1]) (by rw [results_cell_one rfl]; go_simp) rfl ?_
  exact ⟨_, rfl, (HEND.out _ _ _).1, (HEND.out _ _ _).2⟩
theorem cut_any (R N a b : Int) (l : List E) (v : Value) (w : World) (hl : Fits l) (hr : Rd3 w v l) :
    Calls Try.prog 32 #[.agg #[.int .i64 R, .int .i64 N, v], .int .i64 a, .int .i64 b] w fun e w' => ∃ s, e = .returned (.agg #[.int .i64 R, .int .i64 N, s]) ∧ OwnS w.heap.size w' s (notQ (cutQ a b) l) ∧ Below w.heap.size w w' := by
  obtain ⟨W0, hW0⟩ : ∃ W0, W0 = (((w.alloc (.cells #[.int .i64 R, .int .i64 N, v] 24)).alloc (.cells #[.int .i64 a] 3)).alloc (.cells #[.int .i64 b] 3)).alloc (.cells #[.int .i64 0, .int .i64 0, .slice none 0 0] 24) := ⟨_, rfl⟩
  have HB : Hid (Below w.heap.size w W0) := by show Below _ _ _; rw [hW0]; exact below_then (below_then (below_two _ _ _) (below_alloc _ _)) (below_alloc _ _)
  have HX : Hid ((W0.heap[w.heap.size + 1]? = some (.cells #[.int .i64 a] 3 (0, 0)) ∧ W0.heap[w.heap.size + 1 + 1]? = some (.cells #[.int .i64 b] 3 (0, 0))) ∧ W0.heap[w.heap.size + 1 + 1 + 1]? = some (.cells #[.int .i64 0, .int .i64 0, .slice none 0 0] 24 (0, 0))) := by
    show _ ∧ _
    rw [hW0]
    exact ⟨⟨heap_up (heap_up (heap_at (by simp))), heap_up (heap_at (by simp))⟩, heap_at (by simp)⟩
  have HD : Hid (Calls Try.prog 67 #[.agg #[.int .i64 R, .int .i64 N, v], .func (.func 69) #[] #[.pointer (some ⟨w.heap.size + 1, 0, none⟩), .pointer (some ⟨w.heap.size + 1 + 1, 0, none⟩)]] W0 fun e w' => ∃ s, e = .returned (.agg #[.int .i64 R, .int .i64 N, s]) ∧ OwnS W0.heap.size w' s (notQ (cutQ a b) l) ∧ Below W0.heap.size W0 w') :=
    drop69_any (cutQ a b) (w.heap.size + 1) (w.heap.size + 1 + 1) R N l v W0 hl (hr.below HB.out) (fun x W hb => cut69_any x (w.heap.size + 1) (w.heap.size + 1 + 1) a b W (carry hb (cell_of HX.out.1.1 rfl)) (carry hb (cell_of HX.out.1.2 rfl)))
  have HZ : Hid (W0.heap.size = w.heap.size + 4) := by show _ = _; rw [hW0]; simp
  obtain ⟨ad, cap0, rfl⟩ := rd3_slice hr
  clear hr hl
  go_enter Try.func32, Try.ntmps32
  go_wp2_with fail
  go_at_call 67
  rw [← hW0]
  clear hW0
  refine HD.out.mono ?_
  rintro e w1 ⟨s, rfl, hown, hb⟩
  have X1 : Hid (w1.heap[w.heap.size + 1 + 1 + 1]? = some (.cells #[.int .i64 0, .int .i64 0, .slice none 0 0] 24 (0, 0))) := (hb.block _ (lt_block HX.out.2)).trans HX.out.2
  have B1 : Hid (Below w.heap.size w w1) := below_then HB.out hb
  have O1 : Hid (OwnS (w.heap.size + 4) w1 s (notQ (cutQ a b) l)) := by have := hown; rwa [HZ.out] at this
  obtain ⟨ad1, cap1, rfl⟩ := rd3_slice O1.out.rd
  have y0 : w1.cell? ⟨w.heap.size + 1 + 1 + 1, 0, none⟩ = some (.int .i64 0) := cell_of X1.out rfl
  have y1 : w1.cell? ⟨w.heap.size + 1 + 1 + 1, 1, none⟩ = some (.int .i64 0) := cell_of X1.out rfl
  have y2 : w1.cell? ⟨w.heap.size + 1 + 1 + 1, 2, none⟩ = some (.slice none 0 0) := cell_of X1.out rfl
  have y3 : w1.frozen? ⟨w.heap.size + 1 + 1 + 1, 0, none⟩ = false := free_of X1.out _
  have y4 : w1.frozen? ⟨w.heap.size + 1 + 1 + 1, 1, none⟩ = false := free_of X1.out _
  have y5 : w1.frozen? ⟨w.heap.size + 1 + 1 + 1, 2, none⟩ = false := free_of X1.out _
  generalize (notQ (cutQ a b) l).length = M at *
  have HEND : Hid (∀ u1 u2 u3, OwnS w.heap.size (((w1.setCell ⟨w.heap.size + 1 + 1 + 1, 0, none⟩ u1).setCell ⟨w.heap.size + 1 + 1 + 1, 1, none⟩ u2).setCell ⟨w.heap.size + 1 + 1 + 1, 2, none⟩ u3) (.slice ad1 M cap1) (notQ (cutQ a b) l) ∧
      Below w.heap.size w (((w1.setCell ⟨w.heap.size + 1 + 1 + 1, 0, none⟩ u1).setCell ⟨w.heap.size + 1 + 1 + 1, 1, none⟩ u2).setCell ⟨w.heap.size + 1 + 1 + 1, 2, none⟩ u3)) := fun u1 u2 u3 =>
    ⟨(((O1.out.setCell (by omega)).setCell (by omega)).setCell (by omega)).mono (by omega), ((B1.out.setCell (by show _ ≤ w.heap.size + 1 + 1 + 1; omega) _).setCell (by show _ ≤ w.heap.size + 1 + 1 + 1; omega) _).setCell (by show _ ≤ w.heap.size + 1 + 1 + 1; omega) _⟩
  clear hown hb
  go_wp2
  (try simp only [Exit.inBlock, Exit.then])
  refine bodyPost_ret (v := .agg #[.int .i64 R, .int .i64 N, .slice ad1 M cap1]) (by rw [results_cell_one rfl]; go_simp) rfl ?_
  exact ⟨_, rfl, (HEND.out _ _ _).1, (HEND.out _ _ _).2⟩
end Go.Proofs.Ytiodpgannelgpaa
