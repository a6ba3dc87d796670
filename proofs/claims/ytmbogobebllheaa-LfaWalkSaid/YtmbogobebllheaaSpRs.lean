/-
  The reference's Run again: the rows of first hops lie in blocks of the call's own.
-/
import Derived.Test.YtmbogobebllheaaLfNx
import Derived.Test.YtmbogobebllheaaMd
import Derived.Deep.AppendLies
namespace Go.Proofs.Ytmbogobebllheaa
open Go.RowKit HM GM SP Classical
set_option linter.unusedSimpArgs false
set_option linter.unusedVariables false
set_option maxHeartbeats 4000000
set_option maxRecDepth 100000
/-- rows of integers in blocks from B on -/
def RdRB (B : Nat) (w : World) (v : Value) (rows : List (List Int)) : Prop :=
  ∃ ad cap, v = .slice ad rows.length cap ∧ rows.length ≤ cap ∧ cap ≤ 9223372036854775807 ∧ ∀ k r, rows[k]? = some r → ∃ b off u, ad = some ⟨b, off, none⟩ ∧ b < w.heap.size ∧ B ≤ b ∧ w.cell? ⟨b, off + k, none⟩ = some u ∧ RdIB B w u r
theorem rdrb_own {w : World} {B B' : Nat} {H n : Nat} {vs : List Value} {rows : List (List Int)} (h : w.ownsRow B 35 1 (.slice (some ⟨H, 0, none⟩) n n) n vs) (hr : RS w vs rows) (hn : n ≤ 65536) (hB : B' ≤ H) (hg : ∀ g ∈ rblk vs, B' ≤ g) : RdRB B' w (.slice (some ⟨H, 0, none⟩) n n) rows := by
  have hl : vs.length = n := by have := h.1; omega
  have hl2 : rows.length = n := by rw [← hr.len]; exact hl
  refine ⟨some ⟨H, 0, none⟩, n, by rw [hl2], by omega, by omega, fun k r hk => ?_⟩
  have hkl := (List.getElem?_eq_some_iff.1 hk).1
  have hkn : k < n := by omega
  refine ⟨H, 0, gVl vs k, rfl, (row_lt h rfl).2, hB, ?_, ?_⟩
  · rw [Nat.zero_add, h.cellAt k (by omega)]; exact gVl_get (by omega)
  · have := hr.row k hkl
    have e : gL rows k = r := by unfold gL; rw [hk]; rfl
    rw [e] at this
    obtain ⟨ad, cap, e1, e2, e3, hc⟩ := rdi_own this
    refine ⟨ad, cap, e1, e2, e3, fun j x hx => ?_⟩
    obtain ⟨b, off, rfl, hlt, c⟩ := hc j x hx
    exact ⟨b, off, rfl, hlt, hg b (mem_rblk.2 ⟨k, by omega, by rw [e1]; rfl⟩), c⟩
theorem rrun_own (R N : Int) (l : List E) (s : Value) (x n : Nat) (w : World) (hR : I64 R) (hN : I64 N) (hr : Rd3 w s l) (hf : FitT l) (hc : chk R N l = 0) (hxR : (x : Int) < R) (hn : (n : Int) = R + N) :
    Calls Try.prog 56 #[.agg #[.int .i64 R, .int .i64 N, s], .int .i64 (x : Int)] w fun e w' => ∃ t tv, e = .returned (.tuple #[tv, .int .i64 0]) ∧ RdT w' tv t ∧ t.root = (x : Int) ∧ Tree R N l (x : Int) n t.dist t.hops t.pars ∧ Below w.heap.size w w' ∧ ∃ q0 q1 q2 q3, tv = .agg #[q0, q1, q2, q3] ∧ RdRB w.heap.size w' q2 t.hops := by
  have hv := chk_iff.1 hc
  have hR0 := hv.r; have hN0 := hv.n; have hS := hv.s
  have HCK : Hid (∀ W, Below w.heap.size w W → Calls Try.prog 37 #[.agg #[.int .i64 R, .int .i64 N, s]] W fun e w' => e = .returned (.int .i64 0) ∧ Below W.heap.size W w') := fun W hW => by
    have := rcheck_any R N s l W hR hN (hr.below hW) hf
    rwa [hc] at this
  have HDI : Hid (∀ W, Below w.heap.size w W → Calls Try.prog 83 #[.agg #[.int .i64 R, .int .i64 N, s]] W (DistQ l n W)) := fun W hW => dist_any R N l s n W hv (hr.below hW) hn
  have HCo : Hid (∀ a c W, Below w.heap.size w W → Calls Try.prog 43 #[.agg #[.int .i64 R, .int .i64 N, s], .int .i64 a, .int .i64 c] W fun e w' => e = .returned (.tuple #[.int .i64 (cstF a c l).1, .bool (cstF a c l).2]) ∧ Below W.heap.size W w') := fun a c W hW => rcost_any R N a c l s W (hr.below hW)
  have HDR : Hid (∀ (v b o dcap : Nat) W, Below w.heap.size w W → v < n → DT W l n b o dcap → n ≤ dcap → Calls Try.prog 105 #[.agg #[.int .i64 R, .int .i64 N, s], .slice (some ⟨b, o, none⟩) n dcap, .int .i64 (x : Int), .int .i64 (v : Int)] W fun e w' => ∃ d : Bool, e = .returned (.bool d) ∧ (d = true ↔ FirstB R l (x : Int) (v : Int)) ∧ Below W.heap.size W w') := fun v b o dcap W hW hvn hd hdc => direct_any R N l s n x v b o dcap W hv (hr.below hW) hn (by omega) hvn hd hdc
  have HV : Hid (Valid R N l ∧ (n : Int) = R + N) := ⟨hv, hn⟩
  obtain ⟨ad, cap, hform⟩ := rd3_slice hr
  obtain ⟨L, hL⟩ : ∃ L, l.length = L := ⟨_, rfl⟩
  rw [hL] at hform
  subst hform
  have hn8 : n ≤ 128 := by omega
  have hRn : R ≤ (n : Int) := by omega
  have x0 : (0 : Int) ≤ (x : Int) := by omega
  have x1 : (x : Int) < (n : Int) := by omega
  have hxn : x < n := by omega
  have hmk := make_rowsI n (by omega)
  clear hv hL hr hn hc
  go_enter Try.func56, Try.ntmps56
  go_wp2_with fail
  have o2 := heap_new1 (w.alloc (.cells #[.int .i64 R, .int .i64 N, .slice ad L cap] 27)) box0 (b := w.heap.size + 1) (by simp)
  have o1 := heap_up (o := box0) (heap_new1 w (.cells #[.int .i64 R, .int .i64 N, .slice ad L cap] 27) (b := w.heap.size) rfl)
  have HB := Lib.hid (below_then (below_alloc w (.cells #[.int .i64 R, .int .i64 N, .slice ad L cap] 27)) (below_alloc _ box0))
  go_at_call 37
  refine (HCK.out _ HB.out).mono ?_
  rintro e w1 ⟨rfl, hb1⟩
  have HB1 := Lib.hid (below_then HB.out hb1)
  have HO1 := Lib.hid (And.intro ((hb1.block _ (lt_block o1)).trans o1) ((hb1.block _ (lt_block o2)).trans o2))
  clear hb1 o1 o2 HB
  have g0 : w1.cell? ⟨w.heap.size, 0, none⟩ = some (.int .i64 R) := cell_of HO1.out.1 rfl
  have g1 : w1.cell? ⟨w.heap.size, 1, none⟩ = some (.int .i64 N) := cell_of HO1.out.1 rfl
  have g2 : w1.cell? ⟨w.heap.size, 2, none⟩ = some (.slice ad L cap) := cell_of HO1.out.1 rfl
  have y0 : decide ((x : Int) < 0) = false := decide_eq_false (by omega)
  have y1 : decide (R ≤ (x : Int)) = false := decide_eq_false (by omega)
  go_wp2_with fail
  go_at_call 83
  refine (HDI.out _ HB1.out).mono ?_
  rintro e w2 ⟨Hd, tab, vs, rfl, hown, hrs, htb, hT, hb2⟩
  have hDT0 : DT w2 l n Hd 0 n := by
    obtain ⟨b, o, c, e, _, h⟩ := DT.of (rdr_own hown hrs (by omega)) htb hT (by omega)
    injection e with e1 e2 e3
    injection e1 with e1
    cases e1; cases e3; exact h
  have HD := Lib.hid hDT0
  have HGN : Hid (∀ g p c, w2.cell? ⟨Hd, x, none⟩ = some (.slice (some ⟨g, p, none⟩) n c) → g ≠ w.heap.size + 1 ∧ c ≤ 9223372036854775807) := fun g p c hcell => by
    have hvs : vs.length = n := by have := hown.1; omega
    rw [hown.cellAt x (by omega), gVl_get (by omega)] at hcell
    have e := Option.some.inj hcell
    have hrx := hrs.row x (by rw [htb.len]; exact hxn)
    rw [e] at hrx
    rcases hrx.2 with ⟨e1, _⟩ | ⟨g', cap', cur, e1, _, hg', _, hcm, _⟩
    · cases e1
    · cases e1
      refine ⟨fun hg => ?_, by unfold maxLen at hcm; omega⟩
      rw [hg, (hb2.block _ (lt_block HO1.out.2)).trans HO1.out.2] at hg'
      unfold box0 at hg'
      simp at hg'
  have HB2 := Lib.hid (below_then HB1.out hb2)
  have HO2 := Lib.hid (And.intro ((hb2.block _ (lt_block HO1.out.1)).trans HO1.out.1) ((hb2.block _ (lt_block HO1.out.2)).trans HO1.out.2))
  clear g0 g1 g2 hb2 HB1 HO1 hown hrs htb hT hDT0 HCK HDI
  obtain ⟨gr, gp, gc, f1, f2, f3, f4⟩ := HD.out.rows x hxn
  rw [Nat.zero_add] at f1
  have HRX : Hid (∀ W, Below w2.heap.size w2 W → W.cell? ⟨Hd, x, none⟩ = some (.slice (some ⟨gr, gp, none⟩) n gc) ∧ ∀ j, j < n → W.cell? ⟨gr, gp + j, none⟩ = some (.int .i64 (T l (x : Int) (j : Int)))) := fun W hW => ⟨carry hW f1, fun j hj => carry hW (f4 j hj)⟩
  have HF4 := Lib.hid f4
  have HGR : Hid (gr < w2.heap.size ∧ Hd < w2.heap.size) := ⟨f2, HD.out.blk⟩
  have HGX : Hid (gr ≠ w.heap.size + 1) := (HGN.out _ _ _ f1).1
  have HCM : Hid (gc ≤ 9223372036854775807) := (HGN.out _ _ _ f1).2
  clear HGN
  clear f4 f2
  go_upto_region 8 with (fail)
  refine reg_mono (fun a a' W => ∃ (tb H P : Nat) (u37 u38 u39 u40 u41 u42 u43 u44 u45 u46 : Value), a' = (((((((((((a.put (some 37) u37).put (some 38) u38).put (some 39) u39).put (some 40) u40).put (some 41) u41).put (some 42) u42).put (some 43) u43).put (some 44) u44).put (some 45) u45).put (some 46) u46).put (some 9) (.pointer (some ⟨tb, 0, none⟩))) ∧ Hid (T0F w2 W tb H P n (x : Int) gr gp gc)) ?_ ?_
  · as_aux_lemma =>
      refine wp_region_held_drew (S := fun W => W.cell? ⟨Hd, x, none⟩ = some (.slice (some ⟨gr, gp, none⟩) n gc) ∧ Below w2.heap.size w2 W) (by kernel_rfl) ⟨f1, (Below.refl _ _).drew⟩ (fun hS0 => ?_)
      refine wpAnyH_take (i := 0) (oi := ⟨some 37, _, _, _, _, _⟩) (v := .int .i64 (x : Int)) rfl (by as_aux_lemma => kernel_rfl) (by as_aux_lemma => kernel_rfl) (by as_aux_lemma => kernel_rfl) (fun _ _ _ h => Exit.noConfusion h.1) (Or.inl ⟨by rfl, by intro w' hw'; obtain ⟨hw1, hw2⟩ := hw'; go_simp⟩) hS0 ?_
      simp only [Act.put, List.setIfInBounds_toArray, List.set_cons_zero, List.set_cons_succ]
      refine wpAnyH_take (i := 1) (oi := ⟨some 38, _, _, _, _, _⟩) (v := .slice (some ⟨Hd, 0, none⟩) n n) rfl (by as_aux_lemma => kernel_rfl) (by as_aux_lemma => kernel_rfl) (by as_aux_lemma => kernel_rfl) (fun _ _ _ h => Exit.noConfusion h.1) (Or.inl ⟨by rfl, by intro w' hw'; obtain ⟨hw1, hw2⟩ := hw'; go_simp⟩) hS0 ?_
      simp only [Act.put, List.setIfInBounds_toArray, List.set_cons_zero, List.set_cons_succ]
      refine wpAnyH_take (i := 2) (oi := ⟨some 39, _, _, _, _, _⟩) (v := .int .i64 (x : Int)) rfl (by as_aux_lemma => kernel_rfl) (by as_aux_lemma => kernel_rfl) (by as_aux_lemma => kernel_rfl) (fun _ _ _ h => Exit.noConfusion h.1) (Or.inl ⟨by rfl, by intro w' hw'; obtain ⟨hw1, hw2⟩ := hw'; go_simp⟩) hS0 ?_
      simp only [Act.put, List.setIfInBounds_toArray, List.set_cons_zero, List.set_cons_succ]
      refine wpAnyH_take (i := 3) (oi := ⟨some 40, _, _, _, _, _⟩) (v := .pointer (some ⟨Hd, x, none⟩)) rfl (by as_aux_lemma => kernel_rfl) (by as_aux_lemma => kernel_rfl) (by as_aux_lemma => kernel_rfl) (fun _ _ _ h => Exit.noConfusion h.1) (Or.inl ⟨by rfl, by intro w' hw'; obtain ⟨hw1, hw2⟩ := hw'; go_simp⟩) hS0 ?_
      simp only [Act.put, List.setIfInBounds_toArray, List.set_cons_zero, List.set_cons_succ]
      refine wpAnyH_take (i := 4) (oi := ⟨some 41, _, _, _, _, _⟩) (v := .slice (some ⟨gr, gp, none⟩) n gc) rfl (by as_aux_lemma => kernel_rfl) (by as_aux_lemma => kernel_rfl) (by as_aux_lemma => kernel_rfl) (fun _ _ _ h => Exit.noConfusion h.1) (Or.inl ⟨by rfl, by intro w' hw'; obtain ⟨hw1, hw2⟩ := hw'; go_simp⟩) hS0 ?_
      simp only [Act.put, List.setIfInBounds_toArray, List.set_cons_zero, List.set_cons_succ]
      refine wpAnyH_take (i := 5) (oi := ⟨some 42, _, _, _, _, _⟩) (v := .int .i64 (n : Int)) rfl (by as_aux_lemma => kernel_rfl) (by as_aux_lemma => kernel_rfl) (by as_aux_lemma => kernel_rfl) (fun _ _ _ h => Exit.noConfusion h.1) (Or.inl ⟨by rfl, by intro w' hw'; obtain ⟨hw1, hw2⟩ := hw'; go_simp⟩) hS0 ?_
      simp only [Act.put, List.setIfInBounds_toArray, List.set_cons_zero, List.set_cons_succ]
      refine wpAnyH_take (i := 7) (oi := ⟨some 44, _, _, _, _, _⟩) (v := .int .i64 (n : Int)) rfl (by as_aux_lemma => kernel_rfl) (by as_aux_lemma => kernel_rfl) (by as_aux_lemma => kernel_rfl) (fun _ _ _ h => Exit.noConfusion h.1) (Or.inl ⟨by rfl, by intro w' hw'; obtain ⟨hw1, hw2⟩ := hw'; go_simp⟩) hS0 ?_
      simp only [Act.put, List.setIfInBounds_toArray, List.set_cons_zero, List.set_cons_succ]
      refine wpAnyH_ready (rs := [6, 8, 10]) (by as_aux_lemma => kernel_rfl) (by simp) ?_
      refine (AllReadyH.cons rfl (fun K hK => ?_) (AllReadyH.cons rfl (fun K hK => ?_) (AllReadyH.cons rfl (fun K hK => ?_) AllReadyH.nil)))
      · have hS1 : (w2.drew.alloc (.cells (madeCells #[.slice none 0 0] n) 35)).cell? ⟨Hd, x, none⟩ = some (.slice (some ⟨gr, gp, none⟩) n gc) ∧ Below w2.heap.size w2 (w2.drew.alloc (.cells (madeCells #[.slice none 0 0] n) 35)) := ⟨carry (below_alloc _ _) hS0.1, below_then hS0.2 (below_alloc _ _)⟩
        go_simp
        (try go_wp2_with fail)
        refine hK.out _ _ hS1 (fun _ => ?_)
        clear hK K
        (try simp only [Act.put, List.setIfInBounds_toArray, List.set_cons_zero, List.set_cons_succ])
        refine wpAnyH_ready (rs := [8, 10]) (by as_aux_lemma => kernel_rfl) (by simp) ?_
        refine (AllReadyH.cons rfl (fun K hK => ?_) (AllReadyH.cons rfl (fun K hK => ?_) AllReadyH.nil))
        · have hS2 : ((w2.drew.alloc (.cells (madeCells #[.slice none 0 0] n) 35)).alloc (.cells (madeCells #[.slice none 0 0] n) 35)).cell? ⟨Hd, x, none⟩ = some (.slice (some ⟨gr, gp, none⟩) n gc) ∧ Below w2.heap.size w2 ((w2.drew.alloc (.cells (madeCells #[.slice none 0 0] n) 35)).alloc (.cells (madeCells #[.slice none 0 0] n) 35)) := ⟨carry (below_alloc _ _) hS1.1, below_then hS1.2 (below_alloc _ _)⟩
          go_simp
          (try go_wp2_with fail)
          refine hK.out _ _ hS2 (fun _ => ?_)
          clear hK K
          (try simp only [Act.put, List.setIfInBounds_toArray, List.set_cons_zero, List.set_cons_succ])
          refine wpAnyH_take (i := 9) (oi := ⟨some 46, _, _, _, _, _⟩) (v := .agg #[.int .i64 (x : Int), .slice (some ⟨gr, gp, none⟩) n gc, .slice (some ⟨w2.drew.heap.size, 0, none⟩) n n, .slice (some ⟨(w2.drew.alloc (.cells (madeCells #[.slice none 0 0] n) 35)).heap.size, 0, none⟩) n n]) rfl (by as_aux_lemma => kernel_rfl) (by as_aux_lemma => kernel_rfl) (by as_aux_lemma => kernel_rfl) (fun _ _ _ h => Exit.noConfusion h.1) (Or.inl ⟨by rfl, by intro w' hw'; obtain ⟨hw1, hw2⟩ := hw'; go_simp⟩) hS2 ?_
          simp only [Act.put, List.setIfInBounds_toArray, List.set_cons_zero, List.set_cons_succ]
          refine wpAnyH_ready (rs := [10]) (by as_aux_lemma => kernel_rfl) (by simp) ?_
          refine (AllReadyH.cons rfl (fun K hK => ?_) AllReadyH.nil)
          · have hS3 : (((w2.drew.alloc (.cells (madeCells #[.slice none 0 0] n) 35)).alloc (.cells (madeCells #[.slice none 0 0] n) 35)).alloc box0).cell? ⟨Hd, x, none⟩ = some (.slice (some ⟨gr, gp, none⟩) n gc) ∧ Below w2.heap.size w2 (((w2.drew.alloc (.cells (madeCells #[.slice none 0 0] n) 35)).alloc (.cells (madeCells #[.slice none 0 0] n) 35)).alloc box0) := ⟨carry (below_alloc _ _) hS2.1, below_then hS2.2 (below_alloc _ _)⟩
            go_simp
            (try go_wp2_with fail)
            refine hK.out _ _ hS3 (fun _ => ?_)
            clear hK K
            (try simp only [Act.put, List.setIfInBounds_toArray, List.set_cons_zero, List.set_cons_succ])
            refine wpAnyH_ready (rs := [11]) (by as_aux_lemma => kernel_rfl) (by simp) ?_
            refine AllReadyH.cons rfl (fun K hK => ?_) AllReadyH.nil
            go_simp
            go_wp2_with fail
            refine hK.out _ _ ⟨carry (W := w2) three.2.2.2 f1, three.2.2.2⟩ (fun _ => ?_)
            clear hK K
            (try simp only [Act.put, List.setIfInBounds_toArray, List.set_cons_zero, List.set_cons_succ])
            refine wpAnyH_done (by kernel_rfl) ?_ _
            refine ⟨rfl, w2.heap.size + 1 + 1, w2.heap.size, w2.heap.size + 1, .int .i64 (x : Int), .slice (some ⟨Hd, 0, none⟩) n n, .int .i64 (x : Int), .pointer (some ⟨Hd, x, none⟩), .slice (some ⟨gr, gp, none⟩) n gc, .int .i64 (n : Int), .slice (some ⟨w2.heap.size, 0, none⟩) n n, .int .i64 (n : Int), .slice (some ⟨w2.heap.size + 1, 0, none⟩) n n, .agg #[.int .i64 (x : Int), .slice (some ⟨gr, gp, none⟩) n gc, .slice (some ⟨w2.heap.size, 0, none⟩) n n, .slice (some ⟨w2.heap.size + 1, 0, none⟩) n n], ?_, ?_⟩
            · simp only [Act.put, List.setIfInBounds_toArray, List.set_cons_zero, List.set_cons_succ]
            · exact T0F.mk' (by omega) three.2.2.2 three.2.2.1 three.1 three.2.1 ⟨by omega, by omega, by omega⟩ ⟨by omega, by omega, by omega⟩
        · have hS4 : ((w2.drew.alloc (.cells (madeCells #[.slice none 0 0] n) 35)).alloc box0).cell? ⟨Hd, x, none⟩ = some (.slice (some ⟨gr, gp, none⟩) n gc) ∧ Below w2.heap.size w2 ((w2.drew.alloc (.cells (madeCells #[.slice none 0 0] n) 35)).alloc box0) := ⟨carry (below_alloc _ _) hS1.1, below_then hS1.2 (below_alloc _ _)⟩
          go_simp
          (try go_wp2_with fail)
          refine hK.out _ _ hS4 (fun _ => ?_)
          clear hK K
          (try simp only [Act.put, List.setIfInBounds_toArray, List.set_cons_zero, List.set_cons_succ])
          refine wpAnyH_ready (rs := [8]) (by as_aux_lemma => kernel_rfl) (by simp) ?_
          refine (AllReadyH.cons rfl (fun K hK => ?_) AllReadyH.nil)
          · have hS5 : (((w2.drew.alloc (.cells (madeCells #[.slice none 0 0] n) 35)).alloc box0).alloc (.cells (madeCells #[.slice none 0 0] n) 35)).cell? ⟨Hd, x, none⟩ = some (.slice (some ⟨gr, gp, none⟩) n gc) ∧ Below w2.heap.size w2 (((w2.drew.alloc (.cells (madeCells #[.slice none 0 0] n) 35)).alloc box0).alloc (.cells (madeCells #[.slice none 0 0] n) 35)) := ⟨carry (below_alloc _ _) hS4.1, below_then hS4.2 (below_alloc _ _)⟩
            go_simp
            (try go_wp2_with fail)
            refine hK.out _ _ hS5 (fun _ => ?_)
            clear hK K
            (try simp only [Act.put, List.setIfInBounds_toArray, List.set_cons_zero, List.set_cons_succ])
            refine wpAnyH_take (i := 9) (oi := ⟨some 46, _, _, _, _, _⟩) (v := .agg #[.int .i64 (x : Int), .slice (some ⟨gr, gp, none⟩) n gc, .slice (some ⟨w2.drew.heap.size, 0, none⟩) n n, .slice (some ⟨((w2.drew.alloc (.cells (madeCells #[.slice none 0 0] n) 35)).alloc box0).heap.size, 0, none⟩) n n]) rfl (by as_aux_lemma => kernel_rfl) (by as_aux_lemma => kernel_rfl) (by as_aux_lemma => kernel_rfl) (fun _ _ _ h => Exit.noConfusion h.1) (Or.inl ⟨by rfl, by intro w' hw'; obtain ⟨hw1, hw2⟩ := hw'; go_simp⟩) hS5 ?_
            simp only [Act.put, List.setIfInBounds_toArray, List.set_cons_zero, List.set_cons_succ]
            refine wpAnyH_ready (rs := [11]) (by as_aux_lemma => kernel_rfl) (by simp) ?_
            refine AllReadyH.cons rfl (fun K hK => ?_) AllReadyH.nil
            go_simp
            go_wp2_with fail
            refine hK.out _ _ ⟨carry (W := w2) three.2.2.2 f1, three.2.2.2⟩ (fun _ => ?_)
            clear hK K
            (try simp only [Act.put, List.setIfInBounds_toArray, List.set_cons_zero, List.set_cons_succ])
            refine wpAnyH_done (by kernel_rfl) ?_ _
            refine ⟨rfl, w2.heap.size + 1, w2.heap.size, w2.heap.size + 1 + 1, .int .i64 (x : Int), .slice (some ⟨Hd, 0, none⟩) n n, .int .i64 (x : Int), .pointer (some ⟨Hd, x, none⟩), .slice (some ⟨gr, gp, none⟩) n gc, .int .i64 (n : Int), .slice (some ⟨w2.heap.size, 0, none⟩) n n, .int .i64 (n : Int), .slice (some ⟨w2.heap.size + 1 + 1, 0, none⟩) n n, .agg #[.int .i64 (x : Int), .slice (some ⟨gr, gp, none⟩) n gc, .slice (some ⟨w2.heap.size, 0, none⟩) n n, .slice (some ⟨w2.heap.size + 1 + 1, 0, none⟩) n n], ?_, ?_⟩
            · simp only [Act.put, List.setIfInBounds_toArray, List.set_cons_zero, List.set_cons_succ]
            · exact T0F.mk' (by omega) three.2.2.2 three.2.1 three.1 three.2.2.1 ⟨by omega, by omega, by omega⟩ ⟨by omega, by omega, by omega⟩
      · have hS6 : (w2.drew.alloc (.cells (madeCells #[.slice none 0 0] n) 35)).cell? ⟨Hd, x, none⟩ = some (.slice (some ⟨gr, gp, none⟩) n gc) ∧ Below w2.heap.size w2 (w2.drew.alloc (.cells (madeCells #[.slice none 0 0] n) 35)) := ⟨carry (below_alloc _ _) hS0.1, below_then hS0.2 (below_alloc _ _)⟩
        go_simp
        (try go_wp2_with fail)
        refine hK.out _ _ hS6 (fun _ => ?_)
        clear hK K
        (try simp only [Act.put, List.setIfInBounds_toArray, List.set_cons_zero, List.set_cons_succ])
        refine wpAnyH_ready (rs := [6, 10]) (by as_aux_lemma => kernel_rfl) (by simp) ?_
        refine (AllReadyH.cons rfl (fun K hK => ?_) (AllReadyH.cons rfl (fun K hK => ?_) AllReadyH.nil))
        · have hS7 : ((w2.drew.alloc (.cells (madeCells #[.slice none 0 0] n) 35)).alloc (.cells (madeCells #[.slice none 0 0] n) 35)).cell? ⟨Hd, x, none⟩ = some (.slice (some ⟨gr, gp, none⟩) n gc) ∧ Below w2.heap.size w2 ((w2.drew.alloc (.cells (madeCells #[.slice none 0 0] n) 35)).alloc (.cells (madeCells #[.slice none 0 0] n) 35)) := ⟨carry (below_alloc _ _) hS6.1, below_then hS6.2 (below_alloc _ _)⟩
          go_simp
          (try go_wp2_with fail)
          refine hK.out _ _ hS7 (fun _ => ?_)
          clear hK K
          (try simp only [Act.put, List.setIfInBounds_toArray, List.set_cons_zero, List.set_cons_succ])
          refine wpAnyH_take (i := 9) (oi := ⟨some 46, _, _, _, _, _⟩) (v := .agg #[.int .i64 (x : Int), .slice (some ⟨gr, gp, none⟩) n gc, .slice (some ⟨(w2.drew.alloc (.cells (madeCells #[.slice none 0 0] n) 35)).heap.size, 0, none⟩) n n, .slice (some ⟨w2.drew.heap.size, 0, none⟩) n n]) rfl (by as_aux_lemma => kernel_rfl) (by as_aux_lemma => kernel_rfl) (by as_aux_lemma => kernel_rfl) (fun _ _ _ h => Exit.noConfusion h.1) (Or.inl ⟨by rfl, by intro w' hw'; obtain ⟨hw1, hw2⟩ := hw'; go_simp⟩) hS7 ?_
          simp only [Act.put, List.setIfInBounds_toArray, List.set_cons_zero, List.set_cons_succ]
          refine wpAnyH_ready (rs := [10]) (by as_aux_lemma => kernel_rfl) (by simp) ?_
          refine (AllReadyH.cons rfl (fun K hK => ?_) AllReadyH.nil)
          · have hS8 : (((w2.drew.alloc (.cells (madeCells #[.slice none 0 0] n) 35)).alloc (.cells (madeCells #[.slice none 0 0] n) 35)).alloc box0).cell? ⟨Hd, x, none⟩ = some (.slice (some ⟨gr, gp, none⟩) n gc) ∧ Below w2.heap.size w2 (((w2.drew.alloc (.cells (madeCells #[.slice none 0 0] n) 35)).alloc (.cells (madeCells #[.slice none 0 0] n) 35)).alloc box0) := ⟨carry (below_alloc _ _) hS7.1, below_then hS7.2 (below_alloc _ _)⟩
            go_simp
            (try go_wp2_with fail)
            refine hK.out _ _ hS8 (fun _ => ?_)
            clear hK K
            (try simp only [Act.put, List.setIfInBounds_toArray, List.set_cons_zero, List.set_cons_succ])
            refine wpAnyH_ready (rs := [11]) (by as_aux_lemma => kernel_rfl) (by simp) ?_
            refine AllReadyH.cons rfl (fun K hK => ?_) AllReadyH.nil
            go_simp
            go_wp2_with fail
            refine hK.out _ _ ⟨carry (W := w2) three.2.2.2 f1, three.2.2.2⟩ (fun _ => ?_)
            clear hK K
            (try simp only [Act.put, List.setIfInBounds_toArray, List.set_cons_zero, List.set_cons_succ])
            refine wpAnyH_done (by kernel_rfl) ?_ _
            refine ⟨rfl, w2.heap.size + 1 + 1, w2.heap.size + 1, w2.heap.size, .int .i64 (x : Int), .slice (some ⟨Hd, 0, none⟩) n n, .int .i64 (x : Int), .pointer (some ⟨Hd, x, none⟩), .slice (some ⟨gr, gp, none⟩) n gc, .int .i64 (n : Int), .slice (some ⟨w2.heap.size + 1, 0, none⟩) n n, .int .i64 (n : Int), .slice (some ⟨w2.heap.size, 0, none⟩) n n, .agg #[.int .i64 (x : Int), .slice (some ⟨gr, gp, none⟩) n gc, .slice (some ⟨w2.heap.size + 1, 0, none⟩) n n, .slice (some ⟨w2.heap.size, 0, none⟩) n n], ?_, ?_⟩
            · simp only [Act.put, List.setIfInBounds_toArray, List.set_cons_zero, List.set_cons_succ]
            · exact T0F.mk' (by omega) three.2.2.2 three.2.2.1 three.2.1 three.1 ⟨by omega, by omega, by omega⟩ ⟨by omega, by omega, by omega⟩
        · have hS9 : ((w2.drew.alloc (.cells (madeCells #[.slice none 0 0] n) 35)).alloc box0).cell? ⟨Hd, x, none⟩ = some (.slice (some ⟨gr, gp, none⟩) n gc) ∧ Below w2.heap.size w2 ((w2.drew.alloc (.cells (madeCells #[.slice none 0 0] n) 35)).alloc box0) := ⟨carry (below_alloc _ _) hS6.1, below_then hS6.2 (below_alloc _ _)⟩
          go_simp
          (try go_wp2_with fail)
          refine hK.out _ _ hS9 (fun _ => ?_)
          clear hK K
          (try simp only [Act.put, List.setIfInBounds_toArray, List.set_cons_zero, List.set_cons_succ])
          refine wpAnyH_ready (rs := [6]) (by as_aux_lemma => kernel_rfl) (by simp) ?_
          refine (AllReadyH.cons rfl (fun K hK => ?_) AllReadyH.nil)
          · have hS10 : (((w2.drew.alloc (.cells (madeCells #[.slice none 0 0] n) 35)).alloc box0).alloc (.cells (madeCells #[.slice none 0 0] n) 35)).cell? ⟨Hd, x, none⟩ = some (.slice (some ⟨gr, gp, none⟩) n gc) ∧ Below w2.heap.size w2 (((w2.drew.alloc (.cells (madeCells #[.slice none 0 0] n) 35)).alloc box0).alloc (.cells (madeCells #[.slice none 0 0] n) 35)) := ⟨carry (below_alloc _ _) hS9.1, below_then hS9.2 (below_alloc _ _)⟩
            go_simp
            (try go_wp2_with fail)
            refine hK.out _ _ hS10 (fun _ => ?_)
            clear hK K
            (try simp only [Act.put, List.setIfInBounds_toArray, List.set_cons_zero, List.set_cons_succ])
            refine wpAnyH_take (i := 9) (oi := ⟨some 46, _, _, _, _, _⟩) (v := .agg #[.int .i64 (x : Int), .slice (some ⟨gr, gp, none⟩) n gc, .slice (some ⟨((w2.drew.alloc (.cells (madeCells #[.slice none 0 0] n) 35)).alloc box0).heap.size, 0, none⟩) n n, .slice (some ⟨w2.drew.heap.size, 0, none⟩) n n]) rfl (by as_aux_lemma => kernel_rfl) (by as_aux_lemma => kernel_rfl) (by as_aux_lemma => kernel_rfl) (fun _ _ _ h => Exit.noConfusion h.1) (Or.inl ⟨by rfl, by intro w' hw'; obtain ⟨hw1, hw2⟩ := hw'; go_simp⟩) hS10 ?_
            simp only [Act.put, List.setIfInBounds_toArray, List.set_cons_zero, List.set_cons_succ]
            refine wpAnyH_ready (rs := [11]) (by as_aux_lemma => kernel_rfl) (by simp) ?_
            refine AllReadyH.cons rfl (fun K hK => ?_) AllReadyH.nil
            go_simp
            go_wp2_with fail
            refine hK.out _ _ ⟨carry (W := w2) three.2.2.2 f1, three.2.2.2⟩ (fun _ => ?_)
            clear hK K
            (try simp only [Act.put, List.setIfInBounds_toArray, List.set_cons_zero, List.set_cons_succ])
            refine wpAnyH_done (by kernel_rfl) ?_ _
            refine ⟨rfl, w2.heap.size + 1, w2.heap.size + 1 + 1, w2.heap.size, .int .i64 (x : Int), .slice (some ⟨Hd, 0, none⟩) n n, .int .i64 (x : Int), .pointer (some ⟨Hd, x, none⟩), .slice (some ⟨gr, gp, none⟩) n gc, .int .i64 (n : Int), .slice (some ⟨w2.heap.size + 1 + 1, 0, none⟩) n n, .int .i64 (n : Int), .slice (some ⟨w2.heap.size, 0, none⟩) n n, .agg #[.int .i64 (x : Int), .slice (some ⟨gr, gp, none⟩) n gc, .slice (some ⟨w2.heap.size + 1 + 1, 0, none⟩) n n, .slice (some ⟨w2.heap.size, 0, none⟩) n n], ?_, ?_⟩
            · simp only [Act.put, List.setIfInBounds_toArray, List.set_cons_zero, List.set_cons_succ]
            · exact T0F.mk' (by omega) three.2.2.2 three.2.1 three.2.2.1 three.1 ⟨by omega, by omega, by omega⟩ ⟨by omega, by omega, by omega⟩
      · have hS11 : (w2.drew.alloc box0).cell? ⟨Hd, x, none⟩ = some (.slice (some ⟨gr, gp, none⟩) n gc) ∧ Below w2.heap.size w2 (w2.drew.alloc box0) := ⟨carry (below_alloc _ _) hS0.1, below_then hS0.2 (below_alloc _ _)⟩
        go_simp
        (try go_wp2_with fail)
        refine hK.out _ _ hS11 (fun _ => ?_)
        clear hK K
        (try simp only [Act.put, List.setIfInBounds_toArray, List.set_cons_zero, List.set_cons_succ])
        refine wpAnyH_ready (rs := [6, 8]) (by as_aux_lemma => kernel_rfl) (by simp) ?_
        refine (AllReadyH.cons rfl (fun K hK => ?_) (AllReadyH.cons rfl (fun K hK => ?_) AllReadyH.nil))
        · have hS12 : ((w2.drew.alloc box0).alloc (.cells (madeCells #[.slice none 0 0] n) 35)).cell? ⟨Hd, x, none⟩ = some (.slice (some ⟨gr, gp, none⟩) n gc) ∧ Below w2.heap.size w2 ((w2.drew.alloc box0).alloc (.cells (madeCells #[.slice none 0 0] n) 35)) := ⟨carry (below_alloc _ _) hS11.1, below_then hS11.2 (below_alloc _ _)⟩
          go_simp
          (try go_wp2_with fail)
          refine hK.out _ _ hS12 (fun _ => ?_)
          clear hK K
          (try simp only [Act.put, List.setIfInBounds_toArray, List.set_cons_zero, List.set_cons_succ])
          refine wpAnyH_ready (rs := [8]) (by as_aux_lemma => kernel_rfl) (by simp) ?_
          refine (AllReadyH.cons rfl (fun K hK => ?_) AllReadyH.nil)
          · have hS13 : (((w2.drew.alloc box0).alloc (.cells (madeCells #[.slice none 0 0] n) 35)).alloc (.cells (madeCells #[.slice none 0 0] n) 35)).cell? ⟨Hd, x, none⟩ = some (.slice (some ⟨gr, gp, none⟩) n gc) ∧ Below w2.heap.size w2 (((w2.drew.alloc box0).alloc (.cells (madeCells #[.slice none 0 0] n) 35)).alloc (.cells (madeCells #[.slice none 0 0] n) 35)) := ⟨carry (below_alloc _ _) hS12.1, below_then hS12.2 (below_alloc _ _)⟩
            go_simp
            (try go_wp2_with fail)
            refine hK.out _ _ hS13 (fun _ => ?_)
            clear hK K
            (try simp only [Act.put, List.setIfInBounds_toArray, List.set_cons_zero, List.set_cons_succ])
            refine wpAnyH_take (i := 9) (oi := ⟨some 46, _, _, _, _, _⟩) (v := .agg #[.int .i64 (x : Int), .slice (some ⟨gr, gp, none⟩) n gc, .slice (some ⟨(w2.drew.alloc box0).heap.size, 0, none⟩) n n, .slice (some ⟨((w2.drew.alloc box0).alloc (.cells (madeCells #[.slice none 0 0] n) 35)).heap.size, 0, none⟩) n n]) rfl (by as_aux_lemma => kernel_rfl) (by as_aux_lemma => kernel_rfl) (by as_aux_lemma => kernel_rfl) (fun _ _ _ h => Exit.noConfusion h.1) (Or.inl ⟨by rfl, by intro w' hw'; obtain ⟨hw1, hw2⟩ := hw'; go_simp⟩) hS13 ?_
            simp only [Act.put, List.setIfInBounds_toArray, List.set_cons_zero, List.set_cons_succ]
            refine wpAnyH_ready (rs := [11]) (by as_aux_lemma => kernel_rfl) (by simp) ?_
            refine AllReadyH.cons rfl (fun K hK => ?_) AllReadyH.nil
            go_simp
            go_wp2_with fail
            refine hK.out _ _ ⟨carry (W := w2) three.2.2.2 f1, three.2.2.2⟩ (fun _ => ?_)
            clear hK K
            (try simp only [Act.put, List.setIfInBounds_toArray, List.set_cons_zero, List.set_cons_succ])
            refine wpAnyH_done (by kernel_rfl) ?_ _
            refine ⟨rfl, w2.heap.size, w2.heap.size + 1, w2.heap.size + 1 + 1, .int .i64 (x : Int), .slice (some ⟨Hd, 0, none⟩) n n, .int .i64 (x : Int), .pointer (some ⟨Hd, x, none⟩), .slice (some ⟨gr, gp, none⟩) n gc, .int .i64 (n : Int), .slice (some ⟨w2.heap.size + 1, 0, none⟩) n n, .int .i64 (n : Int), .slice (some ⟨w2.heap.size + 1 + 1, 0, none⟩) n n, .agg #[.int .i64 (x : Int), .slice (some ⟨gr, gp, none⟩) n gc, .slice (some ⟨w2.heap.size + 1, 0, none⟩) n n, .slice (some ⟨w2.heap.size + 1 + 1, 0, none⟩) n n], ?_, ?_⟩
            · simp only [Act.put, List.setIfInBounds_toArray, List.set_cons_zero, List.set_cons_succ]
            · exact T0F.mk' (by omega) three.2.2.2 three.1 three.2.1 three.2.2.1 ⟨by omega, by omega, by omega⟩ ⟨by omega, by omega, by omega⟩
        · have hS14 : ((w2.drew.alloc box0).alloc (.cells (madeCells #[.slice none 0 0] n) 35)).cell? ⟨Hd, x, none⟩ = some (.slice (some ⟨gr, gp, none⟩) n gc) ∧ Below w2.heap.size w2 ((w2.drew.alloc box0).alloc (.cells (madeCells #[.slice none 0 0] n) 35)) := ⟨carry (below_alloc _ _) hS11.1, below_then hS11.2 (below_alloc _ _)⟩
          go_simp
          (try go_wp2_with fail)
          refine hK.out _ _ hS14 (fun _ => ?_)
          clear hK K
          (try simp only [Act.put, List.setIfInBounds_toArray, List.set_cons_zero, List.set_cons_succ])
          refine wpAnyH_ready (rs := [6]) (by as_aux_lemma => kernel_rfl) (by simp) ?_
          refine (AllReadyH.cons rfl (fun K hK => ?_) AllReadyH.nil)
          · have hS15 : (((w2.drew.alloc box0).alloc (.cells (madeCells #[.slice none 0 0] n) 35)).alloc (.cells (madeCells #[.slice none 0 0] n) 35)).cell? ⟨Hd, x, none⟩ = some (.slice (some ⟨gr, gp, none⟩) n gc) ∧ Below w2.heap.size w2 (((w2.drew.alloc box0).alloc (.cells (madeCells #[.slice none 0 0] n) 35)).alloc (.cells (madeCells #[.slice none 0 0] n) 35)) := ⟨carry (below_alloc _ _) hS14.1, below_then hS14.2 (below_alloc _ _)⟩
            go_simp
            (try go_wp2_with fail)
            refine hK.out _ _ hS15 (fun _ => ?_)
            clear hK K
            (try simp only [Act.put, List.setIfInBounds_toArray, List.set_cons_zero, List.set_cons_succ])
            refine wpAnyH_take (i := 9) (oi := ⟨some 46, _, _, _, _, _⟩) (v := .agg #[.int .i64 (x : Int), .slice (some ⟨gr, gp, none⟩) n gc, .slice (some ⟨((w2.drew.alloc box0).alloc (.cells (madeCells #[.slice none 0 0] n) 35)).heap.size, 0, none⟩) n n, .slice (some ⟨(w2.drew.alloc box0).heap.size, 0, none⟩) n n]) rfl (by as_aux_lemma => kernel_rfl) (by as_aux_lemma => kernel_rfl) (by as_aux_lemma => kernel_rfl) (fun _ _ _ h => Exit.noConfusion h.1) (Or.inl ⟨by rfl, by intro w' hw'; obtain ⟨hw1, hw2⟩ := hw'; go_simp⟩) hS15 ?_
            simp only [Act.put, List.setIfInBounds_toArray, List.set_cons_zero, List.set_cons_succ]
            refine wpAnyH_ready (rs := [11]) (by as_aux_lemma => kernel_rfl) (by simp) ?_
            refine AllReadyH.cons rfl (fun K hK => ?_) AllReadyH.nil
            go_simp
            go_wp2_with fail
            refine hK.out _ _ ⟨carry (W := w2) three.2.2.2 f1, three.2.2.2⟩ (fun _ => ?_)
            clear hK K
            (try simp only [Act.put, List.setIfInBounds_toArray, List.set_cons_zero, List.set_cons_succ])
            refine wpAnyH_done (by kernel_rfl) ?_ _
            refine ⟨rfl, w2.heap.size, w2.heap.size + 1 + 1, w2.heap.size + 1, .int .i64 (x : Int), .slice (some ⟨Hd, 0, none⟩) n n, .int .i64 (x : Int), .pointer (some ⟨Hd, x, none⟩), .slice (some ⟨gr, gp, none⟩) n gc, .int .i64 (n : Int), .slice (some ⟨w2.heap.size + 1 + 1, 0, none⟩) n n, .int .i64 (n : Int), .slice (some ⟨w2.heap.size + 1, 0, none⟩) n n, .agg #[.int .i64 (x : Int), .slice (some ⟨gr, gp, none⟩) n gc, .slice (some ⟨w2.heap.size + 1 + 1, 0, none⟩) n n, .slice (some ⟨w2.heap.size + 1, 0, none⟩) n n], ?_, ?_⟩
            · simp only [Act.put, List.setIfInBounds_toArray, List.set_cons_zero, List.set_cons_succ]
            · exact T0F.mk' (by omega) three.2.2.2 three.1 three.2.2.1 three.2.1 ⟨by omega, by omega, by omega⟩ ⟨by omega, by omega, by omega⟩
  rintro _ W ⟨tb, H, P, u37, u38, u39, u40, u41, u42, u43, u44, u45, u46, rfl, HT0⟩
  simp only [Act.put, List.setIfInBounds_toArray, List.set_cons_zero, List.set_cons_succ]
  clear f1 hmk
  have hg3 : w2.heap.size ≤ W.heap.size := HT0.out.b.size
  obtain ⟨i0, hi, hz0, hz1, hz2⟩ := info_parts info3
  go_wp2_with fail
  have H1 : Hid ((W.alloc (.cells #[] 3)).ownsRow W.heap.size 3 1 (.slice (some ⟨W.heap.size, 0, none⟩) 0 0) (rowF 0 (fun u => decide (First R l (x : Int) u))).length (ints (rowF 0 (fun u => decide (First R l (x : Int) u)))) ∧ Below W.heap.size W (W.alloc (.cells #[] 3))) :=
    ⟨World.ownsRow_lit W #[] 0 (Nat.le_refl _) (by unfold maxLen; omega) rfl, below_alloc _ _⟩
  go_loopg [10, 11] n (fun g s10 s11 wr => ∃ (v : Nat) (v10 : Value), v ≤ n ∧ n - v ≤ g ∧ s11 = .int .i64 (v : Int) ∧ v10 = s10 ∧ Hid (wr.ownsRow W.heap.size 3 1 v10 (rowF v (fun u => decide (First R l (x : Int) u))).length (ints (rowF v (fun u => decide (First R l (x : Int) u)))) ∧ Below W.heap.size W wr))
  case atStart => exact ⟨0, _, by omega, by omega, rfl, rfl, H1⟩
  case round =>
    clear H1
    obtain ⟨v, v10, hvn', hvg, rfl, rfl, HR⟩ := hrel
    have HBW := Lib.hid (below_then HT0.out.b HR.out.2)
    by_cases hlt : v < n
    · as_aux_lemma =>
        have v0 : (0 : Int) ≤ (v : Int) := by omega
        have v1 : (v : Int) < (n : Int) := by omega
        have hlen : (rowF v (fun u => decide (First R l (x : Int) u))).length ≤ v := rowF_len _ _
        have HNF : Hid (¬ First R l (x : Int) (v : Int) → rowF (v + 1) (fun u => decide (First R l (x : Int) u)) = rowF v (fun u => decide (First R l (x : Int) u))) := fun h => by
          rw [rowF_succ, if_neg (by simpa using h), List.append_nil]
        have HYF : Hid (First R l (x : Int) (v : Int) → rowF (v + 1) (fun u => decide (First R l (x : Int) u)) = rowF v (fun u => decide (First R l (x : Int) u)) ++ [(v : Int)]) := fun h => by
          rw [rowF_succ, if_pos (by simpa using h)]
        by_cases hvx : v = x
        · have hno := HNF.out (fun h => h.1 (by omega))
          have HN1 : Hid (wr.ownsRow W.heap.size 3 1 v10 (rowF (v + 1) (fun u => decide (First R l (x : Int) u))).length (ints (rowF (v + 1) (fun u => decide (First R l (x : Int) u)))) ∧ Below W.heap.size W wr) := by rw [Hid, hno]; exact HR.out
          clear HNF HYF hno HR
          have z1 : ((v : Int) != (x : Int)) = false := by simp [hvx]
          subst hvx
          go_wp2_with fail
          go_roundg (n - (v + 1))
          case measure => omega
          case rel => exact ⟨v + 1, _, by omega, Nat.le_refl _, by go_num, rfl, HN1⟩
        · have z1 : ((v : Int) != (x : Int)) = true := by simp; omega
          obtain ⟨c1, c2⟩ := HRX.out _ HBW.out
          have c3 := c2 v hlt
          clear c2
          generalize hT : T l (x : Int) (v : Int) = tv at c3
          have HTV := Lib.hid hT
          clear hT
          by_cases ht : tv < 0
          · have hno := HNF.out (fun h => by have := h.2.1; rw [HTV.out] at this; omega)
            have HN1 : Hid (wr.ownsRow W.heap.size 3 1 v10 (rowF (v + 1) (fun u => decide (First R l (x : Int) u))).length (ints (rowF (v + 1) (fun u => decide (First R l (x : Int) u)))) ∧ Below W.heap.size W wr) := by rw [Hid, hno]; exact HR.out
            clear HNF HYF hno HR
            have z2 : decide (0 ≤ tv) = false := decide_eq_false (by omega)
            go_wp2_with fail
            go_roundg (n - (v + 1))
            case measure => omega
            case rel => exact ⟨v + 1, _, by omega, Nat.le_refl _, by go_num, rfl, HN1⟩
          · have z2 : decide (0 ≤ tv) = true := decide_eq_true (by omega)
            have g1 := (HBW.out.block _ (lt_block HO2.out.1)).trans HO2.out.1
            have q0 : wr.cell? ⟨w.heap.size, 0, none⟩ = some (.int .i64 R) := cell_of g1 rfl
            have q1 : wr.cell? ⟨w.heap.size, 1, none⟩ = some (.int .i64 N) := cell_of g1 rfl
            have q2 : wr.cell? ⟨w.heap.size, 2, none⟩ = some (.slice ad L cap) := cell_of g1 rfl
            clear g1
            go_wp2_with fail
            go_at_call 105
            refine (HDR.out v Hd 0 n wr (below_then HB2.out HBW.out) hlt (HD.out.below HBW.out) (Nat.le_refl _)).mono ?_
            rintro e w3 ⟨d, rfl, hd, hb3⟩
            have HDD := Lib.hid hd
            clear q0 q1 q2 c1 c3 hd
            cases d with
            | false =>
              have hno := HNF.out (fun h => by have := HDD.out.2 h.2.2; cases this)
              have HN1 : Hid (w3.ownsRow W.heap.size 3 1 v10 (rowF (v + 1) (fun u => decide (First R l (x : Int) u))).length (ints (rowF (v + 1) (fun u => decide (First R l (x : Int) u)))) ∧ Below W.heap.size W w3) := by rw [Hid, hno]; exact ⟨row_congr HR.out.1 fun g hg => hb3.block g (row_lt HR.out.1 hg).2, below_then HR.out.2 hb3⟩
              clear HNF HYF hno HR hb3
              go_wp2_with fail
              go_roundg (n - (v + 1))
              case measure => omega
              case rel => exact ⟨v + 1, _, by omega, Nat.le_refl _, by go_num, rfl, HN1⟩
            | true =>
              have hyes := HYF.out ⟨by omega, by rw [HTV.out]; omega, HDD.out.1 rfl⟩
              have HYE := Lib.hid hyes
              have HO3 := Lib.hid (row_congr HR.out.1 fun g hg => hb3.block g (row_lt HR.out.1 hg).2)
              have HB3 := Lib.hid (below_then HR.out.2 hb3)
              clear HNF HYF hyes HR hb3
              generalize rowF v (fun u => decide (First R l (x : Int) u)) = xs at *
              go_wp2_with (at_builtin; refine wpList_append_lies _ rfl (.tmp 73) (.tmp 75) 35 rfl W.heap.size 3 i0 (.int .i64 0) 1 8 Try.underlying35 hi hz0 hz1 hz2 rfl (by decide) v10 xs.length (ints xs) rfl (HO3.out.alloc _) ⟨w3.heap.size, 0, none⟩ 1 1 [.int .i64 (v : Int)] rfl rfl (cell_one_new _ _ _ rfl) (one_int _) (by decide) (by unfold maxLen; omega) (by omega) (by have := HB3.out.size; simp; omega) _ rfl ?_; intro g cap' w4 h1 h2 h3 h4; have HA1 := Lib.hid h1; have HA2 : Hid (Below W.heap.size W w4) := ((below_then HB3.out (below_alloc _ _)).grown h2 (by first | exact Nat.le_refl _ | (have := HB3.out.size; simp; omega)) (fun k hk => (row_lt HO3.out hk).1)); clear h1 h2 h3 h4)
              go_roundg (n - (v + 1))
              case measure => omega
              case rel => exact ⟨v + 1, _, by omega, Nat.le_refl _, by go_num, rfl, by rw [HYE.out, List.length_append, List.length_singleton, show ints (xs ++ [(v : Int)]) = ints xs ++ [.int .i64 (v : Int)] from by simp [ints]]; exact HA1.out, HA2.out⟩
    · have k1 : decide ((v : Int) < (n : Int)) = false := decide_eq_false (by omega)
      have HVN : Hid (v = n) := by show _ = _; omega
      have HFR : Hid (wr.ownsRow W.heap.size 3 1 v10 (firstRow R l (x : Int) n).length (ints (firstRow R l (x : Int) n))) := by have := HR.out.1; rw [HVN.out] at this; exact this
      have HW1 := Lib.hid HR.out.2
      clear HR HVN
      have HB1 := Lib.hid (below_then HT0.out.b HW1.out)
      have hHlt := (row_lt HT0.out.h rfl).2
      have hPlt := (row_lt HT0.out.p rfl).2
      have HRM0 : Hid (RM wr H P n (gT (hopRow R l (x : Int) (firstRow R l (x : Int) n)) n 0) (gT (parRow l (x : Int) n) n 0) wr) := by
        rw [Hid, gT_zero, gT_zero]
        exact RM.start (row_congr HT0.out.h fun g hg => HW1.out.block g (row_lt HT0.out.h hg).2) (row_congr HT0.out.p fun g hg => HW1.out.block g (row_lt HT0.out.p hg).2) HT0.out.ne.1
      have hfl : (firstRow R l (x : Int) n).length ≤ n := rowF_len _ _
      obtain ⟨fa, fcap, rfl, hfa⟩ := own_form HFR.out
      have HFI := Lib.hid (rdi_own (own_low HFR.out (Nat.zero_le _)))
      have HFB : Hid (∀ g, (Value.slice fa (firstRow R l (x : Int) n).length fcap).ownBlock = some g → g ≠ H ∧ g ≠ P) := fun g hg => by
        have := (row_lt HFR.out hg).1
        dsimp only at hHlt hPlt
        exact ⟨by omega, by omega⟩
      have hg1 : wr.heap[w.heap.size]? = some (.cells #[.int .i64 R, .int .i64 N, .slice ad L cap] 27 (0, 0)) := (HB1.out.block _ (lt_block HO2.out.1)).trans HO2.out.1
      have hgt : wr.heap[tb]? = some (.cells #[.int .i64 (x : Int), .slice (some ⟨gr, gp, none⟩) n gc, .slice (some ⟨H, 0, none⟩) n n, .slice (some ⟨P, 0, none⟩) n n] 74 (0, 0)) := (HW1.out.block _ (lt_block HT0.out.t)).trans HT0.out.t
      have hwl := lt_block HO2.out.1
      have HTL := Lib.hid (lt_block hgt)
      have hlo := HT0.out.lo
      have hne := HT0.out.ne
      have HG : Hid (∀ W', Kp [H, P] wr W' → W'.cell? ⟨w.heap.size, 0, none⟩ = some (.int .i64 R) ∧ W'.cell? ⟨w.heap.size, 1, none⟩ = some (.int .i64 N) ∧ W'.cell? ⟨w.heap.size, 2, none⟩ = some (.slice ad L cap)) := fun W' hk =>
        ⟨hk.carry (by simp; omega) (cell_of hg1 rfl), hk.carry (by simp; omega) (cell_of hg1 rfl), hk.carry (by simp; omega) (cell_of hg1 rfl)⟩
      have HTC : Hid (∀ W', Kp [H, P] wr W' → W'.cell? ⟨tb, 0, none⟩ = some (.int .i64 (x : Int)) ∧ W'.cell? ⟨tb, 1, none⟩ = some (.slice (some ⟨gr, gp, none⟩) n gc) ∧ W'.cell? ⟨tb, 2, none⟩ = some (.slice (some ⟨H, 0, none⟩) n n) ∧ W'.cell? ⟨tb, 3, none⟩ = some (.slice (some ⟨P, 0, none⟩) n n)) := fun W' hk =>
        ⟨hk.carry (by simp; exact hne.2) (cell_of hgt rfl), hk.carry (by simp; exact hne.2) (cell_of hgt rfl), hk.carry (by simp; exact hne.2) (cell_of hgt rfl), hk.carry (by simp; exact hne.2) (cell_of hgt rfl)⟩
      have HXC : Hid (∀ W', Kp [H, P] wr W' → W'.cell? ⟨Hd, x, none⟩ = some (.slice (some ⟨gr, gp, none⟩) n gc) ∧ ∀ j, j < n → W'.cell? ⟨gr, gp + j, none⟩ = some (.int .i64 (T l (x : Int) (j : Int)))) := fun W' hk => by
        obtain ⟨a1, a2⟩ := HRX.out _ HB1.out
        have := HGR.out
        exact ⟨hk.carry (by simp; omega) a1, fun j hj => hk.carry (by simp; omega) (a2 j hj)⟩
      have HDK : Hid (∀ W', Kp [H, P] wr W' → DT W' l n Hd 0 n) := fun W' hk => DT.kp (HD.out.below HB1.out) HD.out HB1.out hk hlo.2.1 hlo.2.2
      have HBK : Hid (∀ W', Kp [H, P] wr W' → Below w.heap.size w W') := fun W' hk => (below_then HB2.out HB1.out).trans (hk.below (by have := (below_then HB2.out HB1.out).size; exact this) (fun g hg => by simp at hg; omega))
      have HFC : Hid (∀ W', Kp [H, P] wr W' → ∀ k y, (firstRow R l (x : Int) n)[k]? = some y → ∃ g, fa = some ⟨g, 0, none⟩ ∧ W'.cell? ⟨g, k, none⟩ = some (.int .i64 y)) := fun W' hk k y hky => by
        obtain ⟨g, rfl⟩ := hfa (by have := (List.getElem?_eq_some_iff.1 hky).1; omega)
        obtain ⟨ad', cap', e, _, _, hc'⟩ := HFI.out
        cases e
        obtain ⟨b', o', e, _, c'⟩ := hc' k y hky
        cases e
        rw [Nat.zero_add] at c'
        have := HFB.out g rfl
        exact ⟨g, rfl, hk.carry (by simp; exact this) c'⟩
      have HSM : Hid (∀ k : Nat, k < n → ∀ i : Nat, i < n → T l (k : Int) (i : Int) ≤ 65535 * 129) := fun k hk i hi => by
        by_cases h : 0 ≤ T l (k : Int) (i : Int)
        · have := T_small HV.out.1 HV.out.2 (i := (k : Int)) (k := (i : Int)) (by have := HV.out.2; omega) h; omega
        · omega
      have HFN : Hid (∀ k y, (firstRow R l (x : Int) n)[k]? = some y → ∃ h : Nat, y = (h : Int) ∧ h < n) := fun k y hky => by
        have hm := List.mem_of_getElem? hky
        have := (mem_rowF.1 hm).1
        exact ⟨y.toNat, by omega, by omega⟩
      generalize hfr : firstRow R l (x : Int) n = first at *
      have HFE := Lib.hid hfr
      clear hfr HFR HFB hfa hg1 hgt hHlt hPlt HRX HF4 hwl
      go_wp2_with fail
      have HWN := Lib.hid (lt_block HO2.out.2)
      have HWX := Lib.hid ((HB1.out.block _ (lt_block HO2.out.2)).trans HO2.out.2)
      generalize wr = V1 at *
      go_loopg [12, 13, 14, 15, 16, 17] n (fun g s12 s13 s14 s15 s16 s17 wr => ∃ v : Nat, v ≤ n ∧ n - v ≤ g ∧ s12 = .int .i64 (v : Int) ∧ (∃ u, u = s13) ∧ (∃ u, u = s14) ∧ (∃ u, u = s15) ∧ (∃ u, u = s16) ∧ (∃ u, u = s17) ∧ Hid (RM V1 H P n (gT (hopRow R l (x : Int) first) n v) (gT (parRow l (x : Int) n) n v) wr))
      case atStart => exact ⟨0, by omega, by omega, rfl, ⟨_, rfl⟩, ⟨_, rfl⟩, ⟨_, rfl⟩, ⟨_, rfl⟩, ⟨_, rfl⟩, HRM0⟩
      case round =>
        clear HRM0
        obtain ⟨v, hvn', hvg, rfl, ⟨u13, rfl⟩, ⟨u14, rfl⟩, ⟨u15, rfl⟩, ⟨u16, rfl⟩, ⟨u17, rfl⟩, HM⟩ := hrel
        by_cases hlt : v < n
        · as_aux_lemma =>
            have v0 : (0 : Int) ≤ (v : Int) := by omega
            have v1 : (v : Int) < (n : Int) := by omega
            by_cases hvx : v = x
            · have HSK : Hid (RM V1 H P n (gT (hopRow R l (x : Int) first) n (v + 1)) (gT (parRow l (x : Int) n) n (v + 1)) wr) := by
                obtain ⟨e1, e2⟩ := unreached HV.out.1 (n := n) hxR (v := v) (.inl (by omega)) first
                rw [Hid, ← gT_skip hlt e1, ← gT_skip hlt e2]; exact HM.out
              clear HM
              subst hvx
              go_wp2_with fail
              go_roundg (n - (v + 1))
              case measure => omega
              case rel => exact ⟨v + 1, by omega, Nat.le_refl _, by go_num, ⟨_, rfl⟩, ⟨_, rfl⟩, ⟨_, rfl⟩, ⟨_, rfl⟩, ⟨_, rfl⟩, HSK⟩
            · have z1 : ((v : Int) == (x : Int)) = false := by simp; omega
              obtain ⟨c1, c2⟩ := HXC.out _ HM.out.kp
              have c3 := c2 v hlt
              clear c2
              generalize hT : T l (x : Int) (v : Int) = tv at c3
              have HTV := Lib.hid hT
              clear hT
              by_cases ht : tv < 0
              · have z2 : decide (tv < 0) = true := decide_eq_true ht
                have HSK : Hid (RM V1 H P n (gT (hopRow R l (x : Int) first) n (v + 1)) (gT (parRow l (x : Int) n) n (v + 1)) wr) := by
                  obtain ⟨e1, e2⟩ := unreached HV.out.1 (n := n) hxR (v := v) (.inr (by rw [HTV.out]; exact ht)) first
                  rw [Hid, ← gT_skip hlt e1, ← gT_skip hlt e2]; exact HM.out
                clear HM
                go_wp2_with fail
                go_roundg (n - (v + 1))
                case measure => omega
                case rel => exact ⟨v + 1, by omega, Nat.le_refl _, by go_num, ⟨_, rfl⟩, ⟨_, rfl⟩, ⟨_, rfl⟩, ⟨_, rfl⟩, ⟨_, rfl⟩, HSK⟩
              · have z2 : decide (tv < 0) = false := decide_eq_false ht
                have HM0 : Hid (RM V1 H P n (gT (hopRow R l (x : Int) first) n v) ((gT (parRow l (x : Int) n) n v).set v (rowF 0 (fun u => decide (Par l (x : Int) (v : Int) u)))) wr) := by
                  rw [Hid, rowF_zero, gT_self hlt]; exact HM.out
                clear HM
                go_wp2_with fail
                clear c1 c3
                go_loopg [13, 14, 15] n (fun g s13 s14 s15 wr => ∃ u : Nat, u ≤ n ∧ n - u ≤ g ∧ s13 = .int .i64 (u : Int) ∧ (∃ q, q = s14) ∧ (∃ q, q = s15) ∧ Hid (RM V1 H P n (gT (hopRow R l (x : Int) first) n v) ((gT (parRow l (x : Int) n) n v).set v (rowF u (fun u => decide (Par l (x : Int) (v : Int) u)))) wr))
                case atStart => exact ⟨0, by omega, by omega, rfl, ⟨_, rfl⟩, ⟨_, rfl⟩, HM0⟩
                case round =>
                  clear HM0
                  obtain ⟨u, hun', hug, rfl, ⟨u14, rfl⟩, ⟨u15, rfl⟩, HM⟩ := hrel
                  by_cases hul : u < n
                  · as_aux_lemma =>
                      have u0 : (0 : Int) ≤ (u : Int) := by omega
                      have u1 : (u : Int) < (n : Int) := by omega
                      obtain ⟨q0, q1, q2⟩ := HG.out _ HM.out.kp
                      go_wp2_with fail
                      go_at_call 43
                      refine (HCo.out _ _ wr (HBK.out _ HM.out.kp)).mono ?_
                      rintro e w4 ⟨rfl, hb4⟩
                      have HM4 := Lib.hid (HM.out.below hb4)
                      have HMI : Hid (Par l (x : Int) (v : Int) (u : Int) ↔ ((cstF (u : Int) (v : Int) l).2 = true ∧ 0 ≤ T l (x : Int) (u : Int) ∧ T l (x : Int) (u : Int) + (cstF (u : Int) (v : Int) l).1 = T l (x : Int) (v : Int))) := by
                        constructor
                        · rintro ⟨c, he, h1, h2⟩
                          obtain ⟨a1, a2⟩ := (cstF_iff HV.out.1).1 he
                          exact ⟨a1, h1, by rw [a2]; exact h2⟩
                        · rintro ⟨h1, h2, h3⟩
                          exact ⟨_, cstF_mem h1, h2, h3⟩
                      have hcs := cstF_small HV.out.1 (u : Int) (v : Int)
                      have hsm := HSM.out x hxn u hul
                      obtain ⟨c1, c2⟩ := HXC.out _ HM4.out.kp
                      have c3 := c2 v hlt
                      have c4 := c2 u hul
                      rw [HTV.out] at c3 HMI
                      clear q0 q1 q2 c2 hb4 HM
                      have HNO : Hid (¬ Par l (x : Int) (v : Int) (u : Int) → (RM V1 H P n (gT (hopRow R l (x : Int) first) n v) ((gT (parRow l (x : Int) n) n v).set v (rowF (u + 1) (fun u => decide (Par l (x : Int) (v : Int) u)))) w4)) := fun h => by
                        rw [rowF_succ, if_neg (by simpa using h), List.append_nil]; exact HM4.out
                      have HYE : Hid (Par l (x : Int) (v : Int) (u : Int) → rowF (u + 1) (fun u => decide (Par l (x : Int) (v : Int) u)) = rowF u (fun u => decide (Par l (x : Int) (v : Int) u)) ++ [(u : Int)]) := fun h => by
                        rw [rowF_succ, if_pos (by simpa using h)]
                      generalize hTu : T l (x : Int) (u : Int) = tu at *
                      clear hTu
                      generalize (cstF (u : Int) (v : Int) l).1 = cc at *
                      generalize (cstF (u : Int) (v : Int) l).2 = cb at *
                      cases cb with
                      | false =>
                        have HN1 := Lib.hid (HNO.out (fun h => by have := (HMI.out.1 h).1; cases this))
                        clear HNO HYE HMI
                        go_wp2_with fail
                        go_quiet (fail)
                        go_wp2_with fail
                        go_roundg (n - (u + 1))
                        case measure => omega
                        case rel => exact ⟨u + 1, by omega, Nat.le_refl _, by go_num, ⟨_, rfl⟩, ⟨_, rfl⟩, HN1.out.drewN _⟩
                      | true =>
                        by_cases htu : 0 ≤ tu
                        · have z3 : decide (0 ≤ tu) = true := decide_eq_true htu
                          by_cases hsum : tu + cc = tv
                          · as_aux_lemma =>
                              have z4 : (tu + cc == tv) = true := by simpa using hsum
                              have hyes := HYE.out (HMI.out.2 (by refine ⟨?_, htu, hsum⟩; first | rfl | trivial))
                              have HYS := Lib.hid hyes
                              clear HNO HYE HMI hyes
                              subst hsum
                              go_wp2_with fail
                              go_quiet (fail)
                              go_upto_region 24 with (fail)
                              have HM5 := Lib.hid (HM4.out.drewN nq)
                              generalize w4.drewN nq = wa at *
                              clear HM4 c1 c3 c4
                              obtain ⟨t0, t1, t2, t3⟩ := HTC.out _ HM5.out.kp
                              obtain ⟨xv, cv, zv, ho, hob, hPs, hput⟩ := HM5.out.atP hlt
                              have hgl : gL ((gT (parRow l (x : Int) n) n v).set v (rowF u (fun u => decide (Par l (x : Int) (v : Int) u)))) v = rowF u (fun u => decide (Par l (x : Int) (v : Int) u)) := gL_set_self (by rw [gT_len]; exact hlt)
                              rw [hgl] at ho hput
                              have hrl : (rowF u (fun u => decide (Par l (x : Int) (v : Int) u))).length ≤ u := rowF_len _ _
                              have HO := Lib.hid (And.intro ho hob)
                              have HPU := Lib.hid hput
                              have HNE := Lib.hid hne
                              have cvA : ∀ o, (wa.alloc o).cell? ⟨P, v, none⟩ = some xv := fun o => carry (below_alloc _ _) cv
                              have HSET : Hid (∀ r : List Int, ((gT (parRow l (x : Int) n) n v).set v (rowF u (fun u => decide (Par l (x : Int) (v : Int) u)))).set v r = (gT (parRow l (x : Int) n) n v).set v r) := fun r => List.set_set ..
                              clear ho hob hput hgl t0 t1 t2
                              generalize rowF u (fun u => decide (Par l (x : Int) (v : Int) u)) = xs at *
                              refine wp_region_held_drew (S := fun W => W.cell? ⟨tb, 3, none⟩ = some (.slice (some ⟨P, 0, none⟩) n n)) (by kernel_rfl) t3 (fun hS0 => ?_)
                              refine wpAnyH_take (i := 0) (oi := ⟨some 137, _, _, _, _, _⟩) (v := .pointer (some ⟨tb, 3, none⟩)) rfl (by as_aux_lemma => kernel_rfl) (by as_aux_lemma => kernel_rfl) (by as_aux_lemma => kernel_rfl) (fun _ _ _ h => h) (Or.inl ⟨by rfl, by intro w' hw'; (try dsimp only at hw'); go_simp⟩) hS0 ?_
                              simp only [Act.put, List.setIfInBounds_toArray, List.set_cons_zero, List.set_cons_succ]
                              refine wpAnyH_take (i := 1) (oi := ⟨some 138, _, _, _, _, _⟩) (v := .slice (some ⟨P, 0, none⟩) n n) rfl (by as_aux_lemma => kernel_rfl) (by as_aux_lemma => kernel_rfl) (by as_aux_lemma => kernel_rfl) (fun _ _ _ h => h) (Or.inl ⟨by rfl, by intro w' hw'; (try dsimp only at hw'); go_simp⟩) hS0 ?_
                              simp only [Act.put, List.setIfInBounds_toArray, List.set_cons_zero, List.set_cons_succ]
                              refine wpAnyH_take (i := 2) (oi := ⟨some 139, _, _, _, _, _⟩) (v := .int .i64 (v : Int)) rfl (by as_aux_lemma => kernel_rfl) (by as_aux_lemma => kernel_rfl) (by as_aux_lemma => kernel_rfl) (fun _ _ _ h => h) (Or.inl ⟨by rfl, by intro w' hw'; (try dsimp only at hw'); go_simp⟩) hS0 ?_
                              simp only [Act.put, List.setIfInBounds_toArray, List.set_cons_zero, List.set_cons_succ]
                              refine wpAnyH_take (i := 3) (oi := ⟨some 140, _, _, _, _, _⟩) (v := .pointer (some ⟨tb, 3, none⟩)) rfl (by as_aux_lemma => kernel_rfl) (by as_aux_lemma => kernel_rfl) (by as_aux_lemma => kernel_rfl) (fun _ _ _ h => h) (Or.inl ⟨by rfl, by intro w' hw'; (try dsimp only at hw'); go_simp⟩) hS0 ?_
                              simp only [Act.put, List.setIfInBounds_toArray, List.set_cons_zero, List.set_cons_succ]
                              refine wpAnyH_take (i := 4) (oi := ⟨some 141, _, _, _, _, _⟩) (v := .slice (some ⟨P, 0, none⟩) n n) rfl (by as_aux_lemma => kernel_rfl) (by as_aux_lemma => kernel_rfl) (by as_aux_lemma => kernel_rfl) (fun _ _ _ h => h) (Or.inl ⟨by rfl, by intro w' hw'; (try dsimp only at hw'); go_simp⟩) hS0 ?_
                              simp only [Act.put, List.setIfInBounds_toArray, List.set_cons_zero, List.set_cons_succ]
                              refine wpAnyH_take (i := 5) (oi := ⟨some 142, _, _, _, _, _⟩) (v := .int .i64 (v : Int)) rfl (by as_aux_lemma => kernel_rfl) (by as_aux_lemma => kernel_rfl) (by as_aux_lemma => kernel_rfl) (fun _ _ _ h => h) (Or.inl ⟨by rfl, by intro w' hw'; (try dsimp only at hw'); go_simp⟩) hS0 ?_
                              simp only [Act.put, List.setIfInBounds_toArray, List.set_cons_zero, List.set_cons_succ]
                              refine wpAnyH_take (i := 6) (oi := ⟨some 143, _, _, _, _, _⟩) (v := .pointer (some ⟨P, v, none⟩)) rfl (by as_aux_lemma => kernel_rfl) (by as_aux_lemma => kernel_rfl) (by as_aux_lemma => kernel_rfl) (fun _ _ _ h => h) (Or.inl ⟨by rfl, by intro w' hw'; (try dsimp only at hw'); go_simp⟩) hS0 ?_
                              simp only [Act.put, List.setIfInBounds_toArray, List.set_cons_zero, List.set_cons_succ]
                              refine wpAnyH_take (i := 8) (oi := ⟨some 145, _, _, _, _, _⟩) (v := .int .i64 (u : Int)) rfl (by as_aux_lemma => kernel_rfl) (by as_aux_lemma => kernel_rfl) (by as_aux_lemma => kernel_rfl) (fun _ _ _ h => h) (Or.inl ⟨by rfl, by intro w' hw'; (try dsimp only at hw'); go_simp⟩) hS0 ?_
                              simp only [Act.put, List.setIfInBounds_toArray, List.set_cons_zero, List.set_cons_succ]
                              refine wpAnyH_ready (rs := [7, 9]) (by as_aux_lemma => kernel_rfl) (by simp) ?_
                              refine (AllReadyH.cons rfl (fun K hK => ?_) (AllReadyH.cons rfl (fun K hK => ?_) AllReadyH.nil))
                              · go_simp
                                (try go_wp2_with fail)
                                refine hK.out _ _ (hS0) (fun _ => ?_)
                                clear hK K
                                (try simp only [Act.put, List.setIfInBounds_toArray, List.set_cons_zero, List.set_cons_succ])
                                refine wpAnyH_ready (rs := [9]) (by as_aux_lemma => kernel_rfl) (by simp) ?_
                                refine AllReadyH.cons rfl (fun K hK => ?_) AllReadyH.nil
                                go_simp
                                (try go_wp2_with fail)
                                refine hK.out _ _ (carry (below_alloc _ _) t3) (fun _ => ?_)
                                clear hK K
                                (try simp only [Act.put, List.setIfInBounds_toArray, List.set_cons_zero, List.set_cons_succ])
                                refine wpAnyH_ready (rs := [10]) (by as_aux_lemma => kernel_rfl) (by simp) ?_
                                refine AllReadyH.cons rfl (fun K hK => ?_) AllReadyH.nil
                                refine step_append_lies _ rfl (.tmp 144) (.tmp 146) 35 rfl 0 3 i0 (.int .i64 0) 1 8 Try.underlying35 hi hz0 hz1 hz2 rfl (by decide) xv xs.length (ints xs) (by simp [Act.eval, Act.put]) ((HO.out.1.drew.alloc _)) ⟨_, 0, none⟩ 1 1 [.int .i64 (u : Int)] (by simp [Act.eval, Act.put]) rfl (cell_one_new _ _ _ rfl) (one_int _) (by decide) (by unfold maxLen; omega) (by omega) (Nat.zero_le _) _ rfl ?_
                                intro g5 cap5 w5 a1 a2 a3 a4
                                have hb5 : Below wa.heap.size wa (wa.drew.alloc (.cells #[.int .i64 (u : Int)] 3)) := (Below.refl _ wa).drew.alloc (Nat.le_refl _) _
                                have HA5 := Lib.hid (HPU.out _ w5 (u : Int) _ hb5 a2 a1 (fun g hg => by simp [Value.ownBlock] at hg; subst hg; exact a3.elim .inl (fun h => .inr (by rw [h]; simp))))
                                have hk5 : Kp (vblk xv) wa w5 := (Kp.of_below hb5).grown a2 fun k hk => .inl (mem_vblk.2 hk)
                                have hPn : P ∉ vblk xv := fun hm => (HO.out.2 P (mem_vblk.1 hm)).2 rfl
                                have htn : tb ∉ vblk xv := fun hm => by have h1 := (HO.out.2 tb (mem_vblk.1 hm)).1; have h2 := HTL.out; omega
                                have t3' := hk5.carry (p := ⟨tb, 3, none⟩) htn t3
                                have cv' := hk5.carry (p := ⟨P, v, none⟩) hPn cv
                                have zv' : w5.frozen? ⟨P, v, none⟩ = false := mg_free hk5 hPn cv zv
                                clear a1 a2 a3 a4 hb5 hk5 hPn htn
                                refine hK.out _ _ t3' (fun _ => ?_)
                                clear hK K
                                (try simp only [Act.put, List.setIfInBounds_toArray, List.set_cons_zero, List.set_cons_succ])
                                refine wpAnyH_take (i := 11) (oi := ⟨some 148, _, _, _, _, _⟩) (v := .pointer (some ⟨P, v, none⟩)) rfl (by as_aux_lemma => kernel_rfl) (by as_aux_lemma => kernel_rfl) (by as_aux_lemma => kernel_rfl) (fun _ _ _ h => h) (Or.inl ⟨by rfl, by intro w' hw'; (try dsimp only at hw'); go_simp⟩) t3' ?_
                                simp only [Act.put, List.setIfInBounds_toArray, List.set_cons_zero, List.set_cons_succ]
                                refine wpAnyH_ready (rs := [12]) (by as_aux_lemma => kernel_rfl) (by simp) ?_
                                refine AllReadyH.cons rfl (fun K hK => ?_) AllReadyH.nil
                                go_simp
                                (try go_wp2_with fail)
                                refine hK.out _ _ (by rw [World.cell?_setCell_far _ _ _ _ (Ne.symm HNE.out.2.2)]; exact t3') (fun _ => ?_)
                                clear hK K
                                (try simp only [Act.put, List.setIfInBounds_toArray, List.set_cons_zero, List.set_cons_succ])
                                refine wpAnyH_done (by kernel_rfl) ?_ _
                                go_wp2_with fail
                                go_roundg (n - (u + 1))
                                case measure => omega
                                case rel => exact ⟨u + 1, by omega, Nat.le_refl _, by go_num, ⟨_, rfl⟩, ⟨_, rfl⟩, by rw [HYS.out]; rw [HSET.out] at HA5; exact HA5.out⟩
                              · go_simp
                                (try go_wp2_with fail)
                                refine hK.out _ _ (carry (below_alloc _ _) t3) (fun _ => ?_)
                                clear hK K
                                (try simp only [Act.put, List.setIfInBounds_toArray, List.set_cons_zero, List.set_cons_succ])
                                refine wpAnyH_ready (rs := [7]) (by as_aux_lemma => kernel_rfl) (by simp) ?_
                                refine AllReadyH.cons rfl (fun K hK => ?_) AllReadyH.nil
                                go_simp
                                (try go_wp2_with fail)
                                refine hK.out _ _ (carry (below_alloc _ _) t3) (fun _ => ?_)
                                clear hK K
                                (try simp only [Act.put, List.setIfInBounds_toArray, List.set_cons_zero, List.set_cons_succ])
                                refine wpAnyH_ready (rs := [10]) (by as_aux_lemma => kernel_rfl) (by simp) ?_
                                refine AllReadyH.cons rfl (fun K hK => ?_) AllReadyH.nil
                                refine step_append_lies _ rfl (.tmp 144) (.tmp 146) 35 rfl 0 3 i0 (.int .i64 0) 1 8 Try.underlying35 hi hz0 hz1 hz2 rfl (by decide) xv xs.length (ints xs) (by simp [Act.eval, Act.put]) ((HO.out.1.drew.alloc _)) ⟨_, 0, none⟩ 1 1 [.int .i64 (u : Int)] (by simp [Act.eval, Act.put]) rfl (cell_one_new _ _ _ rfl) (one_int _) (by decide) (by unfold maxLen; omega) (by omega) (Nat.zero_le _) _ rfl ?_
                                intro g5 cap5 w5 a1 a2 a3 a4
                                have hb5 : Below wa.heap.size wa (wa.drew.alloc (.cells #[.int .i64 (u : Int)] 3)) := (Below.refl _ wa).drew.alloc (Nat.le_refl _) _
                                have HA5 := Lib.hid (HPU.out _ w5 (u : Int) _ hb5 a2 a1 (fun g hg => by simp [Value.ownBlock] at hg; subst hg; exact a3.elim .inl (fun h => .inr (by rw [h]; simp))))
                                have hk5 : Kp (vblk xv) wa w5 := (Kp.of_below hb5).grown a2 fun k hk => .inl (mem_vblk.2 hk)
                                have hPn : P ∉ vblk xv := fun hm => (HO.out.2 P (mem_vblk.1 hm)).2 rfl
                                have htn : tb ∉ vblk xv := fun hm => by have h1 := (HO.out.2 tb (mem_vblk.1 hm)).1; have h2 := HTL.out; omega
                                have t3' := hk5.carry (p := ⟨tb, 3, none⟩) htn t3
                                have cv' := hk5.carry (p := ⟨P, v, none⟩) hPn cv
                                have zv' : w5.frozen? ⟨P, v, none⟩ = false := mg_free hk5 hPn cv zv
                                clear a1 a2 a3 a4 hb5 hk5 hPn htn
                                refine hK.out _ _ t3' (fun _ => ?_)
                                clear hK K
                                (try simp only [Act.put, List.setIfInBounds_toArray, List.set_cons_zero, List.set_cons_succ])
                                refine wpAnyH_take (i := 11) (oi := ⟨some 148, _, _, _, _, _⟩) (v := .pointer (some ⟨P, v, none⟩)) rfl (by as_aux_lemma => kernel_rfl) (by as_aux_lemma => kernel_rfl) (by as_aux_lemma => kernel_rfl) (fun _ _ _ h => h) (Or.inl ⟨by rfl, by intro w' hw'; (try dsimp only at hw'); go_simp⟩) t3' ?_
                                simp only [Act.put, List.setIfInBounds_toArray, List.set_cons_zero, List.set_cons_succ]
                                refine wpAnyH_ready (rs := [12]) (by as_aux_lemma => kernel_rfl) (by simp) ?_
                                refine AllReadyH.cons rfl (fun K hK => ?_) AllReadyH.nil
                                go_simp
                                (try go_wp2_with fail)
                                refine hK.out _ _ (by rw [World.cell?_setCell_far _ _ _ _ (Ne.symm HNE.out.2.2)]; exact t3') (fun _ => ?_)
                                clear hK K
                                (try simp only [Act.put, List.setIfInBounds_toArray, List.set_cons_zero, List.set_cons_succ])
                                refine wpAnyH_done (by kernel_rfl) ?_ _
                                go_wp2_with fail
                                go_roundg (n - (u + 1))
                                case measure => omega
                                case rel => exact ⟨u + 1, by omega, Nat.le_refl _, by go_num, ⟨_, rfl⟩, ⟨_, rfl⟩, by rw [HYS.out]; rw [HSET.out] at HA5; exact HA5.out⟩
                          · have z4 : (tu + cc == tv) = false := by simpa using hsum
                            have HN1 := Lib.hid (HNO.out (fun h => hsum (HMI.out.1 h).2.2))
                            clear HNO HYE HMI
                            go_wp2_with fail
                            go_quiet (fail)
                            go_wp2_with fail
                            go_roundg (n - (u + 1))
                            case measure => omega
                            case rel => exact ⟨u + 1, by omega, Nat.le_refl _, by go_num, ⟨_, rfl⟩, ⟨_, rfl⟩, HN1.out.drewN _⟩
                        · have z3 : decide (0 ≤ tu) = false := decide_eq_false htu
                          have HN1 := Lib.hid (HNO.out (fun h => htu (HMI.out.1 h).2.1))
                          clear HNO HYE HMI
                          go_wp2_with fail
                          go_quiet (fail)
                          go_wp2_with fail
                          go_roundg (n - (u + 1))
                          case measure => omega
                          case rel => exact ⟨u + 1, by omega, Nat.le_refl _, by go_num, ⟨_, rfl⟩, ⟨_, rfl⟩, HN1.out.drewN _⟩
                  · have k1 : decide ((u : Int) < (n : Int)) = false := decide_eq_false (by omega)
                    have HUN : Hid (u = n) := by show _ = _; omega
                    have HM1 : Hid (RM V1 H P n ((gT (hopRow R l (x : Int) first) n v).set v ((first.take 0).filter (hopP R l (x : Int) v))) (gT (parRow l (x : Int) n) n (v + 1)) wr) := by
                      have := HM.out
                      rw [HUN.out] at this
                      rw [Hid, List.take_zero, List.filter_nil, gT_self hlt, ← gT_set hlt]
                      exact this
                    clear HM HUN
                    go_wp2_with fail
                    go_loopg [16, 17] first.length (fun g s16 s17 wr => ∃ k : Nat, k ≤ first.length ∧ first.length - k ≤ g ∧ s16 = .int .i64 (k : Int) ∧ (∃ q, q = s17) ∧ Hid (RM V1 H P n ((gT (hopRow R l (x : Int) first) n v).set v ((first.take k).filter (hopP R l (x : Int) v))) (gT (parRow l (x : Int) n) n (v + 1)) wr))
                    case atStart => exact ⟨0, by omega, by omega, rfl, ⟨_, rfl⟩, HM1⟩
                    case round =>
                      clear HM1
                      obtain ⟨k, hkf, hkg, rfl, ⟨u17, rfl⟩, HM⟩ := hrel
                      by_cases hkl : k < first.length
                      · as_aux_lemma =>
                          obtain ⟨y, hy⟩ : ∃ y, first[k]? = some y := ⟨_, List.getElem?_eq_getElem hkl⟩
                          obtain ⟨h, rfl, hhn⟩ := HFN.out k y hy
                          obtain ⟨gf, rfl, cf⟩ := HFC.out _ HM.out.kp k _ hy
                          have k0 : (0 : Int) ≤ (k : Int) := by omega
                          have k1 : (k : Int) < (first.length : Int) := by omega
                          have h0 : (0 : Int) ≤ (h : Int) := by omega
                          have h1 : (h : Int) < (n : Int) := by omega
                          obtain ⟨q0, q1, q2⟩ := HG.out _ HM.out.kp
                          obtain ⟨c1, c2⟩ := HXC.out _ HM.out.kp
                          have c3 := c2 v hlt
                          have c4 := c2 h hhn
                          obtain ⟨gh, ph, ch, r1, _, _, r3⟩ := (HDK.out _ HM.out.kp).rows h hhn
                          rw [Nat.zero_add] at r1
                          have r2 := r3 v hlt
                          have hs1 := HSM.out x hxn h hhn
                          have hs2 := HSM.out h hhn v hlt
                          have HXH : Hid (0 ≤ T l (x : Int) (h : Int)) := by
                            have hm := List.mem_of_getElem? hy
                            rw [← HFE.out] at hm
                            exact (of_decide_eq_true (mem_rowF.1 hm).2).2.1
                          rw [HTV.out] at c3
                          have HPI : Hid (hopP R l (x : Int) v (h : Int) = true ↔ ((h : Int) = (v : Int) ∨ ((h : Int) < R ∧ 0 ≤ T l (h : Int) (v : Int) ∧ T l (x : Int) (h : Int) + T l (h : Int) (v : Int) = tv))) := by
                            unfold hopP
                            rw [decide_eq_true_iff, HTV.out]
                            exact ⟨fun h => h.2.2, fun h => ⟨by omega, by omega, h⟩⟩
                          have HNO : Hid (¬ hopP R l (x : Int) v (h : Int) = true → RM V1 H P n ((gT (hopRow R l (x : Int) first) n v).set v ((first.take (k + 1)).filter (hopP R l (x : Int) v))) (gT (parRow l (x : Int) n) n (v + 1)) wr) := fun h => by
                            rw [filter_take_succ hy, if_neg h, List.append_nil]; exact HM.out
                          have HYE : Hid (hopP R l (x : Int) v (h : Int) = true → (first.take (k + 1)).filter (hopP R l (x : Int) v) = (first.take k).filter (hopP R l (x : Int) v) ++ [(h : Int)]) := fun h => by
                            rw [filter_take_succ hy, if_pos h]
                          clear q1 q2 c2 r3 hy
                          have hx0 := HXH.out
                          clear HXH
                          generalize T l (x : Int) (h : Int) = tx at *
                          generalize T l (h : Int) (v : Int) = th at *
                          by_cases hhv : h = v
                          · as_aux_lemma =>
                              have z3 : ((h : Int) == (v : Int)) = true := by simp [hhv]
                              have hyes := HYE.out (HPI.out.2 (.inl (by omega)))
                              have HYS := Lib.hid hyes
                              clear HNO HYE HPI hyes
                              clear c4 q0
                              have hhv2 := hhv.symm
                              clear hhv
                              subst hhv2
                              go_wp2_with fail
                              go_quiet (fail)
                              go_upto_region 30 with (fail)
                              have HM5 := Lib.hid (HM.out.drewN nq)
                              generalize wr.drewN nq = wa at *
                              clear HM c1 c3 r1 r2 cf
                              obtain ⟨t0, t1, t3, t2⟩ := HTC.out _ HM5.out.kp
                              obtain ⟨xv, cv, zv, ho, hob, hPs, hput⟩ := HM5.out.atH hlt
                              have hgl : gL ((gT (hopRow R l (x : Int) first) n v).set v ((first.take k).filter (hopP R l (x : Int) v))) v = (first.take k).filter (hopP R l (x : Int) v) := gL_set_self (by rw [gT_len]; exact hlt)
                              rw [hgl] at ho hput
                              have hrl : ((first.take k).filter (hopP R l (x : Int) v)).length ≤ n := Nat.le_trans (List.length_filter_le _ _) (by rw [List.length_take]; omega)
                              have HO := Lib.hid (And.intro ho hob)
                              have HPU := Lib.hid hput
                              have HNE := Lib.hid hne
                              have cvA : ∀ o, (wa.alloc o).cell? ⟨H, v, none⟩ = some xv := fun o => carry (below_alloc _ _) cv
                              have HSET : Hid (∀ r : List Int, ((gT (hopRow R l (x : Int) first) n v).set v ((first.take k).filter (hopP R l (x : Int) v))).set v r = (gT (hopRow R l (x : Int) first) n v).set v r) := fun r => List.set_set ..
                              clear ho hob hput hgl t0 t1 t2
                              generalize (first.take k).filter (hopP R l (x : Int) v) = xs at *
                              refine wp_region_held_drew (S := fun W => W.cell? ⟨tb, 2, none⟩ = some (.slice (some ⟨H, 0, none⟩) n n)) (by kernel_rfl) t3 (fun hS0 => ?_)
                              refine wpAnyH_take (i := 0) (oi := ⟨some 203, _, _, _, _, _⟩) (v := .pointer (some ⟨tb, 2, none⟩)) rfl (by as_aux_lemma => kernel_rfl) (by as_aux_lemma => kernel_rfl) (by as_aux_lemma => kernel_rfl) (fun _ _ _ h => h) (Or.inl ⟨by rfl, by intro w' hw'; (try dsimp only at hw'); go_simp⟩) hS0 ?_
                              simp only [Act.put, List.setIfInBounds_toArray, List.set_cons_zero, List.set_cons_succ]
                              refine wpAnyH_take (i := 1) (oi := ⟨some 204, _, _, _, _, _⟩) (v := .slice (some ⟨H, 0, none⟩) n n) rfl (by as_aux_lemma => kernel_rfl) (by as_aux_lemma => kernel_rfl) (by as_aux_lemma => kernel_rfl) (fun _ _ _ h => h) (Or.inl ⟨by rfl, by intro w' hw'; (try dsimp only at hw'); go_simp⟩) hS0 ?_
                              simp only [Act.put, List.setIfInBounds_toArray, List.set_cons_zero, List.set_cons_succ]
                              refine wpAnyH_take (i := 2) (oi := ⟨some 205, _, _, _, _, _⟩) (v := .int .i64 (v : Int)) rfl (by as_aux_lemma => kernel_rfl) (by as_aux_lemma => kernel_rfl) (by as_aux_lemma => kernel_rfl) (fun _ _ _ h => h) (Or.inl ⟨by rfl, by intro w' hw'; (try dsimp only at hw'); go_simp⟩) hS0 ?_
                              simp only [Act.put, List.setIfInBounds_toArray, List.set_cons_zero, List.set_cons_succ]
                              refine wpAnyH_take (i := 3) (oi := ⟨some 206, _, _, _, _, _⟩) (v := .pointer (some ⟨tb, 2, none⟩)) rfl (by as_aux_lemma => kernel_rfl) (by as_aux_lemma => kernel_rfl) (by as_aux_lemma => kernel_rfl) (fun _ _ _ h => h) (Or.inl ⟨by rfl, by intro w' hw'; (try dsimp only at hw'); go_simp⟩) hS0 ?_
                              simp only [Act.put, List.setIfInBounds_toArray, List.set_cons_zero, List.set_cons_succ]
                              refine wpAnyH_take (i := 4) (oi := ⟨some 207, _, _, _, _, _⟩) (v := .slice (some ⟨H, 0, none⟩) n n) rfl (by as_aux_lemma => kernel_rfl) (by as_aux_lemma => kernel_rfl) (by as_aux_lemma => kernel_rfl) (fun _ _ _ h => h) (Or.inl ⟨by rfl, by intro w' hw'; (try dsimp only at hw'); go_simp⟩) hS0 ?_
                              simp only [Act.put, List.setIfInBounds_toArray, List.set_cons_zero, List.set_cons_succ]
                              refine wpAnyH_take (i := 5) (oi := ⟨some 208, _, _, _, _, _⟩) (v := .int .i64 (v : Int)) rfl (by as_aux_lemma => kernel_rfl) (by as_aux_lemma => kernel_rfl) (by as_aux_lemma => kernel_rfl) (fun _ _ _ h => h) (Or.inl ⟨by rfl, by intro w' hw'; (try dsimp only at hw'); go_simp⟩) hS0 ?_
                              simp only [Act.put, List.setIfInBounds_toArray, List.set_cons_zero, List.set_cons_succ]
                              refine wpAnyH_take (i := 6) (oi := ⟨some 209, _, _, _, _, _⟩) (v := .pointer (some ⟨H, v, none⟩)) rfl (by as_aux_lemma => kernel_rfl) (by as_aux_lemma => kernel_rfl) (by as_aux_lemma => kernel_rfl) (fun _ _ _ h => h) (Or.inl ⟨by rfl, by intro w' hw'; (try dsimp only at hw'); go_simp⟩) hS0 ?_
                              simp only [Act.put, List.setIfInBounds_toArray, List.set_cons_zero, List.set_cons_succ]
                              refine wpAnyH_take (i := 8) (oi := ⟨some 211, _, _, _, _, _⟩) (v := .int .i64 (v : Int)) rfl (by as_aux_lemma => kernel_rfl) (by as_aux_lemma => kernel_rfl) (by as_aux_lemma => kernel_rfl) (fun _ _ _ h => h) (Or.inl ⟨by rfl, by intro w' hw'; (try dsimp only at hw'); go_simp⟩) hS0 ?_
                              simp only [Act.put, List.setIfInBounds_toArray, List.set_cons_zero, List.set_cons_succ]
                              refine wpAnyH_ready (rs := [7, 9]) (by as_aux_lemma => kernel_rfl) (by simp) ?_
                              refine (AllReadyH.cons rfl (fun K hK => ?_) (AllReadyH.cons rfl (fun K hK => ?_) AllReadyH.nil))
                              · go_simp
                                (try go_wp2_with fail)
                                refine hK.out _ _ (hS0) (fun _ => ?_)
                                clear hK K
                                (try simp only [Act.put, List.setIfInBounds_toArray, List.set_cons_zero, List.set_cons_succ])
                                refine wpAnyH_ready (rs := [9]) (by as_aux_lemma => kernel_rfl) (by simp) ?_
                                refine AllReadyH.cons rfl (fun K hK => ?_) AllReadyH.nil
                                go_simp
                                (try go_wp2_with fail)
                                refine hK.out _ _ (carry (below_alloc _ _) t3) (fun _ => ?_)
                                clear hK K
                                (try simp only [Act.put, List.setIfInBounds_toArray, List.set_cons_zero, List.set_cons_succ])
                                refine wpAnyH_ready (rs := [10]) (by as_aux_lemma => kernel_rfl) (by simp) ?_
                                refine AllReadyH.cons rfl (fun K hK => ?_) AllReadyH.nil
                                refine step_append_lies _ rfl (.tmp 210) (.tmp 212) 35 rfl 0 3 i0 (.int .i64 0) 1 8 Try.underlying35 hi hz0 hz1 hz2 rfl (by decide) xv xs.length (ints xs) (by simp [Act.eval, Act.put]) ((HO.out.1.drew.alloc _)) ⟨_, 0, none⟩ 1 1 [.int .i64 (v : Int)] (by simp [Act.eval, Act.put]) rfl (cell_one_new _ _ _ rfl) (one_int _) (by decide) (by unfold maxLen; omega) (by omega) (Nat.zero_le _) _ rfl ?_
                                intro g5 cap5 w5 a1 a2 a3 a4
                                have hb5 : Below wa.heap.size wa (wa.drew.alloc (.cells #[.int .i64 (v : Int)] 3)) := (Below.refl _ wa).drew.alloc (Nat.le_refl _) _
                                have HA5 := Lib.hid (HPU.out _ w5 (v : Int) _ hb5 a2 a1 (fun g hg => by simp [Value.ownBlock] at hg; subst hg; exact a3.elim .inl (fun h => .inr (by rw [h]; simp))))
                                have hk5 : Kp (vblk xv) wa w5 := (Kp.of_below hb5).grown a2 fun k hk => .inl (mem_vblk.2 hk)
                                have hPn : H ∉ vblk xv := fun hm => (HO.out.2 H (mem_vblk.1 hm)).2 rfl
                                have htn : tb ∉ vblk xv := fun hm => by have h1 := (HO.out.2 tb (mem_vblk.1 hm)).1; have h2 := HTL.out; omega
                                have t3' := hk5.carry (p := ⟨tb, 2, none⟩) htn t3
                                have cv' := hk5.carry (p := ⟨H, v, none⟩) hPn cv
                                have zv' : w5.frozen? ⟨H, v, none⟩ = false := mg_free hk5 hPn cv zv
                                clear a1 a2 a3 a4 hb5 hk5 hPn htn
                                refine hK.out _ _ t3' (fun _ => ?_)
                                clear hK K
                                (try simp only [Act.put, List.setIfInBounds_toArray, List.set_cons_zero, List.set_cons_succ])
                                refine wpAnyH_take (i := 11) (oi := ⟨some 214, _, _, _, _, _⟩) (v := .pointer (some ⟨H, v, none⟩)) rfl (by as_aux_lemma => kernel_rfl) (by as_aux_lemma => kernel_rfl) (by as_aux_lemma => kernel_rfl) (fun _ _ _ h => h) (Or.inl ⟨by rfl, by intro w' hw'; (try dsimp only at hw'); go_simp⟩) t3' ?_
                                simp only [Act.put, List.setIfInBounds_toArray, List.set_cons_zero, List.set_cons_succ]
                                refine wpAnyH_ready (rs := [12]) (by as_aux_lemma => kernel_rfl) (by simp) ?_
                                refine AllReadyH.cons rfl (fun K hK => ?_) AllReadyH.nil
                                go_simp
                                (try go_wp2_with fail)
                                refine hK.out _ _ (by rw [World.cell?_setCell_far _ _ _ _ (Ne.symm HNE.out.2.1)]; exact t3') (fun _ => ?_)
                                clear hK K
                                (try simp only [Act.put, List.setIfInBounds_toArray, List.set_cons_zero, List.set_cons_succ])
                                refine wpAnyH_done (by kernel_rfl) ?_ _
                                go_wp2_with fail
                                go_roundg (first.length - (k + 1))
                                case measure => omega
                                case rel => exact ⟨k + 1, by omega, Nat.le_refl _, by go_num, ⟨_, rfl⟩, by rw [HYS.out]; rw [HSET.out] at HA5; exact HA5.out⟩
                              · go_simp
                                (try go_wp2_with fail)
                                refine hK.out _ _ (carry (below_alloc _ _) t3) (fun _ => ?_)
                                clear hK K
                                (try simp only [Act.put, List.setIfInBounds_toArray, List.set_cons_zero, List.set_cons_succ])
                                refine wpAnyH_ready (rs := [7]) (by as_aux_lemma => kernel_rfl) (by simp) ?_
                                refine AllReadyH.cons rfl (fun K hK => ?_) AllReadyH.nil
                                go_simp
                                (try go_wp2_with fail)
                                refine hK.out _ _ (carry (below_alloc _ _) t3) (fun _ => ?_)
                                clear hK K
                                (try simp only [Act.put, List.setIfInBounds_toArray, List.set_cons_zero, List.set_cons_succ])
                                refine wpAnyH_ready (rs := [10]) (by as_aux_lemma => kernel_rfl) (by simp) ?_
                                refine AllReadyH.cons rfl (fun K hK => ?_) AllReadyH.nil
                                refine step_append_lies _ rfl (.tmp 210) (.tmp 212) 35 rfl 0 3 i0 (.int .i64 0) 1 8 Try.underlying35 hi hz0 hz1 hz2 rfl (by decide) xv xs.length (ints xs) (by simp [Act.eval, Act.put]) ((HO.out.1.drew.alloc _)) ⟨_, 0, none⟩ 1 1 [.int .i64 (v : Int)] (by simp [Act.eval, Act.put]) rfl (cell_one_new _ _ _ rfl) (one_int _) (by decide) (by unfold maxLen; omega) (by omega) (Nat.zero_le _) _ rfl ?_
                                intro g5 cap5 w5 a1 a2 a3 a4
                                have hb5 : Below wa.heap.size wa (wa.drew.alloc (.cells #[.int .i64 (v : Int)] 3)) := (Below.refl _ wa).drew.alloc (Nat.le_refl _) _
                                have HA5 := Lib.hid (HPU.out _ w5 (v : Int) _ hb5 a2 a1 (fun g hg => by simp [Value.ownBlock] at hg; subst hg; exact a3.elim .inl (fun h => .inr (by rw [h]; simp))))
                                have hk5 : Kp (vblk xv) wa w5 := (Kp.of_below hb5).grown a2 fun k hk => .inl (mem_vblk.2 hk)
                                have hPn : H ∉ vblk xv := fun hm => (HO.out.2 H (mem_vblk.1 hm)).2 rfl
                                have htn : tb ∉ vblk xv := fun hm => by have h1 := (HO.out.2 tb (mem_vblk.1 hm)).1; have h2 := HTL.out; omega
                                have t3' := hk5.carry (p := ⟨tb, 2, none⟩) htn t3
                                have cv' := hk5.carry (p := ⟨H, v, none⟩) hPn cv
                                have zv' : w5.frozen? ⟨H, v, none⟩ = false := mg_free hk5 hPn cv zv
                                clear a1 a2 a3 a4 hb5 hk5 hPn htn
                                refine hK.out _ _ t3' (fun _ => ?_)
                                clear hK K
                                (try simp only [Act.put, List.setIfInBounds_toArray, List.set_cons_zero, List.set_cons_succ])
                                refine wpAnyH_take (i := 11) (oi := ⟨some 214, _, _, _, _, _⟩) (v := .pointer (some ⟨H, v, none⟩)) rfl (by as_aux_lemma => kernel_rfl) (by as_aux_lemma => kernel_rfl) (by as_aux_lemma => kernel_rfl) (fun _ _ _ h => h) (Or.inl ⟨by rfl, by intro w' hw'; (try dsimp only at hw'); go_simp⟩) t3' ?_
                                simp only [Act.put, List.setIfInBounds_toArray, List.set_cons_zero, List.set_cons_succ]
                                refine wpAnyH_ready (rs := [12]) (by as_aux_lemma => kernel_rfl) (by simp) ?_
                                refine AllReadyH.cons rfl (fun K hK => ?_) AllReadyH.nil
                                go_simp
                                (try go_wp2_with fail)
                                refine hK.out _ _ (by rw [World.cell?_setCell_far _ _ _ _ (Ne.symm HNE.out.2.1)]; exact t3') (fun _ => ?_)
                                clear hK K
                                (try simp only [Act.put, List.setIfInBounds_toArray, List.set_cons_zero, List.set_cons_succ])
                                refine wpAnyH_done (by kernel_rfl) ?_ _
                                go_wp2_with fail
                                go_roundg (first.length - (k + 1))
                                case measure => omega
                                case rel => exact ⟨k + 1, by omega, Nat.le_refl _, by go_num, ⟨_, rfl⟩, by rw [HYS.out]; rw [HSET.out] at HA5; exact HA5.out⟩
                          · have z3 : ((h : Int) == (v : Int)) = false := by simp; omega
                            by_cases hhR : (h : Int) < R
                            · have z4 : decide ((h : Int) < R) = true := decide_eq_true hhR
                              by_cases hth : 0 ≤ th
                              · have z5 : decide (0 ≤ th) = true := decide_eq_true hth
                                by_cases hsum : tx + th = tv
                                · as_aux_lemma =>
                                    have z6 : (tx + th == tv) = true := by simpa using hsum
                                    have hyes := HYE.out (HPI.out.2 (.inr ⟨hhR, hth, hsum⟩))
                                    have HYS := Lib.hid hyes
                                    clear HNO HYE HPI hyes
                                    subst hsum
                                    go_wp2_with fail
                                    go_quiet (fail)
                                    go_upto_region 30 with (fail)
                                    have HM5 := Lib.hid (HM.out.drewN nq)
                                    generalize wr.drewN nq = wa at *
                                    clear HM c1 c3 c4 r1 r2 cf q0
                                    obtain ⟨t0, t1, t3, t2⟩ := HTC.out _ HM5.out.kp
                                    obtain ⟨xv, cv, zv, ho, hob, hPs, hput⟩ := HM5.out.atH hlt
                                    have hgl : gL ((gT (hopRow R l (x : Int) first) n v).set v ((first.take k).filter (hopP R l (x : Int) v))) v = (first.take k).filter (hopP R l (x : Int) v) := gL_set_self (by rw [gT_len]; exact hlt)
                                    rw [hgl] at ho hput
                                    have hrl : ((first.take k).filter (hopP R l (x : Int) v)).length ≤ n := Nat.le_trans (List.length_filter_le _ _) (by rw [List.length_take]; omega)
                                    have HO := Lib.hid (And.intro ho hob)
                                    have HPU := Lib.hid hput
                                    have HNE := Lib.hid hne
                                    have cvA : ∀ o, (wa.alloc o).cell? ⟨H, v, none⟩ = some xv := fun o => carry (below_alloc _ _) cv
                                    have HSET : Hid (∀ r : List Int, ((gT (hopRow R l (x : Int) first) n v).set v ((first.take k).filter (hopP R l (x : Int) v))).set v r = (gT (hopRow R l (x : Int) first) n v).set v r) := fun r => List.set_set ..
                                    clear ho hob hput hgl t0 t1 t2
                                    generalize (first.take k).filter (hopP R l (x : Int) v) = xs at *
                                    refine wp_region_held_drew (S := fun W => W.cell? ⟨tb, 2, none⟩ = some (.slice (some ⟨H, 0, none⟩) n n)) (by kernel_rfl) t3 (fun hS0 => ?_)
                                    refine wpAnyH_take (i := 0) (oi := ⟨some 203, _, _, _, _, _⟩) (v := .pointer (some ⟨tb, 2, none⟩)) rfl (by as_aux_lemma => kernel_rfl) (by as_aux_lemma => kernel_rfl) (by as_aux_lemma => kernel_rfl) (fun _ _ _ h => h) (Or.inl ⟨by rfl, by intro w' hw'; (try dsimp only at hw'); go_simp⟩) hS0 ?_
                                    simp only [Act.put, List.setIfInBounds_toArray, List.set_cons_zero, List.set_cons_succ]
                                    refine wpAnyH_take (i := 1) (oi := ⟨some 204, _, _, _, _, _⟩) (v := .slice (some ⟨H, 0, none⟩) n n) rfl (by as_aux_lemma => kernel_rfl) (by as_aux_lemma => kernel_rfl) (by as_aux_lemma => kernel_rfl) (fun _ _ _ h => h) (Or.inl ⟨by rfl, by intro w' hw'; (try dsimp only at hw'); go_simp⟩) hS0 ?_
                                    simp only [Act.put, List.setIfInBounds_toArray, List.set_cons_zero, List.set_cons_succ]
                                    refine wpAnyH_take (i := 2) (oi := ⟨some 205, _, _, _, _, _⟩) (v := .int .i64 (v : Int)) rfl (by as_aux_lemma => kernel_rfl) (by as_aux_lemma => kernel_rfl) (by as_aux_lemma => kernel_rfl) (fun _ _ _ h => h) (Or.inl ⟨by rfl, by intro w' hw'; (try dsimp only at hw'); go_simp⟩) hS0 ?_
                                    simp only [Act.put, List.setIfInBounds_toArray, List.set_cons_zero, List.set_cons_succ]
                                    refine wpAnyH_take (i := 3) (oi := ⟨some 206, _, _, _, _, _⟩) (v := .pointer (some ⟨tb, 2, none⟩)) rfl (by as_aux_lemma => kernel_rfl) (by as_aux_lemma => kernel_rfl) (by as_aux_lemma => kernel_rfl) (fun _ _ _ h => h) (Or.inl ⟨by rfl, by intro w' hw'; (try dsimp only at hw'); go_simp⟩) hS0 ?_
                                    simp only [Act.put, List.setIfInBounds_toArray, List.set_cons_zero, List.set_cons_succ]
                                    refine wpAnyH_take (i := 4) (oi := ⟨some 207, _, _, _, _, _⟩) (v := .slice (some ⟨H, 0, none⟩) n n) rfl (by as_aux_lemma => kernel_rfl) (by as_aux_lemma => kernel_rfl) (by as_aux_lemma => kernel_rfl) (fun _ _ _ h => h) (Or.inl ⟨by rfl, by intro w' hw'; (try dsimp only at hw'); go_simp⟩) hS0 ?_
                                    simp only [Act.put, List.setIfInBounds_toArray, List.set_cons_zero, List.set_cons_succ]
                                    refine wpAnyH_take (i := 5) (oi := ⟨some 208, _, _, _, _, _⟩) (v := .int .i64 (v : Int)) rfl (by as_aux_lemma => kernel_rfl) (by as_aux_lemma => kernel_rfl) (by as_aux_lemma => kernel_rfl) (fun _ _ _ h => h) (Or.inl ⟨by rfl, by intro w' hw'; (try dsimp only at hw'); go_simp⟩) hS0 ?_
                                    simp only [Act.put, List.setIfInBounds_toArray, List.set_cons_zero, List.set_cons_succ]
                                    refine wpAnyH_take (i := 6) (oi := ⟨some 209, _, _, _, _, _⟩) (v := .pointer (some ⟨H, v, none⟩)) rfl (by as_aux_lemma => kernel_rfl) (by as_aux_lemma => kernel_rfl) (by as_aux_lemma => kernel_rfl) (fun _ _ _ h => h) (Or.inl ⟨by rfl, by intro w' hw'; (try dsimp only at hw'); go_simp⟩) hS0 ?_
                                    simp only [Act.put, List.setIfInBounds_toArray, List.set_cons_zero, List.set_cons_succ]
                                    refine wpAnyH_take (i := 8) (oi := ⟨some 211, _, _, _, _, _⟩) (v := .int .i64 (h : Int)) rfl (by as_aux_lemma => kernel_rfl) (by as_aux_lemma => kernel_rfl) (by as_aux_lemma => kernel_rfl) (fun _ _ _ h => h) (Or.inl ⟨by rfl, by intro w' hw'; (try dsimp only at hw'); go_simp⟩) hS0 ?_
                                    simp only [Act.put, List.setIfInBounds_toArray, List.set_cons_zero, List.set_cons_succ]
                                    refine wpAnyH_ready (rs := [7, 9]) (by as_aux_lemma => kernel_rfl) (by simp) ?_
                                    refine (AllReadyH.cons rfl (fun K hK => ?_) (AllReadyH.cons rfl (fun K hK => ?_) AllReadyH.nil))
                                    · go_simp
                                      (try go_wp2_with fail)
                                      refine hK.out _ _ (hS0) (fun _ => ?_)
                                      clear hK K
                                      (try simp only [Act.put, List.setIfInBounds_toArray, List.set_cons_zero, List.set_cons_succ])
                                      refine wpAnyH_ready (rs := [9]) (by as_aux_lemma => kernel_rfl) (by simp) ?_
                                      refine AllReadyH.cons rfl (fun K hK => ?_) AllReadyH.nil
                                      go_simp
                                      (try go_wp2_with fail)
                                      refine hK.out _ _ (carry (below_alloc _ _) t3) (fun _ => ?_)
                                      clear hK K
                                      (try simp only [Act.put, List.setIfInBounds_toArray, List.set_cons_zero, List.set_cons_succ])
                                      refine wpAnyH_ready (rs := [10]) (by as_aux_lemma => kernel_rfl) (by simp) ?_
                                      refine AllReadyH.cons rfl (fun K hK => ?_) AllReadyH.nil
                                      refine step_append_lies _ rfl (.tmp 210) (.tmp 212) 35 rfl 0 3 i0 (.int .i64 0) 1 8 Try.underlying35 hi hz0 hz1 hz2 rfl (by decide) xv xs.length (ints xs) (by simp [Act.eval, Act.put]) ((HO.out.1.drew.alloc _)) ⟨_, 0, none⟩ 1 1 [.int .i64 (h : Int)] (by simp [Act.eval, Act.put]) rfl (cell_one_new _ _ _ rfl) (one_int _) (by decide) (by unfold maxLen; omega) (by omega) (Nat.zero_le _) _ rfl ?_
                                      intro g5 cap5 w5 a1 a2 a3 a4
                                      have hb5 : Below wa.heap.size wa (wa.drew.alloc (.cells #[.int .i64 (h : Int)] 3)) := (Below.refl _ wa).drew.alloc (Nat.le_refl _) _
                                      have HA5 := Lib.hid (HPU.out _ w5 (h : Int) _ hb5 a2 a1 (fun g hg => by simp [Value.ownBlock] at hg; subst hg; exact a3.elim .inl (fun h => .inr (by rw [h]; simp))))
                                      have hk5 : Kp (vblk xv) wa w5 := (Kp.of_below hb5).grown a2 fun k hk => .inl (mem_vblk.2 hk)
                                      have hPn : H ∉ vblk xv := fun hm => (HO.out.2 H (mem_vblk.1 hm)).2 rfl
                                      have htn : tb ∉ vblk xv := fun hm => by have h1 := (HO.out.2 tb (mem_vblk.1 hm)).1; have h2 := HTL.out; omega
                                      have t3' := hk5.carry (p := ⟨tb, 2, none⟩) htn t3
                                      have cv' := hk5.carry (p := ⟨H, v, none⟩) hPn cv
                                      have zv' : w5.frozen? ⟨H, v, none⟩ = false := mg_free hk5 hPn cv zv
                                      clear a1 a2 a3 a4 hb5 hk5 hPn htn
                                      refine hK.out _ _ t3' (fun _ => ?_)
                                      clear hK K
                                      (try simp only [Act.put, List.setIfInBounds_toArray, List.set_cons_zero, List.set_cons_succ])
                                      refine wpAnyH_take (i := 11) (oi := ⟨some 214, _, _, _, _, _⟩) (v := .pointer (some ⟨H, v, none⟩)) rfl (by as_aux_lemma => kernel_rfl) (by as_aux_lemma => kernel_rfl) (by as_aux_lemma => kernel_rfl) (fun _ _ _ h => h) (Or.inl ⟨by rfl, by intro w' hw'; (try dsimp only at hw'); go_simp⟩) t3' ?_
                                      simp only [Act.put, List.setIfInBounds_toArray, List.set_cons_zero, List.set_cons_succ]
                                      refine wpAnyH_ready (rs := [12]) (by as_aux_lemma => kernel_rfl) (by simp) ?_
                                      refine AllReadyH.cons rfl (fun K hK => ?_) AllReadyH.nil
                                      go_simp
                                      (try go_wp2_with fail)
                                      refine hK.out _ _ (by rw [World.cell?_setCell_far _ _ _ _ (Ne.symm HNE.out.2.1)]; exact t3') (fun _ => ?_)
                                      clear hK K
                                      (try simp only [Act.put, List.setIfInBounds_toArray, List.set_cons_zero, List.set_cons_succ])
                                      refine wpAnyH_done (by kernel_rfl) ?_ _
                                      go_wp2_with fail
                                      go_roundg (first.length - (k + 1))
                                      case measure => omega
                                      case rel => exact ⟨k + 1, by omega, Nat.le_refl _, by go_num, ⟨_, rfl⟩, by rw [HYS.out]; rw [HSET.out] at HA5; exact HA5.out⟩
                                    · go_simp
                                      (try go_wp2_with fail)
                                      refine hK.out _ _ (carry (below_alloc _ _) t3) (fun _ => ?_)
                                      clear hK K
                                      (try simp only [Act.put, List.setIfInBounds_toArray, List.set_cons_zero, List.set_cons_succ])
                                      refine wpAnyH_ready (rs := [7]) (by as_aux_lemma => kernel_rfl) (by simp) ?_
                                      refine AllReadyH.cons rfl (fun K hK => ?_) AllReadyH.nil
                                      go_simp
                                      (try go_wp2_with fail)
                                      refine hK.out _ _ (carry (below_alloc _ _) t3) (fun _ => ?_)
                                      clear hK K
                                      (try simp only [Act.put, List.setIfInBounds_toArray, List.set_cons_zero, List.set_cons_succ])
                                      refine wpAnyH_ready (rs := [10]) (by as_aux_lemma => kernel_rfl) (by simp) ?_
                                      refine AllReadyH.cons rfl (fun K hK => ?_) AllReadyH.nil
                                      refine step_append_lies _ rfl (.tmp 210) (.tmp 212) 35 rfl 0 3 i0 (.int .i64 0) 1 8 Try.underlying35 hi hz0 hz1 hz2 rfl (by decide) xv xs.length (ints xs) (by simp [Act.eval, Act.put]) ((HO.out.1.drew.alloc _)) ⟨_, 0, none⟩ 1 1 [.int .i64 (h : Int)] (by simp [Act.eval, Act.put]) rfl (cell_one_new _ _ _ rfl) (one_int _) (by decide) (by unfold maxLen; omega) (by omega) (Nat.zero_le _) _ rfl ?_
                                      intro g5 cap5 w5 a1 a2 a3 a4
                                      have hb5 : Below wa.heap.size wa (wa.drew.alloc (.cells #[.int .i64 (h : Int)] 3)) := (Below.refl _ wa).drew.alloc (Nat.le_refl _) _
                                      have HA5 := Lib.hid (HPU.out _ w5 (h : Int) _ hb5 a2 a1 (fun g hg => by simp [Value.ownBlock] at hg; subst hg; exact a3.elim .inl (fun h => .inr (by rw [h]; simp))))
                                      have hk5 : Kp (vblk xv) wa w5 := (Kp.of_below hb5).grown a2 fun k hk => .inl (mem_vblk.2 hk)
                                      have hPn : H ∉ vblk xv := fun hm => (HO.out.2 H (mem_vblk.1 hm)).2 rfl
                                      have htn : tb ∉ vblk xv := fun hm => by have h1 := (HO.out.2 tb (mem_vblk.1 hm)).1; have h2 := HTL.out; omega
                                      have t3' := hk5.carry (p := ⟨tb, 2, none⟩) htn t3
                                      have cv' := hk5.carry (p := ⟨H, v, none⟩) hPn cv
                                      have zv' : w5.frozen? ⟨H, v, none⟩ = false := mg_free hk5 hPn cv zv
                                      clear a1 a2 a3 a4 hb5 hk5 hPn htn
                                      refine hK.out _ _ t3' (fun _ => ?_)
                                      clear hK K
                                      (try simp only [Act.put, List.setIfInBounds_toArray, List.set_cons_zero, List.set_cons_succ])
                                      refine wpAnyH_take (i := 11) (oi := ⟨some 214, _, _, _, _, _⟩) (v := .pointer (some ⟨H, v, none⟩)) rfl (by as_aux_lemma => kernel_rfl) (by as_aux_lemma => kernel_rfl) (by as_aux_lemma => kernel_rfl) (fun _ _ _ h => h) (Or.inl ⟨by rfl, by intro w' hw'; (try dsimp only at hw'); go_simp⟩) t3' ?_
                                      simp only [Act.put, List.setIfInBounds_toArray, List.set_cons_zero, List.set_cons_succ]
                                      refine wpAnyH_ready (rs := [12]) (by as_aux_lemma => kernel_rfl) (by simp) ?_
                                      refine AllReadyH.cons rfl (fun K hK => ?_) AllReadyH.nil
                                      go_simp
                                      (try go_wp2_with fail)
                                      refine hK.out _ _ (by rw [World.cell?_setCell_far _ _ _ _ (Ne.symm HNE.out.2.1)]; exact t3') (fun _ => ?_)
                                      clear hK K
                                      (try simp only [Act.put, List.setIfInBounds_toArray, List.set_cons_zero, List.set_cons_succ])
                                      refine wpAnyH_done (by kernel_rfl) ?_ _
                                      go_wp2_with fail
                                      go_roundg (first.length - (k + 1))
                                      case measure => omega
                                      case rel => exact ⟨k + 1, by omega, Nat.le_refl _, by go_num, ⟨_, rfl⟩, by rw [HYS.out]; rw [HSET.out] at HA5; exact HA5.out⟩
                                · have z6 : (tx + th == tv) = false := by simpa using hsum
                                  have HN1 := Lib.hid (HNO.out (fun h => by rcases HPI.out.1 h with h | h <;> omega))
                                  clear HNO HYE HPI
                                  go_wp2_with fail
                                  go_quiet (fail)
                                  go_wp2_with fail
                                  go_roundg (first.length - (k + 1))
                                  case measure => omega
                                  case rel => exact ⟨k + 1, by omega, Nat.le_refl _, by go_num, ⟨_, rfl⟩, HN1.out.drewN _⟩
                              · have z5 : decide (0 ≤ th) = false := decide_eq_false hth
                                have HN1 := Lib.hid (HNO.out (fun h => by rcases HPI.out.1 h with h | h <;> omega))
                                clear HNO HYE HPI
                                go_wp2_with fail
                                go_quiet (fail)
                                go_wp2_with fail
                                go_roundg (first.length - (k + 1))
                                case measure => omega
                                case rel => exact ⟨k + 1, by omega, Nat.le_refl _, by go_num, ⟨_, rfl⟩, HN1.out.drewN _⟩
                            · have z4 : decide ((h : Int) < R) = false := decide_eq_false hhR
                              have HN1 := Lib.hid (HNO.out (fun h => by rcases HPI.out.1 h with h | h <;> omega))
                              clear HNO HYE HPI
                              go_wp2_with fail
                              go_quiet (fail)
                              go_wp2_with fail
                              go_roundg (first.length - (k + 1))
                              case measure => omega
                              case rel => exact ⟨k + 1, by omega, Nat.le_refl _, by go_num, ⟨_, rfl⟩, HN1.out.drewN _⟩
                      · have k1 : decide ((k : Int) < (first.length : Int)) = false := decide_eq_false (by omega)
                        have HKL : Hid (k = first.length) := by show _ = _; omega
                        have HNX : Hid (RM V1 H P n (gT (hopRow R l (x : Int) first) n (v + 1)) (gT (parRow l (x : Int) n) n (v + 1)) wr) := by
                          have := HM.out
                          rw [HKL.out, List.take_length] at this
                          rw [Hid, ← gT_set hlt]
                          exact this
                        clear HM HKL
                        go_wp2_with fail
                        go_roundg (n - (v + 1))
                        case measure => omega
                        case rel => exact ⟨v + 1, by omega, Nat.le_refl _, by go_num, ⟨_, rfl⟩, ⟨_, rfl⟩, ⟨_, rfl⟩, ⟨_, rfl⟩, ⟨_, rfl⟩, HNX⟩
        · have k1 : decide ((v : Int) < (n : Int)) = false := decide_eq_false (by omega)
          have HVN : Hid (v = n) := by show _ = _; omega
          have HMF : Hid (RM V1 H P n (gT (hopRow R l (x : Int) first) n n) (gT (parRow l (x : Int) n) n n) wr) := by have := HM.out; rw [HVN.out] at this; exact this
          clear HM HVN
          obtain ⟨t0, t1, t2, t3⟩ := HTC.out _ HMF.out.kp
          have hbx : wr.heap[w.heap.size + 1]? = some box0 := (HMF.out.kp.block _ (lt_block HWX.out) (by have := HWN.out; simp; omega)).trans HWX.out
          have HBX := Lib.hid hbx
          have r0 : wr.cell? ⟨w.heap.size + 1, 0, none⟩ = some (.int .i64 0) := cell_of hbx rfl
          have r1 : wr.cell? ⟨w.heap.size + 1, 1, none⟩ = some (.slice none 0 0) := cell_of hbx rfl
          have r2 : wr.cell? ⟨w.heap.size + 1, 2, none⟩ = some (.slice none 0 0) := cell_of hbx rfl
          have r3 : wr.cell? ⟨w.heap.size + 1, 3, none⟩ = some (.slice none 0 0) := cell_of hbx rfl
          have rz : ∀ o, wr.frozen? ⟨w.heap.size + 1, o, none⟩ = false := free_of hbx
          clear hbx
          go_wp2_with fail
          clear t0 t1 t2 t3 r0 r1 r2 r3 rz
          have HFW := Lib.hid (And.intro (set4 HBX.out (.int .i64 (x : Int)) (.slice (some ⟨gr, gp, none⟩) n gc) (.slice (some ⟨H, 0, none⟩) n n) (.slice (some ⟨P, 0, none⟩) n n)) (set4_below (HBK.out _ HMF.out.kp) (Nat.le_succ _) (.int .i64 (x : Int)) (.slice (some ⟨gr, gp, none⟩) n gc) (.slice (some ⟨H, 0, none⟩) n n) (.slice (some ⟨P, 0, none⟩) n n)))
          have HSAME : Hid (∀ g, g ≠ w.heap.size + 1 → ((((wr.setCell ⟨w.heap.size + 1, 0, none⟩ (.int .i64 (x : Int))).setCell ⟨w.heap.size + 1, 1, none⟩ (.slice (some ⟨gr, gp, none⟩) n gc)).setCell ⟨w.heap.size + 1, 2, none⟩ (.slice (some ⟨H, 0, none⟩) n n)).setCell ⟨w.heap.size + 1, 3, none⟩ (.slice (some ⟨P, 0, none⟩) n n)).heap[g]? = wr.heap[g]?) := fun g hg => by
            rw [heap_set_ne hg, heap_set_ne hg, heap_set_ne hg, heap_set_ne hg]
          generalize ((((wr.setCell ⟨w.heap.size + 1, 0, none⟩ (.int .i64 (x : Int))).setCell ⟨w.heap.size + 1, 1, none⟩ (.slice (some ⟨gr, gp, none⟩) n gc)).setCell ⟨w.heap.size + 1, 2, none⟩ (.slice (some ⟨H, 0, none⟩) n n)).setCell ⟨w.heap.size + 1, 3, none⟩ (.slice (some ⟨P, 0, none⟩) n n)) = Wf at *
          have q0 : Wf.cell? ⟨w.heap.size + 1, 0, none⟩ = some (.int .i64 (x : Int)) := cell_of HFW.out.1 rfl
          have q1 : Wf.cell? ⟨w.heap.size + 1, 1, none⟩ = some (.slice (some ⟨gr, gp, none⟩) n gc) := cell_of HFW.out.1 rfl
          have q2 : Wf.cell? ⟨w.heap.size + 1, 2, none⟩ = some (.slice (some ⟨H, 0, none⟩) n n) := cell_of HFW.out.1 rfl
          have q3 : Wf.cell? ⟨w.heap.size + 1, 3, none⟩ = some (.slice (some ⟨P, 0, none⟩) n n) := cell_of HFW.out.1 rfl
          refine bodyPost_ret (v := .tuple #[.agg #[.int .i64 (x : Int), .slice (some ⟨gr, gp, none⟩) n gc, .slice (some ⟨H, 0, none⟩) n n, .slice (some ⟨P, 0, none⟩) n n], .int .i64 0]) (by simp [results, Try.results56, go_sem, q0, q1, q2, q3]) rfl ?_
          have hV1 : w.heap.size + 1 < V1.heap.size := lt_block HWX.out
          obtain ⟨hv', pv', a1, a2, a3⟩ := HMF.out
          have hHP : HPm Wf H P n hv' pv' (gT (hopRow R l (x : Int) first) n n) (gT (parRow l (x : Int) n) n n) := a1.congr fun g hg => HSAME.out g (by
            have := HWN.out
            rcases hg with rfl | rfl | hg | hg
            · omega
            · omega
            · have := a3 g (.inl hg); omega
            · have := a3 g (.inr hg); omega)
          refine ⟨⟨(x : Int), (List.range n).map fun v : Nat => T l (x : Int) (v : Int), gT (hopRow R l (x : Int) first) n n, gT (parRow l (x : Int) n) n n⟩, _, rfl, ⟨_, _, _, rfl, ?_, rdr_own hHP.rh hHP.hh (by omega), rdr_own hHP.rp hHP.pp (by omega)⟩, rfl, ?_, HFW.out.2, ⟨_, _, _, _, rfl, rdrb_own hHP.rh hHP.hh (by omega) (by have := HWN.out; omega) (fun g hg => by have := a3 g (.inl hg); omega)⟩⟩
          · refine ⟨some ⟨gr, gp, none⟩, gc, by simp, by simp; exact f3, HCM.out, fun k y hk => ?_⟩
            have hkn : k < n := by have := (List.getElem?_eq_some_iff.1 hk).1; simpa using this
            have e : y = T l (x : Int) (k : Int) := by simpa [hkn] using hk.symm
            subst e
            have hc := (HXC.out _ a2).2 k hkn
            refine ⟨gr, gp, rfl, ?_, ?_⟩
            · have hh := HSAME.out gr HGX.out
              have hl := World.block_lt_of_cell? _ _ hc
              rw [Array.getElem?_eq_getElem hl] at hh
              exact (Array.getElem?_eq_some_iff.1 hh).1
            · exact (World.cell?_of_block (HSAME.out gr HGX.out)).trans hc
          · have := rows_tree HV.out.1 (s := (x : Int)) ⟨x0, hxR⟩ HV.out.2
            rw [HFE.out] at this
            exact this
end Go.Proofs.Ytmbogobebllheaa
