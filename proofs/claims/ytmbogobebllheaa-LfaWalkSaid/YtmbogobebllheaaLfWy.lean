/-
  The walk of the reference's Ways.
-/
import Derived.Test.YtmbogobebllheaaLfWm
import Derived.Test.YtmbogobebllheaaSpRs
import Derived.Test.YtmbogobebllheaaMy
import Derived.Test.YtmbogobebllheaaMz
import Derived.Maps.AppendAt
namespace Go.Proofs.Ytmbogobebllheaa
open Go.RowKit HM GM SP Go.Lib
set_option linter.unusedSimpArgs false
set_option linter.unusedVariables false
set_option maxHeartbeats 4000000
set_option maxRecDepth 100000
theorem RdRB.mono {B B' : Nat} {w : World} {v : Value} {l : List (List Int)} (h : RdRB B w v l) (hB : B' ≤ B) : RdRB B' w v l := by
  obtain ⟨ad, cap, e, h1, h2, hc⟩ := h
  refine ⟨ad, cap, e, h1, h2, fun k x hk => ?_⟩
  obtain ⟨b, off, u, e1, e2, e3, e4, ad', cap', f, f1, f2, fc⟩ := hc k x hk
  exact ⟨b, off, u, e1, e2, Nat.le_trans hB e3, e4, ad', cap', f, f1, f2, fun j y hj => by obtain ⟨b', off', g1, g2, g3, g4⟩ := fc j y hj; exact ⟨b', off', g1, g2, Nat.le_trans hB g3, g4⟩⟩
theorem RdRB.below {B : Nat} {w w' : World} {v : Value} {l : List (List Int)} (h : RdRB B w v l) (hb : Below w.heap.size w w') : RdRB B w' v l := by
  obtain ⟨ad, cap, e, h1, h2, hc⟩ := h
  refine ⟨ad, cap, e, h1, h2, fun k x hk => ?_⟩
  obtain ⟨b, off, u, e1, e2, e3, e4, ad', cap', f, f1, f2, fc⟩ := hc k x hk
  exact ⟨b, off, u, e1, Nat.lt_of_lt_of_le e2 hb.size, e3, carry hb e4, ad', cap', f, f1, f2, fun j y hj => by obtain ⟨b', off', g1, g2, g3, g4⟩ := fc j y hj; exact ⟨b', off', g1, Nat.lt_of_lt_of_le g2 hb.size, g3, carry hb g4⟩⟩
/-- rows in blocks from B on stand when a block before is written -/
theorem RdRB.setc {B : Nat} {w : World} {v : Value} {l : List (List Int)} (h : RdRB B w v l) {g : Nat} (hg : g < B) (k : Nat) (x : Value) : RdRB B (w.setCell ⟨g, k, none⟩ x) v l := by
  obtain ⟨ad, cap, e, h1, h2, hc⟩ := h
  refine ⟨ad, cap, e, h1, h2, fun k' r hk => ?_⟩
  obtain ⟨b, off, u, e1, e2, e3, e4, e5⟩ := hc k' r hk
  obtain ⟨ad', cap', f, f1, f2, fc⟩ := e5
  refine ⟨b, off, u, e1, by simpa using e2, e3, by rw [World.cell?_setCell_far _ _ _ _ (by dsimp only; omega)]; exact e4, ad', cap', f, f1, f2, fun j y hj => ?_⟩
  obtain ⟨b', off', g1, g2, g3, g4⟩ := fc j y hj
  exact ⟨b', off', g1, by simpa using g2, g3, by rw [World.cell?_setCell_far _ _ _ _ (by dsimp only; omega)]; exact g4⟩
theorem ways_ok (r x d : Nat) (l : List E) (s : Value) (w : World) (hv : Valid (r : Int) 0 l) (hr : Rd3 w s l) (hf : FitT l) (hx : x < r) (hd : d < r) (ho : 0 ≤ T l (x : Int) (d : Int)) :
    Calls Try.prog 39 #[.agg #[.int .i64 (r : Int), .int .i64 0, s], .int .i64 (x : Int), .int .i64 (d : Int)] w fun e w' => ∃ v p, e = .returned v ∧ RdI w' v p ∧ ((∀ y ∈ p, On l (x : Int) (d : Int) y) ∧ (d : Int) ∈ p) ∧ Below w.heap.size w w' := by
  have hS := hv.s
  have hI : I64 (r : Int) := by unfold I64; omega
  have hI0 : I64 (0 : Int) := by unfold I64; omega
  have HRun : Hid (∀ (u : Nat) W, u < r → Below w.heap.size w W → Calls Try.prog 56 #[.agg #[.int .i64 (r : Int), .int .i64 0, s], .int .i64 (u : Int)] W fun e w' => ∃ q0 dv pv ha hc hops, e = .returned (.tuple #[.agg #[q0, dv, .slice ha r hc, pv], .int .i64 0]) ∧ (∃ z, q0 = .int .i64 z) ∧ (∃ a1 n1 c1 a2 n2 c2, dv = .slice a1 n1 c1 ∧ pv = .slice a2 n2 c2) ∧ RdRB W.heap.size w' (.slice ha r hc) hops ∧ hops.length = r ∧ RowI (Hop (r : Int) l (u : Int) (d : Int)) (gL hops d) ∧ Below W.heap.size W w') := fun u W hu hW => by
    refine (rrun_own (r : Int) 0 l s u r W hI hI0 (hr.below hW) hf (chk_iff.2 hv) (by omega) (by omega)).mono ?_
    rintro e w' ⟨t, tv, rfl, ht, hroot, htr, hb, q0, q1, q2, q3, rfl, hrb⟩
    obtain ⟨d1, h1, p1, he, r1, r2, r3⟩ := ht
    cases he
    obtain ⟨a1, c1, rfl⟩ := r1.form
    obtain ⟨a2, c2, hf2⟩ := r2.form
    obtain ⟨a3, c3, rfl⟩ := r3.form
    rw [htr.lh] at hf2
    subst hf2
    exact ⟨_, _, _, _, _, t.hops, rfl, ⟨_, rfl⟩, ⟨_, _, _, _, _, _, rfl, rfl⟩, hrb, htr.lh, htr.h d hd, hb⟩
  have HV := Lib.hid hv
  have HWL : Hid (∀ (i : Nat) (p : List Int), WyI (r : Int) l (x : Int) (d : Int) i p → p.length ≤ r) := fun i p h => h.len hv rfl ⟨by omega, by omega⟩
  have HWN : Hid (∀ (i : Nat) (p : List Int), WyI (r : Int) l (x : Int) (d : Int) i p → ∀ y ∈ p, ∃ n : Nat, y = (n : Int) ∧ n < r) := fun i p h y hy => by
    have := h.num hv ⟨by omega, by omega⟩ y hy
    exact ⟨y.toNat, by omega, by omega⟩
  have HWF : Hid (∀ (p : List Int), WyI (r : Int) l (x : Int) (d : Int) p.length p → (∀ y ∈ p, On l (x : Int) (d : Int) y) ∧ (d : Int) ∈ p) := fun p h => ⟨h.sub, h.fin hv ⟨by omega, by omega⟩⟩
  have HOH : Hid (∀ (u h : Int), On l (x : Int) (d : Int) u → Hop (r : Int) l u (d : Int) h → On l (x : Int) (d : Int) h) := fun u h h1 h2 => On.hop hv h1 h2
  have HI0 : Hid (WyI (r : Int) l (x : Int) (d : Int) 0 [(x : Int)]) := WyI.start ho (On.start hv ho)
  have hr8 : r ≤ 128 := by omega
  obtain ⟨i0, hi, hz0, hz1, hz2⟩ := info_parts info3
  obtain ⟨ad, cap, hform⟩ := rd3_slice hr
  obtain ⟨L, hL⟩ : ∃ L, l.length = L := ⟨_, rfl⟩
  rw [hL] at hform
  subst hform
  have HB0 := Lib.hid (below_alloc w (.cells #[.int .i64 (r : Int), .int .i64 0, .slice ad L cap] 27))
  have HX0 : Hid ((w.alloc (.cells #[.int .i64 (r : Int), .int .i64 0, .slice ad L cap] 27)).heap[w.heap.size]? = some (.cells #[.int .i64 (r : Int), .int .i64 0, .slice ad L cap] 27 (0, 0))) := heap_alloc_new _ _
  clear hr hL hv hS hI hI0 hf ho
  go_enter Try.func39, Try.ntmps39
  go_wp2_with fail
  generalize hY : (w.alloc (.cells #[.int .i64 (r : Int), .int .i64 0, .slice ad L cap] 27)) = Y at *
  have hYs : Y.heap.size = w.heap.size + 1 := by rw [← hY]; simp
  have HS0 : Hid (InsS Y (.slice (some ⟨w.heap.size + 1, 0, none⟩) 1 1) [(x : Int)] (Y.alloc (.cells #[.int .i64 (x : Int)] 3))) := by rw [← hYs]; exact ⟨⟨rfl, .inr ⟨Y.heap.size, 1, _, rfl, Nat.le_refl _, heap_new1 _ _ rfl, Nat.le_refl _, by decide, rfl, rfl⟩⟩, below_alloc _ _⟩
  have HGY : Hid (∀ W, Below Y.heap.size Y W → W.cell? ⟨w.heap.size, 0, none⟩ = some (.int .i64 (r : Int)) ∧ W.cell? ⟨w.heap.size, 1, none⟩ = some (.int .i64 0) ∧ W.cell? ⟨w.heap.size, 2, none⟩ = some (.slice ad L cap)) := fun W hW => ⟨carry hW (cell_of HX0.out rfl), carry hW (cell_of HX0.out rfl), carry hW (cell_of HX0.out rfl)⟩
  clear hY hYs HX0
  go_loopg [7, 8, 9, 10, 12, 36] r (fun g s7 s8 s9 s10 s12 s36 wr => ∃ (i : Nat) (p : List Int) (v7 : Value), i ≤ p.length ∧ r - i ≤ g ∧ v7 = s7 ∧ s8 = .int .i64 (i : Int) ∧ (∃ q, q = s9) ∧ (∃ q, q = s10) ∧ (∃ q, q = s12) ∧ (∃ q, q = s36) ∧ Hid (WyI (r : Int) l (x : Int) (d : Int) i p) ∧ Hid (InsS Y v7 p wr))
  case atStart => exact ⟨0, [(x : Int)], _, Nat.zero_le _, by omega, rfl, rfl, ⟨_, rfl⟩, ⟨_, rfl⟩, ⟨_, rfl⟩, ⟨_, rfl⟩, HI0, HS0⟩
  case round =>
    clear HS0 HI0
    obtain ⟨i, p, v7, hip, hg, rfl, rfl, ⟨u9, rfl⟩, ⟨u10', rfl⟩, ⟨u12, rfl⟩, ⟨u36, rfl⟩, HI, HS⟩ := hrel
    obtain ⟨n, hn⟩ : ∃ n, p.length = n := ⟨_, rfl⟩
    have hnr : n ≤ r := by rw [← hn]; exact HWL.out _ _ HI.out
    rw [hn] at hip
    by_cases hin : i < n
    · have k0 : (0 : Int) ≤ (i : Int) := by omega
      have k1 : (i : Int) < (n : Int) := by omega
      obtain ⟨vb, vo, vc, rfl, hvc, hvb, hvx⟩ := RdI.cells'' (rdI_own HS.out.1) hn (by omega)
      obtain ⟨y, hy⟩ : ∃ y, p[i]? = some y := ⟨_, List.getElem?_eq_getElem (by omega)⟩
      obtain ⟨u, rfl, hu⟩ := HWN.out _ _ HI.out y (List.mem_of_getElem? hy)
      have hcu := hvx _ _ hy
      have HY := Lib.hid hy
      have HN := Lib.hid hn
      have HSS : Hid (∀ W, Below wr.heap.size wr W → W.cell? ⟨w.heap.size, 0, none⟩ = some (.int .i64 (r : Int)) ∧ W.cell? ⟨w.heap.size, 1, none⟩ = some (.int .i64 0) ∧ W.cell? ⟨w.heap.size, 2, none⟩ = some (.slice ad L cap) ∧ W.cell? ⟨vb, vo + i, none⟩ = some (.int .i64 (u : Int)) ∧ Below wr.heap.size wr W) := fun W hW => by
        obtain ⟨h1, h2, h3⟩ := HGY.out W (below_then HS.out.2 hW)
        exact ⟨h1, h2, h3, carry hW hcu, hW⟩
      clear hvx hy hcu hn
      go_upto_region 5 with (fail)
      refine reg_mono (fun a a' W => ∃ (tb : Nat) (ha : Option Addr) (hc : Nat) (hops : List (List Int)) (u22 u23 u24 u25 u26 u27 u21 u28 u29 v10 : Value), a' = (((((((((((a.put (some 22) u22).put (some 23) u23).put (some 24) u24).put (some 25) u25).put (some 26) u26).put (some 27) u27).put (some 21) u21).put (some 28) u28).put (some 29) u29).put (some 9) (.pointer (some ⟨tb, 0, none⟩))).put (some 10) v10) ∧ Hid (W.cell? ⟨tb, 2, none⟩ = some (.slice ha r hc) ∧ RdRB wr.heap.size W (.slice ha r hc) hops ∧ hops.length = r ∧ RowI (Hop (r : Int) l (u : Int) (d : Int)) (gL hops d) ∧ Below wr.heap.size wr W)) ?_ ?_
      · refine wp_region_held_drew (S := fun W => W.cell? ⟨w.heap.size, 0, none⟩ = some (.int .i64 (r : Int)) ∧ W.cell? ⟨w.heap.size, 1, none⟩ = some (.int .i64 0) ∧ W.cell? ⟨w.heap.size, 2, none⟩ = some (.slice ad L cap) ∧ W.cell? ⟨vb, vo + i, none⟩ = some (.int .i64 (u : Int)) ∧ Below wr.heap.size wr W) (by kernel_rfl) (HSS.out _ (Below.refl _ wr).drew) (fun hS0 => ?_)
        refine wpAnyH_take (i := 0) (oi := ⟨some 22, _, _, _, _, _⟩) (v := .agg #[.int .i64 (r : Int), .int .i64 0, .slice ad L cap]) rfl (by kernel_rfl) (by kernel_rfl) (by kernel_rfl) (fun _ _ _ h => Exit.noConfusion h.1) (Or.inl ⟨by rfl, by intro w' hw'; obtain ⟨hw1, hw2, hw3, hw4, hw5⟩ := hw'; go_simp⟩) hS0 ?_
        simp only [Act.put, List.setIfInBounds_toArray, List.set_cons_zero, List.set_cons_succ]
        refine wpAnyH_take (i := 1) (oi := ⟨some 23, _, _, _, _, _⟩) (v := .slice (some ⟨vb, vo, none⟩) n vc) rfl (by kernel_rfl) (by kernel_rfl) (by kernel_rfl) (fun _ _ _ h => Exit.noConfusion h.1) (Or.inl ⟨by rfl, by intro w' hw'; obtain ⟨hw1, hw2, hw3, hw4, hw5⟩ := hw'; go_simp⟩) hS0 ?_
        simp only [Act.put, List.setIfInBounds_toArray, List.set_cons_zero, List.set_cons_succ]
        refine wpAnyH_take (i := 2) (oi := ⟨some 24, _, _, _, _, _⟩) (v := .int .i64 (i : Int)) rfl (by kernel_rfl) (by kernel_rfl) (by kernel_rfl) (fun _ _ _ h => Exit.noConfusion h.1) (Or.inl ⟨by rfl, by intro w' hw'; obtain ⟨hw1, hw2, hw3, hw4, hw5⟩ := hw'; go_simp⟩) hS0 ?_
        simp only [Act.put, List.setIfInBounds_toArray, List.set_cons_zero, List.set_cons_succ]
        refine wpAnyH_take (i := 3) (oi := ⟨some 25, _, _, _, _, _⟩) (v := .pointer (some ⟨vb, vo + i, none⟩)) rfl (by kernel_rfl) (by kernel_rfl) (by kernel_rfl) (fun _ _ _ h => Exit.noConfusion h.1) (Or.inl ⟨by rfl, by intro w' hw'; obtain ⟨hw1, hw2, hw3, hw4, hw5⟩ := hw'; go_simp⟩) hS0 ?_
        simp only [Act.put, List.setIfInBounds_toArray, List.set_cons_zero, List.set_cons_succ]
        refine wpAnyH_take (i := 4) (oi := ⟨some 26, _, _, _, _, _⟩) (v := .int .i64 (u : Int)) rfl (by kernel_rfl) (by kernel_rfl) (by kernel_rfl) (fun _ _ _ h => Exit.noConfusion h.1) (Or.inl ⟨by rfl, by intro w' hw'; obtain ⟨hw1, hw2, hw3, hw4, hw5⟩ := hw'; go_simp⟩) hS0 ?_
        simp only [Act.put, List.setIfInBounds_toArray, List.set_cons_zero, List.set_cons_succ]
        refine wpAnyH_ready (rs := [5, 9]) (by kernel_rfl) (by simp) ?_
        refine (AllReadyH.cons rfl (fun K hK => ?_) (AllReadyH.cons rfl (fun K hK => ?_) AllReadyH.nil))
        · go_simp
          go_at_call 56
          refine (HRun.out u wr.drew hu (below_then (below_then HB0.out HS.out.2) (Below.refl _ wr).drew)).mono ?_
          rintro e w5 ⟨q0, dv, pv, ha, hc, hops, rfl, ⟨z0, rfl⟩, ⟨a1, n1, c1, a2, n2, c2, rfl, rfl⟩, hrb, hhl, hrow, hb⟩
          have HB5 : Hid (Below wr.heap.size wr w5) := below_then (Below.refl _ wr).drew hb
          have hS1 := HSS.out _ HB5.out
          (try go_wp2_with fail)
          refine hK.out _ _ hS1 (fun _ => ?_)
          clear hK K
          (try simp only [Act.put, List.setIfInBounds_toArray, List.set_cons_zero, List.set_cons_succ])
          refine wpAnyH_take (i := 6) (oi := ⟨some 21, _, _, _, _, _⟩) (v := .tuple #[.agg #[.int .i64 z0, .slice a1 n1 c1, .slice ha r hc, .slice a2 n2 c2], .int .i64 0]) rfl (by kernel_rfl) (by kernel_rfl) (by kernel_rfl) (fun _ _ _ h => Exit.noConfusion h.1) (Or.inl ⟨by rfl, by intro w' hw'; obtain ⟨hw1, hw2, hw3, hw4, hw5⟩ := hw'; go_simp⟩) hS1 ?_
          simp only [Act.put, List.setIfInBounds_toArray, List.set_cons_zero, List.set_cons_succ]
          refine wpAnyH_take (i := 7) (oi := ⟨some 28, _, _, _, _, _⟩) (v := .agg #[.int .i64 z0, .slice a1 n1 c1, .slice ha r hc, .slice a2 n2 c2]) rfl (by kernel_rfl) (by kernel_rfl) (by kernel_rfl) (fun _ _ _ h => Exit.noConfusion h.1) (Or.inl ⟨by rfl, by intro w' hw'; obtain ⟨hw1, hw2, hw3, hw4, hw5⟩ := hw'; go_simp⟩) hS1 ?_
          simp only [Act.put, List.setIfInBounds_toArray, List.set_cons_zero, List.set_cons_succ]
          refine wpAnyH_take (i := 8) (oi := ⟨some 29, _, _, _, _, _⟩) (v := .int .i64 0) rfl (by kernel_rfl) (by kernel_rfl) (by kernel_rfl) (fun _ _ _ h => Exit.noConfusion h.1) (Or.inl ⟨by rfl, by intro w' hw'; obtain ⟨hw1, hw2, hw3, hw4, hw5⟩ := hw'; go_simp⟩) hS1 ?_
          simp only [Act.put, List.setIfInBounds_toArray, List.set_cons_zero, List.set_cons_succ]
          refine wpAnyH_ready (rs := [9]) (by kernel_rfl) (by simp) ?_
          refine AllReadyH.cons rfl (fun K hK => ?_) AllReadyH.nil
          have hS2 := HSS.out (w5.alloc (.cells #[.int .i64 0, .slice none 0 0, .slice none 0 0, .slice none 0 0] 74)) (below_then HB5.out (below_alloc _ _))
          go_simp
          (try go_wp2_with fail)
          refine hK.out _ _ hS2 (fun _ => ?_)
          clear hK K
          (try simp only [Act.put, List.setIfInBounds_toArray, List.set_cons_zero, List.set_cons_succ])
          refine wpAnyH_ready (rs := [10]) (by kernel_rfl) (by simp) ?_
          refine AllReadyH.cons rfl (fun K hK => ?_) AllReadyH.nil
          go_simp
          (try go_wp2_with fail)
          refine hK.out _ _ (HSS.out _ ?_) (fun _ => ?_)
          · exact below_then HB5.out (below_alloc _ _)
          clear hK K
          (try simp only [Act.put, List.setIfInBounds_toArray, List.set_cons_zero, List.set_cons_succ])
          refine wpAnyH_take (i := 11) (oi := ⟨some 10, _, _, _, _, _⟩) (v := .int .i64 0) rfl (by kernel_rfl) (by kernel_rfl) (by kernel_rfl) (fun _ _ _ h => Exit.noConfusion h.1) (Or.inl ⟨by rfl, by intro w' hw'; obtain ⟨hw1, hw2, hw3, hw4, hw5⟩ := hw'; go_simp⟩) (HSS.out _ (below_then HB5.out (below_alloc _ _))) ?_
          simp only [Act.put, List.setIfInBounds_toArray, List.set_cons_zero, List.set_cons_succ]
          refine wpAnyH_done (by kernel_rfl) ?_ _
          refine ⟨rfl, w5.heap.size, ha, hc, hops, .agg #[.int .i64 (r : Int), .int .i64 0, .slice ad L cap], .slice (some ⟨vb, vo, none⟩) n vc, .int .i64 (i : Int), .pointer (some ⟨vb, vo + i, none⟩), .int .i64 (u : Int), .tuple #[.agg #[.int .i64 z0, .slice a1 n1 c1, .slice ha r hc, .slice a2 n2 c2], .int .i64 0], .tuple #[.agg #[.int .i64 z0, .slice a1 n1 c1, .slice ha r hc, .slice a2 n2 c2], .int .i64 0], .agg #[.int .i64 z0, .slice a1 n1 c1, .slice ha r hc, .slice a2 n2 c2], .int .i64 0, .int .i64 0, ?_, ?_⟩
          · simp only [Act.put, List.setIfInBounds_toArray, List.set_cons_zero, List.set_cons_succ]
          · exact ⟨cell_of (heap_alloc_new _ _) rfl, RdRB.below hrb (below_alloc _ _), hhl, hrow, below_then HB5.out (below_alloc _ _)⟩
        · have hS1 := HSS.out (wr.drew.alloc (.cells #[.int .i64 0, .slice none 0 0, .slice none 0 0, .slice none 0 0] 74)) (below_then (Below.refl _ wr).drew (below_alloc _ _))
          go_simp
          (try go_wp2_with fail)
          refine hK.out _ _ hS1 (fun _ => ?_)
          clear hK K
          (try simp only [Act.put, List.setIfInBounds_toArray, List.set_cons_zero, List.set_cons_succ])
          refine wpAnyH_ready (rs := [5]) (by kernel_rfl) (by simp) ?_
          refine AllReadyH.cons rfl (fun K hK => ?_) AllReadyH.nil
          go_simp
          go_at_call 56
          refine (HRun.out u (wr.drew.alloc (.cells #[.int .i64 0, .slice none 0 0, .slice none 0 0, .slice none 0 0] 74)) hu (below_then (below_then HB0.out HS.out.2) (below_then (Below.refl _ wr).drew (below_alloc _ _)))).mono ?_
          rintro e w5 ⟨q0, dv, pv, ha, hc, hops, rfl, ⟨z0, rfl⟩, ⟨a1, n1, c1, a2, n2, c2, rfl, rfl⟩, hrb, hhl, hrow, hb⟩
          have HB5 : Hid (Below wr.heap.size wr w5) := below_then (below_then (Below.refl _ wr).drew (below_alloc _ _)) hb
          have hS3 := HSS.out _ HB5.out
          (try go_wp2_with fail)
          refine hK.out _ _ hS3 (fun _ => ?_)
          clear hK K
          (try simp only [Act.put, List.setIfInBounds_toArray, List.set_cons_zero, List.set_cons_succ])
          refine wpAnyH_take (i := 6) (oi := ⟨some 21, _, _, _, _, _⟩) (v := .tuple #[.agg #[.int .i64 z0, .slice a1 n1 c1, .slice ha r hc, .slice a2 n2 c2], .int .i64 0]) rfl (by kernel_rfl) (by kernel_rfl) (by kernel_rfl) (fun _ _ _ h => Exit.noConfusion h.1) (Or.inl ⟨by rfl, by intro w' hw'; obtain ⟨hw1, hw2, hw3, hw4, hw5⟩ := hw'; go_simp⟩) hS3 ?_
          simp only [Act.put, List.setIfInBounds_toArray, List.set_cons_zero, List.set_cons_succ]
          refine wpAnyH_take (i := 7) (oi := ⟨some 28, _, _, _, _, _⟩) (v := .agg #[.int .i64 z0, .slice a1 n1 c1, .slice ha r hc, .slice a2 n2 c2]) rfl (by kernel_rfl) (by kernel_rfl) (by kernel_rfl) (fun _ _ _ h => Exit.noConfusion h.1) (Or.inl ⟨by rfl, by intro w' hw'; obtain ⟨hw1, hw2, hw3, hw4, hw5⟩ := hw'; go_simp⟩) hS3 ?_
          simp only [Act.put, List.setIfInBounds_toArray, List.set_cons_zero, List.set_cons_succ]
          refine wpAnyH_take (i := 8) (oi := ⟨some 29, _, _, _, _, _⟩) (v := .int .i64 0) rfl (by kernel_rfl) (by kernel_rfl) (by kernel_rfl) (fun _ _ _ h => Exit.noConfusion h.1) (Or.inl ⟨by rfl, by intro w' hw'; obtain ⟨hw1, hw2, hw3, hw4, hw5⟩ := hw'; go_simp⟩) hS3 ?_
          simp only [Act.put, List.setIfInBounds_toArray, List.set_cons_zero, List.set_cons_succ]
          have hz5 := (hb.block _ (lt_block (heap_alloc_new wr.drew (.cells #[.int .i64 0, .slice none 0 0, .slice none 0 0, .slice none 0 0] 74)))).trans (heap_alloc_new wr.drew (.cells #[.int .i64 0, .slice none 0 0, .slice none 0 0, .slice none 0 0] 74))
          have z0x : w5.cell? ⟨wr.heap.size, 0, none⟩ = some (.int .i64 0) := cell_of (g := wr.heap.size) hz5 rfl
          have f0x : w5.frozen? ⟨wr.heap.size, 0, none⟩ = false := free_of (g := wr.heap.size) hz5 _
          have z1x : w5.cell? ⟨wr.heap.size, 1, none⟩ = some (.slice none 0 0) := cell_of (g := wr.heap.size) hz5 rfl
          have f1x : w5.frozen? ⟨wr.heap.size, 1, none⟩ = false := free_of (g := wr.heap.size) hz5 _
          have z2x : w5.cell? ⟨wr.heap.size, 2, none⟩ = some (.slice none 0 0) := cell_of (g := wr.heap.size) hz5 rfl
          have f2x : w5.frozen? ⟨wr.heap.size, 2, none⟩ = false := free_of (g := wr.heap.size) hz5 _
          have z3x : w5.cell? ⟨wr.heap.size, 3, none⟩ = some (.slice none 0 0) := cell_of (g := wr.heap.size) hz5 rfl
          have f3x : w5.frozen? ⟨wr.heap.size, 3, none⟩ = false := free_of (g := wr.heap.size) hz5 _
          refine wpAnyH_ready (rs := [10]) (by kernel_rfl) (by simp) ?_
          refine AllReadyH.cons rfl (fun K hK => ?_) AllReadyH.nil
          go_simp
          (try go_wp2_with fail)
          refine hK.out _ _ (HSS.out _ ?_) (fun _ => ?_)
          · exact set4_below HB5.out (Nat.le_refl _) _ _ _ _
          clear hK K
          (try simp only [Act.put, List.setIfInBounds_toArray, List.set_cons_zero, List.set_cons_succ])
          refine wpAnyH_take (i := 11) (oi := ⟨some 10, _, _, _, _, _⟩) (v := .int .i64 0) rfl (by kernel_rfl) (by kernel_rfl) (by kernel_rfl) (fun _ _ _ h => Exit.noConfusion h.1) (Or.inl ⟨by rfl, by intro w' hw'; obtain ⟨hw1, hw2, hw3, hw4, hw5⟩ := hw'; go_simp⟩) (HSS.out _ (set4_below HB5.out (Nat.le_refl _) _ _ _ _)) ?_
          simp only [Act.put, List.setIfInBounds_toArray, List.set_cons_zero, List.set_cons_succ]
          refine wpAnyH_done (by kernel_rfl) ?_ _
          refine ⟨rfl, wr.heap.size, ha, hc, hops, .agg #[.int .i64 (r : Int), .int .i64 0, .slice ad L cap], .slice (some ⟨vb, vo, none⟩) n vc, .int .i64 (i : Int), .pointer (some ⟨vb, vo + i, none⟩), .int .i64 (u : Int), .tuple #[.agg #[.int .i64 z0, .slice a1 n1 c1, .slice ha r hc, .slice a2 n2 c2], .int .i64 0], .tuple #[.agg #[.int .i64 z0, .slice a1 n1 c1, .slice ha r hc, .slice a2 n2 c2], .int .i64 0], .agg #[.int .i64 z0, .slice a1 n1 c1, .slice ha r hc, .slice a2 n2 c2], .int .i64 0, .int .i64 0, ?_, ?_⟩
          · simp only [Act.put, List.setIfInBounds_toArray, List.set_cons_zero, List.set_cons_succ]
          · exact ⟨cell_of (set4 hz5 _ _ _ _) rfl, (((((hrb.setc (g := wr.heap.size) (by simp) 0 _).setc (g := wr.heap.size) (by simp) 1 _).setc (g := wr.heap.size) (by simp) 2 _).setc (g := wr.heap.size) (by simp) 3 _)).mono (by simp), hhl, hrow, set4_below HB5.out (Nat.le_refl _) _ _ _ _⟩
      · rintro _ W ⟨tb, ha, hc, hops, u22, u23, u24, u25, u26, u27, u21, u28, u29, v10, rfl, HTW⟩
        simp only [Act.put, List.setIfInBounds_toArray, List.set_cons_zero, List.set_cons_succ]
        obtain ⟨c30, hrr, hhl, hrow, hbw⟩ := HTW.out
        have hgr : hops[d]? = some (gL hops d) := gL_get (by rw [hhl]; exact hd)
        obtain ⟨xa, xc, hxe, hx1, hx2, hxr⟩ := hrr
        rw [hhl] at hxe hx1
        cases hxe
        obtain ⟨rb, ro, rv, hre, hrb, hrb2, hrc, ra, rcap, rfl, rc1, rc2, hri⟩ := hxr d _ hgr
        subst hre
        have HSW : Hid (InsS Y (.slice (some ⟨vb, vo, none⟩) n vc) p W) := ⟨row_below HS.out.1 hbw, below_then HS.out.2 hbw⟩
        have HROW := Lib.hid hrow
        generalize gL hops d = row at *
        obtain ⟨m, hm⟩ : ∃ m, row.length = m := ⟨_, rfl⟩
        rw [hm] at hrc rc1
        have HM := Lib.hid hm
        have HRI := Lib.hid hri
        have HVB : Hid (vb < wr.heap.size) := hvb
        have HI1 := Lib.hid HI.out
        have HQ0 : Hid (p[i]? = some (u : Int) ∧ n ≤ p.length) := ⟨HY.out, Nat.le_of_eq HN.out.symm⟩
        have HJ0 : Hid (∀ (j : Nat) (y : Int), j < 0 → row[j]? = some y → y ∈ p) := fun j y h => absurd h (by omega)
        have HK0 : Hid (Kp [vb] W W) := Kp.refl _ _
        have HO0 : Hid (∀ g, (Value.slice (some ⟨vb, vo, none⟩) n vc).ownBlock = some g → g = vb ∨ W.heap.size ≤ g) := fun g h => by cases h; exact .inl rfl
        clear HTW hgr hxr hm hri hrow HI HS HSS hvb hbw HY HN
        go_wp2_with fail
        go_loopg [7, 12, 36] m (fun g s7 s12 s36 wr => ∃ (k : Nat) (q : List Int) (v7 : Value), k ≤ m ∧ m - k ≤ g ∧ v7 = s7 ∧ (∃ z, z = s12) ∧ s36 = .int .i64 (k : Int) ∧ Hid (WyI (r : Int) l (x : Int) (d : Int) i q) ∧ Hid (q[i]? = some (u : Int) ∧ n ≤ q.length) ∧ Hid (∀ (j : Nat) (y : Int), j < k → row[j]? = some y → y ∈ q) ∧ Hid (InsS Y v7 q wr) ∧ Hid (Kp [vb] W wr) ∧ Hid (∀ g, v7.ownBlock = some g → g = vb ∨ W.heap.size ≤ g))
        case atStart => exact ⟨0, p, _, Nat.zero_le _, Nat.le_refl _, rfl, ⟨_, rfl⟩, rfl, HI1, HQ0, HJ0, HSW, HK0, HO0⟩
        case round =>
          clear HI1 HQ0 HJ0 HSW HK0 HO0
          obtain ⟨k, q, v7, hk, hkg, rfl, ⟨u12', rfl⟩, rfl, HI, HQ, HJ, HS, HK, HOB⟩ := hrel
          have HQL : Hid (q.length ≤ 128) := Nat.le_trans (HWL.out _ _ HI.out) hr8
          by_cases hkm : k < m
          · have k2 : (0 : Int) ≤ (k : Int) := by omega
            have k3 : (k : Int) < (m : Int) := by omega
            obtain ⟨y, hy⟩ : ∃ y, row[k]? = some y := ⟨_, List.getElem?_eq_getElem (by have := HM.out; omega)⟩
            have hop := (HROW.out.2 y).1 (List.mem_of_getElem? hy)
            have hon := HOH.out u y (HI.out.sub _ (List.mem_of_getElem? HQ.out.1)) hop
            have hyn := Hop.node' HV.out (s := (u : Int)) ⟨by omega, by omega⟩ hop
            have hud := ((hop0 HV.out).1 hop).1
            obtain ⟨h, rfl⟩ : ∃ h : Nat, y = (h : Int) := ⟨y.toNat, by omega⟩
            have hne : ((u : Int) != (d : Int)) = true := by simp; omega
            obtain ⟨gb, go', rfl, hgl, hgB, hgc⟩ := HRI.out k _ hy
            have cy : wr.cell? ⟨gb, go' + k, none⟩ = some (.int .i64 (h : Int)) := HK.out.carry (by have := HVB.out; simp; omega) hgc
            obtain ⟨nq, hnq⟩ : ∃ nq, q.length = nq := ⟨_, rfl⟩
            have hnn := HQ.out.2
            obtain ⟨b2, o2, c2', rfl, hc2, hb2, hqx⟩ := RdI.cells'' (rdI_own HS.out.1) hnq (by omega)
            have cu := hqx _ _ HQ.out.1
            have i2 : (0 : Int) ≤ (i : Int) := by omega
            have i3 : (i : Int) < (nq : Int) := by omega
            have hrdq := rdI_own HS.out.1
            have HHAS := Lib.hid (rhasq_any q _ (h : Int) wr hrdq)
            have HY2 := Lib.hid hy
            have HON := Lib.hid hon
            have HQQ : Hid (i < q.length) := by show _ < _; omega
            clear hqx hrdq hgc hy hon hop hyn hud
            go_wp2_with fail
            go_at_call 40
            refine HHAS.out.mono ?_
            rintro e w6 ⟨rfl, rfl⟩
            clear HHAS
            by_cases hmem : (h : Int) ∈ q
            · have hdm : decide ((h : Int) ∈ q) = true := decide_eq_true hmem
              rw [hdm]
              have HJ2 : Hid (∀ (j : Nat) (y : Int), j < k + 1 → row[j]? = some y → y ∈ q) := fun j y hj hy => by
                by_cases e : j = k
                · subst e; have := HY2.out; rw [this] at hy; cases hy; exact hmem
                · exact HJ.out j y (by omega) hy
              clear hdm hmem
              go_wp2_with fail
              go_roundg (m - (k + 1))
              case measure => omega
              case rel => exact ⟨k + 1, q, _, by omega, Nat.le_refl _, rfl, ⟨_, rfl⟩, by go_num, HI, HQ, HJ2, HS, HK, HOB⟩
            · have hdm : decide ((h : Int) ∈ q) = false := decide_eq_false hmem
              rw [hdm]
              have HI2 : Hid (WyI (r : Int) l (x : Int) (d : Int) i (q ++ [(h : Int)])) := HI.out.push (Nat.le_of_lt HQQ.out) HON.out hmem
              have HQ2 : Hid ((q ++ [(h : Int)])[i]? = some (u : Int) ∧ n ≤ (q ++ [(h : Int)]).length) := ⟨by rw [List.getElem?_append_left HQQ.out]; exact HQ.out.1, by have := HQ.out.2; rw [List.length_append]; omega⟩
              have HJ2 : Hid (∀ (j : Nat) (y : Int), j < k + 1 → row[j]? = some y → y ∈ q ++ [(h : Int)]) := fun j y hj hy => by
                by_cases e : j = k
                · subst e; have := HY2.out; rw [this] at hy; cases hy; simp
                · exact List.mem_append_left _ (HJ.out j y (by omega) hy)
              clear hdm hmem cu
              generalize (Value.slice (some ⟨b2, o2, none⟩) nq c2') = v7 at *
              go_wp2_with (at_builtin; refine wpList_append_own_at _ rfl (.tmp 52) (.tmp 54) 35 rfl Y.heap.size 3 i0 (.int .i64 0) 1 8 Try.underlying35 hi hz0 hz1 hz2 rfl (by decide) v7 q.length (ints q) rfl (row_below HS.out.1 (below_alloc _ _)) ⟨w6.heap.size, 0, none⟩ 1 1 [.int .i64 (h : Int)] rfl rfl (cellI_new _ _ _ rfl) (one_int _) (by have := HQL.out; unfold maxLen; omega) (by have := HQL.out; omega) (by have := HS.out.2.size; simp; omega) ?_; intro v1 w7 hown hgrow hnil hob; have S2 := Lib.hid (HS.out.push (h : Int) _ hown hgrow); have K2 := Lib.hid ((HK.out.alloc _).grown hgrow (fun g hg => by rcases HOB.out g hg with rfl | h; exact .inl (by simp); exact .inr h)); have O2 : Hid (∀ g, v1.ownBlock = some g → g = vb ∨ W.heap.size ≤ g) := (fun g hg => by rcases hob with e | e; exact HOB.out g (e ▸ hg); rw [e] at hg; cases hg; exact .inr (by have := HK.out.size; simp; omega)); clear hown hgrow hnil hob)
              go_roundg (m - (k + 1))
              case measure => omega
              case rel => exact ⟨k + 1, q ++ [(h : Int)], _, by omega, Nat.le_refl _, rfl, ⟨_, rfl⟩, by go_num, HI2, HQ2, HJ2, S2, K2, O2⟩
          · have k3 : decide ((k : Int) < (m : Int)) = false := decide_eq_false (by omega)
            have HI2 : Hid (WyI (r : Int) l (x : Int) (d : Int) (i + 1) q) := HI.out.next HQ.out.1 (fun _ h hh => by
              obtain ⟨j, hj⟩ := List.getElem?_of_mem ((HROW.out.2 h).2 hh)
              exact HJ.out j h (by have := (List.getElem?_eq_some_iff.1 hj).1; have := HM.out; omega) hj)
            have HLQ : Hid (i + 1 ≤ q.length) := by have := HQ.out.2; show _ ≤ _; omega
            clear HI HQ HJ HK HOB
            go_wp2_with fail
            go_roundg (r - (i + 1))
            case measure => omega
            case rel => exact ⟨i + 1, q, _, HLQ.out, Nat.le_refl _, rfl, by go_num, ⟨_, rfl⟩, ⟨_, rfl⟩, ⟨_, rfl⟩, ⟨_, rfl⟩, HI2, HS⟩
    · have k1 : decide ((i : Int) < (n : Int)) = false := decide_eq_false (by omega)
      have HIN : Hid (i = p.length) := by show _ = _; omega
      have HF := HWF.out p (by have := HI.out; rw [HIN.out] at this; exact this)
      have HFF := Lib.hid HF
      obtain ⟨va, vc, hvf⟩ := (rdI_own HS.out.1).form
      subst hvf
      rw [hn] at HS ⊢
      have HE := Lib.hid (And.intro (rdI_own HS.out.1) (below_then HB0.out HS.out.2))
      clear HF HIN
      go_wp2_with fail
      go_ret
      exact ⟨_, p, rfl, HE.out.1, HFF.out, HE.out.2⟩
end Go.Proofs.Ytmbogobebllheaa
