/-
  The walk of the reference's Walk.
-/
import Derived.Test.YtmbogobebllheaaLfM1
import Derived.Test.YtmbogobebllheaaMy
import Derived.Test.YtmbogobebllheaaMrr
namespace Go.Proofs.Ytmbogobebllheaa
open Go.RowKit HM GM SP Go.Lib
set_option linter.unusedSimpArgs false
set_option linter.unusedVariables false
set_option maxHeartbeats 4000000
set_option maxRecDepth 100000
theorem rwk_ok (r x d : Nat) (l : List E) (s : Value) (a b : Int) (w : World) (hv : Valid (r : Int) 0 l) (hr : Rd3 w s l) (hf : FitT l) (hx : x < r) (hd : d < r) (hro : roE (r : Int) 0 l = 0) :
    Calls Try.prog 36 #[.agg #[.int .i64 (r : Int), .int .i64 0, s], .int .i64 (x : Int), .int .i64 (d : Int), .int .i64 a, .int .i64 b] w fun e w' => ∃ p ok v, e = .returned (.tuple #[v, .bool ok]) ∧ RdI w' v p ∧ Wk (r : Int) l (d : Int) a b (x : Int) p ok ∧ Below w.heap.size w w' := by
  have hS := hv.s
  have hI : I64 (r : Int) := by unfold I64; omega
  have hI0 : I64 (0 : Int) := by unfold I64; omega
  have HRO : Hid (∀ W, Below w.heap.size w W → Calls Try.prog 70 #[.agg #[.int .i64 (r : Int), .int .i64 0, s]] W fun e w' => e = .returned (.int .i64 0) ∧ Below W.heap.size W w') := fun W hW => by
    have := rro_any (r : Int) 0 l s W hI hI0 (hr.below hW) hf
    rwa [hro] at this
  have HRun : Hid (∀ (u : Nat) W, u < r → Below w.heap.size w W → Calls Try.prog 56 #[.agg #[.int .i64 (r : Int), .int .i64 0, s], .int .i64 (u : Int)] W fun e w' => ∃ dv pv ha hc hops, e = .returned (.tuple #[.agg #[.int .i64 (u : Int), dv, .slice ha r hc, pv], .int .i64 0]) ∧ (∃ a1 n1 c1 a2 n2 c2, dv = .slice a1 n1 c1 ∧ pv = .slice a2 n2 c2) ∧ RdR w' (.slice ha r hc) hops ∧ hops.length = r ∧ ((gL hops d).Pairwise (· < ·) ∧ ∀ h, h ∈ gL hops d ↔ Hop (r : Int) l (u : Int) (d : Int) h) ∧ Below W.heap.size W w') := fun u W hu hW => by
    refine (rrun_good (r : Int) 0 l s u r W hI hI0 (hr.below hW) hf (chk_iff.2 hv) (by omega) (by omega)).mono ?_
    rintro e w' ⟨t, tv, rfl, ht, hroot, htr, hb⟩
    obtain ⟨d1, h1, p1, rfl, r1, r2, r3⟩ := ht
    obtain ⟨a1, c1, rfl⟩ := r1.form
    obtain ⟨a2, c2, hf2⟩ := r2.form
    obtain ⟨a3, c3, rfl⟩ := r3.form
    rw [htr.lh] at hf2
    subst hf2
    rw [hroot]
    exact ⟨_, _, _, _, t.hops, rfl, ⟨_, _, _, _, _, _, rfl, rfl⟩, r2, htr.lh, ⟨(htr.h d hd).1, fun h => (htr.h d hd).2 h⟩, hb⟩
  have HV := Lib.hid hv
  have hr8 : r ≤ 128 := by omega
  obtain ⟨i0, hi, hz0, hz1, hz2⟩ := info_parts info3
  have x0 : (0 : Int) ≤ (x : Int) := by omega
  have x1 : (x : Int) < (r : Int) := by omega
  have d0 : (0 : Int) ≤ (d : Int) := by omega
  have d1 : (d : Int) < (r : Int) := by omega
  have e1 : decide ((x : Int) < 0) = false := by simp
  have e2 : decide (r ≤ x) = false := by simp; omega
  have e3 : decide ((d : Int) < 0) = false := by simp
  have e4 : decide (r ≤ d) = false := by simp; omega
  have e5 : decide ((r : Int) ≤ (x : Int)) = false := by simp; omega
  have e6 : decide ((r : Int) ≤ (d : Int)) = false := by simp; omega
  obtain ⟨ad, cap, hform⟩ := rd3_slice hr
  obtain ⟨L, hL⟩ : ∃ L, l.length = L := ⟨_, rfl⟩
  rw [hL] at hform
  subst hform
  have HB0 := Lib.hid (below_alloc w (.cells #[.int .i64 (r : Int), .int .i64 0, .slice ad L cap] 27))
  have HX0 : Hid ((w.alloc (.cells #[.int .i64 (r : Int), .int .i64 0, .slice ad L cap] 27)).heap[w.heap.size]? = some (.cells #[.int .i64 (r : Int), .int .i64 0, .slice ad L cap] 27 (0, 0))) := heap_alloc_new _ _
  clear hr hL hv hS hI hI0 hro hf
  go_enter Try.func36, Try.ntmps36
  go_wp2_with fail
  go_at_call 70
  refine (HRO.out _ HB0.out).mono ?_
  rintro e w1 ⟨rfl, hb⟩
  have HB1 := Lib.hid (below_then HB0.out hb)
  have HX1 := Lib.hid ((hb.block _ (lt_block HX0.out)).trans HX0.out)
  have q0 : w1.cell? ⟨w.heap.size, 0, none⟩ = some (.int .i64 (r : Int)) := cell_of HX1.out rfl
  have q1 : w1.cell? ⟨w.heap.size, 1, none⟩ = some (.int .i64 0) := cell_of HX1.out rfl
  have q2 : w1.cell? ⟨w.heap.size, 2, none⟩ = some (.slice ad L cap) := cell_of HX1.out rfl
  clear hb HRO HB0 HX0
  go_wp2_with fail
  have HS0 : Hid (InsS w1 (.slice (some ⟨w1.heap.size, 0, none⟩) 1 1) ([] ++ [(x : Int)]) (w1.alloc (.cells #[.int .i64 (x : Int)] 3))) := ⟨⟨rfl, .inr ⟨w1.heap.size, 1, _, rfl, Nat.le_refl _, heap_new1 _ _ rfl, Nat.le_refl _, by decide, rfl, rfl⟩⟩, below_alloc _ _⟩
  obtain ⟨A, hA⟩ : ∃ A, A = a := ⟨_, rfl⟩
  obtain ⟨B, hB⟩ : ∃ B, B = b := ⟨_, rfl⟩
  have HAB := Lib.hid (And.intro hA hB)
  have HW0 : Hid (∀ p ok, Wk (r : Int) l (d : Int) A B (x : Int) p ok → Wk (r : Int) l (d : Int) A B (x : Int) ([] ++ p) ok) := fun p ok h => h
  have HK0 : Hid (([] : List Int).length + (T l (x : Int) (d : Int)).toNat ≤ 65535 * 129) := by have := T_bound HV.out hx hd; show _ ≤ _; simp; omega
  clear hA hB q0 q1 q2
  go_loopg [12, 13, 14, 15, 16] ((T l (x : Int) (d : Int)).toNat) (fun g s12 s13 s14 s15 s16 wr => ∃ (u : Nat) (pre : List Int) (v12 : Value), u < r ∧ (T l (u : Int) (d : Int)).toNat ≤ g ∧ v12 = s12 ∧ s13 = .int .i64 (u : Int) ∧ (∃ q, q = s14) ∧ (∃ q, q = s15) ∧ (∃ q, q = s16) ∧ Hid (∀ p ok, Wk (r : Int) l (d : Int) A B (u : Int) p ok → Wk (r : Int) l (d : Int) A B (x : Int) (pre ++ p) ok) ∧ Hid (pre.length + (T l (u : Int) (d : Int)).toNat ≤ 65535 * 129) ∧ Hid (InsS w1 v12 (pre ++ [(u : Int)]) wr))
  case atStart => exact ⟨x, [], _, hx, Nat.le_refl _, rfl, rfl, ⟨_, rfl⟩, ⟨_, rfl⟩, ⟨_, rfl⟩, HW0, HK0, HS0⟩
  case round =>
    clear HS0 HW0 HK0
    obtain ⟨u, pre, v12, hu, hg, rfl, rfl, ⟨u14, rfl⟩, ⟨u15, rfl⟩, ⟨u16, rfl⟩, HW, HLn, HS⟩ := hrel
    have u0 : (0 : Int) ≤ (u : Int) := by omega
    have u1 : (u : Int) < (r : Int) := by omega
    by_cases hud : u = d
    · subst hud
      have HF := Lib.hid (HW.out _ _ (Wk.here))
      have HBF := Lib.hid (below_then HB1.out HS.out.2)
      have hne : ((u : Int) != (u : Int)) = false := by simp
      go_wp2_with fail
      go_ret2
      exact ⟨pre ++ [(u : Int)], true, _, rfl, rdI_own HS.out.1, (by have h := HF.out; rw [HAB.out.1, HAB.out.2] at h; exact h), HBF.out⟩
    · have hne : ((u : Int) != (d : Int)) = true := by simp; omega
      have HUD := Lib.hid (show (u : Int) ≠ (d : Int) by omega)
      have q0 : wr.cell? ⟨w.heap.size, 0, none⟩ = some (.int .i64 (r : Int)) := carry HS.out.2 (cell_of HX1.out rfl)
      have q1 : wr.cell? ⟨w.heap.size, 1, none⟩ = some (.int .i64 0) := carry HS.out.2 (cell_of HX1.out rfl)
      have q2 : wr.cell? ⟨w.heap.size, 2, none⟩ = some (.slice ad L cap) := carry HS.out.2 (cell_of HX1.out rfl)
      go_wp2_with fail
      go_at_call 56
      refine (HRun.out u _ hu (below_then HB1.out HS.out.2)).mono ?_
      rintro e w5 ⟨dv, pv, ha, hc, hops, rfl, ⟨a1, n1, c1, a2, n2, c2, rfl, rfl⟩, hrr, hhl, ⟨hpw, hiff⟩, hb⟩
      have HS5 : Hid (InsS w1 v12 (pre ++ [(u : Int)]) w5) := ⟨row_below HS.out.1 hb, below_then HS.out.2 hb⟩
      have hgr : hops[d]? = some (gL hops d) := gL_get (by rw [hhl]; exact hd)
      obtain ⟨xa, xc, hxe, hx1, hx2, hxr⟩ := hrr
      rw [hhl] at hxe hx1
      cases hxe
      obtain ⟨rb, ro, rv, hre, hrb, hrc, hri⟩ := hxr d _ hgr
      obtain ⟨ra, rcap, rfl⟩ := hri.form
      subst hre
      have HRC := Lib.hid hrc
      have HRI := Lib.hid hri
      clear hb q0 q1 q2 HS hrc hri hxr hgr
      generalize hgl : gL hops d = row at *
      have HPW := Lib.hid hpw
      have HIF := Lib.hid hiff
      clear hpw hiff hgl
      go_upto_region 7 with (fail)
      have HT6 : Hid ((w5.alloc (.cells #[.int .i64 (u : Int), .slice a1 n1 c1, .slice (some ⟨rb, ro, none⟩) r hc, .slice a2 n2 c2] 74)).heap[w5.heap.size]? = some (.cells #[.int .i64 (u : Int), .slice a1 n1 c1, .slice (some ⟨rb, ro, none⟩) r hc, .slice a2 n2 c2] 74 (0, 0))) := heap_alloc_new _ _
      have HB6 := Lib.hid (below_alloc w5 (.cells #[.int .i64 (u : Int), .slice a1 n1 c1, .slice (some ⟨rb, ro, none⟩) r hc, .slice a2 n2 c2] 74))
      generalize (w5.alloc (.cells #[.int .i64 (u : Int), .slice a1 n1 c1, .slice (some ⟨rb, ro, none⟩) r hc, .slice a2 n2 c2] 74)) = X6 at *
      have HS : Hid (InsS w1 v12 (pre ++ [(u : Int)]) X6) := ⟨row_below HS5.out.1 HB6.out, below_then HS5.out.2 HB6.out⟩
      have k6 : X6.cell? ⟨w5.heap.size, 2, none⟩ = some (.slice (some ⟨rb, ro, none⟩) r hc) := cell_of HT6.out rfl
      have krow : X6.cell? ⟨rb, ro + d, none⟩ = some (.slice ra row.length rcap) := carry HB6.out HRC.out
      clear HS5 HRC HT6
      cases hrow0 : row with
      | nil =>
        subst hrow0
        have HF := Lib.hid (HW.out _ _ (Wk.none HUD.out (fun h hh => by have := (HIF.out h).2 hh; cases this)))
        have HBF := Lib.hid (below_then HB1.out HS.out.2)
        simp only [List.length_nil] at krow
        go_wp2_with fail
        go_ret2
        exact ⟨pre ++ [(u : Int)], false, _, rfl, rdI_own HS.out.1, (by have h := HF.out; rw [HAB.out.1, HAB.out.2] at h; exact h), HBF.out⟩
      | cons y t =>
        have hl0 : LeastH (r : Int) l (u : Int) (d : Int) y := row_least (P := fun h => Hop (r : Int) l (u : Int) (d : Int) h) ⟨HPW.out, HIF.out⟩ (by rw [hrow0]; rfl)
        have hnear := hop_near HV.out hl0.1
        obtain ⟨_, c, hce, _⟩ := (hop0 HV.out).1 hl0.1
        have hed := edge HV.out hce
        obtain ⟨h, rfl⟩ : ∃ h : Nat, y = (h : Int) := ⟨y.toNat, by omega⟩
        have hh : h < r := by omega
        have hhu : h ≠ u := by omega
        have HLH := Lib.hid hl0
        obtain ⟨n, hn⟩ : ∃ n, (h :: t : List Int).length = n := ⟨_, rfl⟩
        subst hrow0
        obtain ⟨gb, go', gc, hge, hgc, hgb, hgx⟩ := RdI.cells'' HRI.out hn (by rw [← hn]; simp)
        rw [hn] at krow hge
        cases hge
        have ky : X6.cell? ⟨gb, go', none⟩ = some (.int .i64 (h : Int)) := carry HB6.out (by have := hgx 0 _ rfl; simpa using this)
        have np : (0 : Int) < (n : Int) := by simp at hn; omega
        have np2 : ((n : Int) == 0) = false := by simp; omega
        have HK2 : Hid ((pre ++ [(u : Int)]).length + (T l (h : Int) (d : Int)).toNat ≤ 65535 * 129) := by have := HLn.out; show _ ≤ _; simp; omega
        clear hgx hl0 hce hed hn HPW HIF hud HRI HB6
        by_cases ha : a = (u : Int)
        · subst ha
          by_cases hb : b = (h : Int)
          · subst hb
            have HOL : Hid (OnLink (u : Int) (h : Int) (u : Int) (h : Int)) := .inl ⟨rfl, rfl⟩
            have HF := Lib.hid (HW.out _ _ (Wk.cut HUD.out HLH.out (by rw [HAB.out.1, HAB.out.2]; exact HOL.out)))
            have HBF := Lib.hid (below_then HB1.out HS.out.2)
            go_wp2
            go_ret2
            exact ⟨pre ++ [(u : Int)], false, _, rfl, rdI_own HS.out.1, (by have h := HF.out; rw [HAB.out.1, HAB.out.2] at h; exact h), HBF.out⟩
          · have c1 : ((h : Int) == b) = false := by simp; omega
            have c2 : ((h : Int) == (u : Int)) = false := by simp; omega
            have HOL : Hid (¬ OnLink (u : Int) b (u : Int) (h : Int)) := fun k => k.elim (fun k => hb k.2.symm) (fun k => hhu (by omega))
            by_cases hb2 : b = (u : Int)
            · subst hb2
              have HW2 : Hid (∀ p ok, Wk r l d A B h p ok → Wk r l d A B x ((pre ++ [(u : Int)]) ++ p) ok) := fun p ok hw => by have := HW.out _ _ (Wk.go HUD.out HLH.out (by rw [HAB.out.1, HAB.out.2]; exact HOL.out) hw); rw [List.append_assoc]; exact this
              go_wp2_with (at_builtin; refine wpList_append_own _ rfl (.tmp 86) (.tmp 88) 35 rfl w1.heap.size 3 i0 (.int .i64 0) 1 8 Try.underlying35 hi hz0 hz1 hz2 rfl (by decide) v12 (pre ++ [(u : Int)]).length (ints (pre ++ [(u : Int)])) rfl (row_below HS.out.1 (below_alloc _ _)) ⟨X6.heap.size, 0, none⟩ 1 1 [.int .i64 (h : Int)] rfl rfl (cellI_new _ _ _ rfl) (one_int _) (by have := HLn.out; rw [List.length_append]; unfold maxLen; simp; omega) (by have := HLn.out; rw [List.length_append]; simp; omega) (by have := HS.out.2.size; simp; omega) ?_; intro v1 w7 hown hgrow hnil; have S2 := Lib.hid (HS.out.push (h : Int) _ hown hgrow); clear hown hgrow hnil)
              go_roundg ((T l (h : Int) (d : Int)).toNat)
              case measure => omega
              case rel => exact ⟨h, pre ++ [(u : Int)], _, hh, Nat.le_refl _, rfl, rfl, ⟨_, rfl⟩, ⟨_, rfl⟩, ⟨_, rfl⟩, HW2, HK2, S2⟩
            · have c3 : ((u : Int) == b) = false := by simp; omega
              have HW2 : Hid (∀ p ok, Wk r l d A B h p ok → Wk r l d A B x ((pre ++ [(u : Int)]) ++ p) ok) := fun p ok hw => by have := HW.out _ _ (Wk.go HUD.out HLH.out (by rw [HAB.out.1, HAB.out.2]; exact HOL.out) hw); rw [List.append_assoc]; exact this
              go_wp2_with (at_builtin; refine wpList_append_own _ rfl (.tmp 86) (.tmp 88) 35 rfl w1.heap.size 3 i0 (.int .i64 0) 1 8 Try.underlying35 hi hz0 hz1 hz2 rfl (by decide) v12 (pre ++ [(u : Int)]).length (ints (pre ++ [(u : Int)])) rfl (row_below HS.out.1 (below_alloc _ _)) ⟨X6.heap.size, 0, none⟩ 1 1 [.int .i64 (h : Int)] rfl rfl (cellI_new _ _ _ rfl) (one_int _) (by have := HLn.out; rw [List.length_append]; unfold maxLen; simp; omega) (by have := HLn.out; rw [List.length_append]; simp; omega) (by have := HS.out.2.size; simp; omega) ?_; intro v1 w7 hown hgrow hnil; have S2 := Lib.hid (HS.out.push (h : Int) _ hown hgrow); clear hown hgrow hnil)
              go_roundg ((T l (h : Int) (d : Int)).toNat)
              case measure => omega
              case rel => exact ⟨h, pre ++ [(u : Int)], _, hh, Nat.le_refl _, rfl, rfl, ⟨_, rfl⟩, ⟨_, rfl⟩, ⟨_, rfl⟩, HW2, HK2, S2⟩
        · have c1 : ((u : Int) == a) = false := by simp; omega
          by_cases hb : b = (u : Int)
          · subst hb
            by_cases ha2 : a = (h : Int)
            · subst ha2
              have HOL : Hid (OnLink (h : Int) (u : Int) (u : Int) (h : Int)) := .inr ⟨rfl, rfl⟩
              have HF := Lib.hid (HW.out _ _ (Wk.cut HUD.out HLH.out (by rw [HAB.out.1, HAB.out.2]; exact HOL.out)))
              have HBF := Lib.hid (below_then HB1.out HS.out.2)
              go_wp2
              go_ret2
              exact ⟨pre ++ [(u : Int)], false, _, rfl, rdI_own HS.out.1, (by have h := HF.out; rw [HAB.out.1, HAB.out.2] at h; exact h), HBF.out⟩
            · have c2 : ((h : Int) == a) = false := by simp; omega
              have HOL : Hid (¬ OnLink a (u : Int) (u : Int) (h : Int)) := fun k => k.elim (fun k => ha k.1.symm) (fun k => ha2 k.2.symm)
              have HW2 : Hid (∀ p ok, Wk r l d A B h p ok → Wk r l d A B x ((pre ++ [(u : Int)]) ++ p) ok) := fun p ok hw => by have := HW.out _ _ (Wk.go HUD.out HLH.out (by rw [HAB.out.1, HAB.out.2]; exact HOL.out) hw); rw [List.append_assoc]; exact this
              go_wp2_with (at_builtin; refine wpList_append_own _ rfl (.tmp 86) (.tmp 88) 35 rfl w1.heap.size 3 i0 (.int .i64 0) 1 8 Try.underlying35 hi hz0 hz1 hz2 rfl (by decide) v12 (pre ++ [(u : Int)]).length (ints (pre ++ [(u : Int)])) rfl (row_below HS.out.1 (below_alloc _ _)) ⟨X6.heap.size, 0, none⟩ 1 1 [.int .i64 (h : Int)] rfl rfl (cellI_new _ _ _ rfl) (one_int _) (by have := HLn.out; rw [List.length_append]; unfold maxLen; simp; omega) (by have := HLn.out; rw [List.length_append]; simp; omega) (by have := HS.out.2.size; simp; omega) ?_; intro v1 w7 hown hgrow hnil; have S2 := Lib.hid (HS.out.push (h : Int) _ hown hgrow); clear hown hgrow hnil)
              go_roundg ((T l (h : Int) (d : Int)).toNat)
              case measure => omega
              case rel => exact ⟨h, pre ++ [(u : Int)], _, hh, Nat.le_refl _, rfl, rfl, ⟨_, rfl⟩, ⟨_, rfl⟩, ⟨_, rfl⟩, HW2, HK2, S2⟩
          · have c2 : ((u : Int) == b) = false := by simp; omega
            have HOL : Hid (¬ OnLink a b (u : Int) (h : Int)) := fun k => k.elim (fun k => ha k.1.symm) (fun k => hb k.1.symm)
            have HW2 : Hid (∀ p ok, Wk r l d A B h p ok → Wk r l d A B x ((pre ++ [(u : Int)]) ++ p) ok) := fun p ok hw => by have := HW.out _ _ (Wk.go HUD.out HLH.out (by rw [HAB.out.1, HAB.out.2]; exact HOL.out) hw); rw [List.append_assoc]; exact this
            go_wp2_with (at_builtin; refine wpList_append_own _ rfl (.tmp 86) (.tmp 88) 35 rfl w1.heap.size 3 i0 (.int .i64 0) 1 8 Try.underlying35 hi hz0 hz1 hz2 rfl (by decide) v12 (pre ++ [(u : Int)]).length (ints (pre ++ [(u : Int)])) rfl (row_below HS.out.1 (below_alloc _ _)) ⟨X6.heap.size, 0, none⟩ 1 1 [.int .i64 (h : Int)] rfl rfl (cellI_new _ _ _ rfl) (one_int _) (by have := HLn.out; rw [List.length_append]; unfold maxLen; simp; omega) (by have := HLn.out; rw [List.length_append]; simp; omega) (by have := HS.out.2.size; simp; omega) ?_; intro v1 w7 hown hgrow hnil; have S2 := Lib.hid (HS.out.push (h : Int) _ hown hgrow); clear hown hgrow hnil)
            go_roundg ((T l (h : Int) (d : Int)).toNat)
            case measure => omega
            case rel => exact ⟨h, pre ++ [(u : Int)], _, hh, Nat.le_refl _, rfl, rfl, ⟨_, rfl⟩, ⟨_, rfl⟩, ⟨_, rfl⟩, HW2, HK2, S2⟩
theorem rwk_e1 (R N : Int) (l : List E) (s : Value) (x d a b : Int) (w : World) (hR : I64 R) (hN : I64 N) (hr : Rd3 w s l) (hf : FitT l) (h : roE R N l ≠ 0) :
    Calls Try.prog 36 #[.agg #[.int .i64 R, .int .i64 N, s], .int .i64 x, .int .i64 d, .int .i64 a, .int .i64 b] w fun e w' => e = .returned (.tuple #[.slice none 0 0, .bool false]) ∧ Below w.heap.size w w' := by
  have HRO : Hid (∀ W, Below w.heap.size w W → Calls Try.prog 70 #[.agg #[.int .i64 R, .int .i64 N, s]] W fun e w' => e = .returned (.int .i64 (roE R N l)) ∧ Below W.heap.size W w') := fun W hW => rro_any R N l s W hR hN (hr.below hW) hf
  obtain ⟨ad, cap, hform⟩ := rd3_slice hr
  obtain ⟨L, hL⟩ : ∃ L, l.length = L := ⟨_, rfl⟩
  rw [hL] at hform
  subst hform
  have HB0 := Lib.hid (below_alloc w (.cells #[.int .i64 R, .int .i64 N, .slice ad L cap] 27))
  have HX0 : Hid ((w.alloc (.cells #[.int .i64 R, .int .i64 N, .slice ad L cap] 27)).heap[w.heap.size]? = some (.cells #[.int .i64 R, .int .i64 N, .slice ad L cap] 27 (0, 0))) := heap_alloc_new _ _
  generalize roE R N l = er at *
  have hb0 : (er != 0) = true := by simpa using h
  clear hr hL hf h
  go_enter Try.func36, Try.ntmps36
  go_wp2_with fail
  go_at_call 70
  refine (HRO.out _ HB0.out).mono ?_
  rintro e w1 ⟨rfl, hb⟩
  have HB1 := Lib.hid (below_then HB0.out hb)
  have HX1 := Lib.hid ((hb.block _ (lt_block HX0.out)).trans HX0.out)
  have q0 : w1.cell? ⟨w.heap.size, 0, none⟩ = some (.int .i64 R) := cell_of HX1.out rfl
  have q1 : w1.cell? ⟨w.heap.size, 1, none⟩ = some (.int .i64 N) := cell_of HX1.out rfl
  have q2 : w1.cell? ⟨w.heap.size, 2, none⟩ = some (.slice ad L cap) := cell_of HX1.out rfl
  clear hb HRO HB0 HX0
  go_wp2
  go_ret2
  exact ⟨rfl, HB1.out⟩
theorem rwk_e2 (R N : Int) (l : List E) (s : Value) (x d a b : Int) (w : World) (hR : I64 R) (hN : I64 N) (hr : Rd3 w s l) (hf : FitT l) (h : roE R N l = 0) (h1 : x < 0) :
    Calls Try.prog 36 #[.agg #[.int .i64 R, .int .i64 N, s], .int .i64 x, .int .i64 d, .int .i64 a, .int .i64 b] w fun e w' => e = .returned (.tuple #[.slice none 0 0, .bool false]) ∧ Below w.heap.size w w' := by
  have HRO : Hid (∀ W, Below w.heap.size w W → Calls Try.prog 70 #[.agg #[.int .i64 R, .int .i64 N, s]] W fun e w' => e = .returned (.int .i64 (roE R N l)) ∧ Below W.heap.size W w') := fun W hW => rro_any R N l s W hR hN (hr.below hW) hf
  obtain ⟨ad, cap, hform⟩ := rd3_slice hr
  obtain ⟨L, hL⟩ : ∃ L, l.length = L := ⟨_, rfl⟩
  rw [hL] at hform
  subst hform
  have HB0 := Lib.hid (below_alloc w (.cells #[.int .i64 R, .int .i64 N, .slice ad L cap] 27))
  have HX0 : Hid ((w.alloc (.cells #[.int .i64 R, .int .i64 N, .slice ad L cap] 27)).heap[w.heap.size]? = some (.cells #[.int .i64 R, .int .i64 N, .slice ad L cap] 27 (0, 0))) := heap_alloc_new _ _
  rw [h] at HRO
  have f1 : decide (x < 0) = true := by simp; omega
  clear hr hL hf h
  go_enter Try.func36, Try.ntmps36
  go_wp2_with fail
  go_at_call 70
  refine (HRO.out _ HB0.out).mono ?_
  rintro e w1 ⟨rfl, hb⟩
  have HB1 := Lib.hid (below_then HB0.out hb)
  have HX1 := Lib.hid ((hb.block _ (lt_block HX0.out)).trans HX0.out)
  have q0 : w1.cell? ⟨w.heap.size, 0, none⟩ = some (.int .i64 R) := cell_of HX1.out rfl
  have q1 : w1.cell? ⟨w.heap.size, 1, none⟩ = some (.int .i64 N) := cell_of HX1.out rfl
  have q2 : w1.cell? ⟨w.heap.size, 2, none⟩ = some (.slice ad L cap) := cell_of HX1.out rfl
  clear hb HRO HB0 HX0
  go_wp2
  go_ret2
  exact ⟨rfl, HB1.out⟩
theorem rwk_e3 (R N : Int) (l : List E) (s : Value) (x d a b : Int) (w : World) (hR : I64 R) (hN : I64 N) (hr : Rd3 w s l) (hf : FitT l) (h : roE R N l = 0) (h1 : 0 ≤ x) (h2 : R ≤ x) :
    Calls Try.prog 36 #[.agg #[.int .i64 R, .int .i64 N, s], .int .i64 x, .int .i64 d, .int .i64 a, .int .i64 b] w fun e w' => e = .returned (.tuple #[.slice none 0 0, .bool false]) ∧ Below w.heap.size w w' := by
  have HRO : Hid (∀ W, Below w.heap.size w W → Calls Try.prog 70 #[.agg #[.int .i64 R, .int .i64 N, s]] W fun e w' => e = .returned (.int .i64 (roE R N l)) ∧ Below W.heap.size W w') := fun W hW => rro_any R N l s W hR hN (hr.below hW) hf
  obtain ⟨ad, cap, hform⟩ := rd3_slice hr
  obtain ⟨L, hL⟩ : ∃ L, l.length = L := ⟨_, rfl⟩
  rw [hL] at hform
  subst hform
  have HB0 := Lib.hid (below_alloc w (.cells #[.int .i64 R, .int .i64 N, .slice ad L cap] 27))
  have HX0 : Hid ((w.alloc (.cells #[.int .i64 R, .int .i64 N, .slice ad L cap] 27)).heap[w.heap.size]? = some (.cells #[.int .i64 R, .int .i64 N, .slice ad L cap] 27 (0, 0))) := heap_alloc_new _ _
  rw [h] at HRO
  have f1 : decide (x < 0) = false := by simp; omega
  have f2 : decide (R ≤ x) = true := by simp; omega
  clear hr hL hf h
  go_enter Try.func36, Try.ntmps36
  go_wp2_with fail
  go_at_call 70
  refine (HRO.out _ HB0.out).mono ?_
  rintro e w1 ⟨rfl, hb⟩
  have HB1 := Lib.hid (below_then HB0.out hb)
  have HX1 := Lib.hid ((hb.block _ (lt_block HX0.out)).trans HX0.out)
  have q0 : w1.cell? ⟨w.heap.size, 0, none⟩ = some (.int .i64 R) := cell_of HX1.out rfl
  have q1 : w1.cell? ⟨w.heap.size, 1, none⟩ = some (.int .i64 N) := cell_of HX1.out rfl
  have q2 : w1.cell? ⟨w.heap.size, 2, none⟩ = some (.slice ad L cap) := cell_of HX1.out rfl
  clear hb HRO HB0 HX0
  go_wp2
  go_ret2
  exact ⟨rfl, HB1.out⟩
theorem rwk_e4 (R N : Int) (l : List E) (s : Value) (x d a b : Int) (w : World) (hR : I64 R) (hN : I64 N) (hr : Rd3 w s l) (hf : FitT l) (h : roE R N l = 0) (h1 : 0 ≤ x) (h2 : x < R) (h3 : d < 0) :
    Calls Try.prog 36 #[.agg #[.int .i64 R, .int .i64 N, s], .int .i64 x, .int .i64 d, .int .i64 a, .int .i64 b] w fun e w' => e = .returned (.tuple #[.slice none 0 0, .bool false]) ∧ Below w.heap.size w w' := by
  have HRO : Hid (∀ W, Below w.heap.size w W → Calls Try.prog 70 #[.agg #[.int .i64 R, .int .i64 N, s]] W fun e w' => e = .returned (.int .i64 (roE R N l)) ∧ Below W.heap.size W w') := fun W hW => rro_any R N l s W hR hN (hr.below hW) hf
  obtain ⟨ad, cap, hform⟩ := rd3_slice hr
  obtain ⟨L, hL⟩ : ∃ L, l.length = L := ⟨_, rfl⟩
  rw [hL] at hform
  subst hform
  have HB0 := Lib.hid (below_alloc w (.cells #[.int .i64 R, .int .i64 N, .slice ad L cap] 27))
  have HX0 : Hid ((w.alloc (.cells #[.int .i64 R, .int .i64 N, .slice ad L cap] 27)).heap[w.heap.size]? = some (.cells #[.int .i64 R, .int .i64 N, .slice ad L cap] 27 (0, 0))) := heap_alloc_new _ _
  rw [h] at HRO
  have f1 : decide (x < 0) = false := by simp; omega
  have f2 : decide (R ≤ x) = false := by simp; omega
  have f3 : decide (d < 0) = true := by simp; omega
  clear hr hL hf h
  go_enter Try.func36, Try.ntmps36
  go_wp2_with fail
  go_at_call 70
  refine (HRO.out _ HB0.out).mono ?_
  rintro e w1 ⟨rfl, hb⟩
  have HB1 := Lib.hid (below_then HB0.out hb)
  have HX1 := Lib.hid ((hb.block _ (lt_block HX0.out)).trans HX0.out)
  have q0 : w1.cell? ⟨w.heap.size, 0, none⟩ = some (.int .i64 R) := cell_of HX1.out rfl
  have q1 : w1.cell? ⟨w.heap.size, 1, none⟩ = some (.int .i64 N) := cell_of HX1.out rfl
  have q2 : w1.cell? ⟨w.heap.size, 2, none⟩ = some (.slice ad L cap) := cell_of HX1.out rfl
  clear hb HRO HB0 HX0
  go_wp2
  go_ret2
  exact ⟨rfl, HB1.out⟩
theorem rwk_e5 (R N : Int) (l : List E) (s : Value) (x d a b : Int) (w : World) (hR : I64 R) (hN : I64 N) (hr : Rd3 w s l) (hf : FitT l) (h : roE R N l = 0) (h1 : 0 ≤ x) (h2 : x < R) (h3 : 0 ≤ d) (h4 : R ≤ d) :
    Calls Try.prog 36 #[.agg #[.int .i64 R, .int .i64 N, s], .int .i64 x, .int .i64 d, .int .i64 a, .int .i64 b] w fun e w' => e = .returned (.tuple #[.slice none 0 0, .bool false]) ∧ Below w.heap.size w w' := by
  have HRO : Hid (∀ W, Below w.heap.size w W → Calls Try.prog 70 #[.agg #[.int .i64 R, .int .i64 N, s]] W fun e w' => e = .returned (.int .i64 (roE R N l)) ∧ Below W.heap.size W w') := fun W hW => rro_any R N l s W hR hN (hr.below hW) hf
  obtain ⟨ad, cap, hform⟩ := rd3_slice hr
  obtain ⟨L, hL⟩ : ∃ L, l.length = L := ⟨_, rfl⟩
  rw [hL] at hform
  subst hform
  have HB0 := Lib.hid (below_alloc w (.cells #[.int .i64 R, .int .i64 N, .slice ad L cap] 27))
  have HX0 : Hid ((w.alloc (.cells #[.int .i64 R, .int .i64 N, .slice ad L cap] 27)).heap[w.heap.size]? = some (.cells #[.int .i64 R, .int .i64 N, .slice ad L cap] 27 (0, 0))) := heap_alloc_new _ _
  rw [h] at HRO
  have f1 : decide (x < 0) = false := by simp; omega
  have f2 : decide (R ≤ x) = false := by simp; omega
  have f3 : decide (d < 0) = false := by simp; omega
  have f4 : decide (R ≤ d) = true := by simp; omega
  clear hr hL hf h
  go_enter Try.func36, Try.ntmps36
  go_wp2_with fail
  go_at_call 70
  refine (HRO.out _ HB0.out).mono ?_
  rintro e w1 ⟨rfl, hb⟩
  have HB1 := Lib.hid (below_then HB0.out hb)
  have HX1 := Lib.hid ((hb.block _ (lt_block HX0.out)).trans HX0.out)
  have q0 : w1.cell? ⟨w.heap.size, 0, none⟩ = some (.int .i64 R) := cell_of HX1.out rfl
  have q1 : w1.cell? ⟨w.heap.size, 1, none⟩ = some (.int .i64 N) := cell_of HX1.out rfl
  have q2 : w1.cell? ⟨w.heap.size, 2, none⟩ = some (.slice ad L cap) := cell_of HX1.out rfl
  clear hb HRO HB0 HX0
  go_wp2
  go_ret2
  exact ⟨rfl, HB1.out⟩
theorem rwk_any (R N : Int) (l : List E) (s : Value) (x d a b : Int) (w : World) (hR : I64 R) (hN : I64 N) (hr : Rd3 w s l) (hf : FitT l) :
    Calls Try.prog 36 #[.agg #[.int .i64 R, .int .i64 N, s], .int .i64 x, .int .i64 d, .int .i64 a, .int .i64 b] w (WkQ R N l x d a b w) := by
  have key : ∀ h : ¬ (roE R N l = 0 ∧ (0 ≤ x ∧ x < R) ∧ (0 ≤ d ∧ d < R)), ∀ e w', (e = Ending.returned (.tuple #[.slice none 0 0, .bool false]) ∧ Below w.heap.size w w') → WkQ R N l x d a b w e w' := by
    rintro h e w' ⟨rfl, hb⟩
    exact ⟨[], false, _, rfl, rdI_nil _, .inl ⟨h, rfl, rfl⟩, hb⟩
  by_cases h1 : roE R N l = 0
  · by_cases h2 : x < 0
    · exact (rwk_e2 R N l s x d a b w hR hN hr hf h1 h2).mono (key (fun k => by omega))
    · by_cases h3 : R ≤ x
      · exact (rwk_e3 R N l s x d a b w hR hN hr hf h1 (by omega) h3).mono (key (fun k => by omega))
      · by_cases h4 : d < 0
        · exact (rwk_e4 R N l s x d a b w hR hN hr hf h1 (by omega) (by omega) h4).mono (key (fun k => by omega))
        · by_cases h5 : R ≤ d
          · exact (rwk_e5 R N l s x d a b w hR hN hr hf h1 (by omega) (by omega) (by omega) h5).mono (key (fun k => by omega))
          · obtain ⟨hc, rfl⟩ := roE_ok h1
            obtain ⟨r, rfl⟩ : ∃ r : Nat, R = (r : Int) := ⟨R.toNat, by omega⟩
            obtain ⟨x, rfl⟩ : ∃ a : Nat, x = (a : Int) := ⟨x.toNat, by omega⟩
            obtain ⟨d, rfl⟩ : ∃ a : Nat, d = (a : Int) := ⟨d.toNat, by omega⟩
            refine (rwk_ok r x d l s a b w (chk_iff.1 hc) hr hf (by omega) (by omega) h1).mono ?_
            rintro e w' ⟨p, ok, v, rfl, h4, h5, h6⟩
            exact ⟨p, ok, v, rfl, h4, .inr ⟨⟨h1, by omega, by omega⟩, h5⟩, h6⟩
  · exact (rwk_e1 R N l s x d a b w hR hN hr hf h1).mono (key (fun k => h1 k.1))
end Go.Proofs.Ytmbogobebllheaa
