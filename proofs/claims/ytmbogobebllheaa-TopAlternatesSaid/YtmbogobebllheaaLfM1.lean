/-
  The walk of Walk: along the least next hops.
-/
import Derived.Test.YtmbogobebllheaaMl
import Derived.Test.YtmbogobebllheaaMz
namespace Go.Proofs.Ytmbogobebllheaa
open Go.RowKit HM GM SP Go.Lib
set_option linter.unusedSimpArgs false
set_option linter.unusedVariables false
set_option maxHeartbeats 4000000
set_option maxRecDepth 100000
theorem row_least {P : Int → Prop} {r : List Int} (h : RowI P r) {x : Int} (hx : r[0]? = some x) : P x ∧ ∀ k, P k → x ≤ k := by
  refine ⟨(h.2 x).1 (List.mem_of_getElem? hx), fun k hk => ?_⟩
  have hm := (h.2 k).2 hk
  cases r with
  | nil => simp at hx
  | cons y t =>
    simp at hx; subst hx
    rcases List.mem_cons.1 hm with rfl | hm
    · exact Int.le_refl _
    · exact Int.le_of_lt ((List.pairwise_cons.1 h.1).1 k hm)
theorem wk_ok (r x d : Nat) (l : List E) (s : Value) (a b : Int) (w : World) (hv : Valid (r : Int) 0 l) (hr : Rd3 w s l) (hx : x < r) (hd : d < r) (hro : roE (r : Int) 0 l = 0) :
    Calls Try.prog 35 #[.agg #[.int .i64 (r : Int), .int .i64 0, s], .int .i64 (x : Int), .int .i64 (d : Int), .int .i64 a, .int .i64 b] w fun e w' => ∃ p ok v, e = .returned (.tuple #[v, .bool ok]) ∧ RdI w' v p ∧ Wk (r : Int) l (d : Int) a b (x : Int) p ok ∧ Below w.heap.size w w' := by
  have hS := hv.s
  have hI : I64 (r : Int) := by unfold I64; omega
  have hI0 : I64 (0 : Int) := by unfold I64; omega
  have HRO : Hid (∀ W, Below w.heap.size w W → Calls Try.prog 66 #[.agg #[.int .i64 (r : Int), .int .i64 0, s]] W fun e w' => e = .returned (.int .i64 0) ∧ Below W.heap.size W w') := fun W hW => by
    have := ro_any (r : Int) 0 l s W hI hI0 (hr.below hW)
    rwa [hro] at this
  have HRV : Hid (∀ W, Below w.heap.size w W → Calls Try.prog 75 #[.agg #[.int .i64 (r : Int), .int .i64 0, s]] W fun e w' => ∃ s' o, e = .returned (.agg #[.int .i64 (r : Int), .int .i64 0, s']) ∧ OwnS W.heap.size w' s' o ∧ (SrtE o ∧ Stb (l.map flp) o) ∧ Below W.heap.size W w') := fun W hW => rev_any (r : Int) 0 l s W (by unfold Fits; have := hv.len; omega) (hr.below hW)
  have HRun : Hid (∀ (s' : Value) (o : List E) W, Rd3 W s' o → (SrtE o ∧ Stb (l.map flp) o) → Calls Try.prog 59 #[.agg #[.int .i64 (r : Int), .int .i64 0, s'], .int .i64 (d : Int)] W fun e w' => ∃ dv hv' pv pars, e = .returned (.tuple #[.agg #[.int .i64 (d : Int), dv, hv', pv], .int .i64 0]) ∧ (∃ a1 n1 c1 a2 n2 c2, dv = .slice a1 n1 c1 ∧ hv' = .slice a2 n2 c2) ∧ RdR w' pv pars ∧ pars.length = r ∧ (∀ u : Nat, u < r → (gL pars u).Pairwise (· < ·) ∧ ((u = d → gL pars u = []) ∧ (u ≠ d → ∀ h, h ∈ gL pars u ↔ Hop (r : Int) l (u : Int) (d : Int) h))) ∧ Below W.heap.size W w') := fun s' o W hr' ho => by
    have hvo := valid_rev hv ho
    refine (run_any (r : Int) 0 o s' (d : Int) W hI hI0 hr').mono ?_
    rintro e w' ⟨t, er, tv, rfl, ht, hq, hb⟩
    rcases hq with ⟨k, _⟩ | ⟨_, k, _⟩ | ⟨_, _, rfl, n, hn, hroot, htr⟩
    · exact absurd (chk_iff.2 hvo) k
    · exact absurd ⟨by omega, by omega⟩ k
    · obtain rfl : n = r := by omega
      obtain ⟨d1, h1, p1, rfl, r1, r2, r3⟩ := ht
      rw [hroot]
      obtain ⟨a1, c1, rfl⟩ := r1.form
      obtain ⟨a2, c2, rfl⟩ := r2.form
      refine ⟨_, _, _, t.pars, rfl, ⟨_, _, _, _, _, _, rfl, rfl⟩, r3, htr.lp, fun u hu => ?_, hb⟩
      have hrow := htr.p u hu
      refine ⟨hrow.1, fun e => ?_, fun hne h => ?_⟩
      · subst e
        cases hc : gL t.pars u with
        | nil => rfl
        | cons y ys =>
          have := (hrow.2 y).1 (by rw [hc]; simp)
          have := this.reached hvo (by omega)
          exact absurd rfl this.1
      · rw [hrow.2, hop_par hv hvo (rev_of ho.2)]
        exact ⟨fun k => ⟨by omega, k⟩, fun k => k.2⟩
  have HV := Lib.hid hv
  have hr8 : r ≤ 128 := by omega
  obtain ⟨i0, hi, hz0, hz1, hz2⟩ := info_parts info3
  have HISR : Hid (decide (0 ≤ (x : Int) ∧ (x : Int) < (r : Int)) = true) := decide_eq_true ⟨by omega, by omega⟩
  obtain ⟨ad, cap, hform⟩ := rd3_slice hr
  obtain ⟨L, hL⟩ : ∃ L, l.length = L := ⟨_, rfl⟩
  rw [hL] at hform
  subst hform
  have HB0 := Lib.hid (below_alloc w (.cells #[.int .i64 (r : Int), .int .i64 0, .slice ad L cap] 27))
  have HX0 : Hid ((w.alloc (.cells #[.int .i64 (r : Int), .int .i64 0, .slice ad L cap] 27)).heap[w.heap.size]? = some (.cells #[.int .i64 (r : Int), .int .i64 0, .slice ad L cap] 27 (0, 0))) := heap_alloc_new _ _
  clear hr hL hv hS hI hI0 hro
  go_enter Try.func35, Try.ntmps35
  go_wp2_with fail
  go_at_call 66
  refine (HRO.out _ HB0.out).mono ?_
  rintro e w1 ⟨rfl, hb⟩
  have HB1 := Lib.hid (below_then HB0.out hb)
  have HX1 := Lib.hid ((hb.block _ (lt_block HX0.out)).trans HX0.out)
  have q0 : w1.cell? ⟨w.heap.size, 0, none⟩ = some (.int .i64 (r : Int)) := cell_of HX1.out rfl
  have q1 : w1.cell? ⟨w.heap.size, 1, none⟩ = some (.int .i64 0) := cell_of HX1.out rfl
  have q2 : w1.cell? ⟨w.heap.size, 2, none⟩ = some (.slice ad L cap) := cell_of HX1.out rfl
  clear hb HRO HB0 HX0
  go_wp2_with fail
  go_at_call 78
  refine (isr_any (r : Int) 0 (x : Int) _ _).mono ?_
  rintro e w2 ⟨rfl, hb⟩
  rw [HISR.out]
  clear q0 q1 q2
  have HB2 := Lib.hid (below_then HB1.out hb)
  have HX2 := Lib.hid ((hb.block _ (lt_block HX1.out)).trans HX1.out)
  have q0 : w2.cell? ⟨w.heap.size, 0, none⟩ = some (.int .i64 (r : Int)) := cell_of HX2.out rfl
  have q1 : w2.cell? ⟨w.heap.size, 1, none⟩ = some (.int .i64 0) := cell_of HX2.out rfl
  have q2 : w2.cell? ⟨w.heap.size, 2, none⟩ = some (.slice ad L cap) := cell_of HX2.out rfl
  clear hb HB1 HX1
  go_wp2_with fail
  go_at_call 75
  refine (HRV.out _ HB2.out).mono ?_
  rintro e w3 ⟨s', o', rfl, hown, hso, hb⟩
  have HR := Lib.hid (rd3_ownS hown)
  have HSO := Lib.hid hso
  have HB3 := Lib.hid (below_then HB2.out hb)
  obtain ⟨x3, y3, hf1⟩ := rd3_slice HR.out
  subst hf1
  generalize hol : o'.length = OL at *
  clear hb hown hso HRV HB2 HX2 q0 q1 q2 hol
  go_wp2_with fail
  go_at_call 59
  refine (HRun.out _ o' _ HR.out HSO.out).mono ?_
  rintro e w4 ⟨dv, hv', pv, pars, rfl, ⟨a1, n1, c1, a2, n2, c2, rfl, rfl⟩, hrp, hpl, hpp, hb⟩
  have HB4 := Lib.hid (below_then HB3.out hb)
  have HPP := Lib.hid hpp
  have HRP := Lib.hid hrp
  obtain ⟨pa, pc, hpf⟩ := hrp.form
  rw [hpl] at hpf
  subst hpf
  have HPL := Lib.hid hpl
  clear hb hpp hrp hpl HRun HR HSO HB3
  go_wp2_with fail
  have HT4 : Hid ((w4.alloc (.cells #[.int .i64 (d : Int), .slice a1 n1 c1, .slice a2 n2 c2, .slice pa r pc] 74)).heap[w4.heap.size]? = some (.cells #[.int .i64 (d : Int), .slice a1 n1 c1, .slice a2 n2 c2, .slice pa r pc] 74 (0, 0))) := heap_alloc_new _ _
  have HBX := Lib.hid (below_then HB4.out (below_alloc w4 (.cells #[.int .i64 (d : Int), .slice a1 n1 c1, .slice a2 n2 c2, .slice pa r pc] 74)))
  have HRX := Lib.hid (HRP.out.below (below_alloc w4 (.cells #[.int .i64 (d : Int), .slice a1 n1 c1, .slice a2 n2 c2, .slice pa r pc] 74)))
  have HXs : Hid ((w4.alloc (.cells #[.int .i64 (d : Int), .slice a1 n1 c1, .slice a2 n2 c2, .slice pa r pc] 74)).heap.size = w4.heap.size + 1) := Lib.hid (by simp)
  clear HB4 HRP
  generalize (w4.alloc (.cells #[.int .i64 (d : Int), .slice a1 n1 c1, .slice a2 n2 c2, .slice pa r pc] 74)) = X at *
  have HS0 : Hid (InsS X (.slice (some ⟨w4.heap.size + 1, 0, none⟩) 1 1) ([] ++ [(x : Int)]) (X.alloc (.cells #[.int .i64 (x : Int)] 3))) := by rw [← HXs.out]; exact ⟨⟨rfl, .inr ⟨X.heap.size, 1, _, rfl, Nat.le_refl _, heap_new1 _ _ rfl, Nat.le_refl _, by decide, rfl, rfl⟩⟩, below_alloc _ _⟩
  obtain ⟨xa, xc, hxe, hx1, hx2, hxr⟩ := HRX.out
  have hlr : pars.length = r := HPL.out
  rw [hlr] at hxe hx1
  cases hxe
  have HXR := Lib.hid hxr
  obtain ⟨A, hA⟩ : ∃ A, A = a := ⟨_, rfl⟩
  obtain ⟨B, hB⟩ : ∃ B, B = b := ⟨_, rfl⟩
  have HAB := Lib.hid (And.intro hA hB)
  have HW0 : Hid (∀ p ok, Wk (r : Int) l (d : Int) A B (x : Int) p ok → Wk (r : Int) l (d : Int) A B (x : Int) ([] ++ p) ok) := fun p ok h => h
  have HK0 : Hid (([] : List Int).length + (T l (x : Int) (d : Int)).toNat ≤ 65535 * 129) := by have := T_bound HV.out hx hd; show _ ≤ _; simp; omega
  clear hxr hlr HRX hA hB
  go_loopg [14, 15, 16] ((T l (x : Int) (d : Int)).toNat) (fun g s14 s15 s16 wr => ∃ (u : Nat) (pre : List Int) (v14 : Value), u < r ∧ (T l (u : Int) (d : Int)).toNat ≤ g ∧ v14 = s14 ∧ s15 = .int .i64 (u : Int) ∧ (∃ q, q = s16) ∧ Hid (∀ p ok, Wk (r : Int) l (d : Int) A B (u : Int) p ok → Wk (r : Int) l (d : Int) A B (x : Int) (pre ++ p) ok) ∧ Hid (pre.length + (T l (u : Int) (d : Int)).toNat ≤ 65535 * 129) ∧ Hid (InsS X v14 (pre ++ [(u : Int)]) wr))
  case atStart => exact ⟨x, [], _, hx, Nat.le_refl _, rfl, rfl, ⟨_, rfl⟩, HW0, HK0, HS0⟩
  case round =>
    clear HS0 HW0 HK0
    obtain ⟨u, pre, v14, hu, hg, rfl, rfl, ⟨u16, rfl⟩, HW, HLn, HS⟩ := hrel
    have u0 : (0 : Int) ≤ (u : Int) := by omega
    have u1 : (u : Int) < (r : Int) := by omega
    obtain ⟨hsort, hrd, hrn⟩ := HPP.out u hu
    have hgr : pars[u]? = some (gL pars u) := gL_get (by rw [HPL.out]; exact hu)
    obtain ⟨rb, ro, rv, hre, hrb, hrc, hri⟩ := HXR.out u _ hgr
    obtain ⟨ra, rcap, rfl⟩ := hri.form
    subst hre
    have k12 : wr.cell? ⟨w4.heap.size, 3, none⟩ = some (.slice (some ⟨rb, ro, none⟩) r pc) := carry HS.out.2 (cell_of HT4.out rfl)
    have krow : wr.cell? ⟨rb, ro + u, none⟩ = some (.slice ra (gL pars u).length rcap) := carry HS.out.2 hrc
    generalize hgl : gL pars u = row at *
    have HUD2 := Lib.hid (And.intro hsort (And.intro hrd hrn))
    clear hsort hrd hrn hgr HXR HPP
    cases hrow0 : row with
    | nil =>
      subst hrow0
      have hlen := HLn.out
      obtain ⟨n, hn⟩ : ∃ n, pre.length + 1 = n := ⟨_, rfl⟩
      obtain ⟨vb, vo, vc, rfl, hvc, hvb, hvx⟩ := RdI.cells'' (n := n) (rdI_own HS.out.1) (by simp; omega) (by omega)
      have kl : wr.cell? ⟨vb, vo + pre.length, none⟩ = some (.int .i64 (u : Int)) := hvx _ _ (by simp)
      have HF : Hid (∃ ok, decide ((u : Int) = (d : Int)) = ok ∧ Wk (r : Int) l (d : Int) A B (x : Int) (pre ++ [(u : Int)]) ok) := by
        by_cases hud : u = d
        · subst hud; exact ⟨true, by simp, HW.out _ _ (Wk.here)⟩
        · refine ⟨false, by simp; omega, HW.out _ _ (Wk.none (by omega) (fun h hh => ?_))⟩
          have := (HUD2.out.2.2 hud h).2 hh; cases this
      obtain ⟨ok, hok, HFW⟩ := HF.out
      have HFW := Lib.hid HFW
      have hok2 : ((u : Int) == (d : Int)) = ok := by rw [← hok]; simp [Bool.beq_eq_decide_eq]
      clear hok HF hvx
      simp only [List.length_nil] at krow
      have n0 : (0 : Int) ≤ (n : Int) - 1 := by omega
      have n1 : (1 : Int) ≤ (n : Int) := by omega
      have n2 : (n : Int) - 1 < (n : Int) := by omega
      have n3 : (n : Int) - 1 ≤ (n : Int) := by omega
      have n4 : IntKind.i64.wrap ((n : Int) - 1) = (n : Int) - 1 := IntWalk.i64_in _ (by omega)
      have n5 : ((n : Int) - 1).toNat = pre.length := by omega
      have HFin := Lib.hid (And.intro (rdI_own HS.out.1) (below_then HBX.out HS.out.2))
      clear hlen hn HLn hvc hvb
      go_wp2_with fail
      go_region
      go_wp2
      go_ret2
      exact ⟨pre ++ [(u : Int)], ok, _, rfl, HFin.out.1, (by have h := HFW.out; rw [HAB.out.1, HAB.out.2] at h; exact h), by (first | exact HFin.out.2 | exact below_drewN HFin.out.2 _ | exact below_drewB HFin.out.2)⟩
    | cons y t =>
      have hud : u ≠ d := fun k => by have := HUD2.out.2.1 k; rw [hrow0] at this; cases this
      have hiff := HUD2.out.2.2 hud
      have hl0 : LeastH (r : Int) l (u : Int) (d : Int) y := row_least (P := fun h => Hop (r : Int) l (u : Int) (d : Int) h) ⟨HUD2.out.1, hiff⟩ (by rw [hrow0]; rfl)
      have hnear := hop_near HV.out hl0.1
      obtain ⟨_, c, hce, _⟩ := (hop0 HV.out).1 hl0.1
      have hed := edge HV.out hce
      obtain ⟨h, rfl⟩ : ∃ h : Nat, y = (h : Int) := ⟨y.toNat, by omega⟩
      have hh : h < r := by omega
      have hhu : h ≠ u := by omega
      have HLH := Lib.hid hl0
      have HUD : Hid ((u : Int) ≠ (d : Int)) := by have : (u : Int) ≠ (d : Int) := by omega
                                                   exact this
      obtain ⟨n, hn⟩ : ∃ n, (h :: t : List Int).length = n := ⟨_, rfl⟩
      subst hrow0
      obtain ⟨gb, go', gc, hge, hgc, hgb, hgx⟩ := RdI.cells'' hri hn (by rw [← hn]; simp)
      rw [hn] at krow hge
      cases hge
      have ky : wr.cell? ⟨gb, go', none⟩ = some (.int .i64 (h : Int)) := carry HS.out.2 (by have := hgx 0 _ rfl; simpa using this)
      have np : (0 : Int) < (n : Int) := by simp at hn; omega
      have HK2 : Hid ((pre ++ [(u : Int)]).length + (T l (h : Int) (d : Int)).toNat ≤ 65535 * 129) := by have := HLn.out; show _ ≤ _; simp; omega
      clear hgx hri hiff hl0 hce hed hn HUD2 hud hgl
      by_cases ha : a = (u : Int)
      · subst ha
        by_cases hb : b = (h : Int)
        · subst hb
          have HOL : Hid (OnLink (u : Int) (h : Int) (u : Int) (h : Int)) := .inl ⟨rfl, rfl⟩
          have HF := Lib.hid (HW.out _ _ (Wk.cut HUD.out HLH.out (by rw [HAB.out.1, HAB.out.2]; exact HOL.out)))
          have HBF := Lib.hid (below_then HBX.out HS.out.2)
          go_wp2
          go_ret2
          exact ⟨pre ++ [(u : Int)], false, _, rfl, rdI_own HS.out.1, (by have h := HF.out; rw [HAB.out.1, HAB.out.2] at h; exact h), HBF.out⟩
        · have c1 : ((h : Int) == b) = false := by simp; omega
          have c2 : ((h : Int) == (u : Int)) = false := by simp; omega
          have HOL : Hid (¬ OnLink (u : Int) b (u : Int) (h : Int)) := fun k => k.elim (fun k => hb k.2.symm) (fun k => hhu (by omega))
          by_cases hb2 : b = (u : Int)
          · subst hb2
            have HW2 : Hid (∀ p ok, Wk r l d A B h p ok → Wk r l d A B x ((pre ++ [(u : Int)]) ++ p) ok) := fun p ok hw => by have := HW.out _ _ (Wk.go HUD.out HLH.out (by rw [HAB.out.1, HAB.out.2]; exact HOL.out) hw); rw [List.append_assoc]; exact this
            go_wp2_with (at_builtin; refine wpList_append_own _ rfl (.tmp 71) (.tmp 73) 35 rfl X.heap.size 3 i0 (.int .i64 0) 1 8 Try.underlying35 hi hz0 hz1 hz2 rfl (by decide) v14 (pre ++ [(u : Int)]).length (ints (pre ++ [(u : Int)])) rfl (row_below HS.out.1 (below_alloc _ _)) ⟨wr.heap.size, 0, none⟩ 1 1 [.int .i64 (h : Int)] rfl rfl (cellI_new _ _ _ rfl) (one_int _) (by have := HLn.out; rw [List.length_append]; unfold maxLen; simp; omega) (by have := HLn.out; rw [List.length_append]; simp; omega) (by have := HS.out.2.size; simp; omega) ?_; intro v1 w4 hown hgrow hnil; have S2 := Lib.hid (HS.out.push (h : Int) _ hown hgrow); clear hown hgrow hnil)
            go_roundg ((T l (h : Int) (d : Int)).toNat)
            case measure => omega
            case rel => exact ⟨h, pre ++ [(u : Int)], _, hh, Nat.le_refl _, rfl, rfl, ⟨_, rfl⟩, HW2, HK2, S2⟩
          · have c3 : ((u : Int) == b) = false := by simp; omega
            have HW2 : Hid (∀ p ok, Wk r l d A B h p ok → Wk r l d A B x ((pre ++ [(u : Int)]) ++ p) ok) := fun p ok hw => by have := HW.out _ _ (Wk.go HUD.out HLH.out (by rw [HAB.out.1, HAB.out.2]; exact HOL.out) hw); rw [List.append_assoc]; exact this
            go_wp2_with (at_builtin; refine wpList_append_own _ rfl (.tmp 71) (.tmp 73) 35 rfl X.heap.size 3 i0 (.int .i64 0) 1 8 Try.underlying35 hi hz0 hz1 hz2 rfl (by decide) v14 (pre ++ [(u : Int)]).length (ints (pre ++ [(u : Int)])) rfl (row_below HS.out.1 (below_alloc _ _)) ⟨wr.heap.size, 0, none⟩ 1 1 [.int .i64 (h : Int)] rfl rfl (cellI_new _ _ _ rfl) (one_int _) (by have := HLn.out; rw [List.length_append]; unfold maxLen; simp; omega) (by have := HLn.out; rw [List.length_append]; simp; omega) (by have := HS.out.2.size; simp; omega) ?_; intro v1 w4 hown hgrow hnil; have S2 := Lib.hid (HS.out.push (h : Int) _ hown hgrow); clear hown hgrow hnil)
            go_roundg ((T l (h : Int) (d : Int)).toNat)
            case measure => omega
            case rel => exact ⟨h, pre ++ [(u : Int)], _, hh, Nat.le_refl _, rfl, rfl, ⟨_, rfl⟩, HW2, HK2, S2⟩
      · have c1 : ((u : Int) == a) = false := by simp; omega
        by_cases hb : b = (u : Int)
        · subst hb
          by_cases ha2 : a = (h : Int)
          · subst ha2
            have HOL : Hid (OnLink (h : Int) (u : Int) (u : Int) (h : Int)) := .inr ⟨rfl, rfl⟩
            have HF := Lib.hid (HW.out _ _ (Wk.cut HUD.out HLH.out (by rw [HAB.out.1, HAB.out.2]; exact HOL.out)))
            have HBF := Lib.hid (below_then HBX.out HS.out.2)
            go_wp2
            go_ret2
            exact ⟨pre ++ [(u : Int)], false, _, rfl, rdI_own HS.out.1, (by have h := HF.out; rw [HAB.out.1, HAB.out.2] at h; exact h), HBF.out⟩
          · have c2 : ((h : Int) == a) = false := by simp; omega
            have HOL : Hid (¬ OnLink a (u : Int) (u : Int) (h : Int)) := fun k => k.elim (fun k => ha k.1.symm) (fun k => ha2 k.2.symm)
            have HW2 : Hid (∀ p ok, Wk r l d A B h p ok → Wk r l d A B x ((pre ++ [(u : Int)]) ++ p) ok) := fun p ok hw => by have := HW.out _ _ (Wk.go HUD.out HLH.out (by rw [HAB.out.1, HAB.out.2]; exact HOL.out) hw); rw [List.append_assoc]; exact this
            go_wp2_with (at_builtin; refine wpList_append_own _ rfl (.tmp 71) (.tmp 73) 35 rfl X.heap.size 3 i0 (.int .i64 0) 1 8 Try.underlying35 hi hz0 hz1 hz2 rfl (by decide) v14 (pre ++ [(u : Int)]).length (ints (pre ++ [(u : Int)])) rfl (row_below HS.out.1 (below_alloc _ _)) ⟨wr.heap.size, 0, none⟩ 1 1 [.int .i64 (h : Int)] rfl rfl (cellI_new _ _ _ rfl) (one_int _) (by have := HLn.out; rw [List.length_append]; unfold maxLen; simp; omega) (by have := HLn.out; rw [List.length_append]; simp; omega) (by have := HS.out.2.size; simp; omega) ?_; intro v1 w4 hown hgrow hnil; have S2 := Lib.hid (HS.out.push (h : Int) _ hown hgrow); clear hown hgrow hnil)
            go_roundg ((T l (h : Int) (d : Int)).toNat)
            case measure => omega
            case rel => exact ⟨h, pre ++ [(u : Int)], _, hh, Nat.le_refl _, rfl, rfl, ⟨_, rfl⟩, HW2, HK2, S2⟩
        · have c2 : ((u : Int) == b) = false := by simp; omega
          have HOL : Hid (¬ OnLink a b (u : Int) (h : Int)) := fun k => k.elim (fun k => ha k.1.symm) (fun k => hb k.1.symm)
          have HW2 : Hid (∀ p ok, Wk r l d A B h p ok → Wk r l d A B x ((pre ++ [(u : Int)]) ++ p) ok) := fun p ok hw => by have := HW.out _ _ (Wk.go HUD.out HLH.out (by rw [HAB.out.1, HAB.out.2]; exact HOL.out) hw); rw [List.append_assoc]; exact this
          go_wp2_with (at_builtin; refine wpList_append_own _ rfl (.tmp 71) (.tmp 73) 35 rfl X.heap.size 3 i0 (.int .i64 0) 1 8 Try.underlying35 hi hz0 hz1 hz2 rfl (by decide) v14 (pre ++ [(u : Int)]).length (ints (pre ++ [(u : Int)])) rfl (row_below HS.out.1 (below_alloc _ _)) ⟨wr.heap.size, 0, none⟩ 1 1 [.int .i64 (h : Int)] rfl rfl (cellI_new _ _ _ rfl) (one_int _) (by have := HLn.out; rw [List.length_append]; unfold maxLen; simp; omega) (by have := HLn.out; rw [List.length_append]; simp; omega) (by have := HS.out.2.size; simp; omega) ?_; intro v1 w4 hown hgrow hnil; have S2 := Lib.hid (HS.out.push (h : Int) _ hown hgrow); clear hown hgrow hnil)
          go_roundg ((T l (h : Int) (d : Int)).toNat)
          case measure => omega
          case rel => exact ⟨h, pre ++ [(u : Int)], _, hh, Nat.le_refl _, rfl, rfl, ⟨_, rfl⟩, HW2, HK2, S2⟩
end Go.Proofs.Ytmbogobebllheaa
