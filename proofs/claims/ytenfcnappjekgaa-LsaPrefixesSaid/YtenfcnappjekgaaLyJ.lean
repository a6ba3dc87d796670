/-
  The links of an advertisement: the reference's check.
-/
import Derived.Test.YtenfcnappjekgaaLyK
namespace Go.Proofs.Ytenfcnappjekgaa
open Go.RowKit
set_option linter.unusedSimpArgs false
set_option linter.unusedVariables false
set_option maxHeartbeats 8000000
set_option maxRecDepth 100000

theorem rcheckLinks_any (h : Hd) (bo bd : Bool) (ls : List Lk) (ad : Option Addr) (cap : Nat) (aA : Option Addr) (nA cA : Nat) (co : Int) (se : Bool) (fw : Nat) (ta : Int) (w : World) (hr : RdL w (.slice ad ls.length cap) ls) :
    Calls Try.prog 45 #[lsV h bo bd (.slice ad ls.length cap) (.slice aA nA cA) co se fw ta] w fun e w' => e = .returned (.int .i64 (lnkC ls h.rt)) ∧ Below w.heap.size w w' := by
  have HB0 := Lib.hid (below_alloc w (lsC h bo bd (.slice ad ls.length cap) (.slice aA nA cA) co se fw ta))
  have HX0 : Hid ((w.alloc (lsC h bo bd (.slice ad ls.length cap) (.slice aA nA cA) co se fw ta)).heap[w.heap.size]? = some (lsC h bo bd (.slice ad ls.length cap) (.slice aA nA cA) co se fw ta)) := heap_alloc_new w _
  have HR := Lib.hid (hr.below (below_alloc w (lsC h bo bd (.slice ad ls.length cap) (.slice aA nA cA) co se fw ta)))
  obtain ⟨ad', cap', e, ⟨hc1, hc2⟩, hok, -⟩ := hr
  obtain ⟨rfl, rfl⟩ : ad = ad' ∧ cap = cap' := by injection e with e1 e2 e3; exact ⟨e1, e3⟩
  have HOK := Lib.hid hok
  clear e hok
  by_cases hlen : 64 < ls.length
  · have HV : Hid (lnkC ls h.rt = 4) := by unfold Hid lnkC; rw [if_pos hlen]
    have hlen' : (64 : Int) < (ls.length : Int) := by omega
    go_enter Try.func45, Try.ntmps45
    go_wp2
    go_ret
    exact ⟨ret_i HV.out.symm, HB0.out⟩
  have HV : Hid (lnkC ls h.rt = orL ((List.range ls.length).map (errA ls h.rt))) := by unfold Hid lnkC; rw [if_neg hlen]
  have hlen' : ¬ (64 : Int) < (ls.length : Int) := by omega
  go_enter Try.func45, Try.ntmps45
  go_wp2
  go_loopg [3, 4] ls.length (fun gg s3 s4 wr => ∃ k : Nat, k ≤ ls.length ∧ ls.length - k ≤ gg ∧ s3 = .int .i64 (k : Int) ∧ Hid (∀ x ∈ ((List.range ls.length).map (errA ls h.rt)).take k, x = 0) ∧ Hid (Below (w.alloc (lsC h bo bd (.slice ad ls.length cap) (.slice aA nA cA) co se fw ta)).heap.size (w.alloc (lsC h bo bd (.slice ad ls.length cap) (.slice aA nA cA) co se fw ta)) wr))
  case atStart => exact ⟨0, by omega, by omega, rfl, (by unfold Hid; simp), Below.refl _ _⟩
  case round =>
    obtain ⟨k, hk, hg, rfl, hz, hbel⟩ := hrel
    have HBW : Hid (Below w.heap.size w wr) := HB0.out.trans (hbel.out.mono HB0.out.size)
    have HXW : Hid (wr.heap[w.heap.size]? = some (lsC h bo bd (.slice ad ls.length cap) (.slice aA nA cA) co se fw ta)) := (hbel.out.block _ (by simp)).trans HX0.out
    have hgw : w.heap.size < wr.heap.size := (Array.getElem?_eq_some_iff.1 HXW.out).1
    obtain ⟨m0, m1, m2, m3, m4, m5, m6, m7, m8, m9, m10, m11, m12, m13, m14⟩ := cellsL HXW.out
    by_cases hlt : k < ls.length
    · obtain ⟨x, hx⟩ : ∃ x, ls[k]? = some x := ⟨_, List.getElem?_eq_getElem hlt⟩
      have HRW := Lib.hid (HR.out.below hbel.out)
      obtain ⟨ad1, cap1, e, -, -, hrd⟩ := HRW.out
      obtain ⟨b, off, e1, hbl, x0, x1, x2, x3⟩ := hrd k x hx
      obtain ⟨rfl, rfl⟩ : ad = ad1 ∧ cap = cap1 := by injection e with e1 e2 e3; exact ⟨e1, e3⟩
      subst e1
      clear e
      have hxo := HOK.out x (List.mem_of_getElem? hx)
      have hid_ := hxo.id
      have hda := hxo.data
      have HXK := Lib.hid hx
      have hi0 : (0 : Int) ≤ (k : Int) := by omega
      have hi1 : (k : Int) < (ls.length : Int) := by omega
      have HBW1 : Hid (Below w.heap.size w (wr.alloc (lkC4 x))) := below_then HBW.out (below_alloc _ _)
      have HN1 : Hid (Below (w.alloc (lsC h bo bd (.slice (some ⟨b, off, none⟩) ls.length cap) (.slice aA nA cA) co se fw ta)).heap.size (w.alloc (lsC h bo bd (.slice (some ⟨b, off, none⟩) ls.length cap) (.slice aA nA cA) co se fw ta)) (wr.alloc (lkC4 x))) := hbel.out.trans ((below_alloc _ _).mono hbel.out.size)
      have KC0 : Hid (∀ (y : Lk) (j : Nat), wr.cell? ⟨b, off + j * 4, none⟩ = some (.int .i64 y.kind) → wr.cell? ⟨b, off + j * 4 + 1, none⟩ = some (.int .u32 (y.id : Int)) → wr.cell? ⟨b, off + j * 4 + 2, none⟩ = some (.int .u32 (y.data : Int)) → wr.cell? ⟨b, off + j * 4 + 3, none⟩ = some (.int .i64 y.cost) →
          ∀ W', Below (wr.alloc (lkC4 x)).heap.size (wr.alloc (lkC4 x)) W' → W'.cell? ⟨w.heap.size, 9, none⟩ = some (.slice (some ⟨b, off, none⟩) ls.length cap) ∧ W'.cell? ⟨b, off + j * 4, none⟩ = some (.int .i64 y.kind) ∧ W'.cell? ⟨b, off + j * 4 + 1, none⟩ = some (.int .u32 (y.id : Int)) ∧ W'.cell? ⟨b, off + j * 4 + 2, none⟩ = some (.int .u32 (y.data : Int)) ∧ W'.cell? ⟨b, off + j * 4 + 3, none⟩ = some (.int .i64 y.cost) ∧
              W'.cell? ⟨wr.heap.size, 0, none⟩ = some (.int .i64 x.kind) ∧ W'.cell? ⟨wr.heap.size, 1, none⟩ = some (.int .u32 (x.id : Int)) ∧ W'.cell? ⟨wr.heap.size, 2, none⟩ = some (.int .u32 (x.data : Int)) ∧ W'.cell? ⟨wr.heap.size, 3, none⟩ = some (.int .i64 x.cost)) := fun y j y0 y1 y2 y3 W' hW => by
        have hx1 : W'.heap[w.heap.size]? = some (lsC h bo bd (.slice (some ⟨b, off, none⟩) ls.length cap) (.slice aA nA cA) co se fw ta) := (hW.block _ (by simp; omega)).trans (alloc_past HXW.out hgw)
        have hl1 : W'.heap[wr.heap.size]? = some (lkC4 x) := (hW.block _ (by simp)).trans (heap_alloc_new _ _)
        have hbw := below_then (below_alloc wr (lkC4 x)) hW
        exact ⟨cell_of hx1 rfl, carry hbw y0, carry hbw y1, carry hbw y2, carry hbw y3, cell_of hl1 rfl, cell_of hl1 rfl, cell_of hl1 rfl, cell_of hl1 rfl⟩
      clear hx hxo
      by_cases c1 : x.kind < 1
      · have hbad : lkC x h.rt = 15 := by unfold lkC; simp [c1]
        have HZ : Hid (lnkC ls h.rt = 15) := by
          have hne : lkC x h.rt ≠ 0 := by rw [hbad]; decide
          exact HV.out.trans ((orL_at _ _ hz.out ((map_get hlt).trans (by rw [errA_bad HXK.out hne])) hne).trans hbad)
        clear hbad
        go_wp2_with (first
          | (go_at_call 47; ((with_reducible refine (within_yes _ _ _ (by omega) (by omega) _).mono ?_); rintro e w' ⟨rfl, rfl⟩))
          | (go_at_call 47; ((with_reducible refine (within_no _ _ _ (by omega) _).mono ?_); rintro e w' ⟨rfl, rfl⟩)))
        go_ret
        exact ⟨ret_i HZ.out.symm, below_then HBW.out (below_alloc _ _)⟩

      by_cases c2 : 3 < x.kind
      · have hbad : lkC x h.rt = 15 := by unfold lkC; simp [c1, c2]
        have HZ : Hid (lnkC ls h.rt = 15) := by
          have hne : lkC x h.rt ≠ 0 := by rw [hbad]; decide
          exact HV.out.trans ((orL_at _ _ hz.out ((map_get hlt).trans (by rw [errA_bad HXK.out hne])) hne).trans hbad)
        clear hbad
        go_wp2_with (first
          | (go_at_call 47; ((with_reducible refine (within_yes _ _ _ (by omega) (by omega) _).mono ?_); rintro e w' ⟨rfl, rfl⟩))
          | (go_at_call 47; ((with_reducible refine (within_no _ _ _ (by omega) _).mono ?_); rintro e w' ⟨rfl, rfl⟩)))
        go_ret
        exact ⟨ret_i HZ.out.symm, below_then HBW.out (below_alloc _ _)⟩

      by_cases c3 : x.cost < 1
      · have hbad : lkC x h.rt = 5 := by unfold lkC; simp [c1, c2, c3]
        have HZ : Hid (lnkC ls h.rt = 5) := by
          have hne : lkC x h.rt ≠ 0 := by rw [hbad]; decide
          exact HV.out.trans ((orL_at _ _ hz.out ((map_get hlt).trans (by rw [errA_bad HXK.out hne])) hne).trans hbad)
        clear hbad
        go_wp2_with (first
          | (go_at_call 47; ((with_reducible refine (within_yes _ _ _ (by omega) (by omega) _).mono ?_); rintro e w' ⟨rfl, rfl⟩))
          | (go_at_call 47; ((with_reducible refine (within_no _ _ _ (by omega) _).mono ?_); rintro e w' ⟨rfl, rfl⟩)))
        go_ret
        exact ⟨ret_i HZ.out.symm, below_then HBW.out (below_alloc _ _)⟩

      by_cases c4 : 65535 < x.cost
      · have hbad : lkC x h.rt = 5 := by unfold lkC; simp [c1, c2, c3, c4]
        have HZ : Hid (lnkC ls h.rt = 5) := by
          have hne : lkC x h.rt ≠ 0 := by rw [hbad]; decide
          exact HV.out.trans ((orL_at _ _ hz.out ((map_get hlt).trans (by rw [errA_bad HXK.out hne])) hne).trans hbad)
        clear hbad
        go_wp2_with (first
          | (go_at_call 47; ((with_reducible refine (within_yes _ _ _ (by omega) (by omega) _).mono ?_); rintro e w' ⟨rfl, rfl⟩))
          | (go_at_call 47; ((with_reducible refine (within_no _ _ _ (by omega) _).mono ?_); rintro e w' ⟨rfl, rfl⟩)))
        go_ret
        exact ⟨ret_i HZ.out.symm, below_then HBW.out (below_alloc _ _)⟩

      by_cases d1 : x.kind = 1
      · have b1 : (x.kind == 1) = true := by simpa using d1
        have b3 : (x.kind == 3) = false := by rw [beq_eq_false_iff_ne]; omega
        by_cases d2 : x.id = 0
        · have e1 : ((x.id : Int) == 0) = true := by simpa using d2
          have hbad : lkC x h.rt = 1 := by unfold lkC; simp [c1, c2, c3, c4, d1, d2]
          have HZ : Hid (lnkC ls h.rt = 1) := by
            have hne : lkC x h.rt ≠ 0 := by rw [hbad]; decide
            exact HV.out.trans ((orL_at _ _ hz.out ((map_get hlt).trans (by rw [errA_bad HXK.out hne])) hne).trans hbad)
          clear hbad
          go_wp2_with (first
            | (go_at_call 47; ((with_reducible refine (within_yes _ _ _ (by omega) (by omega) _).mono ?_); rintro e w' ⟨rfl, rfl⟩))
            | (go_at_call 47; ((with_reducible refine (within_no _ _ _ (by omega) _).mono ?_); rintro e w' ⟨rfl, rfl⟩)))
          go_ret
          exact ⟨ret_i HZ.out.symm, below_then HBW.out (below_alloc _ _)⟩

        have e1 : ((x.id : Int) == 0) = false := by simpa using d2
        by_cases d3 : x.id = h.rt
        · have e2 : ((x.id : Int) == (h.rt : Int)) = true := by rw [d3]; simp
          have hbad : lkC x h.rt = 1 := by unfold lkC; simp [c1, c2, c3, c4, d1, d3]
          have HZ : Hid (lnkC ls h.rt = 1) := by
            have hne : lkC x h.rt ≠ 0 := by rw [hbad]; decide
            exact HV.out.trans ((orL_at _ _ hz.out ((map_get hlt).trans (by rw [errA_bad HXK.out hne])) hne).trans hbad)
          clear hbad
          go_wp2_with (first
            | (go_at_call 47; ((with_reducible refine (within_yes _ _ _ (by omega) (by omega) _).mono ?_); rintro e w' ⟨rfl, rfl⟩))
            | (go_at_call 47; ((with_reducible refine (within_no _ _ _ (by omega) _).mono ?_); rintro e w' ⟨rfl, rfl⟩)))
          go_ret
          exact ⟨ret_i HZ.out.symm, below_then HBW.out (below_alloc _ _)⟩

        · have e2 : ((x.id : Int) == (h.rt : Int)) = false := by rw [beq_eq_false_iff_ne]; omega
          have hgood : lkC x h.rt = 0 := by unfold lkC; simp [c1, c2, c3, c4, d1, d2, d3]
          clear d1 d3
          rcases k with _ | j
          · have HZ : Hid (errA ls h.rt 0 = 0) := errA_zero HXK.out hgood
            simp only [Nat.zero_mul, Nat.add_zero] at x0 x1 x2 x3
            clear hrd hgood
            go_wp2_with (first
              | (go_at_call 47; ((with_reducible refine (within_yes _ _ _ (by omega) (by omega) _).mono ?_); rintro e w' ⟨rfl, rfl⟩))
              | (go_at_call 47; ((with_reducible refine (within_no _ _ _ (by omega) _).mono ?_); rintro e w' ⟨rfl, rfl⟩)))
            refine wp_region_held_drew (S := (fun W' : World => Below (wr.alloc (lkC4 x)).heap.size (wr.alloc (lkC4 x)) W')) (by kernel_rfl) (below_drewN (Below.refl _ _) 1) (fun hS0 => ?_)
            refine wpAnyH_take (i := 0) (oi := ⟨some 62, _, _, _, _, _⟩) (v := .int .i64 ((0 : Nat) : Int)) rfl (by kernel_rfl) (by kernel_rfl) (by kernel_rfl) (fun _ _ _ h => h) (Or.inl ⟨by rfl, by intro w' hw'; skip; go_simp⟩) hS0 ?_
            simp only [Act.put, List.setIfInBounds_toArray, List.set_cons_zero, List.set_cons_succ]
            refine wpAnyH_take (i := 1) (oi := ⟨some 63, _, _, _, _, _⟩) (v := .bool false) rfl (by kernel_rfl) (by kernel_rfl) (by kernel_rfl) (fun _ _ _ h => h) (Or.inl ⟨by rfl, by intro w' hw'; skip; go_simp⟩) hS0 ?_
            simp only [Act.put, List.setIfInBounds_toArray, List.set_cons_zero, List.set_cons_succ]
            refine wpAnyH_take (i := 2) (oi := ⟨some 64, _, _, _, _, _⟩) (v := .bool false) rfl (by kernel_rfl) (by kernel_rfl) (by kernel_rfl) (fun _ _ _ h => h) (Or.inl ⟨by rfl, by intro w' hw'; skip; go_simp⟩) hS0 ?_
            simp only [Act.put, List.setIfInBounds_toArray, List.set_cons_zero, List.set_cons_succ]
            refine wpAnyH_take (i := 3) (oi := ⟨some 65, _, _, _, _, _⟩) (v := undef) rfl (by kernel_rfl) (by kernel_rfl) (by kernel_rfl) (fun _ _ _ h => h) (Or.inr ⟨by rfl, rfl⟩) hS0 ?_
            simp only [Act.put, List.setIfInBounds_toArray, List.set_cons_zero, List.set_cons_succ]
            refine wpAnyH_take (i := 4) (oi := ⟨some 66, _, _, _, _, _⟩) (v := undef) rfl (by kernel_rfl) (by kernel_rfl) (by kernel_rfl) (fun _ _ _ h => h) (Or.inr ⟨by rfl, rfl⟩) hS0 ?_
            simp only [Act.put, List.setIfInBounds_toArray, List.set_cons_zero, List.set_cons_succ]
            refine wpAnyH_take (i := 5) (oi := ⟨some 67, _, _, _, _, _⟩) (v := undef) rfl (by kernel_rfl) (by kernel_rfl) (by kernel_rfl) (fun _ _ _ h => h) (Or.inr ⟨by rfl, rfl⟩) hS0 ?_
            simp only [Act.put, List.setIfInBounds_toArray, List.set_cons_zero, List.set_cons_succ]
            refine wpAnyH_take (i := 6) (oi := ⟨some 68, _, _, _, _, _⟩) (v := undef) rfl (by kernel_rfl) (by kernel_rfl) (by kernel_rfl) (fun _ _ _ h => h) (Or.inr ⟨by rfl, rfl⟩) hS0 ?_
            simp only [Act.put, List.setIfInBounds_toArray, List.set_cons_zero, List.set_cons_succ]
            refine wpAnyH_take (i := 7) (oi := ⟨some 69, _, _, _, _, _⟩) (v := undef) rfl (by kernel_rfl) (by kernel_rfl) (by kernel_rfl) (fun _ _ _ h => h) (Or.inr ⟨by rfl, rfl⟩) hS0 ?_
            simp only [Act.put, List.setIfInBounds_toArray, List.set_cons_zero, List.set_cons_succ]
            refine wpAnyH_take (i := 8) (oi := ⟨some 70, _, _, _, _, _⟩) (v := undef) rfl (by kernel_rfl) (by kernel_rfl) (by kernel_rfl) (fun _ _ _ h => h) (Or.inr ⟨by rfl, rfl⟩) hS0 ?_
            simp only [Act.put, List.setIfInBounds_toArray, List.set_cons_zero, List.set_cons_succ]
            refine wpAnyH_take (i := 9) (oi := ⟨some 71, _, _, _, _, _⟩) (v := undef) rfl (by kernel_rfl) (by kernel_rfl) (by kernel_rfl) (fun _ _ _ h => h) (Or.inr ⟨by rfl, rfl⟩) hS0 ?_
            simp only [Act.put, List.setIfInBounds_toArray, List.set_cons_zero, List.set_cons_succ]
            refine wpAnyH_take (i := 10) (oi := ⟨some 72, _, _, _, _, _⟩) (v := undef) rfl (by kernel_rfl) (by kernel_rfl) (by kernel_rfl) (fun _ _ _ h => h) (Or.inr ⟨by rfl, rfl⟩) hS0 ?_
            simp only [Act.put, List.setIfInBounds_toArray, List.set_cons_zero, List.set_cons_succ]
            refine wpAnyH_take (i := 11) (oi := ⟨some 73, _, _, _, _, _⟩) (v := undef) rfl (by kernel_rfl) (by kernel_rfl) (by kernel_rfl) (fun _ _ _ h => h) (Or.inr ⟨by rfl, rfl⟩) hS0 ?_
            simp only [Act.put, List.setIfInBounds_toArray, List.set_cons_zero, List.set_cons_succ]
            refine wpAnyH_take (i := 12) (oi := ⟨some 74, _, _, _, _, _⟩) (v := .bool false) rfl (by kernel_rfl) (by kernel_rfl) (by kernel_rfl) (fun _ _ _ h => h) (Or.inl ⟨by rfl, by intro w' hw'; skip; go_simp⟩) hS0 ?_
            simp only [Act.put, List.setIfInBounds_toArray, List.set_cons_zero, List.set_cons_succ]
            refine wpAnyH_done (by kernel_rfl) ?_ _
            go_wp2
            go_roundg (ls.length - 1)
            case measure => omega
            case rel => exact ⟨1, by omega, by omega, by go_num, take_zero hz.out hlt HZ.out, HN1.out.drew⟩
          · obtain ⟨y, hy⟩ : ∃ y, ls[j]? = some y := ⟨_, List.getElem?_eq_getElem (by omega)⟩
            obtain ⟨b', off', e1, hbl', y0, y1, y2, y3⟩ := hrd j y hy
            obtain ⟨rfl, rfl⟩ : b = b' ∧ off = off' := by injection e1 with e1; injection e1 with e1 e2; exact ⟨e1, e2⟩
            have KC := Lib.hid (KC0.out y j y0 y1 y2 y3)
            have q1 : (0 : Int) < ((j + 1 : Nat) : Int) := by omega
            have q2 : IntKind.i64.wrap (((j + 1 : Nat) : Int) - 1) = (j : Int) := by rw [show ((j + 1 : Nat) : Int) - 1 = (j : Int) by omega]; exact IntWalk.i64_in _ (by omega)
            have q6 : IntKind.i64.wrap (j : Int) = (j : Int) := IntWalk.i64_in _ (by omega)
            have q3 : (0 : Int) ≤ (j : Int) := by omega
            have q4 : (j : Int) < (ls.length : Int) := by omega
            have q5 : decide ((0 : Int) < ((j + 1 : Nat) : Int)) = true := decide_eq_true q1
            have HE : Hid (errA ls h.rt (j + 1) = if 0 ≤ cmpL y x then 16 else 0) := errA_succ HXK.out hy hgood
            have HCM0 := rlinks_cmp y x
            obtain ⟨c, hc⟩ : ∃ c, cmpL y x = c := ⟨_, rfl⟩
            rw [hc] at HE HCM0
            have HCM := Lib.hid HCM0
            clear y0 y1 y2 y3 hrd hc HCM0 hy hgood
            by_cases hcc : 0 ≤ c
            · have d1 : decide (0 ≤ c) = true := decide_eq_true hcc
              have HE2 : Hid (orL ((List.range ls.length).map (errA ls h.rt)) = 16) := orL_at _ _ hz.out ((map_get hlt).trans (by rw [HE.out, if_pos hcc])) (by decide)
              go_wp2_with (first
                | (go_at_call 47; ((with_reducible refine (within_yes _ _ _ (by omega) (by omega) _).mono ?_); rintro e w' ⟨rfl, rfl⟩))
                | (go_at_call 47; ((with_reducible refine (within_no _ _ _ (by omega) _).mono ?_); rintro e w' ⟨rfl, rfl⟩)))
              refine wp_region_held_drew (S := (fun W' : World => Below (wr.alloc (lkC4 x)).heap.size (wr.alloc (lkC4 x)) W')) (by kernel_rfl) (below_drewN (Below.refl _ _) 1) (fun hS0 => ?_)
              refine wpAnyH_take (i := 0) (oi := ⟨some 62, _, _, _, _, _⟩) (v := .int .i64 ((j + 1 : Nat) : Int)) rfl (by kernel_rfl) (by kernel_rfl) (by kernel_rfl) (fun _ _ _ h => h) (Or.inl ⟨by rfl, by intro w' hw'; obtain ⟨g0, g1, g2, g3, g4, g5, g6, g7, g8⟩ := KC.out _ hw'; go_simp⟩) hS0 ?_
              simp only [Act.put, List.setIfInBounds_toArray, List.set_cons_zero, List.set_cons_succ]
              refine wpAnyH_take (i := 1) (oi := ⟨some 63, _, _, _, _, _⟩) (v := .bool true) rfl (by kernel_rfl) (by kernel_rfl) (by kernel_rfl) (fun _ _ _ h => h) (Or.inl ⟨by rfl, by intro w' hw'; obtain ⟨g0, g1, g2, g3, g4, g5, g6, g7, g8⟩ := KC.out _ hw'; go_simp⟩) hS0 ?_
              simp only [Act.put, List.setIfInBounds_toArray, List.set_cons_zero, List.set_cons_succ]
              refine wpAnyH_take (i := 2) (oi := ⟨some 64, _, _, _, _, _⟩) (v := .bool true) rfl (by kernel_rfl) (by kernel_rfl) (by kernel_rfl) (fun _ _ _ h => h) (Or.inl ⟨by rfl, by intro w' hw'; obtain ⟨g0, g1, g2, g3, g4, g5, g6, g7, g8⟩ := KC.out _ hw'; go_simp⟩) hS0 ?_
              simp only [Act.put, List.setIfInBounds_toArray, List.set_cons_zero, List.set_cons_succ]
              refine wpAnyH_take (i := 3) (oi := ⟨some 65, _, _, _, _, _⟩) (v := Value.pointer (some ⟨w.heap.size, 9, none⟩)) rfl (by kernel_rfl) (by kernel_rfl) (by kernel_rfl) (fun _ _ _ h => h) (Or.inl ⟨by rfl, by intro w' hw'; obtain ⟨g0, g1, g2, g3, g4, g5, g6, g7, g8⟩ := KC.out _ hw'; go_simp⟩) hS0 ?_
              simp only [Act.put, List.setIfInBounds_toArray, List.set_cons_zero, List.set_cons_succ]
              refine wpAnyH_take (i := 4) (oi := ⟨some 66, _, _, _, _, _⟩) (v := .slice (some ⟨b, off, none⟩) ls.length cap) rfl (by kernel_rfl) (by kernel_rfl) (by kernel_rfl) (fun _ _ _ h => h) (Or.inl ⟨by rfl, by intro w' hw'; obtain ⟨g0, g1, g2, g3, g4, g5, g6, g7, g8⟩ := KC.out _ hw'; go_simp⟩) hS0 ?_
              simp only [Act.put, List.setIfInBounds_toArray, List.set_cons_zero, List.set_cons_succ]
              refine wpAnyH_take (i := 5) (oi := ⟨some 67, _, _, _, _, _⟩) (v := .int .i64 ((j + 1 : Nat) : Int)) rfl (by kernel_rfl) (by kernel_rfl) (by kernel_rfl) (fun _ _ _ h => h) (Or.inl ⟨by rfl, by intro w' hw'; obtain ⟨g0, g1, g2, g3, g4, g5, g6, g7, g8⟩ := KC.out _ hw'; go_simp⟩) hS0 ?_
              simp only [Act.put, List.setIfInBounds_toArray, List.set_cons_zero, List.set_cons_succ]
              refine wpAnyH_take (i := 6) (oi := ⟨some 68, _, _, _, _, _⟩) (v := .int .i64 (j : Int)) rfl (by kernel_rfl) (by kernel_rfl) (by kernel_rfl) (fun _ _ _ h => h) (Or.inl ⟨by rfl, by intro w' hw'; obtain ⟨g0, g1, g2, g3, g4, g5, g6, g7, g8⟩ := KC.out _ hw'; go_simp⟩) hS0 ?_
              simp only [Act.put, List.setIfInBounds_toArray, List.set_cons_zero, List.set_cons_succ]
              refine wpAnyH_take (i := 7) (oi := ⟨some 69, _, _, _, _, _⟩) (v := Value.pointer (some ⟨b, off + j * 4, none⟩)) rfl (by kernel_rfl) (by kernel_rfl) (by kernel_rfl) (fun _ _ _ h => h) (Or.inl ⟨by rfl, by intro w' hw'; obtain ⟨g0, g1, g2, g3, g4, g5, g6, g7, g8⟩ := KC.out _ hw'; go_simp⟩) hS0 ?_
              simp only [Act.put, List.setIfInBounds_toArray, List.set_cons_zero, List.set_cons_succ]
              refine wpAnyH_take (i := 8) (oi := ⟨some 70, _, _, _, _, _⟩) (v := lkV y) rfl (by kernel_rfl) (by kernel_rfl) (by kernel_rfl) (fun _ _ _ h => h) (Or.inl ⟨by rfl, by intro w' hw'; obtain ⟨g0, g1, g2, g3, g4, g5, g6, g7, g8⟩ := KC.out _ hw'; go_simp⟩) hS0 ?_
              simp only [Act.put, List.setIfInBounds_toArray, List.set_cons_zero, List.set_cons_succ]
              refine wpAnyH_take (i := 9) (oi := ⟨some 71, _, _, _, _, _⟩) (v := lkV x) rfl (by kernel_rfl) (by kernel_rfl) (by kernel_rfl) (fun _ _ _ h => h) (Or.inl ⟨by rfl, by intro w' hw'; obtain ⟨g0, g1, g2, g3, g4, g5, g6, g7, g8⟩ := KC.out _ hw'; go_simp⟩) hS0 ?_
              simp only [Act.put, List.setIfInBounds_toArray, List.set_cons_zero, List.set_cons_succ]
              refine wpAnyH_ready (rs := [10]) (by kernel_rfl) (by simp) ?_
              refine AllReadyH.cons rfl (fun K hK => ?_) AllReadyH.nil
              go_simp
              go_at_call 82
              refine (HCM.out _).mono ?_
              rintro e w4 ⟨rfl, h4⟩
              have hS1 := keep2 hS0 h4
              clear h4
              (try go_wp2_with fail)
              refine hK.out _ _ hS1 (fun _ => ?_)
              clear hK K
              (try simp only [Act.put, List.setIfInBounds_toArray, List.set_cons_zero, List.set_cons_succ])
              refine wpAnyH_take (i := 11) (oi := ⟨some 73, _, _, _, _, _⟩) (v := .bool true) rfl (by kernel_rfl) (by kernel_rfl) (by kernel_rfl) (fun _ _ _ h => h) (Or.inl ⟨by rfl, by intro w' hw'; obtain ⟨g0, g1, g2, g3, g4, g5, g6, g7, g8⟩ := KC.out _ hw'; go_simp⟩) hS1 ?_
              simp only [Act.put, List.setIfInBounds_toArray, List.set_cons_zero, List.set_cons_succ]
              refine wpAnyH_take (i := 12) (oi := ⟨some 74, _, _, _, _, _⟩) (v := .bool true) rfl (by kernel_rfl) (by kernel_rfl) (by kernel_rfl) (fun _ _ _ h => h) (Or.inl ⟨by rfl, by intro w' hw'; obtain ⟨g0, g1, g2, g3, g4, g5, g6, g7, g8⟩ := KC.out _ hw'; go_simp⟩) hS1 ?_
              simp only [Act.put, List.setIfInBounds_toArray, List.set_cons_zero, List.set_cons_succ]
              refine wpAnyH_done (by kernel_rfl) ?_ _
              have HF := Lib.hid (below_then HBW1.out hS1)
              clear hS1 hS0
              go_wp2
              go_ret
              exact ⟨ret_i (HV.out.trans HE2.out).symm, HF.out⟩
            · have d1 : decide (0 ≤ c) = false := decide_eq_false hcc
              have HE2 : Hid (errA ls h.rt (j + 1) = 0) := by unfold Hid; rw [HE.out, if_neg hcc]
              go_wp2_with (first
                | (go_at_call 47; ((with_reducible refine (within_yes _ _ _ (by omega) (by omega) _).mono ?_); rintro e w' ⟨rfl, rfl⟩))
                | (go_at_call 47; ((with_reducible refine (within_no _ _ _ (by omega) _).mono ?_); rintro e w' ⟨rfl, rfl⟩)))
              refine wp_region_held_drew (S := (fun W' : World => Below (wr.alloc (lkC4 x)).heap.size (wr.alloc (lkC4 x)) W')) (by kernel_rfl) (below_drewN (Below.refl _ _) 1) (fun hS0 => ?_)
              refine wpAnyH_take (i := 0) (oi := ⟨some 62, _, _, _, _, _⟩) (v := .int .i64 ((j + 1 : Nat) : Int)) rfl (by kernel_rfl) (by kernel_rfl) (by kernel_rfl) (fun _ _ _ h => h) (Or.inl ⟨by rfl, by intro w' hw'; obtain ⟨g0, g1, g2, g3, g4, g5, g6, g7, g8⟩ := KC.out _ hw'; go_simp⟩) hS0 ?_
              simp only [Act.put, List.setIfInBounds_toArray, List.set_cons_zero, List.set_cons_succ]
              refine wpAnyH_take (i := 1) (oi := ⟨some 63, _, _, _, _, _⟩) (v := .bool true) rfl (by kernel_rfl) (by kernel_rfl) (by kernel_rfl) (fun _ _ _ h => h) (Or.inl ⟨by rfl, by intro w' hw'; obtain ⟨g0, g1, g2, g3, g4, g5, g6, g7, g8⟩ := KC.out _ hw'; go_simp⟩) hS0 ?_
              simp only [Act.put, List.setIfInBounds_toArray, List.set_cons_zero, List.set_cons_succ]
              refine wpAnyH_take (i := 2) (oi := ⟨some 64, _, _, _, _, _⟩) (v := .bool true) rfl (by kernel_rfl) (by kernel_rfl) (by kernel_rfl) (fun _ _ _ h => h) (Or.inl ⟨by rfl, by intro w' hw'; obtain ⟨g0, g1, g2, g3, g4, g5, g6, g7, g8⟩ := KC.out _ hw'; go_simp⟩) hS0 ?_
              simp only [Act.put, List.setIfInBounds_toArray, List.set_cons_zero, List.set_cons_succ]
              refine wpAnyH_take (i := 3) (oi := ⟨some 65, _, _, _, _, _⟩) (v := Value.pointer (some ⟨w.heap.size, 9, none⟩)) rfl (by kernel_rfl) (by kernel_rfl) (by kernel_rfl) (fun _ _ _ h => h) (Or.inl ⟨by rfl, by intro w' hw'; obtain ⟨g0, g1, g2, g3, g4, g5, g6, g7, g8⟩ := KC.out _ hw'; go_simp⟩) hS0 ?_
              simp only [Act.put, List.setIfInBounds_toArray, List.set_cons_zero, List.set_cons_succ]
              refine wpAnyH_take (i := 4) (oi := ⟨some 66, _, _, _, _, _⟩) (v := .slice (some ⟨b, off, none⟩) ls.length cap) rfl (by kernel_rfl) (by kernel_rfl) (by kernel_rfl) (fun _ _ _ h => h) (Or.inl ⟨by rfl, by intro w' hw'; obtain ⟨g0, g1, g2, g3, g4, g5, g6, g7, g8⟩ := KC.out _ hw'; go_simp⟩) hS0 ?_
              simp only [Act.put, List.setIfInBounds_toArray, List.set_cons_zero, List.set_cons_succ]
              refine wpAnyH_take (i := 5) (oi := ⟨some 67, _, _, _, _, _⟩) (v := .int .i64 ((j + 1 : Nat) : Int)) rfl (by kernel_rfl) (by kernel_rfl) (by kernel_rfl) (fun _ _ _ h => h) (Or.inl ⟨by rfl, by intro w' hw'; obtain ⟨g0, g1, g2, g3, g4, g5, g6, g7, g8⟩ := KC.out _ hw'; go_simp⟩) hS0 ?_
              simp only [Act.put, List.setIfInBounds_toArray, List.set_cons_zero, List.set_cons_succ]
              refine wpAnyH_take (i := 6) (oi := ⟨some 68, _, _, _, _, _⟩) (v := .int .i64 (j : Int)) rfl (by kernel_rfl) (by kernel_rfl) (by kernel_rfl) (fun _ _ _ h => h) (Or.inl ⟨by rfl, by intro w' hw'; obtain ⟨g0, g1, g2, g3, g4, g5, g6, g7, g8⟩ := KC.out _ hw'; go_simp⟩) hS0 ?_
              simp only [Act.put, List.setIfInBounds_toArray, List.set_cons_zero, List.set_cons_succ]
              refine wpAnyH_take (i := 7) (oi := ⟨some 69, _, _, _, _, _⟩) (v := Value.pointer (some ⟨b, off + j * 4, none⟩)) rfl (by kernel_rfl) (by kernel_rfl) (by kernel_rfl) (fun _ _ _ h => h) (Or.inl ⟨by rfl, by intro w' hw'; obtain ⟨g0, g1, g2, g3, g4, g5, g6, g7, g8⟩ := KC.out _ hw'; go_simp⟩) hS0 ?_
              simp only [Act.put, List.setIfInBounds_toArray, List.set_cons_zero, List.set_cons_succ]
              refine wpAnyH_take (i := 8) (oi := ⟨some 70, _, _, _, _, _⟩) (v := lkV y) rfl (by kernel_rfl) (by kernel_rfl) (by kernel_rfl) (fun _ _ _ h => h) (Or.inl ⟨by rfl, by intro w' hw'; obtain ⟨g0, g1, g2, g3, g4, g5, g6, g7, g8⟩ := KC.out _ hw'; go_simp⟩) hS0 ?_
              simp only [Act.put, List.setIfInBounds_toArray, List.set_cons_zero, List.set_cons_succ]
              refine wpAnyH_take (i := 9) (oi := ⟨some 71, _, _, _, _, _⟩) (v := lkV x) rfl (by kernel_rfl) (by kernel_rfl) (by kernel_rfl) (fun _ _ _ h => h) (Or.inl ⟨by rfl, by intro w' hw'; obtain ⟨g0, g1, g2, g3, g4, g5, g6, g7, g8⟩ := KC.out _ hw'; go_simp⟩) hS0 ?_
              simp only [Act.put, List.setIfInBounds_toArray, List.set_cons_zero, List.set_cons_succ]
              refine wpAnyH_ready (rs := [10]) (by kernel_rfl) (by simp) ?_
              refine AllReadyH.cons rfl (fun K hK => ?_) AllReadyH.nil
              go_simp
              go_at_call 82
              refine (HCM.out _).mono ?_
              rintro e w4 ⟨rfl, h4⟩
              have hS1 := keep2 hS0 h4
              clear h4
              (try go_wp2_with fail)
              refine hK.out _ _ hS1 (fun _ => ?_)
              clear hK K
              (try simp only [Act.put, List.setIfInBounds_toArray, List.set_cons_zero, List.set_cons_succ])
              refine wpAnyH_take (i := 11) (oi := ⟨some 73, _, _, _, _, _⟩) (v := .bool false) rfl (by kernel_rfl) (by kernel_rfl) (by kernel_rfl) (fun _ _ _ h => h) (Or.inl ⟨by rfl, by intro w' hw'; obtain ⟨g0, g1, g2, g3, g4, g5, g6, g7, g8⟩ := KC.out _ hw'; go_simp⟩) hS1 ?_
              simp only [Act.put, List.setIfInBounds_toArray, List.set_cons_zero, List.set_cons_succ]
              refine wpAnyH_take (i := 12) (oi := ⟨some 74, _, _, _, _, _⟩) (v := .bool false) rfl (by kernel_rfl) (by kernel_rfl) (by kernel_rfl) (fun _ _ _ h => h) (Or.inl ⟨by rfl, by intro w' hw'; obtain ⟨g0, g1, g2, g3, g4, g5, g6, g7, g8⟩ := KC.out _ hw'; go_simp⟩) hS1 ?_
              simp only [Act.put, List.setIfInBounds_toArray, List.set_cons_zero, List.set_cons_succ]
              refine wpAnyH_done (by kernel_rfl) ?_ _
              have HF := Lib.hid (HN1.out.trans (hS1.mono HN1.out.size))
              clear hS1 hS0
              go_wp2
              go_roundg (ls.length - (j + 1 + 1))
              case measure => omega
              case rel => exact ⟨j + 1 + 1, by omega, Nat.le_refl _, by go_num, take_zero hz.out hlt HE2.out, HF.out⟩

      have b1 : (x.kind == 1) = false := by simpa using d1
      by_cases d3 : x.kind = 3
      · have b3 : (x.kind == 3) = true := by simpa using d3
        by_cases d4 : 32 < x.data
        · have d4' : (32 : Int) < (x.data : Int) := by omega
          have hvf : vld x.id (x.data : Int) = false := vld_out (Or.inr d4')
          have hbad : lkC x h.rt = 1 := by unfold lkC; simp [c1, c2, c3, c4, d1, d3, hvf]
          have HZ : Hid (lnkC ls h.rt = 1) := by
            have hne : lkC x h.rt ≠ 0 := by rw [hbad]; decide
            exact HV.out.trans ((orL_at _ _ hz.out ((map_get hlt).trans (by rw [errA_bad HXK.out hne])) hne).trans hbad)
          clear hbad
          go_wp2_with (first
            | (go_at_call 47; ((with_reducible refine (within_yes _ _ _ (by omega) (by omega) _).mono ?_); rintro e w' ⟨rfl, rfl⟩))
            | (go_at_call 47; ((with_reducible refine (within_no _ _ _ (by omega) _).mono ?_); rintro e w' ⟨rfl, rfl⟩)))
          go_ret
          exact ⟨ret_i HZ.out.symm, below_then HBW.out (below_alloc _ _)⟩

        have d4' : ¬ (32 : Int) < (x.data : Int) := by omega
        have hI : I64 (x.data : Int) := by unfold I64; omega
        cases hv : vld x.id x.data
        · have HFT : Hid (∀ W, Calls Try.prog 73 #[.int .u32 (x.id : Int), .int .i64 (x.data : Int)] W fun e w' => e = .returned (.bool false) ∧ W = w') := fun W => hv ▸ fits_any x.id hid_ x.data hI W
          have hbad : lkC x h.rt = 1 := by unfold lkC; simp [c1, c2, c3, c4, d1, d3, hv]
          have HZ : Hid (lnkC ls h.rt = 1) := by
            have hne : lkC x h.rt ≠ 0 := by rw [hbad]; decide
            exact HV.out.trans ((orL_at _ _ hz.out ((map_get hlt).trans (by rw [errA_bad HXK.out hne])) hne).trans hbad)
          clear hbad
          go_wp2_with (first
            | (go_at_call 47; ((with_reducible refine (within_yes _ _ _ (by omega) (by omega) _).mono ?_); rintro e w' ⟨rfl, rfl⟩))
            | (go_at_call 47; ((with_reducible refine (within_no _ _ _ (by omega) _).mono ?_); rintro e w' ⟨rfl, rfl⟩))
            | (go_at_call 73; refine (HFT.out _).mono ?_; rintro e w' ⟨rfl, rfl⟩))
          go_ret
          exact ⟨ret_i HZ.out.symm, below_then HBW.out (below_alloc _ _)⟩

        · have HFT : Hid (∀ W, Calls Try.prog 73 #[.int .u32 (x.id : Int), .int .i64 (x.data : Int)] W fun e w' => e = .returned (.bool true) ∧ W = w') := fun W => hv ▸ fits_any x.id hid_ x.data hI W
          have hgood : lkC x h.rt = 0 := by unfold lkC; simp [c1, c2, c3, c4, d1, d3, hv]
          clear d1 d3
          rcases k with _ | j
          · have HZ : Hid (errA ls h.rt 0 = 0) := errA_zero HXK.out hgood
            simp only [Nat.zero_mul, Nat.add_zero] at x0 x1 x2 x3
            clear hrd hgood
            go_wp2_with (first
              | (go_at_call 47; ((with_reducible refine (within_yes _ _ _ (by omega) (by omega) _).mono ?_); rintro e w' ⟨rfl, rfl⟩))
              | (go_at_call 47; ((with_reducible refine (within_no _ _ _ (by omega) _).mono ?_); rintro e w' ⟨rfl, rfl⟩))
              | (go_at_call 73; refine (HFT.out _).mono ?_; rintro e w' ⟨rfl, rfl⟩))
            refine wp_region_held_drew (S := (fun W' : World => Below (wr.alloc (lkC4 x)).heap.size (wr.alloc (lkC4 x)) W')) (by kernel_rfl) (below_drewN (Below.refl _ _) 1) (fun hS0 => ?_)
            refine wpAnyH_take (i := 0) (oi := ⟨some 62, _, _, _, _, _⟩) (v := .int .i64 ((0 : Nat) : Int)) rfl (by kernel_rfl) (by kernel_rfl) (by kernel_rfl) (fun _ _ _ h => h) (Or.inl ⟨by rfl, by intro w' hw'; skip; go_simp⟩) hS0 ?_
            simp only [Act.put, List.setIfInBounds_toArray, List.set_cons_zero, List.set_cons_succ]
            refine wpAnyH_take (i := 1) (oi := ⟨some 63, _, _, _, _, _⟩) (v := .bool false) rfl (by kernel_rfl) (by kernel_rfl) (by kernel_rfl) (fun _ _ _ h => h) (Or.inl ⟨by rfl, by intro w' hw'; skip; go_simp⟩) hS0 ?_
            simp only [Act.put, List.setIfInBounds_toArray, List.set_cons_zero, List.set_cons_succ]
            refine wpAnyH_take (i := 2) (oi := ⟨some 64, _, _, _, _, _⟩) (v := .bool false) rfl (by kernel_rfl) (by kernel_rfl) (by kernel_rfl) (fun _ _ _ h => h) (Or.inl ⟨by rfl, by intro w' hw'; skip; go_simp⟩) hS0 ?_
            simp only [Act.put, List.setIfInBounds_toArray, List.set_cons_zero, List.set_cons_succ]
            refine wpAnyH_take (i := 3) (oi := ⟨some 65, _, _, _, _, _⟩) (v := undef) rfl (by kernel_rfl) (by kernel_rfl) (by kernel_rfl) (fun _ _ _ h => h) (Or.inr ⟨by rfl, rfl⟩) hS0 ?_
            simp only [Act.put, List.setIfInBounds_toArray, List.set_cons_zero, List.set_cons_succ]
            refine wpAnyH_take (i := 4) (oi := ⟨some 66, _, _, _, _, _⟩) (v := undef) rfl (by kernel_rfl) (by kernel_rfl) (by kernel_rfl) (fun _ _ _ h => h) (Or.inr ⟨by rfl, rfl⟩) hS0 ?_
            simp only [Act.put, List.setIfInBounds_toArray, List.set_cons_zero, List.set_cons_succ]
            refine wpAnyH_take (i := 5) (oi := ⟨some 67, _, _, _, _, _⟩) (v := undef) rfl (by kernel_rfl) (by kernel_rfl) (by kernel_rfl) (fun _ _ _ h => h) (Or.inr ⟨by rfl, rfl⟩) hS0 ?_
            simp only [Act.put, List.setIfInBounds_toArray, List.set_cons_zero, List.set_cons_succ]
            refine wpAnyH_take (i := 6) (oi := ⟨some 68, _, _, _, _, _⟩) (v := undef) rfl (by kernel_rfl) (by kernel_rfl) (by kernel_rfl) (fun _ _ _ h => h) (Or.inr ⟨by rfl, rfl⟩) hS0 ?_
            simp only [Act.put, List.setIfInBounds_toArray, List.set_cons_zero, List.set_cons_succ]
            refine wpAnyH_take (i := 7) (oi := ⟨some 69, _, _, _, _, _⟩) (v := undef) rfl (by kernel_rfl) (by kernel_rfl) (by kernel_rfl) (fun _ _ _ h => h) (Or.inr ⟨by rfl, rfl⟩) hS0 ?_
            simp only [Act.put, List.setIfInBounds_toArray, List.set_cons_zero, List.set_cons_succ]
            refine wpAnyH_take (i := 8) (oi := ⟨some 70, _, _, _, _, _⟩) (v := undef) rfl (by kernel_rfl) (by kernel_rfl) (by kernel_rfl) (fun _ _ _ h => h) (Or.inr ⟨by rfl, rfl⟩) hS0 ?_
            simp only [Act.put, List.setIfInBounds_toArray, List.set_cons_zero, List.set_cons_succ]
            refine wpAnyH_take (i := 9) (oi := ⟨some 71, _, _, _, _, _⟩) (v := undef) rfl (by kernel_rfl) (by kernel_rfl) (by kernel_rfl) (fun _ _ _ h => h) (Or.inr ⟨by rfl, rfl⟩) hS0 ?_
            simp only [Act.put, List.setIfInBounds_toArray, List.set_cons_zero, List.set_cons_succ]
            refine wpAnyH_take (i := 10) (oi := ⟨some 72, _, _, _, _, _⟩) (v := undef) rfl (by kernel_rfl) (by kernel_rfl) (by kernel_rfl) (fun _ _ _ h => h) (Or.inr ⟨by rfl, rfl⟩) hS0 ?_
            simp only [Act.put, List.setIfInBounds_toArray, List.set_cons_zero, List.set_cons_succ]
            refine wpAnyH_take (i := 11) (oi := ⟨some 73, _, _, _, _, _⟩) (v := undef) rfl (by kernel_rfl) (by kernel_rfl) (by kernel_rfl) (fun _ _ _ h => h) (Or.inr ⟨by rfl, rfl⟩) hS0 ?_
            simp only [Act.put, List.setIfInBounds_toArray, List.set_cons_zero, List.set_cons_succ]
            refine wpAnyH_take (i := 12) (oi := ⟨some 74, _, _, _, _, _⟩) (v := .bool false) rfl (by kernel_rfl) (by kernel_rfl) (by kernel_rfl) (fun _ _ _ h => h) (Or.inl ⟨by rfl, by intro w' hw'; skip; go_simp⟩) hS0 ?_
            simp only [Act.put, List.setIfInBounds_toArray, List.set_cons_zero, List.set_cons_succ]
            refine wpAnyH_done (by kernel_rfl) ?_ _
            go_wp2
            go_roundg (ls.length - 1)
            case measure => omega
            case rel => exact ⟨1, by omega, by omega, by go_num, take_zero hz.out hlt HZ.out, HN1.out.drew⟩
          · obtain ⟨y, hy⟩ : ∃ y, ls[j]? = some y := ⟨_, List.getElem?_eq_getElem (by omega)⟩
            obtain ⟨b', off', e1, hbl', y0, y1, y2, y3⟩ := hrd j y hy
            obtain ⟨rfl, rfl⟩ : b = b' ∧ off = off' := by injection e1 with e1; injection e1 with e1 e2; exact ⟨e1, e2⟩
            have KC := Lib.hid (KC0.out y j y0 y1 y2 y3)
            have q1 : (0 : Int) < ((j + 1 : Nat) : Int) := by omega
            have q2 : IntKind.i64.wrap (((j + 1 : Nat) : Int) - 1) = (j : Int) := by rw [show ((j + 1 : Nat) : Int) - 1 = (j : Int) by omega]; exact IntWalk.i64_in _ (by omega)
            have q6 : IntKind.i64.wrap (j : Int) = (j : Int) := IntWalk.i64_in _ (by omega)
            have q3 : (0 : Int) ≤ (j : Int) := by omega
            have q4 : (j : Int) < (ls.length : Int) := by omega
            have q5 : decide ((0 : Int) < ((j + 1 : Nat) : Int)) = true := decide_eq_true q1
            have HE : Hid (errA ls h.rt (j + 1) = if 0 ≤ cmpL y x then 16 else 0) := errA_succ HXK.out hy hgood
            have HCM0 := rlinks_cmp y x
            obtain ⟨c, hc⟩ : ∃ c, cmpL y x = c := ⟨_, rfl⟩
            rw [hc] at HE HCM0
            have HCM := Lib.hid HCM0
            clear y0 y1 y2 y3 hrd hc HCM0 hy hgood
            by_cases hcc : 0 ≤ c
            · have d1 : decide (0 ≤ c) = true := decide_eq_true hcc
              have HE2 : Hid (orL ((List.range ls.length).map (errA ls h.rt)) = 16) := orL_at _ _ hz.out ((map_get hlt).trans (by rw [HE.out, if_pos hcc])) (by decide)
              go_wp2_with (first
                | (go_at_call 47; ((with_reducible refine (within_yes _ _ _ (by omega) (by omega) _).mono ?_); rintro e w' ⟨rfl, rfl⟩))
                | (go_at_call 47; ((with_reducible refine (within_no _ _ _ (by omega) _).mono ?_); rintro e w' ⟨rfl, rfl⟩))
                | (go_at_call 73; refine (HFT.out _).mono ?_; rintro e w' ⟨rfl, rfl⟩))
              refine wp_region_held_drew (S := (fun W' : World => Below (wr.alloc (lkC4 x)).heap.size (wr.alloc (lkC4 x)) W')) (by kernel_rfl) (below_drewN (Below.refl _ _) 1) (fun hS0 => ?_)
              refine wpAnyH_take (i := 0) (oi := ⟨some 62, _, _, _, _, _⟩) (v := .int .i64 ((j + 1 : Nat) : Int)) rfl (by kernel_rfl) (by kernel_rfl) (by kernel_rfl) (fun _ _ _ h => h) (Or.inl ⟨by rfl, by intro w' hw'; obtain ⟨g0, g1, g2, g3, g4, g5, g6, g7, g8⟩ := KC.out _ hw'; go_simp⟩) hS0 ?_
              simp only [Act.put, List.setIfInBounds_toArray, List.set_cons_zero, List.set_cons_succ]
              refine wpAnyH_take (i := 1) (oi := ⟨some 63, _, _, _, _, _⟩) (v := .bool true) rfl (by kernel_rfl) (by kernel_rfl) (by kernel_rfl) (fun _ _ _ h => h) (Or.inl ⟨by rfl, by intro w' hw'; obtain ⟨g0, g1, g2, g3, g4, g5, g6, g7, g8⟩ := KC.out _ hw'; go_simp⟩) hS0 ?_
              simp only [Act.put, List.setIfInBounds_toArray, List.set_cons_zero, List.set_cons_succ]
              refine wpAnyH_take (i := 2) (oi := ⟨some 64, _, _, _, _, _⟩) (v := .bool true) rfl (by kernel_rfl) (by kernel_rfl) (by kernel_rfl) (fun _ _ _ h => h) (Or.inl ⟨by rfl, by intro w' hw'; obtain ⟨g0, g1, g2, g3, g4, g5, g6, g7, g8⟩ := KC.out _ hw'; go_simp⟩) hS0 ?_
              simp only [Act.put, List.setIfInBounds_toArray, List.set_cons_zero, List.set_cons_succ]
              refine wpAnyH_take (i := 3) (oi := ⟨some 65, _, _, _, _, _⟩) (v := Value.pointer (some ⟨w.heap.size, 9, none⟩)) rfl (by kernel_rfl) (by kernel_rfl) (by kernel_rfl) (fun _ _ _ h => h) (Or.inl ⟨by rfl, by intro w' hw'; obtain ⟨g0, g1, g2, g3, g4, g5, g6, g7, g8⟩ := KC.out _ hw'; go_simp⟩) hS0 ?_
              simp only [Act.put, List.setIfInBounds_toArray, List.set_cons_zero, List.set_cons_succ]
              refine wpAnyH_take (i := 4) (oi := ⟨some 66, _, _, _, _, _⟩) (v := .slice (some ⟨b, off, none⟩) ls.length cap) rfl (by kernel_rfl) (by kernel_rfl) (by kernel_rfl) (fun _ _ _ h => h) (Or.inl ⟨by rfl, by intro w' hw'; obtain ⟨g0, g1, g2, g3, g4, g5, g6, g7, g8⟩ := KC.out _ hw'; go_simp⟩) hS0 ?_
              simp only [Act.put, List.setIfInBounds_toArray, List.set_cons_zero, List.set_cons_succ]
              refine wpAnyH_take (i := 5) (oi := ⟨some 67, _, _, _, _, _⟩) (v := .int .i64 ((j + 1 : Nat) : Int)) rfl (by kernel_rfl) (by kernel_rfl) (by kernel_rfl) (fun _ _ _ h => h) (Or.inl ⟨by rfl, by intro w' hw'; obtain ⟨g0, g1, g2, g3, g4, g5, g6, g7, g8⟩ := KC.out _ hw'; go_simp⟩) hS0 ?_
              simp only [Act.put, List.setIfInBounds_toArray, List.set_cons_zero, List.set_cons_succ]
              refine wpAnyH_take (i := 6) (oi := ⟨some 68, _, _, _, _, _⟩) (v := .int .i64 (j : Int)) rfl (by kernel_rfl) (by kernel_rfl) (by kernel_rfl) (fun _ _ _ h => h) (Or.inl ⟨by rfl, by intro w' hw'; obtain ⟨g0, g1, g2, g3, g4, g5, g6, g7, g8⟩ := KC.out _ hw'; go_simp⟩) hS0 ?_
              simp only [Act.put, List.setIfInBounds_toArray, List.set_cons_zero, List.set_cons_succ]
              refine wpAnyH_take (i := 7) (oi := ⟨some 69, _, _, _, _, _⟩) (v := Value.pointer (some ⟨b, off + j * 4, none⟩)) rfl (by kernel_rfl) (by kernel_rfl) (by kernel_rfl) (fun _ _ _ h => h) (Or.inl ⟨by rfl, by intro w' hw'; obtain ⟨g0, g1, g2, g3, g4, g5, g6, g7, g8⟩ := KC.out _ hw'; go_simp⟩) hS0 ?_
              simp only [Act.put, List.setIfInBounds_toArray, List.set_cons_zero, List.set_cons_succ]
              refine wpAnyH_take (i := 8) (oi := ⟨some 70, _, _, _, _, _⟩) (v := lkV y) rfl (by kernel_rfl) (by kernel_rfl) (by kernel_rfl) (fun _ _ _ h => h) (Or.inl ⟨by rfl, by intro w' hw'; obtain ⟨g0, g1, g2, g3, g4, g5, g6, g7, g8⟩ := KC.out _ hw'; go_simp⟩) hS0 ?_
              simp only [Act.put, List.setIfInBounds_toArray, List.set_cons_zero, List.set_cons_succ]
              refine wpAnyH_take (i := 9) (oi := ⟨some 71, _, _, _, _, _⟩) (v := lkV x) rfl (by kernel_rfl) (by kernel_rfl) (by kernel_rfl) (fun _ _ _ h => h) (Or.inl ⟨by rfl, by intro w' hw'; obtain ⟨g0, g1, g2, g3, g4, g5, g6, g7, g8⟩ := KC.out _ hw'; go_simp⟩) hS0 ?_
              simp only [Act.put, List.setIfInBounds_toArray, List.set_cons_zero, List.set_cons_succ]
              refine wpAnyH_ready (rs := [10]) (by kernel_rfl) (by simp) ?_
              refine AllReadyH.cons rfl (fun K hK => ?_) AllReadyH.nil
              go_simp
              go_at_call 82
              refine (HCM.out _).mono ?_
              rintro e w4 ⟨rfl, h4⟩
              have hS1 := keep2 hS0 h4
              clear h4
              (try go_wp2_with fail)
              refine hK.out _ _ hS1 (fun _ => ?_)
              clear hK K
              (try simp only [Act.put, List.setIfInBounds_toArray, List.set_cons_zero, List.set_cons_succ])
              refine wpAnyH_take (i := 11) (oi := ⟨some 73, _, _, _, _, _⟩) (v := .bool true) rfl (by kernel_rfl) (by kernel_rfl) (by kernel_rfl) (fun _ _ _ h => h) (Or.inl ⟨by rfl, by intro w' hw'; obtain ⟨g0, g1, g2, g3, g4, g5, g6, g7, g8⟩ := KC.out _ hw'; go_simp⟩) hS1 ?_
              simp only [Act.put, List.setIfInBounds_toArray, List.set_cons_zero, List.set_cons_succ]
              refine wpAnyH_take (i := 12) (oi := ⟨some 74, _, _, _, _, _⟩) (v := .bool true) rfl (by kernel_rfl) (by kernel_rfl) (by kernel_rfl) (fun _ _ _ h => h) (Or.inl ⟨by rfl, by intro w' hw'; obtain ⟨g0, g1, g2, g3, g4, g5, g6, g7, g8⟩ := KC.out _ hw'; go_simp⟩) hS1 ?_
              simp only [Act.put, List.setIfInBounds_toArray, List.set_cons_zero, List.set_cons_succ]
              refine wpAnyH_done (by kernel_rfl) ?_ _
              have HF := Lib.hid (below_then HBW1.out hS1)
              clear hS1 hS0
              go_wp2
              go_ret
              exact ⟨ret_i (HV.out.trans HE2.out).symm, HF.out⟩
            · have d1 : decide (0 ≤ c) = false := decide_eq_false hcc
              have HE2 : Hid (errA ls h.rt (j + 1) = 0) := by unfold Hid; rw [HE.out, if_neg hcc]
              go_wp2_with (first
                | (go_at_call 47; ((with_reducible refine (within_yes _ _ _ (by omega) (by omega) _).mono ?_); rintro e w' ⟨rfl, rfl⟩))
                | (go_at_call 47; ((with_reducible refine (within_no _ _ _ (by omega) _).mono ?_); rintro e w' ⟨rfl, rfl⟩))
                | (go_at_call 73; refine (HFT.out _).mono ?_; rintro e w' ⟨rfl, rfl⟩))
              refine wp_region_held_drew (S := (fun W' : World => Below (wr.alloc (lkC4 x)).heap.size (wr.alloc (lkC4 x)) W')) (by kernel_rfl) (below_drewN (Below.refl _ _) 1) (fun hS0 => ?_)
              refine wpAnyH_take (i := 0) (oi := ⟨some 62, _, _, _, _, _⟩) (v := .int .i64 ((j + 1 : Nat) : Int)) rfl (by kernel_rfl) (by kernel_rfl) (by kernel_rfl) (fun _ _ _ h => h) (Or.inl ⟨by rfl, by intro w' hw'; obtain ⟨g0, g1, g2, g3, g4, g5, g6, g7, g8⟩ := KC.out _ hw'; go_simp⟩) hS0 ?_
              simp only [Act.put, List.setIfInBounds_toArray, List.set_cons_zero, List.set_cons_succ]
              refine wpAnyH_take (i := 1) (oi := ⟨some 63, _, _, _, _, _⟩) (v := .bool true) rfl (by kernel_rfl) (by kernel_rfl) (by kernel_rfl) (fun _ _ _ h => h) (Or.inl ⟨by rfl, by intro w' hw'; obtain ⟨g0, g1, g2, g3, g4, g5, g6, g7, g8⟩ := KC.out _ hw'; go_simp⟩) hS0 ?_
              simp only [Act.put, List.setIfInBounds_toArray, List.set_cons_zero, List.set_cons_succ]
              refine wpAnyH_take (i := 2) (oi := ⟨some 64, _, _, _, _, _⟩) (v := .bool true) rfl (by kernel_rfl) (by kernel_rfl) (by kernel_rfl) (fun _ _ _ h => h) (Or.inl ⟨by rfl, by intro w' hw'; obtain ⟨g0, g1, g2, g3, g4, g5, g6, g7, g8⟩ := KC.out _ hw'; go_simp⟩) hS0 ?_
              simp only [Act.put, List.setIfInBounds_toArray, List.set_cons_zero, List.set_cons_succ]
              refine wpAnyH_take (i := 3) (oi := ⟨some 65, _, _, _, _, _⟩) (v := Value.pointer (some ⟨w.heap.size, 9, none⟩)) rfl (by kernel_rfl) (by kernel_rfl) (by kernel_rfl) (fun _ _ _ h => h) (Or.inl ⟨by rfl, by intro w' hw'; obtain ⟨g0, g1, g2, g3, g4, g5, g6, g7, g8⟩ := KC.out _ hw'; go_simp⟩) hS0 ?_
              simp only [Act.put, List.setIfInBounds_toArray, List.set_cons_zero, List.set_cons_succ]
              refine wpAnyH_take (i := 4) (oi := ⟨some 66, _, _, _, _, _⟩) (v := .slice (some ⟨b, off, none⟩) ls.length cap) rfl (by kernel_rfl) (by kernel_rfl) (by kernel_rfl) (fun _ _ _ h => h) (Or.inl ⟨by rfl, by intro w' hw'; obtain ⟨g0, g1, g2, g3, g4, g5, g6, g7, g8⟩ := KC.out _ hw'; go_simp⟩) hS0 ?_
              simp only [Act.put, List.setIfInBounds_toArray, List.set_cons_zero, List.set_cons_succ]
              refine wpAnyH_take (i := 5) (oi := ⟨some 67, _, _, _, _, _⟩) (v := .int .i64 ((j + 1 : Nat) : Int)) rfl (by kernel_rfl) (by kernel_rfl) (by kernel_rfl) (fun _ _ _ h => h) (Or.inl ⟨by rfl, by intro w' hw'; obtain ⟨g0, g1, g2, g3, g4, g5, g6, g7, g8⟩ := KC.out _ hw'; go_simp⟩) hS0 ?_
              simp only [Act.put, List.setIfInBounds_toArray, List.set_cons_zero, List.set_cons_succ]
              refine wpAnyH_take (i := 6) (oi := ⟨some 68, _, _, _, _, _⟩) (v := .int .i64 (j : Int)) rfl (by kernel_rfl) (by kernel_rfl) (by kernel_rfl) (fun _ _ _ h => h) (Or.inl ⟨by rfl, by intro w' hw'; obtain ⟨g0, g1, g2, g3, g4, g5, g6, g7, g8⟩ := KC.out _ hw'; go_simp⟩) hS0 ?_
              simp only [Act.put, List.setIfInBounds_toArray, List.set_cons_zero, List.set_cons_succ]
              refine wpAnyH_take (i := 7) (oi := ⟨some 69, _, _, _, _, _⟩) (v := Value.pointer (some ⟨b, off + j * 4, none⟩)) rfl (by kernel_rfl) (by kernel_rfl) (by kernel_rfl) (fun _ _ _ h => h) (Or.inl ⟨by rfl, by intro w' hw'; obtain ⟨g0, g1, g2, g3, g4, g5, g6, g7, g8⟩ := KC.out _ hw'; go_simp⟩) hS0 ?_
              simp only [Act.put, List.setIfInBounds_toArray, List.set_cons_zero, List.set_cons_succ]
              refine wpAnyH_take (i := 8) (oi := ⟨some 70, _, _, _, _, _⟩) (v := lkV y) rfl (by kernel_rfl) (by kernel_rfl) (by kernel_rfl) (fun _ _ _ h => h) (Or.inl ⟨by rfl, by intro w' hw'; obtain ⟨g0, g1, g2, g3, g4, g5, g6, g7, g8⟩ := KC.out _ hw'; go_simp⟩) hS0 ?_
              simp only [Act.put, List.setIfInBounds_toArray, List.set_cons_zero, List.set_cons_succ]
              refine wpAnyH_take (i := 9) (oi := ⟨some 71, _, _, _, _, _⟩) (v := lkV x) rfl (by kernel_rfl) (by kernel_rfl) (by kernel_rfl) (fun _ _ _ h => h) (Or.inl ⟨by rfl, by intro w' hw'; obtain ⟨g0, g1, g2, g3, g4, g5, g6, g7, g8⟩ := KC.out _ hw'; go_simp⟩) hS0 ?_
              simp only [Act.put, List.setIfInBounds_toArray, List.set_cons_zero, List.set_cons_succ]
              refine wpAnyH_ready (rs := [10]) (by kernel_rfl) (by simp) ?_
              refine AllReadyH.cons rfl (fun K hK => ?_) AllReadyH.nil
              go_simp
              go_at_call 82
              refine (HCM.out _).mono ?_
              rintro e w4 ⟨rfl, h4⟩
              have hS1 := keep2 hS0 h4
              clear h4
              (try go_wp2_with fail)
              refine hK.out _ _ hS1 (fun _ => ?_)
              clear hK K
              (try simp only [Act.put, List.setIfInBounds_toArray, List.set_cons_zero, List.set_cons_succ])
              refine wpAnyH_take (i := 11) (oi := ⟨some 73, _, _, _, _, _⟩) (v := .bool false) rfl (by kernel_rfl) (by kernel_rfl) (by kernel_rfl) (fun _ _ _ h => h) (Or.inl ⟨by rfl, by intro w' hw'; obtain ⟨g0, g1, g2, g3, g4, g5, g6, g7, g8⟩ := KC.out _ hw'; go_simp⟩) hS1 ?_
              simp only [Act.put, List.setIfInBounds_toArray, List.set_cons_zero, List.set_cons_succ]
              refine wpAnyH_take (i := 12) (oi := ⟨some 74, _, _, _, _, _⟩) (v := .bool false) rfl (by kernel_rfl) (by kernel_rfl) (by kernel_rfl) (fun _ _ _ h => h) (Or.inl ⟨by rfl, by intro w' hw'; obtain ⟨g0, g1, g2, g3, g4, g5, g6, g7, g8⟩ := KC.out _ hw'; go_simp⟩) hS1 ?_
              simp only [Act.put, List.setIfInBounds_toArray, List.set_cons_zero, List.set_cons_succ]
              refine wpAnyH_done (by kernel_rfl) ?_ _
              have HF := Lib.hid (HN1.out.trans (hS1.mono HN1.out.size))
              clear hS1 hS0
              go_wp2
              go_roundg (ls.length - (j + 1 + 1))
              case measure => omega
              case rel => exact ⟨j + 1 + 1, by omega, Nat.le_refl _, by go_num, take_zero hz.out hlt HE2.out, HF.out⟩

      · have b3 : (x.kind == 3) = false := by simpa using d3
        have hgood : lkC x h.rt = 0 := by unfold lkC; simp [c1, c2, c3, c4, d1, d3]
        clear d1 d3
        rcases k with _ | j
        · have HZ : Hid (errA ls h.rt 0 = 0) := errA_zero HXK.out hgood
          simp only [Nat.zero_mul, Nat.add_zero] at x0 x1 x2 x3
          clear hrd hgood
          go_wp2_with (first
            | (go_at_call 47; ((with_reducible refine (within_yes _ _ _ (by omega) (by omega) _).mono ?_); rintro e w' ⟨rfl, rfl⟩))
            | (go_at_call 47; ((with_reducible refine (within_no _ _ _ (by omega) _).mono ?_); rintro e w' ⟨rfl, rfl⟩)))
          refine wp_region_held_drew (S := (fun W' : World => Below (wr.alloc (lkC4 x)).heap.size (wr.alloc (lkC4 x)) W')) (by kernel_rfl) (below_drewN (Below.refl _ _) 1) (fun hS0 => ?_)
          refine wpAnyH_take (i := 0) (oi := ⟨some 62, _, _, _, _, _⟩) (v := .int .i64 ((0 : Nat) : Int)) rfl (by kernel_rfl) (by kernel_rfl) (by kernel_rfl) (fun _ _ _ h => h) (Or.inl ⟨by rfl, by intro w' hw'; skip; go_simp⟩) hS0 ?_
          simp only [Act.put, List.setIfInBounds_toArray, List.set_cons_zero, List.set_cons_succ]
          refine wpAnyH_take (i := 1) (oi := ⟨some 63, _, _, _, _, _⟩) (v := .bool false) rfl (by kernel_rfl) (by kernel_rfl) (by kernel_rfl) (fun _ _ _ h => h) (Or.inl ⟨by rfl, by intro w' hw'; skip; go_simp⟩) hS0 ?_
          simp only [Act.put, List.setIfInBounds_toArray, List.set_cons_zero, List.set_cons_succ]
          refine wpAnyH_take (i := 2) (oi := ⟨some 64, _, _, _, _, _⟩) (v := .bool false) rfl (by kernel_rfl) (by kernel_rfl) (by kernel_rfl) (fun _ _ _ h => h) (Or.inl ⟨by rfl, by intro w' hw'; skip; go_simp⟩) hS0 ?_
          simp only [Act.put, List.setIfInBounds_toArray, List.set_cons_zero, List.set_cons_succ]
          refine wpAnyH_take (i := 3) (oi := ⟨some 65, _, _, _, _, _⟩) (v := undef) rfl (by kernel_rfl) (by kernel_rfl) (by kernel_rfl) (fun _ _ _ h => h) (Or.inr ⟨by rfl, rfl⟩) hS0 ?_
          simp only [Act.put, List.setIfInBounds_toArray, List.set_cons_zero, List.set_cons_succ]
          refine wpAnyH_take (i := 4) (oi := ⟨some 66, _, _, _, _, _⟩) (v := undef) rfl (by kernel_rfl) (by kernel_rfl) (by kernel_rfl) (fun _ _ _ h => h) (Or.inr ⟨by rfl, rfl⟩) hS0 ?_
          simp only [Act.put, List.setIfInBounds_toArray, List.set_cons_zero, List.set_cons_succ]
          refine wpAnyH_take (i := 5) (oi := ⟨some 67, _, _, _, _, _⟩) (v := undef) rfl (by kernel_rfl) (by kernel_rfl) (by kernel_rfl) (fun _ _ _ h => h) (Or.inr ⟨by rfl, rfl⟩) hS0 ?_
          simp only [Act.put, List.setIfInBounds_toArray, List.set_cons_zero, List.set_cons_succ]
          refine wpAnyH_take (i := 6) (oi := ⟨some 68, _, _, _, _, _⟩) (v := undef) rfl (by kernel_rfl) (by kernel_rfl) (by kernel_rfl) (fun _ _ _ h => h) (Or.inr ⟨by rfl, rfl⟩) hS0 ?_
          simp only [Act.put, List.setIfInBounds_toArray, List.set_cons_zero, List.set_cons_succ]
          refine wpAnyH_take (i := 7) (oi := ⟨some 69, _, _, _, _, _⟩) (v := undef) rfl (by kernel_rfl) (by kernel_rfl) (by kernel_rfl) (fun _ _ _ h => h) (Or.inr ⟨by rfl, rfl⟩) hS0 ?_
          simp only [Act.put, List.setIfInBounds_toArray, List.set_cons_zero, List.set_cons_succ]
          refine wpAnyH_take (i := 8) (oi := ⟨some 70, _, _, _, _, _⟩) (v := undef) rfl (by kernel_rfl) (by kernel_rfl) (by kernel_rfl) (fun _ _ _ h => h) (Or.inr ⟨by rfl, rfl⟩) hS0 ?_
          simp only [Act.put, List.setIfInBounds_toArray, List.set_cons_zero, List.set_cons_succ]
          refine wpAnyH_take (i := 9) (oi := ⟨some 71, _, _, _, _, _⟩) (v := undef) rfl (by kernel_rfl) (by kernel_rfl) (by kernel_rfl) (fun _ _ _ h => h) (Or.inr ⟨by rfl, rfl⟩) hS0 ?_
          simp only [Act.put, List.setIfInBounds_toArray, List.set_cons_zero, List.set_cons_succ]
          refine wpAnyH_take (i := 10) (oi := ⟨some 72, _, _, _, _, _⟩) (v := undef) rfl (by kernel_rfl) (by kernel_rfl) (by kernel_rfl) (fun _ _ _ h => h) (Or.inr ⟨by rfl, rfl⟩) hS0 ?_
          simp only [Act.put, List.setIfInBounds_toArray, List.set_cons_zero, List.set_cons_succ]
          refine wpAnyH_take (i := 11) (oi := ⟨some 73, _, _, _, _, _⟩) (v := undef) rfl (by kernel_rfl) (by kernel_rfl) (by kernel_rfl) (fun _ _ _ h => h) (Or.inr ⟨by rfl, rfl⟩) hS0 ?_
          simp only [Act.put, List.setIfInBounds_toArray, List.set_cons_zero, List.set_cons_succ]
          refine wpAnyH_take (i := 12) (oi := ⟨some 74, _, _, _, _, _⟩) (v := .bool false) rfl (by kernel_rfl) (by kernel_rfl) (by kernel_rfl) (fun _ _ _ h => h) (Or.inl ⟨by rfl, by intro w' hw'; skip; go_simp⟩) hS0 ?_
          simp only [Act.put, List.setIfInBounds_toArray, List.set_cons_zero, List.set_cons_succ]
          refine wpAnyH_done (by kernel_rfl) ?_ _
          go_wp2
          go_roundg (ls.length - 1)
          case measure => omega
          case rel => exact ⟨1, by omega, by omega, by go_num, take_zero hz.out hlt HZ.out, HN1.out.drew⟩
        · obtain ⟨y, hy⟩ : ∃ y, ls[j]? = some y := ⟨_, List.getElem?_eq_getElem (by omega)⟩
          obtain ⟨b', off', e1, hbl', y0, y1, y2, y3⟩ := hrd j y hy
          obtain ⟨rfl, rfl⟩ : b = b' ∧ off = off' := by injection e1 with e1; injection e1 with e1 e2; exact ⟨e1, e2⟩
          have KC := Lib.hid (KC0.out y j y0 y1 y2 y3)
          have q1 : (0 : Int) < ((j + 1 : Nat) : Int) := by omega
          have q2 : IntKind.i64.wrap (((j + 1 : Nat) : Int) - 1) = (j : Int) := by rw [show ((j + 1 : Nat) : Int) - 1 = (j : Int) by omega]; exact IntWalk.i64_in _ (by omega)
          have q6 : IntKind.i64.wrap (j : Int) = (j : Int) := IntWalk.i64_in _ (by omega)
          have q3 : (0 : Int) ≤ (j : Int) := by omega
          have q4 : (j : Int) < (ls.length : Int) := by omega
          have q5 : decide ((0 : Int) < ((j + 1 : Nat) : Int)) = true := decide_eq_true q1
          have HE : Hid (errA ls h.rt (j + 1) = if 0 ≤ cmpL y x then 16 else 0) := errA_succ HXK.out hy hgood
          have HCM0 := rlinks_cmp y x
          obtain ⟨c, hc⟩ : ∃ c, cmpL y x = c := ⟨_, rfl⟩
          rw [hc] at HE HCM0
          have HCM := Lib.hid HCM0
          clear y0 y1 y2 y3 hrd hc HCM0 hy hgood
          by_cases hcc : 0 ≤ c
          · have d1 : decide (0 ≤ c) = true := decide_eq_true hcc
            have HE2 : Hid (orL ((List.range ls.length).map (errA ls h.rt)) = 16) := orL_at _ _ hz.out ((map_get hlt).trans (by rw [HE.out, if_pos hcc])) (by decide)
            go_wp2_with (first
              | (go_at_call 47; ((with_reducible refine (within_yes _ _ _ (by omega) (by omega) _).mono ?_); rintro e w' ⟨rfl, rfl⟩))
              | (go_at_call 47; ((with_reducible refine (within_no _ _ _ (by omega) _).mono ?_); rintro e w' ⟨rfl, rfl⟩)))
            refine wp_region_held_drew (S := (fun W' : World => Below (wr.alloc (lkC4 x)).heap.size (wr.alloc (lkC4 x)) W')) (by kernel_rfl) (below_drewN (Below.refl _ _) 1) (fun hS0 => ?_)
            refine wpAnyH_take (i := 0) (oi := ⟨some 62, _, _, _, _, _⟩) (v := .int .i64 ((j + 1 : Nat) : Int)) rfl (by kernel_rfl) (by kernel_rfl) (by kernel_rfl) (fun _ _ _ h => h) (Or.inl ⟨by rfl, by intro w' hw'; obtain ⟨g0, g1, g2, g3, g4, g5, g6, g7, g8⟩ := KC.out _ hw'; go_simp⟩) hS0 ?_
            simp only [Act.put, List.setIfInBounds_toArray, List.set_cons_zero, List.set_cons_succ]
            refine wpAnyH_take (i := 1) (oi := ⟨some 63, _, _, _, _, _⟩) (v := .bool true) rfl (by kernel_rfl) (by kernel_rfl) (by kernel_rfl) (fun _ _ _ h => h) (Or.inl ⟨by rfl, by intro w' hw'; obtain ⟨g0, g1, g2, g3, g4, g5, g6, g7, g8⟩ := KC.out _ hw'; go_simp⟩) hS0 ?_
            simp only [Act.put, List.setIfInBounds_toArray, List.set_cons_zero, List.set_cons_succ]
            refine wpAnyH_take (i := 2) (oi := ⟨some 64, _, _, _, _, _⟩) (v := .bool true) rfl (by kernel_rfl) (by kernel_rfl) (by kernel_rfl) (fun _ _ _ h => h) (Or.inl ⟨by rfl, by intro w' hw'; obtain ⟨g0, g1, g2, g3, g4, g5, g6, g7, g8⟩ := KC.out _ hw'; go_simp⟩) hS0 ?_
            simp only [Act.put, List.setIfInBounds_toArray, List.set_cons_zero, List.set_cons_succ]
            refine wpAnyH_take (i := 3) (oi := ⟨some 65, _, _, _, _, _⟩) (v := Value.pointer (some ⟨w.heap.size, 9, none⟩)) rfl (by kernel_rfl) (by kernel_rfl) (by kernel_rfl) (fun _ _ _ h => h) (Or.inl ⟨by rfl, by intro w' hw'; obtain ⟨g0, g1, g2, g3, g4, g5, g6, g7, g8⟩ := KC.out _ hw'; go_simp⟩) hS0 ?_
            simp only [Act.put, List.setIfInBounds_toArray, List.set_cons_zero, List.set_cons_succ]
            refine wpAnyH_take (i := 4) (oi := ⟨some 66, _, _, _, _, _⟩) (v := .slice (some ⟨b, off, none⟩) ls.length cap) rfl (by kernel_rfl) (by kernel_rfl) (by kernel_rfl) (fun _ _ _ h => h) (Or.inl ⟨by rfl, by intro w' hw'; obtain ⟨g0, g1, g2, g3, g4, g5, g6, g7, g8⟩ := KC.out _ hw'; go_simp⟩) hS0 ?_
            simp only [Act.put, List.setIfInBounds_toArray, List.set_cons_zero, List.set_cons_succ]
            refine wpAnyH_take (i := 5) (oi := ⟨some 67, _, _, _, _, _⟩) (v := .int .i64 ((j + 1 : Nat) : Int)) rfl (by kernel_rfl) (by kernel_rfl) (by kernel_rfl) (fun _ _ _ h => h) (Or.inl ⟨by rfl, by intro w' hw'; obtain ⟨g0, g1, g2, g3, g4, g5, g6, g7, g8⟩ := KC.out _ hw'; go_simp⟩) hS0 ?_
            simp only [Act.put, List.setIfInBounds_toArray, List.set_cons_zero, List.set_cons_succ]
            refine wpAnyH_take (i := 6) (oi := ⟨some 68, _, _, _, _, _⟩) (v := .int .i64 (j : Int)) rfl (by kernel_rfl) (by kernel_rfl) (by kernel_rfl) (fun _ _ _ h => h) (Or.inl ⟨by rfl, by intro w' hw'; obtain ⟨g0, g1, g2, g3, g4, g5, g6, g7, g8⟩ := KC.out _ hw'; go_simp⟩) hS0 ?_
            simp only [Act.put, List.setIfInBounds_toArray, List.set_cons_zero, List.set_cons_succ]
            refine wpAnyH_take (i := 7) (oi := ⟨some 69, _, _, _, _, _⟩) (v := Value.pointer (some ⟨b, off + j * 4, none⟩)) rfl (by kernel_rfl) (by kernel_rfl) (by kernel_rfl) (fun _ _ _ h => h) (Or.inl ⟨by rfl, by intro w' hw'; obtain ⟨g0, g1, g2, g3, g4, g5, g6, g7, g8⟩ := KC.out _ hw'; go_simp⟩) hS0 ?_
            simp only [Act.put, List.setIfInBounds_toArray, List.set_cons_zero, List.set_cons_succ]
            refine wpAnyH_take (i := 8) (oi := ⟨some 70, _, _, _, _, _⟩) (v := lkV y) rfl (by kernel_rfl) (by kernel_rfl) (by kernel_rfl) (fun _ _ _ h => h) (Or.inl ⟨by rfl, by intro w' hw'; obtain ⟨g0, g1, g2, g3, g4, g5, g6, g7, g8⟩ := KC.out _ hw'; go_simp⟩) hS0 ?_
            simp only [Act.put, List.setIfInBounds_toArray, List.set_cons_zero, List.set_cons_succ]
            refine wpAnyH_take (i := 9) (oi := ⟨some 71, _, _, _, _, _⟩) (v := lkV x) rfl (by kernel_rfl) (by kernel_rfl) (by kernel_rfl) (fun _ _ _ h => h) (Or.inl ⟨by rfl, by intro w' hw'; obtain ⟨g0, g1, g2, g3, g4, g5, g6, g7, g8⟩ := KC.out _ hw'; go_simp⟩) hS0 ?_
            simp only [Act.put, List.setIfInBounds_toArray, List.set_cons_zero, List.set_cons_succ]
            refine wpAnyH_ready (rs := [10]) (by kernel_rfl) (by simp) ?_
            refine AllReadyH.cons rfl (fun K hK => ?_) AllReadyH.nil
            go_simp
            go_at_call 82
            refine (HCM.out _).mono ?_
            rintro e w4 ⟨rfl, h4⟩
            have hS1 := keep2 hS0 h4
            clear h4
            (try go_wp2_with fail)
            refine hK.out _ _ hS1 (fun _ => ?_)
            clear hK K
            (try simp only [Act.put, List.setIfInBounds_toArray, List.set_cons_zero, List.set_cons_succ])
            refine wpAnyH_take (i := 11) (oi := ⟨some 73, _, _, _, _, _⟩) (v := .bool true) rfl (by kernel_rfl) (by kernel_rfl) (by kernel_rfl) (fun _ _ _ h => h) (Or.inl ⟨by rfl, by intro w' hw'; obtain ⟨g0, g1, g2, g3, g4, g5, g6, g7, g8⟩ := KC.out _ hw'; go_simp⟩) hS1 ?_
            simp only [Act.put, List.setIfInBounds_toArray, List.set_cons_zero, List.set_cons_succ]
            refine wpAnyH_take (i := 12) (oi := ⟨some 74, _, _, _, _, _⟩) (v := .bool true) rfl (by kernel_rfl) (by kernel_rfl) (by kernel_rfl) (fun _ _ _ h => h) (Or.inl ⟨by rfl, by intro w' hw'; obtain ⟨g0, g1, g2, g3, g4, g5, g6, g7, g8⟩ := KC.out _ hw'; go_simp⟩) hS1 ?_
            simp only [Act.put, List.setIfInBounds_toArray, List.set_cons_zero, List.set_cons_succ]
            refine wpAnyH_done (by kernel_rfl) ?_ _
            have HF := Lib.hid (below_then HBW1.out hS1)
            clear hS1 hS0
            go_wp2
            go_ret
            exact ⟨ret_i (HV.out.trans HE2.out).symm, HF.out⟩
          · have d1 : decide (0 ≤ c) = false := decide_eq_false hcc
            have HE2 : Hid (errA ls h.rt (j + 1) = 0) := by unfold Hid; rw [HE.out, if_neg hcc]
            go_wp2_with (first
              | (go_at_call 47; ((with_reducible refine (within_yes _ _ _ (by omega) (by omega) _).mono ?_); rintro e w' ⟨rfl, rfl⟩))
              | (go_at_call 47; ((with_reducible refine (within_no _ _ _ (by omega) _).mono ?_); rintro e w' ⟨rfl, rfl⟩)))
            refine wp_region_held_drew (S := (fun W' : World => Below (wr.alloc (lkC4 x)).heap.size (wr.alloc (lkC4 x)) W')) (by kernel_rfl) (below_drewN (Below.refl _ _) 1) (fun hS0 => ?_)
            refine wpAnyH_take (i := 0) (oi := ⟨some 62, _, _, _, _, _⟩) (v := .int .i64 ((j + 1 : Nat) : Int)) rfl (by kernel_rfl) (by kernel_rfl) (by kernel_rfl) (fun _ _ _ h => h) (Or.inl ⟨by rfl, by intro w' hw'; obtain ⟨g0, g1, g2, g3, g4, g5, g6, g7, g8⟩ := KC.out _ hw'; go_simp⟩) hS0 ?_
            simp only [Act.put, List.setIfInBounds_toArray, List.set_cons_zero, List.set_cons_succ]
            refine wpAnyH_take (i := 1) (oi := ⟨some 63, _, _, _, _, _⟩) (v := .bool true) rfl (by kernel_rfl) (by kernel_rfl) (by kernel_rfl) (fun _ _ _ h => h) (Or.inl ⟨by rfl, by intro w' hw'; obtain ⟨g0, g1, g2, g3, g4, g5, g6, g7, g8⟩ := KC.out _ hw'; go_simp⟩) hS0 ?_
            simp only [Act.put, List.setIfInBounds_toArray, List.set_cons_zero, List.set_cons_succ]
            refine wpAnyH_take (i := 2) (oi := ⟨some 64, _, _, _, _, _⟩) (v := .bool true) rfl (by kernel_rfl) (by kernel_rfl) (by kernel_rfl) (fun _ _ _ h => h) (Or.inl ⟨by rfl, by intro w' hw'; obtain ⟨g0, g1, g2, g3, g4, g5, g6, g7, g8⟩ := KC.out _ hw'; go_simp⟩) hS0 ?_
            simp only [Act.put, List.setIfInBounds_toArray, List.set_cons_zero, List.set_cons_succ]
            refine wpAnyH_take (i := 3) (oi := ⟨some 65, _, _, _, _, _⟩) (v := Value.pointer (some ⟨w.heap.size, 9, none⟩)) rfl (by kernel_rfl) (by kernel_rfl) (by kernel_rfl) (fun _ _ _ h => h) (Or.inl ⟨by rfl, by intro w' hw'; obtain ⟨g0, g1, g2, g3, g4, g5, g6, g7, g8⟩ := KC.out _ hw'; go_simp⟩) hS0 ?_
            simp only [Act.put, List.setIfInBounds_toArray, List.set_cons_zero, List.set_cons_succ]
            refine wpAnyH_take (i := 4) (oi := ⟨some 66, _, _, _, _, _⟩) (v := .slice (some ⟨b, off, none⟩) ls.length cap) rfl (by kernel_rfl) (by kernel_rfl) (by kernel_rfl) (fun _ _ _ h => h) (Or.inl ⟨by rfl, by intro w' hw'; obtain ⟨g0, g1, g2, g3, g4, g5, g6, g7, g8⟩ := KC.out _ hw'; go_simp⟩) hS0 ?_
            simp only [Act.put, List.setIfInBounds_toArray, List.set_cons_zero, List.set_cons_succ]
            refine wpAnyH_take (i := 5) (oi := ⟨some 67, _, _, _, _, _⟩) (v := .int .i64 ((j + 1 : Nat) : Int)) rfl (by kernel_rfl) (by kernel_rfl) (by kernel_rfl) (fun _ _ _ h => h) (Or.inl ⟨by rfl, by intro w' hw'; obtain ⟨g0, g1, g2, g3, g4, g5, g6, g7, g8⟩ := KC.out _ hw'; go_simp⟩) hS0 ?_
            simp only [Act.put, List.setIfInBounds_toArray, List.set_cons_zero, List.set_cons_succ]
            refine wpAnyH_take (i := 6) (oi := ⟨some 68, _, _, _, _, _⟩) (v := .int .i64 (j : Int)) rfl (by kernel_rfl) (by kernel_rfl) (by kernel_rfl) (fun _ _ _ h => h) (Or.inl ⟨by rfl, by intro w' hw'; obtain ⟨g0, g1, g2, g3, g4, g5, g6, g7, g8⟩ := KC.out _ hw'; go_simp⟩) hS0 ?_
            simp only [Act.put, List.setIfInBounds_toArray, List.set_cons_zero, List.set_cons_succ]
            refine wpAnyH_take (i := 7) (oi := ⟨some 69, _, _, _, _, _⟩) (v := Value.pointer (some ⟨b, off + j * 4, none⟩)) rfl (by kernel_rfl) (by kernel_rfl) (by kernel_rfl) (fun _ _ _ h => h) (Or.inl ⟨by rfl, by intro w' hw'; obtain ⟨g0, g1, g2, g3, g4, g5, g6, g7, g8⟩ := KC.out _ hw'; go_simp⟩) hS0 ?_
            simp only [Act.put, List.setIfInBounds_toArray, List.set_cons_zero, List.set_cons_succ]
            refine wpAnyH_take (i := 8) (oi := ⟨some 70, _, _, _, _, _⟩) (v := lkV y) rfl (by kernel_rfl) (by kernel_rfl) (by kernel_rfl) (fun _ _ _ h => h) (Or.inl ⟨by rfl, by intro w' hw'; obtain ⟨g0, g1, g2, g3, g4, g5, g6, g7, g8⟩ := KC.out _ hw'; go_simp⟩) hS0 ?_
            simp only [Act.put, List.setIfInBounds_toArray, List.set_cons_zero, List.set_cons_succ]
            refine wpAnyH_take (i := 9) (oi := ⟨some 71, _, _, _, _, _⟩) (v := lkV x) rfl (by kernel_rfl) (by kernel_rfl) (by kernel_rfl) (fun _ _ _ h => h) (Or.inl ⟨by rfl, by intro w' hw'; obtain ⟨g0, g1, g2, g3, g4, g5, g6, g7, g8⟩ := KC.out _ hw'; go_simp⟩) hS0 ?_
            simp only [Act.put, List.setIfInBounds_toArray, List.set_cons_zero, List.set_cons_succ]
            refine wpAnyH_ready (rs := [10]) (by kernel_rfl) (by simp) ?_
            refine AllReadyH.cons rfl (fun K hK => ?_) AllReadyH.nil
            go_simp
            go_at_call 82
            refine (HCM.out _).mono ?_
            rintro e w4 ⟨rfl, h4⟩
            have hS1 := keep2 hS0 h4
            clear h4
            (try go_wp2_with fail)
            refine hK.out _ _ hS1 (fun _ => ?_)
            clear hK K
            (try simp only [Act.put, List.setIfInBounds_toArray, List.set_cons_zero, List.set_cons_succ])
            refine wpAnyH_take (i := 11) (oi := ⟨some 73, _, _, _, _, _⟩) (v := .bool false) rfl (by kernel_rfl) (by kernel_rfl) (by kernel_rfl) (fun _ _ _ h => h) (Or.inl ⟨by rfl, by intro w' hw'; obtain ⟨g0, g1, g2, g3, g4, g5, g6, g7, g8⟩ := KC.out _ hw'; go_simp⟩) hS1 ?_
            simp only [Act.put, List.setIfInBounds_toArray, List.set_cons_zero, List.set_cons_succ]
            refine wpAnyH_take (i := 12) (oi := ⟨some 74, _, _, _, _, _⟩) (v := .bool false) rfl (by kernel_rfl) (by kernel_rfl) (by kernel_rfl) (fun _ _ _ h => h) (Or.inl ⟨by rfl, by intro w' hw'; obtain ⟨g0, g1, g2, g3, g4, g5, g6, g7, g8⟩ := KC.out _ hw'; go_simp⟩) hS1 ?_
            simp only [Act.put, List.setIfInBounds_toArray, List.set_cons_zero, List.set_cons_succ]
            refine wpAnyH_done (by kernel_rfl) ?_ _
            have HF := Lib.hid (HN1.out.trans (hS1.mono HN1.out.size))
            clear hS1 hS0
            go_wp2
            go_roundg (ls.length - (j + 1 + 1))
            case measure => omega
            case rel => exact ⟨j + 1 + 1, by omega, Nat.le_refl _, by go_num, take_zero hz.out hlt HE2.out, HF.out⟩

    · have hkl : k = ls.length := by omega
      subst hkl
      have HZ := Lib.hid (all_zero hz.out)
      go_wp2
      go_ret
      exact ⟨ret_i (HV.out.trans HZ.out).symm, HBW.out⟩
end Go.Proofs.Ytenfcnappjekgaa
