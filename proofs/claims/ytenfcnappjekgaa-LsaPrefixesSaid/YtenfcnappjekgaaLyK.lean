/-
  The links of an advertisement: the code's check.
-/
import Derived.Test.YtenfcnappjekgaaLyL
import Derived.Test.YtenfcnappjekgaaLxA
namespace Go.Proofs.Ytenfcnappjekgaa
open Go.RowKit
set_option linter.unusedSimpArgs false
set_option linter.unusedVariables false
set_option maxHeartbeats 4000000
set_option maxRecDepth 100000

theorem checkLinks_any (h : Hd) (bo bd : Bool) (ls : List Lk) (ad : Option Addr) (cap : Nat) (aA : Option Addr) (nA cA : Nat) (co : Int) (se : Bool) (fw : Nat) (ta : Int) (w : World) (hr : RdL w (.slice ad ls.length cap) ls) :
    Calls Try.prog 42 #[lsV h bo bd (.slice ad ls.length cap) (.slice aA nA cA) co se fw ta] w fun e w' => e = .returned (.int .i64 (lnkC ls h.rt)) ∧ Below w.heap.size w w' := by
  have HB0 := Lib.hid (below_alloc w (lsC h bo bd (.slice ad ls.length cap) (.slice aA nA cA) co se fw ta))
  have HX0 : Hid ((w.alloc (lsC h bo bd (.slice ad ls.length cap) (.slice aA nA cA) co se fw ta)).heap[w.heap.size]? = some (lsC h bo bd (.slice ad ls.length cap) (.slice aA nA cA) co se fw ta)) := heap_alloc_new w _
  have HR := Lib.hid (hr.below (below_alloc w (lsC h bo bd (.slice ad ls.length cap) (.slice aA nA cA) co se fw ta)))
  obtain ⟨ad', cap', e, ⟨hc1, hc2⟩, hok, -⟩ := hr
  obtain ⟨rfl, rfl⟩ : ad = ad' ∧ cap = cap' := by injection e with e1 e2 e3; exact ⟨e1, e3⟩
  have HOK := Lib.hid hok
  clear e hok
  by_cases hlen : 64 < ls.length
  · have HV : Hid (lnkC ls h.rt = 4) := by unfold Hid lnkC; rw [if_pos hlen]
    have hlen' : (64 : Int) < (ls.length : Int) := by omega
    go_enter Try.func42, Try.ntmps42
    go_wp2
    go_ret
    exact ⟨ret_i HV.out.symm, HB0.out⟩
  have HV : Hid (lnkC ls h.rt = orL ((List.range ls.length).map (errA ls h.rt))) := by unfold Hid lnkC; rw [if_neg hlen]
  have hlen' : ¬ (64 : Int) < (ls.length : Int) := by omega
  go_enter Try.func42, Try.ntmps42
  go_wp2
  go_loopg [3, 4, 5, 13] ls.length (fun gg s3 s4 s5 s13 wr => ∃ k : Nat, k ≤ ls.length ∧ ls.length - k ≤ gg ∧ s13 = .int .i64 (k : Int) ∧ Hid (∀ x ∈ ((List.range ls.length).map (errA ls h.rt)).take k, x = 0) ∧ Hid (Below (w.alloc (lsC h bo bd (.slice ad ls.length cap) (.slice aA nA cA) co se fw ta)).heap.size (w.alloc (lsC h bo bd (.slice ad ls.length cap) (.slice aA nA cA) co se fw ta)) wr))
  case atStart => exact ⟨0, by omega, by omega, rfl, (by unfold Hid; simp), Below.refl _ _⟩
  case round =>
    obtain ⟨k, hk, hg, rfl, hz, hbel⟩ := hrel
    have HBW : Hid (Below w.heap.size w wr) := HB0.out.trans (hbel.out.mono HB0.out.size)
    have HXW : Hid (wr.heap[w.heap.size]? = some (lsC h bo bd (.slice ad ls.length cap) (.slice aA nA cA) co se fw ta)) := (hbel.out.block _ (by simp)).trans HX0.out
    have hgw : w.heap.size < wr.heap.size := (Array.getElem?_eq_some_iff.1 HXW.out).1
    by_cases hlt : k < ls.length
    · obtain ⟨x, hx⟩ : ∃ x, ls[k]? = some x := ⟨_, List.getElem?_eq_getElem hlt⟩
      have HRW := Lib.hid (HR.out.below hbel.out)
      obtain ⟨ad1, cap1, e, -, -, hrd⟩ := HRW.out
      obtain ⟨b, off, e1, hbl, x0, x1, x2, x3⟩ := hrd k x hx
      obtain ⟨rfl, rfl⟩ : ad = ad1 ∧ cap = cap1 := by injection e with e1 e2 e3; exact ⟨e1, e3⟩
      subst e1
      clear e
      have HLK := Lib.hid (link_any x (HOK.out x (List.mem_of_getElem? hx)) h.rt)
      have HXK := Lib.hid hx
      have hi0 : (0 : Int) ≤ (k : Int) := by omega
      have hi1 : (k : Int) < (ls.length : Int) := by omega
      obtain ⟨m0, m1, m2, m3, m4, m5, m6, m7, m8, m9, m10, m11, m12, m13, m14⟩ := cellsL HXW.out
      have HAL : Hid (∀ w1, Below (wr.alloc (lkC4 x)).heap.size (wr.alloc (lkC4 x)) w1 → Below wr.heap.size wr w1 ∧ w1.heap[w.heap.size]? = some (lsC h bo bd (.slice (some ⟨b, off, none⟩) ls.length cap) (.slice aA nA cA) co se fw ta) ∧ w1.heap[wr.heap.size]? = some (lkC4 x)) := fun w1 h1 =>
        ⟨below_then (below_alloc _ _) h1, (h1.block _ (by simp; omega)).trans (alloc_past HXW.out hgw), (h1.block _ (by simp)).trans (heap_alloc_new _ _)⟩
      clear hx
      go_wp2_with fail
      go_at_call 79
      refine (HLK.out _).mono ?_
      rintro e w1 ⟨rfl, h1⟩
      have HA := Lib.hid (HAL.out _ h1)
      have HBW1 : Hid (Below w.heap.size w w1) := below_then HBW.out HA.out.1
      have HN1 : Hid (Below (w.alloc (lsC h bo bd (.slice (some ⟨b, off, none⟩) ls.length cap) (.slice aA nA cA) co se fw ta)).heap.size (w.alloc (lsC h bo bd (.slice (some ⟨b, off, none⟩) ls.length cap) (.slice aA nA cA) co se fw ta)) w1) := hbel.out.trans (HA.out.1.mono hbel.out.size)
      clear h1 HAL
      by_cases hbad : lkC x h.rt = 0
      · rw [hbad]
        rcases k with _ | j
        · have HZ : Hid (errA ls h.rt 0 = 0) := errA_zero HXK.out hbad
          clear m0 m1 m2 m3 m4 m5 m6 m7 m8 m9 m10 m11 m12 m13 m14 x0 x1 x2 x3 hrd
          go_wp2_with fail
          refine wp_region_held_drew (S := (fun W' : World => Below w1.heap.size w1 W')) (by kernel_rfl) (below_drewN (Below.refl _ _) 1) (fun hS0 => ?_)
          refine wpAnyH_take (i := 0) (oi := ⟨some 26, _, _, _, _, _⟩) (v := .int .i64 ((0 : Nat) : Int)) rfl (by kernel_rfl) (by kernel_rfl) (by kernel_rfl) (fun _ _ _ h => h) (Or.inl ⟨by rfl, by intro w' hw'; skip; go_simp⟩) hS0 ?_
          simp only [Act.put, List.setIfInBounds_toArray, List.set_cons_zero, List.set_cons_succ]
          refine wpAnyH_take (i := 1) (oi := ⟨some 27, _, _, _, _, _⟩) (v := .bool false) rfl (by kernel_rfl) (by kernel_rfl) (by kernel_rfl) (fun _ _ _ h => h) (Or.inl ⟨by rfl, by intro w' hw'; skip; go_simp⟩) hS0 ?_
          simp only [Act.put, List.setIfInBounds_toArray, List.set_cons_zero, List.set_cons_succ]
          refine wpAnyH_take (i := 2) (oi := ⟨some 28, _, _, _, _, _⟩) (v := .bool false) rfl (by kernel_rfl) (by kernel_rfl) (by kernel_rfl) (fun _ _ _ h => h) (Or.inl ⟨by rfl, by intro w' hw'; skip; go_simp⟩) hS0 ?_
          simp only [Act.put, List.setIfInBounds_toArray, List.set_cons_zero, List.set_cons_succ]
          refine wpAnyH_take (i := 3) (oi := ⟨some 29, _, _, _, _, _⟩) (v := undef) rfl (by kernel_rfl) (by kernel_rfl) (by kernel_rfl) (fun _ _ _ h => h) (Or.inr ⟨by rfl, rfl⟩) hS0 ?_
          simp only [Act.put, List.setIfInBounds_toArray, List.set_cons_zero, List.set_cons_succ]
          refine wpAnyH_take (i := 4) (oi := ⟨some 30, _, _, _, _, _⟩) (v := undef) rfl (by kernel_rfl) (by kernel_rfl) (by kernel_rfl) (fun _ _ _ h => h) (Or.inr ⟨by rfl, rfl⟩) hS0 ?_
          simp only [Act.put, List.setIfInBounds_toArray, List.set_cons_zero, List.set_cons_succ]
          refine wpAnyH_take (i := 5) (oi := ⟨some 31, _, _, _, _, _⟩) (v := undef) rfl (by kernel_rfl) (by kernel_rfl) (by kernel_rfl) (fun _ _ _ h => h) (Or.inr ⟨by rfl, rfl⟩) hS0 ?_
          simp only [Act.put, List.setIfInBounds_toArray, List.set_cons_zero, List.set_cons_succ]
          refine wpAnyH_take (i := 6) (oi := ⟨some 32, _, _, _, _, _⟩) (v := undef) rfl (by kernel_rfl) (by kernel_rfl) (by kernel_rfl) (fun _ _ _ h => h) (Or.inr ⟨by rfl, rfl⟩) hS0 ?_
          simp only [Act.put, List.setIfInBounds_toArray, List.set_cons_zero, List.set_cons_succ]
          refine wpAnyH_take (i := 7) (oi := ⟨some 33, _, _, _, _, _⟩) (v := undef) rfl (by kernel_rfl) (by kernel_rfl) (by kernel_rfl) (fun _ _ _ h => h) (Or.inr ⟨by rfl, rfl⟩) hS0 ?_
          simp only [Act.put, List.setIfInBounds_toArray, List.set_cons_zero, List.set_cons_succ]
          refine wpAnyH_take (i := 8) (oi := ⟨some 34, _, _, _, _, _⟩) (v := undef) rfl (by kernel_rfl) (by kernel_rfl) (by kernel_rfl) (fun _ _ _ h => h) (Or.inr ⟨by rfl, rfl⟩) hS0 ?_
          simp only [Act.put, List.setIfInBounds_toArray, List.set_cons_zero, List.set_cons_succ]
          refine wpAnyH_take (i := 9) (oi := ⟨some 35, _, _, _, _, _⟩) (v := undef) rfl (by kernel_rfl) (by kernel_rfl) (by kernel_rfl) (fun _ _ _ h => h) (Or.inr ⟨by rfl, rfl⟩) hS0 ?_
          simp only [Act.put, List.setIfInBounds_toArray, List.set_cons_zero, List.set_cons_succ]
          refine wpAnyH_take (i := 10) (oi := ⟨some 36, _, _, _, _, _⟩) (v := undef) rfl (by kernel_rfl) (by kernel_rfl) (by kernel_rfl) (fun _ _ _ h => h) (Or.inr ⟨by rfl, rfl⟩) hS0 ?_
          simp only [Act.put, List.setIfInBounds_toArray, List.set_cons_zero, List.set_cons_succ]
          refine wpAnyH_take (i := 11) (oi := ⟨some 37, _, _, _, _, _⟩) (v := undef) rfl (by kernel_rfl) (by kernel_rfl) (by kernel_rfl) (fun _ _ _ h => h) (Or.inr ⟨by rfl, rfl⟩) hS0 ?_
          simp only [Act.put, List.setIfInBounds_toArray, List.set_cons_zero, List.set_cons_succ]
          refine wpAnyH_take (i := 12) (oi := ⟨some 38, _, _, _, _, _⟩) (v := .bool false) rfl (by kernel_rfl) (by kernel_rfl) (by kernel_rfl) (fun _ _ _ h => h) (Or.inl ⟨by rfl, by intro w' hw'; skip; go_simp⟩) hS0 ?_
          simp only [Act.put, List.setIfInBounds_toArray, List.set_cons_zero, List.set_cons_succ]
          refine wpAnyH_done (by kernel_rfl) ?_ _
          go_wp2
          go_roundg (ls.length - 1)
          case measure => omega
          case rel => exact ⟨1, by omega, by omega, by go_num, take_zero hz.out hlt HZ.out, HN1.out.drew⟩
        · obtain ⟨y, hy⟩ : ∃ y, ls[j]? = some y := ⟨_, List.getElem?_eq_getElem (by omega)⟩
          obtain ⟨b', off', e1, hbl', y0, y1, y2, y3⟩ := hrd j y hy
          obtain ⟨rfl, rfl⟩ : b = b' ∧ off = off' := by injection e1 with e1; injection e1 with e1 e2; exact ⟨e1, e2⟩
          have KC : Hid (∀ W', Below w1.heap.size w1 W' → W'.cell? ⟨w.heap.size, 9, none⟩ = some (.slice (some ⟨b, off, none⟩) ls.length cap) ∧ W'.cell? ⟨b, off + j * 4, none⟩ = some (.int .i64 y.kind) ∧ W'.cell? ⟨b, off + j * 4 + 1, none⟩ = some (.int .u32 (y.id : Int)) ∧ W'.cell? ⟨b, off + j * 4 + 2, none⟩ = some (.int .u32 (y.data : Int)) ∧ W'.cell? ⟨b, off + j * 4 + 3, none⟩ = some (.int .i64 y.cost) ∧
              W'.cell? ⟨wr.heap.size, 0, none⟩ = some (.int .i64 x.kind) ∧ W'.cell? ⟨wr.heap.size, 1, none⟩ = some (.int .u32 (x.id : Int)) ∧ W'.cell? ⟨wr.heap.size, 2, none⟩ = some (.int .u32 (x.data : Int)) ∧ W'.cell? ⟨wr.heap.size, 3, none⟩ = some (.int .i64 x.cost)) := fun W' hW => by
            have hx1 := (hW.block _ (Array.getElem?_eq_some_iff.1 HA.out.2.1).1).trans HA.out.2.1
            have hl1 := (hW.block _ (Array.getElem?_eq_some_iff.1 HA.out.2.2).1).trans HA.out.2.2
            have hbw := keep2 HA.out.1 hW
            exact ⟨cell_of hx1 rfl, carry hbw y0, carry hbw y1, carry hbw y2, carry hbw y3, cell_of hl1 rfl, cell_of hl1 rfl, cell_of hl1 rfl, cell_of hl1 rfl⟩
          have q1 : (0 : Int) < ((j + 1 : Nat) : Int) := by omega
          have q2 : IntKind.i64.wrap (((j + 1 : Nat) : Int) - 1) = (j : Int) := by rw [show ((j + 1 : Nat) : Int) - 1 = (j : Int) by omega]; exact IntWalk.i64_in _ (by omega)
          have q6 : IntKind.i64.wrap (j : Int) = (j : Int) := IntWalk.i64_in _ (by omega)
          have q3 : (0 : Int) ≤ (j : Int) := by omega
          have q4 : (j : Int) < (ls.length : Int) := by omega
          have q5 : decide ((0 : Int) < ((j + 1 : Nat) : Int)) = true := decide_eq_true q1
          have HE : Hid (errA ls h.rt (j + 1) = if 0 ≤ cmpL y x then 16 else 0) := errA_succ HXK.out hy hbad
          have HCM0 := links_cmp y x
          obtain ⟨c, hc⟩ : ∃ c, cmpL y x = c := ⟨_, rfl⟩
          rw [hc] at HE HCM0
          have HCM := Lib.hid HCM0
          have HZZ := Lib.hid hz.out
          clear m0 m1 m2 m3 m4 m5 m6 m7 m8 m9 m10 m11 m12 m13 m14 x0 x1 x2 x3 y0 y1 y2 y3 hrd hc HCM0 hy
          by_cases hcc : 0 ≤ c
          · have d1 : decide (0 ≤ c) = true := decide_eq_true hcc
            have HE2 : Hid (orL ((List.range ls.length).map (errA ls h.rt)) = 16) := orL_at _ _ HZZ.out ((map_get hlt).trans (by rw [HE.out, if_pos hcc])) (by decide)
            go_wp2_with fail
            refine wp_region_held_drew (S := (fun W' : World => Below w1.heap.size w1 W')) (by kernel_rfl) (below_drewN (Below.refl _ _) 1) (fun hS0 => ?_)
            refine wpAnyH_take (i := 0) (oi := ⟨some 26, _, _, _, _, _⟩) (v := .int .i64 ((j + 1 : Nat) : Int)) rfl (by kernel_rfl) (by kernel_rfl) (by kernel_rfl) (fun _ _ _ h => h) (Or.inl ⟨by rfl, by intro w' hw'; obtain ⟨g0, g1, g2, g3, g4, g5, g6, g7, g8⟩ := KC.out _ hw'; go_simp⟩) hS0 ?_
            simp only [Act.put, List.setIfInBounds_toArray, List.set_cons_zero, List.set_cons_succ]
            refine wpAnyH_take (i := 1) (oi := ⟨some 27, _, _, _, _, _⟩) (v := .bool true) rfl (by kernel_rfl) (by kernel_rfl) (by kernel_rfl) (fun _ _ _ h => h) (Or.inl ⟨by rfl, by intro w' hw'; obtain ⟨g0, g1, g2, g3, g4, g5, g6, g7, g8⟩ := KC.out _ hw'; go_simp⟩) hS0 ?_
            simp only [Act.put, List.setIfInBounds_toArray, List.set_cons_zero, List.set_cons_succ]
            refine wpAnyH_take (i := 2) (oi := ⟨some 28, _, _, _, _, _⟩) (v := .bool true) rfl (by kernel_rfl) (by kernel_rfl) (by kernel_rfl) (fun _ _ _ h => h) (Or.inl ⟨by rfl, by intro w' hw'; obtain ⟨g0, g1, g2, g3, g4, g5, g6, g7, g8⟩ := KC.out _ hw'; go_simp⟩) hS0 ?_
            simp only [Act.put, List.setIfInBounds_toArray, List.set_cons_zero, List.set_cons_succ]
            refine wpAnyH_take (i := 3) (oi := ⟨some 29, _, _, _, _, _⟩) (v := Value.pointer (some ⟨w.heap.size, 9, none⟩)) rfl (by kernel_rfl) (by kernel_rfl) (by kernel_rfl) (fun _ _ _ h => h) (Or.inl ⟨by rfl, by intro w' hw'; obtain ⟨g0, g1, g2, g3, g4, g5, g6, g7, g8⟩ := KC.out _ hw'; go_simp⟩) hS0 ?_
            simp only [Act.put, List.setIfInBounds_toArray, List.set_cons_zero, List.set_cons_succ]
            refine wpAnyH_take (i := 4) (oi := ⟨some 30, _, _, _, _, _⟩) (v := .slice (some ⟨b, off, none⟩) ls.length cap) rfl (by kernel_rfl) (by kernel_rfl) (by kernel_rfl) (fun _ _ _ h => h) (Or.inl ⟨by rfl, by intro w' hw'; obtain ⟨g0, g1, g2, g3, g4, g5, g6, g7, g8⟩ := KC.out _ hw'; go_simp⟩) hS0 ?_
            simp only [Act.put, List.setIfInBounds_toArray, List.set_cons_zero, List.set_cons_succ]
            refine wpAnyH_take (i := 5) (oi := ⟨some 31, _, _, _, _, _⟩) (v := .int .i64 ((j + 1 : Nat) : Int)) rfl (by kernel_rfl) (by kernel_rfl) (by kernel_rfl) (fun _ _ _ h => h) (Or.inl ⟨by rfl, by intro w' hw'; obtain ⟨g0, g1, g2, g3, g4, g5, g6, g7, g8⟩ := KC.out _ hw'; go_simp⟩) hS0 ?_
            simp only [Act.put, List.setIfInBounds_toArray, List.set_cons_zero, List.set_cons_succ]
            refine wpAnyH_take (i := 6) (oi := ⟨some 32, _, _, _, _, _⟩) (v := .int .i64 (j : Int)) rfl (by kernel_rfl) (by kernel_rfl) (by kernel_rfl) (fun _ _ _ h => h) (Or.inl ⟨by rfl, by intro w' hw'; obtain ⟨g0, g1, g2, g3, g4, g5, g6, g7, g8⟩ := KC.out _ hw'; go_simp⟩) hS0 ?_
            simp only [Act.put, List.setIfInBounds_toArray, List.set_cons_zero, List.set_cons_succ]
            refine wpAnyH_take (i := 7) (oi := ⟨some 33, _, _, _, _, _⟩) (v := Value.pointer (some ⟨b, off + j * 4, none⟩)) rfl (by kernel_rfl) (by kernel_rfl) (by kernel_rfl) (fun _ _ _ h => h) (Or.inl ⟨by rfl, by intro w' hw'; obtain ⟨g0, g1, g2, g3, g4, g5, g6, g7, g8⟩ := KC.out _ hw'; go_simp⟩) hS0 ?_
            simp only [Act.put, List.setIfInBounds_toArray, List.set_cons_zero, List.set_cons_succ]
            refine wpAnyH_take (i := 8) (oi := ⟨some 34, _, _, _, _, _⟩) (v := lkV y) rfl (by kernel_rfl) (by kernel_rfl) (by kernel_rfl) (fun _ _ _ h => h) (Or.inl ⟨by rfl, by intro w' hw'; obtain ⟨g0, g1, g2, g3, g4, g5, g6, g7, g8⟩ := KC.out _ hw'; go_simp⟩) hS0 ?_
            simp only [Act.put, List.setIfInBounds_toArray, List.set_cons_zero, List.set_cons_succ]
            refine wpAnyH_take (i := 9) (oi := ⟨some 35, _, _, _, _, _⟩) (v := lkV x) rfl (by kernel_rfl) (by kernel_rfl) (by kernel_rfl) (fun _ _ _ h => h) (Or.inl ⟨by rfl, by intro w' hw'; obtain ⟨g0, g1, g2, g3, g4, g5, g6, g7, g8⟩ := KC.out _ hw'; go_simp⟩) hS0 ?_
            simp only [Act.put, List.setIfInBounds_toArray, List.set_cons_zero, List.set_cons_succ]
            refine wpAnyH_ready (rs := [10]) (by kernel_rfl) (by simp) ?_
            refine AllReadyH.cons rfl (fun K hK => ?_) AllReadyH.nil
            go_simp
            go_at_call 80
            refine (HCM.out _).mono ?_
            rintro e w4 ⟨rfl, h4⟩
            have hS1 := keep2 hS0 h4
            clear h4
            (try go_wp2_with fail)
            refine hK.out _ _ hS1 (fun _ => ?_)
            clear hK K
            (try simp only [Act.put, List.setIfInBounds_toArray, List.set_cons_zero, List.set_cons_succ])
            refine wpAnyH_take (i := 11) (oi := ⟨some 37, _, _, _, _, _⟩) (v := .bool true) rfl (by kernel_rfl) (by kernel_rfl) (by kernel_rfl) (fun _ _ _ h => h) (Or.inl ⟨by rfl, by intro w' hw'; obtain ⟨g0, g1, g2, g3, g4, g5, g6, g7, g8⟩ := KC.out _ hw'; go_simp⟩) hS1 ?_
            simp only [Act.put, List.setIfInBounds_toArray, List.set_cons_zero, List.set_cons_succ]
            refine wpAnyH_take (i := 12) (oi := ⟨some 38, _, _, _, _, _⟩) (v := .bool true) rfl (by kernel_rfl) (by kernel_rfl) (by kernel_rfl) (fun _ _ _ h => h) (Or.inl ⟨by rfl, by intro w' hw'; obtain ⟨g0, g1, g2, g3, g4, g5, g6, g7, g8⟩ := KC.out _ hw'; go_simp⟩) hS1 ?_
            simp only [Act.put, List.setIfInBounds_toArray, List.set_cons_zero, List.set_cons_succ]
            refine wpAnyH_done (by kernel_rfl) ?_ _
            have HF := Lib.hid (below_then HBW1.out hS1)
            clear hS1 hS0
            go_wp2
            go_ret
            exact ⟨ret_i (HV.out.trans HE2.out).symm, HF.out⟩
          · have d1 : decide (0 ≤ c) = false := decide_eq_false hcc
            have HE2 : Hid (errA ls h.rt (j + 1) = 0) := by unfold Hid; rw [HE.out, if_neg hcc]
            go_wp2_with fail
            refine wp_region_held_drew (S := (fun W' : World => Below w1.heap.size w1 W')) (by kernel_rfl) (below_drewN (Below.refl _ _) 1) (fun hS0 => ?_)
            refine wpAnyH_take (i := 0) (oi := ⟨some 26, _, _, _, _, _⟩) (v := .int .i64 ((j + 1 : Nat) : Int)) rfl (by kernel_rfl) (by kernel_rfl) (by kernel_rfl) (fun _ _ _ h => h) (Or.inl ⟨by rfl, by intro w' hw'; obtain ⟨g0, g1, g2, g3, g4, g5, g6, g7, g8⟩ := KC.out _ hw'; go_simp⟩) hS0 ?_
            simp only [Act.put, List.setIfInBounds_toArray, List.set_cons_zero, List.set_cons_succ]
            refine wpAnyH_take (i := 1) (oi := ⟨some 27, _, _, _, _, _⟩) (v := .bool true) rfl (by kernel_rfl) (by kernel_rfl) (by kernel_rfl) (fun _ _ _ h => h) (Or.inl ⟨by rfl, by intro w' hw'; obtain ⟨g0, g1, g2, g3, g4, g5, g6, g7, g8⟩ := KC.out _ hw'; go_simp⟩) hS0 ?_
            simp only [Act.put, List.setIfInBounds_toArray, List.set_cons_zero, List.set_cons_succ]
            refine wpAnyH_take (i := 2) (oi := ⟨some 28, _, _, _, _, _⟩) (v := .bool true) rfl (by kernel_rfl) (by kernel_rfl) (by kernel_rfl) (fun _ _ _ h => h) (Or.inl ⟨by rfl, by intro w' hw'; obtain ⟨g0, g1, g2, g3, g4, g5, g6, g7, g8⟩ := KC.out _ hw'; go_simp⟩) hS0 ?_
            simp only [Act.put, List.setIfInBounds_toArray, List.set_cons_zero, List.set_cons_succ]
            refine wpAnyH_take (i := 3) (oi := ⟨some 29, _, _, _, _, _⟩) (v := Value.pointer (some ⟨w.heap.size, 9, none⟩)) rfl (by kernel_rfl) (by kernel_rfl) (by kernel_rfl) (fun _ _ _ h => h) (Or.inl ⟨by rfl, by intro w' hw'; obtain ⟨g0, g1, g2, g3, g4, g5, g6, g7, g8⟩ := KC.out _ hw'; go_simp⟩) hS0 ?_
            simp only [Act.put, List.setIfInBounds_toArray, List.set_cons_zero, List.set_cons_succ]
            refine wpAnyH_take (i := 4) (oi := ⟨some 30, _, _, _, _, _⟩) (v := .slice (some ⟨b, off, none⟩) ls.length cap) rfl (by kernel_rfl) (by kernel_rfl) (by kernel_rfl) (fun _ _ _ h => h) (Or.inl ⟨by rfl, by intro w' hw'; obtain ⟨g0, g1, g2, g3, g4, g5, g6, g7, g8⟩ := KC.out _ hw'; go_simp⟩) hS0 ?_
            simp only [Act.put, List.setIfInBounds_toArray, List.set_cons_zero, List.set_cons_succ]
            refine wpAnyH_take (i := 5) (oi := ⟨some 31, _, _, _, _, _⟩) (v := .int .i64 ((j + 1 : Nat) : Int)) rfl (by kernel_rfl) (by kernel_rfl) (by kernel_rfl) (fun _ _ _ h => h) (Or.inl ⟨by rfl, by intro w' hw'; obtain ⟨g0, g1, g2, g3, g4, g5, g6, g7, g8⟩ := KC.out _ hw'; go_simp⟩) hS0 ?_
            simp only [Act.put, List.setIfInBounds_toArray, List.set_cons_zero, List.set_cons_succ]
            refine wpAnyH_take (i := 6) (oi := ⟨some 32, _, _, _, _, _⟩) (v := .int .i64 (j : Int)) rfl (by kernel_rfl) (by kernel_rfl) (by kernel_rfl) (fun _ _ _ h => h) (Or.inl ⟨by rfl, by intro w' hw'; obtain ⟨g0, g1, g2, g3, g4, g5, g6, g7, g8⟩ := KC.out _ hw'; go_simp⟩) hS0 ?_
            simp only [Act.put, List.setIfInBounds_toArray, List.set_cons_zero, List.set_cons_succ]
            refine wpAnyH_take (i := 7) (oi := ⟨some 33, _, _, _, _, _⟩) (v := Value.pointer (some ⟨b, off + j * 4, none⟩)) rfl (by kernel_rfl) (by kernel_rfl) (by kernel_rfl) (fun _ _ _ h => h) (Or.inl ⟨by rfl, by intro w' hw'; obtain ⟨g0, g1, g2, g3, g4, g5, g6, g7, g8⟩ := KC.out _ hw'; go_simp⟩) hS0 ?_
            simp only [Act.put, List.setIfInBounds_toArray, List.set_cons_zero, List.set_cons_succ]
            refine wpAnyH_take (i := 8) (oi := ⟨some 34, _, _, _, _, _⟩) (v := lkV y) rfl (by kernel_rfl) (by kernel_rfl) (by kernel_rfl) (fun _ _ _ h => h) (Or.inl ⟨by rfl, by intro w' hw'; obtain ⟨g0, g1, g2, g3, g4, g5, g6, g7, g8⟩ := KC.out _ hw'; go_simp⟩) hS0 ?_
            simp only [Act.put, List.setIfInBounds_toArray, List.set_cons_zero, List.set_cons_succ]
            refine wpAnyH_take (i := 9) (oi := ⟨some 35, _, _, _, _, _⟩) (v := lkV x) rfl (by kernel_rfl) (by kernel_rfl) (by kernel_rfl) (fun _ _ _ h => h) (Or.inl ⟨by rfl, by intro w' hw'; obtain ⟨g0, g1, g2, g3, g4, g5, g6, g7, g8⟩ := KC.out _ hw'; go_simp⟩) hS0 ?_
            simp only [Act.put, List.setIfInBounds_toArray, List.set_cons_zero, List.set_cons_succ]
            refine wpAnyH_ready (rs := [10]) (by kernel_rfl) (by simp) ?_
            refine AllReadyH.cons rfl (fun K hK => ?_) AllReadyH.nil
            go_simp
            go_at_call 80
            refine (HCM.out _).mono ?_
            rintro e w4 ⟨rfl, h4⟩
            have hS1 := keep2 hS0 h4
            clear h4
            (try go_wp2_with fail)
            refine hK.out _ _ hS1 (fun _ => ?_)
            clear hK K
            (try simp only [Act.put, List.setIfInBounds_toArray, List.set_cons_zero, List.set_cons_succ])
            refine wpAnyH_take (i := 11) (oi := ⟨some 37, _, _, _, _, _⟩) (v := .bool false) rfl (by kernel_rfl) (by kernel_rfl) (by kernel_rfl) (fun _ _ _ h => h) (Or.inl ⟨by rfl, by intro w' hw'; obtain ⟨g0, g1, g2, g3, g4, g5, g6, g7, g8⟩ := KC.out _ hw'; go_simp⟩) hS1 ?_
            simp only [Act.put, List.setIfInBounds_toArray, List.set_cons_zero, List.set_cons_succ]
            refine wpAnyH_take (i := 12) (oi := ⟨some 38, _, _, _, _, _⟩) (v := .bool false) rfl (by kernel_rfl) (by kernel_rfl) (by kernel_rfl) (fun _ _ _ h => h) (Or.inl ⟨by rfl, by intro w' hw'; obtain ⟨g0, g1, g2, g3, g4, g5, g6, g7, g8⟩ := KC.out _ hw'; go_simp⟩) hS1 ?_
            simp only [Act.put, List.setIfInBounds_toArray, List.set_cons_zero, List.set_cons_succ]
            refine wpAnyH_done (by kernel_rfl) ?_ _
            have HF := Lib.hid (HN1.out.trans (hS1.mono HN1.out.size))
            clear hS1 hS0
            go_wp2
            go_roundg (ls.length - (j + 1 + 1))
            case measure => omega
            case rel => exact ⟨j + 1 + 1, by omega, Nat.le_refl _, by go_num, take_zero HZZ.out hlt HE2.out, HF.out⟩
      · have HZ : Hid (orL ((List.range ls.length).map (errA ls h.rt)) = lkC x h.rt) := orL_at _ _ hz.out ((map_get hlt).trans (by rw [errA_bad HXK.out hbad])) hbad
        have hb2 : (lkC x h.rt != 0) = true := by simpa using hbad
        go_wp2
        go_ret
        exact ⟨ret_i (HV.out.trans HZ.out).symm, HBW1.out⟩
    · have hkl : k = ls.length := by omega
      subst hkl
      have HZ := Lib.hid (all_zero hz.out)
      go_wp2
      go_ret
      exact ⟨ret_i (HV.out.trans HZ.out).symm, HBW.out⟩
end Go.Proofs.Ytenfcnappjekgaa
