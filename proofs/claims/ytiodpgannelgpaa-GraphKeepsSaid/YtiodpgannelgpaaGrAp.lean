/-
  The walk of graph.Apply.
-/
import Derived.Test.YtiodpgannelgpaaGrRe
namespace Go.Proofs.Ytiodpgannelgpaa
open Go.RowKit GM Go.Sort
set_option linter.unusedSimpArgs false
set_option linter.unusedVariables false
set_option maxHeartbeats 4000000
set_option maxRecDepth 100000

/-- what Apply answers: the error and the edges -/
def apR (R N : Int) (l cs : List E) : Int × List E := if chk R N l = 0 then apF R N l cs else (chk R N l, [])
def grV (R N q : Int) (s : Value) : Value := if q = 0 then .agg #[.int .i64 R, .int .i64 N, s] else .agg #[.int .i64 0, .int .i64 0, .slice none 0 0]
/-- in the midst of Apply -/
structure ApS (w : World) (R N : Int) (s : Value) (l : List E) (W : World) : Prop where
  gb : GB w.heap.size (w.heap.size + 2) R N s l W
  z : W.heap[w.heap.size + 1]? = some (.cells #[.int .i64 0, .int .i64 0, .slice none 0 0] 24 (0, 0))
  b : Below w.heap.size w W
theorem ApS.below {w W W' : World} {R N : Int} {s : Value} {l : List E} (h : ApS w R N s l W) (k : Below W.heap.size W W') : ApS w R N s l W' :=
  ⟨h.gb.below k, (k.block _ (lt_block h.z)).trans h.z, below_then h.b k⟩
theorem ApS.chg {w W W' : World} {R N : Int} {s s' : Value} {l l' : List E} (h : ApS w R N s l W) (hg : GB w.heap.size (w.heap.size + 2) R N s' l' W') (k : Chg w.heap.size (w.heap.size + 2) W W') : ApS w R N s' l' W' :=
  ⟨hg, (k.block _ (by omega) (by omega)).trans h.z, ⟨k.os.trans h.b.os, k.tape.trans h.b.tape, k.output.trans h.b.output, Nat.le_trans h.b.size k.size, fun i hi => (k.block i (by omega) (by omega)).trans (h.b.block i hi)⟩⟩
/-- the result is stored -/
theorem ApS.stored {w W : World} {R N : Int} {s : Value} {l : List E} (h : ApS w R N s l W) (u0 u1 u2 : Value) :
    Rd3 (((W.setCell ⟨w.heap.size + 1, 0, none⟩ u0).setCell ⟨w.heap.size + 1, 1, none⟩ u1).setCell ⟨w.heap.size + 1, 2, none⟩ u2) s l ∧ Below w.heap.size w (((W.setCell ⟨w.heap.size + 1, 0, none⟩ u0).setCell ⟨w.heap.size + 1, 1, none⟩ u1).setCell ⟨w.heap.size + 1, 2, none⟩ u2) := by
  have hh : ∀ g : Nat, w.heap.size + 2 ≤ g → (((W.setCell ⟨w.heap.size + 1, 0, none⟩ u0).setCell ⟨w.heap.size + 1, 1, none⟩ u1).setCell ⟨w.heap.size + 1, 2, none⟩ u2).heap[g]? = W.heap[g]? := fun g hg => by
    rw [heap_set_ne (by omega), heap_set_ne (by omega), heap_set_ne (by omega)]
  exact ⟨rd3_own (row_congr h.gb.own (fun g hg => hh g (row_lt h.gb.own hg).1)), ((h.b.setCell (by show _ ≤ w.heap.size + 1; omega) _).setCell (by show _ ≤ w.heap.size + 1; omega) _).setCell (by show _ ≤ w.heap.size + 1; omega) _⟩
theorem apply_bad (R N : Int) (l cs : List E) (s v : Value) (w : World) (hR : I64 R) (hN : I64 N) (hr : Rd3 w s l) (hv : Rd3 w v cs) (hq : chk R N l ≠ 0) :
    Calls Try.prog 25 #[.agg #[.int .i64 R, .int .i64 N, s], v] w fun e w' => e = .returned (.tuple #[.agg #[.int .i64 0, .int .i64 0, .slice none 0 0], .int .i64 (chk R N l)]) ∧ Below w.heap.size w w' := by
  have HC : Hid (∀ W, Below w.heap.size w W → Calls Try.prog 17 #[.agg #[.int .i64 R, .int .i64 N, s]] W fun e w' => e = .returned (.int .i64 (chk R N l)) ∧ Below W.heap.size W w') := fun W hW => check_any R N s l W hR hN (hr.below hW)
  obtain ⟨ad, cap, rfl⟩ := rd3_slice hr
  obtain ⟨va, vc, rfl⟩ := rd3_slice hv
  generalize chk R N l = q at *
  have hq1 : (q == 0) = false := by simpa using hq
  have hq2 : (q != 0) = true := by simpa using hq
  have HB0 : Hid (Below w.heap.size w ((w.alloc (.cells #[.int .i64 R, .int .i64 N, .slice ad l.length cap] 24)).alloc (.cells #[.int .i64 0, .int .i64 0, .slice none 0 0] 24)) ∧ ((w.alloc (.cells #[.int .i64 R, .int .i64 N, .slice ad l.length cap] 24)).alloc (.cells #[.int .i64 0, .int .i64 0, .slice none 0 0] 24)).heap[w.heap.size + 1]? = some (.cells #[.int .i64 0, .int .i64 0, .slice none 0 0] 24 (0, 0))) := by
    refine ⟨below_two _ _ _, ?_⟩
    have := heap_alloc_new (w.alloc (.cells #[.int .i64 R, .int .i64 N, .slice ad l.length cap] 24)) (.cells #[.int .i64 0, .int .i64 0, .slice none 0 0] 24)
    rwa [show (w.alloc _).heap.size = w.heap.size + 1 by simp] at this
  clear hr hv hq hR hN
  go_enter Try.func25, Try.ntmps25
  go_wp2_with fail
  go_at_call 17
  refine (HC.out _ HB0.out.1).mono ?_
  rintro e w1 ⟨rfl, hb1⟩
  have hz := (hb1.block _ (lt_block HB0.out.2)).trans HB0.out.2
  have z0 : w1.cell? ⟨w.heap.size + 1, 0, none⟩ = some (.int .i64 0) := cell_of hz rfl
  have z1 : w1.cell? ⟨w.heap.size + 1, 1, none⟩ = some (.int .i64 0) := cell_of hz rfl
  have z2 : w1.cell? ⟨w.heap.size + 1, 2, none⟩ = some (.slice none 0 0) := cell_of hz rfl
  have y0 : w1.frozen? ⟨w.heap.size + 1, 0, none⟩ = false := free_of hz _
  have y1 : w1.frozen? ⟨w.heap.size + 1, 1, none⟩ = false := free_of hz _
  have y2 : w1.frozen? ⟨w.heap.size + 1, 2, none⟩ = false := free_of hz _
  have HB1 := Lib.hid (below_then HB0.out.1 hb1)
  clear hb1 hz
  go_wp2
  (try simp only [Exit.inBlock, Exit.then])
  refine bodyPost_ret (v := .tuple #[.agg #[.int .i64 0, .int .i64 0, .slice none 0 0], .int .i64 q]) (by rw [results_cell_tmp rfl]; go_simp) rfl ?_
  exact ⟨rfl, ((HB1.out.setCell (by show _ ≤ w.heap.size + 1; omega) _).setCell (by show _ ≤ w.heap.size + 1; omega) _).setCell (by show _ ≤ w.heap.size + 1; omega) _⟩
theorem apply_good (R N : Int) (l cs : List E) (s v : Value) (w : World) (hR : I64 R) (hN : I64 N) (hr : Rd3 w s l) (hv : Rd3 w v cs) (hq : chk R N l = 0) :
    Calls Try.prog 25 #[.agg #[.int .i64 R, .int .i64 N, s], v] w fun e w' => ∃ s', e = .returned (.tuple #[grV R N (apF R N l cs).1 s', .int .i64 (apF R N l cs).1]) ∧ ((apF R N l cs).1 = 0 → Rd3 w' s' (apF R N l cs).2) ∧ Below w.heap.size w w' := by
  have hV := chk_iff.1 hq
  have HC : Hid (∀ W, Below w.heap.size w W → Calls Try.prog 17 #[.agg #[.int .i64 R, .int .i64 N, s]] W fun e w' => e = .returned (.int .i64 0) ∧ Below W.heap.size W w') := fun W hW => by rw [← hq]; exact check_any R N s l W hR hN (hr.below hW)
  have HCL : Hid (∀ W, Below w.heap.size w W → Calls Try.prog 60 #[s] W fun e w' => ∃ v', e = .returned v' ∧ OwnL W.heap.size w' v' l ∧ Below W.heap.size W w') := fun W hb => clone_any l s W (by unfold Fits; have := hV.len; omega) (hr.below hb)
  obtain ⟨ad, cap, rfl⟩ := rd3_slice hr
  obtain ⟨va, vc, rfl, hv1, hv2, hvc⟩ := hv
  have HVC := Lib.hid hvc
  obtain ⟨K, hK⟩ : ∃ K, cs.length = K := ⟨_, rfl⟩
  rw [hK] at hv1 ⊢
  have HK := Lib.hid hK
  have HVA := Lib.hid hV
  have HB0 : Hid (Below w.heap.size w ((w.alloc (.cells #[.int .i64 R, .int .i64 N, .slice ad l.length cap] 24)).alloc (.cells #[.int .i64 0, .int .i64 0, .slice none 0 0] 24)) ∧
      ((w.alloc (.cells #[.int .i64 R, .int .i64 N, .slice ad l.length cap] 24)).alloc (.cells #[.int .i64 0, .int .i64 0, .slice none 0 0] 24)).heap[w.heap.size]? = some (.cells #[.int .i64 R, .int .i64 N, .slice ad l.length cap] 24 (0, 0)) ∧
      ((w.alloc (.cells #[.int .i64 R, .int .i64 N, .slice ad l.length cap] 24)).alloc (.cells #[.int .i64 0, .int .i64 0, .slice none 0 0] 24)).heap[w.heap.size + 1]? = some (.cells #[.int .i64 0, .int .i64 0, .slice none 0 0] 24 (0, 0))) := by
    refine ⟨below_two _ _ _, (Below.heap_alloc _ _ _ (by simp)).trans (heap_alloc_new _ _), ?_⟩
    have := heap_alloc_new (w.alloc (.cells #[.int .i64 R, .int .i64 N, .slice ad l.length cap] 24)) (.cells #[.int .i64 0, .int .i64 0, .slice none 0 0] 24)
    rwa [show (w.alloc _).heap.size = w.heap.size + 1 by simp] at this
  obtain ⟨q0, hq0⟩ : ∃ q0, apF R N l cs = q0 := ⟨_, rfl⟩
  rw [hq0]
  have HA0 : Hid (apF R N l (cs.drop 0) = q0) := by rw [List.drop_zero]; exact hq0
  obtain ⟨q, lr⟩ := q0
  dsimp only
  clear hr hvc hq hR hN hV hK hq0
  go_enter Try.func25, Try.ntmps25
  go_wp2_with fail
  go_at_call 17
  refine (HC.out _ HB0.out.1).mono ?_
  rintro e w1 ⟨rfl, hb1⟩
  have HB1 : Hid (Below w.heap.size w w1 ∧ w1.heap[w.heap.size]? = some (.cells #[.int .i64 R, .int .i64 N, .slice ad l.length cap] 24 (0, 0)) ∧ w1.heap[w.heap.size + 1]? = some (.cells #[.int .i64 0, .int .i64 0, .slice none 0 0] 24 (0, 0))) :=
    ⟨below_then HB0.out.1 hb1, (hb1.block _ (lt_block HB0.out.2.1)).trans HB0.out.2.1, (hb1.block _ (lt_block HB0.out.2.2)).trans HB0.out.2.2⟩
  have g2 : w1.cell? ⟨w.heap.size, 2, none⟩ = some (.slice ad l.length cap) := cell_of HB1.out.2.1 rfl
  clear hb1
  go_wp2_with fail
  go_at_call 60
  refine (HCL.out _ HB1.out.1).mono ?_
  rintro e w2 ⟨v2, rfl, hown, hb2⟩
  obtain ⟨ad2, cap2, rfl⟩ := rd3_slice (rd3_own hown)
  have hbox2 := (hb2.block _ (lt_block HB1.out.2.1)).trans HB1.out.2.1
  have hz2 := (hb2.block _ (lt_block HB1.out.2.2)).trans HB1.out.2.2
  have q2 : w2.cell? ⟨w.heap.size, 2, none⟩ = some (.slice ad l.length cap) := cell_of hbox2 rfl
  have y2 : w2.frozen? ⟨w.heap.size, 2, none⟩ = false := free_of hbox2 _
  have HS0 : Hid (apF R N l (cs.drop 0) = (q, lr) ∧ Valid R N l ∧ ApS w R N (.slice ad2 l.length cap2) l (w2.setCell ⟨w.heap.size, 2, none⟩ (.slice ad2 l.length cap2))) := by
    have hlt := lt_block HB1.out.2.2
    have hown' : OwnL (w.heap.size + 2) w2 (.slice ad2 l.length cap2) l := ownE_base hown (by omega)
    refine ⟨HA0.out, HVA.out, ⟨by rw [heap_set_eq hbox2]; rfl, row_congr hown' (fun g hg => heap_set_ne (by have := (row_lt hown' hg).1; omega)), by omega, by have := hb2.size; simp; omega⟩, (heap_set_ne (by omega)).trans hz2, (below_then HB1.out.1 hb2).setCell (Nat.le_refl _) _⟩
  clear hown hb2 hbox2 hz2 g2
  go_wp2_with fail
  clear q2 y2
  go_loopg [22, 8, 9] K (fun g s22 s8 s9 wr => ∃ (k : Nat) (s : Value) (l1 : List E), k ≤ K ∧ K - k ≤ g ∧ s22 = .int .i64 (k : Int) ∧ (∃ u, u = s8) ∧ (∃ u, u = s9) ∧ Hid (apF R N l1 (cs.drop k) = (q, lr) ∧ Valid R N l1 ∧ ApS w R N s l1 wr))
  case atStart => exact ⟨0, _, l, by omega, by omega, rfl, ⟨_, rfl⟩, ⟨_, rfl⟩, HS0⟩
  case round =>
    clear HS0 HB1 HB0
    obtain ⟨k, s, l1, hk, hkg, rfl, ⟨u8, rfl⟩, ⟨u9, rfl⟩, HS⟩ := hrel
    obtain ⟨ads, caps, rfl⟩ := HS.out.2.2.gb.slice
    by_cases hlt : k < K
    · obtain ⟨c, hc⟩ : ∃ y, cs[k]? = some y := ⟨_, List.getElem?_eq_getElem (by have := HK.out; omega)⟩
      obtain ⟨bl, off, rfl, hbl, c0, c1, c2⟩ := HVC.out k c hc
      have d0 := carryB HS.out.2.2.b hbl c0
      have d1 := carryB HS.out.2.2.b hbl c1
      have d2 := carryB HS.out.2.2.b hbl c2
      have HGO := Lib.hid (apF_go (R := R) (N := N) (l := l1) hc)
      have k1 : (k : Int) < (K : Int) := by omega
      have HSA : Hid (ApS w R N (.slice ads l1.length caps) l1 (wr.alloc (.cells #[.int .i64 c.1, .int .i64 c.2.1, .int .i64 c.2.2] 53))) := HS.out.2.2.below (below_alloc _ _)
      have HNV : Hid (ape R N l1 c = 0 → Valid R N (stL R N l1 c) ∧ apF R N (stL R N l1 c) (cs.drop (k + 1)) = (q, lr)) := fun h0 => by
        have e : stL R N l1 c = nxt l1 c := if_pos h0
        rw [e]
        refine ⟨nxt_valid HS.out.2.1 h0, ?_⟩
        have := HGO.out
        rw [if_pos h0, HS.out.1] at this
        exact this.symm
      have HNE : Hid (ape R N l1 c ≠ 0 → q = ape R N l1 c) := fun h0 => by
        have := HGO.out
        rw [if_neg h0, HS.out.1] at this
        exact congrArg Prod.fst this
      have HRM : Hid (c.2.2 < 0 → Calls Try.prog 61 #[.pointer (some ⟨w.heap.size, 0, none⟩), .int .i64 c.1, .int .i64 c.2.1] (wr.alloc (.cells #[.int .i64 c.1, .int .i64 c.2.1, .int .i64 c.2.2] 53)) fun e W' => ∃ s', e = .returned (.int .i64 (ape R N l1 c)) ∧ GB w.heap.size (w.heap.size + 2) R N s' (stL R N l1 c) W' ∧ Chg w.heap.size (w.heap.size + 2) (wr.alloc (.cells #[.int .i64 c.1, .int .i64 c.2.1, .int .i64 c.2.2] 53)) W') := fun h =>
        remove_any _ _ R N c _ l1 _ HS.out.2.1 HSA.out.gb h
      have HST : Hid (¬ c.2.2 < 0 → Calls Try.prog 62 #[.pointer (some ⟨w.heap.size, 0, none⟩), .agg #[.int .i64 c.1, .int .i64 c.2.1, .int .i64 c.2.2]] (wr.alloc (.cells #[.int .i64 c.1, .int .i64 c.2.1, .int .i64 c.2.2] 53)) fun e W' => ∃ s', e = .returned (.int .i64 (ape R N l1 c)) ∧ GB w.heap.size (w.heap.size + 2) R N s' (stL R N l1 c) W' ∧ Chg w.heap.size (w.heap.size + 2) (wr.alloc (.cells #[.int .i64 c.1, .int .i64 c.2.1, .int .i64 c.2.2] 53)) W') := fun h =>
        set_any _ _ R N c _ l1 _ HS.out.2.1 HSA.out.gb h
      obtain ⟨a, b, z⟩ := c
      dsimp only at d0 d1 d2 HSA HRM HST
      generalize ape R N l1 (a, b, z) = pe at *
      generalize stL R N l1 (a, b, z) = l2 at *
      clear c0 c1 c2 hc hbl
      by_cases hz : z < 0
      · have HR := Lib.hid (HRM.out hz)
        clear HRM HST
        go_wp2_with fail
        go_at_call 61
        refine HR.out.mono ?_
        rintro e w3 ⟨s3, rfl, hgb, hch⟩
        have HS3 := Lib.hid (HSA.out.chg hgb hch)
        clear hgb hch hz
        by_cases hp : pe = 0
        · have HNX := Lib.hid (HNV.out hp)
          subst hp
          go_wp2_with fail
          go_roundg (K - (k + 1))
          case measure => omega
          case rel => exact ⟨k + 1, s3, l2, by omega, Nat.le_refl _, by go_num, ⟨_, rfl⟩, ⟨_, rfl⟩, HNX.out.2, HNX.out.1, HS3.out⟩
        · have HQ : Hid (q = pe ∧ pe ≠ 0) := ⟨HNE.out hp, hp⟩
          have hq1 : (pe == 0) = false := by simpa using hp
          have hq2 : (pe != 0) = true := by simpa using hp
          have z0 : w3.cell? ⟨w.heap.size + 1, 0, none⟩ = some (.int .i64 0) := cell_of HS3.out.z rfl
          have z1 : w3.cell? ⟨w.heap.size + 1, 1, none⟩ = some (.int .i64 0) := cell_of HS3.out.z rfl
          have z2 : w3.cell? ⟨w.heap.size + 1, 2, none⟩ = some (.slice none 0 0) := cell_of HS3.out.z rfl
          have y0 : w3.frozen? ⟨w.heap.size + 1, 0, none⟩ = false := free_of HS3.out.z _
          have y1 : w3.frozen? ⟨w.heap.size + 1, 1, none⟩ = false := free_of HS3.out.z _
          have y2 : w3.frozen? ⟨w.heap.size + 1, 2, none⟩ = false := free_of HS3.out.z _
          clear hp
          go_wp2
          (try simp only [Exit.inBlock, Exit.then])
          refine bodyPost_ret (v := .tuple #[.agg #[.int .i64 0, .int .i64 0, .slice none 0 0], .int .i64 pe]) (by rw [results_cell_tmp rfl]; go_simp) rfl ?_
          exact ⟨.slice none 0 0, by rw [HQ.out.1]; unfold grV; rw [if_neg HQ.out.2], fun h => absurd (HQ.out.1.symm.trans h) HQ.out.2, (HS3.out.stored _ _ _).2⟩
      · have HR := Lib.hid (HST.out hz)
        have hz' : decide (z < 0) = false := decide_eq_false hz
        clear HRM HST
        go_wp2_with fail
        go_at_call 62
        refine HR.out.mono ?_
        rintro e w3 ⟨s3, rfl, hgb, hch⟩
        have HS3 := Lib.hid (HSA.out.chg hgb hch)
        clear hgb hch hz hz'
        by_cases hp : pe = 0
        · have HNX := Lib.hid (HNV.out hp)
          subst hp
          go_wp2_with fail
          go_roundg (K - (k + 1))
          case measure => omega
          case rel => exact ⟨k + 1, s3, l2, by omega, Nat.le_refl _, by go_num, ⟨_, rfl⟩, ⟨_, rfl⟩, HNX.out.2, HNX.out.1, HS3.out⟩
        · have HQ : Hid (q = pe ∧ pe ≠ 0) := ⟨HNE.out hp, hp⟩
          have hq1 : (pe == 0) = false := by simpa using hp
          have hq2 : (pe != 0) = true := by simpa using hp
          have z0 : w3.cell? ⟨w.heap.size + 1, 0, none⟩ = some (.int .i64 0) := cell_of HS3.out.z rfl
          have z1 : w3.cell? ⟨w.heap.size + 1, 1, none⟩ = some (.int .i64 0) := cell_of HS3.out.z rfl
          have z2 : w3.cell? ⟨w.heap.size + 1, 2, none⟩ = some (.slice none 0 0) := cell_of HS3.out.z rfl
          have y0 : w3.frozen? ⟨w.heap.size + 1, 0, none⟩ = false := free_of HS3.out.z _
          have y1 : w3.frozen? ⟨w.heap.size + 1, 1, none⟩ = false := free_of HS3.out.z _
          have y2 : w3.frozen? ⟨w.heap.size + 1, 2, none⟩ = false := free_of HS3.out.z _
          clear hp
          go_wp2
          (try simp only [Exit.inBlock, Exit.then])
          refine bodyPost_ret (v := .tuple #[.agg #[.int .i64 0, .int .i64 0, .slice none 0 0], .int .i64 pe]) (by rw [results_cell_tmp rfl]; go_simp) rfl ?_
          exact ⟨.slice none 0 0, by rw [HQ.out.1]; unfold grV; rw [if_neg HQ.out.2], fun h => absurd (HQ.out.1.symm.trans h) HQ.out.2, (HS3.out.stored _ _ _).2⟩
    · have k1 : decide ((k : Int) < (K : Int)) = false := decide_eq_false (by omega)
      have HQ : Hid (q = 0 ∧ lr = l1) := by
        have := HS.out.1
        rw [show k = cs.length by have := HK.out; omega, apF_end] at this
        exact ⟨(congrArg Prod.fst this).symm, (congrArg Prod.snd this).symm⟩
      have g0 : wr.cell? ⟨w.heap.size, 0, none⟩ = some (.int .i64 R) := cell_of HS.out.2.2.gb.box rfl
      have g1 : wr.cell? ⟨w.heap.size, 1, none⟩ = some (.int .i64 N) := cell_of HS.out.2.2.gb.box rfl
      have g2 : wr.cell? ⟨w.heap.size, 2, none⟩ = some (.slice ads l1.length caps) := cell_of HS.out.2.2.gb.box rfl
      have z0 : wr.cell? ⟨w.heap.size + 1, 0, none⟩ = some (.int .i64 0) := cell_of HS.out.2.2.z rfl
      have z1 : wr.cell? ⟨w.heap.size + 1, 1, none⟩ = some (.int .i64 0) := cell_of HS.out.2.2.z rfl
      have z2 : wr.cell? ⟨w.heap.size + 1, 2, none⟩ = some (.slice none 0 0) := cell_of HS.out.2.2.z rfl
      have y0 : wr.frozen? ⟨w.heap.size + 1, 0, none⟩ = false := free_of HS.out.2.2.z _
      have y1 : wr.frozen? ⟨w.heap.size + 1, 1, none⟩ = false := free_of HS.out.2.2.z _
      have y2 : wr.frozen? ⟨w.heap.size + 1, 2, none⟩ = false := free_of HS.out.2.2.z _
      have HFIN := Lib.hid HS.out.2.2
      clear HS
      go_wp2
      (try simp only [Exit.inBlock, Exit.then])
      refine bodyPost_ret (v := .tuple #[.agg #[.int .i64 R, .int .i64 N, .slice ads l1.length caps], .int .i64 0]) (by rw [results_cell_tmp rfl]; go_simp) rfl ?_
      exact ⟨.slice ads l1.length caps, by rw [HQ.out.1]; rfl, fun _ => by rw [HQ.out.2]; exact (HFIN.out.stored _ _ _).1, (HFIN.out.stored _ _ _).2⟩
theorem apply_any (R N : Int) (l cs : List E) (s v : Value) (w : World) (hR : I64 R) (hN : I64 N) (hr : Rd3 w s l) (hv : Rd3 w v cs) :
    Calls Try.prog 25 #[.agg #[.int .i64 R, .int .i64 N, s], v] w fun e w' => ∃ s', e = .returned (.tuple #[grV R N (apR R N l cs).1 s', .int .i64 (apR R N l cs).1]) ∧ ((apR R N l cs).1 = 0 → Rd3 w' s' (apR R N l cs).2) ∧ Below w.heap.size w w' := by
  by_cases hq : chk R N l = 0
  · have e : apR R N l cs = apF R N l cs := if_pos hq
    rw [e]; exact apply_good R N l cs s v w hR hN hr hv hq
  · have e : apR R N l cs = (chk R N l, []) := if_neg hq
    rw [e]
    refine (apply_bad R N l cs s v w hR hN hr hv hq).mono ?_
    rintro e w' ⟨rfl, hb⟩
    exact ⟨.slice none 0 0, by unfold grV; rw [if_neg hq], fun h => absurd h hq, hb⟩
end Go.Proofs.Ytiodpgannelgpaa
