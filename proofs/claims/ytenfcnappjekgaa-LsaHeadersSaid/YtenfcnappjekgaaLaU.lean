/-
  Seal, given Check, the encoding and the two copies.
-/
import Derived.Test.YtenfcnappjekgaaLaT
import Derived.Deep.RegionLaw
import Derived.Laws.Tables
import Derived.Laws.CopyOwn
namespace Go.Proofs.Ytenfcnappjekgaa
open Go.RowKit
set_option linter.unusedSimpArgs false
set_option linter.unusedVariables false
set_option maxHeartbeats 4000000
set_option maxRecDepth 100000

theorem heap_set_eq {w : World} {g o : Nat} {cs : Array Value} {t : TypeId} {u : Value} (h : w.heap[g]? = some (.cells cs t (0, 0))) :
    (w.setCell ⟨g, o, none⟩ u).heap[g]? = some (.cells (cs.setIfInBounds o u) t (0, 0)) := by
  have hlt := (Array.getElem?_eq_some_iff.1 h).1
  have h' : w.heap[g] = .cells cs t (0, 0) := (Array.getElem?_eq_some_iff.1 h).2
  show (w.heap.modify g _)[g]? = _
  rw [Array.getElem?_eq_getElem (by simpa using hlt), Array.getElem_modify_self, h']
  rfl
abbrev zerC : Obj := .cells #[.int .i64 0, .int .u32 0, .int .i64 0, .int .u32 0, .int .i64 0, .int .i64 0, .int .i64 0, .bool false, .bool false, .slice none 0 0, .slice none 0 0, .int .i64 0, .bool false, .int .u32 0, .int .i64 0] 29
/-- what hangs on blocks behind g + 1 only -/
def Keeps (g : Nat) (Q : World → Value → Prop) : Prop := ∀ w w' v, Q w v → (∀ k, g + 1 < k → k < w.heap.size → w'.heap[k]? = w.heap[k]?) → Q w' v
def SealP (w : World) (QL QA : World → Value → Prop) (h : Hd) (bo bd : Bool) (co : Int) (se : Bool) (fw : Nat) (ta : Int) (e : Ending) (w' : World) : Prop :=
  ∃ vL vA, e = .returned (.tuple #[lsV h bo bd vL vA co se fw ta, .int .i64 0]) ∧ QL w' vL ∧ QA w' vA ∧ Below w.heap.size w w'
theorem below_undrewB {w w1 : World} (h : Below w.drew.heap.size w.drew w1) : Below w.heap.size w w1 := ⟨h.os, h.tape, h.output, h.size, h.block⟩
theorem seal_gen (h : HdN) (bo bd : Bool) (aL : Option Addr) (nL cL : Nat) (aA : Option Addr) (nA cA : Nat) (co : Int) (se : Bool) (fw : Nat) (ta : Int) (E : List Nat) (h18 : 18 ≤ E.length) (hEl : E.length ≤ 1000000) (S : Int) (hS : sumL E = S) (w : World)
    (QL QA : World → Value → Prop) (hQL : Keeps w.heap.size QL) (hQA : Keeps w.heap.size QA)
    (hC : ∀ W, Below w.heap.size w W → Calls Try.prog 13 #[lsV h.z bo bd (.slice aL nL cL) (.slice aA nA cA) co se fw ta] W fun e w' => e = .returned (.int .i64 0) ∧ Below W.heap.size W w')
    (hE : ∀ W, Below w.heap.size w W → Calls Try.prog 57 #[lsV h.z bo bd (.slice aL nL cL) (.slice aA nA cA) co se fw ta] W fun e w' => ∃ v, e = .returned v ∧ OwnB W w' v E ∧ Below W.heap.size W w')
    (hL : ∀ W, Below w.heap.size w W → w.heap.size + 1 < W.heap.size → Calls Try.prog 58 #[.slice aL nL cL] W fun e w' => ∃ a n c, e = .returned (.slice a n c) ∧ QL w' (.slice a n c) ∧ Below W.heap.size W w')
    (hA : ∀ W, Below w.heap.size w W → w.heap.size + 1 < W.heap.size → Calls Try.prog 59 #[.slice aA nA cA] W fun e w' => ∃ a n c, e = .returned (.slice a n c) ∧ QA w' (.slice a n c) ∧ Below W.heap.size W w') :
    Calls Try.prog 22 #[lsV h.z bo bd (.slice aL nL cL) (.slice aA nA cA) co se fw ta] w fun e w' => SealP w QL QA ⟨h.z.ty, h.z.id, h.z.len, h.z.rt, h.z.seq, h.z.age, S⟩ bo bd co se fw ta e w' := by
  have hx0 : ((w.alloc (lsC h.z bo bd (.slice aL nL cL) (.slice aA nA cA) co se fw ta)).alloc zerC).heap[w.heap.size]? = some (lsC h.z bo bd (.slice aL nL cL) (.slice aA nA cA) co se fw ta) := alloc_past (heap_alloc_new w _) (by simp)
  have hz0 : ((w.alloc (lsC h.z bo bd (.slice aL nL cL) (.slice aA nA cA) co se fw ta)).alloc zerC).heap[w.heap.size + 1]? = some zerC := alloc_at (by simp)
  have HX := Lib.hid hx0
  have HZ := Lib.hid hz0
  have B0 := Lib.hid (below2 w (lsC h.z bo bd (.slice aL nL cL) (.slice aA nA cA) co se fw ta) zerC)
  have H1 := Lib.hid (hC _ B0.out)
  have HE := Lib.hid hE
  have HL := Lib.hid hL
  have HA := Lib.hid hA
  clear hC hE hx0 hz0 hL hA
  go_enter Try.func22, Try.ntmps22
  go_wp2_with fail
  go_at_call 13
  refine H1.out.mono ?_
  rintro e w1 ⟨rfl, h1⟩
  have HB1 := Lib.hid (below_then B0.out h1)
  have HX1 := Lib.hid ((h1.block _ (by simp; omega)).trans HX.out)
  have HZ1 := Lib.hid ((h1.block _ (by simp)).trans HZ.out)
  obtain ⟨k0, k1, k2, k3, k4, k5, k6, k7, k8, k9, k10, k11, k12, k13, k14⟩ := cellsL HX1.out
  have HE2 := Lib.hid (HE.out _ HB1.out)
  clear h1
  go_wp2_with fail
  go_at_call 57
  refine HE2.out.mono ?_
  rintro e w2 ⟨v, rfl, ho, h2⟩
  have HB2 := Lib.hid (below_then HB1.out h2)
  have HX2 := Lib.hid ((h2.block _ (Array.getElem?_eq_some_iff.1 HX1.out).1).trans HX1.out)
  have HZ2 := Lib.hid ((h2.block _ (Array.getElem?_eq_some_iff.1 HZ1.out).1).trans HZ1.out)
  have HS := Lib.hid (hS ▸ sum_any E v w2 hEl h18 ho.rd)
  clear h2 ho k0 k1 k2 k3 k4 k5 k6 k7 k8 k9 k10 k11 k12 k13 k14
  go_wp2_with fail
  go_at_call 56
  refine HS.out.mono ?_
  rintro e w3 ⟨rfl, h3⟩
  have HB3 := Lib.hid (below_then HB2.out h3)
  have HX3 := Lib.hid ((h3.block _ (Array.getElem?_eq_some_iff.1 HX2.out).1).trans HX2.out)
  have HZ3 := Lib.hid ((h3.block _ (Array.getElem?_eq_some_iff.1 HZ2.out).1).trans HZ2.out)
  have k6 : w3.cell? ⟨w.heap.size, 6, none⟩ = some (.int .i64 h.z.sum) := cell_of HX3.out rfl
  have f6 : w3.frozen? ⟨w.heap.size, 6, none⟩ = false := Blk.frozen HX3.out 6
  clear h3 hS h18 hEl
  go_upto_region 5 with fail
  have HX4 : Hid ((w3.setCell ⟨w.heap.size, 6, none⟩ (.int .i64 S)).heap[w.heap.size]? = some (lsC ⟨h.z.ty, h.z.id, h.z.len, h.z.rt, h.z.seq, h.z.age, S⟩ bo bd (.slice aL nL cL) (.slice aA nA cA) co se fw ta)) := heap_set_eq HX3.out
  have HZ4 : Hid ((w3.setCell ⟨w.heap.size, 6, none⟩ (.int .i64 S)).heap[w.heap.size + 1]? = some zerC) := (Below.heap_setCell w3 ⟨w.heap.size, 6, none⟩ (.int .i64 S) (w.heap.size + 1) (by show w.heap.size + 1 ≠ w.heap.size; omega)).trans HZ3.out
  have HB4 : Hid (Below w.heap.size w (w3.setCell ⟨w.heap.size, 6, none⟩ (.int .i64 S))) := HB3.out.setCell (by show w.heap.size ≤ w.heap.size; omega) _
  have k9 : (w3.setCell ⟨w.heap.size, 6, none⟩ (.int .i64 S)).cell? ⟨w.heap.size, 9, none⟩ = some (.slice aL nL cL) := cell_of HX4.out rfl
  have k10 : (w3.setCell ⟨w.heap.size, 6, none⟩ (.int .i64 S)).cell? ⟨w.heap.size, 10, none⟩ = some (.slice aA nA cA) := cell_of HX4.out rfl
  have HFIN : Hid (∀ (w5 w6 : World) (a5 : Option Addr) (n5 c5 : Nat) (a6 : Option Addr) (n6 c6 : Nat), QL w5 (.slice a5 n5 c5) → Below (w3.setCell ⟨w.heap.size, 6, none⟩ (.int .i64 S)).heap.size (w3.setCell ⟨w.heap.size, 6, none⟩ (.int .i64 S)) w5 → QA w6 (.slice a6 n6 c6) → Below w5.heap.size w5 w6 →
      QL ((w6.setCell ⟨w.heap.size, 9, none⟩ (.slice a5 n5 c5)).setCell ⟨w.heap.size, 10, none⟩ (.slice a6 n6 c6)) (.slice a5 n5 c5) ∧ QA ((w6.setCell ⟨w.heap.size, 9, none⟩ (.slice a5 n5 c5)).setCell ⟨w.heap.size, 10, none⟩ (.slice a6 n6 c6)) (.slice a6 n6 c6) ∧
      ((w6.setCell ⟨w.heap.size, 9, none⟩ (.slice a5 n5 c5)).setCell ⟨w.heap.size, 10, none⟩ (.slice a6 n6 c6)).heap[w.heap.size]? = some (lsC ⟨h.z.ty, h.z.id, h.z.len, h.z.rt, h.z.seq, h.z.age, S⟩ bo bd (.slice a5 n5 c5) (.slice a6 n6 c6) co se fw ta) ∧
      ((w6.setCell ⟨w.heap.size, 9, none⟩ (.slice a5 n5 c5)).setCell ⟨w.heap.size, 10, none⟩ (.slice a6 n6 c6)).heap[w.heap.size + 1]? = some zerC ∧ Below w.heap.size w ((w6.setCell ⟨w.heap.size, 9, none⟩ (.slice a5 n5 c5)).setCell ⟨w.heap.size, 10, none⟩ (.slice a6 n6 c6))) := fun w5 w6 a5 n5 c5 a6 n6 c6 q5 b5 q6 b6 => by
    have hg := (Array.getElem?_eq_some_iff.1 HX4.out).1
    have hg2 := (Array.getElem?_eq_some_iff.1 HZ4.out).1
    have b := b5.trans (b6.mono b5.size)
    have x6 := (b.block _ hg).trans HX4.out
    have z6 := (b.block _ hg2).trans HZ4.out
    have far : ∀ k, w.heap.size < k → ((w6.setCell ⟨w.heap.size, 9, none⟩ (.slice a5 n5 c5)).setCell ⟨w.heap.size, 10, none⟩ (.slice a6 n6 c6)).heap[k]? = w6.heap[k]? := fun k hk =>
      (Below.heap_setCell _ ⟨w.heap.size, 10, none⟩ _ _ (by show k ≠ w.heap.size; omega)).trans (Below.heap_setCell _ ⟨w.heap.size, 9, none⟩ _ _ (by show k ≠ w.heap.size; omega))
    refine ⟨hQL _ _ _ q5 (fun k h1 h2 => (far k (by omega)).trans (b6.block k h2)), hQA _ _ _ q6 (fun k h1 h2 => far k (by omega)), heap_set_eq (heap_set_eq x6), ?_, ?_⟩
    · exact (Below.heap_setCell _ ⟨w.heap.size, 10, none⟩ _ _ (by show w.heap.size + 1 ≠ w.heap.size; omega)).trans ((Below.heap_setCell _ ⟨w.heap.size, 9, none⟩ _ _ (by show w.heap.size + 1 ≠ w.heap.size; omega)).trans z6)
    · exact ((HB4.out.trans (b.mono HB4.out.size)).setCell (by show w.heap.size ≤ w.heap.size; omega) _).setCell (by show w.heap.size ≤ w.heap.size; omega) _
  have HKEEP : Hid (∀ (w5 : World), Below (w3.setCell ⟨w.heap.size, 6, none⟩ (.int .i64 S)).heap.size (w3.setCell ⟨w.heap.size, 6, none⟩ (.int .i64 S)) w5 → w5.cell? ⟨w.heap.size, 9, none⟩ = some (.slice aL nL cL) ∧ w5.cell? ⟨w.heap.size, 10, none⟩ = some (.slice aA nA cA) ∧ w5.frozen? ⟨w.heap.size, 9, none⟩ = false ∧ w5.frozen? ⟨w.heap.size, 10, none⟩ = false) := fun w5 b5 => by
    have hg := (Array.getElem?_eq_some_iff.1 HX4.out).1
    have x5 := (b5.block _ hg).trans HX4.out
    exact ⟨cell_of x5 rfl, cell_of x5 rfl, Blk.frozen x5 9, Blk.frozen x5 10⟩
  clear k6 f6
  generalize w3.setCell ⟨w.heap.size, 6, none⟩ (.int .i64 S) = w4 at *
  go_cut [18] (fun s18 wx => ∃ a5 n5 c5 a6 n6 c6, QL wx (.slice a5 n5 c5) ∧ QA wx (.slice a6 n6 c6) ∧ wx.heap[w.heap.size]? = some (lsC ⟨h.z.ty, h.z.id, h.z.len, h.z.rt, h.z.seq, h.z.age, S⟩ bo bd (.slice a5 n5 c5) (.slice a6 n6 c6) co se fw ta) ∧ wx.heap[w.heap.size + 1]? = some zerC ∧ Below w.heap.size w wx)
  case first =>
    go_region_law (first
      | (go_simp
         go_at_call 58
         refine (HL.out _ HB4.out.drew (Array.getElem?_eq_some_iff.1 HZ4.out).1).mono ?_
         rintro e w5 ⟨a5, n5, c5, rfl, q5, b5⟩
         have HB5 := Lib.hid (below_undrewB b5)
         obtain ⟨k9, k10, f9, f10⟩ := HKEEP.out _ HB5.out
         have HQ5 := Lib.hid q5
         clear q5 b5)
      | (go_simp
         go_at_call 59
         refine (HA.out _ (HB4.out.trans (HB5.out.mono HB4.out.size)) (Nat.lt_of_lt_of_le (Array.getElem?_eq_some_iff.1 HZ4.out).1 HB5.out.size)).mono ?_
         rintro e w6 ⟨a6, n6, c6, rfl, q6, b6⟩
         have HB6 := Lib.hid b6
         have HQ6 := Lib.hid q6
         obtain ⟨k9', k10', f9', f10'⟩ := HKEEP.out _ (HB5.out.trans (b6.mono HB5.out.size))
         clear q6 b6))
    all_goals (
      go_wp2_with fail
      have hf := HFIN.out _ _ _ _ _ _ _ _ HQ5.out HB5.out HQ6.out HB6.out
      go_meet
      exact ⟨_, _, _, _, _, _, hf.1, hf.2.1, hf.2.2.1, hf.2.2.2.1, hf.2.2.2.2⟩)
  case rest =>
    obtain ⟨a5, n5, c5, a6, n6, c6, q1, q2, hx, hz, hb⟩ := hcut
    have hQL2 : ∀ (cs : Array Value) (W : World) (v : Value), QL W v → QL (W.setRow (w.heap.size + 1) cs) v := fun cs W v q => hQL _ _ _ q (fun k h1 _ => setRow_other _ _ _ _ (by omega))
    have hQA2 : ∀ (cs : Array Value) (W : World) (v : Value), QA W v → QA (W.setRow (w.heap.size + 1) cs) v := fun cs W v q => hQA _ _ _ q (fun k h1 _ => setRow_other _ _ _ _ (by omega))
    have HQ1 := Lib.hid q1
    have HQ2 := Lib.hid q2
    have HXX := Lib.hid hx
    have HZZ := Lib.hid hz
    have HBB := Lib.hid hb
    obtain ⟨m0, m1, m2, m3, m4, m5, m6, m7, m8, m9, m10, m11, m12, m13, m14⟩ := cellsL hx
    clear hx hz hb q1 q2 HFIN HKEEP k9 k10
    have HROW : Hid ((wc.setRow (w.heap.size + 1) #[.int .i64 h.z.ty, .int .u32 (h.z.id : Int), .int .i64 h.z.len, .int .u32 (h.z.rt : Int), .int .i64 h.z.seq, .int .i64 h.z.age, .int .i64 S, .bool bo, .bool bd, .slice a5 n5 c5, .slice a6 n6 c6, .int .i64 co, .bool se, .int .u32 (fw : Int), .int .i64 ta]).heap[w.heap.size + 1]? = some (lsC ⟨h.z.ty, h.z.id, h.z.len, h.z.rt, h.z.seq, h.z.age, S⟩ bo bd (.slice a5 n5 c5) (.slice a6 n6 c6) co se fw ta)) := setRow_heap _ _ _ _ _ _ HZZ.out
    have HEND : Hid (SealP w QL QA ⟨h.z.ty, h.z.id, h.z.len, h.z.rt, h.z.seq, h.z.age, S⟩ bo bd co se fw ta (.returned (.tuple #[lsV ⟨h.z.ty, h.z.id, h.z.len, h.z.rt, h.z.seq, h.z.age, S⟩ bo bd (.slice a5 n5 c5) (.slice a6 n6 c6) co se fw ta, .int .i64 0])) (wc.setRow (w.heap.size + 1) #[.int .i64 h.z.ty, .int .u32 (h.z.id : Int), .int .i64 h.z.len, .int .u32 (h.z.rt : Int), .int .i64 h.z.seq, .int .i64 h.z.age, .int .i64 S, .bool bo, .bool bd, .slice a5 n5 c5, .slice a6 n6 c6, .int .i64 co, .bool se, .int .u32 (fw : Int), .int .i64 ta])) :=
      ⟨_, _, rfl, hQL2 _ _ _ HQ1.out, hQA2 _ _ _ HQ2.out, below_setRow HBB.out (by omega) _⟩
    go_upto_region 6 with fail
    refine wp_region_lit ?_
    refine wpList_plain rfl fun K hK => ?_
    go_simp
    refine hK _ _ ?_
    refine wpList_store_row rfl 29 _ _ rfl (w.heap.size + 1) #[.int .i64 h.z.ty, .int .u32 (h.z.id : Int), .int .i64 h.z.len, .int .u32 (h.z.rt : Int), .int .i64 h.z.seq, .int .i64 h.z.age, .int .i64 S, .bool bo, .bool bd, .slice a5 n5 c5, .slice a6 n6 c6, .int .i64 co, .bool se, .int .u32 (fw : Int), .int .i64 ta] rfl rfl 29 _ HZZ.out (by kernel_rfl) (by simp) (by simp [Value.oneCell']) ?_
    clear hK K m0 m1 m2 m3 m4 m5 m6 m7 m8 m9 m10 m11 m12 m13 m14
    obtain ⟨p0, p1, p2, p3, p4, p5, p6, p7, p8, p9, p10, p11, p12, p13, p14⟩ := cellsL HROW.out
    generalize wc.setRow (w.heap.size + 1) #[.int .i64 h.z.ty, .int .u32 (h.z.id : Int), .int .i64 h.z.len, .int .u32 (h.z.rt : Int), .int .i64 h.z.seq, .int .i64 h.z.age, .int .i64 S, .bool bo, .bool bd, .slice a5 n5 c5, .slice a6 n6 c6, .int .i64 co, .bool se, .int .u32 (fw : Int), .int .i64 ta] = wd at *
    go_wp2
    refine bodyPost_ret (v := .tuple #[lsV ⟨h.z.ty, h.z.id, h.z.len, h.z.rt, h.z.seq, h.z.age, S⟩ bo bd (.slice a5 n5 c5) (.slice a6 n6 c6) co se fw ta, .int .i64 0]) (by simp [results, Try.results22, go_sem, p0, p1, p2, p3, p4, p5, p6, p7, p8, p9, p10, p11, p12, p13, p14]) rfl HEND.out
end Go.Proofs.Ytenfcnappjekgaa
