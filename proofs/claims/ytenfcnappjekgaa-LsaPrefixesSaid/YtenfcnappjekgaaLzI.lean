/-
  The prefix of an advertisement: the program and the reference.
-/
import Derived.Test.YtenfcnappjekgaaLyA
import Derived.Test.YtenfcnappjekgaaLzB
namespace Go.Proofs.Ytenfcnappjekgaa
open Go.RowKit
set_option linter.unusedSimpArgs false
set_option linter.unusedVariables false
set_option maxHeartbeats 4000000
set_option maxRecDepth 100000

def pfA (h : Hd) : Nat := if h.ty = 2 then M.keepN h.id h.len.toNat else if h.ty = 3 ∨ h.ty = 5 then h.id else 0
def pfN (h : Hd) : Int := if h.ty = 2 ∨ h.ty = 3 ∨ h.ty = 5 then h.len else 0
def pfB (h : Hd) : Bool := decide (h.ty = 2 ∨ h.ty = 3 ∨ h.ty = 5)
abbrev pfV (h : Hd) : Value := .tuple #[.agg #[.int .u32 (pfA h : Int), .int .i64 (pfN h)], .bool (pfB h)]
theorem hdr_len {h : Hd} (h0 : hdrC h = 0) : 0 ≤ h.len ∧ h.len ≤ 32 := by
  unfold hdrC at h0
  by_cases c1 : h.len < 0
  · simp [c1] at h0
    split at h0 <;> (try split at h0) <;> (try split at h0) <;> (try split at h0) <;> (try split at h0) <;> (try split at h0) <;> (try split at h0) <;> (try split at h0) <;> (try split at h0) <;> simp at h0
  · by_cases c2 : longest h < h.len
    · simp [c1, c2] at h0
      split at h0 <;> (try split at h0) <;> (try split at h0) <;> (try split at h0) <;> (try split at h0) <;> (try split at h0) <;> (try split at h0) <;> (try split at h0) <;> (try split at h0) <;> simp at h0
    · unfold longest at c2
      split at c2 <;> omega
theorem prefix_gen (h : Hd) (hh : HdOk h) (h0 : 0 ≤ h.len) (h1 : h.len ≤ 32) (bo bd : Bool) (aL : Option Addr) (nL cL : Nat) (aA : Option Addr) (nA cA : Nat) (co : Int) (se : Bool) (fw : Nat) (ta : Int) (w : World) :
    Calls Try.prog 38 #[lsV h bo bd (.slice aL nL cL) (.slice aA nA cA) co se fw ta] w fun e w' => e = .returned (pfV h) ∧ Below w.heap.size w w' := by
  have hid_ := hh.id
  by_cases t2 : h.ty = 2
  · have hm := make_any h.id hid_ h.len h0 h1
    rw [show M.lowN h.len 32 = h.len.toNat by unfold M.lowN; omega] at hm
    have HM := Lib.hid hm
    have HV : Hid (pfV h = .tuple #[.agg #[.int .u32 (M.keepN h.id h.len.toNat : Nat), .int .i64 h.len], .bool true]) := by unfold Hid pfV pfA pfN pfB; simp [t2]
    obtain ⟨ty, id, len, rt, seq, age, sum⟩ := h
    dsimp only at *
    subst t2
    have hz0 : ((w.alloc (lsC ⟨2, id, len, rt, seq, age, sum⟩ bo bd (.slice aL nL cL) (.slice aA nA cA) co se fw ta)).alloc (.cells #[.int .u32 0, .int .i64 0] 59)).heap[w.heap.size + 1]? = some (.cells #[.int .u32 0, .int .i64 0] 59 (0, 0)) := alloc_at (by simp)
    have HZ := Lib.hid hz0
    have B0 := Lib.hid (below2 w (lsC ⟨2, id, len, rt, seq, age, sum⟩ bo bd (.slice aL nL cL) (.slice aA nA cA) co se fw ta) (.cells #[.int .u32 0, .int .i64 0] 59))
    obtain ⟨K, hK⟩ : ∃ K, M.keepN id len.toNat = K := ⟨_, rfl⟩
    rw [hK] at HM HV
    clear hz0 hh hm hid_ hK
    go_enter Try.func38, Try.ntmps38
    go_wp2_with fail
    go_at_call 76
    refine (HM.out _).mono ?_
    rintro e w1 ⟨rfl, hb⟩
    have HB1 := Lib.hid (below_then B0.out hb)
    have HZ1 : Hid (w1.heap[w.heap.size + 1]? = some (.cells #[.int .u32 0, .int .i64 0] 59 (0, 0))) := (hb.block _ (by simp)).trans HZ.out
    have z0 : w1.cell? ⟨w.heap.size + 1, 0, none⟩ = some (.int .u32 0) := cell_of HZ1.out rfl
    have z1 : w1.cell? ⟨w.heap.size + 1, 1, none⟩ = some (.int .i64 0) := cell_of HZ1.out rfl
    have f0 : w1.frozen? ⟨w.heap.size + 1, 0, none⟩ = false := Blk.frozen HZ1.out 0
    have f1 : w1.frozen? ⟨w.heap.size + 1, 1, none⟩ = false := Blk.frozen HZ1.out 1
    have hlt : w.heap.size + 1 < w1.heap.size := (Array.getElem?_eq_some_iff.1 HZ1.out).1
    clear hb
    go_wp2
    have HF : (((w1.setCell ⟨w.heap.size + 1, 0, none⟩ (.int .u32 (K : Int))).setCell ⟨w.heap.size + 1, 1, none⟩ (.int .i64 len)).alloc (.cells #[.int .u32 (K : Int), .int .i64 len] 59)).heap[w.heap.size + 1]? = some (.cells #[.int .u32 (K : Int), .int .i64 len] 59 (0, 0)) :=
      alloc_past (heap_set_eq (heap_set_eq HZ1.out)) (by simpa using hlt)
    have p0 := cell_of HF (rfl : (#[Value.int .u32 (K : Int), .int .i64 len] : Array Value)[0]? = some (.int .u32 (K : Int)))
    have p1 := cell_of HF (rfl : (#[Value.int .u32 (K : Int), .int .i64 len] : Array Value)[1]? = some (.int .i64 len))
    refine bodyPost_ret (v := .tuple #[.agg #[.int .u32 (K : Int), .int .i64 len], .bool true]) (by simp [results, Try.results38, go_sem, p0, p1]) rfl ⟨by rw [HV.out], ?_⟩
    exact below_then ((HB1.out.setCell (p := ⟨w.heap.size + 1, 0, none⟩) (by show w.heap.size ≤ w.heap.size + 1; omega) _).setCell (p := ⟨w.heap.size + 1, 1, none⟩) (by show w.heap.size ≤ w.heap.size + 1; omega) _) (below_alloc _ _)
  have b2 : (h.ty == 2) = false := by simpa using t2
  by_cases t3 : h.ty = 3 ∨ h.ty = 5
  · have HV : Hid (pfV h = .tuple #[.agg #[.int .u32 (h.id : Int), .int .i64 h.len], .bool true]) := by unfold Hid pfV pfA pfN pfB; simp [t2, t3]
    obtain ⟨ty, id, len, rt, seq, age, sum⟩ := h
    dsimp only at *
    rcases t3 with rfl | rfl
    all_goals (
      go_enter Try.func38, Try.ntmps38
      go_wp2
      refine bodyPost_ret (v := .tuple #[.agg #[.int .u32 (id : Int), .int .i64 len], .bool true]) (by simp [results, Try.results38, go_sem]) rfl ⟨by rw [HV.out], by exact below2 _ _ _⟩)
  · have HV : Hid (pfV h = .tuple #[.agg #[.int .u32 0, .int .i64 0], .bool false]) := by unfold Hid pfV pfA pfN pfB; simp [t2, t3]
    have b3 : (h.ty == 3) = false := by rw [beq_eq_false_iff_ne]; exact fun e => t3 (Or.inl e)
    have b5 : (h.ty == 5) = false := by rw [beq_eq_false_iff_ne]; exact fun e => t3 (Or.inr e)
    go_enter Try.func38, Try.ntmps38
    go_wp2
    refine bodyPost_ret (v := .tuple #[.agg #[.int .u32 0, .int .i64 0], .bool false]) (by simp [results, Try.results38, go_sem]) rfl ⟨by rw [HV.out], by exact below2 _ _ _⟩
theorem rprefix_gen (h : Hd) (hh : HdOk h) (h0 : 0 ≤ h.len) (h1 : h.len ≤ 32) (bo bd : Bool) (aL : Option Addr) (nL cL : Nat) (aA : Option Addr) (nA cA : Nat) (co : Int) (se : Bool) (fw : Nat) (ta : Int) (w : World) :
    Calls Try.prog 39 #[lsV h bo bd (.slice aL nL cL) (.slice aA nA cA) co se fw ta] w fun e w' => e = .returned (pfV h) ∧ Below w.heap.size w w' := by
  have hid_ := hh.id
  by_cases t2 : h.ty = 2
  · have hm := rkeep_any h.id hid_ h.len.toNat (by omega)
    rw [show ((h.len.toNat : Nat) : Int) = h.len by omega] at hm
    have HM := Lib.hid hm
    have HV : Hid (pfV h = .tuple #[.agg #[.int .u32 (M.keepN h.id h.len.toNat : Nat), .int .i64 h.len], .bool true]) := by unfold Hid pfV pfA pfN pfB; simp [t2]
    obtain ⟨ty, id, len, rt, seq, age, sum⟩ := h
    dsimp only at *
    subst t2
    obtain ⟨K, hK⟩ : ∃ K, M.keepN id len.toNat = K := ⟨_, rfl⟩
    rw [hK] at HM HV
    clear hh hm hid_ hK
    have hx0 : ((w.alloc (lsC ⟨2, id, len, rt, seq, age, sum⟩ bo bd (.slice aL nL cL) (.slice aA nA cA) co se fw ta)).alloc (.cells #[.int .u32 0, .int .i64 0] 59)).heap[w.heap.size]? = some (lsC ⟨2, id, len, rt, seq, age, sum⟩ bo bd (.slice aL nL cL) (.slice aA nA cA) co se fw ta) := alloc_past (heap_alloc_new w _) (by simp)
    have k1 : ((w.alloc (lsC ⟨2, id, len, rt, seq, age, sum⟩ bo bd (.slice aL nL cL) (.slice aA nA cA) co se fw ta)).alloc (.cells #[.int .u32 0, .int .i64 0] 59)).cell? ⟨w.heap.size, 1, none⟩ = some (.int .u32 (id : Int)) := cell_of hx0 rfl
    have k2 : ((w.alloc (lsC ⟨2, id, len, rt, seq, age, sum⟩ bo bd (.slice aL nL cL) (.slice aA nA cA) co se fw ta)).alloc (.cells #[.int .u32 0, .int .i64 0] 59)).cell? ⟨w.heap.size, 2, none⟩ = some (.int .i64 len) := cell_of hx0 rfl
    clear hx0
    go_enter Try.func39, Try.ntmps39
    go_wp2_with fail
    go_region_held3 (fun w' => w'.cell? ⟨w.heap.size, 1, none⟩ = some (.int .u32 (id : Int)) ∧ w'.cell? ⟨w.heap.size, 2, none⟩ = some (.int .i64 len)) (first | (refine ⟨?_, ?_⟩ <;> assumption) | go_keep)
      (first | (go_at_call 77; ((with_reducible refine (HM.out _).mono ?_); rintro e w' ⟨rfl, rfl⟩)))
    all_goals go_wp2
    all_goals (refine bodyPost_ret (v := .tuple #[.agg #[.int .u32 (K : Int), .int .i64 len], .bool true]) (by simp [results, Try.results39, go_sem]) rfl ⟨by rw [HV.out], by exact (below2 _ _ _).drew⟩)
  have b2 : (h.ty == 2) = false := by simpa using t2
  by_cases t3 : h.ty = 3 ∨ h.ty = 5
  · have HV : Hid (pfV h = .tuple #[.agg #[.int .u32 (h.id : Int), .int .i64 h.len], .bool true]) := by unfold Hid pfV pfA pfN pfB; simp [t2, t3]
    obtain ⟨ty, id, len, rt, seq, age, sum⟩ := h
    dsimp only at *
    rcases t3 with rfl | rfl
    all_goals (
      go_enter Try.func39, Try.ntmps39
      go_wp2
      refine bodyPost_ret (v := .tuple #[.agg #[.int .u32 (id : Int), .int .i64 len], .bool true]) (by simp [results, Try.results39, go_sem]) rfl ⟨by rw [HV.out], by exact below2 _ _ _⟩)
  · have HV : Hid (pfV h = .tuple #[.agg #[.int .u32 0, .int .i64 0], .bool false]) := by unfold Hid pfV pfA pfN pfB; simp [t2, t3]
    have b3 : (h.ty == 3) = false := by rw [beq_eq_false_iff_ne]; exact fun e => t3 (Or.inl e)
    have b5 : (h.ty == 5) = false := by rw [beq_eq_false_iff_ne]; exact fun e => t3 (Or.inr e)
    go_enter Try.func39, Try.ntmps39
    go_wp2
    refine bodyPost_ret (v := .tuple #[.agg #[.int .u32 0, .int .i64 0], .bool false]) (by simp [results, Try.results39, go_sem]) rfl ⟨by rw [HV.out], by exact below2 _ _ _⟩
end Go.Proofs.Ytenfcnappjekgaa
