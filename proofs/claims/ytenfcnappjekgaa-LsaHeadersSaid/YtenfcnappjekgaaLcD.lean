/-
  The reader: a number; the header of bytes, the program and the reference.
-/
import Derived.Test.YtenfcnappjekgaaLcC
import Derived.Test.YtenfcnappjekgaaLaU
import Derived.Deep.QuietTactic
import Derived.BigQuiet
namespace Go.Proofs.Ytenfcnappjekgaa
open Go.RowKit
set_option linter.unusedSimpArgs false
set_option linter.unusedVariables false
set_option maxHeartbeats 4000000
set_option maxRecDepth 100000

def gB (l : List Nat) (a n : Nat) : Nat := beV ((l.drop a).take n)
/-- the reader's box is block g; only it may have changed, below g nothing -/
def RdrI (g : Nat) (v : Value) (a : Nat) (w : World) : Prop := w.heap[g]? = some (.cells #[v, .int .i64 (a : Int), .bool false] 110 (0, 0))
theorem gB_lt (l : List Nat) (hb : Bytes l) (a n : Nat) (h : n ≤ 4) : gB l a n < 4294967296 := by
  unfold gB
  have h1 := beV_lt _ ((hb.drop a).take n)
  have h2 : ((l.drop a).take n).length ≤ 4 := by rw [List.length_take]; omega
  have h3 : 256 ^ ((l.drop a).take n).length ≤ 256 ^ 4 := Nat.pow_le_pow_right (by omega) h2
  have : (256 : Nat) ^ 4 = 4294967296 := by decide
  omega
theorem number_any (l : List Nat) (v : Value) (g a n : Nat) (w w0 : World) (hl : l.length ≤ 140737489403904) (hr : Rd w0 v l) (hg : w0.heap.size ≤ g) (hb0 : Below w0.heap.size w0 w) (hi : RdrI g v a w) (hn : n ≤ 4) (ha : a + n ≤ l.length) :
    Calls Try.prog 91 #[.pointer (some ⟨g, 0, none⟩), .int .i64 (n : Int)] w fun e w' => e = .returned (.int .u64 (gB l a n : Int)) ∧ RdrI g v (a + n) w' ∧ Below g w w' := by
  have hrw := hr.below hb0
  obtain ⟨ad, cap, rfl, hc1, -, -⟩ := id hrw
  have k0 : w.cell? ⟨g, 0, none⟩ = some (.slice ad l.length cap) := cell_of hi rfl
  have k1 : w.cell? ⟨g, 1, none⟩ = some (.int .i64 (a : Int)) := cell_of hi rfl
  have k2 : w.cell? ⟨g, 2, none⟩ = some (.bool false) := cell_of hi rfl
  have f1 : w.frozen? ⟨g, 1, none⟩ = false := Blk.frozen hi 1
  have f2 : w.frozen? ⟨g, 2, none⟩ = false := Blk.frozen hi 2
  have HI := Lib.hid hi
  have HG : Hid (∀ W : World, Below w.heap.size w W → Calls Try.prog 65 #[.slice ad l.length cap, .int .i64 (a : Int), .int .i64 (n : Int)] W fun e w' => e = .returned (.tuple #[.int .u64 (gB l a n : Int), .bool true]) ∧ W = w') := fun W hW => get_yes l _ a n W hl (hrw.below hW) (by omega) ha
  have qa : IntKind.i64.wrap ((a : Int) + (n : Int)) = (a : Int) + (n : Int) := IntWalk.i64_in _ (by omega)
  have q0 : -9223372036854775808 ≤ (a : Int) + (n : Int) := by omega
  have q1 : (a : Int) + (n : Int) ≤ 9223372036854775807 := by omega
  generalize gB l a n = G at *
  have HD : Hid (Below w.heap.size w w.drew) := below_drewN (Below.refl _ _) 1
  clear hr hb0 hi hrw
  go_enter Try.func91, Try.ntmps91
  go_wp2_with fail
  go_region_held3 (fun w' => w'.cell? ⟨g, 0, none⟩ = some (.slice ad l.length cap) ∧ w'.cell? ⟨g, 1, none⟩ = some (.int .i64 (a : Int))) (first | (refine ⟨?_, ?_⟩ <;> assumption) | go_keep)
    (first | (go_at_call 65; refine (HG.out _ HD.out).mono ?_; rintro e w' ⟨rfl, rfl⟩))
  all_goals go_wp2
  all_goals go_ret
  all_goals (
    refine ⟨rfl, ?_, ?_⟩
    · have h := heap_set_eq (o := 2) (u := .bool false) (heap_set_eq (o := 1) (u := .int .i64 ((a : Int) + (n : Int))) HI.out)
      unfold RdrI
      rw [show ((a + n : Nat) : Int) = (a : Int) + (n : Int) by push_cast; rfl]
      exact h
    · exact (((Below.refl g w).setCell (p := ⟨g, 1, none⟩) (Nat.le_refl _) _).setCell (p := ⟨g, 2, none⟩) (Nat.le_refl _) _).drew)
theorem number_n {l : List Nat} {v : Value} {g a n b : Nat} {N : Int} {w w0 : World} (hN : (n : Int) = N) (hab : a + n = b) (G : Nat) (hG : gB l a n = G) (hl : l.length ≤ 140737489403904) (hr : Rd w0 v l) (hg : w0.heap.size ≤ g) (hb0 : Below w0.heap.size w0 w) (hi : RdrI g v a w) (hn : n ≤ 4) (ha : a + n ≤ l.length) :
    Calls Try.prog 91 #[.pointer (some ⟨g, 0, none⟩), .int .i64 N] w fun e w' => e = .returned (.int .u64 (G : Int)) ∧ RdrI g v b w' ∧ Below g w w' := by
  subst hN hab hG
  exact number_any l v g a n w w0 hl hr hg hb0 hi hn ha
def hdG (l : List Nat) : Hd := ⟨gB l 2 1, gB l 4 4, gB l 3 1, gB l 8 4, gB l 12 4, gB l 0 2, gB l 16 2⟩
theorem header_bytes (l : List Nat) (v : Value) (w : World) (hl : l.length ≤ 140737489403904) (h18 : 18 ≤ l.length) (hr : Rd w v l) : Calls Try.prog 64 #[v] w fun e w' => e = .returned (hdV (hdG l)) ∧ Below w.heap.size w w' := by
  obtain ⟨G0, hG0⟩ : ∃ G, gB l 0 2 = G := ⟨_, rfl⟩
  have b0 : G0 < 4294967296 := hG0 ▸ gB_lt l hr.bytes 0 2 (by omega)
  obtain ⟨G1, hG1⟩ : ∃ G, gB l 2 1 = G := ⟨_, rfl⟩
  have b1 : G1 < 4294967296 := hG1 ▸ gB_lt l hr.bytes 2 1 (by omega)
  obtain ⟨G2, hG2⟩ : ∃ G, gB l 3 1 = G := ⟨_, rfl⟩
  have b2 : G2 < 4294967296 := hG2 ▸ gB_lt l hr.bytes 3 1 (by omega)
  obtain ⟨G3, hG3⟩ : ∃ G, gB l 4 4 = G := ⟨_, rfl⟩
  have b3 : G3 < 4294967296 := hG3 ▸ gB_lt l hr.bytes 4 4 (by omega)
  obtain ⟨G4, hG4⟩ : ∃ G, gB l 8 4 = G := ⟨_, rfl⟩
  have b4 : G4 < 4294967296 := hG4 ▸ gB_lt l hr.bytes 8 4 (by omega)
  obtain ⟨G5, hG5⟩ : ∃ G, gB l 12 4 = G := ⟨_, rfl⟩
  have b5 : G5 < 4294967296 := hG5 ▸ gB_lt l hr.bytes 12 4 (by omega)
  obtain ⟨G6, hG6⟩ : ∃ G, gB l 16 2 = G := ⟨_, rfl⟩
  have b6 : G6 < 4294967296 := hG6 ▸ gB_lt l hr.bytes 16 2 (by omega)
  have HV : Hid (hdV (hdG l) = .agg #[.int .i64 (G1 : Int), .int .u32 (G3 : Int), .int .i64 (G2 : Int), .int .u32 (G4 : Int), .int .i64 (G5 : Int), .int .i64 (G0 : Int), .int .i64 (G6 : Int)]) := by unfold Hid hdG; rw [hG0, hG1, hG2, hG3, hG4, hG5, hG6]
  have HR := Lib.hid hr
  have HG0 := Lib.hid hG0
  have HG1 := Lib.hid hG1
  have HG2 := Lib.hid hG2
  have HG3 := Lib.hid hG3
  have HG4 := Lib.hid hG4
  have HG5 := Lib.hid hG5
  have HG6 := Lib.hid hG6
  obtain ⟨ad, cap, rfl, -, -, -⟩ := id hr
  have HB : Hid (Below w.heap.size w ((w.alloc (.cells #[.int .i64 0, .int .u32 0, .int .i64 0, .int .u32 0, .int .i64 0, .int .i64 0, .int .i64 0] 24)).alloc (.cells #[.slice ad l.length cap, .int .i64 0, .bool false] 110))) := below2 _ _ _
  have HI : Hid (RdrI (w.heap.size + 1) (.slice ad l.length cap) 0 ((w.alloc (.cells #[.int .i64 0, .int .u32 0, .int .i64 0, .int .u32 0, .int .i64 0, .int .i64 0, .int .i64 0] 24)).alloc (.cells #[.slice ad l.length cap, .int .i64 0, .bool false] 110))) := alloc_at (by simp)
  have HZ : Hid (((w.alloc (.cells #[.int .i64 0, .int .u32 0, .int .i64 0, .int .u32 0, .int .i64 0, .int .i64 0, .int .i64 0] 24)).alloc (.cells #[.slice ad l.length cap, .int .i64 0, .bool false] 110)).heap[w.heap.size]? = some (.cells #[.int .i64 0, .int .u32 0, .int .i64 0, .int .u32 0, .int .i64 0, .int .i64 0, .int .i64 0] 24 (0, 0))) := alloc_past (heap_alloc_new w _) (by simp)
  clear hr hG0 hG1 hG2 hG3 hG4 hG5 hG6
  go_enter Try.func64, Try.ntmps64
  go_wp2_with fail
  go_at_call 91
  refine (number_n (w0 := w) (a := 0) (n := 2) (b := 2) rfl rfl G0 HG0.out hl HR.out (Nat.le_succ _) HB.out HI.out (by omega) (by omega)).mono ?_
  rintro e w1 ⟨rfl, hi, hb⟩
  have HI := Lib.hid hi
  have HB := Lib.hid (HB.out.trans (hb.mono (Nat.le_succ _)))
  have HZ := Lib.hid ((hb.block _ (Nat.lt_succ_self _)).trans HZ.out)
  clear hi hb
  go_wp2_with fail
  go_at_call 91
  refine (number_n (w0 := w) (a := 2) (n := 1) (b := 3) rfl rfl G1 HG1.out hl HR.out (Nat.le_succ _) HB.out HI.out (by omega) (by omega)).mono ?_
  rintro e w2 ⟨rfl, hi, hb⟩
  have HI := Lib.hid hi
  have HB := Lib.hid (HB.out.trans (hb.mono (Nat.le_succ _)))
  have HZ := Lib.hid ((hb.block _ (Nat.lt_succ_self _)).trans HZ.out)
  clear hi hb
  go_wp2_with fail
  go_at_call 91
  refine (number_n (w0 := w) (a := 3) (n := 1) (b := 4) rfl rfl G2 HG2.out hl HR.out (Nat.le_succ _) HB.out HI.out (by omega) (by omega)).mono ?_
  rintro e w3 ⟨rfl, hi, hb⟩
  have HI := Lib.hid hi
  have HB := Lib.hid (HB.out.trans (hb.mono (Nat.le_succ _)))
  have HZ := Lib.hid ((hb.block _ (Nat.lt_succ_self _)).trans HZ.out)
  clear hi hb
  go_wp2_with fail
  go_at_call 91
  refine (number_n (w0 := w) (a := 4) (n := 4) (b := 8) rfl rfl G3 HG3.out hl HR.out (Nat.le_succ _) HB.out HI.out (by omega) (by omega)).mono ?_
  rintro e w4 ⟨rfl, hi, hb⟩
  have HI := Lib.hid hi
  have HB := Lib.hid (HB.out.trans (hb.mono (Nat.le_succ _)))
  have HZ := Lib.hid ((hb.block _ (Nat.lt_succ_self _)).trans HZ.out)
  clear hi hb
  go_wp2_with fail
  go_at_call 91
  refine (number_n (w0 := w) (a := 8) (n := 4) (b := 12) rfl rfl G4 HG4.out hl HR.out (Nat.le_succ _) HB.out HI.out (by omega) (by omega)).mono ?_
  rintro e w5 ⟨rfl, hi, hb⟩
  have HI := Lib.hid hi
  have HB := Lib.hid (HB.out.trans (hb.mono (Nat.le_succ _)))
  have HZ := Lib.hid ((hb.block _ (Nat.lt_succ_self _)).trans HZ.out)
  clear hi hb
  go_wp2_with fail
  go_at_call 91
  refine (number_n (w0 := w) (a := 12) (n := 4) (b := 16) rfl rfl G5 HG5.out hl HR.out (Nat.le_succ _) HB.out HI.out (by omega) (by omega)).mono ?_
  rintro e w6 ⟨rfl, hi, hb⟩
  have HI := Lib.hid hi
  have HB := Lib.hid (HB.out.trans (hb.mono (Nat.le_succ _)))
  have HZ := Lib.hid ((hb.block _ (Nat.lt_succ_self _)).trans HZ.out)
  clear hi hb
  go_wp2_with fail
  go_at_call 91
  refine (number_n (w0 := w) (a := 16) (n := 2) (b := 18) rfl rfl G6 HG6.out hl HR.out (Nat.le_succ _) HB.out HI.out (by omega) (by omega)).mono ?_
  rintro e w7 ⟨rfl, hi, hb⟩
  have HI := Lib.hid hi
  have HB := Lib.hid (HB.out.trans (hb.mono (Nat.le_succ _)))
  have HZ := Lib.hid ((hb.block _ (Nat.lt_succ_self _)).trans HZ.out)
  clear hi hb
  have z0 := cell_of HZ.out (rfl : (#[.int .i64 0, .int .u32 0, .int .i64 0, .int .u32 0, .int .i64 0, .int .i64 0, .int .i64 0] : Array Value)[0]? = some (.int .i64 0))
  have f0 : w7.frozen? ⟨w.heap.size, 0, none⟩ = false := Blk.frozen HZ.out 0
  have z1 := cell_of HZ.out (rfl : (#[.int .i64 0, .int .u32 0, .int .i64 0, .int .u32 0, .int .i64 0, .int .i64 0, .int .i64 0] : Array Value)[1]? = some (.int .u32 0))
  have f1 : w7.frozen? ⟨w.heap.size, 1, none⟩ = false := Blk.frozen HZ.out 1
  have z2 := cell_of HZ.out (rfl : (#[.int .i64 0, .int .u32 0, .int .i64 0, .int .u32 0, .int .i64 0, .int .i64 0, .int .i64 0] : Array Value)[2]? = some (.int .i64 0))
  have f2 : w7.frozen? ⟨w.heap.size, 2, none⟩ = false := Blk.frozen HZ.out 2
  have z3 := cell_of HZ.out (rfl : (#[.int .i64 0, .int .u32 0, .int .i64 0, .int .u32 0, .int .i64 0, .int .i64 0, .int .i64 0] : Array Value)[3]? = some (.int .u32 0))
  have f3 : w7.frozen? ⟨w.heap.size, 3, none⟩ = false := Blk.frozen HZ.out 3
  have z4 := cell_of HZ.out (rfl : (#[.int .i64 0, .int .u32 0, .int .i64 0, .int .u32 0, .int .i64 0, .int .i64 0, .int .i64 0] : Array Value)[4]? = some (.int .i64 0))
  have f4 : w7.frozen? ⟨w.heap.size, 4, none⟩ = false := Blk.frozen HZ.out 4
  have z5 := cell_of HZ.out (rfl : (#[.int .i64 0, .int .u32 0, .int .i64 0, .int .u32 0, .int .i64 0, .int .i64 0, .int .i64 0] : Array Value)[5]? = some (.int .i64 0))
  have f5 : w7.frozen? ⟨w.heap.size, 5, none⟩ = false := Blk.frozen HZ.out 5
  have z6 := cell_of HZ.out (rfl : (#[.int .i64 0, .int .u32 0, .int .i64 0, .int .u32 0, .int .i64 0, .int .i64 0, .int .i64 0] : Array Value)[6]? = some (.int .i64 0))
  have f6 : w7.frozen? ⟨w.heap.size, 6, none⟩ = false := Blk.frozen HZ.out 6
  have HF : (((((((w7.setCell ⟨w.heap.size, 0, none⟩ (.int .i64 (G1 : Int))).setCell ⟨w.heap.size, 1, none⟩ (.int .u32 (G3 : Int))).setCell ⟨w.heap.size, 2, none⟩ (.int .i64 (G2 : Int))).setCell ⟨w.heap.size, 3, none⟩ (.int .u32 (G4 : Int))).setCell ⟨w.heap.size, 4, none⟩ (.int .i64 (G5 : Int))).setCell ⟨w.heap.size, 5, none⟩ (.int .i64 (G0 : Int))).setCell ⟨w.heap.size, 6, none⟩ (.int .i64 (G6 : Int))).heap[w.heap.size]? = some (.cells #[.int .i64 (G1 : Int), .int .u32 (G3 : Int), .int .i64 (G2 : Int), .int .u32 (G4 : Int), .int .i64 (G5 : Int), .int .i64 (G0 : Int), .int .i64 (G6 : Int)] 24 (0, 0)) := (heap_set_eq (heap_set_eq (heap_set_eq (heap_set_eq (heap_set_eq (heap_set_eq (heap_set_eq HZ.out)))))))
  have p0 := cell_of HF (rfl : (#[.int .i64 (G1 : Int), .int .u32 (G3 : Int), .int .i64 (G2 : Int), .int .u32 (G4 : Int), .int .i64 (G5 : Int), .int .i64 (G0 : Int), .int .i64 (G6 : Int)] : Array Value)[0]? = some (.int .i64 (G1 : Int)))
  have p1 := cell_of HF (rfl : (#[.int .i64 (G1 : Int), .int .u32 (G3 : Int), .int .i64 (G2 : Int), .int .u32 (G4 : Int), .int .i64 (G5 : Int), .int .i64 (G0 : Int), .int .i64 (G6 : Int)] : Array Value)[1]? = some (.int .u32 (G3 : Int)))
  have p2 := cell_of HF (rfl : (#[.int .i64 (G1 : Int), .int .u32 (G3 : Int), .int .i64 (G2 : Int), .int .u32 (G4 : Int), .int .i64 (G5 : Int), .int .i64 (G0 : Int), .int .i64 (G6 : Int)] : Array Value)[2]? = some (.int .i64 (G2 : Int)))
  have p3 := cell_of HF (rfl : (#[.int .i64 (G1 : Int), .int .u32 (G3 : Int), .int .i64 (G2 : Int), .int .u32 (G4 : Int), .int .i64 (G5 : Int), .int .i64 (G0 : Int), .int .i64 (G6 : Int)] : Array Value)[3]? = some (.int .u32 (G4 : Int)))
  have p4 := cell_of HF (rfl : (#[.int .i64 (G1 : Int), .int .u32 (G3 : Int), .int .i64 (G2 : Int), .int .u32 (G4 : Int), .int .i64 (G5 : Int), .int .i64 (G0 : Int), .int .i64 (G6 : Int)] : Array Value)[4]? = some (.int .i64 (G5 : Int)))
  have p5 := cell_of HF (rfl : (#[.int .i64 (G1 : Int), .int .u32 (G3 : Int), .int .i64 (G2 : Int), .int .u32 (G4 : Int), .int .i64 (G5 : Int), .int .i64 (G0 : Int), .int .i64 (G6 : Int)] : Array Value)[5]? = some (.int .i64 (G0 : Int)))
  have p6 := cell_of HF (rfl : (#[.int .i64 (G1 : Int), .int .u32 (G3 : Int), .int .i64 (G2 : Int), .int .u32 (G4 : Int), .int .i64 (G5 : Int), .int .i64 (G0 : Int), .int .i64 (G6 : Int)] : Array Value)[6]? = some (.int .i64 (G6 : Int)))
  go_wp2
  refine bodyPost_ret (v := .agg #[.int .i64 (G1 : Int), .int .u32 (G3 : Int), .int .i64 (G2 : Int), .int .u32 (G4 : Int), .int .i64 (G5 : Int), .int .i64 (G0 : Int), .int .i64 (G6 : Int)]) (by simp [results, Try.results64, go_sem, p0, p1, p2, p3, p4, p5, p6]) rfl ⟨by rw [HV.out], ?_⟩
  exact (((((((HB.out.setCell (p := ⟨w.heap.size, 0, none⟩) (Nat.le_refl _) _).setCell (p := ⟨w.heap.size, 1, none⟩) (Nat.le_refl _) _).setCell (p := ⟨w.heap.size, 2, none⟩) (Nat.le_refl _) _).setCell (p := ⟨w.heap.size, 3, none⟩) (Nat.le_refl _) _).setCell (p := ⟨w.heap.size, 4, none⟩) (Nat.le_refl _) _).setCell (p := ⟨w.heap.size, 5, none⟩) (Nat.le_refl _) _).setCell (p := ⟨w.heap.size, 6, none⟩) (Nat.le_refl _) _)
end Go.Proofs.Ytenfcnappjekgaa
