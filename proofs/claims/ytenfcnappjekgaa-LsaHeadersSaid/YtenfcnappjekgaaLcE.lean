/-
  The reference's header of bytes; DecodeHeader, the program and the reference.
-/
import Derived.Test.YtenfcnappjekgaaLcD
namespace Go.Proofs.Ytenfcnappjekgaa
open Go.RowKit
set_option linter.unusedSimpArgs false
set_option linter.unusedVariables false
set_option maxHeartbeats 4000000
set_option maxRecDepth 100000

theorem rheader_bytes (l : List Nat) (v : Value) (w : World) (hl : l.length ≤ 140737489403904) (h18 : 18 ≤ l.length) (hr : Rd w v l) : Calls Try.prog 67 #[v] w fun e w' => e = .returned (hdV (hdG l)) ∧ Below w.heap.size w w' := by
  obtain ⟨G0, hG0⟩ : ∃ G, gB l 0 2 = G := ⟨_, rfl⟩
  have b0 : G0 < 4294967296 := hG0 ▸ gB_lt l hr.bytes 0 2 (by omega)
  have H0 : Hid (∀ W, Below w.heap.size w W → Calls Try.prog 68 #[v, .int .i64 0, .int .i64 2] W fun e w' => e = .returned (.int .u64 (G0 : Int)) ∧ W = w') := fun W hW => hG0 ▸ rget_any l v 0 2 W hl (hr.below hW) (by omega) (by omega)
  obtain ⟨G1, hG1⟩ : ∃ G, gB l 2 1 = G := ⟨_, rfl⟩
  have b1 : G1 < 4294967296 := hG1 ▸ gB_lt l hr.bytes 2 1 (by omega)
  have H1 : Hid (∀ W, Below w.heap.size w W → Calls Try.prog 68 #[v, .int .i64 2, .int .i64 1] W fun e w' => e = .returned (.int .u64 (G1 : Int)) ∧ W = w') := fun W hW => hG1 ▸ rget_any l v 2 1 W hl (hr.below hW) (by omega) (by omega)
  obtain ⟨G2, hG2⟩ : ∃ G, gB l 3 1 = G := ⟨_, rfl⟩
  have b2 : G2 < 4294967296 := hG2 ▸ gB_lt l hr.bytes 3 1 (by omega)
  have H2 : Hid (∀ W, Below w.heap.size w W → Calls Try.prog 68 #[v, .int .i64 3, .int .i64 1] W fun e w' => e = .returned (.int .u64 (G2 : Int)) ∧ W = w') := fun W hW => hG2 ▸ rget_any l v 3 1 W hl (hr.below hW) (by omega) (by omega)
  obtain ⟨G3, hG3⟩ : ∃ G, gB l 4 4 = G := ⟨_, rfl⟩
  have b3 : G3 < 4294967296 := hG3 ▸ gB_lt l hr.bytes 4 4 (by omega)
  have H3 : Hid (∀ W, Below w.heap.size w W → Calls Try.prog 68 #[v, .int .i64 4, .int .i64 4] W fun e w' => e = .returned (.int .u64 (G3 : Int)) ∧ W = w') := fun W hW => hG3 ▸ rget_any l v 4 4 W hl (hr.below hW) (by omega) (by omega)
  obtain ⟨G4, hG4⟩ : ∃ G, gB l 8 4 = G := ⟨_, rfl⟩
  have b4 : G4 < 4294967296 := hG4 ▸ gB_lt l hr.bytes 8 4 (by omega)
  have H4 : Hid (∀ W, Below w.heap.size w W → Calls Try.prog 68 #[v, .int .i64 8, .int .i64 4] W fun e w' => e = .returned (.int .u64 (G4 : Int)) ∧ W = w') := fun W hW => hG4 ▸ rget_any l v 8 4 W hl (hr.below hW) (by omega) (by omega)
  obtain ⟨G5, hG5⟩ : ∃ G, gB l 12 4 = G := ⟨_, rfl⟩
  have b5 : G5 < 4294967296 := hG5 ▸ gB_lt l hr.bytes 12 4 (by omega)
  have H5 : Hid (∀ W, Below w.heap.size w W → Calls Try.prog 68 #[v, .int .i64 12, .int .i64 4] W fun e w' => e = .returned (.int .u64 (G5 : Int)) ∧ W = w') := fun W hW => hG5 ▸ rget_any l v 12 4 W hl (hr.below hW) (by omega) (by omega)
  obtain ⟨G6, hG6⟩ : ∃ G, gB l 16 2 = G := ⟨_, rfl⟩
  have b6 : G6 < 4294967296 := hG6 ▸ gB_lt l hr.bytes 16 2 (by omega)
  have H6 : Hid (∀ W, Below w.heap.size w W → Calls Try.prog 68 #[v, .int .i64 16, .int .i64 2] W fun e w' => e = .returned (.int .u64 (G6 : Int)) ∧ W = w') := fun W hW => hG6 ▸ rget_any l v 16 2 W hl (hr.below hW) (by omega) (by omega)
  have HV : Hid (hdV (hdG l) = .agg #[.int .i64 (G1 : Int), .int .u32 (G3 : Int), .int .i64 (G2 : Int), .int .u32 (G4 : Int), .int .i64 (G5 : Int), .int .i64 (G0 : Int), .int .i64 (G6 : Int)]) := by unfold Hid hdG; rw [hG0, hG1, hG2, hG3, hG4, hG5, hG6]
  have BW := Lib.hid (below_alloc w (.cells #[.int .i64 0, .int .u32 0, .int .i64 0, .int .u32 0, .int .i64 0, .int .i64 0, .int .i64 0] 24))
  clear hr hG0 hG1 hG2 hG3 hG4 hG5 hG6
  go_enter Try.func67, Try.ntmps67
  go_wp2_with (first
    | (go_at_call 68; ((with_reducible refine (H0.out _ BW.out).mono ?_); rintro e w' ⟨rfl, rfl⟩))
    | (go_at_call 68; ((with_reducible refine (H1.out _ BW.out).mono ?_); rintro e w' ⟨rfl, rfl⟩))
    | (go_at_call 68; ((with_reducible refine (H2.out _ BW.out).mono ?_); rintro e w' ⟨rfl, rfl⟩))
    | (go_at_call 68; ((with_reducible refine (H3.out _ BW.out).mono ?_); rintro e w' ⟨rfl, rfl⟩))
    | (go_at_call 68; ((with_reducible refine (H4.out _ BW.out).mono ?_); rintro e w' ⟨rfl, rfl⟩))
    | (go_at_call 68; ((with_reducible refine (H5.out _ BW.out).mono ?_); rintro e w' ⟨rfl, rfl⟩))
    | (go_at_call 68; ((with_reducible refine (H6.out _ BW.out).mono ?_); rintro e w' ⟨rfl, rfl⟩)))
  refine bodyPost_ret (v := .agg #[.int .i64 (G1 : Int), .int .u32 (G3 : Int), .int .i64 (G2 : Int), .int .u32 (G4 : Int), .int .i64 (G5 : Int), .int .i64 (G0 : Int), .int .i64 (G6 : Int)]) (by simp [results, Try.results67, go_sem]) rfl ⟨by rw [HV.out], by exact below_alloc _ _⟩
theorem hdG_ok (l : List Nat) (hb : Bytes l) : HdOk (hdG l) := by
  have h := fun a n (hn : n ≤ 4) => gB_lt l hb a n hn
  have g : ∀ a n, n ≤ 4 → I64 ((gB l a n : Nat) : Int) := fun a n hn => by
    have := h a n hn
    unfold I64; omega
  unfold hdG
  exact ⟨g 2 1 (by omega), h 4 4 (by omega), g 3 1 (by omega), h 8 4 (by omega), g 12 4 (by omega), g 0 2 (by omega), g 16 2 (by omega)⟩
def hdZ : Hd := ⟨0, 0, 0, 0, 0, 0, 0⟩
def dhH (l : List Nat) : Hd := if l.length < 18 then hdZ else if hdrC (hdG l) ≠ 0 then hdZ else hdG l
def dhC (l : List Nat) : Int := if l.length < 18 then 3 else hdrC (hdG l)
theorem decHeader_any (l : List Nat) (v : Value) (w : World) (hl : l.length ≤ 140737489403904) (hr : Rd w v l) : Calls Try.prog 34 #[v] w fun e w' => e = .returned (.tuple #[hdV (dhH l), .int .i64 (dhC l)]) ∧ Below w.heap.size w w' := by
  by_cases h18 : l.length < 18
  · have HV : Hid (dhH l = hdZ ∧ dhC l = 3) := ⟨by unfold dhH; rw [if_pos h18], by unfold dhC; rw [if_pos h18]⟩
    obtain ⟨ad, cap, rfl, -, -, -⟩ := hr
    have h18' : (l.length : Int) < 18 := by omega
    go_enter Try.func34, Try.ntmps34
    go_wp2
    refine bodyPost_ret (v := .tuple #[.agg #[.int .i64 0, .int .u32 0, .int .i64 0, .int .u32 0, .int .i64 0, .int .i64 0, .int .i64 0], .int .i64 3]) (by simp [results, Try.results34, go_sem]) rfl ⟨by rw [HV.out.1, HV.out.2]; rfl, by exact below_alloc _ _⟩
  · have h18' : ¬ (l.length : Int) < 18 := by omega
    have H1 := Lib.hid (fun W hW => header_bytes l v W hl (by omega) (hr.below (w' := W) hW))
    have H2 := Lib.hid (hdr_any (hdG l) (hdG_ok l hr.bytes))
    have HV : Hid (dhH l = (if hdrC (hdG l) ≠ 0 then hdZ else hdG l) ∧ dhC l = hdrC (hdG l)) := ⟨by unfold dhH; rw [if_neg h18], by unfold dhC; rw [if_neg h18]⟩
    obtain ⟨ad, cap, rfl, -, -, -⟩ := hr
    obtain ⟨c, hc⟩ : ∃ c, hdrC (hdG l) = c := ⟨_, rfl⟩
    rw [hc] at H2 HV
    obtain ⟨X, hX⟩ : ∃ X, hdG l = X := ⟨_, rfl⟩
    rw [hX] at H1 H2 HV
    clear hc hX h18
    have B0 := Lib.hid (below_alloc w (.cells #[.int .i64 0, .int .u32 0, .int .i64 0, .int .u32 0, .int .i64 0, .int .i64 0, .int .i64 0] 24))
    have HZ0 : Hid ((w.alloc (.cells #[.int .i64 0, .int .u32 0, .int .i64 0, .int .u32 0, .int .i64 0, .int .i64 0, .int .i64 0] 24)).heap[w.heap.size]? = some (.cells #[.int .i64 0, .int .u32 0, .int .i64 0, .int .u32 0, .int .i64 0, .int .i64 0, .int .i64 0] 24 (0, 0))) := heap_alloc_new w _
    go_enter Try.func34, Try.ntmps34
    go_wp2_with fail
    go_at_call 64
    refine (H1.out _ B0.out).mono ?_
    rintro e w1 ⟨rfl, hb⟩
    have HB1 := Lib.hid (below_then B0.out hb)
    have HZ1 := Lib.hid ((hb.block _ (by simp)).trans HZ0.out)
    have HX1 := Lib.hid (heap_alloc_new w1 (hdC X))
    have hlt1 : w.heap.size < w1.heap.size := (Array.getElem?_eq_some_iff.1 HZ1.out).1
    clear hb
    go_wp2_with fail
    go_at_call 40
    refine (H2.out _).mono ?_
    rintro e w2 ⟨rfl, hb⟩
    have HB2 := Lib.hid (below_then (below_then HB1.out (below_alloc _ _)) hb)
    have HZ2 : Hid (w2.heap[w.heap.size]? = some (.cells #[.int .i64 0, .int .u32 0, .int .i64 0, .int .u32 0, .int .i64 0, .int .i64 0, .int .i64 0] 24 (0, 0))) := (hb.block _ (by simp; omega)).trans (alloc_past HZ1.out hlt1)
    have HX2 : Hid (w2.heap[w1.heap.size]? = some (.cells #[.int .i64 X.ty, .int .u32 (X.id : Int), .int .i64 X.len, .int .u32 (X.rt : Int), .int .i64 X.seq, .int .i64 X.age, .int .i64 X.sum] 24 (0, 0))) := (hb.block _ (by simp)).trans HX1.out
    clear hb
    have z0 := cell_of HZ2.out (rfl : (#[.int .i64 0, .int .u32 0, .int .i64 0, .int .u32 0, .int .i64 0, .int .i64 0, .int .i64 0] : Array Value)[0]? = some (.int .i64 0))
    have f0 : w2.frozen? ⟨w.heap.size, 0, none⟩ = false := Blk.frozen HZ2.out 0
    have z1 := cell_of HZ2.out (rfl : (#[.int .i64 0, .int .u32 0, .int .i64 0, .int .u32 0, .int .i64 0, .int .i64 0, .int .i64 0] : Array Value)[1]? = some (.int .u32 0))
    have f1 : w2.frozen? ⟨w.heap.size, 1, none⟩ = false := Blk.frozen HZ2.out 1
    have z2 := cell_of HZ2.out (rfl : (#[.int .i64 0, .int .u32 0, .int .i64 0, .int .u32 0, .int .i64 0, .int .i64 0, .int .i64 0] : Array Value)[2]? = some (.int .i64 0))
    have f2 : w2.frozen? ⟨w.heap.size, 2, none⟩ = false := Blk.frozen HZ2.out 2
    have z3 := cell_of HZ2.out (rfl : (#[.int .i64 0, .int .u32 0, .int .i64 0, .int .u32 0, .int .i64 0, .int .i64 0, .int .i64 0] : Array Value)[3]? = some (.int .u32 0))
    have f3 : w2.frozen? ⟨w.heap.size, 3, none⟩ = false := Blk.frozen HZ2.out 3
    have z4 := cell_of HZ2.out (rfl : (#[.int .i64 0, .int .u32 0, .int .i64 0, .int .u32 0, .int .i64 0, .int .i64 0, .int .i64 0] : Array Value)[4]? = some (.int .i64 0))
    have f4 : w2.frozen? ⟨w.heap.size, 4, none⟩ = false := Blk.frozen HZ2.out 4
    have z5 := cell_of HZ2.out (rfl : (#[.int .i64 0, .int .u32 0, .int .i64 0, .int .u32 0, .int .i64 0, .int .i64 0, .int .i64 0] : Array Value)[5]? = some (.int .i64 0))
    have f5 : w2.frozen? ⟨w.heap.size, 5, none⟩ = false := Blk.frozen HZ2.out 5
    have z6 := cell_of HZ2.out (rfl : (#[.int .i64 0, .int .u32 0, .int .i64 0, .int .u32 0, .int .i64 0, .int .i64 0, .int .i64 0] : Array Value)[6]? = some (.int .i64 0))
    have f6 : w2.frozen? ⟨w.heap.size, 6, none⟩ = false := Blk.frozen HZ2.out 6
    have x0 := cell_of HX2.out (rfl : (#[.int .i64 X.ty, .int .u32 (X.id : Int), .int .i64 X.len, .int .u32 (X.rt : Int), .int .i64 X.seq, .int .i64 X.age, .int .i64 X.sum] : Array Value)[0]? = some (.int .i64 X.ty))
    have x1 := cell_of HX2.out (rfl : (#[.int .i64 X.ty, .int .u32 (X.id : Int), .int .i64 X.len, .int .u32 (X.rt : Int), .int .i64 X.seq, .int .i64 X.age, .int .i64 X.sum] : Array Value)[1]? = some (.int .u32 (X.id : Int)))
    have x2 := cell_of HX2.out (rfl : (#[.int .i64 X.ty, .int .u32 (X.id : Int), .int .i64 X.len, .int .u32 (X.rt : Int), .int .i64 X.seq, .int .i64 X.age, .int .i64 X.sum] : Array Value)[2]? = some (.int .i64 X.len))
    have x3 := cell_of HX2.out (rfl : (#[.int .i64 X.ty, .int .u32 (X.id : Int), .int .i64 X.len, .int .u32 (X.rt : Int), .int .i64 X.seq, .int .i64 X.age, .int .i64 X.sum] : Array Value)[3]? = some (.int .u32 (X.rt : Int)))
    have x4 := cell_of HX2.out (rfl : (#[.int .i64 X.ty, .int .u32 (X.id : Int), .int .i64 X.len, .int .u32 (X.rt : Int), .int .i64 X.seq, .int .i64 X.age, .int .i64 X.sum] : Array Value)[4]? = some (.int .i64 X.seq))
    have x5 := cell_of HX2.out (rfl : (#[.int .i64 X.ty, .int .u32 (X.id : Int), .int .i64 X.len, .int .u32 (X.rt : Int), .int .i64 X.seq, .int .i64 X.age, .int .i64 X.sum] : Array Value)[5]? = some (.int .i64 X.age))
    have x6 := cell_of HX2.out (rfl : (#[.int .i64 X.ty, .int .u32 (X.id : Int), .int .i64 X.len, .int .u32 (X.rt : Int), .int .i64 X.seq, .int .i64 X.age, .int .i64 X.sum] : Array Value)[6]? = some (.int .i64 X.sum))
    by_cases h0 : c = 0
    · have HV2 : Hid (dhH l = X ∧ dhC l = 0) := ⟨by rw [HV.out.1, h0]; simp, by rw [HV.out.2, h0]⟩
      subst h0
      have HF : (((((((w2.setCell ⟨w.heap.size, 0, none⟩ (.int .i64 X.ty)).setCell ⟨w.heap.size, 1, none⟩ (.int .u32 (X.id : Int))).setCell ⟨w.heap.size, 2, none⟩ (.int .i64 X.len)).setCell ⟨w.heap.size, 3, none⟩ (.int .u32 (X.rt : Int))).setCell ⟨w.heap.size, 4, none⟩ (.int .i64 X.seq)).setCell ⟨w.heap.size, 5, none⟩ (.int .i64 X.age)).setCell ⟨w.heap.size, 6, none⟩ (.int .i64 X.sum)).heap[w.heap.size]? = some (.cells #[.int .i64 X.ty, .int .u32 (X.id : Int), .int .i64 X.len, .int .u32 (X.rt : Int), .int .i64 X.seq, .int .i64 X.age, .int .i64 X.sum] 24 (0, 0)) := (heap_set_eq (heap_set_eq (heap_set_eq (heap_set_eq (heap_set_eq (heap_set_eq (heap_set_eq HZ2.out)))))))
      have p0 := cell_of HF (rfl : (#[.int .i64 X.ty, .int .u32 (X.id : Int), .int .i64 X.len, .int .u32 (X.rt : Int), .int .i64 X.seq, .int .i64 X.age, .int .i64 X.sum] : Array Value)[0]? = some (.int .i64 X.ty))
      have p1 := cell_of HF (rfl : (#[.int .i64 X.ty, .int .u32 (X.id : Int), .int .i64 X.len, .int .u32 (X.rt : Int), .int .i64 X.seq, .int .i64 X.age, .int .i64 X.sum] : Array Value)[1]? = some (.int .u32 (X.id : Int)))
      have p2 := cell_of HF (rfl : (#[.int .i64 X.ty, .int .u32 (X.id : Int), .int .i64 X.len, .int .u32 (X.rt : Int), .int .i64 X.seq, .int .i64 X.age, .int .i64 X.sum] : Array Value)[2]? = some (.int .i64 X.len))
      have p3 := cell_of HF (rfl : (#[.int .i64 X.ty, .int .u32 (X.id : Int), .int .i64 X.len, .int .u32 (X.rt : Int), .int .i64 X.seq, .int .i64 X.age, .int .i64 X.sum] : Array Value)[3]? = some (.int .u32 (X.rt : Int)))
      have p4 := cell_of HF (rfl : (#[.int .i64 X.ty, .int .u32 (X.id : Int), .int .i64 X.len, .int .u32 (X.rt : Int), .int .i64 X.seq, .int .i64 X.age, .int .i64 X.sum] : Array Value)[4]? = some (.int .i64 X.seq))
      have p5 := cell_of HF (rfl : (#[.int .i64 X.ty, .int .u32 (X.id : Int), .int .i64 X.len, .int .u32 (X.rt : Int), .int .i64 X.seq, .int .i64 X.age, .int .i64 X.sum] : Array Value)[5]? = some (.int .i64 X.age))
      have p6 := cell_of HF (rfl : (#[.int .i64 X.ty, .int .u32 (X.id : Int), .int .i64 X.len, .int .u32 (X.rt : Int), .int .i64 X.seq, .int .i64 X.age, .int .i64 X.sum] : Array Value)[6]? = some (.int .i64 X.sum))
      go_wp2
      refine bodyPost_ret (v := .tuple #[.agg #[.int .i64 X.ty, .int .u32 (X.id : Int), .int .i64 X.len, .int .u32 (X.rt : Int), .int .i64 X.seq, .int .i64 X.age, .int .i64 X.sum], .int .i64 0]) (by simp [results, Try.results34, go_sem, p0, p1, p2, p3, p4, p5, p6]) rfl ⟨by rw [HV2.out.1, HV2.out.2], ?_⟩
      exact (((((((HB2.out.setCell (p := ⟨w.heap.size, 0, none⟩) (Nat.le_refl _) _).setCell (p := ⟨w.heap.size, 1, none⟩) (Nat.le_refl _) _).setCell (p := ⟨w.heap.size, 2, none⟩) (Nat.le_refl _) _).setCell (p := ⟨w.heap.size, 3, none⟩) (Nat.le_refl _) _).setCell (p := ⟨w.heap.size, 4, none⟩) (Nat.le_refl _) _).setCell (p := ⟨w.heap.size, 5, none⟩) (Nat.le_refl _) _).setCell (p := ⟨w.heap.size, 6, none⟩) (Nat.le_refl _) _)
    · have HV2 : Hid (dhH l = hdZ ∧ dhC l = c) := ⟨by rw [HV.out.1, if_pos h0], HV.out.2⟩
      have h0' : (c != 0) = true := by simpa using h0
      have HF : (((((((w2.setCell ⟨w.heap.size, 0, none⟩ (.int .i64 0)).setCell ⟨w.heap.size, 1, none⟩ (.int .u32 0)).setCell ⟨w.heap.size, 2, none⟩ (.int .i64 0)).setCell ⟨w.heap.size, 3, none⟩ (.int .u32 0)).setCell ⟨w.heap.size, 4, none⟩ (.int .i64 0)).setCell ⟨w.heap.size, 5, none⟩ (.int .i64 0)).setCell ⟨w.heap.size, 6, none⟩ (.int .i64 0)).heap[w.heap.size]? = some (.cells #[.int .i64 0, .int .u32 0, .int .i64 0, .int .u32 0, .int .i64 0, .int .i64 0, .int .i64 0] 24 (0, 0)) := (heap_set_eq (heap_set_eq (heap_set_eq (heap_set_eq (heap_set_eq (heap_set_eq (heap_set_eq HZ2.out)))))))
      have p0 := cell_of HF (rfl : (#[.int .i64 0, .int .u32 0, .int .i64 0, .int .u32 0, .int .i64 0, .int .i64 0, .int .i64 0] : Array Value)[0]? = some (.int .i64 0))
      have p1 := cell_of HF (rfl : (#[.int .i64 0, .int .u32 0, .int .i64 0, .int .u32 0, .int .i64 0, .int .i64 0, .int .i64 0] : Array Value)[1]? = some (.int .u32 0))
      have p2 := cell_of HF (rfl : (#[.int .i64 0, .int .u32 0, .int .i64 0, .int .u32 0, .int .i64 0, .int .i64 0, .int .i64 0] : Array Value)[2]? = some (.int .i64 0))
      have p3 := cell_of HF (rfl : (#[.int .i64 0, .int .u32 0, .int .i64 0, .int .u32 0, .int .i64 0, .int .i64 0, .int .i64 0] : Array Value)[3]? = some (.int .u32 0))
      have p4 := cell_of HF (rfl : (#[.int .i64 0, .int .u32 0, .int .i64 0, .int .u32 0, .int .i64 0, .int .i64 0, .int .i64 0] : Array Value)[4]? = some (.int .i64 0))
      have p5 := cell_of HF (rfl : (#[.int .i64 0, .int .u32 0, .int .i64 0, .int .u32 0, .int .i64 0, .int .i64 0, .int .i64 0] : Array Value)[5]? = some (.int .i64 0))
      have p6 := cell_of HF (rfl : (#[.int .i64 0, .int .u32 0, .int .i64 0, .int .u32 0, .int .i64 0, .int .i64 0, .int .i64 0] : Array Value)[6]? = some (.int .i64 0))
      go_wp2
      refine bodyPost_ret (v := .tuple #[.agg #[.int .i64 0, .int .u32 0, .int .i64 0, .int .u32 0, .int .i64 0, .int .i64 0, .int .i64 0], .int .i64 c]) (by simp [results, Try.results34, go_sem, p0, p1, p2, p3, p4, p5, p6]) rfl ⟨by rw [HV2.out.1, HV2.out.2]; rfl, ?_⟩
      exact (((((((HB2.out.setCell (p := ⟨w.heap.size, 0, none⟩) (Nat.le_refl _) _).setCell (p := ⟨w.heap.size, 1, none⟩) (Nat.le_refl _) _).setCell (p := ⟨w.heap.size, 2, none⟩) (Nat.le_refl _) _).setCell (p := ⟨w.heap.size, 3, none⟩) (Nat.le_refl _) _).setCell (p := ⟨w.heap.size, 4, none⟩) (Nat.le_refl _) _).setCell (p := ⟨w.heap.size, 5, none⟩) (Nat.le_refl _) _).setCell (p := ⟨w.heap.size, 6, none⟩) (Nat.le_refl _) _)
theorem rdecHeader_any (l : List Nat) (v : Value) (w : World) (hl : l.length ≤ 140737489403904) (hr : Rd w v l) : Calls Try.prog 35 #[v] w fun e w' => e = .returned (.tuple #[hdV (dhH l), .int .i64 (dhC l)]) ∧ Below w.heap.size w w' := by
  by_cases h18 : l.length < 18
  · have HV : Hid (dhH l = hdZ ∧ dhC l = 3) := ⟨by unfold dhH; rw [if_pos h18], by unfold dhC; rw [if_pos h18]⟩
    obtain ⟨ad, cap, rfl, -, -, -⟩ := hr
    have h18' : (l.length : Int) < 18 := by omega
    go_enter Try.func35, Try.ntmps35
    go_wp2
    refine bodyPost_ret (v := .tuple #[.agg #[.int .i64 0, .int .u32 0, .int .i64 0, .int .u32 0, .int .i64 0, .int .i64 0, .int .i64 0], .int .i64 3]) (by simp [results, Try.results35, go_sem]) rfl ⟨by rw [HV.out.1, HV.out.2]; rfl, by exact below_alloc _ _⟩
  · have h18' : ¬ (l.length : Int) < 18 := by omega
    have H1 := Lib.hid (fun W hW => rheader_bytes l v W hl (by omega) (hr.below (w' := W) hW))
    have H2 := Lib.hid (rhdr_any (hdG l) (hdG_ok l hr.bytes))
    have HV : Hid (dhH l = (if hdrC (hdG l) ≠ 0 then hdZ else hdG l) ∧ dhC l = hdrC (hdG l)) := ⟨by unfold dhH; rw [if_neg h18], by unfold dhC; rw [if_neg h18]⟩
    obtain ⟨ad, cap, rfl, -, -, -⟩ := hr
    obtain ⟨c, hc⟩ : ∃ c, hdrC (hdG l) = c := ⟨_, rfl⟩
    rw [hc] at H2 HV
    obtain ⟨X, hX⟩ : ∃ X, hdG l = X := ⟨_, rfl⟩
    rw [hX] at H1 H2 HV
    clear hc hX h18
    have B0 := Lib.hid (below_alloc w (.cells #[.int .i64 0, .int .u32 0, .int .i64 0, .int .u32 0, .int .i64 0, .int .i64 0, .int .i64 0] 24))
    have HZ0 : Hid ((w.alloc (.cells #[.int .i64 0, .int .u32 0, .int .i64 0, .int .u32 0, .int .i64 0, .int .i64 0, .int .i64 0] 24)).heap[w.heap.size]? = some (.cells #[.int .i64 0, .int .u32 0, .int .i64 0, .int .u32 0, .int .i64 0, .int .i64 0, .int .i64 0] 24 (0, 0))) := heap_alloc_new w _
    go_enter Try.func35, Try.ntmps35
    go_wp2_with fail
    go_at_call 67
    refine (H1.out _ B0.out).mono ?_
    rintro e w1 ⟨rfl, hb⟩
    have HB1 := Lib.hid (below_then B0.out hb)
    have HZ1 := Lib.hid ((hb.block _ (by simp)).trans HZ0.out)
    have HX1 := Lib.hid (heap_alloc_new w1 (hdC X))
    have hlt1 : w.heap.size < w1.heap.size := (Array.getElem?_eq_some_iff.1 HZ1.out).1
    clear hb
    go_wp2_with fail
    go_at_call 32
    refine (H2.out _).mono ?_
    rintro e w2 ⟨rfl, hb⟩
    have HB2 := Lib.hid (below_then (below_then HB1.out (below_alloc _ _)) hb)
    have HZ2 : Hid (w2.heap[w.heap.size]? = some (.cells #[.int .i64 0, .int .u32 0, .int .i64 0, .int .u32 0, .int .i64 0, .int .i64 0, .int .i64 0] 24 (0, 0))) := (hb.block _ (by simp; omega)).trans (alloc_past HZ1.out hlt1)
    have HX2 : Hid (w2.heap[w1.heap.size]? = some (.cells #[.int .i64 X.ty, .int .u32 (X.id : Int), .int .i64 X.len, .int .u32 (X.rt : Int), .int .i64 X.seq, .int .i64 X.age, .int .i64 X.sum] 24 (0, 0))) := (hb.block _ (by simp)).trans HX1.out
    clear hb
    have z0 := cell_of HZ2.out (rfl : (#[.int .i64 0, .int .u32 0, .int .i64 0, .int .u32 0, .int .i64 0, .int .i64 0, .int .i64 0] : Array Value)[0]? = some (.int .i64 0))
    have f0 : w2.frozen? ⟨w.heap.size, 0, none⟩ = false := Blk.frozen HZ2.out 0
    have z1 := cell_of HZ2.out (rfl : (#[.int .i64 0, .int .u32 0, .int .i64 0, .int .u32 0, .int .i64 0, .int .i64 0, .int .i64 0] : Array Value)[1]? = some (.int .u32 0))
    have f1 : w2.frozen? ⟨w.heap.size, 1, none⟩ = false := Blk.frozen HZ2.out 1
    have z2 := cell_of HZ2.out (rfl : (#[.int .i64 0, .int .u32 0, .int .i64 0, .int .u32 0, .int .i64 0, .int .i64 0, .int .i64 0] : Array Value)[2]? = some (.int .i64 0))
    have f2 : w2.frozen? ⟨w.heap.size, 2, none⟩ = false := Blk.frozen HZ2.out 2
    have z3 := cell_of HZ2.out (rfl : (#[.int .i64 0, .int .u32 0, .int .i64 0, .int .u32 0, .int .i64 0, .int .i64 0, .int .i64 0] : Array Value)[3]? = some (.int .u32 0))
    have f3 : w2.frozen? ⟨w.heap.size, 3, none⟩ = false := Blk.frozen HZ2.out 3
    have z4 := cell_of HZ2.out (rfl : (#[.int .i64 0, .int .u32 0, .int .i64 0, .int .u32 0, .int .i64 0, .int .i64 0, .int .i64 0] : Array Value)[4]? = some (.int .i64 0))
    have f4 : w2.frozen? ⟨w.heap.size, 4, none⟩ = false := Blk.frozen HZ2.out 4
    have z5 := cell_of HZ2.out (rfl : (#[.int .i64 0, .int .u32 0, .int .i64 0, .int .u32 0, .int .i64 0, .int .i64 0, .int .i64 0] : Array Value)[5]? = some (.int .i64 0))
    have f5 : w2.frozen? ⟨w.heap.size, 5, none⟩ = false := Blk.frozen HZ2.out 5
    have z6 := cell_of HZ2.out (rfl : (#[.int .i64 0, .int .u32 0, .int .i64 0, .int .u32 0, .int .i64 0, .int .i64 0, .int .i64 0] : Array Value)[6]? = some (.int .i64 0))
    have f6 : w2.frozen? ⟨w.heap.size, 6, none⟩ = false := Blk.frozen HZ2.out 6
    have x0 := cell_of HX2.out (rfl : (#[.int .i64 X.ty, .int .u32 (X.id : Int), .int .i64 X.len, .int .u32 (X.rt : Int), .int .i64 X.seq, .int .i64 X.age, .int .i64 X.sum] : Array Value)[0]? = some (.int .i64 X.ty))
    have x1 := cell_of HX2.out (rfl : (#[.int .i64 X.ty, .int .u32 (X.id : Int), .int .i64 X.len, .int .u32 (X.rt : Int), .int .i64 X.seq, .int .i64 X.age, .int .i64 X.sum] : Array Value)[1]? = some (.int .u32 (X.id : Int)))
    have x2 := cell_of HX2.out (rfl : (#[.int .i64 X.ty, .int .u32 (X.id : Int), .int .i64 X.len, .int .u32 (X.rt : Int), .int .i64 X.seq, .int .i64 X.age, .int .i64 X.sum] : Array Value)[2]? = some (.int .i64 X.len))
    have x3 := cell_of HX2.out (rfl : (#[.int .i64 X.ty, .int .u32 (X.id : Int), .int .i64 X.len, .int .u32 (X.rt : Int), .int .i64 X.seq, .int .i64 X.age, .int .i64 X.sum] : Array Value)[3]? = some (.int .u32 (X.rt : Int)))
    have x4 := cell_of HX2.out (rfl : (#[.int .i64 X.ty, .int .u32 (X.id : Int), .int .i64 X.len, .int .u32 (X.rt : Int), .int .i64 X.seq, .int .i64 X.age, .int .i64 X.sum] : Array Value)[4]? = some (.int .i64 X.seq))
    have x5 := cell_of HX2.out (rfl : (#[.int .i64 X.ty, .int .u32 (X.id : Int), .int .i64 X.len, .int .u32 (X.rt : Int), .int .i64 X.seq, .int .i64 X.age, .int .i64 X.sum] : Array Value)[5]? = some (.int .i64 X.age))
    have x6 := cell_of HX2.out (rfl : (#[.int .i64 X.ty, .int .u32 (X.id : Int), .int .i64 X.len, .int .u32 (X.rt : Int), .int .i64 X.seq, .int .i64 X.age, .int .i64 X.sum] : Array Value)[6]? = some (.int .i64 X.sum))
    by_cases h0 : c = 0
    · have HV2 : Hid (dhH l = X ∧ dhC l = 0) := ⟨by rw [HV.out.1, h0]; simp, by rw [HV.out.2, h0]⟩
      subst h0
      have HF : (((((((w2.setCell ⟨w.heap.size, 0, none⟩ (.int .i64 X.ty)).setCell ⟨w.heap.size, 1, none⟩ (.int .u32 (X.id : Int))).setCell ⟨w.heap.size, 2, none⟩ (.int .i64 X.len)).setCell ⟨w.heap.size, 3, none⟩ (.int .u32 (X.rt : Int))).setCell ⟨w.heap.size, 4, none⟩ (.int .i64 X.seq)).setCell ⟨w.heap.size, 5, none⟩ (.int .i64 X.age)).setCell ⟨w.heap.size, 6, none⟩ (.int .i64 X.sum)).heap[w.heap.size]? = some (.cells #[.int .i64 X.ty, .int .u32 (X.id : Int), .int .i64 X.len, .int .u32 (X.rt : Int), .int .i64 X.seq, .int .i64 X.age, .int .i64 X.sum] 24 (0, 0)) := (heap_set_eq (heap_set_eq (heap_set_eq (heap_set_eq (heap_set_eq (heap_set_eq (heap_set_eq HZ2.out)))))))
      have p0 := cell_of HF (rfl : (#[.int .i64 X.ty, .int .u32 (X.id : Int), .int .i64 X.len, .int .u32 (X.rt : Int), .int .i64 X.seq, .int .i64 X.age, .int .i64 X.sum] : Array Value)[0]? = some (.int .i64 X.ty))
      have p1 := cell_of HF (rfl : (#[.int .i64 X.ty, .int .u32 (X.id : Int), .int .i64 X.len, .int .u32 (X.rt : Int), .int .i64 X.seq, .int .i64 X.age, .int .i64 X.sum] : Array Value)[1]? = some (.int .u32 (X.id : Int)))
      have p2 := cell_of HF (rfl : (#[.int .i64 X.ty, .int .u32 (X.id : Int), .int .i64 X.len, .int .u32 (X.rt : Int), .int .i64 X.seq, .int .i64 X.age, .int .i64 X.sum] : Array Value)[2]? = some (.int .i64 X.len))
      have p3 := cell_of HF (rfl : (#[.int .i64 X.ty, .int .u32 (X.id : Int), .int .i64 X.len, .int .u32 (X.rt : Int), .int .i64 X.seq, .int .i64 X.age, .int .i64 X.sum] : Array Value)[3]? = some (.int .u32 (X.rt : Int)))
      have p4 := cell_of HF (rfl : (#[.int .i64 X.ty, .int .u32 (X.id : Int), .int .i64 X.len, .int .u32 (X.rt : Int), .int .i64 X.seq, .int .i64 X.age, .int .i64 X.sum] : Array Value)[4]? = some (.int .i64 X.seq))
      have p5 := cell_of HF (rfl : (#[.int .i64 X.ty, .int .u32 (X.id : Int), .int .i64 X.len, .int .u32 (X.rt : Int), .int .i64 X.seq, .int .i64 X.age, .int .i64 X.sum] : Array Value)[5]? = some (.int .i64 X.age))
      have p6 := cell_of HF (rfl : (#[.int .i64 X.ty, .int .u32 (X.id : Int), .int .i64 X.len, .int .u32 (X.rt : Int), .int .i64 X.seq, .int .i64 X.age, .int .i64 X.sum] : Array Value)[6]? = some (.int .i64 X.sum))
      go_wp2
      refine bodyPost_ret (v := .tuple #[.agg #[.int .i64 X.ty, .int .u32 (X.id : Int), .int .i64 X.len, .int .u32 (X.rt : Int), .int .i64 X.seq, .int .i64 X.age, .int .i64 X.sum], .int .i64 0]) (by simp [results, Try.results35, go_sem, p0, p1, p2, p3, p4, p5, p6]) rfl ⟨by rw [HV2.out.1, HV2.out.2], ?_⟩
      exact (((((((HB2.out.setCell (p := ⟨w.heap.size, 0, none⟩) (Nat.le_refl _) _).setCell (p := ⟨w.heap.size, 1, none⟩) (Nat.le_refl _) _).setCell (p := ⟨w.heap.size, 2, none⟩) (Nat.le_refl _) _).setCell (p := ⟨w.heap.size, 3, none⟩) (Nat.le_refl _) _).setCell (p := ⟨w.heap.size, 4, none⟩) (Nat.le_refl _) _).setCell (p := ⟨w.heap.size, 5, none⟩) (Nat.le_refl _) _).setCell (p := ⟨w.heap.size, 6, none⟩) (Nat.le_refl _) _)
    · have HV2 : Hid (dhH l = hdZ ∧ dhC l = c) := ⟨by rw [HV.out.1, if_pos h0], HV.out.2⟩
      have h0' : (c != 0) = true := by simpa using h0
      have HF : (((((((w2.setCell ⟨w.heap.size, 0, none⟩ (.int .i64 0)).setCell ⟨w.heap.size, 1, none⟩ (.int .u32 0)).setCell ⟨w.heap.size, 2, none⟩ (.int .i64 0)).setCell ⟨w.heap.size, 3, none⟩ (.int .u32 0)).setCell ⟨w.heap.size, 4, none⟩ (.int .i64 0)).setCell ⟨w.heap.size, 5, none⟩ (.int .i64 0)).setCell ⟨w.heap.size, 6, none⟩ (.int .i64 0)).heap[w.heap.size]? = some (.cells #[.int .i64 0, .int .u32 0, .int .i64 0, .int .u32 0, .int .i64 0, .int .i64 0, .int .i64 0] 24 (0, 0)) := (heap_set_eq (heap_set_eq (heap_set_eq (heap_set_eq (heap_set_eq (heap_set_eq (heap_set_eq HZ2.out)))))))
      have p0 := cell_of HF (rfl : (#[.int .i64 0, .int .u32 0, .int .i64 0, .int .u32 0, .int .i64 0, .int .i64 0, .int .i64 0] : Array Value)[0]? = some (.int .i64 0))
      have p1 := cell_of HF (rfl : (#[.int .i64 0, .int .u32 0, .int .i64 0, .int .u32 0, .int .i64 0, .int .i64 0, .int .i64 0] : Array Value)[1]? = some (.int .u32 0))
      have p2 := cell_of HF (rfl : (#[.int .i64 0, .int .u32 0, .int .i64 0, .int .u32 0, .int .i64 0, .int .i64 0, .int .i64 0] : Array Value)[2]? = some (.int .i64 0))
      have p3 := cell_of HF (rfl : (#[.int .i64 0, .int .u32 0, .int .i64 0, .int .u32 0, .int .i64 0, .int .i64 0, .int .i64 0] : Array Value)[3]? = some (.int .u32 0))
      have p4 := cell_of HF (rfl : (#[.int .i64 0, .int .u32 0, .int .i64 0, .int .u32 0, .int .i64 0, .int .i64 0, .int .i64 0] : Array Value)[4]? = some (.int .i64 0))
      have p5 := cell_of HF (rfl : (#[.int .i64 0, .int .u32 0, .int .i64 0, .int .u32 0, .int .i64 0, .int .i64 0, .int .i64 0] : Array Value)[5]? = some (.int .i64 0))
      have p6 := cell_of HF (rfl : (#[.int .i64 0, .int .u32 0, .int .i64 0, .int .u32 0, .int .i64 0, .int .i64 0, .int .i64 0] : Array Value)[6]? = some (.int .i64 0))
      go_wp2
      refine bodyPost_ret (v := .tuple #[.agg #[.int .i64 0, .int .u32 0, .int .i64 0, .int .u32 0, .int .i64 0, .int .i64 0, .int .i64 0], .int .i64 c]) (by simp [results, Try.results35, go_sem, p0, p1, p2, p3, p4, p5, p6]) rfl ⟨by rw [HV2.out.1, HV2.out.2]; rfl, ?_⟩
      exact (((((((HB2.out.setCell (p := ⟨w.heap.size, 0, none⟩) (Nat.le_refl _) _).setCell (p := ⟨w.heap.size, 1, none⟩) (Nat.le_refl _) _).setCell (p := ⟨w.heap.size, 2, none⟩) (Nat.le_refl _) _).setCell (p := ⟨w.heap.size, 3, none⟩) (Nat.le_refl _) _).setCell (p := ⟨w.heap.size, 4, none⟩) (Nat.le_refl _) _).setCell (p := ⟨w.heap.size, 5, none⟩) (Nat.le_refl _) _).setCell (p := ⟨w.heap.size, 6, none⟩) (Nat.le_refl _) _)
end Go.Proofs.Ytenfcnappjekgaa
