/-
  The walk of the law Permits.
-/
import Derived.Test.YtiiojkekcnmddaaDoorPlJ
import Derived.Test.YtiiojkekcnmddaaDoorPlO
import Derived.BigQuiet
namespace Go.Proofs.YtiiojkekcnmddaaDoor
open Go.RowKit
set_option linter.unusedSimpArgs false
set_option linter.unusedVariables false
set_option maxHeartbeats 2000000
set_option maxRecDepth 100000

theorem keep2 {w W w1 : World} {p0 p1 : Addr} {c0 c1 : Value} (h : W.cell? p0 = some c0 ∧ W.cell? p1 = some c1 ∧ Below w.heap.size w W) (hb : Below W.heap.size W w1) :
    w1.cell? p0 = some c0 ∧ w1.cell? p1 = some c1 ∧ Below w.heap.size w w1 := ⟨carry hb h.1, carry hb h.2.1, below_then h.2.2 hb⟩
theorem keep7 {w W w1 : World} {p0 p1 p2 p3 p4 p5 p6 : Addr} {c0 c1 c2 c3 c4 c5 c6 : Value} (h : W.cell? p0 = some c0 ∧ W.cell? p1 = some c1 ∧ W.cell? p2 = some c2 ∧ W.cell? p3 = some c3 ∧ W.cell? p4 = some c4 ∧ W.cell? p5 = some c5 ∧ W.cell? p6 = some c6 ∧ Below w.heap.size w W) (hb : Below W.heap.size W w1) :
    w1.cell? p0 = some c0 ∧ w1.cell? p1 = some c1 ∧ w1.cell? p2 = some c2 ∧ w1.cell? p3 = some c3 ∧ w1.cell? p4 = some c4 ∧ w1.cell? p5 = some c5 ∧ w1.cell? p6 = some c6 ∧ Below w.heap.size w w1 := by
  obtain ⟨h0, h1, h2, h3, h4, h5, h6, h7⟩ := h
  exact ⟨carry hb h0, carry hb h1, carry hb h2, carry hb h3, carry hb h4, carry hb h5, carry hb h6, below_then h7 hb⟩
theorem lawPermits (rs : List Ru) (v : Value) (p : Nat × Int) (w : World) (hT : Lt w) (hv : RdU w v rs) (hp : p.1 < 4294967296) (hp2 : I64 p.2) :
    Calls Tryd.prog 4 #[v, .agg #[.int .u32 (p.1 : Int), .int .i64 p.2]] w fun e w' => e = .returned (.bool true) ∧ Below w.heap.size w w' := by
  have HT : Hid (∀ W, Below w.heap.size w W → Lt W) := fun W hW => hT.below hW
  have H15 : Hid (∀ W, Below w.heap.size w W → Calls Tryd.prog 15 #[v, .agg #[.int .u32 (p.1 : Int), .int .i64 p.2]] W fun e w' => e = .returned (.bool (permB rs p)) ∧ Below W.heap.size W w') := fun W hW => permits_any rs p v W (hv.below hW) hp hp2
  have H16 : Hid (∀ W, Below w.heap.size w W → Calls Tryd.prog 16 #[v, .agg #[.int .u32 (p.1 : Int), .int .i64 p.2]] W fun e w' => e = .returned (.bool (permB rs p)) ∧ Below W.heap.size W w') := fun W hW => rpermits_any rs p v W (hv.below hW) hp hp2
  obtain ⟨q, hq⟩ : ∃ q, permB rs p = q := ⟨_, rfl⟩
  rw [hq] at H15 H16
  have hb : Below w.heap.size w (w.alloc (.cells #[.int .u32 (p.1 : Int), .int .i64 p.2] 25)) := below_alloc _ _
  have hx : (w.alloc (.cells #[.int .u32 (p.1 : Int), .int .i64 p.2] 25)).cell? ⟨w.heap.size, 0, none⟩ = some (.int .u32 (p.1 : Int)) := cell_of (heap_alloc_new _ _) rfl
  have hy : (w.alloc (.cells #[.int .u32 (p.1 : Int), .int .i64 p.2] 25)).cell? ⟨w.heap.size, 1, none⟩ = some (.int .i64 p.2) := cell_of (heap_alloc_new _ _) rfl
  obtain ⟨ad, cap, rfl, ⟨h1, h1'⟩, hok, hc⟩ := hv
  have HC := Lib.hid hc
  have HOK := Lib.hid hok
  obtain ⟨L, hL⟩ : ∃ L, rs.length = L := ⟨_, rfl⟩
  rw [hL] at h1 H15 H16 ⊢
  have HL := Lib.hid hL
  clear hc hL hok hT hq
  have tq : (q == q) = true := by simp
  by_cases h200 : (200 : Int) < (L : Int)
  · have HB := Lib.hid hb
    clear hb hx hy HC
    go_enter Tryd.func4, Tryd.ntmps4
    go_wp2_with fail
    go_at_call 12
    refine (awake_any _ (HT.out _ HB.out)).mono ?_
    rintro e w1 ⟨rfl, h1⟩
    have HB1 := Lib.hid (below_then HB.out h1)
    clear h1
    go_wp2
    go_ret
    exact ⟨rfl, HB1.out⟩
  · have HW : Hid (Below w.heap.size w (w.alloc (.cells #[.int .u32 (p.1 : Int), .int .i64 p.2] 25)) ∧ (w.alloc (.cells #[.int .u32 (p.1 : Int), .int .i64 p.2] 25)).cell? ⟨w.heap.size, 0, none⟩ = some (.int .u32 (p.1 : Int)) ∧ (w.alloc (.cells #[.int .u32 (p.1 : Int), .int .i64 p.2] 25)).cell? ⟨w.heap.size, 1, none⟩ = some (.int .i64 p.2)) := ⟨hb, hx, hy⟩
    clear hb hx hy
    go_enter Tryd.func4, Tryd.ntmps4
    go_wp2_with fail
    go_loopg [6, 13] L (fun g s6 s13 wr => ∃ k : Nat, k ≤ L ∧ L - k ≤ g ∧ s13 = .int .i64 (k : Int) ∧ (∃ q, q = s6) ∧ Hid (Below w.heap.size w wr ∧ wr.cell? ⟨w.heap.size, 0, none⟩ = some (.int .u32 (p.1 : Int)) ∧ wr.cell? ⟨w.heap.size, 1, none⟩ = some (.int .i64 p.2)))
    case atStart => exact ⟨0, by omega, by omega, rfl, ⟨_, rfl⟩, HW⟩
    case round =>
      clear HW
      obtain ⟨k, hk, hkg, rfl, ⟨u6, rfl⟩, HW⟩ := hrel
      by_cases hlt : k < L
      · obtain ⟨z, hz⟩ : ∃ z, rs[k]? = some z := ⟨_, List.getElem?_eq_getElem (by rw [HL.out]; exact hlt)⟩
        obtain ⟨b, off, rfl, hb, e0, e1, e2, e3, e4⟩ := HC.out k z hz
        have c0 := carry HW.out.1 e0
        have c1 := carry HW.out.1 e1
        have c2 := carry HW.out.1 e2
        have c3 := carry HW.out.1 e3
        have c4 := carry HW.out.1 e4
        have p0 := carry (below_alloc wr (ruC z)) HW.out.2.1
        have p1 := carry (below_alloc wr (ruC z)) HW.out.2.2
        have hzn := heap_alloc_new wr (ruC z)
        have k0 : (0 : Int) ≤ (k : Int) := by omega
        have k1 : (k : Int) < (L : Int) := by omega
        have hzok := HOK.out z (List.mem_of_getElem? hz)
        have HB1 : Below w.heap.size w (wr.alloc (ruC z)).drew := (below_then HW.out.1 (below_alloc _ _)).drew
        have M1 := Lib.hid (match_any z p hzok hp hp2)
        have M2 := Lib.hid (rmatch_any z p hzok hp hp2)
        obtain ⟨m, hm⟩ : ∃ m, matR z p = m := ⟨_, rfl⟩
        rw [hm] at M1 M2
        have tm : (m == m) = true := by simp
        obtain ⟨pm, ⟨a, n⟩, mn, mx⟩ := z
        dsimp only at *
        have q0 := cell_of hzn (rfl : (#[Value.bool pm, .int .u32 (a : Int), .int .i64 n, .int .i64 mn, .int .i64 mx] : Array Value)[0]? = some (.bool pm))
        have q1 := cell_of hzn (rfl : (#[Value.bool pm, .int .u32 (a : Int), .int .i64 n, .int .i64 mn, .int .i64 mx] : Array Value)[1]? = some (.int .u32 (a : Int)))
        have q2 := cell_of hzn (rfl : (#[Value.bool pm, .int .u32 (a : Int), .int .i64 n, .int .i64 mn, .int .i64 mx] : Array Value)[2]? = some (.int .i64 n))
        have q3 := cell_of hzn (rfl : (#[Value.bool pm, .int .u32 (a : Int), .int .i64 n, .int .i64 mn, .int .i64 mx] : Array Value)[3]? = some (.int .i64 mn))
        have q4 := cell_of hzn (rfl : (#[Value.bool pm, .int .u32 (a : Int), .int .i64 n, .int .i64 mn, .int .i64 mx] : Array Value)[4]? = some (.int .i64 mx))
        clear hz e0 e1 e2 e3 e4 hb hzok HW hzn hm
        go_wp2_with fail
        go_region_held3 (fun w' => w'.cell? ⟨w.heap.size, 0, none⟩ = some (.int .u32 (p.1 : Int)) ∧ w'.cell? ⟨w.heap.size, 1, none⟩ = some (.int .i64 p.2) ∧ w'.cell? ⟨wr.heap.size, 0, none⟩ = some (.bool pm) ∧ w'.cell? ⟨wr.heap.size, 1, none⟩ = some (.int .u32 a) ∧ w'.cell? ⟨wr.heap.size, 2, none⟩ = some (.int .i64 n) ∧ w'.cell? ⟨wr.heap.size, 3, none⟩ = some (.int .i64 mn) ∧ w'.cell? ⟨wr.heap.size, 4, none⟩ = some (.int .i64 mx) ∧ Below w.heap.size w w')
          (first | exact ⟨p0, p1, q0, q1, q2, q3, q4, HB1⟩ | exact ⟨by simpa using p0, by simpa using p1, by simp, by simp, by simp, by simp, by simp, HB1⟩ | go_keep)
          (first
            | (go_at_call 13; refine (M1.out _).mono ?_; rintro e w3 ⟨rfl, hb⟩; have hk := keep7 ‹_› hb; clear hb)
            | (go_at_call 14; refine (M2.out _).mono ?_; rintro e w3 ⟨rfl, hb⟩; have hk := keep7 ‹_› hb; clear hb))
        all_goals (
          obtain ⟨j0, j1, _, _, _, _, _, j7⟩ := hk
          have HW2 := Lib.hid (And.intro j7 (And.intro j0 j1))
          clear c0 c1 c2 c3 c4 p0 p1 q0 q1 q2 q3 q4 j0 j1 j7 HB1
          go_wp2_with fail)
        all_goals (
          go_roundg (L - (k + 1))
          case measure => omega
          case rel => exact ⟨k + 1, by omega, Nat.le_refl _, by go_num, ⟨_, rfl⟩, HW2⟩)
      · have k1 : decide ((k : Int) < (L : Int)) = false := decide_eq_false (by omega)
        have HB1 : Below w.heap.size w wr.drew := HW.out.1.drew
        have p0 := HW.out.2.1
        have p1 := HW.out.2.2
        clear HC
        go_wp2_with fail
        go_region_held3 (fun w' => w'.cell? ⟨w.heap.size, 0, none⟩ = some (.int .u32 (p.1 : Int)) ∧ w'.cell? ⟨w.heap.size, 1, none⟩ = some (.int .i64 p.2) ∧ Below w.heap.size w w')
          (first | exact ⟨p0, p1, HB1⟩ | exact ⟨by simpa using p0, by simpa using p1, HB1⟩ | go_keep)
          (first
            | (go_at_call 15; refine (H15.out _ (And.right (And.right ‹_ ∧ _ ∧ Below _ w _›))).mono ?_; rintro e w3 ⟨rfl, hb⟩; have hk := keep2 ‹_› hb; clear hb)
            | (go_at_call 16; refine (H16.out _ (And.right (And.right ‹_ ∧ _ ∧ Below _ w _›))).mono ?_; rintro e w3 ⟨rfl, hb⟩; have hk := keep2 ‹_› hb; clear hb)
            | (go_at_call 12; refine (awake_any _ (HT.out _ (And.right (And.right ‹_ ∧ _ ∧ Below _ w _›)))).mono ?_; rintro e w3 ⟨rfl, hb⟩; have hk := keep2 ‹_› hb; clear hb))
        all_goals go_wp2
        all_goals go_ret
        all_goals exact ⟨rfl, hk.2.2⟩
end Go.Proofs.YtiiojkekcnmddaaDoor
