/-
  The walk of the law Trimmed.
-/
import Derived.Test.YtiiojkekcnmddaaDoorPlQ
import Derived.Test.YtiiojkekcnmddaaDoorLwB
import Derived.BigQuiet
namespace Go.Proofs.YtiiojkekcnmddaaDoor
open Go.RowKit
set_option linter.unusedSimpArgs false
set_option linter.unusedVariables false
set_option maxHeartbeats 2000000
set_option maxRecDepth 100000

theorem keepT2 {w W w1 : World} {p0 p1 : Addr} {c0 c1 x : Value} {l : List Ru} (h : W.cell? p0 = some c0 ∧ W.cell? p1 = some c1 ∧ RdU W x l ∧ Below w.heap.size w W) (hb : Below W.heap.size W w1) :
    w1.cell? p0 = some c0 ∧ w1.cell? p1 = some c1 ∧ RdU w1 x l ∧ Below w.heap.size w w1 := ⟨carry hb h.1, carry hb h.2.1, h.2.2.1.below hb, below_then h.2.2.2 hb⟩
theorem keepT5 {w W w1 : World} {p0 p1 p2 p3 p4 : Addr} {c0 c1 c2 c3 c4 x : Value} {l : List Ru} (h : W.cell? p0 = some c0 ∧ W.cell? p1 = some c1 ∧ W.cell? p2 = some c2 ∧ W.cell? p3 = some c3 ∧ W.cell? p4 = some c4 ∧ RdU W x l ∧ Below w.heap.size w W) (hb : Below W.heap.size W w1) :
    w1.cell? p0 = some c0 ∧ w1.cell? p1 = some c1 ∧ w1.cell? p2 = some c2 ∧ w1.cell? p3 = some c3 ∧ w1.cell? p4 = some c4 ∧ RdU w1 x l ∧ Below w.heap.size w w1 := by
  obtain ⟨h0, h1, h2, h3, h4, h5, h6⟩ := h
  exact ⟨carry hb h0, carry hb h1, carry hb h2, carry hb h3, carry hb h4, h5.below hb, below_then h6 hb⟩
theorem RdU.at {w : World} {ad : Option Addr} {n cap : Nat} {l : List Ru} {k : Nat} {r : Ru} (h : RdU w (.slice ad n cap) l) (hk : l[k]? = some r) : ∃ b off, ad = some ⟨b, off, none⟩ ∧ w.cell? ⟨b, off + k * 5, none⟩ = some (.bool r.1) ∧ w.cell? ⟨b, off + k * 5 + 1, none⟩ = some (.int .u32 (r.2.1.1 : Int)) ∧ w.cell? ⟨b, off + k * 5 + 2, none⟩ = some (.int .i64 r.2.1.2) ∧ w.cell? ⟨b, off + k * 5 + 3, none⟩ = some (.int .i64 r.2.2.1) ∧ w.cell? ⟨b, off + k * 5 + 4, none⟩ = some (.int .i64 r.2.2.2) := by
  obtain ⟨ad', cap', e, _, _, hc⟩ := h
  cases e
  obtain ⟨b, off, e1, _, c⟩ := hc k r hk
  exact ⟨b, off, e1, c⟩
theorem perm_call {p : Nat × Int} {q : Bool} (hp : p.1 < 4294967296) (hp2 : I64 p.2) (x : Value) (W : World) (h : ∃ rs, RdU W x rs ∧ permB rs p = q) :
    Calls Tryd.prog 15 #[x, .agg #[.int .u32 (p.1 : Int), .int .i64 p.2]] W fun e w' => e = .returned (.bool q) ∧ Below W.heap.size W w' := by
  obtain ⟨rs, hr, rfl⟩ := h
  exact permits_any rs p x W hr hp hp2
theorem lawTrimmed (rs : List Ru) (v : Value) (p : Nat × Int) (w : World) (hT : Lt w) (hv : RdU w v rs) (hp : p.1 < 4294967296) (hp2 : I64 p.2) :
    Calls Tryd.prog 8 #[v, .agg #[.int .u32 (p.1 : Int), .int .i64 p.2]] w fun e w' => e = .returned (.bool true) ∧ Below w.heap.size w w' := by
  have HT : Hid (∀ W, Below w.heap.size w W → Lt W) := fun W hW => hT.below hW
  have HR : Hid (∀ W, Below w.heap.size w W → RdU W v rs) := fun W hW => hv.below hW
  have hb : Below w.heap.size w (w.alloc (.cells #[.int .u32 (p.1 : Int), .int .i64 p.2] 25)) := below_alloc _ _
  have hx : (w.alloc (.cells #[.int .u32 (p.1 : Int), .int .i64 p.2] 25)).cell? ⟨w.heap.size, 0, none⟩ = some (.int .u32 (p.1 : Int)) := cell_of (heap_alloc_new _ _) rfl
  have hy : (w.alloc (.cells #[.int .u32 (p.1 : Int), .int .i64 p.2] 25)).cell? ⟨w.heap.size, 1, none⟩ = some (.int .i64 p.2) := cell_of (heap_alloc_new _ _) rfl
  obtain ⟨L, hL⟩ : ∃ L, rs.length = L := ⟨_, rfl⟩
  obtain ⟨ad, cap, hf⟩ := hv.form
  rw [hL] at hf
  subst hf
  clear hv hT
  by_cases h200 : (200 : Int) < (L : Int)
  · have HB := Lib.hid hb
    clear hb hx hy HR hL
    go_enter Tryd.func8, Tryd.ntmps8
    go_wp2_with fail
    go_at_call 12
    refine (awake_any _ (HT.out _ HB.out)).mono ?_
    rintro e w1 ⟨rfl, h1⟩
    have HB1 := Lib.hid (below_then HB.out h1)
    clear h1
    go_wp2
    go_ret
    exact ⟨rfl, HB1.out⟩
  have HTR := Lib.hid (trim_any rs _ _ (HR.out _ hb) (by omega))
  have HLE : Hid ((trimR rs).length ≤ L) := by unfold Hid; rw [← hL]; exact trimR_len rs
  have HTW : Hid ((trimR (trimR rs)).length = (trimR rs).length) := by unfold Hid; rw [trim_twice]
  have HPE := Lib.hid (trim_permR rs)
  have HVA := Lib.hid (trim_valid rs)
  clear hL
  generalize trimR rs = tl at *
  have HB := Lib.hid hb
  clear hb
  go_enter Tryd.func8, Tryd.ntmps8
  go_wp2_with fail
  go_at_call 21
  refine HTR.out.mono ?_
  rintro e w1 ⟨vl, rfl, ho, hw1⟩
  obtain ⟨ad1, cap1, hf1⟩ := ho.rd.form
  obtain ⟨N, hN⟩ : ∃ N, tl.length = N := ⟨_, rfl⟩
  rw [hN] at hf1
  subst hf1
  have HRT := Lib.hid ho.rd
  have HB1 := Lib.hid (below_then HB.out hw1)
  have y0 := carry hw1 hx
  have y1 := carry hw1 hy
  have HNL : Hid (tl.length = N) := hN
  have hle : N ≤ L := by have := HLE.out; omega
  have hle2 : ¬ (L : Int) < (N : Int) := by omega
  have hle3 : decide ((L : Int) < (N : Int)) = false := decide_eq_false hle2
  have hle4 : decide (L < N) = false := decide_eq_false (by omega)
  have HTT : Hid (∀ W, RdU W (.slice ad1 N cap1) tl → Calls Tryd.prog 21 #[.slice ad1 N cap1] W fun e w' => ∃ ad cap, e = .returned (.slice ad N cap) ∧ Below W.heap.size W w') := fun W hW => trim_len (rs := tl) (by rw [HTW.out, HNL.out]) (trim_any tl _ W hW (by rw [HNL.out]; omega))
  obtain ⟨q, hq⟩ : ∃ q, permB rs p = q := ⟨_, rfl⟩
  have HQ : Hid (permB rs p = q ∧ permB tl p = q) := ⟨hq, by rw [HPE.out]; exact hq⟩
  have tq : (q == q) = true := by simp
  have tn : (q != q) = false := by simp
  have HRD : RdU w1.drew (.slice ad1 N cap1) tl := HRT.out.below (Below.refl _ _).drew
  have HBD : Below w.heap.size w w1.drew := HB1.out.drew
  clear ho hw1 hx hy HTR HLE HTW hN hq HB
  go_wp2_with fail
  go_region_held3 (fun w' => w'.cell? ⟨w.heap.size, 0, none⟩ = some (.int .u32 (p.1 : Int)) ∧ w'.cell? ⟨w.heap.size, 1, none⟩ = some (.int .i64 p.2) ∧ RdU w' (.slice ad1 N cap1) tl ∧ Below w.heap.size w w')
    (first | exact ⟨y0, y1, HRD, HBD⟩ | exact ⟨by simpa using y0, by simpa using y1, HRD, HBD⟩ | go_keep)
    (first
      | (go_at_call 15; refine (perm_call (q := q) hp hp2 _ _ (by first | exact ⟨_, And.left (And.right (And.right ‹_ ∧ _ ∧ RdU _ _ _ ∧ Below _ w _›)), HQ.out.2⟩ | exact ⟨_, HR.out _ (And.right (And.right (And.right ‹_ ∧ _ ∧ RdU _ _ _ ∧ Below _ w _›))), HQ.out.1⟩)).mono ?_; rintro e w3 ⟨rfl, hb⟩; have hk := keepT2 ‹_› hb; clear hb)
      | (go_at_call 21; refine (HTT.out _ (And.left (And.right (And.right ‹_ ∧ _ ∧ RdU _ _ _ ∧ Below _ w _›)))).mono ?_; rintro e w3 ⟨ad3, cap3, rfl, hb⟩; have hk := keepT2 ‹_› hb; clear hb))
  all_goals (
    obtain ⟨_, _, j2, j3⟩ := hk
    have HW : Hid (RdU w3 (.slice ad1 N cap1) tl ∧ Below w.heap.size w w3) := ⟨j2, j3⟩
    clear j2 j3 y0 y1 HRD HBD HB1 HRT HTT HQ tq tn)
  go_wp2_with fail
  go_loopg [7, 38] N (fun g s7 s38 wr => ∃ (k : Nat), k ≤ N ∧ N - k ≤ g ∧ s38 = .int .i64 (k : Int) ∧ (∃ q, q = s7) ∧ Hid (RdU wr (.slice ad1 N cap1) tl ∧ Below w.heap.size w wr))
  case atStart => exact ⟨0, by omega, by omega, rfl, ⟨_, rfl⟩, HW⟩
  case round =>
    clear HW
    obtain ⟨k, hk, hkg, rfl, ⟨u7, rfl⟩, HW⟩ := hrel
    by_cases hlt : k < N
    · obtain ⟨z, hz⟩ : ∃ z, tl[k]? = some z := ⟨_, List.getElem?_eq_getElem (by rw [HNL.out]; exact hlt)⟩
      have hokx := HW.out.1.oks
      obtain ⟨b, off, e5, c0, c1, c2, c3, c4⟩ := HW.out.1.at hz
      subst e5
      have hzok := hokx z (List.mem_of_getElem? hz)
      have hz0 : chkR z = 0 := HVA.out z (List.mem_of_getElem? hz)
      have k0 : (0 : Int) ≤ (k : Int) := by omega
      have k1 : (k : Int) < (N : Int) := by omega
      have HCK : Hid (∀ W, Calls Tryd.prog 10 #[ruV z] W fun e w' => e = .returned (.int .i64 0) ∧ Below W.heap.size W w') := fun W => by
        have := check_any z hzok W
        rwa [hz0] at this
      have hzn := heap_alloc_new wr (ruC z)
      have HRD : RdU (wr.alloc (ruC z)).drew (.slice (some ⟨b, off, none⟩) N cap1) tl := (HW.out.1.below (below_alloc _ _)).below (Below.refl _ _).drew
      have HBD : Below w.heap.size w (wr.alloc (ruC z)).drew := (below_then HW.out.2 (below_alloc _ _)).drew
      obtain ⟨pm, ⟨a, n⟩, mn, mx⟩ := z
      obtain ⟨ha, hn, hmn, hmx⟩ := hzok
      dsimp only at *
      obtain ⟨q2, hq2⟩ : ∃ q, permB rs (a, n) = q := ⟨_, rfl⟩
      have HQ : Hid (permB rs (a, n) = q2 ∧ permB tl (a, n) = q2) := ⟨hq2, by rw [HPE.out]; exact hq2⟩
      have tq : (q2 == q2) = true := by simp
      have tn : (q2 != q2) = false := by simp
      have HP15 := Lib.hid (perm_call (p := (a, n)) (q := q2) ha hn)
      have x0 := cell_of hzn (rfl : (#[Value.bool pm, .int .u32 (a : Int), .int .i64 n, .int .i64 mn, .int .i64 mx] : Array Value)[0]? = some (.bool pm))
      have x1 := cell_of hzn (rfl : (#[Value.bool pm, .int .u32 (a : Int), .int .i64 n, .int .i64 mn, .int .i64 mx] : Array Value)[1]? = some (.int .u32 (a : Int)))
      have x2 := cell_of hzn (rfl : (#[Value.bool pm, .int .u32 (a : Int), .int .i64 n, .int .i64 mn, .int .i64 mx] : Array Value)[2]? = some (.int .i64 n))
      have x3 := cell_of hzn (rfl : (#[Value.bool pm, .int .u32 (a : Int), .int .i64 n, .int .i64 mn, .int .i64 mx] : Array Value)[3]? = some (.int .i64 mn))
      have x4 := cell_of hzn (rfl : (#[Value.bool pm, .int .u32 (a : Int), .int .i64 n, .int .i64 mn, .int .i64 mx] : Array Value)[4]? = some (.int .i64 mx))
      clear hz hzn hq2 hokx HW hz0
      go_wp2_with fail
      go_region_held3 (fun w' => w'.cell? ⟨wr.heap.size, 0, none⟩ = some (.bool pm) ∧ w'.cell? ⟨wr.heap.size, 1, none⟩ = some (.int .u32 a) ∧ w'.cell? ⟨wr.heap.size, 2, none⟩ = some (.int .i64 n) ∧ w'.cell? ⟨wr.heap.size, 3, none⟩ = some (.int .i64 mn) ∧ w'.cell? ⟨wr.heap.size, 4, none⟩ = some (.int .i64 mx) ∧ RdU w' (.slice (some ⟨b, off, none⟩) N cap1) tl ∧ Below w.heap.size w w')
        (first | exact hk | exact ⟨x0, x1, x2, x3, x4, HRD, HBD⟩ | exact ⟨by simp, by simp, by simp, by simp, by simp, HRD, HBD⟩ | go_keep)
        (first
          | (go_at_call 10; refine (HCK.out _).mono ?_; rintro e w4 ⟨rfl, hb⟩; have hk := keepT5 ‹_› hb; clear hb)
          | (go_at_call 15; refine (HP15.out _ _ (by first | exact ⟨_, And.left (And.right (And.right (And.right (And.right (And.right ‹_ ∧ _ ∧ _ ∧ _ ∧ _ ∧ RdU _ _ _ ∧ Below _ w _›))))), HQ.out.2⟩ | exact ⟨_, HR.out _ (And.right (And.right (And.right (And.right (And.right (And.right ‹_ ∧ _ ∧ _ ∧ _ ∧ _ ∧ RdU _ _ _ ∧ Below _ w _›)))))), HQ.out.1⟩)).mono ?_; rintro e w4 ⟨rfl, hb⟩; have hk := keepT5 ‹_› hb; clear hb))
      all_goals (
        obtain ⟨_, _, _, _, _, j5, j6⟩ := hk
        have HW2 := Lib.hid (And.intro j5 j6)
        clear c0 c1 c2 c3 c4 x0 x1 x2 x3 x4 j5 j6 HRD HBD
        go_wp2_with fail)
      all_goals (
        go_roundg (N - (k + 1))
        case measure => omega
        case rel => exact ⟨k + 1, by omega, Nat.le_refl _, by go_num, ⟨_, rfl⟩, HW2⟩)
    · have k1 : decide ((k : Int) < (N : Int)) = false := decide_eq_false (by omega)
      have HB2 := Lib.hid HW.out.2
      go_wp2_with fail
      go_at_call 12
      refine (awake_any _ (HT.out _ HB2.out)).mono ?_
      rintro e w7 ⟨rfl, hw7⟩
      have HB7 := Lib.hid (below_then HB2.out hw7)
      clear hw7
      go_wp2_with fail
      go_ret
      exact ⟨rfl, HB7.out⟩
end Go.Proofs.YtiiojkekcnmddaaDoor
