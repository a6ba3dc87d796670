/-
  The walk of the law First.
-/
import Derived.Test.YtiiojkekcnmddaaDoorPlQ
import Derived.Test.YtiiojkekcnmddaaDoorLwB
import Derived.BigQuiet
namespace Go.Proofs.YtiiojkekcnmddaaDoor
open Go.RowKit
set_option linter.unusedSimpArgs false
set_option linter.unusedVariables false
set_option maxHeartbeats 2000000
set_option maxRecDepth 100000

theorem any_take {rs : List Ru} {f : Ru → Bool} {k : Nat} {z : Ru} (h : rs[k]? = some z) : (rs.take (k + 1)).any f = ((rs.take k).any f || f z) := by
  obtain ⟨hk, hz⟩ := List.getElem?_eq_some_iff.1 h
  rw [List.take_succ_eq_append_getElem hk, List.any_append, hz]
  simp
theorem ownU_empty (w : World) : OwnU w.heap.size (w.alloc (.cells #[] 27)) (.slice (some ⟨w.heap.size, 0, none⟩) 0 0) [] :=
  ⟨⟨by simp, fun r hr => by cases hr⟩, rfl, .inr ⟨w.heap.size, 0, #[], rfl, Nat.le_refl _, heap_alloc_new _ _, Nat.le_refl _, by decide, rfl, rfl⟩⟩
theorem lawFirst (l m : List Ru) (v u : Value) (p : Nat × Int) (w : World) (hT : Lt w) (hv : RdU w v l) (hn : ∀ c, v = .slice none 0 c → c = 0) (hu : RdU w u m) (hm : ∀ c, u = .slice none 0 c → c = 0) (hp : p.1 < 4294967296) (hp2 : I64 p.2) :
    Calls Tryd.prog 9 #[v, u, .agg #[.int .u32 (p.1 : Int), .int .i64 p.2]] w fun e w' => e = .returned (.bool true) ∧ Below w.heap.size w w' := by
  have HT : Hid (∀ W, Below w.heap.size w W → Lt W) := fun W hW => hT.below hW
  have HP1 : Hid (∀ W, Below w.heap.size w W → Calls Tryd.prog 15 #[v, .agg #[.int .u32 (p.1 : Int), .int .i64 p.2]] W fun e w' => e = .returned (.bool (permB l p)) ∧ Below W.heap.size W w') := fun W hW => permits_any l p v W (hv.below hW) hp hp2
  have HP2 : Hid (∀ W, Below w.heap.size w W → Calls Tryd.prog 15 #[u, .agg #[.int .u32 (p.1 : Int), .int .i64 p.2]] W fun e w' => e = .returned (.bool (permB m p)) ∧ Below W.heap.size W w') := fun W hW => permits_any m p u W (hu.below hW) hp hp2
  have HP3 : Hid (∀ W x, RdU W x (l ++ m) → Calls Tryd.prog 15 #[x, .agg #[.int .u32 (p.1 : Int), .int .i64 p.2]] W fun e w' => e = .returned (.bool (permB (l ++ m) p)) ∧ Below W.heap.size W w') := fun W x hW => permits_any _ p x W hW hp hp2
  have HV := Lib.hid (valid_any p.1 hp p.2 hp2)
  have HRV := Lib.hid (rvalid_any p.1 hp p.2 hp2)
  have HPA := Lib.hid (perm_append l m p)
  have hb : Below w.heap.size w (w.alloc (.cells #[.int .u32 (p.1 : Int), .int .i64 p.2] 25)) := below_alloc _ _
  have hx : (w.alloc (.cells #[.int .u32 (p.1 : Int), .int .i64 p.2] 25)).cell? ⟨w.heap.size, 0, none⟩ = some (.int .u32 (p.1 : Int)) := cell_of (heap_alloc_new _ _) rfl
  have hy : (w.alloc (.cells #[.int .u32 (p.1 : Int), .int .i64 p.2] 25)).cell? ⟨w.heap.size, 1, none⟩ = some (.int .i64 p.2) := cell_of (heap_alloc_new _ _) rfl
  have HRl : Hid (∀ W, Below w.heap.size w W → RdU W v l) := fun W hW => hv.below hW
  have HRm : Hid (∀ W, Below w.heap.size w W → RdU W u m) := fun W hW => hu.below hW
  have Hn := Lib.hid hn
  have Hm := Lib.hid hm
  obtain ⟨ad2, cap2, hfu⟩ := hu.form
  subst hfu
  obtain ⟨ad, cap, rfl, ⟨h1, h1'⟩, hok, hc⟩ := hv
  have HC := Lib.hid hc
  have HOK := Lib.hid hok
  obtain ⟨L, hL⟩ : ∃ L, l.length = L := ⟨_, rfl⟩
  obtain ⟨M, hM⟩ : ∃ M, m.length = M := ⟨_, rfl⟩
  rw [hL] at h1 HP1 HRl Hn ⊢
  rw [hM] at HP2 HRm Hm ⊢
  have HL := Lib.hid hL
  have HM := Lib.hid hM
  clear hc hL hok hT hM hu hn hm
  by_cases h200 : (200 : Int) < (L : Int)
  · have HB := Lib.hid hb
    clear hb hx hy HC
    go_enter Tryd.func9, Tryd.ntmps9
    go_wp2_with fail
    go_at_call 12
    refine (awake_any _ (HT.out _ HB.out)).mono ?_
    rintro e w1 ⟨rfl, h1⟩
    have HB1 := Lib.hid (below_then HB.out h1)
    clear h1
    go_wp2
    go_ret
    exact ⟨rfl, HB1.out⟩
  by_cases h201 : (200 : Int) < (M : Int)
  · have HB := Lib.hid hb
    clear hb hx hy HC
    go_enter Tryd.func9, Tryd.ntmps9
    go_wp2_with fail
    go_at_call 12
    refine (awake_any _ (HT.out _ HB.out)).mono ?_
    rintro e w1 ⟨rfl, h1⟩
    have HB1 := Lib.hid (below_then HB.out h1)
    clear h1
    go_wp2
    go_ret
    exact ⟨rfl, HB1.out⟩
  cases hvd : vld p.1 p.2 with
  | false =>
    rw [hvd] at HRV
    have HB := Lib.hid hb
    clear hb HC hvd
    go_enter Tryd.func9, Tryd.ntmps9
    go_wp2_with fail
    go_at_call 23
    refine (HRV.out _).mono ?_
    rintro e w1 ⟨rfl, h1⟩
    have HB0 := Lib.hid (below_then HB.out h1)
    clear h1 hx hy
    go_wp2_with fail
    go_at_call 12
    refine (awake_any _ (HT.out _ HB0.out)).mono ?_
    rintro e w1 ⟨rfl, h1⟩
    have HB1 := Lib.hid (below_then HB0.out h1)
    clear h1
    go_wp2
    go_ret
    exact ⟨rfl, HB1.out⟩
  | true =>
    rw [hvd] at HRV
    have HW0 : Hid (Below w.heap.size w (w.alloc (.cells #[.int .u32 (p.1 : Int), .int .i64 p.2] 25)) ∧ (w.alloc (.cells #[.int .u32 (p.1 : Int), .int .i64 p.2] 25)).cell? ⟨w.heap.size, 0, none⟩ = some (.int .u32 (p.1 : Int)) ∧ (w.alloc (.cells #[.int .u32 (p.1 : Int), .int .i64 p.2] 25)).cell? ⟨w.heap.size, 1, none⟩ = some (.int .i64 p.2)) := ⟨hb, hx, hy⟩
    clear hb hvd
    go_enter Tryd.func9, Tryd.ntmps9
    go_wp2_with fail
    go_at_call 23
    refine (HRV.out _).mono ?_
    rintro e w1 ⟨rfl, hw1⟩
    have HW : Hid (Below w.heap.size w w1 ∧ w1.cell? ⟨w.heap.size, 0, none⟩ = some (.int .u32 (p.1 : Int)) ∧ w1.cell? ⟨w.heap.size, 1, none⟩ = some (.int .i64 p.2)) := ⟨below_then HW0.out.1 hw1, carry hw1 HW0.out.2.1, carry hw1 HW0.out.2.2⟩
    clear hw1 hx hy HW0
    have HA0 : Hid ((l.take 0).any (fun r => matR r p) = false) := by unfold Hid; simp
    go_wp2_with fail
    go_loopg [7, 9, 28] L (fun g s7 s9 s28 wr => ∃ (k : Nat) (z : Bool), k ≤ L ∧ L - k ≤ g ∧ s28 = .int .i64 (k : Int) ∧ s7 = .bool z ∧ (∃ q, q = s9) ∧ Hid ((l.take k).any (fun r => matR r p) = z) ∧ Hid (Below w.heap.size w wr ∧ wr.cell? ⟨w.heap.size, 0, none⟩ = some (.int .u32 (p.1 : Int)) ∧ wr.cell? ⟨w.heap.size, 1, none⟩ = some (.int .i64 p.2)))
    case atStart => exact ⟨0, false, by omega, by omega, rfl, rfl, ⟨_, rfl⟩, HA0, HW⟩
    case round =>
      clear HW HA0
      obtain ⟨k, b7, hk, hkg, rfl, rfl, ⟨u9, rfl⟩, HA, HW⟩ := hrel
      by_cases hlt : k < L
      · obtain ⟨z, hz⟩ : ∃ z, l[k]? = some z := ⟨_, List.getElem?_eq_getElem (by rw [HL.out]; exact hlt)⟩
        obtain ⟨b, off, rfl, hb, e0, e1, e2, e3, e4⟩ := HC.out k z hz
        have c0 := carry HW.out.1 e0
        have c1 := carry HW.out.1 e1
        have c2 := carry HW.out.1 e2
        have c3 := carry HW.out.1 e3
        have c4 := carry HW.out.1 e4
        have p0 := carry (below_alloc wr (ruC z)) HW.out.2.1
        have p1 := carry (below_alloc wr (ruC z)) HW.out.2.2
        have k0 : (0 : Int) ≤ (k : Int) := by omega
        have k1 : (k : Int) < (L : Int) := by omega
        have hzok := HOK.out z (List.mem_of_getElem? hz)
        have HN : Hid ((l.take (k + 1)).any (fun r => matR r p) = (b7 || matR z p)) := by unfold Hid; rw [any_take hz, HA.out]
        have HBB : Hid (Below w.heap.size w (wr.alloc (ruC z)) ∧ (wr.alloc (ruC z)).cell? ⟨w.heap.size, 0, none⟩ = some (.int .u32 (p.1 : Int)) ∧ (wr.alloc (ruC z)).cell? ⟨w.heap.size, 1, none⟩ = some (.int .i64 p.2)) := ⟨below_then HW.out.1 (below_alloc _ _), p0, p1⟩
        have HMM := Lib.hid (match_any z p hzok hp hp2 (wr.alloc (ruC z)))
        obtain ⟨q, hq⟩ : ∃ q, matR z p = q := ⟨_, rfl⟩
        rw [hq] at HMM HN
        obtain ⟨pm, ⟨a, n⟩, mn, mx⟩ := z
        dsimp only at *
        clear hz e0 e1 e2 e3 e4 hb hzok HW HA hq
        cases b7 with
        | true =>
          rw [Bool.true_or] at HN
          go_wp2_with fail
          go_roundg (L - (k + 1))
          case measure => omega
          case rel => exact ⟨k + 1, true, by omega, Nat.le_refl _, by go_num, rfl, ⟨_, rfl⟩, HN, HBB⟩
        | false =>
          rw [Bool.false_or] at HN
          go_wp2_with fail
          go_at_call 13
          refine HMM.out.mono ?_
          rintro e w2 ⟨rfl, hw2⟩
          have HW2 : Hid (Below w.heap.size w w2 ∧ w2.cell? ⟨w.heap.size, 0, none⟩ = some (.int .u32 (p.1 : Int)) ∧ w2.cell? ⟨w.heap.size, 1, none⟩ = some (.int .i64 p.2)) := ⟨below_then HBB.out.1 hw2, carry hw2 HBB.out.2.1, carry hw2 HBB.out.2.2⟩
          clear hw2
          go_wp2_with fail
          go_roundg (L - (k + 1))
          case measure => omega
          case rel => exact ⟨k + 1, q, by omega, Nat.le_refl _, by go_num, rfl, ⟨_, rfl⟩, HN, HW2⟩
      · have k1 : decide ((k : Int) < (L : Int)) = false := decide_eq_false (by omega)
        have hkL : k = L := by omega
        have HA2 : Hid (l.any (fun r => matR r p) = b7) := by
          unfold Hid
          rw [← HA.out, List.take_of_length_le (by rw [HL.out]; omega)]
        have HPB : Hid (permB (l ++ m) p = bif b7 then permB l p else permB m p) := by unfold Hid; rw [HPA.out, HA2.out]
        have HB1 : Hid (Below w.heap.size w (wr.alloc (.cells #[] 27))) := below_then HW.out.1 (below_alloc _ _)
        have HO1 := Lib.hid (ownU_empty wr)
        have p0 := HW.out.2.1
        have p1 := HW.out.2.2
        have hwr : w.heap.size < wr.heap.size := World.block_lt_of_cell? _ _ p0
        have HWW := Lib.hid HW.out
        clear HA HA2 HPA
        go_wp2_with (first
          | (at_builtin; refine append_rules rfl (.tmp 39) (.tmp 40) rfl wr.heap.size (by simp) _ [] rfl HO1.out _ l rfl (HRl.out _ HB1.out) (fun c e => Hn.out c e) (by rw [HL.out]; simp; omega) ?_; intro v2 w2 hown hgrow hbl; obtain ⟨ad3, n3, cap3, hf3⟩ := own_form hown; subst hf3; have HO2 := Lib.hid hown; have HBL := Lib.hid hbl; clear hown hgrow hbl)
          | (at_builtin; refine append_rules rfl (.tmp 41) (.tmp 42) rfl wr.heap.size HO2.out.1.1 _ ([] ++ l) rfl HO2.out _ m rfl (HRm.out _ (below_then HW.out.1 (((below_alloc wr (.cells #[] 27))).trans (HBL.out)))) (fun c e => Hm.out c e) (by rw [List.nil_append, HL.out, HM.out]; omega) ?_; intro v3 w3 hown hgrow hbl; obtain ⟨ad4, n4, cap4, hf4⟩ := own_form hown; subst hf4; have HO3 := Lib.hid hown; have HBL3 := Lib.hid hbl; have y0 := (hbl.cell (show w.heap.size < wr.heap.size from hwr)).trans ((HBL.out.cell (show w.heap.size < wr.heap.size from hwr)).trans (carry (below_alloc wr (.cells #[] 27)) p0)); have y1 := (hbl.cell (p := ⟨w.heap.size, 1, none⟩) (show w.heap.size < wr.heap.size from hwr)).trans ((HBL.out.cell (p := ⟨w.heap.size, 1, none⟩) (show w.heap.size < wr.heap.size from hwr)).trans (carry (below_alloc wr (.cells #[] 27)) p1)); have HB3 : Hid (Below w.heap.size w w3) := HB1.out.trans ((HBL.out.trans hbl).mono (Nat.le_of_lt hwr)); clear hown hgrow hbl))
        go_at_call 15
        refine (HP2.out _ HB3.out).mono ?_
        rintro e w4 ⟨rfl, hw4⟩
        have HB4 := Lib.hid (below_then HB3.out hw4)
        have z0 := carry hw4 y0
        have z1 := carry hw4 y1
        have HR4 : Hid (RdU w4 (.slice ad4 n4 cap4) (l ++ m)) := by
          have := HO3.out.rd.below hw4
          rw [List.nil_append] at this
          exact this
        clear hw4 y0 y1 p0 p1
        cases b7 with
        | true =>
          have HPC : Hid (permB (l ++ m) p = permB l p) := HPB.out
          rw [HPC.out] at HP3
          obtain ⟨q, hq⟩ : ∃ q, permB l p = q := ⟨_, rfl⟩
          rw [hq] at HP3 HP1
          have tq : (q == q) = true := by simp
          clear hq HPB HPC
          go_wp2_with fail
          go_at_call 15
          refine (HP1.out _ HB4.out).mono ?_
          rintro e w5 ⟨rfl, hw5⟩
          have HB5 := Lib.hid (below_then HB4.out hw5)
          have y0 := carry hw5 z0
          have y1 := carry hw5 z1
          have HR5 := Lib.hid (HR4.out.below hw5)
          clear hw5 z0 z1
          go_wp2_with fail
          go_at_call 15
          refine (HP3.out _ _ HR5.out).mono ?_
          rintro e w6 ⟨rfl, hw6⟩
          have HB6 := Lib.hid (below_then HB5.out hw6)
          clear hw6
          go_wp2_with fail
          go_at_call 12
          refine (awake_any _ (HT.out _ HB6.out)).mono ?_
          rintro e w7 ⟨rfl, hw7⟩
          have HB7 := Lib.hid (below_then HB6.out hw7)
          clear hw7
          go_wp2_with fail
          go_ret
          exact ⟨rfl, HB7.out⟩
        | false =>
          have HPC : Hid (permB (l ++ m) p = permB m p) := HPB.out
          rw [HPC.out] at HP3
          obtain ⟨q, hq⟩ : ∃ q, permB m p = q := ⟨_, rfl⟩
          rw [hq] at HP3 ⊢
          have tq : (q == q) = true := by simp
          clear hq HPB HPC
          go_wp2_with fail
          go_at_call 15
          refine (HP3.out _ _ HR4.out).mono ?_
          rintro e w6 ⟨rfl, hw6⟩
          have HB6 := Lib.hid (below_then HB4.out hw6)
          clear hw6
          go_wp2_with fail
          go_at_call 12
          refine (awake_any _ (HT.out _ HB6.out)).mono ?_
          rintro e w7 ⟨rfl, hw7⟩
          have HB7 := Lib.hid (below_then HB6.out hw7)
          clear hw7
          go_wp2_with fail
          go_ret
          exact ⟨rfl, HB7.out⟩
end Go.Proofs.YtiiojkekcnmddaaDoor
