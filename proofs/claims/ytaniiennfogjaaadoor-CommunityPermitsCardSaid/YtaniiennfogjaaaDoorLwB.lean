/-
  The walk of the law Change.
-/
import Derived.Test.YtaniiennfogjaaaDoorLwA
namespace Go.Proofs.YtaniiennfogjaaaDoor
open Go.RowKit T
set_option linter.unusedSimpArgs false
set_option linter.unusedVariables false
set_option maxHeartbeats 2000000
set_option maxRecDepth 100000

theorem change_large (a b : List Nat) (u v : Value) (c : Nat) (w : World) (hT : Lt w) (hu : Rd w u a) (hv : Rd w v b) (h : 600 < a.length ∨ 600 < b.length) :
    Calls Tryd.prog 6 #[u, v, .int .u32 (c : Int)] w fun e w' => e = .returned (.bool true) ∧ Below w.heap.size w w' := by
  obtain ⟨ad, cap, rfl⟩ := hu.form
  obtain ⟨ad2, cap2, rfl⟩ := hv.form
  have HA := Lib.hid (awake_any w hT)
  clear hT hu hv
  by_cases h1 : 600 < a.length
  · have g1 : (600 : Int) < (a.length : Int) := by omega
    go_enter Tryd.func6, Tryd.ntmps6
    go_wp2_with fail
    go_at_call 11
    refine HA.out.mono ?_
    rintro e w1 ⟨rfl, hb⟩
    go_wp2
    go_ret
    exact ⟨rfl, hb⟩
  · have g1 : decide ((600 : Int) < (a.length : Int)) = false := decide_eq_false (by omega)
    have g1' : ¬ (600 : Int) < (a.length : Int) := by omega
    have g2 : (600 : Int) < (b.length : Int) := by omega
    go_enter Tryd.func6, Tryd.ntmps6
    go_wp2_with fail
    go_at_call 11
    refine HA.out.mono ?_
    rintro e w1 ⟨rfl, hb⟩
    go_wp2
    go_ret
    exact ⟨rfl, hb⟩
theorem change_small (a b : List Nat) (u v : Value) (c : Nat) (w : World) (hT : Lt w) (hu : Rd w u a) (hun : NilV u) (hv : Rd w v b) (hvn : NilV v) (hc : c < 4294967296) (ha6 : a.length ≤ 600) (hb6 : b.length ≤ 600) :
    Calls Tryd.prog 6 #[u, v, .int .u32 (c : Int)] w fun e w' => e = .returned (.bool true) ∧ Below w.heap.size w w' := by
  have HT := Lib.hid hT
  have H16 : Hid (∀ W, Below w.heap.size w W → Calls Tryd.prog 16 #[u, .int .u32 (c : Int)] W fun e w' => e = .returned (.bool (decide (c ∈ a))) ∧ W = w') := fun W hW => (has_any a u c W (hu.below hW)).mono fun _ _ h => ⟨h.1, h.2.symm⟩
  have H17 : Hid (∀ W, Below w.heap.size w W → Calls Tryd.prog 17 #[u, .int .u32 (c : Int)] W fun e w' => e = .returned (.bool (decide (c ∈ a))) ∧ W = w') := fun W hW => (rhas_any a u c W (hu.below hW)).mono fun _ _ h => ⟨h.1, h.2.symm⟩
  have H19 : Hid (∀ W, Below w.heap.size w W → Calls Tryd.prog 19 #[u, .int .u32 (c : Int)] W fun e w' => ∃ v', e = .returned v' ∧ RS W (AddP a c) v' w') := fun W hW => add_any a u c W (hu.below hW) hun hc (by omega)
  have H20 : Hid (∀ W, Below w.heap.size w W → Calls Tryd.prog 20 #[u, .int .u32 (c : Int)] W fun e w' => ∃ v', e = .returned v' ∧ RS W (AddP a c) v' w') := fun W hW => radd_any a u c W (hu.below hW) hc (by omega)
  have H21 : Hid (∀ W, Below w.heap.size w W → Calls Tryd.prog 21 #[u, .int .u32 (c : Int)] W fun e w' => ∃ v', e = .returned v' ∧ RS W (DropP a c) v' w') := fun W hW => drop_any a u c W (hu.below hW) hun (by omega)
  have H22 : Hid (∀ W, Below w.heap.size w W → Calls Tryd.prog 22 #[u, .int .u32 (c : Int)] W fun e w' => ∃ v', e = .returned v' ∧ RS W (DropP a c) v' w') := fun W hW => rdrop_any a u c W (hu.below hW) (by omega)
  have H23 : Hid (∀ W, Below w.heap.size w W → Calls Tryd.prog 23 #[u, v] W fun e w' => ∃ v', e = .returned v' ∧ RS W (JoinP a b) v' w') := fun W hW => join_any a b u v W (hu.below hW) hun (hv.below hW) hvn (by omega)
  have H24 : Hid (∀ W, Below w.heap.size w W → Calls Tryd.prog 24 #[u, v] W fun e w' => ∃ v', e = .returned v' ∧ RS W (JoinP a b) v' w') := fun W hW => rjoin_any a b u v W (hu.below hW) hun (hv.below hW) hvn (by omega)
  obtain ⟨ad, cap, rfl⟩ := hu.form
  obtain ⟨ad2, cap2, rfl⟩ := hv.form
  have g1 : decide ((600 : Int) < (a.length : Int)) = false := decide_eq_false (by omega)
  have g1' : ¬ (600 : Int) < (a.length : Int) := by omega
  have g2 : decide ((600 : Int) < (b.length : Int)) = false := decide_eq_false (by omega)
  have g2' : ¬ (600 : Int) < (b.length : Int) := by omega
  generalize decide (c ∈ a) = q at *
  have t1 : (q == q) = true := by simp
  generalize a.length = L at *
  generalize b.length = M at *
  have H0 := Lib.hid (Below.refl w.heap.size w)
  clear hT hu hv hun hvn
  go_enter Tryd.func6, Tryd.ntmps6
  go_wp2_with fail
  go_at_call 16
  refine (H16.out _ H0.out).mono ?_
  rintro e w1 ⟨rfl, rfl⟩
  go_wp2_with fail
  go_at_call 17
  refine (H17.out _ H0.out).mono ?_
  rintro e w1 ⟨rfl, rfl⟩
  go_wp2_with fail
  go_at_call 19
  refine (H19.out _ H0.out).mono ?_
  rintro e w1 ⟨x1, rfl, t1, hr, hn, hp, hb⟩
  have HB1 := Lib.hid (H0.out.trans (hb.mono H0.out.size))
  have HR1 := Lib.hid hr
  have HP1 := Lib.hid hp
  clear hr hn hp hb
  go_wp2_with fail
  go_at_call 20
  refine (H20.out _ HB1.out).mono ?_
  rintro e w2 ⟨x2, rfl, t2, hr, hn, hp, hb⟩
  have HB2 := Lib.hid (HB1.out.trans (hb.mono HB1.out.size))
  have HR2 := Lib.hid hr
  obtain rfl : t2 = t1 := hp.unique HP1.out
  have HRR := Lib.hid (HR1.out.below hb)
  have HS := Lib.hid (same_any t2 t2 x1 x2 w2 HRR.out HR2.out)
  rw [decide_eq_true rfl] at HS
  clear hr hn hp hb
  go_wp2_with fail
  go_at_call 18
  refine HS.out.mono ?_
  rintro e w3 ⟨rfl, hb⟩
  have HB3 := Lib.hid (below_then HB2.out hb)
  clear hb HS HRR
  go_wp2_with fail
  go_at_call 21
  refine (H21.out _ HB3.out).mono ?_
  rintro e w4 ⟨x4, rfl, t4, hr, hn, hp, hb⟩
  have HB4 := Lib.hid (HB3.out.trans (hb.mono HB3.out.size))
  have HR4 := Lib.hid hr
  have HP4 := Lib.hid hp
  clear hr hn hp hb
  go_wp2_with fail
  go_at_call 22
  refine (H22.out _ HB4.out).mono ?_
  rintro e w5 ⟨x5, rfl, t5, hr, hn, hp, hb⟩
  have HB5 := Lib.hid (HB4.out.trans (hb.mono HB4.out.size))
  have HR5 := Lib.hid hr
  obtain rfl : t5 = t4 := hp.unique HP4.out
  have HRR := Lib.hid (HR4.out.below hb)
  have HS := Lib.hid (same_any t5 t5 x4 x5 w5 HRR.out HR5.out)
  rw [decide_eq_true rfl] at HS
  clear hr hn hp hb
  go_wp2_with fail
  go_at_call 18
  refine HS.out.mono ?_
  rintro e w6 ⟨rfl, hb⟩
  have HB6 := Lib.hid (below_then HB5.out hb)
  clear hb HS HRR
  go_wp2_with fail
  go_at_call 23
  refine (H23.out _ HB6.out).mono ?_
  rintro e w7 ⟨x7, rfl, t7, hr, hn, hp, hb⟩
  have HB7 := Lib.hid (HB6.out.trans (hb.mono HB6.out.size))
  have HR7 := Lib.hid hr
  have HP7 := Lib.hid hp
  clear hr hn hp hb
  go_wp2_with fail
  go_at_call 24
  refine (H24.out _ HB7.out).mono ?_
  rintro e w8 ⟨x8, rfl, t8, hr, hn, hp, hb⟩
  have HB8 := Lib.hid (HB7.out.trans (hb.mono HB7.out.size))
  have HR8 := Lib.hid hr
  obtain rfl : t8 = t7 := hp.unique HP7.out
  have HRR := Lib.hid (HR7.out.below hb)
  have HS := Lib.hid (same_any t8 t8 x7 x8 w8 HRR.out HR8.out)
  rw [decide_eq_true rfl] at HS
  clear hr hn hp hb
  go_wp2_with fail
  go_at_call 18
  refine HS.out.mono ?_
  rintro e w9 ⟨rfl, hb⟩
  have HB9 := Lib.hid (below_then HB8.out hb)
  clear hb HS HRR
  go_wp2_with fail
  go_at_call 11
  refine (awake_any _ (HT.out.below HB9.out)).mono ?_
  rintro e w99 ⟨rfl, hb⟩
  have HB99 := Lib.hid (below_then HB9.out hb)
  clear hb
  go_wp2
  go_ret
  exact ⟨rfl, HB99.out⟩
theorem lawChange (a b : List Nat) (u v : Value) (c : Nat) (w : World) (hT : Lt w) (hu : Rd w u a) (hun : NilV u) (hv : Rd w v b) (hvn : NilV v) (hc : c < 4294967296) :
    Calls Tryd.prog 6 #[u, v, .int .u32 (c : Int)] w fun e w' => e = .returned (.bool true) ∧ Below w.heap.size w w' := by
  by_cases h : 600 < a.length ∨ 600 < b.length
  · exact change_large a b u v c w hT hu hv h
  · exact change_small a b u v c w hT hu hun hv hvn hc (by omega) (by omega)
end Go.Proofs.YtaniiennfogjaaaDoor
