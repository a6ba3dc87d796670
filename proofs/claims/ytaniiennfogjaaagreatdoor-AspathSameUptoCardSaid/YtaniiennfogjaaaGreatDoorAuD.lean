/-
  The walk of the law AspathSame.
-/
import Derived.Test.YtaniiennfogjaaaGreatDoorAuB
import Derived.Test.YtaniiennfogjaaaGreatDoorAuC
import Derived.Test.YtaniiennfogjaaaGreatDoorAsF
import Derived.Test.YtaniiennfogjaaaGreatDoorAtU
namespace Go.Proofs.YtaniiennfogjaaaGreatDoor
open Go.RowKit P
set_option linter.unusedSimpArgs false
set_option linter.unusedVariables false
set_option maxHeartbeats 1500000
set_option maxRecDepth 100000
theorem lawSame_any (a b : List Sg) (v u : Value) (w : World) (hT : Tab w) (hv : RdS w v a) (hu : RdS w u b) (ha : (flat a).length ≤ 2000000) (ha2 : a.length ≤ 2000000) (hb : (flat b).length ≤ 2000000) (hb2 : b.length ≤ 2000000) :
    Calls Tryz.prog 10 #[v, u] w fun e w' => e = .returned (.bool true) ∧ Below w.heap.size w w' := by
  have HT : Hid (∀ W, Below w.heap.size w W → Tab W) := fun W hW => tab_below hT hW
  have HLa := Lib.hid (large_any a v w hv ha ha2)
  have HLb : Hid (∀ W, Below w.heap.size w W → Calls Tryz.prog 11 #[u] W fun e w' => e = .returned (.bool (decide (3000 < sz b))) ∧ Below W.heap.size W w') := fun W hW => large_any b u W (hu.below hW) hb hb2
  have HSa : Hid (∀ W, Below w.heap.size w W → Calls Tryz.prog 37 #[v, u] W fun e w' => e = .returned (.bool (decide (a = b))) ∧ Below W.heap.size W w') := fun W hW => same_any a b v u W (hv.below hW) (hu.below hW)
  have HSb : Hid (∀ W, Below w.heap.size w W → Calls Tryz.prog 23 #[v, u] W fun e w' => e = .returned (.bool (decide (a = b))) ∧ Below W.heap.size W w') := fun W hW => rsame_any a b v u W (hv.below hW) (hu.below hW)
  have HSc : Hid (∀ W, Below w.heap.size w W → Calls Tryz.prog 37 #[v, v] W fun e w' => e = .returned (.bool true) ∧ Below W.heap.size W w') := fun W hW => by
    have := same_any a a v v W (hv.below hW) (hv.below hW)
    rwa [decide_eq_true (rfl : a = a)] at this
  generalize decide (a = b) = q at *
  obtain ⟨ad, cap, hf⟩ := hv.form
  obtain ⟨ad2, cap2, hf2⟩ := hu.form
  generalize a.length = M at *
  generalize b.length = N at *
  subst hf hf2
  have e0 : (q == q) = true := by simp
  by_cases hl : 3000 < sz a
  · rw [decide_eq_true hl] at HLa
    clear hT hv hu ha ha2 hb hb2 hl
    go_enter Tryz.func10, Tryz.ntmps10
    go_wp2_with fail
    go_at_call 11
    refine HLa.out.mono ?_
    rintro e w1 ⟨rfl, hb1⟩
    have B1 := Lib.hid hb1
    have HA := Lib.hid (awake_any w1 (HT.out _ hb1))
    clear hb1 HLa
    go_wp2_with fail
    go_at_call 12
    refine HA.out.mono ?_
    rintro e w2 ⟨rfl, hb2⟩
    have B2 := Lib.hid (below_then B1.out hb2)
    clear hb2 HA
    go_wp2
    go_ret
    exact ⟨rfl, B2.out⟩
  rw [decide_eq_false hl] at HLa
  by_cases hl2 : 3000 < sz b
  · rw [decide_eq_true hl2] at HLb
    clear hT hv hu ha ha2 hb hb2 hl hl2
    go_enter Tryz.func10, Tryz.ntmps10
    go_wp2_with fail
    go_at_call 11
    refine HLa.out.mono ?_
    rintro e w1 ⟨rfl, hb1⟩
    have B1 := Lib.hid hb1
    clear hb1 HLa
    go_wp2_with fail
    go_at_call 11
    refine (HLb.out _ B1.out).mono ?_
    rintro e w2 ⟨rfl, hb2⟩
    have B2 := Lib.hid (below_then B1.out hb2)
    have HA := Lib.hid (awake_any w2 (HT.out _ B2.out))
    clear hb2 HLb
    go_wp2_with fail
    go_at_call 12
    refine HA.out.mono ?_
    rintro e w3 ⟨rfl, hb3⟩
    have B3 := Lib.hid (below_then B2.out hb3)
    clear hb3 HA
    go_wp2
    go_ret
    exact ⟨rfl, B3.out⟩
  rw [decide_eq_false hl2] at HLb
  clear hT hv hu ha ha2 hb hb2 hl hl2
  go_enter Tryz.func10, Tryz.ntmps10
  go_wp2_with fail
  go_at_call 11
  refine HLa.out.mono ?_
  rintro e w1 ⟨rfl, hb1⟩
  have B1 := Lib.hid hb1
  clear hb1 HLa
  go_wp2_with fail
  go_at_call 11
  refine (HLb.out _ B1.out).mono ?_
  rintro e w2 ⟨rfl, hb2⟩
  have B2 := Lib.hid (below_then B1.out hb2)
  clear hb2 HLb
  go_wp2_with fail
  go_at_call 37
  refine (HSa.out _ B2.out).mono ?_
  rintro e w3 ⟨rfl, hb3⟩
  have B3 := Lib.hid (below_then B2.out hb3)
  clear hb3 HSa
  go_wp2_with fail
  go_at_call 23
  refine (HSb.out _ B3.out).mono ?_
  rintro e w4 ⟨rfl, hb4⟩
  have B4 := Lib.hid (below_then B3.out hb4)
  clear hb4 HSb
  go_wp2_with fail
  go_at_call 37
  refine (HSc.out _ B4.out).mono ?_
  rintro e w5 ⟨rfl, hb5⟩
  have B5 := Lib.hid (below_then B4.out hb5)
  have HA := Lib.hid (awake_any w5 (HT.out _ B5.out))
  clear hb5 HSc
  go_wp2_with fail
  go_at_call 12
  refine HA.out.mono ?_
  rintro e w6 ⟨rfl, hb6⟩
  have B6 := Lib.hid (below_then B5.out hb6)
  clear hb6 HA
  go_wp2
  go_ret
  exact ⟨rfl, B6.out⟩
end Go.Proofs.YtaniiennfogjaaaGreatDoor
