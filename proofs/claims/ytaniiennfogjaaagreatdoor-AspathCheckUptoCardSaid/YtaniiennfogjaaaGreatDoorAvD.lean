/-
  The walk of the law AspathCheck.
-/
import Derived.Test.YtaniiennfogjaaaGreatDoorAvC
import Derived.Test.YtaniiennfogjaaaGreatDoorAsE
import Derived.Test.YtaniiennfogjaaaGreatDoorAsF
import Derived.Test.YtaniiennfogjaaaGreatDoorAtU
namespace Go.Proofs.YtaniiennfogjaaaGreatDoor
open Go.RowKit P
set_option linter.unusedSimpArgs false
set_option linter.unusedVariables false
set_option maxHeartbeats 1500000
set_option maxRecDepth 100000
theorem lawCheck_any (a : List Sg) (v : Value) (w : World) (hT : Tab w) (hv : RdS w v a) (ha : (flat a).length ≤ 2000000) (ha2 : a.length ≤ 2000000) :
    Calls Tryz.prog 3 #[v] w fun e w' => e = .returned (.bool true) ∧ Below w.heap.size w w' := by
  have HT : Hid (∀ W, Below w.heap.size w W → Tab W) := fun W hW => tab_below hT hW
  have HLa := Lib.hid (large_any a v w hv ha ha2)
  have HSa : Hid (∀ W, Below w.heap.size w W → Calls Tryz.prog 13 #[v] W fun e w' => e = .returned (.int .i64 (chk a)) ∧ Below W.heap.size W w') := fun W hW => check_any a v W (hv.below hW)
  have HSb : Hid (∀ W, Below w.heap.size w W → Calls Tryz.prog 14 #[v] W fun e w' => e = .returned (.int .i64 (chk a)) ∧ Below W.heap.size W w') := fun W hW => rcheck_any a v W (hv.below hW)
  generalize chk a = q at *
  obtain ⟨ad, cap, hf⟩ := hv.form
  generalize a.length = M at *
  subst hf
  have e0 : (q == q) = true := by simp
  by_cases hl : 3000 < sz a
  · rw [decide_eq_true hl] at HLa
    clear hT hv ha ha2 hl
    go_enter Tryz.func3, Tryz.ntmps3
    go_wp2_with fail
    go_at_call 11
    refine HLa.out.mono ?_
    rintro e w1 ⟨rfl, hb1⟩
    have B1 := Lib.hid hb1
    have HA := Lib.hid (awake_any w1 (HT.out _ hb1))
    clear hb1 HLa
    go_wp2_with fail
    go_at_call 12
    refine HA.out.mono ?_
    rintro e w2 ⟨rfl, hb2⟩
    have B2 := Lib.hid (below_then B1.out hb2)
    clear hb2 HA
    go_wp2
    go_ret
    exact ⟨rfl, B2.out⟩
  rw [decide_eq_false hl] at HLa
  clear hT hv ha ha2 hl
  go_enter Tryz.func3, Tryz.ntmps3
  go_wp2_with fail
  go_at_call 11
  refine HLa.out.mono ?_
  rintro e w1 ⟨rfl, hb1⟩
  have B1 := Lib.hid hb1
  clear hb1 HLa
  go_wp2_with fail
  go_at_call 13
  refine (HSa.out _ B1.out).mono ?_
  rintro e w2 ⟨rfl, hb2⟩
  have B2 := Lib.hid (below_then B1.out hb2)
  clear hb2 HSa
  go_wp2_with fail
  go_at_call 14
  refine (HSb.out _ B2.out).mono ?_
  rintro e w3 ⟨rfl, hb3⟩
  have B3 := Lib.hid (below_then B2.out hb3)
  have HA := Lib.hid (awake_any w3 (HT.out _ B3.out))
  clear hb3 HSb
  go_wp2_with fail
  go_at_call 12
  refine HA.out.mono ?_
  rintro e w6 ⟨rfl, hb6⟩
  have B6 := Lib.hid (below_then B3.out hb6)
  clear hb6 HA
  go_wp2
  go_ret
  exact ⟨rfl, B6.out⟩
end Go.Proofs.YtaniiennfogjaaaGreatDoor
