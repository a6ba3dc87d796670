/-
  The walks of same and SameStrings.
-/
import Derived.Test.YthoonegckifiaaaDoorWalkJ
import Derived.Deep.QuietTactic
import Derived.BigQuiet
namespace Go.Proofs.YthoonegckifiaaaDoor
open Go.RowKit
set_option linter.unusedSimpArgs false
set_option linter.unusedVariables false
set_option maxHeartbeats 4000000
set_option maxRecDepth 100000

theorem quiet_left {P : Program} {f : FuncId} {args : Array Value} {w : World} {n : Nat} {v : Value}
    (h : Calls P f args (w.drewN n) fun e w' => e = .returned v ∧ w.drewN n = w') : Calls P f args (w.drewN n) fun e w'' => e = .returned v ∧ ∃ m, w'' = w.drewN m :=
  h.mono fun _ _ ⟨he, hm⟩ => ⟨he, n, hm.symm⟩

theorem samet_yes (ts : List TV) (u v : Value) (w : World) (hl : ts.length ≤ 140737489403904) (hle : ∀ t ∈ ts, t.2.length ≤ 140737489403904) (hu : RdT w u ts) (hv : RdT w v ts) :
    Calls Tryd.prog 24 #[u, v] w fun e w' => e = .returned (.bool true) ∧ Below w.heap.size w w' := by
  obtain ⟨ad, cap, rfl, hc⟩ := hu
  obtain ⟨ad2, cap2, rfl, hc2⟩ := hv
  have HC := Lib.hid hc
  have HC2 := Lib.hid hc2
  have HLE := Lib.hid hle
  clear hc hc2 hle
  go_enter Tryd.func24, Tryd.ntmps24
  go_wp2
  go_loopg [5, 6, 14] ts.length (fun g _ _ s14 wr => ∃ k : Nat, k ≤ ts.length ∧ ts.length - k ≤ g ∧ s14 = .int .i64 k ∧ Below w.heap.size w wr)
  case atStart => exact ⟨0, by omega, by omega, rfl, Below.refl _ _⟩
  case round =>
    obtain ⟨k, hk, hg, rfl, hbel⟩ := hrel
    have HW := Lib.hid hbel
    clear hbel
    by_cases hlt : k < ts.length
    · obtain ⟨t, ht⟩ : ∃ t, ts[k]? = some t := ⟨_, List.getElem?_eq_getElem hlt⟩
      obtain ⟨blk, off, x, rfl, hblk, hc0, hc1, hrx⟩ := HC.out k t ht
      obtain ⟨blk2, off2, y, rfl, hblk2, hd0, hd1, hry⟩ := HC2.out k t ht
      have HLT := Lib.hid (HLE.out t (List.mem_of_getElem? ht))
      obtain ⟨n, l⟩ := t
      clear ht
      have e0 : wr.cell? ⟨blk, off + k * 2, none⟩ = some (.int .i64 n) := (HW.out.cell (p := ⟨blk, off + k * 2, none⟩) hblk).trans hc0
      have e1 : wr.cell? ⟨blk, off + k * 2 + 1, none⟩ = some x := (HW.out.cell (p := ⟨blk, off + k * 2 + 1, none⟩) hblk).trans hc1
      have d0 : wr.cell? ⟨blk2, off2 + k * 2, none⟩ = some (.int .i64 n) := (HW.out.cell (p := ⟨blk2, off2 + k * 2, none⟩) hblk2).trans hd0
      have d1 : wr.cell? ⟨blk2, off2 + k * 2 + 1, none⟩ = some y := (HW.out.cell (p := ⟨blk2, off2 + k * 2 + 1, none⟩) hblk2).trans hd1
      have HSM : Hid (∀ W, Below w.heap.size w W → Calls Tryd.prog 13 #[x, y] W fun e w' => e = .returned (.bool true) ∧ W = w') := fun W hW => same_yes l x y W HLT.out (hrx.below hW) (hry.below hW)
      obtain ⟨A1, p1, rfl, _⟩ := hrx
      obtain ⟨A2, p2, rfl, _⟩ := hry
      have hz : w.heap.size ≤ wr.heap.size := HW.out.size
      have n1 : ¬ blk = wr.heap.size := by omega
      have n2 : ¬ blk2 = wr.heap.size := by omega
      have m0 : blk < wr.heap.size := by omega
      have m2 : blk2 < wr.heap.size := by omega
      clear hc0 hc1 hd0 hd1
      go_wp2
      have q1 : (0 : Int) ≤ (k : Int) := by omega
      have q2 : (k : Int) < (ts.length : Int) := by omega
      have HA := Lib.hid (HW.out.alloc hz (.cells #[.int .i64 n, .slice A1 l.length p1] 36))
      go_quiet ((go_at_call 13; exact quiet_left (HSM.out _ (below_drewN HA.out _))))
      all_goals (
        go_wp2
        go_roundg (ts.length - (k + 1))
        case measure => omega
        case rel => exact ⟨k + 1, by omega, Nat.le_refl _, by go_num, below_drewN HA.out _⟩)
    · have hkl : k = ts.length := by omega
      subst hkl
      go_wp2
      go_ret
      exact ⟨rfl, HW.out⟩
end Go.Proofs.YthoonegckifiaaaDoor
