/-
  The walk of the law Trim.
-/
import Derived.Test.YtiiojkekcnmddaaDoorPlK
import Derived.Test.YtiiojkekcnmddaaDoorLwE
import Derived.BigQuiet
namespace Go.Proofs.YtiiojkekcnmddaaDoor
open Go.RowKit
set_option linter.unusedSimpArgs false
set_option linter.unusedVariables false
set_option maxHeartbeats 2000000
set_option maxRecDepth 100000

theorem lawTrim (rs : List Ru) (v : Value) (w : World) (hT : Lt w) (hv : RdU w v rs) :
    Calls Tryd.prog 7 #[v] w fun e w' => e = .returned (.bool true) ∧ Below w.heap.size w w' := by
  have HT : Hid (∀ W, Below w.heap.size w W → Lt W) := fun W hW => hT.below hW
  have HR : Hid (∀ W, Below w.heap.size w W → RdU W v rs) := fun W hW => hv.below hW
  obtain ⟨L, hL⟩ : ∃ L, rs.length = L := ⟨_, rfl⟩
  obtain ⟨ad, cap, hf⟩ := hv.form
  rw [hL] at hf
  subst hf
  clear hv hT
  by_cases h200 : (200 : Int) < (L : Int)
  · clear HR hL
    go_enter Tryd.func7, Tryd.ntmps7
    go_wp2_with fail
    go_at_call 12
    refine (awake_any _ (HT.out _ (Below.refl _ _))).mono ?_
    rintro e w1 ⟨rfl, h1⟩
    have HB1 := Lib.hid h1
    clear h1
    go_wp2
    go_ret
    exact ⟨rfl, HB1.out⟩
  have HT1 : Hid (∀ W, Below w.heap.size w W → Calls Tryd.prog 21 #[.slice ad L cap] W fun e w' => ∃ v', e = .returned v' ∧ OwnU W.heap.size w' v' (trimR rs) ∧ Below W.heap.size W w') := fun W hW => trim_any rs _ W (HR.out W hW) (by omega)
  have HT2 : Hid (∀ W, Below w.heap.size w W → Calls Tryd.prog 22 #[.slice ad L cap] W fun e w' => ∃ v', e = .returned v' ∧ OwnU W.heap.size w' v' (trimR rs) ∧ Below W.heap.size W w') := fun W hW => rtrim_any rs _ W (HR.out W hW) (by omega)
  have hle := trimR_len rs
  rw [hL] at hle
  clear hL HR
  generalize trimR rs = tl at *
  obtain ⟨N, hN⟩ : ∃ N, tl.length = N := ⟨_, rfl⟩
  have HNL := Lib.hid hN
  rw [hN] at hle
  go_enter Tryd.func7, Tryd.ntmps7
  go_wp2_with fail
  go_at_call 21
  refine (HT1.out _ (Below.refl _ _)).mono ?_
  rintro e w1 ⟨vl, rfl, ho, hw1⟩
  obtain ⟨ad1, cap1, hf1⟩ := ho.rd.form
  rw [hN] at hf1
  subst hf1
  have HR1 := Lib.hid ho.rd
  have HB1 := Lib.hid hw1
  clear ho hw1 HT1
  go_wp2_with fail
  go_at_call 22
  refine (HT2.out _ HB1.out).mono ?_
  rintro e w2 ⟨vl, rfl, ho, hw2⟩
  obtain ⟨ad2, cap2, hf2⟩ := ho.rd.form
  rw [hN] at hf2
  subst hf2
  have HR2 := Lib.hid ho.rd
  have HR3 := Lib.hid (HR1.out.below hw2)
  have HB2 := Lib.hid (below_then HB1.out hw2)
  clear ho hw2 HT2 hN HR1
  have HW := Lib.hid (Below.refl w2.heap.size w2)
  go_wp2_with fail
  go_loopg [5, 21] N (fun g s5 s21 wr => ∃ (k : Nat), k ≤ N ∧ N - k ≤ g ∧ s21 = .int .i64 (k : Int) ∧ (∃ q, q = s5) ∧ Hid (Below w2.heap.size w2 wr))
  case atStart => exact ⟨0, by omega, by omega, rfl, ⟨_, rfl⟩, HW⟩
  case round =>
    clear HW
    obtain ⟨k, hk, hkg, rfl, ⟨u5, rfl⟩, HW⟩ := hrel
    by_cases hlt : k < N
    · obtain ⟨z, hz⟩ : ∃ z, tl[k]? = some z := ⟨_, List.getElem?_eq_getElem (by rw [HNL.out]; exact hlt)⟩
      obtain ⟨b, off, e5, c0, c1, c2, c3, c4⟩ := (HR3.out.below HW.out).at hz
      subst e5
      obtain ⟨b', off', e6, d0, d1, d2, d3, d4⟩ := (HR2.out.below HW.out).at hz
      subst e6
      have k0 : (0 : Int) ≤ (k : Int) := by omega
      have k1 : (k : Int) < (N : Int) := by omega
      obtain ⟨pm, ⟨a, n⟩, mn, mx⟩ := z
      dsimp only at *
      clear hz
      go_wp2_with fail
      go_quiet (fail)
      all_goals go_wp2
      go_roundg (N - (k + 1))
      case measure => omega
      case rel => exact ⟨k + 1, by omega, Nat.le_refl _, by go_num, ⟨_, rfl⟩, by first | exact HW | exact below_drewN HW.out _⟩
    · have k1 : decide ((k : Int) < (N : Int)) = false := decide_eq_false (by omega)
      have HB3 := Lib.hid (below_then HB2.out HW.out)
      go_wp2_with fail
      go_at_call 12
      refine (awake_any _ (HT.out _ HB3.out)).mono ?_
      rintro e w7 ⟨rfl, hw7⟩
      have HB7 := Lib.hid (below_then HB3.out hw7)
      clear hw7
      go_wp2_with fail
      go_ret
      exact ⟨rfl, HB7.out⟩
end Go.Proofs.YtiiojkekcnmddaaDoor
