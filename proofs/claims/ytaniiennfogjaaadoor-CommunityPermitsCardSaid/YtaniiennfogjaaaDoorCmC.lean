/-
  ascends, Check and the reference's Check and Same at lists of communities.
-/
import Derived.Test.YtaniiennfogjaaaDoorCmA
namespace Go.Proofs.YtaniiennfogjaaaDoor
open Go.RowKit T
set_option linter.unusedSimpArgs false
set_option linter.unusedVariables false
set_option maxHeartbeats 1500000
set_option maxRecDepth 100000

/-- ascending up to a place -/
theorem asc_step {l : List Nat} (h : Asc l) {i j x y : Nat} (hij : i < j) (hx : l[i]? = some x) (hy : l[j]? = some y) : x < y := by
  obtain ⟨h1, e1⟩ := List.getElem?_eq_some_iff.1 hx
  obtain ⟨h2, e2⟩ := List.getElem?_eq_some_iff.1 hy
  have := List.pairwise_iff_getElem.1 h i j h1 h2 hij
  omega
theorem asc_of {l : List Nat} (h : ∀ j x y, l[j]? = some x → l[j + 1]? = some y → x < y) : Asc l := by
  refine List.pairwise_iff_getElem.2 fun i j hi hj hij => ?_
  obtain ⟨d, rfl⟩ : ∃ d, j = i + 1 + d := ⟨j - (i + 1), by omega⟩
  induction d with
  | zero => exact h i _ _ (List.getElem?_eq_getElem hi) (List.getElem?_eq_getElem hj)
  | succ d ih =>
    have h1 := ih (by omega) (by omega)
    have h2 := h (i + 1 + d) _ _ (List.getElem?_eq_getElem (by omega)) (List.getElem?_eq_getElem (by omega : i + 1 + d + 1 < l.length))
    exact Nat.lt_trans h1 h2
instance (l : List Nat) : Decidable (Asc l) := by unfold Asc; infer_instance
def ascB (l : List Nat) : Bool := decide (Asc l)
theorem ascends_any (m : List Nat) (v : Value) (w : World) (hv : Rd w v m) : Calls Tryd.prog 29 #[v] w fun e w' => e = .returned (.bool (ascB m)) ∧ Below w.heap.size w w' := by
  obtain ⟨ad, cap, rfl, ⟨h1, h1'⟩, h2, hc⟩ := hv
  have HC := Lib.hid hc
  obtain ⟨L, hL⟩ : ∃ L, m.length = L := ⟨_, rfl⟩
  rw [hL] at h1 ⊢
  have HL := Lib.hid hL
  clear hc hL h2
  obtain ⟨q, hq⟩ : ∃ q, ascB m = q := ⟨_, rfl⟩
  rw [hq]
  have HQ := Lib.hid hq
  clear hq
  have HS : Hid (Below w.heap.size w w ∧ ∀ j x y, j + 1 < 1 → m[j]? = some x → m[j + 1]? = some y → x < y) := ⟨Below.refl _ _, fun j x y h => by omega⟩
  go_enter Tryd.func29, Tryd.ntmps29
  go_wp2_with fail
  go_loopg [3] L (fun g s3 wr => ∃ k : Nat, k ≤ L ∧ L - k ≤ g ∧ s3 = .int .i64 ((k : Int) + 1) ∧ Hid (Below w.heap.size w wr ∧ ∀ j x y, j + 1 < k + 1 → m[j]? = some x → m[j + 1]? = some y → x < y))
  case atStart => exact ⟨0, by omega, by omega, rfl, HS⟩
  case round =>
    clear HS
    obtain ⟨k, hk, hkg, rfl, HS⟩ := hrel
    by_cases hlt : k + 1 < L
    · obtain ⟨x, hx⟩ : ∃ x, m[k]? = some x := ⟨_, List.getElem?_eq_getElem (by rw [HL.out]; omega)⟩
      obtain ⟨y, hy⟩ : ∃ y, m[k + 1]? = some y := ⟨_, List.getElem?_eq_getElem (by rw [HL.out]; omega)⟩
      obtain ⟨b, off, rfl, hb, c⟩ := HC.out k x hx
      obtain ⟨b', off', e', hb', c'⟩ := HC.out (k + 1) y hy
      obtain ⟨rfl, rfl⟩ : b = b' ∧ off = off' := by injection e' with e'; injection e' with e1 e2; exact ⟨e1, e2⟩
      have d := (HS.out.1.cell (p := ⟨b, off + k, none⟩) hb).trans c
      have d' := (HS.out.1.cell (p := ⟨b, off + (k + 1), none⟩) hb).trans c'
      clear c c' hb' e'
      have HXY : Hid (m[k]? = some x ∧ m[k + 1]? = some y) := ⟨hx, hy⟩
      clear hx hy
      have k0 : (0 : Int) ≤ (k : Int) := by omega
      have k1 : (k : Int) + 1 < (L : Int) := by omega
      have k2 : (k : Int) < (L : Int) := by omega
      have k3 : (0 : Int) ≤ (k : Int) + 1 := by omega
      have k4 : IntKind.i64.wrap (k : Int) = (k : Int) := IntWalk.i64_in _ (by constructor <;> omega)
      by_cases hge : y ≤ x
      · have g1 : decide (y ≤ x) = true := decide_eq_true (by omega)
        have HQF : Hid (false = q) := by
          unfold Hid; rw [← HQ.out]
          exact (decide_eq_false fun h => by have := asc_step h (Nat.lt_succ_self k) HXY.out.1 HXY.out.2; omega).symm
        have HB := Lib.hid HS.out.1
        clear HS HXY hge
        go_wp2_with fail
        go_quiet (fail)
        go_wp2_with fail
        go_ret
        exact ⟨ret_b HQF.out, below_drewN HB.out _⟩
      · have g1 : decide (y ≤ x) = false := decide_eq_false (by omega)
        have HN : Hid (∀ q, Below w.heap.size w (wr.drewN q) ∧ ∀ j x y, j + 1 < k + 1 + 1 → m[j]? = some x → m[j + 1]? = some y → x < y) := fun q => ⟨below_drewN HS.out.1 q, fun j x' y' hj hx' hy' => by
          by_cases e : j = k
          · subst e
            have a1 := HXY.out.1; have a2 := HXY.out.2
            rw [hx'] at a1; rw [hy'] at a2
            cases a1; cases a2; omega
          · exact HS.out.2 j x' y' (by omega) hx' hy'⟩
        clear HS HXY hge
        go_wp2_with fail
        go_quiet (fail)
        go_wp2_with fail
        go_roundg (L - (k + 1))
        case measure => omega
        case rel => exact ⟨k + 1, by omega, Nat.le_refl _, by go_num, HN.out _⟩
    · have k1 : decide ((k : Int) + 1 < (L : Int)) = false := decide_eq_false (by omega)
      have HQT : Hid (true = q) := by
        unfold Hid; rw [← HQ.out]
        refine (decide_eq_true (asc_of fun j x y hx hy => HS.out.2 j x y ?_ hx hy)).symm
        have h1 := (List.getElem?_eq_some_iff.1 hy).1
        have := HL.out; omega
      have HB := Lib.hid HS.out.1
      clear HS
      go_wp2
      go_ret
      exact ⟨ret_b HQT.out, HB.out⟩
end Go.Proofs.YtaniiennfogjaaaDoor
