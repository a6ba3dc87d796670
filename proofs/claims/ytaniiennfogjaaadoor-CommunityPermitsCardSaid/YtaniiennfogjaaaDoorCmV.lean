/-
  The walks of Match and of the reference's Match.
-/
import Derived.Test.YtaniiennfogjaaaDoorCmU
namespace Go.Proofs.YtaniiennfogjaaaDoor
open Go.RowKit T
set_option linter.unusedSimpArgs false
set_option linter.unusedVariables false
set_option maxHeartbeats 600000
set_option maxRecDepth 100000

def matchC (hi lo : Int) (c : Nat) : Bool := fitB hi ((c / 65536 : Nat) : Int) && fitB lo ((c % 65536 : Nat) : Int)
theorem closure42_any (hi lo : Int) (pm : Bool) (c b : Nat) (w : World) (hc : c < 4294967296) (h1 : w.cell? ⟨b, 1, none⟩ = some (.int .i64 hi)) (h2 : w.cell? ⟨b, 2, none⟩ = some (.int .i64 lo)) :
    Calls Tryd.prog 42 #[.int .u32 (c : Int), .pointer (some ⟨b, 0, none⟩)] w fun e w' => e = .returned (.bool (matchC hi lo c)) ∧ ∃ n, w' = w.drewN n := by
  have HH : Hid (∀ W, Calls Tryd.prog 31 #[.int .u32 (c : Int)] W fun e w' => e = .returned (.int .i64 ((c / 65536 : Nat) : Int)) ∧ w' = W) := fun W => (high_any c W hc).mono fun _ _ h => ⟨h.1, h.2.symm⟩
  have HL : Hid (∀ W, Calls Tryd.prog 32 #[.int .u32 (c : Int)] W fun e w' => e = .returned (.int .i64 ((c % 65536 : Nat) : Int)) ∧ w' = W) := fun W => (low_any c W hc).mono fun _ _ h => ⟨h.1, h.2.symm⟩
  have HF1 : Hid (∀ W, Calls Tryd.prog 43 #[.int .i64 hi, .int .i64 ((c / 65536 : Nat) : Int)] W fun e w' => e = .returned (.bool (fitB hi ((c / 65536 : Nat) : Int))) ∧ w' = W) := fun W => (fits_any _ _ W).mono fun _ _ h => ⟨h.1, h.2.symm⟩
  have HF2 : Hid (∀ W, Calls Tryd.prog 43 #[.int .i64 lo, .int .i64 ((c % 65536 : Nat) : Int)] W fun e w' => e = .returned (.bool (fitB lo ((c % 65536 : Nat) : Int))) ∧ w' = W) := fun W => (fits_any _ _ W).mono fun _ _ h => ⟨h.1, h.2.symm⟩
  obtain ⟨q, hq⟩ : ∃ q, matchC hi lo c = q := ⟨_, rfl⟩
  rw [hq]
  unfold matchC at hq
  generalize fitB hi ((c / 65536 : Nat) : Int) = q1 at *
  generalize fitB lo ((c % 65536 : Nat) : Int) = q2 at *
  generalize ((c / 65536 : Nat) : Int) = a1 at *
  generalize ((c % 65536 : Nat) : Int) = a2 at *
  have HQ := Lib.hid hq
  clear hq
  cases q1 with
  | true =>
    have HR : Hid (q2 = q) := by unfold Hid; have := HQ.out; simpa using this
    go_enter Tryd.func42, Tryd.ntmps42
    go_wp2_with fail
    go_quiet ((first
      | (go_at_call 31; refine Calls.quiet_of_same (HH.out _))
      | (go_at_call 32; refine Calls.quiet_of_same (HL.out _))
      | (go_at_call 43; (with_reducible refine Calls.quiet_of_same (HF1.out _)))
      | (go_at_call 43; (with_reducible refine Calls.quiet_of_same (HF2.out _)))))
    go_wp2_with fail
    go_ret
    exact ⟨ret_b HR.out, _, rfl⟩
  | false =>
    have HR : Hid (false = q) := by unfold Hid; have := HQ.out; simpa using this
    go_enter Tryd.func42, Tryd.ntmps42
    go_wp2_with fail
    go_quiet ((first
      | (go_at_call 31; refine Calls.quiet_of_same (HH.out _))
      | (go_at_call 43; (with_reducible refine Calls.quiet_of_same (HF1.out _)))))
    go_wp2_with fail
    go_ret
    exact ⟨ret_b HR.out, _, rfl⟩
theorem containsf42_any (m : List Nat) (v cp : Value) (p : Nat → Bool) (w : World) (hv : Rd w v m) (hp : Pred42 w cp p) : Calls Tryd.prog 41 #[v, .func (.func 42) #[] #[cp]] w fun e w' => e = .returned (.bool (m.any p)) ∧ ∃ n, w' = w.drewN n := by
  have H := Lib.hid (indexf42_any m v cp p w hv hp)
  obtain ⟨ad, cap, rfl⟩ := hv.form
  generalize m.length = L at *
  clear hv hp
  go_enter Tryd.func41, Tryd.ntmps41
  go_wp2_with fail
  go_at_call 54
  refine H.out.mono ?_
  rintro e w1 ⟨i, rfl, hi, hw⟩
  have HW := Lib.hid hw
  have HD : Hid (decide (0 ≤ i) = m.any p) := by
    rcases hi with ⟨rfl, h⟩ | ⟨k, x, rfl, h1, h2, _⟩
    · have : m.any p = false := by rw [List.any_eq_false]; exact fun x hx => by rw [h x hx]; simp
      rw [this]; rfl
    · have : m.any p = true := List.any_eq_true.2 ⟨x, List.mem_of_getElem? h1, h2⟩
      rw [this]; exact decide_eq_true (by omega)
  clear hi hw H
  go_wp2
  go_ret
  exact ⟨by rw [← HD.out] <;> rfl, HW.out⟩
def matchB (hi lo : Int) (l : List Nat) : Bool := l.any (matchC hi lo)
theorem match_any (pm : Bool) (hi lo : Int) (l : List Nat) (v : Value) (w : World) (hv : Rd w v l) :
    Calls Tryd.prog 25 #[.agg #[.bool pm, .int .i64 hi, .int .i64 lo], v] w fun e w' => e = .returned (.bool (matchB hi lo l)) ∧ Below w.heap.size w w' := by
  have hx : (w.alloc (.cells #[.bool pm, .int .i64 hi, .int .i64 lo] 40)).heap[w.heap.size]? = some (.cells #[.bool pm, .int .i64 hi, .int .i64 lo] 40 (0, 0)) := heap_alloc_new _ _
  have H : Hid (Calls Tryd.prog 41 #[v, .func (.func 42) #[] #[.pointer (some ⟨w.heap.size, 0, none⟩)]] (w.alloc (.cells #[.bool pm, .int .i64 hi, .int .i64 lo] 40)) fun e w' => e = .returned (.bool (matchB hi lo l)) ∧ ∃ n, w' = (w.alloc (.cells #[.bool pm, .int .i64 hi, .int .i64 lo] 40)).drewN n) :=
    containsf42_any l v _ (matchC hi lo) _ (hv.below (below_alloc _ _)) (fun n x hxx => by
      have c1 : (w.alloc (.cells #[.bool pm, .int .i64 hi, .int .i64 lo] 40)).cell? ⟨w.heap.size, 1, none⟩ = some (.int .i64 hi) := cell_of hx rfl
      have c2 : (w.alloc (.cells #[.bool pm, .int .i64 hi, .int .i64 lo] 40)).cell? ⟨w.heap.size, 2, none⟩ = some (.int .i64 lo) := cell_of hx rfl
      refine (closure42_any hi lo pm x w.heap.size ((w.alloc (.cells #[.bool pm, .int .i64 hi, .int .i64 lo] 40)).drewN n) hxx c1 c2).mono ?_
      rintro e w' ⟨he, m, rfl⟩
      exact ⟨he, n + m, by rw [World.drewN_drewN]⟩)
  have HB : Hid (Below w.heap.size w (w.alloc (.cells #[.bool pm, .int .i64 hi, .int .i64 lo] 40))) := below_alloc _ _
  obtain ⟨ad, cap, rfl⟩ := hv.form
  clear hv hx
  go_enter Tryd.func25, Tryd.ntmps25
  go_wp2_with fail
  go_at_call 41
  refine H.out.mono ?_
  rintro e w1 ⟨rfl, n, rfl⟩
  go_wp2
  go_ret
  exact ⟨rfl, below_drewN HB.out n⟩
end Go.Proofs.YtaniiennfogjaaaDoor
