/-
  The walks of exact, of Text and of the reference's Text.
-/
import Derived.Test.YtiiojkekcnmddaaDoorPlA
import Derived.BigQuiet
namespace Go.Proofs.YtiiojkekcnmddaaDoor
open Go.RowKit
set_option linter.unusedSimpArgs false
set_option linter.unusedVariables false
set_option maxHeartbeats 1500000
set_option maxRecDepth 100000

theorem exact_any (pm : Bool) (a : Nat) (n : Int) (w : World) : Calls Tryd.prog 30 #[.bool pm, .agg #[.int .u32 (a : Int), .int .i64 n]] w fun e w' => e = .returned (ruV (pm, (a, n), n, n)) ∧ Below w.heap.size w w' := by
  go_enter Tryd.func30, Tryd.ntmps30
  go_wp2_with fail
  refine bodyPost_ret (v := ruV (pm, (a, n), n, n)) (by simp [results, Tryd.results30, go_sem]) rfl ⟨rfl, ?_⟩
  exact below2 _ _ _
def dg (n : Nat) : List UInt8 := [UInt8.ofNat (48 + n % 10)]
theorem conv_digit (n : Nat) (W : World) : (convert 76 9 (.slice (some ⟨W.heap.size, 0, none⟩) 1 1)).run Tryd.prog (W.alloc (.cells #[.int .u8 (48 + (n : Int) % 10)] 5)) = .ok (.string (bs (dg n))) (W.alloc (.cells #[.int .u8 (48 + (n : Int) % 10)] 5)) := by
  have hd := T.dec_digit (d := n % 10) (Nat.mod_lt _ (by omega))
  exact run_convert_bytes_back (P := Tryd.prog) _ 76 9 5 ⟨W.heap.size, 0, none⟩ 1 [UInt8.ofNat (48 + n % 10)] Tryd.underlying76 Tryd.underlying5 Tryd.underlying9 (fun j hj => by
    have hj0 : j = 0 := by simpa using hj
    subst hj0
    have e : ((48 + n % 10 : Nat) : Int) = 48 + (n : Int) % 10 := by omega
    simp only [List.getElem_cons_zero, hd]
    simp [Addr.add])
theorem dec_one (n : Nat) (h : n < 10) : Lib.decDigits n = dg n := by rw [Lib.decDigits_one h, dg, Nat.mod_eq_of_lt h]
theorem dec_two (n : Nat) (h : ¬ n < 10) (h2 : n < 100) : Lib.decDigits n = dg (n / 10) ++ dg n := by
  rw [Lib.decDigits_two h h2]; unfold dg; rw [Nat.mod_eq_of_lt (a := n / 10) (by omega)]; rfl
theorem digit_any (n : Nat) (w : World) (h : n < 10) : Calls Tryd.prog 50 #[.int .u64 n] w fun e w' => e = .returned (.string (bs (Lib.decDigits n))) ∧ Below w.heap.size w w' := by
  have hconv := fun W => conv_digit n W
  have HD := Lib.hid (dec_one n h)
  go_enter Tryd.func50, Tryd.ntmps50
  go_wp2
  go_ret
  exact ⟨by rw [HD.out]; rfl, (Below.refl _ _).alloc (Nat.le_refl _) _⟩
theorem digits_any (n : Nat) (w : World) (hn : n < 100) : Calls Tryd.prog 50 #[.int .u64 n] w fun e w' => e = .returned (.string (bs (Lib.decDigits n))) ∧ Below w.heap.size w w' := by
  by_cases h : n < 10
  · exact digit_any n w h
  · have hconv := fun W => conv_digit n W
    have HD : Hid (Lib.decDigits n = Lib.decDigits (n / 10) ++ dg n) := by unfold Hid; rw [dec_two n h hn, dec_one (n / 10) (by omega)]
    have HI := Lib.hid (fun W => digit_any (n / 10) W (by omega))
    have h1 : ¬ 9223372036854775807 < (bs (Lib.decDigits (n / 10))).size + 1 := by rw [bs_size, dec_one (n / 10) (by omega)]; simp [dg]
    have h2 : (bs (dg n)).size = 1 := rfl
    go_enter Tryd.func50, Tryd.ntmps50
    go_wp2_with (go_at_call 50; refine (HI.out _).mono ?_; rintro e w1 ⟨rfl, hb⟩; have HB := Lib.hid hb; clear hb)
    go_ret
    exact ⟨by rw [HD.out, ← bs_app]; rfl, ((Below.refl _ w).alloc (Nat.le_refl _) _).trans (HB.out.mono (by simp))⟩
theorem rdecimal_any (n : Int) (h0 : 0 ≤ n) (h1 : n ≤ 99) (w : World) : Calls Tryd.prog 33 #[.int .i64 n] w fun e w' => e = .returned (.string (bs (Lib.decDigits n.toNat))) ∧ Below w.heap.size w w' := by
  obtain ⟨m, rfl⟩ := Int.eq_ofNat_of_zero_le h0
  have HD := Lib.hid (fun W => digits_any m W (by omega))
  rw [Int.toNat_natCast]
  go_enter Tryd.func33, Tryd.ntmps33
  go_wp2_with (go_at_call 50; refine (HD.out _).mono ?_; rintro e w1 ⟨rfl, hb⟩)
  go_ret
  exact ⟨rfl, hb⟩
end Go.Proofs.YtiiojkekcnmddaaDoor
