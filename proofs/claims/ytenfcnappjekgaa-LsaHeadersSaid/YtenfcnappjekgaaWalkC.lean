/-
  The walks of the Fletcher sums.
-/
import Derived.Test.YtenfcnappjekgaaWalkB
namespace Go.Proofs.Ytenfcnappjekgaa
open Go.RowKit
set_option linter.unusedSimpArgs false
set_option linter.unusedVariables false
set_option maxHeartbeats 4000000
set_option maxRecDepth 100000

def sumsV (l : List Nat) : Value := .agg #[.int .i64 (fl1 l : Nat), .int .i64 (fl2 l : Nat)]
theorem fl_snoc (l : List Nat) (x : Nat) : fl1 (l ++ [x]) = (fl1 l + x) % 255 ∧ fl2 (l ++ [x]) = (fl2 l + fl1 (l ++ [x])) % 255 := by
  unfold fl1 fl2
  rw [sum2_snoc, sum_snoc]
  omega
theorem fl_lt (l : List Nat) : fl1 l < 255 ∧ fl2 l < 255 := ⟨Nat.mod_lt _ (by omega), Nat.mod_lt _ (by omega)⟩

theorem sums_any (l : List Nat) (v : Value) (w : World) (hl : l.length ≤ 140737488355328) (hr : Rd w v l) :
    Calls Try.prog 102 #[v] w fun e w' => e = .returned (sumsV l) ∧ Below w.heap.size w w' := by
  obtain ⟨ad, cap, rfl, hcap, hby, hat⟩ := hr
  have HAT := Lib.hid hat
  have HBY := Lib.hid hby
  clear hat hby
  go_enter Try.func102, Try.ntmps102
  go_wp2
  go_loopg [4, 7] l.length (fun g s4 s7 wr => ∃ k : Nat, k ≤ l.length ∧ l.length - k ≤ g ∧ s7 = .int .i64 k ∧ Blk wr w.heap.size 117 #[.int .i64 0, .int .i64 0] ∧ Blk wr (w.heap.size + 1) 117 #[.int .i64 (fl1 (l.take k) : Nat), .int .i64 (fl2 (l.take k) : Nat)] ∧ Below w.heap.size w wr)
  case atStart => exact ⟨0, by omega, by omega, rfl, (Blk.new _ _ _).alloc _, by have := Blk.new (w.alloc (.cells #[.int .i64 0, .int .i64 0] 117)) 117 #[.int .i64 0, .int .i64 0]; simp at this; exact this, ((Below.refl _ _).alloc (Nat.le_refl _) _).alloc (by simp) _⟩
  case round =>
    obtain ⟨k, hk, hg, rfl, hblk0, hblk1, hbel⟩ := hrel
    have hb1 := fl_lt (l.take k)
    have e0 := hblk1.cell 0
    have e1 := hblk1.cell 1
    have f0 := hblk1.frozen 0
    have f1 := hblk1.frozen 1
    have r0 := hblk0.cell 0
    have r1 := hblk0.cell 1
    have g0 := hblk0.frozen 0
    have g1 := hblk0.frozen 1
    have HB := Lib.hid hblk1
    have HB0 := Lib.hid hblk0
    have HW := Lib.hid hbel
    clear hblk0 hblk1 hbel
    simp at e0 e1 r0 r1
    by_cases hlt : k < l.length
    · obtain ⟨x, hx⟩ : ∃ x, l[k]? = some x := ⟨_, List.getElem?_eq_getElem hlt⟩
      obtain ⟨blk, off, rfl, hblk, hc0⟩ := HAT.out k x hx
      have hcx : wr.cell? ⟨blk, off + k, none⟩ = some (.int .u8 (x : Int)) := (HW.out.cell (p := ⟨blk, off + k, none⟩) hblk).trans hc0
      have hxb := HBY.out.get hx
      have HV := Lib.hid (fl_snoc (l.take k) x)
      have HX := Lib.hid hx
      clear hx hc0
      go_wp2
      go_region
      go_wp2
      go_roundg (l.length - (k + 1))
      case measure => omega
      case rel =>
        refine ⟨k + 1, by omega, Nat.le_refl _, by go_num, ((HB0.out.far (p := ⟨_, _, none⟩) (by simp) _).far (p := ⟨_, _, none⟩) (by simp) _).drew, ?_, below_drew ((HW.out.setCell (p := ⟨_, _, none⟩) (by simp) _).setCell (p := ⟨_, _, none⟩) (by simp) _)⟩
        have hv := HV.out
        rw [← take_snoc HX.out] at hv
        have h1 := hv.1
        have h2 := hv.2
        rw [show (Value.int IntKind.i64 ((fl1 (l.take (k + 1)) : Nat) : Int)) = .int .i64 (((fl1 (l.take k) : Nat) + (x : Int)) % 255) from val_i (by omega),
          show (Value.int IntKind.i64 ((fl2 (l.take (k + 1)) : Nat) : Int)) = .int .i64 (((fl2 (l.take k) : Nat) + ((fl1 (l.take k) : Nat) + (x : Int))) % 255) from val_i (by omega)]
        exact ((HB.out.set0 _).set1 _).drew
    · have hkl : k = l.length := by omega
      subst hkl
      have HT : Hid (l.take l.length = l) := List.take_length
      rw [HT.out] at e0 e1
      go_wp2
      have c0 := ((HB0.out.set0 (.int .i64 (fl1 l : Nat))).set1 (.int .i64 (fl2 l : Nat)))
      have k0 := c0.cell 0
      have k1 := c0.cell 1
      have s35 := Try.sizeOf35
      simp at k0 k1
      exact bodyPost_ret (v := sumsV l) (by simp [results, Try.results102, go_sem, k0, k1, sumsV]) rfl ⟨rfl, (HW.out.setCell (p := ⟨_, _, none⟩) (by simp) _).setCell (p := ⟨_, _, none⟩) (by simp) _⟩

/-- the reference's sums -/
theorem rsums_any (l : List Nat) (v : Value) (w : World) (hl : l.length ≤ 140737488355328) (hr : Rd w v l) :
    Calls Try.prog 107 #[v] w fun e w' => e = .returned (.tuple #[.int .i64 (fl1 l : Nat), .int .i64 (fl2 l : Nat)]) ∧ w = w' := by
  obtain ⟨ad, cap, rfl, hcap, hby, hat⟩ := hr
  have HAT := Lib.hid hat
  have HBY := Lib.hid hby
  have HLW := Lib.hid (wsum_len l)
  clear hat hby
  go_enter Try.func107, Try.ntmps107
  go_wp2
  go_loop [4, 5, 6] (fun s t i => ∃ (k a b : Nat), k ≤ l.length ∧ i = .int .i64 k ∧ s = .int .i64 a ∧ t = .int .i64 b ∧ a < 255 ∧ b < 255 ∧ Hid (a = fl1 (l.take k) ∧ b = wsum l.length (l.take k) % 255)) (fun _ _ i => l.length - (intOf i).toNat)
  case atStart => exact ⟨0, 0, 0, Nat.zero_le _, rfl, rfl, rfl, by omega, by omega, rfl, rfl⟩
  case round =>
    obtain ⟨k, a, b, hk, rfl, rfl, rfl, ha, hb, HAB⟩ := hrel
    by_cases hlt : k < l.length
    · obtain ⟨x, hx⟩ : ∃ x, l[k]? = some x := ⟨_, List.getElem?_eq_getElem hlt⟩
      obtain ⟨blk, off, rfl, hblk, hc0⟩ := HAT.out k x hx
      have hxb := HBY.out.get hx
      have HX := Lib.hid hx
      clear hx
      have hq : (((l.length : Int) - k) % 255) < 255 := by omega
      have hq0 : 0 ≤ (((l.length : Int) - k) % 255) := by omega
      have hp0 : 0 ≤ ((l.length : Int) - k) % 255 * x := Int.mul_nonneg hq0 (by omega)
      have hp1 : ((l.length : Int) - k) % 255 * x ≤ 65025 := by
        have h1 : ((l.length : Int) - k) % 255 * x ≤ 255 * x := Int.mul_le_mul_of_nonneg_right (by omega) (by omega)
        omega
      have HQ : Hid ((b + (l.length - k) * x) % 255 = (b + (((l.length : Int) - k) % 255 * x).toNat) % 255) := by
        have e : (((l.length : Int) - k) % 255 * x).toNat = (l.length - k) % 255 * x := by
          have : (((l.length : Int) - k) % 255 * x) = (((l.length - k) % 255 * x : Nat) : Int) := by push_cast; rw [Int.ofNat_sub (by omega)]
          rw [this]; exact Int.toNat_natCast _
        unfold Hid
        rw [e, Nat.add_mod, Nat.mul_mod, Nat.add_mod b ((l.length - k) % 255 * x), Nat.mul_mod ((l.length - k) % 255)]
        simp
      clear hq hq0
      go_wp2
      go_round
      case rel =>
        refine ⟨k + 1, (a + x) % 255, (b + (((l.length : Int) - k) % 255 * x).toNat) % 255, by omega, by go_num, val_i (by omega), val_i (by omega), by omega, by omega, ?_⟩
        have h1 := HAB.out
        refine ⟨?_, ?_⟩
        · rw [h1.1, take_snoc HX.out, (fl_snoc _ _).1]
        · rw [← HQ.out, take_snoc HX.out, wsum_snoc, List.length_take, Nat.min_eq_left (by omega), h1.2]; omega
      case measure => simp [intOf]; omega
    · have hkl : k = l.length := by omega
      subst hkl
      have HT : Hid (l.take l.length = l) := List.take_length
      go_wp2
      go_ret2
      refine ⟨?_, rfl⟩
      have h1 := HAB.out
      rw [HT.out, HLW.out] at h1
      rw [h1.1, h1.2]; rfl
end Go.Proofs.Ytenfcnappjekgaa
