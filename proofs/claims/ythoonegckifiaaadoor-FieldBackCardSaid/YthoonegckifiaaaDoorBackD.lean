/-
  Part of FieldBack: the walk of the function, one of four ways.
-/
import Derived.Test.YthoonegckifiaaaDoorBackBase
namespace Go.Proofs.YthoonegckifiaaaDoor.fieldBack
open Go.ChangeShapes Go.WideShapes Go.ChangeAt Go.RowKit
set_option linter.unusedSimpArgs false
set_option linter.unusedVariables false
set_option maxHeartbeats 4000000
set_option maxRecDepth 100000
theorem walk110 (l0 : List Nat) (v0 : Value) (x1 : Nat) (a2 a3 : Int) (s4 : ByteArray) (w : World) (hT : Tab w) (hl0 : l0.length ≤ 140737488351232) (hr0 : Rd w v0 l0) (h1 : x1 < 18446744073709551616) (h2 : I64 a2) (h3 : I64 a3) (hs4 : s4.size ≤ 140737488351232) (c1 : 8 ≤ wrap64 (1 + (wrap64 (a2.tmod 8 + 8)).tmod 8)) (c2 : 0 ≤ a3) (y : Int) (hy1 : (T.number s4.data.toList 4611686018427387904).1 = y) (hy2 : (T.number s4.data.toList 4611686018427387904).2 = 0) (hy3 : I64 y) (hy : bs (Lib.itoa y) = s4) :
    Calls Tryd.prog 7 #[v0, .int .u64 x1, .int .i64 a2, .int .i64 a3, .string s4] w fun e w' => e = .returned (.bool true) ∧ Below w.heap.size w w' := by
  have HT := Lib.hid hT
  obtain ⟨e1, e2, e3⟩ := size_fact a2 h2
  obtain ⟨m, hm⟩ : ∃ m : Nat, (m : Int) = 1 + Int.emod (a2.tmod 8 + 8) 8 := ⟨(1 + Int.emod (Int.tmod a2 8 + 8) 8).toNat, by omega⟩
  have HSZ := Lib.hid (e1.trans hm.symm)
  have hm1 : 1 ≤ m := by omega
  have hm8 : m ≤ 8 := by omega
  have HB : Hid (Bytes (l0 ++ lowB m x1)) := hr0.bytes.app (lowB_bytes _ _)
  obtain ⟨D, hD, HDE⟩ : ∃ D : Nat, 0 < D ∧ Hid (256 ^ m = D) := ⟨256 ^ m, (by first | exact Nat.pow_pos (by omega) | exact Nat.pos_of_ne_zero (by simp)), rfl⟩
  have HL1 : Hid (m = 8 → ((x1 % 256 ^ m : Nat) : Int) = (x1 : Int)) := fun h8 => by
    rw [h8, Nat.mod_eq_of_lt (Nat.lt_of_lt_of_eq h1 (by decide))]
  have HL2 : Hid (((x1 % 256 ^ m : Nat) : Int) = (x1 : Int) % (D : Int)) := by
    unfold Hid; rw [HDE.out]; rfl
  have HP : Hid (∀ W, Below w.heap.size w W → Calls Tryd.prog 14 #[v0, .int .i64 (m : Int), .int .u64 x1] W fun e w' => ∃ v', e = .returned v' ∧ Rd w' v' (l0 ++ lowB m x1) ∧ Below W.heap.size W w') := fun W hW =>
    (put_any l0 v0 m x1 m W h1 (by omega) (by constructor <;> omega) (by omega) (hr0.below hW)).mono fun e w' ⟨v', h1, h2, h3⟩ => ⟨v', h1, rd_own h2 HB.out, h3⟩
  have HG : Hid (∀ W v', Rd W v' (l0 ++ lowB m x1) → Calls Tryd.prog 10 #[v', .int .i64 (l0.length : Int), .int .i64 (m : Int)] W fun e w' => e = .returned (.tuple #[.int .u64 (x1 % 256 ^ m : Nat), .bool true]) ∧ W = w') := fun W v' hr => by
    have hlen : (l0 ++ lowB m x1).length = l0.length + m := by rw [List.length_append, lowB_len]
    have h := get_yes (l0 ++ lowB m x1) v' l0.length m W (by omega) hr hm8 (by omega)
    rw [List.drop_left, List.take_of_length_le (by rw [lowB_len]; exact Nat.le_refl _), beV_low] at h
    exact h
  obtain ⟨K, rfl⟩ := Int.eq_ofNat_of_zero_le c2
  have hK : K < 9223372036854775808 := by have := h3.2; omega
  have hi : Lib.itoa (K : Int) = Lib.decDigits K := by unfold Lib.itoa; rw [if_neg (by omega)]; simp
  obtain ⟨SK, hSK⟩ : ∃ SK : ByteArray, bs (Lib.itoa (K : Int)) = SK := ⟨_, rfl⟩
  have HN : Hid (∀ W, Calls Tryd.prog 16 #[.string SK, .int .i64 (K : Int)] W fun e w' => e = .returned (.tuple #[.int .i64 (K : Int), .int .i64 0]) ∧ W = w') := fun W => by
    have hl : (bs (Lib.itoa (K : Int))).size ≤ 140737488355328 := by
      rw [bs_size, hi]; exact Nat.le_trans (dec_short 19 K (by omega) (Nat.lt_trans hK (by decide))) (by decide)
    have h := number_any (bs (Lib.itoa (K : Int))) K W hl ⟨by omega, by omega⟩
    rw [bs_data, hi, T.number_dec, ← hi, hSK] at h
    exact h
  have HD : Hid (∀ W, Below w.heap.size w W → Calls Tryd.prog 18 #[.int .i64 (K : Int)] W fun e w' => e = .returned (.string SK) ∧ Below W.heap.size W w') := fun W hW => by
    rw [← hSK]; exact decimal_any K W ⟨by omega, by omega⟩ (tab_below hT hW)
  have HN2 : Hid (∀ W, Calls Tryd.prog 16 #[.string s4, .int .i64 4611686018427387904] W fun e w' => e = .returned (.tuple #[.int .i64 y, .int .i64 0]) ∧ W = w') := fun W => by
    have h := number_any s4 4611686018427387904 W (by omega) ⟨by omega, by omega⟩
    rw [hy1, hy2] at h; exact h
  obtain ⟨SY, hSY⟩ : ∃ SY : ByteArray, bs (Lib.itoa y) = SY := ⟨_, rfl⟩
  have HD2 : Hid (∀ W, Below w.heap.size w W → Calls Tryd.prog 18 #[.int .i64 y] W fun e w' => e = .returned (.string SY) ∧ Below W.heap.size W w') := fun W hW => by
    rw [← hSY]; exact decimal_any y W hy3 (tab_below hT hW)
  obtain ⟨ad, cap, rfl, _⟩ := hr0
  obtain rfl : SY = s4 := hSY.symm.trans hy
  clear hi hy1 hy2 hSK hSY hK hy
  clear hT e1 e2 e3 hm
  go_enter Tryd.func7, Tryd.ntmps7
  go_wp2_with (first
    | (rw [HSZ.out, shift_fact m hm1 (by have := c1; rw [HSZ.out] at this; omega), HDE.out]; simp only [Sem.run_pure, Result.andThen_ok])
    | (go_at_call 14; try rw [HSZ.out]; refine (HP.out _ (Below.refl _ _)).mono ?_; rintro e w1 ⟨v2, rfl, hr, hb⟩; have X1 := Lib.hid (And.intro hr hb); clear hr hb hD HDE)
    | (go_at_call 10; refine (HG.out _ _ X1.out.1).mono ?_; (first | rw [HL1.out (by have h := c1; rw [HSZ.out] at h; omega)] | rw [HL2.out]); rintro e w' ⟨rfl, rfl⟩)
    | (go_at_call 16; first | (have := M16; refine (HN2.out _).mono ?_; rintro e w' ⟨rfl, rfl⟩) | (refine (HN.out _).mono ?_; rintro e w' ⟨rfl, rfl⟩; have M16 := True.intro))
    | (go_at_call 18; first
      | (refine (HD2.out _ X2.out).mono ?_; rintro e w3 ⟨rfl, hb⟩; have X3 := Lib.hid (X2.out.trans (hb.mono X2.out.size)); clear hb)
      | (refine (HD.out _ X1.out.2).mono ?_; rintro e w2 ⟨rfl, hb⟩; have X2 := Lib.hid (X1.out.2.trans (hb.mono X1.out.2.size)); clear hb))
    | (go_at_call 12; first
      | (refine (awake_any _ (tab_below HT.out X3.out)).mono ?_; rintro e w4 ⟨rfl, hb⟩; have X4 := Lib.hid (X3.out.trans (hb.mono X3.out.size)); clear hb)
      | (refine (awake_any _ (tab_below HT.out X2.out)).mono ?_; rintro e w4 ⟨rfl, hb⟩; have X4 := Lib.hid (X2.out.trans (hb.mono X2.out.size)); clear hb)))
  go_ret
  exact ⟨rfl, X4.out⟩
theorem walk111 (l0 : List Nat) (v0 : Value) (x1 : Nat) (a2 a3 : Int) (s4 : ByteArray) (w : World) (hT : Tab w) (hl0 : l0.length ≤ 140737488351232) (hr0 : Rd w v0 l0) (h1 : x1 < 18446744073709551616) (h2 : I64 a2) (h3 : I64 a3) (hs4 : s4.size ≤ 140737488351232) (c1 : 8 ≤ wrap64 (1 + (wrap64 (a2.tmod 8 + 8)).tmod 8)) (c2 : 0 ≤ a3) (er : Int) (y : Int) (hy1 : (T.number s4.data.toList 4611686018427387904).1 = y) (hy2 : (T.number s4.data.toList 4611686018427387904).2 = er) (hy3 : I64 y) (hy : ¬ er = 0) :
    Calls Tryd.prog 7 #[v0, .int .u64 x1, .int .i64 a2, .int .i64 a3, .string s4] w fun e w' => e = .returned (.bool true) ∧ Below w.heap.size w w' := by
  have HT := Lib.hid hT
  obtain ⟨e1, e2, e3⟩ := size_fact a2 h2
  obtain ⟨m, hm⟩ : ∃ m : Nat, (m : Int) = 1 + Int.emod (a2.tmod 8 + 8) 8 := ⟨(1 + Int.emod (Int.tmod a2 8 + 8) 8).toNat, by omega⟩
  have HSZ := Lib.hid (e1.trans hm.symm)
  have hm1 : 1 ≤ m := by omega
  have hm8 : m ≤ 8 := by omega
  have HB : Hid (Bytes (l0 ++ lowB m x1)) := hr0.bytes.app (lowB_bytes _ _)
  obtain ⟨D, hD, HDE⟩ : ∃ D : Nat, 0 < D ∧ Hid (256 ^ m = D) := ⟨256 ^ m, (by first | exact Nat.pow_pos (by omega) | exact Nat.pos_of_ne_zero (by simp)), rfl⟩
  have HL1 : Hid (m = 8 → ((x1 % 256 ^ m : Nat) : Int) = (x1 : Int)) := fun h8 => by
    rw [h8, Nat.mod_eq_of_lt (Nat.lt_of_lt_of_eq h1 (by decide))]
  have HL2 : Hid (((x1 % 256 ^ m : Nat) : Int) = (x1 : Int) % (D : Int)) := by
    unfold Hid; rw [HDE.out]; rfl
  have HP : Hid (∀ W, Below w.heap.size w W → Calls Tryd.prog 14 #[v0, .int .i64 (m : Int), .int .u64 x1] W fun e w' => ∃ v', e = .returned v' ∧ Rd w' v' (l0 ++ lowB m x1) ∧ Below W.heap.size W w') := fun W hW =>
    (put_any l0 v0 m x1 m W h1 (by omega) (by constructor <;> omega) (by omega) (hr0.below hW)).mono fun e w' ⟨v', h1, h2, h3⟩ => ⟨v', h1, rd_own h2 HB.out, h3⟩
  have HG : Hid (∀ W v', Rd W v' (l0 ++ lowB m x1) → Calls Tryd.prog 10 #[v', .int .i64 (l0.length : Int), .int .i64 (m : Int)] W fun e w' => e = .returned (.tuple #[.int .u64 (x1 % 256 ^ m : Nat), .bool true]) ∧ W = w') := fun W v' hr => by
    have hlen : (l0 ++ lowB m x1).length = l0.length + m := by rw [List.length_append, lowB_len]
    have h := get_yes (l0 ++ lowB m x1) v' l0.length m W (by omega) hr hm8 (by omega)
    rw [List.drop_left, List.take_of_length_le (by rw [lowB_len]; exact Nat.le_refl _), beV_low] at h
    exact h
  obtain ⟨K, rfl⟩ := Int.eq_ofNat_of_zero_le c2
  have hK : K < 9223372036854775808 := by have := h3.2; omega
  have hi : Lib.itoa (K : Int) = Lib.decDigits K := by unfold Lib.itoa; rw [if_neg (by omega)]; simp
  obtain ⟨SK, hSK⟩ : ∃ SK : ByteArray, bs (Lib.itoa (K : Int)) = SK := ⟨_, rfl⟩
  have HN : Hid (∀ W, Calls Tryd.prog 16 #[.string SK, .int .i64 (K : Int)] W fun e w' => e = .returned (.tuple #[.int .i64 (K : Int), .int .i64 0]) ∧ W = w') := fun W => by
    have hl : (bs (Lib.itoa (K : Int))).size ≤ 140737488355328 := by
      rw [bs_size, hi]; exact Nat.le_trans (dec_short 19 K (by omega) (Nat.lt_trans hK (by decide))) (by decide)
    have h := number_any (bs (Lib.itoa (K : Int))) K W hl ⟨by omega, by omega⟩
    rw [bs_data, hi, T.number_dec, ← hi, hSK] at h
    exact h
  have HD : Hid (∀ W, Below w.heap.size w W → Calls Tryd.prog 18 #[.int .i64 (K : Int)] W fun e w' => e = .returned (.string SK) ∧ Below W.heap.size W w') := fun W hW => by
    rw [← hSK]; exact decimal_any K W ⟨by omega, by omega⟩ (tab_below hT hW)
  have HN2 : Hid (∀ W, Calls Tryd.prog 16 #[.string s4, .int .i64 4611686018427387904] W fun e w' => e = .returned (.tuple #[.int .i64 y, .int .i64 er]) ∧ W = w') := fun W => by
    have h := number_any s4 4611686018427387904 W (by omega) ⟨by omega, by omega⟩
    rw [hy1, hy2] at h; exact h
  obtain ⟨SY, hSY⟩ : ∃ SY : ByteArray, bs (Lib.itoa y) = SY := ⟨_, rfl⟩
  have HD2 : Hid (∀ W, Below w.heap.size w W → Calls Tryd.prog 18 #[.int .i64 y] W fun e w' => e = .returned (.string SY) ∧ Below W.heap.size W w') := fun W hW => by
    rw [← hSY]; exact decimal_any y W hy3 (tab_below hT hW)
  obtain ⟨ad, cap, rfl, _⟩ := hr0
  clear hi hy1 hy2 hSK hSY hK
  clear hT e1 e2 e3 hm
  go_enter Tryd.func7, Tryd.ntmps7
  go_wp2_with (first
    | (rw [HSZ.out, shift_fact m hm1 (by have := c1; rw [HSZ.out] at this; omega), HDE.out]; simp only [Sem.run_pure, Result.andThen_ok])
    | (go_at_call 14; try rw [HSZ.out]; refine (HP.out _ (Below.refl _ _)).mono ?_; rintro e w1 ⟨v2, rfl, hr, hb⟩; have X1 := Lib.hid (And.intro hr hb); clear hr hb hD HDE)
    | (go_at_call 10; refine (HG.out _ _ X1.out.1).mono ?_; (first | rw [HL1.out (by have h := c1; rw [HSZ.out] at h; omega)] | rw [HL2.out]); rintro e w' ⟨rfl, rfl⟩)
    | (go_at_call 16; first | (have := M16; refine (HN2.out _).mono ?_; rintro e w' ⟨rfl, rfl⟩) | (refine (HN.out _).mono ?_; rintro e w' ⟨rfl, rfl⟩; have M16 := True.intro))
    | (go_at_call 18; first
      | (refine (HD2.out _ X2.out).mono ?_; rintro e w3 ⟨rfl, hb⟩; have X3 := Lib.hid (X2.out.trans (hb.mono X2.out.size)); clear hb)
      | (refine (HD.out _ X1.out.2).mono ?_; rintro e w2 ⟨rfl, hb⟩; have X2 := Lib.hid (X1.out.2.trans (hb.mono X1.out.2.size)); clear hb))
    | (go_at_call 12; first
      | (refine (awake_any _ (tab_below HT.out X3.out)).mono ?_; rintro e w4 ⟨rfl, hb⟩; have X4 := Lib.hid (X3.out.trans (hb.mono X3.out.size)); clear hb)
      | (refine (awake_any _ (tab_below HT.out X2.out)).mono ?_; rintro e w4 ⟨rfl, hb⟩; have X4 := Lib.hid (X2.out.trans (hb.mono X2.out.size)); clear hb)))
  go_ret
  exact ⟨rfl, X4.out⟩
end Go.Proofs.YthoonegckifiaaaDoor.fieldBack
