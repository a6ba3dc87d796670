/-
  The walk of Parse.
-/
import Derived.Test.YtaniiennfogjaaaDoorCmT
namespace Go.Proofs.YtaniiennfogjaaaDoor
open Go.RowKit
set_option linter.unusedSimpArgs false
set_option linter.unusedVariables false
set_option maxHeartbeats 2000000
set_option maxRecDepth 100000

theorem number_bs (l : List UInt8) (hl : l.length ≤ 140737488355328) (w : World) :
    Calls Tryd.prog 34 #[.string (bs l), .int .i64 65535] w fun e w' => e = .returned (.tuple #[.int .i64 (T.number l 65535).1, .int .i64 (T.number l 65535).2]) ∧ w = w' := by
  have := number_any (bs l) 65535 w (by rw [bs_size]; exact hl) (by constructor <;> omega)
  rwa [bs_data] at this
theorem parse_any (l : List UInt8) (w : World) (hl : l.length ≤ 140737488355328) (hT : Lt w) :
    Calls Tryd.prog 13 #[.string (bs l)] w fun e w' => ∃ (c : Nat) (er : Int), e = .returned (.tuple #[.int .u32 (c : Int), .int .i64 er]) ∧ T.PrC l c er ∧ Below w.heap.size w w' := by
  have HTT := Lib.hid hT
  have c0 := hT.k0
  have c1 := hT.k1
  have c2 := hT.k2
  have c3 := hT.k3
  have d0 := hT.n0
  have d1 := hT.n1
  have d2 := hT.n2
  have d3 := hT.n3
  have i0 := idx_s0
  have i1 := idx_s1
  have i2 := idx_s2
  have i3 := idx_s3
  clear hT
  have sl : (bs l).toList = l := by rw [ByteArray.toList_eq, bs_data]
  have sA : (bs T.nmA).toList = T.nmA := by rw [ByteArray.toList_eq, bs_data]
  have sB : (bs T.nmB).toList = T.nmB := by rw [ByteArray.toList_eq, bs_data]
  have sC : (bs T.nmC).toList = T.nmC := by rw [ByteArray.toList_eq, bs_data]
  have sD : (bs T.nmD).toList = T.nmD := by rw [ByteArray.toList_eq, bs_data]
  generalize hS : bs l = S at *
  by_cases h1 : l = T.nmA
  · have HP : Hid (T.PrC l 4294901760 0) := T.parse_yes (by omega) (by rw [tx_A, h1])
    go_enter Tryd.func13, Tryd.ntmps13
    go_wp2_with fail
    refine wp_loop_rounds 1 ?_
    rw [rounds_succ]
    go_wp2_with fail
    go_ret2
    exact ⟨4294901760, 0, rfl, HP.out, Below.refl _ _⟩
  by_cases h2 : l = T.nmB
  · have HP : Hid (T.PrC l 4294967041 0) := T.parse_yes (by omega) (by rw [tx_B, h2])
    have g1 : (l == T.nmA) = false := by simpa using h1
    go_enter Tryd.func13, Tryd.ntmps13
    go_wp2_with fail
    refine wp_loop_rounds 2 ?_
    rw [rounds_succ]
    go_wp2_with fail
    rw [rounds_succ]
    go_wp2_with fail
    go_ret2
    exact ⟨4294967041, 0, rfl, HP.out, Below.refl _ _⟩
  by_cases h3 : l = T.nmC
  · have HP : Hid (T.PrC l 4294967042 0) := T.parse_yes (by omega) (by rw [tx_C, h3])
    have g1 : (l == T.nmA) = false := by simpa using h1
    have g2 : (l == T.nmB) = false := by simpa using h2
    go_enter Tryd.func13, Tryd.ntmps13
    go_wp2_with fail
    refine wp_loop_rounds 3 ?_
    rw [rounds_succ]
    go_wp2_with fail
    rw [rounds_succ]
    go_wp2_with fail
    rw [rounds_succ]
    go_wp2_with fail
    go_ret2
    exact ⟨4294967042, 0, rfl, HP.out, Below.refl _ _⟩
  by_cases h4 : l = T.nmD
  · have HP : Hid (T.PrC l 4294967043 0) := T.parse_yes (by omega) (by rw [tx_D, h4])
    have g1 : (l == T.nmA) = false := by simpa using h1
    have g2 : (l == T.nmB) = false := by simpa using h2
    have g3 : (l == T.nmC) = false := by simpa using h3
    go_enter Tryd.func13, Tryd.ntmps13
    go_wp2_with fail
    refine wp_loop_rounds 4 ?_
    rw [rounds_succ]
    go_wp2_with fail
    rw [rounds_succ]
    go_wp2_with fail
    rw [rounds_succ]
    go_wp2_with fail
    rw [rounds_succ]
    go_wp2_with fail
    go_ret2
    exact ⟨4294967043, 0, rfl, HP.out, Below.refl _ _⟩
  have g1 : (l == T.nmA) = false := by simpa using h1
  have g2 : (l == T.nmB) = false := by simpa using h2
  have g3 : (l == T.nmC) = false := by simpa using h3
  have g4 : (l == T.nmD) = false := by simpa using h4
  have HW := word_len 58 l
  have HCUT : Hid (∀ W, Calls Tryd.prog 33 #[.string S, .string ⟨#[58]⟩] W fun e w' => e = .returned (.tuple #[.string (bs (T.wordC 58 l)), .string (bs (T.restC 58 l)), .bool (decide ((58 : UInt8) ∈ l))]) ∧ ∃ n, W.drewN n = w') := fun W => by rw [← hS]; exact cut_any 58 l hl W
  have HN1 : Hid (∀ W, Calls Tryd.prog 34 #[.string (bs (T.wordC 58 l)), .int .i64 65535] W fun e w' => e = .returned (.tuple #[.int .i64 (T.number (T.wordC 58 l) 65535).1, .int .i64 (T.number (T.wordC 58 l) 65535).2]) ∧ W = w') := fun W => number_bs _ (by omega) W
  have HN2 : Hid (∀ W, Calls Tryd.prog 34 #[.string (bs (T.restC 58 l)), .int .i64 65535] W fun e w' => e = .returned (.tuple #[.int .i64 (T.number (T.restC 58 l) 65535).1, .int .i64 (T.number (T.restC 58 l) 65535).2]) ∧ W = w') := fun W => number_bs _ (by omega) W
  have HNO : Hid ((T.number (T.wordC 58 l) 65535).2 ≠ 0 ∨ (T.number (T.restC 58 l) 65535).2 ≠ 0 → T.PrC l 0 2) := fun h => T.parse_no h1 h2 h3 h4 h
  have HOT : Hid (∀ a b : Nat, T.number (T.wordC 58 l) 65535 = ((a : Int), 0) → T.number (T.restC 58 l) 65535 = ((b : Int), 0) → T.txC (a * 65536 + b) ≠ l → T.PrC l 0 2) := fun a b e1 e2 ht => T.parse_other h1 h2 h3 h4 e1 e2 ht
  have HR1 := Lib.hid (T.number_range (l := T.wordC 58 l))
  have HR2 := Lib.hid (T.number_range (l := T.restC 58 l))
  have HB0 := Lib.hid (Below.refl w.heap.size w)
  clear h1 h2 h3 h4 HW hS hl
  generalize hA : T.number (T.wordC 58 l) 65535 = A at *
  generalize hB : T.number (T.restC 58 l) 65535 = B at *
  clear hA hB
  generalize T.wordC 58 l = wl at *
  generalize T.restC 58 l = rl at *
  generalize decide ((58 : UInt8) ∈ l) = hasC at *
  generalize bs wl = wS at *
  generalize bs rl = rS at *
  obtain ⟨a0, e1⟩ := A
  obtain ⟨b0, e2⟩ := B
  dsimp only at *
  by_cases he1 : e1 = 0
  · subst he1
    by_cases he2 : e2 = 0
    · subst he2
      obtain ⟨a, ha, ha6⟩ := HR1.out rfl
      obtain ⟨b, hb, hb6⟩ := HR2.out rfl
      subst ha hb
      have HO := Lib.hid (HOT.out a b rfl rfl)
      have u1 : IntKind.u32.wrap (a : Int) = (a : Int) := IntWalk.u32_in _ (by constructor <;> omega)
      have u2 : IntKind.u32.wrap (b : Int) = (b : Int) := IntWalk.u32_in _ (by constructor <;> omega)
      have u3 : IntKind.u32.wrap ((a : Int) * 65536) = (a : Int) * 65536 := IntWalk.u32_in _ (by constructor <;> omega)
      have u4 : bits .or .u32 ((a : Int) * 65536) (b : Int) = ((a * 65536 + b : Nat) : Int) := by
        have := u32_or_nat (a * 65536) b (by omega) (by omega)
        rw [show ((a * 65536 : Nat) : Int) = (a : Int) * 65536 by omega] at this
        rw [this]
        congr 1
        rw [show a * 65536 = a * 2 ^ 16 by omega, Nat.mul_comm, ← Nat.two_pow_add_eq_or_of_lt (by omega)]
      obtain ⟨c, hc⟩ : ∃ c, a * 65536 + b = c := ⟨_, rfl⟩
      rw [hc] at u4 HO
      have hc32 : c < 4294967296 := by omega
      have HTX : Hid (∀ W, Below w.heap.size w W → Calls Tryd.prog 12 #[.int .u32 (c : Int)] W fun e w' => e = .returned (.string (bs (T.txC c))) ∧ Below W.heap.size W w') := fun W hW => text_any c W hc32 (HTT.out.below hW)
      have HY : Hid (T.txC c = l → T.PrC l c 0) := fun h => T.parse_yes hc32 h
      have st : (bs (T.txC c)).toList = T.txC c := by rw [ByteArray.toList_eq, bs_data]
      clear hc HR1 HR2 HOT
      generalize bs (T.txC c) = TS at *
      generalize T.txC c = tl at *
      by_cases ht : tl = l
      · subst ht
        have HF := Lib.hid (HY.out rfl)
        have t1 : (tl != tl) = false := by simp
        clear HO HY
        go_enter Tryd.func13, Tryd.ntmps13
        go_wp2_with fail
        refine wp_loop_rounds 5 ?_
        rw [rounds_succ]
        go_wp2_with fail
        rw [rounds_succ]
        go_wp2_with fail
        rw [rounds_succ]
        go_wp2_with fail
        rw [rounds_succ]
        go_wp2_with fail
        rw [rounds_succ]
        go_wp2_with fail
        go_at_call 33
        refine (HCUT.out _).mono ?_
        rintro e w1 ⟨rfl, n, rfl⟩
        have HBN := Lib.hid (below_drewN HB0.out n)
        clear HCUT
        go_wp2_with fail
        go_at_call 34
        refine (HN1.out _).mono ?_
        rintro e w1 ⟨rfl, rfl⟩
        clear HN1
        go_wp2_with fail
        go_at_call 34
        refine (HN2.out _).mono ?_
        rintro e w1 ⟨rfl, rfl⟩
        clear HN2
        go_wp2_with fail
        go_at_call 12
        refine (HTX.out _ HBN.out).mono ?_
        rintro e w1 ⟨rfl, hb⟩
        have HF1 := Lib.hid (HBN.out.trans (hb.mono (Nat.le_refl _)))
        clear hb
        go_wp2_with fail
        go_ret2
        exact ⟨c, 0, rfl, HF.out, HF1.out⟩
      · have HF := Lib.hid (HO.out ht)
        have t1 : (tl != l) = true := by simpa using ht
        have t2 : (tl == l) = false := by simpa using ht
        clear HO HY ht
        go_enter Tryd.func13, Tryd.ntmps13
        go_wp2_with fail
        refine wp_loop_rounds 5 ?_
        rw [rounds_succ]
        go_wp2_with fail
        rw [rounds_succ]
        go_wp2_with fail
        rw [rounds_succ]
        go_wp2_with fail
        rw [rounds_succ]
        go_wp2_with fail
        rw [rounds_succ]
        go_wp2_with fail
        go_at_call 33
        refine (HCUT.out _).mono ?_
        rintro e w1 ⟨rfl, n, rfl⟩
        have HBN := Lib.hid (below_drewN HB0.out n)
        clear HCUT
        go_wp2_with fail
        go_at_call 34
        refine (HN1.out _).mono ?_
        rintro e w1 ⟨rfl, rfl⟩
        clear HN1
        go_wp2_with fail
        go_at_call 34
        refine (HN2.out _).mono ?_
        rintro e w1 ⟨rfl, rfl⟩
        clear HN2
        go_wp2_with fail
        go_at_call 12
        refine (HTX.out _ HBN.out).mono ?_
        rintro e w1 ⟨rfl, hb⟩
        have HF1 := Lib.hid (HBN.out.trans (hb.mono (Nat.le_refl _)))
        clear hb
        go_wp2_with fail
        go_ret2
        exact ⟨0, 2, rfl, HF.out, HF1.out⟩
    · have HF := Lib.hid (HNO.out (.inr he2))
      have t1 : (e2 != 0) = true := by simpa using he2
      clear HNO HOT HR1 HR2 he2
      go_enter Tryd.func13, Tryd.ntmps13
      go_wp2_with fail
      refine wp_loop_rounds 5 ?_
      rw [rounds_succ]
      go_wp2_with fail
      rw [rounds_succ]
      go_wp2_with fail
      rw [rounds_succ]
      go_wp2_with fail
      rw [rounds_succ]
      go_wp2_with fail
      rw [rounds_succ]
      go_wp2_with fail
      go_at_call 33
      refine (HCUT.out _).mono ?_
      rintro e w1 ⟨rfl, n, rfl⟩
      have HBN := Lib.hid (below_drewN HB0.out n)
      clear HCUT
      go_wp2_with fail
      go_at_call 34
      refine (HN1.out _).mono ?_
      rintro e w1 ⟨rfl, rfl⟩
      clear HN1
      go_wp2_with fail
      go_at_call 34
      refine (HN2.out _).mono ?_
      rintro e w1 ⟨rfl, rfl⟩
      clear HN2
      go_wp2_with fail
      go_ret2
      exact ⟨0, 2, rfl, HF.out, HBN.out⟩
  · have HF := Lib.hid (HNO.out (.inl he1))
    have t1 : (e1 != 0) = true := by simpa using he1
    clear HNO HOT HR1 HR2 he1
    go_enter Tryd.func13, Tryd.ntmps13
    go_wp2_with fail
    refine wp_loop_rounds 5 ?_
    rw [rounds_succ]
    go_wp2_with fail
    rw [rounds_succ]
    go_wp2_with fail
    rw [rounds_succ]
    go_wp2_with fail
    rw [rounds_succ]
    go_wp2_with fail
    rw [rounds_succ]
    go_wp2_with fail
    go_at_call 33
    refine (HCUT.out _).mono ?_
    rintro e w1 ⟨rfl, n, rfl⟩
    have HBN := Lib.hid (below_drewN HB0.out n)
    clear HCUT
    go_wp2_with fail
    go_at_call 34
    refine (HN1.out _).mono ?_
    rintro e w1 ⟨rfl, rfl⟩
    clear HN1
    go_wp2_with fail
    go_at_call 34
    refine (HN2.out _).mono ?_
    rintro e w1 ⟨rfl, rfl⟩
    clear HN2
    go_wp2_with fail
    go_ret2
    exact ⟨0, 2, rfl, HF.out, HBN.out⟩
end Go.Proofs.YtaniiennfogjaaaDoor
