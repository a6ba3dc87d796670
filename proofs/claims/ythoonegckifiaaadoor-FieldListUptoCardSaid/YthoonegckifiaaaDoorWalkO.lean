/-
  The walk of awake, the examples.
-/
import Derived.Test.YthoonegckifiaaaDoorWalkN
import Derived.Test.YthoonegckifiaaaDoorWalkK
import Derived.Test.YthoonegckifiaaaDoorWalkL
namespace Go.Proofs.YthoonegckifiaaaDoor
open Go.RowKit
set_option linter.unusedSimpArgs false
set_option linter.unusedVariables false
set_option maxHeartbeats 4000000
set_option maxRecDepth 100000

theorem lit_rd (l : List Nat) (hb : Bytes l) (W : World) (g : Nat) (hg : W.heap.size = g) (cs : Array Value) (h : (u8s l).toArray = cs) : Rd (W.alloc (.cells cs 5)) (.slice (some ⟨g, 0, none⟩) l.length l.length) l := by
  subst h hg
  exact (Blk.new W 5 (u8s l).toArray).rd hb
theorem can_no (l : List UInt8) (h : l = 48 :: l.tail) (h2 : l.tail ≠ []) : T.canS l = false := by
  rw [Bool.eq_false_iff]
  intro hc
  rcases ((T.canS_iff l).1 hc).2 with h1 | ⟨_, h1⟩
  · rw [h1] at h2; exact h2 rfl
  · rw [h] at h1; simp at h1
theorem ex_g : beV (([1, 1, 2] : List Nat).drop 1 |>.take 2) = 258 := by decide
theorem ex_t : tlvs [5, 0, 1] = none := by decide
theorem ex_n1 : T.number [48, 49, 50] 99 = (0, 2) := number_no (can_no _ rfl (by decide))
theorem ex_n2 : T.number [57, 57] 99 = (99, 0) := by
  have h := T.number_dec 99
  have e : Lib.decDigits 99 = [57, 57] := by rw [T.dec_step 99 (by decide), T.dec_one _ (by decide)]; rfl
  rw [e] at h; exact h
theorem ex_w : T.words [97, 32, 98] = some [[97], [98]] := by decide
theorem ex_p : ([1] : List Nat) ++ lowB 2 258 = [1, 1, 2] := by decide
theorem ex_d : bs (Lib.itoa (-7)) = ⟨#[45, 55]⟩ := by
  have : Lib.itoa (-7) = [45, 55] := by
    unfold Lib.itoa
    rw [if_pos (by decide), show (-7 : Int).natAbs = 7 from rfl, T.dec_one 7 (by decide)]; rfl
  rw [this]; rfl
theorem awake_any (w : World) (hT : Tab w) : Calls Tryd.prog 12 #[] w fun e w' => e = .returned (.bool true) ∧ Below w.heap.size w w' := by
  have HG : Hid (∀ W : World, Calls Tryd.prog 10 #[.slice (some ⟨W.heap.size, 0, none⟩) 3 3, .int .i64 1, .int .i64 2] (W.alloc (.cells #[.int .u8 1, .int .u8 1, .int .u8 2] 5)) fun e w' => e = .returned (.tuple #[.int .u64 258, .bool true]) ∧ W.alloc (.cells #[.int .u8 1, .int .u8 1, .int .u8 2] 5) = w') := fun W =>
    by have h := get_yes [1, 1, 2] _ 1 2 _ (by decide) (lit_rd [1, 1, 2] (by unfold Bytes; decide) W _ rfl _ rfl) (by decide) (by decide); rw [ex_g] at h; exact h
  have HTL : Hid (∀ (W : World) (g : Nat), W.heap.size = g → Calls Tryd.prog 22 #[.slice (some ⟨g, 0, none⟩) 3 3] (W.alloc (.cells #[.int .u8 5, .int .u8 0, .int .u8 1] 5)) fun e w' => e = .returned (.tuple #[.slice none 0 0, .int .i64 3]) ∧ Below W.heap.size W w') := fun W g hg =>
    (tlvs_any [5, 0, 1] _ _ (by decide) (lit_rd [5, 0, 1] (by unfold Bytes; decide) W g hg _ rfl)).mono fun e w' h => by
      rcases h with ⟨h | ⟨ts, v, h, _⟩, hb⟩
      · exact ⟨h.2, ((Below.refl _ W).alloc (Nat.le_refl _) _).trans (hb.mono (by simp))⟩
      · rw [ex_t] at h; cases h
  have HN1 : Hid (∀ W : World, Calls Tryd.prog 16 #[.string ⟨#[48, 49, 50]⟩, .int .i64 99] W fun e w' => e = .returned (.tuple #[.int .i64 0, .int .i64 2]) ∧ W = w') := fun W => by
    have h := number_any ⟨#[48, 49, 50]⟩ 99 W (by decide) (by decide)
    have e : T.number ((⟨#[48, 49, 50]⟩ : ByteArray).data.toList) 99 = (0, 2) := ex_n1
    rw [e] at h; exact h
  have HN2 : Hid (∀ W : World, Calls Tryd.prog 16 #[.string ⟨#[57, 57]⟩, .int .i64 99] W fun e w' => e = .returned (.tuple #[.int .i64 99, .int .i64 0]) ∧ W = w') := fun W => by
    have h := number_any ⟨#[57, 57]⟩ 99 W (by decide) (by decide)
    have e : T.number ((⟨#[57, 57]⟩ : ByteArray).data.toList) 99 = (99, 0) := ex_n2
    rw [e] at h; exact h
  have HW : Hid (∀ W : World, Calls Tryd.prog 25 #[.string ⟨#[97, 32, 98]⟩] W fun e w' => ∃ ad cap, e = .returned (.tuple #[.slice ad 2 cap, .int .i64 0]) ∧ Below W.heap.size W w') := fun W =>
    (words_any ⟨#[97, 32, 98]⟩ W (by decide)).mono fun e w' h => by
      have e1 : T.words ((⟨#[97, 32, 98]⟩ : ByteArray).data.toList) = some [[97], [98]] := ex_w
      rcases h with ⟨⟨h, _⟩ | ⟨ps, v, h, he, hr⟩, hb⟩
      · rw [e1] at h; cases h
      · rw [e1] at h
        obtain rfl := Option.some.inj h
        obtain ⟨ad, cap, rfl, _⟩ := hr
        exact ⟨ad, cap, he, hb⟩
  have HP : Hid (∀ W : World, Calls Tryd.prog 14 #[.slice (some ⟨W.heap.size, 0, none⟩) 1 1, .int .i64 2, .int .u64 258] (W.alloc (.cells #[.int .u8 1] 5)) fun e w' => ∃ v', e = .returned v' ∧ Rd w' v' [1, 1, 2] ∧ Below W.heap.size W w') := fun W =>
    (put_any [1] _ 2 258 2 _ (by decide) (by decide) (by decide) (by decide) (lit_rd [1] (by unfold Bytes; decide) W _ rfl _ rfl)).mono fun e w' ⟨v', h1, h2, h3⟩ => by
      rw [ex_p] at h2
      exact ⟨v', h1, rd_own h2 (by unfold Bytes; decide), ((Below.refl _ W).alloc (Nat.le_refl _) _).trans (h3.mono (by simp))⟩
  have HS : Hid (∀ (W : World) (v : Value), Rd W v [1, 1, 2] → Calls Tryd.prog 13 #[v, .slice (some ⟨W.heap.size, 0, none⟩) 3 3] (W.alloc (.cells #[.int .u8 1, .int .u8 1, .int .u8 2] 5)) fun e w' => e = .returned (.bool true) ∧ W.alloc (.cells #[.int .u8 1, .int .u8 1, .int .u8 2] 5) = w') := fun W v hv =>
    same_yes [1, 1, 2] _ _ _ (by decide) (hv.below ((Below.refl _ W).alloc (Nat.le_refl _) _)) (lit_rd [1, 1, 2] (by unfold Bytes; decide) W _ rfl _ rfl)
  have HD : Hid (∀ W : World, Below w.heap.size w W → Calls Tryd.prog 18 #[.int .i64 (-7)] W fun e w' => e = .returned (.string ⟨#[45, 55]⟩) ∧ Below W.heap.size W w') := fun W hW => ex_d ▸ decimal_any (-7) W (by decide) (tab_below hT hW)
  clear hT
  go_enter Tryd.func12, Tryd.ntmps12
  go_wp2_with (first
    | (go_at_call 10; ((with_reducible refine (HG.out _).mono ?_); rintro e w' ⟨rfl, rfl⟩))
    | (go_at_call 22; ((with_reducible refine (HTL.out _ _ (by simp)).mono ?_); rintro e w1 ⟨rfl, hb1⟩; have X1 := Lib.hid (((Below.refl _ w).alloc (Nat.le_refl _) (.cells #[.int .u8 1, .int .u8 1, .int .u8 2] 5)).trans (hb1.mono (by simp))); clear hb1))
    | (go_at_call 16; ((with_reducible refine (HN1.out _).mono ?_); rintro e w' ⟨rfl, rfl⟩))
    | (go_at_call 16; ((with_reducible refine (HN2.out _).mono ?_); rintro e w' ⟨rfl, rfl⟩))
    | (go_at_call 25; ((with_reducible refine (HW.out _).mono ?_); rintro e w2 ⟨ad, cap, rfl, hb2⟩; have X2 := Lib.hid (X1.out.trans (hb2.mono X1.out.size)); clear hb2))
    | (go_at_call 14; ((with_reducible refine (HP.out _).mono ?_); rintro e w3 ⟨v3, rfl, hrd, hb3⟩; have X3 := Lib.hid (And.intro hrd (X2.out.trans (hb3.mono X2.out.size))); clear hrd hb3))
    | (go_at_call 13; ((with_reducible refine (HS.out _ _ X3.out.1).mono ?_); rintro e w' ⟨rfl, rfl⟩))
    | (go_at_call 18; ((with_reducible refine (HD.out _ (X3.out.2.alloc X3.out.2.size _)).mono ?_); rintro e w5 ⟨rfl, hb5⟩; have X5 := Lib.hid ((X3.out.2.alloc X3.out.2.size (.cells #[.int .u8 1, .int .u8 1, .int .u8 2] 5)).trans (hb5.mono (by have := X3.out.2.size; simp; omega))); clear hb5)))
  go_ret
  exact ⟨rfl, X5.out⟩
end Go.Proofs.YthoonegckifiaaaDoor
