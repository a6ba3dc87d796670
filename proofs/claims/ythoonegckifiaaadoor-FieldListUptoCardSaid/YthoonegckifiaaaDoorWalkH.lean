/-
  The walks of Decimal and the reference's Decimal.
-/
import Derived.Test.YthoonegckifiaaaDoorWalkG
import Derived.Test.YthoonegckifiaaaDoorShelf
import Derived.Lib.QuietBelow
import Derived.Lib.AppendIntMem
import Derived.Lib.LaidTab
import Derived.Laws.IdiomStrings
namespace Go.Proofs.YthoonegckifiaaaDoor
open Go.RowKit
set_option linter.unusedSimpArgs false
set_option linter.unusedVariables false
set_option maxHeartbeats 4000000
set_option maxRecDepth 100000

/-- the library's table of the powers of ten holds them -/
def Tab (w : World) : Prop := Lib.TabIs Tryd.prog w "internal/strconv.uint64pow10" .u64 Lib.pow10Tab
theorem gTab : Tryd.prog.globalNamed "internal/strconv.uint64pow10" = some 1 := by kernel_rfl
theorem tab_size {w : World} (h : Tab w) : 1 < w.heap.size := by
  have := Lib.TabIs.cell (P := Tryd.prog) h gTab 0 (by decide)
  exact World.block_lt_of_cell? _ _ this
theorem tab_below {w w' : World} (h : Tab w) (hb : Below w.heap.size w w') : Tab w' := by
  unfold Tab Lib.TabIs at h ⊢
  exact var?_below hb gTab (tab_size h) h
def bs (l : List UInt8) : ByteArray := ⟨l.toArray⟩
theorem bs_data (l : List UInt8) : (bs l).data.toList = l := by simp [bs]
theorem bs_size (l : List UInt8) : (bs l).size = l.length := by simp [bs, ByteArray.size]
theorem bs_app (l m : List UInt8) : bs l ++ bs m = bs (l ++ m) := by
  apply ByteArray.ext; simp [bs]
theorem decimal_any (n : Int) (w : World) (hn : I64 n) (hT : Tab w) :
    Calls Tryd.prog 18 #[.int .i64 n] w fun e w' => e = .returned (.string (bs (Lib.itoa n))) ∧ Below w.heap.size w w' := by
  have hi : Calls Tryd.prog 33 #[.int .i64 n] w fun e w' => e = .returned (.string (bs (Lib.itoa n))) ∧ Below w.heap.size w w' := (Tryd.strconv_Itoa n hn.1 hn.2 w hT).mono fun e w' ⟨h1, k, os, h2⟩ => ⟨h1, by rw [h2]; exact Lib.below_grow _ _ (Nat.le_refl _) k os⟩
  clear hT
  go_enter Tryd.func18, Tryd.ntmps18
  go_wp2_with (go_at_call 33; refine hi.mono ?_; rintro e w1 ⟨rfl, hb⟩)
  go_ret
  exact ⟨rfl, hb⟩
def dg (n : Nat) : List UInt8 := [UInt8.ofNat (48 + n % 10)]
theorem conv_digit (n : Nat) (W : World) : (convert 22 9 (.slice (some ⟨W.heap.size, 0, none⟩) 1 1)).run Tryd.prog (W.alloc (.cells #[.int .u8 (48 + (n : Int) % 10)] 5)) = .ok (.string (bs (dg n))) (W.alloc (.cells #[.int .u8 (48 + (n : Int) % 10)] 5)) := by
  have hd := T.dec_digit (d := n % 10) (Nat.mod_lt _ (by omega))
  exact run_convert_bytes_back (P := Tryd.prog) _ 22 9 5 ⟨W.heap.size, 0, none⟩ 1 [UInt8.ofNat (48 + n % 10)] Tryd.underlying22 Tryd.underlying5 Tryd.underlying9 (fun j hj => by
    have hj0 : j = 0 := by simpa using hj
    subst hj0
    have e : ((48 + n % 10 : Nat) : Int) = 48 + (n : Int) % 10 := by omega
    simp only [List.getElem_cons_zero, hd]
    simp [Addr.add])
theorem dec_mod (n : Nat) (h : n < 10) : Lib.decDigits n = dg n := by rw [T.dec_one n h, dg, Nat.mod_eq_of_lt h]
theorem dec_size (n : Nat) : (Lib.decDigits n).length ≤ n + 1 := by
  induction n using Nat.strongRecOn with
  | _ n ih =>
    by_cases h : n < 10
    · rw [T.dec_one n h]; simp
    · rw [T.dec_step n h]
      have := ih (n / 10) (by omega)
      simp; omega
theorem dec_size20 (k : Nat) : ∀ n, n < 10 ^ (k + 1) → (Lib.decDigits n).length ≤ k + 1 := by
  induction k with
  | zero => intro n h; rw [T.dec_one n (by simpa using h)]; simp
  | succ k ih =>
    intro n h
    by_cases h10 : n < 10
    · rw [T.dec_one n h10]; simp
    · rw [T.dec_step n h10]
      have := ih (n / 10) (by rw [Nat.pow_succ] at h; omega)
      simp; omega
theorem digits_any : ∀ (n : Nat) (w : World), n < 18446744073709551616 →
    Calls Tryd.prog 34 #[.int .u64 n] w fun e w' => e = .returned (.string (bs (Lib.decDigits n))) ∧ Below w.heap.size w w' := by
  intro n
  induction n using Nat.strongRecOn with
  | _ n ih =>
    intro w hn
    have hconv := fun W => conv_digit n W
    by_cases h : n < 10
    · have HD := Lib.hid (dec_mod n h)
      clear ih
      go_enter Tryd.func34, Tryd.ntmps34
      go_wp2
      go_ret
      exact ⟨by rw [HD.out]; rfl, (Below.refl _ _).alloc (Nat.le_refl _) _⟩
    · have HD : Hid (Lib.decDigits n = Lib.decDigits (n / 10) ++ dg n) := T.dec_step n h
      have HI := Lib.hid (fun W => ih (n / 10) (by omega) W (by omega))
      have hsz : (Lib.decDigits (n / 10)).length ≤ 20 := dec_size20 19 (n / 10) (by omega)
      have h1 : ¬ 9223372036854775807 < (bs (Lib.decDigits (n / 10))).size + 1 := by rw [bs_size]; omega
      have h2 : (bs (dg n)).size = 1 := rfl
      clear ih hsz
      go_enter Tryd.func34, Tryd.ntmps34
      go_wp2_with (go_at_call 34; refine (HI.out _).mono ?_; rintro e w1 ⟨rfl, hb⟩; have HB := Lib.hid hb; clear hb)
      go_ret
      exact ⟨by rw [HD.out, ← bs_app]; rfl, ((Below.refl _ w).alloc (Nat.le_refl _) _).trans (HB.out.mono (by simp))⟩
theorem minus_app (l : List UInt8) : (⟨#[45]⟩ : ByteArray) ++ bs l = bs (45 :: l) := by
  have : (⟨#[45]⟩ : ByteArray) = bs [45] := rfl
  rw [this, bs_app]; rfl
theorem rdecimal_any (n : Int) (w : World) (hn : I64 n) :
    Calls Tryd.prog 19 #[.int .i64 n] w fun e w' => e = .returned (.string (bs (Lib.itoa n))) ∧ Below w.heap.size w w' := by
  by_cases h : n < 0
  · obtain ⟨m, hm, hm63⟩ : ∃ m : Nat, (m : Int) = -(n + 1) ∧ m ≤ 9223372036854775807 := ⟨(-(n + 1)).toNat, by omega, by omega⟩
    have hd := digits_any (m + 1) w (by omega)
    have HI : Hid (Lib.itoa n = 45 :: Lib.decDigits (m + 1)) := by unfold Hid Lib.itoa; rw [if_pos h, show n.natAbs = m + 1 by omega]
    have hsz : (Lib.decDigits (m + 1)).length ≤ 20 := dec_size20 19 (m + 1) (by omega)
    have h1 : ¬ 9223372036854775807 < 1 + (bs (Lib.decDigits (m + 1))).size := by rw [bs_size]; omega
    have h2 : ¬ 9223372036854775807 < (bs (Lib.decDigits (m + 1))).size + 1 := by rw [bs_size]; omega
    rw [show ((m + 1 : Nat) : Int) = -(n + 1) + 1 by omega] at hd
    clear hsz hm
    go_enter Tryd.func19, Tryd.ntmps19
    go_wp2_with (go_at_call 34; refine hd.mono ?_; rintro e w1 ⟨rfl, hb⟩)
    go_ret
    exact ⟨by rw [HI.out, ← minus_app]; rfl, hb⟩
  · obtain ⟨m, rfl⟩ := Int.eq_ofNat_of_zero_le (by omega : 0 ≤ n)
    have hd := digits_any m w (by omega)
    have HI : Hid (Lib.itoa (m : Int) = Lib.decDigits m) := by unfold Hid Lib.itoa; rw [if_neg h]; simp
    go_enter Tryd.func19, Tryd.ntmps19
    go_wp2_with (go_at_call 34; refine hd.mono ?_; rintro e w1 ⟨rfl, hb⟩)
    go_ret
    exact ⟨by rw [HI.out]; rfl, hb⟩
end Go.Proofs.YthoonegckifiaaaDoor
