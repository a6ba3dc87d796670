/-
  field.Get.
-/
import Derived.Test.YtenfcnappjekgaaLaX
import Derived.IntWalk
import Derived.Laws.BitsAllLaws
import Derived.Laws.BitsLemmas
namespace Go.Proofs.Ytenfcnappjekgaa
open Go.RowKit
set_option linter.unusedSimpArgs false
set_option linter.unusedVariables false
set_option maxHeartbeats 4000000
set_option maxRecDepth 100000

theorem or_u64 (a x : Nat) (h : a < 72057594037927936) (hx : x < 256) : bits .or .u64 ((a : Int) * 256) (x : Int) = ((a * 256 + x : Nat) : Int) := by
  rw [show ((a : Int) * 256) = ((a * 256 : Nat) : Int) by push_cast; rfl, u64_or_nat _ _ (by omega) (by omega), or_byte a x hx]
theorem get_no (l : List Nat) (v : Value) (a n : Int) (w : World) (hl : l.length ≤ 140737489403904) (hr : Rd w v l) (ha : I64 a) (hn : I64 n) (h : n < 0 ∨ 8 < n ∨ a < 0 ∨ (l.length : Int) - n < a) :
    Calls Try.prog 65 #[v, .int .i64 a, .int .i64 n] w fun e w' => e = .returned (.tuple #[.int .u64 0, .bool false]) ∧ w = w' := by
  obtain ⟨ad, cap, rfl, _⟩ := hr
  by_cases h0 : n < 0
  · clear h
    go_enter Try.func65, Try.ntmps65
    go_wp2
    go_ret2
    exact ⟨rfl, rfl⟩
  · by_cases h1 : 8 < n
    · clear h
      go_enter Try.func65, Try.ntmps65
      go_wp2
      go_ret2
      exact ⟨rfl, rfl⟩
    · by_cases h2 : a < 0
      · clear h
        go_enter Try.func65, Try.ntmps65
        go_wp2
        go_ret2
        exact ⟨rfl, rfl⟩
      · have h3 : (l.length : Int) - n < a := by omega
        clear h
        go_enter Try.func65, Try.ntmps65
        go_wp2
        go_ret2
        exact ⟨rfl, rfl⟩
theorem get_yes (l : List Nat) (v : Value) (a n : Nat) (w : World) (hl : l.length ≤ 140737489403904) (hr : Rd w v l) (hn : n ≤ 8) (ha : a + n ≤ l.length) :
    Calls Try.prog 65 #[v, .int .i64 a, .int .i64 n] w fun e w' => e = .returned (.tuple #[.int .u64 (beV ((l.drop a).take n) : Nat), .bool true]) ∧ w = w' := by
  obtain ⟨ad, cap, rfl, hcap, hby, hat⟩ := hr
  have HAT := Lib.hid hat
  have HBY := Lib.hid hby
  have q1 : ¬ (n : Int) < 0 := by omega
  have q2 : ¬ 8 < (n : Int) := by omega
  have q3 : ¬ (a : Int) < 0 := by omega
  have q4 : ¬ (l.length : Int) - n < a := by omega
  clear hat hby
  by_cases hn0 : n = 0
  · subst hn0
    by_cases hca : cap = a
    · subst hca
      go_enter Try.func65, Try.ntmps65
      go_wp2
      refine wp_loop_rounds 1 ?_
      rw [rounds_succ]
      go_wp2
      go_ret2
      exact ⟨rfl, rfl⟩
    · go_enter Try.func65, Try.ntmps65
      go_wp2
      refine wp_loop_rounds 1 ?_
      rw [rounds_succ]
      go_wp2
      go_ret2
      exact ⟨rfl, rfl⟩
  · have hca : ¬ cap = a := by omega
    obtain ⟨blk, off, rfl, hblk, _⟩ := HAT.out a _ (List.getElem?_eq_getElem (show a < l.length by omega))
    have HC : Hid (∀ k, k < n → ∃ x : Nat, x < 256 ∧ beV ((l.drop a).take (k + 1)) = beV ((l.drop a).take k) * 256 + x ∧ w.cell? ⟨blk, off + a + k, none⟩ = some (.int .u8 (x : Int))) := fun k hk => by
      have hx : l[a + k]? = some l[a + k] := List.getElem?_eq_getElem (by omega)
      obtain ⟨b', o', e, _, hc⟩ := HAT.out _ _ hx
      injection e with e; injection e with e1 e2; subst e1 e2
      refine ⟨_, HBY.out.get hx, ?_, by rw [Nat.add_assoc]; exact hc⟩
      have : (l.drop a)[k]? = some l[a + k] := by rw [List.getElem?_drop]; exact hx
      rw [take_snoc this, beV_snoc]
    have HBV : Hid (∀ k, k < n → beV ((l.drop a).take k) < 72057594037927936) := fun k hk => beV_lt7 _ ((HBY.out.drop a).take k) (by rw [List.length_take]; omega)
    have HB8 : Hid (∀ k, k ≤ n → beV ((l.drop a).take k) < 18446744073709551616) := fun k hk => beV_lt8 _ ((HBY.out.drop a).take k) (by rw [List.length_take]; omega)
    go_enter Try.func65, Try.ntmps65
    go_wp2
    go_loop [8, 36] (fun h i => ∃ k : Nat, k ≤ n ∧ i = .int .i64 k ∧ h = .int .u64 (beV ((l.drop a).take k) : Nat)) (fun _ i => n - (intOf i).toNat)
    case atStart => exact ⟨0, Nat.zero_le _, rfl, rfl⟩
    case round =>
      obtain ⟨k, hk, rfl, rfl⟩ := hrel
      by_cases hlt : k < n
      · obtain ⟨x, hx, hs, hc⟩ := HC.out k hlt
        have HS := Lib.hid hs
        have hb := HBV.out k hlt
        clear hs
        go_wp2
        go_round
        case rel => exact ⟨k + 1, by omega, by go_num, val_i (by rw [or_u64 _ _ hb hx, HS.out])⟩
        case measure => simp [intOf]; omega
      · have hkn : k = n := by omega
        subst hkn
        go_wp2
        go_ret2
        exact ⟨rfl, rfl⟩
end Go.Proofs.Ytenfcnappjekgaa
