/-
  The walks of Get and of the reference's Get.
-/
import Derived.Test.YthoonegckifiaaaDoorWalkF
import Derived.IntWalk
import Derived.Laws.BitsAllLaws
import Derived.Laws.BitsLemmas
namespace Go.Proofs.YthoonegckifiaaaDoor
open Go.RowKit
set_option linter.unusedSimpArgs false
set_option linter.unusedVariables false
set_option maxHeartbeats 4000000
set_option maxRecDepth 100000

theorem or_u64 (a x : Nat) (h : a < 72057594037927936) (hx : x < 256) : bits .or .u64 ((a : Int) * 256) (x : Int) = ((a * 256 + x : Nat) : Int) := by
  rw [show ((a : Int) * 256) = ((a * 256 : Nat) : Int) by push_cast; rfl, u64_or_nat _ _ (by omega) (by omega), or_byte a x hx]
theorem get_no (l : List Nat) (v : Value) (a n : Int) (w : World) (hl : l.length ≤ 140737489403904) (hr : Rd w v l) (ha : I64 a) (hn : I64 n) (h : n < 0 ∨ 8 < n ∨ a < 0 ∨ (l.length : Int) - n < a) :
    Calls Tryd.prog 10 #[v, .int .i64 a, .int .i64 n] w fun e w' => e = .returned (.tuple #[.int .u64 0, .bool false]) ∧ w = w' := by
  obtain ⟨ad, cap, rfl, _⟩ := hr
  by_cases h0 : n < 0
  · clear h
    go_enter Tryd.func10, Tryd.ntmps10
    go_wp2
    go_ret2
    exact ⟨rfl, rfl⟩
  · by_cases h1 : 8 < n
    · clear h
      go_enter Tryd.func10, Tryd.ntmps10
      go_wp2
      go_ret2
      exact ⟨rfl, rfl⟩
    · by_cases h2 : a < 0
      · clear h
        go_enter Tryd.func10, Tryd.ntmps10
        go_wp2
        go_ret2
        exact ⟨rfl, rfl⟩
      · have h3 : (l.length : Int) - n < a := by omega
        clear h
        go_enter Tryd.func10, Tryd.ntmps10
        go_wp2
        go_ret2
        exact ⟨rfl, rfl⟩
theorem get_yes (l : List Nat) (v : Value) (a n : Nat) (w : World) (hl : l.length ≤ 140737489403904) (hr : Rd w v l) (hn : n ≤ 8) (ha : a + n ≤ l.length) :
    Calls Tryd.prog 10 #[v, .int .i64 a, .int .i64 n] w fun e w' => e = .returned (.tuple #[.int .u64 (beV ((l.drop a).take n) : Nat), .bool true]) ∧ w = w' := by
  obtain ⟨ad, cap, rfl, hcap, hby, hat⟩ := hr
  have HAT := Lib.hid hat
  have HBY := Lib.hid hby
  have q1 : ¬ (n : Int) < 0 := by omega
  have q2 : ¬ 8 < (n : Int) := by omega
  have q3 : ¬ (a : Int) < 0 := by omega
  have q4 : ¬ (l.length : Int) - n < a := by omega
  clear hat hby
  by_cases hn0 : n = 0
  · subst hn0
    by_cases hca : cap = a
    · subst hca
      go_enter Tryd.func10, Tryd.ntmps10
      go_wp2
      refine wp_loop_rounds 1 ?_
      rw [rounds_succ]
      go_wp2
      go_ret2
      exact ⟨rfl, rfl⟩
    · go_enter Tryd.func10, Tryd.ntmps10
      go_wp2
      refine wp_loop_rounds 1 ?_
      rw [rounds_succ]
      go_wp2
      go_ret2
      exact ⟨rfl, rfl⟩
  · have hca : ¬ cap = a := by omega
    obtain ⟨blk, off, rfl, hblk, _⟩ := HAT.out a _ (List.getElem?_eq_getElem (show a < l.length by omega))
    have HC : Hid (∀ k, k < n → ∃ x : Nat, x < 256 ∧ beV ((l.drop a).take (k + 1)) = beV ((l.drop a).take k) * 256 + x ∧ w.cell? ⟨blk, off + a + k, none⟩ = some (.int .u8 (x : Int))) := fun k hk => by
      have hx : l[a + k]? = some l[a + k] := List.getElem?_eq_getElem (by omega)
      obtain ⟨b', o', e, _, hc⟩ := HAT.out _ _ hx
      injection e with e; injection e with e1 e2; subst e1 e2
      refine ⟨_, HBY.out.get hx, ?_, by rw [Nat.add_assoc]; exact hc⟩
      have : (l.drop a)[k]? = some l[a + k] := by rw [List.getElem?_drop]; exact hx
      rw [take_snoc this, beV_snoc]
    have HBV : Hid (∀ k, k < n → beV ((l.drop a).take k) < 72057594037927936) := fun k hk => beV_lt7 _ ((HBY.out.drop a).take k) (by rw [List.length_take]; omega)
    have HB8 : Hid (∀ k, k ≤ n → beV ((l.drop a).take k) < 18446744073709551616) := fun k hk => beV_lt8 _ ((HBY.out.drop a).take k) (by rw [List.length_take]; omega)
    go_enter Tryd.func10, Tryd.ntmps10
    go_wp2
    go_loop [8, 36] (fun h i => ∃ k : Nat, k ≤ n ∧ i = .int .i64 k ∧ h = .int .u64 (beV ((l.drop a).take k) : Nat)) (fun _ i => n - (intOf i).toNat)
    case atStart => exact ⟨0, Nat.zero_le _, rfl, rfl⟩
    case round =>
      obtain ⟨k, hk, rfl, rfl⟩ := hrel
      by_cases hlt : k < n
      · obtain ⟨x, hx, hs, hc⟩ := HC.out k hlt
        have HS := Lib.hid hs
        have hb := HBV.out k hlt
        clear hs
        go_wp2
        go_round
        case rel => exact ⟨k + 1, by omega, by go_num, val_i (by rw [or_u64 _ _ hb hx, HS.out])⟩
        case measure => simp [intOf]; omega
      · have hkn : k = n := by omega
        subst hkn
        go_wp2
        go_ret2
        exact ⟨rfl, rfl⟩
theorem rget_no (l : List Nat) (v : Value) (a n : Int) (w : World) (hl : l.length ≤ 140737489403904) (hr : Rd w v l) (ha : I64 a) (hn : I64 n) (h : n < 0 ∨ 8 < n ∨ a < 0 ∨ (l.length : Int) - n < a) :
    Calls Tryd.prog 11 #[v, .int .i64 a, .int .i64 n] w fun e w' => e = .returned (.tuple #[.int .u64 0, .bool false]) ∧ w = w' := by
  obtain ⟨ad, cap, rfl, _⟩ := hr
  by_cases h0 : n < 0
  · clear h
    go_enter Tryd.func11, Tryd.ntmps11
    go_wp2
    go_ret2
    exact ⟨rfl, rfl⟩
  · by_cases h1 : 8 < n
    · clear h
      go_enter Tryd.func11, Tryd.ntmps11
      go_wp2
      go_ret2
      exact ⟨rfl, rfl⟩
    · by_cases h2 : a < 0
      · clear h
        go_enter Tryd.func11, Tryd.ntmps11
        go_wp2
        go_ret2
        exact ⟨rfl, rfl⟩
      · have h3 : (l.length : Int) - n < a := by omega
        clear h
        go_enter Tryd.func11, Tryd.ntmps11
        go_wp2
        go_ret2
        exact ⟨rfl, rfl⟩
theorem rget_yes (l : List Nat) (v : Value) (a n : Nat) (w : World) (hl : l.length ≤ 140737489403904) (hr : Rd w v l) (hn : n ≤ 8) (ha : a + n ≤ l.length) :
    Calls Tryd.prog 11 #[v, .int .i64 a, .int .i64 n] w fun e w' => e = .returned (.tuple #[.int .u64 (beV ((l.drop a).take n) : Nat), .bool true]) ∧ w = w' := by
  obtain ⟨ad, cap, rfl, hcap, hby, hat⟩ := hr
  have HAT := Lib.hid hat
  have HBY := Lib.hid hby
  have q1 : ¬ (n : Int) < 0 := by omega
  have q2 : ¬ 8 < (n : Int) := by omega
  have q3 : ¬ (a : Int) < 0 := by omega
  have q4 : ¬ (l.length : Int) - n < a := by omega
  clear hat hby
  by_cases hn0 : n = 0
  · subst hn0
    by_cases hca : cap = a
    · subst hca
      go_enter Tryd.func11, Tryd.ntmps11
      go_wp2
      refine wp_loop_rounds 1 ?_
      rw [rounds_succ]
      go_wp2
      go_ret2
      exact ⟨rfl, rfl⟩
    · go_enter Tryd.func11, Tryd.ntmps11
      go_wp2
      refine wp_loop_rounds 1 ?_
      rw [rounds_succ]
      go_wp2
      go_ret2
      exact ⟨rfl, rfl⟩
  · have hca : ¬ cap = a := by omega
    obtain ⟨blk, off, rfl, hblk, _⟩ := HAT.out a _ (List.getElem?_eq_getElem (show a < l.length by omega))
    have HC : Hid (∀ k, k < n → ∃ x : Nat, x < 256 ∧ beV ((l.drop a).take (k + 1)) = beV ((l.drop a).take k) * 256 + x ∧ w.cell? ⟨blk, off + a + k, none⟩ = some (.int .u8 (x : Int))) := fun k hk => by
      have hx : l[a + k]? = some l[a + k] := List.getElem?_eq_getElem (by omega)
      obtain ⟨b', o', e, _, hc⟩ := HAT.out _ _ hx
      injection e with e; injection e with e1 e2; subst e1 e2
      refine ⟨_, HBY.out.get hx, ?_, by rw [Nat.add_assoc]; exact hc⟩
      have : (l.drop a)[k]? = some l[a + k] := by rw [List.getElem?_drop]; exact hx
      rw [take_snoc this, beV_snoc]
    have HBV : Hid (∀ k, k < n → beV ((l.drop a).take k) < 72057594037927936) := fun k hk => beV_lt7 _ ((HBY.out.drop a).take k) (by rw [List.length_take]; omega)
    have HB8 : Hid (∀ k, k ≤ n → beV ((l.drop a).take k) < 18446744073709551616) := fun k hk => beV_lt8 _ ((HBY.out.drop a).take k) (by rw [List.length_take]; omega)
    go_enter Tryd.func11, Tryd.ntmps11
    go_wp2
    go_loop [8, 36] (fun h i => ∃ k : Nat, k ≤ n ∧ i = .int .i64 k ∧ h = .int .u64 (beV ((l.drop a).take k) : Nat)) (fun _ i => n - (intOf i).toNat)
    case atStart => exact ⟨0, Nat.zero_le _, rfl, rfl⟩
    case round =>
      obtain ⟨k, hk, rfl, rfl⟩ := hrel
      by_cases hlt : k < n
      · obtain ⟨x, hx, hs, hc⟩ := HC.out k hlt
        have HS := Lib.hid hs
        have hb := HBV.out k hlt
        clear hs
        go_wp2
        go_round
        case rel => exact ⟨k + 1, by omega, by go_num, by rw [HS.out]; go_num⟩
        case measure => simp [intOf]; omega
      · have hkn : k = n := by omega
        subst hkn
        go_wp2
        go_ret2
        exact ⟨rfl, rfl⟩

/-- SameBytes -/
theorem same_yes (l : List Nat) (u v : Value) (w : World) (hl : l.length ≤ 140737489403904) (hu : Rd w u l) (hv : Rd w v l) :
    Calls Tryd.prog 13 #[u, v] w fun e w' => e = .returned (.bool true) ∧ w = w' := by
  obtain ⟨ad, cap, rfl, hcap, hby, hat⟩ := hu
  obtain ⟨ad2, cap2, rfl, hcap2, hby2, hat2⟩ := hv
  have HAT := Lib.hid hat
  have HAT2 := Lib.hid hat2
  clear hat hat2 hby hby2
  go_enter Tryd.func13, Tryd.ntmps13
  go_wp2
  go_loop [5, 6, 14] (fun _ _ i => ∃ k : Nat, k ≤ l.length ∧ i = .int .i64 k) (fun _ _ i => l.length - (intOf i).toNat)
  case atStart => exact ⟨0, Nat.zero_le _, rfl⟩
  case round =>
    obtain ⟨k, hk, rfl⟩ := hrel
    by_cases hlt : k < l.length
    · obtain ⟨x, hx⟩ : ∃ x, l[k]? = some x := ⟨_, List.getElem?_eq_getElem hlt⟩
      obtain ⟨blk, off, rfl, hblk, hc0⟩ := HAT.out k x hx
      obtain ⟨blk2, off2, rfl, hblk2, hc2⟩ := HAT2.out k x hx
      clear hx
      go_wp2
      go_round
      case rel => exact ⟨k + 1, by omega, by go_num⟩
      case measure => simp [intOf]; omega
    · have hkl : k = l.length := by omega
      subst hkl
      go_wp2
      go_ret
      exact ⟨rfl, rfl⟩
end Go.Proofs.YthoonegckifiaaaDoor
