/-
  The walks of the functions on decimal numbers: Number, number and parseNumber.
-/
import Derived.Test.YtiiojkekcnmddaaDoorWalkC
import Derived.Test.YtiiojkekcnmddaaDoorText
namespace Go.Proofs.YtiiojkekcnmddaaDoor
open Go.RowKit
set_option linter.unusedSimpArgs false
set_option maxHeartbeats 1000000

/-- the string of a list of bytes -/
def bs (l : List UInt8) : ByteArray := ⟨l.toArray⟩
theorem bs_list (l : List UInt8) : (bs l).data.toList = l := by simp [bs]
theorem bs_of {s : ByteArray} {l : List UInt8} (h : s.data.toList = l) : s = bs l := by
  subst h; simp [bs]
theorem bs_app (l m : List UInt8) : bs l ++ bs m = bs (l ++ m) := bs_of (by simp [bs])
theorem cat_list (a b : ByteArray) : (a ++ b).data.toList = a.data.toList ++ b.data.toList := by simp
def digs : ByteArray := ⟨#[48, 49, 50, 51, 52, 53, 54, 55, 56, 57]⟩
theorem digs_fin : ∀ k : Fin 10, (digs.extract k.val (k.val + 1)).data.toList = [UInt8.ofNat (48 + k.val)] := by decide +kernel
theorem digs_at (k : Nat) (h : k < 10) : (digs.extract k (k + 1)).data.toList = [UInt8.ofNat (48 + k)] := digs_fin ⟨k, h⟩
/-- the digits ahead of the last one -/
def pre (m : Nat) : List UInt8 := if m < 10 then [] else Lib.decDigits (m / 10)
theorem pre_start (m : Nat) : pre m ++ [UInt8.ofNat (48 + m % 10)] = Lib.decDigits m := by
  unfold pre
  by_cases h : m < 10
  · rw [if_pos h, Lib.decDigits, dif_pos h, Nat.mod_eq_of_lt h]; rfl
  · rw [if_neg h]; conv => rhs; rw [Lib.decDigits, dif_neg h]
theorem pre_step (m : Nat) (h : 10 ≤ m) (l : List UInt8) : pre (m / 10) ++ (UInt8.ofNat (48 + m / 10 % 10) :: l) = pre m ++ l := by
  have := pre_start (m / 10)
  rw [show pre m = Lib.decDigits (m / 10) by unfold pre; rw [if_neg (by omega)], ← this]; simp
theorem ret_s {a b : ByteArray} (h : a = b) : Ending.returned (.string a) = .returned (.string b) := by rw [h]
theorem list_len (s : ByteArray) : s.data.toList.length = s.size := by simp
theorem num_any (N : Nat) (hn : N ≤ 999) (w : World) :
    Calls Tryd.prog 49 #[.int .i64 N] w fun e w' => e = .returned (.string (bs (Lib.decDigits N))) ∧ w = w' := by
  have h0 := Lib.hid (show pre N ++ (digs.extract (N % 10) (N % 10 + 1)).data.toList = Lib.decDigits N by rw [digs_at _ (by omega)]; exact pre_start N)
  go_enter Tryd.func49, Tryd.ntmps49
  go_wp2
  go_loop [0, 4] (fun n s => ∃ (m : Nat) (t : ByteArray), m ≤ 1000000 ∧ n = .int .i64 m ∧ s = .string t ∧ Hid (pre m ++ t.data.toList = Lib.decDigits N)) (fun n _ => (intOf n).toNat)
  case atStart => exact ⟨N, _, by omega, rfl, rfl, h0⟩
  case round =>
    obtain ⟨m, t, hm, rfl, rfl, hp⟩ := hrel
    by_cases hlt : 10 ≤ m
    · have hst := Lib.hid (show pre (m / 10) ++ (digs.extract (m / 10 % 10) (m / 10 % 10 + 1) ++ t).data.toList = Lib.decDigits N by
        rw [← hp.out, ← pre_step m hlt, cat_list, digs_at (m / 10 % 10) (by omega)]; rfl)
      have d1 : decide ((10 : Int) ≤ (m : Int)) = true := by simp; omega
      have hlt2 : (10 : Int) ≤ (m : Int) := by omega
      have hsz : t.size ≤ 3 := by
        have h1 := congrArg List.length hp.out
        have h2 := T.dec_len N hn
        rw [List.length_append, list_len] at h1; omega
      clear hlt
      go_wp2
      go_round
      case rel => exact ⟨m / 10, _, by omega, by go_num, rfl, hst⟩
      case measure => simp [intOf]; omega
    · have d1 : decide ((10 : Int) ≤ (m : Int)) = false := by simp; omega
      have hlt2 : (m : Int) < 10 := by omega
      have he := Lib.hid (show t = bs (Lib.decDigits N) from bs_of (by have := hp.out; unfold pre at this; rw [if_pos (by omega)] at this; simpa using this))
      clear hlt
      go_wp2
      go_ret
      exact ⟨ret_s he.out, rfl⟩

/-- what parseNumber hands back -/
def pnV : Option Nat → Value
  | some n => .tuple #[.int .i64 n, .bool true]
  | none => .tuple #[.int .i64 0, .bool false]
theorem ret_t {a b : Value} (h : a = b) : Ending.returned a = .returned b := by rw [h]
theorem pnV_some {o : Option Nat} {n : Nat} (h : o = some n) : pnV o = .tuple #[.int .i64 n, .bool true] := by rw [h]; rfl
theorem pnV_none {o : Option Nat} (h : o = none) : pnV o = .tuple #[.int .i64 0, .bool false] := by rw [h]; rfl
theorem list_get (s : ByteArray) (k : Nat) (h : k < s.size) : s.data.toList[k]'(by simpa using h) = s[k] := by rfl
theorem head_get (s : ByteArray) (h : 0 < s.size) : s.data.toList.head? = some s[0] := by
  rw [List.head?_eq_getElem?, List.getElem?_eq_getElem (by simpa using h), list_get s 0 h]
def DigTo (s : ByteArray) (k : Nat) : Prop := T.Dig (s.data.toList.take k)
theorem digTo_val {s : ByteArray} {k : Nat} (h : DigTo s k) (h3 : k ≤ 3) : T.valL (s.data.toList.take k) ≤ 999 :=
  T.dig_take_lt h (by rw [List.length_take]; omega)
theorem take_get (s : ByteArray) (k : Nat) (h : k < s.size) : s.data.toList.take (k + 1) = s.data.toList.take k ++ [s[k]] := by
  rw [T.take_snoc _ k (by simpa using h), list_get s k h]
theorem digTo_succ {s : ByteArray} {k : Nat} (h : DigTo s k) (hk : k < s.size) (hc : T.isD s[k] = true) : DigTo s (k + 1) := by
  unfold DigTo; rw [take_get s k hk]; exact T.dig_snoc h hc
theorem val_succ (s : ByteArray) (k : Nat) (hk : k < s.size) : T.valL (s.data.toList.take (k + 1)) = 10 * T.valL (s.data.toList.take k) + (s[k].toNat - 48) := by
  rw [take_get s k hk, T.valL_snoc]
theorem notDig {s : ByteArray} {k : Nat} (hk : k < s.size) (hc : T.isD s[k] = false) : ¬ T.Dig s.data.toList := fun h => by
  have := h s[k] (by rw [← list_get s k hk]; exact List.getElem_mem _)
  rw [hc] at this; cases this
theorem parseNumber_any (s : ByteArray) (hs : s.size ≤ maxLen) (lim : Nat) (_hl : lim ≤ 255) (w : World) :
    Calls Tryd.prog 63 #[.string s, .int .i64 lim] w fun e w' => e = .returned (pnV (T.pnum s.data.toList lim)) ∧ w = w' := by
  unfold maxLen at hs
  by_cases hlen : 1 ≤ s.size ∧ s.size ≤ 3
  · obtain ⟨hl1, hl3⟩ := hlen
    by_cases hz : 1 < s.size ∧ s[0].toNat = 48
    · obtain ⟨hz1, hz2⟩ := hz
      have H := Lib.hid (pnV_none (T.pnum_zero (lim := lim) (show 1 < s.data.toList.length ∧ s.data.toList.head? = some 48 from ⟨by simpa using hz1, by rw [head_get s (by omega)]; congr 1; exact UInt8.toNat_inj.1 hz2⟩)))
      have e1 : ((s[0].toNat : Int) == 48) = true := by simp; omega
      clear hz2
      go_enter Tryd.func63, Tryd.ntmps63
      go_wp2
      go_ret2
      exact ⟨ret_t H.out.symm, rfl⟩
    · have HZ := Lib.hid (show ¬ (1 < s.data.toList.length ∧ s.data.toList.head? = some 48) from fun ⟨h1, h2⟩ => hz ⟨by simpa using h1, by
        rw [head_get s (by omega)] at h2; have := Option.some.inj h2; rw [this]; rfl⟩)
      have hsz : s.size = 1 ∨ (1 < s.size ∧ ∃ h : 0 < s.size, ((s[0].toNat : Int) == 48) = false) := by
        rcases (by omega : s.size = 1 ∨ 1 < s.size) with h | h
        · exact .inl h
        · exact .inr ⟨h, by omega, by simp; omega⟩
      clear hz
      rcases hsz with h | ⟨h, hp, e1⟩
      · have HS := Lib.hid h
        have h' : s.size ≤ 1 := by omega
        clear h
        go_enter Tryd.func63, Tryd.ntmps63
        go_wp2
        go_loop [6, 28] (fun n i => ∃ k : Nat, k ≤ s.size ∧ i = .int .i64 k ∧ n = .int .i64 (T.valL (s.data.toList.take k) : Nat) ∧ DigTo s k) (fun _ i => s.size - (intOf i).toNat)
        case atStart => exact ⟨0, Nat.zero_le _, rfl, by simp [T.valL_nil], by unfold DigTo; exact T.dig_nil⟩
        case round =>
          obtain ⟨k, hk, rfl, rfl, hd⟩ := hrel
          have hv := digTo_val hd (by omega)
          by_cases hlt : k < s.size
          · rcases (by omega : s[k].toNat < 48 ∨ 57 < s[k].toNat ∨ (48 ≤ s[k].toNat ∧ s[k].toNat ≤ 57)) with h | h | ⟨h, h2⟩
            · have H := Lib.hid (pnV_none (T.pnum_dig (lim := lim) (notDig hlt (T.isD_lo h))))
              have d1 : decide ((s[k].toNat : Int) < 48) = true := by simp; omega
              clear h
              go_wp2
              go_ret2
              exact ⟨ret_t H.out.symm, rfl⟩
            · have H := Lib.hid (pnV_none (T.pnum_dig (lim := lim) (notDig hlt (T.isD_hi h))))
              have d1 : decide ((s[k].toNat : Int) < 48) = false := by simp; omega
              have d2 : decide ((57 : Int) < (s[k].toNat : Int)) = true := by simp; omega
              clear h
              go_wp2
              go_ret2
              exact ⟨ret_t H.out.symm, rfl⟩
            · have hd2 := digTo_succ hd hlt ((T.isD_iff _).2 ⟨h, h2⟩)
              have hs2 := Lib.hid (val_succ s k hlt)
              have d1 : decide ((s[k].toNat : Int) < 48) = false := by simp; omega
              have d2 : decide ((57 : Int) < (s[k].toNat : Int)) = false := by simp; omega
              have g1 : (48 : Int) ≤ (s[k].toNat : Int) := by omega
              have g2 : (s[k].toNat : Int) ≤ 57 := by omega
              clear h h2
              go_wp2
              go_round
              case rel => exact ⟨k + 1, by omega, by go_num, val_i (by rw [hs2.out]; omega), hd2⟩
              case measure => simp [intOf]; omega
          · obtain rfl : k = s.size := by omega
            have hfull : s.data.toList.take s.size = s.data.toList := by rw [List.take_of_length_le (by simp)]
            rw [hfull] at hv
            have hD : T.Dig s.data.toList := by unfold DigTo at hd; rw [hfull] at hd; exact hd
            by_cases hlm : T.valL s.data.toList ≤ lim
            · have H := Lib.hid (pnV_some (T.pnum_mk (by simpa using hl1) (by simpa using hl3) HZ.out hD hlm))
              have d1 : decide (lim < T.valL (s.data.toList.take s.size)) = false := by rw [hfull]; simp; omega
              have g1 : T.valL (s.data.toList.take s.size) ≤ lim := by rw [hfull]; exact hlm
              have HF := Lib.hid (show Value.tuple #[.int .i64 (T.valL (s.data.toList.take s.size) : Nat), .bool true] = pnV (T.pnum s.data.toList lim) by rw [H.out, hfull])
              clear hlm hfull
              go_wp2
              go_ret2
              exact ⟨ret_t HF.out, rfl⟩
            · have H := Lib.hid (pnV_none (T.pnum_lim hlm))
              have d1 : decide (lim < T.valL (s.data.toList.take s.size)) = true := by rw [hfull]; simp; omega
              have g1 : lim < T.valL (s.data.toList.take s.size) := by rw [hfull]; omega
              clear hlm hfull
              go_wp2
              go_ret2
              exact ⟨ret_t H.out.symm, rfl⟩
      · go_enter Tryd.func63, Tryd.ntmps63
        go_wp2
        go_loop [6, 28] (fun n i => ∃ k : Nat, k ≤ s.size ∧ i = .int .i64 k ∧ n = .int .i64 (T.valL (s.data.toList.take k) : Nat) ∧ DigTo s k) (fun _ i => s.size - (intOf i).toNat)
        case atStart => exact ⟨0, Nat.zero_le _, rfl, by simp [T.valL_nil], by unfold DigTo; exact T.dig_nil⟩
        case round =>
          obtain ⟨k, hk, rfl, rfl, hd⟩ := hrel
          have hv := digTo_val hd (by omega)
          by_cases hlt : k < s.size
          · rcases (by omega : s[k].toNat < 48 ∨ 57 < s[k].toNat ∨ (48 ≤ s[k].toNat ∧ s[k].toNat ≤ 57)) with h | h | ⟨h, h2⟩
            · have H := Lib.hid (pnV_none (T.pnum_dig (lim := lim) (notDig hlt (T.isD_lo h))))
              have d1 : decide ((s[k].toNat : Int) < 48) = true := by simp; omega
              clear h
              go_wp2
              go_ret2
              exact ⟨ret_t H.out.symm, rfl⟩
            · have H := Lib.hid (pnV_none (T.pnum_dig (lim := lim) (notDig hlt (T.isD_hi h))))
              have d1 : decide ((s[k].toNat : Int) < 48) = false := by simp; omega
              have d2 : decide ((57 : Int) < (s[k].toNat : Int)) = true := by simp; omega
              clear h
              go_wp2
              go_ret2
              exact ⟨ret_t H.out.symm, rfl⟩
            · have hd2 := digTo_succ hd hlt ((T.isD_iff _).2 ⟨h, h2⟩)
              have hs2 := Lib.hid (val_succ s k hlt)
              have d1 : decide ((s[k].toNat : Int) < 48) = false := by simp; omega
              have d2 : decide ((57 : Int) < (s[k].toNat : Int)) = false := by simp; omega
              have g1 : (48 : Int) ≤ (s[k].toNat : Int) := by omega
              have g2 : (s[k].toNat : Int) ≤ 57 := by omega
              clear h h2
              go_wp2
              go_round
              case rel => exact ⟨k + 1, by omega, by go_num, val_i (by rw [hs2.out]; omega), hd2⟩
              case measure => simp [intOf]; omega
          · obtain rfl : k = s.size := by omega
            have hfull : s.data.toList.take s.size = s.data.toList := by rw [List.take_of_length_le (by simp)]
            rw [hfull] at hv
            have hD : T.Dig s.data.toList := by unfold DigTo at hd; rw [hfull] at hd; exact hd
            by_cases hlm : T.valL s.data.toList ≤ lim
            · have H := Lib.hid (pnV_some (T.pnum_mk (by simpa using hl1) (by simpa using hl3) HZ.out hD hlm))
              have d1 : decide (lim < T.valL (s.data.toList.take s.size)) = false := by rw [hfull]; simp; omega
              have g1 : T.valL (s.data.toList.take s.size) ≤ lim := by rw [hfull]; exact hlm
              have HF := Lib.hid (show Value.tuple #[.int .i64 (T.valL (s.data.toList.take s.size) : Nat), .bool true] = pnV (T.pnum s.data.toList lim) by rw [H.out, hfull])
              clear hlm hfull
              go_wp2
              go_ret2
              exact ⟨ret_t HF.out, rfl⟩
            · have H := Lib.hid (pnV_none (T.pnum_lim hlm))
              have d1 : decide (lim < T.valL (s.data.toList.take s.size)) = true := by rw [hfull]; simp; omega
              have g1 : lim < T.valL (s.data.toList.take s.size) := by rw [hfull]; omega
              clear hlm hfull
              go_wp2
              go_ret2
              exact ⟨ret_t H.out.symm, rfl⟩
  · have H := Lib.hid (pnV_none (T.pnum_len (l := s.data.toList) (lim := lim) (by simpa using hlen)))
    rcases (by omega : s.size < 1 ∨ 3 < s.size) with h | h <;> clear hlen
    · obtain h : s.size = 0 := by omega
      go_enter Tryd.func63, Tryd.ntmps63
      go_wp2
      go_ret2
      exact ⟨ret_t H.out.symm, rfl⟩
    · go_enter Tryd.func63, Tryd.ntmps63
      go_wp2
      go_ret2
      exact ⟨ret_t H.out.symm, rfl⟩
end Go.Proofs.YtiiojkekcnmddaaDoor
