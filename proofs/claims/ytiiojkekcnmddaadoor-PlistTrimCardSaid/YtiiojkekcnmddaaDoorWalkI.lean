/-
  The walk of the reference's reader of addresses.
-/
import Derived.Test.YtiiojkekcnmddaaDoorWalkH
namespace Go.Proofs.YtiiojkekcnmddaaDoor
open Go.RowKit
set_option linter.unusedSimpArgs false
set_option linter.unusedVariables false
set_option maxHeartbeats 2000000

def valA (ns : List Nat) : Nat := ns.foldl (fun a n => a * 256 + n) 0
def Ok255 (ns : List Nat) : Prop := ∀ n ∈ ns, n ≤ 255
theorem valA_snoc (ns : List Nat) (n : Nat) : valA (ns ++ [n]) = valA ns * 256 + n := by unfold valA; rw [List.foldl_append]; rfl
theorem ok255_snoc {ns : List Nat} {n : Nat} (h : Ok255 ns) (hn : n ≤ 255) : Ok255 (ns ++ [n]) := fun x hx => by
  rcases List.mem_append.1 hx with h1 | h1
  · exact h x h1
  · rw [List.mem_singleton.1 h1]; exact hn
theorem valA_lt : ∀ (k : Nat) (ns : List Nat), ns.length = k → Ok255 ns → valA ns < 256 ^ k := by
  intro k
  induction k with
  | zero => intro ns h _; rw [List.length_eq_zero_iff.1 h]; simp [valA]
  | succ k ih =>
    intro ns h hok
    obtain ⟨l', c, rfl⟩ : ∃ l' c, ns = l' ++ [c] := ⟨ns.dropLast, ns.getLast (by intro h0; rw [h0] at h; simp at h), (List.dropLast_concat_getLast _).symm⟩
    have h1 : l'.length = k := by simpa using h
    have := ih l' h1 (fun x hx => hok x (List.mem_append_left _ hx))
    have hc := hok c (by simp)
    rw [valA_snoc, Nat.pow_succ]; omega
theorem valA_room {k : Nat} {ns : List Nat} (h : ns.length = k) (hk : k < 4) (hok : Ok255 ns) : valA ns ≤ 16777215 := by
  have h1 := valA_lt k ns h hok
  have h2 := Nat.pow_le_pow_right (n := 256) (by omega) (show k ≤ 3 by omega)
  omega
theorem drop_cons (s : ByteArray) (p : Nat) (h : p < s.size) : s.data.toList.drop p = s[p] :: s.data.toList.drop (p + 1) := by
  rw [List.drop_eq_getElem_cons (by simpa using h), list_get s p h]
theorem u8_46 {c : UInt8} : c = 46 ↔ c.toNat = 46 := ⟨fun h => by rw [h]; rfl, fun h => UInt8.toNat_inj.1 h⟩
theorem refN_dot (s : ByteArray) (p k : Nat) (hp : p < s.size) (h : s[p].toNat = 46) : T.refN (k + 1) false (s.data.toList.drop p) = T.refN (k + 1) true (s.data.toList.drop (p + 1)) := by
  rw [drop_cons s p hp, u8_46.2 h, T.refN_false]
theorem refN_nodot (s : ByteArray) (p k : Nat) (hp : p < s.size) (h : s[p].toNat ≠ 46) : T.refN (k + 1) false (s.data.toList.drop p) = none := by
  rw [drop_cons s p hp, T.refN]; simp [T.afterDot, u8_46, h]
theorem refN_end (s : ByteArray) (p k : Nat) (hp : s.size ≤ p) : T.refN (k + 1) false (s.data.toList.drop p) = none := by
  rw [List.drop_eq_nil_of_le (by simpa using hp), T.refN]; simp [T.afterDot]
theorem refN_go (s : ByteArray) (p k n : Nat) (h : T.pnum (runAt s p) 255 = some n) : T.refN (k + 1) true (s.data.toList.drop p) = (T.refN k false (s.data.toList.drop (p + (runAt s p).length))).map (fun x => (n :: x.1, x.2)) := by
  rw [T.refN]; simp only [if_true]
  unfold runAt at h ⊢
  rw [h, List.drop_drop]
theorem refN_stop (s : ByteArray) (p k : Nat) (h : T.pnum (runAt s p) 255 = none) : T.refN (k + 1) true (s.data.toList.drop p) = none := by
  rw [T.refN]; simp only [if_true]
  unfold runAt at h
  rw [h]
/-- what has been read so far, and what is still to be read -/
def St (s : ByteArray) (k p : Nat) (ns : List Nat) : Prop :=
  T.refN 4 true s.data.toList = (T.refN (4 - k) (decide (k = 0)) (s.data.toList.drop p)).map (fun x => (ns ++ x.1, x.2))
theorem st_start (s : ByteArray) : St s 0 0 [] := by
  unfold St; simp only [List.drop_zero, List.nil_append]
  cases h : T.refN 4 true s.data.toList <;> simp [h]
theorem st_first {s : ByteArray} {n : Nat} (h : St s 0 0 []) (hp : T.pnum (runAt s 0) 255 = some n) : St s 1 (0 + (runAt s 0).length) ([] ++ [n]) := by
  unfold St at h ⊢
  rw [h, show 4 - 0 = 3 + 1 by omega, decide_eq_true rfl, refN_go s 0 3 n hp, Option.map_map]
  rfl
theorem st_first_no {s : ByteArray} (h : St s 0 0 []) (hp : T.pnum (runAt s 0) 255 = none) : T.refN 4 true s.data.toList = none := by
  unfold St at h
  rw [h, show 4 - 0 = 3 + 1 by omega, decide_eq_true rfl, refN_stop s 0 3 hp]; rfl
theorem st_next {s : ByteArray} {k p n : Nat} {ns : List Nat} (h : St s k p ns) (h0 : 0 < k) (hk : k < 4) (hin : p < s.size) (hd : s[p].toNat = 46) (hp : T.pnum (runAt s (p + 1)) 255 = some n) :
    St s (k + 1) (p + 1 + (runAt s (p + 1)).length) (ns ++ [n]) := by
  unfold St at h ⊢
  rw [h, show 4 - k = (4 - (k + 1)) + 1 by omega, decide_eq_false (by omega), refN_dot s p _ hin hd, refN_go s (p + 1) _ n hp, Option.map_map, decide_eq_false (by omega)]
  congr 1
  funext x; simp
theorem st_next_no {s : ByteArray} {k p : Nat} {ns : List Nat} (h : St s k p ns) (h0 : 0 < k) (hk : k < 4) (hin : p < s.size) (hd : s[p].toNat = 46) (hp : T.pnum (runAt s (p + 1)) 255 = none) :
    T.refN 4 true s.data.toList = none := by
  unfold St at h
  rw [h, show 4 - k = (4 - (k + 1)) + 1 by omega, decide_eq_false (by omega), refN_dot s p _ hin hd, refN_stop s (p + 1) _ hp]; rfl
theorem st_nodot {s : ByteArray} {k p : Nat} {ns : List Nat} (h : St s k p ns) (h0 : 0 < k) (hk : k < 4) (hin : p < s.size) (hd : s[p].toNat ≠ 46) : T.refN 4 true s.data.toList = none := by
  unfold St at h
  rw [h, show 4 - k = (4 - (k + 1)) + 1 by omega, decide_eq_false (by omega), refN_nodot s p _ hin hd]; rfl
theorem st_end {s : ByteArray} {k p : Nat} {ns : List Nat} (h : St s k p ns) (h0 : 0 < k) (hk : k < 4) (hin : s.size ≤ p) : T.refN 4 true s.data.toList = none := by
  unfold St at h
  rw [h, show 4 - k = (4 - (k + 1)) + 1 by omega, decide_eq_false (by omega), refN_end s p _ hin]; rfl
theorem st_done {s : ByteArray} {p : Nat} {ns : List Nat} (h : St s 4 p ns) : T.refN 4 true s.data.toList = some (ns, s.data.toList.drop p) := by
  unfold St at h
  rw [h]; simp [T.refN]

/-- what the reference's reader of addresses hands back -/
def adV (len : Nat) : Option (List Nat × List UInt8) → Value
  | some (ns, rest) => .tuple #[.int .u32 (valA ns), .int .i64 ((len : Int) - rest.length)]
  | none => .tuple #[.int .u32 0, .int .i64 (-1)]
theorem adV_none {len : Nat} {o : Option (List Nat × List UInt8)} (h : o = none) : Value.tuple #[.int .u32 0, .int .i64 (-1)] = adV len o := by rw [h]; rfl
theorem adV_done {s : ByteArray} {p : Nat} {ns : List Nat} (hp : p ≤ s.size) (h : T.refN 4 true s.data.toList = some (ns, s.data.toList.drop p)) :
    Value.tuple #[.int .u32 (valA ns), .int .i64 p] = adV s.size (T.refN 4 true s.data.toList) := by
  rw [h]
  have : ((s.size : Int) - ((s.data.toList.drop p).length : Nat)) = p := by rw [List.length_drop, list_len]; omega
  show _ = Value.tuple #[.int .u32 (valA ns), .int .i64 ((s.size : Int) - ((s.data.toList.drop p).length : Nat))]
  rw [this]
theorem num_no (s : ByteArray) (hs : s.size ≤ 140737488355328) (i : Nat) (hi : i ≤ s.size) (hp : T.pnum (runAt s i) 255 = none) (j : Int) (hj : j = i) (W : World) :
    Calls Tryd.prog 55 #[.string s, .int .i64 j, .int .i64 255] W fun e w' => e = .returned (.tuple #[.int .i64 0, .int .i64 (-1)]) ∧ W = w' := by
  subst hj
  exact (number_any s hs i hi 255 (by omega) W).mono fun e w' ⟨h1, h2⟩ => ⟨by rw [h1, rnV_none _ hp], h2⟩
theorem num_yes (s : ByteArray) (hs : s.size ≤ 140737488355328) (i : Nat) (hi : i ≤ s.size) (n : Nat) (hp : T.pnum (runAt s i) 255 = some n) (j : Int) (hj : j = i) (W : World) :
    Calls Tryd.prog 55 #[.string s, .int .i64 j, .int .i64 255] W fun e w' => e = .returned (.tuple #[.int .i64 n, .int .i64 (j + (runAt s i).length)]) ∧ W = w' := by
  subst hj
  exact (number_any s hs i hi 255 (by omega) W).mono fun e w' ⟨h1, h2⟩ => ⟨by rw [h1, rnV_some _ hp], h2⟩
theorem address_any (s : ByteArray) (hs : s.size ≤ 140737488355328) (w : World) :
    Calls Tryd.prog 54 #[.string s] w fun e w' => e = .returned (adV s.size (T.refN 4 true s.data.toList)) ∧ w = w' := by
  have hstart := Lib.hid (st_start s)
  go_enter Tryd.func54, Tryd.ntmps54
  go_wp2
  go_loop [4, 5, 9] (fun a p c => ∃ (k q : Nat) (ns : List Nat), k ≤ 4 ∧ q ≤ s.size ∧ (k = 0 → q = 0 ∧ ns = []) ∧ c = .int .i64 k ∧ p = .int .i64 q ∧ a = .int .u32 (valA ns : Nat) ∧ ns.length = k ∧ Ok255 ns ∧ St s k q ns) (fun _ _ c => 4 - (intOf c).toNat)
  case atStart => exact ⟨0, 0, [], by omega, by omega, fun _ => ⟨rfl, rfl⟩, rfl, rfl, rfl, rfl, (fun _ h => by cases h), hstart.out⟩
  case round =>
    obtain ⟨k, q, ns, hk, hq, h00, rfl, rfl, rfl, hlen, hok, hst⟩ := hrel
    have HL := Lib.hid hlen
    have HO := Lib.hid hok
    have HS := Lib.hid hst
    have H00 := Lib.hid h00
    clear h00
    by_cases hlt : k < 4
    · have hroom := valA_room hlen hlt hok
      clear hlen hok hst
      by_cases hk0 : k = 0
      · obtain ⟨rfl, rfl⟩ := H00.out hk0
        subst hk0
        cases hp : T.pnum (runAt s 0) 255 with
        | none =>
          have H := Lib.hid (adV_none (len := s.size) (st_first_no HS.out hp))
          have C := Lib.hid (num_no s hs 0 (by omega) hp 0 rfl)
          clear hp
          go_wp2_with (go_at_call 55; refine (C.out _).mono ?_; rintro e w' ⟨rfl, rfl⟩)
          go_ret2
          exact ⟨ret_t H.out, rfl⟩
        | some n =>
          have H := st_first HS.out hp
          have C := Lib.hid (num_yes s hs 0 (by omega) n hp 0 rfl)
          have hn := T.pnum_le hp
          have hr := run_len s 0 (by omega)
          have hv0 : valA [] = 0 := rfl
          have HV := Lib.hid (valA_snoc [] n)
          have HO2 := ok255_snoc HO.out hn
          clear hp hv0
          go_wp2_with (go_at_call 55; refine (C.out _).mono ?_; rintro e w' ⟨rfl, rfl⟩)
          go_round
          case rel => exact ⟨1, _, _, by omega, by omega, fun h => absurd h (by omega), by go_num, by go_num, val_i (by rw [HV.out]; omega), rfl, HO2, H⟩
          case measure => simp [intOf]
      · have hk1 : 0 < k := by omega
        clear hk0
        rcases (by omega : s.size ≤ q ∨ q < s.size) with hin | hin
        · have H := Lib.hid (adV_none (len := s.size) (st_end HS.out hk1 hlt hin))
          have g1 : (s.size : Int) ≤ (q : Int) := by omega
          go_wp2
          go_ret2
          exact ⟨ret_t H.out, rfl⟩
        · by_cases hd : s[q].toNat = 46
          · have e1 : ((s[q].toNat : Int) == 46) = true := by rw [beq_iff_eq]; omega
            have e2 : ((s[q].toNat : Int) != 46) = false := by rw [bne, e1]; rfl
            have g1 : (q : Int) < s.size := by omega
            cases hp : T.pnum (runAt s (q + 1)) 255 with
            | none =>
              have H := Lib.hid (adV_none (len := s.size) (st_next_no HS.out hk1 hlt hin hd hp))
              have C := Lib.hid (num_no s hs (q + 1) (by omega) hp ((q : Int) + 1) (by omega))
              clear hp hd
              go_wp2_with (go_at_call 55; refine (C.out _).mono ?_; rintro e w' ⟨rfl, rfl⟩)
              go_ret2
              exact ⟨ret_t H.out, rfl⟩
            | some n =>
              have H := st_next HS.out hk1 hlt hin hd hp
              have C := Lib.hid (num_yes s hs (q + 1) (by omega) n hp ((q : Int) + 1) (by omega))
              have hn := T.pnum_le hp
              have hr := run_len s (q + 1) (by omega)
              have HV := Lib.hid (valA_snoc ns n)
              have HO2 := ok255_snoc HO.out hn
              have HL2 := Lib.hid (show (ns ++ [n]).length = k + 1 by rw [List.length_append, HL.out]; rfl)
              clear hp hd
              go_wp2_with (go_at_call 55; refine (C.out _).mono ?_; rintro e w' ⟨rfl, rfl⟩)
              go_round
              case rel => exact ⟨k + 1, _, _, by omega, by omega, fun h => absurd h (by omega), by go_num, by go_num, val_i (by rw [HV.out]; omega), HL2.out, HO2, H⟩
              case measure => simp [intOf]; omega
          · have H := Lib.hid (adV_none (len := s.size) (st_nodot HS.out hk1 hlt hin hd))
            have e1 : ((s[q].toNat : Int) == 46) = false := by rw [beq_eq_false_iff_ne]; omega
            have e2 : ((s[q].toNat : Int) != 46) = true := by rw [bne, e1]; rfl
            have g1 : (q : Int) < s.size := by omega
            clear hd
            go_wp2
            go_ret2
            exact ⟨ret_t H.out, rfl⟩
    · obtain rfl : k = 4 := by omega
      have H := Lib.hid (adV_done hq (st_done HS.out))
      clear hlen hok hst
      go_wp2
      go_ret2
      exact ⟨ret_t H.out, rfl⟩
end Go.Proofs.YtiiojkekcnmddaaDoor
