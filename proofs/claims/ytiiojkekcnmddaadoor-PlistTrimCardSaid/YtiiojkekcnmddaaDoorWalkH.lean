/-
  The walk of the reference's reader of a number at an index.
-/
import Derived.Test.YtiiojkekcnmddaaDoorWalkG
import Derived.Deep.DeepCutAuto
import Derived.Deep.CutBlock
namespace Go.Proofs.YtiiojkekcnmddaaDoor
open Go.RowKit
set_option linter.unusedSimpArgs false
set_option linter.unusedVariables false
set_option maxHeartbeats 2000000

/-- what the reference's number hands back -/
def rnV (o : Option Nat) (p : Int) : Value := match o with
  | some n => .tuple #[.int .i64 n, .int .i64 p]
  | none => .tuple #[.int .i64 0, .int .i64 (-1)]
theorem rnV_some {o : Option Nat} {n : Nat} (p : Int) (h : o = some n) : rnV o p = .tuple #[.int .i64 n, .int .i64 p] := by rw [h]; rfl
theorem rnV_none {o : Option Nat} (p : Int) (h : o = none) : rnV o p = .tuple #[.int .i64 0, .int .i64 (-1)] := by rw [h]; rfl
def runAt (s : ByteArray) (i : Nat) : List UInt8 := T.runD (s.data.toList.drop i)
theorem run_len (s : ByteArray) (i : Nat) (h : i ≤ s.size) : i + (runAt s i).length ≤ s.size := by
  have := T.runD_split (s.data.toList.drop i)
  have h2 := congrArg List.length this
  rw [List.length_append, List.length_drop, list_len] at h2
  unfold runAt; omega
theorem run_get (s : ByteArray) (i k : Nat) (h : k < (runAt s i).length) (hs : i + k < s.size) : (runAt s i)[k] = s[i + k] := by
  have h1 := T.runD_split (s.data.toList.drop i)
  have h2 : (s.data.toList.drop i)[k]? = (runAt s i)[k]? := by
    conv => lhs; rw [h1]
    exact List.getElem?_append_left h
  rw [List.getElem?_drop, List.getElem?_eq_getElem (by simpa using hs), List.getElem?_eq_getElem h] at h2
  rw [← list_get s (i + k) hs]
  exact (Option.some.inj h2).symm
theorem run_digit (s : ByteArray) (i k : Nat) (h : k < (runAt s i).length) (hs : i + k < s.size) : 48 ≤ s[i + k].toNat ∧ s[i + k].toNat ≤ 57 := by
  rw [← T.isD_iff, ← run_get s i k h hs]
  exact T.runD_dig _ _ (List.getElem_mem _)
theorem takeWhile_stop {p : UInt8 → Bool} : ∀ (l : List UInt8) (h : (l.takeWhile p).length < l.length), p (l[(l.takeWhile p).length]) = false
  | [], h => by simp at h
  | x :: l, h => by
    by_cases hx : p x = true
    · have e : (x :: l).takeWhile p = x :: l.takeWhile p := List.takeWhile_cons_of_pos hx
      have := takeWhile_stop (p := p) l (by rw [e] at h; simpa using h)
      simp only [e, List.length_cons, List.getElem_cons_succ]; exact this
    · have e : (x :: l).takeWhile p = [] := List.takeWhile_cons_of_neg hx
      simp only [e, List.length_nil, List.getElem_cons_zero]; simpa using hx
theorem run_stop (s : ByteArray) (i : Nat) (hs : i + (runAt s i).length < s.size) : s[i + (runAt s i).length].toNat < 48 ∨ 57 < s[i + (runAt s i).length].toNat := by
  have h := takeWhile_stop (p := T.isD) (s.data.toList.drop i) (by
    show (runAt s i).length < _
    rw [List.length_drop, list_len]; omega)
  rw [List.getElem_drop] at h
  have h2 : T.isD s[i + (runAt s i).length] = false := by
    rw [← list_get s _ hs]; exact h
  by_cases hd : 48 ≤ s[i + (runAt s i).length].toNat ∧ s[i + (runAt s i).length].toNat ≤ 57
  · rw [(T.isD_iff _).2 hd] at h2; cases h2
  · omega
theorem run_val (s : ByteArray) (i k : Nat) (h : k ≤ 4) : T.valL ((runAt s i).take k) ≤ 9999 := by
  have hd : T.Dig ((runAt s i).take k) := fun c hc => T.runD_dig _ c (List.mem_of_mem_take hc)
  have h1 := T.valL_lt hd
  have h2 := Nat.pow_le_pow_right (n := 10) (by omega) (show ((runAt s i).take k).length ≤ 4 by rw [List.length_take]; omega)
  omega
theorem run_val_succ (s : ByteArray) (i k : Nat) (h : k < (runAt s i).length) (hs : i + k < s.size) : T.valL ((runAt s i).take (k + 1)) = 10 * T.valL ((runAt s i).take k) + (s[i + k].toNat - 48) := by
  rw [T.take_snoc _ k h, T.valL_snoc, run_get s i k h hs]
theorem run_head (s : ByteArray) (i : Nat) (h : 0 < (runAt s i).length) (hs : i < s.size) : (runAt s i).head? = some s[i] := by
  rw [List.head?_eq_getElem?, List.getElem?_eq_getElem h, run_get s i 0 h hs]; rfl

/-- the loop's end: where the reading of digits stopped -/
def Stops (s : ByteArray) (i k : Nat) : Prop := k ≤ (runAt s i).length ∧ (k = 4 ∨ (k < 4 ∧ k = (runAt s i).length))
theorem stops_none0 {s : ByteArray} {i k m : Nat} (h : Stops s i k) (h0 : k = 0 ∨ k = 4) : T.pnum (runAt s i) m = none := by
  refine T.pnum_len ?_
  rcases h0 with rfl | rfl
  · rcases h.2 with h1 | h1 <;> omega
  · have := h.1; omega
theorem stops_lim {s : ByteArray} {i k m : Nat} (h : Stops s i k) (h1 : k ≠ 4) (h2 : m < T.valL ((runAt s i).take k)) : T.pnum (runAt s i) m = none := by
  have hk : k = (runAt s i).length := by rcases h.2 with h3 | h3 <;> omega
  refine T.pnum_lim ?_
  rw [List.take_of_length_le (by omega)] at h2; omega
theorem stops_zero {s : ByteArray} {i k m : Nat} (h : Stops s i k) (h1 : k ≠ 4) (h2 : 1 < k) (hs : i < s.size) (hz : s[i].toNat = 48) : T.pnum (runAt s i) m = none := by
  have hk : k = (runAt s i).length := by rcases h.2 with h3 | h3 <;> omega
  refine T.pnum_zero ⟨by omega, ?_⟩
  rw [run_head s i (by omega) hs]; congr 1; exact UInt8.toNat_inj.1 hz
theorem stops_some {s : ByteArray} {i k m : Nat} (h : Stops s i k) (h0 : k ≠ 0) (h1 : k ≠ 4) (h2 : T.valL ((runAt s i).take k) ≤ m) (hs : i < s.size) (hz : k = 1 ∨ s[i].toNat ≠ 48) :
    T.pnum (runAt s i) m = some (T.valL ((runAt s i).take k)) ∧ k = (runAt s i).length := by
  have hk : k = (runAt s i).length := by rcases h.2 with h3 | h3 <;> omega
  have hf : (runAt s i).take k = runAt s i := List.take_of_length_le (by omega)
  rw [hf] at h2 ⊢
  refine ⟨T.pnum_mk (by omega) (by rcases h.2 with h3 | h3 <;> omega) (fun ⟨ha, hb⟩ => ?_) (T.runD_dig _) h2, hk⟩
  rw [run_head s i (by omega) hs] at hb
  rcases hz with hz | hz
  · omega
  · have := Option.some.inj hb; rw [this] at hz; exact hz rfl

theorem number_any (s : ByteArray) (hs : s.size ≤ 140737488355328) (i : Nat) (hi : i ≤ s.size) (m : Nat) (hm : m ≤ 255) (w : World) :
    Calls Tryd.prog 55 #[.string s, .int .i64 i, .int .i64 m] w fun e w' => e = .returned (rnV (T.pnum (runAt s i) m) ((i : Int) + (runAt s i).length)) ∧ w = w' := by
  have hr := run_len s i hi
  go_enter Tryd.func55, Tryd.ntmps55
  go_upto_block 0 with fail
  go_cut [8, 9] (fun n t wx => ∃ k : Nat, Stops s i k ∧ t = .int .i64 ((i : Int) + k) ∧ n = .int .i64 (T.valL ((runAt s i).take k) : Nat) ∧ w = wx)
  case first =>
    go_wp2
    go_loop [8, 9] (fun n t => ∃ k : Nat, k ≤ (runAt s i).length ∧ k ≤ 4 ∧ t = .int .i64 ((i : Int) + k) ∧ n = .int .i64 (T.valL ((runAt s i).take k) : Nat)) (fun _ t => i + 4 - (intOf t).toNat)
    case atStart => exact ⟨0, by omega, by omega, by go_num, by simp [T.valL_nil]⟩
    case round =>
      obtain ⟨k, hk, hk4, rfl, rfl⟩ := hrel
      have hv := run_val s i k hk4
      by_cases hgo : k < (runAt s i).length ∧ k < 4
      · obtain ⟨hk1, hk2⟩ := hgo
        have hin : i + k < s.size := by omega
        have hd := run_digit s i k hk1 hin
        have hs2 := Lib.hid (run_val_succ s i k hk1 hin)
        have d1 : decide ((48 : Int) ≤ (s[i + k].toNat : Int)) = true := by simp; omega
        have d2 : decide ((s[i + k].toNat : Int) ≤ 57) = true := by simp; omega
        have g1 : (48 : Int) ≤ (s[i + k].toNat : Int) := by omega
        have g2 : (s[i + k].toNat : Int) ≤ 57 := by omega
        have g3 : decide (i + k < s.size) = true := by simpa using hin
        clear hd
        go_wp2
        go_round
        case rel => exact ⟨k + 1, by omega, by omega, by go_num, val_i (by rw [hs2.out]; omega)⟩
        case measure => simp [intOf]; omega
      · have hst : Stops s i k := ⟨hk, by omega⟩
        have hst2 := Lib.hid hst
        rcases (by omega : i + k = s.size ∨ i + k < s.size) with hin | hin
        · have g3 : ¬ ((i : Int) + k < s.size) := by omega
          clear hgo hin
          go_wp2
          go_meet
          case rel => exact ⟨k, hst2.out, rfl, rfl, rfl⟩
        · by_cases hk4' : k = 4
          · subst hk4'
            have g3 : (i : Int) + 4 < s.size := by omega
            clear hgo hin
            go_wp2
            all_goals (go_meet; case rel => exact ⟨4, hst2.out, rfl, rfl, rfl⟩)
          · have hke : k = (runAt s i).length := by omega
            subst hke
            rcases run_stop s i hin with h | h
            · have d1 : decide ((48 : Int) ≤ (s[i + (runAt s i).length].toNat : Int)) = false := by simp; omega
              have g1 : (s[i + (runAt s i).length].toNat : Int) < 48 := by omega
              have g3 : (i : Int) + (runAt s i).length < s.size := by omega
              clear hgo h
              go_wp2
              all_goals (go_meet; case rel => exact ⟨_, hst2.out, rfl, val_i (by rw [List.take_length]), rfl⟩)
            · have d1 : decide ((48 : Int) ≤ (s[i + (runAt s i).length].toNat : Int)) = true := by simp; omega
              have d2 : decide ((s[i + (runAt s i).length].toNat : Int) ≤ 57) = false := by simp; omega
              have g1 : (57 : Int) < (s[i + (runAt s i).length].toNat : Int) := by omega
              have g3 : (i : Int) + (runAt s i).length < s.size := by omega
              clear hgo h
              go_wp2
              all_goals (go_meet; case rel => exact ⟨_, hst2.out, rfl, val_i (by rw [List.take_length]), rfl⟩)
  case rest =>
    obtain ⟨k, hst, rfl, rfl, rfl⟩ := hcut
    have hst2 := Lib.hid hst
    have hk4 : k ≤ 4 := by rcases hst.2 with h | h <;> omega
    have hkr := hst.1
    have hv := run_val s i k hk4
    clear hst
    by_cases h0 : k = 0
    · have H := Lib.hid (rnV_none ((i : Int) + (runAt s i).length) (stops_none0 (m := m) hst2.out (.inl h0)))
      subst h0
      go_wp2
      all_goals (go_ret2; exact ⟨ret_t H.out.symm, rfl⟩)
    · by_cases h4 : k = 4
      · have H := Lib.hid (rnV_none ((i : Int) + (runAt s i).length) (stops_none0 (m := m) hst2.out (.inr h4)))
        subst h4
        go_wp2
        all_goals (go_ret2; exact ⟨ret_t H.out.symm, rfl⟩)
      · have hk1 : 1 ≤ k := by omega
        have hk3 : k ≤ 3 := by omega
        have hin : i < s.size := by omega
        by_cases hml : m < T.valL ((runAt s i).take k)
        · have H := Lib.hid (rnV_none ((i : Int) + (runAt s i).length) (stops_lim (m := m) hst2.out h4 hml))
          have d1 : decide (m < T.valL ((runAt s i).take k)) = true := by simpa using hml
          clear h0 h4
          go_wp2
          all_goals (go_ret2; exact ⟨ret_t H.out.symm, rfl⟩)
        · have d1 : decide (m < T.valL ((runAt s i).take k)) = false := by simpa using hml
          have hml2 : T.valL ((runAt s i).take k) ≤ m := by omega
          by_cases hone : k = 1
          · obtain ⟨hp, hl⟩ := stops_some hst2.out h0 h4 hml2 hin (.inl hone)
            have H := Lib.hid (show Value.tuple #[.int .i64 (T.valL ((runAt s i).take k) : Nat), .int .i64 ((i : Int) + k)] = rnV (T.pnum (runAt s i) m) ((i : Int) + (runAt s i).length) by rw [hp, ← hl]; rfl)
            clear h0 h4 hp hl hkr hml
            subst hone
            have e2 : ((i : Int) + 1 == (i : Int)) = false := by rw [beq_eq_false_iff_ne]; omega
            have e3 : ((i : Int) + 1 == (i : Int) + 4) = false := by rw [beq_eq_false_iff_ne]; omega
            go_wp2
            all_goals (go_ret2; exact ⟨ret_t H.out, rfl⟩)
          · have hgt : 1 < k := by omega
            by_cases hz : s[i].toNat = 48
            · have H := Lib.hid (rnV_none ((i : Int) + (runAt s i).length) (stops_zero (m := m) hst2.out h4 hgt hin hz))
              have e1 : ((s[i].toNat : Int) == 48) = true := by simp; omega
              clear h0 h4 hz hml hone
              go_wp2
              all_goals (go_ret2; exact ⟨ret_t H.out.symm, rfl⟩)
            · obtain ⟨hp, hl⟩ := stops_some hst2.out h0 h4 hml2 hin (.inr hz)
              have H := Lib.hid (show Value.tuple #[.int .i64 (T.valL ((runAt s i).take k) : Nat), .int .i64 ((i : Int) + k)] = rnV (T.pnum (runAt s i) m) ((i : Int) + (runAt s i).length) by rw [hp, ← hl]; rfl)
              have e1 : ((s[i].toNat : Int) == 48) = false := by simp; omega
              have e2 : ((i : Int) + k == (i : Int)) = false := by simp; omega
              have e3 : ((i : Int) + k == (i : Int) + 4) = false := by simp; omega
              clear h0 h4 hp hl hkr hz hml hone
              go_wp2
              all_goals (go_ret2; exact ⟨ret_t H.out, rfl⟩)
end Go.Proofs.YtiiojkekcnmddaaDoor
