/-
  The walks of canonical, Number, Decimal and the reference's Decimal.
-/
import Derived.Test.YtiobfgcpbihbhaaGreatDoorAsB
import Derived.Test.YtiobfgcpbihbhaaGreatDoorDNum
import Derived.Test.YtiobfgcpbihbhaaGreatDoorDWd
import Derived.Test.YtiobfgcpbihbhaaGreatDoorShelf
import Derived.Lib.QuietBelow
import Derived.Lib.AppendIntMem
import Derived.Lib.LaidTab
import Derived.Laws.IdiomStrings
namespace Go.Proofs.YtiobfgcpbihbhaaGreatDoor
open Go.RowKit
set_option linter.unusedSimpArgs false
set_option linter.unusedVariables false
set_option maxHeartbeats 4000000
set_option maxRecDepth 100000

theorem byte_at (s : ByteArray) (k : Nat) (h : k < s.size) : s.data.toList[k]? = some s[k] := by
  have : k < s.data.toList.length := by simpa using h
  rw [List.getElem?_eq_getElem this]; rfl
theorem str_list (s : ByteArray) : s.toList = s.data.toList := ByteArray.toList_eq s
theorem can_any (s : ByteArray) (w : World) (hs : s.size ≤ 140737488355328) :
    Calls Tryz.prog 128 #[.string s] w fun e w' => e = .returned (.bool (T.canS s.data.toList)) ∧ w = w' := by
  have hlen : s.data.toList.length = s.size := by simp
  by_cases hd : T.Dig s.data.toList
  · have HD : Hid (∀ k (h : k < s.size), 48 ≤ s[k].toNat ∧ s[k].toNat ≤ 57) := fun k h => (T.isD_iff _).1 (hd _ (List.mem_of_getElem? (byte_at s k h)))
    have HI := Lib.hid (T.canS_iff s.data.toList)
    have HDD := Lib.hid hd
    have HSL := Lib.hid (str_list s)
    have HLEN := Lib.hid hlen
    clear hd hlen
    go_enter Tryz.func128, Tryz.ntmps128
    go_wp2
    go_loop [3, 6] (fun _ i => ∃ k : Nat, k ≤ s.size ∧ i = .int .i64 k) (fun _ i => s.size - (intOf i).toNat)
    case atStart => exact ⟨0, Nat.zero_le _, rfl⟩
    case round =>
      obtain ⟨k, hk, rfl⟩ := hrel
      by_cases hlt : k < s.size
      · have hb := HD.out k hlt
        go_wp2
        go_round
        case rel => exact ⟨k + 1, by omega, by go_num⟩
        case measure => simp [intOf]; omega
      · have hkl : k = s.size := by omega
        subst hkl
        by_cases h0 : s.data.toList = [48]
        · have HC : Hid (T.canS s.data.toList = true) := HI.out.2 ⟨HDD.out, .inl h0⟩
          have t1 : (s.toList == [48]) = true := by rw [HSL.out, h0]; rfl
          clear h0
          go_wp2
          go_ret
          exact ⟨ret_b HC.out.symm, rfl⟩
        · have t1 : (s.toList == [48]) = false := by rw [HSL.out]; simpa using h0
          by_cases h1 : s.size = 0
          · have hnil : s.data.toList = [] := List.length_eq_zero_iff.1 (by rw [HLEN.out]; exact h1)
            have HC : Hid (T.canS s.data.toList = false) := by unfold Hid; rw [hnil]; rfl
            have t2 : s.toList = [] := by rw [HSL.out]; exact hnil
            have t3 : s.toList.isEmpty = true := by rw [t2]; rfl
            clear h0 hnil
            go_wp2
            go_ret
            exact ⟨ret_b HC.out.symm, rfl⟩
          · have h2 : 0 < s.size := by omega
            have hne : s.data.toList ≠ [] := by intro h; have := HLEN.out; rw [h] at this; simp at this; omega
            have hhd : s.data.toList.head? = some s[0] := by rw [List.head?_eq_getElem?]; exact byte_at s 0 h2
            have t2 : s.toList.isEmpty = false := by rw [HSL.out]; simpa using hne
            by_cases h3 : s[0] = 48
            · have HC : Hid (T.canS s.data.toList = false) := by
                unfold Hid
                rw [Bool.eq_false_iff]
                intro h
                rcases ((HI.out.1 h).2) with h | ⟨_, h⟩
                · exact h0 h
                · exact h (by rw [hhd, h3])
              have t3 : ((s[0].toNat : Int) != 48) = false := by rw [h3]; rfl
              have t4 : (s[0].toNat : Int) = 48 := by rw [h3]; rfl
              clear h0 hne hhd h3
              go_wp2
              go_ret
              exact ⟨ret_b HC.out.symm, rfl⟩
            · have HC : Hid (T.canS s.data.toList = true) := HI.out.2 ⟨HDD.out, .inr ⟨hne, by rw [hhd]; simpa using h3⟩⟩
              have h4 : s[0].toNat ≠ 48 := fun h => h3 (UInt8.toNat_inj.1 h)
              have t3 : ((s[0].toNat : Int) != 48) = true := by simp; omega
              clear h0 hne hhd h3
              go_wp2
              go_ret
              exact ⟨ret_b HC.out.symm, rfl⟩
  · obtain ⟨j, hj, hjd⟩ : ∃ j, ∃ h : j < s.size, T.isD s[j] = false := by
      have : ∃ c ∈ s.data.toList, T.isD c = false := by
        refine Classical.byContradiction fun h => hd fun c hc => ?_
        cases hx : T.isD c with
        | true => rfl
        | false => exact absurd ⟨c, hc, hx⟩ h
      obtain ⟨c, hc, hx⟩ := this
      obtain ⟨j, hj⟩ := List.getElem?_of_mem hc
      have hlt : j < s.size := by rw [← hlen]; exact (List.getElem?_eq_some_iff.1 hj).1
      rw [byte_at s j hlt] at hj
      exact ⟨j, hlt, by rw [Option.some.inj hj]; exact hx⟩
    have HC : Hid (T.canS s.data.toList = false) := by
      unfold Hid
      rw [Bool.eq_false_iff]
      intro h
      exact hd ((T.canS_iff _).1 h).1
    have hj2 : s[j].toNat < 48 ∨ 57 < s[j].toNat := by
      have : ¬ T.isD s[j] = true := by rw [hjd]; simp
      rw [T.isD_iff] at this; omega
    have HJ : Hid (∀ k (h : k < s.size), k = j → s[k].toNat < 48 ∨ 57 < s[k].toNat) := fun k h e => by subst e; exact hj2
    clear hd hlen hjd hj2
    go_enter Tryz.func128, Tryz.ntmps128
    go_wp2
    go_loop [3, 6] (fun _ i => ∃ k : Nat, k ≤ j ∧ i = .int .i64 k) (fun _ i => s.size - (intOf i).toNat)
    case atStart => exact ⟨0, Nat.zero_le _, rfl⟩
    case round =>
      obtain ⟨k, hk, rfl⟩ := hrel
      have hlt : k < s.size := by omega
      by_cases b1 : s[k].toNat < 48
      · go_wp2
        go_ret
        exact ⟨ret_b HC.out.symm, rfl⟩
      · by_cases b2 : 57 < s[k].toNat
        · go_wp2
          go_ret
          exact ⟨ret_b HC.out.symm, rfl⟩
        · have hkj : k < j := by
            refine Nat.lt_of_le_of_ne hk fun e => ?_
            rcases HJ.out k hlt e with h | h <;> omega
          go_wp2
          go_round
          case rel => exact ⟨k + 1, by omega, by go_num⟩
          case measure => simp [intOf]; omega

theorem number_no {l : List UInt8} {most : Int} (h : T.canS l = false) : T.number l most = (0, 2) := by unfold T.number; rw [if_pos h]
theorem number_go {l : List UInt8} {most : Int} (h : T.canS l = true) : T.number l most = match T.numF most 0 l with | none => (0, 5) | some n => ((n : Int), 0) := by unfold T.number; rw [h]; rfl
theorem drop_at (s : ByteArray) (k : Nat) (h : k < s.size) : s.data.toList.drop k = s[k] :: s.data.toList.drop (k + 1) := by
  have hlt : k < s.data.toList.length := by simpa using h
  rw [List.drop_eq_getElem_cons hlt]; rfl
theorem numF_stop {most : Int} {n : Nat} {s : ByteArray} {k : Nat} (hk : k < s.size) (h48 : 48 ≤ s[k].toNat) (h : (s[k].toNat : Int) - 48 > most ∨ (n : Int) > (most - ((s[k].toNat : Int) - 48)) / 10) : T.numF most n (s.data.toList.drop k) = none := by
  rw [drop_at s k hk]
  simp only [T.numF]
  rw [if_pos]
  rw [show ((s[k].toNat - 48 : Nat) : Int) = (s[k].toNat : Int) - 48 by omega]
  exact h
theorem numF_next {most : Int} {n : Nat} {s : ByteArray} {k : Nat} (hk : k < s.size) (h48 : 48 ≤ s[k].toNat) (h : ¬ ((s[k].toNat : Int) - 48 > most ∨ (n : Int) > (most - ((s[k].toNat : Int) - 48)) / 10)) : T.numF most n (s.data.toList.drop k) = T.numF most (10 * n + (s[k].toNat - 48)) (s.data.toList.drop (k + 1)) := by
  rw [drop_at s k hk]
  simp only [T.numF]
  rw [if_neg]
  rw [show ((s[k].toNat - 48 : Nat) : Int) = (s[k].toNat : Int) - 48 by omega]
  exact h
theorem number_any (s : ByteArray) (most : Int) (w : World) (hs : s.size ≤ 140737488355328) (hm : I64 most) :
    Calls Tryz.prog 106 #[.string s, .int .i64 most] w fun e w' => e = .returned (.tuple #[.int .i64 (T.number s.data.toList most).1, .int .i64 (T.number s.data.toList most).2]) ∧ w = w' := by
  have hcan := can_any s w hs
  cases hc : T.canS s.data.toList with
  | false =>
    have HN := Lib.hid (number_no (most := most) hc)
    rw [hc] at hcan
    clear hc
    go_enter Tryz.func106, Tryz.ntmps106
    go_wp2_with (go_at_call 128; refine hcan.mono ?_; rintro e w' ⟨rfl, rfl⟩)
    go_ret2
    exact ⟨by rw [HN.out]; rfl, rfl⟩
  | true =>
    have HN := Lib.hid (number_go (most := most) hc)
    have HD : Hid (∀ k (h : k < s.size), 48 ≤ s[k].toNat ∧ s[k].toNat ≤ 57) := fun k h => (T.isD_iff _).1 (((T.canS_iff _).1 hc).1 _ (List.mem_of_getElem? (byte_at s k h)))
    rw [hc] at hcan
    clear hc
    go_enter Tryz.func106, Tryz.ntmps106
    go_wp2_with (go_at_call 128; refine hcan.mono ?_; rintro e w' ⟨rfl, rfl⟩)
    go_loop [6, 7, 8, 14] (fun n _ _ i => ∃ k n' : Nat, k ≤ s.size ∧ (n' : Int) ≤ 9223372036854775807 ∧ i = .int .i64 k ∧ n = .int .i64 n' ∧ Hid (T.numF most 0 s.data.toList = T.numF most n' (s.data.toList.drop k))) (fun _ _ _ i => s.size - (intOf i).toNat)
    case atStart => exact ⟨0, 0, Nat.zero_le _, by omega, rfl, rfl, rfl⟩
    case round =>
      obtain ⟨k, n, hk, hn, rfl, rfl, HF⟩ := hrel
      by_cases hlt : k < s.size
      · have hb := HD.out k hlt
        have hb1 := hb.1
        have hb2 := hb.2
        by_cases h1 : (s[k].toNat : Int) - 48 > most
        · have HX : Hid (T.number s.data.toList most = (0, 5)) := by unfold Hid; rw [HN.out, HF.out, numF_stop hlt hb1 (.inl h1)]
          go_wp2
          go_ret2
          exact ⟨by rw [HX.out]; rfl, rfl⟩
        · by_cases h2 : (n : Int) > (most - ((s[k].toNat : Int) - 48)) / 10
          · have HX : Hid (T.number s.data.toList most = (0, 5)) := by unfold Hid; rw [HN.out, HF.out, numF_stop hlt hb1 (.inr h2)]
            go_wp2
            go_ret2
            exact ⟨by rw [HX.out]; rfl, rfl⟩
          · have HX := Lib.hid (numF_next hlt hb1 (fun h => h.elim h1 h2))
            go_wp2
            go_round
            case rel => exact ⟨k + 1, 10 * n + (s[k].toNat - 48), by omega, by omega, by go_num, val_i (by omega), HF.out.trans HX.out⟩
            case measure => simp [intOf]; omega
      · have hkl : k = s.size := by omega
        subst hkl
        have HX : Hid (T.number s.data.toList most = ((n : Int), 0)) := by
          unfold Hid
          rw [HN.out, HF.out, List.drop_of_length_le (by simp)]; rfl
        go_wp2
        go_ret2
        exact ⟨by rw [HX.out]; rfl, rfl⟩

/-- the library's table of the powers of ten holds them -/
def Tab (w : World) : Prop := Lib.TabIs Tryz.prog w "internal/strconv.uint64pow10" .u64 Lib.pow10Tab
theorem gTab : Tryz.prog.globalNamed "internal/strconv.uint64pow10" = some 1 := by kernel_rfl
theorem tab_size {w : World} (h : Tab w) : 1 < w.heap.size := by
  have := Lib.TabIs.cell (P := Tryz.prog) h gTab 0 (by decide)
  exact World.block_lt_of_cell? _ _ this
theorem tab_below {w w' : World} (h : Tab w) (hb : Below w.heap.size w w') : Tab w' := by
  unfold Tab Lib.TabIs at h ⊢
  exact var?_below hb gTab (tab_size h) h
def bs (l : List UInt8) : ByteArray := ⟨l.toArray⟩
theorem bs_data (l : List UInt8) : (bs l).data.toList = l := by simp [bs]
theorem bs_size (l : List UInt8) : (bs l).size = l.length := by simp [bs, ByteArray.size]
theorem bs_app (l m : List UInt8) : bs l ++ bs m = bs (l ++ m) := by
  apply ByteArray.ext; simp [bs]
theorem decimal_any (n : Int) (w : World) (hn : I64 n) (hT : Tab w) :
    Calls Tryz.prog 84 #[.int .i64 n] w fun e w' => e = .returned (.string (bs (Lib.itoa n))) ∧ Below w.heap.size w w' := by
  have hi : Calls Tryz.prog 98 #[.int .i64 n] w fun e w' => e = .returned (.string (bs (Lib.itoa n))) ∧ Below w.heap.size w w' := (Tryz.strconv_Itoa n hn.1 hn.2 w hT).mono fun e w' ⟨h1, k, os, h2⟩ => ⟨h1, by rw [h2]; exact Lib.below_grow _ _ (Nat.le_refl _) k os⟩
  clear hT
  go_enter Tryz.func84, Tryz.ntmps84
  go_wp2_with (go_at_call 98; refine hi.mono ?_; rintro e w1 ⟨rfl, hb⟩)
  go_ret
  exact ⟨rfl, hb⟩
def dg (n : Nat) : List UInt8 := [UInt8.ofNat (48 + n % 10)]
theorem conv_digit (n : Nat) (W : World) : (convert 89 9 (.slice (some ⟨W.heap.size, 0, none⟩) 1 1)).run Tryz.prog (W.alloc (.cells #[.int .u8 (48 + (n : Int) % 10)] 5)) = .ok (.string (bs (dg n))) (W.alloc (.cells #[.int .u8 (48 + (n : Int) % 10)] 5)) := by
  have hd := T.dec_digit (d := n % 10) (Nat.mod_lt _ (by omega))
  exact run_convert_bytes_back (P := Tryz.prog) _ 89 9 5 ⟨W.heap.size, 0, none⟩ 1 [UInt8.ofNat (48 + n % 10)] Tryz.underlying89 Tryz.underlying5 Tryz.underlying9 (fun j hj => by
    have hj0 : j = 0 := by simpa using hj
    subst hj0
    have e : ((48 + n % 10 : Nat) : Int) = 48 + (n : Int) % 10 := by omega
    simp only [List.getElem_cons_zero, hd]
    simp [Addr.add])
theorem dec_mod (n : Nat) (h : n < 10) : Lib.decDigits n = dg n := by rw [T.dec_one n h, dg, Nat.mod_eq_of_lt h]
theorem dec_size (n : Nat) : (Lib.decDigits n).length ≤ n + 1 := by
  induction n using Nat.strongRecOn with
  | _ n ih =>
    by_cases h : n < 10
    · rw [T.dec_one n h]; simp
    · rw [T.dec_step n h]
      have := ih (n / 10) (by omega)
      simp; omega
theorem dec_size20 (k : Nat) : ∀ n, n < 10 ^ (k + 1) → (Lib.decDigits n).length ≤ k + 1 := by
  induction k with
  | zero => intro n h; rw [T.dec_one n (by simpa using h)]; simp
  | succ k ih =>
    intro n h
    by_cases h10 : n < 10
    · rw [T.dec_one n h10]; simp
    · rw [T.dec_step n h10]
      have := ih (n / 10) (by rw [Nat.pow_succ] at h; omega)
      simp; omega
theorem digits_any : ∀ (n : Nat) (w : World), n < 18446744073709551616 →
    Calls Tryz.prog 101 #[.int .u64 n] w fun e w' => e = .returned (.string (bs (Lib.decDigits n))) ∧ Below w.heap.size w w' := by
  intro n
  induction n using Nat.strongRecOn with
  | _ n ih =>
    intro w hn
    have hconv := fun W => conv_digit n W
    by_cases h : n < 10
    · have HD := Lib.hid (dec_mod n h)
      clear ih
      go_enter Tryz.func101, Tryz.ntmps101
      go_wp2
      go_ret
      exact ⟨by rw [HD.out]; rfl, (Below.refl _ _).alloc (Nat.le_refl _) _⟩
    · have HD : Hid (Lib.decDigits n = Lib.decDigits (n / 10) ++ dg n) := T.dec_step n h
      have HI := Lib.hid (fun W => ih (n / 10) (by omega) W (by omega))
      have hsz : (Lib.decDigits (n / 10)).length ≤ 20 := dec_size20 19 (n / 10) (by omega)
      have h1 : ¬ 9223372036854775807 < (bs (Lib.decDigits (n / 10))).size + 1 := by rw [bs_size]; omega
      have h2 : (bs (dg n)).size = 1 := rfl
      clear ih hsz
      go_enter Tryz.func101, Tryz.ntmps101
      go_wp2_with (go_at_call 101; refine (HI.out _).mono ?_; rintro e w1 ⟨rfl, hb⟩; have HB := Lib.hid hb; clear hb)
      go_ret
      exact ⟨by rw [HD.out, ← bs_app]; rfl, ((Below.refl _ w).alloc (Nat.le_refl _) _).trans (HB.out.mono (by simp))⟩
theorem minus_app (l : List UInt8) : (⟨#[45]⟩ : ByteArray) ++ bs l = bs (45 :: l) := by
  have : (⟨#[45]⟩ : ByteArray) = bs [45] := rfl
  rw [this, bs_app]; rfl
theorem rdecimal_any (n : Int) (w : World) (hn : I64 n) :
    Calls Tryz.prog 88 #[.int .i64 n] w fun e w' => e = .returned (.string (bs (Lib.itoa n))) ∧ Below w.heap.size w w' := by
  by_cases h : n < 0
  · obtain ⟨m, hm, hm63⟩ : ∃ m : Nat, (m : Int) = -(n + 1) ∧ m ≤ 9223372036854775807 := ⟨(-(n + 1)).toNat, by omega, by omega⟩
    have hd := digits_any (m + 1) w (by omega)
    have HI : Hid (Lib.itoa n = 45 :: Lib.decDigits (m + 1)) := by unfold Hid Lib.itoa; rw [if_pos h, show n.natAbs = m + 1 by omega]
    have hsz : (Lib.decDigits (m + 1)).length ≤ 20 := dec_size20 19 (m + 1) (by omega)
    have h1 : ¬ 9223372036854775807 < 1 + (bs (Lib.decDigits (m + 1))).size := by rw [bs_size]; omega
    have h2 : ¬ 9223372036854775807 < (bs (Lib.decDigits (m + 1))).size + 1 := by rw [bs_size]; omega
    rw [show ((m + 1 : Nat) : Int) = -(n + 1) + 1 by omega] at hd
    clear hsz hm
    go_enter Tryz.func88, Tryz.ntmps88
    go_wp2_with (go_at_call 101; refine hd.mono ?_; rintro e w1 ⟨rfl, hb⟩)
    go_ret
    exact ⟨by rw [HI.out, ← minus_app]; rfl, hb⟩
  · obtain ⟨m, rfl⟩ := Int.eq_ofNat_of_zero_le (by omega : 0 ≤ n)
    have hd := digits_any m w (by omega)
    have HI : Hid (Lib.itoa (m : Int) = Lib.decDigits m) := by unfold Hid Lib.itoa; rw [if_neg h]; simp
    go_enter Tryz.func88, Tryz.ntmps88
    go_wp2_with (go_at_call 101; refine hd.mono ?_; rintro e w1 ⟨rfl, hb⟩)
    go_ret
    exact ⟨by rw [HI.out]; rfl, hb⟩
end Go.Proofs.YtiobfgcpbihbhaaGreatDoor
