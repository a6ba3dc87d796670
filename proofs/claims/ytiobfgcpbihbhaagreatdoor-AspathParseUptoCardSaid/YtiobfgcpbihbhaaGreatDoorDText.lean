/-
  Plain facts about texts of numbers and addresses as lists of bytes, without any program.
-/
import Derived.Lib.ItoaNum
import Derived.Lib.Bytealg
set_option linter.unusedSimpArgs false
namespace Go.Proofs.YtiobfgcpbihbhaaGreatDoor.T
open Go.Lib

def isD (c : UInt8) : Bool := decide (48 ≤ c.toNat) && decide (c.toNat ≤ 57)
def valF (n : Nat) (c : UInt8) : Nat := 10 * n + (c.toNat - 48)
def valL (l : List UInt8) : Nat := l.foldl valF 0
def Dig (l : List UInt8) : Prop := ∀ c ∈ l, isD c = true
/-- the number up to a limit with the decimal text l, of at most three digits -/
def pnum (l : List UInt8) (lim : Nat) : Option Nat :=
  if 1 ≤ l.length ∧ l.length ≤ 3 ∧ ¬ (1 < l.length ∧ l.head? = some 48) ∧ l.all isD = true ∧ valL l ≤ lim then some (valL l) else none

theorem isD_iff (c : UInt8) : isD c = true ↔ 48 ≤ c.toNat ∧ c.toNat ≤ 57 := by unfold isD; simp
theorem isD_lo {c : UInt8} (h : c.toNat < 48) : isD c = false := by unfold isD; simp; omega
theorem isD_hi {c : UInt8} (h : 57 < c.toNat) : isD c = false := by unfold isD; simp; omega
theorem dig_all {l : List UInt8} : Dig l ↔ l.all isD = true := by unfold Dig; simp
theorem valL_nil : valL [] = 0 := rfl
theorem valL_snoc (l : List UInt8) (c : UInt8) : valL (l ++ [c]) = 10 * valL l + (c.toNat - 48) := by unfold valL; rw [List.foldl_append]; rfl
theorem dig_nil : Dig [] := fun _ h => by cases h
theorem dig_snoc {l : List UInt8} {c : UInt8} (h : Dig l) (hc : isD c = true) : Dig (l ++ [c]) := fun x hx => by
  rcases List.mem_append.1 hx with h1 | h1
  · exact h x h1
  · simp at h1; rw [h1]; exact hc
theorem valL_lt {l : List UInt8} (h : Dig l) : valL l < 10 ^ l.length := by
  induction hl : l.length generalizing l with
  | zero => have : l = [] := List.length_eq_zero_iff.1 hl
            subst this; simp [valL]
  | succ n ih =>
    obtain ⟨l', c, rfl⟩ : ∃ l' c, l = l' ++ [c] := ⟨l.dropLast, l.getLast (by intro h0; rw [h0] at hl; simp at hl), (List.dropLast_concat_getLast _).symm⟩
    have h1 : l'.length = n := by simpa using hl
    have := ih (l := l') (fun x hx => h x (List.mem_append_left _ hx)) h1
    have hc := (isD_iff c).1 (h c (by simp))
    rw [valL_snoc, Nat.pow_succ]; omega
theorem take_snoc (l : List UInt8) (k : Nat) (h : k < l.length) : l.take (k + 1) = l.take k ++ [l[k]] := by rw [List.take_succ_eq_append_getElem h]
theorem dig_take_lt {l : List UInt8} (h : Dig l) (h3 : l.length ≤ 3) : valL l ≤ 999 := by
  have := valL_lt h
  have h2 := Nat.pow_le_pow_right (n := 10) (by omega) h3
  omega

theorem pnum_some {l : List UInt8} {lim n : Nat} (h : pnum l lim = some n) : 1 ≤ l.length ∧ l.length ≤ 3 ∧ ¬ (1 < l.length ∧ l.head? = some 48) ∧ Dig l ∧ valL l ≤ lim ∧ n = valL l := by
  unfold pnum at h
  split at h
  · rename_i hh
    exact ⟨hh.1, hh.2.1, hh.2.2.1, dig_all.2 hh.2.2.2.1, hh.2.2.2.2, by injection h with h; exact h.symm⟩
  · cases h
theorem pnum_mk {l : List UInt8} {lim : Nat} (h1 : 1 ≤ l.length) (h2 : l.length ≤ 3) (h3 : ¬ (1 < l.length ∧ l.head? = some 48)) (h4 : Dig l) (h5 : valL l ≤ lim) : pnum l lim = some (valL l) := by
  unfold pnum; rw [if_pos ⟨h1, h2, h3, dig_all.1 h4, h5⟩]
theorem pnum_len {l : List UInt8} {lim : Nat} (h : ¬ (1 ≤ l.length ∧ l.length ≤ 3)) : pnum l lim = none := by
  unfold pnum; rw [if_neg (fun hh => h ⟨hh.1, hh.2.1⟩)]
theorem pnum_zero {l : List UInt8} {lim : Nat} (h : 1 < l.length ∧ l.head? = some 48) : pnum l lim = none := by
  unfold pnum; rw [if_neg (fun hh => hh.2.2.1 h)]
theorem pnum_dig {l : List UInt8} {lim : Nat} (h : ¬ Dig l) : pnum l lim = none := by
  unfold pnum; rw [if_neg (fun hh => h (dig_all.2 hh.2.2.2.1))]
theorem pnum_lim {l : List UInt8} {lim : Nat} (h : ¬ valL l ≤ lim) : pnum l lim = none := by
  unfold pnum; rw [if_neg (fun hh => h hh.2.2.2.2)]
theorem pnum_le {l : List UInt8} {lim n : Nat} (h : pnum l lim = some n) : n ≤ lim := by
  obtain ⟨_, _, _, _, h5, rfl⟩ := pnum_some h; exact h5
theorem pnum_digs {l : List UInt8} {lim n : Nat} (h : pnum l lim = some n) : Dig l := (pnum_some h).2.2.2.1

/- the decimal text and the number -/
theorem dec_digit {d : Nat} (h : d < 10) : (UInt8.ofNat (48 + d)).toNat = 48 + d := by
  rw [UInt8.toNat_ofNat']; omega
theorem isD_ofNat {d : Nat} (h : d < 10) : isD (UInt8.ofNat (48 + d)) = true := (isD_iff _).2 (by rw [dec_digit h]; omega)
theorem dec_facts (n : Nat) : Dig (decDigits n) ∧ valL (decDigits n) = n ∧ 1 ≤ (decDigits n).length := by
  induction n using Nat.strongRecOn with
  | _ n ih =>
    rw [decDigits]
    by_cases h : n < 10
    · rw [dif_pos h]
      refine ⟨fun c hc => ?_, ?_, by simp⟩
      · rw [List.mem_singleton.1 hc]; exact isD_ofNat h
      · show valF 0 _ = n
        unfold valF; rw [dec_digit h]; omega
    · rw [dif_neg h]
      obtain ⟨h1, h2, h3⟩ := ih (n / 10) (by omega)
      refine ⟨dig_snoc h1 (isD_ofNat (by omega)), ?_, by simp⟩
      rw [valL_snoc, h2, dec_digit (by omega)]; omega
theorem dec_head (n : Nat) (h : 10 ≤ n) : (decDigits n).head? ≠ some 48 := by
  induction n using Nat.strongRecOn with
  | _ n ih =>
    rw [decDigits, dif_neg (by omega)]
    by_cases h2 : n / 10 < 10
    · rw [decDigits, dif_pos h2]
      simp only [List.cons_append, List.nil_append, List.head?_cons]
      intro h0
      have := congrArg UInt8.toNat (Option.some.inj h0)
      rw [dec_digit h2] at this
      simp at this; omega
    · have := ih (n / 10) (by omega) (by omega)
      have hl := (dec_facts (n / 10)).2.2
      rw [List.head?_append]
      cases hd : (decDigits (n / 10)).head? with
      | none => simp at hd; rw [hd] at hl; simp at hl
      | some c => rw [hd] at this; simpa using this
theorem dec_len1 {n : Nat} (h : n < 10) : (decDigits n).length = 1 := by rw [decDigits, dif_pos h]; rfl
theorem dec_len (n : Nat) (h : n ≤ 999) : (decDigits n).length ≤ 3 := by
  rw [decDigits]
  split
  · simp
  · rename_i h1
    rw [decDigits]
    split
    · simp
    · rename_i h2
      rw [decDigits, dif_pos (by omega)]; simp
/-- the text of a number is read as that number -/
theorem pnum_dec (n lim : Nat) (h : n ≤ lim) (h9 : n ≤ 999) : pnum (decDigits n) lim = some n := by
  obtain ⟨h1, h2, h3⟩ := dec_facts n
  have := pnum_mk (lim := lim) h3 (dec_len n h9) (fun ⟨ha, hb⟩ => by
    by_cases hn : n < 10
    · have := dec_len1 hn; omega
    · exact dec_head n (by omega) hb) h1 (by rw [h2]; exact h)
  rw [h2] at this; exact this
theorem ofNat_val {c : UInt8} (h : isD c = true) : UInt8.ofNat (48 + (c.toNat - 48)) = c := by
  have := (isD_iff c).1 h
  rw [show 48 + (c.toNat - 48) = c.toNat by omega]; simp
/-- a text that is read as a number is that number's text -/
theorem dec_of_dig : ∀ (k : Nat) (l : List UInt8), l.length = k → 1 ≤ k → Dig l → ¬ (1 < l.length ∧ l.head? = some 48) → decDigits (valL l) = l := by
  intro k
  induction k with
  | zero => intro l _ h; omega
  | succ k ih =>
    intro l hl _ hd hz
    obtain ⟨l', c, rfl⟩ : ∃ l' c, l = l' ++ [c] := ⟨l.dropLast, l.getLast (by intro h0; rw [h0] at hl; simp at hl), (List.dropLast_concat_getLast _).symm⟩
    have h1 : l'.length = k := by simpa using hl
    have hc : isD c = true := hd c (by simp)
    have hc' := (isD_iff c).1 hc
    have hd' : Dig l' := fun x hx => hd x (List.mem_append_left _ hx)
    rw [valL_snoc]
    cases k with
    | zero =>
      have : l' = [] := List.length_eq_zero_iff.1 h1
      subst this
      rw [decDigits, dif_pos (by simp [valL]; omega)]
      simp only [valL_nil, Nat.mul_zero, Nat.zero_add, List.nil_append]
      rw [ofNat_val hc]
    | succ k =>
      have hne : l'.head? ≠ some 48 := fun h0 => hz ⟨by simp; omega, by rw [List.head?_append, h0]; rfl⟩
      have e := ih l' h1 (by omega) hd' (fun h => hne h.2)
      have hpos : 1 ≤ valL l' := by
        rcases Nat.eq_zero_or_pos (valL l') with h0 | h0
        · rw [h0] at e
          rw [decDigits, dif_pos (by omega)] at e
          rw [← e] at hne
          exact absurd rfl hne
        · exact h0
      rw [decDigits, dif_neg (by omega), show (10 * valL l' + (c.toNat - 48)) / 10 = valL l' by omega, show (10 * valL l' + (c.toNat - 48)) % 10 = c.toNat - 48 by omega, e, ofNat_val hc]
theorem dec_pnum {l : List UInt8} {lim n : Nat} (h : pnum l lim = some n) : decDigits n = l := by
  obtain ⟨h1, _, h3, h4, _, rfl⟩ := pnum_some h
  exact dec_of_dig l.length l rfl h1 h4 h3

/- words between dots -/
def wordC (c : UInt8) (l : List UInt8) : List UInt8 := l.takeWhile (· != c)
def restC (c : UInt8) (l : List UInt8) : List UInt8 := (l.dropWhile (· != c)).drop 1
theorem split_word (c : UInt8) (l : List UInt8) : (l = wordC c l ∧ restC c l = [] ∧ c ∉ l) ∨ (l = wordC c l ++ c :: restC c l ∧ c ∉ wordC c l) := by
  unfold wordC restC
  induction l with
  | nil => exact .inl ⟨rfl, rfl, by simp⟩
  | cons x l ih =>
    by_cases hx : x = c
    · subst hx; right; simp
    · have hb : (x != c) = true := by simpa using hx
      rw [List.takeWhile_cons_of_pos (p := (· != c)) hb, List.dropWhile_cons_of_pos (p := (· != c)) hb]
      rcases ih with ⟨h1, h2, h3⟩ | ⟨h1, h2⟩
      · left; exact ⟨by rw [← h1], h2, by simp; exact ⟨fun e => hx e.symm, h3⟩⟩
      · right; exact ⟨by rw [List.cons_append, ← h1], by simp; exact ⟨fun e => hx e.symm, h2⟩⟩
theorem word_of {c : UInt8} {p r : List UInt8} (h : c ∉ p) : wordC c (p ++ c :: r) = p ∧ restC c (p ++ c :: r) = r := by
  unfold wordC restC
  induction p with
  | nil => simp [List.takeWhile, List.dropWhile]
  | cons x p ih =>
    simp only [List.mem_cons, not_or] at h
    have hb : (x != c) = true := by simpa using fun e => h.1 e.symm
    rw [List.cons_append, List.takeWhile_cons_of_pos (p := (· != c)) hb, List.dropWhile_cons_of_pos (p := (· != c)) hb]
    exact ⟨by rw [(ih h.2).1], (ih h.2).2⟩
theorem word_none {c : UInt8} {l : List UInt8} (h : c ∉ l) : wordC c l = l ∧ restC c l = [] := by
  rcases split_word c l with ⟨h1, h2, _⟩ | ⟨h1, _⟩
  · exact ⟨h1.symm, h2⟩
  · exact absurd (by rw [h1]; simp) h
theorem dig_no46 {l : List UInt8} (h : Dig l) : (46 : UInt8) ∉ l := fun hh => by have := h _ hh; revert this; decide
theorem dig_no47 {l : List UInt8} (h : Dig l) : (47 : UInt8) ∉ l := fun hh => by have := h _ hh; revert this; decide
def runD (l : List UInt8) : List UInt8 := l.takeWhile isD
theorem runD_dig (l : List UInt8) : Dig (runD l) := fun c hc => by
  unfold runD at hc
  induction l with
  | nil => simp at hc
  | cons x l ih =>
    by_cases hx : isD x = true
    · rw [List.takeWhile_cons_of_pos hx] at hc
      rcases List.mem_cons.1 hc with h | h
      · rw [h]; exact hx
      · exact ih h
    · rw [List.takeWhile_cons_of_neg hx] at hc; cases hc
theorem runD_split (l : List UInt8) : l = runD l ++ l.drop (runD l).length := by
  unfold runD
  induction l with
  | nil => rfl
  | cons x l ih =>
    by_cases hx : isD x = true
    · rw [List.takeWhile_cons_of_pos hx]; simp only [List.length_cons, List.drop_succ_cons, List.cons_append]; rw [← ih]
    · rw [List.takeWhile_cons_of_neg hx]; rfl
theorem runD_app {d r : List UInt8} (h : Dig d) (hr : ∀ c t, r = c :: t → isD c = false) : runD (d ++ r) = d := by
  unfold runD
  induction d with
  | nil =>
    cases r with
    | nil => rfl
    | cons c t => rw [List.nil_append, List.takeWhile_cons_of_neg (by rw [hr c t rfl]; simp)]
  | cons x d ih =>
    rw [List.cons_append, List.takeWhile_cons_of_pos (h x (by simp)), ih (fun y hy => h y (by simp [hy]))]
theorem runD_all {d : List UInt8} (h : Dig d) : runD d = d := by have := runD_app (r := []) h (fun _ _ e => by cases e); simpa using this

/-- reading words between dots one by one -/
def codeN : Nat → List UInt8 → Option (List Nat)
  | 0, _ => some []
  | k + 1, l => match pnum (wordC 46 l) 255 with
    | none => none
    | some n => (codeN k (restC 46 l)).map (n :: ·)
def afterDot : List UInt8 → Option (List UInt8)
  | c :: t => if c = 46 then some t else none
  | [] => none
/-- reading numbers greedily, with a dot ahead of each but the first -/
def refN : Nat → Bool → List UInt8 → Option (List Nat × List UInt8)
  | 0, _, l => some ([], l)
  | k + 1, first, l => match (if first then some l else afterDot l) with
    | none => none
    | some l' => match pnum (runD l') 255 with
      | none => none
      | some n => (refN k false (l'.drop (runD l').length)).map (fun x => (n :: x.1, x.2))
theorem refN_false (k : Nat) (t : List UInt8) : refN (k + 1) false (46 :: t) = refN (k + 1) true t := by
  simp only [refN, afterDot, if_true, Bool.false_eq_true, if_false]
theorem count_app (p r : List UInt8) (c : UInt8) (h : c ∉ p) : countByte (p ++ c :: r) c = countByte r c + 1 := by
  unfold countByte
  rw [List.count_append, List.count_cons_self, List.count_eq_zero_of_not_mem h]; omega
theorem code_ref : ∀ (k : Nat) (l : List UInt8) (ns : List Nat), (codeN (k + 1) l = some ns ∧ countByte l 46 = k) ↔ refN (k + 1) true l = some (ns, []) := by
  intro k
  induction k with
  | zero =>
    intro l ns
    simp only [codeN, refN, if_true, Option.map_some]
    constructor
    · rintro ⟨h, hc⟩
      have hn : (46 : UInt8) ∉ l := by unfold countByte at hc; exact List.count_eq_zero.1 hc
      rw [(word_none hn).1] at h
      cases hp : pnum l 255 with
      | none => rw [hp] at h; cases h
      | some n =>
        rw [hp] at h
        rw [runD_all (pnum_digs hp), hp]
        simp at h ⊢
        exact h
    · intro h
      cases hp : pnum (runD l) 255 with
      | none => rw [hp] at h; cases h
      | some n =>
        rw [hp] at h
        simp at h
        have hl : runD l = l := by
          have h1 := runD_split l
          rw [List.drop_eq_nil_of_le h.2, List.append_nil] at h1; exact h1.symm
        rw [hl] at hp
        have hn := dig_no46 (pnum_digs hp)
        rw [(word_none hn).1, hp]
        exact ⟨by simpa using h.1, by unfold countByte; exact List.count_eq_zero.2 hn⟩
  | succ k ih =>
    intro l ns
    constructor
    · rintro ⟨h, hc⟩
      rcases split_word 46 l with ⟨_, _, h3⟩ | ⟨h1, h2⟩
      · unfold countByte at hc; rw [List.count_eq_zero_of_not_mem h3] at hc; omega
      · rw [codeN] at h
        cases hp : pnum (wordC 46 l) 255 with
        | none => rw [hp] at h; cases h
        | some n =>
          rw [hp] at h
          obtain ⟨ms, hm, hns⟩ := Option.map_eq_some_iff.1 h
          have hd := pnum_digs hp
          have hr : runD l = wordC 46 l := by
            rw [h1]
            rw [(word_of h2).1]
            exact runD_app hd (fun c t e => by injection e with e1 e2; rw [← e1]; decide)
          have hcr : countByte (restC 46 l) 46 = k := by
            have := count_app (wordC 46 l) (restC 46 l) 46 h2
            rw [← h1, hc] at this; omega
          have hi := (ih (restC 46 l) ms).1 ⟨hm, hcr⟩
          have hdrop : l.drop (runD l).length = 46 :: restC 46 l := by
            rw [hr]; have := congrArg (List.drop (wordC 46 l).length) h1
            rw [List.drop_left] at this; exact this
          rw [refN]
          simp only [if_true]
          rw [hdrop, hr, hp]
          simp only
          rw [refN_false, hi]
          simp [hns]
    · intro h
      rw [refN] at h
      simp only [if_true] at h
      cases hp : pnum (runD l) 255 with
      | none => rw [hp] at h; cases h
      | some n =>
        rw [hp] at h
        obtain ⟨⟨ms, rr⟩, hm, hns⟩ := Option.map_eq_some_iff.1 h
        have hd := pnum_digs hp
        have hsp := runD_split l
        cases hdr : l.drop (runD l).length with
        | nil => rw [hdr] at hm; rw [refN] at hm; simp [afterDot] at hm
        | cons c t =>
          rw [hdr] at hm hsp
          by_cases hc : c = 46
          · subst hc
            rw [refN_false] at hm
            simp at hns
            obtain ⟨rfl, rfl⟩ := hns
            have hi := (ih t ms).2 hm
            have hw := word_of (r := t) (dig_no46 hd)
            rw [← hsp] at hw
            rw [codeN, hw.1, hp, hw.2, hi.1]
            refine ⟨rfl, ?_⟩
            rw [hsp, count_app _ _ _ (dig_no46 hd), hi.2]
          · rw [refN] at hm; simp [afterDot, hc] at hm
end Go.Proofs.YtiobfgcpbihbhaaGreatDoor.T
