/-
  Plain facts about texts of numbers and addresses as lists of bytes, without any program. Plain facts of canonical numbers with a greatest value. Mathematics of communities: their texts; lists as ascending lists of sets. Mathematics of the reference's selection of ascending elements. The examples of the chapter on communities, as mathematics.
-/
import Derived.Lib.ItoaNum
import Derived.Lib.Bytealg
set_option linter.unusedSimpArgs false
namespace Go.Proofs.YtaniiennfogjaaaDoor.T
open Go.Lib

def isD (c : UInt8) : Bool := decide (48 ≤ c.toNat) && decide (c.toNat ≤ 57)
def valF (n : Nat) (c : UInt8) : Nat := 10 * n + (c.toNat - 48)
def valL (l : List UInt8) : Nat := l.foldl valF 0
def Dig (l : List UInt8) : Prop := ∀ c ∈ l, isD c = true
/-- the number up to a limit with the decimal text l, of at most three digits -/
def pnum (l : List UInt8) (lim : Nat) : Option Nat :=
  if 1 ≤ l.length ∧ l.length ≤ 3 ∧ ¬ (1 < l.length ∧ l.head? = some 48) ∧ l.all isD = true ∧ valL l ≤ lim then some (valL l) else none

theorem isD_iff (c : UInt8) : isD c = true ↔ 48 ≤ c.toNat ∧ c.toNat ≤ 57 := by unfold isD; simp
theorem isD_lo {c : UInt8} (h : c.toNat < 48) : isD c = false := by unfold isD; simp; omega
theorem isD_hi {c : UInt8} (h : 57 < c.toNat) : isD c = false := by unfold isD; simp; omega
theorem dig_all {l : List UInt8} : Dig l ↔ l.all isD = true := by unfold Dig; simp
theorem valL_nil : valL [] = 0 := rfl
theorem valL_snoc (l : List UInt8) (c : UInt8) : valL (l ++ [c]) = 10 * valL l + (c.toNat - 48) := by unfold valL; rw [List.foldl_append]; rfl
theorem dig_nil : Dig [] := fun _ h => by cases h
theorem dig_snoc {l : List UInt8} {c : UInt8} (h : Dig l) (hc : isD c = true) : Dig (l ++ [c]) := fun x hx => by
  rcases List.mem_append.1 hx with h1 | h1
  · exact h x h1
  · simp at h1; rw [h1]; exact hc
theorem valL_lt {l : List UInt8} (h : Dig l) : valL l < 10 ^ l.length := by
  induction hl : l.length generalizing l with
  | zero => have : l = [] := List.length_eq_zero_iff.1 hl
            subst this; simp [valL]
  | succ n ih =>
    obtain ⟨l', c, rfl⟩ : ∃ l' c, l = l' ++ [c] := ⟨l.dropLast, l.getLast (by intro h0; rw [h0] at hl; simp at hl), (List.dropLast_concat_getLast _).symm⟩
    have h1 : l'.length = n := by simpa using hl
    have := ih (l := l') (fun x hx => h x (List.mem_append_left _ hx)) h1
    have hc := (isD_iff c).1 (h c (by simp))
    rw [valL_snoc, Nat.pow_succ]; omega
theorem take_snoc (l : List UInt8) (k : Nat) (h : k < l.length) : l.take (k + 1) = l.take k ++ [l[k]] := by rw [List.take_succ_eq_append_getElem h]
theorem dig_take_lt {l : List UInt8} (h : Dig l) (h3 : l.length ≤ 3) : valL l ≤ 999 := by
  have := valL_lt h
  have h2 := Nat.pow_le_pow_right (n := 10) (by omega) h3
  omega

theorem pnum_some {l : List UInt8} {lim n : Nat} (h : pnum l lim = some n) : 1 ≤ l.length ∧ l.length ≤ 3 ∧ ¬ (1 < l.length ∧ l.head? = some 48) ∧ Dig l ∧ valL l ≤ lim ∧ n = valL l := by
  unfold pnum at h
  split at h
  · rename_i hh
    exact ⟨hh.1, hh.2.1, hh.2.2.1, dig_all.2 hh.2.2.2.1, hh.2.2.2.2, by injection h with h; exact h.symm⟩
  · cases h
theorem pnum_mk {l : List UInt8} {lim : Nat} (h1 : 1 ≤ l.length) (h2 : l.length ≤ 3) (h3 : ¬ (1 < l.length ∧ l.head? = some 48)) (h4 : Dig l) (h5 : valL l ≤ lim) : pnum l lim = some (valL l) := by
  unfold pnum; rw [if_pos ⟨h1, h2, h3, dig_all.1 h4, h5⟩]
theorem pnum_len {l : List UInt8} {lim : Nat} (h : ¬ (1 ≤ l.length ∧ l.length ≤ 3)) : pnum l lim = none := by
  unfold pnum; rw [if_neg (fun hh => h ⟨hh.1, hh.2.1⟩)]
theorem pnum_zero {l : List UInt8} {lim : Nat} (h : 1 < l.length ∧ l.head? = some 48) : pnum l lim = none := by
  unfold pnum; rw [if_neg (fun hh => hh.2.2.1 h)]
theorem pnum_dig {l : List UInt8} {lim : Nat} (h : ¬ Dig l) : pnum l lim = none := by
  unfold pnum; rw [if_neg (fun hh => h (dig_all.2 hh.2.2.2.1))]
theorem pnum_lim {l : List UInt8} {lim : Nat} (h : ¬ valL l ≤ lim) : pnum l lim = none := by
  unfold pnum; rw [if_neg (fun hh => h hh.2.2.2.2)]
theorem pnum_le {l : List UInt8} {lim n : Nat} (h : pnum l lim = some n) : n ≤ lim := by
  obtain ⟨_, _, _, _, h5, rfl⟩ := pnum_some h; exact h5
theorem pnum_digs {l : List UInt8} {lim n : Nat} (h : pnum l lim = some n) : Dig l := (pnum_some h).2.2.2.1

/- the decimal text and the number -/
theorem dec_digit {d : Nat} (h : d < 10) : (UInt8.ofNat (48 + d)).toNat = 48 + d := by
  rw [UInt8.toNat_ofNat']; omega
theorem isD_ofNat {d : Nat} (h : d < 10) : isD (UInt8.ofNat (48 + d)) = true := (isD_iff _).2 (by rw [dec_digit h]; omega)
theorem dec_facts (n : Nat) : Dig (decDigits n) ∧ valL (decDigits n) = n ∧ 1 ≤ (decDigits n).length := by
  induction n using Nat.strongRecOn with
  | _ n ih =>
    rw [decDigits]
    by_cases h : n < 10
    · rw [dif_pos h]
      refine ⟨fun c hc => ?_, ?_, by simp⟩
      · rw [List.mem_singleton.1 hc]; exact isD_ofNat h
      · show valF 0 _ = n
        unfold valF; rw [dec_digit h]; omega
    · rw [dif_neg h]
      obtain ⟨h1, h2, h3⟩ := ih (n / 10) (by omega)
      refine ⟨dig_snoc h1 (isD_ofNat (by omega)), ?_, by simp⟩
      rw [valL_snoc, h2, dec_digit (by omega)]; omega
theorem dec_head (n : Nat) (h : 10 ≤ n) : (decDigits n).head? ≠ some 48 := by
  induction n using Nat.strongRecOn with
  | _ n ih =>
    rw [decDigits, dif_neg (by omega)]
    by_cases h2 : n / 10 < 10
    · rw [decDigits, dif_pos h2]
      simp only [List.cons_append, List.nil_append, List.head?_cons]
      intro h0
      have := congrArg UInt8.toNat (Option.some.inj h0)
      rw [dec_digit h2] at this
      simp at this; omega
    · have := ih (n / 10) (by omega) (by omega)
      have hl := (dec_facts (n / 10)).2.2
      rw [List.head?_append]
      cases hd : (decDigits (n / 10)).head? with
      | none => simp at hd; rw [hd] at hl; simp at hl
      | some c => rw [hd] at this; simpa using this
theorem dec_len1 {n : Nat} (h : n < 10) : (decDigits n).length = 1 := by rw [decDigits, dif_pos h]; rfl
theorem dec_len (n : Nat) (h : n ≤ 999) : (decDigits n).length ≤ 3 := by
  rw [decDigits]
  split
  · simp
  · rename_i h1
    rw [decDigits]
    split
    · simp
    · rename_i h2
      rw [decDigits, dif_pos (by omega)]; simp
/-- the text of a number is read as that number -/
theorem pnum_dec (n lim : Nat) (h : n ≤ lim) (h9 : n ≤ 999) : pnum (decDigits n) lim = some n := by
  obtain ⟨h1, h2, h3⟩ := dec_facts n
  have := pnum_mk (lim := lim) h3 (dec_len n h9) (fun ⟨ha, hb⟩ => by
    by_cases hn : n < 10
    · have := dec_len1 hn; omega
    · exact dec_head n (by omega) hb) h1 (by rw [h2]; exact h)
  rw [h2] at this; exact this
theorem ofNat_val {c : UInt8} (h : isD c = true) : UInt8.ofNat (48 + (c.toNat - 48)) = c := by
  have := (isD_iff c).1 h
  rw [show 48 + (c.toNat - 48) = c.toNat by omega]; simp
/-- a text that is read as a number is that number's text -/
theorem dec_of_dig : ∀ (k : Nat) (l : List UInt8), l.length = k → 1 ≤ k → Dig l → ¬ (1 < l.length ∧ l.head? = some 48) → decDigits (valL l) = l := by
  intro k
  induction k with
  | zero => intro l _ h; omega
  | succ k ih =>
    intro l hl _ hd hz
    obtain ⟨l', c, rfl⟩ : ∃ l' c, l = l' ++ [c] := ⟨l.dropLast, l.getLast (by intro h0; rw [h0] at hl; simp at hl), (List.dropLast_concat_getLast _).symm⟩
    have h1 : l'.length = k := by simpa using hl
    have hc : isD c = true := hd c (by simp)
    have hc' := (isD_iff c).1 hc
    have hd' : Dig l' := fun x hx => hd x (List.mem_append_left _ hx)
    rw [valL_snoc]
    cases k with
    | zero =>
      have : l' = [] := List.length_eq_zero_iff.1 h1
      subst this
      rw [decDigits, dif_pos (by simp [valL]; omega)]
      simp only [valL_nil, Nat.mul_zero, Nat.zero_add, List.nil_append]
      rw [ofNat_val hc]
    | succ k =>
      have hne : l'.head? ≠ some 48 := fun h0 => hz ⟨by simp; omega, by rw [List.head?_append, h0]; rfl⟩
      have e := ih l' h1 (by omega) hd' (fun h => hne h.2)
      have hpos : 1 ≤ valL l' := by
        rcases Nat.eq_zero_or_pos (valL l') with h0 | h0
        · rw [h0] at e
          rw [decDigits, dif_pos (by omega)] at e
          rw [← e] at hne
          exact absurd rfl hne
        · exact h0
      rw [decDigits, dif_neg (by omega), show (10 * valL l' + (c.toNat - 48)) / 10 = valL l' by omega, show (10 * valL l' + (c.toNat - 48)) % 10 = c.toNat - 48 by omega, e, ofNat_val hc]
theorem dec_pnum {l : List UInt8} {lim n : Nat} (h : pnum l lim = some n) : decDigits n = l := by
  obtain ⟨h1, _, h3, h4, _, rfl⟩ := pnum_some h
  exact dec_of_dig l.length l rfl h1 h4 h3

/- words between dots -/
def wordC (c : UInt8) (l : List UInt8) : List UInt8 := l.takeWhile (· != c)
def restC (c : UInt8) (l : List UInt8) : List UInt8 := (l.dropWhile (· != c)).drop 1
theorem split_word (c : UInt8) (l : List UInt8) : (l = wordC c l ∧ restC c l = [] ∧ c ∉ l) ∨ (l = wordC c l ++ c :: restC c l ∧ c ∉ wordC c l) := by
  unfold wordC restC
  induction l with
  | nil => exact .inl ⟨rfl, rfl, by simp⟩
  | cons x l ih =>
    by_cases hx : x = c
    · subst hx; right; simp
    · have hb : (x != c) = true := by simpa using hx
      rw [List.takeWhile_cons_of_pos (p := (· != c)) hb, List.dropWhile_cons_of_pos (p := (· != c)) hb]
      rcases ih with ⟨h1, h2, h3⟩ | ⟨h1, h2⟩
      · left; exact ⟨by rw [← h1], h2, by simp; exact ⟨fun e => hx e.symm, h3⟩⟩
      · right; exact ⟨by rw [List.cons_append, ← h1], by simp; exact ⟨fun e => hx e.symm, h2⟩⟩
theorem word_of {c : UInt8} {p r : List UInt8} (h : c ∉ p) : wordC c (p ++ c :: r) = p ∧ restC c (p ++ c :: r) = r := by
  unfold wordC restC
  induction p with
  | nil => simp [List.takeWhile, List.dropWhile]
  | cons x p ih =>
    simp only [List.mem_cons, not_or] at h
    have hb : (x != c) = true := by simpa using fun e => h.1 e.symm
    rw [List.cons_append, List.takeWhile_cons_of_pos (p := (· != c)) hb, List.dropWhile_cons_of_pos (p := (· != c)) hb]
    exact ⟨by rw [(ih h.2).1], (ih h.2).2⟩
theorem word_none {c : UInt8} {l : List UInt8} (h : c ∉ l) : wordC c l = l ∧ restC c l = [] := by
  rcases split_word c l with ⟨h1, h2, _⟩ | ⟨h1, _⟩
  · exact ⟨h1.symm, h2⟩
  · exact absurd (by rw [h1]; simp) h
theorem dig_no46 {l : List UInt8} (h : Dig l) : (46 : UInt8) ∉ l := fun hh => by have := h _ hh; revert this; decide
theorem dig_no47 {l : List UInt8} (h : Dig l) : (47 : UInt8) ∉ l := fun hh => by have := h _ hh; revert this; decide
def runD (l : List UInt8) : List UInt8 := l.takeWhile isD
theorem runD_dig (l : List UInt8) : Dig (runD l) := fun c hc => by
  unfold runD at hc
  induction l with
  | nil => simp at hc
  | cons x l ih =>
    by_cases hx : isD x = true
    · rw [List.takeWhile_cons_of_pos hx] at hc
      rcases List.mem_cons.1 hc with h | h
      · rw [h]; exact hx
      · exact ih h
    · rw [List.takeWhile_cons_of_neg hx] at hc; cases hc
theorem runD_split (l : List UInt8) : l = runD l ++ l.drop (runD l).length := by
  unfold runD
  induction l with
  | nil => rfl
  | cons x l ih =>
    by_cases hx : isD x = true
    · rw [List.takeWhile_cons_of_pos hx]; simp only [List.length_cons, List.drop_succ_cons, List.cons_append]; rw [← ih]
    · rw [List.takeWhile_cons_of_neg hx]; rfl
theorem runD_app {d r : List UInt8} (h : Dig d) (hr : ∀ c t, r = c :: t → isD c = false) : runD (d ++ r) = d := by
  unfold runD
  induction d with
  | nil =>
    cases r with
    | nil => rfl
    | cons c t => rw [List.nil_append, List.takeWhile_cons_of_neg (by rw [hr c t rfl]; simp)]
  | cons x d ih =>
    rw [List.cons_append, List.takeWhile_cons_of_pos (h x (by simp)), ih (fun y hy => h y (by simp [hy]))]
theorem runD_all {d : List UInt8} (h : Dig d) : runD d = d := by have := runD_app (r := []) h (fun _ _ e => by cases e); simpa using this

/-- reading words between dots one by one -/
def codeN : Nat → List UInt8 → Option (List Nat)
  | 0, _ => some []
  | k + 1, l => match pnum (wordC 46 l) 255 with
    | none => none
    | some n => (codeN k (restC 46 l)).map (n :: ·)
def afterDot : List UInt8 → Option (List UInt8)
  | c :: t => if c = 46 then some t else none
  | [] => none
/-- reading numbers greedily, with a dot ahead of each but the first -/
def refN : Nat → Bool → List UInt8 → Option (List Nat × List UInt8)
  | 0, _, l => some ([], l)
  | k + 1, first, l => match (if first then some l else afterDot l) with
    | none => none
    | some l' => match pnum (runD l') 255 with
      | none => none
      | some n => (refN k false (l'.drop (runD l').length)).map (fun x => (n :: x.1, x.2))
theorem refN_false (k : Nat) (t : List UInt8) : refN (k + 1) false (46 :: t) = refN (k + 1) true t := by
  simp only [refN, afterDot, if_true, Bool.false_eq_true, if_false]
theorem count_app (p r : List UInt8) (c : UInt8) (h : c ∉ p) : countByte (p ++ c :: r) c = countByte r c + 1 := by
  unfold countByte
  rw [List.count_append, List.count_cons_self, List.count_eq_zero_of_not_mem h]; omega
theorem code_ref : ∀ (k : Nat) (l : List UInt8) (ns : List Nat), (codeN (k + 1) l = some ns ∧ countByte l 46 = k) ↔ refN (k + 1) true l = some (ns, []) := by
  intro k
  induction k with
  | zero =>
    intro l ns
    simp only [codeN, refN, if_true, Option.map_some]
    constructor
    · rintro ⟨h, hc⟩
      have hn : (46 : UInt8) ∉ l := by unfold countByte at hc; exact List.count_eq_zero.1 hc
      rw [(word_none hn).1] at h
      cases hp : pnum l 255 with
      | none => rw [hp] at h; cases h
      | some n =>
        rw [hp] at h
        rw [runD_all (pnum_digs hp), hp]
        simp at h ⊢
        exact h
    · intro h
      cases hp : pnum (runD l) 255 with
      | none => rw [hp] at h; cases h
      | some n =>
        rw [hp] at h
        simp at h
        have hl : runD l = l := by
          have h1 := runD_split l
          rw [List.drop_eq_nil_of_le h.2, List.append_nil] at h1; exact h1.symm
        rw [hl] at hp
        have hn := dig_no46 (pnum_digs hp)
        rw [(word_none hn).1, hp]
        exact ⟨by simpa using h.1, by unfold countByte; exact List.count_eq_zero.2 hn⟩
  | succ k ih =>
    intro l ns
    constructor
    · rintro ⟨h, hc⟩
      rcases split_word 46 l with ⟨_, _, h3⟩ | ⟨h1, h2⟩
      · unfold countByte at hc; rw [List.count_eq_zero_of_not_mem h3] at hc; omega
      · rw [codeN] at h
        cases hp : pnum (wordC 46 l) 255 with
        | none => rw [hp] at h; cases h
        | some n =>
          rw [hp] at h
          obtain ⟨ms, hm, hns⟩ := Option.map_eq_some_iff.1 h
          have hd := pnum_digs hp
          have hr : runD l = wordC 46 l := by
            rw [h1]
            rw [(word_of h2).1]
            exact runD_app hd (fun c t e => by injection e with e1 e2; rw [← e1]; decide)
          have hcr : countByte (restC 46 l) 46 = k := by
            have := count_app (wordC 46 l) (restC 46 l) 46 h2
            rw [← h1, hc] at this; omega
          have hi := (ih (restC 46 l) ms).1 ⟨hm, hcr⟩
          have hdrop : l.drop (runD l).length = 46 :: restC 46 l := by
            rw [hr]; have := congrArg (List.drop (wordC 46 l).length) h1
            rw [List.drop_left] at this; exact this
          rw [refN]
          simp only [if_true]
          rw [hdrop, hr, hp]
          simp only
          rw [refN_false, hi]
          simp [hns]
    · intro h
      rw [refN] at h
      simp only [if_true] at h
      cases hp : pnum (runD l) 255 with
      | none => rw [hp] at h; cases h
      | some n =>
        rw [hp] at h
        obtain ⟨⟨ms, rr⟩, hm, hns⟩ := Option.map_eq_some_iff.1 h
        have hd := pnum_digs hp
        have hsp := runD_split l
        cases hdr : l.drop (runD l).length with
        | nil => rw [hdr] at hm; rw [refN] at hm; simp [afterDot] at hm
        | cons c t =>
          rw [hdr] at hm hsp
          by_cases hc : c = 46
          · subst hc
            rw [refN_false] at hm
            simp at hns
            obtain ⟨rfl, rfl⟩ := hns
            have hi := (ih t ms).2 hm
            have hw := word_of (r := t) (dig_no46 hd)
            rw [← hsp] at hw
            rw [codeN, hw.1, hp, hw.2, hi.1]
            refine ⟨rfl, ?_⟩
            rw [hsp, count_app _ _ _ (dig_no46 hd), hi.2]
          · rw [refN] at hm; simp [afterDot, hc] at hm
end Go.Proofs.YtaniiennfogjaaaDoor.T
set_option linter.unusedSimpArgs false
namespace Go.Proofs.YtaniiennfogjaaaDoor.T
open Go.Lib

/-- reading digits as long as the number is not greater than most -/
def numF (most : Int) : Nat → List UInt8 → Option Nat
  | n, [] => some n
  | n, c :: r => if ((c.toNat - 48 : Nat) : Int) > most ∨ (n : Int) > (most - (c.toNat - 48 : Nat)) / 10 then none else numF most (10 * n + (c.toNat - 48)) r
theorem valF_ge (l : List UInt8) : ∀ n, n ≤ l.foldl valF n := by
  induction l with
  | nil => intro n; exact Nat.le_refl _
  | cons c r ih => intro n; have := ih (valF n c); simp only [List.foldl_cons]; unfold valF at this ⊢; omega
theorem numF_val (most : Int) (l : List UInt8) : ∀ n : Nat, (n : Int) ≤ most ∨ l ≠ [] → numF most n l = if ((l.foldl valF n : Nat) : Int) ≤ most then some (l.foldl valF n) else none := by
  induction l with
  | nil => intro n h; simp at h; simp [numF, h]
  | cons c r ih =>
    intro n _
    rw [show (c :: r).foldl valF n = r.foldl valF (valF n c) from rfl]
    simp only [numF]
    have hge := valF_ge r (valF n c)
    by_cases h : ((c.toNat - 48 : Nat) : Int) > most ∨ (n : Int) > (most - (c.toNat - 48 : Nat)) / 10
    · rw [if_pos h, if_neg]
      unfold valF at hge ⊢
      omega
    · rw [if_neg h]
      have := ih (10 * n + (c.toNat - 48)) (.inl (by omega))
      rw [this]; rfl
/-- what a canonical number is -/
def canS (l : List UInt8) : Bool := l.all isD && (l == [48] || (l.head?.isSome && l.head? != some 48))
theorem canS_iff (l : List UInt8) : canS l = true ↔ Dig l ∧ (l = [48] ∨ (l ≠ [] ∧ l.head? ≠ some 48)) := by
  unfold canS
  rw [dig_all]
  cases l with
  | nil => simp
  | cons c r => simp
/-- Number's two results -/
def number (l : List UInt8) (most : Int) : Int × Int :=
  if canS l = false then (0, 2) else match numF most 0 l with
    | none => (0, 5)
    | some n => (n, 0)
theorem canS_ne {l : List UInt8} (h : canS l = true) : l ≠ [] := by rintro rfl; simp [canS] at h
theorem dec_can (n : Nat) : canS (decDigits n) = true := by
  rw [canS_iff]
  obtain ⟨h1, h2, h3⟩ := dec_facts n
  refine ⟨h1, ?_⟩
  by_cases h0 : n = 0
  · subst h0; left; rw [decDigits, dif_pos (by omega)]; rfl
  · right
    refine ⟨by rintro h; rw [h] at h3; simp at h3, ?_⟩
    by_cases h10 : n < 10
    · rw [decDigits, dif_pos h10]
      simp only [List.head?_cons]
      intro h
      have := congrArg UInt8.toNat (Option.some.inj h)
      rw [dec_digit h10] at this
      simp at this; omega
    · exact dec_head n (by omega)
theorem number_dec (n : Nat) : number (decDigits n) n = ((n : Int), 0) := by
  unfold number
  rw [dec_can n, if_neg (by simp), numF_val _ _ _ (.inr (canS_ne (dec_can n)))]
  have : (decDigits n).foldl valF 0 = n := (dec_facts n).2.1
  rw [this, if_pos (Int.le_refl _)]
theorem number_back {l : List UInt8} {most : Int} (h : (number l most).2 = 0) : ∃ n : Nat, (number l most).1 = n ∧ decDigits n = l := by
  unfold number at h ⊢
  by_cases hc : canS l = false
  · rw [if_pos hc] at h; simp at h
  · rw [if_neg hc] at h ⊢
    have hc' : canS l = true := by simpa using hc
    rw [numF_val _ _ _ (.inr (canS_ne hc'))] at h ⊢
    split at h
    · simp at h
    · rename_i n hn
      refine ⟨n, rfl, ?_⟩
      split at hn
      · obtain rfl := Option.some.inj hn
        obtain ⟨h1, h2⟩ := (canS_iff l).1 hc'
        have hl : 1 ≤ l.length := by have := canS_ne hc'; cases l <;> simp_all
        refine dec_of_dig l.length l rfl hl h1 ?_
        rintro ⟨ha, hb⟩
        rcases h2 with rfl | h2
        · simp at ha
        · exact h2.2 hb
      · cases hn
/-- the reference's decimal text -/
theorem dec_step (n : Nat) (h : ¬ n < 10) : decDigits n = decDigits (n / 10) ++ [UInt8.ofNat (48 + n % 10)] := by rw [decDigits, dif_neg h]
theorem dec_one (n : Nat) (h : n < 10) : decDigits n = [UInt8.ofNat (48 + n)] := by rw [decDigits, dif_pos h]
end Go.Proofs.YtaniiennfogjaaaDoor.T
set_option linter.unusedSimpArgs false
set_option linter.unusedVariables false
namespace Go.Proofs.YtaniiennfogjaaaDoor.T
open Go.Lib

/-- the names of the well-known communities -/
def nmA : List UInt8 := [103, 114, 97, 99, 101, 102, 117, 108, 45, 115, 104, 117, 116, 100, 111, 119, 110]
def nmB : List UInt8 := [110, 111, 45, 101, 120, 112, 111, 114, 116]
def nmC : List UInt8 := [110, 111, 45, 97, 100, 118, 101, 114, 116, 105, 115, 101]
def nmD : List UInt8 := [110, 111, 45, 101, 120, 112, 111, 114, 116, 45, 99, 111, 110, 102, 101, 100]
def parts (c : Nat) : List UInt8 := decDigits (c / 65536) ++ 58 :: decDigits (c % 65536)
/-- the text of a community -/
def txC (c : Nat) : List UInt8 :=
  if c = 4294901760 then nmA else if c = 4294967041 then nmB else if c = 4294967042 then nmC else if c = 4294967043 then nmD else parts c
def Known (c : Nat) : Prop := c = 4294901760 ∨ c = 4294967041 ∨ c = 4294967042 ∨ c = 4294967043
instance (c : Nat) : Decidable (Known c) := by unfold Known; infer_instance
theorem tx_parts {c : Nat} (h : ¬ Known c) : txC c = parts c := by
  unfold Known at h; unfold txC
  rw [if_neg (by omega), if_neg (by omega), if_neg (by omega), if_neg (by omega)]
theorem dig_no58 {l : List UInt8} (h : Dig l) : (58 : UInt8) ∉ l := fun hh => by have := h _ hh; revert this; decide
theorem parts_mem (c : Nat) : (58 : UInt8) ∈ parts c := by unfold parts; simp
theorem parts_ne {c : Nat} {l : List UInt8} (h : (58 : UInt8) ∉ l) : parts c ≠ l := fun e => h (e ▸ parts_mem c)
theorem nm58 : (58 : UInt8) ∉ nmA ∧ (58 : UInt8) ∉ nmB ∧ (58 : UInt8) ∉ nmC ∧ (58 : UInt8) ∉ nmD := by decide
theorem dec_inj {a b : Nat} (h : decDigits a = decDigits b) : a = b := by
  have h1 := (dec_facts a).2.1; have h2 := (dec_facts b).2.1
  rw [h] at h1; omega
theorem parts_word (c : Nat) : wordC 58 (parts c) = decDigits (c / 65536) ∧ restC 58 (parts c) = decDigits (c % 65536) := word_of (dig_no58 (dec_facts _).1)
theorem parts_inj {a b : Nat} (h : parts a = parts b) : a = b := by
  have h1 := parts_word a; have h2 := parts_word b
  rw [h] at h1
  have e1 := dec_inj (h1.1.symm.trans h2.1)
  have e2 := dec_inj (h1.2.symm.trans h2.2)
  omega
theorem tx_inj {a b : Nat} (h : txC a = txC b) : a = b := by
  obtain ⟨n1, n2, n3, n4⟩ := nm58
  have p1 : ∀ c, parts c ≠ nmA := fun c => parts_ne n1
  have p2 : ∀ c, parts c ≠ nmB := fun c => parts_ne n2
  have p3 : ∀ c, parts c ≠ nmC := fun c => parts_ne n3
  have p4 : ∀ c, parts c ≠ nmD := fun c => parts_ne n4
  have q1 : nmA ≠ nmB := by decide
  have q2 : nmA ≠ nmC := by decide
  have q3 : nmA ≠ nmD := by decide
  have q4 : nmB ≠ nmC := by decide
  have q5 : nmB ≠ nmD := by decide
  have q6 : nmC ≠ nmD := by decide
  unfold txC at h
  by_cases a1 : a = 4294901760
  · rw [if_pos a1] at h
    by_cases b1 : b = 4294901760
    · omega
    rw [if_neg b1] at h
    by_cases b2 : b = 4294967041
    · rw [if_pos b2] at h; exact absurd h q1
    rw [if_neg b2] at h
    by_cases b3 : b = 4294967042
    · rw [if_pos b3] at h; exact absurd h q2
    rw [if_neg b3] at h
    by_cases b4 : b = 4294967043
    · rw [if_pos b4] at h; exact absurd h q3
    rw [if_neg b4] at h
    exact absurd h.symm (p1 b)
  rw [if_neg a1] at h
  by_cases a2 : a = 4294967041
  · rw [if_pos a2] at h
    by_cases b1 : b = 4294901760
    · rw [if_pos b1] at h; exact absurd h.symm q1
    rw [if_neg b1] at h
    by_cases b2 : b = 4294967041
    · omega
    rw [if_neg b2] at h
    by_cases b3 : b = 4294967042
    · rw [if_pos b3] at h; exact absurd h q4
    rw [if_neg b3] at h
    by_cases b4 : b = 4294967043
    · rw [if_pos b4] at h; exact absurd h q5
    rw [if_neg b4] at h
    exact absurd h.symm (p2 b)
  rw [if_neg a2] at h
  by_cases a3 : a = 4294967042
  · rw [if_pos a3] at h
    by_cases b1 : b = 4294901760
    · rw [if_pos b1] at h; exact absurd h.symm q2
    rw [if_neg b1] at h
    by_cases b2 : b = 4294967041
    · rw [if_pos b2] at h; exact absurd h.symm q4
    rw [if_neg b2] at h
    by_cases b3 : b = 4294967042
    · omega
    rw [if_neg b3] at h
    by_cases b4 : b = 4294967043
    · rw [if_pos b4] at h; exact absurd h q6
    rw [if_neg b4] at h
    exact absurd h.symm (p3 b)
  rw [if_neg a3] at h
  by_cases a4 : a = 4294967043
  · rw [if_pos a4] at h
    by_cases b1 : b = 4294901760
    · rw [if_pos b1] at h; exact absurd h.symm q3
    rw [if_neg b1] at h
    by_cases b2 : b = 4294967041
    · rw [if_pos b2] at h; exact absurd h.symm q5
    rw [if_neg b2] at h
    by_cases b3 : b = 4294967042
    · rw [if_pos b3] at h; exact absurd h.symm q6
    rw [if_neg b3] at h
    by_cases b4 : b = 4294967043
    · omega
    rw [if_neg b4] at h
    exact absurd h.symm (p4 b)
  rw [if_neg a4] at h
  by_cases b1 : b = 4294901760
  · rw [if_pos b1] at h; exact absurd h (p1 a)
  rw [if_neg b1] at h
  by_cases b2 : b = 4294967041
  · rw [if_pos b2] at h; exact absurd h (p2 a)
  rw [if_neg b2] at h
  by_cases b3 : b = 4294967042
  · rw [if_pos b3] at h; exact absurd h (p3 a)
  rw [if_neg b3] at h
  by_cases b4 : b = 4294967043
  · rw [if_pos b4] at h; exact absurd h (p4 a)
  rw [if_neg b4] at h
  exact parts_inj h

/-- what Parse answers for a text: the community, or ErrSyntax -/
def PrC (l : List UInt8) (c : Nat) (e : Int) : Prop :=
  (e = 0 ∧ c < 4294967296 ∧ txC c = l) ∨ (e = 2 ∧ c = 0 ∧ ∀ d, d < 4294967296 → txC d ≠ l)
theorem PrC.unique {l : List UInt8} {c c' : Nat} {e e' : Int} (h : PrC l c e) (h' : PrC l c' e') : c = c' ∧ e = e' := by
  rcases h with ⟨h1, h2, h3⟩ | ⟨h1, h2, h3⟩
  · rcases h' with ⟨g1, g2, g3⟩ | ⟨g1, g2, g3⟩
    · exact ⟨tx_inj (h3.trans g3.symm), by rw [h1, g1]⟩
    · exact absurd h3 (g3 _ h2)
  · rcases h' with ⟨g1, g2, g3⟩ | ⟨g1, g2, g3⟩
    · exact absurd g3 (h3 _ g2)
    · exact ⟨by rw [h2, g2], by rw [h1, g1]⟩
theorem PrC.of_text {c : Nat} (hc : c < 4294967296) {c' : Nat} {e : Int} (h : PrC (txC c) c' e) : c' = c ∧ e = 0 := PrC.unique h (.inl ⟨rfl, hc, rfl⟩)
theorem number_le {n : Nat} (h : n ≤ 65535) : number (decDigits n) 65535 = ((n : Int), 0) := by
  unfold number
  rw [dec_can n, if_neg (by simp), numF_val _ _ _ (.inr (canS_ne (dec_can n)))]
  have : (decDigits n).foldl valF 0 = n := (dec_facts n).2.1
  rw [this, if_pos (by omega)]
theorem number_range {l : List UInt8} (h : (number l 65535).2 = 0) : ∃ n : Nat, (number l 65535).1 = (n : Int) ∧ n ≤ 65535 := by
  unfold number at h ⊢
  by_cases hc : canS l = false
  · rw [if_pos hc] at h; simp at h
  · rw [if_neg hc] at h ⊢
    have hc' : canS l = true := by simpa using hc
    rw [numF_val _ _ _ (.inr (canS_ne hc'))] at h ⊢
    split at h
    · simp at h
    · rename_i n hn
      split at hn
      · obtain rfl := Option.some.inj hn
        rename_i hle
        exact ⟨_, rfl, by omega⟩
      · cases hn
theorem parts_of {d : Nat} (hd : d < 4294967296) {l : List UInt8} (h : parts d = l) : number (wordC 58 l) 65535 = (((d / 65536 : Nat) : Int), 0) ∧ number (restC 58 l) 65535 = (((d % 65536 : Nat) : Int), 0) := by
  subst h
  rw [(parts_word d).1, (parts_word d).2]
  exact ⟨number_le (by omega), number_le (by omega)⟩
/-- a text that is no name and whose parts are no numbers is no community's -/
theorem parse_no {l : List UInt8} (hA : l ≠ nmA) (hB : l ≠ nmB) (hC : l ≠ nmC) (hD : l ≠ nmD) (h : (number (wordC 58 l) 65535).2 ≠ 0 ∨ (number (restC 58 l) 65535).2 ≠ 0) : PrC l 0 2 := by
  refine .inr ⟨rfl, rfl, fun d hd e => ?_⟩
  by_cases hk : Known d
  · rcases hk with rfl | rfl | rfl | rfl
    · exact hA e.symm
    · exact hB e.symm
    · exact hC e.symm
    · exact hD e.symm
  · have := parts_of hd ((tx_parts hk).symm.trans e)
    rcases h with h | h
    · exact h (by rw [this.1])
    · exact h (by rw [this.2])
theorem parse_other {l : List UInt8} (hA : l ≠ nmA) (hB : l ≠ nmB) (hC : l ≠ nmC) (hD : l ≠ nmD) {a b : Nat} (h1 : number (wordC 58 l) 65535 = ((a : Int), 0)) (h2 : number (restC 58 l) 65535 = ((b : Int), 0)) (ht : txC (a * 65536 + b) ≠ l) : PrC l 0 2 := by
  refine .inr ⟨rfl, rfl, fun d hd e => ?_⟩
  by_cases hk : Known d
  · rcases hk with rfl | rfl | rfl | rfl
    · exact hA e.symm
    · exact hB e.symm
    · exact hC e.symm
    · exact hD e.symm
  · have := parts_of hd ((tx_parts hk).symm.trans e)
    rw [h1, h2] at this
    have e1 : (a : Int) = ((d / 65536 : Nat) : Int) := congrArg Prod.fst this.1
    have e2 : (b : Int) = ((d % 65536 : Nat) : Int) := congrArg Prod.fst this.2
    exact ht (by rw [show a * 65536 + b = d by omega]; exact e)
theorem parse_yes {l : List UInt8} {c : Nat} (hc : c < 4294967296) (h : txC c = l) : PrC l c 0 := .inl ⟨rfl, hc, h⟩

/-- the reference's reader: both parts and which of them is read -/
def rdR : List UInt8 → Nat → Nat → Bool → Option (Nat × Nat)
  | [], a, b, _ => some (a, b)
  | c :: r, a, b, false => if isD c = true ∧ a ≤ 65535 then rdR r (valF a c) b false else if c = 58 then rdR r a b true else none
  | c :: r, a, b, true => if isD c = true ∧ b ≤ 65535 then rdR r a (valF b c) true else none
theorem foldl_le (l : List UInt8) (n : Nat) : n ≤ l.foldl valF n := valF_ge l n
theorem rdR_lo (b : Nat) (r : List UInt8) : ∀ (l : List UInt8) (a : Nat), Dig l → l.foldl valF a ≤ 65535 → rdR (l ++ 58 :: r) a b false = rdR r (l.foldl valF a) b true
  | [], a, _, h => by
    show rdR (58 :: r) a b false = rdR r a b true
    rw [show rdR (58 :: r) a b false = (if isD 58 = true ∧ a ≤ 65535 then rdR r (valF a 58) b false else if (58 : UInt8) = 58 then rdR r a b true else none) by rw [rdR]]
    rw [if_neg (by intro h; exact absurd h.1 (by decide)), if_pos rfl]
  | c :: l, a, hd, h => by
    show rdR (c :: (l ++ 58 :: r)) a b false = _
    have h1 : valF a c ≤ 65535 := Nat.le_trans (foldl_le l _) h
    have ha : a ≤ 65535 := by unfold valF at h1; omega
    rw [rdR, if_pos ⟨hd c (by simp), ha⟩]
    exact rdR_lo b r l (valF a c) (fun x hx => hd x (by simp [hx])) h
theorem rdR_hi (a : Nat) : ∀ (l : List UInt8) (b : Nat), Dig l → l.foldl valF b ≤ 65535 → rdR l a b true = some (a, l.foldl valF b)
  | [], b, _, h => rfl
  | c :: l, b, hd, h => by
    have h1 : valF b c ≤ 65535 := Nat.le_trans (foldl_le l _) h
    have hb : b ≤ 65535 := by unfold valF at h1; omega
    rw [rdR, if_pos ⟨hd c (by simp), hb⟩]
    exact rdR_hi a l (valF b c) (fun x hx => hd x (by simp [hx])) h
theorem rdR_parts {d : Nat} (hd : d < 4294967296) : rdR (parts d) 0 0 false = some (d / 65536, d % 65536) := by
  have f1 := dec_facts (d / 65536); have f2 := dec_facts (d % 65536)
  have v1 : (decDigits (d / 65536)).foldl valF 0 = d / 65536 := f1.2.1
  have v2 : (decDigits (d % 65536)).foldl valF 0 = d % 65536 := f2.2.1
  unfold parts
  rw [rdR_lo 0 _ _ 0 f1.1 (by rw [v1]; omega), v1, rdR_hi _ _ 0 f2.1 (by rw [v2]; omega), v2]
theorem rparse_no {l : List UInt8} (hA : l ≠ nmA) (hB : l ≠ nmB) (hC : l ≠ nmC) (hD : l ≠ nmD) (h : ∀ a b, rdR l 0 0 false = some (a, b) → a ≤ 65535 → b ≤ 65535 → txC (a * 65536 + b) ≠ l) : PrC l 0 2 := by
  refine .inr ⟨rfl, rfl, fun d hd e => ?_⟩
  by_cases hk : Known d
  · rcases hk with rfl | rfl | rfl | rfl
    · exact hA e.symm
    · exact hB e.symm
    · exact hC e.symm
    · exact hD e.symm
  · have hp := (tx_parts hk).symm.trans e
    have hr := rdR_parts hd
    rw [hp] at hr
    exact h _ _ hr (by omega) (by omega) (by rw [show d / 65536 * 65536 + d % 65536 = d by omega]; exact e)

/-- the ascending list of a set -/
def Asc (l : List Nat) : Prop := l.Pairwise (· < ·)
theorem Asc.tail {x : Nat} {l : List Nat} (h : Asc (x :: l)) : Asc l := (List.pairwise_cons.1 h).2
theorem Asc.head {x y : Nat} {l : List Nat} (h : Asc (x :: l)) (hy : y ∈ l) : x < y := (List.pairwise_cons.1 h).1 y hy
theorem Asc.unique : ∀ {l m : List Nat}, Asc l → Asc m → (∀ x, x ∈ l ↔ x ∈ m) → l = m
  | [], [], _, _, _ => rfl
  | [], y :: m, _, _, h => by have := (h y).2 (by simp); cases this
  | x :: l, [], _, _, h => by have := (h x).1 (by simp); cases this
  | x :: l, y :: m, hl, hm, h => by
    have e : x = y := by
      rcases List.mem_cons.1 ((h x).1 (by simp)) with h1 | h1
      · exact h1
      · rcases List.mem_cons.1 ((h y).2 (by simp)) with h2 | h2
        · exact h2.symm
        · have a := hm.head h1; have b := hl.head h2; omega
    subst e
    rw [Asc.unique hl.tail hm.tail (fun z => ⟨fun hz => by
      rcases List.mem_cons.1 ((h z).1 (List.mem_cons_of_mem _ hz)) with h1 | h1
      · subst h1; exact absurd (hl.head hz) (by omega)
      · exact h1, fun hz => by
      rcases List.mem_cons.1 ((h z).2 (List.mem_cons_of_mem _ hz)) with h1 | h1
      · subst h1; exact absurd (hm.head hz) (by omega)
      · exact h1⟩)]
/-- an ascending list with the members of another list -/
def IsSet (l s : List Nat) : Prop := Asc s ∧ ∀ x, x ∈ s ↔ x ∈ l
theorem IsSet.unique {l m s t : List Nat} (h : IsSet l s) (h' : IsSet m t) (e : ∀ x, x ∈ l ↔ x ∈ m) : s = t := h.1.unique h'.1 (fun x => (h.2 x).trans ((e x).trans (h'.2 x).symm))
theorem asc_snoc {s : List Nat} {x : Nat} (h : Asc s) (hx : ∀ y ∈ s, y < x) : Asc (s ++ [x]) := by
  unfold Asc at *
  rw [List.pairwise_append]
  exact ⟨h, by simp, fun a ha b hb => by rw [List.mem_singleton.1 hb]; exact hx a ha⟩
theorem asc_last {s : List Nat} {x : Nat} (h : Asc (s ++ [x])) : ∀ y ∈ s, y < x := fun y hy => (List.pairwise_append.1 h).2.2 y hy x (by simp)
theorem Asc.filter {s : List Nat} (h : Asc s) (p : Nat → Bool) : Asc (s.filter p) := List.Pairwise.filter p h
theorem Asc.take {s : List Nat} (h : Asc s) (n : Nat) : Asc (s.take n) := List.Pairwise.sublist (List.take_sublist n s) h
/-- what is added -/
def addF (s : List Nat) (c : Nat) (t : List Nat) : Prop := if 255 ≤ s.length then t = s else IsSet (s ++ [c]) t
end Go.Proofs.YtaniiennfogjaaaDoor.T
set_option linter.unusedSimpArgs false
set_option linter.unusedVariables false
namespace Go.Proofs.YtaniiennfogjaaaDoor.T

def Cand (o : List Nat) (x : Nat) : Prop := ∀ y ∈ o, y < x
instance (o : List Nat) (x : Nat) : Decidable (Cand o x) := by unfold Cand; infer_instance
def rem (o l : List Nat) : Nat := l.countP (fun x => decide (Cand o x))
theorem countP_lt {p q : Nat → Bool} : ∀ {l : List Nat}, (∀ x ∈ l, q x = true → p x = true) → ∀ {b : Nat}, b ∈ l → p b = true → q b = false → l.countP q < l.countP p
  | [], _, _, hb, _, _ => by cases hb
  | a :: l, h, b, hb, h1, h2 => by
    have hle : l.countP q ≤ l.countP p := List.countP_mono_left (fun x hx hq => h x (List.mem_cons_of_mem _ hx) hq)
    rw [List.countP_cons, List.countP_cons]
    rcases List.mem_cons.1 hb with rfl | hb
    · rw [h1, h2]; simp; omega
    · have ih := countP_lt (l := l) (fun x hx => h x (List.mem_cons_of_mem _ hx)) hb h1 h2
      have ha := h a (by simp)
      cases hqa : q a with
      | true => rw [ha hqa]; simp; exact ih
      | false => cases p a <;> simp <;> omega
theorem rem_lt {o l : List Nat} {b : Nat} (hb : b ∈ l) (hc : Cand o b) : rem (o ++ [b]) l < rem o l := by
  refine countP_lt (fun x _ h => ?_) hb (decide_eq_true hc) (decide_eq_false fun h => ?_)
  · exact decide_eq_true fun y hy => (of_decide_eq_true h) y (List.mem_append_left _ hy)
  · exact absurd (h b (by simp)) (by omega)
theorem rem_le (o l : List Nat) : rem o l ≤ l.length := List.countP_le_length
theorem cand_nil (x : Nat) : Cand [] x := fun y h => by cases h
theorem cand_snoc {o : List Nat} {z x : Nat} (h : Asc (o ++ [z])) : Cand (o ++ [z]) x ↔ z < x := by
  constructor
  · intro hc; exact hc z (by simp)
  · intro hz y hy
    rcases List.mem_append.1 hy with h1 | h1
    · have := asc_last h y h1; omega
    · rw [List.mem_singleton.1 h1]; exact hz
/-- the least candidate among the first k -/
def MinC (o l : List Nat) (k : Nat) (f : Bool) (b : Nat) : Prop :=
  (f = false ∧ b = 0 ∧ ∀ j x, j < k → l[j]? = some x → ¬ Cand o x) ∨ (f = true ∧ b ∈ l ∧ Cand o b ∧ ∀ j x, j < k → l[j]? = some x → Cand o x → b ≤ x)
theorem MinC.start (o l : List Nat) : MinC o l 0 false 0 := .inl ⟨rfl, rfl, fun j x h => by omega⟩
theorem MinC.skip {o l : List Nat} {k : Nat} {f : Bool} {b x : Nat} (h : MinC o l k f b) (hx : l[k]? = some x) (hn : ¬ Cand o x ∨ (f = true ∧ b ≤ x)) : MinC o l (k + 1) f b := by
  rcases h with ⟨h1, h2, h3⟩ | ⟨h1, h2, h3, h4⟩
  · refine .inl ⟨h1, h2, fun j y hj hy hc => ?_⟩
    by_cases e : j = k
    · subst e; rw [hx] at hy; cases hy
      rcases hn with hn | hn
      · exact hn hc
      · rw [h1] at hn; exact absurd hn.1 (by simp)
    · exact h3 j y (by omega) hy hc
  · refine .inr ⟨h1, h2, h3, fun j y hj hy hc => ?_⟩
    by_cases e : j = k
    · subst e; rw [hx] at hy; cases hy
      rcases hn with hn | hn
      · exact absurd hc hn
      · exact hn.2
    · exact h4 j y (by omega) hy hc
theorem MinC.take {o l : List Nat} {k : Nat} {f : Bool} {b x : Nat} (h : MinC o l k f b) (hx : l[k]? = some x) (hc : Cand o x) (hn : f = false ∨ x < b) : MinC o l (k + 1) true x := by
  refine .inr ⟨rfl, List.mem_of_getElem? hx, hc, fun j y hj hy hcy => ?_⟩
  by_cases e : j = k
  · subst e; rw [hx] at hy; cases hy; exact Nat.le_refl _
  · rcases h with ⟨h1, h2, h3⟩ | ⟨h1, h2, h3, h4⟩
    · exact absurd hcy (h3 j y (by omega) hy)
    · have := h4 j y (by omega) hy hcy
      rcases hn with hn | hn
      · rw [h1] at hn; cases hn
      · omega
def Sel (o l : List Nat) : Prop := Asc o ∧ (∀ x ∈ o, x ∈ l) ∧ ∀ x ∈ l, x ∈ o ∨ Cand o x
theorem Sel.start (l : List Nat) : Sel [] l := ⟨List.Pairwise.nil, (fun x h => by cases h), fun x _ => .inr (cand_nil x)⟩
theorem Sel.step {o l : List Nat} {b : Nat} (h : Sel o l) (hm : MinC o l l.length true b) : Sel (o ++ [b]) l ∧ rem (o ++ [b]) l < rem o l := by
  rcases hm with ⟨h1, _⟩ | ⟨_, h2, h3, h4⟩
  · cases h1
  · refine ⟨⟨asc_snoc h.1 h3, fun x hx => ?_, fun x hx => ?_⟩, rem_lt h2 h3⟩
    · rcases List.mem_append.1 hx with h5 | h5
      · exact h.2.1 x h5
      · rw [List.mem_singleton.1 h5]; exact h2
    · rcases h.2.2 x hx with h5 | h5
      · exact .inl (List.mem_append_left _ h5)
      · obtain ⟨j, hj⟩ := List.getElem?_of_mem hx
        have hle := h4 j x (List.getElem?_eq_some_iff.1 hj).1 hj h5
        by_cases e : x = b
        · subst e; exact .inl (by simp)
        · refine .inr fun y hy => ?_
          rcases List.mem_append.1 hy with h6 | h6
          · exact h5 y h6
          · rw [List.mem_singleton.1 h6]; omega
theorem Sel.done {o l : List Nat} {b : Nat} (h : Sel o l) (hm : MinC o l l.length false b) : IsSet l o := by
  rcases hm with ⟨_, _, h3⟩ | ⟨h1, _⟩
  · refine ⟨h.1, fun x => ⟨h.2.1 x, fun hx => ?_⟩⟩
    rcases h.2.2 x hx with h5 | h5
    · exact h5
    · obtain ⟨j, hj⟩ := List.getElem?_of_mem hx
      exact absurd h5 (h3 j x (List.getElem?_eq_some_iff.1 hj).1 hj)
  · cases h1
/-- an ascending list with members of another one is no longer than it -/
theorem asc_len : ∀ {l o : List Nat}, Asc o → (∀ x ∈ o, x ∈ l) → o.length ≤ l.length
  | l, [], _, _ => Nat.zero_le _
  | l, x :: o, h, hm => by
    have hx : x ∈ l := hm x (by simp)
    have ih := asc_len (l := l.erase x) (o := o) h.tail (fun y hy => by
      have hne : y ≠ x := by have := h.head hy; omega
      exact (List.mem_erase_of_ne hne).2 (hm y (List.mem_cons_of_mem _ hy)))
    rw [List.length_erase_of_mem hx] at ih
    have : 0 < l.length := List.length_pos_of_mem hx
    simp only [List.length_cons]; omega
end Go.Proofs.YtaniiennfogjaaaDoor.T
set_option linter.unusedSimpArgs false
set_option linter.unusedVariables false
namespace Go.Proofs.YtaniiennfogjaaaDoor.T
open Go.Lib
def exA : List UInt8 := [54, 53, 48, 48, 48, 58, 49, 48, 48]
def exB : List UInt8 := [54, 53, 53, 51, 53, 58, 54, 53, 50, 56, 49]
theorem dec_step' (n : Nat) (h : ¬ n < 10) : decDigits n = decDigits (n / 10) ++ [UInt8.ofNat (48 + n % 10)] := by rw [decDigits, dif_neg h]
theorem dec_one' (n : Nat) (h : n < 10) : decDigits n = [UInt8.ofNat (48 + n)] := by rw [decDigits, dif_pos h]
theorem d65000 : decDigits 65000 = [54, 53, 48, 48, 48] := by
  rw [dec_step' 65000 (by omega), dec_step' (65000 / 10) (by omega), dec_step' (65000 / 10 / 10) (by omega), dec_step' (65000 / 10 / 10 / 10) (by omega), dec_one' (65000 / 10 / 10 / 10 / 10) (by omega)]; rfl
theorem d100 : decDigits 100 = [49, 48, 48] := by
  rw [dec_step' 100 (by omega), dec_step' (100 / 10) (by omega), dec_one' (100 / 10 / 10) (by omega)]; rfl
theorem tx_exA : txC 4259840100 = exA := by
  rw [tx_parts (by unfold Known; omega)]
  unfold parts
  rw [show 4259840100 / 65536 = 65000 from rfl, show 4259840100 % 65536 = 100 from rfl, d65000, d100]; rfl
theorem pr_exA : PrC exA 4259840100 0 := parse_yes (by omega) tx_exA
theorem pr_exB : PrC exB 0 2 := by
  refine parse_other (a := 65535) (b := 65281) (by decide) (by decide) (by decide) (by decide) (by rfl) (by rfl) ?_
  rw [show 65535 * 65536 + 65281 = 4294967041 from rfl]
  unfold txC
  rw [if_neg (by omega), if_pos rfl]
  decide
theorem pr_no : PrC nmB 4294967041 0 := parse_yes (by omega) (by unfold txC; rw [if_neg (by omega), if_pos rfl])
theorem set53 : IsSet [5, 3] [3, 5] := ⟨by unfold Asc; decide, fun x => by simp; omega⟩
theorem set534 : IsSet ([5, 3] ++ [4]) [3, 4, 5] := ⟨by unfold Asc; decide, fun x => by simp; omega⟩
theorem set345 : IsSet [3, 4, 5] [3, 4, 5] := ⟨by unfold Asc; decide, fun x => Iff.rfl⟩
theorem set3459 : IsSet ([3, 4, 5] ++ [9]) [3, 4, 5, 9] := ⟨by unfold Asc; decide, fun x => by simp⟩
end Go.Proofs.YtaniiennfogjaaaDoor.T
