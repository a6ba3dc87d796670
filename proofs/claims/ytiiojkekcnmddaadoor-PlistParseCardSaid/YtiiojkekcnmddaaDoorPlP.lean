/-
  Texts of rules are parsed again; covering is transitive.
-/
import Derived.Test.YtiiojkekcnmddaaDoorPlI
import Derived.Test.YtiiojkekcnmddaaDoorPlM
namespace Go.Proofs.YtiiojkekcnmddaaDoor
open Go.RowKit
set_option linter.unusedSimpArgs false
set_option linter.unusedVariables false
set_option maxHeartbeats 2000000
set_option maxRecDepth 100000

theorem val4 (a : Nat) (ha : a < 4294967296) : valA [a / 16777216, a / 65536 % 256, a / 256 % 256, a % 256] = a := by
  simp [valA]; omega
theorem dec46 (n : Nat) : (46 : UInt8) ∉ Lib.decDigits n := T.dig_no46 (T.dec_facts n).1
theorem dec47 (n : Nat) : (47 : UInt8) ∉ Lib.decDigits n := T.dig_no47 (T.dec_facts n).1
theorem pa_addr (a : Nat) (ha : a < 4294967296) : pa (addrT a) = some a := by
  have hc : Lib.countByte (addrT a) 46 = 3 := by
    unfold addrT
    rw [T.count_app _ _ _ (dec46 _), T.count_app _ _ _ (dec46 _), T.count_app _ _ _ (dec46 _)]
    unfold Lib.countByte; rw [List.count_eq_zero_of_not_mem (dec46 _)]
  have h4 : T.codeN 4 (addrT a) = some [a / 16777216, a / 65536 % 256, a / 256 % 256, a % 256] := by
    unfold addrT
    rw [T.codeN, (T.word_of (dec46 _)).1, (T.word_of (dec46 _)).2, T.pnum_dec _ 255 (by omega) (by omega),
      T.codeN, (T.word_of (dec46 _)).1, (T.word_of (dec46 _)).2, T.pnum_dec _ 255 (by omega) (by omega),
      T.codeN, (T.word_of (dec46 _)).1, (T.word_of (dec46 _)).2, T.pnum_dec _ 255 (by omega) (by omega),
      T.codeN, (T.word_none (dec46 _)).1, (T.word_none (dec46 _)).2, T.pnum_dec _ 255 (by omega) (by omega)]
    rfl
  unfold pa
  rw [if_pos hc, h4, Option.map_some, val4 a ha]
theorem code_step {k : Nat} {l : List UInt8} {ns : List Nat} (hc : Lib.countByte l 46 = k + 1) (h : T.codeN (k + 2) l = some ns) :
    ∃ n ms t, ns = n :: ms ∧ n ≤ 255 ∧ l = Lib.decDigits n ++ 46 :: t ∧ Lib.countByte t 46 = k ∧ T.codeN (k + 1) t = some ms := by
  rcases T.split_word 46 l with ⟨_, _, h3⟩ | ⟨h1, h2⟩
  · unfold Lib.countByte at hc; rw [List.count_eq_zero_of_not_mem h3] at hc; omega
  · rw [T.codeN] at h
    cases hp : T.pnum (T.wordC 46 l) 255 with
    | none => rw [hp] at h; cases h
    | some n =>
      rw [hp] at h
      obtain ⟨ms, hm, hns⟩ := Option.map_eq_some_iff.1 h
      refine ⟨n, ms, T.restC 46 l, hns.symm, T.pnum_le hp, ?_, ?_, hm⟩
      · rw [T.dec_pnum hp]; exact h1
      · have := T.count_app (T.wordC 46 l) (T.restC 46 l) 46 h2
        rw [← h1, hc] at this; omega
theorem code_last {l : List UInt8} {ns : List Nat} (hc : Lib.countByte l 46 = 0) (h : T.codeN 1 l = some ns) : ∃ n, ns = [n] ∧ n ≤ 255 ∧ l = Lib.decDigits n := by
  have hn : (46 : UInt8) ∉ l := by unfold Lib.countByte at hc; exact List.count_eq_zero.1 hc
  rw [T.codeN, (T.word_none hn).1] at h
  cases hp : T.pnum l 255 with
  | none => rw [hp] at h; cases h
  | some n =>
    rw [hp] at h
    simp [T.codeN] at h
    exact ⟨n, h.symm, T.pnum_le hp, (T.dec_pnum hp).symm⟩
theorem addr_pa {l : List UInt8} {c : Nat} (h : pa l = some c) : addrT c = l := by
  unfold pa at h
  split at h
  · rename_i hc
    obtain ⟨ns, h1, h2⟩ := Option.map_eq_some_iff.1 h
    obtain ⟨n0, m0, t0, rfl, b0, rfl, c0, k0⟩ := code_step hc h1
    obtain ⟨n1, m1, t1, rfl, b1, rfl, c1, k1⟩ := code_step c0 k0
    obtain ⟨n2, m2, t2, rfl, b2, rfl, c2, k2⟩ := code_step c1 k1
    obtain ⟨n3, rfl, b3, rfl⟩ := code_last c2 k2
    have hv : c = ((n0 * 256 + n1) * 256 + n2) * 256 + n3 := by rw [← h2]; simp [valA]
    unfold addrT
    rw [show c / 16777216 = n0 by omega, show c / 65536 % 256 = n1 by omega, show c / 256 % 256 = n2 by omega, show c % 256 = n3 by omega]
  · cases h
theorem addr47 (a : Nat) : (47 : UInt8) ∉ addrT a := by
  unfold addrT
  intro h
  simp only [List.mem_append, List.mem_cons] at h
  rcases h with h | h | h | h | h | h | h
  · exact dec47 _ h
  · cases h
  · exact dec47 _ h
  · cases h
  · exact dec47 _ h
  · cases h
  · exact dec47 _ h
theorem pr_text (a : Nat) (ha : a < 4294967296) (n : Int) (h0 : 0 ≤ n) (h1 : n ≤ 32) : pr (textT a n) = some (a, n.toNat) := by
  unfold pr textT
  rw [if_pos (by simp), (T.word_of (addr47 a)).1, (T.word_of (addr47 a)).2, pa_addr a ha, T.pnum_dec _ 32 (by omega) (by omega)]; rfl
theorem text_pr {l : List UInt8} {c n : Nat} (h : pr l = some (c, n)) : textT c (n : Int) = l ∧ c < 4294967296 ∧ n ≤ 32 := by
  unfold pr at h
  split at h
  · rename_i hm
    cases hp : pa (T.wordC 47 l) with
    | none => rw [hp] at h; cases h
    | some a =>
      rw [hp] at h
      obtain ⟨m, hq, he⟩ := Option.map_eq_some_iff.1 (show (T.pnum (T.restC 47 l) 32).map (fun n => (a, n)) = some (c, n) from h)
      simp at he
      obtain ⟨rfl, rfl⟩ := he
      refine ⟨?_, pa_lt hp, T.pnum_le hq⟩
      unfold textT
      rw [addr_pa hp, show ((m : Int)).toNat = m by omega, T.dec_pnum hq]
      exact (split47 hm).1.symm
  · cases h
theorem keep_keep (x n m : Nat) (h : m ≤ n) (hn : n ≤ 32) : M.keepN (M.keepN x n) m = M.keepN x m := by
  unfold M.keepN
  have e : 2 ^ (32 - m) = 2 ^ (32 - n) * 2 ^ (n - m) := by rw [← Nat.pow_add]; congr 1; omega
  have hp : 0 < 2 ^ (32 - n) := Nat.pow_pos (by omega)
  rw [e, ← Nat.div_div_eq_div_mul, ← Nat.div_div_eq_div_mul, Nat.mul_div_cancel _ hp]
theorem low_in {n : Int} (h0 : 0 ≤ n) (h1 : n ≤ 32) : M.lowN n 32 = n.toNat := by unfold M.lowN; omega
theorem con_parts {a : Nat} {n : Int} {x : Nat} (h : con a n x = true) : vld a n = true ∧ M.keepN x (M.lowN n 32) = a := by unfold con at h; simpa using h
theorem cov_parts {a : Nat} {n : Int} {b : Nat} {m : Int} (h : cov a n b m = true) : vld b m = true ∧ n ≤ m ∧ con a n b = true := by unfold cov at h; simpa using h
theorem cov_mk {a : Nat} {n : Int} {b : Nat} {m : Int} (h1 : vld b m = true) (h2 : n ≤ m) (h3 : con a n b = true) : cov a n b m = true := by unfold cov; simp [h1, h2, h3]
theorem con_mk {a : Nat} {n : Int} {x : Nat} (h1 : vld a n = true) (h2 : M.keepN x (M.lowN n 32) = a) : con a n x = true := by unfold con; simp [h1, h2]
theorem con_le {a b : Nat} {n m : Int} {x : Nat} (h1 : con a n x = true) (h2 : con b m x = true) (h : n ≤ m) : cov a n b m = true := by
  obtain ⟨v1, k1⟩ := con_parts h1
  obtain ⟨v2, k2⟩ := con_parts h2
  have i1 := vld_in v1
  have i2 := vld_in v2
  refine cov_mk v2 h (con_mk v1 ?_)
  rw [← k2, low_in i1.1 i1.2.1, low_in i2.1 i2.2.1, keep_keep x _ _ (by omega) (by omega), ← low_in i1.1 i1.2.1]; exact k1
theorem nested {a b : Nat} {n m : Int} {x : Nat} (h1 : con a n x = true) (h2 : con b m x = true) : cov a n b m = true ∨ cov b m a n = true := by
  rcases (by omega : n ≤ m ∨ m ≤ n) with h | h
  · exact .inl (con_le h1 h2 h)
  · exact .inr (con_le h2 h1 h)
theorem cov_trans {a b c : Nat} {n m k : Int} (h1 : cov a n b m = true) (h2 : cov b m c k = true) : cov a n c k = true := by
  obtain ⟨v1, l1, c1⟩ := cov_parts h1
  obtain ⟨v2, l2, c2⟩ := cov_parts h2
  obtain ⟨u1, k1⟩ := con_parts c1
  obtain ⟨u2, k2⟩ := con_parts c2
  have i1 := vld_in u1
  have i2 := vld_in u2
  refine cov_mk v2 (by omega) (con_mk u1 ?_)
  have := keep_keep c (M.lowN m 32) (M.lowN n 32) (by rw [low_in i1.1 i1.2.1, low_in i2.1 i2.2.1]; omega) (M.lowN_le _ _)
  rw [k2] at this
  rw [← this]; exact k1
theorem dig_no32 {l : List UInt8} (h : T.Dig l) : (32 : UInt8) ∉ l := fun hh => by have := h _ hh; revert this; decide
theorem dig_no45 {l : List UInt8} (h : T.Dig l) : (45 : UInt8) ∉ l := fun hh => by have := h _ hh; revert this; decide
theorem dec32 (n : Nat) : (32 : UInt8) ∉ Lib.decDigits n := dig_no32 (T.dec_facts n).1
theorem dec45 (n : Nat) : (45 : UInt8) ∉ Lib.decDigits n := dig_no45 (T.dec_facts n).1
theorem text32 (a : Nat) (n : Int) : (32 : UInt8) ∉ textT a n := by
  unfold textT addrT
  intro h
  simp only [List.mem_append, List.mem_cons] at h
  have e1 : ¬ (32 : UInt8) = 46 := by decide
  have e2 : ¬ (32 : UInt8) = 47 := by decide
  have := dec32
  simp [e1, e2, this] at h
theorem word32 (pm : Bool) : (32 : UInt8) ∉ wordR pm := by cases pm <;> decide
def dig2 (k : Nat) : List UInt8 := if k < 10 then [UInt8.ofNat (48 + k)] else [UInt8.ofNat (48 + k / 10), UInt8.ofNat (48 + k % 10)]
theorem dec_dig2 (k : Nat) (h : k < 100) : Lib.decDigits k = dig2 k := by
  unfold dig2
  split
  · rename_i h1; exact Lib.decDigits_one h1
  · rename_i h1; exact Lib.decDigits_two h1 h
theorem atoi_dig : ∀ k : Nat, k < 33 → atoiV (dig2 k) = (k : Int) := by decide +kernel
theorem atoi_dec (x : Int) (h0 : 0 ≤ x) (h1 : x ≤ 32) : atoiV (Lib.decDigits x.toNat) = x := by
  rw [dec_dig2 _ (by omega), atoi_dig _ (by omega)]; omega
theorem pV_text (a : Nat) (n : Int) (ha : a < 4294967296) (hv : vld a n = true) : pV (textT a n) = (a, n) := by
  have hn := vld_in hv
  have e : ((n.toNat : Nat) : Int) = n := by omega
  unfold pV
  rw [pr_text a ha n hn.1 hn.2.1]
  simp only [e, hv]
  rfl
theorem cand_text (r : Ru) (hr : RuOk r) (h : chkR r = 0) : candR (rtxtL r) = r := by
  obtain ⟨hv, z0, z1, z2, z3⟩ := chk_zero h
  obtain ⟨pm, ⟨a, n⟩, mn, mx⟩ := r
  dsimp only at *
  have hw : T.wordC 32 (rtxtL (pm, (a, n), mn, mx)) = wordR pm ∧ T.restC 32 (rtxtL (pm, (a, n), mn, mx)) = textT a n ++ rngT n mn mx := T.word_of (word32 pm)
  have hpm : decide (wordR pm = permitL) = pm := by cases pm <;> decide
  by_cases hx : mn = n ∧ mx = n
  · have e : rngT n mn mx = [] := if_pos hx
    rw [e, List.append_nil] at hw
    have hno := T.word_none (text32 a n)
    unfold candR
    rw [hw.1, hw.2, if_neg (text32 a n), hno.1, pV_text a n hr.1 hv, hpm, hx.1, hx.2]
  · have e : rngT n mn mx = 32 :: (Lib.decDigits mn.toNat ++ 45 :: Lib.decDigits mx.toNat) := if_neg hx
    rw [e] at hw
    have h2 : T.wordC 32 (textT a n ++ 32 :: (Lib.decDigits mn.toNat ++ 45 :: Lib.decDigits mx.toNat)) = textT a n ∧ T.restC 32 (textT a n ++ 32 :: (Lib.decDigits mn.toNat ++ 45 :: Lib.decDigits mx.toNat)) = Lib.decDigits mn.toNat ++ 45 :: Lib.decDigits mx.toNat := T.word_of (text32 a n)
    have h3 : T.wordC 45 (Lib.decDigits mn.toNat ++ 45 :: Lib.decDigits mx.toNat) = Lib.decDigits mn.toNat ∧ T.restC 45 (Lib.decDigits mn.toNat ++ 45 :: Lib.decDigits mx.toNat) = Lib.decDigits mx.toNat := T.word_of (dec45 _)
    unfold candR
    rw [hw.1, hw.2, if_pos (by simp), h2.1, h2.2, h3.1, h3.2, pV_text a n hr.1 hv, hpm, atoi_dec mn (by omega) (by omega), atoi_dec mx (by omega) (by omega)]
theorem par_text (r : Ru) (hr : RuOk r) (h : chkR r = 0) : parR (rtxtL r) = some r := by
  unfold parR
  rw [cand_text r hr h, if_pos ⟨h, rfl⟩]
theorem par_some {l : List UInt8} {r : Ru} (h : parR l = some r) : chkR r = 0 ∧ rtxtL r = l ∧ RuOk r := by
  unfold parR at h
  split at h
  · rename_i hc
    cases h
    exact ⟨hc.1, hc.2, candR_ok l⟩
  · cases h
theorem txt_len (r : Ru) (hr : RuOk r) (h : chkR r = 0) : (rtxtL r).length ≤ 100 := by
  obtain ⟨hv, z0, z1, z2, z3⟩ := chk_zero h
  obtain ⟨pm, ⟨a, n⟩, mn, mx⟩ := r
  dsimp only at *
  have s1 := head_size a hr.1 n z0 (by omega) pm
  rw [bs_app, bs_size] at s1
  have e1 : (Lib.decDigits mn.toNat).length ≤ 2 := by rw [dec_dig2 _ (by omega)]; unfold dig2; split <;> simp
  have e2 : (Lib.decDigits mx.toNat).length ≤ 2 := by rw [dec_dig2 _ (by omega)]; unfold dig2; split <;> simp
  have e3 : (rngT n mn mx).length ≤ 6 := by
    unfold rngT
    split
    · simp
    · simp; omega
  simp at s1
  unfold rtxtL
  simp
  omega
theorem covR_trans {a b c : Ru} (h1 : covR a b = true) (h2 : covR b c = true) : covR a c = true := by
  unfold covR at *
  simp only [Bool.and_eq_true, decide_eq_true_eq] at *
  exact ⟨cov_trans h1.1 h2.1, by omega, by omega⟩
end Go.Proofs.YtiiojkekcnmddaaDoor
