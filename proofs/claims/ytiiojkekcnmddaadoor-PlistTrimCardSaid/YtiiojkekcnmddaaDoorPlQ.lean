/-
  Mathematics of trimming: what is permitted stays, twice is once, and what the reference leaves is the same.
-/
import Derived.Test.YtiiojkekcnmddaaDoorPlP
namespace Go.Proofs.YtiiojkekcnmddaaDoor
open Go.RowKit
set_option linter.unusedSimpArgs false
set_option linter.unusedVariables false
set_option maxHeartbeats 2000000
set_option maxRecDepth 100000

theorem mat_parts {r : Ru} {p : Nat × Int} (h : matR r p = true) : chkR r = 0 ∧ cov r.2.1.1 r.2.1.2 p.1 p.2 = true ∧ r.2.2.1 ≤ p.2 ∧ p.2 ≤ r.2.2.2 := by
  unfold matR at h
  simp only [Bool.and_eq_true, decide_eq_true_eq, beq_iff_eq] at h
  exact ⟨h.1, h.2.1, h.2.2.1, h.2.2.2⟩
theorem mat_mk {r : Ru} {p : Nat × Int} (h0 : chkR r = 0) (h1 : cov r.2.1.1 r.2.1.2 p.1 p.2 = true) (h2 : r.2.2.1 ≤ p.2) (h3 : p.2 ≤ r.2.2.2) : matR r p = true := by
  unfold matR
  simp only [Bool.and_eq_true, decide_eq_true_eq, beq_iff_eq]
  exact ⟨h0, h1, h2, h3⟩
theorem covR_parts {r q : Ru} (h : covR r q = true) : cov r.2.1.1 r.2.1.2 q.2.1.1 q.2.1.2 = true ∧ r.2.2.1 ≤ q.2.2.1 ∧ q.2.2.2 ≤ r.2.2.2 := by
  unfold covR at h
  simpa only [Bool.and_eq_true, decide_eq_true_eq] using h
theorem mat_mono {q r : Ru} {p : Nat × Int} (hq : chkR q = 0) (hc : covR q r = true) (hm : matR r p = true) : matR q p = true := by
  obtain ⟨_, m1, m2, m3⟩ := mat_parts hm
  obtain ⟨c1, c2, c3⟩ := covR_parts hc
  exact mat_mk hq (cov_trans c1 m1) (by omega) (by omega)
theorem covR_refl {r : Ru} (h : chkR r = 0) : covR r r = true := by
  have hv := (chk_zero h).1
  have hk := (vld_in hv).2.2
  unfold covR cov con
  simp [hv, hk]
theorem keep_parts {kept : List Ru} {r : Ru} (h : keepU kept r = true) : chkR r = 0 ∧ ∀ q ∈ kept, covR q r = false := by
  unfold keepU at h
  simp only [Bool.and_eq_true, beq_iff_eq, Bool.not_eq_true', List.any_eq_false] at h
  exact ⟨h.1, fun q hq => by have := h.2 q hq; simpa using this⟩
theorem keep_no {kept : List Ru} {r : Ru} (h : keepU kept r = false) : chkR r ≠ 0 ∨ ∃ q ∈ kept, covR q r = true := by
  by_cases h0 : chkR r = 0
  · right
    unfold keepU at h
    rw [h0] at h
    simp only [beq_self_eq_true, Bool.true_and, Bool.not_eq_false', List.any_eq_true] at h
    exact h
  · exact .inl h0
theorem trim_cons_yes {kept rs : List Ru} {r : Ru} (h : keepU kept r = true) : trimL kept (r :: rs) = trimL (kept ++ [r]) rs := by rw [trimL, h]; rfl
theorem trim_cons_no {kept rs : List Ru} {r : Ru} (h : keepU kept r = false) : trimL kept (r :: rs) = trimL kept rs := by rw [trimL, h]; rfl
theorem perm_append (a b : List Ru) (p : Nat × Int) : permB (a ++ b) p = bif a.any (fun r => matR r p) then permB a p else permB b p := by
  unfold permB
  rw [List.find?_append]
  cases h : a.find? (fun r => matR r p) with
  | none =>
    have : a.any (fun r => matR r p) = false := by
      rw [List.any_eq_false]
      intro r hr
      exact (List.find?_eq_none.1 h) r hr
    rw [this]; rfl
  | some r =>
    have : a.any (fun r => matR r p) = true := List.any_eq_true.2 ⟨r, List.mem_of_find?_eq_some h, List.find?_some (p := fun r => matR r p) h⟩
    rw [this]; rfl
theorem perm_skip {r : Ru} {b : List Ru} {p : Nat × Int} (h : matR r p = false) : permB (r :: b) p = permB b p := by
  unfold permB
  rw [List.find?_cons, h]
theorem trim_perm : ∀ (rs kept : List Ru) (p : Nat × Int), (∀ q ∈ kept, chkR q = 0) → permB (trimL kept rs) p = permB (kept ++ rs) p
  | [], kept, p, _ => by rw [trimL, List.append_nil]
  | r :: rs, kept, p, hk => by
    cases h : keepU kept r with
    | true =>
      rw [trim_cons_yes h, trim_perm rs (kept ++ [r]) p, List.append_assoc]
      · rfl
      · intro q hq
        rcases List.mem_append.1 hq with h1 | h1
        · exact hk q h1
        · obtain rfl : q = r := by simpa using h1
          exact (keep_parts h).1
    | false =>
      rw [trim_cons_no h, trim_perm rs kept p hk, perm_append, perm_append]
      cases ha : kept.any (fun r => matR r p) with
      | true => rfl
      | false =>
        have hm : matR r p = false := by
          cases hm : matR r p with
          | false => rfl
          | true =>
            rcases keep_no h with h1 | ⟨q, hq, hc⟩
            · exact absurd (mat_parts hm).1 h1
            · have := mat_mono (hk q hq) hc hm
              have h2 := List.any_eq_false.1 ha q hq
              rw [this] at h2; simp at h2
        show permB rs p = permB (r :: rs) p
        rw [perm_skip hm]
theorem trim_permR (rs : List Ru) (p : Nat × Int) : permB (trimR rs) p = permB rs p := trim_perm rs [] p (fun q h => by cases h)
theorem trim_len_le : ∀ (rs kept : List Ru), (trimL kept rs).length ≤ kept.length + rs.length
  | [], kept => by rw [trimL]; simp
  | r :: rs, kept => by
    cases h : keepU kept r with
    | true => rw [trim_cons_yes h]; have := trim_len_le rs (kept ++ [r]); simp at this ⊢; omega
    | false => rw [trim_cons_no h]; have := trim_len_le rs kept; simp; omega
theorem trimR_len (rs : List Ru) : (trimR rs).length ≤ rs.length := by have := trim_len_le rs []; simpa [trimR] using this
def Good (l : List Ru) : Prop := ∀ (k : Nat) (r : Ru), l[k]? = some r → keepU (l.take k) r = true
theorem good_trim : ∀ (rs kept : List Ru), Good kept → Good (trimL kept rs)
  | [], kept, h => by rw [trimL]; exact h
  | r :: rs, kept, h => by
    cases hk : keepU kept r with
    | true =>
      rw [trim_cons_yes hk]
      refine good_trim rs (kept ++ [r]) (fun k y hy => ?_)
      by_cases hlt : k < kept.length
      · rw [List.getElem?_append_left hlt] at hy
        rw [List.take_append_of_le_length (by omega)]
        exact h k y hy
      · have hl := (List.getElem?_eq_some_iff.1 hy).1
        have e : k = kept.length := by simp at hl; omega
        subst e
        rw [List.getElem?_append_right (Nat.le_refl _), Nat.sub_self] at hy
        obtain rfl : r = y := by simpa using hy
        rw [List.take_append_of_le_length (Nat.le_refl _), List.take_length]
        exact hk
    | false => rw [trim_cons_no hk]; exact good_trim rs kept h
theorem good_fix : ∀ (rs kept : List Ru), Good (kept ++ rs) → trimL kept rs = kept ++ rs
  | [], kept, _ => by rw [trimL, List.append_nil]
  | r :: rs, kept, h => by
    have hk : keepU kept r = true := by
      have := h kept.length r (by rw [List.getElem?_append_right (Nat.le_refl _), Nat.sub_self]; rfl)
      rwa [List.take_append_of_le_length (Nat.le_refl _), List.take_length] at this
    rw [trim_cons_yes hk, good_fix rs (kept ++ [r]) (by rw [List.append_assoc]; exact h), List.append_assoc]
    rfl
theorem trim_twice (rs : List Ru) : trimR (trimR rs) = trimR rs := by
  have h : Good (trimR rs) := good_trim rs [] (fun k r h => by simp at h)
  have := good_fix (trimR rs) [] (by simpa using h)
  simpa [trimR] using this
theorem trim_valid (rs : List Ru) : ∀ r ∈ trimR rs, chkR r = 0 := by
  intro r hr
  obtain ⟨k, hk⟩ := List.getElem?_of_mem hr
  exact (keep_parts (good_trim rs [] (fun k r h => by simp at h) k r hk)).1
/-- what the reference keeps of a rule behind others -/
def keepF (prev : List Ru) (r : Ru) : Bool := (chkR r == 0) && !(prev.any (fun q => (chkR q == 0) && covR q r))
def trimF : List Ru → List Ru → List Ru
  | _, [] => []
  | prev, r :: rs => bif keepF prev r then r :: trimF (prev ++ [r]) rs else trimF (prev ++ [r]) rs
theorem keepF_eq {prev kept : List Ru} {r : Ru} (h1 : ∀ q ∈ kept, q ∈ prev ∧ chkR q = 0) (h2 : ∀ q ∈ prev, chkR q = 0 → ∃ k ∈ kept, covR k q = true) : keepF prev r = keepU kept r := by
  unfold keepF keepU
  congr 2
  apply Bool.eq_iff_iff.2
  simp only [List.any_eq_true, Bool.and_eq_true, beq_iff_eq]
  constructor
  · rintro ⟨q, hq, h0, hc⟩
    obtain ⟨k, hk, hkq⟩ := h2 q hq h0
    exact ⟨k, hk, covR_trans hkq hc⟩
  · rintro ⟨k, hk, hc⟩
    exact ⟨k, (h1 k hk).1, (h1 k hk).2, hc⟩
theorem trimF_eq : ∀ (rs prev kept : List Ru), (∀ q ∈ kept, q ∈ prev ∧ chkR q = 0) → (∀ q ∈ prev, chkR q = 0 → ∃ k ∈ kept, covR k q = true) → trimL kept rs = kept ++ trimF prev rs
  | [], prev, kept, _, _ => by rw [trimL, trimF, List.append_nil]
  | r :: rs, prev, kept, h1, h2 => by
    have hk := keepF_eq (r := r) h1 h2
    rw [trimF]
    cases h : keepU kept r with
    | true =>
      rw [h] at hk
      rw [hk, trim_cons_yes h, trimF_eq rs (prev ++ [r]) (kept ++ [r]), List.append_assoc]
      · rfl
      · intro q hq
        rcases List.mem_append.1 hq with h3 | h3
        · exact ⟨List.mem_append_left _ (h1 q h3).1, (h1 q h3).2⟩
        · obtain rfl : q = r := by simpa using h3
          exact ⟨by simp, (keep_parts h).1⟩
      · intro q hq h0
        rcases List.mem_append.1 hq with h3 | h3
        · obtain ⟨k, hk1, hk2⟩ := h2 q h3 h0
          exact ⟨k, List.mem_append_left _ hk1, hk2⟩
        · obtain rfl : q = r := by simpa using h3
          exact ⟨q, by simp, covR_refl h0⟩
    | false =>
      rw [h] at hk
      rw [hk, trim_cons_no h, trimF_eq rs (prev ++ [r]) kept]
      · rfl
      · intro q hq
        exact ⟨List.mem_append_left _ (h1 q hq).1, (h1 q hq).2⟩
      · intro q hq h0
        rcases List.mem_append.1 hq with h3 | h3
        · exact h2 q h3 h0
        · obtain rfl : q = r := by simpa using h3
          rcases keep_no h with h4 | ⟨k, hk1, hk2⟩
          · exact absurd h0 h4
          · exact ⟨k, hk1, hk2⟩
theorem trimR_F (rs : List Ru) : trimR rs = trimF [] rs := by
  have := trimF_eq rs [] [] (fun q h => by cases h) (fun q h => by cases h)
  simpa [trimR] using this
end Go.Proofs.YtiiojkekcnmddaaDoor
