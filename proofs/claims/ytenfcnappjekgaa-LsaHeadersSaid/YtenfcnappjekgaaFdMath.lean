/-
  Plain facts of the binary fields: numbers in bytes, typed fields one after the other.
-/
namespace Go.Proofs.Ytenfcnappjekgaa

/-- the lowest n bytes of x, the most significant first -/
def lowB (n x : Nat) : List Nat := (List.range n).map fun i => x / 256 ^ (n - 1 - i) % 256
theorem lowB_len (n x : Nat) : (lowB n x).length = n := by simp [lowB]
theorem lowB_get (n x i : Nat) (h : i < n) : (lowB n x)[i]? = some (x / 256 ^ (n - 1 - i) % 256) := by simp [lowB, h]
theorem lowB_succ (n x : Nat) : lowB (n + 1) x = lowB n (x / 256) ++ [x % 256] := by
  apply List.ext_getElem?
  intro i
  rcases (by omega : i < n ∨ i = n ∨ n < i) with h | h | h
  · rw [lowB_get _ _ _ (by omega), List.getElem?_append_left (by rw [lowB_len]; exact h), lowB_get _ _ _ h]
    rw [show n + 1 - 1 - i = (n - 1 - i) + 1 by omega, Nat.pow_succ, Nat.mul_comm, Nat.div_div_eq_div_mul]
  · subst h
    rw [lowB_get _ _ _ (by omega), List.getElem?_append_right (by rw [lowB_len]; omega), lowB_len]
    simp
  · rw [List.getElem?_eq_none (by rw [lowB_len]; omega), List.getElem?_eq_none (by simp [lowB_len]; omega)]
theorem lowB_bytes (n x : Nat) : ∀ y ∈ lowB n x, y < 256 := by
  intro y hy
  obtain ⟨i, _, rfl⟩ := List.mem_map.1 hy
  exact Nat.mod_lt _ (by omega)
theorem lowB_rev (n x k : Nat) (h : k < n) : (lowB n x).take (n - k) = (lowB n x).take (n - (k + 1)) ++ [x / 256 ^ k % 256] := by
  have e : n - k = n - (k + 1) + 1 := by omega
  rw [e, List.take_add_one, lowB_get _ _ _ (by omega)]
  rw [show n - 1 - (n - (k + 1)) = k by omega]; rfl

/-- the number that bytes give -/
def beV (l : List Nat) : Nat := l.foldl (fun a c => a * 256 + c) 0
theorem beV_snoc (l : List Nat) (x : Nat) : beV (l ++ [x]) = beV l * 256 + x := by unfold beV; rw [List.foldl_append]; rfl
theorem beV_lt (l : List Nat) : (∀ x ∈ l, x < 256) → beV l < 256 ^ l.length := by
  induction hl : l.length generalizing l with
  | zero => intro _; obtain rfl := List.length_eq_zero_iff.1 hl; simp [beV]
  | succ n ih =>
    intro h
    obtain ⟨l', c, rfl⟩ : ∃ l' c, l = l' ++ [c] := ⟨l.dropLast, l.getLast (by intro h0; rw [h0] at hl; simp at hl), (List.dropLast_concat_getLast _).symm⟩
    have h1 : l'.length = n := by simpa using hl
    have h2 := ih l' h1 (fun x hx => h x (by simp [hx]))
    have h3 := h c (by simp)
    rw [beV_snoc, Nat.pow_succ]; omega
theorem beV_low (n : Nat) : ∀ x, beV (lowB n x) = x % 256 ^ n := by
  induction n with
  | zero => intro x; simp [lowB, beV, Nat.mod_one]
  | succ n ih =>
    intro x
    rw [lowB_succ, beV_snoc, ih, Nat.pow_succ, Nat.mul_comm (256 ^ n) 256, Nat.mod_mul]; omega
theorem beV_lt8 (l : List Nat) (h : ∀ x ∈ l, x < 256) (h8 : l.length ≤ 8) : beV l < 18446744073709551616 :=
  Nat.lt_of_lt_of_le (beV_lt l h) (Nat.le_trans (Nat.pow_le_pow_right (by omega) h8) (by decide))
theorem beV_lt7 (l : List Nat) (h : ∀ x ∈ l, x < 256) (h8 : l.length ≤ 7) : beV l < 72057594037927936 :=
  Nat.lt_of_lt_of_le (beV_lt l h) (Nat.le_trans (Nat.pow_le_pow_right (by omega) h8) (by decide))
theorem or_byte (a c : Nat) (h : c < 256) : a * 256 ||| c = a * 256 + c := by
  have := Nat.shiftLeft_add_eq_or_of_lt (i := 8) (b := c) (by omega) a
  rw [Nat.shiftLeft_eq] at this
  exact this.symm

/-- typed fields, one after the other -/
def tlvF : Nat → List Nat → Option (List (Nat × List Nat))
  | _, [] => some []
  | 0, _ :: _ => none
  | n + 1, k :: a :: b :: r => if r.length < 256 * a + b then none else (tlvF n (r.drop (256 * a + b))).map ((k, r.take (256 * a + b)) :: ·)
  | _ + 1, _ => none
def tlvs (b : List Nat) : Option (List (Nat × List Nat)) := tlvF b.length b
theorem tlvF_more : ∀ (n : Nat) (b : List Nat) (m : Nat), b.length ≤ n → n ≤ m → tlvF m b = tlvF n b := by
  intro n
  induction n with
  | zero => intro b m h _; obtain rfl := List.length_eq_zero_iff.1 (by omega : b.length = 0); simp [tlvF]
  | succ n ih =>
    intro b m h hm
    obtain ⟨m, rfl⟩ : ∃ j, m = j + 1 := ⟨m - 1, by omega⟩
    match b with
    | [] => simp [tlvF]
    | [_] => simp [tlvF]
    | [_, _] => simp [tlvF]
    | k :: x :: y :: r =>
      simp only [tlvF]
      split
      · rfl
      · rw [ih _ m (by simp at h ⊢; omega) (by omega)]
theorem tlvs_nil : tlvs [] = some [] := rfl
theorem tlvs_one (k : Nat) : tlvs [k] = none := rfl
theorem tlvs_two (k a : Nat) : tlvs [k, a] = none := rfl
theorem tlvs_cons (k a b : Nat) (r : List Nat) : tlvs (k :: a :: b :: r) = if r.length < 256 * a + b then none else (tlvs (r.drop (256 * a + b))).map ((k, r.take (256 * a + b)) :: ·) := by
  unfold tlvs
  simp only [List.length_cons, tlvF]
  split
  · rfl
  · rw [tlvF_more _ _ (r.length + 1 + 1) (Nat.le_refl _) (by simp; omega)]
/-- one field's bytes -/
def encT (t : Nat × List Nat) : List Nat := t.1 :: t.2.length / 256 :: t.2.length % 256 :: t.2
theorem encT_len (t : Nat × List Nat) : (encT t).length = t.2.length + 3 := by simp [encT]
theorem tlvs_enc (t : Nat × List Nat) (r : List Nat) : tlvs (encT t ++ r) = (tlvs r).map (t :: ·) := by
  unfold encT
  simp only [List.cons_append]
  rw [tlvs_cons]
  have e : 256 * (t.2.length / 256) + t.2.length % 256 = t.2.length := Nat.div_add_mod _ _
  rw [e, if_neg (by simp)]
  simp
theorem tlvs_all (l : List (Nat × List Nat)) : tlvs (l.flatMap encT) = some l := by
  induction l with
  | nil => rfl
  | cons t r ih => rw [List.flatMap_cons, tlvs_enc, ih]; rfl
/-- bytes that end within a field are no sequence of fields -/
theorem tlvs_cut (t : Nat × List Nat) (c : Nat) (h0 : 0 < c) (h : c < (encT t).length) : tlvs ((encT t).take c) = none := by
  rw [encT_len] at h
  unfold encT
  match c, h0 with
  | 1, _ => rfl
  | 2, _ => rfl
  | c + 3, _ =>
    simp only [List.take_succ_cons]
    rw [tlvs_cons]
    have e : 256 * (t.2.length / 256) + t.2.length % 256 = t.2.length := Nat.div_add_mod _ _
    rw [e, if_pos (by simp; omega)]
/-- the bytes ahead of field i -/
def offs (l : List (Nat × List Nat)) (i : Nat) : Nat := ((l.take i).flatMap encT).length
theorem tlvs_prefix (l : List (Nat × List Nat)) : ∀ (c : Nat), c < (l.flatMap encT).length → (∀ i, i < l.length → c ≠ offs l i) → tlvs ((l.flatMap encT).take c) = none := by
  induction l with
  | nil => intro c h; simp at h
  | cons t r ih =>
    intro c h hn
    have h0 : 0 < c := by have := hn 0 (by simp); simp [offs] at this; omega
    rw [List.flatMap_cons] at h ⊢
    by_cases hc : c < (encT t).length
    · rw [List.take_append_of_le_length (by omega)]; exact tlvs_cut t c h0 hc
    · have e : c = (encT t).length + (c - (encT t).length) := by omega
      rw [e, List.take_length_add_append, tlvs_enc, ih]
      · rfl
      · rw [List.length_append] at h; omega
      · intro i hi he
        have := hn (i + 1) (by simpa using hi)
        apply this
        simp only [offs, List.take_succ_cons, List.flatMap_cons, List.length_append] at he ⊢
        omega
end Go.Proofs.Ytenfcnappjekgaa
