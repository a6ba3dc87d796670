/-
  Plain facts of the checksums: the two Fletcher sums, the sum of the words, what one change does to them.
-/
namespace Go.Proofs.Ytenfcnappjekgaa

/-- the second Fletcher sum -/
def sum2 : List Nat → Nat
  | [] => 0
  | x :: r => (r.length + 1) * x + sum2 r
theorem sum_snoc (l : List Nat) (x : Nat) : (l ++ [x]).sum = l.sum + x := by simp
theorem sum2_snoc (l : List Nat) (x : Nat) : sum2 (l ++ [x]) = sum2 l + (l.sum + x) := by
  induction l with
  | nil => simp [sum2]
  | cons y r ih => simp only [List.cons_append, sum2, ih, List.length_append, List.length_cons, List.length_nil, List.sum_cons]; grind
/-- weighted by n, n - 1, .. -/
def wsum : Nat → List Nat → Nat
  | _, [] => 0
  | n, x :: r => n * x + wsum (n - 1) r
theorem wsum_snoc (l : List Nat) : ∀ (n x : Nat), wsum n (l ++ [x]) = wsum n l + (n - l.length) * x := by
  induction l with
  | nil => intro n x; simp [wsum]
  | cons y r ih => intro n x; simp only [List.cons_append, wsum, ih, List.length_cons]; rw [show n - 1 - r.length = n - (r.length + 1) by omega]; omega
theorem wsum_len (l : List Nat) : wsum l.length l = sum2 l := by
  induction l with
  | nil => rfl
  | cons y r ih => simp [wsum, sum2, ih]
theorem sum_set (l : List Nat) : ∀ (i x y : Nat), l[i]? = some y → (l.set i x).sum + y = l.sum + x := by
  induction l with
  | nil => intro i x y h; simp at h
  | cons a r ih =>
    intro i x y h
    cases i with
    | zero => simp at h; subst h; simp; omega
    | succ i => simp at h; have := ih i x y h; simp; omega
theorem sum2_set (l : List Nat) : ∀ (i x y : Nat), l[i]? = some y → sum2 (l.set i x) + (l.length - i) * y = sum2 l + (l.length - i) * x := by
  induction l with
  | nil => intro i x y h; simp at h
  | cons a r ih =>
    intro i x y h
    cases i with
    | zero => simp at h; subst h; simp [sum2]; omega
    | succ i =>
      simp at h; have := ih i x y h
      simp only [List.set_cons_succ, sum2, List.length_set, List.length_cons, Nat.add_sub_add_right]; omega

/-- the bytes at even and at odd indices -/
def evod : List Nat → Nat × Nat
  | [] => (0, 0)
  | x :: r => (x + (evod r).2, (evod r).1)
def ws (l : List Nat) : Nat := 256 * (evod l).1 + (evod l).2
theorem evod_snoc (l : List Nat) (x : Nat) : evod (l ++ [x]) = if l.length % 2 = 0 then ((evod l).1 + x, (evod l).2) else ((evod l).1, (evod l).2 + x) := by
  induction l with
  | nil => simp [evod]
  | cons y r ih =>
    simp only [List.cons_append, evod, ih, List.length_cons]
    split <;> rename_i h
    · rw [if_neg (by omega)]
    · rw [if_pos (by omega)]; simp; omega
theorem ws_snoc (l : List Nat) (x : Nat) : ws (l ++ [x]) = ws l + if l.length % 2 = 0 then x * 256 else x := by
  unfold ws; rw [evod_snoc]; split <;> simp <;> omega
theorem evod_set (l : List Nat) : ∀ (i x y : Nat), l[i]? = some y →
    (evod (l.set i x)).1 + (if i % 2 = 0 then y else 0) = (evod l).1 + (if i % 2 = 0 then x else 0) ∧ (evod (l.set i x)).2 + (if i % 2 = 0 then 0 else y) = (evod l).2 + (if i % 2 = 0 then 0 else x) := by
  induction l with
  | nil => intro i x y h; simp at h
  | cons a r ih =>
    intro i x y h
    cases i with
    | zero => simp at h; subst h; simp [evod]; omega
    | succ i =>
      simp at h; have := ih i x y h
      simp only [List.set_cons_succ, evod]
      by_cases e : i % 2 = 0
      · rw [if_neg (by omega), if_neg (by omega), if_neg (by omega), if_neg (by omega)]; simp [e] at this ⊢; omega
      · rw [if_pos (by omega), if_pos (by omega), if_pos (by omega), if_pos (by omega)]; simp [e] at this ⊢; omega
theorem ws_set (l : List Nat) (i x y : Nat) (h : l[i]? = some y) : ws (l.set i x) + (if i % 2 = 0 then 256 else 1) * y = ws l + (if i % 2 = 0 then 256 else 1) * x := by
  have := evod_set l i x y h
  unfold ws
  split at this <;> rename_i e <;> simp [e] at this ⊢ <;> omega

def Bytes (l : List Nat) : Prop := ∀ x ∈ l, x < 256
theorem Bytes.get {l : List Nat} (h : Bytes l) {i x : Nat} (hx : l[i]? = some x) : x < 256 := h x (List.mem_of_getElem? hx)
theorem Bytes.take {l : List Nat} (h : Bytes l) (k : Nat) : Bytes (l.take k) := fun x hx => h x (List.mem_of_mem_take hx)
theorem Bytes.drop {l : List Nat} (h : Bytes l) (k : Nat) : Bytes (l.drop k) := fun x hx => h x (List.mem_of_mem_drop hx)
theorem Bytes.app {l m : List Nat} (h : Bytes l) (g : Bytes m) : Bytes (l ++ m) := fun x hx => by
  rcases List.mem_append.1 hx with e | e
  · exact h x e
  · exact g x e
theorem Bytes.set {l : List Nat} (h : Bytes l) (i : Nat) {x : Nat} (hx : x < 256) : Bytes (l.set i x) := fun y hy => by
  rcases List.mem_or_eq_of_mem_set hy with e | e
  · exact h y e
  · omega
theorem evod_le (l : List Nat) (h : Bytes l) : (evod l).1 ≤ 255 * l.length ∧ (evod l).2 ≤ 255 * l.length := by
  induction l with
  | nil => simp [evod]
  | cons x r ih =>
    have h1 := h x (by simp)
    have h2 := ih (fun y hy => h y (by simp [hy]))
    simp only [evod, List.length_cons]; omega
theorem take_snoc {l : List Nat} {k x : Nat} (h : l[k]? = some x) : l.take (k + 1) = l.take k ++ [x] := by
  have hlt := (List.getElem?_eq_some_iff.1 h).1
  rw [List.take_succ_eq_append_getElem hlt, (List.getElem?_eq_some_iff.1 h).2]

/-- the number from 1 to m that differs from n by a multiple of m, as the code computes it -/
def res (n m : Int) : Int := if n.tmod m ≤ 0 then n.tmod m + m else n.tmod m
theorem res_spec (n m : Int) (hm : 0 < m) : 1 ≤ res n m ∧ res n m ≤ m ∧ ∃ k, res n m = n + m * k := by
  have h1 := Int.mul_tdiv_add_tmod n m
  have h2 := Int.tmod_lt_of_pos n hm
  have h3 : -m < n.tmod m := by
    have := Int.tmod_lt_of_pos (-n) hm
    rw [Int.neg_tmod] at this; omega
  unfold res
  split
  · exact ⟨by omega, by omega, 1 - n.tdiv m, by rw [Int.mul_sub]; omega⟩
  · exact ⟨by omega, by omega, - n.tdiv m, by rw [Int.mul_neg]; omega⟩
theorem res_eq {n x : Int} {m : Int} (hm : 0 < m) (h1 : 1 ≤ x) (h2 : x ≤ m) {k : Int} (h : x = n + m * k) : res n m = x := by
  obtain ⟨a, b, j, e⟩ := res_spec n m hm
  have : res n m - x = m * (j - k) := by rw [Int.mul_sub]; omega
  have hj : j - k = 0 := by
    rcases (by omega : j - k = 0 ∨ 1 ≤ j - k ∨ j - k ≤ -1) with h | h | h
    · exact h
    · have : m * 1 ≤ m * (j - k) := Int.mul_le_mul_of_nonneg_left h (by omega); omega
    · have : m * (j - k) ≤ m * (-1) := Int.mul_le_mul_of_nonneg_left h (by omega); omega
  rw [hj] at this; omega

/-- Internet -/
def inet (l : List Nat) : Int := if ws l = 0 then 65535 else 65535 - res (ws l) 65535
theorem inet_ref (l : List Nat) (h : ws l ≠ 0) : inet l = 65535 - ((ws l : Int) - 1) % 65535 - 1 := by
  unfold inet; rw [if_neg h]
  rw [res_eq (x := ((ws l : Int) - 1) % 65535 + 1) (k := - (((ws l : Int) - 1) / 65535)) (by omega) (by omega) (by omega) (by omega)]; omega
theorem inet_of (l m : List Nat) (h : inet l = inet m) : ∃ k : Int, (ws l : Int) - ws m = 65535 * k := by
  unfold inet at h
  obtain ⟨a1, a2, i, a3⟩ := res_spec (ws l) 65535 (by omega)
  obtain ⟨b1, b2, j, b3⟩ := res_spec (ws m) 65535 (by omega)
  split at h <;> split at h
  · exact ⟨0, by omega⟩
  · omega
  · omega
  · exact ⟨j - i, by omega⟩
theorem inet_change (l : List Nat) (i x y : Nat) (h : l[i]? = some y) (hx : x < 256) (hy : y < 256) (hne : x ≠ y) : inet (l.set i x) ≠ inet l := by
  intro e
  obtain ⟨k, hk⟩ := inet_of _ _ e
  have := ws_set l i x y h
  split at this <;> omega

/-- the Fletcher sums -/
def fl1 (l : List Nat) : Nat := l.sum % 255
def fl2 (l : List Nat) : Nat := sum2 l % 255
def val (l : List Nat) : Bool := fl1 l == 0 && fl2 l == 0
theorem val_iff (l : List Nat) : val l = true ↔ fl1 l = 0 ∧ fl2 l = 0 := by simp [val]
theorem val_change (l : List Nat) (i x y : Nat) (h : l[i]? = some y) (hx : x < 256) (hy : y < 256) (hne : x ≠ y) (h1 : ¬ (y = 0 ∧ x = 255)) (h2 : ¬ (y = 255 ∧ x = 0)) (hv : val l = true) : val (l.set i x) = false := by
  rw [val_iff] at hv
  rw [Bool.eq_false_iff]
  intro hw
  rw [val_iff] at hw
  have := sum_set l i x y h
  unfold fl1 at hv hw
  omega

/-- the two bytes that Fletcher returns, for the sums of the slice with zeros there -/
def flx (a s t : Nat) : Int := res ((a : Int) * s - t) 255
def fly (a s t : Nat) : Int := res (-(s : Int) - flx a s t) 255
def blank (l : List Nat) (i : Nat) : List Nat := (l.set i 0).set (i + 1) 0
theorem blank_eq (l : List Nat) (i : Nat) (h : i + 1 < l.length) : l.take i ++ [0, 0] ++ l.drop (i + 2) = blank l i := by
  unfold blank
  apply List.ext_getElem?
  intro j
  rw [List.getElem?_set, List.getElem?_set]
  rcases (by omega : j < i ∨ j = i ∨ j = i + 1 ∨ i + 2 ≤ j) with e | e | e | e
  · rw [if_neg (by omega), if_neg (by omega), List.append_assoc, List.getElem?_append_left (by simp; omega), List.getElem?_take_of_lt e]
  · subst e; rw [if_neg (by omega), if_pos rfl, if_pos (by omega), List.append_assoc, List.getElem?_append_right (by simp; omega)]; simp [Nat.min_eq_left (by omega : j ≤ l.length)]
  · subst e; rw [if_pos rfl, List.length_set, if_pos h, List.append_assoc, List.getElem?_append_right (by simp; omega)]; simp [Nat.min_eq_left (by omega : i ≤ l.length)]
  · rw [if_neg (by omega), if_neg (by omega), List.getElem?_append_right (by simp; omega)]; simp [Nat.min_eq_left (by omega : i ≤ l.length), Nat.add_assoc]
    congr 1; omega
theorem blank_len (l : List Nat) (i : Nat) : (blank l i).length = l.length := by simp [blank]
def flv (l : List Nat) (i : Nat) : Int := 256 * flx ((l.length - 1 - i) % 255) (fl1 (blank l i)) (fl2 (blank l i)) + fly ((l.length - 1 - i) % 255) (fl1 (blank l i)) (fl2 (blank l i))
theorem flx_b (a s t : Nat) : 1 ≤ flx a s t ∧ flx a s t ≤ 255 := ⟨(res_spec _ _ (by omega)).1, (res_spec _ _ (by omega)).2.1⟩
theorem fly_b (a s t : Nat) : 1 ≤ fly a s t ∧ fly a s t ≤ 255 := ⟨(res_spec _ _ (by omega)).1, (res_spec _ _ (by omega)).2.1⟩
/-- what is stored -/
def stow (l : List Nat) (i x y : Nat) : List Nat := (l.set i x).set (i + 1) y
theorem stow_len (l : List Nat) (i x y : Nat) : (stow l i x y).length = l.length := by simp [stow]
theorem stow_blank (l : List Nat) (i x y : Nat) : stow (blank l i) i x y = stow l i x y := by
  unfold stow blank
  apply List.ext_getElem?
  intro j
  simp only [List.getElem?_set, List.length_set]
  grind
theorem stow_sums (l : List Nat) (i x y : Nat) (h : i + 1 < l.length) :
    (stow l i x y).sum = (blank l i).sum + x + y ∧ sum2 (stow l i x y) = sum2 (blank l i) + (l.length - i) * x + (l.length - 1 - i) * y := by
  rw [← stow_blank]
  have e0 : (blank l i)[i]? = some 0 := by unfold blank; simp [List.getElem?_set]; omega
  have e1 : ((blank l i).set i x)[i + 1]? = some 0 := by unfold blank; simp [List.getElem?_set]; omega
  have a := sum_set _ i x 0 e0
  have b := sum_set _ (i + 1) y 0 e1
  have c := sum2_set _ i x 0 e0
  have d := sum2_set _ (i + 1) y 0 e1
  simp only [List.length_set, blank_len] at c d
  rw [show l.length - (i + 1) = l.length - 1 - i by omega] at d
  unfold stow
  exact ⟨by omega, by omega⟩
theorem stored (l : List Nat) (i x y : Nat) (h : i + 1 < l.length) (hx : (x : Int) = flx ((l.length - 1 - i) % 255) (fl1 (blank l i)) (fl2 (blank l i)))
    (hy : (y : Int) = fly ((l.length - 1 - i) % 255) (fl1 (blank l i)) (fl2 (blank l i))) : val (stow l i x y) = true := by
  rw [val_iff]
  obtain ⟨s1, s2⟩ := stow_sums l i x y h
  unfold fl1 fl2
  rw [s1, s2]
  obtain ⟨_, _, j, ex⟩ := res_spec ((((l.length - 1 - i) % 255 : Nat) : Int) * (fl1 (blank l i) : Nat) - (fl2 (blank l i) : Nat)) 255 (by omega)
  obtain ⟨_, _, k, ey⟩ := res_spec (-((fl1 (blank l i) : Nat) : Int) - flx ((l.length - 1 - i) % 255) (fl1 (blank l i)) (fl2 (blank l i))) 255 (by omega)
  have ex' : (x : Int) = _ := hx.trans ex
  have ey' : (y : Int) = _ := hy.trans ey
  rw [← hx] at ey'
  clear ex ey hx hy s1 s2
  have hS : ∃ c : Int, ((blank l i).sum : Int) = fl1 (blank l i) + 255 * c := ⟨((blank l i).sum / 255 : Nat), by unfold fl1; omega⟩
  have hT : ∃ c : Int, (sum2 (blank l i) : Int) = fl2 (blank l i) + 255 * c := ⟨(sum2 (blank l i) / 255 : Nat), by unfold fl2; omega⟩
  have hA : ∃ c : Int, ((l.length - 1 - i : Nat) : Int) = ((l.length - 1 - i) % 255 : Nat) + 255 * c := ⟨((l.length - 1 - i) / 255 : Nat), by omega⟩
  obtain ⟨c1, hS⟩ := hS
  obtain ⟨c2, hT⟩ := hT
  obtain ⟨c3, hA⟩ := hA
  have hn : l.length - i = l.length - 1 - i + 1 := by omega
  rw [hn]
  generalize (l.length - 1 - i) % 255 = a at *
  generalize l.length - 1 - i = A at *
  generalize (blank l i).sum = S at *
  generalize sum2 (blank l i) = T at *
  generalize fl1 (blank l i) = s at *
  generalize fl2 (blank l i) = t at *
  constructor
  · omega
  · have : ((T + (A + 1) * x + A * y : Nat) : Int) = 255 * (c2 + j + (A : Int) * k - s * c3) := by
      push_cast
      have e : (T : Int) + (A + 1) * x + A * y = T + x + A * (x + y) := by grind
      have exy : (x : Int) + y = 255 * k - s := by omega
      rw [e, exy, hT, ex', hA]
      grind
    omega
theorem okx (a s t w x : Nat) (ha : a < 255) (hw : w = (a + 1) % 255) (h1 : 1 ≤ x) (h2 : x ≤ 255) :
    (t + w * x + (w + 254) % 255 * (255 - (s + x) % 255)) % 255 = 0 ↔ (x : Int) = flx a s t := by
  have e : (w + 254) % 255 = a := by omega
  rw [e]
  obtain ⟨b1, b2, j, ej⟩ := res_spec ((a : Int) * s - t) 255 (by omega)
  have hy : ∃ c : Int, ((255 - (s + x) % 255 : Nat) : Int) = - (s : Int) - x + 255 * c := ⟨(s + x) / 255 + 1, by omega⟩
  have hw' : ∃ c : Int, (w : Int) = a + 1 + 255 * c := ⟨-(((a + 1) / 255 : Nat) : Int), by omega⟩
  obtain ⟨c1, hy⟩ := hy
  obtain ⟨c2, hw'⟩ := hw'
  have key : ((t + w * x + a * (255 - (s + x) % 255) : Nat) : Int) = (x : Int) - ((a : Int) * s - t) + 255 * (c2 * x + a * c1) := by
    rw [show ((t + w * x + a * (255 - (s + x) % 255) : Nat) : Int) = (t : Int) + w * x + a * ((255 - (s + x) % 255 : Nat) : Int) by push_cast; rfl]
    rw [hy, hw']; grind
  unfold flx
  generalize (a : Int) * s - t = n at *
  constructor
  · intro h
    have : (x : Int) = n + 255 * (((x : Int) - n) / 255) := by omega
    exact (res_eq (by omega) (by omega) (by omega) this).symm
  · intro h; omega
theorem oky (a s t x : Nat) (h : (x : Int) = flx a s t) : ((255 - (s + x) % 255 : Nat) : Int) = fly a s t := by
  unfold fly
  rw [← h]
  exact (res_eq (k := (s + x) / 255 + 1) (by omega) (by omega) (by omega) (by omega)).symm
theorem flx_some (a s t : Nat) : ∃ x : Nat, (x : Int) = flx a s t ∧ 1 ≤ x ∧ x ≤ 255 := by
  have := flx_b a s t
  exact ⟨(flx a s t).toNat, by omega, by omega, by omega⟩
theorem fly_some (a s t : Nat) : ∃ x : Nat, (x : Int) = fly a s t ∧ 1 ≤ x ∧ x ≤ 255 := by
  have := fly_b a s t
  exact ⟨(fly a s t).toNat, by omega, by omega, by omega⟩

/-- the words of a slice, two exchanged -/
def swapW (l : List Nat) (i k : Nat) (a b c d : Nat) : List Nat := (((l.set (2 * i) c).set (2 * i + 1) d).set (2 * k) a).set (2 * k + 1) b
theorem ws_swap (l : List Nat) (i k a b c d : Nat) (ha : l[2 * i]? = some a) (hb : l[2 * i + 1]? = some b) (hc : l[2 * k]? = some c) (hd : l[2 * k + 1]? = some d) : ws (swapW l i k a b c d) = ws l := by
  unfold swapW
  have la := (List.getElem?_eq_some_iff.1 ha).1
  have lb := (List.getElem?_eq_some_iff.1 hb).1
  have lc := (List.getElem?_eq_some_iff.1 hc).1
  have ld := (List.getElem?_eq_some_iff.1 hd).1
  have w1 := ws_set l (2 * i) c a ha
  have w2 := ws_set (l.set (2 * i) c) (2 * i + 1) d b (by rw [List.getElem?_set_ne (by omega)]; exact hb)
  by_cases e : i = k
  · subst e
    have := Option.some.inj (ha.symm.trans hc)
    have := Option.some.inj (hb.symm.trans hd)
    subst_vars
    have id : ∀ (m : List Nat) (j x : Nat), m[j]? = some x → m.set j x = m := fun m j x h => by
      obtain ⟨h1, h2⟩ := List.getElem?_eq_some_iff.1 h
      rw [← h2]; exact List.set_getElem_self h1
    rw [id l _ _ ha, id l _ _ hb, id l _ _ ha, id l _ _ hb]
  · have w3 := ws_set ((l.set (2 * i) c).set (2 * i + 1) d) (2 * k) a c (by rw [List.getElem?_set_ne (by omega), List.getElem?_set_ne (by omega)]; exact hc)
    have w4 := ws_set (((l.set (2 * i) c).set (2 * i + 1) d).set (2 * k) a) (2 * k + 1) b d (by rw [List.getElem?_set_ne (by omega), List.getElem?_set_ne (by omega), List.getElem?_set_ne (by omega)]; exact hd)
    rw [if_pos (by omega)] at w1 w3
    rw [if_neg (by omega)] at w2 w4
    omega
end Go.Proofs.Ytenfcnappjekgaa
