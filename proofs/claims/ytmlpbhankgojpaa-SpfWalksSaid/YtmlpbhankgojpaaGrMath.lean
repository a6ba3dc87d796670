/-
  The mathematics of graphs: allowed edges, order, what Check says.
-/
namespace Go.Proofs.Ytmlpbhankgojpaa
namespace GM
set_option linter.unusedVariables false
set_option linter.unusedSimpArgs false

abbrev E := Int × Int × Int
def isN (R N x : Int) : Bool := decide (0 ≤ x ∧ x < R + N)
/-- may it cost that -/
def costOK (R : Int) (e : E) : Bool := if R ≤ e.1 then decide (e.2.2 = 0) else decide (1 ≤ e.2.2 ∧ e.2.2 ≤ 65535)
/-- the error of an edge by itself -/
def alw (R N : Int) (e : E) : Int :=
  if isN R N e.1 = true ∧ isN R N e.2.1 = true then
    if e.1 = e.2.1 ∨ (R ≤ e.1 ∧ R ≤ e.2.1) ∨ costOK R e = false then 1 else 0
  else 5
/-- by From, then by To -/
def bef (a b : E) : Bool := decide (a.1 < b.1 ∨ a.1 = b.1 ∧ a.2.1 < b.2.1)
def ordC (a b : E) : Int := if a.1 < b.1 then -1 else if b.1 < a.1 then 1 else if a.2.1 < b.2.1 then -1 else if b.2.1 < a.2.1 then 1 else 0
theorem bef_iff {a b : E} : bef a b = true ↔ a.1 < b.1 ∨ a.1 = b.1 ∧ a.2.1 < b.2.1 := by unfold bef; simp
theorem ordC_neg {a b : E} : ordC a b < 0 ↔ bef a b = true := by rw [bef_iff]; unfold ordC; split <;> (try split) <;> (try split) <;> (try split) <;> omega
theorem ordC_nonneg {a b : E} : 0 ≤ ordC a b ↔ bef a b = false := by
  have := ordC_neg (a := a) (b := b)
  cases h : bef a b
  · rw [h] at this; simp at this; simp; omega
  · rw [h] at this; simp at this; simp; omega
theorem ordC_zero {a b : E} : ordC a b = 0 ↔ a.1 = b.1 ∧ a.2.1 = b.2.1 := by unfold ordC; split <;> (try split) <;> (try split) <;> (try split) <;> omega
/-- in order behind prev -/
def pe (prev : Option E) (e : E) : Bool := match prev with | some p => bef p e | none => true
/-- the first error behind prev -/
def scan (R N : Int) : Option E → List E → Int
  | _, [] => 0
  | prev, e :: r => if alw R N e ≠ 0 then alw R N e else if pe prev e = false then 16 else scan R N (some e) r
def chk (R N : Int) (l : List E) : Int := if R < 0 ∨ N < 0 then 5 else if 128 < R + N ∨ 1024 < l.length then 4 else scan R N none l
def prevO (l : List E) : Nat → Option E
  | 0 => none
  | k + 1 => l[k]?
theorem scan_drop {R N : Int} {l : List E} {k : Nat} {e : E} (h : l[k]? = some e) : scan R N (prevO l k) (l.drop k) = if alw R N e ≠ 0 then alw R N e else if pe (prevO l k) e = false then 16 else scan R N (prevO l (k + 1)) (l.drop (k + 1)) := by
  obtain ⟨hk, he⟩ := List.getElem?_eq_some_iff.1 h
  have e2 : l.drop k = e :: l.drop (k + 1) := by rw [← he]; exact List.drop_eq_getElem_cons hk
  rw [e2, show prevO l (k + 1) = some e from h]
  rfl
theorem scan_end {R N : Int} {l : List E} : scan R N (prevO l l.length) (l.drop l.length) = 0 := by rw [List.drop_length]; cases prevO l l.length <;> rfl
/-- a valid graph -/
structure Valid (R N : Int) (l : List E) : Prop where
  r : 0 ≤ R
  n : 0 ≤ N
  s : R + N ≤ 128
  len : l.length ≤ 1024
  al : ∀ e ∈ l, alw R N e = 0
  asc : l.Pairwise (fun a b => bef a b = true)
theorem bef_trans {a b c : E} (h : bef a b = true) (k : bef b c = true) : bef a c = true := by rw [bef_iff] at *; omega
theorem scan_iff {R N : Int} : ∀ {l : List E} {prev : Option E}, scan R N prev l = 0 ↔ (∀ e ∈ l, alw R N e = 0) ∧ l.Pairwise (fun a b => bef a b = true) ∧ ∀ p, prev = some p → ∀ e ∈ l, bef p e = true
  | [], prev => by simp [scan]
  | e :: r, prev => by
    have ih := scan_iff (R := R) (N := N) (l := r) (prev := some e)
    unfold scan
    by_cases h : alw R N e ≠ 0
    · rw [if_pos h]
      constructor
      · intro h'; exact absurd h' h
      · intro h'; exact absurd (h'.1 e (by simp)) h
    · rw [if_neg h]
      have h0 : alw R N e = 0 := by simpa using h
      cases prev with
      | none =>
        rw [if_neg (show ¬ pe none e = false by simp [pe]), ih]
        constructor
        · rintro ⟨a, b, c⟩
          exact ⟨fun x hx => (List.mem_cons.1 hx).elim (fun e1 => e1 ▸ h0) (a x), List.pairwise_cons.2 ⟨fun x hx => c e rfl x hx, b⟩, fun p hp => by cases hp⟩
        · rintro ⟨a, b, c⟩
          obtain ⟨b1, b2⟩ := List.pairwise_cons.1 b
          exact ⟨fun x hx => a x (by simp [hx]), b2, fun p hp x hx => by cases hp; exact b1 x hx⟩
      | some p =>
        cases hb : bef p e
        · rw [if_pos (show pe (some p) e = false from hb)]
          constructor
          · intro h'; exact absurd h' (by decide)
          · rintro ⟨_, _, c⟩
            have := c p rfl e (by simp)
            rw [hb] at this; cases this
        · rw [if_neg (show ¬ pe (some p) e = false by show ¬ bef p e = false; rw [hb]; decide), ih]
          constructor
          · rintro ⟨a, b, c⟩
            refine ⟨fun x hx => (List.mem_cons.1 hx).elim (fun e1 => e1 ▸ h0) (a x), List.pairwise_cons.2 ⟨fun x hx => c e rfl x hx, b⟩, fun q hq x hx => ?_⟩
            cases hq
            rcases List.mem_cons.1 hx with rfl | hx
            · exact hb
            · exact bef_trans hb (c e rfl x hx)
          · rintro ⟨a, b, c⟩
            obtain ⟨b1, b2⟩ := List.pairwise_cons.1 b
            exact ⟨fun x hx => a x (by simp [hx]), b2, fun q hq x hx => by cases hq; exact b1 x hx⟩
theorem chk_iff {R N : Int} {l : List E} : chk R N l = 0 ↔ Valid R N l := by
  unfold chk
  constructor
  · intro h
    split at h
    · omega
    · split at h
      · omega
      · have := scan_iff.1 h
        exact ⟨by omega, by omega, by omega, by omega, this.1, this.2.1⟩
  · rintro ⟨a, b, c, d, e, f⟩
    rw [if_neg (by omega), if_neg (by omega)]
    exact scan_iff.2 ⟨e, f, fun p hp => by cases hp⟩
theorem alw_cases {R N : Int} {e : E} : alw R N e = 0 ↔ (0 ≤ e.1 ∧ e.1 < R + N) ∧ (0 ≤ e.2.1 ∧ e.2.1 < R + N) ∧ e.1 ≠ e.2.1 ∧ ¬ (R ≤ e.1 ∧ R ≤ e.2.1) ∧ costOK R e = true := by
  unfold alw isN
  simp only [decide_eq_true_eq]
  constructor
  · intro h
    split at h
    · split at h
      · omega
      · rename_i h1 h2
        refine ⟨h1.1, h1.2, fun e1 => h2 (.inl e1), fun e1 => h2 (.inr (.inl e1)), ?_⟩
        cases hc : costOK R e
        · exact absurd (.inr (.inr hc)) h2
        · rfl
    · omega
  · rintro ⟨a, b, c, d, f⟩
    rw [if_pos ⟨a, b⟩, if_neg]
    rintro (h | h | h)
    · exact c h
    · exact d h
    · rw [f] at h; cases h
end GM
end Go.Proofs.Ytmlpbhankgojpaa
