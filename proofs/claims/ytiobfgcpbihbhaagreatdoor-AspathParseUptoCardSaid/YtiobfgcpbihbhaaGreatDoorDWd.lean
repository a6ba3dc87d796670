/-
  Plain facts of the words of a line.
-/
import Derived.Test.YtiobfgcpbihbhaaGreatDoorDText
import Derived.Lib.IndexBytes
import Derived.Lib.SplitLaws
import Derived.Lib.Split
set_option linter.unusedSimpArgs false
set_option linter.unusedVariables false
namespace Go.Proofs.YtiobfgcpbihbhaaGreatDoor.T
open Go.Lib

def parts (c : UInt8) : List UInt8 → List (List UInt8)
  | [] => [[]]
  | x :: r => if x = c then [] :: parts c r else match parts c r with
    | [] => [[x]]
    | p :: ps => (x :: p) :: ps
theorem parts_ne (c : UInt8) (l : List UInt8) : parts c l ≠ [] := by
  cases l with
  | nil => simp [parts]
  | cons x r => simp only [parts]; split <;> (try split) <;> simp
theorem parts_len (c : UInt8) (l : List UInt8) : (parts c l).length ≤ l.length + 1 := by
  induction l with
  | nil => simp [parts]
  | cons x r ih =>
    simp only [parts]
    split
    · simp; omega
    · split
      · simp
      · rename_i p ps h; rw [h] at ih; simp at ih ⊢; omega
theorem parts_cut (c : UInt8) (p r : List UInt8) (h : c ∉ p) : parts c (p ++ c :: r) = p :: parts c r := by
  induction p with
  | nil => simp [parts]
  | cons x p ih =>
    have hx : x ≠ c := fun e => h (by simp [e])
    rw [List.cons_append]
    simp only [parts]
    rw [if_neg hx, ih (fun hp => h (by simp [hp]))]
theorem parts_miss (c : UInt8) (l : List UInt8) (h : c ∉ l) : parts c l = [l] := by
  induction l with
  | nil => rfl
  | cons x p ih =>
    have hx : x ≠ c := fun e => h (by simp [e])
    simp only [parts]
    rw [if_neg hx, ih (fun hp => h (by simp [hp]))]
theorem index_hit (c : UInt8) (p r : List UInt8) (h : c ∉ p) : indexByte (p ++ c :: r) c = p.length := by
  induction p with
  | nil => simp [indexByte]
  | cons x p ih =>
    have hx : (x == c) = false := by simp; intro e; exact h (by simp [e])
    rw [List.cons_append, indexByte, hx, ih (fun hp => h (by simp [hp]))]
    have : ((p.length : Int) == -1) = false := beq_eq_false_iff_ne.2 (by omega)
    rw [this]; simp
theorem index_miss (c : UInt8) (l : List UInt8) (h : c ∉ l) : indexByte l c = -1 := by
  induction l with
  | nil => rfl
  | cons x p ih =>
    have hx : (x == c) = false := by simp; intro e; exact h (by simp [e])
    rw [indexByte, hx, ih (fun hp => h (by simp [hp]))]; rfl
theorem splitK_parts (c : UInt8) : ∀ (k : Nat) (l : List UInt8), l.count c = k → splitK [c] 0 k l = parts c l := by
  intro k
  induction k with
  | zero => intro l h; rw [parts_miss c l (List.count_eq_zero.1 h)]; rfl
  | succ k ih =>
    intro l h
    rcases split_word c l with ⟨_, _, h3⟩ | ⟨h1, h2⟩
    · rw [List.count_eq_zero_of_not_mem h3] at h; omega
    · obtain ⟨p, hp⟩ : ∃ p, p = wordC c l := ⟨_, rfl⟩
      obtain ⟨r, hr⟩ : ∃ r, r = restC c l := ⟨_, rfl⟩
      rw [← hp, ← hr] at h1
      rw [← hp] at h2
      clear hp hr
      subst h1
      have hi : index (p ++ c :: r) [c] = (p.length : Int) := by rw [index_one, index_hit _ _ _ h2]
      have hc : r.count c = k := by
        rw [List.count_append, List.count_cons_self, List.count_eq_zero_of_not_mem h2] at h; omega
      have hm : ¬ (index (p ++ c :: r) [c] == -1) = true := by rw [hi]; simp
      rw [splitK, if_neg hm, hi]
      have e2 : (p ++ c :: r).drop (p.length + 1) = r := by
        rw [← List.drop_drop, List.drop_left]; rfl
      simp only [Int.toNat_natCast, Nat.add_zero, List.length_cons, List.length_nil, Nat.zero_add]
      rw [List.take_left, e2, ih _ hc, parts_cut c _ _ h2]

/-- the words of a line -/
def words (l : List UInt8) : Option (List (List UInt8)) := if l = [] then some [] else if 10 ∈ l ∨ [] ∈ parts 32 l then none else some (parts 32 l)
/-- as the reference reads them -/
def refW (out : List (List UInt8)) (wd : List UInt8) : List UInt8 → Option (List (List UInt8))
  | [] => if wd = [] then none else some (out ++ [wd])
  | c :: r => if c = 10 then none else if c ≠ 32 then refW out (wd ++ [c]) r else if wd = [] then none else refW (out ++ [wd]) [] r
def headApp (wd : List UInt8) : List (List UInt8) → List (List UInt8)
  | [] => [wd]
  | p :: ps => (wd ++ p) :: ps
theorem refW_eq (l : List UInt8) : ∀ out wd, refW out wd l = if 10 ∈ l ∨ [] ∈ headApp wd (parts 32 l) then none else some (out ++ headApp wd (parts 32 l)) := by
  induction l with
  | nil =>
    intro out wd
    by_cases h : wd = []
    · subst h; simp [refW, parts, headApp]
    · have h' : ¬ [] = wd := fun e => h e.symm
      simp [refW, parts, headApp, h, h']
  | cons c r ih =>
    intro out wd
    simp only [refW]
    by_cases h10 : c = 10
    · subst h10; simp
    · rw [if_neg h10]
      have h10' : (10 ∈ c :: r) ↔ 10 ∈ r := by simp; intro e; exact absurd e.symm h10
      simp only [h10']
      by_cases h32 : c = 32
      · subst h32
        have hp : parts 32 (32 :: r) = [] :: parts 32 r := by simp [parts]
        rw [hp]
        simp only [ne_eq, not_true, if_false, headApp, List.append_nil]
        by_cases hw : wd = []
        · subst hw; simp
        · rw [if_neg hw, ih]
          have hn : headApp [] (parts 32 r) = parts 32 r := by
            cases h : parts 32 r with
            | nil => exact absurd h (parts_ne _ _)
            | cons p ps => rfl
          rw [hn]
          have : ([] ∈ wd :: parts 32 r) ↔ [] ∈ parts 32 r := by simp; intro e; exact absurd e hw
          simp only [this]
          simp
      · rw [if_pos h32, ih]
        have hp : headApp (wd ++ [c]) (parts 32 r) = headApp wd (parts 32 (c :: r)) := by
          have e : parts 32 (c :: r) = match parts 32 r with | [] => [[c]] | p :: ps => (c :: p) :: ps := by rw [parts, if_neg h32]
          rw [e]
          cases h : parts 32 r with
          | nil => exact absurd h (parts_ne _ _)
          | cons p ps => simp [headApp]
        rw [hp]
theorem refW_words (l : List UInt8) (h : l ≠ []) : refW [] [] l = words l := by
  rw [refW_eq, words, if_neg h]
  have hn : headApp [] (parts 32 l) = parts 32 l := by
    cases h : parts 32 l with
    | nil => exact absurd h (parts_ne _ _)
    | cons p ps => rfl
  rw [hn]; simp

/-- words joined by single spaces -/
def joinS : List (List UInt8) → List UInt8
  | [] => []
  | [w] => w
  | w :: ws => w ++ 32 :: joinS ws
theorem joinS_cons (w : List UInt8) (ws : List (List UInt8)) (h : ws ≠ []) : joinS (w :: ws) = w ++ 32 :: joinS ws := by
  cases ws with
  | nil => exact absurd rfl h
  | cons a b => rfl
theorem joinS_snoc (ws : List (List UInt8)) (w : List UInt8) (h : ws ≠ []) : joinS (ws ++ [w]) = joinS ws ++ 32 :: w := by
  induction ws with
  | nil => exact absurd rfl h
  | cons a b ih =>
    cases b with
    | nil => rfl
    | cons x y =>
      rw [List.cons_append, joinS_cons a (x :: y ++ [w]) (by simp), ih (by simp), joinS_cons a (x :: y) (by simp)]; simp
theorem join_parts (l : List UInt8) : joinS (parts 32 l) = l := by
  induction l with
  | nil => rfl
  | cons c r ih =>
    simp only [parts]
    by_cases h : c = 32
    · subst h
      rw [if_pos rfl, joinS_cons _ _ (parts_ne _ _), ih]; rfl
    · rw [if_neg h]
      cases hp : parts 32 r with
      | nil => exact absurd hp (parts_ne _ _)
      | cons p ps =>
        rw [hp] at ih
        simp only
        cases ps with
        | nil => simp [joinS] at ih ⊢; exact ih
        | cons a b => rw [joinS_cons _ _ (by simp)] at ih ⊢; rw [← ih]; rfl
theorem parts_join (ws : List (List UInt8)) (h : ws ≠ []) (hs : ∀ w ∈ ws, 32 ∉ w) : parts 32 (joinS ws) = ws := by
  induction ws with
  | nil => exact absurd rfl h
  | cons w r ih =>
    cases r with
    | nil => exact parts_miss 32 w (hs w (by simp))
    | cons a b => rw [joinS_cons _ _ (by simp), parts_cut 32 _ _ (hs w (by simp)), ih (by simp) (fun x hx => hs x (by simp [hx]))]
theorem mem_join (c : UInt8) (hc : c ≠ 32) (ws : List (List UInt8)) (h : ∀ w ∈ ws, c ∉ w) : c ∉ joinS ws := by
  induction ws with
  | nil => simp [joinS]
  | cons w r ih =>
    cases r with
    | nil => exact h w (by simp)
    | cons a b =>
      rw [joinS_cons _ _ (by simp)]
      intro hm
      rcases List.mem_append.1 hm with hm | hm
      · exact h w (by simp) hm
      · rcases List.mem_cons.1 hm with hm | hm
        · exact hc hm
        · exact ih (fun x hx => h x (by simp [hx])) hm
/-- a word of a line -/
def fine (w : List UInt8) : Bool := !w.isEmpty && w.all fun c => !(c == 32 || c == 10)
theorem fine_iff (w : List UInt8) : fine w = true ↔ w ≠ [] ∧ 32 ∉ w ∧ 10 ∉ w := by
  unfold fine
  cases w with
  | nil => simp
  | cons c r =>
    simp only [List.isEmpty_cons, Bool.not_false, Bool.true_and, List.all_eq_true, ne_eq, reduceCtorEq, not_false_eq_true, true_and]
    constructor
    · intro h
      refine ⟨fun hm => ?_, fun hm => ?_⟩
      · have := h _ hm; simp at this
      · have := h _ hm; simp at this
    · rintro ⟨h1, h2⟩ x hx
      have e1 : x ≠ 32 := fun e => h1 (e ▸ hx)
      have e2 : x ≠ 10 := fun e => h2 (e ▸ hx)
      simp [e1, e2]
theorem words_join (ws : List (List UInt8)) (h : ∀ w ∈ ws, fine w = true) : words (joinS ws) = some ws := by
  cases ws with
  | nil => rfl
  | cons w r =>
    have hf : ∀ x ∈ w :: r, x ≠ [] ∧ 32 ∉ x ∧ 10 ∉ x := fun x hx => (fine_iff x).1 (h x hx)
    have hp := parts_join (w :: r) (by simp) (fun x hx => (hf x hx).2.1)
    have hne : joinS (w :: r) ≠ [] := by
      intro e
      have h0 := (hf w (by simp)).1
      cases r with
      | nil => exact h0 e
      | cons a b => rw [joinS_cons _ _ (by simp)] at e; simp at e
    unfold words
    rw [if_neg hne, hp, if_neg]
    rintro (h1 | h1)
    · exact mem_join 10 (by decide) (w :: r) (fun x hx => (hf x hx).2.2) h1
    · exact (hf [] h1).1 rfl
theorem join_words {l : List UInt8} {ws : List (List UInt8)} (h : words l = some ws) : joinS ws = l := by
  unfold words at h
  split at h
  · rename_i e; subst e; obtain rfl := Option.some.inj h; rfl
  · split at h
    · cases h
    · obtain rfl := Option.some.inj h; exact join_parts l
end Go.Proofs.YtiobfgcpbihbhaaGreatDoor.T
