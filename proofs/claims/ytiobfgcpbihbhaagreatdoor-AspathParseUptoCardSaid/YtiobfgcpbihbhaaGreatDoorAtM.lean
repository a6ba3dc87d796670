/-
  Texts of paths, and what reads them: mathematics.
-/
import Derived.Test.YtiobfgcpbihbhaaGreatDoorAsM
import Derived.Test.YtiobfgcpbihbhaaGreatDoorDNum
import Derived.Test.YtiobfgcpbihbhaaGreatDoorDWd
import Derived.Lib.Join
import Derived.Lib.Strings
namespace Go.Proofs.YtiobfgcpbihbhaaGreatDoor
namespace P
open Go.Lib
def decs (l : List Int) : List (List UInt8) := l.map itoa
/-- one part of a text -/
def word (k : Int) (l : List Int) : List UInt8 :=
  if k = 1 then 123 :: (join (decs l) [44] ++ [125]) else if k = 4 then 91 :: (join (decs l) [44] ++ [93])
  else if k = 3 then 40 :: (join (decs l) [32] ++ [41]) else join (decs l) [32]
/-- the parts of a text -/
def partsF : Nat → List Sg → List (List UInt8)
  | 0, _ => []
  | _ + 1, [] => []
  | f + 1, s :: r => if s.k = 3 then word 3 (flat ((s :: r).takeWhile fun x => decide (3 = x.k))) :: partsF f ((s :: r).dropWhile fun x => decide (3 = x.k)) else word s.k s.as :: partsF f r
def parts (p : List Sg) : List (List UInt8) := partsF p.length p
theorem drop_lt (s : Sg) (r : List Sg) (h : s.k = 3) : ((s :: r).dropWhile fun x => decide (3 = x.k)).length ≤ r.length := by
  rw [List.dropWhile_cons, if_pos (by simpa using h.symm)]
  exact (List.dropWhile_sublist _).length_le
theorem partsF_enough : ∀ (f g : Nat) (p : List Sg), p.length ≤ f → p.length ≤ g → partsF f p = partsF g p
  | 0, g, p, hf, _ => by
    have : p = [] := List.length_eq_zero_iff.1 (by omega)
    subst this
    cases g <;> rfl
  | f + 1, 0, p, _, hg => by
    have : p = [] := List.length_eq_zero_iff.1 (by omega)
    subst this
    rfl
  | f + 1, g + 1, [], _, _ => rfl
  | f + 1, g + 1, s :: r, hf, hg => by
    simp only [List.length_cons] at hf hg
    unfold partsF
    by_cases h : s.k = 3
    · have := drop_lt s r h
      rw [if_pos h, if_pos h, partsF_enough f g _ (by omega) (by omega)]
    · rw [if_neg h, if_neg h, partsF_enough f g r (by omega) (by omega)]
theorem parts_nil : parts [] = [] := rfl
theorem parts_conf {s : Sg} {r : List Sg} (h : s.k = 3) : parts (s :: r) = word 3 (flat ((s :: r).takeWhile fun x => decide (3 = x.k))) :: parts ((s :: r).dropWhile fun x => decide (3 = x.k)) := by
  have := drop_lt s r h
  unfold parts
  rw [List.length_cons, partsF, if_pos h, partsF_enough r.length _ _ (by omega) (Nat.le_refl _)]
theorem parts_one {s : Sg} {r : List Sg} (h : s.k ≠ 3) : parts (s :: r) = word s.k s.as :: parts r := by
  unfold parts
  rw [List.length_cons, partsF, if_neg h]
def text (p : List Sg) : List UInt8 := join (parts p) [32]
/-- the state of the reader: what is read, and whether within parentheses -/
abbrev Rs := List Sg × Bool
def nums : List (List UInt8) → Option (List Int)
  | [] => some []
  | w :: r => if (T.number w 4294967295).2 = 0 then (nums r).map fun l => (T.number w 4294967295).1 :: l else none
def setR (k : Int) (w : List UInt8) (e : UInt8) (st : Rs) : Option Rs :=
  match nums (T.parts 44 (trimSuffix (w.drop 1) [e])) with
  | none => none
  | some l => if hasSuffix (w.drop 1) [e] then some (st.1 ++ [⟨k, l⟩], st.2) else none
/-- a number put behind a path -/
def ext (k x : Int) (p : List Sg) : List Sg := match p.getLast? with
  | some s => if s.k = k ∧ s.as.length ≠ 255 then p.dropLast ++ [⟨k, s.as ++ [x]⟩] else p ++ [⟨k, [x]⟩]
  | none => [⟨k, [x]⟩]
def numR (w : List UInt8) (st : Rs) : Option Rs :=
  let u := trimPrefix w [40]
  let v := trimSuffix u [41]
  if (T.number v 4294967295).2 = 0 then
    let k : Int := if st.2 || hasPrefix w [40] then 3 else 2
    some (ext k (T.number v 4294967295).1 st.1, decide (k = 3) && !hasSuffix u [41])
  else none
def readW (w : List UInt8) (st : Rs) : Option Rs :=
  match w with
  | 123 :: _ => setR 1 w 125 st
  | 91 :: _ => setR 4 w 93 st
  | _ => numR w st
def readAll : List (List UInt8) → Rs → Option Rs
  | [], st => some st
  | w :: r, st => match readW w st with
    | none => none
    | some st' => readAll r st'
end P
end Go.Proofs.YtiobfgcpbihbhaaGreatDoor
