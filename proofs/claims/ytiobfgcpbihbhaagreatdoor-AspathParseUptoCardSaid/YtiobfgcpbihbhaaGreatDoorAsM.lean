/-
  Paths as lists of segments: what the functions of layer 17 answer.
-/
import Lean
namespace Go.Proofs.YtiobfgcpbihbhaaGreatDoor
/-- a segment: its kind, its numbers -/
structure Sg where
  k : Int
  as : List Int
  deriving DecidableEq
namespace P
/-- the numbers of a path -/
def flat (p : List Sg) : List Int := (p.map Sg.as).flatten
theorem flat_snoc (p : List Sg) (s : Sg) : flat (p ++ [s]) = flat p ++ s.as := by simp [flat]
theorem flat_app (p q : List Sg) : flat (p ++ q) = flat p ++ flat q := by simp [flat]
theorem flat_cons (s : Sg) (p : List Sg) : flat (s :: p) = s.as ++ flat p := by simp [flat]
theorem flat_take {p : List Sg} {k : Nat} {s : Sg} (h : p[k]? = some s) : flat (p.take (k + 1)) = flat (p.take k) ++ s.as := by
  rw [List.take_add_one, h, flat_app]; simp [flat]
theorem flat_take_le (p : List Sg) (k : Nat) : (flat (p.take k)).length ≤ (flat p).length := by
  conv => rhs; rw [← List.take_append_drop k p, flat_app, List.length_append]
  omega
theorem as_le {p : List Sg} {k : Nat} {s : Sg} (h : p[k]? = some s) : s.as.length ≤ (flat p).length := by
  have h1 := flat_take_le p (k + 1)
  rw [flat_take h, List.length_append] at h1
  omega
def isNum (x : Int) : Bool := decide (1 ≤ x ∧ x ≤ 4294967295)
def isConf (k : Int) : Bool := decide (k = 3 ∨ k = 4)
def isSet (k : Int) : Bool := decide (k = 1 ∨ k = 4)
def isSeq (k : Int) : Bool := decide (k = 2 ∨ k = 3)
/-- strictly ascending -/
def asc : List Int → Bool
  | x :: y :: r => decide (x < y) && asc (y :: r)
  | _ => true
/-- a segment by itself -/
def segE (s : Sg) : Int :=
  if s.k < 1 ∨ 4 < s.k then 15 else if s.as = [] then 1 else if 255 < s.as.length then 4
  else if s.as.any (fun x => !isNum x) then 5 else if isSet s.k && !asc s.as then 16 else 0
/-- may follow, where what stands before is valid -/
def mayF (s b : Sg) : Bool := !(isConf s.k && !isConf b.k) && (!(isSeq s.k && decide (b.k = s.k)) || decide (b.as.length = 255))
/-- the first error from a place on, with the segment before -/
def scan : Option Sg → List Sg → Int
  | _, [] => 0
  | none, s :: r => if segE s ≠ 0 then segE s else scan (some s) r
  | some b, s :: r => if segE s ≠ 0 then segE s else if mayF s b = false then 1 else scan (some s) r
def chk (p : List Sg) : Int := if 64 < p.length then 4 else scan none p
def prevO (p : List Sg) : Nat → Option Sg
  | 0 => none
  | k + 1 => p[k]?
theorem scan_drop {p : List Sg} {k : Nat} {s : Sg} (h : p[k]? = some s) : scan (prevO p k) (p.drop k) = if segE s ≠ 0 then segE s else match prevO p k with | none => scan (some s) (p.drop (k + 1)) | some b => if mayF s b = false then 1 else scan (some s) (p.drop (k + 1)) := by
  obtain ⟨hk, he⟩ := List.getElem?_eq_some_iff.1 h
  rw [List.drop_eq_getElem_cons hk, he]
  cases prevO p k <;> rfl
theorem prevO_succ {p : List Sg} {k : Nat} {s : Sg} (h : p[k]? = some s) : prevO p (k + 1) = some s := h
/-- the length -/
def len1 (s : Sg) : Nat := if s.k = 2 then s.as.length else if s.k = 1 then 1 else 0
def len (p : List Sg) : Nat := (p.map len1).sum
theorem len_take {p : List Sg} {k : Nat} {s : Sg} (h : p[k]? = some s) : len (p.take (k + 1)) = len (p.take k) + len1 s := by
  rw [List.take_add_one, h]; simp [len]
def has (p : List Sg) (x : Int) : Bool := decide (x ∈ flat p)
/-- the first number of the first sequence -/
def fst (p : List Sg) : Int × Bool := match p.find? (fun s => decide (s.k = 2)) with
  | some s => match s.as with | x :: _ => (x, true) | [] => (0, false)
  | none => (0, false)
def org (p : List Sg) : Int × Bool := match p.getLast? with
  | some s => if s.k = 2 then match s.as.getLast? with | some x => (x, true) | none => (0, false) else (0, false)
  | none => (0, false)
def strip (p : List Sg) : List Sg := p.filter (fun s => !isConf s.k)
end P
end Go.Proofs.YtiobfgcpbihbhaaGreatDoor
