/-
  Mathematics of the reference: its first table, and the rows that it makes one entry after the other.
-/
import Derived.Test.YtmlpbhankgojpaaSpFd
import Derived.Test.YtmlpbhankgojpaaSpC
import Derived.Test.YtmlpbhankgojpaaSpLx
namespace Go.Proofs.Ytmlpbhankgojpaa.SP
open GM HM Classical
set_option linter.unusedVariables false
set_option linter.unusedSimpArgs false
theorem rowF_zero (P : Int → Bool) : rowF 0 P = [] := rfl
theorem rowF_succ (n : Nat) (P : Int → Bool) : rowF (n + 1) P = rowF n P ++ (if P (n : Int) = true then [(n : Int)] else []) := by
  unfold rowF
  rw [List.range_succ, List.filter_append, List.map_append]
  by_cases h : P (n : Int) = true
  · simp [h]
  · simp [h]
theorem rowF_len (n : Nat) (P : Int → Bool) : (rowF n P).length ≤ n := by
  unfold rowF
  rw [List.length_map]
  have := List.length_filter_le (fun k : Nat => P (k : Int)) (List.range n)
  simpa using this
section
variable {R N : Int} {l : List E} (hv : Valid R N l) {s : Int}
/-- the table while the edges are put in -/
def EdR (l : List E) (n q : Nat) (tab : List (List Int)) : Prop := Tb n tab ∧ ∀ a b : Nat, a < n → b < n → at2 tab a b = start2 (l.take q) a b
include hv
theorem EdR.step {n q : Nat} (hn : (n : Int) = R + N) {tab : List (List Int)} (h : EdR l n q tab) {u v : Nat} {c : Int} (hq : l[q]? = some ((u : Int), (v : Int), c)) : EdR l n (q + 1) (setT tab u v c) ∧ u < n ∧ v < n := by
  have hm := List.mem_of_getElem? hq
  have hed := edge hv hm
  have hu : u < n := by omega
  have hv' : v < n := by omega
  refine ⟨⟨h.1.set hu _ _, fun a b ha hb => ?_⟩, hu, hv'⟩
  rw [at2_set h.1 hu hv', h.2 a b ha hb]
  have ht : l.take (q + 1) = l.take q ++ [((u : Int), (v : Int), c)] := by
    rw [List.take_add_one, hq]; rfl
  unfold start2
  rw [ht, List.find?_append]
  by_cases e : a = u ∧ b = v
  · obtain ⟨rfl, rfl⟩ := e
    rw [if_pos ⟨rfl, rfl⟩, if_neg (by omega)]
    have : (l.take q).find? (fun e => decide (e.1 = (a : Int) ∧ e.2.1 = (b : Int))) = none := by
      rw [List.find?_eq_none]
      intro x hx hd
      obtain ⟨h1, h2⟩ := of_decide_eq_true hd
      obtain ⟨i, hi⟩ := List.getElem?_of_mem hx
      have hil := (List.getElem?_eq_some_iff.1 hi).1
      rw [List.length_take] at hil
      rw [List.getElem?_take_of_lt (by omega)] at hi
      have hp := hv.asc
      rw [List.pairwise_iff_getElem] at hp
      obtain ⟨h3, h4⟩ := List.getElem?_eq_some_iff.1 hi
      obtain ⟨h5, h6⟩ := List.getElem?_eq_some_iff.1 hq
      have := hp i q h3 h5 (by omega)
      rw [h4, h6, bef_iff] at this
      dsimp only at this
      omega
    rw [this]
    simp
  · rw [if_neg e]
    by_cases e2 : (a : Int) = b
    · rw [if_pos e2, if_pos e2]
    · rw [if_neg e2, if_neg e2]
      have : [((u : Int), (v : Int), c)].find? (fun e => decide (e.1 = (a : Int) ∧ e.2.1 = (b : Int))) = none := by
        rw [List.find?_eq_none]
        intro x hx hd
        obtain ⟨h1, h2⟩ := of_decide_eq_true hd
        have := List.mem_singleton.1 hx
        subst this
        dsimp only at h1 h2
        exact e (by omega)
      rw [this, Option.or_none]
omit hv in
theorem EdR.fw {n : Nat} {tab : List (List Int)} (h : EdR l n l.length tab) : Fw0 R N l n tab := by
  refine ⟨h.1, fun a b ha hb => ?_⟩
  rw [h.2 a b ha hb, List.take_length]
omit hv in
/-- the first hops of a node: those of the first routers and networks that lie on a shortest path -/
theorem hop_row (hs : 0 ≤ s ∧ s < R) {first : List Int} (hf : RowI (First R l s) first) {v : Int} (hvs : v ≠ s) (hT : 0 ≤ T l s v) :
    RowI (Hop R l s v) (first.filter (fun h => decide (h = v ∨ (h < R ∧ 0 ≤ T l h v ∧ T l s h + T l h v = T l s v)))) := by
  refine ⟨hf.1.sublist (List.filter_sublist), fun x => ?_⟩
  rw [List.mem_filter, hf.2 x]
  constructor
  · rintro ⟨h1, h2⟩; exact ⟨hvs, hT, h1, of_decide_eq_true h2⟩
  · rintro ⟨_, _, h1, h2⟩; exact ⟨h1, decide_eq_true h2⟩
end
/-- the first table, row by row -/
def diag (n a : Nat) : List Int := (List.replicate n (-1)).set a 0
def stT (n i : Nat) : List (List Int) := (List.range n).map (fun a => if a < i then diag n a else [])
theorem stT_len (n i : Nat) : (stT n i).length = n := by simp [stT]
theorem stT_get {n i a : Nat} (ha : a < n) : gL (stT n i) a = if a < i then diag n a else [] := by
  unfold gL stT; simp [ha]
theorem stT_zero (n : Nat) : stT n 0 = List.replicate n [] := by
  apply List.ext_getElem
  · simp [stT]
  · intro i h1 h2; simp [stT]
theorem stT_set {n i : Nat} (hi : i < n) : (stT n i).set i (diag n i) = stT n (i + 1) := by
  apply List.ext_getElem
  · simp [stT]
  · intro j h1 h2
    rw [List.getElem_set]
    by_cases e : i = j
    · subst e; simp [stT]
    · rw [if_neg e]
      simp only [stT, List.getElem_map, List.getElem_range]
      by_cases h3 : j < i
      · rw [if_pos h3, if_pos (by omega)]
      · rw [if_neg h3, if_neg (by omega)]
theorem stT_ed (l : List E) (n : Nat) : EdR l n 0 (stT n n) := by
  refine ⟨⟨stT_len n n, fun i hi => by rw [stT_get hi, if_pos hi]; simp [diag]⟩, fun a b ha hb => ?_⟩
  unfold at2
  rw [stT_get ha, if_pos ha]
  unfold diag
  rw [gI_set (by simp [ha])]
  unfold start2
  by_cases e : b = a
  · rw [if_pos e, if_pos (by omega)]
  · rw [if_neg e, if_neg (by omega)]
    simp [gI, hb]
end Go.Proofs.Ytmlpbhankgojpaa.SP
