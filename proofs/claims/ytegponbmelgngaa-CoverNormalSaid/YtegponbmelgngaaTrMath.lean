/-
  Plain facts for the law that lays the prefixes of a range into a trie; two lists of examples.
-/
import Derived.Test.YtegponbmelgngaaCvMem
namespace Go.Proofs.Ytegponbmelgngaa
set_option linter.unusedSimpArgs false
set_option linter.unusedVariables false

theorem nrm_list {S : Nat → Bool} {l : List (Nat × Nat)} (h : CM.Def l) (hS : ∀ y, S y = CM.setOf l y) : CM.Nrm S l := by
  have := h.nrm
  rwa [show CM.setOf l = S from (funext hS).symm] at this
theorem ex_range : CM.Nrm (rngS 167772161 167772166) [(167772161, 0), (167772162, 1), (167772164, 1), (167772166, 0)] := by
  refine nrm_list ⟨by decide, by decide, by decide, ?_, by decide⟩ fun y => ?_
  · intro x hx y hy z h1 h2
    simp only [List.mem_cons, List.not_mem_nil, or_false] at hx hy
    unfold CM.inB at h1 h2
    rcases hx with rfl | rfl | rfl | rfl <;> rcases hy with rfl | rfl | rfl | rfl <;> first | rfl | (exfalso; simp at h1 h2; omega)
  · rw [Bool.eq_iff_iff, rngS_iff, CM.setOf_iff]
    unfold CM.inB
    simp
    omega
def rowE (l : List PP) : List En := l.zipIdx.map (fun x => (x.1, (x.2 : Int)))
theorem rowE_len (l : List PP) : (rowE l).length = l.length := by unfold rowE; simp
theorem rowE_get (l : List PP) (k : Nat) : (rowE l)[k]? = l[k]?.map (fun p => (p, (k : Int))) := by
  unfold rowE; rw [List.getElem?_map, List.getElem?_zipIdx]; cases l[k]? <;> simp
theorem rowE_snoc {l : List PP} {k : Nat} {x : PP} (h : l[k]? = some x) : rowE (l.take (k + 1)) = rowE (l.take k) ++ [(x, (k : Int))] := by
  have hlt := (List.getElem?_eq_some_iff.1 h).1
  have e : (l.take k).length = k := by simp; omega
  rw [List.take_succ_eq_append_getElem hlt, (List.getElem?_eq_some_iff.1 h).2]
  unfold rowE
  rw [List.zipIdx_append]
  simp [e]
theorem rowE_mem {l : List PP} {e : En} (h : e ∈ rowE l) : ∃ k : Nat, e.2 = (k : Int) ∧ l[k]? = some e.1 := by
  obtain ⟨k, hk, rfl⟩ := List.mem_iff_getElem.1 h
  have := rowE_get l k
  rw [List.getElem?_eq_getElem hk] at this
  cases hl : l[k]? with
  | none => rw [hl] at this; cases this
  | some p => rw [hl] at this; simp at this; exact ⟨k, by rw [this], by rw [this]; exact hl⟩
theorem rowE_of {l : List PP} {k : Nat} {p : PP} (h : l[k]? = some p) : (p, (k : Int)) ∈ rowE l := by
  have := rowE_get l k
  rw [h] at this
  exact List.mem_of_getElem? this
theorem rowE_asc {l : List PP} (h : l.Pairwise ltP) : AscE (rowE l) := by
  refine List.pairwise_iff_getElem.2 fun i j hi hj hij => ?_
  have a := rowE_get l i
  have b := rowE_get l j
  rw [rowE_len] at hi hj
  rw [List.getElem?_eq_getElem (by rw [rowE_len]; exact hi), List.getElem?_eq_getElem hi] at a
  rw [List.getElem?_eq_getElem (by rw [rowE_len]; exact hj), List.getElem?_eq_getElem hj] at b
  simp at a b
  rw [a, b]
  exact List.pairwise_iff_getElem.1 h i j hi hj hij
theorem ins_last {E : List En} {e : En} (h : AscE (E ++ [e])) : insE E e = E ++ [e] := by
  have hlt : ∀ x ∈ E, ltP x.1 e.1 := fun x hx => (List.pairwise_append.1 h).2.2 x hx e (by simp)
  unfold insE
  rw [List.filter_eq_self.2 (fun x hx => by simp [hlt x hx]), List.filter_eq_nil_iff.2 (fun x hx => by simpa using fun g => ltP_asymm (hlt x hx) g)]
theorem asc_pfx {S : Nat → Bool} {B : List (Nat × Nat)} (h : CM.Nrm S B) : (B.map pfx).Pairwise ltP := by
  rw [List.pairwise_map]
  refine h.asc.imp fun {x y} hxy => ?_
  have := CM.pow_pos' x.2
  left
  show x.1 < y.1
  omega
theorem valid_pfx {S : Nat → Bool} {B : List (Nat × Nat)} (h : CM.Nrm S B) : ∀ p ∈ B.map pfx, V p = true := by
  intro p hp
  obtain ⟨x, hx, rfl⟩ := List.mem_map.1 hp
  exact V_pfx (h.le x hx) (h.al x hx)
theorem vld32 (a : Nat) : vld a 32 = true := by
  unfold vld; simp; rw [low_in (by decide) (by decide)]; exact M.keepN_all a
theorem C_con32 {p : PP} (a : Nat) (h : V p = true) : C p (a, 32) = con p.1 p.2 a := by
  have i := (V_iff p).1 h
  unfold C; exact cov_in (vld32 a) i.2.1
/-- the entries of the range's trie above an address -/
theorem row_upon {S : Nat → Bool} {B : List (Nat × Nat)} (h : CM.Nrm S B) (a : Nat) : (!((rowE (B.map pfx)).filter (fun x => C x.1 (a, 32))).isEmpty) = S a := by
  rw [← mem_pfx h, Bool.eq_iff_iff]
  constructor
  · intro hn
    obtain ⟨e, he⟩ : ∃ e, e ∈ (rowE (B.map pfx)).filter (fun x => C x.1 (a, 32)) := by
      cases hl : (rowE (B.map pfx)).filter (fun x => C x.1 (a, 32)) with
      | nil => rw [hl] at hn; cases hn
      | cons e r => exact ⟨e, by simp⟩
    obtain ⟨he1, he2⟩ := List.mem_filter.1 he
    obtain ⟨k, _, hk⟩ := rowE_mem he1
    have hm := List.mem_of_getElem? hk
    unfold mem
    rw [List.any_eq_true]
    exact ⟨e.1, hm, by rw [← C_con32 a (valid_pfx h _ hm)]; exact he2⟩
  · intro hm
    unfold mem at hm
    rw [List.any_eq_true] at hm
    obtain ⟨p, hp, hc⟩ := hm
    obtain ⟨k, hk, he⟩ := List.mem_iff_getElem.1 hp
    have hk' : (B.map pfx)[k]? = some p := by rw [List.getElem?_eq_getElem hk, he]
    have : (p, (k : Int)) ∈ (rowE (B.map pfx)).filter (fun x => C x.1 (a, 32)) := List.mem_filter.2 ⟨rowE_of hk', by rw [C_con32 a (valid_pfx h _ hp)]; exact hc⟩
    cases hl : (rowE (B.map pfx)).filter (fun x => C x.1 (a, 32)) with
    | nil => rw [hl] at this; cases this
    | cons e r => rfl
end Go.Proofs.Ytegponbmelgngaa
