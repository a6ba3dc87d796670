/-
  The nodes to which packets can come: what the reference's Ways finds.
-/
import Derived.Test.YtmbogobebllheaaMm
import Derived.Test.YtmbogobebllheaaMq
namespace Go.Proofs.Ytmbogobebllheaa.SP
open GM HM Classical
set_option linter.unusedVariables false
set_option linter.unusedSimpArgs false
theorem nd_filter {a : Int} : ∀ {p : List Int}, p.Nodup → p.length ≤ (p.filter (fun x => decide (x ≠ a))).length + 1
  | [], _ => by simp
  | x :: t, h => by
    rw [List.nodup_cons] at h
    by_cases hx : x = a
    · subst hx
      have e : t.filter (fun y => decide (y ≠ x)) = t := List.filter_eq_self.2 fun y hy => decide_eq_true (fun k => h.1 (k ▸ hy))
      rw [List.filter_cons_of_neg (by simp), e, List.length_cons]
      exact Nat.le_refl _
    · rw [List.filter_cons_of_pos (by simpa using hx), List.length_cons, List.length_cons]
      have := nd_filter (a := a) h.2
      omega
theorem nd_len : ∀ (r : Nat) (p : List Int), p.Nodup → (∀ y ∈ p, 0 ≤ y ∧ y < (r : Int)) → p.length ≤ r
  | 0, [], _, _ => Nat.le_refl _
  | 0, y :: t, _, h => by have := h y (by simp); omega
  | r + 1, p, hn, h => by
    have h1 := nd_filter (a := (r : Int)) hn
    have h2 := nd_len r (p.filter (fun x => decide (x ≠ (r : Int)))) (hn.filter _) (fun y hy => by
      have hy := List.mem_filter.1 hy
      have h3 := h y hy.1
      have h4 : y ≠ (r : Int) := of_decide_eq_true hy.2
      omega)
    omega
/-- what has been found when the first i nodes are done -/
structure WyI (R : Int) (l : List E) (x d : Int) (i : Nat) (p : List Int) : Prop where
  sub : ∀ y ∈ p, On l x d y
  nd : p.Nodup
  cl : ∀ k u, k < i → p[k]? = some u → u ≠ d → ∀ h, Hop R l u d h → h ∈ p
  a : x ∈ p
theorem WyI.start {R : Int} {l : List E} {x d : Int} (h : 0 ≤ T l x d) (hT : On l x d x) : WyI R l x d 0 [x] :=
  ⟨fun y hy => by simp at hy; subst hy; exact hT, by simp, fun k u hk => absurd hk (by omega), by simp⟩
theorem WyI.push {R : Int} {l : List E} {x d : Int} {i : Nat} {p : List Int} (h : WyI R l x d i p) (hi : i ≤ p.length) {y : Int} (hy : On l x d y) (hn : y ∉ p) : WyI R l x d i (p ++ [y]) := by
  refine ⟨fun z hz => ?_, ?_, fun k u hk hu hne hh hhop => ?_, List.mem_append_left _ h.a⟩
  · rcases List.mem_append.1 hz with hz | hz
    · exact h.sub z hz
    · simp at hz; subst hz; exact hy
  · rw [List.nodup_append]
    exact ⟨h.nd, by simp, fun a ha b hb => by simp at hb; subst hb; exact fun e => hn (e ▸ ha)⟩
  · rw [List.getElem?_append_left (by omega)] at hu
    exact List.mem_append_left _ (h.cl k u hk hu hne hh hhop)
theorem WyI.next {R : Int} {l : List E} {x d : Int} {i : Nat} {p : List Int} (h : WyI R l x d i p) {u : Int} (hu : p[i]? = some u) (hc : u ≠ d → ∀ k, Hop R l u d k → k ∈ p) : WyI R l x d (i + 1) p := by
  refine ⟨h.sub, h.nd, fun k v hk hv hne => ?_, h.a⟩
  by_cases e : k = i
  · subst e
    rw [hu] at hv; cases hv
    exact hc hne
  · exact h.cl k v (by omega) hv hne
section
variable {R : Int} {l : List E} (hv : Valid R 0 l)
include hv
theorem WyI.num {x d : Int} {i : Nat} {p : List Int} (hx : 0 ≤ x ∧ x < R) (h : WyI R l x d i p) : ∀ y ∈ p, 0 ≤ y ∧ y < R := fun y hy => by
  have := (h.sub y hy).node hv (by omega)
  omega
theorem WyI.len {r : Nat} {x d : Int} {i : Nat} {p : List Int} (hr : R = (r : Int)) (hx : 0 ≤ x ∧ x < R) (h : WyI R l x d i p) : p.length ≤ r :=
  nd_len r p h.nd (fun y hy => by have := WyI.num hv hx h y hy; omega)
/-- all first hops of all nodes are there: so is the end -/
theorem WyI.fin {x d : Int} {p : List Int} (hx : 0 ≤ x ∧ x < R) (h : WyI R l x d p.length p) : d ∈ p := by
  have key : ∀ (n : Nat) (u : Int), (T l u d).toNat < n → u ∈ p → d ∈ p := by
    intro n
    induction n with
    | zero => intro u hu; omega
    | succ n ih =>
      intro u hu hm
      by_cases e : u = d
      · subst e; exact hm
      · have ho := h.sub u hm
        have hun := WyI.num hv hx h u hm
        obtain ⟨k, hk⟩ := Hop.ex hv (s := u) (v := d) (by omega) (Ne.symm e) ho.2.1
        obtain ⟨i, hi⟩ := List.getElem?_of_mem hm
        have hil := (List.getElem?_eq_some_iff.1 hi).1
        have := hop_near hv hk
        exact ih k (by omega) (h.cl i u hil hi e k hk)
  exact key _ x (Nat.lt_succ_self _) h.a
end
end Go.Proofs.Ytmbogobebllheaa.SP
