/-
  How arguments are opened with their sizes.
-/
import Derived.Test.YtiodpgannelgpaaFrame
namespace Go.Proofs.Ytiodpgannelgpaa
set_option maxRecDepth 100000
set_option linter.unusedSimpArgs false
set_option linter.unusedVariables false
open Go.ChangeShapes Go.WideShapes Go.ChangeAt Go.RowKit Go.Joins

/-- not more structs of three integers than a slice can hold -/
abbrev Fit3 (l : List Tri) : Prop := l.length ≤ 5864062014634
section
variable {H : Type} {enc : TypeId × Value → H} {w : World}
def SzOf (d : DataW H) (l : List Tri) : Prop := l = [] ∨ ∃ es sp, d = .slice es sp ∧ es.length = l.length
theorem trod_rd3s {t e : TypeId} {f0 f1 f2 : Field} {base fuel : Nat} {spare : Nat → Bool} {held : Bool} {v : Value} {x : DataW H × List MemPlace} (hu : Try.prog.underlying t = some (.slice e)) (he : Try.prog.underlying e = some (.struct #[f0, f1, f2])) (hc : Try.prog.cellsOf e = 3)
    (g : f0.type = 3 ∧ f1.type = 3 ∧ f2.type = 3 ∧ f0.offset = 0 ∧ f1.offset = 1 ∧ f2.offset = 2)
    (hf : DataW.trod enc Try.prog w base spare held fuel t [v] = some x) : ∃ l, Rd3 w v l ∧ FitT l ∧ SzOf x.1 l := by
  obtain ⟨l, h1, h2⟩ := trod_rd3 hu he hc g hf
  refine ⟨l, h1, h2, ?_⟩
  obtain ⟨ad, cap', hv, _⟩ := h1
  rcases Deep.open_slice hu hf with ⟨hcs, _⟩ | ⟨a, len, cap, m, n, D, Pl, hcs, _, hl, hm, hmm, hx, hi⟩
  · simp at hcs
    rw [hv] at hcs
    injection hcs with _ e2 _
    exact .inl (List.length_eq_zero_iff.1 e2)
  · simp at hcs
    rw [hv] at hcs
    injection hcs with _ e2 _
    refine .inr ⟨_, _, by rw [hx], ?_⟩
    simp [e2]
theorem open_edges_s {r : Reach} {b0 base : Nat} {spare : Nat → Bool} {held : Bool} {v : Value} {d : DataW H} {p : List MemPlace}
    (hv : Value.okWide Try.prog w r b0 22 v) (h : DataW.Trod enc Try.prog w base spare held 22 v d p) : ∃ l, Rd3 w v l ∧ FitT l ∧ SzOf d l := by
  obtain ⟨fuel, hf⟩ := h
  rw [okWide_cells Try.underlying22 hv] at hf
  exact trod_rd3s Try.underlying22 Try.underlying52 cells52 ⟨rfl, rfl, rfl, rfl, rfl, rfl⟩ hf
theorem open_changes_s {r : Reach} {b0 base : Nat} {spare : Nat → Bool} {held : Bool} {v : Value} {d : DataW H} {p : List MemPlace}
    (hv : Value.okWide Try.prog w r b0 35 v) (h : DataW.Trod enc Try.prog w base spare held 35 v d p) : ∃ l, Rd3 w v l ∧ FitT l ∧ SzOf d l := by
  obtain ⟨fuel, hf⟩ := h
  rw [okWide_cells Try.underlying35 hv] at hf
  exact trod_rd3s Try.underlying35 Try.underlying53 cells53 ⟨rfl, rfl, rfl, rfl, rfl, rfl⟩ hf
theorem open_graph_s {r : Reach} {b0 base : Nat} {spare : Nat → Bool} {held : Bool} {v : Value} {d : DataW H} {p : List MemPlace}
    (hv : Value.okWide Try.prog w r b0 24 v) (h : DataW.Trod enc Try.prog w base spare held 24 v d p) :
    ∃ (R N : Int) (l : List Tri) (s : Value), v = .agg #[.int .i64 R, .int .i64 N, s] ∧ I64 R ∧ I64 N ∧ Rd3 w s l ∧ FitT l ∧ ∃ d0 d1 d2, d = .agg [d0, d1, d2] ∧ SzOf d2 l := by
  obtain ⟨v0, v1, v2, y0, y1, y2, n, rfl, rfl, rfl, h0, h1, h2⟩ := open_agg3 Try.underlying24 (by kernel_rfl) cells24 hv h
  obtain ⟨a, e0, _, wa⟩ := DataW.trod_int Try.underlying3 h0
  obtain ⟨b, e1, _, wb⟩ := DataW.trod_int Try.underlying3 h1
  simp at e0 e1
  subst e0 e1
  obtain ⟨l, hr, hf, hs⟩ := trod_rd3s Try.underlying22 Try.underlying52 cells52 ⟨rfl, rfl, rfl, rfl, rfl, rfl⟩ h2
  exact ⟨a, b, l, v2, rfl, bounds_i64 wa, bounds_i64 wb, hr, hf, _, _, _, rfl, hs⟩
theorem bytes52 : Try.prog.bytesOf 52 = 24 := by kernel_rfl
theorem bytes53 : Try.prog.bytesOf 53 = 24 := by kernel_rfl
theorem sized_edges {ts : List TypeId} {ds : List (DataW H)} {j : Nat} {d : DataW H} {l : List Tri} (hsz : (DataW.weightsEach Try.prog ts ds).all (· ≤ reachBytes) = true) (ht : ts[j]? = some 22) (hd : ds[j]? = some d) (h : SzOf d l) : Fit3 l := by
  rcases h with rfl | ⟨es, sp, rfl, he⟩
  · simp
  · have := sized_slice hsz ht hd Try.underlying22
    rw [bytes52] at this
    unfold reachBytes at this
    unfold Fit3
    omega
theorem sized_changes {ts : List TypeId} {ds : List (DataW H)} {j : Nat} {d : DataW H} {l : List Tri} (hsz : (DataW.weightsEach Try.prog ts ds).all (· ≤ reachBytes) = true) (ht : ts[j]? = some 35) (hd : ds[j]? = some d) (h : SzOf d l) : Fit3 l := by
  rcases h with rfl | ⟨es, sp, rfl, he⟩
  · simp
  · have := sized_slice hsz ht hd Try.underlying35
    rw [bytes53] at this
    unfold reachBytes at this
    unfold Fit3
    omega
theorem sized_graph {ts : List TypeId} {ds : List (DataW H)} {j : Nat} {d0 d1 d2 : DataW H} {l : List Tri} (hsz : (DataW.weightsEach Try.prog ts ds).all (· ≤ reachBytes) = true) (ht : ts[j]? = some 24) (hd : ds[j]? = some (.agg [d0, d1, d2])) (h : SzOf d2 l) : Fit3 l := by
  rcases h with rfl | ⟨es, sp, rfl, he⟩
  · simp
  · have := List.all_eq_true.1 hsz _ (DataW.weights_mem_each ht hd ((es.length + sp.length) * Try.prog.bytesOf 52) (by
      simp only [DataW.weights, Try.underlying24]
      simp [DataW.weightsEach, DataW.weights, Try.underlying22]))
    simp only [decide_eq_true_eq] at this
    rw [bytes52] at this
    unfold reachBytes at this
    unfold Fit3
    omega
end
end Go.Proofs.Ytiodpgannelgpaa
