/-
  The walks of Of's comparison and of the library's Clone and SortFunc at edges.
-/
import Derived.Test.YtiodpgannelgpaaGrRow
import Derived.Test.YtiodpgannelgpaaSortLay
import Derived.LoopN
namespace Go.Proofs.Ytiodpgannelgpaa
open Go.RowKit GM Go.Sort Go.Lib
set_option linter.unusedSimpArgs false
set_option linter.unusedVariables false
set_option maxHeartbeats 4000000
set_option maxRecDepth 100000

def cmp3 (a b : E) : Int := orZ (ordC a b) (cmpZ a.2.2 b.2.2)
theorem cmpZ_neg {x y : Int} : cmpZ x y < 0 ↔ x < y := by unfold cmpZ; split <;> (try split) <;> omega
theorem cmp3_neg {a b : E} : cmp3 a b < 0 ↔ bef a b = true ∨ (a.1 = b.1 ∧ a.2.1 = b.2.1) ∧ a.2.2 < b.2.2 := by
  unfold cmp3 orZ
  split
  · rename_i h
    have := ordC_zero.1 h
    rw [cmpZ_neg]
    have hb : bef a b = false := by
      have := ordC_nonneg (a := a) (b := b)
      exact this.1 (by omega)
    rw [hb]; simp [this]
  · rename_i h
    rw [ordC_neg]
    constructor
    · exact .inl
    · rintro (h1 | h1)
      · exact h1
      · exact absurd (ordC_zero.2 h1.1) h
/-- by From, To, cost -/
def lt3 (a b : E) : Prop := a.1 < b.1 ∨ a.1 = b.1 ∧ (a.2.1 < b.2.1 ∨ a.2.1 = b.2.1 ∧ a.2.2 < b.2.2)
theorem cmp3_iff {a b : E} : cmp3 a b < 0 ↔ lt3 a b := by rw [cmp3_neg, bef_iff]; unfold lt3; omega
theorem swo3 : SWO (ltOf cmp3) where
  irrefl x := by unfold ltOf; rw [decide_eq_false]; rw [cmp3_iff]; unfold lt3; omega
  trans x y z h1 h2 := by
    unfold ltOf at *
    rw [decide_eq_true_eq, cmp3_iff] at *
    unfold lt3 at *; omega
  ntrans x y z h1 h2 := by
    unfold ltOf at *
    rw [decide_eq_false_iff_not, cmp3_iff] at *
    unfold lt3 at *; omega
/-- Of's comparison -/
theorem cmp74_any (a b : E) (w : World) : Calls Try.prog 74 #[.agg #[.int .i64 a.1, .int .i64 a.2.1, .int .i64 a.2.2], .agg #[.int .i64 b.1, .int .i64 b.2.1, .int .i64 b.2.2]] w fun e w' => e = .returned (.int .i64 (cmp3 a b)) ∧ Gr w w' := by
  have HOR : Hid (∀ W, Calls Try.prog 51 #[.agg #[.int .i64 a.1, .int .i64 a.2.1, .int .i64 a.2.2], .agg #[.int .i64 b.1, .int .i64 b.2.1, .int .i64 b.2.2]] W fun e w' => e = .returned (.int .i64 (ordC a b)) ∧ Gr W w') := fun W => order_any a b W
  have HO : Hid (cmp3 a b = orZ (ordC a b) (cmpZ a.2.2 b.2.2)) := rfl
  obtain ⟨a0, a1, a2⟩ := a
  obtain ⟨b0, b1, b2⟩ := b
  dsimp only at HO HOR ⊢
  generalize ordC (a0, a1, a2) (b0, b1, b2) = oc at *
  have G2 := Lib.hid (((Gr.refl w).alloc (.cells #[.int .i64 a0, .int .i64 a1, .int .i64 a2] 52)).alloc (.cells #[.int .i64 b0, .int .i64 b1, .int .i64 b2] 52))
  go_enter Try.func74, Try.ntmps74
  go_wp2_with fail
  have h0 : ((w.alloc (.cells #[.int .i64 a0, .int .i64 a1, .int .i64 a2] 52)).alloc (.cells #[.int .i64 b0, .int .i64 b1, .int .i64 b2] 52)).heap[w.heap.size]? = some (.cells #[.int .i64 a0, .int .i64 a1, .int .i64 a2] 52 (0, 0)) := (Below.heap_alloc _ _ _ (by simp)).trans (heap_alloc_new _ _)
  have h1 : ((w.alloc (.cells #[.int .i64 a0, .int .i64 a1, .int .i64 a2] 52)).alloc (.cells #[.int .i64 b0, .int .i64 b1, .int .i64 b2] 52)).heap[w.heap.size + 1]? = some (.cells #[.int .i64 b0, .int .i64 b1, .int .i64 b2] 52 (0, 0)) := by
    have := heap_alloc_new (w.alloc (.cells #[.int .i64 a0, .int .i64 a1, .int .i64 a2] 52)) (.cells #[.int .i64 b0, .int .i64 b1, .int .i64 b2] 52)
    rwa [show (w.alloc _).heap.size = w.heap.size + 1 by simp] at this
  generalize (w.alloc (.cells #[.int .i64 a0, .int .i64 a1, .int .i64 a2] 52)).alloc (.cells #[.int .i64 b0, .int .i64 b1, .int .i64 b2] 52) = W2 at *
  have HSZ : Hid (w.heap.size + 1 < W2.heap.size) := lt_block h1
  have c0 : W2.cell? ⟨w.heap.size, 0, none⟩ = some (.int .i64 a0) := cell_of h0 rfl
  have c1 : W2.cell? ⟨w.heap.size, 1, none⟩ = some (.int .i64 a1) := cell_of h0 rfl
  have c2 : W2.cell? ⟨w.heap.size, 2, none⟩ = some (.int .i64 a2) := cell_of h0 rfl
  have d0 : W2.cell? ⟨w.heap.size + 1, 0, none⟩ = some (.int .i64 b0) := cell_of h1 rfl
  have d1 : W2.cell? ⟨w.heap.size + 1, 1, none⟩ = some (.int .i64 b1) := cell_of h1 rfl
  have d2 : W2.cell? ⟨w.heap.size + 1, 2, none⟩ = some (.int .i64 b2) := cell_of h1 rfl
  have n0 := World.new_ne W2 _ c0
  have n1 := World.new_ne W2 _ d0
  clear h0 h1
  go_region_held3 (fun w' => w'.cell? ⟨w.heap.size, 0, none⟩ = some (.int .i64 a0) ∧ w'.cell? ⟨w.heap.size, 1, none⟩ = some (.int .i64 a1) ∧ w'.cell? ⟨w.heap.size, 2, none⟩ = some (.int .i64 a2) ∧ w'.cell? ⟨w.heap.size + 1, 0, none⟩ = some (.int .i64 b0) ∧ w'.cell? ⟨w.heap.size + 1, 1, none⟩ = some (.int .i64 b1) ∧ w'.cell? ⟨w.heap.size + 1, 2, none⟩ = some (.int .i64 b2))
    (first | exact ⟨c0, c1, c2, d0, d1, d2⟩ | assumption | go_keep)
    (first
      | (go_at_call 51; refine (HOR.out _).mono ?_; rintro e w3 ⟨rfl, hg⟩; have G := Lib.hid hg; have hk := (And.intro (carry hg.below (show W2.drew.cell? _ = _ from c0)) (And.intro (carry hg.below (show W2.drew.cell? _ = _ from c1)) (And.intro (carry hg.below (show W2.drew.cell? _ = _ from c2)) (And.intro (carry hg.below (show W2.drew.cell? _ = _ from d0)) (And.intro (carry hg.below (show W2.drew.cell? _ = _ from d1)) (carry hg.below (show W2.drew.cell? _ = _ from d2))))))); clear hg)
      | (go_at_call 76; refine (compare_any _ _ _).mono ?_; rintro e w4 ⟨rfl, rfl⟩)
      | (go_at_call 75; refine (or2_any oc (cmpZ a2 b2) _ _ (by exact heap_alloc_new _ _)).mono ?_; rintro e w5 ⟨rfl, rfl⟩))
  go_wp2
  go_ret
  exact ⟨by rw [HO.out]; rfl, ((G2.out.drew.trans G.out).alloc _)⟩

theorem flatE_cells (l : List E) (w : World) (A : Addr) (h : ∀ k x, l[k]? = some x → w.cell? (A.add (k * 3)) = some (.int .i64 x.1) ∧ w.cell? (A.add (k * 3 + 1)) = some (.int .i64 x.2.1) ∧ w.cell? (A.add (k * 3 + 2)) = some (.int .i64 x.2.2)) :
    ∀ j u, (flatE l)[j]? = some u → w.cell? (A.add j) = some u := by
  intro j u hu
  have hj : j < l.length * 3 := by have := (List.getElem?_eq_some_iff.1 hu).1; rwa [flatE_len] at this
  have hk : j / 3 < l.length := by omega
  have hx : l[j / 3]? = some l[j / 3] := List.getElem?_eq_getElem hk
  have f := flatE_get l (j / 3) _ hx
  have c := h (j / 3) _ hx
  rcases (by omega : j % 3 = 0 ∨ j % 3 = 1 ∨ j % 3 = 2) with e | e | e
  · have ej : j = j / 3 * 3 := by omega
    rw [ej] at hu ⊢
    rw [f.1] at hu
    rw [← hu]; exact c.1
  · have ej : j = j / 3 * 3 + 1 := by omega
    rw [ej] at hu ⊢
    rw [f.2.1] at hu
    rw [← hu]; exact c.2.1
  · have ej : j = j / 3 * 3 + 2 := by omega
    rw [ej] at hu ⊢
    rw [f.2.2] at hu
    rw [← hu]; exact c.2.2
/-- not more edges than a slice can hold -/
abbrev Fits (l : List E) : Prop := l.length ≤ 5864062014634

/-- slices.Clone -/
theorem clone_any (l : List E) (v : Value) (w : World) (hl : Fits l) (hr : Rd3 w v l) :
    Calls Try.prog 60 #[v] w fun e w' => ∃ v', e = .returned v' ∧ w'.ownsRow w.heap.size 52 3 v' l.length (flatE l) ∧ Below w.heap.size w w' := by
  unfold Fits at hl
  obtain ⟨i0, hi, hz0, hz1, hz2⟩ := infoE_parts info52
  obtain ⟨ad, cap, rfl, _, _, hc⟩ := hr
  have q48 : ∀ (w : World) (a : Option Addr) (n c n' c' : Nat), (binOp .eql 22 (.slice a n c) (.slice none n' c')).run Try.prog w = .ok (.bool a.isNone) w := fun w a n c n' c' => Lib.run_eql_slice_nil w _ _ a n c n' c' Try.underlying22
  cases ad with
  | none =>
    have hl0 : l = [] := by
      cases l with
      | nil => rfl
      | cons x r => obtain ⟨b, off, h, _⟩ := hc 0 x rfl; cases h
    subst hl0
    clear hc
    go_enter Try.func60, Try.ntmps60
    go_wp2
    go_ret
    exact ⟨_, rfl, World.ownsRow_nil _ _ _ _, Below.refl _ _⟩
  | some A =>
    have hcs : ∀ j u, (flatE l)[j]? = some u → w.cell? (A.add j) = some u := flatE_cells l w A fun k x hk => by
      obtain ⟨b, off, h, _, h0, h1, h2⟩ := hc k x hk
      obtain rfl := Option.some.inj h
      exact ⟨by rw [Addr.add_lit]; exact h0, by rw [Addr.add_lit, ← Nat.add_assoc]; exact h1, by rw [Addr.add_lit, ← Nat.add_assoc]; exact h2⟩
    have HC := Lib.hid hcs
    clear hc hcs
    go_enter Try.func60, Try.ntmps60
    go_wp2_with (at_builtin; refine wpList_append_own _ rfl _ _ 22 rfl w.heap.size 52 i0 (.agg #[.int .i64 0, .int .i64 0, .int .i64 0]) 3 24 Try.underlying22 hi hz0 hz1 hz2 rfl (by decide) _ _ _ rfl (World.ownsRow_made w #[] 0 (Nat.le_refl _) (Nat.zero_le _) (by simp)) A l.length cap (flatE l) rfl (flatE_len l) (fun j u hj => Lib.cell?_alloc_some _ (HC.out j u hj)) (flatE_one l) (by unfold maxLen; omega) (by omega) (by simp) ?_; intro v' w1 hown hgrow hnil)
    go_ret
    refine ⟨v', rfl, by simpa using hown, ((Below.refl _ w).alloc (Nat.le_refl _) _).grown hgrow (by simp) (by intro k hk; cases hk; exact Nat.le_refl _)⟩
end Go.Proofs.Ytiodpgannelgpaa
