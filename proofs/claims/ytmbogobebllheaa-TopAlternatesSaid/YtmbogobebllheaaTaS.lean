/-
  The graph of a list of edges: sorted, compacted (carried over from the seat of layer 9).
-/
import Derived.Test.YtmbogobebllheaaMy
import Derived.Test.YtmbogobebllheaaLfM1
import Derived.Test.YtmbogobebllheaaMg
import Derived.Test.YtmbogobebllheaaMr
import Derived.Shelf.SlSortCmp.WholeK
import Derived.Lib.SliceRun
import Derived.Lib.SlicesCompact
import Derived.Sort.WalkB12
import Derived.WalkSmall
import Derived.Deep.LoopGhost
import Derived.Deep.Draws
import Derived.LoopN
import Derived.BigQuiet

namespace Go.Proofs.Ytmbogobebllheaa
open Go.RowKit GM Go.Sort Go.Lib
set_option linter.unusedSimpArgs false
set_option linter.unusedVariables false
set_option maxHeartbeats 4000000
set_option maxRecDepth 100000

theorem ownE_below {w w1 : World} {B n e k : Nat} {v : Value} {xs : List Value} (h : w.ownsRow B e k v n xs) (hb : Below w.heap.size w w1) : w1.ownsRow B e k v n xs :=
  ⟨h.1, h.2.imp id (fun ⟨g, cap, cur, a, b, c, d⟩ => ⟨g, cap, cur, a, b, (hb.block g (Array.getElem?_eq_some_iff.1 c).1).trans c, d⟩)⟩
theorem ownE_lt {w : World} {B n e k : Nat} {v : Value} {xs : List Value} (h : w.ownsRow B e k v n xs) {g : Nat} (hg : v.ownBlock = some g) : B ≤ g ∧ g < w.heap.size := by
  rcases h.2 with ⟨rfl, _⟩ | ⟨g', cap, cur, rfl, hb, hc, _⟩
  · simp [Value.ownBlock] at hg
  · simp [Value.ownBlock] at hg; subst hg; exact ⟨hb, (Array.getElem?_eq_some_iff.1 hc).1⟩
theorem setCells_below {B : Nat} {w : World} {blk : Nat} (hB : B ≤ blk) : ∀ (vs : List Value) (s : Nat) (W : World), Below B w W → Below B w (W.setCells blk s vs)
  | [], _, _, h => h
  | v :: r, s, W, h => setCells_below hB r (s + 1) _ (h.setCell hB v)
/-- 'clear(s)' of n > 0 elements of three cells each -/
theorem clear_three {P : Program} (w : World) (t e : TypeId) (a b c : Value) (ht : P.underlying t = some (.slice e)) (hv : ∀ w, (zeroValue e).run P w = .ok (.agg #[a, b, c]) w) (ha : a.oneCell' = true) (hb : b.oneCell' = true) (hc' : c.oneCell' = true) (blk o n cap : Nat) (hn : 0 < n)
    (hc : ∀ j, j < n * 3 → (w.cell? ⟨blk, o + j, none⟩).isSome = true) (hf : ∀ j, j < n * 3 → w.frozen? ⟨blk, o + j, none⟩ = false) :
    ∃ vs : List Value, vs.length = n * 3 ∧ ∀ ty, (Builtin.clear_ #[t] ty #[.slice (some ⟨blk, o, none⟩) n cap]).run P w = .ok (.tuple #[]) (w.setCells blk o vs) := by
  refine ⟨(Builtin.zeroCells #[a, b, c] n).toList, by simp [Builtin.zeroCells], fun ty => ?_⟩
  have hl : (Builtin.zeroCells #[a, b, c] n).toList.length = n * 3 := by simp [Builtin.zeroCells]
  have hst := run_storeCells_cells (P := P) blk o (Builtin.zeroCells #[a, b, c] n).toList 0 w (by simpa [hl] using hc) (by simpa [hl] using hf) (by
    intro v hv'
    simp [Builtin.zeroCells] at hv'
    obtain ⟨j, hj, rfl⟩ := hv'
    have : j % 3 = 0 ∨ j % 3 = 1 ∨ j % 3 = 2 := by omega
    rcases this with h | h | h <;> simp [h, ha, hb, hc'])
  simp only [Nat.add_zero] at hst
  obtain ⟨m, rfl⟩ : ∃ m, n = m + 1 := ⟨n - 1, by omega⟩
  simp [Builtin.clear_, run_underlying ht, hv, Value.cells, hst]
theorem holdsE_of {W : World} {blk off : Nat} {l : List E} (h : ∀ i x, l[i]? = some x → (W.cell? ⟨blk, off + i * 3, none⟩ = some (.int .i64 x.1) ∧ W.cell? ⟨blk, off + i * 3 + 1, none⟩ = some (.int .i64 x.2.1) ∧ W.cell? ⟨blk, off + i * 3 + 2, none⟩ = some (.int .i64 x.2.2)) ∧ W.frozen? ⟨blk, off + i * 3, none⟩ = false ∧ W.frozen? ⟨blk, off + i * 3 + 1, none⟩ = false ∧ W.frozen? ⟨blk, off + i * 3 + 2, none⟩ = false) : HoldsK encE 3 W blk off l.toArray := by
  unfold HoldsK
  rw [flatK_flatE]
  intro j hj
  have hj' : j < l.length * 3 := by simpa [flatE_len] using hj
  have hk : j / 3 < l.length := by omega
  obtain ⟨⟨h0, h1, h2⟩, h3, h4, h5⟩ := h (j / 3) _ (List.getElem?_eq_getElem hk)
  have f := flatE_get l (j / 3) _ (List.getElem?_eq_getElem hk)
  have g : (flatE l).toArray[j]! = (flatE l)[j]'(by rw [flatE_len]; exact hj') := by simp [flatE_len, hj']
  rw [g]
  rcases (by omega : j % 3 = 0 ∨ j % 3 = 1 ∨ j % 3 = 2) with e | e | e
  · have ej : j / 3 * 3 = j := by omega
    have f := f.1
    rw [ej] at f h0 h3
    have := (List.getElem?_eq_some_iff.1 f).2
    rw [this]; exact ⟨h0, h3⟩
  · have ej : j / 3 * 3 + 1 = j := by omega
    have f := f.2.1
    rw [Nat.add_assoc, ej] at h1 h4
    rw [ej] at f
    have := (List.getElem?_eq_some_iff.1 f).2
    rw [this]; exact ⟨h1, h4⟩
  · have ej : j / 3 * 3 + 2 = j := by omega
    have f := f.2.2
    rw [Nat.add_assoc, ej] at h2 h5
    rw [ej] at f
    have := (List.getElem?_eq_some_iff.1 f).2
    rw [this]; exact ⟨h2, h5⟩
/-- a slice over a row at a block that may be written -/
theorem OwnE.rd {blk off : Nat} {w : World} {v : Value} {l : List E} (h : OwnE blk off w v l) : Rd3 w v l := by
  have hc := h.cells
  obtain ⟨cap, rfl, h1, h2, _, hb⟩ := h
  exact ⟨some ⟨blk, off, none⟩, cap, rfl, h1, h2, fun i x hx => ⟨blk, off, rfl, hb, (hc i x hx).1⟩⟩
/-- a slice over a row of the call's own: nil, or a block from B on that may be written -/
theorem OwnS.rd {B : Nat} {w : World} {v : Value} {l : List E} (h : OwnS B w v l) : Rd3 w v l := by
  rcases h with ⟨rfl, rfl⟩ | ⟨g, _, h⟩
  · exact rd3_nil _
  · exact h.rd
/-- of the first m places those that kp chooses -/
theorem pickU_whole (kp : Nat → Bool) (d : Array E) (h : ∀ j, j < d.size → kp j = true) : pickU kp d d.size = d.toList := by rw [pickU_all kp d _ h, range_map_get]
theorem pickU_le (kp : Nat → Bool) (d : Array E) (m : Nat) : (pickU kp d m).length ≤ m := by
  unfold pickU
  rw [List.length_map]
  exact Nat.le_trans (List.length_filter_le _ _) (by simp)
theorem mem_pickU {kp : Nat → Bool} {d : Array E} {m : Nat} {x : E} : x ∈ pickU kp d m ↔ ∃ j, j < m ∧ kp j = true ∧ d[j]! = x := by
  unfold pickU
  simp only [List.mem_map, List.mem_filter, List.mem_range]
  constructor
  · rintro ⟨j, ⟨a, b⟩, c⟩; exact ⟨j, a, b, c⟩
  · rintro ⟨j, a, b, c⟩; exact ⟨j, ⟨a, b⟩, c⟩
/-- m places have been looked at; the chosen ones, k elements, lie at the head; from place k on the row is as it was -/
theorem PickInv.keep {kp : Nat → Bool} {d dk : Array E} {m k : Nat} (h : PickInv kp d m k dk) (hm : m < d.size) (hk : kp m = true) : PickInv kp d (m + 1) (k + 1) (dk.setIfInBounds k d[m]!) where
  size := by simp [h.size]
  len := by rw [pickU_succ, hk]; simp [h.len]
  lt := by have := h.lt; omega
  low := fun j hj => by
    rw [pickU_succ, hk, if_pos rfl]
    by_cases e : j = k
    · subst e
      rw [List.getElem?_append_right (by rw [h.len]; exact Nat.le_refl _), h.len, Nat.sub_self, getElem!_set_same dk j _ (by have := h.lt; have := h.size; omega)]
      rfl
    · rw [List.getElem?_append_left (by rw [h.len]; omega), h.low j (by omega), getElem!_set_other dk k j _ e]
  high := fun j hj => by rw [getElem!_set_other dk k j _ (by omega), h.high j (by omega)]
theorem own_of_pick {W : World} {blk off cap : Nat} {kp : Nat → Bool} {d dk : Array E} {k : Nat} (hI : PickInv kp d d.size k dk) (hcap : k ≤ cap) (hcap2 : cap ≤ 9223372036854775807) (h : ∀ i, i < k → (W.cell? ⟨blk, off + i * 3, none⟩ = some (.int .i64 dk[i]!.1) ∧ W.cell? ⟨blk, off + i * 3 + 1, none⟩ = some (.int .i64 dk[i]!.2.1) ∧ W.cell? ⟨blk, off + i * 3 + 2, none⟩ = some (.int .i64 dk[i]!.2.2)) ∧ W.frozen? ⟨blk, off + i * 3, none⟩ = false ∧ W.frozen? ⟨blk, off + i * 3 + 1, none⟩ = false ∧ W.frozen? ⟨blk, off + i * 3 + 2, none⟩ = false) (hb : blk < W.heap.size) :
    OwnE blk off W (.slice (some ⟨blk, off, none⟩) k cap) (pickU kp d d.size) := by
  refine ⟨cap, by rw [hI.len], by rw [hI.len]; exact hcap, hcap2, holdsE_of fun i x hx => ?_, hb⟩
  have hi : i < k := by have := (List.getElem?_eq_some_iff.1 hx).1; rwa [hI.len] at this
  have := hI.low i hi
  rw [hx] at this
  have e : x = dk[i]! := Option.some.inj this
  rw [e]; exact h i hi
end Go.Proofs.Ytmbogobebllheaa

namespace Go.Proofs.Ytmbogobebllheaa
open Go.RowKit GM Go.Sort Go.Lib
set_option linter.unusedSimpArgs false
set_option linter.unusedVariables false
set_option maxHeartbeats 4000000
set_option maxRecDepth 100000

def cmp3 (a b : E) : Int := orZ (ordC a b) (cmpZ a.2.2 b.2.2)
theorem cmpZ_neg {x y : Int} : cmpZ x y < 0 ↔ x < y := by unfold cmpZ; split <;> (try split) <;> omega
theorem ordC_zero {a b : E} : ordC a b = 0 ↔ a.1 = b.1 ∧ a.2.1 = b.2.1 := by unfold ordC; split <;> (try split) <;> (try split) <;> (try split) <;> omega
theorem cmp3_neg {a b : E} : cmp3 a b < 0 ↔ bef a b = true ∨ (a.1 = b.1 ∧ a.2.1 = b.2.1) ∧ a.2.2 < b.2.2 := by
  unfold cmp3 orZ
  split
  · rename_i h
    have := ordC_zero.1 h
    rw [cmpZ_neg]
    have hb : bef a b = false := by
      have := ordC_nonneg (a := a) (b := b)
      exact this.1 (by omega)
    rw [hb]; simp [this]
  · rename_i h
    rw [ordC_neg]
    constructor
    · exact .inl
    · rintro (h1 | h1)
      · exact h1
      · exact absurd (ordC_zero.2 h1.1) h
/-- by From, To, cost -/
def lt3 (a b : E) : Prop := a.1 < b.1 ∨ a.1 = b.1 ∧ (a.2.1 < b.2.1 ∨ a.2.1 = b.2.1 ∧ a.2.2 < b.2.2)
theorem cmp3_iff {a b : E} : cmp3 a b < 0 ↔ lt3 a b := by rw [cmp3_neg, bef_iff]; unfold lt3; omega
theorem swo3 : SWO (ltOf cmp3) where
  irrefl x := by unfold ltOf; rw [decide_eq_false]; rw [cmp3_iff]; unfold lt3; omega
  trans x y z h1 h2 := by
    unfold ltOf at *
    rw [decide_eq_true_eq, cmp3_iff] at *
    unfold lt3 at *; omega
  ntrans x y z h1 h2 := by
    unfold ltOf at *
    rw [decide_eq_false_iff_not, cmp3_iff] at *
    unfold lt3 at *; omega
/-- Of's comparison -/
theorem cmp74_any (a b : E) (w : World) : Calls Try.prog 135 #[.agg #[.int .i64 a.1, .int .i64 a.2.1, .int .i64 a.2.2], .agg #[.int .i64 b.1, .int .i64 b.2.1, .int .i64 b.2.2]] w fun e w' => e = .returned (.int .i64 (cmp3 a b)) ∧ Gr w w' := by
  have HOR : Hid (∀ W, Calls Try.prog 107 #[.agg #[.int .i64 a.1, .int .i64 a.2.1, .int .i64 a.2.2], .agg #[.int .i64 b.1, .int .i64 b.2.1, .int .i64 b.2.2]] W fun e w' => e = .returned (.int .i64 (ordC a b)) ∧ Gr W w') := fun W => order_any a b W
  have HO : Hid (cmp3 a b = orZ (ordC a b) (cmpZ a.2.2 b.2.2)) := rfl
  obtain ⟨a0, a1, a2⟩ := a
  obtain ⟨b0, b1, b2⟩ := b
  dsimp only at HO HOR ⊢
  generalize ordC (a0, a1, a2) (b0, b1, b2) = oc at *
  have G2 := Lib.hid (((Gr.refl w).alloc (.cells #[.int .i64 a0, .int .i64 a1, .int .i64 a2] 72)).alloc (.cells #[.int .i64 b0, .int .i64 b1, .int .i64 b2] 72))
  go_enter Try.func135, Try.ntmps135
  go_wp2_with fail
  have h0 : ((w.alloc (.cells #[.int .i64 a0, .int .i64 a1, .int .i64 a2] 72)).alloc (.cells #[.int .i64 b0, .int .i64 b1, .int .i64 b2] 72)).heap[w.heap.size]? = some (.cells #[.int .i64 a0, .int .i64 a1, .int .i64 a2] 72 (0, 0)) := (Below.heap_alloc _ _ _ (by simp)).trans (heap_alloc_new _ _)
  have h1 : ((w.alloc (.cells #[.int .i64 a0, .int .i64 a1, .int .i64 a2] 72)).alloc (.cells #[.int .i64 b0, .int .i64 b1, .int .i64 b2] 72)).heap[w.heap.size + 1]? = some (.cells #[.int .i64 b0, .int .i64 b1, .int .i64 b2] 72 (0, 0)) := by
    have := heap_alloc_new (w.alloc (.cells #[.int .i64 a0, .int .i64 a1, .int .i64 a2] 72)) (.cells #[.int .i64 b0, .int .i64 b1, .int .i64 b2] 72)
    rwa [show (w.alloc _).heap.size = w.heap.size + 1 by simp] at this
  generalize (w.alloc (.cells #[.int .i64 a0, .int .i64 a1, .int .i64 a2] 72)).alloc (.cells #[.int .i64 b0, .int .i64 b1, .int .i64 b2] 72) = W2 at *
  have HSZ : Hid (w.heap.size + 1 < W2.heap.size) := lt_block h1
  have c0 : W2.cell? ⟨w.heap.size, 0, none⟩ = some (.int .i64 a0) := cell_of h0 rfl
  have c1 : W2.cell? ⟨w.heap.size, 1, none⟩ = some (.int .i64 a1) := cell_of h0 rfl
  have c2 : W2.cell? ⟨w.heap.size, 2, none⟩ = some (.int .i64 a2) := cell_of h0 rfl
  have d0 : W2.cell? ⟨w.heap.size + 1, 0, none⟩ = some (.int .i64 b0) := cell_of h1 rfl
  have d1 : W2.cell? ⟨w.heap.size + 1, 1, none⟩ = some (.int .i64 b1) := cell_of h1 rfl
  have d2 : W2.cell? ⟨w.heap.size + 1, 2, none⟩ = some (.int .i64 b2) := cell_of h1 rfl
  have n0 := World.new_ne W2 _ c0
  have n1 := World.new_ne W2 _ d0
  clear h0 h1
  go_region_held3 (fun w' => w'.cell? ⟨w.heap.size, 0, none⟩ = some (.int .i64 a0) ∧ w'.cell? ⟨w.heap.size, 1, none⟩ = some (.int .i64 a1) ∧ w'.cell? ⟨w.heap.size, 2, none⟩ = some (.int .i64 a2) ∧ w'.cell? ⟨w.heap.size + 1, 0, none⟩ = some (.int .i64 b0) ∧ w'.cell? ⟨w.heap.size + 1, 1, none⟩ = some (.int .i64 b1) ∧ w'.cell? ⟨w.heap.size + 1, 2, none⟩ = some (.int .i64 b2))
    (first | exact ⟨c0, c1, c2, d0, d1, d2⟩ | assumption | go_keep)
    (first
      | (go_at_call 107; refine (HOR.out _).mono ?_; rintro e w3 ⟨rfl, hg⟩; have G := Lib.hid hg; have hk := (And.intro (carry hg.below (show W2.drew.cell? _ = _ from c0)) (And.intro (carry hg.below (show W2.drew.cell? _ = _ from c1)) (And.intro (carry hg.below (show W2.drew.cell? _ = _ from c2)) (And.intro (carry hg.below (show W2.drew.cell? _ = _ from d0)) (And.intro (carry hg.below (show W2.drew.cell? _ = _ from d1)) (carry hg.below (show W2.drew.cell? _ = _ from d2))))))); clear hg)
      | (go_at_call 121; refine (compare_any _ _ _).mono ?_; rintro e w4 ⟨rfl, rfl⟩)
      | (go_at_call 120; refine (or2_any oc (cmpZ a2 b2) _ _ (by exact heap_alloc_new _ _)).mono ?_; rintro e w5 ⟨rfl, rfl⟩))
  go_wp2
  go_ret
  exact ⟨by rw [HO.out]; rfl, ((G2.out.drew.trans G.out).alloc _)⟩

end Go.Proofs.Ytmbogobebllheaa

namespace Go.Proofs.Ytmbogobebllheaa
open Go.RowKit GM Go.Sort Go.Lib
set_option linter.unusedSimpArgs false
set_option linter.unusedVariables false
set_option maxHeartbeats 4000000
set_option maxRecDepth 100000

theorem cmpLaysE (blk off size : Nat) (w : World) : CmpLays Try.prog 135 #[] encE 3 cmp3 blk off size w := fun _ _ _ _ x y => cmp74_any x y _
/-- slices.SortFunc by Of's comparison, at a row of the call's own -/
theorem sortFunc_any (l : List E) (g cap : Nat) (w : World) (hl : Fits l) (hH : HoldsK encE 3 w g 0 l.toArray) (hg : g < w.heap.size) :
    Calls Try.prog 134 #[.slice (some ⟨g, 0, none⟩) l.length cap, .func (.func 135) #[] #[]] w fun e w' => e = .returned (.tuple #[]) ∧ ∃ d' : Array E, d'.size = l.length ∧ d'.toList.Perm l ∧ (∀ i j, i < j → j < d'.size → ¬ lt3 d'[j]! d'[i]!) ∧ HoldsK encE 3 w' g 0 d' ∧ w.grownBy w' (some g) := by
  unfold Fits at hl
  have eg : ∀ args w, (callFunc 135 args).run Try.prog w = .ok (.enter 135 args) w := enters_of Try.func135 (by kernel_rfl) rfl
  have hcon := AnyQ.slices_SortFunc Try.sortE 3 Try.isAgg72 Try.sizeOf72 encE encE_len encE_one cmp3 swo3 135 #[] g 0 cap l.toArray w eg (cmpLaysE g 0 _ w) hH hg (by simp; omega)
  refine hcon.mono ?_
  rintro e w' ⟨rfl, d', n, os, hp, hs, rfl⟩
  have hsz : d'.size = l.length := by simpa using hp.1
  refine ⟨rfl, d', hsz, ?_, fun i j hij hj hlt => ?_, holdsK_sortWorldK_c encE 3 w g 0 l.toArray d' n os hH hg (by simpa using hsz), below_sorted _⟩
  · have h3 := hp.2.2
    have e1 : d'.extract 0 l.toArray.size = d' := by rw [show l.toArray.size = d'.size by simp [hsz]]; simp
    have e2 : l.toArray.extract 0 l.toArray.size = l.toArray := by simp
    rw [e1, e2] at h3
    exact h3
  · have h := hs i j (Nat.zero_le _) hij (by simpa [hsz] using hj)
    unfold ltOf at h
    rw [decide_eq_false_iff_not, cmp3_iff] at h
    exact h hlt
theorem pdq_none (cap : Nat) (lim : Int) (fv : Value) (w : World) :
    Calls Try.prog 150 #[.slice none 0 cap, .int .i64 0, .int .i64 0, .int .i64 lim, fv] w fun e w' => e = .returned (.tuple #[]) ∧ w' = w := by
  have hi := fun W => insertion_none cap fv W
  go_enter Try.func150, Try.ntmps150
  go_wp2
  refine wp_loop_rounds 1 ?_
  rw [rounds_succ]
  go_wp2_with (go_at_call 160; refine (hi _).mono ?_; rintro e w' ⟨rfl, rfl⟩)
  (try simp only [Exit.inBlock, Exit.then]); refine bodyPost_ret (results_none rfl _ _ _) rfl ?_
  exact ⟨rfl, rfl⟩
theorem sortFunc_none (fv : Value) (w : World) :
    Calls Try.prog 134 #[.slice none 0 0, fv] w fun e w' => e = .returned (.tuple #[]) ∧ w' = w := by
  have hp := fun lim W => pdq_none 0 lim fv W
  have hl : ∀ W, Calls Try.prog 151 #[.int .u64 0] W fun e w' => e = .returned (.int .i64 (Lib.bitLen 0 : Nat)) ∧ w' = W := fun W =>
    Any.bits_Len (SlLaysF0.n15.bits (P := Try.prog) (ρ := Try.sortE_ren) { Try.sortE with }) 0 W (by omega) (by omega)
  go_enter Try.func134, Try.ntmps134
  go_wp2_with (first | (go_at_call 151; refine (hl _).mono ?_; rintro e w' ⟨rfl, rfl⟩) | (go_at_call 150; refine (hp _ _).mono ?_; rintro e w' ⟨rfl, rfl⟩))
  go_end0
  exact ⟨rfl, rfl⟩
theorem compact_none (fv : Value) (w : World) : Calls Try.prog 136 #[.slice none 0 0, fv] w fun e w' => e = .returned (.slice none 0 0) ∧ w' = w := by
  go_enter Try.func136, Try.ntmps136
  go_wp2
  go_ret
  exact ⟨rfl, rfl⟩
/-- between the same nodes -/
def sk (a b : E) : Bool := ldB b a.1 a.2.1
theorem same78_any (a b : E) (w : World) : Calls Try.prog 137 #[.agg #[.int .i64 a.1, .int .i64 a.2.1, .int .i64 a.2.2], .agg #[.int .i64 b.1, .int .i64 b.2.1, .int .i64 b.2.2]] w fun e w' => e = .returned (.bool (sk a b)) ∧ Gr w w' := by
  have HL : Hid (∀ W, Calls Try.prog 138 #[.agg #[.int .i64 b.1, .int .i64 b.2.1, .int .i64 b.2.2], .int .i64 a.1, .int .i64 a.2.1] W fun en w' => en = .returned (.bool (sk a b)) ∧ Gr W w') := fun W => leads_any b a.1 a.2.1 W
  generalize sk a b = q at *
  obtain ⟨a0, a1, a2⟩ := a
  obtain ⟨b0, b1, b2⟩ := b
  dsimp only at HL ⊢
  have G2 := Lib.hid (((Gr.refl w).alloc (.cells #[.int .i64 a0, .int .i64 a1, .int .i64 a2] 72)).alloc (.cells #[.int .i64 b0, .int .i64 b1, .int .i64 b2] 72))
  go_enter Try.func137, Try.ntmps137
  go_wp2_with (go_at_call 138; refine (HL.out _).mono ?_; rintro e w1 ⟨rfl, hg⟩; have G := Lib.hid hg; clear hg)
  go_ret
  exact ⟨rfl, G2.out.trans G.out⟩
end Go.Proofs.Ytmbogobebllheaa

namespace Go.Proofs.Ytmbogobebllheaa
open Go.RowKit GM Go.Sort Go.Lib
set_option linter.unusedSimpArgs false
set_option linter.unusedVariables false
set_option maxHeartbeats 4000000
set_option maxRecDepth 100000

/-- place j is the first of its run -/
def kpE (d : Array E) (j : Nat) : Bool := decide (j = 0 ∨ sk d[j]! d[j - 1]! = false)
theorem kpE_pos {d : Array E} {m : Nat} (h : sk d[m]! d[m - 1]! = false) : kpE d m = true := decide_eq_true (.inr h)
theorem kpE_neg {d : Array E} {m : Nat} (hm : 0 < m) (h : sk d[m]! d[m - 1]! = true) : kpE d m = false := decide_eq_false (by rintro (h' | h'); omega; rw [h] at h'; cases h')
theorem kpE_one (d : Array E) : ∀ j, j < 1 → kpE d j = true := fun j hj => decide_eq_true (.inl (by omega))
theorem compact_any (blk off cap : Nat) (d : Array E) (w : World) (hH : HoldsK encE 3 w blk off d) (hsz : d.size ≤ 5864062014634) (hcap : d.size ≤ cap) (hcap2 : cap ≤ 9223372036854775807) (hblk : blk < w.heap.size) :
    Calls Try.prog 136 #[.slice (some ⟨blk, off, none⟩) d.size cap, .func (.func 137) #[] #[]] w fun e w' => ∃ v', e = .returned v' ∧ OwnE blk off w' v' (pickU (kpE d) d d.size) ∧ Below blk w w' := by
  have same : ∀ W, Below w.heap.size w W → (∀ j, j < d.size → kpE d j = true) → OwnE blk off W (.slice (some ⟨blk, off, none⟩) d.size cap) (pickU (kpE d) d d.size) := by
    intro W hb hall
    have e : pickU (kpE d) d d.size = d.toList := pickU_whole _ d hall
    rw [e]
    exact ⟨cap, by simp, by simpa using hcap, hcap2, by simpa using holdsE_below hH hb hblk, Nat.lt_of_lt_of_le hblk hb.size⟩
  have HS : Hid (∀ W, Below w.heap.size w W → (∀ j, j < d.size → kpE d j = true) → OwnE blk off W (.slice (some ⟨blk, off, none⟩) d.size cap) (pickU (kpE d) d d.size)) := same
  have HH : Hid (HoldsK encE 3 w blk off d) := hH
  have HF : Hid (∀ a b W, Calls Try.prog 137 #[.agg #[.int .i64 a.1, .int .i64 a.2.1, .int .i64 a.2.2], .agg #[.int .i64 b.1, .int .i64 b.2.1, .int .i64 b.2.2]] W fun e w' => e = .returned (.bool (sk a b)) ∧ Gr W w') := same78_any
  have HC2 := Lib.hid hcap2
  clear same hH hcap2
  by_cases h2 : d.size < 2
  · go_enter Try.func136, Try.ntmps136
    go_wp2
    go_ret
    exact ⟨_, rfl, HS.out _ (Below.refl _ _) (fun j hj => kpE_one d j (by omega)), Below.refl _ _⟩
  · go_enter Try.func136, Try.ntmps136
    go_wp2_with fail
    go_loopg [5] d.size (fun g s5 wr => ∃ k : Nat, 1 ≤ k ∧ k ≤ d.size ∧ d.size - k ≤ g ∧ s5 = .int .i64 k ∧ Hid (HoldsK encE 3 wr blk off d ∧ Below w.heap.size w wr) ∧ Hid (∀ j, j < k → kpE d j = true))
    case atStart => exact ⟨1, Nat.le_refl _, by omega, by omega, rfl, ⟨HH.out, Below.refl _ _⟩, kpE_one d⟩
    case round =>
      obtain ⟨k, hk1, hk, hg, rfl, HW, HA⟩ := hrel
      by_cases hlt : k < d.size
      · obtain ⟨⟨a, b, c⟩, hx⟩ : ∃ x, d[k]! = x := ⟨_, rfl⟩
        obtain ⟨⟨a', b', c'⟩, hy⟩ : ∃ x, d[k - 1]! = x := ⟨_, rfl⟩
        obtain ⟨⟨c0, c1, c2⟩, f0, f1, f2⟩ := he_cells HW.out.1 hlt hx
        obtain ⟨⟨p0, p1, p2⟩, q0, q1, q2⟩ := he_cells HW.out.1 (show k - 1 < d.size by omega) hy
        have HX := Lib.hid (And.intro hx hy)
        have HFe : Hid (∀ W, Calls Try.prog 137 #[.agg #[.int .i64 a, .int .i64 b, .int .i64 c], .agg #[.int .i64 a', .int .i64 b', .int .i64 c']] W fun e w' => e = .returned (.bool (sk (a, b, c) (a', b', c'))) ∧ Gr W w') := fun W => HF.out (a, b, c) (a', b', c') W
        have HKS : Hid (∃ q, sk (a, b, c) (a', b', c') = q) := ⟨_, rfl⟩
        have hk0 : (0 : Int) ≤ ((k : Int) - 1) := by omega
        have hk2 : ((k : Int) - 1) < (d.size : Int) := by omega
        have hkw : IntKind.i64.wrap ((k : Int) - 1) = (k : Int) - 1 := IntWalk.i64_in _ (by omega)
        have kz0 : (0 : Int) ≤ (k : Int) := by omega
        have kz1 : (k : Int) < (d.size : Int) := by omega
        have kz3 : (1 : Int) ≤ (k : Int) := by omega
        have kz4 : (k : Int) ≤ (d.size : Int) := by omega
        have kz5 : ((k : Int) - 1).toNat = k - 1 := by omega
        clear hx hy f0 f1 f2 q0 q1 q2
        go_wp2_with fail
        go_region_held3 (fun w' => w'.cell? ⟨blk, off + k * 3, none⟩ = some (.int .i64 a) ∧ w'.cell? ⟨blk, off + k * 3 + 1, none⟩ = some (.int .i64 b) ∧ w'.cell? ⟨blk, off + k * 3 + 2, none⟩ = some (.int .i64 c) ∧ w'.cell? ⟨blk, off + (k - 1) * 3, none⟩ = some (.int .i64 a') ∧ w'.cell? ⟨blk, off + (k - 1) * 3 + 1, none⟩ = some (.int .i64 b') ∧ w'.cell? ⟨blk, off + (k - 1) * 3 + 2, none⟩ = some (.int .i64 c'))
          (first | exact ⟨c0, c1, c2, p0, p1, p2⟩ | assumption)
          (first | (go_at_call 137; refine (HFe.out _).mono ?_; rintro e w3 ⟨rfl, hg⟩; have G := Lib.hid hg; have hk := (And.intro (carry hg.below (show wr.drew.cell? _ = _ from c0)) (And.intro (carry hg.below (show wr.drew.cell? _ = _ from c1)) (And.intro (carry hg.below (show wr.drew.cell? _ = _ from c2)) (And.intro (carry hg.below (show wr.drew.cell? _ = _ from p0)) (And.intro (carry hg.below (show wr.drew.cell? _ = _ from p1)) (carry hg.below (show wr.drew.cell? _ = _ from p2))))))); clear hg))
        all_goals (
          have B2 : Hid (Below w.heap.size w w3) := HW.out.2.trans ((⟨G.out.below.os, G.out.below.tape, G.out.below.output, G.out.below.size, G.out.below.block⟩ : Below wr.heap.size wr w3).mono (by have := HW.out.2.size; omega))
          have hwr : blk < wr.heap.size := Nat.lt_of_lt_of_le hblk HW.out.2.size
          have H3 : Hid (HoldsK encE 3 w3 blk off d) := holdsE_below HW.out.1 (⟨G.out.below.os, G.out.below.tape, G.out.below.output, G.out.below.size, G.out.below.block⟩ : Below wr.heap.size wr w3) hwr
          clear hk HFe c0 c1 c2 p0 p1 p2
          by_cases hdup : sk (a, b, c) (a', b', c') = true
          · have HD := Lib.hid hdup
            rw [hdup]
            clear hdup
            go_wp2_with fail
            go_loopg [5, 7] d.size (fun g s5 s7 wr => ∃ (kk k2 : Nat) (dk : Array E), s5 = .int .i64 kk ∧ s7 = .int .i64 k2 ∧ 1 ≤ k2 ∧ k + k2 ≤ d.size ∧ d.size - (k + k2) ≤ g ∧ Hid (HoldsK encE 3 wr blk off dk ∧ Below blk w wr) ∧ PickInv (kpE d) d (k + k2) kk dk)
            case atStart => exact ⟨k, 1, d, rfl, rfl, Nat.le_refl _, by omega, by omega, ⟨H3.out, B2.out.mono (by omega)⟩, PickInv.start HA.out (kpE_neg (by omega) (by rw [HX.out.1, HX.out.2]; exact HD.out))⟩
            case round =>
              obtain ⟨kk, k2, dk, rfl, rfl, h1, hle, hg2, HV, hI⟩ := hrel
              have hkk := hI.lt
              have hds := hI.size
              have I2 : Hid (PickInv (kpE d) d (k + k2) kk dk) := hI
              clear hI
              by_cases hlt2 : k + k2 < d.size
              · obtain ⟨⟨ua, ub, uc⟩, hu⟩ : ∃ x, d[k + k2]! = x := ⟨_, rfl⟩
                obtain ⟨⟨va, vb, vc⟩, hv⟩ : ∃ x, d[k + k2 - 1]! = x := ⟨_, rfl⟩
                obtain ⟨⟨oa, ob, oc⟩, ho⟩ : ∃ x, dk[kk]! = x := ⟨_, rfl⟩
                obtain ⟨⟨c0, c1, c2⟩, _, _, _⟩ := he_cells HV.out.1 (show k + k2 < dk.size by omega) ((I2.out.high (k + k2) (by omega)).trans hu)
                obtain ⟨⟨p0, p1, p2⟩, _, _, _⟩ := he_cells HV.out.1 (show k + k2 - 1 < dk.size by omega) ((I2.out.high (k + k2 - 1) (by omega)).trans hv)
                rw [show off + (k + k2) * 3 = off + k * 3 + k2 * 3 by omega] at c0 c1 c2
                rw [show off + (k + k2 - 1) * 3 = off + k * 3 + (k2 - 1) * 3 by omega] at p0 p1 p2
                have HU := Lib.hid (And.intro hu hv)
                have HFe : Hid (∀ W, Calls Try.prog 137 #[.agg #[.int .i64 ua, .int .i64 ub, .int .i64 uc], .agg #[.int .i64 va, .int .i64 vb, .int .i64 vc]] W fun e w' => e = .returned (.bool (sk (ua, ub, uc) (va, vb, vc))) ∧ Gr W w') := fun W => HF.out (ua, ub, uc) (va, vb, vc) W
                have hk0' : (0 : Int) ≤ ((k2 : Int) - 1) := by omega
                have hkw' : IntKind.i64.wrap ((k2 : Int) - 1) = (k2 : Int) - 1 := IntWalk.i64_in _ (by omega)
                clear hu hv ho
                have kz0' : (0 : Int) ≤ (k2 : Int) := by omega
                have kz1' : (k2 : Int) < ((d.size - k : Nat) : Int) := by omega
                have kz2' : (k2 : Int) - 1 < ((d.size - k : Nat) : Int) := by omega
                have kz3' : (1 : Int) ≤ (k2 : Int) := by omega
                have kz4' : (k2 : Int) ≤ ((d.size - k : Nat) : Int) := by omega
                have kz5' : ((k2 : Int) - 1).toNat = k2 - 1 := by omega
                go_wp2_with fail
                go_region_held3 (fun w' => w'.cell? ⟨blk, off + k * 3 + k2 * 3, none⟩ = some (.int .i64 ua) ∧ w'.cell? ⟨blk, off + k * 3 + k2 * 3 + 1, none⟩ = some (.int .i64 ub) ∧ w'.cell? ⟨blk, off + k * 3 + k2 * 3 + 2, none⟩ = some (.int .i64 uc) ∧ w'.cell? ⟨blk, off + k * 3 + (k2 - 1) * 3, none⟩ = some (.int .i64 va) ∧ w'.cell? ⟨blk, off + k * 3 + (k2 - 1) * 3 + 1, none⟩ = some (.int .i64 vb) ∧ w'.cell? ⟨blk, off + k * 3 + (k2 - 1) * 3 + 2, none⟩ = some (.int .i64 vc))
                  (first | exact ⟨c0, c1, c2, p0, p1, p2⟩ | assumption)
                  (first | (go_at_call 137; refine (HFe.out _).mono ?_; rintro e w4 ⟨rfl, hg⟩; have G := Lib.hid hg; have hk := (And.intro (carry hg.below (show wr.drew.cell? _ = _ from c0)) (And.intro (carry hg.below (show wr.drew.cell? _ = _ from c1)) (And.intro (carry hg.below (show wr.drew.cell? _ = _ from c2)) (And.intro (carry hg.below (show wr.drew.cell? _ = _ from p0)) (And.intro (carry hg.below (show wr.drew.cell? _ = _ from p1)) (carry hg.below (show wr.drew.cell? _ = _ from p2))))))); clear hg))
                all_goals (
                  have hwr2 : blk < wr.heap.size := Nat.lt_of_lt_of_le hblk HV.out.2.size
                  have B4 : Hid (Below wr.heap.size wr w4) := ⟨G.out.below.os, G.out.below.tape, G.out.below.output, G.out.below.size, G.out.below.block⟩
                  have B5 : Hid (Below blk w w4) := HV.out.2.trans (B4.out.mono (by omega))
                  have H4 : Hid (HoldsK encE 3 w4 blk off dk) := holdsE_below HV.out.1 B4.out hwr2
                  obtain ⟨u0, u1, u2⟩ : w4.cell? ⟨blk, off + k * 3 + k2 * 3, none⟩ = some (.int .i64 ua) ∧ w4.cell? ⟨blk, off + k * 3 + k2 * 3 + 1, none⟩ = some (.int .i64 ub) ∧ w4.cell? ⟨blk, off + k * 3 + k2 * 3 + 2, none⟩ = some (.int .i64 uc) := ⟨carryB B4.out hwr2 c0, carryB B4.out hwr2 c1, carryB B4.out hwr2 c2⟩
                  clear hk HFe c0 c1 c2 p0 p1 p2
                  by_cases huv : sk (ua, ub, uc) (va, vb, vc) = true
                  · have HD2 := Lib.hid huv
                    rw [huv]
                    clear huv u0 u1 u2
                    go_wp2_with fail
                    go_roundg (d.size - (k + (k2 + 1)))
                    case measure => omega
                    case rel => exact ⟨kk, k2 + 1, dk, rfl, by go_num, by omega, by omega, Nat.le_refl _, ⟨H4.out, B5.out⟩, I2.out.skip (kpE_neg (by omega) (by rw [HU.out.1, HU.out.2]; exact HD2.out))⟩
                  · have huf : sk (ua, ub, uc) (va, vb, vc) = false := by simpa using huv
                    have HD2 := Lib.hid huf
                    rw [huf]
                    obtain ⟨⟨oa, ob, oc⟩, ho⟩ : ∃ x, dk[kk]! = x := ⟨_, rfl⟩
                    obtain ⟨⟨o0, o1, o2⟩, o3, o4, o5⟩ := he_cells H4.out (show kk < dk.size by omega) ho
                    clear huv huf ho
                    go_wp2_with fail
                    go_roundg (d.size - (k + (k2 + 1)))
                    case measure => omega
                    case rel => exact ⟨kk + 1, k2 + 1, dk.setIfInBounds kk (ua, ub, uc), by go_num, by go_num, by omega, by omega, Nat.le_refl _, ⟨holdsE_store (W := w4) H4.out (by omega) (ua, ub, uc), setCells_below (Nat.le_refl _) (encE (ua, ub, uc)) _ w4 B5.out⟩, by have := I2.out.keep hlt2 (kpE_pos (by rw [HU.out.1, HU.out.2]; exact HD2.out)); rwa [HU.out.1] at this⟩)
              · have hend : k + k2 = d.size := by omega
                have hI := I2.out
                rw [hend] at hI
                obtain ⟨vs, hvl, hcl⟩ := clear_three (P := Try.prog) wr 25 72 (.int .i64 0) (.int .i64 0) (.int .i64 0) Try.underlying25 Try.zeroValue72 rfl rfl rfl blk (off + kk * 3) (d.size - kk) (cap - kk) (by omega)
                  (fun j hj => by rw [show off + kk * 3 + j = off + (kk * 3 + j) by omega, (HV.out.1 (kk * 3 + j) (by rw [size_flatK]; omega)).1]; rfl) (fun j hj => by rw [show off + kk * 3 + j = off + (kk * 3 + j) by omega]; exact (HV.out.1 (kk * 3 + j) (by rw [size_flatK]; omega)).2)
                have H2 := Lib.hid hI
                have HL := Lib.hid hvl
                clear hI hvl
                go_wp2
                go_ret
                have hsz2 : blk < (wr.setCells blk (off + kk * 3) vs).heap.size := Nat.lt_of_lt_of_le hblk (setCells_below (w := w) (Nat.le_refl _) vs (off + kk * 3) wr HV.out.2).size
                have hkk2 : kk ≤ cap := by omega
                refine ⟨_, rfl, own_of_pick H2.out hkk2 HC2.out (fun i hi => ?_) hsz2, setCells_below (Nat.le_refl _) vs (off + kk * 3) wr HV.out.2⟩
                obtain ⟨⟨ia, ib, ic⟩, hx⟩ : ∃ x, dk[i]! = x := ⟨_, rfl⟩
                have hc := he_cells HV.out.1 (show i < dk.size by omega) hx
                rw [hx]
                exact ⟨⟨(World.cell?_setCells_out blk vs _ wr ⟨blk, off + i * 3, none⟩ (fun _ _ => .inl (by show off + i * 3 < off + kk * 3; omega))).trans hc.1.1, (World.cell?_setCells_out blk vs _ wr ⟨blk, off + i * 3 + 1, none⟩ (fun _ _ => .inl (by show off + i * 3 + 1 < off + kk * 3; omega))).trans hc.1.2.1, (World.cell?_setCells_out blk vs _ wr ⟨blk, off + i * 3 + 2, none⟩ (fun _ _ => .inl (by show off + i * 3 + 2 < off + kk * 3; omega))).trans hc.1.2.2⟩,
                  (World.frozen?_setCells blk vs _ wr _).trans hc.2.1, (World.frozen?_setCells blk vs _ wr _).trans hc.2.2.1, (World.frozen?_setCells blk vs _ wr _).trans hc.2.2.2⟩
          · have hd2 : sk (a, b, c) (a', b', c') = false := by simpa using hdup
            have HD := Lib.hid hd2
            rw [hd2]
            clear hdup hd2
            go_wp2_with fail
            go_roundg (d.size - (k + 1))
            case measure => omega
            case rel =>
              refine ⟨k + 1, by omega, by omega, Nat.le_refl _, by go_num, ⟨H3.out, B2.out⟩, fun j hj => ?_⟩
              by_cases e : j = k
              · subst e
                exact kpE_pos (by rw [HX.out.1, HX.out.2]; exact HD.out)
              · exact HA.out j (by omega))
      · have hkd : k = d.size := by omega
        go_wp2
        go_ret
        exact ⟨_, rfl, HS.out _ HW.out.2 (fun j hj => HA.out j (by omega)), HW.out.2.mono (by omega)⟩
end Go.Proofs.Ytmbogobebllheaa

namespace Go.Proofs.Ytmbogobebllheaa
namespace GM
open Go.Sort Go.Lib
set_option linter.unusedVariables false
set_option linter.unusedSimpArgs false

theorem ascE_ext : ∀ {l m : List E}, AscE l → AscE m → (∀ x, x ∈ l ↔ x ∈ m) → l = m
  | [], [], _, _, _ => rfl
  | [], y :: m, _, _, h => by have := (h y).2 (by simp); simp at this
  | x :: l, [], _, _, h => by have := (h x).1 (by simp); simp at this
  | x :: l, y :: m, hl, hm, h => by
    replace hl := List.pairwise_cons.1 hl
    replace hm := List.pairwise_cons.1 hm
    have irr : ∀ {a : E}, ¬ bef a a = true := fun {a} h => by rw [bef_irrefl] at h; cases h
    have e : x = y := by
      have a := (h x).1 (by simp)
      have b := (h y).2 (by simp)
      rw [List.mem_cons] at a b
      rcases a with a | a
      · exact a
      · rcases b with b | b
        · exact b.symm
        · exact absurd (bef_trans (hl.1 y b) (hm.1 x a)) irr
    subst e
    rw [ascE_ext hl.2 hm.2 fun z => ⟨fun hz => by
      have := (h z).1 (List.mem_cons_of_mem _ hz)
      rcases List.mem_cons.1 this with rfl | h'
      · exact absurd (hl.1 z hz) irr
      · exact h', fun hz => by
      have := (h z).2 (List.mem_cons_of_mem _ hz)
      rcases List.mem_cons.1 this with rfl | h'
      · exact absurd (hm.1 z hz) irr
      · exact h'⟩]
/-- r: of each pair of nodes the cheapest edge of l, in order -/
theorem Least.unique {l r s : List E} (h : Least l r) (k : Least l s) : r = s := ascE_ext h.1 k.1 fun x => (h.2 x).trans (k.2 x).symm
theorem Least.perm {l m r : List E} (h : Least l r) (p : l.Perm m) : Least m r :=
  ⟨h.1, fun x => by rw [h.2, p.mem_iff]; exact and_congr_right fun _ => ⟨fun g y hy => g y (p.mem_iff.2 hy), fun g y hy => g y (p.mem_iff.1 hy)⟩⟩
theorem sk_iff {a b : E} : sk a b = true ↔ a.1 = b.1 ∧ a.2.1 = b.2.1 := by unfold sk ldB; rw [decide_eq_true_eq]; omega
theorem sk_false {a b : E} : sk a b = false ↔ ¬ (a.1 = b.1 ∧ a.2.1 = b.2.1) := by
  rw [← sk_iff]; simp
theorem pick_asc (d : Array E) (hs : ∀ i j, i < j → j < d.size → ¬ lt3 d[j]! d[i]!) : ∀ m, m ≤ d.size → AscE (pickU (kpE d) d m)
  | 0, _ => List.Pairwise.nil
  | m + 1, hm => by
    have ih := pick_asc d hs m (by omega)
    rw [pickU_succ]
    by_cases hk : kpE d m = true
    · rw [if_pos hk]
      refine List.pairwise_append.2 ⟨ih, List.pairwise_singleton _ _, fun x hx y hy => ?_⟩
      rw [List.mem_singleton] at hy
      subst hy
      obtain ⟨j, hj, _, rfl⟩ := mem_pickU.1 hx
      have hk' : m = 0 ∨ sk d[m]! d[m - 1]! = false := of_decide_eq_true hk
      have hk2 : sk d[m]! d[m - 1]! = false := hk'.resolve_left (by omega)
      rw [sk_false] at hk2
      have h1 := hs (m - 1) m (by omega) (by omega)
      rw [bef_iff]
      unfold lt3 at h1
      rcases Nat.lt_or_ge j (m - 1) with hjm | hjm
      · have h2 := hs j (m - 1) hjm (by omega)
        unfold lt3 at h2
        omega
      · obtain rfl : j = m - 1 := by omega
        omega
    · rw [if_neg hk, List.append_nil]; exact ih
theorem pick_least (d : Array E) (hs : ∀ i j, i < j → j < d.size → ¬ lt3 d[j]! d[i]!) : Least d.toList (pickU (kpE d) d d.size) := by
  have mem : ∀ y, y ∈ d.toList ↔ ∃ i, i < d.size ∧ d[i]! = y := fun y => by
    constructor
    · intro hy
      obtain ⟨i, hi, e⟩ := List.getElem_of_mem hy
      have hi' : i < d.size := by simpa using hi
      exact ⟨i, hi', by rw [getElem!_pos d i hi', ← e]; simp⟩
    · rintro ⟨i, hi, rfl⟩
      rw [getElem!_pos d i hi]; simp
  refine ⟨pick_asc d hs _ (Nat.le_refl _), fun x => ?_⟩
  rw [mem_pickU]
  constructor
  · rintro ⟨j, hj, hk, rfl⟩
    refine ⟨(mem _).2 ⟨j, hj, rfl⟩, fun y hy e1 e2 => ?_⟩
    obtain ⟨i, hi, rfl⟩ := (mem y).1 hy
    rcases Nat.lt_trichotomy i j with h | h | h
    · exfalso
      have hk' : j = 0 ∨ sk d[j]! d[j - 1]! = false := of_decide_eq_true hk
      have hk2 : sk d[j]! d[j - 1]! = false := hk'.resolve_left (by omega)
      rw [sk_false] at hk2
      have h1 := hs (j - 1) j (by omega) (by omega)
      unfold lt3 at h1
      rcases Nat.lt_or_ge i (j - 1) with hjm | hjm
      · have h2 := hs i (j - 1) hjm (by omega)
        unfold lt3 at h2
        omega
      · obtain rfl : i = j - 1 := by omega
        omega
    · subst h; exact Int.le_refl _
    · have h1 := hs j i h hi
      unfold lt3 at h1
      omega
  · rintro ⟨hx, hmin⟩
    obtain ⟨j, hj, rfl⟩ := (mem x).1 hx
    have : ∀ n, ∀ i, i ≤ n → i < d.size → d[i]!.1 = d[j]!.1 → d[i]!.2.1 = d[j]!.2.1 → ∃ i0, i0 < d.size ∧ kpE d i0 = true ∧ d[i0]!.1 = d[j]!.1 ∧ d[i0]!.2.1 = d[j]!.2.1 := by
      intro n
      induction n with
      | zero => intro i hi hs' e1 e2; exact ⟨i, hs', decide_eq_true (.inl (by omega)), e1, e2⟩
      | succ n ih =>
        intro i hi hs' e1 e2
        cases hk : kpE d i
        · have hk' : ¬ (i = 0 ∨ sk d[i]! d[i - 1]! = false) := of_decide_eq_false hk
          have h0 : i ≠ 0 := fun h => hk' (.inl h)
          have h1 : sk d[i]! d[i - 1]! = true := by
            cases hq : sk d[i]! d[i - 1]!
            · exact absurd (.inr hq) hk'
            · rfl
          rw [sk_iff] at h1
          exact ih (i - 1) (by omega) (by omega) (by omega) (by omega)
        · exact ⟨i, hs', hk, e1, e2⟩
    obtain ⟨i0, h1, h2, h3, h4⟩ := this j j (Nat.le_refl _) hj rfl rfl
    have h5 := hmin d[i0]! ((mem _).2 ⟨i0, h1, rfl⟩) h3 h4
    refine ⟨i0, h1, h2, ?_⟩
    rcases Nat.lt_trichotomy i0 j with h | h | h
    · have h6 := hs i0 j h hj
      unfold lt3 at h6
      exact Prod.ext h3 (Prod.ext h4 (by omega))
    · subst h; rfl
    · have h6 := hs j i0 h h1
      unfold lt3 at h6
      have hk' : i0 = 0 ∨ sk d[i0]! d[i0 - 1]! = false := of_decide_eq_true h2
      have hk2 : sk d[i0]! d[i0 - 1]! = false := hk'.resolve_left (by omega)
      rw [sk_false] at hk2
      have h7 := hs (i0 - 1) i0 (by omega) h1
      unfold lt3 at h7
      rcases Nat.lt_or_ge j (i0 - 1) with hjm | hjm
      · have h8 := hs j (i0 - 1) hjm (by omega)
        unfold lt3 at h8
        omega
      · obtain rfl : j = i0 - 1 := by omega
        omega
end GM
end Go.Proofs.Ytmbogobebllheaa

namespace Go.Proofs.Ytmbogobebllheaa
open Go.RowKit GM Go.Sort Go.Lib
set_option linter.unusedSimpArgs false
set_option linter.unusedVariables false
set_option maxHeartbeats 4000000
set_option maxRecDepth 100000

/-- what is done to the edges: cloned, sorted, compacted: one row of the call's own -/
def ofV (R N : Int) (r : List E) (s : Value) : Value := if chk R N r = 0 then .agg #[.int .i64 R, .int .i64 N, s] else .agg #[.int .i64 0, .int .i64 0, .slice none 0 0]
theorem of_any (R N : Int) (l r : List E) (v : Value) (w : World) (hR : I64 R) (hN : I64 N) (hl : Fits l) (hr : Rd3 w v l) (hL : Least l r) :
    Calls Try.prog 108 #[.int .i64 R, .int .i64 N, v] w fun e w' => ∃ s, e = .returned (.tuple #[ofV R N r s, .int .i64 (chk R N r)]) ∧ OwnS w.heap.size w' s r ∧ Below w.heap.size w w' := by
  have HCL : Hid (∀ W, Below w.heap.size w W → Calls Try.prog 115 #[v] W fun e w' => ∃ v', e = .returned v' ∧ w'.ownsRow W.heap.size 72 3 v' l.length (flatE l) ∧ Below W.heap.size W w') := fun W hb => clone_any l v W hl (hr.below hb)
  have HF : Hid (∀ (g cap : Nat) (w : World), HoldsK encE 3 w g 0 l.toArray → g < w.heap.size →
      Calls Try.prog 134 #[.slice (some ⟨g, 0, none⟩) l.length cap, .func (.func 135) #[] #[]] w fun e w' => e = .returned (.tuple #[]) ∧ ∃ d' : Array E, d'.size = l.length ∧ d'.toList.Perm l ∧ (∀ i j, i < j → j < d'.size → ¬ lt3 d'[j]! d'[i]!) ∧ HoldsK encE 3 w' g 0 d' ∧ w.grownBy w' (some g)) := fun g cap w => sortFunc_any l g cap w hl
  have HCK : Hid (∀ s W, Rd3 W s r → Calls Try.prog 57 #[.agg #[.int .i64 R, .int .i64 N, s]] W fun e w' => e = .returned (.int .i64 (chk R N r)) ∧ Below W.heap.size W w') := fun s W h => check_any R N s r W hR hN h
  have HL := Lib.hid hL
  have HLN := Lib.hid hl
  clear hr hR hN hL hl
  go_enter Try.func108, Try.ntmps108
  go_wp2_with (go_at_call 115; refine (HCL.out _ (below_alloc _ _)).mono ?_; rintro e w1 ⟨v1, rfl, hown, hb⟩; have HO := Lib.hid (And.intro hown hb); clear hown hb)
  have hown := HO.out.1
  have hz1 : w.heap.size + 1 ≤ w1.heap.size := by have := HO.out.2.size; simpa using this
  have X1 : Hid (w1.heap[w.heap.size]? = some (.cells #[.int .i64 0, .int .i64 0, .slice none 0 0] 27 (0, 0))) := (HO.out.2.block _ (by simp)).trans (heap_alloc_new _ _)
  have B1 : Hid (Below w.heap.size w w1) := below_then (below_alloc _ _) HO.out.2
  rcases hown.2 with ⟨rfl, hn⟩ | ⟨g, cap, cur, rfl, hB, hg, hnc, hcm, hcs, htk⟩
  · have hl0 : l = [] := List.length_eq_zero_iff.1 hn
    subst hl0
    have hr0 : r = [] := by
      cases r with
      | nil => rfl
      | cons x r => have := (HL.out.2 x).1 (by simp); simp at this
    subst hr0
    clear hown hn
    go_wp2_with (first | (go_at_call 134; refine (sortFunc_none _ _).mono ?_; rintro e w2 ⟨rfl, rfl⟩) | (go_at_call 136; refine (compact_none _ _).mono ?_; rintro e w3 ⟨rfl, rfl⟩))
    clear HO HF
    go_wp2_with fail
    go_at_call 57
    refine (HCK.out _ _ (Rd3.below (rd3_nil _) (below_alloc _ _))).mono ?_
    rintro e w4 ⟨rfl, hb4⟩
    have Y0 : w4.heap[w3.heap.size]? = some (.cells #[.int .i64 R, .int .i64 N, .slice none 0 0] 27 (0, 0)) := (hb4.block _ (by simp)).trans (heap_alloc_new _ _)
    have Z0 : w4.heap[w.heap.size]? = some (.cells #[.int .i64 0, .int .i64 0, .slice none 0 0] 27 (0, 0)) := (hb4.block _ (by have := hz1; simp; omega)).trans ((Below.heap_alloc _ _ _ (by have := hz1; omega)).trans X1.out)
    have g0 : w4.cell? ⟨w3.heap.size, 0, none⟩ = some (.int .i64 R) := cell_of Y0 rfl
    have g1 : w4.cell? ⟨w3.heap.size, 1, none⟩ = some (.int .i64 N) := cell_of Y0 rfl
    have g2 : w4.cell? ⟨w3.heap.size, 2, none⟩ = some (.slice none 0 0) := cell_of Y0 rfl
    have z0 : w4.cell? ⟨w.heap.size, 0, none⟩ = some (.int .i64 0) := cell_of Z0 rfl
    have z1 : w4.cell? ⟨w.heap.size, 1, none⟩ = some (.int .i64 0) := cell_of Z0 rfl
    have z2 : w4.cell? ⟨w.heap.size, 2, none⟩ = some (.slice none 0 0) := cell_of Z0 rfl
    have y0 : w4.frozen? ⟨w.heap.size, 0, none⟩ = false := by simp [World.frozen?, Z0]
    have y1 : w4.frozen? ⟨w.heap.size, 1, none⟩ = false := by simp [World.frozen?, Z0]
    have y2 : w4.frozen? ⟨w.heap.size, 2, none⟩ = false := by simp [World.frozen?, Z0]
    have B4 : Hid (Below w.heap.size w w4) := B1.out.trans ((below_then (below_alloc _ _) hb4).mono (by have := hz1; omega))
    have O4 : Hid (OwnS (w.heap.size + 1) w4 (.slice none 0 0) []) := OwnS.below (.inl ⟨rfl, rfl⟩) (below_then (below_alloc _ _) hb4)
    clear hb4 Y0 Z0
    by_cases hq : chk R N [] = 0
    · have HV : Hid (ofV R N [] (.slice none 0 0) = .agg #[.int .i64 R, .int .i64 N, .slice none 0 0]) := if_pos hq
      have HQ := Lib.hid hq
      rw [hq]
      clear hq
      go_wp2
      (try simp only [Exit.inBlock, Exit.then])
      refine bodyPost_ret (v := .tuple #[.agg #[.int .i64 R, .int .i64 N, .slice none 0 0], .int .i64 0]) (by rw [results_cell_tmp rfl]; go_simp) rfl ?_
      exact ⟨_, by rw [HV.out, HQ.out], ((O4.out.setCell (Nat.lt_succ_self _)).setCell (Nat.lt_succ_self _)).setCell (Nat.lt_succ_self _) |>.mono (Nat.le_succ _), ((B4.out.setCell (Nat.le_refl _) _).setCell (Nat.le_refl _) _).setCell (Nat.le_refl _) _⟩
    · have HV : Hid (ofV R N [] (.slice none 0 0) = .agg #[.int .i64 0, .int .i64 0, .slice none 0 0]) := if_neg hq
      have HQ : Hid (∃ q, chk R N [] = q) := ⟨_, rfl⟩
      generalize hz : chk R N [] = q at *
      have hq1 : (q == 0) = false := by simpa using hq
      have hq2 : (q != 0) = true := by simpa using hq
      have HZ := Lib.hid hz
      clear hq hz
      go_wp2
      (try simp only [Exit.inBlock, Exit.then])
      refine bodyPost_ret (v := .tuple #[.agg #[.int .i64 0, .int .i64 0, .slice none 0 0], .int .i64 q]) (by rw [results_cell_tmp rfl]; go_simp) rfl ?_
      exact ⟨_, by rw [HV.out, HZ.out], ((O4.out.setCell (Nat.lt_succ_self _)).setCell (Nat.lt_succ_self _)).setCell (Nat.lt_succ_self _) |>.mono (Nat.le_succ _), ((B4.out.setCell (Nat.le_refl _) _).setCell (Nat.le_refl _) _).setCell (Nat.le_refl _) _⟩
  · have hg1 : g < w1.heap.size := lt_block hg
    have hs := HF.out g cap w1 (holdsE_own hown) hg1
    have HG := Lib.hid (And.intro hB (And.intro hg1 (And.intro hnc hcm)))
    clear hown hg hcs htk hB hg1 hnc hcm
    go_wp2_with (first
      | (go_at_call 134; refine hs.mono ?_; rintro e w2 ⟨rfl, d', hd, hp, hsd, hH2, hgr⟩
         have hc2 := compact_any g 0 cap d' w2 hH2 (by have := HLN.out; unfold Fits at this; omega) (by have := HG.out.2.2.1; omega) (by have := HG.out.2.2.2; unfold maxLen at this; omega) (Nat.lt_of_lt_of_le HG.out.2.1 hgr.size)
         rw [hd] at hc2
         have HX := Lib.hid (And.intro hd (And.intro hp (And.intro hsd hgr)))
         clear hs hp hsd hH2 hgr)
      | (go_at_call 136; refine hc2.mono ?_; rintro e w3 ⟨v3, rfl, hrd, hb3⟩; have HR := Lib.hid (And.intro hrd hb3); obtain ⟨cap3, hv3, _⟩ := hrd; subst hv3; clear hb3 hc2))
    have hrr : pickU (kpE d') d' l.length = r := by
      have h1 := (pick_least d' HX.out.2.2.1).perm HX.out.2.1
      rw [HX.out.1] at h1
      exact h1.unique HL.out
    have hgz : w.heap.size + 1 ≤ g := by have := HG.out.1; simpa using this
    have X3 : Hid (w3.heap[w.heap.size]? = some (.cells #[.int .i64 0, .int .i64 0, .slice none 0 0] 27 (0, 0))) := (HR.out.2.block _ (by omega)).trans ((HX.out.2.2.2.block _ (by omega) (by intro e; cases e; omega)).trans X1.out)
    have O3 : Hid (OwnS (w.heap.size + 1) w3 (.slice (some ⟨g, 0, none⟩) (pickU (kpE d') d' l.length).length cap3) r) := .inr ⟨g, hgz, hrr ▸ HR.out.1⟩
    generalize (pickU (kpE d') d' l.length).length = m3 at *
    have B3 : Hid (Below w.heap.size w w3) := (B1.out.grown HX.out.2.2.2 B1.out.size (fun k hk => by cases hk; omega)).trans (HR.out.2.mono (by omega))
    have hz3 : w.heap.size + 1 ≤ w3.heap.size := by have := HR.out.2.size; have := HX.out.2.2.2.size; omega
    clear HO HF HG HX HR X1 hrr hgz hd
    go_wp2_with fail
    go_at_call 57
    refine (HCK.out _ _ (Rd3.below O3.out.rd (below_alloc _ _))).mono ?_
    rintro e w4 ⟨rfl, hb4⟩
    have Y0 : w4.heap[w3.heap.size]? = some (.cells #[.int .i64 R, .int .i64 N, .slice (some ⟨g, 0, none⟩) m3 cap3] 27 (0, 0)) := (hb4.block _ (by simp)).trans (heap_alloc_new _ _)
    have Z0 : w4.heap[w.heap.size]? = some (.cells #[.int .i64 0, .int .i64 0, .slice none 0 0] 27 (0, 0)) := (hb4.block _ (by have := hz3; simp; omega)).trans ((Below.heap_alloc _ _ _ (by have := hz3; omega)).trans X3.out)
    have g0 : w4.cell? ⟨w3.heap.size, 0, none⟩ = some (.int .i64 R) := cell_of Y0 rfl
    have g1 : w4.cell? ⟨w3.heap.size, 1, none⟩ = some (.int .i64 N) := cell_of Y0 rfl
    have g2 : w4.cell? ⟨w3.heap.size, 2, none⟩ = some (.slice (some ⟨g, 0, none⟩) m3 cap3) := cell_of Y0 rfl
    have z0 : w4.cell? ⟨w.heap.size, 0, none⟩ = some (.int .i64 0) := cell_of Z0 rfl
    have z1 : w4.cell? ⟨w.heap.size, 1, none⟩ = some (.int .i64 0) := cell_of Z0 rfl
    have z2 : w4.cell? ⟨w.heap.size, 2, none⟩ = some (.slice none 0 0) := cell_of Z0 rfl
    have y0 : w4.frozen? ⟨w.heap.size, 0, none⟩ = false := by simp [World.frozen?, Z0]
    have y1 : w4.frozen? ⟨w.heap.size, 1, none⟩ = false := by simp [World.frozen?, Z0]
    have y2 : w4.frozen? ⟨w.heap.size, 2, none⟩ = false := by simp [World.frozen?, Z0]
    have B4 : Hid (Below w.heap.size w w4) := B3.out.trans ((below_then (below_alloc _ _) hb4).mono (by have := hz3; omega))
    have O4 : Hid (OwnS (w.heap.size + 1) w4 (.slice (some ⟨g, 0, none⟩) m3 cap3) r) := OwnS.below O3.out (below_then (below_alloc _ _) hb4)
    clear hb4 Y0 Z0
    by_cases hq : chk R N r = 0
    · have HV : Hid (ofV R N r (.slice (some ⟨g, 0, none⟩) m3 cap3) = .agg #[.int .i64 R, .int .i64 N, .slice (some ⟨g, 0, none⟩) m3 cap3]) := if_pos hq
      have HQ := Lib.hid hq
      rw [hq]
      clear hq
      go_wp2
      (try simp only [Exit.inBlock, Exit.then])
      refine bodyPost_ret (v := .tuple #[.agg #[.int .i64 R, .int .i64 N, .slice (some ⟨g, 0, none⟩) m3 cap3], .int .i64 0]) (by rw [results_cell_tmp rfl]; go_simp) rfl ?_
      exact ⟨_, by rw [HV.out, HQ.out], ((O4.out.setCell (Nat.lt_succ_self _)).setCell (Nat.lt_succ_self _)).setCell (Nat.lt_succ_self _) |>.mono (Nat.le_succ _), ((B4.out.setCell (Nat.le_refl _) _).setCell (Nat.le_refl _) _).setCell (Nat.le_refl _) _⟩
    · have HV : Hid (ofV R N r (.slice (some ⟨g, 0, none⟩) m3 cap3) = .agg #[.int .i64 0, .int .i64 0, .slice none 0 0]) := if_neg hq
      have HQ : Hid (∃ q, chk R N r = q) := ⟨_, rfl⟩
      generalize hz : chk R N r = q at *
      have hq1 : (q == 0) = false := by simpa using hq
      have hq2 : (q != 0) = true := by simpa using hq
      have HZ := Lib.hid hz
      clear hq hz
      go_wp2
      (try simp only [Exit.inBlock, Exit.then])
      refine bodyPost_ret (v := .tuple #[.agg #[.int .i64 0, .int .i64 0, .slice none 0 0], .int .i64 q]) (by rw [results_cell_tmp rfl]; go_simp) rfl ?_
      exact ⟨_, by rw [HV.out, HZ.out], ((O4.out.setCell (Nat.lt_succ_self _)).setCell (Nat.lt_succ_self _)).setCell (Nat.lt_succ_self _) |>.mono (Nat.le_succ _), ((B4.out.setCell (Nat.le_refl _) _).setCell (Nat.le_refl _) _).setCell (Nat.le_refl _) _⟩
end Go.Proofs.Ytmbogobebllheaa
