/-
  The walks of the library's SortFunc and CompactFunc at edges.
-/
import Derived.Test.YtiodpgannelgpaaGrS
namespace Go.Proofs.Ytiodpgannelgpaa
open Go.RowKit GM Go.Sort Go.Lib
set_option linter.unusedSimpArgs false
set_option linter.unusedVariables false
set_option maxHeartbeats 4000000
set_option maxRecDepth 100000

theorem cmpLaysE (blk off size : Nat) (w : World) : CmpLays Try.prog 74 #[] encE 3 cmp3 blk off size w := fun _ _ _ _ x y => cmp74_any x y _
theorem below_sorted {w : World} {g n : Nat} {os : Array Obj} (F : Array Value) : w.grownBy (grow (putRow id (Sort.ahead w n) g 0 F) os) (some g) := by
  refine ⟨rfl, rfl, rfl, by simp, fun k hk hne => ?_⟩
  rw [heap_grow_old _ _ (by simpa using hk)]
  have : g ≠ k := fun e => hne (by rw [e])
  simp [putRow, mapBlock, Sort.ahead, Array.getElem?_modify, this]
/-- slices.SortFunc by Of's comparison, at a row of the call's own -/
theorem sortFunc_any (l : List E) (g cap : Nat) (w : World) (hl : Fits l) (hH : HoldsK encE 3 w g 0 l.toArray) (hg : g < w.heap.size) :
    Calls Try.prog 73 #[.slice (some ⟨g, 0, none⟩) l.length cap, .func (.func 74) #[] #[]] w fun e w' => e = .returned (.tuple #[]) ∧ ∃ d' : Array E, d'.size = l.length ∧ d'.toList.Perm l ∧ (∀ i j, i < j → j < d'.size → ¬ lt3 d'[j]! d'[i]!) ∧ HoldsK encE 3 w' g 0 d' ∧ w.grownBy w' (some g) := by
  unfold Fits at hl
  have eg : ∀ args w, (callFunc 74 args).run Try.prog w = .ok (.enter 74 args) w := enters_of Try.func74 (by kernel_rfl) rfl
  have hcon := AnyQ.slices_SortFunc Try.sortE 3 Try.isAgg52 Try.sizeOf52 encE encE_len encE_one cmp3 swo3 74 #[] g 0 cap l.toArray w eg (cmpLaysE g 0 _ w) hH hg (by simp; omega)
  refine hcon.mono ?_
  rintro e w' ⟨rfl, d', n, os, hp, hs, rfl⟩
  have hsz : d'.size = l.length := by simpa using hp.1
  refine ⟨rfl, d', hsz, ?_, fun i j hij hj hlt => ?_, holdsK_sortWorldK_c encE 3 w g 0 l.toArray d' n os hH hg (by simpa using hsz), below_sorted _⟩
  · have h3 := hp.2.2
    have e1 : d'.extract 0 l.toArray.size = d' := by rw [show l.toArray.size = d'.size by simp [hsz]]; simp
    have e2 : l.toArray.extract 0 l.toArray.size = l.toArray := by simp
    rw [e1, e2] at h3
    exact h3
  · have h := hs i j (Nat.zero_le _) hij (by simpa [hsz] using hj)
    unfold ltOf at h
    rw [decide_eq_false_iff_not, cmp3_iff] at h
    exact h hlt
theorem insertion_none (cap : Nat) (fv : Value) (w : World) :
    Calls Try.prog 114 #[.slice none 0 cap, .int .i64 0, .int .i64 0, fv] w fun e w' => e = .returned (.tuple #[]) ∧ w' = w := by
  go_enter Try.func114, Try.ntmps114
  go_wp2
  refine wp_loop_rounds 1 ?_
  rw [rounds_succ]
  go_wp2
  go_end0
  exact ⟨rfl, rfl⟩
theorem pdq_none (cap : Nat) (lim : Int) (fv : Value) (w : World) :
    Calls Try.prog 96 #[.slice none 0 cap, .int .i64 0, .int .i64 0, .int .i64 lim, fv] w fun e w' => e = .returned (.tuple #[]) ∧ w' = w := by
  have hi := fun W => insertion_none cap fv W
  go_enter Try.func96, Try.ntmps96
  go_wp2
  refine wp_loop_rounds 1 ?_
  rw [rounds_succ]
  go_wp2_with (go_at_call 114; refine (hi _).mono ?_; rintro e w' ⟨rfl, rfl⟩)
  (try simp only [Exit.inBlock, Exit.then]); refine bodyPost_ret (results_none rfl _ _ _) rfl ?_
  exact ⟨rfl, rfl⟩
theorem sortFunc_none (fv : Value) (w : World) :
    Calls Try.prog 73 #[.slice none 0 0, fv] w fun e w' => e = .returned (.tuple #[]) ∧ w' = w := by
  have hp := fun lim W => pdq_none 0 lim fv W
  have hl : ∀ W, Calls Try.prog 90 #[.int .u64 0] W fun e w' => e = .returned (.int .i64 (Lib.bitLen 0 : Nat)) ∧ w' = W := fun W =>
    Any.bits_Len (SlLaysF0.n15.bits (P := Try.prog) (ρ := Try.sortE_ren) { Try.sortE with }) 0 W (by omega) (by omega)
  go_enter Try.func73, Try.ntmps73
  go_wp2_with (first | (go_at_call 90; refine (hl _).mono ?_; rintro e w' ⟨rfl, rfl⟩) | (go_at_call 96; refine (hp _ _).mono ?_; rintro e w' ⟨rfl, rfl⟩))
  go_end0
  exact ⟨rfl, rfl⟩
theorem compact_none (fv : Value) (w : World) : Calls Try.prog 77 #[.slice none 0 0, fv] w fun e w' => e = .returned (.slice none 0 0) ∧ w' = w := by
  go_enter Try.func77, Try.ntmps77
  go_wp2
  go_ret
  exact ⟨rfl, rfl⟩
/-- between the same nodes -/
def sk (a b : E) : Bool := ldB b a.1 a.2.1
theorem same78_any (a b : E) (w : World) : Calls Try.prog 78 #[.agg #[.int .i64 a.1, .int .i64 a.2.1, .int .i64 a.2.2], .agg #[.int .i64 b.1, .int .i64 b.2.1, .int .i64 b.2.2]] w fun e w' => e = .returned (.bool (sk a b)) ∧ Gr w w' := by
  have HL : Hid (∀ W, Calls Try.prog 55 #[.agg #[.int .i64 b.1, .int .i64 b.2.1, .int .i64 b.2.2], .int .i64 a.1, .int .i64 a.2.1] W fun en w' => en = .returned (.bool (sk a b)) ∧ Gr W w') := fun W => leads_any b a.1 a.2.1 W
  generalize sk a b = q at *
  obtain ⟨a0, a1, a2⟩ := a
  obtain ⟨b0, b1, b2⟩ := b
  dsimp only at HL ⊢
  have G2 := Lib.hid (((Gr.refl w).alloc (.cells #[.int .i64 a0, .int .i64 a1, .int .i64 a2] 52)).alloc (.cells #[.int .i64 b0, .int .i64 b1, .int .i64 b2] 52))
  go_enter Try.func78, Try.ntmps78
  go_wp2_with (go_at_call 55; refine (HL.out _).mono ?_; rintro e w1 ⟨rfl, hg⟩; have G := Lib.hid hg; clear hg)
  go_ret
  exact ⟨rfl, G2.out.trans G.out⟩
end Go.Proofs.Ytiodpgannelgpaa
