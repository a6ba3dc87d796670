/-
  The walk of Sort.
-/
import Derived.Test.YtegponbmelgngaaSpC
import Derived.LoopN
namespace Go.Proofs.Ytegponbmelgngaa
open Go.RowKit Go.Sort Go.Lib
set_option linter.unusedSimpArgs false
set_option linter.unusedVariables false
set_option maxHeartbeats 4000000
set_option maxRecDepth 100000

theorem insertion_none (cap : Nat) (fv : Value) (w : World) :
    Calls Try.prog 161 #[.slice none 0 cap, .int .i64 0, .int .i64 0, fv] w fun e w' => e = .returned (.tuple #[]) ∧ w' = w := by
  go_enter Try.func161, Try.ntmps161
  go_wp2
  refine wp_loop_rounds 1 ?_
  rw [rounds_succ]
  go_wp2
  go_end0
  exact ⟨rfl, rfl⟩
theorem pdq_none (cap : Nat) (lim : Int) (fv : Value) (w : World) :
    Calls Try.prog 148 #[.slice none 0 cap, .int .i64 0, .int .i64 0, .int .i64 lim, fv] w fun e w' => e = .returned (.tuple #[]) ∧ w' = w := by
  have hi := fun W => insertion_none cap fv W
  go_enter Try.func148, Try.ntmps148
  go_wp2
  refine wp_loop_rounds 1 ?_
  rw [rounds_succ]
  go_wp2_with (go_at_call 161; refine (hi _).mono ?_; rintro e w' ⟨rfl, rfl⟩)
  (try simp only [Exit.inBlock, Exit.then]); refine bodyPost_ret (results_none rfl _ _ _) rfl ?_
  exact ⟨rfl, rfl⟩
theorem sortFunc_none (fv : Value) (w : World) :
    Calls Try.prog 132 #[.slice none 0 0, fv] w fun e w' => e = .returned (.tuple #[]) ∧ w' = w := by
  have hp := fun lim W => pdq_none 0 lim fv W
  have hl : ∀ W, Calls Try.prog 142 #[.int .u64 0] W fun e w' => e = .returned (.int .i64 (Lib.bitLen 0 : Nat)) ∧ w' = W := fun W =>
    Any.bits_Len (SlLaysF0.n15.bits (P := Try.prog) (ρ := Try.sortP_ren) { Try.sortP with }) 0 W (by omega) (by omega)
  go_enter Try.func132, Try.ntmps132
  go_wp2_with (first | (go_at_call 142; refine (hl _).mono ?_; rintro e w' ⟨rfl, rfl⟩) | (go_at_call 148; refine (hp _ _).mono ?_; rintro e w' ⟨rfl, rfl⟩))
  go_end0
  exact ⟨rfl, rfl⟩
theorem compact_none (w : World) : Calls Try.prog 133 #[.slice none 0 0] w fun e w' => e = .returned (.slice none 0 0) ∧ w' = w := by
  go_enter Try.func133, Try.ntmps133
  go_wp2
  go_ret
  exact ⟨rfl, rfl⟩

/-- a slice over a row of the call's own: nil, or a block from B on that may be written -/
def OwnS (B : Nat) (w : World) (v : Value) (l : List PP) : Prop := (v = .slice none 0 0 ∧ l = []) ∨ ∃ g, B ≤ g ∧ OwnAt g 0 w v l
theorem OwnAt.cells {blk off : Nat} {w : World} {v : Value} {l : List PP} (h : OwnAt blk off w v l) : ∀ i x, l[i]? = some x → w.cell? ⟨blk, off + i * 2, none⟩ = some (.int .u32 (x.1 : Int)) ∧ w.cell? ⟨blk, off + i * 2 + 1, none⟩ = some (.int .i64 x.2) := by
  obtain ⟨cap, rfl, hc, hh, hb⟩ := h
  intro i x hx
  have hi := (List.getElem?_eq_some_iff.1 hx).1
  have hk := hk_cells (a := x.1) (n := x.2) hh (i := i) (by simpa using hi) (by have := (List.getElem?_eq_some_iff.1 hx).2; simp [hi, this])
  exact ⟨hk.1, hk.2.1⟩
theorem OwnAt.rd {blk off : Nat} {w : World} {v : Value} {l : List PP} (h : OwnAt blk off w v l) : Rd w v l := by
  have hc := h.cells
  obtain ⟨cap, rfl, _, _, hb⟩ := h
  exact ⟨some ⟨blk, off, none⟩, cap, rfl, fun i x hx => ⟨blk, off, rfl, hb, hc i x hx⟩⟩
theorem OwnS.rd {B : Nat} {w : World} {v : Value} {l : List PP} (h : OwnS B w v l) : Rd w v l := by
  rcases h with ⟨rfl, rfl⟩ | ⟨g, _, h⟩
  · exact rd_nil _
  · exact h.rd

theorem sort_any (l : List PP) (v : Value) (w : World) (hl : l.length ≤ 4294967296) (hr : Rd w v l) :
    Calls Try.prog 98 #[v] w fun e w' => ∃ v', e = .returned v' ∧ OwnS w.heap.size w' v' (sortR l) ∧ Below w.heap.size w w' := by
  have hc := clone_any l v w hl hr
  have HF : Hid (∀ (l : List PP) (g cap : Nat) (w : World), l.length ≤ 4294967296 → HoldsK encP 2 w g 0 l.toArray → g < w.heap.size →
    Calls Try.prog 132 #[.slice (some ⟨g, 0, none⟩) l.length cap, .func (.func 84) #[] #[]] w fun e w' => e = .returned (.tuple #[]) ∧ ∃ d' : Array PP, d'.size = l.length ∧ compactUpTo d' d'.size = sortR l ∧ HoldsK encP 2 w' g 0 d' ∧ w.grownBy w' (some g)) := sortFunc_any
  clear hr
  go_enter Try.func98, Try.ntmps98
  go_wp2_with (go_at_call 131; refine hc.mono ?_; rintro e w1 ⟨v1, rfl, hown, hb⟩; have HO := Lib.hid (And.intro hown hb); clear hown hb)
  have hown := HO.out.1
  rcases hown.2 with ⟨rfl, hn⟩ | ⟨g, cap, cur, rfl, hB, hg, hnc, hcm, hcs, htk⟩
  · have hl0 : l = [] := List.length_eq_zero_iff.1 hn
    subst hl0
    go_wp2_with (first | (go_at_call 132; refine (sortFunc_none _ _).mono ?_; rintro e w2 ⟨rfl, rfl⟩) | (go_at_call 133; refine (compact_none _).mono ?_; rintro e w3 ⟨rfl, rfl⟩))
    go_ret
    exact ⟨_, rfl, .inl ⟨rfl, rfl⟩, HO.out.2⟩
  · have hg1 : g < w1.heap.size := (Array.getElem?_eq_some_iff.1 hg).1
    have hs := HF.out l g cap w1 hl (holds_own hown) hg1
    have HG := Lib.hid (And.intro hB (And.intro hg1 hnc))
    clear hown hg hcs htk hB hg1 hnc hcm
    go_wp2_with (first
      | (go_at_call 132; refine hs.mono ?_; rintro e w2 ⟨rfl, d', hd, hcp, hH2, hgr⟩
         have hc2 := compact_any g 0 cap d' w2 hH2 (by omega) (by have := HG.out.2.2; omega) (Nat.lt_of_lt_of_le HG.out.2.1 hgr.size)
         rw [hd] at hc2
         have HX := Lib.hid (And.intro hcp hgr)
         clear hs hcp hH2 hgr)
      | (go_at_call 133; refine hc2.mono ?_; rintro e w3 ⟨v3, rfl, hrd, hb3⟩; have HR := Lib.hid (And.intro hrd hb3); clear hrd hb3))
    go_ret
    refine ⟨_, rfl, ?_, ?_⟩
    · have h1 := HX.out.1
      rw [hd] at h1
      rw [← h1]; exact .inr ⟨g, HG.out.1, HR.out.1⟩
    · have b1 := HO.out.2
      have b2 : Below w.heap.size w w2 := b1.grown HX.out.2 b1.size (fun k hk => by cases hk; exact HG.out.1)
      exact b2.trans (HR.out.2.mono HG.out.1)
end Go.Proofs.Ytegponbmelgngaa
