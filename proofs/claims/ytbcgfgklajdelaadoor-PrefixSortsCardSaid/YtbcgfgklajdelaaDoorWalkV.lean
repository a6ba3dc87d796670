/-
  The walk of Sort.
-/
import Derived.Test.YtbcgfgklajdelaaDoorWalkU
import Derived.LoopN
namespace Go.Proofs.YtbcgfgklajdelaaDoor
open Go.RowKit Go.Sort Go.Lib
set_option linter.unusedSimpArgs false
set_option linter.unusedVariables false
set_option maxHeartbeats 4000000
set_option maxRecDepth 100000

theorem insertion_none (cap : Nat) (fv : Value) (w : World) :
    Calls Tryd.prog 74 #[.slice none 0 cap, .int .i64 0, .int .i64 0, fv] w fun e w' => e = .returned (.tuple #[]) ∧ w' = w := by
  go_enter Tryd.func74, Tryd.ntmps74
  go_wp2
  refine wp_loop_rounds 1 ?_
  rw [rounds_succ]
  go_wp2
  go_end0
  exact ⟨rfl, rfl⟩
theorem pdq_none (cap : Nat) (lim : Int) (fv : Value) (w : World) :
    Calls Tryd.prog 70 #[.slice none 0 cap, .int .i64 0, .int .i64 0, .int .i64 lim, fv] w fun e w' => e = .returned (.tuple #[]) ∧ w' = w := by
  have hi := fun W => insertion_none cap fv W
  go_enter Tryd.func70, Tryd.ntmps70
  go_wp2
  refine wp_loop_rounds 1 ?_
  rw [rounds_succ]
  go_wp2_with (go_at_call 74; refine (hi _).mono ?_; rintro e w' ⟨rfl, rfl⟩)
  (try simp only [Exit.inBlock, Exit.then]); refine bodyPost_ret (results_none rfl _ _ _) rfl ?_
  exact ⟨rfl, rfl⟩
theorem sortFunc_none (fv : Value) (w : World) :
    Calls Tryd.prog 56 #[.slice none 0 0, fv] w fun e w' => e = .returned (.tuple #[]) ∧ w' = w := by
  have hp := fun lim W => pdq_none 0 lim fv W
  have hl : ∀ W, Calls Tryd.prog 71 #[.int .u64 0] W fun e w' => e = .returned (.int .i64 (Lib.bitLen 0 : Nat)) ∧ w' = W := fun W =>
    Any.bits_Len (SlLaysF0.n15.bits (P := Tryd.prog) (ρ := Tryd.sortP_ren) { Tryd.sortP with }) 0 W (by omega) (by omega)
  go_enter Tryd.func56, Tryd.ntmps56
  go_wp2_with (first | (go_at_call 71; refine (hl _).mono ?_; rintro e w' ⟨rfl, rfl⟩) | (go_at_call 70; refine (hp _ _).mono ?_; rintro e w' ⟨rfl, rfl⟩))
  go_end0
  exact ⟨rfl, rfl⟩
theorem compact_none (w : World) : Calls Tryd.prog 57 #[.slice none 0 0] w fun e w' => e = .returned (.slice none 0 0) ∧ w' = w := by
  go_enter Tryd.func57, Tryd.ntmps57
  go_wp2
  go_ret
  exact ⟨rfl, rfl⟩

theorem sort_any (l : List PP) (v : Value) (w : World) (hl : l.length ≤ 1000) (hr : Rd w v l) :
    Calls Tryd.prog 39 #[v] w fun e w' => ∃ v', e = .returned v' ∧ Rd w' v' (sortR l) ∧ Below w.heap.size w w' := by
  have hc := clone_any l v w hl hr
  have HF : Hid (∀ (l : List PP) (g cap : Nat) (w : World), l.length ≤ 1000 → HoldsK encP 2 w g 0 l.toArray → g < w.heap.size →
    Calls Tryd.prog 56 #[.slice (some ⟨g, 0, none⟩) l.length cap, .func (.func 22) #[] #[]] w fun e w' => e = .returned (.tuple #[]) ∧ ∃ d' : Array PP, d'.size = l.length ∧ compactUpTo d' d'.size = sortR l ∧ HoldsK encP 2 w' g 0 d' ∧ w.grownBy w' (some g)) := sortFunc_any
  clear hr
  go_enter Tryd.func39, Tryd.ntmps39
  go_wp2_with (go_at_call 55; refine hc.mono ?_; rintro e w1 ⟨v1, rfl, hown, hb⟩; have HO := Lib.hid (And.intro hown hb); clear hown hb)
  have hown := HO.out.1
  rcases hown.2 with ⟨rfl, hn⟩ | ⟨g, cap, cur, rfl, hB, hg, hnc, hcm, hcs, htk⟩
  · have hl0 : l = [] := List.length_eq_zero_iff.1 hn
    subst hl0
    go_wp2_with (first | (go_at_call 56; refine (sortFunc_none _ _).mono ?_; rintro e w2 ⟨rfl, rfl⟩) | (go_at_call 57; refine (compact_none _).mono ?_; rintro e w3 ⟨rfl, rfl⟩))
    go_ret
    exact ⟨_, rfl, rd_nil _, HO.out.2⟩
  · have hg1 : g < w1.heap.size := (Array.getElem?_eq_some_iff.1 hg).1
    have hs := HF.out l g cap w1 hl (holds_own hown) hg1
    have HG := Lib.hid (And.intro hB (And.intro hg1 hnc))
    clear hown hg hcs htk hB hg1 hnc hcm
    go_wp2_with (first
      | (go_at_call 56; refine hs.mono ?_; rintro e w2 ⟨rfl, d', hd, hcp, hH2, hgr⟩
         have hc2 := compact_any g 0 cap d' w2 hH2 (by omega) (by have := HG.out.2.2; omega) (Nat.lt_of_lt_of_le HG.out.2.1 hgr.size)
         rw [hd] at hc2
         have HX := Lib.hid (And.intro hcp hgr)
         clear hs hcp hH2 hgr)
      | (go_at_call 57; refine hc2.mono ?_; rintro e w3 ⟨v3, rfl, hrd, hb3⟩; have HR := Lib.hid (And.intro hrd hb3); clear hrd hb3))
    go_ret
    refine ⟨_, rfl, ?_, ?_⟩
    · have h1 := HX.out.1
      rw [hd] at h1
      rw [← h1]; exact HR.out.1
    · have b1 := HO.out.2
      have b2 : Below w.heap.size w w2 := b1.grown HX.out.2 b1.size (fun k hk => by cases hk; exact HG.out.1)
      exact b2.trans (HR.out.2.mono HG.out.1)
end Go.Proofs.YtbcgfgklajdelaaDoor
