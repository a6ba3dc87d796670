/-
  The document's ring of four routers: its alternates and a walk.
-/
import Derived.Test.YtmbogobebllheaaTaS
namespace Go.Proofs.Ytmbogobebllheaa
open Go.RowKit HM GM SP Go.Lib
set_option linter.unusedSimpArgs false
set_option linter.unusedVariables false
set_option maxHeartbeats 4000000
set_option maxRecDepth 100000
def seqL : List E := [(0, 1, 1), (1, 0, 1), (1, 2, 1), (2, 1, 1), (2, 3, 1), (3, 2, 1), (3, 0, 1), (0, 3, 1)]
theorem seq_least : Least seqL ringL := by
  refine ⟨by unfold AscE ringL; decide, fun x => ?_⟩
  obtain ⟨a, b, c⟩ := x
  constructor
  · intro h
    refine ⟨?_, fun y hy e1 e2 => ?_⟩
    · have : ∀ z ∈ ringL, z ∈ seqL := by decide
      exact this _ h
    · have h1 : ∀ z ∈ ringL, z.2.2 = 1 := by decide
      have h2 : ∀ z ∈ seqL, z.2.2 = 1 := by decide
      rw [h1 _ h, h2 _ hy]; exact Int.le_refl _
  · intro h
    have : ∀ z ∈ seqL, z ∈ ringL := by decide
    exact this _ h.1
theorem hop_ring : LeastH 4 ringL 3 2 2 := by
  constructor
  · refine (hop0 ring_valid).2 ⟨by decide, 1, by decide, ?_, ?_⟩
    · rw [ring4_T 2 2 (by decide) (by decide) (by decide) (by decide)]; decide
    · rw [ring4_T 2 2 (by decide) (by decide) (by decide) (by decide), ring4_T 3 2 (by decide) (by decide) (by decide) (by decide)]; decide
  · intro k hk
    obtain ⟨_, c, he, h1, h2⟩ := (hop0 ring_valid).1 hk
    have h3 : ∀ z ∈ ringL, z.1 = 3 → z.2.1 = 0 ∧ z.2.2 = 1 ∨ z.2.1 = 2 ∧ z.2.2 = 1 := by decide
    rcases h3 _ he rfl with ⟨e1, e2⟩ | ⟨e1, e2⟩
    · dsimp only at e1 e2
      subst e1
      rw [ring4_T 0 2 (by decide) (by decide) (by decide) (by decide), ring4_T 3 2 (by decide) (by decide) (by decide) (by decide)] at h2
      have h4 : tb ring4T 0 2 = 2 := by decide
      have h5 : tb ring4T 3 2 = 1 := by decide
      omega
    · dsimp only at e1; omega
theorem wk_ring : Wk 4 ringL 2 0 1 3 [3, 2] true := .go (by decide) hop_ring (by unfold OnLink; omega) .here
theorem walk_ring (s : Value) (W : World) (hr : Rd3 W s ringL) : Calls Try.prog 35 #[.agg #[.int .i64 4, .int .i64 0, s], .int .i64 3, .int .i64 2, .int .i64 0, .int .i64 1] W fun e w' => ∃ v, e = .returned (.tuple #[v, .bool true]) ∧ RdI w' v [3, 2] ∧ Below W.heap.size W w' := by
  have h := wk_ok 4 3 2 ringL s 0 1 W ring_valid hr (by decide) (by decide) (by decide)
  refine Calls.mono h ?_
  rintro e w' ⟨p, ok, v, rfl, h1, h2, hb⟩
  obtain ⟨rfl, rfl⟩ := Wk.unique h2 wk_ring
  exact ⟨v, rfl, h1, hb⟩
def RR (w : World) (v : Value) (o : List E) (W : World) : Prop := OwnL w.heap.size W v o ∧ Below w.heap.size w W
theorem RR.start (w : World) : RR w (.slice none 0 0) [] w := ⟨World.ownsRow_nil _ _ _ _, Below.refl _ _⟩
theorem RR.push {w W w5 : World} {v v' : Value} {o : List E} (y : E) (ob : Obj) (h : RR w v o W) (hg : (W.alloc ob).grownBy w5 v.ownBlock) (hown : w5.ownsRow w.heap.size 72 3 v' (o.length + 1) (flatE o ++ encE y)) : RR w v' (o ++ [y]) w5 :=
  ⟨OwnL.push (v := v) y hown, (below_then h.2 (below_alloc W ob)).grown hg (below_then h.2 (below_alloc W ob)).size (fun k hk => (row_lt h.1 hk).1)⟩
theorem lives_any (w : World) : Calls Try.prog 58 #[] w fun e w' => e = .returned (.bool true) ∧ Below w.heap.size w w' := by
  obtain ⟨i0, hi, hz0, hz1, hz2⟩ := infoE_parts info72
  have HS0 := Lib.hid (RR.start w)
  have HI0 : Hid (([] : List E) = (seqL : List E).take (2 * 0)) := rfl
  go_enter Try.func58, Try.ntmps58
  go_wp2_with fail
  go_loopg [1, 2, 9] 4 (fun g s1 s2 s9 wr => ∃ (i : Nat) (iv : Int) (o : List E), i ≤ 4 ∧ iv = (i : Int) ∧ 4 - i ≤ g ∧ s9 = .int .i64 iv ∧ (∃ q, q = s2) ∧ Hid (o = (seqL : List E).take (2 * i)) ∧ Hid (RR w s1 o wr))
  case atStart => exact ⟨0, 0, [], by omega, rfl, by omega, rfl, ⟨_, rfl⟩, HI0, HS0⟩
  case round =>
    clear HS0 HI0
    obtain ⟨i, iv, o, hil, hiv, hg, rfl, ⟨u2, rfl⟩, HI, HS⟩ := hrel
    by_cases hlt : i < 4
    · have hcs : (i = 0 ∧ iv = 0) ∨ (i = 1 ∧ iv = 1) ∨ (i = 2 ∧ iv = 2) ∨ (i = 3 ∧ iv = 3) := by omega
      clear hiv hil hlt
      rcases hcs with ⟨rfl, rfl⟩ | ⟨rfl, rfl⟩ | ⟨rfl, rfl⟩ | ⟨rfl, rfl⟩
      · have HA2 : Hid (o ++ [(0, 1, 1)] ++ [(1, 0, 1)] = (seqL : List E).take (2 * (0 + 1))) := by show _ = _; rw [HI.out]; rfl
        have hol : o.length = 0 := by rw [HI.out]; rfl
        obtain ⟨ad2, cap2, rfl⟩ := rd3_slice (rd3_own HS.out.1)
        have HSQ : Hid (RR w (.slice ad2 0 cap2) o wr) := by have := HS.out; rw [hol] at this; exact this
        have HOL := Lib.hid hol
        have HOW : Hid (∀ ob, (wr.alloc ob).ownsRow w.heap.size 72 3 (.slice ad2 0 cap2) 0 (flatE o)) := fun ob => by have h : OwnL _ _ _ _ := row_below HSQ.out.1 (below_alloc wr ob); unfold OwnL at h; rw [hol] at h; exact h
        have HSZ : Hid (w.heap.size ≤ wr.heap.size) := HSQ.out.2.size
        rw [hol]
        clear HI HS hol
        go_wp2_with (first
          | (at_builtin; refine wpList_append_lies _ rfl (.tmp 12) (.tmp 18) 25 rfl w.heap.size 72 i0 (.agg #[.int .i64 0, .int .i64 0, .int .i64 0]) 3 24 Try.underlying25 hi hz0 hz1 hz2 rfl (by decide) (.slice ad2 0 cap2) 0 (flatE o) rfl (HOW.out _) ⟨wr.heap.size, 0, none⟩ 1 1 (encE (0, 1, 1)) rfl rfl (cellE_new _ _ _ _ _ rfl) (encE_one _) (by decide) (by unfold maxLen; omega) (by omega) (by have := HSZ.out; simp; omega) (wr.heap.size + 1) (by simp) ?_
             intro g5 cap5 w5 hown hgrow hat hlt5
             have S5 := Lib.hid (RR.push (0, 1, 1) _ HSQ.out hgrow (by rw [HOL.out]; exact hown))
             have HOW5 : Hid (∀ ob, (w5.alloc ob).ownsRow w.heap.size 72 3 (.slice (some ⟨g5, 0, none⟩) (0 + 1) cap5) (0 + 1) (flatE (o ++ [(0, 1, 1)]))) := fun ob => by have h : OwnL _ _ _ _ := row_below S5.out.1 (below_alloc w5 ob); unfold OwnL at h; rw [List.length_append, HOL.out] at h; exact h
             have HSZ5 : Hid (w.heap.size ≤ w5.heap.size) := S5.out.2.size
             have HOL5 : Hid ((o ++ [(0, 1, 1)]).length = 0 + 1) := by show _ = _; rw [List.length_append, HOL.out]; rfl
             clear hown hgrow hat hlt5)
          | (at_builtin; refine wpList_append_lies _ rfl (.tmp 20) (.tmp 26) 25 rfl w.heap.size 72 i0 (.agg #[.int .i64 0, .int .i64 0, .int .i64 0]) 3 24 Try.underlying25 hi hz0 hz1 hz2 rfl (by decide) (.slice (some ⟨g5, 0, none⟩) (0 + 1) cap5) (0 + 1) (flatE (o ++ [(0, 1, 1)])) rfl (HOW5.out _) ⟨w5.heap.size, 0, none⟩ 1 1 (encE (1, 0, 1)) rfl rfl (cellE_new _ _ _ _ _ rfl) (encE_one _) (by decide) (by unfold maxLen; omega) (by omega) (by have := HSZ5.out; simp; omega) (w5.heap.size + 1) (by simp) ?_
             intro g6 cap6 w6 hown hgrow hat hlt6
             have S6 := Lib.hid (RR.push (1, 0, 1) _ S5.out hgrow (by rw [HOL5.out]; exact hown))
             clear hown hgrow hat hlt6))
        go_roundg (4 - (0 + 1))
        case measure => omega
        case rel => exact ⟨0 + 1, 1, _, by omega, rfl, Nat.le_refl _, rfl, ⟨_, rfl⟩, HA2, S6⟩
      · have HA2 : Hid (o ++ [(1, 2, 1)] ++ [(2, 1, 1)] = (seqL : List E).take (2 * (1 + 1))) := by show _ = _; rw [HI.out]; rfl
        have hol : o.length = 2 := by rw [HI.out]; rfl
        obtain ⟨ad2, cap2, rfl⟩ := rd3_slice (rd3_own HS.out.1)
        have HSQ : Hid (RR w (.slice ad2 2 cap2) o wr) := by have := HS.out; rw [hol] at this; exact this
        have HOL := Lib.hid hol
        have HOW : Hid (∀ ob, (wr.alloc ob).ownsRow w.heap.size 72 3 (.slice ad2 2 cap2) 2 (flatE o)) := fun ob => by have h : OwnL _ _ _ _ := row_below HSQ.out.1 (below_alloc wr ob); unfold OwnL at h; rw [hol] at h; exact h
        have HSZ : Hid (w.heap.size ≤ wr.heap.size) := HSQ.out.2.size
        rw [hol]
        clear HI HS hol
        go_wp2_with (first
          | (at_builtin; refine wpList_append_lies _ rfl (.tmp 12) (.tmp 18) 25 rfl w.heap.size 72 i0 (.agg #[.int .i64 0, .int .i64 0, .int .i64 0]) 3 24 Try.underlying25 hi hz0 hz1 hz2 rfl (by decide) (.slice ad2 2 cap2) 2 (flatE o) rfl (HOW.out _) ⟨wr.heap.size, 0, none⟩ 1 1 (encE (1, 2, 1)) rfl rfl (cellE_new _ _ _ _ _ rfl) (encE_one _) (by decide) (by unfold maxLen; omega) (by omega) (by have := HSZ.out; simp; omega) (wr.heap.size + 1) (by simp) ?_
             intro g5 cap5 w5 hown hgrow hat hlt5
             have S5 := Lib.hid (RR.push (1, 2, 1) _ HSQ.out hgrow (by rw [HOL.out]; exact hown))
             have HOW5 : Hid (∀ ob, (w5.alloc ob).ownsRow w.heap.size 72 3 (.slice (some ⟨g5, 0, none⟩) (2 + 1) cap5) (2 + 1) (flatE (o ++ [(1, 2, 1)]))) := fun ob => by have h : OwnL _ _ _ _ := row_below S5.out.1 (below_alloc w5 ob); unfold OwnL at h; rw [List.length_append, HOL.out] at h; exact h
             have HSZ5 : Hid (w.heap.size ≤ w5.heap.size) := S5.out.2.size
             have HOL5 : Hid ((o ++ [(1, 2, 1)]).length = 2 + 1) := by show _ = _; rw [List.length_append, HOL.out]; rfl
             clear hown hgrow hat hlt5)
          | (at_builtin; refine wpList_append_lies _ rfl (.tmp 20) (.tmp 26) 25 rfl w.heap.size 72 i0 (.agg #[.int .i64 0, .int .i64 0, .int .i64 0]) 3 24 Try.underlying25 hi hz0 hz1 hz2 rfl (by decide) (.slice (some ⟨g5, 0, none⟩) (2 + 1) cap5) (2 + 1) (flatE (o ++ [(1, 2, 1)])) rfl (HOW5.out _) ⟨w5.heap.size, 0, none⟩ 1 1 (encE (2, 1, 1)) rfl rfl (cellE_new _ _ _ _ _ rfl) (encE_one _) (by decide) (by unfold maxLen; omega) (by omega) (by have := HSZ5.out; simp; omega) (w5.heap.size + 1) (by simp) ?_
             intro g6 cap6 w6 hown hgrow hat hlt6
             have S6 := Lib.hid (RR.push (2, 1, 1) _ S5.out hgrow (by rw [HOL5.out]; exact hown))
             clear hown hgrow hat hlt6))
        go_roundg (4 - (1 + 1))
        case measure => omega
        case rel => exact ⟨1 + 1, 2, _, by omega, rfl, Nat.le_refl _, rfl, ⟨_, rfl⟩, HA2, S6⟩
      · have HA2 : Hid (o ++ [(2, 3, 1)] ++ [(3, 2, 1)] = (seqL : List E).take (2 * (2 + 1))) := by show _ = _; rw [HI.out]; rfl
        have hol : o.length = 4 := by rw [HI.out]; rfl
        obtain ⟨ad2, cap2, rfl⟩ := rd3_slice (rd3_own HS.out.1)
        have HSQ : Hid (RR w (.slice ad2 4 cap2) o wr) := by have := HS.out; rw [hol] at this; exact this
        have HOL := Lib.hid hol
        have HOW : Hid (∀ ob, (wr.alloc ob).ownsRow w.heap.size 72 3 (.slice ad2 4 cap2) 4 (flatE o)) := fun ob => by have h : OwnL _ _ _ _ := row_below HSQ.out.1 (below_alloc wr ob); unfold OwnL at h; rw [hol] at h; exact h
        have HSZ : Hid (w.heap.size ≤ wr.heap.size) := HSQ.out.2.size
        rw [hol]
        clear HI HS hol
        go_wp2_with (first
          | (at_builtin; refine wpList_append_lies _ rfl (.tmp 12) (.tmp 18) 25 rfl w.heap.size 72 i0 (.agg #[.int .i64 0, .int .i64 0, .int .i64 0]) 3 24 Try.underlying25 hi hz0 hz1 hz2 rfl (by decide) (.slice ad2 4 cap2) 4 (flatE o) rfl (HOW.out _) ⟨wr.heap.size, 0, none⟩ 1 1 (encE (2, 3, 1)) rfl rfl (cellE_new _ _ _ _ _ rfl) (encE_one _) (by decide) (by unfold maxLen; omega) (by omega) (by have := HSZ.out; simp; omega) (wr.heap.size + 1) (by simp) ?_
             intro g5 cap5 w5 hown hgrow hat hlt5
             have S5 := Lib.hid (RR.push (2, 3, 1) _ HSQ.out hgrow (by rw [HOL.out]; exact hown))
             have HOW5 : Hid (∀ ob, (w5.alloc ob).ownsRow w.heap.size 72 3 (.slice (some ⟨g5, 0, none⟩) (4 + 1) cap5) (4 + 1) (flatE (o ++ [(2, 3, 1)]))) := fun ob => by have h : OwnL _ _ _ _ := row_below S5.out.1 (below_alloc w5 ob); unfold OwnL at h; rw [List.length_append, HOL.out] at h; exact h
             have HSZ5 : Hid (w.heap.size ≤ w5.heap.size) := S5.out.2.size
             have HOL5 : Hid ((o ++ [(2, 3, 1)]).length = 4 + 1) := by show _ = _; rw [List.length_append, HOL.out]; rfl
             clear hown hgrow hat hlt5)
          | (at_builtin; refine wpList_append_lies _ rfl (.tmp 20) (.tmp 26) 25 rfl w.heap.size 72 i0 (.agg #[.int .i64 0, .int .i64 0, .int .i64 0]) 3 24 Try.underlying25 hi hz0 hz1 hz2 rfl (by decide) (.slice (some ⟨g5, 0, none⟩) (4 + 1) cap5) (4 + 1) (flatE (o ++ [(2, 3, 1)])) rfl (HOW5.out _) ⟨w5.heap.size, 0, none⟩ 1 1 (encE (3, 2, 1)) rfl rfl (cellE_new _ _ _ _ _ rfl) (encE_one _) (by decide) (by unfold maxLen; omega) (by omega) (by have := HSZ5.out; simp; omega) (w5.heap.size + 1) (by simp) ?_
             intro g6 cap6 w6 hown hgrow hat hlt6
             have S6 := Lib.hid (RR.push (3, 2, 1) _ S5.out hgrow (by rw [HOL5.out]; exact hown))
             clear hown hgrow hat hlt6))
        go_roundg (4 - (2 + 1))
        case measure => omega
        case rel => exact ⟨2 + 1, 3, _, by omega, rfl, Nat.le_refl _, rfl, ⟨_, rfl⟩, HA2, S6⟩
      · have HA2 : Hid (o ++ [(3, 0, 1)] ++ [(0, 3, 1)] = (seqL : List E).take (2 * (3 + 1))) := by show _ = _; rw [HI.out]; rfl
        have hol : o.length = 6 := by rw [HI.out]; rfl
        obtain ⟨ad2, cap2, rfl⟩ := rd3_slice (rd3_own HS.out.1)
        have HSQ : Hid (RR w (.slice ad2 6 cap2) o wr) := by have := HS.out; rw [hol] at this; exact this
        have HOL := Lib.hid hol
        have HOW : Hid (∀ ob, (wr.alloc ob).ownsRow w.heap.size 72 3 (.slice ad2 6 cap2) 6 (flatE o)) := fun ob => by have h : OwnL _ _ _ _ := row_below HSQ.out.1 (below_alloc wr ob); unfold OwnL at h; rw [hol] at h; exact h
        have HSZ : Hid (w.heap.size ≤ wr.heap.size) := HSQ.out.2.size
        rw [hol]
        clear HI HS hol
        go_wp2_with (first
          | (at_builtin; refine wpList_append_lies _ rfl (.tmp 12) (.tmp 18) 25 rfl w.heap.size 72 i0 (.agg #[.int .i64 0, .int .i64 0, .int .i64 0]) 3 24 Try.underlying25 hi hz0 hz1 hz2 rfl (by decide) (.slice ad2 6 cap2) 6 (flatE o) rfl (HOW.out _) ⟨wr.heap.size, 0, none⟩ 1 1 (encE (3, 0, 1)) rfl rfl (cellE_new _ _ _ _ _ rfl) (encE_one _) (by decide) (by unfold maxLen; omega) (by omega) (by have := HSZ.out; simp; omega) (wr.heap.size + 1) (by simp) ?_
             intro g5 cap5 w5 hown hgrow hat hlt5
             have S5 := Lib.hid (RR.push (3, 0, 1) _ HSQ.out hgrow (by rw [HOL.out]; exact hown))
             have HOW5 : Hid (∀ ob, (w5.alloc ob).ownsRow w.heap.size 72 3 (.slice (some ⟨g5, 0, none⟩) (6 + 1) cap5) (6 + 1) (flatE (o ++ [(3, 0, 1)]))) := fun ob => by have h : OwnL _ _ _ _ := row_below S5.out.1 (below_alloc w5 ob); unfold OwnL at h; rw [List.length_append, HOL.out] at h; exact h
             have HSZ5 : Hid (w.heap.size ≤ w5.heap.size) := S5.out.2.size
             have HOL5 : Hid ((o ++ [(3, 0, 1)]).length = 6 + 1) := by show _ = _; rw [List.length_append, HOL.out]; rfl
             clear hown hgrow hat hlt5)
          | (at_builtin; refine wpList_append_lies _ rfl (.tmp 20) (.tmp 26) 25 rfl w.heap.size 72 i0 (.agg #[.int .i64 0, .int .i64 0, .int .i64 0]) 3 24 Try.underlying25 hi hz0 hz1 hz2 rfl (by decide) (.slice (some ⟨g5, 0, none⟩) (6 + 1) cap5) (6 + 1) (flatE (o ++ [(3, 0, 1)])) rfl (HOW5.out _) ⟨w5.heap.size, 0, none⟩ 1 1 (encE (0, 3, 1)) rfl rfl (cellE_new _ _ _ _ _ rfl) (encE_one _) (by decide) (by unfold maxLen; omega) (by omega) (by have := HSZ5.out; simp; omega) (w5.heap.size + 1) (by simp) ?_
             intro g6 cap6 w6 hown hgrow hat hlt6
             have S6 := Lib.hid (RR.push (0, 3, 1) _ S5.out hgrow (by rw [HOL5.out]; exact hown))
             clear hown hgrow hat hlt6))
        go_roundg (4 - (3 + 1))
        case measure => omega
        case rel => exact ⟨3 + 1, 4, _, by omega, rfl, Nat.le_refl _, rfl, ⟨_, rfl⟩, HA2, S6⟩
    · have hcs : iv = 4 := by omega
      subst hcs
      have hF : o = seqL := by
        have := HI.out
        obtain rfl : i = 4 := by omega
        exact this
      subst hF
      have HR := Lib.hid (rd3_own HS.out.1)
      have HB := Lib.hid HS.out.2
      obtain ⟨ad2, cap2, rfl⟩ := rd3_slice (rd3_own HS.out.1)
      clear HS HI hlt hil hg hiv
      go_wp2_with fail
      go_at_call 108
      refine (of_any 4 0 seqL ringL _ _ (by unfold I64; omega) (by unfold I64; omega) (by unfold Fits; decide) HR.out seq_least).mono ?_
      rintro e w1 ⟨s, rfl, ho, hb⟩
      have e1 : ofV 4 0 ringL s = .agg #[.int .i64 4, .int .i64 0, s] := if_pos (by decide)
      have e2 : chk 4 0 ringL = 0 := by decide
      rw [e1, e2]
      have HB1 := Lib.hid (below_then HB.out hb)
      have HG := Lib.hid ho.rd
      obtain ⟨ad3, cap3, hf⟩ := rd3_slice ho.rd
      subst hf
      have HB2 := Lib.hid (below_then HB1.out (below_alloc w1 (.cells #[.int .i64 4, .int .i64 0, .slice ad3 (ringL : List E).length cap3] 27)))
      have HG2 := Lib.hid (HG.out.below (below_alloc w1 (.cells #[.int .i64 4, .int .i64 0, .slice ad3 (ringL : List E).length cap3] 27)))
      have HX2 : Hid ((w1.alloc (.cells #[.int .i64 4, .int .i64 0, .slice ad3 (ringL : List E).length cap3] 27)).heap[w1.heap.size]? = some (.cells #[.int .i64 4, .int .i64 0, .slice ad3 (ringL : List E).length cap3] 27 (0, 0))) := heap_alloc_new _ _
      clear ho hb HB HR HB1 HG e1 e2
      generalize (ringL : List E).length = L at *
      go_wp2_with fail
      go_at_call 25
      refine (la_ring4 _ _ HG2.out).mono ?_
      rintro e w3 ⟨lv, rfl, hl, hb⟩
      have HB3 := Lib.hid (below_then HB2.out hb)
      have HG3 := Lib.hid (HG2.out.below hb)
      have HX3 := Lib.hid ((hb.block _ (lt_block HX2.out)).trans HX2.out)
      have HL3 := Lib.hid hl
      obtain ⟨l1, l2, hf⟩ := hl.form
      subst hf
      have q0 : w3.cell? ⟨w1.heap.size, 0, none⟩ = some (.int .i64 4) := cell_of HX3.out rfl
      have q1 : w3.cell? ⟨w1.heap.size, 1, none⟩ = some (.int .i64 0) := cell_of HX3.out rfl
      have q2 : w3.cell? ⟨w1.heap.size, 2, none⟩ = some (.slice ad3 L cap3) := cell_of HX3.out rfl
      clear hl hb HB2 HG2 HX2
      go_wp2_with fail
      go_at_call 35
      refine (walk_ring _ _ HG3.out).mono ?_
      rintro e w4 ⟨pv, rfl, hp, hb⟩
      have HB4 := Lib.hid (below_then HB3.out hb)
      have hl4 := HL3.out.below hb
      obtain ⟨p1, p2, hf⟩ := hp.form
      subst hf
      obtain ⟨la, lc, he, _, _, hcs⟩ := hl4
      obtain ⟨b, off, e1, hlt, c0, c1, c2, c3, c4⟩ := hcs 0 _ rfl
      obtain ⟨b', off', e1', hlt', d0, d1, d2, d3, d4⟩ := hcs 1 _ rfl
      rw [e1] at e1'
      cases e1'
      cases he
      subst e1
      clear hp hb HB3 HG3 HX3 HL3 hcs q0 q1 q2
      dsimp only at c0 c1 c2 c3 c4 d0 d1 d2 d3 d4
      have f0 : w4.cell? ⟨b, off, none⟩ = some (.int .i64 2) := by simpa using c0
      have f2 : w4.cell? ⟨b, off + 2, none⟩ = some (.int .i64 3) := by simpa using c2
      have f3 : w4.cell? ⟨b, off + 3, none⟩ = some (.int .i64 2) := by simpa using c3
      have g2 : w4.cell? ⟨b, off + 5 + 2, none⟩ = some (.int .i64 1) := by simpa using d2
      have g2' : w4.cell? ⟨b, off + 7, none⟩ = some (.int .i64 1) := by simpa [Nat.add_assoc] using d2
      clear c0 c1 c2 c3 c4 d0 d1 d3 d4
      go_wp2
      go_ret
      exact ⟨rfl, HB4.out⟩
end Go.Proofs.Ytmbogobebllheaa
