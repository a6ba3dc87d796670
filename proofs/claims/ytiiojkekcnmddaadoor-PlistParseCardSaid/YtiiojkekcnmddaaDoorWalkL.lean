/-
  The walks of Parse and of its reference.
-/
import Derived.Test.YtiiojkekcnmddaaDoorWalkK
namespace Go.Proofs.YtiiojkekcnmddaaDoor
open Go.RowKit
set_option linter.unusedSimpArgs false
set_option linter.unusedVariables false
set_option maxHeartbeats 2000000
set_option maxRecDepth 100000

theorem refN_ok : ∀ (k : Nat) (f : Bool) (l r : List UInt8) (ns : List Nat), T.refN k f l = some (ns, r) → ns.length = k ∧ Ok255 ns := by
  intro k
  induction k with
  | zero => intro f l r ns h; simp [T.refN] at h; rw [h.1]; exact ⟨rfl, fun _ h => by cases h⟩
  | succ k ih =>
    intro f l r ns h
    have go : ∀ l' : List UInt8, (match T.pnum (T.runD l') 255 with | none => none | some n => (T.refN k false (l'.drop (T.runD l').length)).map (fun x => (n :: x.1, x.2))) = some (ns, r) → ns.length = k + 1 ∧ Ok255 ns := by
      intro l' h'
      cases hp : T.pnum (T.runD l') 255 with
      | none => rw [hp] at h'; cases h'
      | some n =>
        rw [hp] at h'
        obtain ⟨⟨ms, rr⟩, h1, h2⟩ := Option.map_eq_some_iff.1 h'
        simp at h2
        obtain ⟨i1, i2⟩ := ih false _ _ _ h1
        rw [← h2.1]
        refine ⟨by simp [i1], fun x hx => ?_⟩
        rcases List.mem_cons.1 hx with e | e
        · rw [e]; exact T.pnum_le hp
        · exact i2 x e
    rw [T.refN] at h
    cases f with
    | true => simp only [if_true] at h; exact go l h
    | false =>
      cases l with
      | nil => simp [T.afterDot] at h
      | cons c t =>
        by_cases hc : c = 46
        · simp only [T.afterDot, hc, if_true, Bool.false_eq_true, if_false] at h; exact go t h
        · simp [T.afterDot, hc] at h
theorem pa_lt {l : List UInt8} {a : Nat} (h : pa l = some a) : a < 4294967296 := by
  obtain ⟨ns, h1, rfl⟩ := pa_ref h
  obtain ⟨h2, h3⟩ := refN_ok _ _ _ _ _ h1
  have := valA_lt 4 ns h2 h3
  simpa using this

/-- the address and the length with the text l -/
def pr (l : List UInt8) : Option (Nat × Nat) :=
  if (47 : UInt8) ∈ l then (pa (T.wordC 47 l)).bind fun a => (T.pnum (T.restC 47 l) 32).map fun n => (a, n) else none
def prV : Option (Nat × Nat) → Value
  | none => .tuple #[.agg #[.int .u32 0, .int .i64 0], .int .i64 2]
  | some (a, n) => bif vld a n then .tuple #[.agg #[.int .u32 a, .int .i64 n], .int .i64 0] else .tuple #[.agg #[.int .u32 0, .int .i64 0], .int .i64 1]
theorem prV_none {o : Option (Nat × Nat)} (h : o = none) : Value.tuple #[.agg #[.int .u32 0, .int .i64 0], .int .i64 2] = prV o := by rw [h]; rfl
theorem prV_bad {o : Option (Nat × Nat)} {a n : Nat} (h : o = some (a, n)) (hv : vld a n = false) : Value.tuple #[.agg #[.int .u32 0, .int .i64 0], .int .i64 1] = prV o := by rw [h, prV, hv]; rfl
theorem prV_ok {o : Option (Nat × Nat)} {a n : Nat} (h : o = some (a, n)) (hv : vld a n = true) : Value.tuple #[.agg #[.int .u32 a, .int .i64 n], .int .i64 0] = prV o := by rw [h, prV, hv]; rfl
theorem pn32_no (l : List UInt8) (hl : l.length ≤ 140737488355328) (h : T.pnum l 32 = none) (w : World) :
    Calls Tryd.prog 63 #[.string (bs l), .int .i64 32] w fun e w' => e = .returned (.tuple #[.int .i64 0, .bool false]) ∧ w = w' := by
  have := pn_bs l hl 32 (by omega) w
  rw [h] at this; exact this
theorem pn32_yes (l : List UInt8) (hl : l.length ≤ 140737488355328) (n : Nat) (h : T.pnum l 32 = some n) (w : World) :
    Calls Tryd.prog 63 #[.string (bs l), .int .i64 32] w fun e w' => e = .returned (.tuple #[.int .i64 n, .bool true]) ∧ w = w' := by
  have := pn_bs l hl 32 (by omega) w
  rw [h] at this; exact this
theorem pa_bs_no (l : List UInt8) (hl : l.length ≤ 140737488355328) (h : pa l = none) (w : World) :
    Calls Tryd.prog 62 #[.string (bs l)] w fun e w' => e = .returned (.tuple #[.int .u32 0, .int .i64 2]) ∧ Below w.heap.size w w' := by
  have := parseAddr_any l hl w
  rw [h] at this; exact this
theorem pa_bs_yes (l : List UInt8) (hl : l.length ≤ 140737488355328) (a : Nat) (h : pa l = some a) (w : World) :
    Calls Tryd.prog 62 #[.string (bs l)] w fun e w' => e = .returned (.tuple #[.int .u32 a, .int .i64 0]) ∧ Below w.heap.size w w' := by
  have := parseAddr_any l hl w
  rw [h] at this; exact this

theorem parse_noslash (l : List UInt8) (hl : l.length ≤ 140737488355328) (h : (47 : UInt8) ∉ l) (w : World) :
    Calls Tryd.prog 52 #[.string (bs l)] w fun e w' => e = .returned (prV (pr l)) ∧ Below w.heap.size w w' := by
  have H := Lib.hid (prV_none (show pr l = none by unfold pr; rw [if_neg h]))
  have A := Lib.hid (cut_no 47 l hl h)
  clear h
  go_enter Tryd.func52, Tryd.ntmps52
  go_wp2_with (go_at_call 51; refine (A.out _).mono ?_; rintro e w' ⟨rfl, k0, rfl⟩)
  refine bodyPost_ret (v := .tuple #[.agg #[.int .u32 0, .int .i64 0], .int .i64 2]) (by simp [results, Tryd.results52, go_sem]) rfl ⟨ret_t H.out, ?_⟩
  exact ((below_drewN (below_alloc _ _) _).setCell (by simp) _).setCell (by simp) _
theorem parse_noaddr (l : List UInt8) (hl : l.length ≤ 140737488355328) (h : (47 : UInt8) ∈ l) (hp : pa (T.wordC 47 l) = none) (w : World) :
    Calls Tryd.prog 52 #[.string (bs l)] w fun e w' => e = .returned (prV (pr l)) ∧ Below w.heap.size w w' := by
  have H := Lib.hid (prV_none (show pr l = none by unfold pr; rw [if_pos h, hp]; rfl))
  have A := Lib.hid (cut_any 47 l hl)
  have hm : decide ((47 : UInt8) ∈ l) = true := decide_eq_true h
  have hw := word_len 47 l
  have B := Lib.hid (pa_bs_no _ (by omega) hp)
  clear hp hw
  generalize T.wordC 47 l = W0 at *
  generalize T.restC 47 l = R0 at *
  go_enter Tryd.func52, Tryd.ntmps52
  go_wp2_with (first
    | (go_at_call 51; refine (A.out _).mono ?_; rintro e w' ⟨rfl, k0, rfl⟩)
    | (go_at_call 62; fail))
  go_at_call 62
  refine (B.out _).mono ?_
  rintro e w1 ⟨rfl, h1⟩
  obtain ⟨hc1, hf1⟩ := bcell h1
  go_wp2_with fail
  refine bodyPost_ret (v := .tuple #[.agg #[.int .u32 0, .int .i64 0], .int .i64 2]) (by simp [results, Tryd.results52, go_sem, hc1]) rfl ⟨ret_t H.out, ?_⟩
  exact ((below_then (below_drewN (below_alloc _ _) _) h1).setCell (by simp) _).setCell (by simp) _
theorem parse_nolen (l : List UInt8) (hl : l.length ≤ 140737488355328) (h : (47 : UInt8) ∈ l) (a : Nat) (hp : pa (T.wordC 47 l) = some a) (hq : T.pnum (T.restC 47 l) 32 = none) (w : World) :
    Calls Tryd.prog 52 #[.string (bs l)] w fun e w' => e = .returned (prV (pr l)) ∧ Below w.heap.size w w' := by
  have H := Lib.hid (prV_none (show pr l = none by unfold pr; rw [if_pos h, hp, hq]; rfl))
  have A := Lib.hid (cut_any 47 l hl)
  have hm : decide ((47 : UInt8) ∈ l) = true := decide_eq_true h
  have hw := word_len 47 l
  have B := Lib.hid (pa_bs_yes _ (by omega) a hp)
  have C := Lib.hid (pn32_no _ (by omega) hq)
  clear hp hq hw
  generalize T.wordC 47 l = W0 at *
  generalize T.restC 47 l = R0 at *
  go_enter Tryd.func52, Tryd.ntmps52
  go_wp2_with (first
    | (go_at_call 51; refine (A.out _).mono ?_; rintro e w' ⟨rfl, k0, rfl⟩)
    | (go_at_call 62; fail))
  go_at_call 62
  refine (B.out _).mono ?_
  rintro e w1 ⟨rfl, h1⟩
  obtain ⟨hc1, hf1⟩ := bcell h1
  go_wp2_with (go_at_call 63; refine (C.out _).mono ?_; rintro e w' ⟨rfl, rfl⟩)
  refine bodyPost_ret (v := .tuple #[.agg #[.int .u32 0, .int .i64 0], .int .i64 2]) (by simp [results, Tryd.results52, go_sem, hc1]) rfl ⟨ret_t H.out, ?_⟩
  exact ((below_then (below_drewN (below_alloc _ _) _) h1).setCell (by simp) _).setCell (by simp) _
theorem parse_full (l : List UInt8) (hl : l.length ≤ 140737488355328) (h : (47 : UInt8) ∈ l) (a n : Nat) (hp : pa (T.wordC 47 l) = some a) (hq : T.pnum (T.restC 47 l) 32 = some n) (w : World) :
    Calls Tryd.prog 52 #[.string (bs l)] w fun e w' => e = .returned (prV (pr l)) ∧ Below w.heap.size w w' := by
  have hpr : pr l = some (a, n) := by unfold pr; rw [if_pos h, hp, hq]; rfl
  have A := Lib.hid (cut_any 47 l hl)
  have hm : decide ((47 : UInt8) ∈ l) = true := decide_eq_true h
  have hw := word_len 47 l
  have ha := pa_lt hp
  have hn := T.pnum_le hq
  have B := Lib.hid (pa_bs_yes _ (by omega) a hp)
  have C := Lib.hid (pn32_yes _ (by omega) n hq)
  have V := Lib.hid (valid_any a ha n (by omega))
  clear hp hq hw
  generalize T.wordC 47 l = W0 at *
  generalize T.restC 47 l = R0 at *
  cases hv : vld a n
  · have H := Lib.hid (prV_bad hpr hv)
    clear hpr
    go_enter Tryd.func52, Tryd.ntmps52
    go_wp2_with (first
      | (go_at_call 51; refine (A.out _).mono ?_; rintro e w' ⟨rfl, k0, rfl⟩)
      | (go_at_call 62; fail))
    go_at_call 62
    refine (B.out _).mono ?_
    rintro e w1 ⟨rfl, h1⟩
    obtain ⟨hc1, hf1⟩ := bcell h1
    have hz1 : w.heap.size < w1.heap.size := by have := h1.size; simp at this; omega
    go_wp2_with (go_at_call 63; refine (C.out _).mono ?_; rintro e w' ⟨rfl, rfl⟩)
    go_at_call 24
    refine (V.out _).mono ?_
    rintro e w2 ⟨rfl, h2⟩
    obtain ⟨hc2, hf2⟩ := bcell h2
    have hz2 : w.heap.size < w1.heap.size + 1 := by omega
    have hne : ¬ w.heap.size = w1.heap.size := by omega
    go_wp2_with fail
    refine bodyPost_ret (v := .tuple #[.agg #[.int .u32 0, .int .i64 0], .int .i64 1]) (by simp [results, Tryd.results52, go_sem, hc1, hc2, hz1, hz2, hne]) rfl ⟨ret_t H.out, ?_⟩
    exact ((below_then (below_then (below_then (below_drewN (below_alloc _ _) _) h1) (below_alloc _ _)) h2).setCell (by simp) _).setCell (by simp) _
  · have H := Lib.hid (prV_ok hpr hv)
    clear hpr
    go_enter Tryd.func52, Tryd.ntmps52
    go_wp2_with (first
      | (go_at_call 51; refine (A.out _).mono ?_; rintro e w' ⟨rfl, k0, rfl⟩)
      | (go_at_call 62; fail))
    go_at_call 62
    refine (B.out _).mono ?_
    rintro e w1 ⟨rfl, h1⟩
    obtain ⟨hc1, hf1⟩ := bcell h1
    have hz1 : w.heap.size < w1.heap.size := by have := h1.size; simp at this; omega
    go_wp2_with (go_at_call 63; refine (C.out _).mono ?_; rintro e w' ⟨rfl, rfl⟩)
    go_at_call 24
    refine (V.out _).mono ?_
    rintro e w2 ⟨rfl, h2⟩
    obtain ⟨hc2, hf2⟩ := bcell h2
    have hz2 : w.heap.size < w1.heap.size + 1 := by omega
    have hne : ¬ w.heap.size = w1.heap.size := by omega
    go_wp2_with fail
    refine bodyPost_ret (v := .tuple #[.agg #[.int .u32 a, .int .i64 n], .int .i64 0]) (by simp [results, Tryd.results52, go_sem, hc1, hc2, hz1, hz2, hne]) rfl ⟨ret_t H.out, ?_⟩
    exact ((below_then (below_then (below_then (below_drewN (below_alloc _ _) _) h1) (below_alloc _ _)) h2).setCell (by simp) _).setCell (by simp) _
theorem parse_any (l : List UInt8) (hl : l.length ≤ 140737488355328) (w : World) :
    Calls Tryd.prog 52 #[.string (bs l)] w fun e w' => e = .returned (prV (pr l)) ∧ Below w.heap.size w w' := by
  by_cases h : (47 : UInt8) ∈ l
  · cases hp : pa (T.wordC 47 l) with
    | none => exact parse_noaddr l hl h hp w
    | some a =>
      cases hq : T.pnum (T.restC 47 l) 32 with
      | none => exact parse_nolen l hl h a hp hq w
      | some n => exact parse_full l hl h a n hp hq w
  · exact parse_noslash l hl h w
end Go.Proofs.YtiiojkekcnmddaaDoor
