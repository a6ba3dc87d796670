/-
  The walk of Parse's reference.
-/
import Derived.Test.YtiiojkekcnmddaaDoorWalkL
namespace Go.Proofs.YtiiojkekcnmddaaDoor
open Go.RowKit
set_option linter.unusedSimpArgs false
set_option linter.unusedVariables false
set_option maxHeartbeats 2000000
set_option maxRecDepth 100000

theorem split47 {l : List UInt8} (h : (47 : UInt8) ∈ l) : l = T.wordC 47 l ++ 47 :: T.restC 47 l ∧ (47 : UInt8) ∉ T.wordC 47 l := by
  rcases T.split_word 47 l with ⟨_, _, h3⟩ | h'
  · exact absurd h h3
  · exact h'
theorem ref47 {l : List UInt8} (h : (47 : UInt8) ∈ l) : T.refN 4 true l = (T.refN 4 true (T.wordC 47 l)).map (fun x => (x.1, x.2 ++ 47 :: T.restC 47 l)) := by
  have := refN_app 47 (by decide) (by decide) (T.restC 47 l) 4 true (T.wordC 47 l)
  rw [← (split47 h).1] at this; exact this
theorem pr_A {l : List UInt8} (h : T.refN 4 true l = none) : pr l = none := by
  unfold pr
  split
  · rename_i hm
    rw [ref47 hm] at h
    have h2 : T.refN 4 true (T.wordC 47 l) = none := by simpa using h
    rw [pa_none (fun ns hh => by rw [h2] at hh; cases hh)]; rfl
  · rfl
theorem pr_B {l : List UInt8} {ns : List Nat} (h : T.refN 4 true l = some (ns, [])) : pr l = none := by
  unfold pr
  split
  · rename_i hm
    rw [ref47 hm] at h
    obtain ⟨x, _, h2⟩ := Option.map_eq_some_iff.1 h
    simp at h2
  · rfl
theorem pr_C {l t : List UInt8} {c : UInt8} {ns : List Nat} (h : T.refN 4 true l = some (ns, c :: t)) (hc : c ≠ 47) : pr l = none := by
  unfold pr
  split
  · rename_i hm
    rw [ref47 hm] at h
    obtain ⟨⟨ms, q⟩, h1, h2⟩ := Option.map_eq_some_iff.1 h
    rw [pa_none (fun ks hh => by
      rw [h1] at hh
      simp at hh h2
      rw [hh.2] at h2
      simp at h2
      exact hc h2.2.1.symm)]; rfl
  · rfl
theorem pr_D {l t : List UInt8} {ns : List Nat} (h : T.refN 4 true l = some (ns, 47 :: t)) : pr l = (T.pnum t 32).map fun n => (valA ns, n) := by
  have hm : (47 : UInt8) ∈ l := by
    obtain ⟨q, hq⟩ := refN_suffix _ _ _ _ _ h
    rw [hq]; simp
  have hs := split47 hm
  rw [ref47 hm] at h
  obtain ⟨⟨ms, q⟩, h1, h2⟩ := Option.map_eq_some_iff.1 h
  simp at h2
  obtain ⟨rfl, h2⟩ := h2
  have hq : q = [] := by
    cases q with
    | nil => rfl
    | cons x q =>
      exfalso
      obtain ⟨z, hz⟩ := refN_suffix _ _ _ _ _ h1
      simp at h2
      apply hs.2
      rw [hz, h2.1]; simp
  subst hq
  simp at h2
  unfold pr
  rw [if_pos hm, pa_some h1, h2]; rfl
theorem pn_run_none {t : List UInt8} (h : T.pnum (T.runD t) 32 = none) : T.pnum t 32 = none := by
  cases hp : T.pnum t 32 with
  | none => rfl
  | some n => rw [T.runD_all (T.pnum_digs hp), hp] at h; cases h
theorem pn_run_short {t : List UInt8} (h : (T.runD t).length ≠ t.length) : T.pnum t 32 = none := by
  cases hp : T.pnum t 32 with
  | none => rfl
  | some n => rw [T.runD_all (T.pnum_digs hp)] at h; exact absurd rfl h
theorem runD_full {t : List UInt8} (h : (T.runD t).length = t.length) : T.runD t = t := by
  have h1 := T.runD_split t
  rw [List.drop_eq_nil_of_le (by omega), List.append_nil] at h1; exact h1.symm

theorem rparse_none (s : ByteArray) (hs : s.size ≤ 140737488355328) (w : World) (hr : T.refN 4 true s.data.toList = none) :
    Calls Tryd.prog 35 #[.string s] w fun e w' => e = .returned (prV (pr s.data.toList)) ∧ Below w.heap.size w w' := by
  have H := Lib.hid (prV_none (pr_A hr))
  have A := Lib.hid (address_any s hs)
  have A2 := Lib.hid (show ∀ W, Calls Tryd.prog 54 #[.string s] W fun e w' => e = .returned (.tuple #[.int .u32 0, .int .i64 (-1)]) ∧ W = w' from fun W => by have := A.out W; rw [hr] at this; exact this)
  clear A hr
  go_enter Tryd.func35, Tryd.ntmps35
  go_wp2_with (go_at_call 54; refine (A2.out _).mono ?_; rintro e w' ⟨rfl, rfl⟩)
  refine bodyPost_ret (v := .tuple #[.agg #[.int .u32 0, .int .i64 0], .int .i64 2]) (by simp [results, Tryd.results35, go_sem]) rfl ⟨ret_t H.out, ?_⟩
  exact below_alloc _ _
theorem rparse_end (s : ByteArray) (hs : s.size ≤ 140737488355328) (w : World) (ns : List Nat) (hr : T.refN 4 true s.data.toList = some (ns, [])) :
    Calls Tryd.prog 35 #[.string s] w fun e w' => e = .returned (prV (pr s.data.toList)) ∧ Below w.heap.size w w' := by
  have H := Lib.hid (prV_none (pr_B hr))
  have A := Lib.hid (address_any s hs)
  have A2 := Lib.hid (show ∀ W, Calls Tryd.prog 54 #[.string s] W fun e w' => e = .returned (.tuple #[.int .u32 (valA ns), .int .i64 s.size]) ∧ W = w' from fun W => by
    have := A.out W; rw [hr] at this; simpa [adV] using this)
  clear A hr
  go_enter Tryd.func35, Tryd.ntmps35
  go_wp2_with (go_at_call 54; refine (A2.out _).mono ?_; rintro e w' ⟨rfl, rfl⟩)
  refine bodyPost_ret (v := .tuple #[.agg #[.int .u32 0, .int .i64 0], .int .i64 2]) (by simp [results, Tryd.results35, go_sem]) rfl ⟨ret_t H.out, ?_⟩
  exact below_alloc _ _
/-- where the greedy reader stopped -/
theorem ref_at (s : ByteArray) {ns : List Nat} {c : UInt8} {t : List UInt8} (hr : T.refN 4 true s.data.toList = some (ns, c :: t)) :
    ∃ p : Nat, p + 1 + t.length = s.size ∧ (∀ h : p < s.size, s[p] = c) ∧ s.data.toList.drop (p + 1) = t := by
  obtain ⟨q, hq⟩ := refN_suffix _ _ _ _ _ hr
  have hl := congrArg List.length hq
  rw [List.length_append, list_len, List.length_cons] at hl
  refine ⟨q.length, by omega, fun h => ?_, ?_⟩
  · rw [← list_get s q.length h]
    have : s.data.toList[q.length]? = some c := by rw [hq]; simp
    rw [List.getElem?_eq_getElem (by simpa using h)] at this
    exact Option.some.inj this
  · rw [hq]; simp
theorem rparse_other (s : ByteArray) (hs : s.size ≤ 140737488355328) (w : World) (ns : List Nat) (c : UInt8) (t : List UInt8) (hr : T.refN 4 true s.data.toList = some (ns, c :: t)) (hc : c ≠ 47) :
    Calls Tryd.prog 35 #[.string s] w fun e w' => e = .returned (prV (pr s.data.toList)) ∧ Below w.heap.size w w' := by
  have H := Lib.hid (prV_none (pr_C hr hc))
  obtain ⟨p, hp, hat, _⟩ := ref_at s hr
  have A := Lib.hid (address_any s hs)
  have A2 := Lib.hid (show ∀ W, Calls Tryd.prog 54 #[.string s] W fun e w' => e = .returned (.tuple #[.int .u32 (valA ns), .int .i64 p]) ∧ W = w' from fun W => by
    have := A.out W; rw [hr] at this
    have e : ((s.size : Int) - ((c :: t).length : Nat)) = p := by rw [List.length_cons]; omega
    rw [adV, e] at this; exact this)
  have hin : p < s.size := by omega
  have g1 : (p : Int) < s.size := by omega
  have hne : s[p].toNat ≠ 47 := by rw [hat hin]; exact fun h => hc (UInt8.toNat_inj.1 h)
  have e1 : ((s[p].toNat : Int) == 47) = false := by rw [beq_eq_false_iff_ne]; omega
  have e2 : ((s[p].toNat : Int) != 47) = true := by rw [bne, e1]; rfl
  clear A hr hat hne hc
  go_enter Tryd.func35, Tryd.ntmps35
  go_wp2_with (go_at_call 54; refine (A2.out _).mono ?_; rintro e w' ⟨rfl, rfl⟩)
  refine bodyPost_ret (v := .tuple #[.agg #[.int .u32 0, .int .i64 0], .int .i64 2]) (by simp [results, Tryd.results35, go_sem]) rfl ⟨ret_t H.out, ?_⟩
  exact below_alloc _ _
theorem rparse_slash (s : ByteArray) (hs : s.size ≤ 140737488355328) (w : World) (ns : List Nat) (t : List UInt8) (hr : T.refN 4 true s.data.toList = some (ns, 47 :: t)) :
    Calls Tryd.prog 35 #[.string s] w fun e w' => e = .returned (prV (pr s.data.toList)) ∧ Below w.heap.size w w' := by
  have hpr := pr_D hr
  obtain ⟨p, hp, hat, hdrop⟩ := ref_at s hr
  have hrun : runAt s (p + 1) = T.runD t := by unfold runAt; rw [hdrop]
  have hrl := runD_len t
  have hva : valA ns < 4294967296 := by
    obtain ⟨h2, h3⟩ := refN_ok _ _ _ _ _ hr
    have := valA_lt 4 ns h2 h3
    simpa using this
  have A := Lib.hid (address_any s hs)
  have A2 := Lib.hid (show ∀ W, Calls Tryd.prog 54 #[.string s] W fun e w' => e = .returned (.tuple #[.int .u32 (valA ns), .int .i64 p]) ∧ W = w' from fun W => by
    have := A.out W; rw [hr] at this
    have e : ((s.size : Int) - (((47 : UInt8) :: t).length : Nat)) = p := by rw [List.length_cons]; omega
    rw [adV, e] at this; exact this)
  have N := Lib.hid (number_any s hs (p + 1) (by omega) 32 (by omega))
  have hin : p < s.size := by omega
  have g1 : (p : Int) < s.size := by omega
  have heq : s[p].toNat = 47 := by rw [hat hin]; rfl
  have e1 : ((s[p].toNat : Int) == 47) = true := by rw [beq_iff_eq]; omega
  have e2 : ((s[p].toNat : Int) != 47) = false := by rw [bne, e1]; rfl
  clear A hr hat heq hdrop
  cases hq : T.pnum (T.runD t) 32 with
  | none =>
    have H := Lib.hid (prV_none (show pr s.data.toList = none by rw [hpr, pn_run_none hq]; rfl))
    have N2 := Lib.hid (show ∀ W, Calls Tryd.prog 55 #[.string s, .int .i64 ((p : Int) + 1), .int .i64 32] W fun e w' => e = .returned (.tuple #[.int .i64 0, .int .i64 (-1)]) ∧ W = w' from fun W => by
      have := N.out W; rw [hrun, hq] at this; exact this)
    clear hq hpr N hrun
    go_enter Tryd.func35, Tryd.ntmps35
    go_wp2_with (first | (go_at_call 54; refine (A2.out _).mono ?_; rintro e w' ⟨rfl, rfl⟩) | (go_at_call 55; refine (N2.out _).mono ?_; rintro e w' ⟨rfl, rfl⟩))
    refine bodyPost_ret (v := .tuple #[.agg #[.int .u32 0, .int .i64 0], .int .i64 2]) (by simp [results, Tryd.results35, go_sem]) rfl ⟨ret_t H.out, ?_⟩
    exact below_alloc _ _
  | some n =>
    have N2 := Lib.hid (show ∀ W, Calls Tryd.prog 55 #[.string s, .int .i64 ((p : Int) + 1), .int .i64 32] W fun e w' => e = .returned (.tuple #[.int .i64 n, .int .i64 ((p : Int) + 1 + (T.runD t).length)]) ∧ W = w' from fun W => by
      have := N.out W; rw [hrun, hq] at this; exact this)
    by_cases hsh : (T.runD t).length = t.length
    · have hf : T.pnum t 32 = some n := by rw [runD_full hsh] at hq; exact hq
      have hpr2 : pr s.data.toList = some (valA ns, n) := by rw [hpr, hf]; rfl
      have hn := T.pnum_le hq
      have V := Lib.hid (rvalid_any (valA ns) hva n (by omega))
      have e3 : ((p : Int) + 1 + ((T.runD t).length : Nat)) = s.size := by omega
      clear hq hpr N hrun hf
      cases hv : vld (valA ns) n
      · have H := Lib.hid (prV_bad hpr2 hv)
        clear hpr2
        go_enter Tryd.func35, Tryd.ntmps35
        go_wp2_with (first | (go_at_call 54; refine (A2.out _).mono ?_; rintro e w' ⟨rfl, rfl⟩) | (go_at_call 55; refine (N2.out _).mono ?_; rintro e w' ⟨rfl, rfl⟩))
        go_at_call 23
        refine (V.out _).mono ?_
        rintro e w2 ⟨rfl, h2⟩
        obtain ⟨hc2, hf2⟩ := bcell h2
        have hz : w.heap.size < w.heap.size + 1 + 1 := by omega
        go_wp2_with fail
        refine bodyPost_ret (v := .tuple #[.agg #[.int .u32 0, .int .i64 0], .int .i64 1]) (by simp [results, Tryd.results35, go_sem, hc2, hz]) rfl ⟨ret_t H.out, ?_⟩
        exact ((below_then (below2 _ _ _) h2).setCell (by simp) _).setCell (by simp) _
      · have H := Lib.hid (prV_ok hpr2 hv)
        clear hpr2
        go_enter Tryd.func35, Tryd.ntmps35
        go_wp2_with (first | (go_at_call 54; refine (A2.out _).mono ?_; rintro e w' ⟨rfl, rfl⟩) | (go_at_call 55; refine (N2.out _).mono ?_; rintro e w' ⟨rfl, rfl⟩))
        go_at_call 23
        refine (V.out _).mono ?_
        rintro e w2 ⟨rfl, h2⟩
        obtain ⟨hc2, hf2⟩ := bcell h2
        have hz : w.heap.size < w.heap.size + 1 + 1 := by omega
        go_wp2_with fail
        refine bodyPost_ret (v := .tuple #[.agg #[.int .u32 (valA ns), .int .i64 n], .int .i64 0]) (by simp [results, Tryd.results35, go_sem, hc2, hz]) rfl ⟨ret_t H.out, ?_⟩
        exact ((below_then (below2 _ _ _) h2).setCell (by simp) _).setCell (by simp) _
    · have H := Lib.hid (prV_none (show pr s.data.toList = none by rw [hpr, pn_run_short hsh]; rfl))
      have e3 : (((p : Int) + 1 + ((T.runD t).length : Nat)) == (s.size : Int)) = false := by rw [beq_eq_false_iff_ne]; omega
      have e4 : (((p : Int) + 1 + ((T.runD t).length : Nat)) != (s.size : Int)) = true := by rw [bne, e3]; rfl
      clear hq hpr N hrun
      go_enter Tryd.func35, Tryd.ntmps35
      go_wp2_with (first | (go_at_call 54; refine (A2.out _).mono ?_; rintro e w' ⟨rfl, rfl⟩) | (go_at_call 55; refine (N2.out _).mono ?_; rintro e w' ⟨rfl, rfl⟩))
      refine bodyPost_ret (v := .tuple #[.agg #[.int .u32 0, .int .i64 0], .int .i64 2]) (by simp [results, Tryd.results35, go_sem]) rfl ⟨ret_t H.out, ?_⟩
      exact below_alloc _ _
theorem rparse_any (s : ByteArray) (hs : s.size ≤ 140737488355328) (w : World) :
    Calls Tryd.prog 35 #[.string s] w fun e w' => e = .returned (prV (pr s.data.toList)) ∧ Below w.heap.size w w' := by
  cases hr : T.refN 4 true s.data.toList with
  | none => exact rparse_none s hs w hr
  | some x =>
    obtain ⟨ns, rest⟩ := x
    cases rest with
    | nil => exact rparse_end s hs w ns hr
    | cons c t =>
      by_cases hc : c = 47
      · subst hc; exact rparse_slash s hs w ns t hr
      · exact rparse_other s hs w ns c t hr hc
end Go.Proofs.YtiiojkekcnmddaaDoor
