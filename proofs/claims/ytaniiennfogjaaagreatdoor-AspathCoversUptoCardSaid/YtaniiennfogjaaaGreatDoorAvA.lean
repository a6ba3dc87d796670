/-
  The reference's isConf, isSet; its segment as mathematics.
-/
import Derived.Test.YtaniiennfogjaaaGreatDoorAsC
import Derived.BigQuiet
namespace Go.Proofs.YtaniiennfogjaaaGreatDoor
open Go.RowKit P
set_option linter.unusedSimpArgs false
set_option linter.unusedVariables false
set_option maxHeartbeats 1500000
set_option maxRecDepth 100000
theorem conf51_same (k : Int) (w : World) : Calls Tryz.prog 51 #[.int .i64 k] w fun e w' => e = .returned (.bool (isConf k)) ∧ w' = w := by
  have H : Hid (isConf k = decide (k = 3 ∨ k = 4)) := rfl
  generalize isConf k = q at *
  by_cases h3 : k = 3
  · have H2 : Hid (q = true) := by show _ = _; rw [H.out]; exact decide_eq_true (.inl h3)
    clear H
    subst h3
    go_enter Tryz.func51, Tryz.ntmps51
    go_wp2
    go_ret
    exact ⟨by rw [H2.out] <;> rfl, rfl⟩
  · have e3 : (k == 3) = false := by simpa using h3
    by_cases h4 : k = 4
    · have H2 : Hid (q = true) := by show _ = _; rw [H.out]; exact decide_eq_true (.inr h4)
      clear H h3 e3
      subst h4
      go_enter Tryz.func51, Tryz.ntmps51
      go_wp2
      go_ret
      exact ⟨by rw [H2.out] <;> rfl, rfl⟩
    · have e4 : (k == 4) = false := by simpa using h4
      have H2 : Hid (q = false) := by show _ = _; rw [H.out]; exact decide_eq_false (by omega)
      clear H h3 h4
      go_enter Tryz.func51, Tryz.ntmps51
      go_wp2
      go_ret
      exact ⟨by rw [H2.out] <;> rfl, rfl⟩
theorem set61_same (k : Int) (w : World) : Calls Tryz.prog 61 #[.int .i64 k] w fun e w' => e = .returned (.bool (isSet k)) ∧ w' = w := by
  have H : Hid (isSet k = decide (k = 1 ∨ k = 4)) := rfl
  generalize isSet k = q at *
  by_cases h3 : k = 1
  · have H2 : Hid (q = true) := by show _ = _; rw [H.out]; exact decide_eq_true (.inl h3)
    clear H
    subst h3
    go_enter Tryz.func61, Tryz.ntmps61
    go_wp2
    go_ret
    exact ⟨by rw [H2.out] <;> rfl, rfl⟩
  · have e3 : (k == 1) = false := by simpa using h3
    by_cases h4 : k = 4
    · have H2 : Hid (q = true) := by show _ = _; rw [H.out]; exact decide_eq_true (.inr h4)
      clear H h3 e3
      subst h4
      go_enter Tryz.func61, Tryz.ntmps61
      go_wp2
      go_ret
      exact ⟨by rw [H2.out] <;> rfl, rfl⟩
    · have e4 : (k == 4) = false := by simpa using h4
      have H2 : Hid (q = false) := by show _ = _; rw [H.out]; exact decide_eq_false (by omega)
      clear H h3 h4
      go_enter Tryz.func61, Tryz.ntmps61
      go_wp2
      go_ret
      exact ⟨by rw [H2.out] <;> rfl, rfl⟩
namespace P
/-- the segment at a place, as the reference looks at it: at all that stands before -/
def tailB (p : List Sg) (i : Nat) (s : Sg) : Bool := match prevO p i with
  | some b => !isSet s.k && decide (b.k = s.k) && decide (b.as.length < 255)
  | none => false
def segR (p : List Sg) (i : Nat) (s : Sg) : Int :=
  if segE s ≠ 0 then segE s
  else if isConf s.k = true ∧ ∃ t ∈ p.take i, isConf t.k = false then 1
  else if tailB p i s = true then 1 else 0
theorem segR_err {p : List Sg} {i : Nat} {s : Sg} {e : Int} (h : segE s = e) (he : e ≠ 0) : segR p i s = e := by
  unfold segR; rw [if_pos (by rw [h]; exact he), h]
theorem segR_conf {p : List Sg} {i : Nat} {s : Sg} (h : segE s = 0) (hc : isConf s.k = true) {t : Sg} (ht : t ∈ p.take i) (hn : isConf t.k = false) : segR p i s = 1 := by
  unfold segR; rw [if_neg (by rw [h]; simp), if_pos ⟨hc, t, ht, hn⟩]
theorem segR_tail {p : List Sg} {i : Nat} {s : Sg} (h : segE s = 0) (hc : isConf s.k = true → ∀ t ∈ p.take i, isConf t.k = true) : segR p i s = if tailB p i s = true then 1 else 0 := by
  unfold segR
  rw [if_neg (by rw [h]; simp), if_neg]
  rintro ⟨h1, t, ht, hn⟩
  rw [hc h1 t ht] at hn; cases hn
theorem segE15 {s : Sg} (h : s.k < 1 ∨ 4 < s.k) : segE s = 15 := if_pos h
theorem segE1 {s : Sg} (h : ¬ (s.k < 1 ∨ 4 < s.k)) (h1 : s.as = []) : segE s = 1 := by unfold segE; rw [if_neg h, if_pos h1]
theorem segE4 {s : Sg} (h : ¬ (s.k < 1 ∨ 4 < s.k)) (h1 : s.as ≠ []) (h2 : 255 < s.as.length) : segE s = 4 := by unfold segE; rw [if_neg h, if_neg h1, if_pos h2]
theorem segE5 {s : Sg} (h : ¬ (s.k < 1 ∨ 4 < s.k)) (h1 : s.as ≠ []) (h2 : ¬ 255 < s.as.length) {j : Nat} {x : Int} (hx : s.as[j]? = some x) (hn : isNum x = false) : segE s = 5 := by
  unfold segE; rw [if_neg h, if_neg h1, if_neg h2, if_pos (List.any_eq_true.2 ⟨x, List.mem_of_getElem? hx, by rw [hn]; rfl⟩)]
theorem segE16 {s : Sg} (h : ¬ (s.k < 1 ∨ 4 < s.k)) (h1 : s.as ≠ []) (h2 : ¬ 255 < s.as.length) (h3 : ∀ (j : Nat) (x : Int), s.as[j]? = some x → isNum x = true) (h4 : isSet s.k = true) {j : Nat} {x y : Int} (hx : s.as[j]? = some x) (hy : s.as[j + 1]? = some y) (hxy : y ≤ x) : segE s = 16 := by
  have ha : s.as.any (fun x => !isNum x) = false := by
    rw [Bool.eq_false_iff]; intro hc
    obtain ⟨z, hz, hzn⟩ := List.any_eq_true.1 hc
    obtain ⟨m, hm⟩ := List.getElem?_of_mem hz
    rw [h3 m z hm] at hzn; cases hzn
  have hb : asc s.as = false := by
    rw [Bool.eq_false_iff]; intro hc
    have := asc_iff.1 hc j x y hx hy; omega
  unfold segE; rw [if_neg h, if_neg h1, if_neg h2, ha, if_neg (by simp), h4, hb]; rfl
theorem segE0 {s : Sg} (h : ¬ (s.k < 1 ∨ 4 < s.k)) (h1 : s.as ≠ []) (h2 : ¬ 255 < s.as.length) (h3 : ∀ (j : Nat) (x : Int), s.as[j]? = some x → isNum x = true) (h4 : isSet s.k = true → ∀ (j : Nat) (x y : Int), s.as[j]? = some x → s.as[j + 1]? = some y → x < y) : segE s = 0 := by
  have ha : s.as.any (fun x => !isNum x) = false := by
    rw [Bool.eq_false_iff]; intro hc
    obtain ⟨z, hz, hzn⟩ := List.any_eq_true.1 hc
    obtain ⟨m, hm⟩ := List.getElem?_of_mem hz
    rw [h3 m z hm] at hzn; cases hzn
  unfold segE; rw [if_neg h, if_neg h1, if_neg h2, ha, if_neg (by simp), if_neg]
  intro hc
  rw [Bool.and_eq_true] at hc
  rw [asc_iff.2 (h4 hc.1)] at hc
  simp at hc
theorem segE0_parts {s : Sg} (h : segE s = 0) : (1 ≤ s.k ∧ s.k ≤ 4) ∧ s.as.length ≤ 255 := by
  unfold segE at h
  split at h
  · cases h
  · split at h
    · cases h
    · split at h
      · cases h
      · omega
/-- what holds of what stands before a place that the walk of Check reaches -/
structure Bef (p : List Sg) (k : Nat) : Prop where
  ok : ∀ j b, j < k → p[j]? = some b → segE b = 0
  conf : ∀ b, prevO p k = some b → isConf b.k = true → ∀ t ∈ p.take k, isConf t.k = true
theorem Bef.start (p : List Sg) : Bef p 0 := ⟨fun j b h => by omega, fun b h => by cases h⟩
theorem conf_or (k : Int) (h : 1 ≤ k ∧ k ≤ 4) : isSeq k = !isSet k := by
  unfold isSeq isSet
  have : k = 1 ∨ k = 2 ∨ k = 3 ∨ k = 4 := by omega
  rcases this with rfl | rfl | rfl | rfl <;> decide
theorem Bef.step {p : List Sg} {k : Nat} {s : Sg} (hB : Bef p k) (hs : p[k]? = some s) :
    scan (prevO p k) (p.drop k) = (if segR p k s ≠ 0 then segR p k s else scan (prevO p (k + 1)) (p.drop (k + 1))) ∧ (segR p k s = 0 → Bef p (k + 1)) := by
  rw [scan_drop hs, prevO_succ hs]
  have htk : p.take (k + 1) = p.take k ++ [s] := by rw [List.take_add_one, hs]; rfl
  by_cases he : segE s = 0
  · rw [if_neg (by rw [he]; simp)]
    cases hp : prevO p k with
    | none =>
      have hk0 : k = 0 := by
        cases k with
        | zero => rfl
        | succ k =>
          have hp' : p[k]? = none := hp
          rw [List.getElem?_eq_none_iff] at hp'
          have := (List.getElem?_eq_some_iff.1 hs).1
          omega
      subst hk0
      have hr : segR p 0 s = 0 := by
        rw [segR_tail he (fun _ t ht => by simp at ht)]
        have : tailB p 0 s = false := rfl
        rw [this, if_neg (by simp)]
      refine ⟨by rw [hr, if_neg (by simp)], fun _ => ⟨fun j b hj hb => ?_, fun b hb hc t ht => ?_⟩⟩
      · obtain rfl : j = 0 := by omega
        rw [hs] at hb; cases hb; exact he
      · have hb' : p[0]? = some b := hb
        rw [hs] at hb'; cases hb'
        rw [htk] at ht
        simp at ht; subst ht; exact hc
    | some b =>
      obtain ⟨k, rfl⟩ : ∃ m, k = m + 1 := by
        cases k with
        | zero => cases hp
        | succ k => exact ⟨k, rfl⟩
      have hb : p[k]? = some b := hp
      have hbo := segE0_parts (hB.ok k b (by omega) hb)
      have hbm : b ∈ p.take (k + 1) := by
        rw [List.take_add_one, hb]; simp
      have hT : tailB p (k + 1) s = (!isSet s.k && decide (b.k = s.k) && decide (b.as.length < 255)) := by unfold tailB; rw [hp]
      have hsq := conf_or s.k (segE0_parts he).1
      have h255 : decide (b.as.length = 255) = !decide (b.as.length < 255) := by
        by_cases h : b.as.length < 255
        · rw [decide_eq_true h, decide_eq_false (by omega)]; rfl
        · rw [decide_eq_false h, decide_eq_true (by omega)]; rfl
      have hM : mayF s b = (!(isConf s.k && !isConf b.k) && !tailB p (k + 1) s) := by
        unfold mayF
        rw [hT, hsq, h255]
        cases isConf s.k <;> cases isConf b.k <;> cases isSet s.k <;> cases decide (b.k = s.k) <;> cases decide (b.as.length < 255) <;> rfl
      show (if mayF s b = false then 1 else scan (some s) (p.drop (k + 1 + 1))) = _ ∧ _
      by_cases hc1 : isConf s.k = true ∧ isConf b.k = false
      · rw [segR_conf he hc1.1 hbm hc1.2, hM, hc1.1, hc1.2]
        exact ⟨rfl, fun h => by cases h⟩
      · have hcb : isConf s.k = true → isConf b.k = true := fun h => by
          cases hbc : isConf b.k with
          | true => rfl
          | false => exact absurd ⟨h, hbc⟩ hc1
        have hall : isConf s.k = true → ∀ t ∈ p.take (k + 1), isConf t.k = true := fun h => hB.conf b hp (hcb h)
        have hM2 : mayF s b = !tailB p (k + 1) s := by
          rw [hM]
          cases h1 : isConf s.k with
          | false => rfl
          | true => rw [hcb h1]; rfl
        rw [segR_tail he hall, hM2]
        cases hq : tailB p (k + 1) s with
        | true => exact ⟨rfl, fun h => by cases h⟩
        | false =>
          refine ⟨rfl, fun _ => ⟨fun j y hj hy => ?_, fun y hy hc t ht => ?_⟩⟩
          · by_cases e : j = k + 1
            · subst e; rw [hs] at hy; cases hy; exact he
            · exact hB.ok j y (by omega) hy
          · have hy' : p[k + 1]? = some y := hy
            rw [hs] at hy'; cases hy'
            rw [htk] at ht
            rcases List.mem_append.1 ht with h | h
            · exact hall hc t h
            · simp at h; subst h; exact hc
  · rw [if_pos he, segR_err rfl he]
    exact ⟨by rw [if_pos he], fun h => absurd h he⟩
end P
end Go.Proofs.YtaniiennfogjaaaGreatDoor
