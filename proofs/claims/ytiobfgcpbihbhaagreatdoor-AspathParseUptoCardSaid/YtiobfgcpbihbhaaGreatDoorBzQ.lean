/-
  AvA AyA AyB BaM BbM BcM AwA AwB AwC AzA BcA BcB in one text.
-/
import Derived.Test.YtiobfgcpbihbhaaGreatDoorAsC
import Derived.BigQuiet
import Derived.Test.YtiobfgcpbihbhaaGreatDoorAtN
import Derived.Test.YtiobfgcpbihbhaaGreatDoorAsL
import Derived.Test.YtiobfgcpbihbhaaGreatDoorAtG
import Derived.Test.YtiobfgcpbihbhaaGreatDoorAsS
import Derived.Test.YtiobfgcpbihbhaaGreatDoorAtT
import Derived.Test.YtiobfgcpbihbhaaGreatDoorAuA
import Derived.Test.YtiobfgcpbihbhaaGreatDoorAsF
import Derived.Test.YtiobfgcpbihbhaaGreatDoorAsG
import Derived.Test.YtiobfgcpbihbhaaGreatDoorAsH
import Derived.Test.YtiobfgcpbihbhaaGreatDoorAsR
import Derived.Deep.AppendLies
import Derived.Deep.RegionLaw
import Derived.Test.YtiobfgcpbihbhaaGreatDoorAtA
import Derived.Test.YtiobfgcpbihbhaaGreatDoorAtL
namespace Go.Proofs.YtiobfgcpbihbhaaGreatDoor
section
open Go.RowKit P
set_option linter.unusedSimpArgs false
set_option linter.unusedVariables false
set_option maxHeartbeats 1500000
set_option maxRecDepth 100000
theorem conf51_same (k : Int) (w : World) : Calls Tryz.prog 51 #[.int .i64 k] w fun e w' => e = .returned (.bool (isConf k)) ∧ w' = w := by
  have H : Hid (isConf k = decide (k = 3 ∨ k = 4)) := rfl
  generalize isConf k = q at *
  by_cases h3 : k = 3
  · have H2 : Hid (q = true) := by show _ = _; rw [H.out]; exact decide_eq_true (.inl h3)
    clear H
    subst h3
    go_enter Tryz.func51, Tryz.ntmps51
    go_wp2
    go_ret
    exact ⟨by rw [H2.out] <;> rfl, rfl⟩
  · have e3 : (k == 3) = false := by simpa using h3
    by_cases h4 : k = 4
    · have H2 : Hid (q = true) := by show _ = _; rw [H.out]; exact decide_eq_true (.inr h4)
      clear H h3 e3
      subst h4
      go_enter Tryz.func51, Tryz.ntmps51
      go_wp2
      go_ret
      exact ⟨by rw [H2.out] <;> rfl, rfl⟩
    · have e4 : (k == 4) = false := by simpa using h4
      have H2 : Hid (q = false) := by show _ = _; rw [H.out]; exact decide_eq_false (by omega)
      clear H h3 h4
      go_enter Tryz.func51, Tryz.ntmps51
      go_wp2
      go_ret
      exact ⟨by rw [H2.out] <;> rfl, rfl⟩
theorem set61_same (k : Int) (w : World) : Calls Tryz.prog 61 #[.int .i64 k] w fun e w' => e = .returned (.bool (isSet k)) ∧ w' = w := by
  have H : Hid (isSet k = decide (k = 1 ∨ k = 4)) := rfl
  generalize isSet k = q at *
  by_cases h3 : k = 1
  · have H2 : Hid (q = true) := by show _ = _; rw [H.out]; exact decide_eq_true (.inl h3)
    clear H
    subst h3
    go_enter Tryz.func61, Tryz.ntmps61
    go_wp2
    go_ret
    exact ⟨by rw [H2.out] <;> rfl, rfl⟩
  · have e3 : (k == 1) = false := by simpa using h3
    by_cases h4 : k = 4
    · have H2 : Hid (q = true) := by show _ = _; rw [H.out]; exact decide_eq_true (.inr h4)
      clear H h3 e3
      subst h4
      go_enter Tryz.func61, Tryz.ntmps61
      go_wp2
      go_ret
      exact ⟨by rw [H2.out] <;> rfl, rfl⟩
    · have e4 : (k == 4) = false := by simpa using h4
      have H2 : Hid (q = false) := by show _ = _; rw [H.out]; exact decide_eq_false (by omega)
      clear H h3 h4
      go_enter Tryz.func61, Tryz.ntmps61
      go_wp2
      go_ret
      exact ⟨by rw [H2.out] <;> rfl, rfl⟩
namespace P
/-- the segment at a place, as the reference looks at it: at all that stands before -/
def tailB (p : List Sg) (i : Nat) (s : Sg) : Bool := match prevO p i with
  | some b => !isSet s.k && decide (b.k = s.k) && decide (b.as.length < 255)
  | none => false
def segR (p : List Sg) (i : Nat) (s : Sg) : Int :=
  if segE s ≠ 0 then segE s
  else if isConf s.k = true ∧ ∃ t ∈ p.take i, isConf t.k = false then 1
  else if tailB p i s = true then 1 else 0
theorem segR_err {p : List Sg} {i : Nat} {s : Sg} {e : Int} (h : segE s = e) (he : e ≠ 0) : segR p i s = e := by
  unfold segR; rw [if_pos (by rw [h]; exact he), h]
theorem segR_conf {p : List Sg} {i : Nat} {s : Sg} (h : segE s = 0) (hc : isConf s.k = true) {t : Sg} (ht : t ∈ p.take i) (hn : isConf t.k = false) : segR p i s = 1 := by
  unfold segR; rw [if_neg (by rw [h]; simp), if_pos ⟨hc, t, ht, hn⟩]
theorem segR_tail {p : List Sg} {i : Nat} {s : Sg} (h : segE s = 0) (hc : isConf s.k = true → ∀ t ∈ p.take i, isConf t.k = true) : segR p i s = if tailB p i s = true then 1 else 0 := by
  unfold segR
  rw [if_neg (by rw [h]; simp), if_neg]
  rintro ⟨h1, t, ht, hn⟩
  rw [hc h1 t ht] at hn; cases hn
theorem segE15 {s : Sg} (h : s.k < 1 ∨ 4 < s.k) : segE s = 15 := if_pos h
theorem segE1 {s : Sg} (h : ¬ (s.k < 1 ∨ 4 < s.k)) (h1 : s.as = []) : segE s = 1 := by unfold segE; rw [if_neg h, if_pos h1]
theorem segE4 {s : Sg} (h : ¬ (s.k < 1 ∨ 4 < s.k)) (h1 : s.as ≠ []) (h2 : 255 < s.as.length) : segE s = 4 := by unfold segE; rw [if_neg h, if_neg h1, if_pos h2]
theorem segE5 {s : Sg} (h : ¬ (s.k < 1 ∨ 4 < s.k)) (h1 : s.as ≠ []) (h2 : ¬ 255 < s.as.length) {j : Nat} {x : Int} (hx : s.as[j]? = some x) (hn : isNum x = false) : segE s = 5 := by
  unfold segE; rw [if_neg h, if_neg h1, if_neg h2, if_pos (List.any_eq_true.2 ⟨x, List.mem_of_getElem? hx, by rw [hn]; rfl⟩)]
theorem segE16 {s : Sg} (h : ¬ (s.k < 1 ∨ 4 < s.k)) (h1 : s.as ≠ []) (h2 : ¬ 255 < s.as.length) (h3 : ∀ (j : Nat) (x : Int), s.as[j]? = some x → isNum x = true) (h4 : isSet s.k = true) {j : Nat} {x y : Int} (hx : s.as[j]? = some x) (hy : s.as[j + 1]? = some y) (hxy : y ≤ x) : segE s = 16 := by
  have ha : s.as.any (fun x => !isNum x) = false := by
    rw [Bool.eq_false_iff]; intro hc
    obtain ⟨z, hz, hzn⟩ := List.any_eq_true.1 hc
    obtain ⟨m, hm⟩ := List.getElem?_of_mem hz
    rw [h3 m z hm] at hzn; cases hzn
  have hb : asc s.as = false := by
    rw [Bool.eq_false_iff]; intro hc
    have := asc_iff.1 hc j x y hx hy; omega
  unfold segE; rw [if_neg h, if_neg h1, if_neg h2, ha, if_neg (by simp), h4, hb]; rfl
theorem segE0 {s : Sg} (h : ¬ (s.k < 1 ∨ 4 < s.k)) (h1 : s.as ≠ []) (h2 : ¬ 255 < s.as.length) (h3 : ∀ (j : Nat) (x : Int), s.as[j]? = some x → isNum x = true) (h4 : isSet s.k = true → ∀ (j : Nat) (x y : Int), s.as[j]? = some x → s.as[j + 1]? = some y → x < y) : segE s = 0 := by
  have ha : s.as.any (fun x => !isNum x) = false := by
    rw [Bool.eq_false_iff]; intro hc
    obtain ⟨z, hz, hzn⟩ := List.any_eq_true.1 hc
    obtain ⟨m, hm⟩ := List.getElem?_of_mem hz
    rw [h3 m z hm] at hzn; cases hzn
  unfold segE; rw [if_neg h, if_neg h1, if_neg h2, ha, if_neg (by simp), if_neg]
  intro hc
  rw [Bool.and_eq_true] at hc
  rw [asc_iff.2 (h4 hc.1)] at hc
  simp at hc
theorem segE0_parts {s : Sg} (h : segE s = 0) : (1 ≤ s.k ∧ s.k ≤ 4) ∧ s.as.length ≤ 255 := by
  unfold segE at h
  split at h
  · cases h
  · split at h
    · cases h
    · split at h
      · cases h
      · omega
/-- what holds of what stands before a place that the walk of Check reaches -/
structure Bef (p : List Sg) (k : Nat) : Prop where
  ok : ∀ j b, j < k → p[j]? = some b → segE b = 0
  conf : ∀ b, prevO p k = some b → isConf b.k = true → ∀ t ∈ p.take k, isConf t.k = true
theorem Bef.start (p : List Sg) : Bef p 0 := ⟨fun j b h => by omega, fun b h => by cases h⟩
theorem conf_or (k : Int) (h : 1 ≤ k ∧ k ≤ 4) : isSeq k = !isSet k := by
  unfold isSeq isSet
  have : k = 1 ∨ k = 2 ∨ k = 3 ∨ k = 4 := by omega
  rcases this with rfl | rfl | rfl | rfl <;> decide
theorem Bef.step {p : List Sg} {k : Nat} {s : Sg} (hB : Bef p k) (hs : p[k]? = some s) :
    scan (prevO p k) (p.drop k) = (if segR p k s ≠ 0 then segR p k s else scan (prevO p (k + 1)) (p.drop (k + 1))) ∧ (segR p k s = 0 → Bef p (k + 1)) := by
  rw [scan_drop hs, prevO_succ hs]
  have htk : p.take (k + 1) = p.take k ++ [s] := by rw [List.take_add_one, hs]; rfl
  by_cases he : segE s = 0
  · rw [if_neg (by rw [he]; simp)]
    cases hp : prevO p k with
    | none =>
      have hk0 : k = 0 := by
        cases k with
        | zero => rfl
        | succ k =>
          have hp' : p[k]? = none := hp
          rw [List.getElem?_eq_none_iff] at hp'
          have := (List.getElem?_eq_some_iff.1 hs).1
          omega
      subst hk0
      have hr : segR p 0 s = 0 := by
        rw [segR_tail he (fun _ t ht => by simp at ht)]
        have : tailB p 0 s = false := rfl
        rw [this, if_neg (by simp)]
      refine ⟨by rw [hr, if_neg (by simp)], fun _ => ⟨fun j b hj hb => ?_, fun b hb hc t ht => ?_⟩⟩
      · obtain rfl : j = 0 := by omega
        rw [hs] at hb; cases hb; exact he
      · have hb' : p[0]? = some b := hb
        rw [hs] at hb'; cases hb'
        rw [htk] at ht
        simp at ht; subst ht; exact hc
    | some b =>
      obtain ⟨k, rfl⟩ : ∃ m, k = m + 1 := by
        cases k with
        | zero => cases hp
        | succ k => exact ⟨k, rfl⟩
      have hb : p[k]? = some b := hp
      have hbo := segE0_parts (hB.ok k b (by omega) hb)
      have hbm : b ∈ p.take (k + 1) := by
        rw [List.take_add_one, hb]; simp
      have hT : tailB p (k + 1) s = (!isSet s.k && decide (b.k = s.k) && decide (b.as.length < 255)) := by unfold tailB; rw [hp]
      have hsq := conf_or s.k (segE0_parts he).1
      have h255 : decide (b.as.length = 255) = !decide (b.as.length < 255) := by
        by_cases h : b.as.length < 255
        · rw [decide_eq_true h, decide_eq_false (by omega)]; rfl
        · rw [decide_eq_false h, decide_eq_true (by omega)]; rfl
      have hM : mayF s b = (!(isConf s.k && !isConf b.k) && !tailB p (k + 1) s) := by
        unfold mayF
        rw [hT, hsq, h255]
        cases isConf s.k <;> cases isConf b.k <;> cases isSet s.k <;> cases decide (b.k = s.k) <;> cases decide (b.as.length < 255) <;> rfl
      show (if mayF s b = false then 1 else scan (some s) (p.drop (k + 1 + 1))) = _ ∧ _
      by_cases hc1 : isConf s.k = true ∧ isConf b.k = false
      · rw [segR_conf he hc1.1 hbm hc1.2, hM, hc1.1, hc1.2]
        exact ⟨rfl, fun h => by cases h⟩
      · have hcb : isConf s.k = true → isConf b.k = true := fun h => by
          cases hbc : isConf b.k with
          | true => rfl
          | false => exact absurd ⟨h, hbc⟩ hc1
        have hall : isConf s.k = true → ∀ t ∈ p.take (k + 1), isConf t.k = true := fun h => hB.conf b hp (hcb h)
        have hM2 : mayF s b = !tailB p (k + 1) s := by
          rw [hM]
          cases h1 : isConf s.k with
          | false => rfl
          | true => rw [hcb h1]; rfl
        rw [segR_tail he hall, hM2]
        cases hq : tailB p (k + 1) s with
        | true => exact ⟨rfl, fun h => by cases h⟩
        | false =>
          refine ⟨rfl, fun _ => ⟨fun j y hj hy => ?_, fun y hy hc t ht => ?_⟩⟩
          · by_cases e : j = k + 1
            · subst e; rw [hs] at hy; cases hy; exact he
            · exact hB.ok j y (by omega) hy
          · have hy' : p[k + 1]? = some y := hy
            rw [hs] at hy'; cases hy'
            rw [htk] at ht
            rcases List.mem_append.1 ht with h | h
            · exact hall hc t h
            · simp at h; subst h; exact hc
  · rw [if_pos he, segR_err rfl he]
    exact ⟨by rw [if_pos he], fun h => absurd h he⟩
end P
end
end Go.Proofs.YtiobfgcpbihbhaaGreatDoor
namespace Go.Proofs.YtiobfgcpbihbhaaGreatDoor
section
open Go.RowKit P
namespace P
theorem cpre_comm : ∀ (a b : List Int), cpre a b = cpre b a
  | [], b => by cases b <;> simp [cpre]
  | x :: a, [] => by simp [cpre]
  | x :: a, y :: b => by
    by_cases h : x = y
    · subst h; simp [cpre, cpre_comm a b]
    · have h' : ¬ y = x := fun e => h e.symm
      simp [cpre, h, h']
theorem both_comm (a b : List Sg) : both a b = both b a := cpre_comm _ _
theorem restM_comm (a b : List Sg) (x : Int) : x ∈ restM a b ↔ x ∈ restM b a := by
  unfold restM
  rw [both_comm a b, List.mem_append, List.mem_append, Or.comm]
theorem outM_comm (a b : List Sg) (s : List Int) : outM a b s = outM b a s := by unfold outM; rw [both_comm]
theorem MrgR.comm {a b r : List Sg} {e : Int} (h1 : chk a = 0) (h2 : chk b = 0) (h : MrgR a b r e) : MrgR b a r e := by
  unfold MrgR at h ⊢
  rw [if_neg (by simp [h1]), if_neg (by simp [h2])] at h
  rw [if_neg (by simp [h2]), if_neg (by simp [h1])]
  obtain ⟨s, hs, k⟩ := h
  refine ⟨s, ⟨hs.1, fun x => (hs.2 x).trans (restM_comm a b x)⟩, ?_⟩
  rw [← outM_comm a b s]; exact k
theorem seqs_flat (k : Int) : ∀ (n : Nat) (l : List Int), l.length = n → flat (seqs k l) = l := by
  intro n
  induction n using Nat.strongRecOn with
  | _ n ih =>
    intro l hl
    by_cases h : l = []
    · subst h; rw [seqs_nil]; rfl
    · have hp := List.length_pos_iff.2 h
      rw [seqs_cons k h, flat_cons, ih (l.drop 255).length (by rw [List.length_drop]; omega) (l.drop 255) rfl, List.take_append_drop]
theorem outM_flat (a b : List Sg) (s : List Int) : flat (outM a b s) = both a b ++ s := by
  unfold outM
  rw [flat_app, seqs_flat 2 _ _ rfl]
  by_cases h : s = []
  · rw [if_pos h, h]; rfl
  · rw [if_neg h]; simp [flat]
theorem cpre_prefix : ∀ (a b : List Int), cpre a b = a.take (cpre a b).length
  | [], b => by cases b <;> simp [cpre]
  | x :: a, [] => by simp [cpre]
  | x :: a, y :: b => by
    by_cases h : x = y
    · subst h; simp only [cpre, if_true, List.length_cons, List.take_succ_cons]; rw [← cpre_prefix a b]
    · simp [cpre, h]
theorem lead_prefix (p : List Sg) : ∃ t, flat p = lead p ++ t := by
  unfold lead
  refine ⟨flat (p.dropWhile fun s : Sg => decide (2 = s.k)), ?_⟩
  conv => lhs; rw [← List.takeWhile_append_dropWhile (p := fun s : Sg => decide (2 = s.k)) (l := p), flat_app]
theorem both_take (a b : List Sg) : (flat (strip a)).take (both a b).length = both a b := by
  obtain ⟨t, ht⟩ := lead_prefix (strip a)
  have h := cpre_prefix (lead (strip a)) (lead (strip b))
  have hl : (both a b).length ≤ (lead (strip a)).length := (cpre_le (lead (strip a)) (lead (strip b))).1
  rw [ht, List.take_append_of_le_length hl]
  exact h.symm
/-- a number stands in a merged path when it stands in one of the two, stripped -/
theorem outM_mem {a b : List Sg} {s : List Int} (hs : IsS (restM a b) s) (x : Int) : x ∈ flat (outM a b s) ↔ x ∈ flat (strip a) ∨ x ∈ flat (strip b) := by
  rw [outM_flat, List.mem_append, hs.2 x]
  unfold restM
  rw [List.mem_append]
  have ha : x ∈ flat (strip a) ↔ x ∈ both a b ∨ x ∈ (flat (strip a)).drop (both a b).length := by
    conv => lhs; rw [← List.take_append_drop (both a b).length (flat (strip a)), both_take, List.mem_append]
  have hb : x ∈ flat (strip b) ↔ x ∈ both a b ∨ x ∈ (flat (strip b)).drop (both a b).length := by
    conv => lhs; rw [← List.take_append_drop (both a b).length (flat (strip b)), both_comm a b, both_take b a, List.mem_append]
    rw [both_comm b a]
  rw [ha, hb]
  constructor
  · rintro (h | h | h)
    · exact .inl (.inl h)
    · exact .inl (.inr h)
    · exact .inr (.inr h)
  · rintro ((h | h) | (h | h))
    · exact .inl h
    · exact .inr (.inl h)
    · exact .inl h
    · exact .inr (.inr h)
end P
end
end Go.Proofs.YtiobfgcpbihbhaaGreatDoor
namespace Go.Proofs.YtiobfgcpbihbhaaGreatDoor
section
open Go.RowKit P
namespace P
theorem segE_seq {k : Int} {l : List Int} (hk : k = 2 ∨ k = 3) (h1 : l ≠ []) (h2 : l.length ≤ 255) (h3 : ∀ x ∈ l, isNum x = true) : segE ⟨k, l⟩ = 0 :=
  segE0 (s := ⟨k, l⟩) (by show ¬ (k < 1 ∨ 4 < k); omega) h1 (by show ¬ 255 < l.length; omega) (fun j x hx => h3 x (List.mem_of_getElem? hx)) (fun h => by
    exfalso
    have h' : isSet k = true := h
    unfold isSet at h'
    rw [decide_eq_true_eq] at h'
    omega)
theorem mayF_same {s y : Sg} (hk : y.k = s.k) (hl : y.as.length = 255) : mayF s y = true := by
  unfold mayF
  rw [hk, hl]
  cases isConf s.k <;> cases isSeq s.k <;> simp
/-- the check goes through sequences of one kind and on from the last -/
theorem scan_seqs {k : Int} (hk : k = 2 ∨ k = 3) : ∀ (n : Nat) (l : List Int), l.length = n → (∀ x ∈ l, isNum x = true) → ∀ (b : Option Sg), (∀ y, b = some y → y.k = k ∧ y.as.length = 255) → ∀ rest, ∃ b', scan b (seqs k l ++ rest) = scan b' rest ∧ (∀ y, b' = some y → y.k = k) ∧ (b' = none → l = []) := by
  intro n
  induction n using Nat.strongRecOn with
  | _ n ih =>
    intro l hl hn b hb rest
    by_cases h : l = []
    · subst h
      exact ⟨b, by rw [seqs_nil]; rfl, fun y hy => (hb y hy).1, fun _ => rfl⟩
    · have hp := List.length_pos_iff.2 h
      have hE : segE ⟨k, l.take 255⟩ = 0 := segE_seq hk (by
        intro e
        have h3 := congrArg List.length e
        rw [List.length_take, List.length_nil] at h3; omega) (by rw [List.length_take]; omega) (fun x hx => hn x (List.mem_of_mem_take hx))
      have hs : scan b (seqs k l ++ rest) = scan (some ⟨k, l.take 255⟩) (seqs k (l.drop 255) ++ rest) := by
        rw [seqs_cons k h, List.cons_append]
        cases b with
        | none =>
          show (if segE ⟨k, l.take 255⟩ ≠ 0 then segE ⟨k, l.take 255⟩ else scan (some ⟨k, l.take 255⟩) (seqs k (l.drop 255) ++ rest)) = _
          rw [if_neg (by rw [hE]; simp)]
        | some y =>
          obtain ⟨h1, h2⟩ := hb y rfl
          rw [scan, if_neg (by rw [hE]; simp), if_neg (by rw [mayF_same (s := ⟨k, l.take 255⟩) h1 h2]; simp)]
      by_cases hd : l.drop 255 = []
      · rw [hs, hd, seqs_nil]
        exact ⟨some ⟨k, l.take 255⟩, rfl, fun y hy => by cases hy; rfl, fun e => by cases e⟩
      · have h255 : 255 < l.length := by
          have := List.length_pos_iff.2 hd
          rw [List.length_drop] at this; omega
        obtain ⟨b', e1, e2, e3⟩ := ih (l.drop 255).length (by rw [List.length_drop]; omega) (l.drop 255) rfl (fun x hx => hn x (List.mem_of_mem_drop hx)) (some ⟨k, l.take 255⟩) (fun y hy => by cases hy; exact ⟨rfl, by show (l.take 255).length = 255; rw [List.length_take]; omega⟩) rest
        exact ⟨b', hs.trans e1, e2, fun e => absurd (e3 e) hd⟩
theorem strip_num {a : List Sg} (h : chk a = 0) : ∀ x ∈ flat (strip a), isNum x = true := fun x hx => by
  unfold flat at hx
  rw [List.mem_flatten] at hx
  obtain ⟨l, hl, hxl⟩ := hx
  obtain ⟨s, hs, rfl⟩ := List.mem_map.1 hl
  have hsp : s ∈ a := (List.mem_filter.1 hs).1
  have := (segE_ok ((chk_ok h).2 s hsp)).2.2.2.1 x hxl
  unfold isNum; exact decide_eq_true this
theorem chk_outM {a b : List Sg} (h1 : chk a = 0) (h2 : chk b = 0) {s : List Int} (hs : IsS (restM a b) s) (hl : s.length ≤ 255) (hl2 : (outM a b s).length ≤ 64) : chk (outM a b s) = 0 := by
  have hnum : ∀ x ∈ flat (outM a b s), isNum x = true := fun x hx => by
    rcases (outM_mem hs x).1 hx with h | h
    · exact strip_num h1 x h
    · exact strip_num h2 x h
  rw [outM_flat] at hnum
  unfold chk
  rw [if_neg (show ¬ 64 < (outM a b s).length by omega)]
  unfold outM
  obtain ⟨b', e1, e2, _⟩ := scan_seqs (.inl rfl) _ (both a b) rfl (fun x hx => hnum x (List.mem_append_left _ hx)) none (fun y hy => by cases hy) (if s = [] then [] else [⟨1, s⟩])
  rw [e1]
  by_cases h : s = []
  · rw [if_pos h]
    cases b' <;> rfl
  · rw [if_neg h]
    have hE : segE ⟨1, s⟩ = 0 := segE0 (s := ⟨1, s⟩) (by show ¬ ((1 : Int) < 1 ∨ 4 < (1 : Int)); omega) h (by show ¬ 255 < s.length; omega) (fun j x hx => hnum x (List.mem_append_right _ (List.mem_of_getElem? hx))) (fun _ j x y hx hy => by
      obtain ⟨i1, g1⟩ := List.getElem?_eq_some_iff.1 hx
      obtain ⟨i2, g2⟩ := List.getElem?_eq_some_iff.1 hy
      have i1' : j < s.length := i1
      have i2' : j + 1 < s.length := i2
      have g1' : s[j] = x := g1
      have g2' : s[j + 1] = y := g2
      have := List.pairwise_iff_getElem.1 hs.1 j (j + 1) i1' i2' (by omega)
      rw [g1', g2'] at this
      exact this)
    cases b' with
    | none => rw [scan, if_neg (by rw [hE]; simp)]; rfl
    | some y =>
      rw [scan, if_neg (by rw [hE]; simp), if_neg (by
        have : mayF ⟨1, s⟩ y = true := rfl
        rw [this]; simp)]
      rfl
end P
end
end Go.Proofs.YtiobfgcpbihbhaaGreatDoor
namespace Go.Proofs.YtiobfgcpbihbhaaGreatDoor
section
open Go.RowKit P
namespace P
theorem len_app (p q : List Sg) : len (p ++ q) = len p + len q := by simp [len]
theorem len_cons (s : Sg) (p : List Sg) : len (s :: p) = len1 s + len p := by simp [len]
theorem len_seqs2 : ∀ (n : Nat) (l : List Int), l.length = n → len (seqs 2 l) = l.length := by
  intro n
  induction n using Nat.strongRecOn with
  | _ n ih =>
    intro l hl
    by_cases h : l = []
    · subst h; rw [seqs_nil]; rfl
    · have hp := List.length_pos_iff.2 h
      have h1 := ih (l.drop 255).length (by rw [List.length_drop]; omega) (l.drop 255) rfl
      have h2 : len1 ⟨2, l.take 255⟩ = (l.take 255).length := if_pos rfl
      rw [seqs_cons 2 h, len_cons, h1, h2, List.length_take, List.length_drop]
      omega
theorem len_seqs3 : ∀ (n : Nat) (l : List Int), l.length = n → len (seqs 3 l) = 0 := by
  intro n
  induction n using Nat.strongRecOn with
  | _ n ih =>
    intro l hl
    by_cases h : l = []
    · subst h; rw [seqs_nil]; rfl
    · have hp := List.length_pos_iff.2 h
      have h1 := ih (l.drop 255).length (by rw [List.length_drop]; omega) (l.drop 255) rfl
      have h2 : len1 ⟨3, l.take 255⟩ = 0 := rfl
      rw [seqs_cons 3 h, len_cons, h1, h2]
theorem len_all2 : ∀ (p : List Sg), (∀ s ∈ p, s.k = 2) → len p = (flat p).length
  | [], _ => rfl
  | s :: p, h => by
    have h2 : len1 s = s.as.length := if_pos (h s (List.mem_cons_self ..))
    rw [len_cons, flat_cons, List.length_append, h2, len_all2 p fun t ht => h t (List.mem_cons_of_mem _ ht)]
theorem len_all3 : ∀ (p : List Sg), (∀ s ∈ p, s.k = 3) → len p = 0
  | [], _ => rfl
  | s :: p, h => by
    have h0 := h s (List.mem_cons_self ..)
    have h2 : len1 s = 0 := by unfold len1; rw [h0]; rfl
    rw [len_cons, h2, len_all3 p fun t ht => h t (List.mem_cons_of_mem _ ht)]
theorem take_kind (p : List Sg) (kd : Int) : ∀ s ∈ p.takeWhile (fun s => decide (kd = s.k)), s.k = kd := fun s hs => by
  have := List.all_takeWhile (p := fun s : Sg => decide (kd = s.k)) (l := p)
  rw [List.all_eq_true] at this
  have h := this s hs
  rw [decide_eq_true_eq] at h
  exact h.symm
theorem split_p (p : List Sg) (kd : Int) : (p.takeWhile fun s => decide (kd = s.k)) ++ (p.dropWhile fun s => decide (kd = s.k)) = p := List.takeWhile_append_dropWhile
theorem prp_flat (p : List Sg) (kd x : Int) (n : Nat) : flat (prp p kd x n) = List.replicate n x ++ flat p := by
  have h := split_p p kd
  unfold prp prpL
  rw [flat_app, seqs_flat kd _ _ rfl, List.append_assoc, ← flat_app, h]
theorem prp_len2 (p : List Sg) (x : Int) (n : Nat) : len (prp p 2 x n) = len p + n := by
  have h := split_p p 2
  have h2 := len_all2 _ (take_kind p 2)
  have h3 : len p = len (p.takeWhile fun s => decide (2 = s.k)) + len (p.dropWhile fun s => decide (2 = s.k)) := by rw [← len_app, h]
  unfold prp prpL
  rw [len_app, len_seqs2 _ _ rfl, List.length_append, List.length_replicate, h3, h2]
  omega
theorem prp_len3 (p : List Sg) (x : Int) (n : Nat) : len (prp p 3 x n) = len p := by
  have h := split_p p 3
  have h2 := len_all3 _ (take_kind p 3)
  have h3 : len p = len (p.takeWhile fun s => decide (3 = s.k)) + len (p.dropWhile fun s => decide (3 = s.k)) := by rw [← len_app, h]
  unfold prp prpL
  rw [len_app, len_seqs3 _ _ rfl, h3, h2]
theorem scan_cons {o : Option Sg} {s : Sg} {r : List Sg} (h : scan o (s :: r) = 0) : segE s = 0 ∧ (∀ y, o = some y → mayF s y = true) ∧ scan (some s) r = 0 := by
  cases o with
  | none =>
    rw [scan] at h
    by_cases h1 : segE s = 0
    · rw [if_neg (by rw [h1]; simp)] at h
      exact ⟨h1, fun y e => (by cases e), h⟩
    · rw [if_pos h1] at h; exact absurd h h1
  | some b =>
    rw [scan] at h
    by_cases h1 : segE s = 0
    · rw [if_neg (by rw [h1]; simp)] at h
      by_cases h2 : mayF s b = true
      · rw [if_neg (by rw [h2]; simp)] at h
        exact ⟨h1, fun y e => (by cases e; exact h2), h⟩
      · rw [if_pos (by simpa using h2)] at h; cases h
    · rw [if_pos h1] at h; exact absurd h h1
theorem scan_of {o : Option Sg} {s : Sg} {r : List Sg} (h1 : segE s = 0) (h2 : ∀ y, o = some y → mayF s y = true) (h3 : scan (some s) r = 0) : scan o (s :: r) = 0 := by
  cases o with
  | none => rw [scan, if_neg (by rw [h1]; simp)]; exact h3
  | some b => rw [scan, if_neg (by rw [h1]; simp), if_neg (by rw [h2 b rfl]; simp)]; exact h3
theorem scan_app : ∀ (pre : List Sg) (o : Option Sg) (rest : List Sg), scan o (pre ++ rest) = 0 → scan (match pre.getLast? with | some y => some y | none => o) rest = 0
  | [], o, rest, h => h
  | [s], o, rest, h => (scan_cons h).2.2
  | s :: t :: pre, o, rest, h => by
    have h2 := scan_app (t :: pre) (some s) rest (scan_cons h).2.2
    rw [List.getLast?_cons_cons]
    obtain ⟨y, hy⟩ : ∃ y, (t :: pre).getLast? = some y := by
      cases hh : (t :: pre).getLast? with
      | none => rw [List.getLast?_eq_none_iff] at hh; cases hh
      | some y => exact ⟨y, rfl⟩
    rw [hy] at h2 ⊢
    exact h2
theorem drop_head {p : List Sg} {kd : Int} {r : Sg} {rs : List Sg} (h : (p.dropWhile fun s => decide (kd = s.k)) = r :: rs) : r.k ≠ kd := by
  have h1 := List.head?_dropWhile_not (fun s : Sg => decide (kd = s.k)) p
  rw [h] at h1
  simp at h1
  exact fun e => h1 e.symm
theorem chk_prp {p : List Sg} {kd x : Int} {n : Nat} (hE : prpE p kd x (n : Int) = 0) (hl : (prp p kd x n).length ≤ 64) : chk (prp p kd x n) = 0 := by
  unfold prpE at hE
  by_cases h1 : chk p = 0
  · rw [if_neg (by rw [h1]; simp)] at hE
    by_cases h2 : kd ≠ 2 ∧ kd ≠ 3
    · rw [if_pos h2] at hE; cases hE
    · rw [if_neg h2] at hE
      by_cases h3 : isNum x = false ∨ (n : Int) < 0 ∨ 255 < (n : Int)
      · rw [if_pos h3] at hE; cases hE
      · rw [if_neg h3] at hE
        by_cases h4 : 0 < (n : Int) ∧ kd = 2 ∧ confB p = true
        · rw [if_pos h4] at hE; cases hE
        · have hk : kd = 2 ∨ kd = 3 := by omega
          have hx : isNum x = true := by
            cases h : isNum x with
            | true => rfl
            | false => exact absurd (.inl h) h3
          have hok := chk_ok h1
          have hs0 : scan none p = 0 := by
            unfold chk at h1
            rw [if_neg (by omega)] at h1
            exact h1
          have hsp := split_p p kd
          have htk := take_kind p kd
          obtain ⟨T, hT⟩ : ∃ T, (p.takeWhile fun s => decide (kd = s.k)) = T := ⟨_, rfl⟩
          obtain ⟨D, hD⟩ : ∃ D, (p.dropWhile fun s => decide (kd = s.k)) = D := ⟨_, rfl⟩
          have hPL : prpL p kd x n = List.replicate n x ++ flat T := by unfold prpL; rw [hT]
          have hdh : ∀ r rs, D = r :: rs → r.k ≠ kd := fun r rs e => drop_head (hD.trans e)
          have hPR : prp p kd x n = seqs kd (prpL p kd x n) ++ D := by unfold prp; rw [hD]
          rw [hT, hD] at hsp
          rw [hT] at htk
          obtain ⟨PL, hPLe⟩ : ∃ PL, prpL p kd x n = PL := ⟨_, rfl⟩
          rw [hPLe] at hPL hPR
          have hnum : ∀ y ∈ PL, isNum y = true := fun y hy => by
            rw [hPL, List.mem_append] at hy
            rcases hy with h | h
            · rw [(List.mem_replicate.1 h).2]; exact hx
            · have := flat_num_ok (fun s hs => hok.2 s (by rw [← hsp]; exact List.mem_append_left _ hs)) y h
              unfold isNum; exact decide_eq_true this
          have hDs : scan (match T.getLast? with | some y => some y | none => none) D = 0 := scan_app T none D (by rw [hsp]; exact hs0)
          rw [hPR] at hl ⊢
          unfold chk
          rw [if_neg (by omega)]
          by_cases hP0 : PL = []
          · have hT0 : T = [] := by
              cases T with
              | nil => rfl
              | cons t T' =>
                exfalso
                have ht := (segE_ok (hok.2 t (by rw [← hsp]; exact List.mem_append_left _ (List.mem_cons_self ..)))).2.1
                rw [hP0] at hPL
                have h5 := List.append_eq_nil_iff.1 hPL.symm
                rw [flat_cons] at h5
                exact ht (List.append_eq_nil_iff.1 h5.2).1
            subst hT0
            rw [hP0, seqs_nil]
            exact hDs
          · obtain ⟨b, e1, e2, e3⟩ := scan_seqs hk _ PL rfl hnum none (fun y hy => by cases hy) D
            rw [e1]
            cases b with
            | none => exact absurd (e3 rfl) hP0
            | some y =>
              have hy := e2 y rfl
              cases D with
              | nil => rfl
              | cons r rs =>
                obtain ⟨g1, g2, g3⟩ := scan_cons hDs
                refine scan_of g1 (fun z hz => ?_) g3
                cases hz
                have hrk := hdh r rs rfl
                have q1 : decide (y.k = r.k) = false := by rw [hy]; exact decide_eq_false fun e => hrk e.symm
                have q2 : (isConf r.k && !isConf y.k) = false := by
                  rw [hy]
                  cases hc : isConf r.k with
                  | false => rfl
                  | true =>
                    cases hc2 : isConf kd with
                    | true => rfl
                    | false =>
                      exfalso
                      have hk2 : kd = 2 := by
                        unfold isConf at hc2
                        rw [decide_eq_false_iff_not] at hc2
                        omega
                      cases hTl : T.getLast? with
                      | none =>
                        rw [List.getLast?_eq_none_iff] at hTl
                        subst hTl
                        have hn0 : n ≠ 0 := fun e => hP0 (by rw [hPL, e]; rfl)
                        refine h4 ⟨by omega, hk2, ?_⟩
                        rw [← hsp]
                        exact hc
                      | some t =>
                        have hm := g2 t (by rw [hTl])
                        have htk2 := htk t (List.mem_of_getLast? hTl)
                        unfold mayF at hm
                        rw [hc, htk2, hc2] at hm
                        simp at hm
                unfold mayF
                rw [q1, q2]
                simp
  · rw [if_pos h1] at hE; exact absurd hE h1
end P
end
end Go.Proofs.YtiobfgcpbihbhaaGreatDoor
namespace Go.Proofs.YtiobfgcpbihbhaaGreatDoor
section
open Go.RowKit P
set_option linter.unusedSimpArgs false
set_option linter.unusedVariables false
namespace P
open Go.Lib
theorem join_cons2 (w x : List UInt8) (ws : List (List UInt8)) (s : List UInt8) : join (w :: x :: ws) s = w ++ s ++ join (x :: ws) s := by
  rw [join_cons, join_cons]; simp [joinTail]
theorem join_ne (w : List UInt8) (ws : List (List UInt8)) (s : List UInt8) (h : ws ≠ []) : join (w :: ws) s = w ++ s ++ join ws s := by
  cases ws with
  | nil => exact absurd rfl h
  | cons a b => exact join_cons2 w a b s
theorem join_app : ∀ (us vs : List (List UInt8)) (s : List UInt8), us ≠ [] → vs ≠ [] → join (us ++ vs) s = join us s ++ s ++ join vs s
  | [], vs, s, h, _ => absurd rfl h
  | [w], vs, s, _, h => by rw [List.singleton_append, join_ne w vs s h, join_one]
  | w :: x :: us, vs, s, _, h => by
    rw [List.cons_append, join_ne w _ s (by simp), join_app (x :: us) vs s (by simp) h, join_cons2]
    simp
theorem join_joinS : ∀ ws : List (List UInt8), join ws [32] = T.joinS ws
  | [] => rfl
  | [w] => join_one w _
  | w :: x :: ws => by
    rw [join_cons2, T.joinS_cons _ _ (by simp), ← join_joinS (x :: ws)]
    simp
theorem parts_joinC (c : UInt8) : ∀ ws : List (List UInt8), ws ≠ [] → (∀ w ∈ ws, c ∉ w) → T.parts c (join ws [c]) = ws
  | [], h, _ => absurd rfl h
  | [w], _, h => by rw [join_one]; exact T.parts_miss c w (h w (by simp))
  | w :: x :: ws, _, h => by
    rw [join_cons2, List.append_assoc, show ([c] : List UInt8) ++ join (x :: ws) [c] = c :: join (x :: ws) [c] from rfl, T.parts_cut c _ _ (h w (by simp)), parts_joinC c (x :: ws) (by simp) fun y hy => h y (by simp [hy])]
theorem itoa_nat {x : Int} (h : 0 ≤ x) : itoa x = decDigits x.toNat := by unfold itoa; rw [if_neg (by omega)]
theorem itoa_dig {x : Int} (h : 0 ≤ x) : T.Dig (itoa x) ∧ itoa x ≠ [] := by
  rw [itoa_nat h]
  obtain ⟨h1, _, h3⟩ := T.dec_facts x.toNat
  exact ⟨h1, fun e => by rw [e] at h3; simp at h3⟩
theorem dig_no {l : List UInt8} (h : T.Dig l) {c : UInt8} (hc : T.isD c = false) : c ∉ l := fun hh => by have := h _ hh; rw [hc] at this; cases this
theorem number_itoa {x : Int} (h : 0 ≤ x ∧ x ≤ 4294967295) : T.number (itoa x) 4294967295 = (x, 0) := by
  rw [itoa_nat h.1]
  obtain ⟨h1, h2, h3⟩ := T.dec_facts x.toNat
  have h4 := T.numF_val 4294967295 (decDigits x.toNat) 0 (.inl (by omega))
  rw [show (decDigits x.toNat).foldl T.valF 0 = T.valL (decDigits x.toNat) from rfl, h2, if_pos (by omega)] at h4
  unfold T.number
  rw [if_neg (by rw [T.dec_can]; simp), h4]
  show ((x.toNat : Int), (0 : Int)) = (x, 0)
  rw [Int.toNat_of_nonneg h.1]
theorem suf_mem {l : List UInt8} {c : UInt8} (h : hasSuffix l [c] = true) : c ∈ l := by
  unfold hasSuffix at h
  rw [List.isSuffixOf_iff_suffix] at h
  exact h.subset (by simp)
theorem pre_mem {l : List UInt8} {c : UInt8} (h : hasPrefix l [c] = true) : c ∈ l := by
  unfold hasPrefix at h
  rw [List.isPrefixOf_iff_prefix] at h
  exact h.subset (by simp)
theorem suf_no {l : List UInt8} {c : UInt8} (h : c ∉ l) : hasSuffix l [c] = false := by
  cases hh : hasSuffix l [c] with
  | false => rfl
  | true => exact absurd (suf_mem hh) h
theorem pre_no {l : List UInt8} {c : UInt8} (h : c ∉ l) : hasPrefix l [c] = false := by
  cases hh : hasPrefix l [c] with
  | false => rfl
  | true => exact absurd (pre_mem hh) h
theorem suf_yes (l : List UInt8) (c : UInt8) : hasSuffix (l ++ [c]) [c] = true := by
  unfold hasSuffix
  rw [List.isSuffixOf_iff_suffix]
  exact List.suffix_append l [c]
theorem trims_yes (l : List UInt8) (c : UInt8) : trimSuffix (l ++ [c]) [c] = l := by
  unfold trimSuffix
  rw [if_pos (suf_yes l c)]
  simp
theorem trims_no {l : List UInt8} {c : UInt8} (h : c ∉ l) : trimSuffix l [c] = l := by
  unfold trimSuffix
  rw [if_neg (by rw [suf_no h]; simp)]
theorem trimp_no {l : List UInt8} {c : UInt8} (h : c ∉ l) : trimPrefix l [c] = l := by
  unfold trimPrefix
  rw [if_neg (by rw [pre_no h]; simp)]
theorem pre_yes (l : List UInt8) (c : UInt8) : hasPrefix (c :: l) [c] = true := by
  unfold hasPrefix
  rw [List.isPrefixOf_iff_prefix]
  exact ⟨l, rfl⟩
theorem trimp_yes (l : List UInt8) (c : UInt8) : trimPrefix (c :: l) [c] = l := by
  unfold trimPrefix
  rw [if_pos (pre_yes l c)]
  rfl
/-- a number's word between the marks it may have -/
def tok (o c : Bool) (d : List UInt8) : List UInt8 := (if o then [40] else []) ++ (d ++ if c then [41] else [])
theorem numR_tok (o c : Bool) {x : Int} (hx : 0 ≤ x ∧ x ≤ 4294967295) (st : Rs) : numR (tok o c (itoa x)) st = some (ext (if (st.2 || o) = true then 3 else 2) x st.1, decide ((if (st.2 || o) = true then (3 : Int) else 2) = 3) && !c) := by
  have hd := (itoa_dig hx.1).1
  have n40 : (40 : UInt8) ∉ itoa x := dig_no hd (by decide)
  have n41 : (41 : UInt8) ∉ itoa x := dig_no hd (by decide)
  have n40c : (40 : UInt8) ∉ itoa x ++ [41] := fun h => by
    rcases List.mem_append.1 h with h | h
    · exact n40 h
    · simp at h
  have hn := number_itoa hx
  cases o with
  | true =>
    cases c with
    | true =>
      have e : tok true true (itoa x) = 40 :: (itoa x ++ [41]) := rfl
      rw [e, numR_eq, trimp_yes, trims_yes, hn, if_pos rfl, pre_yes, suf_yes]
    | false =>
      have e : tok true false (itoa x) = 40 :: itoa x := by unfold tok; simp
      rw [e, numR_eq, trimp_yes, trims_no n41, hn, if_pos rfl, pre_yes, suf_no n41]
  | false =>
    cases c with
    | true =>
      have e : tok false true (itoa x) = itoa x ++ [41] := rfl
      rw [e, numR_eq, trimp_no n40c, trims_yes, hn, if_pos rfl, pre_no n40c, suf_yes]
    | false =>
      have e : tok false false (itoa x) = itoa x := by unfold tok; simp
      rw [e, numR_eq, trimp_no n40, trims_no n41, hn, if_pos rfl, pre_no n40, suf_no n41]
theorem readW_num {w : List UInt8} (h1 : ∀ r, w ≠ 123 :: r) (h2 : ∀ r, w ≠ 91 :: r) (st : Rs) : readW w st = numR w st := by
  unfold readW
  split
  · exact absurd rfl (h1 _)
  · exact absurd rfl (h2 _)
  · rfl
theorem tok_head (o c : Bool) {x : Int} (hx : 0 ≤ x) : ∀ (b : UInt8), T.isD b = false → b ≠ 40 → b ≠ 41 → b ∉ tok o c (itoa x) := fun b hb h40 h41 hm => by
  unfold tok at hm
  rcases List.mem_append.1 hm with h | h
  · cases o <;> simp at h; exact h40 h
  · rcases List.mem_append.1 h with h | h
    · exact dig_no (itoa_dig hx).1 hb h
    · cases c <;> simp at h; exact h41 h
theorem tok_fine (o c : Bool) {x : Int} (hx : 0 ≤ x) : T.fine (tok o c (itoa x)) = true := by
  rw [T.fine_iff]
  refine ⟨fun e => ?_, tok_head o c hx 32 (by decide) (by decide) (by decide), tok_head o c hx 10 (by decide) (by decide) (by decide)⟩
  unfold tok at e
  exact (itoa_dig hx).2 (List.append_eq_nil_iff.1 (List.append_eq_nil_iff.1 e).2).1
theorem readW_tok (o c : Bool) {x : Int} (hx : 0 ≤ x ∧ x ≤ 4294967295) (st : Rs) : readW (tok o c (itoa x)) st = some (ext (if (st.2 || o) = true then 3 else 2) x st.1, decide ((if (st.2 || o) = true then (3 : Int) else 2) = 3) && !c) := by
  rw [readW_num (fun r e => tok_head o c hx.1 123 (by decide) (by decide) (by decide) (by rw [e]; simp)) (fun r e => tok_head o c hx.1 91 (by decide) (by decide) (by decide) (by rw [e]; simp)), numR_tok o c hx]
theorem readAll_app : ∀ (us vs : List (List UInt8)) (st st' : Rs), readAll us st = some st' → readAll (us ++ vs) st = readAll vs st'
  | [], vs, st, st', h => by cases h; rfl
  | w :: us, vs, st, st', h => by
    have e : ∀ zs : List (List UInt8), readAll (w :: zs) st = match readW w st with
      | none => none
      | some s => readAll zs s := fun _ => rfl
    rw [e] at h
    rw [List.cons_append, e]
    cases hw : readW w st with
    | none => rw [hw] at h; cases h
    | some s => rw [hw] at h; exact readAll_app us vs s st' h
/-- numbers read one after the other -/
def exts (k : Int) (l : List Int) (acc : List Sg) : List Sg := l.foldl (fun a x => ext k x a) acc
theorem exts_cons (k x : Int) (l : List Int) (acc : List Sg) : exts k (x :: l) acc = exts k l (ext k x acc) := rfl
theorem exts_app (k : Int) (l m : List Int) (acc : List Sg) : exts k (l ++ m) acc = exts k m (exts k l acc) := List.foldl_append
def Num (l : List Int) : Prop := ∀ x ∈ l, 0 ≤ x ∧ x ≤ 4294967295
theorem Num.tl {x : Int} {l : List Int} (h : Num (x :: l)) : Num l := fun y hy => h y (List.mem_cons_of_mem _ hy)
theorem Num.hd {x : Int} {l : List Int} (h : Num (x :: l)) : 0 ≤ x ∧ x ≤ 4294967295 := h x (List.mem_cons_self ..)
/-- the words of a sequence -/
def tok2 (l : List Int) : List (List UInt8) := l.map fun x => tok false false (itoa x)
/-- the words behind the first of a sequence between parentheses -/
def clos : List Int → List (List UInt8)
  | [] => []
  | [x] => [tok false true (itoa x)]
  | x :: y :: r => tok false false (itoa x) :: clos (y :: r)
def paren : List Int → List (List UInt8)
  | [] => []
  | [x] => [tok true true (itoa x)]
  | x :: y :: r => tok true false (itoa x) :: clos (y :: r)
theorem read_tok2 : ∀ (l : List Int) (acc : List Sg), Num l → readAll (tok2 l) (acc, false) = some (exts 2 l acc, false)
  | [], acc, _ => rfl
  | x :: l, acc, h => by
    have h1 : readW (tok false false (itoa x)) (acc, false) = some (ext 2 x acc, false) := readW_tok false false h.hd (acc, false)
    show readAll (tok false false (itoa x) :: tok2 l) _ = _
    unfold readAll
    rw [h1]
    exact read_tok2 l _ h.tl
theorem read_clos : ∀ (l : List Int) (acc : List Sg), l ≠ [] → Num l → readAll (clos l) (acc, true) = some (exts 3 l acc, false)
  | [], acc, h, _ => absurd rfl h
  | [x], acc, _, h => by
    have h1 : readW (tok false true (itoa x)) (acc, true) = some (ext 3 x acc, false) := readW_tok false true h.hd (acc, true)
    unfold clos readAll
    rw [h1]
    rfl
  | x :: y :: r, acc, _, h => by
    have h1 : readW (tok false false (itoa x)) (acc, true) = some (ext 3 x acc, true) := readW_tok false false h.hd (acc, true)
    unfold clos readAll
    rw [h1]
    exact read_clos (y :: r) _ (by simp) h.tl
theorem read_paren : ∀ (l : List Int) (acc : List Sg), l ≠ [] → Num l → readAll (paren l) (acc, false) = some (exts 3 l acc, false)
  | [], acc, h, _ => absurd rfl h
  | [x], acc, _, h => by
    have h1 : readW (tok true true (itoa x)) (acc, false) = some (ext 3 x acc, false) := readW_tok true true h.hd (acc, false)
    unfold paren readAll
    rw [h1]
    rfl
  | x :: y :: r, acc, _, h => by
    have h1 : readW (tok true false (itoa x)) (acc, false) = some (ext 3 x acc, true) := readW_tok true false h.hd (acc, false)
    unfold paren readAll
    rw [h1]
    exact read_clos (y :: r) _ (by simp) h.tl
theorem tok2_decs (l : List Int) : tok2 l = decs l := by
  unfold tok2 decs
  refine List.map_congr_left fun x _ => ?_
  unfold tok; simp
theorem join_clos : ∀ l : List Int, l ≠ [] → join (clos l) [32] = join (decs l) [32] ++ [41]
  | [], h => absurd rfl h
  | [x], _ => by
    show join [tok false true (itoa x)] [32] = join [itoa x] [32] ++ [41]
    rw [join_one, join_one]; rfl
  | x :: y :: r, _ => by
    have h := join_clos (y :: r) (by simp)
    show join (tok false false (itoa x) :: clos (y :: r)) [32] = join (itoa x :: decs (y :: r)) [32] ++ [41]
    rw [join_ne _ _ _ (by cases r <;> simp [clos]), h, join_ne _ _ _ (by simp [decs])]
    unfold tok; simp
theorem join_paren : ∀ l : List Int, l ≠ [] → join (paren l) [32] = 40 :: (join (decs l) [32] ++ [41])
  | [], h => absurd rfl h
  | [x], _ => by
    show join [tok true true (itoa x)] [32] = 40 :: (join [itoa x] [32] ++ [41])
    rw [join_one, join_one]; rfl
  | x :: y :: r, _ => by
    have h := join_clos (y :: r) (by simp)
    show join (tok true false (itoa x) :: clos (y :: r)) [32] = 40 :: (join (itoa x :: decs (y :: r)) [32] ++ [41])
    rw [join_ne _ _ _ (by cases r <;> simp [clos]), h, join_ne _ _ _ (by simp [decs])]
    unfold tok; simp
theorem fine_tok2 {l : List Int} (h : Num l) : ∀ w ∈ tok2 l, T.fine w = true := fun w hw => by
  obtain ⟨x, hx, rfl⟩ := List.mem_map.1 hw
  exact tok_fine false false (h x hx).1
theorem fine_clos : ∀ {l : List Int}, Num l → ∀ w ∈ clos l, T.fine w = true
  | [], _, w, hw => by cases hw
  | [x], h, w, hw => by rw [List.mem_singleton.1 hw]; exact tok_fine false true h.hd.1
  | x :: y :: r, h, w, hw => by
    rcases List.mem_cons.1 hw with e | hw
    · rw [e]; exact tok_fine false false h.hd.1
    · exact fine_clos h.tl w hw
theorem fine_paren : ∀ {l : List Int}, Num l → ∀ w ∈ paren l, T.fine w = true
  | [], _, w, hw => by cases hw
  | [x], h, w, hw => by rw [List.mem_singleton.1 hw]; exact tok_fine true true h.hd.1
  | x :: y :: r, h, w, hw => by
    rcases List.mem_cons.1 hw with e | hw
    · rw [e]; exact tok_fine true false h.hd.1
    · exact fine_clos h.tl w hw
theorem exts_go (k : Int) (acc : List Sg) : ∀ (rest pre : List Int), (pre ++ rest).length ≤ 255 → exts k rest (acc ++ [⟨k, pre⟩]) = acc ++ [⟨k, pre ++ rest⟩]
  | [], pre, _ => by rw [List.append_nil]; rfl
  | x :: rest, pre, h => by
    have hl : pre.length ≠ 255 := by rw [List.length_append, List.length_cons] at h; omega
    rw [exts_cons, ext_snoc, if_pos ⟨rfl, hl⟩]
    have h2 := exts_go k acc rest (pre ++ [x]) (by simp at h ⊢; omega)
    rw [h2]; simp
theorem ext_new {k x : Int} {acc : List Sg} (h : ∀ y, acc.getLast? = some y → ¬ (y.k = k ∧ y.as.length ≠ 255)) : ext k x acc = acc ++ [⟨k, [x]⟩] := by
  rcases List.eq_nil_or_concat acc with h0 | ⟨p0, t, h0⟩
  · subst h0; rfl
  · rw [List.concat_eq_append] at h0
    subst h0
    rw [ext_snoc, if_neg (h t (by simp))]
theorem exts_seg {k : Int} {acc : List Sg} {l : List Int} (h : ∀ y, acc.getLast? = some y → ¬ (y.k = k ∧ y.as.length ≠ 255)) (hl : l ≠ []) (h255 : l.length ≤ 255) : exts k l acc = acc ++ [⟨k, l⟩] := by
  cases l with
  | nil => exact absurd rfl hl
  | cons x r =>
    rw [exts_cons, ext_new h]
    exact exts_go k acc r [x] h255
theorem may_new {s b : Sg} (h : mayF s b = true) (hs : isSeq s.k = true) : ¬ (b.k = s.k ∧ b.as.length ≠ 255) := fun ⟨h1, h2⟩ => by
  unfold mayF at h
  rw [hs, decide_eq_true h1, decide_eq_false h2] at h
  simp at h
theorem exts_run {k : Int} (hk : isSeq k = true) : ∀ (T : List Sg) (acc : List Sg), (∀ t ∈ T, t.k = k) → scan acc.getLast? T = 0 → exts k (flat T) acc = acc ++ T
  | [], acc, _, _ => by rw [List.append_nil]; rfl
  | t :: T, acc, h, hs => by
    obtain ⟨g1, g2, g3⟩ := scan_cons hs
    have htk := h t (List.mem_cons_self ..)
    have hok := segE_ok g1
    have e1 := exts_seg (k := k) (acc := acc) (l := t.as) (fun y hy => by
      have := may_new (g2 y hy) (by rw [htk]; exact hk)
      rw [htk] at this
      exact this) hok.2.1 hok.2.2.1
    have et : (⟨k, t.as⟩ : Sg) = t := by rw [← htk]
    rw [et] at e1
    rw [flat_cons, exts_app, e1, exts_run hk T (acc ++ [t]) (fun x hx => h x (List.mem_cons_of_mem _ hx)) (by simpa using g3)]
    simp
theorem scan_pre : ∀ (pre : List Sg) (o : Option Sg) (rest : List Sg), scan o (pre ++ rest) = 0 → scan o pre = 0
  | [], o, rest, _ => by cases o <;> rfl
  | s :: pre, o, rest, h => by
    obtain ⟨g1, g2, g3⟩ := scan_cons h
    exact scan_of g1 g2 (scan_pre pre (some s) rest g3)
theorem seg_num {s : Sg} (h : segE s = 0) : Num s.as := fun x hx => by have := (segE_ok h).2.2.2.1 x hx; omega
theorem nums_decs : ∀ {l : List Int}, Num l → nums (decs l) = some l
  | [], _ => rfl
  | x :: l, h => by
    have h1 := number_itoa h.hd
    show nums (itoa x :: decs l) = _
    unfold nums
    rw [h1, if_pos rfl, nums_decs h.tl]
    rfl
theorem decs_no {l : List Int} (h : Num l) {c : UInt8} (hc : T.isD c = false) : ∀ w ∈ decs l, c ∉ w := fun w hw => by
  obtain ⟨x, hx, rfl⟩ := List.mem_map.1 hw
  exact dig_no (itoa_dig (h x hx).1).1 hc
theorem join_no (c d : UInt8) (hcd : c ≠ d) : ∀ (ws : List (List UInt8)), (∀ w ∈ ws, c ∉ w) → c ∉ join ws [d]
  | [], _, h => by simp [join, List.intercalate] at h
  | [w], h, hm => by rw [join_one] at hm; exact h w (by simp) hm
  | w :: x :: ws, h, hm => by
    rw [join_cons2] at hm
    rcases List.mem_append.1 hm with hm | hm
    · rcases List.mem_append.1 hm with hm | hm
      · exact h w (by simp) hm
      · exact hcd (List.mem_singleton.1 hm)
    · exact join_no c d hcd (x :: ws) (fun y hy => h y (by simp [hy])) hm
theorem setR_word {k : Int} {o e : UInt8} {l : List Int} (hl : l ≠ []) (hn : Num l) (st : Rs) : setR k (o :: (join (decs l) [44] ++ [e])) e st = some (st.1 ++ [⟨k, l⟩], st.2) := by
  unfold setR
  rw [show (o :: (join (decs l) [44] ++ [e])).drop 1 = join (decs l) [44] ++ [e] from rfl, trims_yes, parts_joinC 44 _ (by simpa [decs] using hl) (decs_no hn (by decide)), nums_decs hn, suf_yes]
  rfl
theorem fine_set {o e : UInt8} {l : List Int} (hn : Num l) (ho : o ≠ 32 ∧ o ≠ 10) (he : e ≠ 32 ∧ e ≠ 10) : T.fine (o :: (join (decs l) [44] ++ [e])) = true := by
  rw [T.fine_iff]
  refine ⟨by simp, fun h => ?_, fun h => ?_⟩
  · rcases List.mem_cons.1 h with h | h
    · exact ho.1 h.symm
    · rcases List.mem_append.1 h with h | h
      · exact join_no 32 44 (by decide) _ (decs_no hn (by decide)) h
      · exact he.1 (List.mem_singleton.1 h).symm
  · rcases List.mem_cons.1 h with h | h
    · exact ho.2 h.symm
    · rcases List.mem_append.1 h with h | h
      · exact join_no 10 44 (by decide) _ (decs_no hn (by decide)) h
      · exact he.2 (List.mem_singleton.1 h).symm
theorem text_nil : text [] = [] := rfl
theorem text_cons_conf {s : Sg} {r : List Sg} (h : s.k = 3) : text (s :: r) = word 3 (flat ((s :: r).takeWhile fun x => decide (3 = x.k))) ++ (if ((s :: r).dropWhile fun x => decide (3 = x.k)) = [] then [] else 32 :: text ((s :: r).dropWhile fun x => decide (3 = x.k))) := by
  unfold text
  rw [parts_conf h]
  by_cases h0 : ((s :: r).dropWhile fun x => decide (3 = x.k)) = []
  · rw [if_pos h0, h0, parts_nil, join_one]; simp
  · rw [if_neg h0, join_ne]
    · simp
    · cases hd : (s :: r).dropWhile fun x => decide (3 = x.k) with
      | nil => exact absurd hd h0
      | cons a b => unfold parts; rw [List.length_cons, partsF]; split <;> simp
theorem text_cons_one {s : Sg} {r : List Sg} (h : s.k ≠ 3) : text (s :: r) = word s.k s.as ++ (if r = [] then [] else 32 :: text r) := by
  unfold text
  rw [parts_one h]
  by_cases h0 : r = []
  · rw [if_pos h0, h0, parts_nil, join_one]; simp
  · rw [if_neg h0, join_ne]
    · simp
    · cases r with
      | nil => exact absurd rfl h0
      | cons a b => unfold parts; rw [List.length_cons, partsF]; split <;> simp
theorem join_tail {us ws : List (List UInt8)} {p : List Sg} {t : List UInt8} (hu : us ≠ []) (ht : join us [32] = t) (hw : join ws [32] = text p) (h0 : ws = [] ↔ p = []) : join (us ++ ws) [32] = t ++ (if p = [] then [] else 32 :: text p) := by
  by_cases h : p = []
  · rw [if_pos h, h0.2 h, List.append_nil, List.append_nil, ht]
  · rw [if_neg h, join_app us ws _ hu (fun e => h (h0.1 e)), ht, hw]; simp
/-- the words of a text, and what reading them puts behind what has been read -/
theorem read_text : ∀ (n : Nat) (p acc : List Sg), p.length = n → scan acc.getLast? p = 0 → ∃ ws, join ws [32] = text p ∧ (∀ w ∈ ws, T.fine w = true) ∧ readAll ws (acc, false) = some (acc ++ p, false) ∧ (ws = [] ↔ p = []) := by
  intro n
  induction n using Nat.strongRecOn with
  | _ n ih =>
    intro p acc hp hs
    cases p with
    | nil => exact ⟨[], rfl, fun w hw => (by cases hw), by rw [List.append_nil]; rfl, ⟨fun _ => rfl, fun _ => rfl⟩⟩
    | cons s r =>
      rw [List.length_cons] at hp
      obtain ⟨g1, g2, g3⟩ := scan_cons hs
      have hok := segE_ok g1
      have hnum := seg_num g1
      by_cases h3 : s.k = 3
      · have hlen := drop_lt s r h3
        have hsp := split_p (s :: r) 3
        have htk := take_kind (s :: r) 3
        have hte := text_cons_conf (r := r) h3
        have htne : ((s :: r).takeWhile fun x => decide (3 = x.k)) ≠ [] := by rw [List.takeWhile_cons, if_pos (by simpa using h3.symm)]; simp
        obtain ⟨R, hR⟩ : ∃ R, ((s :: r).takeWhile fun x => decide (3 = x.k)) = R := ⟨_, rfl⟩
        obtain ⟨D, hD⟩ : ∃ D, ((s :: r).dropWhile fun x => decide (3 = x.k)) = D := ⟨_, rfl⟩
        rw [hD] at hlen
        rw [hR, hD] at hsp hte
        rw [hR] at htk htne
        rw [← hsp] at hs
        have hsR := scan_pre R _ D hs
        have hsD := scan_app R _ D hs
        have hnR : Num (flat R) := fun x hx => by
          have := flat_num_ok (scan_ok hsR) x hx; omega
        have hfR : flat R ≠ [] := by
          cases R with
          | nil => exact absurd rfl htne
          | cons t R' =>
            rw [flat_cons]
            have := (segE_ok (scan_ok hsR t (List.mem_cons_self ..))).2.1
            intro e
            exact this (List.append_eq_nil_iff.1 e).1
        have hgl : (acc ++ R).getLast? = (match R.getLast? with | some y => some y | none => acc.getLast?) := by
          rw [List.getLast?_append]
          cases R.getLast? <;> rfl
        obtain ⟨ws, w1, w2, w3, w4⟩ := ih D.length (by omega) D (acc ++ R) rfl (by rw [hgl]; exact hsD)
        have hrd := read_paren (flat R) acc hfR hnR
        rw [exts_run (by decide) R acc htk hsR] at hrd
        refine ⟨paren (flat R) ++ ws, ?_, ?_, ?_, ?_⟩
        · rw [hte]
          refine join_tail ?_ ?_ w1 w4
          · cases hf : flat R with
            | nil => exact absurd hf hfR
            | cons a b => cases b <;> simp [paren]
          · rw [join_paren _ hfR]; rfl
        · intro w hw
          rcases List.mem_append.1 hw with hw | hw
          · exact fine_paren hnR w hw
          · exact w2 w hw
        · rw [readAll_app _ _ _ _ hrd, w3, List.append_assoc, hsp]
        · constructor
          · intro e
            exfalso
            have e1 := (List.append_eq_nil_iff.1 e).1
            cases hf : flat R with
            | nil => exact hfR hf
            | cons a b => rw [hf] at e1; cases b <;> simp [paren] at e1
          · intro e; cases e
      · have hte := text_cons_one (r := r) h3
        obtain ⟨ws, w1, w2, w3, w4⟩ := ih r.length (by omega) r (acc ++ [s]) rfl (by simpa using g3)
        rw [List.append_assoc, List.singleton_append] at w3
        by_cases h2 : s.k = 2
        · have hrd := read_tok2 s.as acc hnum
          have e1 := exts_seg (k := 2) (acc := acc) (l := s.as) (fun y hy => by
            have := may_new (g2 y hy) (by rw [h2]; rfl)
            rw [h2] at this
            exact this) hok.2.1 hok.2.2.1
          have et : (⟨2, s.as⟩ : Sg) = s := by rw [← h2]
          rw [et] at e1
          rw [e1] at hrd
          refine ⟨tok2 s.as ++ ws, ?_, ?_, ?_, ?_⟩
          · rw [hte]
            refine join_tail ?_ ?_ w1 w4
            · simpa [tok2] using hok.2.1
            · rw [tok2_decs, h2]; rfl
          · intro w hw
            rcases List.mem_append.1 hw with hw | hw
            · exact fine_tok2 hnum w hw
            · exact w2 w hw
          · rw [readAll_app _ _ _ _ hrd, w3]
          · constructor
            · intro e
              exfalso
              have e1 := (List.append_eq_nil_iff.1 e).1
              exact hok.2.1 (by simpa [tok2] using e1)
            · intro e; cases e
        · have h14 : s.k = 1 ∨ s.k = 4 := by have := hok.1; omega
          have hset : T.fine (word s.k s.as) = true ∧ readW (word s.k s.as) (acc, false) = some (acc ++ [s], false) := by
            rcases h14 with h1 | h4
            · have et : (⟨1, s.as⟩ : Sg) = s := by rw [← h1]
              have e := setR_word (k := 1) (o := 123) (e := 125) hok.2.1 hnum (acc, false)
              rw [h1]
              refine ⟨fine_set hnum (by decide) (by decide), ?_⟩
              rw [et] at e
              exact e
            · have et : (⟨4, s.as⟩ : Sg) = s := by rw [← h4]
              have e := setR_word (k := 4) (o := 91) (e := 93) hok.2.1 hnum (acc, false)
              rw [h4]
              refine ⟨fine_set hnum (by decide) (by decide), ?_⟩
              rw [et] at e
              exact e
          refine ⟨[word s.k s.as] ++ ws, ?_, ?_, ?_, ?_⟩
          · rw [hte]
            exact join_tail (by simp) (join_one _ _) w1 w4
          · intro w hw
            rcases List.mem_append.1 hw with hw | hw
            · rw [List.mem_singleton.1 hw]; exact hset.1
            · exact w2 w hw
          · rw [readAll_app [word s.k s.as] ws (acc, false) (acc ++ [s], false) (by unfold readAll; rw [hset.2]; rfl), w3]
          · exact ⟨fun e => by simp at e, fun e => by cases e⟩
theorem parse_text {p : List Sg} (h : chk p = 0) : parseR (text p) = (p, 0) := by
  have hs : scan none p = 0 := by
    have h2 := h
    unfold chk at h2
    rw [if_neg (by have := (chk_ok h).1; omega)] at h2
    exact h2
  obtain ⟨ws, w1, w2, w3, _⟩ := read_text _ p [] rfl hs
  have hw : T.words (text p) = some ws := by rw [← w1, join_joinS]; exact T.words_join ws w2
  unfold parseR
  rw [hw]
  show closeR (text p) (readAll ws ([], false)) = _
  rw [w3]
  show (if chk ([] ++ p) = 0 ∧ text ([] ++ p) = text p then ([] ++ p, (0 : Int)) else ([], 2)) = _
  rw [List.nil_append, if_pos ⟨h, rfl⟩]
theorem parse_cases (l : List UInt8) : (parseR l = ([], 2) ∧ ∀ p, chk p = 0 → text p ≠ l) ∨ ∃ p, parseR l = (p, 0) ∧ chk p = 0 ∧ text p = l := by
  by_cases h : ∃ p, chk p = 0 ∧ text p = l
  · obtain ⟨p, h1, h2⟩ := h
    exact .inr ⟨p, by rw [← h2]; exact parse_text h1, h1, h2⟩
  · refine .inl ⟨?_, fun p h1 h2 => h ⟨p, h1, h2⟩⟩
    unfold parseR
    cases T.words l with
    | none => rfl
    | some ws =>
      show closeR l (readAll ws ([], false)) = _
      cases readAll ws ([], false) with
      | none => rfl
      | some st =>
        show (if chk st.1 = 0 ∧ text st.1 = l then (st.1, (0 : Int)) else ([], 2)) = _
        rw [if_neg fun hh => h ⟨_, hh⟩]
end P
end
end Go.Proofs.YtiobfgcpbihbhaaGreatDoor
namespace Go.Proofs.YtiobfgcpbihbhaaGreatDoor
section
open Go.RowKit P
set_option linter.unusedSimpArgs false
set_option linter.unusedVariables false
namespace P
open Go.Lib
/-- digits read as long as the number is at most the greatest -/
def runN : Nat → List UInt8 → Nat × List UInt8
  | n, [] => (n, [])
  | n, c :: r => if T.isD c = true ∧ n ≤ 4294967295 then runN (T.valF n c) r else (n, c :: r)
theorem runN_len : ∀ (r : List UInt8) (n : Nat), (runN n r).2.length ≤ r.length
  | [], n => Nat.le_refl _
  | c :: r, n => by
    unfold runN
    by_cases h : T.isD c = true ∧ n ≤ 4294967295
    · rw [if_pos h]; have := runN_len r (T.valF n c); rw [List.length_cons]; omega
    · rw [if_neg h]; exact Nat.le_refl _
theorem runN_le : ∀ (r : List UInt8) (n : Nat), n ≤ 42949672959 → (runN n r).1 ≤ 42949672959
  | [], n, h => h
  | c :: r, n, h => by
    unfold runN
    by_cases h1 : T.isD c = true ∧ n ≤ 4294967295
    · rw [if_pos h1]
      refine runN_le r _ ?_
      have := (T.isD_iff c).1 h1.1
      unfold T.valF
      omega
    · rw [if_neg h1]; exact h
def NoD (r : List UInt8) : Prop := ∀ c t, r = c :: t → T.isD c = false
theorem runN_end {n : Nat} {r : List UInt8} (h : NoD r) : runN n r = (n, r) := by
  cases r with
  | nil => rfl
  | cons c t => unfold runN; rw [if_neg (by rw [h c t rfl]; simp)]
theorem runN_dig : ∀ (d : List UInt8) (n : Nat) (r : List UInt8), T.Dig d → d.foldl T.valF n ≤ 4294967295 → NoD r → runN n (d ++ r) = (d.foldl T.valF n, r)
  | [], n, r, _, _, h => runN_end h
  | c :: d, n, r, hd, hm, h => by
    have hc := hd c (by simp)
    have h1 := T.valF_ge d (T.valF n c)
    rw [List.foldl_cons] at hm ⊢
    rw [List.cons_append]
    unfold runN
    rw [if_pos ⟨hc, by unfold T.valF at h1 hm; omega⟩]
    exact runN_dig d _ r (fun x hx => hd x (by simp [hx])) hm h
/-- numbers with a separator -/
def numsF (sep : UInt8) : Nat → List UInt8 → List Int × List UInt8
  | 0, r => ([], r)
  | f + 1, r => if (runN 0 r).2.length = r.length then ([], r) else match (runN 0 r).2 with
    | c :: d :: t => if c = sep ∧ T.isD d = true then (((runN 0 r).1 : Int) :: (numsF sep f (d :: t)).1, (numsF sep f (d :: t)).2) else ([((runN 0 r).1 : Int)], c :: d :: t)
    | r' => ([((runN 0 r).1 : Int)], r')
def numsS (sep : UInt8) (r : List UInt8) : List Int × List UInt8 := numsF sep (r.length + 1) r
theorem numsF_enough (sep : UInt8) : ∀ (f g : Nat) (r : List UInt8), r.length < f → r.length < g → numsF sep f r = numsF sep g r
  | 0, g, r, h, _ => by omega
  | f + 1, 0, r, _, h => by omega
  | f + 1, g + 1, r, hf, hg => by
    unfold numsF
    by_cases h : (runN 0 r).2.length = r.length
    · rw [if_pos h, if_pos h]
    · rw [if_neg h, if_neg h]
      have hl := runN_len r 0
      cases hr : (runN 0 r).2 with
      | nil => rfl
      | cons c t =>
        cases t with
        | nil => rfl
        | cons d t =>
          rw [hr] at h hl
          simp only [List.length_cons] at h hl
          have e := numsF_enough sep f g (d :: t) (by simp only [List.length_cons]; omega) (by simp only [List.length_cons]; omega)
          simp only [e]
theorem numsS_stop {sep : UInt8} {r : List UInt8} (h : (runN 0 r).2.length = r.length) : numsS sep r = ([], r) := by unfold numsS numsF; rw [if_pos h]
theorem numsS_more {sep c d : UInt8} {r t : List UInt8} (h : (runN 0 r).2.length ≠ r.length) (hr : (runN 0 r).2 = c :: d :: t) (hc : c = sep ∧ T.isD d = true) : numsS sep r = (((runN 0 r).1 : Int) :: (numsS sep (d :: t)).1, (numsS sep (d :: t)).2) := by
  have hl := runN_len r 0
  rw [hr] at hl
  simp only [List.length_cons] at hl
  have e := numsF_enough sep r.length ((d :: t).length + 1) (d :: t) (by simp only [List.length_cons]; omega) (by omega)
  unfold numsS
  rw [show numsF sep (r.length + 1) r = if (runN 0 r).2.length = r.length then ([], r) else match (runN 0 r).2 with
    | c :: d :: t => if c = sep ∧ T.isD d = true then (((runN 0 r).1 : Int) :: (numsF sep r.length (d :: t)).1, (numsF sep r.length (d :: t)).2) else ([((runN 0 r).1 : Int)], c :: d :: t)
    | r' => ([((runN 0 r).1 : Int)], r') from rfl, if_neg h, hr]
  show (if c = sep ∧ T.isD d = true then (((runN 0 r).1 : Int) :: (numsF sep r.length (d :: t)).1, (numsF sep r.length (d :: t)).2) else ([((runN 0 r).1 : Int)], c :: d :: t)) = _
  rw [if_pos hc, e]
theorem numsS_last {sep : UInt8} {r : List UInt8} (h : (runN 0 r).2.length ≠ r.length) (hr : ∀ c d t, (runN 0 r).2 = c :: d :: t → ¬ (c = sep ∧ T.isD d = true)) : numsS sep r = ([((runN 0 r).1 : Int)], (runN 0 r).2) := by
  unfold numsS
  rw [show numsF sep (r.length + 1) r = if (runN 0 r).2.length = r.length then ([], r) else match (runN 0 r).2 with
    | c :: d :: t => if c = sep ∧ T.isD d = true then (((runN 0 r).1 : Int) :: (numsF sep r.length (d :: t)).1, (numsF sep r.length (d :: t)).2) else ([((runN 0 r).1 : Int)], c :: d :: t)
    | r' => ([((runN 0 r).1 : Int)], r') from rfl, if_neg h]
  cases hq : (runN 0 r).2 with
  | nil => rfl
  | cons c t =>
    cases t with
    | nil => rfl
    | cons d t =>
      show (if c = sep ∧ T.isD d = true then _ else _) = _
      rw [if_neg (hr c d t hq)]
theorem run_itoa {x : Int} (hx : 0 ≤ x ∧ x ≤ 4294967295) {r : List UInt8} (h : NoD r) : runN 0 (itoa x ++ r) = (x.toNat, r) := by
  rw [itoa_nat hx.1]
  obtain ⟨h1, h2, _⟩ := T.dec_facts x.toNat
  have h3 : (decDigits x.toNat).foldl T.valF 0 = x.toNat := h2
  have := runN_dig (decDigits x.toNat) 0 r h1 (by rw [h3]; omega) h
  rw [this, h3]
theorem itoa_cons {x : Int} (h : 0 ≤ x) : ∃ c t, itoa x = c :: t ∧ T.isD c = true := by
  obtain ⟨h1, h2⟩ := itoa_dig h
  cases hh : itoa x with
  | nil => exact absurd hh h2
  | cons c t => exact ⟨c, t, rfl, h1 c (by rw [hh]; simp)⟩
theorem nums_join {sep : UInt8} (hs : T.isD sep = false) : ∀ (l : List Int) (rest : List UInt8), l ≠ [] → Num l → NoD rest → (∀ c d t, rest = c :: d :: t → ¬ (c = sep ∧ T.isD d = true)) → numsS sep (join (decs l) [sep] ++ rest) = (l, rest)
  | [], rest, h, _, _, _ => absurd rfl h
  | [x], rest, _, hn, h1, h2 => by
    have hx := hn.hd
    have hr := run_itoa hx h1
    obtain ⟨c, t, ht, _⟩ := itoa_cons hx.1
    rw [show decs [x] = [itoa x] from rfl, join_one]
    rw [numsS_last (by rw [hr]; show rest.length ≠ _; rw [List.length_append, ht, List.length_cons]; omega) (fun c d t e => h2 c d t (by rw [← e, hr])), hr]
    show ([((x.toNat : Nat) : Int)], rest) = _
    rw [Int.toNat_of_nonneg hx.1]
  | x :: y :: l, rest, _, hn, h1, h2 => by
    have hx := hn.hd
    have hy := hn.tl.hd
    obtain ⟨c, t, ht, hc⟩ := itoa_cons hy.1
    obtain ⟨c0, t0, ht0, _⟩ := itoa_cons hx.1
    have ih := nums_join hs (y :: l) rest (by simp) hn.tl h1 h2
    have e1 : join (decs (x :: y :: l)) [sep] ++ rest = itoa x ++ (sep :: (join (decs (y :: l)) [sep] ++ rest)) := by
      rw [show decs (x :: y :: l) = itoa x :: decs (y :: l) from rfl, join_ne _ _ _ (by simp [decs])]
      simp
    obtain ⟨u, hu⟩ : ∃ u, join (decs (y :: l)) [sep] ++ rest = c :: u := by
      rw [show decs (y :: l) = itoa y :: decs l from rfl, join_cons, ht]
      exact ⟨_, rfl⟩
    have hr := run_itoa hx (r := sep :: (join (decs (y :: l)) [sep] ++ rest)) (fun a b e => by cases e; exact hs)
    rw [e1]
    rw [numsS_more (c := sep) (d := c) (t := u) (by rw [hr]; show (sep :: (join (decs (y :: l)) [sep] ++ rest)).length ≠ _; rw [show (itoa x ++ sep :: (join (decs (y :: l)) [sep] ++ rest)).length = (itoa x).length + (sep :: (join (decs (y :: l)) [sep] ++ rest)).length from List.length_append, ht0, List.length_cons (a := c0)]; omega) (by rw [hr, hu]) ⟨rfl, hc⟩, hr, ← hu, ih]
    show (((x.toNat : Nat) : Int) :: (y :: l), rest) = _
    rw [Int.toNat_of_nonneg hx.1]
theorem numsS_len (sep : UInt8) : ∀ (n : Nat) (r : List UInt8), r.length = n → (numsS sep r).2.length ≤ r.length ∧ (numsS sep r).1.length + (numsS sep r).2.length ≤ r.length ∧ ∀ x ∈ (numsS sep r).1, 0 ≤ x ∧ x ≤ 42949672959 := by
  intro n
  induction n using Nat.strongRecOn with
  | _ n ih =>
    intro r hn
    have hl := runN_len r 0
    have hv := runN_le r 0 (by omega)
    by_cases h : (runN 0 r).2.length = r.length
    · rw [numsS_stop h]
      exact ⟨Nat.le_refl _, by simp, fun x hx => by cases hx⟩
    · by_cases hm : ∃ c d t, (runN 0 r).2 = c :: d :: t ∧ (c = sep ∧ T.isD d = true)
      · obtain ⟨c, d, t, h1, h2⟩ := hm
        rw [h1] at hl
        simp only [List.length_cons] at hl
        obtain ⟨q1, q2, q3⟩ := ih (d :: t).length (by simp only [List.length_cons]; omega) (d :: t) rfl
        rw [numsS_more h h1 h2]
        simp only [List.length_cons] at q1 q2 ⊢
        refine ⟨by omega, by omega, fun x hx => ?_⟩
        rcases List.mem_cons.1 hx with e | hx
        · rw [e]; omega
        · exact q3 x hx
      · rw [numsS_last h fun c d t h1 h2 => hm ⟨c, d, t, h1, h2⟩]
        refine ⟨hl, by show 1 + (runN 0 r).2.length ≤ r.length; omega, fun x hx => ?_⟩
        rw [List.mem_singleton.1 hx]; omega
/-- passes over a byte -/
def skip (c : UInt8) : List UInt8 → List UInt8
  | [] => []
  | x :: r => if x = c then r else x :: r
theorem skip_len (c : UInt8) (r : List UInt8) : (skip c r).length ≤ r.length := by
  cases r with
  | nil => exact Nat.le_refl _
  | cons x r =>
    show (if x = c then r else x :: r).length ≤ _
    by_cases h : x = c
    · rw [if_pos h]; simp
    · rw [if_neg h]; exact Nat.le_refl _
/-- one step of the reader: what it reads, and what is left -/
def rdOne (r : List UInt8) : List Sg × List UInt8 :=
  match r with
  | 123 :: t => ([⟨1, (numsS 44 t).1⟩], skip 32 (skip 125 (numsS 44 t).2))
  | 91 :: t => ([⟨4, (numsS 44 t).1⟩], skip 32 (skip 93 (numsS 44 t).2))
  | 40 :: t => (seqs 3 (numsS 32 t).1, skip 32 (skip 41 (numsS 32 t).2))
  | r => (seqs 2 (numsS 32 r).1, skip 32 (numsS 32 r).2)
def lenF : Nat → List UInt8 → List Sg → Option (List Sg)
  | _, [], acc => some acc
  | 0, _ :: _, _ => none
  | f + 1, c :: r, acc => if (rdOne (c :: r)).2.length = (c :: r).length then none else lenF f (rdOne (c :: r)).2 (acc ++ (rdOne (c :: r)).1)
theorem rdOne_len (r : List UInt8) : (rdOne r).2.length ≤ r.length := by
  unfold rdOne
  split
  · rename_i t
    have h1 := (numsS_len 44 _ t rfl).1
    have h2 := skip_len 125 (numsS 44 t).2
    have h3 := skip_len 32 (skip 125 (numsS 44 t).2)
    show (skip 32 _).length ≤ _
    rw [List.length_cons]; omega
  · rename_i t
    have h1 := (numsS_len 44 _ t rfl).1
    have h2 := skip_len 93 (numsS 44 t).2
    have h3 := skip_len 32 (skip 93 (numsS 44 t).2)
    show (skip 32 _).length ≤ _
    rw [List.length_cons]; omega
  · rename_i t
    have h1 := (numsS_len 32 _ t rfl).1
    have h2 := skip_len 41 (numsS 32 t).2
    have h3 := skip_len 32 (skip 41 (numsS 32 t).2)
    show (skip 32 _).length ≤ _
    rw [List.length_cons]; omega
  · rename_i t _ _ _
    have h1 := (numsS_len 32 _ r rfl).1
    have h3 := skip_len 32 (numsS 32 r).2
    show (skip 32 _).length ≤ _
    omega
theorem lenF_enough : ∀ (f g : Nat) (r : List UInt8) (acc : List Sg), r.length ≤ f → r.length ≤ g → lenF f r acc = lenF g r acc
  | f, g, [], acc, _, _ => by cases f <;> cases g <;> rfl
  | 0, g, c :: r, acc, h, _ => by simp at h
  | f + 1, 0, c :: r, acc, _, h => by simp at h
  | f + 1, g + 1, c :: r, acc, hf, hg => by
    have h1 := rdOne_len (c :: r)
    unfold lenF
    by_cases h : (rdOne (c :: r)).2.length = (c :: r).length
    · rw [if_pos h, if_pos h]
    · rw [if_neg h, if_neg h]
      simp only [List.length_cons] at hf hg h h1
      exact lenF_enough f g _ _ (by omega) (by omega)
def lenS (r : List UInt8) (acc : List Sg) : Option (List Sg) := lenF r.length r acc
theorem lenS_nil (acc : List Sg) : lenS [] acc = some acc := rfl
theorem lenS_none {r : List UInt8} {acc : List Sg} (h0 : r ≠ []) (h : (rdOne r).2.length = r.length) : lenS r acc = none := by
  cases r with
  | nil => exact absurd rfl h0
  | cons c t => show lenF (t.length + 1) (c :: t) acc = none; unfold lenF; rw [if_pos h]
theorem lenS_step {r : List UInt8} {acc : List Sg} (h0 : r ≠ []) (h : (rdOne r).2.length ≠ r.length) : lenS r acc = lenS (rdOne r).2 (acc ++ (rdOne r).1) := by
  cases r with
  | nil => exact absurd rfl h0
  | cons c t =>
    have h1 := rdOne_len (c :: t)
    show lenF (t.length + 1) (c :: t) acc = _
    unfold lenF
    rw [if_neg h]
    simp only [List.length_cons] at h h1
    exact lenF_enough _ _ _ _ (by omega) (Nat.le_refl _)
theorem seqs_run {k : Int} (hk : isSeq k = true) : ∀ (T : List Sg) (o : Option Sg), (∀ t ∈ T, t.k = k) → scan o T = 0 → seqs k (flat T) = T
  | [], o, _, _ => seqs_nil k
  | [t], o, h, hs => by
    have hok := segE_ok (scan_cons hs).1
    have htk := h t (by simp)
    rw [flat_cons, show flat [] = [] from rfl, List.append_nil, seqs_cons k hok.2.1, List.take_of_length_le hok.2.2.1, List.drop_of_length_le hok.2.2.1, seqs_nil]
    rw [← htk]
  | t :: u :: T, o, h, hs => by
    obtain ⟨g1, g2, g3⟩ := scan_cons hs
    have hok := segE_ok g1
    have htk := h t (by simp)
    have huk := h u (by simp)
    have h255 : t.as.length = 255 := by
      have := may_new ((scan_cons g3).2.1 t rfl) (by rw [huk]; exact hk)
      by_cases e : t.as.length = 255
      · exact e
      · exact absurd ⟨by rw [htk, huk], e⟩ this
    have ih := seqs_run hk (u :: T) (some t) (fun x hx => h x (List.mem_cons_of_mem _ hx)) g3
    rw [flat_cons, seqs_cons k (by intro e; exact hok.2.1 (List.append_eq_nil_iff.1 e).1), ← h255, List.take_left, List.drop_left, ih, ← htk]
/-- a text by its first run of sequences of one kind -/
theorem text_run2 : ∀ (n : Nat) (p : List Sg), p.length = n → (∀ s ∈ p, s.as ≠ []) → ∀ s r, p = s :: r → s.k = 2 → text p = word 2 (flat (p.takeWhile fun x => decide (2 = x.k))) ++ (if (p.dropWhile fun x => decide (2 = x.k)) = [] then [] else 32 :: text (p.dropWhile fun x => decide (2 = x.k))) := by
  intro n
  induction n with
  | zero => intro p hp _ s r e; subst e; cases hp
  | succ n ih =>
    intro p hp hne s r e hk
    subst e
    have h1 := text_cons_one (s := s) (r := r) (by omega)
    have hd2 : decide (2 = s.k) = true := decide_eq_true hk.symm
    have t1 : (s :: r).takeWhile (fun x => decide (2 = x.k)) = s :: r.takeWhile (fun x => decide (2 = x.k)) := List.takeWhile_cons_of_pos hd2
    have t2 : (s :: r).dropWhile (fun x => decide (2 = x.k)) = r.dropWhile (fun x => decide (2 = x.k)) := List.dropWhile_cons_of_pos hd2
    rw [h1, t1, t2]
    cases r with
    | nil =>
      rw [if_pos rfl, List.takeWhile_nil, List.dropWhile_nil, if_pos rfl, flat_cons, show flat [] = [] from rfl, hk]
      simp
    | cons t r =>
      rw [if_neg (by simp)]
      by_cases ht : t.k = 2
      · have h2 := ih (t :: r) (by simpa using hp) (fun x hx => hne x (List.mem_cons_of_mem _ hx)) t r rfl ht
        have hf : flat ((t :: r).takeWhile fun x => decide (2 = x.k)) ≠ [] := by
          rw [List.takeWhile_cons_of_pos (p := fun x : Sg => decide (2 = x.k)) (decide_eq_true ht.symm), flat_cons]
          intro e
          exact hne t (by simp) (List.append_eq_nil_iff.1 e).1
        rw [h2, flat_cons, hk]
        generalize flat ((t :: r).takeWhile fun x => decide (2 = x.k)) = F at *
        have hw : word 2 (s.as ++ F) = word 2 s.as ++ 32 :: word 2 F := by
          show join (decs (s.as ++ F)) [32] = join (decs s.as) [32] ++ 32 :: join (decs F) [32]
          rw [show decs (s.as ++ F) = decs s.as ++ decs F from List.map_append, join_app _ _ _ (by simpa [decs] using hne s (by simp)) (by simpa [decs] using hf)]
          simp
        rw [hw]; simp
      · have hd3 : ¬ decide (2 = t.k) = true := by rw [decide_eq_true_eq]; exact fun e => ht e.symm
        rw [List.takeWhile_cons_of_neg (p := fun x : Sg => decide (2 = x.k)) hd3, List.dropWhile_cons_of_neg (p := fun x : Sg => decide (2 = x.k)) hd3, if_neg (by simp), flat_cons, show flat [] = [] from rfl, List.append_nil, hk]
theorem noD_cons {c : UInt8} {t : List UInt8} (h : T.isD c = false) : NoD (c :: t) := fun a b e => by cases e; exact h
theorem skip_yes (c : UInt8) (t : List UInt8) : skip c (c :: t) = t := by
  show (if c = c then t else c :: t) = t
  rw [if_pos rfl]
/-- what follows a part -/
def tl (p : List Sg) : List UInt8 := if p = [] then [] else 32 :: text p
theorem skip_tl (p : List Sg) : skip 32 (tl p) = text p := by
  unfold tl
  by_cases h : p = []
  · rw [if_pos h, h]; rfl
  · rw [if_neg h, skip_yes]
theorem rd_set {l : List Int} (hl : l ≠ []) (hn : Num l) (q : List Sg) : rdOne (123 :: (join (decs l) [44] ++ [125]) ++ tl q) = ([⟨1, l⟩], text q) := by
  have h := nums_join (sep := 44) (by decide) l (125 :: tl q) hl hn (noD_cons (by decide)) (fun c d t e hh => by rw [← (List.cons.inj e).1] at hh; exact absurd hh.1 (by decide))
  have e : 123 :: (join (decs l) [44] ++ [125]) ++ tl q = 123 :: (join (decs l) [44] ++ 125 :: tl q) := by simp
  rw [e]
  show (([⟨1, (numsS 44 (join (decs l) [44] ++ 125 :: tl q)).1⟩] : List Sg), skip 32 (skip 125 (numsS 44 (join (decs l) [44] ++ 125 :: tl q)).2)) = _
  rw [h]
  show (([⟨1, l⟩] : List Sg), skip 32 (skip 125 (125 :: tl q))) = _
  rw [skip_yes, skip_tl]
theorem rd_cset {l : List Int} (hl : l ≠ []) (hn : Num l) (q : List Sg) : rdOne (91 :: (join (decs l) [44] ++ [93]) ++ tl q) = ([⟨4, l⟩], text q) := by
  have h := nums_join (sep := 44) (by decide) l (93 :: tl q) hl hn (noD_cons (by decide)) (fun c d t e hh => by rw [← (List.cons.inj e).1] at hh; exact absurd hh.1 (by decide))
  have e : 91 :: (join (decs l) [44] ++ [93]) ++ tl q = 91 :: (join (decs l) [44] ++ 93 :: tl q) := by simp
  rw [e]
  show (([⟨4, (numsS 44 (join (decs l) [44] ++ 93 :: tl q)).1⟩] : List Sg), skip 32 (skip 93 (numsS 44 (join (decs l) [44] ++ 93 :: tl q)).2)) = _
  rw [h]
  show (([⟨4, l⟩] : List Sg), skip 32 (skip 93 (93 :: tl q))) = _
  rw [skip_yes, skip_tl]
theorem rd_conf {l : List Int} (hl : l ≠ []) (hn : Num l) (q : List Sg) : rdOne (40 :: (join (decs l) [32] ++ [41]) ++ tl q) = (seqs 3 l, text q) := by
  have h := nums_join (sep := 32) (by decide) l (41 :: tl q) hl hn (noD_cons (by decide)) (fun c d t e hh => by rw [← (List.cons.inj e).1] at hh; exact absurd hh.1 (by decide))
  have e : 40 :: (join (decs l) [32] ++ [41]) ++ tl q = 40 :: (join (decs l) [32] ++ 41 :: tl q) := by simp
  rw [e]
  show (seqs 3 (numsS 32 (join (decs l) [32] ++ 41 :: tl q)).1, skip 32 (skip 41 (numsS 32 (join (decs l) [32] ++ 41 :: tl q)).2)) = _
  rw [h]
  show (seqs 3 l, skip 32 (skip 41 (41 :: tl q))) = _
  rw [skip_yes, skip_tl]
theorem rdOne_dig {c : UInt8} {t : List UInt8} (h : T.isD c = true) : rdOne (c :: t) = (seqs 2 (numsS 32 (c :: t)).1, skip 32 (numsS 32 (c :: t)).2) := by
  have h1 := (T.isD_iff c).1 h
  unfold rdOne
  split
  · rename_i e; rw [(List.cons.inj e).1] at h; exact absurd h (by decide)
  · rename_i e; rw [(List.cons.inj e).1] at h; exact absurd h (by decide)
  · rename_i e; rw [(List.cons.inj e).1] at h; exact absurd h (by decide)
  · rfl
theorem rd_seq {l : List Int} (hl : l ≠ []) (hn : Num l) (q : List Sg) (hq : ∀ c d t, tl q = c :: d :: t → T.isD d = false) : rdOne (join (decs l) [32] ++ tl q) = (seqs 2 l, text q) := by
  have h := nums_join (sep := 32) (by decide) l (tl q) hl hn (fun c t e => by
    unfold tl at e
    by_cases h0 : q = []
    · rw [if_pos h0] at e; cases e
    · rw [if_neg h0] at e; cases e; decide) (fun c d t e hh => by rw [hq c d t e] at hh; exact absurd hh.2 (by simp))
  obtain ⟨c, t, ht, hc⟩ : ∃ c t, join (decs l) [32] ++ tl q = c :: t ∧ T.isD c = true := by
    cases l with
    | nil => exact absurd rfl hl
    | cons x l =>
      obtain ⟨c, t, ht, hc⟩ := itoa_cons (hn.hd).1
      rw [show decs (x :: l) = itoa x :: decs l from rfl, join_cons, ht]
      exact ⟨c, _, rfl, hc⟩
  rw [ht] at h ⊢
  rw [rdOne_dig hc, h, skip_tl]
theorem text_head {s : Sg} {r : List Sg} (h : s.k = 1 ∨ s.k = 3 ∨ s.k = 4) : ∃ c t, text (s :: r) = c :: t ∧ T.isD c = false := by
  rcases h with h | h | h
  · rw [text_cons_one (by omega), h]; exact ⟨123, _, rfl, by decide⟩
  · rw [text_cons_conf h]; exact ⟨40, _, rfl, by decide⟩
  · rw [text_cons_one (by omega), h]; exact ⟨91, _, rfl, by decide⟩
theorem lenS_go {n : Nat} {r r' : List UInt8} {acc q : List Sg} (h : rdOne r = (q, r')) (hl : r'.length < r.length) : lenS r acc = lenS r' (acc ++ q) := by
  rw [lenS_step (by rintro rfl; simp at hl) (by rw [h]; show r'.length ≠ _; omega), h]
theorem tl_len (q : List Sg) : (text q).length ≤ (tl q).length := by
  unfold tl
  by_cases h : q = []
  · rw [if_pos h, h]; exact Nat.le_refl _
  · rw [if_neg h]; simp
theorem len_text : ∀ (n : Nat) (p acc : List Sg) (o : Option Sg), p.length = n → scan o p = 0 → lenS (text p) acc = some (acc ++ p) := by
  intro n
  induction n using Nat.strongRecOn with
  | _ n ih =>
    intro p acc o hp hs
    cases p with
    | nil => rw [text_nil, lenS_nil, List.append_nil]
    | cons s r =>
      rw [List.length_cons] at hp
      obtain ⟨g1, g2, g3⟩ := scan_cons hs
      have hok := segE_ok g1
      have hnum := seg_num g1
      have hrun : ∀ k : Int, isSeq k = true → s.k = k → ∃ R D, (s :: r).takeWhile (fun x => decide (k = x.k)) = R ∧ (s :: r).dropWhile (fun x => decide (k = x.k)) = D ∧ R ++ D = s :: r ∧ flat R ≠ [] ∧ Num (flat R) ∧ seqs k (flat R) = R ∧ D.length < n ∧ ∃ o', scan o' D = 0 := by
        intro k hk hsk
        have hsp := split_p (s :: r) k
        have htk := take_kind (s :: r) k
        have htne : ((s :: r).takeWhile fun x => decide (k = x.k)) ≠ [] := by rw [List.takeWhile_cons, if_pos (by simpa using hsk.symm)]; simp
        refine ⟨_, _, rfl, rfl, hsp, ?_⟩
        obtain ⟨R, hR⟩ : ∃ R, ((s :: r).takeWhile fun x => decide (k = x.k)) = R := ⟨_, rfl⟩
        obtain ⟨D, hD⟩ : ∃ D, ((s :: r).dropWhile fun x => decide (k = x.k)) = D := ⟨_, rfl⟩
        rw [hR, hD] at hsp ⊢
        rw [hR] at htk htne
        have hs2 := hs
        rw [← hsp] at hs2
        have hsR := scan_pre R _ D hs2
        have hsD := scan_app R _ D hs2
        refine ⟨?_, ?_, seqs_run hk R o htk hsR, ?_, _, hsD⟩
        · cases R with
          | nil => exact absurd rfl htne
          | cons t R' =>
            rw [flat_cons]
            have := (segE_ok (scan_ok hsR t (List.mem_cons_self ..))).2.1
            intro e
            exact this (List.append_eq_nil_iff.1 e).1
        · intro x hx
          have := flat_num_ok (scan_ok hsR) x hx; omega
        · have h1 := congrArg List.length hsp
          rw [List.length_append, List.length_cons] at h1
          have h2 := List.length_pos_iff.2 htne
          omega
      by_cases h3 : s.k = 3
      · obtain ⟨R, D, e1, e2, e3, e4, e5, e6, e7, o', e8⟩ := hrun 3 rfl h3
        have hte : text (s :: r) = word 3 (flat R) ++ tl D := by rw [text_cons_conf h3, e1, e2]; rfl
        have hrd := rd_conf e4 e5 D
        have h := lenS_go (n := 0) (acc := acc) hrd (by have := tl_len D; simp; omega)
        rw [hte]
        refine Eq.trans h ?_
        rw [ih D.length e7 D _ o' rfl e8, e6, List.append_assoc, e3]
      · by_cases h2 : s.k = 2
        · obtain ⟨R, D, e1, e2, e3, e4, e5, e6, e7, o', e8⟩ := hrun 2 rfl h2
          have hte : text (s :: r) = join (decs (flat R)) [32] ++ tl D := by rw [text_run2 _ (s :: r) rfl (fun x hx => (segE_ok (scan_ok hs x hx)).2.1) s r rfl h2, e1, e2]; rfl
          have hrd := rd_seq e4 e5 D (fun c d t e => by
            cases D with
            | nil => cases e
            | cons x D' =>
              have hx := drop_head e2
              have hxk := (segE_ok (scan_ok hs x (by rw [← e3]; simp))).1
              obtain ⟨c', t', ht, hc'⟩ := text_head (s := x) (r := D') (by omega)
              unfold tl at e
              rw [if_neg (by simp), ht] at e
              cases e
              exact hc')
          have h := lenS_go (n := 0) (acc := acc) hrd (by
            have := tl_len D
            have h9 : join (decs (flat R)) [32] ≠ [] := by
              cases hf : flat R with
              | nil => exact absurd hf e4
              | cons x l =>
                rw [hf] at e5
                obtain ⟨c, t, ht, _⟩ := itoa_cons (e5.hd).1
                rw [show decs (x :: l) = itoa x :: decs l from rfl, join_cons, ht]; simp
            have := List.length_pos_iff.2 h9
            rw [List.length_append]; omega)
          rw [hte]
          refine Eq.trans h ?_
          rw [ih D.length e7 D _ o' rfl e8, e6, List.append_assoc, e3]
        · have h14 : s.k = 1 ∨ s.k = 4 := by have := hok.1; omega
          have hte : text (s :: r) = word s.k s.as ++ tl r := text_cons_one h3
          have hrd : rdOne (word s.k s.as ++ tl r) = ([s], text r) := by
            rcases h14 with h1 | h4
            · have et : (⟨1, s.as⟩ : Sg) = s := by rw [← h1]
              have e := rd_set hok.2.1 hnum r
              rw [et] at e
              rw [h1]; exact e
            · have et : (⟨4, s.as⟩ : Sg) = s := by rw [← h4]
              have e := rd_cset hok.2.1 hnum r
              rw [et] at e
              rw [h4]; exact e
          have h := lenS_go (n := 0) (acc := acc) hrd (by
            have := tl_len r
            rcases h14 with h1 | h4
            · rw [h1]; show _ < (123 :: _ ++ tl r).length; simp; omega
            · rw [h4]; show _ < (91 :: _ ++ tl r).length; simp; omega)
          rw [hte]
          refine Eq.trans h ?_
          rw [ih r.length (by omega) r _ (some s) rfl g3, List.append_assoc, List.singleton_append]
/-- what the reference's Parse answers -/
def rparse (l : List UInt8) : List Sg × Int := match lenS l [] with
  | none => ([], 2)
  | some q => if chk q = 0 ∧ text q = l then (q, 0) else ([], 2)
theorem rparse_eq (l : List UInt8) : rparse l = parseR l := by
  rcases parse_cases l with ⟨h, hn⟩ | ⟨p, h, h1, h2⟩
  · rw [h]
    unfold rparse
    cases lenS l [] with
    | none => rfl
    | some q =>
      show (if chk q = 0 ∧ text q = l then (q, (0 : Int)) else ([], 2)) = _
      rw [if_neg fun hh => hn q hh.1 hh.2]
  · rw [h]
    have hs : scan none p = 0 := by
      have h2 := h1
      unfold chk at h2
      rw [if_neg (by have := (chk_ok h1).1; omega)] at h2
      exact h2
    have hl := len_text _ p [] none rfl hs
    rw [h2, List.nil_append] at hl
    unfold rparse
    rw [hl]
    show (if chk p = 0 ∧ text p = l then (p, (0 : Int)) else ([], 2)) = _
    rw [if_pos ⟨h1, h2⟩]
end P
end
end Go.Proofs.YtiobfgcpbihbhaaGreatDoor
namespace Go.Proofs.YtiobfgcpbihbhaaGreatDoor
section
open Go.RowKit P
set_option linter.unusedSimpArgs false
set_option linter.unusedVariables false
set_option maxHeartbeats 1500000
set_option maxRecDepth 100000
theorem lsame_any (a b : List Int) (v u : Value) (w : World) (hv : RdI w v a) (hu : RdI w u b) :
    Calls Tryz.prog 26 #[v, u] w fun e w' => e = .returned (.bool (decide (a = b))) ∧ Below w.heap.size w w' := by
  obtain ⟨va, vc, rfl, v1, v2, hvc⟩ := hv
  obtain ⟨ua, uc, rfl, u1, u2, huc⟩ := hu
  obtain ⟨M, hM⟩ : ∃ M, a.length = M := ⟨_, rfl⟩
  obtain ⟨N, hN⟩ : ∃ N, b.length = N := ⟨_, rfl⟩
  rw [hM] at v1 ⊢
  rw [hN] at u1 ⊢
  have HM := Lib.hid hM
  have HN := Lib.hid hN
  have HVC := Lib.hid hvc
  have HUC := Lib.hid huc
  have hLm : M ≤ 9223372036854775807 := by have := v2.1; omega
  have HA0 : Hid (∀ j, j < 0 → a[j]? = b[j]?) := fun j h => by omega
  have HS0 : Hid (Below w.heap.size w w) := Below.refl _ _
  clear v1 v2 u1 u2 hvc huc hM hN
  by_cases hmn : M = N
  · subst hmn
    go_enter Tryz.func26, Tryz.ntmps26
    go_wp2_with fail
    go_loopg [5, 13] (M + 1) (fun g s5 s13 wr => ∃ k : Nat, k ≤ M ∧ M + 1 - k ≤ g ∧ s13 = .int .i64 (k : Int) ∧ (∃ q, q = s5) ∧ Hid (∀ j, j < k → a[j]? = b[j]?) ∧ Hid (Below w.heap.size w wr))
    case atStart => exact ⟨0, by omega, by omega, rfl, ⟨_, rfl⟩, HA0, HS0⟩
    case round =>
      clear HA0 HS0
      obtain ⟨k, hk, hkg, rfl, ⟨u5, rfl⟩, HA, HS⟩ := hrel
      by_cases hlt : k < M
      · obtain ⟨x, hx⟩ : ∃ x, a[k]? = some x := ⟨_, List.getElem?_eq_getElem (by have := HM.out; omega)⟩
        obtain ⟨y, hy⟩ : ∃ y, b[k]? = some y := ⟨_, List.getElem?_eq_getElem (by have := HN.out; omega)⟩
        have HXY := Lib.hid (And.intro hx hy)
        obtain ⟨p1, o1, rfl, q1, c1⟩ := HVC.out k x hx
        obtain ⟨p2, o2, rfl, q2, c2⟩ := HUC.out k y hy
        have d1 := carry HS.out c1
        have d2 := carry HS.out c2
        have k0 : (0 : Int) ≤ (k : Int) := by omega
        have k1 : decide ((k : Int) < (M : Int)) = true := decide_eq_true (by omega)
        have k2 : (k : Int) < (M : Int) := by omega
        clear hx hy c1 c2
        by_cases hxy : x = y
        · have e1 : (x == y) = true := by simpa using hxy
          have HA2 : Hid (∀ j, j < k + 1 → a[j]? = b[j]?) := fun j hj => by
            by_cases e : j = k
            · subst e; rw [HXY.out.1, HXY.out.2, hxy]
            · exact HA.out j (by omega)
          clear HA HXY hxy
          go_wp2_with fail
          go_quiet (fail)
          go_wp2_with fail
          go_roundg (M + 1 - (k + 1))
          case measure => omega
          case rel => exact ⟨k + 1, by omega, Nat.le_refl _, by go_num, ⟨_, rfl⟩, HA2, below_drewN HS.out _⟩
        · have e1 : (x == y) = false := by simpa using hxy
          have HZ : Hid (decide (a = b) = false) := by
            refine decide_eq_false fun e => hxy ?_
            have h1 := HXY.out.1; have h2 := HXY.out.2
            rw [e, h2] at h1; cases h1; rfl
          clear HA HXY hxy
          go_wp2_with fail
          go_quiet (fail)
          go_wp2
          go_ret
          exact ⟨by rw [HZ.out] <;> rfl, below_drewN HS.out _⟩
      · have k1 : decide ((k : Int) < (M : Int)) = false := decide_eq_false (by omega)
        have HZ : Hid (decide (a = b) = true) := decide_eq_true (eq_upto (by rw [HM.out, HN.out]) (fun j hj => HA.out j (by have := HM.out; omega)))
        go_wp2
        go_ret
        exact ⟨by rw [HZ.out] <;> rfl, HS.out⟩
  · have HZ : Hid (decide (a = b) = false) := decide_eq_false fun e => hmn (by rw [← HM.out, ← HN.out, e])
    have k1 : ((M : Int) == (N : Int)) = false := by simpa using (by omega : ¬ (M : Int) = (N : Int))
    go_enter Tryz.func26, Tryz.ntmps26
    go_wp2
    go_ret
    exact ⟨by rw [HZ.out] <;> rfl, HS0.out⟩
theorem rlength_any (p : List Sg) (v : Value) (w : World) (hv : RdS w v p) (hl : (flat p).length ≤ 2000000) (hp : p.length ≤ 2000000) : Calls Tryz.prog 20 #[v] w fun e w' => e = .returned (.int .i64 (len p : Int)) ∧ Below w.heap.size w w' := by
  obtain ⟨ad, cap, rfl, h1, h2, hc⟩ := hv
  have HC := Lib.hid hc
  obtain ⟨n, hn⟩ : ∃ n, p.length = n := ⟨_, rfl⟩
  have HTL : Hid (∀ k, len (p.take k) ≤ 4000000) := fun k => Nat.le_trans (len_take_le p k) (by omega)
  rw [hn] at h1 hp ⊢
  have HN := Lib.hid hn
  have HS0 : Hid (Below w.heap.size w w) := Below.refl _ _
  have HE0 : Hid (len (p.take 0) = 0) := by unfold Hid; simp [len]
  clear hc hn hl
  go_enter Tryz.func20, Tryz.ntmps20
  go_wp2_with fail
  go_loopg [3, 5, 8] n (fun g s3 s5 s8 wr => ∃ (k z : Nat), k ≤ n ∧ n - k ≤ g ∧ s3 = .int .i64 (z : Int) ∧ (∃ q, q = s5) ∧ s8 = .int .i64 (k : Int) ∧ Hid (len (p.take k) = z) ∧ Hid (Below w.heap.size w wr))
  case atStart => exact ⟨0, 0, by omega, by omega, rfl, ⟨_, rfl⟩, rfl, HE0, HS0⟩
  case round =>
    clear HS0 HE0
    obtain ⟨k, z, hk, hkg, rfl, ⟨u5, rfl⟩, rfl, HE, HS⟩ := hrel
    by_cases hlt : k < n
    · obtain ⟨s, hs⟩ : ∃ s, p[k]? = some s := ⟨_, List.getElem?_eq_getElem (by have := HN.out; omega)⟩
      have HLT := Lib.hid (len_take hs)
      have hle := HTL.out (k + 1)
      rw [HLT.out, HE.out] at hle
      obtain ⟨b, off, u, rfl, hb, c0, c1, hu⟩ := HC.out k s hs
      have d0 := carry HS.out c0
      have d1 := carry HS.out c1
      obtain ⟨uad, ucap, hf⟩ := hu.form
      have k0 : (0 : Int) ≤ (k : Int) := by omega
      have k1 : (k : Int) < (n : Int) := by omega
      subst hf
      have HL1 : Hid (len1 s = if s.k = 2 then s.as.length else if s.k = 1 then 1 else 0) := rfl
      have HS1 : Hid (∀ o, Below w.heap.size w (wr.alloc o)) := fun o => below_then HS.out (below_alloc _ o)
      generalize s.as.length = L at *
      obtain ⟨kd, hkd⟩ : ∃ kd, s.k = kd := ⟨_, rfl⟩
      rw [hkd] at d0 HL1
      clear hs c0 c1 hu HS hkd
      by_cases h2 : kd = 2
      · subst h2
        have e1 : len1 s = L := by rw [HL1.out]; rfl
        have HE2 : Hid (len (p.take (k + 1)) = z + L) := by unfold Hid; rw [HLT.out, HE.out, e1]
        rw [e1] at hle
        have e2 : IntKind.i64.wrap ((z : Int) + (L : Int)) = (z : Int) + (L : Int) := IntWalk.i64_in _ (by omega)
        clear HL1 HE HLT e1
        go_wp2_with fail
        go_roundg (n - (k + 1))
        case measure => omega
        case rel => exact ⟨k + 1, z + L, by omega, Nat.le_refl _, by go_num, ⟨_, rfl⟩, by go_num, HE2, HS1.out _⟩
      · have n2 : (kd == 2) = false := by simpa using h2
        by_cases h3 : kd = 1
        · subst h3
          have e1 : len1 s = 1 := by rw [HL1.out]; rfl
          have HE2 : Hid (len (p.take (k + 1)) = z + 1) := by unfold Hid; rw [HLT.out, HE.out, e1]
          rw [e1] at hle
          clear HL1 HE HLT e1
          go_wp2_with fail
          go_roundg (n - (k + 1))
          case measure => omega
          case rel => exact ⟨k + 1, z + 1, by omega, Nat.le_refl _, by go_num, ⟨_, rfl⟩, by go_num, HE2, HS1.out _⟩
        · have n3 : (kd == 1) = false := by simpa using h3
          have e1 : len1 s = 0 := by rw [HL1.out, if_neg h2, if_neg h3]
          have HE2 : Hid (len (p.take (k + 1)) = z) := by unfold Hid; rw [HLT.out, HE.out, e1]; omega
          clear HL1 HE HLT e1
          go_wp2_with fail
          go_roundg (n - (k + 1))
          case measure => omega
          case rel => exact ⟨k + 1, z, by omega, Nat.le_refl _, rfl, ⟨_, rfl⟩, by go_num, HE2, HS1.out _⟩
    · have k1 : decide ((k : Int) < (n : Int)) = false := decide_eq_false (by omega)
      have HZ : Hid (len p = z) := by unfold Hid; rw [← HE.out, List.take_of_length_le (by rw [HN.out]; omega)]
      go_wp2
      go_ret
      exact ⟨by rw [HZ.out] <;> rfl, HS.out⟩
theorem rhas_any (p : List Sg) (v : Value) (x : Int) (w : World) (hv : RdS w v p) (hl : (flat p).length ≤ 2000000) : Calls Tryz.prog 22 #[v, .int .i64 x] w fun e w' => e = .returned (.bool (has p x)) ∧ Below w.heap.size w w' := by
  have HF := Lib.hid (rflat_any p v w hv hl)
  obtain ⟨ad, cap, rfl⟩ := hv.form
  have HH : Hid (has p x = decide (x ∈ flat p)) := rfl
  generalize has p x = q at *
  generalize flat p = l at *
  generalize p.length = n at *
  clear hv
  go_enter Tryz.func22, Tryz.ntmps22
  go_wp2_with fail
  go_at_call 28
  refine HF.out.mono ?_
  rintro e w1 ⟨v1, rfl, hi⟩
  have HB1 := Lib.hid hi.2
  obtain ⟨a1, c1, rfl, r1, r2, hc⟩ := hi.1.rd
  obtain ⟨L, hL⟩ : ∃ L, l.length = L := ⟨_, rfl⟩
  rw [hL] at r1 hl
  have HL := Lib.hid hL
  have HC := Lib.hid hc
  have HA0 : Hid (∀ (j : Nat) (y : Int), j < 0 → l[j]? = some y → y ≠ x) := fun j y h => by omega
  have HS0 : Hid (Below w1.heap.size w1 w1) := Below.refl _ _
  clear hi hc HF r1 r2
  rw [hL]
  clear hL
  go_wp2_with fail
  go_loopg [6, 10] (L + 1) (fun g s6 s10 wr => ∃ k : Nat, k ≤ L ∧ L + 1 - k ≤ g ∧ s10 = .int .i64 (k : Int) ∧ (∃ q, q = s6) ∧ Hid (∀ (j : Nat) (y : Int), j < k → l[j]? = some y → y ≠ x) ∧ Hid (Below w1.heap.size w1 wr))
  case atStart => exact ⟨0, by omega, by omega, rfl, ⟨_, rfl⟩, HA0, HS0⟩
  case round =>
    clear HA0 HS0
    obtain ⟨k, hk, hkg, rfl, ⟨u6, rfl⟩, HA, HS⟩ := hrel
    by_cases hlt : k < L
    · obtain ⟨y, hy⟩ : ∃ y, l[k]? = some y := ⟨_, List.getElem?_eq_getElem (by have := HL.out; omega)⟩
      have HY := Lib.hid hy
      obtain ⟨b, off, rfl, hb, c⟩ := HC.out k y hy
      have d := carry HS.out c
      have k0 : (0 : Int) ≤ (k : Int) := by omega
      have k1 : (k : Int) < (L : Int) := by omega
      clear hy c
      by_cases hxy : y = x
      · have HQ : Hid (q = true) := by show _ = _; rw [HH.out]; exact decide_eq_true (by rw [← hxy]; exact List.mem_of_getElem? HY.out)
        have HB2 := Lib.hid (below_then HB1.out HS.out)
        have e1 : (y == x) = true := by simpa using hxy
        clear HA HY hxy
        go_wp2
        go_ret
        exact ⟨by rw [HQ.out] <;> rfl, HB2.out⟩
      · have e1 : (y == x) = false := by simpa using hxy
        have HA2 : Hid (∀ (j : Nat) (y : Int), j < k + 1 → l[j]? = some y → y ≠ x) := fun j z hj hz => by
          by_cases e : j = k
          · subst e; have := HY.out; rw [hz] at this; cases this; exact hxy
          · exact HA.out j z (by omega) hz
        clear HA HY hxy
        go_wp2_with fail
        go_roundg (L + 1 - (k + 1))
        case measure => omega
        case rel => exact ⟨k + 1, by omega, Nat.le_refl _, by go_num, ⟨_, rfl⟩, HA2, HS⟩
    · have k1 : decide ((k : Int) < (L : Int)) = false := decide_eq_false (by omega)
      have HQ : Hid (q = false) := by
        show _ = _; rw [HH.out]
        refine decide_eq_false fun hm => ?_
        obtain ⟨j, hj⟩ := List.getElem?_of_mem hm
        exact HA.out j x (by have := (List.getElem?_eq_some_iff.1 hj).1; have := HL.out; omega) hj rfl
      have HB2 := Lib.hid (below_then HB1.out HS.out)
      clear HA
      go_wp2
      go_ret
      exact ⟨by rw [HQ.out] <;> rfl, HB2.out⟩
theorem rfirst_any (p : List Sg) (v : Value) (w : World) (hv : RdS w v p) : Calls Tryz.prog 16 #[v] w fun e w' => e = .returned (.tuple #[.int .i64 (fst p).1, .bool (fst p).2]) ∧ Below w.heap.size w w' := by
  obtain ⟨ad, cap, rfl, h1, h2, hc⟩ := hv
  have HC := Lib.hid hc
  have HF : Hid (fst p = match p.find? (fun s => decide (s.k = 2)) with | some s => (match s.as with | x :: _ => (x, true) | [] => (0, false)) | none => (0, false)) := rfl
  generalize fst p = z at *
  obtain ⟨n, hn⟩ : ∃ n, p.length = n := ⟨_, rfl⟩
  rw [hn] at h1 ⊢
  have HN := Lib.hid hn
  have hcap := h2.1
  have HA0 : Hid (∀ (j : Nat) (y : Sg), j < 0 → p[j]? = some y → decide (y.k = 2) = false) := fun j y h => by omega
  have HS0 : Hid (Below w.heap.size w w) := Below.refl _ _
  clear hc hn h2
  go_enter Tryz.func16, Tryz.ntmps16
  go_wp2_with fail
  go_loopg [5, 8] (n + 1) (fun g s5 s8 wr => ∃ k : Nat, k ≤ n ∧ n + 1 - k ≤ g ∧ s8 = .int .i64 (k : Int) ∧ (∃ q, q = s5) ∧ Hid (∀ (j : Nat) (y : Sg), j < k → p[j]? = some y → decide (y.k = 2) = false) ∧ Hid (Below w.heap.size w wr))
  case atStart => exact ⟨0, by omega, by omega, rfl, ⟨_, rfl⟩, HA0, HS0⟩
  case round =>
    clear HA0 HS0
    obtain ⟨k, hk, hkg, rfl, ⟨u5, rfl⟩, HA, HS⟩ := hrel
    by_cases hlt : k < n
    · obtain ⟨s, hs⟩ : ∃ s, p[k]? = some s := ⟨_, List.getElem?_eq_getElem (by have := HN.out; omega)⟩
      have HSS := Lib.hid hs
      obtain ⟨b, off, u, rfl, hbb, c0, c1, hu⟩ := HC.out k s hs
      have d0 := carry HS.out c0
      have d1 := carry HS.out c1
      obtain ⟨uad, ucap, rfl, u1, u2, hcs⟩ := hu
      have HCS := Lib.hid hcs
      have k0 : (0 : Int) ≤ (k : Int) := by omega
      have k1 : (k : Int) < (n : Int) := by omega
      obtain ⟨L, hL⟩ : ∃ L, s.as.length = L := ⟨_, rfl⟩
      rw [hL] at d1 u1
      have HL := Lib.hid hL
      have HS2 := Lib.hid (below_then HS.out (below_alloc wr (.cells #[.int .i64 s.k, .slice uad L ucap] 46)))
      clear hs c0 c1 hcs hL
      by_cases hkd : s.k = 2
      · have HFF := Lib.hid (find_at HSS.out (decide_eq_true hkd) HA.out)
        have HZ : Hid (z = match s.as with | x :: _ => (x, true) | [] => (0, false)) := by show _ = _; rw [HF.out, HFF.out]
        rw [hkd] at d0 HS2
        clear HF HFF HA HSS hkd
        by_cases hl0 : L = 0
        · have hnil : s.as = [] := List.length_eq_zero_iff.1 (by rw [HL.out]; exact hl0)
          have HE : Hid (z = (0, false)) := by show _ = _; rw [HZ.out, hnil]
          subst hl0
          clear HZ hnil
          go_wp2
          go_ret2
          exact ⟨by rw [HE.out] <;> rfl, HS2.out⟩
        · obtain ⟨x, hx⟩ : ∃ x, s.as[0]? = some x := ⟨_, List.getElem?_eq_getElem (by have := HL.out; omega)⟩
          obtain ⟨ub, uo, rfl, hub, x0⟩ := HCS.out 0 x hx
          have x1 : wr.cell? ⟨ub, uo, none⟩ = some (.int .i64 x) := carry HS.out x0
          have HE : Hid (z = (x, true)) := by
            show _ = _; rw [HZ.out]
            cases hq : s.as with
            | nil => rw [hq] at hx; cases hx
            | cons y r => rw [hq] at hx; cases hx; rfl
          have n1 : ((L : Int) == 0) = false := by simpa using hl0
          have n2 : (0 : Int) < (L : Int) := by omega
          have n3 : (L == 0) = false := by simpa using hl0
          have x2 := carry (below_alloc wr (.cells #[.int .i64 2, .slice (some ⟨ub, uo, none⟩) L ucap] 46)) x1
          clear HZ hx x0
          go_wp2
          go_ret2
          exact ⟨by rw [HE.out] <;> rfl, HS2.out⟩
      · have e1 : (s.k == 2) = false := by simpa using hkd
        have HA2 : Hid (∀ (j : Nat) (y : Sg), j < k + 1 → p[j]? = some y → decide (y.k = 2) = false) := fun j y hj hy => by
          by_cases e : j = k
          · subst e; have := HSS.out; rw [hy] at this; cases this; exact decide_eq_false hkd
          · exact HA.out j y (by omega) hy
        clear HA HSS hkd
        go_wp2_with fail
        go_roundg (n + 1 - (k + 1))
        case measure => omega
        case rel => exact ⟨k + 1, by omega, Nat.le_refl _, by go_num, ⟨_, rfl⟩, HA2, HS2⟩
    · have k1 : decide ((k : Int) < (n : Int)) = false := decide_eq_false (by omega)
      have HE : Hid (z = (0, false)) := by
        show _ = _; rw [HF.out, find_none (fun y hy => by
          obtain ⟨j, hj⟩ := List.getElem?_of_mem hy
          exact HA.out j y (by have := (List.getElem?_eq_some_iff.1 hj).1; have := HN.out; omega) hj)]
      clear HA HF
      go_wp2
      go_ret2
      exact ⟨by rw [HE.out] <;> rfl, HS.out⟩
theorem rorigin_any (p : List Sg) (v : Value) (w : World) (hv : RdS w v p) : Calls Tryz.prog 18 #[v] w fun e w' => e = .returned (.tuple #[.int .i64 (org p).1, .bool (org p).2]) ∧ Below w.heap.size w w' := by
  obtain ⟨ad, cap, rfl, h1, h2, hc⟩ := hv
  have HF : Hid (org p = match p.getLast? with | some s => (if s.k = 2 then (match s.as.getLast? with | some x => (x, true) | none => (0, false)) else (0, false)) | none => (0, false)) := rfl
  generalize org p = z at *
  obtain ⟨n, hn⟩ : ∃ n, p.length = n := ⟨_, rfl⟩
  rw [hn] at h1 ⊢
  have h63 := h2.1
  by_cases h0 : n = 0
  · have hp : p = [] := List.length_eq_zero_iff.1 (by omega)
    have HE : Hid (z = (0, false)) := by show _ = _; rw [HF.out, hp]; rfl
    subst h0
    clear HF hc hn hp
    go_enter Tryz.func18, Tryz.ntmps18
    go_wp2
    go_ret2
    exact ⟨by rw [HE.out] <;> rfl, Below.refl _ _⟩
  · obtain ⟨s, hs⟩ : ∃ s, p[n - 1]? = some s := ⟨_, List.getElem?_eq_getElem (by omega)⟩
    have HL : Hid (p.getLast? = some s) := by show _ = _; rw [List.getLast?_eq_getElem?, hn]; exact hs
    obtain ⟨b, off, u, rfl, hbb, c0, c1, hu⟩ := hc (n - 1) s hs
    obtain ⟨uad, ucap, rfl, u1, u2, hcs⟩ := hu
    have k0 : (0 : Int) ≤ (n : Int) - 1 := by omega
    have k1 : (n : Int) - 1 < (n : Int) := by omega
    have k2 : (1 : Int) ≤ (n : Int) := by omega
    have k3 : IntKind.i64.wrap ((n : Int) - 1) = (n : Int) - 1 := IntWalk.i64_in _ (by omega)
    have k4 : ((n : Int) - 1).toNat = n - 1 := by omega
    have k5 : ((n : Int) == 0) = false := by simp; omega
    have k6 : (n == 0) = false := by simp; omega
    have HE0 : Hid (z = if s.k = 2 then (match s.as.getLast? with | some x => (x, true) | none => (0, false)) else (0, false)) := by show _ = _; rw [HF.out, HL.out]
    obtain ⟨L, hL⟩ : ∃ L, s.as.length = L := ⟨_, rfl⟩
    rw [hL] at c1 u1
    have HC := Lib.hid hcs
    have hL63 : L ≤ 9223372036854775807 := by have := u2.1; omega
    have HLn := Lib.hid hL
    have HB1 : Hid (Below w.heap.size w (w.alloc (.cells #[.int .i64 s.k, .slice uad L ucap] 46))) := below_alloc _ _
    clear HF HL hc hn hs hcs hL u2 h2
    by_cases hk2 : s.k = 2
    · have e1 : (s.k != 2) = false := by simpa using hk2
      by_cases hl0 : L = 0
      · have hnil : s.as = [] := List.length_eq_zero_iff.1 (by rw [HLn.out]; exact hl0)
        have HE : Hid (z = (0, false)) := by show _ = _; rw [HE0.out, if_pos hk2, hnil]; rfl
        subst hl0
        clear HE0 hnil
        rw [hk2] at c0 HB1
        go_enter Tryz.func18, Tryz.ntmps18
        go_wp2
        go_ret2
        exact ⟨by rw [HE.out] <;> rfl, HB1.out⟩
      · obtain ⟨x, hx⟩ : ∃ x, s.as[L - 1]? = some x := ⟨_, List.getElem?_eq_getElem (by have := HLn.out; omega)⟩
        obtain ⟨ub, uo, rfl, hub, x0⟩ := HC.out (L - 1) x hx
        have HE : Hid (z = (x, true)) := by show _ = _; rw [HE0.out, if_pos hk2, List.getLast?_eq_getElem?, HLn.out, hx]
        have x1 := carry HB1.out x0
        rw [hk2] at c0 HB1 x1
        have j0 : (0 : Int) ≤ (L : Int) - 1 := by omega
        have j1 : (L : Int) - 1 < (L : Int) := by omega
        have j2 : (1 : Int) ≤ (L : Int) := by omega
        have j3 : IntKind.i64.wrap ((L : Int) - 1) = (L : Int) - 1 := IntWalk.i64_in _ (by omega)
        have j4 : ((L : Int) - 1).toNat = L - 1 := by omega
        have j5 : ((L : Int) == 0) = false := by simp; omega
        have j6 : (L == 0) = false := by simp; omega
        clear HE0 hx hk2 e1
        go_enter Tryz.func18, Tryz.ntmps18
        go_wp2
        go_ret2
        exact ⟨by rw [HE.out] <;> rfl, HB1.out⟩
    · have e1 : (s.k != 2) = true := by simpa using hk2
      have e2 : (s.k == 2) = false := by simpa using hk2
      have HE : Hid (z = (0, false)) := by show _ = _; rw [HE0.out, if_neg hk2]
      clear HE0 hk2
      go_enter Tryz.func18, Tryz.ntmps18
      go_wp2
      go_ret2
      exact ⟨by rw [HE.out] <;> rfl, HB1.out⟩
end
end Go.Proofs.YtiobfgcpbihbhaaGreatDoor
namespace Go.Proofs.YtiobfgcpbihbhaaGreatDoor
section
open Go.RowKit P
set_option linter.unusedSimpArgs false
set_option linter.unusedVariables false
set_option maxHeartbeats 1500000
set_option maxRecDepth 100000
/-- 'append(s, x...)' at a step of a region that draws: s the call's own and not nil, numbers -/
theorem step_ints {w : World} {ops : Array Oper} {o : Oper} {a : Act} {K : Act → World → Prop} {Q : Exit → Act → World → Prop} {E : Prop} (hgd : o.guard = none) (s x : Operand)
    (ho : o.op = .call { callee := .builtin .append, args := #[s, x], argTypes := #[34, 34] }) (B : Nat) (hB : B ≤ w.heap.size)
    (g0 c0 : Nat) (hs : a.eval s = .slice (some ⟨g0, 0, none⟩) 0 c0) (hown : w.ownsRow B 3 1 (.slice (some ⟨g0, 0, none⟩) 0 c0) 0 []) (vx : Value) (m : List Int) (hx : a.eval x = vx) (hr : RdI w vx m) (hlen : m.length ≤ 2000000)
    (h : ∀ g cap w', OwnI B w' (.slice (some ⟨g, 0, none⟩) m.length cap) m → Below B w w' → K (a.put o.dst (.slice (some ⟨g, 0, none⟩) m.length cap)) w') : if Region.wanted o (yielded ops a.tmps) = true then Oper.wp Tryz.prog o a w K Q else E := by
  obtain ⟨i0, hi, hz0, hz1, hz2⟩ := infoE_parts info3
  obtain ⟨ad, cap, e, hcap, ⟨h63, hnil⟩, hc⟩ := id hr
  subst e
  have hw : Region.wanted o (yielded ops a.tmps) = true := by simp [Region.wanted, hgd]
  have hown0 : OwnI B w (.slice (some ⟨g0, 0, none⟩) 0 c0) [] := ⟨hB, hown⟩
  cases ad with
  | none =>
    have h0 : m = [] := by
      cases m with
      | nil => rfl
      | cons y r => obtain ⟨b, off, e, _⟩ := hc 0 y rfl; cases e
    subst h0
    have hcap : cap = 0 := hnil rfl
    subst hcap
    have hrun := run_append_owned_none (P := Tryz.prog) (w := w) B 34 o.type 3 i0 1 Tryz.underlying34 hi _ 0 [] hown
    rw [if_pos hw]
    unfold Oper.wp
    have hx' : a.eval x = .slice none 0 0 := hx
    simp [execOp, ho, resolve, invoke, builtin, hs, hx', hrun, Result.andThen]
    exact h g0 c0 w hown0 (Below.refl _ _)
  | some A =>
    by_cases h0 : m.length = 0
    · have hm0 : m = [] := List.length_eq_zero_iff.1 h0
      subst hm0
      have hrun := run_append_owned_zero (P := Tryz.prog) (w := w) B 34 o.type 3 i0 1 Tryz.underlying34 hi _ 0 [] hown A cap
      rw [if_pos hw]
      unfold Oper.wp
      have hx' : a.eval x = .slice (some A) 0 cap := hx
      simp [execOp, ho, resolve, invoke, builtin, hs, hx', hrun, Result.andThen]
      exact h g0 c0 w hown0 (Below.refl _ _)
    · have hsp : ∀ j u, (ints m)[j]? = some u → w.cell? (A.add j) = some u := fun j u hj => by
        unfold ints at hj
        rw [List.getElem?_map] at hj
        cases hx : m[j]? with
        | none => rw [hx] at hj; cases hj
        | some y =>
          rw [hx] at hj
          obtain rfl := Option.some.inj hj
          obtain ⟨b, off, e, _, hcell⟩ := hc j y hx
          injection e with e
          subst e
          rw [Addr.add_lit]; exact hcell
      refine step_append_lies w hgd s x 34 ho B 3 i0 (.int .i64 0) 1 8 Tryz.underlying34 hi hz0 hz1 hz2 rfl (by decide) _ 0 [] hs hown A m.length cap (ints m) hx (by simp [ints]) hsp (ints_one m) (by omega) (by unfold maxLen; omega) (by omega) hB w.heap.size rfl fun g' cap' w' h1 h2 _ _ => ?_
      have hb := (Below.refl _ w).grown h2 hB (fun k hk => (row_lt hown hk).1)
      rw [Nat.zero_add] at h1 ⊢
      exact h g' cap' w' ⟨Nat.le_trans hB hb.size, by simpa using h1⟩ hb
/-- a segment behind a row of the call's own, at a step of a region that draws -/
theorem step_seg {w : World} {ops : Array Oper} {o : Oper} {a : Act} {K : Act → World → Prop} {Q : Exit → Act → World → Prop} {E : Prop} (hgd : o.guard = none) (s x : Operand)
    (ho : o.op = .call { callee := .builtin .append, args := #[s, x], argTypes := #[22, 22] }) (B : Nat) (hB : B ≤ w.heap.size)
    (v : Value) (p : List Sg) (hs : a.eval s = v) (hown : OwnP B w v p) (c : Nat) (kd : Int) (u : Value) (ns : List Int) (hx : a.eval x = .slice (some ⟨c, 0, none⟩) 1 1) (hc0 : w.cell? ⟨c, 0, none⟩ = some (.int .i64 kd)) (hc1 : w.cell? ⟨c, 1, none⟩ = some u)
    (hu : ∀ g, (v.ownBlock = some g ∨ (v.ownBlock = none ∧ g = w.heap.size)) → RdN g w u ns) (hlen : p.length ≤ 2000000)
    (h : ∀ g cap w', OwnP B w' (.slice (some ⟨g, 0, none⟩) (p.length + 1) cap) (p ++ [⟨kd, ns⟩]) → Below B w w' → K (a.put o.dst (.slice (some ⟨g, 0, none⟩) (p.length + 1) cap)) w') : if Region.wanted o (yielded ops a.tmps) = true then Oper.wp Tryz.prog o a w K Q else E := by
  obtain ⟨i0, hi, hz0, hz1, hz2⟩ := infoE_parts info46
  obtain ⟨g, q, hq, hrow, hgq⟩ : ∃ g q, Prs g w q p ∧ w.ownsRow B 46 2 v p.length (flatQ q) ∧ (v.ownBlock = some g ∨ (v.ownBlock = none ∧ g = w.heap.size)) := by
    rcases hown.2 with ⟨rfl, rfl⟩ | ⟨g, cap, q, rfl, ho', hp⟩
    · exact ⟨w.heap.size, [], ⟨rfl, fun k s hk => by simp at hk⟩, World.ownsRow_nil _ _ _ _, .inr ⟨rfl, rfl⟩⟩
    · exact ⟨g, q, hp, ho', .inl rfl⟩
  have hug := hu g hgq
  have hone : ∀ x ∈ [Value.int .i64 kd, u], x.oneCell' = true := by
    intro x hx
    obtain ⟨ad, cap, e, _⟩ := hug
    simp at hx
    rcases hx with rfl | rfl
    · rfl
    · subst e; rfl
  have hcell : ∀ j x, [Value.int .i64 kd, u][j]? = some x → w.cell? ((⟨c, 0, none⟩ : Addr).add j) = some x := by
    intro j x hj
    match j, hj with
    | 0, hj => simp at hj; subst hj; rw [Addr.add_lit]; exact hc0
    | 1, hj => simp at hj; subst hj; rw [Addr.add_lit]; exact hc1
    | j + 2, hj => simp at hj
  refine step_append_lies _ hgd s x 22 ho B 46 i0 (.agg #[.int .i64 0, .slice none 0 0]) 2 32 Tryz.underlying22 hi hz0 hz1 hz2 rfl (by decide) v p.length (flatQ q) hs hrow ⟨c, 0, none⟩ 1 1 [.int .i64 kd, u] hx rfl hcell hone (by decide) (by unfold maxLen; omega) (by omega) hB w.heap.size rfl fun g' cap' w' h1 h2 h3 h4 => ?_
  have hb : Below B w w' := (Below.refl _ w).grown h2 hB (fun k hk => (row_lt hrow hk).1)
  have hgg : g' = g ∨ g' = w.heap.size := by
    rcases h3 with e | e
    · rcases hgq with e2 | ⟨e2, _⟩
      · rw [e] at e2; cases e2; exact .inl rfl
      · rw [e] at e2; cases e2
    · exact .inr e
  have hrk : ∀ k, v.ownBlock = some k → k = g ∨ False := fun k hk => by
    rcases hgq with e2 | ⟨e2, _⟩
    · rw [hk] at e2; cases e2; exact .inl rfl
    · rw [hk] at e2; cases e2
  refine h _ _ _ ⟨Nat.le_trans hB hb.size, .inr ⟨g', cap', q ++ [(kd, u)], by rw [List.length_append]; rfl, ?_, ?_⟩⟩ hb
  · rw [flatQ_app, List.length_append]; exact h1
  · refine ⟨by rw [List.length_append, List.length_append, hq.1]; rfl, fun k s hk => ?_⟩
    by_cases hkl : k < p.length
    · rw [List.getElem?_append_left hkl] at hk
      obtain ⟨u', e1, e2⟩ := hq.2 k s hk
      exact ⟨u', by rw [List.getElem?_append_left (by rw [hq.1]; exact hkl)]; exact e1, e2.grown h2 (fun j hj => (hrk j hj).elim id False.elim) hgg⟩
    · have hk2 := (List.getElem?_eq_some_iff.1 hk).1
      rw [List.length_append] at hk2
      have e : k = p.length := by simp at hk2; omega
      subst e
      rw [List.getElem?_append_right (Nat.le_refl _), Nat.sub_self] at hk
      cases hk
      exact ⟨u, by rw [List.getElem?_append_right (by rw [hq.1]; exact Nat.le_refl _), hq.1, Nat.sub_self]; rfl, hug.grown h2 (fun j hj => (hrk j hj).elim id False.elim) hgg⟩
end
end Go.Proofs.YtiobfgcpbihbhaaGreatDoor
namespace Go.Proofs.YtiobfgcpbihbhaaGreatDoor
section
open Go.RowKit P
set_option linter.unusedSimpArgs false
set_option linter.unusedVariables false
set_option maxHeartbeats 1500000
set_option maxRecDepth 100000
theorem rclone_any (p : List Sg) (v : Value) (w : World) (hl : p.length ≤ 2000000) (hf : (flat p).length ≤ 2000000) (hv : RdS w v p) :
    Calls Tryz.prog 52 #[v] w fun e w' => ∃ v', e = .returned v' ∧ OwnP w.heap.size w' v' p ∧ Below w.heap.size w w' := by
  obtain ⟨ad, cap, rfl, h1, h2, hc⟩ := hv
  have HC := Lib.hid hc
  obtain ⟨n, hn⟩ : ∃ n, p.length = n := ⟨_, rfl⟩
  rw [hn] at h1 hl ⊢
  have HN := Lib.hid hn
  have HLE := Lib.hid (flat_all_le hf)
  have HO0 : Hid (OwnP w.heap.size w (.slice none 0 0) (p.take 0)) := by show OwnP _ _ _ _; rw [List.take_zero]; exact OwnP.nil _ _ (Nat.le_refl _)
  have HS0 : Hid (Below w.heap.size w w) := Below.refl _ _
  clear hc hn hf h2
  go_enter Tryz.func52, Tryz.ntmps52
  go_wp2_with fail
  go_loopg [3, 5, 8] (n + 1) (fun g s3 s5 s8 wr => ∃ (k : Nat) (v3 : Value), k ≤ n ∧ n + 1 - k ≤ g ∧ v3 = s3 ∧ (∃ q, q = s5) ∧ s8 = .int .i64 (k : Int) ∧ Hid (OwnP w.heap.size wr v3 (p.take k)) ∧ Hid (Below w.heap.size w wr))
  case atStart => exact ⟨0, _, by omega, by omega, rfl, ⟨_, rfl⟩, rfl, HO0, HS0⟩
  case round =>
    clear HO0 HS0
    obtain ⟨k, v3, hk, hkg, rfl, ⟨u5, rfl⟩, rfl, HO, HS⟩ := hrel
    by_cases hlt : k < n
    · obtain ⟨s, hs⟩ : ∃ s, p[k]? = some s := ⟨_, List.getElem?_eq_getElem (by have := HN.out; omega)⟩
      have HTK : Hid (p.take (k + 1) = p.take k ++ [s]) := by show _ = _; rw [List.take_add_one, hs]; rfl
      have hsl := HLE.out k s hs
      obtain ⟨b, off, u, rfl, hbb, c0, c1, hu⟩ := HC.out k s hs
      have d0 := carry HS.out c0
      have d1 := carry HS.out c1
      have k0 : (0 : Int) ≤ (k : Int) := by omega
      have k1 : (k : Int) < (n : Int) := by omega
      obtain ⟨uad, ucap, hff⟩ := hu.form
      subst hff
      obtain ⟨ns, hns⟩ : ∃ ns, s.as = ns := ⟨_, rfl⟩
      obtain ⟨kd, hkd⟩ : ∃ kd, s.k = kd := ⟨_, rfl⟩
      have hse : s = ⟨kd, ns⟩ := by rw [← hns, ← hkd]
      rw [hns] at hu d1 hsl
      rw [hkd] at d0
      have HSE := Lib.hid hse
      obtain ⟨pre, hpre⟩ : ∃ pre, p.take k = pre := ⟨_, rfl⟩
      rw [hpre] at HO HTK
      have hpl : pre.length ≤ 2000000 := by rw [← hpre, List.length_take]; have := HN.out; omega
      obtain ⟨L, hL⟩ : ∃ L, ns.length = L := ⟨_, rfl⟩
      rw [hL] at d1 hu hsl
      have HL := Lib.hid hL
      have HUw := Lib.hid hu
      clear hu c0 c1 hs hns hkd hse hpre hL
      go_wp2_with fail
      have hbw : Below wr.heap.size wr (wr.alloc (.cells #[.int .i64 kd, .slice uad L ucap] 46)) := below_alloc _ _
      have f0 : (wr.alloc (.cells #[.int .i64 kd, .slice uad L ucap] 46)).cell? ⟨wr.heap.size, 0, none⟩ = some (.int .i64 kd) := cell_of (heap_alloc_new _ _) rfl
      have f1 : (wr.alloc (.cells #[.int .i64 kd, .slice uad L ucap] 46)).cell? ⟨wr.heap.size, 1, none⟩ = some (.slice uad L ucap) := cell_of (heap_alloc_new _ _) rfl
      have hbz : wr.heap.size < (wr.alloc (.cells #[.int .i64 kd, .slice uad L ucap] 46)).heap.size := by simp
      have HOW := Lib.hid (HO.out.below hbw)
      have HBW := Lib.hid (below_then HS.out hbw)
      clear HO d0 d1
      generalize hWb : wr.alloc (.cells #[.int .i64 kd, .slice uad L ucap] 46) = Wb at *
      have hX : Below Wb.heap.size Wb (Wb.drew.alloc (.cells #[] 3)) := (Below.refl _ Wb).drew.alloc (Nat.le_refl _) _
      have a0 := carry hX f0
      have a1 := carry hX f1
      have HO1 : Hid ((Wb.drew.alloc (.cells #[] 3)).ownsRow Wb.heap.size 3 1 (.slice (some ⟨Wb.heap.size, 0, none⟩) 0 0) 0 []) := World.ownsRow_made Wb.drew #[] 0 (Nat.le_refl _) (Nat.zero_le _) (by simp)
      have HR1 : Hid (RdI (Wb.drew.alloc (.cells #[] 3)) (.slice uad L ucap) ns) := HUw.out.below (HBW.out.trans (hX.mono HBW.out.size))
      have HB1 : Hid (Wb.heap.size ≤ (Wb.drew.alloc (.cells #[] 3)).heap.size) := hX.size
      have HLL : Hid (ns.length ≤ 2000000) := by show _ ≤ _; rw [HL.out]; exact hsl
      have HP1 : Hid (∀ (w1 : World) (g1 e1 : Nat), OwnI Wb.heap.size w1 (.slice (some ⟨g1, 0, none⟩) ns.length e1) ns → Below Wb.heap.size (Wb.drew.alloc (.cells #[] 3)) w1 →
          OwnP w.heap.size (w1.alloc (.cells #[.int .i64 kd, .slice (some ⟨g1, 0, none⟩) ns.length e1] 46)) v3 pre ∧ Below w.heap.size w (w1.alloc (.cells #[.int .i64 kd, .slice (some ⟨g1, 0, none⟩) ns.length e1] 46)) ∧
          (w1.alloc (.cells #[.int .i64 kd, .slice (some ⟨g1, 0, none⟩) ns.length e1] 46)).cell? ⟨w1.heap.size, 0, none⟩ = some (.int .i64 kd) ∧ (w1.alloc (.cells #[.int .i64 kd, .slice (some ⟨g1, 0, none⟩) ns.length e1] 46)).cell? ⟨w1.heap.size, 1, none⟩ = some (.slice (some ⟨g1, 0, none⟩) ns.length e1) ∧
          (∀ g, (v3.ownBlock = some g ∨ (v3.ownBlock = none ∧ g = (w1.alloc (.cells #[.int .i64 kd, .slice (some ⟨g1, 0, none⟩) ns.length e1] 46)).heap.size)) → RdN g (w1.alloc (.cells #[.int .i64 kd, .slice (some ⟨g1, 0, none⟩) ns.length e1] 46)) (.slice (some ⟨g1, 0, none⟩) ns.length e1) ns) ∧
          w1.cell? ⟨wr.heap.size, 0, none⟩ = some (.int .i64 kd)) := fun w1 g1 e1 h1 h2 => by
        have hbb : Below Wb.heap.size Wb w1 := hX.trans h2
        have hba : Below Wb.heap.size Wb (w1.alloc (.cells #[.int .i64 kd, .slice (some ⟨g1, 0, none⟩) ns.length e1] 46)) := hbb.alloc hbb.size _
        refine ⟨HOW.out.below hba, HBW.out.trans (hba.mono HBW.out.size), cell_of (heap_alloc_new _ _) rfl, cell_of (heap_alloc_new _ _) rfl, fun g hg => ?_, carry hbb f0⟩
        rcases hg with e | ⟨_, e⟩
        · have hgl : g < Wb.heap.size := by
            rcases HOW.out.2 with ⟨e2, _⟩ | ⟨g', cap', q', e2, ho', _⟩
            · rw [e2] at e; cases e
            · rw [e2] at e; cases e; exact (ownsRow_lt (e2 ▸ ho')).2
          exact (h1.away hgl).below (below_alloc _ _)
        · rw [e]
          exact h1.rd.away (by simp) (below_alloc _ _)
      clear hX HOW HBW HUw hWb
      go_region_law (first
        | (refine step_ints (by rfl) (.tmp 15) (.tmp 17) (by rfl) Wb.heap.size HB1.out Wb.heap.size 0 (by rfl) HO1.out (.slice uad L ucap) ns (by rfl) HR1.out HLL.out ?_; intro g1 e1 w1 hx1 hx2; have P1 := Lib.hid (HP1.out w1 g1 e1 hx1 hx2); have q0 := P1.out.2.2.2.2.2; clear hx1 hx2)
        | (refine step_seg (by rfl) (.tmp 12) (.tmp 20) (by rfl) w.heap.size P1.out.2.1.size v3 pre (by rfl) P1.out.1 w1.heap.size kd _ ns (by rfl) P1.out.2.2.1 P1.out.2.2.2.1 P1.out.2.2.2.2.1 hpl ?_; intro g2 e2 w2 hy1 hy2; have P2 := Lib.hid (And.intro hy1 (P1.out.2.1.trans hy2)); clear hy1 hy2))
      all_goals (
        have HO3 : Hid (OwnP w.heap.size w2 (.slice (some ⟨g2, 0, none⟩) (pre.length + 1) e2) (p.take (k + 1))) := by
          show OwnP _ _ _ _; rw [HTK.out, HSE.out]; exact P2.out.1
        go_wp2_with fail
        go_roundg (n + 1 - (k + 1))
        case measure => omega
        case rel => exact ⟨k + 1, _, by omega, Nat.le_refl _, rfl, ⟨_, rfl⟩, by go_num, HO3, P2.out.2⟩)
    · have k1 : decide ((k : Int) < (n : Int)) = false := decide_eq_false (by omega)
      have HE : Hid (p.take k = p) := by show _ = _; rw [List.take_of_length_le (by rw [HN.out]; omega)]
      have HO2 : Hid (OwnP w.heap.size wr v3 p) := HE.out ▸ HO.out
      clear HO
      go_wp2
      go_ret
      exact ⟨_, rfl, HO2.out, HS.out⟩
theorem P.strip_len (p : List Sg) : (strip p).length ≤ p.length := List.length_filter_le _ _
theorem P.strip_flat : ∀ p : List Sg, (flat (strip p)).length ≤ (flat p).length
  | [] => Nat.le_refl _
  | s :: p => by
    have ih := strip_flat p
    unfold strip at *
    rw [List.filter_cons]
    split
    · rw [flat_cons, flat_cons, List.length_append, List.length_append]; omega
    · rw [flat_cons, List.length_append]; omega
theorem rstrip_any (p : List Sg) (v : Value) (w : World) (hl : p.length ≤ 2000000) (hf : (flat p).length ≤ 2000000) (hv : RdS w v p) :
    Calls Tryz.prog 25 #[v] w fun e w' => ∃ v', e = .returned v' ∧ RdS w' v' (strip p) ∧ Below w.heap.size w w' := by
  have HCL : Hid (∀ (W : World) (u : Value), RdS W u (strip p) → Calls Tryz.prog 52 #[u] W fun e w' => ∃ v', e = .returned v' ∧ OwnP W.heap.size w' v' (strip p) ∧ Below W.heap.size W w') := fun W u h => rclone_any _ u W (Nat.le_trans (strip_len p) hl) (Nat.le_trans (strip_flat p) hf) h
  obtain ⟨ad, cap, rfl, h1, h2, hc⟩ := hv
  have HC := Lib.hid hc
  obtain ⟨n, hn⟩ : ∃ n, p.length = n := ⟨_, rfl⟩
  rw [hn] at h1 hl ⊢
  have HN := Lib.hid hn
  have HO0 : Hid (OwnP w.heap.size w (.slice none 0 0) (strip (p.take 0))) := by show OwnP _ _ _ _; rw [List.take_zero]; exact OwnP.nil _ _ (Nat.le_refl _)
  have HS0 : Hid (Below w.heap.size w w) := Below.refl _ _
  clear hc hn hf h2
  go_enter Tryz.func25, Tryz.ntmps25
  go_wp2_with fail
  go_loopg [3, 5, 8] (n + 1) (fun g s3 s5 s8 wr => ∃ (k : Nat) (v3 : Value), k ≤ n ∧ n + 1 - k ≤ g ∧ v3 = s3 ∧ (∃ q, q = s5) ∧ s8 = .int .i64 (k : Int) ∧ Hid (OwnP w.heap.size wr v3 (strip (p.take k))) ∧ Hid (Below w.heap.size w wr))
  case atStart => exact ⟨0, _, by omega, by omega, rfl, ⟨_, rfl⟩, rfl, HO0, HS0⟩
  case round =>
    clear HO0 HS0
    obtain ⟨k, v3, hk, hkg, rfl, ⟨u5, rfl⟩, rfl, HO, HS⟩ := hrel
    by_cases hlt : k < n
    · obtain ⟨s, hs⟩ : ∃ s, p[k]? = some s := ⟨_, List.getElem?_eq_getElem (by have := HN.out; omega)⟩
      have HTK := Lib.hid (strip_snoc hs)
      obtain ⟨b, off, u, rfl, hbb, c0, c1, hu⟩ := HC.out k s hs
      have d0 := carry HS.out c0
      have d1 := carry HS.out c1
      have k0 : (0 : Int) ≤ (k : Int) := by omega
      have k1 : (k : Int) < (n : Int) := by omega
      have HUw := Lib.hid hu
      obtain ⟨uad, ucap, hff⟩ := hu.form
      subst hff
      obtain ⟨ns, hns⟩ : ∃ ns, s.as = ns := ⟨_, rfl⟩
      obtain ⟨kd, hkd⟩ : ∃ kd, s.k = kd := ⟨_, rfl⟩
      have hse : s = ⟨kd, ns⟩ := by rw [← hns, ← hkd]
      rw [hns] at d1 HUw
      rw [hkd] at d0 HTK
      have HSE := Lib.hid hse
      obtain ⟨pre, hpre⟩ : ∃ pre, strip (p.take k) = pre := ⟨_, rfl⟩
      have hpl : pre.length ≤ 2000000 := by
        rw [← hpre]; refine Nat.le_trans (strip_len _) ?_; rw [List.length_take]; have := HN.out; omega
      rw [hpre] at HO HTK
      have HCF : Hid (∀ W, Calls Tryz.prog 51 #[.int .i64 kd] W fun e w' => e = .returned (.bool (isConf kd)) ∧ w' = W) := fun W => conf51_same kd W
      obtain ⟨L, hL⟩ : ∃ L, ns.length = L := ⟨_, rfl⟩
      rw [hL] at d1 HUw
      have HB1 : Hid (∀ o, OwnP w.heap.size (wr.alloc o) v3 pre ∧ Below w.heap.size w (wr.alloc o)) := fun o => ⟨HO.out.below (below_alloc _ _), below_then HS.out (below_alloc _ _)⟩
      clear hu c0 c1 hs hns hkd hse hpre hL HO HS
      cases hcf : isConf kd with
      | true =>
        rw [hcf] at HCF HTK
        have HO2 : Hid (OwnP w.heap.size (wr.alloc (.cells #[.int .i64 kd, .slice uad L ucap] 46)) v3 (strip (p.take (k + 1)))) := by
          show OwnP _ _ _ _; rw [HTK.out]; simpa using (HB1.out _).1
        have HS2 := Lib.hid (HB1.out (.cells #[.int .i64 kd, .slice uad L ucap] 46)).2
        clear HB1 HTK hcf
        go_wp2_with fail
        go_at_call 51
        refine (HCF.out _).mono ?_
        rintro e w2 ⟨rfl, rfl⟩
        go_wp2_with fail
        go_roundg (n + 1 - (k + 1))
        case measure => omega
        case rel => exact ⟨k + 1, _, by omega, Nat.le_refl _, rfl, ⟨_, rfl⟩, by go_num, HO2, HS2⟩
      | false =>
        rw [hcf] at HCF HTK
        have HTK2 : Hid (strip (p.take (k + 1)) = pre ++ [⟨kd, ns⟩]) := by
          show _ = _; rw [HTK.out, HSE.out]; rfl
        clear HTK hcf HSE
        have H0 := Lib.hid (HB1.out (.cells #[.int .i64 kd, .slice uad L ucap] 46))
        have f0 : (wr.alloc (.cells #[.int .i64 kd, .slice uad L ucap] 46)).cell? ⟨wr.heap.size, 0, none⟩ = some (.int .i64 kd) := cell_of (heap_alloc_new _ _) rfl
        have f1 : (wr.alloc (.cells #[.int .i64 kd, .slice uad L ucap] 46)).cell? ⟨wr.heap.size, 1, none⟩ = some (.slice uad L ucap) := cell_of (heap_alloc_new _ _) rfl
        clear HB1
        go_wp2_with fail
        go_at_call 51
        refine (HCF.out _).mono ?_
        rintro e w2 ⟨rfl, rfl⟩
        clear HCF
        generalize hWb : wr.alloc (.cells #[.int .i64 kd, .slice uad L ucap] 46) = Wb at *
        have H1 : Hid (OwnP w.heap.size (Wb.alloc (.cells #[.int .i64 kd, .slice uad L ucap] 46)) v3 pre ∧ Below w.heap.size w (Wb.alloc (.cells #[.int .i64 kd, .slice uad L ucap] 46))) := ⟨H0.out.1.below (below_alloc _ _), below_then H0.out.2 (below_alloc _ _)⟩
        have H2 : Hid (∀ g, (v3.ownBlock = some g ∨ (v3.ownBlock = none ∧ g = (Wb.alloc (.cells #[.int .i64 kd, .slice uad L ucap] 46)).heap.size)) → RdN g (Wb.alloc (.cells #[.int .i64 kd, .slice uad L ucap] 46)) (.slice uad L ucap) ns) := (fun g hg => HUw.out.away (hg.elim (fun e => H1.out.1.lt e) (fun e => by have h2 := e.2; have := H1.out.2.size; omega)) H1.out.2)
        have H3 : Hid ((Wb.alloc (.cells #[.int .i64 kd, .slice uad L ucap] 46)).cell? ⟨Wb.heap.size, 0, none⟩ = some (.int .i64 kd) ∧ (Wb.alloc (.cells #[.int .i64 kd, .slice uad L ucap] 46)).cell? ⟨Wb.heap.size, 1, none⟩ = some (.slice uad L ucap)) := ⟨cell_of (heap_alloc_new _ _) rfl, cell_of (heap_alloc_new _ _) rfl⟩
        clear hWb HUw H0 d0 d1
        go_wp2_with (at_builtin; refine append_seg rfl (.tmp 16) (.tmp 18) rfl w.heap.size H1.out.2.size v3 pre rfl H1.out.1 Wb.heap.size kd (.slice uad L ucap) ns rfl H3.out.1 H3.out.2 H2.out hpl ?_; intro v2 w2 hown hgrow hbl hbk; have S2 : Hid (OwnP w.heap.size w2 v2 (strip (p.take (k + 1)))) := (by show OwnP _ _ _ _; rw [HTK2.out]; exact hown); have B2 : Hid (Below w.heap.size w w2) := H1.out.2.trans hbl; clear hown hgrow hbl hbk)
        go_roundg (n + 1 - (k + 1))
        case measure => omega
        case rel => exact ⟨k + 1, _, by omega, Nat.le_refl _, rfl, ⟨_, rfl⟩, by go_num, S2, B2⟩
    · have k1 : decide ((k : Int) < (n : Int)) = false := decide_eq_false (by omega)
      have HE : Hid (p.take k = p) := by show _ = _; rw [List.take_of_length_le (by rw [HN.out]; omega)]
      have HO2 : Hid (OwnP w.heap.size wr v3 (strip p)) := HE.out ▸ HO.out
      have HK := Lib.hid (HCL.out wr v3 HO2.out.rd)
      obtain ⟨va, vc, hvf⟩ := HO2.out.rd.form
      subst hvf
      clear HO HCL HO2
      go_wp2_with fail
      go_at_call 52
      refine HK.out.mono ?_
      rintro e w2 ⟨v2, rfl, ho, hb⟩
      have HR : Hid (RdS w2 v2 (strip p) ∧ Below w.heap.size w w2) := ⟨ho.rd, below_then HS.out hb⟩
      obtain ⟨va2, vc2, hvf2⟩ := ho.rd.form
      subst hvf2
      clear ho hb HK
      go_wp2
      go_ret
      exact ⟨_, rfl, HR.out.1, HR.out.2⟩
end
end Go.Proofs.YtiobfgcpbihbhaaGreatDoor
namespace Go.Proofs.YtiobfgcpbihbhaaGreatDoor
section
open Go.RowKit P
set_option linter.unusedSimpArgs false
set_option linter.unusedVariables false
set_option maxHeartbeats 1500000
set_option maxRecDepth 100000
theorem RdN.grown2 {g h : Nat} {row : Option Nat} {w w' : World} {v : Value} {l : List Int} (hh : RdN h w v l) (hg0 : RdN g w v l) (hg : w.grownBy w' row) (hr : ∀ k, row = some k → k = g) : RdN h w' v l := by
  obtain ⟨ad, cap, e, h1, h2, hc⟩ := hh
  obtain ⟨ad', cap', e', _, _, hc'⟩ := hg0
  rw [e] at e'
  injection e' with e1 e2 e3
  subst e1
  refine ⟨ad, cap, e, h1, h2, fun k x hk => ?_⟩
  obtain ⟨b, off, a1, a2, a3, a4⟩ := hc k x hk
  obtain ⟨b', off', a1', _, a3', _⟩ := hc' k x hk
  rw [a1] at a1'
  cases a1'
  exact ⟨b, off, a1, Nat.lt_of_lt_of_le a2 hg.size, a3, by rw [← a4]; exact World.cell?_of_block (hg.block b a2 (fun e => a3' (hr b e.symm)))⟩
theorem OwnF.below {B : Nat} {w w1 : World} {v : Value} {p : List Sg} (h : OwnF B w v p) (hb : Below w.heap.size w w1) : OwnF B w1 v p := by
  refine ⟨Nat.le_trans h.1 hb.size, ?_⟩
  rcases h.2 with h0 | ⟨g, cap, q, e, ho, hp, hf⟩
  · exact .inl h0
  · exact .inr ⟨g, cap, q, e, row_below ho hb, hp.below hb, hf.below hb⟩
/-- a segment behind a row of the call's own, at a step of a region that draws -/
theorem step_segF {w : World} {ops : Array Oper} {o : Oper} {a : Act} {K : Act → World → Prop} {Q : Exit → Act → World → Prop} {E : Prop} (hgd : o.guard = none) (s x : Operand)
    (ho : o.op = .call { callee := .builtin .append, args := #[s, x], argTypes := #[22, 22] }) (B : Nat) (hB : B ≤ w.heap.size)
    (v : Value) (p : List Sg) (hs : a.eval s = v) (hown : OwnF B w v p) (c : Nat) (kd : Int) (u : Value) (ns : List Int) (hx : a.eval x = .slice (some ⟨c, 0, none⟩) 1 1) (hc0 : w.cell? ⟨c, 0, none⟩ = some (.int .i64 kd)) (hc1 : w.cell? ⟨c, 1, none⟩ = some u)
    (hu : ∀ g, (v.ownBlock = some g ∨ (v.ownBlock = none ∧ g = w.heap.size)) → RdN g w u ns) (huF : ∀ h, h < B → RdN h w u ns) (hlen : p.length ≤ 2000000)
    (h : ∀ g cap w', OwnF B w' (.slice (some ⟨g, 0, none⟩) (p.length + 1) cap) (p ++ [⟨kd, ns⟩]) → Below B w w' → K (a.put o.dst (.slice (some ⟨g, 0, none⟩) (p.length + 1) cap)) w') : if Region.wanted o (yielded ops a.tmps) = true then Oper.wp Tryz.prog o a w K Q else E := by
  obtain ⟨i0, hi, hz0, hz1, hz2⟩ := infoE_parts info46
  obtain ⟨g, q, hfr, hq, hrow, hgq⟩ : ∃ g q, Frs B w q p p.length ∧ Prs g w q p ∧ w.ownsRow B 46 2 v p.length (flatQ q) ∧ (v.ownBlock = some g ∨ (v.ownBlock = none ∧ g = w.heap.size)) := by
    rcases hown.2 with ⟨rfl, rfl⟩ | ⟨g, cap, q, rfl, ho', hp, hfr⟩
    · exact ⟨w.heap.size, [], (fun k s h => by simp at h), ⟨rfl, fun k s hk => by simp at hk⟩, World.ownsRow_nil _ _ _ _, .inr ⟨rfl, rfl⟩⟩
    · exact ⟨g, q, hfr, hp, ho', .inl rfl⟩
  have hug := hu g hgq
  have hone : ∀ x ∈ [Value.int .i64 kd, u], x.oneCell' = true := by
    intro x hx
    obtain ⟨ad, cap, e, _⟩ := hug
    simp at hx
    rcases hx with rfl | rfl
    · rfl
    · subst e; rfl
  have hcell : ∀ j x, [Value.int .i64 kd, u][j]? = some x → w.cell? ((⟨c, 0, none⟩ : Addr).add j) = some x := by
    intro j x hj
    match j, hj with
    | 0, hj => simp at hj; subst hj; rw [Addr.add_lit]; exact hc0
    | 1, hj => simp at hj; subst hj; rw [Addr.add_lit]; exact hc1
    | j + 2, hj => simp at hj
  refine step_append_lies _ hgd s x 22 ho B 46 i0 (.agg #[.int .i64 0, .slice none 0 0]) 2 32 Tryz.underlying22 hi hz0 hz1 hz2 rfl (by decide) v p.length (flatQ q) hs hrow ⟨c, 0, none⟩ 1 1 [.int .i64 kd, u] hx rfl hcell hone (by decide) (by unfold maxLen; omega) (by omega) hB w.heap.size rfl fun g' cap' w' h1 h2 h3 h4 => ?_
  have hb : Below B w w' := (Below.refl _ w).grown h2 hB (fun k hk => (row_lt hrow hk).1)
  have hgg : g' = g ∨ g' = w.heap.size := by
    rcases h3 with e | e
    · rcases hgq with e2 | ⟨e2, _⟩
      · rw [e] at e2; cases e2; exact .inl rfl
      · rw [e] at e2; cases e2
    · exact .inr e
  have hrk : ∀ k, v.ownBlock = some k → k = g ∨ False := fun k hk => by
    rcases hgq with e2 | ⟨e2, _⟩
    · rw [hk] at e2; cases e2; exact .inl rfl
    · rw [hk] at e2; cases e2
  refine h _ _ _ ⟨Nat.le_trans hB hb.size, .inr ⟨g', cap', q ++ [(kd, u)], by rw [List.length_append]; rfl, ?_, ?_, ?_⟩⟩ hb
  · rw [flatQ_app, List.length_append]; exact h1
  · refine ⟨by rw [List.length_append, List.length_append, hq.1]; rfl, fun k s hk => ?_⟩
    by_cases hkl : k < p.length
    · rw [List.getElem?_append_left hkl] at hk
      obtain ⟨u', e1, e2⟩ := hq.2 k s hk
      exact ⟨u', by rw [List.getElem?_append_left (by rw [hq.1]; exact hkl)]; exact e1, e2.grown h2 (fun j hj => (hrk j hj).elim id False.elim) hgg⟩
    · have hk2 := (List.getElem?_eq_some_iff.1 hk).1
      rw [List.length_append] at hk2
      have e : k = p.length := by simp at hk2; omega
      subst e
      rw [List.getElem?_append_right (Nat.le_refl _), Nat.sub_self] at hk
      cases hk
      exact ⟨u, by rw [List.getElem?_append_right (by rw [hq.1]; exact Nat.le_refl _), hq.1, Nat.sub_self]; rfl, hug.grown h2 (fun j hj => (hrk j hj).elim id False.elim) hgg⟩
  · intro k s hkn hk
    by_cases hkl : k < p.length
    · rw [List.getElem?_append_left hkl] at hk
      obtain ⟨u', e1, e2⟩ := hq.2 k s hk
      obtain ⟨u2, e3, e4⟩ := hfr k s hkl hk
      rw [e1] at e3
      cases e3
      exact ⟨u', by rw [List.getElem?_append_left (by rw [hq.1]; exact hkl)]; exact e1, fun h hh => (e4 h hh).grown2 e2 h2 (fun j hj => (hrk j hj).elim id False.elim)⟩
    · have hk2 := (List.getElem?_eq_some_iff.1 hk).1
      rw [List.length_append] at hk2
      have e : k = p.length := by simp at hk2; omega
      subst e
      rw [List.getElem?_append_right (Nat.le_refl _), Nat.sub_self] at hk
      cases hk
      exact ⟨u, by rw [List.getElem?_append_right (by rw [hq.1]; exact Nat.le_refl _), hq.1, Nat.sub_self]; rfl, fun h hh => (huF h hh).grown2 hug h2 (fun j hj => (hrk j hj).elim id False.elim)⟩
theorem rcloneF_any (p : List Sg) (v : Value) (w : World) (hl : p.length ≤ 2000000) (hf : (flat p).length ≤ 2000000) (hv : RdS w v p) :
    Calls Tryz.prog 52 #[v] w fun e w' => ∃ v', e = .returned v' ∧ OwnF w.heap.size w' v' p ∧ Below w.heap.size w w' := by
  obtain ⟨ad, cap, rfl, h1, h2, hc⟩ := hv
  have HC := Lib.hid hc
  obtain ⟨n, hn⟩ : ∃ n, p.length = n := ⟨_, rfl⟩
  rw [hn] at h1 hl ⊢
  have HN := Lib.hid hn
  have HLE := Lib.hid (flat_all_le hf)
  have HO0 : Hid (OwnF w.heap.size w (.slice none 0 0) (p.take 0)) := by show OwnF _ _ _ _; rw [List.take_zero]; exact ⟨Nat.le_refl _, .inl ⟨rfl, rfl⟩⟩
  have HS0 : Hid (Below w.heap.size w w) := Below.refl _ _
  clear hc hn hf h2
  go_enter Tryz.func52, Tryz.ntmps52
  go_wp2_with fail
  go_loopg [3, 5, 8] (n + 1) (fun g s3 s5 s8 wr => ∃ (k : Nat) (v3 : Value), k ≤ n ∧ n + 1 - k ≤ g ∧ v3 = s3 ∧ (∃ q, q = s5) ∧ s8 = .int .i64 (k : Int) ∧ Hid (OwnF w.heap.size wr v3 (p.take k)) ∧ Hid (Below w.heap.size w wr))
  case atStart => exact ⟨0, _, by omega, by omega, rfl, ⟨_, rfl⟩, rfl, HO0, HS0⟩
  case round =>
    clear HO0 HS0
    obtain ⟨k, v3, hk, hkg, rfl, ⟨u5, rfl⟩, rfl, HO, HS⟩ := hrel
    by_cases hlt : k < n
    · obtain ⟨s, hs⟩ : ∃ s, p[k]? = some s := ⟨_, List.getElem?_eq_getElem (by have := HN.out; omega)⟩
      have HTK : Hid (p.take (k + 1) = p.take k ++ [s]) := by show _ = _; rw [List.take_add_one, hs]; rfl
      have hsl := HLE.out k s hs
      obtain ⟨b, off, u, rfl, hbb, c0, c1, hu⟩ := HC.out k s hs
      have d0 := carry HS.out c0
      have d1 := carry HS.out c1
      have k0 : (0 : Int) ≤ (k : Int) := by omega
      have k1 : (k : Int) < (n : Int) := by omega
      obtain ⟨uad, ucap, hff⟩ := hu.form
      subst hff
      obtain ⟨ns, hns⟩ : ∃ ns, s.as = ns := ⟨_, rfl⟩
      obtain ⟨kd, hkd⟩ : ∃ kd, s.k = kd := ⟨_, rfl⟩
      have hse : s = ⟨kd, ns⟩ := by rw [← hns, ← hkd]
      rw [hns] at hu d1 hsl
      rw [hkd] at d0
      have HSE := Lib.hid hse
      obtain ⟨pre, hpre⟩ : ∃ pre, p.take k = pre := ⟨_, rfl⟩
      rw [hpre] at HO HTK
      have hpl : pre.length ≤ 2000000 := by rw [← hpre, List.length_take]; have := HN.out; omega
      obtain ⟨L, hL⟩ : ∃ L, ns.length = L := ⟨_, rfl⟩
      rw [hL] at d1 hu hsl
      have HL := Lib.hid hL
      have HUw := Lib.hid hu
      clear hu c0 c1 hs hns hkd hse hpre hL
      go_wp2_with fail
      have hbw : Below wr.heap.size wr (wr.alloc (.cells #[.int .i64 kd, .slice uad L ucap] 46)) := below_alloc _ _
      have f0 : (wr.alloc (.cells #[.int .i64 kd, .slice uad L ucap] 46)).cell? ⟨wr.heap.size, 0, none⟩ = some (.int .i64 kd) := cell_of (heap_alloc_new _ _) rfl
      have f1 : (wr.alloc (.cells #[.int .i64 kd, .slice uad L ucap] 46)).cell? ⟨wr.heap.size, 1, none⟩ = some (.slice uad L ucap) := cell_of (heap_alloc_new _ _) rfl
      have hbz : wr.heap.size < (wr.alloc (.cells #[.int .i64 kd, .slice uad L ucap] 46)).heap.size := by simp
      have HOW := Lib.hid (HO.out.below hbw)
      have HBW := Lib.hid (below_then HS.out hbw)
      clear HO d0 d1
      generalize hWb : wr.alloc (.cells #[.int .i64 kd, .slice uad L ucap] 46) = Wb at *
      have hX : Below Wb.heap.size Wb (Wb.drew.alloc (.cells #[] 3)) := (Below.refl _ Wb).drew.alloc (Nat.le_refl _) _
      have a0 := carry hX f0
      have a1 := carry hX f1
      have HO1 : Hid ((Wb.drew.alloc (.cells #[] 3)).ownsRow Wb.heap.size 3 1 (.slice (some ⟨Wb.heap.size, 0, none⟩) 0 0) 0 []) := World.ownsRow_made Wb.drew #[] 0 (Nat.le_refl _) (Nat.zero_le _) (by simp)
      have HR1 : Hid (RdI (Wb.drew.alloc (.cells #[] 3)) (.slice uad L ucap) ns) := HUw.out.below (HBW.out.trans (hX.mono HBW.out.size))
      have HB1 : Hid (Wb.heap.size ≤ (Wb.drew.alloc (.cells #[] 3)).heap.size) := hX.size
      have HLL : Hid (ns.length ≤ 2000000) := by show _ ≤ _; rw [HL.out]; exact hsl
      have HP1 : Hid (∀ (w1 : World) (g1 e1 : Nat), OwnI Wb.heap.size w1 (.slice (some ⟨g1, 0, none⟩) ns.length e1) ns → Below Wb.heap.size (Wb.drew.alloc (.cells #[] 3)) w1 →
          OwnF w.heap.size (w1.alloc (.cells #[.int .i64 kd, .slice (some ⟨g1, 0, none⟩) ns.length e1] 46)) v3 pre ∧ Below w.heap.size w (w1.alloc (.cells #[.int .i64 kd, .slice (some ⟨g1, 0, none⟩) ns.length e1] 46)) ∧
          (w1.alloc (.cells #[.int .i64 kd, .slice (some ⟨g1, 0, none⟩) ns.length e1] 46)).cell? ⟨w1.heap.size, 0, none⟩ = some (.int .i64 kd) ∧ (w1.alloc (.cells #[.int .i64 kd, .slice (some ⟨g1, 0, none⟩) ns.length e1] 46)).cell? ⟨w1.heap.size, 1, none⟩ = some (.slice (some ⟨g1, 0, none⟩) ns.length e1) ∧
          (∀ g, (v3.ownBlock = some g ∨ (v3.ownBlock = none ∧ g = (w1.alloc (.cells #[.int .i64 kd, .slice (some ⟨g1, 0, none⟩) ns.length e1] 46)).heap.size)) → RdN g (w1.alloc (.cells #[.int .i64 kd, .slice (some ⟨g1, 0, none⟩) ns.length e1] 46)) (.slice (some ⟨g1, 0, none⟩) ns.length e1) ns) ∧
          (∀ h, h < w.heap.size → RdN h (w1.alloc (.cells #[.int .i64 kd, .slice (some ⟨g1, 0, none⟩) ns.length e1] 46)) (.slice (some ⟨g1, 0, none⟩) ns.length e1) ns) ∧
          w1.cell? ⟨wr.heap.size, 0, none⟩ = some (.int .i64 kd)) := fun w1 g1 e1 h1 h2 => by
        have hbb : Below Wb.heap.size Wb w1 := hX.trans h2
        have hba : Below Wb.heap.size Wb (w1.alloc (.cells #[.int .i64 kd, .slice (some ⟨g1, 0, none⟩) ns.length e1] 46)) := hbb.alloc hbb.size _
        refine ⟨HOW.out.below hba, HBW.out.trans (hba.mono HBW.out.size), cell_of (heap_alloc_new _ _) rfl, cell_of (heap_alloc_new _ _) rfl, fun g hg => ?_, fun h hh => (h1.away (by have := HBW.out.size; omega)).below (below_alloc _ _), carry hbb f0⟩
        rcases hg with e | ⟨_, e⟩
        · have hgl : g < Wb.heap.size := by
            rcases HOW.out.2 with ⟨e2, _⟩ | ⟨g', cap', q', e2, ho', _, _⟩
            · rw [e2] at e; cases e
            · rw [e2] at e; cases e; exact (ownsRow_lt (e2 ▸ ho')).2
          exact (h1.away hgl).below (below_alloc _ _)
        · rw [e]
          exact h1.rd.away (by simp) (below_alloc _ _)
      clear hX HOW HBW HUw hWb
      go_region_law (first
        | (refine step_ints (by rfl) (.tmp 15) (.tmp 17) (by rfl) Wb.heap.size HB1.out Wb.heap.size 0 (by rfl) HO1.out (.slice uad L ucap) ns (by rfl) HR1.out HLL.out ?_; intro g1 e1 w1 hx1 hx2; have P1 := Lib.hid (HP1.out w1 g1 e1 hx1 hx2); have q0 := P1.out.2.2.2.2.2.2; clear hx1 hx2)
        | (refine step_segF (by rfl) (.tmp 12) (.tmp 20) (by rfl) w.heap.size P1.out.2.1.size v3 pre (by rfl) P1.out.1 w1.heap.size kd _ ns (by rfl) P1.out.2.2.1 P1.out.2.2.2.1 P1.out.2.2.2.2.1 P1.out.2.2.2.2.2.1 hpl ?_; intro g2 e2 w2 hy1 hy2; have P2 := Lib.hid (And.intro hy1 (P1.out.2.1.trans hy2)); clear hy1 hy2))
      all_goals (
        have HO3 : Hid (OwnF w.heap.size w2 (.slice (some ⟨g2, 0, none⟩) (pre.length + 1) e2) (p.take (k + 1))) := by
          show OwnF _ _ _ _; rw [HTK.out, HSE.out]; exact P2.out.1
        go_wp2_with fail
        go_roundg (n + 1 - (k + 1))
        case measure => omega
        case rel => exact ⟨k + 1, _, by omega, Nat.le_refl _, rfl, ⟨_, rfl⟩, by go_num, HO3, P2.out.2⟩)
    · have k1 : decide ((k : Int) < (n : Int)) = false := decide_eq_false (by omega)
      have HE : Hid (p.take k = p) := by show _ = _; rw [List.take_of_length_le (by rw [HN.out]; omega)]
      have HO2 : Hid (OwnF w.heap.size wr v3 p) := HE.out ▸ HO.out
      clear HO
      go_wp2
      go_ret
      exact ⟨_, rfl, HO2.out, HS.out⟩
end
end Go.Proofs.YtiobfgcpbihbhaaGreatDoor
namespace Go.Proofs.YtiobfgcpbihbhaaGreatDoor
section
open Go.RowKit P
set_option linter.unusedSimpArgs false
set_option linter.unusedVariables false
set_option maxHeartbeats 1500000
set_option maxRecDepth 100000
/-- a reader of the text l that stands before its byte k, in the block j -/
def RB (j : Nat) (l : List UInt8) (k : Nat) (W : World) : Prop := W.heap[j]? = some (.cells #[.string (bs l), .int .i64 (k : Int)] 73 (0, 0))
/-- only the block j changes among those that are there -/
def Mv (j : Nat) (W W' : World) : Prop := Below j W W' ∧ ∀ k, k < W.heap.size → k ≠ j → W'.heap[k]? = W.heap[k]?
theorem RB.lt {j : Nat} {l : List UInt8} {k : Nat} {W : World} (h : RB j l k W) : j < W.heap.size := by
  by_cases hh : j < W.heap.size
  · exact hh
  · unfold RB at h
    rw [Array.getElem?_eq_none (by omega)] at h; cases h
theorem RB.below {j : Nat} {l : List UInt8} {k : Nat} {W W' : World} (h : RB j l k W) (hb : Below W.heap.size W W') : RB j l k W' := (hb.block j h.lt).trans h
theorem RB.c0 {j : Nat} {l : List UInt8} {k : Nat} {W : World} (h : RB j l k W) : W.cell? ⟨j, 0, none⟩ = some (.string (bs l)) := cell_of h rfl
theorem RB.c1 {j : Nat} {l : List UInt8} {k : Nat} {W : World} (h : RB j l k W) : W.cell? ⟨j, 1, none⟩ = some (.int .i64 (k : Int)) := cell_of h rfl
theorem RB.fz {j : Nat} {l : List UInt8} {k : Nat} {W : World} (h : RB j l k W) (o : Nat) : W.frozen? ⟨j, o, none⟩ = false := free_of h o
theorem Mv.refl (j : Nat) (W : World) : Mv j W W := ⟨Below.refl _ _, fun _ _ _ => rfl⟩
theorem Mv.trans {j : Nat} {a b c : World} (h : Mv j a b) (k : Mv j b c) : Mv j a c := ⟨h.1.trans k.1, fun i hi hij => (k.2 i (Nat.lt_of_lt_of_le hi h.1.size) hij).trans (h.2 i hi hij)⟩
theorem Mv.of {j : Nat} {W W' : World} (hj : j ≤ W.heap.size) (h : Below W.heap.size W W') : Mv j W W' := ⟨h.mono hj, fun k hk _ => h.block k hk⟩
theorem Mv.drew {j : Nat} {W : World} (hj : j ≤ W.heap.size) (n : Nat) : Mv j W (W.drewN n) := .of hj (below_drewN (Below.refl _ _) n)
theorem RB.set {j : Nat} {l : List UInt8} {k : Nat} {W : World} (h : RB j l k W) (k' : Nat) : RB j l k' (W.setCell ⟨j, 1, none⟩ (.int .i64 (k' : Int))) := by
  unfold RB at h ⊢
  rw [heap_set_eq h]
  rfl
theorem Mv.set {j : Nat} {W : World} (o : Nat) (v : Value) : Mv j W (W.setCell ⟨j, o, none⟩ v) :=
  ⟨(Below.refl j W).setCell (p := ⟨j, o, none⟩) (Nat.le_refl _) v, fun k _ hk => heap_set_ne hk⟩
theorem RdN.mv {g j : Nat} {W W' : World} {v : Value} {l : List Int} (h : RdN g W v l) (hj : RdN j W v l) (hm : Mv j W W') : RdN g W' v l := by
  obtain ⟨ad, cap, e, h1, h2, hc⟩ := h
  obtain ⟨ad', cap', e', _, _, hc'⟩ := hj
  rw [e] at e'
  injection e' with e1 e2 e3
  subst e1
  refine ⟨ad, cap, e, h1, h2, fun k x hk => ?_⟩
  obtain ⟨b, off, a1, a2, a3, a4⟩ := hc k x hk
  obtain ⟨b', off', a1', _, a3', _⟩ := hc' k x hk
  rw [a1] at a1'
  cases a1'
  exact ⟨b, off, a1, Nat.lt_of_lt_of_le a2 hm.1.size, a3, by rw [← a4]; exact World.cell?_of_block (hm.2 b a2 a3')⟩
theorem OwnI.mv {B j : Nat} {W W' : World} {v : Value} {l : List Int} (h : OwnI B W v l) (hB : j < B) (hm : Mv j W W') : OwnI B W' v l :=
  ⟨Nat.le_trans h.1 hm.1.size, row_congr h.2 fun g hg => hm.2 g (h.lt g hg).2 (by have := (h.lt g hg).1; omega)⟩
theorem OwnF.mv {B j : Nat} {W W' : World} {v : Value} {p : List Sg} (h : OwnF B W v p) (hB : j < B) (hm : Mv j W W') : OwnF B W' v p := by
  refine ⟨Nat.le_trans h.1 hm.1.size, ?_⟩
  rcases h.2 with h0 | ⟨g, cap, q, e, ho, hp, hf⟩
  · exact .inl h0
  · refine .inr ⟨g, cap, q, e, row_congr ho fun k hk => hm.2 k (row_lt ho hk).2 (by have := (row_lt ho hk).1; omega), ⟨hp.1, fun k s hk => ?_⟩, fun k s hkn hk => ?_⟩
    · obtain ⟨u, e1, e2⟩ := hp.2 k s hk
      obtain ⟨u', e3, e4⟩ := hf k s (List.getElem?_eq_some_iff.1 hk).1 hk
      rw [e1] at e3; cases e3
      exact ⟨u, e1, e2.mv (e4 j hB) hm⟩
    · obtain ⟨u', e3, e4⟩ := hf k s hkn hk
      exact ⟨u', e3, fun h hh => (e4 h hh).mv (e4 j hB) hm⟩
theorem byteN {l : List UInt8} {k : Nat} {c : UInt8} (h : l[k]? = some c) (hk : k < (bs l).size) : ((bs l)[k]'hk).toNat = c.toNat := by
  have h2 := (List.getElem?_eq_some_iff.1 h).2
  have : (bs l)[k]'hk = c := by rw [← h2]; rfl
  rw [this]
/-- what next leaves -/
def NxR (l : List UInt8) (k : Nat) (c : UInt8) (b : Bool) (k' : Nat) : Prop := (l[k]? = some c ∧ b = true ∧ k' = k + 1) ∨ (l[k]? ≠ some c ∧ b = false ∧ k' = k)
theorem next_any (l : List UInt8) (k j : Nat) (c : UInt8) (w : World) (hb : RB j l k w) (hk : k ≤ l.length) (hl : l.length ≤ 1000000) :
    Calls Tryz.prog 65 #[.pointer (some ⟨j, 0, none⟩), .int .u8 (c.toNat : Int)] w fun e w' => ∃ b k', e = .returned (.bool b) ∧ NxR l k c b k' ∧ RB j l k' w' ∧ Mv j w w' := by
  have c0 := hb.c0
  have c1 := hb.c1
  have hfz := hb.fz 1
  have HRB := Lib.hid hb
  have hjw := hb.lt
  have HJ : Hid (j ≤ w.heap.size) := Nat.le_of_lt hjw
  have hS : (bs l).size = l.length := bs_size l
  by_cases hlt : k < l.length
  · obtain ⟨d, hd⟩ : ∃ d, l[k]? = some d := ⟨_, List.getElem?_eq_getElem hlt⟩
    have hks : k < (bs l).size := by omega
    have hbd := byteN hd hks
    have HD := Lib.hid hd
    clear hd hb
    generalize hSe : bs l = S at *
    have k0 : (0 : Int) ≤ (k : Int) := by omega
    have k1 : (k : Int) < (S.size : Int) := by omega
    have k2 : decide ((k : Int) < (S.size : Int)) = true := decide_eq_true k1
    by_cases hcd : d = c
    · have q1 : ((S[k].toNat : Int) == (c.toNat : Int)) = true := by rw [hbd, hcd]; simp
      have q2 : (S[k].toNat : Int) = (c.toNat : Int) := by rw [hbd, hcd]
      have kb : (k : Int) ≤ 1000000 := by omega
      clear hbd
      go_enter Tryz.func65, Tryz.ntmps65
      go_wp2_with fail
      go_quiet (fail)
      have hX := Mv.drew HJ.out nq
      have hrb : RB j l k (w.drewN nq) := HRB.out.below (below_drewN (Below.refl _ _) nq)
      have c1' := hrb.c1
      have hf' := hrb.fz 1
      have HR2 : Hid (RB j l (k + 1) ((w.drewN nq).setCell ⟨j, 1, none⟩ (.int .i64 ((k + 1 : Nat) : Int))) ∧ Mv j w ((w.drewN nq).setCell ⟨j, 1, none⟩ (.int .i64 ((k + 1 : Nat) : Int)))) := ⟨hrb.set (k + 1), hX.trans (Mv.set 1 _)⟩
      clear hrb hX c0 c1 hfz
      generalize w.drewN nq = wq at *
      go_wp2
      go_ret
      exact ⟨true, k + 1, rfl, .inl ⟨by rw [HD.out, hcd], rfl, rfl⟩, by have h := HR2.out.1; simpa using h, by have h := HR2.out.2; simpa using h⟩
    · have q1 : ((S[k].toNat : Int) == (c.toNat : Int)) = false := by
        rw [hbd, beq_eq_false_iff_ne]
        intro e
        exact hcd (UInt8.toNat_inj.1 (by omega))
      clear hbd
      go_enter Tryz.func65, Tryz.ntmps65
      go_wp2_with fail
      go_quiet (fail)
      have hX := Mv.drew HJ.out nq
      have hrb : RB j l k (w.drewN nq) := HRB.out.below (below_drewN (Below.refl _ _) nq)
      have HR2 := Lib.hid (And.intro hrb hX)
      clear hrb hX c0 c1 hfz
      go_wp2
      go_ret
      exact ⟨false, k, rfl, .inr ⟨by rw [HD.out]; exact fun e => hcd (Option.some.inj e), rfl, rfl⟩, HR2.out.1, HR2.out.2⟩
  · have hn : l[k]? = none := List.getElem?_eq_none (by omega)
    have HN := Lib.hid hn
    clear hn hb
    generalize hSe : bs l = S at *
    have k2 : decide ((k : Int) < (l.length : Int)) = false := decide_eq_false (by omega)
    go_enter Tryz.func65, Tryz.ntmps65
    go_wp2_with fail
    go_quiet (fail)
    have hX := Mv.drew HJ.out nq
    have hrb : RB j l k (w.drewN nq) := HRB.out.below (below_drewN (Below.refl _ _) nq)
    have HR2 := Lib.hid (And.intro hrb hX)
    clear hrb hX c0 c1 hfz
    go_wp2
    go_ret
    exact ⟨false, k, rfl, .inr ⟨by rw [HN.out]; simp, rfl, rfl⟩, HR2.out.1, HR2.out.2⟩
end
end Go.Proofs.YtiobfgcpbihbhaaGreatDoor
namespace Go.Proofs.YtiobfgcpbihbhaaGreatDoor
section
open Go.RowKit P
set_option linter.unusedSimpArgs false
set_option linter.unusedVariables false
set_option maxHeartbeats 2500000
set_option maxRecDepth 100000
theorem P.drop_at {l : List UInt8} {k : Nat} {d : UInt8} (h : l[k]? = some d) : l.drop k = d :: l.drop (k + 1) := by
  obtain ⟨hk, he⟩ := List.getElem?_eq_some_iff.1 h
  rw [List.drop_eq_getElem_cons hk, he]
theorem P.run_more {l : List UInt8} {k n : Nat} {d : UInt8} (h : l[k]? = some d) (hd : T.isD d = true) (hn : n ≤ 4294967295) : P.runN n (l.drop k) = P.runN (T.valF n d) (l.drop (k + 1)) := by
  rw [drop_at h]; exact if_pos ⟨hd, hn⟩
theorem P.run_stop {l : List UInt8} {k n : Nat} {d : UInt8} (h : l[k]? = some d) (hd : T.isD d = false ∨ 4294967295 < n) : P.runN n (l.drop k) = (n, l.drop k) := by
  rw [drop_at h]
  exact if_neg (fun hh => by
    rcases hd with e | e
    · rw [e] at hh; exact absurd hh.1 (by simp)
    · omega)
theorem P.run_end {l : List UInt8} {k n : Nat} (h : l.length ≤ k) : P.runN n (l.drop k) = (n, l.drop k) := by
  rw [List.drop_of_length_le h]; rfl
theorem P.nums_stop {c : UInt8} {l : List UInt8} {k n : Nat} (h : P.runN 0 (l.drop k) = (n, l.drop k)) : numsS c (l.drop k) = ([], l.drop k) := numsS_stop (by rw [h])
theorem P.nums_last {c : UInt8} {l : List UInt8} {k k2 n : Nat} (h : P.runN 0 (l.drop k) = (n, l.drop k2)) (h1 : k < k2) (h2 : k2 ≤ l.length) (h3 : ∀ d0 d1, l[k2]? = some d0 → l[k2 + 1]? = some d1 → ¬ (d0 = c ∧ T.isD d1 = true)) : numsS c (l.drop k) = ([(n : Int)], l.drop k2) := by
  have hs := numsS_last (sep := c) (r := l.drop k) (by rw [h]; show (l.drop k2).length ≠ _; rw [List.length_drop, List.length_drop]; omega) (fun c' d t e => by
    rw [h] at e
    have e0 : (l.drop k2)[0]? = some c' := by rw [show l.drop k2 = c' :: d :: t from e]; rfl
    have e1 : (l.drop k2)[1]? = some d := by rw [show l.drop k2 = c' :: d :: t from e]; rfl
    rw [List.getElem?_drop] at e0 e1
    exact h3 c' d e0 e1)
  rw [hs, h]
theorem P.nums_more {c d1 : UInt8} {l : List UInt8} {k k2 n : Nat} (h : P.runN 0 (l.drop k) = (n, l.drop k2)) (h1 : k < k2) (h2 : l[k2]? = some c) (h3 : l[k2 + 1]? = some d1) (h4 : T.isD d1 = true) : numsS c (l.drop k) = ((n : Int) :: (numsS c (l.drop (k2 + 1))).1, (numsS c (l.drop (k2 + 1))).2) := by
  have e1 := drop_at h2
  have e2 := drop_at h3
  have hl := (List.getElem?_eq_some_iff.1 h2).1
  have hs := numsS_more (sep := c) (c := c) (d := d1) (r := l.drop k) (t := l.drop (k2 + 1 + 1)) (by rw [h]; show (l.drop k2).length ≠ _; rw [List.length_drop, List.length_drop]; omega) (by rw [h]; show l.drop k2 = _; rw [e1, e2]) ⟨rfl, h4⟩
  rw [hs, h, ← e2]
theorem Mv.behind {j : Nat} {w a b : World} (h : Mv j w a) (hb : Below w.heap.size a b) (hj : j ≤ w.heap.size) : Mv j w b := ⟨h.1.trans (hb.mono hj), fun k hk hkj => (hb.block k hk).trans (h.2 k hk hkj)⟩
theorem P.isD_cases (d : UInt8) : (d.toNat < 48 ∧ T.isD d = false) ∨ (57 < d.toNat ∧ T.isD d = false) ∨ (48 ≤ d.toNat ∧ d.toNat ≤ 57 ∧ T.isD d = true) := by
  by_cases h1 : d.toNat < 48
  · exact .inl ⟨h1, T.isD_lo h1⟩
  · by_cases h2 : 57 < d.toNat
    · exact .inr (.inl ⟨h2, T.isD_hi h2⟩)
    · exact .inr (.inr ⟨by omega, by omega, (T.isD_iff d).2 ⟨by omega, by omega⟩⟩)
theorem numbers_any (l : List UInt8) (k j : Nat) (c : UInt8) (w : World) (hb : RB j l k w) (hk : k ≤ l.length) (hl : l.length ≤ 1000000) :
    Calls Tryz.prog 66 #[.pointer (some ⟨j, 0, none⟩), .int .u8 (c.toNat : Int)] w fun e w' => ∃ v' k', e = .returned v' ∧ k ≤ k' ∧ k' ≤ l.length ∧ l.drop k' = (numsS c (l.drop k)).2 ∧ OwnI w.heap.size w' v' (numsS c (l.drop k)).1 ∧ RB j l k' w' ∧ Mv j w w' := by
  have hS : (bs l).size = l.length := bs_size l
  have HBY : Hid (∀ (k : Nat) (d : UInt8) (hk : k < (bs l).size), l[k]? = some d → ((bs l)[k]'hk).toNat = d.toNat) := fun k d hk h => byteN h hk
  have HJ : Hid (j < w.heap.size) := hb.lt
  obtain ⟨RES, hRES⟩ : ∃ RES, numsS c (l.drop k) = RES := ⟨_, rfl⟩
  rw [hRES]
  have HT0 : Hid (RES = (([] : List Int) ++ (numsS c (l.drop k)).1, (numsS c (l.drop k)).2)) := by rw [← hRES]; rfl
  have HO0 : Hid (OwnI w.heap.size w (.slice none 0 0) []) := OwnI.nil _ _ (Nat.le_refl _)
  have HM0 : Hid (Mv j w w) := Mv.refl _ _
  have HR0 : Hid (RB j l k w) := hb
  clear hRES hb
  go_enter Tryz.func66, Tryz.ntmps66
  go_wp2_with fail
  go_loopg [5, 6, 7] (l.length + 1) (fun g s5 s6 s7 wr => ∃ (k1 : Nat) (pre : List Int) (v5 : Value), k ≤ k1 ∧ k1 ≤ l.length ∧ l.length + 1 - k1 ≤ g ∧ v5 = s5 ∧ (∃ q, q = s6) ∧ (∃ q, q = s7) ∧ pre.length ≤ k1 ∧ Hid (RES = (pre ++ (numsS c (l.drop k1)).1, (numsS c (l.drop k1)).2)) ∧ Hid (OwnI w.heap.size wr v5 pre) ∧ Hid (RB j l k1 wr) ∧ Hid (Mv j w wr))
  case atStart => exact ⟨k, [], _, by omega, by omega, by omega, rfl, ⟨_, rfl⟩, ⟨_, rfl⟩, by simp, HT0, HO0, HR0, HM0⟩
  case round =>
    clear HT0 HO0 HR0 HM0
    obtain ⟨k1, pre, v5, hkk, hk1, hkg, rfl, ⟨u6, rfl⟩, ⟨u7, rfl⟩, hpl, HT, HO, HR, HM⟩ := hrel
    have c1 := HR.out.c1
    go_wp2_with fail
    go_quiet (fail)
    have hjr : j < wr.heap.size := HR.out.lt
    have hbw := below_drewN (Below.refl wr.heap.size wr) nq
    have HOI := Lib.hid (HO.out.below hbw)
    have HRI := Lib.hid (HR.out.below hbw)
    have HMI := Lib.hid (HM.out.trans (Mv.drew (Nat.le_of_lt hjr) nq))
    clear HO HR HM hbw hjr c1
    generalize wr.drewN nq = wy at *
    go_wp2_with fail
    go_loopg [6] (l.length + 1) (fun g2 s6 wi => ∃ (k2 n : Nat), k1 ≤ k2 ∧ k2 ≤ l.length ∧ l.length + 1 - k2 ≤ g2 ∧ s6 = .int .i64 (n : Int) ∧ n ≤ 42949672959 ∧ Hid (P.runN 0 (l.drop k1) = P.runN n (l.drop k2)) ∧ Hid (OwnI w.heap.size wi v5 pre) ∧ Hid (RB j l k2 wi) ∧ Hid (Mv j w wi))
    case atStart => exact ⟨k1, 0, by omega, by omega, by omega, rfl, by omega, (rfl : P.runN 0 (l.drop k1) = P.runN 0 (l.drop k1)), HOI, HRI, HMI⟩
    case round =>
      clear HOI HRI HMI
      obtain ⟨k2, n, hkk2, hk2, hkg2, rfl, hn, HN, HO, HR, HM⟩ := hrel
      have c0 := HR.out.c0
      have c1 := HR.out.c1
      have hfz := HR.out.fz 1
      have i0 : (0 : Int) ≤ (k2 : Int) := by omega
      by_cases hlt : k2 < l.length
      · obtain ⟨d, hd⟩ : ∃ d, l[k2]? = some d := ⟨_, List.getElem?_eq_getElem hlt⟩
        have hks : k2 < (bs l).size := by omega
        have hbd := HBY.out k2 d hks hd
        have HD := Lib.hid hd
        have i1 : (k2 : Int) < ((bs l).size : Int) := by omega
        have i2 : decide ((k2 : Int) < ((bs l).size : Int)) = true := decide_eq_true i1
        have i3 : (k2 : Int) < (l.length : Int) := by omega
        have i4 : decide ((k2 : Int) < (l.length : Int)) = true := decide_eq_true i3
        clear hd
        rcases P.isD_cases d with ⟨hd1, hdd⟩ | ⟨hd1, hdd⟩ | ⟨hd1, hd2, hdd⟩
        · have q1 : decide ((48 : Int) ≤ (((bs l)[k2]'hks).toNat : Int)) = false := by rw [hbd]; exact decide_eq_false (by omega)
          have HEX : Hid (P.runN 0 (l.drop k1) = (n, l.drop k2)) := HN.out.trans (P.run_stop HD.out (.inl hdd))
          clear HN hbd hdd HD hd1
          generalize hSe : bs l = S at *
          go_wp2_with fail
          go_quiet (fail)
          have hbw := below_drewN (Below.refl wr.heap.size wr) nq
          have HOX := Lib.hid (HO.out.below hbw)
          have HRX := Lib.hid (HR.out.below hbw)
          have HMX := Lib.hid (HM.out.trans (Mv.drew (Nat.le_of_lt HR.out.lt) nq))
          clear HO HR HM hbw c0 c1 hfz
          try clear q1
          try clear q2
          try clear q3
          generalize wr.drewN nq = wq at *
          have c1 := HRX.out.c1
          by_cases hkk0 : k2 = k1
          · subst hkk0
            have HF : Hid (RES = (pre, l.drop k2)) := by show _ = _; rw [HT.out, P.nums_stop HEX.out]; simp
            have e1 : ((k2 : Int) == (k2 : Int)) = true := by simp
            clear HEX HT
            go_wp2
            go_ret
            exact ⟨_, k2, rfl, by omega, by omega, by rw [HF.out], by rw [HF.out]; exact HOX.out, HRX.out, HMX.out⟩
          · have e1 : ((k2 : Int) == (k1 : Int)) = false := by rw [beq_eq_false_iff_ne]; omega
            have HA : Hid (OwnI w.heap.size (wq.alloc (.cells #[.int .i64 (n : Int)] 3)) v5 pre) := HOX.out.below (below_alloc _ _)
            have HUA : Hid (RdI (wq.alloc (.cells #[.int .i64 (n : Int)] 3)) (.slice (some ⟨wq.heap.size, 0, none⟩) 1 1) [(n : Int)]) := rdi_at _ [(n : Int)] 3 _ rfl _ rfl _ rfl (by simp)
            have HRA : Hid (RB j l k2 (wq.alloc (.cells #[.int .i64 (n : Int)] 3))) := HRX.out.below (below_alloc _ _)
            have HMA : Hid (Mv j w (wq.alloc (.cells #[.int .i64 (n : Int)] 3))) := HMX.out.trans (Mv.of (Nat.le_of_lt HRX.out.lt) (below_alloc _ _))
            have hle : pre.length + [(n : Int)].length ≤ 2000000 := by simp; omega
            have HJ2 := Lib.hid (Nat.le_of_lt HJ.out)
            clear HOX HMX
            go_wp2_with (at_builtin; refine append_rdI rfl (.tmp 78) (.tmp 80) rfl w.heap.size HA.out.1 v5 pre rfl HA.out _ [(n : Int)] rfl HUA.out hle ?_; intro v9 w9 hown hb; have HO9 := Lib.hid hown; have HR9 : Hid (RB j l k2 w9) := (hb.block j HJ.out).trans HRA.out; have HM9 := Lib.hid (HMA.out.behind hb HJ2.out); clear hown hb)
            have c0 := HR9.out.c0
            have c1 := HR9.out.c1
            rw [hSe] at c0
            have kb : (k2 : Int) ≤ 1000000 := by omega
            have jw : IntKind.i64.wrap ((k2 : Int) + 1) = (k2 : Int) + 1 := IntWalk.i64_in _ (by omega)
            clear HA HUA HRA HMA HRX
            by_cases hl1 : k2 + 1 < l.length
            · obtain ⟨d0, hd0⟩ : ∃ d, l[k2]? = some d := ⟨_, List.getElem?_eq_getElem (by omega)⟩
              obtain ⟨d1, hd1'⟩ : ∃ d, l[k2 + 1]? = some d := ⟨_, List.getElem?_eq_getElem hl1⟩
              have hk0s : k2 < S.size := by omega
              have hk1s : k2 + 1 < S.size := by omega
              have b0 := HBY.out k2 d0 hk0s hd0
              have b1 := HBY.out (k2 + 1) d1 hk1s hd1'
              have HD0 := Lib.hid hd0
              have HD1 := Lib.hid hd1'
              have z1 : decide ((l.length : Int) ≤ (k2 : Int) + 1) = false := decide_eq_false (by omega)
              have z1' : ¬ (l.length : Int) ≤ (k2 : Int) + 1 := by omega
              have y0 : (0 : Int) ≤ (k2 : Int) + 1 := by omega
              have y1 : (k2 : Int) + 1 < (S.size : Int) := by omega
              have y2 : ((k2 : Int) + 1).toNat = k2 + 1 := by omega
              have y3 : (k2 : Int) < (S.size : Int) := by omega
              have y4 : (k2 : Int) < (l.length : Int) := by omega
              have y5 : (k2 : Int) + 1 < (l.length : Int) := by omega
              clear hd0 hd1'
              by_cases hdc : d0 = c
              · have z2 : ((S[k2].toNat : Int) != (c.toNat : Int)) = false := by rw [b0, hdc]; simp
                have z2' : (S[k2].toNat : Int) = (c.toNat : Int) := by rw [b0, hdc]
                have HC0 : Hid (l[k2]? = some c) := by rw [← hdc]; exact HD0.out
                clear b0 HD0 hdc
                rcases P.isD_cases d1 with ⟨g1, g2⟩ | ⟨g1, g2⟩ | ⟨g1, g1', g2⟩
                · have HF : Hid (RES = (pre ++ [(n : Int)], l.drop k2)) := by
                    show _ = _; rw [HT.out, P.nums_last HEX.out (by omega) hk2 (fun a b ha hb hh => by rw [HD1.out] at hb; cases hb; rw [g2] at hh; exact absurd hh.2 (by simp))]
                  have z3 : decide ((S[k2 + 1].toNat : Int) < 48) = true := by rw [b1]; exact decide_eq_true (by omega)
                  clear HEX HT b1 g1 g2 HD1 HC0
                  go_wp2_with fail
                  go_quiet (fail)
                  have hbw := below_drewN (Below.refl w9.heap.size w9) nq
                  have HOY := Lib.hid (HO9.out.below hbw)
                  have HRY := Lib.hid (HR9.out.below hbw)
                  have HMY := Lib.hid (HM9.out.trans (Mv.drew (Nat.le_of_lt HR9.out.lt) nq))
                  go_wp2
                  go_ret
                  exact ⟨_, k2, rfl, by omega, by omega, by rw [HF.out], by rw [HF.out]; exact HOY.out, HRY.out, HMY.out⟩
                · have HF : Hid (RES = (pre ++ [(n : Int)], l.drop k2)) := by
                    show _ = _; rw [HT.out, P.nums_last HEX.out (by omega) hk2 (fun a b ha hb hh => by rw [HD1.out] at hb; cases hb; rw [g2] at hh; exact absurd hh.2 (by simp))]
                  have z3 : decide ((S[k2 + 1].toNat : Int) < 48) = false := by rw [b1]; exact decide_eq_false (by omega)
                  have z4 : decide (57 < (S[k2 + 1].toNat : Int)) = true := by rw [b1]; exact decide_eq_true (by omega)
                  clear HEX HT b1 g1 g2 HD1 HC0
                  go_wp2_with fail
                  go_quiet (fail)
                  have hbw := below_drewN (Below.refl w9.heap.size w9) nq
                  have HOY := Lib.hid (HO9.out.below hbw)
                  have HRY := Lib.hid (HR9.out.below hbw)
                  have HMY := Lib.hid (HM9.out.trans (Mv.drew (Nat.le_of_lt HR9.out.lt) nq))
                  go_wp2
                  go_ret
                  exact ⟨_, k2, rfl, by omega, by omega, by rw [HF.out], by rw [HF.out]; exact HOY.out, HRY.out, HMY.out⟩
                · have HF : Hid (RES = ((pre ++ [(n : Int)]) ++ (numsS c (l.drop (k2 + 1))).1, (numsS c (l.drop (k2 + 1))).2)) := by
                    show _ = _; rw [HT.out, P.nums_more HEX.out (by omega) HC0.out HD1.out g2]; simp
                  have z3 : decide ((S[k2 + 1].toNat : Int) < 48) = false := by rw [b1]; exact decide_eq_false (by omega)
                  have z4 : decide (57 < (S[k2 + 1].toNat : Int)) = false := by rw [b1]; exact decide_eq_false (by omega)
                  clear HEX HT b1 g1 g1' g2 HD1 HC0
                  go_wp2_with fail
                  go_quiet (fail)
                  have hbw := below_drewN (Below.refl w9.heap.size w9) nq
                  have hrb : RB j l k2 (w9.drewN nq) := HR9.out.below hbw
                  have HOY := Lib.hid (HO9.out.below hbw)
                  have HMY := Lib.hid (HM9.out.trans (Mv.drew (Nat.le_of_lt HR9.out.lt) nq))
                  clear HO9 HM9 hbw c0 c1 HR9
                  generalize w9.drewN nq = wz at *
                  have c1 := hrb.c1
                  have hfz := hrb.fz 1
                  have HRZ : Hid (RB j l (k2 + 1) (wz.setCell ⟨j, 1, none⟩ (.int .i64 ((k2 + 1 : Nat) : Int)))) := hrb.set (k2 + 1)
                  have HOZ : Hid (OwnI w.heap.size (wz.setCell ⟨j, 1, none⟩ (.int .i64 ((k2 + 1 : Nat) : Int))) v9 (pre ++ [(n : Int)])) := HOY.out.mv HJ.out (Mv.set 1 _)
                  have HMZ : Hid (Mv j w (wz.setCell ⟨j, 1, none⟩ (.int .i64 ((k2 + 1 : Nat) : Int)))) := HMY.out.trans (Mv.set 1 _)
                  clear hrb HOY HMY z2 z2' z3 z4
                  go_wp2_with fail
                  go_roundg (l.length + 1 - (k2 + 1))
                  case measure => omega
                  case rel => exact ⟨k2 + 1, pre ++ [(n : Int)], _, by omega, by omega, Nat.le_refl _, rfl, ⟨_, rfl⟩, ⟨_, rfl⟩, by simp; omega, HF, by simpa using HOZ, by simpa using HRZ, by simpa using HMZ⟩
              · have z2 : ((S[k2].toNat : Int) != (c.toNat : Int)) = true := by
                  rw [b0, bne_iff_ne]
                  intro e
                  exact hdc (UInt8.toNat_inj.1 (by omega))
                have HF : Hid (RES = (pre ++ [(n : Int)], l.drop k2)) := by
                  show _ = _; rw [HT.out, P.nums_last HEX.out (by omega) hk2 (fun a b ha hb hh => by rw [HD0.out] at ha; cases ha; exact hdc hh.1)]
                clear HEX HT b0 b1 HD0 HD1 hdc
                go_wp2_with fail
                go_quiet (fail)
                have hbw := below_drewN (Below.refl w9.heap.size w9) nq
                have HOY := Lib.hid (HO9.out.below hbw)
                have HRY := Lib.hid (HR9.out.below hbw)
                have HMY := Lib.hid (HM9.out.trans (Mv.drew (Nat.le_of_lt HR9.out.lt) nq))
                go_wp2
                go_ret
                exact ⟨_, k2, rfl, by omega, by omega, by rw [HF.out], by rw [HF.out]; exact HOY.out, HRY.out, HMY.out⟩
            · have z1 : decide ((l.length : Int) ≤ (k2 : Int) + 1) = true := decide_eq_true (by omega)
              have z1' : (l.length : Int) ≤ (k2 : Int) + 1 := by omega
              have HF : Hid (RES = (pre ++ [(n : Int)], l.drop k2)) := by
                show _ = _; rw [HT.out, P.nums_last HEX.out (by omega) hk2 (fun a b ha hb hh => by have := (List.getElem?_eq_some_iff.1 hb).1; omega)]
              clear HEX HT
              go_wp2_with fail
              go_quiet (fail)
              have hbw := below_drewN (Below.refl w9.heap.size w9) nq
              have HOY := Lib.hid (HO9.out.below hbw)
              have HRY := Lib.hid (HR9.out.below hbw)
              have HMY := Lib.hid (HM9.out.trans (Mv.drew (Nat.le_of_lt HR9.out.lt) nq))
              go_wp2
              go_ret
              exact ⟨_, k2, rfl, by omega, by omega, by rw [HF.out], by rw [HF.out]; exact HOY.out, HRY.out, HMY.out⟩
        · have q1 : decide ((48 : Int) ≤ (((bs l)[k2]'hks).toNat : Int)) = true := by rw [hbd]; exact decide_eq_true (by omega)
          have q2 : decide ((((bs l)[k2]'hks).toNat : Int) ≤ (57 : Int)) = false := by rw [hbd]; exact decide_eq_false (by omega)
          have HEX : Hid (P.runN 0 (l.drop k1) = (n, l.drop k2)) := HN.out.trans (P.run_stop HD.out (.inl hdd))
          clear HN hbd hdd HD hd1
          generalize hSe : bs l = S at *
          go_wp2_with fail
          go_quiet (fail)
          have hbw := below_drewN (Below.refl wr.heap.size wr) nq
          have HOX := Lib.hid (HO.out.below hbw)
          have HRX := Lib.hid (HR.out.below hbw)
          have HMX := Lib.hid (HM.out.trans (Mv.drew (Nat.le_of_lt HR.out.lt) nq))
          clear HO HR HM hbw c0 c1 hfz
          try clear q1
          try clear q2
          try clear q3
          generalize wr.drewN nq = wq at *
          have c1 := HRX.out.c1
          by_cases hkk0 : k2 = k1
          · subst hkk0
            have HF : Hid (RES = (pre, l.drop k2)) := by show _ = _; rw [HT.out, P.nums_stop HEX.out]; simp
            have e1 : ((k2 : Int) == (k2 : Int)) = true := by simp
            clear HEX HT
            go_wp2
            go_ret
            exact ⟨_, k2, rfl, by omega, by omega, by rw [HF.out], by rw [HF.out]; exact HOX.out, HRX.out, HMX.out⟩
          · have e1 : ((k2 : Int) == (k1 : Int)) = false := by rw [beq_eq_false_iff_ne]; omega
            have HA : Hid (OwnI w.heap.size (wq.alloc (.cells #[.int .i64 (n : Int)] 3)) v5 pre) := HOX.out.below (below_alloc _ _)
            have HUA : Hid (RdI (wq.alloc (.cells #[.int .i64 (n : Int)] 3)) (.slice (some ⟨wq.heap.size, 0, none⟩) 1 1) [(n : Int)]) := rdi_at _ [(n : Int)] 3 _ rfl _ rfl _ rfl (by simp)
            have HRA : Hid (RB j l k2 (wq.alloc (.cells #[.int .i64 (n : Int)] 3))) := HRX.out.below (below_alloc _ _)
            have HMA : Hid (Mv j w (wq.alloc (.cells #[.int .i64 (n : Int)] 3))) := HMX.out.trans (Mv.of (Nat.le_of_lt HRX.out.lt) (below_alloc _ _))
            have hle : pre.length + [(n : Int)].length ≤ 2000000 := by simp; omega
            have HJ2 := Lib.hid (Nat.le_of_lt HJ.out)
            clear HOX HMX
            go_wp2_with (at_builtin; refine append_rdI rfl (.tmp 78) (.tmp 80) rfl w.heap.size HA.out.1 v5 pre rfl HA.out _ [(n : Int)] rfl HUA.out hle ?_; intro v9 w9 hown hb; have HO9 := Lib.hid hown; have HR9 : Hid (RB j l k2 w9) := (hb.block j HJ.out).trans HRA.out; have HM9 := Lib.hid (HMA.out.behind hb HJ2.out); clear hown hb)
            have c0 := HR9.out.c0
            have c1 := HR9.out.c1
            rw [hSe] at c0
            have kb : (k2 : Int) ≤ 1000000 := by omega
            have jw : IntKind.i64.wrap ((k2 : Int) + 1) = (k2 : Int) + 1 := IntWalk.i64_in _ (by omega)
            clear HA HUA HRA HMA HRX
            by_cases hl1 : k2 + 1 < l.length
            · obtain ⟨d0, hd0⟩ : ∃ d, l[k2]? = some d := ⟨_, List.getElem?_eq_getElem (by omega)⟩
              obtain ⟨d1, hd1'⟩ : ∃ d, l[k2 + 1]? = some d := ⟨_, List.getElem?_eq_getElem hl1⟩
              have hk0s : k2 < S.size := by omega
              have hk1s : k2 + 1 < S.size := by omega
              have b0 := HBY.out k2 d0 hk0s hd0
              have b1 := HBY.out (k2 + 1) d1 hk1s hd1'
              have HD0 := Lib.hid hd0
              have HD1 := Lib.hid hd1'
              have z1 : decide ((l.length : Int) ≤ (k2 : Int) + 1) = false := decide_eq_false (by omega)
              have z1' : ¬ (l.length : Int) ≤ (k2 : Int) + 1 := by omega
              have y0 : (0 : Int) ≤ (k2 : Int) + 1 := by omega
              have y1 : (k2 : Int) + 1 < (S.size : Int) := by omega
              have y2 : ((k2 : Int) + 1).toNat = k2 + 1 := by omega
              have y3 : (k2 : Int) < (S.size : Int) := by omega
              have y4 : (k2 : Int) < (l.length : Int) := by omega
              have y5 : (k2 : Int) + 1 < (l.length : Int) := by omega
              clear hd0 hd1'
              by_cases hdc : d0 = c
              · have z2 : ((S[k2].toNat : Int) != (c.toNat : Int)) = false := by rw [b0, hdc]; simp
                have z2' : (S[k2].toNat : Int) = (c.toNat : Int) := by rw [b0, hdc]
                have HC0 : Hid (l[k2]? = some c) := by rw [← hdc]; exact HD0.out
                clear b0 HD0 hdc
                rcases P.isD_cases d1 with ⟨g1, g2⟩ | ⟨g1, g2⟩ | ⟨g1, g1', g2⟩
                · have HF : Hid (RES = (pre ++ [(n : Int)], l.drop k2)) := by
                    show _ = _; rw [HT.out, P.nums_last HEX.out (by omega) hk2 (fun a b ha hb hh => by rw [HD1.out] at hb; cases hb; rw [g2] at hh; exact absurd hh.2 (by simp))]
                  have z3 : decide ((S[k2 + 1].toNat : Int) < 48) = true := by rw [b1]; exact decide_eq_true (by omega)
                  clear HEX HT b1 g1 g2 HD1 HC0
                  go_wp2_with fail
                  go_quiet (fail)
                  have hbw := below_drewN (Below.refl w9.heap.size w9) nq
                  have HOY := Lib.hid (HO9.out.below hbw)
                  have HRY := Lib.hid (HR9.out.below hbw)
                  have HMY := Lib.hid (HM9.out.trans (Mv.drew (Nat.le_of_lt HR9.out.lt) nq))
                  go_wp2
                  go_ret
                  exact ⟨_, k2, rfl, by omega, by omega, by rw [HF.out], by rw [HF.out]; exact HOY.out, HRY.out, HMY.out⟩
                · have HF : Hid (RES = (pre ++ [(n : Int)], l.drop k2)) := by
                    show _ = _; rw [HT.out, P.nums_last HEX.out (by omega) hk2 (fun a b ha hb hh => by rw [HD1.out] at hb; cases hb; rw [g2] at hh; exact absurd hh.2 (by simp))]
                  have z3 : decide ((S[k2 + 1].toNat : Int) < 48) = false := by rw [b1]; exact decide_eq_false (by omega)
                  have z4 : decide (57 < (S[k2 + 1].toNat : Int)) = true := by rw [b1]; exact decide_eq_true (by omega)
                  clear HEX HT b1 g1 g2 HD1 HC0
                  go_wp2_with fail
                  go_quiet (fail)
                  have hbw := below_drewN (Below.refl w9.heap.size w9) nq
                  have HOY := Lib.hid (HO9.out.below hbw)
                  have HRY := Lib.hid (HR9.out.below hbw)
                  have HMY := Lib.hid (HM9.out.trans (Mv.drew (Nat.le_of_lt HR9.out.lt) nq))
                  go_wp2
                  go_ret
                  exact ⟨_, k2, rfl, by omega, by omega, by rw [HF.out], by rw [HF.out]; exact HOY.out, HRY.out, HMY.out⟩
                · have HF : Hid (RES = ((pre ++ [(n : Int)]) ++ (numsS c (l.drop (k2 + 1))).1, (numsS c (l.drop (k2 + 1))).2)) := by
                    show _ = _; rw [HT.out, P.nums_more HEX.out (by omega) HC0.out HD1.out g2]; simp
                  have z3 : decide ((S[k2 + 1].toNat : Int) < 48) = false := by rw [b1]; exact decide_eq_false (by omega)
                  have z4 : decide (57 < (S[k2 + 1].toNat : Int)) = false := by rw [b1]; exact decide_eq_false (by omega)
                  clear HEX HT b1 g1 g1' g2 HD1 HC0
                  go_wp2_with fail
                  go_quiet (fail)
                  have hbw := below_drewN (Below.refl w9.heap.size w9) nq
                  have hrb : RB j l k2 (w9.drewN nq) := HR9.out.below hbw
                  have HOY := Lib.hid (HO9.out.below hbw)
                  have HMY := Lib.hid (HM9.out.trans (Mv.drew (Nat.le_of_lt HR9.out.lt) nq))
                  clear HO9 HM9 hbw c0 c1 HR9
                  generalize w9.drewN nq = wz at *
                  have c1 := hrb.c1
                  have hfz := hrb.fz 1
                  have HRZ : Hid (RB j l (k2 + 1) (wz.setCell ⟨j, 1, none⟩ (.int .i64 ((k2 + 1 : Nat) : Int)))) := hrb.set (k2 + 1)
                  have HOZ : Hid (OwnI w.heap.size (wz.setCell ⟨j, 1, none⟩ (.int .i64 ((k2 + 1 : Nat) : Int))) v9 (pre ++ [(n : Int)])) := HOY.out.mv HJ.out (Mv.set 1 _)
                  have HMZ : Hid (Mv j w (wz.setCell ⟨j, 1, none⟩ (.int .i64 ((k2 + 1 : Nat) : Int)))) := HMY.out.trans (Mv.set 1 _)
                  clear hrb HOY HMY z2 z2' z3 z4
                  go_wp2_with fail
                  go_roundg (l.length + 1 - (k2 + 1))
                  case measure => omega
                  case rel => exact ⟨k2 + 1, pre ++ [(n : Int)], _, by omega, by omega, Nat.le_refl _, rfl, ⟨_, rfl⟩, ⟨_, rfl⟩, by simp; omega, HF, by simpa using HOZ, by simpa using HRZ, by simpa using HMZ⟩
              · have z2 : ((S[k2].toNat : Int) != (c.toNat : Int)) = true := by
                  rw [b0, bne_iff_ne]
                  intro e
                  exact hdc (UInt8.toNat_inj.1 (by omega))
                have HF : Hid (RES = (pre ++ [(n : Int)], l.drop k2)) := by
                  show _ = _; rw [HT.out, P.nums_last HEX.out (by omega) hk2 (fun a b ha hb hh => by rw [HD0.out] at ha; cases ha; exact hdc hh.1)]
                clear HEX HT b0 b1 HD0 HD1 hdc
                go_wp2_with fail
                go_quiet (fail)
                have hbw := below_drewN (Below.refl w9.heap.size w9) nq
                have HOY := Lib.hid (HO9.out.below hbw)
                have HRY := Lib.hid (HR9.out.below hbw)
                have HMY := Lib.hid (HM9.out.trans (Mv.drew (Nat.le_of_lt HR9.out.lt) nq))
                go_wp2
                go_ret
                exact ⟨_, k2, rfl, by omega, by omega, by rw [HF.out], by rw [HF.out]; exact HOY.out, HRY.out, HMY.out⟩
            · have z1 : decide ((l.length : Int) ≤ (k2 : Int) + 1) = true := decide_eq_true (by omega)
              have z1' : (l.length : Int) ≤ (k2 : Int) + 1 := by omega
              have HF : Hid (RES = (pre ++ [(n : Int)], l.drop k2)) := by
                show _ = _; rw [HT.out, P.nums_last HEX.out (by omega) hk2 (fun a b ha hb hh => by have := (List.getElem?_eq_some_iff.1 hb).1; omega)]
              clear HEX HT
              go_wp2_with fail
              go_quiet (fail)
              have hbw := below_drewN (Below.refl w9.heap.size w9) nq
              have HOY := Lib.hid (HO9.out.below hbw)
              have HRY := Lib.hid (HR9.out.below hbw)
              have HMY := Lib.hid (HM9.out.trans (Mv.drew (Nat.le_of_lt HR9.out.lt) nq))
              go_wp2
              go_ret
              exact ⟨_, k2, rfl, by omega, by omega, by rw [HF.out], by rw [HF.out]; exact HOY.out, HRY.out, HMY.out⟩
        · have q1 : decide ((48 : Int) ≤ (((bs l)[k2]'hks).toNat : Int)) = true := by rw [hbd]; exact decide_eq_true (by omega)
          have q2 : decide ((((bs l)[k2]'hks).toNat : Int) ≤ (57 : Int)) = true := by rw [hbd]; exact decide_eq_true (by omega)
          by_cases hnm : n ≤ 4294967295
          · have q3 : decide ((n : Int) ≤ 4294967295) = true := decide_eq_true (by omega)
            have HN2 : Hid (P.runN 0 (l.drop k1) = P.runN (T.valF n d) (l.drop (k2 + 1))) := HN.out.trans (P.run_more HD.out hdd hnm)
            have hv : T.valF n d = 10 * n + (d.toNat - 48) := rfl
            obtain ⟨m, hm⟩ : ∃ m, T.valF n d = m := ⟨_, rfl⟩
            rw [hm] at HN2 hv
            have hm2 : m ≤ 42949672959 := by omega
            obtain ⟨dn, hdn⟩ : ∃ dn, d.toNat = dn := ⟨_, rfl⟩
            rw [hdn] at hbd hv hd1 hd2
            clear q1 q2
            have q1 : decide ((48 : Int) ≤ (dn : Int)) = true := decide_eq_true (by omega)
            have q2 : decide ((dn : Int) ≤ (57 : Int)) = true := decide_eq_true (by omega)
            have q4 : (48 : Int) ≤ (dn : Int) := by omega
            have q5 : (dn : Int) ≤ 57 := by omega
            clear HN hdd HD hm hdn
            generalize hSe : bs l = S at *
            go_wp2_with fail
            go_quiet (fail)
            have hbw := below_drewN (Below.refl wr.heap.size wr) nq
            have HOX := Lib.hid (HO.out.below hbw)
            have HRX := Lib.hid (HR.out.below hbw)
            have HMX := Lib.hid (HM.out.trans (Mv.drew (Nat.le_of_lt HR.out.lt) nq))
            clear HO HR HM hbw c0 c1 hfz
            generalize wr.drewN nq = wq at *
            have c0 := HRX.out.c0
            have c1 := HRX.out.c1
            have w1 : IntKind.i64.wrap (10 * (n : Int)) = 10 * (n : Int) := IntWalk.i64_in _ (by omega)
            have w2 : IntKind.u8.wrap ((dn : Int) - 48) = (dn : Int) - 48 := by simp [IntKind.wrap, IntKind.bits, IntKind.signed]; omega
            have w3 : IntKind.i64.wrap (10 * (n : Int) + ((dn : Int) - 48)) = 10 * (n : Int) + ((dn : Int) - 48) := IntWalk.i64_in _ (by omega)
            rw [hSe] at c0
            go_wp2_with fail
            go_quiet (fail)
            have hbw := below_drewN (Below.refl wq.heap.size wq) nq
            have hrb : RB j l k2 (wq.drewN nq) := HRX.out.below hbw
            have HOY := Lib.hid (HOX.out.below hbw)
            have HMY := Lib.hid (HMX.out.trans (Mv.drew (Nat.le_of_lt HRX.out.lt) nq))
            clear HOX HMX hbw c0 c1 w1 w2 w3 HRX
            generalize wq.drewN nq = wz at *
            have c1 := hrb.c1
            have hfz := hrb.fz 1
            have HRZ : Hid (RB j l (k2 + 1) (wz.setCell ⟨j, 1, none⟩ (.int .i64 ((k2 + 1 : Nat) : Int)))) := hrb.set (k2 + 1)
            have HOZ : Hid (OwnI w.heap.size (wz.setCell ⟨j, 1, none⟩ (.int .i64 ((k2 + 1 : Nat) : Int))) v5 pre) := HOY.out.mv HJ.out (Mv.set 1 _)
            have HMZ : Hid (Mv j w (wz.setCell ⟨j, 1, none⟩ (.int .i64 ((k2 + 1 : Nat) : Int)))) := HMY.out.trans (Mv.set 1 _)
            have kb : (k2 : Int) ≤ 1000000 := by omega
            clear hrb HOY HMY
            go_wp2_with fail
            go_roundg (l.length + 1 - (k2 + 1))
            case measure => omega
            case rel => exact ⟨k2 + 1, m, by omega, by omega, Nat.le_refl _, by rw [show (10 * (n : Int) + ((dn : Int) - 48)) = (m : Int) by omega], hm2, HN2, by simpa using HOZ, by simpa using HRZ, by simpa using HMZ⟩
          · have q3 : decide ((n : Int) ≤ 4294967295) = false := decide_eq_false (by omega)
            have HEX : Hid (P.runN 0 (l.drop k1) = (n, l.drop k2)) := HN.out.trans (P.run_stop HD.out (.inr (by omega)))
            clear HN hbd hdd HD hd1 hd2
            generalize hSe : bs l = S at *
            go_wp2_with fail
            go_quiet (fail)
            have hbw := below_drewN (Below.refl wr.heap.size wr) nq
            have HOX := Lib.hid (HO.out.below hbw)
            have HRX := Lib.hid (HR.out.below hbw)
            have HMX := Lib.hid (HM.out.trans (Mv.drew (Nat.le_of_lt HR.out.lt) nq))
            clear HO HR HM hbw c0 c1 hfz
            try clear q1
            try clear q2
            try clear q3
            generalize wr.drewN nq = wq at *
            have c1 := HRX.out.c1
            by_cases hkk0 : k2 = k1
            · subst hkk0
              have HF : Hid (RES = (pre, l.drop k2)) := by show _ = _; rw [HT.out, P.nums_stop HEX.out]; simp
              have e1 : ((k2 : Int) == (k2 : Int)) = true := by simp
              clear HEX HT
              go_wp2
              go_ret
              exact ⟨_, k2, rfl, by omega, by omega, by rw [HF.out], by rw [HF.out]; exact HOX.out, HRX.out, HMX.out⟩
            · have e1 : ((k2 : Int) == (k1 : Int)) = false := by rw [beq_eq_false_iff_ne]; omega
              have HA : Hid (OwnI w.heap.size (wq.alloc (.cells #[.int .i64 (n : Int)] 3)) v5 pre) := HOX.out.below (below_alloc _ _)
              have HUA : Hid (RdI (wq.alloc (.cells #[.int .i64 (n : Int)] 3)) (.slice (some ⟨wq.heap.size, 0, none⟩) 1 1) [(n : Int)]) := rdi_at _ [(n : Int)] 3 _ rfl _ rfl _ rfl (by simp)
              have HRA : Hid (RB j l k2 (wq.alloc (.cells #[.int .i64 (n : Int)] 3))) := HRX.out.below (below_alloc _ _)
              have HMA : Hid (Mv j w (wq.alloc (.cells #[.int .i64 (n : Int)] 3))) := HMX.out.trans (Mv.of (Nat.le_of_lt HRX.out.lt) (below_alloc _ _))
              have hle : pre.length + [(n : Int)].length ≤ 2000000 := by simp; omega
              have HJ2 := Lib.hid (Nat.le_of_lt HJ.out)
              clear HOX HMX
              go_wp2_with (at_builtin; refine append_rdI rfl (.tmp 78) (.tmp 80) rfl w.heap.size HA.out.1 v5 pre rfl HA.out _ [(n : Int)] rfl HUA.out hle ?_; intro v9 w9 hown hb; have HO9 := Lib.hid hown; have HR9 : Hid (RB j l k2 w9) := (hb.block j HJ.out).trans HRA.out; have HM9 := Lib.hid (HMA.out.behind hb HJ2.out); clear hown hb)
              have c0 := HR9.out.c0
              have c1 := HR9.out.c1
              rw [hSe] at c0
              have kb : (k2 : Int) ≤ 1000000 := by omega
              have jw : IntKind.i64.wrap ((k2 : Int) + 1) = (k2 : Int) + 1 := IntWalk.i64_in _ (by omega)
              clear HA HUA HRA HMA HRX
              by_cases hl1 : k2 + 1 < l.length
              · obtain ⟨d0, hd0⟩ : ∃ d, l[k2]? = some d := ⟨_, List.getElem?_eq_getElem (by omega)⟩
                obtain ⟨d1, hd1'⟩ : ∃ d, l[k2 + 1]? = some d := ⟨_, List.getElem?_eq_getElem hl1⟩
                have hk0s : k2 < S.size := by omega
                have hk1s : k2 + 1 < S.size := by omega
                have b0 := HBY.out k2 d0 hk0s hd0
                have b1 := HBY.out (k2 + 1) d1 hk1s hd1'
                have HD0 := Lib.hid hd0
                have HD1 := Lib.hid hd1'
                have z1 : decide ((l.length : Int) ≤ (k2 : Int) + 1) = false := decide_eq_false (by omega)
                have z1' : ¬ (l.length : Int) ≤ (k2 : Int) + 1 := by omega
                have y0 : (0 : Int) ≤ (k2 : Int) + 1 := by omega
                have y1 : (k2 : Int) + 1 < (S.size : Int) := by omega
                have y2 : ((k2 : Int) + 1).toNat = k2 + 1 := by omega
                have y3 : (k2 : Int) < (S.size : Int) := by omega
                have y4 : (k2 : Int) < (l.length : Int) := by omega
                have y5 : (k2 : Int) + 1 < (l.length : Int) := by omega
                clear hd0 hd1'
                by_cases hdc : d0 = c
                · have z2 : ((S[k2].toNat : Int) != (c.toNat : Int)) = false := by rw [b0, hdc]; simp
                  have z2' : (S[k2].toNat : Int) = (c.toNat : Int) := by rw [b0, hdc]
                  have HC0 : Hid (l[k2]? = some c) := by rw [← hdc]; exact HD0.out
                  clear b0 HD0 hdc
                  rcases P.isD_cases d1 with ⟨g1, g2⟩ | ⟨g1, g2⟩ | ⟨g1, g1', g2⟩
                  · have HF : Hid (RES = (pre ++ [(n : Int)], l.drop k2)) := by
                      show _ = _; rw [HT.out, P.nums_last HEX.out (by omega) hk2 (fun a b ha hb hh => by rw [HD1.out] at hb; cases hb; rw [g2] at hh; exact absurd hh.2 (by simp))]
                    have z3 : decide ((S[k2 + 1].toNat : Int) < 48) = true := by rw [b1]; exact decide_eq_true (by omega)
                    clear HEX HT b1 g1 g2 HD1 HC0
                    go_wp2_with fail
                    go_quiet (fail)
                    have hbw := below_drewN (Below.refl w9.heap.size w9) nq
                    have HOY := Lib.hid (HO9.out.below hbw)
                    have HRY := Lib.hid (HR9.out.below hbw)
                    have HMY := Lib.hid (HM9.out.trans (Mv.drew (Nat.le_of_lt HR9.out.lt) nq))
                    go_wp2
                    go_ret
                    exact ⟨_, k2, rfl, by omega, by omega, by rw [HF.out], by rw [HF.out]; exact HOY.out, HRY.out, HMY.out⟩
                  · have HF : Hid (RES = (pre ++ [(n : Int)], l.drop k2)) := by
                      show _ = _; rw [HT.out, P.nums_last HEX.out (by omega) hk2 (fun a b ha hb hh => by rw [HD1.out] at hb; cases hb; rw [g2] at hh; exact absurd hh.2 (by simp))]
                    have z3 : decide ((S[k2 + 1].toNat : Int) < 48) = false := by rw [b1]; exact decide_eq_false (by omega)
                    have z4 : decide (57 < (S[k2 + 1].toNat : Int)) = true := by rw [b1]; exact decide_eq_true (by omega)
                    clear HEX HT b1 g1 g2 HD1 HC0
                    go_wp2_with fail
                    go_quiet (fail)
                    have hbw := below_drewN (Below.refl w9.heap.size w9) nq
                    have HOY := Lib.hid (HO9.out.below hbw)
                    have HRY := Lib.hid (HR9.out.below hbw)
                    have HMY := Lib.hid (HM9.out.trans (Mv.drew (Nat.le_of_lt HR9.out.lt) nq))
                    go_wp2
                    go_ret
                    exact ⟨_, k2, rfl, by omega, by omega, by rw [HF.out], by rw [HF.out]; exact HOY.out, HRY.out, HMY.out⟩
                  · have HF : Hid (RES = ((pre ++ [(n : Int)]) ++ (numsS c (l.drop (k2 + 1))).1, (numsS c (l.drop (k2 + 1))).2)) := by
                      show _ = _; rw [HT.out, P.nums_more HEX.out (by omega) HC0.out HD1.out g2]; simp
                    have z3 : decide ((S[k2 + 1].toNat : Int) < 48) = false := by rw [b1]; exact decide_eq_false (by omega)
                    have z4 : decide (57 < (S[k2 + 1].toNat : Int)) = false := by rw [b1]; exact decide_eq_false (by omega)
                    clear HEX HT b1 g1 g1' g2 HD1 HC0
                    go_wp2_with fail
                    go_quiet (fail)
                    have hbw := below_drewN (Below.refl w9.heap.size w9) nq
                    have hrb : RB j l k2 (w9.drewN nq) := HR9.out.below hbw
                    have HOY := Lib.hid (HO9.out.below hbw)
                    have HMY := Lib.hid (HM9.out.trans (Mv.drew (Nat.le_of_lt HR9.out.lt) nq))
                    clear HO9 HM9 hbw c0 c1 HR9
                    generalize w9.drewN nq = wz at *
                    have c1 := hrb.c1
                    have hfz := hrb.fz 1
                    have HRZ : Hid (RB j l (k2 + 1) (wz.setCell ⟨j, 1, none⟩ (.int .i64 ((k2 + 1 : Nat) : Int)))) := hrb.set (k2 + 1)
                    have HOZ : Hid (OwnI w.heap.size (wz.setCell ⟨j, 1, none⟩ (.int .i64 ((k2 + 1 : Nat) : Int))) v9 (pre ++ [(n : Int)])) := HOY.out.mv HJ.out (Mv.set 1 _)
                    have HMZ : Hid (Mv j w (wz.setCell ⟨j, 1, none⟩ (.int .i64 ((k2 + 1 : Nat) : Int)))) := HMY.out.trans (Mv.set 1 _)
                    clear hrb HOY HMY z2 z2' z3 z4
                    go_wp2_with fail
                    go_roundg (l.length + 1 - (k2 + 1))
                    case measure => omega
                    case rel => exact ⟨k2 + 1, pre ++ [(n : Int)], _, by omega, by omega, Nat.le_refl _, rfl, ⟨_, rfl⟩, ⟨_, rfl⟩, by simp; omega, HF, by simpa using HOZ, by simpa using HRZ, by simpa using HMZ⟩
                · have z2 : ((S[k2].toNat : Int) != (c.toNat : Int)) = true := by
                    rw [b0, bne_iff_ne]
                    intro e
                    exact hdc (UInt8.toNat_inj.1 (by omega))
                  have HF : Hid (RES = (pre ++ [(n : Int)], l.drop k2)) := by
                    show _ = _; rw [HT.out, P.nums_last HEX.out (by omega) hk2 (fun a b ha hb hh => by rw [HD0.out] at ha; cases ha; exact hdc hh.1)]
                  clear HEX HT b0 b1 HD0 HD1 hdc
                  go_wp2_with fail
                  go_quiet (fail)
                  have hbw := below_drewN (Below.refl w9.heap.size w9) nq
                  have HOY := Lib.hid (HO9.out.below hbw)
                  have HRY := Lib.hid (HR9.out.below hbw)
                  have HMY := Lib.hid (HM9.out.trans (Mv.drew (Nat.le_of_lt HR9.out.lt) nq))
                  go_wp2
                  go_ret
                  exact ⟨_, k2, rfl, by omega, by omega, by rw [HF.out], by rw [HF.out]; exact HOY.out, HRY.out, HMY.out⟩
              · have z1 : decide ((l.length : Int) ≤ (k2 : Int) + 1) = true := decide_eq_true (by omega)
                have z1' : (l.length : Int) ≤ (k2 : Int) + 1 := by omega
                have HF : Hid (RES = (pre ++ [(n : Int)], l.drop k2)) := by
                  show _ = _; rw [HT.out, P.nums_last HEX.out (by omega) hk2 (fun a b ha hb hh => by have := (List.getElem?_eq_some_iff.1 hb).1; omega)]
                clear HEX HT
                go_wp2_with fail
                go_quiet (fail)
                have hbw := below_drewN (Below.refl w9.heap.size w9) nq
                have HOY := Lib.hid (HO9.out.below hbw)
                have HRY := Lib.hid (HR9.out.below hbw)
                have HMY := Lib.hid (HM9.out.trans (Mv.drew (Nat.le_of_lt HR9.out.lt) nq))
                go_wp2
                go_ret
                exact ⟨_, k2, rfl, by omega, by omega, by rw [HF.out], by rw [HF.out]; exact HOY.out, HRY.out, HMY.out⟩
      · have i4 : decide ((k2 : Int) < (l.length : Int)) = false := decide_eq_false (by omega)
        have HEX : Hid (P.runN 0 (l.drop k1) = (n, l.drop k2)) := HN.out.trans (P.run_end (by omega))
        clear HN
        generalize hSe : bs l = S at *
        go_wp2_with fail
        go_quiet (fail)
        have hbw := below_drewN (Below.refl wr.heap.size wr) nq
        have HOX := Lib.hid (HO.out.below hbw)
        have HRX := Lib.hid (HR.out.below hbw)
        have HMX := Lib.hid (HM.out.trans (Mv.drew (Nat.le_of_lt HR.out.lt) nq))
        clear HO HR HM hbw c0 c1 hfz
        try clear q1
        try clear q2
        try clear q3
        generalize wr.drewN nq = wq at *
        have c1 := HRX.out.c1
        by_cases hkk0 : k2 = k1
        · subst hkk0
          have HF : Hid (RES = (pre, l.drop k2)) := by show _ = _; rw [HT.out, P.nums_stop HEX.out]; simp
          have e1 : ((k2 : Int) == (k2 : Int)) = true := by simp
          clear HEX HT
          go_wp2
          go_ret
          exact ⟨_, k2, rfl, by omega, by omega, by rw [HF.out], by rw [HF.out]; exact HOX.out, HRX.out, HMX.out⟩
        · have e1 : ((k2 : Int) == (k1 : Int)) = false := by rw [beq_eq_false_iff_ne]; omega
          have HA : Hid (OwnI w.heap.size (wq.alloc (.cells #[.int .i64 (n : Int)] 3)) v5 pre) := HOX.out.below (below_alloc _ _)
          have HUA : Hid (RdI (wq.alloc (.cells #[.int .i64 (n : Int)] 3)) (.slice (some ⟨wq.heap.size, 0, none⟩) 1 1) [(n : Int)]) := rdi_at _ [(n : Int)] 3 _ rfl _ rfl _ rfl (by simp)
          have HRA : Hid (RB j l k2 (wq.alloc (.cells #[.int .i64 (n : Int)] 3))) := HRX.out.below (below_alloc _ _)
          have HMA : Hid (Mv j w (wq.alloc (.cells #[.int .i64 (n : Int)] 3))) := HMX.out.trans (Mv.of (Nat.le_of_lt HRX.out.lt) (below_alloc _ _))
          have hle : pre.length + [(n : Int)].length ≤ 2000000 := by simp; omega
          have HJ2 := Lib.hid (Nat.le_of_lt HJ.out)
          clear HOX HMX
          go_wp2_with (at_builtin; refine append_rdI rfl (.tmp 78) (.tmp 80) rfl w.heap.size HA.out.1 v5 pre rfl HA.out _ [(n : Int)] rfl HUA.out hle ?_; intro v9 w9 hown hb; have HO9 := Lib.hid hown; have HR9 : Hid (RB j l k2 w9) := (hb.block j HJ.out).trans HRA.out; have HM9 := Lib.hid (HMA.out.behind hb HJ2.out); clear hown hb)
          have c0 := HR9.out.c0
          have c1 := HR9.out.c1
          rw [hSe] at c0
          have kb : (k2 : Int) ≤ 1000000 := by omega
          have jw : IntKind.i64.wrap ((k2 : Int) + 1) = (k2 : Int) + 1 := IntWalk.i64_in _ (by omega)
          clear HA HUA HRA HMA HRX
          by_cases hl1 : k2 + 1 < l.length
          · exact absurd hl1 (by omega)
          · have z1 : decide ((l.length : Int) ≤ (k2 : Int) + 1) = true := decide_eq_true (by omega)
            have z1' : (l.length : Int) ≤ (k2 : Int) + 1 := by omega
            have HF : Hid (RES = (pre ++ [(n : Int)], l.drop k2)) := by
              show _ = _; rw [HT.out, P.nums_last HEX.out (by omega) hk2 (fun a b ha hb hh => by have := (List.getElem?_eq_some_iff.1 hb).1; omega)]
            clear HEX HT
            go_wp2_with fail
            go_quiet (fail)
            have hbw := below_drewN (Below.refl w9.heap.size w9) nq
            have HOY := Lib.hid (HO9.out.below hbw)
            have HRY := Lib.hid (HR9.out.below hbw)
            have HMY := Lib.hid (HM9.out.trans (Mv.drew (Nat.le_of_lt HR9.out.lt) nq))
            go_wp2
            go_ret
            exact ⟨_, k2, rfl, by omega, by omega, by rw [HF.out], by rw [HF.out]; exact HOY.out, HRY.out, HMY.out⟩
end
end Go.Proofs.YtiobfgcpbihbhaaGreatDoor
