/-
  AyA AvA AyB BaM AuC AwA AwB AwC AzA AxA AxB AvB AvC BaZ BaA BaB BaC BaD BaE BaF BaG BaH in one text.
-/
import Derived.Test.YtiobfgcpbihbhaaGreatDoorAtN
import Derived.Test.YtiobfgcpbihbhaaGreatDoorAsL
import Derived.Test.YtiobfgcpbihbhaaGreatDoorAsC
import Derived.BigQuiet
import Derived.Test.YtiobfgcpbihbhaaGreatDoorAtG
import Derived.Test.YtiobfgcpbihbhaaGreatDoorAsS
import Derived.Test.YtiobfgcpbihbhaaGreatDoorAuA
import Derived.Test.YtiobfgcpbihbhaaGreatDoorAsF
import Derived.Test.YtiobfgcpbihbhaaGreatDoorAsG
import Derived.Test.YtiobfgcpbihbhaaGreatDoorAsH
import Derived.Test.YtiobfgcpbihbhaaGreatDoorAsR
import Derived.Deep.AppendLies
import Derived.Deep.RegionLaw
import Derived.Test.YtiobfgcpbihbhaaGreatDoorAtA
import Derived.Test.YtiobfgcpbihbhaaGreatDoorAtU
namespace Go.Proofs.YtiobfgcpbihbhaaGreatDoor
section
open Go.RowKit P
namespace P
theorem cpre_comm : ∀ (a b : List Int), cpre a b = cpre b a
  | [], b => by cases b <;> simp [cpre]
  | x :: a, [] => by simp [cpre]
  | x :: a, y :: b => by
    by_cases h : x = y
    · subst h; simp [cpre, cpre_comm a b]
    · have h' : ¬ y = x := fun e => h e.symm
      simp [cpre, h, h']
theorem both_comm (a b : List Sg) : both a b = both b a := cpre_comm _ _
theorem restM_comm (a b : List Sg) (x : Int) : x ∈ restM a b ↔ x ∈ restM b a := by
  unfold restM
  rw [both_comm a b, List.mem_append, List.mem_append, Or.comm]
theorem outM_comm (a b : List Sg) (s : List Int) : outM a b s = outM b a s := by unfold outM; rw [both_comm]
theorem MrgR.comm {a b r : List Sg} {e : Int} (h1 : chk a = 0) (h2 : chk b = 0) (h : MrgR a b r e) : MrgR b a r e := by
  unfold MrgR at h ⊢
  rw [if_neg (by simp [h1]), if_neg (by simp [h2])] at h
  rw [if_neg (by simp [h2]), if_neg (by simp [h1])]
  obtain ⟨s, hs, k⟩ := h
  refine ⟨s, ⟨hs.1, fun x => (hs.2 x).trans (restM_comm a b x)⟩, ?_⟩
  rw [← outM_comm a b s]; exact k
theorem seqs_flat (k : Int) : ∀ (n : Nat) (l : List Int), l.length = n → flat (seqs k l) = l := by
  intro n
  induction n using Nat.strongRecOn with
  | _ n ih =>
    intro l hl
    by_cases h : l = []
    · subst h; rw [seqs_nil]; rfl
    · have hp := List.length_pos_iff.2 h
      rw [seqs_cons k h, flat_cons, ih (l.drop 255).length (by rw [List.length_drop]; omega) (l.drop 255) rfl, List.take_append_drop]
theorem outM_flat (a b : List Sg) (s : List Int) : flat (outM a b s) = both a b ++ s := by
  unfold outM
  rw [flat_app, seqs_flat 2 _ _ rfl]
  by_cases h : s = []
  · rw [if_pos h, h]; rfl
  · rw [if_neg h]; simp [flat]
theorem cpre_prefix : ∀ (a b : List Int), cpre a b = a.take (cpre a b).length
  | [], b => by cases b <;> simp [cpre]
  | x :: a, [] => by simp [cpre]
  | x :: a, y :: b => by
    by_cases h : x = y
    · subst h; simp only [cpre, if_true, List.length_cons, List.take_succ_cons]; rw [← cpre_prefix a b]
    · simp [cpre, h]
theorem lead_prefix (p : List Sg) : ∃ t, flat p = lead p ++ t := by
  unfold lead
  refine ⟨flat (p.dropWhile fun s : Sg => decide (2 = s.k)), ?_⟩
  conv => lhs; rw [← List.takeWhile_append_dropWhile (p := fun s : Sg => decide (2 = s.k)) (l := p), flat_app]
theorem both_take (a b : List Sg) : (flat (strip a)).take (both a b).length = both a b := by
  obtain ⟨t, ht⟩ := lead_prefix (strip a)
  have h := cpre_prefix (lead (strip a)) (lead (strip b))
  have hl : (both a b).length ≤ (lead (strip a)).length := (cpre_le (lead (strip a)) (lead (strip b))).1
  rw [ht, List.take_append_of_le_length hl]
  exact h.symm
/-- a number stands in a merged path when it stands in one of the two, stripped -/
theorem outM_mem {a b : List Sg} {s : List Int} (hs : IsS (restM a b) s) (x : Int) : x ∈ flat (outM a b s) ↔ x ∈ flat (strip a) ∨ x ∈ flat (strip b) := by
  rw [outM_flat, List.mem_append, hs.2 x]
  unfold restM
  rw [List.mem_append]
  have ha : x ∈ flat (strip a) ↔ x ∈ both a b ∨ x ∈ (flat (strip a)).drop (both a b).length := by
    conv => lhs; rw [← List.take_append_drop (both a b).length (flat (strip a)), both_take, List.mem_append]
  have hb : x ∈ flat (strip b) ↔ x ∈ both a b ∨ x ∈ (flat (strip b)).drop (both a b).length := by
    conv => lhs; rw [← List.take_append_drop (both a b).length (flat (strip b)), both_comm a b, both_take b a, List.mem_append]
    rw [both_comm b a]
  rw [ha, hb]
  constructor
  · rintro (h | h | h)
    · exact .inl (.inl h)
    · exact .inl (.inr h)
    · exact .inr (.inr h)
  · rintro ((h | h) | (h | h))
    · exact .inl h
    · exact .inr (.inl h)
    · exact .inl h
    · exact .inr (.inr h)
end P
end
end Go.Proofs.YtiobfgcpbihbhaaGreatDoor
namespace Go.Proofs.YtiobfgcpbihbhaaGreatDoor
section
open Go.RowKit P
set_option linter.unusedSimpArgs false
set_option linter.unusedVariables false
set_option maxHeartbeats 1500000
set_option maxRecDepth 100000
theorem conf51_same (k : Int) (w : World) : Calls Tryz.prog 51 #[.int .i64 k] w fun e w' => e = .returned (.bool (isConf k)) ∧ w' = w := by
  have H : Hid (isConf k = decide (k = 3 ∨ k = 4)) := rfl
  generalize isConf k = q at *
  by_cases h3 : k = 3
  · have H2 : Hid (q = true) := by show _ = _; rw [H.out]; exact decide_eq_true (.inl h3)
    clear H
    subst h3
    go_enter Tryz.func51, Tryz.ntmps51
    go_wp2
    go_ret
    exact ⟨by rw [H2.out] <;> rfl, rfl⟩
  · have e3 : (k == 3) = false := by simpa using h3
    by_cases h4 : k = 4
    · have H2 : Hid (q = true) := by show _ = _; rw [H.out]; exact decide_eq_true (.inr h4)
      clear H h3 e3
      subst h4
      go_enter Tryz.func51, Tryz.ntmps51
      go_wp2
      go_ret
      exact ⟨by rw [H2.out] <;> rfl, rfl⟩
    · have e4 : (k == 4) = false := by simpa using h4
      have H2 : Hid (q = false) := by show _ = _; rw [H.out]; exact decide_eq_false (by omega)
      clear H h3 h4
      go_enter Tryz.func51, Tryz.ntmps51
      go_wp2
      go_ret
      exact ⟨by rw [H2.out] <;> rfl, rfl⟩
theorem set61_same (k : Int) (w : World) : Calls Tryz.prog 61 #[.int .i64 k] w fun e w' => e = .returned (.bool (isSet k)) ∧ w' = w := by
  have H : Hid (isSet k = decide (k = 1 ∨ k = 4)) := rfl
  generalize isSet k = q at *
  by_cases h3 : k = 1
  · have H2 : Hid (q = true) := by show _ = _; rw [H.out]; exact decide_eq_true (.inl h3)
    clear H
    subst h3
    go_enter Tryz.func61, Tryz.ntmps61
    go_wp2
    go_ret
    exact ⟨by rw [H2.out] <;> rfl, rfl⟩
  · have e3 : (k == 1) = false := by simpa using h3
    by_cases h4 : k = 4
    · have H2 : Hid (q = true) := by show _ = _; rw [H.out]; exact decide_eq_true (.inr h4)
      clear H h3 e3
      subst h4
      go_enter Tryz.func61, Tryz.ntmps61
      go_wp2
      go_ret
      exact ⟨by rw [H2.out] <;> rfl, rfl⟩
    · have e4 : (k == 4) = false := by simpa using h4
      have H2 : Hid (q = false) := by show _ = _; rw [H.out]; exact decide_eq_false (by omega)
      clear H h3 h4
      go_enter Tryz.func61, Tryz.ntmps61
      go_wp2
      go_ret
      exact ⟨by rw [H2.out] <;> rfl, rfl⟩
namespace P
/-- the segment at a place, as the reference looks at it: at all that stands before -/
def tailB (p : List Sg) (i : Nat) (s : Sg) : Bool := match prevO p i with
  | some b => !isSet s.k && decide (b.k = s.k) && decide (b.as.length < 255)
  | none => false
def segR (p : List Sg) (i : Nat) (s : Sg) : Int :=
  if segE s ≠ 0 then segE s
  else if isConf s.k = true ∧ ∃ t ∈ p.take i, isConf t.k = false then 1
  else if tailB p i s = true then 1 else 0
theorem segR_err {p : List Sg} {i : Nat} {s : Sg} {e : Int} (h : segE s = e) (he : e ≠ 0) : segR p i s = e := by
  unfold segR; rw [if_pos (by rw [h]; exact he), h]
theorem segR_conf {p : List Sg} {i : Nat} {s : Sg} (h : segE s = 0) (hc : isConf s.k = true) {t : Sg} (ht : t ∈ p.take i) (hn : isConf t.k = false) : segR p i s = 1 := by
  unfold segR; rw [if_neg (by rw [h]; simp), if_pos ⟨hc, t, ht, hn⟩]
theorem segR_tail {p : List Sg} {i : Nat} {s : Sg} (h : segE s = 0) (hc : isConf s.k = true → ∀ t ∈ p.take i, isConf t.k = true) : segR p i s = if tailB p i s = true then 1 else 0 := by
  unfold segR
  rw [if_neg (by rw [h]; simp), if_neg]
  rintro ⟨h1, t, ht, hn⟩
  rw [hc h1 t ht] at hn; cases hn
theorem segE15 {s : Sg} (h : s.k < 1 ∨ 4 < s.k) : segE s = 15 := if_pos h
theorem segE1 {s : Sg} (h : ¬ (s.k < 1 ∨ 4 < s.k)) (h1 : s.as = []) : segE s = 1 := by unfold segE; rw [if_neg h, if_pos h1]
theorem segE4 {s : Sg} (h : ¬ (s.k < 1 ∨ 4 < s.k)) (h1 : s.as ≠ []) (h2 : 255 < s.as.length) : segE s = 4 := by unfold segE; rw [if_neg h, if_neg h1, if_pos h2]
theorem segE5 {s : Sg} (h : ¬ (s.k < 1 ∨ 4 < s.k)) (h1 : s.as ≠ []) (h2 : ¬ 255 < s.as.length) {j : Nat} {x : Int} (hx : s.as[j]? = some x) (hn : isNum x = false) : segE s = 5 := by
  unfold segE; rw [if_neg h, if_neg h1, if_neg h2, if_pos (List.any_eq_true.2 ⟨x, List.mem_of_getElem? hx, by rw [hn]; rfl⟩)]
theorem segE16 {s : Sg} (h : ¬ (s.k < 1 ∨ 4 < s.k)) (h1 : s.as ≠ []) (h2 : ¬ 255 < s.as.length) (h3 : ∀ (j : Nat) (x : Int), s.as[j]? = some x → isNum x = true) (h4 : isSet s.k = true) {j : Nat} {x y : Int} (hx : s.as[j]? = some x) (hy : s.as[j + 1]? = some y) (hxy : y ≤ x) : segE s = 16 := by
  have ha : s.as.any (fun x => !isNum x) = false := by
    rw [Bool.eq_false_iff]; intro hc
    obtain ⟨z, hz, hzn⟩ := List.any_eq_true.1 hc
    obtain ⟨m, hm⟩ := List.getElem?_of_mem hz
    rw [h3 m z hm] at hzn; cases hzn
  have hb : asc s.as = false := by
    rw [Bool.eq_false_iff]; intro hc
    have := asc_iff.1 hc j x y hx hy; omega
  unfold segE; rw [if_neg h, if_neg h1, if_neg h2, ha, if_neg (by simp), h4, hb]; rfl
theorem segE0 {s : Sg} (h : ¬ (s.k < 1 ∨ 4 < s.k)) (h1 : s.as ≠ []) (h2 : ¬ 255 < s.as.length) (h3 : ∀ (j : Nat) (x : Int), s.as[j]? = some x → isNum x = true) (h4 : isSet s.k = true → ∀ (j : Nat) (x y : Int), s.as[j]? = some x → s.as[j + 1]? = some y → x < y) : segE s = 0 := by
  have ha : s.as.any (fun x => !isNum x) = false := by
    rw [Bool.eq_false_iff]; intro hc
    obtain ⟨z, hz, hzn⟩ := List.any_eq_true.1 hc
    obtain ⟨m, hm⟩ := List.getElem?_of_mem hz
    rw [h3 m z hm] at hzn; cases hzn
  unfold segE; rw [if_neg h, if_neg h1, if_neg h2, ha, if_neg (by simp), if_neg]
  intro hc
  rw [Bool.and_eq_true] at hc
  rw [asc_iff.2 (h4 hc.1)] at hc
  simp at hc
theorem segE0_parts {s : Sg} (h : segE s = 0) : (1 ≤ s.k ∧ s.k ≤ 4) ∧ s.as.length ≤ 255 := by
  unfold segE at h
  split at h
  · cases h
  · split at h
    · cases h
    · split at h
      · cases h
      · omega
/-- what holds of what stands before a place that the walk of Check reaches -/
structure Bef (p : List Sg) (k : Nat) : Prop where
  ok : ∀ j b, j < k → p[j]? = some b → segE b = 0
  conf : ∀ b, prevO p k = some b → isConf b.k = true → ∀ t ∈ p.take k, isConf t.k = true
theorem Bef.start (p : List Sg) : Bef p 0 := ⟨fun j b h => by omega, fun b h => by cases h⟩
theorem conf_or (k : Int) (h : 1 ≤ k ∧ k ≤ 4) : isSeq k = !isSet k := by
  unfold isSeq isSet
  have : k = 1 ∨ k = 2 ∨ k = 3 ∨ k = 4 := by omega
  rcases this with rfl | rfl | rfl | rfl <;> decide
theorem Bef.step {p : List Sg} {k : Nat} {s : Sg} (hB : Bef p k) (hs : p[k]? = some s) :
    scan (prevO p k) (p.drop k) = (if segR p k s ≠ 0 then segR p k s else scan (prevO p (k + 1)) (p.drop (k + 1))) ∧ (segR p k s = 0 → Bef p (k + 1)) := by
  rw [scan_drop hs, prevO_succ hs]
  have htk : p.take (k + 1) = p.take k ++ [s] := by rw [List.take_add_one, hs]; rfl
  by_cases he : segE s = 0
  · rw [if_neg (by rw [he]; simp)]
    cases hp : prevO p k with
    | none =>
      have hk0 : k = 0 := by
        cases k with
        | zero => rfl
        | succ k =>
          have hp' : p[k]? = none := hp
          rw [List.getElem?_eq_none_iff] at hp'
          have := (List.getElem?_eq_some_iff.1 hs).1
          omega
      subst hk0
      have hr : segR p 0 s = 0 := by
        rw [segR_tail he (fun _ t ht => by simp at ht)]
        have : tailB p 0 s = false := rfl
        rw [this, if_neg (by simp)]
      refine ⟨by rw [hr, if_neg (by simp)], fun _ => ⟨fun j b hj hb => ?_, fun b hb hc t ht => ?_⟩⟩
      · obtain rfl : j = 0 := by omega
        rw [hs] at hb; cases hb; exact he
      · have hb' : p[0]? = some b := hb
        rw [hs] at hb'; cases hb'
        rw [htk] at ht
        simp at ht; subst ht; exact hc
    | some b =>
      obtain ⟨k, rfl⟩ : ∃ m, k = m + 1 := by
        cases k with
        | zero => cases hp
        | succ k => exact ⟨k, rfl⟩
      have hb : p[k]? = some b := hp
      have hbo := segE0_parts (hB.ok k b (by omega) hb)
      have hbm : b ∈ p.take (k + 1) := by
        rw [List.take_add_one, hb]; simp
      have hT : tailB p (k + 1) s = (!isSet s.k && decide (b.k = s.k) && decide (b.as.length < 255)) := by unfold tailB; rw [hp]
      have hsq := conf_or s.k (segE0_parts he).1
      have h255 : decide (b.as.length = 255) = !decide (b.as.length < 255) := by
        by_cases h : b.as.length < 255
        · rw [decide_eq_true h, decide_eq_false (by omega)]; rfl
        · rw [decide_eq_false h, decide_eq_true (by omega)]; rfl
      have hM : mayF s b = (!(isConf s.k && !isConf b.k) && !tailB p (k + 1) s) := by
        unfold mayF
        rw [hT, hsq, h255]
        cases isConf s.k <;> cases isConf b.k <;> cases isSet s.k <;> cases decide (b.k = s.k) <;> cases decide (b.as.length < 255) <;> rfl
      show (if mayF s b = false then 1 else scan (some s) (p.drop (k + 1 + 1))) = _ ∧ _
      by_cases hc1 : isConf s.k = true ∧ isConf b.k = false
      · rw [segR_conf he hc1.1 hbm hc1.2, hM, hc1.1, hc1.2]
        exact ⟨rfl, fun h => by cases h⟩
      · have hcb : isConf s.k = true → isConf b.k = true := fun h => by
          cases hbc : isConf b.k with
          | true => rfl
          | false => exact absurd ⟨h, hbc⟩ hc1
        have hall : isConf s.k = true → ∀ t ∈ p.take (k + 1), isConf t.k = true := fun h => hB.conf b hp (hcb h)
        have hM2 : mayF s b = !tailB p (k + 1) s := by
          rw [hM]
          cases h1 : isConf s.k with
          | false => rfl
          | true => rw [hcb h1]; rfl
        rw [segR_tail he hall, hM2]
        cases hq : tailB p (k + 1) s with
        | true => exact ⟨rfl, fun h => by cases h⟩
        | false =>
          refine ⟨rfl, fun _ => ⟨fun j y hj hy => ?_, fun y hy hc t ht => ?_⟩⟩
          · by_cases e : j = k + 1
            · subst e; rw [hs] at hy; cases hy; exact he
            · exact hB.ok j y (by omega) hy
          · have hy' : p[k + 1]? = some y := hy
            rw [hs] at hy'; cases hy'
            rw [htk] at ht
            rcases List.mem_append.1 ht with h | h
            · exact hall hc t h
            · simp at h; subst h; exact hc
  · rw [if_pos he, segR_err rfl he]
    exact ⟨by rw [if_pos he], fun h => absurd h he⟩
end P
end
end Go.Proofs.YtiobfgcpbihbhaaGreatDoor
namespace Go.Proofs.YtiobfgcpbihbhaaGreatDoor
section
open Go.RowKit P
namespace P
theorem segE_seq {k : Int} {l : List Int} (hk : k = 2 ∨ k = 3) (h1 : l ≠ []) (h2 : l.length ≤ 255) (h3 : ∀ x ∈ l, isNum x = true) : segE ⟨k, l⟩ = 0 :=
  segE0 (s := ⟨k, l⟩) (by show ¬ (k < 1 ∨ 4 < k); omega) h1 (by show ¬ 255 < l.length; omega) (fun j x hx => h3 x (List.mem_of_getElem? hx)) (fun h => by
    exfalso
    have h' : isSet k = true := h
    unfold isSet at h'
    rw [decide_eq_true_eq] at h'
    omega)
theorem mayF_same {s y : Sg} (hk : y.k = s.k) (hl : y.as.length = 255) : mayF s y = true := by
  unfold mayF
  rw [hk, hl]
  cases isConf s.k <;> cases isSeq s.k <;> simp
/-- the check goes through sequences of one kind and on from the last -/
theorem scan_seqs {k : Int} (hk : k = 2 ∨ k = 3) : ∀ (n : Nat) (l : List Int), l.length = n → (∀ x ∈ l, isNum x = true) → ∀ (b : Option Sg), (∀ y, b = some y → y.k = k ∧ y.as.length = 255) → ∀ rest, ∃ b', scan b (seqs k l ++ rest) = scan b' rest ∧ (∀ y, b' = some y → y.k = k) ∧ (b' = none → l = []) := by
  intro n
  induction n using Nat.strongRecOn with
  | _ n ih =>
    intro l hl hn b hb rest
    by_cases h : l = []
    · subst h
      exact ⟨b, by rw [seqs_nil]; rfl, fun y hy => (hb y hy).1, fun _ => rfl⟩
    · have hp := List.length_pos_iff.2 h
      have hE : segE ⟨k, l.take 255⟩ = 0 := segE_seq hk (by
        intro e
        have h3 := congrArg List.length e
        rw [List.length_take, List.length_nil] at h3; omega) (by rw [List.length_take]; omega) (fun x hx => hn x (List.mem_of_mem_take hx))
      have hs : scan b (seqs k l ++ rest) = scan (some ⟨k, l.take 255⟩) (seqs k (l.drop 255) ++ rest) := by
        rw [seqs_cons k h, List.cons_append]
        cases b with
        | none =>
          show (if segE ⟨k, l.take 255⟩ ≠ 0 then segE ⟨k, l.take 255⟩ else scan (some ⟨k, l.take 255⟩) (seqs k (l.drop 255) ++ rest)) = _
          rw [if_neg (by rw [hE]; simp)]
        | some y =>
          obtain ⟨h1, h2⟩ := hb y rfl
          rw [scan, if_neg (by rw [hE]; simp), if_neg (by rw [mayF_same (s := ⟨k, l.take 255⟩) h1 h2]; simp)]
      by_cases hd : l.drop 255 = []
      · rw [hs, hd, seqs_nil]
        exact ⟨some ⟨k, l.take 255⟩, rfl, fun y hy => by cases hy; rfl, fun e => by cases e⟩
      · have h255 : 255 < l.length := by
          have := List.length_pos_iff.2 hd
          rw [List.length_drop] at this; omega
        obtain ⟨b', e1, e2, e3⟩ := ih (l.drop 255).length (by rw [List.length_drop]; omega) (l.drop 255) rfl (fun x hx => hn x (List.mem_of_mem_drop hx)) (some ⟨k, l.take 255⟩) (fun y hy => by cases hy; exact ⟨rfl, by show (l.take 255).length = 255; rw [List.length_take]; omega⟩) rest
        exact ⟨b', hs.trans e1, e2, fun e => absurd (e3 e) hd⟩
theorem strip_num {a : List Sg} (h : chk a = 0) : ∀ x ∈ flat (strip a), isNum x = true := fun x hx => by
  unfold flat at hx
  rw [List.mem_flatten] at hx
  obtain ⟨l, hl, hxl⟩ := hx
  obtain ⟨s, hs, rfl⟩ := List.mem_map.1 hl
  have hsp : s ∈ a := (List.mem_filter.1 hs).1
  have := (segE_ok ((chk_ok h).2 s hsp)).2.2.2.1 x hxl
  unfold isNum; exact decide_eq_true this
theorem chk_outM {a b : List Sg} (h1 : chk a = 0) (h2 : chk b = 0) {s : List Int} (hs : IsS (restM a b) s) (hl : s.length ≤ 255) (hl2 : (outM a b s).length ≤ 64) : chk (outM a b s) = 0 := by
  have hnum : ∀ x ∈ flat (outM a b s), isNum x = true := fun x hx => by
    rcases (outM_mem hs x).1 hx with h | h
    · exact strip_num h1 x h
    · exact strip_num h2 x h
  rw [outM_flat] at hnum
  unfold chk
  rw [if_neg (show ¬ 64 < (outM a b s).length by omega)]
  unfold outM
  obtain ⟨b', e1, e2, _⟩ := scan_seqs (.inl rfl) _ (both a b) rfl (fun x hx => hnum x (List.mem_append_left _ hx)) none (fun y hy => by cases hy) (if s = [] then [] else [⟨1, s⟩])
  rw [e1]
  by_cases h : s = []
  · rw [if_pos h]
    cases b' <;> rfl
  · rw [if_neg h]
    have hE : segE ⟨1, s⟩ = 0 := segE0 (s := ⟨1, s⟩) (by show ¬ ((1 : Int) < 1 ∨ 4 < (1 : Int)); omega) h (by show ¬ 255 < s.length; omega) (fun j x hx => hnum x (List.mem_append_right _ (List.mem_of_getElem? hx))) (fun _ j x y hx hy => by
      obtain ⟨i1, g1⟩ := List.getElem?_eq_some_iff.1 hx
      obtain ⟨i2, g2⟩ := List.getElem?_eq_some_iff.1 hy
      have i1' : j < s.length := i1
      have i2' : j + 1 < s.length := i2
      have g1' : s[j] = x := g1
      have g2' : s[j + 1] = y := g2
      have := List.pairwise_iff_getElem.1 hs.1 j (j + 1) i1' i2' (by omega)
      rw [g1', g2'] at this
      exact this)
    cases b' with
    | none => rw [scan, if_neg (by rw [hE]; simp)]; rfl
    | some y =>
      rw [scan, if_neg (by rw [hE]; simp), if_neg (by
        have : mayF ⟨1, s⟩ y = true := rfl
        rw [this]; simp)]
      rfl
end P
end
end Go.Proofs.YtiobfgcpbihbhaaGreatDoor
namespace Go.Proofs.YtiobfgcpbihbhaaGreatDoor
section
open Go.RowKit P
namespace P
theorem len_app (p q : List Sg) : len (p ++ q) = len p + len q := by simp [len]
theorem len_cons (s : Sg) (p : List Sg) : len (s :: p) = len1 s + len p := by simp [len]
theorem len_seqs2 : ∀ (n : Nat) (l : List Int), l.length = n → len (seqs 2 l) = l.length := by
  intro n
  induction n using Nat.strongRecOn with
  | _ n ih =>
    intro l hl
    by_cases h : l = []
    · subst h; rw [seqs_nil]; rfl
    · have hp := List.length_pos_iff.2 h
      have h1 := ih (l.drop 255).length (by rw [List.length_drop]; omega) (l.drop 255) rfl
      have h2 : len1 ⟨2, l.take 255⟩ = (l.take 255).length := if_pos rfl
      rw [seqs_cons 2 h, len_cons, h1, h2, List.length_take, List.length_drop]
      omega
theorem len_seqs3 : ∀ (n : Nat) (l : List Int), l.length = n → len (seqs 3 l) = 0 := by
  intro n
  induction n using Nat.strongRecOn with
  | _ n ih =>
    intro l hl
    by_cases h : l = []
    · subst h; rw [seqs_nil]; rfl
    · have hp := List.length_pos_iff.2 h
      have h1 := ih (l.drop 255).length (by rw [List.length_drop]; omega) (l.drop 255) rfl
      have h2 : len1 ⟨3, l.take 255⟩ = 0 := rfl
      rw [seqs_cons 3 h, len_cons, h1, h2]
theorem len_all2 : ∀ (p : List Sg), (∀ s ∈ p, s.k = 2) → len p = (flat p).length
  | [], _ => rfl
  | s :: p, h => by
    have h2 : len1 s = s.as.length := if_pos (h s (List.mem_cons_self ..))
    rw [len_cons, flat_cons, List.length_append, h2, len_all2 p fun t ht => h t (List.mem_cons_of_mem _ ht)]
theorem len_all3 : ∀ (p : List Sg), (∀ s ∈ p, s.k = 3) → len p = 0
  | [], _ => rfl
  | s :: p, h => by
    have h0 := h s (List.mem_cons_self ..)
    have h2 : len1 s = 0 := by unfold len1; rw [h0]; rfl
    rw [len_cons, h2, len_all3 p fun t ht => h t (List.mem_cons_of_mem _ ht)]
theorem take_kind (p : List Sg) (kd : Int) : ∀ s ∈ p.takeWhile (fun s => decide (kd = s.k)), s.k = kd := fun s hs => by
  have := List.all_takeWhile (p := fun s : Sg => decide (kd = s.k)) (l := p)
  rw [List.all_eq_true] at this
  have h := this s hs
  rw [decide_eq_true_eq] at h
  exact h.symm
theorem split_p (p : List Sg) (kd : Int) : (p.takeWhile fun s => decide (kd = s.k)) ++ (p.dropWhile fun s => decide (kd = s.k)) = p := List.takeWhile_append_dropWhile
theorem prp_flat (p : List Sg) (kd x : Int) (n : Nat) : flat (prp p kd x n) = List.replicate n x ++ flat p := by
  have h := split_p p kd
  unfold prp prpL
  rw [flat_app, seqs_flat kd _ _ rfl, List.append_assoc, ← flat_app, h]
theorem prp_len2 (p : List Sg) (x : Int) (n : Nat) : len (prp p 2 x n) = len p + n := by
  have h := split_p p 2
  have h2 := len_all2 _ (take_kind p 2)
  have h3 : len p = len (p.takeWhile fun s => decide (2 = s.k)) + len (p.dropWhile fun s => decide (2 = s.k)) := by rw [← len_app, h]
  unfold prp prpL
  rw [len_app, len_seqs2 _ _ rfl, List.length_append, List.length_replicate, h3, h2]
  omega
theorem prp_len3 (p : List Sg) (x : Int) (n : Nat) : len (prp p 3 x n) = len p := by
  have h := split_p p 3
  have h2 := len_all3 _ (take_kind p 3)
  have h3 : len p = len (p.takeWhile fun s => decide (3 = s.k)) + len (p.dropWhile fun s => decide (3 = s.k)) := by rw [← len_app, h]
  unfold prp prpL
  rw [len_app, len_seqs3 _ _ rfl, h3, h2]
theorem scan_cons {o : Option Sg} {s : Sg} {r : List Sg} (h : scan o (s :: r) = 0) : segE s = 0 ∧ (∀ y, o = some y → mayF s y = true) ∧ scan (some s) r = 0 := by
  cases o with
  | none =>
    rw [scan] at h
    by_cases h1 : segE s = 0
    · rw [if_neg (by rw [h1]; simp)] at h
      exact ⟨h1, fun y e => (by cases e), h⟩
    · rw [if_pos h1] at h; exact absurd h h1
  | some b =>
    rw [scan] at h
    by_cases h1 : segE s = 0
    · rw [if_neg (by rw [h1]; simp)] at h
      by_cases h2 : mayF s b = true
      · rw [if_neg (by rw [h2]; simp)] at h
        exact ⟨h1, fun y e => (by cases e; exact h2), h⟩
      · rw [if_pos (by simpa using h2)] at h; cases h
    · rw [if_pos h1] at h; exact absurd h h1
theorem scan_of {o : Option Sg} {s : Sg} {r : List Sg} (h1 : segE s = 0) (h2 : ∀ y, o = some y → mayF s y = true) (h3 : scan (some s) r = 0) : scan o (s :: r) = 0 := by
  cases o with
  | none => rw [scan, if_neg (by rw [h1]; simp)]; exact h3
  | some b => rw [scan, if_neg (by rw [h1]; simp), if_neg (by rw [h2 b rfl]; simp)]; exact h3
theorem scan_app : ∀ (pre : List Sg) (o : Option Sg) (rest : List Sg), scan o (pre ++ rest) = 0 → scan (match pre.getLast? with | some y => some y | none => o) rest = 0
  | [], o, rest, h => h
  | [s], o, rest, h => (scan_cons h).2.2
  | s :: t :: pre, o, rest, h => by
    have h2 := scan_app (t :: pre) (some s) rest (scan_cons h).2.2
    rw [List.getLast?_cons_cons]
    obtain ⟨y, hy⟩ : ∃ y, (t :: pre).getLast? = some y := by
      cases hh : (t :: pre).getLast? with
      | none => rw [List.getLast?_eq_none_iff] at hh; cases hh
      | some y => exact ⟨y, rfl⟩
    rw [hy] at h2 ⊢
    exact h2
theorem drop_head {p : List Sg} {kd : Int} {r : Sg} {rs : List Sg} (h : (p.dropWhile fun s => decide (kd = s.k)) = r :: rs) : r.k ≠ kd := by
  have h1 := List.head?_dropWhile_not (fun s : Sg => decide (kd = s.k)) p
  rw [h] at h1
  simp at h1
  exact fun e => h1 e.symm
theorem chk_prp {p : List Sg} {kd x : Int} {n : Nat} (hE : prpE p kd x (n : Int) = 0) (hl : (prp p kd x n).length ≤ 64) : chk (prp p kd x n) = 0 := by
  unfold prpE at hE
  by_cases h1 : chk p = 0
  · rw [if_neg (by rw [h1]; simp)] at hE
    by_cases h2 : kd ≠ 2 ∧ kd ≠ 3
    · rw [if_pos h2] at hE; cases hE
    · rw [if_neg h2] at hE
      by_cases h3 : isNum x = false ∨ (n : Int) < 0 ∨ 255 < (n : Int)
      · rw [if_pos h3] at hE; cases hE
      · rw [if_neg h3] at hE
        by_cases h4 : 0 < (n : Int) ∧ kd = 2 ∧ confB p = true
        · rw [if_pos h4] at hE; cases hE
        · have hk : kd = 2 ∨ kd = 3 := by omega
          have hx : isNum x = true := by
            cases h : isNum x with
            | true => rfl
            | false => exact absurd (.inl h) h3
          have hok := chk_ok h1
          have hs0 : scan none p = 0 := by
            unfold chk at h1
            rw [if_neg (by omega)] at h1
            exact h1
          have hsp := split_p p kd
          have htk := take_kind p kd
          obtain ⟨T, hT⟩ : ∃ T, (p.takeWhile fun s => decide (kd = s.k)) = T := ⟨_, rfl⟩
          obtain ⟨D, hD⟩ : ∃ D, (p.dropWhile fun s => decide (kd = s.k)) = D := ⟨_, rfl⟩
          have hPL : prpL p kd x n = List.replicate n x ++ flat T := by unfold prpL; rw [hT]
          have hdh : ∀ r rs, D = r :: rs → r.k ≠ kd := fun r rs e => drop_head (hD.trans e)
          have hPR : prp p kd x n = seqs kd (prpL p kd x n) ++ D := by unfold prp; rw [hD]
          rw [hT, hD] at hsp
          rw [hT] at htk
          obtain ⟨PL, hPLe⟩ : ∃ PL, prpL p kd x n = PL := ⟨_, rfl⟩
          rw [hPLe] at hPL hPR
          have hnum : ∀ y ∈ PL, isNum y = true := fun y hy => by
            rw [hPL, List.mem_append] at hy
            rcases hy with h | h
            · rw [(List.mem_replicate.1 h).2]; exact hx
            · have := flat_num_ok (fun s hs => hok.2 s (by rw [← hsp]; exact List.mem_append_left _ hs)) y h
              unfold isNum; exact decide_eq_true this
          have hDs : scan (match T.getLast? with | some y => some y | none => none) D = 0 := scan_app T none D (by rw [hsp]; exact hs0)
          rw [hPR] at hl ⊢
          unfold chk
          rw [if_neg (by omega)]
          by_cases hP0 : PL = []
          · have hT0 : T = [] := by
              cases T with
              | nil => rfl
              | cons t T' =>
                exfalso
                have ht := (segE_ok (hok.2 t (by rw [← hsp]; exact List.mem_append_left _ (List.mem_cons_self ..)))).2.1
                rw [hP0] at hPL
                have h5 := List.append_eq_nil_iff.1 hPL.symm
                rw [flat_cons] at h5
                exact ht (List.append_eq_nil_iff.1 h5.2).1
            subst hT0
            rw [hP0, seqs_nil]
            exact hDs
          · obtain ⟨b, e1, e2, e3⟩ := scan_seqs hk _ PL rfl hnum none (fun y hy => by cases hy) D
            rw [e1]
            cases b with
            | none => exact absurd (e3 rfl) hP0
            | some y =>
              have hy := e2 y rfl
              cases D with
              | nil => rfl
              | cons r rs =>
                obtain ⟨g1, g2, g3⟩ := scan_cons hDs
                refine scan_of g1 (fun z hz => ?_) g3
                cases hz
                have hrk := hdh r rs rfl
                have q1 : decide (y.k = r.k) = false := by rw [hy]; exact decide_eq_false fun e => hrk e.symm
                have q2 : (isConf r.k && !isConf y.k) = false := by
                  rw [hy]
                  cases hc : isConf r.k with
                  | false => rfl
                  | true =>
                    cases hc2 : isConf kd with
                    | true => rfl
                    | false =>
                      exfalso
                      have hk2 : kd = 2 := by
                        unfold isConf at hc2
                        rw [decide_eq_false_iff_not] at hc2
                        omega
                      cases hTl : T.getLast? with
                      | none =>
                        rw [List.getLast?_eq_none_iff] at hTl
                        subst hTl
                        have hn0 : n ≠ 0 := fun e => hP0 (by rw [hPL, e]; rfl)
                        refine h4 ⟨by omega, hk2, ?_⟩
                        rw [← hsp]
                        exact hc
                      | some t =>
                        have hm := g2 t (by rw [hTl])
                        have htk2 := htk t (List.mem_of_getLast? hTl)
                        unfold mayF at hm
                        rw [hc, htk2, hc2] at hm
                        simp at hm
                unfold mayF
                rw [q1, q2]
                simp
  · rw [if_pos h1] at hE; exact absurd hE h1
end P
end
end Go.Proofs.YtiobfgcpbihbhaaGreatDoor
namespace Go.Proofs.YtiobfgcpbihbhaaGreatDoor
section
open Go.RowKit P
set_option linter.unusedSimpArgs false
set_option linter.unusedVariables false
set_option maxHeartbeats 1500000
set_option maxRecDepth 100000
theorem rsame_any (a b : List Sg) (v u : Value) (w : World) (hv : RdS w v a) (hu : RdS w u b) :
    Calls Tryz.prog 23 #[v, u] w fun e w' => e = .returned (.bool (decide (a = b))) ∧ Below w.heap.size w w' := by
  obtain ⟨va, vc, rfl, v1, v2, hvc⟩ := hv
  obtain ⟨ua, uc, rfl, u1, u2, huc⟩ := hu
  obtain ⟨M, hM⟩ : ∃ M, a.length = M := ⟨_, rfl⟩
  obtain ⟨N, hN⟩ : ∃ N, b.length = N := ⟨_, rfl⟩
  rw [hM] at v1 ⊢
  rw [hN] at u1 ⊢
  have HM := Lib.hid hM
  have HN := Lib.hid hN
  have HVC := Lib.hid hvc
  have HUC := Lib.hid huc
  have hLm : M ≤ 9223372036854775807 := by have := v2.1; omega
  have HA0 : Hid (∀ j, j < 0 → a[j]? = b[j]?) := fun j h => by omega
  have HS0 : Hid (Below w.heap.size w w) := Below.refl _ _
  clear v1 v2 u1 u2 hvc huc hM hN
  by_cases hmn : M = N
  · subst hmn
    go_enter Tryz.func23, Tryz.ntmps23
    go_wp2_with fail
    go_loopg [5, 6, 14] (M + 1) (fun g s5 s6 s14 wr => ∃ k : Nat, k ≤ M ∧ M + 1 - k ≤ g ∧ s14 = .int .i64 (k : Int) ∧ (∃ q, q = s5) ∧ (∃ q, q = s6) ∧ Hid (∀ j, j < k → a[j]? = b[j]?) ∧ Hid (Below w.heap.size w wr))
    case atStart => exact ⟨0, by omega, by omega, rfl, ⟨_, rfl⟩, ⟨_, rfl⟩, HA0, HS0⟩
    case round =>
      clear HA0 HS0
      obtain ⟨k, hk, hkg, rfl, ⟨u5, rfl⟩, ⟨u6, rfl⟩, HA, HS⟩ := hrel
      by_cases hlt : k < M
      · obtain ⟨s, hs⟩ : ∃ s, a[k]? = some s := ⟨_, List.getElem?_eq_getElem (by have := HM.out; omega)⟩
        obtain ⟨t, ht⟩ : ∃ t, b[k]? = some t := ⟨_, List.getElem?_eq_getElem (by have := HN.out; omega)⟩
        have HXY := Lib.hid (And.intro hs ht)
        obtain ⟨p1, o1, x1, rfl, q1, c1, c1', r1⟩ := HVC.out k s hs
        obtain ⟨p2, o2, x2, rfl, q2, c2, c2', r2⟩ := HUC.out k t ht
        have d1 := carry HS.out c1
        have d1' := carry HS.out c1'
        have d2 := carry HS.out c2
        have d2' := carry HS.out c2'
        have R1 : Hid (RdI wr x1 s.as) := r1.below HS.out
        have R2 : Hid (RdI wr x2 t.as) := r2.below HS.out
        obtain ⟨a1, z1, f1, l1, m1, cc1⟩ := R1.out
        obtain ⟨a2, z2, f2, l2, m2, cc2⟩ := R2.out
        have k0 : (0 : Int) ≤ (k : Int) := by omega
        have k1 : decide ((k : Int) < (M : Int)) = true := decide_eq_true (by omega)
        have k2 : (k : Int) < (M : Int) := by omega
        subst f1 f2
        obtain ⟨L1, hL1⟩ : ∃ L, s.as.length = L := ⟨_, rfl⟩
        obtain ⟨L2, hL2⟩ : ∃ L, t.as.length = L := ⟨_, rfl⟩
        rw [hL1] at d1' l1 R1
        rw [hL2] at d2' l2 R2
        have hz1 : L1 ≤ 9223372036854775807 := by have := m1.1; omega
        have HL1 := Lib.hid hL1
        have HL2 := Lib.hid hL2
        have HCC1 := Lib.hid cc1
        have HCC2 := Lib.hid cc2
        clear hs ht c1 c2 c1' c2' r1 r2 cc1 cc2 R1 R2 l1 l2 m1 m2 hL1 hL2
        have HF : Hid (s ≠ t → decide (a = b) = false) := fun hxy => by
          refine decide_eq_false fun e => hxy ?_
          have h1 := HXY.out.1; have h2 := HXY.out.2
          rw [e, h2] at h1; cases h1; rfl
        by_cases hkk : s.k = t.k
        · have e1 : (s.k != t.k) = false := by simpa using hkk
          by_cases hll : L1 = L2
          · subst hll
            have HKK := Lib.hid hkk
            have HB0 : Hid (∀ j, j < 0 → s.as[j]? = t.as[j]?) := fun j h => by omega
            have HW0 : Hid (Below wr.heap.size wr wr) := Below.refl _ _
            clear hkk
            go_wp2_with fail
            go_quiet (fail)
            go_wp2_with fail
            go_loopg [6, 49] (L1 + 1) (fun g2 s6 s49 w2 => ∃ i : Nat, i ≤ L1 ∧ L1 + 1 - i ≤ g2 ∧ s49 = .int .i64 (i : Int) ∧ (∃ q, q = s6) ∧ Hid (∀ j, j < i → s.as[j]? = t.as[j]?) ∧ Hid (Below wr.heap.size wr w2))
            case atStart => exact ⟨0, by omega, by omega, rfl, ⟨_, rfl⟩, HB0, below_drewN HW0.out _⟩
            case round =>
              clear HB0 HW0
              obtain ⟨i, hi, hig, rfl, ⟨u6, rfl⟩, HI, HW⟩ := hrel
              have d1 := carry HW.out d1
              have d1' := carry HW.out d1'
              have d2 := carry HW.out d2
              have d2' := carry HW.out d2'
              by_cases hil : i < L1
              · obtain ⟨x, hx⟩ : ∃ x, s.as[i]? = some x := ⟨_, List.getElem?_eq_getElem (by have := HL1.out; omega)⟩
                obtain ⟨y, hy⟩ : ∃ y, t.as[i]? = some y := ⟨_, List.getElem?_eq_getElem (by have := HL2.out; omega)⟩
                have HXY2 := Lib.hid (And.intro hx hy)
                obtain ⟨p3, o3, rfl, q3, c3⟩ := HCC1.out i x hx
                obtain ⟨p4, o4, rfl, q4, c4⟩ := HCC2.out i y hy
                have d3 := carry HW.out c3
                have d4 := carry HW.out c4
                have i0 : (0 : Int) ≤ (i : Int) := by omega
                have i1 : decide ((i : Int) < (L1 : Int)) = true := decide_eq_true (by omega)
                have i2 : (i : Int) < (L1 : Int) := by omega
                clear hx hy c3 c4
                by_cases hxy : x = y
                · have e2 : (x == y) = true := by simpa using hxy
                  have HI2 : Hid (∀ j, j < i + 1 → s.as[j]? = t.as[j]?) := fun j hj => by
                    by_cases e : j = i
                    · subst e; rw [HXY2.out.1, HXY2.out.2, hxy]
                    · exact HI.out j (by omega)
                  clear HI HXY2 hxy
                  go_wp2_with fail
                  go_quiet (fail)
                  go_wp2_with fail
                  go_roundg (L1 + 1 - (i + 1))
                  case measure => omega
                  case rel => exact ⟨i + 1, by omega, Nat.le_refl _, by go_num, ⟨_, rfl⟩, HI2, below_drewN HW.out _⟩
                · have e2 : (x == y) = false := by simpa using hxy
                  have HZ : Hid (decide (a = b) = false) := HF.out fun e => hxy (by
                    have h1 := HXY2.out.1; have h2 := HXY2.out.2
                    rw [e, h2] at h1; cases h1; rfl)
                  have HB1 := Lib.hid (below_then HS.out HW.out)
                  clear HI HXY2 hxy
                  go_wp2_with fail
                  go_quiet (fail)
                  go_wp2
                  go_ret
                  exact ⟨by rw [HZ.out] <;> rfl, below_drewN HB1.out _⟩
              · have i1 : decide ((i : Int) < (L1 : Int)) = false := decide_eq_false (by omega)
                have HST : Hid (s = t) := by
                  have e := eq_upto (a := s.as) (b := t.as) (by rw [HL1.out, HL2.out]) (fun j hj => HI.out j (by have := HL1.out; omega))
                  obtain ⟨sk, sa⟩ := s
                  obtain ⟨tk, ta⟩ := t
                  have h1 := HKK.out
                  simp only at e h1
                  subst e h1
                  rfl
                have HA2 : Hid (∀ j, j < k + 1 → a[j]? = b[j]?) := fun j hj => by
                  by_cases e : j = k
                  · subst e; rw [HXY.out.1, HXY.out.2, HST.out]
                  · exact HA.out j (by omega)
                have HB1 := Lib.hid (below_then HS.out HW.out)
                clear HA HXY HST HI HF
                go_wp2_with fail
                go_roundg (M + 1 - (k + 1))
                case measure => omega
                case rel => exact ⟨k + 1, by omega, Nat.le_refl _, by go_num, ⟨_, rfl⟩, ⟨_, rfl⟩, HA2, HB1⟩
          · have HZ := Lib.hid (HF.out fun e => hll (by rw [← HL1.out, ← HL2.out, e]))
            have e2 : ((L1 : Int) != (L2 : Int)) = true := by simpa using (by omega : ¬ (L1 : Int) = (L2 : Int))
            clear HA HXY hkk HF
            go_wp2_with fail
            go_quiet (fail)
            go_wp2
            go_ret
            exact ⟨by rw [HZ.out] <;> rfl, below_drewN HS.out _⟩
        · have e1 : (s.k != t.k) = true := by simpa using hkk
          have HZ := Lib.hid (HF.out fun e => hkk (by rw [e]))
          clear HA HXY hkk HF
          go_wp2_with fail
          go_quiet (fail)
          go_wp2
          go_ret
          exact ⟨by rw [HZ.out] <;> rfl, below_drewN HS.out _⟩
      · have k1 : decide ((k : Int) < (M : Int)) = false := decide_eq_false (by omega)
        have HZ : Hid (decide (a = b) = true) := decide_eq_true (eq_upto (by rw [HM.out, HN.out]) (fun j hj => HA.out j (by have := HM.out; omega)))
        go_wp2
        go_ret
        exact ⟨by rw [HZ.out] <;> rfl, HS.out⟩
  · have HZ : Hid (decide (a = b) = false) := decide_eq_false fun e => hmn (by rw [← HM.out, ← HN.out, e])
    have k1 : ((M : Int) == (N : Int)) = false := by simpa using (by omega : ¬ (M : Int) = (N : Int))
    go_enter Tryz.func23, Tryz.ntmps23
    go_wp2
    go_ret
    exact ⟨by rw [HZ.out] <;> rfl, HS0.out⟩
end
end Go.Proofs.YtiobfgcpbihbhaaGreatDoor
namespace Go.Proofs.YtiobfgcpbihbhaaGreatDoor
section
open Go.RowKit P
set_option linter.unusedSimpArgs false
set_option linter.unusedVariables false
set_option maxHeartbeats 1500000
set_option maxRecDepth 100000
theorem lsame_any (a b : List Int) (v u : Value) (w : World) (hv : RdI w v a) (hu : RdI w u b) :
    Calls Tryz.prog 26 #[v, u] w fun e w' => e = .returned (.bool (decide (a = b))) ∧ Below w.heap.size w w' := by
  obtain ⟨va, vc, rfl, v1, v2, hvc⟩ := hv
  obtain ⟨ua, uc, rfl, u1, u2, huc⟩ := hu
  obtain ⟨M, hM⟩ : ∃ M, a.length = M := ⟨_, rfl⟩
  obtain ⟨N, hN⟩ : ∃ N, b.length = N := ⟨_, rfl⟩
  rw [hM] at v1 ⊢
  rw [hN] at u1 ⊢
  have HM := Lib.hid hM
  have HN := Lib.hid hN
  have HVC := Lib.hid hvc
  have HUC := Lib.hid huc
  have hLm : M ≤ 9223372036854775807 := by have := v2.1; omega
  have HA0 : Hid (∀ j, j < 0 → a[j]? = b[j]?) := fun j h => by omega
  have HS0 : Hid (Below w.heap.size w w) := Below.refl _ _
  clear v1 v2 u1 u2 hvc huc hM hN
  by_cases hmn : M = N
  · subst hmn
    go_enter Tryz.func26, Tryz.ntmps26
    go_wp2_with fail
    go_loopg [5, 13] (M + 1) (fun g s5 s13 wr => ∃ k : Nat, k ≤ M ∧ M + 1 - k ≤ g ∧ s13 = .int .i64 (k : Int) ∧ (∃ q, q = s5) ∧ Hid (∀ j, j < k → a[j]? = b[j]?) ∧ Hid (Below w.heap.size w wr))
    case atStart => exact ⟨0, by omega, by omega, rfl, ⟨_, rfl⟩, HA0, HS0⟩
    case round =>
      clear HA0 HS0
      obtain ⟨k, hk, hkg, rfl, ⟨u5, rfl⟩, HA, HS⟩ := hrel
      by_cases hlt : k < M
      · obtain ⟨x, hx⟩ : ∃ x, a[k]? = some x := ⟨_, List.getElem?_eq_getElem (by have := HM.out; omega)⟩
        obtain ⟨y, hy⟩ : ∃ y, b[k]? = some y := ⟨_, List.getElem?_eq_getElem (by have := HN.out; omega)⟩
        have HXY := Lib.hid (And.intro hx hy)
        obtain ⟨p1, o1, rfl, q1, c1⟩ := HVC.out k x hx
        obtain ⟨p2, o2, rfl, q2, c2⟩ := HUC.out k y hy
        have d1 := carry HS.out c1
        have d2 := carry HS.out c2
        have k0 : (0 : Int) ≤ (k : Int) := by omega
        have k1 : decide ((k : Int) < (M : Int)) = true := decide_eq_true (by omega)
        have k2 : (k : Int) < (M : Int) := by omega
        clear hx hy c1 c2
        by_cases hxy : x = y
        · have e1 : (x == y) = true := by simpa using hxy
          have HA2 : Hid (∀ j, j < k + 1 → a[j]? = b[j]?) := fun j hj => by
            by_cases e : j = k
            · subst e; rw [HXY.out.1, HXY.out.2, hxy]
            · exact HA.out j (by omega)
          clear HA HXY hxy
          go_wp2_with fail
          go_quiet (fail)
          go_wp2_with fail
          go_roundg (M + 1 - (k + 1))
          case measure => omega
          case rel => exact ⟨k + 1, by omega, Nat.le_refl _, by go_num, ⟨_, rfl⟩, HA2, below_drewN HS.out _⟩
        · have e1 : (x == y) = false := by simpa using hxy
          have HZ : Hid (decide (a = b) = false) := by
            refine decide_eq_false fun e => hxy ?_
            have h1 := HXY.out.1; have h2 := HXY.out.2
            rw [e, h2] at h1; cases h1; rfl
          clear HA HXY hxy
          go_wp2_with fail
          go_quiet (fail)
          go_wp2
          go_ret
          exact ⟨by rw [HZ.out] <;> rfl, below_drewN HS.out _⟩
      · have k1 : decide ((k : Int) < (M : Int)) = false := decide_eq_false (by omega)
        have HZ : Hid (decide (a = b) = true) := decide_eq_true (eq_upto (by rw [HM.out, HN.out]) (fun j hj => HA.out j (by have := HM.out; omega)))
        go_wp2
        go_ret
        exact ⟨by rw [HZ.out] <;> rfl, HS.out⟩
  · have HZ : Hid (decide (a = b) = false) := decide_eq_false fun e => hmn (by rw [← HM.out, ← HN.out, e])
    have k1 : ((M : Int) == (N : Int)) = false := by simpa using (by omega : ¬ (M : Int) = (N : Int))
    go_enter Tryz.func26, Tryz.ntmps26
    go_wp2
    go_ret
    exact ⟨by rw [HZ.out] <;> rfl, HS0.out⟩
theorem rlength_any (p : List Sg) (v : Value) (w : World) (hv : RdS w v p) (hl : (flat p).length ≤ 2000000) (hp : p.length ≤ 2000000) : Calls Tryz.prog 20 #[v] w fun e w' => e = .returned (.int .i64 (len p : Int)) ∧ Below w.heap.size w w' := by
  obtain ⟨ad, cap, rfl, h1, h2, hc⟩ := hv
  have HC := Lib.hid hc
  obtain ⟨n, hn⟩ : ∃ n, p.length = n := ⟨_, rfl⟩
  have HTL : Hid (∀ k, len (p.take k) ≤ 4000000) := fun k => Nat.le_trans (len_take_le p k) (by omega)
  rw [hn] at h1 hp ⊢
  have HN := Lib.hid hn
  have HS0 : Hid (Below w.heap.size w w) := Below.refl _ _
  have HE0 : Hid (len (p.take 0) = 0) := by unfold Hid; simp [len]
  clear hc hn hl
  go_enter Tryz.func20, Tryz.ntmps20
  go_wp2_with fail
  go_loopg [3, 5, 8] n (fun g s3 s5 s8 wr => ∃ (k z : Nat), k ≤ n ∧ n - k ≤ g ∧ s3 = .int .i64 (z : Int) ∧ (∃ q, q = s5) ∧ s8 = .int .i64 (k : Int) ∧ Hid (len (p.take k) = z) ∧ Hid (Below w.heap.size w wr))
  case atStart => exact ⟨0, 0, by omega, by omega, rfl, ⟨_, rfl⟩, rfl, HE0, HS0⟩
  case round =>
    clear HS0 HE0
    obtain ⟨k, z, hk, hkg, rfl, ⟨u5, rfl⟩, rfl, HE, HS⟩ := hrel
    by_cases hlt : k < n
    · obtain ⟨s, hs⟩ : ∃ s, p[k]? = some s := ⟨_, List.getElem?_eq_getElem (by have := HN.out; omega)⟩
      have HLT := Lib.hid (len_take hs)
      have hle := HTL.out (k + 1)
      rw [HLT.out, HE.out] at hle
      obtain ⟨b, off, u, rfl, hb, c0, c1, hu⟩ := HC.out k s hs
      have d0 := carry HS.out c0
      have d1 := carry HS.out c1
      obtain ⟨uad, ucap, hf⟩ := hu.form
      have k0 : (0 : Int) ≤ (k : Int) := by omega
      have k1 : (k : Int) < (n : Int) := by omega
      subst hf
      have HL1 : Hid (len1 s = if s.k = 2 then s.as.length else if s.k = 1 then 1 else 0) := rfl
      have HS1 : Hid (∀ o, Below w.heap.size w (wr.alloc o)) := fun o => below_then HS.out (below_alloc _ o)
      generalize s.as.length = L at *
      obtain ⟨kd, hkd⟩ : ∃ kd, s.k = kd := ⟨_, rfl⟩
      rw [hkd] at d0 HL1
      clear hs c0 c1 hu HS hkd
      by_cases h2 : kd = 2
      · subst h2
        have e1 : len1 s = L := by rw [HL1.out]; rfl
        have HE2 : Hid (len (p.take (k + 1)) = z + L) := by unfold Hid; rw [HLT.out, HE.out, e1]
        rw [e1] at hle
        have e2 : IntKind.i64.wrap ((z : Int) + (L : Int)) = (z : Int) + (L : Int) := IntWalk.i64_in _ (by omega)
        clear HL1 HE HLT e1
        go_wp2_with fail
        go_roundg (n - (k + 1))
        case measure => omega
        case rel => exact ⟨k + 1, z + L, by omega, Nat.le_refl _, by go_num, ⟨_, rfl⟩, by go_num, HE2, HS1.out _⟩
      · have n2 : (kd == 2) = false := by simpa using h2
        by_cases h3 : kd = 1
        · subst h3
          have e1 : len1 s = 1 := by rw [HL1.out]; rfl
          have HE2 : Hid (len (p.take (k + 1)) = z + 1) := by unfold Hid; rw [HLT.out, HE.out, e1]
          rw [e1] at hle
          clear HL1 HE HLT e1
          go_wp2_with fail
          go_roundg (n - (k + 1))
          case measure => omega
          case rel => exact ⟨k + 1, z + 1, by omega, Nat.le_refl _, by go_num, ⟨_, rfl⟩, by go_num, HE2, HS1.out _⟩
        · have n3 : (kd == 1) = false := by simpa using h3
          have e1 : len1 s = 0 := by rw [HL1.out, if_neg h2, if_neg h3]
          have HE2 : Hid (len (p.take (k + 1)) = z) := by unfold Hid; rw [HLT.out, HE.out, e1]; omega
          clear HL1 HE HLT e1
          go_wp2_with fail
          go_roundg (n - (k + 1))
          case measure => omega
          case rel => exact ⟨k + 1, z, by omega, Nat.le_refl _, rfl, ⟨_, rfl⟩, by go_num, HE2, HS1.out _⟩
    · have k1 : decide ((k : Int) < (n : Int)) = false := decide_eq_false (by omega)
      have HZ : Hid (len p = z) := by unfold Hid; rw [← HE.out, List.take_of_length_le (by rw [HN.out]; omega)]
      go_wp2
      go_ret
      exact ⟨by rw [HZ.out] <;> rfl, HS.out⟩
theorem rhas_any (p : List Sg) (v : Value) (x : Int) (w : World) (hv : RdS w v p) (hl : (flat p).length ≤ 2000000) : Calls Tryz.prog 22 #[v, .int .i64 x] w fun e w' => e = .returned (.bool (has p x)) ∧ Below w.heap.size w w' := by
  have HF := Lib.hid (rflat_any p v w hv hl)
  obtain ⟨ad, cap, rfl⟩ := hv.form
  have HH : Hid (has p x = decide (x ∈ flat p)) := rfl
  generalize has p x = q at *
  generalize flat p = l at *
  generalize p.length = n at *
  clear hv
  go_enter Tryz.func22, Tryz.ntmps22
  go_wp2_with fail
  go_at_call 28
  refine HF.out.mono ?_
  rintro e w1 ⟨v1, rfl, hi⟩
  have HB1 := Lib.hid hi.2
  obtain ⟨a1, c1, rfl, r1, r2, hc⟩ := hi.1.rd
  obtain ⟨L, hL⟩ : ∃ L, l.length = L := ⟨_, rfl⟩
  rw [hL] at r1 hl
  have HL := Lib.hid hL
  have HC := Lib.hid hc
  have HA0 : Hid (∀ (j : Nat) (y : Int), j < 0 → l[j]? = some y → y ≠ x) := fun j y h => by omega
  have HS0 : Hid (Below w1.heap.size w1 w1) := Below.refl _ _
  clear hi hc HF r1 r2
  rw [hL]
  clear hL
  go_wp2_with fail
  go_loopg [6, 10] (L + 1) (fun g s6 s10 wr => ∃ k : Nat, k ≤ L ∧ L + 1 - k ≤ g ∧ s10 = .int .i64 (k : Int) ∧ (∃ q, q = s6) ∧ Hid (∀ (j : Nat) (y : Int), j < k → l[j]? = some y → y ≠ x) ∧ Hid (Below w1.heap.size w1 wr))
  case atStart => exact ⟨0, by omega, by omega, rfl, ⟨_, rfl⟩, HA0, HS0⟩
  case round =>
    clear HA0 HS0
    obtain ⟨k, hk, hkg, rfl, ⟨u6, rfl⟩, HA, HS⟩ := hrel
    by_cases hlt : k < L
    · obtain ⟨y, hy⟩ : ∃ y, l[k]? = some y := ⟨_, List.getElem?_eq_getElem (by have := HL.out; omega)⟩
      have HY := Lib.hid hy
      obtain ⟨b, off, rfl, hb, c⟩ := HC.out k y hy
      have d := carry HS.out c
      have k0 : (0 : Int) ≤ (k : Int) := by omega
      have k1 : (k : Int) < (L : Int) := by omega
      clear hy c
      by_cases hxy : y = x
      · have HQ : Hid (q = true) := by show _ = _; rw [HH.out]; exact decide_eq_true (by rw [← hxy]; exact List.mem_of_getElem? HY.out)
        have HB2 := Lib.hid (below_then HB1.out HS.out)
        have e1 : (y == x) = true := by simpa using hxy
        clear HA HY hxy
        go_wp2
        go_ret
        exact ⟨by rw [HQ.out] <;> rfl, HB2.out⟩
      · have e1 : (y == x) = false := by simpa using hxy
        have HA2 : Hid (∀ (j : Nat) (y : Int), j < k + 1 → l[j]? = some y → y ≠ x) := fun j z hj hz => by
          by_cases e : j = k
          · subst e; have := HY.out; rw [hz] at this; cases this; exact hxy
          · exact HA.out j z (by omega) hz
        clear HA HY hxy
        go_wp2_with fail
        go_roundg (L + 1 - (k + 1))
        case measure => omega
        case rel => exact ⟨k + 1, by omega, Nat.le_refl _, by go_num, ⟨_, rfl⟩, HA2, HS⟩
    · have k1 : decide ((k : Int) < (L : Int)) = false := decide_eq_false (by omega)
      have HQ : Hid (q = false) := by
        show _ = _; rw [HH.out]
        refine decide_eq_false fun hm => ?_
        obtain ⟨j, hj⟩ := List.getElem?_of_mem hm
        exact HA.out j x (by have := (List.getElem?_eq_some_iff.1 hj).1; have := HL.out; omega) hj rfl
      have HB2 := Lib.hid (below_then HB1.out HS.out)
      clear HA
      go_wp2
      go_ret
      exact ⟨by rw [HQ.out] <;> rfl, HB2.out⟩
theorem rfirst_any (p : List Sg) (v : Value) (w : World) (hv : RdS w v p) : Calls Tryz.prog 16 #[v] w fun e w' => e = .returned (.tuple #[.int .i64 (fst p).1, .bool (fst p).2]) ∧ Below w.heap.size w w' := by
  obtain ⟨ad, cap, rfl, h1, h2, hc⟩ := hv
  have HC := Lib.hid hc
  have HF : Hid (fst p = match p.find? (fun s => decide (s.k = 2)) with | some s => (match s.as with | x :: _ => (x, true) | [] => (0, false)) | none => (0, false)) := rfl
  generalize fst p = z at *
  obtain ⟨n, hn⟩ : ∃ n, p.length = n := ⟨_, rfl⟩
  rw [hn] at h1 ⊢
  have HN := Lib.hid hn
  have hcap := h2.1
  have HA0 : Hid (∀ (j : Nat) (y : Sg), j < 0 → p[j]? = some y → decide (y.k = 2) = false) := fun j y h => by omega
  have HS0 : Hid (Below w.heap.size w w) := Below.refl _ _
  clear hc hn h2
  go_enter Tryz.func16, Tryz.ntmps16
  go_wp2_with fail
  go_loopg [5, 8] (n + 1) (fun g s5 s8 wr => ∃ k : Nat, k ≤ n ∧ n + 1 - k ≤ g ∧ s8 = .int .i64 (k : Int) ∧ (∃ q, q = s5) ∧ Hid (∀ (j : Nat) (y : Sg), j < k → p[j]? = some y → decide (y.k = 2) = false) ∧ Hid (Below w.heap.size w wr))
  case atStart => exact ⟨0, by omega, by omega, rfl, ⟨_, rfl⟩, HA0, HS0⟩
  case round =>
    clear HA0 HS0
    obtain ⟨k, hk, hkg, rfl, ⟨u5, rfl⟩, HA, HS⟩ := hrel
    by_cases hlt : k < n
    · obtain ⟨s, hs⟩ : ∃ s, p[k]? = some s := ⟨_, List.getElem?_eq_getElem (by have := HN.out; omega)⟩
      have HSS := Lib.hid hs
      obtain ⟨b, off, u, rfl, hbb, c0, c1, hu⟩ := HC.out k s hs
      have d0 := carry HS.out c0
      have d1 := carry HS.out c1
      obtain ⟨uad, ucap, rfl, u1, u2, hcs⟩ := hu
      have HCS := Lib.hid hcs
      have k0 : (0 : Int) ≤ (k : Int) := by omega
      have k1 : (k : Int) < (n : Int) := by omega
      obtain ⟨L, hL⟩ : ∃ L, s.as.length = L := ⟨_, rfl⟩
      rw [hL] at d1 u1
      have HL := Lib.hid hL
      have HS2 := Lib.hid (below_then HS.out (below_alloc wr (.cells #[.int .i64 s.k, .slice uad L ucap] 46)))
      clear hs c0 c1 hcs hL
      by_cases hkd : s.k = 2
      · have HFF := Lib.hid (find_at HSS.out (decide_eq_true hkd) HA.out)
        have HZ : Hid (z = match s.as with | x :: _ => (x, true) | [] => (0, false)) := by show _ = _; rw [HF.out, HFF.out]
        rw [hkd] at d0 HS2
        clear HF HFF HA HSS hkd
        by_cases hl0 : L = 0
        · have hnil : s.as = [] := List.length_eq_zero_iff.1 (by rw [HL.out]; exact hl0)
          have HE : Hid (z = (0, false)) := by show _ = _; rw [HZ.out, hnil]
          subst hl0
          clear HZ hnil
          go_wp2
          go_ret2
          exact ⟨by rw [HE.out] <;> rfl, HS2.out⟩
        · obtain ⟨x, hx⟩ : ∃ x, s.as[0]? = some x := ⟨_, List.getElem?_eq_getElem (by have := HL.out; omega)⟩
          obtain ⟨ub, uo, rfl, hub, x0⟩ := HCS.out 0 x hx
          have x1 : wr.cell? ⟨ub, uo, none⟩ = some (.int .i64 x) := carry HS.out x0
          have HE : Hid (z = (x, true)) := by
            show _ = _; rw [HZ.out]
            cases hq : s.as with
            | nil => rw [hq] at hx; cases hx
            | cons y r => rw [hq] at hx; cases hx; rfl
          have n1 : ((L : Int) == 0) = false := by simpa using hl0
          have n2 : (0 : Int) < (L : Int) := by omega
          have n3 : (L == 0) = false := by simpa using hl0
          have x2 := carry (below_alloc wr (.cells #[.int .i64 2, .slice (some ⟨ub, uo, none⟩) L ucap] 46)) x1
          clear HZ hx x0
          go_wp2
          go_ret2
          exact ⟨by rw [HE.out] <;> rfl, HS2.out⟩
      · have e1 : (s.k == 2) = false := by simpa using hkd
        have HA2 : Hid (∀ (j : Nat) (y : Sg), j < k + 1 → p[j]? = some y → decide (y.k = 2) = false) := fun j y hj hy => by
          by_cases e : j = k
          · subst e; have := HSS.out; rw [hy] at this; cases this; exact decide_eq_false hkd
          · exact HA.out j y (by omega) hy
        clear HA HSS hkd
        go_wp2_with fail
        go_roundg (n + 1 - (k + 1))
        case measure => omega
        case rel => exact ⟨k + 1, by omega, Nat.le_refl _, by go_num, ⟨_, rfl⟩, HA2, HS2⟩
    · have k1 : decide ((k : Int) < (n : Int)) = false := decide_eq_false (by omega)
      have HE : Hid (z = (0, false)) := by
        show _ = _; rw [HF.out, find_none (fun y hy => by
          obtain ⟨j, hj⟩ := List.getElem?_of_mem hy
          exact HA.out j y (by have := (List.getElem?_eq_some_iff.1 hj).1; have := HN.out; omega) hj)]
      clear HA HF
      go_wp2
      go_ret2
      exact ⟨by rw [HE.out] <;> rfl, HS.out⟩
theorem rorigin_any (p : List Sg) (v : Value) (w : World) (hv : RdS w v p) : Calls Tryz.prog 18 #[v] w fun e w' => e = .returned (.tuple #[.int .i64 (org p).1, .bool (org p).2]) ∧ Below w.heap.size w w' := by
  obtain ⟨ad, cap, rfl, h1, h2, hc⟩ := hv
  have HF : Hid (org p = match p.getLast? with | some s => (if s.k = 2 then (match s.as.getLast? with | some x => (x, true) | none => (0, false)) else (0, false)) | none => (0, false)) := rfl
  generalize org p = z at *
  obtain ⟨n, hn⟩ : ∃ n, p.length = n := ⟨_, rfl⟩
  rw [hn] at h1 ⊢
  have h63 := h2.1
  by_cases h0 : n = 0
  · have hp : p = [] := List.length_eq_zero_iff.1 (by omega)
    have HE : Hid (z = (0, false)) := by show _ = _; rw [HF.out, hp]; rfl
    subst h0
    clear HF hc hn hp
    go_enter Tryz.func18, Tryz.ntmps18
    go_wp2
    go_ret2
    exact ⟨by rw [HE.out] <;> rfl, Below.refl _ _⟩
  · obtain ⟨s, hs⟩ : ∃ s, p[n - 1]? = some s := ⟨_, List.getElem?_eq_getElem (by omega)⟩
    have HL : Hid (p.getLast? = some s) := by show _ = _; rw [List.getLast?_eq_getElem?, hn]; exact hs
    obtain ⟨b, off, u, rfl, hbb, c0, c1, hu⟩ := hc (n - 1) s hs
    obtain ⟨uad, ucap, rfl, u1, u2, hcs⟩ := hu
    have k0 : (0 : Int) ≤ (n : Int) - 1 := by omega
    have k1 : (n : Int) - 1 < (n : Int) := by omega
    have k2 : (1 : Int) ≤ (n : Int) := by omega
    have k3 : IntKind.i64.wrap ((n : Int) - 1) = (n : Int) - 1 := IntWalk.i64_in _ (by omega)
    have k4 : ((n : Int) - 1).toNat = n - 1 := by omega
    have k5 : ((n : Int) == 0) = false := by simp; omega
    have k6 : (n == 0) = false := by simp; omega
    have HE0 : Hid (z = if s.k = 2 then (match s.as.getLast? with | some x => (x, true) | none => (0, false)) else (0, false)) := by show _ = _; rw [HF.out, HL.out]
    obtain ⟨L, hL⟩ : ∃ L, s.as.length = L := ⟨_, rfl⟩
    rw [hL] at c1 u1
    have HC := Lib.hid hcs
    have hL63 : L ≤ 9223372036854775807 := by have := u2.1; omega
    have HLn := Lib.hid hL
    have HB1 : Hid (Below w.heap.size w (w.alloc (.cells #[.int .i64 s.k, .slice uad L ucap] 46))) := below_alloc _ _
    clear HF HL hc hn hs hcs hL u2 h2
    by_cases hk2 : s.k = 2
    · have e1 : (s.k != 2) = false := by simpa using hk2
      by_cases hl0 : L = 0
      · have hnil : s.as = [] := List.length_eq_zero_iff.1 (by rw [HLn.out]; exact hl0)
        have HE : Hid (z = (0, false)) := by show _ = _; rw [HE0.out, if_pos hk2, hnil]; rfl
        subst hl0
        clear HE0 hnil
        rw [hk2] at c0 HB1
        go_enter Tryz.func18, Tryz.ntmps18
        go_wp2
        go_ret2
        exact ⟨by rw [HE.out] <;> rfl, HB1.out⟩
      · obtain ⟨x, hx⟩ : ∃ x, s.as[L - 1]? = some x := ⟨_, List.getElem?_eq_getElem (by have := HLn.out; omega)⟩
        obtain ⟨ub, uo, rfl, hub, x0⟩ := HC.out (L - 1) x hx
        have HE : Hid (z = (x, true)) := by show _ = _; rw [HE0.out, if_pos hk2, List.getLast?_eq_getElem?, HLn.out, hx]
        have x1 := carry HB1.out x0
        rw [hk2] at c0 HB1 x1
        have j0 : (0 : Int) ≤ (L : Int) - 1 := by omega
        have j1 : (L : Int) - 1 < (L : Int) := by omega
        have j2 : (1 : Int) ≤ (L : Int) := by omega
        have j3 : IntKind.i64.wrap ((L : Int) - 1) = (L : Int) - 1 := IntWalk.i64_in _ (by omega)
        have j4 : ((L : Int) - 1).toNat = L - 1 := by omega
        have j5 : ((L : Int) == 0) = false := by simp; omega
        have j6 : (L == 0) = false := by simp; omega
        clear HE0 hx hk2 e1
        go_enter Tryz.func18, Tryz.ntmps18
        go_wp2
        go_ret2
        exact ⟨by rw [HE.out] <;> rfl, HB1.out⟩
    · have e1 : (s.k != 2) = true := by simpa using hk2
      have e2 : (s.k == 2) = false := by simpa using hk2
      have HE : Hid (z = (0, false)) := by show _ = _; rw [HE0.out, if_neg hk2]
      clear HE0 hk2
      go_enter Tryz.func18, Tryz.ntmps18
      go_wp2
      go_ret2
      exact ⟨by rw [HE.out] <;> rfl, HB1.out⟩
end
end Go.Proofs.YtiobfgcpbihbhaaGreatDoor
namespace Go.Proofs.YtiobfgcpbihbhaaGreatDoor
section
open Go.RowKit P
set_option linter.unusedSimpArgs false
set_option linter.unusedVariables false
set_option maxHeartbeats 1500000
set_option maxRecDepth 100000
/-- 'append(s, x...)' at a step of a region that draws: s the call's own and not nil, numbers -/
theorem step_ints {w : World} {ops : Array Oper} {o : Oper} {a : Act} {K : Act → World → Prop} {Q : Exit → Act → World → Prop} {E : Prop} (hgd : o.guard = none) (s x : Operand)
    (ho : o.op = .call { callee := .builtin .append, args := #[s, x], argTypes := #[34, 34] }) (B : Nat) (hB : B ≤ w.heap.size)
    (g0 c0 : Nat) (hs : a.eval s = .slice (some ⟨g0, 0, none⟩) 0 c0) (hown : w.ownsRow B 3 1 (.slice (some ⟨g0, 0, none⟩) 0 c0) 0 []) (vx : Value) (m : List Int) (hx : a.eval x = vx) (hr : RdI w vx m) (hlen : m.length ≤ 2000000)
    (h : ∀ g cap w', OwnI B w' (.slice (some ⟨g, 0, none⟩) m.length cap) m → Below B w w' → K (a.put o.dst (.slice (some ⟨g, 0, none⟩) m.length cap)) w') : if Region.wanted o (yielded ops a.tmps) = true then Oper.wp Tryz.prog o a w K Q else E := by
  obtain ⟨i0, hi, hz0, hz1, hz2⟩ := infoE_parts info3
  obtain ⟨ad, cap, e, hcap, ⟨h63, hnil⟩, hc⟩ := id hr
  subst e
  have hw : Region.wanted o (yielded ops a.tmps) = true := by simp [Region.wanted, hgd]
  have hown0 : OwnI B w (.slice (some ⟨g0, 0, none⟩) 0 c0) [] := ⟨hB, hown⟩
  cases ad with
  | none =>
    have h0 : m = [] := by
      cases m with
      | nil => rfl
      | cons y r => obtain ⟨b, off, e, _⟩ := hc 0 y rfl; cases e
    subst h0
    have hcap : cap = 0 := hnil rfl
    subst hcap
    have hrun := run_append_owned_none (P := Tryz.prog) (w := w) B 34 o.type 3 i0 1 Tryz.underlying34 hi _ 0 [] hown
    rw [if_pos hw]
    unfold Oper.wp
    have hx' : a.eval x = .slice none 0 0 := hx
    simp [execOp, ho, resolve, invoke, builtin, hs, hx', hrun, Result.andThen]
    exact h g0 c0 w hown0 (Below.refl _ _)
  | some A =>
    by_cases h0 : m.length = 0
    · have hm0 : m = [] := List.length_eq_zero_iff.1 h0
      subst hm0
      have hrun := run_append_owned_zero (P := Tryz.prog) (w := w) B 34 o.type 3 i0 1 Tryz.underlying34 hi _ 0 [] hown A cap
      rw [if_pos hw]
      unfold Oper.wp
      have hx' : a.eval x = .slice (some A) 0 cap := hx
      simp [execOp, ho, resolve, invoke, builtin, hs, hx', hrun, Result.andThen]
      exact h g0 c0 w hown0 (Below.refl _ _)
    · have hsp : ∀ j u, (ints m)[j]? = some u → w.cell? (A.add j) = some u := fun j u hj => by
        unfold ints at hj
        rw [List.getElem?_map] at hj
        cases hx : m[j]? with
        | none => rw [hx] at hj; cases hj
        | some y =>
          rw [hx] at hj
          obtain rfl := Option.some.inj hj
          obtain ⟨b, off, e, _, hcell⟩ := hc j y hx
          injection e with e
          subst e
          rw [Addr.add_lit]; exact hcell
      refine step_append_lies w hgd s x 34 ho B 3 i0 (.int .i64 0) 1 8 Tryz.underlying34 hi hz0 hz1 hz2 rfl (by decide) _ 0 [] hs hown A m.length cap (ints m) hx (by simp [ints]) hsp (ints_one m) (by omega) (by unfold maxLen; omega) (by omega) hB w.heap.size rfl fun g' cap' w' h1 h2 _ _ => ?_
      have hb := (Below.refl _ w).grown h2 hB (fun k hk => (row_lt hown hk).1)
      rw [Nat.zero_add] at h1 ⊢
      exact h g' cap' w' ⟨Nat.le_trans hB hb.size, by simpa using h1⟩ hb
/-- a segment behind a row of the call's own, at a step of a region that draws -/
theorem step_seg {w : World} {ops : Array Oper} {o : Oper} {a : Act} {K : Act → World → Prop} {Q : Exit → Act → World → Prop} {E : Prop} (hgd : o.guard = none) (s x : Operand)
    (ho : o.op = .call { callee := .builtin .append, args := #[s, x], argTypes := #[22, 22] }) (B : Nat) (hB : B ≤ w.heap.size)
    (v : Value) (p : List Sg) (hs : a.eval s = v) (hown : OwnP B w v p) (c : Nat) (kd : Int) (u : Value) (ns : List Int) (hx : a.eval x = .slice (some ⟨c, 0, none⟩) 1 1) (hc0 : w.cell? ⟨c, 0, none⟩ = some (.int .i64 kd)) (hc1 : w.cell? ⟨c, 1, none⟩ = some u)
    (hu : ∀ g, (v.ownBlock = some g ∨ (v.ownBlock = none ∧ g = w.heap.size)) → RdN g w u ns) (hlen : p.length ≤ 2000000)
    (h : ∀ g cap w', OwnP B w' (.slice (some ⟨g, 0, none⟩) (p.length + 1) cap) (p ++ [⟨kd, ns⟩]) → Below B w w' → K (a.put o.dst (.slice (some ⟨g, 0, none⟩) (p.length + 1) cap)) w') : if Region.wanted o (yielded ops a.tmps) = true then Oper.wp Tryz.prog o a w K Q else E := by
  obtain ⟨i0, hi, hz0, hz1, hz2⟩ := infoE_parts info46
  obtain ⟨g, q, hq, hrow, hgq⟩ : ∃ g q, Prs g w q p ∧ w.ownsRow B 46 2 v p.length (flatQ q) ∧ (v.ownBlock = some g ∨ (v.ownBlock = none ∧ g = w.heap.size)) := by
    rcases hown.2 with ⟨rfl, rfl⟩ | ⟨g, cap, q, rfl, ho', hp⟩
    · exact ⟨w.heap.size, [], ⟨rfl, fun k s hk => by simp at hk⟩, World.ownsRow_nil _ _ _ _, .inr ⟨rfl, rfl⟩⟩
    · exact ⟨g, q, hp, ho', .inl rfl⟩
  have hug := hu g hgq
  have hone : ∀ x ∈ [Value.int .i64 kd, u], x.oneCell' = true := by
    intro x hx
    obtain ⟨ad, cap, e, _⟩ := hug
    simp at hx
    rcases hx with rfl | rfl
    · rfl
    · subst e; rfl
  have hcell : ∀ j x, [Value.int .i64 kd, u][j]? = some x → w.cell? ((⟨c, 0, none⟩ : Addr).add j) = some x := by
    intro j x hj
    match j, hj with
    | 0, hj => simp at hj; subst hj; rw [Addr.add_lit]; exact hc0
    | 1, hj => simp at hj; subst hj; rw [Addr.add_lit]; exact hc1
    | j + 2, hj => simp at hj
  refine step_append_lies _ hgd s x 22 ho B 46 i0 (.agg #[.int .i64 0, .slice none 0 0]) 2 32 Tryz.underlying22 hi hz0 hz1 hz2 rfl (by decide) v p.length (flatQ q) hs hrow ⟨c, 0, none⟩ 1 1 [.int .i64 kd, u] hx rfl hcell hone (by decide) (by unfold maxLen; omega) (by omega) hB w.heap.size rfl fun g' cap' w' h1 h2 h3 h4 => ?_
  have hb : Below B w w' := (Below.refl _ w).grown h2 hB (fun k hk => (row_lt hrow hk).1)
  have hgg : g' = g ∨ g' = w.heap.size := by
    rcases h3 with e | e
    · rcases hgq with e2 | ⟨e2, _⟩
      · rw [e] at e2; cases e2; exact .inl rfl
      · rw [e] at e2; cases e2
    · exact .inr e
  have hrk : ∀ k, v.ownBlock = some k → k = g ∨ False := fun k hk => by
    rcases hgq with e2 | ⟨e2, _⟩
    · rw [hk] at e2; cases e2; exact .inl rfl
    · rw [hk] at e2; cases e2
  refine h _ _ _ ⟨Nat.le_trans hB hb.size, .inr ⟨g', cap', q ++ [(kd, u)], by rw [List.length_append]; rfl, ?_, ?_⟩⟩ hb
  · rw [flatQ_app, List.length_append]; exact h1
  · refine ⟨by rw [List.length_append, List.length_append, hq.1]; rfl, fun k s hk => ?_⟩
    by_cases hkl : k < p.length
    · rw [List.getElem?_append_left hkl] at hk
      obtain ⟨u', e1, e2⟩ := hq.2 k s hk
      exact ⟨u', by rw [List.getElem?_append_left (by rw [hq.1]; exact hkl)]; exact e1, e2.grown h2 (fun j hj => (hrk j hj).elim id False.elim) hgg⟩
    · have hk2 := (List.getElem?_eq_some_iff.1 hk).1
      rw [List.length_append] at hk2
      have e : k = p.length := by simp at hk2; omega
      subst e
      rw [List.getElem?_append_right (Nat.le_refl _), Nat.sub_self] at hk
      cases hk
      exact ⟨u, by rw [List.getElem?_append_right (by rw [hq.1]; exact Nat.le_refl _), hq.1, Nat.sub_self]; rfl, hug.grown h2 (fun j hj => (hrk j hj).elim id False.elim) hgg⟩
end
end Go.Proofs.YtiobfgcpbihbhaaGreatDoor
namespace Go.Proofs.YtiobfgcpbihbhaaGreatDoor
section
open Go.RowKit P
set_option linter.unusedSimpArgs false
set_option linter.unusedVariables false
set_option maxHeartbeats 1500000
set_option maxRecDepth 100000
theorem rclone_any (p : List Sg) (v : Value) (w : World) (hl : p.length ≤ 2000000) (hf : (flat p).length ≤ 2000000) (hv : RdS w v p) :
    Calls Tryz.prog 52 #[v] w fun e w' => ∃ v', e = .returned v' ∧ OwnP w.heap.size w' v' p ∧ Below w.heap.size w w' := by
  obtain ⟨ad, cap, rfl, h1, h2, hc⟩ := hv
  have HC := Lib.hid hc
  obtain ⟨n, hn⟩ : ∃ n, p.length = n := ⟨_, rfl⟩
  rw [hn] at h1 hl ⊢
  have HN := Lib.hid hn
  have HLE := Lib.hid (flat_all_le hf)
  have HO0 : Hid (OwnP w.heap.size w (.slice none 0 0) (p.take 0)) := by show OwnP _ _ _ _; rw [List.take_zero]; exact OwnP.nil _ _ (Nat.le_refl _)
  have HS0 : Hid (Below w.heap.size w w) := Below.refl _ _
  clear hc hn hf h2
  go_enter Tryz.func52, Tryz.ntmps52
  go_wp2_with fail
  go_loopg [3, 5, 8] (n + 1) (fun g s3 s5 s8 wr => ∃ (k : Nat) (v3 : Value), k ≤ n ∧ n + 1 - k ≤ g ∧ v3 = s3 ∧ (∃ q, q = s5) ∧ s8 = .int .i64 (k : Int) ∧ Hid (OwnP w.heap.size wr v3 (p.take k)) ∧ Hid (Below w.heap.size w wr))
  case atStart => exact ⟨0, _, by omega, by omega, rfl, ⟨_, rfl⟩, rfl, HO0, HS0⟩
  case round =>
    clear HO0 HS0
    obtain ⟨k, v3, hk, hkg, rfl, ⟨u5, rfl⟩, rfl, HO, HS⟩ := hrel
    by_cases hlt : k < n
    · obtain ⟨s, hs⟩ : ∃ s, p[k]? = some s := ⟨_, List.getElem?_eq_getElem (by have := HN.out; omega)⟩
      have HTK : Hid (p.take (k + 1) = p.take k ++ [s]) := by show _ = _; rw [List.take_add_one, hs]; rfl
      have hsl := HLE.out k s hs
      obtain ⟨b, off, u, rfl, hbb, c0, c1, hu⟩ := HC.out k s hs
      have d0 := carry HS.out c0
      have d1 := carry HS.out c1
      have k0 : (0 : Int) ≤ (k : Int) := by omega
      have k1 : (k : Int) < (n : Int) := by omega
      obtain ⟨uad, ucap, hff⟩ := hu.form
      subst hff
      obtain ⟨ns, hns⟩ : ∃ ns, s.as = ns := ⟨_, rfl⟩
      obtain ⟨kd, hkd⟩ : ∃ kd, s.k = kd := ⟨_, rfl⟩
      have hse : s = ⟨kd, ns⟩ := by rw [← hns, ← hkd]
      rw [hns] at hu d1 hsl
      rw [hkd] at d0
      have HSE := Lib.hid hse
      obtain ⟨pre, hpre⟩ : ∃ pre, p.take k = pre := ⟨_, rfl⟩
      rw [hpre] at HO HTK
      have hpl : pre.length ≤ 2000000 := by rw [← hpre, List.length_take]; have := HN.out; omega
      obtain ⟨L, hL⟩ : ∃ L, ns.length = L := ⟨_, rfl⟩
      rw [hL] at d1 hu hsl
      have HL := Lib.hid hL
      have HUw := Lib.hid hu
      clear hu c0 c1 hs hns hkd hse hpre hL
      go_wp2_with fail
      have hbw : Below wr.heap.size wr (wr.alloc (.cells #[.int .i64 kd, .slice uad L ucap] 46)) := below_alloc _ _
      have f0 : (wr.alloc (.cells #[.int .i64 kd, .slice uad L ucap] 46)).cell? ⟨wr.heap.size, 0, none⟩ = some (.int .i64 kd) := cell_of (heap_alloc_new _ _) rfl
      have f1 : (wr.alloc (.cells #[.int .i64 kd, .slice uad L ucap] 46)).cell? ⟨wr.heap.size, 1, none⟩ = some (.slice uad L ucap) := cell_of (heap_alloc_new _ _) rfl
      have hbz : wr.heap.size < (wr.alloc (.cells #[.int .i64 kd, .slice uad L ucap] 46)).heap.size := by simp
      have HOW := Lib.hid (HO.out.below hbw)
      have HBW := Lib.hid (below_then HS.out hbw)
      clear HO d0 d1
      generalize hWb : wr.alloc (.cells #[.int .i64 kd, .slice uad L ucap] 46) = Wb at *
      have hX : Below Wb.heap.size Wb (Wb.drew.alloc (.cells #[] 3)) := (Below.refl _ Wb).drew.alloc (Nat.le_refl _) _
      have a0 := carry hX f0
      have a1 := carry hX f1
      have HO1 : Hid ((Wb.drew.alloc (.cells #[] 3)).ownsRow Wb.heap.size 3 1 (.slice (some ⟨Wb.heap.size, 0, none⟩) 0 0) 0 []) := World.ownsRow_made Wb.drew #[] 0 (Nat.le_refl _) (Nat.zero_le _) (by simp)
      have HR1 : Hid (RdI (Wb.drew.alloc (.cells #[] 3)) (.slice uad L ucap) ns) := HUw.out.below (HBW.out.trans (hX.mono HBW.out.size))
      have HB1 : Hid (Wb.heap.size ≤ (Wb.drew.alloc (.cells #[] 3)).heap.size) := hX.size
      have HLL : Hid (ns.length ≤ 2000000) := by show _ ≤ _; rw [HL.out]; exact hsl
      have HP1 : Hid (∀ (w1 : World) (g1 e1 : Nat), OwnI Wb.heap.size w1 (.slice (some ⟨g1, 0, none⟩) ns.length e1) ns → Below Wb.heap.size (Wb.drew.alloc (.cells #[] 3)) w1 →
          OwnP w.heap.size (w1.alloc (.cells #[.int .i64 kd, .slice (some ⟨g1, 0, none⟩) ns.length e1] 46)) v3 pre ∧ Below w.heap.size w (w1.alloc (.cells #[.int .i64 kd, .slice (some ⟨g1, 0, none⟩) ns.length e1] 46)) ∧
          (w1.alloc (.cells #[.int .i64 kd, .slice (some ⟨g1, 0, none⟩) ns.length e1] 46)).cell? ⟨w1.heap.size, 0, none⟩ = some (.int .i64 kd) ∧ (w1.alloc (.cells #[.int .i64 kd, .slice (some ⟨g1, 0, none⟩) ns.length e1] 46)).cell? ⟨w1.heap.size, 1, none⟩ = some (.slice (some ⟨g1, 0, none⟩) ns.length e1) ∧
          (∀ g, (v3.ownBlock = some g ∨ (v3.ownBlock = none ∧ g = (w1.alloc (.cells #[.int .i64 kd, .slice (some ⟨g1, 0, none⟩) ns.length e1] 46)).heap.size)) → RdN g (w1.alloc (.cells #[.int .i64 kd, .slice (some ⟨g1, 0, none⟩) ns.length e1] 46)) (.slice (some ⟨g1, 0, none⟩) ns.length e1) ns) ∧
          w1.cell? ⟨wr.heap.size, 0, none⟩ = some (.int .i64 kd)) := fun w1 g1 e1 h1 h2 => by
        have hbb : Below Wb.heap.size Wb w1 := hX.trans h2
        have hba : Below Wb.heap.size Wb (w1.alloc (.cells #[.int .i64 kd, .slice (some ⟨g1, 0, none⟩) ns.length e1] 46)) := hbb.alloc hbb.size _
        refine ⟨HOW.out.below hba, HBW.out.trans (hba.mono HBW.out.size), cell_of (heap_alloc_new _ _) rfl, cell_of (heap_alloc_new _ _) rfl, fun g hg => ?_, carry hbb f0⟩
        rcases hg with e | ⟨_, e⟩
        · have hgl : g < Wb.heap.size := by
            rcases HOW.out.2 with ⟨e2, _⟩ | ⟨g', cap', q', e2, ho', _⟩
            · rw [e2] at e; cases e
            · rw [e2] at e; cases e; exact (ownsRow_lt (e2 ▸ ho')).2
          exact (h1.away hgl).below (below_alloc _ _)
        · rw [e]
          exact h1.rd.away (by simp) (below_alloc _ _)
      clear hX HOW HBW HUw hWb
      go_region_law (first
        | (refine step_ints (by rfl) (.tmp 15) (.tmp 17) (by rfl) Wb.heap.size HB1.out Wb.heap.size 0 (by rfl) HO1.out (.slice uad L ucap) ns (by rfl) HR1.out HLL.out ?_; intro g1 e1 w1 hx1 hx2; have P1 := Lib.hid (HP1.out w1 g1 e1 hx1 hx2); have q0 := P1.out.2.2.2.2.2; clear hx1 hx2)
        | (refine step_seg (by rfl) (.tmp 12) (.tmp 20) (by rfl) w.heap.size P1.out.2.1.size v3 pre (by rfl) P1.out.1 w1.heap.size kd _ ns (by rfl) P1.out.2.2.1 P1.out.2.2.2.1 P1.out.2.2.2.2.1 hpl ?_; intro g2 e2 w2 hy1 hy2; have P2 := Lib.hid (And.intro hy1 (P1.out.2.1.trans hy2)); clear hy1 hy2))
      all_goals (
        have HO3 : Hid (OwnP w.heap.size w2 (.slice (some ⟨g2, 0, none⟩) (pre.length + 1) e2) (p.take (k + 1))) := by
          show OwnP _ _ _ _; rw [HTK.out, HSE.out]; exact P2.out.1
        go_wp2_with fail
        go_roundg (n + 1 - (k + 1))
        case measure => omega
        case rel => exact ⟨k + 1, _, by omega, Nat.le_refl _, rfl, ⟨_, rfl⟩, by go_num, HO3, P2.out.2⟩)
    · have k1 : decide ((k : Int) < (n : Int)) = false := decide_eq_false (by omega)
      have HE : Hid (p.take k = p) := by show _ = _; rw [List.take_of_length_le (by rw [HN.out]; omega)]
      have HO2 : Hid (OwnP w.heap.size wr v3 p) := HE.out ▸ HO.out
      clear HO
      go_wp2
      go_ret
      exact ⟨_, rfl, HO2.out, HS.out⟩
theorem P.strip_len (p : List Sg) : (strip p).length ≤ p.length := List.length_filter_le _ _
theorem P.strip_flat : ∀ p : List Sg, (flat (strip p)).length ≤ (flat p).length
  | [] => Nat.le_refl _
  | s :: p => by
    have ih := strip_flat p
    unfold strip at *
    rw [List.filter_cons]
    split
    · rw [flat_cons, flat_cons, List.length_append, List.length_append]; omega
    · rw [flat_cons, List.length_append]; omega
theorem rstrip_any (p : List Sg) (v : Value) (w : World) (hl : p.length ≤ 2000000) (hf : (flat p).length ≤ 2000000) (hv : RdS w v p) :
    Calls Tryz.prog 25 #[v] w fun e w' => ∃ v', e = .returned v' ∧ RdS w' v' (strip p) ∧ Below w.heap.size w w' := by
  have HCL : Hid (∀ (W : World) (u : Value), RdS W u (strip p) → Calls Tryz.prog 52 #[u] W fun e w' => ∃ v', e = .returned v' ∧ OwnP W.heap.size w' v' (strip p) ∧ Below W.heap.size W w') := fun W u h => rclone_any _ u W (Nat.le_trans (strip_len p) hl) (Nat.le_trans (strip_flat p) hf) h
  obtain ⟨ad, cap, rfl, h1, h2, hc⟩ := hv
  have HC := Lib.hid hc
  obtain ⟨n, hn⟩ : ∃ n, p.length = n := ⟨_, rfl⟩
  rw [hn] at h1 hl ⊢
  have HN := Lib.hid hn
  have HO0 : Hid (OwnP w.heap.size w (.slice none 0 0) (strip (p.take 0))) := by show OwnP _ _ _ _; rw [List.take_zero]; exact OwnP.nil _ _ (Nat.le_refl _)
  have HS0 : Hid (Below w.heap.size w w) := Below.refl _ _
  clear hc hn hf h2
  go_enter Tryz.func25, Tryz.ntmps25
  go_wp2_with fail
  go_loopg [3, 5, 8] (n + 1) (fun g s3 s5 s8 wr => ∃ (k : Nat) (v3 : Value), k ≤ n ∧ n + 1 - k ≤ g ∧ v3 = s3 ∧ (∃ q, q = s5) ∧ s8 = .int .i64 (k : Int) ∧ Hid (OwnP w.heap.size wr v3 (strip (p.take k))) ∧ Hid (Below w.heap.size w wr))
  case atStart => exact ⟨0, _, by omega, by omega, rfl, ⟨_, rfl⟩, rfl, HO0, HS0⟩
  case round =>
    clear HO0 HS0
    obtain ⟨k, v3, hk, hkg, rfl, ⟨u5, rfl⟩, rfl, HO, HS⟩ := hrel
    by_cases hlt : k < n
    · obtain ⟨s, hs⟩ : ∃ s, p[k]? = some s := ⟨_, List.getElem?_eq_getElem (by have := HN.out; omega)⟩
      have HTK := Lib.hid (strip_snoc hs)
      obtain ⟨b, off, u, rfl, hbb, c0, c1, hu⟩ := HC.out k s hs
      have d0 := carry HS.out c0
      have d1 := carry HS.out c1
      have k0 : (0 : Int) ≤ (k : Int) := by omega
      have k1 : (k : Int) < (n : Int) := by omega
      have HUw := Lib.hid hu
      obtain ⟨uad, ucap, hff⟩ := hu.form
      subst hff
      obtain ⟨ns, hns⟩ : ∃ ns, s.as = ns := ⟨_, rfl⟩
      obtain ⟨kd, hkd⟩ : ∃ kd, s.k = kd := ⟨_, rfl⟩
      have hse : s = ⟨kd, ns⟩ := by rw [← hns, ← hkd]
      rw [hns] at d1 HUw
      rw [hkd] at d0 HTK
      have HSE := Lib.hid hse
      obtain ⟨pre, hpre⟩ : ∃ pre, strip (p.take k) = pre := ⟨_, rfl⟩
      have hpl : pre.length ≤ 2000000 := by
        rw [← hpre]; refine Nat.le_trans (strip_len _) ?_; rw [List.length_take]; have := HN.out; omega
      rw [hpre] at HO HTK
      have HCF : Hid (∀ W, Calls Tryz.prog 51 #[.int .i64 kd] W fun e w' => e = .returned (.bool (isConf kd)) ∧ w' = W) := fun W => conf51_same kd W
      obtain ⟨L, hL⟩ : ∃ L, ns.length = L := ⟨_, rfl⟩
      rw [hL] at d1 HUw
      have HB1 : Hid (∀ o, OwnP w.heap.size (wr.alloc o) v3 pre ∧ Below w.heap.size w (wr.alloc o)) := fun o => ⟨HO.out.below (below_alloc _ _), below_then HS.out (below_alloc _ _)⟩
      clear hu c0 c1 hs hns hkd hse hpre hL HO HS
      cases hcf : isConf kd with
      | true =>
        rw [hcf] at HCF HTK
        have HO2 : Hid (OwnP w.heap.size (wr.alloc (.cells #[.int .i64 kd, .slice uad L ucap] 46)) v3 (strip (p.take (k + 1)))) := by
          show OwnP _ _ _ _; rw [HTK.out]; simpa using (HB1.out _).1
        have HS2 := Lib.hid (HB1.out (.cells #[.int .i64 kd, .slice uad L ucap] 46)).2
        clear HB1 HTK hcf
        go_wp2_with fail
        go_at_call 51
        refine (HCF.out _).mono ?_
        rintro e w2 ⟨rfl, rfl⟩
        go_wp2_with fail
        go_roundg (n + 1 - (k + 1))
        case measure => omega
        case rel => exact ⟨k + 1, _, by omega, Nat.le_refl _, rfl, ⟨_, rfl⟩, by go_num, HO2, HS2⟩
      | false =>
        rw [hcf] at HCF HTK
        have HTK2 : Hid (strip (p.take (k + 1)) = pre ++ [⟨kd, ns⟩]) := by
          show _ = _; rw [HTK.out, HSE.out]; rfl
        clear HTK hcf HSE
        have H0 := Lib.hid (HB1.out (.cells #[.int .i64 kd, .slice uad L ucap] 46))
        have f0 : (wr.alloc (.cells #[.int .i64 kd, .slice uad L ucap] 46)).cell? ⟨wr.heap.size, 0, none⟩ = some (.int .i64 kd) := cell_of (heap_alloc_new _ _) rfl
        have f1 : (wr.alloc (.cells #[.int .i64 kd, .slice uad L ucap] 46)).cell? ⟨wr.heap.size, 1, none⟩ = some (.slice uad L ucap) := cell_of (heap_alloc_new _ _) rfl
        clear HB1
        go_wp2_with fail
        go_at_call 51
        refine (HCF.out _).mono ?_
        rintro e w2 ⟨rfl, rfl⟩
        clear HCF
        generalize hWb : wr.alloc (.cells #[.int .i64 kd, .slice uad L ucap] 46) = Wb at *
        have H1 : Hid (OwnP w.heap.size (Wb.alloc (.cells #[.int .i64 kd, .slice uad L ucap] 46)) v3 pre ∧ Below w.heap.size w (Wb.alloc (.cells #[.int .i64 kd, .slice uad L ucap] 46))) := ⟨H0.out.1.below (below_alloc _ _), below_then H0.out.2 (below_alloc _ _)⟩
        have H2 : Hid (∀ g, (v3.ownBlock = some g ∨ (v3.ownBlock = none ∧ g = (Wb.alloc (.cells #[.int .i64 kd, .slice uad L ucap] 46)).heap.size)) → RdN g (Wb.alloc (.cells #[.int .i64 kd, .slice uad L ucap] 46)) (.slice uad L ucap) ns) := (fun g hg => HUw.out.away (hg.elim (fun e => H1.out.1.lt e) (fun e => by have h2 := e.2; have := H1.out.2.size; omega)) H1.out.2)
        have H3 : Hid ((Wb.alloc (.cells #[.int .i64 kd, .slice uad L ucap] 46)).cell? ⟨Wb.heap.size, 0, none⟩ = some (.int .i64 kd) ∧ (Wb.alloc (.cells #[.int .i64 kd, .slice uad L ucap] 46)).cell? ⟨Wb.heap.size, 1, none⟩ = some (.slice uad L ucap)) := ⟨cell_of (heap_alloc_new _ _) rfl, cell_of (heap_alloc_new _ _) rfl⟩
        clear hWb HUw H0 d0 d1
        go_wp2_with (at_builtin; refine append_seg rfl (.tmp 16) (.tmp 18) rfl w.heap.size H1.out.2.size v3 pre rfl H1.out.1 Wb.heap.size kd (.slice uad L ucap) ns rfl H3.out.1 H3.out.2 H2.out hpl ?_; intro v2 w2 hown hgrow hbl hbk; have S2 : Hid (OwnP w.heap.size w2 v2 (strip (p.take (k + 1)))) := (by show OwnP _ _ _ _; rw [HTK2.out]; exact hown); have B2 : Hid (Below w.heap.size w w2) := H1.out.2.trans hbl; clear hown hgrow hbl hbk)
        go_roundg (n + 1 - (k + 1))
        case measure => omega
        case rel => exact ⟨k + 1, _, by omega, Nat.le_refl _, rfl, ⟨_, rfl⟩, by go_num, S2, B2⟩
    · have k1 : decide ((k : Int) < (n : Int)) = false := decide_eq_false (by omega)
      have HE : Hid (p.take k = p) := by show _ = _; rw [List.take_of_length_le (by rw [HN.out]; omega)]
      have HO2 : Hid (OwnP w.heap.size wr v3 (strip p)) := HE.out ▸ HO.out
      have HK := Lib.hid (HCL.out wr v3 HO2.out.rd)
      obtain ⟨va, vc, hvf⟩ := HO2.out.rd.form
      subst hvf
      clear HO HCL HO2
      go_wp2_with fail
      go_at_call 52
      refine HK.out.mono ?_
      rintro e w2 ⟨v2, rfl, ho, hb⟩
      have HR : Hid (RdS w2 v2 (strip p) ∧ Below w.heap.size w w2) := ⟨ho.rd, below_then HS.out hb⟩
      obtain ⟨va2, vc2, hvf2⟩ := ho.rd.form
      subst hvf2
      clear ho hb HK
      go_wp2
      go_ret
      exact ⟨_, rfl, HR.out.1, HR.out.2⟩
end
end Go.Proofs.YtiobfgcpbihbhaaGreatDoor
namespace Go.Proofs.YtiobfgcpbihbhaaGreatDoor
section
open Go.RowKit P
set_option linter.unusedSimpArgs false
set_option linter.unusedVariables false
set_option maxHeartbeats 1500000
set_option maxRecDepth 100000
theorem RdN.grown2 {g h : Nat} {row : Option Nat} {w w' : World} {v : Value} {l : List Int} (hh : RdN h w v l) (hg0 : RdN g w v l) (hg : w.grownBy w' row) (hr : ∀ k, row = some k → k = g) : RdN h w' v l := by
  obtain ⟨ad, cap, e, h1, h2, hc⟩ := hh
  obtain ⟨ad', cap', e', _, _, hc'⟩ := hg0
  rw [e] at e'
  injection e' with e1 e2 e3
  subst e1
  refine ⟨ad, cap, e, h1, h2, fun k x hk => ?_⟩
  obtain ⟨b, off, a1, a2, a3, a4⟩ := hc k x hk
  obtain ⟨b', off', a1', _, a3', _⟩ := hc' k x hk
  rw [a1] at a1'
  cases a1'
  exact ⟨b, off, a1, Nat.lt_of_lt_of_le a2 hg.size, a3, by rw [← a4]; exact World.cell?_of_block (hg.block b a2 (fun e => a3' (hr b e.symm)))⟩
theorem OwnF.below {B : Nat} {w w1 : World} {v : Value} {p : List Sg} (h : OwnF B w v p) (hb : Below w.heap.size w w1) : OwnF B w1 v p := by
  refine ⟨Nat.le_trans h.1 hb.size, ?_⟩
  rcases h.2 with h0 | ⟨g, cap, q, e, ho, hp, hf⟩
  · exact .inl h0
  · exact .inr ⟨g, cap, q, e, row_below ho hb, hp.below hb, hf.below hb⟩
/-- a segment behind a row of the call's own, at a step of a region that draws -/
theorem step_segF {w : World} {ops : Array Oper} {o : Oper} {a : Act} {K : Act → World → Prop} {Q : Exit → Act → World → Prop} {E : Prop} (hgd : o.guard = none) (s x : Operand)
    (ho : o.op = .call { callee := .builtin .append, args := #[s, x], argTypes := #[22, 22] }) (B : Nat) (hB : B ≤ w.heap.size)
    (v : Value) (p : List Sg) (hs : a.eval s = v) (hown : OwnF B w v p) (c : Nat) (kd : Int) (u : Value) (ns : List Int) (hx : a.eval x = .slice (some ⟨c, 0, none⟩) 1 1) (hc0 : w.cell? ⟨c, 0, none⟩ = some (.int .i64 kd)) (hc1 : w.cell? ⟨c, 1, none⟩ = some u)
    (hu : ∀ g, (v.ownBlock = some g ∨ (v.ownBlock = none ∧ g = w.heap.size)) → RdN g w u ns) (huF : ∀ h, h < B → RdN h w u ns) (hlen : p.length ≤ 2000000)
    (h : ∀ g cap w', OwnF B w' (.slice (some ⟨g, 0, none⟩) (p.length + 1) cap) (p ++ [⟨kd, ns⟩]) → Below B w w' → K (a.put o.dst (.slice (some ⟨g, 0, none⟩) (p.length + 1) cap)) w') : if Region.wanted o (yielded ops a.tmps) = true then Oper.wp Tryz.prog o a w K Q else E := by
  obtain ⟨i0, hi, hz0, hz1, hz2⟩ := infoE_parts info46
  obtain ⟨g, q, hfr, hq, hrow, hgq⟩ : ∃ g q, Frs B w q p p.length ∧ Prs g w q p ∧ w.ownsRow B 46 2 v p.length (flatQ q) ∧ (v.ownBlock = some g ∨ (v.ownBlock = none ∧ g = w.heap.size)) := by
    rcases hown.2 with ⟨rfl, rfl⟩ | ⟨g, cap, q, rfl, ho', hp, hfr⟩
    · exact ⟨w.heap.size, [], (fun k s h => by simp at h), ⟨rfl, fun k s hk => by simp at hk⟩, World.ownsRow_nil _ _ _ _, .inr ⟨rfl, rfl⟩⟩
    · exact ⟨g, q, hfr, hp, ho', .inl rfl⟩
  have hug := hu g hgq
  have hone : ∀ x ∈ [Value.int .i64 kd, u], x.oneCell' = true := by
    intro x hx
    obtain ⟨ad, cap, e, _⟩ := hug
    simp at hx
    rcases hx with rfl | rfl
    · rfl
    · subst e; rfl
  have hcell : ∀ j x, [Value.int .i64 kd, u][j]? = some x → w.cell? ((⟨c, 0, none⟩ : Addr).add j) = some x := by
    intro j x hj
    match j, hj with
    | 0, hj => simp at hj; subst hj; rw [Addr.add_lit]; exact hc0
    | 1, hj => simp at hj; subst hj; rw [Addr.add_lit]; exact hc1
    | j + 2, hj => simp at hj
  refine step_append_lies _ hgd s x 22 ho B 46 i0 (.agg #[.int .i64 0, .slice none 0 0]) 2 32 Tryz.underlying22 hi hz0 hz1 hz2 rfl (by decide) v p.length (flatQ q) hs hrow ⟨c, 0, none⟩ 1 1 [.int .i64 kd, u] hx rfl hcell hone (by decide) (by unfold maxLen; omega) (by omega) hB w.heap.size rfl fun g' cap' w' h1 h2 h3 h4 => ?_
  have hb : Below B w w' := (Below.refl _ w).grown h2 hB (fun k hk => (row_lt hrow hk).1)
  have hgg : g' = g ∨ g' = w.heap.size := by
    rcases h3 with e | e
    · rcases hgq with e2 | ⟨e2, _⟩
      · rw [e] at e2; cases e2; exact .inl rfl
      · rw [e] at e2; cases e2
    · exact .inr e
  have hrk : ∀ k, v.ownBlock = some k → k = g ∨ False := fun k hk => by
    rcases hgq with e2 | ⟨e2, _⟩
    · rw [hk] at e2; cases e2; exact .inl rfl
    · rw [hk] at e2; cases e2
  refine h _ _ _ ⟨Nat.le_trans hB hb.size, .inr ⟨g', cap', q ++ [(kd, u)], by rw [List.length_append]; rfl, ?_, ?_, ?_⟩⟩ hb
  · rw [flatQ_app, List.length_append]; exact h1
  · refine ⟨by rw [List.length_append, List.length_append, hq.1]; rfl, fun k s hk => ?_⟩
    by_cases hkl : k < p.length
    · rw [List.getElem?_append_left hkl] at hk
      obtain ⟨u', e1, e2⟩ := hq.2 k s hk
      exact ⟨u', by rw [List.getElem?_append_left (by rw [hq.1]; exact hkl)]; exact e1, e2.grown h2 (fun j hj => (hrk j hj).elim id False.elim) hgg⟩
    · have hk2 := (List.getElem?_eq_some_iff.1 hk).1
      rw [List.length_append] at hk2
      have e : k = p.length := by simp at hk2; omega
      subst e
      rw [List.getElem?_append_right (Nat.le_refl _), Nat.sub_self] at hk
      cases hk
      exact ⟨u, by rw [List.getElem?_append_right (by rw [hq.1]; exact Nat.le_refl _), hq.1, Nat.sub_self]; rfl, hug.grown h2 (fun j hj => (hrk j hj).elim id False.elim) hgg⟩
  · intro k s hkn hk
    by_cases hkl : k < p.length
    · rw [List.getElem?_append_left hkl] at hk
      obtain ⟨u', e1, e2⟩ := hq.2 k s hk
      obtain ⟨u2, e3, e4⟩ := hfr k s hkl hk
      rw [e1] at e3
      cases e3
      exact ⟨u', by rw [List.getElem?_append_left (by rw [hq.1]; exact hkl)]; exact e1, fun h hh => (e4 h hh).grown2 e2 h2 (fun j hj => (hrk j hj).elim id False.elim)⟩
    · have hk2 := (List.getElem?_eq_some_iff.1 hk).1
      rw [List.length_append] at hk2
      have e : k = p.length := by simp at hk2; omega
      subst e
      rw [List.getElem?_append_right (Nat.le_refl _), Nat.sub_self] at hk
      cases hk
      exact ⟨u, by rw [List.getElem?_append_right (by rw [hq.1]; exact Nat.le_refl _), hq.1, Nat.sub_self]; rfl, fun h hh => (huF h hh).grown2 hug h2 (fun j hj => (hrk j hj).elim id False.elim)⟩
theorem rcloneF_any (p : List Sg) (v : Value) (w : World) (hl : p.length ≤ 2000000) (hf : (flat p).length ≤ 2000000) (hv : RdS w v p) :
    Calls Tryz.prog 52 #[v] w fun e w' => ∃ v', e = .returned v' ∧ OwnF w.heap.size w' v' p ∧ Below w.heap.size w w' := by
  obtain ⟨ad, cap, rfl, h1, h2, hc⟩ := hv
  have HC := Lib.hid hc
  obtain ⟨n, hn⟩ : ∃ n, p.length = n := ⟨_, rfl⟩
  rw [hn] at h1 hl ⊢
  have HN := Lib.hid hn
  have HLE := Lib.hid (flat_all_le hf)
  have HO0 : Hid (OwnF w.heap.size w (.slice none 0 0) (p.take 0)) := by show OwnF _ _ _ _; rw [List.take_zero]; exact ⟨Nat.le_refl _, .inl ⟨rfl, rfl⟩⟩
  have HS0 : Hid (Below w.heap.size w w) := Below.refl _ _
  clear hc hn hf h2
  go_enter Tryz.func52, Tryz.ntmps52
  go_wp2_with fail
  go_loopg [3, 5, 8] (n + 1) (fun g s3 s5 s8 wr => ∃ (k : Nat) (v3 : Value), k ≤ n ∧ n + 1 - k ≤ g ∧ v3 = s3 ∧ (∃ q, q = s5) ∧ s8 = .int .i64 (k : Int) ∧ Hid (OwnF w.heap.size wr v3 (p.take k)) ∧ Hid (Below w.heap.size w wr))
  case atStart => exact ⟨0, _, by omega, by omega, rfl, ⟨_, rfl⟩, rfl, HO0, HS0⟩
  case round =>
    clear HO0 HS0
    obtain ⟨k, v3, hk, hkg, rfl, ⟨u5, rfl⟩, rfl, HO, HS⟩ := hrel
    by_cases hlt : k < n
    · obtain ⟨s, hs⟩ : ∃ s, p[k]? = some s := ⟨_, List.getElem?_eq_getElem (by have := HN.out; omega)⟩
      have HTK : Hid (p.take (k + 1) = p.take k ++ [s]) := by show _ = _; rw [List.take_add_one, hs]; rfl
      have hsl := HLE.out k s hs
      obtain ⟨b, off, u, rfl, hbb, c0, c1, hu⟩ := HC.out k s hs
      have d0 := carry HS.out c0
      have d1 := carry HS.out c1
      have k0 : (0 : Int) ≤ (k : Int) := by omega
      have k1 : (k : Int) < (n : Int) := by omega
      obtain ⟨uad, ucap, hff⟩ := hu.form
      subst hff
      obtain ⟨ns, hns⟩ : ∃ ns, s.as = ns := ⟨_, rfl⟩
      obtain ⟨kd, hkd⟩ : ∃ kd, s.k = kd := ⟨_, rfl⟩
      have hse : s = ⟨kd, ns⟩ := by rw [← hns, ← hkd]
      rw [hns] at hu d1 hsl
      rw [hkd] at d0
      have HSE := Lib.hid hse
      obtain ⟨pre, hpre⟩ : ∃ pre, p.take k = pre := ⟨_, rfl⟩
      rw [hpre] at HO HTK
      have hpl : pre.length ≤ 2000000 := by rw [← hpre, List.length_take]; have := HN.out; omega
      obtain ⟨L, hL⟩ : ∃ L, ns.length = L := ⟨_, rfl⟩
      rw [hL] at d1 hu hsl
      have HL := Lib.hid hL
      have HUw := Lib.hid hu
      clear hu c0 c1 hs hns hkd hse hpre hL
      go_wp2_with fail
      have hbw : Below wr.heap.size wr (wr.alloc (.cells #[.int .i64 kd, .slice uad L ucap] 46)) := below_alloc _ _
      have f0 : (wr.alloc (.cells #[.int .i64 kd, .slice uad L ucap] 46)).cell? ⟨wr.heap.size, 0, none⟩ = some (.int .i64 kd) := cell_of (heap_alloc_new _ _) rfl
      have f1 : (wr.alloc (.cells #[.int .i64 kd, .slice uad L ucap] 46)).cell? ⟨wr.heap.size, 1, none⟩ = some (.slice uad L ucap) := cell_of (heap_alloc_new _ _) rfl
      have hbz : wr.heap.size < (wr.alloc (.cells #[.int .i64 kd, .slice uad L ucap] 46)).heap.size := by simp
      have HOW := Lib.hid (HO.out.below hbw)
      have HBW := Lib.hid (below_then HS.out hbw)
      clear HO d0 d1
      generalize hWb : wr.alloc (.cells #[.int .i64 kd, .slice uad L ucap] 46) = Wb at *
      have hX : Below Wb.heap.size Wb (Wb.drew.alloc (.cells #[] 3)) := (Below.refl _ Wb).drew.alloc (Nat.le_refl _) _
      have a0 := carry hX f0
      have a1 := carry hX f1
      have HO1 : Hid ((Wb.drew.alloc (.cells #[] 3)).ownsRow Wb.heap.size 3 1 (.slice (some ⟨Wb.heap.size, 0, none⟩) 0 0) 0 []) := World.ownsRow_made Wb.drew #[] 0 (Nat.le_refl _) (Nat.zero_le _) (by simp)
      have HR1 : Hid (RdI (Wb.drew.alloc (.cells #[] 3)) (.slice uad L ucap) ns) := HUw.out.below (HBW.out.trans (hX.mono HBW.out.size))
      have HB1 : Hid (Wb.heap.size ≤ (Wb.drew.alloc (.cells #[] 3)).heap.size) := hX.size
      have HLL : Hid (ns.length ≤ 2000000) := by show _ ≤ _; rw [HL.out]; exact hsl
      have HP1 : Hid (∀ (w1 : World) (g1 e1 : Nat), OwnI Wb.heap.size w1 (.slice (some ⟨g1, 0, none⟩) ns.length e1) ns → Below Wb.heap.size (Wb.drew.alloc (.cells #[] 3)) w1 →
          OwnF w.heap.size (w1.alloc (.cells #[.int .i64 kd, .slice (some ⟨g1, 0, none⟩) ns.length e1] 46)) v3 pre ∧ Below w.heap.size w (w1.alloc (.cells #[.int .i64 kd, .slice (some ⟨g1, 0, none⟩) ns.length e1] 46)) ∧
          (w1.alloc (.cells #[.int .i64 kd, .slice (some ⟨g1, 0, none⟩) ns.length e1] 46)).cell? ⟨w1.heap.size, 0, none⟩ = some (.int .i64 kd) ∧ (w1.alloc (.cells #[.int .i64 kd, .slice (some ⟨g1, 0, none⟩) ns.length e1] 46)).cell? ⟨w1.heap.size, 1, none⟩ = some (.slice (some ⟨g1, 0, none⟩) ns.length e1) ∧
          (∀ g, (v3.ownBlock = some g ∨ (v3.ownBlock = none ∧ g = (w1.alloc (.cells #[.int .i64 kd, .slice (some ⟨g1, 0, none⟩) ns.length e1] 46)).heap.size)) → RdN g (w1.alloc (.cells #[.int .i64 kd, .slice (some ⟨g1, 0, none⟩) ns.length e1] 46)) (.slice (some ⟨g1, 0, none⟩) ns.length e1) ns) ∧
          (∀ h, h < w.heap.size → RdN h (w1.alloc (.cells #[.int .i64 kd, .slice (some ⟨g1, 0, none⟩) ns.length e1] 46)) (.slice (some ⟨g1, 0, none⟩) ns.length e1) ns) ∧
          w1.cell? ⟨wr.heap.size, 0, none⟩ = some (.int .i64 kd)) := fun w1 g1 e1 h1 h2 => by
        have hbb : Below Wb.heap.size Wb w1 := hX.trans h2
        have hba : Below Wb.heap.size Wb (w1.alloc (.cells #[.int .i64 kd, .slice (some ⟨g1, 0, none⟩) ns.length e1] 46)) := hbb.alloc hbb.size _
        refine ⟨HOW.out.below hba, HBW.out.trans (hba.mono HBW.out.size), cell_of (heap_alloc_new _ _) rfl, cell_of (heap_alloc_new _ _) rfl, fun g hg => ?_, fun h hh => (h1.away (by have := HBW.out.size; omega)).below (below_alloc _ _), carry hbb f0⟩
        rcases hg with e | ⟨_, e⟩
        · have hgl : g < Wb.heap.size := by
            rcases HOW.out.2 with ⟨e2, _⟩ | ⟨g', cap', q', e2, ho', _, _⟩
            · rw [e2] at e; cases e
            · rw [e2] at e; cases e; exact (ownsRow_lt (e2 ▸ ho')).2
          exact (h1.away hgl).below (below_alloc _ _)
        · rw [e]
          exact h1.rd.away (by simp) (below_alloc _ _)
      clear hX HOW HBW HUw hWb
      go_region_law (first
        | (refine step_ints (by rfl) (.tmp 15) (.tmp 17) (by rfl) Wb.heap.size HB1.out Wb.heap.size 0 (by rfl) HO1.out (.slice uad L ucap) ns (by rfl) HR1.out HLL.out ?_; intro g1 e1 w1 hx1 hx2; have P1 := Lib.hid (HP1.out w1 g1 e1 hx1 hx2); have q0 := P1.out.2.2.2.2.2.2; clear hx1 hx2)
        | (refine step_segF (by rfl) (.tmp 12) (.tmp 20) (by rfl) w.heap.size P1.out.2.1.size v3 pre (by rfl) P1.out.1 w1.heap.size kd _ ns (by rfl) P1.out.2.2.1 P1.out.2.2.2.1 P1.out.2.2.2.2.1 P1.out.2.2.2.2.2.1 hpl ?_; intro g2 e2 w2 hy1 hy2; have P2 := Lib.hid (And.intro hy1 (P1.out.2.1.trans hy2)); clear hy1 hy2))
      all_goals (
        have HO3 : Hid (OwnF w.heap.size w2 (.slice (some ⟨g2, 0, none⟩) (pre.length + 1) e2) (p.take (k + 1))) := by
          show OwnF _ _ _ _; rw [HTK.out, HSE.out]; exact P2.out.1
        go_wp2_with fail
        go_roundg (n + 1 - (k + 1))
        case measure => omega
        case rel => exact ⟨k + 1, _, by omega, Nat.le_refl _, rfl, ⟨_, rfl⟩, by go_num, HO3, P2.out.2⟩)
    · have k1 : decide ((k : Int) < (n : Int)) = false := decide_eq_false (by omega)
      have HE : Hid (p.take k = p) := by show _ = _; rw [List.take_of_length_le (by rw [HN.out]; omega)]
      have HO2 : Hid (OwnF w.heap.size wr v3 p) := HE.out ▸ HO.out
      clear HO
      go_wp2
      go_ret
      exact ⟨_, rfl, HO2.out, HS.out⟩
end
end Go.Proofs.YtiobfgcpbihbhaaGreatDoor
namespace Go.Proofs.YtiobfgcpbihbhaaGreatDoor
section
open Go.RowKit P
set_option linter.unusedSimpArgs false
set_option linter.unusedVariables false
set_option maxHeartbeats 1500000
set_option maxRecDepth 100000
theorem rseqs_any (kd : Int) (l : List Int) (v : Value) (w : World) (hr : RdI w v l) (hl : l.length ≤ 2000000) :
    Calls Tryz.prog 58 #[.int .i64 kd, v] w fun e w' => ∃ v', e = .returned v' ∧ OwnP w.heap.size w' v' (seqs kd l) ∧ Below w.heap.size w w' := by
  have HR0 := Lib.hid hr
  have HO0 : Hid (OwnP w.heap.size w (.slice none 0 0) []) := OwnP.nil _ _ (Nat.le_refl _)
  obtain ⟨Z, hZ⟩ : ∃ Z, seqs kd l = Z := ⟨_, rfl⟩
  have HE0 : Hid (([] : List Sg) ++ seqs kd l = Z) := hZ
  rw [hZ]
  have HB0 : Hid (Below w.heap.size w w) := Below.refl _ _
  obtain ⟨ad0, cap0, hf0⟩ := hr.form
  subst hf0
  clear hr hZ
  go_enter Tryz.func58, Tryz.ntmps58
  go_wp2_with fail
  go_loopg [1, 5, 6] (l.length + 1) (fun g s1 s5 s6 wr => ∃ (r : List Int) (o : List Sg) (v1 v5 : Value), o.length + r.length ≤ 2000000 ∧ r.length + 1 ≤ g ∧ v1 = s1 ∧ v5 = s5 ∧ (∃ q, q = s6) ∧ Hid (RdI w v1 r) ∧ Hid (OwnP w.heap.size wr v5 o) ∧ Hid (o ++ seqs kd r = Z) ∧ Hid (Below w.heap.size w wr))
  case atStart => exact ⟨l, [], _, _, by simpa using hl, by omega, rfl, rfl, ⟨_, rfl⟩, HR0, HO0, HE0, HB0⟩
  case round =>
    clear HR0 HO0 HE0 HB0 hl
    obtain ⟨r, o, v1, v5, hlen, hg, rfl, rfl, ⟨u6, rfl⟩, HR, HO, HE, HB⟩ := hrel
    obtain ⟨ad, cap, rfl, h1, h2, hc⟩ := HR.out
    obtain ⟨R, hR⟩ : ∃ R, r.length = R := ⟨_, rfl⟩
    have HRl := Lib.hid hR
    have hcap := h2.1
    rw [hR] at h1 hlen HR hg ⊢
    obtain ⟨oad, ocap, hof⟩ := HO.out.rd.form
    by_cases h0 : R = 0
    · have hr0 : r = [] := List.length_eq_zero_iff.1 (by rw [hR]; exact h0)
      subst hr0
      have HZ : Hid (o = Z) := by show _ = _; rw [← HE.out, seqs_nil, List.append_nil]
      have k1 : decide ((0 : Int) < ((List.length ([] : List Int) : Nat) : Int)) = false := rfl
      have HO2 : Hid (OwnP w.heap.size wr v5 Z) := HZ.out ▸ HO.out
      clear hof
      clear HR HO HE hc h2 hR h1
      go_wp2
      go_ret
      exact ⟨_, rfl, HO2.out, HB.out⟩
    · have hne : r ≠ [] := fun e => h0 (by rw [← hR, e]; rfl)
      obtain ⟨x, hx⟩ : ∃ x, r[0]? = some x := ⟨_, List.getElem?_eq_getElem (by omega)⟩
      obtain ⟨b, off, rfl, hb, hcell⟩ := hc 0 x hx
      have HSC := Lib.hid (seqs_cons kd hne)
      obtain ⟨n, hn⟩ : ∃ n, n = min R 255 := ⟨_, rfl⟩
      have HT : Hid (r.take 255 = r.take n ∧ r.drop 255 = r.drop n) := by
        by_cases h255 : R ≤ 255
        · have e : n = R := by omega
          have : r.length ≤ 255 := by omega
          rw [List.take_of_length_le this, List.drop_eq_nil_of_le this, List.take_of_length_le (by omega), List.drop_eq_nil_of_le (by omega)]
          exact ⟨rfl, rfl⟩
        · have e : n = 255 := by omega
          rw [e]; exact ⟨rfl, rfl⟩
      have hnR : n ≤ R := by omega
      have hn0 : 0 < n := by omega
      have hmi : min (R : Int) 255 = (n : Int) := by omega
      have hmi2 : (if (255 : Int) < (R : Int) then (255 : Int) else (R : Int)) = (n : Int) := by split <;> omega
      have HU : Hid (RdI w (.slice (some ⟨b, off, none⟩) n cap) (r.take 255)) := by
        have := HR.out.part 0 n cap (by omega) (by omega) (by omega)
        show RdI _ _ _
        rw [HT.out.1]; simpa using this
      have HD1 : Hid (RdI w (.slice (some ⟨b, off + n, none⟩) (R - n) (cap - n)) (r.drop 255)) := by
        have := HR.out.part n (R - n) (cap - n) (by omega) (by omega) (by omega)
        show RdI _ _ _
        rw [HT.out.2]
        rw [List.take_of_length_le (by rw [List.length_drop]; omega)] at this
        exact this
      have HD2 : Hid (R = n → ∀ c, c ≤ 9223372036854775807 → RdI w (.slice (some ⟨b, off, none⟩) 0 c) (r.drop 255)) := fun e c hc => by
        rw [HT.out.2, List.drop_eq_nil_of_le (by omega)]; exact rdi_empty ⟨hc, fun e => by cases e⟩
      have HE2 : Hid (o ++ [⟨kd, r.take 255⟩] ++ seqs kd (r.drop 255) = Z) := by show _ = _; rw [← HE.out, HSC.out, List.append_assoc]; rfl
      have hdl : (r.drop 255).length + n = R := by rw [HT.out.2, List.length_drop]; omega
      have hral : (r.take 255).length ≤ 255 := by rw [List.length_take]; omega
      generalize r.take 255 = ra at *
      generalize r.drop 255 = rb at *
      have kp : decide ((0 : Int) < (R : Int)) = true := decide_eq_true (by omega)
      have kp2 : decide (0 < R) = true := decide_eq_true (by omega)
      have k2 : (0 : Int) ≤ (n : Int) := by omega
      have k3 : (n : Int) ≤ (R : Int) := by omega
      have k4 : (n : Int) ≤ (cap : Int) := by omega
      have k5 : (R : Int) ≤ (cap : Int) := by omega
      have hol : o.length ≤ 2000000 := by omega
      have hX : Below wr.heap.size wr (wr.alloc (.cells #[] 3)) := below_alloc _ _
      have HX : Hid (wr.heap.size ≤ (wr.alloc (.cells #[] 3)).heap.size ∧ OwnI wr.heap.size (wr.alloc (.cells #[] 3)) (.slice (some ⟨wr.heap.size, 0, none⟩) 0 0) []) := ⟨hX.size, hX.size, World.ownsRow_made wr #[] 0 (Nat.le_refl _) (Nat.zero_le _) (by simp)⟩
      have HUX : Hid (RdI (wr.alloc (.cells #[] 3)) (.slice (some ⟨b, off, none⟩) n cap) ra) := HU.out.below (below_then HB.out hX)
      have hlen1 : ([] : List Int).length + ra.length ≤ 2000000 := by simp; omega
      have HP1 : Hid (∀ (w1 : World) (a1 : Option Addr) (e1 : Nat), OwnI wr.heap.size w1 (.slice a1 ra.length e1) ra → Below wr.heap.size (wr.alloc (.cells #[] 3)) w1 →
          OwnP w.heap.size (w1.alloc (.cells #[.int .i64 kd, .slice a1 ra.length e1] 46)) v5 o ∧ Below w.heap.size w (w1.alloc (.cells #[.int .i64 kd, .slice a1 ra.length e1] 46)) ∧
          (w1.alloc (.cells #[.int .i64 kd, .slice a1 ra.length e1] 46)).cell? ⟨w1.heap.size, 0, none⟩ = some (.int .i64 kd) ∧ (w1.alloc (.cells #[.int .i64 kd, .slice a1 ra.length e1] 46)).cell? ⟨w1.heap.size, 1, none⟩ = some (.slice a1 ra.length e1) ∧
          (∀ g, (v5.ownBlock = some g ∨ (v5.ownBlock = none ∧ g = (w1.alloc (.cells #[.int .i64 kd, .slice a1 ra.length e1] 46)).heap.size)) → RdN g (w1.alloc (.cells #[.int .i64 kd, .slice a1 ra.length e1] 46)) (.slice a1 ra.length e1) ra)) := fun w1 a1 e1 h1 h2 => by
        have hbb : Below wr.heap.size wr w1 := hX.trans h2
        have hba : Below wr.heap.size wr (w1.alloc (.cells #[.int .i64 kd, .slice a1 ra.length e1] 46)) := hbb.alloc hbb.size _
        refine ⟨HO.out.below hba, below_then HB.out hba, cell_of (heap_alloc_new _ _) rfl, cell_of (heap_alloc_new _ _) rfl, fun g hg => ?_⟩
        rcases hg with e | ⟨_, e⟩
        · have hgl : g < wr.heap.size := by
            rcases HO.out.2 with ⟨e2, _⟩ | ⟨g', cap', q', e2, ho', _⟩
            · rw [e2] at e; cases e
            · rw [e2] at e; cases e; exact (ownsRow_lt (e2 ▸ ho')).2
          exact (h1.away hgl).below (below_alloc _ _)
        · rw [e]
          exact h1.rd.away (by simp) (below_alloc _ _)
      clear hof
      clear HR HO HE HSC HT hc h2 hx hcell hne hR h1 HRl HU hX HB
      clear hn
      by_cases hcn : cap = n
      · have hRn : R = n := by omega
        have HD3 : Hid (∀ c, c ≤ 9223372036854775807 → RdI w (.slice (some ⟨b, off, none⟩) 0 c) rb) := HD2.out hRn
        clear HD2
        subst hcn
        subst hRn
        go_wp2_with (first
          | (at_builtin; refine append_rdI rfl (.tmp 15) (.tmp 18) rfl wr.heap.size HX.out.1 (.slice (some ⟨wr.heap.size, 0, none⟩) 0 0) [] rfl HX.out.2 (.slice (some ⟨b, off, none⟩) R R) ra rfl HUX.out hlen1 ?_; intro w1v w1 hown1 hb1; rw [List.nil_append] at hown1; obtain ⟨a1, e1, hf1⟩ := hown1.rd.form; subst hf1; have P1 := Lib.hid (HP1.out w1 a1 e1 hown1 hb1); clear hown1 hb1)
          | (at_builtin; refine append_seg rfl (.tmp 13) (.tmp 21) rfl w.heap.size P1.out.2.1.size v5 o rfl P1.out.1 w1.heap.size kd _ ra rfl P1.out.2.2.1 P1.out.2.2.2.1 P1.out.2.2.2.2 hol ?_; intro v2 w2 hown hgrow hbl hbk; have S2 := Lib.hid hown; have B2 : Hid (Below w.heap.size w w2) := P1.out.2.1.trans hbl; clear hown hgrow hbl hbk))
        go_roundg (rb.length + 1)
        case measure => omega
        case rel => exact ⟨rb, o ++ [⟨kd, ra⟩], _, _, by rw [List.length_append]; simp; omega, Nat.le_refl _, rfl, rfl, ⟨_, rfl⟩, HD3.out _ (by omega), S2, HE2, B2⟩
      · have k6 : ¬ (cap : Int) = (n : Int) := by omega
        have k7 : (n : Int) < (cap : Int) := by omega
        have k8 : 0 < cap - n := by omega
        go_wp2_with (first
          | (at_builtin; refine append_rdI rfl (.tmp 15) (.tmp 18) rfl wr.heap.size HX.out.1 (.slice (some ⟨wr.heap.size, 0, none⟩) 0 0) [] rfl HX.out.2 (.slice (some ⟨b, off, none⟩) n cap) ra rfl HUX.out hlen1 ?_; intro w1v w1 hown1 hb1; rw [List.nil_append] at hown1; obtain ⟨a1, e1, hf1⟩ := hown1.rd.form; subst hf1; have P1 := Lib.hid (HP1.out w1 a1 e1 hown1 hb1); clear hown1 hb1)
          | (at_builtin; refine append_seg rfl (.tmp 13) (.tmp 21) rfl w.heap.size P1.out.2.1.size v5 o rfl P1.out.1 w1.heap.size kd _ ra rfl P1.out.2.2.1 P1.out.2.2.2.1 P1.out.2.2.2.2 hol ?_; intro v2 w2 hown hgrow hbl hbk; have S2 := Lib.hid hown; have B2 : Hid (Below w.heap.size w w2) := P1.out.2.1.trans hbl; clear hown hgrow hbl hbk))
        go_roundg (rb.length + 1)
        case measure => omega
        case rel => exact ⟨rb, o ++ [⟨kd, ra⟩], _, _, by rw [List.length_append]; simp; omega, Nat.le_refl _, rfl, rfl, ⟨_, rfl⟩, HD1, S2, HE2, B2⟩
end
end Go.Proofs.YtiobfgcpbihbhaaGreatDoor
namespace Go.Proofs.YtiobfgcpbihbhaaGreatDoor
section
open Go.RowKit P
set_option linter.unusedSimpArgs false
set_option linter.unusedVariables false
set_option maxHeartbeats 1500000
set_option maxRecDepth 100000
theorem P.takeWhile_take : ∀ {p : List Sg} {q : Sg → Bool} {k : Nat}, (∀ (j : Nat) (y : Sg), j < k → p[j]? = some y → q y = true) → (∀ y, p[k]? = some y → q y = false) → p.takeWhile q = p.take k
  | [], q, k, _, _ => by simp
  | a :: p, q, 0, _, h => by
    have := h a rfl
    simp [this]
  | a :: p, q, k + 1, h1, h2 => by
    have h0 := h1 0 a (by omega) rfl
    rw [List.takeWhile_cons_of_pos h0, List.take_succ_cons, takeWhile_take (k := k) (fun j y hj hy => h1 (j + 1) y (by omega) (by simpa using hy)) (fun y hy => h2 y (by simpa using hy))]
theorem rlead_any (p : List Sg) (v : Value) (w : World) (hv : RdS w v p) (hl : (flat p).length ≤ 2000000) : Calls Tryz.prog 70 #[v] w fun e w' => ∃ v', e = .returned v' ∧ InsI w v' (lead p) w' := by
  obtain ⟨ad, cap, rfl, h1, h2, hc⟩ := hv
  have HC := Lib.hid hc
  obtain ⟨n, hn⟩ : ∃ n, p.length = n := ⟨_, rfl⟩
  rw [hn] at h1 ⊢
  have HN := Lib.hid hn
  have HS0 : Hid (InsI w (.slice none 0 0) (flat (p.take 0)) w) := InsI.start w
  have HA0 : Hid (∀ (j : Nat) (y : Sg), j < 0 → p[j]? = some y → decide (2 = y.k) = true) := fun j y h => by omega
  have HTL : Hid (∀ k, (flat (p.take k)).length ≤ 2000000) := fun k => Nat.le_trans (flat_take_le p k) hl
  have HLD : Hid (∀ k, (∀ (j : Nat) (y : Sg), j < k → p[j]? = some y → decide (2 = y.k) = true) → (∀ y, p[k]? = some y → decide (2 = y.k) = false) → lead p = flat (p.take k)) := fun k h1 h2 => by
    unfold lead; rw [takeWhile_take h1 h2]
  generalize lead p = ld at *
  clear hc hn hl
  go_enter Tryz.func70, Tryz.ntmps70
  go_wp2_with fail
  go_loopg [3, 5, 8] n (fun g s3 s5 s8 wr => ∃ k : Nat, k ≤ n ∧ n - k ≤ g ∧ (∃ q, q = s5) ∧ s8 = .int .i64 (k : Int) ∧ Hid (∀ (j : Nat) (y : Sg), j < k → p[j]? = some y → decide (2 = y.k) = true) ∧ Hid (InsI w s3 (flat (p.take k)) wr))
  case atStart => exact ⟨0, by omega, by omega, ⟨_, rfl⟩, rfl, HA0, HS0⟩
  case round =>
    clear HS0 HA0
    obtain ⟨k, hk, hkg, ⟨u5, rfl⟩, rfl, HW, HS⟩ := hrel
    by_cases hlt : k < n
    · obtain ⟨s, hs⟩ : ∃ s, p[k]? = some s := ⟨_, List.getElem?_eq_getElem (by have := HN.out; omega)⟩
      have HSS := Lib.hid hs
      have HFT := Lib.hid (flat_take hs)
      have hle := HTL.out (k + 1)
      rw [HFT.out, List.length_append] at hle
      obtain ⟨b, off, u, rfl, hb, c0, c1, hu⟩ := HC.out k s hs
      have d0 := carry HS.out.2 c0
      have d1 := carry HS.out.2 c1
      have HU : Hid (∀ W, Below w.heap.size w W → RdI W u s.as) := fun W hW => hu.below hW
      obtain ⟨uad, ucap, hf⟩ := hu.form
      have k0 : (0 : Int) ≤ (k : Int) := by omega
      have k1 : (k : Int) < (n : Int) := by omega
      subst hf
      obtain ⟨pre, hpre⟩ : ∃ pre, flat (p.take k) = pre := ⟨_, rfl⟩
      have HPRE := Lib.hid hpre
      rw [hpre] at HFT hle HS
      obtain ⟨ns, hns⟩ : ∃ ns, s.as = ns := ⟨_, rfl⟩
      rw [hns] at HFT HU hle d1
      obtain ⟨L, hL⟩ : ∃ L, ns.length = L := ⟨_, rfl⟩
      rw [hL] at HU d1
      have HA : Hid (InsI w _ pre (wr.alloc (.cells #[.int .i64 s.k, .slice uad L ucap] 46))) := HS.out.below (below_alloc _ _)
      have HUA := Lib.hid (HU.out _ HA.out.2)
      clear hs c0 c1 hu HU hpre hns hL
      by_cases hkd : s.k = 2
      · have e1 : (s.k == 2) = true := by simpa using hkd
        have e2 : (s.k != 2) = false := by simpa using hkd
        have HW2 : Hid (∀ (j : Nat) (y : Sg), j < k + 1 → p[j]? = some y → decide (2 = y.k) = true) := fun j y hj hy => by
          by_cases e : j = k
          · subst e; have := HSS.out; rw [hy] at this; cases this; exact decide_eq_true hkd.symm
          · exact HW.out j y (by omega) hy
        clear HS HW HSS hkd
        go_wp2_with (at_builtin; refine append_rdI rfl (.tmp 15) (.tmp 17) rfl w.heap.size HA.out.2.size _ pre rfl HA.out.1 _ ns rfl HUA.out hle ?_; intro v2 w2 hown hb; have S2 : Hid (InsI w v2 (pre ++ ns) w2) := ⟨hown, HA.out.2.trans hb⟩; clear hown hb)
        go_roundg (n - (k + 1))
        case measure => omega
        case rel => exact ⟨k + 1, by omega, Nat.le_refl _, ⟨_, rfl⟩, by go_num, HW2, by unfold Hid; rw [HFT.out]; exact S2.out⟩
      · have e1 : (s.k == 2) = false := by simpa using hkd
        have e2 : (s.k != 2) = true := by simpa using hkd
        have HE : Hid (ld = pre) := by
          show _ = _; rw [← HPRE.out]
          exact HLD.out k HW.out (fun y hy => by have := HSS.out; rw [hy] at this; cases this; exact decide_eq_false (fun e => hkd e.symm))
        have HA2 : Hid (InsI w _ ld (wr.alloc (.cells #[.int .i64 s.k, .slice uad L ucap] 46))) := HE.out ▸ HA.out
        clear HS HW HSS hkd HA HE
        go_wp2
        go_ret
        exact ⟨_, rfl, HA2.out⟩
    · have k1 : decide ((k : Int) < (n : Int)) = false := decide_eq_false (by omega)
      have HE : Hid (ld = flat (p.take k)) := HLD.out k HW.out (fun y hy => by have := (List.getElem?_eq_some_iff.1 hy).1; have := HN.out; omega)
      have HS2 : Hid (InsI w _ ld wr) := HE.out ▸ HS.out
      clear HS HW
      go_wp2
      go_ret
      exact ⟨_, rfl, HS2.out⟩
namespace P
/-- above all that stands in a list -/
def gtB (s : List Int) (x : Int) : Bool := s.all (fun y => decide (y < x))
theorem gtB_iff {s : List Int} {x : Int} : gtB s x = true ↔ ∀ y ∈ s, y < x := by unfold gtB; simp
theorem gtB_snoc (s : List Int) (b x : Int) : gtB (s ++ [b]) x = (gtB s x && decide (b < x)) := by unfold gtB; simp
theorem gtB_last {s : List Int} (h : s.Pairwise (· < ·)) {z x : Int} (hz : s[s.length - 1]? = some z) : gtB s x = decide (z < x) := by
  by_cases hx : z < x
  · rw [decide_eq_true hx, gtB_iff]
    intro y hy
    obtain ⟨j, hj⟩ := List.getElem?_of_mem hy
    have hjl := (List.getElem?_eq_some_iff.1 hj).1
    by_cases e : j = s.length - 1
    · rw [e, hz] at hj; cases hj; exact hx
    · obtain ⟨h1, e1⟩ := List.getElem?_eq_some_iff.1 hj
      obtain ⟨h2, e2⟩ := List.getElem?_eq_some_iff.1 hz
      have := List.pairwise_iff_getElem.1 h j (s.length - 1) h1 h2 (by omega)
      omega
  · rw [decide_eq_false hx, Bool.eq_false_iff]
    intro h2
    exact hx (gtB_iff.1 h2 z (List.mem_of_getElem? hz))
def InB (s l : List Int) (k : Nat) (b : Int) : Prop := (b = -1 ∧ ∀ (j : Nat) (x : Int), j < k → l[j]? = some x → gtB s x = false) ∨ (0 ≤ b ∧ b ∈ l ∧ gtB s b = true ∧ ∀ (j : Nat) (x : Int), j < k → l[j]? = some x → gtB s x = true → b ≤ x)
theorem InB.start (s l : List Int) : InB s l 0 (-1) := .inl ⟨rfl, fun j x h => by omega⟩
theorem InB.skip {s l : List Int} {k : Nat} {b x : Int} (h : InB s l k b) (hx : l[k]? = some x) (hn : gtB s x = false ∨ (0 ≤ b ∧ b ≤ x)) : InB s l (k + 1) b := by
  rcases h with ⟨h1, h2⟩ | ⟨h1, h2, h3, h4⟩
  · refine .inl ⟨h1, fun j y hj hy => ?_⟩
    by_cases e : j = k
    · subst e; rw [hx] at hy; cases hy
      rcases hn with h | h
      · exact h
      · omega
    · exact h2 j y (by omega) hy
  · refine .inr ⟨h1, h2, h3, fun j y hj hy hg => ?_⟩
    by_cases e : j = k
    · subst e; rw [hx] at hy; cases hy
      rcases hn with h | h
      · rw [h] at hg; cases hg
      · exact h.2
    · exact h4 j y (by omega) hy hg
theorem InB.take {s l : List Int} {k : Nat} {b x : Int} (h : InB s l k b) (hx : l[k]? = some x) (h0 : 0 ≤ x) (hg : gtB s x = true) (hb : b < 0 ∨ x < b) : InB s l (k + 1) x := by
  refine .inr ⟨h0, List.mem_of_getElem? hx, hg, fun j y hj hy hgy => ?_⟩
  by_cases e : j = k
  · subst e; rw [hx] at hy; cases hy; exact Int.le_refl _
  · rcases h with ⟨h1, h2⟩ | ⟨h1, h2, h3, h4⟩
    · rw [h2 j y (by omega) hy] at hgy; cases hgy
    · have := h4 j y (by omega) hy hgy
      omega
structure OuB (s l : List Int) : Prop where
  up : s.Pairwise (· < ·)
  sub : ∀ x ∈ s, x ∈ l
  all : ∀ x ∈ l, x ∈ s ∨ gtB s x = true
  len : s.length + (l.filter (gtB s)).length ≤ l.length
theorem OuB.start (l : List Int) : OuB [] l := ⟨List.Pairwise.nil, (fun x h => by cases h), (fun x h => .inr rfl), by simpa using List.length_filter_le _ _⟩
theorem OuB.fin {s l : List Int} (h : OuB s l) (hi : InB s l l.length (-1)) : IsS l s := by
  refine ⟨h.up, fun x => ⟨h.sub x, fun hx => ?_⟩⟩
  rcases hi with ⟨_, h2⟩ | ⟨h1, _⟩
  · rcases h.all x hx with e | e
    · exact e
    · obtain ⟨j, hj⟩ := List.getElem?_of_mem hx
      rw [h2 j x (List.getElem?_eq_some_iff.1 hj).1 hj] at e; cases e
  · omega
theorem OuB.step {s l : List Int} (h : OuB s l) {b : Int} (hb : 0 ≤ b) (hi : InB s l l.length b) : OuB (s ++ [b]) l ∧ (l.filter (gtB (s ++ [b]))).length < (l.filter (gtB s)).length := by
  rcases hi with ⟨h1, _⟩ | ⟨_, h2, h3, h4⟩
  · omega
  · have hlt : (l.filter (gtB (s ++ [b]))).length < (l.filter (gtB s)).length := by
      have e : l.filter (gtB (s ++ [b])) = (l.filter (gtB s)).filter (fun x => decide (b < x)) := by
        rw [List.filter_filter]
        refine List.filter_congr fun x _ => ?_
        rw [gtB_snoc, Bool.and_comm]
      rw [e, List.length_filter_lt_length_iff_exists]
      exact ⟨b, List.mem_filter.2 ⟨h2, h3⟩, by simp⟩
    refine ⟨⟨?_, fun x hx => ?_, fun x hx => ?_, ?_⟩, hlt⟩
    · rw [List.pairwise_append]
      exact ⟨h.up, List.pairwise_singleton _ _, fun y hy z hz => by simp at hz; subst hz; exact gtB_iff.1 h3 y hy⟩
    · rcases List.mem_append.1 hx with e | e
      · exact h.sub x e
      · simp at e; subst e; exact h2
    · rcases h.all x hx with e | e
      · exact .inl (List.mem_append_left _ e)
      · obtain ⟨j, hj⟩ := List.getElem?_of_mem hx
        have hle := h4 j x (List.getElem?_eq_some_iff.1 hj).1 hj e
        by_cases e2 : b = x
        · subst e2; exact .inl (by simp)
        · refine .inr ?_
          rw [gtB_snoc, e, decide_eq_true (by omega)]; rfl
    · have := h.len
      rw [List.length_append, List.length_singleton]; omega
end P
end
end Go.Proofs.YtiobfgcpbihbhaaGreatDoor
namespace Go.Proofs.YtiobfgcpbihbhaaGreatDoor
section
open Go.RowKit P
set_option linter.unusedSimpArgs false
set_option linter.unusedVariables false
set_option maxHeartbeats 1500000
set_option maxRecDepth 100000
theorem segR_any (p : List Sg) (i : Nat) (s : Sg) (v : Value) (w : World) (hv : RdS w v p) (hs : p[i]? = some s) :
    Calls Tryz.prog 41 #[v, .int .i64 (i : Int)] w fun e w' => e = .returned (.int .i64 (segR p i s)) ∧ Below w.heap.size w w' := by
  obtain ⟨ad, cap, rfl, h1, h2, hc⟩ := hv
  have hil := (List.getElem?_eq_some_iff.1 hs).1
  obtain ⟨b, off, u, rfl, hb, c0, c1, hu⟩ := hc i s hs
  obtain ⟨n, hn⟩ : ∃ n, p.length = n := ⟨_, rfl⟩
  rw [hn] at h1 hil ⊢
  have hcap := h2.1
  have HN := Lib.hid hn
  have HP : Hid (∀ k t, p[k]? = some t → ∃ u, w.cell? ⟨b, off + k * 2, none⟩ = some (.int .i64 t.k) ∧ w.cell? ⟨b, off + k * 2 + 1, none⟩ = some u ∧ RdI w u t.as) := fun k t hk => by
    obtain ⟨b', off', u', e, _, d0, d1, hu'⟩ := hc k t hk
    cases e
    exact ⟨u', d0, d1, hu'⟩
  obtain ⟨uad, ucap, rfl, l1, l2, hcc⟩ := hu
  have HCC := Lib.hid hcc
  have HNE : Hid (s.as = [] ↔ s.as.length = 0) := by show _ ↔ _; rw [List.length_eq_zero_iff]
  obtain ⟨L, hL⟩ : ∃ L, s.as.length = L := ⟨_, rfl⟩
  rw [hL] at c1 l1 HNE
  have HL := Lib.hid hL
  have hLc := l2.1
  have HSI := Lib.hid hs
  have i0 : (0 : Int) ≤ (i : Int) := by omega
  have i1 : (i : Int) < (n : Int) := by omega
  have HW0 : Hid (Below w.heap.size w (w.alloc (.cells #[.int .i64 s.k, .slice uad L ucap] 46))) := below_alloc _ _
  have g0 : (w.alloc (.cells #[.int .i64 s.k, .slice uad L ucap] 46)).cell? ⟨w.heap.size, 0, none⟩ = some (.int .i64 s.k) := cell_of (heap_alloc_new _ _) rfl
  have g1 : (w.alloc (.cells #[.int .i64 s.k, .slice uad L ucap] 46)).cell? ⟨w.heap.size, 1, none⟩ = some (.slice uad L ucap) := cell_of (heap_alloc_new _ _) rfl
  have HCS : Hid (∀ W, Calls Tryz.prog 61 #[.int .i64 s.k] W fun e w' => e = .returned (.bool (isSet s.k)) ∧ w' = W) := fun W => set61_same s.k W
  have HCF : Hid (∀ W, Calls Tryz.prog 51 #[.int .i64 s.k] W fun e w' => e = .returned (.bool (isConf s.k)) ∧ w' = W) := fun W => conf51_same s.k W
  clear hc hn hL hcc l1 l2 h2 hs
  have HRE : Hid (∀ e : Int, segE s = e → e ≠ 0 → segR p i s = e) := fun e h1 h2 => segR_err h1 h2
  by_cases hk : s.k < 1 ∨ 4 < s.k
  · have HR : Hid (segR p i s = 15) := HRE.out 15 (segE15 hk) (by omega)
    by_cases hk1 : s.k < 1
    · go_enter Tryz.func41, Tryz.ntmps41
      go_wp2
      go_ret
      exact ⟨by rw [HR.out] <;> rfl, HW0.out⟩
    · have e1 : decide (s.k < 1) = false := decide_eq_false hk1
      have e2 : decide ((4 : Int) < s.k) = true := decide_eq_true (by omega)
      go_enter Tryz.func41, Tryz.ntmps41
      go_wp2
      go_ret
      exact ⟨by rw [HR.out] <;> rfl, HW0.out⟩
  have HK := Lib.hid hk
  have e1 : decide (s.k < 1) = false := decide_eq_false (by omega)
  have e2 : decide ((4 : Int) < s.k) = false := decide_eq_false (by omega)
  clear hk
  by_cases hl0 : L = 0
  · have HR : Hid (segR p i s = 1) := HRE.out 1 (segE1 HK.out (HNE.out.2 hl0)) (by omega)
    subst hl0
    go_enter Tryz.func41, Tryz.ntmps41
    go_wp2
    go_ret
    exact ⟨by rw [HR.out] <;> rfl, HW0.out⟩
  have HNE2 : Hid (s.as ≠ []) := fun e => hl0 (HNE.out.1 e)
  have e3 : ((L : Int) == 0) = false := by simpa using hl0
  have e3' : decide ((L : Int) = 0) = false := decide_eq_false (by omega)
  by_cases hl2 : 255 < L
  · have HR : Hid (segR p i s = 4) := HRE.out 4 (segE4 HK.out HNE2.out (by rw [HL.out]; exact hl2)) (by omega)
    have e4 : decide ((255 : Int) < (L : Int)) = true := decide_eq_true (by omega)
    clear HNE
    go_enter Tryz.func41, Tryz.ntmps41
    go_wp2
    go_ret
    exact ⟨by rw [HR.out] <;> rfl, HW0.out⟩
  have HL2 : Hid (¬ 255 < s.as.length) := by show ¬ _; rw [HL.out]; exact hl2
  have e4 : decide ((255 : Int) < (L : Int)) = false := decide_eq_false (by omega)
  have hL1 : 1 ≤ L := by omega
  clear HNE hl0
  go_enter Tryz.func41, Tryz.ntmps41
  go_wp2_with fail
  have HP0 : Hid (∀ k t, p[k]? = some t → ∃ u, (w.alloc (.cells #[.int .i64 s.k, .slice uad L ucap] 46)).cell? ⟨b, off + k * 2, none⟩ = some (.int .i64 t.k) ∧ (w.alloc (.cells #[.int .i64 s.k, .slice uad L ucap] 46)).cell? ⟨b, off + k * 2 + 1, none⟩ = some u ∧ RdI w u t.as) := fun k t hk => by
    obtain ⟨u, a, b, c⟩ := HP.out k t hk
    exact ⟨u, carry HW0.out a, carry HW0.out b, c⟩
  have HCC0 : Hid (∀ k x, s.as[k]? = some x → ∃ b off, uad = some ⟨b, off, none⟩ ∧ (w.alloc (.cells #[.int .i64 s.k, .slice uad L ucap] 46)).cell? ⟨b, off + k, none⟩ = some (.int .i64 x)) := fun k x hk => by
    obtain ⟨b, off, e, _, c⟩ := HCC.out k x hk
    exact ⟨b, off, e, carry HW0.out c⟩
  clear c0 c1 HP HCC
  generalize hWW : w.alloc (.cells #[.int .i64 s.k, .slice uad L ucap] 46) = W0 at *
  have HN0 : Hid (∀ (j : Nat) (x : Int), j < 0 → s.as[j]? = some x → isNum x = true) := fun j x h => by omega
  have HS0 : Hid (Below W0.heap.size W0 W0) := Below.refl _ _
  clear hWW
  go_loopg [7, 34] (L + 1) (fun g s7 s34 wr => ∃ m : Nat, m ≤ L ∧ L + 1 - m ≤ g ∧ s34 = .int .i64 (m : Int) ∧ (∃ q, q = s7) ∧ Hid (∀ (j : Nat) (x : Int), j < m → s.as[j]? = some x → isNum x = true) ∧ Hid (Below W0.heap.size W0 wr))
  case atStart => exact ⟨0, by omega, by omega, rfl, ⟨_, rfl⟩, HN0, HS0⟩
  case round =>
    clear HN0 HS0
    obtain ⟨m, hm, hmg, rfl, ⟨u7, rfl⟩, HI, HS⟩ := hrel
    by_cases hml : m < L
    · obtain ⟨x, hx⟩ : ∃ x, s.as[m]? = some x := ⟨_, List.getElem?_eq_getElem (by have := HL.out; omega)⟩
      have HX := Lib.hid hx
      obtain ⟨b1, o1, rfl, d1⟩ := HCC0.out m x hx
      have d1 := carry HS.out d1
      have j0 : (0 : Int) ≤ (m : Int) := by omega
      have j1 : (m : Int) < (L : Int) := by omega
      clear hx
      by_cases hx1 : x < 1
      · have HR : Hid (segR p i s = 5) := HRE.out 5 (segE5 HK.out HNE2.out HL2.out HX.out (by unfold isNum; exact decide_eq_false (by omega))) (by omega)
        have f1 : decide (x < 1) = true := decide_eq_true hx1
        have HB2 := Lib.hid (HW0.out.trans (HS.out.mono HW0.out.size))
        clear HI HX
        go_wp2
        go_ret
        exact ⟨by rw [HR.out] <;> rfl, HB2.out⟩
      by_cases hx2 : 4294967295 < x
      · have HR : Hid (segR p i s = 5) := HRE.out 5 (segE5 HK.out HNE2.out HL2.out HX.out (by unfold isNum; exact decide_eq_false (by omega))) (by omega)
        have f1 : decide (x < 1) = false := decide_eq_false hx1
        have f2 : decide ((4294967295 : Int) < x) = true := decide_eq_true hx2
        have HB2 := Lib.hid (HW0.out.trans (HS.out.mono HW0.out.size))
        clear HI HX hx1
        go_wp2
        go_ret
        exact ⟨by rw [HR.out] <;> rfl, HB2.out⟩
      · have f1 : decide (x < 1) = false := decide_eq_false hx1
        have f2 : decide ((4294967295 : Int) < x) = false := decide_eq_false hx2
        have HI2 : Hid (∀ (j : Nat) (x : Int), j < m + 1 → s.as[j]? = some x → isNum x = true) := fun j y hj hy => by
          by_cases e : j = m
          · subst e
            have h := HX.out
            rw [hy] at h; cases h
            unfold isNum; exact decide_eq_true (by omega)
          · exact HI.out j y (by omega) hy
        clear HI HX hx1 hx2
        go_wp2_with fail
        go_roundg (L + 1 - (m + 1))
        case measure => omega
        case rel => exact ⟨m + 1, by omega, Nat.le_refl _, by go_num, ⟨_, rfl⟩, HI2, HS⟩
    have k1 : decide ((m : Int) < (L : Int)) = false := decide_eq_false (by omega)
    have HNUM : Hid (∀ (j : Nat) (x : Int), s.as[j]? = some x → isNum x = true) := fun j x hx => HI.out j x (by have := (List.getElem?_eq_some_iff.1 hx).1; have := HL.out; omega) hx
    have HA0 : Hid (isSet s.k = true → ∀ (j : Nat) (x y : Int), j + 1 < 1 → s.as[j]? = some x → s.as[j + 1]? = some y → x < y) := fun _ j x y h => by omega
    clear HI
    go_wp2_with fail
    go_loopg [8] (L + 1) (fun g s8 wr => ∃ m : Nat, 1 ≤ m ∧ m ≤ L ∧ L + 1 - m ≤ g ∧ s8 = .int .i64 (m : Int) ∧ Hid (isSet s.k = true → ∀ (j : Nat) (x y : Int), j + 1 < m → s.as[j]? = some x → s.as[j + 1]? = some y → x < y) ∧ Hid (Below W0.heap.size W0 wr))
    case atStart => exact ⟨1, by omega, by omega, by omega, rfl, HA0, HS⟩
    case round =>
      clear HA0 HS k1
      obtain ⟨m, hm1, hm, hmg, rfl, HA, HS⟩ := hrel
      have d0 := carry HS.out g0
      have d1 := carry HS.out g1
      by_cases hml : m < L
      · have j0 : (0 : Int) ≤ (m : Int) := by omega
        have j1 : (m : Int) < (L : Int) := by omega
        have j2 : (0 : Int) ≤ (m : Int) - 1 := by omega
        have j3 : (m : Int) - 1 < (L : Int) := by omega
        have j4 : IntKind.i64.wrap ((m : Int) - 1) = (m : Int) - 1 := IntWalk.i64_in _ (by omega)
        have j5 : ((m : Int) - 1).toNat = m - 1 := by omega
        have k1 : decide ((m : Int) < (L : Int)) = true := decide_eq_true (by omega)
        cases hset : isSet s.k with
        | false =>
          rw [hset] at HCS
          have HA2 : Hid (isSet s.k = true → ∀ (j : Nat) (x y : Int), j + 1 < m + 1 → s.as[j]? = some x → s.as[j + 1]? = some y → x < y) := fun h => by rw [hset] at h; cases h
          clear HA hset
          go_wp2_with fail
          go_quiet (first | (go_at_call 61; exact Calls.quiet_of_same (HCS.out _)))
          go_wp2_with fail
          go_roundg (L + 1 - (m + 1))
          case measure => omega
          case rel => exact ⟨m + 1, by omega, by omega, Nat.le_refl _, by go_num, HA2, below_drewN HS.out _⟩
        | true =>
          rw [hset] at HCS
          obtain ⟨x, hx⟩ : ∃ x, s.as[m - 1]? = some x := ⟨_, List.getElem?_eq_getElem (by have := HL.out; omega)⟩
          obtain ⟨y, hy⟩ : ∃ y, s.as[m]? = some y := ⟨_, List.getElem?_eq_getElem (by have := HL.out; omega)⟩
          have HXY := Lib.hid (And.intro hx hy)
          obtain ⟨b1, o1, rfl, d2⟩ := HCC0.out (m - 1) x hx
          obtain ⟨b1', o1', e', d3⟩ := HCC0.out m y hy
          cases e'
          have d2 := carry HS.out d2
          have d3 := carry HS.out d3
          clear hx hy
          by_cases hxy : x < y
          · have q1 : decide (y ≤ x) = false := decide_eq_false (by omega)
            have HA2 : Hid (isSet s.k = true → ∀ (j : Nat) (x y : Int), j + 1 < m + 1 → s.as[j]? = some x → s.as[j + 1]? = some y → x < y) := fun h j x' y' hj hx' hy' => by
              by_cases e : j + 1 = m
              · subst e
                have h1 := HXY.out.1; have h2 := HXY.out.2
                rw [show j + 1 - 1 = j by omega, hx'] at h1
                rw [hy'] at h2
                cases h1; cases h2; exact hxy
              · exact HA.out h j x' y' (by omega) hx' hy'
            clear HA hset hxy HXY
            go_wp2_with fail
            go_quiet (first | (go_at_call 61; exact Calls.quiet_of_same (HCS.out _)))
            go_wp2_with fail
            go_roundg (L + 1 - (m + 1))
            case measure => omega
            case rel => exact ⟨m + 1, by omega, by omega, Nat.le_refl _, by go_num, HA2, below_drewN HS.out _⟩
          · have q1 : decide (y ≤ x) = true := decide_eq_true (by omega)
            have HR : Hid (segR p i s = 16) := HRE.out 16 (segE16 HK.out HNE2.out HL2.out HNUM.out hset (j := m - 1) HXY.out.1 (by rw [show m - 1 + 1 = m by omega]; exact HXY.out.2) (by omega)) (by omega)
            have HB2 := Lib.hid (HW0.out.trans (HS.out.mono HW0.out.size))
            clear HA hset hxy HXY
            go_wp2_with fail
            go_quiet (first | (go_at_call 61; exact Calls.quiet_of_same (HCS.out _)))
            go_wp2
            go_ret
            exact ⟨by rw [HR.out] <;> rfl, below_drewN HB2.out _⟩
      have k1 : decide ((m : Int) < (L : Int)) = false := decide_eq_false (by omega)
      have HE0 : Hid (segE s = 0) := segE0 HK.out HNE2.out HL2.out HNUM.out (fun h j x y hx hy => HA.out h j x y (by have := (List.getElem?_eq_some_iff.1 hy).1; have := HL.out; omega) hx hy)
      clear HA HNUM HCC0 HRE HL2 HNE2 HK HL hm hmg hm1
      cases hcf : isConf s.k with
      | false =>
        rw [hcf] at HCF
        have HT : Hid (segR p i s = if tailB p i s = true then 1 else 0) := segR_tail HE0.out (fun h => by rw [hcf] at h; cases h)
        clear HE0 hcf
        go_wp2_with fail
        go_at_call 51
        refine (HCF.out _).mono ?_
        rintro e w2 ⟨rfl, rfl⟩
        go_wp2_with fail
        have HB2 := Lib.hid (HW0.out.trans (HS.out.mono HW0.out.size))
        by_cases hi0 : i = 0
        · have HR : Hid (segR p i s = 0) := by
            show _ = _; rw [HT.out, if_neg]; subst hi0; exact fun h => by cases h
          have k2 : decide ((0 : Int) < (i : Int)) = false := decide_eq_false (by omega)
          clear HT
          go_quiet (first | (go_at_call 61; exact Calls.quiet_of_same (HCS.out _)))
          go_wp2
          go_ret
          exact ⟨by rw [HR.out] <;> rfl, below_drewN HB2.out _⟩
        obtain ⟨y, hy⟩ : ∃ y, p[i - 1]? = some y := ⟨_, List.getElem?_eq_getElem (by have := HN.out; omega)⟩
        obtain ⟨uy, a0, a1, huy⟩ := HP0.out (i - 1) y hy
        obtain ⟨yad, ycap, hf⟩ := huy.form
        subst hf
        obtain ⟨ly, hly⟩ : ∃ ly, y.as.length = ly := ⟨_, rfl⟩
        rw [hly] at a1
        have hTB : tailB p i s = (!isSet s.k && decide (y.k = s.k) && decide (ly < 255)) := by
          unfold tailB
          have : prevO p i = some y := by
            cases hq : i with
            | zero => omega
            | succ z => rw [hq] at hy; exact hy
          rw [this, ← hly]
        have d2 := carry HS.out a0
        have d3 := carry HS.out a1
        have k2 : decide ((0 : Int) < (i : Int)) = true := decide_eq_true (by omega)
        have k2' : 0 < i := by omega
        have k3 : (0 : Int) ≤ (i : Int) - 1 := by omega
        have k4 : (i : Int) - 1 < (n : Int) := by omega
        have k5 : IntKind.i64.wrap ((i : Int) - 1) = (i : Int) - 1 := IntWalk.i64_in _ (by omega)
        have k6 : ((i : Int) - 1).toNat = i - 1 := by omega
        clear hy a0 a1 huy hly hi0
        cases hset : isSet s.k with
        | true =>
          rw [hset] at HCS
          have HR : Hid (segR p i s = 0) := by
            show _ = _; rw [HT.out, hTB, hset]; rfl
          clear HT hTB hset
          go_quiet (first | (go_at_call 61; exact Calls.quiet_of_same (HCS.out _)))
          go_wp2
          go_ret
          exact ⟨by rw [HR.out] <;> rfl, below_drewN HB2.out _⟩
        | false =>
          rw [hset] at HCS
          by_cases hkk : y.k = s.k
          · have q1 : (y.k == s.k) = true := by simpa using hkk
            by_cases hll : ly < 255
            · have HR : Hid (segR p i s = 1) := by
                show _ = _; rw [HT.out, hTB, hset, decide_eq_true hkk, decide_eq_true hll]; rfl
              have q2 : decide ((ly : Int) < 255) = true := decide_eq_true (by omega)
              clear HT hTB hset hkk hll
              go_quiet (first | (go_at_call 61; exact Calls.quiet_of_same (HCS.out _)))
              go_wp2
              go_ret
              exact ⟨by rw [HR.out] <;> rfl, below_drewN HB2.out _⟩
            · have HR : Hid (segR p i s = 0) := by
                show _ = _; rw [HT.out, hTB, hset, decide_eq_true hkk, decide_eq_false hll]; rfl
              have q2 : decide ((ly : Int) < 255) = false := decide_eq_false (by omega)
              clear HT hTB hset hkk hll
              go_quiet (first | (go_at_call 61; exact Calls.quiet_of_same (HCS.out _)))
              go_wp2
              go_ret
              exact ⟨by rw [HR.out] <;> rfl, below_drewN HB2.out _⟩
          · have q1 : (y.k == s.k) = false := by simpa using hkk
            have HR : Hid (segR p i s = 0) := by
              show _ = _; rw [HT.out, hTB, hset, decide_eq_false hkk]; rfl
            clear HT hTB hset hkk
            go_quiet (first | (go_at_call 61; exact Calls.quiet_of_same (HCS.out _)))
            go_wp2
            go_ret
            exact ⟨by rw [HR.out] <;> rfl, below_drewN HB2.out _⟩
      | true =>
        rw [hcf] at HCF
        have HS1 : Hid (Below W0.heap.size W0 wr) := HS
        have HT0 : Hid (∀ t ∈ p.take 0, isConf t.k = true) := fun t h => by simp at h
        have j1 : (0 : Int) ≤ (cap : Int) := by omega
        have j2 : (i : Int) ≤ (cap : Int) := by omega
        have j3 : (i : Int) ≤ (n : Int) := by omega
        go_wp2_with fail
        go_at_call 51
        refine (HCF.out _).mono ?_
        rintro e w2 ⟨rfl, rfl⟩
        go_wp2_with fail
        clear d0 d1 HCF k1
        go_loopg [10, 76] (i + 1) (fun g s10 s76 wr => ∃ m : Nat, m ≤ i ∧ i + 1 - m ≤ g ∧ s76 = .int .i64 (m : Int) ∧ (∃ q, q = s10) ∧ Hid (∀ t ∈ p.take m, isConf t.k = true) ∧ Hid (Below W0.heap.size W0 wr))
        case atStart => exact ⟨0, by omega, by omega, rfl, ⟨_, rfl⟩, HT0, HS1⟩
        case round =>
          clear HT0 HS1 HS
          obtain ⟨m, hm, hmg, rfl, ⟨u10, rfl⟩, HI, HS⟩ := hrel
          by_cases hml : m < i
          · obtain ⟨t, ht⟩ : ∃ t, p[m]? = some t := ⟨_, List.getElem?_eq_getElem (by have := HN.out; omega)⟩
            have HTT := Lib.hid ht
            obtain ⟨ut, a0, a1, hut⟩ := HP0.out m t ht
            have d2 := carry HS.out a0
            have d3 := carry HS.out a1
            obtain ⟨tad, tcap, hf⟩ := hut.form
            subst hf
            have k0 : (0 : Int) ≤ (m : Int) := by omega
            have k1 : (m : Int) < (i : Int) := by omega
            obtain ⟨tl, htl⟩ : ∃ tl, t.as.length = tl := ⟨_, rfl⟩
            rw [htl] at d3
            have HCT : Hid (∀ W, Calls Tryz.prog 51 #[.int .i64 t.k] W fun e w' => e = .returned (.bool (isConf t.k)) ∧ w' = W) := fun W => conf51_same t.k W
            have HS2 := Lib.hid (below_then HS.out (below_alloc wr (.cells #[.int .i64 t.k, .slice tad tl tcap] 46)))
            clear ht a0 a1 hut htl
            cases hct : isConf t.k with
            | false =>
              rw [hct] at HCT
              have HR : Hid (segR p i s = 1) := segR_conf HE0.out hcf (t := t) (by
                refine List.mem_iff_getElem?.2 ⟨m, ?_⟩
                rw [List.getElem?_take_of_lt hml]; exact HTT.out) hct
              have HB2 := Lib.hid (HW0.out.trans (HS2.out.mono HW0.out.size))
              clear HI HE0 hcf hct HTT
              go_wp2_with fail
              go_at_call 51
              refine (HCT.out _).mono ?_
              rintro e w3 ⟨rfl, rfl⟩
              go_wp2
              go_ret
              exact ⟨by rw [HR.out] <;> rfl, HB2.out⟩
            | true =>
              rw [hct] at HCT
              have HI2 : Hid (∀ y ∈ p.take (m + 1), isConf y.k = true) := fun y hy => by
                rw [List.take_add_one, HTT.out] at hy
                rcases List.mem_append.1 hy with h | h
                · exact HI.out y h
                · simp at h; subst h; exact hct
              clear HI hct HTT
              go_wp2_with fail
              go_at_call 51
              refine (HCT.out _).mono ?_
              rintro e w3 ⟨rfl, rfl⟩
              go_wp2_with fail
              go_roundg (i + 1 - (m + 1))
              case measure => omega
              case rel => exact ⟨m + 1, by omega, Nat.le_refl _, by go_num, ⟨_, rfl⟩, HI2, HS2⟩
          obtain rfl : m = i := by omega
          have k1 : decide ((m : Int) < (m : Int)) = false := decide_eq_false (by omega)
          have HT : Hid (segR p m s = if tailB p m s = true then 1 else 0) := segR_tail HE0.out (fun _ => HI.out)
          have d0 := carry HS.out g0
          have d1 := carry HS.out g1
          clear HI HE0 hcf hml hmg hm
          go_wp2_with fail
          have HB2 := Lib.hid (HW0.out.trans (HS.out.mono HW0.out.size))
          by_cases hi0 : m = 0
          · have HR : Hid (segR p m s = 0) := by
              show _ = _; rw [HT.out, if_neg]; subst hi0; exact fun h => by cases h
            have k2 : decide ((0 : Int) < (m : Int)) = false := decide_eq_false (by omega)
            clear HT
            go_quiet (first | (go_at_call 61; exact Calls.quiet_of_same (HCS.out _)))
            go_wp2
            go_ret
            exact ⟨by rw [HR.out] <;> rfl, below_drewN HB2.out _⟩
          obtain ⟨y, hy⟩ : ∃ y, p[m - 1]? = some y := ⟨_, List.getElem?_eq_getElem (by have := HN.out; omega)⟩
          obtain ⟨uy, a0, a1, huy⟩ := HP0.out (m - 1) y hy
          obtain ⟨yad, ycap, hf⟩ := huy.form
          subst hf
          obtain ⟨ly, hly⟩ : ∃ ly, y.as.length = ly := ⟨_, rfl⟩
          rw [hly] at a1
          have hTB : tailB p m s = (!isSet s.k && decide (y.k = s.k) && decide (ly < 255)) := by
            unfold tailB
            have : prevO p m = some y := by
              cases hq : m with
              | zero => omega
              | succ z => rw [hq] at hy; exact hy
            rw [this, ← hly]
          have d2 := carry HS.out a0
          have d3 := carry HS.out a1
          have k2 : decide ((0 : Int) < (m : Int)) = true := decide_eq_true (by omega)
          have k2' : 0 < m := by omega
          have k3 : (0 : Int) ≤ (m : Int) - 1 := by omega
          have k4 : (m : Int) - 1 < (n : Int) := by omega
          have k5 : IntKind.i64.wrap ((m : Int) - 1) = (m : Int) - 1 := IntWalk.i64_in _ (by omega)
          have k6 : ((m : Int) - 1).toNat = m - 1 := by omega
          clear hy a0 a1 huy hly hi0
          cases hset : isSet s.k with
          | true =>
            rw [hset] at HCS
            have HR : Hid (segR p m s = 0) := by
              show _ = _; rw [HT.out, hTB, hset]; rfl
            clear HT hTB hset
            go_quiet (first | (go_at_call 61; exact Calls.quiet_of_same (HCS.out _)))
            go_wp2
            go_ret
            exact ⟨by rw [HR.out] <;> rfl, below_drewN HB2.out _⟩
          | false =>
            rw [hset] at HCS
            by_cases hkk : y.k = s.k
            · have q1 : (y.k == s.k) = true := by simpa using hkk
              by_cases hll : ly < 255
              · have HR : Hid (segR p m s = 1) := by
                  show _ = _; rw [HT.out, hTB, hset, decide_eq_true hkk, decide_eq_true hll]; rfl
                have q2 : decide ((ly : Int) < 255) = true := decide_eq_true (by omega)
                clear HT hTB hset hkk hll
                go_quiet (first | (go_at_call 61; exact Calls.quiet_of_same (HCS.out _)))
                go_wp2
                go_ret
                exact ⟨by rw [HR.out] <;> rfl, below_drewN HB2.out _⟩
              · have HR : Hid (segR p m s = 0) := by
                  show _ = _; rw [HT.out, hTB, hset, decide_eq_true hkk, decide_eq_false hll]; rfl
                have q2 : decide ((ly : Int) < 255) = false := decide_eq_false (by omega)
                clear HT hTB hset hkk hll
                go_quiet (first | (go_at_call 61; exact Calls.quiet_of_same (HCS.out _)))
                go_wp2
                go_ret
                exact ⟨by rw [HR.out] <;> rfl, below_drewN HB2.out _⟩
            · have q1 : (y.k == s.k) = false := by simpa using hkk
              have HR : Hid (segR p m s = 0) := by
                show _ = _; rw [HT.out, hTB, hset, decide_eq_false hkk]; rfl
              clear HT hTB hset hkk
              go_quiet (first | (go_at_call 61; exact Calls.quiet_of_same (HCS.out _)))
              go_wp2
              go_ret
              exact ⟨by rw [HR.out] <;> rfl, below_drewN HB2.out _⟩
end
end Go.Proofs.YtiobfgcpbihbhaaGreatDoor
namespace Go.Proofs.YtiobfgcpbihbhaaGreatDoor
section
open Go.RowKit P
set_option linter.unusedSimpArgs false
set_option linter.unusedVariables false
set_option maxHeartbeats 1500000
set_option maxRecDepth 100000
theorem rcheck_any (p : List Sg) (v : Value) (w : World) (hv : RdS w v p) : Calls Tryz.prog 14 #[v] w fun e w' => e = .returned (.int .i64 (chk p)) ∧ Below w.heap.size w w' := by
  have HV := Lib.hid hv
  obtain ⟨ad, cap, hf⟩ := hv.form
  subst hf
  have hcap : p.length ≤ 9223372036854775807 := by obtain ⟨_, _, e, h1, h2, _⟩ := hv; have := h2.1; omega
  have HC : Hid (chk p = if 64 < p.length then 4 else scan none p) := rfl
  obtain ⟨n, hn⟩ : ∃ n, p.length = n := ⟨_, rfl⟩
  rw [hn] at HC HV hcap ⊢
  have HN := Lib.hid hn
  generalize chk p = q at *
  clear hv hn
  by_cases h64 : 64 < n
  · have HQ : Hid (q = 4) := by show _ = _; rw [HC.out, if_pos h64]
    have e1 : decide ((64 : Int) < (n : Int)) = true := decide_eq_true (by omega)
    clear HV
    go_enter Tryz.func14, Tryz.ntmps14
    go_wp2
    go_ret
    exact ⟨by rw [HQ.out] <;> rfl, Below.refl _ _⟩
  · have e1 : decide ((64 : Int) < (n : Int)) = false := decide_eq_false (by omega)
    have HQ0 : Hid (q = scan (prevO p 0) (p.drop 0)) := by show _ = _; rw [HC.out, if_neg h64]; rfl
    have HB0 : Hid (Bef p 0) := Bef.start p
    have HS0 : Hid (Below w.heap.size w w) := Below.refl _ _
    clear HC
    go_enter Tryz.func14, Tryz.ntmps14
    go_wp2_with fail
    go_loopg [3, 4, 10] (n + 1) (fun g s3 s4 s10 wr => ∃ k : Nat, k ≤ n ∧ n + 1 - k ≤ g ∧ s10 = .int .i64 (k : Int) ∧ (∃ z, z = s3) ∧ (∃ z, z = s4) ∧ Hid (q = scan (prevO p k) (p.drop k)) ∧ Hid (Bef p k) ∧ Hid (Below w.heap.size w wr))
    case atStart => exact ⟨0, by omega, by omega, rfl, ⟨_, rfl⟩, ⟨_, rfl⟩, HQ0, HB0, HS0⟩
    case round =>
      clear HQ0 HB0 HS0
      obtain ⟨k, hk, hkg, rfl, ⟨u3, rfl⟩, ⟨u4, rfl⟩, HQ, HB, HS⟩ := hrel
      by_cases hlt : k < n
      · obtain ⟨s, hs⟩ : ∃ s, p[k]? = some s := ⟨_, List.getElem?_eq_getElem (by have := HN.out; omega)⟩
        have HST := Lib.hid (HB.out.step hs)
        have HR := Lib.hid (segR_any p k s _ wr (HV.out.below HS.out) hs)
        have k1 : decide ((k : Int) < (n : Int)) = true := decide_eq_true (by omega)
        generalize segR p k s = r at *
        by_cases hr : r = 0
        · have HQ2 : Hid (q = scan (prevO p (k + 1)) (p.drop (k + 1))) := by
            show _ = _; rw [HQ.out, HST.out.1, if_neg (by simp [hr])]
          have HB2 : Hid (Bef p (k + 1)) := HST.out.2 hr
          subst hr
          clear HQ HB HST hs
          go_wp2_with fail
          go_at_call 41
          refine HR.out.mono ?_
          rintro e w1 ⟨rfl, hb⟩
          have HS2 := Lib.hid (below_then HS.out hb)
          clear hb HR HS
          go_wp2_with fail
          go_roundg (n + 1 - (k + 1))
          case measure => omega
          case rel => exact ⟨k + 1, by omega, Nat.le_refl _, by go_num, ⟨_, rfl⟩, ⟨_, rfl⟩, HQ2, HB2, HS2⟩
        · have HQ2 : Hid (q = r) := by
            show _ = _; rw [HQ.out, HST.out.1, if_pos hr]
          have e2 : (r == 0) = false := by simpa using hr
          have e3 : (r != 0) = true := by simpa using hr
          clear HQ HB HST hs
          go_wp2_with fail
          go_at_call 41
          refine HR.out.mono ?_
          rintro e w1 ⟨rfl, hb⟩
          have HS2 := Lib.hid (below_then HS.out hb)
          clear hb HR HS
          go_wp2
          go_ret
          exact ⟨by rw [HQ2.out] <;> rfl, HS2.out⟩
      · have k1 : decide ((k : Int) < (n : Int)) = false := decide_eq_false (by omega)
        have HQ2 : Hid (q = 0) := by
          show _ = _
          rw [HQ.out, List.drop_of_length_le (by rw [HN.out]; omega)]
          cases prevO p k <;> rfl
        clear HQ HB
        go_wp2
        go_ret
        exact ⟨by rw [HQ2.out] <;> rfl, HS.out⟩
end
end Go.Proofs.YtiobfgcpbihbhaaGreatDoor
namespace Go.Proofs.YtiobfgcpbihbhaaGreatDoor
section
open Go.RowKit P
set_option linter.unusedSimpArgs false
set_option linter.unusedVariables false
set_option maxHeartbeats 8000000
set_option maxRecDepth 100000
theorem P.prpF_chk {p : List Sg} {kd x n : Int} (h : chk p ≠ 0) : prpF p kd x n = ([], chk p) := by
  have e : prpE p kd x n = chk p := by unfold prpE; rw [if_pos h]
  unfold prpF; rw [e, if_pos h]
theorem P.prpF_kind {p : List Sg} {kd x n : Int} (h : chk p = 0) (h2 : kd ≠ 2 ∧ kd ≠ 3) : prpF p kd x n = ([], 15) := by
  have e : prpE p kd x n = 15 := by unfold prpE; rw [if_neg (by rw [h]; simp), if_pos h2]
  unfold prpF; rw [e, if_pos (by simp)]
theorem P.prpF_rng {p : List Sg} {kd x n : Int} (h : chk p = 0) (h2 : kd = 2 ∨ kd = 3) (h3 : x < 1 ∨ 4294967295 < x ∨ n < 0 ∨ 255 < n) : prpF p kd x n = ([], 5) := by
  have e : prpE p kd x n = 5 := by
    unfold prpE
    rw [if_neg (by rw [h]; simp), if_neg (by omega), if_pos]
    rcases h3 with h3 | h3 | h3 | h3
    · left; unfold isNum; exact decide_eq_false (by omega)
    · left; unfold isNum; exact decide_eq_false (by omega)
    · exact .inr (.inl h3)
    · exact .inr (.inr h3)
  unfold prpF; rw [e, if_pos (by simp)]
theorem P.prpF_conf {p : List Sg} {kd x n : Int} (h : chk p = 0) (h2 : kd = 2 ∨ kd = 3) (h3 : ¬ (x < 1 ∨ 4294967295 < x ∨ n < 0 ∨ 255 < n)) (h4 : 0 < n ∧ kd = 2 ∧ confB p = true) : prpF p kd x n = ([], 1) := by
  have e : prpE p kd x n = 1 := by
    unfold prpE
    rw [if_neg (by rw [h]; simp), if_neg (by omega), if_neg, if_pos h4]
    rintro (h5 | h5)
    · unfold isNum at h5; rw [decide_eq_false_iff_not] at h5; omega
    · omega
  unfold prpF; rw [e, if_pos (by simp)]
theorem P.prpF_ok {p : List Sg} {kd x n : Int} (h : chk p = 0) (h2 : kd = 2 ∨ kd = 3) (h3 : ¬ (x < 1 ∨ 4294967295 < x ∨ n < 0 ∨ 255 < n)) (h4 : ¬ (0 < n ∧ kd = 2 ∧ confB p = true)) : prpF p kd x n = if 64 < (prp p kd x n.toNat).length then ([], 4) else (prp p kd x n.toNat, 0) := by
  have e : prpE p kd x n = 0 := by
    unfold prpE
    rw [if_neg (by rw [h]; simp), if_neg (by omega), if_neg, if_neg h4]
    rintro (h5 | h5)
    · unfold isNum at h5; rw [decide_eq_false_iff_not] at h5; omega
    · omega
  unfold prpF; rw [e, if_neg (by simp)]
theorem P.dropWhile_drop : ∀ {p : List Sg} {q : Sg → Bool} {k : Nat}, (∀ (j : Nat) (y : Sg), j < k → p[j]? = some y → q y = true) → (∀ y, p[k]? = some y → q y = false) → p.dropWhile q = p.drop k := fun {p q k} h1 h2 => by
  have e1 := takeWhile_take h1 h2
  have e2 := List.takeWhile_append_dropWhile (p := q) (l := p)
  have e3 := List.take_append_drop k p
  rw [e1] at e2
  exact List.append_cancel_left (e2.trans e3.symm)
theorem RdS.dropIf {w : World} {ad : Option Addr} {n cap : Nat} {p : List Sg} (h : RdS w (.slice ad n cap) p) {k : Nat} (hk : k ≤ p.length) : RdS w (.slice (if cap = k then ad else ad.map fun x => x.add (k * 2)) (n - k) (cap - k)) (p.drop k) := by
  obtain ⟨ad', cap', e, h1, h2, hc⟩ := h
  cases e
  have e1 : (p.drop k).length = p.length - k := List.length_drop
  refine ⟨_, _, by rw [e1], by rw [e1]; omega, ⟨by omega, ?_⟩, fun j s hj => ?_⟩
  · intro he
    by_cases hck : cap = k
    · omega
    · rw [if_neg hck] at he
      have hn : ad = none := by
        cases ad with
        | none => rfl
        | some a => cases he
      have := h2.2 hn; omega
  · have hjl := (List.getElem?_eq_some_iff.1 hj).1
    rw [List.length_drop] at hjl
    rw [List.getElem?_drop] at hj
    obtain ⟨b, off, u, e2, a1, a2, a3, a4⟩ := hc (k + j) s hj
    cases e2
    rw [if_neg (by omega)]
    exact ⟨b, off + k * 2, u, by rw [Option.map_some, Addr.add_lit], a1, by rw [← a2]; congr 2; omega, by rw [← a3]; congr 2; omega, a4⟩
end
end Go.Proofs.YtiobfgcpbihbhaaGreatDoor
namespace Go.Proofs.YtiobfgcpbihbhaaGreatDoor
section
open Go.RowKit P
set_option linter.unusedSimpArgs false
set_option linter.unusedVariables false
set_option maxHeartbeats 1500000
set_option maxRecDepth 100000
theorem rprep_err (p : List Sg) (v : Value) (kd x n : Int) (w : World) (hv : RdS w v p) (hl : p.length ≤ 900000) (hf : (flat p).length ≤ 900000) (hbad : chk p = 0 → (kd = 2 ∨ kd = 3) → x < 1 ∨ 4294967295 < x ∨ n < 0 ∨ 255 < n) :
    Calls Tryz.prog 30 #[v, .int .i64 kd, .int .i64 x, .int .i64 n] w fun e w' => ∃ v', e = .returned (.tuple #[v', .int .i64 (prpF p kd x n).2]) ∧ RdS w' v' (prpF p kd x n).1 ∧ Below w.heap.size w w' := by
  have HC := Lib.hid (rcheck_any p v w hv)
  have HBAD := Lib.hid hbad
  clear hbad
  have HV : Hid (∀ W, Below w.heap.size w W → RdS W v p) := fun W hW => hv.below hW
  have HLF := Lib.hid hf
  obtain ⟨ad, cap, rfl, h1, h2, hc⟩ := hv
  have HCC := Lib.hid hc
  obtain ⟨L, hL⟩ : ∃ L, p.length = L := ⟨_, rfl⟩
  rw [hL] at h1 hl HV HC ⊢
  have HL := Lib.hid hL
  obtain ⟨q, hq⟩ : ∃ q, chk p = q := ⟨_, rfl⟩
  rw [hq] at HC
  have HQ := Lib.hid hq
  clear hc hL hq hf
  go_enter Tryz.func30, Tryz.ntmps30
  go_wp2_with fail
  go_at_call 14
  refine HC.out.mono ?_
  rintro e w1 ⟨rfl, hb⟩
  have HB1 := Lib.hid hb
  clear hb HC
  by_cases hq0 : q = 0
  · subst hq0
    by_cases hkk : kd ≠ 2 ∧ kd ≠ 3
    · have HZ := Lib.hid (prpF_kind (x := x) (n := n) HQ.out hkk)
      have e1 : (kd != 2) = true := by simpa using hkk.1
      have e2 : (kd != 3) = true := by simpa using hkk.2
      clear HBAD hkk HLF HCC HV
      go_wp2
      go_ret2
      exact ⟨_, by rw [HZ.out] <;> rfl, by rw [HZ.out]; exact rds_nil _, HB1.out⟩
    · have hk2 : kd = 2 ∨ kd = 3 := by omega
      clear hkk
      have HRR := Lib.hid (HBAD.out HQ.out hk2)
      clear HBAD
      by_cases hr : x < 1 ∨ 4294967295 < x ∨ n < 0 ∨ 255 < n
      · have HZ := Lib.hid (prpF_rng HQ.out hk2 hr)
        by_cases hx1 : x < 1
        · have e1 : decide (x < 1) = true := decide_eq_true hx1
          clear HLF HCC HV hr
          rcases hk2 with rfl | rfl
          all_goals
            go_wp2
            go_ret2
            exact ⟨_, by rw [HZ.out] <;> rfl, by rw [HZ.out]; exact rds_nil _, HB1.out⟩
        · have e1 : decide (x < 1) = false := decide_eq_false hx1
          by_cases hx2 : 4294967295 < x
          · have e2 : decide (4294967295 < x) = true := decide_eq_true hx2
            clear HLF HCC HV hr hx1
            rcases hk2 with rfl | rfl
            all_goals
              go_wp2
              go_ret2
              exact ⟨_, by rw [HZ.out] <;> rfl, by rw [HZ.out]; exact rds_nil _, HB1.out⟩
          · have e2 : decide (4294967295 < x) = false := decide_eq_false hx2
            by_cases hn1 : n < 0
            · have e3 : decide (n < 0) = true := decide_eq_true hn1
              clear HLF HCC HV hr hx1 hx2
              rcases hk2 with rfl | rfl
              all_goals
                go_wp2
                go_ret2
                exact ⟨_, by rw [HZ.out] <;> rfl, by rw [HZ.out]; exact rds_nil _, HB1.out⟩
            · have e3 : decide (n < 0) = false := decide_eq_false hn1
              have hn2 : 255 < n := by omega
              have e4 : decide (255 < n) = true := decide_eq_true hn2
              clear HLF HCC HV hr hx1 hx2 hn1
              rcases hk2 with rfl | rfl
              all_goals
                go_wp2
                go_ret2
                exact ⟨_, by rw [HZ.out] <;> rfl, by rw [HZ.out]; exact rds_nil _, HB1.out⟩
      · exact absurd HRR.out hr
  · have HZ := Lib.hid (prpF_chk (kd := kd) (x := x) (n := n) (show chk p ≠ 0 by rw [HQ.out]; exact hq0))
    have e1 : (q != 0) = true := by simpa using hq0
    clear HBAD HLF HCC HV hq0
    go_wp2
    go_ret2
    exact ⟨_, by rw [HZ.out, HQ.out] <;> rfl, by rw [HZ.out]; exact rds_nil _, HB1.out⟩
end
end Go.Proofs.YtiobfgcpbihbhaaGreatDoor
namespace Go.Proofs.YtiobfgcpbihbhaaGreatDoor
section
open Go.RowKit P
set_option linter.unusedSimpArgs false
set_option linter.unusedVariables false
set_option maxHeartbeats 1500000
set_option maxRecDepth 100000
theorem rprep_2b (p : List Sg) (v : Value) (x : Int) (m : Nat) (w : World) (hv : RdS w v p) (hl : p.length ≤ 900000) (hf : (flat p).length ≤ 900000) (hq : chk p = 0) (hr : ¬ (x < 1 ∨ 4294967295 < x ∨ (m : Int) < 0 ∨ 255 < (m : Int))) (hm0 : 0 < m) (hl0 : p.length = 0) :
    Calls Tryz.prog 30 #[v, .int .i64 2, .int .i64 x, .int .i64 (m : Int)] w fun e w' => ∃ v', e = .returned (.tuple #[v', .int .i64 (prpF p 2 x (m : Int)).2]) ∧ RdS w' v' (prpF p 2 x (m : Int)).1 ∧ Below w.heap.size w w' := by
  have HC := Lib.hid (rcheck_any p v w hv)
  have HV : Hid (∀ W, Below w.heap.size w W → RdS W v p) := fun W hW => hv.below hW
  have HLF := Lib.hid hf
  obtain ⟨ad, cap, rfl, h1, h2, hc⟩ := hv
  have HCC := Lib.hid hc
  obtain ⟨L, hL⟩ : ∃ L, p.length = L := ⟨_, rfl⟩
  rw [hL] at h1 hl HV HC ⊢
  have HL := Lib.hid hL
  rw [hq] at HC
  have HQ := Lib.hid hq
  have e1 : decide (x < 1) = false := decide_eq_false (by omega)
  have e2 : decide (4294967295 < x) = false := decide_eq_false (by omega)
  have e3 : decide ((m : Int) < 0) = false := decide_eq_false (by omega)
  have e4 : decide (255 < (m : Int)) = false := decide_eq_false (by omega)
  have hm : m ≤ 255 := by omega
  have HR := Lib.hid hr
  clear hr
  clear hc hL hq hf
  go_enter Tryz.func30, Tryz.ntmps30
  go_wp2_with fail
  go_at_call 14
  refine HC.out.mono ?_
  rintro e w1 ⟨rfl, hb⟩
  have HB1 := Lib.hid hb
  clear hb HC
  have hl9 : L = 0 := by rw [← HL.out]; exact hl0
  subst hl9
  have m1 : decide ((0 : Int) < (m : Int)) = true := decide_eq_true (by omega)
  have hcf : ¬ ((0 : Int) < (m : Int) ∧ (2 : Int) = 2 ∧ confB p = true) := fun h => by
    have hp : p = [] := List.length_eq_zero_iff.1 hl0
    have h3 := h.2.2
    rw [hp] at h3
    cases h3
  clear hl0
  have HZ := Lib.hid (prpF_ok (x := x) (n := (m : Int)) HQ.out (show (2 : Int) = 2 ∨ (2 : Int) = 3 by omega) HR.out hcf)
  clear HR hcf
  have HS0 : Hid (InsI w1 (.slice none 0 0) (List.replicate 0 x) w1) := InsI.start w1
  go_wp2_with fail
  clear e1 e2 e3 e4 m1 hm0
  go_loopg [11, 58] m (fun g s11 s58 wr => ∃ (k : Nat) (v10 : Value), k ≤ m ∧ m - k ≤ g ∧ v10 = s11 ∧ s58 = .int .i64 (k : Int) ∧ Hid (InsI w1 v10 (List.replicate k x) wr))
  case atStart => exact ⟨0, _, by omega, by omega, rfl, rfl, HS0⟩
  case round =>
    clear HS0
    obtain ⟨k, v10, hk, hkg, rfl, rfl, HS⟩ := hrel
    by_cases hlt : k < m
    · have i1 : decide ((k : Int) < (m : Int)) = true := decide_eq_true (by omega)
      have HA : Hid (InsI w1 _ (List.replicate k x) (wr.alloc (.cells #[.int .i64 x] 3))) := HS.out.below (below_alloc _ _)
      have HUA : Hid (RdI (wr.alloc (.cells #[.int .i64 x] 3)) (.slice (some ⟨wr.heap.size, 0, none⟩) 1 1) [x]) := rdi_at _ [x] 3 _ rfl _ rfl _ rfl (by simp)
      have hle : (List.replicate k x).length + [x].length ≤ 2000000 := by rw [List.length_replicate]; simp; omega
      have HRE : Hid (List.replicate (k + 1) x = List.replicate k x ++ [x]) := List.replicate_succ'
      clear HS
      go_wp2_with (at_builtin; refine append_rdI rfl (.tmp 60) (.tmp 62) rfl w1.heap.size HA.out.2.size _ (List.replicate k x) rfl HA.out.1 _ [x] rfl HUA.out hle ?_; intro v2 w2 hown hb; have S2 : Hid (InsI w1 v2 (List.replicate (k + 1) x) w2) := (by show InsI _ _ _ _; rw [HRE.out]; exact ⟨hown, HA.out.2.trans hb⟩); clear hown hb)
      go_roundg (m - (k + 1))
      case measure => omega
      case rel => exact ⟨k + 1, _, by omega, Nat.le_refl _, rfl, by go_num, S2⟩
    · have i1 : decide ((k : Int) < (m : Int)) = false := decide_eq_false (by omega)
      have hkm : m = k := by omega
      subst hkm
      have HS1 : Hid (InsI w1 v10 (List.replicate m x ++ flat (p.take 0)) wr) := by show InsI _ _ _ _; rw [List.take_zero, show flat [] = [] from rfl, List.append_nil]; exact HS.out
      have HA1 : Hid (∀ (j : Nat) (y : Sg), j < 0 → p[j]? = some y → decide ((2 : Int) = y.k) = true) := fun j y h => by omega
      clear HS hlt hk hkg
      generalize wr = wy at *
      go_wp2_with fail
      go_loopg [11, 12] 0 (fun g s11 s12 wr => ∃ (k2 : Nat) (v11 : Value), k2 ≤ 0 ∧ 0 - k2 ≤ g ∧ v11 = s11 ∧ s12 = .int .i64 (k2 : Int) ∧ Hid (∀ (j : Nat) (y : Sg), j < k2 → p[j]? = some y → decide ((2 : Int) = y.k) = true) ∧ Hid (InsI w1 v11 (List.replicate m x ++ flat (p.take k2)) wr))
      case atStart => exact ⟨0, _, by omega, by omega, rfl, rfl, HA1, HS1⟩
      case round =>
        clear HS1 HA1
        obtain ⟨k2, v11, hk2l, hkg, rfl, rfl, HA, HS⟩ := hrel
        generalize wr = wz at *
        by_cases hlt : k2 < 0
        · exact absurd hlt (by omega)
        · have i2 : decide ((k2 : Int) < (0 : Int)) = false := decide_eq_false (by omega)
          have HEX : Hid (∀ y, p[k2]? = some y → decide ((2 : Int) = y.k) = false) := fun y hy => by have := (List.getElem?_eq_some_iff.1 hy).1; have := HL.out; omega
          clear hkg
          have HTK : Hid (prpL p 2 x m = List.replicate m x ++ flat (p.take k2)) := by show _ = _; unfold prpL; rw [takeWhile_take HA.out HEX.out]
          have HDK : Hid ((p.dropWhile fun s => decide ((2 : Int) = s.k)) = p.drop k2) := dropWhile_drop HA.out HEX.out
          have hkl : k2 ≤ p.length := by rw [HL.out]; exact hk2l
          have hPL : (prpL p 2 x m).length ≤ 2000000 := by
            rw [HTK.out, List.length_append, List.length_replicate]
            have := flat_take_le p k2; have := HLF.out; omega
          have HSQ := Lib.hid (rseqs_any 2 (prpL p 2 x m) v11 wz (by rw [HTK.out]; exact HS.out.1.rd) hPL)
          have hSL : (seqs 2 (prpL p 2 x m)).length ≤ 1000000 := Nat.le_trans (seqs_len0 2 _ _ rfl) (by
            rw [HTK.out, List.length_append, List.length_replicate]
            have := flat_take_le p k2; have := HLF.out; omega)
          have HSL := Lib.hid hSL
          have HBZ := Lib.hid (below_then HB1.out HS.out.2)
          have HFZ := Lib.hid HS.out.1.rd.form
          obtain ⟨a11, c11, hf11⟩ := HFZ.out
          subst hf11
          generalize (List.replicate m x ++ flat (p.take k2)).length = L11 at *
          clear HA HEX HS hPL hSL HFZ
          have j0 : (0 : Int) ≤ (k2 : Int) := by omega
          have j1 : (k2 : Int) ≤ (0 : Int) := by omega
          go_wp2_with fail
          go_at_call 58
          refine HSQ.out.mono ?_
          rintro e w3 ⟨v3, rfl, ho3, hb3⟩
          have HO3 := Lib.hid ho3
          have HB3 := Lib.hid (below_then HBZ.out hb3)
          have HBS := Lib.hid hb3
          clear ho3 hb3 HSQ
          have hd := (HV.out _ HB3.out).dropIf hkl
          obtain ⟨B1, hif1⟩ : ∃ B1, (if cap = k2 then ad else Option.map (fun x => x.add (k2 * 2)) ad) = B1 := ⟨_, rfl⟩
          rw [hif1, Nat.zero_sub] at hd
          have hdl : (p.drop k2).length ≤ 900000 ∧ (flat (p.drop k2)).length ≤ 900000 := by
            have e9 : (flat p).length = (flat (p.take k2)).length + (flat (p.drop k2)).length := by conv => lhs; rw [← List.take_append_drop k2 p, flat_app, List.length_append]
            rw [List.length_drop]
            have := HLF.out; have := HL.out; omega
          have HCL := Lib.hid (rcloneF_any (p.drop k2) _ w3 (by omega) (by omega) hd)
          have HDL := Lib.hid hdl
          obtain ⟨a3, c3, hf3⟩ := HO3.out.rd.form
          subst hf3
          clear hd hdl
          go_wp2_with fail
          go_at_call 52
          refine HCL.out.mono ?_
          rintro e w4 ⟨v4, rfl, hf4, hb4⟩
          have HB4 := Lib.hid (below_then HB3.out hb4)
          have H1 : Hid (OwnP wz.heap.size w4 (.slice a3 (seqs 2 (prpL p 2 x m)).length c3) (seqs 2 (prpL p 2 x m))) := HO3.out.below hb4
          have H2 := Lib.hid hf4
          have H3 : Hid (∀ g, (Value.slice a3 (seqs 2 (prpL p 2 x m)).length c3).ownBlock = some g → g < w3.heap.size) := fun g hg => by
            rcases HO3.out.2 with ⟨e, _⟩ | ⟨g', cap', q', e, ho, _⟩
            · rw [e] at hg; cases hg
            · rw [e] at hg; cases hg; exact (ownsRow_lt (HO3.out.2.elim (fun h => by rw [e] at h; cases h.1) (fun _ => e ▸ ho))).2
          have H4 : Hid ((seqs 2 (prpL p 2 x m)).length + (p.drop k2).length ≤ 2000000) := by have := HSL.out; have := HDL.out.1; show _ ≤ _; omega
          have H5 : Hid (wz.heap.size ≤ w4.heap.size) := H1.out.1
          clear hf4 hb4 HCL
          obtain ⟨NN, hNN⟩ : ∃ NN, (seqs 2 (prpL p 2 x m) ++ p.drop k2).length = NN := ⟨_, rfl⟩
          have HNN := Lib.hid hNN
          have HPP : Hid (prp p 2 x m = seqs 2 (prpL p 2 x m) ++ p.drop k2) := by show _ = _; unfold prp; rw [HDK.out]
          have HF3 : Hid (prpF p 2 x (m : Int) = if 64 < NN then ([], 4) else (prp p 2 x m, 0)) := by
            have e7 := HZ.out
            rw [show ((m : Int)).toNat = m from rfl] at e7
            show _ = _; rw [e7, HPP.out, HNN.out]
          have HBW : Hid (∀ W, Below wz.heap.size w4 W → Below w.heap.size w W) := fun W hW => HB4.out.trans (hW.mono HBZ.out.size)
          clear hNN HB1 HB3 HO3 HSL HZ
          by_cases h64 : 64 < NN
          · have k1 : decide ((64 : Int) < (NN : Int)) = true := decide_eq_true (by omega)
            have HQ2 : Hid (prpF p 2 x (m : Int) = ([], 4)) := by show _ = _; rw [HF3.out, if_pos h64]
            clear HF3
            go_wp2_with (at_builtin; refine append_segs rfl (.tmp 90) (.tmp 94) rfl wz.heap.size H5.out _ (seqs 2 (prpL p 2 x m)) rfl H1.out v4 (p.drop k2) rfl w3.heap.size H2.out H3.out H4.out ?_; intro v8 w8 ho8 hb8; obtain ⟨a8, c8, hf8⟩ := ho8.rd.form; rw [HNN.out] at hf8; subst hf8; have HO8 := Lib.hid ho8; have HB9 := Lib.hid (HBW.out _ hb8); clear ho8 hb8)
            go_ret2
            exact ⟨_, by rw [HQ2.out] <;> rfl, by rw [HQ2.out]; exact rds_nil _, HB9.out⟩
          · have k1 : decide ((64 : Int) < (NN : Int)) = false := decide_eq_false (by omega)
            have HQ2 : Hid (prpF p 2 x (m : Int) = (prp p 2 x m, 0)) := by show _ = _; rw [HF3.out, if_neg h64]
            clear HF3
            go_wp2_with (at_builtin; refine append_segs rfl (.tmp 90) (.tmp 94) rfl wz.heap.size H5.out _ (seqs 2 (prpL p 2 x m)) rfl H1.out v4 (p.drop k2) rfl w3.heap.size H2.out H3.out H4.out ?_; intro v8 w8 ho8 hb8; obtain ⟨a8, c8, hf8⟩ := ho8.rd.form; rw [HNN.out] at hf8; subst hf8; have HO8 := Lib.hid ho8; have HB9 := Lib.hid (HBW.out _ hb8); clear ho8 hb8)
            go_ret2
            exact ⟨_, by rw [HQ2.out] <;> rfl, by rw [HQ2.out, HPP.out]; exact HO8.out.rd, HB9.out⟩
end
end Go.Proofs.YtiobfgcpbihbhaaGreatDoor
namespace Go.Proofs.YtiobfgcpbihbhaaGreatDoor
section
open Go.RowKit P
set_option linter.unusedSimpArgs false
set_option linter.unusedVariables false
set_option maxHeartbeats 1500000
set_option maxRecDepth 100000
theorem rprep_2c (p : List Sg) (v : Value) (x : Int) (m : Nat) (w : World) (hv : RdS w v p) (hl : p.length ≤ 900000) (hf : (flat p).length ≤ 900000) (hq : chk p = 0) (hr : ¬ (x < 1 ∨ 4294967295 < x ∨ (m : Int) < 0 ∨ 255 < (m : Int))) (hm0 : ¬ 0 < m) :
    Calls Tryz.prog 30 #[v, .int .i64 2, .int .i64 x, .int .i64 (m : Int)] w fun e w' => ∃ v', e = .returned (.tuple #[v', .int .i64 (prpF p 2 x (m : Int)).2]) ∧ RdS w' v' (prpF p 2 x (m : Int)).1 ∧ Below w.heap.size w w' := by
  have HC := Lib.hid (rcheck_any p v w hv)
  have HV : Hid (∀ W, Below w.heap.size w W → RdS W v p) := fun W hW => hv.below hW
  have HLF := Lib.hid hf
  obtain ⟨ad, cap, rfl, h1, h2, hc⟩ := hv
  have HCC := Lib.hid hc
  obtain ⟨L, hL⟩ : ∃ L, p.length = L := ⟨_, rfl⟩
  rw [hL] at h1 hl HV HC ⊢
  have HL := Lib.hid hL
  rw [hq] at HC
  have HQ := Lib.hid hq
  have e1 : decide (x < 1) = false := decide_eq_false (by omega)
  have e2 : decide (4294967295 < x) = false := decide_eq_false (by omega)
  have e3 : decide ((m : Int) < 0) = false := decide_eq_false (by omega)
  have e4 : decide (255 < (m : Int)) = false := decide_eq_false (by omega)
  have hm : m ≤ 255 := by omega
  have HR := Lib.hid hr
  clear hr
  clear hc hL hq hf
  go_enter Tryz.func30, Tryz.ntmps30
  go_wp2_with fail
  go_at_call 14
  refine HC.out.mono ?_
  rintro e w1 ⟨rfl, hb⟩
  have HB1 := Lib.hid hb
  clear hb HC
  have m1 : decide ((0 : Int) < (m : Int)) = false := decide_eq_false (by omega)
  have hcf : ¬ ((0 : Int) < (m : Int) ∧ (2 : Int) = 2 ∧ confB p = true) := fun h => by omega
  have HZ := Lib.hid (prpF_ok (x := x) (n := (m : Int)) HQ.out (show (2 : Int) = 2 ∨ (2 : Int) = 3 by omega) HR.out hcf)
  clear HR hcf
  have HS0 : Hid (InsI w1 (.slice none 0 0) (List.replicate 0 x) w1) := InsI.start w1
  go_wp2_with fail
  clear e1 e2 e3 e4 m1 hm0
  go_loopg [11, 58] m (fun g s11 s58 wr => ∃ (k : Nat) (v10 : Value), k ≤ m ∧ m - k ≤ g ∧ v10 = s11 ∧ s58 = .int .i64 (k : Int) ∧ Hid (InsI w1 v10 (List.replicate k x) wr))
  case atStart => exact ⟨0, _, by omega, by omega, rfl, rfl, HS0⟩
  case round =>
    clear HS0
    obtain ⟨k, v10, hk, hkg, rfl, rfl, HS⟩ := hrel
    by_cases hlt : k < m
    · have i1 : decide ((k : Int) < (m : Int)) = true := decide_eq_true (by omega)
      have HA : Hid (InsI w1 _ (List.replicate k x) (wr.alloc (.cells #[.int .i64 x] 3))) := HS.out.below (below_alloc _ _)
      have HUA : Hid (RdI (wr.alloc (.cells #[.int .i64 x] 3)) (.slice (some ⟨wr.heap.size, 0, none⟩) 1 1) [x]) := rdi_at _ [x] 3 _ rfl _ rfl _ rfl (by simp)
      have hle : (List.replicate k x).length + [x].length ≤ 2000000 := by rw [List.length_replicate]; simp; omega
      have HRE : Hid (List.replicate (k + 1) x = List.replicate k x ++ [x]) := List.replicate_succ'
      clear HS
      go_wp2_with (at_builtin; refine append_rdI rfl (.tmp 60) (.tmp 62) rfl w1.heap.size HA.out.2.size _ (List.replicate k x) rfl HA.out.1 _ [x] rfl HUA.out hle ?_; intro v2 w2 hown hb; have S2 : Hid (InsI w1 v2 (List.replicate (k + 1) x) w2) := (by show InsI _ _ _ _; rw [HRE.out]; exact ⟨hown, HA.out.2.trans hb⟩); clear hown hb)
      go_roundg (m - (k + 1))
      case measure => omega
      case rel => exact ⟨k + 1, _, by omega, Nat.le_refl _, rfl, by go_num, S2⟩
    · have i1 : decide ((k : Int) < (m : Int)) = false := decide_eq_false (by omega)
      have hkm : m = k := by omega
      subst hkm
      have HS1 : Hid (InsI w1 v10 (List.replicate m x ++ flat (p.take 0)) wr) := by show InsI _ _ _ _; rw [List.take_zero, show flat [] = [] from rfl, List.append_nil]; exact HS.out
      have HA1 : Hid (∀ (j : Nat) (y : Sg), j < 0 → p[j]? = some y → decide ((2 : Int) = y.k) = true) := fun j y h => by omega
      clear HS hlt hk hkg
      generalize wr = wy at *
      go_wp2_with fail
      go_loopg [11, 12] L (fun g s11 s12 wr => ∃ (k2 : Nat) (v11 : Value), k2 ≤ L ∧ L - k2 ≤ g ∧ v11 = s11 ∧ s12 = .int .i64 (k2 : Int) ∧ Hid (∀ (j : Nat) (y : Sg), j < k2 → p[j]? = some y → decide ((2 : Int) = y.k) = true) ∧ Hid (InsI w1 v11 (List.replicate m x ++ flat (p.take k2)) wr))
      case atStart => exact ⟨0, _, by omega, by omega, rfl, rfl, HA1, HS1⟩
      case round =>
        clear HS1 HA1
        obtain ⟨k2, v11, hk2l, hkg, rfl, rfl, HA, HS⟩ := hrel
        generalize wr = wz at *
        by_cases hlt : k2 < L
        · obtain ⟨s, hs⟩ : ∃ s, p[k2]? = some s := ⟨_, List.getElem?_eq_getElem (by have := HL.out; omega)⟩
          have HSS := Lib.hid hs
          have HFT := Lib.hid (flat_take hs)
          obtain ⟨b, off, u, rfl, hbb, c0, c1, hu⟩ := HCC.out k2 s hs
          have d0 := carry (below_then HB1.out HS.out.2) c0
          have d1 := carry (below_then HB1.out HS.out.2) c1
          have i2 : decide ((k2 : Int) < (L : Int)) = true := decide_eq_true (by omega)
          have i3 : (k2 : Int) < (L : Int) := by omega
          have i4 : (0 : Int) ≤ (k2 : Int) := by omega
          by_cases hkd : s.k = 2
          · have e1 : (s.k == 2) = true := by simpa using hkd
            have HU := Lib.hid (hu.below (below_then HB1.out HS.out.2))
            have hle : (List.replicate m x ++ flat (p.take k2)).length + s.as.length ≤ 2000000 := by
              rw [List.length_append, List.length_replicate]
              have h8 := flat_take_le p (k2 + 1)
              rw [HFT.out, List.length_append] at h8
              have := HLF.out; omega
            have HA2 : Hid (∀ (j : Nat) (y : Sg), j < k2 + 1 → p[j]? = some y → decide ((2 : Int) = y.k) = true) := fun j y hj hy => by
              by_cases e : j = k2
              · subst e; have := HSS.out; rw [hy] at this; cases this; exact decide_eq_true hkd.symm
              · exact HA.out j y (by omega) hy
            have HPA : Hid (List.replicate m x ++ flat (p.take (k2 + 1)) = List.replicate m x ++ flat (p.take k2) ++ s.as) := by show _ = _; rw [HFT.out, List.append_assoc]
            obtain ⟨uad, ucap, hff⟩ := hu.form
            subst hff
            obtain ⟨pre, hpre⟩ : ∃ pre, List.replicate m x ++ flat (p.take k2) = pre := ⟨_, rfl⟩
            rw [hpre] at HPA hle HS
            obtain ⟨ns, hns⟩ : ∃ ns, s.as = ns := ⟨_, rfl⟩
            rw [hns] at HPA hle HU d1
            obtain ⟨LL, hLL⟩ : ∃ LL, ns.length = LL := ⟨_, rfl⟩
            rw [hLL] at HU d1
            clear HA HSS hs c0 c1 hu hpre hns hLL HFT hkd
            go_wp2_with (at_builtin; refine append_rdI rfl (.tmp 78) (.tmp 83) rfl w1.heap.size HS.out.2.size _ pre rfl HS.out.1 _ ns rfl HU.out hle ?_; intro v2 w2 hown hb; have S2 : Hid (InsI w1 v2 (pre ++ ns) w2) := ⟨hown, HS.out.2.trans hb⟩; clear hown hb)
            go_roundg (L - (k2 + 1))
            case measure => omega
            case rel => exact ⟨k2 + 1, _, by omega, Nat.le_refl _, rfl, by go_num, HA2, by unfold Hid; rw [HPA.out]; exact S2.out⟩
          · have e1 : (s.k == 2) = false := by simpa using hkd
            have HEX : Hid (∀ y, p[k2]? = some y → decide ((2 : Int) = y.k) = false) := fun y hy => by have := HSS.out; rw [hy] at this; cases this; exact decide_eq_false fun e => hkd e.symm
            clear hs c0 c1 hu HFT HSS hkd hkg
            have HTK : Hid (prpL p 2 x m = List.replicate m x ++ flat (p.take k2)) := by show _ = _; unfold prpL; rw [takeWhile_take HA.out HEX.out]
            have HDK : Hid ((p.dropWhile fun s => decide ((2 : Int) = s.k)) = p.drop k2) := dropWhile_drop HA.out HEX.out
            have hkl : k2 ≤ p.length := by rw [HL.out]; exact hk2l
            have hPL : (prpL p 2 x m).length ≤ 2000000 := by
              rw [HTK.out, List.length_append, List.length_replicate]
              have := flat_take_le p k2; have := HLF.out; omega
            have HSQ := Lib.hid (rseqs_any 2 (prpL p 2 x m) v11 wz (by rw [HTK.out]; exact HS.out.1.rd) hPL)
            have hSL : (seqs 2 (prpL p 2 x m)).length ≤ 1000000 := Nat.le_trans (seqs_len0 2 _ _ rfl) (by
              rw [HTK.out, List.length_append, List.length_replicate]
              have := flat_take_le p k2; have := HLF.out; omega)
            have HSL := Lib.hid hSL
            have HBZ := Lib.hid (below_then HB1.out HS.out.2)
            have HFZ := Lib.hid HS.out.1.rd.form
            obtain ⟨a11, c11, hf11⟩ := HFZ.out
            subst hf11
            generalize (List.replicate m x ++ flat (p.take k2)).length = L11 at *
            clear HA HEX HS hPL hSL HFZ
            have j0 : (0 : Int) ≤ (k2 : Int) := by omega
            have j1 : (k2 : Int) ≤ (L : Int) := by omega
            go_wp2_with fail
            go_at_call 58
            refine HSQ.out.mono ?_
            rintro e w3 ⟨v3, rfl, ho3, hb3⟩
            have HO3 := Lib.hid ho3
            have HB3 := Lib.hid (below_then HBZ.out hb3)
            have HBS := Lib.hid hb3
            clear ho3 hb3 HSQ
            have hd : RdS w3 (.slice (some ⟨b, off + k2 * 2, none⟩) (L - k2) (cap - k2)) (p.drop k2) := (HV.out _ HB3.out).drop k2 hkl (L - k2) (by rw [HL.out]) (cap - k2) (by omega) (by have := h2.1; omega)
            have hdl : (p.drop k2).length ≤ 900000 ∧ (flat (p.drop k2)).length ≤ 900000 := by
              have e9 : (flat p).length = (flat (p.take k2)).length + (flat (p.drop k2)).length := by conv => lhs; rw [← List.take_append_drop k2 p, flat_app, List.length_append]
              rw [List.length_drop]
              have := HLF.out; have := HL.out; omega
            have HCL := Lib.hid (rcloneF_any (p.drop k2) _ w3 (by omega) (by omega) hd)
            have HDL := Lib.hid hdl
            obtain ⟨a3, c3, hf3⟩ := HO3.out.rd.form
            subst hf3
            clear hd hdl
            go_wp2_with fail
            go_at_call 52
            refine HCL.out.mono ?_
            rintro e w4 ⟨v4, rfl, hf4, hb4⟩
            have HB4 := Lib.hid (below_then HB3.out hb4)
            have H1 : Hid (OwnP wz.heap.size w4 (.slice a3 (seqs 2 (prpL p 2 x m)).length c3) (seqs 2 (prpL p 2 x m))) := HO3.out.below hb4
            have H2 := Lib.hid hf4
            have H3 : Hid (∀ g, (Value.slice a3 (seqs 2 (prpL p 2 x m)).length c3).ownBlock = some g → g < w3.heap.size) := fun g hg => by
              rcases HO3.out.2 with ⟨e, _⟩ | ⟨g', cap', q', e, ho, _⟩
              · rw [e] at hg; cases hg
              · rw [e] at hg; cases hg; exact (ownsRow_lt (HO3.out.2.elim (fun h => by rw [e] at h; cases h.1) (fun _ => e ▸ ho))).2
            have H4 : Hid ((seqs 2 (prpL p 2 x m)).length + (p.drop k2).length ≤ 2000000) := by have := HSL.out; have := HDL.out.1; show _ ≤ _; omega
            have H5 : Hid (wz.heap.size ≤ w4.heap.size) := H1.out.1
            clear hf4 hb4 HCL
            obtain ⟨NN, hNN⟩ : ∃ NN, (seqs 2 (prpL p 2 x m) ++ p.drop k2).length = NN := ⟨_, rfl⟩
            have HNN := Lib.hid hNN
            have HPP : Hid (prp p 2 x m = seqs 2 (prpL p 2 x m) ++ p.drop k2) := by show _ = _; unfold prp; rw [HDK.out]
            have HF3 : Hid (prpF p 2 x (m : Int) = if 64 < NN then ([], 4) else (prp p 2 x m, 0)) := by
              have e7 := HZ.out
              rw [show ((m : Int)).toNat = m from rfl] at e7
              show _ = _; rw [e7, HPP.out, HNN.out]
            have HBW : Hid (∀ W, Below wz.heap.size w4 W → Below w.heap.size w W) := fun W hW => HB4.out.trans (hW.mono HBZ.out.size)
            clear hNN HB1 HB3 HO3 HSL HZ
            by_cases h64 : 64 < NN
            · have k1 : decide ((64 : Int) < (NN : Int)) = true := decide_eq_true (by omega)
              have HQ2 : Hid (prpF p 2 x (m : Int) = ([], 4)) := by show _ = _; rw [HF3.out, if_pos h64]
              clear HF3
              go_wp2_with (at_builtin; refine append_segs rfl (.tmp 90) (.tmp 94) rfl wz.heap.size H5.out _ (seqs 2 (prpL p 2 x m)) rfl H1.out v4 (p.drop k2) rfl w3.heap.size H2.out H3.out H4.out ?_; intro v8 w8 ho8 hb8; obtain ⟨a8, c8, hf8⟩ := ho8.rd.form; rw [HNN.out] at hf8; subst hf8; have HO8 := Lib.hid ho8; have HB9 := Lib.hid (HBW.out _ hb8); clear ho8 hb8)
              go_ret2
              exact ⟨_, by rw [HQ2.out] <;> rfl, by rw [HQ2.out]; exact rds_nil _, HB9.out⟩
            · have k1 : decide ((64 : Int) < (NN : Int)) = false := decide_eq_false (by omega)
              have HQ2 : Hid (prpF p 2 x (m : Int) = (prp p 2 x m, 0)) := by show _ = _; rw [HF3.out, if_neg h64]
              clear HF3
              go_wp2_with (at_builtin; refine append_segs rfl (.tmp 90) (.tmp 94) rfl wz.heap.size H5.out _ (seqs 2 (prpL p 2 x m)) rfl H1.out v4 (p.drop k2) rfl w3.heap.size H2.out H3.out H4.out ?_; intro v8 w8 ho8 hb8; obtain ⟨a8, c8, hf8⟩ := ho8.rd.form; rw [HNN.out] at hf8; subst hf8; have HO8 := Lib.hid ho8; have HB9 := Lib.hid (HBW.out _ hb8); clear ho8 hb8)
              go_ret2
              exact ⟨_, by rw [HQ2.out] <;> rfl, by rw [HQ2.out, HPP.out]; exact HO8.out.rd, HB9.out⟩
        · have i2 : decide ((k2 : Int) < (L : Int)) = false := decide_eq_false (by omega)
          have HEX : Hid (∀ y, p[k2]? = some y → decide ((2 : Int) = y.k) = false) := fun y hy => by have := (List.getElem?_eq_some_iff.1 hy).1; have := HL.out; omega
          clear hkg
          have HTK : Hid (prpL p 2 x m = List.replicate m x ++ flat (p.take k2)) := by show _ = _; unfold prpL; rw [takeWhile_take HA.out HEX.out]
          have HDK : Hid ((p.dropWhile fun s => decide ((2 : Int) = s.k)) = p.drop k2) := dropWhile_drop HA.out HEX.out
          have hkl : k2 ≤ p.length := by rw [HL.out]; exact hk2l
          have hPL : (prpL p 2 x m).length ≤ 2000000 := by
            rw [HTK.out, List.length_append, List.length_replicate]
            have := flat_take_le p k2; have := HLF.out; omega
          have HSQ := Lib.hid (rseqs_any 2 (prpL p 2 x m) v11 wz (by rw [HTK.out]; exact HS.out.1.rd) hPL)
          have hSL : (seqs 2 (prpL p 2 x m)).length ≤ 1000000 := Nat.le_trans (seqs_len0 2 _ _ rfl) (by
            rw [HTK.out, List.length_append, List.length_replicate]
            have := flat_take_le p k2; have := HLF.out; omega)
          have HSL := Lib.hid hSL
          have HBZ := Lib.hid (below_then HB1.out HS.out.2)
          have HFZ := Lib.hid HS.out.1.rd.form
          obtain ⟨a11, c11, hf11⟩ := HFZ.out
          subst hf11
          generalize (List.replicate m x ++ flat (p.take k2)).length = L11 at *
          clear HA HEX HS hPL hSL HFZ
          have j0 : (0 : Int) ≤ (k2 : Int) := by omega
          have j1 : (k2 : Int) ≤ (L : Int) := by omega
          go_wp2_with fail
          go_at_call 58
          refine HSQ.out.mono ?_
          rintro e w3 ⟨v3, rfl, ho3, hb3⟩
          have HO3 := Lib.hid ho3
          have HB3 := Lib.hid (below_then HBZ.out hb3)
          have HBS := Lib.hid hb3
          clear ho3 hb3 HSQ
          have hd := (HV.out _ HB3.out).dropIf hkl
          obtain ⟨B1, hif1⟩ : ∃ B1, (if cap = k2 then ad else Option.map (fun x => x.add (k2 * 2)) ad) = B1 := ⟨_, rfl⟩
          rw [hif1] at hd
          have hdl : (p.drop k2).length ≤ 900000 ∧ (flat (p.drop k2)).length ≤ 900000 := by
            have e9 : (flat p).length = (flat (p.take k2)).length + (flat (p.drop k2)).length := by conv => lhs; rw [← List.take_append_drop k2 p, flat_app, List.length_append]
            rw [List.length_drop]
            have := HLF.out; have := HL.out; omega
          have HCL := Lib.hid (rcloneF_any (p.drop k2) _ w3 (by omega) (by omega) hd)
          have HDL := Lib.hid hdl
          obtain ⟨a3, c3, hf3⟩ := HO3.out.rd.form
          subst hf3
          clear hd hdl
          go_wp2_with fail
          go_at_call 52
          refine HCL.out.mono ?_
          rintro e w4 ⟨v4, rfl, hf4, hb4⟩
          have HB4 := Lib.hid (below_then HB3.out hb4)
          have H1 : Hid (OwnP wz.heap.size w4 (.slice a3 (seqs 2 (prpL p 2 x m)).length c3) (seqs 2 (prpL p 2 x m))) := HO3.out.below hb4
          have H2 := Lib.hid hf4
          have H3 : Hid (∀ g, (Value.slice a3 (seqs 2 (prpL p 2 x m)).length c3).ownBlock = some g → g < w3.heap.size) := fun g hg => by
            rcases HO3.out.2 with ⟨e, _⟩ | ⟨g', cap', q', e, ho, _⟩
            · rw [e] at hg; cases hg
            · rw [e] at hg; cases hg; exact (ownsRow_lt (HO3.out.2.elim (fun h => by rw [e] at h; cases h.1) (fun _ => e ▸ ho))).2
          have H4 : Hid ((seqs 2 (prpL p 2 x m)).length + (p.drop k2).length ≤ 2000000) := by have := HSL.out; have := HDL.out.1; show _ ≤ _; omega
          have H5 : Hid (wz.heap.size ≤ w4.heap.size) := H1.out.1
          clear hf4 hb4 HCL
          obtain ⟨NN, hNN⟩ : ∃ NN, (seqs 2 (prpL p 2 x m) ++ p.drop k2).length = NN := ⟨_, rfl⟩
          have HNN := Lib.hid hNN
          have HPP : Hid (prp p 2 x m = seqs 2 (prpL p 2 x m) ++ p.drop k2) := by show _ = _; unfold prp; rw [HDK.out]
          have HF3 : Hid (prpF p 2 x (m : Int) = if 64 < NN then ([], 4) else (prp p 2 x m, 0)) := by
            have e7 := HZ.out
            rw [show ((m : Int)).toNat = m from rfl] at e7
            show _ = _; rw [e7, HPP.out, HNN.out]
          have HBW : Hid (∀ W, Below wz.heap.size w4 W → Below w.heap.size w W) := fun W hW => HB4.out.trans (hW.mono HBZ.out.size)
          clear hNN HB1 HB3 HO3 HSL HZ
          by_cases h64 : 64 < NN
          · have k1 : decide ((64 : Int) < (NN : Int)) = true := decide_eq_true (by omega)
            have HQ2 : Hid (prpF p 2 x (m : Int) = ([], 4)) := by show _ = _; rw [HF3.out, if_pos h64]
            clear HF3
            go_wp2_with (at_builtin; refine append_segs rfl (.tmp 90) (.tmp 94) rfl wz.heap.size H5.out _ (seqs 2 (prpL p 2 x m)) rfl H1.out v4 (p.drop k2) rfl w3.heap.size H2.out H3.out H4.out ?_; intro v8 w8 ho8 hb8; obtain ⟨a8, c8, hf8⟩ := ho8.rd.form; rw [HNN.out] at hf8; subst hf8; have HO8 := Lib.hid ho8; have HB9 := Lib.hid (HBW.out _ hb8); clear ho8 hb8)
            go_ret2
            exact ⟨_, by rw [HQ2.out] <;> rfl, by rw [HQ2.out]; exact rds_nil _, HB9.out⟩
          · have k1 : decide ((64 : Int) < (NN : Int)) = false := decide_eq_false (by omega)
            have HQ2 : Hid (prpF p 2 x (m : Int) = (prp p 2 x m, 0)) := by show _ = _; rw [HF3.out, if_neg h64]
            clear HF3
            go_wp2_with (at_builtin; refine append_segs rfl (.tmp 90) (.tmp 94) rfl wz.heap.size H5.out _ (seqs 2 (prpL p 2 x m)) rfl H1.out v4 (p.drop k2) rfl w3.heap.size H2.out H3.out H4.out ?_; intro v8 w8 ho8 hb8; obtain ⟨a8, c8, hf8⟩ := ho8.rd.form; rw [HNN.out] at hf8; subst hf8; have HO8 := Lib.hid ho8; have HB9 := Lib.hid (HBW.out _ hb8); clear ho8 hb8)
            go_ret2
            exact ⟨_, by rw [HQ2.out] <;> rfl, by rw [HQ2.out, HPP.out]; exact HO8.out.rd, HB9.out⟩
end
end Go.Proofs.YtiobfgcpbihbhaaGreatDoor
namespace Go.Proofs.YtiobfgcpbihbhaaGreatDoor
section
open Go.RowKit P
set_option linter.unusedSimpArgs false
set_option linter.unusedVariables false
set_option maxHeartbeats 1500000
set_option maxRecDepth 100000
theorem rprep_3a (p : List Sg) (v : Value) (x : Int) (m : Nat) (w : World) (hv : RdS w v p) (hl : p.length ≤ 900000) (hf : (flat p).length ≤ 900000) (hq : chk p = 0) (hr : ¬ (x < 1 ∨ 4294967295 < x ∨ (m : Int) < 0 ∨ 255 < (m : Int))) (hm0 : 0 < m) :
    Calls Tryz.prog 30 #[v, .int .i64 3, .int .i64 x, .int .i64 (m : Int)] w fun e w' => ∃ v', e = .returned (.tuple #[v', .int .i64 (prpF p 3 x (m : Int)).2]) ∧ RdS w' v' (prpF p 3 x (m : Int)).1 ∧ Below w.heap.size w w' := by
  have HC := Lib.hid (rcheck_any p v w hv)
  have HV : Hid (∀ W, Below w.heap.size w W → RdS W v p) := fun W hW => hv.below hW
  have HLF := Lib.hid hf
  obtain ⟨ad, cap, rfl, h1, h2, hc⟩ := hv
  have HCC := Lib.hid hc
  obtain ⟨L, hL⟩ : ∃ L, p.length = L := ⟨_, rfl⟩
  rw [hL] at h1 hl HV HC ⊢
  have HL := Lib.hid hL
  rw [hq] at HC
  have HQ := Lib.hid hq
  have e1 : decide (x < 1) = false := decide_eq_false (by omega)
  have e2 : decide (4294967295 < x) = false := decide_eq_false (by omega)
  have e3 : decide ((m : Int) < 0) = false := decide_eq_false (by omega)
  have e4 : decide (255 < (m : Int)) = false := decide_eq_false (by omega)
  have hm : m ≤ 255 := by omega
  have HR := Lib.hid hr
  clear hr
  clear hc hL hq hf
  go_enter Tryz.func30, Tryz.ntmps30
  go_wp2_with fail
  go_at_call 14
  refine HC.out.mono ?_
  rintro e w1 ⟨rfl, hb⟩
  have HB1 := Lib.hid hb
  clear hb HC
  have m1 : decide ((0 : Int) < (m : Int)) = true := decide_eq_true (by omega)
  have hcf : ¬ ((0 : Int) < (m : Int) ∧ (3 : Int) = 2 ∧ confB p = true) := fun h => by omega
  have HZ := Lib.hid (prpF_ok (x := x) (n := (m : Int)) HQ.out (show (3 : Int) = 2 ∨ (3 : Int) = 3 by omega) HR.out hcf)
  clear HR hcf
  have HS0 : Hid (InsI w1 (.slice none 0 0) (List.replicate 0 x) w1) := InsI.start w1
  go_wp2_with fail
  clear e1 e2 e3 e4 m1 hm0
  go_loopg [11, 58] m (fun g s11 s58 wr => ∃ (k : Nat) (v10 : Value), k ≤ m ∧ m - k ≤ g ∧ v10 = s11 ∧ s58 = .int .i64 (k : Int) ∧ Hid (InsI w1 v10 (List.replicate k x) wr))
  case atStart => exact ⟨0, _, by omega, by omega, rfl, rfl, HS0⟩
  case round =>
    clear HS0
    obtain ⟨k, v10, hk, hkg, rfl, rfl, HS⟩ := hrel
    by_cases hlt : k < m
    · have i1 : decide ((k : Int) < (m : Int)) = true := decide_eq_true (by omega)
      have HA : Hid (InsI w1 _ (List.replicate k x) (wr.alloc (.cells #[.int .i64 x] 3))) := HS.out.below (below_alloc _ _)
      have HUA : Hid (RdI (wr.alloc (.cells #[.int .i64 x] 3)) (.slice (some ⟨wr.heap.size, 0, none⟩) 1 1) [x]) := rdi_at _ [x] 3 _ rfl _ rfl _ rfl (by simp)
      have hle : (List.replicate k x).length + [x].length ≤ 2000000 := by rw [List.length_replicate]; simp; omega
      have HRE : Hid (List.replicate (k + 1) x = List.replicate k x ++ [x]) := List.replicate_succ'
      clear HS
      go_wp2_with (at_builtin; refine append_rdI rfl (.tmp 60) (.tmp 62) rfl w1.heap.size HA.out.2.size _ (List.replicate k x) rfl HA.out.1 _ [x] rfl HUA.out hle ?_; intro v2 w2 hown hb; have S2 : Hid (InsI w1 v2 (List.replicate (k + 1) x) w2) := (by show InsI _ _ _ _; rw [HRE.out]; exact ⟨hown, HA.out.2.trans hb⟩); clear hown hb)
      go_roundg (m - (k + 1))
      case measure => omega
      case rel => exact ⟨k + 1, _, by omega, Nat.le_refl _, rfl, by go_num, S2⟩
    · have i1 : decide ((k : Int) < (m : Int)) = false := decide_eq_false (by omega)
      have hkm : m = k := by omega
      subst hkm
      have HS1 : Hid (InsI w1 v10 (List.replicate m x ++ flat (p.take 0)) wr) := by show InsI _ _ _ _; rw [List.take_zero, show flat [] = [] from rfl, List.append_nil]; exact HS.out
      have HA1 : Hid (∀ (j : Nat) (y : Sg), j < 0 → p[j]? = some y → decide ((3 : Int) = y.k) = true) := fun j y h => by omega
      clear HS hlt hk hkg
      generalize wr = wy at *
      go_wp2_with fail
      go_loopg [11, 12] L (fun g s11 s12 wr => ∃ (k2 : Nat) (v11 : Value), k2 ≤ L ∧ L - k2 ≤ g ∧ v11 = s11 ∧ s12 = .int .i64 (k2 : Int) ∧ Hid (∀ (j : Nat) (y : Sg), j < k2 → p[j]? = some y → decide ((3 : Int) = y.k) = true) ∧ Hid (InsI w1 v11 (List.replicate m x ++ flat (p.take k2)) wr))
      case atStart => exact ⟨0, _, by omega, by omega, rfl, rfl, HA1, HS1⟩
      case round =>
        clear HS1 HA1
        obtain ⟨k2, v11, hk2l, hkg, rfl, rfl, HA, HS⟩ := hrel
        generalize wr = wz at *
        by_cases hlt : k2 < L
        · obtain ⟨s, hs⟩ : ∃ s, p[k2]? = some s := ⟨_, List.getElem?_eq_getElem (by have := HL.out; omega)⟩
          have HSS := Lib.hid hs
          have HFT := Lib.hid (flat_take hs)
          obtain ⟨b, off, u, rfl, hbb, c0, c1, hu⟩ := HCC.out k2 s hs
          have d0 := carry (below_then HB1.out HS.out.2) c0
          have d1 := carry (below_then HB1.out HS.out.2) c1
          have i2 : decide ((k2 : Int) < (L : Int)) = true := decide_eq_true (by omega)
          have i3 : (k2 : Int) < (L : Int) := by omega
          have i4 : (0 : Int) ≤ (k2 : Int) := by omega
          by_cases hkd : s.k = 3
          · have e1 : (s.k == 3) = true := by simpa using hkd
            have HU := Lib.hid (hu.below (below_then HB1.out HS.out.2))
            have hle : (List.replicate m x ++ flat (p.take k2)).length + s.as.length ≤ 2000000 := by
              rw [List.length_append, List.length_replicate]
              have h8 := flat_take_le p (k2 + 1)
              rw [HFT.out, List.length_append] at h8
              have := HLF.out; omega
            have HA2 : Hid (∀ (j : Nat) (y : Sg), j < k2 + 1 → p[j]? = some y → decide ((3 : Int) = y.k) = true) := fun j y hj hy => by
              by_cases e : j = k2
              · subst e; have := HSS.out; rw [hy] at this; cases this; exact decide_eq_true hkd.symm
              · exact HA.out j y (by omega) hy
            have HPA : Hid (List.replicate m x ++ flat (p.take (k2 + 1)) = List.replicate m x ++ flat (p.take k2) ++ s.as) := by show _ = _; rw [HFT.out, List.append_assoc]
            obtain ⟨uad, ucap, hff⟩ := hu.form
            subst hff
            obtain ⟨pre, hpre⟩ : ∃ pre, List.replicate m x ++ flat (p.take k2) = pre := ⟨_, rfl⟩
            rw [hpre] at HPA hle HS
            obtain ⟨ns, hns⟩ : ∃ ns, s.as = ns := ⟨_, rfl⟩
            rw [hns] at HPA hle HU d1
            obtain ⟨LL, hLL⟩ : ∃ LL, ns.length = LL := ⟨_, rfl⟩
            rw [hLL] at HU d1
            clear HA HSS hs c0 c1 hu hpre hns hLL HFT hkd
            go_wp2_with (at_builtin; refine append_rdI rfl (.tmp 78) (.tmp 83) rfl w1.heap.size HS.out.2.size _ pre rfl HS.out.1 _ ns rfl HU.out hle ?_; intro v2 w2 hown hb; have S2 : Hid (InsI w1 v2 (pre ++ ns) w2) := ⟨hown, HS.out.2.trans hb⟩; clear hown hb)
            go_roundg (L - (k2 + 1))
            case measure => omega
            case rel => exact ⟨k2 + 1, _, by omega, Nat.le_refl _, rfl, by go_num, HA2, by unfold Hid; rw [HPA.out]; exact S2.out⟩
          · have e1 : (s.k == 3) = false := by simpa using hkd
            have HEX : Hid (∀ y, p[k2]? = some y → decide ((3 : Int) = y.k) = false) := fun y hy => by have := HSS.out; rw [hy] at this; cases this; exact decide_eq_false fun e => hkd e.symm
            clear hs c0 c1 hu HFT HSS hkd hkg
            have HTK : Hid (prpL p 3 x m = List.replicate m x ++ flat (p.take k2)) := by show _ = _; unfold prpL; rw [takeWhile_take HA.out HEX.out]
            have HDK : Hid ((p.dropWhile fun s => decide ((3 : Int) = s.k)) = p.drop k2) := dropWhile_drop HA.out HEX.out
            have hkl : k2 ≤ p.length := by rw [HL.out]; exact hk2l
            have hPL : (prpL p 3 x m).length ≤ 2000000 := by
              rw [HTK.out, List.length_append, List.length_replicate]
              have := flat_take_le p k2; have := HLF.out; omega
            have HSQ := Lib.hid (rseqs_any 3 (prpL p 3 x m) v11 wz (by rw [HTK.out]; exact HS.out.1.rd) hPL)
            have hSL : (seqs 3 (prpL p 3 x m)).length ≤ 1000000 := Nat.le_trans (seqs_len0 3 _ _ rfl) (by
              rw [HTK.out, List.length_append, List.length_replicate]
              have := flat_take_le p k2; have := HLF.out; omega)
            have HSL := Lib.hid hSL
            have HBZ := Lib.hid (below_then HB1.out HS.out.2)
            have HFZ := Lib.hid HS.out.1.rd.form
            obtain ⟨a11, c11, hf11⟩ := HFZ.out
            subst hf11
            generalize (List.replicate m x ++ flat (p.take k2)).length = L11 at *
            clear HA HEX HS hPL hSL HFZ
            have j0 : (0 : Int) ≤ (k2 : Int) := by omega
            have j1 : (k2 : Int) ≤ (L : Int) := by omega
            go_wp2_with fail
            go_at_call 58
            refine HSQ.out.mono ?_
            rintro e w3 ⟨v3, rfl, ho3, hb3⟩
            have HO3 := Lib.hid ho3
            have HB3 := Lib.hid (below_then HBZ.out hb3)
            have HBS := Lib.hid hb3
            clear ho3 hb3 HSQ
            have hd : RdS w3 (.slice (some ⟨b, off + k2 * 2, none⟩) (L - k2) (cap - k2)) (p.drop k2) := (HV.out _ HB3.out).drop k2 hkl (L - k2) (by rw [HL.out]) (cap - k2) (by omega) (by have := h2.1; omega)
            have hdl : (p.drop k2).length ≤ 900000 ∧ (flat (p.drop k2)).length ≤ 900000 := by
              have e9 : (flat p).length = (flat (p.take k2)).length + (flat (p.drop k2)).length := by conv => lhs; rw [← List.take_append_drop k2 p, flat_app, List.length_append]
              rw [List.length_drop]
              have := HLF.out; have := HL.out; omega
            have HCL := Lib.hid (rcloneF_any (p.drop k2) _ w3 (by omega) (by omega) hd)
            have HDL := Lib.hid hdl
            obtain ⟨a3, c3, hf3⟩ := HO3.out.rd.form
            subst hf3
            clear hd hdl
            go_wp2_with fail
            go_at_call 52
            refine HCL.out.mono ?_
            rintro e w4 ⟨v4, rfl, hf4, hb4⟩
            have HB4 := Lib.hid (below_then HB3.out hb4)
            have H1 : Hid (OwnP wz.heap.size w4 (.slice a3 (seqs 3 (prpL p 3 x m)).length c3) (seqs 3 (prpL p 3 x m))) := HO3.out.below hb4
            have H2 := Lib.hid hf4
            have H3 : Hid (∀ g, (Value.slice a3 (seqs 3 (prpL p 3 x m)).length c3).ownBlock = some g → g < w3.heap.size) := fun g hg => by
              rcases HO3.out.2 with ⟨e, _⟩ | ⟨g', cap', q', e, ho, _⟩
              · rw [e] at hg; cases hg
              · rw [e] at hg; cases hg; exact (ownsRow_lt (HO3.out.2.elim (fun h => by rw [e] at h; cases h.1) (fun _ => e ▸ ho))).2
            have H4 : Hid ((seqs 3 (prpL p 3 x m)).length + (p.drop k2).length ≤ 2000000) := by have := HSL.out; have := HDL.out.1; show _ ≤ _; omega
            have H5 : Hid (wz.heap.size ≤ w4.heap.size) := H1.out.1
            clear hf4 hb4 HCL
            obtain ⟨NN, hNN⟩ : ∃ NN, (seqs 3 (prpL p 3 x m) ++ p.drop k2).length = NN := ⟨_, rfl⟩
            have HNN := Lib.hid hNN
            have HPP : Hid (prp p 3 x m = seqs 3 (prpL p 3 x m) ++ p.drop k2) := by show _ = _; unfold prp; rw [HDK.out]
            have HF3 : Hid (prpF p 3 x (m : Int) = if 64 < NN then ([], 4) else (prp p 3 x m, 0)) := by
              have e7 := HZ.out
              rw [show ((m : Int)).toNat = m from rfl] at e7
              show _ = _; rw [e7, HPP.out, HNN.out]
            have HBW : Hid (∀ W, Below wz.heap.size w4 W → Below w.heap.size w W) := fun W hW => HB4.out.trans (hW.mono HBZ.out.size)
            clear hNN HB1 HB3 HO3 HSL HZ
            by_cases h64 : 64 < NN
            · have k1 : decide ((64 : Int) < (NN : Int)) = true := decide_eq_true (by omega)
              have HQ2 : Hid (prpF p 3 x (m : Int) = ([], 4)) := by show _ = _; rw [HF3.out, if_pos h64]
              clear HF3
              go_wp2_with (at_builtin; refine append_segs rfl (.tmp 90) (.tmp 94) rfl wz.heap.size H5.out _ (seqs 3 (prpL p 3 x m)) rfl H1.out v4 (p.drop k2) rfl w3.heap.size H2.out H3.out H4.out ?_; intro v8 w8 ho8 hb8; obtain ⟨a8, c8, hf8⟩ := ho8.rd.form; rw [HNN.out] at hf8; subst hf8; have HO8 := Lib.hid ho8; have HB9 := Lib.hid (HBW.out _ hb8); clear ho8 hb8)
              go_ret2
              exact ⟨_, by rw [HQ2.out] <;> rfl, by rw [HQ2.out]; exact rds_nil _, HB9.out⟩
            · have k1 : decide ((64 : Int) < (NN : Int)) = false := decide_eq_false (by omega)
              have HQ2 : Hid (prpF p 3 x (m : Int) = (prp p 3 x m, 0)) := by show _ = _; rw [HF3.out, if_neg h64]
              clear HF3
              go_wp2_with (at_builtin; refine append_segs rfl (.tmp 90) (.tmp 94) rfl wz.heap.size H5.out _ (seqs 3 (prpL p 3 x m)) rfl H1.out v4 (p.drop k2) rfl w3.heap.size H2.out H3.out H4.out ?_; intro v8 w8 ho8 hb8; obtain ⟨a8, c8, hf8⟩ := ho8.rd.form; rw [HNN.out] at hf8; subst hf8; have HO8 := Lib.hid ho8; have HB9 := Lib.hid (HBW.out _ hb8); clear ho8 hb8)
              go_ret2
              exact ⟨_, by rw [HQ2.out] <;> rfl, by rw [HQ2.out, HPP.out]; exact HO8.out.rd, HB9.out⟩
        · have i2 : decide ((k2 : Int) < (L : Int)) = false := decide_eq_false (by omega)
          have HEX : Hid (∀ y, p[k2]? = some y → decide ((3 : Int) = y.k) = false) := fun y hy => by have := (List.getElem?_eq_some_iff.1 hy).1; have := HL.out; omega
          clear hkg
          have HTK : Hid (prpL p 3 x m = List.replicate m x ++ flat (p.take k2)) := by show _ = _; unfold prpL; rw [takeWhile_take HA.out HEX.out]
          have HDK : Hid ((p.dropWhile fun s => decide ((3 : Int) = s.k)) = p.drop k2) := dropWhile_drop HA.out HEX.out
          have hkl : k2 ≤ p.length := by rw [HL.out]; exact hk2l
          have hPL : (prpL p 3 x m).length ≤ 2000000 := by
            rw [HTK.out, List.length_append, List.length_replicate]
            have := flat_take_le p k2; have := HLF.out; omega
          have HSQ := Lib.hid (rseqs_any 3 (prpL p 3 x m) v11 wz (by rw [HTK.out]; exact HS.out.1.rd) hPL)
          have hSL : (seqs 3 (prpL p 3 x m)).length ≤ 1000000 := Nat.le_trans (seqs_len0 3 _ _ rfl) (by
            rw [HTK.out, List.length_append, List.length_replicate]
            have := flat_take_le p k2; have := HLF.out; omega)
          have HSL := Lib.hid hSL
          have HBZ := Lib.hid (below_then HB1.out HS.out.2)
          have HFZ := Lib.hid HS.out.1.rd.form
          obtain ⟨a11, c11, hf11⟩ := HFZ.out
          subst hf11
          generalize (List.replicate m x ++ flat (p.take k2)).length = L11 at *
          clear HA HEX HS hPL hSL HFZ
          have j0 : (0 : Int) ≤ (k2 : Int) := by omega
          have j1 : (k2 : Int) ≤ (L : Int) := by omega
          go_wp2_with fail
          go_at_call 58
          refine HSQ.out.mono ?_
          rintro e w3 ⟨v3, rfl, ho3, hb3⟩
          have HO3 := Lib.hid ho3
          have HB3 := Lib.hid (below_then HBZ.out hb3)
          have HBS := Lib.hid hb3
          clear ho3 hb3 HSQ
          have hd := (HV.out _ HB3.out).dropIf hkl
          obtain ⟨B1, hif1⟩ : ∃ B1, (if cap = k2 then ad else Option.map (fun x => x.add (k2 * 2)) ad) = B1 := ⟨_, rfl⟩
          rw [hif1] at hd
          have hdl : (p.drop k2).length ≤ 900000 ∧ (flat (p.drop k2)).length ≤ 900000 := by
            have e9 : (flat p).length = (flat (p.take k2)).length + (flat (p.drop k2)).length := by conv => lhs; rw [← List.take_append_drop k2 p, flat_app, List.length_append]
            rw [List.length_drop]
            have := HLF.out; have := HL.out; omega
          have HCL := Lib.hid (rcloneF_any (p.drop k2) _ w3 (by omega) (by omega) hd)
          have HDL := Lib.hid hdl
          obtain ⟨a3, c3, hf3⟩ := HO3.out.rd.form
          subst hf3
          clear hd hdl
          go_wp2_with fail
          go_at_call 52
          refine HCL.out.mono ?_
          rintro e w4 ⟨v4, rfl, hf4, hb4⟩
          have HB4 := Lib.hid (below_then HB3.out hb4)
          have H1 : Hid (OwnP wz.heap.size w4 (.slice a3 (seqs 3 (prpL p 3 x m)).length c3) (seqs 3 (prpL p 3 x m))) := HO3.out.below hb4
          have H2 := Lib.hid hf4
          have H3 : Hid (∀ g, (Value.slice a3 (seqs 3 (prpL p 3 x m)).length c3).ownBlock = some g → g < w3.heap.size) := fun g hg => by
            rcases HO3.out.2 with ⟨e, _⟩ | ⟨g', cap', q', e, ho, _⟩
            · rw [e] at hg; cases hg
            · rw [e] at hg; cases hg; exact (ownsRow_lt (HO3.out.2.elim (fun h => by rw [e] at h; cases h.1) (fun _ => e ▸ ho))).2
          have H4 : Hid ((seqs 3 (prpL p 3 x m)).length + (p.drop k2).length ≤ 2000000) := by have := HSL.out; have := HDL.out.1; show _ ≤ _; omega
          have H5 : Hid (wz.heap.size ≤ w4.heap.size) := H1.out.1
          clear hf4 hb4 HCL
          obtain ⟨NN, hNN⟩ : ∃ NN, (seqs 3 (prpL p 3 x m) ++ p.drop k2).length = NN := ⟨_, rfl⟩
          have HNN := Lib.hid hNN
          have HPP : Hid (prp p 3 x m = seqs 3 (prpL p 3 x m) ++ p.drop k2) := by show _ = _; unfold prp; rw [HDK.out]
          have HF3 : Hid (prpF p 3 x (m : Int) = if 64 < NN then ([], 4) else (prp p 3 x m, 0)) := by
            have e7 := HZ.out
            rw [show ((m : Int)).toNat = m from rfl] at e7
            show _ = _; rw [e7, HPP.out, HNN.out]
          have HBW : Hid (∀ W, Below wz.heap.size w4 W → Below w.heap.size w W) := fun W hW => HB4.out.trans (hW.mono HBZ.out.size)
          clear hNN HB1 HB3 HO3 HSL HZ
          by_cases h64 : 64 < NN
          · have k1 : decide ((64 : Int) < (NN : Int)) = true := decide_eq_true (by omega)
            have HQ2 : Hid (prpF p 3 x (m : Int) = ([], 4)) := by show _ = _; rw [HF3.out, if_pos h64]
            clear HF3
            go_wp2_with (at_builtin; refine append_segs rfl (.tmp 90) (.tmp 94) rfl wz.heap.size H5.out _ (seqs 3 (prpL p 3 x m)) rfl H1.out v4 (p.drop k2) rfl w3.heap.size H2.out H3.out H4.out ?_; intro v8 w8 ho8 hb8; obtain ⟨a8, c8, hf8⟩ := ho8.rd.form; rw [HNN.out] at hf8; subst hf8; have HO8 := Lib.hid ho8; have HB9 := Lib.hid (HBW.out _ hb8); clear ho8 hb8)
            go_ret2
            exact ⟨_, by rw [HQ2.out] <;> rfl, by rw [HQ2.out]; exact rds_nil _, HB9.out⟩
          · have k1 : decide ((64 : Int) < (NN : Int)) = false := decide_eq_false (by omega)
            have HQ2 : Hid (prpF p 3 x (m : Int) = (prp p 3 x m, 0)) := by show _ = _; rw [HF3.out, if_neg h64]
            clear HF3
            go_wp2_with (at_builtin; refine append_segs rfl (.tmp 90) (.tmp 94) rfl wz.heap.size H5.out _ (seqs 3 (prpL p 3 x m)) rfl H1.out v4 (p.drop k2) rfl w3.heap.size H2.out H3.out H4.out ?_; intro v8 w8 ho8 hb8; obtain ⟨a8, c8, hf8⟩ := ho8.rd.form; rw [HNN.out] at hf8; subst hf8; have HO8 := Lib.hid ho8; have HB9 := Lib.hid (HBW.out _ hb8); clear ho8 hb8)
            go_ret2
            exact ⟨_, by rw [HQ2.out] <;> rfl, by rw [HQ2.out, HPP.out]; exact HO8.out.rd, HB9.out⟩
end
end Go.Proofs.YtiobfgcpbihbhaaGreatDoor
namespace Go.Proofs.YtiobfgcpbihbhaaGreatDoor
section
open Go.RowKit P
set_option linter.unusedSimpArgs false
set_option linter.unusedVariables false
set_option maxHeartbeats 1500000
set_option maxRecDepth 100000
theorem rprep_3b (p : List Sg) (v : Value) (x : Int) (m : Nat) (w : World) (hv : RdS w v p) (hl : p.length ≤ 900000) (hf : (flat p).length ≤ 900000) (hq : chk p = 0) (hr : ¬ (x < 1 ∨ 4294967295 < x ∨ (m : Int) < 0 ∨ 255 < (m : Int))) (hm0 : ¬ 0 < m) :
    Calls Tryz.prog 30 #[v, .int .i64 3, .int .i64 x, .int .i64 (m : Int)] w fun e w' => ∃ v', e = .returned (.tuple #[v', .int .i64 (prpF p 3 x (m : Int)).2]) ∧ RdS w' v' (prpF p 3 x (m : Int)).1 ∧ Below w.heap.size w w' := by
  have HC := Lib.hid (rcheck_any p v w hv)
  have HV : Hid (∀ W, Below w.heap.size w W → RdS W v p) := fun W hW => hv.below hW
  have HLF := Lib.hid hf
  obtain ⟨ad, cap, rfl, h1, h2, hc⟩ := hv
  have HCC := Lib.hid hc
  obtain ⟨L, hL⟩ : ∃ L, p.length = L := ⟨_, rfl⟩
  rw [hL] at h1 hl HV HC ⊢
  have HL := Lib.hid hL
  rw [hq] at HC
  have HQ := Lib.hid hq
  have e1 : decide (x < 1) = false := decide_eq_false (by omega)
  have e2 : decide (4294967295 < x) = false := decide_eq_false (by omega)
  have e3 : decide ((m : Int) < 0) = false := decide_eq_false (by omega)
  have e4 : decide (255 < (m : Int)) = false := decide_eq_false (by omega)
  have hm : m ≤ 255 := by omega
  have HR := Lib.hid hr
  clear hr
  clear hc hL hq hf
  go_enter Tryz.func30, Tryz.ntmps30
  go_wp2_with fail
  go_at_call 14
  refine HC.out.mono ?_
  rintro e w1 ⟨rfl, hb⟩
  have HB1 := Lib.hid hb
  clear hb HC
  have m1 : decide ((0 : Int) < (m : Int)) = false := decide_eq_false (by omega)
  have hcf : ¬ ((0 : Int) < (m : Int) ∧ (3 : Int) = 2 ∧ confB p = true) := fun h => by omega
  have HZ := Lib.hid (prpF_ok (x := x) (n := (m : Int)) HQ.out (show (3 : Int) = 2 ∨ (3 : Int) = 3 by omega) HR.out hcf)
  clear HR hcf
  have HS0 : Hid (InsI w1 (.slice none 0 0) (List.replicate 0 x) w1) := InsI.start w1
  go_wp2_with fail
  clear e1 e2 e3 e4 m1 hm0
  go_loopg [11, 58] m (fun g s11 s58 wr => ∃ (k : Nat) (v10 : Value), k ≤ m ∧ m - k ≤ g ∧ v10 = s11 ∧ s58 = .int .i64 (k : Int) ∧ Hid (InsI w1 v10 (List.replicate k x) wr))
  case atStart => exact ⟨0, _, by omega, by omega, rfl, rfl, HS0⟩
  case round =>
    clear HS0
    obtain ⟨k, v10, hk, hkg, rfl, rfl, HS⟩ := hrel
    by_cases hlt : k < m
    · have i1 : decide ((k : Int) < (m : Int)) = true := decide_eq_true (by omega)
      have HA : Hid (InsI w1 _ (List.replicate k x) (wr.alloc (.cells #[.int .i64 x] 3))) := HS.out.below (below_alloc _ _)
      have HUA : Hid (RdI (wr.alloc (.cells #[.int .i64 x] 3)) (.slice (some ⟨wr.heap.size, 0, none⟩) 1 1) [x]) := rdi_at _ [x] 3 _ rfl _ rfl _ rfl (by simp)
      have hle : (List.replicate k x).length + [x].length ≤ 2000000 := by rw [List.length_replicate]; simp; omega
      have HRE : Hid (List.replicate (k + 1) x = List.replicate k x ++ [x]) := List.replicate_succ'
      clear HS
      go_wp2_with (at_builtin; refine append_rdI rfl (.tmp 60) (.tmp 62) rfl w1.heap.size HA.out.2.size _ (List.replicate k x) rfl HA.out.1 _ [x] rfl HUA.out hle ?_; intro v2 w2 hown hb; have S2 : Hid (InsI w1 v2 (List.replicate (k + 1) x) w2) := (by show InsI _ _ _ _; rw [HRE.out]; exact ⟨hown, HA.out.2.trans hb⟩); clear hown hb)
      go_roundg (m - (k + 1))
      case measure => omega
      case rel => exact ⟨k + 1, _, by omega, Nat.le_refl _, rfl, by go_num, S2⟩
    · have i1 : decide ((k : Int) < (m : Int)) = false := decide_eq_false (by omega)
      have hkm : m = k := by omega
      subst hkm
      have HS1 : Hid (InsI w1 v10 (List.replicate m x ++ flat (p.take 0)) wr) := by show InsI _ _ _ _; rw [List.take_zero, show flat [] = [] from rfl, List.append_nil]; exact HS.out
      have HA1 : Hid (∀ (j : Nat) (y : Sg), j < 0 → p[j]? = some y → decide ((3 : Int) = y.k) = true) := fun j y h => by omega
      clear HS hlt hk hkg
      generalize wr = wy at *
      go_wp2_with fail
      go_loopg [11, 12] L (fun g s11 s12 wr => ∃ (k2 : Nat) (v11 : Value), k2 ≤ L ∧ L - k2 ≤ g ∧ v11 = s11 ∧ s12 = .int .i64 (k2 : Int) ∧ Hid (∀ (j : Nat) (y : Sg), j < k2 → p[j]? = some y → decide ((3 : Int) = y.k) = true) ∧ Hid (InsI w1 v11 (List.replicate m x ++ flat (p.take k2)) wr))
      case atStart => exact ⟨0, _, by omega, by omega, rfl, rfl, HA1, HS1⟩
      case round =>
        clear HS1 HA1
        obtain ⟨k2, v11, hk2l, hkg, rfl, rfl, HA, HS⟩ := hrel
        generalize wr = wz at *
        by_cases hlt : k2 < L
        · obtain ⟨s, hs⟩ : ∃ s, p[k2]? = some s := ⟨_, List.getElem?_eq_getElem (by have := HL.out; omega)⟩
          have HSS := Lib.hid hs
          have HFT := Lib.hid (flat_take hs)
          obtain ⟨b, off, u, rfl, hbb, c0, c1, hu⟩ := HCC.out k2 s hs
          have d0 := carry (below_then HB1.out HS.out.2) c0
          have d1 := carry (below_then HB1.out HS.out.2) c1
          have i2 : decide ((k2 : Int) < (L : Int)) = true := decide_eq_true (by omega)
          have i3 : (k2 : Int) < (L : Int) := by omega
          have i4 : (0 : Int) ≤ (k2 : Int) := by omega
          by_cases hkd : s.k = 3
          · have e1 : (s.k == 3) = true := by simpa using hkd
            have HU := Lib.hid (hu.below (below_then HB1.out HS.out.2))
            have hle : (List.replicate m x ++ flat (p.take k2)).length + s.as.length ≤ 2000000 := by
              rw [List.length_append, List.length_replicate]
              have h8 := flat_take_le p (k2 + 1)
              rw [HFT.out, List.length_append] at h8
              have := HLF.out; omega
            have HA2 : Hid (∀ (j : Nat) (y : Sg), j < k2 + 1 → p[j]? = some y → decide ((3 : Int) = y.k) = true) := fun j y hj hy => by
              by_cases e : j = k2
              · subst e; have := HSS.out; rw [hy] at this; cases this; exact decide_eq_true hkd.symm
              · exact HA.out j y (by omega) hy
            have HPA : Hid (List.replicate m x ++ flat (p.take (k2 + 1)) = List.replicate m x ++ flat (p.take k2) ++ s.as) := by show _ = _; rw [HFT.out, List.append_assoc]
            obtain ⟨uad, ucap, hff⟩ := hu.form
            subst hff
            obtain ⟨pre, hpre⟩ : ∃ pre, List.replicate m x ++ flat (p.take k2) = pre := ⟨_, rfl⟩
            rw [hpre] at HPA hle HS
            obtain ⟨ns, hns⟩ : ∃ ns, s.as = ns := ⟨_, rfl⟩
            rw [hns] at HPA hle HU d1
            obtain ⟨LL, hLL⟩ : ∃ LL, ns.length = LL := ⟨_, rfl⟩
            rw [hLL] at HU d1
            clear HA HSS hs c0 c1 hu hpre hns hLL HFT hkd
            go_wp2_with (at_builtin; refine append_rdI rfl (.tmp 78) (.tmp 83) rfl w1.heap.size HS.out.2.size _ pre rfl HS.out.1 _ ns rfl HU.out hle ?_; intro v2 w2 hown hb; have S2 : Hid (InsI w1 v2 (pre ++ ns) w2) := ⟨hown, HS.out.2.trans hb⟩; clear hown hb)
            go_roundg (L - (k2 + 1))
            case measure => omega
            case rel => exact ⟨k2 + 1, _, by omega, Nat.le_refl _, rfl, by go_num, HA2, by unfold Hid; rw [HPA.out]; exact S2.out⟩
          · have e1 : (s.k == 3) = false := by simpa using hkd
            have HEX : Hid (∀ y, p[k2]? = some y → decide ((3 : Int) = y.k) = false) := fun y hy => by have := HSS.out; rw [hy] at this; cases this; exact decide_eq_false fun e => hkd e.symm
            clear hs c0 c1 hu HFT HSS hkd hkg
            have HTK : Hid (prpL p 3 x m = List.replicate m x ++ flat (p.take k2)) := by show _ = _; unfold prpL; rw [takeWhile_take HA.out HEX.out]
            have HDK : Hid ((p.dropWhile fun s => decide ((3 : Int) = s.k)) = p.drop k2) := dropWhile_drop HA.out HEX.out
            have hkl : k2 ≤ p.length := by rw [HL.out]; exact hk2l
            have hPL : (prpL p 3 x m).length ≤ 2000000 := by
              rw [HTK.out, List.length_append, List.length_replicate]
              have := flat_take_le p k2; have := HLF.out; omega
            have HSQ := Lib.hid (rseqs_any 3 (prpL p 3 x m) v11 wz (by rw [HTK.out]; exact HS.out.1.rd) hPL)
            have hSL : (seqs 3 (prpL p 3 x m)).length ≤ 1000000 := Nat.le_trans (seqs_len0 3 _ _ rfl) (by
              rw [HTK.out, List.length_append, List.length_replicate]
              have := flat_take_le p k2; have := HLF.out; omega)
            have HSL := Lib.hid hSL
            have HBZ := Lib.hid (below_then HB1.out HS.out.2)
            have HFZ := Lib.hid HS.out.1.rd.form
            obtain ⟨a11, c11, hf11⟩ := HFZ.out
            subst hf11
            generalize (List.replicate m x ++ flat (p.take k2)).length = L11 at *
            clear HA HEX HS hPL hSL HFZ
            have j0 : (0 : Int) ≤ (k2 : Int) := by omega
            have j1 : (k2 : Int) ≤ (L : Int) := by omega
            go_wp2_with fail
            go_at_call 58
            refine HSQ.out.mono ?_
            rintro e w3 ⟨v3, rfl, ho3, hb3⟩
            have HO3 := Lib.hid ho3
            have HB3 := Lib.hid (below_then HBZ.out hb3)
            have HBS := Lib.hid hb3
            clear ho3 hb3 HSQ
            have hd : RdS w3 (.slice (some ⟨b, off + k2 * 2, none⟩) (L - k2) (cap - k2)) (p.drop k2) := (HV.out _ HB3.out).drop k2 hkl (L - k2) (by rw [HL.out]) (cap - k2) (by omega) (by have := h2.1; omega)
            have hdl : (p.drop k2).length ≤ 900000 ∧ (flat (p.drop k2)).length ≤ 900000 := by
              have e9 : (flat p).length = (flat (p.take k2)).length + (flat (p.drop k2)).length := by conv => lhs; rw [← List.take_append_drop k2 p, flat_app, List.length_append]
              rw [List.length_drop]
              have := HLF.out; have := HL.out; omega
            have HCL := Lib.hid (rcloneF_any (p.drop k2) _ w3 (by omega) (by omega) hd)
            have HDL := Lib.hid hdl
            obtain ⟨a3, c3, hf3⟩ := HO3.out.rd.form
            subst hf3
            clear hd hdl
            go_wp2_with fail
            go_at_call 52
            refine HCL.out.mono ?_
            rintro e w4 ⟨v4, rfl, hf4, hb4⟩
            have HB4 := Lib.hid (below_then HB3.out hb4)
            have H1 : Hid (OwnP wz.heap.size w4 (.slice a3 (seqs 3 (prpL p 3 x m)).length c3) (seqs 3 (prpL p 3 x m))) := HO3.out.below hb4
            have H2 := Lib.hid hf4
            have H3 : Hid (∀ g, (Value.slice a3 (seqs 3 (prpL p 3 x m)).length c3).ownBlock = some g → g < w3.heap.size) := fun g hg => by
              rcases HO3.out.2 with ⟨e, _⟩ | ⟨g', cap', q', e, ho, _⟩
              · rw [e] at hg; cases hg
              · rw [e] at hg; cases hg; exact (ownsRow_lt (HO3.out.2.elim (fun h => by rw [e] at h; cases h.1) (fun _ => e ▸ ho))).2
            have H4 : Hid ((seqs 3 (prpL p 3 x m)).length + (p.drop k2).length ≤ 2000000) := by have := HSL.out; have := HDL.out.1; show _ ≤ _; omega
            have H5 : Hid (wz.heap.size ≤ w4.heap.size) := H1.out.1
            clear hf4 hb4 HCL
            obtain ⟨NN, hNN⟩ : ∃ NN, (seqs 3 (prpL p 3 x m) ++ p.drop k2).length = NN := ⟨_, rfl⟩
            have HNN := Lib.hid hNN
            have HPP : Hid (prp p 3 x m = seqs 3 (prpL p 3 x m) ++ p.drop k2) := by show _ = _; unfold prp; rw [HDK.out]
            have HF3 : Hid (prpF p 3 x (m : Int) = if 64 < NN then ([], 4) else (prp p 3 x m, 0)) := by
              have e7 := HZ.out
              rw [show ((m : Int)).toNat = m from rfl] at e7
              show _ = _; rw [e7, HPP.out, HNN.out]
            have HBW : Hid (∀ W, Below wz.heap.size w4 W → Below w.heap.size w W) := fun W hW => HB4.out.trans (hW.mono HBZ.out.size)
            clear hNN HB1 HB3 HO3 HSL HZ
            by_cases h64 : 64 < NN
            · have k1 : decide ((64 : Int) < (NN : Int)) = true := decide_eq_true (by omega)
              have HQ2 : Hid (prpF p 3 x (m : Int) = ([], 4)) := by show _ = _; rw [HF3.out, if_pos h64]
              clear HF3
              go_wp2_with (at_builtin; refine append_segs rfl (.tmp 90) (.tmp 94) rfl wz.heap.size H5.out _ (seqs 3 (prpL p 3 x m)) rfl H1.out v4 (p.drop k2) rfl w3.heap.size H2.out H3.out H4.out ?_; intro v8 w8 ho8 hb8; obtain ⟨a8, c8, hf8⟩ := ho8.rd.form; rw [HNN.out] at hf8; subst hf8; have HO8 := Lib.hid ho8; have HB9 := Lib.hid (HBW.out _ hb8); clear ho8 hb8)
              go_ret2
              exact ⟨_, by rw [HQ2.out] <;> rfl, by rw [HQ2.out]; exact rds_nil _, HB9.out⟩
            · have k1 : decide ((64 : Int) < (NN : Int)) = false := decide_eq_false (by omega)
              have HQ2 : Hid (prpF p 3 x (m : Int) = (prp p 3 x m, 0)) := by show _ = _; rw [HF3.out, if_neg h64]
              clear HF3
              go_wp2_with (at_builtin; refine append_segs rfl (.tmp 90) (.tmp 94) rfl wz.heap.size H5.out _ (seqs 3 (prpL p 3 x m)) rfl H1.out v4 (p.drop k2) rfl w3.heap.size H2.out H3.out H4.out ?_; intro v8 w8 ho8 hb8; obtain ⟨a8, c8, hf8⟩ := ho8.rd.form; rw [HNN.out] at hf8; subst hf8; have HO8 := Lib.hid ho8; have HB9 := Lib.hid (HBW.out _ hb8); clear ho8 hb8)
              go_ret2
              exact ⟨_, by rw [HQ2.out] <;> rfl, by rw [HQ2.out, HPP.out]; exact HO8.out.rd, HB9.out⟩
        · have i2 : decide ((k2 : Int) < (L : Int)) = false := decide_eq_false (by omega)
          have HEX : Hid (∀ y, p[k2]? = some y → decide ((3 : Int) = y.k) = false) := fun y hy => by have := (List.getElem?_eq_some_iff.1 hy).1; have := HL.out; omega
          clear hkg
          have HTK : Hid (prpL p 3 x m = List.replicate m x ++ flat (p.take k2)) := by show _ = _; unfold prpL; rw [takeWhile_take HA.out HEX.out]
          have HDK : Hid ((p.dropWhile fun s => decide ((3 : Int) = s.k)) = p.drop k2) := dropWhile_drop HA.out HEX.out
          have hkl : k2 ≤ p.length := by rw [HL.out]; exact hk2l
          have hPL : (prpL p 3 x m).length ≤ 2000000 := by
            rw [HTK.out, List.length_append, List.length_replicate]
            have := flat_take_le p k2; have := HLF.out; omega
          have HSQ := Lib.hid (rseqs_any 3 (prpL p 3 x m) v11 wz (by rw [HTK.out]; exact HS.out.1.rd) hPL)
          have hSL : (seqs 3 (prpL p 3 x m)).length ≤ 1000000 := Nat.le_trans (seqs_len0 3 _ _ rfl) (by
            rw [HTK.out, List.length_append, List.length_replicate]
            have := flat_take_le p k2; have := HLF.out; omega)
          have HSL := Lib.hid hSL
          have HBZ := Lib.hid (below_then HB1.out HS.out.2)
          have HFZ := Lib.hid HS.out.1.rd.form
          obtain ⟨a11, c11, hf11⟩ := HFZ.out
          subst hf11
          generalize (List.replicate m x ++ flat (p.take k2)).length = L11 at *
          clear HA HEX HS hPL hSL HFZ
          have j0 : (0 : Int) ≤ (k2 : Int) := by omega
          have j1 : (k2 : Int) ≤ (L : Int) := by omega
          go_wp2_with fail
          go_at_call 58
          refine HSQ.out.mono ?_
          rintro e w3 ⟨v3, rfl, ho3, hb3⟩
          have HO3 := Lib.hid ho3
          have HB3 := Lib.hid (below_then HBZ.out hb3)
          have HBS := Lib.hid hb3
          clear ho3 hb3 HSQ
          have hd := (HV.out _ HB3.out).dropIf hkl
          obtain ⟨B1, hif1⟩ : ∃ B1, (if cap = k2 then ad else Option.map (fun x => x.add (k2 * 2)) ad) = B1 := ⟨_, rfl⟩
          rw [hif1] at hd
          have hdl : (p.drop k2).length ≤ 900000 ∧ (flat (p.drop k2)).length ≤ 900000 := by
            have e9 : (flat p).length = (flat (p.take k2)).length + (flat (p.drop k2)).length := by conv => lhs; rw [← List.take_append_drop k2 p, flat_app, List.length_append]
            rw [List.length_drop]
            have := HLF.out; have := HL.out; omega
          have HCL := Lib.hid (rcloneF_any (p.drop k2) _ w3 (by omega) (by omega) hd)
          have HDL := Lib.hid hdl
          obtain ⟨a3, c3, hf3⟩ := HO3.out.rd.form
          subst hf3
          clear hd hdl
          go_wp2_with fail
          go_at_call 52
          refine HCL.out.mono ?_
          rintro e w4 ⟨v4, rfl, hf4, hb4⟩
          have HB4 := Lib.hid (below_then HB3.out hb4)
          have H1 : Hid (OwnP wz.heap.size w4 (.slice a3 (seqs 3 (prpL p 3 x m)).length c3) (seqs 3 (prpL p 3 x m))) := HO3.out.below hb4
          have H2 := Lib.hid hf4
          have H3 : Hid (∀ g, (Value.slice a3 (seqs 3 (prpL p 3 x m)).length c3).ownBlock = some g → g < w3.heap.size) := fun g hg => by
            rcases HO3.out.2 with ⟨e, _⟩ | ⟨g', cap', q', e, ho, _⟩
            · rw [e] at hg; cases hg
            · rw [e] at hg; cases hg; exact (ownsRow_lt (HO3.out.2.elim (fun h => by rw [e] at h; cases h.1) (fun _ => e ▸ ho))).2
          have H4 : Hid ((seqs 3 (prpL p 3 x m)).length + (p.drop k2).length ≤ 2000000) := by have := HSL.out; have := HDL.out.1; show _ ≤ _; omega
          have H5 : Hid (wz.heap.size ≤ w4.heap.size) := H1.out.1
          clear hf4 hb4 HCL
          obtain ⟨NN, hNN⟩ : ∃ NN, (seqs 3 (prpL p 3 x m) ++ p.drop k2).length = NN := ⟨_, rfl⟩
          have HNN := Lib.hid hNN
          have HPP : Hid (prp p 3 x m = seqs 3 (prpL p 3 x m) ++ p.drop k2) := by show _ = _; unfold prp; rw [HDK.out]
          have HF3 : Hid (prpF p 3 x (m : Int) = if 64 < NN then ([], 4) else (prp p 3 x m, 0)) := by
            have e7 := HZ.out
            rw [show ((m : Int)).toNat = m from rfl] at e7
            show _ = _; rw [e7, HPP.out, HNN.out]
          have HBW : Hid (∀ W, Below wz.heap.size w4 W → Below w.heap.size w W) := fun W hW => HB4.out.trans (hW.mono HBZ.out.size)
          clear hNN HB1 HB3 HO3 HSL HZ
          by_cases h64 : 64 < NN
          · have k1 : decide ((64 : Int) < (NN : Int)) = true := decide_eq_true (by omega)
            have HQ2 : Hid (prpF p 3 x (m : Int) = ([], 4)) := by show _ = _; rw [HF3.out, if_pos h64]
            clear HF3
            go_wp2_with (at_builtin; refine append_segs rfl (.tmp 90) (.tmp 94) rfl wz.heap.size H5.out _ (seqs 3 (prpL p 3 x m)) rfl H1.out v4 (p.drop k2) rfl w3.heap.size H2.out H3.out H4.out ?_; intro v8 w8 ho8 hb8; obtain ⟨a8, c8, hf8⟩ := ho8.rd.form; rw [HNN.out] at hf8; subst hf8; have HO8 := Lib.hid ho8; have HB9 := Lib.hid (HBW.out _ hb8); clear ho8 hb8)
            go_ret2
            exact ⟨_, by rw [HQ2.out] <;> rfl, by rw [HQ2.out]; exact rds_nil _, HB9.out⟩
          · have k1 : decide ((64 : Int) < (NN : Int)) = false := decide_eq_false (by omega)
            have HQ2 : Hid (prpF p 3 x (m : Int) = (prp p 3 x m, 0)) := by show _ = _; rw [HF3.out, if_neg h64]
            clear HF3
            go_wp2_with (at_builtin; refine append_segs rfl (.tmp 90) (.tmp 94) rfl wz.heap.size H5.out _ (seqs 3 (prpL p 3 x m)) rfl H1.out v4 (p.drop k2) rfl w3.heap.size H2.out H3.out H4.out ?_; intro v8 w8 ho8 hb8; obtain ⟨a8, c8, hf8⟩ := ho8.rd.form; rw [HNN.out] at hf8; subst hf8; have HO8 := Lib.hid ho8; have HB9 := Lib.hid (HBW.out _ hb8); clear ho8 hb8)
            go_ret2
            exact ⟨_, by rw [HQ2.out] <;> rfl, by rw [HQ2.out, HPP.out]; exact HO8.out.rd, HB9.out⟩
end
end Go.Proofs.YtiobfgcpbihbhaaGreatDoor
namespace Go.Proofs.YtiobfgcpbihbhaaGreatDoor
section
open Go.RowKit P
set_option linter.unusedSimpArgs false
set_option linter.unusedVariables false
set_option maxHeartbeats 1500000
set_option maxRecDepth 100000
theorem rprep_2a (p : List Sg) (v : Value) (x : Int) (m : Nat) (w : World) (hv : RdS w v p) (hl : p.length ≤ 900000) (hf : (flat p).length ≤ 900000) (hq : chk p = 0) (hr : ¬ (x < 1 ∨ 4294967295 < x ∨ (m : Int) < 0 ∨ 255 < (m : Int))) (hm0 : 0 < m) (hl0 : 0 < p.length) :
    Calls Tryz.prog 30 #[v, .int .i64 2, .int .i64 x, .int .i64 (m : Int)] w fun e w' => ∃ v', e = .returned (.tuple #[v', .int .i64 (prpF p 2 x (m : Int)).2]) ∧ RdS w' v' (prpF p 2 x (m : Int)).1 ∧ Below w.heap.size w w' := by
  have HC := Lib.hid (rcheck_any p v w hv)
  have HV : Hid (∀ W, Below w.heap.size w W → RdS W v p) := fun W hW => hv.below hW
  have HLF := Lib.hid hf
  obtain ⟨ad, cap, rfl, h1, h2, hc⟩ := hv
  have HCC := Lib.hid hc
  obtain ⟨L, hL⟩ : ∃ L, p.length = L := ⟨_, rfl⟩
  rw [hL] at h1 hl HV HC ⊢
  have HL := Lib.hid hL
  rw [hq] at HC
  have HQ := Lib.hid hq
  have e1 : decide (x < 1) = false := decide_eq_false (by omega)
  have e2 : decide (4294967295 < x) = false := decide_eq_false (by omega)
  have e3 : decide ((m : Int) < 0) = false := decide_eq_false (by omega)
  have e4 : decide (255 < (m : Int)) = false := decide_eq_false (by omega)
  have hm : m ≤ 255 := by omega
  have HR := Lib.hid hr
  clear hr
  clear hc hL hq hf
  go_enter Tryz.func30, Tryz.ntmps30
  go_wp2_with fail
  go_at_call 14
  refine HC.out.mono ?_
  rintro e w1 ⟨rfl, hb⟩
  have HB1 := Lib.hid hb
  clear hb HC
  have hl9 : 0 < L := by rw [← HL.out]; exact hl0
  clear hl0
  have m1 : decide ((0 : Int) < (m : Int)) = true := decide_eq_true (by omega)
  have m2 : decide ((0 : Int) < (L : Int)) = true := decide_eq_true (by omega)
  obtain ⟨s, r, hp⟩ : ∃ s r, p = s :: r := by
    cases p with
    | nil => have := HL.out; simp at this; omega
    | cons s r => exact ⟨s, r, rfl⟩
  obtain ⟨b, off, u, hade, hbb, c0, c1, hu⟩ := HCC.out 0 s (by rw [hp]; rfl)
  have d0 : w1.cell? ⟨b, off, none⟩ = some (.int .i64 s.k) := by have := carry HB1.out c0; simpa using this
  have HCF := Lib.hid (conf51_same s.k w1)
  have k0 : (0 : Int) < (L : Int) := by omega
  have HCB : Hid (confB p = isConf s.k) := by show _ = _; rw [hp]; rfl
  have HADE := Lib.hid hade
  subst hade
  clear c0 c1 hu hp
  obtain ⟨cf, hcfe⟩ : ∃ cf, isConf s.k = cf := ⟨_, rfl⟩
  rw [hcfe] at HCF HCB
  clear hcfe
  go_wp2_with fail
  go_at_call 51
  refine HCF.out.mono ?_
  rintro e wq ⟨rfl, rfl⟩
  clear HCF d0
  cases cf with
  | true =>
    have HZ := Lib.hid (prpF_conf (x := x) (n := (m : Int)) HQ.out (.inl rfl) HR.out ⟨by omega, rfl, HCB.out⟩)
    clear HLF HCC HV HR
    go_wp2
    go_ret2
    exact ⟨_, by rw [HZ.out] <;> rfl, by rw [HZ.out]; exact rds_nil _, HB1.out⟩
  | false =>
    have hcf : ¬ ((0 : Int) < (m : Int) ∧ (2 : Int) = 2 ∧ confB p = true) := fun h => by rw [HCB.out] at h; exact absurd h.2.2 (by simp)
    clear HCB
    have HZ := Lib.hid (prpF_ok (x := x) (n := (m : Int)) HQ.out (show (2 : Int) = 2 ∨ (2 : Int) = 3 by omega) HR.out hcf)
    clear HR hcf
    have HS0 : Hid (InsI wq (.slice none 0 0) (List.replicate 0 x) wq) := InsI.start wq
    go_wp2_with fail
    clear e1 e2 e3 e4 m1 hm0
    go_loopg [11, 58] m (fun g s11 s58 wr => ∃ (k : Nat) (v10 : Value), k ≤ m ∧ m - k ≤ g ∧ v10 = s11 ∧ s58 = .int .i64 (k : Int) ∧ Hid (InsI wq v10 (List.replicate k x) wr))
    case atStart => exact ⟨0, _, by omega, by omega, rfl, rfl, HS0⟩
    case round =>
      clear HS0
      obtain ⟨k, v10, hk, hkg, rfl, rfl, HS⟩ := hrel
      by_cases hlt : k < m
      · have i1 : decide ((k : Int) < (m : Int)) = true := decide_eq_true (by omega)
        have HA : Hid (InsI wq _ (List.replicate k x) (wr.alloc (.cells #[.int .i64 x] 3))) := HS.out.below (below_alloc _ _)
        have HUA : Hid (RdI (wr.alloc (.cells #[.int .i64 x] 3)) (.slice (some ⟨wr.heap.size, 0, none⟩) 1 1) [x]) := rdi_at _ [x] 3 _ rfl _ rfl _ rfl (by simp)
        have hle : (List.replicate k x).length + [x].length ≤ 2000000 := by rw [List.length_replicate]; simp; omega
        have HRE : Hid (List.replicate (k + 1) x = List.replicate k x ++ [x]) := List.replicate_succ'
        clear HS
        go_wp2_with (at_builtin; refine append_rdI rfl (.tmp 60) (.tmp 62) rfl wq.heap.size HA.out.2.size _ (List.replicate k x) rfl HA.out.1 _ [x] rfl HUA.out hle ?_; intro v2 w2 hown hb; have S2 : Hid (InsI wq v2 (List.replicate (k + 1) x) w2) := (by show InsI _ _ _ _; rw [HRE.out]; exact ⟨hown, HA.out.2.trans hb⟩); clear hown hb)
        go_roundg (m - (k + 1))
        case measure => omega
        case rel => exact ⟨k + 1, _, by omega, Nat.le_refl _, rfl, by go_num, S2⟩
      · have i1 : decide ((k : Int) < (m : Int)) = false := decide_eq_false (by omega)
        have hkm : m = k := by omega
        subst hkm
        have HS1 : Hid (InsI wq v10 (List.replicate m x ++ flat (p.take 0)) wr) := by show InsI _ _ _ _; rw [List.take_zero, show flat [] = [] from rfl, List.append_nil]; exact HS.out
        have HA1 : Hid (∀ (j : Nat) (y : Sg), j < 0 → p[j]? = some y → decide ((2 : Int) = y.k) = true) := fun j y h => by omega
        clear HS hlt hk hkg
        generalize wr = wy at *
        go_wp2_with fail
        go_loopg [11, 12] L (fun g s11 s12 wr => ∃ (k2 : Nat) (v11 : Value), k2 ≤ L ∧ L - k2 ≤ g ∧ v11 = s11 ∧ s12 = .int .i64 (k2 : Int) ∧ Hid (∀ (j : Nat) (y : Sg), j < k2 → p[j]? = some y → decide ((2 : Int) = y.k) = true) ∧ Hid (InsI wq v11 (List.replicate m x ++ flat (p.take k2)) wr))
        case atStart => exact ⟨0, _, by omega, by omega, rfl, rfl, HA1, HS1⟩
        case round =>
          clear HS1 HA1
          obtain ⟨k2, v11, hk2l, hkg, rfl, rfl, HA, HS⟩ := hrel
          generalize wr = wz at *
          by_cases hlt : k2 < L
          · obtain ⟨s, hs⟩ : ∃ s, p[k2]? = some s := ⟨_, List.getElem?_eq_getElem (by have := HL.out; omega)⟩
            have HSS := Lib.hid hs
            have HFT := Lib.hid (flat_take hs)
            obtain ⟨b2, off2, u, hade2, hbb, c0, c1, hu⟩ := HCC.out k2 s hs
            cases hade2
            have d0 := carry (below_then HB1.out HS.out.2) c0
            have d1 := carry (below_then HB1.out HS.out.2) c1
            have i2 : decide ((k2 : Int) < (L : Int)) = true := decide_eq_true (by omega)
            have i3 : (k2 : Int) < (L : Int) := by omega
            have i4 : (0 : Int) ≤ (k2 : Int) := by omega
            by_cases hkd : s.k = 2
            · have e1 : (s.k == 2) = true := by simpa using hkd
              have HU := Lib.hid (hu.below (below_then HB1.out HS.out.2))
              have hle : (List.replicate m x ++ flat (p.take k2)).length + s.as.length ≤ 2000000 := by
                rw [List.length_append, List.length_replicate]
                have h8 := flat_take_le p (k2 + 1)
                rw [HFT.out, List.length_append] at h8
                have := HLF.out; omega
              have HA2 : Hid (∀ (j : Nat) (y : Sg), j < k2 + 1 → p[j]? = some y → decide ((2 : Int) = y.k) = true) := fun j y hj hy => by
                by_cases e : j = k2
                · subst e; have := HSS.out; rw [hy] at this; cases this; exact decide_eq_true hkd.symm
                · exact HA.out j y (by omega) hy
              have HPA : Hid (List.replicate m x ++ flat (p.take (k2 + 1)) = List.replicate m x ++ flat (p.take k2) ++ s.as) := by show _ = _; rw [HFT.out, List.append_assoc]
              obtain ⟨uad, ucap, hff⟩ := hu.form
              subst hff
              obtain ⟨pre, hpre⟩ : ∃ pre, List.replicate m x ++ flat (p.take k2) = pre := ⟨_, rfl⟩
              rw [hpre] at HPA hle HS
              obtain ⟨ns, hns⟩ : ∃ ns, s.as = ns := ⟨_, rfl⟩
              rw [hns] at HPA hle HU d1
              obtain ⟨LL, hLL⟩ : ∃ LL, ns.length = LL := ⟨_, rfl⟩
              rw [hLL] at HU d1
              clear HA HSS hs c0 c1 hu hpre hns hLL HFT hkd
              go_wp2_with (at_builtin; refine append_rdI rfl (.tmp 78) (.tmp 83) rfl wq.heap.size HS.out.2.size _ pre rfl HS.out.1 _ ns rfl HU.out hle ?_; intro v2 w2 hown hb; have S2 : Hid (InsI wq v2 (pre ++ ns) w2) := ⟨hown, HS.out.2.trans hb⟩; clear hown hb)
              go_roundg (L - (k2 + 1))
              case measure => omega
              case rel => exact ⟨k2 + 1, _, by omega, Nat.le_refl _, rfl, by go_num, HA2, by unfold Hid; rw [HPA.out]; exact S2.out⟩
            · have e1 : (s.k == 2) = false := by simpa using hkd
              have HEX : Hid (∀ y, p[k2]? = some y → decide ((2 : Int) = y.k) = false) := fun y hy => by have := HSS.out; rw [hy] at this; cases this; exact decide_eq_false fun e => hkd e.symm
              clear hs c0 c1 hu HFT HSS hkd hkg
              have HTK : Hid (prpL p 2 x m = List.replicate m x ++ flat (p.take k2)) := by show _ = _; unfold prpL; rw [takeWhile_take HA.out HEX.out]
              have HDK : Hid ((p.dropWhile fun s => decide ((2 : Int) = s.k)) = p.drop k2) := dropWhile_drop HA.out HEX.out
              have hkl : k2 ≤ p.length := by rw [HL.out]; exact hk2l
              have hPL : (prpL p 2 x m).length ≤ 2000000 := by
                rw [HTK.out, List.length_append, List.length_replicate]
                have := flat_take_le p k2; have := HLF.out; omega
              have HSQ := Lib.hid (rseqs_any 2 (prpL p 2 x m) v11 wz (by rw [HTK.out]; exact HS.out.1.rd) hPL)
              have hSL : (seqs 2 (prpL p 2 x m)).length ≤ 1000000 := Nat.le_trans (seqs_len0 2 _ _ rfl) (by
                rw [HTK.out, List.length_append, List.length_replicate]
                have := flat_take_le p k2; have := HLF.out; omega)
              have HSL := Lib.hid hSL
              have HBZ := Lib.hid (below_then HB1.out HS.out.2)
              have HFZ := Lib.hid HS.out.1.rd.form
              obtain ⟨a11, c11, hf11⟩ := HFZ.out
              subst hf11
              generalize (List.replicate m x ++ flat (p.take k2)).length = L11 at *
              clear HA HEX HS hPL hSL HFZ
              have j0 : (0 : Int) ≤ (k2 : Int) := by omega
              have j1 : (k2 : Int) ≤ (L : Int) := by omega
              go_wp2_with fail
              go_at_call 58
              refine HSQ.out.mono ?_
              rintro e w3 ⟨v3, rfl, ho3, hb3⟩
              have HO3 := Lib.hid ho3
              have HB3 := Lib.hid (below_then HBZ.out hb3)
              have HBS := Lib.hid hb3
              clear ho3 hb3 HSQ
              have hd : RdS w3 (.slice (some ⟨b, off + k2 * 2, none⟩) (L - k2) (cap - k2)) (p.drop k2) := (HV.out _ HB3.out).drop k2 hkl (L - k2) (by rw [HL.out]) (cap - k2) (by omega) (by have := h2.1; omega)
              have hdl : (p.drop k2).length ≤ 900000 ∧ (flat (p.drop k2)).length ≤ 900000 := by
                have e9 : (flat p).length = (flat (p.take k2)).length + (flat (p.drop k2)).length := by conv => lhs; rw [← List.take_append_drop k2 p, flat_app, List.length_append]
                rw [List.length_drop]
                have := HLF.out; have := HL.out; omega
              have HCL := Lib.hid (rcloneF_any (p.drop k2) _ w3 (by omega) (by omega) hd)
              have HDL := Lib.hid hdl
              obtain ⟨a3, c3, hf3⟩ := HO3.out.rd.form
              subst hf3
              clear hd hdl
              go_wp2_with fail
              go_at_call 52
              refine HCL.out.mono ?_
              rintro e w4 ⟨v4, rfl, hf4, hb4⟩
              have HB4 := Lib.hid (below_then HB3.out hb4)
              have H1 : Hid (OwnP wz.heap.size w4 (.slice a3 (seqs 2 (prpL p 2 x m)).length c3) (seqs 2 (prpL p 2 x m))) := HO3.out.below hb4
              have H2 := Lib.hid hf4
              have H3 : Hid (∀ g, (Value.slice a3 (seqs 2 (prpL p 2 x m)).length c3).ownBlock = some g → g < w3.heap.size) := fun g hg => by
                rcases HO3.out.2 with ⟨e, _⟩ | ⟨g', cap', q', e, ho, _⟩
                · rw [e] at hg; cases hg
                · rw [e] at hg; cases hg; exact (ownsRow_lt (HO3.out.2.elim (fun h => by rw [e] at h; cases h.1) (fun _ => e ▸ ho))).2
              have H4 : Hid ((seqs 2 (prpL p 2 x m)).length + (p.drop k2).length ≤ 2000000) := by have := HSL.out; have := HDL.out.1; show _ ≤ _; omega
              have H5 : Hid (wz.heap.size ≤ w4.heap.size) := H1.out.1
              clear hf4 hb4 HCL
              obtain ⟨NN, hNN⟩ : ∃ NN, (seqs 2 (prpL p 2 x m) ++ p.drop k2).length = NN := ⟨_, rfl⟩
              have HNN := Lib.hid hNN
              have HPP : Hid (prp p 2 x m = seqs 2 (prpL p 2 x m) ++ p.drop k2) := by show _ = _; unfold prp; rw [HDK.out]
              have HF3 : Hid (prpF p 2 x (m : Int) = if 64 < NN then ([], 4) else (prp p 2 x m, 0)) := by
                have e7 := HZ.out
                rw [show ((m : Int)).toNat = m from rfl] at e7
                show _ = _; rw [e7, HPP.out, HNN.out]
              have HBW : Hid (∀ W, Below wz.heap.size w4 W → Below w.heap.size w W) := fun W hW => HB4.out.trans (hW.mono HBZ.out.size)
              clear hNN HB1 HB3 HO3 HSL HZ
              by_cases h64 : 64 < NN
              · have k1 : decide ((64 : Int) < (NN : Int)) = true := decide_eq_true (by omega)
                have HQ2 : Hid (prpF p 2 x (m : Int) = ([], 4)) := by show _ = _; rw [HF3.out, if_pos h64]
                clear HF3
                go_wp2_with (at_builtin; refine append_segs rfl (.tmp 90) (.tmp 94) rfl wz.heap.size H5.out _ (seqs 2 (prpL p 2 x m)) rfl H1.out v4 (p.drop k2) rfl w3.heap.size H2.out H3.out H4.out ?_; intro v8 w8 ho8 hb8; obtain ⟨a8, c8, hf8⟩ := ho8.rd.form; rw [HNN.out] at hf8; subst hf8; have HO8 := Lib.hid ho8; have HB9 := Lib.hid (HBW.out _ hb8); clear ho8 hb8)
                go_ret2
                exact ⟨_, by rw [HQ2.out] <;> rfl, by rw [HQ2.out]; exact rds_nil _, HB9.out⟩
              · have k1 : decide ((64 : Int) < (NN : Int)) = false := decide_eq_false (by omega)
                have HQ2 : Hid (prpF p 2 x (m : Int) = (prp p 2 x m, 0)) := by show _ = _; rw [HF3.out, if_neg h64]
                clear HF3
                go_wp2_with (at_builtin; refine append_segs rfl (.tmp 90) (.tmp 94) rfl wz.heap.size H5.out _ (seqs 2 (prpL p 2 x m)) rfl H1.out v4 (p.drop k2) rfl w3.heap.size H2.out H3.out H4.out ?_; intro v8 w8 ho8 hb8; obtain ⟨a8, c8, hf8⟩ := ho8.rd.form; rw [HNN.out] at hf8; subst hf8; have HO8 := Lib.hid ho8; have HB9 := Lib.hid (HBW.out _ hb8); clear ho8 hb8)
                go_ret2
                exact ⟨_, by rw [HQ2.out] <;> rfl, by rw [HQ2.out, HPP.out]; exact HO8.out.rd, HB9.out⟩
          · have i2 : decide ((k2 : Int) < (L : Int)) = false := decide_eq_false (by omega)
            have HEX : Hid (∀ y, p[k2]? = some y → decide ((2 : Int) = y.k) = false) := fun y hy => by have := (List.getElem?_eq_some_iff.1 hy).1; have := HL.out; omega
            clear hkg
            have HTK : Hid (prpL p 2 x m = List.replicate m x ++ flat (p.take k2)) := by show _ = _; unfold prpL; rw [takeWhile_take HA.out HEX.out]
            have HDK : Hid ((p.dropWhile fun s => decide ((2 : Int) = s.k)) = p.drop k2) := dropWhile_drop HA.out HEX.out
            have hkl : k2 ≤ p.length := by rw [HL.out]; exact hk2l
            have hPL : (prpL p 2 x m).length ≤ 2000000 := by
              rw [HTK.out, List.length_append, List.length_replicate]
              have := flat_take_le p k2; have := HLF.out; omega
            have HSQ := Lib.hid (rseqs_any 2 (prpL p 2 x m) v11 wz (by rw [HTK.out]; exact HS.out.1.rd) hPL)
            have hSL : (seqs 2 (prpL p 2 x m)).length ≤ 1000000 := Nat.le_trans (seqs_len0 2 _ _ rfl) (by
              rw [HTK.out, List.length_append, List.length_replicate]
              have := flat_take_le p k2; have := HLF.out; omega)
            have HSL := Lib.hid hSL
            have HBZ := Lib.hid (below_then HB1.out HS.out.2)
            have HFZ := Lib.hid HS.out.1.rd.form
            obtain ⟨a11, c11, hf11⟩ := HFZ.out
            subst hf11
            generalize (List.replicate m x ++ flat (p.take k2)).length = L11 at *
            clear HA HEX HS hPL hSL HFZ
            have j0 : (0 : Int) ≤ (k2 : Int) := by omega
            have j1 : (k2 : Int) ≤ (L : Int) := by omega
            go_wp2_with fail
            go_at_call 58
            refine HSQ.out.mono ?_
            rintro e w3 ⟨v3, rfl, ho3, hb3⟩
            have HO3 := Lib.hid ho3
            have HB3 := Lib.hid (below_then HBZ.out hb3)
            have HBS := Lib.hid hb3
            clear ho3 hb3 HSQ
            by_cases hck : cap = k2
            · have hd : RdS w3 (.slice (some ⟨b, off, none⟩) (L - k2) 0) (p.drop k2) := by
                have hd0 := (HV.out _ HB3.out).dropIf hkl
                rw [if_pos hck, show cap - k2 = 0 by omega] at hd0
                exact hd0
              have hdl : (p.drop k2).length ≤ 900000 ∧ (flat (p.drop k2)).length ≤ 900000 := by
                have e9 : (flat p).length = (flat (p.take k2)).length + (flat (p.drop k2)).length := by conv => lhs; rw [← List.take_append_drop k2 p, flat_app, List.length_append]
                rw [List.length_drop]
                have := HLF.out; have := HL.out; omega
              have HCL := Lib.hid (rcloneF_any (p.drop k2) _ w3 (by omega) (by omega) hd)
              have HDL := Lib.hid hdl
              obtain ⟨a3, c3, hf3⟩ := HO3.out.rd.form
              subst hf3
              clear hd hdl
              go_wp2_with fail
              go_at_call 52
              refine HCL.out.mono ?_
              rintro e w4 ⟨v4, rfl, hf4, hb4⟩
              have HB4 := Lib.hid (below_then HB3.out hb4)
              have H1 : Hid (OwnP wz.heap.size w4 (.slice a3 (seqs 2 (prpL p 2 x m)).length c3) (seqs 2 (prpL p 2 x m))) := HO3.out.below hb4
              have H2 := Lib.hid hf4
              have H3 : Hid (∀ g, (Value.slice a3 (seqs 2 (prpL p 2 x m)).length c3).ownBlock = some g → g < w3.heap.size) := fun g hg => by
                rcases HO3.out.2 with ⟨e, _⟩ | ⟨g', cap', q', e, ho, _⟩
                · rw [e] at hg; cases hg
                · rw [e] at hg; cases hg; exact (ownsRow_lt (HO3.out.2.elim (fun h => by rw [e] at h; cases h.1) (fun _ => e ▸ ho))).2
              have H4 : Hid ((seqs 2 (prpL p 2 x m)).length + (p.drop k2).length ≤ 2000000) := by have := HSL.out; have := HDL.out.1; show _ ≤ _; omega
              have H5 : Hid (wz.heap.size ≤ w4.heap.size) := H1.out.1
              clear hf4 hb4 HCL
              obtain ⟨NN, hNN⟩ : ∃ NN, (seqs 2 (prpL p 2 x m) ++ p.drop k2).length = NN := ⟨_, rfl⟩
              have HNN := Lib.hid hNN
              have HPP : Hid (prp p 2 x m = seqs 2 (prpL p 2 x m) ++ p.drop k2) := by show _ = _; unfold prp; rw [HDK.out]
              have HF3 : Hid (prpF p 2 x (m : Int) = if 64 < NN then ([], 4) else (prp p 2 x m, 0)) := by
                have e7 := HZ.out
                rw [show ((m : Int)).toNat = m from rfl] at e7
                show _ = _; rw [e7, HPP.out, HNN.out]
              have HBW : Hid (∀ W, Below wz.heap.size w4 W → Below w.heap.size w W) := fun W hW => HB4.out.trans (hW.mono HBZ.out.size)
              clear hNN HB1 HB3 HO3 HSL HZ
              by_cases h64 : 64 < NN
              · have k1 : decide ((64 : Int) < (NN : Int)) = true := decide_eq_true (by omega)
                have HQ2 : Hid (prpF p 2 x (m : Int) = ([], 4)) := by show _ = _; rw [HF3.out, if_pos h64]
                clear HF3
                go_wp2_with (at_builtin; refine append_segs rfl (.tmp 90) (.tmp 94) rfl wz.heap.size H5.out _ (seqs 2 (prpL p 2 x m)) rfl H1.out v4 (p.drop k2) rfl w3.heap.size H2.out H3.out H4.out ?_; intro v8 w8 ho8 hb8; obtain ⟨a8, c8, hf8⟩ := ho8.rd.form; rw [HNN.out] at hf8; subst hf8; have HO8 := Lib.hid ho8; have HB9 := Lib.hid (HBW.out _ hb8); clear ho8 hb8)
                go_ret2
                exact ⟨_, by rw [HQ2.out] <;> rfl, by rw [HQ2.out]; exact rds_nil _, HB9.out⟩
              · have k1 : decide ((64 : Int) < (NN : Int)) = false := decide_eq_false (by omega)
                have HQ2 : Hid (prpF p 2 x (m : Int) = (prp p 2 x m, 0)) := by show _ = _; rw [HF3.out, if_neg h64]
                clear HF3
                go_wp2_with (at_builtin; refine append_segs rfl (.tmp 90) (.tmp 94) rfl wz.heap.size H5.out _ (seqs 2 (prpL p 2 x m)) rfl H1.out v4 (p.drop k2) rfl w3.heap.size H2.out H3.out H4.out ?_; intro v8 w8 ho8 hb8; obtain ⟨a8, c8, hf8⟩ := ho8.rd.form; rw [HNN.out] at hf8; subst hf8; have HO8 := Lib.hid ho8; have HB9 := Lib.hid (HBW.out _ hb8); clear ho8 hb8)
                go_ret2
                exact ⟨_, by rw [HQ2.out] <;> rfl, by rw [HQ2.out, HPP.out]; exact HO8.out.rd, HB9.out⟩
            · have hd : RdS w3 (.slice (some ⟨b, off + k2 * 2, none⟩) (L - k2) (cap - k2)) (p.drop k2) := (HV.out _ HB3.out).drop k2 hkl (L - k2) (by rw [HL.out]) (cap - k2) (by omega) (by have := h2.1; omega)
              have hdl : (p.drop k2).length ≤ 900000 ∧ (flat (p.drop k2)).length ≤ 900000 := by
                have e9 : (flat p).length = (flat (p.take k2)).length + (flat (p.drop k2)).length := by conv => lhs; rw [← List.take_append_drop k2 p, flat_app, List.length_append]
                rw [List.length_drop]
                have := HLF.out; have := HL.out; omega
              have HCL := Lib.hid (rcloneF_any (p.drop k2) _ w3 (by omega) (by omega) hd)
              have HDL := Lib.hid hdl
              obtain ⟨a3, c3, hf3⟩ := HO3.out.rd.form
              subst hf3
              clear hd hdl
              go_wp2_with fail
              go_at_call 52
              refine HCL.out.mono ?_
              rintro e w4 ⟨v4, rfl, hf4, hb4⟩
              have HB4 := Lib.hid (below_then HB3.out hb4)
              have H1 : Hid (OwnP wz.heap.size w4 (.slice a3 (seqs 2 (prpL p 2 x m)).length c3) (seqs 2 (prpL p 2 x m))) := HO3.out.below hb4
              have H2 := Lib.hid hf4
              have H3 : Hid (∀ g, (Value.slice a3 (seqs 2 (prpL p 2 x m)).length c3).ownBlock = some g → g < w3.heap.size) := fun g hg => by
                rcases HO3.out.2 with ⟨e, _⟩ | ⟨g', cap', q', e, ho, _⟩
                · rw [e] at hg; cases hg
                · rw [e] at hg; cases hg; exact (ownsRow_lt (HO3.out.2.elim (fun h => by rw [e] at h; cases h.1) (fun _ => e ▸ ho))).2
              have H4 : Hid ((seqs 2 (prpL p 2 x m)).length + (p.drop k2).length ≤ 2000000) := by have := HSL.out; have := HDL.out.1; show _ ≤ _; omega
              have H5 : Hid (wz.heap.size ≤ w4.heap.size) := H1.out.1
              clear hf4 hb4 HCL
              obtain ⟨NN, hNN⟩ : ∃ NN, (seqs 2 (prpL p 2 x m) ++ p.drop k2).length = NN := ⟨_, rfl⟩
              have HNN := Lib.hid hNN
              have HPP : Hid (prp p 2 x m = seqs 2 (prpL p 2 x m) ++ p.drop k2) := by show _ = _; unfold prp; rw [HDK.out]
              have HF3 : Hid (prpF p 2 x (m : Int) = if 64 < NN then ([], 4) else (prp p 2 x m, 0)) := by
                have e7 := HZ.out
                rw [show ((m : Int)).toNat = m from rfl] at e7
                show _ = _; rw [e7, HPP.out, HNN.out]
              have HBW : Hid (∀ W, Below wz.heap.size w4 W → Below w.heap.size w W) := fun W hW => HB4.out.trans (hW.mono HBZ.out.size)
              clear hNN HB1 HB3 HO3 HSL HZ
              by_cases h64 : 64 < NN
              · have k1 : decide ((64 : Int) < (NN : Int)) = true := decide_eq_true (by omega)
                have HQ2 : Hid (prpF p 2 x (m : Int) = ([], 4)) := by show _ = _; rw [HF3.out, if_pos h64]
                clear HF3
                go_wp2_with (at_builtin; refine append_segs rfl (.tmp 90) (.tmp 94) rfl wz.heap.size H5.out _ (seqs 2 (prpL p 2 x m)) rfl H1.out v4 (p.drop k2) rfl w3.heap.size H2.out H3.out H4.out ?_; intro v8 w8 ho8 hb8; obtain ⟨a8, c8, hf8⟩ := ho8.rd.form; rw [HNN.out] at hf8; subst hf8; have HO8 := Lib.hid ho8; have HB9 := Lib.hid (HBW.out _ hb8); clear ho8 hb8)
                go_ret2
                exact ⟨_, by rw [HQ2.out] <;> rfl, by rw [HQ2.out]; exact rds_nil _, HB9.out⟩
              · have k1 : decide ((64 : Int) < (NN : Int)) = false := decide_eq_false (by omega)
                have HQ2 : Hid (prpF p 2 x (m : Int) = (prp p 2 x m, 0)) := by show _ = _; rw [HF3.out, if_neg h64]
                clear HF3
                go_wp2_with (at_builtin; refine append_segs rfl (.tmp 90) (.tmp 94) rfl wz.heap.size H5.out _ (seqs 2 (prpL p 2 x m)) rfl H1.out v4 (p.drop k2) rfl w3.heap.size H2.out H3.out H4.out ?_; intro v8 w8 ho8 hb8; obtain ⟨a8, c8, hf8⟩ := ho8.rd.form; rw [HNN.out] at hf8; subst hf8; have HO8 := Lib.hid ho8; have HB9 := Lib.hid (HBW.out _ hb8); clear ho8 hb8)
                go_ret2
                exact ⟨_, by rw [HQ2.out] <;> rfl, by rw [HQ2.out, HPP.out]; exact HO8.out.rd, HB9.out⟩
end
end Go.Proofs.YtiobfgcpbihbhaaGreatDoor
namespace Go.Proofs.YtiobfgcpbihbhaaGreatDoor
section
open Go.RowKit P
set_option linter.unusedSimpArgs false
set_option linter.unusedVariables false
set_option maxHeartbeats 4000000
set_option maxRecDepth 100000
theorem rprep_any (p : List Sg) (v : Value) (kd x n : Int) (w : World) (hv : RdS w v p) (hl : p.length ≤ 900000) (hf : (flat p).length ≤ 900000) :
    Calls Tryz.prog 30 #[v, .int .i64 kd, .int .i64 x, .int .i64 n] w fun e w' => ∃ v', e = .returned (.tuple #[v', .int .i64 (prpF p kd x n).2]) ∧ RdS w' v' (prpF p kd x n).1 ∧ Below w.heap.size w w' := by
  by_cases h : chk p = 0 ∧ (kd = 2 ∨ kd = 3) ∧ ¬ (x < 1 ∨ 4294967295 < x ∨ n < 0 ∨ 255 < n)
  · obtain ⟨hq, hk, hr⟩ := h
    obtain ⟨m, rfl⟩ := Int.eq_ofNat_of_zero_le (show 0 ≤ n by omega)
    rcases hk with rfl | rfl
    · by_cases hm0 : 0 < m
      · by_cases hl0 : 0 < p.length
        · exact rprep_2a p v x m w hv hl hf hq hr hm0 hl0
        · exact rprep_2b p v x m w hv hl hf hq hr hm0 (by omega)
      · exact rprep_2c p v x m w hv hl hf hq hr hm0
    · by_cases hm0 : 0 < m
      · exact rprep_3a p v x m w hv hl hf hq hr hm0
      · exact rprep_3b p v x m w hv hl hf hq hr hm0
  · exact rprep_err p v kd x n w hv hl hf fun h1 h2 => by
      by_cases h3 : x < 1 ∨ 4294967295 < x ∨ n < 0 ∨ 255 < n
      · exact h3
      · exact absurd ⟨h1, h2, h3⟩ h
end
end Go.Proofs.YtiobfgcpbihbhaaGreatDoor
namespace Go.Proofs.YtiobfgcpbihbhaaGreatDoor
section
open Go.RowKit P
set_option linter.unusedSimpArgs false
set_option linter.unusedVariables false
set_option maxHeartbeats 1500000
set_option maxRecDepth 100000
theorem P.prpF_zero {p : List Sg} {kd x n : Int} (h : (prpF p kd x n).2 = 0) : ∃ m : Nat, n = (m : Int) ∧ m ≤ 255 ∧ (kd = 2 ∨ kd = 3) ∧ (prpF p kd x n).1 = prp p kd x m ∧ chk (prp p kd x m) = 0 ∧ (prp p kd x m).length ≤ 64 := by
  by_cases h0 : prpE p kd x n = 0
  · obtain ⟨h1, h2⟩ := prpE_ok h0
    obtain ⟨m, rfl⟩ := Int.eq_ofNat_of_zero_le h1
    have hk : kd = 2 ∨ kd = 3 := by
      by_cases hk : kd = 2 ∨ kd = 3
      · exact hk
      · exfalso
        unfold prpE at h0
        by_cases hc : chk p = 0
        · rw [if_neg (by rw [hc]; simp), if_pos (by omega)] at h0; cases h0
        · rw [if_pos hc] at h0; exact hc h0
    have e : prpF p kd x (m : Int) = if 64 < (prp p kd x m).length then ([], 4) else (prp p kd x m, 0) := by
      unfold prpF; rw [h0, if_neg (by simp)]; rfl
    by_cases h64 : 64 < (prp p kd x m).length
    · rw [e, if_pos h64] at h; cases h
    · exact ⟨m, rfl, by omega, hk, by rw [e, if_neg h64], chk_prp h0 (by omega), by omega⟩
  · have e : prpF p kd x n = ([], prpE p kd x n) := by unfold prpF; rw [if_pos h0]
    rw [e] at h
    exact absurd h h0
theorem lawPrepend_any (p : List Sg) (v : Value) (kd x n : Int) (w : World) (hT : Tab w) (hv : RdS w v p) (ha : (flat p).length ≤ 2000000) (ha2 : p.length ≤ 2000000) :
    Calls Tryz.prog 5 #[v, .agg #[.int .i64 kd, .int .i64 x, .int .i64 n]] w fun e w' => e = .returned (.bool true) ∧ Below w.heap.size w w' := by
  have HT : Hid (∀ W, Below w.heap.size w W → Tab W) := fun W hW => tab_below hT hW
  have HV : Hid (∀ W, Below w.heap.size w W → RdS W v p) := fun W hW => hv.below hW
  have HLa : Hid (∀ W, Below w.heap.size w W → Calls Tryz.prog 11 #[v] W fun e w' => e = .returned (.bool (decide (3000 < sz p))) ∧ Below W.heap.size W w') := fun W hW => large_any p v W (hv.below hW) ha ha2
  have HPRc : Hid (sz p ≤ 3000 → ∀ W, Below w.heap.size w W → Calls Tryz.prog 29 #[v, .int .i64 kd, .int .i64 x, .int .i64 n] W fun e w' => ∃ v', e = .returned (.tuple #[v', .int .i64 (prpF p kd x n).2]) ∧ RdS w' v' (prpF p kd x n).1 ∧ Below W.heap.size W w') := fun h W hW => prepend_any p v kd x n W (hv.below hW) (by unfold sz at h; omega) (by unfold sz at h; omega)
  have HPRr : Hid (sz p ≤ 3000 → ∀ W, Below w.heap.size w W → Calls Tryz.prog 30 #[v, .int .i64 kd, .int .i64 x, .int .i64 n] W fun e w' => ∃ v', e = .returned (.tuple #[v', .int .i64 (prpF p kd x n).2]) ∧ RdS w' v' (prpF p kd x n).1 ∧ Below W.heap.size W w') := fun h W hW => rprep_any p v kd x n W (hv.below hW) (by unfold sz at h; omega) (by unfold sz at h; omega)
  have HLEN : Hid (∀ W, Below w.heap.size w W → Calls Tryz.prog 19 #[v] W fun e w' => e = .returned (.int .i64 (len p : Int)) ∧ Below W.heap.size W w') := fun W hW => length_any p v W (hv.below hW) ha ha2
  have HFLr : Hid (∀ W, Below w.heap.size w W → Calls Tryz.prog 28 #[v] W fun e w' => ∃ a c, e = .returned (.slice a (flat p).length c) ∧ RdI w' (.slice a (flat p).length c) (flat p) ∧ Below W.heap.size W w') := fun W hW => (rflat_any p v W (hv.below hW) ha).mono fun e w' ⟨v', he, hi⟩ => by
    obtain ⟨a, c, e1⟩ := hi.1.rd.form
    exact ⟨a, c, by rw [he, e1], e1 ▸ hi.1.rd, hi.2⟩
  have HFLc : Hid (∀ W, Below w.heap.size w W → Calls Tryz.prog 27 #[v] W fun e w' => ∃ a c, e = .returned (.slice a (flat p).length c) ∧ RdI w' (.slice a (flat p).length c) (flat p) ∧ Below W.heap.size W w') := fun W hW => (flat_any p v W (hv.below hW) ha).mono fun e w' ⟨v', he, hi⟩ => by
    obtain ⟨a, c, e1⟩ := hi.1.rd.form
    exact ⟨a, c, by rw [he, e1], e1 ▸ hi.1.rd, hi.2⟩
  obtain ⟨ad, cap, hf⟩ := hv.form
  obtain ⟨L, hL⟩ : ∃ L, p.length = L := ⟨_, rfl⟩
  have HL := Lib.hid hL
  rw [hL] at hf
  subst hf
  clear hT hv hL
  go_enter Tryz.func5, Tryz.ntmps5
  go_wp2_with fail
  go_quiet (fail)
  have B0 : Hid (Below w.heap.size w ((w.alloc (.cells #[.int .i64 kd, .int .i64 x, .int .i64 n] 36)).drewN nq)) := below_drewN (below_alloc _ _) _
  generalize (w.alloc (.cells #[.int .i64 kd, .int .i64 x, .int .i64 n] 36)).drewN nq = w0 at *
  go_wp2_with fail
  go_at_call 11
  refine (HLa.out _ B0.out).mono ?_
  rintro e w1 ⟨rfl, hb⟩
  have B1 := Lib.hid (below_then B0.out hb)
  clear hb HLa B0
  by_cases hbig : 3000 < sz p
  · rw [decide_eq_true hbig]
    have HA := Lib.hid (awake_any w1 (HT.out _ B1.out))
    clear HPRc HPRr HLEN HFLr HFLc HV ha ha2 hbig
    go_wp2_with fail
    go_at_call 12
    refine HA.out.mono ?_
    rintro e w2 ⟨rfl, hb2⟩
    have B2 := Lib.hid (below_then B1.out hb2)
    clear hb2 HA
    go_wp2
    go_ret
    exact ⟨rfl, B2.out⟩
  rw [decide_eq_false hbig]
  have HSM : Hid (sz p ≤ 3000) := by show _ ≤ _; omega
  have HPc := Lib.hid (HPRc.out HSM.out)
  have HPr := Lib.hid (HPRr.out HSM.out)
  obtain ⟨FL, hFL⟩ : ∃ FL, (flat p).length = FL := ⟨_, rfl⟩
  have HFLL := Lib.hid hFL
  obtain ⟨q, hq⟩ : ∃ q, (prpF p kd x n).2 = q := ⟨_, rfl⟩
  have HQ := Lib.hid hq
  obtain ⟨o, ho⟩ : ∃ o, (prpF p kd x n).1 = o := ⟨_, rfl⟩
  have HO := Lib.hid ho
  rw [hq, ho] at HPc HPr
  have tq : (q != q) = false := by simp
  clear HPRc HPRr hbig hFL hq ho ha ha2
  go_wp2_with fail
  go_at_call 29
  refine (HPc.out _ B1.out).mono ?_
  rintro e w2 ⟨v1, rfl, hr1, hb⟩
  have B2 := Lib.hid (below_then B1.out hb)
  have R1 : Hid (∀ W, Below w2.heap.size w2 W → RdS W v1 o) := fun W hW => hr1.below hW
  obtain ⟨a1, c1, hf1⟩ := hr1.form
  subst hf1
  clear hb HPc B1 hr1
  go_wp2_with fail
  go_at_call 30
  refine (HPr.out _ B2.out).mono ?_
  rintro e w3 ⟨v2, rfl, hr2, hb⟩
  have B3 := Lib.hid (below_then B2.out hb)
  have R3 := Lib.hid (R1.out _ hb)
  obtain ⟨a2, c2, hf2⟩ := hr2.form
  subst hf2
  have HS3 : Hid (Calls Tryz.prog 23 #[.slice a1 o.length c1, .slice a2 o.length c2] w3 fun e w' => e = .returned (.bool true) ∧ Below w3.heap.size w3 w') := by
    have h := rsame_any o o _ _ w3 R3.out hr2
    rw [decide_eq_true rfl] at h
    exact h
  have R3b : Hid (∀ W, Below w3.heap.size w3 W → RdS W (.slice a1 o.length c1) o) := fun W hW => R3.out.below hW
  clear hb HPr B2 hr2 R1 R3
  go_wp2_with fail
  go_at_call 23
  refine HS3.out.mono ?_
  rintro e w3 ⟨rfl, hb⟩
  have B3 := Lib.hid (below_then B3.out hb)
  have R1 := Lib.hid (R3b.out _ hb)
  clear hb HS3 R3b
  by_cases hq0 : q = 0
  · subst hq0
    obtain ⟨m, rfl, hm, hk2, hz1, hz2, hz3⟩ := prpF_zero HQ.out
    rw [HO.out] at hz1
    rcases hk2 with rfl | rfl
    · subst hz1
      clear HQ HO tq
      have HZ9 : True := trivial
      have HCHK := Lib.hid hz2
      have hxl : (flat (prp p 2 x m)).length = m + (flat p).length := by rw [prp_flat, List.length_append, List.length_replicate]
      have HXL := Lib.hid hxl
      have HLX : Hid (∀ W, RdS W (.slice a1 (prp p 2 x m).length c1) (prp p 2 x m) → Calls Tryz.prog 19 #[.slice a1 (prp p 2 x m).length c1] W fun e w' => e = .returned (.int .i64 ((len p : Int) + (m : Int))) ∧ Below W.heap.size W w') := fun W hW => by
        have h := length_any (prp p 2 x m) _ W hW (by rw [HXL.out]; have := HSM.out; unfold sz at this; omega) (by omega)
        rw [prp_len2] at h
        have ec : (((len p + m : Nat)) : Int) = (len p : Int) + (m : Int) := by omega
        rw [ec] at h
        exact h
      have HCX : Hid (∀ W, RdS W (.slice a1 (prp p 2 x m).length c1) (prp p 2 x m) → Calls Tryz.prog 13 #[.slice a1 (prp p 2 x m).length c1] W fun e w' => e = .returned (.int .i64 0) ∧ Below W.heap.size W w') := fun W hW => by
        have h := check_any (prp p 2 x m) _ W hW
        rw [HCHK.out] at h
        exact h
      have HFX : Hid (∀ W, RdS W (.slice a1 (prp p 2 x m).length c1) (prp p 2 x m) → Calls Tryz.prog 27 #[.slice a1 (prp p 2 x m).length c1] W fun e w' => ∃ a c, e = .returned (.slice a (m + FL) c) ∧ RdI w' (.slice a (m + FL) c) (List.replicate m x ++ flat p) ∧ Below W.heap.size W w') := fun W hW => (flat_any (prp p 2 x m) _ W hW (by rw [HXL.out]; have := HSM.out; unfold sz at this; omega)).mono fun e w' ⟨v', he, hi⟩ => by
        obtain ⟨a, c, e1⟩ := hi.1.rd.form
        rw [HXL.out, HFLL.out] at e1
        refine ⟨a, c, by rw [he, e1], ?_, hi.2⟩
        have h7 := hi.1.rd
        rw [e1, prp_flat] at h7
        exact h7
      have hlp : len p ≤ 3000 := by have := P.len_le p; have := HSM.out; unfold sz at this; omega
      have HR3 := Lib.hid (show RdS w3 (.slice a1 (prp p 2 x m).length c1) (prp p 2 x m) from R1.out)
      generalize len p = LP at *
      generalize (prp p 2 x m).length = XL at *
      have hfl : FL ≤ 3000 := by have := HSM.out; unfold sz at this; have := HFLL.out; omega
      clear R1 hxl hz2
      go_wp2_with fail
      go_at_call 19
      refine (HLX.out _ HR3.out).mono ?_
      rintro e w4 ⟨rfl, hb4⟩
      have B4 := Lib.hid (below_then B3.out hb4)
      have HR4 := Lib.hid (HR3.out.below hb4)
      clear hb4 HR3 HLX
      go_wp2_with fail
      go_at_call 19
      refine (HLEN.out _ B4.out).mono ?_
      rintro e w5 ⟨rfl, hb5⟩
      have B5 := Lib.hid (below_then B4.out hb5)
      have HR5 := Lib.hid (HR4.out.below hb5)
      clear hb5 HR4 B4 HLEN
      go_wp2_with fail
      go_at_call 27
      refine (HFX.out _ HR5.out).mono ?_
      rintro e w6 ⟨a6, c6, rfl, hi6, hb6⟩
      have B6 := Lib.hid (below_then B5.out hb6)
      have HR6 := Lib.hid (HR5.out.below hb6)
      have HI6 : Hid (∀ W, Below w6.heap.size w6 W → RdI W (.slice a6 (m + FL) c6) (List.replicate m x ++ flat p)) := fun W hW => hi6.below hW
      clear hb6 HR5 B5 HFX hi6
      go_wp2_with fail
      go_at_call 13
      refine (HCX.out _ HR6.out).mono ?_
      rintro e w7 ⟨rfl, hb7⟩
      have B7 := Lib.hid (below_then B6.out hb7)
      have H67 := Lib.hid hb7
      clear hb7 HR6 HCX B6
      go_wp2_with fail
      go_at_call 28
      refine (HFLr.out _ B7.out).mono ?_
      rintro e w8 ⟨a8, c8, rfl, hi8, hb8⟩
      rw [HFLL.out]
      have B8 := Lib.hid (below_then B7.out hb8)
      have H68 := Lib.hid (below_then H67.out hb8)
      clear hb8 hi8 HFLr B7 H67
      have HW0 : Hid (Below w8.heap.size w8 w8) := Below.refl _ _
      have ecast : ((m + FL : Nat) : Int) = (m : Int) + (FL : Int) := by omega
      go_wp2_with fail
      go_loopg [13] (m + 1) (fun g s13 wr => ∃ k : Nat, k ≤ m ∧ m + 1 - k ≤ g ∧ s13 = .int .i64 (k : Int) ∧ Hid (Below w8.heap.size w8 wr))
      case atStart => exact ⟨0, by omega, by omega, rfl, HW0⟩
      case round =>
        clear HW0
        obtain ⟨k, hk, hkg, rfl, HW⟩ := hrel
        have HI8 := Lib.hid (HI6.out wr (below_then H68.out HW.out))
        by_cases hlt : k < m
        · obtain ⟨ad', cap', e1, i1, i2, hc6⟩ := HI8.out
          injection e1 with q1 q2 q3
          subst q1 q3
          obtain ⟨b6, o6, rfl, hb6, cx⟩ := hc6 k x (by rw [List.getElem?_append_left (by rw [List.length_replicate]; omega), List.getElem?_replicate, if_pos (by omega)])
          have k0 : (0 : Int) ≤ (k : Int) := by omega
          have k1 : (k : Int) < ((m + FL : Nat) : Int) := by omega
          have k2 : decide ((k : Int) < (m : Int)) = true := decide_eq_true (by omega)
          have k3 : (k : Int) < (m : Int) + (FL : Int) := by omega
          have k4 : (x != x) = false := by simp
          have k5 : k < m + FL := by omega
          clear hc6 HI8
          go_wp2_with fail
          go_roundg (m + 1 - (k + 1))
          case measure => omega
          case rel => exact ⟨k + 1, by omega, Nat.le_refl _, by go_num, HW⟩
        · have k2 : decide ((k : Int) < (m : Int)) = false := decide_eq_false (by omega)
          have BW := Lib.hid (below_then B8.out HW.out)
          have hdd : RdI wr (.slice (if c6 = m then a6 else Option.map (fun x => Addr.add x m) a6) (m + FL - m) (c6 - m)) (flat p) := by
            have h9 := HI8.out.dropIf (n := m) (by rw [List.length_append, List.length_replicate]; omega)
            rw [show (List.replicate m x ++ flat p).drop m = flat p by rw [List.drop_append_of_le_length (by rw [List.length_replicate]; omega), List.drop_of_length_le (by rw [List.length_replicate]; omega), List.nil_append]] at h9
            exact h9
          obtain ⟨B6, hif6⟩ : ∃ B, (if c6 = m then a6 else Option.map (fun x => Addr.add x m) a6) = B := ⟨_, rfl⟩
          rw [hif6, Nat.add_sub_cancel_left] at hdd
          have HDD : Hid (∀ W, Below wr.heap.size wr W → RdI W (.slice B6 FL (c6 - m)) (flat p)) := fun W hW => hdd.below hW
          have i1 : (m : Int) ≤ ((m + FL : Nat) : Int) := by omega
          have i2 : (m : Int) ≤ (m : Int) + (FL : Int) := by omega
          have hX : Below wr.heap.size wr wr.drew := (Below.refl _ wr).drew
          have HBW : Hid (∀ W, Below wr.heap.size wr W → Below w.heap.size w W) := fun W hW => below_then BW.out hW
          have HSM2 : Hid (∀ W v1 v2, RdI W v1 (flat p) → RdI W v2 (flat p) → Calls Tryz.prog 26 #[v1, v2] W fun e w' => e = .returned (.bool true) ∧ Below W.heap.size W w') := fun W v1 v2 g1 g2 => by
            have h := lsame_any (flat p) (flat p) v1 v2 W g1 g2
            rw [decide_eq_true rfl] at h
            exact h
          have HAW : Hid (∀ W, Below wr.heap.size wr W → Calls Tryz.prog 12 #[] W fun e w' => e = .returned (.bool true) ∧ Below W.heap.size W w') := fun W hW => awake_any W (HT.out _ (HBW.out _ hW))
          have HFC : Hid (∀ W, Below wr.heap.size wr W → Calls Tryz.prog 27 #[.slice ad L cap] W fun e w' => ∃ a c, e = .returned (.slice a FL c) ∧ RdI w' (.slice a FL c) (flat p) ∧ Below W.heap.size W w') := fun W hW => by
            have h := HFLc.out W (HBW.out _ hW)
            rw [HFLL.out] at h
            exact h
          clear hdd HI8 HW HFLc HT HV B8 BW
          go_wp2_with fail

          go_region_held3 (fun W => Below wr.heap.size wr W)
            (first | exact hX | assumption)
            (first
              | (go_at_call 27; refine (HFC.out _ hX).mono ?_; rintro e w10 ⟨A1, C1, rfl, hA, hb⟩; have hk10 : Below wr.heap.size wr w10 := below_then hX hb; have HA := Lib.hid hA; clear hb hA HFC)
              | (go_at_call 26; refine (HSM2.out _ _ _ (HDD.out _ hk10) HA.out).mono ?_; rintro e w11 ⟨rfl, hb⟩; have hk11 : Below wr.heap.size wr w11 := below_then hk10 hb; clear hb HSM2 HA)
              | (go_at_call 12; refine (HAW.out _ hk11).mono ?_; rintro e w12 ⟨rfl, hb⟩; have hk12 : Below wr.heap.size wr w12 := below_then hk11 hb; clear hb HAW))
          all_goals (
            have HB12 := Lib.hid (HBW.out _ hk12)
            go_wp2
            go_ret
            exact ⟨rfl, HB12.out⟩)
    · subst hz1
      clear HQ HO tq
      have HZ9 : True := trivial
      have HCHK := Lib.hid hz2
      have hxl : (flat (prp p 3 x m)).length = m + (flat p).length := by rw [prp_flat, List.length_append, List.length_replicate]
      have HXL := Lib.hid hxl
      have HLX : Hid (∀ W, RdS W (.slice a1 (prp p 3 x m).length c1) (prp p 3 x m) → Calls Tryz.prog 19 #[.slice a1 (prp p 3 x m).length c1] W fun e w' => e = .returned (.int .i64 ((len p : Int))) ∧ Below W.heap.size W w') := fun W hW => by
        have h := length_any (prp p 3 x m) _ W hW (by rw [HXL.out]; have := HSM.out; unfold sz at this; omega) (by omega)
        rw [prp_len3] at h
        have ec : (((len p : Nat)) : Int) = (len p : Int) := by rfl
        rw [ec] at h
        exact h
      have HCX : Hid (∀ W, RdS W (.slice a1 (prp p 3 x m).length c1) (prp p 3 x m) → Calls Tryz.prog 13 #[.slice a1 (prp p 3 x m).length c1] W fun e w' => e = .returned (.int .i64 0) ∧ Below W.heap.size W w') := fun W hW => by
        have h := check_any (prp p 3 x m) _ W hW
        rw [HCHK.out] at h
        exact h
      have HFX : Hid (∀ W, RdS W (.slice a1 (prp p 3 x m).length c1) (prp p 3 x m) → Calls Tryz.prog 27 #[.slice a1 (prp p 3 x m).length c1] W fun e w' => ∃ a c, e = .returned (.slice a (m + FL) c) ∧ RdI w' (.slice a (m + FL) c) (List.replicate m x ++ flat p) ∧ Below W.heap.size W w') := fun W hW => (flat_any (prp p 3 x m) _ W hW (by rw [HXL.out]; have := HSM.out; unfold sz at this; omega)).mono fun e w' ⟨v', he, hi⟩ => by
        obtain ⟨a, c, e1⟩ := hi.1.rd.form
        rw [HXL.out, HFLL.out] at e1
        refine ⟨a, c, by rw [he, e1], ?_, hi.2⟩
        have h7 := hi.1.rd
        rw [e1, prp_flat] at h7
        exact h7
      have hlp : len p ≤ 3000 := by have := P.len_le p; have := HSM.out; unfold sz at this; omega
      have HR3 := Lib.hid (show RdS w3 (.slice a1 (prp p 3 x m).length c1) (prp p 3 x m) from R1.out)
      generalize len p = LP at *
      generalize (prp p 3 x m).length = XL at *
      have hfl : FL ≤ 3000 := by have := HSM.out; unfold sz at this; have := HFLL.out; omega
      clear R1 hxl hz2
      go_wp2_with fail
      go_at_call 19
      refine (HLX.out _ HR3.out).mono ?_
      rintro e w4 ⟨rfl, hb4⟩
      have B4 := Lib.hid (below_then B3.out hb4)
      have HR4 := Lib.hid (HR3.out.below hb4)
      clear hb4 HR3 HLX
      go_wp2_with fail
      go_at_call 19
      refine (HLEN.out _ B4.out).mono ?_
      rintro e w5 ⟨rfl, hb5⟩
      have B5 := Lib.hid (below_then B4.out hb5)
      have HR5 := Lib.hid (HR4.out.below hb5)
      clear hb5 HR4 B4 HLEN
      go_wp2_with fail
      go_at_call 27
      refine (HFX.out _ HR5.out).mono ?_
      rintro e w6 ⟨a6, c6, rfl, hi6, hb6⟩
      have B6 := Lib.hid (below_then B5.out hb6)
      have HR6 := Lib.hid (HR5.out.below hb6)
      have HI6 : Hid (∀ W, Below w6.heap.size w6 W → RdI W (.slice a6 (m + FL) c6) (List.replicate m x ++ flat p)) := fun W hW => hi6.below hW
      clear hb6 HR5 B5 HFX hi6
      go_wp2_with fail
      go_at_call 13
      refine (HCX.out _ HR6.out).mono ?_
      rintro e w7 ⟨rfl, hb7⟩
      have B7 := Lib.hid (below_then B6.out hb7)
      have H67 := Lib.hid hb7
      clear hb7 HR6 HCX B6
      go_wp2_with fail
      go_at_call 28
      refine (HFLr.out _ B7.out).mono ?_
      rintro e w8 ⟨a8, c8, rfl, hi8, hb8⟩
      rw [HFLL.out]
      have B8 := Lib.hid (below_then B7.out hb8)
      have H68 := Lib.hid (below_then H67.out hb8)
      clear hb8 hi8 HFLr B7 H67
      have HW0 : Hid (Below w8.heap.size w8 w8) := Below.refl _ _
      have ecast : ((m + FL : Nat) : Int) = (m : Int) + (FL : Int) := by omega
      go_wp2_with fail
      go_loopg [13] (m + 1) (fun g s13 wr => ∃ k : Nat, k ≤ m ∧ m + 1 - k ≤ g ∧ s13 = .int .i64 (k : Int) ∧ Hid (Below w8.heap.size w8 wr))
      case atStart => exact ⟨0, by omega, by omega, rfl, HW0⟩
      case round =>
        clear HW0
        obtain ⟨k, hk, hkg, rfl, HW⟩ := hrel
        have HI8 := Lib.hid (HI6.out wr (below_then H68.out HW.out))
        by_cases hlt : k < m
        · obtain ⟨ad', cap', e1, i1, i2, hc6⟩ := HI8.out
          injection e1 with q1 q2 q3
          subst q1 q3
          obtain ⟨b6, o6, rfl, hb6, cx⟩ := hc6 k x (by rw [List.getElem?_append_left (by rw [List.length_replicate]; omega), List.getElem?_replicate, if_pos (by omega)])
          have k0 : (0 : Int) ≤ (k : Int) := by omega
          have k1 : (k : Int) < ((m + FL : Nat) : Int) := by omega
          have k2 : decide ((k : Int) < (m : Int)) = true := decide_eq_true (by omega)
          have k3 : (k : Int) < (m : Int) + (FL : Int) := by omega
          have k4 : (x != x) = false := by simp
          have k5 : k < m + FL := by omega
          clear hc6 HI8
          go_wp2_with fail
          go_roundg (m + 1 - (k + 1))
          case measure => omega
          case rel => exact ⟨k + 1, by omega, Nat.le_refl _, by go_num, HW⟩
        · have k2 : decide ((k : Int) < (m : Int)) = false := decide_eq_false (by omega)
          have BW := Lib.hid (below_then B8.out HW.out)
          have hdd : RdI wr (.slice (if c6 = m then a6 else Option.map (fun x => Addr.add x m) a6) (m + FL - m) (c6 - m)) (flat p) := by
            have h9 := HI8.out.dropIf (n := m) (by rw [List.length_append, List.length_replicate]; omega)
            rw [show (List.replicate m x ++ flat p).drop m = flat p by rw [List.drop_append_of_le_length (by rw [List.length_replicate]; omega), List.drop_of_length_le (by rw [List.length_replicate]; omega), List.nil_append]] at h9
            exact h9
          obtain ⟨B6, hif6⟩ : ∃ B, (if c6 = m then a6 else Option.map (fun x => Addr.add x m) a6) = B := ⟨_, rfl⟩
          rw [hif6, Nat.add_sub_cancel_left] at hdd
          have HDD : Hid (∀ W, Below wr.heap.size wr W → RdI W (.slice B6 FL (c6 - m)) (flat p)) := fun W hW => hdd.below hW
          have i1 : (m : Int) ≤ ((m + FL : Nat) : Int) := by omega
          have i2 : (m : Int) ≤ (m : Int) + (FL : Int) := by omega
          have hX : Below wr.heap.size wr wr.drew := (Below.refl _ wr).drew
          have HBW : Hid (∀ W, Below wr.heap.size wr W → Below w.heap.size w W) := fun W hW => below_then BW.out hW
          have HSM2 : Hid (∀ W v1 v2, RdI W v1 (flat p) → RdI W v2 (flat p) → Calls Tryz.prog 26 #[v1, v2] W fun e w' => e = .returned (.bool true) ∧ Below W.heap.size W w') := fun W v1 v2 g1 g2 => by
            have h := lsame_any (flat p) (flat p) v1 v2 W g1 g2
            rw [decide_eq_true rfl] at h
            exact h
          have HAW : Hid (∀ W, Below wr.heap.size wr W → Calls Tryz.prog 12 #[] W fun e w' => e = .returned (.bool true) ∧ Below W.heap.size W w') := fun W hW => awake_any W (HT.out _ (HBW.out _ hW))
          have HFC : Hid (∀ W, Below wr.heap.size wr W → Calls Tryz.prog 27 #[.slice ad L cap] W fun e w' => ∃ a c, e = .returned (.slice a FL c) ∧ RdI w' (.slice a FL c) (flat p) ∧ Below W.heap.size W w') := fun W hW => by
            have h := HFLc.out W (HBW.out _ hW)
            rw [HFLL.out] at h
            exact h
          clear hdd HI8 HW HFLc HT HV B8 BW
          go_wp2_with fail

          go_region_held3 (fun W => Below wr.heap.size wr W)
            (first | exact hX | assumption)
            (first
              | (go_at_call 27; refine (HFC.out _ hX).mono ?_; rintro e w10 ⟨A1, C1, rfl, hA, hb⟩; have hk10 : Below wr.heap.size wr w10 := below_then hX hb; have HA := Lib.hid hA; clear hb hA HFC)
              | (go_at_call 26; refine (HSM2.out _ _ _ (HDD.out _ hk10) HA.out).mono ?_; rintro e w11 ⟨rfl, hb⟩; have hk11 : Below wr.heap.size wr w11 := below_then hk10 hb; clear hb HSM2 HA)
              | (go_at_call 12; refine (HAW.out _ hk11).mono ?_; rintro e w12 ⟨rfl, hb⟩; have hk12 : Below wr.heap.size wr w12 := below_then hk11 hb; clear hb HAW))
          all_goals (
            have HB12 := Lib.hid (HBW.out _ hk12)
            go_wp2
            go_ret
            exact ⟨rfl, HB12.out⟩)
  · have e1 : (q != 0) = true := by simpa using hq0
    have HA := Lib.hid (awake_any w3 (HT.out _ B3.out))
    clear HLEN HFLr HFLc HV hq0 R1 HSM
    go_wp2_with fail
    go_at_call 12
    refine HA.out.mono ?_
    rintro e w4 ⟨rfl, hb4⟩
    have B4 := Lib.hid (below_then B3.out hb4)
    clear hb4 HA
    go_wp2
    go_ret
    exact ⟨rfl, B4.out⟩
end
end Go.Proofs.YtiobfgcpbihbhaaGreatDoor
