/-
  The walks of divide, common.
-/
import Derived.Test.YtiobfgcpbihbhaaGreatDoorAsJ
import Derived.BigQuiet
namespace Go.Proofs.YtiobfgcpbihbhaaGreatDoor
open Go.RowKit P
set_option linter.unusedSimpArgs false
set_option linter.unusedVariables false
set_option maxHeartbeats 4000000
set_option maxRecDepth 100000
theorem while_take {α : Type} {q : α → Bool} : ∀ {p : List α} {k : Nat}, (∀ j s, j < k → p[j]? = some s → q s = true) → (∀ s, p[k]? = some s → q s = false) → k ≤ p.length → p.takeWhile q = p.take k ∧ p.dropWhile q = p.drop k
  | [], k, _, _, hk => by simp
  | a :: p, 0, _, h2, _ => by
    have := h2 a rfl
    simp [List.takeWhile_cons, List.dropWhile_cons, this]
  | a :: p, k + 1, h1, h2, hk => by
    have h0 := h1 0 a (by omega) rfl
    obtain ⟨e1, e2⟩ := @while_take _ q p k (fun j s hj hs => h1 (j + 1) s (by omega) (by simpa using hs)) (fun s hs => h2 s (by simpa using hs)) (by simpa using hk)
    rw [List.takeWhile_cons, List.dropWhile_cons, h0, e1, e2]
    exact ⟨rfl, rfl⟩
theorem RdS.take {w : World} {b off n cap : Nat} {p : List Sg} (h : RdS w (.slice (some ⟨b, off, none⟩) n cap) p) (k : Nat) (hk : k ≤ p.length) (c : Nat) (hc1 : k ≤ c) (hc2 : c ≤ 9223372036854775807) : RdS w (.slice (some ⟨b, off, none⟩) k c) (p.take k) := by
  obtain ⟨ad, cap', e, h1, h2, hc⟩ := h
  cases e
  have e1 : (p.take k).length = k := by rw [List.length_take]; omega
  refine ⟨_, _, by rw [e1], by rw [e1]; exact hc1, ⟨hc2, fun e => by cases e⟩, fun j s hj => ?_⟩
  rw [List.getElem?_take] at hj
  split at hj
  · exact hc j s hj
  · cases hj
theorem RdS.drop {w : World} {b off n cap : Nat} {p : List Sg} (h : RdS w (.slice (some ⟨b, off, none⟩) n cap) p) (k : Nat) (hk : k ≤ p.length) (m : Nat) (hm : m = p.length - k) (c : Nat) (hc1 : m ≤ c) (hc2 : c ≤ 9223372036854775807) : RdS w (.slice (some ⟨b, off + k * 2, none⟩) m c) (p.drop k) := by
  obtain ⟨ad, cap', e, h1, h2, hc⟩ := h
  cases e
  have e1 : (p.drop k).length = m := by rw [List.length_drop]; omega
  refine ⟨_, _, by rw [e1], by rw [e1]; exact hc1, ⟨hc2, fun e => by cases e⟩, fun j s hj => ?_⟩
  rw [List.getElem?_drop] at hj
  obtain ⟨b', off', u, e2, a1, a2, a3, a4⟩ := hc (k + j) s hj
  cases e2
  exact ⟨b, _, u, rfl, a1, by rw [← a2]; congr 2; omega, by rw [← a3]; congr 2; omega, a4⟩
theorem rds_empty {w : World} {ad : Option Addr} {cap : Nat} (h : cap ≤ 9223372036854775807 ∧ (ad = none → cap = 0)) : RdS w (.slice ad 0 cap) [] := ⟨ad, cap, rfl, Nat.zero_le _, h, fun k s hk => by simp at hk⟩
/-- what divide leaves -/
def DivE (w0 w : World) (p : List Sg) (kd : Int) (w' : World) (v : Value) : Prop := ∃ a1 n1 c1 a2 n2 c2, v = .tuple #[.slice a1 n1 c1, .slice a2 n2 c2] ∧ RdS w0 (.slice a1 n1 c1) (p.takeWhile fun s => decide (kd = s.k)) ∧ RdS w0 (.slice a2 n2 c2) (p.dropWhile fun s => decide (kd = s.k)) ∧ Below w.heap.size w w'
theorem div_nil0 (v : Value) (kd : Int) (w0 w : World) (hr : RdS w v []) : Calls Tryz.prog 54 #[v, .int .i64 kd] w fun e w' => ∃ v', e = .returned v' ∧ DivE w0 w [] kd w' v' := by
  obtain ⟨ad, cap, rfl, h1, h2, hc⟩ := hr
  have HN := Lib.hid h2.2
  have hcap := h2.1
  have HD : Hid (∀ n, DivE w0 w [] kd (w.drewN n) (.tuple #[.slice ad 0 0, .slice ad 0 cap])) := fun n => ⟨_, _, _, _, _, _, rfl, rds_empty ⟨by omega, fun _ => rfl⟩, rds_empty h2, below_drewN (Below.refl _ _) n⟩
  clear hc h2 h1
  go_enter Tryz.func54, Tryz.ntmps54
  go_wp2_with fail
  refine wp_loop_rounds 1 ?_
  rw [rounds_succ]
  go_wp2_with fail
  go_quiet (fail)
  go_wp2
  go_ret2
  exact ⟨_, rfl, HD.out _⟩
theorem div_some0 (p : List Sg) (b off n cap : Nat) (kd : Int) (w0 w : World) (hr0 : RdS w0 (.slice (some ⟨b, off, none⟩) n cap) p) (hr : RdS w (.slice (some ⟨b, off, none⟩) n cap) p) (hn : p.length = n) (hl : n ≤ 2000000) : Calls Tryz.prog 54 #[.slice (some ⟨b, off, none⟩) n cap, .int .i64 kd] w fun e w' => ∃ v', e = .returned v' ∧ DivE w0 w p kd w' v' := by
  have HR := Lib.hid hr0
  obtain ⟨ad, cap', e, h1, h2, hc⟩ := hr
  injection e with e1 e2 e3
  subst e1 e3
  clear e2
  have HC := Lib.hid hc
  have HN := Lib.hid hn
  have hcap := h2.1
  rw [hn] at h1
  have HS0 : Hid (∀ j s, j < 0 → p[j]? = some s → decide (kd = s.k) = true) := fun j s h => by omega
  have HB0 : Hid (Below w.heap.size w w) := Below.refl _ _
  have HD : Hid (∀ W k, Below w.heap.size w W → k ≤ n → (∀ j s, j < k → p[j]? = some s → decide (kd = s.k) = true) → (∀ s, p[k]? = some s → decide (kd = s.k) = false) → DivE w0 w p kd W (.tuple #[.slice (some ⟨b, off, none⟩) k k, .slice (some ⟨b, off + k * 2, none⟩) (n - k) (cap - k)])) := fun W k hW hk ha hb => by
    obtain ⟨e1, e2⟩ := while_take ha hb (by rw [HN.out]; exact hk)
    refine ⟨_, _, _, _, _, _, rfl, ?_, ?_, hW⟩
    · rw [e1]; exact HR.out.take k (by rw [HN.out]; exact hk) k (Nat.le_refl _) (by omega)
    · rw [e2]; exact HR.out.drop k (by rw [HN.out]; exact hk) (n - k) (by rw [HN.out]) (cap - k) (by omega) (by omega)
  clear hc h2 hn hr0
  go_enter Tryz.func54, Tryz.ntmps54
  go_wp2_with fail
  go_loopg [6] (n + 1) (fun g s6 wr => ∃ k : Nat, k ≤ n ∧ n + 1 - k ≤ g ∧ s6 = .int .i64 (k : Int) ∧ Hid (∀ j s, j < k → p[j]? = some s → decide (kd = s.k) = true) ∧ Hid (Below w.heap.size w wr))
  case atStart => exact ⟨0, by omega, by omega, rfl, HS0, HB0⟩
  case round =>
    clear HS0 HB0
    obtain ⟨k, hk, hkg, rfl, HS, HB⟩ := hrel
    have k0 : (0 : Int) ≤ (k : Int) := by omega
    have k3 : (k : Int) ≤ (n : Int) := by omega
    have k4 : (n : Int) ≤ (cap : Int) := by omega
    have k5 : (k : Int) ≤ (cap : Int) := by omega
    by_cases hlt : k < n
    · obtain ⟨s, hs⟩ : ∃ s, p[k]? = some s := ⟨_, List.getElem?_eq_getElem (by have := HN.out; omega)⟩
      have HSK := Lib.hid hs
      obtain ⟨b', off', u, e', hb, c0, c1, hu⟩ := HC.out k s hs
      cases e'
      have d0 := carry HB.out c0
      have d1 := carry HB.out c1
      obtain ⟨uad, ucap, hf⟩ := hu.form
      subst hf
      generalize s.as.length = L at *
      have k1 : (k : Int) < (n : Int) := by omega
      have HR1 : Hid (RdI (wr.alloc (.cells #[.int .i64 kd] 3)) (.slice (some ⟨wr.heap.size, 0, none⟩) 1 1) [kd]) := rdi_at _ [kd] 3 _ rfl _ rfl _ rfl (by simp)
      have HB1 : Hid (Below w.heap.size w (wr.alloc (.cells #[.int .i64 kd] 3))) := below_then HB.out (below_alloc _ _)
      clear hs c0 c1 hu HB
      go_wp2_with fail
      go_at_call 44
      refine (isOf_any s.k (.slice uad L ucap) _ [kd] _ HR1.out rfl).mono ?_
      rintro e w1 ⟨rfl, hbb⟩
      rw [mem1]
      have HB2 := Lib.hid (below_then HB1.out hbb)
      clear hbb HB1 HR1
      by_cases hq : s.k = kd
      · rw [decide_eq_true hq]
        have HS2 : Hid (∀ j s, j < k + 1 → p[j]? = some s → decide (kd = s.k) = true) := fun j s' hj hs' => by
          by_cases e : j = k
          · subst e; have := HSK.out; rw [hs'] at this; cases this; exact decide_eq_true hq.symm
          · exact HS.out j s' (by omega) hs'
        clear HS HSK hq
        go_wp2_with fail
        go_roundg (n + 1 - (k + 1))
        case measure => omega
        case rel => exact ⟨k + 1, by omega, Nat.le_refl _, by go_num, HS2, HB2⟩
      · rw [decide_eq_false hq]
        have HZ : Hid (∀ W, Below w.heap.size w W → DivE w0 w p kd W (.tuple #[.slice (some ⟨b, off, none⟩) k k, .slice (some ⟨b, off + k * 2, none⟩) (n - k) (cap - k)])) := fun W hW => HD.out W k hW hk HS.out (fun s' hs' => by have := HSK.out; rw [hs'] at this; cases this; exact decide_eq_false (fun e => hq e.symm))
        clear HS HSK hq HD
        go_wp2_with fail
        go_quiet (fail)
        go_wp2
        go_ret2
        exact ⟨_, rfl, HZ.out _ (below_drewN HB2.out _)⟩
    · have hkn : k = n := by omega
      subst hkn
      have k1 : decide ((k : Int) < (k : Int)) = false := decide_eq_false (by omega)
      have HW : Hid ((p.takeWhile fun s => decide (kd = s.k)) = p.take k ∧ (p.dropWhile fun s => decide (kd = s.k)) = []) := by
        obtain ⟨e1, e2⟩ := while_take HS.out (fun s' hs' => by have := (List.getElem?_eq_some_iff.1 hs').1; have := HN.out; omega) (by rw [HN.out]; exact Nat.le_refl _)
        exact ⟨e1, by rw [e2, List.drop_eq_nil_of_le (by rw [HN.out]; exact Nat.le_refl _)]⟩
      have HZ : Hid (∀ W ad2 c2, Below w.heap.size w W → c2 ≤ 9223372036854775807 → ad2 ≠ none → DivE w0 w p kd W (.tuple #[.slice (some ⟨b, off, none⟩) k k, .slice ad2 0 c2])) := fun W ad2 c2 hW hc2 ha2 => by
        refine ⟨_, _, _, _, _, _, rfl, ?_, ?_, hW⟩
        · rw [HW.out.1]; exact HR.out.take k (by rw [HN.out]; exact Nat.le_refl _) k (Nat.le_refl _) (by omega)
        · rw [HW.out.2]; exact rds_empty ⟨hc2, fun e => absurd e ha2⟩
      have e9 : k - k = 0 := by omega
      clear HS HD HW
      by_cases hcn : cap = k
      · subst hcn
        go_wp2_with fail
        go_quiet (fail)
        go_wp2
        go_ret2
        exact ⟨_, rfl, HZ.out _ _ _ (below_drewN HB.out _) (by omega) (by simp)⟩
      · have hck : k < cap := by omega
        have k6 : (k : Int) < (cap : Int) := by omega
        have k7 : 0 < cap - k := by omega
        have k8 : ¬ cap = k := hcn
        have k9 : ¬ (cap : Int) = (k : Int) := by omega
        go_wp2_with fail
        go_quiet (fail)
        go_wp2
        go_ret2
        exact ⟨_, rfl, HZ.out _ _ _ (below_drewN HB.out _) (by omega) (by simp)⟩
theorem div_ent (p : List Sg) (v : Value) (kd : Int) (w0 w : World) (hr : RdS w0 v p) (hb : Below w0.heap.size w0 w) (hl : p.length ≤ 2000000) : Calls Tryz.prog 54 #[v, .int .i64 kd] w fun e w' => ∃ v', e = .returned v' ∧ DivE w0 w p kd w' v' := by
  cases p with
  | nil => exact div_nil0 v kd w0 w (hr.below hb)
  | cons s r =>
    obtain ⟨ad, cap, e, h1, h2, hc⟩ := id hr
    obtain ⟨b, off, u, rfl, _⟩ := hc 0 s rfl
    subst e
    exact div_some0 (s :: r) b off _ cap kd w0 w hr (hr.below hb) rfl hl
/-- what divide leaves -/
def DivR (w : World) (p : List Sg) (kd : Int) (w' : World) (v : Value) : Prop := ∃ a1 n1 c1 a2 n2 c2, v = .tuple #[.slice a1 n1 c1, .slice a2 n2 c2] ∧ RdS w' (.slice a1 n1 c1) (p.takeWhile fun s => decide (kd = s.k)) ∧ RdS w' (.slice a2 n2 c2) (p.dropWhile fun s => decide (kd = s.k)) ∧ Below w.heap.size w w'
theorem div_any (p : List Sg) (v : Value) (kd : Int) (w : World) (hr : RdS w v p) (hl : p.length ≤ 2000000) : Calls Tryz.prog 54 #[v, .int .i64 kd] w fun e w' => ∃ v', e = .returned v' ∧ DivR w p kd w' v' := by
  refine (div_ent p v kd w w hr (Below.refl _ _) hl).mono ?_
  rintro e w' ⟨v', he, a1, n1, c1, a2, n2, c2, hv, h1, h2, hb⟩
  exact ⟨v', he, a1, n1, c1, a2, n2, c2, hv, h1.below hb, h2.below hb, hb⟩
end Go.Proofs.YtiobfgcpbihbhaaGreatDoor
