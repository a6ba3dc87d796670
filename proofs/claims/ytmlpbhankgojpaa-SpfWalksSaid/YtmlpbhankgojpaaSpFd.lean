/-
  Floyd's table round by round: what it holds, and how large its numbers are.
-/
import Derived.Test.YtmlpbhankgojpaaSpF
import Derived.Test.YtmlpbhankgojpaaSpI
namespace Go.Proofs.Ytmlpbhankgojpaa.SP
open GM HM Classical
set_option linter.unusedVariables false
set_option linter.unusedSimpArgs false
/-- a way with at least one edge whose inner nodes are in a list -/
inductive WS (l : List E) (S : List Int) : Int → Int → Int → Prop
  | edge {i k c : Int} (he : (i, k, c) ∈ l) : WS l S i k c
  | more {i u k c d : Int} (h : WS l S i u c) (hu : u ∈ S) (he : (u, k, d) ∈ l) : WS l S i k (c + d)
section
variable {R N : Int} {l : List E} (hv : Valid R N l)
theorem WS.cat {S : List Int} {i j k a b : Int} (h : WS l S i j a) (g : WS l S j k b) (hj : j ∈ S) : WS l S i k (a + b) := by
  induction g with
  | edge he => exact h.more hj he
  | more g hu he ih => rw [← Int.add_assoc]; exact ih.more hu he
theorem WS.front {S : List Int} {i k c : Int} (h : WS l S i k c) : (i, k, c) ∈ l ∨ ∃ x a b, (i, x, a) ∈ l ∧ x ∈ S ∧ WS l S x k b ∧ c = a + b := by
  induction h with
  | edge he => exact .inl he
  | more h hu he ih =>
    rename_i u k c d
    rcases ih with ih | ⟨x, a, b, h1, h2, h3, h4⟩
    · exact .inr ⟨u, c, d, ih, hu, .edge he, rfl⟩
    · exact .inr ⟨x, a, b + d, h1, h2, h3.more hu he, by omega⟩
include hv
theorem WS.nonneg {S : List Int} {i k c : Int} (h : WS l S i k c) : 0 ≤ c := by
  induction h with
  | edge he => exact (SP.edge hv he).2.2.2.2.2.1
  | more h hu he ih => have := (SP.edge hv he).2.2.2.2.2.1; omega
theorem WS.lastV {S : List Int} {x k c : Int} (h : WS l S x k c) : ∃ d, WS l (S.filter (fun y => decide (y ≠ x))) x k d ∧ d ≤ c := by
  induction h with
  | edge he => exact ⟨_, .edge he, Int.le_refl _⟩
  | more h hu he ih =>
    rename_i u k c d
    by_cases e : u = x
    · subst e
      exact ⟨d, .edge he, by have := h.nonneg hv; omega⟩
    · obtain ⟨d', h1, h2⟩ := ih
      exact ⟨d' + d, h1.more (List.mem_filter.2 ⟨hu, by simpa using e⟩) he, by omega⟩
theorem WS.short : ∀ (n : Nat) (S : List Int), S.length ≤ n → ∀ {i k c : Int}, WS l S i k c → ∃ d, WS l S i k d ∧ d ≤ c ∧ d ≤ 65535 * ((n : Int) + 1) := by
  intro n
  induction n with
  | zero =>
    intro S hS i k c h
    rcases h.front with h1 | ⟨x, a, b, _, h2, _⟩
    · exact ⟨c, .edge h1, Int.le_refl _, by have := (SP.edge hv h1).2.2.2.2.2.2.1; omega⟩
    · have : S = [] := List.length_eq_zero_iff.1 (by omega)
      subst this; simp at h2
  | succ n ih =>
    intro S hS i k c h
    rcases h.front with h1 | ⟨x, a, b, h1, h2, h3, h4⟩
    · exact ⟨c, .edge h1, Int.le_refl _, by have := (SP.edge hv h1).2.2.2.2.2.2.1; omega⟩
    · obtain ⟨b', g1, g2⟩ := h3.lastV hv
      have hlt : (S.filter (fun y => decide (y ≠ x))).length < S.length := by
        refine Nat.lt_of_le_of_ne (List.length_filter_le _ _) fun e => ?_
        have := (List.length_filter_eq_length_iff.1 e) x h2
        simp at this
      obtain ⟨d, k1, k2, k3⟩ := ih _ (by omega) g1
      have sub : ∀ {p q e : Int}, WS l (S.filter (fun y => decide (y ≠ x))) p q e → WS l S p q e := fun h => by
        induction h with
        | edge he => exact .edge he
        | more h hu he ih => exact (ih).more (List.mem_filter.1 hu).1 he
      refine ⟨a + d, (WS.edge h1).cat (sub k1) h2, by omega, ?_⟩
      have := (SP.edge hv h1).2.2.2.2.2.2.1
      have e : (65535 : Int) * (((n + 1 : Nat) : Int) + 1) = 65535 * ((n : Int) + 1) + 65535 := by
        rw [Int.natCast_add, Int.natCast_one, Int.mul_add]; omega
      omega
theorem WI.ws {m : Nat} {i k c : Int} (h : WI l (m : Int) i k c) (hn : 0 ≤ i ∧ i < R + N) : (i = k ∧ c = 0) ∨ WS l ((List.range m).map (fun j : Nat => (j : Int))) i k c := by
  induction h with
  | nil => exact .inl ⟨rfl, rfl⟩
  | edge he => exact .inr (.edge he)
  | cat h g hj ih1 ih2 =>
    rename_i i j k a b
    have hj0 := h.node hv hn
    have ih1 := ih1 hn
    have ih2 := ih2 hj0
    rcases ih1 with ⟨rfl, rfl⟩ | ih1
    · rw [Int.zero_add]; exact ih2
    · rcases ih2 with ⟨rfl, rfl⟩ | ih2
      · rw [Int.add_zero]; exact .inr ih1
      · refine .inr (ih1.cat ih2 ?_)
        refine List.mem_map.2 ⟨j.toNat, List.mem_range.2 (by omega), by omega⟩
omit hv in
theorem WS.wi {m : Nat} {i k c : Int} (h : WS l ((List.range m).map (fun j : Nat => (j : Int))) i k c) : WI l (m : Int) i k c := by
  induction h with
  | edge he => exact .edge he
  | more h hu he ih =>
    obtain ⟨j, h1, h2⟩ := List.mem_map.1 hu
    have := List.mem_range.1 h1
    exact ih.cat (.edge he) (by omega)
theorem WI.short {m : Nat} {i k c : Int} (h : WI l (m : Int) i k c) (hn : 0 ≤ i ∧ i < R + N) : ∃ d, WI l (m : Int) i k d ∧ d ≤ 65535 * ((m : Int) + 1) := by
  rcases h.ws hv hn with ⟨rfl, rfl⟩ | h
  · exact ⟨0, .nil, by omega⟩
  · obtain ⟨d, h1, _, h3⟩ := h.short hv m _ (by simp)
    exact ⟨d, h1.wi, h3⟩
theorem T_small {n : Nat} (hn : (n : Int) = R + N) {i k : Int} (hi : 0 ≤ i ∧ i < R + N) (h : 0 ≤ T l i k) : T l i k ≤ 65535 * ((n : Int) + 1) := by
  have hw := WI.of hv (T_way hv h).1
  rw [← hn] at hw
  obtain ⟨d, h1, h2⟩ := hw.short hv hi
  have := (T_le hv h1.way).2
  omega
end
def at2 (tab : List (List Int)) (i k : Nat) : Int := gI (gL tab i) k
def setT (tab : List (List Int)) (i k : Nat) (x : Int) : List (List Int) := tab.set i ((gL tab i).set k x)
structure Tb (n : Nat) (tab : List (List Int)) : Prop where
  len : tab.length = n
  row : ∀ i, i < n → (gL tab i).length = n
theorem Tb.set {n : Nat} {tab : List (List Int)} (h : Tb n tab) {i : Nat} (hi : i < n) (k : Nat) (x : Int) : Tb n (setT tab i k x) := by
  refine ⟨by simp [setT, h.len], fun j hj => ?_⟩
  unfold setT
  rw [gL_set (by rw [h.len]; exact hi)]
  split
  · simp [h.row i hi]
  · exact h.row j hj
theorem at2_set {n : Nat} {tab : List (List Int)} (h : Tb n tab) {i k : Nat} (hi : i < n) (hk : k < n) (x : Int) (a b : Nat) : at2 (setT tab i k x) a b = if a = i ∧ b = k then x else at2 tab a b := by
  unfold at2 setT
  rw [gL_set (by rw [h.len]; exact hi)]
  by_cases e : a = i
  · rw [if_pos e, gI_set (by rw [h.row i hi]; exact hk)]
    by_cases e2 : b = k
    · rw [if_pos e2, if_pos ⟨e, e2⟩]
    · rw [if_neg e2, if_neg (fun h => e2 h.2), e]
  · rw [if_neg e, if_neg (fun h => e h.1)]
/-- the table as a function of integers -/
def fn2 (tab : List (List Int)) : Int → Int → Int := fun i k => at2 tab i.toNat k.toNat
theorem GoodA.congr {R N : Int} {l : List E} {D D' : Int → Int → Int} (h : GoodA R N l D) (he : ∀ i k, 0 ≤ i → i < R + N → 0 ≤ k → k < R + N → D' i k = D i k) : GoodA R N l D' := fun i k a b c d => by rw [he i k a b c d]; exact h i k a b c d
theorem AtM.congr {l : List E} {m i k : Int} {D D' : Int → Int → Int} (h : AtM l m D i k) (he : D' i k = D i k) : AtM l m D' i k := fun c hc => by rw [he]; exact h c hc
/-- the table in round m before the entry (i, k) -/
structure FwR (R N : Int) (l : List E) (n m i k : Nat) (tab : List (List Int)) : Prop where
  tb : Tb n tab
  g : GoodA R N l (fn2 tab)
  a : ∀ a b : Nat, a < n → b < n → AtM l (m : Int) (fn2 tab) a b
  b : ∀ a b : Nat, a < n → b < n → a < i ∨ (a = i ∧ b < k) → AtM l ((m : Int) + 1) (fn2 tab) a b
  x : ∀ a b : Nat, a < n → b < n → 0 ≤ at2 tab a b → ∃ c, WI l ((m : Int) + 1) a b c
  y : ∀ a b : Nat, a < n → b < n → a = m ∨ b = m → 0 ≤ at2 tab a b → ∃ c, WI l (m : Int) a b c
theorem WI.mono {l : List E} {m m' i k c : Int} (h : WI l m i k c) (hm : m ≤ m') : WI l m' i k c := by
  induction h with
  | nil => exact .nil
  | edge he => exact .edge he
  | cat h g hj ih1 ih2 => exact ih1.cat ih2 (by omega)
theorem fn2_nat (tab : List (List Int)) (a b : Nat) : fn2 tab (a : Int) (b : Int) = at2 tab a b := rfl
section
variable {R N : Int} {l : List E} (hv : Valid R N l) {n m i k : Nat} {tab : List (List Int)}
/-- the first table -/
def Fw0 (R N : Int) (l : List E) (n : Nat) (tab : List (List Int)) : Prop := Tb n tab ∧ ∀ a b : Nat, a < n → b < n → at2 tab a b = start2 l a b
include hv
theorem Fw0.start (hn : (n : Int) = R + N) (h : Fw0 R N l n tab) : FwR R N l n 0 0 0 tab := by
  have e : ∀ i k : Int, 0 ≤ i → i < R + N → 0 ≤ k → k < R + N → fn2 tab i k = start2 l i k := fun i k i0 i1 k0 k1 => by
    have := h.2 i.toNat k.toNat (by omega) (by omega)
    unfold fn2; rw [this]
    rw [show ((i.toNat : Nat) : Int) = i by omega, show ((k.toNat : Nat) : Int) = k by omega]
  have ex : ∀ a b : Nat, a < n → b < n → 0 ≤ at2 tab a b → WI l 0 a b (at2 tab a b) := fun a b ha hb h0 => by
    rw [h.2 a b ha hb] at h0 ⊢
    unfold start2 at h0 ⊢
    by_cases e : (a : Int) = b
    · rw [if_pos e] at h0 ⊢; rw [e]; exact .nil
    · rw [if_neg e] at h0 ⊢
      rcases find_edge (l := l) (i := a) (k := b) with ⟨c, h1, h2⟩ | ⟨h1, h2⟩
      · rw [h2]; exact .edge h1
      · rw [h2] at h0; simp at h0
  refine ⟨h.1, (start_good hv).congr e, fun a b ha hb => (start_at hv _ _ (by omega)).congr (e _ _ (by omega) (by omega) (by omega) (by omega)), fun a b ha hb hh => (by omega), fun a b ha hb h0 => ⟨_, (ex a b ha hb h0).mono (by omega)⟩, fun a b ha hb _ h0 => ⟨_, ex a b ha hb h0⟩⟩
/-- the numbers that are added are small -/
theorem FwR.small (hn : (n : Int) = R + N) (h : FwR R N l n m i k tab) (hm : m < n) {a b : Nat} (ha : a < n) (hb : b < n) (hab : a = m ∨ b = m) (h0 : 0 ≤ at2 tab a b) : at2 tab a b ≤ 65535 * ((m : Int) + 1) := by
  obtain ⟨c, hc⟩ := h.y a b ha hb hab h0
  obtain ⟨d, h1, h2⟩ := hc.short hv (by omega)
  have := (h.a a b ha hb d h1).2
  rw [fn2_nat] at this
  omega
theorem FwR.put (hn : (n : Int) = R + N) (h : FwR R N l n m i k tab) (hm : m < n) (hi : i < n) (hk : k < n) (h1 : 0 ≤ at2 tab i m) (h2 : 0 ≤ at2 tab m k) (hlt : at2 tab i k < 0 ∨ at2 tab i m + at2 tab m k < at2 tab i k) :
    FwR R N l n m i (k + 1) (setT tab i k (at2 tab i m + at2 tab m k)) := by
  have him : i ≠ m := by rintro rfl; omega
  have hkm : k ≠ m := by rintro rfl; omega
  have e : ∀ a b : Int, 0 ≤ a → a < R + N → 0 ≤ b → b < R + N → fn2 (setT tab i k (at2 tab i m + at2 tab m k)) a b = put2 (fn2 tab) (i : Int) (k : Int) (fn2 tab i m + fn2 tab m k) a b := fun a b a0 a1 b0 b1 => by
    unfold fn2 put2
    rw [at2_set h.tb hi hk]
    by_cases q : a = i ∧ b = k
    · rw [if_pos q, if_pos (by omega)]; rfl
    · rw [if_neg q, if_neg (by omega)]
  have e' : ∀ a b : Nat, a < n → b < n → fn2 (setT tab i k (at2 tab i m + at2 tab m k)) (a : Int) (b : Int) = put2 (fn2 tab) (i : Int) (k : Int) (fn2 tab i m + fn2 tab m k) a b := fun a b ha hb => e a b (by omega) (by omega) (by omega) (by omega)
  have hb' : fn2 tab i k < 0 ∨ fn2 tab i m + fn2 tab m k < fn2 tab i k := hlt
  have h1' : 0 ≤ fn2 tab i m := h1
  have h2' : 0 ≤ fn2 tab m k := h2
  refine ⟨h.tb.set hi _ _, (h.g.put ⟨by omega, by omega⟩ ⟨by omega, by omega⟩ ⟨by omega, by omega⟩ h1' h2').congr e, fun a b ha hb => ((h.a a b ha hb).put (by omega) hb').congr (e' a b ha hb), fun a b ha hb hh => ?_, fun a b ha hb h0 => ?_, fun a b ha hb hab h0 => ?_⟩
  · by_cases q : a = i ∧ b = k
    · obtain ⟨rfl, rfl⟩ := q
      exact (AtM.nextPut hv (h.a a b ha hb) (h.a a m ha hm) (h.a m b hm hb) h1' h2' hb').congr (e' a b ha hb)
    · exact ((h.b a b ha hb (by omega)).put (by omega) hb').congr (e' a b ha hb)
  · rw [at2_set h.tb hi hk] at h0
    by_cases q : a = i ∧ b = k
    · obtain ⟨rfl, rfl⟩ := q
      obtain ⟨c1, w1⟩ := h.y a m ha hm (.inr rfl) h1
      obtain ⟨c2, w2⟩ := h.y m b hm hb (.inl rfl) h2
      exact ⟨_, (w1.mono (m' := (m : Int) + 1) (by omega)).cat (w2.mono (by omega)) (by omega)⟩
    · rw [if_neg q] at h0; exact h.x a b ha hb h0
  · rw [at2_set h.tb hi hk, if_neg (by omega)] at h0
    exact h.y a b ha hb hab h0
theorem FwR.leave (h : FwR R N l n m i k tab) (hm : m < n) (hi : i < n) (hk : k < n) (hs : 0 ≤ at2 tab i m → 0 ≤ at2 tab m k → 0 ≤ at2 tab i k ∧ at2 tab i k ≤ at2 tab i m + at2 tab m k) : FwR R N l n m i (k + 1) tab :=
  ⟨h.tb, h.g, h.a, fun a b ha hb hh => by
    by_cases q : a = i ∧ b = k
    · obtain ⟨rfl, rfl⟩ := q
      exact AtM.next hv (h.a a b ha hb) (h.a a m ha hm) (h.a m b hm hb) hs
    · exact h.b a b ha hb (by omega), h.x, h.y⟩
omit hv in
theorem FwR.row (h : FwR R N l n m i n tab) : FwR R N l n m (i + 1) 0 tab :=
  ⟨h.tb, h.g, h.a, fun a b ha hb hh => h.b a b ha hb (by omega), h.x, h.y⟩
theorem FwR.skip (h : FwR R N l n m i 0 tab) (hm : m < n) (hi : i < n) (hs : at2 tab i m < 0) : FwR R N l n m (i + 1) 0 tab :=
  ⟨h.tb, h.g, h.a, fun a b ha hb hh => by
    by_cases q : a = i
    · subst q
      exact AtM.next hv (h.a a b ha hb) (h.a a m ha hm) (h.a m b hm hb) fun h1 => absurd h1 (by rw [fn2_nat]; omega)
    · exact h.b a b ha hb (by omega), h.x, h.y⟩
omit hv in
theorem FwR.round (h : FwR R N l n m n 0 tab) : FwR R N l n (m + 1) 0 0 tab :=
  ⟨h.tb, h.g, fun a b ha hb => h.b a b ha hb (.inl ha), fun a b ha hb hh => (by omega), fun a b ha hb h0 => by
    obtain ⟨c, hc⟩ := h.x a b ha hb h0
    exact ⟨c, hc.mono (by omega)⟩, fun a b ha hb _ h0 => h.x a b ha hb h0⟩
theorem FwR.dist (hn : (n : Int) = R + N) (h : FwR R N l n n 0 0 tab) {a b : Nat} (ha : a < n) (hb : b < n) : at2 tab a b = T l a b := by
  have key := dist_of (i := (a : Int)) (k := (b : Int)) hv h.g (fun i k i0 i1 k0 k1 => ?_) (by omega) (by omega) (by omega) (by omega)
  · exact key
  have := h.a i.toNat k.toNat (by omega) (by omega)
  rwa [show ((i.toNat : Nat) : Int) = i by omega, show ((k.toNat : Nat) : Int) = k by omega, hn] at this
end
end Go.Proofs.Ytmlpbhankgojpaa.SP
