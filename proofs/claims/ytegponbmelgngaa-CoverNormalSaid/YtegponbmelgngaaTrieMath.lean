/-
  Plain facts on tries: a tree's shape, its entries in order, putting, dropping, the entries above and under a prefix.
-/
import Derived.Test.YtegponbmelgngaaPMath
namespace Go.Proofs.Ytegponbmelgngaa
set_option linter.unusedSimpArgs false
set_option linter.unusedVariables false

/-- an entry: its prefix and its value -/
abbrev En : Type := PP × Int
abbrev AscE (l : List En) : Prop := l.Pairwise (fun x y => ltP x.1 y.1)
inductive Sh where
  | nil : Sh
  | node (p : PP) (v : Int) (s : Bool) (l r : Sh) : Sh
def prefs : Sh → List PP
  | .nil => []
  | .node p _ _ l r => p :: (prefs l ++ prefs r)
def ents : Sh → List En
  | .nil => []
  | .node p v s l r => (if s then [(p, v)] else []) ++ (ents l ++ ents r)
/-- all prefixes of the tree lie strictly below p, on side b -/
def Un (p : PP) (b : Nat) (T : Sh) : Prop := ∀ q ∈ prefs T, C p q = true ∧ p.2 < q.2 ∧ atZ q.1 p.2 = b
def WF : Sh → Prop
  | .nil => True
  | .node p _ _ l r => PV p ∧ Un p 0 l ∧ Un p 1 r ∧ WF l ∧ WF r

theorem ents_node (p : PP) (v : Int) (s : Bool) (l r : Sh) : ents (.node p v s l r) = (if s then [(p, v)] else []) ++ (ents l ++ ents r) := rfl
theorem ents_pref : ∀ (T : Sh) (x : En), x ∈ ents T → x.1 ∈ prefs T
  | .nil, x, h => by simp [ents] at h
  | .node p v s l r, x, h => by
    simp only [ents, List.mem_append] at h
    simp only [prefs, List.mem_cons, List.mem_append]
    rcases h with h | h | h
    · cases s <;> simp at h; left; rw [h]
    · right; left; exact ents_pref l x h
    · right; right; exact ents_pref r x h
theorem asc_app {l m : List En} (hl : AscE l) (hm : AscE m) (h : ∀ x ∈ l, ∀ y ∈ m, ltP x.1 y.1) : AscE (l ++ m) :=
  List.pairwise_append.2 ⟨hl, hm, h⟩
theorem ents_asc : ∀ {T : Sh}, WF T → AscE (ents T)
  | .nil, _ => List.Pairwise.nil
  | .node p v s l r, h => by
    obtain ⟨hp, hl, hr, wl, wr⟩ := h
    refine asc_app (by cases s <;> simp) (asc_app (ents_asc wl) (ents_asc wr) ?_) ?_
    · intro x hx y hy
      have a := hl _ (ents_pref _ _ hx)
      have b := hr _ (ents_pref _ _ hy)
      exact sides_lt a.1 b.1 a.2.1 b.2.1 a.2.2 b.2.2
    · intro x hx y hy
      cases s <;> simp at hx
      subst hx
      rcases List.mem_append.1 hy with hy | hy
      · have a := hl _ (ents_pref _ _ hy); exact C_lt a.1 a.2.1
      · have a := hr _ (ents_pref _ _ hy); exact C_lt a.1 a.2.1
theorem asc_ext : ∀ {l m : List En}, AscE l → AscE m → (∀ x, x ∈ l ↔ x ∈ m) → l = m
  | [], [], _, _, _ => rfl
  | [], y :: m, _, _, h => by have := (h y).2 (by simp); simp at this
  | x :: l, [], _, _, h => by have := (h x).1 (by simp); simp at this
  | x :: l, y :: m, hl, hm, h => by
    have hl' := List.pairwise_cons.1 hl
    have hm' := List.pairwise_cons.1 hm
    have e : x = y := by
      rcases List.mem_cons.1 ((h x).1 (by simp)) with h1 | h1
      · exact h1
      · rcases List.mem_cons.1 ((h y).2 (by simp)) with h2 | h2
        · exact h2.symm
        · exact absurd (ltP_trans (hm'.1 x h1) (hl'.1 y h2)) (ltP_irrefl _)
    subst e
    congr 1
    refine asc_ext hl'.2 hm'.2 fun z => ⟨fun hz => ?_, fun hz => ?_⟩
    · rcases List.mem_cons.1 ((h z).1 (List.mem_cons_of_mem _ hz)) with h1 | h1
      · exact absurd (hl'.1 z hz) (h1 ▸ ltP_irrefl _)
      · exact h1
    · rcases List.mem_cons.1 ((h z).2 (List.mem_cons_of_mem _ hz)) with h1 | h1
      · exact absurd (hm'.1 z hz) (h1 ▸ ltP_irrefl _)
      · exact h1

/-- the entry put into a list -/
def insE (l : List En) (e : En) : List En := l.filter (fun x => decide (ltP x.1 e.1)) ++ e :: l.filter (fun x => decide (ltP e.1 x.1))
/-- the list without the entry of a prefix -/
def delE (l : List En) (p : PP) : List En := l.filter (fun x => decide (x.1 ≠ p))
/-- whether the list has an entry for a prefix -/
def hasE (l : List En) (p : PP) : Bool := l.any (fun x => decide (x.1 = p))
theorem asc_filter {l : List En} (f : En → Bool) (h : AscE l) : AscE (l.filter f) := h.sublist List.filter_sublist
theorem mem_insE {l : List En} {e x : En} : x ∈ insE l e ↔ x = e ∨ (x ∈ l ∧ x.1 ≠ e.1) := by
  unfold insE
  simp only [List.mem_append, List.mem_cons, List.mem_filter, decide_eq_true_eq]
  constructor
  · rintro (⟨h1, h2⟩ | h | ⟨h1, h2⟩)
    · exact .inr ⟨h1, ltP_ne h2⟩
    · exact .inl h
    · exact .inr ⟨h1, fun e => ltP_ne h2 e.symm⟩
  · rintro (h | ⟨h1, h2⟩)
    · exact .inr (.inl h)
    · rcases ltP_or x.1 e.1 with h | h | h
      · exact .inl ⟨h1, h⟩
      · exact absurd h h2
      · exact .inr (.inr ⟨h1, h⟩)
theorem asc_insE {l : List En} (e : En) (h : AscE l) : AscE (insE l e) := by
  unfold insE
  refine asc_app (asc_filter _ h) (List.pairwise_cons.2 ⟨fun y hy => ?_, asc_filter _ h⟩) ?_
  · simpa using (List.mem_filter.1 hy).2
  · intro x hx y hy
    have h1 : ltP x.1 e.1 := by simpa using (List.mem_filter.1 hx).2
    rcases List.mem_cons.1 hy with rfl | hy
    · exact h1
    · exact ltP_trans h1 (by simpa using (List.mem_filter.1 hy).2)
theorem mem_delE {l : List En} {p : PP} {x : En} : x ∈ delE l p ↔ x ∈ l ∧ x.1 ≠ p := by unfold delE; simp
theorem asc_delE {l : List En} (p : PP) (h : AscE l) : AscE (delE l p) := asc_filter _ h
theorem hasE_iff {l : List En} {p : PP} : hasE l p = true ↔ ∃ x ∈ l, x.1 = p := by unfold hasE; simp
theorem hasE_not {l : List En} {p : PP} : hasE l p = false ↔ ∀ x ∈ l, x.1 ≠ p := by unfold hasE; simp
theorem asc_inj {l : List En} (h : AscE l) {x y : En} (hx : x ∈ l) (hy : y ∈ l) (e : x.1 = y.1) : x = y := by
  induction l with
  | nil => cases hx
  | cons z r ih =>
    have h' := List.pairwise_cons.1 h
    rcases List.mem_cons.1 hx with h1 | h1 <;> rcases List.mem_cons.1 hy with h2 | h2
    · rw [h1, h2]
    · rw [h1] at e; exact absurd e (ltP_ne (h'.1 _ h2))
    · rw [h2] at e; exact absurd e.symm (ltP_ne (h'.1 _ h1))
    · exact ih h'.2 h1 h2

theorem len3 (p : PP) : ∀ l : List En, l.length = (l.filter (fun x => decide (ltP x.1 p))).length + (l.filter (fun x => decide (x.1 = p))).length + (l.filter (fun x => decide (ltP p x.1))).length
  | [] => rfl
  | x :: r => by
    have ih := len3 p r
    rcases ltP_or x.1 p with h | h | h
    · rw [List.filter_cons_of_pos (by simpa using h), List.filter_cons_of_neg (by simpa using ltP_ne h), List.filter_cons_of_neg (by simpa using fun h2 => ltP_asymm h h2)]
      simp only [List.length_cons]; omega
    · rw [List.filter_cons_of_neg (by simpa using h ▸ ltP_irrefl _), List.filter_cons_of_pos (by simpa using h), List.filter_cons_of_neg (by simpa using h ▸ ltP_irrefl _)]
      simp only [List.length_cons]; omega
    · rw [List.filter_cons_of_neg (by simpa using fun h2 => ltP_asymm h h2), List.filter_cons_of_neg (by simpa using fun e => ltP_ne h e.symm), List.filter_cons_of_pos (by simpa using h)]
      simp only [List.length_cons]; omega
theorem eq_len {l : List En} (ha : AscE l) (p : PP) : (l.filter (fun x => decide (x.1 = p))).length = if hasE l p then 1 else 0 := by
  induction l with
  | nil => rfl
  | cons x r ih =>
    have ha' := List.pairwise_cons.1 ha
    have ih := ih ha'.2
    by_cases h : x.1 = p
    · have hn : hasE r p = false := hasE_not.2 (fun y hy e => ltP_ne (ha'.1 y hy) (h.trans e.symm))
      rw [List.filter_cons_of_pos (by simpa using h), List.length_cons, ih, hn, if_pos (hasE_iff.2 ⟨x, by simp, h⟩)]
      simp
    · have e : hasE (x :: r) p = hasE r p := by unfold hasE; rw [List.any_cons]; simp [h]
      rw [List.filter_cons_of_neg (by simpa using h), ih, e]
theorem insE_len {l : List En} (ha : AscE l) (e : En) : (insE l e).length = if hasE l e.1 then l.length else l.length + 1 := by
  have h1 := len3 e.1 l
  have h2 := eq_len ha e.1
  unfold insE
  rw [List.length_append, List.length_cons]
  split
  · rename_i h; rw [if_pos h] at h2; omega
  · rename_i h; rw [if_neg h] at h2; omega
theorem delE_len {l : List En} (ha : AscE l) (p : PP) : (delE l p).length + (if hasE l p then 1 else 0) = l.length := by
  have h2 := eq_len ha p
  rw [← h2]
  unfold delE
  clear h2 ha
  induction l with
  | nil => rfl
  | cons x r ih =>
    by_cases h : x.1 = p
    · rw [List.filter_cons_of_neg (by simpa using h), List.filter_cons_of_pos (by simpa using h)]
      simp only [List.length_cons]; omega
    · rw [List.filter_cons_of_pos (by simpa using h), List.filter_cons_of_neg (by simpa using h)]
      simp only [List.length_cons]; omega

/-! above and under -/
def abv (p : PP) : Sh → List En
  | .nil => []
  | .node q v s l r => if C q p then (if s then [(q, v)] else []) ++ (if atZ p.1 q.2 = 0 then abv p l else abv p r) else []
def und (p : PP) : Sh → List En
  | .nil => []
  | .node q v s l r => if C q p || C p q then (if s && C p q then [(q, v)] else []) ++ (und p l ++ und p r) else []
theorem filter_none {l : List En} {f : En → Bool} (h : ∀ x ∈ l, f x = false) : l.filter f = [] := by
  rw [List.filter_eq_nil_iff]; intro x hx; rw [h x hx]; simp
theorem side_none {p q : PP} {T : Sh} {b : Nat} (hU : Un q b T) (hb : atZ p.1 q.2 ≠ b) : (ents T).filter (fun x => C x.1 p) = [] := by
  refine filter_none fun x hx => ?_
  have a := hU _ (ents_pref _ _ hx)
  exact C_sides a.2.1 (by rw [a.2.2]; exact fun e => hb e.symm)
theorem abv_eq (p : PP) : ∀ {T : Sh}, WF T → abv p T = (ents T).filter (fun x => C x.1 p)
  | .nil, _ => rfl
  | .node q v s l r, h => by
    obtain ⟨hq, hl, hr, wl, wr⟩ := h
    rw [ents_node, List.filter_append, List.filter_append]
    simp only [abv]
    cases hc : C q p
    · have n1 : (ents l).filter (fun x => C x.1 p) = [] := filter_none fun x hx => by
        have a := hl _ (ents_pref _ _ hx)
        cases h2 : C x.1 p
        · rfl
        · rw [C_trans a.1 h2] at hc; cases hc
      have n2 : (ents r).filter (fun x => C x.1 p) = [] := filter_none fun x hx => by
        have a := hr _ (ents_pref _ _ hx)
        cases h2 : C x.1 p
        · rfl
        · rw [C_trans a.1 h2] at hc; cases hc
      rw [n1, n2]
      cases s <;> simp [hc]
    · have h0 : (if s then [(q, v)] else []).filter (fun x => C x.1 p) = if s then [(q, v)] else [] := by cases s <;> simp [hc]
      rw [h0, if_pos rfl]
      by_cases hs : atZ p.1 q.2 = 0
      · rw [if_pos hs, abv_eq p wl, side_none hr (by rw [hs]; decide), List.append_nil]
      · rw [if_neg hs, abv_eq p wr, side_none hl hs, List.nil_append]
theorem und_eq (p : PP) : ∀ {T : Sh}, WF T → und p T = (ents T).filter (fun x => C p x.1)
  | .nil, _ => rfl
  | .node q v s l r, h => by
    obtain ⟨hq, hl, hr, wl, wr⟩ := h
    rw [ents_node, List.filter_append, List.filter_append, und, und_eq p wl, und_eq p wr]
    have h0 : (if s then [(q, v)] else []).filter (fun x => C p x.1) = if s && C p q then [(q, v)] else [] := by cases s <;> cases hc : C p q <;> simp [hc]
    rw [h0]
    cases ho : C q p || C p q
    · have h1 : C q p = false := by cases h : C q p <;> simp [h] at ho ⊢
      have h2 : C p q = false := by cases h : C p q <;> simp [h] at ho ⊢
      have nn : ∀ (T : Sh) (b : Nat), Un q b T → (ents T).filter (fun x => C p x.1) = [] := fun T b hU => filter_none fun x hx => by
        have a := hU _ (ents_pref _ _ hx)
        cases h3 : C p x.1
        · rfl
        · rcases C_nest h3 a.1 with h | h
          · rw [h] at h2; cases h2
          · rw [h] at h1; cases h1
      rw [nn l 0 hl, nn r 1 hr, h2]
      cases s <;> rfl
    · rfl

/-! putting -/
def leaf (e : En) : Sh := .node e.1 e.2 true .nil .nil
def putS : Sh → En → Sh × Bool
  | .nil, e => (leaf e, true)
  | .node p v s l r, e =>
    if p = e.1 then (.node p e.2 true l r, !s)
    else if C p e.1 then
      if atZ e.1.1 p.2 = 0 then (.node p v s (putS l e).1 r, (putS l e).2) else (.node p v s l (putS r e).1, (putS r e).2)
    else if shr e.1 p = e.1 then
      (if atZ p.1 (shr e.1 p).2 = 0 then .node e.1 e.2 true (.node p v s l r) .nil else .node e.1 e.2 true .nil (.node p v s l r), true)
    else (if atZ p.1 (shr e.1 p).2 = 0 then .node (shr e.1 p) 0 false (.node p v s l r) (leaf e) else .node (shr e.1 p) 0 false (leaf e) (.node p v s l r), true)

theorem un_top {p : PP} {b : Nat} {T : Sh} (h : Un p b T) {q : PP} {v : Int} {s : Bool} {l r : Sh} (e : T = .node q v s l r) : C p q = true ∧ p.2 < q.2 ∧ atZ q.1 p.2 = b := by
  subst e; exact h q (by simp [prefs])
theorem un_node {p q : PP} {b : Nat} {v : Int} {s : Bool} {l r : Sh} (h : C p q = true ∧ p.2 < q.2 ∧ atZ q.1 p.2 = b) (hl : ∀ x ∈ prefs l, C q x = true) (hr : ∀ x ∈ prefs r, C q x = true) : Un p b (.node q v s l r) := by
  intro x hx
  have key : ∀ y, C q y = true → C p y = true ∧ p.2 < y.2 ∧ atZ y.1 p.2 = b := fun y hy => ⟨C_trans h.1 hy, by have := (C_V hy).2.2.1; omega, by rw [C_side hy h.2.1]; exact h.2.2⟩
  simp only [prefs, List.mem_cons, List.mem_append] at hx
  rcases hx with rfl | hx | hx
  · exact h
  · exact key x (hl x hx)
  · exact key x (hr x hx)
theorem wf_cov {q : PP} {v : Int} {s : Bool} {l r : Sh} (h : WF (.node q v s l r)) : ∀ x ∈ prefs (.node q v s l r), C q x = true := by
  intro x hx
  simp only [prefs, List.mem_cons, List.mem_append] at hx
  rcases hx with rfl | hx | hx
  · exact C_refl h.1.2
  · exact (h.2.1 x hx).1
  · exact (h.2.2.1 x hx).1
/-- what putting keeps: below whatever prefix the tree and the entry lie, the new tree lies -/
theorem shr_under {p o a : PP} {b : Nat} (hp : PV p) (ho : PV o) (hc : C o p = false) (h1 : C a p = true ∧ a.2 < p.2 ∧ atZ p.1 a.2 = b) (h2 : C a o = true ∧ a.2 < o.2 ∧ atZ o.1 a.2 = b) :
    C a (shr p o) = true ∧ a.2 < (shr p o).2 ∧ atZ (shr p o).1 a.2 = b := by
  obtain ⟨s1, s2, s3, s4, s5, s6⟩ := shr_spec hp ho hc
  have ia := C_V h1.1
  have io := C_V h2.1
  obtain ⟨_, _, _, t1⟩ := (C_iff _ _).1 h1.1
  obtain ⟨_, _, _, t2⟩ := (C_iff _ _).1 h2.1
  have hl : a.2 < (shr p o).2 := by
    have k := s6 (a.2.toNat + 1) (by omega) (by
      rw [M.topN_succ _ _ (by omega), M.topN_succ _ _ (by omega), t1, t2]
      have e1 := h1.2.2; have e2 := h2.2.2
      rw [atZ_in (by omega) (by omega)] at e1 e2
      rw [e1, e2])
    omega
  refine ⟨?_, hl, ?_⟩
  · rcases C_nest h1.1 s2 with h | h
    · exact h
    · have := (C_V h).2.2.1; omega
  · rw [← C_side s2 hl]; exact h1.2.2
theorem putS_un (a : PP) (b : Nat) : ∀ {T : Sh} {e : En}, WF T → PV e.1 → Un a b T → (C a e.1 = true ∧ a.2 < e.1.2 ∧ atZ e.1.1 a.2 = b) → Un a b (putS T e).1
  | .nil, e, _, he, _, h => un_node h (by simp [prefs]) (by simp [prefs])
  | .node p v s l r, e, hw, he, hU, h => by
    have ht := un_top hU rfl
    obtain ⟨hq, hl, hr, wl, wr⟩ := hw
    rw [putS]
    split
    · exact un_node ht (fun x hx => (hl x hx).1) (fun x hx => (hr x hx).1)
    · rename_i hne
      split
      · rename_i hc
        have hs := C_strict hc hne
        split
        · rename_i h0
          have ih := putS_un p 0 wl he hl ⟨hc, hs, h0⟩
          exact un_node ht (fun x hx => (ih x hx).1) (fun x hx => (hr x hx).1)
        · rename_i h0
          have h1 : atZ e.1.1 p.2 = 1 := by have := atZ_le e.1.1 p.2; omega
          have ih := putS_un p 1 wr he hr ⟨hc, hs, h1⟩
          exact un_node ht (fun x hx => (hl x hx).1) (fun x hx => (ih x hx).1)
      · rename_i hc
        have hc : C p e.1 = false := by simpa using hc
        have sp := shr_spec he hq hc
        have su := shr_under he hq hc h ht
        have hw : WF (.node p v s l r) := ⟨hq, hl, hr, wl, wr⟩
        have hcv := wf_cov hw
        have key : ∀ x ∈ prefs (.node p v s l r), C (shr e.1 p) x = true := fun x hx => C_trans sp.2.2.1 (hcv x hx)
        have kl : ∀ x ∈ prefs (leaf e), C (shr e.1 p) x = true := fun x hx => by
          simp [leaf, prefs] at hx; subst hx; exact sp.2.1
        split
        · rename_i hse
          rw [hse] at key
          dsimp only
          split
          · exact un_node h key (by simp [prefs])
          · exact un_node h (by simp [prefs]) key
        · dsimp only
          split
          · exact un_node su key kl
          · exact un_node su kl key
theorem un_of_cov {q a : PP} {b : Nat} {v : Int} {s : Bool} {l r : Sh} (hw : WF (.node q v s l r)) (h : C a q = true ∧ a.2 < q.2 ∧ atZ q.1 a.2 = b) : Un a b (.node q v s l r) :=
  un_node h (fun x hx => (hw.2.1 x hx).1) (fun x hx => (hw.2.2.1 x hx).1)
theorem un_nil (a : PP) (b : Nat) : Un a b .nil := by intro q hq; simp [prefs] at hq
theorem wf_leaf {e : En} (he : PV e.1) : WF (leaf e) := ⟨he, un_nil _ _, un_nil _ _, trivial, trivial⟩
theorem at_one {x : Nat} {n : Int} (h : ¬ atZ x n = 0) : atZ x n = 1 := by have := atZ_le x n; omega
theorem putS_wf : ∀ {T : Sh} {e : En}, WF T → PV e.1 → WF (putS T e).1
  | .nil, e, _, he => wf_leaf he
  | .node p v s l r, e, hw, he => by
    have hw' := hw
    obtain ⟨hq, hl, hr, wl, wr⟩ := hw
    rw [putS]
    split
    · exact ⟨hq, hl, hr, wl, wr⟩
    · rename_i hne
      split
      · rename_i hc
        have hs := C_strict hc hne
        split
        · rename_i h0
          exact ⟨hq, putS_un p 0 wl he hl ⟨hc, hs, h0⟩, hr, putS_wf wl he, wr⟩
        · rename_i h0
          exact ⟨hq, hl, putS_un p 1 wr he hr ⟨hc, hs, at_one h0⟩, wl, putS_wf wr he⟩
      · rename_i hc
        have hc : C p e.1 = false := by simpa using hc
        obtain ⟨s1, s2, s3, s4, s5, s6⟩ := shr_spec he hq hc
        split
        · rename_i hse
          rw [hse] at s3 s4 ⊢
          dsimp only
          split
          · rename_i h0; exact ⟨he, un_of_cov hw' ⟨s3, s4, h0⟩, un_nil _ _, hw', trivial⟩
          · rename_i h0; exact ⟨he, un_nil _ _, un_of_cov hw' ⟨s3, s4, at_one h0⟩, trivial, hw'⟩
        · rename_i hse
          have s5 := s5 hse
          have := atZ_le e.1.1 (shr e.1 p).2
          dsimp only
          split
          · rename_i h0; exact ⟨s1, un_of_cov hw' ⟨s3, s4, h0⟩, un_of_cov (wf_leaf he) ⟨s2, s5.1, by omega⟩, hw', wf_leaf he⟩
          · rename_i h0
            have := at_one h0
            exact ⟨s1, un_of_cov (wf_leaf he) ⟨s2, s5.1, by omega⟩, un_of_cov hw' ⟨s3, s4, by omega⟩, wf_leaf he, hw'⟩
theorem ne_side {p q : PP} {b : Nat} {T : Sh} (hU : Un p b T) (h : p = q ∨ C p q = false ∨ (atZ q.1 p.2 ≠ b)) : ∀ x ∈ ents T, x.1 ≠ q := by
  intro x hx e
  have a := hU _ (ents_pref _ _ hx)
  rw [e] at a
  rcases h with h | h | h
  · rw [h] at a; omega
  · rw [a.1] at h; cases h
  · exact h a.2.2
theorem putS_mem : ∀ {T : Sh} {e : En}, WF T → PV e.1 → (∀ x, x ∈ ents (putS T e).1 ↔ x = e ∨ (x ∈ ents T ∧ x.1 ≠ e.1)) ∧ (putS T e).2 = !hasE (ents T) e.1
  | .nil, e, _, he => ⟨fun x => by simp [putS, leaf, ents], rfl⟩
  | .node p v s l r, e, hw, he => by
    have hw' := hw
    obtain ⟨hq, hl, hr, wl, wr⟩ := hw
    have hasA : hasE (ents (.node p v s l r)) e.1 = ((s && decide (p = e.1)) || (hasE (ents l) e.1 || hasE (ents r) e.1)) := by
      rw [ents_node]; unfold hasE; rw [List.any_append, List.any_append]; cases s <;> simp
    rw [hasA]
    rw [putS]
    split
    · rename_i hpe
      have n1 := ne_side hl (.inl hpe)
      have n2 := ne_side hr (.inl hpe)
      rw [hasE_not.2 n1, hasE_not.2 n2]
      refine ⟨fun x => ?_, by simp [hpe]⟩
      simp only [ents, List.mem_append]
      constructor
      · rintro (h | h | h)
        · left; simp at h; rw [h, hpe]
        · right; exact ⟨.inr (.inl h), n1 x h⟩
        · right; exact ⟨.inr (.inr h), n2 x h⟩
      · rintro (h | ⟨h | h | h, h2⟩)
        · left; rw [h, hpe]; simp
        · cases s <;> simp at h; rw [h] at h2; exact absurd hpe h2
        · exact .inr (.inl h)
        · exact .inr (.inr h)
    · rename_i hne
      have hd : decide (p = e.1) = false := by simpa using hne
      rw [hd, Bool.and_false, Bool.false_or]
      split
      · rename_i hc
        split
        · rename_i h0
          have n2 := ne_side hr (.inr (.inr (by rw [h0]; decide)) : p = e.1 ∨ C p e.1 = false ∨ _)
          obtain ⟨i1, i2⟩ := putS_mem wl he
          rw [hasE_not.2 n2, Bool.or_false]
          refine ⟨fun x => ?_, i2⟩
          simp only [ents, List.mem_append, i1]
          constructor
          · rintro (h | (h | ⟨h, h2⟩) | h)
            · right; refine ⟨.inl h, ?_⟩; cases s <;> simp at h; rw [h]; exact hne
            · exact .inl h
            · exact .inr ⟨.inr (.inl h), h2⟩
            · exact .inr ⟨.inr (.inr h), n2 x h⟩
          · rintro (h | ⟨h | h | h, h2⟩)
            · exact .inr (.inl (.inl h))
            · exact .inl h
            · exact .inr (.inl (.inr ⟨h, h2⟩))
            · exact .inr (.inr h)
        · rename_i h0
          have n1 := ne_side hl (.inr (.inr h0) : p = e.1 ∨ C p e.1 = false ∨ _)
          obtain ⟨i1, i2⟩ := putS_mem wr he
          rw [hasE_not.2 n1, Bool.false_or]
          refine ⟨fun x => ?_, i2⟩
          simp only [ents, List.mem_append, i1]
          constructor
          · rintro (h | h | (h | ⟨h, h2⟩))
            · right; refine ⟨.inl h, ?_⟩; cases s <;> simp at h; rw [h]; exact hne
            · exact .inr ⟨.inr (.inl h), n1 x h⟩
            · exact .inl h
            · exact .inr ⟨.inr (.inr h), h2⟩
          · rintro (h | ⟨h | h | h, h2⟩)
            · exact .inr (.inr (.inl h))
            · exact .inl h
            · exact .inr (.inl h)
            · exact .inr (.inr (.inr ⟨h, h2⟩))
      · rename_i hc
        have hc : C p e.1 = false := by simpa using hc
        have n1 := ne_side hl (.inr (.inl hc))
        have n2 := ne_side hr (.inr (.inl hc))
        have n3 : ∀ x ∈ ents (.node p v s l r), x.1 ≠ e.1 := by
          intro x hx
          simp only [ents, List.mem_append] at hx
          rcases hx with h | h | h
          · cases s <;> simp at h; rw [h]; exact hne
          · exact n1 x h
          · exact n2 x h
        rw [hasE_not.2 n1, hasE_not.2 n2]
        have fin : ∀ x, (x = e ∨ x ∈ ents (.node p v s l r)) ↔ (x = e ∨ (x ∈ ents (.node p v s l r) ∧ x.1 ≠ e.1)) := fun x =>
          ⟨fun h => h.imp id (fun h => ⟨h, n3 x h⟩), fun h => h.imp id (fun h => h.1)⟩
        have le : ents (leaf e) = [e] := rfl
        refine ⟨fun x => ?_, by split <;> rfl⟩
        rw [← fin x]
        have hen : ∀ p v s l r, ents (.node p v s l r) = (if s then [(p, v)] else []) ++ (ents l ++ ents r) := fun _ _ _ _ _ => rfl
        split
        · dsimp only
          split
          · rw [hen e.1]; simp [ents]
          · rw [hen e.1]; simp [ents]
        · dsimp only
          split
          · rw [hen (shr e.1 p), le]; simp; exact Or.comm
          · rw [hen (shr e.1 p), le]; simp
theorem putS_ents {T : Sh} {e : En} (hw : WF T) (he : PV e.1) : ents (putS T e).1 = insE (ents T) e :=
  asc_ext (ents_asc (putS_wf hw he)) (asc_insE _ (ents_asc hw)) fun x => by rw [(putS_mem hw he).1 x, mem_insE]

/-- the fork over a tree that does not cover the entry's prefix -/
def forkT (T : Sh) (p o : PP) : Sh := .node (shr p o) 0 false (if atZ o.1 (shr p o).2 = 0 then T else .nil) (if atZ o.1 (shr p o).2 = 0 then .nil else T)
theorem putS_fork {p : PP} {v : Int} {s : Bool} {l r : Sh} {e : En} (he : PV e.1) (hq : PV p) (hne : p ≠ e.1) (hc : C p e.1 = false) : putS (.node p v s l r) e = putS (forkT (.node p v s l r) e.1 p) e := by
  obtain ⟨s1, s2, s3, s4, s5, s6⟩ := shr_spec he hq hc
  have a1 := atZ_le p.1 (shr e.1 p).2
  have a2 := atZ_le e.1.1 (shr e.1 p).2
  rw [putS, if_neg hne, hc, if_neg (by decide)]
  unfold forkT
  by_cases h : shr e.1 p = e.1
  · rw [if_pos h, putS, if_pos h]
    rw [h]
    by_cases h0 : atZ p.1 e.1.2 = 0
    · simp [h0]
    · simp [h0]
  · have s5 := s5 h
    rw [if_neg h, putS, if_neg h, s2, if_pos rfl]
    by_cases h0 : atZ p.1 (shr e.1 p).2 = 0
    · rw [if_pos h0, if_pos h0, if_pos h0, if_neg (by omega)]; rfl
    · rw [if_neg h0, if_neg h0, if_neg h0, if_pos (by omega)]; rfl

/-! dropping -/
def Sh.isNil : Sh → Bool
  | .nil => true
  | _ => false
def need : Sh → Sh
  | .nil => .nil
  | .node q v s l r => if s || (!l.isNil && !r.isNil) then .node q v s l r else if !l.isNil then l else r
def dropS : Sh → PP → Sh × Bool
  | .nil, _ => (.nil, false)
  | .node q v s l r, p =>
    if C q p then
      if q = p then (need (.node q 0 false l r), s)
      else if atZ p.1 q.2 = 0 then (need (.node q v s (dropS l p).1 r), (dropS l p).2) else (need (.node q v s l (dropS r p).1), (dropS r p).2)
    else (.node q v s l r, false)
theorem isNil_iff {T : Sh} : T.isNil = true ↔ T = .nil := by cases T <;> simp [Sh.isNil]
theorem need_ents : ∀ T : Sh, ents (need T) = ents T
  | .nil => rfl
  | .node q v s l r => by
    rw [need]
    split
    · rfl
    · rename_i h
      cases s
      · cases hl : l.isNil
        · cases hr : r.isNil
          · simp [hl, hr] at h
          · rw [isNil_iff.1 hr]; simp [ents]
        · rw [isNil_iff.1 hl]; simp [ents]
      · simp at h
theorem need_prefs : ∀ (T : Sh) x, x ∈ prefs (need T) → x ∈ prefs T
  | .nil, x, h => h
  | .node q v s l r, x, h => by
    rw [need] at h
    split at h
    · exact h
    · split at h
      · simp [prefs, h]
      · simp [prefs, h]
theorem need_wf : ∀ {T : Sh}, WF T → WF (need T)
  | .nil, h => h
  | .node q v s l r, h => by
    rw [need]
    split
    · exact h
    · split
      · exact h.2.2.2.1
      · exact h.2.2.2.2
theorem dropS_prefs : ∀ (T : Sh) (p x : PP), x ∈ prefs (dropS T p).1 → x ∈ prefs T
  | .nil, p, x, h => h
  | .node q v s l r, p, x, h => by
    rw [dropS] at h
    split at h
    · split at h
      · dsimp only at h; have := need_prefs _ _ h; simpa [prefs] using this
      · split at h
        · dsimp only at h
          have := need_prefs _ _ h
          simp only [prefs, List.mem_cons, List.mem_append] at this ⊢
          exact this.imp id (fun h => h.imp (dropS_prefs l p x) id)
        · dsimp only at h
          have := need_prefs _ _ h
          simp only [prefs, List.mem_cons, List.mem_append] at this ⊢
          exact this.imp id (fun h => h.imp id (dropS_prefs r p x))
    · exact h
theorem dropS_wf : ∀ {T : Sh} (p : PP), WF T → WF (dropS T p).1
  | .nil, p, h => h
  | .node q v s l r, p, h => by
    obtain ⟨hq, hl, hr, wl, wr⟩ := h
    rw [dropS]
    split
    · split
      · exact need_wf (T := .node q 0 false l r) ⟨hq, hl, hr, wl, wr⟩
      · split
        · exact need_wf (T := .node q v s (dropS l p).1 r) ⟨hq, fun x hx => hl x (dropS_prefs _ _ _ hx), hr, dropS_wf p wl, wr⟩
        · exact need_wf (T := .node q v s l (dropS r p).1) ⟨hq, hl, fun x hx => hr x (dropS_prefs _ _ _ hx), wl, dropS_wf p wr⟩
    · exact ⟨hq, hl, hr, wl, wr⟩
theorem del_none {l : List En} {p : PP} (h : ∀ x ∈ l, x.1 ≠ p) : delE l p = l := by
  unfold delE; rw [List.filter_eq_self]; intro x hx; simpa using h x hx
theorem dropS_ents : ∀ {T : Sh} (p : PP), WF T → ents (dropS T p).1 = delE (ents T) p ∧ (dropS T p).2 = hasE (ents T) p
  | .nil, p, h => ⟨rfl, rfl⟩
  | .node q v s l r, p, h => by
    obtain ⟨hq, hl, hr, wl, wr⟩ := h
    have hasA : hasE (ents (.node q v s l r)) p = ((s && decide (q = p)) || (hasE (ents l) p || hasE (ents r) p)) := by
      rw [ents_node]; unfold hasE; rw [List.any_append, List.any_append]; cases s <;> simp
    have delA : delE (ents (.node q v s l r)) p = delE (if s then [(q, v)] else []) p ++ (delE (ents l) p ++ delE (ents r) p) := by
      unfold delE; rw [show ents (.node q v s l r) = (if s then [(q, v)] else []) ++ (ents l ++ ents r) from rfl, List.filter_append, List.filter_append]
    rw [hasA, delA]
    rw [dropS]
    split
    · rename_i hc
      split
      · rename_i hpe
        have n1 := ne_side hl (.inl hpe)
        have n2 := ne_side hr (.inl hpe)
        rw [hasE_not.2 n1, hasE_not.2 n2, del_none n1, del_none n2]
        dsimp only
        rw [need_ents]
        refine ⟨?_, by cases s <;> simp [hpe]⟩
        cases s <;> simp [ents, delE, hpe]
      · rename_i hne
        have hd : decide (q = p) = false := by simpa using hne
        have d0 : delE (if s then [(q, v)] else []) p = if s then [(q, v)] else [] := by cases s <;> simp [delE, hne]
        rw [hd, Bool.and_false, Bool.false_or, d0]
        split
        · rename_i h0
          have n2 := ne_side hr (.inr (.inr (by rw [h0]; decide)) : q = p ∨ C q p = false ∨ _)
          obtain ⟨i1, i2⟩ := dropS_ents p wl
          rw [hasE_not.2 n2, del_none n2, Bool.or_false]
          dsimp only
          rw [need_ents, i2]
          exact ⟨by simp only [ents, i1], rfl⟩
        · rename_i h0
          have n1 := ne_side hl (.inr (.inr h0) : q = p ∨ C q p = false ∨ _)
          obtain ⟨i1, i2⟩ := dropS_ents p wr
          rw [hasE_not.2 n1, del_none n1, Bool.false_or]
          dsimp only
          rw [need_ents, i2]
          exact ⟨by simp only [ents, i1], rfl⟩
    · rename_i hc
      have hc : C q p = false := by simpa using hc
      have hne : q ≠ p := fun e => by rw [e, C_refl (e ▸ hq.2)] at hc; cases hc
      have n1 := ne_side hl (.inr (.inl hc))
      have n2 := ne_side hr (.inr (.inl hc))
      rw [hasE_not.2 n1, hasE_not.2 n2, del_none n1, del_none n2]
      refine ⟨?_, by simp [hne]⟩
      cases s <;> simp [ents, delE, hne]
end Go.Proofs.Ytegponbmelgngaa
