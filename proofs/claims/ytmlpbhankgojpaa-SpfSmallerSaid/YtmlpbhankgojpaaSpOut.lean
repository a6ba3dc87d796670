/-
  Shortest paths as mathematics: the edges that begin at a node stand one after the other.
-/
import Derived.Test.YtmlpbhankgojpaaSpI
namespace Go.Proofs.Ytmlpbhankgojpaa.SP
open GM HM Classical
set_option linter.unusedVariables false
set_option linter.unusedSimpArgs false

/-- ascending by where they begin -/
def Asc1 (l : List E) : Prop := l.Pairwise (fun a b => a.1 ≤ b.1)
theorem Asc1.of {R N : Int} {l : List E} (hv : Valid R N l) : Asc1 l := hv.asc.imp fun {a b} h => by rw [bef_iff] at h; omega
def cntL (l : List E) (u : Int) : Nat := (l.filter (fun e => decide (e.1 < u))).length
theorem outs_app (a b : List E) (u : Int) : outs (a ++ b) u = outs a u ++ outs b u := by unfold outs; simp
theorem cntL_app (a b : List E) (u : Int) : cntL (a ++ b) u = cntL a u + cntL b u := by unfold cntL; simp
theorem asc_split {l : List E} (h : Asc1 l) (u : Int) : ∃ c, l = l.filter (fun e => decide (e.1 < u)) ++ outs l u ++ c ∧ ∀ e ∈ c, u < e.1 := by
  induction l with
  | nil => exact ⟨[], by simp [outs], fun e he => by cases he⟩
  | cons a l ih =>
    obtain ⟨h1, h2⟩ := List.pairwise_cons.1 h
    obtain ⟨c, h3, h4⟩ := ih h2
    rcases Int.lt_trichotomy a.1 u with e | e | e
    · refine ⟨c, ?_, h4⟩
      have e1 : decide (a.1 < u) = true := decide_eq_true e
      have e2 : decide (a.1 = u) = false := decide_eq_false (by omega)
      unfold outs at h3 ⊢
      rw [List.filter_cons_of_pos (by simpa using e), List.filter_cons_of_neg (by simp; omega)]
      rw [List.cons_append, List.cons_append, ← h3]
    · have h5 : l.filter (fun e => decide (e.1 < u)) = [] := List.filter_eq_nil_iff.2 fun x hx => by have := h1 x hx; simp; omega
      refine ⟨c, ?_, h4⟩
      rw [h5] at h3
      unfold outs at h3 ⊢
      rw [List.filter_cons_of_neg (by simp; omega), List.filter_cons_of_pos (by simpa using e), h5]
      simp only [List.nil_append, List.cons_append] at h3 ⊢
      rw [← h3]
    · have h5 : l.filter (fun e => decide (e.1 < u)) = [] := List.filter_eq_nil_iff.2 fun x hx => by have := h1 x hx; simp; omega
      have h6 : outs l u = [] := List.filter_eq_nil_iff.2 fun x hx => by have := h1 x hx; simp; omega
      refine ⟨a :: l, ?_, fun x hx => ?_⟩
      · unfold outs at h6 ⊢
        rw [List.filter_cons_of_neg (by simp; omega), List.filter_cons_of_neg (by simp; omega), h5, h6]; rfl
      · rcases List.mem_cons.1 hx with rfl | hx
        · exact e
        · have := h1 x hx; omega
/-- where they stand -/
theorem outs_at {l : List E} (h : Asc1 l) {u : Int} {j : Nat} {x : E} (hj : (outs l u)[j]? = some x) : l[cntL l u + j]? = some x := by
  obtain ⟨c, h1, _⟩ := asc_split h u
  have hl := (List.getElem?_eq_some_iff.1 hj).1
  have hc : (l.filter (fun e => decide (e.1 < u))).length = cntL l u := rfl
  have hg : ∀ (a b d : List E), a.length = cntL l u → j < b.length → (a ++ b ++ d)[cntL l u + j]? = b[j]? := fun a b d ha hb => by
    rw [List.append_assoc, List.getElem?_append_right (by omega), ha, Nat.add_sub_cancel_left, List.getElem?_append_left hb]
  have h2 := hg _ (outs l u) c hc hl
  rw [← h1] at h2
  rw [h2]; exact hj
theorem outs_take {l : List E} {i : Nat} {e : E} (he : l[i]? = some e) (u : Int) : outs (l.take (i + 1)) u = if e.1 = u then outs (l.take i) u ++ [e] else outs (l.take i) u := by
  have : l.take (i + 1) = l.take i ++ [e] := by rw [List.take_add_one, he]; rfl
  rw [this, outs_app]
  by_cases h : e.1 = u
  · rw [if_pos h]; unfold outs; simp [h]
  · rw [if_neg h]; unfold outs; simp [h]
/-- the place of the first one -/
theorem outs_first {l : List E} (h : Asc1 l) {i : Nat} {e : E} (he : l[i]? = some e) : i = cntL l e.1 + (outs (l.take i) e.1).length := by
  have hi := (List.getElem?_eq_some_iff.1 he).1
  have e0 : l = l.take i ++ l.drop i := (List.take_append_drop i l).symm
  have hd : l.drop i = e :: l.drop (i + 1) := by
    have := (List.getElem?_eq_some_iff.1 he).2
    rw [← this]; exact List.drop_eq_getElem_cons hi
  have hp := h
  rw [Asc1, e0, List.pairwise_append] at hp
  have h1 : cntL (l.drop i) e.1 = 0 := by
    unfold cntL
    rw [List.length_eq_zero_iff, List.filter_eq_nil_iff]
    intro x hx
    rw [hd] at hx
    rcases List.mem_cons.1 hx with rfl | hx
    · simp
    · have h2 := hp.2.1
      rw [hd] at h2
      have := (List.pairwise_cons.1 h2).1 x hx
      simp; omega
  have h2 : cntL l e.1 = cntL (l.take i) e.1 := by
    have e1 := cntL_app (l.take i) (l.drop i) e.1
    rw [List.take_append_drop, h1] at e1
    exact e1
  obtain ⟨c, h3, h4⟩ := asc_split hp.1 e.1
  have hc : c = [] := by
    cases c with
    | nil => rfl
    | cons x c =>
      have hx : x ∈ l.take i := by rw [h3]; simp
      have a1 := hp.2.2 x hx e (by rw [hd]; simp)
      have a2 := h4 x (by simp)
      omega
  have hlen : (l.take i).length = i := by rw [List.length_take]; omega
  rw [h2]
  have := congrArg List.length h3
  rw [hc, List.append_nil, List.length_append, hlen] at this
  exact this
theorem outs_len (l : List E) (u : Int) : (outs l u).length ≤ l.length := List.length_filter_le _ _
theorem outs_fst {l : List E} {u : Int} {k : Nat} {e : E} (h : (outs l u)[k]? = some e) : e.1 = u := (outs_get h).2
/-- an ascending list below n has at most n elements -/
theorem asc_len : ∀ {r : List Int} {n : Nat}, r.Pairwise (· < ·) → (∀ x ∈ r, 0 ≤ x ∧ x < (n : Int)) → r.length ≤ n := by
  intro r n hp hb
  have key : ∀ (r : List Int) (m : Nat), r.Pairwise (· < ·) → (∀ x ∈ r, (m : Int) ≤ x ∧ x < (n : Int)) → m ≤ n → r.length + m ≤ n := by
    intro r
    induction r with
    | nil => intro m _ _ hm; simpa using hm
    | cons a r ih =>
      intro m h1 h2 hm
      obtain ⟨h3, h4⟩ := List.pairwise_cons.1 h1
      have ha := h2 a (by simp)
      have := ih (a.toNat + 1) h4 (fun x hx => by have := h3 x hx; have := h2 x (by simp [hx]); omega) (by omega)
      simp only [List.length_cons]; omega
  have := key r 0 hp (fun x hx => by have := hb x hx; omega) (by omega)
  omega
/-- the number of smaller elements is the place -/
theorem cnt_place {r : List Int} {x : Int} (h : r.Pairwise (· < ·)) (hx : x ∉ r) : r.countP (· < x) ≤ r.length ∧ (∀ i, i < r.countP (· < x) → gI r i < x) ∧ ∀ i, r.countP (· < x) ≤ i → i < r.length → x < gI r i := by
  induction r with
  | nil => simp
  | cons a r ih =>
    obtain ⟨h1, h2⟩ := List.pairwise_cons.1 h
    have hxr : x ∉ r := fun hm => hx (by simp [hm])
    obtain ⟨i1, i2, i3⟩ := ih h2 hxr
    have hne : a ≠ x := fun e => hx (by simp [e])
    by_cases ha : a < x
    · rw [List.countP_cons_of_pos (by simpa using ha)]
      refine ⟨by simp; omega, fun i hi => ?_, fun i hi hl => ?_⟩
      · cases i with
        | zero => exact ha
        | succ i => exact i2 i (by omega)
      · cases i with
        | zero => omega
        | succ i => exact i3 i (by omega) (by simp at hl; omega)
    · have hz : r.countP (· < x) = 0 := List.countP_eq_zero.2 fun y hy => by have := h1 y hy; simp; omega
      rw [List.countP_cons_of_neg (by simpa using ha), hz]
      refine ⟨by omega, fun i hi => by omega, fun i _ hl => ?_⟩
      cases i with
      | zero => show x < a; omega
      | succ i =>
        have hm : gI r i ∈ r := by
          simp at hl
          exact List.mem_of_getElem? (gI_get hl)
        have := h1 _ hm
        show x < gI r i
        omega
theorem HX.node {R N : Int} {l : List E} (hv : Valid R N l) {s : Int} (hs : 0 ≤ s ∧ s < R) {S : Int → Prop} {X : E → Prop} {D D' : Int → Int} (hi : Inv R N l s S X D') {v h : Int} (hh : HX R l s X D v h) : 0 ≤ h ∧ h < R + N := by
  obtain ⟨u, c, h1, _, h3⟩ := hh
  have he := edge hv (hi.sub _ h1).1
  have hN := hv.n
  rcases h3 with ⟨_, rfl⟩ | ⟨k, hk, rfl⟩
  · omega
  · split
    · omega
    · exact (T_way hv hk.2.2.1.2.1).1.node hv (by omega)
theorem PX.node {R N : Int} {l : List E} (hv : Valid R N l) {s : Int} {S : Int → Prop} {X : E → Prop} {D D' : Int → Int} (hi : Inv R N l s S X D') {v u : Int} (hh : PX l s X D v u) : 0 ≤ u ∧ u < R + N := by
  obtain ⟨c, h1, _⟩ := hh
  have he := edge hv (hi.sub _ h1).1
  omega
theorem Hop.node' {R N : Int} {l : List E} (hv : Valid R N l) {s : Int} (hs : 0 ≤ s ∧ s < R) {v h : Int} (hh : Hop R l s v h) : 0 ≤ h ∧ h < R + N := by
  have hN := hv.n
  exact (T_way hv hh.2.2.1.2.1).1.node hv (by omega)
end Go.Proofs.Ytmlpbhankgojpaa.SP
