/-
  The trie's methods: Lookup, Get, Above, Under, All, Put, Drop.
-/
import Derived.Test.YtegponbmelgngaaTwI
namespace Go.Proofs.Ytegponbmelgngaa
open Go.RowKit
set_option linter.unusedSimpArgs false
set_option linter.unusedVariables false
set_option maxHeartbeats 4000000
set_option maxRecDepth 100000

/-- a slice of entries as the memory reads -/
def RdE (w : World) (v : Value) (l : List En) : Prop :=
  ∃ ad cap, v = .slice ad l.length cap ∧ ∀ k x, l[k]? = some x → ∃ b off, ad = some ⟨b, off, none⟩ ∧ b < w.heap.size ∧ w.cell? ⟨b, off + k * 3, none⟩ = some (.int .u32 (x.1.1 : Int)) ∧ w.cell? ⟨b, off + k * 3 + 1, none⟩ = some (.int .i64 x.1.2) ∧ w.cell? ⟨b, off + k * 3 + 2, none⟩ = some (.int .i64 x.2)
theorem RdE.below {w w' : World} {v : Value} {l : List En} (h : RdE w v l) (hb : Below w.heap.size w w') : RdE w' v l := by
  obtain ⟨ad, cap, rfl, hc⟩ := h
  refine ⟨ad, cap, rfl, fun k x hk => ?_⟩
  obtain ⟨b, off, e, hlt, h0, h1, h2⟩ := hc k x hk
  exact ⟨b, off, e, Nat.lt_of_lt_of_le hlt hb.size, carry hb h0, carry hb h1, carry hb h2⟩
theorem rdE_nil (w : World) : RdE w (.slice none 0 0) [] := ⟨none, 0, rfl, fun k x h => by simp at h⟩
theorem flatE_get : ∀ (l : List En) (k : Nat) (x : En), l[k]? = some x → (flatE l)[k * 3]? = some (.int .u32 (x.1.1 : Int)) ∧ (flatE l)[k * 3 + 1]? = some (.int .i64 x.1.2) ∧ (flatE l)[k * 3 + 2]? = some (.int .i64 x.2)
  | [], k, x, h => by simp at h
  | y :: r, 0, x, h => by simp at h; subst h; simp [flatE, encE]
  | y :: r, k + 1, x, h => by
    have ih := flatE_get r k x (by simpa using h)
    have e : flatE (y :: r) = .int .u32 (y.1.1 : Int) :: .int .i64 y.1.2 :: .int .i64 y.2 :: flatE r := by simp [flatE, encE]
    rw [e, show (k + 1) * 3 = k * 3 + 1 + 1 + 1 by omega, show k * 3 + 1 + 1 + 1 + 1 = (k * 3 + 1) + 1 + 1 + 1 by omega, show k * 3 + 1 + 1 + 1 + 2 = (k * 3 + 2) + 1 + 1 + 1 by omega]
    simpa using ih
theorem rdE_own {w : World} {B : Nat} {v : Value} {l : List En} (h : w.ownsRow B 51 3 v l.length (flatE l)) : RdE w v l := by
  rcases h.2 with ⟨rfl, hn⟩ | ⟨g, cap, cur, rfl, hB, hg, hnc, _, _, _⟩
  · obtain rfl := List.length_eq_zero_iff.1 hn
    exact rdE_nil w
  · refine ⟨some ⟨g, 0, none⟩, cap, rfl, fun k x hk => ⟨g, 0, rfl, (Array.getElem?_eq_some_iff.1 hg).1, ?_, ?_, ?_⟩⟩
    all_goals
      have hlt := (List.getElem?_eq_some_iff.1 hk).1
      rw [Nat.zero_add]
    · rw [h.cellAt (k * 3) (by omega)]; exact (flatE_get l k x hk).1
    · rw [h.cellAt (k * 3 + 1) (by omega)]; exact (flatE_get l k x hk).2.1
    · rw [h.cellAt (k * 3 + 2) (by omega)]; exact (flatE_get l k x hk).2.2

/-- a slice of entries whose cells lie in blocks from B on -/
def RdF (B : Nat) (w : World) (v : Value) (l : List En) : Prop :=
  ∃ ad cap, v = .slice ad l.length cap ∧ ∀ k x, l[k]? = some x → ∃ b off, ad = some ⟨b, off, none⟩ ∧ B ≤ b ∧ b < w.heap.size ∧ w.cell? ⟨b, off + k * 3, none⟩ = some (.int .u32 (x.1.1 : Int)) ∧ w.cell? ⟨b, off + k * 3 + 1, none⟩ = some (.int .i64 x.1.2) ∧ w.cell? ⟨b, off + k * 3 + 2, none⟩ = some (.int .i64 x.2)
theorem RdF.rd {B : Nat} {w : World} {v : Value} {l : List En} (h : RdF B w v l) : RdE w v l := by
  obtain ⟨ad, cap, rfl, hc⟩ := h
  exact ⟨ad, cap, rfl, fun k x hk => by obtain ⟨b, off, h1, _, h2⟩ := hc k x hk; exact ⟨b, off, h1, h2⟩⟩
theorem RdF.less {B B' : Nat} {w : World} {v : Value} {l : List En} (h : RdF B w v l) (hB : B' ≤ B) : RdF B' w v l := by
  obtain ⟨ad, cap, rfl, hc⟩ := h
  exact ⟨ad, cap, rfl, fun k x hk => by obtain ⟨b, off, h1, h3, h2⟩ := hc k x hk; exact ⟨b, off, h1, Nat.le_trans hB h3, h2⟩⟩
theorem RdF.kp {B : Nat} {S : List Nat} {w w' : World} {v : Value} {l : List En} (h : RdF B w v l) (k : Kp S w w') (hS : ∀ g ∈ S, g < B) : RdF B w' v l := by
  obtain ⟨ad, cap, rfl, hc⟩ := h
  refine ⟨ad, cap, rfl, fun i x hi => ?_⟩
  obtain ⟨b, off, h1, h3, h4, h5, h6, h7⟩ := hc i x hi
  have hn : b ∉ S := fun hm => by have := hS b hm; omega
  exact ⟨b, off, h1, h3, Nat.lt_of_lt_of_le h4 k.size, k.carry hn h5, k.carry hn h6, k.carry hn h7⟩
theorem RdF.below {B : Nat} {w w' : World} {v : Value} {l : List En} (h : RdF B w v l) (hb : Below w.heap.size w w') : RdF B w' v l := h.kp (Kp.of_below (S := []) hb) (fun g hg => by cases hg)
theorem rdF_nil (B : Nat) (w : World) : RdF B w (.slice none 0 0) [] := ⟨none, 0, rfl, fun k x h => by simp at h⟩
theorem rdF_own {w : World} {B : Nat} {v : Value} {l : List En} (h : w.ownsRow B 51 3 v l.length (flatE l)) : RdF B w v l := by
  have hr := rdE_own h
  rcases h.2 with ⟨rfl, hn⟩ | ⟨g, cap, cur, rfl, hB, hg, hnc, _, _, _⟩
  · obtain rfl := List.length_eq_zero_iff.1 hn
    exact rdF_nil B w
  · obtain ⟨ad, cap', he, hc⟩ := hr
    refine ⟨ad, cap', he, fun k x hk => ?_⟩
    obtain ⟨b, off, h1, h2⟩ := hc k x hk
    refine ⟨b, off, h1, ?_, h2⟩
    rw [h1] at he
    cases he
    exact hB

theorem lookup_any (t : Value) (E : List En) (gs : List Nat) (w : World) (b : Nat) (hb : b < 4294967296) (h : TrieO w t E gs) (hgs : ∀ g ∈ gs, g < w.heap.size) (hlen : E.length ≤ 1000) :
    Calls Try.prog 43 #[t, .int .u32 b] w fun en w' => en = .returned (.tuple #[entV (lastOf (E.filter (fun x => C x.1 (b, 32)))), .bool (!(E.filter (fun x => C x.1 (b, 32))).isEmpty)]) ∧ Below w.heap.size w w' := by
  have hpt : ∃ u, t = .pointer u := by
    rcases h with ⟨rfl, _⟩ | ⟨g0, root, T, gs0, rfl, _⟩
    · exact ⟨_, rfl⟩
    · exact ⟨_, rfl⟩
  obtain ⟨u, rfl⟩ := hpt
  have HN : Hid (∀ W, Below w.heap.size w W → Calls Try.prog 82 #[.pointer u, .agg #[.int .u32 b, .int .i64 32]] W fun en w' => en = .returned (.tuple #[entV (lastOf (E.filter (fun x => C x.1 (b, 32)))), .bool (!(E.filter (fun x => C x.1 (b, 32))).isEmpty)]) ∧ Below W.heap.size W w') :=
    fun W hW => nearest_any _ E gs W b hb 32 (by constructor <;> omega) (h.below hW) (fun g hg => Nat.lt_of_lt_of_le (hgs g hg) hW.size) hlen
  obtain ⟨⟨⟨xa, xn⟩, xv⟩, hx⟩ : ∃ x, lastOf (E.filter (fun x => C x.1 (b, 32))) = x := ⟨_, rfl⟩
  obtain ⟨z, hz⟩ : ∃ z, (!(E.filter (fun x => C x.1 (b, 32))).isEmpty) = z := ⟨_, rfl⟩
  rw [hx, hz] at HN ⊢
  unfold entV at HN ⊢
  clear h hgs hlen hx hz
  go_enter Try.func43, Try.ntmps43
  go_wp2_with (go_at_call 82; refine (HN.out _ (below_alloc _ _)).mono ?_; rintro e w1 ⟨rfl, hb1⟩; obtain ⟨q1, r1⟩ := bcell hb1; have B1 := Lib.hid hb1; clear hb1)
  exact bodyPost_ret (v := .tuple #[.agg #[.int .u32 xa, .int .i64 xn, .int .i64 xv], .bool z]) (by simp [results, Try.results43, go_sem, *]) rfl ⟨rfl, (((below_then (below_alloc _ _) B1.out).setCell (by simp) _).setCell (by simp) _).setCell (by simp) _⟩

/-- the value of a prefix -/
def getE (l : List En) (p : PP) : Int × Bool := match l.find? (fun x => decide (x.1 = p)) with
  | some x => (x.2, true)
  | none => (0, false)
theorem getE_mem {l : List En} {p : PP} {x : En} (ha : AscE l) (hx : x ∈ l) (e : x.1 = p) : getE l p = (x.2, true) := by
  unfold getE
  cases h : l.find? (fun x => decide (x.1 = p)) with
  | none => have := List.find?_eq_none.1 h x hx; simp [e] at this
  | some y =>
    have h1 := List.mem_of_find?_eq_some h
    have h2 := List.find?_some h
    have : y = x := asc_inj ha h1 hx (by rw [e]; simpa using h2)
    rw [this]
theorem getE_none {l : List En} {p : PP} (h : ∀ x ∈ l, x.1 ≠ p) : getE l p = (0, false) := by
  unfold getE
  rw [List.find?_eq_none.2 (fun x hx => by simpa using h x hx)]
theorem lastOf_mem {l : List En} (h : l.isEmpty = false) : lastOf l ∈ l := by
  cases l with
  | nil => simp at h
  | cons x r => unfold lastOf; rw [List.getLastD_cons, ← List.getLast_eq_getLastD (List.cons_ne_nil x r)]; exact List.getLast_mem _
theorem lastOf_max : ∀ {l : List En}, AscE l → ∀ x ∈ l, x = lastOf l ∨ ltP x.1 (lastOf l).1
  | [], _, x, hx => by cases hx
  | [y], _, x, hx => by simp at hx; left; rw [hx]; rfl
  | y :: z :: r, ha, x, hx => by
    have ha' := List.pairwise_cons.1 ha
    have e : lastOf (y :: z :: r) = lastOf (z :: r) := rfl
    rw [e]
    rcases List.mem_cons.1 hx with rfl | hx
    · right; exact ha'.1 _ (lastOf_mem rfl)
    · exact lastOf_max ha'.2 x hx
/-- what Get reads off the last entry above a prefix -/
theorem getE_last {E : List En} (ha : AscE E) {p : PP} (hV : ∀ x ∈ E, V x.1 = true) : getE E p = if (E.filter (fun x => C x.1 p)).isEmpty = false ∧ (lastOf (E.filter (fun x => C x.1 p))).1 = p then ((lastOf (E.filter (fun x => C x.1 p))).2, true) else (0, false) := by
  by_cases h : ∃ x ∈ E, x.1 = p
  · obtain ⟨x, hx, e⟩ := h
    have hf : x ∈ E.filter (fun x => C x.1 p) := by rw [List.mem_filter]; exact ⟨hx, by rw [e]; exact C_refl (e ▸ hV x hx)⟩
    have hne : (E.filter (fun x => C x.1 p)).isEmpty = false := by cases hh : E.filter (fun x => C x.1 p) with
      | nil => rw [hh] at hf; cases hf
      | cons _ _ => rfl
    have hl := lastOf_mem hne
    have hl' := List.mem_filter.1 hl
    have hlast : lastOf (E.filter (fun x => C x.1 p)) = x := by
      rcases lastOf_max (asc_filter _ ha) x hf with h1 | h1
      · exact h1.symm
      · have h2 : C (lastOf (E.filter (fun x => C x.1 p))).1 p = true := hl'.2
        rw [e] at h1
        have := C_le h2
        have h3 := (C_V h2).2.2.1
        unfold ltP at h1; omega
    rw [if_pos ⟨hne, by rw [hlast]; exact e⟩, hlast]
    exact getE_mem ha hx e
  · rw [getE_none (fun x hx e => h ⟨x, hx, e⟩), if_neg]
    rintro ⟨h1, h2⟩
    exact h ⟨_, (List.mem_filter.1 (lastOf_mem h1)).1, h2⟩
theorem TrieO.valid {w : World} {t : Value} {E : List En} {gs : List Nat} (h : TrieO w t E gs) : ∀ x ∈ E, PV x.1 := by
  rcases h with ⟨_, rfl, _⟩ | ⟨g0, root, T, gs0, rfl, rfl, hT, hl, hn, hw, rfl⟩
  · intro x hx; cases hx
  · clear hl hT hn
    intro x hx
    induction T with
    | nil => cases hx
    | node q v s l r ihl ihr =>
      rw [ents_node] at hx
      rcases List.mem_append.1 hx with hx | hx
      · cases s <;> simp at hx; rw [hx]; exact hw.1
      · rcases List.mem_append.1 hx with hx | hx
        · exact ihl hw.2.2.2.1 hx
        · exact ihr hw.2.2.2.2 hx
end Go.Proofs.Ytegponbmelgngaa
