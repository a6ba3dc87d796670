/-
  The reference's count of the entries that are needed, as mathematics over entries.
  The walk of the reference's costs.
  The walks of the reference's IndexInt, HasInt and Least.
-/
import Derived.Test.YtegponbmelgngaaGreatMgAd
import Derived.Test.YtegponbmelgngaaGreatMgAb
import Derived.Test.YtegponbmelgngaaGreatMgAi
section
namespace Go.Proofs.YtegponbmelgngaaGreat
set_option linter.unusedSimpArgs false
set_option linter.unusedVariables false

theorem reg_cost : ∀ (K A : Nat) (t : List AG.Be) (v : Int), (AG.reg K A t v).cost + 1 ≤ 2 ^ K
  | 0, A, t, v => by unfold AG.reg AG.RT.cost; omega
  | K + 1, A, t, v => by
    have hp := CM.pow_pos' (K + 1)
    unfold AG.reg
    split
    · unfold AG.RT.cost; omega
    · unfold AG.RT.cost
      have h1 := reg_cost K A (AG.lowT (A + 2 ^ K) (AG.root A (K + 1) t).2) ((AG.root A (K + 1) t).1.getD v)
      have h2 := reg_cost K (A + 2 ^ K) (AG.highT (A + 2 ^ K) (AG.root A (K + 1) t).2) ((AG.root A (K + 1) t).1.getD v)
      have h3 : 2 ^ (K + 1) = 2 ^ K + 2 ^ K := by rw [Nat.pow_succ]; omega
      split <;> omega
theorem reg_need (K A : Nat) (t : List AG.Be) (v x : Int) : (AG.reg K A t v).need x ≤ 2 ^ K := by
  have := reg_cost K A t v
  unfold AG.RT.need
  split <;> omega
/-- the entries below a block, and the value at it -/
def restC (p : PP) (e : En) : Bool := !decide (e.1 = p) && C p e.1
def restE (p : PP) (l : List En) : List En := l.filter (restC p)
def baseE (p : PP) (v : Int) (l : List En) : Int := l.foldl (fun b e => if e.1 = p then e.2 else b) v
theorem restE_snoc (p : PP) (l : List En) (e : En) : restE p (l ++ [e]) = restE p l ++ (if restC p e = true then [e] else []) := by
  unfold restE; rw [List.filter_append]; congr 1; cases h : restC p e <;> simp [h]
theorem baseE_snoc (p : PP) (v : Int) (l : List En) (e : En) : baseE p v (l ++ [e]) = if e.1 = p then e.2 else baseE p v l := by unfold baseE; rw [List.foldl_append]; rfl
theorem restE_mem {p : PP} {l : List En} {e : En} (h : e ∈ restE p l) : e ∈ l := (List.mem_filter.1 h).1
theorem baseE_mem (p : PP) (v : Int) : ∀ (l : List En), baseE p v l = v ∨ ∃ e ∈ l, baseE p v l = e.2 := by
  intro l
  have key : ∀ (l : List En) (b : Int), baseE p b l = b ∨ ∃ e ∈ l, baseE p b l = e.2 := by
    intro l
    induction l with
    | nil => intro b; exact .inl rfl
    | cons x r ih =>
      intro b
      show baseE p (if x.1 = p then x.2 else b) r = b ∨ _
      by_cases h : x.1 = p
      · rw [if_pos h]
        rcases ih x.2 with g | ⟨e, he, g⟩
        · exact .inr ⟨x, by simp, by show baseE p (if x.1 = p then x.2 else b) r = _; rw [if_pos h]; exact g⟩
        · exact .inr ⟨e, by simp [he], by show baseE p (if x.1 = p then x.2 else b) r = _; rw [if_pos h]; exact g⟩
      · rw [if_neg h]
        rcases ih b with g | ⟨e, he, g⟩
        · exact .inl g
        · exact .inr ⟨e, by simp [he], by show baseE p (if x.1 = p then x.2 else b) r = _; rw [if_neg h]; exact g⟩
  exact key l v
theorem blk_inj {p q : PP} (hp : V p = true) (hq : V q = true) (h : blk p = blk q) : p = q := by rw [← pfx_blk hp, ← pfx_blk hq, h]
theorem blk_eq {p : PP} {A n K : Nat} (hp : p = (A, (n : Int))) (hn : n + K = 32) : blk p = (A, K) := by
  subst hp; unfold blk; dsimp only; congr 1; omega
/-- the entries of a block are a table of it -/
theorem inT_frag0 {A K : Nat} {t : List AG.Be} (h : AG.Frag 0 32 t) : AG.Frag A K (AG.inT A K t) :=
  ⟨h.asc.sublist List.filter_sublist, fun e he => h.al e (List.mem_filter.1 he).1, fun e he => by simpa using (List.mem_filter.1 he).2⟩
theorem base_of (A K : Nat) (p : PP) (hpv : V p = true) (hb : blk p = (A, K)) : ∀ (l : List En) (v : Int), (∀ e ∈ l, V e.1 = true) → baseE p v l = (l.map toBe).foldl (fun b x => if x.1 = (A, K) then x.2 else b) v
  | [], v, _ => rfl
  | e :: r, v, hv => by
    show baseE p (if e.1 = p then e.2 else v) r = ((r.map toBe).foldl _ (if blk e.1 = (A, K) then e.2 else v))
    rw [base_of A K p hpv hb r _ (fun x hx => hv x (by simp [hx]))]
    congr 1
    by_cases h : e.1 = p
    · rw [if_pos h, if_pos (by rw [h]; exact hb)]
    · rw [if_neg h, if_neg (fun g => h (blk_inj (hv e (by simp)) hpv (g.trans hb.symm)))]
theorem fold_none {A K : Nat} : ∀ (t : List AG.Be) (v : Int), (∀ x ∈ t, x.1 ≠ (A, K)) → t.foldl (fun b x => if x.1 = (A, K) then x.2 else b) v = v
  | [], v, _ => rfl
  | e :: r, v, h => by
    show r.foldl _ (if e.1 = (A, K) then e.2 else v) = v
    rw [if_neg (h e (by simp))]
    exact fold_none r v (fun x hx => h x (by simp [hx]))
theorem fold_inT {A K : Nat} : ∀ (t : List AG.Be) (v : Int), t.foldl (fun b x => if x.1 = (A, K) then x.2 else b) v = (AG.inT A K t).foldl (fun b x => if x.1 = (A, K) then x.2 else b) v
  | [], v => rfl
  | e :: r, v => by
    unfold AG.inT
    rw [List.filter_cons]
    show r.foldl _ (if e.1 = (A, K) then e.2 else v) = _
    by_cases h : e.1 = (A, K)
    · rw [if_pos h, if_pos (by rw [h]; simp)]
      show _ = (AG.inT A K r).foldl _ (if e.1 = (A, K) then e.2 else v)
      rw [if_pos h]
      exact fold_inT r e.2
    · rw [if_neg h]
      split
      · show _ = (AG.inT A K r).foldl _ (if e.1 = (A, K) then e.2 else v)
        rw [if_neg h]
        exact fold_inT r v
      · exact fold_inT r v
theorem root_parts {A K : Nat} {t : List AG.Be} (h : AG.Frag A K t) (v : Int) : (AG.root A K t).2 = t.filter (fun x => !decide (x.1 = (A, K))) ∧ (AG.root A K t).1.getD v = t.foldl (fun b x => if x.1 = (A, K) then x.2 else b) v := by
  rcases AG.root_or (A := A) (K := K) t with ⟨v0, r, e, hr⟩ | ⟨hr, hn⟩
  · subst e
    have hs := h.small_tail
    have hne : ∀ x ∈ r, x.1 ≠ (A, K) := fun x hx g => by have := hs x hx; rw [g] at this; exact Nat.lt_irrefl _ this
    rw [hr]
    refine ⟨?_, ?_⟩
    · rw [List.filter_cons, if_neg (by simp), List.filter_eq_self.2 (fun x hx => by simpa using hne x hx)]
    · show v0 = r.foldl _ (if ((A, K) : Nat × Nat) = (A, K) then v0 else v)
      rw [if_pos rfl, fold_none r v0 hne]
  · have hs := h.small_none hn
    have hne : ∀ x ∈ t, x.1 ≠ (A, K) := fun x hx g => by have := hs x hx; rw [g] at this; exact Nat.lt_irrefl _ this
    rw [hr]
    exact ⟨(List.filter_eq_self.2 (fun x hx => by simpa using hne x hx)).symm, (fold_none t v hne).symm⟩
theorem rest_of {A K : Nat} {p : PP} (hpv : V p = true) (hb : blk p = (A, K)) {l : List En} (hv : ∀ e ∈ l, V e.1 = true) : (restE p l).map toBe = (AG.inT A K (l.map toBe)).filter (fun x => !decide (x.1 = (A, K))) := by
  unfold restE AG.inT
  rw [List.filter_filter, List.filter_map]
  congr 1
  refine List.filter_congr fun e he => ?_
  have h1 := cov_cv (p := p) (q := e.1) hpv (hv e he)
  rw [hb] at h1
  have h2 : (e.1 = p) ↔ (blk e.1 = (A, K)) := ⟨fun h => by rw [h]; exact hb, fun g => blk_inj (hv e he) hpv (g.trans hb.symm)⟩
  show (!decide (e.1 = p) && C p e.1) = ((!decide (blk e.1 = (A, K))) && decide (A ≤ (blk e.1).1 ∧ (blk e.1).1 + 2 ^ (blk e.1).2 ≤ A + 2 ^ K))
  rw [decide_eq_decide.2 h2]
  congr 1
  have h3 : C p e.1 = true ↔ (A ≤ (blk e.1).1 ∧ (blk e.1).1 + 2 ^ (blk e.1).2 ≤ A + 2 ^ K) := h1
  by_cases g : C p e.1 = true
  · rw [g, decide_eq_true (h3.1 g)]
  · rw [Bool.eq_false_iff.2 g, decide_eq_false (fun q => g (h3.2 q))]
/-- what the loop over the entries gives: the root's value and the others -/
theorem cost_root {A K : Nat} {p : PP} (hpv : V p = true) (hb : blk p = (A, K)) {l : List En} (hF : AG.Frag 0 32 (l.map toBe)) (hv : ∀ e ∈ l, V e.1 = true) (v : Int) :
    (restE p l).map toBe = (AG.root A K (AG.inT A K (l.map toBe))).2 ∧ baseE p v l = (AG.root A K (AG.inT A K (l.map toBe))).1.getD v := by
  obtain ⟨h1, h2⟩ := root_parts (inT_frag0 (A := A) (K := K) hF) v
  exact ⟨(rest_of hpv hb hv).trans h1.symm, by rw [h2, base_of A K p hpv hb l v hv, fold_inT]⟩
/-- a list that is worked through from the front -/
def mix (vals : List Int) (i : Nat) (f g : Int → Int) : List Int := (vals.take i).map f ++ (vals.drop i).map g
theorem mix_len (vals : List Int) (i : Nat) (f g : Int → Int) : (mix vals i f g).length = vals.length := by unfold mix; rw [List.length_append, List.length_map, List.length_map, List.length_take, List.length_drop]; omega
theorem mix_zero (vals : List Int) (f g : Int → Int) : mix vals 0 f g = vals.map g := by unfold mix; simp
theorem mix_all {vals : List Int} {i : Nat} (h : vals.length ≤ i) (f g : Int → Int) : mix vals i f g = vals.map f := by unfold mix; rw [List.take_of_length_le h, List.drop_eq_nil_of_le h]; simp
theorem drop_at {vals : List Int} {i : Nat} {x : Int} (h : vals[i]? = some x) : vals.drop i = x :: vals.drop (i + 1) := by
  obtain ⟨h1, e⟩ := List.getElem?_eq_some_iff.1 h
  rw [List.drop_eq_getElem_cons h1, e]
theorem mix_get {vals : List Int} {i : Nat} {x : Int} (h : vals[i]? = some x) (f g : Int → Int) : (mix vals i f g)[i]? = some (g x) := by
  have h1 := (List.getElem?_eq_some_iff.1 h).1
  have hl : ((vals.take i).map f).length = i := by rw [List.length_map, List.length_take]; omega
  unfold mix
  rw [List.getElem?_append_right (by omega), hl, Nat.sub_self, drop_at h]
  rfl
theorem mix_set {vals : List Int} {i : Nat} {x : Int} (h : vals[i]? = some x) (f g : Int → Int) : (mix vals i f g).set i (f x) = mix vals (i + 1) f g := by
  have h1 := (List.getElem?_eq_some_iff.1 h).1
  have hl : ((vals.take i).map f).length = i := by rw [List.length_map, List.length_take]; omega
  unfold mix
  rw [List.set_append_right _ _ (by omega), hl, Nat.sub_self, drop_at h, List.take_add_one, h]
  simp
theorem mix_same {vals : List Int} {i : Nat} {x : Int} (h : vals[i]? = some x) (f g : Int → Int) (e : f x = g x) : mix vals (i + 1) f g = mix vals i f g := by
  unfold mix
  rw [drop_at h, List.take_add_one, h]
  simp [e]
theorem frag_sub {A K : Nat} {s t : List AG.Be} (h : AG.Frag A K t) (hs : s.Sublist t) : AG.Frag A K s := ⟨h.asc.sublist hs, fun e he => h.al e (hs.subset he), fun e he => h.wi e (hs.subset he)⟩
theorem restE_frag {A K : Nat} {p : PP} {l : List En} (h : AG.Frag A K (l.map toBe)) : AG.Frag A K ((restE p l).map toBe) := frag_sub h (List.filter_sublist.map _)
/-- what costs answers -/
def needZ (K A : Nat) (l : List En) (base : Int) (x : Int) : Int := ((AG.reg K A (AG.inT A K (l.map toBe)) base).need x : Int)
theorem needZ_leaf {K A n : Nat} {l : List En} {base : Int} (hpv : V (A, (n : Int)) = true) (hb : blk (A, (n : Int)) = (A, K)) (hF : AG.Frag 0 32 (l.map toBe)) (hv : ∀ e ∈ l, V e.1 = true) (h : restE (A, (n : Int)) l = []) (x : Int) :
    needZ K A l base x = if x = baseE (A, (n : Int)) base l then 0 else 1 := by
  obtain ⟨h1, h2⟩ := cost_root hpv hb hF hv base
  rw [h] at h1
  unfold needZ
  rw [reg_B, ← h1, ← h2]
  show ((regB K A [] _).need x : Int) = _
  rw [regB_nil]
  unfold AG.RT.need AG.RT.cost AG.RT.best
  by_cases g : x = baseE (A, (n : Int)) base l
  · rw [if_pos g, if_pos (by simp [g])]; rfl
  · rw [if_neg g, if_neg (by simpa using g)]; rfl
/-- where entries lie below, what is needed follows from both halves -/
theorem needZ_node {K A n : Nat} {l : List En} {base : Int} (hA : A % 2 ^ (K + 1) = 0) (hpv : V (A, (n : Int)) = true) (hb : blk (A, (n : Int)) = (A, K + 1)) (hF : AG.Frag 0 32 (l.map toBe)) (hv : ∀ e ∈ l, V e.1 = true) (h : restE (A, (n : Int)) l ≠ [])
    {vals : List Int} (hbv : base ∈ vals) (hev : ∀ e ∈ l, e.2 ∈ vals) {m : Int}
    (hm1 : ∃ x ∈ vals, m = needZ K A (restE (A, (n : Int)) l) (baseE (A, (n : Int)) base l) x + needZ K (A + 2 ^ K) (restE (A, (n : Int)) l) (baseE (A, (n : Int)) base l) x)
    (hm2 : ∀ x ∈ vals, m ≤ needZ K A (restE (A, (n : Int)) l) (baseE (A, (n : Int)) base l) x + needZ K (A + 2 ^ K) (restE (A, (n : Int)) l) (baseE (A, (n : Int)) base l) x) (x : Int) :
    min (needZ K A (restE (A, (n : Int)) l) (baseE (A, (n : Int)) base l) x + needZ K (A + 2 ^ K) (restE (A, (n : Int)) l) (baseE (A, (n : Int)) base l) x) (m + 1) = needZ (K + 1) A l base x := by
  obtain ⟨h1, h2⟩ := cost_root hpv hb hF hv base
  have hft : AG.Frag A (K + 1) (AG.inT A (K + 1) (l.map toBe)) := inT_frag0 hF
  obtain ⟨g1, g2, _⟩ := AG.root_frag hft
  rw [← h1] at g1 g2
  have hne : (restE (A, (n : Int)) l).map toBe ≠ [] := fun e => h (List.map_eq_nil_iff.1 e)
  have hR : AG.reg (K + 1) A (AG.inT A (K + 1) (l.map toBe)) base = regB (K + 1) A ((restE (A, (n : Int)) l).map toBe) (baseE (A, (n : Int)) base l) := by rw [reg_B, ← h1, ← h2]
  have eL := AG.inT_low hA g1 g2
  have eH := AG.inT_high g1
  unfold needZ at hm1 hm2 ⊢
  rw [hR, regB_cons _ _ _ _ hne]
  rw [eL, eH] at hm1 hm2 ⊢
  have aL : A % 2 ^ K = 0 := CM.mod_of_le (Nat.le_succ K) hA
  have mL := AG.made K A (AG.lowT (A + 2 ^ K) ((restE (A, (n : Int)) l).map toBe)) (baseE (A, (n : Int)) base l) aL (g1.low hA g2)
  have mH := AG.made K (A + 2 ^ K) (AG.highT (A + 2 ^ K) ((restE (A, (n : Int)) l).map toBe)) (baseE (A, (n : Int)) base l) (AG.high_al hA) g1.high
  have hbs : baseE (A, (n : Int)) base l ∈ vals := by
    rcases baseE_mem (A, (n : Int)) base l with e | ⟨e, he, g⟩
    · rw [e]; exact hbv
    · rw [g]; exact hev e he
  have hval : ∀ (t : List AG.Be), (∀ e ∈ t, e ∈ (restE (A, (n : Int)) l).map toBe) → ∀ y, AG.Val t (baseE (A, (n : Int)) base l) y → y ∈ vals := by
    intro t ht y hy
    rcases hy with e | ⟨e, he, g⟩
    · rw [e]; exact hbs
    · obtain ⟨f, hf, rfl⟩ := List.mem_map.1 (ht e he)
      rw [← g]; exact hev f (restE_mem hf)
  generalize AG.reg K A (AG.lowT (A + 2 ^ K) ((restE (A, (n : Int)) l).map toBe)) (baseE (A, (n : Int)) base l) = rl at *
  generalize AG.reg K (A + 2 ^ K) (AG.highT (A + 2 ^ K) ((restE (A, (n : Int)) l).map toBe)) (baseE (A, (n : Int)) base l) = rr at *
  have hsh : ∀ y ∈ AG.shared rl.best rr.best, y ∈ vals := by
    intro y hy
    have hyb : y ∈ rl.best ∨ y ∈ rr.best := by
      by_cases hx : ∃ v, v ∈ rl.best ∧ v ∈ rr.best
      · exact .inl ((AG.shared_both hx y).1 hy).1
      · exact (AG.shared_either hx y).1 hy
    rcases hyb with g | g
    · exact hval _ AG.low_sub y (mL.val y g)
    · exact hval _ AG.high_sub y (mH.val y g)
  obtain ⟨x0, hx0, e0⟩ := hm1
  have key := AG.node_costs (A := A) (K := K + 1) mL.ne mH.ne vals hsh (rl.need x0 + rr.need x0) ⟨x0, hx0, rfl⟩ (fun y hy => by have := hm2 y hy; omega) x
  rw [← key, e0]
  omega
end Go.Proofs.YtegponbmelgngaaGreat
end

section
namespace Go.Proofs.YtegponbmelgngaaGreat
open Go.RowKit
set_option linter.unusedSimpArgs false
set_option linter.unusedVariables false
set_option maxHeartbeats 4000000
set_option maxRecDepth 100000

/-- ints, as a slice reads -/
def RdZ (w : World) (v : Value) (l : List Int) : Prop := ∃ ad cap, v = .slice ad l.length cap ∧ ∀ (k : Nat) (x : Int), l[k]? = some x → ∃ b off, ad = some ⟨b, off, none⟩ ∧ b < w.heap.size ∧ w.cell? ⟨b, off + k, none⟩ = some (.int .i64 x)
theorem RdZ.below {w w' : World} {v : Value} {l : List Int} (h : RdZ w v l) (hb : Below w.heap.size w w') : RdZ w' v l := by
  obtain ⟨ad, cap, e, hc⟩ := h
  refine ⟨ad, cap, e, fun k x hk => ?_⟩
  obtain ⟨b, off, e2, hlt, hcell⟩ := hc k x hk
  exact ⟨b, off, e2, Nat.lt_of_lt_of_le hlt hb.size, carryE hb hlt hcell⟩
def CostP (K : Nat) : Prop := ∀ (A n : Nat) (l : List En) (vl vv : Value) (vals : List Int) (base : Int) (w : World), n + K = 32 → A % 2 ^ K = 0 → A + 2 ^ K ≤ 4294967296 → RdE w vl l → AG.Frag 0 32 (l.map toBe) → (∀ e ∈ l, V e.1 = true) → FitE l → l.length ≤ 40 → RdZ w vv vals → base ∈ vals → (∀ e ∈ l, e.2 ∈ vals) → vals.length ≤ 100 → I64 base →
  Calls Tryz.prog 20 #[vl, vv, .agg #[.int .u32 (A : Int), .int .i64 (n : Int)], .int .i64 base] w fun e w' => ∃ g, e = .returned (.slice (some ⟨g, 0, none⟩) vals.length vals.length) ∧ w.heap.size ≤ g ∧ w'.heap[g]? = some (.cells (intV (vals.map (needZ K A l base))).toArray 3 (0, 0)) ∧ Below w.heap.size w w'
theorem cost_step (K : Nat) (IH : ∀ K', K = K' + 1 → CostP K') : CostP K := by
  intro A n l vl vv vals base w hn hA hAt hr hF hv hf hlen hz hbv hev hvl hbi
  obtain ⟨i0, hi, hz0, hz1, hz2⟩ := info_parts info37
  have hK : K ≤ 32 := by omega
  have hn32 : n ≤ 32 := by omega
  have hnI : I64 (n : Int) := by constructor <;> omega
  have hAl : A < 4294967296 := by have := CM.pow_pos' K; omega
  have hblk : blk (A, (n : Int)) = (A, K) := blk_eq rfl hn
  have hpv : V (A, (n : Int)) = true := (V_al A n).2 ⟨by omega, by omega, by rw [show 32 - ((n : Int)).toNat = K by omega]; exact hA⟩
  have HCR := Lib.hid (cost_root hpv hblk hF hv base)
  have HPV := Lib.hid hpv
  have HIH := Lib.hid IH
  obtain ⟨adl, capl, rfl, hcl⟩ := hr
  have HLC := Lib.hid hcl
  obtain ⟨adv, capv, rfl, hcv⟩ := id hz
  have HZ := Lib.hid hz
  obtain ⟨L, hL⟩ : ∃ L, l.length = L := ⟨_, rfl⟩
  obtain ⟨N, hN⟩ : ∃ N, vals.length = N := ⟨_, rfl⟩
  rw [hL] at hlen ⊢
  rw [hN] at hvl HZ ⊢
  have HL := Lib.hid hL
  have HN := Lib.hid hN
  have HE : Hid ((∀ e ∈ l, V e.1 = true) ∧ FitE l ∧ AG.Frag 0 32 (l.map toBe) ∧ base ∈ vals ∧ (∀ e ∈ l, e.2 ∈ vals)) := ⟨hv, hf, hF, hbv, hev⟩
  have HA := Lib.hid (And.intro hn (And.intro hA hAt))
  have HX : Hid (∀ W (e : En), e ∈ l → Calls Tryz.prog 38 #[.agg #[.int .u32 (A : Int), .int .i64 (n : Int)], .agg #[.int .u32 (e.1.1 : Int), .int .i64 e.1.2]] W fun en w' => en = .returned (.bool (C (A, (n : Int)) e.1)) ∧ Below W.heap.size W w') := fun W e he => rcovers_any A hAl n hnI e.1.1 (hf e he).1 e.1.2 (hf e he).2.1 W
  have HBI := Lib.hid hbi
  clear hcl hcv hF hv hf hbv hev hA hAt hpv hblk IH hL hN hz hbi
  go_enter Tryz.func20, Tryz.ntmps20
  go_wp2_with fail
  have HB1 : Hid (Below w.heap.size w (w.alloc (.cells #[.int .u32 (A : Int), .int .i64 (n : Int)] 35)) ∧ (w.alloc (.cells #[.int .u32 (A : Int), .int .i64 (n : Int)] 35)).heap[w.heap.size]? = some (.cells #[.int .u32 (A : Int), .int .i64 (n : Int)] 35 (0, 0))) := ⟨below_alloc _ _, heap_alloc_new _ _⟩
  generalize w.alloc (.cells #[.int .u32 (A : Int), .int .i64 (n : Int)] 35) = W1 at *
  go_loopg [3, 9, 11, 25] L (fun g s3 s9 s11 s25 wr => ∃ (k : Nat) (v : Value) (o : List En) (bs : Int), v = s9 ∧ s3 = .int .i64 bs ∧ (∃ u, u = s11) ∧ s25 = .int .i64 (k : Int) ∧ k ≤ L ∧ L - k ≤ g ∧ o.length ≤ k ∧ Hid (o = restE (A, (n : Int)) (l.take k) ∧ bs = baseE (A, (n : Int)) base (l.take k)) ∧ Hid (Below W1.heap.size W1 wr ∧ wr.ownsRow W1.heap.size 37 3 v o.length (flatE o)))
  case atStart => exact ⟨0, _, [], base, rfl, rfl, ⟨_, rfl⟩, rfl, by omega, by omega, Nat.le_refl _, ⟨rfl, rfl⟩, Below.refl _ _, World.ownsRow_nil _ _ _ _⟩
  case round =>
    obtain ⟨k, v, o, bs, rfl, rfl, ⟨u11, rfl⟩, rfl, hk, hg, hok, HO, HS⟩ := hrel
    have HB2 : Hid (wr.heap[w.heap.size]? = some (.cells #[.int .u32 (A : Int), .int .i64 (n : Int)] 35 (0, 0))) := (HS.out.1.block _ (ltO HB1.out.2)).trans HB1.out.2
    by_cases hlt : k < L
    · clear HIH HCR HZ HN HBI
      obtain ⟨e, he⟩ : ∃ x, l[k]? = some x := ⟨_, List.getElem?_eq_getElem (by have := HL.out; omega)⟩
      obtain ⟨b, off, rfl, hbl, c0, c1, c2⟩ := HLC.out k e he
      have d0 := carryE (below_then HB1.out.1 HS.out.1) hbl c0
      have d1 := carryE (below_then HB1.out.1 HS.out.1) hbl c1
      have d2 := carryE (below_then HB1.out.1 HS.out.1) hbl c2
      have HXE := Lib.hid (fun W => HX.out W e (List.mem_of_getElem? he))
      have HTR : Hid (restE (A, (n : Int)) (l.take (k + 1)) = restE (A, (n : Int)) (l.take k) ++ (if restC (A, (n : Int)) e = true then [e] else [])) := by
        show _ = _
        rw [List.take_add_one, he]; exact restE_snoc _ _ _
      have HTB : Hid (baseE (A, (n : Int)) base (l.take (k + 1)) = if e.1 = (A, (n : Int)) then e.2 else baseE (A, (n : Int)) base (l.take k)) := by
        show _ = _
        rw [List.take_add_one, he]; exact baseE_snoc _ _ _ _
      obtain ⟨⟨x, m⟩, val⟩ := e
      dsimp only at d0 d1 d2 HXE HTR HTB
      have j0 : (0 : Int) ≤ (k : Int) := by omega
      have j1 : (k : Int) < (L : Int) := by omega
      have HW2 : Hid (Below wr.heap.size wr (wr.alloc (.cells #[.int .u32 (x : Int), .int .i64 m, .int .i64 val] 37)) ∧ (wr.alloc (.cells #[.int .u32 (x : Int), .int .i64 m, .int .i64 val] 37)).heap[wr.heap.size]? = some (.cells #[.int .u32 (x : Int), .int .i64 m, .int .i64 val] 37 (0, 0))) := ⟨below_alloc _ _, heap_alloc_new _ _⟩
      have p0 : (wr.alloc (.cells #[.int .u32 (x : Int), .int .i64 m, .int .i64 val] 37)).cell? ⟨w.heap.size, 0, none⟩ = some (.int .u32 (A : Int)) := cellO ((HW2.out.1.block _ (ltO HB2.out)).trans HB2.out) rfl
      have p1 : (wr.alloc (.cells #[.int .u32 (x : Int), .int .i64 m, .int .i64 val] 37)).cell? ⟨w.heap.size, 1, none⟩ = some (.int .i64 (n : Int)) := cellO ((HW2.out.1.block _ (ltO HB2.out)).trans HB2.out) rfl
      clear c0 c1 c2 he hbl
      by_cases hp : x = A ∧ m = (n : Int)
      · obtain ⟨rfl, rfl⟩ := hp
        have HO2 : Hid (o = restE (x, (n : Int)) (l.take (k + 1)) ∧ val = baseE (x, (n : Int)) base (l.take (k + 1))) := ⟨by rw [HTR.out, if_neg (by unfold restC; simp), List.append_nil]; exact HO.out.1, by rw [HTB.out, if_pos rfl]⟩
        have HS2 : Hid (Below W1.heap.size W1 (wr.alloc (.cells #[.int .u32 (x : Int), .int .i64 (n : Int), .int .i64 val] 37)) ∧ (wr.alloc (.cells #[.int .u32 (x : Int), .int .i64 (n : Int), .int .i64 val] 37)).ownsRow W1.heap.size 37 3 v o.length (flatE o)) := ⟨below_then HS.out.1 HW2.out.1, own_below HS.out.2 HW2.out.1⟩
        go_wp2_with fail
        go_roundg (L - (k + 1))
        case measure => omega
        case rel => exact ⟨k + 1, v, o, val, rfl, rfl, ⟨_, rfl⟩, by go_num, by omega, Nat.le_refl _, by omega, HO2, HS2⟩
      · have HNP : Hid (¬ ((x, m) : PP) = (A, (n : Int))) := fun g => hp (by have := Prod.mk.inj g; exact this)
        have HO3 : Hid (bs = baseE (A, (n : Int)) base (l.take (k + 1))) := by
          show _ = _
          rw [HTB.out, if_neg HNP.out]; exact HO.out.2
        obtain ⟨q, hq⟩ : ∃ q, C (A, (n : Int)) (x, m) = q := ⟨_, rfl⟩
        have HRC : Hid (restC (A, (n : Int)) ((x, m), val) = q) := by
          show _ = _
          unfold restC; rw [decide_eq_false HNP.out, hq]; rfl
        rw [hq] at HXE
        clear hq
        have HBW : Hid (Below W1.heap.size W1 wr) := HS.out.1
        have hcase : (¬ x = A) ∨ (x = A ∧ ¬ m = (n : Int)) := by
          by_cases hxa : x = A
          · exact .inr ⟨hxa, fun g => hp ⟨hxa, g⟩⟩
          · exact .inl hxa
        cases q with
        | true =>
          have HO2 : Hid (o ++ [((x, m), val)] = restE (A, (n : Int)) (l.take (k + 1))) := by
            show _ = _
            rw [HTR.out, HRC.out, ← HO.out.1]; rfl
          rcases hcase with hc | ⟨hc, hm⟩
          · have n1 : ¬ (x : Int) = (A : Int) := by omega
            go_wp2_with (first
              | (go_at_call 38; refine (HXE.out _).mono ?_; rintro en w3 ⟨rfl, hb⟩
                 have H3 : Hid (Below W1.heap.size W1 w3 ∧ w3.ownsRow W1.heap.size 37 3 v o.length (flatE o)) := ⟨below_then (below_then HS.out.1 HW2.out.1) hb, own_below (own_below HS.out.2 HW2.out.1) hb⟩
                 have h3w := (hb.block _ (ltO HW2.out.2)).trans HW2.out.2
                 have f0 := cellO h3w (o := 0) rfl
                 have f1 := cellO h3w (o := 1) rfl
                 have f2 := cellO h3w (o := 2) rfl
                 have hws := H3.out.1.size
                 clear hb h3w)
              | (at_builtin; refine wpList_append_own _ rfl (.tmp 41) (.tmp 43) 22 rfl W1.heap.size 37 i0 (.agg #[.int .u32 0, .int .i64 0, .int .i64 0]) 3 24 Tryz.underlying22 hi hz0 hz1 hz2 rfl (by decide) v o.length (flatE o) rfl (own_below H3.out.2 (below_alloc _ _)) ⟨w3.heap.size, 0, none⟩ 1 1 [.int .u32 (x : Int), .int .i64 m, .int .i64 val] rfl rfl (cell_three_at _ _ _ _ _ rfl) (one_three _ _ _) (by unfold maxLen; omega) (by omega) (by simp; omega) ?_; intro v1 w4 hown hgrow hnil
                 have S2 : Hid (Below W1.heap.size W1 w4 ∧ w4.ownsRow W1.heap.size 37 3 v1 (o ++ [((x, m), val)]).length (flatE (o ++ [((x, m), val)]))) := ⟨(H3.out.1.alloc hws _).grown hgrow (by simp; omega) (fun q hq => (own_lt H3.out.2 hq).1), by rw [flatE_snoc, List.length_append]; exact hown⟩; clear hown hgrow hnil))
            go_roundg (L - (k + 1))
            case measure => omega
            case rel => exact ⟨k + 1, v1, _, bs, rfl, rfl, ⟨_, rfl⟩, by go_num, by omega, Nat.le_refl _, by simp; omega, ⟨HO2.out, HO3.out⟩, S2⟩
          · obtain rfl := hc.symm
            go_wp2_with (first
              | (go_at_call 38; refine (HXE.out _).mono ?_; rintro en w3 ⟨rfl, hb⟩
                 have H3 : Hid (Below W1.heap.size W1 w3 ∧ w3.ownsRow W1.heap.size 37 3 v o.length (flatE o)) := ⟨below_then (below_then HS.out.1 HW2.out.1) hb, own_below (own_below HS.out.2 HW2.out.1) hb⟩
                 have h3w := (hb.block _ (ltO HW2.out.2)).trans HW2.out.2
                 have f0 := cellO h3w (o := 0) rfl
                 have f1 := cellO h3w (o := 1) rfl
                 have f2 := cellO h3w (o := 2) rfl
                 have hws := H3.out.1.size
                 clear hb h3w)
              | (at_builtin; refine wpList_append_own _ rfl (.tmp 41) (.tmp 43) 22 rfl W1.heap.size 37 i0 (.agg #[.int .u32 0, .int .i64 0, .int .i64 0]) 3 24 Tryz.underlying22 hi hz0 hz1 hz2 rfl (by decide) v o.length (flatE o) rfl (own_below H3.out.2 (below_alloc _ _)) ⟨w3.heap.size, 0, none⟩ 1 1 [.int .u32 (A : Int), .int .i64 m, .int .i64 val] rfl rfl (cell_three_at _ _ _ _ _ rfl) (one_three _ _ _) (by unfold maxLen; omega) (by omega) (by simp; omega) ?_; intro v1 w4 hown hgrow hnil
                 have S2 : Hid (Below W1.heap.size W1 w4 ∧ w4.ownsRow W1.heap.size 37 3 v1 (o ++ [((A, m), val)]).length (flatE (o ++ [((A, m), val)]))) := ⟨(H3.out.1.alloc hws _).grown hgrow (by simp; omega) (fun q hq => (own_lt H3.out.2 hq).1), by rw [flatE_snoc, List.length_append]; exact hown⟩; clear hown hgrow hnil))
            go_roundg (L - (k + 1))
            case measure => omega
            case rel => exact ⟨k + 1, v1, _, bs, rfl, rfl, ⟨_, rfl⟩, by go_num, by omega, Nat.le_refl _, by simp; omega, ⟨HO2.out, HO3.out⟩, S2⟩
        | false =>
          have HO2 : Hid (o = restE (A, (n : Int)) (l.take (k + 1))) := by
            show _ = _
            rw [HTR.out, HRC.out, ← HO.out.1]; simp
          rcases hcase with hc | ⟨hc, hm⟩
          · have n1 : ¬ (x : Int) = (A : Int) := by omega
            go_wp2_with (go_at_call 38; refine (HXE.out _).mono ?_; rintro en w3 ⟨rfl, hb⟩; have H3 : Hid (Below W1.heap.size W1 w3 ∧ w3.ownsRow W1.heap.size 37 3 v o.length (flatE o)) := ⟨below_then (below_then HS.out.1 HW2.out.1) hb, own_below (own_below HS.out.2 HW2.out.1) hb⟩; clear hb)
            go_roundg (L - (k + 1))
            case measure => omega
            case rel => exact ⟨k + 1, v, o, bs, rfl, rfl, ⟨_, rfl⟩, by go_num, by omega, Nat.le_refl _, by omega, ⟨HO2.out, HO3.out⟩, H3⟩
          · obtain rfl := hc.symm
            go_wp2_with (go_at_call 38; refine (HXE.out _).mono ?_; rintro en w3 ⟨rfl, hb⟩; have H3 : Hid (Below W1.heap.size W1 w3 ∧ w3.ownsRow W1.heap.size 37 3 v o.length (flatE o)) := ⟨below_then (below_then HS.out.1 HW2.out.1) hb, own_below (own_below HS.out.2 HW2.out.1) hb⟩; clear hb)
            go_roundg (L - (k + 1))
            case measure => omega
            case rel => exact ⟨k + 1, v, o, bs, rfl, rfl, ⟨_, rfl⟩, by go_num, by omega, Nat.le_refl _, by omega, ⟨HO2.out, HO3.out⟩, H3⟩
    · have k1 : decide ((k : Int) < (L : Int)) = false := decide_eq_false (by omega)
      obtain rfl : k = L := by omega
      have hR : o = restE (A, (n : Int)) l ∧ bs = baseE (A, (n : Int)) base l := by
        have h := HO.out
        rwa [List.take_of_length_le (by have := HL.out; omega)] at h
      have HRR := Lib.hid hR
      clear hR
      have hmk := make_ints N (by omega)
      have HBW : Hid (Below w.heap.size w wr) := below_then HB1.out.1 HS.out.1
      have HMK : Hid (Below wr.heap.size wr (wr.alloc (.cells (intV (List.replicate N 0)).toArray 3)) ∧ (wr.alloc (.cells (intV (List.replicate N 0)).toArray 3)).heap[wr.heap.size]? = some (.cells (intV (mix vals 0 (needZ K A l base) (fun _ => 0))).toArray 3 (0, 0))) := ⟨below_alloc _ _, by
        have e : mix vals 0 (needZ K A l base) (fun _ => 0) = List.replicate N 0 := by rw [mix_zero, ← HN.out]; exact List.map_const' ..
        rw [e]; exact heap_alloc_new _ _⟩
      have hrd := rdE_own HS.out.2
      have HRD := Lib.hid hrd
      obtain ⟨ad9, cap9, rfl, -⟩ := hrd
      by_cases hnil : o = []
      · have HND : Hid (∀ x, needZ K A l base x = if x = bs then 0 else 1) := fun x => by
          rw [HRR.out.2]
          exact needZ_leaf HPV.out (blk_eq rfl HA.out.1) HE.out.2.2.1 HE.out.1 (HRR.out.1 ▸ hnil) x
        have hO : o.length = 0 := by rw [hnil]; rfl
        rw [hO]
        clear HIH HCR HO HRR HRD HX HPV hnil hO
        go_wp2_with fail
        have HM2 : Hid (Below w.heap.size w (wr.alloc (.cells (intV (List.replicate N 0)).toArray 3)) ∧ w.heap.size ≤ wr.heap.size ∧ (wr.alloc (.cells (intV (List.replicate N 0)).toArray 3)).heap[wr.heap.size]? = some (.cells (intV (mix vals 0 (needZ K A l base) (fun _ => 0))).toArray 3 (0, 0))) := ⟨below_then HBW.out HMK.out.1, HBW.out.size, HMK.out.2⟩
        clear hmk HMK HBW HS HB2
        generalize wr.alloc (.cells (intV (List.replicate N 0)).toArray 3) = W2 at *
        generalize wr.heap.size = B2 at *
        go_loopg [13, 14, 54] N (fun g s13 s14 s54 wr => ∃ i : Nat, (∃ u, u = s13) ∧ (∃ u, u = s14) ∧ s54 = .int .i64 (i : Int) ∧ i ≤ N ∧ N - i ≤ g ∧ Hid (Below w.heap.size w wr ∧ wr.heap[B2]? = some (.cells (intV (mix vals i (needZ K A l base) (fun _ => 0))).toArray 3 (0, 0))))
        case atStart => exact ⟨0, ⟨_, rfl⟩, ⟨_, rfl⟩, rfl, by omega, by omega, HM2.out.1, HM2.out.2.2⟩
        case round =>
          obtain ⟨i, ⟨u13, rfl⟩, ⟨u14, rfl⟩, rfl, hi9, hg9, HI⟩ := hrel
          by_cases hlt9 : i < N
          · obtain ⟨x, hx⟩ : ∃ x, vals[i]? = some x := ⟨_, List.getElem?_eq_getElem (by have := HN.out; omega)⟩
            obtain ⟨ad8, cap8, e8, hc8⟩ := id HZ.out
            obtain ⟨b, off, e7, hbl, c0⟩ := hc8 i x hx
            have e6 := (Value.slice.inj e8).1
            rw [e7] at e6
            clear e8 hc8
            subst e6
            have d0 := carryE HI.out.1 hbl c0
            have j0 : (0 : Int) ≤ (i : Int) := by omega
            have j1 : (i : Int) < (N : Int) := by omega
            have hcz : wr.cell? ⟨B2, i, none⟩ = some (.int .i64 0) := cellO HI.out.2 (intV_get (mix_get hx _ _))
            have hfz : wr.frozen? ⟨B2, i, none⟩ = false := freeO HI.out.2 _
            have HG : Hid (needZ K A l base x = if x = bs then 0 else 1) := HND.out x
            have HX9 := Lib.hid hx
            clear c0 e7 hbl hx
            by_cases hxb : x = bs
            · have HI2 : Hid (Below w.heap.size w wr ∧ wr.heap[B2]? = some (.cells (intV (mix vals (i + 1) (needZ K A l base) (fun _ => 0))).toArray 3 (0, 0))) := ⟨HI.out.1, by rw [mix_same HX9.out _ _ (by rw [HG.out, if_pos hxb])]; exact HI.out.2⟩
              have f1 : (x == bs) = true := by simpa using hxb
              have f2 : (x != bs) = false := by simpa using hxb
              clear hxb
              go_wp2_with fail
              go_roundg (N - (i + 1))
              case measure => omega
              case rel => exact ⟨i + 1, ⟨_, rfl⟩, ⟨_, rfl⟩, by go_num, by omega, Nat.le_refl _, HI2.out⟩
            · have HI2 : Hid (Below w.heap.size w (wr.setCell ⟨B2, i, none⟩ (.int .i64 1)) ∧ (wr.setCell ⟨B2, i, none⟩ (.int .i64 1)).heap[B2]? = some (.cells (intV (mix vals (i + 1) (needZ K A l base) (fun _ => 0))).toArray 3 (0, 0))) := ⟨HI.out.1.setCell HM2.out.2.1 _, by
                rw [heap_set_eq HI.out.2, intV_set, ← mix_set HX9.out, HG.out, if_neg hxb]⟩
              have f1 : (x == bs) = false := by simpa using hxb
              have f2 : (x != bs) = true := by simpa using hxb
              clear hxb
              go_wp2_with fail
              go_roundg (N - (i + 1))
              case measure => omega
              case rel => exact ⟨i + 1, ⟨_, rfl⟩, ⟨_, rfl⟩, by go_num, by omega, Nat.le_refl _, HI2.out⟩
          · have k1 : decide ((i : Int) < (N : Int)) = false := decide_eq_false (by omega)
            have HF : Hid (wr.heap[B2]? = some (.cells (intV (vals.map (needZ K A l base))).toArray 3 (0, 0))) := by
              have h := HI.out.2
              rwa [mix_all (by have := HN.out; omega)] at h
            go_wp2_with fail
            go_ret
            exact ⟨B2, rfl, HM2.out.2.1, HF.out, HI.out.1⟩
      · have hF := HE.out.2.2.1
        obtain ⟨K', rfl⟩ : ∃ K', K = K' + 1 := by
          cases K with
          | zero =>
            exfalso
            obtain ⟨h1, -⟩ := HCR.out
            obtain ⟨-, g2, -⟩ := AG.root_frag (inT_frag0 (A := A) (K := 0) hF)
            rw [← h1, ← HRR.out.1] at g2
            cases o with
            | nil => exact hnil rfl
            | cons e r => have := g2 (toBe e) (by simp); omega
          | succ K' => exact ⟨K', rfl⟩
        have hIH := HIH.out K' rfl
        have hp2 : 2 ^ (K' + 1) = 2 ^ K' + 2 ^ K' := by rw [Nat.pow_succ]; omega
        obtain ⟨M, hM⟩ : ∃ M, M = A + 2 ^ K' := ⟨_, rfl⟩
        have hMA : M % 2 ^ K' = 0 := by rw [hM]; exact AG.high_al HA.out.2.1
        have hAA : A % 2 ^ K' = 0 := CM.mod_of_le (Nat.le_succ K') HA.out.2.1
        have hp0 := CM.pow_pos' K'
        have hMt : M + 2 ^ K' ≤ 4294967296 := by have := HA.out.2.2; omega
        have hmem : ∀ e ∈ o, e ∈ l := fun e he => by rw [HRR.out.1] at he; exact restE_mem he
        have hbsv : bs ∈ vals ∧ I64 bs := by
          rw [HRR.out.2]
          rcases baseE_mem (A, (n : Int)) base l with g | ⟨e, he, g⟩
          · rw [g]; exact ⟨HE.out.2.2.2.1, HBI.out⟩
          · rw [g]; exact ⟨HE.out.2.2.2.2 e he, (HE.out.2.1 e he).2.2⟩
        have hoF : AG.Frag 0 32 (o.map toBe) := by rw [HRR.out.1]; exact restE_frag hF
        obtain ⟨O, hO⟩ : ∃ O, o.length = O := ⟨_, rfl⟩
        have HRDO := Lib.hid (hO ▸ HRD.out)
        have HI1 : Hid (∀ W, Below wr.heap.size wr W → Calls Tryz.prog 20 #[.slice ad9 O cap9, .slice adv N capv, .agg #[.int .u32 (A : Int), .int .i64 ((n : Int) + 1)], .int .i64 bs] W fun e w' => ∃ g, e = .returned (.slice (some ⟨g, 0, none⟩) N N) ∧ W.heap.size ≤ g ∧ w'.heap[g]? = some (.cells (intV (vals.map (needZ K' A o bs))).toArray 3 (0, 0)) ∧ Below W.heap.size W w') := fun W hW => by
          have h := hIH A (n + 1) o _ _ vals bs W (by omega) hAA (by omega) (HRD.out.below hW) hoF (fun e he => HE.out.1 e (hmem e he)) (fun e he => HE.out.2.1 e (hmem e he)) (by omega) ((HN.out ▸ HZ.out).below (below_then HBW.out hW)) hbsv.1 (fun e he => HE.out.2.2.2.2 e (hmem e he)) (by have := HN.out; omega) hbsv.2
          rw [hO, HN.out] at h
          exact h
        have HI2 : Hid (∀ W, Below wr.heap.size wr W → Calls Tryz.prog 20 #[.slice ad9 O cap9, .slice adv N capv, .agg #[.int .u32 (M : Int), .int .i64 ((n : Int) + 1)], .int .i64 bs] W fun e w' => ∃ g, e = .returned (.slice (some ⟨g, 0, none⟩) N N) ∧ W.heap.size ≤ g ∧ w'.heap[g]? = some (.cells (intV (vals.map (needZ K' M o bs))).toArray 3 (0, 0)) ∧ Below W.heap.size W w') := fun W hW => by
          have h := hIH M (n + 1) o _ _ vals bs W (by omega) hMA (by omega) (HRD.out.below hW) hoF (fun e he => HE.out.1 e (hmem e he)) (fun e he => HE.out.2.1 e (hmem e he)) (by omega) ((HN.out ▸ HZ.out).below (below_then HBW.out hW)) hbsv.1 (fun e he => HE.out.2.2.2.2 e (hmem e he)) (by have := HN.out; omega) hbsv.2
          rw [hO, HN.out] at h
          exact h
        have HHV : Hid (∀ W, Calls Tryz.prog 39 #[.agg #[.int .u32 (A : Int), .int .i64 (n : Int)]] W fun e w' => e = .returned (.tuple #[.agg #[.int .u32 (A : Int), .int .i64 ((n : Int) + 1)], .agg #[.int .u32 (M : Int), .int .i64 ((n : Int) + 1)], .bool true]) ∧ Below W.heap.size W w') := fun W => by
          have h := rhalves_yes A hAl (n : Int) hnI W HPV.out (by omega) (by omega)
          have e : midN A (n : Int) = M := by rw [mid_eq HPV.out (by omega), hM]; congr 2; omega
          rw [e] at h
          exact h
        have HCO : Hid (∀ (m : Int), (∃ x ∈ vals, m = needZ K' A o bs x + needZ K' M o bs x) → (∀ x ∈ vals, m ≤ needZ K' A o bs x + needZ K' M o bs x) → ∀ x, min (needZ K' A o bs x + needZ K' M o bs x) (m + 1) = needZ (K' + 1) A l base x) := by
          intro m h1 h2 x
          have hne : restE (A, (n : Int)) l ≠ [] := HRR.out.1 ▸ hnil
          rw [hM, HRR.out.1, HRR.out.2] at h1 h2 ⊢
          exact needZ_node HA.out.2.1 HPV.out (blk_eq rfl HA.out.1) hF HE.out.1 hne HE.out.2.2.2.1 HE.out.2.2.2.2 h1 h2 x
        have HBD : Hid (∀ x, 0 ≤ needZ K' A o bs x ∧ needZ K' A o bs x ≤ 4294967296 ∧ 0 ≤ needZ K' M o bs x ∧ needZ K' M o bs x ≤ 4294967296) := fun x => by
          have h1 := reg_need K' A (AG.inT A K' (o.map toBe)) bs x
          have h2 := reg_need K' M (AG.inT M K' (o.map toBe)) bs x
          have h3 : 2 ^ K' ≤ 4294967296 := by omega
          unfold needZ
          omega
        have p0 : (wr.alloc (.cells (intV (List.replicate N 0)).toArray 3)).cell? ⟨w.heap.size, 0, none⟩ = some (.int .u32 (A : Int)) := cellO ((HMK.out.1.block _ (ltO HB2.out)).trans HB2.out) rfl
        have p1 : (wr.alloc (.cells (intV (List.replicate N 0)).toArray 3)).cell? ⟨w.heap.size, 1, none⟩ = some (.int .i64 (n : Int)) := cellO ((HMK.out.1.block _ (ltO HB2.out)).trans HB2.out) rfl
        have hOn : ¬ (O : Int) = 0 := by
          rw [← hO]
          have := List.length_pos_iff.2 hnil
          omega
        have hN0 : 0 < N := by rw [← HN.out]; exact List.length_pos_iff.2 (List.ne_nil_of_mem hbsv.1)
        have HOL := Lib.hid hO
        rw [hO]
        clear HIH hIH HCR HO HRR HRD HX HPV hnil hO hF hoF hmem hbsv hMA hAA hp0 hMt hp2 hM HE
        go_wp2_with (first
          | (go_at_call 39; refine (HHV.out _).mono ?_; rintro en w4 ⟨rfl, hb⟩; have H4 := Lib.hid hb; clear hb))
        have HA1 := heap_alloc_new w4 (.cells #[.int .u32 (A : Int), .int .i64 ((n : Int) + 1)] 35)
        have HA2 := heap_alloc_new (w4.alloc (.cells #[.int .u32 (A : Int), .int .i64 ((n : Int) + 1)] 35)) (.cells #[.int .u32 (M : Int), .int .i64 ((n : Int) + 1)] 35)
        rw [show (w4.alloc (.cells #[.int .u32 (A : Int), .int .i64 ((n : Int) + 1)] 35)).heap.size = w4.heap.size + 1 by simp] at HA2
        have HA1' := ((below_alloc (w4.alloc (.cells #[.int .u32 (A : Int), .int .i64 ((n : Int) + 1)] 35)) (.cells #[.int .u32 (M : Int), .int .i64 ((n : Int) + 1)] 35)).block _ (ltO HA1)).trans HA1
        have k0 := cellO HA1' (o := 0) rfl
        have k1 := cellO HA1' (o := 1) rfl
        have k2 := cellO HA2 (o := 0) rfl
        have k3 := cellO HA2 (o := 1) rfl
        have hb4 : Below w4.heap.size w4 ((w4.alloc (.cells #[.int .u32 (A : Int), .int .i64 ((n : Int) + 1)] 35)).alloc (.cells #[.int .u32 (M : Int), .int .i64 ((n : Int) + 1)] 35)) := below2 _ _ _
        have h4r := (H4.out.block _ (ltO HMK.out.2)).trans HMK.out.2
        have H5 : Hid (Below wr.heap.size wr ((w4.alloc (.cells #[.int .u32 (A : Int), .int .i64 ((n : Int) + 1)] 35)).alloc (.cells #[.int .u32 (M : Int), .int .i64 ((n : Int) + 1)] 35)) ∧ ((w4.alloc (.cells #[.int .u32 (A : Int), .int .i64 ((n : Int) + 1)] 35)).alloc (.cells #[.int .u32 (M : Int), .int .i64 ((n : Int) + 1)] 35)).heap[wr.heap.size]? = some (.cells (intV (mix vals 0 (needZ (K' + 1) A l base) (fun _ => 0))).toArray 3 (0, 0))) := ⟨below_then (below_then HMK.out.1 H4.out) hb4, (hb4.block _ (ltO h4r)).trans h4r⟩
        clear HA1 HA2 HA1' hb4 h4r p0 p1 H4 hmk
        generalize (w4.alloc (.cells #[.int .u32 (A : Int), .int .i64 ((n : Int) + 1)] 35)).alloc (.cells #[.int .u32 (M : Int), .int .i64 ((n : Int) + 1)] 35) = W5 at *
        generalize w4.heap.size = B4 at *
        have HL1 : Hid (∀ W, (W.cell? ⟨B4, 0, none⟩ = some (.int .u32 (A : Int)) ∧ W.cell? ⟨B4, 1, none⟩ = some (.int .i64 ((n : Int) + 1)) ∧ W.cell? ⟨B4 + 1, 0, none⟩ = some (.int .u32 (M : Int)) ∧ W.cell? ⟨B4 + 1, 1, none⟩ = some (.int .i64 ((n : Int) + 1)) ∧ Below W5.heap.size W5 W) → Calls Tryz.prog 20 #[.slice ad9 O cap9, .slice adv N capv, .agg #[.int .u32 (A : Int), .int .i64 ((n : Int) + 1)], .int .i64 bs] W fun e w' => ∃ g, e = .returned (.slice (some ⟨g, 0, none⟩) N N) ∧ W.heap.size ≤ g ∧ w'.heap[g]? = some (.cells (intV (vals.map (needZ K' A o bs))).toArray 3 (0, 0)) ∧ Below W.heap.size W w') := fun W hW => HI1.out W (below_then H5.out.1 hW.2.2.2.2)
        have HL2 : Hid (∀ W, (W.cell? ⟨B4, 0, none⟩ = some (.int .u32 (A : Int)) ∧ W.cell? ⟨B4, 1, none⟩ = some (.int .i64 ((n : Int) + 1)) ∧ W.cell? ⟨B4 + 1, 0, none⟩ = some (.int .u32 (M : Int)) ∧ W.cell? ⟨B4 + 1, 1, none⟩ = some (.int .i64 ((n : Int) + 1)) ∧ Below W5.heap.size W5 W) → Calls Tryz.prog 20 #[.slice ad9 O cap9, .slice adv N capv, .agg #[.int .u32 (M : Int), .int .i64 ((n : Int) + 1)], .int .i64 bs] W fun e w' => ∃ g, e = .returned (.slice (some ⟨g, 0, none⟩) N N) ∧ W.heap.size ≤ g ∧ w'.heap[g]? = some (.cells (intV (vals.map (needZ K' M o bs))).toArray 3 (0, 0)) ∧ Below W.heap.size W w') := fun W hW => HI2.out W (below_then H5.out.1 hW.2.2.2.2)
        have HK : Hid (∀ {W W1 : World}, (W.cell? ⟨B4, 0, none⟩ = some (.int .u32 (A : Int)) ∧ W.cell? ⟨B4, 1, none⟩ = some (.int .i64 ((n : Int) + 1)) ∧ W.cell? ⟨B4 + 1, 0, none⟩ = some (.int .u32 (M : Int)) ∧ W.cell? ⟨B4 + 1, 1, none⟩ = some (.int .i64 ((n : Int) + 1)) ∧ Below W5.heap.size W5 W) → Below W.heap.size W W1 → W1.cell? ⟨B4, 0, none⟩ = some (.int .u32 (A : Int)) ∧ W1.cell? ⟨B4, 1, none⟩ = some (.int .i64 ((n : Int) + 1)) ∧ W1.cell? ⟨B4 + 1, 0, none⟩ = some (.int .u32 (M : Int)) ∧ W1.cell? ⟨B4 + 1, 1, none⟩ = some (.int .i64 ((n : Int) + 1)) ∧ Below W5.heap.size W5 W1) := fun {W W1} h hb => ⟨carry hb h.1, carry hb h.2.1, carry hb h.2.2.1, carry hb h.2.2.2.1, below_then h.2.2.2.2 hb⟩
        have HGE : Hid (∀ (W : World), (W.cell? ⟨B4, 0, none⟩ = some (.int .u32 (A : Int)) ∧ W.cell? ⟨B4, 1, none⟩ = some (.int .i64 ((n : Int) + 1)) ∧ W.cell? ⟨B4 + 1, 0, none⟩ = some (.int .u32 (M : Int)) ∧ W.cell? ⟨B4 + 1, 1, none⟩ = some (.int .i64 ((n : Int) + 1)) ∧ Below W5.heap.size W5 W) → ∀ {g : Nat}, W.heap.size ≤ g → W5.heap.size ≤ g) := fun W hW {g} hg => Nat.le_trans hW.2.2.2.2.size hg
        clear HI1 HI2 HHV
        go_region_held3 (fun W => W.cell? ⟨B4, 0, none⟩ = some (.int .u32 (A : Int)) ∧ W.cell? ⟨B4, 1, none⟩ = some (.int .i64 ((n : Int) + 1)) ∧ W.cell? ⟨B4 + 1, 0, none⟩ = some (.int .u32 (M : Int)) ∧ W.cell? ⟨B4 + 1, 1, none⟩ = some (.int .i64 ((n : Int) + 1)) ∧ Below W5.heap.size W5 W)
          (first | exact ⟨k0, k1, k2, k3, (Below.refl _ W5).drew⟩ | assumption)
          (first
            | (go_at_call 20; (with_reducible refine (HL1.out _ ‹_›).mono ?_); rintro en w6 ⟨g1, rfl, h0, h1, hb⟩; have hk6 := HK.out ‹_› hb; have G1 := Lib.hid (And.intro (HGE.out _ ‹_› h0) h1); clear hb h1 h0)
            | (go_at_call 20; (with_reducible refine (HL2.out _ ‹_›).mono ?_); rintro en w6 ⟨g2, rfl, h0, h1, hb⟩; have hk6 := HK.out ‹_› hb; (try have G1 := Lib.hid (And.intro G1.out.1 ((hb.block _ (ltO G1.out.2)).trans G1.out.2))); have G2 := Lib.hid (And.intro (HGE.out _ ‹_› h0) h1); clear hb h1 h0))
        have hlt5 := ltO H5.out.2
        have hg1 : g1 ≠ wr.heap.size := fun e => by have := G1.out.1; omega
        have hg2 : g2 ≠ wr.heap.size := fun e => by have := G2.out.1; omega
        have h6r := (hk6.2.2.2.2.block _ hlt5).trans H5.out.2
        have H6 : Hid (Below w.heap.size w w6 ∧ w6.heap[wr.heap.size]? = some (.cells (intV (mix vals 0 (fun x => needZ K' A o bs x + needZ K' M o bs x) (fun _ => 0))).toArray 3 (0, 0)) ∧ w6.heap[g1]? = some (.cells (intV (vals.map (needZ K' A o bs))).toArray 3 (0, 0)) ∧ w6.heap[g2]? = some (.cells (intV (vals.map (needZ K' M o bs))).toArray 3 (0, 0))) :=
          ⟨below_then HBW.out (below_then H5.out.1 hk6.2.2.2.2), by rw [h6r, mix_zero, mix_zero], G1.out.2, G2.out.2⟩
        have HNE : Hid (g1 ≠ wr.heap.size ∧ g2 ≠ wr.heap.size ∧ w.heap.size ≤ wr.heap.size) := ⟨hg1, hg2, HBW.out.size⟩
        clear hlt5 hg1 hg2 h6r hk6 G1 G2 H5 HK HL1 HL2 HGE k0 k1 k2 k3 HMK HBW HS HB2 HRDO HB1 HLC HOL
        generalize wr.heap.size = B2 at *
        obtain ⟨x0, hx0⟩ : ∃ x, vals[0]? = some x := ⟨_, List.getElem?_eq_getElem (by have := HN.out; omega)⟩
        have c1 := cellO H6.out.2.2.1 (o := 0) (intV_get (z := needZ K' A o bs x0) (by rw [List.getElem?_map, hx0]; rfl))
        have c2 := cellO H6.out.2.2.2 (o := 0) (intV_get (z := needZ K' M o bs x0) (by rw [List.getElem?_map, hx0]; rfl))
        have hbd := HBD.out x0
        have HM0 : Hid ((∃ x ∈ vals, needZ K' A o bs x0 + needZ K' M o bs x0 = needZ K' A o bs x + needZ K' M o bs x)) := ⟨x0, List.mem_of_getElem? hx0, rfl⟩
        have i0' : (0 : Int) < (N : Int) := by omega
        generalize needZ K' A o bs x0 = za at c1 hbd HM0
        generalize needZ K' M o bs x0 = zb at c2 hbd HM0
        obtain ⟨b1, b2, b3, b4⟩ := hbd
        clear hx0
        go_wp2_with fail
        go_region
        go_wp2_with fail
        go_loopg [20, 21, 92] N (fun g s20 s21 s92 wi => ∃ (i : Nat) (m : Int), s20 = .int .i64 m ∧ (∃ u, u = s21) ∧ s92 = .int .i64 (i : Int) ∧ i ≤ N ∧ N - i ≤ g ∧ 0 ≤ m ∧ m ≤ 8589934592 ∧ Hid ((∃ x ∈ vals, m = needZ K' A o bs x + needZ K' M o bs x) ∧ ∀ x ∈ vals.take i, m ≤ needZ K' A o bs x + needZ K' M o bs x) ∧ Hid (Below w.heap.size w wi ∧ wi.heap[B2]? = some (.cells (intV (mix vals i (fun x => needZ K' A o bs x + needZ K' M o bs x) (fun _ => 0))).toArray 3 (0, 0)) ∧ wi.heap[g1]? = some (.cells (intV (vals.map (needZ K' A o bs))).toArray 3 (0, 0)) ∧ wi.heap[g2]? = some (.cells (intV (vals.map (needZ K' M o bs))).toArray 3 (0, 0))))
        case atStart => exact ⟨0, za + zb, by go_num, ⟨_, rfl⟩, rfl, by omega, by omega, by omega, by omega, ⟨HM0.out, fun x hx => by simp at hx⟩, below_drewN H6.out.1 _, H6.out.2⟩
        case round =>
          clear H6 HM0 c1 c2 b1 b2 b3 b4
          obtain ⟨i, m, rfl, ⟨u21, rfl⟩, rfl, hi9, hg9, hm0, hm1, HM, HI⟩ := hrel
          by_cases hlt9 : i < N
          · obtain ⟨x, hx⟩ : ∃ x, vals[i]? = some x := ⟨_, List.getElem?_eq_getElem (by have := HN.out; omega)⟩
            have c1 := cellO HI.out.2.2.1 (o := i) (intV_get (z := needZ K' A o bs x) (by rw [List.getElem?_map, hx]; rfl))
            have c2 := cellO HI.out.2.2.2 (o := i) (intV_get (z := needZ K' M o bs x) (by rw [List.getElem?_map, hx]; rfl))
            have hcz : wr.cell? ⟨B2, i, none⟩ = some (.int .i64 0) := cellO HI.out.2.1 (intV_get (mix_get hx _ _))
            have hfz : wr.frozen? ⟨B2, i, none⟩ = false := freeO HI.out.2.1 _
            have hbd := HBD.out x
            have j0 : (0 : Int) ≤ (i : Int) := by omega
            have j1 : (i : Int) < (N : Int) := by omega
            have HSET : Hid (Below w.heap.size w ((wr.setCell ⟨B2, i, none⟩ (.int .i64 (needZ K' A o bs x + needZ K' M o bs x))).drew) ∧ ((wr.setCell ⟨B2, i, none⟩ (.int .i64 (needZ K' A o bs x + needZ K' M o bs x))).drew).heap[B2]? = some (.cells (intV (mix vals (i + 1) (fun x => needZ K' A o bs x + needZ K' M o bs x) (fun _ => 0))).toArray 3 (0, 0)) ∧ ((wr.setCell ⟨B2, i, none⟩ (.int .i64 (needZ K' A o bs x + needZ K' M o bs x))).drew).heap[g1]? = some (.cells (intV (vals.map (needZ K' A o bs))).toArray 3 (0, 0)) ∧ ((wr.setCell ⟨B2, i, none⟩ (.int .i64 (needZ K' A o bs x + needZ K' M o bs x))).drew).heap[g2]? = some (.cells (intV (vals.map (needZ K' M o bs))).toArray 3 (0, 0))) :=
              ⟨(HI.out.1.setCell HNE.out.2.2 _).drew, by show (wr.setCell _ _).heap[B2]? = _; rw [heap_set_eq HI.out.2.1, intV_set, ← mix_set hx], by show (wr.setCell _ _).heap[g1]? = _; rw [heap_set_ne HNE.out.1]; exact HI.out.2.2.1, by show (wr.setCell _ _).heap[g2]? = _; rw [heap_set_ne HNE.out.2.1]; exact HI.out.2.2.2⟩
            have HX9 : Hid (vals[i]? = some x) := hx
            have HSM : Hid (∃ y ∈ vals, needZ K' A o bs x + needZ K' M o bs x = needZ K' A o bs y + needZ K' M o bs y) := ⟨x, List.mem_of_getElem? hx, rfl⟩
            have HTK : Hid (∀ z : Int, (∀ y ∈ vals.take i, z ≤ needZ K' A o bs y + needZ K' M o bs y) → z ≤ needZ K' A o bs x + needZ K' M o bs x → ∀ y ∈ vals.take (i + 1), z ≤ needZ K' A o bs y + needZ K' M o bs y) := fun z h1 h2 y hy => by
              rw [List.take_add_one, hx] at hy
              rcases List.mem_append.1 hy with hy | hy
              · exact h1 y hy
              · simp at hy; rw [hy]; exact h2
            clear hx
            generalize needZ K' A o bs x = za at c1 hbd HSET HSM HTK
            generalize needZ K' M o bs x = zb at c2 hbd HSET HSM HTK
            obtain ⟨b1, b2, b3, b4⟩ := hbd
            go_wp2_with fail
            go_region
            go_wp2_with fail
            · have HT2 := Lib.hid (HTK.out (za + zb) (fun y hy => Int.le_trans (by omega) (HM.out.2 y hy)) (Int.le_refl _))
              go_roundg (N - (i + 1))
              case measure => omega
              case rel => exact ⟨i + 1, za + zb, rfl, ⟨_, rfl⟩, by go_num, by omega, Nat.le_refl _, by omega, by omega, ⟨HSM.out, HT2.out⟩, HSET⟩
            · have HT2 := Lib.hid (HTK.out m (fun y hy => HM.out.2 y hy) (by omega))
              go_roundg (N - (i + 1))
              case measure => omega
              case rel => exact ⟨i + 1, m, rfl, ⟨_, rfl⟩, by go_num, by omega, Nat.le_refl _, by omega, by omega, ⟨HM.out.1, HT2.out⟩, HSET⟩
          · have k1 : decide ((i : Int) < (N : Int)) = false := decide_eq_false (by omega)
            have hiN : i = N := by omega
            have HC9 : Hid (∀ x, min (needZ K' A o bs x + needZ K' M o bs x) (m + 1) = needZ (K' + 1) A l base x) := by
              refine HCO.out m HM.out.1 (fun x hx => HM.out.2 x ?_)
              rwa [List.take_of_length_le (by have := HN.out; omega)]
            have HI3 : Hid (Below w.heap.size w wr ∧ wr.heap[B2]? = some (.cells (intV (mix vals 0 (needZ (K' + 1) A l base) (fun x => needZ K' A o bs x + needZ K' M o bs x))).toArray 3 (0, 0))) := ⟨HI.out.1, by
              have h := HI.out.2.1
              rw [mix_all (by have := HN.out; omega)] at h
              rw [mix_zero]; exact h⟩
            clear HM HI HCO hiN
            go_wp2_with fail
            go_loopg [22, 116] N (fun g s22 s116 wi => ∃ (i : Nat), (∃ u, u = s22) ∧ s116 = .int .i64 (i : Int) ∧ i ≤ N ∧ N - i ≤ g ∧ Hid (Below w.heap.size w wi ∧ wi.heap[B2]? = some (.cells (intV (mix vals i (needZ (K' + 1) A l base) (fun x => needZ K' A o bs x + needZ K' M o bs x))).toArray 3 (0, 0))))
            case atStart => exact ⟨0, ⟨_, rfl⟩, rfl, by omega, by omega, HI3.out⟩
            case round =>
              clear HI3 hlt9 k1 hi9 hg9
              obtain ⟨i, ⟨u22, rfl⟩, rfl, hi9, hg9, HI⟩ := hrel
              by_cases hlt9 : i < N
              · obtain ⟨x, hx⟩ : ∃ x, vals[i]? = some x := ⟨_, List.getElem?_eq_getElem (by have := HN.out; omega)⟩
                have hcz := cellO HI.out.2 (o := i) (intV_get (mix_get hx _ _))
                have hfz : wr.frozen? ⟨B2, i, none⟩ = false := freeO HI.out.2 _
                have hbd := HBD.out x
                have j0 : (0 : Int) ≤ (i : Int) := by omega
                have j1 : (i : Int) < (N : Int) := by omega
                have hmn := HC9.out x
                have HX9 : Hid (vals[i]? = some x) := hx
                clear hx
                by_cases hle : needZ K' A o bs x + needZ K' M o bs x ≤ m + 1
                · have hv : needZ K' A o bs x + needZ K' M o bs x = needZ (K' + 1) A l base x := by rw [← hmn]; omega
                  have HS9 : Hid (Below w.heap.size w (wr.setCell ⟨B2, i, none⟩ (.int .i64 (needZ K' A o bs x + needZ K' M o bs x))) ∧ (wr.setCell ⟨B2, i, none⟩ (.int .i64 (needZ K' A o bs x + needZ K' M o bs x))).heap[B2]? = some (.cells (intV (mix vals (i + 1) (needZ (K' + 1) A l base) (fun x => needZ K' A o bs x + needZ K' M o bs x))).toArray 3 (0, 0))) := ⟨HI.out.1.setCell HNE.out.2.2 _, by rw [heap_set_eq HI.out.2, intV_set, hv, ← mix_set HX9.out]⟩
                  clear hmn hv
                  generalize needZ K' A o bs x = za at hcz hbd HS9 hle
                  generalize needZ K' M o bs x = zb at hcz hbd HS9 hle
                  obtain ⟨b1, b2, b3, b4⟩ := hbd
                  go_wp2_with fail
                  go_roundg (N - (i + 1))
                  case measure => omega
                  case rel => exact ⟨i + 1, ⟨_, rfl⟩, by go_num, by omega, Nat.le_refl _, HS9.out⟩
                · have hv : m + 1 = needZ (K' + 1) A l base x := by rw [← hmn]; omega
                  have HS9 : Hid (Below w.heap.size w (wr.setCell ⟨B2, i, none⟩ (.int .i64 (m + 1))) ∧ (wr.setCell ⟨B2, i, none⟩ (.int .i64 (m + 1))).heap[B2]? = some (.cells (intV (mix vals (i + 1) (needZ (K' + 1) A l base) (fun x => needZ K' A o bs x + needZ K' M o bs x))).toArray 3 (0, 0))) := ⟨HI.out.1.setCell HNE.out.2.2 _, by rw [heap_set_eq HI.out.2, intV_set, hv, ← mix_set HX9.out]⟩
                  clear hmn hv
                  generalize needZ K' A o bs x = za at hcz hbd hle
                  generalize needZ K' M o bs x = zb at hcz hbd hle
                  obtain ⟨b1, b2, b3, b4⟩ := hbd
                  go_wp2_with fail
                  go_roundg (N - (i + 1))
                  case measure => omega
                  case rel => exact ⟨i + 1, ⟨_, rfl⟩, by go_num, by omega, Nat.le_refl _, HS9.out⟩
              · have k1 : decide ((i : Int) < (N : Int)) = false := decide_eq_false (by omega)
                have HF : Hid (wr.heap[B2]? = some (.cells (intV (vals.map (needZ (K' + 1) A l base))).toArray 3 (0, 0))) := by
                  have h := HI.out.2
                  rwa [mix_all (by have := HN.out; omega)] at h
                go_wp2_with fail
                go_ret
                exact ⟨B2, rfl, HNE.out.2.2, HF.out, HI.out.1⟩
theorem cost_any : ∀ K, CostP K
  | 0 => cost_step 0 (fun K' e => by omega)
  | K + 1 => cost_step (K + 1) (fun K' e => by obtain rfl : K = K' := by omega
                                               exact cost_any K)
end Go.Proofs.YtegponbmelgngaaGreat
end

section
namespace Go.Proofs.YtegponbmelgngaaGreat
open Go.RowKit
set_option linter.unusedSimpArgs false
set_option linter.unusedVariables false
set_option maxHeartbeats 1500000
set_option maxRecDepth 100000

theorem index_any (v : Value) (l : List Int) (z : Int) (w : World) (hr : RdZ w v l) (hlen : l.length ≤ 1000) (hz : I64 z) :
    Calls Tryz.prog 37 #[v, .int .i64 z] w fun e w' => ∃ k : Int, e = .returned (.int .i64 k) ∧ (0 ≤ k ↔ z ∈ l) ∧ -1 ≤ k ∧ k ≤ 1000 ∧ Below w.heap.size w w' := by
  obtain ⟨ad, cap, rfl, hc⟩ := hr
  have HC := Lib.hid hc
  obtain ⟨L, hL⟩ : ∃ L, l.length = L := ⟨_, rfl⟩
  rw [hL] at hlen ⊢
  have HL := Lib.hid hL
  clear hc hL
  go_enter Tryz.func37, Tryz.ntmps37
  go_wp2_with fail
  go_loopg [5, 6, 9] L (fun g s5 s6 s9 wr => ∃ i : Nat, (∃ u, u = s5) ∧ (∃ u, u = s6) ∧ s9 = .int .i64 (i : Int) ∧ i ≤ L ∧ L - i ≤ g ∧ Hid (z ∉ l.take i) ∧ w = wr)
  case atStart => exact ⟨0, ⟨_, rfl⟩, ⟨_, rfl⟩, rfl, by omega, by omega, (fun h => by simp at h), rfl⟩
  case round =>
    obtain ⟨i, ⟨u5, rfl⟩, ⟨u6, rfl⟩, rfl, hi, hg, HI, rfl⟩ := hrel
    by_cases hlt : i < L
    · obtain ⟨x, hx⟩ : ∃ x, l[i]? = some x := ⟨_, List.getElem?_eq_getElem (by have := HL.out; omega)⟩
      obtain ⟨b, off, rfl, hbl, c0⟩ := HC.out i x hx
      have j0 : (0 : Int) ≤ (i : Int) := by omega
      have j1 : (i : Int) < (L : Int) := by omega
      have HX := Lib.hid hx
      clear hx
      by_cases hxz : x = z
      · subst hxz
        have HM : Hid (x ∈ l) := List.mem_of_getElem? HX.out
        go_wp2_with fail
        go_ret
        exact ⟨(i : Int), rfl, ⟨fun _ => HM.out, fun _ => by omega⟩, by omega, by omega, Below.refl _ _⟩
      · have HN : Hid (z ∉ l.take (i + 1)) := fun h => by
          rw [List.take_add_one, HX.out] at h
          rcases List.mem_append.1 h with h | h
          · exact HI.out h
          · simp at h; exact hxz h.symm
        have f1 : (x == z) = false := by simpa using hxz
        clear hbl
        go_wp2_with fail
        go_roundg (L - (i + 1))
        case measure => omega
        case rel => exact ⟨i + 1, ⟨_, rfl⟩, ⟨_, rfl⟩, by go_num, by omega, Nat.le_refl _, HN, rfl⟩
    · have k1 : decide ((i : Int) < (L : Int)) = false := decide_eq_false (by omega)
      have HN : Hid (z ∉ l) := by
        have h := HI.out
        rwa [List.take_of_length_le (by have := HL.out; omega)] at h
      go_wp2_with fail
      go_ret
      exact ⟨-1, rfl, ⟨fun h => by omega, fun h => absurd h HN.out⟩, by omega, by omega, Below.refl _ _⟩
theorem has_any (v : Value) (l : List Int) (z : Int) (w : World) (hr : RdZ w v l) (hlen : l.length ≤ 1000) (hz : I64 z) :
    Calls Tryz.prog 19 #[v, .int .i64 z] w fun e w' => e = .returned (.bool (decide (z ∈ l))) ∧ Below w.heap.size w w' := by
  have HI := Lib.hid (index_any v l z w hr hlen hz)
  obtain ⟨ad, cap, rfl, -⟩ := hr
  have HQ : Hid (∀ k : Int, (0 ≤ k ↔ z ∈ l) → decide (0 ≤ k) = decide (z ∈ l)) := fun k h => decide_eq_decide.2 h
  generalize l.length = L at *
  go_enter Tryz.func19, Tryz.ntmps19
  go_wp2_with (go_at_call 37; refine HI.out.mono ?_; rintro en w1 ⟨k, rfl, h1, h2, h3, hb⟩; have HB := Lib.hid hb; have H1 := Lib.hid h1; clear hb h1)
  go_ret
  exact ⟨by rw [← HQ.out k H1.out]; rfl, HB.out⟩
/-- the values of a table, each once, -1 in front -/
def valsL (l : List En) : List Int := l.foldl (fun vs e => if e.2 ∈ vs then vs else vs ++ [e.2]) [-1]
theorem valsL_snoc (l : List En) (e : En) : valsL (l ++ [e]) = if e.2 ∈ valsL l then valsL l else valsL l ++ [e.2] := by unfold valsL; rw [List.foldl_append]; rfl
theorem valsL_take {l : List En} {k : Nat} {e : En} (h : l[k]? = some e) : valsL (l.take (k + 1)) = if e.2 ∈ valsL (l.take k) then valsL (l.take k) else valsL (l.take k) ++ [e.2] := by
  rw [List.take_add_one, h]; exact valsL_snoc _ _
theorem valsL_fact (l : List En) : ∀ k, k ≤ l.length → (valsL (l.take k))[0]? = some (-1) ∧ (valsL (l.take k)).length ≤ k + 1 ∧ ∀ e ∈ l.take k, e.2 ∈ valsL (l.take k)
  | 0, _ => ⟨by simp [valsL], by simp [valsL], fun e h => by simp at h⟩
  | k + 1, hk => by
    obtain ⟨h1, h2, h3⟩ := valsL_fact l k (by omega)
    obtain ⟨e, he⟩ : ∃ x, l[k]? = some x := ⟨_, List.getElem?_eq_getElem (by omega)⟩
    rw [valsL_take he]
    by_cases hm : e.2 ∈ valsL (l.take k)
    · rw [if_pos hm]
      refine ⟨h1, by omega, fun x hx => ?_⟩
      rw [List.take_add_one, he] at hx
      rcases List.mem_append.1 hx with hx | hx
      · exact h3 x hx
      · simp at hx; rw [hx]; exact hm
    · rw [if_neg hm]
      refine ⟨?_, by rw [List.length_append]; simp; omega, fun x hx => ?_⟩
      · rw [List.getElem?_append_left (List.getElem?_eq_some_iff.1 h1).1]; exact h1
      · rw [List.take_add_one, he] at hx
        rcases List.mem_append.1 hx with hx | hx
        · exact List.mem_append_left _ (h3 x hx)
        · simp at hx; rw [hx]; simp
theorem least_need {l : List En} (ht : TabE l) (hf : FitE l) : needZ 32 0 l (-1) (-1) = ((minE l).length : Int) := by
  have hF := ht.frag fun e he => (hf e he).1
  unfold needZ
  rw [AG.inT_frag hF, ← (AG.made 32 0 (l.map toBe) (-1) (Nat.zero_mod _) hF).len (-1)]
  unfold minE
  rw [List.length_map]
  rfl
theorem rdZ_own {w : World} {B : Nat} {v : Value} {l : List Int} (h : w.ownsRow B 3 1 v l.length (intV l)) : RdZ w v l := by
  rcases h.2 with ⟨rfl, h0⟩ | ⟨g, cap, cur, rfl, hB, hg, hc, _⟩
  · obtain rfl := List.length_eq_zero_iff.1 h0
    exact ⟨none, 0, rfl, fun k x h => by simp at h⟩
  · refine ⟨some ⟨g, 0, none⟩, cap, rfl, fun k x hk => ⟨g, 0, rfl, ltO hg, ?_⟩⟩
    have hlt := (List.getElem?_eq_some_iff.1 hk).1
    have := h.cellAt k (by omega)
    rw [Nat.zero_add, this]
    simp [intV, hk]
theorem intV_snoc (l : List Int) (x : Int) : intV (l ++ [x]) = intV l ++ [.int .i64 x] := by unfold intV; simp
theorem one_oneZ (a : Int) : ∀ u ∈ [Value.int .i64 a], u.oneCell' = true := by
  intro u hu; simp at hu; subst hu; rfl
theorem least_any (l : List En) (vl : Value) (w : World) (ht : TabE l) (hr : RdE w vl l) (hf : FitE l) (hlen : l.length ≤ 40) :
    Calls Tryz.prog 8 #[vl] w fun e w' => e = .returned (.int .i64 ((minE l).length : Nat)) ∧ Below w.heap.size w w' := by
  obtain ⟨i0, hi, hz0, hz1, hz2⟩ := info_parts infoI
  have hF := ht.frag fun e he => (hf e he).1
  have HV : Hid (∀ e ∈ l, I64 e.2) := fun e he => (hf e he).2.2
  have HT := Lib.hid (least_need ht hf)
  have HFC := Lib.hid (valsL_fact l l.length (Nat.le_refl _))
  have HCO : Hid (∀ W v, Below w.heap.size w W → RdZ W v (valsL l) → Calls Tryz.prog 20 #[vl, v, .agg #[.int .u32 0, .int .i64 0], .int .i64 (-1)] W fun e w' => ∃ g, e = .returned (.slice (some ⟨g, 0, none⟩) (valsL l).length (valsL l).length) ∧ W.heap.size ≤ g ∧ w'.heap[g]? = some (.cells (intV ((valsL l).map (needZ 32 0 l (-1)))).toArray 3 (0, 0)) ∧ Below W.heap.size W w') := fun W v hW hv => by
    obtain ⟨h1, h2, h3⟩ := valsL_fact l l.length (Nat.le_refl _)
    rw [List.take_length] at h1 h2 h3
    exact cost_any 32 0 0 l vl v (valsL l) (-1) W rfl (Nat.zero_mod _) (by omega) (hr.below hW) hF (fun e he => (ht.val e he).1) hf hlen hv (List.mem_of_getElem? h1) h3 (by omega) (by constructor <;> omega)
  obtain ⟨adl, capl, rfl, hcl⟩ := hr
  have HLC := Lib.hid hcl
  obtain ⟨L, hL⟩ : ∃ L, l.length = L := ⟨_, rfl⟩
  rw [hL] at hlen HCO
  have HL := Lib.hid hL
  have HB0 : Hid (Below w.heap.size w (w.alloc (.cells #[.int .i64 (-1)] 3)) ∧ (w.alloc (.cells #[.int .i64 (-1)] 3)).ownsRow w.heap.size 3 1 (.slice (some ⟨w.heap.size, 0, none⟩) 1 1) 1 (intV [-1])) := ⟨below_alloc _ _, World.ownsRow_lit w #[.int .i64 (-1)] 1 (Nat.le_refl _) (by decide) rfl⟩
  clear hF hcl hL ht hf
  rw [HL.out]
  go_enter Tryz.func8, Tryz.ntmps8
  go_wp2_with fail
  generalize w.alloc (.cells #[.int .i64 (-1)] 3) = W1 at *
  go_loopg [3, 5, 9] L (fun g s3 s5 s9 wr => ∃ (k : Nat) (v : Value) (vs : List Int), v = s3 ∧ (∃ u, u = s5) ∧ s9 = .int .i64 (k : Int) ∧ k ≤ L ∧ L - k ≤ g ∧ vs.length ≤ k + 1 ∧ Hid (vs = valsL (l.take k)) ∧ Hid (Below w.heap.size w wr ∧ wr.ownsRow w.heap.size 3 1 v vs.length (intV vs)))
  case atStart => exact ⟨0, _, [-1], rfl, ⟨_, rfl⟩, rfl, by omega, by omega, by simp, rfl, HB0.out.1, HB0.out.2⟩
  case round =>
    clear HB0
    obtain ⟨k, v, vs, rfl, ⟨u5, rfl⟩, rfl, hk, hg, hvl, HO, HS⟩ := hrel
    by_cases hlt : k < L
    · obtain ⟨e, he⟩ : ∃ x, l[k]? = some x := ⟨_, List.getElem?_eq_getElem (by have := HL.out; omega)⟩
      obtain ⟨b, off, rfl, hbl, c0, c1, c2⟩ := HLC.out k e he
      have d0 := carryE HS.out.1 hbl c0
      have d1 := carryE HS.out.1 hbl c1
      have d2 := carryE HS.out.1 hbl c2
      have HTK := Lib.hid (valsL_take he)
      have hi64 := HV.out e (List.mem_of_getElem? he)
      obtain ⟨⟨x, m⟩, val⟩ := e
      dsimp only at d0 d1 d2 HTK hi64
      have j0 : (0 : Int) ≤ (k : Int) := by omega
      have j1 : (k : Int) < (L : Int) := by omega
      have HW2 : Hid (Below wr.heap.size wr (wr.alloc (.cells #[.int .u32 (x : Int), .int .i64 m, .int .i64 val] 37)) ∧ (wr.alloc (.cells #[.int .u32 (x : Int), .int .i64 m, .int .i64 val] 37)).heap[wr.heap.size]? = some (.cells #[.int .u32 (x : Int), .int .i64 m, .int .i64 val] 37 (0, 0))) := ⟨below_alloc _ _, heap_alloc_new _ _⟩
      have HHI := Lib.hid (has_any v vs val _ ((rdZ_own HS.out.2).below HW2.out.1) (by omega) hi64)
      obtain ⟨q, hq⟩ : ∃ q, decide (val ∈ vs) = q := ⟨_, rfl⟩
      have HQ := Lib.hid hq
      rw [hq] at HHI
      have hi6 : -9223372036854775808 ≤ val ∧ val ≤ 9223372036854775807 := hi64
      clear c0 c1 c2 he hbl hq hi64
      cases q with
      | true =>
        have HO2 : Hid (vs = valsL (l.take (k + 1))) := by
          show _ = _
          rw [HTK.out, ← HO.out, if_pos (of_decide_eq_true HQ.out)]
        go_wp2_with (go_at_call 19; refine HHI.out.mono ?_; rintro en w3 ⟨rfl, hb⟩; have H3 : Hid (Below w.heap.size w w3 ∧ w3.ownsRow w.heap.size 3 1 v vs.length (intV vs)) := ⟨below_then (below_then HS.out.1 HW2.out.1) hb, own_below (own_below HS.out.2 HW2.out.1) hb⟩; clear hb)
        go_roundg (L - (k + 1))
        case measure => omega
        case rel => exact ⟨k + 1, v, vs, rfl, ⟨_, rfl⟩, by go_num, by omega, Nat.le_refl _, by omega, HO2, H3⟩
      | false =>
        have HO2 : Hid (vs ++ [val] = valsL (l.take (k + 1))) := by
          show _ = _
          rw [HTK.out, ← HO.out, if_neg (of_decide_eq_false HQ.out)]
        go_wp2_with (first
          | (go_at_call 19; refine HHI.out.mono ?_; rintro en w3 ⟨rfl, hb⟩
             have H3 : Hid (Below w.heap.size w w3 ∧ w3.ownsRow w.heap.size 3 1 v vs.length (intV vs)) := ⟨below_then (below_then HS.out.1 HW2.out.1) hb, own_below (own_below HS.out.2 HW2.out.1) hb⟩
             have h3w := (hb.block _ (ltO HW2.out.2)).trans HW2.out.2
             have f2 := cellO h3w (o := 2) rfl
             have hws := H3.out.1.size
             clear hb h3w)
          | (at_builtin; refine wpList_append_own _ rfl (.tmp 18) (.tmp 21) 46 rfl w.heap.size 3 i0 (.int .i64 0) 1 8 Tryz.underlying46 hi hz0 hz1 hz2 rfl (by decide) v vs.length (intV vs) rfl (own_below H3.out.2 (below_alloc _ _)) ⟨w3.heap.size, 0, none⟩ 1 1 [.int .i64 val] rfl rfl (cellW_one_new _ _ _ rfl) (one_oneZ _) (by unfold maxLen; omega) (by omega) (by simp; omega) ?_; intro v1 w4 hown hgrow hnil
             have S2 : Hid (Below w.heap.size w w4 ∧ w4.ownsRow w.heap.size 3 1 v1 (vs ++ [val]).length (intV (vs ++ [val]))) := ⟨(H3.out.1.alloc hws _).grown hgrow (by simp; omega) (fun q hq => (own_lt H3.out.2 hq).1), by rw [intV_snoc, List.length_append]; exact hown⟩; clear hown hgrow hnil))
        go_roundg (L - (k + 1))
        case measure => omega
        case rel => exact ⟨k + 1, v1, _, rfl, ⟨_, rfl⟩, by go_num, by omega, Nat.le_refl _, by simp; omega, HO2, S2⟩
    · have k1 : decide ((k : Int) < (L : Int)) = false := decide_eq_false (by omega)
      have hvs : vs = valsL l := by
        have h := HO.out
        rwa [List.take_of_length_le (by have := HL.out; omega)] at h
      have HCA := Lib.hid (HCO.out wr v HS.out.1 (hvs ▸ rdZ_own HS.out.2))
      have hpos : 0 < (valsL l).length := by
        obtain ⟨h1, -⟩ := HFC.out
        rw [List.take_length] at h1
        exact (List.getElem?_eq_some_iff.1 h1).1
      have HG0 : Hid ((intV ((valsL l).map (needZ 32 0 l (-1)))).toArray[0]? = some (.int .i64 ((minE l).length : Nat))) := by
        obtain ⟨h1, -⟩ := HFC.out
        rw [List.take_length] at h1
        exact intV_get (by rw [List.getElem?_map, h1, ← HT.out]; rfl)
      generalize (valsL l).length = N at *
      have hpi : (0 : Int) < (N : Int) := by omega
      clear HCO HFC hvs
      go_wp2_with (go_at_call 20; refine HCA.out.mono ?_; rintro en w3 ⟨g, rfl, hge, hrow, hb⟩; have H3 := Lib.hid (below_then HS.out.1 hb); have e0 := cellO hrow HG0.out; clear hb hrow hge)
      go_ret
      exact ⟨rfl, H3.out⟩
end Go.Proofs.YtegponbmelgngaaGreat
end
