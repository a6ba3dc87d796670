/-
  Two tables of rows in memory that grow: the reference's hops and parents.
  The rows that the reference's Run makes, and its first region.
-/
import Derived.Test.YtmlpbhankgojpaaSpDi
import Derived.Test.YtmlpbhankgojpaaSpDr
namespace Go.Proofs.Ytmlpbhankgojpaa
open Go.RowKit HM SP
set_option linter.unusedSimpArgs false
set_option linter.unusedVariables false
set_option maxHeartbeats 4000000
set_option maxRecDepth 100000
structure HPm (w : World) (H P n : Nat) (hv pv : List Value) (hops pars : List (List Int)) : Prop where
  rh : w.ownsRow 0 25 1 (.slice (some ⟨H, 0, none⟩) n n) n hv
  rp : w.ownsRow 0 25 1 (.slice (some ⟨P, 0, none⟩) n n) n pv
  hh : RS w hv hops
  pp : RS w pv pars
  hp : H ≠ P
  xh : ∀ g ∈ rblk hv, g ≠ H ∧ g ≠ P
  xp : ∀ g ∈ rblk pv, g ≠ H ∧ g ≠ P
  x : ∀ g ∈ rblk hv, g ∉ rblk pv
section
variable {w w' : World} {H P n : Nat} {hv pv : List Value} {hops pars : List (List Int)}
theorem HPm.swap (h : HPm w H P n hv pv hops pars) : HPm w P H n pv hv pars hops :=
  ⟨h.rp, h.rh, h.pp, h.hh, Ne.symm h.hp, fun g hg => ⟨(h.xp g hg).2, (h.xp g hg).1⟩, fun g hg => ⟨(h.xh g hg).2, (h.xh g hg).1⟩, fun g h1 h2 => h.x g h2 h1⟩
theorem HPm.lhv (h : HPm w H P n hv pv hops pars) : hv.length = n := by have := h.rh.1; omega
theorem HPm.lh (h : HPm w H P n hv pv hops pars) : hops.length = n := by rw [← h.hh.len]; exact h.lhv
theorem HPm.lpv (h : HPm w H P n hv pv hops pars) : pv.length = n := h.swap.lhv
theorem HPm.lp (h : HPm w H P n hv pv hops pars) : pars.length = n := h.swap.lh
theorem HPm.congr (h : HPm w H P n hv pv hops pars) (hk : ∀ g, (g = H ∨ g = P ∨ g ∈ rblk hv ∨ g ∈ rblk pv) → w'.heap[g]? = w.heap[g]?) : HPm w' H P n hv pv hops pars :=
  ⟨row_congr h.rh fun g hg => hk g (by simp [Value.ownBlock] at hg; simp [hg]), row_congr h.rp fun g hg => hk g (by simp [Value.ownBlock] at hg; simp [hg]),
    h.hh.congr fun g hg => hk g (by simp [hg]), h.pp.congr fun g hg => hk g (by simp [hg]), h.hp, h.xh, h.xp, h.x⟩
theorem HPm.lt (h : HPm w H P n hv pv hops pars) : ∀ g, (g = H ∨ g = P ∨ g ∈ rblk hv ∨ g ∈ rblk pv) → g < w.heap.size := fun g hg => by
  rcases hg with rfl | rfl | hg | hg
  · exact (row_lt h.rh rfl).2
  · exact (row_lt h.rp rfl).2
  · exact h.hh.lt g hg
  · exact h.pp.lt g hg
theorem HPm.below (h : HPm w H P n hv pv hops pars) (k : Below w.heap.size w w') : HPm w' H P n hv pv hops pars := h.congr fun g hg => k.block g (h.lt g hg)
theorem HPm.drew (h : HPm w H P n hv pv hops pars) : HPm w.drew H P n hv pv hops pars := h.congr fun _ _ => rfl
theorem HPm.ch (h : HPm w H P n hv pv hops pars) {v : Nat} (hvn : v < n) : w.cell? ⟨H, v, none⟩ = some (gVl hv v) := by
  rw [h.rh.cellAt v (by omega)]; exact gVl_get (by rw [h.lhv]; exact hvn)
theorem HPm.cp (h : HPm w H P n hv pv hops pars) {v : Nat} (hvn : v < n) : w.cell? ⟨P, v, none⟩ = some (gVl pv v) := h.swap.ch hvn
theorem HPm.fh (h : HPm w H P n hv pv hops pars) (o : Nat) : w.frozen? ⟨H, o, none⟩ = false := h.rh.frozenAt o
theorem HPm.fp (h : HPm w H P n hv pv hops pars) (o : Nat) : w.frozen? ⟨P, o, none⟩ = false := h.rp.frozenAt o
/-- another row of hops -/
theorem HPm.putH (h : HPm w H P n hv pv hops pars) {v : Nat} (hvn : v < n) {x : Value} {r : List Int} (hk : Kp (vblk (gVl hv v)) w w') (hr : w'.ownsRow 0 3 1 x r.length (ints r)) (hb : ∀ g, x.ownBlock = some g → (gVl hv v).ownBlock = some g ∨ w.heap.size ≤ g) :
    HPm (w'.setCell ⟨H, v, none⟩ x) H P n (hv.set v x) pv (hops.set v r) pars := by
  have hvl : v < hv.length := by rw [h.lhv]; exact hvn
  have hvo : v < hops.length := by rw [h.lh]; exact hvn
  have hin : ∀ g, g ∈ vblk (gVl hv v) → g ≠ H ∧ g ≠ P := fun g hg => h.xh g (vblk_rblk hvl hg)
  have lH := (row_lt h.rh rfl).2
  have lP := (row_lt h.rp rfl).2
  dsimp only at lH lP
  have hx : ∀ g ∈ rblk (hv.set v x), (g ≠ H ∧ g ≠ P) ∧ g ∉ rblk pv := fun g hg => by
    rcases rblk_set hvl hg with h1 | h1
    · rcases hb g h1 with h2 | h2
      · have := vblk_rblk hvl (mem_vblk.2 h2)
        exact ⟨h.xh g this, h.x g this⟩
      · exact ⟨⟨by omega, by omega⟩, fun hp => by have := h.pp.lt g hp; omega⟩
    · exact ⟨h.xh g h1, h.x g h1⟩
  have k1 : ∀ g, g < w.heap.size → g ∉ vblk (gVl hv v) → g ≠ H → (w'.setCell ⟨H, v, none⟩ x).heap[g]? = w.heap[g]? := fun g h1 h2 h3 => (heap_set_ne h3).trans (hk.block g h1 h2)
  have rs := h.hh.put hvo hk hr hb
  have hH := row_kp h.rh hk (fun g hg => by simp [Value.ownBlock] at hg; subst hg; exact fun hm => (hin _ hm).1 rfl)
  exact ⟨(hH.stored v x).1,
    row_congr h.rp fun g hg => by simp [Value.ownBlock] at hg; subst hg; exact k1 _ lP (fun hm => (hin _ hm).2 rfl) (Ne.symm h.hp),
    rs.congr fun g hg => heap_set_ne (hx g hg).1.1,
    h.pp.congr fun g hg => k1 g (h.pp.lt g hg) (fun hm => h.x g (vblk_rblk hvl hm) hg) (h.xp g hg).1,
    h.hp, fun g hg => (hx g hg).1, h.xp, fun g hg => (hx g hg).2⟩
theorem HPm.putP (h : HPm w H P n hv pv hops pars) {v : Nat} (hvn : v < n) {x : Value} {r : List Int} (hk : Kp (vblk (gVl pv v)) w w') (hr : w'.ownsRow 0 3 1 x r.length (ints r)) (hb : ∀ g, x.ownBlock = some g → (gVl pv v).ownBlock = some g ∨ w.heap.size ≤ g) :
    HPm (w'.setCell ⟨P, v, none⟩ x) H P n hv (pv.set v x) hops (pars.set v r) := (h.swap.putH hvn hk hr hb).swap
end
/-- the tree as it grows: since W1, only the tables' rows have changed -/
def RM (W1 : World) (H P n : Nat) (hops pars : List (List Int)) (wr : World) : Prop :=
  ∃ hv pv, HPm wr H P n hv pv hops pars ∧ Kp [H, P] W1 wr ∧ ∀ g, (g ∈ rblk hv ∨ g ∈ rblk pv) → W1.heap.size ≤ g
section
variable {W1 wr : World} {H P n : Nat} {hops pars : List (List Int)}
theorem RM.drew (h : RM W1 H P n hops pars wr) : RM W1 H P n hops pars wr.drew := by
  obtain ⟨hv, pv, h1, h2, h3⟩ := h; exact ⟨hv, pv, h1.drew, h2.drew, h3⟩
theorem RM.drewN (h : RM W1 H P n hops pars wr) (q : Nat) : RM W1 H P n hops pars (wr.drewN q) := by
  obtain ⟨hv, pv, h1, h2, h3⟩ := h; exact ⟨hv, pv, h1.congr fun _ _ => rfl, h2.drewN q, h3⟩
theorem RM.below {w' : World} (h : RM W1 H P n hops pars wr) (k : Below wr.heap.size wr w') : RM W1 H P n hops pars w' := by
  obtain ⟨hv, pv, h1, h2, h3⟩ := h; exact ⟨hv, pv, h1.below k, h2.then k, h3⟩
theorem RM.kp (h : RM W1 H P n hops pars wr) : Kp [H, P] W1 wr := by obtain ⟨hv, pv, h1, h2, h3⟩ := h; exact h2
theorem RM.swap (h : RM W1 H P n hops pars wr) : RM W1 P H n pars hops wr := by
  obtain ⟨hv, pv, h1, h2, h3⟩ := h
  exact ⟨pv, hv, h1.swap, h2.mono (fun g hg => by simp at hg ⊢; omega), fun g hg => h3 g (Or.symm hg)⟩
/-- one more number in a row of parents: what is read, what an append and a store make of it -/
theorem RM.atP (h : RM W1 H P n hops pars wr) {v : Nat} (hvn : v < n) :
    ∃ xv, wr.cell? ⟨P, v, none⟩ = some xv ∧ wr.frozen? ⟨P, v, none⟩ = false ∧ wr.ownsRow 0 3 1 xv (gL pars v).length (ints (gL pars v)) ∧ (∀ g, xv.ownBlock = some g → W1.heap.size ≤ g ∧ g ≠ P) ∧ P < wr.heap.size ∧
      ∀ (wd w2 : World) (y : Int) (x' : Value), Below wr.heap.size wr wd → wd.grownBy w2 xv.ownBlock → w2.ownsRow 0 3 1 x' ((gL pars v).length + 1) (ints (gL pars v) ++ [.int .i64 y]) → (∀ g, x'.ownBlock = some g → xv.ownBlock = some g ∨ wr.heap.size ≤ g) → RM W1 H P n hops (pars.set v (gL pars v ++ [y])) (w2.setCell ⟨P, v, none⟩ x') := by
  obtain ⟨hv, pv, h1, h2, h3⟩ := h
  have hvl : v < pv.length := by rw [h1.lpv]; exact hvn
  have hr := h1.pp.row v (by rw [h1.lp]; exact hvn)
  have hblk : ∀ g, (gVl pv v).ownBlock = some g → W1.heap.size ≤ g ∧ g ≠ P := fun g hg => by
    have hm := vblk_rblk hvl (mem_vblk.2 hg)
    exact ⟨h3 g (.inr hm), (h1.xp g hm).2⟩
  refine ⟨gVl pv v, h1.cp hvn, h1.fp v, hr, hblk, h1.lt P (.inr (.inl rfl)), fun wd w2 y x' hb hg ho hx => ?_⟩
  have hk : Kp (vblk (gVl pv v)) wr w2 := (Kp.of_below hb).grown hg fun k hk => .inl (mem_vblk.2 hk)
  refine ⟨hv, pv.set v x', h1.putP hvn hk (by rw [List.length_append, List.length_singleton, show ints (gL pars v ++ [y]) = ints (gL pars v) ++ [.int .i64 y] from by simp [ints]]; exact ho) hx, ?_, fun g hg => ?_⟩
  · refine Kp.setCell ?_ (.inl (by simp))
    refine h2.trans hk fun g hg => .inr (hblk g (mem_vblk.1 hg)).1
  · rcases hg with hg | hg
    · exact h3 g (.inl hg)
    · rcases rblk_set hvl hg with hg | hg
      · rcases hx g hg with hg | hg
        · exact (hblk g hg).1
        · exact Nat.le_trans h2.size hg
      · exact h3 g (.inr hg)
theorem RM.atH (h : RM W1 H P n hops pars wr) {v : Nat} (hvn : v < n) :
    ∃ xv, wr.cell? ⟨H, v, none⟩ = some xv ∧ wr.frozen? ⟨H, v, none⟩ = false ∧ wr.ownsRow 0 3 1 xv (gL hops v).length (ints (gL hops v)) ∧ (∀ g, xv.ownBlock = some g → W1.heap.size ≤ g ∧ g ≠ H) ∧ H < wr.heap.size ∧
      ∀ (wd w2 : World) (y : Int) (x' : Value), Below wr.heap.size wr wd → wd.grownBy w2 xv.ownBlock → w2.ownsRow 0 3 1 x' ((gL hops v).length + 1) (ints (gL hops v) ++ [.int .i64 y]) → (∀ g, x'.ownBlock = some g → xv.ownBlock = some g ∨ wr.heap.size ≤ g) → RM W1 H P n (hops.set v (gL hops v ++ [y])) pars (w2.setCell ⟨H, v, none⟩ x') := by
  obtain ⟨xv, a1, a2, a3, a4, a5, a6⟩ := h.swap.atP hvn
  exact ⟨xv, a1, a2, a3, a4, a5, fun wd w2 y x' b1 b2 b3 b4 => (a6 wd w2 y x' b1 b2 b3 b4).swap⟩
end
end Go.Proofs.Ytmlpbhankgojpaa
namespace Go.Proofs.Ytmlpbhankgojpaa
open Go.RowKit HM GM SP Classical
set_option linter.unusedSimpArgs false
set_option linter.unusedVariables false
set_option maxHeartbeats 4000000
set_option maxRecDepth 100000
def gT (row : Nat → List Int) (n i : Nat) : List (List Int) := (List.range n).map (fun a => if a < i then row a else [])
theorem gT_len (row : Nat → List Int) (n i : Nat) : (gT row n i).length = n := by simp [gT]
theorem gT_get {row : Nat → List Int} {n i a : Nat} (ha : a < n) : gL (gT row n i) a = if a < i then row a else [] := by
  unfold gL gT; simp [ha]
theorem gT_zero (row : Nat → List Int) (n : Nat) : gT row n 0 = List.replicate n [] := by
  apply List.ext_getElem
  · simp [gT]
  · intro i h1 h2; simp [gT]
theorem gT_set {row : Nat → List Int} {n i : Nat} (hi : i < n) : (gT row n i).set i (row i) = gT row n (i + 1) := by
  apply List.ext_getElem
  · simp [gT]
  · intro j h1 h2
    rw [List.getElem_set]
    by_cases e : i = j
    · subst e; simp [gT]
    · rw [if_neg e]
      simp only [gT, List.getElem_map, List.getElem_range]
      by_cases h3 : j < i
      · rw [if_pos h3, if_pos (by omega)]
      · rw [if_neg h3, if_neg (by omega)]
theorem gT_self {row : Nat → List Int} {n i : Nat} (hi : i < n) : (gT row n i).set i [] = gT row n i := by
  apply List.ext_getElem
  · simp
  · intro j h1 h2
    rw [List.getElem_set]
    by_cases e : i = j
    · subst e; simp [gT]
    · rw [if_neg e]
theorem gT_skip {row : Nat → List Int} {n i : Nat} (hi : i < n) (h : row i = []) : gT row n i = gT row n (i + 1) := by rw [← gT_set hi, h, gT_self hi]
noncomputable def parRow (l : List E) (s : Int) (n : Nat) (v : Nat) : List Int := rowF n (fun u => decide (Par l s (v : Int) u))
noncomputable def hopP (R : Int) (l : List E) (s : Int) (v : Nat) : Int → Bool := fun h => decide ((v : Int) ≠ s ∧ 0 ≤ T l s (v : Int) ∧ (h = (v : Int) ∨ (h < R ∧ 0 ≤ T l h (v : Int) ∧ T l s h + T l h (v : Int) = T l s (v : Int))))
noncomputable def hopRow (R : Int) (l : List E) (s : Int) (first : List Int) (v : Nat) : List Int := first.filter (hopP R l s v)
noncomputable def firstRow (R : Int) (l : List E) (s : Int) (n : Nat) : List Int := rowF n (fun u => decide (First R l s u))
section
variable {R N : Int} {l : List E} (hv : Valid R N l) {s : Int} {n : Nat}
include hv
theorem parRow_row (hn : (n : Int) = R + N) (v : Nat) : RowI (Par l s (v : Int)) (parRow l s n v) :=
  rowF_row (fun x hx => by
    obtain ⟨c, he, _⟩ := hx
    have := edge hv he; omega) fun x _ _ => decide_eq_true_iff
theorem firstRow_row (hs : 0 ≤ s ∧ s < R) (hn : (n : Int) = R + N) : RowI (First R l s) (firstRow R l s n) :=
  rowF_row (fun x hx => by have := (T_way hv hx.2.1).1.node hv (by have := hv.n; omega); omega) fun x _ _ => decide_eq_true_iff
omit hv in
theorem hopRow_row {first : List Int} (hf : RowI (First R l s) first) (v : Nat) : RowI (Hop R l s (v : Int)) (hopRow R l s first v) := by
  refine ⟨hf.1.sublist (List.filter_sublist), fun x => ?_⟩
  unfold hopRow hopP
  rw [List.mem_filter, hf.2 x]
  constructor
  · rintro ⟨h1, h2⟩
    obtain ⟨h3, h4, h5⟩ := of_decide_eq_true h2
    exact ⟨h3, h4, h1, h5⟩
  · rintro ⟨h1, h2, h3, h4⟩; exact ⟨h3, decide_eq_true ⟨h1, h2, h4⟩⟩
theorem rows_tree (hs : 0 ≤ s ∧ s < R) (hn : (n : Int) = R + N) : Tree R N l s n ((List.range n).map fun v : Nat => T l s (v : Int)) (gT (hopRow R l s (firstRow R l s n)) n n) (gT (parRow l s n) n n) := by
  refine ⟨by simp, gT_len _ _ _, gT_len _ _ _, fun v hvn => by simp [gI, hvn], fun v hvn => ?_, fun v hvn => ?_⟩
  · rw [gT_get hvn, if_pos hvn]; exact parRow_row hv hn v
  · rw [gT_get hvn, if_pos hvn]; exact hopRow_row (firstRow_row hv hs hn) v
theorem unreached (hs : s < R) {v : Nat} (h : (v : Int) = s ∨ T l s (v : Int) < 0) (first : List Int) : parRow l s n v = [] ∧ hopRow R l s first v = [] := by
  constructor
  · unfold parRow
    have : rowF n (fun u => decide (Par l s (v : Int) u)) = rowF n (fun _ => false) := rowF_congr fun x _ _ => decide_eq_false fun hp => by
      have := Par.reached hv hs hp; omega
    rw [this]; unfold rowF; simp
  · unfold hopRow
    rw [List.filter_eq_nil_iff]
    intro a _ h2
    obtain ⟨h3, h4, _⟩ := of_decide_eq_true h2
    omega
end
theorem filter_take_succ {l : List Int} {p : Int → Bool} {k : Nat} {y : Int} (h : l[k]? = some y) : (l.take (k + 1)).filter p = (l.take k).filter p ++ (if p y = true then [y] else []) := by
  rw [List.take_add_one, h, List.filter_append]
  by_cases hp : p y = true
  · simp [hp]
  · simp [hp]
/-- what region 8 leaves -/
structure T0F (W0 W : World) (tb H P n : Nat) (x : Int) (gr gp gc : Nat) : Prop where
  b : Below W0.heap.size W0 W
  t : W.heap[tb]? = some (.cells #[.int .i64 x, .slice (some ⟨gr, gp, none⟩) n gc, .slice (some ⟨H, 0, none⟩) n n, .slice (some ⟨P, 0, none⟩) n n] 28 (0, 0))
  h : W.ownsRow 0 25 1 (.slice (some ⟨H, 0, none⟩) n n) n (List.replicate n (.slice none 0 0))
  p : W.ownsRow 0 25 1 (.slice (some ⟨P, 0, none⟩) n n) n (List.replicate n (.slice none 0 0))
  ne : H ≠ P ∧ tb ≠ H ∧ tb ≠ P
  lo : W0.heap.size ≤ tb ∧ W0.heap.size ≤ H ∧ W0.heap.size ≤ P
theorem own_of_heap {W : World} {H n : Nat} (hn : n ≤ 65536) (h : W.heap[H]? = some (.cells (madeCells #[.slice none 0 0] n) 25 (0, 0))) : W.ownsRow 0 25 1 (.slice (some ⟨H, 0, none⟩) n n) n (List.replicate n (.slice none 0 0)) := by
  have hl := lt_block h
  have hsz : ({ W with heap := W.heap.extract 0 H } : World).heap.size = H := by simp; omega
  have := made_rowE ({ W with heap := W.heap.extract 0 H } : World) n 25 hn hsz.symm
  refine row_congr this fun g hg => ?_
  simp [Value.ownBlock] at hg
  subst hg
  rw [h, heap_new1 _ _ hsz.symm]
theorem T0F.mk' {W0 W : World} {tb H P n : Nat} {x : Int} {gr gp gc : Nat} (hn : n ≤ 65536) (b : Below W0.heap.size W0 W)
    (t : W.heap[tb]? = some (.cells #[.int .i64 x, .slice (some ⟨gr, gp, none⟩) n gc, .slice (some ⟨H, 0, none⟩) n n, .slice (some ⟨P, 0, none⟩) n n] 28 (0, 0)))
    (h : W.heap[H]? = some (.cells (madeCells #[.slice none 0 0] n) 25 (0, 0))) (p : W.heap[P]? = some (.cells (madeCells #[.slice none 0 0] n) 25 (0, 0))) (ne : H ≠ P ∧ tb ≠ H ∧ tb ≠ P) (lo : W0.heap.size ≤ tb ∧ W0.heap.size ≤ H ∧ W0.heap.size ≤ P) : T0F W0 W tb H P n x gr gp gc :=
  ⟨b, t, own_of_heap hn h, own_of_heap hn p, ne, lo⟩
theorem three {W0 : World} {o1 o2 o3 : Obj} : (((W0.alloc o1).alloc o2).alloc o3).drew.heap[W0.heap.size]? = some o1 ∧ (((W0.alloc o1).alloc o2).alloc o3).drew.heap[W0.heap.size + 1]? = some o2 ∧ (((W0.alloc o1).alloc o2).alloc o3).drew.heap[W0.heap.size + 1 + 1]? = some o3 ∧ Below W0.heap.size W0 (((W0.alloc o1).alloc o2).alloc o3).drew :=
  ⟨heap_up (heap_up (heap_new1 W0 _ rfl)), heap_up (heap_new1 _ _ (by simp)), heap_new1 _ _ (by simp), (below_then (below_then (below_alloc _ _) (below_alloc _ _)) (below_alloc _ _)).drew⟩
theorem own_low {w : World} {B B' n e k : Nat} {v : Value} {xs : List Value} (h : w.ownsRow B e k v n xs) (hb : B' ≤ B) : w.ownsRow B' e k v n xs :=
  ⟨h.1, h.2.imp id (fun ⟨g, cap, cur, a, b, c, d⟩ => ⟨g, cap, cur, a, Nat.le_trans hb b, c, d⟩)⟩
/-- a region by what it leaves -/
theorem reg_mono {P : Program} {c : Code} {Q : Exit → Act → World → Prop} {a : Act} {w : World} (RR : Act → Act → World → Prop) (h1 : c.wp P (fun e a' W => e = .normal ∧ RR a a' W) a w) (h2 : ∀ a' W, RR a a' W → Q .normal a' W) : c.wp P Q a w :=
  Code.wp_mono (fun e a' W h => by obtain ⟨rfl, h⟩ := h; exact h2 a' W h) h1
theorem RM.start {W : World} {H P n : Nat} (hh : W.ownsRow 0 25 1 (.slice (some ⟨H, 0, none⟩) n n) n (List.replicate n (.slice none 0 0))) (hp : W.ownsRow 0 25 1 (.slice (some ⟨P, 0, none⟩) n n) n (List.replicate n (.slice none 0 0))) (hne : H ≠ P) :
    RM W H P n (List.replicate n []) (List.replicate n []) W := by
  have hnil : ∀ g, g ∉ rblk (List.replicate n (Value.slice none 0 0)) := fun g hg => by
    obtain ⟨v, h1, h2⟩ := mem_rblk.1 hg
    rw [List.length_replicate] at h1
    unfold gVl at h2
    simp [h1, Value.ownBlock] at h2
  exact ⟨_, _, ⟨hh, hp, RS.nils _ n, RS.nils _ n, hne, fun g hg => absurd hg (hnil g), fun g hg => absurd hg (hnil g), fun g hg => absurd hg (hnil g)⟩, Kp.refl _ _, fun g hg => by rcases hg with hg | hg <;> exact absurd hg (hnil g)⟩
theorem DT.kp {W1 W : World} {l : List E} {n b o cap H P : Nat} (h : DT W1 l n b o cap) {W0 : World} (h0 : DT W0 l n b o cap) (hb : Below W0.heap.size W0 W1) (hk : Kp [H, P] W1 W) (hH : W0.heap.size ≤ H) (hP : W0.heap.size ≤ P) : DT W l n b o cap :=
  ⟨fun k hk' => by
    obtain ⟨g, p, c, c1, c2, c3, c4⟩ := h0.rows k hk'
    have hbl := h0.blk
    exact ⟨g, p, c, hk.carry (by simp; omega) (carry hb c1), Nat.lt_of_lt_of_le (Nat.lt_of_lt_of_le c2 hb.size) hk.size, c3, fun j hj => hk.carry (by simp; omega) (carry hb (c4 j hj))⟩, Nat.lt_of_lt_of_le h.blk hk.size⟩
end Go.Proofs.Ytmlpbhankgojpaa
