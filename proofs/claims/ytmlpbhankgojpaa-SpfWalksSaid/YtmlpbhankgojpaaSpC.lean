/-
  Trees of shortest paths by a table of distances: rows by choice, and a table that certifies itself.
-/
import Derived.Test.YtmlpbhankgojpaaSpI
namespace Go.Proofs.Ytmlpbhankgojpaa.SP
open GM HM Classical
set_option linter.unusedVariables false
set_option linter.unusedSimpArgs false

/-- the numbers below n that P chooses -/
def rowF (n : Nat) (P : Int → Bool) : List Int := ((List.range n).filter (fun k : Nat => P (k : Int))).map (fun k : Nat => (k : Int))
theorem mem_rowF {n : Nat} {P : Int → Bool} {x : Int} : x ∈ rowF n P ↔ (0 ≤ x ∧ x < n) ∧ P x = true := by
  unfold rowF
  simp only [List.mem_map, List.mem_filter, List.mem_range]
  constructor
  · rintro ⟨k, ⟨h1, h2⟩, rfl⟩; exact ⟨⟨by omega, by omega⟩, h2⟩
  · rintro ⟨⟨h0, h1⟩, h2⟩; exact ⟨x.toNat, ⟨by omega, by rwa [Int.toNat_of_nonneg h0]⟩, by omega⟩
theorem rowF_row {n : Nat} {P : Int → Bool} {Q : Int → Prop} (h : ∀ x : Int, Q x → 0 ≤ x ∧ x < n) (he : ∀ x : Int, 0 ≤ x → x < n → (P x = true ↔ Q x)) : RowI Q (rowF n P) := by
  refine ⟨?_, fun x => ?_⟩
  · unfold rowF
    rw [List.pairwise_map]
    exact (List.Pairwise.filter _ List.pairwise_lt_range).imp fun h => by omega
  · rw [mem_rowF]
    constructor
    · rintro ⟨h1, h2⟩; exact (he x h1.1 h1.2).1 h2
    · intro hq; exact ⟨h x hq, (he x (h x hq).1 (h x hq).2).2 hq⟩
theorem rowF_congr {n : Nat} {P P' : Int → Bool} (h : ∀ x : Int, 0 ≤ x → x < n → P x = P' x) : rowF n P = rowF n P' := by
  unfold rowF
  congr 1
  refine List.filter_congr fun k hk => ?_
  have := List.mem_range.1 hk
  exact h k (by omega) (by omega)
def parB (l : List E) (t : Int → Int → Int) (s v u : Int) : Bool := l.any (fun e => decide (e.1 = u ∧ e.2.1 = v ∧ 0 ≤ t s u ∧ t s u + e.2.2 = t s v))
def firB (R : Int) (l : List E) (t : Int → Int → Int) (s h : Int) : Bool :=
  decide (h ≠ s ∧ 0 ≤ t s h) && (l.any (fun e => decide (e = (s, h, t s h))) || (decide (h < R) && l.any (fun e => decide (e.1 = s ∧ R ≤ e.2.1 ∧ e.2.2 = t s e.2.1 ∧ t s e.2.1 = t s h) && l.any (fun f => decide (f = (e.2.1, h, 0))))))
def hopB (R : Int) (l : List E) (t : Int → Int → Int) (s v h : Int) : Bool :=
  decide (v ≠ s ∧ 0 ≤ t s v) && firB R l t s h && (decide (h = v) || decide (h < R ∧ 0 ≤ t h v ∧ t s h + t h v = t s v))
section
variable {R N : Int} {l : List E} (hv : Valid R N l) {s : Int} (hs : 0 ≤ s ∧ s < R) {n : Nat} (hn : (n : Int) = R + N) {t : Int → Int → Int} (ht : ∀ i k : Int, 0 ≤ i → i < n → 0 ≤ k → k < n → t i k = T l i k)
include hv hs hn ht
theorem parB_iff {v u : Int} (h0 : 0 ≤ v ∧ v < n) (h1 : 0 ≤ u ∧ u < n) : parB l t s v u = true ↔ Par l s v u := by
  unfold parB Par
  have := hv.n
  rw [List.any_eq_true]
  rw [ht s u hs.1 (by omega) h1.1 h1.2, ht s v hs.1 (by omega) h0.1 h0.2]
  constructor
  · rintro ⟨⟨a, b, c⟩, h2, h3⟩
    obtain ⟨rfl, rfl, h4, h5⟩ := of_decide_eq_true h3
    exact ⟨c, h2, h4, h5⟩
  · rintro ⟨c, h2, h3, h4⟩; exact ⟨_, h2, decide_eq_true ⟨rfl, rfl, h3, h4⟩⟩
theorem firB_iff {h : Int} (h0 : 0 ≤ h ∧ h < n) : firB R l t s h = true ↔ First R l s h := by
  unfold firB First
  have hN := hv.n
  have hsh := ht s h hs.1 (by omega) h0.1 h0.2
  rw [Bool.and_eq_true, Bool.or_eq_true, Bool.and_eq_true, List.any_eq_true, List.any_eq_true, hsh]
  constructor
  · rintro ⟨h1, h2⟩
    obtain ⟨h3, h4⟩ := of_decide_eq_true h1
    refine ⟨h3, h4, ?_⟩
    rcases h2 with ⟨e, h5, h6⟩ | ⟨h5, e, h6, h7⟩
    · have := of_decide_eq_true h6; subst this; exact .inl h5
    · rw [Bool.and_eq_true, List.any_eq_true] at h7
      obtain ⟨h8, f, h9, h10⟩ := h7
      have h11 := of_decide_eq_true h10
      subst h11
      obtain ⟨a, b, c⟩ := e
      have h12 := edge hv h6
      have hb := ht s b hs.1 (by omega) h12.2.2.1 (by omega)
      obtain ⟨h13, h14, h15, h16⟩ := of_decide_eq_true h8
      dsimp only at h13 h14 h15 h16 h9
      rw [hb] at h15 h16
      subst h13 h15
      exact .inr ⟨of_decide_eq_true h5, b, h14, h6, h16, h9⟩
  · rintro ⟨h3, h4, h5⟩
    refine ⟨decide_eq_true ⟨h3, h4⟩, ?_⟩
    rcases h5 with h5 | ⟨h5, w, h6, h7, h8, h9⟩
    · exact .inl ⟨_, h5, decide_eq_true rfl⟩
    · have h12 := edge hv h7
      have hb := ht s w hs.1 (by omega) h12.2.2.1 (by omega)
      refine .inr ⟨decide_eq_true h5, _, h7, ?_⟩
      rw [Bool.and_eq_true, List.any_eq_true]
      exact ⟨decide_eq_true ⟨rfl, h6, hb.symm, by rw [hb, h8]⟩, _, h9, decide_eq_true rfl⟩
theorem hopB_iff {v h : Int} (h0 : 0 ≤ v ∧ v < n) (h1 : 0 ≤ h ∧ h < n) : hopB R l t s v h = true ↔ Hop R l s v h := by
  unfold hopB Hop
  have hN := hv.n
  rw [Bool.and_eq_true, Bool.and_eq_true, Bool.or_eq_true, firB_iff hv hs hn ht h1, decide_eq_true_eq, decide_eq_true_eq, decide_eq_true_eq, ht s v hs.1 (by omega) h0.1 h0.2, ht h v h1.1 h1.2 h0.1 h0.2, ht s h hs.1 (by omega) h1.1 h1.2, and_assoc, and_assoc]
omit hs ht in
theorem Par.node {v u : Int} (h : Par l s v u) : 0 ≤ u ∧ u < n := by
  obtain ⟨c, h1, _⟩ := h
  have := edge hv h1; omega
omit ht in
theorem Hop.node {v h : Int} (hh : Hop R l s v h) : 0 ≤ h ∧ h < n := by
  have := hv.n
  have := (T_way hv hh.2.2.1.2.1).1.node hv (by omega)
  omega
/-- the tree by a table of distances -/
theorem tree_of : Tree R N l s n ((List.range n).map fun v : Nat => t s (v : Int)) ((List.range n).map fun v : Nat => rowF n (hopB R l t s (v : Int))) ((List.range n).map fun v : Nat => rowF n (parB l t s (v : Int))) := by
  have hN := hv.n
  refine ⟨by simp, by simp, by simp, fun v h => ?_, fun v h => ?_, fun v h => ?_⟩
  · unfold gI; simp [h]; exact ht s v hs.1 (by omega) (by omega) (by omega)
  · have e : gL ((List.range n).map fun v : Nat => rowF n (parB l t s (v : Int))) v = rowF n (parB l t s (v : Int)) := by unfold gL; simp [h]
    rw [e]
    exact rowF_row (fun x hx => Par.node hv hn hx) fun x h1 h2 => parB_iff hv hs hn ht ⟨by omega, by omega⟩ ⟨h1, h2⟩
  · have e : gL ((List.range n).map fun v : Nat => rowF n (hopB R l t s (v : Int))) v = rowF n (hopB R l t s (v : Int)) := by unfold gL; simp [h]
    rw [e]
    exact rowF_row (fun x hx => Hop.node hv hs hn hx) fun x h1 h2 => hopB_iff hv hs hn ht ⟨by omega, by omega⟩ ⟨h1, h2⟩
end
/-- a table -/
def tb (tab : List (List Int)) (i k : Int) : Int := gI (gL tab i.toNat) k.toNat
def certB (n : Nat) (l : List E) (tab : List (List Int)) : Bool := (List.range n).all fun i : Nat =>
  decide (tb tab i i = 0) && l.all (fun e => decide (tb tab i e.1 < 0) || decide (0 ≤ tb tab i e.2.1 ∧ tb tab i e.2.1 ≤ tb tab i e.1 + e.2.2)) &&
    (List.range n).all (fun v : Nat => decide (v = i) || decide (tb tab i v = -1) || (decide (0 ≤ tb tab i v) && l.any (fun e => decide (e.2.1 = (v : Int) ∧ 0 ≤ tb tab i e.1 ∧ tb tab i e.1 + e.2.2 = tb tab i v))))
theorem cert_T {R N : Int} {l : List E} (hv : Valid R N l) {n : Nat} (hn : (n : Int) = R + N) {tab : List (List Int)} (hc : certB n l tab = true) : ∀ i k : Int, 0 ≤ i → i < n → 0 ≤ k → k < n → tb tab i k = T l i k := by
  intro i k i0 i1 k0 k1
  obtain ⟨i, rfl⟩ : ∃ j : Nat, i = j := ⟨i.toNat, by omega⟩
  unfold certB at hc
  have h := List.all_eq_true.1 hc i (List.mem_range.2 (by omega))
  rw [Bool.and_eq_true, Bool.and_eq_true] at h
  obtain ⟨⟨ha, hb⟩, hd⟩ := h
  have ha := of_decide_eq_true ha
  have low : ∀ v d, W l (i : Int) v d → 0 ≤ tb tab i v ∧ tb tab i v ≤ d := by
    intro v d hw
    induction hw with
    | nil => rw [ha]; omega
    | step hw he ih =>
      rename_i u v c d
      have := List.all_eq_true.1 hb _ he
      rw [Bool.or_eq_true, decide_eq_true_eq, decide_eq_true_eq] at this
      dsimp only at this
      omega
  have up : ∀ m : Nat, ∀ v : Int, 0 ≤ v → v < n → 0 ≤ tb tab i v → (tr R v (tb tab i v)).toNat ≤ m → W l (i : Int) v (tb tab i v) := by
    intro m
    induction m with
    | zero =>
      intro v v0 v1 hv0 hm
      obtain ⟨v, rfl⟩ : ∃ j : Nat, v = j := ⟨v.toNat, by omega⟩
      have h := List.all_eq_true.1 hd v (List.mem_range.2 (by omega))
      rw [Bool.or_eq_true, Bool.or_eq_true, Bool.and_eq_true, List.any_eq_true, decide_eq_true_eq, decide_eq_true_eq, decide_eq_true_eq] at h
      rcases h with (h | h) | ⟨_, ⟨a, b, c⟩, h1, h2⟩
      · subst h; rw [ha]; exact W.nil
      · omega
      · obtain ⟨rfl, h3, h4⟩ := of_decide_eq_true h2
        dsimp only at h3 h4
        have h5 := tr_edge hv h1 (tb tab i a)
        rw [h4] at h5
        have : 0 ≤ tr R a (tb tab i a) := by unfold tr; split <;> omega
        omega
    | succ m ih =>
      intro v v0 v1 hv0 hm
      obtain ⟨v, rfl⟩ : ∃ j : Nat, v = j := ⟨v.toNat, by omega⟩
      have h := List.all_eq_true.1 hd v (List.mem_range.2 (by omega))
      rw [Bool.or_eq_true, Bool.or_eq_true, Bool.and_eq_true, List.any_eq_true, decide_eq_true_eq, decide_eq_true_eq, decide_eq_true_eq] at h
      rcases h with (h | h) | ⟨_, ⟨a, b, c⟩, h1, h2⟩
      · subst h; rw [ha]; exact W.nil
      · omega
      · obtain ⟨rfl, h3, h4⟩ := of_decide_eq_true h2
        dsimp only at h3 h4
        have h5 := tr_edge hv h1 (tb tab i a)
        rw [h4] at h5
        have h6 : 0 ≤ tr R a (tb tab i a) := by unfold tr; split <;> omega
        have hed := edge hv h1
        have := (ih a hed.1 (by omega) h3 (by omega)).step h1
        rwa [h4] at this
  by_cases h : 0 ≤ tb tab i k
  · exact (T_of ⟨up _ k k0 k1 h (Nat.le_refl _), fun e he => (low k e he).2⟩).symm
  · have hk : tb tab i k = -1 := by
      obtain ⟨k, rfl⟩ : ∃ j : Nat, k = j := ⟨k.toNat, by omega⟩
      have h' := List.all_eq_true.1 hd k (List.mem_range.2 (by omega))
      rw [Bool.or_eq_true, Bool.or_eq_true, Bool.and_eq_true, List.any_eq_true, decide_eq_true_eq, decide_eq_true_eq, decide_eq_true_eq] at h'
      rcases h' with (h' | h') | ⟨h', _⟩
      · subst h'; omega
      · exact h'
      · exact absurd h' h
    rcases T_cases hv i k with ⟨h1, _⟩ | ⟨_, h1⟩
    · omega
    · exact absurd (low k _ h1.1).1 h
/-- the examples of the document -/
def ringL : List E := [(0, 1, 1), (0, 3, 1), (1, 0, 1), (1, 2, 1), (2, 1, 1), (2, 3, 1), (3, 0, 1), (3, 2, 1)]
def netL : List E := [(0, 2, 3), (1, 2, 3), (2, 0, 0), (2, 1, 0)]
theorem ring_valid : Valid 4 0 ringL := chk_iff.1 (by decide)
theorem net_valid : Valid 2 1 netL := chk_iff.1 (by decide)
theorem ring_tree : Tree 4 0 ringL 0 4 [0, 1, 2, 1] [[], [1], [1, 3], [3]] [[], [0], [1, 3], [0]] := by
  have h := tree_of ring_valid (s := 0) (by omega) (n := 4) rfl (cert_T ring_valid (n := 4) rfl (tab := [[0, 1, 2, 1], [1, 0, 1, 2], [2, 1, 0, 1], [1, 2, 1, 0]]) (by decide))
  have e1 : ((List.range 4).map fun v : Nat => tb [[0, 1, 2, 1], [1, 0, 1, 2], [2, 1, 0, 1], [1, 2, 1, 0]] 0 (v : Int)) = [0, 1, 2, 1] := by decide
  have e2 : ((List.range 4).map fun v : Nat => rowF 4 (hopB 4 ringL (tb [[0, 1, 2, 1], [1, 0, 1, 2], [2, 1, 0, 1], [1, 2, 1, 0]]) 0 (v : Int))) = [[], [1], [1, 3], [3]] := by decide
  have e3 : ((List.range 4).map fun v : Nat => rowF 4 (parB ringL (tb [[0, 1, 2, 1], [1, 0, 1, 2], [2, 1, 0, 1], [1, 2, 1, 0]]) 0 (v : Int))) = [[], [0], [1, 3], [0]] := by decide
  rw [e1, e2, e3] at h
  exact h
theorem net_tree : Tree 2 1 netL 0 3 [0, 3, 3] [[], [1], [2]] [[], [2], [0]] := by
  have h := tree_of net_valid (s := 0) (by omega) (n := 3) rfl (cert_T net_valid (n := 3) rfl (tab := [[0, 3, 3], [3, 0, 3], [0, 0, 0]]) (by decide))
  have e1 : ((List.range 3).map fun v : Nat => tb [[0, 3, 3], [3, 0, 3], [0, 0, 0]] 0 (v : Int)) = [0, 3, 3] := by decide
  have e2 : ((List.range 3).map fun v : Nat => rowF 3 (hopB 2 netL (tb [[0, 3, 3], [3, 0, 3], [0, 0, 0]]) 0 (v : Int))) = [[], [1], [2]] := by decide
  have e3 : ((List.range 3).map fun v : Nat => rowF 3 (parB netL (tb [[0, 3, 3], [3, 0, 3], [0, 0, 0]]) 0 (v : Int))) = [[], [2], [0]] := by decide
  rw [e1, e2, e3] at h
  exact h
end Go.Proofs.Ytmlpbhankgojpaa.SP
