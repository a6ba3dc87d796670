/-
  Plain facts and worlds for the law TrieOrder: two tries and the list of the entries that were new.
-/
import Derived.Test.YtkelfjgjgjdinaaTwR
namespace Go.Proofs.Ytkelfjgjgjdinaa
open Go.RowKit
set_option linter.unusedSimpArgs false
set_option linter.unusedVariables false

def ordStep (s : List En × List En) (x : En) : List En × List En := if V x.1 = true then (insE s.1 x, if hasE s.1 x.1 then s.2 else s.2 ++ [x]) else s
def ordOf (l : List En) : List En × List En := l.foldl ordStep ([], [])
theorem ordOf_snoc (l : List En) (x : En) : ordOf (l ++ [x]) = ordStep (ordOf l) x := by unfold ordOf; rw [List.foldl_append]; rfl
structure OrdInv (n : Nat) (s : List En × List En) : Prop where
  asc : AscE s.1
  val : ∀ x ∈ s.1, V x.1 = true
  dis : s.2.Pairwise (fun a b => a.1 ≠ b.1)
  sub : ∀ x ∈ s.2, hasE s.1 x.1 = true
  sup : ∀ x ∈ s.1, ∃ y ∈ s.2, y.1 = x.1
  len : s.2.length = s.1.length
  le : s.1.length ≤ n
  fit : ∀ x ∈ s.2, x.1.1 < 4294967296 ∧ I64 x.1.2 ∧ V x.1 = true
theorem ordStep_inv {n : Nat} {s : List En × List En} (h : OrdInv n s) (x : En) (hf : x.1.1 < 4294967296 ∧ I64 x.1.2) : OrdInv (n + 1) (ordStep s x) := by
  unfold ordStep
  split
  · rename_i hv
    have hl := insE_len h.asc x
    cases hh : hasE s.1 x.1
    · rw [if_neg (by rw [hh]; decide)] at hl
      refine ⟨asc_insE x h.asc, ?_, ?_, ?_, ?_, ?_, ?_, ?_⟩
      · intro y hy
        rcases mem_insE.1 hy with rfl | ⟨hy, _⟩
        · exact hv
        · exact h.val y hy
      · simp only [Bool.false_eq_true, if_false]
        rw [List.pairwise_append]
        exact ⟨h.dis, by simp, fun a ha b hb => by
          simp at hb; subst hb
          intro e
          have := h.sub a ha
          rw [e, hh] at this; cases this⟩
      · intro y hy
        simp at hy
        rcases hy with hy | rfl
        · obtain ⟨z, hz, e⟩ := hasE_iff.1 (h.sub y hy)
          by_cases hzx : z.1 = x.1
          · exact hasE_iff.2 ⟨x, mem_insE.2 (.inl rfl), hzx.symm.trans e⟩
          · exact hasE_iff.2 ⟨z, mem_insE.2 (.inr ⟨hz, hzx⟩), e⟩
        · exact has_ins _ _
      · intro y hy
        simp only [Bool.false_eq_true, if_false]
        rcases mem_insE.1 hy with rfl | ⟨hy, _⟩
        · exact ⟨y, by simp, rfl⟩
        · obtain ⟨z, hz, e⟩ := h.sup y hy
          exact ⟨z, by simp [hz], e⟩
      · simp only [Bool.false_eq_true, if_false, List.length_append, List.length_singleton, hl, h.len]
      · have := h.le; dsimp only; omega
      · intro y hy
        simp at hy
        rcases hy with hy | rfl
        · exact h.fit y hy
        · exact ⟨hf.1, hf.2, hv⟩
    · rw [if_pos hh] at hl
      refine ⟨asc_insE x h.asc, ?_, h.dis, ?_, ?_, ?_, ?_, h.fit⟩
      · intro y hy
        rcases mem_insE.1 hy with rfl | ⟨hy, _⟩
        · exact hv
        · exact h.val y hy
      · intro y hy
        obtain ⟨z, hz, e⟩ := hasE_iff.1 (h.sub y hy)
        by_cases hzx : z.1 = x.1
        · exact hasE_iff.2 ⟨x, mem_insE.2 (.inl rfl), hzx.symm.trans e⟩
        · exact hasE_iff.2 ⟨z, mem_insE.2 (.inr ⟨hz, hzx⟩), e⟩
      · intro y hy
        rcases mem_insE.1 hy with rfl | ⟨hy, _⟩
        · obtain ⟨z, hz, e⟩ := hasE_iff.1 hh
          obtain ⟨y', hy', e'⟩ := h.sup z hz
          exact ⟨y', hy', e'.trans e⟩
        · exact h.sup y hy
      · simp only [if_true, hl, h.len]
      · have := h.le; dsimp only; omega
  · exact ⟨h.asc, h.val, h.dis, h.sub, h.sup, h.len, Nat.le_succ_of_le h.le, h.fit⟩
theorem ordOf_inv (l : List En) (hf : Fit l) : ∀ k, OrdInv k (ordOf (l.take k))
  | 0 => ⟨List.Pairwise.nil, fun x hx => (by cases hx), List.Pairwise.nil, fun x hx => (by cases hx), fun x hx => (by cases hx), rfl, Nat.le_refl _, fun x hx => (by cases hx)⟩
  | k + 1 => by
    have ih := ordOf_inv l hf k
    cases hx : l[k]? with
    | none =>
      have hle := List.getElem?_eq_none_iff.1 hx
      rw [List.take_of_length_le (by omega)]
      rw [List.take_of_length_le hle] at ih
      exact ⟨ih.asc, ih.val, ih.dis, ih.sub, ih.sup, ih.len, Nat.le_succ_of_le ih.le, ih.fit⟩
    | some x => rw [take_snoc hx, ordOf_snoc]; exact ordStep_inv ih x (hf x (List.mem_of_getElem? hx))
def reput (E : List En) (s : En) : En := (s.1, (getE E s.1).1)
def bkOf (E S : List En) (j : Nat) : List En := foldE (((S.drop j).reverse).map (reput E))
theorem bkOf_end (E S : List En) : bkOf E S S.length = [] := by unfold bkOf; rw [List.drop_length]; rfl
theorem bkOf_step (E : List En) {S : List En} {j : Nat} {s : En} (h : S[j]? = some s) : bkOf E S j = insE (bkOf E S (j + 1)) (reput E s) := by
  unfold bkOf
  have hlt := (List.getElem?_eq_some_iff.1 h).1
  rw [List.drop_eq_getElem_cons hlt, (List.getElem?_eq_some_iff.1 h).2, List.reverse_cons, List.map_append, List.map_singleton, foldE_snoc]
theorem bkOf_len (E S : List En) (j : Nat) : (bkOf E S j).length ≤ S.length := by
  have := foldE_len (((S.drop j).reverse).map (reput E)) [] List.Pairwise.nil
  unfold bkOf foldE
  simp at this ⊢; omega
theorem mem_fold_dis : ∀ (l out : List En), l.Pairwise (fun a b => a.1 ≠ b.1) → (∀ x ∈ l, ∀ y ∈ out, x.1 ≠ y.1) → ∀ x, x ∈ l.foldl insE out ↔ x ∈ out ∨ x ∈ l
  | [], out, _, _, x => by simp
  | y :: r, out, hp, hd, x => by
    obtain ⟨h1, h2⟩ := List.pairwise_cons.1 hp
    rw [List.foldl_cons, mem_fold_dis r (insE out y) h2 (fun a ha b hb => by
      rcases mem_insE.1 hb with rfl | ⟨hb, _⟩
      · exact fun e => h1 a ha e.symm
      · exact hd a (by simp [ha]) b hb) x, mem_insE, List.mem_cons]
    constructor
    · rintro ((h | ⟨h, _⟩) | h)
      · exact .inr (.inl h)
      · exact .inl h
      · exact .inr (.inr h)
    · rintro (h | h | h)
      · exact .inl (.inr ⟨h, fun e => hd y (by simp) x h e.symm⟩)
      · exact .inl (.inl h)
      · exact .inr h
theorem bkOf_whole {n : Nat} {s : List En × List En} (h : OrdInv n s) : bkOf s.1 s.2 0 = s.1 := by
  unfold bkOf
  rw [List.drop_zero]
  have hp : ((s.2.reverse).map (reput s.1)).Pairwise (fun a b => a.1 ≠ b.1) := by
    rw [List.pairwise_map, List.pairwise_reverse]
    exact h.dis.imp fun hab e => hab e.symm
  refine asc_ext (foldE_asc _) h.asc fun x => ?_
  unfold foldE
  rw [mem_fold_dis _ [] hp (fun _ _ _ hy => by cases hy)]
  simp only [List.not_mem_nil, false_or, List.mem_map, List.mem_reverse]
  constructor
  · rintro ⟨y, hy, rfl⟩
    obtain ⟨z, hz, e⟩ := hasE_iff.1 (h.sub y hy)
    unfold reput
    rw [getE_mem h.asc hz e, ← e]; exact hz
  · intro hx
    obtain ⟨y, hy, e⟩ := h.sup x hx
    refine ⟨y, hy, ?_⟩
    unfold reput
    rw [getE_mem h.asc hx e.symm, e]

/-- two tries and a row of the call's own, all apart -/
structure Two (w0 : World) (t b : Value) (sv : Value) (E B S : List En) (g1 g2 : List Nat) (W : World) : Prop where
  t : TrieR W t E g1
  b : TrieR W b B g2
  dis : ∀ g ∈ g1, g ∉ g2
  row : W.ownsRow w0.heap.size 65 3 sv S.length (flatE S)
  r1 : ∀ g ∈ g1, sv.ownBlock ≠ some g
  r2 : ∀ g ∈ g2, sv.ownBlock ≠ some g
  n1 : ∀ g ∈ g1, w0.heap.size ≤ g
  n2 : ∀ g ∈ g2, w0.heap.size ≤ g
  bel : Below w0.heap.size w0 W
theorem own_kp {w w1 : World} {B n e k : Nat} {v : Value} {xs : List Value} {G : List Nat} (h : w.ownsRow B e k v n xs) (hk : Kp G w w1) (hn : ∀ g ∈ G, v.ownBlock ≠ some g) : w1.ownsRow B e k v n xs := by
  refine ⟨h.1, h.2.imp id ?_⟩
  rintro ⟨g, cap, cur, rfl, b, c, d⟩
  exact ⟨g, cap, cur, rfl, b, (hk.block g (Array.getElem?_eq_some_iff.1 c).1 (fun hm => hn g hm rfl)).trans c, d⟩
theorem Two.below {w0 W W1 : World} {t b sv : Value} {E B S : List En} {g1 g2 : List Nat} (h : Two w0 t b sv E B S g1 g2 W) (hb : Below W.heap.size W W1) : Two w0 t b sv E B S g1 g2 W1 :=
  ⟨h.t.below hb, h.b.below hb, h.dis, own_below h.row hb, h.r1, h.r2, h.n1, h.n2, h.bel.trans (hb.mono h.bel.size)⟩
theorem Two.putT {w0 W W1 : World} {t b sv : Value} {E E' B S : List En} {g1 g1' g2 : List Nat} (h : Two w0 t b sv E B S g1 g2 W) (hT : TrieR W1 t E' g1') (hg : ∀ k ∈ g1', k ∈ g1 ∨ W.heap.size ≤ k) (hk : Kp g1 W W1) : Two w0 t b sv E' B S g1' g2 W1 := by
  have hl2 := h.b.lt
  have hs := h.bel.size
  refine ⟨hT, h.b.kp hk (fun g h2 h1 => h.dis g h1 h2), ?_, own_kp h.row hk h.r1, ?_, h.r2, ?_, h.n2, h.bel.trans (hk.below h.bel.size h.n1)⟩
  · intro g hg1 hg2
    rcases hg g hg1 with h1 | h1
    · exact h.dis g h1 hg2
    · have := hl2 g hg2; omega
  · intro g hg1 e
    rcases hg g hg1 with h1 | h1
    · exact h.r1 g h1 e
    · have := (own_lt h.row e).2; omega
  · intro g hg1
    rcases hg g hg1 with h1 | h1
    · exact h.n1 g h1
    · omega
theorem Two.putB {w0 W W1 : World} {t b sv : Value} {E B B' S : List En} {g1 g2 g2' : List Nat} (h : Two w0 t b sv E B S g1 g2 W) (hT : TrieR W1 b B' g2') (hg : ∀ k ∈ g2', k ∈ g2 ∨ W.heap.size ≤ k) (hk : Kp g2 W W1) : Two w0 t b sv E B' S g1 g2' W1 := by
  have hl1 := h.t.lt
  have hs := h.bel.size
  refine ⟨h.t.kp hk (fun g h1 h2 => h.dis g h1 h2), hT, ?_, own_kp h.row hk h.r2, h.r1, ?_, h.n1, ?_, h.bel.trans (hk.below h.bel.size h.n2)⟩
  · intro g hg1 hg2
    rcases hg g hg2 with h1 | h1
    · exact h.dis g hg1 h1
    · have := hl1 g hg1; omega
  · intro g hg2 e
    rcases hg g hg2 with h1 | h1
    · exact h.r2 g h1 e
    · have := (own_lt h.row e).2; omega
  · intro g hg2
    rcases hg g hg2 with h1 | h1
    · exact h.n2 g h1
    · omega
theorem Two.push {w0 W W1 W2 : World} {t b sv sv' : Value} {E B S : List En} {g1 g2 : List Nat} (h : Two w0 t b sv E B S g1 g2 W) (hb : Below W.heap.size W W1) (x : En)
    (hown : W2.ownsRow w0.heap.size 65 3 sv' (S.length + 1) (flatE S ++ encE x)) (hgr : W1.grownBy W2 sv.ownBlock) (hat : ∀ g, sv'.ownBlock = some g → sv.ownBlock = some g ∨ W.heap.size ≤ g) : Two w0 t b sv' E B (S ++ [x]) g1 g2 W2 := by
  have h1 := h.below hb
  have key : ∀ g, g < W.heap.size → sv.ownBlock ≠ some g → W2.heap[g]? = W1.heap[g]? := fun g hg hn => hgr.block g (Nat.lt_of_lt_of_le hg hb.size) (fun e => hn e.symm)
  have l1 := h.t.lt
  have l2 := h.b.lt
  refine ⟨h1.t.congr fun g hg => key g (l1 g hg) (h.r1 g hg), h1.b.congr fun g hg => key g (l2 g hg) (h.r2 g hg), h.dis, by rw [flatE_snoc, List.length_append]; exact hown, ?_, ?_, h.n1, h.n2, ?_⟩
  · intro g hg e
    rcases hat g e with h2 | h2
    · exact h.r1 g hg h2
    · have := l1 g hg; omega
  · intro g hg e
    rcases hat g e with h2 | h2
    · exact h.r2 g hg h2
    · have := l2 g hg; omega
  · exact h1.bel.grown hgr h1.bel.size (fun k hk => (own_lt h.row hk).1)
end Go.Proofs.Ytkelfjgjgjdinaa
