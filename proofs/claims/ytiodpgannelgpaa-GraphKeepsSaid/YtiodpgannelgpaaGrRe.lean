/-
  The walks of graph.remove and graph.set.
-/
import Derived.Test.YtiodpgannelgpaaGrAm
namespace Go.Proofs.Ytiodpgannelgpaa
open Go.RowKit GM Go.Sort
set_option linter.unusedSimpArgs false
set_option linter.unusedVariables false
set_option maxHeartbeats 4000000
set_option maxRecDepth 100000

/-- of what lies before block B only block G is changed -/
structure Chg (G B : Nat) (w w' : World) : Prop where
  os : w'.os = w.os
  tape : w'.tape = w.tape
  output : w'.output = w.output
  size : w.heap.size ≤ w'.heap.size
  block : ∀ k, k < B → k ≠ G → w'.heap[k]? = w.heap[k]?
theorem Chg.refl (G B : Nat) (w : World) : Chg G B w w := ⟨rfl, rfl, rfl, Nat.le_refl _, fun _ _ _ => rfl⟩
theorem Chg.below {G B : Nat} {a b c : World} (h : Chg G B a b) (k : Below b.heap.size b c) (hB : B ≤ b.heap.size) : Chg G B a c :=
  ⟨k.os.trans h.os, k.tape.trans h.tape, k.output.trans h.output, Nat.le_trans h.size k.size, fun i hi hn => (k.block i (by omega)).trans (h.block i hi hn)⟩
theorem Chg.grown {G B g : Nat} {a b c : World} (h : Chg G B a b) (k : b.grownBy c (some g)) (hB : B ≤ b.heap.size) (hg : B ≤ g) : Chg G B a c :=
  ⟨k.os.trans h.os, k.tape.trans h.tape, k.output.trans h.output, Nat.le_trans h.size k.size, fun i hi hn => (k.block i (by omega) (fun e => by cases e; omega)).trans (h.block i hi hn)⟩
theorem Chg.set {G B o : Nat} {a b : World} {u : Value} (h : Chg G B a b) : Chg G B a (b.setCell ⟨G, o, none⟩ u) :=
  ⟨h.os, h.tape, h.output, by simpa using h.size, fun i hi hn => (heap_set_ne hn).trans (h.block i hi hn)⟩
theorem Chg.set' {G B g o : Nat} {a b : World} {u : Value} (h : Chg G B a b) (hg : B ≤ g) : Chg G B a (b.setCell ⟨g, o, none⟩ u) :=
  ⟨h.os, h.tape, h.output, by simpa using h.size, fun i hi hn => (heap_set_ne (by omega)).trans (h.block i hi hn)⟩
theorem Chg.drewN {G B : Nat} {a b : World} (h : Chg G B a b) (n : Nat) : Chg G B a (b.drewN n) := ⟨h.os, h.tape, h.output, h.size, h.block⟩
/-- a graph in its box; its edges lie in a row of the call's own -/
structure GB (G B : Nat) (R N : Int) (s : Value) (l : List E) (W : World) : Prop where
  box : W.heap[G]? = some (.cells #[.int .i64 R, .int .i64 N, s] 24 (0, 0))
  own : OwnL B W s l
  lt : G < B
  sz : B ≤ W.heap.size
theorem GB.below {G B : Nat} {R N : Int} {s : Value} {l : List E} {W W' : World} (h : GB G B R N s l W) (k : Below W.heap.size W W') : GB G B R N s l W' :=
  ⟨(k.block _ (lt_block h.box)).trans h.box, row_below h.own k, h.lt, Nat.le_trans h.sz k.size⟩
theorem GB.drewN {G B : Nat} {R N : Int} {s : Value} {l : List E} {W : World} (h : GB G B R N s l W) (n : Nat) : GB G B R N s l (W.drewN n) := h.below (below_drewN (Below.refl _ _) n)
theorem GB.slice {G B : Nat} {R N : Int} {s : Value} {l : List E} {W : World} (h : GB G B R N s l W) : ∃ ad cap, s = .slice ad l.length cap := rd3_slice (rd3_own h.own)
/-- another row is put in the box -/
theorem GB.store {G B : Nat} {R N : Int} {s s' : Value} {l l' : List E} {W W' : World} (h : GB G B R N s l W) (ho : OwnL B W' s' l') (hg : W.grownBy W' s.ownBlock) : GB G B R N s' l' (W'.setCell ⟨G, 2, none⟩ s') := by
  have hlt := h.lt
  have hbox : W'.heap[G]? = some (.cells #[.int .i64 R, .int .i64 N, s] 24 (0, 0)) := (hg.block G (lt_block h.box) (fun e => by have := (row_lt h.own e.symm).1; omega)).trans h.box
  refine ⟨by rw [heap_set_eq hbox]; rfl, row_congr ho (fun g hgg => heap_set_ne (by have := (row_lt ho hgg).1; omega)), hlt, by have := h.sz; have := hg.size; simp; omega⟩
theorem GB.chg {G B : Nat} {R N : Int} {s : Value} {l : List E} {W W' : World} (h : GB G B R N s l W) (hg : W.grownBy W' s.ownBlock) : Chg G B W W' :=
  ⟨hg.os, hg.tape, hg.output, hg.size, fun k hk hn => hg.block k (by have := h.sz; omega) (fun e => by have := (row_lt h.own e.symm).1; omega)⟩
def stL (R N : Int) (l : List E) (c : E) : List E := if ape R N l c = 0 then nxt l c else l
theorem remove_any (G B : Nat) (R N : Int) (c : E) (s : Value) (l : List E) (W : World) (hv : Valid R N l) (h : GB G B R N s l W) (hc : c.2.2 < 0) :
    Calls Try.prog 61 #[.pointer (some ⟨G, 0, none⟩), .int .i64 c.1, .int .i64 c.2.1] W fun e W' => ∃ s', e = .returned (.int .i64 (ape R N l c)) ∧ GB G B R N s' (stL R N l c) W' ∧ Chg G B W W' := by
  have HN : Hid (∀ s x W, Calls Try.prog 70 #[.agg #[.int .i64 R, .int .i64 N, s], .int .i64 x] W fun e w' => e = .returned (.bool (isN R N x)) ∧ Below W.heap.size W w') := fun s x W => isNode_any R N s x W hv.r hv.n hv.s
  have HFD : Hid (∀ s W, Rd3 W s l → Calls Try.prog 72 #[s, .int .i64 c.1, .int .i64 c.2.1] W fun e w' => ∃ i : Nat, e = .returned (.tuple #[.int .i64 (i : Int), .bool (hit (c.1, c.2.1, 0) l i)]) ∧ BsE (c.1, c.2.1, 0) l i i ∧ Below W.heap.size W w') := fun s W hr => find_any l s c.1 c.2.1 W (by have := hv.len; omega) hv.asc hr
  have HA := Lib.hid hv.asc
  have hL := hv.len
  obtain ⟨ad, cap, rfl⟩ := h.slice
  have HG := Lib.hid h
  have g0 : W.cell? ⟨G, 0, none⟩ = some (.int .i64 R) := cell_of h.box rfl
  have g1 : W.cell? ⟨G, 1, none⟩ = some (.int .i64 N) := cell_of h.box rfl
  have g2 : W.cell? ⟨G, 2, none⟩ = some (.slice ad l.length cap) := cell_of h.box rfl
  cases ha : isN R N c.1
  · have HQ : Hid (ape R N l c = 5 ∧ stL R N l c = l) := by
      have e : ape R N l c = 5 := by unfold ape; rw [if_neg (by rw [ha]; simp)]
      exact ⟨e, by unfold stL; rw [e, if_neg (by decide)]⟩
    have HN1 : Hid (∀ s W, Calls Try.prog 70 #[.agg #[.int .i64 R, .int .i64 N, s], .int .i64 c.1] W fun e w' => e = .returned (.bool false) ∧ Below W.heap.size W w') := fun s W => by rw [← ha]; exact HN.out s c.1 W
    obtain ⟨a, b, z⟩ := c
    dsimp only at HN1 ⊢
    clear hv h ha hc hL HFD
    go_enter Try.func61, Try.ntmps61
    go_wp2_with (go_at_call 70; refine (HN1.out _ _).mono ?_; rintro e w2 ⟨rfl, hb⟩; have HB := Lib.hid hb; clear hb)
    go_ret
    exact ⟨_, by rw [HQ.out.1]; rfl, by rw [HQ.out.2]; exact HG.out.below HB.out, (Chg.refl _ _ _).below HB.out HG.out.sz⟩
  · have HN1 : Hid (∀ s W, Calls Try.prog 70 #[.agg #[.int .i64 R, .int .i64 N, s], .int .i64 c.1] W fun e w' => e = .returned (.bool true) ∧ Below W.heap.size W w') := fun s W => by rw [← ha]; exact HN.out s c.1 W
    cases hb : isN R N c.2.1
    · have HQ : Hid (ape R N l c = 5 ∧ stL R N l c = l) := by
        have e : ape R N l c = 5 := by unfold ape; rw [if_neg (by rw [hb]; simp)]
        exact ⟨e, by unfold stL; rw [e, if_neg (by decide)]⟩
      have HN2 : Hid (∀ s W, Calls Try.prog 70 #[.agg #[.int .i64 R, .int .i64 N, s], .int .i64 c.2.1] W fun e w' => e = .returned (.bool false) ∧ Below W.heap.size W w') := fun s W => by rw [← hb]; exact HN.out s c.2.1 W
      obtain ⟨a, b, z⟩ := c
      dsimp only at HN1 HN2 ⊢
      clear hv h ha hb hc hL HFD
      go_enter Try.func61, Try.ntmps61
      go_wp2_with fail
      go_at_call 70
      refine (HN1.out _ _).mono ?_
      rintro e w2 ⟨rfl, hb⟩
      have HB := Lib.hid hb
      have g0' := carry hb g0
      have g1' := carry hb g1
      have g2' := carry hb g2
      clear hb g0 g1 g2
      go_wp2_with fail
      go_at_call 70
      refine (HN2.out _ _).mono ?_
      rintro e w3 ⟨rfl, hb⟩
      have HB3 := Lib.hid hb
      clear hb
      go_wp2
      go_ret
      exact ⟨_, by rw [HQ.out.1]; rfl, by rw [HQ.out.2]; exact (HG.out.below HB.out).below HB3.out, ((Chg.refl _ _ _).below HB.out HG.out.sz).below HB3.out (HG.out.below HB.out).sz⟩
    · have HN2 : Hid (∀ s W, Calls Try.prog 70 #[.agg #[.int .i64 R, .int .i64 N, s], .int .i64 c.2.1] W fun e w' => e = .returned (.bool true) ∧ Below W.heap.size W w') := fun s W => by rw [← hb]; exact HN.out s c.2.1 W
      have HQ : Hid (ape R N l c = if has l c = true then 0 else 6) := by show _ = _; unfold ape; rw [if_pos ⟨ha, hb⟩, if_pos hc]
      have HC := Lib.hid hc
      obtain ⟨a, b, z⟩ := c
      dsimp only at HN1 HN2 HFD ⊢
      clear hv h ha hb hc
      go_enter Try.func61, Try.ntmps61
      go_wp2_with fail
      go_at_call 70
      refine (HN1.out _ _).mono ?_
      rintro e w2 ⟨rfl, hb⟩
      have HB := Lib.hid hb
      have g0' := carry hb g0
      have g1' := carry hb g1
      have g2' := carry hb g2
      clear hb g0 g1 g2
      go_wp2_with fail
      go_at_call 70
      refine (HN2.out _ _).mono ?_
      rintro e w3 ⟨rfl, hb⟩
      have HG3 : Hid (GB G B R N (.slice ad l.length cap) l w3 ∧ Chg G B W w3) := ⟨(HG.out.below HB.out).below hb, ((Chg.refl _ _ _).below HB.out HG.out.sz).below hb (HG.out.below HB.out).sz⟩
      have g2 := carry hb g2'
      clear hb g0' g1' g2'
      go_wp2_with fail
      go_at_call 72
      refine (HFD.out _ _ (rd3_own HG3.out.1.own)).mono ?_
      rintro e w4 ⟨i, rfl, hbs, hb⟩
      have HG4 : Hid (GB G B R N (.slice ad l.length cap) l w4 ∧ Chg G B W w4) := ⟨HG3.out.1.below hb, HG3.out.2.below hb HG3.out.1.sz⟩
      have g2' := carry hb g2
      have HBS := Lib.hid hbs
      clear hb hbs g2
      cases hh : hit (a, b, 0) l i
      · have HQ2 : Hid (ape R N l (a, b, z) = 6 ∧ stL R N l (a, b, z) = l) := by
          have e : ape R N l (a, b, z) = 6 := by rw [HQ.out, has_no.2 (hit_no HA.out HBS.out hh)]; rfl
          exact ⟨e, by unfold stL; rw [e, if_neg (by decide)]⟩
        clear hh hL
        go_wp2
        go_ret
        exact ⟨_, by rw [HQ2.out.1]; rfl, by rw [HQ2.out.2]; exact HG4.out.1, HG4.out.2⟩
      · obtain ⟨e, he, hs⟩ := hit_yes hh
        have HQ2 : Hid (ape R N l (a, b, z) = 0 ∧ stL R N l (a, b, z) = delE l i) := by
          have e1 : ape R N l (a, b, z) = 0 := by rw [HQ.out, has_iff.2 ⟨e, List.mem_of_getElem? he, hs⟩]; rfl
          exact ⟨e1, by unfold stL nxt; rw [e1, if_pos rfl, if_pos HC.out]; exact (del_wo HA.out he hs).symm⟩
        have hil : i < l.length := (List.getElem?_eq_some_iff.1 he).1
        obtain ⟨g, cap3, hv3, hgb, _⟩ := World.ownsRow.form HG4.out.1.own (by omega)
        injection hv3 with e1 e2 e3
        subst e1
        subst e3
        have HDL : Hid (Calls Try.prog 91 #[.slice (some ⟨g, 0, none⟩) l.length cap, .int .i64 (i : Int), .int .i64 ((i : Int) + 1)] w4 fun e w' => ∃ v', e = .returned v' ∧ OwnL B w' v' (delE l i) ∧ w4.grownBy w' (some g)) := del_any B g cap i l w4 HG4.out.1.own hil hL
        clear hh he hs e2
        go_wp2_with fail
        go_at_call 91
        refine HDL.out.mono ?_
        rintro e w5 ⟨s5, rfl, hown, hgr⟩
        obtain ⟨ad5, cap5, rfl⟩ := rd3_slice (rd3_own hown)
        have hbox5 : w5.heap[G]? = some (.cells #[.int .i64 R, .int .i64 N, .slice (some ⟨g, 0, none⟩) l.length cap] 24 (0, 0)) := (hgr.block G (lt_block HG4.out.1.box) (fun e => by cases e; have := HG4.out.1.lt; omega)).trans HG4.out.1.box
        have q2 : w5.cell? ⟨G, 2, none⟩ = some (.slice (some ⟨g, 0, none⟩) l.length cap) := cell_of hbox5 rfl
        have y2 : w5.frozen? ⟨G, 2, none⟩ = false := free_of hbox5 _
        have HEND : Hid (GB G B R N (.slice ad5 (delE l i).length cap5) (delE l i) (w5.setCell ⟨G, 2, none⟩ (.slice ad5 (delE l i).length cap5)) ∧ Chg G B W (w5.setCell ⟨G, 2, none⟩ (.slice ad5 (delE l i).length cap5))) :=
          ⟨HG4.out.1.store hown hgr, (HG4.out.2.grown hgr HG4.out.1.sz hgb).set⟩
        clear hown hgr hbox5 hL hgb
        go_wp2
        go_ret
        exact ⟨_, by rw [HQ2.out.1]; rfl, by rw [HQ2.out.2]; exact HEND.out.1, HEND.out.2⟩
theorem flatE_set3 : ∀ (o : List E) (k : Nat) (x : E), k < o.length → flatE (o.set k x) = (((flatE o).set (k * 3) (.int .i64 x.1)).set (k * 3 + 1) (.int .i64 x.2.1)).set (k * 3 + 2) (.int .i64 x.2.2)
  | [], k, x, h => by simp at h
  | y :: r, 0, x, h => by simp [flatE, encE]
  | y :: r, k + 1, x, h => by
    have ih := flatE_set3 r k x (by simpa using h)
    have e1 : flatE (y :: r) = .int .i64 y.1 :: .int .i64 y.2.1 :: .int .i64 y.2.2 :: flatE r := by simp [flatE, encE]
    have e2 : flatE ((y :: r).set (k + 1) x) = .int .i64 y.1 :: .int .i64 y.2.1 :: .int .i64 y.2.2 :: flatE (r.set k x) := by simp [flatE, encE]
    rw [e1, e2, ih, show (k + 1) * 3 + 2 = (k * 3 + 2) + 1 + 1 + 1 by omega, show (k + 1) * 3 + 1 = (k * 3 + 1) + 1 + 1 + 1 by omega, show (k + 1) * 3 = (k * 3) + 1 + 1 + 1 by omega]
    simp
theorem own_set3 {B g cap k : Nat} {W : World} {l : List E} (x : E) (h : OwnL B W (.slice (some ⟨g, 0, none⟩) l.length cap) l) (hk : k < l.length) :
    OwnL B (((W.setCell ⟨g, k * 3, none⟩ (.int .i64 x.1)).setCell ⟨g, k * 3 + 1, none⟩ (.int .i64 x.2.1)).setCell ⟨g, k * 3 + 2, none⟩ (.int .i64 x.2.2)) (.slice (some ⟨g, 0, none⟩) l.length cap) (l.set k x) := by
  have h1 := (h.stored (k * 3) (.int .i64 x.1)).1
  have h2 := (h1.stored (k * 3 + 1) (.int .i64 x.2.1)).1
  have h3 := (h2.stored (k * 3 + 2) (.int .i64 x.2.2)).1
  unfold OwnL
  rw [flatE_set3 l k x hk, List.length_set]
  exact h3
theorem ape_alw {R N : Int} {l : List E} {c : E} (hc : ¬ c.2.2 < 0) (ha : alw R N c ≠ 0) : ape R N l c = alw R N c := by
  unfold ape
  by_cases h : isN R N c.1 = true ∧ isN R N c.2.1 = true
  · rw [if_pos h, if_neg hc, if_pos ha]
  · rw [if_neg h]; unfold alw; rw [if_neg h]
theorem ape_ok {R N : Int} {l : List E} {c : E} (hc : ¬ c.2.2 < 0) (ha : alw R N c = 0) : ape R N l c = if has l c = false ∧ 1024 ≤ l.length then 4 else 0 := by
  have h1 := alw_cases.1 ha
  unfold ape isN
  rw [if_pos ⟨decide_eq_true h1.1, decide_eq_true h1.2.1⟩, if_neg hc, if_neg (by simpa using ha)]
theorem set_any (G B : Nat) (R N : Int) (c : E) (s : Value) (l : List E) (W : World) (hv : Valid R N l) (h : GB G B R N s l W) (hc : ¬ c.2.2 < 0) :
    Calls Try.prog 62 #[.pointer (some ⟨G, 0, none⟩), .agg #[.int .i64 c.1, .int .i64 c.2.1, .int .i64 c.2.2]] W fun e W' => ∃ s', e = .returned (.int .i64 (ape R N l c)) ∧ GB G B R N s' (stL R N l c) W' ∧ Chg G B W W' := by
  have HAL : Hid (∀ s W, Calls Try.prog 50 #[.agg #[.int .i64 R, .int .i64 N, s], .agg #[.int .i64 c.1, .int .i64 c.2.1, .int .i64 c.2.2]] W fun en w' => en = .returned (.int .i64 (alw R N c)) ∧ Below W.heap.size W w') := fun s W => allowed_any R N s c W hv.r hv.n hv.s
  have HFD : Hid (∀ s W, Rd3 W s l → Calls Try.prog 72 #[s, .int .i64 c.1, .int .i64 c.2.1] W fun e w' => ∃ i : Nat, e = .returned (.tuple #[.int .i64 (i : Int), .bool (hit (c.1, c.2.1, 0) l i)]) ∧ BsE (c.1, c.2.1, 0) l i i ∧ Below W.heap.size W w') := fun s W hr => find_any l s c.1 c.2.1 W (by have := hv.len; omega) hv.asc hr
  have HA := Lib.hid hv.asc
  have hL := hv.len
  have HC := Lib.hid hc
  obtain ⟨ad, cap, rfl⟩ := h.slice
  have HB0 : Hid (Below W.heap.size W (W.alloc (.cells #[.int .i64 c.1, .int .i64 c.2.1, .int .i64 c.2.2] 52))) := below_alloc _ _
  have HG : Hid (GB G B R N (.slice ad l.length cap) l (W.alloc (.cells #[.int .i64 c.1, .int .i64 c.2.1, .int .i64 c.2.2] 52)) ∧ Chg G B W (W.alloc (.cells #[.int .i64 c.1, .int .i64 c.2.1, .int .i64 c.2.2] 52)) ∧ (W.alloc (.cells #[.int .i64 c.1, .int .i64 c.2.1, .int .i64 c.2.2] 52)).heap[W.heap.size]? = some (.cells #[.int .i64 c.1, .int .i64 c.2.1, .int .i64 c.2.2] 52 (0, 0))) :=
    ⟨h.below HB0.out, (Chg.refl _ _ _).below HB0.out h.sz, heap_alloc_new _ _⟩
  have HGW : Hid (G < W.heap.size) := lt_block h.box
  by_cases ha : alw R N c = 0
  · rw [ha] at HAL
    have HQ := Lib.hid (ape_ok (l := l) hc ha)
    obtain ⟨a, b, z⟩ := c
    dsimp only at HAL HFD HG HB0 ⊢
    clear hv h hc ha
    go_enter Try.func62, Try.ntmps62
    go_wp2_with fail
    generalize W.alloc (.cells #[.int .i64 a, .int .i64 b, .int .i64 z] 52) = W1 at *
    have g0 : W1.cell? ⟨G, 0, none⟩ = some (.int .i64 R) := cell_of HG.out.1.box rfl
    have g1 : W1.cell? ⟨G, 1, none⟩ = some (.int .i64 N) := cell_of HG.out.1.box rfl
    have g2 : W1.cell? ⟨G, 2, none⟩ = some (.slice ad l.length cap) := cell_of HG.out.1.box rfl
    have e0 : W1.cell? ⟨W.heap.size, 0, none⟩ = some (.int .i64 a) := cell_of HG.out.2.2 rfl
    have e1 : W1.cell? ⟨W.heap.size, 1, none⟩ = some (.int .i64 b) := cell_of HG.out.2.2 rfl
    have e2 : W1.cell? ⟨W.heap.size, 2, none⟩ = some (.int .i64 z) := cell_of HG.out.2.2 rfl
    go_region_held3 (fun w' => w'.cell? ⟨G, 0, none⟩ = some (.int .i64 R) ∧ w'.cell? ⟨G, 1, none⟩ = some (.int .i64 N) ∧ w'.cell? ⟨G, 2, none⟩ = some (.slice ad l.length cap) ∧ w'.cell? ⟨W.heap.size, 0, none⟩ = some (.int .i64 a) ∧ w'.cell? ⟨W.heap.size, 1, none⟩ = some (.int .i64 b) ∧ w'.cell? ⟨W.heap.size, 2, none⟩ = some (.int .i64 z))
      (first | exact ⟨g0, g1, g2, e0, e1, e2⟩ | assumption)
      (first | (go_at_call 50; refine (HAL.out _ _).mono ?_; rintro en w2 ⟨rfl, hb⟩; have HB2 : Hid (Below W1.heap.size W1 w2) := ⟨hb.os, hb.tape, hb.output, hb.size, hb.block⟩; have hk := (And.intro (carry HB2.out g0) (And.intro (carry HB2.out g1) (And.intro (carry HB2.out g2) (And.intro (carry HB2.out e0) (And.intro (carry HB2.out e1) (carry HB2.out e2)))))); clear hb))
    all_goals (
      have HG2 : Hid (GB G B R N (.slice ad l.length cap) l w2 ∧ Chg G B W w2 ∧ w2.heap[W.heap.size]? = some (.cells #[.int .i64 a, .int .i64 b, .int .i64 z] 52 (0, 0))) := ⟨HG.out.1.below HB2.out, HG.out.2.1.below HB2.out HG.out.1.sz, (HB2.out.block _ (lt_block HG.out.2.2)).trans HG.out.2.2⟩
      obtain ⟨q0, q1, q2, r0, r1, r2⟩ := hk
      clear g0 g1 g2 e0 e1 e2
      go_wp2_with fail
      go_region_held3 (fun w' => w'.cell? ⟨G, 2, none⟩ = some (.slice ad l.length cap) ∧ w'.cell? ⟨W.heap.size, 0, none⟩ = some (.int .i64 a) ∧ w'.cell? ⟨W.heap.size, 1, none⟩ = some (.int .i64 b))
        (first | exact ⟨q2, r0, r1⟩ | assumption)
        (first | (go_at_call 72; refine (HFD.out _ _ (Rd3.below (rd3_own HG2.out.1.own) (Below.refl _ w2).drew)).mono ?_; rintro en w3 ⟨i, rfl, hbs, hb⟩; have HB3 : Hid (Below w2.heap.size w2 w3) := ⟨hb.os, hb.tape, hb.output, hb.size, hb.block⟩; have HBS := Lib.hid hbs; have hk := (And.intro (carry HB3.out q2) (And.intro (carry HB3.out r0) (carry HB3.out r1))); clear hb hbs)))
    all_goals (
      have HG3 : Hid (GB G B R N (.slice ad l.length cap) l w3 ∧ Chg G B W w3 ∧ w3.heap[W.heap.size]? = some (.cells #[.int .i64 a, .int .i64 b, .int .i64 z] 52 (0, 0))) := ⟨HG2.out.1.below HB3.out, HG2.out.2.1.below HB3.out HG2.out.1.sz, (HB3.out.block _ (lt_block HG2.out.2.2)).trans HG2.out.2.2⟩
      have g2 : w3.cell? ⟨G, 2, none⟩ = some (.slice ad l.length cap) := cell_of HG3.out.1.box rfl
      have e0 : w3.cell? ⟨W.heap.size, 0, none⟩ = some (.int .i64 a) := cell_of HG3.out.2.2 rfl
      have e1 : w3.cell? ⟨W.heap.size, 1, none⟩ = some (.int .i64 b) := cell_of HG3.out.2.2 rfl
      have e2 : w3.cell? ⟨W.heap.size, 2, none⟩ = some (.int .i64 z) := cell_of HG3.out.2.2 rfl
      clear hk q0 q1 q2 r0 r1 r2
      cases hh : hit (a, b, 0) l i)
    · have hno := hit_no HA.out HBS.out hh
      by_cases hful : 1024 ≤ l.length
      · have HQ2 : Hid (ape R N l (a, b, z) = 4 ∧ stL R N l (a, b, z) = l) := by
          have e : ape R N l (a, b, z) = 4 := by rw [HQ.out, if_pos ⟨has_no.2 hno, hful⟩]
          exact ⟨e, by unfold stL; rw [e, if_neg (by decide)]⟩
        have hf2 : (1024 : Int) ≤ (l.length : Int) := by omega
        clear hh hno
        go_wp2
        go_ret
        exact ⟨_, by rw [HQ2.out.1]; rfl, by rw [HQ2.out.2]; exact HG3.out.1, HG3.out.2.1⟩
      · have HQ2 : Hid (ape R N l (a, b, z) = 0 ∧ stL R N l (a, b, z) = insE l i (a, b, z)) := by
          have e : ape R N l (a, b, z) = 0 := by rw [HQ.out, if_neg (fun h => hful h.2)]
          exact ⟨e, by unfold stL; rw [e, if_pos rfl]; exact (ins_nxt HA.out HBS.out hno (show ¬ z < 0 by have := HC.out; omega)).symm⟩
        have hf2 : decide ((1024 : Int) ≤ (l.length : Int)) = false := decide_eq_false (by omega)
        have hil : i ≤ l.length := HBS.out.2.1
        have HINS : Hid (∀ W5, Below w3.heap.size w3 W5 → W5.heap[w3.heap.size]? = some (.cells #[.int .i64 a, .int .i64 b, .int .i64 z] 52 (0, 0)) → Calls Try.prog 92 #[.slice ad l.length cap, .int .i64 (i : Int), .slice (some ⟨w3.heap.size, 0, none⟩) 1 1] W5 fun e w' => ∃ ad5 cap5, e = .returned (.slice ad5 (insE l i (a, b, z)).length cap5) ∧
            w'.cell? ⟨G, 2, none⟩ = some (.slice ad l.length cap) ∧ w'.frozen? ⟨G, 2, none⟩ = false ∧ Hid (GB G B R N (.slice ad5 (insE l i (a, b, z)).length cap5) (insE l i (a, b, z)) (w'.setCell ⟨G, 2, none⟩ (.slice ad5 (insE l i (a, b, z)).length cap5)) ∧ Chg G B W (w'.setCell ⟨G, 2, none⟩ (.slice ad5 (insE l i (a, b, z)).length cap5)))) := fun W5 hb hx => by
          have hg4 := HG3.out.1.below hb
          refine (insert_any B i _ l (a, b, z) w3.heap.size W5 hg4.own hil hL hg4.sz (fun e => by have := (row_lt HG3.out.1.own e).2; omega) hx).mono ?_
          rintro e w5 ⟨s5, rfl, hown, hgr⟩
          obtain ⟨ad5, cap5, rfl⟩ := rd3_slice (rd3_own hown)
          have hbox := (hgr.block G (lt_block hg4.box) (fun e => by have := (row_lt hg4.own e.symm).1; have := hg4.lt; omega)).trans hg4.box
          have hch : Chg G B W W5 := HG3.out.2.1.below hb HG3.out.1.sz
          have hc2 := hg4.chg hgr
          exact ⟨ad5, cap5, rfl, cell_of hbox rfl, free_of hbox _, hg4.store hown hgr, (⟨hc2.os.trans hch.os, hc2.tape.trans hch.tape, hc2.output.trans hch.output, Nat.le_trans hch.size hc2.size, fun k hk hn => (hc2.block k hk hn).trans (hch.block k hk hn)⟩ : Chg G B W w5).set⟩
        have g2a : ∀ o, (w3.alloc o).cell? ⟨G, 2, none⟩ = some (.slice ad l.length cap) := fun o => Lib.cell?_alloc_some _ g2
        clear hh hno hful
        go_wp2_with fail
        go_region_with (go_at_call 92; refine (HINS.out _ (by first | exact (below_alloc _ _).drew | exact below_alloc _ _ | exact (Below.refl _ w3).drew.alloc (Nat.le_refl _) _) (by first | exact heap_alloc_new _ _ | exact heap_alloc_new w3.drew _)).mono ?_; rintro en w5 ⟨ad5, cap5, rfl, x2, y2, HG5⟩)
        all_goals go_wp2
        all_goals go_ret
        all_goals exact ⟨_, by rw [HQ2.out.1]; rfl, by rw [HQ2.out.2]; exact HG5.out.1, HG5.out.2⟩
    · obtain ⟨f, hf, hs⟩ := hit_yes hh
      have HQ2 : Hid (ape R N l (a, b, z) = 0 ∧ stL R N l (a, b, z) = l.set i (a, b, z)) := by
        have e : ape R N l (a, b, z) = 0 := by rw [HQ.out, if_neg (fun h => by have := (has_iff (c := (a, b, z))).2 ⟨f, List.mem_of_getElem? hf, hs⟩; rw [this] at h; cases h.1)]
        exact ⟨e, by unfold stL; rw [e, if_pos rfl]; exact (set_nxt HA.out hf hs (show ¬ z < 0 by have := HC.out; omega)).symm⟩
      have hil : i < l.length := (List.getElem?_eq_some_iff.1 hf).1
      obtain ⟨g, cap3, hv3, hgb, _⟩ := World.ownsRow.form HG3.out.1.own (by omega)
      injection hv3 with x1 x2 x3
      subst x1
      subst x3
      have c0 := HG3.out.1.own.cellAt (i * 3) (by omega)
      have c1 := HG3.out.1.own.cellAt (i * 3 + 1) (by omega)
      have c2 := HG3.out.1.own.cellAt (i * 3 + 2) (by omega)
      rw [(flatE_get l i f hf).1] at c0
      rw [(flatE_get l i f hf).2.1] at c1
      rw [(flatE_get l i f hf).2.2] at c2
      have y0 := HG3.out.1.own.frozenAt (i * 3)
      have y1 := HG3.out.1.own.frozenAt (i * 3 + 1)
      have y2 := HG3.out.1.own.frozenAt (i * 3 + 2)
      have i0 : (0 : Int) ≤ (i : Int) := by omega
      have i1 : (i : Int) < (l.length : Int) := by omega
      have HEND : Hid (∀ q, GB G B R N (.slice (some ⟨g, 0, none⟩) l.length cap) (l.set i (a, b, z)) ((((w3.drewN q).setCell ⟨g, i * 3, none⟩ (.int .i64 a)).setCell ⟨g, i * 3 + 1, none⟩ (.int .i64 b)).setCell ⟨g, i * 3 + 2, none⟩ (.int .i64 z)) ∧ Chg G B W ((((w3.drewN q).setCell ⟨g, i * 3, none⟩ (.int .i64 a)).setCell ⟨g, i * 3 + 1, none⟩ (.int .i64 b)).setCell ⟨g, i * 3 + 2, none⟩ (.int .i64 z))) := fun q => by
        have hq := HG3.out.1.drewN q
        have hgl := hq.lt
        refine ⟨⟨?_, own_set3 (a, b, z) hq.own hil, hgl, by have := hq.sz; simp at this ⊢; omega⟩, (((HG3.out.2.1.drewN q).set' hgb).set' hgb).set' hgb⟩
        rw [heap_set_ne (by omega), heap_set_ne (by omega), heap_set_ne (by omega)]; exact hq.box
      clear hh hf hs hL hgb x2
      go_wp2_with fail
      go_region
      all_goals go_wp2
      all_goals go_ret
      all_goals exact ⟨_, by rw [HQ2.out.1]; rfl, by rw [HQ2.out.2]; exact (HEND.out _).1, (HEND.out _).2⟩
  · have HQ : Hid (ape R N l c = alw R N c ∧ stL R N l c = l) := by
      have e := ape_alw (l := l) hc ha
      exact ⟨e, by unfold stL; rw [e, if_neg ha]⟩
    obtain ⟨a, b, z⟩ := c
    dsimp only at HAL HG HB0 ⊢
    generalize alw R N (a, b, z) = q at *
    have hq1 : (q == 0) = false := by simpa using ha
    have hq2 : (q != 0) = true := by simpa using ha
    clear hv h hc ha HFD
    go_enter Try.func62, Try.ntmps62
    go_wp2_with fail
    generalize W.alloc (.cells #[.int .i64 a, .int .i64 b, .int .i64 z] 52) = W1 at *
    have g0 : W1.cell? ⟨G, 0, none⟩ = some (.int .i64 R) := cell_of HG.out.1.box rfl
    have g1 : W1.cell? ⟨G, 1, none⟩ = some (.int .i64 N) := cell_of HG.out.1.box rfl
    have g2 : W1.cell? ⟨G, 2, none⟩ = some (.slice ad l.length cap) := cell_of HG.out.1.box rfl
    have e0 : W1.cell? ⟨W.heap.size, 0, none⟩ = some (.int .i64 a) := cell_of HG.out.2.2 rfl
    have e1 : W1.cell? ⟨W.heap.size, 1, none⟩ = some (.int .i64 b) := cell_of HG.out.2.2 rfl
    have e2 : W1.cell? ⟨W.heap.size, 2, none⟩ = some (.int .i64 z) := cell_of HG.out.2.2 rfl
    go_region_held3 (fun w' => w'.cell? ⟨G, 0, none⟩ = some (.int .i64 R) ∧ w'.cell? ⟨G, 1, none⟩ = some (.int .i64 N) ∧ w'.cell? ⟨G, 2, none⟩ = some (.slice ad l.length cap) ∧ w'.cell? ⟨W.heap.size, 0, none⟩ = some (.int .i64 a) ∧ w'.cell? ⟨W.heap.size, 1, none⟩ = some (.int .i64 b) ∧ w'.cell? ⟨W.heap.size, 2, none⟩ = some (.int .i64 z))
      (first | exact ⟨g0, g1, g2, e0, e1, e2⟩ | assumption)
      (first | (go_at_call 50; refine (HAL.out _ _).mono ?_; rintro en w2 ⟨rfl, hb⟩; have HB2 : Hid (Below W1.heap.size W1 w2) := ⟨hb.os, hb.tape, hb.output, hb.size, hb.block⟩; have hk := (And.intro (carry HB2.out g0) (And.intro (carry HB2.out g1) (And.intro (carry HB2.out g2) (And.intro (carry HB2.out e0) (And.intro (carry HB2.out e1) (carry HB2.out e2)))))); clear hb))
    all_goals go_wp2
    all_goals go_ret
    all_goals exact ⟨_, by rw [HQ.out.1]; rfl, by rw [HQ.out.2]; exact HG.out.1.below HB2.out, HG.out.2.1.below HB2.out HG.out.1.sz⟩
end Go.Proofs.Ytiodpgannelgpaa
