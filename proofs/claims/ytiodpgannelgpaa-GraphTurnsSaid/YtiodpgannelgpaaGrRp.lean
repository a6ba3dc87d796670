/-
  The walks of the reference's but and Apply.
-/
import Derived.Test.YtiodpgannelgpaaGrAp
namespace Go.Proofs.Ytiodpgannelgpaa
open Go.RowKit GM Go.Sort
set_option linter.unusedSimpArgs false
set_option linter.unusedVariables false
set_option maxHeartbeats 4000000
set_option maxRecDepth 100000
namespace GM
/-- of the first i edges those that do not stand at place p -/
def skp (l : List E) (p : Int) : Nat → List E
  | 0 => []
  | i + 1 => if (i : Int) = p then skp l p i else skp l p i ++ l[i]?.toList
theorem skp_len (l : List E) (p : Int) : ∀ i, (skp l p i).length ≤ i
  | 0 => Nat.le_refl _
  | i + 1 => by
    have ih := skp_len l p i
    unfold skp
    split
    · omega
    · rw [List.length_append]
      have : (l[i]?.toList).length ≤ 1 := by cases l[i]? <;> simp
      omega
theorem skp_all {l : List E} {p : Int} : ∀ i, (∀ j : Nat, j < i → (j : Int) ≠ p) → skp l p i = l.take i
  | 0, _ => by simp [skp]
  | i + 1, h => by
    unfold skp
    rw [if_neg (h i (by omega)), skp_all i (fun j hj => h j (by omega)), List.take_add_one]
theorem skp_del {l : List E} {k : Nat} : ∀ i, k < i → skp l (k : Int) i = l.take k ++ (l.take i).drop (k + 1)
  | 0, h => by omega
  | i + 1, h => by
    unfold skp
    rcases (by omega : k = i ∨ k < i) with h1 | h1
    · subst h1
      rw [if_pos rfl, skp_all k (fun j hj => by omega), List.drop_eq_nil_of_le (by rw [List.length_take]; omega), List.append_nil]
    · rw [if_neg (by omega), skp_del i h1, List.append_assoc]
      congr 1
      rw [List.take_add_one]
      rcases Nat.lt_or_ge i l.length with h2 | h2
      · rw [List.drop_append_of_le_length (by rw [List.length_take]; omega)]
      · rw [List.getElem?_eq_none h2]; simp
/-- the edges without the one at place p -/
def butL (l : List E) (p : Int) : List E := skp l p l.length
theorem butL_none {l : List E} : butL l (-1) = l := by unfold butL; rw [skp_all _ (fun j _ => by omega), List.take_length]
open Go.Proofs.Ytiodpgannelgpaa in
theorem butL_some {l : List E} {k : Nat} (h : k < l.length) : butL l (k : Int) = delE l k := by unfold butL delE; rw [skp_del _ h, List.take_length]
end GM
theorem but63_any (l : List E) (p : Int) (v : Value) (w : World) (hl : l.length ≤ 5864062014700) (hr : Rd3 w v l) :
    Calls Try.prog 63 #[v, .int .i64 p] w fun e w' => ∃ v', e = .returned v' ∧ OwnL w.heap.size w' v' (butL l p) ∧ Below w.heap.size w w' := by
  obtain ⟨i0, hi, hz0, hz1, hz2⟩ := infoE_parts info52
  obtain ⟨ad, cap, rfl, hcap1, hcap2, hc⟩ := hr
  have HC := Lib.hid hc
  obtain ⟨L, hL⟩ : ∃ L, l.length = L := ⟨_, rfl⟩
  have HBL : Hid (butL l p = skp l p L) := by show _ = _; unfold butL; rw [hL]
  rw [hL] at hcap1 hl ⊢
  have HL := Lib.hid hL
  have HS0 : Hid (OwnL w.heap.size (w.alloc (.cells #[] 52)) (.slice (some ⟨w.heap.size, 0, none⟩) 0 0) [] ∧ Below w.heap.size w (w.alloc (.cells #[] 52))) :=
    ⟨World.ownsRow_made (base := w.heap.size) (e := 52) (size := 3) w #[] 0 (Nat.le_refl _) (Nat.zero_le _) (by simp), below_alloc _ _⟩
  have HSL := Lib.hid (skp_len l p)
  clear hc hL
  go_enter Try.func63, Try.ntmps63
  go_wp2_with fail
  go_loopg [5, 6] L (fun g s5 s6 wr => ∃ (k : Nat) (v : Value) (o : List E), k ≤ L ∧ L - k ≤ g ∧ v = s5 ∧ s6 = .int .i64 (k : Int) ∧ Hid (o = skp l p k) ∧ Hid (OwnL w.heap.size wr v o ∧ Below w.heap.size w wr))
  case atStart => exact ⟨0, _, [], by omega, by omega, rfl, rfl, rfl, HS0⟩
  case round =>
    clear HS0
    obtain ⟨k, v, o, hk, hg, rfl, rfl, HI, HS⟩ := hrel
    have hol : o.length ≤ k := by rw [HI.out]; exact HSL.out k
    by_cases hlt : k < L
    · obtain ⟨y, hy⟩ : ∃ y, l[k]? = some y := ⟨_, List.getElem?_eq_getElem (by have := HL.out; omega)⟩
      obtain ⟨bl, off, rfl, hbl, c0, c1, c2⟩ := HC.out k y hy
      have f0 := carryB HS.out.2 hbl c0
      have f1 := carryB HS.out.2 hbl c1
      have f2 := carryB HS.out.2 hbl c2
      have k1 : (k : Int) < (L : Int) := by omega
      by_cases hkp : (k : Int) = p
      · have HI2 : Hid (o = skp l p (k + 1)) := by show _ = _; unfold skp; rw [if_pos hkp]; exact HI.out
        subst hkp
        clear c0 c1 c2 hy hbl
        go_wp2_with fail
        go_roundg (L - (k + 1))
        case measure => omega
        case rel => exact ⟨k + 1, _, o, by omega, Nat.le_refl _, rfl, by go_num, HI2, HS⟩
      · have HI2 : Hid (o ++ [y] = skp l p (k + 1)) := by show _ = _; unfold skp; rw [if_neg hkp, hy, HI.out]; rfl
        have e1 : ((k : Int) == p) = false := by simpa using hkp
        have e2 : ((k : Int) != p) = true := by simpa using hkp
        obtain ⟨ya, yb, yc⟩ := y
        dsimp only at f0 f1 f2
        clear c0 c1 c2 hy hbl hkp
        go_wp2_with (at_builtin; refine wpList_append_own _ rfl (.tmp 17) (.tmp 22) 22 rfl w.heap.size 52 i0 (.agg #[.int .i64 0, .int .i64 0, .int .i64 0]) 3 24 Try.underlying22 hi hz0 hz1 hz2 rfl (by decide) v o.length (flatE o) rfl (row_below HS.out.1 (below_alloc _ _)) ⟨wr.heap.size, 0, none⟩ 1 1 (encE (ya, yb, yc)) rfl rfl (cellE_new _ _ _ _ _ rfl) (encE_one _) (by unfold maxLen; omega) (by omega) (by have := HS.out.2.size; simp; omega) ?_; intro v1 w4 hown hgrow hnil; have S2 : Hid (OwnL w.heap.size w4 v1 (o ++ [(ya, yb, yc)]) ∧ Below w.heap.size w w4) := ⟨OwnL.push (v := v1) (ya, yb, yc) hown, (HS.out.2.alloc HS.out.2.size _).grown hgrow (by have := HS.out.2.size; simp; omega) (fun k hk => (row_lt HS.out.1 hk).1)⟩; clear hown hgrow hnil)
        go_roundg (L - (k + 1))
        case measure => omega
        case rel => exact ⟨k + 1, _, o ++ [(ya, yb, yc)], by omega, Nat.le_refl _, rfl, by go_num, HI2, S2⟩
    · have k1 : decide ((k : Int) < (L : Int)) = false := decide_eq_false (by omega)
      have HE : Hid (o = butL l p) := by show _ = _; rw [HI.out, HBL.out, show k = L by omega]
      go_wp2
      go_ret
      exact ⟨_, rfl, HE.out ▸ HS.out.1, HS.out.2⟩
/-- in the midst of the reference's Apply -/
structure RAp (w : World) (R N : Int) (s0 v : Value) (l : List E) (H : Nat) (W : World) : Prop where
  b : Below w.heap.size w W
  g : W.heap[w.heap.size]? = some (.cells #[.int .i64 R, .int .i64 N, s0] 24 (0, 0))
  z : W.heap[w.heap.size + 1]? = some (.cells #[.int .i64 0, .int .i64 0, .slice none 0 0] 24 (0, 0))
  hH : w.heap.size + 2 ≤ H
  h : W.heap[H]? = some (.cells #[.int .i64 R, .int .i64 N, v] 24 (0, 0))
  own : OwnL (w.heap.size + 2) W v l
theorem RAp.below {w W W' : World} {R N : Int} {s0 v : Value} {l : List E} {H : Nat} (h : RAp w R N s0 v l H W) (k : Below W.heap.size W W') : RAp w R N s0 v l H W' :=
  ⟨below_then h.b k, (k.block _ (lt_block h.g)).trans h.g, (k.block _ (lt_block h.z)).trans h.z, h.hH, (k.block _ (lt_block h.h)).trans h.h, row_below h.own k⟩
theorem own_box {B H : Nat} {W : World} {v : Value} {l : List E} {cs : Array Value} (ho : OwnL B W v l) (hb : W.heap[H]? = some (.cells cs 24 (0, 0))) : v.ownBlock ≠ some H := by
  rcases ho.2 with ⟨rfl, _⟩ | ⟨g', cap, cur, rfl, _, hg, _⟩
  · simp [Value.ownBlock]
  · intro e
    simp [Value.ownBlock] at e
    subst e
    rw [hg] at hb
    injection hb with hb
    injection hb with _ h2 _
    cases h2
theorem RAp.store {w W : World} {R N : Int} {s0 v v' : Value} {l l' : List E} {H : Nat} (h : RAp w R N s0 v l H W) (ho : OwnL (w.heap.size + 2) W v' l') : RAp w R N s0 v' l' H (W.setCell ⟨H, 2, none⟩ v') := by
  have hh := h.hH
  refine ⟨h.b.setCell (by show _ ≤ H; omega) _, (heap_set_ne (by omega)).trans h.g, (heap_set_ne (by omega)).trans h.z, hh, by rw [heap_set_eq h.h]; rfl, row_congr ho (fun g hg => heap_set_ne (fun e => own_box ho h.h (by rw [hg, e])))⟩
theorem RAp.stored {w W : World} {R N : Int} {s0 v : Value} {l : List E} {H : Nat} (h : RAp w R N s0 v l H W) (u0 u1 u2 : Value) :
    Rd3 (((W.setCell ⟨w.heap.size + 1, 0, none⟩ u0).setCell ⟨w.heap.size + 1, 1, none⟩ u1).setCell ⟨w.heap.size + 1, 2, none⟩ u2) v l ∧ Below w.heap.size w (((W.setCell ⟨w.heap.size + 1, 0, none⟩ u0).setCell ⟨w.heap.size + 1, 1, none⟩ u1).setCell ⟨w.heap.size + 1, 2, none⟩ u2) := by
  have hh : ∀ g : Nat, w.heap.size + 2 ≤ g → (((W.setCell ⟨w.heap.size + 1, 0, none⟩ u0).setCell ⟨w.heap.size + 1, 1, none⟩ u1).setCell ⟨w.heap.size + 1, 2, none⟩ u2).heap[g]? = W.heap[g]? := fun g hg => by
    rw [heap_set_ne (by omega), heap_set_ne (by omega), heap_set_ne (by omega)]
  exact ⟨rd3_own (row_congr h.own (fun g hg => hh g (row_lt h.own hg).1)), ((h.b.setCell (by show _ ≤ w.heap.size + 1; omega) _).setCell (by show _ ≤ w.heap.size + 1; omega) _).setCell (by show _ ≤ w.heap.size + 1; omega) _⟩
/-- what Apply keeps at its beginning -/
def Rb (w : World) (R N : Int) (s0 : Value) (W : World) : Prop := Below w.heap.size w W ∧ W.heap[w.heap.size]? = some (.cells #[.int .i64 R, .int .i64 N, s0] 24 (0, 0)) ∧ W.heap[w.heap.size + 1]? = some (.cells #[.int .i64 0, .int .i64 0, .slice none 0 0] 24 (0, 0))
theorem Rb.one {w w1 w2 : World} {R N : Int} {s0 v : Value} {l : List E} {o : Obj} (h : Rb w R N s0 w1) (hb : Below (w1.alloc o).heap.size (w1.alloc o) w2) (ho : OwnL (w1.alloc o).heap.size w2 v l) (hx : w2.heap[w1.heap.size]? = some (.cells #[.int .i64 0, .int .i64 0, .slice none 0 0] 24 (0, 0))) :
    RAp w R N s0 v l w1.heap.size (((w2.setCell ⟨w1.heap.size, 0, none⟩ (.int .i64 R)).setCell ⟨w1.heap.size, 1, none⟩ (.int .i64 N)).setCell ⟨w1.heap.size, 2, none⟩ v) := by
  have h0 := lt_block h.2.2
  have hb' := below_then (below_alloc w1 o) hb
  have hsz : (w1.alloc o).heap.size = w1.heap.size + 1 := by simp
  refine ⟨(((below_then h.1 hb').setCell h.1.size _).setCell h.1.size _).setCell h.1.size _, ?_, ?_, by omega, ?_, ?_⟩
  · rw [heap_set_ne (by omega), heap_set_ne (by omega), heap_set_ne (by omega)]; exact (hb'.block _ (lt_block h.2.1)).trans h.2.1
  · rw [heap_set_ne (by omega), heap_set_ne (by omega), heap_set_ne (by omega)]; exact (hb'.block _ h0).trans h.2.2
  · rw [heap_set_eq (heap_set_eq (heap_set_eq hx))]; rfl
  · refine ownE_base (B' := (w1.alloc o).heap.size) ?_ (by rw [hsz]; omega)
    exact row_congr ho (fun g hg => by
      have := (row_lt ho hg).1
      rw [hsz] at this
      rw [heap_set_ne (by omega), heap_set_ne (by omega), heap_set_ne (by omega)])
theorem Rb.two {w w1 w2 : World} {R N : Int} {s0 v : Value} {l : List E} (h : Rb w R N s0 w1) (hb : Below w1.heap.size w1 w2) (ho : OwnL w1.heap.size w2 v l) :
    RAp w R N s0 v l w2.heap.size (w2.alloc (.cells #[.int .i64 R, .int .i64 N, v] 24)) := by
  have h0 := lt_block h.2.2
  have hb2 := below_then hb (below_alloc w2 (.cells #[.int .i64 R, .int .i64 N, v] 24))
  exact ⟨below_then h.1 hb2, (hb2.block _ (lt_block h.2.1)).trans h.2.1, (hb2.block _ h0).trans h.2.2, by have := hb.size; omega, heap_alloc_new _ _, row_below (ownE_base ho (by omega)) (below_alloc _ _)⟩
end Go.Proofs.Ytiodpgannelgpaa
