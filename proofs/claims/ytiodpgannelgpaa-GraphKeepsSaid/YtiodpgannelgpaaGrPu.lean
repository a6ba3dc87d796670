/-
  The walk of the reference's Put.
-/
import Derived.Test.YtiodpgannelgpaaGrRow
import Derived.Test.YtiodpgannelgpaaGrFi
import Derived.Test.YtiodpgannelgpaaGrPt
namespace Go.Proofs.Ytiodpgannelgpaa
open Go.RowKit GM Go.Sort
set_option linter.unusedSimpArgs false
set_option linter.unusedVariables false
set_option maxHeartbeats 4000000
set_option maxRecDepth 100000

/-- a row of edges of the call's own, from block B on -/
abbrev OwnL (B : Nat) (W : World) (v : Value) (o : List E) : Prop := W.ownsRow B 52 3 v o.length (flatE o)
theorem OwnL.push {B : Nat} {W2 : World} {v v' : Value} {o : List E} (y : E) (hown : W2.ownsRow B 52 3 v' (o.length + 1) (flatE o ++ encE y)) : OwnL B W2 v' (o ++ [y]) := by
  unfold OwnL
  rw [flatE_snoc, List.length_append]
  exact hown
/-- x lies in its box, o in a row of the call's own -/
def PutS (w : World) (x : E) (v : Value) (o : List E) (W : World) : Prop :=
  OwnL (w.heap.size + 1) W v o ∧ Below w.heap.size w W ∧ W.heap[w.heap.size]? = some (.cells #[.int .i64 x.1, .int .i64 x.2.1, .int .i64 x.2.2] 52 (0, 0))
theorem PutS.below {w W W1 : World} {x : E} {v : Value} {o : List E} (h : PutS w x v o W) (hb : Below W.heap.size W W1) : PutS w x v o W1 :=
  ⟨row_below h.1 hb, below_then h.2.1 hb, (hb.block _ (lt_block h.2.2)).trans h.2.2⟩
theorem PutS.drewN {w W : World} {x : E} {v : Value} {o : List E} (h : PutS w x v o W) (n : Nat) : PutS w x v o (W.drewN n) := h.below (below_drewN (Below.refl _ _) n)
theorem PutS.push {w W W2 : World} {x : E} {v v' : Value} {o : List E} (h : PutS w x v o W) (y : E) (ob : Obj) (hown : W2.ownsRow (w.heap.size + 1) 52 3 v' (o.length + 1) (flatE o ++ encE y)) (hg : (W.alloc ob).grownBy W2 v.ownBlock) : PutS w x v' (o ++ [y]) W2 := by
  have hlt := lt_block h.2.2
  refine ⟨OwnL.push (v := v) y hown, (h.2.1.alloc h.2.1.size ob).grown hg (by have := h.2.1.size; simp; omega) (fun k hk => by have := (row_lt h.1 hk).1; omega), ?_⟩
  rw [hg.block _ (by simp; omega) (fun e => by have := (row_lt h.1 e.symm).1; omega), Below.heap_alloc _ _ _ hlt]
  exact h.2.2
theorem GM.PutI.len {x : E} {l : List E} {i : Nat} {d : Bool} {out : List E} (h : PutI x l i d out) (hi : i ≤ l.length) : out.length ≤ i + 1 := by
  unfold PutI at h
  split at h
  · have := congrArg List.length h
    rw [putE_len, List.length_append, List.length_drop] at this
    omega
  · rw [h.1, List.length_take]; omega
theorem put65_any (l : List E) (x : E) (v : Value) (w : World) (hl : l.length ≤ 5864062014700) (hr : Rd3 w v l) :
    Calls Try.prog 65 #[v, .agg #[.int .i64 x.1, .int .i64 x.2.1, .int .i64 x.2.2]] w fun e w' => ∃ v', e = .returned v' ∧ OwnL (w.heap.size + 1) w' v' (putE x l) ∧ Below w.heap.size w w' := by
  obtain ⟨i0, hi, hz0, hz1, hz2⟩ := infoE_parts info52
  obtain ⟨ad, cap, rfl, hcap1, hcap2, hc⟩ := hr
  have HC := Lib.hid hc
  obtain ⟨L, hL⟩ : ∃ L, l.length = L := ⟨_, rfl⟩
  rw [hL] at hcap1 hl ⊢
  have HL := Lib.hid hL
  have HBF : Hid (∀ y W, Calls Try.prog 54 #[.agg #[.int .i64 x.1, .int .i64 x.2.1, .int .i64 x.2.2], .agg #[.int .i64 y.1, .int .i64 y.2.1, .int .i64 y.2.2]] W fun e w' => e = .returned (.bool (bef x y)) ∧ Gr W w') := fun y W => before_any x y W
  have HS0 : Hid (PutS w x (.slice (some ⟨w.heap.size + 1, 0, none⟩) 0 0) [] ((w.alloc (.cells #[.int .i64 x.1, .int .i64 x.2.1, .int .i64 x.2.2] 52)).alloc (.cells #[] 52))) := by
    refine ⟨?_, below_two _ _ _, (Below.heap_alloc _ _ _ (by simp)).trans (heap_alloc_new _ _)⟩
    have := World.ownsRow_made (base := w.heap.size + 1) (e := 52) (size := 3) (w.alloc (.cells #[.int .i64 x.1, .int .i64 x.2.1, .int .i64 x.2.2] 52)) #[] 0 (by simp) (Nat.zero_le _) (by simp)
    rwa [show (w.alloc _).heap.size = w.heap.size + 1 by simp] at this
  have HI0 : Hid (PutI x l 0 false []) := PutI.start
  have HPI : Hid (∀ k d o, k ≤ L → PutI x l k d o → o.length ≤ k + 1) := fun k d o hk h => GM.PutI.len h (by rw [hL]; exact hk)
  clear hc hL
  obtain ⟨xa, xb, xc⟩ := x
  dsimp only at HS0 HBF ⊢
  go_enter Try.func65, Try.ntmps65
  go_wp2_with fail
  go_loopg [5, 6, 7] L (fun g s5 s6 s7 wr => ∃ (k : Nat) (v : Value) (o : List E) (d : Bool), k ≤ L ∧ L - k ≤ g ∧ v = s5 ∧ s6 = .bool d ∧ s7 = .int .i64 (k : Int) ∧ Hid (PutI (xa, xb, xc) l k d o) ∧ Hid (PutS w (xa, xb, xc) v o wr))
  case atStart => exact ⟨0, _, [], false, by omega, by omega, rfl, rfl, rfl, HI0, HS0⟩
  case round =>
    clear HI0 HS0
    obtain ⟨k, v, o, d, hk, hg, rfl, rfl, rfl, HI, HS⟩ := hrel
    have hol := HPI.out k d o hk HI.out
    by_cases hlt : k < L
    · obtain ⟨y, hy⟩ : ∃ y, l[k]? = some y := ⟨_, List.getElem?_eq_getElem (by have := HL.out; omega)⟩
      obtain ⟨bl, off, rfl, hbl, c0, c1, c2⟩ := HC.out k y hy
      have f0 := carryB HS.out.2.1 hbl c0
      have f1 := carryB HS.out.2.1 hbl c1
      have f2 := carryB HS.out.2.1 hbl c2
      have HCC := Lib.hid (And.intro hbl (And.intro c0 (And.intro c1 c2)))
      have HBy : Hid (∀ W, Calls Try.prog 54 #[.agg #[.int .i64 xa, .int .i64 xb, .int .i64 xc], .agg #[.int .i64 y.1, .int .i64 y.2.1, .int .i64 y.2.2]] W fun e w' => e = .returned (.bool (bef (xa, xb, xc) y)) ∧ Gr W w') := fun W => HBF.out y W
      have HY := Lib.hid hy
      obtain ⟨ya, yb, yc⟩ := y
      dsimp only at f0 f1 f2 HBy HCC
      have k0 : (0 : Int) ≤ (k : Int) := by omega
      have k1 : (k : Int) < (L : Int) := by omega
      have e0 : wr.cell? ⟨w.heap.size, 0, none⟩ = some (.int .i64 xa) := cell_of HS.out.2.2 rfl
      have e1 : wr.cell? ⟨w.heap.size, 1, none⟩ = some (.int .i64 xb) := cell_of HS.out.2.2 rfl
      have e2 : wr.cell? ⟨w.heap.size, 2, none⟩ = some (.int .i64 xc) := cell_of HS.out.2.2 rfl
      clear c0 c1 c2 hy hbl
      cases d
      · cases hbb : bef (xa, xb, xc) (ya, yb, yc)
        · rw [hbb] at HBy
          have HI2 : Hid (PutI (xa, xb, xc) l (k + 1) false (o ++ [(ya, yb, yc)])) := HI.out.skip HY.out hbb
          clear hbb
          go_wp2_with fail
          go_region_held3 (fun w' => w'.cell? ⟨w.heap.size, 0, none⟩ = some (.int .i64 xa) ∧ w'.cell? ⟨w.heap.size, 1, none⟩ = some (.int .i64 xb) ∧ w'.cell? ⟨w.heap.size, 2, none⟩ = some (.int .i64 xc) ∧ w'.cell? ⟨bl, off + k * 3, none⟩ = some (.int .i64 ya) ∧ w'.cell? ⟨bl, off + k * 3 + 1, none⟩ = some (.int .i64 yb) ∧ w'.cell? ⟨bl, off + k * 3 + 2, none⟩ = some (.int .i64 yc))
            (first | exact ⟨e0, e1, e2, f0, f1, f2⟩ | assumption)
            (first | (go_at_call 54; refine (HBy.out _).mono ?_; rintro en w3 ⟨rfl, hg⟩; have G := Lib.hid hg; have hk := (And.intro (carry hg.below (show wr.drew.cell? _ = _ from e0)) (And.intro (carry hg.below (show wr.drew.cell? _ = _ from e1)) (And.intro (carry hg.below (show wr.drew.cell? _ = _ from e2)) (And.intro (carry hg.below (show wr.drew.cell? _ = _ from f0)) (And.intro (carry hg.below (show wr.drew.cell? _ = _ from f1)) (carry hg.below (show wr.drew.cell? _ = _ from f2))))))); clear hg))
          all_goals (
            have S1 : Hid (PutS w (xa, xb, xc) v o w3) := HS.out.below (⟨G.out.below.os, G.out.below.tape, G.out.below.output, G.out.below.size, G.out.below.block⟩ : Below wr.heap.size wr w3)
            have g0 := hk.2.2.2.1
            have g1 := hk.2.2.2.2.1
            have g2 := hk.2.2.2.2.2
            clear hk G f0 f1 f2 e0 e1 e2
            go_wp2_with (at_builtin; refine wpList_append_own _ rfl (.tmp 29) (.tmp 34) 22 rfl (w.heap.size + 1) 52 i0 (.agg #[.int .i64 0, .int .i64 0, .int .i64 0]) 3 24 Try.underlying22 hi hz0 hz1 hz2 rfl (by decide) v o.length (flatE o) rfl (row_below S1.out.1 (below_alloc _ _)) ⟨w3.heap.size, 0, none⟩ 1 1 (encE (ya, yb, yc)) rfl rfl (cellE_new _ _ _ _ _ rfl) (encE_one _) (by unfold maxLen; omega) (by omega) (by have := lt_block S1.out.2.2; simp; omega) ?_; intro v1 w4 hown hgrow hnil; have S2 := Lib.hid (S1.out.push (ya, yb, yc) _ hown hgrow); clear hown hgrow hnil)
            go_roundg (L - (k + 1))
            case measure => omega
            case rel => exact ⟨k + 1, _, o ++ [(ya, yb, yc)], false, by omega, Nat.le_refl _, rfl, rfl, by go_num, HI2, S2⟩)
        · rw [hbb] at HBy
          have HI2 : Hid (PutI (xa, xb, xc) l (k + 1) true (o ++ [(xa, xb, xc)] ++ [(ya, yb, yc)])) := HI.out.here HY.out hbb
          clear hbb
          go_wp2_with fail
          go_region_held3 (fun w' => w'.cell? ⟨w.heap.size, 0, none⟩ = some (.int .i64 xa) ∧ w'.cell? ⟨w.heap.size, 1, none⟩ = some (.int .i64 xb) ∧ w'.cell? ⟨w.heap.size, 2, none⟩ = some (.int .i64 xc) ∧ w'.cell? ⟨bl, off + k * 3, none⟩ = some (.int .i64 ya) ∧ w'.cell? ⟨bl, off + k * 3 + 1, none⟩ = some (.int .i64 yb) ∧ w'.cell? ⟨bl, off + k * 3 + 2, none⟩ = some (.int .i64 yc))
            (first | exact ⟨e0, e1, e2, f0, f1, f2⟩ | assumption)
            (first | (go_at_call 54; refine (HBy.out _).mono ?_; rintro en w3 ⟨rfl, hg⟩; have G := Lib.hid hg; have hk := (And.intro (carry hg.below (show wr.drew.cell? _ = _ from e0)) (And.intro (carry hg.below (show wr.drew.cell? _ = _ from e1)) (And.intro (carry hg.below (show wr.drew.cell? _ = _ from e2)) (And.intro (carry hg.below (show wr.drew.cell? _ = _ from f0)) (And.intro (carry hg.below (show wr.drew.cell? _ = _ from f1)) (carry hg.below (show wr.drew.cell? _ = _ from f2))))))); clear hg))
          all_goals (
            have S1 : Hid (PutS w (xa, xb, xc) v o w3) := HS.out.below (⟨G.out.below.os, G.out.below.tape, G.out.below.output, G.out.below.size, G.out.below.block⟩ : Below wr.heap.size wr w3)
            have x0 := hk.1
            have x1 := hk.2.1
            have x2 := hk.2.2.1
            clear hk G f0 f1 f2 e0 e1 e2
            go_wp2_with (first
              | (at_builtin; refine wpList_append_own _ rfl (.tmp 25) (.tmp 27) 22 rfl (w.heap.size + 1) 52 i0 (.agg #[.int .i64 0, .int .i64 0, .int .i64 0]) 3 24 Try.underlying22 hi hz0 hz1 hz2 rfl (by decide) v o.length (flatE o) rfl (row_below S1.out.1 (below_alloc _ _)) ⟨w3.heap.size, 0, none⟩ 1 1 (encE (xa, xb, xc)) rfl rfl (cellE_new _ _ _ _ _ rfl) (encE_one _) (by unfold maxLen; omega) (by omega) (by have := lt_block S1.out.2.2; simp; omega) ?_; intro v1 w4 hown hgrow hnil
                 have S2 := Lib.hid (S1.out.push (xa, xb, xc) _ hown hgrow)
                 have g0 := carryB S2.out.2.1 HCC.out.1 HCC.out.2.1
                 have g1 := carryB S2.out.2.1 HCC.out.1 HCC.out.2.2.1
                 have g2 := carryB S2.out.2.1 HCC.out.1 HCC.out.2.2.2
                 clear hown hgrow hnil)
              | (at_builtin; refine wpList_append_own _ rfl (.tmp 29) (.tmp 34) 22 rfl (w.heap.size + 1) 52 i0 (.agg #[.int .i64 0, .int .i64 0, .int .i64 0]) 3 24 Try.underlying22 hi hz0 hz1 hz2 rfl (by decide) v1 (o ++ [(xa, xb, xc)]).length (flatE (o ++ [(xa, xb, xc)])) rfl (row_below S2.out.1 (below_alloc _ _)) ⟨w4.heap.size, 0, none⟩ 1 1 (encE (ya, yb, yc)) rfl rfl (cellE_new _ _ _ _ _ rfl) (encE_one _) (by rw [List.length_append]; unfold maxLen; simp; omega) (by rw [List.length_append]; simp; omega) (by have := lt_block S2.out.2.2; simp; omega) ?_; intro v2 w5 hown hgrow hnil
                 have S3 := Lib.hid (S2.out.push (ya, yb, yc) _ hown hgrow)
                 clear hown hgrow hnil))
            go_roundg (L - (k + 1))
            case measure => omega
            case rel => exact ⟨k + 1, _, o ++ [(xa, xb, xc)] ++ [(ya, yb, yc)], true, by omega, Nat.le_refl _, rfl, rfl, by go_num, HI2, S3⟩)
      · have HI2 : Hid (PutI (xa, xb, xc) l (k + 1) true (o ++ [(ya, yb, yc)])) := HI.out.on HY.out
        go_wp2_with fail
        go_quiet (fail)
        have S1 := Lib.hid HS.out
        clear e0 e1 e2
        go_wp2_with (at_builtin; refine wpList_append_own _ rfl (.tmp 29) (.tmp 34) 22 rfl (w.heap.size + 1) 52 i0 (.agg #[.int .i64 0, .int .i64 0, .int .i64 0]) 3 24 Try.underlying22 hi hz0 hz1 hz2 rfl (by decide) v o.length (flatE o) rfl (row_below (S1.out.drewN _).1 (below_alloc _ _)) ⟨wr.heap.size, 0, none⟩ 1 1 (encE (ya, yb, yc)) rfl rfl (cellE_new _ _ _ _ _ rfl) (encE_one _) (by unfold maxLen; omega) (by omega) (by have := lt_block S1.out.2.2; simp; omega) ?_; intro v1 w4 hown hgrow hnil; have S2 := Lib.hid ((S1.out.drewN _).push (ya, yb, yc) _ hown hgrow); clear hown hgrow hnil)
        go_roundg (L - (k + 1))
        case measure => omega
        case rel => exact ⟨k + 1, _, o ++ [(ya, yb, yc)], true, by omega, Nat.le_refl _, rfl, rfl, by go_num, HI2, S2⟩
    · have k1 : decide ((k : Int) < (L : Int)) = false := decide_eq_false (by omega)
      have hkL : k = l.length := by have := HL.out; omega
      have x0 : wr.cell? ⟨w.heap.size, 0, none⟩ = some (.int .i64 xa) := cell_of HS.out.2.2 rfl
      have x1 : wr.cell? ⟨w.heap.size, 1, none⟩ = some (.int .i64 xb) := cell_of HS.out.2.2 rfl
      have x2 : wr.cell? ⟨w.heap.size, 2, none⟩ = some (.int .i64 xc) := cell_of HS.out.2.2 rfl
      cases d
      · have HE : Hid (o ++ [(xa, xb, xc)] = putE (xa, xb, xc) l) := by have := HI.out; rw [hkL] at this; exact this.end_no
        clear hkL
        go_wp2_with (at_builtin; refine wpList_append_own _ rfl (.tmp 38) (.tmp 40) 22 rfl (w.heap.size + 1) 52 i0 (.agg #[.int .i64 0, .int .i64 0, .int .i64 0]) 3 24 Try.underlying22 hi hz0 hz1 hz2 rfl (by decide) v o.length (flatE o) rfl (row_below HS.out.1 (below_alloc _ _)) ⟨wr.heap.size, 0, none⟩ 1 1 (encE (xa, xb, xc)) rfl rfl (cellE_new _ _ _ _ _ rfl) (encE_one _) (by unfold maxLen; omega) (by omega) (by have := lt_block HS.out.2.2; simp; omega) ?_; intro v1 w4 hown hgrow hnil; have S2 := Lib.hid (HS.out.push (xa, xb, xc) _ hown hgrow); clear hown hgrow hnil)
        go_ret
        exact ⟨_, rfl, HE.out ▸ S2.out.1, S2.out.2.1⟩
      · have HE : Hid (o = putE (xa, xb, xc) l) := by have := HI.out; rw [hkL] at this; exact this.end_yes
        clear hkL
        go_wp2
        go_ret
        exact ⟨_, rfl, HE.out ▸ HS.out.1, HS.out.2.1⟩
end Go.Proofs.Ytiodpgannelgpaa
