/-
  The walk of All.
-/
import Derived.Test.YtmlpbhankgojpaaSpRn
import Derived.Test.YtmlpbhankgojpaaSpSe
namespace Go.Proofs.Ytmlpbhankgojpaa
open Go.RowKit HM GM SP
set_option linter.unusedSimpArgs false
set_option linter.unusedVariables false
set_option maxHeartbeats 4000000
set_option maxRecDepth 100000
noncomputable def allRow (l : List E) (r : Nat) (i : Nat) : List Int := (List.range r).map (fun k : Nat => T l (i : Int) (k : Int))
theorem tree_take {R N : Int} {l : List E} {i n r : Nat} {dist : List Int} {hops pars : List (List Int)} (h : Tree R N l (i : Int) n dist hops pars) (hr : r ≤ n) : dist.take r = (List.range r).map (fun k : Nat => T l (i : Int) (k : Int)) := by
  apply List.ext_getElem
  · simp [h.ld]; omega
  · intro k h1 h2
    simp [h.ld] at h1
    have := h.d k (by omega)
    unfold gI at this
    rw [List.getElem?_eq_getElem (by rw [h.ld]; omega)] at this
    simpa using this
theorem below_drewB {B : Nat} {a w : World} (h : Below B a w) : Below B a w.drew := ⟨h.os, h.tape, h.output, h.size, h.block⟩
theorem own_base' {w : World} {B B' n e k : Nat} {v : Value} {xs ys : List Int} (h : w.ownsRow B e k v n (xs.map (Value.int .i64))) (hB : B' ≤ B) (hx : xs = ys) : w.ownsRow B' e k v n (ints ys) := by
  subst hx; exact own_low h hB
section
variable {w0 wr w1 : World} {bx : Obj} {H n : Nat} {tab : List (List Int)}
theorem TB.bel' (h : TB w0 bx H n tab wr) (_ : World) : Below w0.heap.size w0 wr := h.bel
theorem TB.row (h : TB w0 bx H n tab wr) {i m : Nat} (hi : i < n) (hb : Below wr.heap.size wr w1) {x : Value} {r : List Int} (ho : w1.ownsRow wr.heap.size 3 1 x m (ints r)) : TB w0 bx H n (tab.set i r) (w1.setCell ⟨H, i, none⟩ x) := by
  have hlen := h.len
  obtain ⟨vs, h1, h2, h3, h4, h5, h6⟩ := h
  have hv : vs.length = n := by have := h1.1; omega
  have hHlt : H < wr.heap.size := (row_lt h1 rfl).2
  have hm : m = r.length := by have := ho.1; rw [ints_len] at this; omega
  subst hm
  have h2' : RS w1 (vs.set i x) (tab.set i r) := h2.put (by omega) (Kp.of_below hb) (own_low ho (Nat.zero_le _)) (fun g' hg' => .inr (row_lt ho hg').1)
  have hst := (row_congr h1 (fun g hg => hb.block g (row_lt h1 hg).2)).stored i x
  have hnb : ∀ g ∈ rblk (vs.set i x), g ≠ H ∧ w0.heap.size < g := fun g hg => by
    rcases rblk_set (by omega) hg with hg | hg
    · have := (row_lt ho hg).1; have := lt_block h5; exact ⟨by omega, by omega⟩
    · exact h3 g hg
  exact ⟨_, hst.1, h2'.congr fun g hg => heap_set_ne (hnb g hg).1, hnb, (below_then h4 hb).setCell (Nat.le_of_lt h6) _, (heap_set_ne (by omega)).trans ((hb.block _ (lt_block h5)).trans h5), h6⟩
theorem TB.rdr (h : TB w0 bx H n tab wr) (hn : n ≤ 65536) : RdR wr (.slice (some ⟨H, 0, none⟩) n n) tab := by
  obtain ⟨vs, h1, h2, _⟩ := h
  exact rdr_own h1 h2 hn
end
/-- what All answers -/
def AllR (R N : Int) (l : List E) (rows : List (List Int)) (er : Int) : Prop :=
  (chk R N l ≠ 0 ∧ er = chk R N l ∧ rows = []) ∨ (chk R N l = 0 ∧ er = 0 ∧ ∃ r : Nat, R = (r : Int) ∧ rows = gT (allRow l r) r r)
theorem AllR.unique {R N : Int} {l : List E} {rows rows' : List (List Int)} {er er' : Int} (h : AllR R N l rows er) (k : AllR R N l rows' er') : rows = rows' ∧ er = er' := by
  rcases h with ⟨a1, a2, a3⟩ | ⟨a1, a2, r, a3, a4⟩ <;> rcases k with ⟨b1, b2, b3⟩ | ⟨b1, b2, q, b3, b4⟩
  · exact ⟨by rw [a3, b3], by rw [a2, b2]⟩
  · exact absurd b1 a1
  · exact absurd a1 b1
  · obtain rfl : r = q := by omega
    exact ⟨by rw [a4, b4], by rw [a2, b2]⟩
def AllQ (R N : Int) (l : List E) (w : World) (e : Ending) (w' : World) : Prop := ∃ rows er v, e = .returned (.tuple #[v, .int .i64 er]) ∧ RdR w' v rows ∧ AllR R N l rows er ∧ Below w.heap.size w w'
theorem rdR_nil (w : World) : RdR w (.slice none 0 0) [] := ⟨none, 0, rfl, Nat.le_refl _, by omega, fun k r h => by simp at h⟩
theorem all_err (R N : Int) (l : List E) (s : Value) (w : World) (hR : I64 R) (hN : I64 N) (hr : Rd3 w s l) (hc : chk R N l ≠ 0) :
    Calls Try.prog 21 #[.agg #[.int .i64 R, .int .i64 N, s]] w (AllQ R N l w) := by
  have HCK : Hid (∀ W, Below w.heap.size w W → Calls Try.prog 27 #[.agg #[.int .i64 R, .int .i64 N, s]] W fun e w' => e = .returned (.int .i64 (chk R N l)) ∧ Below W.heap.size W w') := fun W hW => check_any R N s l W hR hN (hr.below hW)
  have HRR : Hid (AllR R N l [] (chk R N l)) := .inl ⟨hc, rfl, rfl⟩
  obtain ⟨ad, cap, hform⟩ := rd3_slice hr
  obtain ⟨L, hL⟩ : ∃ L, l.length = L := ⟨_, rfl⟩
  rw [hL] at hform
  subst hform
  have hb : (chk R N l != 0) = true := by simpa using hc
  generalize chk R N l = c at *
  have HBA := Lib.hid (below_alloc w (.cells #[.int .i64 R, .int .i64 N, .slice ad L cap] 24))
  clear hr hL hc
  go_enter Try.func21, Try.ntmps21
  go_wp2_with fail
  go_at_call 27
  refine (HCK.out _ HBA.out).mono ?_
  rintro e w1 ⟨rfl, hb1⟩
  have HB1 := Lib.hid (below_then HBA.out hb1)
  clear hb1
  go_wp2
  go_ret2
  exact ⟨[], c, _, rfl, rdR_nil _, HRR.out, HB1.out⟩
theorem all_ok (r n : Nat) (N : Int) (l : List E) (s : Value) (w : World) (hR : I64 (r : Int)) (hN : I64 N) (hr : Rd3 w s l) (hc : chk (r : Int) N l = 0) (hn : (n : Int) = (r : Int) + N) :
    Calls Try.prog 21 #[.agg #[.int .i64 (r : Int), .int .i64 N, s]] w (AllQ (r : Int) N l w) := by
  have hv := chk_iff.1 hc
  have hN0 := hv.n; have hS := hv.s
  have HCK : Hid (∀ W, Below w.heap.size w W → Calls Try.prog 27 #[.agg #[.int .i64 (r : Int), .int .i64 N, s]] W fun e w' => e = .returned (.int .i64 0) ∧ Below W.heap.size W w') := fun W hW => by
    have := check_any (r : Int) N s l W hR hN (hr.below hW)
    rwa [hc] at this
  have HSE : Hid (∀ (i : Nat) W, Below w.heap.size w W → i < r → Calls Try.prog 28 #[.agg #[.int .i64 (r : Int), .int .i64 N, s], .int .i64 (i : Int)] W (SeQ (r : Int) N l i n W)) := fun i W hW hi => search_any (r : Int) N l s n i W hv (hr.below hW) hn (by omega)
  have HRR : Hid (AllR (r : Int) N l (gT (allRow l r) r r) 0) := .inr ⟨hc, rfl, r, rfl, rfl⟩
  have hrn : r ≤ n := by omega
  have hn8 : n ≤ 128 := by omega
  have hmk := make_rowsI r (by omega)
  obtain ⟨ad, cap, hform⟩ := rd3_slice hr
  obtain ⟨L, hL⟩ : ∃ L, l.length = L := ⟨_, rfl⟩
  rw [hL] at hform
  subst hform
  have HBA := Lib.hid (below_alloc w (.cells #[.int .i64 (r : Int), .int .i64 N, .slice ad L cap] 24))
  have HBX : Hid ((w.alloc (.cells #[.int .i64 (r : Int), .int .i64 N, .slice ad L cap] 24)).heap[w.heap.size]? = some (.cells #[.int .i64 (r : Int), .int .i64 N, .slice ad L cap] 24 (0, 0))) := heap_alloc_new _ _
  clear hr hL hc hv hn
  go_enter Try.func21, Try.ntmps21
  go_wp2_with fail
  go_at_call 27
  refine (HCK.out _ HBA.out).mono ?_
  rintro e w1 ⟨rfl, hb1⟩
  have HB1 := Lib.hid (below_then HBA.out hb1)
  have HO1 := Lib.hid ((hb1.block _ (lt_block HBX.out)).trans HBX.out)
  clear hb1 HBX HBA HCK
  have q0 : w1.cell? ⟨w.heap.size, 0, none⟩ = some (.int .i64 (r : Int)) := cell_of HO1.out rfl
  have r0 : (0 : Int) ≤ (r : Int) := by omega
  go_wp2_with fail
  have HT0 : Hid (∃ H, H = w1.heap.size ∧ TB w (.cells #[.int .i64 (r : Int), .int .i64 N, .slice ad L cap] 24) H r (gT (allRow l r) r 0) (w1.alloc (.cells (madeCells #[.slice none 0 0] r) 25))) := ⟨_, rfl, by
    rw [gT_zero]; exact TB.start HB1.out HO1.out (by omega) rfl⟩
  have hlw : w.heap.size < w1.heap.size := lt_block HO1.out
  clear q0 hmk HB1 HO1
  generalize (w1.alloc (.cells (madeCells #[.slice none 0 0] r) 25)) = V at *
  obtain ⟨_, rfl, hT0⟩ := HT0.out
  have HT1 := Lib.hid hT0
  clear HT0 hT0
  go_loopg [6, 17] r (fun g s6 s17 wr => ∃ i : Nat, i ≤ r ∧ r - i ≤ g ∧ s17 = .int .i64 (i : Int) ∧ (∃ q, q = s6) ∧ Hid (TB w (.cells #[.int .i64 (r : Int), .int .i64 N, .slice ad L cap] 24) w1.heap.size r (gT (allRow l r) r i) wr))
  case atStart => exact ⟨0, by omega, by omega, rfl, ⟨_, rfl⟩, HT1⟩
  case round =>
    clear HT1
    obtain ⟨i, hi, hig, rfl, ⟨u6, rfl⟩, HT⟩ := hrel
    by_cases hil : i < r
    · have i0 : (0 : Int) ≤ (i : Int) := by omega
      have i1 : (i : Int) < (r : Int) := by omega
      have hbx := HT.out.box
      have HG : Hid (∀ W, Below wr.heap.size wr W → W.cell? ⟨w.heap.size, 0, none⟩ = some (.int .i64 (r : Int)) ∧ W.cell? ⟨w.heap.size, 1, none⟩ = some (.int .i64 N) ∧ W.cell? ⟨w.heap.size, 2, none⟩ = some (.slice ad L cap)) := fun W hW => ⟨carry hW (cell_of hbx rfl), carry hW (cell_of hbx rfl), carry hW (cell_of hbx rfl)⟩
      clear hbx
      go_upto_region 8 with (fail)
      refine wp_region_held_drew (S := fun W => W.cell? ⟨w.heap.size, 0, none⟩ = some (.int .i64 (r : Int)) ∧ W.cell? ⟨w.heap.size, 1, none⟩ = some (.int .i64 N) ∧ W.cell? ⟨w.heap.size, 2, none⟩ = some (.slice ad L cap)) (by kernel_rfl) (HG.out _ (Below.refl _ wr).drew) (fun hS0 => ?_)
      refine wpAnyH_take (i := 0) (oi := ⟨some 20, _, _, _, _, _⟩) (v := .slice (some ⟨w1.heap.size, 0, none⟩) r r) rfl (by kernel_rfl) (by kernel_rfl) (by kernel_rfl) (fun _ _ _ h => h) (Or.inl ⟨by rfl, by intro w' hw'; obtain ⟨hw1, hw2, hw3⟩ := hw'; go_simp⟩) hS0 ?_
      simp only [Act.put, List.setIfInBounds_toArray, List.set_cons_zero, List.set_cons_succ]
      refine wpAnyH_take (i := 1) (oi := ⟨some 21, _, _, _, _, _⟩) (v := .int .i64 (i : Int)) rfl (by kernel_rfl) (by kernel_rfl) (by kernel_rfl) (fun _ _ _ h => h) (Or.inl ⟨by rfl, by intro w' hw'; obtain ⟨hw1, hw2, hw3⟩ := hw'; go_simp⟩) hS0 ?_
      simp only [Act.put, List.setIfInBounds_toArray, List.set_cons_zero, List.set_cons_succ]
      refine wpAnyH_take (i := 2) (oi := ⟨some 22, _, _, _, _, _⟩) (v := .agg #[.int .i64 (r : Int), .int .i64 N, .slice ad L cap]) rfl (by kernel_rfl) (by kernel_rfl) (by kernel_rfl) (fun _ _ _ h => h) (Or.inl ⟨by rfl, by intro w' hw'; obtain ⟨hw1, hw2, hw3⟩ := hw'; go_simp⟩) hS0 ?_
      simp only [Act.put, List.setIfInBounds_toArray, List.set_cons_zero, List.set_cons_succ]
      refine wpAnyH_take (i := 3) (oi := ⟨some 23, _, _, _, _, _⟩) (v := .int .i64 (i : Int)) rfl (by kernel_rfl) (by kernel_rfl) (by kernel_rfl) (fun _ _ _ h => h) (Or.inl ⟨by rfl, by intro w' hw'; obtain ⟨hw1, hw2, hw3⟩ := hw'; go_simp⟩) hS0 ?_
      simp only [Act.put, List.setIfInBounds_toArray, List.set_cons_zero, List.set_cons_succ]
      refine wpAnyH_take (i := 6) (oi := ⟨some 26, _, _, _, _, _⟩) (v := .pointer (some ⟨w.heap.size, 0, none⟩)) rfl (by kernel_rfl) (by kernel_rfl) (by kernel_rfl) (fun _ _ _ h => h) (Or.inl ⟨by rfl, by intro w' hw'; obtain ⟨hw1, hw2, hw3⟩ := hw'; go_simp⟩) hS0 ?_
      simp only [Act.put, List.setIfInBounds_toArray, List.set_cons_zero, List.set_cons_succ]
      refine wpAnyH_take (i := 7) (oi := ⟨some 27, _, _, _, _, _⟩) (v := .int .i64 (r : Int)) rfl (by kernel_rfl) (by kernel_rfl) (by kernel_rfl) (fun _ _ _ h => h) (Or.inl ⟨by rfl, by intro w' hw'; obtain ⟨hw1, hw2, hw3⟩ := hw'; go_simp⟩) hS0 ?_
      simp only [Act.put, List.setIfInBounds_toArray, List.set_cons_zero, List.set_cons_succ]
      refine wpAnyH_ready (rs := [4]) (by kernel_rfl) (by simp) ?_
      refine AllReadyH.cons rfl (fun K hK => ?_) AllReadyH.nil
      go_simp
      go_at_call 28
      refine (HSE.out i wr.drew (below_drewB HT.out.bel) hil).mono ?_
      rintro e w3 ⟨D, H, P, dist, hv', pv', hops, pars, rfl, hTR, hTree, hge, hb3⟩
      have HB3 : Hid (Below wr.heap.size wr w3) := ⟨hb3.os, hb3.tape, hb3.output, hb3.size, hb3.block⟩
      have hS1 := HG.out _ HB3.out
      have HTR := Lib.hid hTR
      have HTE := Lib.hid hTree
      clear hTR hTree hge hb3
      unfold treeV
      (try go_wp2_with fail)
      refine hK.out _ _ hS1 (fun _ => ?_)
      clear hK K
      (try simp only [Act.put, List.setIfInBounds_toArray, List.set_cons_zero, List.set_cons_succ])
      have hfd : ∀ w : World, (Instr.field 28 (.agg #[.int .i64 (i : Int), .slice (some ⟨D, 0, none⟩) n n, .slice (some ⟨H, 0, none⟩) n n, .slice (some ⟨P, 0, none⟩) n n]) 1).run Try.prog w = .ok (.slice (some ⟨D, 0, none⟩) n n) w := fun _ => by kernel_rfl
      refine wpAnyH_take (i := 5) (oi := ⟨some 25, _, _, _, _, _⟩) (v := .slice (some ⟨D, 0, none⟩) n n) rfl (by kernel_rfl) (by kernel_rfl) (by kernel_rfl) (fun _ _ _ h => h) (Or.inl ⟨by rfl, by intro w' hw'; obtain ⟨hw1, hw2, hw3⟩ := hw'; go_simp⟩) hS1 ?_
      simp only [Act.put, List.setIfInBounds_toArray, List.set_cons_zero, List.set_cons_succ]
      refine wpAnyH_take (i := 8) (oi := ⟨some 28, _, _, _, _, _⟩) (v := .slice (some ⟨D, 0, none⟩) r n) rfl (by kernel_rfl) (by kernel_rfl) (by kernel_rfl) (fun _ _ _ h => h) (Or.inl ⟨by rfl, by intro w' hw'; obtain ⟨hw1, hw2, hw3⟩ := hw'; go_simp⟩) hS1 ?_
      simp only [Act.put, List.setIfInBounds_toArray, List.set_cons_zero, List.set_cons_succ]
      refine wpAnyH_ready (rs := [9]) (by kernel_rfl) (by simp) ?_
      refine AllReadyH.cons rfl (fun K hK => ?_) AllReadyH.nil
      go_simp
      go_at_call 37
      refine (Try.slices_Clone_int D 0 r n dist w3 (by rw [HTE.out.ld]; omega) (by omega) (fun j hj => by rw [Nat.zero_add, HTR.out.cd (by rw [HTE.out.ld] at hj; exact hj)]; rfl)).mono ?_
      rintro e w4 ⟨v', rfl, hown, _, hb4⟩
      have HB4 := Lib.hid (below_then HB3.out hb4)
      have hS2 := HG.out _ HB4.out
      have hdl : ints (dist.take r) = (dist.take r).map (Value.int .i64) := rfl
      have hrow : dist.take r = (List.range r).map (fun k : Nat => T l (i : Int) (k : Int)) := tree_take HTE.out (by omega)
      have hTN := HT.out.row hil HB4.out (own_base' hown HB3.out.size hrow)
      have HTN := Lib.hid hTN
      obtain ⟨⟨cv, hcv⟩, hzv, hHlt⟩ := HT.out.slot hil
      have hcv4 := carry HB4.out hcv
      have hzv4 : w4.frozen? ⟨w1.heap.size, i, none⟩ = false := by rw [HB4.out.frozen hHlt]; exact hzv
      obtain ⟨va, vc, rfl, -⟩ := own_form hown
      clear hown hb4 hdl hrow hTN hcv hzv HT
      (try go_wp2_with fail)
      refine hK.out _ _ hS2 (fun _ => ?_)
      clear hK K
      (try simp only [Act.put, List.setIfInBounds_toArray, List.set_cons_zero, List.set_cons_succ])
      refine wpAnyH_take (i := 10) (oi := ⟨some 30, _, _, _, _, _⟩) (v := .pointer (some ⟨w1.heap.size, i, none⟩)) rfl (by kernel_rfl) (by kernel_rfl) (by kernel_rfl) (fun _ _ _ h => h) (Or.inl ⟨by rfl, by intro w' hw'; obtain ⟨hw1, hw2, hw3⟩ := hw'; go_simp⟩) hS2 ?_
      simp only [Act.put, List.setIfInBounds_toArray, List.set_cons_zero, List.set_cons_succ]
      refine wpAnyH_ready (rs := [11]) (by kernel_rfl) (by simp) ?_
      refine AllReadyH.cons rfl (fun K hK => ?_) AllReadyH.nil
      go_simp
      (try go_wp2_with fail)
      refine hK.out _ _ ⟨by rw [World.cell?_setCell_far _ _ _ _ (by dsimp only; omega)]; exact hS2.1, by rw [World.cell?_setCell_far _ _ _ _ (by dsimp only; omega)]; exact hS2.2.1, by rw [World.cell?_setCell_far _ _ _ _ (by dsimp only; omega)]; exact hS2.2.2⟩ (fun _ => ?_)
      clear hK K
      (try simp only [Act.put, List.setIfInBounds_toArray, List.set_cons_zero, List.set_cons_succ])
      refine wpAnyH_done (by kernel_rfl) ?_ _
      go_wp2_with fail
      go_roundg (r - (i + 1))
      case measure => omega
      case rel => exact ⟨i + 1, by omega, Nat.le_refl _, by go_num, ⟨_, rfl⟩, by rw [Hid, ← gT_set hil]; exact HTN.out⟩
    · have k1 : decide ((i : Int) < (r : Int)) = false := decide_eq_false (by omega)
      have HIR : Hid (i = r) := by show _ = _; omega
      have HTF : Hid (TB w (.cells #[.int .i64 (r : Int), .int .i64 N, .slice ad L cap] 24) w1.heap.size r (gT (allRow l r) r r) wr) := by have := HT.out; rw [HIR.out] at this; exact this
      clear HT HIR
      go_wp2
      go_ret2
      exact ⟨_, 0, _, rfl, HTF.out.rdr (by omega), HRR.out, HTF.out.bel⟩
theorem all_any (R N : Int) (l : List E) (s : Value) (w : World) (hR : I64 R) (hN : I64 N) (hr : Rd3 w s l) : Calls Try.prog 21 #[.agg #[.int .i64 R, .int .i64 N, s]] w (AllQ R N l w) := by
  by_cases hc : chk R N l = 0
  · have hv := chk_iff.1 hc
    have h1 := hv.r; have h2 := hv.n
    obtain ⟨r, rfl⟩ : ∃ r : Nat, R = r := ⟨R.toNat, by omega⟩
    exact all_ok r (r + N.toNat) N l s w hR hN hr hc (by omega)
  · exact all_err R N l s w hR hN hr hc
end Go.Proofs.Ytmlpbhankgojpaa
