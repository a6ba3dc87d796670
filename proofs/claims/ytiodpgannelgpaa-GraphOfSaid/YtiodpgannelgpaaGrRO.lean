/-
  The walks of the reference's Of and of the law on Of.
-/
import Derived.Test.YtiodpgannelgpaaGrPu
import Derived.Test.YtiodpgannelgpaaGrP
namespace Go.Proofs.Ytiodpgannelgpaa
open Go.RowKit GM Go.Sort
set_option linter.unusedSimpArgs false
set_option linter.unusedVariables false
set_option maxHeartbeats 4000000
set_option maxRecDepth 100000

theorem flatE_set_cost : ∀ (o : List E) (k : Nat) (e x : E), o[k]? = some e → e.1 = x.1 → e.2.1 = x.2.1 → flatE (o.set k x) = (flatE o).set (k * 3 + 2) (.int .i64 x.2.2)
  | [], k, e, x, h, _, _ => by simp at h
  | y :: r, 0, e, x, h, h1, h2 => by
    simp at h; subst h
    simp [flatE, encE, h1, h2]
  | y :: r, k + 1, e, x, h, h1, h2 => by
    have ih := flatE_set_cost r k e x (by simpa using h) h1 h2
    have e1 : flatE (y :: r) = .int .i64 y.1 :: .int .i64 y.2.1 :: .int .i64 y.2.2 :: flatE r := by simp [flatE, encE]
    have e2 : flatE ((y :: r).set (k + 1) x) = .int .i64 y.1 :: .int .i64 y.2.1 :: .int .i64 y.2.2 :: flatE (r.set k x) := by simp [flatE, encE]
    rw [e1, e2, ih, show (k + 1) * 3 + 2 = (k * 3 + 2) + 1 + 1 + 1 by omega]
    simp
def ROfS (w : World) (R N : Int) (v : Value) (o : List E) (W : World) : Prop :=
  OwnL (w.heap.size + 2) W v o ∧ Below w.heap.size w W ∧ W.heap[w.heap.size]? = some (.cells #[.int .i64 0, .int .i64 0, .slice none 0 0] 24 (0, 0)) ∧ W.heap[w.heap.size + 1]? = some (.cells #[.int .i64 R, .int .i64 N, v] 24 (0, 0))
theorem ROfS.below {w W W1 : World} {R N : Int} {v : Value} {o : List E} (h : ROfS w R N v o W) (hb : Below W.heap.size W W1) : ROfS w R N v o W1 :=
  ⟨row_below h.1 hb, below_then h.2.1 hb, (hb.block _ (lt_block h.2.2.1)).trans h.2.2.1, (hb.block _ (lt_block h.2.2.2)).trans h.2.2.2⟩
theorem ROfS.store {w W : World} {R N : Int} {v v' : Value} {o o' : List E} (h : ROfS w R N v o W) (ho : OwnL (w.heap.size + 2) W v' o') : ROfS w R N v' o' (W.setCell ⟨w.heap.size + 1, 2, none⟩ v') := by
  refine ⟨row_congr ho (fun g hg => heap_set_ne (by have := (row_lt ho hg).1; omega)), h.2.1.setCell (by show _ ≤ w.heap.size + 1; omega) _, (heap_set_ne (by omega)).trans h.2.2.1, ?_⟩
  rw [heap_set_eq h.2.2.2]; rfl
theorem ROfS.cost {w W : World} {R N : Int} {gb cap k : Nat} {o : List E} {e x : E} (h : ROfS w R N (.slice (some ⟨gb, 0, none⟩) o.length cap) o W) (he : o[k]? = some e) (h1 : e.1 = x.1) (h2 : e.2.1 = x.2.1) :
    ROfS w R N (.slice (some ⟨gb, 0, none⟩) o.length cap) (o.set k x) (W.setCell ⟨gb, k * 3 + 2, none⟩ (.int .i64 x.2.2)) := by
  have hg := (row_lt h.1 rfl).1
  dsimp only at hg
  refine ⟨?_, h.2.1.setCell (by show w.heap.size ≤ gb; omega) _, (heap_set_ne (by omega)).trans h.2.2.1, (heap_set_ne (by omega)).trans h.2.2.2⟩
  have := (h.1.stored (k * 3 + 2) (.int .i64 x.2.2)).1
  unfold OwnL
  rw [flatE_set_cost o k e x he h1 h2, List.length_set]
  exact this
theorem least_fit {l o : List E} (h : Least l o) (hF : FitT l) : FitT o := fun x hx => hF x ((h.2 x).1 hx).1
theorem rof_any (R N : Int) (l r : List E) (v : Value) (w : World) (hR : I64 R) (hN : I64 N) (hl : Fits l) (hF : FitT l) (hr : Rd3 w v l) (hLe : Least l r) :
    Calls Try.prog 38 #[.int .i64 R, .int .i64 N, v] w fun e w' => ∃ s, e = .returned (.tuple #[ofV R N r s, .int .i64 (chk R N r)]) ∧ Rd3 w' s r ∧ Below w.heap.size w w' := by
  unfold Fits at hl
  have HRD := Lib.hid hr
  obtain ⟨ad, cap, rfl, hcap1, hcap2, hc⟩ := hr
  have HC := Lib.hid hc
  have HCK : Hid (∀ s W, Rd3 W s r → Calls Try.prog 18 #[.agg #[.int .i64 R, .int .i64 N, s]] W fun e w' => e = .returned (.int .i64 (chk R N r)) ∧ Below W.heap.size W w') := fun s W h => rcheck_any R N s r W hR hN h (least_fit hLe hF)
  have HLE := Lib.hid hLe
  obtain ⟨L, hL⟩ : ∃ L, l.length = L := ⟨_, rfl⟩
  rw [hL] at hcap1 hl ⊢
  have HL := Lib.hid hL
  have HS0 : Hid (ROfS w R N (.slice none 0 0) [] ((w.alloc (.cells #[.int .i64 0, .int .i64 0, .slice none 0 0] 24)).alloc (.cells #[.int .i64 R, .int .i64 N, .slice none 0 0] 24))) := by
    refine ⟨World.ownsRow_nil _ _ _ _, below_two _ _ _, (Below.heap_alloc _ _ _ (by simp)).trans (heap_alloc_new _ _), ?_⟩
    have := heap_alloc_new (w.alloc (.cells #[.int .i64 0, .int .i64 0, .slice none 0 0] 24)) (.cells #[.int .i64 R, .int .i64 N, .slice none 0 0] 24)
    rwa [show (w.alloc _).heap.size = w.heap.size + 1 by simp] at this
  have HI0 : Hid (Least (l.take 0) []) := by rw [List.take_zero]; exact Least.nil
  clear hc hLe hF hR hN hL
  go_enter Try.func38, Try.ntmps38
  go_wp2_with fail
  go_loopg [9, 10] L (fun g s9 s10 wr => ∃ (k : Nat) (v : Value) (o : List E), k ≤ L ∧ o.length ≤ k ∧ L - k ≤ g ∧ s9 = .int .i64 (k : Int) ∧ (∃ u, u = s10) ∧ Hid (Least (l.take k) o) ∧ Hid (ROfS w R N v o wr))
  case atStart => exact ⟨0, _, [], by omega, Nat.le_refl _, by omega, rfl, ⟨_, rfl⟩, HI0, HS0⟩
  case round =>
    clear HI0 HS0
    obtain ⟨k, v, o, hk, hok, hg, rfl, ⟨u10, rfl⟩, HI, HS⟩ := hrel
    have hrdo := rd3_own HS.out.1
    have hol : o.length ≤ L := by omega
    by_cases hlt : k < L
    · obtain ⟨e, he⟩ : ∃ y, l[k]? = some y := ⟨_, List.getElem?_eq_getElem (by have := HL.out; omega)⟩
      obtain ⟨bl, off, rfl, hbl, c0, c1, c2⟩ := HC.out k e he
      have HCC := Lib.hid (And.intro hbl (And.intro c0 (And.intro c1 c2)))
      have d0 := carryB HS.out.2.1 hbl c0
      have d1 := carryB HS.out.2.1 hbl c1
      have htk : l.take (k + 1) = l.take k ++ [e] := by rw [List.take_add_one, he]; rfl
      have HTK := Lib.hid htk
      have HFD : Hid (∀ W, Below wr.heap.size wr W → Calls Try.prog 56 #[.agg #[.int .i64 R, .int .i64 N, v], .int .i64 e.1, .int .i64 e.2.1] W fun e' w' => ∃ r, e' = .returned (.int .i64 r) ∧ FndP o e.1 e.2.1 r ∧ Below W.heap.size W w') := fun W hW => find56_any R N e.1 e.2.1 o v W (hrdo.below hW)
      have HPU : Hid (∀ W, Below wr.heap.size wr W → Calls Try.prog 65 #[v, .agg #[.int .i64 e.1, .int .i64 e.2.1, .int .i64 e.2.2]] W fun e' w' => ∃ v', e' = .returned v' ∧ OwnL (W.heap.size + 1) w' v' (putE e o) ∧ Below W.heap.size W w') := fun W hW => put65_any o e v W (by omega) (hrdo.below hW)
      obtain ⟨ad2, cap2, rfl⟩ := rd3_slice hrdo
      have g0 : wr.cell? ⟨w.heap.size + 1, 0, none⟩ = some (.int .i64 R) := cell_of HS.out.2.2.2 rfl
      have g1 : wr.cell? ⟨w.heap.size + 1, 1, none⟩ = some (.int .i64 N) := cell_of HS.out.2.2.2 rfl
      have g2 : wr.cell? ⟨w.heap.size + 1, 2, none⟩ = some (.slice ad2 o.length cap2) := cell_of HS.out.2.2.2 rfl
      have k0 : (0 : Int) ≤ (k : Int) := by omega
      have k1 : (k : Int) < (L : Int) := by omega
      obtain ⟨x, y, z⟩ := e
      dsimp only at d0 d1 HFD HPU HCC
      clear c0 c1 c2 he htk hbl hrdo
      go_wp2_with fail
      go_region_held3 (fun w' => w'.cell? ⟨w.heap.size + 1, 0, none⟩ = some (.int .i64 R) ∧ w'.cell? ⟨w.heap.size + 1, 1, none⟩ = some (.int .i64 N) ∧ w'.cell? ⟨w.heap.size + 1, 2, none⟩ = some (.slice ad2 o.length cap2) ∧ w'.cell? ⟨bl, off + k * 3, none⟩ = some (.int .i64 x) ∧ w'.cell? ⟨bl, off + k * 3 + 1, none⟩ = some (.int .i64 y))
        (first | exact ⟨g0, g1, g2, d0, d1⟩ | assumption)
        (first | (go_at_call 56; refine (HFD.out _ (Below.refl _ wr).drew).mono ?_; rintro en w3 ⟨q, rfl, hfp, hb⟩; have HB3 : Hid (Below wr.heap.size wr w3) := ⟨hb.os, hb.tape, hb.output, hb.size, hb.block⟩; have HFP := Lib.hid hfp; have hk := (And.intro (carry HB3.out g0) (And.intro (carry HB3.out g1) (And.intro (carry HB3.out g2) (And.intro (carry HB3.out d0) (carry HB3.out d1))))); clear hb hfp))
      all_goals (
        have S3 : Hid (ROfS w R N (.slice ad2 o.length cap2) o w3) := HS.out.below HB3.out
        have d0' := carryB S3.out.2.1 HCC.out.1 HCC.out.2.1
        have d1' := carryB S3.out.2.1 HCC.out.1 HCC.out.2.2.1
        have d2' := carryB S3.out.2.1 HCC.out.1 HCC.out.2.2.2
        have g2' := hk.2.2.1
        clear hk g0 g1 g2 d0 d1
        rcases HFP.out with ⟨rfl, hno⟩ | ⟨p, f, rfl, hpf, hsame, _⟩
        · have HI2 : Hid (Least (l.take (k + 1)) (putE (x, y, z) o)) := by have := HI.out.new (x := (x, y, z)) hno; rw [← HTK.out] at this; exact this
          have HLP : Hid ((putE (x, y, z) o).length ≤ k + 1) := by show _ ≤ _; rw [putE_len]; omega
          clear hno
          go_wp2_with fail
          go_region_with (go_at_call 65; refine (HPU.out _ (by first | exact HB3.out.drew | exact HB3.out)).mono ?_; rintro en w5 ⟨v5, rfl, hown, hb⟩; have HB5 : Hid (Below w3.heap.size w3 w5) := ⟨hb.os, hb.tape, hb.output, hb.size, hb.block⟩; obtain ⟨ad5, cap5, rfl⟩ := rd3_slice (rd3_own hown); have HOW := Lib.hid hown; have hk5 := carry HB5.out g2'; clear hb hown; have y2 : w5.frozen? ⟨w.heap.size + 1, 2, none⟩ = false := free_of (S3.out.below HB5.out).2.2.2 _)
          all_goals (
            have S5 : Hid (ROfS w R N (.slice ad5 (putE (x, y, z) o).length cap5) (putE (x, y, z) o) (w5.setCell ⟨w.heap.size + 1, 2, none⟩ (.slice ad5 (putE (x, y, z) o).length cap5))) := (S3.out.below HB5.out).store (ownE_base HOW.out (by have := lt_block S3.out.2.2.2; simp; omega))
            go_wp2_with fail
            go_roundg (L - (k + 1))
            case measure => omega
            case rel => exact ⟨k + 1, _, _, by omega, HLP.out, Nat.le_refl _, by go_num, ⟨_, rfl⟩, HI2, S5⟩)
        · have hpo : p < o.length := (List.getElem?_eq_some_iff.1 hpf).1
          obtain ⟨gb, cap3, hv3, hgb, hgl⟩ := World.ownsRow.form S3.out.1 (by omega)
          injection hv3 with e1 e2 e3
          subst e1
          subst e3
          have hcell := S3.out.1.cellAt (p * 3 + 2) (by omega)
          rw [(flatE_get o p f hpf).2.2] at hcell
          have hfro := S3.out.1.frozenAt (p * 3 + 2)
          have HSM := Lib.hid hsame
          have HPF := Lib.hid hpf
          obtain ⟨fx, fy, fz⟩ := f
          dsimp only at hcell HSM
          have p0 : (0 : Int) ≤ (p : Int) := by omega
          have p1 : (p : Int) < (o.length : Int) := by omega
          have p2 : ¬ (p : Int) < 0 := by omega
          clear hsame hpf hgb hgl e2
          by_cases hcz : z < fz
          · have HI2 : Hid (Least (l.take (k + 1)) (o.set p (x, y, z))) := by have := HI.out.cheaper (x := (x, y, z)) HPF.out HSM.out.1 HSM.out.2 hcz; rw [← HTK.out] at this; exact this
            have S5 : Hid (∀ q, ROfS w R N (.slice (some ⟨gb, 0, none⟩) o.length cap2) (o.set p (x, y, z)) ((w3.drewN q).setCell ⟨gb, p * 3 + 2, none⟩ (.int .i64 z))) := fun q => (S3.out.below (below_drewN (Below.refl _ _) q)).cost HPF.out HSM.out.1 HSM.out.2
            have HLS : Hid ((o.set p (x, y, z)).length ≤ k + 1) := by show _ ≤ _; rw [List.length_set]; omega
            go_wp2_with fail
            go_quiet (fail)
            go_wp2_with fail
            go_region
            all_goals (
              go_wp2_with fail
              go_roundg (L - (k + 1))
              case measure => omega
              case rel => exact ⟨k + 1, _, _, by omega, HLS.out, Nat.le_refl _, by go_num, ⟨_, rfl⟩, HI2, S5.out _⟩)
          · have HI2 : Hid (Least (l.take (k + 1)) o) := by have := HI.out.stay (x := (x, y, z)) (List.mem_of_getElem? HPF.out) HSM.out.1 HSM.out.2 (by dsimp only; omega); rw [← HTK.out] at this; exact this
            have hcz' : decide (z < fz) = false := decide_eq_false hcz
            go_wp2_with fail
            go_quiet (fail)
            go_wp2_with fail
            go_roundg (L - (k + 1))
            case measure => omega
            case rel => exact ⟨k + 1, _, _, by omega, by omega, Nat.le_refl _, by go_num, ⟨_, rfl⟩, HI2, (S3.out.below (below_drewN (Below.refl _ _) _))⟩)
    · have k1 : decide ((k : Int) < (L : Int)) = false := decide_eq_false (by omega)
      have hor : o = r := by
        have := HI.out
        rw [List.take_of_length_le (by have := HL.out; omega)] at this
        exact this.unique HLE.out
      subst hor
      obtain ⟨ad2, cap2, rfl⟩ := rd3_slice hrdo
      have HRO := Lib.hid hrdo
      have g0 : wr.cell? ⟨w.heap.size + 1, 0, none⟩ = some (.int .i64 R) := cell_of HS.out.2.2.2 rfl
      have g1 : wr.cell? ⟨w.heap.size + 1, 1, none⟩ = some (.int .i64 N) := cell_of HS.out.2.2.2 rfl
      have g2 : wr.cell? ⟨w.heap.size + 1, 2, none⟩ = some (.slice ad2 o.length cap2) := cell_of HS.out.2.2.2 rfl
      clear hrdo
      go_wp2_with fail
      go_at_call 18
      refine (HCK.out _ _ HRO.out).mono ?_
      rintro e w4 ⟨rfl, hb4⟩
      have S4 : Hid (ROfS w R N (.slice ad2 o.length cap2) o w4) := HS.out.below hb4
      have g0' : w4.cell? ⟨w.heap.size + 1, 0, none⟩ = some (.int .i64 R) := cell_of S4.out.2.2.2 rfl
      have g1' : w4.cell? ⟨w.heap.size + 1, 1, none⟩ = some (.int .i64 N) := cell_of S4.out.2.2.2 rfl
      have g2' : w4.cell? ⟨w.heap.size + 1, 2, none⟩ = some (.slice ad2 o.length cap2) := cell_of S4.out.2.2.2 rfl
      have z0 : w4.cell? ⟨w.heap.size, 0, none⟩ = some (.int .i64 0) := cell_of S4.out.2.2.1 rfl
      have z1 : w4.cell? ⟨w.heap.size, 1, none⟩ = some (.int .i64 0) := cell_of S4.out.2.2.1 rfl
      have z2 : w4.cell? ⟨w.heap.size, 2, none⟩ = some (.slice none 0 0) := cell_of S4.out.2.2.1 rfl
      have y0 : w4.frozen? ⟨w.heap.size, 0, none⟩ = false := free_of S4.out.2.2.1 _
      have y1 : w4.frozen? ⟨w.heap.size, 1, none⟩ = false := free_of S4.out.2.2.1 _
      have y2 : w4.frozen? ⟨w.heap.size, 2, none⟩ = false := free_of S4.out.2.2.1 _
      have RB : Hid (∀ u0 u1 u2, Rd3 (((w4.setCell ⟨w.heap.size, 0, none⟩ u0).setCell ⟨w.heap.size, 1, none⟩ u1).setCell ⟨w.heap.size, 2, none⟩ u2) (.slice ad2 o.length cap2) o ∧ Below w.heap.size w (((w4.setCell ⟨w.heap.size, 0, none⟩ u0).setCell ⟨w.heap.size, 1, none⟩ u1).setCell ⟨w.heap.size, 2, none⟩ u2)) := fun u0 u1 u2 => by
        have hh : ∀ g : Nat, w.heap.size + 2 ≤ g → (((w4.setCell ⟨w.heap.size, 0, none⟩ u0).setCell ⟨w.heap.size, 1, none⟩ u1).setCell ⟨w.heap.size, 2, none⟩ u2).heap[g]? = w4.heap[g]? := fun g hg => by
          rw [heap_set_ne (by omega), heap_set_ne (by omega), heap_set_ne (by omega)]
        exact ⟨rd3_own (row_congr S4.out.1 (fun g hg => hh g (row_lt S4.out.1 hg).1)), ((S4.out.2.1.setCell (Nat.le_refl _) _).setCell (Nat.le_refl _) _).setCell (Nat.le_refl _) _⟩
      clear hb4 g0 g1 g2
      by_cases hq : chk R N o = 0
      · have HV : Hid (ofV R N o (.slice ad2 o.length cap2) = .agg #[.int .i64 R, .int .i64 N, .slice ad2 o.length cap2]) := if_pos hq
        have HQ := Lib.hid hq
        rw [hq]
        clear hq
        go_wp2
        (try simp only [Exit.inBlock, Exit.then])
        refine bodyPost_ret (v := .tuple #[.agg #[.int .i64 R, .int .i64 N, .slice ad2 o.length cap2], .int .i64 0]) (by rw [results_cell_tmp rfl]; go_simp) rfl ?_
        exact ⟨_, by rw [HV.out, HQ.out], (RB.out _ _ _).1, (RB.out _ _ _).2⟩
      · have HV : Hid (ofV R N o (.slice ad2 o.length cap2) = .agg #[.int .i64 0, .int .i64 0, .slice none 0 0]) := if_neg hq
        generalize hz : chk R N o = q at *
        have hq1 : (q == 0) = false := by simpa using hq
        have hq2 : (q != 0) = true := by simpa using hq
        have HZ := Lib.hid hz
        clear hq hz
        go_wp2
        (try simp only [Exit.inBlock, Exit.then])
        refine bodyPost_ret (v := .tuple #[.agg #[.int .i64 0, .int .i64 0, .slice none 0 0], .int .i64 q]) (by rw [results_cell_tmp rfl]; go_simp) rfl ?_
        exact ⟨_, by rw [HV.out, HZ.out], (RB.out _ _ _).1, (RB.out _ _ _).2⟩
/-- the list of each pair's cheapest edges is there -/
theorem least_ex (l : List E) : ∃ r, Least l r := by
  have : ∀ k, k ≤ l.length → ∃ r, Least (l.take k) r := by
    intro k
    induction k with
    | zero => intro _; exact ⟨[], by rw [List.take_zero]; exact Least.nil⟩
    | succ k ih =>
      intro hk
      obtain ⟨o, ho⟩ := ih (by omega)
      have hx : l[k]? = some l[k] := List.getElem?_eq_getElem (by omega)
      have ht : l.take (k + 1) = l.take k ++ [l[k]] := by rw [List.take_add_one, hx]; rfl
      rw [ht]
      by_cases h : ∃ e ∈ o, e.1 = l[k].1 ∧ e.2.1 = l[k].2.1
      · obtain ⟨e, he, h1, h2⟩ := h
        by_cases hc : e.2.2 ≤ l[k].2.2
        · exact ⟨o, ho.stay he h1 h2 hc⟩
        · obtain ⟨i, hi, hie⟩ := List.getElem_of_mem he
          exact ⟨_, ho.cheaper (k := i) (by rw [List.getElem?_eq_getElem hi, hie]) h1 h2 (by omega)⟩
      · exact ⟨_, ho.new (fun y hy hs => h ⟨y, hy, hs⟩)⟩
  obtain ⟨r, hr⟩ := this l.length (Nat.le_refl _)
  exact ⟨r, by rwa [List.take_length] at hr⟩
theorem gof_walk (R N : Int) (l : List E) (v : Value) (w : World) (hR : I64 R) (hN : I64 N) (hl : Fits l) (hr : Rd3 w v l) (hF : FitT l) :
    Calls Try.prog 8 #[.int .i64 R, .int .i64 N, v] w fun e w' => e = .returned (.bool true) ∧ Below w.heap.size w w' := by
  obtain ⟨r, hLe⟩ := least_ex l
  have H37 : Hid (Calls Try.prog 37 #[.int .i64 R, .int .i64 N, v] w fun e w' => ∃ s, e = .returned (.tuple #[ofV R N r s, .int .i64 (chk R N r)]) ∧ OwnS w.heap.size w' s r ∧ Below w.heap.size w w') := of_any R N l r v w hR hN hl hr hLe
  have H38 : Hid (∀ W, Below w.heap.size w W → Calls Try.prog 38 #[.int .i64 R, .int .i64 N, v] W fun e w' => ∃ s, e = .returned (.tuple #[ofV R N r s, .int .i64 (chk R N r)]) ∧ Rd3 w' s r ∧ Below W.heap.size W w') := fun W hW => rof_any R N l r v W hR hN hl hF (hr.below hW) hLe
  obtain ⟨ad, cap, rfl⟩ := rd3_slice hr
  clear hr hF hR hN hl hLe
  by_cases hq : chk R N r = 0
  · have HV : Hid (∀ s, ofV R N r s = .agg #[.int .i64 R, .int .i64 N, s]) := fun s => if_pos hq
    rw [hq] at H37 H38
    clear hq
    go_enter Try.func8, Try.ntmps8
    go_wp2_with fail
    go_at_call 37
    refine H37.out.mono ?_
    rintro e w1 ⟨s1, rfl, hs1, hb1⟩
    rw [HV.out]
    have hs1 := hs1.rd
    obtain ⟨ad1, cap1, rfl⟩ := rd3_slice hs1
    have HS1 := Lib.hid hs1
    have HB1 := Lib.hid hb1
    clear hs1 hb1
    go_wp2_with fail
    have HX1 : Hid ((w1.alloc (.cells #[.int .i64 R, .int .i64 N, .slice ad1 r.length cap1] 24)).heap[w1.heap.size]? = some (.cells #[.int .i64 R, .int .i64 N, .slice ad1 r.length cap1] 24 (0, 0))) := heap_alloc_new _ _
    have HB2 : Hid (Below w1.heap.size w1 (w1.alloc (.cells #[.int .i64 R, .int .i64 N, .slice ad1 r.length cap1] 24))) := below_alloc _ _
    generalize w1.alloc (.cells #[.int .i64 R, .int .i64 N, .slice ad1 r.length cap1] 24) = W2 at *
    go_at_call 38
    refine (H38.out _ (below_then HB1.out HB2.out)).mono ?_
    rintro e w3 ⟨s3, rfl, hs3, hb3⟩
    rw [HV.out]
    obtain ⟨ad3, cap3, rfl⟩ := rd3_slice hs3
    have HS3 := Lib.hid hs3
    have HB3 := Lib.hid hb3
    have HX3 : Hid (w3.heap[w1.heap.size]? = some (.cells #[.int .i64 R, .int .i64 N, .slice ad1 r.length cap1] 24 (0, 0))) := (hb3.block _ (lt_block HX1.out)).trans HX1.out
    have g0 : ∀ o, (w3.alloc o).cell? ⟨w1.heap.size, 0, none⟩ = some (.int .i64 R) := fun o => Lib.cell?_alloc_some _ (cell_of HX3.out rfl)
    have g1 : ∀ o, (w3.alloc o).cell? ⟨w1.heap.size, 1, none⟩ = some (.int .i64 N) := fun o => Lib.cell?_alloc_some _ (cell_of HX3.out rfl)
    have g2 : ∀ o, (w3.alloc o).cell? ⟨w1.heap.size, 2, none⟩ = some (.slice ad1 r.length cap1) := fun o => Lib.cell?_alloc_some _ (cell_of HX3.out rfl)
    clear hs3 hb3
    go_wp2_with fail
    go_at_call 27
    refine (same27_any R N r _ _ _ (((HS1.out.below HB2.out).below HB3.out).below (below_alloc _ _)) (HS3.out.below (below_alloc _ _))).mono ?_
    rintro e w5 ⟨rfl, hb5⟩
    have HB5 := Lib.hid (below_then (below_then HB1.out HB2.out) (below_then HB3.out (below_then (below_alloc _ _) hb5)))
    clear hb5 g0 g1 g2
    go_wp2_with (go_at_call 19; refine (lives_any _).mono ?_; rintro e w6 ⟨rfl, hb6⟩; have HB6 := Lib.hid hb6; clear hb6)
    go_ret
    exact ⟨rfl, below_then HB5.out HB6.out⟩
  · have HV : Hid (∀ s, ofV R N r s = .agg #[.int .i64 0, .int .i64 0, .slice none 0 0]) := fun s => if_neg hq
    generalize chk R N r = q at *
    have hq1 : (q == q) = true := by simp
    clear hq
    go_enter Try.func8, Try.ntmps8
    go_wp2_with fail
    go_at_call 37
    refine H37.out.mono ?_
    rintro e w1 ⟨s1, rfl, hs1, hb1⟩
    rw [HV.out]
    have HB1 := Lib.hid hb1
    clear hs1 hb1
    go_wp2_with fail
    have HX1 : Hid ((w1.alloc (.cells #[.int .i64 0, .int .i64 0, .slice none 0 0] 24)).heap[w1.heap.size]? = some (.cells #[.int .i64 0, .int .i64 0, .slice none 0 0] 24 (0, 0))) := heap_alloc_new _ _
    have HB2 : Hid (Below w1.heap.size w1 (w1.alloc (.cells #[.int .i64 0, .int .i64 0, .slice none 0 0] 24))) := below_alloc _ _
    generalize w1.alloc (.cells #[.int .i64 0, .int .i64 0, .slice none 0 0] 24) = W2 at *
    go_at_call 38
    refine (H38.out _ (below_then HB1.out HB2.out)).mono ?_
    rintro e w3 ⟨s3, rfl, hs3, hb3⟩
    rw [HV.out]
    have HB3 := Lib.hid hb3
    have HX3 : Hid (w3.heap[w1.heap.size]? = some (.cells #[.int .i64 0, .int .i64 0, .slice none 0 0] 24 (0, 0))) := (hb3.block _ (lt_block HX1.out)).trans HX1.out
    have g0 : ∀ o, (w3.alloc o).cell? ⟨w1.heap.size, 0, none⟩ = some (.int .i64 0) := fun o => Lib.cell?_alloc_some _ (cell_of HX3.out rfl)
    have g1 : ∀ o, (w3.alloc o).cell? ⟨w1.heap.size, 1, none⟩ = some (.int .i64 0) := fun o => Lib.cell?_alloc_some _ (cell_of HX3.out rfl)
    have g2 : ∀ o, (w3.alloc o).cell? ⟨w1.heap.size, 2, none⟩ = some (.slice none 0 0) := fun o => Lib.cell?_alloc_some _ (cell_of HX3.out rfl)
    clear hs3 hb3
    go_wp2_with fail
    go_at_call 27
    refine (same27_any 0 0 [] _ _ _ (rd3_nil _) (rd3_nil _)).mono ?_
    rintro e w5 ⟨rfl, hb5⟩
    have HB5 := Lib.hid (below_then (below_then HB1.out HB2.out) (below_then HB3.out (below_then (below_alloc _ _) hb5)))
    clear hb5 g0 g1 g2
    go_wp2_with (go_at_call 19; refine (lives_any _).mono ?_; rintro e w6 ⟨rfl, hb6⟩; have HB6 := Lib.hid hb6; clear hb6)
    go_ret
    exact ⟨rfl, below_then HB5.out HB6.out⟩
end Go.Proofs.Ytiodpgannelgpaa
