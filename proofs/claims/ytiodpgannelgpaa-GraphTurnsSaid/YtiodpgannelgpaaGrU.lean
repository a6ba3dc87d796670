/-
  The walk of the library's CompactFunc at edges.
-/
import Derived.Test.YtiodpgannelgpaaGrT
namespace Go.Proofs.Ytiodpgannelgpaa
open Go.RowKit GM Go.Sort Go.Lib
set_option linter.unusedSimpArgs false
set_option linter.unusedVariables false
set_option maxHeartbeats 4000000
set_option maxRecDepth 100000

/-- place j is the first of its run -/
def kpE (d : Array E) (j : Nat) : Bool := decide (j = 0 ∨ sk d[j]! d[j - 1]! = false)
theorem kpE_pos {d : Array E} {m : Nat} (h : sk d[m]! d[m - 1]! = false) : kpE d m = true := decide_eq_true (.inr h)
theorem kpE_neg {d : Array E} {m : Nat} (hm : 0 < m) (h : sk d[m]! d[m - 1]! = true) : kpE d m = false := decide_eq_false (by rintro (h' | h'); omega; rw [h] at h'; cases h')
theorem kpE_one (d : Array E) : ∀ j, j < 1 → kpE d j = true := fun j hj => decide_eq_true (.inl (by omega))
theorem compact_any (blk off cap : Nat) (d : Array E) (w : World) (hH : HoldsK encE 3 w blk off d) (hsz : d.size ≤ 5864062014634) (hcap : d.size ≤ cap) (hcap2 : cap ≤ 9223372036854775807) (hblk : blk < w.heap.size) :
    Calls Try.prog 77 #[.slice (some ⟨blk, off, none⟩) d.size cap, .func (.func 78) #[] #[]] w fun e w' => ∃ v', e = .returned v' ∧ OwnE blk off w' v' (pickU (kpE d) d d.size) ∧ Below blk w w' := by
  have same : ∀ W, Below w.heap.size w W → (∀ j, j < d.size → kpE d j = true) → OwnE blk off W (.slice (some ⟨blk, off, none⟩) d.size cap) (pickU (kpE d) d d.size) := by
    intro W hb hall
    have e : pickU (kpE d) d d.size = d.toList := pickU_whole _ d hall
    rw [e]
    exact ⟨cap, by simp, by simpa using hcap, hcap2, by simpa using holdsE_below hH hb hblk, Nat.lt_of_lt_of_le hblk hb.size⟩
  have HS : Hid (∀ W, Below w.heap.size w W → (∀ j, j < d.size → kpE d j = true) → OwnE blk off W (.slice (some ⟨blk, off, none⟩) d.size cap) (pickU (kpE d) d d.size)) := same
  have HH : Hid (HoldsK encE 3 w blk off d) := hH
  have HF : Hid (∀ a b W, Calls Try.prog 78 #[.agg #[.int .i64 a.1, .int .i64 a.2.1, .int .i64 a.2.2], .agg #[.int .i64 b.1, .int .i64 b.2.1, .int .i64 b.2.2]] W fun e w' => e = .returned (.bool (sk a b)) ∧ Gr W w') := same78_any
  have HC2 := Lib.hid hcap2
  clear same hH hcap2
  by_cases h2 : d.size < 2
  · go_enter Try.func77, Try.ntmps77
    go_wp2
    go_ret
    exact ⟨_, rfl, HS.out _ (Below.refl _ _) (fun j hj => kpE_one d j (by omega)), Below.refl _ _⟩
  · go_enter Try.func77, Try.ntmps77
    go_wp2_with fail
    go_loopg [5] d.size (fun g s5 wr => ∃ k : Nat, 1 ≤ k ∧ k ≤ d.size ∧ d.size - k ≤ g ∧ s5 = .int .i64 k ∧ Hid (HoldsK encE 3 wr blk off d ∧ Below w.heap.size w wr) ∧ Hid (∀ j, j < k → kpE d j = true))
    case atStart => exact ⟨1, Nat.le_refl _, by omega, by omega, rfl, ⟨HH.out, Below.refl _ _⟩, kpE_one d⟩
    case round =>
      obtain ⟨k, hk1, hk, hg, rfl, HW, HA⟩ := hrel
      by_cases hlt : k < d.size
      · obtain ⟨⟨a, b, c⟩, hx⟩ : ∃ x, d[k]! = x := ⟨_, rfl⟩
        obtain ⟨⟨a', b', c'⟩, hy⟩ : ∃ x, d[k - 1]! = x := ⟨_, rfl⟩
        obtain ⟨⟨c0, c1, c2⟩, f0, f1, f2⟩ := he_cells HW.out.1 hlt hx
        obtain ⟨⟨p0, p1, p2⟩, q0, q1, q2⟩ := he_cells HW.out.1 (show k - 1 < d.size by omega) hy
        have HX := Lib.hid (And.intro hx hy)
        have HFe : Hid (∀ W, Calls Try.prog 78 #[.agg #[.int .i64 a, .int .i64 b, .int .i64 c], .agg #[.int .i64 a', .int .i64 b', .int .i64 c']] W fun e w' => e = .returned (.bool (sk (a, b, c) (a', b', c'))) ∧ Gr W w') := fun W => HF.out (a, b, c) (a', b', c') W
        have HKS : Hid (∃ q, sk (a, b, c) (a', b', c') = q) := ⟨_, rfl⟩
        have hk0 : (0 : Int) ≤ ((k : Int) - 1) := by omega
        have hk2 : ((k : Int) - 1) < (d.size : Int) := by omega
        have hkw : IntKind.i64.wrap ((k : Int) - 1) = (k : Int) - 1 := IntWalk.i64_in _ (by omega)
        have kz0 : (0 : Int) ≤ (k : Int) := by omega
        have kz1 : (k : Int) < (d.size : Int) := by omega
        have kz3 : (1 : Int) ≤ (k : Int) := by omega
        have kz4 : (k : Int) ≤ (d.size : Int) := by omega
        have kz5 : ((k : Int) - 1).toNat = k - 1 := by omega
        clear hx hy f0 f1 f2 q0 q1 q2
        go_wp2_with fail
        go_region_held3 (fun w' => w'.cell? ⟨blk, off + k * 3, none⟩ = some (.int .i64 a) ∧ w'.cell? ⟨blk, off + k * 3 + 1, none⟩ = some (.int .i64 b) ∧ w'.cell? ⟨blk, off + k * 3 + 2, none⟩ = some (.int .i64 c) ∧ w'.cell? ⟨blk, off + (k - 1) * 3, none⟩ = some (.int .i64 a') ∧ w'.cell? ⟨blk, off + (k - 1) * 3 + 1, none⟩ = some (.int .i64 b') ∧ w'.cell? ⟨blk, off + (k - 1) * 3 + 2, none⟩ = some (.int .i64 c'))
          (first | exact ⟨c0, c1, c2, p0, p1, p2⟩ | assumption)
          (first | (go_at_call 78; refine (HFe.out _).mono ?_; rintro e w3 ⟨rfl, hg⟩; have G := Lib.hid hg; have hk := (And.intro (carry hg.below (show wr.drew.cell? _ = _ from c0)) (And.intro (carry hg.below (show wr.drew.cell? _ = _ from c1)) (And.intro (carry hg.below (show wr.drew.cell? _ = _ from c2)) (And.intro (carry hg.below (show wr.drew.cell? _ = _ from p0)) (And.intro (carry hg.below (show wr.drew.cell? _ = _ from p1)) (carry hg.below (show wr.drew.cell? _ = _ from p2))))))); clear hg))
        all_goals (
          have B2 : Hid (Below w.heap.size w w3) := HW.out.2.trans ((⟨G.out.below.os, G.out.below.tape, G.out.below.output, G.out.below.size, G.out.below.block⟩ : Below wr.heap.size wr w3).mono (by have := HW.out.2.size; omega))
          have hwr : blk < wr.heap.size := Nat.lt_of_lt_of_le hblk HW.out.2.size
          have H3 : Hid (HoldsK encE 3 w3 blk off d) := holdsE_below HW.out.1 (⟨G.out.below.os, G.out.below.tape, G.out.below.output, G.out.below.size, G.out.below.block⟩ : Below wr.heap.size wr w3) hwr
          clear hk HFe c0 c1 c2 p0 p1 p2
          by_cases hdup : sk (a, b, c) (a', b', c') = true
          · have HD := Lib.hid hdup
            rw [hdup]
            clear hdup
            go_wp2_with fail
            go_loopg [5, 7] d.size (fun g s5 s7 wr => ∃ (kk k2 : Nat) (dk : Array E), s5 = .int .i64 kk ∧ s7 = .int .i64 k2 ∧ 1 ≤ k2 ∧ k + k2 ≤ d.size ∧ d.size - (k + k2) ≤ g ∧ Hid (HoldsK encE 3 wr blk off dk ∧ Below blk w wr) ∧ PickInv (kpE d) d (k + k2) kk dk)
            case atStart => exact ⟨k, 1, d, rfl, rfl, Nat.le_refl _, by omega, by omega, ⟨H3.out, B2.out.mono (by omega)⟩, PickInv.start HA.out (kpE_neg (by omega) (by rw [HX.out.1, HX.out.2]; exact HD.out))⟩
            case round =>
              obtain ⟨kk, k2, dk, rfl, rfl, h1, hle, hg2, HV, hI⟩ := hrel
              have hkk := hI.lt
              have hds := hI.size
              have I2 : Hid (PickInv (kpE d) d (k + k2) kk dk) := hI
              clear hI
              by_cases hlt2 : k + k2 < d.size
              · obtain ⟨⟨ua, ub, uc⟩, hu⟩ : ∃ x, d[k + k2]! = x := ⟨_, rfl⟩
                obtain ⟨⟨va, vb, vc⟩, hv⟩ : ∃ x, d[k + k2 - 1]! = x := ⟨_, rfl⟩
                obtain ⟨⟨oa, ob, oc⟩, ho⟩ : ∃ x, dk[kk]! = x := ⟨_, rfl⟩
                obtain ⟨⟨c0, c1, c2⟩, _, _, _⟩ := he_cells HV.out.1 (show k + k2 < dk.size by omega) ((I2.out.high (k + k2) (by omega)).trans hu)
                obtain ⟨⟨p0, p1, p2⟩, _, _, _⟩ := he_cells HV.out.1 (show k + k2 - 1 < dk.size by omega) ((I2.out.high (k + k2 - 1) (by omega)).trans hv)
                rw [show off + (k + k2) * 3 = off + k * 3 + k2 * 3 by omega] at c0 c1 c2
                rw [show off + (k + k2 - 1) * 3 = off + k * 3 + (k2 - 1) * 3 by omega] at p0 p1 p2
                have HU := Lib.hid (And.intro hu hv)
                have HFe : Hid (∀ W, Calls Try.prog 78 #[.agg #[.int .i64 ua, .int .i64 ub, .int .i64 uc], .agg #[.int .i64 va, .int .i64 vb, .int .i64 vc]] W fun e w' => e = .returned (.bool (sk (ua, ub, uc) (va, vb, vc))) ∧ Gr W w') := fun W => HF.out (ua, ub, uc) (va, vb, vc) W
                have hk0' : (0 : Int) ≤ ((k2 : Int) - 1) := by omega
                have hkw' : IntKind.i64.wrap ((k2 : Int) - 1) = (k2 : Int) - 1 := IntWalk.i64_in _ (by omega)
                clear hu hv ho
                have kz0' : (0 : Int) ≤ (k2 : Int) := by omega
                have kz1' : (k2 : Int) < ((d.size - k : Nat) : Int) := by omega
                have kz2' : (k2 : Int) - 1 < ((d.size - k : Nat) : Int) := by omega
                have kz3' : (1 : Int) ≤ (k2 : Int) := by omega
                have kz4' : (k2 : Int) ≤ ((d.size - k : Nat) : Int) := by omega
                have kz5' : ((k2 : Int) - 1).toNat = k2 - 1 := by omega
                go_wp2_with fail
                go_region_held3 (fun w' => w'.cell? ⟨blk, off + k * 3 + k2 * 3, none⟩ = some (.int .i64 ua) ∧ w'.cell? ⟨blk, off + k * 3 + k2 * 3 + 1, none⟩ = some (.int .i64 ub) ∧ w'.cell? ⟨blk, off + k * 3 + k2 * 3 + 2, none⟩ = some (.int .i64 uc) ∧ w'.cell? ⟨blk, off + k * 3 + (k2 - 1) * 3, none⟩ = some (.int .i64 va) ∧ w'.cell? ⟨blk, off + k * 3 + (k2 - 1) * 3 + 1, none⟩ = some (.int .i64 vb) ∧ w'.cell? ⟨blk, off + k * 3 + (k2 - 1) * 3 + 2, none⟩ = some (.int .i64 vc))
                  (first | exact ⟨c0, c1, c2, p0, p1, p2⟩ | assumption)
                  (first | (go_at_call 78; refine (HFe.out _).mono ?_; rintro e w4 ⟨rfl, hg⟩; have G := Lib.hid hg; have hk := (And.intro (carry hg.below (show wr.drew.cell? _ = _ from c0)) (And.intro (carry hg.below (show wr.drew.cell? _ = _ from c1)) (And.intro (carry hg.below (show wr.drew.cell? _ = _ from c2)) (And.intro (carry hg.below (show wr.drew.cell? _ = _ from p0)) (And.intro (carry hg.below (show wr.drew.cell? _ = _ from p1)) (carry hg.below (show wr.drew.cell? _ = _ from p2))))))); clear hg))
                all_goals (
                  have hwr2 : blk < wr.heap.size := Nat.lt_of_lt_of_le hblk HV.out.2.size
                  have B4 : Hid (Below wr.heap.size wr w4) := ⟨G.out.below.os, G.out.below.tape, G.out.below.output, G.out.below.size, G.out.below.block⟩
                  have B5 : Hid (Below blk w w4) := HV.out.2.trans (B4.out.mono (by omega))
                  have H4 : Hid (HoldsK encE 3 w4 blk off dk) := holdsE_below HV.out.1 B4.out hwr2
                  obtain ⟨u0, u1, u2⟩ : w4.cell? ⟨blk, off + k * 3 + k2 * 3, none⟩ = some (.int .i64 ua) ∧ w4.cell? ⟨blk, off + k * 3 + k2 * 3 + 1, none⟩ = some (.int .i64 ub) ∧ w4.cell? ⟨blk, off + k * 3 + k2 * 3 + 2, none⟩ = some (.int .i64 uc) := ⟨carryB B4.out hwr2 c0, carryB B4.out hwr2 c1, carryB B4.out hwr2 c2⟩
                  clear hk HFe c0 c1 c2 p0 p1 p2
                  by_cases huv : sk (ua, ub, uc) (va, vb, vc) = true
                  · have HD2 := Lib.hid huv
                    rw [huv]
                    clear huv u0 u1 u2
                    go_wp2_with fail
                    go_roundg (d.size - (k + (k2 + 1)))
                    case measure => omega
                    case rel => exact ⟨kk, k2 + 1, dk, rfl, by go_num, by omega, by omega, Nat.le_refl _, ⟨H4.out, B5.out⟩, I2.out.skip (kpE_neg (by omega) (by rw [HU.out.1, HU.out.2]; exact HD2.out))⟩
                  · have huf : sk (ua, ub, uc) (va, vb, vc) = false := by simpa using huv
                    have HD2 := Lib.hid huf
                    rw [huf]
                    obtain ⟨⟨oa, ob, oc⟩, ho⟩ : ∃ x, dk[kk]! = x := ⟨_, rfl⟩
                    obtain ⟨⟨o0, o1, o2⟩, o3, o4, o5⟩ := he_cells H4.out (show kk < dk.size by omega) ho
                    clear huv huf ho
                    go_wp2_with fail
                    go_roundg (d.size - (k + (k2 + 1)))
                    case measure => omega
                    case rel => exact ⟨kk + 1, k2 + 1, dk.setIfInBounds kk (ua, ub, uc), by go_num, by go_num, by omega, by omega, Nat.le_refl _, ⟨holdsE_store (W := w4) H4.out (by omega) (ua, ub, uc), setCells_below (Nat.le_refl _) (encE (ua, ub, uc)) _ w4 B5.out⟩, by have := I2.out.keep hlt2 (kpE_pos (by rw [HU.out.1, HU.out.2]; exact HD2.out)); rwa [HU.out.1] at this⟩)
              · have hend : k + k2 = d.size := by omega
                have hI := I2.out
                rw [hend] at hI
                obtain ⟨vs, hvl, hcl⟩ := clear_three (P := Try.prog) wr 22 52 (.int .i64 0) (.int .i64 0) (.int .i64 0) Try.underlying22 Try.zeroValue52 rfl rfl rfl blk (off + kk * 3) (d.size - kk) (cap - kk) (by omega)
                  (fun j hj => by rw [show off + kk * 3 + j = off + (kk * 3 + j) by omega, (HV.out.1 (kk * 3 + j) (by rw [size_flatK]; omega)).1]; rfl) (fun j hj => by rw [show off + kk * 3 + j = off + (kk * 3 + j) by omega]; exact (HV.out.1 (kk * 3 + j) (by rw [size_flatK]; omega)).2)
                have H2 := Lib.hid hI
                have HL := Lib.hid hvl
                clear hI hvl
                go_wp2
                go_ret
                have hsz2 : blk < (wr.setCells blk (off + kk * 3) vs).heap.size := Nat.lt_of_lt_of_le hblk (setCells_below (w := w) (Nat.le_refl _) vs (off + kk * 3) wr HV.out.2).size
                have hkk2 : kk ≤ cap := by omega
                refine ⟨_, rfl, own_of_pick H2.out hkk2 HC2.out (fun i hi => ?_) hsz2, setCells_below (Nat.le_refl _) vs (off + kk * 3) wr HV.out.2⟩
                obtain ⟨⟨ia, ib, ic⟩, hx⟩ : ∃ x, dk[i]! = x := ⟨_, rfl⟩
                have hc := he_cells HV.out.1 (show i < dk.size by omega) hx
                rw [hx]
                exact ⟨⟨(World.cell?_setCells_out blk vs _ wr ⟨blk, off + i * 3, none⟩ (fun _ _ => .inl (by show off + i * 3 < off + kk * 3; omega))).trans hc.1.1, (World.cell?_setCells_out blk vs _ wr ⟨blk, off + i * 3 + 1, none⟩ (fun _ _ => .inl (by show off + i * 3 + 1 < off + kk * 3; omega))).trans hc.1.2.1, (World.cell?_setCells_out blk vs _ wr ⟨blk, off + i * 3 + 2, none⟩ (fun _ _ => .inl (by show off + i * 3 + 2 < off + kk * 3; omega))).trans hc.1.2.2⟩,
                  (World.frozen?_setCells blk vs _ wr _).trans hc.2.1, (World.frozen?_setCells blk vs _ wr _).trans hc.2.2.1, (World.frozen?_setCells blk vs _ wr _).trans hc.2.2.2⟩
          · have hd2 : sk (a, b, c) (a', b', c') = false := by simpa using hdup
            have HD := Lib.hid hd2
            rw [hd2]
            clear hdup hd2
            go_wp2_with fail
            go_roundg (d.size - (k + 1))
            case measure => omega
            case rel =>
              refine ⟨k + 1, by omega, by omega, Nat.le_refl _, by go_num, ⟨H3.out, B2.out⟩, fun j hj => ?_⟩
              by_cases e : j = k
              · subst e
                exact kpE_pos (by rw [HX.out.1, HX.out.2]; exact HD.out)
              · exact HA.out j (by omega))
      · have hkd : k = d.size := by omega
        go_wp2
        go_ret
        exact ⟨_, rfl, HS.out _ HW.out.2 (fun j hj => HA.out j (by omega)), HW.out.2.mono (by omega)⟩
end Go.Proofs.Ytiodpgannelgpaa
