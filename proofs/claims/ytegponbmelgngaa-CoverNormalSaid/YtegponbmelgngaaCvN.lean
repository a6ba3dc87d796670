/-
  Plain facts on the summary; the walk of its law.
-/
import Derived.Test.YtegponbmelgngaaCvM
namespace Go.Proofs.Ytegponbmelgngaa
open Go.RowKit
set_option linter.unusedSimpArgs false
set_option linter.unusedVariables false
set_option maxHeartbeats 4000000
set_option maxRecDepth 100000

theorem con_C {p q : PP} {y : Nat} (h : C q p = true) (hc : con p.1 p.2 y = true) : con q.1 q.2 y = true := by
  have hv := C_V h
  have hp := (V_iff p).1 hv.2.1
  have hq := (V_iff q).1 hv.1
  have hb : con q.1 q.2 p.1 = true := by
    have : cov q.1 q.2 p.1 p.2 = true := h
    rwa [cov_in hv.2.1 hv.2.2.1] at this
  have e1 := (con_in hv.2.1 y).1 hc
  have e2 := (con_in hv.1 p.1).1 hb
  refine (con_in hv.1 y).2 ?_
  have n := CM.nest (x := p.1) (blk_al hv.1) (blk_al hv.2.1) (C_blk h) e2.1 e2.2 (Nat.le_refl _) (by have := CM.pow_pos' (blk p).2; show p.1 < p.1 + _; omega)
  have h3 : q.1 ≤ p.1 := n.1
  have h4 : p.1 + 2 ^ (32 - p.2.toNat) ≤ q.1 + 2 ^ (32 - q.2.toNat) := n.2
  omega
theorem sum_V {lo hi : Nat} : V (sumP lo hi) = true := by
  have hc := M.comN_le lo hi
  refine (V_iff _).2 ⟨by unfold sumP; dsimp only; omega, by unfold sumP; dsimp only; omega, ?_⟩
  show M.keepN (M.keepN lo (M.comN lo hi)) ((M.comN lo hi : Int)).toNat = _
  exact keep_keep _ _ _ (by omega) hc
theorem sum_in {lo hi : Nat} (h1 : lo < 4294967296) (h2 : hi < 4294967296) : CM.inB (blk (sumP lo hi)) lo ∧ CM.inB (blk (sumP lo hi)) hi := by
  have hc := M.comN_le lo hi
  have hk := (M.keep_com lo hi h1 h2 _ hc).2 (Nat.le_refl _)
  have a := CM.in_base lo (32 - M.comN lo hi)
  have b := CM.in_base hi (32 - M.comN lo hi)
  have e : blk (sumP lo hi) = (lo / 2 ^ (32 - M.comN lo hi) * 2 ^ (32 - M.comN lo hi), 32 - M.comN lo hi) := rfl
  have hk' : lo / 2 ^ (32 - M.comN lo hi) * 2 ^ (32 - M.comN lo hi) = hi / 2 ^ (32 - M.comN lo hi) * 2 ^ (32 - M.comN lo hi) := hk
  rw [e]
  unfold CM.inB
  dsimp only
  refine ⟨a, ?_⟩
  rw [hk']; exact b
theorem sum_covers {l : List PP} (hf : FitL l) {lo hi : Nat} (hE : Ends l lo hi) : ∀ p ∈ l, V p = true → C (sumP lo hi) p = true := by
  intro p hp hv
  have hl := mem_lt (fun x hx => (hf x hx).1) lo hE.1
  have hh := mem_lt (fun x hx => (hf x hx).1) hi hE.2.1
  have hpp := CM.pow_pos' (blk p).2
  have m1 := hE.2.2 (blk p).1 ((mem_iff l _).2 ⟨p, hp, hv, by constructor <;> omega⟩)
  have m2 := hE.2.2 ((blk p).1 + 2 ^ (blk p).2 - 1) ((mem_iff l _).2 ⟨p, hp, hv, by constructor <;> omega⟩)
  obtain ⟨a, b⟩ := sum_in hl hh
  exact C_of_block sum_V hv (by have := a.1; omega) (by have := b.2; omega)
theorem sum_half {l : List PP} (hf : FitL l) {lo hi : Nat} (hE : Ends l lo hi) {q : PP} (hq : V q = true) (h2 : q.2 = (sumP lo hi).2 + 1) : ∃ p ∈ l, V p = true ∧ C q p = false := by
  refine Classical.byContradiction fun hno => ?_
  have hall : ∀ p ∈ l, V p = true → C q p = true := fun p hp hv => by
    cases h : C q p
    · exact absurd ⟨p, hp, hv, h⟩ hno
    · rfl
  have hl := mem_lt (fun x hx => (hf x hx).1) lo hE.1
  have hh := mem_lt (fun x hx => (hf x hx).1) hi hE.2.1
  have key : ∀ y, mem l y = true → M.keepN y q.2.toNat = q.1 := fun y hy => by
    obtain ⟨p, hp, hv, hb⟩ := (mem_iff l y).1 hy
    have := con_C (hall p hp hv) ((con_in hv y).2 hb)
    unfold con at this
    rw [Bool.and_eq_true, decide_eq_true_iff, low_in ((V_iff q).1 hq).1 ((V_iff q).1 hq).2.1] at this
    exact this.2
  have e := (key lo hE.1).trans (key hi hE.2.1).symm
  have h32 := ((V_iff q).1 hq).2.1
  have hs : (sumP lo hi).2 = ((M.comN lo hi : Nat) : Int) := rfl
  rw [hs] at h2
  have := (M.keep_com lo hi hl hh q.2.toNat (by omega)).1 e
  omega
/-- the flags of the law's loop -/
def inF (q : PP) (l : List PP) : Bool := l.all (fun p => !V p || C q p)
theorem inF_snoc (q : PP) (l : List PP) (x : PP) : inF q (l ++ [x]) = (inF q l && (!V x || C q x)) := by unfold inF; rw [List.all_append]; simp
def anyV (l : List PP) : Bool := l.any V
theorem anyV_snoc (l : List PP) (x : PP) : anyV (l ++ [x]) = (anyV l || V x) := by unfold anyV; rw [List.any_append]; simp
theorem fit_sum {lo hi : Nat} (h1 : lo < 4294967296) : (sumP lo hi).1 < 4294967296 ∧ I64 (sumP lo hi).2 := ⟨Nat.lt_of_le_of_lt (M.keepN_le _ _) h1, V_I64 sum_V⟩
theorem sumlaw_core (l : List PP) (v : Value) (w : World) (hl : l.length ≤ 60) (hf : FitL l) (hr : Rd w v l) (s le ri : PP) (ok zz : Bool) (fs : s.1 < 4294967296 ∧ I64 s.2) (fl : le.1 < 4294967296 ∧ I64 le.2) (fr : ri.1 < 4294967296 ∧ I64 ri.2)
    (HSm : Hid (∀ W, Below w.heap.size w W → Calls Try.prog 18 #[v] W fun e w' => e = .returned (.tuple #[.agg #[.int .u32 (s.1 : Int), .int .i64 s.2], .bool ok]) ∧ Below W.heap.size W w'))
    (HHv : Hid (∀ W, Calls Try.prog 38 #[.agg #[.int .u32 (s.1 : Int), .int .i64 s.2]] W fun e w' => e = .returned (.tuple #[.agg #[.int .u32 (le.1 : Int), .int .i64 le.2], .agg #[.int .u32 (ri.1 : Int), .int .i64 ri.2], .bool zz]) ∧ Below W.heap.size W w'))
    (hall : ∀ p ∈ l, V p = true → C s p = true) (h0 : anyV l = false → ok = false) (h1 : anyV l = true → ok = true ∧ (s.2 = 32 ∨ (s.2 ≠ 32 ∧ inF le l = false ∧ inF ri l = false))) :
    Calls Try.prog 8 #[v] w fun e w' => e = .returned (.bool true) ∧ Below w.heap.size w w' := by
  obtain ⟨ad, cap, rfl, hc⟩ := hr
  obtain ⟨sa, sn⟩ := s
  obtain ⟨la, ln⟩ := le
  obtain ⟨ra, rn⟩ := ri
  have HLg := Lib.hid (large_no ad none l.length 0 cap 0 hl (by omega) w)
  have HC := Lib.hid hc
  have HF := Lib.hid hf
  have HALL := Lib.hid hall
  have FS := Lib.hid fs
  have FL := Lib.hid fl
  have FR := Lib.hid fr
  have H0 := Lib.hid h0
  have H1 := Lib.hid h1
  have AW : Hid (∀ W, Calls Try.prog 17 #[] W fun e w' => e = .returned (.bool true) ∧ Below W.heap.size W w') := fun W => awake5_any W
  dsimp only at HSm HHv
  clear hc hf hall fs fl fr h0 h1
  go_enter Try.func8, Try.ntmps8
  go_wp2_with fail
  go_at_call 16
  refine HLg.out.mono ?_
  rintro e w1 ⟨rfl, rfl⟩
  go_wp2_with fail
  go_at_call 18
  refine (HSm.out _ (Below.refl _ _)).mono ?_
  rintro e w2 ⟨rfl, hb⟩
  have B2 := Lib.hid hb
  clear hb
  go_wp2_with fail
  go_at_call 38
  refine (HHv.out _).mono ?_
  rintro e w3 ⟨rfl, hb⟩
  have B3 := Lib.hid (below_then (below_then B2.out (below_alloc _ _)) hb)
  obtain ⟨hc3, hf3⟩ := bcell hb
  have hz3 : w2.heap.size < w3.heap.size := by have := hb.size; simp at this; omega
  have g0 : w3.cell? ⟨w2.heap.size, 0, none⟩ = some (.int .u32 (sa : Int)) := by rw [hc3 _ _ (by simp)]; simp
  have g1 : w3.cell? ⟨w2.heap.size, 1, none⟩ = some (.int .i64 sn) := by rw [hc3 _ _ (by simp)]; simp
  clear hb hc3 hf3
  go_wp2_with fail
  have g0 : ((w3.alloc (.cells #[.int .u32 (la : Int), .int .i64 ln] 28)).alloc (.cells #[.int .u32 (ra : Int), .int .i64 rn] 28)).cell? ⟨w2.heap.size, 0, none⟩ = some (.int .u32 (sa : Int)) := carry (below_alloc _ _) (carry (below_alloc _ _) g0)
  have g1 : ((w3.alloc (.cells #[.int .u32 (la : Int), .int .i64 ln] 28)).alloc (.cells #[.int .u32 (ra : Int), .int .i64 rn] 28)).cell? ⟨w2.heap.size, 1, none⟩ = some (.int .i64 sn) := carry (below_alloc _ _) (carry (below_alloc _ _) g1)
  have g2 : ((w3.alloc (.cells #[.int .u32 (la : Int), .int .i64 ln] 28)).alloc (.cells #[.int .u32 (ra : Int), .int .i64 rn] 28)).cell? ⟨w3.heap.size, 0, none⟩ = some (.int .u32 (la : Int)) := carry (below_alloc _ _) (by simp)
  have g3 : ((w3.alloc (.cells #[.int .u32 (la : Int), .int .i64 ln] 28)).alloc (.cells #[.int .u32 (ra : Int), .int .i64 rn] 28)).cell? ⟨w3.heap.size, 1, none⟩ = some (.int .i64 ln) := carry (below_alloc _ _) (by simp)
  have g4 : ((w3.alloc (.cells #[.int .u32 (la : Int), .int .i64 ln] 28)).alloc (.cells #[.int .u32 (ra : Int), .int .i64 rn] 28)).cell? ⟨w3.heap.size + 1, 0, none⟩ = some (.int .u32 (ra : Int)) := by simp
  have g5 : ((w3.alloc (.cells #[.int .u32 (la : Int), .int .i64 ln] 28)).alloc (.cells #[.int .u32 (ra : Int), .int .i64 rn] 28)).cell? ⟨w3.heap.size + 1, 1, none⟩ = some (.int .i64 rn) := by simp
  have B4 := Lib.hid (below_then (below_then B3.out (below_alloc w3 (.cells #[.int .u32 (la : Int), .int .i64 ln] 28))) (below_alloc _ (.cells #[.int .u32 (ra : Int), .int .i64 rn] 28)))
  have hz4 : ((w3.alloc (.cells #[.int .u32 (la : Int), .int .i64 ln] 28)).alloc (.cells #[.int .u32 (ra : Int), .int .i64 rn] 28)).heap.size = w3.heap.size + 2 := by simp
  obtain ⟨q1, hq1⟩ : ∃ q1, w2.heap.size = q1 := ⟨_, rfl⟩
  obtain ⟨q2, hq2⟩ : ∃ q2, w3.heap.size = q2 := ⟨_, rfl⟩
  rw [hq1] at g0 g1 hz3 ⊢
  rw [hq2] at g2 g3 g4 g5 hz3 hz4 ⊢
  clear hq1 hq2
  generalize (w3.alloc (.cells #[.int .u32 (la : Int), .int .i64 ln] 28)).alloc (.cells #[.int .u32 (ra : Int), .int .i64 rn] 28) = w4 at *
  have hS1 : q1 < w4.heap.size := by omega
  have hS2 : q2 < w4.heap.size := by omega
  have hS3 : q2 + 1 < w4.heap.size := by omega
  clear hz3 hz4
  go_loopg [30, 8, 9, 10, 11, 13] l.length (fun g s30 s8 s9 s10 s11 s13 wr => ∃ (k : Nat) (bi bo : Bool), k ≤ l.length ∧ l.length - k ≤ g ∧ s30 = .int .i64 k ∧ s8 = .bool true ∧ s9 = .bool bi ∧ s10 = .bool bo ∧ s11 = .bool (anyV (l.take k)) ∧ True = True ∧ Hid (Below w4.heap.size w4 wr ∧ bi = inF (la, ln) (l.take k) ∧ bo = inF (ra, rn) (l.take k) ∧ True))
  case atStart => exact ⟨0, true, true, by omega, by omega, rfl, rfl, rfl, rfl, rfl, rfl, Below.refl _ _, rfl, rfl, trivial⟩
  case round =>
    obtain ⟨k, bi, bo, hk, hg, rfl, rfl, rfl, rfl, rfl, -, HB⟩ := hrel
    by_cases hlt : k < l.length
    · obtain ⟨x, hx⟩ : ∃ x, l[k]? = some x := ⟨_, List.getElem?_eq_getElem hlt⟩
      obtain ⟨blk', off', rfl, hblk, hc0, hc1⟩ := HC.out k x hx
      have hbw : blk' < w4.heap.size := Nat.lt_of_lt_of_le hblk B4.out.size
      have f0 := carryB HB.out.1 hbw (carry B4.out hc0)
      have f1 := carryB HB.out.1 hbw (carry B4.out hc1)
      have HX := Lib.hid hx
      have hm := List.mem_of_getElem? hx
      have hfx := HF.out x hm
      have HCx := Lib.hid (HALL.out x hm)
      obtain ⟨a, n⟩ := x
      have HV : Hid (∀ W, Calls Try.prog 39 #[.agg #[.int .u32 (a : Int), .int .i64 n]] W fun e w' => e = .returned (.bool (V (a, n))) ∧ Below W.heap.size W w') := fun W => rvalid_any a hfx.1 n hfx.2 W
      have HCs : Hid (∀ W, Calls Try.prog 40 #[.agg #[.int .u32 (sa : Int), .int .i64 sn], .agg #[.int .u32 (a : Int), .int .i64 n]] W fun e w' => e = .returned (.bool (C (sa, sn) (a, n))) ∧ Below W.heap.size W w') := fun W => rcovers_any sa FS.out.1 sn FS.out.2 a hfx.1 n hfx.2 W
      have HCl : Hid (∀ W, Calls Try.prog 40 #[.agg #[.int .u32 (la : Int), .int .i64 ln], .agg #[.int .u32 (a : Int), .int .i64 n]] W fun e w' => e = .returned (.bool (C (la, ln) (a, n))) ∧ Below W.heap.size W w') := fun W => rcovers_any la FL.out.1 ln FL.out.2 a hfx.1 n hfx.2 W
      have HCr : Hid (∀ W, Calls Try.prog 40 #[.agg #[.int .u32 (ra : Int), .int .i64 rn], .agg #[.int .u32 (a : Int), .int .i64 n]] W fun e w' => e = .returned (.bool (C (ra, rn) (a, n))) ∧ Below W.heap.size W w') := fun W => rcovers_any ra FR.out.1 rn FR.out.2 a hfx.1 n hfx.2 W
      obtain ⟨zl, hzl⟩ : ∃ z, C (la, ln) (a, n) = z := ⟨_, rfl⟩
      obtain ⟨zr, hzr⟩ : ∃ z, C (ra, rn) (a, n) = z := ⟨_, rfl⟩
      rw [hzl] at HCl
      rw [hzr] at HCr
      have HZl := Lib.hid hzl
      have HZr := Lib.hid hzr
      clear hc0 hc1 hx hfx hm hzl hzr
      dsimp only at f0 f1
      cases hv : V (a, n)
      · have HVx := Lib.hid hv
        rw [hv] at HV
        clear hv
        go_wp2_with fail
        go_at_call 39
        refine (HV.out _).mono ?_
        rintro e w5 ⟨rfl, hb⟩
        have B5 := Lib.hid ((HB.out.1.alloc HB.out.1.size _).trans (hb.mono (by have := HB.out.1.size; simp; omega)))
        clear hb
        go_wp2_with fail
        go_roundg (l.length - (k + 1))
        case measure => omega
        case rel => exact ⟨k + 1, bi, bo, by omega, Nat.le_refl _, by go_num, rfl, rfl, rfl, by rw [take_snocP HX.out, anyV_snoc, HVx.out, Bool.or_false], trivial, B5.out, by rw [take_snocP HX.out, inF_snoc, ← HB.out.2.1, HVx.out]; simp, by rw [take_snocP HX.out, inF_snoc, ← HB.out.2.2.1, HVx.out]; simp, trivial⟩
      · have HVx := Lib.hid hv
        rw [hv] at HV
        rw [HCx.out hv] at HCs
        clear hv
        cases bi <;> cases bo
        · go_wp2_with fail
          go_at_call 39
          refine (HV.out _).mono ?_
          rintro e w5 ⟨rfl, hb⟩
          have B5 := Lib.hid ((HB.out.1.alloc HB.out.1.size _).trans (hb.mono (by have := HB.out.1.size; simp; omega)))
          obtain ⟨hc5, hf5⟩ := bcell hb
          have hz5 : wr.heap.size < w5.heap.size := by have := hb.size; simp at this; omega
          have x0 : w5.cell? ⟨wr.heap.size, 0, none⟩ = some (.int .u32 (a : Int)) := by rw [hc5 _ _ (by simp)]; simp
          have x1 : w5.cell? ⟨wr.heap.size, 1, none⟩ = some (.int .i64 n) := by rw [hc5 _ _ (by simp)]; simp
          have c0 := carryB B5.out hS1 g0
          have c1 := carryB B5.out hS1 g1
          have c2 := carryB B5.out hS2 g2
          have c3 := carryB B5.out hS2 g3
          have c4 := carryB B5.out hS3 g4
          have c5 := carryB B5.out hS3 g5
          clear hb hc5 hf5
          go_wp2_with fail
          go_at_call 40
          refine (HCs.out _).mono ?_
          rintro e w6 ⟨rfl, hb⟩
          have B6 := Lib.hid (B5.out.trans (hb.mono B5.out.size))
          have x0 := carry hb x0
          have x1 := carry hb x1
          have c2 := carry hb c2
          have c3 := carry hb c3
          have c4 := carry hb c4
          have c5 := carry hb c5
          clear hb
          go_wp2_with fail
          go_roundg (l.length - (k + 1))
          case measure => omega
          case rel => exact ⟨k + 1, false, false, by omega, Nat.le_refl _, by go_num, rfl, rfl, rfl, by rw [take_snocP HX.out, anyV_snoc, HVx.out, Bool.or_true], trivial, B6.out, by rw [take_snocP HX.out, inF_snoc, ← HB.out.2.1, HVx.out, HZl.out]; rfl, by rw [take_snocP HX.out, inF_snoc, ← HB.out.2.2.1, HVx.out, HZr.out]; rfl, trivial⟩
        · go_wp2_with fail
          go_at_call 39
          refine (HV.out _).mono ?_
          rintro e w5 ⟨rfl, hb⟩
          have B5 := Lib.hid ((HB.out.1.alloc HB.out.1.size _).trans (hb.mono (by have := HB.out.1.size; simp; omega)))
          obtain ⟨hc5, hf5⟩ := bcell hb
          have hz5 : wr.heap.size < w5.heap.size := by have := hb.size; simp at this; omega
          have x0 : w5.cell? ⟨wr.heap.size, 0, none⟩ = some (.int .u32 (a : Int)) := by rw [hc5 _ _ (by simp)]; simp
          have x1 : w5.cell? ⟨wr.heap.size, 1, none⟩ = some (.int .i64 n) := by rw [hc5 _ _ (by simp)]; simp
          have c0 := carryB B5.out hS1 g0
          have c1 := carryB B5.out hS1 g1
          have c2 := carryB B5.out hS2 g2
          have c3 := carryB B5.out hS2 g3
          have c4 := carryB B5.out hS3 g4
          have c5 := carryB B5.out hS3 g5
          clear hb hc5 hf5
          go_wp2_with fail
          go_at_call 40
          refine (HCs.out _).mono ?_
          rintro e w6 ⟨rfl, hb⟩
          have B6 := Lib.hid (B5.out.trans (hb.mono B5.out.size))
          have x0 := carry hb x0
          have x1 := carry hb x1
          have c2 := carry hb c2
          have c3 := carry hb c3
          have c4 := carry hb c4
          have c5 := carry hb c5
          clear hb
          go_wp2_with fail
          go_at_call 40
          refine (HCr.out _).mono ?_
          rintro e w8 ⟨rfl, hb⟩
          have B8 := Lib.hid (B6.out.trans (hb.mono B6.out.size))
          clear hb
          go_wp2_with fail
          go_roundg (l.length - (k + 1))
          case measure => omega
          case rel => exact ⟨k + 1, false, zr, by omega, Nat.le_refl _, by go_num, rfl, rfl, rfl, by rw [take_snocP HX.out, anyV_snoc, HVx.out, Bool.or_true], trivial, B8.out, by rw [take_snocP HX.out, inF_snoc, ← HB.out.2.1, HVx.out, HZl.out]; rfl, by rw [take_snocP HX.out, inF_snoc, ← HB.out.2.2.1, HVx.out, HZr.out]; rfl, trivial⟩
        · go_wp2_with fail
          go_at_call 39
          refine (HV.out _).mono ?_
          rintro e w5 ⟨rfl, hb⟩
          have B5 := Lib.hid ((HB.out.1.alloc HB.out.1.size _).trans (hb.mono (by have := HB.out.1.size; simp; omega)))
          obtain ⟨hc5, hf5⟩ := bcell hb
          have hz5 : wr.heap.size < w5.heap.size := by have := hb.size; simp at this; omega
          have x0 : w5.cell? ⟨wr.heap.size, 0, none⟩ = some (.int .u32 (a : Int)) := by rw [hc5 _ _ (by simp)]; simp
          have x1 : w5.cell? ⟨wr.heap.size, 1, none⟩ = some (.int .i64 n) := by rw [hc5 _ _ (by simp)]; simp
          have c0 := carryB B5.out hS1 g0
          have c1 := carryB B5.out hS1 g1
          have c2 := carryB B5.out hS2 g2
          have c3 := carryB B5.out hS2 g3
          have c4 := carryB B5.out hS3 g4
          have c5 := carryB B5.out hS3 g5
          clear hb hc5 hf5
          go_wp2_with fail
          go_at_call 40
          refine (HCs.out _).mono ?_
          rintro e w6 ⟨rfl, hb⟩
          have B6 := Lib.hid (B5.out.trans (hb.mono B5.out.size))
          have x0 := carry hb x0
          have x1 := carry hb x1
          have c2 := carry hb c2
          have c3 := carry hb c3
          have c4 := carry hb c4
          have c5 := carry hb c5
          clear hb
          go_wp2_with fail
          go_at_call 40
          refine (HCl.out _).mono ?_
          rintro e w7 ⟨rfl, hb⟩
          have B7 := Lib.hid (B6.out.trans (hb.mono B6.out.size))
          have x0 := carry hb x0
          have x1 := carry hb x1
          have c4 := carry hb c4
          have c5 := carry hb c5
          clear hb
          go_wp2_with fail
          go_roundg (l.length - (k + 1))
          case measure => omega
          case rel => exact ⟨k + 1, zl, false, by omega, Nat.le_refl _, by go_num, rfl, rfl, rfl, by rw [take_snocP HX.out, anyV_snoc, HVx.out, Bool.or_true], trivial, B7.out, by rw [take_snocP HX.out, inF_snoc, ← HB.out.2.1, HVx.out, HZl.out]; rfl, by rw [take_snocP HX.out, inF_snoc, ← HB.out.2.2.1, HVx.out, HZr.out]; rfl, trivial⟩
        · go_wp2_with fail
          go_at_call 39
          refine (HV.out _).mono ?_
          rintro e w5 ⟨rfl, hb⟩
          have B5 := Lib.hid ((HB.out.1.alloc HB.out.1.size _).trans (hb.mono (by have := HB.out.1.size; simp; omega)))
          obtain ⟨hc5, hf5⟩ := bcell hb
          have hz5 : wr.heap.size < w5.heap.size := by have := hb.size; simp at this; omega
          have x0 : w5.cell? ⟨wr.heap.size, 0, none⟩ = some (.int .u32 (a : Int)) := by rw [hc5 _ _ (by simp)]; simp
          have x1 : w5.cell? ⟨wr.heap.size, 1, none⟩ = some (.int .i64 n) := by rw [hc5 _ _ (by simp)]; simp
          have c0 := carryB B5.out hS1 g0
          have c1 := carryB B5.out hS1 g1
          have c2 := carryB B5.out hS2 g2
          have c3 := carryB B5.out hS2 g3
          have c4 := carryB B5.out hS3 g4
          have c5 := carryB B5.out hS3 g5
          clear hb hc5 hf5
          go_wp2_with fail
          go_at_call 40
          refine (HCs.out _).mono ?_
          rintro e w6 ⟨rfl, hb⟩
          have B6 := Lib.hid (B5.out.trans (hb.mono B5.out.size))
          have x0 := carry hb x0
          have x1 := carry hb x1
          have c2 := carry hb c2
          have c3 := carry hb c3
          have c4 := carry hb c4
          have c5 := carry hb c5
          clear hb
          go_wp2_with fail
          go_at_call 40
          refine (HCl.out _).mono ?_
          rintro e w7 ⟨rfl, hb⟩
          have B7 := Lib.hid (B6.out.trans (hb.mono B6.out.size))
          have x0 := carry hb x0
          have x1 := carry hb x1
          have c4 := carry hb c4
          have c5 := carry hb c5
          clear hb
          go_wp2_with fail
          go_at_call 40
          refine (HCr.out _).mono ?_
          rintro e w8 ⟨rfl, hb⟩
          have B8 := Lib.hid (B7.out.trans (hb.mono B7.out.size))
          clear hb
          go_wp2_with fail
          go_roundg (l.length - (k + 1))
          case measure => omega
          case rel => exact ⟨k + 1, zl, zr, by omega, Nat.le_refl _, by go_num, rfl, rfl, rfl, by rw [take_snocP HX.out, anyV_snoc, HVx.out, Bool.or_true], trivial, B8.out, by rw [take_snocP HX.out, inF_snoc, ← HB.out.2.1, HVx.out, HZl.out]; rfl, by rw [take_snocP HX.out, inF_snoc, ← HB.out.2.2.1, HVx.out, HZr.out]; rfl, trivial⟩
    · have hkl : k = l.length := by omega
      subst hkl
      have hfin := HB.out
      rw [List.take_length] at hfin
      rw [List.take_length]
      cases hav : anyV l
      · have hok := H0.out hav
        subst hok
        clear hfin
        have BB := Lib.hid (B4.out.trans (HB.out.1.mono B4.out.size))
        go_wp2_with (go_at_call 17; refine (AW.out _).mono ?_; rintro e w5 ⟨rfl, hb⟩; have B5 := Lib.hid (below_then BB.out hb); clear hb)
        go_ret
        exact ⟨rfl, B5.out⟩
      · obtain ⟨hok, h32⟩ := H1.out hav
        subst hok
        have BB := Lib.hid (B4.out.trans (HB.out.1.mono B4.out.size))
        rcases h32 with h32 | ⟨h32, hi1, hi2⟩
        · subst h32
          have c1 := carryB HB.out.1 hS1 g1
          clear hfin
          go_wp2_with (go_at_call 17; refine (AW.out _).mono ?_; rintro e w5 ⟨rfl, hb⟩; have B5 := Lib.hid (below_then BB.out hb); have c1 := carry hb c1; clear hb)
          go_ret
          exact ⟨rfl, B5.out⟩
        · have e1 := hfin.2.1.trans hi1
          have e2 := hfin.2.2.1.trans hi2
          subst e1 e2
          have c1 := carryB HB.out.1 hS1 g1
          have hd : ((sn : Int) == 32) = false := by simpa using h32
          clear hfin hi1 hi2 h32
          go_wp2_with (go_at_call 17; refine (AW.out _).mono ?_; rintro e w5 ⟨rfl, hb⟩; have B5 := Lib.hid (below_then BB.out hb); have c1 := carry hb c1; clear hb)
          go_ret
          exact ⟨rfl, B5.out⟩
theorem anyV_iff (l : List PP) : anyV l = true ↔ ∃ p ∈ l, V p = true := by unfold anyV; rw [List.any_eq_true]
theorem inF_false {q : PP} {l : List PP} (h : ∃ p ∈ l, V p = true ∧ C q p = false) : inF q l = false := by
  obtain ⟨p, hp, hv, hc⟩ := h
  unfold inF
  rw [List.all_eq_false]
  exact ⟨p, hp, by rw [hv, hc]; decide⟩
theorem rhalves_any (p : PP) (hp : V p = true) (ha : p.1 < 4294967296) : ∃ (le ri : PP) (z : Bool), (le.1 < 4294967296 ∧ I64 le.2) ∧ (ri.1 < 4294967296 ∧ I64 ri.2) ∧ (p.2 ≠ 32 → V le = true ∧ V ri = true ∧ le.2 = p.2 + 1 ∧ ri.2 = p.2 + 1) ∧
    ∀ W, Calls Try.prog 38 #[.agg #[.int .u32 (p.1 : Int), .int .i64 p.2]] W fun e w' => e = .returned (.tuple #[.agg #[.int .u32 (le.1 : Int), .int .i64 le.2], .agg #[.int .u32 (ri.1 : Int), .int .i64 ri.2], .bool z]) ∧ Below W.heap.size W w' := by
  obtain ⟨a, n⟩ := p
  have hv := (V_iff _).1 hp
  dsimp only at hv ha
  by_cases h32 : n = 32
  · exact ⟨(0, 0), (0, 0), false, ⟨by decide, by decide⟩, ⟨by decide, by decide⟩, fun h => absurd h32 h, fun W => rhalves_no a ha n (V_I64 hp) W (.inr h32)⟩
  · have hm := midN_lt a ha n
    exact ⟨(a, n + 1), (midN a n, n + 1), true, ⟨ha, by constructor <;> dsimp only <;> omega⟩, ⟨hm, by constructor <;> dsimp only <;> omega⟩, fun _ => ⟨low_half hp (by omega), high_half hp (by omega), rfl, rfl⟩, fun W => rhalves_yes a ha n (V_I64 hp) W hp hv.1 (by omega)⟩
theorem ends_any {l : List PP} (hf : FitL l) (he : ascd l ≠ []) : ∃ lo hi, Ends l lo hi := by
  obtain ⟨x, hx⟩ : ∃ x, (ascd l)[0]? = some x := ⟨_, List.getElem?_eq_getElem (List.length_pos_iff.2 he)⟩
  have h1 := ascd_first hf hx
  have key : ∀ k, k ≤ (ascd l).length → ∃ h, MaxI l k h := by
    intro k
    induction k with
    | zero => exact fun _ => ⟨0, by decide, by simp, by simp, fun _ => rfl⟩
    | succ k ih =>
      intro hk
      obtain ⟨h, hM⟩ := ih (by omega)
      exact ⟨_, max_step hf (List.getElem?_eq_getElem (by omega)) hM⟩
  obtain ⟨h, hM⟩ := key _ (Nat.le_refl _)
  refine ⟨x.1, h, h1.1, hM.2.2.1 (List.length_pos_iff.2 he), fun y hy => ⟨h1.2 y hy, ?_⟩⟩
  obtain ⟨p, hp, hv, hi⟩ := (mem_iff l y).1 hy
  have hpm := (ascd_mem l p).2 ⟨hp, hv⟩
  exact Nat.le_trans ((last_mem hf hpm).2.2 y hi) (hM.2.1 p (by rw [List.take_of_length_le (Nat.le_refl _)]; exact hpm))
theorem summary_big (a : List PP) (v1 : Value) (w : World) (h : 60 < a.length) (hr1 : Rd w v1 a) :
    Calls Try.prog 8 #[v1] w fun e w' => e = .returned (.bool true) ∧ Below w.heap.size w w' := by
  obtain ⟨ad, cap, rfl⟩ := rdP_slice hr1
  have HL := Lib.hid (large_yes ad none a.length 0 cap 0 (.inl h) w)
  clear hr1 h
  go_enter Try.func8, Try.ntmps8
  go_wp2_with (first
    | (go_at_call 16; refine HL.out.mono ?_; rintro e w1 ⟨rfl, rfl⟩)
    | (go_at_call 17; refine (awake5_any _).mono ?_; rintro e w1 ⟨rfl, hb⟩; have B := Lib.hid hb; clear hb))
  go_ret
  exact ⟨rfl, B.out⟩
theorem summary_small (l : List PP) (v : Value) (w : World) (hl : l.length ≤ 60) (hf : FitL l) (hr : Rd w v l) :
    Calls Try.prog 8 #[v] w fun e w' => e = .returned (.bool true) ∧ Below w.heap.size w w' := by
  by_cases he : ascd l = []
  · obtain ⟨le, ri, z, fl, fr, _, hh⟩ := rhalves_any (0, 0) (by decide) (by decide)
    have hno : anyV l = false := by
      refine Bool.eq_false_iff.2 fun h => ?_
      obtain ⟨p, hp, hv⟩ := (anyV_iff l).1 h
      have := (ascd_mem l p).2 ⟨hp, hv⟩
      rw [he] at this; cases this
    exact sumlaw_core l v w hl hf hr (0, 0) le ri false z ⟨by decide, by decide⟩ fl fr (fun W hW => summary_none l v W (big60 hl) hf (hr.below hW) he) hh
      (fun p hp hv => by have : anyV l = true := (anyV_iff l).2 ⟨p, hp, hv⟩; rw [hno] at this; cases this) (fun _ => rfl) (fun h => by rw [hno] at h; cases h)
  · -- the ends are the same at every call
    obtain ⟨x, hx⟩ : ∃ x, (ascd l)[0]? = some x := ⟨_, List.getElem?_eq_getElem (List.length_pos_iff.2 he)⟩
    obtain ⟨lo, hi, hE⟩ : ∃ lo hi, Ends l lo hi := ends_any hf he
    have huniq : ∀ a b, Ends l a b → a = lo ∧ b = hi := fun a b h => by
      have h1 := hE.2.2 a h.1
      have h2 := hE.2.2 b h.2.1
      have h3 := h.2.2 lo hE.1
      have h4 := h.2.2 hi hE.2.1
      omega
    have hlo := mem_lt (fun x hx => (hf x hx).1) lo hE.1
    obtain ⟨le, ri, z, fl, fr, hhv, hh⟩ := rhalves_any (sumP lo hi) sum_V (fit_sum hlo).1
    have hany : anyV l = true := (anyV_iff l).2 ⟨x, (ascd_mem l x).1 (List.mem_of_getElem? hx)⟩
    refine sumlaw_core l v w hl hf hr (sumP lo hi) le ri true z (fit_sum hlo) fl fr (fun W hW => ?_) hh (sum_covers hf hE) (fun h => by rw [hany] at h; cases h) (fun _ => ⟨rfl, ?_⟩)
    · refine (summary_some l v W (big60 hl) hf (hr.below hW) he).mono ?_
      rintro e w' ⟨a, b, rfl, hEab, hb⟩
      obtain ⟨rfl, rfl⟩ := huniq a b hEab
      exact ⟨rfl, hb⟩
    · by_cases h32 : (sumP lo hi).2 = 32
      · exact .inl h32
      · obtain ⟨v1, v2, e1, e2⟩ := hhv h32
        exact .inr ⟨h32, inF_false (sum_half hf hE v1 e1), inF_false (sum_half hf hE v2 e2)⟩
end Go.Proofs.Ytegponbmelgngaa
