/-
  The walk of Summary.
-/
import Derived.Test.YtegponbmelgngaaCvJ
namespace Go.Proofs.Ytegponbmelgngaa
open Go.RowKit
set_option linter.unusedSimpArgs false
set_option linter.unusedVariables false
set_option maxHeartbeats 4000000
set_option maxRecDepth 100000

theorem ascd_nil_mem {l : List PP} (h : ascd l = []) (y : Nat) : mem l y = false := by
  refine Bool.eq_false_iff.2 fun hy => ?_
  obtain ⟨p, hp, hv, _⟩ := (mem_iff l y).1 hy
  have := (ascd_mem l p).2 ⟨hp, hv⟩
  rw [h] at this; cases this
theorem summary_none (l : List PP) (v : Value) (w : World) (hl : Big l) (hf : FitL l) (hr : Rd w v l) (he : ascd l = []) :
    Calls Try.prog 18 #[v] w fun e w' => e = .returned (.tuple #[.agg #[.int .u32 0, .int .i64 0], .bool false]) ∧ Below w.heap.size w w' := by
  have HA : Hid (∀ W, Below w.heap.size w W → Calls Try.prog 59 #[v] W fun e w' => ∃ v', e = .returned v' ∧ OwnS W.heap.size w' v' (ascd l) ∧ Below W.heap.size W w') := fun W hW => ascending_any l v W hl hf (hr.below hW)
  rw [he] at HA
  clear hr
  go_enter Try.func18, Try.ntmps18
  go_wp2_with (go_at_call 59; refine (HA.out _ (below_alloc _ _)).mono ?_; rintro e w1 ⟨v1, rfl, ho, hb⟩; obtain ⟨ad1, cap1, rfl⟩ := rdP_slice ho.rd; have B := Lib.hid (below_then (below_alloc _ _) hb); obtain ⟨hc1, hf1⟩ := bcell hb; have hzw : w.heap.size < w1.heap.size := (by have := hb.size; simp at this; omega); clear hb ho)
  exact bodyPost_ret (v := .tuple #[.agg #[.int .u32 0, .int .i64 0], .bool false]) (by simp [results, Try.results18, go_sem, hc1, hzw]) rfl ⟨rfl, (B.out.setCell (by simp) _).setCell (by simp) _⟩
theorem ascd_first {l : List PP} (hf : FitL l) {x : PP} (hx : (ascd l)[0]? = some x) : mem l x.1 = true ∧ ∀ y, mem l y = true → x.1 ≤ y := by
  have hxm := (ascd_mem l x).1 (List.mem_of_getElem? hx)
  refine ⟨(mem_iff l x.1).2 ⟨x, hxm.1, hxm.2, ⟨Nat.le_refl _, by have := CM.pow_pos' (blk x).2; show x.1 < (blk x).1 + _; show x.1 < x.1 + _; omega⟩⟩, fun y hy => ?_⟩
  obtain ⟨p, hp, hv, h1, h2⟩ := (mem_iff l y).1 hy
  have hpm := (ascd_mem l p).2 ⟨hp, hv⟩
  obtain ⟨i, hi, rfl⟩ := List.mem_iff_getElem.1 hpm
  have h3 : x.1 ≤ (ascd l)[i].1 := by
    rcases Nat.eq_zero_or_pos i with rfl | hi0
    · rw [List.getElem?_eq_getElem hi] at hx; rw [Option.some.inj hx]; exact Nat.le_refl _
    · have := List.pairwise_iff_getElem.1 (ascd_asc l) 0 i (by omega) hi hi0
      rw [List.getElem?_eq_getElem (by omega)] at hx
      rw [Option.some.inj hx] at this
      unfold ltP at this; omega
  exact Nat.le_trans h3 h1
/-- what the loop knows of the greatest address -/
def MaxI (l : List PP) (k h : Nat) : Prop := h < 4294967296 ∧ (∀ x ∈ (ascd l).take k, lastN x.1 x.2 ≤ h) ∧ (0 < k → mem l h = true) ∧ (k = 0 → h = 0)
theorem last_mem {l : List PP} (hf : FitL l) {x : PP} (hx : x ∈ ascd l) : lastN x.1 x.2 < 4294967296 ∧ mem l (lastN x.1 x.2) = true ∧ ∀ y, CM.inB (blk x) y → y ≤ lastN x.1 x.2 := by
  have h := (ascd_mem l x).1 hx
  have hp := CM.pow_pos' (blk x).2
  have ht := blk_top (hf x h.1).1 h.2
  have e : lastN x.1 x.2 = (blk x).1 + 2 ^ (blk x).2 - 1 := last_eq h.2
  refine ⟨by omega, (mem_iff l _).2 ⟨x, h.1, h.2, by rw [e]; constructor <;> omega⟩, fun y hy => by have := hy.2; omega⟩
theorem max_step {l : List PP} (hf : FitL l) {k h : Nat} {x : PP} (hx : (ascd l)[k]? = some x) (hM : MaxI l k h) : MaxI l (k + 1) (max h (lastN x.1 x.2)) := by
  have hl := last_mem hf (List.mem_of_getElem? hx)
  refine ⟨by have := hM.1; omega, fun y hy => ?_, fun _ => ?_, fun h => by omega⟩
  · rw [take_snocP hx] at hy
    rcases List.mem_append.1 hy with hy | hy
    · have := hM.2.1 y hy; omega
    · rw [List.mem_singleton] at hy; subst hy; omega
  · rcases Nat.le_total h (lastN x.1 x.2) with hle | hle
    · rw [Nat.max_eq_right hle]; exact hl.2.1
    · rw [Nat.max_eq_left hle]
      rcases Nat.eq_zero_or_pos k with rfl | hk
      · have := hM.2.2.2 rfl
        rw [show h = lastN x.1 x.2 by omega]; exact hl.2.1
      · exact hM.2.2.1 hk
/-- the least and the greatest address -/
def Ends (l : List PP) (lo hi : Nat) : Prop := mem l lo = true ∧ mem l hi = true ∧ ∀ y, mem l y = true → lo ≤ y ∧ y ≤ hi
theorem summary_some (l : List PP) (v : Value) (w : World) (hl : Big l) (hf : FitL l) (hr : Rd w v l) (he : ascd l ≠ []) :
    Calls Try.prog 18 #[v] w fun e w' => ∃ lo hi, e = .returned (.tuple #[.agg #[.int .u32 ((sumP lo hi).1 : Int), .int .i64 (sumP lo hi).2], .bool true]) ∧ Ends l lo hi ∧ Below w.heap.size w w' := by
  have HA : Hid (∀ W, Below w.heap.size w W → Calls Try.prog 59 #[v] W fun e w' => ∃ v', e = .returned v' ∧ OwnS W.heap.size w' v' (ascd l) ∧ Below W.heap.size W w') := fun W hW => ascending_any l v W hl hf (hr.below hW)
  obtain ⟨N, hN⟩ : ∃ N, N = (ascd l).length := ⟨_, rfl⟩
  have hpos : 0 < N := by rw [hN]; exact List.length_pos_iff.2 he
  have hNb : N ≤ 4294967296 := by rw [hN]; exact Nat.le_trans (ascd_len l) hl
  have HN := Lib.hid hN
  have HF := Lib.hid hf
  obtain ⟨⟨fa, fn⟩, hx0⟩ : ∃ x, (ascd l)[0]? = some x := ⟨_, List.getElem?_eq_getElem (by omega)⟩
  have HX0 := Lib.hid hx0
  have hfa : fa < 4294967296 := (hf _ ((ascd_mem l _).1 (List.mem_of_getElem? hx0)).1).1
  have hd : ((N : Int) == 0) = false := by simp; omega
  clear hr he hx0
  go_enter Try.func18, Try.ntmps18
  go_wp2_with fail
  go_at_call 59
  refine (HA.out _ (below_alloc _ _)).mono ?_
  rintro e w1 ⟨v1, rfl, ho, hb⟩
  obtain ⟨ad1, cap1, rfl, hc⟩ := ho.rd
  rw [← hN]
  have HC := Lib.hid hc
  have B1 := Lib.hid (below_then (below_alloc _ _) hb)
  have hz1 : w.heap.size < w1.heap.size := by have := hb.size; simp at this; omega
  obtain ⟨hc1, hf1⟩ := bcell hb
  have rc0 : w1.cell? ⟨w.heap.size, 0, none⟩ = some (.int .u32 0) := by rw [hc1 _ _ (by simp)]; simp
  have rc1 : w1.cell? ⟨w.heap.size, 1, none⟩ = some (.int .i64 0) := by rw [hc1 _ _ (by simp)]; simp
  obtain ⟨blk, off, rfl, hblk, g0, g1⟩ := hc 0 _ HX0.out
  simp only [Nat.zero_mul, Nat.add_zero] at g0 g1
  clear ho hb hc hN
  go_wp2
  go_loopg [23, 6, 8] N (fun g s23 s6 s8 wr => ∃ (k h : Nat), k ≤ N ∧ N - k ≤ g ∧ s23 = .int .i64 k ∧ s6 = .int .u32 h ∧ h < 4294967296 ∧ Hid (Below w1.heap.size w1 wr ∧ MaxI l k h))
  case atStart => exact ⟨0, 0, by omega, by omega, rfl, rfl, by decide, Below.refl _ _, by decide, by simp, by simp, fun _ => rfl⟩
  case round =>
    obtain ⟨k, h, hk, hg, rfl, rfl, hh, HB⟩ := hrel
    by_cases hlt : k < N
    · obtain ⟨x, hx⟩ : ∃ x, (ascd l)[k]? = some x := ⟨_, List.getElem?_eq_getElem (by rw [← HN.out]; exact hlt)⟩
      obtain ⟨b', o', he', hb', hc0, hc1⟩ := HC.out k x hx
      cases he'
      have f0 := carryB HB.out.1 hb' hc0
      have f1 := carryB HB.out.1 hb' hc1
      have HX := Lib.hid hx
      have hm := (ascd_mem l x).1 (List.mem_of_getElem? hx)
      have hlm := (last_mem HF.out (List.mem_of_getElem? hx)).1
      have HL : Hid (∀ W, Calls Try.prog 60 #[.agg #[.int .u32 (x.1 : Int), .int .i64 x.2]] W fun e w' => e = .returned (.int .u32 (lastN x.1 x.2 : Nat)) ∧ Below W.heap.size W w') := fun W => last_yes x.1 (HF.out x hm.1).1 x.2 (HF.out x hm.1).2 W hm.2
      have HM := Lib.hid (max_step HF.out hx HB.out.2)
      clear hc0 hc1 hx hm
      obtain ⟨a, n⟩ := x
      dsimp only at f0 f1 HL HM hlm
      generalize lastN a n = z at HL HM hlm
      go_wp2_with (go_at_call 60; refine (HL.out _).mono ?_; rintro e w2 ⟨rfl, hb⟩; have B2 := Lib.hid ((HB.out.1.alloc HB.out.1.size _).trans (hb.mono (by have := HB.out.1.size; simp; omega))); clear hb)
      go_roundg (N - (k + 1))
      case measure => omega
      case rel => exact ⟨k + 1, max h z, by omega, Nat.le_refl _, by go_num, by rw [show (max (h : Int) (z : Int)) = ((max h z : Nat) : Int) by omega], by omega, B2.out, HM.out⟩
    · have hkl : k = N := by omega
      subst hkl
      have HE : Hid (Ends l fa h) := by
        have h1 := ascd_first HF.out HX0.out
        have h2 := HB.out.2
        refine ⟨h1.1, h2.2.2.1 hpos, fun y hy => ⟨h1.2 y hy, ?_⟩⟩
        obtain ⟨p, hp, hv, hi⟩ := (mem_iff l y).1 hy
        have hpm := (ascd_mem l p).2 ⟨hp, hv⟩
        have h3 := h2.2.1 p (by rw [List.take_of_length_le (by rw [← HN.out]; exact Nat.le_refl _)]; exact hpm)
        exact Nat.le_trans ((last_mem HF.out hpm).2.2 y hi) h3
      obtain ⟨hc2, hf2⟩ := bcell HB.out.1
      have hzr : w.heap.size < wr.heap.size := Nat.lt_of_lt_of_le hz1 HB.out.1.size
      have hcl := M.comN_le fa h
      have HMK : Hid (∀ W, Calls Try.prog 61 #[.int .u32 (fa : Int), .int .i64 ((M.comN fa h : Nat) : Int)] W fun e w' => e = .returned (.tuple #[.agg #[.int .u32 ((sumP fa h).1 : Int), .int .i64 ((M.comN fa h : Nat) : Int)], .int .i64 0]) ∧ Below W.heap.size W w') := fun W => by
        have := make_yes fa hfa ((M.comN fa h : Nat) : Int) (by omega) (by omega) W
        rwa [low_in (by omega) (by omega)] at this
      have HCM : Hid (∀ W, Calls Try.prog 62 #[.int .u32 (fa : Int), .int .u32 (h : Int)] W fun e w' => e = .returned (.int .i64 ((M.comN fa h : Nat) : Int)) ∧ W = w') := fun W => com_any fa h hfa hh W
      obtain ⟨⟨sa, sn⟩, hsp⟩ : ∃ s, sumP fa h = s := ⟨_, rfl⟩
      have hsn : sn = ((M.comN fa h : Nat) : Int) := by rw [show sn = (sumP fa h).2 by rw [hsp]]; rfl
      have HS := Lib.hid hsp
      rw [← hsn] at HMK HCM
      rw [hsp] at HMK
      clear hsp hsn hcl
      go_wp2_with (first
        | (go_at_call 62; refine (HCM.out _).mono ?_; rintro e w3 ⟨rfl, rfl⟩)
        | (go_at_call 61; refine (HMK.out _).mono ?_; rintro e w4 ⟨rfl, hb⟩; obtain ⟨hc4, hf4⟩ := bcell hb; have B4 := Lib.hid (below_then (B1.out.trans (HB.out.1.mono B1.out.size)) hb); have hz4 : w.heap.size < w4.heap.size := (by have := hb.size; omega); clear hb))
      exact bodyPost_ret (v := .tuple #[.agg #[.int .u32 (sa : Int), .int .i64 sn], .bool true]) (by simp [results, Try.results18, go_sem, *]) rfl ⟨fa, h, by rw [HS.out], HE.out, ((B4.out.setCell (Nat.le_refl _) _).setCell (Nat.le_refl _) _).alloc (by simp; omega) _⟩
end Go.Proofs.Ytegponbmelgngaa
