/-
  The walk of the reference's hidden.
  The walk of the reference's Trim.
-/
import Derived.Test.YtegponbmelgngaaMgAg
import Derived.Test.YtegponbmelgngaaMgCh
section
namespace Go.Proofs.Ytegponbmelgngaa
open Go.RowKit
open Classical
set_option linter.unusedSimpArgs false
set_option linter.unusedVariables false
set_option maxHeartbeats 1500000
set_option maxRecDepth 100000

theorem kidP_len (q : PP) (l : List En) : (kidP q l).length ≤ l.length := by unfold kidP; rw [List.length_map]; exact List.length_filter_le _ _
theorem kidP_fit {q : PP} {l : List En} (hf : FitE l) : FitL (kidP q l) := fun p hp => by
  obtain ⟨e, he, rfl⟩ := List.mem_map.1 hp
  have := hf e (List.mem_filter.1 he).1
  exact ⟨this.1, this.2.1⟩
theorem rhidden_any (l : List En) (v : Value) (x : En) (w : World) (ht : TabE l) (hlen : l.length ≤ 60) (hr : RdE w v l) (hf : FitE l) (hx : x ∈ l) :
    Calls Try.prog 93 #[v, .agg #[.int .u32 (x.1.1 : Int), .int .i64 x.1.2, .int .i64 x.2]] w fun e w' => e = .returned (.bool (decide (AG.HidE (l.map toBe) (toBe x)))) ∧ Below w.heap.size w w' := by
  obtain ⟨i0, hi, hz0, hz1, hz2⟩ := info_parts info28
  have hfx := hf x hx
  have HSET := Lib.hid (hidden_set ht hx)
  have HKF : Hid (FitL (kidP x.1 l) ∧ (kidP x.1 l).length ≤ 60) := ⟨kidP_fit hf, Nat.le_trans (kidP_len _ _) hlen⟩
  obtain ⟨ad, cap, rfl, hc⟩ := hr
  have HR := Lib.hid hc
  have HF := Lib.hid hf
  have HKL := Lib.hid (fun k => Nat.le_trans (kidP_len x.1 (l.take k)) (by rw [List.length_take]; exact Nat.min_le_left _ _))
  obtain ⟨L, hL⟩ : ∃ L, l.length = L := ⟨_, rfl⟩
  rw [hL] at hlen ⊢
  have HL := Lib.hid hL
  have HRES : Hid (∃ r, r = decide (AG.HidE (l.map toBe) (toBe x)) ∧ ∀ B, CM.Nrm (fun y => (mem [x.1] y && !mem (kidP x.1 l) y)) B → (r = true ↔ B = [])) := ⟨_, rfl, fun B hB => by rw [decide_eq_true_iff, nrm_nil_iff hB]; exact HSET.out.symm⟩
  clear HSET
  obtain ⟨⟨xa, xn⟩, xv⟩ := x
  have HX : Hid (xa < 4294967296 ∧ I64 xn) := ⟨hfx.1, hfx.2.1⟩
  dsimp only at HKF HKL
  obtain ⟨r, hres, hRB⟩ := HRES.out
  rw [← hres]
  have HRB := Lib.hid hRB
  clear hc hf hL hx hfx ht HRES hRB hres
  go_enter Try.func93, Try.ntmps93
  go_wp2_with fail
  generalize hW0 : w.alloc (.cells #[.int .u32 (xa : Int), .int .i64 xn, .int .i64 xv] 51) = w0
  have HB0 : Hid (Below w.heap.size w w0 ∧ w0.heap[w.heap.size]? = some (.cells #[.int .u32 (xa : Int), .int .i64 xn, .int .i64 xv] 51 (0, 0))) := ⟨by rw [← hW0]; exact below_alloc _ _, by rw [← hW0]; exact heap_alloc_new _ _⟩
  go_loopg [5, 7, 10] L (fun g s5 s7 s10 wr => ∃ (k : Nat) (v : Value) (o : List PP), v = s5 ∧ (∃ u, u = s7) ∧ s10 = .int .i64 (k : Int) ∧ k ≤ L ∧ L - k ≤ g ∧ o.length ≤ k ∧ Hid (o = kidP (xa, xn) (l.take k)) ∧ Hid (Below w0.heap.size w0 wr ∧ wr.ownsRow w0.heap.size 28 2 v o.length (flat o)))
  case atStart => exact ⟨0, _, [], rfl, ⟨_, rfl⟩, rfl, by omega, by omega, Nat.le_refl _, rfl, by rw [← hW0]; exact Below.refl _ _, World.ownsRow_nil _ _ _ _⟩
  case round =>
    obtain ⟨k, v, o, rfl, ⟨u7, rfl⟩, rfl, hk, hg, hok, HO, HS⟩ := hrel
    have hxr : wr.heap[w.heap.size]? = some (.cells #[.int .u32 (xa : Int), .int .i64 xn, .int .i64 xv] 51 (0, 0)) := (HS.out.1.block _ (ltO HB0.out.2)).trans HB0.out.2
    have x0 : wr.cell? ⟨w.heap.size, 0, none⟩ = some (.int .u32 (xa : Int)) := cellO hxr rfl
    have x1 : wr.cell? ⟨w.heap.size, 1, none⟩ = some (.int .i64 xn) := cellO hxr rfl
    have hz := ltO hxr
    clear hxr
    by_cases hlt : k < L
    · obtain ⟨e, he⟩ : ∃ x, l[k]? = some x := ⟨_, List.getElem?_eq_getElem (by have := HL.out; omega)⟩
      obtain ⟨b, off, rfl, hbl, c0, c1, c2⟩ := HR.out k e he
      have HBr := Lib.hid (below_then HB0.out.1 HS.out.1)
      have d0 := carryE HBr.out hbl c0
      have d1 := carryE HBr.out hbl c1
      have d2 := carryE HBr.out hbl c2
      have hfe := HF.out e (List.mem_of_getElem? he)
      have HCO : Hid (∀ W, Calls Try.prog 40 #[.agg #[.int .u32 (xa : Int), .int .i64 xn], .agg #[.int .u32 (e.1.1 : Int), .int .i64 e.1.2]] W fun en w' => en = .returned (.bool (C (xa, xn) e.1)) ∧ Below W.heap.size W w') := fun W => rcovers_any xa HX.out.1 xn HX.out.2 e.1.1 hfe.1 e.1.2 hfe.2.1 W
      have HUP : Hid (dnC (xa, xn) e = (!decide (e.1 = (xa, xn)) && C (xa, xn) e.1)) := rfl
      have HY : Hid (dnC (xa, xn) e = true → o ++ [e.1] = kidP (xa, xn) (l.take (k + 1))) := fun h1 => by rw [kidP_yes he h1, ← HO.out]
      have HN : Hid (dnC (xa, xn) e = false → o = kidP (xa, xn) (l.take (k + 1))) := fun h1 => by rw [kidP_no he h1]; exact HO.out
      obtain ⟨⟨y, n⟩, val⟩ := e
      dsimp only at d0 d1 d2 HCO HUP HY HN
      have hws := HS.out.1.size
      have HB2 := Lib.hid (below_then HS.out.1 (below_alloc wr (.cells #[.int .u32 (y : Int), .int .i64 n, .int .i64 val] 51)))
      have HOW2 := Lib.hid (own_below HS.out.2 (below_alloc wr (.cells #[.int .u32 (y : Int), .int .i64 n, .int .i64 val] 51)))
      clear c0 c1 c2 he hfe HBr
      by_cases heq : (y, n) = (xa, xn)
      · have HN2 := Lib.hid (HN.out (by rw [HUP.out, decide_eq_true heq]; rfl))
        clear HY HUP HCO HN
        cases heq
        go_wp2_with fail
        go_roundg (L - (k + 1))
        case measure => omega
        case rel => exact ⟨k + 1, v, o, rfl, ⟨_, rfl⟩, by go_num, by omega, Nat.le_refl _, by omega, HN2, HB2.out, HOW2.out⟩
      · have HUN : Hid (dnC (xa, xn) ((y, n), val) = C (xa, xn) (y, n)) := by show _ = _; rw [HUP.out, decide_eq_false heq]; rfl
        clear HUP
        by_cases hyx : y = xa
        · cases hyx
          have f1 : ¬ n = xn := fun g => heq (by rw [g])
          have f2 : decide (n = xn) = false := decide_eq_false f1
          clear heq
          cases hcc : C (xa, xn) (xa, n)
          · rw [hcc] at HCO
            have HN2 := Lib.hid (HN.out (by rw [HUN.out, hcc]))
            clear HN HY HUN hcc
            go_wp2_with (go_at_call 40; refine (HCO.out _).mono ?_; rintro en w2 ⟨rfl, hb⟩; have HB3 := Lib.hid (below_then HB2.out hb); have HOW3 := Lib.hid (own_below HOW2.out hb); clear hb)
            all_goals (
              go_roundg (L - (k + 1))
              case measure => omega
              case rel => exact ⟨k + 1, v, o, rfl, ⟨_, rfl⟩, by go_num, by omega, Nat.le_refl _, by omega, HN2, HB3.out, HOW3.out⟩)
          · have HY2 := Lib.hid (HY.out (by rw [HUN.out, hcc]))
            rw [hcc] at HCO
            clear HN HY HUN hcc
            go_wp2_with (first
              | (go_at_call 40; refine (HCO.out _).mono ?_; rintro en w2 ⟨rfl, hb⟩; have HB3 := Lib.hid (below_then HB2.out hb); have HOW3 := Lib.hid (own_below HOW2.out hb); have hs3 := HB3.out.size; have e0 := carry hb (p := ⟨wr.heap.size, 0, none⟩) (v := .int .u32 (xa : Int)) (by simp); have e1 := carry hb (p := ⟨wr.heap.size, 1, none⟩) (v := .int .i64 n) (by simp); clear hb)
              | (at_builtin; refine wpList_append_own _ rfl (.tmp 26) (.tmp 29) 22 rfl w0.heap.size 28 i0 (.agg #[.int .u32 0, .int .i64 0]) 2 16 Try.underlying22 hi hz0 hz1 hz2 rfl (by decide) v o.length (flat o) rfl (own_below HOW3.out (below_alloc _ _)) ⟨w2.heap.size, 0, none⟩ 1 1 [.int .u32 (xa : Int), .int .i64 n] rfl rfl (cellP_two_new _ _ _ _ rfl) (one_two _ _) (by unfold maxLen; omega) (by omega) (by simp; omega) ?_; intro v1 w4 hown hgrow hnil; have S2 : Hid (Below w0.heap.size w0 w4 ∧ w4.ownsRow w0.heap.size 28 2 v1 (o ++ [(xa, n)]).length (flat (o ++ [(xa, n)]))) := ⟨(HB3.out.alloc hs3 _).grown hgrow (by simp; omega) (fun q hq => (own_lt HOW3.out hq).1), by rw [flat_snoc, List.length_append]; exact hown⟩; clear hown hgrow hnil))
            all_goals (
              go_roundg (L - (k + 1))
              case measure => omega
              case rel => exact ⟨k + 1, v1, o ++ [(xa, n)], rfl, ⟨_, rfl⟩, by go_num, by omega, Nat.le_refl _, by simp; omega, HY2, S2⟩)
        · have f1 : ¬ (y : Int) = (xa : Int) := by omega
          have f2 : decide ((y : Int) = (xa : Int)) = false := decide_eq_false f1
          clear heq
          cases hcc : C (xa, xn) (y, n)
          · rw [hcc] at HCO
            have HN2 := Lib.hid (HN.out (by rw [HUN.out, hcc]))
            clear HN HY HUN hcc
            go_wp2_with (go_at_call 40; refine (HCO.out _).mono ?_; rintro en w2 ⟨rfl, hb⟩; have HB3 := Lib.hid (below_then HB2.out hb); have HOW3 := Lib.hid (own_below HOW2.out hb); clear hb)
            all_goals (
              go_roundg (L - (k + 1))
              case measure => omega
              case rel => exact ⟨k + 1, v, o, rfl, ⟨_, rfl⟩, by go_num, by omega, Nat.le_refl _, by omega, HN2, HB3.out, HOW3.out⟩)
          · have HY2 := Lib.hid (HY.out (by rw [HUN.out, hcc]))
            rw [hcc] at HCO
            clear HN HY HUN hcc
            go_wp2_with (first
              | (go_at_call 40; refine (HCO.out _).mono ?_; rintro en w2 ⟨rfl, hb⟩; have HB3 := Lib.hid (below_then HB2.out hb); have HOW3 := Lib.hid (own_below HOW2.out hb); have hs3 := HB3.out.size; have e0 := carry hb (p := ⟨wr.heap.size, 0, none⟩) (v := .int .u32 (y : Int)) (by simp); have e1 := carry hb (p := ⟨wr.heap.size, 1, none⟩) (v := .int .i64 n) (by simp); clear hb)
              | (at_builtin; refine wpList_append_own _ rfl (.tmp 26) (.tmp 29) 22 rfl w0.heap.size 28 i0 (.agg #[.int .u32 0, .int .i64 0]) 2 16 Try.underlying22 hi hz0 hz1 hz2 rfl (by decide) v o.length (flat o) rfl (own_below HOW3.out (below_alloc _ _)) ⟨w2.heap.size, 0, none⟩ 1 1 [.int .u32 (y : Int), .int .i64 n] rfl rfl (cellP_two_new _ _ _ _ rfl) (one_two _ _) (by unfold maxLen; omega) (by omega) (by simp; omega) ?_; intro v1 w4 hown hgrow hnil; have S2 : Hid (Below w0.heap.size w0 w4 ∧ w4.ownsRow w0.heap.size 28 2 v1 (o ++ [(y, n)]).length (flat (o ++ [(y, n)]))) := ⟨(HB3.out.alloc hs3 _).grown hgrow (by simp; omega) (fun q hq => (own_lt HOW3.out hq).1), by rw [flat_snoc, List.length_append]; exact hown⟩; clear hown hgrow hnil))
            all_goals (
              go_roundg (L - (k + 1))
              case measure => omega
              case rel => exact ⟨k + 1, v1, o ++ [(y, n)], rfl, ⟨_, rfl⟩, by go_num, by omega, Nat.le_refl _, by simp; omega, HY2, S2⟩)
    · have k1 : decide ((k : Int) < (L : Int)) = false := decide_eq_false (by omega)
      have HK : Hid (o = kidP (xa, xn) l) := by
        show _ = _
        have h1 := HO.out
        rwa [List.take_of_length_le (by have := HL.out; omega)] at h1
      have HSUB : Hid (∀ W, Below wr.heap.size wr W → ∀ v1, Rd W v1 [(xa, xn)] → Calls Try.prog 32 #[v1, v] W fun e w' => ∃ v' B, e = .returned v' ∧ CM.Nrm (fun y => (mem [(xa, xn)] y && !mem o y)) B ∧ Rd w' v' (B.map pfx) ∧ Below W.heap.size W w') := fun W hW v1 h1 =>
        rsubt_any merged_any [(xa, xn)] o v1 v W (by simp) (by rw [HK.out]; exact HKF.out.2) (fun p hp => by rw [List.mem_singleton.1 hp]; exact HX.out) (by rw [HK.out]; exact HKF.out.1) h1 ((rd_own HS.out.2).below hW)
      have HRB2 : Hid (∀ B, CM.Nrm (fun y => (mem [(xa, xn)] y && !mem o y)) B → (r = true ↔ B = [])) := by show ∀ _, _; rw [HK.out]; exact HRB.out
      have HB4 := Lib.hid (below_then HB0.out.1 HS.out.1)
      clear HRB HK HKF HKL
      have HRX : Hid (Rd (wr.alloc (.cells #[.int .u32 (xa : Int), .int .i64 xn] 28)) (.slice (some ⟨wr.heap.size, 0, none⟩) 1 1) [(xa, xn)]) := ⟨some ⟨wr.heap.size, 0, none⟩, 1, rfl, fun i p hp => by
        obtain rfl : i = 0 := by have := (List.getElem?_eq_some_iff.1 hp).1; simpa using this
        obtain rfl : (xa, xn) = p := by simpa using hp
        exact ⟨wr.heap.size, 0, rfl, by simp, cellO (heap_alloc_new _ _) rfl, cellO (heap_alloc_new _ _) rfl⟩⟩
      go_wp2_with fail
      go_at_call 32
      refine (HSUB.out _ (below_alloc _ _) _ HRX.out).mono ?_
      rintro en w5 ⟨v5, B, rfl, hN, hr5, hb5⟩
      obtain ⟨ad5, cap5, rfl, -⟩ := hr5
      rw [List.length_map]
      have HB5 := Lib.hid (below_then HB4.out (below_then (below_alloc wr (.cells #[.int .u32 (xa : Int), .int .i64 xn] 28)) hb5))
      have hiff := HRB2.out B hN
      obtain ⟨M, hM⟩ : ∃ M, B.length = M := ⟨_, rfl⟩
      have hMB : r = decide (M = 0) := by
        rw [Bool.eq_iff_iff, decide_eq_true_iff, hiff, ← hM]; exact List.length_eq_zero_iff.symm
      rw [hM]
      clear hN hiff hM hb5 HSUB HRX
      by_cases h0 : M = 0
      · have HRT : Hid (r = true) := hMB.trans (decide_eq_true h0)
        subst h0
        clear hMB
        go_wp2_with fail
        go_ret
        exact ⟨by rw [HRT.out]; rfl, HB5.out⟩
      · have HRT : Hid (r = false) := hMB.trans (decide_eq_false h0)
        have m1 : ((M : Int) == 0) = false := by simpa using h0
        have m2 : decide ((M : Int) = 0) = false := decide_eq_false (by omega)
        clear hMB
        go_wp2_with fail
        go_ret
        exact ⟨by rw [HRT.out]; rfl, HB5.out⟩
end Go.Proofs.Ytegponbmelgngaa
end

section
namespace Go.Proofs.Ytegponbmelgngaa
open Go.RowKit
open Classical
set_option linter.unusedSimpArgs false
set_option linter.unusedVariables false
set_option maxHeartbeats 1500000
set_option maxRecDepth 100000

theorem rtrim_any (l : List En) (v : Value) (w : World) (hlen : l.length ≤ 60) (hr : RdE w v l) (hf : FitE l) :
    Calls Try.prog 56 #[v] w fun e w' => ∃ v', e = .returned (.tuple #[v', .int .i64 (ckE l)]) ∧ (ckE l = 0 → RdE w' v' (trimE l)) ∧ (ckE l ≠ 0 → v' = .slice none 0 0) ∧ Below w.heap.size w w' := by
  obtain ⟨i0, hi, hz0, hz1, hz2⟩ := info_parts info51
  have HC := Lib.hid (rcheck48_any l v w hr hf)
  by_cases hck : ckE l = 0
  · have ht := ckE_iff.1 hck
    have HH : Hid (∀ W x, Below w.heap.size w W → x ∈ l → Calls Try.prog 93 #[v, .agg #[.int .u32 (x.1.1 : Int), .int .i64 x.1.2, .int .i64 x.2]] W fun e w' => e = .returned (.bool (decide (AG.HidE (l.map toBe) (toBe x)))) ∧ Below W.heap.size W w') := fun W x hW hx => rhidden_any l v x W ht hlen (hr.below hW) hf hx
    have HT := Lib.hid (visE_tab ht)
    have HF2 := Lib.hid (visE_fit hf)
    rw [hck] at HC ⊢
    obtain ⟨ad, cap, rfl, hc⟩ := hr
    have HR := Lib.hid hc
    obtain ⟨L, hL⟩ : ∃ L, l.length = L := ⟨_, rfl⟩
    rw [hL] at hlen HC HH ⊢
    have HL := Lib.hid hL
    clear hck hc hf ht hL
    go_enter Try.func56, Try.ntmps56
    go_wp2_with (go_at_call 48; refine HC.out.mono ?_; rintro en w1 ⟨rfl, hb⟩; have HB1 := Lib.hid hb; clear hb)
    go_loopg [5, 8, 18] L (fun g s5 s8 s18 wr => ∃ (k : Nat) (v : Value) (o : List En), v = s5 ∧ (∃ u, u = s8) ∧ s18 = .int .i64 (k : Int) ∧ k ≤ L ∧ L - k ≤ g ∧ o.length ≤ k ∧ Hid (o = visP l k) ∧ Hid (Below w1.heap.size w1 wr ∧ wr.ownsRow w1.heap.size 51 3 v o.length (flatE o)))
    case atStart => exact ⟨0, _, [], rfl, ⟨_, rfl⟩, rfl, by omega, by omega, Nat.le_refl _, rfl, Below.refl _ _, World.ownsRow_nil _ _ _ _⟩
    case round =>
      obtain ⟨k, v, o, rfl, ⟨u8, rfl⟩, rfl, hk, hg, hok, HO, HS⟩ := hrel
      by_cases hlt : k < L
      · obtain ⟨e, he⟩ : ∃ x, l[k]? = some x := ⟨_, List.getElem?_eq_getElem (by have := HL.out; omega)⟩
        obtain ⟨b, off, rfl, hbl, c0, c1, c2⟩ := HR.out k e he
        have HBr := Lib.hid (below_then HB1.out HS.out.1)
        have d0 := carryE HBr.out hbl c0
        have d1 := carryE HBr.out hbl c1
        have d2 := carryE HBr.out hbl c2
        have HHE := Lib.hid (fun W hW => HH.out W e hW (List.mem_of_getElem? he))
        have HY : Hid (¬ AG.HidE (l.map toBe) (toBe e) → o ++ [e] = visP l (k + 1)) := fun h => by rw [visP_keep he h, ← HO.out]
        have HN : Hid (AG.HidE (l.map toBe) (toBe e) → o = visP l (k + 1)) := fun h => by rw [visP_drop he h]; exact HO.out
        obtain ⟨⟨x, n⟩, val⟩ := e
        dsimp only at d0 d1 d2 HHE
        have hws := HS.out.1.size
        have HB2 := Lib.hid (below_then HS.out.1 (below_alloc wr (.cells #[.int .u32 (x : Int), .int .i64 n, .int .i64 val] 51)))
        have HBw := Lib.hid (below_then HB1.out HB2.out)
        have HOW2 := Lib.hid (own_below HS.out.2 (below_alloc wr (.cells #[.int .u32 (x : Int), .int .i64 n, .int .i64 val] 51)))
        clear c0 c1 c2 he HBr hbl
        by_cases hh : AG.HidE (l.map toBe) (toBe ((x, n), val))
        · have HN2 := Lib.hid (HN.out hh)
          rw [decide_eq_true hh] at HHE
          clear hh HY HN
          go_wp2_with (go_at_call 93; refine (HHE.out _ HBw.out).mono ?_; rintro en w2 ⟨rfl, hb⟩; have HB3 := Lib.hid (below_then HB2.out hb); have HOW3 := Lib.hid (own_below HOW2.out hb); clear hb)
          go_roundg (L - (k + 1))
          case measure => omega
          case rel => exact ⟨k + 1, v, o, rfl, ⟨_, rfl⟩, by go_num, by omega, Nat.le_refl _, by omega, HN2, HB3.out, HOW3.out⟩
        · have HY2 := Lib.hid (HY.out hh)
          rw [decide_eq_false hh] at HHE
          clear hh HY HN
          go_wp2_with (first
            | (go_at_call 93; refine (HHE.out _ HBw.out).mono ?_; rintro en w2 ⟨rfl, hb⟩; have HB3 := Lib.hid (below_then HB2.out hb); have HOW3 := Lib.hid (own_below HOW2.out hb); have hs3 := HB3.out.size; have e0 := carry hb (p := ⟨wr.heap.size, 0, none⟩) (v := .int .u32 (x : Int)) (by simp); have e1 := carry hb (p := ⟨wr.heap.size, 1, none⟩) (v := .int .i64 n) (by simp); have e2 := carry hb (p := ⟨wr.heap.size, 2, none⟩) (v := .int .i64 val) (by simp); clear hb)
            | (at_builtin; refine wpList_append_own _ rfl (.tmp 26) (.tmp 28) 56 rfl w1.heap.size 51 i0 (.agg #[.int .u32 0, .int .i64 0, .int .i64 0]) 3 24 Try.underlying56 hi hz0 hz1 hz2 rfl (by decide) v o.length (flatE o) rfl (own_below HOW3.out (below_alloc _ _)) ⟨w2.heap.size, 0, none⟩ 1 1 [.int .u32 (x : Int), .int .i64 n, .int .i64 val] rfl rfl (cell_three_at _ _ _ _ _ rfl) (one_three _ _ _) (by unfold maxLen; omega) (by omega) (by simp; omega) ?_; intro v1 w4 hown hgrow hnil; have S2 : Hid (Below w1.heap.size w1 w4 ∧ w4.ownsRow w1.heap.size 51 3 v1 (o ++ [((x, n), val)]).length (flatE (o ++ [((x, n), val)]))) := ⟨(HB3.out.alloc hs3 _).grown hgrow (by simp; omega) (fun q hq => (own_lt HOW3.out hq).1), by rw [flatE_snoc, List.length_append]; exact hown⟩; clear hown hgrow hnil))
          go_roundg (L - (k + 1))
          case measure => omega
          case rel => exact ⟨k + 1, v1, o ++ [((x, n), val)], rfl, ⟨_, rfl⟩, by go_num, by omega, Nat.le_refl _, by simp; omega, HY2, S2⟩
      · have k1 : decide ((k : Int) < (L : Int)) = false := decide_eq_false (by omega)
        have HOV : Hid (o = visE l) := HO.out.trans (visP_all (by have := HL.out; omega))
        obtain ⟨ad2, cap2, hv2, hc2⟩ := rdE_own HS.out.2
        have HRV := Lib.hid (rdE_own HS.out.2)
        have HR2 := Lib.hid hc2
        have HTV : Hid (TabE o ∧ FitE o) := by show _ ∧ _; rw [HOV.out]; exact ⟨HT.out, HF2.out⟩
        have HBW := Lib.hid (below_then HB1.out HS.out.1)
        have hL2 : o.length ≤ 60 := by omega
        have HUP : Hid (∀ W (x : En), Below wr.heap.size wr W → x ∈ o → Calls Try.prog 94 #[v, .agg #[.int .u32 (x.1.1 : Int), .int .i64 x.1.2, .int .i64 x.2]] W fun e w' => e = .returned (.int .i64 (upV x.1 o).1) ∧ Below W.heap.size W w') := fun W x hW hx =>
          rabove_any o v x W (by omega) (HRV.out.below hW) HTV.out.2 (HTV.out.2 x hx).1 (HTV.out.2 x hx).2.1 (HTV.out.1.val x hx).1
        obtain ⟨L2, hl2⟩ : ∃ L2, o.length = L2 := ⟨_, rfl⟩
        have HL2 := Lib.hid hl2
        subst hv2
        rw [hl2] at hL2 HUP ⊢
        clear hc2 HO HRV HH HT HF2 HR hok
        have HS1 := Lib.hid HS.out.1
        obtain ⟨w3, hw3⟩ : ∃ w3, w3 = wr := ⟨_, rfl⟩
        rw [← hw3] at HS1 HBW HUP HR2 ⊢
        clear hw3 HS
        go_wp2_with fail
        go_loopg [6, 10, 33] L2 (fun g s6 s10 s33 wr => ∃ (k : Nat) (v : Value) (q : List En), v = s6 ∧ (∃ u, u = s10) ∧ s33 = .int .i64 (k : Int) ∧ k ≤ L2 ∧ L2 - k ≤ g ∧ q.length ≤ k ∧ Hid (q = effE o k) ∧ Hid (Below w3.heap.size w3 wr ∧ wr.ownsRow w3.heap.size 51 3 v q.length (flatE q)))
        case atStart => exact ⟨0, _, [], rfl, ⟨_, rfl⟩, rfl, by omega, by omega, Nat.le_refl _, rfl, Below.refl _ _, World.ownsRow_nil _ _ _ _⟩
        case round =>
          obtain ⟨k, v, q, rfl, ⟨u10, rfl⟩, rfl, hk, hg, hqk, HQ, HS⟩ := hrel
          by_cases hlt : k < L2
          · obtain ⟨e, he⟩ : ∃ x, o[k]? = some x := ⟨_, List.getElem?_eq_getElem (by have := HL2.out; omega)⟩
            obtain ⟨b, off, rfl, hbl, c0, c1, c2⟩ := HR2.out k e he
            have d0 := carryE HS.out.1 hbl c0
            have d1 := carryE HS.out.1 hbl c1
            have d2 := carryE HS.out.1 hbl c2
            have hab := upV_abv HTV.out.1 he
            have HUE := Lib.hid (fun W hW => HUP.out W e hW (List.mem_of_getElem? he))
            have HY := Lib.hid (effE_keep he)
            have HN := Lib.hid (effE_drop he)
            rw [← hab] at HY HN
            obtain ⟨ab, hab2⟩ : ∃ ab, ab = (upV e.1 o).1 := ⟨_, rfl⟩
            rw [← hab2] at HY HN HUE
            clear hab hab2
            obtain ⟨⟨x, n⟩, val⟩ := e
            dsimp only at d0 d1 d2 HUE HY HN
            have hws := HS.out.1.size
            have HB2 := Lib.hid (below_then HS.out.1 (below_alloc wr (.cells #[.int .u32 (x : Int), .int .i64 n, .int .i64 val] 51)))
            have HOW2 := Lib.hid (own_below HS.out.2 (below_alloc wr (.cells #[.int .u32 (x : Int), .int .i64 n, .int .i64 val] 51)))
            have HNB : Hid ((wr.alloc (.cells #[.int .u32 (x : Int), .int .i64 n, .int .i64 val] 51)).heap[wr.heap.size]? = some (.cells #[.int .u32 (x : Int), .int .i64 n, .int .i64 val] 51 (0, 0))) := heap_alloc_new _ _
            clear c0 c1 c2 he hbl
            obtain ⟨tb, htb⟩ : ∃ tb : Bool, tb = (ab != val) := ⟨_, rfl⟩
            have HTB := Lib.hid htb
            go_upto_region 14 with (fail)
            go_cut [42] (fun sb wx => sb = .bool tb ∧ Hid (Below w3.heap.size w3 wx ∧ wx.ownsRow w3.heap.size 51 3 v q.length (flatE q) ∧ wr.heap.size < wx.heap.size ∧ wx.heap[wr.heap.size]? = some (.cells #[.int .u32 (x : Int), .int .i64 n, .int .i64 val] 51 (0, 0))))
            case first =>
              clear d0 d1 d2
              have T1 : Below w3.heap.size w3 (wr.alloc (.cells #[.int .u32 (x : Int), .int .i64 n, .int .i64 val] 51)).drew := ⟨HB2.out.os, HB2.out.tape, HB2.out.output, HB2.out.size, HB2.out.block⟩
              have T2 := Lib.hid (HUE.out _ T1)
              clear T1 HUE
              go_region_with (go_at_call 94; refine T2.out.mono ?_; rintro en w2 ⟨rfl, hb0⟩; have hb : Below (wr.alloc (.cells #[.int .u32 (x : Int), .int .i64 n, .int .i64 val] 51)).heap.size (wr.alloc (.cells #[.int .u32 (x : Int), .int .i64 n, .int .i64 val] 51)) w2 := ⟨hb0.os, hb0.tape, hb0.output, hb0.size, hb0.block⟩; clear hb0; have HB3 := Lib.hid (below_then HB2.out hb); have HOW3 := Lib.hid (own_below HOW2.out hb); have HK3 := Lib.hid ((hb.block _ (ltO HNB.out)).trans HNB.out); have e2 := carry hb (p := ⟨wr.heap.size, 2, none⟩) (v := .int .i64 val) (by simp); clear hb)
              all_goals go_wp2_with fail
              all_goals go_meet
              all_goals exact ⟨by rw [htb], HB3.out, HOW3.out, ltO HK3.out, HK3.out⟩
            case rest =>
              obtain ⟨rfl, HW⟩ := hcut
              clear d0 d1 d2
              have e0 : wc.cell? ⟨wr.heap.size, 0, none⟩ = some (.int .u32 (x : Int)) := cellO HW.out.2.2.2 rfl
              have e1 : wc.cell? ⟨wr.heap.size, 1, none⟩ = some (.int .i64 n) := cellO HW.out.2.2.2 rfl
              have e2 : wc.cell? ⟨wr.heap.size, 2, none⟩ = some (.int .i64 val) := cellO HW.out.2.2.2 rfl
              have hs3 := HW.out.1.size
              have hzc := HW.out.2.2.1
              clear htb
              cases tb
              · have HN2 : Hid (q = effE o (k + 1)) := by
                  show _ = _
                  have h1 : ab = val := by have := HTB.out; simpa using this.symm
                  rw [HN.out h1.symm]; exact HQ.out
                clear HY HN HTB
                go_wp2_with fail
                go_roundg (L2 - (k + 1))
                case measure => omega
                case rel => exact ⟨k + 1, v, q, rfl, ⟨_, rfl⟩, by go_num, by omega, Nat.le_refl _, by omega, HN2, HW.out.1, HW.out.2.1⟩
              · have HY2 : Hid (q ++ [((x, n), val)] = effE o (k + 1)) := by
                  show _ = _
                  have h1 : ab ≠ val := by have := HTB.out; simpa using this.symm
                  rw [HY.out (fun g => h1 g.symm), ← HQ.out]
                clear HY HN HTB
                go_wp2_with (at_builtin; refine wpList_append_own _ rfl (.tmp 43) (.tmp 45) 56 rfl w3.heap.size 51 i0 (.agg #[.int .u32 0, .int .i64 0, .int .i64 0]) 3 24 Try.underlying56 hi hz0 hz1 hz2 rfl (by decide) v q.length (flatE q) rfl (own_below HW.out.2.1 (below_alloc _ _)) ⟨wc.heap.size, 0, none⟩ 1 1 [.int .u32 (x : Int), .int .i64 n, .int .i64 val] rfl rfl (cell_three_at _ _ _ _ _ rfl) (one_three _ _ _) (by unfold maxLen; omega) (by omega) (by simp; omega) ?_; intro v1 w4 hown hgrow hnil; have S2 : Hid (Below w3.heap.size w3 w4 ∧ w4.ownsRow w3.heap.size 51 3 v1 (q ++ [((x, n), val)]).length (flatE (q ++ [((x, n), val)]))) := ⟨(HW.out.1.alloc hs3 _).grown hgrow (by simp; omega) (fun g hg => (own_lt HW.out.2.1 hg).1), by rw [flatE_snoc, List.length_append]; exact hown⟩; clear hown hgrow hnil)
                go_roundg (L2 - (k + 1))
                case measure => omega
                case rel => exact ⟨k + 1, v1, q ++ [((x, n), val)], rfl, ⟨_, rfl⟩, by go_num, by omega, Nat.le_refl _, by simp; omega, HY2, S2⟩
          · have k1 : decide ((k : Int) < (L2 : Int)) = false := decide_eq_false (by omega)
            have HQ2 : Hid (q = trimE l) := by
              show _ = _
              have : k = L2 := by omega
              rw [HQ.out, this, ← HL2.out, HOV.out]; rfl
            have HRD : Hid (RdE wr v (trimE l)) := by show RdE _ _ _; rw [← HQ2.out]; exact rdE_own HS.out.2
            go_wp2
            go_ret2
            exact ⟨v, rfl, fun _ => HRD.out, fun h => absurd rfl h, below_then HBW.out HS.out.1⟩
  · generalize hq : ckE l = q at *
    have h1 : (q == 0) = false := by simpa using hck
    have h2 : (q != 0) = true := by simpa using hck
    have HN := Lib.hid hck
    clear hck hr hf hq
    go_enter Try.func56, Try.ntmps56
    go_wp2_with (go_at_call 48; refine HC.out.mono ?_; rintro en w1 ⟨rfl, hb⟩; have HB := Lib.hid hb; clear hb)
    go_ret2
    exact ⟨.slice none 0 0, rfl, fun h => absurd h HN.out, fun _ => rfl, HB.out⟩
end Go.Proofs.Ytegponbmelgngaa
end
