/-
  The walk of the reference's All.
-/
import Derived.Test.YtmbogobebllheaaLfNx
import Derived.Test.YtmbogobebllheaaMz
import Derived.Test.YtmbogobebllheaaMy
import Derived.Test.YtmbogobebllheaaMl
import Derived.Test.YtmbogobebllheaaMrr
namespace Go.Proofs.Ytmbogobebllheaa
open Go.RowKit HM GM SP Go.Lib
set_option linter.unusedSimpArgs false
set_option linter.unusedVariables false
set_option maxHeartbeats 4000000
set_option maxRecDepth 100000
def alO (a : Al) : Obj := .cells #[.int .i64 a.dest, .int .i64 a.prim, .int .i64 a.via, .int .i64 a.kind, .bool a.down] 47 (0, 0)
/-- the best alternate so far in a block of its own; the row of neighbours stands -/
structure B3 (V : World) (Nn : Nat) (nad : Option Addr) (nx : List Int) (W : World) (acc : Option (Al × Int)) : Prop where
  b : Below V.heap.size V W
  h : W.heap[V.heap.size]? = some (alO (bv acc).1)
  n : ∀ k x, nx[k]? = some x → ∃ b off, nad = some ⟨b, off, none⟩ ∧ V.heap.size < b ∧ b < Nn ∧ W.cell? ⟨b, off + k, none⟩ = some (.int .i64 x)
  s : Nn ≤ W.heap.size
theorem B3.below {V W W1 : World} {Nn : Nat} {nad : Option Addr} {nx : List Int} {acc : Option (Al × Int)} (h : B3 V Nn nad nx W acc) (hb : Below W.heap.size W W1) : B3 V Nn nad nx W1 acc :=
  ⟨below_then h.b hb, (hb.block _ (lt_block h.h)).trans h.h, fun k x hk => by obtain ⟨b, off, e1, e2, e3, e4⟩ := h.n k x hk; exact ⟨b, off, e1, e2, e3, carry hb e4⟩, Nat.le_trans h.s hb.size⟩
theorem B3.put {V W : World} {Nn : Nat} {nad : Option Addr} {nx : List Int} {acc : Option (Al × Int)} (h : B3 V Nn nad nx W acc) (c : Al × Int) :
    B3 V Nn nad nx (((((W.setCell ⟨V.heap.size, 0, none⟩ (.int .i64 c.1.dest)).setCell ⟨V.heap.size, 1, none⟩ (.int .i64 c.1.prim)).setCell ⟨V.heap.size, 2, none⟩ (.int .i64 c.1.via)).setCell ⟨V.heap.size, 3, none⟩ (.int .i64 c.1.kind)).setCell ⟨V.heap.size, 4, none⟩ (.bool c.1.down)) (some c) := by
  have hh : ∀ k, V.heap.size ≤ (Addr.mk V.heap.size k none).block := fun k => Nat.le_refl _
  refine ⟨((((h.b.setCell (hh 0) _).setCell (hh 1) _).setCell (hh 2) _).setCell (hh 3) _).setCell (hh 4) _, set5 h.h _ _ _ _ _, fun k x hk => ?_, ?_⟩
  · obtain ⟨b, off, e1, e2, e3, e4⟩ := h.n k x hk
    refine ⟨b, off, e1, e2, e3, ?_⟩
    rw [World.cell?_setCell_far _ _ _ _ (by dsimp only; omega), World.cell?_setCell_far _ _ _ _ (by dsimp only; omega), World.cell?_setCell_far _ _ _ _ (by dsimp only; omega), World.cell?_setCell_far _ _ _ _ (by dsimp only; omega), World.cell?_setCell_far _ _ _ _ (by dsimp only; omega)]
    exact e4
  · have := h.s; simpa using this
theorem B3.setc {V W : World} {Nn : Nat} {nad : Option Addr} {nx : List Int} {acc : Option (Al × Int)} (h : B3 V Nn nad nx W acc) {c : Nat} (hc : Nn ≤ c) (hV : V.heap.size < c) (i : Nat) (v : Value) : B3 V Nn nad nx (W.setCell ⟨c, i, none⟩ v) acc := by
  refine ⟨h.b.setCell (Nat.le_of_lt hV) _, by rw [heap_set_ne (by omega)]; exact h.h, fun k x hk => ?_, by have := h.s; simpa using this⟩
  obtain ⟨b, off, e1, e2, e3, e4⟩ := h.n k x hk
  refine ⟨b, off, e1, e2, e3, ?_⟩
  rw [World.cell?_setCell_far _ _ _ _ (by dsimp only; omega)]
  exact e4
theorem B3.start {V W : World} {nx : List Int} {v : Value} (hb : Below (V.alloc (.cells #[.int .i64 0, .int .i64 0, .int .i64 0, .int .i64 0, .bool false] 47)).heap.size (V.alloc (.cells #[.int .i64 0, .int .i64 0, .int .i64 0, .int .i64 0, .bool false] 47)) W) (hn : RdIB (V.alloc (.cells #[.int .i64 0, .int .i64 0, .int .i64 0, .int .i64 0, .bool false] 47)).heap.size W v nx) :
    ∃ nad cap, v = .slice nad nx.length cap ∧ nx.length ≤ cap ∧ B3 V W.heap.size nad nx W none := by
  obtain ⟨ad, cap, e, h1, h2, hc⟩ := hn
  refine ⟨ad, cap, e, h1, ⟨below_then (below_alloc _ _) hb, (hb.block _ (by simp)).trans (heap_alloc_new _ _), fun k x hk => ?_, Nat.le_refl _⟩⟩
  obtain ⟨b, off, e1, e2, e3, e4⟩ := hc k x hk
  exact ⟨b, off, e1, by simp at e3; omega, e2, e4⟩
theorem rla_ok (r root : Nat) (l : List E) (s : Value) (w : World) (hv : Valid (r : Int) 0 l) (hr : Rd3 w s l) (hf : FitT l) (hroot : root < r) (hro : roE (r : Int) 0 l = 0) :
    Calls Try.prog 26 #[.agg #[.int .i64 (r : Int), .int .i64 0, s], .int .i64 (root : Int)] w fun e w' => ∃ v t, e = .returned (.tuple #[v, .int .i64 0]) ∧ RdA w' v (allA l (root : Int) r t.hops) ∧ IsTre (r : Int) 0 l (root : Int) t ∧ Below w.heap.size w w' := by
  have hS := hv.s
  have hI : I64 (r : Int) := by unfold I64; omega
  have hI0 : I64 (0 : Int) := by unfold I64; omega
  have hfit : Fits l := by unfold Fits; have := hv.len; omega
  have HRO : Hid (∀ W, Below w.heap.size w W → Calls Try.prog 70 #[.agg #[.int .i64 (r : Int), .int .i64 0, s]] W fun e w' => e = .returned (.int .i64 0) ∧ Below W.heap.size W w') := fun W hW => by
    have := rro_any (r : Int) 0 l s W hI hI0 (hr.below hW) hf
    rwa [hro] at this
  have HAll : Hid (∀ W, Below w.heap.size w W → Calls Try.prog 41 #[.agg #[.int .i64 (r : Int), .int .i64 0, s]] W fun e w' => ∃ v, e = .returned (.tuple #[v, .int .i64 0]) ∧ RdR w' v (gT (allRow l r) r r) ∧ Below W.heap.size W w') := fun W hW => by
    refine (rall_any (r : Int) 0 l s W hI hI0 (hr.below hW) hf).mono ?_
    rintro e w' ⟨rows, er, v, rfl, h1, h2, h3⟩
    rcases h2 with ⟨a1, _⟩ | ⟨_, rfl, q, a3, rfl⟩
    · exact absurd (chk_iff.2 hv) a1
    · obtain rfl : r = q := by omega
      exact ⟨v, rfl, h1, h3⟩
  have HRun : Hid (∀ W, Below w.heap.size w W → Calls Try.prog 56 #[.agg #[.int .i64 (r : Int), .int .i64 0, s], .int .i64 (root : Int)] W fun e w' => ∃ t tv, e = .returned (.tuple #[tv, .int .i64 0]) ∧ RdT w' tv t ∧ IsTre (r : Int) 0 l (root : Int) t ∧ Below W.heap.size W w') := fun W hW => by
    refine (rrun_good (r : Int) 0 l s root r W hI hI0 (hr.below hW) hf (chk_iff.2 hv) (by omega) (by omega)).mono ?_
    rintro e w' ⟨t, tv, rfl, ht, hrt, htr, hb⟩
    exact ⟨t, tv, rfl, ht, ⟨r, by omega, hrt, htr⟩, hb⟩
  have HNX : Hid (∀ W, Below w.heap.size w W → Calls Try.prog 71 #[.agg #[.int .i64 (r : Int), .int .i64 0, s], .int .i64 (root : Int)] W fun e w' => ∃ v, e = .returned v ∧ RdIB W.heap.size w' v ((outs l (root : Int)).map (fun e => e.2.1)) ∧ Below W.heap.size W w') := fun W hW => by
    refine (rnext_own (r : Int) 0 (root : Int) l s W hfit (hr.below hW)).mono ?_
    rintro e w' ⟨v, q, rfl, h1, h2, hb⟩
    rw [next_outs hv h2] at h1
    exact ⟨v, rfl, h1, hb⟩
  have HCO : Hid (∀ (y : Nat) z W, ((root : Int), (y : Int), z) ∈ l → Below w.heap.size w W → Calls Try.prog 43 #[.agg #[.int .i64 (r : Int), .int .i64 0, s], .int .i64 (root : Int), .int .i64 (y : Int)] W fun e w' => e = .returned (.tuple #[.int .i64 z, .bool true]) ∧ Below W.heap.size W w') := fun y z W hm hW => by
    have := rcost_any (r : Int) 0 (root : Int) (y : Int) l s W (hr.below hW)
    rwa [cst_mem hv.asc hm] at this
  have HV := Lib.hid hv
  have HED : Hid (∀ e ∈ outs l (root : Int), ∃ (y : Nat) (z : Int), e = ((root : Int), (y : Int), z) ∧ y < r ∧ (0 ≤ z ∧ z ≤ 65535) ∧ ((root : Int), (y : Int), z) ∈ l) := fun e he => by
    unfold outs at he
    have h := List.mem_filter.1 he
    have h1 := h.1
    have h2 : e.1 = (root : Int) := of_decide_eq_true h.2
    obtain ⟨a, b, c⟩ := e
    have hed := edge hv h1
    dsimp only at h2
    subst h2
    exact ⟨b.toNat, c, by simp; omega, by omega, by omega, by have : ((b.toNat : Nat) : Int) = b := by omega
                                                              rw [this]; exact h1⟩
  have HOL : Hid ((outs l (root : Int)).length ≤ 1024) := Nat.le_trans (outs_len l _) hv.len
  have hr8 : r ≤ 128 := by omega
  have x0 : (0 : Int) ≤ (root : Int) := by omega
  have x1 : (root : Int) < (r : Int) := by omega
  have e1 : decide ((root : Int) < 0) = false := by simp
  have e2 : decide (r ≤ root) = false := by simp; omega
  have e5 : decide ((r : Int) ≤ (root : Int)) = false := by simp; omega
  obtain ⟨ad, cap, hform⟩ := rd3_slice hr
  obtain ⟨L, hL⟩ : ∃ L, l.length = L := ⟨_, rfl⟩
  rw [hL] at hform
  subst hform
  have HB0 := Lib.hid (below_alloc w (.cells #[.int .i64 (r : Int), .int .i64 0, .slice ad L cap] 27))
  have HX0 : Hid ((w.alloc (.cells #[.int .i64 (r : Int), .int .i64 0, .slice ad L cap] 27)).heap[w.heap.size]? = some (.cells #[.int .i64 (r : Int), .int .i64 0, .slice ad L cap] 27 (0, 0))) := heap_alloc_new _ _
  clear hr hL hv hS hI hI0 hro hf hfit
  go_enter Try.func26, Try.ntmps26
  go_wp2_with fail
  go_at_call 70
  refine (HRO.out _ HB0.out).mono ?_
  rintro e w1 ⟨rfl, hb⟩
  have HB1 := Lib.hid (below_then HB0.out hb)
  have HX1 := Lib.hid ((hb.block _ (lt_block HX0.out)).trans HX0.out)
  have q0 : w1.cell? ⟨w.heap.size, 0, none⟩ = some (.int .i64 (r : Int)) := cell_of HX1.out rfl
  have q1 : w1.cell? ⟨w.heap.size, 1, none⟩ = some (.int .i64 0) := cell_of HX1.out rfl
  have q2 : w1.cell? ⟨w.heap.size, 2, none⟩ = some (.slice ad L cap) := cell_of HX1.out rfl
  clear hb HRO HB0 HX0
  go_wp2_with fail
  go_at_call 41
  refine (HAll.out _ HB1.out).mono ?_
  rintro e w2 ⟨vd, rfl, hrd, hb⟩
  obtain ⟨ab, ao, ac, hav, hac, hat⟩ := DT.of hrd (allT_tb l r).1 (allT_tb l r).2 (by omega)
  subst hav
  clear q0 q1 q2
  have HB2 := Lib.hid (below_then HB1.out hb)
  have HX2 := Lib.hid ((hb.block _ (lt_block HX1.out)).trans HX1.out)
  have q0 : w2.cell? ⟨w.heap.size, 0, none⟩ = some (.int .i64 (r : Int)) := cell_of HX2.out rfl
  have q1 : w2.cell? ⟨w.heap.size, 1, none⟩ = some (.int .i64 0) := cell_of HX2.out rfl
  have q2 : w2.cell? ⟨w.heap.size, 2, none⟩ = some (.slice ad L cap) := cell_of HX2.out rfl
  have HD2 := Lib.hid hrd
  have HT2 := Lib.hid hat
  clear hb hrd hat HAll HB1 HX1
  go_wp2_with fail
  go_at_call 56
  refine (HRun.out _ HB2.out).mono ?_
  rintro e w3 ⟨t, tv, rfl, htr, hist, hb⟩
  clear q0 q1 q2
  have HB3 := Lib.hid (below_then HB2.out hb)
  have HX3 := Lib.hid ((hb.block _ (lt_block HX2.out)).trans HX2.out)
  have HD3 := Lib.hid (HD2.out.below hb)
  have HT3 := Lib.hid (HT2.out.below hb)
  have HIS := Lib.hid hist
  obtain ⟨vd0, vh, vp, rfl, hr1, hr2, hr3⟩ := htr
  obtain ⟨x1', x2, rfl⟩ := hr1.form
  have HH := Lib.hid hr2
  obtain ⟨x3, x4, hvh⟩ := hr2.form
  obtain ⟨x5, x6, rfl⟩ := hr3.form
  subst hvh
  have hhl : t.hops.length = r := by obtain ⟨n, h1, h2, h3⟩ := hist; have := h3.lh; omega
  rw [hhl] at HH
  have HHL := Lib.hid hhl
  generalize t.dist.length = n1 at *
  generalize t.pars.length = n3 at *
  generalize t.root = rt at *
  rw [hhl]
  clear hb HRun HB2 HX2 HD2 HT2 hr1 hr2 hr3 hist hhl
  go_wp2_with fail
  have HBX := Lib.hid (below_then HB3.out (below_alloc w3 (.cells #[.int .i64 rt, .slice x1' n1 x2, .slice x3 r x4, .slice x5 n3 x6] 74)))
  have HTX : Hid ((w3.alloc (.cells #[.int .i64 rt, .slice x1' n1 x2, .slice x3 r x4, .slice x5 n3 x6] 74)).heap[w3.heap.size]? = some (.cells #[.int .i64 rt, .slice x1' n1 x2, .slice x3 r x4, .slice x5 n3 x6] 74 (0, 0))) := heap_alloc_new _ _
  have HXX : Hid ((w3.alloc (.cells #[.int .i64 rt, .slice x1' n1 x2, .slice x3 r x4, .slice x5 n3 x6] 74)).heap[w.heap.size]? = some (.cells #[.int .i64 (r : Int), .int .i64 0, .slice ad L cap] 27 (0, 0))) := (Below.heap_alloc _ _ _ (lt_block HX3.out)).trans HX3.out
  have HHX := Lib.hid (HH.out.below (below_alloc w3 (.cells #[.int .i64 rt, .slice x1' n1 x2, .slice x3 r x4, .slice x5 n3 x6] 74)))
  have HDX := Lib.hid (HD3.out.below (below_alloc w3 (.cells #[.int .i64 rt, .slice x1' n1 x2, .slice x3 r x4, .slice x5 n3 x6] 74)))
  have HAX := Lib.hid (HT3.out.below (below_alloc w3 (.cells #[.int .i64 rt, .slice x1' n1 x2, .slice x3 r x4, .slice x5 n3 x6] 74)))
  clear HB3 HX3 HH HD3 HT3
  generalize (w3.alloc (.cells #[.int .i64 rt, .slice x1' n1 x2, .slice x3 r x4, .slice x5 n3 x6] 74)) = X at *
  obtain ⟨i0, hi, hz0, hz1, hz2⟩ := infoE_parts info47
  have HGX : Hid (∀ W, Below X.heap.size X W → W.cell? ⟨w.heap.size, 0, none⟩ = some (.int .i64 (r : Int)) ∧ W.cell? ⟨w.heap.size, 1, none⟩ = some (.int .i64 0) ∧ W.cell? ⟨w.heap.size, 2, none⟩ = some (.slice ad L cap)) := fun W hW => ⟨carry hW (cell_of HXX.out rfl), carry hW (cell_of HXX.out rfl), carry hW (cell_of HXX.out rfl)⟩
  have hft := all_fitV HV.out
  have ht := all_ent l r
  have HLF : Hid (∀ (y d : Nat) W, Below X.heap.size X W → Calls Try.prog 19 #[.slice (some ⟨ab, ao, none⟩) r ac, .int .i64 (root : Int), .int .i64 (y : Int), .int .i64 (d : Int)] W fun e w' => e = .returned (.bool (avT (gT (allRow l r) r r) y root d)) ∧ Below W.heap.size W w') := fun y d W hW => rloopfree_any _ _ root y d W (HDX.out.below hW) hft
  have HPR : Hid (∀ (y p d : Nat) W, Below X.heap.size X W → Calls Try.prog 23 #[.slice (some ⟨ab, ao, none⟩) r ac, .int .i64 (y : Int), .int .i64 (p : Int), .int .i64 (d : Int)] W fun e w' => e = .returned (.bool (avT (gT (allRow l r) r r) y p d)) ∧ Below W.heap.size W w') := fun y p d W hW => rprotects_any _ _ y p d W (HDX.out.below hW) hft
  have HDN : Hid (∀ (y d : Nat) W, Below X.heap.size X W → Calls Try.prog 21 #[.slice (some ⟨ab, ao, none⟩) r ac, .int .i64 (root : Int), .int .i64 (y : Int), .int .i64 (d : Int)] W fun e w' => e = .returned (.bool (dnT (gT (allRow l r) r r) root y d)) ∧ Below W.heap.size W w') := fun y d W hW => rdown_any _ _ root y d W (HDX.out.below hW)
  have HAV : Hid (∀ y x d : Nat, y < r → x < r → d < r → (avT (gT (allRow l r) r r) y x d = true ↔ Avoid l y x d)) := fun y x d hy hx hd => avT_iff (n := r) ht ⟨by omega, by omega⟩ ⟨by omega, by omega⟩ ⟨by omega, by omega⟩
  have HWE : Hid (∀ (y d p : Nat) (z : Int) (K : Int), y < r → d < r → p < r → ((K = 2 ∧ ((p : Int) ≠ d ∧ Avoid l y p d)) ∨ (K = 1 ∧ ¬ ((p : Int) ≠ d ∧ Avoid l y p d))) → weighA l root d p ((root : Int), (y : Int), z) = (⟨d, p, y, K, dnT (gT (allRow l r) r r) root y d⟩, z + T l y d)) := fun y d p z K hy hd hp hK => by
    have hdn := dnT_eq (l := l) (tab := (gT (allRow l r) r r)) (n := r) ht (s := root) (a := y) (d := d) ⟨by omega, by omega⟩ ⟨by omega, by omega⟩ ⟨by omega, by omega⟩
    unfold weighA
    dsimp only
    rw [← hdn]
    rcases hK with ⟨rfl, h⟩ | ⟨rfl, h⟩
    · rw [if_pos h]
    · rw [if_neg h]
  have HTL : Hid (∀ y d : Nat, y < r → d < r → -1 ≤ T l (y : Int) (d : Int) ∧ T l (y : Int) (d : Int) ≤ 65535 * 129) := fun y d hy hd => T_bound HV.out hy hd
  have HOUT : Hid (∀ d, d < r → outA l root t.hops (d + 1) = outA l root t.hops d ++ altsOf l (root : Int) (d : Int) (gL t.hops d)) := fun d _ => outA_succ l root t.hops d
  have HHOP : Hid (∀ d, d < r → (gL t.hops d).length ≤ 128 ∧ ∀ (k : Nat) (x : Int), (gL t.hops d)[k]? = some x → ∃ p : Nat, x = (p : Int) ∧ p < r) := fun d hd => hop_row (root := root) HV.out HIS.out hr8 hroot hd
  obtain ⟨xh, xc, hxe, hx1, hx2, hxr⟩ := HHX.out
  have hlr : t.hops.length = r := HHL.out
  rw [hlr] at hxe hx1
  cases hxe
  have HXR := Lib.hid hxr
  have HL0 : Hid (outA l root t.hops 0 = []) := rfl
  have HS0 : Hid (AlS X (.slice none 0 0) [] X) := ⟨World.ownsRow_nil _ _ _ _, Below.refl _ _⟩
  generalize hes : outs l (root : Int) = es at *
  have HES := Lib.hid hes
  clear HHX hxr hlr hft ht hes HXX HDX
  go_loopg [11, 12, 14, 15, 16, 18, 19, 20, 21, 58, 67] r (fun g s11 s12 s14 s15 s16 s18 s19 s20 s21 s58 s67 wr => ∃ (d : Nat) (v11 : Value) (al : List Al), d ≤ r ∧ r - d ≤ g ∧ v11 = s11 ∧ s12 = .int .i64 (d : Int) ∧ (∃ q, q = s14) ∧ (∃ q, q = s15) ∧ (∃ q, q = s16) ∧ (∃ q, q = s18) ∧ (∃ q, q = s19) ∧ (∃ q, q = s20) ∧ (∃ q, q = s21) ∧ (∃ q, q = s58) ∧ (∃ q, q = s67) ∧ Hid (outA l root t.hops d = al) ∧ Hid (al.length ≤ d * 128) ∧ Hid (AlS X v11 al wr))
  case atStart => exact ⟨0, _, [], by omega, by omega, rfl, rfl, ⟨_, rfl⟩, ⟨_, rfl⟩, ⟨_, rfl⟩, ⟨_, rfl⟩, ⟨_, rfl⟩, ⟨_, rfl⟩, ⟨_, rfl⟩, ⟨_, rfl⟩, ⟨_, rfl⟩, HL0, by show _ ≤ _; simp, HS0⟩
  case round =>
    clear HL0 HS0
    obtain ⟨d, v11, al, hd, hdg, rfl, rfl, ⟨u14, rfl⟩, ⟨u15, rfl⟩, ⟨u16, rfl⟩, ⟨u18, rfl⟩, ⟨u19, rfl⟩, ⟨u20, rfl⟩, ⟨u21, rfl⟩, ⟨u58, rfl⟩, ⟨u67, rfl⟩, HA, HLn, HS⟩ := hrel
    have g0 := (HGX.out _ HS.out.2).1
    by_cases hdl : d < r
    · have d0 : (0 : Int) ≤ (d : Int) := by omega
      have d1 : (d : Int) < (r : Int) := by omega
      obtain ⟨row, hrow⟩ : ∃ row, gL t.hops d = row := ⟨_, rfl⟩
      have hget : t.hops[d]? = some row := by rw [← hrow]; exact gL_get (by have := HHL.out; omega)
      obtain ⟨xb, xo, xu, rfl, hxb, hxc, hxi⟩ := HXR.out d row hget
      obtain ⟨hm8, hrp⟩ := HHOP.out d hdl
      rw [hrow] at hm8 hrp
      have HRP := Lib.hid hrp
      have HOU : Hid (outA l root t.hops (d + 1) = al ++ altsOf l (root : Int) (d : Int) row) := by have := HOUT.out d hdl; rw [hrow, HA.out] at this; exact this
      obtain ⟨ra, rc, rfl, rc1, rc2, hrc⟩ := hxi
      obtain ⟨M, hM⟩ : ∃ M, row.length = M := ⟨_, rfl⟩
      rw [hM] at hm8 hxc rc1
      have HM := Lib.hid hM
      have HRC := Lib.hid hrc
      have e9 := carry HS.out.2 (cell_of HTX.out (o := 2) rfl)
      have e10 := carry HS.out.2 hxc
      have HA0 : Hid (al ++ ((row.take 0).filterMap (fun p => (bestA l (root : Int) (d : Int) p es).map Prod.fst)) = al) := by show _ = _; simp
      have HLn0 : Hid (al.length ≤ d * 128 + 0) := HLn.out
      clear hrow hget hxc hrp hM hrc HA HLn
      go_wp2_with fail
      clear e9 e10 g0
      go_loopg [11, 14, 15, 16, 18, 19, 20, 21, 58, 67] M (fun g s11 s14 s15 s16 s18 s19 s20 s21 s58 s67 wr => ∃ (k : Nat) (v11 : Value) (ak : List Al), k ≤ M ∧ M - k ≤ g ∧ v11 = s11 ∧ (∃ q, q = s14) ∧ (∃ q, q = s15) ∧ (∃ q, q = s16) ∧ (∃ q, q = s18) ∧ (∃ q, q = s19) ∧ (∃ q, q = s20) ∧ (∃ q, q = s21) ∧ s58 = .int .i64 (k : Int) ∧ (∃ q, q = s67) ∧ Hid (al ++ ((row.take k).filterMap (fun p => (bestA l (root : Int) (d : Int) p es).map Prod.fst)) = ak) ∧ Hid (ak.length ≤ d * 128 + k) ∧ Hid (AlS X v11 ak wr))
      case atStart => exact ⟨0, _, al, by omega, by omega, rfl, ⟨_, rfl⟩, ⟨_, rfl⟩, ⟨_, rfl⟩, ⟨_, rfl⟩, ⟨_, rfl⟩, ⟨_, rfl⟩, ⟨_, rfl⟩, rfl, ⟨_, rfl⟩, HA0, HLn0, HS⟩
      case round =>
        clear HA0 HLn0 HS
        obtain ⟨k, v11, ak, hk, hkg, rfl, ⟨u14, rfl⟩, ⟨u15, rfl⟩, ⟨u16, rfl⟩, ⟨u18, rfl⟩, ⟨u19, rfl⟩, ⟨u20, rfl⟩, ⟨u21, rfl⟩, rfl, ⟨u67, rfl⟩, HA, HLn, HS⟩ := hrel
        by_cases hkl : k < M
        · have k0 : (0 : Int) ≤ (k : Int) := by omega
          have k1 : (k : Int) < (M : Int) := by omega
          obtain ⟨x, hx⟩ : ∃ x, row[k]? = some x := ⟨_, List.getElem?_eq_getElem (by have := HM.out; omega)⟩
          obtain ⟨p, rfl, hp⟩ := HRP.out k x hx
          obtain ⟨pb, po, rfl, hpb, hpc⟩ := HRC.out k _ hx
          have e2' := carry HS.out.2 hpc
          have hnx : al ++ ((row.take (k + 1)).filterMap (fun p => (bestA l (root : Int) (d : Int) p es).map Prod.fst)) = ak ++ ((bestA l (root : Int) (d : Int) (p : Int) es).map Prod.fst).toList := by
            rw [fm_snoc hx, ← HA.out, List.append_assoc]
          have HNXT := Lib.hid hnx
          clear hx hpc hnx HA
          obtain ⟨V, hV⟩ : ∃ V, V = wr := ⟨_, rfl⟩
          subst hV
          have HSZ := Lib.hid (below_then HS.out.2 (below_alloc V (.cells #[.int .i64 0, .int .i64 0, .int .i64 0, .int .i64 0, .bool false] 47)))
          have g0 := (HGX.out _ HSZ.out).1
          have g1 := (HGX.out _ HSZ.out).2.1
          have g2 := (HGX.out _ HSZ.out).2.2
          go_wp2_with fail
          clear e2' g0 g1 g2
          go_at_call 71
          refine (HNX.out _ (below_then HBX.out HSZ.out)).mono ?_
          rintro e w5 ⟨vnx, rfl, hni, hb⟩
          obtain ⟨nad, ncap, rfl, hnc, hb3⟩ := B3.start hb hni
          have HB30 := Lib.hid hb3
          obtain ⟨Nn, hNn⟩ : ∃ n, n = w5.heap.size := ⟨_, rfl⟩
          rw [← hNn] at HB30
          obtain ⟨M2, hM2⟩ : ∃ n, es.length = n := ⟨_, rfl⟩
          have hM3 : (es.map (fun e => e.2.1)).length = M2 := by rw [List.length_map]; exact hM2
          rw [hM3] at hnc ⊢
          have HM2 := Lib.hid hM2
          have hm24 : M2 ≤ 1024 := by have := HOL.out; omega
          have HA30 : Hid (bestA l (root : Int) (d : Int) (p : Int) (es.take 0) = none) := rfl
          have HK30 : Hid (∀ b : Al × Int, (none : Option (Al × Int)) = some b → b.1.kind = 1 ∨ b.1.kind = 2) := fun b h => by cases h
          have HC30 : Hid ((bv none).2 = 0) := rfl
          clear hb hni hb3 hNn hM2 hM3 HSZ
          go_wp2_with fail
          go_loopg [16, 18, 19, 20, 21, 67] M2 (fun g s16 s18 s19 s20 s21 s67 W => ∃ (j : Nat) (acc : Option (Al × Int)) (cc : Int), j ≤ M2 ∧ M2 - j ≤ g ∧ s16 = .int .i64 cc ∧ (∃ q, q = s18) ∧ (∃ q, q = s19) ∧ (∃ q, q = s20) ∧ (∃ q, q = s21) ∧ s67 = .int .i64 (j : Int) ∧ Hid (bestA l (root : Int) (d : Int) (p : Int) (es.take j) = acc) ∧ Hid (∀ b : Al × Int, acc = some b → b.1.kind = 1 ∨ b.1.kind = 2) ∧ Hid ((bv acc).2 = cc) ∧ Hid (B3 V Nn nad (es.map (fun e => e.2.1)) W acc))
          case atStart => exact ⟨0, none, 0, by omega, by omega, rfl, ⟨_, rfl⟩, ⟨_, rfl⟩, ⟨_, rfl⟩, ⟨_, rfl⟩, rfl, HA30, HK30, HC30, HB30⟩
          case round =>
            clear HA30 HK30 HC30 HB30
            obtain ⟨j, acc, cc, hj, hjg, rfl, ⟨u18, rfl⟩, ⟨u19, rfl⟩, ⟨u20, rfl⟩, ⟨u21, rfl⟩, rfl, HA3, HK3, HC3, HB3⟩ := hrel
            by_cases hjl : j < M2
            · have j0 : (0 : Int) ≤ (j : Int) := by omega
              have j1 : (j : Int) < (M2 : Int) := by omega
              obtain ⟨e, he⟩ : ∃ e, es[j]? = some e := ⟨_, List.getElem?_eq_getElem (by have := HM2.out; omega)⟩
              obtain ⟨y, z, rfl, hy, ⟨hz0', hz1'⟩, hm⟩ := HED.out e (List.mem_of_getElem? he)
              have hst : bestA l (root : Int) (d : Int) (p : Int) (es.take (j + 1)) = stepA l (root : Int) (d : Int) (p : Int) acc ((root : Int), (y : Int), z) := by rw [List.take_add_one, he]; exact (bestA_snoc l _ _ _ _ _).trans (by rw [HA3.out])
              have HST := Lib.hid hst
              have HMM := Lib.hid hm
              obtain ⟨nb, no, hne, hnb1, hnb2, hnbc⟩ := HB3.out.n j (y : Int) (by rw [List.getElem?_map, he]; rfl)
              subst hne
              clear he hst hm
              by_cases hyp : y = p
              · subst hyp
                have HA4 : Hid (bestA l (root : Int) (d : Int) (y : Int) (es.take (j + 1)) = acc) := by show _ = _; rw [HST.out]; exact stepA_skip (.inl rfl)
                clear HST
                go_wp2_with fail
                go_roundg (M2 - (j + 1))
                case measure => omega
                case rel => exact ⟨j + 1, acc, cc, by omega, Nat.le_refl _, rfl, ⟨_, rfl⟩, ⟨_, rfl⟩, ⟨_, rfl⟩, ⟨_, rfl⟩, by go_num, HA4, HK3, HC3, HB3⟩
              · have q9 : ((y : Int) == (p : Int)) = false := by simp; omega
                go_wp2_with fail
                go_at_call 19
                refine (HLF.out y d _ (below_then HS.out.2 HB3.out.b)).mono ?_
                rintro e w6 ⟨rfl, hb⟩
                have HB6 := Lib.hid (HB3.out.below hb)
                clear hb hnbc HB3
                cases hav : avT (gT (allRow l r) r r) y root d
                · have HA4 : Hid (bestA l (root : Int) (d : Int) (p : Int) (es.take (j + 1)) = acc) := by
                    show _ = _; rw [HST.out]; exact stepA_skip (.inr (fun h => by have := (HAV.out y root d hy hroot hdl).2 h; rw [hav] at this; cases this))
                  clear HST hav
                  go_wp2_with fail
                  go_roundg (M2 - (j + 1))
                  case measure => omega
                  case rel => exact ⟨j + 1, acc, cc, by omega, Nat.le_refl _, rfl, ⟨_, rfl⟩, ⟨_, rfl⟩, ⟨_, rfl⟩, ⟨_, rfl⟩, by go_num, HA4, HK3, HC3, HB6⟩
                · have HNS : Hid (¬ ((y : Int) = (p : Int) ∨ ¬ Avoid l (y : Int) root d)) := fun h => h.elim (fun h => hyp (by omega)) (fun h => h ((HAV.out y root d hy hroot hdl).1 hav))
                  clear hav
                  obtain ⟨tt, htt⟩ : ∃ b, T l (y : Int) (d : Int) = b := ⟨_, rfl⟩
                  have HTT := Lib.hid htt
                  obtain ⟨t0, t1⟩ := HTL.out y d hy hdl
                  rw [htt] at t0 t1
                  go_wp2_with fail
                  go_at_call 21
                  refine (HDN.out y d _ (below_then HS.out.2 HB6.out.b)).mono ?_
                  rintro e w7 ⟨rfl, hb⟩
                  have HB7 := Lib.hid (HB6.out.below hb)
                  obtain ⟨dn, hdn⟩ : ∃ b, dnT (gT (allRow l r) r r) root y d = b := ⟨_, rfl⟩
                  rw [hdn]
                  have HDNX := Lib.hid hdn
                  have HB8 : Hid (B3 V Nn (some ⟨nb, no, none⟩) (es.map (fun e => e.2.1)) (w7.alloc (.cells #[.int .i64 (d : Int), .int .i64 (p : Int), .int .i64 (y : Int), .int .i64 1, .bool dn] 47)) acc) := HB7.out.below (below_alloc _ _)
                  have HC8 : Hid ((w7.alloc (.cells #[.int .i64 (d : Int), .int .i64 (p : Int), .int .i64 (y : Int), .int .i64 1, .bool dn] 47)).heap[w7.heap.size]? = some (alO ⟨(d : Int), (p : Int), (y : Int), 1, dn⟩)) := heap_alloc_new _ _
                  have HCB : Hid (Nn ≤ w7.heap.size ∧ V.heap.size < w7.heap.size) := ⟨HB7.out.s, lt_block HB7.out.h⟩
                  clear hb HB6 HB7 htt hdn
                  by_cases hpd : p = d
                  · obtain rfl : d = p := hpd.symm
                    have q10 : ((d : Int) != (d : Int)) = false := by simp
                    have HWX := Lib.hid (HWE.out y d d z 1 hy hdl hp (.inr ⟨rfl, fun k => k.1 rfl⟩))
                    rw [Hid, HDNX.out, HTT.out] at HWX
                    have g0 := (HGX.out _ (below_then HS.out.2 HB8.out.b)).1
                    have g1 := (HGX.out _ (below_then HS.out.2 HB8.out.b)).2.1
                    have g2 := (HGX.out _ (below_then HS.out.2 HB8.out.b)).2.2
                    go_wp2_with fail
                    clear g0 g1 g2
                    go_at_call 43
                    refine (HCO.out y z _ HMM.out (below_then HBX.out (below_then HS.out.2 HB8.out.b))).mono ?_
                    rintro e w10 ⟨rfl, hb⟩
                    have HB10 := Lib.hid (HB8.out.below hb)
                    have HC10 := Lib.hid ((hb.block _ (lt_block HC8.out)).trans HC8.out)
                    clear hb HB8 HC8
                    obtain ⟨gb, gp, gc, r1, _, r2, r3⟩ := (HAX.out.below (below_then HS.out.2 HB10.out.b)).rows y hy
                    have r4 := r3 d hdl
                    rw [HTT.out] at r4
                    clear r3
                    have a0 : w10.cell? ⟨w7.heap.size, 0, none⟩ = some (.int .i64 (d : Int)) := cell_of HC10.out rfl
                    have a1 : w10.cell? ⟨w7.heap.size, 1, none⟩ = some (.int .i64 (d : Int)) := cell_of HC10.out rfl
                    have a2 : w10.cell? ⟨w7.heap.size, 2, none⟩ = some (.int .i64 (y : Int)) := cell_of HC10.out rfl
                    have a3 : w10.cell? ⟨w7.heap.size, 3, none⟩ = some (.int .i64 1) := cell_of HC10.out rfl
                    have a4 : w10.cell? ⟨w7.heap.size, 4, none⟩ = some (.bool dn) := cell_of HC10.out rfl
                    cases acc with
                    | none =>
                      have hbv0 : cc = 0 := HC3.out.symm
                      subst hbv0
                      have HA4 : Hid (bestA l (root : Int) (d : Int) (d : Int) (es.take (j + 1)) = some (⟨(d : Int), (d : Int), (y : Int), 1, dn⟩, z + tt)) := by show _ = _; rw [HST.out, stepA_new HNS.out, HWX]
                      have HK4 : Hid (∀ b : Al × Int, some ((⟨(d : Int), (d : Int), (y : Int), 1, dn⟩ : Al), z + tt) = some b → b.1.kind = 1 ∨ b.1.kind = 2) := fun b h => by cases h; exact .inl rfl
                      have HC4 : Hid ((bv (some ((⟨(d : Int), (d : Int), (y : Int), 1, dn⟩ : Al), z + tt))).2 = z + tt) := rfl
                      have HB4 := Lib.hid (HB10.out.put (⟨(d : Int), (d : Int), (y : Int), 1, dn⟩, z + tt))
                      dsimp only at HB4
                      have b0 : w10.cell? ⟨V.heap.size, 0, none⟩ = some (.int .i64 0) := cell_of HB10.out.h rfl
                      have b1 : w10.cell? ⟨V.heap.size, 1, none⟩ = some (.int .i64 0) := cell_of HB10.out.h rfl
                      have b2 : w10.cell? ⟨V.heap.size, 2, none⟩ = some (.int .i64 0) := cell_of HB10.out.h rfl
                      have b3 : w10.cell? ⟨V.heap.size, 3, none⟩ = some (.int .i64 0) := cell_of HB10.out.h rfl
                      have b4 : w10.cell? ⟨V.heap.size, 4, none⟩ = some (.bool false) := cell_of HB10.out.h rfl
                      have f0 : w10.frozen? ⟨V.heap.size, 0, none⟩ = false := free_of HB10.out.h _
                      have f1 : w10.frozen? ⟨V.heap.size, 1, none⟩ = false := free_of HB10.out.h _
                      have f2 : w10.frozen? ⟨V.heap.size, 2, none⟩ = false := free_of HB10.out.h _
                      have f3 : w10.frozen? ⟨V.heap.size, 3, none⟩ = false := free_of HB10.out.h _
                      have f4 : w10.frozen? ⟨V.heap.size, 4, none⟩ = false := free_of HB10.out.h _
                      clear HB10 HC10 HST HNS HWX HA3 HK3 HC3
                      go_wp2_with fail
                      go_roundg (M2 - (j + 1))
                      case measure => omega
                      case rel => exact ⟨j + 1, some (⟨(d : Int), (d : Int), (y : Int), 1, dn⟩, z + tt), z + tt, by omega, Nat.le_refl _, rfl, ⟨_, rfl⟩, ⟨_, rfl⟩, ⟨_, rfl⟩, ⟨_, rfl⟩, by go_num, HA4, HK4, HC4, HB4⟩
                    | some b =>
                      obtain ⟨⟨b1, b2, b3, b4, b5⟩, bc⟩ := b
                      have hbv0 : cc = bc := HC3.out.symm
                      subst hbv0
                      have hb40 : (b4 == 0) = false := by have := HK3.out _ rfl; dsimp only at this; simp; omega
                      have c0 : w10.cell? ⟨V.heap.size, 0, none⟩ = some (.int .i64 b1) := cell_of HB10.out.h rfl
                      have c1 : w10.cell? ⟨V.heap.size, 1, none⟩ = some (.int .i64 b2) := cell_of HB10.out.h rfl
                      have c2 : w10.cell? ⟨V.heap.size, 2, none⟩ = some (.int .i64 b3) := cell_of HB10.out.h rfl
                      have c3 : w10.cell? ⟨V.heap.size, 3, none⟩ = some (.int .i64 b4) := cell_of HB10.out.h rfl
                      have c4 : w10.cell? ⟨V.heap.size, 4, none⟩ = some (.bool b5) := cell_of HB10.out.h rfl
                      go_wp2_with fail
                      go_at_call 72
                      refine (rbetter_any (⟨(d : Int), (d : Int), (y : Int), 1, dn⟩, z + tt) (⟨b1, b2, b3, b4, b5⟩, cc) _).mono ?_
                      rintro e w11 ⟨rfl, hb⟩
                      have HB11 := Lib.hid (HB10.out.below hb)
                      have HC11 := Lib.hid ((hb.block _ (lt_block HC10.out)).trans HC10.out)
                      clear hb HB10 HC10 r1 r2 r4 a0 a1 a2 a3 a4 c0 c1 c2 c3 c4
                      cases hbt : betterA (⟨(d : Int), (d : Int), (y : Int), 1, dn⟩, z + tt) (⟨b1, b2, b3, b4, b5⟩, cc)
                      · have HA4 : Hid (bestA l (root : Int) (d : Int) (d : Int) (es.take (j + 1)) = some (⟨b1, b2, b3, b4, b5⟩, cc)) := by show _ = _; rw [HST.out]; exact stepA_no HNS.out (by rw [HWX]; exact hbt)
                        clear HST HNS HWX hbt HA3
                        go_wp2_with fail
                        go_roundg (M2 - (j + 1))
                        case measure => omega
                        case rel => exact ⟨j + 1, some (⟨b1, b2, b3, b4, b5⟩, cc), cc, by omega, Nat.le_refl _, rfl, ⟨_, rfl⟩, ⟨_, rfl⟩, ⟨_, rfl⟩, ⟨_, rfl⟩, by go_num, HA4, HK3, HC3, HB11⟩
                      · have HA4 : Hid (bestA l (root : Int) (d : Int) (d : Int) (es.take (j + 1)) = some (⟨(d : Int), (d : Int), (y : Int), 1, dn⟩, z + tt)) := by show _ = _; rw [HST.out, stepA_yes HNS.out (by rw [HWX]; exact hbt), HWX]
                        have HK4 : Hid (∀ b : Al × Int, some ((⟨(d : Int), (d : Int), (y : Int), 1, dn⟩ : Al), z + tt) = some b → b.1.kind = 1 ∨ b.1.kind = 2) := fun b h => by cases h; exact .inl rfl
                        have HC4 : Hid ((bv (some ((⟨(d : Int), (d : Int), (y : Int), 1, dn⟩ : Al), z + tt))).2 = z + tt) := rfl
                        have HB4 := Lib.hid (HB11.out.put (⟨(d : Int), (d : Int), (y : Int), 1, dn⟩, z + tt))
                        dsimp only at HB4
                        have a0 : w11.cell? ⟨w7.heap.size, 0, none⟩ = some (.int .i64 (d : Int)) := cell_of HC11.out rfl
                        have a1 : w11.cell? ⟨w7.heap.size, 1, none⟩ = some (.int .i64 (d : Int)) := cell_of HC11.out rfl
                        have a2 : w11.cell? ⟨w7.heap.size, 2, none⟩ = some (.int .i64 (y : Int)) := cell_of HC11.out rfl
                        have a3 : w11.cell? ⟨w7.heap.size, 3, none⟩ = some (.int .i64 1) := cell_of HC11.out rfl
                        have a4 : w11.cell? ⟨w7.heap.size, 4, none⟩ = some (.bool dn) := cell_of HC11.out rfl
                        have c0 : w11.cell? ⟨V.heap.size, 0, none⟩ = some (.int .i64 b1) := cell_of HB11.out.h rfl
                        have c1 : w11.cell? ⟨V.heap.size, 1, none⟩ = some (.int .i64 b2) := cell_of HB11.out.h rfl
                        have c2 : w11.cell? ⟨V.heap.size, 2, none⟩ = some (.int .i64 b3) := cell_of HB11.out.h rfl
                        have c3 : w11.cell? ⟨V.heap.size, 3, none⟩ = some (.int .i64 b4) := cell_of HB11.out.h rfl
                        have c4 : w11.cell? ⟨V.heap.size, 4, none⟩ = some (.bool b5) := cell_of HB11.out.h rfl
                        have f0 : w11.frozen? ⟨V.heap.size, 0, none⟩ = false := free_of HB11.out.h _
                        have f1 : w11.frozen? ⟨V.heap.size, 1, none⟩ = false := free_of HB11.out.h _
                        have f2 : w11.frozen? ⟨V.heap.size, 2, none⟩ = false := free_of HB11.out.h _
                        have f3 : w11.frozen? ⟨V.heap.size, 3, none⟩ = false := free_of HB11.out.h _
                        have f4 : w11.frozen? ⟨V.heap.size, 4, none⟩ = false := free_of HB11.out.h _
                        clear HB11 HC11 HST HNS HWX hbt HA3 HK3 HC3
                        go_wp2_with fail
                        go_roundg (M2 - (j + 1))
                        case measure => omega
                        case rel => exact ⟨j + 1, some (⟨(d : Int), (d : Int), (y : Int), 1, dn⟩, z + tt), z + tt, by omega, Nat.le_refl _, rfl, ⟨_, rfl⟩, ⟨_, rfl⟩, ⟨_, rfl⟩, ⟨_, rfl⟩, by go_num, HA4, HK4, HC4, HB4⟩
                  · have q10 : ((p : Int) != (d : Int)) = true := by simp; omega
                    go_wp2_with fail
                    go_at_call 23
                    refine (HPR.out y p d _ (below_then HS.out.2 HB8.out.b)).mono ?_
                    rintro e w9 ⟨rfl, hb⟩
                    have HB9 := Lib.hid (HB8.out.below hb)
                    have HC9 := Lib.hid ((hb.block _ (lt_block HC8.out)).trans HC8.out)
                    clear hb HB8 HC8
                    cases hpr : avT (gT (allRow l r) r r) y p d
                    · have HNP : Hid (¬ ((p : Int) ≠ d ∧ Avoid l y p d)) := fun k => by have := (HAV.out y p d hy hp hdl).2 k.2; rw [hpr] at this; cases this
                      clear hpr
                      have HWX := Lib.hid (HWE.out y d p z 1 hy hdl hp (.inr ⟨rfl, HNP.out⟩))
                      rw [Hid, HDNX.out, HTT.out] at HWX
                      have g0 := (HGX.out _ (below_then HS.out.2 HB9.out.b)).1
                      have g1 := (HGX.out _ (below_then HS.out.2 HB9.out.b)).2.1
                      have g2 := (HGX.out _ (below_then HS.out.2 HB9.out.b)).2.2
                      go_wp2_with fail
                      clear g0 g1 g2
                      go_at_call 43
                      refine (HCO.out y z _ HMM.out (below_then HBX.out (below_then HS.out.2 HB9.out.b))).mono ?_
                      rintro e w10 ⟨rfl, hb⟩
                      have HB10 := Lib.hid (HB9.out.below hb)
                      have HC10 := Lib.hid ((hb.block _ (lt_block HC9.out)).trans HC9.out)
                      clear hb HB9 HC9
                      obtain ⟨gb, gp, gc, r1, _, r2, r3⟩ := (HAX.out.below (below_then HS.out.2 HB10.out.b)).rows y hy
                      have r4 := r3 d hdl
                      rw [HTT.out] at r4
                      clear r3
                      have a0 : w10.cell? ⟨w7.heap.size, 0, none⟩ = some (.int .i64 (d : Int)) := cell_of HC10.out rfl
                      have a1 : w10.cell? ⟨w7.heap.size, 1, none⟩ = some (.int .i64 (p : Int)) := cell_of HC10.out rfl
                      have a2 : w10.cell? ⟨w7.heap.size, 2, none⟩ = some (.int .i64 (y : Int)) := cell_of HC10.out rfl
                      have a3 : w10.cell? ⟨w7.heap.size, 3, none⟩ = some (.int .i64 1) := cell_of HC10.out rfl
                      have a4 : w10.cell? ⟨w7.heap.size, 4, none⟩ = some (.bool dn) := cell_of HC10.out rfl
                      cases acc with
                      | none =>
                        have hbv0 : cc = 0 := HC3.out.symm
                        subst hbv0
                        have HA4 : Hid (bestA l (root : Int) (d : Int) (p : Int) (es.take (j + 1)) = some (⟨(d : Int), (p : Int), (y : Int), 1, dn⟩, z + tt)) := by show _ = _; rw [HST.out, stepA_new HNS.out, HWX]
                        have HK4 : Hid (∀ b : Al × Int, some ((⟨(d : Int), (p : Int), (y : Int), 1, dn⟩ : Al), z + tt) = some b → b.1.kind = 1 ∨ b.1.kind = 2) := fun b h => by cases h; exact .inl rfl
                        have HC4 : Hid ((bv (some ((⟨(d : Int), (p : Int), (y : Int), 1, dn⟩ : Al), z + tt))).2 = z + tt) := rfl
                        have HB4 := Lib.hid (HB10.out.put (⟨(d : Int), (p : Int), (y : Int), 1, dn⟩, z + tt))
                        dsimp only at HB4
                        have b0 : w10.cell? ⟨V.heap.size, 0, none⟩ = some (.int .i64 0) := cell_of HB10.out.h rfl
                        have b1 : w10.cell? ⟨V.heap.size, 1, none⟩ = some (.int .i64 0) := cell_of HB10.out.h rfl
                        have b2 : w10.cell? ⟨V.heap.size, 2, none⟩ = some (.int .i64 0) := cell_of HB10.out.h rfl
                        have b3 : w10.cell? ⟨V.heap.size, 3, none⟩ = some (.int .i64 0) := cell_of HB10.out.h rfl
                        have b4 : w10.cell? ⟨V.heap.size, 4, none⟩ = some (.bool false) := cell_of HB10.out.h rfl
                        have f0 : w10.frozen? ⟨V.heap.size, 0, none⟩ = false := free_of HB10.out.h _
                        have f1 : w10.frozen? ⟨V.heap.size, 1, none⟩ = false := free_of HB10.out.h _
                        have f2 : w10.frozen? ⟨V.heap.size, 2, none⟩ = false := free_of HB10.out.h _
                        have f3 : w10.frozen? ⟨V.heap.size, 3, none⟩ = false := free_of HB10.out.h _
                        have f4 : w10.frozen? ⟨V.heap.size, 4, none⟩ = false := free_of HB10.out.h _
                        clear HB10 HC10 HST HNS HWX HA3 HK3 HC3
                        go_wp2_with fail
                        go_roundg (M2 - (j + 1))
                        case measure => omega
                        case rel => exact ⟨j + 1, some (⟨(d : Int), (p : Int), (y : Int), 1, dn⟩, z + tt), z + tt, by omega, Nat.le_refl _, rfl, ⟨_, rfl⟩, ⟨_, rfl⟩, ⟨_, rfl⟩, ⟨_, rfl⟩, by go_num, HA4, HK4, HC4, HB4⟩
                      | some b =>
                        obtain ⟨⟨b1, b2, b3, b4, b5⟩, bc⟩ := b
                        have hbv0 : cc = bc := HC3.out.symm
                        subst hbv0
                        have hb40 : (b4 == 0) = false := by have := HK3.out _ rfl; dsimp only at this; simp; omega
                        have c0 : w10.cell? ⟨V.heap.size, 0, none⟩ = some (.int .i64 b1) := cell_of HB10.out.h rfl
                        have c1 : w10.cell? ⟨V.heap.size, 1, none⟩ = some (.int .i64 b2) := cell_of HB10.out.h rfl
                        have c2 : w10.cell? ⟨V.heap.size, 2, none⟩ = some (.int .i64 b3) := cell_of HB10.out.h rfl
                        have c3 : w10.cell? ⟨V.heap.size, 3, none⟩ = some (.int .i64 b4) := cell_of HB10.out.h rfl
                        have c4 : w10.cell? ⟨V.heap.size, 4, none⟩ = some (.bool b5) := cell_of HB10.out.h rfl
                        go_wp2_with fail
                        go_at_call 72
                        refine (rbetter_any (⟨(d : Int), (p : Int), (y : Int), 1, dn⟩, z + tt) (⟨b1, b2, b3, b4, b5⟩, cc) _).mono ?_
                        rintro e w11 ⟨rfl, hb⟩
                        have HB11 := Lib.hid (HB10.out.below hb)
                        have HC11 := Lib.hid ((hb.block _ (lt_block HC10.out)).trans HC10.out)
                        clear hb HB10 HC10 r1 r2 r4 a0 a1 a2 a3 a4 c0 c1 c2 c3 c4
                        cases hbt : betterA (⟨(d : Int), (p : Int), (y : Int), 1, dn⟩, z + tt) (⟨b1, b2, b3, b4, b5⟩, cc)
                        · have HA4 : Hid (bestA l (root : Int) (d : Int) (p : Int) (es.take (j + 1)) = some (⟨b1, b2, b3, b4, b5⟩, cc)) := by show _ = _; rw [HST.out]; exact stepA_no HNS.out (by rw [HWX]; exact hbt)
                          clear HST HNS HWX hbt HA3
                          go_wp2_with fail
                          go_roundg (M2 - (j + 1))
                          case measure => omega
                          case rel => exact ⟨j + 1, some (⟨b1, b2, b3, b4, b5⟩, cc), cc, by omega, Nat.le_refl _, rfl, ⟨_, rfl⟩, ⟨_, rfl⟩, ⟨_, rfl⟩, ⟨_, rfl⟩, by go_num, HA4, HK3, HC3, HB11⟩
                        · have HA4 : Hid (bestA l (root : Int) (d : Int) (p : Int) (es.take (j + 1)) = some (⟨(d : Int), (p : Int), (y : Int), 1, dn⟩, z + tt)) := by show _ = _; rw [HST.out, stepA_yes HNS.out (by rw [HWX]; exact hbt), HWX]
                          have HK4 : Hid (∀ b : Al × Int, some ((⟨(d : Int), (p : Int), (y : Int), 1, dn⟩ : Al), z + tt) = some b → b.1.kind = 1 ∨ b.1.kind = 2) := fun b h => by cases h; exact .inl rfl
                          have HC4 : Hid ((bv (some ((⟨(d : Int), (p : Int), (y : Int), 1, dn⟩ : Al), z + tt))).2 = z + tt) := rfl
                          have HB4 := Lib.hid (HB11.out.put (⟨(d : Int), (p : Int), (y : Int), 1, dn⟩, z + tt))
                          dsimp only at HB4
                          have a0 : w11.cell? ⟨w7.heap.size, 0, none⟩ = some (.int .i64 (d : Int)) := cell_of HC11.out rfl
                          have a1 : w11.cell? ⟨w7.heap.size, 1, none⟩ = some (.int .i64 (p : Int)) := cell_of HC11.out rfl
                          have a2 : w11.cell? ⟨w7.heap.size, 2, none⟩ = some (.int .i64 (y : Int)) := cell_of HC11.out rfl
                          have a3 : w11.cell? ⟨w7.heap.size, 3, none⟩ = some (.int .i64 1) := cell_of HC11.out rfl
                          have a4 : w11.cell? ⟨w7.heap.size, 4, none⟩ = some (.bool dn) := cell_of HC11.out rfl
                          have c0 : w11.cell? ⟨V.heap.size, 0, none⟩ = some (.int .i64 b1) := cell_of HB11.out.h rfl
                          have c1 : w11.cell? ⟨V.heap.size, 1, none⟩ = some (.int .i64 b2) := cell_of HB11.out.h rfl
                          have c2 : w11.cell? ⟨V.heap.size, 2, none⟩ = some (.int .i64 b3) := cell_of HB11.out.h rfl
                          have c3 : w11.cell? ⟨V.heap.size, 3, none⟩ = some (.int .i64 b4) := cell_of HB11.out.h rfl
                          have c4 : w11.cell? ⟨V.heap.size, 4, none⟩ = some (.bool b5) := cell_of HB11.out.h rfl
                          have f0 : w11.frozen? ⟨V.heap.size, 0, none⟩ = false := free_of HB11.out.h _
                          have f1 : w11.frozen? ⟨V.heap.size, 1, none⟩ = false := free_of HB11.out.h _
                          have f2 : w11.frozen? ⟨V.heap.size, 2, none⟩ = false := free_of HB11.out.h _
                          have f3 : w11.frozen? ⟨V.heap.size, 3, none⟩ = false := free_of HB11.out.h _
                          have f4 : w11.frozen? ⟨V.heap.size, 4, none⟩ = false := free_of HB11.out.h _
                          clear HB11 HC11 HST HNS HWX hbt HA3 HK3 HC3
                          go_wp2_with fail
                          go_roundg (M2 - (j + 1))
                          case measure => omega
                          case rel => exact ⟨j + 1, some (⟨(d : Int), (p : Int), (y : Int), 1, dn⟩, z + tt), z + tt, by omega, Nat.le_refl _, rfl, ⟨_, rfl⟩, ⟨_, rfl⟩, ⟨_, rfl⟩, ⟨_, rfl⟩, by go_num, HA4, HK4, HC4, HB4⟩
                    · have HNP : Hid ((p : Int) ≠ d ∧ Avoid l y p d) := ⟨by omega, (HAV.out y p d hy hp hdl).1 hpr⟩
                      clear hpr
                      have HB9' : Hid (B3 V Nn (some ⟨nb, no, none⟩) (es.map (fun e => e.2.1)) (w9.setCell ⟨w7.heap.size, 3, none⟩ (.int .i64 2)) acc) := HB9.out.setc HCB.out.1 HCB.out.2 _ _
                      have HC9' : Hid ((w9.setCell ⟨w7.heap.size, 3, none⟩ (.int .i64 2)).heap[w7.heap.size]? = some (alO ⟨(d : Int), (p : Int), (y : Int), 2, dn⟩)) := by show _ = _; rw [heap_set_eq HC9.out]; rfl
                      have s3 : w9.cell? ⟨w7.heap.size, 3, none⟩ = some (.int .i64 1) := cell_of HC9.out rfl
                      have f3' : w9.frozen? ⟨w7.heap.size, 3, none⟩ = false := free_of HC9.out _
                      clear HB9 HC9
                      have HWX := Lib.hid (HWE.out y d p z 2 hy hdl hp (.inl ⟨rfl, HNP.out⟩))
                      rw [Hid, HDNX.out, HTT.out] at HWX
                      have g0 := (HGX.out _ (below_then HS.out.2 HB9'.out.b)).1
                      have g1 := (HGX.out _ (below_then HS.out.2 HB9'.out.b)).2.1
                      have g2 := (HGX.out _ (below_then HS.out.2 HB9'.out.b)).2.2
                      go_wp2_with fail
                      clear g0 g1 g2
                      go_at_call 43
                      refine (HCO.out y z _ HMM.out (below_then HBX.out (below_then HS.out.2 HB9'.out.b))).mono ?_
                      rintro e w10 ⟨rfl, hb⟩
                      have HB10 := Lib.hid (HB9'.out.below hb)
                      have HC10 := Lib.hid ((hb.block _ (lt_block HC9'.out)).trans HC9'.out)
                      clear hb HB9' HC9'
                      obtain ⟨gb, gp, gc, r1, _, r2, r3⟩ := (HAX.out.below (below_then HS.out.2 HB10.out.b)).rows y hy
                      have r4 := r3 d hdl
                      rw [HTT.out] at r4
                      clear r3
                      have a0 : w10.cell? ⟨w7.heap.size, 0, none⟩ = some (.int .i64 (d : Int)) := cell_of HC10.out rfl
                      have a1 : w10.cell? ⟨w7.heap.size, 1, none⟩ = some (.int .i64 (p : Int)) := cell_of HC10.out rfl
                      have a2 : w10.cell? ⟨w7.heap.size, 2, none⟩ = some (.int .i64 (y : Int)) := cell_of HC10.out rfl
                      have a3 : w10.cell? ⟨w7.heap.size, 3, none⟩ = some (.int .i64 2) := cell_of HC10.out rfl
                      have a4 : w10.cell? ⟨w7.heap.size, 4, none⟩ = some (.bool dn) := cell_of HC10.out rfl
                      cases acc with
                      | none =>
                        have hbv0 : cc = 0 := HC3.out.symm
                        subst hbv0
                        have HA4 : Hid (bestA l (root : Int) (d : Int) (p : Int) (es.take (j + 1)) = some (⟨(d : Int), (p : Int), (y : Int), 2, dn⟩, z + tt)) := by show _ = _; rw [HST.out, stepA_new HNS.out, HWX]
                        have HK4 : Hid (∀ b : Al × Int, some ((⟨(d : Int), (p : Int), (y : Int), 2, dn⟩ : Al), z + tt) = some b → b.1.kind = 1 ∨ b.1.kind = 2) := fun b h => by cases h; exact .inr rfl
                        have HC4 : Hid ((bv (some ((⟨(d : Int), (p : Int), (y : Int), 2, dn⟩ : Al), z + tt))).2 = z + tt) := rfl
                        have HB4 := Lib.hid (HB10.out.put (⟨(d : Int), (p : Int), (y : Int), 2, dn⟩, z + tt))
                        dsimp only at HB4
                        have b0 : w10.cell? ⟨V.heap.size, 0, none⟩ = some (.int .i64 0) := cell_of HB10.out.h rfl
                        have b1 : w10.cell? ⟨V.heap.size, 1, none⟩ = some (.int .i64 0) := cell_of HB10.out.h rfl
                        have b2 : w10.cell? ⟨V.heap.size, 2, none⟩ = some (.int .i64 0) := cell_of HB10.out.h rfl
                        have b3 : w10.cell? ⟨V.heap.size, 3, none⟩ = some (.int .i64 0) := cell_of HB10.out.h rfl
                        have b4 : w10.cell? ⟨V.heap.size, 4, none⟩ = some (.bool false) := cell_of HB10.out.h rfl
                        have f0 : w10.frozen? ⟨V.heap.size, 0, none⟩ = false := free_of HB10.out.h _
                        have f1 : w10.frozen? ⟨V.heap.size, 1, none⟩ = false := free_of HB10.out.h _
                        have f2 : w10.frozen? ⟨V.heap.size, 2, none⟩ = false := free_of HB10.out.h _
                        have f3 : w10.frozen? ⟨V.heap.size, 3, none⟩ = false := free_of HB10.out.h _
                        have f4 : w10.frozen? ⟨V.heap.size, 4, none⟩ = false := free_of HB10.out.h _
                        clear HB10 HC10 HST HNS HWX HA3 HK3 HC3
                        go_wp2_with fail
                        go_roundg (M2 - (j + 1))
                        case measure => omega
                        case rel => exact ⟨j + 1, some (⟨(d : Int), (p : Int), (y : Int), 2, dn⟩, z + tt), z + tt, by omega, Nat.le_refl _, rfl, ⟨_, rfl⟩, ⟨_, rfl⟩, ⟨_, rfl⟩, ⟨_, rfl⟩, by go_num, HA4, HK4, HC4, HB4⟩
                      | some b =>
                        obtain ⟨⟨b1, b2, b3, b4, b5⟩, bc⟩ := b
                        have hbv0 : cc = bc := HC3.out.symm
                        subst hbv0
                        have hb40 : (b4 == 0) = false := by have := HK3.out _ rfl; dsimp only at this; simp; omega
                        have c0 : w10.cell? ⟨V.heap.size, 0, none⟩ = some (.int .i64 b1) := cell_of HB10.out.h rfl
                        have c1 : w10.cell? ⟨V.heap.size, 1, none⟩ = some (.int .i64 b2) := cell_of HB10.out.h rfl
                        have c2 : w10.cell? ⟨V.heap.size, 2, none⟩ = some (.int .i64 b3) := cell_of HB10.out.h rfl
                        have c3 : w10.cell? ⟨V.heap.size, 3, none⟩ = some (.int .i64 b4) := cell_of HB10.out.h rfl
                        have c4 : w10.cell? ⟨V.heap.size, 4, none⟩ = some (.bool b5) := cell_of HB10.out.h rfl
                        go_wp2_with fail
                        go_at_call 72
                        refine (rbetter_any (⟨(d : Int), (p : Int), (y : Int), 2, dn⟩, z + tt) (⟨b1, b2, b3, b4, b5⟩, cc) _).mono ?_
                        rintro e w11 ⟨rfl, hb⟩
                        have HB11 := Lib.hid (HB10.out.below hb)
                        have HC11 := Lib.hid ((hb.block _ (lt_block HC10.out)).trans HC10.out)
                        clear hb HB10 HC10 r1 r2 r4 a0 a1 a2 a3 a4 c0 c1 c2 c3 c4
                        cases hbt : betterA (⟨(d : Int), (p : Int), (y : Int), 2, dn⟩, z + tt) (⟨b1, b2, b3, b4, b5⟩, cc)
                        · have HA4 : Hid (bestA l (root : Int) (d : Int) (p : Int) (es.take (j + 1)) = some (⟨b1, b2, b3, b4, b5⟩, cc)) := by show _ = _; rw [HST.out]; exact stepA_no HNS.out (by rw [HWX]; exact hbt)
                          clear HST HNS HWX hbt HA3
                          go_wp2_with fail
                          go_roundg (M2 - (j + 1))
                          case measure => omega
                          case rel => exact ⟨j + 1, some (⟨b1, b2, b3, b4, b5⟩, cc), cc, by omega, Nat.le_refl _, rfl, ⟨_, rfl⟩, ⟨_, rfl⟩, ⟨_, rfl⟩, ⟨_, rfl⟩, by go_num, HA4, HK3, HC3, HB11⟩
                        · have HA4 : Hid (bestA l (root : Int) (d : Int) (p : Int) (es.take (j + 1)) = some (⟨(d : Int), (p : Int), (y : Int), 2, dn⟩, z + tt)) := by show _ = _; rw [HST.out, stepA_yes HNS.out (by rw [HWX]; exact hbt), HWX]
                          have HK4 : Hid (∀ b : Al × Int, some ((⟨(d : Int), (p : Int), (y : Int), 2, dn⟩ : Al), z + tt) = some b → b.1.kind = 1 ∨ b.1.kind = 2) := fun b h => by cases h; exact .inr rfl
                          have HC4 : Hid ((bv (some ((⟨(d : Int), (p : Int), (y : Int), 2, dn⟩ : Al), z + tt))).2 = z + tt) := rfl
                          have HB4 := Lib.hid (HB11.out.put (⟨(d : Int), (p : Int), (y : Int), 2, dn⟩, z + tt))
                          dsimp only at HB4
                          have a0 : w11.cell? ⟨w7.heap.size, 0, none⟩ = some (.int .i64 (d : Int)) := cell_of HC11.out rfl
                          have a1 : w11.cell? ⟨w7.heap.size, 1, none⟩ = some (.int .i64 (p : Int)) := cell_of HC11.out rfl
                          have a2 : w11.cell? ⟨w7.heap.size, 2, none⟩ = some (.int .i64 (y : Int)) := cell_of HC11.out rfl
                          have a3 : w11.cell? ⟨w7.heap.size, 3, none⟩ = some (.int .i64 2) := cell_of HC11.out rfl
                          have a4 : w11.cell? ⟨w7.heap.size, 4, none⟩ = some (.bool dn) := cell_of HC11.out rfl
                          have c0 : w11.cell? ⟨V.heap.size, 0, none⟩ = some (.int .i64 b1) := cell_of HB11.out.h rfl
                          have c1 : w11.cell? ⟨V.heap.size, 1, none⟩ = some (.int .i64 b2) := cell_of HB11.out.h rfl
                          have c2 : w11.cell? ⟨V.heap.size, 2, none⟩ = some (.int .i64 b3) := cell_of HB11.out.h rfl
                          have c3 : w11.cell? ⟨V.heap.size, 3, none⟩ = some (.int .i64 b4) := cell_of HB11.out.h rfl
                          have c4 : w11.cell? ⟨V.heap.size, 4, none⟩ = some (.bool b5) := cell_of HB11.out.h rfl
                          have f0 : w11.frozen? ⟨V.heap.size, 0, none⟩ = false := free_of HB11.out.h _
                          have f1 : w11.frozen? ⟨V.heap.size, 1, none⟩ = false := free_of HB11.out.h _
                          have f2 : w11.frozen? ⟨V.heap.size, 2, none⟩ = false := free_of HB11.out.h _
                          have f3 : w11.frozen? ⟨V.heap.size, 3, none⟩ = false := free_of HB11.out.h _
                          have f4 : w11.frozen? ⟨V.heap.size, 4, none⟩ = false := free_of HB11.out.h _
                          clear HB11 HC11 HST HNS HWX hbt HA3 HK3 HC3
                          go_wp2_with fail
                          go_roundg (M2 - (j + 1))
                          case measure => omega
                          case rel => exact ⟨j + 1, some (⟨(d : Int), (p : Int), (y : Int), 2, dn⟩, z + tt), z + tt, by omega, Nat.le_refl _, rfl, ⟨_, rfl⟩, ⟨_, rfl⟩, ⟨_, rfl⟩, ⟨_, rfl⟩, by go_num, HA4, HK4, HC4, HB4⟩
            · have j1 : decide ((j : Int) < (M2 : Int)) = false := decide_eq_false (by omega)
              have HBE : Hid (bestA l (root : Int) (d : Int) (p : Int) es = acc) := by
                have := HA3.out
                rw [List.take_of_length_le (by have := HM2.out; omega)] at this
                exact this
              have HS2 : Hid (AlS X v11 ak wr) := HS.out.below HB3.out.b
              cases acc with
              | none =>
                have HA2 : Hid (al ++ ((row.take (k + 1)).filterMap (fun p => (bestA l (root : Int) (d : Int) p es).map Prod.fst)) = ak) := by have := HNXT.out; rw [HBE.out] at this; show _ = _; simpa using this
                have HLn2 : Hid (ak.length ≤ d * 128 + (k + 1)) := Nat.le_succ_of_le HLn.out
                have b3 : wr.cell? ⟨V.heap.size, 3, none⟩ = some (.int .i64 0) := cell_of HB3.out.h rfl
                clear HNXT HBE HB3 HA3 HK3 HC3
                go_wp2_with fail
                go_roundg (M - (k + 1))
                case measure => omega
                case rel => exact ⟨k + 1, _, ak, by omega, Nat.le_refl _, rfl, ⟨_, rfl⟩, ⟨_, rfl⟩, ⟨_, rfl⟩, ⟨_, rfl⟩, ⟨_, rfl⟩, ⟨_, rfl⟩, ⟨_, rfl⟩, by go_num, ⟨_, rfl⟩, HA2, HLn2, HS2⟩
              | some b =>
                obtain ⟨⟨b1, b2, b3, b4, b5⟩, bc⟩ := b
                have hb40 : (b4 != 0) = true := by have := HK3.out _ rfl; dsimp only at this; simp; omega
                have HA2 : Hid (al ++ ((row.take (k + 1)).filterMap (fun p => (bestA l (root : Int) (d : Int) p es).map Prod.fst)) = ak ++ [⟨b1, b2, b3, b4, b5⟩]) := by have := HNXT.out; rw [HBE.out] at this; show _ = _; simpa using this
                have HLn2 : Hid ((ak ++ [(⟨b1, b2, b3, b4, b5⟩ : Al)]).length ≤ d * 128 + (k + 1)) := by have := HLn.out; show _ ≤ _; rw [List.length_append, List.length_singleton]; omega
                have c0 : wr.cell? ⟨V.heap.size, 0, none⟩ = some (.int .i64 b1) := cell_of HB3.out.h rfl
                have c1 : wr.cell? ⟨V.heap.size, 1, none⟩ = some (.int .i64 b2) := cell_of HB3.out.h rfl
                have c2 : wr.cell? ⟨V.heap.size, 2, none⟩ = some (.int .i64 b3) := cell_of HB3.out.h rfl
                have c3 : wr.cell? ⟨V.heap.size, 3, none⟩ = some (.int .i64 b4) := cell_of HB3.out.h rfl
                have c4 : wr.cell? ⟨V.heap.size, 4, none⟩ = some (.bool b5) := cell_of HB3.out.h rfl
                clear HNXT HBE HB3 HA3 HK3 HC3
                go_wp2_with (at_builtin; refine wpList_append_own _ rfl (.tmp 134) (.tmp 136) 29 rfl X.heap.size 47 i0 (.agg #[.int .i64 0, .int .i64 0, .int .i64 0, .int .i64 0, .bool false]) 5 40 Try.underlying29 hi hz0 hz1 hz2 rfl (by decide) v11 ak.length (flatA ak) rfl (row_below HS2.out.1 (below_alloc _ _)) ⟨wr.heap.size, 0, none⟩ 1 1 (alC ⟨b1, b2, b3, b4, b5⟩) rfl rfl (cellA_new _ _ _ _ _ _ _ rfl) (alC_one _) (by have := HLn.out; unfold maxLen; omega) (by have := HLn.out; omega) (by have := HS2.out.2.size; simp at this ⊢; omega) ?_; intro v1 w12 hown hgrow hnil; have S2 := Lib.hid (HS2.out.push ⟨b1, b2, b3, b4, b5⟩ _ hown hgrow); clear hown hgrow hnil)
                go_roundg (M - (k + 1))
                case measure => omega
                case rel => exact ⟨k + 1, _, _, by omega, Nat.le_refl _, rfl, ⟨_, rfl⟩, ⟨_, rfl⟩, ⟨_, rfl⟩, ⟨_, rfl⟩, ⟨_, rfl⟩, ⟨_, rfl⟩, ⟨_, rfl⟩, by go_num, ⟨_, rfl⟩, HA2, HLn2, S2⟩
        · have k1 : decide ((k : Int) < (M : Int)) = false := decide_eq_false (by omega)
          have HA3 : Hid (outA l root t.hops (d + 1) = ak) := by
            have := HA.out
            rw [List.take_of_length_le (by have := HM.out; omega)] at this
            show _ = _
            rw [HOU.out]; unfold altsOf; rw [HES.out]; exact this
          have HLn3 : Hid (ak.length ≤ (d + 1) * 128) := by have := HLn.out; show _ ≤ _; omega
          clear HA HLn
          go_wp2_with fail
          go_roundg (r - (d + 1))
          case measure => omega
          case rel => exact ⟨d + 1, _, ak, by omega, Nat.le_refl _, rfl, by go_num, ⟨_, rfl⟩, ⟨_, rfl⟩, ⟨_, rfl⟩, ⟨_, rfl⟩, ⟨_, rfl⟩, ⟨_, rfl⟩, ⟨_, rfl⟩, ⟨_, rfl⟩, ⟨_, rfl⟩, HA3, HLn3, HS⟩
    · have k1 : decide ((d : Int) < (r : Int)) = false := decide_eq_false (by omega)
      have HIR : Hid (d = r) := by show _ = _; omega
      have HF : Hid (RdA wr v11 (allA l (root : Int) r t.hops)) := by
        have h1 := HA.out
        rw [HIR.out] at h1
        have h2 := rdA_own HS.out.1
        rw [← h1] at h2
        exact h2
      have HBF := Lib.hid (below_then HBX.out HS.out.2)
      clear HS HIR HA HLn
      go_wp2
      go_ret2
      exact ⟨_, t, rfl, HF.out, HIS.out, HBF.out⟩
end Go.Proofs.Ytmbogobebllheaa
