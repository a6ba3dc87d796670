/-
  The walk of the law Alternates of the top.
-/
import Derived.Test.YtmbogobebllheaaTaL
import Derived.BigQuiet
namespace Go.Proofs.Ytmbogobebllheaa
open Go.RowKit HM GM SP Go.Lib
set_option linter.unusedSimpArgs false
set_option linter.unusedVariables false
set_option maxHeartbeats 4000000
set_option maxRecDepth 100000
theorem wk_head {R : Int} {l : List E} {d a b u : Int} {p : List Int} {ok : Bool} (h : Wk R l d a b u p ok) : p[0]? = some u := by cases h <;> rfl
theorem last_get {p : List Int} {d : Int} (h : p.getLast? = some d) : p[p.length - 1]? = some d := by rw [List.getLast?_eq_getElem?] at h; exact h
theorem ta_short (R N : Int) (l : List E) (s : Value) (root : Int) (w : World) (hr : Rd3 w s l) (h : 60 < l.length ∨ (¬ 60 < l.length ∧ 12 < R)) :
    Calls Try.prog 16 #[.agg #[.int .i64 R, .int .i64 N, s], .int .i64 root] w fun e w' => e = .returned (.bool true) ∧ Below w.heap.size w w' := by
  obtain ⟨ad, cap, hform⟩ := rd3_slice hr
  obtain ⟨L, hL⟩ : ∃ L, l.length = L := ⟨_, rfl⟩
  rw [hL] at hform h
  subst hform
  have HB0 := Lib.hid (below_alloc w (.cells #[.int .i64 R, .int .i64 N, .slice ad L cap] 27))
  clear hr hL
  rcases h with h | ⟨h, h2⟩
  · have k1 : decide ((60 : Int) < (L : Int)) = true := decide_eq_true (by omega)
    have k1' : decide (60 < L) = true := decide_eq_true h
    go_enter Try.func16, Try.ntmps16
    go_wp2_with fail
    go_at_call 58
    refine (lives_any _).mono ?_
    rintro e w2 ⟨rfl, hb⟩
    have HB2 := Lib.hid (below_then HB0.out hb)
    clear hb
    go_wp2
    go_ret
    exact ⟨rfl, HB2.out⟩
  · have k1 : decide ((60 : Int) < (L : Int)) = false := decide_eq_false (by omega)
    have k1' : decide (60 < L) = false := decide_eq_false h
    have k2 : decide ((12 : Int) < R) = true := decide_eq_true h2
    go_enter Try.func16, Try.ntmps16
    go_wp2_with fail
    go_at_call 58
    refine (lives_any _).mono ?_
    rintro e w2 ⟨rfl, hb⟩
    have HB2 := Lib.hid (below_then HB0.out hb)
    clear hb
    go_wp2
    go_ret
    exact ⟨rfl, HB2.out⟩
theorem ta_chk (R N : Int) (l : List E) (s : Value) (root : Int) (w : World) (hR : I64 R) (hN : I64 N) (hr : Rd3 w s l) (h : ¬ 60 < l.length) (h2 : ¬ 12 < R) (h3 : chk R N l ≠ 0) :
    Calls Try.prog 16 #[.agg #[.int .i64 R, .int .i64 N, s], .int .i64 root] w fun e w' => e = .returned (.bool true) ∧ Below w.heap.size w w' := by
  have HCK : Hid (∀ W, Below w.heap.size w W → Calls Try.prog 57 #[.agg #[.int .i64 R, .int .i64 N, s]] W fun e w' => e = .returned (.int .i64 (chk R N l)) ∧ Below W.heap.size W w') := fun W hW => check_any R N s l W hR hN (hr.below hW)
  obtain ⟨ad, cap, hform⟩ := rd3_slice hr
  obtain ⟨L, hL⟩ : ∃ L, l.length = L := ⟨_, rfl⟩
  rw [hL] at hform h
  subst hform
  have HB0 := Lib.hid (below_alloc w (.cells #[.int .i64 R, .int .i64 N, .slice ad L cap] 27))
  have k1 : decide ((60 : Int) < (L : Int)) = false := decide_eq_false (by omega)
  have k1' : decide (60 < L) = false := decide_eq_false h
  have k2 : decide ((12 : Int) < R) = false := decide_eq_false h2
  have k3 : (chk R N l != 0) = true := by simpa using h3
  generalize chk R N l = q at *
  clear hr hL h h2 h3
  go_enter Try.func16, Try.ntmps16
  go_wp2_with fail
  go_at_call 57
  refine (HCK.out _ HB0.out).mono ?_
  rintro e w1 ⟨rfl, hb⟩
  have HB1 := Lib.hid (below_then HB0.out hb)
  clear hb HCK HB0
  go_wp2_with fail
  go_at_call 58
  refine (lives_any _).mono ?_
  rintro e w2 ⟨rfl, hb⟩
  have HB2 := Lib.hid (below_then HB1.out hb)
  clear hb
  go_wp2
  go_ret
  exact ⟨rfl, HB2.out⟩
theorem ta_err (R N : Int) (l : List E) (s : Value) (root : Int) (w : World) (hR : I64 R) (hN : I64 N) (hr : Rd3 w s l) (h : ¬ 60 < l.length) (h2 : ¬ 12 < R) (h3 : chk R N l = 0) (her : ∀ al er, LaR R N l root al er → er ≠ 0) :
    Calls Try.prog 16 #[.agg #[.int .i64 R, .int .i64 N, s], .int .i64 root] w fun e w' => e = .returned (.bool true) ∧ Below w.heap.size w w' := by
  have HCK : Hid (∀ W, Below w.heap.size w W → Calls Try.prog 57 #[.agg #[.int .i64 R, .int .i64 N, s]] W fun e w' => e = .returned (.int .i64 0) ∧ Below W.heap.size W w') := fun W hW => by have := check_any R N s l W hR hN (hr.below hW); rwa [h3] at this
  have HLA : Hid (∀ W, Below w.heap.size w W → Calls Try.prog 25 #[.agg #[.int .i64 R, .int .i64 N, s], .int .i64 root] W (LaQ R N l root W)) := fun W hW => la_any R N l s root W hR hN (hr.below hW)
  have HRN : Hid (∀ W, Below w.heap.size w W → Calls Try.prog 59 #[.agg #[.int .i64 R, .int .i64 N, s], .int .i64 root] W (RunQ R N l root W)) := fun W hW => run_any R N l s root W hR hN (hr.below hW)
  obtain ⟨ad, cap, hform⟩ := rd3_slice hr
  obtain ⟨L, hL⟩ : ∃ L, l.length = L := ⟨_, rfl⟩
  rw [hL] at hform h
  subst hform
  have HB0 := Lib.hid (below_alloc w (.cells #[.int .i64 R, .int .i64 N, .slice ad L cap] 27))
  have HX0 : Hid ((w.alloc (.cells #[.int .i64 R, .int .i64 N, .slice ad L cap] 27)).heap[w.heap.size]? = some (.cells #[.int .i64 R, .int .i64 N, .slice ad L cap] 27 (0, 0))) := heap_alloc_new _ _
  have k1 : decide ((60 : Int) < (L : Int)) = false := decide_eq_false (by omega)
  have k1' : decide (60 < L) = false := decide_eq_false h
  have k2 : decide ((12 : Int) < R) = false := decide_eq_false h2
  have HER := Lib.hid her
  clear hr hL h h2 h3 her
  go_enter Try.func16, Try.ntmps16
  go_wp2_with fail
  go_at_call 57
  refine (HCK.out _ HB0.out).mono ?_
  rintro e w1 ⟨rfl, hb⟩
  have HB1 := Lib.hid (below_then HB0.out hb)
  have HX1 := Lib.hid ((hb.block _ (lt_block HX0.out)).trans HX0.out)
  have q0 : w1.cell? ⟨w.heap.size, 0, none⟩ = some (.int .i64 R) := cell_of HX1.out rfl
  have q1 : w1.cell? ⟨w.heap.size, 1, none⟩ = some (.int .i64 N) := cell_of HX1.out rfl
  have q2 : w1.cell? ⟨w.heap.size, 2, none⟩ = some (.slice ad L cap) := cell_of HX1.out rfl
  clear hb HCK HB0 HX0
  go_wp2_with fail
  go_at_call 25
  refine (HLA.out _ HB1.out).mono ?_
  rintro e w2 ⟨al, er, v, rfl, hra, hla, hb⟩
  have hne := HER.out _ _ hla
  have n1 : (er != 0) = true := by simpa using hne
  have HB2 := Lib.hid (below_then HB1.out hb)
  have HX2 := Lib.hid ((hb.block _ (lt_block HX1.out)).trans HX1.out)
  obtain ⟨x1, x2, rfl⟩ := hra.form
  clear hb hla hra hne HER HLA q0 q1 q2 HX1 HB1
  have q0 : w2.cell? ⟨w.heap.size, 0, none⟩ = some (.int .i64 R) := cell_of HX2.out rfl
  have q1 : w2.cell? ⟨w.heap.size, 1, none⟩ = some (.int .i64 N) := cell_of HX2.out rfl
  have q2 : w2.cell? ⟨w.heap.size, 2, none⟩ = some (.slice ad L cap) := cell_of HX2.out rfl
  go_wp2_with fail
  go_at_call 59
  refine (HRN.out _ HB2.out).mono ?_
  rintro e w3 ⟨t, er', tv, rfl, hrt, _, hb⟩
  have HB3 := Lib.hid (below_then (below_then HB2.out hb) (below_alloc w3 (.cells #[.int .i64 0, .int .i64 0, .int .i64 0, .int .i64 0] 74)))
  obtain ⟨D, H, PV, rfl, hd1, hh1, hp1⟩ := hrt
  obtain ⟨da, dc, rfl⟩ := hd1.form
  obtain ⟨ha, hc, rfl⟩ := hh1.form
  obtain ⟨pa, pc, rfl⟩ := hp1.form
  have HB4 : Hid (∀ o, Below w.heap.size w (w3.alloc o)) := fun o => below_then (below_then HB2.out hb) (below_alloc w3 o)
  clear hd1 hh1 hp1 hb HB3 HRN q0 q1 q2 HX2 HB2
  go_wp2_with fail
  go_at_call 58
  refine (lives_any _).mono ?_
  rintro e w5 ⟨rfl, hb⟩
  have HB5 := Lib.hid (below_then (HB4.out _) hb)
  clear hb
  go_wp2
  go_ret
  exact ⟨rfl, HB5.out⟩
theorem ta_ok (r root : Nat) (l : List E) (s : Value) (w : World) (hr : Rd3 w s l) (hroot : root < r) (hro : roE (r : Int) 0 l = 0) (h60 : ¬ 60 < l.length) (h12 : ¬ 12 < (r : Int)) :
    Calls Try.prog 16 #[.agg #[.int .i64 (r : Int), .int .i64 0, s], .int .i64 (root : Int)] w fun e w' => e = .returned (.bool true) ∧ Below w.heap.size w w' := by
  have hv := chk_iff.1 (roE_ok hro).1
  have hI : I64 (r : Int) := by unfold I64; omega
  have hI0 : I64 (0 : Int) := by unfold I64; omega
  have HCK : Hid (∀ W, Below w.heap.size w W → Calls Try.prog 57 #[.agg #[.int .i64 (r : Int), .int .i64 0, s]] W fun e w' => e = .returned (.int .i64 0) ∧ Below W.heap.size W w') := fun W hW => by have := check_any (r : Int) 0 s l W hI hI0 (hr.below hW); rwa [(roE_ok hro).1] at this
  have HLA : Hid (∀ W, Below w.heap.size w W → Calls Try.prog 25 #[.agg #[.int .i64 (r : Int), .int .i64 0, s], .int .i64 (root : Int)] W fun e w' => ∃ v t, e = .returned (.tuple #[v, .int .i64 0]) ∧ RdA w' v (allA l (root : Int) r t.hops) ∧ IsTre (r : Int) 0 l (root : Int) t ∧ Below W.heap.size W w') := fun W hW => la_ok r root l s W hv (hr.below hW) hroot hro
  have HRN : Hid (∀ W, Below w.heap.size w W → Calls Try.prog 59 #[.agg #[.int .i64 (r : Int), .int .i64 0, s], .int .i64 (root : Int)] W fun e w' => ∃ t tv, e = .returned (.tuple #[tv, .int .i64 0]) ∧ RdT w' tv t ∧ IsTre (r : Int) 0 l (root : Int) t ∧ Below W.heap.size W w') := fun W hW => by
    refine (run_any (r : Int) 0 l s (root : Int) W hI hI0 (hr.below hW)).mono ?_
    rintro e w' ⟨t, er, tv, rfl, h1, h2, h3⟩
    rcases h2 with ⟨a, _⟩ | ⟨_, a, _⟩ | ⟨_, _, rfl, h⟩
    · exact absurd (roE_ok hro).1 a
    · exact absurd ⟨by omega, by omega⟩ a
    · exact ⟨t, tv, rfl, h1, h, h3⟩
  have HWK : Hid (∀ (x d : Nat) (a b : Int) W, Below w.heap.size w W → x < r → d < r → Calls Try.prog 35 #[.agg #[.int .i64 (r : Int), .int .i64 0, s], .int .i64 (x : Int), .int .i64 (d : Int), .int .i64 a, .int .i64 b] W fun e w' => ∃ p ok v, e = .returned (.tuple #[v, .bool ok]) ∧ RdI w' v p ∧ Wk (r : Int) l (d : Int) a b (x : Int) p ok ∧ Below W.heap.size W w') := fun x d a b W hW hx hd => wk_ok r x d l s a b W hv (hr.below hW) hx hd hro
  have HV := Lib.hid hv
  obtain ⟨ad, cap, hform⟩ := rd3_slice hr
  obtain ⟨L, hL⟩ : ∃ L, l.length = L := ⟨_, rfl⟩
  rw [hL] at hform h60
  subst hform
  have HB0 := Lib.hid (below_alloc w (.cells #[.int .i64 (r : Int), .int .i64 0, .slice ad L cap] 27))
  have HX0 : Hid ((w.alloc (.cells #[.int .i64 (r : Int), .int .i64 0, .slice ad L cap] 27)).heap[w.heap.size]? = some (.cells #[.int .i64 (r : Int), .int .i64 0, .slice ad L cap] 27 (0, 0))) := heap_alloc_new _ _
  have k1 : decide ((60 : Int) < (L : Int)) = false := decide_eq_false (by omega)
  have k1' : decide (60 < L) = false := decide_eq_false h60
  have k2 : decide ((12 : Int) < (r : Int)) = false := decide_eq_false h12
  have k2' : decide (12 < r) = false := decide_eq_false (by omega)
  clear hr hL hv hI hI0 hro h60 h12
  go_enter Try.func16, Try.ntmps16
  go_wp2_with fail
  go_at_call 57
  refine (HCK.out _ HB0.out).mono ?_
  rintro e w1 ⟨rfl, hb⟩
  have HB1 := Lib.hid (below_then HB0.out hb)
  have HX1 := Lib.hid ((hb.block _ (lt_block HX0.out)).trans HX0.out)
  have q0 : w1.cell? ⟨w.heap.size, 0, none⟩ = some (.int .i64 (r : Int)) := cell_of HX1.out rfl
  have q1 : w1.cell? ⟨w.heap.size, 1, none⟩ = some (.int .i64 0) := cell_of HX1.out rfl
  have q2 : w1.cell? ⟨w.heap.size, 2, none⟩ = some (.slice ad L cap) := cell_of HX1.out rfl
  clear hb HX0 HB0 HCK k1 k1' k2 k2'
  go_wp2_with fail
  go_at_call 25
  refine (HLA.out _ HB1.out).mono ?_
  rintro e w2 ⟨lv, t, rfl, hra, hist, hb⟩
  have HB2 := Lib.hid (below_then HB1.out hb)
  have HX2 := Lib.hid ((hb.block _ (lt_block HX1.out)).trans HX1.out)
  have HA2 := Lib.hid hra
  have HIST := Lib.hid hist
  obtain ⟨x1, x2, hlf⟩ := hra.form
  subst hlf
  clear hb hra hist HLA HB1 HX1 q0 q1 q2
  have q0 : w2.cell? ⟨w.heap.size, 0, none⟩ = some (.int .i64 (r : Int)) := cell_of HX2.out rfl
  have q1 : w2.cell? ⟨w.heap.size, 1, none⟩ = some (.int .i64 0) := cell_of HX2.out rfl
  have q2 : w2.cell? ⟨w.heap.size, 2, none⟩ = some (.slice ad L cap) := cell_of HX2.out rfl
  go_wp2_with fail
  go_at_call 59
  refine (HRN.out _ HB2.out).mono ?_
  rintro e w3 ⟨t', tv, rfl, hrt, hist', hb⟩
  obtain rfl := hist'.unique HIST.out
  have hist := HIST.out
  obtain ⟨n, hn1, hn2, htr⟩ := hist
  have hlen := htr.lh
  obtain rfl : n = r := by omega
  have HB3 := Lib.hid (below_then HB2.out hb)
  have HX3 := Lib.hid ((hb.block _ (lt_block HX2.out)).trans HX2.out)
  have HA3 := Lib.hid (HA2.out.below hb)
  obtain ⟨D, H, PV, rfl, hd1, hh1, hp1⟩ := hrt
  have HH3 := Lib.hid hh1
  have HLEN := Lib.hid hlen
  obtain ⟨da, dc, rfl⟩ := hd1.form
  obtain ⟨ha, hc, rfl⟩ := hh1.form
  obtain ⟨pa, pc, rfl⟩ := hp1.form
  obtain ⟨L1, hL1⟩ : ∃ L1, t'.dist.length = L1 := ⟨_, rfl⟩
  obtain ⟨L2, hL2⟩ : ∃ L2, t'.pars.length = L2 := ⟨_, rfl⟩
  obtain ⟨L3, hL3⟩ : ∃ L3, t'.root = L3 := ⟨_, rfl⟩
  rw [hL1, hL2, hL3, hlen]
  clear hd1 hh1 hp1 hb HRN q0 q1 q2 HX2 HB2 HA2 hlen htr hn1 hn2 hL1 hL2 hL3
  have HAN : Hid (∀ a ∈ allA l (root : Int) n t'.hops, ∃ d v p, AlN l n root t'.hops a d v p) := fun a ha => al_num HV.out hroot HIST.out ha
  have HAX0 : Hid (RdA (w3.alloc (.cells #[.int .i64 L3, .slice da L1 dc, .slice ha n hc, .slice pa L2 pc] 74)) (.slice x1 (allA l (root : Int) n t'.hops).length x2) (allA l (root : Int) n t'.hops)) := HA3.out.below (below_alloc _ _)
  have HHX0 : Hid (RdR (w3.alloc (.cells #[.int .i64 L3, .slice da L1 dc, .slice ha n hc, .slice pa L2 pc] 74)) (.slice ha n hc) t'.hops) := by have := HH3.out.below (below_alloc w3 (.cells #[.int .i64 L3, .slice da L1 dc, .slice ha n hc, .slice pa L2 pc] 74)); rw [HLEN.out] at this; exact this
  have HTX : Hid ((w3.alloc (.cells #[.int .i64 L3, .slice da L1 dc, .slice ha n hc, .slice pa L2 pc] 74)).heap[w3.heap.size]? = some (.cells #[.int .i64 L3, .slice da L1 dc, .slice ha n hc, .slice pa L2 pc] 74 (0, 0))) := heap_alloc_new _ _
  have HXX : Hid ((w3.alloc (.cells #[.int .i64 L3, .slice da L1 dc, .slice ha n hc, .slice pa L2 pc] 74)).heap[w.heap.size]? = some (.cells #[.int .i64 (n : Int), .int .i64 0, .slice ad L cap] 27 (0, 0))) := ((below_alloc w3 _).block _ (lt_block HX3.out)).trans HX3.out
  have HBX : Hid (Below w.heap.size w (w3.alloc (.cells #[.int .i64 L3, .slice da L1 dc, .slice ha n hc, .slice pa L2 pc] 74))) := below_then HB3.out (below_alloc _ _)
  clear HA3 HH3 HX3 HB3
  generalize allA l (root : Int) n t'.hops = al at *
  go_wp2_with fail
  generalize hXX : (w3.alloc (.cells #[.int .i64 L3, .slice da L1 dc, .slice ha n hc, .slice pa L2 pc] 74)) = X at *
  clear hXX
  obtain ⟨M, hM⟩ : ∃ M, al.length = M := ⟨_, rfl⟩
  obtain ⟨pad, pcap, hpe, hp1, hp2, hpr⟩ := HAX0.out
  have HAX := HAX0
  clear HAX0
  rw [hM] at hpe hp1 HAX ⊢
  cases hpe
  have HM := Lib.hid hM
  have HPR := Lib.hid hpr
  obtain ⟨hrd, hrc, hre, hr1, hr2, hrows⟩ := HHX0.out
  rw [HLEN.out] at hre
  cases hre
  have HRW := Lib.hid hrows
  have HQ : Hid (∀ W, Below X.heap.size X W → W.cell? ⟨w.heap.size, 0, none⟩ = some (.int .i64 (n : Int)) ∧ W.cell? ⟨w.heap.size, 1, none⟩ = some (.int .i64 0) ∧ W.cell? ⟨w.heap.size, 2, none⟩ = some (.slice ad L cap)) := fun W hW => ⟨carry hW (cell_of HXX.out rfl), carry hW (cell_of HXX.out rfl), carry hW (cell_of HXX.out rfl)⟩
  have HTQ : Hid (∀ W, Below X.heap.size X W → W.cell? ⟨w3.heap.size, 2, none⟩ = some (.slice ha n hc)) := fun W hW => carry hW (cell_of HTX.out rfl)
  have HS0 : Hid (Below X.heap.size X X) := Below.refl _ _
  clear hpr hM HAX HXX HTX hrows HHX0 hr1 hr2
  go_loopg [9, 10, 11, 12, 13, 14, 15, 52] M (fun g s9 s10 s11 s12 s13 s14 s15 s52 wr => ∃ k : Nat, k ≤ M ∧ M - k ≤ g ∧ (∃ q, q = s9) ∧ (∃ q, q = s10) ∧ (∃ q, q = s11) ∧ (∃ q, q = s12) ∧ (∃ q, q = s13) ∧ (∃ q, q = s14) ∧ (∃ q, q = s15) ∧ s52 = .int .i64 (k : Int) ∧ Hid (Below X.heap.size X wr))
  case atStart => exact ⟨0, by omega, by omega, ⟨_, rfl⟩, ⟨_, rfl⟩, ⟨_, rfl⟩, ⟨_, rfl⟩, ⟨_, rfl⟩, ⟨_, rfl⟩, ⟨_, rfl⟩, rfl, HS0⟩
  case round =>
    clear HS0
    obtain ⟨k, hk, hkg, ⟨u9, rfl⟩, ⟨u10, rfl⟩, ⟨u11, rfl⟩, ⟨u12, rfl⟩, ⟨u13, rfl⟩, ⟨u14, rfl⟩, ⟨u15, rfl⟩, rfl, HS⟩ := hrel
    by_cases hkl : k < M
    · have k0 : (0 : Int) ≤ (k : Int) := by omega
      have k1 : (k : Int) < (M : Int) := by omega
      obtain ⟨a, ha⟩ : ∃ a, al[k]? = some a := ⟨_, List.getElem?_eq_getElem (by have := HM.out; omega)⟩
      obtain ⟨d, v, p, han⟩ := HAN.out a (List.mem_of_getElem? ha)
      obtain ⟨pb, po, rfl, hpb, c0, c1, c2, c3, c4⟩ := HPR.out k a ha
      obtain ⟨ad0, ap0, av0, ak0, dn⟩ := a
      have hd := han.hd; have hvv := han.hv; have hp := han.hp; have hfin := han.fin.1; have his := han.is; have hne := han.ne; have hmem := han.mem
      dsimp only at hd hvv hp c0 c1 c2 c3 c4
      obtain ⟨rfl, hd⟩ := hd
      obtain ⟨rfl, hvv⟩ := hvv
      obtain ⟨rfl, hp⟩ := hp
      have hfree := his.free
      have hkind := his.kind
      dsimp only at hfree hkind
      have HNR : Hid (¬ On l (v : Int) (d : Int) (root : Int)) := fun ho => by
        obtain ⟨o1, o2, o3⟩ := ho
        obtain ⟨h1, h2 | h2 | h2⟩ := hfree <;> omega
      have HNP : Hid (ak0 = 2 → ¬ On l (v : Int) (d : Int) (p : Int)) := fun e ho => by
        obtain ⟨o1, o2, o3⟩ := ho
        rcases hkind with ⟨_, _, h1, h2 | h2 | h2⟩ | ⟨h1, _⟩ <;> omega
      have HKI : Hid (ak0 = 2 ∨ ak0 = 1) := hkind.imp And.left And.left
      have HOV : Hid (On l (v : Int) (d : Int) (v : Int)) := On.start HV.out hfin
      have f0 := carry HS.out c0
      have f1 := carry HS.out c1
      have f2 := carry HS.out c2
      have f3 := carry HS.out c3
      have f4 := carry HS.out c4
      have HS1 : Hid (Below X.heap.size X (wr.alloc (.cells #[.int .i64 (d : Int), .int .i64 (p : Int), .int .i64 (v : Int), .int .i64 ak0, .bool dn] 47))) := below_then HS.out (below_alloc _ _)
      have HAB : Hid ((wr.alloc (.cells #[.int .i64 (d : Int), .int .i64 (p : Int), .int .i64 (v : Int), .int .i64 ak0, .bool dn] 47)).heap[wr.heap.size]? = some (.cells #[.int .i64 (d : Int), .int .i64 (p : Int), .int .i64 (v : Int), .int .i64 ak0, .bool dn] 47 (0, 0))) := heap_alloc_new _ _
      obtain ⟨eb, eo, ev, hee, heb, hec, herow⟩ := HRW.out d _ (gL_get (by rw [HLEN.out]; exact hd))
      cases hee
      generalize gL t'.hops d = row at *
      obtain ⟨jr, hjr⟩ := List.getElem?_of_mem hmem
      obtain ⟨Lr, hLr⟩ : ∃ Lr, row.length = Lr := ⟨_, rfl⟩
      obtain ⟨ra, rc, rfl, hrl, hrcap, hrcells⟩ := herow
      obtain ⟨rb, ro, rfl, hrb, _⟩ := hrcells jr _ hjr
      rw [hLr] at hec hrl
      have HRC : Hid (∀ j y, row[j]? = some y → X.cell? ⟨rb, ro + j, none⟩ = some (.int .i64 y)) := fun j y hj => by obtain ⟨b', o', e', _, c'⟩ := hrcells j y hj; cases e'; exact c'
      have HLR := Lib.hid hLr
      have HMEM := Lib.hid hmem
      have HEC : Hid (∀ W, Below X.heap.size X W → W.cell? ⟨eb, eo + d, none⟩ = some (.slice (some ⟨rb, ro, none⟩) Lr rc)) := fun W hW => carry hW hec
      have hrc2 := hrcap
      clear hrcells hec hmem hjr hrb hLr heb
      have q0 := (HQ.out _ HS1.out).1
      have q1 := (HQ.out _ HS1.out).2.1
      have q2 := (HQ.out _ HS1.out).2.2
      clear c0 c1 c2 c3 c4 ha han hpb hfree hkind his hfin
      go_wp2_with fail
      clear q0 q1 q2 f0 f1 f2 f3 f4
      generalize hV : (wr.alloc (.cells #[.int .i64 (d : Int), .int .i64 (p : Int), .int .i64 (v : Int), .int .i64 ak0, .bool dn] 47)) = V at *
      clear hV
      go_at_call 35
      refine (HWK.out v d (root : Int) (p : Int) _ (below_then HBX.out HS1.out) hvv hd).mono ?_
      rintro e U ⟨path, ok, vp, rfl, hrp, hwk, hb⟩
      obtain ⟨rfl, hlast⟩ := Wk.arrives HV.out (s := (v : Int)) ⟨by omega, by omega⟩ hwk HOV.out (fun x y hx hy hl => by
        rcases hl with ⟨rfl, _⟩ | ⟨_, rfl⟩
        · exact HNR.out hx
        · exact HNR.out hy)
      have HPRT : Hid ((root : Int) ∉ path) := fun hm => HNR.out (Wk.on HV.out hwk HOV.out _ hm)
      have HPP : Hid (ak0 = 2 → (p : Int) ∉ path) := fun e hm => HNP.out e (Wk.on HV.out hwk HOV.out _ hm)
      have HSU := Lib.hid (below_then HS1.out hb)
      have hhead := wk_head hwk
      have hlast2 := last_get hlast
      obtain ⟨P, hP⟩ : ∃ P, path.length = P := ⟨_, rfl⟩
      have hP0 : 0 < P := by rw [← hP]; exact (List.getElem?_eq_some_iff.1 hhead).1
      obtain ⟨za, zc, rfl, hz1, hz2, hzc⟩ := hrp
      obtain ⟨zb, zo, rfl, hzb, z0⟩ := hzc 0 _ hhead
      obtain ⟨zb', zo', e', hzb', z1⟩ := hzc _ _ hlast2
      cases e'
      rw [hP] at z1 hz1 ⊢
      have HZC : Hid (∀ j y, path[j]? = some y → U.cell? ⟨zb, zo + j, none⟩ = some (.int .i64 y)) := fun j y hj => by obtain ⟨b', o', e', _, c'⟩ := hzc j y hj; cases e'; exact c'
      have HP := Lib.hid hP
      have HC : Hid (∀ W, Below U.heap.size U W → W.cell? ⟨wr.heap.size, 0, none⟩ = some (.int .i64 (d : Int)) ∧ W.cell? ⟨wr.heap.size, 1, none⟩ = some (.int .i64 (p : Int)) ∧ W.cell? ⟨wr.heap.size, 2, none⟩ = some (.int .i64 (v : Int)) ∧ W.cell? ⟨wr.heap.size, 3, none⟩ = some (.int .i64 ak0)) := fun W hW => ⟨carry hW (carry hb (cell_of HAB.out rfl)), carry hW (carry hb (cell_of HAB.out rfl)), carry hW (carry hb (cell_of HAB.out rfl)), carry hW (carry hb (cell_of HAB.out rfl))⟩
      have HTU : Hid (∀ W, Below U.heap.size U W → W.cell? ⟨w3.heap.size, 2, none⟩ = some (.slice (some ⟨eb, eo, none⟩) n hc) ∧ W.cell? ⟨eb, eo + d, none⟩ = some (.slice (some ⟨rb, ro, none⟩) Lr rc)) := fun W hW => ⟨HTQ.out _ (below_then HSU.out hW), HEC.out _ (below_then HSU.out hW)⟩
      have HRU : Hid (∀ W j y, Below U.heap.size U W → row[j]? = some y → W.cell? ⟨rb, ro + j, none⟩ = some (.int .i64 y)) := fun W j y hW hj => carry hW (carry HSU.out (HRC.out j y hj))
      have HZU : Hid (∀ W j y, Below U.heap.size U W → path[j]? = some y → W.cell? ⟨zb, zo + j, none⟩ = some (.int .i64 y)) := fun W j y hW hj => carry hW (HZC.out j y hj)
      have b0 := (HC.out U (Below.refl _ _)).1
      have b1 := (HC.out U (Below.refl _ _)).2.1
      have b2 := (HC.out U (Below.refl _ _)).2.2.1
      have b3 := (HTU.out U (Below.refl _ _)).1
      have n1 : decide ((d : Int) < 0) = false := decide_eq_false (by omega)
      have n2 : decide ((n : Int) ≤ (d : Int)) = false := decide_eq_false (by omega)
      have n2' : decide (n ≤ d) = false := decide_eq_false (by omega)
      have n3 : ((P : Int) == 0) = false := by simp; omega
      have n3' : (P == 0) = false := by simp; omega
      have n4 : ((v : Int) != (v : Int)) = false := by simp
      have n5 : ((d : Int) != (d : Int)) = false := by simp
      have n6 : ((v : Int) == (p : Int)) = false := by simp; omega
      have n6' : (v == p) = false := by simpa using hne
      have p0 : (0 : Int) < (P : Int) := by omega
      have p1 : (0 : Int) ≤ (P : Int) - 1 := by omega
      have p2 : (P : Int) - 1 < (P : Int) := by omega
      have p3 : IntKind.i64.wrap ((P : Int) - 1) = (P : Int) - 1 := IntWalk.i64_in _ (by omega)
      have p4 : ((P : Int) - 1).toNat = P - 1 := by omega
      have z0' : U.cell? ⟨zb, zo, none⟩ = some (.int .i64 (v : Int)) := z0
      clear hzc hP hhead hlast hlast2 hwk hb HS1 HAB HZC HEC HRC HPR
      generalize wr.heap.size = xb at *
      go_wp2_with fail
      go_quiet (fail)
      go_wp2_with fail
      clear b0 b1 b2 b3 n1 n2 n2' n3 n3' n4 n5 n6 n6' p1 p2 p3 p4 z0 z0' z1
      go_loopg [13, 119] P (fun g s13 s119 wr => ∃ j : Nat, j ≤ P ∧ P - j ≤ g ∧ (∃ q, q = s13) ∧ s119 = .int .i64 (j : Int) ∧ Hid (Below U.heap.size U wr))
      case atStart => exact ⟨0, by omega, by omega, ⟨_, rfl⟩, rfl, below_drewN (Below.refl _ _) _⟩
      case round =>
        obtain ⟨j, hj, hjg, ⟨u13, rfl⟩, rfl, HU⟩ := hrel
        by_cases hjl : j < P
        · have j0 : (0 : Int) ≤ (j : Int) := by omega
          have j1 : (j : Int) < (P : Int) := by omega
          obtain ⟨y, hy⟩ : ∃ y, path[j]? = some y := ⟨_, List.getElem?_eq_getElem (by have := HP.out; omega)⟩
          have y0 := HZU.out wr j y HU.out hy
          have hym := List.mem_of_getElem? hy
          have n1 : (y == (root : Int)) = false := by
            have : y ≠ (root : Int) := fun e => HPRT.out (e ▸ hym)
            simpa using this
          have b1 := (HC.out wr HU.out).2.1
          have b3 := (HC.out wr HU.out).2.2.2
          rcases HKI.out with hk2 | hk2
          · have n2 : (y == (p : Int)) = false := by
              have : y ≠ (p : Int) := fun e => HPP.out hk2 (e ▸ hym)
              simpa using this
            rw [hk2] at b3
            clear hy hym
            go_wp2_with fail
            go_quiet (fail)
            go_wp2_with fail
            go_roundg (P - (j + 1))
            case measure => omega
            case rel => exact ⟨j + 1, by omega, Nat.le_refl _, ⟨_, rfl⟩, by go_num, below_drewN HU.out _⟩
          · rw [hk2] at b3
            clear hy hym
            go_wp2_with fail
            go_quiet (fail)
            go_wp2_with fail
            go_roundg (P - (j + 1))
            case measure => omega
            case rel => exact ⟨j + 1, by omega, Nat.le_refl _, ⟨_, rfl⟩, by go_num, below_drewN HU.out _⟩
        · have j1 : decide ((j : Int) < (P : Int)) = false := decide_eq_false (by omega)
          have b0 := (HC.out wr HU.out).1
          have b3 := (HTU.out wr HU.out).1
          have b4 := (HTU.out wr HU.out).2
          have d0 : (0 : Int) ≤ (d : Int) := by omega
          have d1 : (d : Int) < (n : Int) := by omega
          have HT0 : Hid (decide ((p : Int) ∈ row.take 0) = false) := by show _ = _; simp
          go_wp2_with fail
          go_loopg [14, 15, 150] Lr (fun g s14 s15 s150 wr => ∃ (j : Nat) (fb : Bool), j ≤ Lr ∧ Lr - j ≤ g ∧ s14 = .bool fb ∧ (∃ q, q = s15) ∧ s150 = .int .i64 (j : Int) ∧ Hid (decide ((p : Int) ∈ row.take j) = fb) ∧ Hid (Below U.heap.size U wr))
          case atStart => exact ⟨0, false, by omega, by omega, rfl, ⟨_, rfl⟩, rfl, HT0, HU⟩
          case round =>
            obtain ⟨j, fb, hj, hjg, rfl, ⟨u15, rfl⟩, rfl, HF, HZ⟩ := hrel
            by_cases hjl : j < Lr
            · have j0 : (0 : Int) ≤ (j : Int) := by omega
              have j1 : (j : Int) < (Lr : Int) := by omega
              obtain ⟨y, hy⟩ : ∃ y, row[j]? = some y := ⟨_, List.getElem?_eq_getElem (by have := HLR.out; omega)⟩
              have y0 := HRU.out wr j y HZ.out hy
              have HTK : Hid (decide ((p : Int) ∈ row.take (j + 1)) = (fb || decide ((p : Int) = y))) := by
                show _ = _
                rw [List.take_add_one, hy, ← HF.out]
                simp
              have b0 := (HC.out wr HZ.out).1
              have b1 := (HC.out wr HZ.out).2.1
              have b3 := (HTU.out wr HZ.out).1
              have b4 := (HTU.out wr HZ.out).2
              clear hy
              cases fb with
              | true =>
                have HF2 : Hid (decide ((p : Int) ∈ row.take (j + 1)) = true) := by show _ = _; rw [HTK.out]; rfl
                go_wp2_with fail
                go_quiet (fail)
                go_wp2_with fail
                go_roundg (Lr - (j + 1))
                case measure => omega
                case rel => exact ⟨j + 1, true, by omega, Nat.le_refl _, rfl, ⟨_, rfl⟩, by go_num, HF2, below_drewN HZ.out _⟩
              | false =>
                by_cases hyp : y = (p : Int)
                · have n1 : (y == (p : Int)) = true := by simpa using hyp
                  have HF2 : Hid (decide ((p : Int) ∈ row.take (j + 1)) = true) := by show _ = _; rw [HTK.out]; simp [hyp]
                  clear hyp
                  go_wp2_with fail
                  go_quiet (fail)
                  go_wp2_with fail
                  go_roundg (Lr - (j + 1))
                  case measure => omega
                  case rel => exact ⟨j + 1, true, by omega, Nat.le_refl _, rfl, ⟨_, rfl⟩, by go_num, HF2, below_drewN HZ.out _⟩
                · have n1 : (y == (p : Int)) = false := by simpa using hyp
                  have HF2 : Hid (decide ((p : Int) ∈ row.take (j + 1)) = false) := by show _ = _; rw [HTK.out]; simp; exact fun e => hyp e.symm
                  clear hyp
                  go_wp2_with fail
                  go_quiet (fail)
                  go_wp2_with fail
                  go_roundg (Lr - (j + 1))
                  case measure => omega
                  case rel => exact ⟨j + 1, false, by omega, Nat.le_refl _, rfl, ⟨_, rfl⟩, by go_num, HF2, below_drewN HZ.out _⟩
            · have j1 : decide ((j : Int) < (Lr : Int)) = false := decide_eq_false (by omega)
              have hfb : fb = true := by
                have := HF.out
                rw [show j = row.length by have := HLR.out; omega, List.take_length, decide_eq_true HMEM.out] at this
                exact this.symm
              subst hfb
              have HSF := Lib.hid (below_then HSU.out HZ.out)
              go_wp2_with fail
              go_roundg (M - (k + 1))
              case measure => omega
              case rel => exact ⟨k + 1, by omega, Nat.le_refl _, ⟨_, rfl⟩, ⟨_, rfl⟩, ⟨_, rfl⟩, ⟨_, rfl⟩, ⟨_, rfl⟩, ⟨_, rfl⟩, ⟨_, rfl⟩, by go_num, HSF⟩
    · have k1 : decide ((k : Int) < (M : Int)) = false := decide_eq_false (by omega)
      have HBF := Lib.hid (below_then HBX.out HS.out)
      go_wp2_with fail
      go_at_call 58
      refine (lives_any _).mono ?_
      rintro e w9 ⟨rfl, hb⟩
      have HB9 := Lib.hid (below_then HBF.out hb)
      clear hb
      go_wp2
      go_ret
      exact ⟨rfl, HB9.out⟩
theorem ta_walk (R N : Int) (l : List E) (s : Value) (root : Int) (w : World) (hR : I64 R) (hN : I64 N) (hr : Rd3 w s l) (hro : I64 root) :
    Calls Try.prog 16 #[.agg #[.int .i64 R, .int .i64 N, s], .int .i64 root] w fun e w' => e = .returned (.bool true) ∧ Below w.heap.size w w' := by
  by_cases h1 : 60 < l.length
  · exact ta_short R N l s root w hr (.inl h1)
  · by_cases h2 : 12 < R
    · exact ta_short R N l s root w hr (.inr ⟨h1, h2⟩)
    · by_cases h3 : chk R N l = 0
      · by_cases h : roE R N l = 0
        · by_cases h5 : 0 ≤ root ∧ root < R
          · obtain ⟨h6, rfl⟩ := roE_ok h
            obtain ⟨r, rfl⟩ : ∃ r : Nat, R = (r : Int) := ⟨R.toNat, by omega⟩
            obtain ⟨x, rfl⟩ : ∃ x : Nat, root = (x : Int) := ⟨root.toNat, by omega⟩
            exact ta_ok r x l s w hr (by omega) h h1 h2
          · refine ta_err R N l s root w hR hN hr h1 h2 h3 fun al er hla => ?_
            rcases hla with ⟨a, _⟩ | ⟨_, _, rfl, _⟩ | ⟨_, a, _⟩
            · exact absurd h a
            · omega
            · exact absurd a h5
        · refine ta_err R N l s root w hR hN hr h1 h2 h3 fun al er hla => ?_
          rcases hla with ⟨a, rfl, _⟩ | ⟨a, _⟩ | ⟨a, _⟩
          · exact a
          · exact absurd a h
          · exact absurd a h
      · exact ta_chk R N l s root w hR hN hr h1 h2 h3
end Go.Proofs.Ytmbogobebllheaa
