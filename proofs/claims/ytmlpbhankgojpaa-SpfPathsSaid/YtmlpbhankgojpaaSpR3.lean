/-
  The walk of the reference's Path.
-/
import Derived.Test.YtmlpbhankgojpaaSpDr
import Derived.Test.YtmlpbhankgojpaaSpPa
import Derived.Deep.AppendLies
namespace Go.Proofs.Ytmlpbhankgojpaa
open Go.RowKit HM GM SP
set_option linter.unusedSimpArgs false
set_option linter.unusedVariables false
set_option maxHeartbeats 4000000
set_option maxRecDepth 100000
/-- the table stands in memory for all calls that only make memory -/
def DistR (l : List E) (n : Nat) (w : World) (e : Ending) (w' : World) : Prop := ∃ Hd, e = .returned (.slice (some ⟨Hd, 0, none⟩) n n) ∧ DT w' l n Hd 0 n ∧ Below w.heap.size w w'
theorem distR_any (R N : Int) (l : List E) (s : Value) (n : Nat) (w : World) (hv : Valid R N l) (hr : Rd3 w s l) (hn : (n : Int) = R + N) (h0 : 0 < n) :
    Calls Try.prog 29 #[.agg #[.int .i64 R, .int .i64 N, s]] w (DistR l n w) := by
  refine (dist_any R N l s n w hv hr hn).mono ?_
  rintro e w' ⟨Hd, tab, vs, rfl, hown, hrs, htb, hT, hb⟩
  have hS := hv.s
  obtain ⟨b, o, c, e, _, h⟩ := DT.of (rdr_own hown hrs (by omega)) htb hT h0
  injection e with e1 e2 e3
  injection e1 with e1
  cases e1; cases e3
  exact ⟨Hd, rfl, h, hb⟩
def RPaQ (l : List E) (x : Int) (zt : Int) (n : Nat) (w : World) (e : Ending) (w' : World) : Prop := ∃ v p, e = .returned v ∧ PaR l x zt n p ∧ RdI w' v p ∧ Below w.heap.size w w'
theorem rpath_none (R N : Int) (l : List E) (s : Value) (x n : Nat) (zt : Int) (w : World) (hv : Valid R N l) (hr : Rd3 w s l) (hn : (n : Int) = R + N) (hxR : (x : Int) < R) (hto : ¬ (0 ≤ zt ∧ zt < (n : Int) ∧ 0 ≤ T l (x : Int) zt)) :
    Calls Try.prog 20 #[.agg #[.int .i64 R, .int .i64 N, s], .int .i64 (x : Int), .int .i64 zt] w (RPaQ l (x : Int) zt n w) := by
  have hN0 := hv.n; have hS := hv.s
  have hxn : x < n := by omega
  have HDI : Hid (∀ W, Below w.heap.size w W → Calls Try.prog 29 #[.agg #[.int .i64 R, .int .i64 N, s]] W (DistR l n W)) := fun W hW => distR_any R N l s n W hv (hr.below hW) hn (by omega)
  have HP : Hid (PaR l (x : Int) zt n []) := .inr ⟨hto, rfl⟩
  obtain ⟨ad, cap, hform⟩ := rd3_slice hr
  obtain ⟨L, hL⟩ : ∃ L, l.length = L := ⟨_, rfl⟩
  rw [hL] at hform
  subst hform
  have HB := Lib.hid (below_alloc w (.cells #[.int .i64 R, .int .i64 N, .slice ad L cap] 24))
  have x0 : (0 : Int) ≤ (x : Int) := by omega
  have x1 : (x : Int) < (n : Int) := by omega
  clear hr hL hn hv
  go_enter Try.func20, Try.ntmps20
  go_wp2_with fail
  go_at_call 29
  refine (HDI.out _ HB.out).mono ?_
  rintro e w1 ⟨Hd, rfl, hdt, hb⟩
  have HD := Lib.hid hdt
  have HB1 := Lib.hid (below_then HB.out hb)
  clear hdt hb HDI HB
  by_cases h0 : zt < 0
  · have z1 : decide (zt < 0) = true := decide_eq_true h0
    clear hto
    go_wp2
    go_ret
    exact ⟨_, [], rfl, HP.out, rdI_nil _, HB1.out⟩
  · have z1 : decide (zt < 0) = false := decide_eq_false h0
    by_cases h1 : (n : Int) ≤ zt
    · have z2 : decide ((n : Int) ≤ zt) = true := decide_eq_true h1
      clear hto
      go_wp2
      go_ret
      exact ⟨_, [], rfl, HP.out, rdI_nil _, HB1.out⟩
    · have z2 : decide ((n : Int) ≤ zt) = false := decide_eq_false h1
      obtain ⟨z, rfl⟩ : ∃ z : Nat, zt = (z : Int) := ⟨zt.toNat, by omega⟩
      have hzn : z < n := by omega
      have ht : T l (x : Int) (z : Int) < 0 := by omega
      obtain ⟨g, p, c, f1, f2, f3, f4⟩ := HD.out.rows x hxn
      rw [Nat.zero_add] at f1
      have f5 := f4 z hzn
      clear f4 hto f2
      generalize T l (x : Int) (z : Int) = tz at *
      have z3 : decide (tz < 0) = true := decide_eq_true ht
      have y0 : (0 : Int) ≤ (z : Int) := by omega
      have y1 : (z : Int) < (n : Int) := by omega
      go_wp2
      go_ret
      exact ⟨_, [], rfl, HP.out, rdI_nil _, HB1.out⟩
theorem rpath_some (R N : Int) (l : List E) (s : Value) (x n z : Nat) (w : World) (hv : Valid R N l) (hr : Rd3 w s l) (hn : (n : Int) = R + N) (hxR : (x : Int) < R) (hzn : z < n) (hT : 0 ≤ T l (x : Int) (z : Int)) :
    Calls Try.prog 20 #[.agg #[.int .i64 R, .int .i64 N, s], .int .i64 (x : Int), .int .i64 (z : Int)] w (RPaQ l (x : Int) (z : Int) n w) := by
  have hN0 := hv.n; have hS := hv.s
  have hxn : x < n := by omega
  have HDI : Hid (∀ W, Below w.heap.size w W → Calls Try.prog 29 #[.agg #[.int .i64 R, .int .i64 N, s]] W (DistR l n W)) := fun W hW => distR_any R N l s n W hv (hr.below hW) hn (by omega)
  have HCo : Hid (∀ a c W, Below w.heap.size w W → Calls Try.prog 25 #[.agg #[.int .i64 R, .int .i64 N, s], .int .i64 a, .int .i64 c] W fun e w' => e = .returned (.tuple #[.int .i64 (cstF a c l).1, .bool (cstF a c l).2]) ∧ Below W.heap.size W w') := fun a c W hW => rcost_any R N a c l s W (hr.below hW)
  have HV : Hid (Valid R N l ∧ (n : Int) = R + N ∧ (x : Int) < R ∧ 0 ≤ T l (x : Int) (z : Int)) := ⟨hv, hn, hxR, hT⟩
  have HSM : Hid (∀ k : Nat, k < n → ∀ i : Nat, i < n → T l (k : Int) (i : Int) ≤ 65535 * 129) := fun k hk i hi => by
    by_cases h : 0 ≤ T l (k : Int) (i : Int)
    · have := T_small hv hn (i := (k : Int)) (k := (i : Int)) (by omega) h; omega
    · omega
  obtain ⟨ad, cap, hform⟩ := rd3_slice hr
  obtain ⟨L, hL⟩ : ∃ L, l.length = L := ⟨_, rfl⟩
  rw [hL] at hform
  subst hform
  have HB := Lib.hid (below_alloc w (.cells #[.int .i64 R, .int .i64 N, .slice ad L cap] 24))
  have HBX : Hid ((w.alloc (.cells #[.int .i64 R, .int .i64 N, .slice ad L cap] 24)).heap[w.heap.size]? = some (.cells #[.int .i64 R, .int .i64 N, .slice ad L cap] 24 (0, 0))) := heap_alloc_new _ _
  have x0 : (0 : Int) ≤ (x : Int) := by omega
  have x1 : (x : Int) < (n : Int) := by omega
  have y0 : (0 : Int) ≤ (z : Int) := by omega
  have y1 : (z : Int) < (n : Int) := by omega
  have hn8 : n ≤ 128 := by omega
  obtain ⟨i0, hi, hz0, hz1, hz2⟩ := info_parts info3
  clear hr hL hn hv hN0 hS
  go_enter Try.func20, Try.ntmps20
  go_wp2_with fail
  go_at_call 29
  refine (HDI.out _ HB.out).mono ?_
  rintro e w1 ⟨Hd, rfl, hdt, hb⟩
  have HD := Lib.hid hdt
  have HB1 := Lib.hid (below_then HB.out hb)
  have HO1 := Lib.hid ((hb.block _ (lt_block HBX.out)).trans HBX.out)
  clear hdt hb HDI HB HBX
  have HROW : Hid (∀ k, k < n → ∃ g p c, n ≤ c ∧ ∀ W, Below w1.heap.size w1 W → W.cell? ⟨Hd, k, none⟩ = some (.slice (some ⟨g, p, none⟩) n c) ∧ ∀ j, j < n → W.cell? ⟨g, p + j, none⟩ = some (.int .i64 (T l (k : Int) (j : Int)))) := fun k hk => by
    obtain ⟨g, p, c, f1, f2, f3, f4⟩ := HD.out.rows k hk
    rw [Nat.zero_add] at f1
    exact ⟨g, p, c, f3, fun W hW => ⟨carry hW f1, fun j hj => carry hW (f4 j hj)⟩⟩
  obtain ⟨gx, px, cx, hcx, hrx⟩ := HROW.out x hxn
  have HRX := Lib.hid hrx
  obtain ⟨f1, f4⟩ := hrx w1 (Below.refl _ _)
  have f5 := f4 z hzn
  clear f4 hrx
  have hzz := HV.out.2.2.2
  have hsz := HSM.out x hxn z hzn
  generalize hTz : T l (x : Int) (z : Int) = tz at *
  have HTZ := Lib.hid hTz
  clear hTz
  have z1 : decide ((z : Int) < 0) = false := decide_eq_false (by omega)
  have z2 : decide ((n : Int) ≤ (z : Int)) = false := decide_eq_false (by omega)
  have z2' : decide (n ≤ z) = false := decide_eq_false (by omega)
  have z3 : decide (tz < 0) = false := decide_eq_false (by omega)
  go_wp2_with fail
  clear f1 f5
  have HS0 : Hid ((w1.alloc (.cells #[.int .i64 (x : Int)] 3)).ownsRow w1.heap.size 3 1 (.slice (some ⟨w1.heap.size, 0, none⟩) 1 1) [(x : Int)].length (ints [(x : Int)]) ∧ Below w1.heap.size w1 (w1.alloc (.cells #[.int .i64 (x : Int)] 3)) ∧ SP.Way l (x : Int) (z : Int) [(x : Int)] (x : Int)) :=
    ⟨World.ownsRow_lit w1 #[.int .i64 (x : Int)] 1 (Nat.le_refl _) (by unfold maxLen; omega) rfl, below_alloc _ _, .one⟩
  go_loopg [8, 9, 10, 11, 12] n (fun g s8 s9 s10 s11 s12 wr => ∃ (p : List Int) (u : Nat) (v8 : Value), n - p.length ≤ g ∧ u < n ∧ v8 = s8 ∧ s9 = .int .i64 (u : Int) ∧ (∃ q, q = s10) ∧ (∃ q, q = s11) ∧ (∃ q, q = s12) ∧ Hid (wr.ownsRow w1.heap.size 3 1 v8 p.length (ints p) ∧ Below w1.heap.size w1 wr ∧ SP.Way l (x : Int) (z : Int) p (u : Int)))
  case atStart => exact ⟨_, x, _, by omega, hxn, rfl, rfl, ⟨_, rfl⟩, ⟨_, rfl⟩, ⟨_, rfl⟩, HS0⟩
  case round =>
    clear HS0
    obtain ⟨p, u, v8, hpg, hun, rfl, rfl, ⟨u10, rfl⟩, ⟨u11, rfl⟩, ⟨u12, rfl⟩, HS⟩ := hrel
    have hxs : 0 ≤ (x : Int) ∧ (x : Int) < R + N := by have := HV.out.2.1; omega
    have HON : Hid (On l (x : Int) (z : Int) (u : Int)) := HS.out.2.2.on HV.out.1 (by rw [HTZ.out]; exact hzz)
    have hpl : p.length ≤ n := way_len HV.out.1 HV.out.2.1 ⟨by omega, HV.out.2.2.1⟩ (by rw [HTZ.out]; exact hzz) HS.out.2.2
    have u0 : (0 : Int) ≤ (u : Int) := by omega
    have u1 : (u : Int) < (n : Int) := by omega
    by_cases huz : u = z
    · have HQ : Hid (PaR l (x : Int) (z : Int) n p) := .inl ⟨⟨y0, y1, by rw [HTZ.out]; exact hzz⟩, by have := HS.out.2.2; rw [huz] at this; exact this⟩
      have HRI := Lib.hid (rdi_own HS.out.1)
      have HBF := Lib.hid (below_then HB1.out HS.out.2.1)
      clear HS HON
      subst huz
      go_wp2
      go_ret
      exact ⟨_, p, rfl, HQ.out, HRI.out, HBF.out⟩
    · have q1 : ((u : Int) != (z : Int)) = true := by simp; omega
      have HEX : Hid (∃ v : Int, Nxt l (x : Int) (z : Int) (u : Int) v) := Nxt.ex HV.out.1 hxs HON.out (by omega)
      have HW := Lib.hid HS.out.2.1
      go_wp2_with fail
      have HI0 : Hid (Below w1.heap.size w1 wr ∧ wr.ownsRow w1.heap.size 3 1 v8 p.length (ints p) ∧ ∀ y : Nat, y < 0 → ¬ (On l (x : Int) (z : Int) (y : Int) ∧ Par l (x : Int) (y : Int) (u : Int))) := ⟨HS.out.2.1, HS.out.1, fun y h => by omega⟩
      have HWY := Lib.hid HS.out.2.2
      clear HS HW
      go_loopg [9, 10, 11, 12] n (fun g s9 s10 s11 s12 wr => ∃ v : Nat, v ≤ n ∧ n - v ≤ g ∧ s9 = .int .i64 (u : Int) ∧ s10 = .int .i64 (v : Int) ∧ (∃ q, q = s11) ∧ (∃ q, q = s12) ∧ Hid (Below w1.heap.size w1 wr ∧ wr.ownsRow w1.heap.size 3 1 v8 p.length (ints p) ∧ ∀ y : Nat, y < v → ¬ (On l (x : Int) (z : Int) (y : Int) ∧ Par l (x : Int) (y : Int) (u : Int))))
      case atStart => exact ⟨0, by omega, by omega, rfl, rfl, ⟨_, rfl⟩, ⟨_, rfl⟩, HI0⟩
      case round =>
        clear HI0
        obtain ⟨v, hvn', hvg, rfl, rfl, ⟨u11, rfl⟩, ⟨u12, rfl⟩, HI⟩ := hrel
        by_cases hvl : v < n
        · have v0 : (0 : Int) ≤ (v : Int) := by omega
          have v1 : (v : Int) < (n : Int) := by omega
          have hbx := (HI.out.1.block _ (lt_block HO1.out)).trans HO1.out
          have g0 : wr.cell? ⟨w.heap.size, 0, none⟩ = some (.int .i64 R) := cell_of hbx rfl
          have g1 : wr.cell? ⟨w.heap.size, 1, none⟩ = some (.int .i64 N) := cell_of hbx rfl
          have g2 : wr.cell? ⟨w.heap.size, 2, none⟩ = some (.slice ad L cap) := cell_of hbx rfl
          clear hbx
          go_wp2_with fail
          go_at_call 25
          refine (HCo.out _ _ wr (below_then HB1.out HI.out.1)).mono ?_
          rintro e w4 ⟨rfl, hb4⟩
          have HI4 : Hid (Below w1.heap.size w1 w4 ∧ w4.ownsRow w1.heap.size 3 1 v8 p.length (ints p) ∧ ∀ y : Nat, y < v → ¬ (On l (x : Int) (z : Int) (y : Int) ∧ Par l (x : Int) (y : Int) (u : Int))) :=
            ⟨below_then HI.out.1 hb4, row_congr HI.out.2.1 fun g hg => hb4.block g (row_lt HI.out.2.1 hg).2, HI.out.2.2⟩
          have hcs := cstF_small HV.out.1 (u : Int) (v : Int)
          have hs1 := HSM.out x hxn u hun
          have hs2 := HSM.out v hvl z hzn
          obtain ⟨c1, c2⟩ := HRX.out _ HI4.out.1
          have c3 := c2 u hun
          have c4 := c2 z hzn
          obtain ⟨gv, pv, cv, hcv, hrv⟩ := HROW.out v hvl
          obtain ⟨d1, d2⟩ := hrv _ HI4.out.1
          have d3 := d2 z hzn
          have HMI : Hid ((On l (x : Int) (z : Int) (v : Int) ∧ Par l (x : Int) (v : Int) (u : Int)) ↔ ((cstF (u : Int) (v : Int) l).2 = true ∧ 0 ≤ T l (v : Int) (z : Int) ∧ T l (x : Int) (u : Int) + (cstF (u : Int) (v : Int) l).1 + T l (v : Int) (z : Int) = T l (x : Int) (z : Int))) := by
            rw [next_iff HV.out.1 HON.out.1]
            constructor
            · rintro ⟨c, he, h1, h2⟩
              obtain ⟨a1, a2⟩ := (cstF_iff HV.out.1).1 he
              exact ⟨a1, h1, by rw [a2]; exact h2⟩
            · rintro ⟨h1, h2, h3⟩
              exact ⟨_, cstF_mem h1, h2, h3⟩
          have ht0 : 0 ≤ T l (x : Int) (u : Int) := HON.out.1
          clear g0 g1 g2 c2 d2 hrv hb4 HI
          rw [HTZ.out] at c4 HMI
          generalize T l (x : Int) (u : Int) = tu at *
          generalize T l (v : Int) (z : Int) = tv at *
          generalize (cstF (u : Int) (v : Int) l).1 = cc at *
          generalize (cstF (u : Int) (v : Int) l).2 = cb at *
          have HNX : Hid (¬ (On l (x : Int) (z : Int) (v : Int) ∧ Par l (x : Int) (v : Int) (u : Int)) → ∀ y : Nat, y < v + 1 → ¬ (On l (x : Int) (z : Int) (y : Int) ∧ Par l (x : Int) (y : Int) (u : Int))) := fun h y hy => by
            by_cases e : y = v
            · subst e; exact h
            · exact HI4.out.2.2 y (by omega)
          cases cb with
          | false =>
            have HN1 := Lib.hid (HNX.out (fun h => by have := (HMI.out.1 h).1; cases this))
            clear HNX HMI
            go_wp2_with fail
            go_quiet (fail)
            go_wp2_with fail
            go_roundg (n - (v + 1))
            case measure => omega
            case rel => exact ⟨v + 1, by omega, Nat.le_refl _, rfl, by go_num, ⟨_, rfl⟩, ⟨_, rfl⟩, below_drewN HI4.out.1 _, row_congr HI4.out.2.1 fun _ _ => rfl, HN1.out⟩
          | true =>
            by_cases htv : 0 ≤ tv
            · have z4 : decide (0 ≤ tv) = true := decide_eq_true htv
              by_cases hsum : tu + cc + tv = tz
              · have z5 : (tu + cc + tv == tz) = true := by simpa using hsum
                have HNN : Hid (Nxt l (x : Int) (z : Int) (u : Int) (v : Int)) := ⟨HMI.out.2 (by refine ⟨?_, htv, hsum⟩; first | rfl | trivial), fun y h1 h2 => by
                  have hy := h1.node HV.out.1 hxs
                  refine Int.not_lt.1 fun hlt => ?_
                  obtain ⟨y, rfl⟩ : ∃ y' : Nat, y = y' := ⟨y.toNat, by omega⟩
                  exact HI4.out.2.2 y (by omega) ⟨h1, h2⟩⟩
                have HW2 := Lib.hid (SP.Way.more HWY.out (by omega) HNN.out)
                have hpl2 : p.length + 1 ≤ n := by
                  have := way_len HV.out.1 HV.out.2.1 ⟨by omega, HV.out.2.2.1⟩ (by rw [HTZ.out]; exact hzz) HW2.out
                  rw [List.length_append, List.length_singleton] at this; exact this
                have HO4 := Lib.hid HI4.out.2.1
                have HB4 := Lib.hid HI4.out.1
                clear HMI HNX HI4 HEX HWY HON HNN
                subst hsum
                go_wp2_with fail
                go_quiet (fail)
                go_wp2_with (at_builtin; refine wpList_append_lies _ rfl (.tmp 91) (.tmp 93) 25 rfl w1.heap.size 3 i0 (.int .i64 0) 1 8 Try.underlying25 hi hz0 hz1 hz2 rfl (by decide) v8 p.length (ints p) rfl ((row_congr HO4.out (w' := w4.drewN nq) fun _ _ => rfl).alloc _) ⟨w4.heap.size, 0, none⟩ 1 1 [.int .i64 (v : Int)] rfl rfl (cell_one_new _ _ _ rfl) (one_int _) (by decide) (by unfold maxLen; omega) (by omega) (by have := HB4.out.size; simp; omega) _ rfl ?_; intro g cap' w5 h1 h2 h3 h4; have HA1 := Lib.hid h1; have HA2 : Hid (Below w1.heap.size w1 w5) := ((below_then (below_drewN HB4.out nq) (below_alloc _ _)).grown h2 (by have := HB4.out.size; simp; omega) (fun k hk => (row_lt HO4.out hk).1)); clear h1 h2 h3 h4)
                go_roundg (n - (p.length + 1))
                case measure => omega
                case rel => exact ⟨p ++ [(v : Int)], v, _, by rw [List.length_append, List.length_singleton]; omega, hvl, rfl, rfl, ⟨_, rfl⟩, ⟨_, rfl⟩, ⟨_, rfl⟩, by rw [List.length_append, List.length_singleton, show ints (p ++ [(v : Int)]) = ints p ++ [.int .i64 (v : Int)] from by simp [ints]]; exact HA1.out, HA2.out, HW2.out⟩
              · have z5 : (tu + cc + tv == tz) = false := by simpa using hsum
                have HN1 := Lib.hid (HNX.out (fun h => hsum (HMI.out.1 h).2.2))
                clear HNX HMI
                go_wp2_with fail
                go_quiet (fail)
                go_wp2_with fail
                go_roundg (n - (v + 1))
                case measure => omega
                case rel => exact ⟨v + 1, by omega, Nat.le_refl _, rfl, by go_num, ⟨_, rfl⟩, ⟨_, rfl⟩, below_drewN HI4.out.1 _, row_congr HI4.out.2.1 fun _ _ => rfl, HN1.out⟩
            · have z4 : decide (0 ≤ tv) = false := decide_eq_false htv
              have HN1 := Lib.hid (HNX.out (fun h => htv (HMI.out.1 h).2.1))
              clear HNX HMI
              go_wp2_with fail
              go_quiet (fail)
              go_wp2_with fail
              go_roundg (n - (v + 1))
              case measure => omega
              case rel => exact ⟨v + 1, by omega, Nat.le_refl _, rfl, by go_num, ⟨_, rfl⟩, ⟨_, rfl⟩, below_drewN HI4.out.1 _, row_congr HI4.out.2.1 fun _ _ => rfl, HN1.out⟩
        · obtain ⟨v', hv'⟩ := HEX.out
          have hnd := hv'.1.1.node HV.out.1 hxs
          have hnn := HV.out.2.1
          obtain ⟨v', rfl⟩ : ∃ y : Nat, v' = y := ⟨v'.toNat, by omega⟩
          exact absurd hv'.1 (HI.out.2.2 v' (by omega))
end Go.Proofs.Ytmlpbhankgojpaa
