/-
  The walks of the reference's Reach and SameBools, and of the law on Reach.
-/
import Derived.Test.YtiodpgannelgpaaGrP
import Derived.Test.YtiodpgannelgpaaGrRP
namespace Go.Proofs.Ytiodpgannelgpaa
open Go.RowKit GM Go.Sort
set_option linter.unusedSimpArgs false
set_option linter.unusedVariables false
set_option maxHeartbeats 4000000
set_option maxRecDepth 100000

structure RSt (w0 : World) (R N : Int) (s : Value) (G B : Nat) (m : List Bool) (w : World) : Prop where
  b : Below w0.heap.size w0 w
  g : w.heap[G]? = some (.cells #[.int .i64 R, .int .i64 N, s] 24 (0, 0))
  row : w.heap[B]? = some (.cells (bools m).toArray 4 (0, 0))
theorem RSt.mark {w0 w : World} {R N : Int} {s : Value} {G B : Nat} {m : List Bool} (h : RSt w0 R N s G B m w) (hB : w0.heap.size ≤ B) (h2 : G ≠ B) (i : Nat) : RSt w0 R N s G B (m.set i true) (w.setCell ⟨B, i, none⟩ (.bool true)) :=
  ⟨h.b.setCell hB _, (heap_set_ne h2).trans h.g, by rw [heap_set_eq h.row, bools_set]⟩
theorem rreach_bad (R N : Int) (l : List E) (s : Value) (x : Int) (w : World) (hR : I64 R) (hN : I64 N) (hr : Rd3 w s l) (hF : FitT l) (hx : I64 x) (hb : ¬ (chk R N l = 0 ∧ isN R N x = true)) :
    Calls Try.prog 36 #[.agg #[.int .i64 R, .int .i64 N, s], .int .i64 x] w fun e w' => e = .returned (.slice none 0 0) ∧ Below w.heap.size w w' := by
  have HC : Hid (∀ W, Below w.heap.size w W → Calls Try.prog 18 #[.agg #[.int .i64 R, .int .i64 N, s]] W fun e w' => e = .returned (.int .i64 (chk R N l)) ∧ Below W.heap.size W w') := fun W hW => rcheck_any R N s l W hR hN (hr.below hW) hF
  obtain ⟨ad, cap, rfl⟩ := rd3_slice hr
  clear hr hF
  by_cases hq : chk R N l = 0
  · have hv := chk_iff.1 hq
    have hx' : isN R N x = false := by
      cases h : isN R N x
      · rfl
      · exact absurd ⟨hq, h⟩ hb
    have HN : Hid (∀ s W, Calls Try.prog 64 #[.agg #[.int .i64 R, .int .i64 N, s], .int .i64 x] W fun e w' => e = .returned (.bool false) ∧ Below W.heap.size W w') := fun s W => by rw [← hx']; exact node_any R N s x W hv.r hv.n hv.s hx
    rw [hq] at HC
    clear hb hq hv hx' hx hR hN
    go_enter Try.func36, Try.ntmps36
    go_wp2_with fail
    go_at_call 18
    refine (HC.out _ (below_alloc _ _)).mono ?_
    rintro e w1 ⟨rfl, hb1⟩
    have X1 : w1.heap[w.heap.size]? = some (.cells #[.int .i64 R, .int .i64 N, .slice ad l.length cap] 24 (0, 0)) := (hb1.block _ (by simp)).trans (heap_alloc_new _ _)
    have g0 : w1.cell? ⟨w.heap.size, 0, none⟩ = some (.int .i64 R) := cell_of X1 rfl
    have g1 : w1.cell? ⟨w.heap.size, 1, none⟩ = some (.int .i64 N) := cell_of X1 rfl
    have g2 : w1.cell? ⟨w.heap.size, 2, none⟩ = some (.slice ad l.length cap) := cell_of X1 rfl
    have B1 := Lib.hid (below_then (below_alloc _ _) hb1)
    clear hb1 X1
    go_wp2_with (go_at_call 64; refine (HN.out _ _).mono ?_; rintro e w2 ⟨rfl, hb2⟩; have B2 := Lib.hid hb2; clear hb2)
    go_ret
    exact ⟨rfl, below_then B1.out B2.out⟩
  · generalize chk R N l = q at *
    have hq1 : (q == 0) = false := by simpa using hq
    have hq2 : (q != 0) = true := by simpa using hq
    clear hq hb hx hR hN
    go_enter Try.func36, Try.ntmps36
    go_wp2_with (go_at_call 18; refine (HC.out _ (below_alloc _ _)).mono ?_; rintro e w1 ⟨rfl, hb1⟩; have B1 := Lib.hid hb1; clear hb1)
    go_ret
    exact ⟨rfl, below_then (below_alloc _ _) B1.out⟩
theorem rreach_good (R N : Int) (l : List E) (s : Value) (x : Nat) (w : World) (hR : I64 R) (hN : I64 N) (hr : Rd3 w s l) (hF : FitT l) (hq : chk R N l = 0) (hx : isN R N (x : Int) = true) :
    Calls Try.prog 36 #[.agg #[.int .i64 R, .int .i64 N, s], .int .i64 (x : Int)] w fun e w' => ∃ v m, e = .returned v ∧ RdB w' v m ∧ IsReach (R + N).toNat l x m ∧ Below w.heap.size w w' := by
  have hv := chk_iff.1 hq
  obtain ⟨n, hn⟩ : ∃ n : Nat, R + N = (n : Int) := ⟨(R + N).toNat, by have := hv.r; have := hv.n; omega⟩
  have hn8 : n ≤ 128 := by have := hv.s; omega
  have hxn : x < n := by have := of_decide_eq_true hx; omega
  have hL : l.length ≤ 1024 := hv.len
  have hin := valid_inside hv
  have hnn : (R + N).toNat = n := by omega
  rw [hnn] at hin ⊢
  have hRN : IntKind.i64.wrap (R + N) = (n : Int) := by rw [hn]; exact IntWalk.i64_in _ (by omega)
  have HC : Hid (∀ W, Below w.heap.size w W → Calls Try.prog 18 #[.agg #[.int .i64 R, .int .i64 N, s]] W fun e w' => e = .returned (.int .i64 0) ∧ Below W.heap.size W w') := fun W hW => by rw [← hq]; exact rcheck_any R N s l W hR hN (hr.below hW) hF
  have HN : Hid (∀ s W, Calls Try.prog 64 #[.agg #[.int .i64 R, .int .i64 N, s], .int .i64 (x : Int)] W fun e w' => e = .returned (.bool true) ∧ Below W.heap.size W w') := fun s W => by rw [← hx]; exact node_any R N s x W hv.r hv.n hv.s (by unfold I64; omega)
  have hmk := make_bools n hn8
  have HXN := Lib.hid (And.intro hxn hn8)
  obtain ⟨ad, cap, rfl, hcap1, hcap2, hc⟩ := hr
  have HCE := Lib.hid hc
  have HI := Lib.hid hin
  obtain ⟨L, hLL⟩ : ∃ L, l.length = L := ⟨_, rfl⟩
  rw [hLL] at hL hcap1 HC ⊢
  have HLN := Lib.hid hLL
  clear hq hx hv hin hnn hR hN hn hc hF hLL
  go_enter Try.func36, Try.ntmps36
  go_wp2_with fail
  go_at_call 18
  refine (HC.out _ (below_alloc _ _)).mono ?_
  rintro e w1 ⟨rfl, hb1⟩
  have X1 : w1.heap[w.heap.size]? = some (.cells #[.int .i64 R, .int .i64 N, .slice ad L cap] 24 (0, 0)) := (hb1.block _ (by simp)).trans (heap_alloc_new _ _)
  have g0 : w1.cell? ⟨w.heap.size, 0, none⟩ = some (.int .i64 R) := cell_of X1 rfl
  have g1 : w1.cell? ⟨w.heap.size, 1, none⟩ = some (.int .i64 N) := cell_of X1 rfl
  have g2 : w1.cell? ⟨w.heap.size, 2, none⟩ = some (.slice ad L cap) := cell_of X1 rfl
  have B1 := Lib.hid (below_then (below_alloc _ _) hb1)
  have HX1 := Lib.hid X1
  clear hb1 X1
  go_wp2_with fail
  go_at_call 64
  refine (HN.out _ _).mono ?_
  rintro e w2 ⟨rfl, hb2⟩
  have HX2 := Lib.hid ((hb2.block _ (lt_block HX1.out)).trans HX1.out)
  have g0' : w2.cell? ⟨w.heap.size, 0, none⟩ = some (.int .i64 R) := cell_of HX2.out rfl
  have g1' : w2.cell? ⟨w.heap.size, 1, none⟩ = some (.int .i64 N) := cell_of HX2.out rfl
  have B2 := Lib.hid (below_then B1.out hb2)
  have HZ2 := Lib.hid (lt_block HX2.out)
  clear hb2 g0 g1 g2
  have hrow : (w2.alloc (.cells (bools (List.replicate n false)).toArray 4)).heap[w2.heap.size]? = some (.cells (bools (List.replicate n false)).toArray 4 (0, 0)) := heap_alloc_new _ _
  have dx : (w2.alloc (.cells (bools (List.replicate n false)).toArray 4)).cell? ⟨w2.heap.size, x, none⟩ = some (.bool (mkd (List.replicate n false) x)) := cell_of hrow (bools_get (by simpa using hxn))
  have fx : (w2.alloc (.cells (bools (List.replicate n false)).toArray 4)).frozen? ⟨w2.heap.size, x, none⟩ = false := free_of hrow _
  have HST : Hid (RSt w R N (.slice ad L cap) w.heap.size w2.heap.size (List.replicate n false) (w2.alloc (.cells (bools (List.replicate n false)).toArray 4))) := ⟨below_then B2.out (below_alloc _ _), (Below.heap_alloc _ _ _ HZ2.out).trans HX2.out, hrow⟩
  clear hrow
  go_wp2_with fail
  have HEQ : (bools (List.replicate n false)).set x (.bool true) = bools ((List.replicate n false).set x true) := by simp only [bools, List.map_set]
  rw [HEQ]
  have HS1 : Hid (RSt w R N (.slice ad L cap) w.heap.size w2.heap.size ((List.replicate n false).set x true) (w2.alloc (.cells (bools ((List.replicate n false).set x true)).toArray 4)) ∧ Psd l x n 0 ((List.replicate n false).set x true)) :=
    ⟨⟨below_then B2.out (below_alloc _ _), (Below.heap_alloc _ _ _ HZ2.out).trans HX2.out, heap_alloc_new _ _⟩, Psd.start HXN.out.1⟩
  clear HEQ
  clear dx fx g0' g1' hmk
  go_loopg [7, 8] n (fun g s7 s8 wr => ∃ (k : Nat) (m : List Bool), k ≤ n ∧ n - k ≤ g ∧ s7 = .int .i64 (k : Int) ∧ (∃ v, v = s8) ∧ Hid (RSt w R N (.slice ad L cap) w.heap.size w2.heap.size m wr ∧ Psd l x n k m))
  case atStart => exact ⟨0, (List.replicate n false).set x true, by omega, by omega, rfl, ⟨_, rfl⟩, HS1⟩
  case round =>
    clear HS1 HST
    obtain ⟨k, m, hk, hkg, rfl, ⟨v8, rfl⟩, HS⟩ := hrel
    by_cases hlt : k < n
    · have HP0 : Hid (Pas l x m m 0) := Pas.start HS.out.2.rch
      have HPS := Lib.hid HS.out.2
      have HR0 := Lib.hid HS.out.1
      clear HS
      go_wp2_with fail
      go_loopg [8] L (fun g s8 wr => ∃ (i : Nat) (m1 : List Bool), i ≤ L ∧ L - i ≤ g ∧ s8 = .int .i64 (i : Int) ∧ Hid (RSt w R N (.slice ad L cap) w.heap.size w2.heap.size m1 wr ∧ Pas l x m m1 i))
      case atStart => exact ⟨0, m, by omega, by omega, rfl, HR0.out, HP0.out⟩
      case round =>
        clear HR0 HP0
        obtain ⟨i, m1, hi, hig, rfl, HT⟩ := hrel
        have g2 : wr.cell? ⟨w.heap.size, 2, none⟩ = some (.slice ad L cap) := cell_of HT.out.1.g rfl
        by_cases hlt2 : i < L
        · obtain ⟨e, he⟩ : ∃ y, l[i]? = some y := ⟨_, List.getElem?_eq_getElem (by have := HLN.out; omega)⟩
          obtain ⟨b, off, rfl, hbl, c0, c1, c2⟩ := HCE.out i e he
          have d0 := carryB HT.out.1.b hbl c0
          have d1 := carryB HT.out.1.b hbl c1
          have hine := HI.out e (List.mem_of_getElem? he)
          have HE := Lib.hid he
          obtain ⟨a, y, z⟩ := e
          dsimp only at d0 d1 hine
          obtain ⟨a, rfl⟩ := Int.eq_ofNat_of_zero_le hine.1.1
          obtain ⟨y, rfl⟩ := Int.eq_ofNat_of_zero_le hine.2.1
          have han : a < n := by have := hine.1.2; omega
          have hyn : y < n := by have := hine.2.2; omega
          have hm1 : m1.length = n := by rw [HT.out.2.len]; exact HPS.out.len
          have ca : wr.cell? ⟨w2.heap.size, a, none⟩ = some (.bool (mkd m1 a)) := cell_of HT.out.1.row (bools_get (by omega))
          have cy : wr.cell? ⟨w2.heap.size, y, none⟩ = some (.bool (mkd m1 y)) := cell_of HT.out.1.row (bools_get (by omega))
          have fy : wr.frozen? ⟨w2.heap.size, y, none⟩ = false := free_of HT.out.1.row _
          have HM1 := Lib.hid hm1
          have k1 : (i : Int) < (L : Int) := by omega
          clear c0 c1 c2 hine he hm1
          cases hma : mkd m1 a
          · rw [hma] at ca
            have HT2 : Hid (RSt w R N (.slice (some ⟨b, off, none⟩) L cap) w.heap.size w2.heap.size m1 wr ∧ Pas l x m m1 (i + 1)) := ⟨HT.out.1, HT.out.2.no HE.out (by simpa using hma)⟩
            clear hma cy fy HT
            go_wp2_with fail
            go_roundg (L - (i + 1))
            case measure => omega
            case rel => exact ⟨i + 1, m1, by omega, Nat.le_refl _, by go_num, HT2.out⟩
          · rw [hma] at ca
            have HT2 : Hid (RSt w R N (.slice (some ⟨b, off, none⟩) L cap) w.heap.size w2.heap.size (m1.set y true) (wr.setCell ⟨w2.heap.size, y, none⟩ (.bool true)) ∧ Pas l x m (m1.set y true) (i + 1)) :=
              ⟨HT.out.1.mark B2.out.size (by have := HZ2.out; omega) y, by have := HT.out.2.yes HI.out HM1.out HE.out (by simpa using hma); simpa using this⟩
            clear hma HT
            go_wp2_with fail
            go_roundg (L - (i + 1))
            case measure => omega
            case rel => exact ⟨i + 1, m1.set y true, by omega, Nat.le_refl _, by go_num, HT2.out⟩
        · have hiL : i = L := by omega
          have HT2 : Hid (RSt w R N (.slice ad L cap) w.heap.size w2.heap.size m1 wr ∧ Psd l x n (k + 1) m1) := ⟨HT.out.1, HPS.out.next HI.out (by have := HT.out.2; rw [hiL, ← HLN.out] at this; exact this)⟩
          have k1 : decide ((i : Int) < (L : Int)) = false := decide_eq_false (by omega)
          clear HT hiL
          go_wp2_with fail
          go_roundg (n - (k + 1))
          case measure => omega
          case rel => exact ⟨k + 1, m1, by omega, Nat.le_refl _, by go_num, ⟨_, rfl⟩, HT2.out⟩
    · have hkn : k = n := by omega
      have HF : Hid (IsReach n l x m) := Psd.final (by have := HS.out.2; rwa [hkn] at this)
      have k1 : decide ((k : Int) < (n : Int)) = false := decide_eq_false (by omega)
      clear hkn
      go_wp2
      go_ret
      exact ⟨_, m, rfl, rdB_row HF.out.len HXN.out.2 HS.out.1.row, HF.out, HS.out.1.b⟩
theorem rreach_any (R N : Int) (l : List E) (s : Value) (x : Int) (w : World) (hR : I64 R) (hN : I64 N) (hr : Rd3 w s l) (hF : FitT l) (hx : I64 x) :
    Calls Try.prog 36 #[.agg #[.int .i64 R, .int .i64 N, s], .int .i64 x] w fun e w' => ∃ v m, e = .returned v ∧ RdB w' v m ∧ ReachP R N l x m ∧ Below w.heap.size w w' := by
  by_cases hb : chk R N l = 0 ∧ isN R N x = true
  · obtain ⟨x, rfl⟩ := Int.eq_ofNat_of_zero_le (of_decide_eq_true hb.2).1
    refine (rreach_good R N l s x w hR hN hr hF hb.1 hb.2).mono ?_
    rintro e w' ⟨v, m, rfl, h1, h2, h3⟩
    exact ⟨v, m, rfl, h1, by unfold ReachP; rw [if_pos hb]; exact h2, h3⟩
  · refine (rreach_bad R N l s x w hR hN hr hF hx hb).mono ?_
    rintro e w' ⟨rfl, h3⟩
    exact ⟨_, [], rfl, rdB_nil _, by unfold ReachP; rw [if_neg hb], h3⟩
/-- equal lists of truth values -/
theorem sameBools_any (m : List Bool) (v u : Value) (w : World) (hv : RdB w v m) (hu : RdB w u m) : Calls Try.prog 34 #[v, u] w fun e w' => e = .returned (.bool true) ∧ Below w.heap.size w w' := by
  obtain ⟨va, vc, rfl, v1, v2, hvc⟩ := hv
  obtain ⟨ua, uc, rfl, u1, u2, huc⟩ := hu
  obtain ⟨L, hL⟩ : ∃ L, m.length = L := ⟨_, rfl⟩
  rw [hL] at v1 u1 ⊢
  have HL := Lib.hid hL
  have HV := Lib.hid hvc
  have HU := Lib.hid huc
  have hL2 : L ≤ 9223372036854775807 := by omega
  clear hL hvc huc
  have hee : ((L : Int) == (L : Int)) = true := by simp
  have hen : ((L : Int) != (L : Int)) = false := by simp
  go_enter Try.func34, Try.ntmps34
  go_wp2_with fail
  go_loopg [5] L (fun g s5 wr => ∃ k : Nat, k ≤ L ∧ L - k ≤ g ∧ s5 = .int .i64 (k : Int) ∧ Hid (Below w.heap.size w wr))
  case atStart => exact ⟨0, by omega, by omega, rfl, Below.refl _ _⟩
  case round =>
    obtain ⟨k, hk, hkg, rfl, HB⟩ := hrel
    by_cases hlt : k < L
    · obtain ⟨x, hx⟩ : ∃ y, m[k]? = some y := ⟨_, List.getElem?_eq_getElem (by have := HL.out; omega)⟩
      obtain ⟨b, o, rfl, hb, c⟩ := HV.out k x hx
      obtain ⟨b', o', rfl, hb', c'⟩ := HU.out k x hx
      have d := carryB HB.out hb c
      have d' := carryB HB.out hb' c'
      have k0 : (0 : Int) ≤ (k : Int) := by omega
      have k1 : (k : Int) < (L : Int) := by omega
      clear c c' hx
      cases x
      all_goals (
        go_wp2_with fail
        go_quiet (fail)
        go_wp2_with fail
        go_roundg (L - (k + 1))
        case measure => omega
        case rel => exact ⟨k + 1, by omega, Nat.le_refl _, by go_num, below_drewN HB.out _⟩)
    · have k1 : decide ((k : Int) < (L : Int)) = false := decide_eq_false (by omega)
      go_wp2
      go_ret
      exact ⟨rfl, HB.out⟩
theorem ReachP.unique {R N : Int} {l : List E} {x : Int} {m m' : List Bool} (h : ReachP R N l x m) (k : ReachP R N l x m') : m = m' := by
  unfold ReachP at h k
  split at h
  · rename_i hb
    rw [if_pos hb] at k
    exact IsReach.unique (valid_inside (chk_iff.1 hb.1)) h k
  · rename_i hb
    rw [if_neg hb] at k
    rw [h, k]
theorem reaches_walk (R N : Int) (l : List E) (s : Value) (x : Int) (w : World) (hR : I64 R) (hN : I64 N) (hr : Rd3 w s l) (hF : FitT l) (hx : I64 x) :
    Calls Try.prog 7 #[.agg #[.int .i64 R, .int .i64 N, s], .int .i64 x] w fun e w' => e = .returned (.bool true) ∧ Below w.heap.size w w' := by
  have H35 : Hid (∀ W, Below w.heap.size w W → Calls Try.prog 35 #[.agg #[.int .i64 R, .int .i64 N, s], .int .i64 x] W fun e w' => ∃ v m, e = .returned v ∧ RdB w' v m ∧ ReachP R N l x m ∧ Below W.heap.size W w') := fun W hW => reach_any R N l s x W hR hN (hr.below hW)
  have H36 : Hid (∀ W, Below w.heap.size w W → Calls Try.prog 36 #[.agg #[.int .i64 R, .int .i64 N, s], .int .i64 x] W fun e w' => ∃ v m, e = .returned v ∧ RdB w' v m ∧ ReachP R N l x m ∧ Below W.heap.size W w') := fun W hW => rreach_any R N l s x W hR hN (hr.below hW) hF hx
  obtain ⟨ad, cap, rfl⟩ := rd3_slice hr
  clear hr hF hR hN hx
  go_enter Try.func7, Try.ntmps7
  go_wp2_with fail
  go_region_held3 (fun W => W.cell? ⟨w.heap.size, 0, none⟩ = some (.int .i64 R) ∧ W.cell? ⟨w.heap.size, 1, none⟩ = some (.int .i64 N) ∧ W.cell? ⟨w.heap.size, 2, none⟩ = some (.slice ad l.length cap) ∧ Below w.heap.size w W)
    (first | exact ⟨by simp, by simp, by simp, (below_alloc _ _).drew⟩ | assumption)
    (first
      | (go_at_call 35; refine (H35.out _ (by first | exact hk.2.2.2 | exact (below_alloc _ _).drew | exact below_alloc _ _ | exact (‹_ ∧ _› : _).2.2.2)).mono ?_; rintro e w6 ⟨v6, m6, rfl, hrd6, hrp6, hb⟩; have hk6 := holdG_below ‹_› hb; have HR6 := Lib.hid (And.intro hrd6 hrp6); clear hb hrd6 hrp6)
      | (go_at_call 36; refine (H36.out _ hk6.2.2.2).mono ?_; rintro e w7 ⟨v7, m7, rfl, hrd7, hrp7, hb⟩; have hk7 := holdG_below hk6 hb; have HR7 : Hid (RdB w7 v6 m7 ∧ RdB w7 v7 m7) := ⟨ReachP.unique HR6.out.2 hrp7 ▸ HR6.out.1.below hb, hrd7⟩; clear hb hrd7 hrp7)
      | (go_at_call 34; refine (sameBools_any m7 _ _ _ HR7.out.1 HR7.out.2).mono ?_; rintro e w8 ⟨rfl, hb⟩; have hk8 := holdG_below hk7 hb; clear hb)
      | (go_at_call 19; refine (lives_any _).mono ?_; rintro e w9 ⟨rfl, hb⟩; have hk9 := holdG_below hk8 hb; clear hb))
  all_goals go_wp2
  all_goals go_ret
  all_goals exact ⟨by simp, hk9.2.2.2⟩
end Go.Proofs.Ytiodpgannelgpaa
