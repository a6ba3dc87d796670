/-
  The walk of the law that reached nodes reach on.
-/
import Derived.Test.YtiodpgannelgpaaGrP
namespace Go.Proofs.Ytiodpgannelgpaa
open Go.RowKit GM Go.Sort
set_option linter.unusedSimpArgs false
set_option linter.unusedVariables false
set_option maxHeartbeats 4000000
set_option maxRecDepth 100000

theorem follows_bad (R N : Int) (l : List E) (s : Value) (x : Int) (w : World) (hR : I64 R) (hN : I64 N) (hr : Rd3 w s l) (hb : ¬ (chk R N l = 0 ∧ isN R N x = true)) :
    Calls Try.prog 10 #[.agg #[.int .i64 R, .int .i64 N, s], .int .i64 x] w fun e w' => e = .returned (.bool true) ∧ Below w.heap.size w w' := by
  have HRE : Hid (∀ W, Below w.heap.size w W → Calls Try.prog 35 #[.agg #[.int .i64 R, .int .i64 N, s], .int .i64 x] W fun e w' => e = .returned (.slice none 0 0) ∧ Below W.heap.size W w') := fun W hW => reach_bad R N l s x W hR hN (hr.below hW) hb
  obtain ⟨ad, cap, rfl⟩ := rd3_slice hr
  clear hr hb hR hN
  go_enter Try.func10, Try.ntmps10
  go_wp2_with fail
  go_at_call 35
  refine (HRE.out _ (below_alloc _ _)).mono ?_
  rintro e w1 ⟨rfl, hb1⟩
  have B1 := Lib.hid (below_then (below_alloc _ _) hb1)
  clear hb1
  go_wp2_with (go_at_call 19; refine (lives_any _).mono ?_; rintro e w2 ⟨rfl, hb2⟩; have B2 := Lib.hid hb2; clear hb2)
  go_ret
  exact ⟨rfl, below_then B1.out B2.out⟩
theorem follows_good (R N : Int) (l : List E) (s : Value) (x : Nat) (w : World) (hR : I64 R) (hN : I64 N) (hr : Rd3 w s l) (hF : FitT l) (hq : chk R N l = 0) (hx : isN R N (x : Int) = true) :
    Calls Try.prog 10 #[.agg #[.int .i64 R, .int .i64 N, s], .int .i64 (x : Int)] w fun e w' => e = .returned (.bool true) ∧ Below w.heap.size w w' := by
  have hv := chk_iff.1 hq
  obtain ⟨n, hn⟩ : ∃ n : Nat, R + N = (n : Int) := ⟨(R + N).toNat, by have := hv.r; have := hv.n; omega⟩
  have hn8 : n ≤ 128 := by have := hv.s; omega
  have hL : l.length ≤ 1024 := hv.len
  have hxn : x < n := by have := of_decide_eq_true hx; omega
  have hin := valid_inside hv
  have hnn : (R + N).toNat = n := by omega
  rw [hnn] at hin
  have hRN : IntKind.i64.wrap (R + N) = (n : Int) := by rw [hn]; exact IntWalk.i64_in _ (by omega)
  have HRE : Hid (∀ W, Below w.heap.size w W → Calls Try.prog 35 #[.agg #[.int .i64 R, .int .i64 N, s], .int .i64 (x : Int)] W fun e w' => ∃ v m, e = .returned v ∧ RdB w' v m ∧ IsReach n l x m ∧ Below W.heap.size W w') := fun W hW => by
    have := reach_good R N l s x W hR hN (hr.below hW) hq hx
    rwa [hnn] at this
  have H17 : Hid (∀ W, Below w.heap.size w W → Calls Try.prog 17 #[.agg #[.int .i64 R, .int .i64 N, s]] W fun e w' => e = .returned (.int .i64 0) ∧ Below W.heap.size W w') := fun W hW => by rw [← hq]; exact check_any R N s l W hR hN (hr.below hW)
  have H18 : Hid (∀ W, Below w.heap.size w W → Calls Try.prog 18 #[.agg #[.int .i64 R, .int .i64 N, s]] W fun e w' => e = .returned (.int .i64 0) ∧ Below W.heap.size W w') := fun W hW => by rw [← hq]; exact rcheck_any R N s l W hR hN (hr.below hW) hF
  obtain ⟨ad, cap, rfl, hcap1, hcap2, hc⟩ := hr
  have HC := Lib.hid hc
  have HI := Lib.hid hin
  obtain ⟨L, hLL⟩ : ∃ L, l.length = L := ⟨_, rfl⟩
  rw [hLL] at hcap1 hL HRE H17 H18 ⊢
  have HLN := Lib.hid hLL
  clear hc hin hv hnn hF hq hx hR hN hLL hn
  go_enter Try.func10, Try.ntmps10
  go_wp2_with fail
  go_at_call 35
  refine (HRE.out _ (below_alloc _ _)).mono ?_
  rintro e w1 ⟨v, m, rfl, hrb, hrr, hb1⟩
  obtain ⟨rad, rcap, rfl, hr1, hr2, hrc⟩ := hrb
  have hml := hrr.len
  rw [hml] at hr1 ⊢
  obtain ⟨rb, ro, rfl, hrl, hrx⟩ := hrc x (mkd m x) (mk_get (by omega))
  rw [hrr.here] at hrx
  have HRC := Lib.hid hrc
  have HRR := Lib.hid hrr
  have X1 : w1.heap[w.heap.size]? = some (.cells #[.int .i64 R, .int .i64 N, .slice ad L cap] 24 (0, 0)) := (hb1.block _ (by simp)).trans (heap_alloc_new _ _)
  have B1 := Lib.hid (below_then (below_alloc _ _) hb1)
  have HX1 := Lib.hid X1
  have g0 : w1.cell? ⟨w.heap.size, 0, none⟩ = some (.int .i64 R) := cell_of X1 rfl
  have g1 : w1.cell? ⟨w.heap.size, 1, none⟩ = some (.int .i64 N) := cell_of X1 rfl
  have g2 : w1.cell? ⟨w.heap.size, 2, none⟩ = some (.slice ad L cap) := cell_of X1 rfl
  have HRX := Lib.hid hrx
  clear hb1 X1 hrc hrr hml hrx
  go_wp2_with fail
  go_at_call 17
  refine (H17.out _ B1.out).mono ?_
  rintro e w2 ⟨rfl, hb2⟩
  have g0' := carry hb2 g0
  have g1' := carry hb2 g1
  have g2' := carry hb2 g2
  have B2 := Lib.hid (below_then B1.out hb2)
  have HB2 := Lib.hid hb2
  clear g0 g1 g2 hb2
  go_wp2_with fail
  go_at_call 18
  refine (H18.out _ B2.out).mono ?_
  rintro e w3 ⟨rfl, hb3⟩
  have h0 := carry hb3 g0'
  have h1 := carry hb3 g1'
  have h2 := carry hb3 g2'
  have hx3 := carry hb3 (carry HB2.out HRX.out)
  have B3 := Lib.hid (below_then B2.out hb3)
  have HB3 := Lib.hid (below_then HB2.out hb3)
  clear g0' g1' g2' hb3
  go_wp2_with fail
  go_loopg [6] L (fun g s6 wr => ∃ k : Nat, k ≤ L ∧ L - k ≤ g ∧ s6 = .int .i64 (k : Int) ∧ w3 = wr)
  case atStart => exact ⟨0, by omega, by omega, rfl, rfl⟩
  case round =>
    obtain ⟨k, hk, hkg, rfl, rfl⟩ := hrel
    by_cases hlt : k < L
    · obtain ⟨e, he⟩ : ∃ y, l[k]? = some y := ⟨_, List.getElem?_eq_getElem (by have := HLN.out; omega)⟩
      obtain ⟨b, off, rfl, hbl, c0, c1, c2⟩ := HC.out k e he
      have d0 := carryB B3.out hbl c0
      have d1 := carryB B3.out hbl c1
      have hine := HI.out e (List.mem_of_getElem? he)
      have hcl := HRR.out.cl e (List.mem_of_getElem? he)
      obtain ⟨a, y, z⟩ := e
      dsimp only at d0 d1 hine hcl
      obtain ⟨a, rfl⟩ := Int.eq_ofNat_of_zero_le hine.1.1
      obtain ⟨y, rfl⟩ := Int.eq_ofNat_of_zero_le hine.2.1
      have han : a < n := by have := hine.1.2; omega
      have hyn : y < n := by have := hine.2.2; omega
      simp only [Int.toNat_natCast] at hcl
      obtain ⟨rb', ro', e1, _, ca⟩ := HRC.out a (mkd m a) (mk_get (by have := HRR.out.len; omega))
      cases e1
      obtain ⟨rb', ro', e1, _, cy⟩ := HRC.out y (mkd m y) (mk_get (by have := HRR.out.len; omega))
      cases e1
      have ca' := carry HB3.out ca
      have cy' := carry HB3.out cy
      clear c0 c1 c2 hine he ca cy
      have k1 : (k : Int) < (L : Int) := by omega
      cases hma : mkd m a
      · rw [hma] at ca'
        clear hcl hma cy'
        go_wp2_with fail
        go_roundg (L - (k + 1))
        case measure => omega
        case rel => exact ⟨k + 1, by omega, Nat.le_refl _, by go_num, rfl⟩
      · rw [hma] at ca'
        rw [hcl hma] at cy'
        clear hcl hma
        go_wp2_with fail
        go_roundg (L - (k + 1))
        case measure => omega
        case rel => exact ⟨k + 1, by omega, Nat.le_refl _, by go_num, rfl⟩
    · have k1 : decide ((k : Int) < (L : Int)) = false := decide_eq_false (by omega)
      go_wp2_with (go_at_call 19; refine (lives_any _).mono ?_; rintro e w4 ⟨rfl, hb4⟩; have B4 := Lib.hid hb4; clear hb4)
      go_ret
      exact ⟨rfl, below_then B3.out B4.out⟩
theorem follows_walk (R N : Int) (l : List E) (s : Value) (x : Int) (w : World) (hR : I64 R) (hN : I64 N) (hr : Rd3 w s l) (hF : FitT l) (hx : I64 x) :
    Calls Try.prog 10 #[.agg #[.int .i64 R, .int .i64 N, s], .int .i64 x] w fun e w' => e = .returned (.bool true) ∧ Below w.heap.size w w' := by
  by_cases hb : chk R N l = 0 ∧ isN R N x = true
  · obtain ⟨x, rfl⟩ := Int.eq_ofNat_of_zero_le (of_decide_eq_true hb.2).1
    exact follows_good R N l s x w hR hN hr hF hb.1 hb.2
  · exact follows_bad R N l s x w hR hN hr hb
end Go.Proofs.Ytiodpgannelgpaa
