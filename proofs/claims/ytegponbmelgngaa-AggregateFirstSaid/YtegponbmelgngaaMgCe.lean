/-
  What all proofs over this seat's rows share: how arguments are opened, how they read behind a call that only makes memory.
  The walks of Union, Intersect, Subtract, Normal, of the comparison of lists, of Is and Has.
  The walks of Is, Has and Count.
  The walk of Summary.
-/
import Derived.Test.YtegponbmelgngaaMgSc
import Derived.Test.YtegponbmelgngaaRows
import Derived.ProofKit
import Derived.OpenShut
import Derived.SizedLaws
import Derived.Carry
import Derived.Lib.SmallJoins
import Derived.Deep.Slices
import Derived.Test.YtegponbmelgngaaMgCd
section
namespace Go.Proofs.Ytegponbmelgngaa
set_option maxRecDepth 100000
set_option linter.unusedSimpArgs false
set_option linter.unusedVariables false
open Go.ChangeShapes Go.WideShapes Go.ChangeAt Go.RowKit Go.Joins

theorem own : ownKnob Try.prog.godebug = none := by kernel_rfl
theorem laidOut : laidOutB Try.prog = true := by kernel_rfl
theorem cells26 : Try.prog.cellsOf 26 = 1 := by kernel_rfl
theorem cells3 : Try.prog.cellsOf 3 = 1 := by kernel_rfl
theorem cells28 : Try.prog.cellsOf 28 = 2 := by kernel_rfl

/-- prefixes whose numbers fit -/
def FitL (l : List PP) : Prop := ∀ x ∈ l, x.1 < 4294967296 ∧ I64 x.2
section
variable {H : Type} {enc : TypeId × Value → H} {w : World}
theorem open_prefix {r : Reach} {b0 base : Nat} {spare : Nat → Bool} {held : Bool} {v : Value} {d : DataW H} {p : List MemPlace}
    (hv : Value.okWide Try.prog w r b0 28 v) (h : DataW.Trod enc Try.prog w base spare held 28 v d p) :
    ∃ (a : Nat) (n : Int), v = .agg #[.int .u32 a, .int .i64 n] ∧ a < 4294967296 ∧ I64 n := by
  obtain ⟨c0, c1, y0, y1, m, rfl, rfl, rfl, hy0, hy1⟩ := open_agg2 Try.underlying28 (by kernel_rfl) cells28 hv h
  obtain ⟨a, e0, rfl, wa⟩ := DataW.trod_int Try.underlying26 hy0
  obtain ⟨n, e1, rfl, wn⟩ := DataW.trod_int Try.underlying3 hy1
  simp at e0 e1
  subst e0 e1
  have b0 := bounds_u32 wa
  have b1 := bounds_i64 wn
  obtain ⟨x, rfl⟩ := Int.eq_ofNat_of_zero_le b0.1
  exact ⟨x, n, rfl, by omega, b1⟩
theorem open_addr {r : Reach} {b0 base : Nat} {spare : Nat → Bool} {held : Bool} {v : Value} {d : DataW H} {p : List MemPlace}
    (hv : Value.okWide Try.prog w r b0 26 v) (h : DataW.Trod enc Try.prog w base spare held 26 v d p) : ∃ a : Nat, v = .int .u32 a ∧ a < 4294967296 := by
  obtain ⟨a, rfl, rfl, rfl, wa⟩ := open_int Try.underlying26 hv h
  have b0 := bounds_u32 wa
  obtain ⟨x, rfl⟩ := Int.eq_ofNat_of_zero_le b0.1
  exact ⟨x, rfl, by omega⟩
theorem open_i64 {r : Reach} {b0 base : Nat} {spare : Nat → Bool} {held : Bool} {v : Value} {d : DataW H} {p : List MemPlace} (hv : Value.okWide Try.prog w r b0 3 v) (h : DataW.Trod enc Try.prog w base spare held 3 v d p) :
    ∃ x : Int, v = .int .i64 x ∧ I64 x := by
  obtain ⟨a, rfl, rfl, rfl, wa⟩ := open_int Try.underlying3 hv h
  exact ⟨a, rfl, bounds_i64 wa⟩
theorem trod_prefix {base : Nat} {spare : Nat → Bool} {held : Bool} {n : Nat} {cs : List Value} {x : DataW H × List MemPlace} (h : DataW.trod enc Try.prog w base spare held n 28 cs = some x) :
    ∃ (a : Nat) (m : Int), cs = [.int .u32 (a : Int), .int .i64 m] ∧ a < 4294967296 ∧ I64 m := by
  obtain ⟨y0, y1, n', _, hlen, h0, h1⟩ := trod_struct2 Try.underlying28 h
  rw [cells28] at hlen
  match cs, hlen with
  | [c0, c1], _ =>
    have h0' : DataW.trod enc Try.prog w base spare held n' 26 [c0] = some y0 := h0
    have h1' : DataW.trod enc Try.prog w base spare held n' 3 [c1] = some y1 := h1
    obtain ⟨x, e0, _, wx⟩ := DataW.trod_int Try.underlying26 h0'
    obtain ⟨y, e1, _, wy⟩ := DataW.trod_int Try.underlying3 h1'
    simp at e0 e1
    subst e0 e1
    have b0 := bounds_u32 wx
    obtain ⟨x', rfl⟩ := Int.eq_ofNat_of_zero_le b0.1
    exact ⟨x', y, rfl, by omega, bounds_i64 wy⟩
theorem open_rd {r : Reach} {b0 base : Nat} {spare : Nat → Bool} {held : Bool} {v : Value} {d : DataW H} {p : List MemPlace}
    (hv : Value.okWide Try.prog w r b0 22 v) (h : DataW.Trod enc Try.prog w base spare held 22 v d p) : ∃ l, Rd w v l ∧ FitL l := by
  obtain ⟨a0, len, cap, rfl⟩ := okWide_slice Try.underlying22 hv
  obtain ⟨fuel, hf⟩ := h
  rcases Deep.open_slice Try.underlying22 hf with ⟨hcs, _⟩ | ⟨a, len', cap', m, n, D, Pl, hcs, _, hl, hm, hmm, _, hi⟩
  · simp [Value.cells] at hcs
    obtain ⟨rfl, rfl, rfl⟩ := hcs
    exact ⟨[], rd_nil w, fun x hx => (by cases hx)⟩
  · simp [Value.cells] at hcs
    obtain ⟨rfl, rfl, rfl⟩ := hcs
    have hle : len ≤ m := by rw [hmm]; split <;> omega
    have hx : ∀ i, i < len → ∃ x : PP, (w.cell? (a.add (i * 2)) = some (.int .u32 (x.1 : Int)) ∧ w.cell? (a.add (i * 2 + 1)) = some (.int .i64 x.2)) ∧ x.1 < 4294967296 ∧ I64 x.2 := by
      intro i him
      obtain ⟨cs', hc, ht⟩ := hi i (by omega)
      rw [cells28] at hc
      obtain ⟨_, hlen, hat⟩ := World.cells?_some hc
      obtain ⟨e, f, rfl, h1, h2⟩ := trod_prefix ht
      have k0 := hat 0 (by omega)
      have k1 := hat 1 (by omega)
      refine ⟨(e, f), ⟨?_, ?_⟩, h1, h2⟩
      · rw [Deep.add_add] at k0; exact k0
      · rw [Deep.add_add] at k1; exact k1
    obtain ⟨Vf, hV⟩ := Deep.choose_lt hx
    refine ⟨(List.range len).map Vf, ⟨some a, cap, by simp, fun k x hk => ?_⟩, fun x hx' => ?_⟩
    · have hkl : k < len := by have := (List.getElem?_eq_some_iff.1 hk).1; simpa using this
      have e : x = Vf k := by simpa [hkl] using hk.symm
      subst e
      obtain ⟨⟨c0, c1⟩, _⟩ := hV k hkl
      have hsp : a.spot = none := by simpa [Addr.add] using World.cell?_spot (hV 0 (by omega)).1.1
      obtain ⟨b, off, spot⟩ := a
      obtain rfl : spot = none := hsp
      rw [Addr.add_lit] at c0 c1
      exact ⟨b, off, rfl, World.block_lt_of_cell? _ _ c0, c0, by rw [Nat.add_assoc]; exact c1⟩
    · obtain ⟨i, hi', rfl⟩ := List.mem_map.1 hx'
      exact (hV i (by simpa using hi')).2
theorem trodAll_below {W W' : World} (hb : Below W.heap.size W W') : ∀ {ts : List TypeId} {vs : List Value} {ds : List (DataW H)} {ps : List MemPlace},
    (∀ t ∈ ts, Try.prog.readableRec t = true ∧ t < Try.prog.types.size) → DataW.TrodAll enc Try.prog W 0 (fun _ => true) true ts vs ds ps → (∀ x ∈ ps, x.block < W.heap.size) →
    DataW.TrodAll enc Try.prog W' 0 (fun b => decide (b < W.heap.size)) true ts vs ds ps
  | [], vs, ds, ps, _, h, _ => by
    obtain ⟨rfl, rfl, rfl⟩ := trodAll_nil h
    exact trodAll_mk0
  | t :: ts, vs, ds, ps, hr, h, hlt => by
    obtain ⟨v0, vs0, d0, ds0, p0, q0, rfl, rfl, rfl, h0, r0⟩ := trodAll_cons h
    exact trodAll_cons_mk (Below.trod laidOut (hr t (by simp)).1 (hr t (by simp)).2 h0 hb (fun x hx => hlt x (by simp [hx])))
      (trodAll_below hb (fun t ht => hr t (by simp [ht])) r0 (fun x hx => hlt x (by simp [hx])))
end
end Go.Proofs.Ytegponbmelgngaa
end

section
namespace Go.Proofs.Ytegponbmelgngaa
open Go.RowKit
set_option linter.unusedSimpArgs false
set_option linter.unusedVariables false
set_option maxHeartbeats 4000000
set_option maxRecDepth 100000

def Big (l : List PP) : Prop := l.length ≤ 4294967296
theorem union_any (a b : List PP) (v1 v2 : Value) (w : World) (ha : Big a) (hb : Big b) (fa : FitL a) (fb : FitL b) (hr1 : Rd w v1 a) (hr2 : Rd w v2 b) :
    Calls Try.prog 27 #[v1, v2] w fun e w' => ∃ v B, e = .returned v ∧ CM.Nrm (fun y => (mem a y || mem b y)) B ∧ Rd w' v (B.map pfx) ∧ Below w.heap.size w w' := by
  have H := Lib.hid (combine67_any a b v1 v2 w ha hb fa fb hr1 hr2)
  clear hr1 hr2
  go_enter Try.func27, Try.ntmps27
  go_wp2_with (go_at_call 66; refine H.out.mono ?_; rintro e w1 ⟨v, B, rfl, hB⟩; have HB := Lib.hid hB; clear hB)
  go_ret
  exact ⟨v, B, rfl, HB.out⟩
theorem inter_any (a b : List PP) (v1 v2 : Value) (w : World) (ha : Big a) (hb : Big b) (fa : FitL a) (fb : FitL b) (hr1 : Rd w v1 a) (hr2 : Rd w v2 b) :
    Calls Try.prog 29 #[v1, v2] w fun e w' => ∃ v B, e = .returned v ∧ CM.Nrm (fun y => (mem a y && mem b y)) B ∧ Rd w' v (B.map pfx) ∧ Below w.heap.size w w' := by
  have H := Lib.hid (combine68_any a b v1 v2 w ha hb fa fb hr1 hr2)
  clear hr1 hr2
  go_enter Try.func29, Try.ntmps29
  go_wp2_with (go_at_call 66; refine H.out.mono ?_; rintro e w1 ⟨v, B, rfl, hB⟩; have HB := Lib.hid hB; clear hB)
  go_ret
  exact ⟨v, B, rfl, HB.out⟩
theorem subt_any (a b : List PP) (v1 v2 : Value) (w : World) (ha : Big a) (hb : Big b) (fa : FitL a) (fb : FitL b) (hr1 : Rd w v1 a) (hr2 : Rd w v2 b) :
    Calls Try.prog 31 #[v1, v2] w fun e w' => ∃ v B, e = .returned v ∧ CM.Nrm (fun y => (mem a y && !mem b y)) B ∧ Rd w' v (B.map pfx) ∧ Below w.heap.size w w' := by
  have H := Lib.hid (combine70_any a b v1 v2 w ha hb fa fb hr1 hr2)
  clear hr1 hr2
  go_enter Try.func31, Try.ntmps31
  go_wp2_with (go_at_call 66; refine H.out.mono ?_; rintro e w1 ⟨v, B, rfl, hB⟩; have HB := Lib.hid hB; clear hB)
  go_ret
  exact ⟨v, B, rfl, HB.out⟩
theorem normal_any (a : List PP) (v1 : Value) (w : World) (ha : Big a) (fa : FitL a) (hr1 : Rd w v1 a) :
    Calls Try.prog 21 #[v1] w fun e w' => ∃ v B, e = .returned v ∧ CM.Nrm (mem a) B ∧ Rd w' v (B.map pfx) ∧ Below w.heap.size w w' := by
  have H : Hid (Calls Try.prog 27 #[v1, .slice none 0 0] w fun e w' => ∃ v B, e = .returned v ∧ CM.Nrm (mem a) B ∧ Rd w' v (B.map pfx) ∧ Below w.heap.size w w') := by
    refine (union_any a [] v1 (.slice none 0 0) w ha (by simp [Big]) fa (by intro x hx; cases hx) hr1 (rd_nil w)).mono ?_
    rintro e w' ⟨v, B, rfl, hB, h⟩
    refine ⟨v, B, rfl, ?_, h⟩
    have e : (fun y => (mem a y || mem [] y)) = mem a := funext fun y => by simp [mem]
    rw [e] at hB; exact hB
  clear hr1
  go_enter Try.func21, Try.ntmps21
  go_wp2_with (go_at_call 27; refine H.out.mono ?_; rintro e w1 ⟨v, B, rfl, hB⟩; have HB := Lib.hid hB; clear hB)
  go_ret
  exact ⟨v, B, rfl, HB.out⟩
theorem rdP_slice {w : World} {v : Value} {l : List PP} (h : Rd w v l) : ∃ ad cap, v = .slice ad l.length cap := by obtain ⟨ad, cap, rfl, _⟩ := h; exact ⟨ad, cap, rfl⟩
theorem sameP_any (l m : List PP) (v v' : Value) (w : World) (hl : Big l) (hr : Rd w v l) (hr' : Rd w v' m) :
    Calls Try.prog 20 #[v, v'] w fun e w' => e = .returned (.bool (decide (l = m))) ∧ Below w.heap.size w w' := by
  unfold Big at hl
  obtain ⟨ad, cap, rfl, hc⟩ := hr
  obtain ⟨ad', cap', rfl, hc'⟩ := hr'
  have HC := Lib.hid hc
  have HC' := Lib.hid hc'
  clear hc hc'
  obtain ⟨N, hN⟩ : ∃ N, N = l.length := ⟨_, rfl⟩
  obtain ⟨N', hN'⟩ : ∃ N', N' = m.length := ⟨_, rfl⟩
  have HN := Lib.hid hN
  have HN' := Lib.hid hN'
  rw [← hN] at hl ⊢
  rw [← hN']
  clear hN hN'
  by_cases hlen : N = N'
  · subst hlen
    go_enter Try.func20, Try.ntmps20
    go_wp2
    go_loopg [14, 5, 6] N (fun g s14 s5 s6 wr => ∃ (k : Nat), k ≤ N ∧ N - k ≤ g ∧ s14 = .int .i64 k ∧ Hid (Below w.heap.size w wr ∧ l.take k = m.take k))
    case atStart => exact ⟨0, by omega, by omega, rfl, Below.refl _ _, by simp⟩
    case round =>
      obtain ⟨k, hk, hg, rfl, HB⟩ := hrel
      by_cases hlt : k < N
      · obtain ⟨x, hx⟩ : ∃ x, l[k]? = some x := ⟨_, List.getElem?_eq_getElem (by rw [← HN.out]; exact hlt)⟩
        obtain ⟨y, hy⟩ : ∃ y, m[k]? = some y := ⟨_, List.getElem?_eq_getElem (by rw [← HN'.out]; exact hlt)⟩
        obtain ⟨blk, off, rfl, hblk, hc0, hc1⟩ := HC.out k x hx
        obtain ⟨blk', off', rfl, hblk', hd0, hd1⟩ := HC'.out k y hy
        have HX := Lib.hid (And.intro hx hy)
        obtain ⟨a, n⟩ := x
        obtain ⟨b, o⟩ := y
        dsimp only at hc0 hc1 hd0 hd1
        have f0 := carryB HB.out.1 hblk hc0
        have f1 := carryB HB.out.1 hblk hc1
        have k0 := carryB HB.out.1 hblk' hd0
        have k1 := carryB HB.out.1 hblk' hd1
        have al0 : ∀ o, (wr.alloc o).cell? ⟨blk', off' + k * 2, none⟩ = _ := fun o => carry (below_alloc _ _) k0
        have al1 : ∀ o, (wr.alloc o).cell? ⟨blk', off' + k * 2 + 1, none⟩ = _ := fun o => carry (below_alloc _ _) k1
        clear hc0 hc1 hd0 hd1 hx hy
        by_cases he : (a, n) = (b, o)
        · obtain ⟨rfl, rfl⟩ := Prod.mk.inj he
          clear he
          go_wp2_with fail
          go_quiet (fail)
          all_goals go_wp2
          go_roundg (N - (k + 1))
          case measure => omega
          case rel => exact ⟨k + 1, by omega, Nat.le_refl _, by go_num, by first | exact below_drewN (HB.out.1.alloc HB.out.1.size _) _ | exact below_drewN HB.out.1 _, by rw [take_snocP HX.out.1, take_snocP HX.out.2, HB.out.2]⟩
        · have HF : Hid (decide (l = m) = false) := by
            show _ = _
            rw [decide_eq_false_iff_not]
            rintro rfl
            have := HX.out.1.symm.trans HX.out.2
            exact he (Option.some.inj this)
          have hpn := pp_ne he
          clear he
          rcases hpn with h | ⟨rfl, h⟩
          all_goals
            go_wp2_with fail
            go_quiet (fail)
            all_goals go_wp2
            go_ret
            exact ⟨ret_b HF.out.symm, by first | exact below_drewN (HB.out.1.alloc HB.out.1.size _) _ | exact below_drewN HB.out.1 _⟩
      · have hkl : k = N := by omega
        subst hkl
        have HF : Hid (decide (l = m) = true) := by
          have := HB.out.2
          rw [List.take_of_length_le (by rw [← HN.out]; exact Nat.le_refl _), List.take_of_length_le (by rw [← HN'.out]; exact Nat.le_refl _)] at this
          show _ = _
          exact decide_eq_true this
        go_wp2
        go_ret
        exact ⟨ret_b HF.out.symm, HB.out.1⟩
  · have HF : Hid (decide (l = m) = false) := by
      show _ = _
      rw [decide_eq_false_iff_not]
      rintro rfl
      exact hlen (HN.out.trans HN'.out.symm)
    have hd : ((N : Int) == (N' : Int)) = false := by simp; omega
    have hd2 : ((N : Int) != (N' : Int)) = true := by simp; omega
    go_enter Try.func20, Try.ntmps20
    go_wp2
    go_ret
    exact ⟨ret_b HF.out.symm, Below.refl _ _⟩
theorem equalP_any (l m : List PP) (v v' : Value) (w : World) (hl : Big l) (hr : Rd w v l) (hr' : Rd w v' m) :
    Calls Try.prog 65 #[v, v'] w fun e w' => e = .returned (.bool (decide (l = m))) ∧ Below w.heap.size w w' := by
  unfold Big at hl
  obtain ⟨ad, cap, rfl, hc⟩ := hr
  obtain ⟨ad', cap', rfl, hc'⟩ := hr'
  have HC := Lib.hid hc
  have HC' := Lib.hid hc'
  clear hc hc'
  obtain ⟨N, hN⟩ : ∃ N, N = l.length := ⟨_, rfl⟩
  obtain ⟨N', hN'⟩ : ∃ N', N' = m.length := ⟨_, rfl⟩
  have HN := Lib.hid hN
  have HN' := Lib.hid hN'
  rw [← hN] at hl ⊢
  rw [← hN']
  clear hN hN'
  by_cases hlen : N = N'
  · subst hlen
    go_enter Try.func65, Try.ntmps65
    go_wp2
    go_loopg [13, 5] N (fun g s13 s5 wr => ∃ (k : Nat), k ≤ N ∧ N - k ≤ g ∧ s13 = .int .i64 k ∧ Hid (Below w.heap.size w wr ∧ l.take k = m.take k))
    case atStart => exact ⟨0, by omega, by omega, rfl, Below.refl _ _, by simp⟩
    case round =>
      obtain ⟨k, hk, hg, rfl, HB⟩ := hrel
      by_cases hlt : k < N
      · obtain ⟨x, hx⟩ : ∃ x, l[k]? = some x := ⟨_, List.getElem?_eq_getElem (by rw [← HN.out]; exact hlt)⟩
        obtain ⟨y, hy⟩ : ∃ y, m[k]? = some y := ⟨_, List.getElem?_eq_getElem (by rw [← HN'.out]; exact hlt)⟩
        obtain ⟨blk, off, rfl, hblk, hc0, hc1⟩ := HC.out k x hx
        obtain ⟨blk', off', rfl, hblk', hd0, hd1⟩ := HC'.out k y hy
        have HX := Lib.hid (And.intro hx hy)
        obtain ⟨a, n⟩ := x
        obtain ⟨b, o⟩ := y
        dsimp only at hc0 hc1 hd0 hd1
        have f0 := carryB HB.out.1 hblk hc0
        have f1 := carryB HB.out.1 hblk hc1
        have k0 := carryB HB.out.1 hblk' hd0
        have k1 := carryB HB.out.1 hblk' hd1
        clear hc0 hc1 hd0 hd1 hx hy
        by_cases he : (a, n) = (b, o)
        · obtain ⟨rfl, rfl⟩ := Prod.mk.inj he
          clear he
          go_wp2_with fail
          go_quiet (fail)
          all_goals go_wp2
          go_roundg (N - (k + 1))
          case measure => omega
          case rel => exact ⟨k + 1, by omega, Nat.le_refl _, by go_num, by first | exact below_drewN (HB.out.1.alloc HB.out.1.size _) _ | exact below_drewN HB.out.1 _, by rw [take_snocP HX.out.1, take_snocP HX.out.2, HB.out.2]⟩
        · have HF : Hid (decide (l = m) = false) := by
            show _ = _
            rw [decide_eq_false_iff_not]
            rintro rfl
            have := HX.out.1.symm.trans HX.out.2
            exact he (Option.some.inj this)
          have hpn := pp_ne he
          clear he
          rcases hpn with h | ⟨rfl, h⟩
          all_goals
            go_wp2_with fail
            go_quiet (fail)
            all_goals go_wp2
            go_ret
            exact ⟨ret_b HF.out.symm, by first | exact below_drewN (HB.out.1.alloc HB.out.1.size _) _ | exact below_drewN HB.out.1 _⟩
      · have hkl : k = N := by omega
        subst hkl
        have HF : Hid (decide (l = m) = true) := by
          have := HB.out.2
          rw [List.take_of_length_le (by rw [← HN.out]; exact Nat.le_refl _), List.take_of_length_le (by rw [← HN'.out]; exact Nat.le_refl _)] at this
          show _ = _
          exact decide_eq_true this
        go_wp2
        go_ret
        exact ⟨ret_b HF.out.symm, HB.out.1⟩
  · have HF : Hid (decide (l = m) = false) := by
      show _ = _
      rw [decide_eq_false_iff_not]
      rintro rfl
      exact hlen (HN.out.trans HN'.out.symm)
    have hd : ((N : Int) == (N' : Int)) = false := by simp; omega
    have hd2 : ((N : Int) != (N' : Int)) = true := by simp; omega
    go_enter Try.func65, Try.ntmps65
    go_wp2
    go_ret
    exact ⟨ret_b HF.out.symm, Below.refl _ _⟩
end Go.Proofs.Ytegponbmelgngaa
end

section
namespace Go.Proofs.Ytegponbmelgngaa
open Go.RowKit
set_option linter.unusedSimpArgs false
set_option linter.unusedVariables false
set_option maxHeartbeats 4000000
set_option maxRecDepth 100000

theorem is_any (a : List PP) (v1 : Value) (w : World) (ha : Big a) (fa : FitL a) (hr1 : Rd w v1 a) :
    Calls Try.prog 23 #[v1] w fun e w' => ∃ B, e = .returned (.bool (decide (a = B.map pfx))) ∧ CM.Nrm (mem a) B ∧ Below w.heap.size w w' := by
  have H := Lib.hid (normal_any a v1 w ha fa hr1)
  have HE : Hid (∀ W v2 m, Below w.heap.size w W → Rd W v2 m → Calls Try.prog 65 #[v1, v2] W fun e w' => e = .returned (.bool (decide (a = m))) ∧ Below W.heap.size W w') := fun W v2 m hW h2 => equalP_any a m v1 v2 W ha (hr1.below hW) h2
  clear hr1
  go_enter Try.func23, Try.ntmps23
  go_wp2_with (first
    | (go_at_call 21; refine H.out.mono ?_; rintro e w1 ⟨v, B, rfl, hN, hr, hb⟩; have HN := Lib.hid hN; have B1 := Lib.hid hb; have E1 := Lib.hid (HE.out w1 v _ hb hr); clear hN hr hb)
    | (go_at_call 65; refine E1.out.mono ?_; rintro e w2 ⟨rfl, hb⟩; have B2 := Lib.hid (below_then B1.out hb); clear hb))
  go_ret
  exact ⟨B, rfl, HN.out, B2.out⟩
theorem has1_any (x : PP) (y bx : Nat) (hx : x.1 < 4294967296 ∧ I64 x.2) (hy : y < 4294967296) (w : World) (hc : w.cell? ⟨bx, 0, none⟩ = some (.int .u32 (y : Int))) :
    Calls Try.prog 75 #[.agg #[.int .u32 (x.1 : Int), .int .i64 x.2], .pointer (some ⟨bx, 0, none⟩)] w fun e w' => e = .returned (.bool (con x.1 x.2 y)) ∧ Below w.heap.size w w' := by
  obtain ⟨a, n⟩ := x
  have HC : Hid (∀ W, Calls Try.prog 76 #[.agg #[.int .u32 (a : Int), .int .i64 n], .int .u32 (y : Int)] W fun e w' => e = .returned (.bool (con a n y)) ∧ Below W.heap.size W w') := fun W => contains_any a hx.1 n hx.2 y hy W
  have hbx := World.block_lt_of_cell? _ _ hc
  have hca : ∀ o, (w.alloc o).cell? ⟨bx, 0, none⟩ = some (.int .u32 (y : Int)) := fun o => carry (below_alloc _ _) hc
  dsimp only
  generalize con a n y = z at HC ⊢
  go_enter Try.func75, Try.ntmps75
  go_wp2_with (go_at_call 76; refine (HC.out _).mono ?_; rintro e w1 ⟨rfl, hb⟩; have B := Lib.hid (below_then (below_alloc _ _) hb); clear hb)
  go_ret
  exact ⟨rfl, B.out⟩
theorem index75_any (l : List PP) (v : Value) (y bx : Nat) (hy : y < 4294967296) (w : World) (hl : l.length ≤ 4294967296) (hf : ∀ x ∈ l, x.1 < 4294967296 ∧ I64 x.2) (hr : Rd w v l) (hcy : w.cell? ⟨bx, 0, none⟩ = some (.int .u32 (y : Int))) :
    Calls Try.prog 108 #[v, .func (.func 75) #[] #[.pointer (some ⟨bx, 0, none⟩)]] w (IdxPost (fun x => con x.1 x.2 y) l w) := by
  obtain ⟨ad, cap, rfl, hc⟩ := hr
  have HC := Lib.hid hc
  have HF := Lib.hid hf
  have HY := Lib.hid hcy
  clear hc hf hcy
  go_enter Try.func108, Try.ntmps108
  go_wp2
  go_loopg [8, 5] l.length (fun g s8 s5 wr => ∃ k : Nat, k ≤ l.length ∧ l.length - k ≤ g ∧ s8 = .int .i64 k ∧ Hid (Below w.heap.size w wr ∧ ∀ x ∈ l.take k, con x.1 x.2 y = false))
  case atStart => exact ⟨0, by omega, by omega, rfl, Below.refl _ _, by simp⟩
  case round =>
    obtain ⟨k, hk, hg, rfl, HB⟩ := hrel
    by_cases hlt : k < l.length
    · obtain ⟨x, hx⟩ : ∃ x, l[k]? = some x := ⟨_, List.getElem?_eq_getElem hlt⟩
      obtain ⟨blk, off, rfl, hblk, hc0, hc1⟩ := HC.out k x hx
      have f0 := carryB HB.out.1 hblk hc0
      have f1 := carryB HB.out.1 hblk hc1
      have HX := Lib.hid hx
      have hfx := HF.out x (List.mem_of_getElem? hx)
      have HV := Lib.hid (has1_any x y bx hfx hy wr (carry HB.out.1 HY.out))
      clear hc0 hc1 hx hfx
      obtain ⟨a, n⟩ := x
      dsimp only at f0 f1
      cases h : con a n y
      · have HH := Lib.hid h
        have HV' : Hid (Calls Try.prog 75 #[.agg #[.int .u32 (a : Int), .int .i64 n], .pointer (some ⟨bx, 0, none⟩)] wr fun e w' => e = .returned (.bool false) ∧ Below wr.heap.size wr w') := by have := HV.out; dsimp only at this; rwa [h] at this
        clear h HV
        go_wp2_with (go_at_call 75; refine HV'.out.mono ?_; rintro e w1 ⟨rfl, hb⟩; have B := Lib.hid (below_then HB.out.1 hb); clear hb)
        go_roundg (l.length - (k + 1))
        case measure => omega
        case rel =>
          refine ⟨k + 1, by omega, Nat.le_refl _, by go_num, B.out, ?_⟩
          rw [take_snocP HX.out]
          intro y hy
          rcases List.mem_append.1 hy with hy | hy
          · exact HB.out.2 y hy
          · rw [List.mem_singleton] at hy; subst hy; exact HH.out
      · have HH := Lib.hid h
        have HV' : Hid (Calls Try.prog 75 #[.agg #[.int .u32 (a : Int), .int .i64 n], .pointer (some ⟨bx, 0, none⟩)] wr fun e w' => e = .returned (.bool true) ∧ Below wr.heap.size wr w') := by have := HV.out; dsimp only at this; rwa [h] at this
        clear h HV
        go_wp2_with (go_at_call 75; refine HV'.out.mono ?_; rintro e w1 ⟨rfl, hb⟩; have B := Lib.hid (below_then HB.out.1 hb); clear hb)
        go_ret
        exact ⟨B.out, .inl ⟨k, hlt, rfl, ⟨_, HX.out, HH.out⟩, HB.out.2⟩⟩
    · have hkl : k = l.length := by omega
      subst hkl
      go_wp2
      go_ret
      have := HB.out.2
      rw [List.take_length] at this
      exact ⟨HB.out.1, .inr ⟨rfl, this⟩⟩
theorem has_any (l : List PP) (v : Value) (y : Nat) (hy : y < 4294967296) (w : World) (hl : Big l) (hf : FitL l) (hr : Rd w v l) :
    Calls Try.prog 35 #[v, .int .u32 (y : Int)] w fun e w' => e = .returned (.bool (mem l y)) ∧ Below w.heap.size w w' := by
  have HC : Hid (∀ W bx, Below w.heap.size w W → W.cell? ⟨bx, 0, none⟩ = some (.int .u32 (y : Int)) → Calls Try.prog 74 #[v, .func (.func 75) #[] #[.pointer (some ⟨bx, 0, none⟩)]] W fun e w' => e = .returned (.bool (mem l y)) ∧ Below W.heap.size W w') := fun W bx hW hc => by
    have HI := Lib.hid (index75_any l v y bx hy W hl hf (hr.below hW) hc)
    clear hr
    go_enter Try.func74, Try.ntmps74
    go_wp2_with fail
    go_at_call 108
    refine HI.out.mono ?_
    rintro e w1 ⟨hb, ⟨k, hk, rfl, ⟨x, hx, hq⟩, _⟩ | ⟨rfl, hno⟩⟩
    · have HM : Hid (mem l y = true) := by show _ = _; unfold mem; rw [List.any_eq_true]; exact ⟨x, List.mem_of_getElem? hx, hq⟩
      have B := Lib.hid hb
      clear hb hx hq
      go_wp2
      go_ret
      exact ⟨ret_b HM.out.symm, B.out⟩
    · have HM : Hid (mem l y = false) := by show _ = _; unfold mem; rw [List.any_eq_false]; intro x hx; have := hno x hx; dsimp only at this; rw [this]; simp
      have B := Lib.hid hb
      clear hb hno
      go_wp2
      go_ret
      exact ⟨ret_b HM.out.symm, B.out⟩
  go_enter Try.func35, Try.ntmps35
  go_wp2_with (go_at_call 74; refine (HC.out _ _ (below_alloc _ _) (by simp)).mono ?_; rintro e w1 ⟨rfl, hb⟩; have B := Lib.hid (below_then (below_alloc _ _) hb); clear hb)
  go_ret
  exact ⟨rfl, B.out⟩
end Go.Proofs.Ytegponbmelgngaa
end

section
namespace Go.Proofs.Ytegponbmelgngaa
open Go.RowKit
set_option linter.unusedSimpArgs false
set_option linter.unusedVariables false
set_option maxHeartbeats 4000000
set_option maxRecDepth 100000

theorem ascd_nil_mem {l : List PP} (h : ascd l = []) (y : Nat) : mem l y = false := by
  refine Bool.eq_false_iff.2 fun hy => ?_
  obtain ⟨p, hp, hv, _⟩ := (mem_iff l y).1 hy
  have := (ascd_mem l p).2 ⟨hp, hv⟩
  rw [h] at this; cases this
theorem summary_none (l : List PP) (v : Value) (w : World) (hl : Big l) (hf : FitL l) (hr : Rd w v l) (he : ascd l = []) :
    Calls Try.prog 18 #[v] w fun e w' => e = .returned (.tuple #[.agg #[.int .u32 0, .int .i64 0], .bool false]) ∧ Below w.heap.size w w' := by
  have HA : Hid (∀ W, Below w.heap.size w W → Calls Try.prog 59 #[v] W fun e w' => ∃ v', e = .returned v' ∧ OwnS W.heap.size w' v' (ascd l) ∧ Below W.heap.size W w') := fun W hW => ascending_any l v W hl hf (hr.below hW)
  rw [he] at HA
  clear hr
  go_enter Try.func18, Try.ntmps18
  go_wp2_with (go_at_call 59; refine (HA.out _ (below_alloc _ _)).mono ?_; rintro e w1 ⟨v1, rfl, ho, hb⟩; obtain ⟨ad1, cap1, rfl⟩ := rdP_slice ho.rd; have B := Lib.hid (below_then (below_alloc _ _) hb); obtain ⟨hc1, hf1⟩ := bcell hb; have hzw : w.heap.size < w1.heap.size := (by have := hb.size; simp at this; omega); clear hb ho)
  exact bodyPost_ret (v := .tuple #[.agg #[.int .u32 0, .int .i64 0], .bool false]) (by simp [results, Try.results18, go_sem, hc1, hzw]) rfl ⟨rfl, (B.out.setCell (by simp) _).setCell (by simp) _⟩
theorem ascd_first {l : List PP} (hf : FitL l) {x : PP} (hx : (ascd l)[0]? = some x) : mem l x.1 = true ∧ ∀ y, mem l y = true → x.1 ≤ y := by
  have hxm := (ascd_mem l x).1 (List.mem_of_getElem? hx)
  refine ⟨(mem_iff l x.1).2 ⟨x, hxm.1, hxm.2, ⟨Nat.le_refl _, by have := CM.pow_pos' (blk x).2; show x.1 < (blk x).1 + _; show x.1 < x.1 + _; omega⟩⟩, fun y hy => ?_⟩
  obtain ⟨p, hp, hv, h1, h2⟩ := (mem_iff l y).1 hy
  have hpm := (ascd_mem l p).2 ⟨hp, hv⟩
  obtain ⟨i, hi, rfl⟩ := List.mem_iff_getElem.1 hpm
  have h3 : x.1 ≤ (ascd l)[i].1 := by
    rcases Nat.eq_zero_or_pos i with rfl | hi0
    · rw [List.getElem?_eq_getElem hi] at hx; rw [Option.some.inj hx]; exact Nat.le_refl _
    · have := List.pairwise_iff_getElem.1 (ascd_asc l) 0 i (by omega) hi hi0
      rw [List.getElem?_eq_getElem (by omega)] at hx
      rw [Option.some.inj hx] at this
      unfold ltP at this; omega
  exact Nat.le_trans h3 h1
/-- what the loop knows of the greatest address -/
def MaxI (l : List PP) (k h : Nat) : Prop := h < 4294967296 ∧ (∀ x ∈ (ascd l).take k, lastN x.1 x.2 ≤ h) ∧ (0 < k → mem l h = true) ∧ (k = 0 → h = 0)
theorem last_mem {l : List PP} (hf : FitL l) {x : PP} (hx : x ∈ ascd l) : lastN x.1 x.2 < 4294967296 ∧ mem l (lastN x.1 x.2) = true ∧ ∀ y, CM.inB (blk x) y → y ≤ lastN x.1 x.2 := by
  have h := (ascd_mem l x).1 hx
  have hp := CM.pow_pos' (blk x).2
  have ht := blk_top (hf x h.1).1 h.2
  have e : lastN x.1 x.2 = (blk x).1 + 2 ^ (blk x).2 - 1 := last_eq h.2
  refine ⟨by omega, (mem_iff l _).2 ⟨x, h.1, h.2, by rw [e]; constructor <;> omega⟩, fun y hy => by have := hy.2; omega⟩
theorem max_step {l : List PP} (hf : FitL l) {k h : Nat} {x : PP} (hx : (ascd l)[k]? = some x) (hM : MaxI l k h) : MaxI l (k + 1) (max h (lastN x.1 x.2)) := by
  have hl := last_mem hf (List.mem_of_getElem? hx)
  refine ⟨by have := hM.1; omega, fun y hy => ?_, fun _ => ?_, fun h => by omega⟩
  · rw [take_snocP hx] at hy
    rcases List.mem_append.1 hy with hy | hy
    · have := hM.2.1 y hy; omega
    · rw [List.mem_singleton] at hy; subst hy; omega
  · rcases Nat.le_total h (lastN x.1 x.2) with hle | hle
    · rw [Nat.max_eq_right hle]; exact hl.2.1
    · rw [Nat.max_eq_left hle]
      rcases Nat.eq_zero_or_pos k with rfl | hk
      · have := hM.2.2.2 rfl
        rw [show h = lastN x.1 x.2 by omega]; exact hl.2.1
      · exact hM.2.2.1 hk
/-- the least and the greatest address -/
def Ends (l : List PP) (lo hi : Nat) : Prop := mem l lo = true ∧ mem l hi = true ∧ ∀ y, mem l y = true → lo ≤ y ∧ y ≤ hi
theorem summary_some (l : List PP) (v : Value) (w : World) (hl : Big l) (hf : FitL l) (hr : Rd w v l) (he : ascd l ≠ []) :
    Calls Try.prog 18 #[v] w fun e w' => ∃ lo hi, e = .returned (.tuple #[.agg #[.int .u32 ((sumP lo hi).1 : Int), .int .i64 (sumP lo hi).2], .bool true]) ∧ Ends l lo hi ∧ Below w.heap.size w w' := by
  have HA : Hid (∀ W, Below w.heap.size w W → Calls Try.prog 59 #[v] W fun e w' => ∃ v', e = .returned v' ∧ OwnS W.heap.size w' v' (ascd l) ∧ Below W.heap.size W w') := fun W hW => ascending_any l v W hl hf (hr.below hW)
  obtain ⟨N, hN⟩ : ∃ N, N = (ascd l).length := ⟨_, rfl⟩
  have hpos : 0 < N := by rw [hN]; exact List.length_pos_iff.2 he
  have hNb : N ≤ 4294967296 := by rw [hN]; exact Nat.le_trans (ascd_len l) hl
  have HN := Lib.hid hN
  have HF := Lib.hid hf
  obtain ⟨⟨fa, fn⟩, hx0⟩ : ∃ x, (ascd l)[0]? = some x := ⟨_, List.getElem?_eq_getElem (by omega)⟩
  have HX0 := Lib.hid hx0
  have hfa : fa < 4294967296 := (hf _ ((ascd_mem l _).1 (List.mem_of_getElem? hx0)).1).1
  have hd : ((N : Int) == 0) = false := by simp; omega
  clear hr he hx0
  go_enter Try.func18, Try.ntmps18
  go_wp2_with fail
  go_at_call 59
  refine (HA.out _ (below_alloc _ _)).mono ?_
  rintro e w1 ⟨v1, rfl, ho, hb⟩
  obtain ⟨ad1, cap1, rfl, hc⟩ := ho.rd
  rw [← hN]
  have HC := Lib.hid hc
  have B1 := Lib.hid (below_then (below_alloc _ _) hb)
  have hz1 : w.heap.size < w1.heap.size := by have := hb.size; simp at this; omega
  obtain ⟨hc1, hf1⟩ := bcell hb
  have rc0 : w1.cell? ⟨w.heap.size, 0, none⟩ = some (.int .u32 0) := by rw [hc1 _ _ (by simp)]; simp
  have rc1 : w1.cell? ⟨w.heap.size, 1, none⟩ = some (.int .i64 0) := by rw [hc1 _ _ (by simp)]; simp
  obtain ⟨blk, off, rfl, hblk, g0, g1⟩ := hc 0 _ HX0.out
  simp only [Nat.zero_mul, Nat.add_zero] at g0 g1
  clear ho hb hc hN
  go_wp2
  go_loopg [23, 6, 8] N (fun g s23 s6 s8 wr => ∃ (k h : Nat), k ≤ N ∧ N - k ≤ g ∧ s23 = .int .i64 k ∧ s6 = .int .u32 h ∧ h < 4294967296 ∧ Hid (Below w1.heap.size w1 wr ∧ MaxI l k h))
  case atStart => exact ⟨0, 0, by omega, by omega, rfl, rfl, by decide, Below.refl _ _, by decide, by simp, by simp, fun _ => rfl⟩
  case round =>
    obtain ⟨k, h, hk, hg, rfl, rfl, hh, HB⟩ := hrel
    by_cases hlt : k < N
    · obtain ⟨x, hx⟩ : ∃ x, (ascd l)[k]? = some x := ⟨_, List.getElem?_eq_getElem (by rw [← HN.out]; exact hlt)⟩
      obtain ⟨b', o', he', hb', hc0, hc1⟩ := HC.out k x hx
      cases he'
      have f0 := carryB HB.out.1 hb' hc0
      have f1 := carryB HB.out.1 hb' hc1
      have HX := Lib.hid hx
      have hm := (ascd_mem l x).1 (List.mem_of_getElem? hx)
      have hlm := (last_mem HF.out (List.mem_of_getElem? hx)).1
      have HL : Hid (∀ W, Calls Try.prog 60 #[.agg #[.int .u32 (x.1 : Int), .int .i64 x.2]] W fun e w' => e = .returned (.int .u32 (lastN x.1 x.2 : Nat)) ∧ Below W.heap.size W w') := fun W => last_yes x.1 (HF.out x hm.1).1 x.2 (HF.out x hm.1).2 W hm.2
      have HM := Lib.hid (max_step HF.out hx HB.out.2)
      clear hc0 hc1 hx hm
      obtain ⟨a, n⟩ := x
      dsimp only at f0 f1 HL HM hlm
      generalize lastN a n = z at HL HM hlm
      go_wp2_with (go_at_call 60; refine (HL.out _).mono ?_; rintro e w2 ⟨rfl, hb⟩; have B2 := Lib.hid ((HB.out.1.alloc HB.out.1.size _).trans (hb.mono (by have := HB.out.1.size; simp; omega))); clear hb)
      go_roundg (N - (k + 1))
      case measure => omega
      case rel => exact ⟨k + 1, max h z, by omega, Nat.le_refl _, by go_num, by rw [show (max (h : Int) (z : Int)) = ((max h z : Nat) : Int) by omega], by omega, B2.out, HM.out⟩
    · have hkl : k = N := by omega
      subst hkl
      have HE : Hid (Ends l fa h) := by
        have h1 := ascd_first HF.out HX0.out
        have h2 := HB.out.2
        refine ⟨h1.1, h2.2.2.1 hpos, fun y hy => ⟨h1.2 y hy, ?_⟩⟩
        obtain ⟨p, hp, hv, hi⟩ := (mem_iff l y).1 hy
        have hpm := (ascd_mem l p).2 ⟨hp, hv⟩
        have h3 := h2.2.1 p (by rw [List.take_of_length_le (by rw [← HN.out]; exact Nat.le_refl _)]; exact hpm)
        exact Nat.le_trans ((last_mem HF.out hpm).2.2 y hi) h3
      obtain ⟨hc2, hf2⟩ := bcell HB.out.1
      have hzr : w.heap.size < wr.heap.size := Nat.lt_of_lt_of_le hz1 HB.out.1.size
      have hcl := M.comN_le fa h
      have HMK : Hid (∀ W, Calls Try.prog 61 #[.int .u32 (fa : Int), .int .i64 ((M.comN fa h : Nat) : Int)] W fun e w' => e = .returned (.tuple #[.agg #[.int .u32 ((sumP fa h).1 : Int), .int .i64 ((M.comN fa h : Nat) : Int)], .int .i64 0]) ∧ Below W.heap.size W w') := fun W => by
        have := make_yes fa hfa ((M.comN fa h : Nat) : Int) (by omega) (by omega) W
        rwa [low_in (by omega) (by omega)] at this
      have HCM : Hid (∀ W, Calls Try.prog 62 #[.int .u32 (fa : Int), .int .u32 (h : Int)] W fun e w' => e = .returned (.int .i64 ((M.comN fa h : Nat) : Int)) ∧ W = w') := fun W => com_any fa h hfa hh W
      obtain ⟨⟨sa, sn⟩, hsp⟩ : ∃ s, sumP fa h = s := ⟨_, rfl⟩
      have hsn : sn = ((M.comN fa h : Nat) : Int) := by rw [show sn = (sumP fa h).2 by rw [hsp]]; rfl
      have HS := Lib.hid hsp
      rw [← hsn] at HMK HCM
      rw [hsp] at HMK
      clear hsp hsn hcl
      go_wp2_with (first
        | (go_at_call 62; refine (HCM.out _).mono ?_; rintro e w3 ⟨rfl, rfl⟩)
        | (go_at_call 61; refine (HMK.out _).mono ?_; rintro e w4 ⟨rfl, hb⟩; obtain ⟨hc4, hf4⟩ := bcell hb; have B4 := Lib.hid (below_then (B1.out.trans (HB.out.1.mono B1.out.size)) hb); have hz4 : w.heap.size < w4.heap.size := (by have := hb.size; omega); clear hb))
      exact bodyPost_ret (v := .tuple #[.agg #[.int .u32 (sa : Int), .int .i64 sn], .bool true]) (by simp [results, Try.results18, go_sem, *]) rfl ⟨fa, h, by rw [HS.out], HE.out, ((B4.out.setCell (Nat.le_refl _) _).setCell (Nat.le_refl _) _).alloc (by simp; omega) _⟩
end Go.Proofs.Ytegponbmelgngaa
end
