/-
  The walks of aggregate.Check and the reference's Check.
  The walks of aggregate.Lookup and of the reference's lookup and Lookup.
-/
import Derived.Test.YtegponbmelgngaaMgB
import Derived.Test.YtegponbmelgngaaMgTc
import Derived.Test.YtegponbmelgngaaMgWb
section
namespace Go.Proofs.Ytegponbmelgngaa
open Go.RowKit
set_option linter.unusedSimpArgs false
set_option linter.unusedVariables false
set_option maxHeartbeats 1500000
set_option maxRecDepth 100000

theorem carryE {B : Nat} {W w1 : World} {b o : Nat} {v : Value} (hb : Below B W w1) (hlt : b < B) (h : W.cell? ⟨b, o, none⟩ = some v) : w1.cell? ⟨b, o, none⟩ = some v := (hb.cell (p := ⟨b, o, none⟩) hlt).trans h
theorem cmpP_nonneg {p q : PP} : 0 ≤ cmpP p.1 p.2 q.1 q.2 ↔ ¬ ltP p q := by
  unfold cmpP cmpI ltP
  split
  · omega
  · split
    · omega
    · split
      · omega
      · split <;> omega
/-- entries that a slice can hold -/
def FitE (l : List En) : Prop := ∀ e ∈ l, e.1.1 < 4294967296 ∧ I64 e.1.2 ∧ I64 e.2
theorem check47_long (l : List En) (v : Value) (w : World) (hr : RdE w v l) (hlen : 2000 < l.length) :
    Calls Try.prog 47 #[v] w fun e w' => e = .returned (.int .i64 (ckE l)) ∧ Below w.heap.size w w' := by
  have HQ : Hid (ckE l = 4) := if_pos hlen
  obtain ⟨ad, cap, rfl, _⟩ := hr
  go_enter Try.func47, Try.ntmps47
  go_wp2
  go_ret
  exact ⟨by rw [HQ.out]; rfl, Below.refl _ _⟩
theorem check47_any (l : List En) (v : Value) (w : World) (hr : RdE w v l) (hf : FitE l) :
    Calls Try.prog 47 #[v] w fun e w' => e = .returned (.int .i64 (ckE l)) ∧ Below w.heap.size w w' := by
  by_cases hlen : 2000 < l.length
  · exact check47_long l v w hr hlen
  obtain ⟨ad, cap, rfl, hc⟩ := hr
  have HC := Lib.hid hc
  have HF := Lib.hid hf
  obtain ⟨L, hL⟩ : ∃ L, l.length = L := ⟨_, rfl⟩
  have HQ : Hid (ckE l = ckS none l) := if_neg hlen
  rw [hL] at hlen ⊢
  have HL := Lib.hid hL
  have hL2 : L ≤ 2000 := by omega
  have hL3 : decide (2000 < (L : Int)) = false := decide_eq_false (by omega)
  clear hc hf hL hlen
  go_enter Try.func47, Try.ntmps47
  go_wp2_with fail
  go_loopg [3, 4, 10, 15, 20, 24] L (fun g s3 s4 s10 s15 s20 s24 wr => ∃ k : Nat, (∃ u, u = s3) ∧ (∃ u, u = s4) ∧ s10 = .int .i64 (k : Int) ∧ (∃ u, u = s15) ∧ (∃ u, u = s20) ∧ (∃ u, u = s24) ∧ k ≤ L ∧ L - k ≤ g ∧ Hid (Below w.heap.size w wr ∧ ckS none l = ckS (prevP l k) (l.drop k)))
  case atStart => exact ⟨0, ⟨_, rfl⟩, ⟨_, rfl⟩, rfl, ⟨_, rfl⟩, ⟨_, rfl⟩, ⟨_, rfl⟩, by omega, by omega, Below.refl _ _, rfl⟩
  case round =>
    obtain ⟨k, ⟨u3, rfl⟩, ⟨u4, rfl⟩, rfl, ⟨u15, rfl⟩, ⟨u20, rfl⟩, ⟨u24, rfl⟩, hk, hg, HS⟩ := hrel
    by_cases hlt : k < L
    · obtain ⟨e, he⟩ : ∃ x, l[k]? = some x := ⟨_, List.getElem?_eq_getElem (by have := HL.out; omega)⟩
      obtain ⟨b, off, rfl, hbl, c0, c1, c2⟩ := HC.out k e he
      have d0 := carryE HS.out.1 hbl c0
      have d1 := carryE HS.out.1 hbl c1
      have d2 := carryE HS.out.1 hbl c2
      have hfe := HF.out e (List.mem_of_getElem? he)
      have HSD := Lib.hid (ckS_drop he)
      have HE := Lib.hid he
      have HV : Hid (∀ W, Calls Try.prog 80 #[.agg #[.int .u32 (e.1.1 : Int), .int .i64 e.1.2]] W fun en w' => en = .returned (.bool (V e.1)) ∧ Below W.heap.size W w') := fun W => valid_any e.1.1 hfe.1 e.1.2 hfe.2.1 W
      have hbw : b < wr.heap.size := Nat.lt_of_lt_of_le hbl HS.out.1.size
      have HBL := Lib.hid hbl
      obtain ⟨⟨x, n⟩, val⟩ := e
      dsimp only at d0 d1 d2 HV
      clear c0 c1 c2 he hfe hbl
      cases hv : V (x, n)
      · have HR : Hid (ckE l = 1) := by rw [Hid]; rw [HQ.out, HS.out.2, HSD.out, if_pos hv]
        rw [hv] at HV
        clear hv
        go_wp2_with (go_at_call 80; refine (HV.out _).mono ?_; rintro en w2 ⟨rfl, hb⟩; have HB2 := Lib.hid (below_then HS.out.1 (below_then (below_alloc _ _) hb)); clear hb)
        go_ret
        exact ⟨by rw [HR.out]; rfl, HB2.out⟩
      · rw [hv] at HV
        have HVV := Lib.hid hv
        clear hv
        go_wp2_with fail
        go_at_call 80
        refine (HV.out _).mono ?_
        rintro en w2 ⟨rfl, hb⟩
        have HB2 := Lib.hid (below_then (below_alloc wr (.cells #[.int .u32 (x : Int), .int .i64 n, .int .i64 val] 51)) hb)
        have e0 := carry hb (p := ⟨wr.heap.size, 0, none⟩) (v := .int .u32 (x : Int)) (by simp)
        have e1 := carry hb (p := ⟨wr.heap.size, 1, none⟩) (v := .int .i64 n) (by simp)
        have e2 := carry hb (p := ⟨wr.heap.size, 2, none⟩) (v := .int .i64 val) (by simp)
        clear hb d0 d1 d2 HV
        by_cases hval : val < -1
        · have HR : Hid (ckE l = 5) := by rw [Hid]; rw [HQ.out, HS.out.2, HSD.out, if_neg (by rw [HVV.out]; simp), if_pos hval]
          go_wp2_with fail
          go_ret
          exact ⟨by rw [HR.out]; rfl, below_then HS.out.1 HB2.out⟩
        · have hval' : decide (val < -1) = false := decide_eq_false hval
          have HNR := Lib.hid hval
          clear hval
          by_cases hk0 : k = 0
          · subst hk0
            have HN : Hid (ckS none l = ckS (prevP l (0 + 1)) (l.drop (0 + 1))) := by
              rw [Hid]
              rw [HS.out.2, HSD.out, if_neg (by rw [HVV.out]; simp), if_neg (by have := HNR.out; omega), if_neg (by show ¬ badP none _ = true; simp [badP])]
            have HF2 := Lib.hid (below_then HS.out.1 HB2.out)
            go_wp2_with fail
            refine wp_region_held_drew (S := fun _ => True) (by kernel_rfl) trivial (fun hS0 => ?_)
            refine wpAnyH_take (i := 0) (oi := ⟨some 25, _, _, _, _, _⟩) (v := .int .i64 ((0 : Nat) : Int)) rfl (by kernel_rfl) (by kernel_rfl) (by kernel_rfl) (fun _ _ _ h => h) (Or.inl ⟨by rfl, by intro w' hw'; go_simp⟩) hS0 ?_
            simp only [Act.put, List.setIfInBounds_toArray, List.set_cons_zero, List.set_cons_succ]
            refine wpAnyH_take (i := 1) (oi := ⟨some 26, _, _, _, _, _⟩) (v := .bool false) rfl (by kernel_rfl) (by kernel_rfl) (by kernel_rfl) (fun _ _ _ h => h) (Or.inl ⟨by rfl, by intro w' hw'; go_simp⟩) hS0 ?_
            simp only [Act.put, List.setIfInBounds_toArray, List.set_cons_zero, List.set_cons_succ]
            refine wpAnyH_take (i := 2) (oi := ⟨some 27, _, _, _, _, _⟩) (v := .bool false) rfl (by kernel_rfl) (by kernel_rfl) (by kernel_rfl) (fun _ _ _ h => h) (Or.inl ⟨by rfl, by intro w' hw'; go_simp⟩) hS0 ?_
            simp only [Act.put, List.setIfInBounds_toArray, List.set_cons_zero, List.set_cons_succ]
            refine wpAnyH_take (i := 3) (oi := ⟨some 28, _, _, _, _, _⟩) (v := undef) rfl (by kernel_rfl) (by kernel_rfl) (by kernel_rfl) (fun _ _ _ h => h) (Or.inr ⟨by rfl, rfl⟩) hS0 ?_
            (try simp only [Act.put, List.setIfInBounds_toArray, List.set_cons_zero, List.set_cons_succ])
            refine wpAnyH_take (i := 4) (oi := ⟨some 29, _, _, _, _, _⟩) (v := undef) rfl (by kernel_rfl) (by kernel_rfl) (by kernel_rfl) (fun _ _ _ h => h) (Or.inr ⟨by rfl, rfl⟩) hS0 ?_
            (try simp only [Act.put, List.setIfInBounds_toArray, List.set_cons_zero, List.set_cons_succ])
            refine wpAnyH_take (i := 5) (oi := ⟨some 30, _, _, _, _, _⟩) (v := undef) rfl (by kernel_rfl) (by kernel_rfl) (by kernel_rfl) (fun _ _ _ h => h) (Or.inr ⟨by rfl, rfl⟩) hS0 ?_
            (try simp only [Act.put, List.setIfInBounds_toArray, List.set_cons_zero, List.set_cons_succ])
            refine wpAnyH_take (i := 6) (oi := ⟨some 31, _, _, _, _, _⟩) (v := undef) rfl (by kernel_rfl) (by kernel_rfl) (by kernel_rfl) (fun _ _ _ h => h) (Or.inr ⟨by rfl, rfl⟩) hS0 ?_
            (try simp only [Act.put, List.setIfInBounds_toArray, List.set_cons_zero, List.set_cons_succ])
            refine wpAnyH_take (i := 7) (oi := ⟨some 32, _, _, _, _, _⟩) (v := undef) rfl (by kernel_rfl) (by kernel_rfl) (by kernel_rfl) (fun _ _ _ h => h) (Or.inr ⟨by rfl, rfl⟩) hS0 ?_
            (try simp only [Act.put, List.setIfInBounds_toArray, List.set_cons_zero, List.set_cons_succ])
            refine wpAnyH_take (i := 8) (oi := ⟨some 33, _, _, _, _, _⟩) (v := undef) rfl (by kernel_rfl) (by kernel_rfl) (by kernel_rfl) (fun _ _ _ h => h) (Or.inr ⟨by rfl, rfl⟩) hS0 ?_
            (try simp only [Act.put, List.setIfInBounds_toArray, List.set_cons_zero, List.set_cons_succ])
            refine wpAnyH_take (i := 9) (oi := ⟨some 34, _, _, _, _, _⟩) (v := undef) rfl (by kernel_rfl) (by kernel_rfl) (by kernel_rfl) (fun _ _ _ h => h) (Or.inr ⟨by rfl, rfl⟩) hS0 ?_
            (try simp only [Act.put, List.setIfInBounds_toArray, List.set_cons_zero, List.set_cons_succ])
            refine wpAnyH_take (i := 10) (oi := ⟨some 35, _, _, _, _, _⟩) (v := undef) rfl (by kernel_rfl) (by kernel_rfl) (by kernel_rfl) (fun _ _ _ h => h) (Or.inr ⟨by rfl, rfl⟩) hS0 ?_
            (try simp only [Act.put, List.setIfInBounds_toArray, List.set_cons_zero, List.set_cons_succ])
            refine wpAnyH_take (i := 11) (oi := ⟨some 36, _, _, _, _, _⟩) (v := undef) rfl (by kernel_rfl) (by kernel_rfl) (by kernel_rfl) (fun _ _ _ h => h) (Or.inr ⟨by rfl, rfl⟩) hS0 ?_
            (try simp only [Act.put, List.setIfInBounds_toArray, List.set_cons_zero, List.set_cons_succ])
            refine wpAnyH_take (i := 12) (oi := ⟨some 37, _, _, _, _, _⟩) (v := undef) rfl (by kernel_rfl) (by kernel_rfl) (by kernel_rfl) (fun _ _ _ h => h) (Or.inr ⟨by rfl, rfl⟩) hS0 ?_
            (try simp only [Act.put, List.setIfInBounds_toArray, List.set_cons_zero, List.set_cons_succ])
            refine wpAnyH_take (i := 13) (oi := ⟨some 38, _, _, _, _, _⟩) (v := .bool false) rfl (by kernel_rfl) (by kernel_rfl) (by kernel_rfl) (fun _ _ _ h => h) (Or.inl ⟨by rfl, by intro w' hw'; go_simp⟩) hS0 ?_
            simp only [Act.put, List.setIfInBounds_toArray, List.set_cons_zero, List.set_cons_succ]
            refine wpAnyH_take (i := 14) (oi := ⟨some 24, _, _, _, _, _⟩) (v := .bool false) rfl (by kernel_rfl) (by kernel_rfl) (by kernel_rfl) (fun _ _ _ h => h) (Or.inl ⟨by rfl, by intro w' hw'; go_simp⟩) hS0 ?_
            simp only [Act.put, List.setIfInBounds_toArray, List.set_cons_zero, List.set_cons_succ]
            refine wpAnyH_done (by kernel_rfl) ?_ _
            go_wp2_with fail
            go_roundg (L - 1)
            case measure => omega
            case rel => exact ⟨1, ⟨_, rfl⟩, ⟨_, rfl⟩, by go_num, ⟨_, rfl⟩, ⟨_, rfl⟩, ⟨_, rfl⟩, by omega, Nat.le_refl _, below_then HS.out.1 (HB2.out.drew), HN.out⟩
          · obtain ⟨j, rfl⟩ : ∃ j, k = j + 1 := ⟨k - 1, by omega⟩
            obtain ⟨f, hfj⟩ : ∃ x, l[j]? = some x := ⟨_, List.getElem?_eq_getElem (by have := HL.out; omega)⟩
            obtain ⟨b', off', hbb, _, c0, c1, c2⟩ := HC.out j f hfj
            cases hbb
            have p0 := carryE (HS.out.1.trans (HB2.out.mono HS.out.1.size)) HBL.out c0
            have p1 := carryE (HS.out.1.trans (HB2.out.mono HS.out.1.size)) HBL.out c1
            have hpr : prevP l (j + 1) = some f.1 := by show l[j]?.map (·.1) = _; rw [hfj]; rfl
            have HCP : Hid (∀ W, Calls Try.prog 84 #[.agg #[.int .u32 (f.1.1 : Int), .int .i64 f.1.2], .agg #[.int .u32 (x : Int), .int .i64 n]] W fun en w' => en = .returned (.int .i64 (cmpP f.1.1 f.1.2 x n)) ∧ Below W.heap.size W w') := fun W => compare_any f.1.1 f.1.2 x n W
            have HNN := Lib.hid (cmpP_nonneg (p := f.1) (q := (x, n)))
            have HPR := Lib.hid hpr
            obtain ⟨⟨fx, fn⟩, fval⟩ := f
            dsimp only at p0 p1 HCP HNN HPR
            generalize cmpP fx fn x n = cq at *
            have hjw : IntKind.i64.wrap ((j : Int)) = (j : Int) := IntWalk.i64_in _ (by omega)
            have i0 : (0 : Int) ≤ (j : Int) := by omega
            have i1 : (j : Int) < (L : Int) := by omega
            clear c0 c1 c2 hfj hpr hk0
            go_wp2_with fail
            go_region_held3 (fun w' => w'.cell? ⟨wr.heap.size, 0, none⟩ = some (.int .u32 (x : Int)) ∧ w'.cell? ⟨wr.heap.size, 1, none⟩ = some (.int .i64 n) ∧ w'.cell? ⟨b, off + j * 3, none⟩ = some (.int .u32 (fx : Int)) ∧ w'.cell? ⟨b, off + j * 3 + 1, none⟩ = some (.int .i64 fn))
              (first | exact ⟨e0, e1, p0, p1⟩ | assumption)
              (first | (go_at_call 84; refine (HCP.out _).mono ?_; rintro en w3 ⟨rfl, hb⟩; have HB3 : Hid (Below w2.heap.size w2 w3) := ⟨hb.os, hb.tape, hb.output, hb.size, hb.block⟩; have hk := (And.intro (carry HB3.out e0) (And.intro (carry HB3.out e1) (And.intro (carry HB3.out p0) (carry HB3.out p1)))); clear hb))
            all_goals (
              have HB4 : Hid (Below w.heap.size w w3) := below_then (below_then HS.out.1 HB2.out) HB3.out
              clear hk e0 e1 e2 p0 p1 HCP
              by_cases hge : 0 ≤ cq
              · have HR : Hid (ckE l = 16) := by
                  rw [Hid]
                  rw [HQ.out, HS.out.2, HSD.out, if_neg (by rw [HVV.out]; simp), if_neg (by have := HNR.out; omega), if_pos (by rw [HPR.out]; unfold badP; simpa using HNN.out.1 hge)]
                go_wp2_with fail
                go_ret
                exact ⟨by rw [HR.out]; rfl, HB4.out⟩
              · have HN : Hid (ckS none l = ckS (prevP l (j + 1 + 1)) (l.drop (j + 1 + 1))) := by
                  rw [Hid]
                  rw [HS.out.2, HSD.out, if_neg (by rw [HVV.out]; simp), if_neg (by have := HNR.out; omega), if_neg (by rw [HPR.out]; unfold badP; have := fun h => hge (HNN.out.2 h); simpa using this)]
                have hge' : decide (0 ≤ cq) = false := decide_eq_false hge
                go_wp2_with fail
                go_roundg (L - (j + 1 + 1))
                case measure => omega
                case rel => exact ⟨j + 1 + 1, ⟨_, rfl⟩, ⟨_, rfl⟩, by go_num, ⟨_, rfl⟩, ⟨_, rfl⟩, ⟨_, rfl⟩, by omega, Nat.le_refl _, HB4.out, HN.out⟩)
    · have k1 : decide ((k : Int) < (L : Int)) = false := decide_eq_false (by omega)
      have HR : Hid (ckE l = 0) := by
        rw [Hid]
        have hkl : k = l.length := by have := HL.out; omega
        rw [HQ.out, HS.out.2, hkl, ckS_end]
      go_wp2
      go_ret
      exact ⟨by rw [HR.out]; rfl, HS.out.1⟩
theorem rcheck48_long (l : List En) (v : Value) (w : World) (hr : RdE w v l) (hlen : 2000 < l.length) :
    Calls Try.prog 48 #[v] w fun e w' => e = .returned (.int .i64 (ckE l)) ∧ Below w.heap.size w w' := by
  have HQ : Hid (ckE l = 4) := if_pos hlen
  obtain ⟨ad, cap, rfl, _⟩ := hr
  go_enter Try.func48, Try.ntmps48
  go_wp2
  go_ret
  exact ⟨by rw [HQ.out]; rfl, Below.refl _ _⟩
theorem rcheck48_any (l : List En) (v : Value) (w : World) (hr : RdE w v l) (hf : FitE l) :
    Calls Try.prog 48 #[v] w fun e w' => e = .returned (.int .i64 (ckE l)) ∧ Below w.heap.size w w' := by
  by_cases hlen : 2000 < l.length
  · exact rcheck48_long l v w hr hlen
  obtain ⟨ad, cap, rfl, hc⟩ := hr
  have HC := Lib.hid hc
  have HF := Lib.hid hf
  obtain ⟨L, hL⟩ : ∃ L, l.length = L := ⟨_, rfl⟩
  have HQ : Hid (ckE l = ckS none l) := if_neg hlen
  rw [hL] at hlen ⊢
  have HL := Lib.hid hL
  have hL2 : L ≤ 2000 := by omega
  have hL3 : decide (2000 < (L : Int)) = false := decide_eq_false (by omega)
  clear hc hf hL hlen
  go_enter Try.func48, Try.ntmps48
  go_wp2_with fail
  go_loopg [3, 4, 10, 15, 20, 24] L (fun g s3 s4 s10 s15 s20 s24 wr => ∃ k : Nat, (∃ u, u = s3) ∧ (∃ u, u = s4) ∧ s10 = .int .i64 (k : Int) ∧ (∃ u, u = s15) ∧ (∃ u, u = s20) ∧ (∃ u, u = s24) ∧ k ≤ L ∧ L - k ≤ g ∧ Hid (Below w.heap.size w wr ∧ ckS none l = ckS (prevP l k) (l.drop k)))
  case atStart => exact ⟨0, ⟨_, rfl⟩, ⟨_, rfl⟩, rfl, ⟨_, rfl⟩, ⟨_, rfl⟩, ⟨_, rfl⟩, by omega, by omega, Below.refl _ _, rfl⟩
  case round =>
    obtain ⟨k, ⟨u3, rfl⟩, ⟨u4, rfl⟩, rfl, ⟨u15, rfl⟩, ⟨u20, rfl⟩, ⟨u24, rfl⟩, hk, hg, HS⟩ := hrel
    by_cases hlt : k < L
    · obtain ⟨e, he⟩ : ∃ x, l[k]? = some x := ⟨_, List.getElem?_eq_getElem (by have := HL.out; omega)⟩
      obtain ⟨b, off, rfl, hbl, c0, c1, c2⟩ := HC.out k e he
      have d0 := carryE HS.out.1 hbl c0
      have d1 := carryE HS.out.1 hbl c1
      have d2 := carryE HS.out.1 hbl c2
      have hfe := HF.out e (List.mem_of_getElem? he)
      have HSD := Lib.hid (ckS_drop he)
      have HE := Lib.hid he
      have HV : Hid (∀ W, Calls Try.prog 39 #[.agg #[.int .u32 (e.1.1 : Int), .int .i64 e.1.2]] W fun en w' => en = .returned (.bool (V e.1)) ∧ Below W.heap.size W w') := fun W => rvalid_any e.1.1 hfe.1 e.1.2 hfe.2.1 W
      have hbw : b < wr.heap.size := Nat.lt_of_lt_of_le hbl HS.out.1.size
      have HBL := Lib.hid hbl
      obtain ⟨⟨x, n⟩, val⟩ := e
      dsimp only at d0 d1 d2 HV
      clear c0 c1 c2 he hfe hbl
      cases hv : V (x, n)
      · have HR : Hid (ckE l = 1) := by rw [Hid]; rw [HQ.out, HS.out.2, HSD.out, if_pos hv]
        rw [hv] at HV
        clear hv
        go_wp2_with (go_at_call 39; refine (HV.out _).mono ?_; rintro en w2 ⟨rfl, hb⟩; have HB2 := Lib.hid (below_then HS.out.1 (below_then (below_alloc _ _) hb)); clear hb)
        go_ret
        exact ⟨by rw [HR.out]; rfl, HB2.out⟩
      · rw [hv] at HV
        have HVV := Lib.hid hv
        clear hv
        go_wp2_with fail
        go_at_call 39
        refine (HV.out _).mono ?_
        rintro en w2 ⟨rfl, hb⟩
        have HB2 := Lib.hid (below_then (below_alloc wr (.cells #[.int .u32 (x : Int), .int .i64 n, .int .i64 val] 51)) hb)
        have e0 := carry hb (p := ⟨wr.heap.size, 0, none⟩) (v := .int .u32 (x : Int)) (by simp)
        have e1 := carry hb (p := ⟨wr.heap.size, 1, none⟩) (v := .int .i64 n) (by simp)
        have e2 := carry hb (p := ⟨wr.heap.size, 2, none⟩) (v := .int .i64 val) (by simp)
        clear hb d0 d1 d2 HV
        by_cases hval : val < -1
        · have HR : Hid (ckE l = 5) := by rw [Hid]; rw [HQ.out, HS.out.2, HSD.out, if_neg (by rw [HVV.out]; simp), if_pos hval]
          go_wp2_with fail
          go_ret
          exact ⟨by rw [HR.out]; rfl, below_then HS.out.1 HB2.out⟩
        · have hval' : decide (val < -1) = false := decide_eq_false hval
          have HNR := Lib.hid hval
          clear hval
          by_cases hk0 : k = 0
          · subst hk0
            have HN : Hid (ckS none l = ckS (prevP l (0 + 1)) (l.drop (0 + 1))) := by
              rw [Hid]
              rw [HS.out.2, HSD.out, if_neg (by rw [HVV.out]; simp), if_neg (by have := HNR.out; omega), if_neg (by show ¬ badP none _ = true; simp [badP])]
            have HF2 := Lib.hid (below_then HS.out.1 HB2.out)
            go_wp2_with fail
            refine wp_region_held_drew (S := fun _ => True) (by kernel_rfl) trivial (fun hS0 => ?_)
            refine wpAnyH_take (i := 0) (oi := ⟨some 25, _, _, _, _, _⟩) (v := .int .i64 ((0 : Nat) : Int)) rfl (by kernel_rfl) (by kernel_rfl) (by kernel_rfl) (fun _ _ _ h => h) (Or.inl ⟨by rfl, by intro w' hw'; go_simp⟩) hS0 ?_
            simp only [Act.put, List.setIfInBounds_toArray, List.set_cons_zero, List.set_cons_succ]
            refine wpAnyH_take (i := 1) (oi := ⟨some 26, _, _, _, _, _⟩) (v := .bool false) rfl (by kernel_rfl) (by kernel_rfl) (by kernel_rfl) (fun _ _ _ h => h) (Or.inl ⟨by rfl, by intro w' hw'; go_simp⟩) hS0 ?_
            simp only [Act.put, List.setIfInBounds_toArray, List.set_cons_zero, List.set_cons_succ]
            refine wpAnyH_take (i := 2) (oi := ⟨some 27, _, _, _, _, _⟩) (v := .bool false) rfl (by kernel_rfl) (by kernel_rfl) (by kernel_rfl) (fun _ _ _ h => h) (Or.inl ⟨by rfl, by intro w' hw'; go_simp⟩) hS0 ?_
            simp only [Act.put, List.setIfInBounds_toArray, List.set_cons_zero, List.set_cons_succ]
            refine wpAnyH_take (i := 3) (oi := ⟨some 28, _, _, _, _, _⟩) (v := undef) rfl (by kernel_rfl) (by kernel_rfl) (by kernel_rfl) (fun _ _ _ h => h) (Or.inr ⟨by rfl, rfl⟩) hS0 ?_
            (try simp only [Act.put, List.setIfInBounds_toArray, List.set_cons_zero, List.set_cons_succ])
            refine wpAnyH_take (i := 4) (oi := ⟨some 29, _, _, _, _, _⟩) (v := undef) rfl (by kernel_rfl) (by kernel_rfl) (by kernel_rfl) (fun _ _ _ h => h) (Or.inr ⟨by rfl, rfl⟩) hS0 ?_
            (try simp only [Act.put, List.setIfInBounds_toArray, List.set_cons_zero, List.set_cons_succ])
            refine wpAnyH_take (i := 5) (oi := ⟨some 30, _, _, _, _, _⟩) (v := undef) rfl (by kernel_rfl) (by kernel_rfl) (by kernel_rfl) (fun _ _ _ h => h) (Or.inr ⟨by rfl, rfl⟩) hS0 ?_
            (try simp only [Act.put, List.setIfInBounds_toArray, List.set_cons_zero, List.set_cons_succ])
            refine wpAnyH_take (i := 6) (oi := ⟨some 31, _, _, _, _, _⟩) (v := undef) rfl (by kernel_rfl) (by kernel_rfl) (by kernel_rfl) (fun _ _ _ h => h) (Or.inr ⟨by rfl, rfl⟩) hS0 ?_
            (try simp only [Act.put, List.setIfInBounds_toArray, List.set_cons_zero, List.set_cons_succ])
            refine wpAnyH_take (i := 7) (oi := ⟨some 32, _, _, _, _, _⟩) (v := undef) rfl (by kernel_rfl) (by kernel_rfl) (by kernel_rfl) (fun _ _ _ h => h) (Or.inr ⟨by rfl, rfl⟩) hS0 ?_
            (try simp only [Act.put, List.setIfInBounds_toArray, List.set_cons_zero, List.set_cons_succ])
            refine wpAnyH_take (i := 8) (oi := ⟨some 33, _, _, _, _, _⟩) (v := undef) rfl (by kernel_rfl) (by kernel_rfl) (by kernel_rfl) (fun _ _ _ h => h) (Or.inr ⟨by rfl, rfl⟩) hS0 ?_
            (try simp only [Act.put, List.setIfInBounds_toArray, List.set_cons_zero, List.set_cons_succ])
            refine wpAnyH_take (i := 9) (oi := ⟨some 34, _, _, _, _, _⟩) (v := undef) rfl (by kernel_rfl) (by kernel_rfl) (by kernel_rfl) (fun _ _ _ h => h) (Or.inr ⟨by rfl, rfl⟩) hS0 ?_
            (try simp only [Act.put, List.setIfInBounds_toArray, List.set_cons_zero, List.set_cons_succ])
            refine wpAnyH_take (i := 10) (oi := ⟨some 35, _, _, _, _, _⟩) (v := undef) rfl (by kernel_rfl) (by kernel_rfl) (by kernel_rfl) (fun _ _ _ h => h) (Or.inr ⟨by rfl, rfl⟩) hS0 ?_
            (try simp only [Act.put, List.setIfInBounds_toArray, List.set_cons_zero, List.set_cons_succ])
            refine wpAnyH_take (i := 11) (oi := ⟨some 36, _, _, _, _, _⟩) (v := undef) rfl (by kernel_rfl) (by kernel_rfl) (by kernel_rfl) (fun _ _ _ h => h) (Or.inr ⟨by rfl, rfl⟩) hS0 ?_
            (try simp only [Act.put, List.setIfInBounds_toArray, List.set_cons_zero, List.set_cons_succ])
            refine wpAnyH_take (i := 12) (oi := ⟨some 37, _, _, _, _, _⟩) (v := undef) rfl (by kernel_rfl) (by kernel_rfl) (by kernel_rfl) (fun _ _ _ h => h) (Or.inr ⟨by rfl, rfl⟩) hS0 ?_
            (try simp only [Act.put, List.setIfInBounds_toArray, List.set_cons_zero, List.set_cons_succ])
            refine wpAnyH_take (i := 13) (oi := ⟨some 38, _, _, _, _, _⟩) (v := .bool false) rfl (by kernel_rfl) (by kernel_rfl) (by kernel_rfl) (fun _ _ _ h => h) (Or.inl ⟨by rfl, by intro w' hw'; go_simp⟩) hS0 ?_
            simp only [Act.put, List.setIfInBounds_toArray, List.set_cons_zero, List.set_cons_succ]
            refine wpAnyH_take (i := 14) (oi := ⟨some 24, _, _, _, _, _⟩) (v := .bool false) rfl (by kernel_rfl) (by kernel_rfl) (by kernel_rfl) (fun _ _ _ h => h) (Or.inl ⟨by rfl, by intro w' hw'; go_simp⟩) hS0 ?_
            simp only [Act.put, List.setIfInBounds_toArray, List.set_cons_zero, List.set_cons_succ]
            refine wpAnyH_done (by kernel_rfl) ?_ _
            go_wp2_with fail
            go_roundg (L - 1)
            case measure => omega
            case rel => exact ⟨1, ⟨_, rfl⟩, ⟨_, rfl⟩, by go_num, ⟨_, rfl⟩, ⟨_, rfl⟩, ⟨_, rfl⟩, by omega, Nat.le_refl _, below_then HS.out.1 (HB2.out.drew), HN.out⟩
          · obtain ⟨j, rfl⟩ : ∃ j, k = j + 1 := ⟨k - 1, by omega⟩
            obtain ⟨f, hfj⟩ : ∃ x, l[j]? = some x := ⟨_, List.getElem?_eq_getElem (by have := HL.out; omega)⟩
            obtain ⟨b', off', hbb, _, c0, c1, c2⟩ := HC.out j f hfj
            cases hbb
            have p0 := carryE (HS.out.1.trans (HB2.out.mono HS.out.1.size)) HBL.out c0
            have p1 := carryE (HS.out.1.trans (HB2.out.mono HS.out.1.size)) HBL.out c1
            have hpr : prevP l (j + 1) = some f.1 := by show l[j]?.map (·.1) = _; rw [hfj]; rfl
            have HCP : Hid (∀ W, Calls Try.prog 85 #[.agg #[.int .u32 (f.1.1 : Int), .int .i64 f.1.2], .agg #[.int .u32 (x : Int), .int .i64 n]] W fun en w' => en = .returned (.int .i64 (cmpP f.1.1 f.1.2 x n)) ∧ Below W.heap.size W w') := fun W => rcompare_any f.1.1 f.1.2 x n W
            have HNN := Lib.hid (cmpP_nonneg (p := f.1) (q := (x, n)))
            have HPR := Lib.hid hpr
            obtain ⟨⟨fx, fn⟩, fval⟩ := f
            dsimp only at p0 p1 HCP HNN HPR
            generalize cmpP fx fn x n = cq at *
            have hjw : IntKind.i64.wrap ((j : Int)) = (j : Int) := IntWalk.i64_in _ (by omega)
            have i0 : (0 : Int) ≤ (j : Int) := by omega
            have i1 : (j : Int) < (L : Int) := by omega
            clear c0 c1 c2 hfj hpr hk0
            go_wp2_with fail
            go_region_held3 (fun w' => w'.cell? ⟨wr.heap.size, 0, none⟩ = some (.int .u32 (x : Int)) ∧ w'.cell? ⟨wr.heap.size, 1, none⟩ = some (.int .i64 n) ∧ w'.cell? ⟨b, off + j * 3, none⟩ = some (.int .u32 (fx : Int)) ∧ w'.cell? ⟨b, off + j * 3 + 1, none⟩ = some (.int .i64 fn))
              (first | exact ⟨e0, e1, p0, p1⟩ | assumption)
              (first | (go_at_call 85; refine (HCP.out _).mono ?_; rintro en w3 ⟨rfl, hb⟩; have HB3 : Hid (Below w2.heap.size w2 w3) := ⟨hb.os, hb.tape, hb.output, hb.size, hb.block⟩; have hk := (And.intro (carry HB3.out e0) (And.intro (carry HB3.out e1) (And.intro (carry HB3.out p0) (carry HB3.out p1)))); clear hb))
            all_goals (
              have HB4 : Hid (Below w.heap.size w w3) := below_then (below_then HS.out.1 HB2.out) HB3.out
              clear hk e0 e1 e2 p0 p1 HCP
              by_cases hge : 0 ≤ cq
              · have HR : Hid (ckE l = 16) := by
                  rw [Hid]
                  rw [HQ.out, HS.out.2, HSD.out, if_neg (by rw [HVV.out]; simp), if_neg (by have := HNR.out; omega), if_pos (by rw [HPR.out]; unfold badP; simpa using HNN.out.1 hge)]
                go_wp2_with fail
                go_ret
                exact ⟨by rw [HR.out]; rfl, HB4.out⟩
              · have HN : Hid (ckS none l = ckS (prevP l (j + 1 + 1)) (l.drop (j + 1 + 1))) := by
                  rw [Hid]
                  rw [HS.out.2, HSD.out, if_neg (by rw [HVV.out]; simp), if_neg (by have := HNR.out; omega), if_neg (by rw [HPR.out]; unfold badP; have := fun h => hge (HNN.out.2 h); simpa using this)]
                have hge' : decide (0 ≤ cq) = false := decide_eq_false hge
                go_wp2_with fail
                go_roundg (L - (j + 1 + 1))
                case measure => omega
                case rel => exact ⟨j + 1 + 1, ⟨_, rfl⟩, ⟨_, rfl⟩, by go_num, ⟨_, rfl⟩, ⟨_, rfl⟩, ⟨_, rfl⟩, by omega, Nat.le_refl _, HB4.out, HN.out⟩)
    · have k1 : decide ((k : Int) < (L : Int)) = false := decide_eq_false (by omega)
      have HR : Hid (ckE l = 0) := by
        rw [Hid]
        have hkl : k = l.length := by have := HL.out; omega
        rw [HQ.out, HS.out.2, hkl, ckS_end]
      go_wp2
      go_ret
      exact ⟨by rw [HR.out]; rfl, HS.out.1⟩
end Go.Proofs.Ytegponbmelgngaa
end

section
namespace Go.Proofs.Ytegponbmelgngaa
open Go.RowKit
set_option linter.unusedSimpArgs false
set_option linter.unusedVariables false
set_option maxHeartbeats 1500000
set_option maxRecDepth 100000

theorem take_snocN {l : List En} {k : Nat} {e : En} (h : l[k]? = some e) : l.take (k + 1) = l.take k ++ [e] := by rw [List.take_add_one, h]; rfl
theorem lkE_yes {l : List En} {k a : Nat} {e : En} (h : l[k]? = some e) (hc : con e.1.1 e.1.2 a = true) (v : Int) : lkE a v (l.take (k + 1)) = e.2 := by rw [take_snocN h, lkE_snoc, if_pos hc]
theorem lkE_no {l : List En} {k a : Nat} {e : En} (h : l[k]? = some e) (hc : con e.1.1 e.1.2 a = false) (v : Int) : lkE a v (l.take (k + 1)) = lkE a v (l.take k) := by rw [take_snocN h, lkE_snoc, if_neg (by rw [hc]; simp)]
/-- the lookup in a list that may be no table -/
def lkT (a : Nat) (l : List En) : Int := if ckE l = 0 then lkE a (-1) l else -1
theorem lookup49_bad (l : List En) (v : Value) (a : Nat) (w : World) (hr : RdE w v l) (hf : FitE l) (h : ckE l ≠ 0) :
    Calls Try.prog 49 #[v, .int .u32 (a : Int)] w fun e w' => e = .returned (.int .i64 (lkT a l)) ∧ Below w.heap.size w w' := by
  have HQ : Hid (lkT a l = -1) := if_neg h
  have HC := Lib.hid (check47_any l v w hr hf)
  generalize ckE l = q at *
  have h1 : (q == 0) = false := by simpa using h
  have h2 : (q != 0) = true := by simpa using h
  clear h hr hf
  go_enter Try.func49, Try.ntmps49
  go_wp2_with (go_at_call 47; refine HC.out.mono ?_; rintro en w1 ⟨rfl, hb⟩; have HB := Lib.hid hb; clear hb)
  go_ret
  exact ⟨by rw [HQ.out]; rfl, HB.out⟩
theorem lookup49_any (l : List En) (v : Value) (a : Nat) (w : World) (hr : RdE w v l) (hf : FitE l) (ha : a < 4294967296) :
    Calls Try.prog 49 #[v, .int .u32 (a : Int)] w fun e w' => e = .returned (.int .i64 (lkT a l)) ∧ Below w.heap.size w w' := by
  by_cases hck : ckE l = 0
  · have HQ : Hid (lkT a l = lkE a (-1) l) := if_pos hck
    have hlen := (ckE_iff.1 hck).len
    have HC : Hid (Calls Try.prog 47 #[v] w fun e w' => e = .returned (.int .i64 0) ∧ Below w.heap.size w w') := by have := check47_any l v w hr hf; rwa [hck] at this
    obtain ⟨ad, cap, rfl, hc⟩ := hr
    have HR := Lib.hid hc
    have HF := Lib.hid hf
    obtain ⟨L, hL⟩ : ∃ L, l.length = L := ⟨_, rfl⟩
    rw [hL] at HC hlen ⊢
    have HL := Lib.hid hL
    have HA := Lib.hid ha
    clear hck hc hf hL ha
    go_enter Try.func49, Try.ntmps49
    go_wp2_with (go_at_call 47; refine HC.out.mono ?_; rintro en w1 ⟨rfl, hb⟩; have HB := Lib.hid hb; clear hb)
    go_loopg [5, 7, 14] L (fun g s5 s7 s14 wr => ∃ (k : Nat) (z : Int), s5 = .int .i64 z ∧ (∃ u, u = s7) ∧ s14 = .int .i64 (k : Int) ∧ k ≤ L ∧ L - k ≤ g ∧ Hid (Below w.heap.size w wr ∧ z = lkE a (-1) (l.take k)))
    case atStart => exact ⟨0, -1, rfl, ⟨_, rfl⟩, rfl, by omega, by omega, HB.out, rfl⟩
    case round =>
      obtain ⟨k, z, rfl, ⟨u7, rfl⟩, rfl, hk, hg, HS⟩ := hrel
      by_cases hlt : k < L
      · obtain ⟨e, he⟩ : ∃ x, l[k]? = some x := ⟨_, List.getElem?_eq_getElem (by have := HL.out; omega)⟩
        obtain ⟨b, off, rfl, hbl, c0, c1, c2⟩ := HR.out k e he
        have d0 := carryE HS.out.1 hbl c0
        have d1 := carryE HS.out.1 hbl c1
        have d2 := carryE HS.out.1 hbl c2
        have hfe := HF.out e (List.mem_of_getElem? he)
        have HCO : Hid (∀ W, Calls Try.prog 76 #[.agg #[.int .u32 (e.1.1 : Int), .int .i64 e.1.2], .int .u32 (a : Int)] W fun en w' => en = .returned (.bool (con e.1.1 e.1.2 a)) ∧ Below W.heap.size W w') := fun W => contains_any e.1.1 hfe.1 e.1.2 hfe.2.1 a HA.out W
        have HY := Lib.hid (lkE_yes he (a := a) · (-1))
        have HN := Lib.hid (lkE_no he (a := a) · (-1))
        obtain ⟨⟨x, n⟩, val⟩ := e
        dsimp only at d0 d1 d2 HCO HY HN
        clear c0 c1 c2 he hfe hbl
        cases hc : con x n a
        · have HN2 := Lib.hid (HN.out hc)
          rw [hc] at HCO
          clear hc HY HN
          go_wp2_with (go_at_call 76; refine (HCO.out _).mono ?_; rintro en w2 ⟨rfl, hb⟩; have HB2 := Lib.hid (below_then HS.out.1 (below_then (below_alloc _ _) hb)); clear hb)
          go_roundg (L - (k + 1))
          case measure => omega
          case rel => exact ⟨k + 1, z, rfl, ⟨_, rfl⟩, by go_num, by omega, Nat.le_refl _, HB2.out, by rw [HN2.out]; exact HS.out.2⟩
        · have HY2 := Lib.hid (HY.out hc)
          rw [hc] at HCO
          clear hc HY HN
          go_wp2_with fail
          go_at_call 76
          refine (HCO.out _).mono ?_
          rintro en w2 ⟨rfl, hb⟩
          have HB2 := Lib.hid (below_then HS.out.1 (below_then (below_alloc wr (.cells #[.int .u32 (x : Int), .int .i64 n, .int .i64 val] 51)) hb))
          have e2 := carry hb (p := ⟨wr.heap.size, 2, none⟩) (v := .int .i64 val) (by simp)
          clear hb d0 d1 d2
          go_wp2_with fail
          go_roundg (L - (k + 1))
          case measure => omega
          case rel => exact ⟨k + 1, val, rfl, ⟨_, rfl⟩, by go_num, by omega, Nat.le_refl _, HB2.out, HY2.out.symm⟩
      · have k1 : decide ((k : Int) < (L : Int)) = false := decide_eq_false (by omega)
        have HR2 : Hid (lkT a l = z) := by
          show _ = _
          have h1 := HS.out.2
          rw [List.take_of_length_le (by have := HL.out; omega)] at h1
          rw [HQ.out, h1]
        go_wp2
        go_ret
        exact ⟨by rw [HR2.out]; rfl, HS.out.1⟩
  · exact lookup49_bad l v a w hr hf hck
/-- of two valid prefixes that have an address the one that stands before is shorter -/
theorem con_shorter {p q : PP} {a : Nat} (hp : con p.1 p.2 a = true) (hq : con q.1 q.2 a = true) (h : ltP p q) : p.2 < q.2 := by
  have vp : vld p.1 p.2 = true := by cases hv : vld p.1 p.2 <;> first | rfl | (rw [con_out hv] at hp; cases hp)
  have vq : vld q.1 q.2 = true := by cases hv : vld q.1 q.2 <;> first | rfl | (rw [con_out hv] at hq; cases hq)
  have ap := (con_in vp a).1 hp
  have aq := (con_in vq a).1 hq
  have ip := (V_al p.1 p.2).1 vp
  have iq := (V_al q.1 q.2).1 vq
  refine Classical.byContradiction fun hn => ?_
  have hle : 32 - p.2.toNat ≤ 32 - q.2.toNat := by omega
  have hnest := CM.nest iq.2.2 ip.2.2 hle aq.1 aq.2 ap.1 ap.2
  unfold ltP at h
  omega
/-- the length of the last prefix that has the address -/
def lnE (a : Nat) (l : List En) : Int := l.foldl (fun acc e => if con e.1.1 e.1.2 a = true then e.1.2 else acc) (-1)
theorem lnE_snoc (a : Nat) (l : List En) (e : En) : lnE a (l ++ [e]) = if con e.1.1 e.1.2 a = true then e.1.2 else lnE a l := by unfold lnE; rw [List.foldl_append]; rfl
theorem lnE_or (a : Nat) (l : List En) : lnE a l = -1 ∨ ∃ e ∈ l, con e.1.1 e.1.2 a = true ∧ lnE a l = e.1.2 := by
  have aux : ∀ (l : List En) (v : Int), (l.foldl (fun acc e => if con e.1.1 e.1.2 a = true then e.1.2 else acc) v) = v ∨ ∃ e ∈ l, con e.1.1 e.1.2 a = true ∧ (l.foldl (fun acc e => if con e.1.1 e.1.2 a = true then e.1.2 else acc) v) = e.1.2 := by
    intro l
    induction l with
    | nil => intro v; exact .inl rfl
    | cons e r ih =>
      intro v
      rw [List.foldl_cons]
      rcases ih (if con e.1.1 e.1.2 a = true then e.1.2 else v) with h | ⟨x, hx, h1, h2⟩
      · by_cases hc : con e.1.1 e.1.2 a = true
        · rw [if_pos hc] at h ⊢; exact .inr ⟨e, by simp, hc, h⟩
        · rw [if_neg hc] at h ⊢; exact .inl h
      · exact .inr ⟨x, List.mem_cons_of_mem _ hx, h1, h2⟩
  exact aux l (-1)
theorem lnE_lt {l : List En} (ht : TabE l) {k a : Nat} {e : En} (he : l[k]? = some e) (hc : con e.1.1 e.1.2 a = true) : lnE a (l.take k) < e.1.2 := by
  have hv := (V_iff _).1 (ht.val e (List.mem_of_getElem? he)).1
  rcases lnE_or a (l.take k) with h | ⟨f, hf, hcf, h⟩
  · omega
  · rw [h]
    obtain ⟨i, hi, ef⟩ := List.getElem_of_mem hf
    rw [List.length_take] at hi
    rw [List.getElem_take] at ef
    obtain ⟨hk, ee⟩ := List.getElem?_eq_some_iff.1 he
    have := List.pairwise_iff_getElem.1 ht.asc i k (by omega) hk (by omega)
    rw [ef, ee] at this
    exact con_shorter hcf hc this
theorem rlookup86_any (l : List En) (v : Value) (a : Nat) (w : World) (ht : TabE l) (hr : RdE w v l) (hf : FitE l) (ha : a < 4294967296) :
    Calls Try.prog 86 #[v, .int .u32 (a : Int)] w fun e w' => e = .returned (.int .i64 (lkE a (-1) l)) ∧ Below w.heap.size w w' := by
  have hlen := ht.len
  obtain ⟨ad, cap, rfl, hc⟩ := hr
  have HR := Lib.hid hc
  have HF := Lib.hid hf
  have HT := Lib.hid ht
  obtain ⟨L, hL⟩ : ∃ L, l.length = L := ⟨_, rfl⟩
  rw [hL] at hlen ⊢
  have HL := Lib.hid hL
  have HA := Lib.hid ha
  clear hc hf hL ha ht
  go_enter Try.func86, Try.ntmps86
  go_wp2_with fail
  go_loopg [5, 6, 8, 11] L (fun g s5 s6 s8 s11 wr => ∃ (k : Nat) (z m : Int), s5 = .int .i64 z ∧ s6 = .int .i64 m ∧ (∃ u, u = s8) ∧ s11 = .int .i64 (k : Int) ∧ k ≤ L ∧ L - k ≤ g ∧ Hid (Below w.heap.size w wr ∧ z = lkE a (-1) (l.take k) ∧ m = lnE a (l.take k)))
  case atStart => exact ⟨0, -1, -1, rfl, rfl, ⟨_, rfl⟩, rfl, by omega, by omega, Below.refl _ _, rfl, rfl⟩
  case round =>
    obtain ⟨k, z, m, rfl, rfl, ⟨u8, rfl⟩, rfl, hk, hg, HS⟩ := hrel
    by_cases hlt : k < L
    · obtain ⟨e, he⟩ : ∃ x, l[k]? = some x := ⟨_, List.getElem?_eq_getElem (by have := HL.out; omega)⟩
      obtain ⟨b, off, rfl, hbl, c0, c1, c2⟩ := HR.out k e he
      have d0 := carryE HS.out.1 hbl c0
      have d1 := carryE HS.out.1 hbl c1
      have d2 := carryE HS.out.1 hbl c2
      have hfe := HF.out e (List.mem_of_getElem? he)
      have HCO : Hid (∀ W, Calls Try.prog 77 #[.agg #[.int .u32 (e.1.1 : Int), .int .i64 e.1.2], .int .u32 (a : Int)] W fun en w' => en = .returned (.bool (con e.1.1 e.1.2 a)) ∧ Below W.heap.size W w') := fun W => rcontains_any e.1.1 hfe.1 e.1.2 hfe.2.1 a HA.out W
      have HY := Lib.hid (lkE_yes he (a := a) · (-1))
      have HN := Lib.hid (lkE_no he (a := a) · (-1))
      have HLT := Lib.hid (lnE_lt HT.out he (a := a))
      have HM : Hid (lnE a (l.take (k + 1)) = if con e.1.1 e.1.2 a = true then e.1.2 else lnE a (l.take k)) := by show _ = _; rw [take_snocN he, lnE_snoc]
      obtain ⟨⟨x, n⟩, val⟩ := e
      dsimp only at d0 d1 d2 HCO HY HN HLT HM
      clear c0 c1 c2 he hfe hbl
      cases hc : con x n a
      · have HN2 : Hid (lkE a (-1) (l.take (k + 1)) = lkE a (-1) (l.take k) ∧ lnE a (l.take (k + 1)) = lnE a (l.take k)) := ⟨HN.out hc, by rw [HM.out, if_neg (by rw [hc]; simp)]⟩
        rw [hc] at HCO
        clear hc HY HN HLT HM
        by_cases hmn : m < n
        · go_wp2_with (go_at_call 77; refine (HCO.out _).mono ?_; rintro en w2 ⟨rfl, hb⟩; have HB2 := Lib.hid (below_then HS.out.1 (below_then (below_alloc _ _) hb)); clear hb)
          go_roundg (L - (k + 1))
          case measure => omega
          case rel => exact ⟨k + 1, z, m, rfl, rfl, ⟨_, rfl⟩, by go_num, by omega, Nat.le_refl _, HB2.out, by rw [HN2.out.1]; exact HS.out.2.1, by rw [HN2.out.2]; exact HS.out.2.2⟩
        · have hmn' : decide (m < n) = false := decide_eq_false hmn
          have HB2 := Lib.hid (below_then HS.out.1 (below_alloc wr (.cells #[.int .u32 (x : Int), .int .i64 n, .int .i64 val] 51)))
          go_wp2_with fail
          go_roundg (L - (k + 1))
          case measure => omega
          case rel => exact ⟨k + 1, z, m, rfl, rfl, ⟨_, rfl⟩, by go_num, by omega, Nat.le_refl _, HB2.out, by rw [HN2.out.1]; exact HS.out.2.1, by rw [HN2.out.2]; exact HS.out.2.2⟩
      · have HY2 : Hid (lkE a (-1) (l.take (k + 1)) = val ∧ lnE a (l.take (k + 1)) = n) := ⟨HY.out hc, by rw [HM.out, if_pos hc]⟩
        have hmn : m < n := by have := HLT.out hc; rw [← HS.out.2.2] at this; exact this
        rw [hc] at HCO
        clear hc HY HN HLT HM
        go_wp2_with fail
        go_at_call 77
        refine (HCO.out _).mono ?_
        rintro en w2 ⟨rfl, hb⟩
        have HB2 := Lib.hid (below_then HS.out.1 (below_then (below_alloc wr (.cells #[.int .u32 (x : Int), .int .i64 n, .int .i64 val] 51)) hb))
        have e1 := carry hb (p := ⟨wr.heap.size, 1, none⟩) (v := .int .i64 n) (by simp)
        have e2 := carry hb (p := ⟨wr.heap.size, 2, none⟩) (v := .int .i64 val) (by simp)
        clear hb d0 d1 d2
        go_wp2_with fail
        go_quiet (fail)
        go_wp2_with fail
        go_roundg (L - (k + 1))
        case measure => omega
        case rel => exact ⟨k + 1, val, n, rfl, rfl, ⟨_, rfl⟩, by go_num, by omega, Nat.le_refl _, below_drewN HB2.out _, HY2.out.1.symm, HY2.out.2.symm⟩
    · have k1 : decide ((k : Int) < (L : Int)) = false := decide_eq_false (by omega)
      have HR2 : Hid (lkE a (-1) l = z) := by
        show _ = _
        have h1 := HS.out.2.1
        rw [List.take_of_length_le (by have := HL.out; omega)] at h1
        exact h1.symm
      go_wp2
      go_ret
      exact ⟨by rw [HR2.out]; rfl, HS.out.1⟩
theorem rlookup50_any (l : List En) (v : Value) (a : Nat) (w : World) (hr : RdE w v l) (hf : FitE l) (ha : a < 4294967296) :
    Calls Try.prog 50 #[v, .int .u32 (a : Int)] w fun e w' => e = .returned (.int .i64 (lkT a l)) ∧ Below w.heap.size w w' := by
  have HC := Lib.hid (rcheck48_any l v w hr hf)
  by_cases hck : ckE l = 0
  · have HQ : Hid (lkT a l = lkE a (-1) l) := if_pos hck
    have HLK : Hid (∀ W, Below w.heap.size w W → Calls Try.prog 86 #[v, .int .u32 (a : Int)] W fun e w' => e = .returned (.int .i64 (lkE a (-1) l)) ∧ Below W.heap.size W w') := fun W hW => rlookup86_any l v a W (ckE_iff.1 hck) (hr.below hW) hf ha
    rw [hck] at HC
    clear hck hr hf ha
    go_enter Try.func50, Try.ntmps50
    go_wp2_with (first
      | (go_at_call 48; refine HC.out.mono ?_; rintro en w1 ⟨rfl, hb⟩; have HB := Lib.hid hb; clear hb)
      | (go_at_call 86; refine (HLK.out _ HB.out).mono ?_; rintro en w2 ⟨rfl, hb⟩; have HB2 := Lib.hid (below_then HB.out hb); clear hb))
    go_ret
    exact ⟨by rw [HQ.out]; rfl, HB2.out⟩
  · have HQ : Hid (lkT a l = -1) := if_neg hck
    generalize ckE l = q at *
    have h1 : (q == 0) = false := by simpa using hck
    have h2 : (q != 0) = true := by simpa using hck
    clear hck hr hf ha
    go_enter Try.func50, Try.ntmps50
    go_wp2_with (go_at_call 48; refine HC.out.mono ?_; rintro en w1 ⟨rfl, hb⟩; have HB := Lib.hid hb; clear hb)
    go_ret
    exact ⟨by rw [HQ.out]; rfl, HB.out⟩
end Go.Proofs.Ytegponbmelgngaa
end
