/-
  The walks of the closures of Without and Cut, and of slices.IndexFunc and slices.DeleteFunc at edges by them.
-/
import Derived.Test.YtiodpgannelgpaaGrTv
import Derived.Test.YtiodpgannelgpaaGrU
namespace Go.Proofs.Ytiodpgannelgpaa
open Go.RowKit GM Go.Sort Go.Lib
set_option linter.unusedSimpArgs false
set_option linter.unusedVariables false
set_option maxHeartbeats 1500000
set_option maxRecDepth 100000

theorem below_self {B : Nat} {w w' : World} (h : Below B w w') (hB : B = w.heap.size) : Below w.heap.size w w' := hB ▸ h
theorem wo68_any (x : E) (c : Nat) (n : Int) (W : World) (hc : W.cell? ⟨c, 0, none⟩ = some (.int .i64 n)) :
    Calls Try.prog 68 #[.agg #[.int .i64 x.1, .int .i64 x.2.1, .int .i64 x.2.2], .pointer (some ⟨c, 0, none⟩)] W fun e w' => e = .returned (.bool (woQ n x)) ∧ Below W.heap.size W w' := by
  obtain ⟨x, y, z⟩ := x
  have ca := carry (below_alloc W (.cells #[.int .i64 x, .int .i64 y, .int .i64 z] 52)) hc
  have HB : Hid (Below W.heap.size W (W.alloc (.cells #[.int .i64 x, .int .i64 y, .int .i64 z] 52))) := below_alloc _ _
  dsimp only
  cases h1 : (x == n)
  · cases h2 : (y == n)
    · have hq : Hid (woQ n (x, y, z) = false) := by show _ = _; simp [woQ, h1, h2]
      go_enter Try.func68, Try.ntmps68
      go_wp2
      go_ret
      exact ⟨by rw [hq.out]; rfl, HB.out⟩
    · have hq : Hid (woQ n (x, y, z) = true) := by show _ = _; simp [woQ, h1, h2]
      go_enter Try.func68, Try.ntmps68
      go_wp2
      go_ret
      exact ⟨by rw [hq.out]; rfl, HB.out⟩
  · have hq : Hid (woQ n (x, y, z) = true) := by show _ = _; simp [woQ, h1]
    go_enter Try.func68, Try.ntmps68
    go_wp2
    go_ret
    exact ⟨by rw [hq.out]; rfl, HB.out⟩
theorem cut_ld (a b : Int) (x : E) : cutQ a b x = (ldB x a b || ldB x b a) := by
  unfold cutQ ldB
  rw [Bool.eq_iff_iff]
  simp
theorem cut69_any (x : E) (c d : Nat) (a b : Int) (W : World) (hc : W.cell? ⟨c, 0, none⟩ = some (.int .i64 a)) (hd : W.cell? ⟨d, 0, none⟩ = some (.int .i64 b)) :
    Calls Try.prog 69 #[.agg #[.int .i64 x.1, .int .i64 x.2.1, .int .i64 x.2.2], .pointer (some ⟨c, 0, none⟩), .pointer (some ⟨d, 0, none⟩)] W fun e w' => e = .returned (.bool (cutQ a b x)) ∧ Below W.heap.size W w' := by
  have HL1 : Hid (∀ W, Calls Try.prog 55 #[.agg #[.int .i64 x.1, .int .i64 x.2.1, .int .i64 x.2.2], .int .i64 a, .int .i64 b] W fun en w' => en = .returned (.bool (ldB x a b)) ∧ Gr W w') := fun W => leads_any x a b W
  have HL2 : Hid (∀ W, Calls Try.prog 55 #[.agg #[.int .i64 x.1, .int .i64 x.2.1, .int .i64 x.2.2], .int .i64 b, .int .i64 a] W fun en w' => en = .returned (.bool (ldB x b a)) ∧ Gr W w') := fun W => leads_any x b a W
  have HQ := Lib.hid (cut_ld a b x)
  generalize ldB x a b = p at *
  generalize ldB x b a = q at *
  generalize cutQ a b x = r at *
  obtain ⟨x, y, z⟩ := x
  dsimp only at HL1 HL2 ⊢
  have HB : Hid (Below W.heap.size W (W.alloc (.cells #[.int .i64 x, .int .i64 y, .int .i64 z] 52))) := below_alloc _ _
  have hx : (W.alloc (.cells #[.int .i64 x, .int .i64 y, .int .i64 z] 52)).heap[W.heap.size]? = some (.cells #[.int .i64 x, .int .i64 y, .int .i64 z] 52 (0, 0)) := heap_alloc_new _ _
  have c0 := carry HB.out hc
  have d0 := carry HB.out hd
  have x0 := cell_of hx (o := 0) rfl
  have x1 := cell_of hx (o := 1) rfl
  have x2 := cell_of hx (o := 2) rfl
  clear hx
  cases p
  · go_enter Try.func69, Try.ntmps69
    go_wp2_with fail
    go_at_call 55
    refine (HL1.out _).mono ?_
    rintro e w1 ⟨rfl, hg⟩
    have HB1 : Hid (Below W.heap.size W w1) := below_then HB.out hg.below
    have e0 := carry hg.below c0
    have e1 := carry hg.below d0
    have e2 := carry hg.below x0
    have e3 := carry hg.below x1
    have e4 := carry hg.below x2
    clear hg c0 d0 x0 x1 x2
    go_wp2_with fail
    go_at_call 55
    refine (HL2.out _).mono ?_
    rintro e w2 ⟨rfl, hg⟩
    have HB2 : Hid (Below W.heap.size W w2) := below_then HB1.out hg.below
    clear hg
    cases q
    all_goals
      go_wp2
      go_ret
      exact ⟨by rw [HQ.out]; rfl, HB2.out⟩
  · go_enter Try.func69, Try.ntmps69
    go_wp2_with fail
    go_at_call 55
    refine (HL1.out _).mono ?_
    rintro e w1 ⟨rfl, hg⟩
    have HB1 : Hid (Below W.heap.size W w1) := below_then HB.out hg.below
    clear hg
    go_wp2
    go_ret
    exact ⟨by rw [HQ.out]; rfl, HB1.out⟩

/-- the first element that a function tells -/
def IdxPost (q : E → Bool) (l : List E) (w : World) : Ending → World → Prop := fun e w' =>
  Below w.heap.size w w' ∧ ((∃ k : Nat, k < l.length ∧ e = .returned (.int .i64 (k : Int)) ∧ (∃ x, l[k]? = some x ∧ q x = true) ∧ ∀ x ∈ l.take k, q x = false) ∨ (e = .returned (.int .i64 (-1)) ∧ ∀ x ∈ l, q x = false))
theorem take_snocE {l : List E} {k : Nat} {x : E} (h : l[k]? = some x) : l.take (k + 1) = l.take k ++ [x] := by rw [List.take_add_one, h]; rfl
/-- what DeleteFunc keeps from round to round: of the first j places those that are kept lie at the head -/
structure DelInv (q : E → Bool) (l : List E) (j m : Nat) (dk : Array E) : Prop where
  size : dk.size = l.length
  le : m ≤ j
  len : (notQ q (l.take j)).length = m
  low : ∀ i, i < m → (notQ q (l.take j))[i]? = some dk[i]!
  high : ∀ i, j ≤ i → i < l.length → l[i]? = some dk[i]!
theorem DelInv.skip {q : E → Bool} {l : List E} {j m : Nat} {dk : Array E} {x : E} (h : DelInv q l j m dk) (hx : l[j]? = some x) (hq : q x = true) : DelInv q l (j + 1) m dk := by
  have e := notQ_drop hx hq
  exact ⟨h.size, by have := h.le; omega, by rw [e]; exact h.len, fun i hi => by rw [e]; exact h.low i hi, fun i h1 h2 => h.high i (by omega) h2⟩
theorem DelInv.keep {q : E → Bool} {l : List E} {j m : Nat} {dk : Array E} {x : E} (h : DelInv q l j m dk) (hx : l[j]? = some x) (hq : q x = false) : DelInv q l (j + 1) (m + 1) (dk.setIfInBounds m x) := by
  have e := notQ_keep hx hq
  have hj := (List.getElem?_eq_some_iff.1 hx).1
  have hm := h.le
  have hs := h.size
  refine ⟨by simpa using hs, by omega, by rw [e, List.length_append, h.len]; rfl, fun i hi => ?_, fun i h1 h2 => ?_⟩
  · rw [e]
    by_cases him : i < m
    · rw [List.getElem?_append_left (by rw [h.len]; exact him), h.low i him]
      simp [getElem!_def, Array.getElem?_setIfInBounds_ne (show m ≠ i by omega)]
    · obtain rfl : i = m := by omega
      rw [List.getElem?_append_right (by rw [h.len]; exact Nat.le_refl _), h.len]
      simp [getElem!_def, Array.getElem?_setIfInBounds_self_of_lt (show i < dk.size by omega)]
  · rw [h.high i (by omega) h2]
    simp [getElem!_def, Array.getElem?_setIfInBounds_ne (show m ≠ i by omega)]
theorem DelInv.start {q : E → Bool} {l : List E} {k : Nat} (hk : k < l.length) (h : ∀ x ∈ l.take k, q x = false) (hx : ∃ x, l[k]? = some x ∧ q x = true) : DelInv q l (k + 1) k l.toArray := by
  obtain ⟨x, hx, hq⟩ := hx
  have e0 : notQ q (l.take k) = l.take k := List.filter_eq_self.2 fun x hx => by rw [h x hx]; rfl
  have hlen : (l.take k).length = k := by rw [List.length_take]; omega
  have h0 : DelInv q l k k l.toArray := ⟨by simp, Nat.le_refl _, by rw [e0, hlen], fun i hi => by
    rw [e0, List.getElem?_take, if_pos hi, List.getElem?_eq_getElem (by omega)]
    simp [getElem!_def, List.getElem?_eq_getElem (show i < l.length by omega)], fun i h1 h2 => by
    rw [List.getElem?_eq_getElem h2]
    simp [getElem!_def, List.getElem?_eq_getElem h2]⟩
  exact h0.skip hx hq

theorem index68_any (q : E → Bool) (c : Nat) (l : List E) (v : Value) (w : World) (hl : Fits l) (hr : Rd3 w v l)
    (hQ : ∀ (x : E) (W : World), Below w.heap.size w W → Calls Try.prog 68 #[.agg #[.int .i64 x.1, .int .i64 x.2.1, .int .i64 x.2.2], .pointer (some ⟨c, 0, none⟩)] W fun e w' => e = .returned (.bool (q x)) ∧ Below W.heap.size W w') :
    Calls Try.prog 116 #[v, .func (.func 68) #[] #[.pointer (some ⟨c, 0, none⟩)]] w (IdxPost q l w) := by
  unfold Fits at hl
  obtain ⟨ad, cap, rfl, _, _, hc⟩ := hr
  have HC := Lib.hid hc
  have HQ := Lib.hid hQ
  clear hc hQ
  go_enter Try.func116, Try.ntmps116
  go_wp2
  go_loopg [8, 5] l.length (fun g s8 s5 wr => ∃ k : Nat, k ≤ l.length ∧ l.length - k ≤ g ∧ s8 = .int .i64 k ∧ (∃ u, u = s5) ∧ Hid (Below w.heap.size w wr ∧ ∀ x ∈ l.take k, q x = false))
  case atStart => exact ⟨0, by omega, by omega, rfl, ⟨_, rfl⟩, Below.refl _ _, by simp⟩
  case round =>
    obtain ⟨k, hk, hg, rfl, ⟨u5, rfl⟩, HB⟩ := hrel
    by_cases hlt : k < l.length
    · obtain ⟨x, hx⟩ : ∃ x, l[k]? = some x := ⟨_, List.getElem?_eq_getElem hlt⟩
      obtain ⟨blk, off, rfl, hblk, hc0, hc1, hc2⟩ := HC.out k x hx
      have f0 := carryB HB.out.1 hblk hc0
      have f1 := carryB HB.out.1 hblk hc1
      have f2 := carryB HB.out.1 hblk hc2
      have HX := Lib.hid hx
      have HV : Hid (Calls Try.prog 68 #[.agg #[.int .i64 x.1, .int .i64 x.2.1, .int .i64 x.2.2], .pointer (some ⟨c, 0, none⟩)] wr fun e w' => e = .returned (.bool (q x)) ∧ Below wr.heap.size wr w') := HQ.out x wr HB.out.1
      clear hc0 hc1 hc2 hx
      obtain ⟨x, y, z⟩ := x
      dsimp only at f0 f1 f2 HV
      cases h : q (x, y, z)
      · have HH := Lib.hid h
        rw [h] at HV
        clear h
        go_wp2_with (go_at_call 68; refine HV.out.mono ?_; rintro e w1 ⟨rfl, hb⟩; have B := Lib.hid (below_then HB.out.1 hb); clear hb)
        go_roundg (l.length - (k + 1))
        case measure => omega
        case rel =>
          refine ⟨k + 1, by omega, Nat.le_refl _, by go_num, ⟨_, rfl⟩, B.out, ?_⟩
          rw [take_snocE HX.out]
          intro y hy
          rcases List.mem_append.1 hy with hy | hy
          · exact HB.out.2 y hy
          · rw [List.mem_singleton] at hy; subst hy; exact HH.out
      · have HH := Lib.hid h
        rw [h] at HV
        clear h
        go_wp2_with (go_at_call 68; refine HV.out.mono ?_; rintro e w1 ⟨rfl, hb⟩; have B := Lib.hid (below_then HB.out.1 hb); clear hb)
        go_ret
        exact ⟨B.out, .inl ⟨k, hlt, rfl, ⟨_, HX.out, HH.out⟩, HB.out.2⟩⟩
    · have hkl : k = l.length := by omega
      subst hkl
      go_wp2
      go_ret
      have := HB.out.2
      rw [List.take_length] at this
      exact ⟨HB.out.1, .inr ⟨rfl, this⟩⟩
theorem delete68_any (q : E → Bool) (c : Nat) (blk : Nat) (l : List E) (v : Value) (w : World) (hl : Fits l) (hr : OwnE blk 0 w v l)
    (hQ : ∀ (x : E) (W : World), Below blk w W → Calls Try.prog 68 #[.agg #[.int .i64 x.1, .int .i64 x.2.1, .int .i64 x.2.2], .pointer (some ⟨c, 0, none⟩)] W fun e w' => e = .returned (.bool (q x)) ∧ Below W.heap.size W w') :
    Calls Try.prog 94 #[v, .func (.func 68) #[] #[.pointer (some ⟨c, 0, none⟩)]] w fun e w' => ∃ v', e = .returned v' ∧ OwnE blk 0 w' v' (notQ q l) ∧ Below blk w w' := by
  have HI := Lib.hid (index68_any q c l v w hl hr.rd (fun x W hb => hQ x W (hb.mono (by obtain ⟨_, _, _, _, _, h⟩ := hr; omega))))
  have HQ := Lib.hid hQ
  unfold Fits at hl
  obtain ⟨cap, rfl, hcap, hcap2, hH, hlt⟩ := hr
  have HH := Lib.hid hH
  have HC2 := Lib.hid hcap2
  clear hH hQ hcap2
  go_enter Try.func94, Try.ntmps94
  go_wp2_with fail
  go_at_call 116
  refine HI.out.mono ?_
  rintro e w1 ⟨hb1, ⟨k, hk, rfl, hx, hno⟩ | ⟨rfl, hno⟩⟩
  · have HK : Hid (DelInv q l (k + 1) k l.toArray) := DelInv.start hk hno hx
    have H1 := Lib.hid (holdsE_below HH.out hb1 hlt)
    have B1 := Lib.hid (hb1.mono (show blk ≤ w.heap.size by omega))
    have hlt1 : blk < w1.heap.size := Nat.lt_of_lt_of_le hlt hb1.size
    clear hx hno hb1
    have hd : ((k : Int) == -1) = false := by simp
    go_wp2
    go_loopg [5, 6, 7] l.length (fun g s5 s6 s7 wr => ∃ (j m : Nat) (dk : Array E), s5 = .int .i64 m ∧ s6 = .int .i64 j ∧ (∃ u, u = s7) ∧ m < j ∧ j ≤ l.length ∧ l.length - j ≤ g ∧ dk.size = l.length ∧ Hid (HoldsK encE 3 wr blk 0 dk ∧ Below blk w wr ∧ DelInv q l j m dk ∧ blk < wr.heap.size))
    case atStart => exact ⟨k + 1, k, l.toArray, rfl, by go_num, ⟨_, rfl⟩, by omega, by omega, by omega, by simp, H1.out, B1.out, HK.out, hlt1⟩
    case round =>
      obtain ⟨j, m, dk, rfl, rfl, ⟨u7, rfl⟩, hmj, hj, hg, hsz, HV⟩ := hrel
      have hwr := HV.out.2.2.2
      by_cases hjl : j < l.length
      · obtain ⟨x, hx⟩ : ∃ x, l[j]? = some x := ⟨_, List.getElem?_eq_getElem hjl⟩
        have hxd : dk[j]! = x := by have := HV.out.2.2.1.high j (Nat.le_refl _) hjl; rw [hx] at this; exact (Option.some.inj this).symm
        have HX := Lib.hid hx
        have HN : Hid (∀ W, Below wr.heap.size wr W → Calls Try.prog 68 #[.agg #[.int .i64 x.1, .int .i64 x.2.1, .int .i64 x.2.2], .pointer (some ⟨c, 0, none⟩)] W fun e w' => e = .returned (.bool (q x)) ∧ Below W.heap.size W w') := fun W hW => HQ.out x W (HV.out.2.1.trans (hW.mono (by omega)))
        obtain ⟨x, y, z⟩ := x
        obtain ⟨⟨ox, oy, oz⟩, ho⟩ : ∃ x, dk[m]! = x := ⟨_, rfl⟩
        obtain ⟨⟨c0, c1, c2⟩, _, _, _⟩ := he_cells HV.out.1 (show j < dk.size by omega) hxd
        obtain ⟨⟨o0, o1, o2⟩, o3, o4, o5⟩ := he_cells HV.out.1 (show m < dk.size by omega) ho
        simp only [Nat.zero_add] at c0 c1 c2 o0 o1 o2 o3 o4 o5
        dsimp only at HN
        clear hx hxd ho
        cases hv : q (x, y, z)
        · have HQ1 := Lib.hid hv
          rw [hv] at HN
          clear hv
          go_wp2_with fail
          go_at_call 68
          refine (HN.out _ (below_alloc _ _)).mono ?_
          rintro e w3 ⟨rfl, hb⟩
          have B3 := Lib.hid (below_then (below_alloc _ _) hb)
          have e0 := carry B3.out o0
          have e1 := carry B3.out o1
          have e2 := carry B3.out o2
          have e3 := (B3.out.frozen (p := ⟨blk, m * 3, none⟩) hwr).trans o3
          have e4 := (B3.out.frozen (p := ⟨blk, m * 3 + 1, none⟩) hwr).trans o4
          have e5 := (B3.out.frozen (p := ⟨blk, m * 3 + 2, none⟩) hwr).trans o5
          have x0 := carry hb (p := ⟨wr.heap.size, 0, none⟩) (v := .int .i64 x) (by simp)
          have x1 := carry hb (p := ⟨wr.heap.size, 1, none⟩) (v := .int .i64 y) (by simp)
          have x2 := carry hb (p := ⟨wr.heap.size, 2, none⟩) (v := .int .i64 z) (by simp)
          clear hb c0 c1 c2 o0 o1 o2 o3 o4 o5
          go_wp2
          go_roundg (l.length - (j + 1))
          case measure => omega
          case rel =>
            have h3 := holdsE_below HV.out.1 B3.out hwr
            have hs := holdsE_store (W := w3) h3 (i := m) (by omega) (x, y, z)
            rw [Nat.zero_add] at hs
            have hb3 := HV.out.2.1.trans (B3.out.mono (by omega))
            exact ⟨j + 1, m + 1, dk.setIfInBounds m (x, y, z), by go_num, by go_num, ⟨_, rfl⟩, by omega, by omega, Nat.le_refl _, by simpa using hsz, hs, setCells_below (Nat.le_refl _) (encE (x, y, z)) _ w3 hb3, HV.out.2.2.1.keep HX.out HQ1.out, Nat.lt_of_lt_of_le hwr (by have := B3.out.size; simpa using this)⟩
        · have HQ1 := Lib.hid hv
          rw [hv] at HN
          clear hv
          go_wp2_with (go_at_call 68; refine (HN.out _ (below_alloc _ _)).mono ?_; rintro e w3 ⟨rfl, hb⟩; have B3 := Lib.hid (below_then (below_alloc _ _) hb); clear hb)
          go_roundg (l.length - (j + 1))
          case measure => omega
          case rel =>
            exact ⟨j + 1, m, dk, rfl, by go_num, ⟨_, rfl⟩, by omega, by omega, Nat.le_refl _, hsz, holdsE_below HV.out.1 B3.out hwr, HV.out.2.1.trans (B3.out.mono (by omega)), HV.out.2.2.1.skip HX.out HQ1.out, Nat.lt_of_lt_of_le hwr B3.out.size⟩
      · have hjl' : j = l.length := by omega
        subst hjl'
        have hI := HV.out.2.2.1
        obtain ⟨vs, hvl, hcl⟩ := clear_three (P := Try.prog) wr 22 52 (.int .i64 0) (.int .i64 0) (.int .i64 0) Try.underlying22 Try.zeroValue52 rfl rfl rfl blk (m * 3) (l.length - m) (cap - m) (by omega)
                (fun j hj => by have := (HV.out.1 (m * 3 + j) (by rw [size_flatK]; omega)).1; rw [Nat.zero_add] at this; rw [this]; rfl) (fun j hj => by have := (HV.out.1 (m * 3 + j) (by rw [size_flatK]; omega)).2; rw [Nat.zero_add] at this; exact this)
        have HL := Lib.hid hvl
        have HI2 := Lib.hid hI
        clear hvl hI
        go_wp2
        go_ret
        have hfl : (notQ q l).length = m := by have := HI2.out.len; rwa [List.take_length] at this
        refine ⟨.slice (some ⟨blk, 0, none⟩) m cap, rfl, ⟨cap, by rw [hfl], by rw [hfl]; omega, HC2.out, holdsE_of fun i x hx => ?_, by simpa using hwr⟩, setCells_below (Nat.le_refl _) vs _ wr HV.out.2.1⟩
        have hi : i < m := by have := (List.getElem?_eq_some_iff.1 hx).1; omega
        have hxd : dk[i]! = (x.1, x.2.1, x.2.2) := by have := HI2.out.low i hi; rw [List.take_length, hx] at this; exact (Option.some.inj this).symm
        have hc := he_cells HV.out.1 (show i < dk.size by omega) hxd
        exact ⟨⟨(World.cell?_setCells_out blk vs _ wr ⟨blk, 0 + i * 3, none⟩ (fun _ _ => .inl (by show 0 + i * 3 < m * 3; omega))).trans hc.1.1, (World.cell?_setCells_out blk vs _ wr ⟨blk, 0 + i * 3 + 1, none⟩ (fun _ _ => .inl (by show 0 + i * 3 + 1 < m * 3; omega))).trans hc.1.2.1, (World.cell?_setCells_out blk vs _ wr ⟨blk, 0 + i * 3 + 2, none⟩ (fun _ _ => .inl (by show 0 + i * 3 + 2 < m * 3; omega))).trans hc.1.2.2⟩,
          (World.frozen?_setCells blk vs _ wr _).trans hc.2.1, (World.frozen?_setCells blk vs _ wr _).trans hc.2.2.1, (World.frozen?_setCells blk vs _ wr _).trans hc.2.2.2⟩
  · have HN : Hid (notQ q l = l) := List.filter_eq_self.2 fun x hx => by rw [hno x hx]; rfl
    have B1 := Lib.hid (hb1.mono (show blk ≤ w.heap.size by omega))
    have H1 := Lib.hid (holdsE_below HH.out hb1 hlt)
    have hlt1 : blk < w1.heap.size := Nat.lt_of_lt_of_le hlt hb1.size
    clear hno hb1
    go_wp2
    go_ret
    exact ⟨_, rfl, by rw [HN.out]; exact ⟨cap, rfl, hcap, HC2.out, H1.out, hlt1⟩, B1.out⟩
theorem delete68_none (c : Nat) (w : World) : Calls Try.prog 94 #[.slice none 0 0, .func (.func 68) #[] #[.pointer (some ⟨c, 0, none⟩)]] w fun e w' => e = .returned (.slice none 0 0) ∧ w' = w := by
  have HI : ∀ W : World, Calls Try.prog 116 #[.slice none 0 0, .func (.func 68) #[] #[.pointer (some ⟨c, 0, none⟩)]] W fun e w' => e = .returned (.int .i64 (-1)) ∧ w' = W := fun W => by
    go_enter Try.func116, Try.ntmps116
    go_wp2_with fail
    refine wp_loop_rounds 1 ?_
    rw [rounds_succ]
    go_wp2
    go_ret
    exact ⟨rfl, rfl⟩
  go_enter Try.func94, Try.ntmps94
  go_wp2_with (go_at_call 116; refine (HI _).mono ?_; rintro e w1 ⟨rfl, rfl⟩)
  go_ret
  exact ⟨rfl, rfl⟩

theorem index69_any (q : E → Bool) (c d : Nat) (l : List E) (v : Value) (w : World) (hl : Fits l) (hr : Rd3 w v l)
    (hQ : ∀ (x : E) (W : World), Below w.heap.size w W → Calls Try.prog 69 #[.agg #[.int .i64 x.1, .int .i64 x.2.1, .int .i64 x.2.2], .pointer (some ⟨c, 0, none⟩), .pointer (some ⟨d, 0, none⟩)] W fun e w' => e = .returned (.bool (q x)) ∧ Below W.heap.size W w') :
    Calls Try.prog 116 #[v, .func (.func 69) #[] #[.pointer (some ⟨c, 0, none⟩), .pointer (some ⟨d, 0, none⟩)]] w (IdxPost q l w) := by
  unfold Fits at hl
  obtain ⟨ad, cap, rfl, _, _, hc⟩ := hr
  have HC := Lib.hid hc
  have HQ := Lib.hid hQ
  clear hc hQ
  go_enter Try.func116, Try.ntmps116
  go_wp2
  go_loopg [8, 5] l.length (fun g s8 s5 wr => ∃ k : Nat, k ≤ l.length ∧ l.length - k ≤ g ∧ s8 = .int .i64 k ∧ (∃ u, u = s5) ∧ Hid (Below w.heap.size w wr ∧ ∀ x ∈ l.take k, q x = false))
  case atStart => exact ⟨0, by omega, by omega, rfl, ⟨_, rfl⟩, Below.refl _ _, by simp⟩
  case round =>
    obtain ⟨k, hk, hg, rfl, ⟨u5, rfl⟩, HB⟩ := hrel
    by_cases hlt : k < l.length
    · obtain ⟨x, hx⟩ : ∃ x, l[k]? = some x := ⟨_, List.getElem?_eq_getElem hlt⟩
      obtain ⟨blk, off, rfl, hblk, hc0, hc1, hc2⟩ := HC.out k x hx
      have f0 := carryB HB.out.1 hblk hc0
      have f1 := carryB HB.out.1 hblk hc1
      have f2 := carryB HB.out.1 hblk hc2
      have HX := Lib.hid hx
      have HV : Hid (Calls Try.prog 69 #[.agg #[.int .i64 x.1, .int .i64 x.2.1, .int .i64 x.2.2], .pointer (some ⟨c, 0, none⟩), .pointer (some ⟨d, 0, none⟩)] wr fun e w' => e = .returned (.bool (q x)) ∧ Below wr.heap.size wr w') := HQ.out x wr HB.out.1
      clear hc0 hc1 hc2 hx
      obtain ⟨x, y, z⟩ := x
      dsimp only at f0 f1 f2 HV
      cases h : q (x, y, z)
      · have HH := Lib.hid h
        rw [h] at HV
        clear h
        go_wp2_with (go_at_call 69; refine HV.out.mono ?_; rintro e w1 ⟨rfl, hb⟩; have B := Lib.hid (below_then HB.out.1 hb); clear hb)
        go_roundg (l.length - (k + 1))
        case measure => omega
        case rel =>
          refine ⟨k + 1, by omega, Nat.le_refl _, by go_num, ⟨_, rfl⟩, B.out, ?_⟩
          rw [take_snocE HX.out]
          intro y hy
          rcases List.mem_append.1 hy with hy | hy
          · exact HB.out.2 y hy
          · rw [List.mem_singleton] at hy; subst hy; exact HH.out
      · have HH := Lib.hid h
        rw [h] at HV
        clear h
        go_wp2_with (go_at_call 69; refine HV.out.mono ?_; rintro e w1 ⟨rfl, hb⟩; have B := Lib.hid (below_then HB.out.1 hb); clear hb)
        go_ret
        exact ⟨B.out, .inl ⟨k, hlt, rfl, ⟨_, HX.out, HH.out⟩, HB.out.2⟩⟩
    · have hkl : k = l.length := by omega
      subst hkl
      go_wp2
      go_ret
      have := HB.out.2
      rw [List.take_length] at this
      exact ⟨HB.out.1, .inr ⟨rfl, this⟩⟩
theorem delete69_any (q : E → Bool) (c d : Nat) (blk : Nat) (l : List E) (v : Value) (w : World) (hl : Fits l) (hr : OwnE blk 0 w v l)
    (hQ : ∀ (x : E) (W : World), Below blk w W → Calls Try.prog 69 #[.agg #[.int .i64 x.1, .int .i64 x.2.1, .int .i64 x.2.2], .pointer (some ⟨c, 0, none⟩), .pointer (some ⟨d, 0, none⟩)] W fun e w' => e = .returned (.bool (q x)) ∧ Below W.heap.size W w') :
    Calls Try.prog 94 #[v, .func (.func 69) #[] #[.pointer (some ⟨c, 0, none⟩), .pointer (some ⟨d, 0, none⟩)]] w fun e w' => ∃ v', e = .returned v' ∧ OwnE blk 0 w' v' (notQ q l) ∧ Below blk w w' := by
  have HI := Lib.hid (index69_any q c d l v w hl hr.rd (fun x W hb => hQ x W (hb.mono (by obtain ⟨_, _, _, _, _, h⟩ := hr; omega))))
  have HQ := Lib.hid hQ
  unfold Fits at hl
  obtain ⟨cap, rfl, hcap, hcap2, hH, hlt⟩ := hr
  have HH := Lib.hid hH
  have HC2 := Lib.hid hcap2
  clear hH hQ hcap2
  go_enter Try.func94, Try.ntmps94
  go_wp2_with fail
  go_at_call 116
  refine HI.out.mono ?_
  rintro e w1 ⟨hb1, ⟨k, hk, rfl, hx, hno⟩ | ⟨rfl, hno⟩⟩
  · have HK : Hid (DelInv q l (k + 1) k l.toArray) := DelInv.start hk hno hx
    have H1 := Lib.hid (holdsE_below HH.out hb1 hlt)
    have B1 := Lib.hid (hb1.mono (show blk ≤ w.heap.size by omega))
    have hlt1 : blk < w1.heap.size := Nat.lt_of_lt_of_le hlt hb1.size
    clear hx hno hb1
    have hd : ((k : Int) == -1) = false := by simp
    go_wp2
    go_loopg [5, 6, 7] l.length (fun g s5 s6 s7 wr => ∃ (j m : Nat) (dk : Array E), s5 = .int .i64 m ∧ s6 = .int .i64 j ∧ (∃ u, u = s7) ∧ m < j ∧ j ≤ l.length ∧ l.length - j ≤ g ∧ dk.size = l.length ∧ Hid (HoldsK encE 3 wr blk 0 dk ∧ Below blk w wr ∧ DelInv q l j m dk ∧ blk < wr.heap.size))
    case atStart => exact ⟨k + 1, k, l.toArray, rfl, by go_num, ⟨_, rfl⟩, by omega, by omega, by omega, by simp, H1.out, B1.out, HK.out, hlt1⟩
    case round =>
      obtain ⟨j, m, dk, rfl, rfl, ⟨u7, rfl⟩, hmj, hj, hg, hsz, HV⟩ := hrel
      have hwr := HV.out.2.2.2
      by_cases hjl : j < l.length
      · obtain ⟨x, hx⟩ : ∃ x, l[j]? = some x := ⟨_, List.getElem?_eq_getElem hjl⟩
        have hxd : dk[j]! = x := by have := HV.out.2.2.1.high j (Nat.le_refl _) hjl; rw [hx] at this; exact (Option.some.inj this).symm
        have HX := Lib.hid hx
        have HN : Hid (∀ W, Below wr.heap.size wr W → Calls Try.prog 69 #[.agg #[.int .i64 x.1, .int .i64 x.2.1, .int .i64 x.2.2], .pointer (some ⟨c, 0, none⟩), .pointer (some ⟨d, 0, none⟩)] W fun e w' => e = .returned (.bool (q x)) ∧ Below W.heap.size W w') := fun W hW => HQ.out x W (HV.out.2.1.trans (hW.mono (by omega)))
        obtain ⟨x, y, z⟩ := x
        obtain ⟨⟨ox, oy, oz⟩, ho⟩ : ∃ x, dk[m]! = x := ⟨_, rfl⟩
        obtain ⟨⟨c0, c1, c2⟩, _, _, _⟩ := he_cells HV.out.1 (show j < dk.size by omega) hxd
        obtain ⟨⟨o0, o1, o2⟩, o3, o4, o5⟩ := he_cells HV.out.1 (show m < dk.size by omega) ho
        simp only [Nat.zero_add] at c0 c1 c2 o0 o1 o2 o3 o4 o5
        dsimp only at HN
        clear hx hxd ho
        cases hv : q (x, y, z)
        · have HQ1 := Lib.hid hv
          rw [hv] at HN
          clear hv
          go_wp2_with fail
          go_at_call 69
          refine (HN.out _ (below_alloc _ _)).mono ?_
          rintro e w3 ⟨rfl, hb⟩
          have B3 := Lib.hid (below_then (below_alloc _ _) hb)
          have e0 := carry B3.out o0
          have e1 := carry B3.out o1
          have e2 := carry B3.out o2
          have e3 := (B3.out.frozen (p := ⟨blk, m * 3, none⟩) hwr).trans o3
          have e4 := (B3.out.frozen (p := ⟨blk, m * 3 + 1, none⟩) hwr).trans o4
          have e5 := (B3.out.frozen (p := ⟨blk, m * 3 + 2, none⟩) hwr).trans o5
          have x0 := carry hb (p := ⟨wr.heap.size, 0, none⟩) (v := .int .i64 x) (by simp)
          have x1 := carry hb (p := ⟨wr.heap.size, 1, none⟩) (v := .int .i64 y) (by simp)
          have x2 := carry hb (p := ⟨wr.heap.size, 2, none⟩) (v := .int .i64 z) (by simp)
          clear hb c0 c1 c2 o0 o1 o2 o3 o4 o5
          go_wp2
          go_roundg (l.length - (j + 1))
          case measure => omega
          case rel =>
            have h3 := holdsE_below HV.out.1 B3.out hwr
            have hs := holdsE_store (W := w3) h3 (i := m) (by omega) (x, y, z)
            rw [Nat.zero_add] at hs
            have hb3 := HV.out.2.1.trans (B3.out.mono (by omega))
            exact ⟨j + 1, m + 1, dk.setIfInBounds m (x, y, z), by go_num, by go_num, ⟨_, rfl⟩, by omega, by omega, Nat.le_refl _, by simpa using hsz, hs, setCells_below (Nat.le_refl _) (encE (x, y, z)) _ w3 hb3, HV.out.2.2.1.keep HX.out HQ1.out, Nat.lt_of_lt_of_le hwr (by have := B3.out.size; simpa using this)⟩
        · have HQ1 := Lib.hid hv
          rw [hv] at HN
          clear hv
          go_wp2_with (go_at_call 69; refine (HN.out _ (below_alloc _ _)).mono ?_; rintro e w3 ⟨rfl, hb⟩; have B3 := Lib.hid (below_then (below_alloc _ _) hb); clear hb)
          go_roundg (l.length - (j + 1))
          case measure => omega
          case rel =>
            exact ⟨j + 1, m, dk, rfl, by go_num, ⟨_, rfl⟩, by omega, by omega, Nat.le_refl _, hsz, holdsE_below HV.out.1 B3.out hwr, HV.out.2.1.trans (B3.out.mono (by omega)), HV.out.2.2.1.skip HX.out HQ1.out, Nat.lt_of_lt_of_le hwr B3.out.size⟩
      · have hjl' : j = l.length := by omega
        subst hjl'
        have hI := HV.out.2.2.1
        obtain ⟨vs, hvl, hcl⟩ := clear_three (P := Try.prog) wr 22 52 (.int .i64 0) (.int .i64 0) (.int .i64 0) Try.underlying22 Try.zeroValue52 rfl rfl rfl blk (m * 3) (l.length - m) (cap - m) (by omega)
                (fun j hj => by have := (HV.out.1 (m * 3 + j) (by rw [size_flatK]; omega)).1; rw [Nat.zero_add] at this; rw [this]; rfl) (fun j hj => by have := (HV.out.1 (m * 3 + j) (by rw [size_flatK]; omega)).2; rw [Nat.zero_add] at this; exact this)
        have HL := Lib.hid hvl
        have HI2 := Lib.hid hI
        clear hvl hI
        go_wp2
        go_ret
        have hfl : (notQ q l).length = m := by have := HI2.out.len; rwa [List.take_length] at this
        refine ⟨.slice (some ⟨blk, 0, none⟩) m cap, rfl, ⟨cap, by rw [hfl], by rw [hfl]; omega, HC2.out, holdsE_of fun i x hx => ?_, by simpa using hwr⟩, setCells_below (Nat.le_refl _) vs _ wr HV.out.2.1⟩
        have hi : i < m := by have := (List.getElem?_eq_some_iff.1 hx).1; omega
        have hxd : dk[i]! = (x.1, x.2.1, x.2.2) := by have := HI2.out.low i hi; rw [List.take_length, hx] at this; exact (Option.some.inj this).symm
        have hc := he_cells HV.out.1 (show i < dk.size by omega) hxd
        exact ⟨⟨(World.cell?_setCells_out blk vs _ wr ⟨blk, 0 + i * 3, none⟩ (fun _ _ => .inl (by show 0 + i * 3 < m * 3; omega))).trans hc.1.1, (World.cell?_setCells_out blk vs _ wr ⟨blk, 0 + i * 3 + 1, none⟩ (fun _ _ => .inl (by show 0 + i * 3 + 1 < m * 3; omega))).trans hc.1.2.1, (World.cell?_setCells_out blk vs _ wr ⟨blk, 0 + i * 3 + 2, none⟩ (fun _ _ => .inl (by show 0 + i * 3 + 2 < m * 3; omega))).trans hc.1.2.2⟩,
          (World.frozen?_setCells blk vs _ wr _).trans hc.2.1, (World.frozen?_setCells blk vs _ wr _).trans hc.2.2.1, (World.frozen?_setCells blk vs _ wr _).trans hc.2.2.2⟩
  · have HN : Hid (notQ q l = l) := List.filter_eq_self.2 fun x hx => by rw [hno x hx]; rfl
    have B1 := Lib.hid (hb1.mono (show blk ≤ w.heap.size by omega))
    have H1 := Lib.hid (holdsE_below HH.out hb1 hlt)
    have hlt1 : blk < w1.heap.size := Nat.lt_of_lt_of_le hlt hb1.size
    clear hno hb1
    go_wp2
    go_ret
    exact ⟨_, rfl, by rw [HN.out]; exact ⟨cap, rfl, hcap, HC2.out, H1.out, hlt1⟩, B1.out⟩
theorem delete69_none (c d : Nat) (w : World) : Calls Try.prog 94 #[.slice none 0 0, .func (.func 69) #[] #[.pointer (some ⟨c, 0, none⟩), .pointer (some ⟨d, 0, none⟩)]] w fun e w' => e = .returned (.slice none 0 0) ∧ w' = w := by
  have HI : ∀ W : World, Calls Try.prog 116 #[.slice none 0 0, .func (.func 69) #[] #[.pointer (some ⟨c, 0, none⟩), .pointer (some ⟨d, 0, none⟩)]] W fun e w' => e = .returned (.int .i64 (-1)) ∧ w' = W := fun W => by
    go_enter Try.func116, Try.ntmps116
    go_wp2_with fail
    refine wp_loop_rounds 1 ?_
    rw [rounds_succ]
    go_wp2
    go_ret
    exact ⟨rfl, rfl⟩
  go_enter Try.func94, Try.ntmps94
  go_wp2_with (go_at_call 116; refine (HI _).mono ?_; rintro e w1 ⟨rfl, rfl⟩)
  go_ret
  exact ⟨rfl, rfl⟩
end Go.Proofs.Ytiodpgannelgpaa
