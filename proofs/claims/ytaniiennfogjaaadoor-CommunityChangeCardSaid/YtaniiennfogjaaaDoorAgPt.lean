/-
  The library's sort of addresses: partition.
-/
import Derived.Test.YtaniiennfogjaaaDoorAgPe
namespace Go.Proofs.YtaniiennfogjaaaDoor
open Go.RowKit
set_option linter.unusedSimpArgs false
set_option linter.unusedVariables false
set_option maxHeartbeats 1500000
set_option maxRecDepth 100000

/-- the state of partition: places behind a up to i are less than the pivot at a, places behind j are not -/
def PtI (a b i j p : Nat) (l : List Nat) : Prop := l[a]? = some p ∧ (∀ k x, a < k → k < i → l[k]? = some x → x < p) ∧ ∀ k x, j < k → k < b → l[k]? = some x → ¬ x < p
theorem PtI.up {a b i j p x : Nat} {l : List Nat} (h : PtI a b i j p l) (hx : l[i]? = some x) (hlt : x < p) : PtI a b (i + 1) j p l :=
  ⟨h.1, fun k y h1 h2 hy => by
    by_cases e : k = i
    · subst e; rw [hx] at hy; cases hy; omega
    · exact h.2.1 k y h1 (by omega) hy, h.2.2⟩
theorem PtI.down {a b i m p x : Nat} {l : List Nat} (h : PtI a b i (m + 1) p l) (hx : l[m + 1]? = some x) (hge : ¬ x < p) : PtI a b i m p l :=
  ⟨h.1, h.2.1, fun k y h1 h2 hy => by
    by_cases e : k = m + 1
    · subst e; rw [hx] at hy; cases hy; omega
    · exact h.2.2 k y (by omega) h2 hy⟩
theorem PtI.swap {a b i m p x y : Nat} {l : List Nat} (h : PtI a b i (m + 1) p l) (hai : a < i) (him : i < m + 1) (hmb : m + 1 < b) (hx : l[i]? = some x) (hy : l[m + 1]? = some y) (hpx : ¬ x < p) (hyp : y < p) : PtI a b (i + 1) m p ((l.set i y).set (m + 1) x) := by
  refine ⟨by rw [swap_at hx hy, if_neg (by omega), if_neg (by omega)]; exact h.1, fun k z h1 h2 hz => ?_, fun k z h1 h2 hz => ?_⟩
  · rw [swap_at hx hy, if_neg (by omega)] at hz
    by_cases e : k = i
    · rw [if_pos e] at hz; cases hz; omega
    · rw [if_neg e] at hz; exact h.2.1 k z h1 (by omega) hz
  · rw [swap_at hx hy] at hz
    by_cases e : k = m + 1
    · rw [if_pos e] at hz; cases hz; exact hpx
    · rw [if_neg e, if_neg (by omega)] at hz; exact h.2.2 k z (by omega) h2 hz
/-- what partition answers: the pivot at its place, smaller ones in front, the others behind -/
def PtD (a b j p : Nat) (l : List Nat) : Prop := l[j]? = some p ∧ (∀ k x, a ≤ k → k < j → l[k]? = some x → x < p) ∧ ∀ k x, j < k → k < b → l[k]? = some x → ¬ x < p
theorem PtI.done {a b j p y : Nat} {l : List Nat} (h : PtI a b (j + 1) j p l) (haj : a ≤ j) (hjb : j < b) (hy : l[j]? = some y) : PtD a b j p ((l.set j p).set a y) := by
  refine ⟨?_, fun k x h1 h2 hx => ?_, fun k x h1 h2 hx => ?_⟩
  · rw [swap_at hy h.1]
    by_cases e : j = a
    · rw [if_pos e]; subst e; rw [h.1] at hy; exact hy.symm
    · rw [if_neg e, if_pos rfl]
  · rw [swap_at hy h.1] at hx
    by_cases e : k = a
    · rw [if_pos e] at hx; cases hx; subst e; exact h.2.1 j y (by omega) (by omega) hy
    · rw [if_neg e, if_neg (by omega)] at hx; exact h.2.1 k x (by omega) (by omega) hx
  · rw [swap_at hy h.1, if_neg (by omega), if_neg (by omega)] at hx
    exact h.2.2 k x h1 h2 hx
theorem part_any (B g cap L a n q : Nat) (l : List Nat) (w : World) (h : OwnA B w (.slice (some ⟨g, 0, none⟩) L cap) l) (hL : L = l.length) (hn : a + (n + 1) ≤ L) (hq : a ≤ q ∧ q < a + (n + 1)) (hbig : L ≤ 1000000) :
    Calls Tryd.prog 73 #[.slice (some ⟨g, 0, none⟩) L cap, .int .i64 (a : Int), .int .i64 ((a : Int) + (n : Int) + 1), .int .i64 (q : Int)] w fun e w' => ∃ (j p : Nat) (z : Bool) (l' : List Nat), e = .returned (.tuple #[.int .i64 (j : Int), .bool z]) ∧ l[q]? = some p ∧ a ≤ j ∧ j < a + (n + 1) ∧ PtD a (a + (n + 1)) j p l' ∧ SegS B g cap L a (a + (n + 1)) l l' w w' := by
  obtain ⟨p, hp⟩ : ∃ p, l[q]? = some p := ⟨_, List.getElem?_eq_getElem (by omega)⟩
  obtain ⟨p0, hp0⟩ : ∃ p, l[a]? = some p := ⟨_, List.getElem?_eq_getElem (by omega)⟩
  have cq := h.cell hp hL
  have ca := h.cell hp0 hL
  have fq := h.free q
  have fa := h.free a
  have HS0 : Hid (∀ k, SegS B g cap L a (a + (n + 1)) l ((l.set a p).set q p0) w (((w.drewN k).setCell ⟨g, a, none⟩ (.int .u32 (p : Int))).setCell ⟨g, q, none⟩ (.int .u32 (p0 : Int)))) := fun k => SegS.swap (W := w) ⟨SegP.refl _ _ _, h, Below.refl _ _⟩ hL ⟨Nat.le_refl _, by omega⟩ hq hp0 hp k
  have HE0 : Hid (PtI a (a + (n + 1)) (a + 1) (a + n) p ((l.set a p).set q p0)) := ⟨by
    rw [swap_at hp0 hp]
    by_cases e : a = q
    · subst e; rw [if_pos rfl]; rw [hp0] at hp; exact hp
    · rw [if_neg e, if_pos rfl], fun k x h1 h2 hx => by omega, fun k x h1 h2 hx => by omega⟩
  by_cases hqa : a = q
  · subst hqa
    obtain rfl : p0 = p := by rw [hp0] at hp; exact Option.some.inj hp
    have HL := Lib.hid hL
    have HP := Lib.hid hp
    have i0 : (0 : Int) ≤ (a : Int) := by omega
    have i1 : (a : Int) < (L : Int) := by omega
    obtain ⟨j, hj⟩ : ∃ j, j = a + n := ⟨_, rfl⟩
    have hjn : j ≤ a + n := by omega
    have hjn2 : a + n ≤ j := by omega
    have e1 : (a : Int) + (n : Int) = (j : Int) := by omega
    rw [← hj] at HE0
    clear h hL hp hp0 hj
    go_enter Tryd.func73, Tryd.ntmps73
    go_wp2_with fail
    go_region
    all_goals (
      go_wp2_with fail
      have HI := Lib.hid (And.intro HE0.out (HS0.out 1))
      obtain ⟨l1, hl1⟩ : ∃ l1, l1 = (l.set a p0).set a p0 := ⟨_, rfl⟩
      rw [← hl1] at HI
      have hlen : l1.length = L := by rw [hl1, List.length_set, List.length_set]; exact HL.out.symm
      have HLN := Lib.hid hlen
      clear HS0 HE0 cq ca fq fa hl1
      go_loopg [10] (j + 1) (fun gk s10 wr => ∃ i2 : Nat, s10 = .int .i64 (i2 : Int) ∧ a + 1 ≤ i2 ∧ i2 ≤ j + 1 ∧ j + 1 - i2 ≤ gk ∧ Hid (PtI a (a + (n + 1)) i2 j p0 l1 ∧ SegS B g cap L a (a + (n + 1)) l l1 w wr))
      case atStart => exact ⟨a + 1, by go_num, Nat.le_refl _, by omega, by omega, HI.out⟩
      case round =>
        clear HI
        obtain ⟨i2, rfl, hi2, hi2j, hgk, HJ⟩ := hrel
        have cp := HJ.out.2.2.1.cell HJ.out.1.1 HLN.out.symm
        by_cases hle : i2 ≤ j
        · obtain ⟨x, hx⟩ : ∃ x, l1[i2]? = some x := ⟨_, List.getElem?_eq_getElem (by omega)⟩
          have cx := HJ.out.2.2.1.cell hx HLN.out.symm
          have HLS : Hid (∀ W, Calls Tryd.prog 71 #[.int .u32 (x : Int), .int .u32 (p0 : Int)] W fun e w' => e = .returned (.bool (decide (x < p0))) ∧ W = w') := fun W => less_any x p0 W
          have HX := Lib.hid hx
          have i0' : (0 : Int) ≤ (i2 : Int) := by omega
          have i1' : (i2 : Int) < (L : Int) := by omega
          have i2' : (i2 : Int) ≤ (j : Int) := by omega
          clear hx
          by_cases hpx : ¬ x < p0
          · rw [show decide (x < p0) = false from decide_eq_false hpx] at HLS
            have HJ3 : Hid (PtI a (a + (n + 1)) i2 j p0 l1 ∧ ∀ q, SegS B g cap L a (a + (n + 1)) l l1 w (wr.drewN q)) := ⟨HJ.out.1, fun q => ⟨HJ.out.2.1, HJ.out.2.2.1.drewN q, below_drewN HJ.out.2.2.2 q⟩⟩
            go_wp2_with fail
            go_quiet ((go_at_call 71; exact Calls.quiet_of_same ((HLS.out _).mono fun _ _ h => ⟨h.1, h.2.symm⟩)))
            go_wp2_with fail
            go_loopg [11] (j + 1) (fun gk s11 wr => ∃ j2 : Nat, s11 = .int .i64 (j2 : Int) ∧ i2 ≤ j2 + 1 ∧ j2 ≤ j ∧ j2 + 1 - i2 ≤ gk ∧ Hid (PtI a (a + (n + 1)) i2 j2 p0 l1 ∧ SegS B g cap L a (a + (n + 1)) l l1 w wr))
            case atStart => exact ⟨j, rfl, hi2j, Nat.le_refl _, by omega, HJ3.out.1, HJ3.out.2 _⟩
            case round =>
              clear HJ HJ3 cp cx HLS hgk i2' hle
              obtain ⟨j2, rfl, hj2, hj2j, hgk2, HJ⟩ := hrel
              have cp := HJ.out.2.2.1.cell HJ.out.1.1 HLN.out.symm
              by_cases hle2 : i2 ≤ j2
              · obtain ⟨m, rfl⟩ : ∃ m, j2 = m + 1 := ⟨j2 - 1, by omega⟩
                obtain ⟨y, hy⟩ : ∃ y, l1[m + 1]? = some y := ⟨_, List.getElem?_eq_getElem (by omega)⟩
                have cy := HJ.out.2.2.1.cell hy HLN.out.symm
                have HLS : Hid (∀ W, Calls Tryd.prog 71 #[.int .u32 (y : Int), .int .u32 (p0 : Int)] W fun e w' => e = .returned (.bool (decide (y < p0))) ∧ W = w') := fun W => less_any y p0 W
                have HY := Lib.hid hy
                have m0 : (0 : Int) ≤ (m : Int) + 1 := by omega
                have m1 : (m : Int) + 1 < (L : Int) := by omega
                have m2 : (i2 : Int) ≤ (m : Int) + 1 := by omega
                have hwm : IntKind.i64.wrap (m : Int) = (m : Int) := IntWalk.i64_in _ (by constructor <;> omega)
                clear hy
                by_cases hpy : ¬ y < p0
                · rw [show decide (y < p0) = false from decide_eq_false hpy] at HLS
                  have HJ2 : Hid (PtI a (a + (n + 1)) i2 m p0 l1 ∧ ∀ q, SegS B g cap L a (a + (n + 1)) l l1 w (wr.drewN q)) := ⟨HJ.out.1.down HY.out hpy, fun q => ⟨HJ.out.2.1, HJ.out.2.2.1.drewN q, below_drewN HJ.out.2.2.2 q⟩⟩
                  go_wp2_with fail
                  go_quiet ((go_at_call 71; exact Calls.quiet_of_same ((HLS.out _).mono fun _ _ h => ⟨h.1, h.2.symm⟩)))
                  go_wp2_with fail
                  go_roundg (m + 1 - i2)
                  case measure => omega
                  case rel => exact ⟨m, by go_num, by omega, by omega, Nat.le_refl _, HJ2.out.1, HJ2.out.2 _⟩
                · have hpy2 : y < p0 := Nat.lt_of_not_ge fun h => hpy (Nat.not_lt.2 h)
                  rw [show decide (y < p0) = true from decide_eq_true hpy2] at HLS
                  have him : i2 < m + 1 := by
                    refine Nat.lt_of_le_of_ne hle2 (fun e => hpy ?_)
                    have h1 := HX.out
                    have h2 := HY.out
                    rw [← e, h1] at h2
                    cases h2; exact hpx
                  have hgt : ¬ (i2 : Int) > (m : Int) + 1 := by omega
                  have hgt2 : ¬ (m : Int) + 1 < (i2 : Int) := by omega
                  have hne : ¬ i2 = m + 1 := by omega
                  have HJ2 : Hid (PtI a (a + (n + 1)) (i2 + 1) m p0 ((l1.set i2 y).set (m + 1) x) ∧ ∀ q, SegS B g cap L a (a + (n + 1)) l ((l1.set i2 y).set (m + 1) x) w (((wr.drewN q).setCell ⟨g, i2, none⟩ (.int .u32 (y : Int))).setCell ⟨g, m + 1, none⟩ (.int .u32 (x : Int)))) := ⟨HJ.out.1.swap (by omega) him (by omega) HX.out HY.out hpx hpy2, fun q => HJ.out.2.swap HL.out ⟨by omega, by omega⟩ ⟨by omega, by omega⟩ HX.out HY.out q⟩
                  have cx := HJ.out.2.2.1.cell HX.out HLN.out.symm
                  have fx := HJ.out.2.2.1.free i2
                  have fy := HJ.out.2.2.1.free (m + 1)
                  go_wp2_with fail
                  go_quiet ((go_at_call 71; exact Calls.quiet_of_same ((HLS.out _).mono fun _ _ h => ⟨h.1, h.2.symm⟩)))
                  go_wp2_with fail
                  go_region
                  all_goals (
                go_wp2_with fail
                go_loopg [10, 11] (n + 1) (fun gg s10 s11 wr => ∃ (i j : Nat) (l1 : List Nat), s10 = .int .i64 (i : Int) ∧ s11 = .int .i64 (j : Int) ∧ a < i ∧ i ≤ j + 1 ∧ j ≤ a + n ∧ j + 1 - i ≤ gg ∧ Hid (PtI a (a + (n + 1)) i j p0 l1 ∧ SegS B g cap L a (a + (n + 1)) l l1 w wr))
                case atStart => exact ⟨i2 + 1, m, _, by go_num, by go_num, by omega, by omega, by omega, by omega, HJ2.out.1, HJ2.out.2 _⟩
                case round =>
                  clear HJ2 HJ HLS HX HY
                  obtain ⟨i, j, l1, rfl, rfl, hai, hij, hjn, hg, HI⟩ := hrel
                  have hlen : l1.length = L := by have := HI.out.2.1.len; have := HL.out; omega
                  have HLN := Lib.hid hlen
                  obtain ⟨W1, hW1⟩ : ∃ W1, W1 = wr := ⟨_, rfl⟩
                  rw [← hW1] at HI ⊢
                  clear hW1
                  go_wp2_with fail
                  go_loopg [10] (j + 1) (fun gk s10 wr => ∃ i2 : Nat, s10 = .int .i64 (i2 : Int) ∧ i ≤ i2 ∧ i2 ≤ j + 1 ∧ j + 1 - i2 ≤ gk ∧ Hid (PtI a (a + (n + 1)) i2 j p0 l1 ∧ SegS B g cap L a (a + (n + 1)) l l1 w wr))
                  case atStart => exact ⟨i, rfl, Nat.le_refl _, hij, by omega, HI.out⟩
                  case round =>
                    clear HI
                    obtain ⟨i2, rfl, hi2, hi2j, hgk, HJ⟩ := hrel
                    have cp := HJ.out.2.2.1.cell HJ.out.1.1 HLN.out.symm
                    by_cases hle : i2 ≤ j
                    · obtain ⟨x, hx⟩ : ∃ x, l1[i2]? = some x := ⟨_, List.getElem?_eq_getElem (by omega)⟩
                      have cx := HJ.out.2.2.1.cell hx HLN.out.symm
                      have HLS : Hid (∀ W, Calls Tryd.prog 71 #[.int .u32 (x : Int), .int .u32 (p0 : Int)] W fun e w' => e = .returned (.bool (decide (x < p0))) ∧ W = w') := fun W => less_any x p0 W
                      have HX := Lib.hid hx
                      have i0' : (0 : Int) ≤ (i2 : Int) := by omega
                      have i1' : (i2 : Int) < (L : Int) := by omega
                      have i2' : (i2 : Int) ≤ (j : Int) := by omega
                      clear hx
                      by_cases hpx : ¬ x < p0
                      · rw [show decide (x < p0) = false from decide_eq_false hpx] at HLS
                        have HJ3 : Hid (PtI a (a + (n + 1)) i2 j p0 l1 ∧ ∀ q, SegS B g cap L a (a + (n + 1)) l l1 w (wr.drewN q)) := ⟨HJ.out.1, fun q => ⟨HJ.out.2.1, HJ.out.2.2.1.drewN q, below_drewN HJ.out.2.2.2 q⟩⟩
                        go_wp2_with fail
                        go_quiet ((go_at_call 71; exact Calls.quiet_of_same ((HLS.out _).mono fun _ _ h => ⟨h.1, h.2.symm⟩)))
                        go_wp2_with fail
                        go_loopg [11] (j + 1) (fun gk s11 wr => ∃ j2 : Nat, s11 = .int .i64 (j2 : Int) ∧ i2 ≤ j2 + 1 ∧ j2 ≤ j ∧ j2 + 1 - i2 ≤ gk ∧ Hid (PtI a (a + (n + 1)) i2 j2 p0 l1 ∧ SegS B g cap L a (a + (n + 1)) l l1 w wr))
                        case atStart => exact ⟨j, rfl, hi2j, Nat.le_refl _, by omega, HJ3.out.1, HJ3.out.2 _⟩
                        case round =>
                          clear HJ HJ3 cp cx HLS hgk i2' hle
                          obtain ⟨j2, rfl, hj2, hj2j, hgk2, HJ⟩ := hrel
                          have cp := HJ.out.2.2.1.cell HJ.out.1.1 HLN.out.symm
                          by_cases hle2 : i2 ≤ j2
                          · obtain ⟨m, rfl⟩ : ∃ m, j2 = m + 1 := ⟨j2 - 1, by omega⟩
                            obtain ⟨y, hy⟩ : ∃ y, l1[m + 1]? = some y := ⟨_, List.getElem?_eq_getElem (by omega)⟩
                            have cy := HJ.out.2.2.1.cell hy HLN.out.symm
                            have HLS : Hid (∀ W, Calls Tryd.prog 71 #[.int .u32 (y : Int), .int .u32 (p0 : Int)] W fun e w' => e = .returned (.bool (decide (y < p0))) ∧ W = w') := fun W => less_any y p0 W
                            have HY := Lib.hid hy
                            have m0 : (0 : Int) ≤ (m : Int) + 1 := by omega
                            have m1 : (m : Int) + 1 < (L : Int) := by omega
                            have m2 : (i2 : Int) ≤ (m : Int) + 1 := by omega
                            have hwm : IntKind.i64.wrap (m : Int) = (m : Int) := IntWalk.i64_in _ (by constructor <;> omega)
                            clear hy
                            by_cases hpy : ¬ y < p0
                            · rw [show decide (y < p0) = false from decide_eq_false hpy] at HLS
                              have HJ2 : Hid (PtI a (a + (n + 1)) i2 m p0 l1 ∧ ∀ q, SegS B g cap L a (a + (n + 1)) l l1 w (wr.drewN q)) := ⟨HJ.out.1.down HY.out hpy, fun q => ⟨HJ.out.2.1, HJ.out.2.2.1.drewN q, below_drewN HJ.out.2.2.2 q⟩⟩
                              go_wp2_with fail
                              go_quiet ((go_at_call 71; exact Calls.quiet_of_same ((HLS.out _).mono fun _ _ h => ⟨h.1, h.2.symm⟩)))
                              go_wp2_with fail
                              go_roundg (m + 1 - i2)
                              case measure => omega
                              case rel => exact ⟨m, by go_num, by omega, by omega, Nat.le_refl _, HJ2.out.1, HJ2.out.2 _⟩
                            · have hpy2 : y < p0 := Nat.lt_of_not_ge fun h => hpy (Nat.not_lt.2 h)
                              rw [show decide (y < p0) = true from decide_eq_true hpy2] at HLS
                              have him : i2 < m + 1 := by
                                refine Nat.lt_of_le_of_ne hle2 (fun e => hpy ?_)
                                have h1 := HX.out
                                have h2 := HY.out
                                rw [← e, h1] at h2
                                cases h2; exact hpx
                              have hgt : ¬ (i2 : Int) > (m : Int) + 1 := by omega
                              have hgt2 : ¬ (m : Int) + 1 < (i2 : Int) := by omega
                              have hne : ¬ i2 = m + 1 := by omega
                              have HJ2 : Hid (PtI a (a + (n + 1)) (i2 + 1) m p0 ((l1.set i2 y).set (m + 1) x) ∧ ∀ q, SegS B g cap L a (a + (n + 1)) l ((l1.set i2 y).set (m + 1) x) w (((wr.drewN q).setCell ⟨g, i2, none⟩ (.int .u32 (y : Int))).setCell ⟨g, m + 1, none⟩ (.int .u32 (x : Int)))) := ⟨HJ.out.1.swap (by omega) him (by omega) HX.out HY.out hpx hpy2, fun q => HJ.out.2.swap HL.out ⟨by omega, by omega⟩ ⟨by omega, by omega⟩ HX.out HY.out q⟩
                              have cx := HJ.out.2.2.1.cell HX.out HLN.out.symm
                              have fx := HJ.out.2.2.1.free i2
                              have fy := HJ.out.2.2.1.free (m + 1)
                              go_wp2_with fail
                              go_quiet ((go_at_call 71; exact Calls.quiet_of_same ((HLS.out _).mono fun _ _ h => ⟨h.1, h.2.symm⟩)))
                              go_wp2_with fail
                              go_region
                              all_goals (
                                go_wp2_with fail
                                go_roundg (m + 1 - (i2 + 1))
                                case measure => omega
                                case rel => exact ⟨i2 + 1, m, _, by go_num, by go_num, by omega, by omega, by omega, by omega, HJ2.out.1, HJ2.out.2 _⟩)
                          · have hlf : ¬ (i2 : Int) ≤ (j2 : Int) := by omega
                            have hd : decide ((i2 : Int) ≤ (j2 : Int)) = false := decide_eq_false hlf
                            have hgt : (i2 : Int) > (j2 : Int) := by omega
                            have hgd : decide ((i2 : Int) > (j2 : Int)) = true := decide_eq_true hgt
                            have HDN : Hid (PtI a (a + (n + 1)) (j2 + 1) j2 p0 l1) := (by omega : i2 = j2 + 1) ▸ HJ.out.1
                            obtain ⟨v, hv⟩ : ∃ v, l1[j2]? = some v := ⟨_, List.getElem?_eq_getElem (by have := HLN.out; omega)⟩
                            have cv := HJ.out.2.2.1.cell hv HLN.out.symm
                            have fv := HJ.out.2.2.1.free j2
                            have fa9 := HJ.out.2.2.1.free a
                            have HPD := Lib.hid (HDN.out.done (by omega) (by omega) hv)
                            have HSF : Hid (∀ q, SegS B g cap L a (a + (n + 1)) l ((l1.set j2 p0).set a v) w (((wr.drewN q).setCell ⟨g, j2, none⟩ (.int .u32 (p0 : Int))).setCell ⟨g, a, none⟩ (.int .u32 (v : Int)))) := fun q => HJ.out.2.swap HL.out ⟨by omega, by omega⟩ ⟨Nat.le_refl _, by omega⟩ hv HJ.out.1.1 q
                            have jv0 : (0 : Int) ≤ (j2 : Int) := by omega
                            have jv1 : (j2 : Int) < (L : Int) := by omega
                            have hjan : a ≤ j2 ∧ j2 < a + (n + 1) := by omega
                            clear hv
                            by_cases hja : a = j2
                            · have HCA : Hid (v = p0) := by
                                have h1 := HJ.out.2.2.1.cell HJ.out.1.1 HLN.out.symm
                                rw [hja, cv] at h1
                                have h2 : (v : Int) = (p0 : Int) := by simpa using h1
                                show v = p0
                                omega
                              have hvp : v = p0 := HCA.out
                              clear HCA
                              subst hvp
                              subst hja
                              go_wp2_with fail
                              go_quiet (fail)
                              go_wp2_with fail
                              go_region
                              all_goals (
                                go_wp2_with fail
                                go_ret2
                                exact ⟨_, _, _, _, rfl, HP.out, hjan.1, hjan.2, HPD.out, HSF.out _⟩)
                            · have hja2 : ¬ j2 = a := fun e => hja e.symm
                              go_wp2_with fail
                              go_quiet (fail)
                              go_wp2_with fail
                              go_region
                              all_goals (
                                go_wp2_with fail
                                go_ret2
                                exact ⟨_, _, _, _, rfl, HP.out, hjan.1, hjan.2, HPD.out, HSF.out _⟩)
                      · rw [show decide (x < p0) = true from decide_eq_true (Nat.lt_of_not_ge fun h => hpx (Nat.not_lt.2 h))] at HLS
                        have HJ2 : Hid (PtI a (a + (n + 1)) (i2 + 1) j p0 l1 ∧ ∀ q, SegS B g cap L a (a + (n + 1)) l l1 w (wr.drewN q)) := ⟨HJ.out.1.up HX.out (Nat.lt_of_not_ge fun h => hpx (Nat.not_lt.2 h)), fun q => ⟨HJ.out.2.1, HJ.out.2.2.1.drewN q, below_drewN HJ.out.2.2.2 q⟩⟩
                        go_wp2_with fail
                        go_quiet ((go_at_call 71; exact Calls.quiet_of_same ((HLS.out _).mono fun _ _ h => ⟨h.1, h.2.symm⟩)))
                        go_wp2_with fail
                        go_roundg (j + 1 - (i2 + 1))
                        case measure => omega
                        case rel => exact ⟨i2 + 1, by go_num, by omega, by omega, Nat.le_refl _, HJ2.out.1, HJ2.out.2 _⟩
                    · have hlf : ¬ (i2 : Int) ≤ (j : Int) := by omega
                      have hd : decide ((i2 : Int) ≤ (j : Int)) = false := decide_eq_false hlf
                      have HJ3 : Hid (PtI a (a + (n + 1)) i2 j p0 l1 ∧ ∀ q, SegS B g cap L a (a + (n + 1)) l l1 w (wr.drewN q)) := ⟨HJ.out.1, fun q => ⟨HJ.out.2.1, HJ.out.2.2.1.drewN q, below_drewN HJ.out.2.2.2 q⟩⟩
                      have hgt : (i2 : Int) > (j : Int) := by omega
                      have hgd : decide ((i2 : Int) > (j : Int)) = true := decide_eq_true hgt
                      have HDN : Hid (PtI a (a + (n + 1)) (j + 1) j p0 l1) := (by omega : i2 = j + 1) ▸ HJ.out.1
                      obtain ⟨v, hv⟩ : ∃ v, l1[j]? = some v := ⟨_, List.getElem?_eq_getElem (by have := HLN.out; omega)⟩
                      have cv := HJ.out.2.2.1.cell hv HLN.out.symm
                      have fv := HJ.out.2.2.1.free j
                      have fa9 := HJ.out.2.2.1.free a
                      have HPD := Lib.hid (HDN.out.done (by omega) (by omega) hv)
                      have HSF : Hid (∀ q, SegS B g cap L a (a + (n + 1)) l ((l1.set j p0).set a v) w (((wr.drewN q).setCell ⟨g, j, none⟩ (.int .u32 (p0 : Int))).setCell ⟨g, a, none⟩ (.int .u32 (v : Int)))) := fun q => HJ.out.2.swap HL.out ⟨by omega, by omega⟩ ⟨Nat.le_refl _, by omega⟩ hv HJ.out.1.1 q
                      have jv0 : (0 : Int) ≤ (j : Int) := by omega
                      have jv1 : (j : Int) < (L : Int) := by omega
                      have hjan : a ≤ j ∧ j < a + (n + 1) := by omega
                      clear hv
                      by_cases hja : a = j
                      · have HCA : Hid (v = p0) := by
                          have h1 := HJ.out.2.2.1.cell HJ.out.1.1 HLN.out.symm
                          rw [hja, cv] at h1
                          have h2 : (v : Int) = (p0 : Int) := by simpa using h1
                          show v = p0
                          omega
                        have hvp : v = p0 := HCA.out
                        clear HCA
                        subst hvp
                        subst hja
                        go_wp2_with fail
                        go_quiet (fail)
                        go_wp2_with fail
                        refine wp_loop_rounds 1 ?_
                        rw [rounds_succ]
                        go_wp2_with fail
                        go_quiet (fail)
                        go_wp2_with fail
                        go_region
                        all_goals (
                          go_wp2_with fail
                          go_ret2
                          exact ⟨_, _, _, _, rfl, HP.out, hjan.1, hjan.2, HPD.out, HSF.out _⟩)
                      · have hja2 : ¬ j = a := fun e => hja e.symm
                        go_wp2_with fail
                        go_quiet (fail)
                        go_wp2_with fail
                        refine wp_loop_rounds 1 ?_
                        rw [rounds_succ]
                        go_wp2_with fail
                        go_quiet (fail)
                        go_wp2_with fail
                        go_region
                        all_goals (
                          go_wp2_with fail
                          go_ret2
                          exact ⟨_, _, _, _, rfl, HP.out, hjan.1, hjan.2, HPD.out, HSF.out _⟩))
              · have hlf : ¬ (i2 : Int) ≤ (j2 : Int) := by omega
                have hd : decide ((i2 : Int) ≤ (j2 : Int)) = false := decide_eq_false hlf
                have hgt : (i2 : Int) > (j2 : Int) := by omega
                have hgd : decide ((i2 : Int) > (j2 : Int)) = true := decide_eq_true hgt
                have HDN : Hid (PtI a (a + (n + 1)) (j2 + 1) j2 p0 l1) := (by omega : i2 = j2 + 1) ▸ HJ.out.1
                obtain ⟨v, hv⟩ : ∃ v, l1[j2]? = some v := ⟨_, List.getElem?_eq_getElem (by have := HLN.out; omega)⟩
                have cv := HJ.out.2.2.1.cell hv HLN.out.symm
                have fv := HJ.out.2.2.1.free j2
                have fa9 := HJ.out.2.2.1.free a
                have HPD := Lib.hid (HDN.out.done (by omega) (by omega) hv)
                have HSF : Hid (∀ q, SegS B g cap L a (a + (n + 1)) l ((l1.set j2 p0).set a v) w (((wr.drewN q).setCell ⟨g, j2, none⟩ (.int .u32 (p0 : Int))).setCell ⟨g, a, none⟩ (.int .u32 (v : Int)))) := fun q => HJ.out.2.swap HL.out ⟨by omega, by omega⟩ ⟨Nat.le_refl _, by omega⟩ hv HJ.out.1.1 q
                have jv0 : (0 : Int) ≤ (j2 : Int) := by omega
                have jv1 : (j2 : Int) < (L : Int) := by omega
                have hjan : a ≤ j2 ∧ j2 < a + (n + 1) := by omega
                clear hv
                by_cases hja : a = j2
                · have HCA : Hid (v = p0) := by
                    have h1 := HJ.out.2.2.1.cell HJ.out.1.1 HLN.out.symm
                    rw [hja, cv] at h1
                    have h2 : (v : Int) = (p0 : Int) := by simpa using h1
                    show v = p0
                    omega
                  have hvp : v = p0 := HCA.out
                  clear HCA
                  subst hvp
                  subst hja
                  go_wp2_with fail
                  go_quiet (fail)
                  go_wp2_with fail
                  go_region
                  all_goals (
                    go_wp2_with fail
                    go_ret2
                    exact ⟨_, _, _, _, rfl, HP.out, hjan.1, hjan.2, HPD.out, HSF.out _⟩)
                · have hja2 : ¬ j2 = a := fun e => hja e.symm
                  go_wp2_with fail
                  go_quiet (fail)
                  go_wp2_with fail
                  go_region
                  all_goals (
                    go_wp2_with fail
                    go_ret2
                    exact ⟨_, _, _, _, rfl, HP.out, hjan.1, hjan.2, HPD.out, HSF.out _⟩)
          · rw [show decide (x < p0) = true from decide_eq_true (Nat.lt_of_not_ge fun h => hpx (Nat.not_lt.2 h))] at HLS
            have HJ2 : Hid (PtI a (a + (n + 1)) (i2 + 1) j p0 l1 ∧ ∀ q, SegS B g cap L a (a + (n + 1)) l l1 w (wr.drewN q)) := ⟨HJ.out.1.up HX.out (Nat.lt_of_not_ge fun h => hpx (Nat.not_lt.2 h)), fun q => ⟨HJ.out.2.1, HJ.out.2.2.1.drewN q, below_drewN HJ.out.2.2.2 q⟩⟩
            go_wp2_with fail
            go_quiet ((go_at_call 71; exact Calls.quiet_of_same ((HLS.out _).mono fun _ _ h => ⟨h.1, h.2.symm⟩)))
            go_wp2_with fail
            go_roundg (j + 1 - (i2 + 1))
            case measure => omega
            case rel => exact ⟨i2 + 1, by go_num, by omega, by omega, Nat.le_refl _, HJ2.out.1, HJ2.out.2 _⟩
        · have hlf : ¬ (i2 : Int) ≤ (j : Int) := by omega
          have hd : decide ((i2 : Int) ≤ (j : Int)) = false := decide_eq_false hlf
          have HJ3 : Hid (PtI a (a + (n + 1)) i2 j p0 l1 ∧ ∀ q, SegS B g cap L a (a + (n + 1)) l l1 w (wr.drewN q)) := ⟨HJ.out.1, fun q => ⟨HJ.out.2.1, HJ.out.2.2.1.drewN q, below_drewN HJ.out.2.2.2 q⟩⟩
          have hgt : (i2 : Int) > (j : Int) := by omega
          have hgd : decide ((i2 : Int) > (j : Int)) = true := decide_eq_true hgt
          have HDN : Hid (PtI a (a + (n + 1)) (j + 1) j p0 l1) := (by omega : i2 = j + 1) ▸ HJ.out.1
          obtain ⟨v, hv⟩ : ∃ v, l1[j]? = some v := ⟨_, List.getElem?_eq_getElem (by have := HLN.out; omega)⟩
          have cv := HJ.out.2.2.1.cell hv HLN.out.symm
          have fv := HJ.out.2.2.1.free j
          have fa9 := HJ.out.2.2.1.free a
          have HPD := Lib.hid (HDN.out.done (by omega) (by omega) hv)
          have HSF : Hid (∀ q, SegS B g cap L a (a + (n + 1)) l ((l1.set j p0).set a v) w (((wr.drewN q).setCell ⟨g, j, none⟩ (.int .u32 (p0 : Int))).setCell ⟨g, a, none⟩ (.int .u32 (v : Int)))) := fun q => HJ.out.2.swap HL.out ⟨by omega, by omega⟩ ⟨Nat.le_refl _, by omega⟩ hv HJ.out.1.1 q
          have jv0 : (0 : Int) ≤ (j : Int) := by omega
          have jv1 : (j : Int) < (L : Int) := by omega
          have hjan : a ≤ j ∧ j < a + (n + 1) := by omega
          clear hv
          by_cases hja : a = j
          · have HCA : Hid (v = p0) := by
              have h1 := HJ.out.2.2.1.cell HJ.out.1.1 HLN.out.symm
              rw [hja, cv] at h1
              have h2 : (v : Int) = (p0 : Int) := by simpa using h1
              show v = p0
              omega
            have hvp : v = p0 := HCA.out
            clear HCA
            subst hvp
            subst hja
            go_wp2_with fail
            go_quiet (fail)
            go_wp2_with fail
            refine wp_loop_rounds 1 ?_
            rw [rounds_succ]
            go_wp2_with fail
            go_quiet (fail)
            go_wp2_with fail
            go_region
            all_goals (
              go_wp2_with fail
              go_ret2
              exact ⟨_, _, _, _, rfl, HP.out, hjan.1, hjan.2, HPD.out, HSF.out _⟩)
          · have hja2 : ¬ j = a := fun e => hja e.symm
            go_wp2_with fail
            go_quiet (fail)
            go_wp2_with fail
            refine wp_loop_rounds 1 ?_
            rw [rounds_succ]
            go_wp2_with fail
            go_quiet (fail)
            go_wp2_with fail
            go_region
            all_goals (
              go_wp2_with fail
              go_ret2
              exact ⟨_, _, _, _, rfl, HP.out, hjan.1, hjan.2, HPD.out, HSF.out _⟩))
  · have hqb : ¬ q = a := fun e => hqa e.symm
    have j0 : (0 : Int) ≤ (q : Int) := by omega
    have j1 : (q : Int) < (L : Int) := by omega
    have HL := Lib.hid hL
    have HP := Lib.hid hp
    have i0 : (0 : Int) ≤ (a : Int) := by omega
    have i1 : (a : Int) < (L : Int) := by omega
    obtain ⟨j, hj⟩ : ∃ j, j = a + n := ⟨_, rfl⟩
    have hjn : j ≤ a + n := by omega
    have hjn2 : a + n ≤ j := by omega
    have e1 : (a : Int) + (n : Int) = (j : Int) := by omega
    rw [← hj] at HE0
    clear h hL hp hp0 hj
    go_enter Tryd.func73, Tryd.ntmps73
    go_wp2_with fail
    go_region
    all_goals (
      go_wp2_with fail
      have HI := Lib.hid (And.intro HE0.out (HS0.out 1))
      obtain ⟨l1, hl1⟩ : ∃ l1, l1 = (l.set a p).set q p0 := ⟨_, rfl⟩
      rw [← hl1] at HI
      have hlen : l1.length = L := by rw [hl1, List.length_set, List.length_set]; exact HL.out.symm
      have HLN := Lib.hid hlen
      clear HS0 HE0 cq ca fq fa hl1
      go_loopg [10] (j + 1) (fun gk s10 wr => ∃ i2 : Nat, s10 = .int .i64 (i2 : Int) ∧ a + 1 ≤ i2 ∧ i2 ≤ j + 1 ∧ j + 1 - i2 ≤ gk ∧ Hid (PtI a (a + (n + 1)) i2 j p l1 ∧ SegS B g cap L a (a + (n + 1)) l l1 w wr))
      case atStart => exact ⟨a + 1, by go_num, Nat.le_refl _, by omega, by omega, HI.out⟩
      case round =>
        clear HI
        obtain ⟨i2, rfl, hi2, hi2j, hgk, HJ⟩ := hrel
        have cp := HJ.out.2.2.1.cell HJ.out.1.1 HLN.out.symm
        by_cases hle : i2 ≤ j
        · obtain ⟨x, hx⟩ : ∃ x, l1[i2]? = some x := ⟨_, List.getElem?_eq_getElem (by omega)⟩
          have cx := HJ.out.2.2.1.cell hx HLN.out.symm
          have HLS : Hid (∀ W, Calls Tryd.prog 71 #[.int .u32 (x : Int), .int .u32 (p : Int)] W fun e w' => e = .returned (.bool (decide (x < p))) ∧ W = w') := fun W => less_any x p W
          have HX := Lib.hid hx
          have i0' : (0 : Int) ≤ (i2 : Int) := by omega
          have i1' : (i2 : Int) < (L : Int) := by omega
          have i2' : (i2 : Int) ≤ (j : Int) := by omega
          clear hx
          by_cases hpx : ¬ x < p
          · rw [show decide (x < p) = false from decide_eq_false hpx] at HLS
            have HJ3 : Hid (PtI a (a + (n + 1)) i2 j p l1 ∧ ∀ q, SegS B g cap L a (a + (n + 1)) l l1 w (wr.drewN q)) := ⟨HJ.out.1, fun q => ⟨HJ.out.2.1, HJ.out.2.2.1.drewN q, below_drewN HJ.out.2.2.2 q⟩⟩
            go_wp2_with fail
            go_quiet ((go_at_call 71; exact Calls.quiet_of_same ((HLS.out _).mono fun _ _ h => ⟨h.1, h.2.symm⟩)))
            go_wp2_with fail
            go_loopg [11] (j + 1) (fun gk s11 wr => ∃ j2 : Nat, s11 = .int .i64 (j2 : Int) ∧ i2 ≤ j2 + 1 ∧ j2 ≤ j ∧ j2 + 1 - i2 ≤ gk ∧ Hid (PtI a (a + (n + 1)) i2 j2 p l1 ∧ SegS B g cap L a (a + (n + 1)) l l1 w wr))
            case atStart => exact ⟨j, rfl, hi2j, Nat.le_refl _, by omega, HJ3.out.1, HJ3.out.2 _⟩
            case round =>
              clear HJ HJ3 cp cx HLS hgk i2' hle
              obtain ⟨j2, rfl, hj2, hj2j, hgk2, HJ⟩ := hrel
              have cp := HJ.out.2.2.1.cell HJ.out.1.1 HLN.out.symm
              by_cases hle2 : i2 ≤ j2
              · obtain ⟨m, rfl⟩ : ∃ m, j2 = m + 1 := ⟨j2 - 1, by omega⟩
                obtain ⟨y, hy⟩ : ∃ y, l1[m + 1]? = some y := ⟨_, List.getElem?_eq_getElem (by omega)⟩
                have cy := HJ.out.2.2.1.cell hy HLN.out.symm
                have HLS : Hid (∀ W, Calls Tryd.prog 71 #[.int .u32 (y : Int), .int .u32 (p : Int)] W fun e w' => e = .returned (.bool (decide (y < p))) ∧ W = w') := fun W => less_any y p W
                have HY := Lib.hid hy
                have m0 : (0 : Int) ≤ (m : Int) + 1 := by omega
                have m1 : (m : Int) + 1 < (L : Int) := by omega
                have m2 : (i2 : Int) ≤ (m : Int) + 1 := by omega
                have hwm : IntKind.i64.wrap (m : Int) = (m : Int) := IntWalk.i64_in _ (by constructor <;> omega)
                clear hy
                by_cases hpy : ¬ y < p
                · rw [show decide (y < p) = false from decide_eq_false hpy] at HLS
                  have HJ2 : Hid (PtI a (a + (n + 1)) i2 m p l1 ∧ ∀ q, SegS B g cap L a (a + (n + 1)) l l1 w (wr.drewN q)) := ⟨HJ.out.1.down HY.out hpy, fun q => ⟨HJ.out.2.1, HJ.out.2.2.1.drewN q, below_drewN HJ.out.2.2.2 q⟩⟩
                  go_wp2_with fail
                  go_quiet ((go_at_call 71; exact Calls.quiet_of_same ((HLS.out _).mono fun _ _ h => ⟨h.1, h.2.symm⟩)))
                  go_wp2_with fail
                  go_roundg (m + 1 - i2)
                  case measure => omega
                  case rel => exact ⟨m, by go_num, by omega, by omega, Nat.le_refl _, HJ2.out.1, HJ2.out.2 _⟩
                · have hpy2 : y < p := Nat.lt_of_not_ge fun h => hpy (Nat.not_lt.2 h)
                  rw [show decide (y < p) = true from decide_eq_true hpy2] at HLS
                  have him : i2 < m + 1 := by
                    refine Nat.lt_of_le_of_ne hle2 (fun e => hpy ?_)
                    have h1 := HX.out
                    have h2 := HY.out
                    rw [← e, h1] at h2
                    cases h2; exact hpx
                  have hgt : ¬ (i2 : Int) > (m : Int) + 1 := by omega
                  have hgt2 : ¬ (m : Int) + 1 < (i2 : Int) := by omega
                  have hne : ¬ i2 = m + 1 := by omega
                  have HJ2 : Hid (PtI a (a + (n + 1)) (i2 + 1) m p ((l1.set i2 y).set (m + 1) x) ∧ ∀ q, SegS B g cap L a (a + (n + 1)) l ((l1.set i2 y).set (m + 1) x) w (((wr.drewN q).setCell ⟨g, i2, none⟩ (.int .u32 (y : Int))).setCell ⟨g, m + 1, none⟩ (.int .u32 (x : Int)))) := ⟨HJ.out.1.swap (by omega) him (by omega) HX.out HY.out hpx hpy2, fun q => HJ.out.2.swap HL.out ⟨by omega, by omega⟩ ⟨by omega, by omega⟩ HX.out HY.out q⟩
                  have cx := HJ.out.2.2.1.cell HX.out HLN.out.symm
                  have fx := HJ.out.2.2.1.free i2
                  have fy := HJ.out.2.2.1.free (m + 1)
                  go_wp2_with fail
                  go_quiet ((go_at_call 71; exact Calls.quiet_of_same ((HLS.out _).mono fun _ _ h => ⟨h.1, h.2.symm⟩)))
                  go_wp2_with fail
                  go_region
                  all_goals (
                go_wp2_with fail
                go_loopg [10, 11] (n + 1) (fun gg s10 s11 wr => ∃ (i j : Nat) (l1 : List Nat), s10 = .int .i64 (i : Int) ∧ s11 = .int .i64 (j : Int) ∧ a < i ∧ i ≤ j + 1 ∧ j ≤ a + n ∧ j + 1 - i ≤ gg ∧ Hid (PtI a (a + (n + 1)) i j p l1 ∧ SegS B g cap L a (a + (n + 1)) l l1 w wr))
                case atStart => exact ⟨i2 + 1, m, _, by go_num, by go_num, by omega, by omega, by omega, by omega, HJ2.out.1, HJ2.out.2 _⟩
                case round =>
                  clear HJ2 HJ HLS HX HY
                  obtain ⟨i, j, l1, rfl, rfl, hai, hij, hjn, hg, HI⟩ := hrel
                  have hlen : l1.length = L := by have := HI.out.2.1.len; have := HL.out; omega
                  have HLN := Lib.hid hlen
                  obtain ⟨W1, hW1⟩ : ∃ W1, W1 = wr := ⟨_, rfl⟩
                  rw [← hW1] at HI ⊢
                  clear hW1
                  go_wp2_with fail
                  go_loopg [10] (j + 1) (fun gk s10 wr => ∃ i2 : Nat, s10 = .int .i64 (i2 : Int) ∧ i ≤ i2 ∧ i2 ≤ j + 1 ∧ j + 1 - i2 ≤ gk ∧ Hid (PtI a (a + (n + 1)) i2 j p l1 ∧ SegS B g cap L a (a + (n + 1)) l l1 w wr))
                  case atStart => exact ⟨i, rfl, Nat.le_refl _, hij, by omega, HI.out⟩
                  case round =>
                    clear HI
                    obtain ⟨i2, rfl, hi2, hi2j, hgk, HJ⟩ := hrel
                    have cp := HJ.out.2.2.1.cell HJ.out.1.1 HLN.out.symm
                    by_cases hle : i2 ≤ j
                    · obtain ⟨x, hx⟩ : ∃ x, l1[i2]? = some x := ⟨_, List.getElem?_eq_getElem (by omega)⟩
                      have cx := HJ.out.2.2.1.cell hx HLN.out.symm
                      have HLS : Hid (∀ W, Calls Tryd.prog 71 #[.int .u32 (x : Int), .int .u32 (p : Int)] W fun e w' => e = .returned (.bool (decide (x < p))) ∧ W = w') := fun W => less_any x p W
                      have HX := Lib.hid hx
                      have i0' : (0 : Int) ≤ (i2 : Int) := by omega
                      have i1' : (i2 : Int) < (L : Int) := by omega
                      have i2' : (i2 : Int) ≤ (j : Int) := by omega
                      clear hx
                      by_cases hpx : ¬ x < p
                      · rw [show decide (x < p) = false from decide_eq_false hpx] at HLS
                        have HJ3 : Hid (PtI a (a + (n + 1)) i2 j p l1 ∧ ∀ q, SegS B g cap L a (a + (n + 1)) l l1 w (wr.drewN q)) := ⟨HJ.out.1, fun q => ⟨HJ.out.2.1, HJ.out.2.2.1.drewN q, below_drewN HJ.out.2.2.2 q⟩⟩
                        go_wp2_with fail
                        go_quiet ((go_at_call 71; exact Calls.quiet_of_same ((HLS.out _).mono fun _ _ h => ⟨h.1, h.2.symm⟩)))
                        go_wp2_with fail
                        go_loopg [11] (j + 1) (fun gk s11 wr => ∃ j2 : Nat, s11 = .int .i64 (j2 : Int) ∧ i2 ≤ j2 + 1 ∧ j2 ≤ j ∧ j2 + 1 - i2 ≤ gk ∧ Hid (PtI a (a + (n + 1)) i2 j2 p l1 ∧ SegS B g cap L a (a + (n + 1)) l l1 w wr))
                        case atStart => exact ⟨j, rfl, hi2j, Nat.le_refl _, by omega, HJ3.out.1, HJ3.out.2 _⟩
                        case round =>
                          clear HJ HJ3 cp cx HLS hgk i2' hle
                          obtain ⟨j2, rfl, hj2, hj2j, hgk2, HJ⟩ := hrel
                          have cp := HJ.out.2.2.1.cell HJ.out.1.1 HLN.out.symm
                          by_cases hle2 : i2 ≤ j2
                          · obtain ⟨m, rfl⟩ : ∃ m, j2 = m + 1 := ⟨j2 - 1, by omega⟩
                            obtain ⟨y, hy⟩ : ∃ y, l1[m + 1]? = some y := ⟨_, List.getElem?_eq_getElem (by omega)⟩
                            have cy := HJ.out.2.2.1.cell hy HLN.out.symm
                            have HLS : Hid (∀ W, Calls Tryd.prog 71 #[.int .u32 (y : Int), .int .u32 (p : Int)] W fun e w' => e = .returned (.bool (decide (y < p))) ∧ W = w') := fun W => less_any y p W
                            have HY := Lib.hid hy
                            have m0 : (0 : Int) ≤ (m : Int) + 1 := by omega
                            have m1 : (m : Int) + 1 < (L : Int) := by omega
                            have m2 : (i2 : Int) ≤ (m : Int) + 1 := by omega
                            have hwm : IntKind.i64.wrap (m : Int) = (m : Int) := IntWalk.i64_in _ (by constructor <;> omega)
                            clear hy
                            by_cases hpy : ¬ y < p
                            · rw [show decide (y < p) = false from decide_eq_false hpy] at HLS
                              have HJ2 : Hid (PtI a (a + (n + 1)) i2 m p l1 ∧ ∀ q, SegS B g cap L a (a + (n + 1)) l l1 w (wr.drewN q)) := ⟨HJ.out.1.down HY.out hpy, fun q => ⟨HJ.out.2.1, HJ.out.2.2.1.drewN q, below_drewN HJ.out.2.2.2 q⟩⟩
                              go_wp2_with fail
                              go_quiet ((go_at_call 71; exact Calls.quiet_of_same ((HLS.out _).mono fun _ _ h => ⟨h.1, h.2.symm⟩)))
                              go_wp2_with fail
                              go_roundg (m + 1 - i2)
                              case measure => omega
                              case rel => exact ⟨m, by go_num, by omega, by omega, Nat.le_refl _, HJ2.out.1, HJ2.out.2 _⟩
                            · have hpy2 : y < p := Nat.lt_of_not_ge fun h => hpy (Nat.not_lt.2 h)
                              rw [show decide (y < p) = true from decide_eq_true hpy2] at HLS
                              have him : i2 < m + 1 := by
                                refine Nat.lt_of_le_of_ne hle2 (fun e => hpy ?_)
                                have h1 := HX.out
                                have h2 := HY.out
                                rw [← e, h1] at h2
                                cases h2; exact hpx
                              have hgt : ¬ (i2 : Int) > (m : Int) + 1 := by omega
                              have hgt2 : ¬ (m : Int) + 1 < (i2 : Int) := by omega
                              have hne : ¬ i2 = m + 1 := by omega
                              have HJ2 : Hid (PtI a (a + (n + 1)) (i2 + 1) m p ((l1.set i2 y).set (m + 1) x) ∧ ∀ q, SegS B g cap L a (a + (n + 1)) l ((l1.set i2 y).set (m + 1) x) w (((wr.drewN q).setCell ⟨g, i2, none⟩ (.int .u32 (y : Int))).setCell ⟨g, m + 1, none⟩ (.int .u32 (x : Int)))) := ⟨HJ.out.1.swap (by omega) him (by omega) HX.out HY.out hpx hpy2, fun q => HJ.out.2.swap HL.out ⟨by omega, by omega⟩ ⟨by omega, by omega⟩ HX.out HY.out q⟩
                              have cx := HJ.out.2.2.1.cell HX.out HLN.out.symm
                              have fx := HJ.out.2.2.1.free i2
                              have fy := HJ.out.2.2.1.free (m + 1)
                              go_wp2_with fail
                              go_quiet ((go_at_call 71; exact Calls.quiet_of_same ((HLS.out _).mono fun _ _ h => ⟨h.1, h.2.symm⟩)))
                              go_wp2_with fail
                              go_region
                              all_goals (
                                go_wp2_with fail
                                go_roundg (m + 1 - (i2 + 1))
                                case measure => omega
                                case rel => exact ⟨i2 + 1, m, _, by go_num, by go_num, by omega, by omega, by omega, by omega, HJ2.out.1, HJ2.out.2 _⟩)
                          · have hlf : ¬ (i2 : Int) ≤ (j2 : Int) := by omega
                            have hd : decide ((i2 : Int) ≤ (j2 : Int)) = false := decide_eq_false hlf
                            have hgt : (i2 : Int) > (j2 : Int) := by omega
                            have hgd : decide ((i2 : Int) > (j2 : Int)) = true := decide_eq_true hgt
                            have HDN : Hid (PtI a (a + (n + 1)) (j2 + 1) j2 p l1) := (by omega : i2 = j2 + 1) ▸ HJ.out.1
                            obtain ⟨v, hv⟩ : ∃ v, l1[j2]? = some v := ⟨_, List.getElem?_eq_getElem (by have := HLN.out; omega)⟩
                            have cv := HJ.out.2.2.1.cell hv HLN.out.symm
                            have fv := HJ.out.2.2.1.free j2
                            have fa9 := HJ.out.2.2.1.free a
                            have HPD := Lib.hid (HDN.out.done (by omega) (by omega) hv)
                            have HSF : Hid (∀ q, SegS B g cap L a (a + (n + 1)) l ((l1.set j2 p).set a v) w (((wr.drewN q).setCell ⟨g, j2, none⟩ (.int .u32 (p : Int))).setCell ⟨g, a, none⟩ (.int .u32 (v : Int)))) := fun q => HJ.out.2.swap HL.out ⟨by omega, by omega⟩ ⟨Nat.le_refl _, by omega⟩ hv HJ.out.1.1 q
                            have jv0 : (0 : Int) ≤ (j2 : Int) := by omega
                            have jv1 : (j2 : Int) < (L : Int) := by omega
                            have hjan : a ≤ j2 ∧ j2 < a + (n + 1) := by omega
                            clear hv
                            by_cases hja : a = j2
                            · have HCA : Hid (v = p) := by
                                have h1 := HJ.out.2.2.1.cell HJ.out.1.1 HLN.out.symm
                                rw [hja, cv] at h1
                                have h2 : (v : Int) = (p : Int) := by simpa using h1
                                show v = p
                                omega
                              have hvp : v = p := HCA.out
                              clear HCA
                              subst hvp
                              subst hja
                              go_wp2_with fail
                              go_quiet (fail)
                              go_wp2_with fail
                              go_region
                              all_goals (
                                go_wp2_with fail
                                go_ret2
                                exact ⟨_, _, _, _, rfl, HP.out, hjan.1, hjan.2, HPD.out, HSF.out _⟩)
                            · have hja2 : ¬ j2 = a := fun e => hja e.symm
                              go_wp2_with fail
                              go_quiet (fail)
                              go_wp2_with fail
                              go_region
                              all_goals (
                                go_wp2_with fail
                                go_ret2
                                exact ⟨_, _, _, _, rfl, HP.out, hjan.1, hjan.2, HPD.out, HSF.out _⟩)
                      · rw [show decide (x < p) = true from decide_eq_true (Nat.lt_of_not_ge fun h => hpx (Nat.not_lt.2 h))] at HLS
                        have HJ2 : Hid (PtI a (a + (n + 1)) (i2 + 1) j p l1 ∧ ∀ q, SegS B g cap L a (a + (n + 1)) l l1 w (wr.drewN q)) := ⟨HJ.out.1.up HX.out (Nat.lt_of_not_ge fun h => hpx (Nat.not_lt.2 h)), fun q => ⟨HJ.out.2.1, HJ.out.2.2.1.drewN q, below_drewN HJ.out.2.2.2 q⟩⟩
                        go_wp2_with fail
                        go_quiet ((go_at_call 71; exact Calls.quiet_of_same ((HLS.out _).mono fun _ _ h => ⟨h.1, h.2.symm⟩)))
                        go_wp2_with fail
                        go_roundg (j + 1 - (i2 + 1))
                        case measure => omega
                        case rel => exact ⟨i2 + 1, by go_num, by omega, by omega, Nat.le_refl _, HJ2.out.1, HJ2.out.2 _⟩
                    · have hlf : ¬ (i2 : Int) ≤ (j : Int) := by omega
                      have hd : decide ((i2 : Int) ≤ (j : Int)) = false := decide_eq_false hlf
                      have HJ3 : Hid (PtI a (a + (n + 1)) i2 j p l1 ∧ ∀ q, SegS B g cap L a (a + (n + 1)) l l1 w (wr.drewN q)) := ⟨HJ.out.1, fun q => ⟨HJ.out.2.1, HJ.out.2.2.1.drewN q, below_drewN HJ.out.2.2.2 q⟩⟩
                      have hgt : (i2 : Int) > (j : Int) := by omega
                      have hgd : decide ((i2 : Int) > (j : Int)) = true := decide_eq_true hgt
                      have HDN : Hid (PtI a (a + (n + 1)) (j + 1) j p l1) := (by omega : i2 = j + 1) ▸ HJ.out.1
                      obtain ⟨v, hv⟩ : ∃ v, l1[j]? = some v := ⟨_, List.getElem?_eq_getElem (by have := HLN.out; omega)⟩
                      have cv := HJ.out.2.2.1.cell hv HLN.out.symm
                      have fv := HJ.out.2.2.1.free j
                      have fa9 := HJ.out.2.2.1.free a
                      have HPD := Lib.hid (HDN.out.done (by omega) (by omega) hv)
                      have HSF : Hid (∀ q, SegS B g cap L a (a + (n + 1)) l ((l1.set j p).set a v) w (((wr.drewN q).setCell ⟨g, j, none⟩ (.int .u32 (p : Int))).setCell ⟨g, a, none⟩ (.int .u32 (v : Int)))) := fun q => HJ.out.2.swap HL.out ⟨by omega, by omega⟩ ⟨Nat.le_refl _, by omega⟩ hv HJ.out.1.1 q
                      have jv0 : (0 : Int) ≤ (j : Int) := by omega
                      have jv1 : (j : Int) < (L : Int) := by omega
                      have hjan : a ≤ j ∧ j < a + (n + 1) := by omega
                      clear hv
                      by_cases hja : a = j
                      · have HCA : Hid (v = p) := by
                          have h1 := HJ.out.2.2.1.cell HJ.out.1.1 HLN.out.symm
                          rw [hja, cv] at h1
                          have h2 : (v : Int) = (p : Int) := by simpa using h1
                          show v = p
                          omega
                        have hvp : v = p := HCA.out
                        clear HCA
                        subst hvp
                        subst hja
                        go_wp2_with fail
                        go_quiet (fail)
                        go_wp2_with fail
                        refine wp_loop_rounds 1 ?_
                        rw [rounds_succ]
                        go_wp2_with fail
                        go_quiet (fail)
                        go_wp2_with fail
                        go_region
                        all_goals (
                          go_wp2_with fail
                          go_ret2
                          exact ⟨_, _, _, _, rfl, HP.out, hjan.1, hjan.2, HPD.out, HSF.out _⟩)
                      · have hja2 : ¬ j = a := fun e => hja e.symm
                        go_wp2_with fail
                        go_quiet (fail)
                        go_wp2_with fail
                        refine wp_loop_rounds 1 ?_
                        rw [rounds_succ]
                        go_wp2_with fail
                        go_quiet (fail)
                        go_wp2_with fail
                        go_region
                        all_goals (
                          go_wp2_with fail
                          go_ret2
                          exact ⟨_, _, _, _, rfl, HP.out, hjan.1, hjan.2, HPD.out, HSF.out _⟩))
              · have hlf : ¬ (i2 : Int) ≤ (j2 : Int) := by omega
                have hd : decide ((i2 : Int) ≤ (j2 : Int)) = false := decide_eq_false hlf
                have hgt : (i2 : Int) > (j2 : Int) := by omega
                have hgd : decide ((i2 : Int) > (j2 : Int)) = true := decide_eq_true hgt
                have HDN : Hid (PtI a (a + (n + 1)) (j2 + 1) j2 p l1) := (by omega : i2 = j2 + 1) ▸ HJ.out.1
                obtain ⟨v, hv⟩ : ∃ v, l1[j2]? = some v := ⟨_, List.getElem?_eq_getElem (by have := HLN.out; omega)⟩
                have cv := HJ.out.2.2.1.cell hv HLN.out.symm
                have fv := HJ.out.2.2.1.free j2
                have fa9 := HJ.out.2.2.1.free a
                have HPD := Lib.hid (HDN.out.done (by omega) (by omega) hv)
                have HSF : Hid (∀ q, SegS B g cap L a (a + (n + 1)) l ((l1.set j2 p).set a v) w (((wr.drewN q).setCell ⟨g, j2, none⟩ (.int .u32 (p : Int))).setCell ⟨g, a, none⟩ (.int .u32 (v : Int)))) := fun q => HJ.out.2.swap HL.out ⟨by omega, by omega⟩ ⟨Nat.le_refl _, by omega⟩ hv HJ.out.1.1 q
                have jv0 : (0 : Int) ≤ (j2 : Int) := by omega
                have jv1 : (j2 : Int) < (L : Int) := by omega
                have hjan : a ≤ j2 ∧ j2 < a + (n + 1) := by omega
                clear hv
                by_cases hja : a = j2
                · have HCA : Hid (v = p) := by
                    have h1 := HJ.out.2.2.1.cell HJ.out.1.1 HLN.out.symm
                    rw [hja, cv] at h1
                    have h2 : (v : Int) = (p : Int) := by simpa using h1
                    show v = p
                    omega
                  have hvp : v = p := HCA.out
                  clear HCA
                  subst hvp
                  subst hja
                  go_wp2_with fail
                  go_quiet (fail)
                  go_wp2_with fail
                  go_region
                  all_goals (
                    go_wp2_with fail
                    go_ret2
                    exact ⟨_, _, _, _, rfl, HP.out, hjan.1, hjan.2, HPD.out, HSF.out _⟩)
                · have hja2 : ¬ j2 = a := fun e => hja e.symm
                  go_wp2_with fail
                  go_quiet (fail)
                  go_wp2_with fail
                  go_region
                  all_goals (
                    go_wp2_with fail
                    go_ret2
                    exact ⟨_, _, _, _, rfl, HP.out, hjan.1, hjan.2, HPD.out, HSF.out _⟩)
          · rw [show decide (x < p) = true from decide_eq_true (Nat.lt_of_not_ge fun h => hpx (Nat.not_lt.2 h))] at HLS
            have HJ2 : Hid (PtI a (a + (n + 1)) (i2 + 1) j p l1 ∧ ∀ q, SegS B g cap L a (a + (n + 1)) l l1 w (wr.drewN q)) := ⟨HJ.out.1.up HX.out (Nat.lt_of_not_ge fun h => hpx (Nat.not_lt.2 h)), fun q => ⟨HJ.out.2.1, HJ.out.2.2.1.drewN q, below_drewN HJ.out.2.2.2 q⟩⟩
            go_wp2_with fail
            go_quiet ((go_at_call 71; exact Calls.quiet_of_same ((HLS.out _).mono fun _ _ h => ⟨h.1, h.2.symm⟩)))
            go_wp2_with fail
            go_roundg (j + 1 - (i2 + 1))
            case measure => omega
            case rel => exact ⟨i2 + 1, by go_num, by omega, by omega, Nat.le_refl _, HJ2.out.1, HJ2.out.2 _⟩
        · have hlf : ¬ (i2 : Int) ≤ (j : Int) := by omega
          have hd : decide ((i2 : Int) ≤ (j : Int)) = false := decide_eq_false hlf
          have HJ3 : Hid (PtI a (a + (n + 1)) i2 j p l1 ∧ ∀ q, SegS B g cap L a (a + (n + 1)) l l1 w (wr.drewN q)) := ⟨HJ.out.1, fun q => ⟨HJ.out.2.1, HJ.out.2.2.1.drewN q, below_drewN HJ.out.2.2.2 q⟩⟩
          have hgt : (i2 : Int) > (j : Int) := by omega
          have hgd : decide ((i2 : Int) > (j : Int)) = true := decide_eq_true hgt
          have HDN : Hid (PtI a (a + (n + 1)) (j + 1) j p l1) := (by omega : i2 = j + 1) ▸ HJ.out.1
          obtain ⟨v, hv⟩ : ∃ v, l1[j]? = some v := ⟨_, List.getElem?_eq_getElem (by have := HLN.out; omega)⟩
          have cv := HJ.out.2.2.1.cell hv HLN.out.symm
          have fv := HJ.out.2.2.1.free j
          have fa9 := HJ.out.2.2.1.free a
          have HPD := Lib.hid (HDN.out.done (by omega) (by omega) hv)
          have HSF : Hid (∀ q, SegS B g cap L a (a + (n + 1)) l ((l1.set j p).set a v) w (((wr.drewN q).setCell ⟨g, j, none⟩ (.int .u32 (p : Int))).setCell ⟨g, a, none⟩ (.int .u32 (v : Int)))) := fun q => HJ.out.2.swap HL.out ⟨by omega, by omega⟩ ⟨Nat.le_refl _, by omega⟩ hv HJ.out.1.1 q
          have jv0 : (0 : Int) ≤ (j : Int) := by omega
          have jv1 : (j : Int) < (L : Int) := by omega
          have hjan : a ≤ j ∧ j < a + (n + 1) := by omega
          clear hv
          by_cases hja : a = j
          · have HCA : Hid (v = p) := by
              have h1 := HJ.out.2.2.1.cell HJ.out.1.1 HLN.out.symm
              rw [hja, cv] at h1
              have h2 : (v : Int) = (p : Int) := by simpa using h1
              show v = p
              omega
            have hvp : v = p := HCA.out
            clear HCA
            subst hvp
            subst hja
            go_wp2_with fail
            go_quiet (fail)
            go_wp2_with fail
            refine wp_loop_rounds 1 ?_
            rw [rounds_succ]
            go_wp2_with fail
            go_quiet (fail)
            go_wp2_with fail
            go_region
            all_goals (
              go_wp2_with fail
              go_ret2
              exact ⟨_, _, _, _, rfl, HP.out, hjan.1, hjan.2, HPD.out, HSF.out _⟩)
          · have hja2 : ¬ j = a := fun e => hja e.symm
            go_wp2_with fail
            go_quiet (fail)
            go_wp2_with fail
            refine wp_loop_rounds 1 ?_
            rw [rounds_succ]
            go_wp2_with fail
            go_quiet (fail)
            go_wp2_with fail
            go_region
            all_goals (
              go_wp2_with fail
              go_ret2
              exact ⟨_, _, _, _, rfl, HP.out, hjan.1, hjan.2, HPD.out, HSF.out _⟩))
end Go.Proofs.YtaniiennfogjaaaDoor
