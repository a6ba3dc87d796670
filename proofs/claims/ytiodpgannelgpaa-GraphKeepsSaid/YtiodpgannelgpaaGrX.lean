/-
  The walks of the library's BinarySearchFunc at edges and of find.
-/
import Derived.Test.YtiodpgannelgpaaGrE
namespace Go.Proofs.Ytiodpgannelgpaa
open Go.RowKit GM Go.Sort
set_option linter.unusedSimpArgs false
set_option linter.unusedVariables false
set_option maxHeartbeats 4000000
set_option maxRecDepth 100000

/-- what the search keeps -/
def BsE (t : E) (l : List E) (i j : Nat) : Prop := i ≤ j ∧ j ≤ l.length ∧ (∀ k x, l[k]? = some x → k < i → bef x t = true) ∧ ∀ k x, l[k]? = some x → j ≤ k → bef x t = false
theorem bse_lo {t : E} {l : List E} {i j h : Nat} {x : E} (ha : l.Pairwise (fun a b => bef a b = true)) (hI : BsE t l i j) (h1 : i ≤ h) (h2 : h < j) (hx : l[h]? = some x) (hlt : bef x t = true) : BsE t l (h + 1) j := by
  refine ⟨by omega, hI.2.1, fun k y hy hk => ?_, hI.2.2.2⟩
  rcases (by omega : k < h ∨ k = h) with g | g
  · obtain ⟨a1, a2⟩ := List.getElem?_eq_some_iff.1 hy
    obtain ⟨b1, b2⟩ := List.getElem?_eq_some_iff.1 hx
    have := List.pairwise_iff_getElem.1 ha k h a1 b1 g
    rw [a2, b2] at this
    exact bef_trans this hlt
  · subst g; rw [hx] at hy; cases hy; exact hlt
theorem bse_hi {t : E} {l : List E} {i j h : Nat} {x : E} (ha : l.Pairwise (fun a b => bef a b = true)) (hI : BsE t l i j) (h1 : i ≤ h) (h2 : h < j) (hx : l[h]? = some x) (hlt : bef x t = false) : BsE t l i h := by
  refine ⟨h1, by have := hI.2.1; omega, hI.2.2.1, fun k y hy hk => ?_⟩
  rcases (by omega : h < k ∨ k = h) with g | g
  · obtain ⟨a1, a2⟩ := List.getElem?_eq_some_iff.1 hy
    obtain ⟨b1, b2⟩ := List.getElem?_eq_some_iff.1 hx
    have := List.pairwise_iff_getElem.1 ha h k b1 a1 g
    rw [a2, b2] at this
    cases hb : bef y t
    · rfl
    · rw [bef_trans this hb] at hlt; cases hlt
  · subst g; rw [hx] at hy; cases hy; exact hlt
/-- is there an edge between the nodes at that place -/
def hit (t : E) (l : List E) (i : Nat) : Bool := match l[i]? with | some x => decide (ordC x t = 0) | none => false
theorem bsearch_any (l : List E) (v : Value) (t : E) (w : World) (hl : l.length ≤ 4294967296) (ha : l.Pairwise (fun a b => bef a b = true)) (hr : Rd3 w v l) :
    Calls Try.prog 95 #[v, .agg #[.int .i64 t.1, .int .i64 t.2.1, .int .i64 t.2.2], .func (.func 51) #[] #[]] w fun e w' => ∃ i : Nat, e = .returned (.tuple #[.int .i64 (i : Int), .bool (hit t l i)]) ∧ BsE t l i i ∧ Below w.heap.size w w' := by
  obtain ⟨ad, cap, rfl, hcap1, hcap2, hc⟩ := hr
  obtain ⟨t0, t1, t2⟩ := t
  have HC := Lib.hid hc
  have HA := Lib.hid ha
  have HO : Hid (∀ x W, Calls Try.prog 51 #[.agg #[.int .i64 x.1, .int .i64 x.2.1, .int .i64 x.2.2], .agg #[.int .i64 t0, .int .i64 t1, .int .i64 t2]] W fun e w' => e = .returned (.int .i64 (ordC x (t0, t1, t2))) ∧ Gr W w') := fun x W => order_any x (t0, t1, t2) W
  have B0 := Lib.hid (below_alloc w (.cells #[.int .i64 t0, .int .i64 t1, .int .i64 t2] 52))
  have X0 := Lib.hid (heap_alloc_new w (.cells #[.int .i64 t0, .int .i64 t1, .int .i64 t2] 52))
  obtain ⟨L, hL⟩ : ∃ L, l.length = L := ⟨_, rfl⟩
  rw [hL] at hl hcap1 ⊢
  have HLN := Lib.hid hL
  clear hc ha hL
  go_enter Try.func95, Try.ntmps95
  go_wp2_with fail
  go_loopg [9, 10, 11] L (fun g s9 s10 s11 wr => ∃ (i j : Nat), s9 = .int .i64 i ∧ s10 = .int .i64 j ∧ (∃ v, v = s11) ∧ i ≤ j ∧ j ≤ L ∧ j - i ≤ g ∧ Hid (BsE (t0, t1, t2) l i j ∧ Below w.heap.size w wr ∧ wr.heap[w.heap.size]? = some (.cells #[.int .i64 t0, .int .i64 t1, .int .i64 t2] 52 (0, 0))))
  case atStart => exact ⟨0, L, rfl, rfl, ⟨_, rfl⟩, by omega, Nat.le_refl _, by omega, ⟨Nat.zero_le _, by have := HLN.out; omega, fun k x _ h => by omega, fun k x hx h => by have := (List.getElem?_eq_some_iff.1 hx).1; have := HLN.out; omega⟩, B0.out, X0.out⟩
  case round =>
    obtain ⟨i, j, rfl, rfl, ⟨v11, rfl⟩, hij, hj, hg, HI⟩ := hrel
    by_cases hlt : i < j
    · go_wp2
      obtain ⟨h, hh⟩ : ∃ h : Nat, h = (i + j) / 2 := ⟨_, rfl⟩
      have eh : ((i : Int) + (j : Int)) / 2 = (h : Int) := by omega
      simp only [eh]
      have hih : i ≤ h := by omega
      have hhj : h < j := by omega
      have hhl : h < L := by omega
      clear eh hh
      obtain ⟨x, hx⟩ : ∃ x, l[h]? = some x := ⟨_, List.getElem?_eq_getElem (by have := HLN.out; omega)⟩
      obtain ⟨blk, off, rfl, hblk, hc0, hc1, hc2⟩ := HC.out h x hx
      have f0 := carryB HI.out.2.1 hblk hc0
      have f1 := carryB HI.out.2.1 hblk hc1
      have f2 := carryB HI.out.2.1 hblk hc2
      have s0 : wr.cell? ⟨w.heap.size, 0, none⟩ = some (.int .i64 t0) := cell_of HI.out.2.2 rfl
      have s1 : wr.cell? ⟨w.heap.size, 1, none⟩ = some (.int .i64 t1) := cell_of HI.out.2.2 rfl
      have s2 : wr.cell? ⟨w.heap.size, 2, none⟩ = some (.int .i64 t2) := cell_of HI.out.2.2 rfl
      have HX := Lib.hid hx
      have HN := Lib.hid (ordC_neg (a := x) (b := (t0, t1, t2)))
      have HP : Hid (∀ W, Calls Try.prog 51 #[.agg #[.int .i64 x.1, .int .i64 x.2.1, .int .i64 x.2.2], .agg #[.int .i64 t0, .int .i64 t1, .int .i64 t2]] W fun e w' => e = .returned (.int .i64 (ordC x (t0, t1, t2))) ∧ Gr W w') := fun W => HO.out x W
      obtain ⟨a, b, c⟩ := x
      dsimp only at f0 f1 f2 HP
      generalize ordC (a, b, c) (t0, t1, t2) = z at HN HP
      clear hc0 hc1 hc2 hx
      go_region_held3 (fun w' => w'.cell? ⟨blk, off + h * 3, none⟩ = some (.int .i64 a) ∧ w'.cell? ⟨blk, off + h * 3 + 1, none⟩ = some (.int .i64 b) ∧ w'.cell? ⟨blk, off + h * 3 + 2, none⟩ = some (.int .i64 c) ∧ w'.cell? ⟨w.heap.size, 0, none⟩ = some (.int .i64 t0) ∧ w'.cell? ⟨w.heap.size, 1, none⟩ = some (.int .i64 t1) ∧ w'.cell? ⟨w.heap.size, 2, none⟩ = some (.int .i64 t2))
        (first | exact ⟨f0, f1, f2, s0, s1, s2⟩ | assumption)
        (first | (go_at_call 51; refine (HP.out _).mono ?_; rintro e w6 ⟨rfl, hg⟩; have G := Lib.hid hg; have hk := (And.intro (carry hg.below (show wr.drew.cell? _ = _ from f0)) (And.intro (carry hg.below (show wr.drew.cell? _ = _ from f1)) (And.intro (carry hg.below (show wr.drew.cell? _ = _ from f2)) (And.intro (carry hg.below (show wr.drew.cell? _ = _ from s0)) (And.intro (carry hg.below (show wr.drew.cell? _ = _ from s1)) (carry hg.below (show wr.drew.cell? _ = _ from s2))))))); clear hg))
      all_goals (
        have B4 : Hid (Below wr.heap.size wr w6) := ⟨G.out.below.os, G.out.below.tape, G.out.below.output, G.out.below.size, G.out.below.block⟩
        have B5 : Hid (Below w.heap.size w w6) := below_then HI.out.2.1 B4.out
        have X5 : Hid (w6.heap[w.heap.size]? = some (.cells #[.int .i64 t0, .int .i64 t1, .int .i64 t2] 52 (0, 0))) := (B4.out.block _ (lt_block HI.out.2.2)).trans HI.out.2.2
        clear hk f0 f1 f2 s0 s1 s2
        by_cases hneg : z < 0
        · have HL : Hid (bef (a, b, c) (t0, t1, t2) = true) := HN.out.1 hneg
          go_wp2_with fail
          go_roundg (j - (h + 1))
          case measure => omega
          case rel => exact ⟨h + 1, j, by go_num, rfl, ⟨_, rfl⟩, by omega, by omega, Nat.le_refl _, bse_lo HA.out HI.out.1 hih hhj HX.out HL.out, B5.out, X5.out⟩
        · have HL : Hid (bef (a, b, c) (t0, t1, t2) = false) := by
            show _ = _
            cases hb : bef (a, b, c) (t0, t1, t2)
            · rfl
            · exact absurd (HN.out.2 hb) hneg
          have hneg' : decide (z < 0) = false := decide_eq_false hneg
          go_wp2_with fail
          go_roundg (h - i)
          case measure => omega
          case rel => exact ⟨i, h, rfl, rfl, ⟨_, rfl⟩, by omega, by omega, Nat.le_refl _, bse_hi HA.out HI.out.1 hih hhj HX.out HL.out, B5.out, X5.out⟩)
    · obtain rfl : i = j := by omega
      have BW : Hid (Below w.heap.size w wr) := HI.out.2.1
      have HJ := Lib.hid HI.out.1
      rcases (show i < L ∨ i = L by omega) with hil | hil
      · obtain ⟨x, hx⟩ : ∃ x, l[i]? = some x := ⟨_, List.getElem?_eq_getElem (by have := HLN.out; omega)⟩
        obtain ⟨blk, off, rfl, hblk, hc0, hc1, hc2⟩ := HC.out i x hx
        have f0 := carryB BW.out hblk hc0
        have f1 := carryB BW.out hblk hc1
        have f2 := carryB BW.out hblk hc2
        have s0 : wr.cell? ⟨w.heap.size, 0, none⟩ = some (.int .i64 t0) := cell_of HI.out.2.2 rfl
        have s1 : wr.cell? ⟨w.heap.size, 1, none⟩ = some (.int .i64 t1) := cell_of HI.out.2.2 rfl
        have s2 : wr.cell? ⟨w.heap.size, 2, none⟩ = some (.int .i64 t2) := cell_of HI.out.2.2 rfl
        have HH : Hid (hit (t0, t1, t2) l i = (ordC x (t0, t1, t2) == 0)) := by show _ = _; unfold hit; rw [hx]; rfl
        have HP : Hid (∀ W, Calls Try.prog 51 #[.agg #[.int .i64 x.1, .int .i64 x.2.1, .int .i64 x.2.2], .agg #[.int .i64 t0, .int .i64 t1, .int .i64 t2]] W fun e w' => e = .returned (.int .i64 (ordC x (t0, t1, t2))) ∧ Gr W w') := fun W => HO.out x W
        obtain ⟨a, b, c⟩ := x
        dsimp only at f0 f1 f2 HP
        generalize ordC (a, b, c) (t0, t1, t2) = z at HH HP
        clear hc0 hc1 hc2 hx hlt
        go_wp2_with fail
        go_region_held3 (fun w' => w'.cell? ⟨blk, off + i * 3, none⟩ = some (.int .i64 a) ∧ w'.cell? ⟨blk, off + i * 3 + 1, none⟩ = some (.int .i64 b) ∧ w'.cell? ⟨blk, off + i * 3 + 2, none⟩ = some (.int .i64 c) ∧ w'.cell? ⟨w.heap.size, 0, none⟩ = some (.int .i64 t0) ∧ w'.cell? ⟨w.heap.size, 1, none⟩ = some (.int .i64 t1) ∧ w'.cell? ⟨w.heap.size, 2, none⟩ = some (.int .i64 t2))
          (first | exact ⟨f0, f1, f2, s0, s1, s2⟩ | assumption)
          (first | (go_at_call 51; refine (HP.out _).mono ?_; rintro e w6 ⟨rfl, hg⟩; have G := Lib.hid hg; have hk := (And.intro (carry hg.below (show wr.drew.cell? _ = _ from f0)) (And.intro (carry hg.below (show wr.drew.cell? _ = _ from f1)) (And.intro (carry hg.below (show wr.drew.cell? _ = _ from f2)) (And.intro (carry hg.below (show wr.drew.cell? _ = _ from s0)) (And.intro (carry hg.below (show wr.drew.cell? _ = _ from s1)) (carry hg.below (show wr.drew.cell? _ = _ from s2))))))); clear hg))
        all_goals (
          have B4 : Hid (Below wr.heap.size wr w6) := ⟨G.out.below.os, G.out.below.tape, G.out.below.output, G.out.below.size, G.out.below.block⟩
          go_wp2
          go_ret2
          exact ⟨i, by rw [HH.out]; rfl, HJ.out, below_then BW.out B4.out⟩)
      · subst hil
        have HH : Hid (hit (t0, t1, t2) l i = false) := by show _ = _; unfold hit; rw [show l[i]? = none from List.getElem?_eq_none (by have := HLN.out; omega)]
        have hil : decide ((i : Int) < (i : Int)) = false := decide_eq_false (by omega)
        go_wp2_with fail
        go_quiet (fail)
        go_wp2
        go_ret2
        exact ⟨i, by rw [HH.out]; rfl, HJ.out, below_drewN BW.out _⟩
theorem find_any (l : List E) (v : Value) (a b : Int) (w : World) (hl : l.length ≤ 4294967296) (ha : l.Pairwise (fun a b => bef a b = true)) (hr : Rd3 w v l) :
    Calls Try.prog 72 #[v, .int .i64 a, .int .i64 b] w fun e w' => ∃ i : Nat, e = .returned (.tuple #[.int .i64 (i : Int), .bool (hit (a, b, 0) l i)]) ∧ BsE (a, b, 0) l i i ∧ Below w.heap.size w w' := by
  have HB : Hid (Calls Try.prog 95 #[v, .agg #[.int .i64 a, .int .i64 b, .int .i64 0], .func (.func 51) #[] #[]] w fun e w' => ∃ i : Nat, e = .returned (.tuple #[.int .i64 (i : Int), .bool (hit (a, b, 0) l i)]) ∧ BsE (a, b, 0) l i i ∧ Below w.heap.size w w') := bsearch_any l v (a, b, 0) w hl ha hr
  clear hr ha
  go_enter Try.func72, Try.ntmps72
  go_wp2_with (go_at_call 95; refine HB.out.mono ?_; rintro e w1 ⟨i, rfl, hbs, hb⟩; have H1 := Lib.hid (And.intro hbs hb); clear hbs hb)
  go_ret2
  exact ⟨i, rfl, H1.out.1, H1.out.2⟩
end Go.Proofs.Ytiodpgannelgpaa
