/-
  The walks of uniform, of slices.BinarySearchFunc at prefixes and of split.
  The walk of split and of the closures that say what is kept.
-/
import Derived.Test.YtegponbmelgngaaMgSc
import Derived.Test.YtegponbmelgngaaMgWb
import Derived.RegionTactic
import Derived.LoopN
section
namespace Go.Proofs.Ytegponbmelgngaa
open Go.RowKit
set_option linter.unusedSimpArgs false
set_option linter.unusedVariables false
set_option maxHeartbeats 4000000
set_option maxRecDepth 100000

theorem kp4 {w W W1 : World} {p0 p1 p2 p3 : Addr} {c0 c1 c2 c3 : Value} (h : W.cell? p0 = some c0 ∧ W.cell? p1 = some c1 ∧ W.cell? p2 = some c2 ∧ W.cell? p3 = some c3 ∧ Below w.heap.size w W) (hb : Below W.heap.size W W1) :
    W1.cell? p0 = some c0 ∧ W1.cell? p1 = some c1 ∧ W1.cell? p2 = some c2 ∧ W1.cell? p3 = some c3 ∧ Below w.heap.size w W1 :=
  ⟨carry hb h.1, carry hb h.2.1, carry hb h.2.2.1, carry hb h.2.2.2.1, below_then h.2.2.2.2 hb⟩
theorem uniform_cons (x : PP) (r : List PP) (v : Value) (p : PP) (w : World) (hr : Rd w v (x :: r)) (hx : x.1 < 4294967296 ∧ I64 x.2) (hp : p.1 < 4294967296 ∧ I64 p.2) :
    Calls Try.prog 106 #[v, .agg #[.int .u32 (p.1 : Int), .int .i64 p.2]] w fun e w' => e = .returned (.bool (C x p)) ∧ Below w.heap.size w w' := by
  obtain ⟨ad, cap, rfl, hc⟩ := hr
  obtain ⟨blk, off, rfl, hblk, hc0, hc1⟩ := hc 0 x rfl
  obtain ⟨a, n⟩ := x
  obtain ⟨b, m⟩ := p
  have HC : Hid (∀ W, Calls Try.prog 137 #[.agg #[.int .u32 (a : Int), .int .i64 n], .agg #[.int .u32 (b : Int), .int .i64 m]] W fun e w' => e = .returned (.bool (C (a, n) (b, m))) ∧ Below W.heap.size W w') := fun W => covers_any a hx.1 n hx.2 b hp.1 m hp.2 W
  generalize C (a, n) (b, m) = z at HC ⊢
  rw [List.length_cons]
  obtain ⟨N, hN⟩ : ∃ N, N = r.length + 1 := ⟨_, rfl⟩
  rw [← hN]
  have hpos : 0 < N := by omega
  have hd : ((N : Int) == 0) = false := by simp; omega
  dsimp only at hc0 hc1
  simp only [Nat.zero_mul, Nat.add_zero] at hc0 hc1
  have f0 : ∀ o, (w.alloc o).drew.cell? ⟨blk, off, none⟩ = some (.int .u32 (a : Int)) := fun o => carry (below_alloc _ _) hc0
  have f1 : ∀ o, (w.alloc o).drew.cell? ⟨blk, off + 1, none⟩ = some (.int .i64 n) := fun o => carry (below_alloc _ _) hc1
  have B0 : Hid (∀ o, Below w.heap.size w (w.alloc o).drew) := fun o => (below_alloc w o).drew
  clear hc hx hp hN hc0 hc1
  go_enter Try.func106, Try.ntmps106
  go_wp2
  go_region_held3 (fun W => W.cell? ⟨blk, off, none⟩ = some (.int .u32 (a : Int)) ∧ W.cell? ⟨blk, off + 1, none⟩ = some (.int .i64 n) ∧ W.cell? ⟨w.heap.size, 0, none⟩ = some (.int .u32 (b : Int)) ∧ W.cell? ⟨w.heap.size, 1, none⟩ = some (.int .i64 m) ∧ Below w.heap.size w W)
    (first | exact ⟨f0 _, f1 _, by simp, by simp, B0.out _⟩ | assumption)
    (first | (go_at_call 137; refine (HC.out _).mono ?_; rintro e w6 ⟨rfl, hb⟩; have hk6 := kp4 ‹_› hb; clear hb))
  all_goals go_wp2
  all_goals go_ret
  all_goals exact ⟨rfl, hk6.2.2.2.2⟩
theorem uniform_nil (ad : Option Addr) (cap : Nat) (p : PP) (w : World) :
    Calls Try.prog 106 #[.slice ad 0 cap, .agg #[.int .u32 (p.1 : Int), .int .i64 p.2]] w fun e w' => e = .returned (.bool true) ∧ Below w.heap.size w w' := by
  obtain ⟨b, m⟩ := p
  have B0 : Hid (∀ o, Below w.heap.size w (w.alloc o).drew) := fun o => (below_alloc w o).drew
  go_enter Try.func106, Try.ntmps106
  go_wp2
  refine wp_region_held_drew (S := fun W => Below w.heap.size w W) (by kernel_rfl) (B0.out _) (fun hS0 => ?_)
  refine wpAnyH_take (i := 0) (oi := ⟨some 5, _, _, _, _, _⟩) (v := .slice ad 0 cap) rfl (by kernel_rfl) (by kernel_rfl) (by kernel_rfl) (fun _ _ _ h => h) (Or.inl ⟨by rfl, by intro w' hw'; (try dsimp only at hw'); go_simp⟩) hS0 ?_
  simp only [Act.put, List.setIfInBounds_toArray, List.set_cons_zero, List.set_cons_succ]
  refine wpAnyH_take (i := 1) (oi := ⟨some 6, _, _, _, _, _⟩) (v := .int .i64 0) rfl (by kernel_rfl) (by kernel_rfl) (by kernel_rfl) (fun _ _ _ h => h) (Or.inl ⟨by rfl, by intro w' hw'; (try dsimp only at hw'); go_simp⟩) hS0 ?_
  simp only [Act.put, List.setIfInBounds_toArray, List.set_cons_zero, List.set_cons_succ]
  refine wpAnyH_take (i := 2) (oi := ⟨some 7, _, _, _, _, _⟩) (v := .bool true) rfl (by kernel_rfl) (by kernel_rfl) (by kernel_rfl) (fun _ _ _ h => h) (Or.inl ⟨by rfl, by intro w' hw'; (try dsimp only at hw'); go_simp⟩) hS0 ?_
  simp only [Act.put, List.setIfInBounds_toArray, List.set_cons_zero, List.set_cons_succ]
  refine wpAnyH_take (i := 3) (oi := ⟨some 8, _, _, _, _, _⟩) (v := .bool true) rfl (by kernel_rfl) (by kernel_rfl) (by kernel_rfl) (fun _ _ _ h => h) (Or.inl ⟨by rfl, by intro w' hw'; (try dsimp only at hw'); go_simp⟩) hS0 ?_
  simp only [Act.put, List.setIfInBounds_toArray, List.set_cons_zero, List.set_cons_succ]
  refine wpAnyH_take (i := 4) (oi := ⟨some 9, _, _, _, _, _⟩) (v := undef) rfl (by kernel_rfl) (by kernel_rfl) (by kernel_rfl) (fun _ _ _ h => h) (Or.inr ⟨by rfl, rfl⟩) hS0 ?_
  (try simp only [Act.put, List.setIfInBounds_toArray, List.set_cons_zero, List.set_cons_succ])
  refine wpAnyH_take (i := 5) (oi := ⟨some 10, _, _, _, _, _⟩) (v := undef) rfl (by kernel_rfl) (by kernel_rfl) (by kernel_rfl) (fun _ _ _ h => h) (Or.inr ⟨by rfl, rfl⟩) hS0 ?_
  (try simp only [Act.put, List.setIfInBounds_toArray, List.set_cons_zero, List.set_cons_succ])
  refine wpAnyH_take (i := 6) (oi := ⟨some 11, _, _, _, _, _⟩) (v := undef) rfl (by kernel_rfl) (by kernel_rfl) (by kernel_rfl) (fun _ _ _ h => h) (Or.inr ⟨by rfl, rfl⟩) hS0 ?_
  (try simp only [Act.put, List.setIfInBounds_toArray, List.set_cons_zero, List.set_cons_succ])
  refine wpAnyH_take (i := 7) (oi := ⟨some 12, _, _, _, _, _⟩) (v := undef) rfl (by kernel_rfl) (by kernel_rfl) (by kernel_rfl) (fun _ _ _ h => h) (Or.inr ⟨by rfl, rfl⟩) hS0 ?_
  (try simp only [Act.put, List.setIfInBounds_toArray, List.set_cons_zero, List.set_cons_succ])
  refine wpAnyH_take (i := 8) (oi := ⟨some 13, _, _, _, _, _⟩) (v := undef) rfl (by kernel_rfl) (by kernel_rfl) (by kernel_rfl) (fun _ _ _ h => h) (Or.inr ⟨by rfl, rfl⟩) hS0 ?_
  (try simp only [Act.put, List.setIfInBounds_toArray, List.set_cons_zero, List.set_cons_succ])
  refine wpAnyH_take (i := 9) (oi := ⟨some 14, _, _, _, _, _⟩) (v := .bool true) rfl (by kernel_rfl) (by kernel_rfl) (by kernel_rfl) (fun _ _ _ h => h) (Or.inl ⟨by rfl, by intro w' hw'; (try dsimp only at hw'); go_simp⟩) hS0 ?_
  simp only [Act.put, List.setIfInBounds_toArray, List.set_cons_zero, List.set_cons_succ]
  refine wpAnyH_take (i := 10) (oi := ⟨some 4, _, _, _, _, _⟩) (v := .bool true) rfl (by kernel_rfl) (by kernel_rfl) (by kernel_rfl) (fun _ _ _ h => h) (Or.inl ⟨by rfl, by intro w' hw'; (try dsimp only at hw'); go_simp⟩) hS0 ?_
  simp only [Act.put, List.setIfInBounds_toArray, List.set_cons_zero, List.set_cons_succ]
  refine wpAnyH_done (by kernel_rfl) ?_ _
  go_wp2
  go_ret
  exact ⟨rfl, hS0⟩
/-- what the search keeps -/
def BsInv (t : PP) (l : List PP) (i j : Nat) : Prop := i ≤ j ∧ j ≤ l.length ∧ (∀ x ∈ l.take i, ltP x t) ∧ ∀ x ∈ l.drop j, ¬ ltP x t
theorem bs_lo {t : PP} {l : List PP} {i j h : Nat} {x : PP} (ha : l.Pairwise ltP) (hI : BsInv t l i j) (h1 : i ≤ h) (h2 : h < j) (hx : l[h]? = some x) (hlt : ltP x t) : BsInv t l (h + 1) j := by
  have hjl := hI.2.1
  refine ⟨by omega, hI.2.1, fun y hy => ?_, hI.2.2.2⟩
  rw [take_snocP hx] at hy
  rcases List.mem_append.1 hy with hy | hy
  · obtain ⟨k, hk, rfl⟩ := List.mem_take_iff_getElem.1 hy
    have := List.pairwise_iff_getElem.1 ha k h (by omega) (by omega) (by omega)
    rw [(List.getElem?_eq_some_iff.1 hx).2] at this
    exact ltP_trans this hlt
  · rw [List.mem_singleton] at hy; subst hy; exact hlt
theorem bs_hi {t : PP} {l : List PP} {i j h : Nat} {x : PP} (ha : l.Pairwise ltP) (hI : BsInv t l i j) (h1 : i ≤ h) (h2 : h < j) (hx : l[h]? = some x) (hlt : ¬ ltP x t) : BsInv t l i h := by
  refine ⟨h1, by have := hI.2.1; omega, hI.2.2.1, fun y hy => ?_⟩
  obtain ⟨hh, he⟩ := List.getElem?_eq_some_iff.1 hx
  have e : l.drop h = x :: l.drop (h + 1) := by rw [List.drop_eq_getElem_cons hh, he]
  have hp := ha.sublist (List.drop_sublist h l)
  rw [e] at hp hy
  rcases List.mem_cons.1 hy with rfl | hy
  · exact hlt
  · exact fun g => hlt (ltP_trans ((List.pairwise_cons.1 hp).1 y hy) g)
theorem cmp_lt0 (x t : PP) : (cmpP x.1 x.2 t.1 t.2 < 0) ↔ ltP x t := by
  rcases ltP_or x t with h | h | h
  · rw [cmpP_of_lt h]; exact ⟨fun _ => h, fun _ => by decide⟩
  · subst h; rw [cmpP_self]; exact ⟨fun h => absurd h (by decide), fun h => absurd h (ltP_irrefl _)⟩
  · rw [cmpP_of_gt h]; exact ⟨fun h => absurd h (by decide), fun g => absurd g (fun g => ltP_asymm h g)⟩
theorem cmp_bd (x t : PP) : -1 ≤ cmpP x.1 x.2 t.1 t.2 ∧ cmpP x.1 x.2 t.1 t.2 ≤ 1 := by
  rcases ltP_or x t with h | h | h
  · rw [cmpP_of_lt h]; decide
  · subst h; rw [cmpP_self]; decide
  · rw [cmpP_of_gt h]; decide
theorem bsearch_any (l : List PP) (v : Value) (t : PP) (w : World) (hl : l.length ≤ 4294967296) (ha : l.Pairwise ltP) (hr : Rd w v l) :
    Calls Try.prog 138 #[v, .agg #[.int .u32 (t.1 : Int), .int .i64 t.2], .func (.func 84) #[] #[]] w fun e w' => ∃ (i : Nat) (z : Bool), e = .returned (.tuple #[.int .i64 (i : Int), .bool z]) ∧ BsInv t l i i ∧ Below w.heap.size w w' := by
  obtain ⟨ad, cap, rfl, hc⟩ := hr
  obtain ⟨b, m⟩ := t
  have HC := Lib.hid hc
  have HA := Lib.hid ha
  have B0 := Lib.hid (below_alloc w (.cells #[.int .u32 (b : Int), .int .i64 m] 28))
  clear hc ha
  go_enter Try.func138, Try.ntmps138
  go_wp2
  go_loopg [9, 10, 11] l.length (fun g s9 s10 s11 wr => ∃ (i j : Nat), s9 = .int .i64 i ∧ s10 = .int .i64 j ∧ i ≤ j ∧ j ≤ l.length ∧ j - i ≤ g ∧ Hid (BsInv (b, m) l i j ∧ Below w.heap.size w wr ∧ wr.cell? ⟨w.heap.size, 0, none⟩ = some (.int .u32 (b : Int)) ∧ wr.cell? ⟨w.heap.size, 1, none⟩ = some (.int .i64 m)))
  case atStart => exact ⟨0, l.length, rfl, rfl, by omega, Nat.le_refl _, by omega, ⟨Nat.zero_le _, Nat.le_refl _, by simp, by simp⟩, B0.out, by simp, by simp⟩
  case round =>
    obtain ⟨i, j, rfl, rfl, hij, hj, hg, HI⟩ := hrel
    by_cases hlt : i < j
    · go_wp2
      obtain ⟨h, hh⟩ : ∃ h : Nat, h = (i + j) / 2 := ⟨_, rfl⟩
      have eh : ((i : Int) + (j : Int)) / 2 = (h : Int) := by omega
      simp only [eh]
      have hih : i ≤ h := by omega
      have hhj : h < j := by omega
      have hhl : h < l.length := by omega
      clear eh hh
      obtain ⟨x, hx⟩ : ∃ x, l[h]? = some x := ⟨_, List.getElem?_eq_getElem (by omega)⟩
      obtain ⟨blk, off, rfl, hblk, hc0, hc1⟩ := HC.out h x hx
      have f0 := carryB HI.out.2.1 hblk hc0
      have f1 := carryB HI.out.2.1 hblk hc1
      have s0 := HI.out.2.2.1
      have s1 := HI.out.2.2.2
      have HX := Lib.hid hx
      have HCM := Lib.hid (cmp_lt0 x (b, m))
      have hbd := cmp_bd x (b, m)
      obtain ⟨a, n⟩ := x
      have HP : Hid (∀ W, Calls Try.prog 84 #[.agg #[.int .u32 (a : Int), .int .i64 n], .agg #[.int .u32 (b : Int), .int .i64 m]] W fun e w' => e = .returned (.int .i64 (cmpP a n b m)) ∧ Below W.heap.size W w') := fun W => compare_any a n b m W
      dsimp only at hbd HCM f0 f1
      generalize cmpP a n b m = z at hbd HCM HP
      have hz1 := hbd.1
      have hz2 := hbd.2
      have BW : Hid (Below w.heap.size w wr) := HI.out.2.1
      clear hc0 hc1 hx hbd
      by_cases hneg : z < 0
      · have HL : Hid (ltP (a, n) (b, m)) := HCM.out.1 hneg
        go_region_held3 (fun W => W.cell? ⟨blk, off + h * 2, none⟩ = some (.int .u32 (a : Int)) ∧ W.cell? ⟨blk, off + h * 2 + 1, none⟩ = some (.int .i64 n) ∧ W.cell? ⟨w.heap.size, 0, none⟩ = some (.int .u32 (b : Int)) ∧ W.cell? ⟨w.heap.size, 1, none⟩ = some (.int .i64 m) ∧ Below w.heap.size w W)
          (first | exact ⟨f0, f1, s0, s1, BW.out.drew⟩ | assumption)
          (first | (go_at_call 84; refine (HP.out _).mono ?_; rintro e w6 ⟨rfl, hb⟩; have hk6 := kp4 ‹_› hb; clear hb))
        all_goals have HK := Lib.hid hk6; clear hk6
        all_goals go_wp2
        go_roundg (j - (h + 1))
        case measure => omega
        case rel => exact ⟨h + 1, j, by go_num, rfl, by omega, by omega, Nat.le_refl _, bs_lo HA.out HI.out.1 hih hhj HX.out HL.out, HK.out.2.2.2.2, HK.out.2.2.1, HK.out.2.2.2.1⟩
      · have HL : Hid (¬ ltP (a, n) (b, m)) := fun g => hneg (HCM.out.2 g)
        go_region_held3 (fun W => W.cell? ⟨blk, off + h * 2, none⟩ = some (.int .u32 (a : Int)) ∧ W.cell? ⟨blk, off + h * 2 + 1, none⟩ = some (.int .i64 n) ∧ W.cell? ⟨w.heap.size, 0, none⟩ = some (.int .u32 (b : Int)) ∧ W.cell? ⟨w.heap.size, 1, none⟩ = some (.int .i64 m) ∧ Below w.heap.size w W)
          (first | exact ⟨f0, f1, s0, s1, BW.out.drew⟩ | assumption)
          (first | (go_at_call 84; refine (HP.out _).mono ?_; rintro e w6 ⟨rfl, hb⟩; have hk6 := kp4 ‹_› hb; clear hb))
        all_goals have HK := Lib.hid hk6; clear hk6
        all_goals go_wp2
        go_roundg (h - i)
        case measure => omega
        case rel => exact ⟨i, h, rfl, rfl, by omega, by omega, Nat.le_refl _, bs_hi HA.out HI.out.1 hih hhj HX.out HL.out, HK.out.2.2.2.2, HK.out.2.2.1, HK.out.2.2.2.1⟩
    · obtain rfl : i = j := by omega
      have BW : Hid (Below w.heap.size w wr) := HI.out.2.1
      have HJ := Lib.hid HI.out.1
      rcases (show i < l.length ∨ i = l.length by omega) with hil | hil
      · obtain ⟨x, hx⟩ : ∃ x, l[i]? = some x := ⟨_, List.getElem?_eq_getElem hil⟩
        obtain ⟨blk, off, rfl, hblk, hc0, hc1⟩ := HC.out i x hx
        have f0 := carryB BW.out hblk hc0
        have f1 := carryB BW.out hblk hc1
        have s0 := HI.out.2.2.1
        have s1 := HI.out.2.2.2
        have hbd := cmp_bd x (b, m)
        obtain ⟨a, n⟩ := x
        have HP : Hid (∀ W, Calls Try.prog 84 #[.agg #[.int .u32 (a : Int), .int .i64 n], .agg #[.int .u32 (b : Int), .int .i64 m]] W fun e w' => e = .returned (.int .i64 (cmpP a n b m)) ∧ Below W.heap.size W w') := fun W => compare_any a n b m W
        dsimp only at hbd f0 f1
        generalize cmpP a n b m = z at hbd HP
        have hz1 := hbd.1
        have hz2 := hbd.2
        clear hc0 hc1 hx hbd
        go_wp2
        go_region_held3 (fun W => W.cell? ⟨blk, off + i * 2, none⟩ = some (.int .u32 (a : Int)) ∧ W.cell? ⟨blk, off + i * 2 + 1, none⟩ = some (.int .i64 n) ∧ W.cell? ⟨w.heap.size, 0, none⟩ = some (.int .u32 (b : Int)) ∧ W.cell? ⟨w.heap.size, 1, none⟩ = some (.int .i64 m) ∧ Below w.heap.size w W)
          (first | exact ⟨f0, f1, s0, s1, BW.out.drew⟩ | assumption)
          (first | (go_at_call 84; refine (HP.out _).mono ?_; rintro e w6 ⟨rfl, hb⟩; have hk6 := kp4 ‹_› hb; clear hb))
        all_goals have HK := Lib.hid hk6; clear hk6
        all_goals go_wp2
        all_goals go_ret2
        all_goals exact ⟨i, _, rfl, HJ.out, HK.out.2.2.2.2⟩
      · subst hil
        clear hlt hij hj hg HI
        go_wp2
        refine wp_region_held_drew (S := fun W => Below w.heap.size w W) (by kernel_rfl) BW.out.drew (fun hS0 => ?_)
        refine wpAnyH_take (i := 0) (oi := ⟨some 35, _, _, _, _, _⟩) (v := .int .i64 ((l.length : Nat) : Int)) rfl (by kernel_rfl) (by kernel_rfl) (by kernel_rfl) (fun _ _ _ h => h) (Or.inl ⟨by rfl, by intro w' hw'; (try dsimp only at hw'); go_simp⟩) hS0 ?_
        simp only [Act.put, List.setIfInBounds_toArray, List.set_cons_zero, List.set_cons_succ]
        refine wpAnyH_take (i := 1) (oi := ⟨some 36, _, _, _, _, _⟩) (v := .int .i64 ((l.length : Nat) : Int)) rfl (by kernel_rfl) (by kernel_rfl) (by kernel_rfl) (fun _ _ _ h => h) (Or.inl ⟨by rfl, by intro w' hw'; (try dsimp only at hw'); go_simp⟩) hS0 ?_
        simp only [Act.put, List.setIfInBounds_toArray, List.set_cons_zero, List.set_cons_succ]
        refine wpAnyH_take (i := 2) (oi := ⟨some 37, _, _, _, _, _⟩) (v := .int .i64 ((l.length : Nat) : Int)) rfl (by kernel_rfl) (by kernel_rfl) (by kernel_rfl) (fun _ _ _ h => h) (Or.inl ⟨by rfl, by intro w' hw'; (try dsimp only at hw'); go_simp⟩) hS0 ?_
        simp only [Act.put, List.setIfInBounds_toArray, List.set_cons_zero, List.set_cons_succ]
        refine wpAnyH_take (i := 3) (oi := ⟨some 38, _, _, _, _, _⟩) (v := .bool false) rfl (by kernel_rfl) (by kernel_rfl) (by kernel_rfl) (fun _ _ _ h => h) (Or.inl ⟨by rfl, by intro w' hw'; (try dsimp only at hw'); go_simp⟩) hS0 ?_
        simp only [Act.put, List.setIfInBounds_toArray, List.set_cons_zero, List.set_cons_succ]
        refine wpAnyH_take (i := 4) (oi := ⟨some 39, _, _, _, _, _⟩) (v := .bool false) rfl (by kernel_rfl) (by kernel_rfl) (by kernel_rfl) (fun _ _ _ h => h) (Or.inl ⟨by rfl, by intro w' hw'; (try dsimp only at hw'); go_simp⟩) hS0 ?_
        simp only [Act.put, List.setIfInBounds_toArray, List.set_cons_zero, List.set_cons_succ]
        refine wpAnyH_take (i := 5) (oi := ⟨some 40, _, _, _, _, _⟩) (v := undef) rfl (by kernel_rfl) (by kernel_rfl) (by kernel_rfl) (fun _ _ _ h => h) (Or.inr ⟨by rfl, rfl⟩) hS0 ?_
        (try simp only [Act.put, List.setIfInBounds_toArray, List.set_cons_zero, List.set_cons_succ])
        refine wpAnyH_take (i := 6) (oi := ⟨some 41, _, _, _, _, _⟩) (v := undef) rfl (by kernel_rfl) (by kernel_rfl) (by kernel_rfl) (fun _ _ _ h => h) (Or.inr ⟨by rfl, rfl⟩) hS0 ?_
        (try simp only [Act.put, List.setIfInBounds_toArray, List.set_cons_zero, List.set_cons_succ])
        refine wpAnyH_take (i := 7) (oi := ⟨some 42, _, _, _, _, _⟩) (v := undef) rfl (by kernel_rfl) (by kernel_rfl) (by kernel_rfl) (fun _ _ _ h => h) (Or.inr ⟨by rfl, rfl⟩) hS0 ?_
        (try simp only [Act.put, List.setIfInBounds_toArray, List.set_cons_zero, List.set_cons_succ])
        refine wpAnyH_take (i := 8) (oi := ⟨some 43, _, _, _, _, _⟩) (v := undef) rfl (by kernel_rfl) (by kernel_rfl) (by kernel_rfl) (fun _ _ _ h => h) (Or.inr ⟨by rfl, rfl⟩) hS0 ?_
        (try simp only [Act.put, List.setIfInBounds_toArray, List.set_cons_zero, List.set_cons_succ])
        refine wpAnyH_take (i := 9) (oi := ⟨some 44, _, _, _, _, _⟩) (v := undef) rfl (by kernel_rfl) (by kernel_rfl) (by kernel_rfl) (fun _ _ _ h => h) (Or.inr ⟨by rfl, rfl⟩) hS0 ?_
        (try simp only [Act.put, List.setIfInBounds_toArray, List.set_cons_zero, List.set_cons_succ])
        refine wpAnyH_take (i := 10) (oi := ⟨some 45, _, _, _, _, _⟩) (v := undef) rfl (by kernel_rfl) (by kernel_rfl) (by kernel_rfl) (fun _ _ _ h => h) (Or.inr ⟨by rfl, rfl⟩) hS0 ?_
        (try simp only [Act.put, List.setIfInBounds_toArray, List.set_cons_zero, List.set_cons_succ])
        refine wpAnyH_take (i := 11) (oi := ⟨some 46, _, _, _, _, _⟩) (v := undef) rfl (by kernel_rfl) (by kernel_rfl) (by kernel_rfl) (fun _ _ _ h => h) (Or.inr ⟨by rfl, rfl⟩) hS0 ?_
        (try simp only [Act.put, List.setIfInBounds_toArray, List.set_cons_zero, List.set_cons_succ])
        refine wpAnyH_take (i := 12) (oi := ⟨some 47, _, _, _, _, _⟩) (v := undef) rfl (by kernel_rfl) (by kernel_rfl) (by kernel_rfl) (fun _ _ _ h => h) (Or.inr ⟨by rfl, rfl⟩) hS0 ?_
        (try simp only [Act.put, List.setIfInBounds_toArray, List.set_cons_zero, List.set_cons_succ])
        refine wpAnyH_take (i := 13) (oi := ⟨some 48, _, _, _, _, _⟩) (v := .bool false) rfl (by kernel_rfl) (by kernel_rfl) (by kernel_rfl) (fun _ _ _ h => h) (Or.inl ⟨by rfl, by intro w' hw'; (try dsimp only at hw'); go_simp⟩) hS0 ?_
        simp only [Act.put, List.setIfInBounds_toArray, List.set_cons_zero, List.set_cons_succ]
        refine wpAnyH_take (i := 14) (oi := ⟨some 6, _, _, _, _, _⟩) (v := .int .i64 ((l.length : Nat) : Int)) rfl (by kernel_rfl) (by kernel_rfl) (by kernel_rfl) (fun _ _ _ h => h) (Or.inl ⟨by rfl, by intro w' hw'; (try dsimp only at hw'); go_simp⟩) hS0 ?_
        simp only [Act.put, List.setIfInBounds_toArray, List.set_cons_zero, List.set_cons_succ]
        refine wpAnyH_take (i := 15) (oi := ⟨some 7, _, _, _, _, _⟩) (v := .bool false) rfl (by kernel_rfl) (by kernel_rfl) (by kernel_rfl) (fun _ _ _ h => h) (Or.inl ⟨by rfl, by intro w' hw'; (try dsimp only at hw'); go_simp⟩) hS0 ?_
        simp only [Act.put, List.setIfInBounds_toArray, List.set_cons_zero, List.set_cons_succ]
        refine wpAnyH_done (by kernel_rfl) ?_ _
        go_wp2
        go_ret2
        exact ⟨l.length, _, rfl, HJ.out, hS0⟩
end Go.Proofs.Ytegponbmelgngaa
end

section
namespace Go.Proofs.Ytegponbmelgngaa
open Go.RowKit
set_option linter.unusedSimpArgs false
set_option linter.unusedVariables false
set_option maxHeartbeats 4000000
set_option maxRecDepth 100000

theorem split_true (v : Value) (p h : PP) (w : World) (HU : ∀ W, Below w.heap.size w W → Calls Try.prog 106 #[v, .agg #[.int .u32 (p.1 : Int), .int .i64 p.2]] W fun e w' => e = .returned (.bool true) ∧ Below W.heap.size W w') :
    Calls Try.prog 107 #[v, .agg #[.int .u32 (p.1 : Int), .int .i64 p.2], .agg #[.int .u32 (h.1 : Int), .int .i64 h.2]] w fun e w' => e = .returned (.tuple #[v, v]) ∧ Below w.heap.size w w' := by
  obtain ⟨a, n⟩ := p
  obtain ⟨b, m⟩ := h
  have HU := Lib.hid HU
  have B0 : Hid (∀ o1 o2, Below w.heap.size w ((w.alloc o1).alloc o2)) := fun o1 o2 => below_then (below_alloc _ _) (below_alloc _ _)
  go_enter Try.func107, Try.ntmps107
  go_wp2_with (go_at_call 106; refine (HU.out _ (B0.out _ _)).mono ?_; rintro e w1 ⟨rfl, hb⟩; have B := Lib.hid (below_then (B0.out _ _) hb); clear hb)
  go_ret2
  exact ⟨rfl, B.out⟩
theorem rdK_take {K : Nat → Prop} {w : World} {ad : Option Addr} {n cap : Nat} {l : List PP} {i : Nat} (h : RdK K w (.slice ad n cap) l) (hi : i ≤ l.length) : RdK K w (.slice ad i cap) (l.take i) := by
  obtain ⟨ad', cap', he, hcap, hc⟩ := h
  cases he
  refine ⟨ad, cap, by rw [List.length_take, Nat.min_eq_left hi], by rw [List.length_take]; omega, fun k x hk => ?_⟩
  have hki : k < i := by have := (List.getElem?_eq_some_iff.1 hk).1; rw [List.length_take] at this; omega
  rw [List.getElem?_take, if_pos hki] at hk
  exact hc k x hk
theorem rdK_drop {K : Nat → Prop} {w : World} {b off n cap : Nat} {l : List PP} {i : Nat} (h : RdK K w (.slice (some ⟨b, off, none⟩) n cap) l) (hi : i ≤ l.length) : RdK K w (.slice (some ⟨b, off + i * 2, none⟩) (n - i) (cap - i)) (l.drop i) := by
  obtain ⟨ad', cap', he, hcap, hc⟩ := h
  cases he
  refine ⟨_, cap - i, by rw [List.length_drop], by rw [List.length_drop]; omega, fun k x hk => ?_⟩
  rw [List.getElem?_drop] at hk
  obtain ⟨b', off', e, hK, h0, h1⟩ := hc (i + k) x hk
  cases e
  exact ⟨b, off + i * 2, rfl, hK, by rw [show off + i * 2 + k * 2 = off + (i + k) * 2 by omega]; exact h0, by rw [show off + i * 2 + k * 2 = off + (i + k) * 2 by omega]; exact h1⟩
theorem rdK_empty {K : Nat → Prop} {w : World} {ad : Option Addr} {cap : Nat} : RdK K w (.slice ad 0 cap) [] := ⟨ad, cap, rfl, Nat.zero_le _, fun k x h => by simp at h⟩
theorem split_false (K : Nat → Prop) (l : List PP) (v : Value) (p h : PP) (w : World) (hl : l.length ≤ 4294967296) (ha : l.Pairwise ltP) (hr : RdK K w v l) (hne : l ≠ []) (HU : ∀ W, Below w.heap.size w W → Calls Try.prog 106 #[v, .agg #[.int .u32 (p.1 : Int), .int .i64 p.2]] W fun e w' => e = .returned (.bool false) ∧ Below W.heap.size W w') :
    Calls Try.prog 107 #[v, .agg #[.int .u32 (p.1 : Int), .int .i64 p.2], .agg #[.int .u32 (h.1 : Int), .int .i64 h.2]] w fun e w' => ∃ v1 v2 i, e = .returned (.tuple #[v1, v2]) ∧ RdK K w v1 (l.take i) ∧ RdK K w v2 (l.drop i) ∧ BsInv h l i i ∧ Below w.heap.size w w' := by
  have hrd := hr.rd
  have HS : Hid (∀ W, Below w.heap.size w W → Calls Try.prog 138 #[v, .agg #[.int .u32 (h.1 : Int), .int .i64 h.2], .func (.func 84) #[] #[]] W fun e w' => ∃ (i : Nat) (z : Bool), e = .returned (.tuple #[.int .i64 (i : Int), .bool z]) ∧ BsInv h l i i ∧ Below W.heap.size W w') :=
    fun W hW => bsearch_any l v h W hl ha (hrd.below hW)
  have HR := Lib.hid hr
  obtain ⟨ad, cap, rfl, hcap, hc⟩ := hr
  obtain ⟨x, hx⟩ : ∃ x, l[0]? = some x := by cases l with
    | nil => exact absurd rfl hne
    | cons x r => exact ⟨x, rfl⟩
  obtain ⟨blk, off, rfl, _⟩ := hc 0 x hx
  obtain ⟨a, n⟩ := p
  obtain ⟨b, m⟩ := h
  have HU := Lib.hid HU
  have B0 : Hid (∀ o1 o2, Below w.heap.size w ((w.alloc o1).alloc o2)) := fun o1 o2 => below_then (below_alloc _ _) (below_alloc _ _)
  clear hc hrd hne hx
  go_enter Try.func107, Try.ntmps107
  go_wp2_with fail
  go_at_call 106
  refine (HU.out _ (B0.out _ _)).mono ?_
  rintro e w1 ⟨rfl, hb⟩
  have B := Lib.hid (below_then (B0.out _ _) hb)
  obtain ⟨hc1, hf1⟩ := bcell hb
  have hz1 : w.heap.size + 1 < w1.heap.size := by have := hb.size; simp at this; omega
  clear hb
  go_wp2_with fail
  go_at_call 138
  refine (HS.out _ B.out).mono ?_
  rintro e w2 ⟨i, z, rfl, hI, hb⟩
  have B2 := Lib.hid (below_then B.out hb)
  have HI := Lib.hid hI
  have hiN : i ≤ l.length := hI.2.1
  clear hb hI hc1 hf1
  by_cases hic : i = cap
  · subst hic
    have hlen : Hid (l.length = i) := by show _ = _; omega
    go_wp2_with fail
    go_quiet (fail)
    go_wp2
    go_ret2
    exact ⟨_, .slice (some ⟨blk, off, none⟩) 0 0, i, rfl, rdK_take HR.out hiN, by rw [List.drop_eq_nil_of_le (by rw [hlen.out]; exact Nat.le_refl _)]; exact rdK_empty, HI.out, below_drewN B2.out _⟩
  · have hic2 : ¬ cap = i := fun e => hic e.symm
    go_wp2_with fail
    go_quiet (fail)
    go_wp2
    go_ret2
    exact ⟨_, _, i, rfl, rdK_take HR.out hiN, rdK_drop HR.out hiN, HI.out, below_drewN B2.out _⟩
/- the closures -/
theorem keepU_any (x y : Bool) (w : World) : Calls Try.prog 67 #[.bool x, .bool y] w fun e w' => e = .returned (.bool (x || y)) ∧ w = w' := by
  cases x <;> cases y <;> (go_enter Try.func67, Try.ntmps67; go_wp2; go_ret; exact ⟨rfl, rfl⟩)
theorem keepI_any (x y : Bool) (w : World) : Calls Try.prog 68 #[.bool x, .bool y] w fun e w' => e = .returned (.bool (x && y)) ∧ w = w' := by
  cases x <;> cases y <;> (go_enter Try.func68, Try.ntmps68; go_wp2; go_ret; exact ⟨rfl, rfl⟩)
theorem keepS_any (x y : Bool) (w : World) : Calls Try.prog 70 #[.bool x, .bool y] w fun e w' => e = .returned (.bool (x && !y)) ∧ w = w' := by
  cases x <;> cases y <;> (go_enter Try.func70, Try.ntmps70; go_wp2; go_ret; exact ⟨rfl, rfl⟩)
end Go.Proofs.Ytegponbmelgngaa
end
