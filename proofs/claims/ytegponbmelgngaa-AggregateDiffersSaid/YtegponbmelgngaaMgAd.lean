/-
  The walks of newRegion's comparison and of slices.BinarySearchFunc at entries.
  Regions in memory; slices of entries, cut.
  The walk of aggregate.newRegion.
-/
import Derived.Test.YtegponbmelgngaaMgAc
import Derived.Test.YtegponbmelgngaaMgCa
import Derived.Deep.DeepCutAuto
import Derived.BigQuiet
section
namespace Go.Proofs.Ytegponbmelgngaa
open Go.RowKit
set_option linter.unusedSimpArgs false
set_option linter.unusedVariables false
set_option maxHeartbeats 4000000
set_option maxRecDepth 100000

theorem kp5 {w W W1 : World} {p0 p1 p2 p3 p4 : Addr} {c0 c1 c2 c3 c4 : Value} (h : W.cell? p0 = some c0 ∧ W.cell? p1 = some c1 ∧ W.cell? p2 = some c2 ∧ W.cell? p3 = some c3 ∧ W.cell? p4 = some c4 ∧ Below w.heap.size w W) (hb : Below W.heap.size W W1) :
    W1.cell? p0 = some c0 ∧ W1.cell? p1 = some c1 ∧ W1.cell? p2 = some c2 ∧ W1.cell? p3 = some c3 ∧ W1.cell? p4 = some c4 ∧ Below w.heap.size w W1 :=
  ⟨carry hb h.1, carry hb h.2.1, carry hb h.2.2.1, carry hb h.2.2.2.1, carry hb h.2.2.2.2.1, below_then h.2.2.2.2.2 hb⟩
theorem cmp126_any (a : Nat) (n x : Int) (b : Nat) (m : Int) (w : World) :
    Calls Try.prog 126 #[.agg #[.int .u32 (a : Int), .int .i64 n, .int .i64 x], .agg #[.int .u32 (b : Int), .int .i64 m]] w fun e w' => e = .returned (.int .i64 (cmpP a n b m)) ∧ Below w.heap.size w w' := by
  have HP : Hid (∀ W, Calls Try.prog 84 #[.agg #[.int .u32 (a : Int), .int .i64 n], .agg #[.int .u32 (b : Int), .int .i64 m]] W fun e w' => e = .returned (.int .i64 (cmpP a n b m)) ∧ Below W.heap.size W w') := fun W => compare_any a n b m W
  generalize cmpP a n b m = z at HP ⊢
  have HB : Hid (∀ o1 o2, Below w.heap.size w ((w.alloc o1).alloc o2)) := fun o1 o2 => (below_alloc w o1).alloc (by simp) o2
  go_enter Try.func126, Try.ntmps126
  go_wp2_with (go_at_call 84; refine (HP.out _).mono ?_; rintro e w6 ⟨rfl, hb⟩; have HK := Lib.hid (below_then (HB.out _ _) hb); clear hb)
  go_ret
  exact ⟨rfl, HK.out⟩
theorem bsearchE_any (l : List En) (v : Value) (t : PP) (w : World) (hl : l.length ≤ 4294967296) (ha : AscE l) (hr : RdE w v l) :
    Calls Try.prog 125 #[v, .agg #[.int .u32 (t.1 : Int), .int .i64 t.2], .func (.func 126) #[] #[]] w fun e w' => ∃ (i : Nat) (z : Bool), e = .returned (.tuple #[.int .i64 (i : Int), .bool z]) ∧ BsInv t (l.map (·.1)) i i ∧ Below w.heap.size w w' := by
  obtain ⟨ad, cap, rfl, hc⟩ := hr
  obtain ⟨b, m⟩ := t
  have HC := Lib.hid hc
  have HA : Hid ((l.map (·.1)).Pairwise ltP) := (by show List.Pairwise _ _; rw [List.pairwise_map]; exact ha)
  have B0 := Lib.hid (below_alloc w (.cells #[.int .u32 (b : Int), .int .i64 m] 28))
  clear hc ha
  go_enter Try.func125, Try.ntmps125
  go_wp2
  go_loopg [9, 10, 11] l.length (fun g s9 s10 s11 wr => ∃ (i j : Nat), s9 = .int .i64 i ∧ s10 = .int .i64 j ∧ i ≤ j ∧ j ≤ l.length ∧ j - i ≤ g ∧ Hid (BsInv (b, m) (l.map (·.1)) i j ∧ Below w.heap.size w wr ∧ wr.cell? ⟨w.heap.size, 0, none⟩ = some (.int .u32 (b : Int)) ∧ wr.cell? ⟨w.heap.size, 1, none⟩ = some (.int .i64 m)))
  case atStart => exact ⟨0, l.length, rfl, rfl, by omega, Nat.le_refl _, by omega, ⟨Nat.zero_le _, by simp, by simp, (fun x hx => by rw [show l.length = (l.map (·.1)).length by simp, List.drop_length] at hx; cases hx)⟩, B0.out, by simp, by simp⟩
  case round =>
    obtain ⟨i, j, rfl, rfl, hij, hj, hg, HI⟩ := hrel
    by_cases hlt : i < j
    · go_wp2
      obtain ⟨h, hh⟩ : ∃ h : Nat, h = (i + j) / 2 := ⟨_, rfl⟩
      have eh : ((i : Int) + (j : Int)) / 2 = (h : Int) := by omega
      simp only [eh]
      have hih : i ≤ h := by omega
      have hhj : h < j := by omega
      have hhl : h < l.length := by omega
      clear eh hh
      obtain ⟨x, hx⟩ : ∃ x, l[h]? = some x := ⟨_, List.getElem?_eq_getElem (by omega)⟩
      obtain ⟨blk, off, rfl, hblk, hc0, hc1, hc2⟩ := HC.out h x hx
      have f0 := carryB HI.out.2.1 hblk hc0
      have f1 := carryB HI.out.2.1 hblk hc1
      have f2 := carryB HI.out.2.1 hblk hc2
      have s0 := HI.out.2.2.1
      have s1 := HI.out.2.2.2
      have HX : Hid ((l.map (·.1))[h]? = some x.1) := (by show _ = _; rw [List.getElem?_map, hx]; rfl)
      have HCM := Lib.hid (cmp_lt0 x.1 (b, m))
      have hbd := cmp_bd x.1 (b, m)
      obtain ⟨⟨a, n⟩, xv⟩ := x
      have HP : Hid (∀ W, Calls Try.prog 126 #[.agg #[.int .u32 (a : Int), .int .i64 n, .int .i64 xv], .agg #[.int .u32 (b : Int), .int .i64 m]] W fun e w' => e = .returned (.int .i64 (cmpP a n b m)) ∧ Below W.heap.size W w') := fun W => cmp126_any a n xv b m W
      dsimp only at hbd HCM f0 f1 f2 HX
      generalize cmpP a n b m = z at hbd HCM HP
      have hz1 := hbd.1
      have hz2 := hbd.2
      have BW : Hid (Below w.heap.size w wr) := HI.out.2.1
      clear hc0 hc1 hc2 hx hbd
      by_cases hneg : z < 0
      · have HL : Hid (ltP (a, n) (b, m)) := HCM.out.1 hneg
        go_region_held3 (fun W => W.cell? ⟨blk, off + h * 3, none⟩ = some (.int .u32 (a : Int)) ∧ W.cell? ⟨blk, off + h * 3 + 1, none⟩ = some (.int .i64 n) ∧ W.cell? ⟨blk, off + h * 3 + 2, none⟩ = some (.int .i64 xv) ∧ W.cell? ⟨w.heap.size, 0, none⟩ = some (.int .u32 (b : Int)) ∧ W.cell? ⟨w.heap.size, 1, none⟩ = some (.int .i64 m) ∧ Below w.heap.size w W)
          (first | exact ⟨f0, f1, f2, s0, s1, BW.out.drew⟩ | assumption)
          (first | (go_at_call 126; refine (HP.out _).mono ?_; rintro e w6 ⟨rfl, hb⟩; have hk6 := kp5 ‹_› hb; clear hb))
        all_goals have HK := Lib.hid hk6; clear hk6
        all_goals go_wp2
        go_roundg (j - (h + 1))
        case measure => omega
        case rel => exact ⟨h + 1, j, by go_num, rfl, by omega, by omega, Nat.le_refl _, bs_lo HA.out HI.out.1 hih hhj HX.out HL.out, HK.out.2.2.2.2.2, HK.out.2.2.2.1, HK.out.2.2.2.2.1⟩
      · have HL : Hid (¬ ltP (a, n) (b, m)) := fun g => hneg (HCM.out.2 g)
        go_region_held3 (fun W => W.cell? ⟨blk, off + h * 3, none⟩ = some (.int .u32 (a : Int)) ∧ W.cell? ⟨blk, off + h * 3 + 1, none⟩ = some (.int .i64 n) ∧ W.cell? ⟨blk, off + h * 3 + 2, none⟩ = some (.int .i64 xv) ∧ W.cell? ⟨w.heap.size, 0, none⟩ = some (.int .u32 (b : Int)) ∧ W.cell? ⟨w.heap.size, 1, none⟩ = some (.int .i64 m) ∧ Below w.heap.size w W)
          (first | exact ⟨f0, f1, f2, s0, s1, BW.out.drew⟩ | assumption)
          (first | (go_at_call 126; refine (HP.out _).mono ?_; rintro e w6 ⟨rfl, hb⟩; have hk6 := kp5 ‹_› hb; clear hb))
        all_goals have HK := Lib.hid hk6; clear hk6
        all_goals go_wp2
        go_roundg (h - i)
        case measure => omega
        case rel => exact ⟨i, h, rfl, rfl, by omega, by omega, Nat.le_refl _, bs_hi HA.out HI.out.1 hih hhj HX.out HL.out, HK.out.2.2.2.2.2, HK.out.2.2.2.1, HK.out.2.2.2.2.1⟩
    · obtain rfl : i = j := by omega
      have BW : Hid (Below w.heap.size w wr) := HI.out.2.1
      have HJ := Lib.hid HI.out.1
      rcases (show i < l.length ∨ i = l.length by omega) with hil | hil
      · obtain ⟨x, hx⟩ : ∃ x, l[i]? = some x := ⟨_, List.getElem?_eq_getElem hil⟩
        obtain ⟨blk, off, rfl, hblk, hc0, hc1, hc2⟩ := HC.out i x hx
        have f0 := carryB BW.out hblk hc0
        have f1 := carryB BW.out hblk hc1
        have f2 := carryB BW.out hblk hc2
        have s0 := HI.out.2.2.1
        have s1 := HI.out.2.2.2
        have hbd := cmp_bd x.1 (b, m)
        obtain ⟨⟨a, n⟩, xv⟩ := x
        have HP : Hid (∀ W, Calls Try.prog 126 #[.agg #[.int .u32 (a : Int), .int .i64 n, .int .i64 xv], .agg #[.int .u32 (b : Int), .int .i64 m]] W fun e w' => e = .returned (.int .i64 (cmpP a n b m)) ∧ Below W.heap.size W w') := fun W => cmp126_any a n xv b m W
        dsimp only at hbd f0 f1 f2
        generalize cmpP a n b m = z at hbd HP
        have hz1 := hbd.1
        have hz2 := hbd.2
        clear hc0 hc1 hc2 hx hbd
        go_wp2
        go_region_held3 (fun W => W.cell? ⟨blk, off + i * 3, none⟩ = some (.int .u32 (a : Int)) ∧ W.cell? ⟨blk, off + i * 3 + 1, none⟩ = some (.int .i64 n) ∧ W.cell? ⟨blk, off + i * 3 + 2, none⟩ = some (.int .i64 xv) ∧ W.cell? ⟨w.heap.size, 0, none⟩ = some (.int .u32 (b : Int)) ∧ W.cell? ⟨w.heap.size, 1, none⟩ = some (.int .i64 m) ∧ Below w.heap.size w W)
          (first | exact ⟨f0, f1, f2, s0, s1, BW.out.drew⟩ | assumption)
          (first | (go_at_call 126; refine (HP.out _).mono ?_; rintro e w6 ⟨rfl, hb⟩; have hk6 := kp5 ‹_› hb; clear hb))
        all_goals have HK := Lib.hid hk6; clear hk6
        all_goals go_wp2
        all_goals go_ret2
        all_goals exact ⟨i, _, rfl, HJ.out, HK.out.2.2.2.2.2⟩
      · subst hil
        clear hlt hij hj hg HI
        go_wp2
        refine wp_region_held_drew (S := fun W => Below w.heap.size w W) (by kernel_rfl) BW.out.drew (fun hS0 => ?_)
        refine wpAnyH_take (i := 0) (oi := ⟨some 35, _, _, _, _, _⟩) (v := .int .i64 ((l.length : Nat) : Int)) rfl (by kernel_rfl) (by kernel_rfl) (by kernel_rfl) (fun _ _ _ h => h) (Or.inl ⟨by rfl, by intro w' hw'; (try dsimp only at hw'); go_simp⟩) hS0 ?_
        simp only [Act.put, List.setIfInBounds_toArray, List.set_cons_zero, List.set_cons_succ]
        refine wpAnyH_take (i := 1) (oi := ⟨some 36, _, _, _, _, _⟩) (v := .int .i64 ((l.length : Nat) : Int)) rfl (by kernel_rfl) (by kernel_rfl) (by kernel_rfl) (fun _ _ _ h => h) (Or.inl ⟨by rfl, by intro w' hw'; (try dsimp only at hw'); go_simp⟩) hS0 ?_
        simp only [Act.put, List.setIfInBounds_toArray, List.set_cons_zero, List.set_cons_succ]
        refine wpAnyH_take (i := 2) (oi := ⟨some 37, _, _, _, _, _⟩) (v := .int .i64 ((l.length : Nat) : Int)) rfl (by kernel_rfl) (by kernel_rfl) (by kernel_rfl) (fun _ _ _ h => h) (Or.inl ⟨by rfl, by intro w' hw'; (try dsimp only at hw'); go_simp⟩) hS0 ?_
        simp only [Act.put, List.setIfInBounds_toArray, List.set_cons_zero, List.set_cons_succ]
        refine wpAnyH_take (i := 3) (oi := ⟨some 38, _, _, _, _, _⟩) (v := .bool false) rfl (by kernel_rfl) (by kernel_rfl) (by kernel_rfl) (fun _ _ _ h => h) (Or.inl ⟨by rfl, by intro w' hw'; (try dsimp only at hw'); go_simp⟩) hS0 ?_
        simp only [Act.put, List.setIfInBounds_toArray, List.set_cons_zero, List.set_cons_succ]
        refine wpAnyH_take (i := 4) (oi := ⟨some 39, _, _, _, _, _⟩) (v := .bool false) rfl (by kernel_rfl) (by kernel_rfl) (by kernel_rfl) (fun _ _ _ h => h) (Or.inl ⟨by rfl, by intro w' hw'; (try dsimp only at hw'); go_simp⟩) hS0 ?_
        simp only [Act.put, List.setIfInBounds_toArray, List.set_cons_zero, List.set_cons_succ]
        refine wpAnyH_take (i := 5) (oi := ⟨some 40, _, _, _, _, _⟩) (v := undef) rfl (by kernel_rfl) (by kernel_rfl) (by kernel_rfl) (fun _ _ _ h => h) (Or.inr ⟨by rfl, rfl⟩) hS0 ?_
        (try simp only [Act.put, List.setIfInBounds_toArray, List.set_cons_zero, List.set_cons_succ])
        refine wpAnyH_take (i := 6) (oi := ⟨some 41, _, _, _, _, _⟩) (v := undef) rfl (by kernel_rfl) (by kernel_rfl) (by kernel_rfl) (fun _ _ _ h => h) (Or.inr ⟨by rfl, rfl⟩) hS0 ?_
        (try simp only [Act.put, List.setIfInBounds_toArray, List.set_cons_zero, List.set_cons_succ])
        refine wpAnyH_take (i := 7) (oi := ⟨some 42, _, _, _, _, _⟩) (v := undef) rfl (by kernel_rfl) (by kernel_rfl) (by kernel_rfl) (fun _ _ _ h => h) (Or.inr ⟨by rfl, rfl⟩) hS0 ?_
        (try simp only [Act.put, List.setIfInBounds_toArray, List.set_cons_zero, List.set_cons_succ])
        refine wpAnyH_take (i := 8) (oi := ⟨some 43, _, _, _, _, _⟩) (v := undef) rfl (by kernel_rfl) (by kernel_rfl) (by kernel_rfl) (fun _ _ _ h => h) (Or.inr ⟨by rfl, rfl⟩) hS0 ?_
        (try simp only [Act.put, List.setIfInBounds_toArray, List.set_cons_zero, List.set_cons_succ])
        refine wpAnyH_take (i := 9) (oi := ⟨some 44, _, _, _, _, _⟩) (v := undef) rfl (by kernel_rfl) (by kernel_rfl) (by kernel_rfl) (fun _ _ _ h => h) (Or.inr ⟨by rfl, rfl⟩) hS0 ?_
        (try simp only [Act.put, List.setIfInBounds_toArray, List.set_cons_zero, List.set_cons_succ])
        refine wpAnyH_take (i := 10) (oi := ⟨some 45, _, _, _, _, _⟩) (v := undef) rfl (by kernel_rfl) (by kernel_rfl) (by kernel_rfl) (fun _ _ _ h => h) (Or.inr ⟨by rfl, rfl⟩) hS0 ?_
        (try simp only [Act.put, List.setIfInBounds_toArray, List.set_cons_zero, List.set_cons_succ])
        refine wpAnyH_take (i := 11) (oi := ⟨some 46, _, _, _, _, _⟩) (v := undef) rfl (by kernel_rfl) (by kernel_rfl) (by kernel_rfl) (fun _ _ _ h => h) (Or.inr ⟨by rfl, rfl⟩) hS0 ?_
        (try simp only [Act.put, List.setIfInBounds_toArray, List.set_cons_zero, List.set_cons_succ])
        refine wpAnyH_take (i := 12) (oi := ⟨some 47, _, _, _, _, _⟩) (v := undef) rfl (by kernel_rfl) (by kernel_rfl) (by kernel_rfl) (fun _ _ _ h => h) (Or.inr ⟨by rfl, rfl⟩) hS0 ?_
        (try simp only [Act.put, List.setIfInBounds_toArray, List.set_cons_zero, List.set_cons_succ])
        refine wpAnyH_take (i := 13) (oi := ⟨some 48, _, _, _, _, _⟩) (v := .bool false) rfl (by kernel_rfl) (by kernel_rfl) (by kernel_rfl) (fun _ _ _ h => h) (Or.inl ⟨by rfl, by intro w' hw'; (try dsimp only at hw'); go_simp⟩) hS0 ?_
        simp only [Act.put, List.setIfInBounds_toArray, List.set_cons_zero, List.set_cons_succ]
        refine wpAnyH_take (i := 14) (oi := ⟨some 6, _, _, _, _, _⟩) (v := .int .i64 ((l.length : Nat) : Int)) rfl (by kernel_rfl) (by kernel_rfl) (by kernel_rfl) (fun _ _ _ h => h) (Or.inl ⟨by rfl, by intro w' hw'; (try dsimp only at hw'); go_simp⟩) hS0 ?_
        simp only [Act.put, List.setIfInBounds_toArray, List.set_cons_zero, List.set_cons_succ]
        refine wpAnyH_take (i := 15) (oi := ⟨some 7, _, _, _, _, _⟩) (v := .bool false) rfl (by kernel_rfl) (by kernel_rfl) (by kernel_rfl) (fun _ _ _ h => h) (Or.inl ⟨by rfl, by intro w' hw'; (try dsimp only at hw'); go_simp⟩) hS0 ?_
        simp only [Act.put, List.setIfInBounds_toArray, List.set_cons_zero, List.set_cons_succ]
        refine wpAnyH_done (by kernel_rfl) ?_ _
        go_wp2
        go_ret2
        exact ⟨l.length, _, rfl, HJ.out, hS0⟩
end Go.Proofs.Ytegponbmelgngaa
end

section
namespace Go.Proofs.Ytegponbmelgngaa
open Go.RowKit
set_option linter.unusedSimpArgs false
set_option linter.unusedVariables false
set_option maxHeartbeats 1500000
set_option maxRecDepth 100000

/-- a region, as it lies at block g -/
def RegM (w : World) : AG.RT → Nat → Prop
  | .leaf A K b, g => K ≤ 32 ∧ ∃ bm, w.heap[g]? = some (.cells #[.int .u32 (A : Int), .int .i64 ((32 - K : Nat) : Int), .map (some bm), .slice none 0 0] 139 (0, 0)) ∧ SetM w bm (2 ^ K) [b]
  | .node A K b l r, g => K ≤ 32 ∧ ∃ bm hb gl gr, w.heap[g]? = some (.cells #[.int .u32 (A : Int), .int .i64 ((32 - K : Nat) : Int), .map (some bm), .slice (some ⟨hb, 0, none⟩) 2 2] 139 (0, 0)) ∧ SetM w bm (2 ^ K) b ∧
      w.heap[hb]? = some (.cells #[.pointer (some ⟨gl, 0, none⟩), .pointer (some ⟨gr, 0, none⟩)] 104 (0, 0)) ∧ RegM w l gl ∧ RegM w r gr
theorem RegM.below {w w' : World} (hb : Below w.heap.size w w') : ∀ {r : AG.RT} {g : Nat}, RegM w r g → RegM w' r g
  | .leaf A K b, g, h => by
    obtain ⟨hk, bm, h1, h2⟩ := h
    exact ⟨hk, bm, (hb.block g (ltO h1)).trans h1, h2.below hb⟩
  | .node A K b l r, g, h => by
    obtain ⟨hk, bm, hbk, gl, gr, h1, h2, h3, h4, h5⟩ := h
    exact ⟨hk, bm, hbk, gl, gr, (hb.block g (ltO h1)).trans h1, h2.below hb, (hb.block hbk (ltO h3)).trans h3, RegM.below hb h4, RegM.below hb h5⟩
/-- the exponent and the address of a region -/
def RT_kk : AG.RT → Nat
  | .leaf _ K _ => K
  | .node _ K _ _ _ => K
def RT_aa : AG.RT → Nat
  | .leaf A _ _ => A
  | .node A _ _ _ _ => A
theorem reg_kk (K A : Nat) (t : List AG.Be) (v : Int) : RT_kk (AG.reg K A t v) = K := by
  cases K with
  | zero => rfl
  | succ K => unfold AG.reg; split <;> rfl
/-- what lies in front of every region: its best -/
theorem RegM.best {w : World} {r : AG.RT} {g : Nat} (h : RegM w r g) : ∃ bm sl, RT_kk r ≤ 32 ∧ w.heap[g]? = some (.cells #[.int .u32 (RT_aa r : Nat), .int .i64 ((32 - RT_kk r : Nat) : Int), .map (some bm), sl] 139 (0, 0)) ∧ SetM w bm (2 ^ RT_kk r) r.best := by
  cases r with
  | leaf A K b => obtain ⟨hk, bm, h1, h2⟩ := h; exact ⟨bm, _, hk, h1, h2⟩
  | node A K b l r => obtain ⟨hk, bm, hbk, gl, gr, h1, h2, h3, h4, h5⟩ := h; exact ⟨bm, _, hk, h1, h2⟩
/-- a slice of entries reads from its i-th element on -/
theorem rdE_from {w : World} {ad : Option Addr} {n cap : Nat} {l : List En} (h : RdE w (.slice ad n cap) l) {A : Addr} (hA : ad = some A) (i : Nat) (hi : i ≤ l.length) (c : Nat) : RdE w (.slice (some (A.add (i * 3))) (n - i) c) (l.drop i) := by
  obtain ⟨ad', c', e, hc⟩ := h
  cases e
  refine ⟨_, c, by rw [List.length_drop], fun k x hx => ?_⟩
  rw [List.getElem?_drop] at hx
  obtain ⟨b, off, e, hb, h0, h1, h2⟩ := hc (i + k) x hx
  rw [hA] at e
  obtain rfl := Option.some.inj e
  refine ⟨b, off + i * 3, by rw [Addr.add_lit], hb, ?_, ?_, ?_⟩
  · rw [show off + i * 3 + k * 3 = off + (i + k) * 3 by omega]; exact h0
  · rw [show off + i * 3 + k * 3 + 1 = off + (i + k) * 3 + 1 by omega]; exact h1
  · rw [show off + i * 3 + k * 3 + 2 = off + (i + k) * 3 + 2 by omega]; exact h2
theorem rdE_upto {w : World} {ad : Option Addr} {n cap : Nat} {l : List En} (h : RdE w (.slice ad n cap) l) (i : Nat) (hi : i ≤ l.length) (c : Nat) : RdE w (.slice ad i c) (l.take i) := by
  obtain ⟨ad', c', e, hc⟩ := h
  cases e
  refine ⟨_, c, by rw [List.length_take, Nat.min_eq_left hi], fun k x hx => ?_⟩
  rw [List.getElem?_take] at hx
  split at hx
  · exact hc k x hx
  · cases hx
end Go.Proofs.Ytegponbmelgngaa
end

section
namespace Go.Proofs.Ytegponbmelgngaa
open Go.RowKit
set_option linter.unusedSimpArgs false
set_option linter.unusedVariables false
set_option maxHeartbeats 1500000
set_option maxRecDepth 100000

/-- a region behind its own entry -/
def regB (K A : Nat) (r : List AG.Be) (x : Int) : AG.RT :=
  match K with
  | 0 => .leaf A 0 x
  | K + 1 => if r = [] then .leaf A (K + 1) x else .node A (K + 1) (AG.shared (AG.reg K A (AG.lowT (A + 2 ^ K) r) x).best (AG.reg K (A + 2 ^ K) (AG.highT (A + 2 ^ K) r) x).best) (AG.reg K A (AG.lowT (A + 2 ^ K) r) x) (AG.reg K (A + 2 ^ K) (AG.highT (A + 2 ^ K) r) x)
theorem reg_B (K A : Nat) (t : List AG.Be) (v : Int) : AG.reg K A t v = regB K A (AG.root A K t).2 ((AG.root A K t).1.getD v) := by
  cases K <;> rfl
theorem regB_nil (K A : Nat) (x : Int) : regB K A [] x = .leaf A K x := by cases K <;> rfl
theorem regB_cons (K A : Nat) (r : List AG.Be) (x : Int) (h : r ≠ []) : regB (K + 1) A r x = .node A (K + 1) (AG.shared (AG.reg K A (AG.lowT (A + 2 ^ K) r) x).best (AG.reg K (A + 2 ^ K) (AG.highT (A + 2 ^ K) r) x).best) (AG.reg K A (AG.lowT (A + 2 ^ K) r) x) (AG.reg K (A + 2 ^ K) (AG.highT (A + 2 ^ K) r) x) := if_neg h
theorem low_take {r : List En} {i M : Nat} (h1 : ∀ e ∈ r.take i, e.1.1 < M) (h2 : ∀ e ∈ r.drop i, ¬ e.1.1 < M) : AG.lowT M (r.map toBe) = (r.take i).map toBe ∧ AG.highT M (r.map toBe) = (r.drop i).map toBe := by
  unfold AG.lowT AG.highT
  have e : r.map toBe = (r.take i).map toBe ++ (r.drop i).map toBe := by rw [← List.map_append, List.take_append_drop]
  rw [e, List.filter_append, List.filter_append]
  have a1 : ∀ x ∈ (r.take i).map toBe, x.1.1 < M := fun x hx => by obtain ⟨y, hy, rfl⟩ := List.mem_map.1 hx; exact h1 y hy
  have a2 : ∀ x ∈ (r.drop i).map toBe, ¬ x.1.1 < M := fun x hx => by obtain ⟨y, hy, rfl⟩ := List.mem_map.1 hx; exact h2 y hy
  constructor
  · rw [List.filter_eq_self.2 (fun x hx => by simpa using a1 x hx), List.filter_eq_nil_iff.2 (fun x hx => by simpa using a2 x hx), List.append_nil]
  · rw [List.filter_eq_nil_iff.2 (fun x hx => by simpa using a1 x hx), List.filter_eq_self.2 (fun x hx => by simpa using a2 x hx), List.nil_append]
/-- entries of a block, as a slice that is not longer than its capacity -/
structure UnE (w : World) (A K : Nat) (ad : Option Addr) (N cap : Nat) (r : List En) : Prop where
  len : N = r.length
  le : N ≤ cap
  big : N ≤ 2000
  rd : RdE w (.slice ad N cap) r
  frag : AG.Frag A K (r.map toBe)
  val : ∀ e ∈ r, V e.1 = true
  fit : FitE r
theorem UnE.below {w w' : World} {A K : Nat} {ad : Option Addr} {N cap : Nat} {r : List En} (h : UnE w A K ad N cap r) (hb : Below w.heap.size w w') : UnE w' A K ad N cap r := ⟨h.len, h.le, h.big, h.rd.below hb, h.frag, h.val, h.fit⟩
theorem UnE.asc {w : World} {A K : Nat} {ad : Option Addr} {N cap : Nat} {r : List En} (h : UnE w A K ad N cap r) : AscE r := by
  have := h.frag.asc
  rw [List.pairwise_map] at this
  exact this.imp_of_mem fun {x y} hx hy hxy => (ltB_blk (h.val x hx) (h.val y hy)).1 hxy
/-- where the search divides the entries -/
theorem UnE.parts {w : World} {A K n : Nat} {ad : Option Addr} {N cap : Nat} {r : List En} (h : UnE w A (K + 1) ad N cap r) (hs : ∀ e ∈ r.map toBe, e.1.2 < K + 1) (hn : n + (K + 1) = 32) (ha : A % 2 ^ (K + 1) = 0) {i : Nat} (hb : BsInv (A + 2 ^ K, ((n + 1 : Nat) : Int)) (r.map (·.1)) i i) :
    i ≤ N ∧ AG.lowT (A + 2 ^ K) (r.map toBe) = (r.take i).map toBe ∧ AG.highT (A + 2 ^ K) (r.map toBe) = (r.drop i).map toBe ∧ AG.Frag A K ((r.take i).map toBe) ∧ AG.Frag (A + 2 ^ K) K ((r.drop i).map toBe) := by
  have hlt : ∀ e ∈ r, (ltP e.1 (A + 2 ^ K, ((n + 1 : Nat) : Int)) ↔ e.1.1 < A + 2 ^ K) := fun e he => by
    have h1 := hs (toBe e) (List.mem_map.2 ⟨e, he, rfl⟩)
    have h2 := (V_al e.1.1 e.1.2).1 (h.val e he)
    have h3 : 32 - e.1.2.toNat < K + 1 := h1
    unfold ltP
    dsimp only
    omega
  have h1 := low_take (r := r) (i := i) (M := A + 2 ^ K)
    (fun e he => (hlt e (List.mem_of_mem_take he)).1 (hb.2.2.1 e.1 (by rw [← List.map_take]; exact List.mem_map.2 ⟨e, he, rfl⟩)))
    (fun e he g => hb.2.2.2 e.1 (by rw [← List.map_drop]; exact List.mem_map.2 ⟨e, he, rfl⟩) ((hlt e (List.mem_of_mem_drop he)).2 g))
  refine ⟨?_, h1.1, h1.2, ?_, ?_⟩
  · have := hb.2.1; rw [List.length_map] at this; rw [h.len]; exact this
  · rw [← h1.1]; exact h.frag.low ha hs
  · rw [← h1.2]; exact h.frag.high
/-- the slice of the lower entries, and that of the upper ones -/
theorem UnE.low {w : World} {A K A' K' : Nat} {ad : Option Addr} {N cap i : Nat} {r : List En} (h : UnE w A K ad N cap r) (hi : i ≤ N) (hf : AG.Frag A' K' ((r.take i).map toBe)) : UnE w A' K' ad i cap (r.take i) :=
  ⟨by rw [List.length_take, ← h.len, Nat.min_eq_left hi], Nat.le_trans hi h.le, Nat.le_trans hi h.big, rdE_upto h.rd i (by rw [← h.len]; exact hi) cap, hf, fun e he => h.val e (List.mem_of_mem_take he), fun e he => h.fit e (List.mem_of_mem_take he)⟩
theorem UnE.high {w : World} {A K A' K' : Nat} {p : Addr} {N cap i : Nat} {r : List En} (h : UnE w A K (some p) N cap r) (hi : i ≤ N) (hf : AG.Frag A' K' ((r.drop i).map toBe)) : UnE w A' K' (some (p.add (i * 3))) (N - i) (cap - i) (r.drop i) :=
  ⟨by rw [List.length_drop, ← h.len], by have := h.le; omega, by have := h.big; omega, rdE_from h.rd rfl i (by rw [← h.len]; exact hi) _, hf, fun e he => h.val e (List.mem_of_mem_drop he), fun e he => h.fit e (List.mem_of_mem_drop he)⟩
theorem UnE.none {w : World} {A K A' K' : Nat} {ad ad' : Option Addr} {N cap i : Nat} {r : List En} (h : UnE w A K ad N cap r) (hi : N ≤ i) (hf : AG.Frag A' K' ((r.drop i).map toBe)) : UnE w A' K' ad' 0 0 (r.drop i) := by
  have e : r.drop i = [] := List.drop_eq_nil_of_le (by rw [← h.len]; exact hi)
  rw [e] at hf ⊢
  exact ⟨rfl, Nat.le_refl _, Nat.zero_le _, ⟨ad', 0, rfl, fun k x g => by simp at g⟩, hf, (fun e g => by cases g), (fun e g => by cases g)⟩
end Go.Proofs.Ytegponbmelgngaa
end
