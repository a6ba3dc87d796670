/-
  The walk of the law TrieLongest.
-/
import Derived.Test.YtkelfjgjgjdinaaTwO
import Derived.Test.YtkelfjgjgjdinaaLgMath
import Derived.Deep.LoopGhost
import Derived.IntWalk
namespace Go.Proofs.Ytkelfjgjgjdinaa
open Go.RowKit
set_option linter.unusedSimpArgs false
set_option linter.unusedVariables false
set_option maxHeartbeats 2000000
set_option maxRecDepth 100000

theorem longest_big (l : List En) (v : Value) (a : Nat) (w : World) (hl : 200 < l.length) (hr : RdE w v l) :
    Calls Try.prog 11 #[v, .int .u32 a] w fun e w' => e = .returned (.bool true) ∧ Below w.heap.size w w' := by
  obtain ⟨ad, cap, rfl, _⟩ := hr
  go_enter Try.func11, Try.ntmps11
  go_wp2_with (go_at_call 41; refine (awake6_any _).mono ?_; rintro e w1 ⟨rfl, hb⟩)
  go_ret
  exact ⟨rfl, hb⟩
theorem longest_bad (l : List En) (v : Value) (a : Nat) (w : World) (hl : l.length ≤ 200) (hr : RdE w v l) (hf : Fit l) (hV : allV l = false) :
    Calls Try.prog 11 #[v, .int .u32 a] w fun e w' => e = .returned (.bool true) ∧ Below w.heap.size w w' := by
  have HO := Lib.hid (of_no l v w (by omega) hf hr hV)
  obtain ⟨ad, cap, rfl, _⟩ := hr
  clear hV hf
  go_enter Try.func11, Try.ntmps11
  go_wp2_with (first | (go_at_call 50; refine HO.out.mono ?_; rintro e w1 ⟨rfl, hb1⟩; have B1 := Lib.hid hb1; clear hb1) | (go_at_call 41; refine (awake6_any _).mono ?_; rintro e w2 ⟨rfl, hb2⟩))
  go_ret
  exact ⟨rfl, below_then B1.out hb2⟩
/-- the best entry so far in its variable -/
def Ent (w : World) (b : Nat) (e : En) : Prop := w.heap[b]? = some (.cells #[.int .u32 (e.1.1 : Int), .int .i64 e.1.2, .int .i64 e.2] 65 (0, 0))
theorem Ent.cells {w : World} {b : Nat} {e : En} (h : Ent w b e) : w.cell? ⟨b, 0, none⟩ = some (.int .u32 (e.1.1 : Int)) ∧ w.cell? ⟨b, 1, none⟩ = some (.int .i64 e.1.2) ∧ w.cell? ⟨b, 2, none⟩ = some (.int .i64 e.2) := by
  unfold Ent at h; refine ⟨?_, ?_, ?_⟩ <;> simp [World.cell?, h]
theorem Ent.free {w : World} {b : Nat} {e : En} (h : Ent w b e) : ∀ o, w.frozen? ⟨b, o, none⟩ = false := fun o => by unfold Ent at h; simp [World.frozen?, h]
theorem Ent.below {w w' : World} {b : Nat} {e : En} (h : Ent w b e) (hb : Below w.heap.size w w') : Ent w' b e := (hb.block b (lt_of_block h)).trans h
theorem Ent.set {w : World} {b : Nat} {e : En} (h : Ent w b e) (x : En) : Ent (((w.setCell ⟨b, 0, none⟩ (.int .u32 (x.1.1 : Int))).setCell ⟨b, 1, none⟩ (.int .i64 x.1.2)).setCell ⟨b, 2, none⟩ (.int .i64 x.2)) b x := by
  unfold Ent; rw [heap_set_eq (heap_set_eq (heap_set_eq h))]; rfl
theorem longest_good (l : List En) (v : Value) (a : Nat) (ha : a < 4294967296) (w : World) (hl : l.length ≤ 200) (hr : RdE w v l) (hf : Fit l) (hV : allV l = true) :
    Calls Try.prog 11 #[v, .int .u32 a] w fun e w' => e = .returned (.bool true) ∧ Below w.heap.size w w' := by
  have HO := Lib.hid (of_yes l v w (by omega) hf hr hV)
  have HBst := Lib.hid (bestOf_eq a l l.length (by rw [List.take_length]; exact hV))
  have HLen : Hid ((foldE l).length ≤ 200) := by have := foldE_take_len l l.length; rw [List.take_length] at this; exact Nat.le_trans this hl
  obtain ⟨ad, cap, rfl, hc⟩ := hr
  have HC := Lib.hid hc
  have HF := Lib.hid hf
  have HV := Lib.hid hV
  clear hc hf hV
  go_enter Try.func11, Try.ntmps11
  go_wp2_with (first | (go_at_call 50; refine HO.out.mono ?_; rintro e w1 ⟨t, gs, rfl, hT, hg, hb1⟩; obtain ⟨gt, rfl, -⟩ := hT.ptr; have T1 := Lib.hid hT; have G1 := Lib.hid hg; have B1 := Lib.hid hb1; clear hT hg hb1))
  go_loopg [31, 8] l.length (fun g s31 s8 wr => ∃ (k : Nat) (b : En) (f : Bool), k ≤ l.length ∧ l.length - k ≤ g ∧ s31 = .int .i64 k ∧ s8 = .bool f ∧ bestOf a (l.take k) = (b, f) ∧ Ent wr w1.heap.size b ∧ Below w1.heap.size w1 wr)
  case atStart => exact ⟨0, ((0, 0), 0), false, by omega, by omega, rfl, rfl, rfl, heap_alloc_new _ _, below_alloc _ _⟩
  case round =>
    obtain ⟨k, b, f, hk, hg, rfl, rfl, hbf, hE, hbw⟩ := hrel
    have HE := Lib.hid hE
    have HB := Lib.hid hbw
    have HBF := Lib.hid hbf
    have hlt1 : w1.heap.size < wr.heap.size := lt_of_block hE
    have HLT := Lib.hid hlt1
    clear hE hbw hbf hlt1
    by_cases hlt : k < l.length
    · obtain ⟨x, hx⟩ : ∃ x, l[k]? = some x := ⟨_, List.getElem?_eq_getElem hlt⟩
      obtain ⟨blk, off, rfl, hblk, hc0, hc1, hc2⟩ := HC.out k x hx
      have HX := Lib.hid hx
      have hfx := HF.out x (List.mem_of_getElem? hx)
      have f0 := carry' HB.out (Nat.lt_of_lt_of_le hblk B1.out.size) (carry' B1.out hblk hc0)
      have f1 := carry' HB.out (Nat.lt_of_lt_of_le hblk B1.out.size) (carry' B1.out hblk hc1)
      have f2 := carry' HB.out (Nat.lt_of_lt_of_le hblk B1.out.size) (carry' B1.out hblk hc2)
      clear hc0 hc1 hc2 hx
      obtain ⟨⟨xa, xn⟩, xv⟩ := x
      obtain ⟨hfa, hfn⟩ := hfx
      dsimp only at hfa hfn f0 f1 f2
      obtain ⟨⟨ba, bn⟩, bv⟩ := b
      have HSt : Hid (bestOf a (l.take (k + 1)) = stepB a (((ba, bn), bv), f) ((xa, xn), xv)) := by unfold Hid; rw [take_snoc HX.out, bestOf_snoc, HBF.out]
      have CN : Hid (∀ W, Calls Try.prog 52 #[.agg #[.int .u32 xa, .int .i64 xn], .int .u32 a] W fun e w' => e = .returned (.bool (con xa xn a)) ∧ Below W.heap.size W w') := fun W => rcontains_any xa hfa xn hfn a ha W
      have step : ∀ wn b' f', stepB a (((ba, bn), bv), f) ((xa, xn), xv) = (b', f') → Ent wn w1.heap.size b' → Below w1.heap.size w1 wn → ∃ (k1 : Nat) (b : En) (f : Bool), k1 ≤ l.length ∧ l.length - k1 ≤ l.length - (k + 1) ∧ Value.int .i64 (↑k + 1) = .int .i64 (k1 : Nat) ∧ Value.bool f' = .bool f ∧ bestOf a (l.take k1) = (b, f) ∧ Ent wn w1.heap.size b ∧ Below w1.heap.size w1 wn := fun wn b' f' h1 h2 h3 =>
        ⟨k + 1, b', f', by omega, Nat.le_refl _, by go_num, rfl, by rw [HSt.out, h1], h2, h3⟩
      have ST := Lib.hid step
      clear step
      cases hcn : con xa xn a
      · rw [hcn] at CN
        have HS : Hid (stepB a (((ba, bn), bv), f) ((xa, xn), xv) = (((ba, bn), bv), f)) := by unfold Hid stepB; rw [if_neg (by rw [hcn]; simp)]
        clear hcn
        go_wp2_with (go_at_call 52; refine (CN.out _).mono ?_; rintro e w2 ⟨rfl, hb2⟩; have B2 := Lib.hid hb2; clear hb2)
        go_roundg (l.length - (k + 1))
        case measure => omega
        case rel => exact ST.out _ _ _ HS.out ((HE.out.below (below_alloc _ _)).below B2.out) (((HB.out.alloc HB.out.size _)).trans (B2.out.mono (by have := HB.out.size; simp; omega)))
      · rw [hcn] at CN
        cases f
        · have HS : Hid (stepB a (((ba, bn), bv), false) ((xa, xn), xv) = (((xa, xn), xv), true)) := by unfold Hid stepB; rw [if_pos ⟨hcn, .inl rfl⟩]
          clear hcn
          go_wp2_with (go_at_call 52; refine (CN.out _).mono ?_; rintro e w2 ⟨rfl, hb2⟩
                       have c0 : w2.cell? ⟨wr.heap.size, 0, none⟩ = some (.int .u32 xa) := carry hb2 (by simp)
                       have c1 : w2.cell? ⟨wr.heap.size, 1, none⟩ = some (.int .i64 xn) := carry hb2 (by simp)
                       have c2 : w2.cell? ⟨wr.heap.size, 2, none⟩ = some (.int .i64 xv) := carry hb2 (by simp)
                       have E2 := Lib.hid ((HE.out.below (below_alloc _ (.cells #[.int .u32 xa, .int .i64 xn, .int .i64 xv] 65))).below hb2)
                       obtain ⟨g0, g1, g2⟩ := E2.out.cells
                       have gf := E2.out.free
                       have B2 := Lib.hid ((HB.out.alloc HB.out.size (.cells #[.int .u32 xa, .int .i64 xn, .int .i64 xv] 65)).trans (hb2.mono (by have := HB.out.size; simp; omega)))
                       clear hb2)
          go_roundg (l.length - (k + 1))
          case measure => omega
          case rel => exact ST.out _ _ _ HS.out (E2.out.set ((xa, xn), xv)) (((B2.out.setCell (by simp) _).setCell (by simp) _).setCell (by simp) _)
        · by_cases hle : bn ≤ xn
          · have HS : Hid (stepB a (((ba, bn), bv), true) ((xa, xn), xv) = (((xa, xn), xv), true)) := by unfold Hid stepB; rw [if_pos ⟨hcn, .inr hle⟩]
            have hd : decide (bn ≤ xn) = true := decide_eq_true hle
            clear hcn
            go_wp2_with (go_at_call 52; refine (CN.out _).mono ?_; rintro e w2 ⟨rfl, hb2⟩
                         have c0 : w2.cell? ⟨wr.heap.size, 0, none⟩ = some (.int .u32 xa) := carry hb2 (by simp)
                         have c1 : w2.cell? ⟨wr.heap.size, 1, none⟩ = some (.int .i64 xn) := carry hb2 (by simp)
                         have c2 : w2.cell? ⟨wr.heap.size, 2, none⟩ = some (.int .i64 xv) := carry hb2 (by simp)
                         have E2 := Lib.hid ((HE.out.below (below_alloc _ (.cells #[.int .u32 xa, .int .i64 xn, .int .i64 xv] 65))).below hb2)
                         obtain ⟨g0, g1, g2⟩ := E2.out.cells
                         have gf := E2.out.free
                         have B2 := Lib.hid ((HB.out.alloc HB.out.size (.cells #[.int .u32 xa, .int .i64 xn, .int .i64 xv] 65)).trans (hb2.mono (by have := HB.out.size; simp; omega)))
                         clear hb2)
            go_roundg (l.length - (k + 1))
            case measure => omega
            case rel => exact ST.out _ _ _ HS.out (E2.out.set ((xa, xn), xv)) (((B2.out.setCell (by simp) _).setCell (by simp) _).setCell (by simp) _)
          · have HS : Hid (stepB a (((ba, bn), bv), true) ((xa, xn), xv) = (((ba, bn), bv), true)) := by unfold Hid stepB; rw [if_neg (by rintro ⟨_, h | h⟩; cases h; exact hle h)]
            have hd : decide (bn ≤ xn) = false := decide_eq_false hle
            clear hcn
            go_wp2_with (go_at_call 52; refine (CN.out _).mono ?_; rintro e w2 ⟨rfl, hb2⟩
                         have c1 : w2.cell? ⟨wr.heap.size, 1, none⟩ = some (.int .i64 xn) := carry hb2 (by simp)
                         have E2 := Lib.hid ((HE.out.below (below_alloc _ (.cells #[.int .u32 xa, .int .i64 xn, .int .i64 xv] 65))).below hb2)
                         obtain ⟨g0, g1, g2⟩ := E2.out.cells
                         have B2 := Lib.hid ((HB.out.alloc HB.out.size (.cells #[.int .u32 xa, .int .i64 xn, .int .i64 xv] 65)).trans (hb2.mono (by have := HB.out.size; simp; omega)))
                         clear hb2)
            go_roundg (l.length - (k + 1))
            case measure => omega
            case rel => exact ST.out _ _ _ HS.out E2.out B2.out
    · have hkl : k = l.length := by omega
      subst hkl
      have hbf := HBF.out
      rw [HBst.out] at hbf
      have hUp : upon a (l.take l.length) = upon a l := by rw [List.take_length]
      rw [hUp] at hbf
      obtain ⟨hb1, hb2⟩ := Prod.mk.inj hbf
      have HL : Hid (∀ W, TrieR W (.pointer (some ⟨gt, 0, none⟩)) (foldE l) gs → Calls Try.prog 53 #[.pointer (some ⟨gt, 0, none⟩), .int .u32 a] W fun en w' => en = .returned (.tuple #[.agg #[.int .u32 (b.1.1 : Nat), .int .i64 b.1.2, .int .i64 b.2], .bool f]) ∧ Below W.heap.size W w') := fun W hT => by
        have := lookup_any _ (foldE l) gs W a ha (.inr hT) hT.lt (by have := HLen.out; omega)
        rw [show (foldE l).filter (fun x => C x.1 (a, 32)) = upon a l from rfl, hb1, hb2] at this
        exact this
      have HA : Hid (∀ W, TrieR W (.pointer (some ⟨gt, 0, none⟩)) (foldE l) gs → Calls Try.prog 54 #[.pointer (some ⟨gt, 0, none⟩), .agg #[.int .u32 a, .int .i64 32]] W fun en w' => ∃ v, en = .returned v ∧ RdE w' v (upon a l) ∧ Below W.heap.size W w') := fun W hT =>
        (above_any _ (foldE l) gs W (a, 32) ha (by constructor <;> omega) (.inr hT) (by have := HLen.out; omega)).mono fun en w' ⟨v, h1, h2, h3⟩ => ⟨v, h1, h2.rd, h3⟩
      have HU1 := Lib.hid hb1
      have HU2 := Lib.hid hb2
      clear hbf hUp hb1 hb2
      have TR := Lib.hid (T1.out.below HB.out)
      obtain ⟨⟨ba, bn⟩, bv⟩ := b
      go_wp2_with fail
      refine (HL.out _ TR.out).mono ?_
      rintro e w2 ⟨rfl, hb2⟩
      have T2 := Lib.hid ((TR.out.below hb2).below (below_alloc _ (.cells #[.int .u32 (ba : Int), .int .i64 bn, .int .i64 bv] 65)))
      have E2 := Lib.hid ((HE.out.below hb2).below (below_alloc _ (.cells #[.int .u32 (ba : Int), .int .i64 bn, .int .i64 bv] 65)))
      have B2 := Lib.hid (below_then ((HB.out.trans (hb2.mono HB.out.size)) : Below w1.heap.size w1 w2) (below_alloc _ (.cells #[.int .u32 (ba : Int), .int .i64 bn, .int .i64 bv] 65)))
      have F2 : Hid (Ent (w2.alloc (.cells #[.int .u32 (ba : Int), .int .i64 bn, .int .i64 bv] 65)) w2.heap.size ((ba, bn), bv)) := heap_alloc_new _ _
      clear hb2
      go_wp2_with fail
      refine (HA.out _ T2.out).mono ?_
      rintro e w3 ⟨v3, rfl, hr3, hb3⟩
      have E3 := Lib.hid (E2.out.below hb3)
      have F3 := Lib.hid (F2.out.below hb3)
      have B3 := Lib.hid (below_then B2.out hb3)
      obtain ⟨ad3, cap3, rfl, hcc⟩ := hr3
      have HCC := Lib.hid hcc
      obtain ⟨e0, e1, e2⟩ := E3.out.cells
      obtain ⟨q0, q1, q2⟩ := F3.out.cells
      clear hb3 hcc
      cases f
      · go_wp2_with fail
        go_quiet (fail)
        have D0 := fun n : Nat => carry (below_drewN (Below.refl w3.heap.size w3) n) e0
        go_wp2_with fail
        refine (awake6_any _).mono ?_
        rintro e w4 ⟨rfl, hb4⟩
        have g0 : w4.cell? ⟨w1.heap.size, 0, none⟩ = _ := carry hb4 e0
        have g1 : w4.cell? ⟨w1.heap.size, 1, none⟩ = _ := carry hb4 e1
        have g2 : w4.cell? ⟨w1.heap.size, 2, none⟩ = _ := carry hb4 e2
        have p0 : w4.cell? ⟨w2.heap.size, 0, none⟩ = _ := carry hb4 q0
        have p1 : w4.cell? ⟨w2.heap.size, 1, none⟩ = _ := carry hb4 q1
        have p2 : w4.cell? ⟨w2.heap.size, 2, none⟩ = _ := carry hb4 q2
        have B4 := Lib.hid (below_then (below_drewN B3.out _) hb4)
        clear hb4 D0
        go_wp2
        go_ret
        exact ⟨rfl, B1.out.trans (B4.out.mono B1.out.size)⟩
      · obtain ⟨N, hN⟩ : ∃ N, (upon a l).length = N + 1 := by
          have h := HU2.out
          cases hu : upon a l with
          | nil => rw [hu] at h; cases h
          | cons y r => exact ⟨r.length, rfl⟩
        have hlast : (upon a l)[N]? = some ((ba, bn), bv) := by
          have h := HU1.out
          have hne : upon a l ≠ [] := by intro e; rw [e] at hN; cases hN
          rw [← h, show N = (upon a l).length - 1 by omega, ← List.getLast?_eq_getElem?, List.getLast?_eq_some_getLast hne]
          unfold lastOf
          rw [List.getLastD_eq_getLast?, List.getLast?_eq_some_getLast hne]; rfl
        obtain ⟨b3, o3, rfl, hb3l, k0, k1, k2⟩ := HCC.out N _ hlast
        have hN2 : N ≤ 300 := by have := HLen.out; have h2 : (upon a l).length ≤ (foldE l).length := List.length_filter_le _ _; omega
        rw [hN]
        dsimp only at k0 k1 k2
        clear hlast hN
        have i1 : (((N : Int) + 1) == 0) = false := by simp; omega
        have s1 : IntKind.i64.wrap ((N : Int) + 1 - 1) = (N : Int) := by rw [show (N : Int) + 1 - 1 = N by omega]; exact IntWalk.i64_in _ (by omega)
        have s2 : (N : Int) + 1 - 1 = N := by omega
        have s3 : (N : Int) < N + 1 := by omega
        go_wp2_with fail
        go_quiet (fail)
        go_wp2_with fail
        refine (awake6_any _).mono ?_
        rintro e w4 ⟨rfl, hb4⟩
        have g0 : w4.cell? ⟨w1.heap.size, 0, none⟩ = _ := carry hb4 e0
        have g1 : w4.cell? ⟨w1.heap.size, 1, none⟩ = _ := carry hb4 e1
        have g2 : w4.cell? ⟨w1.heap.size, 2, none⟩ = _ := carry hb4 e2
        have p0 : w4.cell? ⟨w2.heap.size, 0, none⟩ = _ := carry hb4 q0
        have p1 : w4.cell? ⟨w2.heap.size, 1, none⟩ = _ := carry hb4 q1
        have p2 : w4.cell? ⟨w2.heap.size, 2, none⟩ = _ := carry hb4 q2
        have B4 := Lib.hid (below_then (below_drewN B3.out _) hb4)
        clear hb4
        go_wp2
        go_ret
        exact ⟨rfl, B1.out.trans (B4.out.mono B1.out.size)⟩
theorem longest_walk (l : List En) (v : Value) (a : Nat) (ha : a < 4294967296) (w : World) (hr : RdE w v l) (hf : Fit l) :
    Calls Try.prog 11 #[v, .int .u32 a] w fun e w' => e = .returned (.bool true) ∧ Below w.heap.size w w' := by
  by_cases hl : 200 < l.length
  · exact longest_big l v a w hl hr
  · cases hV : allV l
    · exact longest_bad l v a w (by omega) hr hf hV
    · exact longest_good l v a ha w (by omega) hr hf hV
end Go.Proofs.Ytkelfjgjgjdinaa
