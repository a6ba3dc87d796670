/-
  The walk of the law TrieOrder.
-/
import Derived.Test.YtkelfjgjgjdinaaTwT
import Derived.Test.YtkelfjgjgjdinaaWalkF
import Derived.IntWalk
namespace Go.Proofs.Ytkelfjgjgjdinaa
open Go.RowKit
set_option linter.unusedSimpArgs false
set_option linter.unusedVariables false
set_option maxHeartbeats 2000000
set_option maxRecDepth 100000

theorem cmpP_of_lt {x y : PP} (h : ltP x y) : cmpP x.1 x.2 y.1 y.2 = -1 := by
  unfold ltP at h; unfold cmpP
  rcases h with h | ⟨h1, h2⟩
  · rw [if_pos h]
  · rw [if_neg (by omega), if_neg (by omega)]; exact cmpI_lt h2
theorem order_big (l : List En) (v : Value) (w : World) (hl : 120 < l.length) (hr : RdE w v l) :
    Calls Try.prog 12 #[v] w fun e w' => e = .returned (.bool true) ∧ Below w.heap.size w w' := by
  obtain ⟨ad, cap, rfl, _⟩ := hr
  go_enter Try.func12, Try.ntmps12
  go_wp2_with (go_at_call 41; refine (awake6_any _).mono ?_; rintro e w1 ⟨rfl, hb⟩)
  go_ret
  exact ⟨rfl, hb⟩
theorem own_row {w : World} {B : Nat} {v : Value} {l : List En} (h : w.ownsRow B 65 3 v l.length (flatE l)) : ∃ ad cap, v = .slice ad l.length cap := by obtain ⟨ad, cap, h, _⟩ := rdE_own h; exact ⟨ad, cap, h⟩
theorem order_small (l : List En) (v : Value) (w : World) (hl : l.length ≤ 120) (hr : RdE w v l) (hf : Fit l) :
    Calls Try.prog 12 #[v] w fun e w' => e = .returned (.bool true) ∧ Below w.heap.size w w' := by
  obtain ⟨i0, hi, hz0, hz1, hz2⟩ := info_parts info65
  obtain ⟨ad, cap, rfl, hc⟩ := hr
  have HC := Lib.hid hc
  have HF := Lib.hid hf
  have HInv : Hid (∀ k, OrdInv k (ordOf (l.take k))) := ordOf_inv l hf
  clear hc hf
  go_enter Try.func12, Try.ntmps12
  go_wp2_with fail
  refine (new_any _).mono ?_
  rintro e w1 ⟨t, g1, rfl, hT1, hg1, hb1⟩
  obtain ⟨gt, rfl, -⟩ := hT1.ptr
  have T1 := Lib.hid hT1
  have G1 := Lib.hid hg1
  have B1 := Lib.hid hb1
  clear hT1 hg1 hb1
  go_wp2_with fail
  refine (new_any _).mono ?_
  rintro e w2 ⟨b, g2, rfl, hT2, hg2, hb2⟩
  obtain ⟨gb, rfl, -⟩ := hT2.ptr
  have Tw : Hid (Two w (.pointer (some ⟨gt, 0, none⟩)) (.pointer (some ⟨gb, 0, none⟩)) (.slice none 0 0) [] [] [] g1 g2 w2) :=
    ⟨T1.out.below hb2, hT2, fun g h1 h2 => by have := T1.out.lt g h1; have := hg2 g h2; omega, World.ownsRow_nil _ _ _ _, fun g _ => by simp [Value.ownBlock], fun g _ => by simp [Value.ownBlock], G1.out, fun g hg => Nat.le_trans B1.out.size (hg2 g hg), B1.out.trans (hb2.mono B1.out.size)⟩
  clear hT2 hg2 hb2
  go_wp2_with fail
  go_loopg [29, 5] l.length (fun g s29 s5 wr => ∃ (k : Nat) (sv : Value) (h1 : List Nat), k ≤ l.length ∧ l.length - k ≤ g ∧ s29 = .int .i64 k ∧ sv = s5 ∧ Two w (.pointer (some ⟨gt, 0, none⟩)) (.pointer (some ⟨gb, 0, none⟩)) sv (ordOf (l.take k)).1 [] (ordOf (l.take k)).2 h1 g2 wr)
  case atStart => exact ⟨0, _, g1, by omega, by omega, rfl, rfl, Tw.out⟩
  case round =>
    obtain ⟨k, sv, h1, hk, hg, rfl, rfl, hTw⟩ := hrel
    have HT := Lib.hid hTw
    have hlen := (HInv.out k).le
    have hlen2 := (HInv.out k).len
    have HLe := Lib.hid (And.intro hlen hlen2)
    clear hTw hlen hlen2
    by_cases hlt : k < l.length
    · obtain ⟨x, hx⟩ : ∃ x, l[k]? = some x := ⟨_, List.getElem?_eq_getElem hlt⟩
      obtain ⟨blk, off, rfl, hblk, hc0, hc1, hc2⟩ := HC.out k x hx
      have HX := Lib.hid hx
      have hfx := HF.out x (List.mem_of_getElem? hx)
      have f0 := carry' HT.out.bel hblk hc0
      have f1 := carry' HT.out.bel hblk hc1
      have f2 := carry' HT.out.bel hblk hc2
      clear hc0 hc1 hc2 hx
      obtain ⟨⟨xa, xn⟩, xv⟩ := x
      obtain ⟨hfa, hfn⟩ := hfx
      dsimp only at hfa hfn f0 f1 f2
      have HSt : Hid (ordOf (l.take (k + 1)) = ordStep (ordOf (l.take k)) ((xa, xn), xv)) := by unfold Hid; rw [take_snoc HX.out, ordOf_snoc]
      cases hv : V (xa, xn)
      · have HS2 : Hid (ordOf (l.take (k + 1)) = ordOf (l.take k)) := by unfold Hid; rw [HSt.out]; unfold ordStep; rw [if_neg (by dsimp only; rw [hv]; decide)]
        have HV := Lib.hid hv
        clear hv
        go_wp2_with (go_at_call 55; refine (tput_bad gt (xa, xn) hfa hfn xv HV.out _).mono ?_; rintro e w3 ⟨rfl, hb3⟩; have T3 := Lib.hid ((HT.out.below (below_alloc _ _)).below hb3); clear hb3)
        go_roundg (l.length - (k + 1))
        case measure => omega
        case rel => exact ⟨k + 1, _, h1, by omega, Nat.le_refl _, by go_num, rfl, by rw [HS2.out]; exact T3.out⟩
      · have HV := Lib.hid hv
        have HP : Hid (∀ W, TrieR W (.pointer (some ⟨gt, 0, none⟩)) (ordOf (l.take k)).1 h1 → Calls Try.prog 55 #[.pointer (some ⟨gt, 0, none⟩), .agg #[.int .u32 xa, .int .i64 xn], .int .i64 xv] W fun en w' => ∃ gs', en = .returned (.tuple #[.bool (!hasE (ordOf (l.take k)).1 (xa, xn)), .int .i64 0]) ∧ TrieR w' (.pointer (some ⟨gt, 0, none⟩)) (insE (ordOf (l.take k)).1 ((xa, xn), xv)) gs' ∧ (∀ k ∈ gs', k ∈ h1 ∨ W.heap.size ≤ k) ∧ Kp h1 W w') :=
          fun W hT => tput_any _ _ h1 W ((xa, xn), xv) ⟨hfa, HV.out⟩ hT (by have := HLe.out.1; omega)
        clear hv
        cases hh : hasE (ordOf (l.take k)).1 (xa, xn)
        · have HS2 : Hid (ordOf (l.take (k + 1)) = (insE (ordOf (l.take k)).1 ((xa, xn), xv), (ordOf (l.take k)).2 ++ [((xa, xn), xv)])) := by unfold Hid; rw [HSt.out]; unfold ordStep; rw [if_pos HV.out, if_neg (by dsimp only; rw [hh]; decide)]
          rw [hh] at HP
          clear hh
          go_wp2_with (first
            | (go_at_call 55; refine (HP.out _ (HT.out.below (below_alloc _ _)).t).mono ?_; rintro e w3 ⟨gs3, rfl, hT3, hg3, hk3⟩
               have T3 := Lib.hid ((HT.out.below (below_alloc _ _)).putT hT3 hg3 hk3)
               have nb : wr.heap.size ∉ h1 := fun h => by have := HT.out.t.lt _ h; omega
               have c0 : w3.cell? ⟨wr.heap.size, 0, none⟩ = some (.int .u32 xa) := hk3.carry nb (by simp)
               have c1 : w3.cell? ⟨wr.heap.size, 1, none⟩ = some (.int .i64 xn) := hk3.carry nb (by simp)
               have c2 : w3.cell? ⟨wr.heap.size, 2, none⟩ = some (.int .i64 xv) := hk3.carry nb (by simp)
               clear hT3 hg3 hk3)
            | (at_builtin; refine wpList_append_lies _ rfl (.tmp 47) (.tmp 49) 56 rfl w.heap.size 65 i0 (.agg #[.int .u32 0, .int .i64 0, .int .i64 0]) 3 24 Try.underlying56 hi hz0 hz1 hz2 rfl (by decide) sv (ordOf (l.take k)).2.length (flatE (ordOf (l.take k)).2) rfl (own_below T3.out.row (below_alloc _ _)) ⟨w3.heap.size, 0, none⟩ 1 1 [.int .u32 (xa : Int), .int .i64 xn, .int .i64 xv] rfl rfl (cell_three_at _ _ _ _ _ rfl) (one_three _ _ _) (by decide) (by have := HLe.out; unfold maxLen; omega) (by have := HLe.out; omega) (by have := T3.out.bel.size; simp; omega) (w3.heap.size + 1) (by simp) ?_; intro g cp w4 hown4 hgrow4 hat4 hlt4
               have T4 := Lib.hid (T3.out.push (below_alloc _ _) ((xa, xn), xv) hown4 hgrow4 (fun g' e => by simp [Value.ownBlock] at e; subst e; exact hat4.imp id (fun h => by omega)))
               clear hown4 hgrow4 hat4 hlt4))
          go_roundg (l.length - (k + 1))
          case measure => omega
          case rel => exact ⟨k + 1, _, gs3, by omega, Nat.le_refl _, by go_num, rfl, by rw [HS2.out]; exact T4.out⟩
        · have HS2 : Hid (ordOf (l.take (k + 1)) = (insE (ordOf (l.take k)).1 ((xa, xn), xv), (ordOf (l.take k)).2)) := by unfold Hid; rw [HSt.out]; unfold ordStep; rw [if_pos HV.out, if_pos (by dsimp only; rw [hh])]
          rw [hh] at HP
          clear hh
          go_wp2_with (go_at_call 55; refine (HP.out _ (HT.out.below (below_alloc _ _)).t).mono ?_; rintro e w3 ⟨gs3, rfl, hT3, hg3, hk3⟩; have T3 := Lib.hid ((HT.out.below (below_alloc _ _)).putT hT3 hg3 hk3); clear hT3 hg3 hk3)
          go_roundg (l.length - (k + 1))
          case measure => omega
          case rel => exact ⟨k + 1, _, gs3, by omega, Nat.le_refl _, by go_num, rfl, by rw [HS2.out]; exact T3.out⟩
    · have hkl : k = l.length := by omega
      subst hkl
      have hI := HInv.out l.length
      rw [List.take_length] at HT hI
      have HLn := HLe.out
      rw [List.take_length] at HLn
      obtain ⟨E, S, hES⟩ : ∃ E S, ordOf l = (E, S) := ⟨_, _, rfl⟩
      rw [hES] at HT hI HLn
      have HO := Lib.hid hI
      obtain ⟨hE1, hE2⟩ := HLn
      dsimp only at hE1 hE2
      have hS1 : S.length ≤ 120 := by omega
      have HSE := Lib.hid hE2
      have hE3 : E.length ≤ 120 := by omega
      clear hE1 hE2
      obtain ⟨ad2, cp2, rfl⟩ := own_row HT.out.row
      have HBE := Lib.hid (bkOf_end E S)
      clear HLe hES
      go_wp2_with fail
      go_loopg [10] S.length (fun g s10 wr => ∃ (j : Nat) (z : Int) (h2 : List Nat), j ≤ S.length ∧ j ≤ g ∧ z + 1 = j ∧ s10 = .int .i64 z ∧ Two w (.pointer (some ⟨gt, 0, none⟩)) (.pointer (some ⟨gb, 0, none⟩)) (.slice ad2 S.length cp2) E (bkOf E S j) S h1 h2 wr)
      case atStart => exact ⟨S.length, (S.length : Int) - 1, g2, Nat.le_refl _, Nat.le_refl _, by omega, rfl, by rw [HBE.out]; exact HT.out⟩
      case round =>
        obtain ⟨j, z, h2, hj, hg, hz, rfl, hTw⟩ := hrel
        have HT2 := Lib.hid hTw
        clear hTw
        cases j with
        | succ i =>
          obtain rfl : z = (i : Int) := by omega
          obtain ⟨x, hx⟩ : ∃ x, S[i]? = some x := ⟨_, List.getElem?_eq_getElem (by omega)⟩
          obtain ⟨ad3, cp3, he, hcc⟩ := rdE_own HT2.out.row
          obtain ⟨blk, off, rfl, hblk, hc0, hc1, hc2⟩ := hcc i x hx
          obtain rfl : ad2 = some ⟨blk, off, none⟩ := by cases he; rfl
          have HX := Lib.hid hx
          have hfx := HO.out.fit x (List.mem_of_getElem? hx)
          have HBK : Hid (bkOf E S i = insE (bkOf E S (i + 1)) (reput E x)) := bkOf_step E hx
          have hbl := bkOf_len E S (i + 1)
          have HBL := Lib.hid hbl
          clear hcc he hx hbl hc2
          obtain ⟨⟨xa, xn⟩, xv⟩ := x
          obtain ⟨hfa, hfn, hfv⟩ := hfx
          dsimp only at hfa hfn hc0 hc1
          have HV := Lib.hid hfv
          obtain ⟨y, hy⟩ : ∃ y, (getE E (xa, xn)).1 = y := ⟨_, rfl⟩
          have HY : Hid (reput E ((xa, xn), xv) = ((xa, xn), y)) := by unfold Hid reput; rw [hy]
          have HGt : Hid (∀ W, TrieR W (.pointer (some ⟨gt, 0, none⟩)) E h1 → Calls Try.prog 56 #[.pointer (some ⟨gt, 0, none⟩), .agg #[.int .u32 xa, .int .i64 xn]] W fun en w' => en = .returned (.tuple #[.int .i64 y, .bool (getE E (xa, xn)).2]) ∧ Below W.heap.size W w') := fun W hT => by
            have := get_any _ E h1 W (xa, xn) hfa hfn (.inr hT) hT.lt (by omega)
            rw [hy] at this; exact this
          clear hy hfv
          go_wp2_with (first
            | (go_at_call 56; refine (HGt.out _ HT2.out.t).mono ?_; rintro e w3 ⟨rfl, hb3⟩
               have T3 := Lib.hid (HT2.out.below hb3)
               have d0 := carry hb3 hc0
               have d1 := carry hb3 hc1
               clear hb3)
            | (go_at_call 55; refine (tput_any _ (bkOf E S (i + 1)) h2 _ ((xa, xn), y) ⟨hfa, HV.out⟩ T3.out.b (by have := HBL.out; omega)).mono ?_; rintro e w4 ⟨gs4, rfl, hT4, hg4, hk4⟩
               have T4 := Lib.hid (T3.out.putB hT4 hg4 hk4)
               clear hT4 hg4 hk4))
          go_roundg i
          case measure => omega
          case rel => exact ⟨i, (i : Int) - 1, gs4, by omega, Nat.le_refl _, by omega, by go_num, by rw [HBK.out, HY.out]; exact T4.out⟩
        | zero =>
          obtain rfl : z = -1 := by omega
          have hh3 := HT2.out
          rw [bkOf_whole HO.out] at hh3
          have HT3 := Lib.hid hh3
          clear hh3
          clear hz HT2
          have HAs := Lib.hid HO.out.asc
          go_wp2_with fail
          refine (all_any _ E h1 _ (.inr HT3.out.t) (by omega)).mono ?_
          rintro e w5 ⟨v5, rfl, hr5, hb5⟩
          have T5 := Lib.hid (HT3.out.below hb5)
          have R5 := Lib.hid hr5.rd
          obtain ⟨ad5, cp5, rfl, hcc5⟩ := hr5.rd
          have HC5 := Lib.hid hcc5
          clear hr5 hb5 hcc5
          go_wp2_with fail
          go_loopg [14] E.length (fun g s14 wr => ∃ i : Nat, i ≤ E.length ∧ E.length - i ≤ g ∧ s14 = .int .i64 ((i : Int) + 1) ∧ Below w5.heap.size w5 wr)
          case atStart => exact ⟨0, by omega, by omega, by go_num, Below.refl _ _⟩
          case round =>
            obtain ⟨i, hi1, hi2, rfl, hbw⟩ := hrel
            have HB := Lib.hid hbw
            clear hbw
            by_cases hlt : i + 1 < E.length
            · obtain ⟨x, hx⟩ : ∃ x, E[i]? = some x := ⟨_, List.getElem?_eq_getElem (by omega)⟩
              obtain ⟨y, hy⟩ : ∃ y, E[i + 1]? = some y := ⟨_, List.getElem?_eq_getElem (by omega)⟩
              obtain ⟨blk, off, rfl, hblk, hc0, hc1, -⟩ := HC5.out i x hx
              obtain ⟨blk', off', he, hblk', hd0, hd1, -⟩ := HC5.out (i + 1) y hy
              obtain ⟨rfl, rfl⟩ : blk' = blk ∧ off' = off := by cases he; exact ⟨rfl, rfl⟩
              have hxy : ltP x.1 y.1 := by
                have h1 := (List.getElem?_eq_some_iff.1 hx).2
                have h2 := (List.getElem?_eq_some_iff.1 hy).2
                have := List.pairwise_iff_getElem.1 HAs.out i (i + 1) (by omega) hlt (by omega)
                rw [h1, h2] at this; exact this
              have HCm : Hid (∀ W, Calls Try.prog 57 #[.agg #[.int .u32 (x.1.1 : Nat), .int .i64 x.1.2], .agg #[.int .u32 (y.1.1 : Nat), .int .i64 y.1.2]] W fun e w' => e = .returned (.int .i64 (-1)) ∧ Below W.heap.size W w') := fun W => by
                have := rcompare_any x.1.1 x.1.2 y.1.1 y.1.2 W
                rw [cmpP_of_lt hxy] at this; exact this
              have f0 := carry' HB.out hblk hc0
              have f1 := carry' HB.out hblk hc1
              have k0 := carry' HB.out hblk hd0
              have k1 := carry' HB.out hblk hd1
              clear hc0 hc1 hd0 hd1 hx hy hxy he
              have s1 : IntKind.i64.wrap ((i : Int) + 1 - 1) = (i : Int) := by rw [show (i : Int) + 1 - 1 = i by omega]; exact IntWalk.i64_in _ (by omega)
              have s0 : IntKind.i64.wrap (i : Int) = (i : Int) := IntWalk.i64_in _ (by omega)
              have s3 : ((i : Int) + 1).toNat = i + 1 := by omega
              have s4 : (i : Int) < E.length := by omega
              have s5 : (i : Int) + 1 < E.length := by omega
              have s6 : (0 : Int) ≤ (i : Int) + 1 := by omega
              have s7 : i < E.length := by omega
              have s8 : (0 : Int) ≤ (i : Int) := by omega
              obtain ⟨⟨xa, xn⟩, xv⟩ := x
              obtain ⟨⟨ya, yn⟩, yv⟩ := y
              dsimp only at f0 f1 k0 k1
              go_wp2_with fail
              go_region_held3 (fun w' => w'.cell? ⟨blk', off' + i * 3, none⟩ = some (.int .u32 (xa : Int)) ∧ w'.cell? ⟨blk', off' + i * 3 + 1, none⟩ = some (.int .i64 xn) ∧ w'.cell? ⟨blk', off' + (i + 1) * 3, none⟩ = some (.int .u32 (ya : Int)) ∧ w'.cell? ⟨blk', off' + (i + 1) * 3 + 1, none⟩ = some (.int .i64 yn))
                (first | exact ⟨f0, f1, k0, k1⟩ | assumption)
                (first | (go_at_call 57; refine (HCm.out _).mono ?_; rintro e w6 ⟨rfl, hb6⟩; have hk := And.intro (carry hb6 f0) (And.intro (carry hb6 f1) (And.intro (carry hb6 k0) (carry hb6 k1))); have B6 : Hid (Below w5.heap.size w5 w6) := HB.out.trans ((below_drewN (Below.refl _ _) 1 |>.trans hb6).mono HB.out.size); clear hb6))
              all_goals clear hk s0 s1 s3 s4 s5 s6 s7 s8
              all_goals go_wp2
              all_goals go_roundg (E.length - (i + 1))
              all_goals first
                | omega
                | exact ⟨i + 1, by omega, Nat.le_refl _, by go_num, B6.out⟩
            · have s5 : (E.length : Int) ≤ (i : Int) + 1 := by omega
              have T6 := Lib.hid (T5.out.below (HB.out.mono (Nat.le_refl _)))
              have HR6 := Lib.hid (R5.out.below HB.out)
              go_wp2_with fail
              refine (awake6_any _).mono ?_
              rintro e w7 ⟨rfl, hb7⟩
              have T7 := Lib.hid (T6.out.below hb7)
              have R7 := Lib.hid (HR6.out.below hb7)
              clear hb7
              go_wp2_with fail
              refine (all_any _ E h2 _ (.inr T7.out.b) (by omega)).mono ?_
              rintro e w8 ⟨v8, rfl, hr8, hb8⟩
              have T8 := Lib.hid (T7.out.below hb8)
              have R8 := Lib.hid (R7.out.below hb8)
              have Q8 := Lib.hid hr8.rd
              obtain ⟨ad8, cp8, rfl⟩ := rdE_slice hr8.rd
              clear hb8 hr8
              go_wp2_with fail
              refine (same_any E _ _ _ (by omega) R8.out Q8.out).mono ?_
              rintro e w9 ⟨rfl, hb9⟩
              have T9 := Lib.hid (T8.out.below hb9)
              have hse : ((E.length : Int) == (S.length : Int)) = true := by have := HSE.out; simp; omega
              have hse2 : E.length = S.length := HSE.out.symm
              clear hb9
              go_wp2
              go_ret
              exact ⟨rfl, T9.out.bel⟩
end Go.Proofs.Ytkelfjgjgjdinaa
