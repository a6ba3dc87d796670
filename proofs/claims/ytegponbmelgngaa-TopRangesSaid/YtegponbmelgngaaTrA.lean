/-
  The walk of the law that lays the prefixes of a range into a trie.
-/
import Derived.Test.YtegponbmelgngaaCvA
import Derived.Test.YtegponbmelgngaaTrMath
import Derived.Deep.LoopGhost
import Derived.Deep.DeepCutAuto
namespace Go.Proofs.Ytegponbmelgngaa
open Go.RowKit
set_option linter.unusedSimpArgs false
set_option linter.unusedVariables false
set_option maxHeartbeats 4000000
set_option maxRecDepth 100000

theorem lives03_any (w : World) : Calls Try.prog 45 #[] w fun e w' => e = .returned (.bool true) ∧ Below w.heap.size w w' := by
  have HR : Hid (Calls Try.prog 33 #[.int .u32 167772161, .int .u32 167772166] w fun e w' => ∃ ad cap b off, e = .returned (.tuple #[.slice ad 4 cap, .int .i64 0]) ∧ ad = some ⟨b, off, none⟩ ∧ w'.cell? ⟨b, off + 2, none⟩ = some (.int .u32 167772162) ∧ w'.cell? ⟨b, off + 2 + 1, none⟩ = some (.int .i64 31) ∧ Below w.heap.size w w') := by
    refine (range_any 167772161 167772166 (by decide) (by decide) w (by decide)).mono ?_
    rintro e w' ⟨v, B, rfl, hB, ⟨ad, cap, rfl, hc⟩, hb⟩
    rw [hB.unique ex_range] at hc ⊢
    obtain ⟨b, off, e, _, h0, h1⟩ := hc 1 (167772162, 31) rfl
    exact ⟨ad, cap, b, off, rfl, e, h0, h1, hb⟩
  go_enter Try.func45, Try.ntmps45
  go_wp2_with (go_at_call 33; refine HR.out.mono ?_; rintro e w1 ⟨ad, cap, b, off, rfl, rfl, h0, h1, hb⟩; have HB := Lib.hid hb; clear hb)
  go_ret
  exact ⟨rfl, HB.out⟩
theorem tr_bad (f l a : Nat) (hf : f < 4294967296) (hl : l < 4294967296) (w : World) (h : l < f) :
    Calls Try.prog 9 #[.int .u32 (f : Int), .int .u32 (l : Int), .int .u32 (a : Int)] w fun e w' => e = .returned (.bool true) ∧ Below w.heap.size w w' := by
  go_enter Try.func9, Try.ntmps9
  go_wp2_with (go_at_call 33; refine (range_bad f l hf hl _ h).mono ?_; rintro e w1 ⟨rfl, hb⟩; have HB := Lib.hid hb; clear hb)
  go_ret
  exact ⟨rfl, HB.out⟩
theorem nrm_ne {S : Nat → Bool} {B : List (Nat × Nat)} (h : CM.Nrm S B) {y : Nat} (hy : S y = true) : 0 < B.length := by
  obtain ⟨x, hx, _⟩ := h.all y hy
  exact List.length_pos_of_mem hx
theorem carryP {B : Nat} {W w1 : World} {b o : Nat} {v : Value} (hb : Below B W w1) (hlt : b < B) (h : W.cell? ⟨b, o, none⟩ = some v) : w1.cell? ⟨b, o, none⟩ = some v := (hb.cell (p := ⟨b, o, none⟩) hlt).trans h
theorem tr_keep {w W W1 : World} {p0 p1 p2 p3 p4 : Addr} {c0 c1 c2 c3 c4 : Value} (h : W.cell? p0 = some c0 ∧ W.cell? p1 = some c1 ∧ W.cell? p2 = some c2 ∧ W.cell? p3 = some c3 ∧ W.cell? p4 = some c4 ∧ Below w.heap.size w W) (hb : Below W.heap.size W W1) :
    W1.cell? p0 = some c0 ∧ W1.cell? p1 = some c1 ∧ W1.cell? p2 = some c2 ∧ W1.cell? p3 = some c3 ∧ W1.cell? p4 = some c4 ∧ Below w.heap.size w W1 :=
  ⟨carry hb h.1, carry hb h.2.1, carry hb h.2.2.1, carry hb h.2.2.2.1, carry hb h.2.2.2.2.1, below_then h.2.2.2.2.2 hb⟩
theorem tr_good (f l a : Nat) (hf : f < 4294967296) (hl : l < 4294967296) (ha : a < 4294967296) (w : World) (h : f ≤ l) :
    Calls Try.prog 9 #[.int .u32 (f : Int), .int .u32 (l : Int), .int .u32 (a : Int)] w fun e w' => e = .returned (.bool true) ∧ Below w.heap.size w w' := by
  go_enter Try.func9, Try.ntmps9
  go_wp2_with fail
  go_at_call 33
  refine (range_any f l hf hl _ h).mono ?_
  rintro e w1 ⟨v, B, rfl, hB, hr, hb⟩
  have B1 := Lib.hid hb
  have HN := Lib.hid hB
  have h62 := CM.range_len hB (f := f) (h := l + 1) (by omega) (fun y => (rngS_iff f l y).trans (by omega))
  have hpos := nrm_ne hB (y := f) ((rngS_iff _ _ _).2 ⟨Nat.le_refl _, h⟩)
  have hfit := Lib.hid (fit_pfx hB (rngS_lt hl))
  obtain ⟨N, hN⟩ : ∃ N, N = (B.map pfx).length := ⟨_, rfl⟩
  have hNB : N = B.length := by rw [hN, List.length_map]
  have HNl := Lib.hid hN
  rw [← hNB] at h62 hpos
  obtain ⟨ad, cap, rfl, hc⟩ := hr
  rw [← hN]
  have HC := Lib.hid hc
  clear hb hB hc hN hNB
  go_wp2_with (go_at_call 41; refine (new_any _).mono ?_; rintro e w2 ⟨t, gs0, rfl, hT, hg, hb⟩; have T2 := Lib.hid hT; have G2 := Lib.hid hg; have B2 := Lib.hid hb; obtain ⟨gt, rfl, -⟩ := hT.ptr; clear hT hg hb)
  go_loopg [28, 10] N (fun g s28 s10 wr => ∃ (k : Nat) (gs : List Nat), k ≤ N ∧ N - k ≤ g ∧ s28 = .int .i64 k ∧ TrieR wr (.pointer (some ⟨gt, 0, none⟩)) (rowE ((B.map pfx).take k)) gs ∧ (∀ g ∈ gs, w1.heap.size ≤ g) ∧ Below w1.heap.size w1 wr)
  case atStart => exact ⟨0, gs0, by omega, by omega, rfl, T2.out, G2.out, B2.out⟩
  case round =>
    obtain ⟨k, gs, hk, hg, rfl, hT, hgs, hbw⟩ := hrel
    have HT := Lib.hid hT
    have HG := Lib.hid hgs
    have HB := Lib.hid hbw
    clear hT hgs hbw
    by_cases hlt : k < N
    · obtain ⟨x, hx⟩ : ∃ x, (B.map pfx)[k]? = some x := ⟨_, List.getElem?_eq_getElem (by rw [← HNl.out]; exact hlt)⟩
      obtain ⟨blk, off, rfl, hblk, hc0, hc1⟩ := HC.out k x hx
      have HX := Lib.hid hx
      have hm := List.mem_of_getElem? hx
      have PVx : Hid (PV x) := ⟨hfit.out x hm, valid_pfx HN.out x hm⟩
      have f0 := carryP HB.out hblk hc0
      have f1 := carryP HB.out hblk hc1
      have hle : (rowE ((B.map pfx).take k)).length ≤ 1000 := by rw [rowE_len]; have := List.length_take_le k (B.map pfx); omega
      have HLE := Lib.hid hle
      have hins : Hid (insE (rowE ((B.map pfx).take k)) (x, (k : Int)) = rowE ((B.map pfx).take (k + 1))) := by
        show _ = _
        rw [rowE_snoc hx]
        refine ins_last ?_
        rw [← rowE_snoc hx]
        exact rowE_asc ((asc_pfx HN.out).sublist (List.take_sublist _ _))
      clear hc0 hc1 hx hm hle
      obtain ⟨xa, xn⟩ := x
      dsimp only at f0 f1
      go_wp2_with (go_at_call 42; refine (tput_any _ _ gs _ ((xa, xn), (k : Int)) PVx.out HT.out HLE.out).mono ?_; rintro e w3 ⟨gs1, rfl, hT3, hg3, hk3⟩; have T3 := Lib.hid hT3; have G3 := Lib.hid hg3; have K3 := Lib.hid hk3; clear hT3 hg3 hk3)
      go_roundg (N - (k + 1))
      case measure => omega
      case rel =>
        refine ⟨k + 1, gs1, by omega, Nat.le_refl _, by go_num, ?_, fun g hg => ?_, ?_⟩
        · rw [← hins.out]; exact T3.out
        · rcases G3.out g hg with h | h
          · exact HG.out g h
          · have := HB.out.size; omega
        · exact HB.out.trans (K3.out.below HB.out.size HG.out)
    · have hkl : k = N := by omega
      subst hkl
      have hT0 : TrieR wr (.pointer (some ⟨gt, 0, none⟩)) (rowE (B.map pfx)) gs := by have := HT.out; rwa [HNl.out, List.take_length] at this
      have hlen : (rowE (B.map pfx)).length = k := by rw [rowE_len]; exact HNl.out.symm
      have HT1 : Hid (∀ W, Below wr.heap.size wr W → Calls Try.prog 44 #[.pointer (some ⟨gt, 0, none⟩)] W fun en w' => en = .returned (.int .i64 (k : Nat)) ∧ W = w') := fun W hW => by
        have := len_any _ _ gs W (.inr (hT0.below hW)); rw [hlen] at this; exact this
      have HLk := Lib.hid (lookup_any _ _ gs wr a ha (.inr hT0) hT0.lt (by omega))
      rw [row_upon HN.out] at HLk
      clear hT0 hlen
      by_cases hS : rngS f l a = true
      · obtain ⟨i, hi1, hi2⟩ := row_last HN.out hS
        obtain ⟨⟨⟨xa, xn⟩, xv⟩, hX⟩ : ∃ X, lastOf ((rowE (B.map pfx)).filter (fun x => C x.1 (a, 32))) = X := ⟨_, rfl⟩
        rw [hX] at hi1 hi2 HLk
        rw [hS] at HLk
        dsimp only at hi1 hi2
        subst hi1
        unfold entV at HLk
        have hik : i < k := by have := (List.getElem?_eq_some_iff.1 hi2).1; rw [HNl.out]; exact this
        obtain ⟨blk, off, rfl, hblk, hc0, hc1⟩ := HC.out i _ hi2
        have f0 := carryP HB.out hblk hc0
        have f1 := carryP HB.out hblk hc1
        have hab := (rngS_iff _ _ _).1 hS
        have hb1 := hab.1
        have hb2 := hab.2
        clear hc0 hc1 hX hi2 hS hab
        go_wp2_with (first
          | (go_at_call 43; refine HLk.out.mono ?_; rintro e w4 ⟨rfl, hb⟩; have B4 := Lib.hid hb; have k0 := carry hb f0; have k1 := carry hb f1; clear hb)
          | (go_at_call 44; refine (HT1.out _ (below_then B4.out (below_alloc _ _))).mono ?_; rintro e w5 ⟨rfl, rfl⟩))
        have s0 : (w4.alloc (.cells #[.int .u32 (xa : Int), .int .i64 xn, .int .i64 (i : Int)] 51)).drew.cell? ⟨w4.heap.size, 0, none⟩ = some (.int .u32 (xa : Int)) := by simp
        have s1 : (w4.alloc (.cells #[.int .u32 (xa : Int), .int .i64 xn, .int .i64 (i : Int)] 51)).drew.cell? ⟨w4.heap.size, 1, none⟩ = some (.int .i64 xn) := by simp
        have s2 : (w4.alloc (.cells #[.int .u32 (xa : Int), .int .i64 xn, .int .i64 (i : Int)] 51)).drew.cell? ⟨w4.heap.size, 2, none⟩ = some (.int .i64 (i : Int)) := by simp
        have s3 : (w4.alloc (.cells #[.int .u32 (xa : Int), .int .i64 xn, .int .i64 (i : Int)] 51)).drew.cell? ⟨blk, off + i * 2, none⟩ = some (.int .u32 (xa : Int)) := carry (below_alloc _ _) k0
        have s4 : (w4.alloc (.cells #[.int .u32 (xa : Int), .int .i64 xn, .int .i64 (i : Int)] 51)).drew.cell? ⟨blk, off + i * 2 + 1, none⟩ = some (.int .i64 xn) := carry (below_alloc _ _) k1
        have s5 : Below w.heap.size w (w4.alloc (.cells #[.int .u32 (xa : Int), .int .i64 xn, .int .i64 (i : Int)] 51)).drew := (below_then (below_then (below_then B1.out HB.out) B4.out) (below_alloc _ _)).drew
        have S5 := Lib.hid s5
        clear k0 k1 s5
        go_region_held3 (fun W => W.cell? ⟨w4.heap.size, 0, none⟩ = some (.int .u32 (xa : Int)) ∧ W.cell? ⟨w4.heap.size, 1, none⟩ = some (.int .i64 xn) ∧ W.cell? ⟨w4.heap.size, 2, none⟩ = some (.int .i64 (i : Int)) ∧ W.cell? ⟨blk, off + i * 2, none⟩ = some (.int .u32 (xa : Int)) ∧ W.cell? ⟨blk, off + i * 2 + 1, none⟩ = some (.int .i64 xn) ∧ Below w.heap.size w W)
          (first | exact ⟨s0, s1, s2, s3, s4, S5.out⟩ | assumption)
          (first | (go_at_call 45; refine (lives03_any _).mono ?_; rintro e w6 ⟨rfl, hb⟩; have hk6 := tr_keep ‹_› hb; clear hb))
        all_goals go_wp2
        all_goals go_ret
        all_goals exact ⟨rfl, hk6.2.2.2.2.2⟩
      · have hS' : rngS f l a = false := Bool.eq_false_iff.2 hS
        obtain ⟨⟨⟨xa, xn⟩, xv⟩, hX⟩ : ∃ X, lastOf ((rowE (B.map pfx)).filter (fun x => C x.1 (a, 32))) = X := ⟨_, rfl⟩
        rw [hX, hS'] at HLk
        unfold entV at HLk
        have hab : a < f ∨ l < a := by
          rcases (by omega : a < f ∨ l < a ∨ (f ≤ a ∧ a ≤ l)) with h | h | h
          · exact .inl h
          · exact .inr h
          · exact absurd ((rngS_iff _ _ _).2 h) hS
        have HL3 : Hid (∀ W, Calls Try.prog 45 #[] W fun e w' => e = .returned (.bool true) ∧ Below W.heap.size W w') := fun W => lives03_any W
        clear hS hS' hX
        rcases (show a < f ∨ (f ≤ a ∧ decide (a ≤ l) = false) by
          rcases (by omega : a < f ∨ (f ≤ a ∧ l < a)) with h | h
          · exact .inl h
          · exact .inr ⟨h.1, by simpa using h.2⟩) with h1 | ⟨h0, h1⟩
        all_goals
          clear hab
          go_wp2_with (first
            | (go_at_call 43; refine HLk.out.mono ?_; rintro e w4 ⟨rfl, hb⟩; have B4 := Lib.hid hb; clear hb)
            | (go_at_call 44; refine (HT1.out _ (below_then B4.out (below_alloc _ _))).mono ?_; rintro e w5 ⟨rfl, rfl⟩))
          have S5 := Lib.hid (below_then (below_then (below_then B1.out HB.out) B4.out) (below_alloc _ (.cells #[.int .u32 (xa : Int), .int .i64 xn, .int .i64 xv] 51))).drew
          refine wp_region_held_drew (S := fun W => Below w.heap.size w W) (by kernel_rfl) S5.out (fun hS0 => ?_)
          refine wpAnyH_take (i := 0) (oi := ⟨some 68, _, _, _, _, _⟩) (v := .bool false) rfl (by kernel_rfl) (by kernel_rfl) (by kernel_rfl) (fun _ _ _ h => h) (Or.inl ⟨by rfl, by intro w' hw'; (try dsimp only at hw'); go_simp⟩) hS0 ?_
          simp only [Act.put, List.setIfInBounds_toArray, List.set_cons_zero, List.set_cons_succ]
          refine wpAnyH_take (i := 1) (oi := ⟨some 69, _, _, _, _, _⟩) (v := .bool true) rfl (by kernel_rfl) (by kernel_rfl) (by kernel_rfl) (fun _ _ _ h => h) (Or.inl ⟨by rfl, by intro w' hw'; (try dsimp only at hw'); go_simp⟩) hS0 ?_
          simp only [Act.put, List.setIfInBounds_toArray, List.set_cons_zero, List.set_cons_succ]
          refine wpAnyH_take (i := 2) (oi := ⟨some 70, _, _, _, _, _⟩) (v := .bool true) rfl (by kernel_rfl) (by kernel_rfl) (by kernel_rfl) (fun _ _ _ h => h) (Or.inl ⟨by rfl, by intro w' hw'; (try dsimp only at hw'); go_simp⟩) hS0 ?_
          simp only [Act.put, List.setIfInBounds_toArray, List.set_cons_zero, List.set_cons_succ]
          refine wpAnyH_take (i := 3) (oi := ⟨some 71, _, _, _, _, _⟩) (v := undef) rfl (by kernel_rfl) (by kernel_rfl) (by kernel_rfl) (fun _ _ _ h => h) (Or.inr ⟨by rfl, rfl⟩) hS0 ?_
          (try simp only [Act.put, List.setIfInBounds_toArray, List.set_cons_zero, List.set_cons_succ])
          refine wpAnyH_take (i := 4) (oi := ⟨some 72, _, _, _, _, _⟩) (v := undef) rfl (by kernel_rfl) (by kernel_rfl) (by kernel_rfl) (fun _ _ _ h => h) (Or.inr ⟨by rfl, rfl⟩) hS0 ?_
          (try simp only [Act.put, List.setIfInBounds_toArray, List.set_cons_zero, List.set_cons_succ])
          refine wpAnyH_take (i := 5) (oi := ⟨some 73, _, _, _, _, _⟩) (v := undef) rfl (by kernel_rfl) (by kernel_rfl) (by kernel_rfl) (fun _ _ _ h => h) (Or.inr ⟨by rfl, rfl⟩) hS0 ?_
          (try simp only [Act.put, List.setIfInBounds_toArray, List.set_cons_zero, List.set_cons_succ])
          refine wpAnyH_take (i := 6) (oi := ⟨some 74, _, _, _, _, _⟩) (v := undef) rfl (by kernel_rfl) (by kernel_rfl) (by kernel_rfl) (fun _ _ _ h => h) (Or.inr ⟨by rfl, rfl⟩) hS0 ?_
          (try simp only [Act.put, List.setIfInBounds_toArray, List.set_cons_zero, List.set_cons_succ])
          refine wpAnyH_take (i := 7) (oi := ⟨some 75, _, _, _, _, _⟩) (v := undef) rfl (by kernel_rfl) (by kernel_rfl) (by kernel_rfl) (fun _ _ _ h => h) (Or.inr ⟨by rfl, rfl⟩) hS0 ?_
          (try simp only [Act.put, List.setIfInBounds_toArray, List.set_cons_zero, List.set_cons_succ])
          refine wpAnyH_take (i := 8) (oi := ⟨some 76, _, _, _, _, _⟩) (v := undef) rfl (by kernel_rfl) (by kernel_rfl) (by kernel_rfl) (fun _ _ _ h => h) (Or.inr ⟨by rfl, rfl⟩) hS0 ?_
          (try simp only [Act.put, List.setIfInBounds_toArray, List.set_cons_zero, List.set_cons_succ])
          refine wpAnyH_take (i := 9) (oi := ⟨some 77, _, _, _, _, _⟩) (v := undef) rfl (by kernel_rfl) (by kernel_rfl) (by kernel_rfl) (fun _ _ _ h => h) (Or.inr ⟨by rfl, rfl⟩) hS0 ?_
          (try simp only [Act.put, List.setIfInBounds_toArray, List.set_cons_zero, List.set_cons_succ])
          refine wpAnyH_take (i := 10) (oi := ⟨some 78, _, _, _, _, _⟩) (v := undef) rfl (by kernel_rfl) (by kernel_rfl) (by kernel_rfl) (fun _ _ _ h => h) (Or.inr ⟨by rfl, rfl⟩) hS0 ?_
          (try simp only [Act.put, List.setIfInBounds_toArray, List.set_cons_zero, List.set_cons_succ])
          refine wpAnyH_take (i := 11) (oi := ⟨some 79, _, _, _, _, _⟩) (v := undef) rfl (by kernel_rfl) (by kernel_rfl) (by kernel_rfl) (fun _ _ _ h => h) (Or.inr ⟨by rfl, rfl⟩) hS0 ?_
          (try simp only [Act.put, List.setIfInBounds_toArray, List.set_cons_zero, List.set_cons_succ])
          refine wpAnyH_take (i := 12) (oi := ⟨some 80, _, _, _, _, _⟩) (v := undef) rfl (by kernel_rfl) (by kernel_rfl) (by kernel_rfl) (fun _ _ _ h => h) (Or.inr ⟨by rfl, rfl⟩) hS0 ?_
          (try simp only [Act.put, List.setIfInBounds_toArray, List.set_cons_zero, List.set_cons_succ])
          refine wpAnyH_take (i := 13) (oi := ⟨some 81, _, _, _, _, _⟩) (v := undef) rfl (by kernel_rfl) (by kernel_rfl) (by kernel_rfl) (fun _ _ _ h => h) (Or.inr ⟨by rfl, rfl⟩) hS0 ?_
          (try simp only [Act.put, List.setIfInBounds_toArray, List.set_cons_zero, List.set_cons_succ])
          refine wpAnyH_take (i := 14) (oi := ⟨some 82, _, _, _, _, _⟩) (v := undef) rfl (by kernel_rfl) (by kernel_rfl) (by kernel_rfl) (fun _ _ _ h => h) (Or.inr ⟨by rfl, rfl⟩) hS0 ?_
          (try simp only [Act.put, List.setIfInBounds_toArray, List.set_cons_zero, List.set_cons_succ])
          refine wpAnyH_take (i := 15) (oi := ⟨some 83, _, _, _, _, _⟩) (v := undef) rfl (by kernel_rfl) (by kernel_rfl) (by kernel_rfl) (fun _ _ _ h => h) (Or.inr ⟨by rfl, rfl⟩) hS0 ?_
          (try simp only [Act.put, List.setIfInBounds_toArray, List.set_cons_zero, List.set_cons_succ])
          refine wpAnyH_take (i := 16) (oi := ⟨some 84, _, _, _, _, _⟩) (v := undef) rfl (by kernel_rfl) (by kernel_rfl) (by kernel_rfl) (fun _ _ _ h => h) (Or.inr ⟨by rfl, rfl⟩) hS0 ?_
          (try simp only [Act.put, List.setIfInBounds_toArray, List.set_cons_zero, List.set_cons_succ])
          refine wpAnyH_take (i := 17) (oi := ⟨some 85, _, _, _, _, _⟩) (v := undef) rfl (by kernel_rfl) (by kernel_rfl) (by kernel_rfl) (fun _ _ _ h => h) (Or.inr ⟨by rfl, rfl⟩) hS0 ?_
          (try simp only [Act.put, List.setIfInBounds_toArray, List.set_cons_zero, List.set_cons_succ])
          refine wpAnyH_take (i := 18) (oi := ⟨some 86, _, _, _, _, _⟩) (v := undef) rfl (by kernel_rfl) (by kernel_rfl) (by kernel_rfl) (fun _ _ _ h => h) (Or.inr ⟨by rfl, rfl⟩) hS0 ?_
          (try simp only [Act.put, List.setIfInBounds_toArray, List.set_cons_zero, List.set_cons_succ])
          refine wpAnyH_take (i := 19) (oi := ⟨some 87, _, _, _, _, _⟩) (v := undef) rfl (by kernel_rfl) (by kernel_rfl) (by kernel_rfl) (fun _ _ _ h => h) (Or.inr ⟨by rfl, rfl⟩) hS0 ?_
          (try simp only [Act.put, List.setIfInBounds_toArray, List.set_cons_zero, List.set_cons_succ])
          refine wpAnyH_take (i := 20) (oi := ⟨some 88, _, _, _, _, _⟩) (v := undef) rfl (by kernel_rfl) (by kernel_rfl) (by kernel_rfl) (fun _ _ _ h => h) (Or.inr ⟨by rfl, rfl⟩) hS0 ?_
          (try simp only [Act.put, List.setIfInBounds_toArray, List.set_cons_zero, List.set_cons_succ])
          refine wpAnyH_take (i := 21) (oi := ⟨some 89, _, _, _, _, _⟩) (v := undef) rfl (by kernel_rfl) (by kernel_rfl) (by kernel_rfl) (fun _ _ _ h => h) (Or.inr ⟨by rfl, rfl⟩) hS0 ?_
          (try simp only [Act.put, List.setIfInBounds_toArray, List.set_cons_zero, List.set_cons_succ])
          refine wpAnyH_take (i := 22) (oi := ⟨some 90, _, _, _, _, _⟩) (v := undef) rfl (by kernel_rfl) (by kernel_rfl) (by kernel_rfl) (fun _ _ _ h => h) (Or.inr ⟨by rfl, rfl⟩) hS0 ?_
          (try simp only [Act.put, List.setIfInBounds_toArray, List.set_cons_zero, List.set_cons_succ])
          refine wpAnyH_take (i := 23) (oi := ⟨some 91, _, _, _, _, _⟩) (v := .bool true) rfl (by kernel_rfl) (by kernel_rfl) (by kernel_rfl) (fun _ _ _ h => h) (Or.inl ⟨by rfl, by intro w' hw'; (try dsimp only at hw'); go_simp⟩) hS0 ?_
          simp only [Act.put, List.setIfInBounds_toArray, List.set_cons_zero, List.set_cons_succ]
          refine wpAnyH_take (i := 24) (oi := ⟨some 92, _, _, _, _, _⟩) (v := .bool true) rfl (by kernel_rfl) (by kernel_rfl) (by kernel_rfl) (fun _ _ _ h => h) (Or.inl ⟨by rfl, by intro w' hw'; (try dsimp only at hw'); go_simp⟩) hS0 ?_
          simp only [Act.put, List.setIfInBounds_toArray, List.set_cons_zero, List.set_cons_succ]
          refine wpAnyH_ready (rs := [25]) (by kernel_rfl) (by simp) ?_
          refine AllReadyH.cons rfl (fun K hK => ?_) AllReadyH.nil
          go_simp
          go_at_call 45
          refine (HL3.out _).mono ?_
          rintro e w6 ⟨rfl, hb⟩
          have hS1 := below_then hS0 hb
          go_wp2_with fail
          refine hK.out _ _ hS1 (fun _ => ?_)
          clear hK K
          (try simp only [Act.put, List.setIfInBounds_toArray, List.set_cons_zero, List.set_cons_succ])
          refine wpAnyH_take (i := 26) (oi := ⟨some 94, _, _, _, _, _⟩) (v := .bool true) rfl (by kernel_rfl) (by kernel_rfl) (by kernel_rfl) (fun _ _ _ h => h) (Or.inl ⟨by rfl, by intro w' hw'; (try dsimp only at hw'); go_simp⟩) hS1 ?_
          simp only [Act.put, List.setIfInBounds_toArray, List.set_cons_zero, List.set_cons_succ]
          refine wpAnyH_take (i := 27) (oi := ⟨some 6, _, _, _, _, _⟩) (v := .bool true) rfl (by kernel_rfl) (by kernel_rfl) (by kernel_rfl) (fun _ _ _ h => h) (Or.inl ⟨by rfl, by intro w' hw'; (try dsimp only at hw'); go_simp⟩) hS1 ?_
          simp only [Act.put, List.setIfInBounds_toArray, List.set_cons_zero, List.set_cons_succ]
          refine wpAnyH_done (by kernel_rfl) ?_ _
          go_wp2
          go_ret
          exact ⟨rfl, hS1⟩
end Go.Proofs.Ytegponbmelgngaa
