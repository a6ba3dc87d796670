/-
  The walk of the reference's Of, and of the law TrieOf.
-/
import Derived.Test.YtkelfjgjgjdinaaTxD
namespace Go.Proofs.Ytkelfjgjgjdinaa
open Go.RowKit
set_option linter.unusedSimpArgs false
set_option linter.unusedVariables false
set_option maxHeartbeats 2000000
set_option maxRecDepth 100000

def ROfPost (w : World) (l : List En) : Ending → World → Prop := fun en w' =>
  if allV l = true then ∃ g rv, en = .returned (.tuple #[.pointer (some ⟨g, 0, none⟩), .int .i64 0]) ∧ RefR w' g rv (foldE l) ∧ w.heap.size ≤ g ∧ Below w.heap.size w w'
  else en = .returned (.tuple #[.pointer none, .int .i64 1]) ∧ Below w.heap.size w w'
theorem rof_any (l : List En) (v : Value) (w : World) (hl : l.length ≤ 900) (hf : Fit l) (hr : RdE w v l) :
    Calls Try.prog 51 #[v] w (ROfPost w l) := by
  obtain ⟨ad, cap, rfl, hc⟩ := hr
  have HC : Hid (∀ k x, l[k]? = some x → ∃ b off, ad = some ⟨b, off, none⟩ ∧ b < w.heap.size ∧ w.cell? ⟨b, off + k * 3, none⟩ = some (.int .u32 (x.1.1 : Int)) ∧ w.cell? ⟨b, off + k * 3 + 1, none⟩ = some (.int .i64 x.1.2) ∧ w.cell? ⟨b, off + k * 3 + 2, none⟩ = some (.int .i64 x.2)) := hc
  have HF := Lib.hid hf
  clear hc hf
  go_enter Try.func51, Try.ntmps51
  go_wp2_with (go_at_call 43; refine (rnew_any _).mono ?_; rintro e w0 ⟨gt, rfl, hT0, hgs0, hb0⟩; have T0 := Lib.hid hT0; have G0 : Hid (w.heap.size ≤ gt) := hgs0; have B0 := Lib.hid hb0; clear hT0 hgs0 hb0)
  go_loopg [12] l.length (fun g s12 wr => ∃ (k : Nat) (rv : Value), k ≤ l.length ∧ l.length - k ≤ g ∧ s12 = .int .i64 k ∧ allV (l.take k) = true ∧ RefR wr gt rv (foldE (l.take k)) ∧ Below w.heap.size w wr)
  case atStart => exact ⟨0, _, by omega, by omega, rfl, rfl, T0.out, B0.out⟩
  case round =>
    obtain ⟨k, rv, hk, hg, rfl, hV, hT, hbw⟩ := hrel
    have HT := Lib.hid hT
    have HB := Lib.hid hbw
    have HV := Lib.hid hV
    have HL := Lib.hid (foldE_take_len l k)
    clear hT hbw hV
    by_cases hlt : k < l.length
    · obtain ⟨x, hx⟩ : ∃ x, l[k]? = some x := ⟨_, List.getElem?_eq_getElem hlt⟩
      obtain ⟨blk, off, rfl, hblk, hc0, hc1, hc2⟩ := HC.out k x hx
      have HX := Lib.hid hx
      have hfx := HF.out x (List.mem_of_getElem? hx)
      have f0 := carry' HB.out hblk hc0
      have f1 := carry' HB.out hblk hc1
      have f2 := carry' HB.out hblk hc2
      have HM : Hid (allV l = true → V x.1 = true) := fun h => List.all_eq_true.1 h x (List.mem_of_getElem? hx)
      clear hc0 hc1 hc2 hx
      obtain ⟨⟨a, n⟩, y⟩ := x
      obtain ⟨hfa, hfn⟩ := hfx
      dsimp only at hfa hfn f0 f1 f2
      cases hv : V (a, n)
      · have HVF := Lib.hid hv
        clear hv
        go_wp2_with (go_at_call 81; refine (rput_bad gt (a, n) hfa hfn y HVF.out _).mono ?_; rintro e w1 ⟨rfl, hb1⟩; have B1 := Lib.hid hb1; clear hb1)
        go_ret2
        have hno : ¬ allV l = true := fun h => by have := HM.out h; rw [HVF.out] at this; cases this
        unfold ROfPost
        rw [if_neg hno]
        exact ⟨rfl, below_then (below_then HB.out (below_alloc _ _)) B1.out⟩
      · have HVF := Lib.hid hv
        clear hv
        go_wp2_with (go_at_call 81; refine (rput_go gt rv (foldE (l.take k)) _ a n y ⟨hfa, HVF.out⟩ hfn (HT.out.below (below_alloc _ _)) (foldE_asc _) (by have := HL.out; omega)).mono ?_; rintro e w1 ⟨rfl, rv1, hT1, hg1, hk1⟩; have T1 := Lib.hid hT1; have K1 := Lib.hid hk1; clear hT1 hg1 hk1)
        go_roundg (l.length - (k + 1))
        case measure => omega
        case rel =>
          refine ⟨k + 1, rv1, by omega, Nat.le_refl _, by go_num, ?_, ?_, ?_⟩
          · rw [take_snoc HX.out]; unfold allV; rw [List.all_append]; have := HV.out; unfold allV at this; rw [this]; simp; exact HVF.out
          · rw [take_snoc HX.out, foldE_snoc]; exact T1.out
          · exact (HB.out.alloc HB.out.size _).trans (K1.out.below (by have := HB.out.size; simp; omega) (fun k hk => by simp at hk; subst hk; exact G0.out))
    · have hkl : k = l.length := by omega
      subst hkl
      go_wp2
      go_ret2
      have hv := HV.out
      have ht := HT.out
      rw [List.take_length] at hv ht
      unfold ROfPost
      rw [if_pos hv]
      exact ⟨gt, rv, rfl, ht, G0.out, HB.out⟩
theorem tof_walk (l : List En) (v : Value) (w : World) (hr : RdE w v l) (hf : Fit l) :
    Calls Try.prog 10 #[v] w fun e w' => e = .returned (.bool true) ∧ Below w.heap.size w w' := by
  by_cases hl : 120 < l.length
  · obtain ⟨ad, cap, rfl, _⟩ := hr
    go_enter Try.func10, Try.ntmps10
    go_wp2_with (go_at_call 41; refine (awake6_any _).mono ?_; rintro e w1 ⟨rfl, hb⟩)
    go_ret
    exact ⟨rfl, hb⟩
  · have HO := Lib.hid (of_any l v w (by omega) hf hr)
    have HR : Hid (∀ W, Below w.heap.size w W → Calls Try.prog 51 #[v] W (ROfPost W l)) := fun W hW => rof_any l v W (by omega) hf (hr.below hW)
    have hlen : (foldE l).length ≤ 120 := by have := foldE_take_len l l.length; rw [List.take_length] at this; exact Nat.le_trans this (by omega)
    have HLen := Lib.hid hlen
    obtain ⟨ad, cap, rfl, _⟩ := hr
    clear hf hlen
    cases hV : allV l
    · have HO2 : Hid (Calls Try.prog 50 #[.slice ad l.length cap] w fun en w' => en = .returned (.tuple #[.pointer none, .int .i64 1]) ∧ Below w.heap.size w w') := HO.out.mono fun en w' h => by unfold OfPost at h; rw [if_neg (by rw [hV]; decide)] at h; exact h
      have HR2 : Hid (∀ W, Below w.heap.size w W → Calls Try.prog 51 #[.slice ad l.length cap] W fun en w' => en = .returned (.tuple #[.pointer none, .int .i64 1]) ∧ Below W.heap.size W w') := fun W hW => (HR.out W hW).mono fun en w' h => by unfold ROfPost at h; rw [if_neg (by rw [hV]; decide)] at h; exact h
      clear HO HR hV
      go_enter Try.func10, Try.ntmps10
      go_wp2_with (first
        | (go_at_call 50; refine HO2.out.mono ?_; rintro e w1 ⟨rfl, hb1⟩; have B1 := Lib.hid hb1; clear hb1)
        | (go_at_call 51; refine (HR2.out _ B1.out).mono ?_; rintro e w2 ⟨rfl, hb2⟩; have B2 := Lib.hid (below_then B1.out hb2); clear hb2)
        | (go_at_call 41; refine (awake6_any _).mono ?_; rintro e w3 ⟨rfl, hb3⟩; have B3 := Lib.hid (below_then B2.out hb3); clear hb3))
      go_ret
      exact ⟨rfl, B3.out⟩
    · have HO2 : Hid (Calls Try.prog 50 #[.slice ad l.length cap] w fun en w' => ∃ t gs, en = .returned (.tuple #[t, .int .i64 0]) ∧ TrieR w' t (foldE l) gs ∧ (∀ g ∈ gs, w.heap.size ≤ g) ∧ Below w.heap.size w w') := HO.out.mono fun en w' h => by unfold OfPost at h; rw [if_pos hV] at h; exact h
      have HR2 : Hid (∀ W, Below w.heap.size w W → Calls Try.prog 51 #[.slice ad l.length cap] W fun en w' => ∃ g rv, en = .returned (.tuple #[.pointer (some ⟨g, 0, none⟩), .int .i64 0]) ∧ RefR w' g rv (foldE l) ∧ W.heap.size ≤ g ∧ Below W.heap.size W w') := fun W hW => (HR.out W hW).mono fun en w' h => by unfold ROfPost at h; rw [if_pos hV] at h; exact h
      clear HO HR hV
      go_enter Try.func10, Try.ntmps10
      go_wp2_with fail
      refine HO2.out.mono ?_
      rintro e w1 ⟨t, gs, rfl, hT, hg, hb1⟩
      obtain ⟨gt, rfl, -⟩ := hT.ptr
      have T1 := Lib.hid hT
      have B1 := Lib.hid hb1
      clear hT hg hb1
      go_wp2_with fail
      refine (HR2.out _ B1.out).mono ?_
      rintro e w2 ⟨gr, rv, rfl, hR, hg, hb2⟩
      have T2 := Lib.hid (T1.out.below hb2)
      have R2 := Lib.hid hR
      have B2 := Lib.hid (below_then B1.out hb2)
      clear hR hg hb2
      go_wp2_with fail
      refine (awake6_any _).mono ?_
      rintro e w3 ⟨rfl, hb3⟩
      have T3 := Lib.hid (T2.out.below hb3)
      have R3 := Lib.hid (R2.out.below hb3)
      have B3 := Lib.hid (below_then B2.out hb3)
      clear hb3
      go_wp2_with fail
      refine (all_any _ (foldE l) gs _ (.inr T3.out) (by have := HLen.out; omega)).mono ?_
      rintro e w4 ⟨v4, rfl, hr4, hb4⟩
      have Q4 := Lib.hid hr4.rd
      have R4 := Lib.hid (R3.out.below hb4)
      have B4 := Lib.hid (below_then B3.out hb4)
      obtain ⟨ad4, cp4, rfl⟩ := rdE_slice hr4.rd
      clear hr4 hb4
      go_wp2_with fail
      refine (rall_any gr rv (foldE l) _ R4.out (by have := HLen.out; omega)).mono ?_
      rintro e w5 ⟨v5, rfl, hr5, hb5⟩
      have P5 := Lib.hid (Q4.out.below hb5)
      have Q5 := Lib.hid hr5
      have B5 := Lib.hid (below_then B4.out hb5)
      obtain ⟨ad5, cp5, rfl⟩ := rdE_slice hr5
      clear hr5 hb5
      go_wp2_with fail
      refine (same_any (foldE l) _ _ _ (by have := HLen.out; omega) P5.out Q5.out).mono ?_
      rintro e w6 ⟨rfl, hb6⟩
      have B6 := Lib.hid (below_then B5.out hb6)
      clear hb6
      go_wp2
      go_ret
      exact ⟨rfl, B6.out⟩
end Go.Proofs.Ytkelfjgjgjdinaa
