/-
  The routers of a network: the code's check and the reference's.
-/
import Derived.Test.YtenfcnappjekgaaLyM
import Derived.Test.YtenfcnappjekgaaLxA
namespace Go.Proofs.Ytenfcnappjekgaa
open Go.RowKit
set_option linter.unusedSimpArgs false
set_option linter.unusedVariables false
set_option maxHeartbeats 8000000
set_option maxRecDepth 100000

def lastN (l : List Nat) (k : Nat) : Nat := if k = 0 then 0 else l.getD (k - 1) 0
def ascL (l : List Nat) (k : Nat) : Int := match l[k]? with
  | none => 0
  | some x => if x ≤ lastN l k then 16 else 0
def atC (l : List Nat) (rt : Nat) : Int := if 64 < l.length then 4 else if orL ((List.range l.length).map (ascL l)) ≠ 0 then orL ((List.range l.length).map (ascL l)) else if rt ∈ l then 0 else 14
theorem ascL_bad {l : List Nat} {k x : Nat} (h : l[k]? = some x) (hb : x ≤ lastN l k) : ascL l k = 16 := by unfold ascL; rw [h]; simp [hb]
theorem ascL_ok {l : List Nat} {k x : Nat} (h : l[k]? = some x) (hb : ¬ x ≤ lastN l k) : ascL l k = 0 := by unfold ascL; rw [h]; simp [hb]
theorem lastN_succ {l : List Nat} {k x : Nat} (h : l[k]? = some x) : lastN l (k + 1) = x := by unfold lastN; simp [List.getD, h]
theorem atC_bad {l : List Nat} {rt k x : Nat} (hlen : ¬ 64 < l.length) (hz : ∀ x ∈ ((List.range l.length).map (ascL l)).take k, x = 0) (h : l[k]? = some x) (hlt : k < l.length) (hb : x ≤ lastN l k) : atC l rt = 16 := by
  have e : orL ((List.range l.length).map (ascL l)) = 16 := orL_at _ _ hz ((map_get hlt).trans (by rw [ascL_bad h hb])) (by decide)
  unfold atC; rw [if_neg hlen, e]; simp
theorem atC_end {l : List Nat} {rt : Nat} (hlen : ¬ 64 < l.length) (hz : ∀ x ∈ ((List.range l.length).map (ascL l)).take l.length, x = 0) : atC l rt = if rt ∈ l then 0 else 14 := by
  unfold atC; rw [if_neg hlen, all_zero hz]; simp
theorem index_any (l : List Nat) (v : Value) (x : Nat) (w : World) (hr : RdW w v l) : Calls Try.prog 101 #[v, .int .u32 (x : Int)] w fun e w' => ∃ r : Int, e = .returned (.int .i64 r) ∧ (0 ≤ r ↔ x ∈ l) ∧ w = w' := by
  obtain ⟨ad, cap, rfl, ⟨hc1, hc2⟩, hok, hrd⟩ := hr
  have HRD := Lib.hid hrd
  clear hrd hok
  go_enter Try.func101, Try.ntmps101
  go_wp2
  go_loopg [5, 8] l.length (fun gg s5 s8 wr => ∃ k : Nat, k ≤ l.length ∧ l.length - k ≤ gg ∧ s8 = .int .i64 (k : Int) ∧ Hid (∀ y ∈ l.take k, y ≠ x) ∧ w = wr)
  case atStart => exact ⟨0, by omega, by omega, rfl, (by unfold Hid; simp), rfl⟩
  case round =>
    obtain ⟨k, hk, hg, rfl, hz, rfl⟩ := hrel
    by_cases hlt : k < l.length
    · obtain ⟨y, hy⟩ : ∃ y, l[k]? = some y := ⟨_, List.getElem?_eq_getElem hlt⟩
      obtain ⟨b, off, rfl, hb, hcell⟩ := HRD.out k y hy
      have HY := Lib.hid hy
      have hi0 : (0 : Int) ≤ (k : Int) := by omega
      have hi1 : (k : Int) < (l.length : Int) := by omega
      clear hy
      by_cases he : x = y
      · have b1 : ((x : Int) == (y : Int)) = true := by rw [he]; simp
        have HM : Hid (x ∈ l) := he ▸ List.mem_of_getElem? HY.out
        clear he
        go_wp2
        go_ret
        exact ⟨_, rfl, ⟨fun _ => HM.out, fun _ => by omega⟩, rfl⟩
      · have b1 : ((x : Int) == (y : Int)) = false := by rw [beq_eq_false_iff_ne]; omega
        have HT : Hid (∀ z ∈ l.take (k + 1), z ≠ x) := by
          intro z hz'
          rw [List.take_add_one, HY.out] at hz'
          rcases List.mem_append.1 hz' with h1 | h1
          · exact hz.out z h1
          · obtain rfl : z = y := by simpa using h1
            exact fun e => he e.symm
        clear he
        go_wp2
        go_roundg (l.length - (k + 1))
        case measure => omega
        case rel => exact ⟨k + 1, by omega, Nat.le_refl _, by go_num, HT, rfl⟩
    · have hkl : k = l.length := by omega
      subst hkl
      go_wp2
      go_ret
      refine ⟨_, rfl, ⟨fun h => absurd h (by decide), fun h => ?_⟩, rfl⟩
      have := hz.out x (by rw [List.take_length]; exact h)
      exact absurd rfl this
theorem contains_any (l : List Nat) (v : Value) (x : Nat) (w : World) (hr : RdW w v l) : Calls Try.prog 81 #[v, .int .u32 (x : Int)] w fun e w' => e = .returned (.bool (decide (x ∈ l))) ∧ w = w' := by
  have HI := Lib.hid (index_any l v x w hr)
  clear hr
  go_enter Try.func81, Try.ntmps81
  go_wp2_with fail
  go_at_call 101
  refine HI.out.mono ?_
  rintro e w' ⟨r, rfl, hiff, rfl⟩
  have HF : Hid (decide (0 ≤ r) = decide (x ∈ l)) := by unfold Hid; rw [decide_eq_decide]; exact hiff
  clear hiff HI
  go_wp2
  go_ret
  exact ⟨ret_b (by rw [← HF.out]), rfl⟩
theorem checkAtt_any (h : Hd) (bo bd : Bool) (aL : Option Addr) (nL cL : Nat) (l : List Nat) (ad : Option Addr) (cap : Nat) (co : Int) (se : Bool) (fw : Nat) (ta : Int) (w : World) (hr : RdW w (.slice ad l.length cap) l) :
    Calls Try.prog 43 #[lsV h bo bd (.slice aL nL cL) (.slice ad l.length cap) co se fw ta] w fun e w' => e = .returned (.int .i64 (atC l h.rt)) ∧ Below w.heap.size w w' := by
  have HB0 := Lib.hid (below_alloc w (lsC h bo bd (.slice aL nL cL) (.slice ad l.length cap) co se fw ta))
  have HX0 : Hid ((w.alloc (lsC h bo bd (.slice aL nL cL) (.slice ad l.length cap) co se fw ta)).heap[w.heap.size]? = some (lsC h bo bd (.slice aL nL cL) (.slice ad l.length cap) co se fw ta)) := heap_alloc_new w _
  have HR := Lib.hid (hr.below (below_alloc w (lsC h bo bd (.slice aL nL cL) (.slice ad l.length cap) co se fw ta)))
  obtain ⟨ad', cap', e, ⟨hc1, hc2⟩, hok, -⟩ := hr
  obtain ⟨rfl, rfl⟩ : ad = ad' ∧ cap = cap' := by injection e with e1 e2 e3; exact ⟨e1, e3⟩
  have HOK := Lib.hid hok
  clear e hok
  by_cases hlen : 64 < l.length
  · have HV : Hid (atC l h.rt = 4) := by unfold Hid atC; rw [if_pos hlen]
    have hlen' : (64 : Int) < (l.length : Int) := by omega
    go_enter Try.func43, Try.ntmps43
    go_wp2
    go_ret
    exact ⟨ret_i HV.out.symm, HB0.out⟩
  have hlen' : ¬ (64 : Int) < (l.length : Int) := by omega
  have HCO := Lib.hid (contains_any l _ h.rt _ HR.out)
  go_enter Try.func43, Try.ntmps43
  go_wp2
  go_loopg [3, 5, 13] l.length (fun gg s3 s5 s13 wr => ∃ k : Nat, k ≤ l.length ∧ l.length - k ≤ gg ∧ s13 = .int .i64 (k : Int) ∧ s3 = .int .u32 (lastN l k : Int) ∧ Hid (∀ x ∈ ((List.range l.length).map (ascL l)).take k, x = 0) ∧ w.alloc (lsC h bo bd (.slice aL nL cL) (.slice ad l.length cap) co se fw ta) = wr)
  case atStart => exact ⟨0, by omega, by omega, rfl, rfl, (by unfold Hid; simp), rfl⟩
  case round =>
    obtain ⟨k, hk, hg, rfl, rfl, hz, rfl⟩ := hrel
    by_cases hlt : k < l.length
    · obtain ⟨x, hx⟩ : ∃ x, l[k]? = some x := ⟨_, List.getElem?_eq_getElem hlt⟩
      obtain ⟨ad1, cap1, e, -, -, hrd⟩ := HR.out
      obtain ⟨b, off, e1, hbl, x0⟩ := hrd k x hx
      obtain ⟨rfl, rfl⟩ : ad = ad1 ∧ cap = cap1 := by injection e with e1 e2 e3; exact ⟨e1, e3⟩
      subst e1
      have HXK := Lib.hid hx
      have hi0 : (0 : Int) ≤ (k : Int) := by omega
      have hi1 : (k : Int) < (l.length : Int) := by omega
      clear hx hrd e
      by_cases hbad : x ≤ lastN l k
      · have hb2 : (x : Int) ≤ (lastN l k : Int) := by omega
        have HV : Hid (atC l h.rt = 16) := atC_bad hlen hz.out HXK.out hlt hbad
        go_wp2
        go_ret
        exact ⟨ret_i HV.out.symm, HB0.out⟩
      · have hb2 : ¬ (x : Int) ≤ (lastN l k : Int) := by omega
        have HE : Hid (ascL l k = 0) := ascL_ok HXK.out hbad
        have HLN := Lib.hid (lastN_succ HXK.out)
        go_wp2
        go_roundg (l.length - (k + 1))
        case measure => omega
        case rel => exact ⟨k + 1, by omega, Nat.le_refl _, by go_num, by rw [HLN.out], take_zero hz.out hlt HE.out, rfl⟩
    · have hkl : k = l.length := by omega
      subst hkl
      have HV := Lib.hid (atC_end (rt := h.rt) hlen hz.out)
      by_cases hm : h.rt ∈ l
      · have HC : Hid (Calls Try.prog 81 _ _ fun e w' => e = .returned (.bool true) ∧ _ = w') := decide_eq_true hm ▸ HCO.out
        have HV2 : Hid (atC l h.rt = 0) := by unfold Hid; rw [HV.out, if_pos hm]
        clear hm
        go_wp2_with (go_at_call 81; refine HC.out.mono ?_; rintro e w' ⟨rfl, rfl⟩)
        go_ret
        exact ⟨ret_i HV2.out.symm, HB0.out⟩
      · have HC : Hid (Calls Try.prog 81 _ _ fun e w' => e = .returned (.bool false) ∧ _ = w') := decide_eq_false hm ▸ HCO.out
        have HV2 : Hid (atC l h.rt = 14) := by unfold Hid; rw [HV.out, if_neg hm]
        clear hm
        go_wp2_with (go_at_call 81; refine HC.out.mono ?_; rintro e w' ⟨rfl, rfl⟩)
        go_ret
        exact ⟨ret_i HV2.out.symm, HB0.out⟩
theorem below_undrew9 {w W : World} (h : Below w.drew.heap.size w.drew W) : Below w.heap.size w W := ⟨h.os, h.tape, h.output, h.size, h.block⟩
theorem rcheckAtt_any (h : Hd) (bo bd : Bool) (aL : Option Addr) (nL cL : Nat) (l : List Nat) (ad : Option Addr) (cap : Nat) (co : Int) (se : Bool) (fw : Nat) (ta : Int) (w : World) (hr : RdW w (.slice ad l.length cap) l) :
    Calls Try.prog 46 #[lsV h bo bd (.slice aL nL cL) (.slice ad l.length cap) co se fw ta] w fun e w' => e = .returned (.int .i64 (atC l h.rt)) ∧ Below w.heap.size w w' := by
  have HB0 := Lib.hid (below_alloc w (lsC h bo bd (.slice aL nL cL) (.slice ad l.length cap) co se fw ta))
  have HX0 : Hid ((w.alloc (lsC h bo bd (.slice aL nL cL) (.slice ad l.length cap) co se fw ta)).heap[w.heap.size]? = some (lsC h bo bd (.slice aL nL cL) (.slice ad l.length cap) co se fw ta)) := heap_alloc_new w _
  have HR := Lib.hid (hr.below (below_alloc w (lsC h bo bd (.slice aL nL cL) (.slice ad l.length cap) co se fw ta)))
  obtain ⟨ad', cap', e, ⟨hc1, hc2⟩, hok, -⟩ := hr
  obtain ⟨rfl, rfl⟩ : ad = ad' ∧ cap = cap' := by injection e with e1 e2 e3; exact ⟨e1, e3⟩
  have HOK := Lib.hid hok
  clear e hok
  by_cases hlen : 64 < l.length
  · have HV : Hid (atC l h.rt = 4) := by unfold Hid atC; rw [if_pos hlen]
    have hlen' : (64 : Int) < (l.length : Int) := by omega
    go_enter Try.func46, Try.ntmps46
    go_wp2
    go_ret
    exact ⟨ret_i HV.out.symm, HB0.out⟩
  have hlen' : ¬ (64 : Int) < (l.length : Int) := by omega
  go_enter Try.func46, Try.ntmps46
  go_wp2
  go_loopg [3, 4] l.length (fun gg s3 s4 wr => ∃ k : Nat, k ≤ l.length ∧ l.length - k ≤ gg ∧ s4 = .int .i64 (k : Int) ∧ s3 = .bool (decide (h.rt ∈ l.take k)) ∧ Hid (∀ x ∈ ((List.range l.length).map (ascL l)).take k, x = 0) ∧ Hid (Below (w.alloc (lsC h bo bd (.slice aL nL cL) (.slice ad l.length cap) co se fw ta)).heap.size (w.alloc (lsC h bo bd (.slice aL nL cL) (.slice ad l.length cap) co se fw ta)) wr))
  case atStart => exact ⟨0, by omega, by omega, rfl, (by simp), (by unfold Hid; simp), Below.refl _ _⟩
  case round =>
    obtain ⟨k, hk, hg, rfl, rfl, hz, hbel⟩ := hrel
    have HBW : Hid (Below w.heap.size w wr) := HB0.out.trans (hbel.out.mono HB0.out.size)
    have HXW : Hid (wr.heap[w.heap.size]? = some (lsC h bo bd (.slice aL nL cL) (.slice ad l.length cap) co se fw ta)) := (hbel.out.block _ (by simp)).trans HX0.out
    obtain ⟨m0, m1, m2, m3, m4, m5, m6, m7, m8, m9, m10, m11, m12, m13, m14⟩ := cellsL HXW.out
    by_cases hlt : k < l.length
    · obtain ⟨x, hx⟩ : ∃ x, l[k]? = some x := ⟨_, List.getElem?_eq_getElem hlt⟩
      have HRW := Lib.hid (HR.out.below hbel.out)
      obtain ⟨ad1, cap1, e, -, -, hrd⟩ := HRW.out
      obtain ⟨b, off, e1, hbl, x0⟩ := hrd k x hx
      obtain ⟨rfl, rfl⟩ : ad = ad1 ∧ cap = cap1 := by injection e with e1 e2 e3; exact ⟨e1, e3⟩
      subst e1
      have HXK := Lib.hid hx
      have hi0 : (0 : Int) ≤ (k : Int) := by omega
      have hi1 : (k : Int) < (l.length : Int) := by omega
      have KC0 : Hid (∀ (o : Nat) (y : Nat), wr.cell? ⟨b, o, none⟩ = some (.int .u32 (y : Int)) → ∀ (o2 x2 : Nat), wr.cell? ⟨b, o2, none⟩ = some (.int .u32 (x2 : Int)) → ∀ W', Below wr.heap.size wr W' → W'.cell? ⟨w.heap.size, 10, none⟩ = some (.slice (some ⟨b, off, none⟩) l.length cap) ∧ W'.cell? ⟨b, o, none⟩ = some (.int .u32 (y : Int)) ∧ W'.cell? ⟨b, o2, none⟩ = some (.int .u32 (x2 : Int)) ∧ W'.cell? ⟨w.heap.size, 3, none⟩ = some (.int .u32 (h.rt : Int))) := fun o y hy o2 x2 hy2 W' hW => by
        have hx1 := (hW.block _ (Array.getElem?_eq_some_iff.1 HXW.out).1).trans HXW.out
        exact ⟨cell_of hx1 rfl, carry hW hy, carry hW hy2, cell_of hx1 rfl⟩
      clear hx e
      by_cases hx0 : x = 0
      · have b0 : ((x : Int) == 0) = true := by simpa using hx0
        have HV : Hid (atC l h.rt = 16) := atC_bad hlen hz.out HXK.out hlt (by omega)
        have KC := Lib.hid (KC0.out _ x x0 _ x x0)
        clear hx0 hrd
        go_wp2_with fail
        refine wp_region_held_drew (S := (fun W' : World => Below wr.heap.size wr W')) (by kernel_rfl) (below_drewN (Below.refl _ _) 1) (fun hS0 => ?_)
        refine wpAnyH_take (i := 0) (oi := ⟨some 16, _, _, _, _, _⟩) (v := Value.pointer (some ⟨w.heap.size, 10, none⟩)) rfl (by kernel_rfl) (by kernel_rfl) (by kernel_rfl) (fun _ _ _ h => h) (Or.inl ⟨by rfl, by intro w' hw'; obtain ⟨g0, g1, g2, g3⟩ := KC.out _ hw'; go_simp⟩) hS0 ?_
        simp only [Act.put, List.setIfInBounds_toArray, List.set_cons_zero, List.set_cons_succ]
        refine wpAnyH_take (i := 1) (oi := ⟨some 17, _, _, _, _, _⟩) (v := .slice (some ⟨b, off, none⟩) l.length cap) rfl (by kernel_rfl) (by kernel_rfl) (by kernel_rfl) (fun _ _ _ h => h) (Or.inl ⟨by rfl, by intro w' hw'; obtain ⟨g0, g1, g2, g3⟩ := KC.out _ hw'; go_simp⟩) hS0 ?_
        simp only [Act.put, List.setIfInBounds_toArray, List.set_cons_zero, List.set_cons_succ]
        refine wpAnyH_take (i := 2) (oi := ⟨some 18, _, _, _, _, _⟩) (v := .int .i64 (k : Int)) rfl (by kernel_rfl) (by kernel_rfl) (by kernel_rfl) (fun _ _ _ h => h) (Or.inl ⟨by rfl, by intro w' hw'; obtain ⟨g0, g1, g2, g3⟩ := KC.out _ hw'; go_simp⟩) hS0 ?_
        simp only [Act.put, List.setIfInBounds_toArray, List.set_cons_zero, List.set_cons_succ]
        refine wpAnyH_take (i := 3) (oi := ⟨some 19, _, _, _, _, _⟩) (v := Value.pointer (some ⟨b, off + k, none⟩)) rfl (by kernel_rfl) (by kernel_rfl) (by kernel_rfl) (fun _ _ _ h => h) (Or.inl ⟨by rfl, by intro w' hw'; obtain ⟨g0, g1, g2, g3⟩ := KC.out _ hw'; go_simp⟩) hS0 ?_
        simp only [Act.put, List.setIfInBounds_toArray, List.set_cons_zero, List.set_cons_succ]
        refine wpAnyH_take (i := 4) (oi := ⟨some 20, _, _, _, _, _⟩) (v := .int .u32 (x : Int)) rfl (by kernel_rfl) (by kernel_rfl) (by kernel_rfl) (fun _ _ _ h => h) (Or.inl ⟨by rfl, by intro w' hw'; obtain ⟨g0, g1, g2, g3⟩ := KC.out _ hw'; go_simp⟩) hS0 ?_
        simp only [Act.put, List.setIfInBounds_toArray, List.set_cons_zero, List.set_cons_succ]
        refine wpAnyH_take (i := 5) (oi := ⟨some 21, _, _, _, _, _⟩) (v := .bool true) rfl (by kernel_rfl) (by kernel_rfl) (by kernel_rfl) (fun _ _ _ h => h) (Or.inl ⟨by rfl, by intro w' hw'; obtain ⟨g0, g1, g2, g3⟩ := KC.out _ hw'; go_simp⟩) hS0 ?_
        simp only [Act.put, List.setIfInBounds_toArray, List.set_cons_zero, List.set_cons_succ]
        refine wpAnyH_take (i := 6) (oi := ⟨some 22, _, _, _, _, _⟩) (v := .bool true) rfl (by kernel_rfl) (by kernel_rfl) (by kernel_rfl) (fun _ _ _ h => h) (Or.inl ⟨by rfl, by intro w' hw'; obtain ⟨g0, g1, g2, g3⟩ := KC.out _ hw'; go_simp⟩) hS0 ?_
        simp only [Act.put, List.setIfInBounds_toArray, List.set_cons_zero, List.set_cons_succ]
        refine wpAnyH_take (i := 7) (oi := ⟨some 23, _, _, _, _, _⟩) (v := undef) rfl (by kernel_rfl) (by kernel_rfl) (by kernel_rfl) (fun _ _ _ h => h) (Or.inr ⟨by rfl, rfl⟩) hS0 ?_
        simp only [Act.put, List.setIfInBounds_toArray, List.set_cons_zero, List.set_cons_succ]
        refine wpAnyH_take (i := 8) (oi := ⟨some 24, _, _, _, _, _⟩) (v := undef) rfl (by kernel_rfl) (by kernel_rfl) (by kernel_rfl) (fun _ _ _ h => h) (Or.inr ⟨by rfl, rfl⟩) hS0 ?_
        simp only [Act.put, List.setIfInBounds_toArray, List.set_cons_zero, List.set_cons_succ]
        refine wpAnyH_take (i := 9) (oi := ⟨some 25, _, _, _, _, _⟩) (v := undef) rfl (by kernel_rfl) (by kernel_rfl) (by kernel_rfl) (fun _ _ _ h => h) (Or.inr ⟨by rfl, rfl⟩) hS0 ?_
        simp only [Act.put, List.setIfInBounds_toArray, List.set_cons_zero, List.set_cons_succ]
        refine wpAnyH_take (i := 10) (oi := ⟨some 26, _, _, _, _, _⟩) (v := undef) rfl (by kernel_rfl) (by kernel_rfl) (by kernel_rfl) (fun _ _ _ h => h) (Or.inr ⟨by rfl, rfl⟩) hS0 ?_
        simp only [Act.put, List.setIfInBounds_toArray, List.set_cons_zero, List.set_cons_succ]
        refine wpAnyH_take (i := 11) (oi := ⟨some 27, _, _, _, _, _⟩) (v := undef) rfl (by kernel_rfl) (by kernel_rfl) (by kernel_rfl) (fun _ _ _ h => h) (Or.inr ⟨by rfl, rfl⟩) hS0 ?_
        simp only [Act.put, List.setIfInBounds_toArray, List.set_cons_zero, List.set_cons_succ]
        refine wpAnyH_take (i := 12) (oi := ⟨some 28, _, _, _, _, _⟩) (v := undef) rfl (by kernel_rfl) (by kernel_rfl) (by kernel_rfl) (fun _ _ _ h => h) (Or.inr ⟨by rfl, rfl⟩) hS0 ?_
        simp only [Act.put, List.setIfInBounds_toArray, List.set_cons_zero, List.set_cons_succ]
        refine wpAnyH_take (i := 13) (oi := ⟨some 29, _, _, _, _, _⟩) (v := undef) rfl (by kernel_rfl) (by kernel_rfl) (by kernel_rfl) (fun _ _ _ h => h) (Or.inr ⟨by rfl, rfl⟩) hS0 ?_
        simp only [Act.put, List.setIfInBounds_toArray, List.set_cons_zero, List.set_cons_succ]
        refine wpAnyH_take (i := 14) (oi := ⟨some 30, _, _, _, _, _⟩) (v := undef) rfl (by kernel_rfl) (by kernel_rfl) (by kernel_rfl) (fun _ _ _ h => h) (Or.inr ⟨by rfl, rfl⟩) hS0 ?_
        simp only [Act.put, List.setIfInBounds_toArray, List.set_cons_zero, List.set_cons_succ]
        refine wpAnyH_take (i := 15) (oi := ⟨some 31, _, _, _, _, _⟩) (v := undef) rfl (by kernel_rfl) (by kernel_rfl) (by kernel_rfl) (fun _ _ _ h => h) (Or.inr ⟨by rfl, rfl⟩) hS0 ?_
        simp only [Act.put, List.setIfInBounds_toArray, List.set_cons_zero, List.set_cons_succ]
        refine wpAnyH_take (i := 16) (oi := ⟨some 32, _, _, _, _, _⟩) (v := undef) rfl (by kernel_rfl) (by kernel_rfl) (by kernel_rfl) (fun _ _ _ h => h) (Or.inr ⟨by rfl, rfl⟩) hS0 ?_
        simp only [Act.put, List.setIfInBounds_toArray, List.set_cons_zero, List.set_cons_succ]
        refine wpAnyH_take (i := 17) (oi := ⟨some 33, _, _, _, _, _⟩) (v := undef) rfl (by kernel_rfl) (by kernel_rfl) (by kernel_rfl) (fun _ _ _ h => h) (Or.inr ⟨by rfl, rfl⟩) hS0 ?_
        simp only [Act.put, List.setIfInBounds_toArray, List.set_cons_zero, List.set_cons_succ]
        refine wpAnyH_take (i := 18) (oi := ⟨some 34, _, _, _, _, _⟩) (v := undef) rfl (by kernel_rfl) (by kernel_rfl) (by kernel_rfl) (fun _ _ _ h => h) (Or.inr ⟨by rfl, rfl⟩) hS0 ?_
        simp only [Act.put, List.setIfInBounds_toArray, List.set_cons_zero, List.set_cons_succ]
        refine wpAnyH_take (i := 19) (oi := ⟨some 35, _, _, _, _, _⟩) (v := undef) rfl (by kernel_rfl) (by kernel_rfl) (by kernel_rfl) (fun _ _ _ h => h) (Or.inr ⟨by rfl, rfl⟩) hS0 ?_
        simp only [Act.put, List.setIfInBounds_toArray, List.set_cons_zero, List.set_cons_succ]
        refine wpAnyH_take (i := 20) (oi := ⟨some 36, _, _, _, _, _⟩) (v := undef) rfl (by kernel_rfl) (by kernel_rfl) (by kernel_rfl) (fun _ _ _ h => h) (Or.inr ⟨by rfl, rfl⟩) hS0 ?_
        simp only [Act.put, List.setIfInBounds_toArray, List.set_cons_zero, List.set_cons_succ]
        refine wpAnyH_take (i := 21) (oi := ⟨some 37, _, _, _, _, _⟩) (v := undef) rfl (by kernel_rfl) (by kernel_rfl) (by kernel_rfl) (fun _ _ _ h => h) (Or.inr ⟨by rfl, rfl⟩) hS0 ?_
        simp only [Act.put, List.setIfInBounds_toArray, List.set_cons_zero, List.set_cons_succ]
        refine wpAnyH_take (i := 22) (oi := ⟨some 38, _, _, _, _, _⟩) (v := undef) rfl (by kernel_rfl) (by kernel_rfl) (by kernel_rfl) (fun _ _ _ h => h) (Or.inr ⟨by rfl, rfl⟩) hS0 ?_
        simp only [Act.put, List.setIfInBounds_toArray, List.set_cons_zero, List.set_cons_succ]
        refine wpAnyH_take (i := 23) (oi := ⟨some 39, _, _, _, _, _⟩) (v := .bool true) rfl (by kernel_rfl) (by kernel_rfl) (by kernel_rfl) (fun _ _ _ h => h) (Or.inl ⟨by rfl, by intro w' hw'; obtain ⟨g0, g1, g2, g3⟩ := KC.out _ hw'; go_simp⟩) hS0 ?_
        simp only [Act.put, List.setIfInBounds_toArray, List.set_cons_zero, List.set_cons_succ]
        refine wpAnyH_done (by kernel_rfl) ?_ _
        go_wp2
        go_ret
        exact ⟨ret_i HV.out.symm, HBW.out.drew⟩
      have b0 : ((x : Int) == 0) = false := by simpa using hx0
      rcases k with _ | j
      · simp only [Nat.add_zero] at x0
        have HE : Hid (ascL l 0 = 0) := ascL_ok HXK.out (by unfold lastN; simp; omega)
        have KC := Lib.hid (KC0.out _ x x0 _ x x0)
        clear hrd hx0
        go_wp2_with fail
        refine wp_region_held_drew (S := (fun W' : World => Below wr.heap.size wr W')) (by kernel_rfl) (below_drewN (Below.refl _ _) 1) (fun hS0 => ?_)
        refine wpAnyH_take (i := 0) (oi := ⟨some 16, _, _, _, _, _⟩) (v := Value.pointer (some ⟨w.heap.size, 10, none⟩)) rfl (by kernel_rfl) (by kernel_rfl) (by kernel_rfl) (fun _ _ _ h => h) (Or.inl ⟨by rfl, by intro w' hw'; obtain ⟨g0, g1, g2, g3⟩ := KC.out _ hw'; go_simp⟩) hS0 ?_
        simp only [Act.put, List.setIfInBounds_toArray, List.set_cons_zero, List.set_cons_succ]
        refine wpAnyH_take (i := 1) (oi := ⟨some 17, _, _, _, _, _⟩) (v := .slice (some ⟨b, off, none⟩) l.length cap) rfl (by kernel_rfl) (by kernel_rfl) (by kernel_rfl) (fun _ _ _ h => h) (Or.inl ⟨by rfl, by intro w' hw'; obtain ⟨g0, g1, g2, g3⟩ := KC.out _ hw'; go_simp⟩) hS0 ?_
        simp only [Act.put, List.setIfInBounds_toArray, List.set_cons_zero, List.set_cons_succ]
        refine wpAnyH_take (i := 2) (oi := ⟨some 18, _, _, _, _, _⟩) (v := .int .i64 ((0 : Nat) : Int)) rfl (by kernel_rfl) (by kernel_rfl) (by kernel_rfl) (fun _ _ _ h => h) (Or.inl ⟨by rfl, by intro w' hw'; obtain ⟨g0, g1, g2, g3⟩ := KC.out _ hw'; go_simp⟩) hS0 ?_
        simp only [Act.put, List.setIfInBounds_toArray, List.set_cons_zero, List.set_cons_succ]
        refine wpAnyH_take (i := 3) (oi := ⟨some 19, _, _, _, _, _⟩) (v := Value.pointer (some ⟨b, off, none⟩)) rfl (by kernel_rfl) (by kernel_rfl) (by kernel_rfl) (fun _ _ _ h => h) (Or.inl ⟨by rfl, by intro w' hw'; obtain ⟨g0, g1, g2, g3⟩ := KC.out _ hw'; go_simp⟩) hS0 ?_
        simp only [Act.put, List.setIfInBounds_toArray, List.set_cons_zero, List.set_cons_succ]
        refine wpAnyH_take (i := 4) (oi := ⟨some 20, _, _, _, _, _⟩) (v := .int .u32 (x : Int)) rfl (by kernel_rfl) (by kernel_rfl) (by kernel_rfl) (fun _ _ _ h => h) (Or.inl ⟨by rfl, by intro w' hw'; obtain ⟨g0, g1, g2, g3⟩ := KC.out _ hw'; go_simp⟩) hS0 ?_
        simp only [Act.put, List.setIfInBounds_toArray, List.set_cons_zero, List.set_cons_succ]
        refine wpAnyH_take (i := 5) (oi := ⟨some 21, _, _, _, _, _⟩) (v := .bool false) rfl (by kernel_rfl) (by kernel_rfl) (by kernel_rfl) (fun _ _ _ h => h) (Or.inl ⟨by rfl, by intro w' hw'; obtain ⟨g0, g1, g2, g3⟩ := KC.out _ hw'; go_simp⟩) hS0 ?_
        simp only [Act.put, List.setIfInBounds_toArray, List.set_cons_zero, List.set_cons_succ]
        refine wpAnyH_take (i := 6) (oi := ⟨some 22, _, _, _, _, _⟩) (v := .bool false) rfl (by kernel_rfl) (by kernel_rfl) (by kernel_rfl) (fun _ _ _ h => h) (Or.inl ⟨by rfl, by intro w' hw'; obtain ⟨g0, g1, g2, g3⟩ := KC.out _ hw'; go_simp⟩) hS0 ?_
        simp only [Act.put, List.setIfInBounds_toArray, List.set_cons_zero, List.set_cons_succ]
        refine wpAnyH_take (i := 7) (oi := ⟨some 23, _, _, _, _, _⟩) (v := .int .i64 ((0 : Nat) : Int)) rfl (by kernel_rfl) (by kernel_rfl) (by kernel_rfl) (fun _ _ _ h => h) (Or.inl ⟨by rfl, by intro w' hw'; obtain ⟨g0, g1, g2, g3⟩ := KC.out _ hw'; go_simp⟩) hS0 ?_
        simp only [Act.put, List.setIfInBounds_toArray, List.set_cons_zero, List.set_cons_succ]
        refine wpAnyH_take (i := 8) (oi := ⟨some 24, _, _, _, _, _⟩) (v := .bool false) rfl (by kernel_rfl) (by kernel_rfl) (by kernel_rfl) (fun _ _ _ h => h) (Or.inl ⟨by rfl, by intro w' hw'; obtain ⟨g0, g1, g2, g3⟩ := KC.out _ hw'; go_simp⟩) hS0 ?_
        simp only [Act.put, List.setIfInBounds_toArray, List.set_cons_zero, List.set_cons_succ]
        refine wpAnyH_take (i := 9) (oi := ⟨some 25, _, _, _, _, _⟩) (v := .bool false) rfl (by kernel_rfl) (by kernel_rfl) (by kernel_rfl) (fun _ _ _ h => h) (Or.inl ⟨by rfl, by intro w' hw'; obtain ⟨g0, g1, g2, g3⟩ := KC.out _ hw'; go_simp⟩) hS0 ?_
        simp only [Act.put, List.setIfInBounds_toArray, List.set_cons_zero, List.set_cons_succ]
        refine wpAnyH_take (i := 10) (oi := ⟨some 26, _, _, _, _, _⟩) (v := undef) rfl (by kernel_rfl) (by kernel_rfl) (by kernel_rfl) (fun _ _ _ h => h) (Or.inr ⟨by rfl, rfl⟩) hS0 ?_
        simp only [Act.put, List.setIfInBounds_toArray, List.set_cons_zero, List.set_cons_succ]
        refine wpAnyH_take (i := 11) (oi := ⟨some 27, _, _, _, _, _⟩) (v := undef) rfl (by kernel_rfl) (by kernel_rfl) (by kernel_rfl) (fun _ _ _ h => h) (Or.inr ⟨by rfl, rfl⟩) hS0 ?_
        simp only [Act.put, List.setIfInBounds_toArray, List.set_cons_zero, List.set_cons_succ]
        refine wpAnyH_take (i := 12) (oi := ⟨some 28, _, _, _, _, _⟩) (v := undef) rfl (by kernel_rfl) (by kernel_rfl) (by kernel_rfl) (fun _ _ _ h => h) (Or.inr ⟨by rfl, rfl⟩) hS0 ?_
        simp only [Act.put, List.setIfInBounds_toArray, List.set_cons_zero, List.set_cons_succ]
        refine wpAnyH_take (i := 13) (oi := ⟨some 29, _, _, _, _, _⟩) (v := undef) rfl (by kernel_rfl) (by kernel_rfl) (by kernel_rfl) (fun _ _ _ h => h) (Or.inr ⟨by rfl, rfl⟩) hS0 ?_
        simp only [Act.put, List.setIfInBounds_toArray, List.set_cons_zero, List.set_cons_succ]
        refine wpAnyH_take (i := 14) (oi := ⟨some 30, _, _, _, _, _⟩) (v := undef) rfl (by kernel_rfl) (by kernel_rfl) (by kernel_rfl) (fun _ _ _ h => h) (Or.inr ⟨by rfl, rfl⟩) hS0 ?_
        simp only [Act.put, List.setIfInBounds_toArray, List.set_cons_zero, List.set_cons_succ]
        refine wpAnyH_take (i := 15) (oi := ⟨some 31, _, _, _, _, _⟩) (v := undef) rfl (by kernel_rfl) (by kernel_rfl) (by kernel_rfl) (fun _ _ _ h => h) (Or.inr ⟨by rfl, rfl⟩) hS0 ?_
        simp only [Act.put, List.setIfInBounds_toArray, List.set_cons_zero, List.set_cons_succ]
        refine wpAnyH_take (i := 16) (oi := ⟨some 32, _, _, _, _, _⟩) (v := undef) rfl (by kernel_rfl) (by kernel_rfl) (by kernel_rfl) (fun _ _ _ h => h) (Or.inr ⟨by rfl, rfl⟩) hS0 ?_
        simp only [Act.put, List.setIfInBounds_toArray, List.set_cons_zero, List.set_cons_succ]
        refine wpAnyH_take (i := 17) (oi := ⟨some 33, _, _, _, _, _⟩) (v := undef) rfl (by kernel_rfl) (by kernel_rfl) (by kernel_rfl) (fun _ _ _ h => h) (Or.inr ⟨by rfl, rfl⟩) hS0 ?_
        simp only [Act.put, List.setIfInBounds_toArray, List.set_cons_zero, List.set_cons_succ]
        refine wpAnyH_take (i := 18) (oi := ⟨some 34, _, _, _, _, _⟩) (v := undef) rfl (by kernel_rfl) (by kernel_rfl) (by kernel_rfl) (fun _ _ _ h => h) (Or.inr ⟨by rfl, rfl⟩) hS0 ?_
        simp only [Act.put, List.setIfInBounds_toArray, List.set_cons_zero, List.set_cons_succ]
        refine wpAnyH_take (i := 19) (oi := ⟨some 35, _, _, _, _, _⟩) (v := undef) rfl (by kernel_rfl) (by kernel_rfl) (by kernel_rfl) (fun _ _ _ h => h) (Or.inr ⟨by rfl, rfl⟩) hS0 ?_
        simp only [Act.put, List.setIfInBounds_toArray, List.set_cons_zero, List.set_cons_succ]
        refine wpAnyH_take (i := 20) (oi := ⟨some 36, _, _, _, _, _⟩) (v := undef) rfl (by kernel_rfl) (by kernel_rfl) (by kernel_rfl) (fun _ _ _ h => h) (Or.inr ⟨by rfl, rfl⟩) hS0 ?_
        simp only [Act.put, List.setIfInBounds_toArray, List.set_cons_zero, List.set_cons_succ]
        refine wpAnyH_take (i := 21) (oi := ⟨some 37, _, _, _, _, _⟩) (v := undef) rfl (by kernel_rfl) (by kernel_rfl) (by kernel_rfl) (fun _ _ _ h => h) (Or.inr ⟨by rfl, rfl⟩) hS0 ?_
        simp only [Act.put, List.setIfInBounds_toArray, List.set_cons_zero, List.set_cons_succ]
        refine wpAnyH_take (i := 22) (oi := ⟨some 38, _, _, _, _, _⟩) (v := .bool false) rfl (by kernel_rfl) (by kernel_rfl) (by kernel_rfl) (fun _ _ _ h => h) (Or.inl ⟨by rfl, by intro w' hw'; obtain ⟨g0, g1, g2, g3⟩ := KC.out _ hw'; go_simp⟩) hS0 ?_
        simp only [Act.put, List.setIfInBounds_toArray, List.set_cons_zero, List.set_cons_succ]
        refine wpAnyH_take (i := 23) (oi := ⟨some 39, _, _, _, _, _⟩) (v := .bool false) rfl (by kernel_rfl) (by kernel_rfl) (by kernel_rfl) (fun _ _ _ h => h) (Or.inl ⟨by rfl, by intro w' hw'; obtain ⟨g0, g1, g2, g3⟩ := KC.out _ hw'; go_simp⟩) hS0 ?_
        simp only [Act.put, List.setIfInBounds_toArray, List.set_cons_zero, List.set_cons_succ]
        refine wpAnyH_done (by kernel_rfl) ?_ _
        by_cases hx9 : x = h.rt
        · have b9 : ((x : Int) == (h.rt : Int)) = true := by rw [hx9]; simp
          have HN : Hid (decide (h.rt ∈ l.take (1)) = true) := by
            unfold Hid
            rw [show l.take (1) = l.take 0 ++ [x] by rw [List.take_add_one, HXK.out]; rfl]
            simp [hx9]
          clear hx9
          go_wp2_with fail
          refine wp_region_held_drew (S := (fun W' : World => Below wr.drew.heap.size wr.drew W')) (by kernel_rfl) (below_drewN (Below.refl _ _) 1) (fun hS9 => ?_)
          refine wpAnyH_take (i := 0) (oi := ⟨some 40, _, _, _, _, _⟩) (v := Value.pointer (some ⟨w.heap.size, 10, none⟩)) rfl (by kernel_rfl) (by kernel_rfl) (by kernel_rfl) (fun _ _ _ h => h) (Or.inl ⟨by rfl, by intro w' hw'; obtain ⟨g0, g1, g2, g3⟩ := KC.out _ (below_undrew9 hw'); go_simp⟩) hS9 ?_
          simp only [Act.put, List.setIfInBounds_toArray, List.set_cons_zero, List.set_cons_succ]
          refine wpAnyH_take (i := 1) (oi := ⟨some 41, _, _, _, _, _⟩) (v := .slice (some ⟨b, off, none⟩) l.length cap) rfl (by kernel_rfl) (by kernel_rfl) (by kernel_rfl) (fun _ _ _ h => h) (Or.inl ⟨by rfl, by intro w' hw'; obtain ⟨g0, g1, g2, g3⟩ := KC.out _ (below_undrew9 hw'); go_simp⟩) hS9 ?_
          simp only [Act.put, List.setIfInBounds_toArray, List.set_cons_zero, List.set_cons_succ]
          refine wpAnyH_take (i := 2) (oi := ⟨some 42, _, _, _, _, _⟩) (v := .int .i64 ((0 : Nat) : Int)) rfl (by kernel_rfl) (by kernel_rfl) (by kernel_rfl) (fun _ _ _ h => h) (Or.inl ⟨by rfl, by intro w' hw'; obtain ⟨g0, g1, g2, g3⟩ := KC.out _ (below_undrew9 hw'); go_simp⟩) hS9 ?_
          simp only [Act.put, List.setIfInBounds_toArray, List.set_cons_zero, List.set_cons_succ]
          refine wpAnyH_take (i := 3) (oi := ⟨some 43, _, _, _, _, _⟩) (v := Value.pointer (some ⟨b, off, none⟩)) rfl (by kernel_rfl) (by kernel_rfl) (by kernel_rfl) (fun _ _ _ h => h) (Or.inl ⟨by rfl, by intro w' hw'; obtain ⟨g0, g1, g2, g3⟩ := KC.out _ (below_undrew9 hw'); go_simp⟩) hS9 ?_
          simp only [Act.put, List.setIfInBounds_toArray, List.set_cons_zero, List.set_cons_succ]
          refine wpAnyH_take (i := 4) (oi := ⟨some 44, _, _, _, _, _⟩) (v := .int .u32 (x : Int)) rfl (by kernel_rfl) (by kernel_rfl) (by kernel_rfl) (fun _ _ _ h => h) (Or.inl ⟨by rfl, by intro w' hw'; obtain ⟨g0, g1, g2, g3⟩ := KC.out _ (below_undrew9 hw'); go_simp⟩) hS9 ?_
          simp only [Act.put, List.setIfInBounds_toArray, List.set_cons_zero, List.set_cons_succ]
          refine wpAnyH_take (i := 5) (oi := ⟨some 45, _, _, _, _, _⟩) (v := Value.pointer (some ⟨w.heap.size, 0, none⟩)) rfl (by kernel_rfl) (by kernel_rfl) (by kernel_rfl) (fun _ _ _ h => h) (Or.inl ⟨by rfl, by intro w' hw'; obtain ⟨g0, g1, g2, g3⟩ := KC.out _ (below_undrew9 hw'); go_simp⟩) hS9 ?_
          simp only [Act.put, List.setIfInBounds_toArray, List.set_cons_zero, List.set_cons_succ]
          refine wpAnyH_take (i := 6) (oi := ⟨some 46, _, _, _, _, _⟩) (v := Value.pointer (some ⟨w.heap.size, 3, none⟩)) rfl (by kernel_rfl) (by kernel_rfl) (by kernel_rfl) (fun _ _ _ h => h) (Or.inl ⟨by rfl, by intro w' hw'; obtain ⟨g0, g1, g2, g3⟩ := KC.out _ (below_undrew9 hw'); go_simp⟩) hS9 ?_
          simp only [Act.put, List.setIfInBounds_toArray, List.set_cons_zero, List.set_cons_succ]
          refine wpAnyH_take (i := 7) (oi := ⟨some 47, _, _, _, _, _⟩) (v := .int .u32 (h.rt : Int)) rfl (by kernel_rfl) (by kernel_rfl) (by kernel_rfl) (fun _ _ _ h => h) (Or.inl ⟨by rfl, by intro w' hw'; obtain ⟨g0, g1, g2, g3⟩ := KC.out _ (below_undrew9 hw'); go_simp⟩) hS9 ?_
          simp only [Act.put, List.setIfInBounds_toArray, List.set_cons_zero, List.set_cons_succ]
          refine wpAnyH_take (i := 8) (oi := ⟨some 48, _, _, _, _, _⟩) (v := .bool true) rfl (by kernel_rfl) (by kernel_rfl) (by kernel_rfl) (fun _ _ _ h => h) (Or.inl ⟨by rfl, by intro w' hw'; obtain ⟨g0, g1, g2, g3⟩ := KC.out _ (below_undrew9 hw'); go_simp⟩) hS9 ?_
          simp only [Act.put, List.setIfInBounds_toArray, List.set_cons_zero, List.set_cons_succ]
          refine wpAnyH_done (by kernel_rfl) ?_ _
          go_wp2
          go_roundg (l.length - (1))
          case measure => omega
          case rel => exact ⟨1, by omega, by omega, by go_num, by rw [HN.out], take_zero hz.out hlt HE.out, (hbel.out.drew).drew⟩
        
        · have b9 : ((x : Int) == (h.rt : Int)) = false := by rw [beq_eq_false_iff_ne]; omega
          have HN : Hid (decide (h.rt ∈ l.take (1)) = decide (h.rt ∈ l.take 0)) := by
            unfold Hid
            rw [show l.take (1) = l.take 0 ++ [x] by rw [List.take_add_one, HXK.out]; rfl]
            have hx9b : ¬ h.rt = x := fun e => hx9 e.symm; simp [hx9b]
          clear hx9
          go_wp2_with fail
          refine wp_region_held_drew (S := (fun W' : World => Below wr.drew.heap.size wr.drew W')) (by kernel_rfl) (below_drewN (Below.refl _ _) 1) (fun hS9 => ?_)
          refine wpAnyH_take (i := 0) (oi := ⟨some 40, _, _, _, _, _⟩) (v := Value.pointer (some ⟨w.heap.size, 10, none⟩)) rfl (by kernel_rfl) (by kernel_rfl) (by kernel_rfl) (fun _ _ _ h => h) (Or.inl ⟨by rfl, by intro w' hw'; obtain ⟨g0, g1, g2, g3⟩ := KC.out _ (below_undrew9 hw'); go_simp⟩) hS9 ?_
          simp only [Act.put, List.setIfInBounds_toArray, List.set_cons_zero, List.set_cons_succ]
          refine wpAnyH_take (i := 1) (oi := ⟨some 41, _, _, _, _, _⟩) (v := .slice (some ⟨b, off, none⟩) l.length cap) rfl (by kernel_rfl) (by kernel_rfl) (by kernel_rfl) (fun _ _ _ h => h) (Or.inl ⟨by rfl, by intro w' hw'; obtain ⟨g0, g1, g2, g3⟩ := KC.out _ (below_undrew9 hw'); go_simp⟩) hS9 ?_
          simp only [Act.put, List.setIfInBounds_toArray, List.set_cons_zero, List.set_cons_succ]
          refine wpAnyH_take (i := 2) (oi := ⟨some 42, _, _, _, _, _⟩) (v := .int .i64 ((0 : Nat) : Int)) rfl (by kernel_rfl) (by kernel_rfl) (by kernel_rfl) (fun _ _ _ h => h) (Or.inl ⟨by rfl, by intro w' hw'; obtain ⟨g0, g1, g2, g3⟩ := KC.out _ (below_undrew9 hw'); go_simp⟩) hS9 ?_
          simp only [Act.put, List.setIfInBounds_toArray, List.set_cons_zero, List.set_cons_succ]
          refine wpAnyH_take (i := 3) (oi := ⟨some 43, _, _, _, _, _⟩) (v := Value.pointer (some ⟨b, off, none⟩)) rfl (by kernel_rfl) (by kernel_rfl) (by kernel_rfl) (fun _ _ _ h => h) (Or.inl ⟨by rfl, by intro w' hw'; obtain ⟨g0, g1, g2, g3⟩ := KC.out _ (below_undrew9 hw'); go_simp⟩) hS9 ?_
          simp only [Act.put, List.setIfInBounds_toArray, List.set_cons_zero, List.set_cons_succ]
          refine wpAnyH_take (i := 4) (oi := ⟨some 44, _, _, _, _, _⟩) (v := .int .u32 (x : Int)) rfl (by kernel_rfl) (by kernel_rfl) (by kernel_rfl) (fun _ _ _ h => h) (Or.inl ⟨by rfl, by intro w' hw'; obtain ⟨g0, g1, g2, g3⟩ := KC.out _ (below_undrew9 hw'); go_simp⟩) hS9 ?_
          simp only [Act.put, List.setIfInBounds_toArray, List.set_cons_zero, List.set_cons_succ]
          refine wpAnyH_take (i := 5) (oi := ⟨some 45, _, _, _, _, _⟩) (v := Value.pointer (some ⟨w.heap.size, 0, none⟩)) rfl (by kernel_rfl) (by kernel_rfl) (by kernel_rfl) (fun _ _ _ h => h) (Or.inl ⟨by rfl, by intro w' hw'; obtain ⟨g0, g1, g2, g3⟩ := KC.out _ (below_undrew9 hw'); go_simp⟩) hS9 ?_
          simp only [Act.put, List.setIfInBounds_toArray, List.set_cons_zero, List.set_cons_succ]
          refine wpAnyH_take (i := 6) (oi := ⟨some 46, _, _, _, _, _⟩) (v := Value.pointer (some ⟨w.heap.size, 3, none⟩)) rfl (by kernel_rfl) (by kernel_rfl) (by kernel_rfl) (fun _ _ _ h => h) (Or.inl ⟨by rfl, by intro w' hw'; obtain ⟨g0, g1, g2, g3⟩ := KC.out _ (below_undrew9 hw'); go_simp⟩) hS9 ?_
          simp only [Act.put, List.setIfInBounds_toArray, List.set_cons_zero, List.set_cons_succ]
          refine wpAnyH_take (i := 7) (oi := ⟨some 47, _, _, _, _, _⟩) (v := .int .u32 (h.rt : Int)) rfl (by kernel_rfl) (by kernel_rfl) (by kernel_rfl) (fun _ _ _ h => h) (Or.inl ⟨by rfl, by intro w' hw'; obtain ⟨g0, g1, g2, g3⟩ := KC.out _ (below_undrew9 hw'); go_simp⟩) hS9 ?_
          simp only [Act.put, List.setIfInBounds_toArray, List.set_cons_zero, List.set_cons_succ]
          refine wpAnyH_take (i := 8) (oi := ⟨some 48, _, _, _, _, _⟩) (v := .bool false) rfl (by kernel_rfl) (by kernel_rfl) (by kernel_rfl) (fun _ _ _ h => h) (Or.inl ⟨by rfl, by intro w' hw'; obtain ⟨g0, g1, g2, g3⟩ := KC.out _ (below_undrew9 hw'); go_simp⟩) hS9 ?_
          simp only [Act.put, List.setIfInBounds_toArray, List.set_cons_zero, List.set_cons_succ]
          refine wpAnyH_done (by kernel_rfl) ?_ _
          go_wp2
          go_roundg (l.length - (1))
          case measure => omega
          case rel => exact ⟨1, by omega, by omega, by go_num, by rw [HN.out], take_zero hz.out hlt HE.out, (hbel.out.drew).drew⟩
      · obtain ⟨y, hy⟩ : ∃ y, l[j]? = some y := ⟨_, List.getElem?_eq_getElem (by omega)⟩
        obtain ⟨b', off', e1, hbl', y0⟩ := hrd j y hy
        obtain ⟨rfl, rfl⟩ : b = b' ∧ off = off' := by injection e1 with e1; injection e1 with e1 e2; exact ⟨e1, e2⟩
        have KC := Lib.hid (KC0.out _ x x0 _ y y0)
        have HLN : lastN l (j + 1) = y := lastN_succ hy
        have q1 : (0 : Int) < ((j + 1 : Nat) : Int) := by omega
        have q2 : IntKind.i64.wrap (((j + 1 : Nat) : Int) - 1) = (j : Int) := by rw [show ((j + 1 : Nat) : Int) - 1 = (j : Int) by omega]; exact IntWalk.i64_in _ (by omega)
        have q6 : IntKind.i64.wrap (j : Int) = (j : Int) := IntWalk.i64_in _ (by omega)
        have q3 : (0 : Int) ≤ (j : Int) := by omega
        have q7 : ¬ (j : Int) + 1 < 0 := by omega
        have q4 : (j : Int) < (l.length : Int) := by omega
        have q5 : decide ((0 : Int) < ((j + 1 : Nat) : Int)) = true := decide_eq_true q1
        clear hrd hx0 hy
        by_cases hcc : x ≤ y
        · have HV : Hid (atC l h.rt = 16) := atC_bad hlen hz.out HXK.out hlt (by rw [HLN]; exact hcc)
          have d1 : decide ((x : Int) ≤ (y : Int)) = true := decide_eq_true (by omega)
          clear HLN
          go_wp2_with fail
          refine wp_region_held_drew (S := (fun W' : World => Below wr.heap.size wr W')) (by kernel_rfl) (below_drewN (Below.refl _ _) 1) (fun hS0 => ?_)
          refine wpAnyH_take (i := 0) (oi := ⟨some 16, _, _, _, _, _⟩) (v := Value.pointer (some ⟨w.heap.size, 10, none⟩)) rfl (by kernel_rfl) (by kernel_rfl) (by kernel_rfl) (fun _ _ _ h => h) (Or.inl ⟨by rfl, by intro w' hw'; obtain ⟨g0, g1, g2, g3⟩ := KC.out _ hw'; go_simp⟩) hS0 ?_
          simp only [Act.put, List.setIfInBounds_toArray, List.set_cons_zero, List.set_cons_succ]
          refine wpAnyH_take (i := 1) (oi := ⟨some 17, _, _, _, _, _⟩) (v := .slice (some ⟨b, off, none⟩) l.length cap) rfl (by kernel_rfl) (by kernel_rfl) (by kernel_rfl) (fun _ _ _ h => h) (Or.inl ⟨by rfl, by intro w' hw'; obtain ⟨g0, g1, g2, g3⟩ := KC.out _ hw'; go_simp⟩) hS0 ?_
          simp only [Act.put, List.setIfInBounds_toArray, List.set_cons_zero, List.set_cons_succ]
          refine wpAnyH_take (i := 2) (oi := ⟨some 18, _, _, _, _, _⟩) (v := .int .i64 ((j + 1 : Nat) : Int)) rfl (by kernel_rfl) (by kernel_rfl) (by kernel_rfl) (fun _ _ _ h => h) (Or.inl ⟨by rfl, by intro w' hw'; obtain ⟨g0, g1, g2, g3⟩ := KC.out _ hw'; go_simp⟩) hS0 ?_
          simp only [Act.put, List.setIfInBounds_toArray, List.set_cons_zero, List.set_cons_succ]
          refine wpAnyH_take (i := 3) (oi := ⟨some 19, _, _, _, _, _⟩) (v := Value.pointer (some ⟨b, off + (j + 1), none⟩)) rfl (by kernel_rfl) (by kernel_rfl) (by kernel_rfl) (fun _ _ _ h => h) (Or.inl ⟨by rfl, by intro w' hw'; obtain ⟨g0, g1, g2, g3⟩ := KC.out _ hw'; go_simp⟩) hS0 ?_
          simp only [Act.put, List.setIfInBounds_toArray, List.set_cons_zero, List.set_cons_succ]
          refine wpAnyH_take (i := 4) (oi := ⟨some 20, _, _, _, _, _⟩) (v := .int .u32 (x : Int)) rfl (by kernel_rfl) (by kernel_rfl) (by kernel_rfl) (fun _ _ _ h => h) (Or.inl ⟨by rfl, by intro w' hw'; obtain ⟨g0, g1, g2, g3⟩ := KC.out _ hw'; go_simp⟩) hS0 ?_
          simp only [Act.put, List.setIfInBounds_toArray, List.set_cons_zero, List.set_cons_succ]
          refine wpAnyH_take (i := 5) (oi := ⟨some 21, _, _, _, _, _⟩) (v := .bool false) rfl (by kernel_rfl) (by kernel_rfl) (by kernel_rfl) (fun _ _ _ h => h) (Or.inl ⟨by rfl, by intro w' hw'; obtain ⟨g0, g1, g2, g3⟩ := KC.out _ hw'; go_simp⟩) hS0 ?_
          simp only [Act.put, List.setIfInBounds_toArray, List.set_cons_zero, List.set_cons_succ]
          refine wpAnyH_take (i := 6) (oi := ⟨some 22, _, _, _, _, _⟩) (v := .bool false) rfl (by kernel_rfl) (by kernel_rfl) (by kernel_rfl) (fun _ _ _ h => h) (Or.inl ⟨by rfl, by intro w' hw'; obtain ⟨g0, g1, g2, g3⟩ := KC.out _ hw'; go_simp⟩) hS0 ?_
          simp only [Act.put, List.setIfInBounds_toArray, List.set_cons_zero, List.set_cons_succ]
          refine wpAnyH_take (i := 7) (oi := ⟨some 23, _, _, _, _, _⟩) (v := .int .i64 ((j + 1 : Nat) : Int)) rfl (by kernel_rfl) (by kernel_rfl) (by kernel_rfl) (fun _ _ _ h => h) (Or.inl ⟨by rfl, by intro w' hw'; obtain ⟨g0, g1, g2, g3⟩ := KC.out _ hw'; go_simp⟩) hS0 ?_
          simp only [Act.put, List.setIfInBounds_toArray, List.set_cons_zero, List.set_cons_succ]
          refine wpAnyH_take (i := 8) (oi := ⟨some 24, _, _, _, _, _⟩) (v := .bool true) rfl (by kernel_rfl) (by kernel_rfl) (by kernel_rfl) (fun _ _ _ h => h) (Or.inl ⟨by rfl, by intro w' hw'; obtain ⟨g0, g1, g2, g3⟩ := KC.out _ hw'; go_simp⟩) hS0 ?_
          simp only [Act.put, List.setIfInBounds_toArray, List.set_cons_zero, List.set_cons_succ]
          refine wpAnyH_take (i := 9) (oi := ⟨some 25, _, _, _, _, _⟩) (v := .bool true) rfl (by kernel_rfl) (by kernel_rfl) (by kernel_rfl) (fun _ _ _ h => h) (Or.inl ⟨by rfl, by intro w' hw'; obtain ⟨g0, g1, g2, g3⟩ := KC.out _ hw'; go_simp⟩) hS0 ?_
          simp only [Act.put, List.setIfInBounds_toArray, List.set_cons_zero, List.set_cons_succ]
          refine wpAnyH_take (i := 10) (oi := ⟨some 26, _, _, _, _, _⟩) (v := Value.pointer (some ⟨w.heap.size, 10, none⟩)) rfl (by kernel_rfl) (by kernel_rfl) (by kernel_rfl) (fun _ _ _ h => h) (Or.inl ⟨by rfl, by intro w' hw'; obtain ⟨g0, g1, g2, g3⟩ := KC.out _ hw'; go_simp⟩) hS0 ?_
          simp only [Act.put, List.setIfInBounds_toArray, List.set_cons_zero, List.set_cons_succ]
          refine wpAnyH_take (i := 11) (oi := ⟨some 27, _, _, _, _, _⟩) (v := .slice (some ⟨b, off, none⟩) l.length cap) rfl (by kernel_rfl) (by kernel_rfl) (by kernel_rfl) (fun _ _ _ h => h) (Or.inl ⟨by rfl, by intro w' hw'; obtain ⟨g0, g1, g2, g3⟩ := KC.out _ hw'; go_simp⟩) hS0 ?_
          simp only [Act.put, List.setIfInBounds_toArray, List.set_cons_zero, List.set_cons_succ]
          refine wpAnyH_take (i := 12) (oi := ⟨some 28, _, _, _, _, _⟩) (v := .int .i64 ((j + 1 : Nat) : Int)) rfl (by kernel_rfl) (by kernel_rfl) (by kernel_rfl) (fun _ _ _ h => h) (Or.inl ⟨by rfl, by intro w' hw'; obtain ⟨g0, g1, g2, g3⟩ := KC.out _ hw'; go_simp⟩) hS0 ?_
          simp only [Act.put, List.setIfInBounds_toArray, List.set_cons_zero, List.set_cons_succ]
          refine wpAnyH_take (i := 13) (oi := ⟨some 29, _, _, _, _, _⟩) (v := Value.pointer (some ⟨b, off + (j + 1), none⟩)) rfl (by kernel_rfl) (by kernel_rfl) (by kernel_rfl) (fun _ _ _ h => h) (Or.inl ⟨by rfl, by intro w' hw'; obtain ⟨g0, g1, g2, g3⟩ := KC.out _ hw'; go_simp⟩) hS0 ?_
          simp only [Act.put, List.setIfInBounds_toArray, List.set_cons_zero, List.set_cons_succ]
          refine wpAnyH_take (i := 14) (oi := ⟨some 30, _, _, _, _, _⟩) (v := .int .u32 (x : Int)) rfl (by kernel_rfl) (by kernel_rfl) (by kernel_rfl) (fun _ _ _ h => h) (Or.inl ⟨by rfl, by intro w' hw'; obtain ⟨g0, g1, g2, g3⟩ := KC.out _ hw'; go_simp⟩) hS0 ?_
          simp only [Act.put, List.setIfInBounds_toArray, List.set_cons_zero, List.set_cons_succ]
          refine wpAnyH_take (i := 15) (oi := ⟨some 31, _, _, _, _, _⟩) (v := Value.pointer (some ⟨w.heap.size, 10, none⟩)) rfl (by kernel_rfl) (by kernel_rfl) (by kernel_rfl) (fun _ _ _ h => h) (Or.inl ⟨by rfl, by intro w' hw'; obtain ⟨g0, g1, g2, g3⟩ := KC.out _ hw'; go_simp⟩) hS0 ?_
          simp only [Act.put, List.setIfInBounds_toArray, List.set_cons_zero, List.set_cons_succ]
          refine wpAnyH_take (i := 16) (oi := ⟨some 32, _, _, _, _, _⟩) (v := .slice (some ⟨b, off, none⟩) l.length cap) rfl (by kernel_rfl) (by kernel_rfl) (by kernel_rfl) (fun _ _ _ h => h) (Or.inl ⟨by rfl, by intro w' hw'; obtain ⟨g0, g1, g2, g3⟩ := KC.out _ hw'; go_simp⟩) hS0 ?_
          simp only [Act.put, List.setIfInBounds_toArray, List.set_cons_zero, List.set_cons_succ]
          refine wpAnyH_take (i := 17) (oi := ⟨some 33, _, _, _, _, _⟩) (v := .int .i64 ((j + 1 : Nat) : Int)) rfl (by kernel_rfl) (by kernel_rfl) (by kernel_rfl) (fun _ _ _ h => h) (Or.inl ⟨by rfl, by intro w' hw'; obtain ⟨g0, g1, g2, g3⟩ := KC.out _ hw'; go_simp⟩) hS0 ?_
          simp only [Act.put, List.setIfInBounds_toArray, List.set_cons_zero, List.set_cons_succ]
          refine wpAnyH_take (i := 18) (oi := ⟨some 34, _, _, _, _, _⟩) (v := .int .i64 (j : Int)) rfl (by kernel_rfl) (by kernel_rfl) (by kernel_rfl) (fun _ _ _ h => h) (Or.inl ⟨by rfl, by intro w' hw'; obtain ⟨g0, g1, g2, g3⟩ := KC.out _ hw'; go_simp⟩) hS0 ?_
          simp only [Act.put, List.setIfInBounds_toArray, List.set_cons_zero, List.set_cons_succ]
          refine wpAnyH_take (i := 19) (oi := ⟨some 35, _, _, _, _, _⟩) (v := Value.pointer (some ⟨b, off + j, none⟩)) rfl (by kernel_rfl) (by kernel_rfl) (by kernel_rfl) (fun _ _ _ h => h) (Or.inl ⟨by rfl, by intro w' hw'; obtain ⟨g0, g1, g2, g3⟩ := KC.out _ hw'; go_simp⟩) hS0 ?_
          simp only [Act.put, List.setIfInBounds_toArray, List.set_cons_zero, List.set_cons_succ]
          refine wpAnyH_take (i := 20) (oi := ⟨some 36, _, _, _, _, _⟩) (v := .int .u32 (y : Int)) rfl (by kernel_rfl) (by kernel_rfl) (by kernel_rfl) (fun _ _ _ h => h) (Or.inl ⟨by rfl, by intro w' hw'; obtain ⟨g0, g1, g2, g3⟩ := KC.out _ hw'; go_simp⟩) hS0 ?_
          simp only [Act.put, List.setIfInBounds_toArray, List.set_cons_zero, List.set_cons_succ]
          refine wpAnyH_take (i := 21) (oi := ⟨some 37, _, _, _, _, _⟩) (v := .bool true) rfl (by kernel_rfl) (by kernel_rfl) (by kernel_rfl) (fun _ _ _ h => h) (Or.inl ⟨by rfl, by intro w' hw'; obtain ⟨g0, g1, g2, g3⟩ := KC.out _ hw'; go_simp⟩) hS0 ?_
          simp only [Act.put, List.setIfInBounds_toArray, List.set_cons_zero, List.set_cons_succ]
          refine wpAnyH_take (i := 22) (oi := ⟨some 38, _, _, _, _, _⟩) (v := .bool true) rfl (by kernel_rfl) (by kernel_rfl) (by kernel_rfl) (fun _ _ _ h => h) (Or.inl ⟨by rfl, by intro w' hw'; obtain ⟨g0, g1, g2, g3⟩ := KC.out _ hw'; go_simp⟩) hS0 ?_
          simp only [Act.put, List.setIfInBounds_toArray, List.set_cons_zero, List.set_cons_succ]
          refine wpAnyH_take (i := 23) (oi := ⟨some 39, _, _, _, _, _⟩) (v := .bool true) rfl (by kernel_rfl) (by kernel_rfl) (by kernel_rfl) (fun _ _ _ h => h) (Or.inl ⟨by rfl, by intro w' hw'; obtain ⟨g0, g1, g2, g3⟩ := KC.out _ hw'; go_simp⟩) hS0 ?_
          simp only [Act.put, List.setIfInBounds_toArray, List.set_cons_zero, List.set_cons_succ]
          refine wpAnyH_done (by kernel_rfl) ?_ _
          go_wp2
          go_ret
          exact ⟨ret_i HV.out.symm, HBW.out.drew⟩
        · have HE : Hid (ascL l (j + 1) = 0) := ascL_ok HXK.out (by rw [HLN]; exact hcc)
          have d1 : decide ((x : Int) ≤ (y : Int)) = false := decide_eq_false (by omega)
          have hcc2 : y < x := by omega
          clear HLN
          go_wp2_with fail
          refine wp_region_held_drew (S := (fun W' : World => Below wr.heap.size wr W')) (by kernel_rfl) (below_drewN (Below.refl _ _) 1) (fun hS0 => ?_)
          refine wpAnyH_take (i := 0) (oi := ⟨some 16, _, _, _, _, _⟩) (v := Value.pointer (some ⟨w.heap.size, 10, none⟩)) rfl (by kernel_rfl) (by kernel_rfl) (by kernel_rfl) (fun _ _ _ h => h) (Or.inl ⟨by rfl, by intro w' hw'; obtain ⟨g0, g1, g2, g3⟩ := KC.out _ hw'; go_simp⟩) hS0 ?_
          simp only [Act.put, List.setIfInBounds_toArray, List.set_cons_zero, List.set_cons_succ]
          refine wpAnyH_take (i := 1) (oi := ⟨some 17, _, _, _, _, _⟩) (v := .slice (some ⟨b, off, none⟩) l.length cap) rfl (by kernel_rfl) (by kernel_rfl) (by kernel_rfl) (fun _ _ _ h => h) (Or.inl ⟨by rfl, by intro w' hw'; obtain ⟨g0, g1, g2, g3⟩ := KC.out _ hw'; go_simp⟩) hS0 ?_
          simp only [Act.put, List.setIfInBounds_toArray, List.set_cons_zero, List.set_cons_succ]
          refine wpAnyH_take (i := 2) (oi := ⟨some 18, _, _, _, _, _⟩) (v := .int .i64 ((j + 1 : Nat) : Int)) rfl (by kernel_rfl) (by kernel_rfl) (by kernel_rfl) (fun _ _ _ h => h) (Or.inl ⟨by rfl, by intro w' hw'; obtain ⟨g0, g1, g2, g3⟩ := KC.out _ hw'; go_simp⟩) hS0 ?_
          simp only [Act.put, List.setIfInBounds_toArray, List.set_cons_zero, List.set_cons_succ]
          refine wpAnyH_take (i := 3) (oi := ⟨some 19, _, _, _, _, _⟩) (v := Value.pointer (some ⟨b, off + (j + 1), none⟩)) rfl (by kernel_rfl) (by kernel_rfl) (by kernel_rfl) (fun _ _ _ h => h) (Or.inl ⟨by rfl, by intro w' hw'; obtain ⟨g0, g1, g2, g3⟩ := KC.out _ hw'; go_simp⟩) hS0 ?_
          simp only [Act.put, List.setIfInBounds_toArray, List.set_cons_zero, List.set_cons_succ]
          refine wpAnyH_take (i := 4) (oi := ⟨some 20, _, _, _, _, _⟩) (v := .int .u32 (x : Int)) rfl (by kernel_rfl) (by kernel_rfl) (by kernel_rfl) (fun _ _ _ h => h) (Or.inl ⟨by rfl, by intro w' hw'; obtain ⟨g0, g1, g2, g3⟩ := KC.out _ hw'; go_simp⟩) hS0 ?_
          simp only [Act.put, List.setIfInBounds_toArray, List.set_cons_zero, List.set_cons_succ]
          refine wpAnyH_take (i := 5) (oi := ⟨some 21, _, _, _, _, _⟩) (v := .bool false) rfl (by kernel_rfl) (by kernel_rfl) (by kernel_rfl) (fun _ _ _ h => h) (Or.inl ⟨by rfl, by intro w' hw'; obtain ⟨g0, g1, g2, g3⟩ := KC.out _ hw'; go_simp⟩) hS0 ?_
          simp only [Act.put, List.setIfInBounds_toArray, List.set_cons_zero, List.set_cons_succ]
          refine wpAnyH_take (i := 6) (oi := ⟨some 22, _, _, _, _, _⟩) (v := .bool false) rfl (by kernel_rfl) (by kernel_rfl) (by kernel_rfl) (fun _ _ _ h => h) (Or.inl ⟨by rfl, by intro w' hw'; obtain ⟨g0, g1, g2, g3⟩ := KC.out _ hw'; go_simp⟩) hS0 ?_
          simp only [Act.put, List.setIfInBounds_toArray, List.set_cons_zero, List.set_cons_succ]
          refine wpAnyH_take (i := 7) (oi := ⟨some 23, _, _, _, _, _⟩) (v := .int .i64 ((j + 1 : Nat) : Int)) rfl (by kernel_rfl) (by kernel_rfl) (by kernel_rfl) (fun _ _ _ h => h) (Or.inl ⟨by rfl, by intro w' hw'; obtain ⟨g0, g1, g2, g3⟩ := KC.out _ hw'; go_simp⟩) hS0 ?_
          simp only [Act.put, List.setIfInBounds_toArray, List.set_cons_zero, List.set_cons_succ]
          refine wpAnyH_take (i := 8) (oi := ⟨some 24, _, _, _, _, _⟩) (v := .bool true) rfl (by kernel_rfl) (by kernel_rfl) (by kernel_rfl) (fun _ _ _ h => h) (Or.inl ⟨by rfl, by intro w' hw'; obtain ⟨g0, g1, g2, g3⟩ := KC.out _ hw'; go_simp⟩) hS0 ?_
          simp only [Act.put, List.setIfInBounds_toArray, List.set_cons_zero, List.set_cons_succ]
          refine wpAnyH_take (i := 9) (oi := ⟨some 25, _, _, _, _, _⟩) (v := .bool true) rfl (by kernel_rfl) (by kernel_rfl) (by kernel_rfl) (fun _ _ _ h => h) (Or.inl ⟨by rfl, by intro w' hw'; obtain ⟨g0, g1, g2, g3⟩ := KC.out _ hw'; go_simp⟩) hS0 ?_
          simp only [Act.put, List.setIfInBounds_toArray, List.set_cons_zero, List.set_cons_succ]
          refine wpAnyH_take (i := 10) (oi := ⟨some 26, _, _, _, _, _⟩) (v := Value.pointer (some ⟨w.heap.size, 10, none⟩)) rfl (by kernel_rfl) (by kernel_rfl) (by kernel_rfl) (fun _ _ _ h => h) (Or.inl ⟨by rfl, by intro w' hw'; obtain ⟨g0, g1, g2, g3⟩ := KC.out _ hw'; go_simp⟩) hS0 ?_
          simp only [Act.put, List.setIfInBounds_toArray, List.set_cons_zero, List.set_cons_succ]
          refine wpAnyH_take (i := 11) (oi := ⟨some 27, _, _, _, _, _⟩) (v := .slice (some ⟨b, off, none⟩) l.length cap) rfl (by kernel_rfl) (by kernel_rfl) (by kernel_rfl) (fun _ _ _ h => h) (Or.inl ⟨by rfl, by intro w' hw'; obtain ⟨g0, g1, g2, g3⟩ := KC.out _ hw'; go_simp⟩) hS0 ?_
          simp only [Act.put, List.setIfInBounds_toArray, List.set_cons_zero, List.set_cons_succ]
          refine wpAnyH_take (i := 12) (oi := ⟨some 28, _, _, _, _, _⟩) (v := .int .i64 ((j + 1 : Nat) : Int)) rfl (by kernel_rfl) (by kernel_rfl) (by kernel_rfl) (fun _ _ _ h => h) (Or.inl ⟨by rfl, by intro w' hw'; obtain ⟨g0, g1, g2, g3⟩ := KC.out _ hw'; go_simp⟩) hS0 ?_
          simp only [Act.put, List.setIfInBounds_toArray, List.set_cons_zero, List.set_cons_succ]
          refine wpAnyH_take (i := 13) (oi := ⟨some 29, _, _, _, _, _⟩) (v := Value.pointer (some ⟨b, off + (j + 1), none⟩)) rfl (by kernel_rfl) (by kernel_rfl) (by kernel_rfl) (fun _ _ _ h => h) (Or.inl ⟨by rfl, by intro w' hw'; obtain ⟨g0, g1, g2, g3⟩ := KC.out _ hw'; go_simp⟩) hS0 ?_
          simp only [Act.put, List.setIfInBounds_toArray, List.set_cons_zero, List.set_cons_succ]
          refine wpAnyH_take (i := 14) (oi := ⟨some 30, _, _, _, _, _⟩) (v := .int .u32 (x : Int)) rfl (by kernel_rfl) (by kernel_rfl) (by kernel_rfl) (fun _ _ _ h => h) (Or.inl ⟨by rfl, by intro w' hw'; obtain ⟨g0, g1, g2, g3⟩ := KC.out _ hw'; go_simp⟩) hS0 ?_
          simp only [Act.put, List.setIfInBounds_toArray, List.set_cons_zero, List.set_cons_succ]
          refine wpAnyH_take (i := 15) (oi := ⟨some 31, _, _, _, _, _⟩) (v := Value.pointer (some ⟨w.heap.size, 10, none⟩)) rfl (by kernel_rfl) (by kernel_rfl) (by kernel_rfl) (fun _ _ _ h => h) (Or.inl ⟨by rfl, by intro w' hw'; obtain ⟨g0, g1, g2, g3⟩ := KC.out _ hw'; go_simp⟩) hS0 ?_
          simp only [Act.put, List.setIfInBounds_toArray, List.set_cons_zero, List.set_cons_succ]
          refine wpAnyH_take (i := 16) (oi := ⟨some 32, _, _, _, _, _⟩) (v := .slice (some ⟨b, off, none⟩) l.length cap) rfl (by kernel_rfl) (by kernel_rfl) (by kernel_rfl) (fun _ _ _ h => h) (Or.inl ⟨by rfl, by intro w' hw'; obtain ⟨g0, g1, g2, g3⟩ := KC.out _ hw'; go_simp⟩) hS0 ?_
          simp only [Act.put, List.setIfInBounds_toArray, List.set_cons_zero, List.set_cons_succ]
          refine wpAnyH_take (i := 17) (oi := ⟨some 33, _, _, _, _, _⟩) (v := .int .i64 ((j + 1 : Nat) : Int)) rfl (by kernel_rfl) (by kernel_rfl) (by kernel_rfl) (fun _ _ _ h => h) (Or.inl ⟨by rfl, by intro w' hw'; obtain ⟨g0, g1, g2, g3⟩ := KC.out _ hw'; go_simp⟩) hS0 ?_
          simp only [Act.put, List.setIfInBounds_toArray, List.set_cons_zero, List.set_cons_succ]
          refine wpAnyH_take (i := 18) (oi := ⟨some 34, _, _, _, _, _⟩) (v := .int .i64 (j : Int)) rfl (by kernel_rfl) (by kernel_rfl) (by kernel_rfl) (fun _ _ _ h => h) (Or.inl ⟨by rfl, by intro w' hw'; obtain ⟨g0, g1, g2, g3⟩ := KC.out _ hw'; go_simp⟩) hS0 ?_
          simp only [Act.put, List.setIfInBounds_toArray, List.set_cons_zero, List.set_cons_succ]
          refine wpAnyH_take (i := 19) (oi := ⟨some 35, _, _, _, _, _⟩) (v := Value.pointer (some ⟨b, off + j, none⟩)) rfl (by kernel_rfl) (by kernel_rfl) (by kernel_rfl) (fun _ _ _ h => h) (Or.inl ⟨by rfl, by intro w' hw'; obtain ⟨g0, g1, g2, g3⟩ := KC.out _ hw'; go_simp⟩) hS0 ?_
          simp only [Act.put, List.setIfInBounds_toArray, List.set_cons_zero, List.set_cons_succ]
          refine wpAnyH_take (i := 20) (oi := ⟨some 36, _, _, _, _, _⟩) (v := .int .u32 (y : Int)) rfl (by kernel_rfl) (by kernel_rfl) (by kernel_rfl) (fun _ _ _ h => h) (Or.inl ⟨by rfl, by intro w' hw'; obtain ⟨g0, g1, g2, g3⟩ := KC.out _ hw'; go_simp⟩) hS0 ?_
          simp only [Act.put, List.setIfInBounds_toArray, List.set_cons_zero, List.set_cons_succ]
          refine wpAnyH_take (i := 21) (oi := ⟨some 37, _, _, _, _, _⟩) (v := .bool false) rfl (by kernel_rfl) (by kernel_rfl) (by kernel_rfl) (fun _ _ _ h => h) (Or.inl ⟨by rfl, by intro w' hw'; obtain ⟨g0, g1, g2, g3⟩ := KC.out _ hw'; go_simp⟩) hS0 ?_
          simp only [Act.put, List.setIfInBounds_toArray, List.set_cons_zero, List.set_cons_succ]
          refine wpAnyH_take (i := 22) (oi := ⟨some 38, _, _, _, _, _⟩) (v := .bool false) rfl (by kernel_rfl) (by kernel_rfl) (by kernel_rfl) (fun _ _ _ h => h) (Or.inl ⟨by rfl, by intro w' hw'; obtain ⟨g0, g1, g2, g3⟩ := KC.out _ hw'; go_simp⟩) hS0 ?_
          simp only [Act.put, List.setIfInBounds_toArray, List.set_cons_zero, List.set_cons_succ]
          refine wpAnyH_take (i := 23) (oi := ⟨some 39, _, _, _, _, _⟩) (v := .bool false) rfl (by kernel_rfl) (by kernel_rfl) (by kernel_rfl) (fun _ _ _ h => h) (Or.inl ⟨by rfl, by intro w' hw'; obtain ⟨g0, g1, g2, g3⟩ := KC.out _ hw'; go_simp⟩) hS0 ?_
          simp only [Act.put, List.setIfInBounds_toArray, List.set_cons_zero, List.set_cons_succ]
          refine wpAnyH_done (by kernel_rfl) ?_ _
          by_cases hx9 : x = h.rt
          · have b9 : ((x : Int) == (h.rt : Int)) = true := by rw [hx9]; simp
            have HN : Hid (decide (h.rt ∈ l.take (j + 1 + 1)) = true) := by
              unfold Hid
              rw [show l.take (j + 1 + 1) = l.take (j + 1) ++ [x] by rw [List.take_add_one, HXK.out]; rfl]
              simp [hx9]
            clear hx9
            go_wp2_with fail
            refine wp_region_held_drew (S := (fun W' : World => Below wr.drew.heap.size wr.drew W')) (by kernel_rfl) (below_drewN (Below.refl _ _) 1) (fun hS9 => ?_)
            refine wpAnyH_take (i := 0) (oi := ⟨some 40, _, _, _, _, _⟩) (v := Value.pointer (some ⟨w.heap.size, 10, none⟩)) rfl (by kernel_rfl) (by kernel_rfl) (by kernel_rfl) (fun _ _ _ h => h) (Or.inl ⟨by rfl, by intro w' hw'; obtain ⟨g0, g1, g2, g3⟩ := KC.out _ (below_undrew9 hw'); go_simp⟩) hS9 ?_
            simp only [Act.put, List.setIfInBounds_toArray, List.set_cons_zero, List.set_cons_succ]
            refine wpAnyH_take (i := 1) (oi := ⟨some 41, _, _, _, _, _⟩) (v := .slice (some ⟨b, off, none⟩) l.length cap) rfl (by kernel_rfl) (by kernel_rfl) (by kernel_rfl) (fun _ _ _ h => h) (Or.inl ⟨by rfl, by intro w' hw'; obtain ⟨g0, g1, g2, g3⟩ := KC.out _ (below_undrew9 hw'); go_simp⟩) hS9 ?_
            simp only [Act.put, List.setIfInBounds_toArray, List.set_cons_zero, List.set_cons_succ]
            refine wpAnyH_take (i := 2) (oi := ⟨some 42, _, _, _, _, _⟩) (v := .int .i64 ((j + 1 : Nat) : Int)) rfl (by kernel_rfl) (by kernel_rfl) (by kernel_rfl) (fun _ _ _ h => h) (Or.inl ⟨by rfl, by intro w' hw'; obtain ⟨g0, g1, g2, g3⟩ := KC.out _ (below_undrew9 hw'); go_simp⟩) hS9 ?_
            simp only [Act.put, List.setIfInBounds_toArray, List.set_cons_zero, List.set_cons_succ]
            refine wpAnyH_take (i := 3) (oi := ⟨some 43, _, _, _, _, _⟩) (v := Value.pointer (some ⟨b, off + (j + 1), none⟩)) rfl (by kernel_rfl) (by kernel_rfl) (by kernel_rfl) (fun _ _ _ h => h) (Or.inl ⟨by rfl, by intro w' hw'; obtain ⟨g0, g1, g2, g3⟩ := KC.out _ (below_undrew9 hw'); go_simp⟩) hS9 ?_
            simp only [Act.put, List.setIfInBounds_toArray, List.set_cons_zero, List.set_cons_succ]
            refine wpAnyH_take (i := 4) (oi := ⟨some 44, _, _, _, _, _⟩) (v := .int .u32 (x : Int)) rfl (by kernel_rfl) (by kernel_rfl) (by kernel_rfl) (fun _ _ _ h => h) (Or.inl ⟨by rfl, by intro w' hw'; obtain ⟨g0, g1, g2, g3⟩ := KC.out _ (below_undrew9 hw'); go_simp⟩) hS9 ?_
            simp only [Act.put, List.setIfInBounds_toArray, List.set_cons_zero, List.set_cons_succ]
            refine wpAnyH_take (i := 5) (oi := ⟨some 45, _, _, _, _, _⟩) (v := Value.pointer (some ⟨w.heap.size, 0, none⟩)) rfl (by kernel_rfl) (by kernel_rfl) (by kernel_rfl) (fun _ _ _ h => h) (Or.inl ⟨by rfl, by intro w' hw'; obtain ⟨g0, g1, g2, g3⟩ := KC.out _ (below_undrew9 hw'); go_simp⟩) hS9 ?_
            simp only [Act.put, List.setIfInBounds_toArray, List.set_cons_zero, List.set_cons_succ]
            refine wpAnyH_take (i := 6) (oi := ⟨some 46, _, _, _, _, _⟩) (v := Value.pointer (some ⟨w.heap.size, 3, none⟩)) rfl (by kernel_rfl) (by kernel_rfl) (by kernel_rfl) (fun _ _ _ h => h) (Or.inl ⟨by rfl, by intro w' hw'; obtain ⟨g0, g1, g2, g3⟩ := KC.out _ (below_undrew9 hw'); go_simp⟩) hS9 ?_
            simp only [Act.put, List.setIfInBounds_toArray, List.set_cons_zero, List.set_cons_succ]
            refine wpAnyH_take (i := 7) (oi := ⟨some 47, _, _, _, _, _⟩) (v := .int .u32 (h.rt : Int)) rfl (by kernel_rfl) (by kernel_rfl) (by kernel_rfl) (fun _ _ _ h => h) (Or.inl ⟨by rfl, by intro w' hw'; obtain ⟨g0, g1, g2, g3⟩ := KC.out _ (below_undrew9 hw'); go_simp⟩) hS9 ?_
            simp only [Act.put, List.setIfInBounds_toArray, List.set_cons_zero, List.set_cons_succ]
            refine wpAnyH_take (i := 8) (oi := ⟨some 48, _, _, _, _, _⟩) (v := .bool true) rfl (by kernel_rfl) (by kernel_rfl) (by kernel_rfl) (fun _ _ _ h => h) (Or.inl ⟨by rfl, by intro w' hw'; obtain ⟨g0, g1, g2, g3⟩ := KC.out _ (below_undrew9 hw'); go_simp⟩) hS9 ?_
            simp only [Act.put, List.setIfInBounds_toArray, List.set_cons_zero, List.set_cons_succ]
            refine wpAnyH_done (by kernel_rfl) ?_ _
            go_wp2
            go_roundg (l.length - (j + 1 + 1))
            case measure => omega
            case rel => exact ⟨j + 1 + 1, by omega, by omega, by go_num, by rw [HN.out], take_zero hz.out hlt HE.out, (hbel.out.drew).drew⟩
          
          · have b9 : ((x : Int) == (h.rt : Int)) = false := by rw [beq_eq_false_iff_ne]; omega
            have HN : Hid (decide (h.rt ∈ l.take (j + 1 + 1)) = decide (h.rt ∈ l.take (j + 1))) := by
              unfold Hid
              rw [show l.take (j + 1 + 1) = l.take (j + 1) ++ [x] by rw [List.take_add_one, HXK.out]; rfl]
              have hx9b : ¬ h.rt = x := fun e => hx9 e.symm; simp [hx9b]
            clear hx9
            go_wp2_with fail
            refine wp_region_held_drew (S := (fun W' : World => Below wr.drew.heap.size wr.drew W')) (by kernel_rfl) (below_drewN (Below.refl _ _) 1) (fun hS9 => ?_)
            refine wpAnyH_take (i := 0) (oi := ⟨some 40, _, _, _, _, _⟩) (v := Value.pointer (some ⟨w.heap.size, 10, none⟩)) rfl (by kernel_rfl) (by kernel_rfl) (by kernel_rfl) (fun _ _ _ h => h) (Or.inl ⟨by rfl, by intro w' hw'; obtain ⟨g0, g1, g2, g3⟩ := KC.out _ (below_undrew9 hw'); go_simp⟩) hS9 ?_
            simp only [Act.put, List.setIfInBounds_toArray, List.set_cons_zero, List.set_cons_succ]
            refine wpAnyH_take (i := 1) (oi := ⟨some 41, _, _, _, _, _⟩) (v := .slice (some ⟨b, off, none⟩) l.length cap) rfl (by kernel_rfl) (by kernel_rfl) (by kernel_rfl) (fun _ _ _ h => h) (Or.inl ⟨by rfl, by intro w' hw'; obtain ⟨g0, g1, g2, g3⟩ := KC.out _ (below_undrew9 hw'); go_simp⟩) hS9 ?_
            simp only [Act.put, List.setIfInBounds_toArray, List.set_cons_zero, List.set_cons_succ]
            refine wpAnyH_take (i := 2) (oi := ⟨some 42, _, _, _, _, _⟩) (v := .int .i64 ((j + 1 : Nat) : Int)) rfl (by kernel_rfl) (by kernel_rfl) (by kernel_rfl) (fun _ _ _ h => h) (Or.inl ⟨by rfl, by intro w' hw'; obtain ⟨g0, g1, g2, g3⟩ := KC.out _ (below_undrew9 hw'); go_simp⟩) hS9 ?_
            simp only [Act.put, List.setIfInBounds_toArray, List.set_cons_zero, List.set_cons_succ]
            refine wpAnyH_take (i := 3) (oi := ⟨some 43, _, _, _, _, _⟩) (v := Value.pointer (some ⟨b, off + (j + 1), none⟩)) rfl (by kernel_rfl) (by kernel_rfl) (by kernel_rfl) (fun _ _ _ h => h) (Or.inl ⟨by rfl, by intro w' hw'; obtain ⟨g0, g1, g2, g3⟩ := KC.out _ (below_undrew9 hw'); go_simp⟩) hS9 ?_
            simp only [Act.put, List.setIfInBounds_toArray, List.set_cons_zero, List.set_cons_succ]
            refine wpAnyH_take (i := 4) (oi := ⟨some 44, _, _, _, _, _⟩) (v := .int .u32 (x : Int)) rfl (by kernel_rfl) (by kernel_rfl) (by kernel_rfl) (fun _ _ _ h => h) (Or.inl ⟨by rfl, by intro w' hw'; obtain ⟨g0, g1, g2, g3⟩ := KC.out _ (below_undrew9 hw'); go_simp⟩) hS9 ?_
            simp only [Act.put, List.setIfInBounds_toArray, List.set_cons_zero, List.set_cons_succ]
            refine wpAnyH_take (i := 5) (oi := ⟨some 45, _, _, _, _, _⟩) (v := Value.pointer (some ⟨w.heap.size, 0, none⟩)) rfl (by kernel_rfl) (by kernel_rfl) (by kernel_rfl) (fun _ _ _ h => h) (Or.inl ⟨by rfl, by intro w' hw'; obtain ⟨g0, g1, g2, g3⟩ := KC.out _ (below_undrew9 hw'); go_simp⟩) hS9 ?_
            simp only [Act.put, List.setIfInBounds_toArray, List.set_cons_zero, List.set_cons_succ]
            refine wpAnyH_take (i := 6) (oi := ⟨some 46, _, _, _, _, _⟩) (v := Value.pointer (some ⟨w.heap.size, 3, none⟩)) rfl (by kernel_rfl) (by kernel_rfl) (by kernel_rfl) (fun _ _ _ h => h) (Or.inl ⟨by rfl, by intro w' hw'; obtain ⟨g0, g1, g2, g3⟩ := KC.out _ (below_undrew9 hw'); go_simp⟩) hS9 ?_
            simp only [Act.put, List.setIfInBounds_toArray, List.set_cons_zero, List.set_cons_succ]
            refine wpAnyH_take (i := 7) (oi := ⟨some 47, _, _, _, _, _⟩) (v := .int .u32 (h.rt : Int)) rfl (by kernel_rfl) (by kernel_rfl) (by kernel_rfl) (fun _ _ _ h => h) (Or.inl ⟨by rfl, by intro w' hw'; obtain ⟨g0, g1, g2, g3⟩ := KC.out _ (below_undrew9 hw'); go_simp⟩) hS9 ?_
            simp only [Act.put, List.setIfInBounds_toArray, List.set_cons_zero, List.set_cons_succ]
            refine wpAnyH_take (i := 8) (oi := ⟨some 48, _, _, _, _, _⟩) (v := .bool false) rfl (by kernel_rfl) (by kernel_rfl) (by kernel_rfl) (fun _ _ _ h => h) (Or.inl ⟨by rfl, by intro w' hw'; obtain ⟨g0, g1, g2, g3⟩ := KC.out _ (below_undrew9 hw'); go_simp⟩) hS9 ?_
            simp only [Act.put, List.setIfInBounds_toArray, List.set_cons_zero, List.set_cons_succ]
            refine wpAnyH_done (by kernel_rfl) ?_ _
            go_wp2
            go_roundg (l.length - (j + 1 + 1))
            case measure => omega
            case rel => exact ⟨j + 1 + 1, by omega, by omega, by go_num, by rw [HN.out], take_zero hz.out hlt HE.out, (hbel.out.drew).drew⟩
    · have hkl : k = l.length := by omega
      subst hkl
      have HV := Lib.hid (atC_end (rt := h.rt) hlen hz.out)
      rw [List.take_length]
      by_cases hm : h.rt ∈ l
      · have HV2 : Hid (atC l h.rt = 0) := by unfold Hid; rw [HV.out, if_pos hm]
        go_wp2
        go_ret
        exact ⟨ret_i HV2.out.symm, HBW.out⟩
      · have HV2 : Hid (atC l h.rt = 14) := by unfold Hid; rw [HV.out, if_neg hm]
        go_wp2
        go_ret
        exact ⟨ret_i HV2.out.symm, HBW.out⟩
end Go.Proofs.Ytenfcnappjekgaa
