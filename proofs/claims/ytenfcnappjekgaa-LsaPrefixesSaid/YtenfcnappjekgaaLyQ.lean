/-
  The walk of the law Prefixes.
-/
import Derived.Test.YtenfcnappjekgaaLzH
import Derived.Test.YtenfcnappjekgaaLzI
namespace Go.Proofs.Ytenfcnappjekgaa
open Go.RowKit
set_option linter.unusedSimpArgs false
set_option linter.unusedVariables false
set_option maxHeartbeats 8000000
set_option maxRecDepth 100000

theorem lawPrefixes_true (x y : Ls) (hx : LsOk x) (aL : Option Addr) (cL : Nat) (aA : Option Addr) (cA : Nat) (aL' : Option Addr) (cL' : Nat) (aA' : Option Addr) (cA' : Nat) (w : World) (hz : sameB x y = true) (hv : RdA w (lsV x.h x.bo x.bd (.slice aL x.ls.length cL) (.slice aA x.ats.length cA) x.co x.se x.fw x.ta) x) (hu : RdA w (lsV y.h y.bo y.bd (.slice aL' y.ls.length cL') (.slice aA' y.ats.length cA') y.co y.se y.fw y.ta) y) :
    Calls Try.prog 9 #[lsV x.h x.bo x.bd (.slice aL x.ls.length cL) (.slice aA x.ats.length cA) x.co x.se x.fw x.ta, lsV y.h y.bo y.bd (.slice aL' y.ls.length cL') (.slice aA' y.ats.length cA') y.co y.se y.fw y.ta] w fun e w' => e = .returned (.bool true) ∧ Below w.heap.size w w' := by
  have H1P : Hid (∀ W, Below w.heap.size w W → Calls Try.prog 36 #[lsV x.h x.bo x.bd (.slice aL x.ls.length cL) (.slice aA x.ats.length cA) x.co x.se x.fw x.ta, lsV y.h y.bo y.bd (.slice aL' y.ls.length cL') (.slice aA' y.ats.length cA') y.co y.se y.fw y.ta] W fun e w' => e = .returned (.bool true) ∧ Below W.heap.size W w') := fun W hW => hz ▸ same_any x y _ _ W (hv.below hW) (hu.below hW)
  have H2P : Hid (∀ W, Below w.heap.size w W → Calls Try.prog 37 #[lsV x.h x.bo x.bd (.slice aL x.ls.length cL) (.slice aA x.ats.length cA) x.co x.se x.fw x.ta, lsV y.h y.bo y.bd (.slice aL' y.ls.length cL') (.slice aA' y.ats.length cA') y.co y.se y.fw y.ta] W fun e w' => e = .returned (.bool true) ∧ Below W.heap.size W w') := fun W hW => hz ▸ rsame_any x y _ _ W (hv.below hW) (hu.below hW)
  have H3P : Hid (∀ W, Below w.heap.size w W → Calls Try.prog 36 #[lsV x.h x.bo x.bd (.slice aL x.ls.length cL) (.slice aA x.ats.length cA) x.co x.se x.fw x.ta, lsV x.h x.bo x.bd (.slice aL x.ls.length cL) (.slice aA x.ats.length cA) x.co x.se x.fw x.ta] W fun e w' => e = .returned (.bool true) ∧ Below W.heap.size W w') := fun W hW => sameB_self x ▸ same_any x x _ _ W (hv.below hW) (hv.below hW)
  obtain ⟨c, hc⟩ : ∃ c, chkF x = c := ⟨_, rfl⟩
  have H4P : Hid (∀ W, Below w.heap.size w W → Calls Try.prog 14 #[lsV x.h x.bo x.bd (.slice aL x.ls.length cL) (.slice aA x.ats.length cA) x.co x.se x.fw x.ta] W fun e w' => e = .returned (.int .i64 c) ∧ Below W.heap.size W w') := fun W hW => hc ▸ rcheck_any x hx _ W (hv.below hW)
  have H5 := Lib.hid lives_any
  have HLEN : Hid (c = 0 → 0 ≤ x.h.len ∧ x.h.len ≤ 32) := fun e => hdr_len (by
    rw [e] at hc
    unfold chkF chkC at hc
    by_cases h : hdrC x.h = 0
    · exact h
    · rw [if_pos h] at hc; exact absurd hc h)
  have H6P : Hid (c = 0 → ∀ W, Calls Try.prog 38 #[lsV x.h x.bo x.bd (.slice aL x.ls.length cL) (.slice aA x.ats.length cA) x.co x.se x.fw x.ta] W fun e w' => e = .returned (pfV x.h) ∧ Below W.heap.size W w') := fun e W => prefix_gen x.h hx.h (HLEN.out e).1 (HLEN.out e).2 _ _ _ _ _ _ _ _ _ _ _ _ W
  have H7P : Hid (c = 0 → ∀ W, Calls Try.prog 39 #[lsV x.h x.bo x.bd (.slice aL x.ls.length cL) (.slice aA x.ats.length cA) x.co x.se x.fw x.ta] W fun e w' => e = .returned (pfV x.h) ∧ Below W.heap.size W w') := fun e W => rprefix_gen x.h hx.h (HLEN.out e).1 (HLEN.out e).2 _ _ _ _ _ _ _ _ _ _ _ _ W
  clear hz hc hv hu hx HLEN
  have BW : Hid (Below w.heap.size w ((w.alloc (lsC x.h x.bo x.bd (.slice aL x.ls.length cL) (.slice aA x.ats.length cA) x.co x.se x.fw x.ta)).alloc (lsC y.h y.bo y.bd (.slice aL' y.ls.length cL') (.slice aA' y.ats.length cA') y.co y.se y.fw y.ta))) := below2 _ _ _
  have SW : Hid (((w.alloc (lsC x.h x.bo x.bd (.slice aL x.ls.length cL) (.slice aA x.ats.length cA) x.co x.se x.fw x.ta)).alloc (lsC y.h y.bo y.bd (.slice aL' y.ls.length cL') (.slice aA' y.ats.length cA') y.co y.se y.fw y.ta)).heap.size = w.heap.size + 1 + 1) := by unfold Hid; simp
  have KW : Hid (∀ W', Below ((w.alloc (lsC x.h x.bo x.bd (.slice aL x.ls.length cL) (.slice aA x.ats.length cA) x.co x.se x.fw x.ta)).alloc (lsC y.h y.bo y.bd (.slice aL' y.ls.length cL') (.slice aA' y.ats.length cA') y.co y.se y.fw y.ta)).heap.size ((w.alloc (lsC x.h x.bo x.bd (.slice aL x.ls.length cL) (.slice aA x.ats.length cA) x.co x.se x.fw x.ta)).alloc (lsC y.h y.bo y.bd (.slice aL' y.ls.length cL') (.slice aA' y.ats.length cA') y.co y.se y.fw y.ta)) W' → ∀ g o, g < w.heap.size + 1 + 1 → W'.cell? ⟨g, o, none⟩ = ((w.alloc (lsC x.h x.bo x.bd (.slice aL x.ls.length cL) (.slice aA x.ats.length cA) x.co x.se x.fw x.ta)).alloc (lsC y.h y.bo y.bd (.slice aL' y.ls.length cL') (.slice aA' y.ats.length cA') y.co y.se y.fw y.ta)).cell? ⟨g, o, none⟩) := fun W' h g o hb => h.cell (p := ⟨g, o, none⟩) (by rw [SW.out]; exact hb)
  go_enter Try.func9, Try.ntmps9
  go_wp2_with fail
  refine wp_region_held_drew (S := (fun W' : World => Below ((w.alloc (lsC x.h x.bo x.bd (.slice aL x.ls.length cL) (.slice aA x.ats.length cA) x.co x.se x.fw x.ta)).alloc (lsC y.h y.bo y.bd (.slice aL' y.ls.length cL') (.slice aA' y.ats.length cA') y.co y.se y.fw y.ta)).heap.size ((w.alloc (lsC x.h x.bo x.bd (.slice aL x.ls.length cL) (.slice aA x.ats.length cA) x.co x.se x.fw x.ta)).alloc (lsC y.h y.bo y.bd (.slice aL' y.ls.length cL') (.slice aA' y.ats.length cA') y.co y.se y.fw y.ta)) W')) (by kernel_rfl) (below_drewN (Below.refl _ _) 1) (fun hS0 => ?_)
  refine wpAnyH_take (i := 0) (oi := ⟨some 9, _, _, _, _, _⟩) (v := lsV x.h x.bo x.bd (.slice aL x.ls.length cL) (.slice aA x.ats.length cA) x.co x.se x.fw x.ta) rfl (by kernel_rfl) (by kernel_rfl) (by kernel_rfl) (fun _ _ _ h => h) (Or.inl ⟨by rfl, by intro w' hw'; have kk := KW.out _ hw'; go_simp⟩) hS0 ?_
  simp only [Act.put, List.setIfInBounds_toArray, List.set_cons_zero, List.set_cons_succ]
  refine wpAnyH_take (i := 1) (oi := ⟨some 10, _, _, _, _, _⟩) (v := lsV y.h y.bo y.bd (.slice aL' y.ls.length cL') (.slice aA' y.ats.length cA') y.co y.se y.fw y.ta) rfl (by kernel_rfl) (by kernel_rfl) (by kernel_rfl) (fun _ _ _ h => h) (Or.inl ⟨by rfl, by intro w' hw'; have kk := KW.out _ hw'; go_simp⟩) hS0 ?_
  simp only [Act.put, List.setIfInBounds_toArray, List.set_cons_zero, List.set_cons_succ]
  refine wpAnyH_take (i := 3) (oi := ⟨some 12, _, _, _, _, _⟩) (v := lsV x.h x.bo x.bd (.slice aL x.ls.length cL) (.slice aA x.ats.length cA) x.co x.se x.fw x.ta) rfl (by kernel_rfl) (by kernel_rfl) (by kernel_rfl) (fun _ _ _ h => h) (Or.inl ⟨by rfl, by intro w' hw'; have kk := KW.out _ hw'; go_simp⟩) hS0 ?_
  simp only [Act.put, List.setIfInBounds_toArray, List.set_cons_zero, List.set_cons_succ]
  refine wpAnyH_take (i := 4) (oi := ⟨some 13, _, _, _, _, _⟩) (v := lsV y.h y.bo y.bd (.slice aL' y.ls.length cL') (.slice aA' y.ats.length cA') y.co y.se y.fw y.ta) rfl (by kernel_rfl) (by kernel_rfl) (by kernel_rfl) (fun _ _ _ h => h) (Or.inl ⟨by rfl, by intro w' hw'; have kk := KW.out _ hw'; go_simp⟩) hS0 ?_
  simp only [Act.put, List.setIfInBounds_toArray, List.set_cons_zero, List.set_cons_succ]
  refine wpAnyH_ready (rs := [2]) (by kernel_rfl) (by simp) ?_
  refine AllReadyH.cons rfl (fun K hK => ?_) AllReadyH.nil
  go_simp
  go_at_call 36
  refine (H1P.out _ (below_then BW.out hS0)).mono ?_
  rintro e w3 ⟨rfl, hb⟩
  have hS1 := keep2 hS0 hb
  clear hb
  (try go_wp2_with fail)
  refine hK.out _ _ hS1 (fun _ => ?_)
  clear hK K
  (try simp only [Act.put, List.setIfInBounds_toArray, List.set_cons_zero, List.set_cons_succ])
  refine wpAnyH_ready (rs := [5]) (by kernel_rfl) (by simp) ?_
  refine AllReadyH.cons rfl (fun K hK => ?_) AllReadyH.nil
  go_simp
  go_at_call 37
  refine (H2P.out _ (below_then BW.out hS1)).mono ?_
  rintro e w3 ⟨rfl, hb⟩
  have hS2 := keep2 hS1 hb
  clear hb
  (try go_wp2_with fail)
  refine hK.out _ _ hS2 (fun _ => ?_)
  clear hK K
  (try simp only [Act.put, List.setIfInBounds_toArray, List.set_cons_zero, List.set_cons_succ])
  refine wpAnyH_take (i := 6) (oi := ⟨some 15, _, _, _, _, _⟩) (v := .bool false) rfl (by kernel_rfl) (by kernel_rfl) (by kernel_rfl) (fun _ _ _ h => h) (Or.inl ⟨by rfl, by intro w' hw'; have kk := KW.out _ hw'; go_simp⟩) hS2 ?_
  simp only [Act.put, List.setIfInBounds_toArray, List.set_cons_zero, List.set_cons_succ]
  refine wpAnyH_take (i := 7) (oi := ⟨some 16, _, _, _, _, _⟩) (v := .bool false) rfl (by kernel_rfl) (by kernel_rfl) (by kernel_rfl) (fun _ _ _ h => h) (Or.inl ⟨by rfl, by intro w' hw'; have kk := KW.out _ hw'; go_simp⟩) hS2 ?_
  simp only [Act.put, List.setIfInBounds_toArray, List.set_cons_zero, List.set_cons_succ]
  refine wpAnyH_take (i := 8) (oi := ⟨some 17, _, _, _, _, _⟩) (v := lsV x.h x.bo x.bd (.slice aL x.ls.length cL) (.slice aA x.ats.length cA) x.co x.se x.fw x.ta) rfl (by kernel_rfl) (by kernel_rfl) (by kernel_rfl) (fun _ _ _ h => h) (Or.inl ⟨by rfl, by intro w' hw'; have kk := KW.out _ hw'; go_simp⟩) hS2 ?_
  simp only [Act.put, List.setIfInBounds_toArray, List.set_cons_zero, List.set_cons_succ]
  refine wpAnyH_take (i := 9) (oi := ⟨some 18, _, _, _, _, _⟩) (v := lsV x.h x.bo x.bd (.slice aL x.ls.length cL) (.slice aA x.ats.length cA) x.co x.se x.fw x.ta) rfl (by kernel_rfl) (by kernel_rfl) (by kernel_rfl) (fun _ _ _ h => h) (Or.inl ⟨by rfl, by intro w' hw'; have kk := KW.out _ hw'; go_simp⟩) hS2 ?_
  simp only [Act.put, List.setIfInBounds_toArray, List.set_cons_zero, List.set_cons_succ]
  refine wpAnyH_ready (rs := [10]) (by kernel_rfl) (by simp) ?_
  refine AllReadyH.cons rfl (fun K hK => ?_) AllReadyH.nil
  go_simp
  go_at_call 36
  refine (H3P.out _ (below_then BW.out hS2)).mono ?_
  rintro e w3 ⟨rfl, hb⟩
  have hS3 := keep2 hS2 hb
  clear hb
  (try go_wp2_with fail)
  refine hK.out _ _ hS3 (fun _ => ?_)
  clear hK K
  (try simp only [Act.put, List.setIfInBounds_toArray, List.set_cons_zero, List.set_cons_succ])
  refine wpAnyH_take (i := 11) (oi := ⟨some 20, _, _, _, _, _⟩) (v := .bool false) rfl (by kernel_rfl) (by kernel_rfl) (by kernel_rfl) (fun _ _ _ h => h) (Or.inl ⟨by rfl, by intro w' hw'; have kk := KW.out _ hw'; go_simp⟩) hS3 ?_
  simp only [Act.put, List.setIfInBounds_toArray, List.set_cons_zero, List.set_cons_succ]
  refine wpAnyH_take (i := 12) (oi := ⟨some 21, _, _, _, _, _⟩) (v := .bool false) rfl (by kernel_rfl) (by kernel_rfl) (by kernel_rfl) (fun _ _ _ h => h) (Or.inl ⟨by rfl, by intro w' hw'; have kk := KW.out _ hw'; go_simp⟩) hS3 ?_
  simp only [Act.put, List.setIfInBounds_toArray, List.set_cons_zero, List.set_cons_succ]
  refine wpAnyH_done (by kernel_rfl) ?_ _
  have HS3 := Lib.hid hS3
  have kk3 := KW.out _ hS3
  clear hS0 hS1 hS2 hS3
  go_wp2_with fail
  go_at_call 14
  refine (H4P.out _ (below_then BW.out HS3.out)).mono ?_
  rintro e w4 ⟨rfl, hb⟩
  have HS4 := Lib.hid (keep2 HS3.out hb)
  have kk4 := KW.out _ HS4.out
  clear hb kk3
  by_cases hc : c = 0
  · as_aux_lemma =>
    have H6 := Lib.hid (H6P.out hc)
    have H7 := Lib.hid (H7P.out hc)
    subst hc
    obtain ⟨pa, hpa⟩ : ∃ p, pfA x.h = p := ⟨_, rfl⟩
    obtain ⟨pn, hpn⟩ : ∃ p, pfN x.h = p := ⟨_, rfl⟩
    obtain ⟨pb, hpb⟩ : ∃ p, pfB x.h = p := ⟨_, rfl⟩
    unfold pfV at H6 H7
    rw [hpa, hpn, hpb] at H6 H7
    have tb : (pb == pb) = true := by simp
    clear hpa hpn hpb H6P H7P
    go_wp2_with fail
    go_at_call 38
    refine (H6.out _).mono ?_
    rintro e w5 ⟨rfl, hb⟩
    have HS5 := Lib.hid (keep2 HS4.out hb)
    have kk5 := KW.out _ HS5.out
    clear hb kk4
    have HS6 := Lib.hid (HS5.out.trans ((below_alloc w5 (.cells #[.int .u32 (pa : Int), .int .i64 pn] 59)).mono HS5.out.size))
    have kk6 := KW.out _ HS6.out
    have hlt5 : w.heap.size + 1 < w5.heap.size := by have := HS5.out.size; simp at this; omega
    have hlt5b : w.heap.size < w5.heap.size := by omega
    have hx5 := heap_alloc_new w5 (.cells #[.int .u32 (pa : Int), .int .i64 pn] 59)
    have HX5 := Lib.hid hx5
    clear hx5
    go_wp2_with fail
    go_at_call 39
    refine (H7.out _).mono ?_
    rintro e w6 ⟨rfl, hb⟩
    have HS7 := Lib.hid (keep2 HS6.out hb)
    have HX6 := Lib.hid ((hb.block _ (by simp)).trans HX5.out)
    have p0 := cell_of HX6.out (rfl : (#[Value.int .u32 (pa : Int), .int .i64 pn] : Array Value)[0]? = some (.int .u32 (pa : Int)))
    have p1 := cell_of HX6.out (rfl : (#[Value.int .u32 (pa : Int), .int .i64 pn] : Array Value)[1]? = some (.int .i64 pn))
    have hlt6 : w5.heap.size < w6.heap.size := (Array.getElem?_eq_some_iff.1 HX6.out).1
    have kk7 := KW.out _ HS7.out
    clear hb kk5 kk6
    go_wp2_with (go_at_call 15; refine (H5.out _).mono ?_; rintro e w7 ⟨rfl, hb⟩; have HB7 := Lib.hid hb; clear hb)
    go_ret
    exact ⟨rfl, below_then (below_then (below_then BW.out HS7.out) (below_alloc _ _)) HB7.out⟩
  · as_aux_lemma =>
    have hc2 : (c != 0) = true := by simpa using hc
    clear H6P H7P
    go_wp2_with (go_at_call 15; refine (H5.out _).mono ?_; rintro e w7 ⟨rfl, hb⟩; have HB7 := Lib.hid hb; clear hb)
    go_ret
    exact ⟨rfl, below_then (below_then BW.out HS4.out) HB7.out⟩
end Go.Proofs.Ytenfcnappjekgaa
