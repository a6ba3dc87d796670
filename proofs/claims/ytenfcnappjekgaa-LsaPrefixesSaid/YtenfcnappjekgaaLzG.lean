/-
  The reference's SameBody: no difference but in the lists.
-/
import Derived.Test.YtenfcnappjekgaaLyA
import Derived.Test.YtenfcnappjekgaaLzA
import Derived.Laws.StructEq
import Derived.BigRegion
namespace Go.Proofs.Ytenfcnappjekgaa
open Go.RowKit
set_option linter.unusedSimpArgs false
set_option linter.unusedVariables false
set_option maxHeartbeats 8000000
set_option maxRecDepth 100000

theorem rb9 (x y : Ls) (aL : Option Addr) (cL : Nat) (aA : Option Addr) (cA : Nat) (aL' : Option Addr) (cL' : Nat) (aA' : Option Addr) (cA' : Nat) (w : World) (hvL : RdL w (.slice aL x.ls.length cL) x.ls) (huL : RdL w (.slice aL' y.ls.length cL') y.ls) (hvA : RdW w (.slice aA x.ats.length cA) x.ats) (huA : RdW w (.slice aA' y.ats.length cA') y.ats) (hlenL : x.ls.length = y.ls.length) (hlenA : x.ats.length = y.ats.length) (hK : x.h.ty = y.h.ty ∧ (x.h.id : Int) = (y.h.id : Int) ∧ x.h.len = y.h.len ∧ (x.h.rt : Int) = (y.h.rt : Int)) (hbo : (x.bo != y.bo) = false) (hbd : (x.bd != y.bd) = false) (hco : (x.co != y.co) = false) (hse : (x.se != y.se) = false) (hfw : ((x.fw : Int) != (y.fw : Int)) = false) (hta : (x.ta != y.ta) = false) (hlL : ((x.ls.length : Int) != (y.ls.length : Int)) = false) (hlA : ((x.ats.length : Int) != (y.ats.length : Int)) = false) :
    Calls Try.prog 37 #[lsV x.h x.bo x.bd (.slice aL x.ls.length cL) (.slice aA x.ats.length cA) x.co x.se x.fw x.ta, lsV y.h y.bo y.bd (.slice aL' y.ls.length cL') (.slice aA' y.ats.length cA') y.co y.se y.fw y.ta] w fun e w' => e = .returned (.bool (eqL x.ls y.ls && eqW x.ats y.ats)) ∧ Below w.heap.size w w' := by
  have HP := Lib.hid hK
  have HK1 := Lib.hid (rkey_any x.h)
  have HK2 := Lib.hid (rkey_any y.h)
  clear hK
  have BW : Hid (Below w.heap.size w ((w.alloc (lsC x.h x.bo x.bd (.slice aL x.ls.length cL) (.slice aA x.ats.length cA) x.co x.se x.fw x.ta)).alloc (lsC y.h y.bo y.bd (.slice aL' y.ls.length cL') (.slice aA' y.ats.length cA') y.co y.se y.fw y.ta))) := below2 _ _ _
  have SW : Hid (((w.alloc (lsC x.h x.bo x.bd (.slice aL x.ls.length cL) (.slice aA x.ats.length cA) x.co x.se x.fw x.ta)).alloc (lsC y.h y.bo y.bd (.slice aL' y.ls.length cL') (.slice aA' y.ats.length cA') y.co y.se y.fw y.ta)).heap.size = w.heap.size + 1 + 1) := by unfold Hid; simp
  have KW : Hid (∀ W', Below ((w.alloc (lsC x.h x.bo x.bd (.slice aL x.ls.length cL) (.slice aA x.ats.length cA) x.co x.se x.fw x.ta)).alloc (lsC y.h y.bo y.bd (.slice aL' y.ls.length cL') (.slice aA' y.ats.length cA') y.co y.se y.fw y.ta)).heap.size ((w.alloc (lsC x.h x.bo x.bd (.slice aL x.ls.length cL) (.slice aA x.ats.length cA) x.co x.se x.fw x.ta)).alloc (lsC y.h y.bo y.bd (.slice aL' y.ls.length cL') (.slice aA' y.ats.length cA') y.co y.se y.fw y.ta)) W' → ∀ g o, g < w.heap.size + 1 + 1 → W'.cell? ⟨g, o, none⟩ = ((w.alloc (lsC x.h x.bo x.bd (.slice aL x.ls.length cL) (.slice aA x.ats.length cA) x.co x.se x.fw x.ta)).alloc (lsC y.h y.bo y.bd (.slice aL' y.ls.length cL') (.slice aA' y.ats.length cA') y.co y.se y.fw y.ta)).cell? ⟨g, o, none⟩) := fun W' h g o hb => h.cell (p := ⟨g, o, none⟩) (by rw [SW.out]; exact hb)
  have HVL := Lib.hid (hvL.below BW.out)
  have HUL := Lib.hid (huL.below BW.out)
  have HVA := Lib.hid (hvA.below BW.out)
  have HUA := Lib.hid (huA.below BW.out)
  have HX0 : Hid (((w.alloc (lsC x.h x.bo x.bd (.slice aL x.ls.length cL) (.slice aA x.ats.length cA) x.co x.se x.fw x.ta)).alloc (lsC y.h y.bo y.bd (.slice aL' y.ls.length cL') (.slice aA' y.ats.length cA') y.co y.se y.fw y.ta)).heap[w.heap.size]? = some (lsC x.h x.bo x.bd (.slice aL x.ls.length cL) (.slice aA x.ats.length cA) x.co x.se x.fw x.ta)) := alloc_past (heap_alloc_new w _) (by simp)
  have HY0 : Hid (((w.alloc (lsC x.h x.bo x.bd (.slice aL x.ls.length cL) (.slice aA x.ats.length cA) x.co x.se x.fw x.ta)).alloc (lsC y.h y.bo y.bd (.slice aL' y.ls.length cL') (.slice aA' y.ats.length cA') y.co y.se y.fw y.ta)).heap[w.heap.size + 1]? = some (lsC y.h y.bo y.bd (.slice aL' y.ls.length cL') (.slice aA' y.ats.length cA') y.co y.se y.fw y.ta)) := alloc_at (by simp)
  have HFINL : Hid (eqL x.ls y.ls = false → (eqL x.ls y.ls && eqW x.ats y.ats) = false) := fun h => by rw [h]; rfl
  have HLNL := Lib.hid hlenL
  have HLNA := Lib.hid hlenA
  clear hvL huL hvA huA hlenL hlenA
  go_enter Try.func37, Try.ntmps37
  go_wp2_with fail
  refine wp_region_held_drew (S := (fun W' : World => Below ((w.alloc (lsC x.h x.bo x.bd (.slice aL x.ls.length cL) (.slice aA x.ats.length cA) x.co x.se x.fw x.ta)).alloc (lsC y.h y.bo y.bd (.slice aL' y.ls.length cL') (.slice aA' y.ats.length cA') y.co y.se y.fw y.ta)).heap.size ((w.alloc (lsC x.h x.bo x.bd (.slice aL x.ls.length cL) (.slice aA x.ats.length cA) x.co x.se x.fw x.ta)).alloc (lsC y.h y.bo y.bd (.slice aL' y.ls.length cL') (.slice aA' y.ats.length cA') y.co y.se y.fw y.ta)) W')) (by kernel_rfl) (below_drewN (Below.refl _ _) 1) (fun hS0 => ?_)
  refine wpAnyH_take (i := 0) (oi := ⟨some 7, _, _, _, _, _⟩) (v := Value.pointer (some ⟨w.heap.size, 0, none⟩)) rfl (by kernel_rfl) (by kernel_rfl) (by kernel_rfl) (fun _ _ _ h => h) (Or.inl ⟨by rfl, by intro w' hw'; have kk := KW.out _ hw'; go_simp⟩) hS0 ?_
  simp only [Act.put, List.setIfInBounds_toArray, List.set_cons_zero, List.set_cons_succ]
  refine wpAnyH_take (i := 1) (oi := ⟨some 8, _, _, _, _, _⟩) (v := hdV x.h) rfl (by kernel_rfl) (by kernel_rfl) (by kernel_rfl) (fun _ _ _ h => h) (Or.inl ⟨by rfl, by intro w' hw'; have kk := KW.out _ hw'; go_simp⟩) hS0 ?_
  simp only [Act.put, List.setIfInBounds_toArray, List.set_cons_zero, List.set_cons_succ]
  refine wpAnyH_take (i := 3) (oi := ⟨some 10, _, _, _, _, _⟩) (v := Value.pointer (some ⟨w.heap.size + 1, 0, none⟩)) rfl (by kernel_rfl) (by kernel_rfl) (by kernel_rfl) (fun _ _ _ h => h) (Or.inl ⟨by rfl, by intro w' hw'; have kk := KW.out _ hw'; go_simp⟩) hS0 ?_
  simp only [Act.put, List.setIfInBounds_toArray, List.set_cons_zero, List.set_cons_succ]
  refine wpAnyH_take (i := 4) (oi := ⟨some 11, _, _, _, _, _⟩) (v := hdV y.h) rfl (by kernel_rfl) (by kernel_rfl) (by kernel_rfl) (fun _ _ _ h => h) (Or.inl ⟨by rfl, by intro w' hw'; have kk := KW.out _ hw'; go_simp⟩) hS0 ?_
  simp only [Act.put, List.setIfInBounds_toArray, List.set_cons_zero, List.set_cons_succ]
  refine wpAnyH_ready (rs := [2]) (by kernel_rfl) (by simp) ?_
  refine AllReadyH.cons rfl (fun K hK => ?_) AllReadyH.nil
  go_simp
  go_at_call 17
  refine (HK1.out _ ).mono ?_
  rintro e w3 ⟨rfl, hb⟩
  have hS1 := keep2 hS0 hb
  clear hb
  (try go_wp2_with fail)
  refine hK.out _ _ hS1 (fun _ => ?_)
  clear hK K
  (try simp only [Act.put, List.setIfInBounds_toArray, List.set_cons_zero, List.set_cons_succ])
  refine wpAnyH_ready (rs := [5]) (by kernel_rfl) (by simp) ?_
  refine AllReadyH.cons rfl (fun K hK => ?_) AllReadyH.nil
  go_simp
  go_at_call 17
  refine (HK2.out _ ).mono ?_
  rintro e w3 ⟨rfl, hb⟩
  have hS2 := keep2 hS1 hb
  clear hb
  (try go_wp2_with fail)
  refine hK.out _ _ hS2 (fun _ => ?_)
  clear hK K
  (try simp only [Act.put, List.setIfInBounds_toArray, List.set_cons_zero, List.set_cons_succ])
  refine wpAnyH_take (i := 6) (oi := ⟨some 13, _, _, _, _, _⟩) (v := .bool false) rfl (by kernel_rfl) (by kernel_rfl) (by kernel_rfl) (fun _ _ _ h => h) (Or.inl ⟨by rfl, by intro w' hw'; have kk := KW.out _ hw'; obtain ⟨p1, p2, p3, p4⟩ := HP.out; go_simp⟩) hS2 ?_
  simp only [Act.put, List.setIfInBounds_toArray, List.set_cons_zero, List.set_cons_succ]
  refine wpAnyH_take (i := 7) (oi := ⟨some 14, _, _, _, _, _⟩) (v := .bool false) rfl (by kernel_rfl) (by kernel_rfl) (by kernel_rfl) (fun _ _ _ h => h) (Or.inl ⟨by rfl, by intro w' hw'; have kk := KW.out _ hw'; go_simp⟩) hS2 ?_
  simp only [Act.put, List.setIfInBounds_toArray, List.set_cons_zero, List.set_cons_succ]
  refine wpAnyH_take (i := 8) (oi := ⟨some 15, _, _, _, _, _⟩) (v := Value.pointer (some ⟨w.heap.size, 7, none⟩)) rfl (by kernel_rfl) (by kernel_rfl) (by kernel_rfl) (fun _ _ _ h => h) (Or.inl ⟨by rfl, by intro w' hw'; have kk := KW.out _ hw'; go_simp⟩) hS2 ?_
  simp only [Act.put, List.setIfInBounds_toArray, List.set_cons_zero, List.set_cons_succ]
  refine wpAnyH_take (i := 9) (oi := ⟨some 16, _, _, _, _, _⟩) (v := .bool x.bo) rfl (by kernel_rfl) (by kernel_rfl) (by kernel_rfl) (fun _ _ _ h => h) (Or.inl ⟨by rfl, by intro w' hw'; have kk := KW.out _ hw'; go_simp⟩) hS2 ?_
  simp only [Act.put, List.setIfInBounds_toArray, List.set_cons_zero, List.set_cons_succ]
  refine wpAnyH_take (i := 10) (oi := ⟨some 17, _, _, _, _, _⟩) (v := Value.pointer (some ⟨w.heap.size + 1, 7, none⟩)) rfl (by kernel_rfl) (by kernel_rfl) (by kernel_rfl) (fun _ _ _ h => h) (Or.inl ⟨by rfl, by intro w' hw'; have kk := KW.out _ hw'; go_simp⟩) hS2 ?_
  simp only [Act.put, List.setIfInBounds_toArray, List.set_cons_zero, List.set_cons_succ]
  refine wpAnyH_take (i := 11) (oi := ⟨some 18, _, _, _, _, _⟩) (v := .bool y.bo) rfl (by kernel_rfl) (by kernel_rfl) (by kernel_rfl) (fun _ _ _ h => h) (Or.inl ⟨by rfl, by intro w' hw'; have kk := KW.out _ hw'; go_simp⟩) hS2 ?_
  simp only [Act.put, List.setIfInBounds_toArray, List.set_cons_zero, List.set_cons_succ]
  refine wpAnyH_take (i := 12) (oi := ⟨some 19, _, _, _, _, _⟩) (v := .bool false) rfl (by kernel_rfl) (by kernel_rfl) (by kernel_rfl) (fun _ _ _ h => h) (Or.inl ⟨by rfl, by intro w' hw'; have kk := KW.out _ hw'; go_simp; (try simpa using hbo)⟩) hS2 ?_
  simp only [Act.put, List.setIfInBounds_toArray, List.set_cons_zero, List.set_cons_succ]
  refine wpAnyH_take (i := 13) (oi := ⟨some 20, _, _, _, _, _⟩) (v := .bool false) rfl (by kernel_rfl) (by kernel_rfl) (by kernel_rfl) (fun _ _ _ h => h) (Or.inl ⟨by rfl, by intro w' hw'; have kk := KW.out _ hw'; go_simp⟩) hS2 ?_
  simp only [Act.put, List.setIfInBounds_toArray, List.set_cons_zero, List.set_cons_succ]
  refine wpAnyH_take (i := 14) (oi := ⟨some 21, _, _, _, _, _⟩) (v := .bool false) rfl (by kernel_rfl) (by kernel_rfl) (by kernel_rfl) (fun _ _ _ h => h) (Or.inl ⟨by rfl, by intro w' hw'; have kk := KW.out _ hw'; go_simp⟩) hS2 ?_
  simp only [Act.put, List.setIfInBounds_toArray, List.set_cons_zero, List.set_cons_succ]
  refine wpAnyH_take (i := 15) (oi := ⟨some 22, _, _, _, _, _⟩) (v := Value.pointer (some ⟨w.heap.size, 8, none⟩)) rfl (by kernel_rfl) (by kernel_rfl) (by kernel_rfl) (fun _ _ _ h => h) (Or.inl ⟨by rfl, by intro w' hw'; have kk := KW.out _ hw'; go_simp⟩) hS2 ?_
  simp only [Act.put, List.setIfInBounds_toArray, List.set_cons_zero, List.set_cons_succ]
  refine wpAnyH_take (i := 16) (oi := ⟨some 23, _, _, _, _, _⟩) (v := .bool x.bd) rfl (by kernel_rfl) (by kernel_rfl) (by kernel_rfl) (fun _ _ _ h => h) (Or.inl ⟨by rfl, by intro w' hw'; have kk := KW.out _ hw'; go_simp⟩) hS2 ?_
  simp only [Act.put, List.setIfInBounds_toArray, List.set_cons_zero, List.set_cons_succ]
  refine wpAnyH_take (i := 17) (oi := ⟨some 24, _, _, _, _, _⟩) (v := Value.pointer (some ⟨w.heap.size + 1, 8, none⟩)) rfl (by kernel_rfl) (by kernel_rfl) (by kernel_rfl) (fun _ _ _ h => h) (Or.inl ⟨by rfl, by intro w' hw'; have kk := KW.out _ hw'; go_simp⟩) hS2 ?_
  simp only [Act.put, List.setIfInBounds_toArray, List.set_cons_zero, List.set_cons_succ]
  refine wpAnyH_take (i := 18) (oi := ⟨some 25, _, _, _, _, _⟩) (v := .bool y.bd) rfl (by kernel_rfl) (by kernel_rfl) (by kernel_rfl) (fun _ _ _ h => h) (Or.inl ⟨by rfl, by intro w' hw'; have kk := KW.out _ hw'; go_simp⟩) hS2 ?_
  simp only [Act.put, List.setIfInBounds_toArray, List.set_cons_zero, List.set_cons_succ]
  refine wpAnyH_take (i := 19) (oi := ⟨some 26, _, _, _, _, _⟩) (v := .bool false) rfl (by kernel_rfl) (by kernel_rfl) (by kernel_rfl) (fun _ _ _ h => h) (Or.inl ⟨by rfl, by intro w' hw'; have kk := KW.out _ hw'; go_simp; (try simpa using hbd)⟩) hS2 ?_
  simp only [Act.put, List.setIfInBounds_toArray, List.set_cons_zero, List.set_cons_succ]
  refine wpAnyH_take (i := 20) (oi := ⟨some 27, _, _, _, _, _⟩) (v := .bool false) rfl (by kernel_rfl) (by kernel_rfl) (by kernel_rfl) (fun _ _ _ h => h) (Or.inl ⟨by rfl, by intro w' hw'; have kk := KW.out _ hw'; go_simp⟩) hS2 ?_
  simp only [Act.put, List.setIfInBounds_toArray, List.set_cons_zero, List.set_cons_succ]
  refine wpAnyH_take (i := 21) (oi := ⟨some 28, _, _, _, _, _⟩) (v := .bool false) rfl (by kernel_rfl) (by kernel_rfl) (by kernel_rfl) (fun _ _ _ h => h) (Or.inl ⟨by rfl, by intro w' hw'; have kk := KW.out _ hw'; go_simp⟩) hS2 ?_
  simp only [Act.put, List.setIfInBounds_toArray, List.set_cons_zero, List.set_cons_succ]
  refine wpAnyH_take (i := 22) (oi := ⟨some 29, _, _, _, _, _⟩) (v := Value.pointer (some ⟨w.heap.size, 11, none⟩)) rfl (by kernel_rfl) (by kernel_rfl) (by kernel_rfl) (fun _ _ _ h => h) (Or.inl ⟨by rfl, by intro w' hw'; have kk := KW.out _ hw'; go_simp⟩) hS2 ?_
  simp only [Act.put, List.setIfInBounds_toArray, List.set_cons_zero, List.set_cons_succ]
  refine wpAnyH_take (i := 23) (oi := ⟨some 30, _, _, _, _, _⟩) (v := .int .i64 x.co) rfl (by kernel_rfl) (by kernel_rfl) (by kernel_rfl) (fun _ _ _ h => h) (Or.inl ⟨by rfl, by intro w' hw'; have kk := KW.out _ hw'; go_simp⟩) hS2 ?_
  simp only [Act.put, List.setIfInBounds_toArray, List.set_cons_zero, List.set_cons_succ]
  refine wpAnyH_take (i := 24) (oi := ⟨some 31, _, _, _, _, _⟩) (v := Value.pointer (some ⟨w.heap.size + 1, 11, none⟩)) rfl (by kernel_rfl) (by kernel_rfl) (by kernel_rfl) (fun _ _ _ h => h) (Or.inl ⟨by rfl, by intro w' hw'; have kk := KW.out _ hw'; go_simp⟩) hS2 ?_
  simp only [Act.put, List.setIfInBounds_toArray, List.set_cons_zero, List.set_cons_succ]
  refine wpAnyH_take (i := 25) (oi := ⟨some 32, _, _, _, _, _⟩) (v := .int .i64 y.co) rfl (by kernel_rfl) (by kernel_rfl) (by kernel_rfl) (fun _ _ _ h => h) (Or.inl ⟨by rfl, by intro w' hw'; have kk := KW.out _ hw'; go_simp⟩) hS2 ?_
  simp only [Act.put, List.setIfInBounds_toArray, List.set_cons_zero, List.set_cons_succ]
  refine wpAnyH_take (i := 26) (oi := ⟨some 33, _, _, _, _, _⟩) (v := .bool false) rfl (by kernel_rfl) (by kernel_rfl) (by kernel_rfl) (fun _ _ _ h => h) (Or.inl ⟨by rfl, by intro w' hw'; have kk := KW.out _ hw'; go_simp⟩) hS2 ?_
  simp only [Act.put, List.setIfInBounds_toArray, List.set_cons_zero, List.set_cons_succ]
  refine wpAnyH_take (i := 27) (oi := ⟨some 34, _, _, _, _, _⟩) (v := .bool false) rfl (by kernel_rfl) (by kernel_rfl) (by kernel_rfl) (fun _ _ _ h => h) (Or.inl ⟨by rfl, by intro w' hw'; have kk := KW.out _ hw'; go_simp⟩) hS2 ?_
  simp only [Act.put, List.setIfInBounds_toArray, List.set_cons_zero, List.set_cons_succ]
  refine wpAnyH_take (i := 28) (oi := ⟨some 35, _, _, _, _, _⟩) (v := .bool false) rfl (by kernel_rfl) (by kernel_rfl) (by kernel_rfl) (fun _ _ _ h => h) (Or.inl ⟨by rfl, by intro w' hw'; have kk := KW.out _ hw'; go_simp⟩) hS2 ?_
  simp only [Act.put, List.setIfInBounds_toArray, List.set_cons_zero, List.set_cons_succ]
  refine wpAnyH_take (i := 29) (oi := ⟨some 36, _, _, _, _, _⟩) (v := Value.pointer (some ⟨w.heap.size, 12, none⟩)) rfl (by kernel_rfl) (by kernel_rfl) (by kernel_rfl) (fun _ _ _ h => h) (Or.inl ⟨by rfl, by intro w' hw'; have kk := KW.out _ hw'; go_simp⟩) hS2 ?_
  simp only [Act.put, List.setIfInBounds_toArray, List.set_cons_zero, List.set_cons_succ]
  refine wpAnyH_take (i := 30) (oi := ⟨some 37, _, _, _, _, _⟩) (v := .bool x.se) rfl (by kernel_rfl) (by kernel_rfl) (by kernel_rfl) (fun _ _ _ h => h) (Or.inl ⟨by rfl, by intro w' hw'; have kk := KW.out _ hw'; go_simp⟩) hS2 ?_
  simp only [Act.put, List.setIfInBounds_toArray, List.set_cons_zero, List.set_cons_succ]
  refine wpAnyH_take (i := 31) (oi := ⟨some 38, _, _, _, _, _⟩) (v := Value.pointer (some ⟨w.heap.size + 1, 12, none⟩)) rfl (by kernel_rfl) (by kernel_rfl) (by kernel_rfl) (fun _ _ _ h => h) (Or.inl ⟨by rfl, by intro w' hw'; have kk := KW.out _ hw'; go_simp⟩) hS2 ?_
  simp only [Act.put, List.setIfInBounds_toArray, List.set_cons_zero, List.set_cons_succ]
  refine wpAnyH_take (i := 32) (oi := ⟨some 39, _, _, _, _, _⟩) (v := .bool y.se) rfl (by kernel_rfl) (by kernel_rfl) (by kernel_rfl) (fun _ _ _ h => h) (Or.inl ⟨by rfl, by intro w' hw'; have kk := KW.out _ hw'; go_simp⟩) hS2 ?_
  simp only [Act.put, List.setIfInBounds_toArray, List.set_cons_zero, List.set_cons_succ]
  refine wpAnyH_take (i := 33) (oi := ⟨some 40, _, _, _, _, _⟩) (v := .bool false) rfl (by kernel_rfl) (by kernel_rfl) (by kernel_rfl) (fun _ _ _ h => h) (Or.inl ⟨by rfl, by intro w' hw'; have kk := KW.out _ hw'; go_simp; (try simpa using hse)⟩) hS2 ?_
  simp only [Act.put, List.setIfInBounds_toArray, List.set_cons_zero, List.set_cons_succ]
  refine wpAnyH_take (i := 34) (oi := ⟨some 41, _, _, _, _, _⟩) (v := .bool false) rfl (by kernel_rfl) (by kernel_rfl) (by kernel_rfl) (fun _ _ _ h => h) (Or.inl ⟨by rfl, by intro w' hw'; have kk := KW.out _ hw'; go_simp⟩) hS2 ?_
  simp only [Act.put, List.setIfInBounds_toArray, List.set_cons_zero, List.set_cons_succ]
  refine wpAnyH_take (i := 35) (oi := ⟨some 42, _, _, _, _, _⟩) (v := .bool false) rfl (by kernel_rfl) (by kernel_rfl) (by kernel_rfl) (fun _ _ _ h => h) (Or.inl ⟨by rfl, by intro w' hw'; have kk := KW.out _ hw'; go_simp⟩) hS2 ?_
  simp only [Act.put, List.setIfInBounds_toArray, List.set_cons_zero, List.set_cons_succ]
  refine wpAnyH_take (i := 36) (oi := ⟨some 43, _, _, _, _, _⟩) (v := Value.pointer (some ⟨w.heap.size, 13, none⟩)) rfl (by kernel_rfl) (by kernel_rfl) (by kernel_rfl) (fun _ _ _ h => h) (Or.inl ⟨by rfl, by intro w' hw'; have kk := KW.out _ hw'; go_simp⟩) hS2 ?_
  simp only [Act.put, List.setIfInBounds_toArray, List.set_cons_zero, List.set_cons_succ]
  refine wpAnyH_take (i := 37) (oi := ⟨some 44, _, _, _, _, _⟩) (v := .int .u32 (x.fw : Int)) rfl (by kernel_rfl) (by kernel_rfl) (by kernel_rfl) (fun _ _ _ h => h) (Or.inl ⟨by rfl, by intro w' hw'; have kk := KW.out _ hw'; go_simp⟩) hS2 ?_
  simp only [Act.put, List.setIfInBounds_toArray, List.set_cons_zero, List.set_cons_succ]
  refine wpAnyH_take (i := 38) (oi := ⟨some 45, _, _, _, _, _⟩) (v := Value.pointer (some ⟨w.heap.size + 1, 13, none⟩)) rfl (by kernel_rfl) (by kernel_rfl) (by kernel_rfl) (fun _ _ _ h => h) (Or.inl ⟨by rfl, by intro w' hw'; have kk := KW.out _ hw'; go_simp⟩) hS2 ?_
  simp only [Act.put, List.setIfInBounds_toArray, List.set_cons_zero, List.set_cons_succ]
  refine wpAnyH_take (i := 39) (oi := ⟨some 46, _, _, _, _, _⟩) (v := .int .u32 (y.fw : Int)) rfl (by kernel_rfl) (by kernel_rfl) (by kernel_rfl) (fun _ _ _ h => h) (Or.inl ⟨by rfl, by intro w' hw'; have kk := KW.out _ hw'; go_simp⟩) hS2 ?_
  simp only [Act.put, List.setIfInBounds_toArray, List.set_cons_zero, List.set_cons_succ]
  refine wpAnyH_take (i := 40) (oi := ⟨some 47, _, _, _, _, _⟩) (v := .bool false) rfl (by kernel_rfl) (by kernel_rfl) (by kernel_rfl) (fun _ _ _ h => h) (Or.inl ⟨by rfl, by intro w' hw'; have kk := KW.out _ hw'; go_simp⟩) hS2 ?_
  simp only [Act.put, List.setIfInBounds_toArray, List.set_cons_zero, List.set_cons_succ]
  refine wpAnyH_take (i := 41) (oi := ⟨some 48, _, _, _, _, _⟩) (v := .bool false) rfl (by kernel_rfl) (by kernel_rfl) (by kernel_rfl) (fun _ _ _ h => h) (Or.inl ⟨by rfl, by intro w' hw'; have kk := KW.out _ hw'; go_simp⟩) hS2 ?_
  simp only [Act.put, List.setIfInBounds_toArray, List.set_cons_zero, List.set_cons_succ]
  refine wpAnyH_take (i := 42) (oi := ⟨some 49, _, _, _, _, _⟩) (v := .bool false) rfl (by kernel_rfl) (by kernel_rfl) (by kernel_rfl) (fun _ _ _ h => h) (Or.inl ⟨by rfl, by intro w' hw'; have kk := KW.out _ hw'; go_simp⟩) hS2 ?_
  simp only [Act.put, List.setIfInBounds_toArray, List.set_cons_zero, List.set_cons_succ]
  refine wpAnyH_take (i := 43) (oi := ⟨some 50, _, _, _, _, _⟩) (v := Value.pointer (some ⟨w.heap.size, 14, none⟩)) rfl (by kernel_rfl) (by kernel_rfl) (by kernel_rfl) (fun _ _ _ h => h) (Or.inl ⟨by rfl, by intro w' hw'; have kk := KW.out _ hw'; go_simp⟩) hS2 ?_
  simp only [Act.put, List.setIfInBounds_toArray, List.set_cons_zero, List.set_cons_succ]
  refine wpAnyH_take (i := 44) (oi := ⟨some 51, _, _, _, _, _⟩) (v := .int .i64 x.ta) rfl (by kernel_rfl) (by kernel_rfl) (by kernel_rfl) (fun _ _ _ h => h) (Or.inl ⟨by rfl, by intro w' hw'; have kk := KW.out _ hw'; go_simp⟩) hS2 ?_
  simp only [Act.put, List.setIfInBounds_toArray, List.set_cons_zero, List.set_cons_succ]
  refine wpAnyH_take (i := 45) (oi := ⟨some 52, _, _, _, _, _⟩) (v := Value.pointer (some ⟨w.heap.size + 1, 14, none⟩)) rfl (by kernel_rfl) (by kernel_rfl) (by kernel_rfl) (fun _ _ _ h => h) (Or.inl ⟨by rfl, by intro w' hw'; have kk := KW.out _ hw'; go_simp⟩) hS2 ?_
  simp only [Act.put, List.setIfInBounds_toArray, List.set_cons_zero, List.set_cons_succ]
  refine wpAnyH_take (i := 46) (oi := ⟨some 53, _, _, _, _, _⟩) (v := .int .i64 y.ta) rfl (by kernel_rfl) (by kernel_rfl) (by kernel_rfl) (fun _ _ _ h => h) (Or.inl ⟨by rfl, by intro w' hw'; have kk := KW.out _ hw'; go_simp⟩) hS2 ?_
  simp only [Act.put, List.setIfInBounds_toArray, List.set_cons_zero, List.set_cons_succ]
  refine wpAnyH_take (i := 47) (oi := ⟨some 54, _, _, _, _, _⟩) (v := .bool false) rfl (by kernel_rfl) (by kernel_rfl) (by kernel_rfl) (fun _ _ _ h => h) (Or.inl ⟨by rfl, by intro w' hw'; have kk := KW.out _ hw'; go_simp⟩) hS2 ?_
  simp only [Act.put, List.setIfInBounds_toArray, List.set_cons_zero, List.set_cons_succ]
  refine wpAnyH_take (i := 48) (oi := ⟨some 55, _, _, _, _, _⟩) (v := .bool false) rfl (by kernel_rfl) (by kernel_rfl) (by kernel_rfl) (fun _ _ _ h => h) (Or.inl ⟨by rfl, by intro w' hw'; have kk := KW.out _ hw'; go_simp⟩) hS2 ?_
  simp only [Act.put, List.setIfInBounds_toArray, List.set_cons_zero, List.set_cons_succ]
  refine wpAnyH_take (i := 49) (oi := ⟨some 56, _, _, _, _, _⟩) (v := .bool false) rfl (by kernel_rfl) (by kernel_rfl) (by kernel_rfl) (fun _ _ _ h => h) (Or.inl ⟨by rfl, by intro w' hw'; have kk := KW.out _ hw'; go_simp⟩) hS2 ?_
  simp only [Act.put, List.setIfInBounds_toArray, List.set_cons_zero, List.set_cons_succ]
  refine wpAnyH_take (i := 50) (oi := ⟨some 57, _, _, _, _, _⟩) (v := Value.pointer (some ⟨w.heap.size, 9, none⟩)) rfl (by kernel_rfl) (by kernel_rfl) (by kernel_rfl) (fun _ _ _ h => h) (Or.inl ⟨by rfl, by intro w' hw'; have kk := KW.out _ hw'; go_simp⟩) hS2 ?_
  simp only [Act.put, List.setIfInBounds_toArray, List.set_cons_zero, List.set_cons_succ]
  refine wpAnyH_take (i := 51) (oi := ⟨some 58, _, _, _, _, _⟩) (v := .slice aL x.ls.length cL) rfl (by kernel_rfl) (by kernel_rfl) (by kernel_rfl) (fun _ _ _ h => h) (Or.inl ⟨by rfl, by intro w' hw'; have kk := KW.out _ hw'; go_simp⟩) hS2 ?_
  simp only [Act.put, List.setIfInBounds_toArray, List.set_cons_zero, List.set_cons_succ]
  refine wpAnyH_take (i := 52) (oi := ⟨some 59, _, _, _, _, _⟩) (v := .int .i64 (x.ls.length : Int)) rfl (by kernel_rfl) (by kernel_rfl) (by kernel_rfl) (fun _ _ _ h => h) (Or.inl ⟨by rfl, by intro w' hw'; have kk := KW.out _ hw'; go_simp⟩) hS2 ?_
  simp only [Act.put, List.setIfInBounds_toArray, List.set_cons_zero, List.set_cons_succ]
  refine wpAnyH_take (i := 53) (oi := ⟨some 60, _, _, _, _, _⟩) (v := Value.pointer (some ⟨w.heap.size + 1, 9, none⟩)) rfl (by kernel_rfl) (by kernel_rfl) (by kernel_rfl) (fun _ _ _ h => h) (Or.inl ⟨by rfl, by intro w' hw'; have kk := KW.out _ hw'; go_simp⟩) hS2 ?_
  simp only [Act.put, List.setIfInBounds_toArray, List.set_cons_zero, List.set_cons_succ]
  refine wpAnyH_take (i := 54) (oi := ⟨some 61, _, _, _, _, _⟩) (v := .slice aL' y.ls.length cL') rfl (by kernel_rfl) (by kernel_rfl) (by kernel_rfl) (fun _ _ _ h => h) (Or.inl ⟨by rfl, by intro w' hw'; have kk := KW.out _ hw'; go_simp⟩) hS2 ?_
  simp only [Act.put, List.setIfInBounds_toArray, List.set_cons_zero, List.set_cons_succ]
  refine wpAnyH_take (i := 55) (oi := ⟨some 62, _, _, _, _, _⟩) (v := .int .i64 (y.ls.length : Int)) rfl (by kernel_rfl) (by kernel_rfl) (by kernel_rfl) (fun _ _ _ h => h) (Or.inl ⟨by rfl, by intro w' hw'; have kk := KW.out _ hw'; go_simp⟩) hS2 ?_
  simp only [Act.put, List.setIfInBounds_toArray, List.set_cons_zero, List.set_cons_succ]
  refine wpAnyH_take (i := 56) (oi := ⟨some 63, _, _, _, _, _⟩) (v := .bool false) rfl (by kernel_rfl) (by kernel_rfl) (by kernel_rfl) (fun _ _ _ h => h) (Or.inl ⟨by rfl, by intro w' hw'; have kk := KW.out _ hw'; go_simp⟩) hS2 ?_
  simp only [Act.put, List.setIfInBounds_toArray, List.set_cons_zero, List.set_cons_succ]
  refine wpAnyH_take (i := 57) (oi := ⟨some 64, _, _, _, _, _⟩) (v := .bool false) rfl (by kernel_rfl) (by kernel_rfl) (by kernel_rfl) (fun _ _ _ h => h) (Or.inl ⟨by rfl, by intro w' hw'; have kk := KW.out _ hw'; go_simp⟩) hS2 ?_
  simp only [Act.put, List.setIfInBounds_toArray, List.set_cons_zero, List.set_cons_succ]
  refine wpAnyH_take (i := 58) (oi := ⟨some 65, _, _, _, _, _⟩) (v := .bool false) rfl (by kernel_rfl) (by kernel_rfl) (by kernel_rfl) (fun _ _ _ h => h) (Or.inl ⟨by rfl, by intro w' hw'; have kk := KW.out _ hw'; go_simp⟩) hS2 ?_
  simp only [Act.put, List.setIfInBounds_toArray, List.set_cons_zero, List.set_cons_succ]
  refine wpAnyH_take (i := 59) (oi := ⟨some 66, _, _, _, _, _⟩) (v := Value.pointer (some ⟨w.heap.size, 10, none⟩)) rfl (by kernel_rfl) (by kernel_rfl) (by kernel_rfl) (fun _ _ _ h => h) (Or.inl ⟨by rfl, by intro w' hw'; have kk := KW.out _ hw'; go_simp⟩) hS2 ?_
  simp only [Act.put, List.setIfInBounds_toArray, List.set_cons_zero, List.set_cons_succ]
  refine wpAnyH_take (i := 60) (oi := ⟨some 67, _, _, _, _, _⟩) (v := .slice aA x.ats.length cA) rfl (by kernel_rfl) (by kernel_rfl) (by kernel_rfl) (fun _ _ _ h => h) (Or.inl ⟨by rfl, by intro w' hw'; have kk := KW.out _ hw'; go_simp⟩) hS2 ?_
  simp only [Act.put, List.setIfInBounds_toArray, List.set_cons_zero, List.set_cons_succ]
  refine wpAnyH_take (i := 61) (oi := ⟨some 68, _, _, _, _, _⟩) (v := .int .i64 (x.ats.length : Int)) rfl (by kernel_rfl) (by kernel_rfl) (by kernel_rfl) (fun _ _ _ h => h) (Or.inl ⟨by rfl, by intro w' hw'; have kk := KW.out _ hw'; go_simp⟩) hS2 ?_
  simp only [Act.put, List.setIfInBounds_toArray, List.set_cons_zero, List.set_cons_succ]
  refine wpAnyH_take (i := 62) (oi := ⟨some 69, _, _, _, _, _⟩) (v := Value.pointer (some ⟨w.heap.size + 1, 10, none⟩)) rfl (by kernel_rfl) (by kernel_rfl) (by kernel_rfl) (fun _ _ _ h => h) (Or.inl ⟨by rfl, by intro w' hw'; have kk := KW.out _ hw'; go_simp⟩) hS2 ?_
  simp only [Act.put, List.setIfInBounds_toArray, List.set_cons_zero, List.set_cons_succ]
  refine wpAnyH_take (i := 63) (oi := ⟨some 70, _, _, _, _, _⟩) (v := .slice aA' y.ats.length cA') rfl (by kernel_rfl) (by kernel_rfl) (by kernel_rfl) (fun _ _ _ h => h) (Or.inl ⟨by rfl, by intro w' hw'; have kk := KW.out _ hw'; go_simp⟩) hS2 ?_
  simp only [Act.put, List.setIfInBounds_toArray, List.set_cons_zero, List.set_cons_succ]
  refine wpAnyH_take (i := 64) (oi := ⟨some 71, _, _, _, _, _⟩) (v := .int .i64 (y.ats.length : Int)) rfl (by kernel_rfl) (by kernel_rfl) (by kernel_rfl) (fun _ _ _ h => h) (Or.inl ⟨by rfl, by intro w' hw'; have kk := KW.out _ hw'; go_simp⟩) hS2 ?_
  simp only [Act.put, List.setIfInBounds_toArray, List.set_cons_zero, List.set_cons_succ]
  refine wpAnyH_take (i := 65) (oi := ⟨some 72, _, _, _, _, _⟩) (v := .bool false) rfl (by kernel_rfl) (by kernel_rfl) (by kernel_rfl) (fun _ _ _ h => h) (Or.inl ⟨by rfl, by intro w' hw'; have kk := KW.out _ hw'; go_simp⟩) hS2 ?_
  simp only [Act.put, List.setIfInBounds_toArray, List.set_cons_zero, List.set_cons_succ]
  refine wpAnyH_take (i := 66) (oi := ⟨some 73, _, _, _, _, _⟩) (v := .bool false) rfl (by kernel_rfl) (by kernel_rfl) (by kernel_rfl) (fun _ _ _ h => h) (Or.inl ⟨by rfl, by intro w' hw'; have kk := KW.out _ hw'; go_simp⟩) hS2 ?_
  simp only [Act.put, List.setIfInBounds_toArray, List.set_cons_zero, List.set_cons_succ]
  refine wpAnyH_done (by kernel_rfl) ?_ _
  have HB3 := Lib.hid hS2
  clear hS2 hS1 hS0
  go_wp2
  go_loopg [5] x.ls.length (fun gg s5 wr => ∃ k : Nat, k ≤ x.ls.length ∧ x.ls.length - k ≤ gg ∧ s5 = .int .i64 (k : Int) ∧ Hid (∀ z ∈ ((List.range x.ls.length).map (difL x.ls y.ls)).take k, z = 0) ∧ Hid (Below ((w.alloc (lsC x.h x.bo x.bd (.slice aL x.ls.length cL) (.slice aA x.ats.length cA) x.co x.se x.fw x.ta)).alloc (lsC y.h y.bo y.bd (.slice aL' y.ls.length cL') (.slice aA' y.ats.length cA') y.co y.se y.fw y.ta)).heap.size ((w.alloc (lsC x.h x.bo x.bd (.slice aL x.ls.length cL) (.slice aA x.ats.length cA) x.co x.se x.fw x.ta)).alloc (lsC y.h y.bo y.bd (.slice aL' y.ls.length cL') (.slice aA' y.ats.length cA') y.co y.se y.fw y.ta)) wr))
  case atStart => exact ⟨0, by omega, by omega, rfl, (by unfold Hid; simp), HB3.out⟩
  case round =>
    obtain ⟨k, hk, hg, rfl, hz, hbel⟩ := hrel
    have HXW : Hid (wr.heap[w.heap.size]? = some (lsC x.h x.bo x.bd (.slice aL x.ls.length cL) (.slice aA x.ats.length cA) x.co x.se x.fw x.ta)) := (hbel.out.block _ (by simp; omega)).trans HX0.out
    have HYW : Hid (wr.heap[w.heap.size + 1]? = some (lsC y.h y.bo y.bd (.slice aL' y.ls.length cL') (.slice aA' y.ats.length cA') y.co y.se y.fw y.ta)) := (hbel.out.block _ (by simp)).trans HY0.out
    obtain ⟨m0, m1, m2, m3, m4, m5, m6, m7, m8, m9, m10, m11, m12, m13, m14⟩ := cellsL HXW.out
    by_cases hlt : k < x.ls.length
    · obtain ⟨u, hx⟩ : ∃ u, x.ls[k]? = some u := ⟨_, List.getElem?_eq_getElem hlt⟩
      obtain ⟨v, hy⟩ : ∃ v, y.ls[k]? = some v := ⟨_, List.getElem?_eq_getElem (by have := HLNL.out; omega)⟩
      obtain ⟨ad1, cap1, e, ⟨hca, hcb⟩, -, hrd⟩ := HVL.out.below hbel.out
      obtain ⟨rfl, rfl⟩ : aL = ad1 ∧ cL = cap1 := by injection e with e1 e2 e3; exact ⟨e1, e3⟩
      obtain ⟨ad2, cap2, e', ⟨-, -⟩, -, hrd'⟩ := HUL.out.below hbel.out
      obtain ⟨rfl, rfl⟩ : aL' = ad2 ∧ cL' = cap2 := by injection e' with e1 e2 e3; exact ⟨e1, e3⟩
      obtain ⟨b, off, rfl, hbl, x0, x1, x2, x3⟩ := hrd k u hx
      obtain ⟨b', off', rfl, hbl', y0, y1, y2, y3⟩ := hrd' k v hy
      have KC : Hid (∀ W', Below wr.heap.size wr W' → W'.cell? ⟨w.heap.size, 9, none⟩ = some (.slice (some ⟨b, off, none⟩) x.ls.length cL) ∧ W'.cell? ⟨w.heap.size + 1, 9, none⟩ = some (.slice (some ⟨b', off', none⟩) y.ls.length cL') ∧ W'.cell? ⟨b, off + k * 4, none⟩ = some (.int .i64 u.kind) ∧ W'.cell? ⟨b, off + k * 4 + 1, none⟩ = some (.int .u32 (u.id : Int)) ∧ W'.cell? ⟨b, off + k * 4 + 2, none⟩ = some (.int .u32 (u.data : Int)) ∧ W'.cell? ⟨b, off + k * 4 + 3, none⟩ = some (.int .i64 u.cost) ∧ W'.cell? ⟨b', off' + k * 4, none⟩ = some (.int .i64 v.kind) ∧ W'.cell? ⟨b', off' + k * 4 + 1, none⟩ = some (.int .u32 (v.id : Int)) ∧ W'.cell? ⟨b', off' + k * 4 + 2, none⟩ = some (.int .u32 (v.data : Int)) ∧ W'.cell? ⟨b', off' + k * 4 + 3, none⟩ = some (.int .i64 v.cost)) := fun W' hW => by
        have hx1 := (hW.block _ (Array.getElem?_eq_some_iff.1 HXW.out).1).trans HXW.out
        have hy1 := (hW.block _ (Array.getElem?_eq_some_iff.1 HYW.out).1).trans HYW.out
        exact ⟨cell_of hx1 rfl, cell_of hy1 rfl, carry hW x0, carry hW x1, carry hW x2, carry hW x3, carry hW y0, carry hW y1, carry hW y2, carry hW y3⟩
      have hi0 : (0 : Int) ≤ (k : Int) := by omega
      have hi1 : (k : Int) < (x.ls.length : Int) := by omega
      have hi2 : (k : Int) < (y.ls.length : Int) := by have := HLNL.out; omega
      have HD : Hid (difL x.ls y.ls k = if sameL u v = true then 0 else 1) := by unfold Hid difL; rw [hx, hy]
      clear e e' hrd hrd' hx hy x0 x1 x2 x3 y0 y1 y2 y3
      cases hs : sameL u v
      · have hs0 : u.kind = v.kind → (u.id : Int) = (v.id : Int) → (u.data : Int) = (v.data : Int) → ¬ u.cost = v.cost := by intro p1 p2 p3 p4; unfold sameL at hs; rw [p1, p2, p3, p4] at hs; simp at hs
        have HN : Hid (eqL x.ls y.ls = false) := by
          have e1 : orL ((List.range x.ls.length).map (difL x.ls y.ls)) = 1 := orL_at _ _ hz.out ((map_get hlt).trans (by rw [HD.out, hs]; rfl)) (by decide)
          unfold Hid eqL; rw [if_pos HLNL.out, e1]; rfl
        clear hs
        go_wp2_with fail
        refine wp_region_held_drew (S := (fun W' : World => Below wr.heap.size wr W')) (by kernel_rfl) (below_drewN (Below.refl _ _) 1) (fun hS0 => ?_)
        refine wpAnyH_take (i := 0) (oi := ⟨some 81, _, _, _, _, _⟩) (v := Value.pointer (some ⟨w.heap.size, 9, none⟩)) rfl (by kernel_rfl) (by kernel_rfl) (by kernel_rfl) (fun _ _ _ h => h) (Or.inl ⟨by rfl, by intro w' hw'; obtain ⟨g0, g1, g2, g3, g4, g5, g6, g7, g8, g9⟩ := KC.out _ hw'; go_simp⟩) hS0 ?_
        simp only [Act.put, List.setIfInBounds_toArray, List.set_cons_zero, List.set_cons_succ]
        refine wpAnyH_take (i := 1) (oi := ⟨some 82, _, _, _, _, _⟩) (v := .slice (some ⟨b, off, none⟩) x.ls.length cL) rfl (by kernel_rfl) (by kernel_rfl) (by kernel_rfl) (fun _ _ _ h => h) (Or.inl ⟨by rfl, by intro w' hw'; obtain ⟨g0, g1, g2, g3, g4, g5, g6, g7, g8, g9⟩ := KC.out _ hw'; go_simp⟩) hS0 ?_
        simp only [Act.put, List.setIfInBounds_toArray, List.set_cons_zero, List.set_cons_succ]
        refine wpAnyH_take (i := 2) (oi := ⟨some 83, _, _, _, _, _⟩) (v := .int .i64 (k : Int)) rfl (by kernel_rfl) (by kernel_rfl) (by kernel_rfl) (fun _ _ _ h => h) (Or.inl ⟨by rfl, by intro w' hw'; obtain ⟨g0, g1, g2, g3, g4, g5, g6, g7, g8, g9⟩ := KC.out _ hw'; go_simp⟩) hS0 ?_
        simp only [Act.put, List.setIfInBounds_toArray, List.set_cons_zero, List.set_cons_succ]
        refine wpAnyH_take (i := 3) (oi := ⟨some 84, _, _, _, _, _⟩) (v := Value.pointer (some ⟨b, off + k * 4, none⟩)) rfl (by kernel_rfl) (by kernel_rfl) (by kernel_rfl) (fun _ _ _ h => h) (Or.inl ⟨by rfl, by intro w' hw'; obtain ⟨g0, g1, g2, g3, g4, g5, g6, g7, g8, g9⟩ := KC.out _ hw'; go_simp⟩) hS0 ?_
        simp only [Act.put, List.setIfInBounds_toArray, List.set_cons_zero, List.set_cons_succ]
        refine wpAnyH_take (i := 4) (oi := ⟨some 85, _, _, _, _, _⟩) (v := lkV u) rfl (by kernel_rfl) (by kernel_rfl) (by kernel_rfl) (fun _ _ _ h => h) (Or.inl ⟨by rfl, by intro w' hw'; obtain ⟨g0, g1, g2, g3, g4, g5, g6, g7, g8, g9⟩ := KC.out _ hw'; go_simp⟩) hS0 ?_
        simp only [Act.put, List.setIfInBounds_toArray, List.set_cons_zero, List.set_cons_succ]
        refine wpAnyH_take (i := 5) (oi := ⟨some 86, _, _, _, _, _⟩) (v := Value.pointer (some ⟨w.heap.size + 1, 9, none⟩)) rfl (by kernel_rfl) (by kernel_rfl) (by kernel_rfl) (fun _ _ _ h => h) (Or.inl ⟨by rfl, by intro w' hw'; obtain ⟨g0, g1, g2, g3, g4, g5, g6, g7, g8, g9⟩ := KC.out _ hw'; go_simp⟩) hS0 ?_
        simp only [Act.put, List.setIfInBounds_toArray, List.set_cons_zero, List.set_cons_succ]
        refine wpAnyH_take (i := 6) (oi := ⟨some 87, _, _, _, _, _⟩) (v := .slice (some ⟨b', off', none⟩) y.ls.length cL') rfl (by kernel_rfl) (by kernel_rfl) (by kernel_rfl) (fun _ _ _ h => h) (Or.inl ⟨by rfl, by intro w' hw'; obtain ⟨g0, g1, g2, g3, g4, g5, g6, g7, g8, g9⟩ := KC.out _ hw'; go_simp⟩) hS0 ?_
        simp only [Act.put, List.setIfInBounds_toArray, List.set_cons_zero, List.set_cons_succ]
        refine wpAnyH_take (i := 7) (oi := ⟨some 88, _, _, _, _, _⟩) (v := .int .i64 (k : Int)) rfl (by kernel_rfl) (by kernel_rfl) (by kernel_rfl) (fun _ _ _ h => h) (Or.inl ⟨by rfl, by intro w' hw'; obtain ⟨g0, g1, g2, g3, g4, g5, g6, g7, g8, g9⟩ := KC.out _ hw'; go_simp⟩) hS0 ?_
        simp only [Act.put, List.setIfInBounds_toArray, List.set_cons_zero, List.set_cons_succ]
        refine wpAnyH_take (i := 8) (oi := ⟨some 89, _, _, _, _, _⟩) (v := Value.pointer (some ⟨b', off' + k * 4, none⟩)) rfl (by kernel_rfl) (by kernel_rfl) (by kernel_rfl) (fun _ _ _ h => h) (Or.inl ⟨by rfl, by intro w' hw'; obtain ⟨g0, g1, g2, g3, g4, g5, g6, g7, g8, g9⟩ := KC.out _ hw'; go_simp⟩) hS0 ?_
        simp only [Act.put, List.setIfInBounds_toArray, List.set_cons_zero, List.set_cons_succ]
        refine wpAnyH_take (i := 9) (oi := ⟨some 90, _, _, _, _, _⟩) (v := lkV v) rfl (by kernel_rfl) (by kernel_rfl) (by kernel_rfl) (fun _ _ _ h => h) (Or.inl ⟨by rfl, by intro w' hw'; obtain ⟨g0, g1, g2, g3, g4, g5, g6, g7, g8, g9⟩ := KC.out _ hw'; go_simp⟩) hS0 ?_
        simp only [Act.put, List.setIfInBounds_toArray, List.set_cons_zero, List.set_cons_succ]
        refine wpAnyH_take (i := 10) (oi := ⟨some 91, _, _, _, _, _⟩) (v := .bool true) rfl (by kernel_rfl) (by kernel_rfl) (by kernel_rfl) (fun _ _ _ h => h) (Or.inl ⟨by rfl, by intro w' hw'; obtain ⟨g0, g1, g2, g3, g4, g5, g6, g7, g8, g9⟩ := KC.out _ hw'; go_simp; (try exact hs0)⟩) hS0 ?_
        simp only [Act.put, List.setIfInBounds_toArray, List.set_cons_zero, List.set_cons_succ]
        refine wpAnyH_done (by kernel_rfl) ?_ _
        go_wp2
        go_ret
        exact ⟨ret_b (HFINL.out HN.out).symm, below_then BW.out hbel.out.drew⟩
      · have HN : Hid (difL x.ls y.ls k = 0) := by unfold Hid; rw [HD.out, hs]; rfl
        unfold sameL at hs
        obtain ⟨p1, p2, p3, p4⟩ : u.kind = v.kind ∧ (u.id : Int) = (v.id : Int) ∧ (u.data : Int) = (v.data : Int) ∧ u.cost = v.cost := by simpa only [Bool.and_eq_true, beq_iff_eq] using hs
        clear hs
        go_wp2_with fail
        refine wp_region_held_drew (S := (fun W' : World => Below wr.heap.size wr W')) (by kernel_rfl) (below_drewN (Below.refl _ _) 1) (fun hS0 => ?_)
        refine wpAnyH_take (i := 0) (oi := ⟨some 81, _, _, _, _, _⟩) (v := Value.pointer (some ⟨w.heap.size, 9, none⟩)) rfl (by kernel_rfl) (by kernel_rfl) (by kernel_rfl) (fun _ _ _ h => h) (Or.inl ⟨by rfl, by intro w' hw'; obtain ⟨g0, g1, g2, g3, g4, g5, g6, g7, g8, g9⟩ := KC.out _ hw'; go_simp⟩) hS0 ?_
        simp only [Act.put, List.setIfInBounds_toArray, List.set_cons_zero, List.set_cons_succ]
        refine wpAnyH_take (i := 1) (oi := ⟨some 82, _, _, _, _, _⟩) (v := .slice (some ⟨b, off, none⟩) x.ls.length cL) rfl (by kernel_rfl) (by kernel_rfl) (by kernel_rfl) (fun _ _ _ h => h) (Or.inl ⟨by rfl, by intro w' hw'; obtain ⟨g0, g1, g2, g3, g4, g5, g6, g7, g8, g9⟩ := KC.out _ hw'; go_simp⟩) hS0 ?_
        simp only [Act.put, List.setIfInBounds_toArray, List.set_cons_zero, List.set_cons_succ]
        refine wpAnyH_take (i := 2) (oi := ⟨some 83, _, _, _, _, _⟩) (v := .int .i64 (k : Int)) rfl (by kernel_rfl) (by kernel_rfl) (by kernel_rfl) (fun _ _ _ h => h) (Or.inl ⟨by rfl, by intro w' hw'; obtain ⟨g0, g1, g2, g3, g4, g5, g6, g7, g8, g9⟩ := KC.out _ hw'; go_simp⟩) hS0 ?_
        simp only [Act.put, List.setIfInBounds_toArray, List.set_cons_zero, List.set_cons_succ]
        refine wpAnyH_take (i := 3) (oi := ⟨some 84, _, _, _, _, _⟩) (v := Value.pointer (some ⟨b, off + k * 4, none⟩)) rfl (by kernel_rfl) (by kernel_rfl) (by kernel_rfl) (fun _ _ _ h => h) (Or.inl ⟨by rfl, by intro w' hw'; obtain ⟨g0, g1, g2, g3, g4, g5, g6, g7, g8, g9⟩ := KC.out _ hw'; go_simp⟩) hS0 ?_
        simp only [Act.put, List.setIfInBounds_toArray, List.set_cons_zero, List.set_cons_succ]
        refine wpAnyH_take (i := 4) (oi := ⟨some 85, _, _, _, _, _⟩) (v := lkV u) rfl (by kernel_rfl) (by kernel_rfl) (by kernel_rfl) (fun _ _ _ h => h) (Or.inl ⟨by rfl, by intro w' hw'; obtain ⟨g0, g1, g2, g3, g4, g5, g6, g7, g8, g9⟩ := KC.out _ hw'; go_simp⟩) hS0 ?_
        simp only [Act.put, List.setIfInBounds_toArray, List.set_cons_zero, List.set_cons_succ]
        refine wpAnyH_take (i := 5) (oi := ⟨some 86, _, _, _, _, _⟩) (v := Value.pointer (some ⟨w.heap.size + 1, 9, none⟩)) rfl (by kernel_rfl) (by kernel_rfl) (by kernel_rfl) (fun _ _ _ h => h) (Or.inl ⟨by rfl, by intro w' hw'; obtain ⟨g0, g1, g2, g3, g4, g5, g6, g7, g8, g9⟩ := KC.out _ hw'; go_simp⟩) hS0 ?_
        simp only [Act.put, List.setIfInBounds_toArray, List.set_cons_zero, List.set_cons_succ]
        refine wpAnyH_take (i := 6) (oi := ⟨some 87, _, _, _, _, _⟩) (v := .slice (some ⟨b', off', none⟩) y.ls.length cL') rfl (by kernel_rfl) (by kernel_rfl) (by kernel_rfl) (fun _ _ _ h => h) (Or.inl ⟨by rfl, by intro w' hw'; obtain ⟨g0, g1, g2, g3, g4, g5, g6, g7, g8, g9⟩ := KC.out _ hw'; go_simp⟩) hS0 ?_
        simp only [Act.put, List.setIfInBounds_toArray, List.set_cons_zero, List.set_cons_succ]
        refine wpAnyH_take (i := 7) (oi := ⟨some 88, _, _, _, _, _⟩) (v := .int .i64 (k : Int)) rfl (by kernel_rfl) (by kernel_rfl) (by kernel_rfl) (fun _ _ _ h => h) (Or.inl ⟨by rfl, by intro w' hw'; obtain ⟨g0, g1, g2, g3, g4, g5, g6, g7, g8, g9⟩ := KC.out _ hw'; go_simp⟩) hS0 ?_
        simp only [Act.put, List.setIfInBounds_toArray, List.set_cons_zero, List.set_cons_succ]
        refine wpAnyH_take (i := 8) (oi := ⟨some 89, _, _, _, _, _⟩) (v := Value.pointer (some ⟨b', off' + k * 4, none⟩)) rfl (by kernel_rfl) (by kernel_rfl) (by kernel_rfl) (fun _ _ _ h => h) (Or.inl ⟨by rfl, by intro w' hw'; obtain ⟨g0, g1, g2, g3, g4, g5, g6, g7, g8, g9⟩ := KC.out _ hw'; go_simp⟩) hS0 ?_
        simp only [Act.put, List.setIfInBounds_toArray, List.set_cons_zero, List.set_cons_succ]
        refine wpAnyH_take (i := 9) (oi := ⟨some 90, _, _, _, _, _⟩) (v := lkV v) rfl (by kernel_rfl) (by kernel_rfl) (by kernel_rfl) (fun _ _ _ h => h) (Or.inl ⟨by rfl, by intro w' hw'; obtain ⟨g0, g1, g2, g3, g4, g5, g6, g7, g8, g9⟩ := KC.out _ hw'; go_simp⟩) hS0 ?_
        simp only [Act.put, List.setIfInBounds_toArray, List.set_cons_zero, List.set_cons_succ]
        refine wpAnyH_take (i := 10) (oi := ⟨some 91, _, _, _, _, _⟩) (v := .bool false) rfl (by kernel_rfl) (by kernel_rfl) (by kernel_rfl) (fun _ _ _ h => h) (Or.inl ⟨by rfl, by intro w' hw'; obtain ⟨g0, g1, g2, g3, g4, g5, g6, g7, g8, g9⟩ := KC.out _ hw'; go_simp⟩) hS0 ?_
        simp only [Act.put, List.setIfInBounds_toArray, List.set_cons_zero, List.set_cons_succ]
        refine wpAnyH_done (by kernel_rfl) ?_ _
        go_wp2
        go_roundg (x.ls.length - (k + 1))
        case measure => omega
        case rel => exact ⟨k + 1, by omega, Nat.le_refl _, by go_num, take_zero hz.out hlt HN.out, hbel.out.drew⟩
    · have hkl : k = x.ls.length := by omega
      subst hkl
      have HEL : Hid (eqL x.ls y.ls = true) := by unfold Hid eqL; rw [if_pos HLNL.out, all_zero hz.out]; rfl
      go_wp2
      go_loopg [6] x.ats.length (fun gg s6 wr => ∃ k : Nat, k ≤ x.ats.length ∧ x.ats.length - k ≤ gg ∧ s6 = .int .i64 (k : Int) ∧ Hid (∀ z ∈ ((List.range x.ats.length).map (difW x.ats y.ats)).take k, z = 0) ∧ Hid (Below ((w.alloc (lsC x.h x.bo x.bd (.slice aL x.ls.length cL) (.slice aA x.ats.length cA) x.co x.se x.fw x.ta)).alloc (lsC y.h y.bo y.bd (.slice aL' y.ls.length cL') (.slice aA' y.ats.length cA') y.co y.se y.fw y.ta)).heap.size ((w.alloc (lsC x.h x.bo x.bd (.slice aL x.ls.length cL) (.slice aA x.ats.length cA) x.co x.se x.fw x.ta)).alloc (lsC y.h y.bo y.bd (.slice aL' y.ls.length cL') (.slice aA' y.ats.length cA') y.co y.se y.fw y.ta)) wr))
      case atStart => exact ⟨0, by omega, by omega, rfl, (by unfold Hid; simp), hbel.out⟩
      case round =>
        have HFINA : Hid (eqW x.ats y.ats = false → (eqL x.ls y.ls && eqW x.ats y.ats) = false) := fun h => by rw [h]; simp
        clear hbel hz HXW HYW m0 m1 m2 m3 m4 m5 m6 m7 m8 m9 m10 m11 m12 m13 m14
        obtain ⟨k, hk, hg, rfl, hz, hbel⟩ := hrel
        have HXW : Hid (wr.heap[w.heap.size]? = some (lsC x.h x.bo x.bd (.slice aL x.ls.length cL) (.slice aA x.ats.length cA) x.co x.se x.fw x.ta)) := (hbel.out.block _ (by simp; omega)).trans HX0.out
        have HYW : Hid (wr.heap[w.heap.size + 1]? = some (lsC y.h y.bo y.bd (.slice aL' y.ls.length cL') (.slice aA' y.ats.length cA') y.co y.se y.fw y.ta)) := (hbel.out.block _ (by simp)).trans HY0.out
        obtain ⟨m0, m1, m2, m3, m4, m5, m6, m7, m8, m9, m10, m11, m12, m13, m14⟩ := cellsL HXW.out
        by_cases hlt : k < x.ats.length
        · obtain ⟨u, hx⟩ : ∃ u, x.ats[k]? = some u := ⟨_, List.getElem?_eq_getElem hlt⟩
          obtain ⟨v, hy⟩ : ∃ v, y.ats[k]? = some v := ⟨_, List.getElem?_eq_getElem (by have := HLNA.out; omega)⟩
          obtain ⟨ad1, cap1, e, ⟨hca, hcb⟩, -, hrd⟩ := HVA.out.below hbel.out
          obtain ⟨rfl, rfl⟩ : aA = ad1 ∧ cA = cap1 := by injection e with e1 e2 e3; exact ⟨e1, e3⟩
          obtain ⟨ad2, cap2, e', ⟨-, -⟩, -, hrd'⟩ := HUA.out.below hbel.out
          obtain ⟨rfl, rfl⟩ : aA' = ad2 ∧ cA' = cap2 := by injection e' with e1 e2 e3; exact ⟨e1, e3⟩
          obtain ⟨b, off, rfl, hbl, x0⟩ := hrd k u hx
          obtain ⟨b', off', rfl, hbl', y0⟩ := hrd' k v hy
          have KC : Hid (∀ W', Below wr.heap.size wr W' → W'.cell? ⟨w.heap.size, 10, none⟩ = some (.slice (some ⟨b, off, none⟩) x.ats.length cA) ∧ W'.cell? ⟨w.heap.size + 1, 10, none⟩ = some (.slice (some ⟨b', off', none⟩) y.ats.length cA') ∧ W'.cell? ⟨b, off + k, none⟩ = some (.int .u32 (u : Int)) ∧ W'.cell? ⟨b', off' + k, none⟩ = some (.int .u32 (v : Int))) := fun W' hW => by
            have hx1 := (hW.block _ (Array.getElem?_eq_some_iff.1 HXW.out).1).trans HXW.out
            have hy1 := (hW.block _ (Array.getElem?_eq_some_iff.1 HYW.out).1).trans HYW.out
            exact ⟨cell_of hx1 rfl, cell_of hy1 rfl, carry hW x0, carry hW y0⟩
          have hi0 : (0 : Int) ≤ (k : Int) := by omega
          have hi1 : (k : Int) < (x.ats.length : Int) := by omega
          have hi2 : (k : Int) < (y.ats.length : Int) := by have := HLNA.out; omega
          have HD : Hid (difW x.ats y.ats k = if sameW u v = true then 0 else 1) := by unfold Hid difW; rw [hx, hy]
          clear e e' hrd hrd' hx hy x0 y0
          cases hs : sameW u v
          · have hs0 : ¬ (u : Int) = (v : Int) := by unfold sameW at hs; rw [beq_eq_false_iff_ne] at hs; exact hs
            have HN : Hid (eqW x.ats y.ats = false) := by
              have e1 : orL ((List.range x.ats.length).map (difW x.ats y.ats)) = 1 := orL_at _ _ hz.out ((map_get hlt).trans (by rw [HD.out, hs]; rfl)) (by decide)
              unfold Hid eqW; rw [if_pos HLNA.out, e1]; rfl
            clear hs
            go_wp2_with fail
            refine wp_region_held_drew (S := (fun W' : World => Below wr.heap.size wr W')) (by kernel_rfl) (below_drewN (Below.refl _ _) 1) (fun hS0 => ?_)
            refine wpAnyH_take (i := 0) (oi := ⟨some 99, _, _, _, _, _⟩) (v := Value.pointer (some ⟨w.heap.size, 10, none⟩)) rfl (by kernel_rfl) (by kernel_rfl) (by kernel_rfl) (fun _ _ _ h => h) (Or.inl ⟨by rfl, by intro w' hw'; obtain ⟨g0, g1, g2, g3⟩ := KC.out _ hw'; go_simp⟩) hS0 ?_
            simp only [Act.put, List.setIfInBounds_toArray, List.set_cons_zero, List.set_cons_succ]
            refine wpAnyH_take (i := 1) (oi := ⟨some 100, _, _, _, _, _⟩) (v := .slice (some ⟨b, off, none⟩) x.ats.length cA) rfl (by kernel_rfl) (by kernel_rfl) (by kernel_rfl) (fun _ _ _ h => h) (Or.inl ⟨by rfl, by intro w' hw'; obtain ⟨g0, g1, g2, g3⟩ := KC.out _ hw'; go_simp⟩) hS0 ?_
            simp only [Act.put, List.setIfInBounds_toArray, List.set_cons_zero, List.set_cons_succ]
            refine wpAnyH_take (i := 2) (oi := ⟨some 101, _, _, _, _, _⟩) (v := .int .i64 (k : Int)) rfl (by kernel_rfl) (by kernel_rfl) (by kernel_rfl) (fun _ _ _ h => h) (Or.inl ⟨by rfl, by intro w' hw'; obtain ⟨g0, g1, g2, g3⟩ := KC.out _ hw'; go_simp⟩) hS0 ?_
            simp only [Act.put, List.setIfInBounds_toArray, List.set_cons_zero, List.set_cons_succ]
            refine wpAnyH_take (i := 3) (oi := ⟨some 102, _, _, _, _, _⟩) (v := Value.pointer (some ⟨b, off + k, none⟩)) rfl (by kernel_rfl) (by kernel_rfl) (by kernel_rfl) (fun _ _ _ h => h) (Or.inl ⟨by rfl, by intro w' hw'; obtain ⟨g0, g1, g2, g3⟩ := KC.out _ hw'; go_simp⟩) hS0 ?_
            simp only [Act.put, List.setIfInBounds_toArray, List.set_cons_zero, List.set_cons_succ]
            refine wpAnyH_take (i := 4) (oi := ⟨some 103, _, _, _, _, _⟩) (v := .int .u32 (u : Int)) rfl (by kernel_rfl) (by kernel_rfl) (by kernel_rfl) (fun _ _ _ h => h) (Or.inl ⟨by rfl, by intro w' hw'; obtain ⟨g0, g1, g2, g3⟩ := KC.out _ hw'; go_simp⟩) hS0 ?_
            simp only [Act.put, List.setIfInBounds_toArray, List.set_cons_zero, List.set_cons_succ]
            refine wpAnyH_take (i := 5) (oi := ⟨some 104, _, _, _, _, _⟩) (v := Value.pointer (some ⟨w.heap.size + 1, 10, none⟩)) rfl (by kernel_rfl) (by kernel_rfl) (by kernel_rfl) (fun _ _ _ h => h) (Or.inl ⟨by rfl, by intro w' hw'; obtain ⟨g0, g1, g2, g3⟩ := KC.out _ hw'; go_simp⟩) hS0 ?_
            simp only [Act.put, List.setIfInBounds_toArray, List.set_cons_zero, List.set_cons_succ]
            refine wpAnyH_take (i := 6) (oi := ⟨some 105, _, _, _, _, _⟩) (v := .slice (some ⟨b', off', none⟩) y.ats.length cA') rfl (by kernel_rfl) (by kernel_rfl) (by kernel_rfl) (fun _ _ _ h => h) (Or.inl ⟨by rfl, by intro w' hw'; obtain ⟨g0, g1, g2, g3⟩ := KC.out _ hw'; go_simp⟩) hS0 ?_
            simp only [Act.put, List.setIfInBounds_toArray, List.set_cons_zero, List.set_cons_succ]
            refine wpAnyH_take (i := 7) (oi := ⟨some 106, _, _, _, _, _⟩) (v := .int .i64 (k : Int)) rfl (by kernel_rfl) (by kernel_rfl) (by kernel_rfl) (fun _ _ _ h => h) (Or.inl ⟨by rfl, by intro w' hw'; obtain ⟨g0, g1, g2, g3⟩ := KC.out _ hw'; go_simp⟩) hS0 ?_
            simp only [Act.put, List.setIfInBounds_toArray, List.set_cons_zero, List.set_cons_succ]
            refine wpAnyH_take (i := 8) (oi := ⟨some 107, _, _, _, _, _⟩) (v := Value.pointer (some ⟨b', off' + k, none⟩)) rfl (by kernel_rfl) (by kernel_rfl) (by kernel_rfl) (fun _ _ _ h => h) (Or.inl ⟨by rfl, by intro w' hw'; obtain ⟨g0, g1, g2, g3⟩ := KC.out _ hw'; go_simp⟩) hS0 ?_
            simp only [Act.put, List.setIfInBounds_toArray, List.set_cons_zero, List.set_cons_succ]
            refine wpAnyH_take (i := 9) (oi := ⟨some 108, _, _, _, _, _⟩) (v := .int .u32 (v : Int)) rfl (by kernel_rfl) (by kernel_rfl) (by kernel_rfl) (fun _ _ _ h => h) (Or.inl ⟨by rfl, by intro w' hw'; obtain ⟨g0, g1, g2, g3⟩ := KC.out _ hw'; go_simp⟩) hS0 ?_
            simp only [Act.put, List.setIfInBounds_toArray, List.set_cons_zero, List.set_cons_succ]
            refine wpAnyH_take (i := 10) (oi := ⟨some 109, _, _, _, _, _⟩) (v := .bool true) rfl (by kernel_rfl) (by kernel_rfl) (by kernel_rfl) (fun _ _ _ h => h) (Or.inl ⟨by rfl, by intro w' hw'; obtain ⟨g0, g1, g2, g3⟩ := KC.out _ hw'; go_simp; (try exact hs0)⟩) hS0 ?_
            simp only [Act.put, List.setIfInBounds_toArray, List.set_cons_zero, List.set_cons_succ]
            refine wpAnyH_done (by kernel_rfl) ?_ _
            go_wp2
            go_ret
            exact ⟨ret_b (HFINA.out HN.out).symm, below_then BW.out hbel.out.drew⟩
          · have HN : Hid (difW x.ats y.ats k = 0) := by unfold Hid; rw [HD.out, hs]; rfl
            unfold sameW at hs
            have hs0 : (u : Int) = (v : Int) := eq_of_beq hs
            clear hs
            go_wp2_with fail
            refine wp_region_held_drew (S := (fun W' : World => Below wr.heap.size wr W')) (by kernel_rfl) (below_drewN (Below.refl _ _) 1) (fun hS0 => ?_)
            refine wpAnyH_take (i := 0) (oi := ⟨some 99, _, _, _, _, _⟩) (v := Value.pointer (some ⟨w.heap.size, 10, none⟩)) rfl (by kernel_rfl) (by kernel_rfl) (by kernel_rfl) (fun _ _ _ h => h) (Or.inl ⟨by rfl, by intro w' hw'; obtain ⟨g0, g1, g2, g3⟩ := KC.out _ hw'; go_simp⟩) hS0 ?_
            simp only [Act.put, List.setIfInBounds_toArray, List.set_cons_zero, List.set_cons_succ]
            refine wpAnyH_take (i := 1) (oi := ⟨some 100, _, _, _, _, _⟩) (v := .slice (some ⟨b, off, none⟩) x.ats.length cA) rfl (by kernel_rfl) (by kernel_rfl) (by kernel_rfl) (fun _ _ _ h => h) (Or.inl ⟨by rfl, by intro w' hw'; obtain ⟨g0, g1, g2, g3⟩ := KC.out _ hw'; go_simp⟩) hS0 ?_
            simp only [Act.put, List.setIfInBounds_toArray, List.set_cons_zero, List.set_cons_succ]
            refine wpAnyH_take (i := 2) (oi := ⟨some 101, _, _, _, _, _⟩) (v := .int .i64 (k : Int)) rfl (by kernel_rfl) (by kernel_rfl) (by kernel_rfl) (fun _ _ _ h => h) (Or.inl ⟨by rfl, by intro w' hw'; obtain ⟨g0, g1, g2, g3⟩ := KC.out _ hw'; go_simp⟩) hS0 ?_
            simp only [Act.put, List.setIfInBounds_toArray, List.set_cons_zero, List.set_cons_succ]
            refine wpAnyH_take (i := 3) (oi := ⟨some 102, _, _, _, _, _⟩) (v := Value.pointer (some ⟨b, off + k, none⟩)) rfl (by kernel_rfl) (by kernel_rfl) (by kernel_rfl) (fun _ _ _ h => h) (Or.inl ⟨by rfl, by intro w' hw'; obtain ⟨g0, g1, g2, g3⟩ := KC.out _ hw'; go_simp⟩) hS0 ?_
            simp only [Act.put, List.setIfInBounds_toArray, List.set_cons_zero, List.set_cons_succ]
            refine wpAnyH_take (i := 4) (oi := ⟨some 103, _, _, _, _, _⟩) (v := .int .u32 (u : Int)) rfl (by kernel_rfl) (by kernel_rfl) (by kernel_rfl) (fun _ _ _ h => h) (Or.inl ⟨by rfl, by intro w' hw'; obtain ⟨g0, g1, g2, g3⟩ := KC.out _ hw'; go_simp⟩) hS0 ?_
            simp only [Act.put, List.setIfInBounds_toArray, List.set_cons_zero, List.set_cons_succ]
            refine wpAnyH_take (i := 5) (oi := ⟨some 104, _, _, _, _, _⟩) (v := Value.pointer (some ⟨w.heap.size + 1, 10, none⟩)) rfl (by kernel_rfl) (by kernel_rfl) (by kernel_rfl) (fun _ _ _ h => h) (Or.inl ⟨by rfl, by intro w' hw'; obtain ⟨g0, g1, g2, g3⟩ := KC.out _ hw'; go_simp⟩) hS0 ?_
            simp only [Act.put, List.setIfInBounds_toArray, List.set_cons_zero, List.set_cons_succ]
            refine wpAnyH_take (i := 6) (oi := ⟨some 105, _, _, _, _, _⟩) (v := .slice (some ⟨b', off', none⟩) y.ats.length cA') rfl (by kernel_rfl) (by kernel_rfl) (by kernel_rfl) (fun _ _ _ h => h) (Or.inl ⟨by rfl, by intro w' hw'; obtain ⟨g0, g1, g2, g3⟩ := KC.out _ hw'; go_simp⟩) hS0 ?_
            simp only [Act.put, List.setIfInBounds_toArray, List.set_cons_zero, List.set_cons_succ]
            refine wpAnyH_take (i := 7) (oi := ⟨some 106, _, _, _, _, _⟩) (v := .int .i64 (k : Int)) rfl (by kernel_rfl) (by kernel_rfl) (by kernel_rfl) (fun _ _ _ h => h) (Or.inl ⟨by rfl, by intro w' hw'; obtain ⟨g0, g1, g2, g3⟩ := KC.out _ hw'; go_simp⟩) hS0 ?_
            simp only [Act.put, List.setIfInBounds_toArray, List.set_cons_zero, List.set_cons_succ]
            refine wpAnyH_take (i := 8) (oi := ⟨some 107, _, _, _, _, _⟩) (v := Value.pointer (some ⟨b', off' + k, none⟩)) rfl (by kernel_rfl) (by kernel_rfl) (by kernel_rfl) (fun _ _ _ h => h) (Or.inl ⟨by rfl, by intro w' hw'; obtain ⟨g0, g1, g2, g3⟩ := KC.out _ hw'; go_simp⟩) hS0 ?_
            simp only [Act.put, List.setIfInBounds_toArray, List.set_cons_zero, List.set_cons_succ]
            refine wpAnyH_take (i := 9) (oi := ⟨some 108, _, _, _, _, _⟩) (v := .int .u32 (v : Int)) rfl (by kernel_rfl) (by kernel_rfl) (by kernel_rfl) (fun _ _ _ h => h) (Or.inl ⟨by rfl, by intro w' hw'; obtain ⟨g0, g1, g2, g3⟩ := KC.out _ hw'; go_simp⟩) hS0 ?_
            simp only [Act.put, List.setIfInBounds_toArray, List.set_cons_zero, List.set_cons_succ]
            refine wpAnyH_take (i := 10) (oi := ⟨some 109, _, _, _, _, _⟩) (v := .bool false) rfl (by kernel_rfl) (by kernel_rfl) (by kernel_rfl) (fun _ _ _ h => h) (Or.inl ⟨by rfl, by intro w' hw'; obtain ⟨g0, g1, g2, g3⟩ := KC.out _ hw'; go_simp⟩) hS0 ?_
            simp only [Act.put, List.setIfInBounds_toArray, List.set_cons_zero, List.set_cons_succ]
            refine wpAnyH_done (by kernel_rfl) ?_ _
            go_wp2
            go_roundg (x.ats.length - (k + 1))
            case measure => omega
            case rel => exact ⟨k + 1, by omega, Nat.le_refl _, by go_num, take_zero hz.out hlt HN.out, hbel.out.drew⟩
        · have hkl : k = x.ats.length := by omega
          subst hkl
          have HEA : Hid (eqW x.ats y.ats = true) := by unfold Hid eqW; rw [if_pos HLNA.out, all_zero hz.out]; rfl
          go_wp2
          go_ret
          exact ⟨ret_b (by rw [HEL.out, HEA.out]; rfl), below_then BW.out hbel.out⟩
end Go.Proofs.Ytenfcnappjekgaa
