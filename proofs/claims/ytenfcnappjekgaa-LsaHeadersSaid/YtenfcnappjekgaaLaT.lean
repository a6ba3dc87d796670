/-
  The sum of an encoding; Encode and Seal where the lists are nil.
-/
import Derived.Test.YtenfcnappjekgaaLaS
import Derived.Test.YtenfcnappjekgaaLaI
namespace Go.Proofs.Ytenfcnappjekgaa
open Go.RowKit
set_option linter.unusedSimpArgs false
set_option linter.unusedVariables false
set_option maxHeartbeats 4000000
set_option maxRecDepth 100000

def encL (h : HdN) (b : List Nat) : List Nat := hdB h ++ lowB 2 b.length ++ b
def sumL (l : List Nat) : Int := flv (l.drop 2) 14
theorem encL_len (h : HdN) (b : List Nat) : (encL h b).length = 20 + b.length := by simp [encL, hdB_len, lowB_len]; omega
theorem sum_any (l : List Nat) (v : Value) (w : World) (hl : l.length ≤ 1000000) (h18 : 18 ≤ l.length) (hr : Rd w v l) :
    Calls Try.prog 56 #[v] w fun e w' => e = .returned (.int .i64 (sumL l)) ∧ Below w.heap.size w w' := by
  obtain ⟨ad, cap, rfl, hc, -, -⟩ := id hr
  have HF := Lib.hid (fletcher_yes (l.drop 2) _ 14 w (by simp; omega) (rd_drop hr 2) (by simp; omega))
  have q0 : (2 : Int) ≤ (l.length : Int) := by omega
  clear hr
  by_cases h2 : cap = 2
  · omega
  have e : (fun x : Addr => x.add 2) = (fun x : Addr => ({ block := x.block, off := x.off + 2 } : Addr)) := by funext x; simp [Addr.add]
  rw [if_neg h2, e] at HF
  go_enter Try.func56, Try.ntmps56
  go_wp2_with (go_at_call 85; refine HF.out.mono ?_; rintro e w1 ⟨rfl, h1⟩; have HB1 := Lib.hid h1; clear h1)
  go_ret
  exact ⟨rfl, HB1.out⟩
def encC (c S sum : Int) : Int := if c ≠ 0 then c else if S ≠ sum then 13 else 0
def EncP (w : World) (r : Int) (E : List Nat) (e : Ending) (w' : World) : Prop := ∃ v, e = .returned (.tuple #[v, .int .i64 r]) ∧ OwnB w w' v (if r = 0 then E else []) ∧ Below w.heap.size w w'
theorem EncP.bad {w w' : World} {r r' : Int} {E : List Nat} (hr : r = r') (h0 : r' ≠ 0) (hb : Below w.heap.size w w') : EncP w r E (.returned (.tuple #[.slice none 0 0, .int .i64 r'])) w' := by
  subst hr
  exact ⟨_, rfl, by rw [if_neg h0]; exact ⟨World.ownsRow_nil _ _ _ _, fun x h => by cases h⟩, hb⟩
theorem EncP.good {w w' : World} {r : Int} {E : List Nat} {v : Value} (hr : r = 0) (ho : OwnB w w' v E) (hb : Below w.heap.size w w') : EncP w r E (.returned (.tuple #[v, .int .i64 0])) w' := by
  subst hr
  exact ⟨v, rfl, by rw [if_pos rfl]; exact ho, hb⟩
theorem encode_gen (h : HdN) (bo bd : Bool) (aL : Option Addr) (nL cL : Nat) (aA : Option Addr) (nA cA : Nat) (co : Int) (se : Bool) (fw : Nat) (ta : Int) (E : List Nat) (h18 : 18 ≤ E.length) (hEl : E.length ≤ 1000000) (S : Int) (hS : sumL E = S) (c r : Int) (hr : r = encC c S h.sum) (w : World)
    (hC : ∀ W, Below w.heap.size w W → Calls Try.prog 13 #[lsV h.z bo bd (.slice aL nL cL) (.slice aA nA cA) co se fw ta] W fun e w' => e = .returned (.int .i64 c) ∧ Below W.heap.size W w')
    (hE : c = 0 → ∀ W, Below w.heap.size w W → Calls Try.prog 57 #[lsV h.z bo bd (.slice aL nL cL) (.slice aA nA cA) co se fw ta] W fun e w' => ∃ v, e = .returned v ∧ OwnB W w' v E ∧ Below W.heap.size W w') :
    Calls Try.prog 25 #[lsV h.z bo bd (.slice aL nL cL) (.slice aA nA cA) co se fw ta] w fun e w' => EncP w r E e w' := by
  have hx0 : (w.alloc (lsC h.z bo bd (.slice aL nL cL) (.slice aA nA cA) co se fw ta)).heap[w.heap.size]? = some (lsC h.z bo bd (.slice aL nL cL) (.slice aA nA cA) co se fw ta) := heap_alloc_new w _
  have HX := Lib.hid hx0
  have B0 := Lib.hid (below_alloc w (lsC h.z bo bd (.slice aL nL cL) (.slice aA nA cA) co se fw ta))
  have H1 := Lib.hid (hC _ B0.out)
  have HE := Lib.hid hE
  have HNB : Hid (∀ W, OwnB w W (.slice none 0 0) []) := fun W => ⟨World.ownsRow_nil _ _ _ _, fun x h => by cases h⟩
  clear hC hE hx0
  go_enter Try.func25, Try.ntmps25
  go_wp2_with fail
  go_at_call 13
  refine H1.out.mono ?_
  rintro e w1 ⟨rfl, h1⟩
  have HB1 := Lib.hid (below_then B0.out h1)
  have HX1 : Hid (w1.heap[w.heap.size]? = some (lsC h.z bo bd (.slice aL nL cL) (.slice aA nA cA) co se fw ta)) := (h1.block _ (by simp)).trans HX.out
  by_cases hc : c = 0
  · subst hc
    obtain ⟨k0, k1, k2, k3, k4, k5, k6, k7, k8, k9, k10, k11, k12, k13, k14⟩ := cellsL HX1.out
    have HE2 := Lib.hid (HE.out rfl _ HB1.out)
    clear h1
    go_wp2_with fail
    go_at_call 57
    refine HE2.out.mono ?_
    rintro e w2 ⟨v, rfl, ho, h2⟩
    have HB2 := Lib.hid (below_then HB1.out h2)
    have HX2 : Hid (w2.heap[w.heap.size]? = some (lsC h.z bo bd (.slice aL nL cL) (.slice aA nA cA) co se fw ta)) := (h2.block _ (Array.getElem?_eq_some_iff.1 HX1.out).1).trans HX1.out
    have HO : Hid (OwnB w w2 v E) := ho.base HB1.out.size
    have HS : Hid (∀ W, Below w2.heap.size w2 W → Calls Try.prog 56 #[v] W fun e w' => e = .returned (.int .i64 S) ∧ Below W.heap.size W w') := fun W hW =>
      hS ▸ sum_any E v W hEl h18 (HO.out.below hW).rd
    obtain ⟨m0, m1, m2, m3, m4, m5, m6, m7, m8, m9, m10, m11, m12, m13, m14⟩ := cellsL HX2.out
    clear h2 ho k0 k1 k2 k3 k4 k5 k6 k7 k8 k9 k10 k11 k12 k13 k14
    have HR : Hid (r = if S ≠ (h.sum : Int) then 13 else 0) := by unfold Hid; rw [hr]; simp [encC]
    clear hr
    have m6' : w2.cell? ⟨w.heap.size, 6, none⟩ = some (.int .i64 (h.sum : Int)) := m6
    clear hS h18 hEl
    go_wp2_with fail
    go_region_held3 (fun w' => w'.cell? ⟨w.heap.size, 6, none⟩ = some (.int .i64 (h.sum : Int)) ∧ Hid (Below w2.heap.size w2 w')) (first | exact ⟨m6', (Below.refl _ _).drew⟩ | go_keep)
      (first
        | (go_at_call 56; refine Calls.mono (HS.out _ (Hid.out (And.right ‹_ ∧ Hid (Below w2.heap.size w2 _)›))) ?_; rintro e w3 ⟨rfl, h3⟩; have hk : w3.cell? ⟨w.heap.size, 6, none⟩ = some (.int .i64 (h.sum : Int)) ∧ Hid (Below w2.heap.size w2 w3) := And.intro (carry h3 (And.left ‹_ ∧ Hid (Below w2.heap.size w2 _)›)) ((Hid.out (And.right ‹_ ∧ Hid (Below w2.heap.size w2 _)›)).trans (h3.mono (Hid.out (And.right ‹_ ∧ Hid (Below w2.heap.size w2 _)›)).size)); clear h3))
    all_goals (
      obtain ⟨-, hk2⟩ := hk
      have HB3 := Lib.hid (below_then HB2.out hk2.out)
      have HO3 : Hid (OwnB w w3 v E) := HO.out.below hk2.out
      by_cases hs : S = (h.sum : Int)
      · subst hs
        have HR0 : Hid (r = 0) := HR.out.trans (by simp)
        go_wp2
        refine bodyPost_ret (results_tmp2 rfl _ _ _) rfl ?_
        exact EncP.good HR0.out HO3.out HB3.out
      · have hs' : (S != (h.sum : Int)) = true := by simpa using hs
        have HR0 : Hid (r = 13) := HR.out.trans (by simp [hs])
        go_wp2
        refine bodyPost_ret (results_tmp2 rfl _ _ _) rfl ?_
        exact EncP.bad HR0.out (by decide) HB3.out)
  · have c0' : (c != 0) = true := by simpa using hc
    have HR : Hid (r = c) := by unfold Hid; rw [hr]; simp [encC, hc]
    clear h1 hr hS h18 hEl
    go_wp2
    refine bodyPost_ret (results_tmp2 rfl _ _ _) rfl ?_
    exact EncP.bad HR.out hc HB1.out
end Go.Proofs.Ytenfcnappjekgaa
