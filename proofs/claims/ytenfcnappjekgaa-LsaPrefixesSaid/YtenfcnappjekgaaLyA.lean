/-
  Check at any advertisement, both; the walk of the law Checks.
-/
import Derived.Test.YtenfcnappjekgaaLyI
import Derived.Test.YtenfcnappjekgaaLyJ
import Derived.Test.YtenfcnappjekgaaLxB
namespace Go.Proofs.Ytenfcnappjekgaa
open Go.RowKit
set_option linter.unusedSimpArgs false
set_option linter.unusedVariables false
set_option maxHeartbeats 4000000
set_option maxRecDepth 100000


/-- an advertisement -/
structure Ls where
  h : Hd
  bo : Bool
  bd : Bool
  ls : List Lk
  ats : List Nat
  co : Int
  se : Bool
  fw : Nat
  ta : Int
structure LsOk (x : Ls) : Prop where
  h : HdOk x.h
  co : I64 x.co
  fw : x.fw < 4294967296
  ta : I64 x.ta
def chkF (x : Ls) : Int := chkC x.h (ownB x.h.ty x.bo x.bd x.ls.length x.ats.length x.co x.se x.fw x.ta) (lnkC x.ls x.h.rt) (atC x.ats x.h.rt) x.co x.ta
def RdA (w : World) (v : Value) (x : Ls) : Prop := ∃ aL cL aA cA, v = lsV x.h x.bo x.bd (.slice aL x.ls.length cL) (.slice aA x.ats.length cA) x.co x.se x.fw x.ta ∧ RdL w (.slice aL x.ls.length cL) x.ls ∧ RdW w (.slice aA x.ats.length cA) x.ats
theorem RdA.below {w w' : World} {v : Value} {x : Ls} (h : RdA w v x) (hb : Below w.heap.size w w') : RdA w' v x := by
  obtain ⟨aL, cL, aA, cA, e, h1, h2⟩ := h
  exact ⟨aL, cL, aA, cA, e, h1.below hb, h2.below hb⟩
theorem check_any (x : Ls) (hx : LsOk x) (v : Value) (w : World) (hr : RdA w v x) : Calls Try.prog 13 #[v] w fun e w' => e = .returned (.int .i64 (chkF x)) ∧ Below w.heap.size w w' := by
  obtain ⟨aL, cL, aA, cA, rfl, h1, h2⟩ := hr
  exact check_gen x.h hx.h x.bo x.bd aL x.ls.length cL aA x.ats.length cA x.co x.se x.fw x.ta (lnkC x.ls x.h.rt) (atC x.ats x.h.rt) w
    (fun _ W hW => checkLinks_any x.h x.bo x.bd x.ls aL cL aA x.ats.length cA x.co x.se x.fw x.ta W (h1.below hW)) (fun _ W hW => checkAtt_any x.h x.bo x.bd aL x.ls.length cL x.ats aA cA x.co x.se x.fw x.ta W (h2.below hW))
theorem rcheck_any (x : Ls) (hx : LsOk x) (v : Value) (w : World) (hr : RdA w v x) : Calls Try.prog 14 #[v] w fun e w' => e = .returned (.int .i64 (chkF x)) ∧ Below w.heap.size w w' := by
  obtain ⟨aL, cL, aA, cA, rfl, h1, h2⟩ := hr
  exact rcheck_gen x.h hx.h x.bo x.bd aL x.ls.length cL aA x.ats.length cA x.co x.se x.fw x.ta (lnkC x.ls x.h.rt) (atC x.ats x.h.rt) w
    (fun _ W hW => rcheckLinks_any x.h x.bo x.bd x.ls aL cL aA x.ats.length cA x.co x.se x.fw x.ta W (h1.below hW)) (fun _ W hW => rcheckAtt_any x.h x.bo x.bd aL x.ls.length cL x.ats aA cA x.co x.se x.fw x.ta W (h2.below hW))

theorem lawChecks0 (x : Ls) (hx : LsOk x) (aL : Option Addr) (cL : Nat) (aA : Option Addr) (cA : Nat) (w : World) (hr : RdA w (lsV x.h x.bo x.bd (.slice aL x.ls.length cL) (.slice aA x.ats.length cA) x.co x.se x.fw x.ta) x) : Calls Try.prog 3 #[lsV x.h x.bo x.bd (.slice aL x.ls.length cL) (.slice aA x.ats.length cA) x.co x.se x.fw x.ta] w fun e w' => e = .returned (.bool true) ∧ Below w.heap.size w w' := by
  obtain ⟨c, hc⟩ : ∃ c, chkF x = c := ⟨_, rfl⟩
  have H1P : Hid (∀ W, Below w.heap.size w W → Calls Try.prog 13 #[lsV x.h x.bo x.bd (.slice aL x.ls.length cL) (.slice aA x.ats.length cA) x.co x.se x.fw x.ta] W fun e w' => e = .returned (.int .i64 c) ∧ Below W.heap.size W w') := fun W hW => hc ▸ check_any x hx _ W (hr.below hW)
  have H2P : Hid (∀ W, Below w.heap.size w W → Calls Try.prog 14 #[lsV x.h x.bo x.bd (.slice aL x.ls.length cL) (.slice aA x.ats.length cA) x.co x.se x.fw x.ta] W fun e w' => e = .returned (.int .i64 c) ∧ Below W.heap.size W w') := fun W hW => hc ▸ rcheck_any x hx _ W (hr.below hW)
  have H3 := Lib.hid lives_any
  have t1 : (c == c) = true := by simp
  clear hc hr hx
  have BW : Hid (Below w.heap.size w (w.alloc (lsC x.h x.bo x.bd (.slice aL x.ls.length cL) (.slice aA x.ats.length cA) x.co x.se x.fw x.ta))) := below_alloc _ _
  have SW : Hid ((w.alloc (lsC x.h x.bo x.bd (.slice aL x.ls.length cL) (.slice aA x.ats.length cA) x.co x.se x.fw x.ta)).heap.size = w.heap.size + 1) := by unfold Hid; simp
  have KW : Hid (∀ W', Below (w.alloc (lsC x.h x.bo x.bd (.slice aL x.ls.length cL) (.slice aA x.ats.length cA) x.co x.se x.fw x.ta)).heap.size (w.alloc (lsC x.h x.bo x.bd (.slice aL x.ls.length cL) (.slice aA x.ats.length cA) x.co x.se x.fw x.ta)) W' → ∀ g o, g < w.heap.size + 1 → W'.cell? ⟨g, o, none⟩ = (w.alloc (lsC x.h x.bo x.bd (.slice aL x.ls.length cL) (.slice aA x.ats.length cA) x.co x.se x.fw x.ta)).cell? ⟨g, o, none⟩) := fun W' h g o hb => h.cell (p := ⟨g, o, none⟩) (by rw [SW.out]; exact hb)
  have K0 := KW.out _ (below_drewN (Below.refl _ (w.alloc (lsC x.h x.bo x.bd (.slice aL x.ls.length cL) (.slice aA x.ats.length cA) x.co x.se x.fw x.ta))) 1)
  have D0 : Hid (Below (w.alloc (lsC x.h x.bo x.bd (.slice aL x.ls.length cL) (.slice aA x.ats.length cA) x.co x.se x.fw x.ta)).heap.size (w.alloc (lsC x.h x.bo x.bd (.slice aL x.ls.length cL) (.slice aA x.ats.length cA) x.co x.se x.fw x.ta)) (w.alloc (lsC x.h x.bo x.bd (.slice aL x.ls.length cL) (.slice aA x.ats.length cA) x.co x.se x.fw x.ta)).drew) := below_drewN (Below.refl _ (w.alloc (lsC x.h x.bo x.bd (.slice aL x.ls.length cL) (.slice aA x.ats.length cA) x.co x.se x.fw x.ta))) 1
  go_enter Try.func3, Try.ntmps3
  go_wp2_with fail
  go_region_held3 (fun w' => (∀ g o, g < w.heap.size + 1 → w'.cell? ⟨g, o, none⟩ = (w.alloc (lsC x.h x.bo x.bd (.slice aL x.ls.length cL) (.slice aA x.ats.length cA) x.co x.se x.fw x.ta)).cell? ⟨g, o, none⟩) ∧ Hid (Below (w.alloc (lsC x.h x.bo x.bd (.slice aL x.ls.length cL) (.slice aA x.ats.length cA) x.co x.se x.fw x.ta)).heap.size (w.alloc (lsC x.h x.bo x.bd (.slice aL x.ls.length cL) (.slice aA x.ats.length cA) x.co x.se x.fw x.ta)) w')) (first | exact hk | exact ⟨K0, D0⟩ | go_keep)
    (first
      | (go_at_call 13; (refine (H1P.out _ (below_then BW.out (Hid.out (And.right ‹_ ∧ Hid (Below _ (w.alloc (lsC x.h x.bo x.bd (.slice aL x.ls.length cL) (.slice aA x.ats.length cA) x.co x.se x.fw x.ta)) _)›)))).mono ?_; rintro e w3 ⟨rfl, hb⟩; have hB := keep2 (Hid.out (And.right ‹_ ∧ Hid (Below _ (w.alloc (lsC x.h x.bo x.bd (.slice aL x.ls.length cL) (.slice aA x.ats.length cA) x.co x.se x.fw x.ta)) _)›)) hb; have hk := And.intro (KW.out _ hB) (Lib.hid hB); clear hb))
      | (go_at_call 14; (refine (H2P.out _ (below_then BW.out (Hid.out (And.right ‹_ ∧ Hid (Below _ (w.alloc (lsC x.h x.bo x.bd (.slice aL x.ls.length cL) (.slice aA x.ats.length cA) x.co x.se x.fw x.ta)) _)›)))).mono ?_; rintro e w3 ⟨rfl, hb⟩; have hB := keep2 (Hid.out (And.right ‹_ ∧ Hid (Below _ (w.alloc (lsC x.h x.bo x.bd (.slice aL x.ls.length cL) (.slice aA x.ats.length cA) x.co x.se x.fw x.ta)) _)›)) hb; have hk := And.intro (KW.out _ hB) (Lib.hid hB); clear hb))
      | (go_at_call 15; ((with_reducible refine (H3.out _).mono ?_); rintro e w3 ⟨rfl, hb⟩; have hB := keep2 (Hid.out (And.right ‹_ ∧ Hid (Below _ (w.alloc (lsC x.h x.bo x.bd (.slice aL x.ls.length cL) (.slice aA x.ats.length cA) x.co x.se x.fw x.ta)) _)›)) hb; have hk := And.intro (KW.out _ hB) (Lib.hid hB); clear hb)))
  all_goals go_wp2
  all_goals go_ret
  all_goals (
    obtain ⟨-, hB2⟩ := hk
    exact ⟨rfl, below_then BW.out hB2.out⟩)

theorem lawChecks (x : Ls) (hx : LsOk x) (v : Value) (w : World) (hr : RdA w v x) : Calls Try.prog 3 #[v] w fun e w' => e = .returned (.bool true) ∧ Below w.heap.size w w' := by
  obtain ⟨aL, cL, aA, cA, rfl, h1, h2⟩ := id hr
  exact lawChecks0 x hx aL cL aA cA w hr
end Go.Proofs.Ytenfcnappjekgaa
