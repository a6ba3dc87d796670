/-
  The walk of the law Keys.
-/
import Derived.Test.YtenfcnappjekgaaLxA
import Derived.Laws.StructEq
namespace Go.Proofs.Ytenfcnappjekgaa
open Go.RowKit
set_option linter.unusedSimpArgs false
set_option linter.unusedVariables false
set_option maxHeartbeats 4000000
set_option maxRecDepth 100000

theorem lawKeys (h : Hd) (x : Int) (y : Nat) (z : Int) (u : Nat) (x' : Int) (y' : Nat) (z' : Int) (u' : Nat) (w : World) : Calls Try.prog 4 #[hdV h, keV x y z u, keV x' y' z' u'] w fun e w' => e = .returned (.bool true) ∧ Below w.heap.size w w' := by
  obtain ⟨c, hc⟩ : ∃ c, cmpK x y z u x' y' z' u' = c := ⟨_, rfl⟩
  have H1 := Lib.hid (key_any h)
  have H2 := Lib.hid (rkey_any h)
  have H3 : Hid (∀ W, Calls Try.prog 18 #[keV x y z u, keV x' y' z' u'] W fun e w' => e = .returned (.int .i64 c) ∧ Below W.heap.size W w') := fun W => hc ▸ keys_any x y z u x' y' z' u' W
  have H4 : Hid (∀ W, Calls Try.prog 19 #[keV x y z u, keV x' y' z' u'] W fun e w' => e = .returned (.int .i64 c) ∧ Below W.heap.size W w') := fun W => hc ▸ rkeys_any x y z u x' y' z' u' W
  have H5 := Lib.hid lives_any
  have t1 : (c == c) = true := by simp
  clear hc
  have BW : Hid (Below w.heap.size w (((w.alloc (hdC h)).alloc (keC x y z u)).alloc (keC x' y' z' u'))) := below3 _ _ _ _
  have SW : Hid ((((w.alloc (hdC h)).alloc (keC x y z u)).alloc (keC x' y' z' u')).heap.size = w.heap.size + 1 + 1 + 1) := by unfold Hid; simp
  have KW : Hid (∀ W', Below (((w.alloc (hdC h)).alloc (keC x y z u)).alloc (keC x' y' z' u')).heap.size (((w.alloc (hdC h)).alloc (keC x y z u)).alloc (keC x' y' z' u')) W' → ∀ g o, g < w.heap.size + 1 + 1 + 1 → W'.cell? ⟨g, o, none⟩ = (((w.alloc (hdC h)).alloc (keC x y z u)).alloc (keC x' y' z' u')).cell? ⟨g, o, none⟩) := fun W' h g o hb => h.cell (p := ⟨g, o, none⟩) (by rw [SW.out]; exact hb)
  have K0 := KW.out _ (below_drewN (Below.refl _ (((w.alloc (hdC h)).alloc (keC x y z u)).alloc (keC x' y' z' u'))) 1)
  have D0 : Hid (Below (((w.alloc (hdC h)).alloc (keC x y z u)).alloc (keC x' y' z' u')).heap.size (((w.alloc (hdC h)).alloc (keC x y z u)).alloc (keC x' y' z' u')) (((w.alloc (hdC h)).alloc (keC x y z u)).alloc (keC x' y' z' u')).drew) := below_drewN (Below.refl _ (((w.alloc (hdC h)).alloc (keC x y z u)).alloc (keC x' y' z' u'))) 1
  go_enter Try.func4, Try.ntmps4
  go_wp2_with fail
  go_region_held3 (fun w' => (∀ g o, g < w.heap.size + 1 + 1 + 1 → w'.cell? ⟨g, o, none⟩ = (((w.alloc (hdC h)).alloc (keC x y z u)).alloc (keC x' y' z' u')).cell? ⟨g, o, none⟩) ∧ Hid (Below (((w.alloc (hdC h)).alloc (keC x y z u)).alloc (keC x' y' z' u')).heap.size (((w.alloc (hdC h)).alloc (keC x y z u)).alloc (keC x' y' z' u')) w')) (first | exact hk | exact ⟨K0, D0⟩ | go_keep)
    (first
      | (go_at_call 16; ((with_reducible refine (H1.out _).mono ?_); rintro e w3 ⟨rfl, hb⟩; have hB := keep2 (Hid.out (And.right ‹_ ∧ Hid (Below _ (((w.alloc (hdC h)).alloc (keC x y z u)).alloc (keC x' y' z' u')) _)›)) hb; have hk := And.intro (KW.out _ hB) (Lib.hid hB); clear hb))
      | (go_at_call 17; ((with_reducible refine (H2.out _).mono ?_); rintro e w3 ⟨rfl, hb⟩; have hB := keep2 (Hid.out (And.right ‹_ ∧ Hid (Below _ (((w.alloc (hdC h)).alloc (keC x y z u)).alloc (keC x' y' z' u')) _)›)) hb; have hk := And.intro (KW.out _ hB) (Lib.hid hB); clear hb))
      | (go_at_call 18; ((with_reducible refine (H3.out _).mono ?_); rintro e w3 ⟨rfl, hb⟩; have hB := keep2 (Hid.out (And.right ‹_ ∧ Hid (Below _ (((w.alloc (hdC h)).alloc (keC x y z u)).alloc (keC x' y' z' u')) _)›)) hb; have hk := And.intro (KW.out _ hB) (Lib.hid hB); clear hb))
      | (go_at_call 19; ((with_reducible refine (H4.out _).mono ?_); rintro e w3 ⟨rfl, hb⟩; have hB := keep2 (Hid.out (And.right ‹_ ∧ Hid (Below _ (((w.alloc (hdC h)).alloc (keC x y z u)).alloc (keC x' y' z' u')) _)›)) hb; have hk := And.intro (KW.out _ hB) (Lib.hid hB); clear hb))
      | (go_at_call 15; ((with_reducible refine (H5.out _).mono ?_); rintro e w3 ⟨rfl, hb⟩; have hB := keep2 (Hid.out (And.right ‹_ ∧ Hid (Below _ (((w.alloc (hdC h)).alloc (keC x y z u)).alloc (keC x' y' z' u')) _)›)) hb; have hk := And.intro (KW.out _ hB) (Lib.hid hB); clear hb)))
  all_goals go_wp2
  all_goals go_ret
  all_goals (
    obtain ⟨-, hB2⟩ := hk
    exact ⟨rfl, below_then BW.out hB2.out⟩)

end Go.Proofs.Ytenfcnappjekgaa
