/-
  Writing a body: summaries; the function that collects bytes.
-/
import Derived.Test.YtenfcnappjekgaaLaQ
import Derived.Test.YtenfcnappjekgaaLaG
namespace Go.Proofs.Ytenfcnappjekgaa
open Go.RowKit
set_option linter.unusedSimpArgs false
set_option linter.unusedVariables false
set_option maxHeartbeats 4000000
set_option maxRecDepth 100000

theorem bodySum_any (h : Hd) (h3 : h.ty = 3 ∨ h.ty = 4) (bo bd : Bool) (aL : Option Addr) (nL cL : Nat) (aA : Option Addr) (nA cA : Nat) (co : Nat) (hco : co < 9223372036854775808) (se : Bool) (fw : Nat) (ta : Int) (B : Nat) (l : List Nat) (w : World) (hp : PutI w B l) (hl : l.length ≤ 1048000) :
    Calls Try.prog 87 #[putV B, lsV h bo bd (.slice aL nL cL) (.slice aA nA cA) co se fw ta] w fun e w' => e = .returned (.tuple #[]) ∧ PutI w' B (l ++ lowB 4 co) ∧ Pu B w w' := by
  have PX : Hid (PutI (w.alloc (lsC h bo bd (.slice aL nL cL) (.slice aA nA cA) co se fw ta)) B l ∧ Pu B w (w.alloc (lsC h bo bd (.slice aL nL cL) (.slice aA nA cA) co se fw ta))) := ⟨hp.below (below_alloc _ _), Pu.alloc (Nat.le_of_lt hp.lt) _⟩
  have LL := Lib.hid hl
  clear hp hl
  obtain ⟨ty, id, len, rt, seq, age, sum⟩ := h
  dsimp only at h3
  rcases h3 with rfl | rfl
  all_goals (
    go_enter Try.func87, Try.ntmps87
    go_wp2_with (go_at_call 96; ((with_reducible refine (one_put (m := 4) PX.out.1 (by have := LL.out; omega) PX.out.2 (by omega) (by omega) (by omega)).mono ?_); rintro e w1 ⟨rfl, h1, h2, h3⟩; have PX := Lib.hid (And.intro h1 h2); clear h1 h2 h3))
    go_end0
    exact ⟨rfl, PX.out.1, PX.out.2⟩)
/-- bytes of the call's own -/
def OwnB (w0 w : World) (v : Value) (l : List Nat) : Prop := w.ownsRow w0.heap.size 5 1 v l.length (u8s l) ∧ Bytes l
theorem OwnB.rd {w0 w : World} {v : Value} {l : List Nat} (h : OwnB w0 w v l) : Rd w v l := rd_own h.1 h.2
theorem OwnB.below {w0 w w' : World} {v : Value} {l : List Nat} (h : OwnB w0 w v l) (hb : Below w.heap.size w w') : OwnB w0 w' v l := ⟨own_below h.1 hb, h.2⟩
theorem OwnB.base {w0 w1 w : World} {v : Value} {l : List Nat} (h : OwnB w1 w v l) (hb : w0.heap.size ≤ w1.heap.size) : OwnB w0 w v l := ⟨own_base h.1 hb, h.2⟩
theorem puti_new (w : World) : PutI (w.alloc (.cells #[.slice none 0 0] 44)) w.heap.size [] := ⟨.slice none 0 0, Blk.new _ _ _, World.ownsRow_nil _ _ _ _, fun x h => by cases h⟩
theorem written_body (g : Nat) (b : List Nat) (w : World)
    (hF : ∀ W B, PutI W B [] → Below w.heap.size w W → w.heap.size ≤ B → Calls Try.prog 86 #[putV B, .pointer (some ⟨g, 0, none⟩)] W fun e w' => e = .returned (.tuple #[]) ∧ PutI w' B b ∧ Pu B W w') :
    Calls Try.prog 70 #[.func (.func 86) #[] #[.pointer (some ⟨g, 0, none⟩)]] w fun e w' => ∃ v, e = .returned v ∧ OwnB w w' v b ∧ Below w.heap.size w w' := by
  have HF := Lib.hid (hF _ _ (puti_new w) (below_alloc w _) (Nat.le_refl _))
  have B0 := Lib.hid (below_alloc w (.cells #[.slice none 0 0] 44))
  clear hF
  go_enter Try.func70, Try.ntmps70
  go_wp2_with fail
  go_at_call 86
  refine HF.out.mono ?_
  rintro e w1 ⟨rfl, ⟨v, hblk, hown, hby⟩, hpu⟩
  have HB1 := Lib.hid (B0.out.trans hpu.1)
  have HR : Hid (OwnB w w1 v b) := ⟨own_base hown (by omega), hby⟩
  obtain ⟨va, vn, vc, rfl⟩ := own_slice hown
  have k0 : w1.cell? ⟨w.heap.size, 0, none⟩ = some (.slice va vn vc) := by rw [hblk.cell 0]; rfl
  clear hblk hown hpu
  go_wp2
  go_ret
  exact ⟨_, rfl, HR.out, HB1.out⟩
end Go.Proofs.Ytenfcnappjekgaa
