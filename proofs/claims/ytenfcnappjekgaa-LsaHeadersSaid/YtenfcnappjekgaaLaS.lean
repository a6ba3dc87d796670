/-
  The encoding of an advertisement, given that of its body.
-/
import Derived.Test.YtenfcnappjekgaaLaR
namespace Go.Proofs.Ytenfcnappjekgaa
open Go.RowKit
set_option linter.unusedSimpArgs false
set_option linter.unusedVariables false
set_option maxHeartbeats 4000000
set_option maxRecDepth 100000

theorem written_all (g c : Nat) (b : List Nat) (w : World)
    (hF : ∀ W B, PutI W B [] → Below w.heap.size w W → w.heap.size ≤ B → Calls Try.prog 88 #[putV B, .pointer (some ⟨g, 0, none⟩), .pointer (some ⟨c, 0, none⟩)] W fun e w' => e = .returned (.tuple #[]) ∧ PutI w' B b ∧ Pu B W w') :
    Calls Try.prog 70 #[.func (.func 88) #[] #[.pointer (some ⟨g, 0, none⟩), .pointer (some ⟨c, 0, none⟩)]] w fun e w' => ∃ v, e = .returned v ∧ OwnB w w' v b ∧ Below w.heap.size w w' := by
  have HF := Lib.hid (hF _ _ (puti_new w) (below_alloc w _) (Nat.le_refl _))
  have B0 := Lib.hid (below_alloc w (.cells #[.slice none 0 0] 44))
  clear hF
  go_enter Try.func70, Try.ntmps70
  go_wp2_with fail
  go_at_call 88
  refine HF.out.mono ?_
  rintro e w1 ⟨rfl, ⟨v, hblk, hown, hby⟩, hpu⟩
  have HB1 := Lib.hid (B0.out.trans hpu.1)
  have HR : Hid (OwnB w w1 v b) := ⟨own_base hown (by omega), hby⟩
  obtain ⟨va, vn, vc, rfl⟩ := own_slice hown
  have k0 : w1.cell? ⟨w.heap.size, 0, none⟩ = some (.slice va vn vc) := by rw [hblk.cell 0]; rfl
  clear hblk hown hpu
  go_wp2
  go_ret
  exact ⟨_, rfl, HR.out, HB1.out⟩
theorem written_head (g : Nat) (b : List Nat) (w : World)
    (hF : ∀ W B, PutI W B [] → Below w.heap.size w W → w.heap.size ≤ B → Calls Try.prog 71 #[putV B, .pointer (some ⟨g, 0, none⟩)] W fun e w' => e = .returned (.tuple #[]) ∧ PutI w' B b ∧ Pu B W w') :
    Calls Try.prog 70 #[.func (.func 71) #[] #[.pointer (some ⟨g, 0, none⟩)]] w fun e w' => ∃ v, e = .returned v ∧ OwnB w w' v b ∧ Below w.heap.size w w' := by
  have HF := Lib.hid (hF _ _ (puti_new w) (below_alloc w _) (Nat.le_refl _))
  have B0 := Lib.hid (below_alloc w (.cells #[.slice none 0 0] 44))
  clear hF
  go_enter Try.func70, Try.ntmps70
  go_wp2_with fail
  go_at_call 71
  refine HF.out.mono ?_
  rintro e w1 ⟨rfl, ⟨v, hblk, hown, hby⟩, hpu⟩
  have HB1 := Lib.hid (B0.out.trans hpu.1)
  have HR : Hid (OwnB w w1 v b) := ⟨own_base hown (by omega), hby⟩
  obtain ⟨va, vn, vc, rfl⟩ := own_slice hown
  have k0 : w1.cell? ⟨w.heap.size, 0, none⟩ = some (.slice va vn vc) := by rw [hblk.cell 0]; rfl
  clear hblk hown hpu
  go_wp2
  go_ret
  exact ⟨_, rfl, HR.out, HB1.out⟩
theorem cellsL {W : World} {g : Nat} {h : Hd} {bo bd : Bool} {vL vA : Value} {co : Int} {se : Bool} {fw : Nat} {ta : Int} (hx : W.heap[g]? = some (lsC h bo bd vL vA co se fw ta)) :
    W.cell? ⟨g, 0, none⟩ = some (.int .i64 h.ty) ∧ W.cell? ⟨g, 1, none⟩ = some (.int .u32 (h.id : Int)) ∧ W.cell? ⟨g, 2, none⟩ = some (.int .i64 h.len) ∧ W.cell? ⟨g, 3, none⟩ = some (.int .u32 (h.rt : Int)) ∧ W.cell? ⟨g, 4, none⟩ = some (.int .i64 h.seq) ∧ W.cell? ⟨g, 5, none⟩ = some (.int .i64 h.age) ∧ W.cell? ⟨g, 6, none⟩ = some (.int .i64 h.sum) ∧
    W.cell? ⟨g, 7, none⟩ = some (.bool bo) ∧ W.cell? ⟨g, 8, none⟩ = some (.bool bd) ∧ W.cell? ⟨g, 9, none⟩ = some vL ∧ W.cell? ⟨g, 10, none⟩ = some vA ∧ W.cell? ⟨g, 11, none⟩ = some (.int .i64 co) ∧ W.cell? ⟨g, 12, none⟩ = some (.bool se) ∧ W.cell? ⟨g, 13, none⟩ = some (.int .u32 (fw : Int)) ∧ W.cell? ⟨g, 14, none⟩ = some (.int .i64 ta) :=
  ⟨cell_of hx rfl, cell_of hx rfl, cell_of hx rfl, cell_of hx rfl, cell_of hx rfl, cell_of hx rfl, cell_of hx rfl, cell_of hx rfl, cell_of hx rfl, cell_of hx rfl, cell_of hx rfl, cell_of hx rfl, cell_of hx rfl, cell_of hx rfl, cell_of hx rfl⟩
theorem f86_any (h : Hd) (bo bd : Bool) (aL : Option Addr) (nL cL : Nat) (aA : Option Addr) (nA cA : Nat) (co : Int) (se : Bool) (fw : Nat) (ta : Int) (g B : Nat) (b : List Nat) (W : World) (hx : W.heap[g]? = some (lsC h bo bd (.slice aL nL cL) (.slice aA nA cA) co se fw ta)) (hp : PutI W B [])
    (hB : Calls Try.prog 87 #[putV B, lsV h bo bd (.slice aL nL cL) (.slice aA nA cA) co se fw ta] W fun e w' => e = .returned (.tuple #[]) ∧ PutI w' B ([] ++ b) ∧ Pu B W w') :
    Calls Try.prog 86 #[putV B, .pointer (some ⟨g, 0, none⟩)] W fun e w' => e = .returned (.tuple #[]) ∧ PutI w' B b ∧ Pu B W w' := by
  obtain ⟨k0, k1, k2, k3, k4, k5, k6, k7, k8, k9, k10, k11, k12, k13, k14⟩ := cellsL hx
  have HB := Lib.hid hB
  clear hx hB hp
  go_enter Try.func86, Try.ntmps86
  go_wp2_with (go_at_call 87; refine HB.out.mono ?_; rintro e w1 ⟨rfl, h1, h2⟩; have P1 := Lib.hid (And.intro h1 h2); clear h1 h2)
  go_end0
  exact ⟨rfl, P1.out.1, P1.out.2⟩
theorem f88_any (h : HdN) (hh : HdNok h) (bo bd : Bool) (aL : Option Addr) (nL cL : Nat) (aA : Option Addr) (nA cA : Nat) (co : Int) (se : Bool) (fw : Nat) (ta : Int) (g c B : Nat) (v : Value) (n : Nat) (W : World) (hx : W.heap[g]? = some (lsC h.z bo bd (.slice aL nL cL) (.slice aA nA cA) co se fw ta)) (ad : Option Addr) (cap : Nat) (hn : n ≤ 65535) (hc : W.cell? ⟨c, 0, none⟩ = some (.slice ad n cap)) (hcB : c < B) (hgB : g < B) (hp : PutI W B []) :
    Calls Try.prog 88 #[putV B, .pointer (some ⟨g, 0, none⟩), .pointer (some ⟨c, 0, none⟩)] W fun e w' => e = .returned (.tuple #[]) ∧ PutI w' B (hdB h ++ lowB 2 n) ∧ Pu B W w' := by
  obtain ⟨k0, k1, k2, k3, k4, k5, k6, -, -, -, -, -, -, -, -⟩ := cellsL hx
  have H1 := Lib.hid (header_any h hh B [] W hp (by simp))
  obtain ⟨ty, id, len, rt, seq, age, sum⟩ := h
  dsimp only [HdN.z] at *
  have HC := Lib.hid hc
  clear hx hp hh hc
  go_enter Try.func88, Try.ntmps88
  go_wp2_with fail
  go_at_call 72
  refine H1.out.mono ?_
  rintro e w1 ⟨rfl, h1, h2⟩
  have PX := Lib.hid (And.intro h1 h2)
  have kc : w1.cell? ⟨c, 0, none⟩ = some (.slice ad n cap) := (h2.1.cell (p := ⟨c, 0, none⟩) hcB).trans HC.out
  clear h1 h2
  go_wp2_with (go_at_call 96; ((with_reducible refine (one_put (m := 2) PX.out.1 (by simp [hdB_len]) PX.out.2 (by omega) (by omega) (by omega)).mono ?_); rintro e w2 ⟨rfl, h1, h2, h3⟩; have P2 := Lib.hid (And.intro h1 h2); clear h1 h2 h3))
  go_end0
  exact ⟨rfl, P2.out.1, P2.out.2⟩
theorem own_sliceN {w : World} {base s n : Nat} {e : TypeId} {v : Value} {xs : List Value} (h : w.ownsRow base e s v n xs) : ∃ a c, v = .slice a n c := by
  rcases h.2 with ⟨rfl, rfl⟩ | ⟨g, cap, cur, rfl, _⟩
  · exact ⟨_, _, rfl⟩
  · exact ⟨_, _, rfl⟩
theorem encoding_any (h : HdN) (hh : HdNok h) (bo bd : Bool) (aL : Option Addr) (nL cL : Nat) (aA : Option Addr) (nA cA : Nat) (co : Int) (se : Bool) (fw : Nat) (ta : Int) (b : List Nat) (hb : b.length ≤ 65535) (w : World)
    (hB : ∀ W B, PutI W B [] → Below w.heap.size w W → Calls Try.prog 87 #[putV B, lsV h.z bo bd (.slice aL nL cL) (.slice aA nA cA) co se fw ta] W fun e w' => e = .returned (.tuple #[]) ∧ PutI w' B ([] ++ b) ∧ Pu B W w') :
    Calls Try.prog 57 #[lsV h.z bo bd (.slice aL nL cL) (.slice aA nA cA) co se fw ta] w fun e w' => ∃ v, e = .returned v ∧ OwnB w w' v (hdB h ++ lowB 2 b.length ++ b) ∧ Below w.heap.size w w' := by
  obtain ⟨i0, hi, hz0, hz1, hz2⟩ := info_parts u8_info
  have B0 := below_alloc w (lsC h.z bo bd (.slice aL nL cL) (.slice aA nA cA) co se fw ta)
  have HX0 : (w.alloc (lsC h.z bo bd (.slice aL nL cL) (.slice aA nA cA) co se fw ta)).heap[w.heap.size]? = some (lsC h.z bo bd (.slice aL nL cL) (.slice aA nA cA) co se fw ta) := heap_alloc_new w _
  have HW1 := Lib.hid (written_body w.heap.size b (w.alloc (lsC h.z bo bd (.slice aL nL cL) (.slice aA nA cA) co se fw ta)) (fun W B hp hbel hle => f86_any h.z bo bd aL nL cL aA nA cA co se fw ta w.heap.size B b W ((hbel.block _ (by simp)).trans HX0) hp (hB W B hp (B0.trans (hbel.mono B0.size)))))
  have HX := Lib.hid HX0
  have HB0 := Lib.hid B0
  have HH := Lib.hid hh
  clear hB HX0 B0 hh
  go_enter Try.func57, Try.ntmps57
  go_wp2_with fail
  go_at_call 70
  refine HW1.out.mono ?_
  rintro e w1 ⟨v1, rfl, ho1, hb1⟩
  obtain ⟨va, vc, rfl⟩ := own_sliceN ho1.1
  have hs1 : w.heap.size < w1.heap.size := by have := hb1.size; simp at this; omega
  have HB1 := Lib.hid (below_then HB0.out hb1)
  have HX1 : Hid (w1.heap[w.heap.size]? = some (lsC h.z bo bd (.slice aL nL cL) (.slice aA nA cA) co se fw ta)) := (hb1.block _ (by simp)).trans HX.out
  have HO1 : Hid (OwnB w w1 (.slice va b.length vc) b) := ho1.base (by simp)
  have HW2 : Hid (∀ Wc, Wc = w1.alloc (.cells #[.slice va b.length vc] 44) → Calls Try.prog 70 #[.func (.func 88) #[] #[.pointer (some ⟨w.heap.size, 0, none⟩), .pointer (some ⟨w1.heap.size, 0, none⟩)]] Wc fun e w' => ∃ v, e = .returned v ∧ OwnB Wc w' v (hdB h ++ lowB 2 b.length) ∧ Below Wc.heap.size Wc w') := fun Wc e => by
    subst e
    refine written_all w.heap.size w1.heap.size _ _ (fun W B hp hbel hle => f88_any h HH.out bo bd aL nL cL aA nA cA co se fw ta w.heap.size w1.heap.size B (.bool true) b.length W ?_ va vc hb ?_ ?_ ?_ hp)
    · exact (hbel.block _ (by simp; omega)).trans (alloc_past HX1.out hs1)
    · exact (hbel.cell (p := ⟨w1.heap.size, 0, none⟩) (by simp)).trans (cell_of (heap_alloc_new w1 _) rfl)
    · simp at hle; omega
    · simp at hle; omega
  clear ho1 hb1 HW1
  go_wp2_with fail
  go_at_call 70
  refine (HW2.out _ rfl).mono ?_
  rintro e w2 ⟨v2, rfl, ho2, hb2⟩
  obtain ⟨ua, uc, rfl⟩ := own_sliceN ho2.1
  have kc : w2.cell? ⟨w1.heap.size, 0, none⟩ = some (.slice va b.length vc) := (hb2.cell (p := ⟨w1.heap.size, 0, none⟩) (by simp)).trans (cell_of (heap_alloc_new w1 _) rfl)
  have hw2 : Below w1.heap.size w1 w2 := below_then (below_alloc _ _) hb2
  have HB2 := Lib.hid (below_then HB1.out hw2)
  have HR : Hid (Rd w2 (.slice va b.length vc) b) := (HO1.out.below hw2).rd
  have HO2 : Hid (OwnB w w2 (.slice ua (hdB h ++ lowB 2 b.length).length uc) (hdB h ++ lowB 2 b.length)) := ho2.base (by have := hs1; simp; omega)
  have HLEN : Hid ((hdB h ++ lowB 2 b.length).length + b.length ≤ 140737489403904) := by unfold Hid; simp [hdB_len, lowB_len]; omega
  clear ho2 hb2 hw2 HW2
  go_wp2_with (at_builtin; refine wpList_append_rd _ rfl (.tmp 9) (.tmp 10) 44 rfl w.heap.size 5 i0 Try.underlying44 hi hz0 hz1 hz2 _ (hdB h ++ lowB 2 b.length) rfl HO2.out.1 _ b rfl HR.out HLEN.out HB2.out.size ?_; intro v3 w3 ho3 hg3; have HO3 := Lib.hid ho3; have HB3 := Lib.hid (below_grown HB2.out HO2.out.1 hg3 HB2.out.size); clear ho3 hg3)
  go_ret
  exact ⟨_, rfl, ⟨HO3.out, HO2.out.2.app HR.out.bytes⟩, HB3.out⟩
end Go.Proofs.Ytenfcnappjekgaa
