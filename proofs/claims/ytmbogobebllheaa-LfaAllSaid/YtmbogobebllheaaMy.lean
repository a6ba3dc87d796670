/-
  The walks of large and node; what every alternate fulfils, in numbers. The walks of the reference's check and link. The walks of the reference's PSpace and QSpace. The walk of the reference's Remote.
-/
import Derived.Test.YtmbogobebllheaaMz
import Derived.Test.YtmbogobebllheaaMl
import Derived.Test.YtmbogobebllheaaMra
import Derived.OwnWalk
import Derived.BigQuiet
namespace Go.Proofs.Ytmbogobebllheaa
open Go.RowKit HM GM SP Go.Lib
set_option linter.unusedSimpArgs false
set_option linter.unusedVariables false
set_option maxHeartbeats 4000000
set_option maxRecDepth 100000
def lgF (R N : Int) (L : Nat) : Bool := decide (14 < R) || (decide (6 < N) || decide (80 < (L : Int)))
theorem large_any (R N : Int) (ad : Option Addr) (L cap : Nat) (w : World) :
    Calls Try.prog 24 #[.agg #[.int .i64 R, .int .i64 N, .slice ad L cap]] w fun e w' => e = .returned (.bool (lgF R N L)) ∧ Below w.heap.size w w' := by
  have HB := Lib.hid (below_alloc w (.cells #[.int .i64 R, .int .i64 N, .slice ad L cap] 27))
  unfold lgF
  by_cases h1 : 14 < R
  · rw [decide_eq_true h1]
    have k1 : decide (14 < R) = true := decide_eq_true h1
    go_enter Try.func24, Try.ntmps24
    go_wp2
    go_ret
    exact ⟨rfl, HB.out⟩
  · rw [decide_eq_false h1]
    have k1 : decide (14 < R) = false := decide_eq_false h1
    by_cases h2 : 6 < N
    · rw [decide_eq_true h2]
      have k2 : decide (6 < N) = true := decide_eq_true h2
      go_enter Try.func24, Try.ntmps24
      go_wp2
      go_ret
      exact ⟨rfl, HB.out⟩
    · rw [decide_eq_false h2]
      have k2 : decide (6 < N) = false := decide_eq_false h2
      go_enter Try.func24, Try.ntmps24
      go_wp2
      go_ret
      exact ⟨by simp, HB.out⟩
theorem lgF_yes {R N : Int} {L : Nat} (h : lgF R N L = false) : R ≤ 14 ∧ N ≤ 6 ∧ L ≤ 80 := by
  unfold lgF at h
  simp at h
  omega
theorem lnode_any (r x : Nat) (s : Value) (w : World) (hx : x < r) (hr : r ≤ 128) :
    Calls Try.prog 38 #[.agg #[.int .i64 (r : Int), .int .i64 0, s], .int .i64 (x : Int)] w fun e w' => e = .returned (.bool true) ∧ Below w.heap.size w w' := by
  have HB := Lib.hid (below_alloc w (.cells #[.int .i64 (r : Int), .int .i64 0, s] 27))
  have x0 : (0 : Int) ≤ (x : Int) := by omega
  have x1 : (x : Int) < (r : Int) := by omega
  have x2 : (x : Int) < (r : Int) + 0 := by omega
  have r1 : (r : Int) + 0 = (r : Int) := by omega
  go_enter Try.func38, Try.ntmps38
  go_wp2
  go_ret
  exact ⟨rfl, HB.out⟩
/-- an alternate of a graph of r routers, in numbers -/
structure AlN (l : List E) (r root : Nat) (hops : List (List Int)) (a : Al) (d v p : Nat) : Prop where
  hd : a.dest = (d : Int) ∧ d < r
  hv : a.via = (v : Int) ∧ v < r
  hp : a.prim = (p : Int) ∧ p < r
  ne : v ≠ p
  vr : v ≠ root
  cost : (cstF (root : Int) (v : Int) l).2 = true
  down : a.down = decide (T l v d < T l root d)
  fin : 0 ≤ T l v d ∧ 0 ≤ T l root d
  is : IsAl l root d p a
  hop : Hop r l root d p
  mem : (p : Int) ∈ gL hops d
theorem al_num {l : List E} {r root : Nat} {t : Tre} (hv : Valid (r : Int) 0 l) (hroot : root < r) (ht : IsTre (r : Int) 0 l (root : Int) t) {a : Al} (ha : a ∈ allA l (root : Int) r t.hops) : ∃ d v p, AlN l r root t.hops a d v p := by
  obtain ⟨d, hd, hmem, his⟩ := allA_is ha
  obtain ⟨n, hn, _, htr⟩ := ht
  obtain rfl : n = r := by omega
  have hrow := htr.h d hd
  have hhop := (hrow.2 _).1 hmem
  have hpn := Hop.node' hv (s := (root : Int)) ⟨by omega, by omega⟩ hhop
  obtain ⟨c, hedge⟩ := his.edge
  have hed := edge hv hedge
  obtain ⟨p, hp⟩ : ∃ p : Nat, a.prim = (p : Int) := ⟨a.prim.toNat, by omega⟩
  obtain ⟨v, hvv⟩ : ∃ v : Nat, a.via = (v : Int) := ⟨a.via.toNat, by omega⟩
  have hfin1 := his.free.1
  have hfin2 : 0 ≤ T l (root : Int) (d : Int) := hhop.2.1
  refine ⟨d, v, p, ⟨his.dest, hd⟩, ⟨hvv, by omega⟩, ⟨hp, by omega⟩, ?_, ?_, ?_, ?_, ?_, by rw [← hp]; exact his, by rw [← hp]; exact hhop, by rw [← hp]; exact hmem⟩
  · intro e; subst e; exact his.ne (by rw [hvv, hp])
  · intro e; subst e; omega
  · have := (cstF_iff hv (a := (root : Int)) (b := (v : Int)) (c := c)).1 (by rw [← hvv]; exact hedge)
    exact this.1
  · have := his.down
    rw [hvv] at this hfin1
    rw [Bool.eq_iff_iff, this, decide_eq_true_iff]
    constructor
    · rintro ⟨_, h | h⟩
      · omega
      · exact h
    · intro h; exact ⟨hfin1, .inr h⟩
  · rw [hvv] at hfin1; exact ⟨hfin1, hfin2⟩
end Go.Proofs.Ytmbogobebllheaa
namespace Go.Proofs.Ytmbogobebllheaa
open Go.RowKit HM GM SP Go.Lib
set_option linter.unusedSimpArgs false
set_option linter.unusedVariables false
set_option maxHeartbeats 4000000
set_option maxRecDepth 100000
theorem rro_any (R N : Int) (l : List E) (s : Value) (w : World) (hR : I64 R) (hN : I64 N) (hr : Rd3 w s l) (hf : FitT l) :
    Calls Try.prog 70 #[.agg #[.int .i64 R, .int .i64 N, s]] w fun e w' => e = .returned (.int .i64 (roE R N l)) ∧ Below w.heap.size w w' := by
  have HCK : Hid (∀ W, Below w.heap.size w W → Calls Try.prog 37 #[.agg #[.int .i64 R, .int .i64 N, s]] W fun e w' => e = .returned (.int .i64 (chk R N l)) ∧ Below W.heap.size W w') := fun W hW => rcheck_any R N s l W hR hN (hr.below hW) hf
  have HE : Hid (roE R N l = if chk R N l ≠ 0 then chk R N l else if 0 < N then 15 else 0) := rfl
  obtain ⟨ad, cap, hform⟩ := rd3_slice hr
  obtain ⟨L, hL⟩ : ∃ L, l.length = L := ⟨_, rfl⟩
  rw [hL] at hform
  subst hform
  generalize roE R N l = re at *
  generalize chk R N l = c at *
  have HB := Lib.hid (below_alloc w (.cells #[.int .i64 R, .int .i64 N, .slice ad L cap] 27))
  have HBX : Hid ((w.alloc (.cells #[.int .i64 R, .int .i64 N, .slice ad L cap] 27)).heap[w.heap.size]? = some (.cells #[.int .i64 R, .int .i64 N, .slice ad L cap] 27 (0, 0))) := heap_alloc_new _ _
  clear hr hL hf
  by_cases hc : c = 0
  · subst hc
    by_cases hn : 0 < N
    · have HE2 : Hid (re = 15) := by have := HE.out; rw [if_neg (by omega), if_pos hn] at this; exact this
      clear HE
      go_enter Try.func70, Try.ntmps70
      go_wp2_with fail
      go_at_call 37
      refine (HCK.out _ HB.out).mono ?_
      rintro e w1 ⟨rfl, hb1⟩
      have HB1 := Lib.hid (below_then HB.out hb1)
      have hbx := (hb1.block _ (lt_block HBX.out)).trans HBX.out
      have q1 : w1.cell? ⟨w.heap.size, 1, none⟩ = some (.int .i64 N) := cell_of hbx rfl
      clear hb1 hbx HB HBX HCK
      go_wp2
      go_ret
      exact ⟨by rw [HE2.out]; rfl, HB1.out⟩
    · have HE2 : Hid (re = 0) := by have := HE.out; rw [if_neg (by omega), if_neg hn] at this; exact this
      clear HE
      have hn2 : decide (0 < N) = false := decide_eq_false hn
      go_enter Try.func70, Try.ntmps70
      go_wp2_with fail
      go_at_call 37
      refine (HCK.out _ HB.out).mono ?_
      rintro e w1 ⟨rfl, hb1⟩
      have HB1 := Lib.hid (below_then HB.out hb1)
      have hbx := (hb1.block _ (lt_block HBX.out)).trans HBX.out
      have q1 : w1.cell? ⟨w.heap.size, 1, none⟩ = some (.int .i64 N) := cell_of hbx rfl
      clear hb1 hbx HB HBX HCK
      go_wp2
      go_ret
      exact ⟨by rw [HE2.out]; rfl, HB1.out⟩
  · have HE2 : Hid (re = c) := by have := HE.out; rw [if_pos hc] at this; exact this
    have hb : (c != 0) = true := by simpa using hc
    clear HE hc
    go_enter Try.func70, Try.ntmps70
    go_wp2_with fail
    go_at_call 37
    refine (HCK.out _ HB.out).mono ?_
    rintro e w1 ⟨rfl, hb1⟩
    have HB1 := Lib.hid (below_then HB.out hb1)
    clear hb1 HB HBX HCK
    go_wp2
    go_ret
    exact ⟨by rw [HE2.out]; rfl, HB1.out⟩
theorem roE_chk {R N : Int} {l : List E} (h : roE R N l = 0) : chk R N l = 0 := by
  unfold roE at h
  by_cases h5 : chk R N l ≠ 0
  · rw [if_pos h5] at h; exact absurd h h5
  · omega
def LkQ (R N : Int) (l : List E) (x y : Int) (w : World) (e : Ending) (w' : World) : Prop := ∃ dv, e = .returned (.tuple #[.int .i64 (lkC R N l x y), dv, .int .i64 (lkE R N l x y)]) ∧ (lkE R N l x y ≠ 0 → dv = .slice none 0 0) ∧ (lkE R N l x y = 0 → RdR w' dv (gT (allRow l R.toNat) R.toNat R.toNat)) ∧ Below w.heap.size w w'
theorem rlk1 (R N : Int) (l : List E) (s : Value) (x y : Int) (w : World) (hR : I64 R) (hN : I64 N) (hr : Rd3 w s l) (hf : FitT l) (h : roE R N l ≠ 0) :
    Calls Try.prog 77 #[.agg #[.int .i64 R, .int .i64 N, s], .int .i64 x, .int .i64 y] w (LkQ R N l x y w) := by
  have HRO : Hid (∀ W, Below w.heap.size w W → Calls Try.prog 70 #[.agg #[.int .i64 R, .int .i64 N, s]] W fun e w' => e = .returned (.int .i64 (roE R N l)) ∧ Below W.heap.size W w') := fun W hW => rro_any R N l s W hR hN (hr.below hW) hf
  have HCO : Hid (∀ W, Below w.heap.size w W → Calls Try.prog 43 #[.agg #[.int .i64 R, .int .i64 N, s], .int .i64 x, .int .i64 y] W fun e w' => e = .returned (.tuple #[.int .i64 (cstF x y l).1, .bool (cstF x y l).2]) ∧ Below W.heap.size W w') := fun W hW => rcost_any R N x y l s W (hr.below hW)
  have HE : Hid (lkE R N l x y = roE R N l) := by show _ = _; unfold lkE; rw [if_pos h]
  have HC : Hid (lkC R N l x y = 0) := by show _ = _; unfold lkC; rw [HE.out, if_neg h]
  have HNE := Lib.hid h
  obtain ⟨ad, cap, hform⟩ := rd3_slice hr
  obtain ⟨L, hL⟩ : ∃ L, l.length = L := ⟨_, rfl⟩
  rw [hL] at hform
  subst hform
  have HB0 := Lib.hid (below_alloc w (.cells #[.int .i64 R, .int .i64 N, .slice ad L cap] 27))
  have HX0 : Hid ((w.alloc (.cells #[.int .i64 R, .int .i64 N, .slice ad L cap] 27)).heap[w.heap.size]? = some (.cells #[.int .i64 R, .int .i64 N, .slice ad L cap] 27 (0, 0))) := heap_alloc_new _ _
  clear hr hL
  generalize roE R N l = c at *
  have hb0 : (c != 0) = true := by simpa using h
  clear h HCO
  go_enter Try.func77, Try.ntmps77
  go_wp2_with fail
  go_at_call 70
  refine (HRO.out _ HB0.out).mono ?_
  rintro e w1 ⟨rfl, hb⟩
  have HB1 := Lib.hid (below_then HB0.out hb)
  have HX1 := Lib.hid ((hb.block _ (lt_block HX0.out)).trans HX0.out)
  have q0 : w1.cell? ⟨w.heap.size, 0, none⟩ = some (.int .i64 R) := cell_of HX1.out rfl
  have q1 : w1.cell? ⟨w.heap.size, 1, none⟩ = some (.int .i64 N) := cell_of HX1.out rfl
  have q2 : w1.cell? ⟨w.heap.size, 2, none⟩ = some (.slice ad L cap) := cell_of HX1.out rfl
  clear hb
  go_wp2_with fail
  clear q0 q1 q2
  go_ret3
  exact ⟨_, by rw [HE.out, HC.out]; rfl, fun _ => rfl, fun h => absurd (HE.out.symm.trans h) HNE.out, HB1.out⟩
theorem rlk2a (R N : Int) (l : List E) (s : Value) (x y : Int) (w : World) (hR : I64 R) (hN : I64 N) (hr : Rd3 w s l) (hf : FitT l) (h : roE R N l = 0) (h2 : x < 0) :
    Calls Try.prog 77 #[.agg #[.int .i64 R, .int .i64 N, s], .int .i64 x, .int .i64 y] w (LkQ R N l x y w) := by
  have HRO : Hid (∀ W, Below w.heap.size w W → Calls Try.prog 70 #[.agg #[.int .i64 R, .int .i64 N, s]] W fun e w' => e = .returned (.int .i64 (roE R N l)) ∧ Below W.heap.size W w') := fun W hW => rro_any R N l s W hR hN (hr.below hW) hf
  have HCO : Hid (∀ W, Below w.heap.size w W → Calls Try.prog 43 #[.agg #[.int .i64 R, .int .i64 N, s], .int .i64 x, .int .i64 y] W fun e w' => e = .returned (.tuple #[.int .i64 (cstF x y l).1, .bool (cstF x y l).2]) ∧ Below W.heap.size W w') := fun W hW => rcost_any R N x y l s W (hr.below hW)
  have HE : Hid (lkE R N l x y = 5) := by show _ = _; unfold lkE; rw [if_neg (by omega), if_pos (fun k => by omega)]
  have HC : Hid (lkC R N l x y = 0) := by show _ = _; unfold lkC; rw [HE.out, if_neg (by omega)]
  obtain ⟨ad, cap, hform⟩ := rd3_slice hr
  obtain ⟨L, hL⟩ : ∃ L, l.length = L := ⟨_, rfl⟩
  rw [hL] at hform
  subst hform
  have HB0 := Lib.hid (below_alloc w (.cells #[.int .i64 R, .int .i64 N, .slice ad L cap] 27))
  have HX0 : Hid ((w.alloc (.cells #[.int .i64 R, .int .i64 N, .slice ad L cap] 27)).heap[w.heap.size]? = some (.cells #[.int .i64 R, .int .i64 N, .slice ad L cap] 27 (0, 0))) := heap_alloc_new _ _
  clear hr hL
  rw [h] at HRO
  have x1 : decide (x < 0) = true := decide_eq_true h2
  clear HCO
  go_enter Try.func77, Try.ntmps77
  go_wp2_with fail
  go_at_call 70
  refine (HRO.out _ HB0.out).mono ?_
  rintro e w1 ⟨rfl, hb⟩
  have HB1 := Lib.hid (below_then HB0.out hb)
  have HX1 := Lib.hid ((hb.block _ (lt_block HX0.out)).trans HX0.out)
  have q0 : w1.cell? ⟨w.heap.size, 0, none⟩ = some (.int .i64 R) := cell_of HX1.out rfl
  have q1 : w1.cell? ⟨w.heap.size, 1, none⟩ = some (.int .i64 N) := cell_of HX1.out rfl
  have q2 : w1.cell? ⟨w.heap.size, 2, none⟩ = some (.slice ad L cap) := cell_of HX1.out rfl
  clear hb
  go_wp2_with fail
  clear q0 q1 q2
  go_ret3
  exact ⟨_, by rw [HE.out, HC.out]; rfl, fun _ => rfl, fun h => absurd (HE.out.symm.trans h) (by omega), HB1.out⟩
theorem rlk2b (R N : Int) (l : List E) (s : Value) (x y : Int) (w : World) (hR : I64 R) (hN : I64 N) (hr : Rd3 w s l) (hf : FitT l) (h : roE R N l = 0) (h2 : 0 ≤ x) (h3 : R ≤ x) :
    Calls Try.prog 77 #[.agg #[.int .i64 R, .int .i64 N, s], .int .i64 x, .int .i64 y] w (LkQ R N l x y w) := by
  have HRO : Hid (∀ W, Below w.heap.size w W → Calls Try.prog 70 #[.agg #[.int .i64 R, .int .i64 N, s]] W fun e w' => e = .returned (.int .i64 (roE R N l)) ∧ Below W.heap.size W w') := fun W hW => rro_any R N l s W hR hN (hr.below hW) hf
  have HCO : Hid (∀ W, Below w.heap.size w W → Calls Try.prog 43 #[.agg #[.int .i64 R, .int .i64 N, s], .int .i64 x, .int .i64 y] W fun e w' => e = .returned (.tuple #[.int .i64 (cstF x y l).1, .bool (cstF x y l).2]) ∧ Below W.heap.size W w') := fun W hW => rcost_any R N x y l s W (hr.below hW)
  have HE : Hid (lkE R N l x y = 5) := by show _ = _; unfold lkE; rw [if_neg (by omega), if_pos (fun k => by omega)]
  have HC : Hid (lkC R N l x y = 0) := by show _ = _; unfold lkC; rw [HE.out, if_neg (by omega)]
  obtain ⟨ad, cap, hform⟩ := rd3_slice hr
  obtain ⟨L, hL⟩ : ∃ L, l.length = L := ⟨_, rfl⟩
  rw [hL] at hform
  subst hform
  have HB0 := Lib.hid (below_alloc w (.cells #[.int .i64 R, .int .i64 N, .slice ad L cap] 27))
  have HX0 : Hid ((w.alloc (.cells #[.int .i64 R, .int .i64 N, .slice ad L cap] 27)).heap[w.heap.size]? = some (.cells #[.int .i64 R, .int .i64 N, .slice ad L cap] 27 (0, 0))) := heap_alloc_new _ _
  clear hr hL
  rw [h] at HRO
  have x1 : decide (x < 0) = false := decide_eq_false (by omega)
  have x2 : decide (R ≤ x) = true := decide_eq_true h3
  clear HCO
  go_enter Try.func77, Try.ntmps77
  go_wp2_with fail
  go_at_call 70
  refine (HRO.out _ HB0.out).mono ?_
  rintro e w1 ⟨rfl, hb⟩
  have HB1 := Lib.hid (below_then HB0.out hb)
  have HX1 := Lib.hid ((hb.block _ (lt_block HX0.out)).trans HX0.out)
  have q0 : w1.cell? ⟨w.heap.size, 0, none⟩ = some (.int .i64 R) := cell_of HX1.out rfl
  have q1 : w1.cell? ⟨w.heap.size, 1, none⟩ = some (.int .i64 N) := cell_of HX1.out rfl
  have q2 : w1.cell? ⟨w.heap.size, 2, none⟩ = some (.slice ad L cap) := cell_of HX1.out rfl
  clear hb
  go_wp2_with fail
  clear q0 q1 q2
  go_ret3
  exact ⟨_, by rw [HE.out, HC.out]; rfl, fun _ => rfl, fun h => absurd (HE.out.symm.trans h) (by omega), HB1.out⟩
theorem rlk3a (R N : Int) (l : List E) (s : Value) (x y : Int) (w : World) (hR : I64 R) (hN : I64 N) (hr : Rd3 w s l) (hf : FitT l) (h : roE R N l = 0) (h2 : 0 ≤ x) (h3 : x < R) (h4 : y < 0) :
    Calls Try.prog 77 #[.agg #[.int .i64 R, .int .i64 N, s], .int .i64 x, .int .i64 y] w (LkQ R N l x y w) := by
  have HRO : Hid (∀ W, Below w.heap.size w W → Calls Try.prog 70 #[.agg #[.int .i64 R, .int .i64 N, s]] W fun e w' => e = .returned (.int .i64 (roE R N l)) ∧ Below W.heap.size W w') := fun W hW => rro_any R N l s W hR hN (hr.below hW) hf
  have HCO : Hid (∀ W, Below w.heap.size w W → Calls Try.prog 43 #[.agg #[.int .i64 R, .int .i64 N, s], .int .i64 x, .int .i64 y] W fun e w' => e = .returned (.tuple #[.int .i64 (cstF x y l).1, .bool (cstF x y l).2]) ∧ Below W.heap.size W w') := fun W hW => rcost_any R N x y l s W (hr.below hW)
  have HE : Hid (lkE R N l x y = 5) := by show _ = _; unfold lkE; rw [if_neg (by omega), if_pos (fun k => by omega)]
  have HC : Hid (lkC R N l x y = 0) := by show _ = _; unfold lkC; rw [HE.out, if_neg (by omega)]
  obtain ⟨ad, cap, hform⟩ := rd3_slice hr
  obtain ⟨L, hL⟩ : ∃ L, l.length = L := ⟨_, rfl⟩
  rw [hL] at hform
  subst hform
  have HB0 := Lib.hid (below_alloc w (.cells #[.int .i64 R, .int .i64 N, .slice ad L cap] 27))
  have HX0 : Hid ((w.alloc (.cells #[.int .i64 R, .int .i64 N, .slice ad L cap] 27)).heap[w.heap.size]? = some (.cells #[.int .i64 R, .int .i64 N, .slice ad L cap] 27 (0, 0))) := heap_alloc_new _ _
  clear hr hL
  rw [h] at HRO
  have x1 : decide (x < 0) = false := decide_eq_false (by omega)
  have x2 : decide (R ≤ x) = false := decide_eq_false (by omega)
  have y1 : decide (y < 0) = true := decide_eq_true h4
  clear HCO
  go_enter Try.func77, Try.ntmps77
  go_wp2_with fail
  go_at_call 70
  refine (HRO.out _ HB0.out).mono ?_
  rintro e w1 ⟨rfl, hb⟩
  have HB1 := Lib.hid (below_then HB0.out hb)
  have HX1 := Lib.hid ((hb.block _ (lt_block HX0.out)).trans HX0.out)
  have q0 : w1.cell? ⟨w.heap.size, 0, none⟩ = some (.int .i64 R) := cell_of HX1.out rfl
  have q1 : w1.cell? ⟨w.heap.size, 1, none⟩ = some (.int .i64 N) := cell_of HX1.out rfl
  have q2 : w1.cell? ⟨w.heap.size, 2, none⟩ = some (.slice ad L cap) := cell_of HX1.out rfl
  clear hb
  go_wp2_with fail
  clear q0 q1 q2
  go_ret3
  exact ⟨_, by rw [HE.out, HC.out]; rfl, fun _ => rfl, fun h => absurd (HE.out.symm.trans h) (by omega), HB1.out⟩
theorem rlk3b (R N : Int) (l : List E) (s : Value) (x y : Int) (w : World) (hR : I64 R) (hN : I64 N) (hr : Rd3 w s l) (hf : FitT l) (h : roE R N l = 0) (h2 : 0 ≤ x) (h3 : x < R) (h4 : 0 ≤ y) (h5 : R ≤ y) :
    Calls Try.prog 77 #[.agg #[.int .i64 R, .int .i64 N, s], .int .i64 x, .int .i64 y] w (LkQ R N l x y w) := by
  have HRO : Hid (∀ W, Below w.heap.size w W → Calls Try.prog 70 #[.agg #[.int .i64 R, .int .i64 N, s]] W fun e w' => e = .returned (.int .i64 (roE R N l)) ∧ Below W.heap.size W w') := fun W hW => rro_any R N l s W hR hN (hr.below hW) hf
  have HCO : Hid (∀ W, Below w.heap.size w W → Calls Try.prog 43 #[.agg #[.int .i64 R, .int .i64 N, s], .int .i64 x, .int .i64 y] W fun e w' => e = .returned (.tuple #[.int .i64 (cstF x y l).1, .bool (cstF x y l).2]) ∧ Below W.heap.size W w') := fun W hW => rcost_any R N x y l s W (hr.below hW)
  have HE : Hid (lkE R N l x y = 5) := by show _ = _; unfold lkE; rw [if_neg (by omega), if_pos (fun k => by omega)]
  have HC : Hid (lkC R N l x y = 0) := by show _ = _; unfold lkC; rw [HE.out, if_neg (by omega)]
  obtain ⟨ad, cap, hform⟩ := rd3_slice hr
  obtain ⟨L, hL⟩ : ∃ L, l.length = L := ⟨_, rfl⟩
  rw [hL] at hform
  subst hform
  have HB0 := Lib.hid (below_alloc w (.cells #[.int .i64 R, .int .i64 N, .slice ad L cap] 27))
  have HX0 : Hid ((w.alloc (.cells #[.int .i64 R, .int .i64 N, .slice ad L cap] 27)).heap[w.heap.size]? = some (.cells #[.int .i64 R, .int .i64 N, .slice ad L cap] 27 (0, 0))) := heap_alloc_new _ _
  clear hr hL
  rw [h] at HRO
  have x1 : decide (x < 0) = false := decide_eq_false (by omega)
  have x2 : decide (R ≤ x) = false := decide_eq_false (by omega)
  have y1 : decide (y < 0) = false := decide_eq_false (by omega)
  have y2 : decide (R ≤ y) = true := decide_eq_true h5
  clear HCO
  go_enter Try.func77, Try.ntmps77
  go_wp2_with fail
  go_at_call 70
  refine (HRO.out _ HB0.out).mono ?_
  rintro e w1 ⟨rfl, hb⟩
  have HB1 := Lib.hid (below_then HB0.out hb)
  have HX1 := Lib.hid ((hb.block _ (lt_block HX0.out)).trans HX0.out)
  have q0 : w1.cell? ⟨w.heap.size, 0, none⟩ = some (.int .i64 R) := cell_of HX1.out rfl
  have q1 : w1.cell? ⟨w.heap.size, 1, none⟩ = some (.int .i64 N) := cell_of HX1.out rfl
  have q2 : w1.cell? ⟨w.heap.size, 2, none⟩ = some (.slice ad L cap) := cell_of HX1.out rfl
  clear hb
  go_wp2_with fail
  clear q0 q1 q2
  go_ret3
  exact ⟨_, by rw [HE.out, HC.out]; rfl, fun _ => rfl, fun h => absurd (HE.out.symm.trans h) (by omega), HB1.out⟩
theorem rlk4 (R N : Int) (l : List E) (s : Value) (x y : Int) (w : World) (hR : I64 R) (hN : I64 N) (hr : Rd3 w s l) (hf : FitT l) (h : roE R N l = 0) (h2 : 0 ≤ x ∧ x < R) (h3 : 0 ≤ y ∧ y < R) (h4 : (cstF x y l).2 = false) :
    Calls Try.prog 77 #[.agg #[.int .i64 R, .int .i64 N, s], .int .i64 x, .int .i64 y] w (LkQ R N l x y w) := by
  have HRO : Hid (∀ W, Below w.heap.size w W → Calls Try.prog 70 #[.agg #[.int .i64 R, .int .i64 N, s]] W fun e w' => e = .returned (.int .i64 (roE R N l)) ∧ Below W.heap.size W w') := fun W hW => rro_any R N l s W hR hN (hr.below hW) hf
  have HCO : Hid (∀ W, Below w.heap.size w W → Calls Try.prog 43 #[.agg #[.int .i64 R, .int .i64 N, s], .int .i64 x, .int .i64 y] W fun e w' => e = .returned (.tuple #[.int .i64 (cstF x y l).1, .bool (cstF x y l).2]) ∧ Below W.heap.size W w') := fun W hW => rcost_any R N x y l s W (hr.below hW)
  have HE : Hid (lkE R N l x y = 6) := by show _ = _; unfold lkE; rw [if_neg (by omega), if_neg (fun k => k ⟨h2, h3⟩), if_pos h4]
  have HC : Hid (lkC R N l x y = 0) := by show _ = _; unfold lkC; rw [HE.out, if_neg (by omega)]
  obtain ⟨ad, cap, hform⟩ := rd3_slice hr
  obtain ⟨L, hL⟩ : ∃ L, l.length = L := ⟨_, rfl⟩
  rw [hL] at hform
  subst hform
  have HB0 := Lib.hid (below_alloc w (.cells #[.int .i64 R, .int .i64 N, .slice ad L cap] 27))
  have HX0 : Hid ((w.alloc (.cells #[.int .i64 R, .int .i64 N, .slice ad L cap] 27)).heap[w.heap.size]? = some (.cells #[.int .i64 R, .int .i64 N, .slice ad L cap] 27 (0, 0))) := heap_alloc_new _ _
  clear hr hL
  rw [h] at HRO
  rw [h4] at HCO
  generalize (cstF x y l).1 = cst at *
  have x1 : decide (x < 0) = false := decide_eq_false (by omega)
  have x2 : decide (R ≤ x) = false := decide_eq_false (by omega)
  have y1 : decide (y < 0) = false := decide_eq_false (by omega)
  have y2 : decide (R ≤ y) = false := decide_eq_false (by omega)
  clear h h4
  go_enter Try.func77, Try.ntmps77
  go_wp2_with fail
  go_at_call 70
  refine (HRO.out _ HB0.out).mono ?_
  rintro e w1 ⟨rfl, hb⟩
  have HB1 := Lib.hid (below_then HB0.out hb)
  have HX1 := Lib.hid ((hb.block _ (lt_block HX0.out)).trans HX0.out)
  have q0 : w1.cell? ⟨w.heap.size, 0, none⟩ = some (.int .i64 R) := cell_of HX1.out rfl
  have q1 : w1.cell? ⟨w.heap.size, 1, none⟩ = some (.int .i64 N) := cell_of HX1.out rfl
  have q2 : w1.cell? ⟨w.heap.size, 2, none⟩ = some (.slice ad L cap) := cell_of HX1.out rfl
  clear hb
  go_wp2_with fail
  clear q0 q1 q2
  go_at_call 43
  refine (HCO.out _ HB1.out).mono ?_
  rintro e w2 ⟨rfl, hb⟩
  have HB2 := Lib.hid (below_then HB1.out hb)
  have HX2 := Lib.hid ((hb.block _ (lt_block HX1.out)).trans HX1.out)
  have q0 : w2.cell? ⟨w.heap.size, 0, none⟩ = some (.int .i64 R) := cell_of HX2.out rfl
  have q1 : w2.cell? ⟨w.heap.size, 1, none⟩ = some (.int .i64 N) := cell_of HX2.out rfl
  have q2 : w2.cell? ⟨w.heap.size, 2, none⟩ = some (.slice ad L cap) := cell_of HX2.out rfl
  clear hb
  go_wp2_with fail
  clear q0 q1 q2
  go_ret3
  exact ⟨_, by rw [HE.out, HC.out]; rfl, fun _ => rfl, fun h => absurd (HE.out.symm.trans h) (by omega), HB2.out⟩
theorem rlk5 (R N : Int) (l : List E) (s : Value) (x y : Int) (w : World) (hR : I64 R) (hN : I64 N) (hr : Rd3 w s l) (hf : FitT l) (h : roE R N l = 0) (h2 : 0 ≤ x ∧ x < R) (h3 : 0 ≤ y ∧ y < R) (h4 : (cstF x y l).2 = true) :
    Calls Try.prog 77 #[.agg #[.int .i64 R, .int .i64 N, s], .int .i64 x, .int .i64 y] w (LkQ R N l x y w) := by
  have HRO : Hid (∀ W, Below w.heap.size w W → Calls Try.prog 70 #[.agg #[.int .i64 R, .int .i64 N, s]] W fun e w' => e = .returned (.int .i64 (roE R N l)) ∧ Below W.heap.size W w') := fun W hW => rro_any R N l s W hR hN (hr.below hW) hf
  have HCO : Hid (∀ W, Below w.heap.size w W → Calls Try.prog 43 #[.agg #[.int .i64 R, .int .i64 N, s], .int .i64 x, .int .i64 y] W fun e w' => e = .returned (.tuple #[.int .i64 (cstF x y l).1, .bool (cstF x y l).2]) ∧ Below W.heap.size W w') := fun W hW => rcost_any R N x y l s W (hr.below hW)
  have HE : Hid (lkE R N l x y = 0) := by show _ = _; unfold lkE; rw [if_neg (by omega), if_neg (fun k => k ⟨h2, h3⟩), if_neg (by rw [h4]; simp)]
  have HC : Hid (lkC R N l x y = (cstF x y l).1) := by show _ = _; unfold lkC; rw [HE.out, if_pos rfl]
  have HAll : Hid (∀ W, Below w.heap.size w W → Calls Try.prog 41 #[.agg #[.int .i64 R, .int .i64 N, s]] W fun e w' => ∃ v, e = .returned (.tuple #[v, .int .i64 0]) ∧ RdR w' v (gT (allRow l R.toNat) R.toNat R.toNat) ∧ Below W.heap.size W w') := fun W hW => by
    refine (rall_any R N l s W hR hN (hr.below hW) hf).mono ?_
    rintro e w' ⟨rows, er, v, rfl, k1, k2, k3⟩
    rcases k2 with ⟨a1, _⟩ | ⟨_, rfl, q, a3, rfl⟩
    · exact absurd (roE_chk h) a1
    · subst a3
      exact ⟨v, rfl, by rw [Int.toNat_natCast]; exact k1, k3⟩
  obtain ⟨ad, cap, hform⟩ := rd3_slice hr
  obtain ⟨L, hL⟩ : ∃ L, l.length = L := ⟨_, rfl⟩
  rw [hL] at hform
  subst hform
  have HB0 := Lib.hid (below_alloc w (.cells #[.int .i64 R, .int .i64 N, .slice ad L cap] 27))
  have HX0 : Hid ((w.alloc (.cells #[.int .i64 R, .int .i64 N, .slice ad L cap] 27)).heap[w.heap.size]? = some (.cells #[.int .i64 R, .int .i64 N, .slice ad L cap] 27 (0, 0))) := heap_alloc_new _ _
  clear hr hL
  rw [h] at HRO
  rw [h4] at HCO
  generalize hcst : (cstF x y l).1 = cst at *
  have x1 : decide (x < 0) = false := decide_eq_false (by omega)
  have x2 : decide (R ≤ x) = false := decide_eq_false (by omega)
  have y1 : decide (y < 0) = false := decide_eq_false (by omega)
  have y2 : decide (R ≤ y) = false := decide_eq_false (by omega)
  clear h h4
  go_enter Try.func77, Try.ntmps77
  go_wp2_with fail
  go_at_call 70
  refine (HRO.out _ HB0.out).mono ?_
  rintro e w1 ⟨rfl, hb⟩
  have HB1 := Lib.hid (below_then HB0.out hb)
  have HX1 := Lib.hid ((hb.block _ (lt_block HX0.out)).trans HX0.out)
  have q0 : w1.cell? ⟨w.heap.size, 0, none⟩ = some (.int .i64 R) := cell_of HX1.out rfl
  have q1 : w1.cell? ⟨w.heap.size, 1, none⟩ = some (.int .i64 N) := cell_of HX1.out rfl
  have q2 : w1.cell? ⟨w.heap.size, 2, none⟩ = some (.slice ad L cap) := cell_of HX1.out rfl
  clear hb
  go_wp2_with fail
  clear q0 q1 q2
  go_at_call 43
  refine (HCO.out _ HB1.out).mono ?_
  rintro e w2 ⟨rfl, hb⟩
  have HB2 := Lib.hid (below_then HB1.out hb)
  have HX2 := Lib.hid ((hb.block _ (lt_block HX1.out)).trans HX1.out)
  have q0 : w2.cell? ⟨w.heap.size, 0, none⟩ = some (.int .i64 R) := cell_of HX2.out rfl
  have q1 : w2.cell? ⟨w.heap.size, 1, none⟩ = some (.int .i64 N) := cell_of HX2.out rfl
  have q2 : w2.cell? ⟨w.heap.size, 2, none⟩ = some (.slice ad L cap) := cell_of HX2.out rfl
  clear hb
  go_wp2_with fail
  clear q0 q1 q2
  go_at_call 41
  refine (HAll.out _ HB2.out).mono ?_
  rintro e w3 ⟨dv, rfl, hrd, hb⟩
  have HB3 := Lib.hid (below_then HB2.out hb)
  have HRD := Lib.hid hrd
  obtain ⟨a1, c1, rfl⟩ := hrd.form
  clear hb hrd
  go_wp2
  go_ret3
  exact ⟨_, by rw [HE.out, HC.out]; rfl, fun h => absurd HE.out h, fun _ => HRD.out, HB3.out⟩
theorem rlink_any (R N : Int) (l : List E) (s : Value) (x y : Int) (w : World) (hR : I64 R) (hN : I64 N) (hr : Rd3 w s l) (hf : FitT l) (hx : I64 x) (hy : I64 y) :
    Calls Try.prog 77 #[.agg #[.int .i64 R, .int .i64 N, s], .int .i64 x, .int .i64 y] w (LkQ R N l x y w) := by
  by_cases h : roE R N l = 0
  · by_cases h2 : 0 ≤ x
    · by_cases h3 : x < R
      · by_cases h4 : 0 ≤ y
        · by_cases h5 : y < R
          · cases h6 : (cstF x y l).2
            · exact rlk4 R N l s x y w hR hN hr hf h ⟨h2, h3⟩ ⟨h4, h5⟩ h6
            · exact rlk5 R N l s x y w hR hN hr hf h ⟨h2, h3⟩ ⟨h4, h5⟩ h6
          · exact rlk3b R N l s x y w hR hN hr hf h h2 h3 h4 (by omega)
        · exact rlk3a R N l s x y w hR hN hr hf h h2 h3 (by omega)
      · exact rlk2b R N l s x y w hR hN hr hf h h2 (by omega)
    · exact rlk2a R N l s x y w hR hN hr hf h (by omega)
  · exact rlk1 R N l s x y w hR hN hr hf h
end Go.Proofs.Ytmbogobebllheaa
namespace Go.Proofs.Ytmbogobebllheaa
open Go.RowKit HM GM SP Go.Lib
set_option linter.unusedSimpArgs false
set_option linter.unusedVariables false
set_option maxHeartbeats 4000000
set_option maxRecDepth 100000
theorem InsS.drewN' {w W : World} {v : Value} {o : List Int} (h : InsS w v o W) (q : Nat) : InsS w v o (W.drewN q) := ⟨h.1, below_drewN h.2 q⟩
theorem rpsp_err (R N : Int) (l : List E) (s : Value) (x y : Int) (w : World) (hR : I64 R) (hN : I64 N) (hr : Rd3 w s l) (hf : FitT l) (hx : I64 x) (hy : I64 y) (h : lkE R N l x y ≠ 0) :
    Calls Try.prog 31 #[.agg #[.int .i64 R, .int .i64 N, s], .int .i64 x, .int .i64 y] w fun e w' => ∃ v, e = .returned (.tuple #[v, .int .i64 (lkE R N l x y)]) ∧ RdI w' v (psF R N l x y) ∧ Below w.heap.size w w' := by
  have HF : Hid (psF R N l x y = []) := by show _ = _; unfold psF; rw [if_neg h]
  rw [HF.out]
  have HLK : Hid (∀ W, Below w.heap.size w W → Calls Try.prog 77 #[.agg #[.int .i64 R, .int .i64 N, s], .int .i64 x, .int .i64 y] W fun e w' => e = .returned (.tuple #[.int .i64 (lkC R N l x y), .slice none 0 0, .int .i64 (lkE R N l x y)]) ∧ Below W.heap.size W w') := fun W hW => by
    refine (rlink_any R N l s x y W hR hN (hr.below hW) hf hx hy).mono ?_
    rintro e w' ⟨dv, rfl, h1, _, hb⟩
    rw [h1 h]
    exact ⟨rfl, hb⟩
  obtain ⟨ad, cap, hform⟩ := rd3_slice hr
  obtain ⟨L, hL⟩ : ∃ L, l.length = L := ⟨_, rfl⟩
  rw [hL] at hform
  subst hform
  have HB0 := Lib.hid (below_alloc w (.cells #[.int .i64 R, .int .i64 N, .slice ad L cap] 27))
  have HX0 : Hid ((w.alloc (.cells #[.int .i64 R, .int .i64 N, .slice ad L cap] 27)).heap[w.heap.size]? = some (.cells #[.int .i64 R, .int .i64 N, .slice ad L cap] 27 (0, 0))) := heap_alloc_new _ _
  generalize lkE R N l x y = er at *
  generalize lkC R N l x y = co at *
  clear hr hL h HF hf
  go_enter Try.func31, Try.ntmps31
  go_wp2_with fail
  go_at_call 77
  refine (HLK.out _ HB0.out).mono ?_
  rintro e w1 ⟨rfl, hb⟩
  have HB1 := Lib.hid (below_then HB0.out hb)
  clear hb HLK
  go_wp2_with fail
  go_loopg [11, 12, 23] 0 (fun g s11 s12 s23 wr => s11 = .slice none 0 0 ∧ (∃ q, q = s12) ∧ s23 = .int .i64 0 ∧ wr = w1)
  case atStart => exact ⟨rfl, ⟨_, rfl⟩, rfl, rfl⟩
  case round =>
    obtain ⟨rfl, ⟨u12, rfl⟩, rfl, rfl⟩ := hrel
    go_wp2
    go_ret2
    exact ⟨_, rfl, rdI_nil _, HB1.out⟩
theorem rpsp_ok (r : Nat) (l : List E) (s : Value) (x y : Nat) (c : Int) (w : World) (hv : Valid (r : Int) 0 l) (hr : Rd3 w s l) (hf : FitT l) (hx : x < r) (hy : y < r) (hE : lkE (r : Int) 0 l x y = 0) (hC : lkC (r : Int) 0 l x y = c) (hc : 0 ≤ c ∧ c ≤ 65535) :
    Calls Try.prog 31 #[.agg #[.int .i64 (r : Int), .int .i64 0, s], .int .i64 (x : Int), .int .i64 (y : Int)] w fun e w' => ∃ v, e = .returned (.tuple #[v, .int .i64 0]) ∧ RdI w' v (rowF r (spB (T l) (x : Int) (y : Int) c)) ∧ Below w.heap.size w w' := by
  have hS := hv.s
  have HLK : Hid (∀ W, Below w.heap.size w W → Calls Try.prog 77 #[.agg #[.int .i64 (r : Int), .int .i64 0, s], .int .i64 (x : Int), .int .i64 (y : Int)] W fun e w' => ∃ dv, e = .returned (.tuple #[.int .i64 c, dv, .int .i64 0]) ∧ RdR w' dv (gT (allRow l r) r r) ∧ Below W.heap.size W w') := fun W hW => by
    refine (rlink_any (r : Int) 0 l s (x : Int) (y : Int) W (by unfold I64; omega) (by unfold I64; omega) (hr.below hW) hf (by unfold I64; omega) (by unfold I64; omega)).mono ?_
    rintro e w' ⟨dv, rfl, _, h1, hb⟩
    have h2 := h1 hE
    rw [Int.toNat_natCast] at h2
    rw [hE, hC]
    exact ⟨dv, rfl, h2, hb⟩
  have HSM : Hid (∀ k : Nat, k < r → ∀ i : Nat, i < r → -1 ≤ T l (k : Int) (i : Int) ∧ T l (k : Int) (i : Int) ≤ 65535 * 129) := fun k hk i hi => T_bound hv hk hi
  have hr8 : r ≤ 128 := by omega
  obtain ⟨i0, hi, hz0, hz1, hz2⟩ := info_parts info3
  obtain ⟨c0, c1⟩ := hc
  obtain ⟨ad, cap, hform⟩ := rd3_slice hr
  obtain ⟨L, hL⟩ : ∃ L, l.length = L := ⟨_, rfl⟩
  rw [hL] at hform
  subst hform
  have HB0 := Lib.hid (below_alloc w (.cells #[.int .i64 (r : Int), .int .i64 0, .slice ad L cap] 27))
  have HX0 : Hid ((w.alloc (.cells #[.int .i64 (r : Int), .int .i64 0, .slice ad L cap] 27)).heap[w.heap.size]? = some (.cells #[.int .i64 (r : Int), .int .i64 0, .slice ad L cap] 27 (0, 0))) := heap_alloc_new _ _
  clear hr hL hE hC hv hS hf
  go_enter Try.func31, Try.ntmps31
  go_wp2_with fail
  go_at_call 77
  refine (HLK.out _ HB0.out).mono ?_
  rintro e X ⟨dv, rfl, hrd, hb⟩
  have HBX := Lib.hid (below_then HB0.out hb)
  obtain ⟨db, dof, dc, hdv, hdc, hdt⟩ := DT.of hrd (allT_tb l r).1 (allT_tb l r).2 (by omega)
  subst hdv
  have HDT := Lib.hid hdt
  clear hb hrd hdt HLK HB0 HX0
  go_wp2_with fail
  have x0 : (0 : Int) ≤ (x : Int) := by omega
  have x1 : (x : Int) < (r : Int) := by omega
  have y0 : (0 : Int) ≤ (y : Int) := by omega
  have y1 : (y : Int) < (r : Int) := by omega
  have HO0 : Hid (rowF 0 (spB (T l) (x : Int) (y : Int) c) = []) := rfl
  have HS0 : Hid (InsS X (.slice none 0 0) [] X) := insS_nil X
  go_loopg [11, 12, 23] r (fun g s11 s12 s23 wr => ∃ (z : Nat) (v11 : Value) (o11 : List Int), z ≤ r ∧ r - z ≤ g ∧ v11 = s11 ∧ (∃ q, q = s12) ∧ s23 = .int .i64 (z : Int) ∧ Hid (rowF z (spB (T l) (x : Int) (y : Int) c) = o11) ∧ Hid (InsS X v11 o11 wr))
  case atStart => exact ⟨0, _, [], by omega, by omega, rfl, ⟨_, rfl⟩, rfl, HO0, HS0⟩
  case round =>
    clear HO0 HS0
    obtain ⟨z, v11, o11, hz, hzg, rfl, ⟨u12, rfl⟩, rfl, HO, HS⟩ := hrel
    by_cases hzl : z < r
    · have z0 : (0 : Int) ≤ (z : Int) := by omega
      have z1 : (z : Int) < (r : Int) := by omega
      obtain ⟨g1, p1, k1, r1, _, r2, r3⟩ := (HDT.out.below HS.out.2).rows x hx
      obtain ⟨g2, p2, k2, s1, _, s2, s3⟩ := (HDT.out.below HS.out.2).rows y hy
      have r4 := r3 z hzl
      have s4 := s3 z hzl
      clear r3 s3
      obtain ⟨t1, ht1⟩ : ∃ t, T l (x : Int) (z : Int) = t := ⟨_, rfl⟩
      obtain ⟨t2, ht2⟩ : ∃ t, T l (y : Int) (z : Int) = t := ⟨_, rfl⟩
      have hs1 := HSM.out y hy z hzl
      rw [ht1] at r4
      rw [ht2] at s4 hs1
      have HT1 := Lib.hid ht1
      have HT2 := Lib.hid ht2
      have HLen : Hid (o11.length ≤ z) := by have h1 := rowF_len z (spB (T l) (x : Int) (y : Int) c); have h2 := HO.out; rw [h2] at h1; exact h1
      have HSD : Hid (∀ q, InsS X v11 o11 (wr.drewN q)) := fun q => HS.out.drewN' q
      have HOW : Hid (∀ q ob, ((wr.drewN q).alloc ob).ownsRow X.heap.size 3 1 v11 o11.length (ints o11)) := fun q ob => row_below (HSD.out q).1 (below_alloc _ ob)
      clear ht1 ht2
      by_cases h1 : 0 ≤ t1
      · have k1 : decide (0 ≤ t1) = true := decide_eq_true h1
        by_cases h2 : t2 < 0
        · have k2 : decide (t2 < 0) = true := decide_eq_true h2
          have HN : Hid (rowF (z + 1) (spB (T l) (x : Int) (y : Int) c) = o11 ++ [(z : Int)]) := by
            show _ = _
            rw [rowF_succ, if_pos (by unfold spB; rw [HT1.out, HT2.out]; simp; omega), HO.out]
          go_wp2_with fail
          go_quiet (fail)
          go_wp2_with (at_builtin; refine wpList_append_own _ rfl (.tmp 63) (.tmp 65) 35 rfl X.heap.size 3 i0 (.int .i64 0) 1 8 Try.underlying35 hi hz0 hz1 hz2 rfl (by decide) v11 o11.length (ints o11) rfl (HOW.out _ _) ⟨wr.heap.size, 0, none⟩ 1 1 [.int .i64 (z : Int)] rfl rfl (cellI_new _ _ _ rfl) (one_int _) (by have := HLen.out; unfold maxLen; omega) (by have := HLen.out; omega) (by have := HS.out.2.size; simp; omega) ?_; intro v1 w4 hown hgrow hnil; have S2 := Lib.hid ((HSD.out _).push (z : Int) _ hown hgrow); clear hown hgrow hnil)
          go_roundg (r - (z + 1))
          case measure => omega
          case rel => exact ⟨z + 1, _, o11 ++ [(z : Int)], by omega, Nat.le_refl _, rfl, ⟨_, rfl⟩, by go_num, HN, S2⟩
        · have k2 : decide (t2 < 0) = false := decide_eq_false h2
          by_cases h3 : t1 < c + t2
          · have k3 : decide (t1 < c + t2) = true := decide_eq_true h3
            have HN : Hid (rowF (z + 1) (spB (T l) (x : Int) (y : Int) c) = o11 ++ [(z : Int)]) := by
              show _ = _
              rw [rowF_succ, if_pos (by unfold spB; rw [HT1.out, HT2.out]; simp; omega), HO.out]
            go_wp2_with fail
            go_quiet (fail)
            go_wp2_with (at_builtin; refine wpList_append_own _ rfl (.tmp 63) (.tmp 65) 35 rfl X.heap.size 3 i0 (.int .i64 0) 1 8 Try.underlying35 hi hz0 hz1 hz2 rfl (by decide) v11 o11.length (ints o11) rfl (HOW.out _ _) ⟨wr.heap.size, 0, none⟩ 1 1 [.int .i64 (z : Int)] rfl rfl (cellI_new _ _ _ rfl) (one_int _) (by have := HLen.out; unfold maxLen; omega) (by have := HLen.out; omega) (by have := HS.out.2.size; simp; omega) ?_; intro v1 w4 hown hgrow hnil; have S2 := Lib.hid ((HSD.out _).push (z : Int) _ hown hgrow); clear hown hgrow hnil)
            go_roundg (r - (z + 1))
            case measure => omega
            case rel => exact ⟨z + 1, _, o11 ++ [(z : Int)], by omega, Nat.le_refl _, rfl, ⟨_, rfl⟩, by go_num, HN, S2⟩
          · have k3 : decide (t1 < c + t2) = false := decide_eq_false h3
            have HN : Hid (rowF (z + 1) (spB (T l) (x : Int) (y : Int) c) = o11) := by
              show _ = _
              rw [rowF_succ, if_neg (by unfold spB; rw [HT1.out, HT2.out]; simp; omega), HO.out]; simp
            go_wp2_with fail
            go_quiet (fail)
            go_wp2_with fail
            go_roundg (r - (z + 1))
            case measure => omega
            case rel => exact ⟨z + 1, _, o11, by omega, Nat.le_refl _, rfl, ⟨_, rfl⟩, by go_num, HN, HSD.out _⟩
      · have k1 : decide (0 ≤ t1) = false := decide_eq_false h1
        have HN : Hid (rowF (z + 1) (spB (T l) (x : Int) (y : Int) c) = o11) := by
          show _ = _
          rw [rowF_succ, if_neg (by unfold spB; rw [HT1.out, HT2.out]; simp; omega), HO.out]; simp
        go_wp2_with fail
        go_quiet (fail)
        go_wp2_with fail
        go_roundg (r - (z + 1))
        case measure => omega
        case rel => exact ⟨z + 1, _, o11, by omega, Nat.le_refl _, rfl, ⟨_, rfl⟩, by go_num, HN, HSD.out _⟩
    · have k1 : decide ((z : Int) < (r : Int)) = false := decide_eq_false (by omega)
      have HIR : Hid (z = r) := by show _ = _; omega
      have HF : Hid (RdI wr v11 (rowF r (spB (T l) (x : Int) (y : Int) c))) := by have := HO.out; rw [HIR.out] at this; rw [this]; exact rdI_own HS.out.1
      have HBF := Lib.hid (below_then HBX.out HS.out.2)
      clear HS HIR HO
      go_wp2
      go_ret2
      exact ⟨_, rfl, HF.out, HBF.out⟩
theorem rpsp_any (R N : Int) (l : List E) (s : Value) (x y : Int) (w : World) (hR : I64 R) (hN : I64 N) (hr : Rd3 w s l) (hf : FitT l) (hx : I64 x) (hy : I64 y) :
    Calls Try.prog 31 #[.agg #[.int .i64 R, .int .i64 N, s], .int .i64 x, .int .i64 y] w fun e w' => ∃ v, e = .returned (.tuple #[v, .int .i64 (lkE R N l x y)]) ∧ RdI w' v (psF R N l x y) ∧ Below w.heap.size w w' := by
  by_cases h : lkE R N l x y = 0
  · obtain ⟨h1, rfl, h3, h4, h5⟩ := lkE_ok h
    obtain ⟨r, rfl⟩ : ∃ r : Nat, R = (r : Int) := ⟨R.toNat, by omega⟩
    obtain ⟨a, rfl⟩ : ∃ a : Nat, x = (a : Int) := ⟨x.toNat, by omega⟩
    obtain ⟨b, rfl⟩ : ∃ b : Nat, y = (b : Int) := ⟨y.toNat, by omega⟩
    have := rpsp_ok r l s a b (lkC (r : Int) 0 l a b) w (chk_iff.1 h1) hr hf (by omega) (by omega) h rfl (lkC_small h)
    unfold psF
    rw [if_pos h, h, Int.toNat_natCast]
    exact this
  · exact rpsp_err R N l s x y w hR hN hr hf hx hy h
theorem rqsp_err (R N : Int) (l : List E) (s : Value) (x y : Int) (w : World) (hR : I64 R) (hN : I64 N) (hr : Rd3 w s l) (hf : FitT l) (hx : I64 x) (hy : I64 y) (h : lkE R N l x y ≠ 0) :
    Calls Try.prog 32 #[.agg #[.int .i64 R, .int .i64 N, s], .int .i64 x, .int .i64 y] w fun e w' => ∃ v, e = .returned (.tuple #[v, .int .i64 (lkE R N l x y)]) ∧ RdI w' v (qsF R N l x y) ∧ Below w.heap.size w w' := by
  have HF : Hid (qsF R N l x y = []) := by show _ = _; unfold qsF; rw [if_neg h]
  rw [HF.out]
  have HLK : Hid (∀ W, Below w.heap.size w W → Calls Try.prog 77 #[.agg #[.int .i64 R, .int .i64 N, s], .int .i64 x, .int .i64 y] W fun e w' => e = .returned (.tuple #[.int .i64 (lkC R N l x y), .slice none 0 0, .int .i64 (lkE R N l x y)]) ∧ Below W.heap.size W w') := fun W hW => by
    refine (rlink_any R N l s x y W hR hN (hr.below hW) hf hx hy).mono ?_
    rintro e w' ⟨dv, rfl, h1, _, hb⟩
    rw [h1 h]
    exact ⟨rfl, hb⟩
  obtain ⟨ad, cap, hform⟩ := rd3_slice hr
  obtain ⟨L, hL⟩ : ∃ L, l.length = L := ⟨_, rfl⟩
  rw [hL] at hform
  subst hform
  have HB0 := Lib.hid (below_alloc w (.cells #[.int .i64 R, .int .i64 N, .slice ad L cap] 27))
  have HX0 : Hid ((w.alloc (.cells #[.int .i64 R, .int .i64 N, .slice ad L cap] 27)).heap[w.heap.size]? = some (.cells #[.int .i64 R, .int .i64 N, .slice ad L cap] 27 (0, 0))) := heap_alloc_new _ _
  generalize lkE R N l x y = er at *
  generalize lkC R N l x y = co at *
  clear hr hL h HF hf
  go_enter Try.func32, Try.ntmps32
  go_wp2_with fail
  go_at_call 77
  refine (HLK.out _ HB0.out).mono ?_
  rintro e w1 ⟨rfl, hb⟩
  have HB1 := Lib.hid (below_then HB0.out hb)
  clear hb HLK
  go_wp2_with fail
  go_loopg [11, 12, 23] 0 (fun g s11 s12 s23 wr => s11 = .slice none 0 0 ∧ (∃ q, q = s12) ∧ s23 = .int .i64 0 ∧ wr = w1)
  case atStart => exact ⟨rfl, ⟨_, rfl⟩, rfl, rfl⟩
  case round =>
    obtain ⟨rfl, ⟨u12, rfl⟩, rfl, rfl⟩ := hrel
    go_wp2
    go_ret2
    exact ⟨_, rfl, rdI_nil _, HB1.out⟩
theorem rqsp_ok (r : Nat) (l : List E) (s : Value) (x y : Nat) (c : Int) (w : World) (hv : Valid (r : Int) 0 l) (hr : Rd3 w s l) (hf : FitT l) (hx : x < r) (hy : y < r) (hE : lkE (r : Int) 0 l x y = 0) (hC : lkC (r : Int) 0 l x y = c) (hc : 0 ≤ c ∧ c ≤ 65535) :
    Calls Try.prog 32 #[.agg #[.int .i64 (r : Int), .int .i64 0, s], .int .i64 (x : Int), .int .i64 (y : Int)] w fun e w' => ∃ v, e = .returned (.tuple #[v, .int .i64 0]) ∧ RdI w' v (rowF r (sqB (T l) (x : Int) (y : Int) c)) ∧ Below w.heap.size w w' := by
  have hS := hv.s
  have HLK : Hid (∀ W, Below w.heap.size w W → Calls Try.prog 77 #[.agg #[.int .i64 (r : Int), .int .i64 0, s], .int .i64 (x : Int), .int .i64 (y : Int)] W fun e w' => ∃ dv, e = .returned (.tuple #[.int .i64 c, dv, .int .i64 0]) ∧ RdR w' dv (gT (allRow l r) r r) ∧ Below W.heap.size W w') := fun W hW => by
    refine (rlink_any (r : Int) 0 l s (x : Int) (y : Int) W (by unfold I64; omega) (by unfold I64; omega) (hr.below hW) hf (by unfold I64; omega) (by unfold I64; omega)).mono ?_
    rintro e w' ⟨dv, rfl, _, h1, hb⟩
    have h2 := h1 hE
    rw [Int.toNat_natCast] at h2
    rw [hE, hC]
    exact ⟨dv, rfl, h2, hb⟩
  have HSM : Hid (∀ k : Nat, k < r → ∀ i : Nat, i < r → -1 ≤ T l (k : Int) (i : Int) ∧ T l (k : Int) (i : Int) ≤ 65535 * 129) := fun k hk i hi => T_bound hv hk hi
  have hr8 : r ≤ 128 := by omega
  obtain ⟨i0, hi, hz0, hz1, hz2⟩ := info_parts info3
  obtain ⟨c0, c1⟩ := hc
  obtain ⟨ad, cap, hform⟩ := rd3_slice hr
  obtain ⟨L, hL⟩ : ∃ L, l.length = L := ⟨_, rfl⟩
  rw [hL] at hform
  subst hform
  have HB0 := Lib.hid (below_alloc w (.cells #[.int .i64 (r : Int), .int .i64 0, .slice ad L cap] 27))
  have HX0 : Hid ((w.alloc (.cells #[.int .i64 (r : Int), .int .i64 0, .slice ad L cap] 27)).heap[w.heap.size]? = some (.cells #[.int .i64 (r : Int), .int .i64 0, .slice ad L cap] 27 (0, 0))) := heap_alloc_new _ _
  clear hr hL hE hC hv hS hf
  go_enter Try.func32, Try.ntmps32
  go_wp2_with fail
  go_at_call 77
  refine (HLK.out _ HB0.out).mono ?_
  rintro e X ⟨dv, rfl, hrd, hb⟩
  have HBX := Lib.hid (below_then HB0.out hb)
  obtain ⟨db, dof, dc, hdv, hdc, hdt⟩ := DT.of hrd (allT_tb l r).1 (allT_tb l r).2 (by omega)
  subst hdv
  have HDT := Lib.hid hdt
  clear hb hrd hdt HLK HB0 HX0
  go_wp2_with fail
  have x0 : (0 : Int) ≤ (x : Int) := by omega
  have x1 : (x : Int) < (r : Int) := by omega
  have y0 : (0 : Int) ≤ (y : Int) := by omega
  have y1 : (y : Int) < (r : Int) := by omega
  have HO0 : Hid (rowF 0 (sqB (T l) (x : Int) (y : Int) c) = []) := rfl
  have HS0 : Hid (InsS X (.slice none 0 0) [] X) := insS_nil X
  go_loopg [11, 12, 23] r (fun g s11 s12 s23 wr => ∃ (z : Nat) (v11 : Value) (o11 : List Int), z ≤ r ∧ r - z ≤ g ∧ v11 = s11 ∧ (∃ q, q = s12) ∧ s23 = .int .i64 (z : Int) ∧ Hid (rowF z (sqB (T l) (x : Int) (y : Int) c) = o11) ∧ Hid (InsS X v11 o11 wr))
  case atStart => exact ⟨0, _, [], by omega, by omega, rfl, ⟨_, rfl⟩, rfl, HO0, HS0⟩
  case round =>
    clear HO0 HS0
    obtain ⟨z, v11, o11, hz, hzg, rfl, ⟨u12, rfl⟩, rfl, HO, HS⟩ := hrel
    by_cases hzl : z < r
    · have z0 : (0 : Int) ≤ (z : Int) := by omega
      have z1 : (z : Int) < (r : Int) := by omega
      obtain ⟨g1, p1, k1, r1, _, r2, r3⟩ := (HDT.out.below HS.out.2).rows z hzl
      have r4 := r3 y hy
      have s4 := r3 x hx
      clear r3
      obtain ⟨t1, ht1⟩ : ∃ t, T l (z : Int) (y : Int) = t := ⟨_, rfl⟩
      obtain ⟨t2, ht2⟩ : ∃ t, T l (z : Int) (x : Int) = t := ⟨_, rfl⟩
      have hs1 := HSM.out z hzl x hx
      rw [ht1] at r4
      rw [ht2] at s4 hs1
      have HT1 := Lib.hid ht1
      have HT2 := Lib.hid ht2
      have HLen : Hid (o11.length ≤ z) := by have h1 := rowF_len z (sqB (T l) (x : Int) (y : Int) c); have h2 := HO.out; rw [h2] at h1; exact h1
      have HSD : Hid (∀ q, InsS X v11 o11 (wr.drewN q)) := fun q => HS.out.drewN' q
      have HOW : Hid (∀ q ob, ((wr.drewN q).alloc ob).ownsRow X.heap.size 3 1 v11 o11.length (ints o11)) := fun q ob => row_below (HSD.out q).1 (below_alloc _ ob)
      clear ht1 ht2
      by_cases h1 : 0 ≤ t1
      · have k1 : decide (0 ≤ t1) = true := decide_eq_true h1
        by_cases h2 : t2 < 0
        · have k2 : decide (t2 < 0) = true := decide_eq_true h2
          have HN : Hid (rowF (z + 1) (sqB (T l) (x : Int) (y : Int) c) = o11 ++ [(z : Int)]) := by
            show _ = _
            rw [rowF_succ, if_pos (by unfold sqB; rw [HT1.out, HT2.out]; simp; omega), HO.out]
          go_wp2_with fail
          go_quiet (fail)
          go_wp2_with (at_builtin; refine wpList_append_own _ rfl (.tmp 63) (.tmp 65) 35 rfl X.heap.size 3 i0 (.int .i64 0) 1 8 Try.underlying35 hi hz0 hz1 hz2 rfl (by decide) v11 o11.length (ints o11) rfl (HOW.out _ _) ⟨wr.heap.size, 0, none⟩ 1 1 [.int .i64 (z : Int)] rfl rfl (cellI_new _ _ _ rfl) (one_int _) (by have := HLen.out; unfold maxLen; omega) (by have := HLen.out; omega) (by have := HS.out.2.size; simp; omega) ?_; intro v1 w4 hown hgrow hnil; have S2 := Lib.hid ((HSD.out _).push (z : Int) _ hown hgrow); clear hown hgrow hnil)
          go_roundg (r - (z + 1))
          case measure => omega
          case rel => exact ⟨z + 1, _, o11 ++ [(z : Int)], by omega, Nat.le_refl _, rfl, ⟨_, rfl⟩, by go_num, HN, S2⟩
        · have k2 : decide (t2 < 0) = false := decide_eq_false h2
          by_cases h3 : t1 < t2 + c
          · have k3 : decide (t1 < t2 + c) = true := decide_eq_true h3
            have HN : Hid (rowF (z + 1) (sqB (T l) (x : Int) (y : Int) c) = o11 ++ [(z : Int)]) := by
              show _ = _
              rw [rowF_succ, if_pos (by unfold sqB; rw [HT1.out, HT2.out]; simp; omega), HO.out]
            go_wp2_with fail
            go_quiet (fail)
            go_wp2_with (at_builtin; refine wpList_append_own _ rfl (.tmp 63) (.tmp 65) 35 rfl X.heap.size 3 i0 (.int .i64 0) 1 8 Try.underlying35 hi hz0 hz1 hz2 rfl (by decide) v11 o11.length (ints o11) rfl (HOW.out _ _) ⟨wr.heap.size, 0, none⟩ 1 1 [.int .i64 (z : Int)] rfl rfl (cellI_new _ _ _ rfl) (one_int _) (by have := HLen.out; unfold maxLen; omega) (by have := HLen.out; omega) (by have := HS.out.2.size; simp; omega) ?_; intro v1 w4 hown hgrow hnil; have S2 := Lib.hid ((HSD.out _).push (z : Int) _ hown hgrow); clear hown hgrow hnil)
            go_roundg (r - (z + 1))
            case measure => omega
            case rel => exact ⟨z + 1, _, o11 ++ [(z : Int)], by omega, Nat.le_refl _, rfl, ⟨_, rfl⟩, by go_num, HN, S2⟩
          · have k3 : decide (t1 < t2 + c) = false := decide_eq_false h3
            have HN : Hid (rowF (z + 1) (sqB (T l) (x : Int) (y : Int) c) = o11) := by
              show _ = _
              rw [rowF_succ, if_neg (by unfold sqB; rw [HT1.out, HT2.out]; simp; omega), HO.out]; simp
            go_wp2_with fail
            go_quiet (fail)
            go_wp2_with fail
            go_roundg (r - (z + 1))
            case measure => omega
            case rel => exact ⟨z + 1, _, o11, by omega, Nat.le_refl _, rfl, ⟨_, rfl⟩, by go_num, HN, HSD.out _⟩
      · have k1 : decide (0 ≤ t1) = false := decide_eq_false h1
        have HN : Hid (rowF (z + 1) (sqB (T l) (x : Int) (y : Int) c) = o11) := by
          show _ = _
          rw [rowF_succ, if_neg (by unfold sqB; rw [HT1.out, HT2.out]; simp; omega), HO.out]; simp
        go_wp2_with fail
        go_quiet (fail)
        go_wp2_with fail
        go_roundg (r - (z + 1))
        case measure => omega
        case rel => exact ⟨z + 1, _, o11, by omega, Nat.le_refl _, rfl, ⟨_, rfl⟩, by go_num, HN, HSD.out _⟩
    · have k1 : decide ((z : Int) < (r : Int)) = false := decide_eq_false (by omega)
      have HIR : Hid (z = r) := by show _ = _; omega
      have HF : Hid (RdI wr v11 (rowF r (sqB (T l) (x : Int) (y : Int) c))) := by have := HO.out; rw [HIR.out] at this; rw [this]; exact rdI_own HS.out.1
      have HBF := Lib.hid (below_then HBX.out HS.out.2)
      clear HS HIR HO
      go_wp2
      go_ret2
      exact ⟨_, rfl, HF.out, HBF.out⟩
theorem rqsp_any (R N : Int) (l : List E) (s : Value) (x y : Int) (w : World) (hR : I64 R) (hN : I64 N) (hr : Rd3 w s l) (hf : FitT l) (hx : I64 x) (hy : I64 y) :
    Calls Try.prog 32 #[.agg #[.int .i64 R, .int .i64 N, s], .int .i64 x, .int .i64 y] w fun e w' => ∃ v, e = .returned (.tuple #[v, .int .i64 (lkE R N l x y)]) ∧ RdI w' v (qsF R N l x y) ∧ Below w.heap.size w w' := by
  by_cases h : lkE R N l x y = 0
  · obtain ⟨h1, rfl, h3, h4, h5⟩ := lkE_ok h
    obtain ⟨r, rfl⟩ : ∃ r : Nat, R = (r : Int) := ⟨R.toNat, by omega⟩
    obtain ⟨a, rfl⟩ : ∃ a : Nat, x = (a : Int) := ⟨x.toNat, by omega⟩
    obtain ⟨b, rfl⟩ : ∃ b : Nat, y = (b : Int) := ⟨y.toNat, by omega⟩
    have := rqsp_ok r l s a b (lkC (r : Int) 0 l a b) w (chk_iff.1 h1) hr hf (by omega) (by omega) h rfl (lkC_small h)
    unfold qsF
    rw [if_pos h, h, Int.toNat_natCast]
    exact this
  · exact rqsp_err R N l s x y w hR hN hr hf hx hy h
end Go.Proofs.Ytmbogobebllheaa
namespace Go.Proofs.Ytmbogobebllheaa
open Go.RowKit HM GM SP Go.Lib
set_option linter.unusedSimpArgs false
set_option linter.unusedVariables false
set_option maxHeartbeats 4000000
set_option maxRecDepth 100000
theorem rindexq_any (m : List Int) (v : Value) (y : Int) (w : World) (hv : RdI w v m) : Calls Try.prog 82 #[v, .int .i64 y] w fun e w' => ∃ i, e = .returned (.int .i64 i) ∧ IdxR m y i ∧ w' = w := by
  obtain ⟨ad, cap, rfl, h1, h2, hc⟩ := hv
  have HC := Lib.hid hc
  obtain ⟨L, hL⟩ : ∃ L, m.length = L := ⟨_, rfl⟩
  rw [hL] at h1 ⊢
  have HL := Lib.hid hL
  clear hc hL
  go_enter Try.func82, Try.ntmps82
  go_wp2_with fail
  have HS : Hid (w = w ∧ ∀ k z, k < 0 → m[k]? = some z → z ≠ y) := ⟨rfl, fun k z h => by omega⟩
  go_loopg [5, 6, 9] L (fun g s5 s6 s9 wr => ∃ k : Nat, k ≤ L ∧ L - k ≤ g ∧ s9 = .int .i64 (k : Int) ∧ (∃ q, q = s5) ∧ (∃ q, q = s6) ∧ Hid (wr = w ∧ ∀ j z, j < k → m[j]? = some z → z ≠ y))
  case atStart => exact ⟨0, by omega, by omega, rfl, ⟨_, rfl⟩, ⟨_, rfl⟩, HS⟩
  case round =>
    clear HS
    obtain ⟨k, hk, hkg, rfl, ⟨u5, rfl⟩, ⟨u6, rfl⟩, HS⟩ := hrel
    by_cases hlt : k < L
    · obtain ⟨z, hz⟩ : ∃ z, m[k]? = some z := ⟨_, List.getElem?_eq_getElem (by rw [HL.out]; exact hlt)⟩
      obtain ⟨b, off, rfl, hb, c⟩ := HC.out k z hz
      have c' : wr.cell? _ = _ := HS.out.1 ▸ c
      have HZ := Lib.hid hz
      have k0 : (0 : Int) ≤ (k : Int) := by omega
      have k1 : (k : Int) < (L : Int) := by omega
      clear c hz
      by_cases he : z = y
      · have HM : Hid (IdxR m y (k : Int)) := .inr ⟨by omega, by rw [← he]; exact List.mem_of_getElem? HZ.out⟩
        have HB := Lib.hid HS.out.1
        clear HS HZ
        subst he
        go_wp2
        go_ret
        exact ⟨_, rfl, HM.out, HB.out⟩
      · have he1 : (z == y) = false := by simpa using he
        have HN : Hid (wr = w ∧ ∀ j z, j < k + 1 → m[j]? = some z → z ≠ y) := ⟨HS.out.1, fun j z' hj hz' => by
          by_cases e : j = k
          · subst e; have := HZ.out; rw [hz'] at this; cases this; exact he
          · exact HS.out.2 j z' (by omega) hz'⟩
        clear HS
        go_wp2_with fail
        go_roundg (L - (k + 1))
        case measure => omega
        case rel => exact ⟨k + 1, by omega, Nat.le_refl _, by go_num, ⟨_, rfl⟩, ⟨_, rfl⟩, HN⟩
    · have k1 : decide ((k : Int) < (L : Int)) = false := decide_eq_false (by omega)
      have HM : Hid (IdxR m y (-1)) := .inl ⟨rfl, fun hm => by
        obtain ⟨j, hj⟩ := List.getElem?_of_mem hm
        exact HS.out.2 j y (by have := (List.getElem?_eq_some_iff.1 hj).1; have := HL.out; omega) hj rfl⟩
      have HB := Lib.hid HS.out.1
      clear HS
      go_wp2
      go_ret
      exact ⟨_, rfl, HM.out, HB.out⟩
theorem rhasq_any (m : List Int) (v : Value) (y : Int) (w : World) (hv : RdI w v m) : Calls Try.prog 40 #[v, .int .i64 y] w fun e w' => e = .returned (.bool (decide (y ∈ m))) ∧ w' = w := by
  have H := Lib.hid (rindexq_any m v y w hv)
  obtain ⟨ad, cap, rfl⟩ := hv.form
  generalize m.length = L at *
  clear hv
  go_enter Try.func40, Try.ntmps40
  go_wp2_with fail
  go_at_call 82
  refine H.out.mono ?_
  rintro e w1 ⟨i, rfl, hi, rfl⟩
  clear H
  have HD : Hid (decide (0 ≤ i) = decide (y ∈ m)) := by
    rcases hi with ⟨rfl, h⟩ | ⟨h1, h2⟩
    · show decide _ = decide _; rw [decide_eq_false h]; rfl
    · show decide _ = decide _; rw [decide_eq_true h1, decide_eq_true h2]
  clear hi
  go_wp2
  go_ret
  exact ⟨by rw [← HD.out]; rfl, rfl⟩
theorem rrm_err (R N : Int) (l : List E) (s : Value) (x y : Int) (w : World) (hR : I64 R) (hN : I64 N) (hr : Rd3 w s l) (hf : FitT l) (hx : I64 x) (hy : I64 y) (h : lkE R N l x y ≠ 0) :
    Calls Try.prog 33 #[.agg #[.int .i64 R, .int .i64 N, s], .int .i64 x, .int .i64 y] w fun e w' => e = .returned (.tuple #[.int .i64 0, .bool false, .int .i64 (lkE R N l x y)]) ∧ Below w.heap.size w w' := by
  have HLK : Hid (∀ W, Below w.heap.size w W → Calls Try.prog 77 #[.agg #[.int .i64 R, .int .i64 N, s], .int .i64 x, .int .i64 y] W fun e w' => e = .returned (.tuple #[.int .i64 (lkC R N l x y), .slice none 0 0, .int .i64 (lkE R N l x y)]) ∧ Below W.heap.size W w') := fun W hW => by
    refine (rlink_any R N l s x y W hR hN (hr.below hW) hf hx hy).mono ?_
    rintro e w' ⟨dv, rfl, h1, _, hb⟩
    rw [h1 h]
    exact ⟨rfl, hb⟩
  obtain ⟨ad, cap, hform⟩ := rd3_slice hr
  obtain ⟨L, hL⟩ : ∃ L, l.length = L := ⟨_, rfl⟩
  rw [hL] at hform
  subst hform
  have HB0 := Lib.hid (below_alloc w (.cells #[.int .i64 R, .int .i64 N, .slice ad L cap] 27))
  have HX0 : Hid ((w.alloc (.cells #[.int .i64 R, .int .i64 N, .slice ad L cap] 27)).heap[w.heap.size]? = some (.cells #[.int .i64 R, .int .i64 N, .slice ad L cap] 27 (0, 0))) := heap_alloc_new _ _
  generalize lkE R N l x y = er at *
  generalize lkC R N l x y = co at *
  have hb0 : (er != 0) = true := by simpa using h
  clear hr hL h hf
  go_enter Try.func33, Try.ntmps33
  go_wp2_with fail
  go_at_call 77
  refine (HLK.out _ HB0.out).mono ?_
  rintro e w1 ⟨rfl, hb⟩
  have HB1 := Lib.hid (below_then HB0.out hb)
  clear hb HLK
  go_wp2
  go_ret3
  exact ⟨rfl, HB1.out⟩
theorem rrm_ok (r : Nat) (l : List E) (s : Value) (x y : Nat) (c : Int) (w : World) (hv : Valid (r : Int) 0 l) (hr : Rd3 w s l) (hf : FitT l) (hx : x < r) (hy : y < r) (hE : lkE (r : Int) 0 l x y = 0) (hC : lkC (r : Int) 0 l x y = c) (hc : 0 ≤ c ∧ c ≤ 65535) (ps qs : List Int) (hps : ps = rowF r (spB (T l) (x : Int) (y : Int) c)) (hqs : qs = rowF r (sqB (T l) (x : Int) (y : Int) c)) :
    Calls Try.prog 33 #[.agg #[.int .i64 (r : Int), .int .i64 0, s], .int .i64 (x : Int), .int .i64 (y : Int)] w fun e w' => e = .returned (.tuple #[.int .i64 ((remF (T l) (x : Int) ps qs).getD 0), .bool (remF (T l) (x : Int) ps qs).isSome, .int .i64 0]) ∧ Below w.heap.size w w' := by
  have hS := hv.s
  have HLK : Hid (∀ W, Below w.heap.size w W → Calls Try.prog 77 #[.agg #[.int .i64 (r : Int), .int .i64 0, s], .int .i64 (x : Int), .int .i64 (y : Int)] W fun e w' => ∃ dv, e = .returned (.tuple #[.int .i64 c, dv, .int .i64 0]) ∧ RdR w' dv (gT (allRow l r) r r) ∧ Below W.heap.size W w') := fun W hW => by
    refine (rlink_any (r : Int) 0 l s (x : Int) (y : Int) W (by unfold I64; omega) (by unfold I64; omega) (hr.below hW) hf (by unfold I64; omega) (by unfold I64; omega)).mono ?_
    rintro e w' ⟨dv, rfl, _, h1, hb⟩
    have h2 := h1 hE
    rw [Int.toNat_natCast] at h2
    rw [hE, hC]
    exact ⟨dv, rfl, h2, hb⟩
  have HPS : Hid (∀ W, Below w.heap.size w W → Calls Try.prog 31 #[.agg #[.int .i64 (r : Int), .int .i64 0, s], .int .i64 (x : Int), .int .i64 (y : Int)] W fun e w' => ∃ v, e = .returned (.tuple #[v, .int .i64 0]) ∧ RdI w' v ps ∧ Below W.heap.size W w') := fun W hW => by rw [hps]; exact rpsp_ok r l s x y c W hv (hr.below hW) hf hx hy hE hC hc
  have HQS : Hid (∀ W, Below w.heap.size w W → Calls Try.prog 32 #[.agg #[.int .i64 (r : Int), .int .i64 0, s], .int .i64 (x : Int), .int .i64 (y : Int)] W fun e w' => ∃ v, e = .returned (.tuple #[v, .int .i64 0]) ∧ RdI w' v qs ∧ Below W.heap.size W w') := fun W hW => by rw [hqs]; exact rqsp_ok r l s x y c W hv (hr.below hW) hf hx hy hE hC hc
  have HPM : Hid (∀ (k : Nat) (z : Int), ps[k]? = some z → ∃ n : Nat, z = (n : Int) ∧ n < r) := fun k z hk => by
    have := List.mem_of_getElem? hk
    rw [hps, mem_rowF] at this
    exact ⟨z.toNat, by omega, by omega⟩
  have HRF : Hid (remF (T l) (x : Int) ps qs = (ps.filter (remK x qs)).foldl (remStep (T l) x) none) := rfl
  generalize remF (T l) (x : Int) ps qs = rf at *
  obtain ⟨ad, cap, hform⟩ := rd3_slice hr
  obtain ⟨L, hL⟩ : ∃ L, l.length = L := ⟨_, rfl⟩
  rw [hL] at hform
  subst hform
  have HB0 := Lib.hid (below_alloc w (.cells #[.int .i64 (r : Int), .int .i64 0, .slice ad L cap] 27))
  have HX0 : Hid ((w.alloc (.cells #[.int .i64 (r : Int), .int .i64 0, .slice ad L cap] 27)).heap[w.heap.size]? = some (.cells #[.int .i64 (r : Int), .int .i64 0, .slice ad L cap] 27 (0, 0))) := heap_alloc_new _ _
  clear hr hL hE hC hc hps hqs hf
  go_enter Try.func33, Try.ntmps33
  go_wp2_with fail
  go_at_call 77
  refine (HLK.out _ HB0.out).mono ?_
  rintro e w1 ⟨dv, rfl, hrd, hb⟩
  have HB1 := Lib.hid (below_then HB0.out hb)
  have HX1 := Lib.hid ((hb.block _ (lt_block HX0.out)).trans HX0.out)
  have q0 : w1.cell? ⟨w.heap.size, 0, none⟩ = some (.int .i64 (r : Int)) := cell_of HX1.out rfl
  have q1 : w1.cell? ⟨w.heap.size, 1, none⟩ = some (.int .i64 0) := cell_of HX1.out rfl
  have q2 : w1.cell? ⟨w.heap.size, 2, none⟩ = some (.slice ad L cap) := cell_of HX1.out rfl
  obtain ⟨db, dof, dc, hdv, hdc, hdt⟩ := DT.of hrd (allT_tb l r).1 (allT_tb l r).2 (by omega)
  subst hdv
  have HDT1 := Lib.hid hdt
  clear hb hrd hdt HLK HB0 HX0
  go_wp2_with fail
  go_at_call 31
  refine (HPS.out _ HB1.out).mono ?_
  rintro e w2 ⟨pv, rfl, hrd, hb⟩
  clear q0 q1 q2
  have HB2 := Lib.hid (below_then HB1.out hb)
  have HX2 := Lib.hid ((hb.block _ (lt_block HX1.out)).trans HX1.out)
  have q0 : w2.cell? ⟨w.heap.size, 0, none⟩ = some (.int .i64 (r : Int)) := cell_of HX2.out rfl
  have q1 : w2.cell? ⟨w.heap.size, 1, none⟩ = some (.int .i64 0) := cell_of HX2.out rfl
  have q2 : w2.cell? ⟨w.heap.size, 2, none⟩ = some (.slice ad L cap) := cell_of HX2.out rfl
  have HDT2 := Lib.hid (HDT1.out.below hb)
  have HP2 := Lib.hid hrd
  obtain ⟨pa, pc, hpf⟩ := hrd.form
  subst hpf
  clear hb hrd HPS HB1 HX1 HDT1
  go_wp2_with fail
  go_at_call 32
  refine (HQS.out _ HB2.out).mono ?_
  rintro e V ⟨qv, rfl, hrd, hb⟩
  clear q0 q1 q2
  have HBV := Lib.hid (below_then HB2.out hb)
  have HDT := Lib.hid (HDT2.out.below hb)
  have HP3 := Lib.hid (HP2.out.below hb)
  have HQ3 := Lib.hid hrd
  obtain ⟨qa, qc, hqf⟩ := hrd.form
  subst hqf
  clear hb hrd HQS HB2 HX2 HP2 HDT2
  go_wp2_with fail
  obtain ⟨M, hM⟩ : ∃ M, ps.length = M := ⟨_, rfl⟩
  have HM := Lib.hid hM
  have HCT : Hid (∀ (z : Nat) W, Below V.heap.size V W → Calls Try.prog 40 #[.slice qa qs.length qc, .int .i64 (z : Int)] W fun e w' => e = .returned (.bool (decide ((z : Int) ∈ qs))) ∧ w' = W) := fun z W hW => rhasq_any qs _ z W (HQ3.out.below hW)
  generalize qs.length = qn at *
  obtain ⟨pad, pcap, hpe, hp1, hp2, hpr⟩ := HP3.out
  rw [hM] at hpe hp1 ⊢
  cases hpe
  have HPR := Lib.hid hpr
  have HA0 : Hid (((ps.take 0).filter (remK x qs)).foldl (remStep (T l) x) none = oN none) := rfl
  have HN0 : Hid (∀ b, (none : Option Nat) = some b → b < r) := fun b h => by cases h
  have HS0 : Hid (Below V.heap.size V V) := Below.refl _ _
  have x0 : (0 : Int) ≤ (x : Int) := by omega
  have x1 : (x : Int) < (r : Int) := by omega
  clear hpr HP3 HQ3 hM
  go_loopg [16, 17, 19, 47] M (fun g s16 s17 s19 s47 wr => ∃ (k : Nat) (a : Option Nat), k ≤ M ∧ M - k ≤ g ∧ s16 = .int .i64 ((a.getD 0 : Nat) : Int) ∧ s17 = .bool a.isSome ∧ (∃ q, q = s19) ∧ s47 = .int .i64 (k : Int) ∧ Hid (((ps.take k).filter (remK x qs)).foldl (remStep (T l) x) none = oN a) ∧ Hid (∀ b, a = some b → b < r) ∧ Hid (Below V.heap.size V wr))
  case atStart => exact ⟨0, none, by omega, by omega, rfl, rfl, ⟨_, rfl⟩, rfl, HA0, HN0, HS0⟩
  case round =>
    clear HA0 HN0 HS0
    obtain ⟨k, a, hk, hkg, rfl, rfl, ⟨u19, rfl⟩, rfl, HA, HN, HS⟩ := hrel
    by_cases hkl : k < M
    · have k0 : (0 : Int) ≤ (k : Int) := by omega
      have k1 : (k : Int) < (M : Int) := by omega
      obtain ⟨z', hz'⟩ : ∃ z, ps[k]? = some z := ⟨_, List.getElem?_eq_getElem (by have := HM.out; omega)⟩
      obtain ⟨z, rfl, hz⟩ := HPM.out k z' hz'
      obtain ⟨pb, po, rfl, hpb, hpc⟩ := HPR.out k _ hz'
      have e1 := carry HS.out hpc
      have HSN := Lib.hid (rem_snoc (t := T l) (s := (x : Int)) (q := qs) hz')
      clear hpc hz'
      by_cases hzx : z = x
      · have HA2 : Hid (((ps.take (k + 1)).filter (remK x qs)).foldl (remStep (T l) x) none = oN a) := by
          show _ = _; rw [HSN.out, if_neg (by unfold remK; subst hzx; simp)]; exact HA.out
        have n1 : ((z : Int) != (x : Int)) = false := by subst hzx; simp
        clear HSN HA
        go_wp2_with fail
        go_quiet (fail)
        go_wp2_with fail
        go_roundg (M - (k + 1))
        case measure => omega
        case rel => exact ⟨k + 1, a, by omega, Nat.le_refl _, rfl, rfl, ⟨_, rfl⟩, by go_num, HA2, HN, below_drewN HS.out _⟩
      · have n1 : ((z : Int) != (x : Int)) = true := by simp; omega
        have n2 : ((z : Int) == (x : Int)) = false := by simp; omega
        by_cases hq : (z : Int) ∈ qs
        · have t1 : decide ((z : Int) ∈ qs) = true := decide_eq_true hq
          have HK : Hid (remK x qs z = true) := by show _ = _; unfold remK; rw [n2]; simpa using hq
          have HCT : Hid (∀ (z' : Nat) W, Below V.heap.size V W → z' = z → Calls Try.prog 40 #[.slice qa qn qc, .int .i64 (z' : Int)] W fun e w' => e = .returned (.bool true) ∧ w' = W) := fun z' W hW hzz => by subst hzz; have := HCT.out z' W hW; rw [t1] at this; exact this
          clear t1 hq n2
          have z0 : (0 : Int) ≤ (z : Int) := by omega
          have z1 : (z : Int) < (r : Int) := by omega
          cases a with
          | none =>
            have HA2 : Hid (((ps.take (k + 1)).filter (remK x qs)).foldl (remStep (T l) x) none = oN (some z)) := by show _ = _; rw [HSN.out, if_pos HK.out, HA.out]; rfl
            have HN2 : Hid (∀ b, (some z : Option Nat) = some b → b < r) := fun b h => by cases h; exact hz
            have i0 : (none : Option Nat).isSome = false := rfl
            simp only [i0, Option.getD_none]
            clear HSN HA HK HN
            go_wp2_with fail
            go_quiet (first | (go_at_call 40; refine Calls.quiet_of_same (HCT.out z _ (below_drewN HS.out _) rfl)))
            go_wp2_with fail
            go_roundg (M - (k + 1))
            case measure => omega
            case rel => exact ⟨k + 1, some z, by omega, Nat.le_refl _, rfl, rfl, ⟨_, rfl⟩, by go_num, HA2, HN2, below_drewN HS.out _⟩
          | some b =>
            have hb := HN.out b rfl
            obtain ⟨g1, p1, c1, r1, _, r2, r3⟩ := (HDT.out.below HS.out).rows x hx
            have d3 := r3 z hz
            have d4 := r3 b hb
            clear r3
            obtain ⟨t1, ht1⟩ : ∃ t, T l (x : Int) (z : Int) = t := ⟨_, rfl⟩
            obtain ⟨t2, ht2⟩ : ∃ t, T l (x : Int) (b : Int) = t := ⟨_, rfl⟩
            have HSX : Hid (((ps.take (k + 1)).filter (remK x qs)).foldl (remStep (T l) x) none = if t1 < t2 then some (z : Int) else some (b : Int)) := by show _ = _; rw [HSN.out, if_pos HK.out, HA.out, ← ht1, ← ht2]; rfl
            rw [ht1] at d3
            rw [ht2] at d4
            have b0 : (0 : Int) ≤ (b : Int) := by omega
            have b1 : (b : Int) < (r : Int) := by omega
            have i1 : (some b : Option Nat).isSome = true := rfl
            simp only [i1, Option.getD_some]
            clear ht1 ht2 HSN HA HK
            by_cases hlt : t1 < t2
            · have HA2 : Hid (((ps.take (k + 1)).filter (remK x qs)).foldl (remStep (T l) x) none = oN (some z)) := by have := HSX.out; rw [if_pos hlt] at this; exact this
              have HN2 : Hid (∀ b, (some z : Option Nat) = some b → b < r) := fun b h => by cases h; exact hz
              have l1 : decide (t1 < t2) = true := decide_eq_true hlt
              clear HSX HN
              go_wp2_with fail
              go_quiet (first | (go_at_call 40; refine Calls.quiet_of_same (HCT.out z _ (below_drewN HS.out _) rfl)))
              go_wp2_with fail
              go_roundg (M - (k + 1))
              case measure => omega
              case rel => exact ⟨k + 1, some z, by omega, Nat.le_refl _, rfl, rfl, ⟨_, rfl⟩, by go_num, HA2, HN2, below_drewN HS.out _⟩
            · have HA2 : Hid (((ps.take (k + 1)).filter (remK x qs)).foldl (remStep (T l) x) none = oN (some b)) := by have := HSX.out; rw [if_neg hlt] at this; exact this
              have l1 : decide (t1 < t2) = false := decide_eq_false hlt
              clear HSX
              go_wp2_with fail
              go_quiet (first | (go_at_call 40; refine Calls.quiet_of_same (HCT.out z _ (below_drewN HS.out _) rfl)))
              go_wp2_with fail
              go_roundg (M - (k + 1))
              case measure => omega
              case rel => exact ⟨k + 1, some b, by omega, Nat.le_refl _, rfl, rfl, ⟨_, rfl⟩, by go_num, HA2, HN, below_drewN HS.out _⟩
        · have t1 : decide ((z : Int) ∈ qs) = false := decide_eq_false hq
          have HA2 : Hid (((ps.take (k + 1)).filter (remK x qs)).foldl (remStep (T l) x) none = oN a) := by
            show _ = _; rw [HSN.out, if_neg (by unfold remK; simpa using fun _ => hq)]; exact HA.out
          have HCT : Hid (∀ (z' : Nat) W, Below V.heap.size V W → z' = z → Calls Try.prog 40 #[.slice qa qn qc, .int .i64 (z' : Int)] W fun e w' => e = .returned (.bool false) ∧ w' = W) := fun z' W hW hzz => by subst hzz; have := HCT.out z' W hW; rw [t1] at this; exact this
          clear HSN HA t1 hq n2
          go_wp2_with fail
          go_quiet (first | (go_at_call 40; refine Calls.quiet_of_same (HCT.out z _ (below_drewN HS.out _) rfl)))
          go_wp2_with fail
          go_roundg (M - (k + 1))
          case measure => omega
          case rel => exact ⟨k + 1, a, by omega, Nat.le_refl _, rfl, rfl, ⟨_, rfl⟩, by go_num, HA2, HN, below_drewN HS.out _⟩
    · have k1 : decide ((k : Int) < (M : Int)) = false := decide_eq_false (by omega)
      have HF : Hid (rf = oN a) := by
        have h1 := HA.out
        rw [List.take_of_length_le (by have := HM.out; omega)] at h1
        show _ = _
        rw [HRF.out]; exact h1
      have HBF := Lib.hid (below_then HBV.out HS.out)
      clear HS HA
      go_wp2
      go_ret3
      exact ⟨by rw [HF.out]; cases a <;> rfl, HBF.out⟩
theorem rrm_any (R N : Int) (l : List E) (s : Value) (x y : Int) (w : World) (hR : I64 R) (hN : I64 N) (hr : Rd3 w s l) (hf : FitT l) (hx : I64 x) (hy : I64 y) :
    Calls Try.prog 33 #[.agg #[.int .i64 R, .int .i64 N, s], .int .i64 x, .int .i64 y] w fun e w' => e = .returned (.tuple #[.int .i64 ((rmO R N l x y).getD 0), .bool (rmO R N l x y).isSome, .int .i64 (lkE R N l x y)]) ∧ Below w.heap.size w w' := by
  by_cases h : lkE R N l x y = 0
  · obtain ⟨h1, rfl, h3, h4, h5⟩ := lkE_ok h
    obtain ⟨r, rfl⟩ : ∃ r : Nat, R = (r : Int) := ⟨R.toNat, by omega⟩
    obtain ⟨a, rfl⟩ : ∃ a : Nat, x = (a : Int) := ⟨x.toNat, by omega⟩
    obtain ⟨b, rfl⟩ : ∃ b : Nat, y = (b : Int) := ⟨y.toNat, by omega⟩
    have := rrm_ok r l s a b (lkC (r : Int) 0 l a b) w (chk_iff.1 h1) hr hf (by omega) (by omega) h rfl (lkC_small h) (psF (r : Int) 0 l a b) (qsF (r : Int) 0 l a b) (by unfold psF; rw [if_pos h, Int.toNat_natCast]) (by unfold qsF; rw [if_pos h, Int.toNat_natCast])
    unfold rmO
    rw [if_pos h, h]
    exact this
  · unfold rmO
    rw [if_neg h]
    exact rrm_err R N l s x y w hR hN hr hf hx hy h
end Go.Proofs.Ytmbogobebllheaa
