/-
  The walk of the law Remote.
-/
import Derived.Test.YtmbogobebllheaaMra
import Derived.Test.YtmbogobebllheaaMm
import Derived.Deep.RegionHeld3
import Derived.Test.YtmbogobebllheaaMy
import Derived.BigQuiet
namespace Go.Proofs.Ytmbogobebllheaa
open Go.RowKit HM GM SP Go.Lib
set_option linter.unusedSimpArgs false
set_option linter.unusedVariables false
set_option maxHeartbeats 4000000
set_option maxRecDepth 100000
theorem below_undrew {B : Nat} {a w : World} (h : Below B a.drew w) : Below B a w := ⟨h.os, h.tape, h.output, h.size, h.block⟩
theorem remF_mem {t : Int → Int → Int} {s : Int} {p q : List Int} {v : Int} (h : remF t s p q = some v) : v ∈ p ∧ v ∈ q ∧ v ≠ s := by
  have key : ∀ (r : List Int) (acc : Option Int), (∀ b, acc = some b → b ∈ p ∧ b ∈ q ∧ b ≠ s) → (∀ y ∈ r, y ∈ p ∧ y ∈ q ∧ y ≠ s) → ∀ b, r.foldl (remStep t s) acc = some b → b ∈ p ∧ b ∈ q ∧ b ≠ s := by
    intro r
    induction r with
    | nil => intro acc ha _ b hb; exact ha b hb
    | cons y r ih =>
      intro acc ha hr b hb
      refine ih (remStep t s acc y) (fun b' hb' => ?_) (fun z hz => hr z (by simp [hz])) b hb
      have hy := hr y (by simp)
      cases acc with
      | none => simp [remStep] at hb'; subst hb'; exact hy
      | some b0 =>
        unfold remStep at hb'
        dsimp only at hb'
        split at hb' <;> (cases hb'; first | exact hy | exact ha _ rfl)
  refine key _ none (fun b hb => by cases hb) (fun y hy => ?_) v h
  obtain ⟨h1, h2⟩ := List.mem_filter.1 hy
  simp at h2
  exact ⟨h1, h2.2, h2.1⟩
namespace GM
theorem mem_putE {x y : E} : ∀ {l : List E}, y ∈ putE x l ↔ y = x ∨ y ∈ l
  | [] => by simp [putE]
  | z :: r => by
    unfold putE
    split
    · simp
    · simp only [List.mem_cons, mem_putE (l := r)]
      constructor
      · rintro (h | h | h)
        · exact .inr (.inl h)
        · exact .inl h
        · exact .inr (.inr h)
      · rintro (h | h | h)
        · exact .inr (.inl h)
        · exact .inl h
        · exact .inr (.inr h)
theorem putE_srt {x : E} : ∀ {l : List E}, SrtE l → SrtE (putE x l) ∧ Stb (l ++ [x]) (putE x l)
  | [], _ => ⟨List.pairwise_singleton _ _, Stb.refl _⟩
  | y :: r, h => by
    obtain ⟨h1, h2⟩ := List.pairwise_cons.1 h
    unfold putE
    split
    · rename_i hb
      have hall : ∀ z ∈ y :: r, bef x z = true := fun z hz => by
        rcases List.mem_cons.1 hz with rfl | hz
        · exact hb
        · exact lt_le hb (h1 z hz)
      have := MergeP.one_right (u1 := []) (u2 := y :: r) h (fun z hz => by cases hz) hall
      exact ⟨by simpa using this.srt, by simpa using this.stb⟩
    · rename_i hb
      have hb' : bef x y = false := by simpa using hb
      have ih := putE_srt (x := x) h2
      refine ⟨List.pairwise_cons.2 ⟨fun z hz => ?_, ih.1⟩, ?_⟩
      · rcases mem_putE.1 hz with rfl | hz
        · exact hb'
        · exact h1 z hz
      · have := (Stb.refl [y]).app ih.2
        simpa using this
end GM
theorem sorted_ex (l : List E) : ∃ o, SrtE o ∧ Stb l o := by
  have key : ∀ (r a : List E), SrtE a → ∃ o, SrtE o ∧ Stb (a ++ r) o := by
    intro r
    induction r with
    | nil => intro a ha; exact ⟨a, ha, by rw [List.append_nil]; exact Stb.refl _⟩
    | cons x r ih =>
      intro a ha
      obtain ⟨h1, h2⟩ := putE_srt (x := x) ha
      obtain ⟨o, h3, h4⟩ := ih (putE x a) h1
      refine ⟨o, h3, ?_⟩
      have : Stb (a ++ x :: r) (putE x a ++ r) := by
        have e : a ++ x :: r = (a ++ [x]) ++ r := by simp
        rw [e]
        exact Stb.app h2 (Stb.refl _)
      exact Stb.trans this h4
  exact key l [] List.Pairwise.nil
theorem rem_num {r : Nat} {l : List E} {x y : Int} (hE : lkE (r : Int) 0 l x y = 0) {v : Int} (h : rmO (r : Int) 0 l x y = some v) : (0 ≤ v ∧ v < r) ∧ v ≠ x ∧ T (cutL l x y) x v = T l x v ∧ 0 ≤ T l x v ∧ T (cutL l x y) v y = T l v y ∧ 0 ≤ T l v y := by
  have hv := chk_iff.1 (lkE_ok hE).1
  have hcst := (lkE_ok hE).2.2.2.2
  have hce : (x, y, lkC (r : Int) 0 l x y) ∈ l := by
    unfold lkC
    rw [if_pos hE]
    exact cstF_mem hcst
  unfold rmO at h
  rw [if_pos hE] at h
  obtain ⟨h1, h2, h3⟩ := remF_mem h
  unfold psF at h1
  unfold qsF at h2
  rw [if_pos hE, Int.toNat_natCast, mem_rowF] at h1 h2
  obtain ⟨h4, h5⟩ := h1
  obtain ⟨_, h6⟩ := h2
  have hp : InP l x y (lkC (r : Int) 0 l x y) v := by
    unfold spB at h5; unfold InP; simpa using h5
  have hq : InQ l x y (lkC (r : Int) 0 l x y) v := by
    unfold sqB at h6; unfold InQ; simpa using h6
  obtain ⟨a1, a2⟩ := cut_p hv hce hp
  obtain ⟨o, ho⟩ := sorted_ex (l.map flp)
  obtain ⟨b1, b2⟩ := cut_q hv (valid_rev hv ho) (rev_of ho.2) hce hq
  exact ⟨⟨by omega, by omega⟩, h3, a1, by omega, b1, by omega⟩
theorem rmt_big (R N : Int) (l : List E) (s : Value) (x y : Int) (w : World) (hr : Rd3 w s l) (h : lgF R N l.length = true) :
    Calls Try.prog 8 #[.agg #[.int .i64 R, .int .i64 N, s], .int .i64 x, .int .i64 y] w fun e w' => e = .returned (.bool true) ∧ Below w.heap.size w w' := by
  obtain ⟨ad, cap, hform⟩ := rd3_slice hr
  obtain ⟨L, hL⟩ : ∃ L, l.length = L := ⟨_, rfl⟩
  rw [hL] at hform
  subst hform
  have HB0 := Lib.hid (below_alloc w (.cells #[.int .i64 R, .int .i64 N, .slice ad L cap] 27))
  have HX0 : Hid ((w.alloc (.cells #[.int .i64 R, .int .i64 N, .slice ad L cap] 27)).heap[w.heap.size]? = some (.cells #[.int .i64 R, .int .i64 N, .slice ad L cap] 27 (0, 0))) := heap_alloc_new _ _
  rw [hL] at h
  clear hr hL
  go_enter Try.func8, Try.ntmps8
  go_wp2_with fail
  go_at_call 24
  refine (large_any R N ad L cap _).mono ?_
  rintro e w1 ⟨rfl, hb⟩
  rw [h]
  have HB1 := Lib.hid (below_then HB0.out hb)
  clear hb HX0 HB0
  go_wp2_with fail
  go_at_call 17
  refine (awake_any _).mono ?_
  rintro e w2 ⟨rfl, hb⟩
  have HB2 := Lib.hid (below_then HB1.out hb)
  clear hb
  go_wp2
  go_ret
  exact ⟨rfl, HB2.out⟩
theorem rmt_no (R N : Int) (l : List E) (s : Value) (x y : Int) (w : World) (hR : I64 R) (hN : I64 N) (hr : Rd3 w s l) (h : lgF R N l.length = false) (hne : lkE R N l x y ≠ 0 ∨ (rmO R N l x y).isSome = false) :
    Calls Try.prog 8 #[.agg #[.int .i64 R, .int .i64 N, s], .int .i64 x, .int .i64 y] w fun e w' => e = .returned (.bool true) ∧ Below w.heap.size w w' := by
  have HRM : Hid (∀ W, Below w.heap.size w W → Calls Try.prog 30 #[.agg #[.int .i64 R, .int .i64 N, s], .int .i64 x, .int .i64 y] W fun e w' => e = .returned (.tuple #[.int .i64 ((rmO R N l x y).getD 0), .bool (rmO R N l x y).isSome, .int .i64 (lkE R N l x y)]) ∧ Below W.heap.size W w') := fun W hW => rm_any R N l s x y W hR hN (hr.below hW)
  obtain ⟨ad, cap, hform⟩ := rd3_slice hr
  obtain ⟨L, hL⟩ : ∃ L, l.length = L := ⟨_, rfl⟩
  rw [hL] at hform
  subst hform
  have HB0 := Lib.hid (below_alloc w (.cells #[.int .i64 R, .int .i64 N, .slice ad L cap] 27))
  have HX0 : Hid ((w.alloc (.cells #[.int .i64 R, .int .i64 N, .slice ad L cap] 27)).heap[w.heap.size]? = some (.cells #[.int .i64 R, .int .i64 N, .slice ad L cap] 27 (0, 0))) := heap_alloc_new _ _
  rw [hL] at h
  generalize (rmO R N l x y).getD 0 = rv at *
  generalize (rmO R N l x y).isSome = rb at *
  generalize lkE R N l x y = er at *
  have hcs : (er != 0) = true ∨ ((er != 0) = false ∧ rb = false) := by
    by_cases he : er = 0
    · right
      exact ⟨by simp [he], hne.elim (fun k => absurd he k) id⟩
    · left; simpa using he
  clear hr hL hne
  go_enter Try.func8, Try.ntmps8
  go_wp2_with fail
  go_at_call 24
  refine (large_any R N ad L cap _).mono ?_
  rintro e w1 ⟨rfl, hb⟩
  rw [h]
  have HB1 := Lib.hid (below_then HB0.out hb)
  have HX1 := Lib.hid ((hb.block _ (lt_block HX0.out)).trans HX0.out)
  have q0 : w1.cell? ⟨w.heap.size, 0, none⟩ = some (.int .i64 R) := cell_of HX1.out rfl
  have q1 : w1.cell? ⟨w.heap.size, 1, none⟩ = some (.int .i64 N) := cell_of HX1.out rfl
  have q2 : w1.cell? ⟨w.heap.size, 2, none⟩ = some (.slice ad L cap) := cell_of HX1.out rfl
  clear hb HX0 HB0
  go_wp2_with fail
  go_at_call 30
  refine (HRM.out _ HB1.out).mono ?_
  rintro e w2 ⟨rfl, hb⟩
  have HB2 := Lib.hid (below_then HB1.out hb)
  clear hb HRM q0 q1 q2
  rcases hcs with n1 | ⟨n1, rfl⟩
  · go_wp2_with fail
    go_at_call 17
    refine (awake_any _).mono ?_
    rintro e w3 ⟨rfl, hb⟩
    have HB3 := Lib.hid (below_then HB2.out hb)
    clear hb
    go_wp2
    go_ret
    exact ⟨rfl, HB3.out⟩
  · go_wp2_with fail
    go_at_call 17
    refine (awake_any _).mono ?_
    rintro e w3 ⟨rfl, hb⟩
    have HB3 := Lib.hid (below_then HB2.out hb)
    clear hb
    go_wp2
    go_ret
    exact ⟨rfl, HB3.out⟩
theorem rmt_ok (r x y v : Nat) (l : List E) (s : Value) (w : World) (hr : Rd3 w s l) (hf : FitT l) (hE : lkE (r : Int) 0 l x y = 0) (hm : rmO (r : Int) 0 l x y = some (v : Int)) (h : lgF (r : Int) 0 l.length = false) :
    Calls Try.prog 8 #[.agg #[.int .i64 (r : Int), .int .i64 0, s], .int .i64 (x : Int), .int .i64 (y : Int)] w fun e w' => e = .returned (.bool true) ∧ Below w.heap.size w w' := by
  obtain ⟨hck, _, hxr, hyr, _⟩ := lkE_ok hE
  have hv := chk_iff.1 hck
  have hS := hv.s
  have hI : I64 (r : Int) := by unfold I64; omega
  have hI0 : I64 (0 : Int) := by unfold I64; omega
  obtain ⟨hvr, hvx, hc1, hc2, hc3, hc4⟩ := rem_num hE hm
  have hx : x < r := by omega
  have hy : y < r := by omega
  have hvv : v < r := by omega
  have HRM : Hid (∀ W, Below w.heap.size w W → Calls Try.prog 30 #[.agg #[.int .i64 (r : Int), .int .i64 0, s], .int .i64 (x : Int), .int .i64 (y : Int)] W fun e w' => e = .returned (.tuple #[.int .i64 (v : Int), .bool true, .int .i64 0]) ∧ Below W.heap.size W w') := fun W hW => by
    have := rm_any (r : Int) 0 l s x y W hI hI0 (hr.below hW)
    rw [hm, hE] at this
    exact this
  have HCK : Hid (∀ W, Below w.heap.size w W → Calls Try.prog 37 #[.agg #[.int .i64 (r : Int), .int .i64 0, s]] W fun e w' => e = .returned (.int .i64 0) ∧ Below W.heap.size W w') := fun W hW => by
    have := rcheck_any (r : Int) 0 s l W hI hI0 (hr.below hW) hf
    rwa [hck] at this
  have hAll : ∀ (l' : List E) (s' : Value) W, Valid (r : Int) 0 l' → FitT l' → Rd3 W s' l' → Calls Try.prog 41 #[.agg #[.int .i64 (r : Int), .int .i64 0, s']] W fun e w' => ∃ v, e = .returned (.tuple #[v, .int .i64 0]) ∧ RdR w' v (gT (allRow l' r) r r) ∧ Below W.heap.size W w' := fun l' s' W hv' hf' hr' => by
    refine (rall_any (r : Int) 0 l' s' W hI hI0 hr' hf').mono ?_
    rintro e w' ⟨rows, er, v, rfl, h1, h2, h3⟩
    rcases h2 with ⟨a1, _⟩ | ⟨_, rfl, q, a3, rfl⟩
    · exact absurd (chk_iff.2 hv') a1
    · obtain rfl : r = q := by omega
      exact ⟨v, rfl, h1, h3⟩
  have HAll : Hid (∀ W, Below w.heap.size w W → Calls Try.prog 41 #[.agg #[.int .i64 (r : Int), .int .i64 0, s]] W fun e w' => ∃ v, e = .returned (.tuple #[v, .int .i64 0]) ∧ RdR w' v (gT (allRow l r) r r) ∧ Below W.heap.size W w') := fun W hW => hAll l s W hv hf (hr.below hW)
  have HCut : Hid (∀ W, Below w.heap.size w W → Calls Try.prog 42 #[.agg #[.int .i64 (r : Int), .int .i64 0, s], .int .i64 (x : Int), .int .i64 (y : Int)] W fun e w' => ∃ s', e = .returned (.agg #[.int .i64 (r : Int), .int .i64 0, s']) ∧ Rd3 w' s' (cutL l x y) ∧ Below W.heap.size W w') := fun W hW => rcut_any (r : Int) 0 l x y s W (by unfold Fits; have := hv.len; omega) (hr.below hW)
  have HAll2 : Hid (∀ s' W, Rd3 W s' (cutL l x y) → Calls Try.prog 41 #[.agg #[.int .i64 (r : Int), .int .i64 0, s']] W fun e w' => ∃ v, e = .returned (.tuple #[v, .int .i64 0]) ∧ RdR w' v (gT (allRow (cutL l x y) r) r r) ∧ Below W.heap.size W w') := fun s' W hr' => hAll (cutL l x y) s' W (valid_sub hv (cutL_sub l x y)) (fun e he => hf e ((cutL_sub l x y).subset he)) hr'
  have hr8 : r ≤ 128 := by omega
  obtain ⟨ad, cap, hform⟩ := rd3_slice hr
  obtain ⟨L, hL⟩ : ∃ L, l.length = L := ⟨_, rfl⟩
  rw [hL] at hform
  subst hform
  have HB0 := Lib.hid (below_alloc w (.cells #[.int .i64 (r : Int), .int .i64 0, .slice ad L cap] 27))
  have HX0 : Hid ((w.alloc (.cells #[.int .i64 (r : Int), .int .i64 0, .slice ad L cap] 27)).heap[w.heap.size]? = some (.cells #[.int .i64 (r : Int), .int .i64 0, .slice ad L cap] 27 (0, 0))) := heap_alloc_new _ _
  rw [hL] at h
  clear hr hL hv hS hI hI0 hf hAll hE hm hck hxr hyr hvr
  go_enter Try.func8, Try.ntmps8
  go_wp2_with fail
  go_at_call 24
  refine (large_any (r : Int) 0 ad L cap _).mono ?_
  rintro e w1 ⟨rfl, hb⟩
  rw [h]
  have HB1 := Lib.hid (below_then HB0.out hb)
  have HX1 := Lib.hid ((hb.block _ (lt_block HX0.out)).trans HX0.out)
  have q0 : w1.cell? ⟨w.heap.size, 0, none⟩ = some (.int .i64 (r : Int)) := cell_of HX1.out rfl
  have q1 : w1.cell? ⟨w.heap.size, 1, none⟩ = some (.int .i64 0) := cell_of HX1.out rfl
  have q2 : w1.cell? ⟨w.heap.size, 2, none⟩ = some (.slice ad L cap) := cell_of HX1.out rfl
  clear hb HX0 HB0 h
  go_wp2_with fail
  go_at_call 30
  refine (HRM.out _ HB1.out).mono ?_
  rintro e w2 ⟨rfl, hb⟩
  have HB2 := Lib.hid (below_then HB1.out hb)
  have HX2 := Lib.hid ((hb.block _ (lt_block HX1.out)).trans HX1.out)
  clear hb HRM HB1 HX1 q0 q1 q2
  have q0 : w2.cell? ⟨w.heap.size, 0, none⟩ = some (.int .i64 (r : Int)) := cell_of HX2.out rfl
  have q1 : w2.cell? ⟨w.heap.size, 1, none⟩ = some (.int .i64 0) := cell_of HX2.out rfl
  have q2 : w2.cell? ⟨w.heap.size, 2, none⟩ = some (.slice ad L cap) := cell_of HX2.out rfl
  go_wp2_with fail
  go_at_call 37
  refine (HCK.out _ HB2.out).mono ?_
  rintro e w3 ⟨rfl, hb⟩
  have HB3 := Lib.hid (below_then HB2.out hb)
  have HX3 := Lib.hid ((hb.block _ (lt_block HX2.out)).trans HX2.out)
  clear hb HCK HB2 HX2 q0 q1 q2
  have q0 : w3.cell? ⟨w.heap.size, 0, none⟩ = some (.int .i64 (r : Int)) := cell_of HX3.out rfl
  have q1 : w3.cell? ⟨w.heap.size, 1, none⟩ = some (.int .i64 0) := cell_of HX3.out rfl
  have q2 : w3.cell? ⟨w.heap.size, 2, none⟩ = some (.slice ad L cap) := cell_of HX3.out rfl
  go_wp2_with fail
  go_at_call 38
  refine (lnode_any r v _ _ hvv hr8).mono ?_
  rintro e w4 ⟨rfl, hb⟩
  have HB4 := Lib.hid (below_then HB3.out hb)
  have HX4 := Lib.hid ((hb.block _ (lt_block HX3.out)).trans HX3.out)
  clear hb HB3 HX3 q0 q1 q2
  have q0 : w4.cell? ⟨w.heap.size, 0, none⟩ = some (.int .i64 (r : Int)) := cell_of HX4.out rfl
  have q1 : w4.cell? ⟨w.heap.size, 1, none⟩ = some (.int .i64 0) := cell_of HX4.out rfl
  have q2 : w4.cell? ⟨w.heap.size, 2, none⟩ = some (.slice ad L cap) := cell_of HX4.out rfl
  go_wp2_with fail
  go_at_call 38
  refine (lnode_any r x _ _ hx hr8).mono ?_
  rintro e w5 ⟨rfl, hb⟩
  have HB5 := Lib.hid (below_then HB4.out hb)
  have HX5 := Lib.hid ((hb.block _ (lt_block HX4.out)).trans HX4.out)
  clear hb HB4 HX4 q0 q1 q2
  have q0 : w5.cell? ⟨w.heap.size, 0, none⟩ = some (.int .i64 (r : Int)) := cell_of HX5.out rfl
  have q1 : w5.cell? ⟨w.heap.size, 1, none⟩ = some (.int .i64 0) := cell_of HX5.out rfl
  have q2 : w5.cell? ⟨w.heap.size, 2, none⟩ = some (.slice ad L cap) := cell_of HX5.out rfl
  go_wp2_with fail
  go_at_call 38
  refine (lnode_any r y _ _ hy hr8).mono ?_
  rintro e w6 ⟨rfl, hb⟩
  have HB6 := Lib.hid (below_then HB5.out hb)
  have HX6 := Lib.hid ((hb.block _ (lt_block HX5.out)).trans HX5.out)
  clear hb HB5 HX5 q0 q1 q2
  have q0 : w6.cell? ⟨w.heap.size, 0, none⟩ = some (.int .i64 (r : Int)) := cell_of HX6.out rfl
  have q1 : w6.cell? ⟨w.heap.size, 1, none⟩ = some (.int .i64 0) := cell_of HX6.out rfl
  have q2 : w6.cell? ⟨w.heap.size, 2, none⟩ = some (.slice ad L cap) := cell_of HX6.out rfl
  go_wp2_with fail
  go_at_call 41
  refine (HAll.out _ HB6.out).mono ?_
  rintro e w7 ⟨bv, rfl, hrd, hb⟩
  have HB7 := Lib.hid (below_then HB6.out hb)
  have HX7 := Lib.hid ((hb.block _ (lt_block HX6.out)).trans HX6.out)
  clear q0 q1 q2
  have q0 : w7.cell? ⟨w.heap.size, 0, none⟩ = some (.int .i64 (r : Int)) := cell_of HX7.out rfl
  have q1 : w7.cell? ⟨w.heap.size, 1, none⟩ = some (.int .i64 0) := cell_of HX7.out rfl
  have q2 : w7.cell? ⟨w.heap.size, 2, none⟩ = some (.slice ad L cap) := cell_of HX7.out rfl
  obtain ⟨bb, bo, bc, hbv, hbc, hbt⟩ := DT.of hrd (allT_tb l r).1 (allT_tb l r).2 (by omega)
  subst hbv
  have HBT := Lib.hid hbt
  clear hb HAll HB6 HX6 hrd hbt
  go_wp2_with fail
  go_at_call 42
  refine (HCut.out _ HB7.out).mono ?_
  rintro e w8 ⟨cs, rfl, hcr, hb⟩
  have HB8 := Lib.hid (below_then HB7.out hb)
  have HBT8 := Lib.hid (HBT.out.below hb)
  have HCR := Lib.hid hcr
  obtain ⟨ca, cc, hcf⟩ := rd3_slice hcr
  subst hcf
  generalize (cutL l (x : Int) (y : Int)).length = CL at *
  clear hb HCut HB7 HX7 HBT hcr q0 q1 q2
  go_wp2_with fail
  go_at_call 41
  refine (HAll2.out _ _ HCR.out).mono ?_
  rintro e X ⟨av, rfl, hrd, hb⟩
  have HBX := Lib.hid (below_then HB8.out hb)
  have HBTX := Lib.hid (HBT8.out.below hb)
  obtain ⟨ab, ao, ac, hav, hac, hat⟩ := DT.of hrd (allT_tb (cutL l (x : Int) (y : Int)) r).1 (allT_tb (cutL l (x : Int) (y : Int)) r).2 (by omega)
  subst hav
  have HAT := Lib.hid hat
  clear hb HAll2 HB8 HBT8 hrd hat HCR
  obtain ⟨t1, ht1⟩ : ∃ t, T l (x : Int) (v : Int) = t := ⟨_, rfl⟩
  obtain ⟨t2, ht2⟩ : ∃ t, T l (v : Int) (y : Int) = t := ⟨_, rfl⟩
  rw [ht1] at hc1 hc2
  rw [ht2] at hc3 hc4
  have HCELL : Hid (∀ W, Below X.heap.size X W → ∃ g1 p1 c1 g2 p2 c2 g3 p3 c3 g4 p4 c4, (W.cell? ⟨ab, ao + x, none⟩ = some (.slice (some ⟨g1, p1, none⟩) r c1) ∧ W.cell? ⟨g1, p1 + v, none⟩ = some (.int .i64 t1)) ∧ (W.cell? ⟨bb, bo + x, none⟩ = some (.slice (some ⟨g2, p2, none⟩) r c2) ∧ W.cell? ⟨g2, p2 + v, none⟩ = some (.int .i64 t1)) ∧ (W.cell? ⟨ab, ao + v, none⟩ = some (.slice (some ⟨g3, p3, none⟩) r c3) ∧ W.cell? ⟨g3, p3 + y, none⟩ = some (.int .i64 t2)) ∧ (W.cell? ⟨bb, bo + v, none⟩ = some (.slice (some ⟨g4, p4, none⟩) r c4) ∧ W.cell? ⟨g4, p4 + y, none⟩ = some (.int .i64 t2)) ∧ (r ≤ c1 ∧ r ≤ c2 ∧ r ≤ c3 ∧ r ≤ c4)) := fun W hW => by
    obtain ⟨g1, p1, c1, k1, _, k2, k3⟩ := (HAT.out.below hW).rows x hx
    obtain ⟨g2, p2, c2, l1, _, l2, l3⟩ := (HBTX.out.below hW).rows x hx
    obtain ⟨g3, p3, c3, m1, _, m2, m3⟩ := (HAT.out.below hW).rows v hvv
    obtain ⟨g4, p4, c4, n1, _, n2, n3⟩ := (HBTX.out.below hW).rows v hvv
    refine ⟨g1, p1, c1, g2, p2, c2, g3, p3, c3, g4, p4, c4, ⟨k1, by rw [k3 v hvv, hc1]⟩, ⟨l1, by rw [l3 v hvv, ht1]⟩, ⟨m1, by rw [m3 y hy, hc3]⟩, ⟨n1, by rw [n3 y hy, ht2]⟩, k2, l2, m2, n2⟩
  obtain ⟨g1, p1, c1, g2, p2, c2, g3, p3, c3, g4, p4, c4, ⟨k1, k2⟩, ⟨l1, l2⟩, ⟨m1, m2⟩, ⟨n1, n2⟩, e1, e2, e3, e4⟩ := HCELL.out X (Below.refl _ _)
  have HKP : Hid (∀ W, Below X.heap.size X W → W.cell? ⟨ab, ao + x, none⟩ = some (.slice (some ⟨g1, p1, none⟩) r c1) ∧ W.cell? ⟨g1, p1 + v, none⟩ = some (.int .i64 t1) ∧ W.cell? ⟨bb, bo + x, none⟩ = some (.slice (some ⟨g2, p2, none⟩) r c2) ∧ W.cell? ⟨g2, p2 + v, none⟩ = some (.int .i64 t1) ∧ W.cell? ⟨ab, ao + v, none⟩ = some (.slice (some ⟨g3, p3, none⟩) r c3) ∧ W.cell? ⟨g3, p3 + y, none⟩ = some (.int .i64 t2) ∧ W.cell? ⟨bb, bo + v, none⟩ = some (.slice (some ⟨g4, p4, none⟩) r c4) ∧ W.cell? ⟨g4, p4 + y, none⟩ = some (.int .i64 t2) ∧ Below X.heap.size X W) := fun W hW => ⟨carry hW k1, carry hW k2, carry hW l1, carry hW l2, carry hW m1, carry hW m2, carry hW n1, carry hW n2, hW⟩
  have x0 : (0 : Int) ≤ (x : Int) := by omega
  have x1 : (x : Int) < (r : Int) := by omega
  have v0 : (0 : Int) ≤ (v : Int) := by omega
  have v1 : (v : Int) < (r : Int) := by omega
  have y0 : (0 : Int) ≤ (y : Int) := by omega
  have y1 : (y : Int) < (r : Int) := by omega
  have d1 : decide (0 ≤ t1) = true := decide_eq_true hc2
  have d2 : decide (0 ≤ t2) = true := decide_eq_true hc4
  have d3 : ((v : Int) != (x : Int)) = true := by simpa using hvx
  have hc2' : 0 ≤ t1 := hc2
  clear k1 k2 l1 l2 m1 m2 n1 n2 HCELL HAT HBTX ht1 ht2 hc1 hc3 hvx
  go_upto_region 10 with (fail)
  go_region_held3 (fun W => W.cell? ⟨ab, ao + x, none⟩ = some (.slice (some ⟨g1, p1, none⟩) r c1) ∧ W.cell? ⟨g1, p1 + v, none⟩ = some (.int .i64 t1) ∧ W.cell? ⟨bb, bo + x, none⟩ = some (.slice (some ⟨g2, p2, none⟩) r c2) ∧ W.cell? ⟨g2, p2 + v, none⟩ = some (.int .i64 t1) ∧ W.cell? ⟨ab, ao + v, none⟩ = some (.slice (some ⟨g3, p3, none⟩) r c3) ∧ W.cell? ⟨g3, p3 + y, none⟩ = some (.int .i64 t2) ∧ W.cell? ⟨bb, bo + v, none⟩ = some (.slice (some ⟨g4, p4, none⟩) r c4) ∧ W.cell? ⟨g4, p4 + y, none⟩ = some (.int .i64 t2) ∧ Below X.heap.size X W)
    (first | exact HKP.out _ (Below.refl _ X).drew | exact HKP.out _ ‹_› | assumption)
    (first
      | (go_at_call 17; refine (awake_any _).mono ?_; rintro e w9 ⟨rfl, hb⟩; have hk9 : Below X.heap.size X w9 := below_undrew hb; have HB9 := Lib.hid hk9; clear hb))
  go_wp2
  go_ret
  exact ⟨rfl, below_then HBX.out HB9.out⟩
theorem rmt_walk (R N : Int) (l : List E) (s : Value) (x y : Int) (w : World) (hR : I64 R) (hN : I64 N) (hr : Rd3 w s l) (hf : FitT l) (hx : I64 x) (hy : I64 y) :
    Calls Try.prog 8 #[.agg #[.int .i64 R, .int .i64 N, s], .int .i64 x, .int .i64 y] w fun e w' => e = .returned (.bool true) ∧ Below w.heap.size w w' := by
  cases hl : lgF R N l.length
  · by_cases h : lkE R N l x y = 0
    · cases hm : rmO R N l x y with
      | none => exact rmt_no R N l s x y w hR hN hr hl (.inr (by rw [hm]; rfl))
      | some v =>
        obtain ⟨h1, rfl, h3, h4, h5⟩ := lkE_ok h
        obtain ⟨r, rfl⟩ : ∃ r : Nat, R = (r : Int) := ⟨R.toNat, by omega⟩
        have hvn := (rem_num h hm).1
        obtain ⟨a, rfl⟩ : ∃ a : Nat, x = (a : Int) := ⟨x.toNat, by omega⟩
        obtain ⟨b, rfl⟩ : ∃ b : Nat, y = (b : Int) := ⟨y.toNat, by omega⟩
        obtain ⟨v', rfl⟩ : ∃ v' : Nat, v = (v' : Int) := ⟨v.toNat, by omega⟩
        exact rmt_ok r a b v' l s w hr hf h hm hl
    · exact rmt_no R N l s x y w hR hN hr hl (.inl h)
  · exact rmt_big R N l s x y w hr hl
end Go.Proofs.Ytmbogobebllheaa
