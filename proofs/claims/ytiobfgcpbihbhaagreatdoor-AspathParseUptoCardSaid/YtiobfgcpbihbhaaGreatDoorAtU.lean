/-
  The examples of the chapter; the walk of awake.
-/
import Derived.Test.YtiobfgcpbihbhaaGreatDoorAtT
import Derived.Test.YtiobfgcpbihbhaaGreatDoorAtC
import Derived.BigQuiet
namespace Go.Proofs.YtiobfgcpbihbhaaGreatDoor
open Go.RowKit P
set_option linter.unusedSimpArgs false
set_option linter.unusedVariables false
set_option maxHeartbeats 2000000
set_option maxRecDepth 100000
namespace P
def exP : List Sg := [⟨2, [65001, 65002]⟩, ⟨1, [65003, 65004]⟩]
def exQ : List Sg := [⟨2, [65001, 65004]⟩]
def exR : List Sg := [⟨2, [65001, 65002, 65003]⟩]
def exM : List Sg := [⟨2, [65001]⟩, ⟨1, [65002, 65003, 65004]⟩]
def exC : List Sg := [⟨3, [65010]⟩, ⟨2, [65001, 65004]⟩]
def txP : List UInt8 := [54, 53, 48, 48, 49, 32, 54, 53, 48, 48, 50, 32, 123, 54, 53, 48, 48, 51, 44, 54, 53, 48, 48, 52, 125]
def txQ : List UInt8 := [54, 53, 48, 48, 49, 32, 54, 53, 48, 48, 52]
def txR : List UInt8 := [54, 53, 48, 48, 49, 32, 54, 53, 48, 48, 50, 32, 54, 53, 48, 48, 51]
def txM : List UInt8 := [54, 53, 48, 48, 49, 32, 123, 54, 53, 48, 48, 50, 44, 54, 53, 48, 48, 51, 44, 54, 53, 48, 48, 52, 125]
def txC : List UInt8 := [40, 54, 53, 48, 49, 48, 41, 32, 54, 53, 48, 48, 49, 32, 54, 53, 48, 48, 52]
theorem text_exP : P.text exP = txP := by simp [exP, txP, text, parts, partsF, word, decs, Lib.itoa, Lib.decDigits, Lib.join, List.intercalate]
theorem text_exQ : P.text exQ = txQ := by simp [exQ, txQ, text, parts, partsF, word, decs, Lib.itoa, Lib.decDigits, Lib.join, List.intercalate]
theorem text_exR : P.text exR = txR := by simp [exR, txR, text, parts, partsF, word, decs, Lib.itoa, Lib.decDigits, Lib.join, List.intercalate]
theorem text_exM : P.text exM = txM := by simp [exM, txM, text, parts, partsF, word, decs, Lib.itoa, Lib.decDigits, Lib.join, List.intercalate]
theorem text_exC : P.text exC = txC := by simp [exC, txC, text, parts, partsF, word, decs, Lib.itoa, Lib.decDigits, Lib.join, List.intercalate, flat]
theorem parse_ex {l : List UInt8} {ws : List (List UInt8)} {p : List Sg} {e : Bool} (h1 : T.words l = some ws) (h2 : readAll ws ([], false) = some (p, e)) (h3 : chk p = 0) (h4 : P.text p = l) : parseR l = (p, 0) := by
  unfold parseR
  rw [h1]
  show closeR l (readAll ws ([], false)) = _
  rw [h2]
  show (if chk p = 0 ∧ P.text p = l then (p, (0 : Int)) else ([], 2)) = (p, 0)
  rw [if_pos ⟨h3, h4⟩]
theorem parse_exP : parseR txP = (exP, 0) := parse_ex (ws := [[54, 53, 48, 48, 49], [54, 53, 48, 48, 50], [123, 54, 53, 48, 48, 51, 44, 54, 53, 48, 48, 52, 125]]) (e := false) (by decide) (by decide) (by decide) text_exP
theorem parse_exQ : parseR txQ = (exQ, 0) := parse_ex (ws := [[54, 53, 48, 48, 49], [54, 53, 48, 48, 52]]) (e := false) (by decide) (by decide) (by decide) text_exQ
theorem parse_exR : parseR txR = (exR, 0) := parse_ex (ws := [[54, 53, 48, 48, 49], [54, 53, 48, 48, 50], [54, 53, 48, 48, 51]]) (e := false) (by decide) (by decide) (by decide) text_exR
theorem parse_exB : parseR [54, 53, 48, 48, 49, 32, 32, 54, 53, 48, 48, 50] = ([], 2) := by
  unfold parseR
  rw [show T.words [54, 53, 48, 48, 49, 32, 32, 54, 53, 48, 48, 50] = none by decide]
theorem merge_ex {o : List Sg} {x : Int} (h : MrgR exR exQ o x) : o = exM ∧ x = 0 := by
  unfold MrgR at h
  rw [if_neg (by decide), if_neg (by decide)] at h
  obtain ⟨s, hs, h⟩ := h
  have e : restM exR exQ = [65002, 65003, 65004] := by decide
  rw [e] at hs
  have es : s = [65002, 65003, 65004] := hs.unique ⟨by decide, fun x => Iff.rfl⟩
  subst es
  rw [if_neg (by decide)] at h
  exact ⟨h.1.trans (by decide), h.2⟩
theorem prep_ex : prpF exQ 3 65010 1 = (exC, 0) := by decide
end P
theorem awake_any (w : World) (hT : Tab w) : Calls Tryz.prog 12 #[] w fun e w' => e = .returned (.bool true) ∧ Below w.heap.size w w' := by
  have HPA : Hid (∀ (l : List UInt8) (p : List Sg) (x : Int) (W : World), parseR l = (p, x) → l.length ≤ 300000 → Below w.heap.size w W → Calls Tryz.prog 33 #[.string ⟨l.toArray⟩] W fun e w' => ∃ a c, e = .returned (.tuple #[.slice a p.length c, .int .i64 x]) ∧ RdS w' (.slice a p.length c) p ∧ Below W.heap.size W w') := fun l p x W h hl hW => by
    have := parse_any l W (tab_below hT hW) hl
    rw [h] at this
    refine this.mono ?_
    rintro e w' ⟨v, he, hr, hb⟩
    obtain ⟨a, c, e1⟩ := hr.form
    exact ⟨a, c, by rw [he, e1], e1 ▸ hr, hb⟩
  have HT := Lib.hid hT
  have H1 := Lib.hid (HPA.out _ _ _ w parse_exP (by decide) (Below.refl _ _))
  clear hT
  go_enter Tryz.func12, Tryz.ntmps12
  go_wp2_with fail
  go_at_call 33
  refine H1.out.mono ?_
  rintro e w1 ⟨a1, c1, rfl, hr1, hb1⟩
  have B1 := Lib.hid hb1
  have R1 : Hid (∀ W, Below w1.heap.size w1 W → RdS W (.slice a1 exP.length c1) exP) := fun W hW => hr1.below hW
  have H2 := Lib.hid (HPA.out _ _ _ w1 parse_exQ (by decide) B1.out)
  clear hr1 hb1 H1
  go_wp2_with fail
  go_at_call 33
  refine H2.out.mono ?_
  rintro e w2 ⟨a2, c2, rfl, hr2, hb2⟩
  have B2 := Lib.hid (below_then B1.out hb2)
  have R1' : Hid (∀ W, Below w2.heap.size w2 W → RdS W (.slice a1 exP.length c1) exP) := fun W hW => R1.out W (below_then hb2 hW)
  have R2 : Hid (∀ W, Below w2.heap.size w2 W → RdS W (.slice a2 exQ.length c2) exQ) := fun W hW => hr2.below hW
  have H3 := Lib.hid (HPA.out _ _ _ w2 parse_exR (by decide) B2.out)
  clear hr2 hb2 H2 R1 B1
  go_wp2_with fail
  go_at_call 33
  refine H3.out.mono ?_
  rintro e w3 ⟨a3, c3, rfl, hr3, hb3⟩
  have B3 := Lib.hid (below_then B2.out hb3)
  have R1 : Hid (∀ W, Below w3.heap.size w3 W → RdS W (.slice a1 exP.length c1) exP) := fun W hW => R1'.out W (below_then hb3 hW)
  have R2' : Hid (∀ W, Below w3.heap.size w3 W → RdS W (.slice a2 exQ.length c2) exQ) := fun W hW => R2.out W (below_then hb3 hW)
  have H4 := Lib.hid (merge_any exR exQ _ _ w3 hr3 (R2'.out w3 (Below.refl _ _)) (by decide) (by decide) (by decide) (by decide))
  clear hr3 hb3 H3 R1' R2 B2
  go_wp2_with fail
  go_at_call 35
  refine H4.out.mono ?_
  rintro e w4 ⟨v4, o4, x4, rfl, hm4, hr4, hb4⟩
  obtain ⟨rfl, rfl⟩ := merge_ex hm4
  have B4 := Lib.hid (below_then B3.out hb4)
  have R1' : Hid (∀ W, Below w4.heap.size w4 W → RdS W (.slice a1 exP.length c1) exP) := fun W hW => R1.out W (below_then hb4 hW)
  have R2 : Hid (∀ W, Below w4.heap.size w4 W → RdS W (.slice a2 exQ.length c2) exQ) := fun W hW => R2'.out W (below_then hb4 hW)
  have H5 := Lib.hid (text_any exM v4 w4 (tab_below HT.out B4.out) hr4)
  rw [show chk exM = 0 from by decide, if_pos rfl, text_exM] at H5
  obtain ⟨a4, c4, hf4⟩ := hr4.form
  subst hf4
  clear hr4 hb4 hm4 H4 R1 R2' B3
  go_wp2_with fail
  go_at_call 31
  refine H5.out.mono ?_
  rintro e w5 ⟨rfl, hb5⟩
  have B5 := Lib.hid (below_then B4.out hb5)
  have R1 : Hid (∀ W, Below w5.heap.size w5 W → RdS W (.slice a1 exP.length c1) exP) := fun W hW => R1'.out W (below_then hb5 hW)
  have H6 := Lib.hid (prepend_any exQ _ 3 65010 1 w5 (R2.out w5 hb5) (by decide) (by decide))
  rw [prep_ex] at H6
  obtain ⟨S5, hS5⟩ : ∃ S5, bs txM = S5 := ⟨_, rfl⟩
  have s5 : (S5.toList == [54, 53, 48, 48, 49, 32, 123, 54, 53, 48, 48, 50, 44, 54, 53, 48, 48, 51, 44, 54, 53, 48, 48, 52, 125]) = true := by rw [← hS5, str_list, bs_data]; rfl
  rw [hS5]
  clear hb5 H5 R1' R2 B4 hS5
  go_wp2_with fail
  go_at_call 29
  refine H6.out.mono ?_
  rintro e w6 ⟨v6, rfl, hr6, hb6⟩
  have B6 := Lib.hid (below_then B5.out hb6)
  have R1' : Hid (∀ W, Below w6.heap.size w6 W → RdS W (.slice a1 exP.length c1) exP) := fun W hW => R1.out W (below_then hb6 hW)
  have H7 := Lib.hid (text_any exC v6 w6 (tab_below HT.out B6.out) hr6)
  rw [show chk exC = 0 from by decide, if_pos rfl, text_exC] at H7
  obtain ⟨a6, c6, hf6⟩ := hr6.form
  subst hf6
  have R6 : Hid (∀ W, Below w6.heap.size w6 W → RdS W (.slice a6 exC.length c6) exC) := fun W hW => hr6.below hW
  clear hr6 hb6 H6 R1 B5
  go_wp2_with fail
  go_at_call 31
  refine H7.out.mono ?_
  rintro e w7 ⟨rfl, hb7⟩
  have B7 := Lib.hid (below_then B6.out hb7)
  have R1 : Hid (∀ W, Below w7.heap.size w7 W → RdS W (.slice a1 exP.length c1) exP) := fun W hW => R1'.out W (below_then hb7 hW)
  have R6' : Hid (∀ W, Below w7.heap.size w7 W → RdS W (.slice a6 exC.length c6) exC) := fun W hW => R6.out W (below_then hb7 hW)
  have H8 := Lib.hid (first_any exC _ w7 (R6'.out w7 (Below.refl _ _)))
  rw [show fst exC = (65001, true) from by decide] at H8
  obtain ⟨S7, hS7⟩ : ∃ S7, bs txC = S7 := ⟨_, rfl⟩
  have s7 : (S7.toList == [40, 54, 53, 48, 49, 48, 41, 32, 54, 53, 48, 48, 49, 32, 54, 53, 48, 48, 52]) = true := by rw [← hS7, str_list, bs_data]; rfl
  rw [hS7]
  clear hb7 H7 R1' R6 B6 hS7
  go_wp2_with fail
  go_at_call 15
  refine H8.out.mono ?_
  rintro e w8 ⟨rfl, hb8⟩
  have B8 := Lib.hid (below_then B7.out hb8)
  have R1' : Hid (∀ W, Below w8.heap.size w8 W → RdS W (.slice a1 exP.length c1) exP) := fun W hW => R1.out W (below_then hb8 hW)
  have R6 : Hid (∀ W, Below w8.heap.size w8 W → RdS W (.slice a6 exC.length c6) exC) := fun W hW => R6'.out W (below_then hb8 hW)
  have H9 := Lib.hid (origin_any exP _ w8 (R1'.out w8 (Below.refl _ _)))
  rw [show org exP = (0, false) from by decide] at H9
  clear hb8 H8 R1 R6' B7 s5 s7
  go_wp2_with fail
  go_at_call 17
  refine H9.out.mono ?_
  rintro e w9 ⟨rfl, hb9⟩
  have B9 := Lib.hid (below_then B8.out hb9)
  have R1 : Hid (∀ W, Below w9.heap.size w9 W → RdS W (.slice a1 exP.length c1) exP) := fun W hW => R1'.out W (below_then hb9 hW)
  have R6' : Hid (∀ W, Below w9.heap.size w9 W → RdS W (.slice a6 exC.length c6) exC) := fun W hW => R6.out W (below_then hb9 hW)
  have H10 := Lib.hid (HPA.out _ _ _ w9 parse_exB (by decide) B9.out)
  clear hb9 H9 R1' R6 B8
  go_wp2_with fail
  go_at_call 33
  refine H10.out.mono ?_
  rintro e w10 ⟨a10, c10, rfl, _, hb10⟩
  have B10 := Lib.hid (below_then B9.out hb10)
  have R1' : Hid (∀ W, Below w10.heap.size w10 W → RdS W (.slice a1 exP.length c1) exP) := fun W hW => R1.out W (below_then hb10 hW)
  have R6 : Hid (∀ W, Below w10.heap.size w10 W → RdS W (.slice a6 exC.length c6) exC) := fun W hW => R6'.out W (below_then hb10 hW)
  have H11 := Lib.hid (length_any exP _ w10 (R1'.out w10 (Below.refl _ _)) (by decide) (by decide))
  rw [show (len exP : Int) = 3 from by decide] at H11
  clear hb10 H10 R1 R6' B9
  go_wp2_with fail
  go_at_call 19
  refine H11.out.mono ?_
  rintro e w11 ⟨rfl, hb11⟩
  have B11 := Lib.hid (below_then B10.out hb11)
  have R1 : Hid (∀ W, Below w11.heap.size w11 W → RdS W (.slice a1 exP.length c1) exP) := fun W hW => R1'.out W (below_then hb11 hW)
  have R6' : Hid (∀ W, Below w11.heap.size w11 W → RdS W (.slice a6 exC.length c6) exC) := fun W hW => R6.out W (below_then hb11 hW)
  have H12 := Lib.hid (length_any exC _ w11 (R6'.out w11 (Below.refl _ _)) (by decide) (by decide))
  rw [show (len exC : Int) = 2 from by decide] at H12
  clear hb11 H11 R1' R6 B10
  go_wp2_with fail
  go_at_call 19
  refine H12.out.mono ?_
  rintro e w12 ⟨rfl, hb12⟩
  have B12 := Lib.hid (below_then B11.out hb12)
  have R1' : Hid (∀ W, Below w12.heap.size w12 W → RdS W (.slice a1 exP.length c1) exP) := fun W hW => R1.out W (below_then hb12 hW)
  have R6 : Hid (∀ W, Below w12.heap.size w12 W → RdS W (.slice a6 exC.length c6) exC) := fun W hW => R6'.out W (below_then hb12 hW)
  have H13 := Lib.hid (has_any exP _ 65004 w12 (R1'.out w12 (Below.refl _ _)))
  rw [show has exP 65004 = true from by decide] at H13
  clear hb12 H12 R1 R6' B11
  go_wp2_with fail
  go_at_call 21
  refine H13.out.mono ?_
  rintro e w13 ⟨rfl, hb13⟩
  have B13 := Lib.hid (below_then B12.out hb13)
  have R1 : Hid (∀ W, Below w13.heap.size w13 W → RdS W (.slice a1 exP.length c1) exP) := fun W hW => R1'.out W (below_then hb13 hW)
  have R6' : Hid (∀ W, Below w13.heap.size w13 W → RdS W (.slice a6 exC.length c6) exC) := fun W hW => R6.out W (below_then hb13 hW)
  have H14 := Lib.hid (has_any exP _ 1 w13 (R1.out w13 (Below.refl _ _)))
  rw [show has exP 1 = false from by decide] at H14
  clear hb13 H13 R1' R6 B12
  go_wp2_with fail
  go_at_call 21
  refine H14.out.mono ?_
  rintro e w14 ⟨rfl, hb14⟩
  have B14 := Lib.hid (below_then B13.out hb14)
  have R1' : Hid (∀ W, Below w14.heap.size w14 W → RdS W (.slice a1 exP.length c1) exP) := fun W hW => R1.out W (below_then hb14 hW)
  have R6 : Hid (∀ W, Below w14.heap.size w14 W → RdS W (.slice a6 exC.length c6) exC) := fun W hW => R6'.out W (below_then hb14 hW)
  have hn14 : RdS (w14.alloc (.cells #[.int .i64 5, .slice none 0 0] 46)) (.slice (some ⟨w14.heap.size, 0, none⟩) 1 1) [⟨5, []⟩] := by
    refine ⟨_, _, rfl, Nat.le_refl _, ⟨by simp, fun e => by cases e⟩, fun k s hk => ?_⟩
    match k, hk with
    | 0, hk => simp at hk; subst hk; exact ⟨_, _, _, rfl, by simp, cell_of (World.alloc_heap_new _ _) rfl, cell_of (World.alloc_heap_new _ _) rfl, rdi_nil _⟩
    | k + 1, hk => simp at hk
  have H15 := Lib.hid (check_any [⟨5, []⟩] _ _ hn14)
  rw [show chk [⟨5, []⟩] = 15 from by decide] at H15
  have B15 := Lib.hid (below_then B14.out (below_alloc w14 (.cells #[.int .i64 5, .slice none 0 0] 46)))
  have R1 : Hid (∀ W, Below (w14.alloc (.cells #[.int .i64 5, .slice none 0 0] 46)).heap.size (w14.alloc (.cells #[.int .i64 5, .slice none 0 0] 46)) W → RdS W (.slice a1 exP.length c1) exP) := fun W hW => R1'.out W (below_then (below_alloc _ _) hW)
  have R6' : Hid (∀ W, Below (w14.alloc (.cells #[.int .i64 5, .slice none 0 0] 46)).heap.size (w14.alloc (.cells #[.int .i64 5, .slice none 0 0] 46)) W → RdS W (.slice a6 exC.length c6) exC) := fun W hW => R6.out W (below_then (below_alloc _ _) hW)
  clear hb14 H14 R1' R6 B13 hn14
  go_wp2_with fail
  go_at_call 13
  refine H15.out.mono ?_
  rintro e w15 ⟨rfl, hb15⟩
  have B16 := Lib.hid (below_then B15.out hb15)
  have R6 : Hid (∀ W, Below w15.heap.size w15 W → RdS W (.slice a6 exC.length c6) exC) := fun W hW => R6'.out W (below_then hb15 hW)
  have H16 := Lib.hid (flat_any exP _ w15 (R1.out w15 hb15) (by decide))
  clear hb15 H15 R1 R6' B14 B15
  go_wp2_with fail
  go_at_call 27
  refine H16.out.mono ?_
  rintro e w16 ⟨v16, rfl, hi16⟩
  have B17 := Lib.hid (below_then B16.out hi16.2)
  have H17 := Lib.hid (strip_any exC _ w16 (by decide) (by decide) (R6.out w16 hi16.2))
  obtain ⟨a16, c16, hf16⟩ := hi16.1.rd.form
  rw [show (flat exP).length = 4 from by decide] at hf16
  subst hf16
  clear hi16 H16 R6 B16
  go_wp2_with fail
  go_at_call 24
  refine H17.out.mono ?_
  rintro e w17 ⟨v17, rfl, hr17, hb17⟩
  have B18 := Lib.hid (below_then B17.out hb17)
  obtain ⟨a17, c17, hf17⟩ := hr17.form
  rw [show (strip exC).length = 1 from by decide] at hf17
  subst hf17
  clear hr17 hb17 H17 B17
  go_wp2
  go_ret
  exact ⟨rfl, B18.out⟩
end Go.Proofs.YtiobfgcpbihbhaaGreatDoor
