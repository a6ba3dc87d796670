/-
  Every entry of a trimmed table is needed.
  The walk of the law AggregateTrimmed.
-/
import Derived.Test.YtegponbmelgngaaMgAm
section
namespace Go.Proofs.Ytegponbmelgngaa
open Go.RowKit
open Classical
set_option linter.unusedSimpArgs false
set_option linter.unusedVariables false

theorem asc_uniq {l : List AG.Be} (ha : l.Pairwise (fun x y => CM.ltB x.1 y.1)) {i j : Nat} {e : AG.Be} (hi : l[i]? = some e) (hj : l[j]? = some e) : i = j := by
  obtain ⟨h1, e1⟩ := List.getElem?_eq_some_iff.1 hi
  obtain ⟨h2, e2⟩ := List.getElem?_eq_some_iff.1 hj
  have irr : ¬ CM.ltB e.1 e.1 := by unfold CM.ltB; omega
  rcases Nat.lt_trichotomy i j with h | h | h
  · have := List.pairwise_iff_getElem.1 ha i j h1 h2 h
    rw [e1, e2] at this; exact absurd this irr
  · exact h
  · have := List.pairwise_iff_getElem.1 ha j i h2 h1 h
    rw [e1, e2] at this; exact absurd this irr
theorem eff_sub (t : List AG.Be) : ∀ n, (AG.eff t n).Sublist (t.take n)
  | 0 => by rw [List.take_zero]; exact List.Sublist.refl _
  | n + 1 => by
    have ih := eff_sub t n
    show (AG.eff t n ++ _).Sublist _
    rw [List.take_add_one]
    refine ih.append ?_
    cases h : t[n]? with
    | none => exact List.Sublist.refl _
    | some e =>
      dsimp only
      split
      · exact List.nil_sublist _
      · exact List.Sublist.refl _
theorem trim_need {u : List AG.Be} (hu : AG.Tab u) (hown : ∀ (i : Nat) (e : AG.Be), u[i]? = some e → ∃ y, AG.inb e.1 y = true ∧ ∀ (k : Nat) (x : AG.Be), i < k → u[k]? = some x → AG.inb x.1 y = false) {i : Nat} {e : AG.Be} (he : (AG.eff u u.length)[i]? = some e) :
    ∃ y, AG.inb e.1 y = true ∧ AG.lk y (-1) (AG.eff u u.length) ≠ AG.lk y (-1) ((AG.eff u u.length).take i ++ (AG.eff u u.length).drop (i + 1)) := by
  obtain ⟨j, hj, hje, hv⟩ := AG.eff_mem (List.mem_of_getElem? he)
  obtain ⟨y, hy, hl⟩ := hown j e hje
  obtain ⟨r, hr, hr2⟩ := AG.eff_split hje hv u.length hj (Nat.le_refl _)
  obtain ⟨n1, n2⟩ := AG.eff_need hu hje hv hy hl hr hr2
  have hasc : (AG.eff u u.length).Pairwise (fun x y => CM.ltB x.1 y.1) := hu.asc.sublist (by have := eff_sub u u.length; rwa [List.take_length] at this)
  have hi : i = (AG.eff u j).length := asc_uniq hasc he (by rw [hr, List.getElem?_append_right (Nat.le_refl _), Nat.sub_self]; rfl)
  refine ⟨y, hy, ?_⟩
  have e1 : (AG.eff u u.length).take i ++ (AG.eff u u.length).drop (i + 1) = AG.eff u j ++ r := by
    rw [hr, hi, List.take_left, show AG.eff u j ++ e :: r = (AG.eff u j ++ [e]) ++ r by simp, List.drop_left' (by simp)]
  rw [e1, n1, n2]
  exact hv
theorem effE_sub (t : List En) : ∀ n, (effE t n).Sublist (t.take n)
  | 0 => by rw [List.take_zero]; exact List.Sublist.refl _
  | n + 1 => by
    have ih := effE_sub t n
    show (effE t n ++ _).Sublist _
    rw [List.take_add_one]
    refine ih.append ?_
    cases h : t[n]? with
    | none => exact List.Sublist.refl _
    | some e =>
      dsimp only
      split
      · exact List.nil_sublist _
      · exact List.Sublist.refl _
theorem tab_sub {l s : List En} (ht : TabE l) (h : s.Sublist l) : TabE s := ⟨Nat.le_trans h.length_le ht.len, fun e he => ht.val e (h.subset he), ht.asc.sublist h⟩
theorem trimE_sub (l : List En) : (trimE l).Sublist l := by
  have h := effE_sub (visE l) (visE l).length
  rw [List.take_length] at h
  exact h.trans List.filter_sublist
theorem trimE_tab {l : List En} (ht : TabE l) : TabE (trimE l) := tab_sub ht (trimE_sub l)
theorem trimE_fit {l : List En} (hf : FitE l) : FitE (trimE l) := fun e he => hf e ((trimE_sub l).subset he)
theorem less_sub (l : List En) (i : Nat) : (l.take i ++ l.drop (i + 1)).Sublist l := by
  conv => rhs; rw [← List.take_append_drop i l]
  refine (List.Sublist.refl _).append ?_
  rw [← List.drop_drop]
  exact List.drop_sublist _ _
/-- a trimmed table without one of its entries has other lookups -/
theorem trimE_need {l : List En} (ht : TabE l) (hf : FitE l) {i : Nat} {e : En} (he : (trimE l)[i]? = some e) : ¬ SamE (trimE l) ((trimE l).take i ++ (trimE l).drop (i + 1)) := by
  rintro ⟨h1, h2, h3⟩
  have hfr := ht.frag fun e he => (hf e he).1
  have hu : AG.Tab (AG.vis (l.map toBe)) := AG.vis_tab hfr.tab
  have hE : (trimE l).map toBe = AG.eff (AG.vis (l.map toBe)) (AG.vis (l.map toBe)).length := trimE_be l
  obtain ⟨y, hy, hne⟩ := trim_need hu (fun i e he => AG.vis_own hfr.tab he) (i := i) (e := toBe e) (by rw [← hE, List.getElem?_map, he]; rfl)
  have hm := (trimE_sub l).subset (List.mem_of_getElem? he)
  have hyl : y < 4294967296 := by
    have := AG.inb_iff.1 hy
    have h4 := blk_top (hf e hm).1 (ht.val e hm).1
    have h5 : (toBe e).1 = blk e.1 := rfl
    rw [h5] at this
    omega
  have h6 := h3 y hyl
  rw [lkE_lk y (trimE l) _ (fun e he => ((trimE_tab ht).val e he).1), lkE_lk y _ _ (fun e he => ((trimE_tab ht).val e ((less_sub _ _).subset he)).1), List.map_append, List.map_take, List.map_drop, hE] at h6
  exact hne h6
theorem trimE_look {l : List En} (ht : TabE l) (hf : FitE l) (y : Nat) : lkE y (-1) (trimE l) = lkE y (-1) l := by
  have hfr := ht.frag fun e he => (hf e he).1
  rw [lkE_lk y (trimE l) _ (fun e he => ((trimE_tab ht).val e he).1), lkE_lk y l _ (fun e he => (ht.val e he).1), trimE_be]
  exact AG.trim_agree hfr.tab y
end Go.Proofs.Ytegponbmelgngaa
end

section
namespace Go.Proofs.Ytegponbmelgngaa
open Go.RowKit
open Classical
set_option linter.unusedSimpArgs false
set_option linter.unusedVariables false
set_option maxHeartbeats 1500000
set_option maxRecDepth 100000

theorem take_mem {l : List En} {k : Nat} {y : En} (h : l[k]? = some y) (x : En) : decide (x ∈ l.take (k + 1)) = (decide (x ∈ l.take k) || decide (x = y)) := by
  rw [List.take_add_one, h]
  simp
theorem trimmed_good (l : List En) (v : Value) (w : World) (hl : l.length ≤ 40) (hck : ckE l = 0) (hr : RdE w v l) (hn : NilE v) (hf : FitE l) :
    Calls Try.prog 14 #[v] w fun e w' => e = .returned (.bool true) ∧ Below w.heap.size w w' := by
  have ht := ckE_iff.1 hck
  have HAW := Lib.hid awake7_any
  have HC : Hid (Calls Try.prog 48 #[v] w fun e w' => e = .returned (.int .i64 0) ∧ Below w.heap.size w w') := by
    have := rcheck48_any l v w hr hf
    rwa [hck] at this
  have hPl : (trimE l).length ≤ 40 := Nat.le_trans (trimE_sub l).length_le hl
  obtain ⟨T, hT⟩ : ∃ T, T = trimE l := ⟨_, rfl⟩
  obtain ⟨P, hP⟩ : ∃ P, P = T.length := ⟨_, rfl⟩
  rw [← hT, ← hP] at hPl
  have HTR : Hid (∀ W, Below w.heap.size w W → Calls Try.prog 55 #[v] W fun e w' => ∃ ad cap, e = .returned (.tuple #[.slice ad P cap, .int .i64 0]) ∧ (RdE w' (.slice ad P cap) T ∧ NilE (.slice ad P cap) ∧ P ≤ cap) ∧ Below W.heap.size W w') := fun W hW => by
    refine (trim_own l v W (hr.below hW) hf).mono ?_
    rintro e w' ⟨v', he, h1, _, hb⟩
    rw [hck] at he h1
    obtain ⟨B, ho⟩ := h1 rfl
    rw [← hT] at ho
    have h3 := rdE_own ho
    obtain ⟨ad, cap, rfl, _⟩ := id h3
    rw [← hP] at he h3
    have h4 := own_nil ho
    have h5 := own_cap ho _ _ _ rfl
    rw [← hP] at h4 h5
    exact ⟨ad, cap, he, ⟨h3, h4, h5⟩, hb⟩
  have HS1 : Hid (∀ W m, Below w.heap.size w W → RdE W m T → NilE m → Calls Try.prog 54 #[v, m] W fun e w' => e = .returned (.bool true) ∧ Below W.heap.size W w') := fun W m hW hm nm => by
    have h1 : SamE l T := ⟨hck, ckE_iff.2 (by rw [hT]; exact trimE_tab ht), fun y hy => by rw [hT]; exact (trimE_look ht hf y).symm⟩
    have := rsame_any l T v m W (by omega) (by omega) (hr.below hW) hm hn nm hf (by rw [hT]; exact trimE_fit hf)
    rwa [decide_eq_true h1] at this
  have HS2 : Hid (∀ W m m2 i, i < P → RdE W m T → NilE m → RdE W m2 (T.take i ++ T.drop (i + 1)) → NilE m2 → Calls Try.prog 54 #[m, m2] W fun e w' => e = .returned (.bool false) ∧ Below W.heap.size W w') := fun W m m2 i hi hm nm hm2 nm2 => by
    obtain ⟨x, hx⟩ : ∃ x, T[i]? = some x := ⟨_, List.getElem?_eq_getElem (by omega)⟩
    have h1 : ¬ SamE T (T.take i ++ T.drop (i + 1)) := by rw [hT] at hx ⊢; exact trimE_need ht hf hx
    have h2 := (less_sub T i).length_le
    have hfT : FitE T := by rw [hT]; exact trimE_fit hf
    have := rsame_any T (T.take i ++ T.drop (i + 1)) m m2 W (by omega) (by omega) hm hm2 nm nm2 hfT (fun e he => hfT e ((less_sub T i).subset he))
    rwa [decide_eq_false h1] at this
  have HMEM : Hid (∀ x ∈ T, x ∈ l) := fun x hx => by rw [hT] at hx; exact (trimE_sub l).subset hx
  have HPP := Lib.hid hP
  obtain ⟨adl, capl, rfl, hcl⟩ := hr
  have HLC := Lib.hid hcl
  obtain ⟨L, hL⟩ : ∃ L, l.length = L := ⟨_, rfl⟩
  rw [hL] at hl HC HTR HS1 ⊢
  have HL := Lib.hid hL
  have k1 : decide ((L : Int) > 40) = false := decide_eq_false (by omega)
  have k2 : ¬ (40 : Int) < (L : Int) := by omega
  clear ht hck hn hf hT hP hcl hL
  go_enter Try.func14, Try.ntmps14
  go_wp2_with (first
    | (go_at_call 48; refine HC.out.mono ?_; rintro en w1 ⟨rfl, hb⟩; have H1 := Lib.hid hb; clear hb)
    | (go_at_call 55; refine (HTR.out _ H1.out).mono ?_; rintro en w2 ⟨ad, cap, rfl, h1, hb⟩; have H2 : Hid ((RdE w2 (.slice ad P cap) T ∧ NilE (.slice ad P cap) ∧ P ≤ cap) ∧ Below w.heap.size w w2) := ⟨h1, below_then H1.out hb⟩; clear h1 hb)
    | (go_at_call 54; refine (HS1.out _ _ H2.out.2 H2.out.1.1 H2.out.1.2.1).mono ?_; rintro en w3 ⟨rfl, hb⟩; have H3 : Hid ((RdE w3 (.slice ad P cap) T ∧ NilE (.slice ad P cap) ∧ P ≤ cap) ∧ Below w.heap.size w w3) := ⟨⟨H2.out.1.1.below hb, H2.out.1.2⟩, below_then H2.out.2 hb⟩; clear hb))
  go_loopg [5, 6, 7, 9, 10, 35] P (fun g s5 s6 s7 s9 s10 s35 wr => ∃ (i : Nat), (∃ u, u = s5) ∧ (∃ u, u = s6) ∧ (∃ u, u = s7) ∧ (∃ u, u = s9) ∧ (∃ u, u = s10) ∧ s35 = .int .i64 (i : Int) ∧ i ≤ P ∧ P - i ≤ g ∧ Hid (Below w3.heap.size w3 wr))
  case atStart => exact ⟨0, ⟨_, rfl⟩, ⟨_, rfl⟩, ⟨_, rfl⟩, ⟨_, rfl⟩, ⟨_, rfl⟩, rfl, by omega, by omega, Below.refl _ _⟩
  case round =>
    obtain ⟨i, ⟨u5, rfl⟩, ⟨u6, rfl⟩, ⟨u7, rfl⟩, ⟨u9, rfl⟩, ⟨u10, rfl⟩, rfl, hi, hg, HI⟩ := hrel
    by_cases hlt : i < P
    · obtain ⟨x, hx⟩ : ∃ x, T[i]? = some x := ⟨_, List.getElem?_eq_getElem (by have := HPP.out; omega)⟩
      obtain ⟨ad', cap', e', hc⟩ := id H3.out.1.1
      have e1 := (Value.slice.inj e').1
      clear e'
      subst e1
      obtain ⟨b, off, rfl, hbl, c0, c1, c2⟩ := hc i x hx
      have d0 := carryE HI.out hbl c0
      have d1 := carryE HI.out hbl c1
      have d2 := carryE HI.out hbl c2
      have HXL : Hid (x ∈ l) := HMEM.out x (List.mem_of_getElem? hx)
      obtain ⟨⟨xa, xn⟩, xv⟩ := x
      dsimp only at d0 d1 d2
      have i0' : (0 : Int) ≤ (i : Int) := by omega
      have i1' : (i : Int) < (P : Int) := by omega
      clear hc c0 c1 c2 hx hbl
      go_wp2_with fail
      obtain ⟨W1, hW1⟩ : ∃ W1, W1 = wr.alloc (.cells #[.int .u32 (xa : Int), .int .i64 xn, .int .i64 xv] 51) := ⟨_, rfl⟩
      have HW1 : Hid (Below wr.heap.size wr W1) := by rw [hW1]; exact below_alloc _ _
      have HXB : Hid (W1.heap[wr.heap.size]? = some (.cells #[.int .u32 (xa : Int), .int .i64 xn, .int .i64 xv] 51)) := by rw [hW1]; exact heap_alloc_new _ _
      rw [← hW1]
      obtain ⟨bx, hbx⟩ : ∃ bx, bx = wr.heap.size := ⟨_, rfl⟩
      rw [← hbx] at HXB ⊢
      clear hbx
      clear hW1
      go_loopg [7, 9, 42] L (fun g s7 s9 s42 wi => ∃ (j : Nat), s7 = .bool (decide (((xa, xn), xv) ∈ l.take j)) ∧ (∃ u, u = s9) ∧ s42 = .int .i64 (j : Int) ∧ j ≤ L ∧ L - j ≤ g ∧ Hid (Below W1.heap.size W1 wi))
      case atStart => exact ⟨0, by simp, ⟨_, rfl⟩, rfl, by omega, by omega, Below.refl _ _⟩
      case round =>
        obtain ⟨j, rfl, ⟨u9, rfl⟩, rfl, hj, hgj, HJ⟩ := hrel
        have HXW := Lib.hid ((HJ.out.block _ (ltO HXB.out)).trans HXB.out)
        have HBJ := Lib.hid (below_then (below_then (below_then H3.out.2 HI.out) HW1.out) HJ.out)
        by_cases hjl : j < L
        · obtain ⟨y, hy⟩ : ∃ y, l[j]? = some y := ⟨_, List.getElem?_eq_getElem (by have := HL.out; omega)⟩
          obtain ⟨b2, off2, rfl, hbl2, c0, c1, c2⟩ := HLC.out j y hy
          have q0 := carryE HBJ.out hbl2 c0
          have q1 := carryE HBJ.out hbl2 c1
          have q2 := carryE HBJ.out hbl2 c2
          have HTM := Lib.hid (take_mem hy ((xa, xn), xv))
          obtain ⟨⟨ya, yn⟩, yv⟩ := y
          dsimp only at q0 q1 q2
          have hxw := (below_alloc wr (.cells #[.int .u32 (ya : Int), .int .i64 yn, .int .i64 yv] 51)).block bx (ltO HXW.out) |>.trans HXW.out
          have d3 := cellO hxw (o := 0) rfl
          have d4 := cellO hxw (o := 1) rfl
          have d5 := cellO hxw (o := 2) rfl
          clear hxw
          have j0' : (0 : Int) ≤ (j : Int) := by omega
          have j1' : (j : Int) < (L : Int) := by omega
          obtain ⟨f, hf⟩ : ∃ f, decide (((xa, xn), xv) ∈ l.take j) = f := ⟨_, rfl⟩
          rw [hf] at HTM ⊢
          clear c0 c1 c2 hy hbl2 hf
          cases f with
          | true =>
            go_wp2_with fail
            go_roundg (L - (j + 1))
            case measure => omega
            case rel => exact ⟨j + 1, (congrArg Value.bool (HTM.out.trans (Bool.true_or _))).symm, ⟨_, rfl⟩, by go_num, by omega, Nat.le_refl _, HJ.out.alloc HJ.out.size _⟩
          | false =>
            by_cases ha : xa = ya
            · subst ha
              by_cases hb : xn = yn
              · subst hb
                by_cases hc : xv = yv
                · subst hc
                  go_wp2_with fail
                  go_roundg (L - (j + 1))
                  case measure => omega
                  case rel => exact ⟨j + 1, (congrArg Value.bool (HTM.out.trans (by simp))).symm, ⟨_, rfl⟩, by go_num, by omega, Nat.le_refl _, HJ.out.alloc HJ.out.size _⟩
                · have HN := Lib.hid hc
                  go_wp2_with fail
                  go_roundg (L - (j + 1))
                  case measure => omega
                  case rel => exact ⟨j + 1, (congrArg Value.bool (HTM.out.trans (by rw [Bool.false_or]; exact decide_eq_false (fun hE => HN.out (by cases hE; rfl))))).symm, ⟨_, rfl⟩, by go_num, by omega, Nat.le_refl _, HJ.out.alloc HJ.out.size _⟩
              · have HN := Lib.hid hb
                go_wp2_with fail
                go_roundg (L - (j + 1))
                case measure => omega
                case rel => exact ⟨j + 1, (congrArg Value.bool (HTM.out.trans (by rw [Bool.false_or]; exact decide_eq_false (fun hE => HN.out (by cases hE; rfl))))).symm, ⟨_, rfl⟩, by go_num, by omega, Nat.le_refl _, HJ.out.alloc HJ.out.size _⟩
            · have HN := Lib.hid ha
              have n1 : ¬ (xa : Int) = (ya : Int) := by omega
              go_wp2_with fail
              go_roundg (L - (j + 1))
              case measure => omega
              case rel => exact ⟨j + 1, (congrArg Value.bool (HTM.out.trans (by rw [Bool.false_or]; exact decide_eq_false (fun hE => HN.out (by cases hE; rfl))))).symm, ⟨_, rfl⟩, by go_num, by omega, Nat.le_refl _, HJ.out.alloc HJ.out.size _⟩
        · have k3 : decide ((j : Int) < (L : Int)) = false := decide_eq_false (by omega)
          have HFD : Hid (decide (((xa, xn), xv) ∈ l.take j) = true) := decide_eq_true (by rw [List.take_of_length_le (by have := HL.out; omega)]; exact HXL.out)
          rw [HFD.out]
          have kk0 : (i : Int) ≤ (cap : Int) := by have := H3.out.1.2.2; omega
          have kk1 : (i : Int) + 1 ≤ (P : Int) := by omega
          have kk2 : (P : Int) ≤ (cap : Int) := by have := H3.out.1.2.2; omega
          have hii : i ≤ T.length := by have := HPP.out; omega
          have HT1 := Lib.hid (rdE_upto (H3.out.1.1.below (below_then (below_then HI.out HW1.out) HJ.out)) i hii cap)
          have HB3 := Lib.hid (below_then (below_then HI.out HW1.out) HJ.out)
          have hlen1 : (T.take i).length ≤ 40 := Nat.le_trans (List.length_take_le i T) (by have := HPP.out; omega)
          have hlen2 : (T.drop (i + 1)).length ≤ 40 := by rw [List.length_drop]; have := HPP.out; omega
          by_cases hcp : cap = i + 1
          · have HT2 : Hid (∀ W, RdE W (.slice (some ⟨b, off, none⟩) (P - (i + 1)) 0) (T.drop (i + 1))) := fun W => ⟨_, _, by rw [List.length_drop]; have := HPP.out; congr 1; omega, fun k x hx => by rw [List.drop_eq_nil_of_le (by have := HPP.out; omega)] at hx; cases hx⟩
            subst hcp
            go_wp2_with (first
              | (go_at_call 54; refine (HS2.out _ _ _ i hlt (H3.out.1.1.below H5.out.1) H3.out.1.2.1 (rdE_own H5.out.2) (own_nil H5.out.2)).mono ?_; rintro en w6 ⟨rfl, hb⟩; have H6 := Lib.hid (below_then H5.out.1 hb); clear hb)
              | (at_builtin; have tok := H4; clear tok; refine append_rdE rfl (.tmp 58) (.tmp 62) rfl wr.heap.size H4.out.1.size v4 (T.take i) rfl H4.out.2 (.slice (some ⟨b, off, none⟩) (P - (i + 1)) 0) (T.drop (i + 1)) rfl (HT2.out _) (fun n c e => by cases e) (by omega) ?_; intro v5 w5 hown hb; have H5 : Hid (Below w3.heap.size w3 w5 ∧ w5.ownsRow wr.heap.size 51 3 v5 (T.take i ++ T.drop (i + 1)).length (flatE (T.take i ++ T.drop (i + 1)))) := ⟨below_then HB3.out (H4.out.1.trans hb), hown⟩; clear hown hb)
              | (at_builtin; refine append_rdE rfl (.tmp 53) (.tmp 56) rfl wr.heap.size (Nat.le_refl _) (.slice none 0 0) [] rfl (World.ownsRow_nil _ _ _ _) (.slice (some ⟨b, off, none⟩) i (i + 1)) (T.take i) rfl HT1.out (fun n c e => by cases e) (by simp only [List.length_nil]; omega) ?_; intro v4 w4 hown hb; have H4 : Hid (Below wr.heap.size wr w4 ∧ w4.ownsRow wr.heap.size 51 3 v4 (T.take i).length (flatE (T.take i))) := ⟨hb, hown⟩; clear hown hb))
            go_roundg (P - (i + 1))
            case measure => omega
            case rel => exact ⟨i + 1, ⟨_, rfl⟩, ⟨_, rfl⟩, ⟨_, rfl⟩, ⟨_, rfl⟩, ⟨_, rfl⟩, by go_num, by omega, Nat.le_refl _, H6.out⟩
          · have HT2 : Hid (∀ W, Below w3.heap.size w3 W → RdE W (.slice (some ⟨b, off + (i + 1) * 3, none⟩) (P - (i + 1)) (cap - (i + 1))) (T.drop (i + 1))) := fun W hW => by
              have := rdE_from (H3.out.1.1.below hW) rfl (i + 1) (by have := HPP.out; omega) (cap - (i + 1))
              rwa [Addr.add_lit] at this
            go_wp2_with (first
              | (go_at_call 54; refine (HS2.out _ _ _ i hlt (H3.out.1.1.below H5.out.1) H3.out.1.2.1 (rdE_own H5.out.2) (own_nil H5.out.2)).mono ?_; rintro en w6 ⟨rfl, hb⟩; have H6 := Lib.hid (below_then H5.out.1 hb); clear hb)
              | (at_builtin; have tok := H4; clear tok; refine append_rdE rfl (.tmp 58) (.tmp 62) rfl wr.heap.size H4.out.1.size v4 (T.take i) rfl H4.out.2 (.slice (some ⟨b, off + (i + 1) * 3, none⟩) (P - (i + 1)) (cap - (i + 1))) (T.drop (i + 1)) rfl (HT2.out _ (below_then HB3.out H4.out.1)) (fun n c e => by cases e) (by omega) ?_; intro v5 w5 hown hb; have H5 : Hid (Below w3.heap.size w3 w5 ∧ w5.ownsRow wr.heap.size 51 3 v5 (T.take i ++ T.drop (i + 1)).length (flatE (T.take i ++ T.drop (i + 1)))) := ⟨below_then HB3.out (H4.out.1.trans hb), hown⟩; clear hown hb)
              | (at_builtin; refine append_rdE rfl (.tmp 53) (.tmp 56) rfl wr.heap.size (Nat.le_refl _) (.slice none 0 0) [] rfl (World.ownsRow_nil _ _ _ _) (.slice (some ⟨b, off, none⟩) i cap) (T.take i) rfl HT1.out (fun n c e => by cases e) (by simp only [List.length_nil]; omega) ?_; intro v4 w4 hown hb; have H4 : Hid (Below wr.heap.size wr w4 ∧ w4.ownsRow wr.heap.size 51 3 v4 (T.take i).length (flatE (T.take i))) := ⟨hb, hown⟩; clear hown hb))
            go_roundg (P - (i + 1))
            case measure => omega
            case rel => exact ⟨i + 1, ⟨_, rfl⟩, ⟨_, rfl⟩, ⟨_, rfl⟩, ⟨_, rfl⟩, ⟨_, rfl⟩, by go_num, by omega, Nat.le_refl _, H6.out⟩
    · have k3 : decide ((i : Int) < (P : Int)) = false := decide_eq_false (by omega)
      have HB := Lib.hid (below_then H3.out.2 HI.out)
      go_wp2_with (go_at_call 46; refine (HAW.out _).mono ?_; rintro en w4 ⟨rfl, hb⟩; have H4 := Lib.hid (below_then HB.out hb); clear hb)
      go_ret
      exact ⟨rfl, H4.out⟩
theorem trimmed_walk (l : List En) (v : Value) (w : World) (hr : RdE w v l) (hn : NilE v) (hf : FitE l) :
    Calls Try.prog 14 #[v] w fun e w' => e = .returned (.bool true) ∧ Below w.heap.size w w' := by
  have HAW := Lib.hid awake7_any
  by_cases hl : l.length ≤ 40
  · by_cases hck : ckE l = 0
    · exact trimmed_good l v w hl hck hr hn hf
    · have HC := Lib.hid (rcheck48_any l v w hr hf)
      obtain ⟨q, hq⟩ : ∃ q, ckE l = q := ⟨_, rfl⟩
      rw [hq] at HC hck
      obtain ⟨ad1, cap1, rfl, -⟩ := hr
      obtain ⟨L, hL⟩ : ∃ L, l.length = L := ⟨_, rfl⟩
      rw [hL] at hl HC ⊢
      have k1 : decide ((L : Int) > 40) = false := decide_eq_false (by omega)
      have k2 : ¬ (40 : Int) < (L : Int) := by omega
      have k3 : (q == 0) = false := by simpa using hck
      have k4 : (q != 0) = true := by simpa using hck
      clear hn hf hL hl hck hq
      go_enter Try.func14, Try.ntmps14
      go_wp2_with (first
        | (go_at_call 48; refine HC.out.mono ?_; rintro en w1 ⟨rfl, hb⟩; have H1 := Lib.hid hb; clear hb)
        | (go_at_call 46; refine (HAW.out _).mono ?_; rintro en w4 ⟨rfl, hb⟩; have H4 := Lib.hid (below_then H1.out hb); clear hb))
      go_ret
      exact ⟨rfl, H4.out⟩
  · obtain ⟨ad1, cap1, rfl, -⟩ := hr
    obtain ⟨L, hL⟩ : ∃ L, l.length = L := ⟨_, rfl⟩
    rw [hL] at hl ⊢
    have k1 : decide ((L : Int) > 40) = true := decide_eq_true (by omega)
    have k2 : (40 : Int) < (L : Int) := by omega
    clear hn hf hL hl
    go_enter Try.func14, Try.ntmps14
    go_wp2_with (go_at_call 46; refine (HAW.out _).mono ?_; rintro en w4 ⟨rfl, hb⟩; have H4 := Lib.hid hb; clear hb)
    go_ret
    exact ⟨rfl, H4.out⟩
end Go.Proofs.Ytegponbmelgngaa
end
