/-
  AxA BcC BbA AvB AvC AxB BbB BcD AuC BcE in one text.
-/
import Derived.Test.YtiobfgcpbihbhaaGreatDoorBzQ
import Derived.BigQuiet
import Derived.Test.YtiobfgcpbihbhaaGreatDoorAtE
import Derived.Test.YtiobfgcpbihbhaaGreatDoorAtN
import Derived.Test.YtiobfgcpbihbhaaGreatDoorAsF
import Derived.Test.YtiobfgcpbihbhaaGreatDoorAuA
import Derived.Test.YtiobfgcpbihbhaaGreatDoorAtU
namespace Go.Proofs.YtiobfgcpbihbhaaGreatDoor
section
open Go.RowKit P
set_option linter.unusedSimpArgs false
set_option linter.unusedVariables false
set_option maxHeartbeats 1500000
set_option maxRecDepth 100000
theorem rseqs_any (kd : Int) (l : List Int) (v : Value) (w : World) (hr : RdI w v l) (hl : l.length ≤ 2000000) :
    Calls Tryz.prog 58 #[.int .i64 kd, v] w fun e w' => ∃ v', e = .returned v' ∧ OwnP w.heap.size w' v' (seqs kd l) ∧ Below w.heap.size w w' := by
  have HR0 := Lib.hid hr
  have HO0 : Hid (OwnP w.heap.size w (.slice none 0 0) []) := OwnP.nil _ _ (Nat.le_refl _)
  obtain ⟨Z, hZ⟩ : ∃ Z, seqs kd l = Z := ⟨_, rfl⟩
  have HE0 : Hid (([] : List Sg) ++ seqs kd l = Z) := hZ
  rw [hZ]
  have HB0 : Hid (Below w.heap.size w w) := Below.refl _ _
  obtain ⟨ad0, cap0, hf0⟩ := hr.form
  subst hf0
  clear hr hZ
  go_enter Tryz.func58, Tryz.ntmps58
  go_wp2_with fail
  go_loopg [1, 5, 6] (l.length + 1) (fun g s1 s5 s6 wr => ∃ (r : List Int) (o : List Sg) (v1 v5 : Value), o.length + r.length ≤ 2000000 ∧ r.length + 1 ≤ g ∧ v1 = s1 ∧ v5 = s5 ∧ (∃ q, q = s6) ∧ Hid (RdI w v1 r) ∧ Hid (OwnP w.heap.size wr v5 o) ∧ Hid (o ++ seqs kd r = Z) ∧ Hid (Below w.heap.size w wr))
  case atStart => exact ⟨l, [], _, _, by simpa using hl, by omega, rfl, rfl, ⟨_, rfl⟩, HR0, HO0, HE0, HB0⟩
  case round =>
    clear HR0 HO0 HE0 HB0 hl
    obtain ⟨r, o, v1, v5, hlen, hg, rfl, rfl, ⟨u6, rfl⟩, HR, HO, HE, HB⟩ := hrel
    obtain ⟨ad, cap, rfl, h1, h2, hc⟩ := HR.out
    obtain ⟨R, hR⟩ : ∃ R, r.length = R := ⟨_, rfl⟩
    have HRl := Lib.hid hR
    have hcap := h2.1
    rw [hR] at h1 hlen HR hg ⊢
    obtain ⟨oad, ocap, hof⟩ := HO.out.rd.form
    by_cases h0 : R = 0
    · have hr0 : r = [] := List.length_eq_zero_iff.1 (by rw [hR]; exact h0)
      subst hr0
      have HZ : Hid (o = Z) := by show _ = _; rw [← HE.out, seqs_nil, List.append_nil]
      have k1 : decide ((0 : Int) < ((List.length ([] : List Int) : Nat) : Int)) = false := rfl
      have HO2 : Hid (OwnP w.heap.size wr v5 Z) := HZ.out ▸ HO.out
      clear hof
      clear HR HO HE hc h2 hR h1
      go_wp2
      go_ret
      exact ⟨_, rfl, HO2.out, HB.out⟩
    · have hne : r ≠ [] := fun e => h0 (by rw [← hR, e]; rfl)
      obtain ⟨x, hx⟩ : ∃ x, r[0]? = some x := ⟨_, List.getElem?_eq_getElem (by omega)⟩
      obtain ⟨b, off, rfl, hb, hcell⟩ := hc 0 x hx
      have HSC := Lib.hid (seqs_cons kd hne)
      obtain ⟨n, hn⟩ : ∃ n, n = min R 255 := ⟨_, rfl⟩
      have HT : Hid (r.take 255 = r.take n ∧ r.drop 255 = r.drop n) := by
        by_cases h255 : R ≤ 255
        · have e : n = R := by omega
          have : r.length ≤ 255 := by omega
          rw [List.take_of_length_le this, List.drop_eq_nil_of_le this, List.take_of_length_le (by omega), List.drop_eq_nil_of_le (by omega)]
          exact ⟨rfl, rfl⟩
        · have e : n = 255 := by omega
          rw [e]; exact ⟨rfl, rfl⟩
      have hnR : n ≤ R := by omega
      have hn0 : 0 < n := by omega
      have hmi : min (R : Int) 255 = (n : Int) := by omega
      have hmi2 : (if (255 : Int) < (R : Int) then (255 : Int) else (R : Int)) = (n : Int) := by split <;> omega
      have HU : Hid (RdI w (.slice (some ⟨b, off, none⟩) n cap) (r.take 255)) := by
        have := HR.out.part 0 n cap (by omega) (by omega) (by omega)
        show RdI _ _ _
        rw [HT.out.1]; simpa using this
      have HD1 : Hid (RdI w (.slice (some ⟨b, off + n, none⟩) (R - n) (cap - n)) (r.drop 255)) := by
        have := HR.out.part n (R - n) (cap - n) (by omega) (by omega) (by omega)
        show RdI _ _ _
        rw [HT.out.2]
        rw [List.take_of_length_le (by rw [List.length_drop]; omega)] at this
        exact this
      have HD2 : Hid (R = n → ∀ c, c ≤ 9223372036854775807 → RdI w (.slice (some ⟨b, off, none⟩) 0 c) (r.drop 255)) := fun e c hc => by
        rw [HT.out.2, List.drop_eq_nil_of_le (by omega)]; exact rdi_empty ⟨hc, fun e => by cases e⟩
      have HE2 : Hid (o ++ [⟨kd, r.take 255⟩] ++ seqs kd (r.drop 255) = Z) := by show _ = _; rw [← HE.out, HSC.out, List.append_assoc]; rfl
      have hdl : (r.drop 255).length + n = R := by rw [HT.out.2, List.length_drop]; omega
      have hral : (r.take 255).length ≤ 255 := by rw [List.length_take]; omega
      generalize r.take 255 = ra at *
      generalize r.drop 255 = rb at *
      have kp : decide ((0 : Int) < (R : Int)) = true := decide_eq_true (by omega)
      have kp2 : decide (0 < R) = true := decide_eq_true (by omega)
      have k2 : (0 : Int) ≤ (n : Int) := by omega
      have k3 : (n : Int) ≤ (R : Int) := by omega
      have k4 : (n : Int) ≤ (cap : Int) := by omega
      have k5 : (R : Int) ≤ (cap : Int) := by omega
      have hol : o.length ≤ 2000000 := by omega
      have hX : Below wr.heap.size wr (wr.alloc (.cells #[] 3)) := below_alloc _ _
      have HX : Hid (wr.heap.size ≤ (wr.alloc (.cells #[] 3)).heap.size ∧ OwnI wr.heap.size (wr.alloc (.cells #[] 3)) (.slice (some ⟨wr.heap.size, 0, none⟩) 0 0) []) := ⟨hX.size, hX.size, World.ownsRow_made wr #[] 0 (Nat.le_refl _) (Nat.zero_le _) (by simp)⟩
      have HUX : Hid (RdI (wr.alloc (.cells #[] 3)) (.slice (some ⟨b, off, none⟩) n cap) ra) := HU.out.below (below_then HB.out hX)
      have hlen1 : ([] : List Int).length + ra.length ≤ 2000000 := by simp; omega
      have HP1 : Hid (∀ (w1 : World) (a1 : Option Addr) (e1 : Nat), OwnI wr.heap.size w1 (.slice a1 ra.length e1) ra → Below wr.heap.size (wr.alloc (.cells #[] 3)) w1 →
          OwnP w.heap.size (w1.alloc (.cells #[.int .i64 kd, .slice a1 ra.length e1] 46)) v5 o ∧ Below w.heap.size w (w1.alloc (.cells #[.int .i64 kd, .slice a1 ra.length e1] 46)) ∧
          (w1.alloc (.cells #[.int .i64 kd, .slice a1 ra.length e1] 46)).cell? ⟨w1.heap.size, 0, none⟩ = some (.int .i64 kd) ∧ (w1.alloc (.cells #[.int .i64 kd, .slice a1 ra.length e1] 46)).cell? ⟨w1.heap.size, 1, none⟩ = some (.slice a1 ra.length e1) ∧
          (∀ g, (v5.ownBlock = some g ∨ (v5.ownBlock = none ∧ g = (w1.alloc (.cells #[.int .i64 kd, .slice a1 ra.length e1] 46)).heap.size)) → RdN g (w1.alloc (.cells #[.int .i64 kd, .slice a1 ra.length e1] 46)) (.slice a1 ra.length e1) ra)) := fun w1 a1 e1 h1 h2 => by
        have hbb : Below wr.heap.size wr w1 := hX.trans h2
        have hba : Below wr.heap.size wr (w1.alloc (.cells #[.int .i64 kd, .slice a1 ra.length e1] 46)) := hbb.alloc hbb.size _
        refine ⟨HO.out.below hba, below_then HB.out hba, cell_of (heap_alloc_new _ _) rfl, cell_of (heap_alloc_new _ _) rfl, fun g hg => ?_⟩
        rcases hg with e | ⟨_, e⟩
        · have hgl : g < wr.heap.size := by
            rcases HO.out.2 with ⟨e2, _⟩ | ⟨g', cap', q', e2, ho', _⟩
            · rw [e2] at e; cases e
            · rw [e2] at e; cases e; exact (ownsRow_lt (e2 ▸ ho')).2
          exact (h1.away hgl).below (below_alloc _ _)
        · rw [e]
          exact h1.rd.away (by simp) (below_alloc _ _)
      clear hof
      clear HR HO HE HSC HT hc h2 hx hcell hne hR h1 HRl HU hX HB
      clear hn
      by_cases hcn : cap = n
      · have hRn : R = n := by omega
        have HD3 : Hid (∀ c, c ≤ 9223372036854775807 → RdI w (.slice (some ⟨b, off, none⟩) 0 c) rb) := HD2.out hRn
        clear HD2
        subst hcn
        subst hRn
        go_wp2_with (first
          | (at_builtin; refine append_rdI rfl (.tmp 15) (.tmp 18) rfl wr.heap.size HX.out.1 (.slice (some ⟨wr.heap.size, 0, none⟩) 0 0) [] rfl HX.out.2 (.slice (some ⟨b, off, none⟩) R R) ra rfl HUX.out hlen1 ?_; intro w1v w1 hown1 hb1; rw [List.nil_append] at hown1; obtain ⟨a1, e1, hf1⟩ := hown1.rd.form; subst hf1; have P1 := Lib.hid (HP1.out w1 a1 e1 hown1 hb1); clear hown1 hb1)
          | (at_builtin; refine append_seg rfl (.tmp 13) (.tmp 21) rfl w.heap.size P1.out.2.1.size v5 o rfl P1.out.1 w1.heap.size kd _ ra rfl P1.out.2.2.1 P1.out.2.2.2.1 P1.out.2.2.2.2 hol ?_; intro v2 w2 hown hgrow hbl hbk; have S2 := Lib.hid hown; have B2 : Hid (Below w.heap.size w w2) := P1.out.2.1.trans hbl; clear hown hgrow hbl hbk))
        go_roundg (rb.length + 1)
        case measure => omega
        case rel => exact ⟨rb, o ++ [⟨kd, ra⟩], _, _, by rw [List.length_append]; simp; omega, Nat.le_refl _, rfl, rfl, ⟨_, rfl⟩, HD3.out _ (by omega), S2, HE2, B2⟩
      · have k6 : ¬ (cap : Int) = (n : Int) := by omega
        have k7 : (n : Int) < (cap : Int) := by omega
        have k8 : 0 < cap - n := by omega
        go_wp2_with (first
          | (at_builtin; refine append_rdI rfl (.tmp 15) (.tmp 18) rfl wr.heap.size HX.out.1 (.slice (some ⟨wr.heap.size, 0, none⟩) 0 0) [] rfl HX.out.2 (.slice (some ⟨b, off, none⟩) n cap) ra rfl HUX.out hlen1 ?_; intro w1v w1 hown1 hb1; rw [List.nil_append] at hown1; obtain ⟨a1, e1, hf1⟩ := hown1.rd.form; subst hf1; have P1 := Lib.hid (HP1.out w1 a1 e1 hown1 hb1); clear hown1 hb1)
          | (at_builtin; refine append_seg rfl (.tmp 13) (.tmp 21) rfl w.heap.size P1.out.2.1.size v5 o rfl P1.out.1 w1.heap.size kd _ ra rfl P1.out.2.2.1 P1.out.2.2.2.1 P1.out.2.2.2.2 hol ?_; intro v2 w2 hown hgrow hbl hbk; have S2 := Lib.hid hown; have B2 : Hid (Below w.heap.size w w2) := P1.out.2.1.trans hbl; clear hown hgrow hbl hbk))
        go_roundg (rb.length + 1)
        case measure => omega
        case rel => exact ⟨rb, o ++ [⟨kd, ra⟩], _, _, by rw [List.length_append]; simp; omega, Nat.le_refl _, rfl, rfl, ⟨_, rfl⟩, HD1, S2, HE2, B2⟩
end
end Go.Proofs.YtiobfgcpbihbhaaGreatDoor
namespace Go.Proofs.YtiobfgcpbihbhaaGreatDoor
section
open Go.RowKit P
set_option linter.unusedSimpArgs false
set_option linter.unusedVariables false
set_option maxHeartbeats 1500000
set_option maxRecDepth 100000
theorem OwnF.rd {B : Nat} {w : World} {v : Value} {p : List Sg} (h : OwnF B w v p) : RdS w v p := h.own.rd
theorem append_segF {w : World} {ops : Array Oper} {rest : List Oper} {o : Oper} {a : Act} {Q : Exit → Act → World → Prop} (hgd : o.guard = none) (s x : Operand)
    (ho : o.op = .call { callee := .builtin .append, args := #[s, x], argTypes := #[22, 22] }) (B : Nat) (hB : B ≤ w.heap.size)
    (v : Value) (p : List Sg) (hs : a.eval s = v) (hown : OwnF B w v p) (c : Nat) (kd : Int) (u : Value) (ns : List Int) (hx : a.eval x = .slice (some ⟨c, 0, none⟩) 1 1) (hc0 : w.cell? ⟨c, 0, none⟩ = some (.int .i64 kd)) (hc1 : w.cell? ⟨c, 1, none⟩ = some u)
    (hu : ∀ g, (v.ownBlock = some g ∨ (v.ownBlock = none ∧ g = w.heap.size)) → RdN g w u ns) (huF : ∀ h, h < B → RdN h w u ns) (hlen : p.length ≤ 2000000)
    (h : ∀ v' w', OwnF B w' v' (p ++ [⟨kd, ns⟩]) → Below B w w' → wpList Tryz.prog ops Q rest (a.put o.dst v') w') : wpList Tryz.prog ops Q (o :: rest) a w := by
  obtain ⟨i0, hi, hz0, hz1, hz2⟩ := infoE_parts info46
  obtain ⟨g, q, hfr, hq, hrow, hgq⟩ : ∃ g q, Frs B w q p p.length ∧ Prs g w q p ∧ w.ownsRow B 46 2 v p.length (flatQ q) ∧ (v.ownBlock = some g ∨ (v.ownBlock = none ∧ g = w.heap.size)) := by
    rcases hown.2 with ⟨rfl, rfl⟩ | ⟨g, cap, q, rfl, ho', hp, hfr⟩
    · exact ⟨w.heap.size, [], (fun k s h => by simp at h), ⟨rfl, fun k s hk => by simp at hk⟩, World.ownsRow_nil _ _ _ _, .inr ⟨rfl, rfl⟩⟩
    · exact ⟨g, q, hfr, hp, ho', .inl rfl⟩
  have hug := hu g hgq
  have hone : ∀ x ∈ [Value.int .i64 kd, u], x.oneCell' = true := by
    intro x hx
    obtain ⟨ad, cap, e, _⟩ := hug
    simp at hx
    rcases hx with rfl | rfl
    · rfl
    · subst e; rfl
  have hcell : ∀ j x, [Value.int .i64 kd, u][j]? = some x → w.cell? ((⟨c, 0, none⟩ : Addr).add j) = some x := by
    intro j x hj
    match j, hj with
    | 0, hj => simp at hj; subst hj; rw [Addr.add_lit]; exact hc0
    | 1, hj => simp at hj; subst hj; rw [Addr.add_lit]; exact hc1
    | j + 2, hj => simp at hj
  refine wpList_append_lies _ hgd s x 22 ho B 46 i0 (.agg #[.int .i64 0, .slice none 0 0]) 2 32 Tryz.underlying22 hi hz0 hz1 hz2 rfl (by decide) v p.length (flatQ q) hs hrow ⟨c, 0, none⟩ 1 1 [.int .i64 kd, u] hx rfl hcell hone (by decide) (by unfold maxLen; omega) (by omega) hB w.heap.size rfl fun g' cap' w' h1 h2 h3 h4 => ?_
  have hb : Below B w w' := (Below.refl _ w).grown h2 hB (fun k hk => (row_lt hrow hk).1)
  have hgg : g' = g ∨ g' = w.heap.size := by
    rcases h3 with e | e
    · rcases hgq with e2 | ⟨e2, _⟩
      · rw [e] at e2; cases e2; exact .inl rfl
      · rw [e] at e2; cases e2
    · exact .inr e
  have hrk : ∀ k, v.ownBlock = some k → k = g ∨ False := fun k hk => by
    rcases hgq with e2 | ⟨e2, _⟩
    · rw [hk] at e2; cases e2; exact .inl rfl
    · rw [hk] at e2; cases e2
  refine h _ _ ⟨Nat.le_trans hB hb.size, .inr ⟨g', cap', q ++ [(kd, u)], by rw [List.length_append]; rfl, ?_, ?_, ?_⟩⟩ hb
  · rw [flatQ_app, List.length_append]; exact h1
  · refine ⟨by rw [List.length_append, List.length_append, hq.1]; rfl, fun k s hk => ?_⟩
    by_cases hkl : k < p.length
    · rw [List.getElem?_append_left hkl] at hk
      obtain ⟨u', e1, e2⟩ := hq.2 k s hk
      exact ⟨u', by rw [List.getElem?_append_left (by rw [hq.1]; exact hkl)]; exact e1, e2.grown h2 (fun j hj => (hrk j hj).elim id False.elim) hgg⟩
    · have hk2 := (List.getElem?_eq_some_iff.1 hk).1
      rw [List.length_append] at hk2
      have e : k = p.length := by simp at hk2; omega
      subst e
      rw [List.getElem?_append_right (Nat.le_refl _), Nat.sub_self] at hk
      cases hk
      exact ⟨u, by rw [List.getElem?_append_right (by rw [hq.1]; exact Nat.le_refl _), hq.1, Nat.sub_self]; rfl, hug.grown h2 (fun j hj => (hrk j hj).elim id False.elim) hgg⟩
  · intro k s hkn hk
    by_cases hkl : k < p.length
    · rw [List.getElem?_append_left hkl] at hk
      obtain ⟨u', e1, e2⟩ := hq.2 k s hk
      obtain ⟨u2, e3, e4⟩ := hfr k s hkl hk
      rw [e1] at e3
      cases e3
      exact ⟨u', by rw [List.getElem?_append_left (by rw [hq.1]; exact hkl)]; exact e1, fun h hh => (e4 h hh).grown2 e2 h2 (fun j hj => (hrk j hj).elim id False.elim)⟩
    · have hk2 := (List.getElem?_eq_some_iff.1 hk).1
      rw [List.length_append] at hk2
      have e : k = p.length := by simp at hk2; omega
      subst e
      rw [List.getElem?_append_right (Nat.le_refl _), Nat.sub_self] at hk
      cases hk
      exact ⟨u, by rw [List.getElem?_append_right (by rw [hq.1]; exact Nat.le_refl _), hq.1, Nat.sub_self]; rfl, fun h hh => (huF h hh).grown2 hug h2 (fun j hj => (hrk j hj).elim id False.elim)⟩
theorem append_segsF {w : World} {ops : Array Oper} {rest : List Oper} {o : Oper} {a : Act} {Q : Exit → Act → World → Prop} (hgd : o.guard = none) (s x : Operand)
    (ho : o.op = .call { callee := .builtin .append, args := #[s, x], argTypes := #[22, 22] }) (B : Nat) (hB : B ≤ w.heap.size)
    (v : Value) (p : List Sg) (hs : a.eval s = v) (hown : OwnF B w v p) (vx : Value) (r : List Sg) (hx : a.eval x = vx) (C : Nat) (hBC : B ≤ C) (hr : OwnF C w vx r) (hC : ∀ g, v.ownBlock = some g → g < C) (hlen : p.length + r.length ≤ 2000000)
    (h : ∀ v' w', OwnF B w' v' (p ++ r) → Below B w w' → wpList Tryz.prog ops Q rest (a.put o.dst v') w') : wpList Tryz.prog ops Q (o :: rest) a w := by
  obtain ⟨i0, hi, hz0, hz1, hz2⟩ := infoE_parts info46
  obtain ⟨g, q, hfr, hq, hrow, hgq⟩ : ∃ g q, Frs B w q p p.length ∧ Prs g w q p ∧ w.ownsRow B 46 2 v p.length (flatQ q) ∧ (v.ownBlock = some g ∨ (v.ownBlock = none ∧ g = w.heap.size)) := by
    rcases hown.2 with ⟨rfl, rfl⟩ | ⟨g, cap, q, rfl, ho', hp, hfr⟩
    · exact ⟨w.heap.size, [], (fun k s h => by simp at h), ⟨rfl, fun k s hk => by simp at hk⟩, World.ownsRow_nil _ _ _ _, .inr ⟨rfl, rfl⟩⟩
    · exact ⟨g, q, hfr, hp, ho', .inl rfl⟩
  rcases hr.2 with ⟨rfl, rfl⟩ | ⟨gx, cx, qx, rfl, hox, hpx, hfx⟩
  · refine wpList_append_own_none hgd s x 22 ho B 46 i0 2 Tryz.underlying22 hi v p.length (flatQ q) hs hrow hx (h v w ?_ (Below.refl _ _))
    rw [List.append_nil]; exact hown
  · by_cases h0 : r.length = 0
    · have hr0 : r = [] := List.length_eq_zero_iff.1 h0
      subst hr0
      refine wpList_append_own_zero hgd s x 22 ho B 46 i0 2 Tryz.underlying22 hi v p.length (flatQ q) hs hrow ⟨gx, 0, none⟩ cx hx (h v w ?_ (Below.refl _ _))
      rw [List.append_nil]; exact hown
    · have hpg : Prs g w qx r := by
        refine ⟨hpx.1, fun k s hk => ?_⟩
        rcases hgq with e | ⟨_, e⟩
        · obtain ⟨u, a1, a2⟩ := hfx k s (List.getElem?_eq_some_iff.1 hk).1 hk
          exact ⟨u, a1, a2 g (hC g e)⟩
        · obtain ⟨u, a1, a2⟩ := hpx.2 k s hk
          exact ⟨u, a1, by rw [e]; exact a2.rd.away (Nat.le_refl _) (Below.refl _ _)⟩
      have hcell : ∀ j u, (flatQ qx)[j]? = some u → w.cell? ((⟨gx, 0, none⟩ : Addr).add j) = some u := fun j u hj => by
        have hjl := (List.getElem?_eq_some_iff.1 hj).1
        rw [flatQ_len, hpx.1] at hjl
        rw [Addr.add_lit, Nat.zero_add, hox.cellAt j hjl]; exact hj
      refine wpList_append_lies _ hgd s x 22 ho B 46 i0 (.agg #[.int .i64 0, .slice none 0 0]) 2 32 Tryz.underlying22 hi hz0 hz1 hz2 rfl (by decide) v p.length (flatQ q) hs hrow ⟨gx, 0, none⟩ r.length cx (flatQ qx) hx (by rw [flatQ_len, hpx.1]) hcell hpx.one (by omega) (by unfold maxLen; omega) (by omega) hB w.heap.size rfl fun g' cap' w' h1 h2 h3 h4 => ?_
      have hb : Below B w w' := (Below.refl _ w).grown h2 hB (fun k hk => (row_lt hrow hk).1)
      have hgg : g' = g ∨ g' = w.heap.size := by
        rcases h3 with e | e
        · rcases hgq with e2 | ⟨e2, _⟩
          · rw [e] at e2; cases e2; exact .inl rfl
          · rw [e] at e2; cases e2
        · exact .inr e
      have hrk : ∀ k, v.ownBlock = some k → k = g := fun k hk => by
        rcases hgq with e2 | ⟨e2, _⟩
        · rw [hk] at e2; cases e2; rfl
        · rw [hk] at e2; cases e2
      refine h _ _ ⟨Nat.le_trans hB hb.size, .inr ⟨g', cap', q ++ qx, by rw [List.length_append], ?_, ?_, ?_⟩⟩ hb
      · rw [flatQ_app, List.length_append]; exact h1
      · refine ⟨by rw [List.length_append, List.length_append, hq.1, hpx.1], fun k s hk => ?_⟩
        by_cases hkl : k < p.length
        · rw [List.getElem?_append_left hkl] at hk
          obtain ⟨u', e1, e2⟩ := hq.2 k s hk
          exact ⟨u', by rw [List.getElem?_append_left (by rw [hq.1]; exact hkl)]; exact e1, e2.grown h2 hrk hgg⟩
        · rw [List.getElem?_append_right (by omega)] at hk
          obtain ⟨u', e1, e2⟩ := hpg.2 _ s hk
          exact ⟨u', by rw [List.getElem?_append_right (by rw [hq.1]; omega), hq.1]; exact e1, e2.grown h2 hrk hgg⟩
      · intro k s hkn hk
        by_cases hkl : k < p.length
        · rw [List.getElem?_append_left hkl] at hk
          obtain ⟨u', e1, e2⟩ := hq.2 k s hk
          obtain ⟨u2, e3, e4⟩ := hfr k s hkl hk
          rw [e1] at e3
          cases e3
          exact ⟨u', by rw [List.getElem?_append_left (by rw [hq.1]; exact hkl)]; exact e1, fun h hh => (e4 h hh).grown2 e2 h2 hrk⟩
        · rw [List.getElem?_append_right (by omega)] at hk
          obtain ⟨u', e1, e2⟩ := hpg.2 _ s hk
          obtain ⟨u2, e3, e4⟩ := hfx _ s (List.getElem?_eq_some_iff.1 hk).1 hk
          rw [e1] at e3
          cases e3
          exact ⟨u', by rw [List.getElem?_append_right (by rw [hq.1]; omega), hq.1]; exact e1, fun h hh => (e4 h (by omega)).grown2 e2 h2 hrk⟩
theorem rseqsF_any (kd : Int) (l : List Int) (v : Value) (w : World) (hr : RdI w v l) (hl : l.length ≤ 2000000) :
    Calls Tryz.prog 58 #[.int .i64 kd, v] w fun e w' => ∃ v', e = .returned v' ∧ OwnF w.heap.size w' v' (seqs kd l) ∧ Below w.heap.size w w' := by
  have HR0 := Lib.hid hr
  have HO0 : Hid (OwnF w.heap.size w (.slice none 0 0) []) := ⟨Nat.le_refl _, .inl ⟨rfl, rfl⟩⟩
  obtain ⟨Z, hZ⟩ : ∃ Z, seqs kd l = Z := ⟨_, rfl⟩
  have HE0 : Hid (([] : List Sg) ++ seqs kd l = Z) := hZ
  rw [hZ]
  have HB0 : Hid (Below w.heap.size w w) := Below.refl _ _
  obtain ⟨ad0, cap0, hf0⟩ := hr.form
  subst hf0
  clear hr hZ
  go_enter Tryz.func58, Tryz.ntmps58
  go_wp2_with fail
  go_loopg [1, 5, 6] (l.length + 1) (fun g s1 s5 s6 wr => ∃ (r : List Int) (o : List Sg) (v1 v5 : Value), o.length + r.length ≤ 2000000 ∧ r.length + 1 ≤ g ∧ v1 = s1 ∧ v5 = s5 ∧ (∃ q, q = s6) ∧ Hid (RdI w v1 r) ∧ Hid (OwnF w.heap.size wr v5 o) ∧ Hid (o ++ seqs kd r = Z) ∧ Hid (Below w.heap.size w wr))
  case atStart => exact ⟨l, [], _, _, by simpa using hl, by omega, rfl, rfl, ⟨_, rfl⟩, HR0, HO0, HE0, HB0⟩
  case round =>
    clear HR0 HO0 HE0 HB0 hl
    obtain ⟨r, o, v1, v5, hlen, hg, rfl, rfl, ⟨u6, rfl⟩, HR, HO, HE, HB⟩ := hrel
    obtain ⟨ad, cap, rfl, h1, h2, hc⟩ := HR.out
    obtain ⟨R, hR⟩ : ∃ R, r.length = R := ⟨_, rfl⟩
    have HRl := Lib.hid hR
    have hcap := h2.1
    rw [hR] at h1 hlen HR hg ⊢
    obtain ⟨oad, ocap, hof⟩ := HO.out.rd.form
    by_cases h0 : R = 0
    · have hr0 : r = [] := List.length_eq_zero_iff.1 (by rw [hR]; exact h0)
      subst hr0
      have HZ : Hid (o = Z) := by show _ = _; rw [← HE.out, seqs_nil, List.append_nil]
      have k1 : decide ((0 : Int) < ((List.length ([] : List Int) : Nat) : Int)) = false := rfl
      have HO2 : Hid (OwnF w.heap.size wr v5 Z) := HZ.out ▸ HO.out
      clear hof
      clear HR HO HE hc h2 hR h1
      go_wp2
      go_ret
      exact ⟨_, rfl, HO2.out, HB.out⟩
    · have hne : r ≠ [] := fun e => h0 (by rw [← hR, e]; rfl)
      obtain ⟨x, hx⟩ : ∃ x, r[0]? = some x := ⟨_, List.getElem?_eq_getElem (by omega)⟩
      obtain ⟨b, off, rfl, hb, hcell⟩ := hc 0 x hx
      have HSC := Lib.hid (seqs_cons kd hne)
      obtain ⟨n, hn⟩ : ∃ n, n = min R 255 := ⟨_, rfl⟩
      have HT : Hid (r.take 255 = r.take n ∧ r.drop 255 = r.drop n) := by
        by_cases h255 : R ≤ 255
        · have e : n = R := by omega
          have : r.length ≤ 255 := by omega
          rw [List.take_of_length_le this, List.drop_eq_nil_of_le this, List.take_of_length_le (by omega), List.drop_eq_nil_of_le (by omega)]
          exact ⟨rfl, rfl⟩
        · have e : n = 255 := by omega
          rw [e]; exact ⟨rfl, rfl⟩
      have hnR : n ≤ R := by omega
      have hn0 : 0 < n := by omega
      have hmi : min (R : Int) 255 = (n : Int) := by omega
      have hmi2 : (if (255 : Int) < (R : Int) then (255 : Int) else (R : Int)) = (n : Int) := by split <;> omega
      have HU : Hid (RdI w (.slice (some ⟨b, off, none⟩) n cap) (r.take 255)) := by
        have := HR.out.part 0 n cap (by omega) (by omega) (by omega)
        show RdI _ _ _
        rw [HT.out.1]; simpa using this
      have HD1 : Hid (RdI w (.slice (some ⟨b, off + n, none⟩) (R - n) (cap - n)) (r.drop 255)) := by
        have := HR.out.part n (R - n) (cap - n) (by omega) (by omega) (by omega)
        show RdI _ _ _
        rw [HT.out.2]
        rw [List.take_of_length_le (by rw [List.length_drop]; omega)] at this
        exact this
      have HD2 : Hid (R = n → ∀ c, c ≤ 9223372036854775807 → RdI w (.slice (some ⟨b, off, none⟩) 0 c) (r.drop 255)) := fun e c hc => by
        rw [HT.out.2, List.drop_eq_nil_of_le (by omega)]; exact rdi_empty ⟨hc, fun e => by cases e⟩
      have HE2 : Hid (o ++ [⟨kd, r.take 255⟩] ++ seqs kd (r.drop 255) = Z) := by show _ = _; rw [← HE.out, HSC.out, List.append_assoc]; rfl
      have hdl : (r.drop 255).length + n = R := by rw [HT.out.2, List.length_drop]; omega
      have hral : (r.take 255).length ≤ 255 := by rw [List.length_take]; omega
      generalize r.take 255 = ra at *
      generalize r.drop 255 = rb at *
      have kp : decide ((0 : Int) < (R : Int)) = true := decide_eq_true (by omega)
      have kp2 : decide (0 < R) = true := decide_eq_true (by omega)
      have k2 : (0 : Int) ≤ (n : Int) := by omega
      have k3 : (n : Int) ≤ (R : Int) := by omega
      have k4 : (n : Int) ≤ (cap : Int) := by omega
      have k5 : (R : Int) ≤ (cap : Int) := by omega
      have hol : o.length ≤ 2000000 := by omega
      have hX : Below wr.heap.size wr (wr.alloc (.cells #[] 3)) := below_alloc _ _
      have HX : Hid (wr.heap.size ≤ (wr.alloc (.cells #[] 3)).heap.size ∧ OwnI wr.heap.size (wr.alloc (.cells #[] 3)) (.slice (some ⟨wr.heap.size, 0, none⟩) 0 0) []) := ⟨hX.size, hX.size, World.ownsRow_made wr #[] 0 (Nat.le_refl _) (Nat.zero_le _) (by simp)⟩
      have HUX : Hid (RdI (wr.alloc (.cells #[] 3)) (.slice (some ⟨b, off, none⟩) n cap) ra) := HU.out.below (below_then HB.out hX)
      have hlen1 : ([] : List Int).length + ra.length ≤ 2000000 := by simp; omega
      have HP1 : Hid (∀ (w1 : World) (a1 : Option Addr) (e1 : Nat), OwnI wr.heap.size w1 (.slice a1 ra.length e1) ra → Below wr.heap.size (wr.alloc (.cells #[] 3)) w1 →
          OwnF w.heap.size (w1.alloc (.cells #[.int .i64 kd, .slice a1 ra.length e1] 46)) v5 o ∧ Below w.heap.size w (w1.alloc (.cells #[.int .i64 kd, .slice a1 ra.length e1] 46)) ∧
          (w1.alloc (.cells #[.int .i64 kd, .slice a1 ra.length e1] 46)).cell? ⟨w1.heap.size, 0, none⟩ = some (.int .i64 kd) ∧ (w1.alloc (.cells #[.int .i64 kd, .slice a1 ra.length e1] 46)).cell? ⟨w1.heap.size, 1, none⟩ = some (.slice a1 ra.length e1) ∧
          (∀ g, (v5.ownBlock = some g ∨ (v5.ownBlock = none ∧ g = (w1.alloc (.cells #[.int .i64 kd, .slice a1 ra.length e1] 46)).heap.size)) → RdN g (w1.alloc (.cells #[.int .i64 kd, .slice a1 ra.length e1] 46)) (.slice a1 ra.length e1) ra) ∧ ∀ h, h < w.heap.size → RdN h (w1.alloc (.cells #[.int .i64 kd, .slice a1 ra.length e1] 46)) (.slice a1 ra.length e1) ra) := fun w1 a1 e1 h1 h2 => by
        have hbb : Below wr.heap.size wr w1 := hX.trans h2
        have hba : Below wr.heap.size wr (w1.alloc (.cells #[.int .i64 kd, .slice a1 ra.length e1] 46)) := hbb.alloc hbb.size _
        refine ⟨HO.out.below hba, below_then HB.out hba, cell_of (heap_alloc_new _ _) rfl, cell_of (heap_alloc_new _ _) rfl, fun g hg => ?_, fun h hh => (h1.away (Nat.lt_of_lt_of_le hh HB.out.size)).below (below_alloc _ _)⟩
        rcases hg with e | ⟨_, e⟩
        · have hgl : g < wr.heap.size := by
            rcases HO.out.2 with ⟨e2, _⟩ | ⟨g', cap', q', e2, ho', _, _⟩
            · rw [e2] at e; cases e
            · rw [e2] at e; cases e; exact (ownsRow_lt (e2 ▸ ho')).2
          exact (h1.away hgl).below (below_alloc _ _)
        · rw [e]
          exact h1.rd.away (by simp) (below_alloc _ _)
      clear hof
      clear HR HO HE HSC HT hc h2 hx hcell hne hR h1 HRl HU hX HB
      clear hn
      by_cases hcn : cap = n
      · have hRn : R = n := by omega
        have HD3 : Hid (∀ c, c ≤ 9223372036854775807 → RdI w (.slice (some ⟨b, off, none⟩) 0 c) rb) := HD2.out hRn
        clear HD2
        subst hcn
        subst hRn
        go_wp2_with (first
          | (at_builtin; refine append_rdI rfl (.tmp 15) (.tmp 18) rfl wr.heap.size HX.out.1 (.slice (some ⟨wr.heap.size, 0, none⟩) 0 0) [] rfl HX.out.2 (.slice (some ⟨b, off, none⟩) R R) ra rfl HUX.out hlen1 ?_; intro w1v w1 hown1 hb1; rw [List.nil_append] at hown1; obtain ⟨a1, e1, hf1⟩ := hown1.rd.form; subst hf1; have P1 := Lib.hid (HP1.out w1 a1 e1 hown1 hb1); clear hown1 hb1)
          | (at_builtin; refine append_segF rfl (.tmp 13) (.tmp 21) rfl w.heap.size P1.out.2.1.size v5 o rfl P1.out.1 w1.heap.size kd _ ra rfl P1.out.2.2.1 P1.out.2.2.2.1 P1.out.2.2.2.2.1 P1.out.2.2.2.2.2 hol ?_; intro v2 w2 hown hbl; have S2 := Lib.hid hown; have B2 : Hid (Below w.heap.size w w2) := P1.out.2.1.trans hbl; clear hown hbl))
        go_roundg (rb.length + 1)
        case measure => omega
        case rel => exact ⟨rb, o ++ [⟨kd, ra⟩], _, _, by rw [List.length_append]; simp; omega, Nat.le_refl _, rfl, rfl, ⟨_, rfl⟩, HD3.out _ (by omega), S2, HE2, B2⟩
      · have k6 : ¬ (cap : Int) = (n : Int) := by omega
        have k7 : (n : Int) < (cap : Int) := by omega
        have k8 : 0 < cap - n := by omega
        go_wp2_with (first
          | (at_builtin; refine append_rdI rfl (.tmp 15) (.tmp 18) rfl wr.heap.size HX.out.1 (.slice (some ⟨wr.heap.size, 0, none⟩) 0 0) [] rfl HX.out.2 (.slice (some ⟨b, off, none⟩) n cap) ra rfl HUX.out hlen1 ?_; intro w1v w1 hown1 hb1; rw [List.nil_append] at hown1; obtain ⟨a1, e1, hf1⟩ := hown1.rd.form; subst hf1; have P1 := Lib.hid (HP1.out w1 a1 e1 hown1 hb1); clear hown1 hb1)
          | (at_builtin; refine append_segF rfl (.tmp 13) (.tmp 21) rfl w.heap.size P1.out.2.1.size v5 o rfl P1.out.1 w1.heap.size kd _ ra rfl P1.out.2.2.1 P1.out.2.2.2.1 P1.out.2.2.2.2.1 P1.out.2.2.2.2.2 hol ?_; intro v2 w2 hown hbl; have S2 := Lib.hid hown; have B2 : Hid (Below w.heap.size w w2) := P1.out.2.1.trans hbl; clear hown hbl))
        go_roundg (rb.length + 1)
        case measure => omega
        case rel => exact ⟨rb, o ++ [⟨kd, ra⟩], _, _, by rw [List.length_append]; simp; omega, Nat.le_refl _, rfl, rfl, ⟨_, rfl⟩, HD1, S2, HE2, B2⟩
end
end Go.Proofs.YtiobfgcpbihbhaaGreatDoor
namespace Go.Proofs.YtiobfgcpbihbhaaGreatDoor
section
open Go.RowKit P
set_option linter.unusedSimpArgs false
set_option linter.unusedVariables false
set_option maxHeartbeats 1500000
set_option maxRecDepth 100000
theorem P.jlen (c : UInt8) : ∀ l : List Int, (∀ x ∈ l, I64 x) → (Lib.join (decs l) [c]).length ≤ 22 * l.length
  | [], _ => by simp [decs, Lib.join, List.intercalate]
  | [x], h => by
    have := itoa_len (h x (by simp))
    rw [show decs [x] = [Lib.itoa x] from rfl, Lib.join_one]; simp; omega
  | x :: y :: r, h => by
    have h1 := itoa_len (h x (by simp))
    have h2 := jlen c (y :: r) fun z hz => h z (List.mem_cons_of_mem _ hz)
    rw [show decs (x :: y :: r) = Lib.itoa x :: decs (y :: r) from rfl, join_ne _ _ _ (by simp [decs]), List.length_append, List.length_append]
    simp only [List.length_cons, List.length_nil] at h2 ⊢
    omega
theorem P.jsnoc (c : UInt8) {l : List Int} {k : Nat} {x : Int} (hx : l[k]? = some x) (hk : k ≠ 0) : Lib.join (decs (l.take (k + 1))) [c] = Lib.join (decs (l.take k)) [c] ++ [c] ++ Lib.itoa x := by
  have hl := (List.getElem?_eq_some_iff.1 hx).1
  rw [List.take_add_one, hx]
  show Lib.join (decs (l.take k ++ [x])) [c] = _
  rw [show decs (l.take k ++ [x]) = decs (l.take k) ++ [Lib.itoa x] from List.map_append, join_app _ _ _ (by
    intro e
    have := congrArg List.length e
    unfold decs at this
    rw [List.length_map, List.length_take, List.length_nil] at this
    omega) (by simp), Lib.join_one]
theorem P.jone (c : UInt8) {l : List Int} {x : Int} (hx : l[0]? = some x) : Lib.join (decs (l.take 1)) [c] = Lib.itoa x := by
  rw [List.take_add_one, hx, List.take_zero, List.nil_append]
  exact Lib.join_one _ _
theorem rword_any (o en : List UInt8) (c : UInt8) (l : List Int) (v : Value) (w : World) (hv : RdI w v l) (hn : ∀ x ∈ l, I64 x) (hl : l.length ≤ 100000) (ho : o.length ≤ 10) (he : en.length ≤ 10) :
    Calls Tryz.prog 62 #[.string (bs o), v, .string (bs [c]), .string (bs en)] w fun e w' => e = .returned (.string (bs (o ++ Lib.join (decs l) [c] ++ en))) ∧ Below w.heap.size w w' := by
  obtain ⟨ad, cap, rfl, h1, h2, hc⟩ := hv
  have HC := Lib.hid hc
  have HNN := Lib.hid hn
  obtain ⟨N, hN⟩ : ∃ N, l.length = N := ⟨_, rfl⟩
  rw [hN] at h1 hl ⊢
  have HN := Lib.hid hN
  have HJL : Hid (∀ k, (bs (o ++ Lib.join (decs (l.take k)) [c])).size ≤ 3000000) := fun k => by
    have h := P.jlen c (l.take k) fun z hz => hn z (List.mem_of_mem_take hz)
    rw [bs_size, List.length_append]
    rw [List.length_take] at h
    omega
  have HDL : Hid (∀ x ∈ l, (bs (Lib.itoa x)).size ≤ 21) := fun x hx => by rw [bs_size]; exact itoa_len (hn x hx)
  obtain ⟨Z, hZ⟩ : ∃ Z, bs [c] = Z := ⟨_, rfl⟩
  have hZs : Z.size = 1 := by rw [← hZ]; rfl
  have HZ := Lib.hid hZ
  obtain ⟨E, hE⟩ : ∃ E, bs en = E := ⟨_, rfl⟩
  have hEs : E.size ≤ 10 := by rw [← hE, bs_size]; exact he
  have HE := Lib.hid hE
  have HR0 : Hid (o = o ++ Lib.join (decs (l.take 0)) [c]) := by show _ = _; simp [decs, Lib.join, List.intercalate]
  have HS0 : Hid (Below w.heap.size w w) := Below.refl _ _
  rw [hZ, hE]
  clear hc hn hN hZ hE h2
  go_enter Tryz.func62, Tryz.ntmps62
  go_wp2_with fail
  go_loopg [9, 10, 11, 15] (N + 1) (fun g s9 s10 s11 s15 wr => ∃ k : Nat, k ≤ N ∧ N + 1 - k ≤ g ∧ s9 = .string (bs (o ++ Lib.join (decs (l.take k)) [c])) ∧ (∃ q, q = s10) ∧ (∃ q, q = s11) ∧ s15 = .int .i64 (k : Int) ∧ Hid (Below w.heap.size w wr))
  case atStart => exact ⟨0, by omega, by omega, by rw [← HR0.out], ⟨_, rfl⟩, ⟨_, rfl⟩, rfl, HS0⟩
  case round =>
    clear HS0 HR0
    obtain ⟨k, hk, hkg, rfl, ⟨u10, rfl⟩, ⟨u11, rfl⟩, rfl, HS⟩ := hrel
    have hsz := HJL.out k
    by_cases hlt : k < N
    · obtain ⟨x, hx⟩ : ∃ x, l[k]? = some x := ⟨_, List.getElem?_eq_getElem (by have := HN.out; omega)⟩
      have HX := Lib.hid hx
      have HD := Lib.hid (rdecimal_any x wr (HNN.out x (List.mem_of_getElem? hx)))
      have hds := HDL.out x (List.mem_of_getElem? hx)
      obtain ⟨b, off, rfl, hb, cx⟩ := HC.out k x hx
      have dx := carry HS.out cx
      have k0 : (0 : Int) ≤ (k : Int) := by omega
      have k1 : (k : Int) < (N : Int) := by omega
      by_cases hk0 : k = 0
      · subst hk0
        have dx0 : wr.cell? ⟨b, off, none⟩ = some (.int .i64 x) := by simpa using dx
        have k2 : (0 : Int) < (N : Int) := by simpa using k1
        have HNX : Hid (bs (o ++ Lib.join (decs (l.take 0)) [c]) ++ bs (Lib.itoa x) = bs (o ++ Lib.join (decs (l.take (0 + 1))) [c])) := by
          show _ = _
          rw [P.jone c HX.out, bs_app]
          simp [decs, Lib.join, List.intercalate]
        generalize bs (o ++ Lib.join (decs (l.take 0)) [c]) = S at *
        generalize bs (Lib.itoa x) = D at *
        have z1 : ¬ 9223372036854775807 < S.size + D.size := by omega
        clear hx cx HX hds hsz
        go_wp2_with (go_at_call 88; refine HD.out.mono ?_; rintro e w1 ⟨rfl, hb1⟩; have HB1 := Lib.hid (below_then HS.out hb1); clear hb1 HD)
        go_roundg (N + 1 - (0 + 1))
        case measure => omega
        case rel => exact ⟨0 + 1, by omega, Nat.le_refl _, by rw [HNX.out], ⟨_, rfl⟩, ⟨_, rfl⟩, by go_num, HB1⟩
      · have HNX : Hid (bs (o ++ Lib.join (decs (l.take k)) [c]) ++ Z ++ bs (Lib.itoa x) = bs (o ++ Lib.join (decs (l.take (k + 1))) [c])) := by
          show _ = _
          rw [P.jsnoc c HX.out hk0, ← HZ.out, bs_app, bs_app]
          simp
        generalize bs (o ++ Lib.join (decs (l.take k)) [c]) = S at *
        generalize bs (Lib.itoa x) = D at *
        have z0 : ¬ 9223372036854775807 < S.size + Z.size := by omega
        have z1 : ¬ 9223372036854775807 < (S ++ Z).size + D.size := by rw [ByteArray.size_append]; omega
        have z2 : ¬ 9223372036854775807 < S.size + Z.size + D.size := by omega
        have k2 : (0 : Int) < (k : Int) := by omega
        have k3 : 0 < k := by omega
        have k4 : decide ((0 : Int) < (k : Int)) = true := decide_eq_true k2
        clear hx cx HX hds hsz
        go_wp2_with (go_at_call 88; refine HD.out.mono ?_; rintro e w1 ⟨rfl, hb1⟩; have HB1 := Lib.hid (below_then HS.out hb1); clear hb1 HD)
        go_roundg (N + 1 - (k + 1))
        case measure => omega
        case rel => exact ⟨k + 1, by omega, Nat.le_refl _, by rw [HNX.out], ⟨_, rfl⟩, ⟨_, rfl⟩, by go_num, HB1⟩
    · have k1 : decide ((k : Int) < (N : Int)) = false := decide_eq_false (by omega)
      have HEND : Hid (bs (o ++ Lib.join (decs (l.take k)) [c]) ++ E = bs (o ++ Lib.join (decs l) [c] ++ en)) := by
        show _ = _
        rw [List.take_of_length_le (by rw [HN.out]; omega), ← HE.out, bs_app]
      generalize bs (o ++ Lib.join (decs (l.take k)) [c]) = S at *
      have z0 : ¬ 9223372036854775807 < S.size + E.size := by omega
      go_wp2
      go_ret
      exact ⟨by rw [HEND.out] <;> rfl, HS.out⟩
end
end Go.Proofs.YtiobfgcpbihbhaaGreatDoor
namespace Go.Proofs.YtiobfgcpbihbhaaGreatDoor
section
open Go.RowKit P
set_option linter.unusedSimpArgs false
set_option linter.unusedVariables false
set_option maxHeartbeats 1500000
set_option maxRecDepth 100000
theorem segR_any (p : List Sg) (i : Nat) (s : Sg) (v : Value) (w : World) (hv : RdS w v p) (hs : p[i]? = some s) :
    Calls Tryz.prog 41 #[v, .int .i64 (i : Int)] w fun e w' => e = .returned (.int .i64 (segR p i s)) ∧ Below w.heap.size w w' := by
  obtain ⟨ad, cap, rfl, h1, h2, hc⟩ := hv
  have hil := (List.getElem?_eq_some_iff.1 hs).1
  obtain ⟨b, off, u, rfl, hb, c0, c1, hu⟩ := hc i s hs
  obtain ⟨n, hn⟩ : ∃ n, p.length = n := ⟨_, rfl⟩
  rw [hn] at h1 hil ⊢
  have hcap := h2.1
  have HN := Lib.hid hn
  have HP : Hid (∀ k t, p[k]? = some t → ∃ u, w.cell? ⟨b, off + k * 2, none⟩ = some (.int .i64 t.k) ∧ w.cell? ⟨b, off + k * 2 + 1, none⟩ = some u ∧ RdI w u t.as) := fun k t hk => by
    obtain ⟨b', off', u', e, _, d0, d1, hu'⟩ := hc k t hk
    cases e
    exact ⟨u', d0, d1, hu'⟩
  obtain ⟨uad, ucap, rfl, l1, l2, hcc⟩ := hu
  have HCC := Lib.hid hcc
  have HNE : Hid (s.as = [] ↔ s.as.length = 0) := by show _ ↔ _; rw [List.length_eq_zero_iff]
  obtain ⟨L, hL⟩ : ∃ L, s.as.length = L := ⟨_, rfl⟩
  rw [hL] at c1 l1 HNE
  have HL := Lib.hid hL
  have hLc := l2.1
  have HSI := Lib.hid hs
  have i0 : (0 : Int) ≤ (i : Int) := by omega
  have i1 : (i : Int) < (n : Int) := by omega
  have HW0 : Hid (Below w.heap.size w (w.alloc (.cells #[.int .i64 s.k, .slice uad L ucap] 46))) := below_alloc _ _
  have g0 : (w.alloc (.cells #[.int .i64 s.k, .slice uad L ucap] 46)).cell? ⟨w.heap.size, 0, none⟩ = some (.int .i64 s.k) := cell_of (heap_alloc_new _ _) rfl
  have g1 : (w.alloc (.cells #[.int .i64 s.k, .slice uad L ucap] 46)).cell? ⟨w.heap.size, 1, none⟩ = some (.slice uad L ucap) := cell_of (heap_alloc_new _ _) rfl
  have HCS : Hid (∀ W, Calls Tryz.prog 61 #[.int .i64 s.k] W fun e w' => e = .returned (.bool (isSet s.k)) ∧ w' = W) := fun W => set61_same s.k W
  have HCF : Hid (∀ W, Calls Tryz.prog 51 #[.int .i64 s.k] W fun e w' => e = .returned (.bool (isConf s.k)) ∧ w' = W) := fun W => conf51_same s.k W
  clear hc hn hL hcc l1 l2 h2 hs
  have HRE : Hid (∀ e : Int, segE s = e → e ≠ 0 → segR p i s = e) := fun e h1 h2 => segR_err h1 h2
  by_cases hk : s.k < 1 ∨ 4 < s.k
  · have HR : Hid (segR p i s = 15) := HRE.out 15 (segE15 hk) (by omega)
    by_cases hk1 : s.k < 1
    · go_enter Tryz.func41, Tryz.ntmps41
      go_wp2
      go_ret
      exact ⟨by rw [HR.out] <;> rfl, HW0.out⟩
    · have e1 : decide (s.k < 1) = false := decide_eq_false hk1
      have e2 : decide ((4 : Int) < s.k) = true := decide_eq_true (by omega)
      go_enter Tryz.func41, Tryz.ntmps41
      go_wp2
      go_ret
      exact ⟨by rw [HR.out] <;> rfl, HW0.out⟩
  have HK := Lib.hid hk
  have e1 : decide (s.k < 1) = false := decide_eq_false (by omega)
  have e2 : decide ((4 : Int) < s.k) = false := decide_eq_false (by omega)
  clear hk
  by_cases hl0 : L = 0
  · have HR : Hid (segR p i s = 1) := HRE.out 1 (segE1 HK.out (HNE.out.2 hl0)) (by omega)
    subst hl0
    go_enter Tryz.func41, Tryz.ntmps41
    go_wp2
    go_ret
    exact ⟨by rw [HR.out] <;> rfl, HW0.out⟩
  have HNE2 : Hid (s.as ≠ []) := fun e => hl0 (HNE.out.1 e)
  have e3 : ((L : Int) == 0) = false := by simpa using hl0
  have e3' : decide ((L : Int) = 0) = false := decide_eq_false (by omega)
  by_cases hl2 : 255 < L
  · have HR : Hid (segR p i s = 4) := HRE.out 4 (segE4 HK.out HNE2.out (by rw [HL.out]; exact hl2)) (by omega)
    have e4 : decide ((255 : Int) < (L : Int)) = true := decide_eq_true (by omega)
    clear HNE
    go_enter Tryz.func41, Tryz.ntmps41
    go_wp2
    go_ret
    exact ⟨by rw [HR.out] <;> rfl, HW0.out⟩
  have HL2 : Hid (¬ 255 < s.as.length) := by show ¬ _; rw [HL.out]; exact hl2
  have e4 : decide ((255 : Int) < (L : Int)) = false := decide_eq_false (by omega)
  have hL1 : 1 ≤ L := by omega
  clear HNE hl0
  go_enter Tryz.func41, Tryz.ntmps41
  go_wp2_with fail
  have HP0 : Hid (∀ k t, p[k]? = some t → ∃ u, (w.alloc (.cells #[.int .i64 s.k, .slice uad L ucap] 46)).cell? ⟨b, off + k * 2, none⟩ = some (.int .i64 t.k) ∧ (w.alloc (.cells #[.int .i64 s.k, .slice uad L ucap] 46)).cell? ⟨b, off + k * 2 + 1, none⟩ = some u ∧ RdI w u t.as) := fun k t hk => by
    obtain ⟨u, a, b, c⟩ := HP.out k t hk
    exact ⟨u, carry HW0.out a, carry HW0.out b, c⟩
  have HCC0 : Hid (∀ k x, s.as[k]? = some x → ∃ b off, uad = some ⟨b, off, none⟩ ∧ (w.alloc (.cells #[.int .i64 s.k, .slice uad L ucap] 46)).cell? ⟨b, off + k, none⟩ = some (.int .i64 x)) := fun k x hk => by
    obtain ⟨b, off, e, _, c⟩ := HCC.out k x hk
    exact ⟨b, off, e, carry HW0.out c⟩
  clear c0 c1 HP HCC
  generalize hWW : w.alloc (.cells #[.int .i64 s.k, .slice uad L ucap] 46) = W0 at *
  have HN0 : Hid (∀ (j : Nat) (x : Int), j < 0 → s.as[j]? = some x → isNum x = true) := fun j x h => by omega
  have HS0 : Hid (Below W0.heap.size W0 W0) := Below.refl _ _
  clear hWW
  go_loopg [7, 34] (L + 1) (fun g s7 s34 wr => ∃ m : Nat, m ≤ L ∧ L + 1 - m ≤ g ∧ s34 = .int .i64 (m : Int) ∧ (∃ q, q = s7) ∧ Hid (∀ (j : Nat) (x : Int), j < m → s.as[j]? = some x → isNum x = true) ∧ Hid (Below W0.heap.size W0 wr))
  case atStart => exact ⟨0, by omega, by omega, rfl, ⟨_, rfl⟩, HN0, HS0⟩
  case round =>
    clear HN0 HS0
    obtain ⟨m, hm, hmg, rfl, ⟨u7, rfl⟩, HI, HS⟩ := hrel
    by_cases hml : m < L
    · obtain ⟨x, hx⟩ : ∃ x, s.as[m]? = some x := ⟨_, List.getElem?_eq_getElem (by have := HL.out; omega)⟩
      have HX := Lib.hid hx
      obtain ⟨b1, o1, rfl, d1⟩ := HCC0.out m x hx
      have d1 := carry HS.out d1
      have j0 : (0 : Int) ≤ (m : Int) := by omega
      have j1 : (m : Int) < (L : Int) := by omega
      clear hx
      by_cases hx1 : x < 1
      · have HR : Hid (segR p i s = 5) := HRE.out 5 (segE5 HK.out HNE2.out HL2.out HX.out (by unfold isNum; exact decide_eq_false (by omega))) (by omega)
        have f1 : decide (x < 1) = true := decide_eq_true hx1
        have HB2 := Lib.hid (HW0.out.trans (HS.out.mono HW0.out.size))
        clear HI HX
        go_wp2
        go_ret
        exact ⟨by rw [HR.out] <;> rfl, HB2.out⟩
      by_cases hx2 : 4294967295 < x
      · have HR : Hid (segR p i s = 5) := HRE.out 5 (segE5 HK.out HNE2.out HL2.out HX.out (by unfold isNum; exact decide_eq_false (by omega))) (by omega)
        have f1 : decide (x < 1) = false := decide_eq_false hx1
        have f2 : decide ((4294967295 : Int) < x) = true := decide_eq_true hx2
        have HB2 := Lib.hid (HW0.out.trans (HS.out.mono HW0.out.size))
        clear HI HX hx1
        go_wp2
        go_ret
        exact ⟨by rw [HR.out] <;> rfl, HB2.out⟩
      · have f1 : decide (x < 1) = false := decide_eq_false hx1
        have f2 : decide ((4294967295 : Int) < x) = false := decide_eq_false hx2
        have HI2 : Hid (∀ (j : Nat) (x : Int), j < m + 1 → s.as[j]? = some x → isNum x = true) := fun j y hj hy => by
          by_cases e : j = m
          · subst e
            have h := HX.out
            rw [hy] at h; cases h
            unfold isNum; exact decide_eq_true (by omega)
          · exact HI.out j y (by omega) hy
        clear HI HX hx1 hx2
        go_wp2_with fail
        go_roundg (L + 1 - (m + 1))
        case measure => omega
        case rel => exact ⟨m + 1, by omega, Nat.le_refl _, by go_num, ⟨_, rfl⟩, HI2, HS⟩
    have k1 : decide ((m : Int) < (L : Int)) = false := decide_eq_false (by omega)
    have HNUM : Hid (∀ (j : Nat) (x : Int), s.as[j]? = some x → isNum x = true) := fun j x hx => HI.out j x (by have := (List.getElem?_eq_some_iff.1 hx).1; have := HL.out; omega) hx
    have HA0 : Hid (isSet s.k = true → ∀ (j : Nat) (x y : Int), j + 1 < 1 → s.as[j]? = some x → s.as[j + 1]? = some y → x < y) := fun _ j x y h => by omega
    clear HI
    go_wp2_with fail
    go_loopg [8] (L + 1) (fun g s8 wr => ∃ m : Nat, 1 ≤ m ∧ m ≤ L ∧ L + 1 - m ≤ g ∧ s8 = .int .i64 (m : Int) ∧ Hid (isSet s.k = true → ∀ (j : Nat) (x y : Int), j + 1 < m → s.as[j]? = some x → s.as[j + 1]? = some y → x < y) ∧ Hid (Below W0.heap.size W0 wr))
    case atStart => exact ⟨1, by omega, by omega, by omega, rfl, HA0, HS⟩
    case round =>
      clear HA0 HS k1
      obtain ⟨m, hm1, hm, hmg, rfl, HA, HS⟩ := hrel
      have d0 := carry HS.out g0
      have d1 := carry HS.out g1
      by_cases hml : m < L
      · have j0 : (0 : Int) ≤ (m : Int) := by omega
        have j1 : (m : Int) < (L : Int) := by omega
        have j2 : (0 : Int) ≤ (m : Int) - 1 := by omega
        have j3 : (m : Int) - 1 < (L : Int) := by omega
        have j4 : IntKind.i64.wrap ((m : Int) - 1) = (m : Int) - 1 := IntWalk.i64_in _ (by omega)
        have j5 : ((m : Int) - 1).toNat = m - 1 := by omega
        have k1 : decide ((m : Int) < (L : Int)) = true := decide_eq_true (by omega)
        cases hset : isSet s.k with
        | false =>
          rw [hset] at HCS
          have HA2 : Hid (isSet s.k = true → ∀ (j : Nat) (x y : Int), j + 1 < m + 1 → s.as[j]? = some x → s.as[j + 1]? = some y → x < y) := fun h => by rw [hset] at h; cases h
          clear HA hset
          go_wp2_with fail
          go_quiet (first | (go_at_call 61; exact Calls.quiet_of_same (HCS.out _)))
          go_wp2_with fail
          go_roundg (L + 1 - (m + 1))
          case measure => omega
          case rel => exact ⟨m + 1, by omega, by omega, Nat.le_refl _, by go_num, HA2, below_drewN HS.out _⟩
        | true =>
          rw [hset] at HCS
          obtain ⟨x, hx⟩ : ∃ x, s.as[m - 1]? = some x := ⟨_, List.getElem?_eq_getElem (by have := HL.out; omega)⟩
          obtain ⟨y, hy⟩ : ∃ y, s.as[m]? = some y := ⟨_, List.getElem?_eq_getElem (by have := HL.out; omega)⟩
          have HXY := Lib.hid (And.intro hx hy)
          obtain ⟨b1, o1, rfl, d2⟩ := HCC0.out (m - 1) x hx
          obtain ⟨b1', o1', e', d3⟩ := HCC0.out m y hy
          cases e'
          have d2 := carry HS.out d2
          have d3 := carry HS.out d3
          clear hx hy
          by_cases hxy : x < y
          · have q1 : decide (y ≤ x) = false := decide_eq_false (by omega)
            have HA2 : Hid (isSet s.k = true → ∀ (j : Nat) (x y : Int), j + 1 < m + 1 → s.as[j]? = some x → s.as[j + 1]? = some y → x < y) := fun h j x' y' hj hx' hy' => by
              by_cases e : j + 1 = m
              · subst e
                have h1 := HXY.out.1; have h2 := HXY.out.2
                rw [show j + 1 - 1 = j by omega, hx'] at h1
                rw [hy'] at h2
                cases h1; cases h2; exact hxy
              · exact HA.out h j x' y' (by omega) hx' hy'
            clear HA hset hxy HXY
            go_wp2_with fail
            go_quiet (first | (go_at_call 61; exact Calls.quiet_of_same (HCS.out _)))
            go_wp2_with fail
            go_roundg (L + 1 - (m + 1))
            case measure => omega
            case rel => exact ⟨m + 1, by omega, by omega, Nat.le_refl _, by go_num, HA2, below_drewN HS.out _⟩
          · have q1 : decide (y ≤ x) = true := decide_eq_true (by omega)
            have HR : Hid (segR p i s = 16) := HRE.out 16 (segE16 HK.out HNE2.out HL2.out HNUM.out hset (j := m - 1) HXY.out.1 (by rw [show m - 1 + 1 = m by omega]; exact HXY.out.2) (by omega)) (by omega)
            have HB2 := Lib.hid (HW0.out.trans (HS.out.mono HW0.out.size))
            clear HA hset hxy HXY
            go_wp2_with fail
            go_quiet (first | (go_at_call 61; exact Calls.quiet_of_same (HCS.out _)))
            go_wp2
            go_ret
            exact ⟨by rw [HR.out] <;> rfl, below_drewN HB2.out _⟩
      have k1 : decide ((m : Int) < (L : Int)) = false := decide_eq_false (by omega)
      have HE0 : Hid (segE s = 0) := segE0 HK.out HNE2.out HL2.out HNUM.out (fun h j x y hx hy => HA.out h j x y (by have := (List.getElem?_eq_some_iff.1 hy).1; have := HL.out; omega) hx hy)
      clear HA HNUM HCC0 HRE HL2 HNE2 HK HL hm hmg hm1
      cases hcf : isConf s.k with
      | false =>
        rw [hcf] at HCF
        have HT : Hid (segR p i s = if tailB p i s = true then 1 else 0) := segR_tail HE0.out (fun h => by rw [hcf] at h; cases h)
        clear HE0 hcf
        go_wp2_with fail
        go_at_call 51
        refine (HCF.out _).mono ?_
        rintro e w2 ⟨rfl, rfl⟩
        go_wp2_with fail
        have HB2 := Lib.hid (HW0.out.trans (HS.out.mono HW0.out.size))
        by_cases hi0 : i = 0
        · have HR : Hid (segR p i s = 0) := by
            show _ = _; rw [HT.out, if_neg]; subst hi0; exact fun h => by cases h
          have k2 : decide ((0 : Int) < (i : Int)) = false := decide_eq_false (by omega)
          clear HT
          go_quiet (first | (go_at_call 61; exact Calls.quiet_of_same (HCS.out _)))
          go_wp2
          go_ret
          exact ⟨by rw [HR.out] <;> rfl, below_drewN HB2.out _⟩
        obtain ⟨y, hy⟩ : ∃ y, p[i - 1]? = some y := ⟨_, List.getElem?_eq_getElem (by have := HN.out; omega)⟩
        obtain ⟨uy, a0, a1, huy⟩ := HP0.out (i - 1) y hy
        obtain ⟨yad, ycap, hf⟩ := huy.form
        subst hf
        obtain ⟨ly, hly⟩ : ∃ ly, y.as.length = ly := ⟨_, rfl⟩
        rw [hly] at a1
        have hTB : tailB p i s = (!isSet s.k && decide (y.k = s.k) && decide (ly < 255)) := by
          unfold tailB
          have : prevO p i = some y := by
            cases hq : i with
            | zero => omega
            | succ z => rw [hq] at hy; exact hy
          rw [this, ← hly]
        have d2 := carry HS.out a0
        have d3 := carry HS.out a1
        have k2 : decide ((0 : Int) < (i : Int)) = true := decide_eq_true (by omega)
        have k2' : 0 < i := by omega
        have k3 : (0 : Int) ≤ (i : Int) - 1 := by omega
        have k4 : (i : Int) - 1 < (n : Int) := by omega
        have k5 : IntKind.i64.wrap ((i : Int) - 1) = (i : Int) - 1 := IntWalk.i64_in _ (by omega)
        have k6 : ((i : Int) - 1).toNat = i - 1 := by omega
        clear hy a0 a1 huy hly hi0
        cases hset : isSet s.k with
        | true =>
          rw [hset] at HCS
          have HR : Hid (segR p i s = 0) := by
            show _ = _; rw [HT.out, hTB, hset]; rfl
          clear HT hTB hset
          go_quiet (first | (go_at_call 61; exact Calls.quiet_of_same (HCS.out _)))
          go_wp2
          go_ret
          exact ⟨by rw [HR.out] <;> rfl, below_drewN HB2.out _⟩
        | false =>
          rw [hset] at HCS
          by_cases hkk : y.k = s.k
          · have q1 : (y.k == s.k) = true := by simpa using hkk
            by_cases hll : ly < 255
            · have HR : Hid (segR p i s = 1) := by
                show _ = _; rw [HT.out, hTB, hset, decide_eq_true hkk, decide_eq_true hll]; rfl
              have q2 : decide ((ly : Int) < 255) = true := decide_eq_true (by omega)
              clear HT hTB hset hkk hll
              go_quiet (first | (go_at_call 61; exact Calls.quiet_of_same (HCS.out _)))
              go_wp2
              go_ret
              exact ⟨by rw [HR.out] <;> rfl, below_drewN HB2.out _⟩
            · have HR : Hid (segR p i s = 0) := by
                show _ = _; rw [HT.out, hTB, hset, decide_eq_true hkk, decide_eq_false hll]; rfl
              have q2 : decide ((ly : Int) < 255) = false := decide_eq_false (by omega)
              clear HT hTB hset hkk hll
              go_quiet (first | (go_at_call 61; exact Calls.quiet_of_same (HCS.out _)))
              go_wp2
              go_ret
              exact ⟨by rw [HR.out] <;> rfl, below_drewN HB2.out _⟩
          · have q1 : (y.k == s.k) = false := by simpa using hkk
            have HR : Hid (segR p i s = 0) := by
              show _ = _; rw [HT.out, hTB, hset, decide_eq_false hkk]; rfl
            clear HT hTB hset hkk
            go_quiet (first | (go_at_call 61; exact Calls.quiet_of_same (HCS.out _)))
            go_wp2
            go_ret
            exact ⟨by rw [HR.out] <;> rfl, below_drewN HB2.out _⟩
      | true =>
        rw [hcf] at HCF
        have HS1 : Hid (Below W0.heap.size W0 wr) := HS
        have HT0 : Hid (∀ t ∈ p.take 0, isConf t.k = true) := fun t h => by simp at h
        have j1 : (0 : Int) ≤ (cap : Int) := by omega
        have j2 : (i : Int) ≤ (cap : Int) := by omega
        have j3 : (i : Int) ≤ (n : Int) := by omega
        go_wp2_with fail
        go_at_call 51
        refine (HCF.out _).mono ?_
        rintro e w2 ⟨rfl, rfl⟩
        go_wp2_with fail
        clear d0 d1 HCF k1
        go_loopg [10, 76] (i + 1) (fun g s10 s76 wr => ∃ m : Nat, m ≤ i ∧ i + 1 - m ≤ g ∧ s76 = .int .i64 (m : Int) ∧ (∃ q, q = s10) ∧ Hid (∀ t ∈ p.take m, isConf t.k = true) ∧ Hid (Below W0.heap.size W0 wr))
        case atStart => exact ⟨0, by omega, by omega, rfl, ⟨_, rfl⟩, HT0, HS1⟩
        case round =>
          clear HT0 HS1 HS
          obtain ⟨m, hm, hmg, rfl, ⟨u10, rfl⟩, HI, HS⟩ := hrel
          by_cases hml : m < i
          · obtain ⟨t, ht⟩ : ∃ t, p[m]? = some t := ⟨_, List.getElem?_eq_getElem (by have := HN.out; omega)⟩
            have HTT := Lib.hid ht
            obtain ⟨ut, a0, a1, hut⟩ := HP0.out m t ht
            have d2 := carry HS.out a0
            have d3 := carry HS.out a1
            obtain ⟨tad, tcap, hf⟩ := hut.form
            subst hf
            have k0 : (0 : Int) ≤ (m : Int) := by omega
            have k1 : (m : Int) < (i : Int) := by omega
            obtain ⟨tl, htl⟩ : ∃ tl, t.as.length = tl := ⟨_, rfl⟩
            rw [htl] at d3
            have HCT : Hid (∀ W, Calls Tryz.prog 51 #[.int .i64 t.k] W fun e w' => e = .returned (.bool (isConf t.k)) ∧ w' = W) := fun W => conf51_same t.k W
            have HS2 := Lib.hid (below_then HS.out (below_alloc wr (.cells #[.int .i64 t.k, .slice tad tl tcap] 46)))
            clear ht a0 a1 hut htl
            cases hct : isConf t.k with
            | false =>
              rw [hct] at HCT
              have HR : Hid (segR p i s = 1) := segR_conf HE0.out hcf (t := t) (by
                refine List.mem_iff_getElem?.2 ⟨m, ?_⟩
                rw [List.getElem?_take_of_lt hml]; exact HTT.out) hct
              have HB2 := Lib.hid (HW0.out.trans (HS2.out.mono HW0.out.size))
              clear HI HE0 hcf hct HTT
              go_wp2_with fail
              go_at_call 51
              refine (HCT.out _).mono ?_
              rintro e w3 ⟨rfl, rfl⟩
              go_wp2
              go_ret
              exact ⟨by rw [HR.out] <;> rfl, HB2.out⟩
            | true =>
              rw [hct] at HCT
              have HI2 : Hid (∀ y ∈ p.take (m + 1), isConf y.k = true) := fun y hy => by
                rw [List.take_add_one, HTT.out] at hy
                rcases List.mem_append.1 hy with h | h
                · exact HI.out y h
                · simp at h; subst h; exact hct
              clear HI hct HTT
              go_wp2_with fail
              go_at_call 51
              refine (HCT.out _).mono ?_
              rintro e w3 ⟨rfl, rfl⟩
              go_wp2_with fail
              go_roundg (i + 1 - (m + 1))
              case measure => omega
              case rel => exact ⟨m + 1, by omega, Nat.le_refl _, by go_num, ⟨_, rfl⟩, HI2, HS2⟩
          obtain rfl : m = i := by omega
          have k1 : decide ((m : Int) < (m : Int)) = false := decide_eq_false (by omega)
          have HT : Hid (segR p m s = if tailB p m s = true then 1 else 0) := segR_tail HE0.out (fun _ => HI.out)
          have d0 := carry HS.out g0
          have d1 := carry HS.out g1
          clear HI HE0 hcf hml hmg hm
          go_wp2_with fail
          have HB2 := Lib.hid (HW0.out.trans (HS.out.mono HW0.out.size))
          by_cases hi0 : m = 0
          · have HR : Hid (segR p m s = 0) := by
              show _ = _; rw [HT.out, if_neg]; subst hi0; exact fun h => by cases h
            have k2 : decide ((0 : Int) < (m : Int)) = false := decide_eq_false (by omega)
            clear HT
            go_quiet (first | (go_at_call 61; exact Calls.quiet_of_same (HCS.out _)))
            go_wp2
            go_ret
            exact ⟨by rw [HR.out] <;> rfl, below_drewN HB2.out _⟩
          obtain ⟨y, hy⟩ : ∃ y, p[m - 1]? = some y := ⟨_, List.getElem?_eq_getElem (by have := HN.out; omega)⟩
          obtain ⟨uy, a0, a1, huy⟩ := HP0.out (m - 1) y hy
          obtain ⟨yad, ycap, hf⟩ := huy.form
          subst hf
          obtain ⟨ly, hly⟩ : ∃ ly, y.as.length = ly := ⟨_, rfl⟩
          rw [hly] at a1
          have hTB : tailB p m s = (!isSet s.k && decide (y.k = s.k) && decide (ly < 255)) := by
            unfold tailB
            have : prevO p m = some y := by
              cases hq : m with
              | zero => omega
              | succ z => rw [hq] at hy; exact hy
            rw [this, ← hly]
          have d2 := carry HS.out a0
          have d3 := carry HS.out a1
          have k2 : decide ((0 : Int) < (m : Int)) = true := decide_eq_true (by omega)
          have k2' : 0 < m := by omega
          have k3 : (0 : Int) ≤ (m : Int) - 1 := by omega
          have k4 : (m : Int) - 1 < (n : Int) := by omega
          have k5 : IntKind.i64.wrap ((m : Int) - 1) = (m : Int) - 1 := IntWalk.i64_in _ (by omega)
          have k6 : ((m : Int) - 1).toNat = m - 1 := by omega
          clear hy a0 a1 huy hly hi0
          cases hset : isSet s.k with
          | true =>
            rw [hset] at HCS
            have HR : Hid (segR p m s = 0) := by
              show _ = _; rw [HT.out, hTB, hset]; rfl
            clear HT hTB hset
            go_quiet (first | (go_at_call 61; exact Calls.quiet_of_same (HCS.out _)))
            go_wp2
            go_ret
            exact ⟨by rw [HR.out] <;> rfl, below_drewN HB2.out _⟩
          | false =>
            rw [hset] at HCS
            by_cases hkk : y.k = s.k
            · have q1 : (y.k == s.k) = true := by simpa using hkk
              by_cases hll : ly < 255
              · have HR : Hid (segR p m s = 1) := by
                  show _ = _; rw [HT.out, hTB, hset, decide_eq_true hkk, decide_eq_true hll]; rfl
                have q2 : decide ((ly : Int) < 255) = true := decide_eq_true (by omega)
                clear HT hTB hset hkk hll
                go_quiet (first | (go_at_call 61; exact Calls.quiet_of_same (HCS.out _)))
                go_wp2
                go_ret
                exact ⟨by rw [HR.out] <;> rfl, below_drewN HB2.out _⟩
              · have HR : Hid (segR p m s = 0) := by
                  show _ = _; rw [HT.out, hTB, hset, decide_eq_true hkk, decide_eq_false hll]; rfl
                have q2 : decide ((ly : Int) < 255) = false := decide_eq_false (by omega)
                clear HT hTB hset hkk hll
                go_quiet (first | (go_at_call 61; exact Calls.quiet_of_same (HCS.out _)))
                go_wp2
                go_ret
                exact ⟨by rw [HR.out] <;> rfl, below_drewN HB2.out _⟩
            · have q1 : (y.k == s.k) = false := by simpa using hkk
              have HR : Hid (segR p m s = 0) := by
                show _ = _; rw [HT.out, hTB, hset, decide_eq_false hkk]; rfl
              clear HT hTB hset hkk
              go_quiet (first | (go_at_call 61; exact Calls.quiet_of_same (HCS.out _)))
              go_wp2
              go_ret
              exact ⟨by rw [HR.out] <;> rfl, below_drewN HB2.out _⟩
end
end Go.Proofs.YtiobfgcpbihbhaaGreatDoor
namespace Go.Proofs.YtiobfgcpbihbhaaGreatDoor
section
open Go.RowKit P
set_option linter.unusedSimpArgs false
set_option linter.unusedVariables false
set_option maxHeartbeats 1500000
set_option maxRecDepth 100000
theorem rcheck_any (p : List Sg) (v : Value) (w : World) (hv : RdS w v p) : Calls Tryz.prog 14 #[v] w fun e w' => e = .returned (.int .i64 (chk p)) ∧ Below w.heap.size w w' := by
  have HV := Lib.hid hv
  obtain ⟨ad, cap, hf⟩ := hv.form
  subst hf
  have hcap : p.length ≤ 9223372036854775807 := by obtain ⟨_, _, e, h1, h2, _⟩ := hv; have := h2.1; omega
  have HC : Hid (chk p = if 64 < p.length then 4 else scan none p) := rfl
  obtain ⟨n, hn⟩ : ∃ n, p.length = n := ⟨_, rfl⟩
  rw [hn] at HC HV hcap ⊢
  have HN := Lib.hid hn
  generalize chk p = q at *
  clear hv hn
  by_cases h64 : 64 < n
  · have HQ : Hid (q = 4) := by show _ = _; rw [HC.out, if_pos h64]
    have e1 : decide ((64 : Int) < (n : Int)) = true := decide_eq_true (by omega)
    clear HV
    go_enter Tryz.func14, Tryz.ntmps14
    go_wp2
    go_ret
    exact ⟨by rw [HQ.out] <;> rfl, Below.refl _ _⟩
  · have e1 : decide ((64 : Int) < (n : Int)) = false := decide_eq_false (by omega)
    have HQ0 : Hid (q = scan (prevO p 0) (p.drop 0)) := by show _ = _; rw [HC.out, if_neg h64]; rfl
    have HB0 : Hid (Bef p 0) := Bef.start p
    have HS0 : Hid (Below w.heap.size w w) := Below.refl _ _
    clear HC
    go_enter Tryz.func14, Tryz.ntmps14
    go_wp2_with fail
    go_loopg [3, 4, 10] (n + 1) (fun g s3 s4 s10 wr => ∃ k : Nat, k ≤ n ∧ n + 1 - k ≤ g ∧ s10 = .int .i64 (k : Int) ∧ (∃ z, z = s3) ∧ (∃ z, z = s4) ∧ Hid (q = scan (prevO p k) (p.drop k)) ∧ Hid (Bef p k) ∧ Hid (Below w.heap.size w wr))
    case atStart => exact ⟨0, by omega, by omega, rfl, ⟨_, rfl⟩, ⟨_, rfl⟩, HQ0, HB0, HS0⟩
    case round =>
      clear HQ0 HB0 HS0
      obtain ⟨k, hk, hkg, rfl, ⟨u3, rfl⟩, ⟨u4, rfl⟩, HQ, HB, HS⟩ := hrel
      by_cases hlt : k < n
      · obtain ⟨s, hs⟩ : ∃ s, p[k]? = some s := ⟨_, List.getElem?_eq_getElem (by have := HN.out; omega)⟩
        have HST := Lib.hid (HB.out.step hs)
        have HR := Lib.hid (segR_any p k s _ wr (HV.out.below HS.out) hs)
        have k1 : decide ((k : Int) < (n : Int)) = true := decide_eq_true (by omega)
        generalize segR p k s = r at *
        by_cases hr : r = 0
        · have HQ2 : Hid (q = scan (prevO p (k + 1)) (p.drop (k + 1))) := by
            show _ = _; rw [HQ.out, HST.out.1, if_neg (by simp [hr])]
          have HB2 : Hid (Bef p (k + 1)) := HST.out.2 hr
          subst hr
          clear HQ HB HST hs
          go_wp2_with fail
          go_at_call 41
          refine HR.out.mono ?_
          rintro e w1 ⟨rfl, hb⟩
          have HS2 := Lib.hid (below_then HS.out hb)
          clear hb HR HS
          go_wp2_with fail
          go_roundg (n + 1 - (k + 1))
          case measure => omega
          case rel => exact ⟨k + 1, by omega, Nat.le_refl _, by go_num, ⟨_, rfl⟩, ⟨_, rfl⟩, HQ2, HB2, HS2⟩
        · have HQ2 : Hid (q = r) := by
            show _ = _; rw [HQ.out, HST.out.1, if_pos hr]
          have e2 : (r == 0) = false := by simpa using hr
          have e3 : (r != 0) = true := by simpa using hr
          clear HQ HB HST hs
          go_wp2_with fail
          go_at_call 41
          refine HR.out.mono ?_
          rintro e w1 ⟨rfl, hb⟩
          have HS2 := Lib.hid (below_then HS.out hb)
          clear hb HR HS
          go_wp2
          go_ret
          exact ⟨by rw [HQ2.out] <;> rfl, HS2.out⟩
      · have k1 : decide ((k : Int) < (n : Int)) = false := decide_eq_false (by omega)
        have HQ2 : Hid (q = 0) := by
          show _ = _
          rw [HQ.out, List.drop_of_length_le (by rw [HN.out]; omega)]
          cases prevO p k <;> rfl
        clear HQ HB
        go_wp2
        go_ret
        exact ⟨by rw [HQ2.out] <;> rfl, HS.out⟩
end
end Go.Proofs.YtiobfgcpbihbhaaGreatDoor
namespace Go.Proofs.YtiobfgcpbihbhaaGreatDoor
section
open Go.RowKit P
set_option linter.unusedSimpArgs false
set_option linter.unusedVariables false
set_option maxHeartbeats 1500000
set_option maxRecDepth 100000
theorem P.takeWhile_take : ∀ {p : List Sg} {q : Sg → Bool} {k : Nat}, (∀ (j : Nat) (y : Sg), j < k → p[j]? = some y → q y = true) → (∀ y, p[k]? = some y → q y = false) → p.takeWhile q = p.take k
  | [], q, k, _, _ => by simp
  | a :: p, q, 0, _, h => by
    have := h a rfl
    simp [this]
  | a :: p, q, k + 1, h1, h2 => by
    have h0 := h1 0 a (by omega) rfl
    rw [List.takeWhile_cons_of_pos h0, List.take_succ_cons, takeWhile_take (k := k) (fun j y hj hy => h1 (j + 1) y (by omega) (by simpa using hy)) (fun y hy => h2 y (by simpa using hy))]
theorem rlead_any (p : List Sg) (v : Value) (w : World) (hv : RdS w v p) (hl : (flat p).length ≤ 2000000) : Calls Tryz.prog 70 #[v] w fun e w' => ∃ v', e = .returned v' ∧ InsI w v' (lead p) w' := by
  obtain ⟨ad, cap, rfl, h1, h2, hc⟩ := hv
  have HC := Lib.hid hc
  obtain ⟨n, hn⟩ : ∃ n, p.length = n := ⟨_, rfl⟩
  rw [hn] at h1 ⊢
  have HN := Lib.hid hn
  have HS0 : Hid (InsI w (.slice none 0 0) (flat (p.take 0)) w) := InsI.start w
  have HA0 : Hid (∀ (j : Nat) (y : Sg), j < 0 → p[j]? = some y → decide (2 = y.k) = true) := fun j y h => by omega
  have HTL : Hid (∀ k, (flat (p.take k)).length ≤ 2000000) := fun k => Nat.le_trans (flat_take_le p k) hl
  have HLD : Hid (∀ k, (∀ (j : Nat) (y : Sg), j < k → p[j]? = some y → decide (2 = y.k) = true) → (∀ y, p[k]? = some y → decide (2 = y.k) = false) → lead p = flat (p.take k)) := fun k h1 h2 => by
    unfold lead; rw [takeWhile_take h1 h2]
  generalize lead p = ld at *
  clear hc hn hl
  go_enter Tryz.func70, Tryz.ntmps70
  go_wp2_with fail
  go_loopg [3, 5, 8] n (fun g s3 s5 s8 wr => ∃ k : Nat, k ≤ n ∧ n - k ≤ g ∧ (∃ q, q = s5) ∧ s8 = .int .i64 (k : Int) ∧ Hid (∀ (j : Nat) (y : Sg), j < k → p[j]? = some y → decide (2 = y.k) = true) ∧ Hid (InsI w s3 (flat (p.take k)) wr))
  case atStart => exact ⟨0, by omega, by omega, ⟨_, rfl⟩, rfl, HA0, HS0⟩
  case round =>
    clear HS0 HA0
    obtain ⟨k, hk, hkg, ⟨u5, rfl⟩, rfl, HW, HS⟩ := hrel
    by_cases hlt : k < n
    · obtain ⟨s, hs⟩ : ∃ s, p[k]? = some s := ⟨_, List.getElem?_eq_getElem (by have := HN.out; omega)⟩
      have HSS := Lib.hid hs
      have HFT := Lib.hid (flat_take hs)
      have hle := HTL.out (k + 1)
      rw [HFT.out, List.length_append] at hle
      obtain ⟨b, off, u, rfl, hb, c0, c1, hu⟩ := HC.out k s hs
      have d0 := carry HS.out.2 c0
      have d1 := carry HS.out.2 c1
      have HU : Hid (∀ W, Below w.heap.size w W → RdI W u s.as) := fun W hW => hu.below hW
      obtain ⟨uad, ucap, hf⟩ := hu.form
      have k0 : (0 : Int) ≤ (k : Int) := by omega
      have k1 : (k : Int) < (n : Int) := by omega
      subst hf
      obtain ⟨pre, hpre⟩ : ∃ pre, flat (p.take k) = pre := ⟨_, rfl⟩
      have HPRE := Lib.hid hpre
      rw [hpre] at HFT hle HS
      obtain ⟨ns, hns⟩ : ∃ ns, s.as = ns := ⟨_, rfl⟩
      rw [hns] at HFT HU hle d1
      obtain ⟨L, hL⟩ : ∃ L, ns.length = L := ⟨_, rfl⟩
      rw [hL] at HU d1
      have HA : Hid (InsI w _ pre (wr.alloc (.cells #[.int .i64 s.k, .slice uad L ucap] 46))) := HS.out.below (below_alloc _ _)
      have HUA := Lib.hid (HU.out _ HA.out.2)
      clear hs c0 c1 hu HU hpre hns hL
      by_cases hkd : s.k = 2
      · have e1 : (s.k == 2) = true := by simpa using hkd
        have e2 : (s.k != 2) = false := by simpa using hkd
        have HW2 : Hid (∀ (j : Nat) (y : Sg), j < k + 1 → p[j]? = some y → decide (2 = y.k) = true) := fun j y hj hy => by
          by_cases e : j = k
          · subst e; have := HSS.out; rw [hy] at this; cases this; exact decide_eq_true hkd.symm
          · exact HW.out j y (by omega) hy
        clear HS HW HSS hkd
        go_wp2_with (at_builtin; refine append_rdI rfl (.tmp 15) (.tmp 17) rfl w.heap.size HA.out.2.size _ pre rfl HA.out.1 _ ns rfl HUA.out hle ?_; intro v2 w2 hown hb; have S2 : Hid (InsI w v2 (pre ++ ns) w2) := ⟨hown, HA.out.2.trans hb⟩; clear hown hb)
        go_roundg (n - (k + 1))
        case measure => omega
        case rel => exact ⟨k + 1, by omega, Nat.le_refl _, ⟨_, rfl⟩, by go_num, HW2, by unfold Hid; rw [HFT.out]; exact S2.out⟩
      · have e1 : (s.k == 2) = false := by simpa using hkd
        have e2 : (s.k != 2) = true := by simpa using hkd
        have HE : Hid (ld = pre) := by
          show _ = _; rw [← HPRE.out]
          exact HLD.out k HW.out (fun y hy => by have := HSS.out; rw [hy] at this; cases this; exact decide_eq_false (fun e => hkd e.symm))
        have HA2 : Hid (InsI w _ ld (wr.alloc (.cells #[.int .i64 s.k, .slice uad L ucap] 46))) := HE.out ▸ HA.out
        clear HS HW HSS hkd HA HE
        go_wp2
        go_ret
        exact ⟨_, rfl, HA2.out⟩
    · have k1 : decide ((k : Int) < (n : Int)) = false := decide_eq_false (by omega)
      have HE : Hid (ld = flat (p.take k)) := HLD.out k HW.out (fun y hy => by have := (List.getElem?_eq_some_iff.1 hy).1; have := HN.out; omega)
      have HS2 : Hid (InsI w _ ld wr) := HE.out ▸ HS.out
      clear HS HW
      go_wp2
      go_ret
      exact ⟨_, rfl, HS2.out⟩
namespace P
/-- above all that stands in a list -/
def gtB (s : List Int) (x : Int) : Bool := s.all (fun y => decide (y < x))
theorem gtB_iff {s : List Int} {x : Int} : gtB s x = true ↔ ∀ y ∈ s, y < x := by unfold gtB; simp
theorem gtB_snoc (s : List Int) (b x : Int) : gtB (s ++ [b]) x = (gtB s x && decide (b < x)) := by unfold gtB; simp
theorem gtB_last {s : List Int} (h : s.Pairwise (· < ·)) {z x : Int} (hz : s[s.length - 1]? = some z) : gtB s x = decide (z < x) := by
  by_cases hx : z < x
  · rw [decide_eq_true hx, gtB_iff]
    intro y hy
    obtain ⟨j, hj⟩ := List.getElem?_of_mem hy
    have hjl := (List.getElem?_eq_some_iff.1 hj).1
    by_cases e : j = s.length - 1
    · rw [e, hz] at hj; cases hj; exact hx
    · obtain ⟨h1, e1⟩ := List.getElem?_eq_some_iff.1 hj
      obtain ⟨h2, e2⟩ := List.getElem?_eq_some_iff.1 hz
      have := List.pairwise_iff_getElem.1 h j (s.length - 1) h1 h2 (by omega)
      omega
  · rw [decide_eq_false hx, Bool.eq_false_iff]
    intro h2
    exact hx (gtB_iff.1 h2 z (List.mem_of_getElem? hz))
def InB (s l : List Int) (k : Nat) (b : Int) : Prop := (b = -1 ∧ ∀ (j : Nat) (x : Int), j < k → l[j]? = some x → gtB s x = false) ∨ (0 ≤ b ∧ b ∈ l ∧ gtB s b = true ∧ ∀ (j : Nat) (x : Int), j < k → l[j]? = some x → gtB s x = true → b ≤ x)
theorem InB.start (s l : List Int) : InB s l 0 (-1) := .inl ⟨rfl, fun j x h => by omega⟩
theorem InB.skip {s l : List Int} {k : Nat} {b x : Int} (h : InB s l k b) (hx : l[k]? = some x) (hn : gtB s x = false ∨ (0 ≤ b ∧ b ≤ x)) : InB s l (k + 1) b := by
  rcases h with ⟨h1, h2⟩ | ⟨h1, h2, h3, h4⟩
  · refine .inl ⟨h1, fun j y hj hy => ?_⟩
    by_cases e : j = k
    · subst e; rw [hx] at hy; cases hy
      rcases hn with h | h
      · exact h
      · omega
    · exact h2 j y (by omega) hy
  · refine .inr ⟨h1, h2, h3, fun j y hj hy hg => ?_⟩
    by_cases e : j = k
    · subst e; rw [hx] at hy; cases hy
      rcases hn with h | h
      · rw [h] at hg; cases hg
      · exact h.2
    · exact h4 j y (by omega) hy hg
theorem InB.take {s l : List Int} {k : Nat} {b x : Int} (h : InB s l k b) (hx : l[k]? = some x) (h0 : 0 ≤ x) (hg : gtB s x = true) (hb : b < 0 ∨ x < b) : InB s l (k + 1) x := by
  refine .inr ⟨h0, List.mem_of_getElem? hx, hg, fun j y hj hy hgy => ?_⟩
  by_cases e : j = k
  · subst e; rw [hx] at hy; cases hy; exact Int.le_refl _
  · rcases h with ⟨h1, h2⟩ | ⟨h1, h2, h3, h4⟩
    · rw [h2 j y (by omega) hy] at hgy; cases hgy
    · have := h4 j y (by omega) hy hgy
      omega
structure OuB (s l : List Int) : Prop where
  up : s.Pairwise (· < ·)
  sub : ∀ x ∈ s, x ∈ l
  all : ∀ x ∈ l, x ∈ s ∨ gtB s x = true
  len : s.length + (l.filter (gtB s)).length ≤ l.length
theorem OuB.start (l : List Int) : OuB [] l := ⟨List.Pairwise.nil, (fun x h => by cases h), (fun x h => .inr rfl), by simpa using List.length_filter_le _ _⟩
theorem OuB.fin {s l : List Int} (h : OuB s l) (hi : InB s l l.length (-1)) : IsS l s := by
  refine ⟨h.up, fun x => ⟨h.sub x, fun hx => ?_⟩⟩
  rcases hi with ⟨_, h2⟩ | ⟨h1, _⟩
  · rcases h.all x hx with e | e
    · exact e
    · obtain ⟨j, hj⟩ := List.getElem?_of_mem hx
      rw [h2 j x (List.getElem?_eq_some_iff.1 hj).1 hj] at e; cases e
  · omega
theorem OuB.step {s l : List Int} (h : OuB s l) {b : Int} (hb : 0 ≤ b) (hi : InB s l l.length b) : OuB (s ++ [b]) l ∧ (l.filter (gtB (s ++ [b]))).length < (l.filter (gtB s)).length := by
  rcases hi with ⟨h1, _⟩ | ⟨_, h2, h3, h4⟩
  · omega
  · have hlt : (l.filter (gtB (s ++ [b]))).length < (l.filter (gtB s)).length := by
      have e : l.filter (gtB (s ++ [b])) = (l.filter (gtB s)).filter (fun x => decide (b < x)) := by
        rw [List.filter_filter]
        refine List.filter_congr fun x _ => ?_
        rw [gtB_snoc, Bool.and_comm]
      rw [e, List.length_filter_lt_length_iff_exists]
      exact ⟨b, List.mem_filter.2 ⟨h2, h3⟩, by simp⟩
    refine ⟨⟨?_, fun x hx => ?_, fun x hx => ?_, ?_⟩, hlt⟩
    · rw [List.pairwise_append]
      exact ⟨h.up, List.pairwise_singleton _ _, fun y hy z hz => by simp at hz; subst hz; exact gtB_iff.1 h3 y hy⟩
    · rcases List.mem_append.1 hx with e | e
      · exact h.sub x e
      · simp at e; subst e; exact h2
    · rcases h.all x hx with e | e
      · exact .inl (List.mem_append_left _ e)
      · obtain ⟨j, hj⟩ := List.getElem?_of_mem hx
        have hle := h4 j x (List.getElem?_eq_some_iff.1 hj).1 hj e
        by_cases e2 : b = x
        · subst e2; exact .inl (by simp)
        · refine .inr ?_
          rw [gtB_snoc, e, decide_eq_true (by omega)]; rfl
    · have := h.len
      rw [List.length_append, List.length_singleton]; omega
end P
end
end Go.Proofs.YtiobfgcpbihbhaaGreatDoor
namespace Go.Proofs.YtiobfgcpbihbhaaGreatDoor
section
open Go.RowKit P
set_option linter.unusedSimpArgs false
set_option linter.unusedVariables false
set_option maxHeartbeats 1500000
set_option maxRecDepth 100000
theorem P.dropWhile_drop2 : ∀ {p : List Sg} {q : Sg → Bool} {k : Nat}, (∀ (j : Nat) (y : Sg), j < k → p[j]? = some y → q y = true) → (∀ y, p[k]? = some y → q y = false) → p.dropWhile q = p.drop k := fun {p q k} h1 h2 => by
  have e1 := takeWhile_take h1 h2
  have e2 := List.takeWhile_append_dropWhile (p := q) (l := p)
  have e3 := List.take_append_drop k p
  rw [e1] at e2
  exact List.append_cancel_left (e2.trans e3.symm)
theorem P.text_seg {p : List Sg} {k k2 : Nat} {s : Sg} {l : List Int} (hok : ∀ s ∈ p, segE s = 0) (hs : p[k]? = some s) (h1 : k < k2) (h1' : k2 ≤ p.length)
    (h2 : ∀ (j : Nat) (y : Sg), k < j → j < k2 → p[j]? = some y → y.k = s.k) (h3 : k + 1 < k2 → isSet s.k = false) (h4 : flat (p.take k) ++ l = flat (p.take k2))
    (h5 : isSet s.k = true ∨ ∀ y, p[k2]? = some y → y.k ≠ s.k) : text (p.drop k) = P.word s.k l ++ tl (p.drop k2) := by
  obtain ⟨hk, he⟩ := List.getElem?_eq_some_iff.1 hs
  have hq : p.drop k = s :: p.drop (k + 1) := by rw [List.drop_eq_getElem_cons hk, he]
  have hsm : s ∈ p := List.mem_of_getElem? hs
  have hl : l = flat ((p.drop k).take (k2 - k)) := by
    have e1 : p.take k2 = p.take k ++ (p.drop k).take (k2 - k) := by rw [← List.take_add, show k + (k2 - k) = k2 by omega]
    rw [e1, flat_app] at h4
    exact List.append_cancel_left h4
  have hdd : (p.drop k).drop (k2 - k) = p.drop k2 := by rw [List.drop_drop, show k + (k2 - k) = k2 by omega]
  have hrun : isSet s.k = false → (p.drop k).takeWhile (fun x => decide (s.k = x.k)) = (p.drop k).take (k2 - k) ∧ (p.drop k).dropWhile (fun x => decide (s.k = x.k)) = p.drop k2 := fun hns => by
    have a1 : ∀ (j : Nat) (y : Sg), j < k2 - k → (p.drop k)[j]? = some y → decide (s.k = y.k) = true := fun j y hj hy => by
      rw [List.getElem?_drop] at hy
      by_cases e : j = 0
      · subst e; rw [Nat.add_zero, hs] at hy; cases hy; exact decide_eq_true rfl
      · exact decide_eq_true (h2 (k + j) y (by omega) (by omega) hy).symm
    have a2 : ∀ y, (p.drop k)[k2 - k]? = some y → decide (s.k = y.k) = false := fun y hy => by
      rw [List.getElem?_drop, show k + (k2 - k) = k2 by omega] at hy
      rcases h5 with h5 | h5
      · rw [hns] at h5; cases h5
      · exact decide_eq_false fun e => h5 y hy e.symm
    exact ⟨takeWhile_take a1 a2, by rw [dropWhile_drop2 a1 a2, hdd]⟩
  have hkk := (segE_ok (hok s hsm)).1
  by_cases hset : isSet s.k = true
  · have hk1 : k2 = k + 1 := by
      by_cases e : k + 1 < k2
      · have := h3 e; rw [hset] at this; cases this
      · omega
    subst hk1
    rw [show k + 1 - k = 1 by omega, hq] at hl
    rw [hq, text_cons_one (by unfold isSet at hset; rw [decide_eq_true_eq] at hset; omega), hl]
    rw [show (s :: p.drop (k + 1)).take 1 = [s] from rfl, flat_cons, show flat [] = [] from rfl, List.append_nil]
    rfl
  · have hns : isSet s.k = false := by simpa using hset
    obtain ⟨e1, e2⟩ := hrun hns
    have h23 : s.k = 2 ∨ s.k = 3 := by unfold isSet at hns; rw [decide_eq_false_iff_not] at hns; omega
    rw [hl, ← e1, ← e2]
    rcases h23 with h | h
    · rw [h]
      exact text_run2 _ (p.drop k) rfl (fun x hx => (segE_ok (hok x (List.mem_of_mem_drop hx))).2.1) s _ hq h
    · rw [h, hq]
      exact text_cons_conf h
theorem P.word_dec (l : List Int) : P.word 1 l = [123] ++ Lib.join (decs l) [44] ++ [125] ∧ P.word 4 l = [91] ++ Lib.join (decs l) [44] ++ [93] ∧ P.word 3 l = [40] ++ Lib.join (decs l) [32] ++ [41] ∧ P.word 2 l = [] ++ Lib.join (decs l) [32] ++ [] :=
  ⟨by show 123 :: _ = _; simp, by show 91 :: _ = _; simp, by show 40 :: _ = _; simp, by show Lib.join _ _ = _; simp⟩
/-- the words of each kind -/
def Wrd (l : List Int) (v : Value) (w : World) : Prop := ∀ kd : Int, ∀ (a b c : ByteArray), (kd = 1 ∧ a = ⟨#[123]⟩ ∧ b = ⟨#[44]⟩ ∧ c = ⟨#[125]⟩) ∨ (kd = 4 ∧ a = ⟨#[91]⟩ ∧ b = ⟨#[44]⟩ ∧ c = ⟨#[93]⟩) ∨ (kd = 3 ∧ a = ⟨#[40]⟩ ∧ b = ⟨#[32]⟩ ∧ c = ⟨#[41]⟩) ∨ (kd = 2 ∧ a = ⟨#[]⟩ ∧ b = ⟨#[32]⟩ ∧ c = ⟨#[]⟩) →
  Calls Tryz.prog 62 #[.string a, v, .string b, .string c] w fun e w' => e = .returned (.string (bs (P.word kd l))) ∧ Below w.heap.size w w'
theorem wrd_of {l : List Int} {v : Value} {w : World} (hv : RdI w v l) (hn : ∀ x ∈ l, I64 x) (hl : l.length ≤ 100000) : Wrd l v w := fun kd a b c h => by
  obtain ⟨e1, e4, e3, e2⟩ := P.word_dec l
  rcases h with ⟨rfl, rfl, rfl, rfl⟩ | ⟨rfl, rfl, rfl, rfl⟩ | ⟨rfl, rfl, rfl, rfl⟩ | ⟨rfl, rfl, rfl, rfl⟩
  · rw [e1]; exact rword_any [123] [125] 44 l v w hv hn hl (by decide) (by decide)
  · rw [e4]; exact rword_any [91] [93] 44 l v w hv hn hl (by decide) (by decide)
  · rw [e3]; exact rword_any [40] [41] 32 l v w hv hn hl (by decide) (by decide)
  · rw [e2]; exact rword_any [] [] 32 l v w hv hn hl (by decide) (by decide)
theorem rtext_any (p : List Sg) (v : Value) (w : World) (hv : RdS w v p) :
    Calls Tryz.prog 32 #[v] w fun e w' => e = .returned (.tuple #[.string (bs (if chk p = 0 then P.text p else [])), .int .i64 (chk p)]) ∧ Below w.heap.size w w' := by
  have HC := Lib.hid (rcheck_any p v w hv)
  have HV : Hid (∀ W, Below w.heap.size w W → RdS W v p) := fun W hW => hv.below hW
  have HOK : Hid (chk p = 0 → p.length ≤ 64 ∧ ∀ s ∈ p, segE s = 0) := chk_ok
  obtain ⟨q, hq⟩ : ∃ q, chk p = q := ⟨_, rfl⟩
  rw [hq] at HC HOK ⊢
  obtain ⟨ad, cap, rfl, h1, h2, hc⟩ := hv
  have HCC := Lib.hid hc
  obtain ⟨L, hL⟩ : ∃ L, p.length = L := ⟨_, rfl⟩
  have HL := Lib.hid hL
  rw [hL] at HC HV h1 ⊢
  clear hc hq hL
  by_cases hq0 : q = 0
  · subst hq0
    rw [if_pos rfl]
    have HOK2 := Lib.hid (HOK.out rfl)
    have HSG : Hid (∀ s ∈ p, segE s = 0) := HOK2.out.2
    have hL64 : L ≤ 64 := by rw [← HL.out]; exact HOK2.out.1
    have HFL : Hid ((flat p).length ≤ 16320) := by
      have h := flat_len_ok HSG.out
      have := HL.out
      show _ ≤ _; omega
    have HTS : Hid ((bs (P.text p)).size ≤ 100000000) := by rw [bs_size]; exact (text_le HOK2.out.1 HOK2.out.2).2
    have HNUM : Hid (∀ x ∈ flat p, I64 x) := fun x hx => i64_num (flat_num_ok HSG.out x hx)
    have HTT : Hid (([] : List UInt8) ++ (if 0 = 0 then P.text p else tl (p.drop 0)) = P.text p) := rfl
    have HTE : Hid (p = [] → P.text p = []) := fun e => by rw [e]; rfl
    clear HOK HOK2
    obtain ⟨TX, hTX⟩ : ∃ TX, P.text p = TX := ⟨_, rfl⟩
    rw [hTX] at HTS HTE ⊢
    have HTX := Lib.hid hTX
    have HTT : Hid (([] : List UInt8) ++ (if 0 = 0 then P.text p else tl (p.drop 0)) = TX) := by rw [← hTX]; rfl
    clear hTX
    go_enter Tryz.func32, Tryz.ntmps32
    go_wp2_with fail
    go_at_call 14
    refine HC.out.mono ?_
    rintro e w1 ⟨rfl, hb⟩
    have HB1 := Lib.hid hb
    clear hb HC
    go_wp2_with fail
    go_loopg [5, 6] (L + 1) (fun g s5 s6 wr => ∃ (k : Nat) (S : List UInt8), k ≤ L ∧ L + 1 - k ≤ g ∧ s5 = .string (bs S) ∧ s6 = .int .i64 (k : Int) ∧ Hid (S ++ (if k = 0 then P.text p else tl (p.drop k)) = TX) ∧ Hid (Below w.heap.size w wr))
    case atStart => exact ⟨0, [], by omega, by omega, rfl, rfl, HTT, HB1⟩
    case round =>
      clear HTT HB1
      obtain ⟨k, S, hk, hkg, rfl, rfl, HT, HS⟩ := hrel
      have hSs : (bs S).size ≤ 100000000 := by
        have h := congrArg List.length HT.out
        rw [List.length_append] at h
        have h7 := HTS.out
        rw [bs_size] at h7 ⊢
        omega
      by_cases hlt : k < L
      · obtain ⟨s, hs⟩ : ∃ s, p[k]? = some s := ⟨_, List.getElem?_eq_getElem (by have := HL.out; omega)⟩
        have HSS := Lib.hid hs
        have HFT := Lib.hid (flat_take hs)
        have hkd := (segE_ok (HSG.out s (List.mem_of_getElem? hs))).1
        obtain ⟨b, off, u, rfl, hbb, c0, c1, hu⟩ := HCC.out k s hs
        have HC0 : Hid (∀ W, Below w.heap.size w W → W.cell? ⟨b, off + k * 2, none⟩ = some (.int .i64 s.k)) := fun W hW => carry hW c0
        have d0 := HC0.out _ HS.out
        have d1 := carry HS.out c1
        have HU : Hid (∀ W, Below w.heap.size w W → RdI W u s.as) := fun W hW => hu.below hW
        have i2 : decide ((k : Int) < (L : Int)) = true := decide_eq_true (by omega)
        have i3 : (k : Int) < (L : Int) := by omega
        have i4 : (0 : Int) ≤ (k : Int) := by omega
        obtain ⟨uad, ucap, hff⟩ := hu.form
        subst hff
        have hasl := as_le hs
        have hle : ([] : List Int).length + s.as.length ≤ 2000000 := by have := HFL.out; simp; omega
        have HX8 : Hid (OwnI w.heap.size (wr.alloc (.cells #[] 3)) (.slice (some ⟨wr.heap.size, 0, none⟩) 0 0) []) := ⟨Nat.le_trans HS.out.size (by simp), World.ownsRow_made wr #[] 0 HS.out.size (Nat.zero_le _) (by simp)⟩
        have HB8 : Hid (Below w.heap.size w (wr.alloc (.cells #[] 3))) := below_then HS.out (below_alloc _ _)
        have HUA := Lib.hid (HU.out _ HB8.out)
        obtain ⟨kd, hkde⟩ : ∃ kd, s.k = kd := ⟨_, rfl⟩
        rw [hkde] at HC0 d0 hkd
        have HKD := Lib.hid hkde
        obtain ⟨ns, hns⟩ : ∃ ns, s.as = ns := ⟨_, rfl⟩
        rw [hns] at HFT HUA hle d1
        obtain ⟨LL, hLL⟩ : ∃ LL, ns.length = LL := ⟨_, rfl⟩
        rw [hLL] at HUA d1
        have HR0 : Hid (∀ (j : Nat) (y : Sg), k < j → j < k + 1 → p[j]? = some y → y.k = s.k) := fun j y a b => by omega
        have HR1 : Hid (k + 1 < k + 1 → isSet kd = false) := fun h => by omega
        have HF0 : Hid (flat (p.take k) ++ ns = flat (p.take (k + 1))) := HFT.out.symm
        have HCS := Lib.hid (fun W => set61_same kd W)
        have d1a := carry (below_alloc wr (.cells #[] 3)) d1
        clear hs c0 c1 hu HU hkde hns hLL hasl
        go_wp2_with (at_builtin; refine append_rdI rfl (.tmp 18) (.tmp 23) rfl w.heap.size HB8.out.size _ [] rfl HX8.out _ ns rfl HUA.out hle ?_; intro v7 w7 hown hb; rw [List.nil_append] at hown; have HO7 := Lib.hid hown; have HB7 := Lib.hid (HB8.out.trans hb); clear hown hb HX8 HB8)
        go_loopg [7, 8] (L + 1) (fun g s7 s8 wr => ∃ (k2 : Nat) (l : List Int) (v8 : Value), k < k2 ∧ k2 ≤ L ∧ L + 1 - k2 ≤ g ∧ v8 = s7 ∧ s8 = .int .i64 (k2 : Int) ∧ Hid (∀ (j : Nat) (y : Sg), k < j → j < k2 → p[j]? = some y → y.k = s.k) ∧ Hid (k + 1 < k2 → isSet kd = false) ∧ Hid (flat (p.take k) ++ l = flat (p.take k2)) ∧ Hid (OwnI w.heap.size wr v8 l) ∧ Hid (Below w.heap.size w wr))
        case atStart => exact ⟨k + 1, ns, _, by omega, by omega, by omega, rfl, by go_num, HR0, HR1, HF0, HO7, HB7⟩
        case round =>
          clear HR0 HR1 HF0 HO7 HB7
          obtain ⟨k2, l, v8, hkk, hk2, hkg2, rfl, rfl, HR, HRS, HF, HO, HB⟩ := hrel
          have hll : l.length ≤ 16320 := by
            have h := congrArg List.length HF.out
            rw [List.length_append] at h
            have := flat_take_le p k2
            have := HFL.out
            omega
          have HLI : Hid (∀ x ∈ l, I64 x) := fun x hx => HNUM.out x (by
            have h : x ∈ flat (p.take k2) := by rw [← HF.out]; exact List.mem_append_right _ hx
            rw [← List.take_append_drop k2 p, flat_app]
            exact List.mem_append_left _ h)
          have dk := HC0.out _ HB.out
          by_cases hl2 : k2 < L
          · obtain ⟨y, hy⟩ : ∃ y, p[k2]? = some y := ⟨_, List.getElem?_eq_getElem (by have := HL.out; omega)⟩
            have HY := Lib.hid hy
            obtain ⟨b', off', u2, he2, hbb2, e0, e1, hu2⟩ := HCC.out k2 y hy
            cases he2
            have f0 := carry HB.out e0
            have f1 := carry HB.out e1
            have n2 : decide ((k2 : Int) < (L : Int)) = true := decide_eq_true (by omega)
            have n3 : (k2 : Int) < (L : Int) := by omega
            have n4 : (0 : Int) ≤ (k2 : Int) := by omega
            by_cases hyk : y.k = kd
            · rw [hyk] at f0
              have t1 : (kd == kd) = true := by simp
              cases hset : isSet kd with
              | true =>
                rw [hset] at HCS
                have H5 : Hid (isSet s.k = true ∨ ∀ y, p[k2]? = some y → y.k ≠ s.k) := .inl (by rw [HKD.out]; exact hset)
                clear hy e0 e1 hu2 hyk hset HY
                go_wp2_with fail
                go_quiet (first | (go_at_call 61; exact Calls.quiet_of_same (HCS.out _)))
                have hX := below_drewN (Below.refl wr.heap.size wr) nq
                have HOD := Lib.hid (HO.out.below hX)
                have HBD := Lib.hid (below_then HB.out hX)
                have HTG : Hid (P.text (p.drop k) = P.word kd l ++ tl (p.drop k2)) := by
                  have h := P.text_seg HSG.out HSS.out hkk (by rw [HL.out]; exact hk2) HR.out (fun h => by rw [HKD.out]; exact HRS.out h) HF.out H5.out
                  rw [HKD.out] at h; exact h
                have HSN : Hid ((S ++ (if k = 0 then [] else [32]) ++ P.word kd l) ++ tl (p.drop k2) = TX) := by
                  show _ = _
                  rw [← HT.out]
                  by_cases hk0 : k = 0
                  · rw [if_pos hk0, if_pos hk0]
                    have h := HTG.out
                    rw [hk0, List.drop_zero] at h
                    rw [h]; simp
                  · rw [if_neg hk0, if_neg hk0]
                    have hne : p.drop k ≠ [] := fun e => by
                      have h := congrArg List.length e
                      rw [List.length_drop, List.length_nil, HL.out] at h; omega
                    have htl : tl (p.drop k) = 32 :: P.text (p.drop k) := by unfold tl; rw [if_neg hne]
                    rw [htl, HTG.out]; simp
                have HSZ : Hid ((bs (S ++ (if k = 0 then [] else [32]) ++ P.word kd l)).size ≤ 100000000) := by
                  have h : (S ++ (if k = 0 then [] else [32]) ++ P.word kd l).length + (tl (p.drop k2)).length = TX.length := by rw [← List.length_append, HSN.out]
                  have h7 := HTS.out
                  rw [bs_size] at h7 ⊢
                  show _ ≤ _
                  omega
                have HWD := Lib.hid (wrd_of HOD.out.rd HLI.out (by omega))
                have dkd := HC0.out _ HBD.out
                have HFO := Lib.hid HOD.out.rd.form
                obtain ⟨a8, c8, hf8⟩ := HFO.out
                subst hf8
                generalize l.length = LN at *
                clear HR HRS HF HO HB H5 HTG HLI HFO HFT HUA HC0 dk
                generalize wr.drewN nq = wd at *
                by_cases hk0 : k = 0
                · subst hk0
                  have dk0 : wd.cell? ⟨b, off, none⟩ = some (.int .i64 kd) := by simpa using dkd
                  have HNX : Hid (bs S ++ bs (P.word kd l) = bs (S ++ (if 0 = 0 then [] else [32]) ++ P.word kd l)) := by show _ = _; rw [if_pos rfl, List.append_nil, bs_app]
                  have hz : ¬ 9223372036854775807 < (bs S).size + (bs (P.word kd l)).size := by
                    have h := HSZ.out
                    rw [← HNX.out, ByteArray.size_append] at h; omega
                  have HN2 : Hid ((S ++ (if 0 = 0 then [] else [32]) ++ P.word kd l) ++ (if k2 = 0 then P.text p else tl (p.drop k2)) = TX) := by rw [if_neg (show ¬ k2 = 0 by omega)]; exact HSN.out
                  obtain ⟨S2, hS2⟩ : ∃ S2, S ++ (if 0 = 0 then [] else [32]) ++ P.word kd l = S2 := ⟨_, rfl⟩
                  rw [hS2] at HNX HN2
                  generalize bs S = BS at *
                  clear HSN HSZ hS2 HT
                  rcases (show kd = 1 ∨ kd = 2 ∨ kd = 3 ∨ kd = 4 by omega) with rfl | rfl | rfl | rfl
                  all_goals
                    go_wp2_with (go_at_call 62; refine (HWD.out _ _ _ _ (by first | exact .inl ⟨rfl, rfl, rfl, rfl⟩ | exact .inr (.inl ⟨rfl, rfl, rfl, rfl⟩) | exact .inr (.inr (.inl ⟨rfl, rfl, rfl, rfl⟩)) | exact .inr (.inr (.inr ⟨rfl, rfl, rfl, rfl⟩)))).mono ?_; rintro e w9 ⟨rfl, hb9⟩; have HB9 := Lib.hid (below_then HBD.out hb9); clear hb9)
                    go_roundg (L + 1 - k2)
                    case measure => omega
                    case rel => exact ⟨k2, S2, by omega, Nat.le_refl _, by rw [HNX.out], rfl, HN2, HB9⟩
                · have HNX : Hid (bs S ++ ⟨#[32]⟩ ++ bs (P.word kd l) = bs (S ++ (if k = 0 then [] else [32]) ++ P.word kd l)) := by
                    show _ = _; rw [if_neg hk0, ← bs_app, ← bs_app]; rfl
                  have hz : ¬ 9223372036854775807 < (bs S ++ ⟨#[32]⟩).size + (bs (P.word kd l)).size := by
                    have h := HSZ.out
                    rw [← HNX.out, ByteArray.size_append] at h; omega
                  have hz1 : ¬ 9223372036854775807 < (bs S).size + (bs (P.word kd l)).size := by
                    rw [ByteArray.size_append] at hz; omega
                  have hz2 : ¬ 9223372036854775807 < (bs S).size + 1 := by omega
                  have hz3 : ¬ 9223372036854775807 < (bs S).size + 1 + (bs (P.word kd l)).size := by
                    rw [ByteArray.size_append] at hz
                    have e9 : (⟨#[32]⟩ : ByteArray).size = 1 := rfl
                    omega
                  have HN2 : Hid ((S ++ (if k = 0 then [] else [32]) ++ P.word kd l) ++ (if k2 = 0 then P.text p else tl (p.drop k2)) = TX) := by rw [if_neg (show ¬ k2 = 0 by omega)]; exact HSN.out
                  obtain ⟨S2, hS2⟩ : ∃ S2, S ++ (if k = 0 then [] else [32]) ++ P.word kd l = S2 := ⟨_, rfl⟩
                  rw [hS2] at HNX HN2
                  generalize bs S = BS at *
                  have g1 : (0 : Int) < (k : Int) := by omega
                  have g2 : 0 < k := by omega
                  have g3 : decide ((0 : Int) < (k : Int)) = true := decide_eq_true g1
                  clear HSN HSZ hS2 HT
                  rcases (show kd = 1 ∨ kd = 2 ∨ kd = 3 ∨ kd = 4 by omega) with rfl | rfl | rfl | rfl
                  all_goals
                    go_wp2_with (go_at_call 62; refine (HWD.out _ _ _ _ (by first | exact .inl ⟨rfl, rfl, rfl, rfl⟩ | exact .inr (.inl ⟨rfl, rfl, rfl, rfl⟩) | exact .inr (.inr (.inl ⟨rfl, rfl, rfl, rfl⟩)) | exact .inr (.inr (.inr ⟨rfl, rfl, rfl, rfl⟩)))).mono ?_; rintro e w9 ⟨rfl, hb9⟩; have HB9 := Lib.hid (below_then HBD.out hb9); clear hb9)
                    go_roundg (L + 1 - k2)
                    case measure => omega
                    case rel => exact ⟨k2, S2, by omega, Nat.le_refl _, by rw [HNX.out], rfl, HN2, HB9⟩
              | false =>
                rw [hset] at HCS
                have hu3 := hu2.below HB.out
                have HFT2 := Lib.hid (flat_take hy)
                obtain ⟨vad, vcap, hvf⟩ := hu3.form
                subst hvf
                obtain ⟨ms, hms⟩ : ∃ ms, y.as = ms := ⟨_, rfl⟩
                rw [hms] at hu3 HFT2 f1
                have hle2 : l.length + ms.length ≤ 2000000 := by
                  have h7 := as_le hy
                  rw [hms] at h7
                  have := HFL.out
                  omega
                obtain ⟨ML, hML⟩ : ∃ ML, ms.length = ML := ⟨_, rfl⟩
                rw [hML] at hu3 f1
                have HU3 : Hid (∀ W, Below wr.heap.size wr W → RdI W (.slice vad ML vcap) ms) := fun W hW => hu3.below hW
                have HR' : Hid (∀ (j : Nat) (y : Sg), k < j → j < k2 + 1 → p[j]? = some y → y.k = s.k) := fun j z a b hz => by
                  by_cases e : j = k2
                  · subst e; have := HY.out; rw [hz] at this; cases this; rw [hyk, HKD.out]
                  · exact HR.out j z a (by omega) hz
                have HRS' : Hid (k + 1 < k2 + 1 → isSet kd = false) := fun _ => hset
                have HF' : Hid (flat (p.take k) ++ (l ++ ms) = flat (p.take (k2 + 1))) := by show _ = _; rw [HFT2.out, ← List.append_assoc, HF.out]
                clear hy e0 e1 hu2 hu3 hyk hset HY hms hML HR HRS HF HFT2
                go_wp2_with fail
                go_quiet (first | (go_at_call 61; exact Calls.quiet_of_same (HCS.out _)))
                have hX := below_drewN (Below.refl wr.heap.size wr) nq
                have HOD := Lib.hid (HO.out.below hX)
                have HBD := Lib.hid (below_then HB.out hX)
                have HUD := Lib.hid (HU3.out _ hX)
                have f1' := carry hX f1
                clear HO HB HU3 dk f0 f1
                generalize wr.drewN nq = wd at *
                go_wp2_with (at_builtin; refine append_rdI rfl (.tmp 53) (.tmp 58) rfl w.heap.size HBD.out.size _ l rfl HOD.out _ ms rfl HUD.out hle2 ?_; intro v9 w9 hown hb; have HO9 := Lib.hid hown; have HB9 := Lib.hid (HBD.out.trans hb); clear hown hb)
                go_roundg (L + 1 - (k2 + 1))
                case measure => omega
                case rel => exact ⟨k2 + 1, l ++ ms, _, by omega, by omega, Nat.le_refl _, rfl, by go_num, HR', HRS', HF', HO9, HB9⟩
            · have t1 : (y.k == kd) = false := by simpa using hyk
              have H5 : Hid (isSet s.k = true ∨ ∀ y, p[k2]? = some y → y.k ≠ s.k) := .inr fun z hz => by have := HY.out; rw [hz] at this; cases this; rw [HKD.out]; exact hyk
              clear hy e0 e1 hu2 HY hyk
              go_wp2_with fail
              go_quiet (fail)
              have hX := below_drewN (Below.refl wr.heap.size wr) nq
              have HOD := Lib.hid (HO.out.below hX)
              have HBD := Lib.hid (below_then HB.out hX)
              have HTG : Hid (P.text (p.drop k) = P.word kd l ++ tl (p.drop k2)) := by
                have h := P.text_seg HSG.out HSS.out hkk (by rw [HL.out]; exact hk2) HR.out (fun h => by rw [HKD.out]; exact HRS.out h) HF.out H5.out
                rw [HKD.out] at h; exact h
              have HSN : Hid ((S ++ (if k = 0 then [] else [32]) ++ P.word kd l) ++ tl (p.drop k2) = TX) := by
                show _ = _
                rw [← HT.out]
                by_cases hk0 : k = 0
                · rw [if_pos hk0, if_pos hk0]
                  have h := HTG.out
                  rw [hk0, List.drop_zero] at h
                  rw [h]; simp
                · rw [if_neg hk0, if_neg hk0]
                  have hne : p.drop k ≠ [] := fun e => by
                    have h := congrArg List.length e
                    rw [List.length_drop, List.length_nil, HL.out] at h; omega
                  have htl : tl (p.drop k) = 32 :: P.text (p.drop k) := by unfold tl; rw [if_neg hne]
                  rw [htl, HTG.out]; simp
              have HSZ : Hid ((bs (S ++ (if k = 0 then [] else [32]) ++ P.word kd l)).size ≤ 100000000) := by
                have h : (S ++ (if k = 0 then [] else [32]) ++ P.word kd l).length + (tl (p.drop k2)).length = TX.length := by rw [← List.length_append, HSN.out]
                have h7 := HTS.out
                rw [bs_size] at h7 ⊢
                show _ ≤ _
                omega
              have HWD := Lib.hid (wrd_of HOD.out.rd HLI.out (by omega))
              have dkd := HC0.out _ HBD.out
              have HFO := Lib.hid HOD.out.rd.form
              obtain ⟨a8, c8, hf8⟩ := HFO.out
              subst hf8
              generalize l.length = LN at *
              clear HR HRS HF HO HB H5 HTG HLI HFO HFT HUA HC0 dk
              generalize wr.drewN nq = wd at *
              by_cases hk0 : k = 0
              · subst hk0
                have dk0 : wd.cell? ⟨b, off, none⟩ = some (.int .i64 kd) := by simpa using dkd
                have HNX : Hid (bs S ++ bs (P.word kd l) = bs (S ++ (if 0 = 0 then [] else [32]) ++ P.word kd l)) := by show _ = _; rw [if_pos rfl, List.append_nil, bs_app]
                have hz : ¬ 9223372036854775807 < (bs S).size + (bs (P.word kd l)).size := by
                  have h := HSZ.out
                  rw [← HNX.out, ByteArray.size_append] at h; omega
                have HN2 : Hid ((S ++ (if 0 = 0 then [] else [32]) ++ P.word kd l) ++ (if k2 = 0 then P.text p else tl (p.drop k2)) = TX) := by rw [if_neg (show ¬ k2 = 0 by omega)]; exact HSN.out
                obtain ⟨S2, hS2⟩ : ∃ S2, S ++ (if 0 = 0 then [] else [32]) ++ P.word kd l = S2 := ⟨_, rfl⟩
                rw [hS2] at HNX HN2
                generalize bs S = BS at *
                clear HSN HSZ hS2 HT
                rcases (show kd = 1 ∨ kd = 2 ∨ kd = 3 ∨ kd = 4 by omega) with rfl | rfl | rfl | rfl
                all_goals
                  go_wp2_with (go_at_call 62; refine (HWD.out _ _ _ _ (by first | exact .inl ⟨rfl, rfl, rfl, rfl⟩ | exact .inr (.inl ⟨rfl, rfl, rfl, rfl⟩) | exact .inr (.inr (.inl ⟨rfl, rfl, rfl, rfl⟩)) | exact .inr (.inr (.inr ⟨rfl, rfl, rfl, rfl⟩)))).mono ?_; rintro e w9 ⟨rfl, hb9⟩; have HB9 := Lib.hid (below_then HBD.out hb9); clear hb9)
                  go_roundg (L + 1 - k2)
                  case measure => omega
                  case rel => exact ⟨k2, S2, by omega, Nat.le_refl _, by rw [HNX.out], rfl, HN2, HB9⟩
              · have HNX : Hid (bs S ++ ⟨#[32]⟩ ++ bs (P.word kd l) = bs (S ++ (if k = 0 then [] else [32]) ++ P.word kd l)) := by
                  show _ = _; rw [if_neg hk0, ← bs_app, ← bs_app]; rfl
                have hz : ¬ 9223372036854775807 < (bs S ++ ⟨#[32]⟩).size + (bs (P.word kd l)).size := by
                  have h := HSZ.out
                  rw [← HNX.out, ByteArray.size_append] at h; omega
                have hz1 : ¬ 9223372036854775807 < (bs S).size + (bs (P.word kd l)).size := by
                  rw [ByteArray.size_append] at hz; omega
                have hz2 : ¬ 9223372036854775807 < (bs S).size + 1 := by omega
                have hz3 : ¬ 9223372036854775807 < (bs S).size + 1 + (bs (P.word kd l)).size := by
                  rw [ByteArray.size_append] at hz
                  have e9 : (⟨#[32]⟩ : ByteArray).size = 1 := rfl
                  omega
                have HN2 : Hid ((S ++ (if k = 0 then [] else [32]) ++ P.word kd l) ++ (if k2 = 0 then P.text p else tl (p.drop k2)) = TX) := by rw [if_neg (show ¬ k2 = 0 by omega)]; exact HSN.out
                obtain ⟨S2, hS2⟩ : ∃ S2, S ++ (if k = 0 then [] else [32]) ++ P.word kd l = S2 := ⟨_, rfl⟩
                rw [hS2] at HNX HN2
                generalize bs S = BS at *
                have g1 : (0 : Int) < (k : Int) := by omega
                have g2 : 0 < k := by omega
                have g3 : decide ((0 : Int) < (k : Int)) = true := decide_eq_true g1
                clear HSN HSZ hS2 HT
                rcases (show kd = 1 ∨ kd = 2 ∨ kd = 3 ∨ kd = 4 by omega) with rfl | rfl | rfl | rfl
                all_goals
                  go_wp2_with (go_at_call 62; refine (HWD.out _ _ _ _ (by first | exact .inl ⟨rfl, rfl, rfl, rfl⟩ | exact .inr (.inl ⟨rfl, rfl, rfl, rfl⟩) | exact .inr (.inr (.inl ⟨rfl, rfl, rfl, rfl⟩)) | exact .inr (.inr (.inr ⟨rfl, rfl, rfl, rfl⟩)))).mono ?_; rintro e w9 ⟨rfl, hb9⟩; have HB9 := Lib.hid (below_then HBD.out hb9); clear hb9)
                  go_roundg (L + 1 - k2)
                  case measure => omega
                  case rel => exact ⟨k2, S2, by omega, Nat.le_refl _, by rw [HNX.out], rfl, HN2, HB9⟩
          · have n2 : decide ((k2 : Int) < (L : Int)) = false := decide_eq_false (by omega)
            have H5 : Hid (isSet s.k = true ∨ ∀ y, p[k2]? = some y → y.k ≠ s.k) := .inr fun z hz => by have := (List.getElem?_eq_some_iff.1 hz).1; have := HL.out; omega
            go_wp2_with fail
            go_quiet (fail)
            have hX := below_drewN (Below.refl wr.heap.size wr) nq
            have HOD := Lib.hid (HO.out.below hX)
            have HBD := Lib.hid (below_then HB.out hX)
            have HTG : Hid (P.text (p.drop k) = P.word kd l ++ tl (p.drop k2)) := by
              have h := P.text_seg HSG.out HSS.out hkk (by rw [HL.out]; exact hk2) HR.out (fun h => by rw [HKD.out]; exact HRS.out h) HF.out H5.out
              rw [HKD.out] at h; exact h
            have HSN : Hid ((S ++ (if k = 0 then [] else [32]) ++ P.word kd l) ++ tl (p.drop k2) = TX) := by
              show _ = _
              rw [← HT.out]
              by_cases hk0 : k = 0
              · rw [if_pos hk0, if_pos hk0]
                have h := HTG.out
                rw [hk0, List.drop_zero] at h
                rw [h]; simp
              · rw [if_neg hk0, if_neg hk0]
                have hne : p.drop k ≠ [] := fun e => by
                  have h := congrArg List.length e
                  rw [List.length_drop, List.length_nil, HL.out] at h; omega
                have htl : tl (p.drop k) = 32 :: P.text (p.drop k) := by unfold tl; rw [if_neg hne]
                rw [htl, HTG.out]; simp
            have HSZ : Hid ((bs (S ++ (if k = 0 then [] else [32]) ++ P.word kd l)).size ≤ 100000000) := by
              have h : (S ++ (if k = 0 then [] else [32]) ++ P.word kd l).length + (tl (p.drop k2)).length = TX.length := by rw [← List.length_append, HSN.out]
              have h7 := HTS.out
              rw [bs_size] at h7 ⊢
              show _ ≤ _
              omega
            have HWD := Lib.hid (wrd_of HOD.out.rd HLI.out (by omega))
            have dkd := HC0.out _ HBD.out
            have HFO := Lib.hid HOD.out.rd.form
            obtain ⟨a8, c8, hf8⟩ := HFO.out
            subst hf8
            generalize l.length = LN at *
            clear HR HRS HF HO HB H5 HTG HLI HFO HFT HUA HC0 dk
            generalize wr.drewN nq = wd at *
            by_cases hk0 : k = 0
            · subst hk0
              have dk0 : wd.cell? ⟨b, off, none⟩ = some (.int .i64 kd) := by simpa using dkd
              have HNX : Hid (bs S ++ bs (P.word kd l) = bs (S ++ (if 0 = 0 then [] else [32]) ++ P.word kd l)) := by show _ = _; rw [if_pos rfl, List.append_nil, bs_app]
              have hz : ¬ 9223372036854775807 < (bs S).size + (bs (P.word kd l)).size := by
                have h := HSZ.out
                rw [← HNX.out, ByteArray.size_append] at h; omega
              have HN2 : Hid ((S ++ (if 0 = 0 then [] else [32]) ++ P.word kd l) ++ (if k2 = 0 then P.text p else tl (p.drop k2)) = TX) := by rw [if_neg (show ¬ k2 = 0 by omega)]; exact HSN.out
              obtain ⟨S2, hS2⟩ : ∃ S2, S ++ (if 0 = 0 then [] else [32]) ++ P.word kd l = S2 := ⟨_, rfl⟩
              rw [hS2] at HNX HN2
              generalize bs S = BS at *
              clear HSN HSZ hS2 HT
              rcases (show kd = 1 ∨ kd = 2 ∨ kd = 3 ∨ kd = 4 by omega) with rfl | rfl | rfl | rfl
              all_goals
                go_wp2_with (go_at_call 62; refine (HWD.out _ _ _ _ (by first | exact .inl ⟨rfl, rfl, rfl, rfl⟩ | exact .inr (.inl ⟨rfl, rfl, rfl, rfl⟩) | exact .inr (.inr (.inl ⟨rfl, rfl, rfl, rfl⟩)) | exact .inr (.inr (.inr ⟨rfl, rfl, rfl, rfl⟩)))).mono ?_; rintro e w9 ⟨rfl, hb9⟩; have HB9 := Lib.hid (below_then HBD.out hb9); clear hb9)
                go_roundg (L + 1 - k2)
                case measure => omega
                case rel => exact ⟨k2, S2, by omega, Nat.le_refl _, by rw [HNX.out], rfl, HN2, HB9⟩
            · have HNX : Hid (bs S ++ ⟨#[32]⟩ ++ bs (P.word kd l) = bs (S ++ (if k = 0 then [] else [32]) ++ P.word kd l)) := by
                show _ = _; rw [if_neg hk0, ← bs_app, ← bs_app]; rfl
              have hz : ¬ 9223372036854775807 < (bs S ++ ⟨#[32]⟩).size + (bs (P.word kd l)).size := by
                have h := HSZ.out
                rw [← HNX.out, ByteArray.size_append] at h; omega
              have hz1 : ¬ 9223372036854775807 < (bs S).size + (bs (P.word kd l)).size := by
                rw [ByteArray.size_append] at hz; omega
              have hz2 : ¬ 9223372036854775807 < (bs S).size + 1 := by omega
              have hz3 : ¬ 9223372036854775807 < (bs S).size + 1 + (bs (P.word kd l)).size := by
                rw [ByteArray.size_append] at hz
                have e9 : (⟨#[32]⟩ : ByteArray).size = 1 := rfl
                omega
              have HN2 : Hid ((S ++ (if k = 0 then [] else [32]) ++ P.word kd l) ++ (if k2 = 0 then P.text p else tl (p.drop k2)) = TX) := by rw [if_neg (show ¬ k2 = 0 by omega)]; exact HSN.out
              obtain ⟨S2, hS2⟩ : ∃ S2, S ++ (if k = 0 then [] else [32]) ++ P.word kd l = S2 := ⟨_, rfl⟩
              rw [hS2] at HNX HN2
              generalize bs S = BS at *
              have g1 : (0 : Int) < (k : Int) := by omega
              have g2 : 0 < k := by omega
              have g3 : decide ((0 : Int) < (k : Int)) = true := decide_eq_true g1
              clear HSN HSZ hS2 HT
              rcases (show kd = 1 ∨ kd = 2 ∨ kd = 3 ∨ kd = 4 by omega) with rfl | rfl | rfl | rfl
              all_goals
                go_wp2_with (go_at_call 62; refine (HWD.out _ _ _ _ (by first | exact .inl ⟨rfl, rfl, rfl, rfl⟩ | exact .inr (.inl ⟨rfl, rfl, rfl, rfl⟩) | exact .inr (.inr (.inl ⟨rfl, rfl, rfl, rfl⟩)) | exact .inr (.inr (.inr ⟨rfl, rfl, rfl, rfl⟩)))).mono ?_; rintro e w9 ⟨rfl, hb9⟩; have HB9 := Lib.hid (below_then HBD.out hb9); clear hb9)
                go_roundg (L + 1 - k2)
                case measure => omega
                case rel => exact ⟨k2, S2, by omega, Nat.le_refl _, by rw [HNX.out], rfl, HN2, HB9⟩
      · have i2 : decide ((k : Int) < (L : Int)) = false := decide_eq_false (by omega)
        have HE : Hid (S = TX) := by
          have h := HT.out
          by_cases hk0 : k = 0
          · have hp : p = [] := List.length_eq_zero_iff.1 (by rw [HL.out]; omega)
            rw [if_pos hk0, HTX.out, HTE.out hp, List.append_nil] at h
            show _ = _; rw [h, HTE.out hp]
          · rw [if_neg hk0, List.drop_of_length_le (by rw [HL.out]; omega)] at h
            show _ = _; rw [← h]; unfold tl; rw [if_pos rfl, List.append_nil]
        go_wp2
        go_ret2
        exact ⟨by rw [← HE.out] <;> rfl, HS.out⟩
  · have e1 : (q != 0) = true := by simpa using hq0
    rw [if_neg hq0]
    clear HOK HCC HV
    go_enter Tryz.func32, Tryz.ntmps32
    go_wp2_with fail
    go_at_call 14
    refine HC.out.mono ?_
    rintro e w1 ⟨rfl, hb⟩
    have HB1 := Lib.hid hb
    clear hb HC
    go_wp2
    go_ret2
    exact ⟨by first | rfl | trivial, HB1.out⟩
end
end Go.Proofs.YtiobfgcpbihbhaaGreatDoor
namespace Go.Proofs.YtiobfgcpbihbhaaGreatDoor
section
open Go.RowKit P
set_option linter.unusedSimpArgs false
set_option linter.unusedVariables false
set_option maxHeartbeats 4000000
set_option maxRecDepth 100000
theorem next_yes {l : List UInt8} {k j : Nat} (c : UInt8) (n : Int) (hc : (c.toNat : Int) = n) {w : World} (hb : RB j l k w) (hk : k ≤ l.length) (hl : l.length ≤ 1000000) (h : l[k]? = some c) :
    Calls Tryz.prog 65 #[.pointer (some ⟨j, 0, none⟩), .int .u8 n] w fun e w' => e = .returned (.bool true) ∧ RB j l (k + 1) w' ∧ Mv j w w' := by
  subst hc
  refine (next_any l k j c w hb hk hl).mono ?_
  rintro e w' ⟨b, k', rfl, hn, hr, hm⟩
  rcases hn with ⟨_, rfl, rfl⟩ | ⟨h1, _, _⟩
  · exact ⟨rfl, hr, hm⟩
  · exact absurd h h1
theorem next_no {l : List UInt8} {k j : Nat} (c : UInt8) (n : Int) (hc : (c.toNat : Int) = n) {w : World} (hb : RB j l k w) (hk : k ≤ l.length) (hl : l.length ≤ 1000000) (h : l[k]? ≠ some c) :
    Calls Tryz.prog 65 #[.pointer (some ⟨j, 0, none⟩), .int .u8 n] w fun e w' => e = .returned (.bool false) ∧ RB j l k w' ∧ Mv j w w' := by
  subst hc
  refine (next_any l k j c w hb hk hl).mono ?_
  rintro e w' ⟨b, k', rfl, hn, hr, hm⟩
  rcases hn with ⟨h1, _, _⟩ | ⟨_, rfl, rfl⟩
  · exact absurd h1 h
  · exact ⟨rfl, hr, hm⟩
theorem next_skip {l : List UInt8} {k j : Nat} (c : UInt8) (n : Int) (hc : (c.toNat : Int) = n) {w : World} (hb : RB j l k w) (hk : k ≤ l.length) (hl : l.length ≤ 1000000) :
    Calls Tryz.prog 65 #[.pointer (some ⟨j, 0, none⟩), .int .u8 n] w fun e w' => ∃ b k', e = .returned (.bool b) ∧ l.drop k' = skip c (l.drop k) ∧ k ≤ k' ∧ k' ≤ l.length ∧ RB j l k' w' ∧ Mv j w w' := by
  subst hc
  refine (next_any l k j c w hb hk hl).mono ?_
  rintro e w' ⟨b, k', rfl, hn, hr, hm⟩
  refine ⟨b, k', rfl, ?_, ?_, ?_, hr, hm⟩
  · rcases hn with ⟨h1, _, rfl⟩ | ⟨h1, _, rfl⟩
    · rw [P.drop_at h1, skip_yes]
    · cases hd : l[k']? with
      | none => rw [List.drop_of_length_le (by rw [List.getElem?_eq_none_iff] at hd; exact hd)]; rfl
      | some d =>
        rw [P.drop_at hd]
        show _ = if d = c then _ else _
        rw [if_neg (fun e => h1 (by rw [hd, e]))]
  · rcases hn with ⟨_, _, rfl⟩ | ⟨_, _, rfl⟩ <;> omega
  · rcases hn with ⟨h1, _, rfl⟩ | ⟨h1, _, rfl⟩
    · exact (List.getElem?_eq_some_iff.1 h1).1
    · exact hk
theorem numbersN {l : List UInt8} {k j : Nat} (c : UInt8) (n : Int) (hc : (c.toNat : Int) = n) {w : World} (hb : RB j l k w) (hk : k ≤ l.length) (hl : l.length ≤ 1000000) :
    Calls Tryz.prog 66 #[.pointer (some ⟨j, 0, none⟩), .int .u8 n] w fun e w' => ∃ a m cp k', e = .returned (.slice a m cp) ∧ k ≤ k' ∧ k' ≤ l.length ∧ l.drop k' = (numsS c (l.drop k)).2 ∧ (numsS c (l.drop k)).1.length ≤ k' - k ∧ OwnI w.heap.size w' (.slice a m cp) (numsS c (l.drop k)).1 ∧ RB j l k' w' ∧ Mv j w w' := by
  subst hc
  refine (numbers_any l k j c w hb hk hl).mono ?_
  rintro e w' ⟨v', k', rfl, h1, h2, h3, h4, h5, h6⟩
  obtain ⟨a, cp, hf⟩ := h4.rd.form
  have h7 := (numsS_len c _ (l.drop k) rfl).2.1
  rw [← h3, List.length_drop, List.length_drop] at h7
  subst hf
  exact ⟨a, _, cp, k', rfl, h1, h2, h3, by omega, h4, h5, h6⟩
theorem P.rd1_brace {l : List UInt8} {k : Nat} (h : l[k]? = some 123) : rdOne (l.drop k) = ([⟨1, (numsS 44 (l.drop (k + 1))).1⟩], skip 32 (skip 125 (numsS 44 (l.drop (k + 1))).2)) := by rw [drop_at h]; rfl
theorem P.rd1_brack {l : List UInt8} {k : Nat} (h : l[k]? = some 91) : rdOne (l.drop k) = ([⟨4, (numsS 44 (l.drop (k + 1))).1⟩], skip 32 (skip 93 (numsS 44 (l.drop (k + 1))).2)) := by rw [drop_at h]; rfl
theorem P.rd1_paren {l : List UInt8} {k : Nat} (h : l[k]? = some 40) : rdOne (l.drop k) = (seqs 3 (numsS 32 (l.drop (k + 1))).1, skip 32 (skip 41 (numsS 32 (l.drop (k + 1))).2)) := by rw [drop_at h]; rfl
theorem P.rd1_other {l : List UInt8} {k : Nat} {d : UInt8} (h : l[k]? = some d) (h1 : d ≠ 123) (h2 : d ≠ 91) (h3 : d ≠ 40) : rdOne (l.drop k) = (seqs 2 (numsS 32 (l.drop k)).1, skip 32 (numsS 32 (l.drop k)).2) := by
  rw [drop_at h]
  unfold rdOne
  split
  · rename_i e; exact absurd (List.cons.inj e).1 h1
  · rename_i e; exact absurd (List.cons.inj e).1 h2
  · rename_i e; exact absurd (List.cons.inj e).1 h3
  · rfl
theorem OwnF.blk {B : Nat} {w : World} {v : Value} {p : List Sg} (h : OwnF B w v p) {g : Nat} (hg : v.ownBlock = some g) : B ≤ g ∧ g < w.heap.size := by
  rcases h.2 with ⟨e, _⟩ | ⟨g', cap', q', e, ho, _, _⟩
  · rw [e] at hg; cases hg
  · exact row_lt ho hg
theorem P.seqs_size (k : Int) (l : List Int) : (seqs k l).length ≤ l.length ∧ (flat (seqs k l)).length = l.length := ⟨seqs_len0 k _ l rfl, by rw [seqs_flat k _ l rfl]⟩
theorem rparse_any (l : List UInt8) (w : World) (hl : l.length ≤ 1000000) :
    Calls Tryz.prog 34 #[.string (bs l)] w fun e w' => ∃ v', e = .returned (.tuple #[v', .int .i64 (rparse l).2]) ∧ RdS w' v' (rparse l).1 ∧ Below w.heap.size w w' := by
  have hS : (bs l).size = l.length := bs_size l
  have HRE : Hid (rparse l = match lenS l [] with
    | none => ([], 2)
    | some q => if chk q = 0 ∧ text q = l then (q, 0) else ([], 2)) := rfl
  obtain ⟨RES, hRES⟩ : ∃ RES, rparse l = RES := ⟨_, rfl⟩
  rw [hRES] at HRE ⊢
  clear hRES
  have HT0 : Hid (lenS l [] = lenS (l.drop 0) []) := rfl
  have HR0 : Hid (RB w.heap.size l 0 (w.alloc (.cells #[.string (bs l), .int .i64 0] 73))) := heap_alloc_new _ _
  have HO0 : Hid (OwnF (w.heap.size + 1) (w.alloc (.cells #[.string (bs l), .int .i64 0] 73)) (.slice none 0 0) []) := ⟨by simp, .inl ⟨rfl, rfl⟩⟩
  have HB0 : Hid (Below w.heap.size w (w.alloc (.cells #[.string (bs l), .int .i64 0] 73))) := below_alloc _ _
  go_enter Tryz.func34, Tryz.ntmps34
  go_wp2_with fail
  generalize w.alloc (.cells #[.string (bs l), .int .i64 0] 73) = wb at *
  go_loopg [5] (l.length + 1) (fun g s5 wr => ∃ (k : Nat) (p : List Sg) (v5 : Value), k ≤ l.length ∧ l.length + 1 - k ≤ g ∧ v5 = s5 ∧ p.length ≤ k ∧ (flat p).length ≤ k ∧ Hid (lenS l [] = lenS (l.drop k) p) ∧ Hid (OwnF (w.heap.size + 1) wr v5 p) ∧ Hid (RB w.heap.size l k wr) ∧ Hid (Below w.heap.size w wr))
  case atStart => exact ⟨0, [], _, by omega, by omega, rfl, by simp, by simp [flat], HT0, HO0, HR0, HB0⟩
  case round =>
    clear HT0 HO0 HR0 HB0
    obtain ⟨k, p, v5, hk, hkg, rfl, hpl, hfl, HT, HO, HR, HB⟩ := hrel
    have c1 := HR.out.c1
    obtain ⟨va, vc, hvf⟩ := HO.out.rd.form
    by_cases hlt : k < l.length
    · obtain ⟨d, hd⟩ : ∃ d, l[k]? = some d := ⟨_, List.getElem?_eq_getElem hlt⟩
      have i1 : decide ((k : Int) < (l.length : Int)) = true := decide_eq_true (by omega)
      have HD := Lib.hid hd
      clear hd hvf
      by_cases hd123 : d = 123
      · subst hd123
        have HL := Lib.hid (P.rd1_brace HD.out)

        go_wp2_with fail
        go_at_call 65
        refine (next_yes 123 123 rfl HR.out hk hl HD.out).mono ?_
        rintro e w1 ⟨rfl, hr, hm⟩
        have HR1 := Lib.hid hr
        have HO1 := Lib.hid (HO.out.mv (Nat.lt_succ_self _) hm)
        have HB1 := Lib.hid (HB.out.trans hm.1)
        clear hr hm HR HO HB

        have hjn : HO1.out.1 = HO1.out.1 := rfl
        go_wp2_with fail
        go_at_call 66
        refine (numbersN 44 44 rfl HR1.out (show k + 1 ≤ l.length by omega) hl).mono ?_
        rintro e wn ⟨a, m, cp, k2, rfl, hk2, hk2', hdr, hnl, hown, hr, hm⟩
        have HRn := Lib.hid hr
        have HOn := Lib.hid (HO1.out.mv (Nat.lt_succ_self _) hm)
        have HBn := Lib.hid (HB1.out.trans hm.1)
        have HDR := Lib.hid hdr
        have hsz : w.heap.size + 1 ≤ wn.heap.size := HOn.out.1
        obtain ⟨nm, hnm⟩ : ∃ nm, (numsS 44 (l.drop (k + 1))).1 = nm := ⟨_, rfl⟩
        rw [hnm] at hnl hown HL
        obtain ⟨WS, hWS⟩ : ∃ WS, w1.heap.size = WS := ⟨_, rfl⟩
        rw [hWS] at hown
        have HWB : Hid (∀ g, v5.ownBlock = some g → g < WS) := fun g hg => by rw [← hWS]; exact (HO1.out.blk hg).2
        have HWJ : Hid (w.heap.size + 1 ≤ WS) := by rw [← hWS]; exact HO1.out.1
        have HOW := Lib.hid hown
        clear hr hm hdr hown hjn hnm hWS HR1 HO1 HB1

        have HX : Hid (Below wn.heap.size wn (wn.alloc (.cells #[.int .i64 1, .slice a m cp] 46))) := below_alloc _ _
        have HOA := Lib.hid (HOn.out.below HX.out)
        have HRA := Lib.hid (HRn.out.below HX.out)
        have HBA := Lib.hid (below_then HBn.out HX.out)
        have HUA : Hid (OwnI WS (wn.alloc (.cells #[.int .i64 1, .slice a m cp] 46)) (.slice a m cp) nm) := HOW.out.below HX.out
        have hc0 : (wn.alloc (.cells #[.int .i64 1, .slice a m cp] 46)).cell? ⟨wn.heap.size, 0, none⟩ = some (.int .i64 1) := cell_of (heap_alloc_new _ _) rfl
        have hc1 : (wn.alloc (.cells #[.int .i64 1, .slice a m cp] 46)).cell? ⟨wn.heap.size, 1, none⟩ = some (.slice a m cp) := cell_of (heap_alloc_new _ _) rfl
        have HCC := Lib.hid (And.intro hc0 hc1)
        have HNG : Hid (∀ g, (v5.ownBlock = some g ∨ (v5.ownBlock = none ∧ g = (wn.alloc (.cells #[.int .i64 1, .slice a m cp] 46)).heap.size)) → RdN g (wn.alloc (.cells #[.int .i64 1, .slice a m cp] 46)) (.slice a m cp) nm) := fun g hg => by
          rcases hg with e | ⟨_, e⟩
          · exact HUA.out.away (HWB.out g e)
          · rw [e]; exact HUA.out.rd.away (Nat.le_refl _) (Below.refl _ _)
        have HNF : Hid (∀ h, h < w.heap.size + 1 → RdN h (wn.alloc (.cells #[.int .i64 1, .slice a m cp] 46)) (.slice a m cp) nm) := fun h hh => HUA.out.away (Nat.lt_of_lt_of_le hh HWJ.out)
        have HRW : Hid (∀ w3, Below (w.heap.size + 1) (wn.alloc (.cells #[.int .i64 1, .slice a m cp] 46)) w3 → RB w.heap.size l k2 w3 ∧ Below w.heap.size w w3) := fun w3 hb => ⟨(hb.block w.heap.size (Nat.lt_succ_self _)).trans HRA.out, HBA.out.trans (hb.mono (Nat.le_succ _))⟩
        have hpl2 : p.length ≤ 2000000 := by omega
        clear hc0 hc1 HOn HRn HBn HUA HOW HX
        go_wp2_with (at_builtin; refine append_segF rfl (.tmp 31) (.tmp 35) rfl (w.heap.size + 1) HOA.out.1 v5 p rfl HOA.out wn.heap.size 1 (.slice a m cp) nm rfl HCC.out.1 HCC.out.2 HNG.out HNF.out hpl2 ?_; intro v3 w3 hown hb; have HO3 := Lib.hid hown; have HR3 := Lib.hid (HRW.out w3 hb).1; have HB3 := Lib.hid (HRW.out w3 hb).2; clear hown hb)

        go_wp2_with fail
        go_at_call 65
        refine (next_skip 125 125 rfl HR3.out hk2' hl).mono ?_
        rintro e w4 ⟨b4, k3, rfl, hs3, hk3, hk3', hr4, hm4⟩
        obtain ⟨Q, hQ⟩ : ∃ Q, ([⟨1, nm⟩] : List Sg) = Q := ⟨_, rfl⟩
        have hsq : rdOne (l.drop k) = (Q, skip 32 (l.drop k3)) := by rw [HL.out, hs3, HDR.out, hQ]
        have hrt : RB w.heap.size l k3 w4 := hr4
        have hot : OwnF (w.heap.size + 1) w4 v3 (p ++ Q) := by rw [← hQ]; exact HO3.out.mv (Nat.lt_succ_self _) hm4
        have hbt : Below w.heap.size w w4 := HB3.out.trans hm4.1
        have hqz : Q.length ≤ k3 - k ∧ (flat Q).length ≤ k3 - k := by rw [← hQ]; simp [flat]; omega
        clear HO3 HR3 HB3 HRW HL HDR hQ hr4 hm4 hs3

        have HSQ := Lib.hid hsq
        have HRT := Lib.hid hrt
        have HOT := Lib.hid hot
        have HBT := Lib.hid hbt
        clear hsq hrt hot hbt
        go_wp2_with fail
        go_at_call 65
        refine (next_skip 32 32 rfl HRT.out hk3' hl).mono ?_
        rintro e w9 ⟨b9, k4, rfl, hs4, hk4, hk4', hr9, hm9⟩
        have HR9 := Lib.hid hr9
        have HO9 := Lib.hid (HOT.out.mv (Nat.lt_succ_self _) hm9)
        have HB9 := Lib.hid (HBT.out.trans hm9.1)
        have HRD : Hid (rdOne (l.drop k) = (Q, l.drop k4)) := by show _ = _; rw [HSQ.out, hs4]
        have c1 := hr9.c1
        clear hs4 hr9 hm9 HRT HOT HBT HSQ
        by_cases hk40 : k4 = k
        · exact absurd hk40 (by omega)
        · have HN : Hid (lenS l [] = lenS (l.drop k4) (p ++ Q)) := by
            show _ = _
            rw [HT.out, lenS_step (fun e => by
              have h := congrArg List.length e
              rw [List.length_drop, List.length_nil] at h; omega) (by rw [HRD.out]; show (l.drop k4).length ≠ _; rw [List.length_drop, List.length_drop]; omega), HRD.out]
          have e1 : ((k4 : Int) == (k : Int)) = false := by rw [beq_eq_false_iff_ne]; omega
          have hz : (p ++ Q).length ≤ k4 ∧ (flat (p ++ Q)).length ≤ k4 := by
            rw [flat_app, List.length_append, List.length_append]; omega
          clear HRD HT
          go_wp2_with fail
          go_roundg (l.length + 1 - k4)
          case measure => omega
          case rel => exact ⟨k4, p ++ Q, _, hk4', Nat.le_refl _, rfl, hz.1, hz.2, HN, HO9, HR9, HB9⟩
      · by_cases hd91 : d = 91
        · subst hd91
          have HL := Lib.hid (P.rd1_brack HD.out)

          go_wp2_with fail
          go_at_call 65
          refine (next_no 123 123 rfl HR.out hk hl (by rw [HD.out]; exact fun e => absurd (Option.some.inj e) hd123)).mono ?_
          rintro e w1 ⟨rfl, hr, hm⟩
          have HR1 := Lib.hid hr
          have HO1 := Lib.hid (HO.out.mv (Nat.lt_succ_self _) hm)
          have HB1 := Lib.hid (HB.out.trans hm.1)
          clear hr hm HR HO HB

          go_wp2_with fail
          go_at_call 65
          refine (next_yes 91 91 rfl HR1.out hk hl HD.out).mono ?_
          rintro e w2 ⟨rfl, hr, hm⟩
          have HR2 := Lib.hid hr
          have HO2 := Lib.hid (HO1.out.mv (Nat.lt_succ_self _) hm)
          have HB2 := Lib.hid (HB1.out.trans hm.1)
          clear hr hm HR1 HO1 HB1

          have hjn : HO2.out.1 = HO2.out.1 := rfl
          go_wp2_with fail
          go_at_call 66
          refine (numbersN 44 44 rfl HR2.out (show k + 1 ≤ l.length by omega) hl).mono ?_
          rintro e wn ⟨a, m, cp, k2, rfl, hk2, hk2', hdr, hnl, hown, hr, hm⟩
          have HRn := Lib.hid hr
          have HOn := Lib.hid (HO2.out.mv (Nat.lt_succ_self _) hm)
          have HBn := Lib.hid (HB2.out.trans hm.1)
          have HDR := Lib.hid hdr
          have hsz : w.heap.size + 1 ≤ wn.heap.size := HOn.out.1
          obtain ⟨nm, hnm⟩ : ∃ nm, (numsS 44 (l.drop (k + 1))).1 = nm := ⟨_, rfl⟩
          rw [hnm] at hnl hown HL
          obtain ⟨WS, hWS⟩ : ∃ WS, w2.heap.size = WS := ⟨_, rfl⟩
          rw [hWS] at hown
          have HWB : Hid (∀ g, v5.ownBlock = some g → g < WS) := fun g hg => by rw [← hWS]; exact (HO2.out.blk hg).2
          have HWJ : Hid (w.heap.size + 1 ≤ WS) := by rw [← hWS]; exact HO2.out.1
          have HOW := Lib.hid hown
          clear hr hm hdr hown hjn hnm hWS HR2 HO2 HB2

          have HX : Hid (Below wn.heap.size wn (wn.alloc (.cells #[.int .i64 4, .slice a m cp] 46))) := below_alloc _ _
          have HOA := Lib.hid (HOn.out.below HX.out)
          have HRA := Lib.hid (HRn.out.below HX.out)
          have HBA := Lib.hid (below_then HBn.out HX.out)
          have HUA : Hid (OwnI WS (wn.alloc (.cells #[.int .i64 4, .slice a m cp] 46)) (.slice a m cp) nm) := HOW.out.below HX.out
          have hc0 : (wn.alloc (.cells #[.int .i64 4, .slice a m cp] 46)).cell? ⟨wn.heap.size, 0, none⟩ = some (.int .i64 4) := cell_of (heap_alloc_new _ _) rfl
          have hc1 : (wn.alloc (.cells #[.int .i64 4, .slice a m cp] 46)).cell? ⟨wn.heap.size, 1, none⟩ = some (.slice a m cp) := cell_of (heap_alloc_new _ _) rfl
          have HCC := Lib.hid (And.intro hc0 hc1)
          have HNG : Hid (∀ g, (v5.ownBlock = some g ∨ (v5.ownBlock = none ∧ g = (wn.alloc (.cells #[.int .i64 4, .slice a m cp] 46)).heap.size)) → RdN g (wn.alloc (.cells #[.int .i64 4, .slice a m cp] 46)) (.slice a m cp) nm) := fun g hg => by
            rcases hg with e | ⟨_, e⟩
            · exact HUA.out.away (HWB.out g e)
            · rw [e]; exact HUA.out.rd.away (Nat.le_refl _) (Below.refl _ _)
          have HNF : Hid (∀ h, h < w.heap.size + 1 → RdN h (wn.alloc (.cells #[.int .i64 4, .slice a m cp] 46)) (.slice a m cp) nm) := fun h hh => HUA.out.away (Nat.lt_of_lt_of_le hh HWJ.out)
          have HRW : Hid (∀ w3, Below (w.heap.size + 1) (wn.alloc (.cells #[.int .i64 4, .slice a m cp] 46)) w3 → RB w.heap.size l k2 w3 ∧ Below w.heap.size w w3) := fun w3 hb => ⟨(hb.block w.heap.size (Nat.lt_succ_self _)).trans HRA.out, HBA.out.trans (hb.mono (Nat.le_succ _))⟩
          have hpl2 : p.length ≤ 2000000 := by omega
          clear hc0 hc1 HOn HRn HBn HUA HOW HX
          go_wp2_with (at_builtin; refine append_segF rfl (.tmp 42) (.tmp 46) rfl (w.heap.size + 1) HOA.out.1 v5 p rfl HOA.out wn.heap.size 4 (.slice a m cp) nm rfl HCC.out.1 HCC.out.2 HNG.out HNF.out hpl2 ?_; intro v3 w3 hown hb; have HO3 := Lib.hid hown; have HR3 := Lib.hid (HRW.out w3 hb).1; have HB3 := Lib.hid (HRW.out w3 hb).2; clear hown hb)

          go_wp2_with fail
          go_at_call 65
          refine (next_skip 93 93 rfl HR3.out hk2' hl).mono ?_
          rintro e w4 ⟨b4, k3, rfl, hs3, hk3, hk3', hr4, hm4⟩
          obtain ⟨Q, hQ⟩ : ∃ Q, ([⟨4, nm⟩] : List Sg) = Q := ⟨_, rfl⟩
          have hsq : rdOne (l.drop k) = (Q, skip 32 (l.drop k3)) := by rw [HL.out, hs3, HDR.out, hQ]
          have hrt : RB w.heap.size l k3 w4 := hr4
          have hot : OwnF (w.heap.size + 1) w4 v3 (p ++ Q) := by rw [← hQ]; exact HO3.out.mv (Nat.lt_succ_self _) hm4
          have hbt : Below w.heap.size w w4 := HB3.out.trans hm4.1
          have hqz : Q.length ≤ k3 - k ∧ (flat Q).length ≤ k3 - k := by rw [← hQ]; simp [flat]; omega
          clear HO3 HR3 HB3 HRW HL HDR hQ hr4 hm4 hs3

          have HSQ := Lib.hid hsq
          have HRT := Lib.hid hrt
          have HOT := Lib.hid hot
          have HBT := Lib.hid hbt
          clear hsq hrt hot hbt
          go_wp2_with fail
          go_at_call 65
          refine (next_skip 32 32 rfl HRT.out hk3' hl).mono ?_
          rintro e w9 ⟨b9, k4, rfl, hs4, hk4, hk4', hr9, hm9⟩
          have HR9 := Lib.hid hr9
          have HO9 := Lib.hid (HOT.out.mv (Nat.lt_succ_self _) hm9)
          have HB9 := Lib.hid (HBT.out.trans hm9.1)
          have HRD : Hid (rdOne (l.drop k) = (Q, l.drop k4)) := by show _ = _; rw [HSQ.out, hs4]
          have c1 := hr9.c1
          clear hs4 hr9 hm9 HRT HOT HBT HSQ
          by_cases hk40 : k4 = k
          · exact absurd hk40 (by omega)
          · have HN : Hid (lenS l [] = lenS (l.drop k4) (p ++ Q)) := by
              show _ = _
              rw [HT.out, lenS_step (fun e => by
                have h := congrArg List.length e
                rw [List.length_drop, List.length_nil] at h; omega) (by rw [HRD.out]; show (l.drop k4).length ≠ _; rw [List.length_drop, List.length_drop]; omega), HRD.out]
            have e1 : ((k4 : Int) == (k : Int)) = false := by rw [beq_eq_false_iff_ne]; omega
            have hz : (p ++ Q).length ≤ k4 ∧ (flat (p ++ Q)).length ≤ k4 := by
              rw [flat_app, List.length_append, List.length_append]; omega
            clear HRD HT
            go_wp2_with fail
            go_roundg (l.length + 1 - k4)
            case measure => omega
            case rel => exact ⟨k4, p ++ Q, _, hk4', Nat.le_refl _, rfl, hz.1, hz.2, HN, HO9, HR9, HB9⟩
        · by_cases hd40 : d = 40
          · subst hd40
            have HL := Lib.hid (P.rd1_paren HD.out)

            go_wp2_with fail
            go_at_call 65
            refine (next_no 123 123 rfl HR.out hk hl (by rw [HD.out]; exact fun e => absurd (Option.some.inj e) hd123)).mono ?_
            rintro e w1 ⟨rfl, hr, hm⟩
            have HR1 := Lib.hid hr
            have HO1 := Lib.hid (HO.out.mv (Nat.lt_succ_self _) hm)
            have HB1 := Lib.hid (HB.out.trans hm.1)
            clear hr hm HR HO HB

            go_wp2_with fail
            go_at_call 65
            refine (next_no 91 91 rfl HR1.out hk hl (by rw [HD.out]; exact fun e => absurd (Option.some.inj e) hd91)).mono ?_
            rintro e w2 ⟨rfl, hr, hm⟩
            have HR2 := Lib.hid hr
            have HO2 := Lib.hid (HO1.out.mv (Nat.lt_succ_self _) hm)
            have HB2 := Lib.hid (HB1.out.trans hm.1)
            clear hr hm HR1 HO1 HB1

            go_wp2_with fail
            go_at_call 65
            refine (next_yes 40 40 rfl HR2.out hk hl HD.out).mono ?_
            rintro e w3 ⟨rfl, hr, hm⟩
            have HR3 := Lib.hid hr
            have HO3 := Lib.hid (HO2.out.mv (Nat.lt_succ_self _) hm)
            have HB3 := Lib.hid (HB2.out.trans hm.1)
            clear hr hm HR2 HO2 HB2

            have hjn : HO3.out.1 = HO3.out.1 := rfl
            go_wp2_with fail
            go_at_call 66
            refine (numbersN 32 32 rfl HR3.out (show k + 1 ≤ l.length by omega) hl).mono ?_
            rintro e wn ⟨a, m, cp, k2, rfl, hk2, hk2', hdr, hnl, hown, hr, hm⟩
            have HRn := Lib.hid hr
            have HOn := Lib.hid (HO3.out.mv (Nat.lt_succ_self _) hm)
            have HBn := Lib.hid (HB3.out.trans hm.1)
            have HDR := Lib.hid hdr
            have hsz : w.heap.size + 1 ≤ wn.heap.size := HOn.out.1
            obtain ⟨nm, hnm⟩ : ∃ nm, (numsS 32 (l.drop (k + 1))).1 = nm := ⟨_, rfl⟩
            rw [hnm] at hnl hown HL
            obtain ⟨WS, hWS⟩ : ∃ WS, w3.heap.size = WS := ⟨_, rfl⟩
            rw [hWS] at hown
            have HWB : Hid (∀ g, v5.ownBlock = some g → g < WS) := fun g hg => by rw [← hWS]; exact (HO3.out.blk hg).2
            have HWJ : Hid (w.heap.size + 1 ≤ WS) := by rw [← hWS]; exact HO3.out.1
            have HOW := Lib.hid hown
            clear hr hm hdr hown hjn hnm hWS HR3 HO3 HB3

            have HSS := Lib.hid (rseqsF_any 3 nm (.slice a m cp) wn HOW.out.rd (by omega))
            clear HOW
            go_wp2_with fail
            go_at_call 58
            refine HSS.out.mono ?_
            rintro e ws ⟨vs, rfl, hos, hbs⟩
            have HOs := Lib.hid hos
            have HOp := Lib.hid (HOn.out.below hbs)
            have HRs := Lib.hid (HRn.out.below hbs)
            have HBs := Lib.hid (below_then HBn.out hbs)
            have HWB2 : Hid (∀ g, v5.ownBlock = some g → g < wn.heap.size) := fun g hg => (HOn.out.blk hg).2
            have hqs := P.seqs_size 3 nm
            have hls : p.length + (seqs 3 nm).length ≤ 2000000 := by omega
            have HRW : Hid (∀ w3, Below (w.heap.size + 1) ws w3 → RB w.heap.size l k2 w3 ∧ Below w.heap.size w w3) := fun w3 hb => ⟨(hb.block w.heap.size (Nat.lt_succ_self _)).trans HRs.out, HBs.out.trans (hb.mono (Nat.le_succ _))⟩
            obtain ⟨as', cs', hfs⟩ := hos.rd.form
            subst hfs
            clear hos hbs HSS HOn HRn HBn
            go_wp2_with (at_builtin; refine append_segsF rfl (.tmp 53) (.tmp 56) rfl (w.heap.size + 1) HOp.out.1 v5 p rfl HOp.out _ (seqs 3 nm) rfl wn.heap.size hsz HOs.out HWB2.out hls ?_; intro v3 w3 hown hb; have HO3 := Lib.hid hown; have HR3 := Lib.hid (HRW.out w3 hb).1; have HB3 := Lib.hid (HRW.out w3 hb).2; clear hown hb)

            go_wp2_with fail
            go_at_call 65
            refine (next_skip 41 41 rfl HR3.out hk2' hl).mono ?_
            rintro e w4 ⟨b4, k3, rfl, hs3, hk3, hk3', hr4, hm4⟩
            obtain ⟨Q, hQ⟩ : ∃ Q, seqs 3 nm = Q := ⟨_, rfl⟩
            have hsq : rdOne (l.drop k) = (Q, skip 32 (l.drop k3)) := by rw [HL.out, hs3, HDR.out, hQ]
            have hrt : RB w.heap.size l k3 w4 := hr4
            have hot : OwnF (w.heap.size + 1) w4 v3 (p ++ Q) := by rw [← hQ]; exact HO3.out.mv (Nat.lt_succ_self _) hm4
            have hbt : Below w.heap.size w w4 := HB3.out.trans hm4.1
            have hqz : Q.length ≤ k3 - k ∧ (flat Q).length ≤ k3 - k := by rw [← hQ]; omega
            clear HO3 HR3 HB3 HRW HL HDR hQ hr4 hm4 hs3

            have HSQ := Lib.hid hsq
            have HRT := Lib.hid hrt
            have HOT := Lib.hid hot
            have HBT := Lib.hid hbt
            clear hsq hrt hot hbt
            go_wp2_with fail
            go_at_call 65
            refine (next_skip 32 32 rfl HRT.out hk3' hl).mono ?_
            rintro e w9 ⟨b9, k4, rfl, hs4, hk4, hk4', hr9, hm9⟩
            have HR9 := Lib.hid hr9
            have HO9 := Lib.hid (HOT.out.mv (Nat.lt_succ_self _) hm9)
            have HB9 := Lib.hid (HBT.out.trans hm9.1)
            have HRD : Hid (rdOne (l.drop k) = (Q, l.drop k4)) := by show _ = _; rw [HSQ.out, hs4]
            have c1 := hr9.c1
            clear hs4 hr9 hm9 HRT HOT HBT HSQ
            by_cases hk40 : k4 = k
            · exact absurd hk40 (by omega)
            · have HN : Hid (lenS l [] = lenS (l.drop k4) (p ++ Q)) := by
                show _ = _
                rw [HT.out, lenS_step (fun e => by
                  have h := congrArg List.length e
                  rw [List.length_drop, List.length_nil] at h; omega) (by rw [HRD.out]; show (l.drop k4).length ≠ _; rw [List.length_drop, List.length_drop]; omega), HRD.out]
              have e1 : ((k4 : Int) == (k : Int)) = false := by rw [beq_eq_false_iff_ne]; omega
              have hz : (p ++ Q).length ≤ k4 ∧ (flat (p ++ Q)).length ≤ k4 := by
                rw [flat_app, List.length_append, List.length_append]; omega
              clear HRD HT
              go_wp2_with fail
              go_roundg (l.length + 1 - k4)
              case measure => omega
              case rel => exact ⟨k4, p ++ Q, _, hk4', Nat.le_refl _, rfl, hz.1, hz.2, HN, HO9, HR9, HB9⟩
          · skip
            have HL := Lib.hid (P.rd1_other HD.out hd123 hd91 hd40)

            go_wp2_with fail
            go_at_call 65
            refine (next_no 123 123 rfl HR.out hk hl (by rw [HD.out]; exact fun e => absurd (Option.some.inj e) hd123)).mono ?_
            rintro e w1 ⟨rfl, hr, hm⟩
            have HR1 := Lib.hid hr
            have HO1 := Lib.hid (HO.out.mv (Nat.lt_succ_self _) hm)
            have HB1 := Lib.hid (HB.out.trans hm.1)
            clear hr hm HR HO HB

            go_wp2_with fail
            go_at_call 65
            refine (next_no 91 91 rfl HR1.out hk hl (by rw [HD.out]; exact fun e => absurd (Option.some.inj e) hd91)).mono ?_
            rintro e w2 ⟨rfl, hr, hm⟩
            have HR2 := Lib.hid hr
            have HO2 := Lib.hid (HO1.out.mv (Nat.lt_succ_self _) hm)
            have HB2 := Lib.hid (HB1.out.trans hm.1)
            clear hr hm HR1 HO1 HB1

            go_wp2_with fail
            go_at_call 65
            refine (next_no 40 40 rfl HR2.out hk hl (by rw [HD.out]; exact fun e => absurd (Option.some.inj e) hd40)).mono ?_
            rintro e w3 ⟨rfl, hr, hm⟩
            have HR3 := Lib.hid hr
            have HO3 := Lib.hid (HO2.out.mv (Nat.lt_succ_self _) hm)
            have HB3 := Lib.hid (HB2.out.trans hm.1)
            clear hr hm HR2 HO2 HB2

            have hjn : HO3.out.1 = HO3.out.1 := rfl
            go_wp2_with fail
            go_at_call 66
            refine (numbersN 32 32 rfl HR3.out hk hl).mono ?_
            rintro e wn ⟨a, m, cp, k2, rfl, hk2, hk2', hdr, hnl, hown, hr, hm⟩
            have HRn := Lib.hid hr
            have HOn := Lib.hid (HO3.out.mv (Nat.lt_succ_self _) hm)
            have HBn := Lib.hid (HB3.out.trans hm.1)
            have HDR := Lib.hid hdr
            have hsz : w.heap.size + 1 ≤ wn.heap.size := HOn.out.1
            obtain ⟨nm, hnm⟩ : ∃ nm, (numsS 32 (l.drop k)).1 = nm := ⟨_, rfl⟩
            rw [hnm] at hnl hown HL
            obtain ⟨WS, hWS⟩ : ∃ WS, w3.heap.size = WS := ⟨_, rfl⟩
            rw [hWS] at hown
            have HWB : Hid (∀ g, v5.ownBlock = some g → g < WS) := fun g hg => by rw [← hWS]; exact (HO3.out.blk hg).2
            have HWJ : Hid (w.heap.size + 1 ≤ WS) := by rw [← hWS]; exact HO3.out.1
            have HOW := Lib.hid hown
            clear hr hm hdr hown hjn hnm hWS HR3 HO3 HB3

            have HSS := Lib.hid (rseqsF_any 2 nm (.slice a m cp) wn HOW.out.rd (by omega))
            clear HOW
            go_wp2_with fail
            go_at_call 58
            refine HSS.out.mono ?_
            rintro e ws ⟨vs, rfl, hos, hbs⟩
            have HOs := Lib.hid hos
            have HOp := Lib.hid (HOn.out.below hbs)
            have HRs := Lib.hid (HRn.out.below hbs)
            have HBs := Lib.hid (below_then HBn.out hbs)
            have HWB2 : Hid (∀ g, v5.ownBlock = some g → g < wn.heap.size) := fun g hg => (HOn.out.blk hg).2
            have hqs := P.seqs_size 2 nm
            have hls : p.length + (seqs 2 nm).length ≤ 2000000 := by omega
            have HRW : Hid (∀ w3, Below (w.heap.size + 1) ws w3 → RB w.heap.size l k2 w3 ∧ Below w.heap.size w w3) := fun w3 hb => ⟨(hb.block w.heap.size (Nat.lt_succ_self _)).trans HRs.out, HBs.out.trans (hb.mono (Nat.le_succ _))⟩
            obtain ⟨as', cs', hfs⟩ := hos.rd.form
            subst hfs
            clear hos hbs HSS HOn HRn HBn
            go_wp2_with (at_builtin; refine append_segsF rfl (.tmp 23) (.tmp 26) rfl (w.heap.size + 1) HOp.out.1 v5 p rfl HOp.out _ (seqs 2 nm) rfl wn.heap.size hsz HOs.out HWB2.out hls ?_; intro v3 w3 hown hb; have HO3 := Lib.hid hown; have HR3 := Lib.hid (HRW.out w3 hb).1; have HB3 := Lib.hid (HRW.out w3 hb).2; clear hown hb)

            obtain ⟨Q, hQ⟩ : ∃ Q, seqs 2 nm = Q := ⟨_, rfl⟩
            obtain ⟨k3, hk3e⟩ : ∃ k3, k2 = k3 := ⟨_, rfl⟩
            have hsq : rdOne (l.drop k) = (Q, skip 32 (l.drop k3)) := by rw [HL.out, ← hk3e, HDR.out, hQ]
            have hrt : RB w.heap.size l k3 w3 := hk3e ▸ HR3.out
            have hot : OwnF (w.heap.size + 1) w3 v3 (p ++ Q) := by rw [← hQ]; exact HO3.out
            have hbt : Below w.heap.size w w3 := HB3.out
            have hk3' : k3 ≤ l.length := by omega
            have hk3 : k ≤ k3 := by omega
            have hqz : Q.length ≤ k3 - k ∧ (flat Q).length ≤ k3 - k := by rw [← hQ]; omega
            clear HO3 HR3 HB3 HRW HL HDR hQ

            have HSQ := Lib.hid hsq
            have HRT := Lib.hid hrt
            have HOT := Lib.hid hot
            have HBT := Lib.hid hbt
            clear hsq hrt hot hbt
            go_wp2_with fail
            go_at_call 65
            refine (next_skip 32 32 rfl HRT.out hk3' hl).mono ?_
            rintro e w9 ⟨b9, k4, rfl, hs4, hk4, hk4', hr9, hm9⟩
            have HR9 := Lib.hid hr9
            have HO9 := Lib.hid (HOT.out.mv (Nat.lt_succ_self _) hm9)
            have HB9 := Lib.hid (HBT.out.trans hm9.1)
            have HRD : Hid (rdOne (l.drop k) = (Q, l.drop k4)) := by show _ = _; rw [HSQ.out, hs4]
            have c1 := hr9.c1
            clear hs4 hr9 hm9 HRT HOT HBT HSQ
            by_cases hk40 : k4 = k
            · have HN : Hid (lenS (l.drop k) p = none) := lenS_none (fun e => by
                have h := congrArg List.length e
                rw [List.length_drop, List.length_nil] at h; omega) (by rw [HRD.out, hk40])
              have HRES : Hid (RES = ([], 2)) := by
                show _ = _; rw [HRE.out, HT.out, HN.out]
              have e1 : ((k4 : Int) == (k : Int)) = true := by rw [hk40]; simp
              have e2 : (k4 : Int) = (k : Int) := by rw [hk40]
              clear HRD HN HRE HT
              go_wp2
              go_ret2
              exact ⟨_, by rw [HRES.out] <;> rfl, by rw [HRES.out]; exact rds_nil _, HB9.out⟩
            · have HN : Hid (lenS l [] = lenS (l.drop k4) (p ++ Q)) := by
                show _ = _
                rw [HT.out, lenS_step (fun e => by
                  have h := congrArg List.length e
                  rw [List.length_drop, List.length_nil] at h; omega) (by rw [HRD.out]; show (l.drop k4).length ≠ _; rw [List.length_drop, List.length_drop]; omega), HRD.out]
              have e1 : ((k4 : Int) == (k : Int)) = false := by rw [beq_eq_false_iff_ne]; omega
              have hz : (p ++ Q).length ≤ k4 ∧ (flat (p ++ Q)).length ≤ k4 := by
                rw [flat_app, List.length_append, List.length_append]; omega
              clear HRD HT
              go_wp2_with fail
              go_roundg (l.length + 1 - k4)
              case measure => omega
              case rel => exact ⟨k4, p ++ Q, _, hk4', Nat.le_refl _, rfl, hz.1, hz.2, HN, HO9, HR9, HB9⟩
    · have i1 : decide ((k : Int) < (l.length : Int)) = false := decide_eq_false (by omega)
      have HN : Hid (lenS l [] = some p) := by
        show _ = _; rw [HT.out, List.drop_of_length_le (by omega), lenS_nil]
      have HRE2 : Hid (RES = if chk p = 0 ∧ text p = l then (p, 0) else ([], 2)) := by show _ = _; rw [HRE.out, HN.out]
      have HTX := Lib.hid (rtext_any p v5 wr HO.out.rd)
      have HRD : Hid (∀ W, Below wr.heap.size wr W → RdS W v5 p) := fun W hW => HO.out.rd.below hW
      obtain ⟨q, hq⟩ : ∃ q, chk p = q := ⟨_, rfl⟩
      rw [hq] at HTX HRE2
      subst hvf
      clear HRE HT HN HO HR hq
      by_cases hq0 : q = 0
      · subst hq0
        rw [if_pos rfl] at HTX
        obtain ⟨TX, hTX⟩ : ∃ TX, text p = TX := ⟨_, rfl⟩
        rw [hTX] at HTX HRE2
        by_cases htl : TX = l
        · have HQ2 : Hid (RES = (p, 0)) := by show _ = _; rw [HRE2.out, if_pos ⟨rfl, htl⟩]
          rw [htl] at HTX
          clear HRE2 htl hTX
          generalize bs l = S at *
          go_wp2_with fail
          go_at_call 32
          refine HTX.out.mono ?_
          rintro e w6 ⟨rfl, hb6⟩
          have HF := Lib.hid (below_then HB.out hb6)
          have HRF := Lib.hid (HRD.out _ hb6)
          clear hb6 HTX
          go_wp2
          go_ret2
          exact ⟨_, by rw [HQ2.out] <;> rfl, by rw [HQ2.out]; exact HRF.out, HF.out⟩
        · have HQ2 : Hid (RES = ([], 2)) := by show _ = _; rw [HRE2.out, if_neg (fun h => htl h.2)]
          have hse2 : ((bs TX).toList == (bs l).toList) = false := by
            rw [beq_eq_false_iff_ne, str_list, str_list, bs_data, bs_data]
            exact htl
          have hse3 : ((bs TX).toList != (bs l).toList) = true := by rw [bne, hse2]; rfl
          clear HRE2 htl hTX
          generalize bs l = S at *
          generalize bs TX = S2 at *
          go_wp2_with fail
          go_at_call 32
          refine HTX.out.mono ?_
          rintro e w6 ⟨rfl, hb6⟩
          have HF := Lib.hid (below_then HB.out hb6)
          clear hb6 HTX
          go_wp2
          go_ret2
          exact ⟨_, by rw [HQ2.out] <;> rfl, by rw [HQ2.out]; exact rds_nil _, HF.out⟩
      · have HQ2 : Hid (RES = ([], 2)) := by show _ = _; rw [HRE2.out, if_neg (fun h => hq0 h.1)]
        have e1 : (q != 0) = true := by simpa using hq0
        rw [if_neg hq0] at HTX
        clear HRE2 hq0
        go_wp2_with fail
        go_at_call 32
        refine HTX.out.mono ?_
        rintro e w6 ⟨rfl, hb6⟩
        have HF := Lib.hid (below_then HB.out hb6)
        clear hb6 HTX
        go_wp2
        go_ret2
        exact ⟨_, by rw [HQ2.out] <;> rfl, by rw [HQ2.out]; exact rds_nil _, HF.out⟩
end
end Go.Proofs.YtiobfgcpbihbhaaGreatDoor
namespace Go.Proofs.YtiobfgcpbihbhaaGreatDoor
section
open Go.RowKit P
set_option linter.unusedSimpArgs false
set_option linter.unusedVariables false
set_option maxHeartbeats 1500000
set_option maxRecDepth 100000
theorem rsame_any (a b : List Sg) (v u : Value) (w : World) (hv : RdS w v a) (hu : RdS w u b) :
    Calls Tryz.prog 23 #[v, u] w fun e w' => e = .returned (.bool (decide (a = b))) ∧ Below w.heap.size w w' := by
  obtain ⟨va, vc, rfl, v1, v2, hvc⟩ := hv
  obtain ⟨ua, uc, rfl, u1, u2, huc⟩ := hu
  obtain ⟨M, hM⟩ : ∃ M, a.length = M := ⟨_, rfl⟩
  obtain ⟨N, hN⟩ : ∃ N, b.length = N := ⟨_, rfl⟩
  rw [hM] at v1 ⊢
  rw [hN] at u1 ⊢
  have HM := Lib.hid hM
  have HN := Lib.hid hN
  have HVC := Lib.hid hvc
  have HUC := Lib.hid huc
  have hLm : M ≤ 9223372036854775807 := by have := v2.1; omega
  have HA0 : Hid (∀ j, j < 0 → a[j]? = b[j]?) := fun j h => by omega
  have HS0 : Hid (Below w.heap.size w w) := Below.refl _ _
  clear v1 v2 u1 u2 hvc huc hM hN
  by_cases hmn : M = N
  · subst hmn
    go_enter Tryz.func23, Tryz.ntmps23
    go_wp2_with fail
    go_loopg [5, 6, 14] (M + 1) (fun g s5 s6 s14 wr => ∃ k : Nat, k ≤ M ∧ M + 1 - k ≤ g ∧ s14 = .int .i64 (k : Int) ∧ (∃ q, q = s5) ∧ (∃ q, q = s6) ∧ Hid (∀ j, j < k → a[j]? = b[j]?) ∧ Hid (Below w.heap.size w wr))
    case atStart => exact ⟨0, by omega, by omega, rfl, ⟨_, rfl⟩, ⟨_, rfl⟩, HA0, HS0⟩
    case round =>
      clear HA0 HS0
      obtain ⟨k, hk, hkg, rfl, ⟨u5, rfl⟩, ⟨u6, rfl⟩, HA, HS⟩ := hrel
      by_cases hlt : k < M
      · obtain ⟨s, hs⟩ : ∃ s, a[k]? = some s := ⟨_, List.getElem?_eq_getElem (by have := HM.out; omega)⟩
        obtain ⟨t, ht⟩ : ∃ t, b[k]? = some t := ⟨_, List.getElem?_eq_getElem (by have := HN.out; omega)⟩
        have HXY := Lib.hid (And.intro hs ht)
        obtain ⟨p1, o1, x1, rfl, q1, c1, c1', r1⟩ := HVC.out k s hs
        obtain ⟨p2, o2, x2, rfl, q2, c2, c2', r2⟩ := HUC.out k t ht
        have d1 := carry HS.out c1
        have d1' := carry HS.out c1'
        have d2 := carry HS.out c2
        have d2' := carry HS.out c2'
        have R1 : Hid (RdI wr x1 s.as) := r1.below HS.out
        have R2 : Hid (RdI wr x2 t.as) := r2.below HS.out
        obtain ⟨a1, z1, f1, l1, m1, cc1⟩ := R1.out
        obtain ⟨a2, z2, f2, l2, m2, cc2⟩ := R2.out
        have k0 : (0 : Int) ≤ (k : Int) := by omega
        have k1 : decide ((k : Int) < (M : Int)) = true := decide_eq_true (by omega)
        have k2 : (k : Int) < (M : Int) := by omega
        subst f1 f2
        obtain ⟨L1, hL1⟩ : ∃ L, s.as.length = L := ⟨_, rfl⟩
        obtain ⟨L2, hL2⟩ : ∃ L, t.as.length = L := ⟨_, rfl⟩
        rw [hL1] at d1' l1 R1
        rw [hL2] at d2' l2 R2
        have hz1 : L1 ≤ 9223372036854775807 := by have := m1.1; omega
        have HL1 := Lib.hid hL1
        have HL2 := Lib.hid hL2
        have HCC1 := Lib.hid cc1
        have HCC2 := Lib.hid cc2
        clear hs ht c1 c2 c1' c2' r1 r2 cc1 cc2 R1 R2 l1 l2 m1 m2 hL1 hL2
        have HF : Hid (s ≠ t → decide (a = b) = false) := fun hxy => by
          refine decide_eq_false fun e => hxy ?_
          have h1 := HXY.out.1; have h2 := HXY.out.2
          rw [e, h2] at h1; cases h1; rfl
        by_cases hkk : s.k = t.k
        · have e1 : (s.k != t.k) = false := by simpa using hkk
          by_cases hll : L1 = L2
          · subst hll
            have HKK := Lib.hid hkk
            have HB0 : Hid (∀ j, j < 0 → s.as[j]? = t.as[j]?) := fun j h => by omega
            have HW0 : Hid (Below wr.heap.size wr wr) := Below.refl _ _
            clear hkk
            go_wp2_with fail
            go_quiet (fail)
            go_wp2_with fail
            go_loopg [6, 49] (L1 + 1) (fun g2 s6 s49 w2 => ∃ i : Nat, i ≤ L1 ∧ L1 + 1 - i ≤ g2 ∧ s49 = .int .i64 (i : Int) ∧ (∃ q, q = s6) ∧ Hid (∀ j, j < i → s.as[j]? = t.as[j]?) ∧ Hid (Below wr.heap.size wr w2))
            case atStart => exact ⟨0, by omega, by omega, rfl, ⟨_, rfl⟩, HB0, below_drewN HW0.out _⟩
            case round =>
              clear HB0 HW0
              obtain ⟨i, hi, hig, rfl, ⟨u6, rfl⟩, HI, HW⟩ := hrel
              have d1 := carry HW.out d1
              have d1' := carry HW.out d1'
              have d2 := carry HW.out d2
              have d2' := carry HW.out d2'
              by_cases hil : i < L1
              · obtain ⟨x, hx⟩ : ∃ x, s.as[i]? = some x := ⟨_, List.getElem?_eq_getElem (by have := HL1.out; omega)⟩
                obtain ⟨y, hy⟩ : ∃ y, t.as[i]? = some y := ⟨_, List.getElem?_eq_getElem (by have := HL2.out; omega)⟩
                have HXY2 := Lib.hid (And.intro hx hy)
                obtain ⟨p3, o3, rfl, q3, c3⟩ := HCC1.out i x hx
                obtain ⟨p4, o4, rfl, q4, c4⟩ := HCC2.out i y hy
                have d3 := carry HW.out c3
                have d4 := carry HW.out c4
                have i0 : (0 : Int) ≤ (i : Int) := by omega
                have i1 : decide ((i : Int) < (L1 : Int)) = true := decide_eq_true (by omega)
                have i2 : (i : Int) < (L1 : Int) := by omega
                clear hx hy c3 c4
                by_cases hxy : x = y
                · have e2 : (x == y) = true := by simpa using hxy
                  have HI2 : Hid (∀ j, j < i + 1 → s.as[j]? = t.as[j]?) := fun j hj => by
                    by_cases e : j = i
                    · subst e; rw [HXY2.out.1, HXY2.out.2, hxy]
                    · exact HI.out j (by omega)
                  clear HI HXY2 hxy
                  go_wp2_with fail
                  go_quiet (fail)
                  go_wp2_with fail
                  go_roundg (L1 + 1 - (i + 1))
                  case measure => omega
                  case rel => exact ⟨i + 1, by omega, Nat.le_refl _, by go_num, ⟨_, rfl⟩, HI2, below_drewN HW.out _⟩
                · have e2 : (x == y) = false := by simpa using hxy
                  have HZ : Hid (decide (a = b) = false) := HF.out fun e => hxy (by
                    have h1 := HXY2.out.1; have h2 := HXY2.out.2
                    rw [e, h2] at h1; cases h1; rfl)
                  have HB1 := Lib.hid (below_then HS.out HW.out)
                  clear HI HXY2 hxy
                  go_wp2_with fail
                  go_quiet (fail)
                  go_wp2
                  go_ret
                  exact ⟨by rw [HZ.out] <;> rfl, below_drewN HB1.out _⟩
              · have i1 : decide ((i : Int) < (L1 : Int)) = false := decide_eq_false (by omega)
                have HST : Hid (s = t) := by
                  have e := eq_upto (a := s.as) (b := t.as) (by rw [HL1.out, HL2.out]) (fun j hj => HI.out j (by have := HL1.out; omega))
                  obtain ⟨sk, sa⟩ := s
                  obtain ⟨tk, ta⟩ := t
                  have h1 := HKK.out
                  simp only at e h1
                  subst e h1
                  rfl
                have HA2 : Hid (∀ j, j < k + 1 → a[j]? = b[j]?) := fun j hj => by
                  by_cases e : j = k
                  · subst e; rw [HXY.out.1, HXY.out.2, HST.out]
                  · exact HA.out j (by omega)
                have HB1 := Lib.hid (below_then HS.out HW.out)
                clear HA HXY HST HI HF
                go_wp2_with fail
                go_roundg (M + 1 - (k + 1))
                case measure => omega
                case rel => exact ⟨k + 1, by omega, Nat.le_refl _, by go_num, ⟨_, rfl⟩, ⟨_, rfl⟩, HA2, HB1⟩
          · have HZ := Lib.hid (HF.out fun e => hll (by rw [← HL1.out, ← HL2.out, e]))
            have e2 : ((L1 : Int) != (L2 : Int)) = true := by simpa using (by omega : ¬ (L1 : Int) = (L2 : Int))
            clear HA HXY hkk HF
            go_wp2_with fail
            go_quiet (fail)
            go_wp2
            go_ret
            exact ⟨by rw [HZ.out] <;> rfl, below_drewN HS.out _⟩
        · have e1 : (s.k != t.k) = true := by simpa using hkk
          have HZ := Lib.hid (HF.out fun e => hkk (by rw [e]))
          clear HA HXY hkk HF
          go_wp2_with fail
          go_quiet (fail)
          go_wp2
          go_ret
          exact ⟨by rw [HZ.out] <;> rfl, below_drewN HS.out _⟩
      · have k1 : decide ((k : Int) < (M : Int)) = false := decide_eq_false (by omega)
        have HZ : Hid (decide (a = b) = true) := decide_eq_true (eq_upto (by rw [HM.out, HN.out]) (fun j hj => HA.out j (by have := HM.out; omega)))
        go_wp2
        go_ret
        exact ⟨by rw [HZ.out] <;> rfl, HS.out⟩
  · have HZ : Hid (decide (a = b) = false) := decide_eq_false fun e => hmn (by rw [← HM.out, ← HN.out, e])
    have k1 : ((M : Int) == (N : Int)) = false := by simpa using (by omega : ¬ (M : Int) = (N : Int))
    go_enter Tryz.func23, Tryz.ntmps23
    go_wp2
    go_ret
    exact ⟨by rw [HZ.out] <;> rfl, HS0.out⟩
end
end Go.Proofs.YtiobfgcpbihbhaaGreatDoor
namespace Go.Proofs.YtiobfgcpbihbhaaGreatDoor
section
open Go.RowKit P
set_option linter.unusedSimpArgs false
set_option linter.unusedVariables false
set_option maxHeartbeats 1500000
set_option maxRecDepth 100000
theorem lawParse_any (s : ByteArray) (w : World) (hT : Tab w) (hs : s.size ≤ 1048576) :
    Calls Tryz.prog 7 #[.string s] w fun e w' => e = .returned (.bool true) ∧ Below w.heap.size w w' := by
  obtain ⟨l, rfl⟩ : ∃ l, s = bs l := ⟨s.data.toList, by apply ByteArray.ext; simp [bs]⟩
  have hS : (bs l).size = l.length := bs_size l
  have HT : Hid (∀ W, Below w.heap.size w W → Tab W) := fun W hW => tab_below hT hW
  have HPc : Hid (l.length ≤ 8000 → ∀ W, Below w.heap.size w W → Calls Tryz.prog 33 #[.string (bs l)] W fun e w' => ∃ v', e = .returned (.tuple #[v', .int .i64 (parseR l).2]) ∧ RdS w' v' (parseR l).1 ∧ Below W.heap.size W w') := fun h W hW => parse_any l W (tab_below hT hW) (by omega)
  have HPr : Hid (l.length ≤ 8000 → ∀ W, Below w.heap.size w W → Calls Tryz.prog 34 #[.string (bs l)] W fun e w' => ∃ v', e = .returned (.tuple #[v', .int .i64 (parseR l).2]) ∧ RdS w' v' (parseR l).1 ∧ Below W.heap.size W w') := fun h W hW => by
    rw [← rparse_eq]; exact rparse_any l W (by omega)
  obtain ⟨o, ho⟩ : ∃ o, (parseR l).1 = o := ⟨_, rfl⟩
  obtain ⟨q, hq⟩ : ∃ q, (parseR l).2 = q := ⟨_, rfl⟩
  rw [ho, hq] at HPc HPr
  have tq : (q == q) = true := by simp
  clear ho hq hT
  obtain ⟨N, hN⟩ : ∃ N, l.length = N := ⟨_, rfl⟩
  rw [hN] at hS HPc HPr
  clear hN
  generalize bs l = S at *
  by_cases hl : 8000 < N
  · have k1 : decide ((8000 : Int) < (S.size : Int)) = true := decide_eq_true (by omega)
    have k2 : decide ((8000 : Int) < (N : Int)) = true := decide_eq_true (by omega)
    have HA := Lib.hid (awake_any w (HT.out _ (Below.refl _ _)))
    clear HPc HPr
    go_enter Tryz.func7, Tryz.ntmps7
    go_wp2_with fail
    go_at_call 12
    refine HA.out.mono ?_
    rintro e w1 ⟨rfl, hb1⟩
    have B1 := Lib.hid hb1
    clear hb1 HA
    go_wp2
    go_ret
    exact ⟨rfl, B1.out⟩
  · have k1 : decide ((8000 : Int) < (S.size : Int)) = false := decide_eq_false (by omega)
    have k2 : decide ((8000 : Int) < (N : Int)) = false := decide_eq_false (by omega)
    have HC := Lib.hid (HPc.out (by omega))
    have HR := Lib.hid (HPr.out (by omega))
    clear HPc HPr
    go_enter Tryz.func7, Tryz.ntmps7
    go_wp2_with fail
    go_at_call 33
    refine (HC.out _ (Below.refl _ _)).mono ?_
    rintro e w1 ⟨v1, rfl, hr1, hb⟩
    have B1 := Lib.hid hb
    have R1 : Hid (∀ W, Below w1.heap.size w1 W → RdS W v1 o) := fun W hW => hr1.below hW
    obtain ⟨a1, c1, hf1⟩ := hr1.form
    subst hf1
    clear hb HC hr1
    go_wp2_with fail
    go_at_call 34
    refine (HR.out _ B1.out).mono ?_
    rintro e w2 ⟨v2, rfl, hr2, hb⟩
    have B2 := Lib.hid (below_then B1.out hb)
    have R2 := Lib.hid (R1.out _ hb)
    obtain ⟨a2, c2, hf2⟩ := hr2.form
    subst hf2
    have HS3 : Hid (Calls Tryz.prog 23 #[.slice a1 o.length c1, .slice a2 o.length c2] w2 fun e w' => e = .returned (.bool true) ∧ Below w2.heap.size w2 w') := by
      have h := rsame_any o o _ _ w2 R2.out hr2
      rw [decide_eq_true rfl] at h
      exact h
    clear hb HR B1 hr2 R1 R2
    go_wp2_with fail
    go_at_call 23
    refine HS3.out.mono ?_
    rintro e w3 ⟨rfl, hb⟩
    have B3 := Lib.hid (below_then B2.out hb)
    have HA := Lib.hid (awake_any w3 (HT.out _ B3.out))
    clear hb HS3 B2
    go_wp2_with fail
    go_at_call 12
    refine HA.out.mono ?_
    rintro e w4 ⟨rfl, hb⟩
    have B4 := Lib.hid (below_then B3.out hb)
    clear hb HA
    go_wp2
    go_ret
    exact ⟨rfl, B4.out⟩
end
end Go.Proofs.YtiobfgcpbihbhaaGreatDoor
