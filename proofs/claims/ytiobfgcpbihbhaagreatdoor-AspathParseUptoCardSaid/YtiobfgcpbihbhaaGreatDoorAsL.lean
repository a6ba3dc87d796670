/-
  Appending segments to a row of the call's own; the walk of sequences.
-/
import Derived.Test.YtiobfgcpbihbhaaGreatDoorAsK
import Derived.BigQuiet
namespace Go.Proofs.YtiobfgcpbihbhaaGreatDoor
open Go.RowKit P
set_option linter.unusedSimpArgs false
set_option linter.unusedVariables false
set_option maxHeartbeats 4000000
set_option maxRecDepth 100000
/-- numbers as sequences of a kind -/
def P.seqsF (k : Int) : Nat → List Int → List Sg
  | 0, _ => []
  | f + 1, l => if l = [] then [] else ⟨k, l.take 255⟩ :: seqsF k f (l.drop 255)
def P.seqs (k : Int) (l : List Int) : List Sg := seqsF k l.length l
theorem P.seqsF_enough (k : Int) : ∀ (f g : Nat) (l : List Int), l.length ≤ f → l.length ≤ g → seqsF k f l = seqsF k g l
  | 0, g, l, hf, _ => by
    have : l = [] := List.length_eq_zero_iff.1 (by omega)
    subst this
    cases g <;> simp [seqsF]
  | f + 1, 0, l, _, hg => by
    have : l = [] := List.length_eq_zero_iff.1 (by omega)
    subst this
    simp [seqsF]
  | f + 1, g + 1, l, hf, hg => by
    by_cases h : l = []
    · simp [seqsF, h]
    · have hl : 0 < l.length := List.length_pos_iff.2 h
      have hd : (l.drop 255).length ≤ l.length - 1 := by rw [List.length_drop]; omega
      rw [seqsF, seqsF, if_neg h, if_neg h, seqsF_enough k f g (l.drop 255) (by omega) (by omega)]
theorem P.seqs_nil (k : Int) : seqs k [] = [] := rfl
theorem P.seqs_cons (k : Int) {l : List Int} (h : l ≠ []) : seqs k l = ⟨k, l.take 255⟩ :: seqs k (l.drop 255) := by
  have hl : 0 < l.length := List.length_pos_iff.2 h
  unfold seqs
  obtain ⟨f, hf⟩ : ∃ f, l.length = f + 1 := ⟨l.length - 1, by omega⟩
  rw [hf, seqsF, if_neg h, seqsF_enough k f (l.drop 255).length _ (by rw [List.length_drop]; omega) (Nat.le_refl _)]
theorem RdI.part {w : World} {b off n cap : Nat} {l : List Int} (h : RdI w (.slice (some ⟨b, off, none⟩) n cap) l) (i m c : Nat) (hm : i + m ≤ l.length) (hc1 : m ≤ c) (hc2 : c ≤ 9223372036854775807) : RdI w (.slice (some ⟨b, off + i, none⟩) m c) ((l.drop i).take m) := by
  obtain ⟨ad, cap', e, h1, h2, hc⟩ := h
  injection e with e1 e2 e3
  subst e1
  have el : ((l.drop i).take m).length = m := by rw [List.length_take, List.length_drop]; omega
  refine ⟨_, _, by rw [el], by rw [el]; exact hc1, ⟨hc2, fun e => by cases e⟩, fun j x hj => ?_⟩
  rw [List.getElem?_take] at hj
  split at hj
  · rw [List.getElem?_drop] at hj
    obtain ⟨b', off', e2, a1, a2⟩ := hc (i + j) x hj
    cases e2
    exact ⟨b, off + i, rfl, a1, by rw [← a2]; congr 2; omega⟩
  · cases hj
theorem RdN.grown {g : Nat} {row : Option Nat} {w w' : World} {v : Value} {l : List Int} (h : RdN g w v l) (hg : w.grownBy w' row) (hr : ∀ k, row = some k → k = g) {g' : Nat} (hg' : g' = g ∨ g' = w.heap.size) : RdN g' w' v l := by
  obtain ⟨ad, cap, e, h1, h2, hc⟩ := h
  refine ⟨ad, cap, e, h1, h2, fun k x hk => ?_⟩
  obtain ⟨b, off, a1, a2, a3, a4⟩ := hc k x hk
  refine ⟨b, off, a1, Nat.lt_of_lt_of_le a2 hg.size, by omega, ?_⟩
  rw [← a4]
  exact World.cell?_of_block (hg.block b a2 (fun e => a3 (hr b e.symm)))
theorem OwnP.nil (B : Nat) (w : World) (h : B ≤ w.heap.size) : OwnP B w (.slice none 0 0) [] := ⟨h, .inl ⟨rfl, rfl⟩⟩
/-- the block of a row, or the next one -/
theorem append_seg {w : World} {ops : Array Oper} {rest : List Oper} {o : Oper} {a : Act} {Q : Exit → Act → World → Prop} (hgd : o.guard = none) (s x : Operand)
    (ho : o.op = .call { callee := .builtin .append, args := #[s, x], argTypes := #[22, 22] }) (B : Nat) (hB : B ≤ w.heap.size)
    (v : Value) (p : List Sg) (hs : a.eval s = v) (hown : OwnP B w v p) (c : Nat) (kd : Int) (u : Value) (ns : List Int) (hx : a.eval x = .slice (some ⟨c, 0, none⟩) 1 1) (hc0 : w.cell? ⟨c, 0, none⟩ = some (.int .i64 kd)) (hc1 : w.cell? ⟨c, 1, none⟩ = some u)
    (hu : ∀ g, (v.ownBlock = some g ∨ (v.ownBlock = none ∧ g = w.heap.size)) → RdN g w u ns) (hlen : p.length ≤ 2000000)
    (h : ∀ v' w', OwnP B w' v' (p ++ [⟨kd, ns⟩]) → w.grownBy w' v.ownBlock → Below B w w' → (∀ g, v'.ownBlock = some g → v.ownBlock = some g ∨ g = w.heap.size) → wpList Tryz.prog ops Q rest (a.put o.dst v') w') : wpList Tryz.prog ops Q (o :: rest) a w := by
  obtain ⟨i0, hi, hz0, hz1, hz2⟩ := infoE_parts info46
  obtain ⟨g, q, hq, hrow, hgq⟩ : ∃ g q, Prs g w q p ∧ w.ownsRow B 46 2 v p.length (flatQ q) ∧ (v.ownBlock = some g ∨ (v.ownBlock = none ∧ g = w.heap.size)) := by
    rcases hown.2 with ⟨rfl, rfl⟩ | ⟨g, cap, q, rfl, ho', hp⟩
    · exact ⟨w.heap.size, [], ⟨rfl, fun k s hk => by simp at hk⟩, World.ownsRow_nil _ _ _ _, .inr ⟨rfl, rfl⟩⟩
    · exact ⟨g, q, hp, ho', .inl rfl⟩
  have hug := hu g hgq
  have hone : ∀ x ∈ [Value.int .i64 kd, u], x.oneCell' = true := by
    intro x hx
    obtain ⟨ad, cap, e, _⟩ := hug
    simp at hx
    rcases hx with rfl | rfl
    · rfl
    · subst e; rfl
  have hcell : ∀ j x, [Value.int .i64 kd, u][j]? = some x → w.cell? ((⟨c, 0, none⟩ : Addr).add j) = some x := by
    intro j x hj
    match j, hj with
    | 0, hj => simp at hj; subst hj; rw [Addr.add_lit]; exact hc0
    | 1, hj => simp at hj; subst hj; rw [Addr.add_lit]; exact hc1
    | j + 2, hj => simp at hj
  refine wpList_append_lies _ hgd s x 22 ho B 46 i0 (.agg #[.int .i64 0, .slice none 0 0]) 2 32 Tryz.underlying22 hi hz0 hz1 hz2 rfl (by decide) v p.length (flatQ q) hs hrow ⟨c, 0, none⟩ 1 1 [.int .i64 kd, u] hx rfl hcell hone (by decide) (by unfold maxLen; omega) (by omega) hB w.heap.size rfl fun g' cap' w' h1 h2 h3 h4 => ?_
  have hb : Below B w w' := (Below.refl _ w).grown h2 hB (fun k hk => (row_lt hrow hk).1)
  have hgg : g' = g ∨ g' = w.heap.size := by
    rcases h3 with e | e
    · rcases hgq with e2 | ⟨e2, _⟩
      · rw [e] at e2; cases e2; exact .inl rfl
      · rw [e] at e2; cases e2
    · exact .inr e
  have hrk : ∀ k, v.ownBlock = some k → k = g ∨ False := fun k hk => by
    rcases hgq with e2 | ⟨e2, _⟩
    · rw [hk] at e2; cases e2; exact .inl rfl
    · rw [hk] at e2; cases e2
  refine h _ _ ⟨Nat.le_trans hB hb.size, .inr ⟨g', cap', q ++ [(kd, u)], by rw [List.length_append]; rfl, ?_, ?_⟩⟩ h2 hb (fun k hk => ?_)
  · rw [flatQ_app, List.length_append]; exact h1
  · refine ⟨by rw [List.length_append, List.length_append, hq.1]; rfl, fun k s hk => ?_⟩
    by_cases hkl : k < p.length
    · rw [List.getElem?_append_left hkl] at hk
      obtain ⟨u', e1, e2⟩ := hq.2 k s hk
      exact ⟨u', by rw [List.getElem?_append_left (by rw [hq.1]; exact hkl)]; exact e1, e2.grown h2 (fun j hj => (hrk j hj).elim id False.elim) hgg⟩
    · have hk2 := (List.getElem?_eq_some_iff.1 hk).1
      rw [List.length_append] at hk2
      have e : k = p.length := by simp at hk2; omega
      subst e
      rw [List.getElem?_append_right (Nat.le_refl _), Nat.sub_self] at hk
      cases hk
      exact ⟨u, by rw [List.getElem?_append_right (by rw [hq.1]; exact Nat.le_refl _), hq.1, Nat.sub_self]; rfl, hug.grown h2 (fun j hj => (hrk j hj).elim id False.elim) hgg⟩
  · cases hk
    exact h3
theorem OwnP.lt {B : Nat} {w : World} {v : Value} {p : List Sg} (h : OwnP B w v p) {g : Nat} (hg : v.ownBlock = some g) : B ≤ g := by
  rcases h.2 with ⟨rfl, _⟩ | ⟨g', cap, q, rfl, ho, _⟩
  · cases hg
  · exact (row_lt ho hg).1
theorem rdi_empty {w : World} {ad : Option Addr} {cap : Nat} (h : cap ≤ 9223372036854775807 ∧ (ad = none → cap = 0)) : RdI w (.slice ad 0 cap) [] := ⟨ad, cap, rfl, Nat.zero_le _, h, fun k s hk => by simp at hk⟩
theorem seqs_any (kd : Int) (l : List Int) (v : Value) (w : World) (hr : RdI w v l) (hl : l.length ≤ 2000000) :
    Calls Tryz.prog 57 #[.int .i64 kd, v] w fun e w' => ∃ v', e = .returned v' ∧ OwnP w.heap.size w' v' (seqs kd l) ∧ Below w.heap.size w w' := by
  have HR0 := Lib.hid hr
  have HO0 : Hid (OwnP w.heap.size w (.slice none 0 0) []) := OwnP.nil _ _ (Nat.le_refl _)
  obtain ⟨Z, hZ⟩ : ∃ Z, seqs kd l = Z := ⟨_, rfl⟩
  have HE0 : Hid (([] : List Sg) ++ seqs kd l = Z) := hZ
  rw [hZ]
  have HB0 : Hid (Below w.heap.size w w) := Below.refl _ _
  obtain ⟨ad0, cap0, hf0⟩ := hr.form
  subst hf0
  clear hr hZ
  go_enter Tryz.func57, Tryz.ntmps57
  go_wp2_with fail
  go_loopg [1, 5, 6] (l.length + 1) (fun g s1 s5 s6 wr => ∃ (r : List Int) (o : List Sg) (v1 v5 : Value), o.length + r.length ≤ 2000000 ∧ r.length + 1 ≤ g ∧ v1 = s1 ∧ v5 = s5 ∧ (∃ q, q = s6) ∧ Hid (RdI w v1 r) ∧ Hid (OwnP w.heap.size wr v5 o) ∧ Hid (o ++ seqs kd r = Z) ∧ Hid (Below w.heap.size w wr))
  case atStart => exact ⟨l, [], _, _, by simpa using hl, by omega, rfl, rfl, ⟨_, rfl⟩, HR0, HO0, HE0, HB0⟩
  case round =>
    clear HR0 HO0 HE0 HB0 hl
    obtain ⟨r, o, v1, v5, hlen, hg, rfl, rfl, ⟨u6, rfl⟩, HR, HO, HE, HB⟩ := hrel
    obtain ⟨ad, cap, rfl, h1, h2, hc⟩ := HR.out
    obtain ⟨R, hR⟩ : ∃ R, r.length = R := ⟨_, rfl⟩
    have HRl := Lib.hid hR
    have hcap := h2.1
    rw [hR] at h1 hlen HR hg ⊢
    obtain ⟨oad, ocap, hof⟩ := HO.out.rd.form
    by_cases h0 : R = 0
    · have hr0 : r = [] := List.length_eq_zero_iff.1 (by rw [hR]; exact h0)
      subst hr0
      have HZ : Hid (o = Z) := by show _ = _; rw [← HE.out, seqs_nil, List.append_nil]
      have k1 : decide ((0 : Int) < ((List.length ([] : List Int) : Nat) : Int)) = false := rfl
      have HO2 : Hid (OwnP w.heap.size wr v5 Z) := HZ.out ▸ HO.out
      clear hof
      clear HR HO HE hc h2 hR h1
      go_wp2
      go_ret
      exact ⟨_, rfl, HO2.out, HB.out⟩
    · have hne : r ≠ [] := fun e => h0 (by rw [← hR, e]; rfl)
      obtain ⟨x, hx⟩ : ∃ x, r[0]? = some x := ⟨_, List.getElem?_eq_getElem (by omega)⟩
      obtain ⟨b, off, rfl, hb, hcell⟩ := hc 0 x hx
      have HSC := Lib.hid (seqs_cons kd hne)
      obtain ⟨n, hn⟩ : ∃ n, n = min R 255 := ⟨_, rfl⟩
      have HT : Hid (r.take 255 = r.take n ∧ r.drop 255 = r.drop n) := by
        by_cases h255 : R ≤ 255
        · have e : n = R := by omega
          have : r.length ≤ 255 := by omega
          rw [List.take_of_length_le this, List.drop_eq_nil_of_le this, List.take_of_length_le (by omega), List.drop_eq_nil_of_le (by omega)]
          exact ⟨rfl, rfl⟩
        · have e : n = 255 := by omega
          rw [e]; exact ⟨rfl, rfl⟩
      have hnR : n ≤ R := by omega
      have hn0 : 0 < n := by omega
      have hmi : min (R : Int) 255 = (n : Int) := by omega
      have hmi2 : (if (255 : Int) < (R : Int) then (255 : Int) else (R : Int)) = (n : Int) := by split <;> omega
      have HU : Hid (RdI w (.slice (some ⟨b, off, none⟩) n n) (r.take 255)) := by
        have := HR.out.part 0 n n (by omega) (Nat.le_refl _) (by omega)
        show RdI _ _ _
        rw [HT.out.1]; simpa using this
      have HD1 : Hid (RdI w (.slice (some ⟨b, off + n, none⟩) (R - n) (cap - n)) (r.drop 255)) := by
        have := HR.out.part n (R - n) (cap - n) (by omega) (by omega) (by omega)
        show RdI _ _ _
        rw [HT.out.2]
        rw [List.take_of_length_le (by rw [List.length_drop]; omega)] at this
        exact this
      have HD2 : Hid (R = n → ∀ c, c ≤ 9223372036854775807 → RdI w (.slice (some ⟨b, off, none⟩) 0 c) (r.drop 255)) := fun e c hc => by
        rw [HT.out.2, List.drop_eq_nil_of_le (by omega)]; exact rdi_empty ⟨hc, fun e => by cases e⟩
      have HE2 : Hid (o ++ [⟨kd, r.take 255⟩] ++ seqs kd (r.drop 255) = Z) := by show _ = _; rw [← HE.out, HSC.out, List.append_assoc]; rfl
      have hdl : (r.drop 255).length + n = R := by rw [HT.out.2, List.length_drop]; omega
      generalize r.take 255 = ra at *
      generalize r.drop 255 = rb at *
      have kp : decide ((0 : Int) < (R : Int)) = true := decide_eq_true (by omega)
      have kp2 : decide (0 < R) = true := decide_eq_true (by omega)
      have k2 : (0 : Int) ≤ (n : Int) := by omega
      have k3 : (n : Int) ≤ (R : Int) := by omega
      have k4 : (n : Int) ≤ (cap : Int) := by omega
      have k5 : (R : Int) ≤ (cap : Int) := by omega
      have HOa : Hid (∀ ob, OwnP w.heap.size (wr.alloc ob) v5 o ∧ Below w.heap.size w (wr.alloc ob)) := fun ob => ⟨HO.out.below (below_alloc _ _), below_then HB.out (below_alloc _ _)⟩
      have hwr := HB.out.size
      have hol : o.length ≤ 2000000 := by omega
      clear hof
      clear HR HO HE HSC HT hc h2 hx hcell hne hR h1 HRl
      clear hn
      by_cases hcn : cap = n
      · have hRn : R = n := by omega
        have HD3 : Hid (∀ c, c ≤ 9223372036854775807 → RdI w (.slice (some ⟨b, off, none⟩) 0 c) rb) := HD2.out hRn
        clear HD2
        subst hcn
        subst hRn
        have H1 := Lib.hid (HOa.out (.cells #[.int .i64 kd, .slice (some ⟨b, off, none⟩) R R] 46))
        have H2 : Hid (∀ g, (v5.ownBlock = some g ∨ (v5.ownBlock = none ∧ g = (wr.alloc (.cells #[.int .i64 kd, .slice (some ⟨b, off, none⟩) R R] 46)).heap.size)) → RdN g (wr.alloc (.cells #[.int .i64 kd, .slice (some ⟨b, off, none⟩) R R] 46)) (.slice (some ⟨b, off, none⟩) R R) ra) := (fun g hg => HU.out.away (hg.elim (fun e => H1.out.1.lt e) (fun e => by have h2 := e.2; have := H1.out.2.size; omega)) H1.out.2)
        have H3 : Hid ((wr.alloc (.cells #[.int .i64 kd, .slice (some ⟨b, off, none⟩) R R] 46)).cell? ⟨wr.heap.size, 0, none⟩ = some (.int .i64 kd) ∧ (wr.alloc (.cells #[.int .i64 kd, .slice (some ⟨b, off, none⟩) R R] 46)).cell? ⟨wr.heap.size, 1, none⟩ = some (.slice (some ⟨b, off, none⟩) R R)) := ⟨cell_of (heap_alloc_new _ _) rfl, cell_of (heap_alloc_new _ _) rfl⟩
        go_wp2_with (at_builtin; refine append_seg rfl (.tmp 13) (.tmp 20) rfl w.heap.size H1.out.2.size v5 o rfl H1.out.1 wr.heap.size kd (.slice (some ⟨b, off, none⟩) R R) ra rfl H3.out.1 H3.out.2 H2.out hol ?_; intro v2 w2 hown hgrow hbl hbk; have S2 := Lib.hid hown; have B2 : Hid (Below w.heap.size w w2) := H1.out.2.trans hbl; clear hown hgrow hbl hbk)
        go_roundg (rb.length + 1)
        case measure => omega
        case rel => exact ⟨rb, o ++ [⟨kd, ra⟩], _, _, by rw [List.length_append]; simp; omega, Nat.le_refl _, rfl, rfl, ⟨_, rfl⟩, HD3.out _ (by omega), S2, HE2, B2⟩
      · have k6 : ¬ (cap : Int) = (n : Int) := by omega
        have k7 : (n : Int) < (cap : Int) := by omega
        have k8 : 0 < cap - n := by omega
        have H1 := Lib.hid (HOa.out (.cells #[.int .i64 kd, .slice (some ⟨b, off, none⟩) n n] 46))
        have H2 : Hid (∀ g, (v5.ownBlock = some g ∨ (v5.ownBlock = none ∧ g = (wr.alloc (.cells #[.int .i64 kd, .slice (some ⟨b, off, none⟩) n n] 46)).heap.size)) → RdN g (wr.alloc (.cells #[.int .i64 kd, .slice (some ⟨b, off, none⟩) n n] 46)) (.slice (some ⟨b, off, none⟩) n n) ra) := (fun g hg => HU.out.away (hg.elim (fun e => H1.out.1.lt e) (fun e => by have h2 := e.2; have := H1.out.2.size; omega)) H1.out.2)
        have H3 : Hid ((wr.alloc (.cells #[.int .i64 kd, .slice (some ⟨b, off, none⟩) n n] 46)).cell? ⟨wr.heap.size, 0, none⟩ = some (.int .i64 kd) ∧ (wr.alloc (.cells #[.int .i64 kd, .slice (some ⟨b, off, none⟩) n n] 46)).cell? ⟨wr.heap.size, 1, none⟩ = some (.slice (some ⟨b, off, none⟩) n n)) := ⟨cell_of (heap_alloc_new _ _) rfl, cell_of (heap_alloc_new _ _) rfl⟩
        go_wp2_with (at_builtin; refine append_seg rfl (.tmp 13) (.tmp 20) rfl w.heap.size H1.out.2.size v5 o rfl H1.out.1 wr.heap.size kd (.slice (some ⟨b, off, none⟩) n n) ra rfl H3.out.1 H3.out.2 H2.out hol ?_; intro v2 w2 hown hgrow hbl hbk; have S2 := Lib.hid hown; have B2 : Hid (Below w.heap.size w w2) := H1.out.2.trans hbl; clear hown hgrow hbl hbk)
        go_roundg (rb.length + 1)
        case measure => omega
        case rel => exact ⟨rb, o ++ [⟨kd, ra⟩], _, _, by rw [List.length_append]; simp; omega, Nat.le_refl _, rfl, rfl, ⟨_, rfl⟩, HD1, S2, HE2, B2⟩
end Go.Proofs.YtiobfgcpbihbhaaGreatDoor
