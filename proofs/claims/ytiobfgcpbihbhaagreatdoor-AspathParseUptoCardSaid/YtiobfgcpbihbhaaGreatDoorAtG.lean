/-
  The walk of Text.
-/
import Derived.Test.YtiobfgcpbihbhaaGreatDoorAtD
import Derived.Test.YtiobfgcpbihbhaaGreatDoorAsS
import Derived.Deep.RegionHeld3
import Derived.BigQuiet
namespace Go.Proofs.YtiobfgcpbihbhaaGreatDoor
open Go.RowKit P
set_option linter.unusedSimpArgs false
set_option linter.unusedVariables false
set_option maxHeartbeats 1500000
set_option maxRecDepth 100000
theorem P.segE_ok {s : Sg} (h : segE s = 0) : (1 ≤ s.k ∧ s.k ≤ 4) ∧ s.as ≠ [] ∧ s.as.length ≤ 255 ∧ (∀ x ∈ s.as, 1 ≤ x ∧ x ≤ 4294967295) ∧ (isSet s.k = true → asc s.as = true) := by
  unfold segE at h
  by_cases h1 : s.k < 1 ∨ 4 < s.k
  · rw [if_pos h1] at h; cases h
  · rw [if_neg h1] at h
    by_cases h2 : s.as = []
    · rw [if_pos h2] at h; cases h
    · rw [if_neg h2] at h
      by_cases h3 : 255 < s.as.length
      · rw [if_pos h3] at h; cases h
      · rw [if_neg h3] at h
        by_cases h4 : s.as.any (fun x => !isNum x) = true
        · rw [if_pos h4] at h; cases h
        · rw [if_neg h4] at h
          refine ⟨by omega, h2, by omega, fun x hx => ?_, fun hs => ?_⟩
          · have : isNum x = true := by
              cases hn : isNum x with
              | true => rfl
              | false => exact absurd (List.any_eq_true.2 ⟨x, hx, by rw [hn]; rfl⟩) h4
            exact of_decide_eq_true this
          · cases ha : asc s.as with
            | true => rfl
            | false => rw [if_pos (by rw [hs, ha]; rfl)] at h; cases h
theorem P.scan_ok : ∀ {p : List Sg} {o : Option Sg}, scan o p = 0 → ∀ s ∈ p, segE s = 0
  | [], _, _, s, hs => by cases hs
  | a :: p, none, h, s, hs => by
    unfold scan at h
    by_cases h1 : segE a ≠ 0
    · rw [if_pos h1] at h; exact absurd h h1
    · rw [if_neg h1] at h
      rcases List.mem_cons.1 hs with e | e
      · subst e; omega
      · exact scan_ok h s e
  | a :: p, some b, h, s, hs => by
    unfold scan at h
    by_cases h1 : segE a ≠ 0
    · rw [if_pos h1] at h; exact absurd h h1
    · rw [if_neg h1] at h
      by_cases h2 : mayF a b = false
      · rw [if_pos h2] at h; cases h
      · rw [if_neg h2] at h
        rcases List.mem_cons.1 hs with e | e
        · subst e; omega
        · exact scan_ok h s e
theorem P.chk_ok {p : List Sg} (h : chk p = 0) : p.length ≤ 64 ∧ ∀ s ∈ p, segE s = 0 := by
  unfold chk at h
  by_cases h1 : 64 < p.length
  · rw [if_pos h1] at h; cases h
  · rw [if_neg h1] at h
    exact ⟨by omega, scan_ok h⟩
theorem P.flat_len_ok {p : List Sg} (h : ∀ s ∈ p, segE s = 0) : (flat p).length ≤ 255 * p.length := by
  induction p with
  | nil => simp [flat]
  | cons s p ih =>
    have h1 := (segE_ok (h s (by simp))).2.2.1
    have h2 := ih (fun t ht => h t (by simp [ht]))
    rw [flat_cons, List.length_append, List.length_cons]
    omega
theorem P.flat_num_ok {p : List Sg} (h : ∀ s ∈ p, segE s = 0) : ∀ x ∈ flat p, 1 ≤ x ∧ x ≤ 4294967295 := by
  intro x hx
  unfold flat at hx
  obtain ⟨l, hl, hxl⟩ := List.mem_flatten.1 hx
  obtain ⟨s, hs, rfl⟩ := List.mem_map.1 hl
  exact (segE_ok (h s hs)).2.2.2.1 x hxl
theorem step_append_str {w : World} {ops : Array Oper} {o : Oper} {a : Act} {K : Act → World → Prop} {Q : Exit → Act → World → Prop} {E : Prop} (hgd : o.guard = none) (s x : Operand)
    (ho : o.op = .call { callee := .builtin .append, args := #[s, x], argTypes := #[63, 63] }) (B : Nat) (hB : B ≤ w.heap.size)
    (v : Value) (ps : List (List UInt8)) (hs : a.eval s = v) (hown : OwnW B w v ps) (c : Nat) (y : List UInt8) (hx : a.eval x = .slice (some ⟨c, 0, none⟩) 1 1) (hc : w.cell? ⟨c, 0, none⟩ = some (.string (bs y))) (hlen : ps.length ≤ 2000000)
    (h : ∀ v' w', OwnW B w' v' (ps ++ [y]) → Below B w w' → K (a.put o.dst v') w') : if Region.wanted o (yielded ops a.tmps) = true then Oper.wp Tryz.prog o a w K Q else E := by
  obtain ⟨i0, hi, hz0, hz1, hz2⟩ := infoE_parts info9
  refine step_append_lies w hgd s x 63 ho B 9 i0 (.string ⟨#[]⟩) 1 16 Tryz.underlying63 hi hz0 hz1 hz2 rfl (by decide) v ps.length (strs ps) hs hown.2 ⟨c, 0, none⟩ 1 1 (strs [y]) hx rfl (fun j u hj => ?_) (strs_one y) (by decide) (by unfold maxLen; omega) (by omega) hB w.heap.size rfl fun g cap w' h1 h2 _ _ => h _ w' ?_ ?_
  · match j, hj with
    | 0, hj => simp [strs] at hj; subst hj; rw [Addr.add_lit]; exact hc
    | j + 1, hj => simp [strs] at hj
  · have hb := (Below.refl _ w).grown h2 hB (fun k hk => (row_lt hown.2 hk).1)
    refine ⟨Nat.le_trans hB hb.size, ?_⟩
    have e : strs (ps ++ [y]) = strs ps ++ strs [y] := by simp [strs]
    rw [e, List.length_append]; exact h1
  · exact (Below.refl _ w).grown h2 hB (fun k hk => (row_lt hown.2 hk).1)
theorem P.word_le {k : Int} {l : List Int} (h : ∀ x ∈ l, I64 x) : (P.word k l).length ≤ 22 * l.length + 2 := by
  have hj : ∀ c, (Lib.join (decs l) [c]).length ≤ 22 * l.length := fun c => by
    have := join_le (m := 21) (decs l) c (fun p hp => by
      unfold decs at hp
      obtain ⟨x, hx, rfl⟩ := List.mem_map.1 hp
      exact itoa_len (h x hx))
    have e : (decs l).length = l.length := by simp [decs]
    omega
  have h1 := hj 44
  have h2 := hj 32
  unfold P.word
  split
  · simp; omega
  · split
    · simp; omega
    · split
      · simp; omega
      · omega
theorem P.parts_le : ∀ (f : Nat) (p : List Sg) (m : Nat), (∀ x ∈ flat p, I64 x) → (flat p).length ≤ m → (partsF f p).length ≤ f ∧ ∀ w ∈ partsF f p, w.length ≤ 22 * m + 2
  | 0, p, m, _, _ => by unfold partsF; simp
  | f + 1, [], m, _, _ => by unfold partsF; simp
  | f + 1, s :: r, m, hi, hm => by
    unfold partsF
    have e := List.takeWhile_append_dropWhile (p := fun x : Sg => decide (3 = x.k)) (l := s :: r)
    have ef : flat (s :: r) = flat ((s :: r).takeWhile fun x => decide (3 = x.k)) ++ flat ((s :: r).dropWhile fun x => decide (3 = x.k)) := by conv => lhs; rw [← e, flat_app]
    by_cases hk : s.k = 3
    · rw [if_pos hk]
      rw [ef] at hi hm
      rw [List.length_append] at hm
      obtain ⟨h1, h2⟩ := P.parts_le f ((s :: r).dropWhile fun x => decide (3 = x.k)) m (fun x hx => hi x (by simp [hx])) (by omega)
      have hw := P.word_le (k := 3) (l := flat ((s :: r).takeWhile fun x => decide (3 = x.k))) (fun x hx => hi x (by simp [hx]))
      refine ⟨by rw [List.length_cons]; omega, fun w hw' => ?_⟩
      rcases List.mem_cons.1 hw' with e | e
      · rw [e]; omega
      · exact h2 w e
    · rw [if_neg hk]
      rw [flat_cons] at hi hm
      rw [List.length_append] at hm
      obtain ⟨h1, h2⟩ := P.parts_le f r m (fun x hx => hi x (by simp [hx])) (by omega)
      have hw := P.word_le (k := s.k) (l := s.as) (fun x hx => hi x (by simp [hx]))
      refine ⟨by rw [List.length_cons]; omega, fun w hw' => ?_⟩
      rcases List.mem_cons.1 hw' with e | e
      · rw [e]; omega
      · exact h2 w e
theorem i64_num {x : Int} (h : 1 ≤ x ∧ x ≤ 4294967295) : I64 x := by constructor <;> omega
theorem P.text_le {p : List Sg} (h : p.length ≤ 64) (hs : ∀ s ∈ p, segE s = 0) : (parts p).length ≤ 64 ∧ (Lib.join (parts p) [32]).length ≤ 100000000 := by
  have h1 := flat_len_ok hs
  obtain ⟨h2, h3⟩ := P.parts_le p.length p 16320 (fun x hx => i64_num (flat_num_ok hs x hx)) (by omega)
  have := join_le (m := 359042) (parts p) 32 (fun w hw => by have := h3 w hw; omega)
  have e : (parts p).length ≤ p.length := h2
  refine ⟨by omega, ?_⟩
  have : (359042 + 1) * (parts p).length ≤ (359042 + 1) * 64 := Nat.mul_le_mul_left _ (by omega)
  omega
theorem join_nil_any (v : Value) (B : Nat) (c : UInt8) (w : World) (hv : OwnW B w v []) : Calls Tryz.prog 60 #[v, .string ⟨#[c]⟩] w fun e w' => e = .returned (.string (bs [])) ∧ Below w.heap.size w w' := by
  have key : ∀ a cp, Calls Tryz.prog 60 #[.slice a 0 cp, .string ⟨#[c]⟩] w fun e w' => e = .returned (.string (bs [])) ∧ Below w.heap.size w w' := fun a cp => (Any.strings_Join_none Tryz.lays156 Tryz.Builder_Extra_156 a cp ⟨#[c]⟩ w).mono fun e w' ⟨he, hw⟩ => ⟨he, hw ▸ Below.refl _ _⟩
  rcases hv.2.2 with ⟨rfl, h0⟩ | ⟨g, cap, cur, rfl, _⟩
  · exact key _ _
  · exact key _ _
theorem below_dr' {B : Nat} {a w : World} (h : Below B a w) : Below B a.drew w := ⟨h.os, h.tape, h.output, h.size, h.block⟩
theorem below_undrew' {B : Nat} {a w : World} (h : Below B a.drew w) : Below B a w := ⟨h.os, h.tape, h.output, h.size, h.block⟩
theorem RdS.take1 {w : World} {b off n cap : Nat} {s : Sg} {r : List Sg} (h : RdS w (.slice (some ⟨b, off, none⟩) n cap) (s :: r)) : RdS w (.slice (some ⟨b, off, none⟩) 1 cap) [s] := by
  have e : (s :: r).length ≤ cap ∧ cap ≤ 9223372036854775807 := by
    obtain ⟨ad, c, e, h1, h2, _⟩ := h
    cases e
    exact ⟨h1, h2.1⟩
  have := h.take 1 (by simp) cap (by have := e.1; simp at this; omega) e.2
  simpa using this
theorem RdS.drop1 {w : World} {b off n cap : Nat} {s : Sg} {r : List Sg} (h : RdS w (.slice (some ⟨b, off, none⟩) n cap) (s :: r)) : RdS w (.slice (if cap = 1 then some (⟨b, off, none⟩ : Addr) else some ⟨b, off + 2, none⟩) (n - 1) (cap - 1)) r := by
  have e : n = r.length + 1 ∧ n ≤ cap ∧ cap ≤ 9223372036854775807 := by
    obtain ⟨ad, c, e, h1, h2, _⟩ := h
    cases e
    exact ⟨rfl, h1, h2.1⟩
  by_cases hc : cap = 1
  · rw [if_pos hc]
    have : r = [] := List.length_eq_zero_iff.1 (by omega)
    subst this
    subst hc
    have hn : n = 1 := by simpa using e.1
    subst hn
    exact rds_empty ⟨by omega, fun e => by cases e⟩
  · rw [if_neg hc]
    have := h.drop 1 (by simp) (n - 1) (by simp; omega) (cap - 1) (by omega) (by omega)
    simpa using this
theorem text_any (p : List Sg) (v : Value) (w : World) (hT : Tab w) (hv : RdS w v p) :
    Calls Tryz.prog 31 #[v] w fun e w' => e = .returned (.tuple #[.string (bs (if chk p = 0 then P.text p else [])), .int .i64 (chk p)]) ∧ Below w.heap.size w w' := by
  have HC := Lib.hid (check_any p v w hv)
  have HV : Hid (∀ W, Below w.heap.size w W → RdS W v p) := fun W hW => hv.below hW
  have HOK : Hid (chk p = 0 → p.length ≤ 64 ∧ ∀ s ∈ p, segE s = 0) := chk_ok
  obtain ⟨q, hq⟩ : ∃ q, chk p = q := ⟨_, rfl⟩
  rw [hq] at HC HOK ⊢
  obtain ⟨ad, cap, rfl⟩ := hv.form
  have HT := Lib.hid hT
  clear hv hq hT
  by_cases hq0 : q = 0
  · subst hq0
    rw [if_pos rfl]
    have HTX : Hid (P.text p = Lib.join (parts p) [32]) := rfl
    generalize P.text p = TX at *
    obtain ⟨Z, hZ⟩ : ∃ Z, parts p = Z := ⟨_, rfl⟩
    have HE0 : Hid (([] : List (List UInt8)) ++ parts p = Z) := hZ
    rw [hZ] at HTX
    have HZL : Hid (Z.length ≤ 64 ∧ (Lib.join Z [32]).length ≤ 100000000) := by
      rw [← hZ]; exact text_le (HOK.out rfl).1 (HOK.out rfl).2
    have HO0 : Hid (∀ W, Below w.heap.size w W → OwnW w.heap.size W (.slice none 0 0) []) := fun W hW => OwnW.nil _ _ hW.size
    obtain ⟨L, hL⟩ : ∃ L, p.length = L := ⟨_, rfl⟩
    have HL := Lib.hid hL
    have HOK2 := Lib.hid (HOK.out rfl)
    have hL64 : L ≤ 64 := by rw [← hL]; exact HOK2.out.1
    rw [hL] at HC HV ⊢
    have HR0 := Lib.hid (HV.out w (Below.refl _ _))
    clear hZ hL HOK
    go_enter Tryz.func31, Tryz.ntmps31
    go_wp2_with fail
    go_at_call 13
    refine HC.out.mono ?_
    rintro e w1 ⟨rfl, hb⟩
    have HB0 := Lib.hid hb
    have HO1 := Lib.hid (HO0.out _ hb)
    clear hb HC HV HO0
    go_wp2_with fail
    go_loopg [0, 5, 6, 7] (L + 1) (fun g s0 s5 s6 s7 wr => ∃ (r : List Sg) (o : List (List UInt8)) (v0 v5 : Value), o.length + r.length ≤ 64 ∧ r.length + 1 ≤ g ∧ v0 = s0 ∧ v5 = s5 ∧ (∃ q, q = s6) ∧ (∃ q, q = s7) ∧ Hid (RdS w v0 r) ∧ Hid (∀ s ∈ r, segE s = 0) ∧ Hid (OwnW w.heap.size wr v5 o) ∧ Hid (o ++ parts r = Z) ∧ Hid (Below w.heap.size w wr))
    case atStart => exact ⟨p, [], _, _, by rw [HL.out]; simpa using hL64, by rw [HL.out]; exact Nat.le_refl _, rfl, rfl, ⟨_, rfl⟩, ⟨_, rfl⟩, HR0, HOK2.out.2, HO1, HE0, HB0⟩
    case round =>
      clear HR0 HO1 HE0 HB0 HOK2 HL
      obtain ⟨r, o, v0, v5, hlen, hg, rfl, rfl, ⟨u6, rfl⟩, ⟨u7, rfl⟩, HR, HS, HO, HE, HB⟩ := hrel
      cases r with
      | nil =>
        obtain ⟨ad0, cap0, hf0⟩ := HR.out.form
        subst hf0
        have HZ : Hid (o = Z) := by show _ = _; rw [← HE.out, parts_nil, List.append_nil]
        have k1 : decide ((0 : Int) < ((List.length ([] : List Sg) : Nat) : Int)) = false := rfl
        have k2 : ([] : List Sg).length = 0 := rfl
        have HJ : Hid (Calls Tryz.prog 60 #[v5, .string ⟨#[32]⟩] wr fun e w' => e = .returned (.string (bs TX)) ∧ Below wr.heap.size wr w') := by
          have hO := HO.out
          have hz := HZ.out
          subst hz
          rw [HTX.out]
          by_cases ho : o = []
          · subst ho
            exact join_nil_any v5 _ 32 wr hO
          · exact join_any _ o v5 32 wr hO ho (by have := HZL.out.1; omega) (by have := HZL.out.2; omega)
        clear HR HE HS HO HZ
        go_wp2_with fail
        go_at_call 60
        refine HJ.out.mono ?_
        rintro e w2 ⟨rfl, hb⟩
        have HF := Lib.hid (below_then HB.out hb)
        clear hb HJ
        go_wp2
        go_ret2
        exact ⟨rfl, HF.out⟩
      | cons s r =>
        have hse := HS.out s (by simp)
        obtain ⟨hk14, hne, h255, hnum, _⟩ := segE_ok hse
        have HSR : Hid (∀ t ∈ r, segE t = 0) := fun t ht => HS.out t (by simp [ht])
        obtain ⟨ad0, cap0, e0, h1, h2, hc⟩ := id HR.out
        obtain ⟨b, off, u, rfl, hbb, c0, c1, hu⟩ := hc 0 s rfl
        subst e0
        have C0 : Hid (w.cell? ⟨b, off, none⟩ = some (.int .i64 s.k)) := by show w.cell? _ = _; simpa using c0
        have C1 : Hid (w.cell? ⟨b, off + 1, none⟩ = some u) := by show w.cell? _ = _; simpa using c1
        have d0 := carry HB.out C0.out
        have d1 := carry HB.out C1.out
        obtain ⟨uad, ucap, hf⟩ := hu.form
        have HT1 := Lib.hid (RdS.take1 HR.out)
        have HD1 := Lib.hid (RdS.drop1 HR.out)
        have hcap := h2.1
        obtain ⟨n, hn⟩ : ∃ n, (s :: r).length = n := ⟨_, rfl⟩
        have hrl : r.length + 1 = n := by rw [← hn]; simp
        rw [hn] at hlen hg h1 HR HD1 ⊢
        obtain ⟨A2, hA2⟩ : ∃ A2, (if cap0 = 1 then some (⟨b, off, none⟩ : Addr) else some ⟨b, off + 2, none⟩) = A2 := ⟨_, rfl⟩
        rw [hA2] at HD1
        have HSE := Lib.hid hse
        subst hf
        obtain ⟨LS, hLS⟩ : ∃ LS, s.as.length = LS := ⟨_, rfl⟩
        rw [hLS] at d1
        have k0 : decide ((0 : Int) < (n : Int)) = true := decide_eq_true (by omega)
        have k0' : (0 : Int) < (n : Int) := by omega
        have k1 : (1 : Int) ≤ (n : Int) := by omega
        have k2 : (1 : Int) ≤ (cap0 : Int) := by omega
        have HNE := Lib.hid hne
        have HNM := Lib.hid hnum
        have H255 : Hid (s.as.length ≤ 255) := h255
        clear hc c0 c1 hu hse hne hnum HS hn hLS h255
        have HDN : Hid (∀ W, Below w.heap.size w W → Calls Tryz.prog 54 #[.slice (some ⟨b, off, none⟩) n cap0, .int .i64 3] W fun e w' => ∃ v', e = .returned v' ∧ DivE w W (s :: r) 3 w' v') := fun W hW => div_ent (s :: r) _ 3 w W HR.out hW (by simp; omega)
        have HI3 : Hid (∀ W, Below wr.heap.size wr W → RdI (W.alloc (.cells #[.int .i64 3] 3)) (.slice (some ⟨W.heap.size, 0, none⟩) 1 1) [3] ∧ Below wr.heap.size wr (W.alloc (.cells #[.int .i64 3] 3))) := fun W hW => ⟨rdi_at _ [3] 3 _ rfl _ rfl _ rfl (by simp), below_then hW (below_alloc _ _)⟩
        go_wp2_with fail
        go_quiet (fail)
        rename_i nq _
        have HI3q := Lib.hid (HI3.out _ (below_drewN (Below.refl _ wr) nq))
        clear HI3
        go_wp2_with fail
        go_at_call 44
        refine (isOf_any s.k (.slice uad LS ucap) _ [3] _ HI3q.out.1 rfl).mono ?_
        rintro e w2 ⟨rfl, hb⟩
        rw [mem1]
        have HB2 := Lib.hid (below_then HI3q.out.2 hb)
        have HB2w := Lib.hid (below_then HB.out HB2.out)
        have y0 := carry HB2.out d0
        clear hb HI3q
        by_cases hq : s.k = 3
        · rw [decide_eq_true hq]
          have HT3 := Lib.hid (take_flat_le (s :: r) fun t => decide (3 = t.k))
          have HPC := Lib.hid (parts_conf (s := s) (r := r) hq)
          have HNS : Hid (flat ((s :: r).takeWhile fun t => decide (3 = t.k)) ≠ [] ∧ (∀ x ∈ flat ((s :: r).takeWhile fun t => decide (3 = t.k)), 1 ≤ x ∧ x ≤ 4294967295) ∧ (flat ((s :: r).takeWhile fun t => decide (3 = t.k))).length ≤ 20000) := by
            have hall : ∀ t ∈ s :: r, segE t = 0 := fun t ht => (List.mem_cons.1 ht).elim (fun e => by subst e; exact HSE.out) (fun e => HSR.out t e)
            have hsub : ∀ t ∈ (s :: r).takeWhile fun t => decide (3 = t.k), segE t = 0 := fun t ht => hall t (List.takeWhile_subset _ ht)
            refine ⟨?_, flat_num_ok hsub, ?_⟩
            · rw [List.takeWhile_cons, if_pos (by simpa using hq.symm), flat_cons]
              intro e
              exact HNE.out (List.append_eq_nil_iff.1 e).1
            · have h1 := flat_len_ok hsub
              have h2 := HT3.out.2.1
              simp only [List.length_cons] at h2
              omega
          have HRL : Hid (∀ t ∈ (s :: r).dropWhile fun t => decide (3 = t.k), segE t = 0) := fun t ht => (List.mem_cons.1 (List.dropWhile_subset _ ht)).elim (fun e => by subst e; exact HSE.out) (fun e => HSR.out t e)
          have HRLen : Hid (((s :: r).dropWhile fun t => decide (3 = t.k)).length + 1 ≤ n) := by
            have := drop_lt s r hq
            show _ ≤ _
            omega
          have HDQ := Lib.hid (HDN.out w2 HB2w.out)
          clear HDN HD1 HT1 hA2
          go_wp2_with fail
          go_at_call 54
          refine HDQ.out.mono ?_
          rintro e w3 ⟨v3, rfl, a1, n1, c1, a2, n2, c2, rfl, hr1, hr2, hb3⟩
          obtain ⟨ns, hns⟩ : ∃ ns, flat ((s :: r).takeWhile fun t => decide (3 = t.k)) = ns := ⟨_, rfl⟩
          have HFL : Hid (∀ W, Below w.heap.size w W → Calls Tryz.prog 27 #[.slice a1 n1 c1] W fun e w' => ∃ v', e = .returned v' ∧ InsI W v' ns w') := fun W hW => hns ▸ flat_any _ _ W (hr1.below hW) (by have := HNS.out.2.2; omega)
          rw [hns] at HNS HPC
          have HRD : Hid (RdS w (.slice a2 n2 c2) ((s :: r).dropWhile fun t => decide (3 = t.k))) := hr2
          generalize ((s :: r).dropWhile fun t => decide (3 = t.k)) = r2 at *
          have HBW := Lib.hid (below_then HB2.out hb3)
          have HBX := Lib.hid (below_then HB.out HBW.out)
          have HPC' : Hid (parts (s :: r) = P.word s.k ns :: parts r2) := by show _ = _; rw [hq]; exact HPC.out
          have x0 := carry hb3 y0
          clear hr1 hr2 hb3 HDQ HB HB2 HB2w y0 d0 d1 hns HT3 HNE HNM HSR HPC hq
          go_wp2_with fail
          have HK : Hid (∀ W, Below w.heap.size w W → W.cell? ⟨b, off, none⟩ = some (.int .i64 s.k) ∧ Below w.heap.size w W) := fun W hW => ⟨carry hW C0.out, hW⟩
          have HWD : Hid (∀ W v', Below w.heap.size w W → RdI W v' ns → Calls Tryz.prog 59 #[.int .i64 s.k, v'] W fun e w' => e = .returned (.string (bs (P.word s.k ns))) ∧ Below W.heap.size W w') := fun W v' hW hv' => word_any s.k ns v' W (tab_below HT.out hW) hv' HNS.out.1 (by have := HNS.out.2.2; omega) (fun x hx => i64_num (HNS.out.2.1 x hx))
          have HOX : Hid (∀ W, Below w3.heap.size w3 W → OwnW w.heap.size W v5 o) := fun W hW => HO.out.below (below_then HBW.out hW)
          have hol : o.length ≤ 2000000 := by omega
          have hX : Below w.heap.size w w3 := HBX.out
          have hXd : Below w.heap.size w w3.drew := ⟨hX.os, hX.tape, hX.output, hX.size, hX.block⟩
          obtain ⟨y, hy⟩ : ∃ y, P.word s.k ns = y := ⟨_, rfl⟩
          rw [hy] at HWD HPC'
          clear HR HNS HO hy
          go_region_held3 (fun W => W.cell? ⟨b, off, none⟩ = some (.int .i64 s.k) ∧ Below w.heap.size w W)
            (exact HK.out _ (by assumption))
            (first
              | (go_at_call 27; refine (HFL.out _ hXd).mono ?_; rintro e w10 ⟨v10, rfl, hi10⟩; have hk10 : Below w3.heap.size w3 w10 := below_undrew' hi10.2; have hkw10 : Below w.heap.size w w10 := below_then HBX.out hk10; have HI10 := Lib.hid hi10.1.rd; obtain ⟨a10, c10, hf10⟩ := hi10.1.rd.form; subst hf10; clear hi10 HFL)
              | (go_at_call 59; refine (HWD.out _ _ hkw10 HI10.out).mono ?_; rintro e w11 ⟨rfl, hb⟩; have hk11 : Below w3.heap.size w3 w11 := below_then hk10 hb; have hkw11 : Below w.heap.size w w11 := below_then hkw10 hb; have hkwa : Below w.heap.size w (w11.alloc (.cells #[.string (bs y)] 9)) := below_then hkw11 (below_alloc _ _); have HOA := Lib.hid (HOX.out (w11.alloc (.cells #[.string (bs y)] 9)) (below_then hk11 (below_alloc _ _))); have HBA : Hid (w.heap.size ≤ (w11.alloc (.cells #[.string (bs y)] 9)).heap.size) := HOA.out.1; clear hb HWD HI10)
              | (refine step_append_str (by rfl) (.tmp 30) (.tmp 38) (by rfl) w.heap.size HBA.out v5 o (by rfl) HOA.out w11.heap.size y (by rfl) (cell_of (heap_alloc_new _ _) rfl) hol ?_; intro v12 w12 hown hb; have hkw12 : Below w.heap.size w w12 := hkwa.trans hb; have HO12 := Lib.hid hown; clear hown hb))
          have HB12 := Lib.hid hkw12
          clear hk10 hkw10 hk11 hkw11 hkwa hkw12 HOA HBA HOX HK
          go_wp2_with fail
          go_roundg (r2.length + 1)
          case measure => have := HRLen.out; omega
          case rel => exact ⟨r2, o ++ [y], _, _, by have := HRLen.out; rw [List.length_append]; simp; omega, Nat.le_refl _, rfl, rfl, ⟨_, rfl⟩, ⟨_, rfl⟩, HRD, HRL, HO12, by show _ = _; rw [← HE.out, HPC'.out]; simp, HB12⟩
        · rw [decide_eq_false hq]
          have HPC' : Hid (parts (s :: r) = P.word s.k s.as :: parts r) := parts_one hq
          have HNS : Hid (s.as ≠ [] ∧ (∀ x ∈ s.as, 1 ≤ x ∧ x ≤ 4294967295) ∧ s.as.length ≤ 20000) := ⟨HNE.out, HNM.out, by have := H255.out; omega⟩
          have HRL : Hid (∀ t ∈ r, segE t = 0) := HSR.out
          have HRLen : Hid (r.length + 1 ≤ n) := by show _ ≤ _; omega
          have HFL : Hid (∀ W, Below w.heap.size w W → Calls Tryz.prog 27 #[.slice (some ⟨b, off, none⟩) 1 cap0] W fun e w' => ∃ v', e = .returned v' ∧ InsI W v' s.as w') := fun W hW => by
            have := flat_any [s] _ W (HT1.out.below hW) (by have := H255.out; simp [flat]; omega)
            simpa [flat] using this
          have HRD : Hid (RdS w (.slice A2 (n - 1) (cap0 - 1)) r) := HD1.out
          have HBW := Lib.hid HB2.out
          have HBX := Lib.hid HB2w.out
          have x0 := y0
          obtain ⟨ns, hns⟩ : ∃ ns, s.as = ns := ⟨_, rfl⟩
          rw [hns] at HPC' HNS HFL
          clear HDN HD1 HT1 hA2 HB HB2 HB2w y0 d0 d1 HNE HNM HSR hns H255 hq
          go_wp2_with fail
          have HK : Hid (∀ W, Below w.heap.size w W → W.cell? ⟨b, off, none⟩ = some (.int .i64 s.k) ∧ Below w.heap.size w W) := fun W hW => ⟨carry hW C0.out, hW⟩
          have HWD : Hid (∀ W v', Below w.heap.size w W → RdI W v' ns → Calls Tryz.prog 59 #[.int .i64 s.k, v'] W fun e w' => e = .returned (.string (bs (P.word s.k ns))) ∧ Below W.heap.size W w') := fun W v' hW hv' => word_any s.k ns v' W (tab_below HT.out hW) hv' HNS.out.1 (by have := HNS.out.2.2; omega) (fun x hx => i64_num (HNS.out.2.1 x hx))
          have HOX : Hid (∀ W, Below w2.heap.size w2 W → OwnW w.heap.size W v5 o) := fun W hW => HO.out.below (below_then HBW.out hW)
          have hol : o.length ≤ 2000000 := by omega
          have hX : Below w.heap.size w w2 := HBX.out
          have hXd : Below w.heap.size w w2.drew := ⟨hX.os, hX.tape, hX.output, hX.size, hX.block⟩
          obtain ⟨y, hy⟩ : ∃ y, P.word s.k ns = y := ⟨_, rfl⟩
          rw [hy] at HWD HPC'
          clear HR HNS HO hy
          go_region_held3 (fun W => W.cell? ⟨b, off, none⟩ = some (.int .i64 s.k) ∧ Below w.heap.size w W)
            (exact HK.out _ (by assumption))
            (first
              | (go_at_call 27; refine (HFL.out _ hXd).mono ?_; rintro e w10 ⟨v10, rfl, hi10⟩; have hk10 : Below w2.heap.size w2 w10 := below_undrew' hi10.2; have hkw10 : Below w.heap.size w w10 := below_then HBX.out hk10; have HI10 := Lib.hid hi10.1.rd; obtain ⟨a10, c10, hf10⟩ := hi10.1.rd.form; subst hf10; clear hi10 HFL)
              | (go_at_call 59; refine (HWD.out _ _ hkw10 HI10.out).mono ?_; rintro e w11 ⟨rfl, hb⟩; have hk11 : Below w2.heap.size w2 w11 := below_then hk10 hb; have hkw11 : Below w.heap.size w w11 := below_then hkw10 hb; have hkwa : Below w.heap.size w (w11.alloc (.cells #[.string (bs y)] 9)) := below_then hkw11 (below_alloc _ _); have HOA := Lib.hid (HOX.out (w11.alloc (.cells #[.string (bs y)] 9)) (below_then hk11 (below_alloc _ _))); have HBA : Hid (w.heap.size ≤ (w11.alloc (.cells #[.string (bs y)] 9)).heap.size) := HOA.out.1; clear hb HWD HI10)
              | (refine step_append_str (by rfl) (.tmp 30) (.tmp 38) (by rfl) w.heap.size HBA.out v5 o (by rfl) HOA.out w11.heap.size y (by rfl) (cell_of (heap_alloc_new _ _) rfl) hol ?_; intro v12 w12 hown hb; have hkw12 : Below w.heap.size w w12 := hkwa.trans hb; have HO12 := Lib.hid hown; clear hown hb))
          have HB12 := Lib.hid hkw12
          clear hk10 hkw10 hk11 hkw11 hkwa hkw12 HOA HBA HOX HK
          go_wp2_with fail
          go_roundg (r.length + 1)
          case measure => have := HRLen.out; omega
          case rel => exact ⟨r, o ++ [y], _, _, by have := HRLen.out; rw [List.length_append]; simp; omega, Nat.le_refl _, rfl, rfl, ⟨_, rfl⟩, ⟨_, rfl⟩, HRD, HRL, HO12, by show _ = _; rw [← HE.out, HPC'.out]; simp, HB12⟩
  · have e1 : (q != 0) = true := by simpa using hq0
    rw [if_neg hq0]
    clear HOK HV hq0
    go_enter Tryz.func31, Tryz.ntmps31
    go_wp2_with fail
    go_at_call 13
    refine HC.out.mono ?_
    rintro e w1 ⟨rfl, hb⟩
    have HB1 := Lib.hid hb
    clear hb HC
    go_wp2
    go_ret2
    exact ⟨rfl, HB1.out⟩
end Go.Proofs.YtiobfgcpbihbhaaGreatDoor
