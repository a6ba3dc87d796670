/-
  The walk of the reference's All.
-/
import Derived.Test.YtmbogobebllheaaMd
import Derived.Deep.AppendLies
namespace Go.Proofs.Ytmbogobebllheaa
open Go.RowKit HM GM SP
set_option linter.unusedSimpArgs false
set_option linter.unusedVariables false
set_option maxHeartbeats 4000000
set_option maxRecDepth 100000
theorem one_slice (v : Value) (h : v.oneCell' = true) : ∀ u ∈ [v], u.oneCell' = true := by intro u hu; simp at hu; subst hu; exact h
/-- rows of slices of the call's own that read as rows -/
def OwnRd (w2 w : World) (v : Value) (k : Nat) (rows : List (List Int)) : Prop := ∃ vals, w.ownsRow w2.heap.size 35 1 v k vals ∧ vals.length = rows.length ∧ ∀ (j : Nat) (r : List Int), rows[j]? = some r → ∃ u, vals[j]? = some u ∧ ∀ W, Below w2.heap.size w2 W → RdI W u r
theorem RdI.cells' {w : World} {v : Value} {l : List Int} {n : Nat} (h : RdI w v l) (hl : l.length = n) (h0 : 0 < n) : ∃ b o cap, v = .slice (some ⟨b, o, none⟩) n cap ∧ n ≤ cap ∧ (b < w.heap.size ∧ cap ≤ 9223372036854775807) ∧ ∀ k, k < n → w.cell? ⟨b, o + k, none⟩ = some (.int .i64 (gI l k)) := by
  obtain ⟨ad, cap, rfl, h1, h2, hc⟩ := h
  obtain ⟨b, o, rfl, hb, _⟩ := hc 0 _ (gI_get (by omega))
  refine ⟨b, o, cap, by rw [hl], by omega, ⟨hb, h2⟩, fun k hk => ?_⟩
  obtain ⟨b', o', e, _, c⟩ := hc k _ (gI_get (by omega))
  cases e; exact c
theorem OwnRd.rdr {w2 w : World} {k : Nat} {v : Value} {rows : List (List Int)} (h : OwnRd w2 w v k rows) (hb : Below w2.heap.size w2 w) (hk : k ≤ 65536) : RdR w v rows := by
  obtain ⟨vals, h1, h2, h3⟩ := h
  have hkv : vals.length = k := by have := h1.1; omega
  rcases h1.2 with ⟨rfl, hn⟩ | ⟨g, cap, cur, rfl, _, hg, hc1, hc2, _⟩
  · have : rows = [] := List.length_eq_zero_iff.1 (by omega)
    subst this; exact ⟨none, 0, rfl, Nat.le_refl _, by omega, fun k r h => by simp at h⟩
  · refine ⟨some ⟨g, 0, none⟩, cap, by rw [← h2, hkv], by omega, by unfold maxLen at hc2; omega, fun j r hj => ?_⟩
    obtain ⟨u, hu, hr⟩ := h3 j r hj
    have hjl := (List.getElem?_eq_some_iff.1 hu).1
    refine ⟨g, 0, u, rfl, lt_block hg, ?_, hr w hb⟩
    rw [Nat.zero_add, h1.cellAt j (by omega)]; exact hu
theorem rall_err (R N : Int) (l : List E) (s : Value) (w : World) (hR : I64 R) (hN : I64 N) (hr : Rd3 w s l) (hf : FitT l) (hc : chk R N l ≠ 0) :
    Calls Try.prog 41 #[.agg #[.int .i64 R, .int .i64 N, s]] w (AllQ R N l w) := by
  have HCK : Hid (∀ W, Below w.heap.size w W → Calls Try.prog 37 #[.agg #[.int .i64 R, .int .i64 N, s]] W fun e w' => e = .returned (.int .i64 (chk R N l)) ∧ Below W.heap.size W w') := fun W hW => rcheck_any R N s l W hR hN (hr.below hW) hf
  have HRR : Hid (AllR R N l [] (chk R N l)) := .inl ⟨hc, rfl, rfl⟩
  obtain ⟨ad, cap, hform⟩ := rd3_slice hr
  obtain ⟨L, hL⟩ : ∃ L, l.length = L := ⟨_, rfl⟩
  rw [hL] at hform
  subst hform
  have hb : (chk R N l != 0) = true := by simpa using hc
  generalize chk R N l = c at *
  have HBA := Lib.hid (below_alloc w (.cells #[.int .i64 R, .int .i64 N, .slice ad L cap] 27))
  clear hr hL hc
  go_enter Try.func41, Try.ntmps41
  go_wp2_with fail
  go_at_call 37
  refine (HCK.out _ HBA.out).mono ?_
  rintro e w1 ⟨rfl, hb1⟩
  have HB1 := Lib.hid (below_then HBA.out hb1)
  clear hb1
  go_wp2
  go_ret2
  exact ⟨[], c, _, rfl, rdR_nil _, HRR.out, HB1.out⟩
theorem gT_take {l : List E} {r i : Nat} (hi : i < r) : (gT (allRow l r) r r).take (i + 1) = (gT (allRow l r) r r).take i ++ [allRow l r i] := by
  have : (gT (allRow l r) r r)[i]? = some (allRow l r i) := by
    unfold gT; simp [hi]
  rw [List.take_add_one, this]; rfl
theorem rall_ok (r n : Nat) (N : Int) (l : List E) (s : Value) (w : World) (hR : I64 (r : Int)) (hN : I64 N) (hr : Rd3 w s l) (hf : FitT l) (hc : chk (r : Int) N l = 0) (hn : (n : Int) = (r : Int) + N) :
    Calls Try.prog 41 #[.agg #[.int .i64 (r : Int), .int .i64 N, s]] w (AllQ (r : Int) N l w) := by
  have hv := chk_iff.1 hc
  have hN0 := hv.n; have hS := hv.s
  have HCK : Hid (∀ W, Below w.heap.size w W → Calls Try.prog 37 #[.agg #[.int .i64 (r : Int), .int .i64 N, s]] W fun e w' => e = .returned (.int .i64 0) ∧ Below W.heap.size W w') := fun W hW => by
    have := rcheck_any (r : Int) N s l W hR hN (hr.below hW) hf
    rwa [hc] at this
  have HDI : Hid (∀ W, Below w.heap.size w W → Calls Try.prog 83 #[.agg #[.int .i64 (r : Int), .int .i64 N, s]] W (DistQ l n W)) := fun W hW => dist_any (r : Int) N l s n W hv (hr.below hW) hn
  have HRR : Hid (AllR (r : Int) N l (gT (allRow l r) r r) 0) := .inr ⟨hc, rfl, r, rfl, rfl⟩
  have hrn : r ≤ n := by omega
  have hn8 : n ≤ 128 := by omega
  obtain ⟨ad, cap, hform⟩ := rd3_slice hr
  obtain ⟨L, hL⟩ : ∃ L, l.length = L := ⟨_, rfl⟩
  rw [hL] at hform
  subst hform
  have HBA := Lib.hid (below_alloc w (.cells #[.int .i64 (r : Int), .int .i64 N, .slice ad L cap] 27))
  have HBX : Hid ((w.alloc (.cells #[.int .i64 (r : Int), .int .i64 N, .slice ad L cap] 27)).heap[w.heap.size]? = some (.cells #[.int .i64 (r : Int), .int .i64 N, .slice ad L cap] 27 (0, 0))) := heap_alloc_new _ _
  clear hr hL hc hv hn
  obtain ⟨i0, hi0, hz0, hz1, hz2⟩ := info_parts info35
  go_enter Try.func41, Try.ntmps41
  go_wp2_with fail
  go_at_call 37
  refine (HCK.out _ HBA.out).mono ?_
  rintro e w1 ⟨rfl, hb1⟩
  have HB1 := Lib.hid (below_then HBA.out hb1)
  have HO1 := Lib.hid ((hb1.block _ (lt_block HBX.out)).trans HBX.out)
  clear hb1 HBX HBA HCK
  have q0 : w1.cell? ⟨w.heap.size, 0, none⟩ = some (.int .i64 (r : Int)) := cell_of HO1.out rfl
  have q1 : w1.cell? ⟨w.heap.size, 1, none⟩ = some (.int .i64 N) := cell_of HO1.out rfl
  have q2 : w1.cell? ⟨w.heap.size, 2, none⟩ = some (.slice ad L cap) := cell_of HO1.out rfl
  go_wp2_with fail
  go_at_call 83
  refine (HDI.out _ HB1.out).mono ?_
  rintro e w2 ⟨Hd, tab, vs, rfl, hown, hrs, htb, hT, hb2⟩
  have HB2 := Lib.hid (below_then HB1.out hb2)
  have HO2 := Lib.hid ((hb2.block _ (lt_block HO1.out)).trans HO1.out)
  have HROW : Hid (∀ i : Nat, i < r → ∃ g p c, w2.cell? ⟨Hd, i, none⟩ = some (.slice (some ⟨g, p, none⟩) n c) ∧ r ≤ c ∧ ∀ W, Below w2.heap.size w2 W → RdI W (.slice (some ⟨g, p, none⟩) r c) (allRow l r i)) := fun i hi => by
    obtain ⟨ad', cap', e, h1, h2, hcc⟩ := rdr_own hown hrs (by omega)
    obtain ⟨b', o', u, e1, hlt, hcu, hru⟩ := hcc i _ (gL_get (by rw [htb.len]; omega))
    cases e
    cases e1
    rw [Nat.zero_add] at hcu
    obtain ⟨b, o, c, rfl, k1, k2, k3⟩ := RdI.cells' hru (htb.row i (by omega)) (by omega)
    refine ⟨b, o, c, hcu, by omega, fun W hW => ⟨some ⟨b, o, none⟩, c, by simp [allRow], by simp [allRow]; omega, k2.2, fun k y hk => ?_⟩⟩
    have hkr : k < r := by have := (List.getElem?_eq_some_iff.1 hk).1; simpa [allRow] using this
    have e : y = T l (i : Int) (k : Int) := by simpa [allRow, hkr] using hk.symm
    subst e
    have := k3 k (by omega)
    rw [show gI (gL tab i) k = T l (i : Int) (k : Int) from hT i k (by omega) (by omega)] at this
    exact ⟨b, o, rfl, Nat.lt_of_lt_of_le k2.1 hW.size, carry hW this⟩
  clear q0 q1 q2 hb2 HB1 HO1 hown hrs htb hT HDI
  go_wp2_with fail
  have HS0 : Hid (OwnRd w2 (w2.alloc (.cells #[] 35)) (.slice (some ⟨w2.heap.size, 0, none⟩) 0 0) 0 ((gT (allRow l r) r r).take 0) ∧ Below w2.heap.size w2 (w2.alloc (.cells #[] 35))) :=
    ⟨⟨[], World.ownsRow_lit w2 #[] 0 (Nat.le_refl _) (by unfold maxLen; omega) rfl, by simp, fun j r h => by simp at h⟩, below_alloc _ _⟩
  go_loopg [6, 7] r (fun g s6 s7 wr => ∃ (i : Nat) (v6 : Value), i ≤ r ∧ r - i ≤ g ∧ s7 = .int .i64 (i : Int) ∧ v6 = s6 ∧ Hid (OwnRd w2 wr v6 i ((gT (allRow l r) r r).take i) ∧ Below w2.heap.size w2 wr))
  case atStart => exact ⟨0, _, by omega, by omega, rfl, rfl, HS0⟩
  case round =>
    clear HS0
    obtain ⟨i, v6, hi, hig, rfl, rfl, HS⟩ := hrel
    have hbx := (HS.out.2.block _ (lt_block HO2.out)).trans HO2.out
    have g0 : wr.cell? ⟨w.heap.size, 0, none⟩ = some (.int .i64 (r : Int)) := cell_of hbx rfl
    clear hbx
    by_cases hil : i < r
    · have i0' : (0 : Int) ≤ (i : Int) := by omega
      have i1 : (i : Int) < (r : Int) := by omega
      have i2 : (i : Int) < (n : Int) := by omega
      obtain ⟨ga, pa, ca, f1, f2, f3⟩ := HROW.out i hil
      have f4 := carry HS.out.2 f1
      have HF3 := Lib.hid f3
      have HF1 := Lib.hid f1
      clear f1 f3
      go_upto_region 9 with (fail)
      refine wp_region_held_drew (S := fun W => W.cell? ⟨w.heap.size, 0, none⟩ = some (.int .i64 (r : Int)) ∧ W.cell? ⟨Hd, i, none⟩ = some (.slice (some ⟨ga, pa, none⟩) n ca)) (by kernel_rfl) ⟨g0, f4⟩ (fun hS0 => ?_)
      refine wpAnyH_take (i := 0) (oi := ⟨some 22, _, _, _, _, _⟩) (v := v6) rfl (by kernel_rfl) (by kernel_rfl) (by kernel_rfl) (fun _ _ _ h => h) (Or.inl ⟨by rfl, by intro w' hw'; obtain ⟨hw1, hw2⟩ := hw'; go_simp⟩) hS0 ?_
      simp only [Act.put, List.setIfInBounds_toArray, List.set_cons_zero, List.set_cons_succ]
      refine wpAnyH_take (i := 1) (oi := ⟨some 23, _, _, _, _, _⟩) (v := .slice (some ⟨Hd, 0, none⟩) n n) rfl (by kernel_rfl) (by kernel_rfl) (by kernel_rfl) (fun _ _ _ h => h) (Or.inl ⟨by rfl, by intro w' hw'; obtain ⟨hw1, hw2⟩ := hw'; go_simp⟩) hS0 ?_
      simp only [Act.put, List.setIfInBounds_toArray, List.set_cons_zero, List.set_cons_succ]
      refine wpAnyH_take (i := 2) (oi := ⟨some 24, _, _, _, _, _⟩) (v := .int .i64 (i : Int)) rfl (by kernel_rfl) (by kernel_rfl) (by kernel_rfl) (fun _ _ _ h => h) (Or.inl ⟨by rfl, by intro w' hw'; obtain ⟨hw1, hw2⟩ := hw'; go_simp⟩) hS0 ?_
      simp only [Act.put, List.setIfInBounds_toArray, List.set_cons_zero, List.set_cons_succ]
      refine wpAnyH_take (i := 3) (oi := ⟨some 25, _, _, _, _, _⟩) (v := .pointer (some ⟨Hd, i, none⟩)) rfl (by kernel_rfl) (by kernel_rfl) (by kernel_rfl) (fun _ _ _ h => h) (Or.inl ⟨by rfl, by intro w' hw'; obtain ⟨hw1, hw2⟩ := hw'; go_simp⟩) hS0 ?_
      simp only [Act.put, List.setIfInBounds_toArray, List.set_cons_zero, List.set_cons_succ]
      refine wpAnyH_take (i := 4) (oi := ⟨some 26, _, _, _, _, _⟩) (v := .slice (some ⟨ga, pa, none⟩) n ca) rfl (by kernel_rfl) (by kernel_rfl) (by kernel_rfl) (fun _ _ _ h => h) (Or.inl ⟨by rfl, by intro w' hw'; obtain ⟨hw1, hw2⟩ := hw'; go_simp⟩) hS0 ?_
      simp only [Act.put, List.setIfInBounds_toArray, List.set_cons_zero, List.set_cons_succ]
      refine wpAnyH_take (i := 5) (oi := ⟨some 27, _, _, _, _, _⟩) (v := .pointer (some ⟨w.heap.size, 0, none⟩)) rfl (by kernel_rfl) (by kernel_rfl) (by kernel_rfl) (fun _ _ _ h => h) (Or.inl ⟨by rfl, by intro w' hw'; obtain ⟨hw1, hw2⟩ := hw'; go_simp⟩) hS0 ?_
      simp only [Act.put, List.setIfInBounds_toArray, List.set_cons_zero, List.set_cons_succ]
      refine wpAnyH_take (i := 6) (oi := ⟨some 28, _, _, _, _, _⟩) (v := .int .i64 (r : Int)) rfl (by kernel_rfl) (by kernel_rfl) (by kernel_rfl) (fun _ _ _ h => h) (Or.inl ⟨by rfl, by intro w' hw'; obtain ⟨hw1, hw2⟩ := hw'; go_simp⟩) hS0 ?_
      simp only [Act.put, List.setIfInBounds_toArray, List.set_cons_zero, List.set_cons_succ]
      refine wpAnyH_take (i := 7) (oi := ⟨some 29, _, _, _, _, _⟩) (v := .slice (some ⟨ga, pa, none⟩) r ca) rfl (by kernel_rfl) (by kernel_rfl) (by kernel_rfl) (fun _ _ _ h => h) (Or.inl ⟨by rfl, by intro w' hw'; obtain ⟨hw1, hw2⟩ := hw'; go_simp⟩) hS0 ?_
      simp only [Act.put, List.setIfInBounds_toArray, List.set_cons_zero, List.set_cons_succ]
      refine wpAnyH_ready (rs := [8]) (by kernel_rfl) (by simp) ?_
      refine AllReadyH.cons rfl (fun K hK => ?_) AllReadyH.nil
      go_simp
      (try go_wp2_with fail)
      refine hK.out _ _ ⟨carry (below_alloc _ _) g0, carry (below_alloc _ _) f4⟩ (fun _ => ?_)
      clear hK K
      (try simp only [Act.put, List.setIfInBounds_toArray, List.set_cons_zero, List.set_cons_succ])
      obtain ⟨vals, ho, hvl, hvr⟩ := HS.out.1
      have hvk : vals.length = i := by have := ho.1; omega
      refine wpAnyH_ready (rs := [9]) (by kernel_rfl) (by simp) ?_
      refine AllReadyH.cons rfl (fun K hK => ?_) AllReadyH.nil
      refine step_append_lies _ rfl (.tmp 22) (.tmp 30) 22 rfl w2.heap.size 35 i0 (.slice none 0 0) 1 24 Try.underlying22 hi0 hz0 hz1 hz2 rfl (by decide) v6 i vals (by simp [Act.eval, Act.put]) (ho.drew.alloc _) ⟨_, 0, none⟩ 1 1 [.slice (some ⟨ga, pa, none⟩) r ca] (by simp [Act.eval, Act.put]) rfl (cell_one_new _ _ _ rfl) (one_slice _ rfl) (by decide) (by unfold maxLen; omega) (by omega) (by have := HS.out.2.size; simp; omega) _ rfl ?_
      intro g5 cap5 w5 a1 a2 a3 a4
      have hb5 : Below w2.heap.size w2 (wr.drew.alloc (.cells #[.slice (some ⟨ga, pa, none⟩) r ca] 35)) := (below_then HS.out.2.drew (below_alloc _ _))
      have hb6 : Below w2.heap.size w2 w5 := hb5.grown a2 (by have := HS.out.2.size; simp; omega) (fun k hk => (row_lt ho hk).1)
      have HN1 : Hid (OwnRd w2 w5 (.slice (some ⟨g5, 0, none⟩) (i + 1) cap5) (i + 1) ((gT (allRow l r) r r).take (i + 1)) ∧ Below w2.heap.size w2 w5) := by
        refine ⟨⟨_, a1, by rw [gT_take hil, List.length_append, List.length_append, hvl]; rfl, fun j q hj => ?_⟩, hb6⟩
        rw [gT_take hil] at hj
        by_cases hji : j < i
        · rw [List.getElem?_append_left (by rw [List.length_take, gT_len]; omega)] at hj
          obtain ⟨u, hu, hru⟩ := hvr j q hj
          refine ⟨u, by rw [List.getElem?_append_left (by omega)]; exact hu, ?_⟩
          skip
          exact hru
        · have hjl := (List.getElem?_eq_some_iff.1 hj).1
          rw [List.length_append, List.length_take, gT_len] at hjl
          obtain rfl : j = i := by simp at hjl; omega
          rw [List.getElem?_append_right (by rw [List.length_take, gT_len]; omega), List.length_take, gT_len, show j - min j r = 0 by omega] at hj
          simp at hj; subst hj
          exact ⟨_, by rw [List.getElem?_append_right (by omega), hvk, Nat.sub_self]; rfl, HF3.out⟩
      have e0 : w5.cell? ⟨w.heap.size, 0, none⟩ = some (.int .i64 (r : Int)) := cell_of ((hb6.block _ (lt_block HO2.out)).trans HO2.out) rfl
      have e1 : w5.cell? ⟨Hd, i, none⟩ = some (.slice (some ⟨ga, pa, none⟩) n ca) := carry hb6 HF1.out
      clear a1 a2 a3 a4 hb5 hb6 ho hvr
      refine hK.out _ _ ⟨e0, e1⟩ (fun _ => ?_)
      clear hK K
      (try simp only [Act.put, List.setIfInBounds_toArray, List.set_cons_zero, List.set_cons_succ])
      refine wpAnyH_ready (rs := [10]) (by kernel_rfl) (by simp) ?_
      refine AllReadyH.cons rfl (fun K hK => ?_) AllReadyH.nil
      go_simp
      (try go_wp2_with fail)
      refine hK.out _ _ ⟨e0, e1⟩ (fun _ => ?_)
      clear hK K
      (try simp only [Act.put, List.setIfInBounds_toArray, List.set_cons_zero, List.set_cons_succ])
      refine wpAnyH_done (by kernel_rfl) ?_ _
      go_wp2_with fail
      go_roundg (r - (i + 1))
      case measure => omega
      case rel => exact ⟨i + 1, _, by omega, Nat.le_refl _, by go_num, rfl, HN1⟩
    · have k1 : decide ((i : Int) < (r : Int)) = false := decide_eq_false (by omega)
      have HIR : Hid (i = r) := by show _ = _; omega
      have HTF : Hid (RdR wr v6 (gT (allRow l r) r r)) := by
        have := HS.out.1
        rw [HIR.out, List.take_of_length_le (by rw [gT_len]; omega)] at this
        exact this.rdr HS.out.2 (by omega)
      have HBF := Lib.hid (below_then HB2.out HS.out.2)
      clear HS HIR
      go_wp2
      go_ret2
      exact ⟨_, 0, _, rfl, HTF.out, HRR.out, HBF.out⟩
theorem rall_any (R N : Int) (l : List E) (s : Value) (w : World) (hR : I64 R) (hN : I64 N) (hr : Rd3 w s l) (hf : FitT l) : Calls Try.prog 41 #[.agg #[.int .i64 R, .int .i64 N, s]] w (AllQ R N l w) := by
  by_cases hc : chk R N l = 0
  · have hv := chk_iff.1 hc
    have h1 := hv.r; have h2 := hv.n
    obtain ⟨r, rfl⟩ : ∃ r : Nat, R = r := ⟨R.toNat, by omega⟩
    exact rall_ok r (r + N.toNat) N l s w hR hN hr hf hc (by omega)
  · exact rall_err R N l s w hR hN hr hf hc
end Go.Proofs.Ytmbogobebllheaa
