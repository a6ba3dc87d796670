/-
  The walk of Merge.
-/
import Derived.Test.YtiobfgcpbihbhaaGreatDoorAsS
import Derived.Test.YtiobfgcpbihbhaaGreatDoorAtA
import Derived.Test.YtiobfgcpbihbhaaGreatDoorAtB
import Derived.Deep.RegionHeld3
import Derived.BigQuiet
namespace Go.Proofs.YtiobfgcpbihbhaaGreatDoor
open Go.RowKit P
set_option linter.unusedSimpArgs false
set_option linter.unusedVariables false
set_option maxHeartbeats 4000000
set_option maxRecDepth 100000
theorem RdI.dropIf {w : World} {A : Option Addr} {n len cap : Nat} {l : List Int} (h : RdI w (.slice A len cap) l) (hn : n ≤ l.length) : RdI w (.slice (if cap = n then A else Option.map (fun x => Addr.add x n) A) (len - n) (cap - n)) (l.drop n) := by
  obtain ⟨A', cap', e, h1, h2, hc⟩ := h
  injection e with e1 e2 e3
  subst e1 e2 e3
  have el : (l.drop n).length = l.length - n := List.length_drop
  by_cases hcn : cap = n
  · rw [if_pos hcn]
    have : l.drop n = [] := List.drop_eq_nil_of_le (by omega)
    rw [this]
    rw [show l.length - n = 0 by omega, show cap - n = 0 by omega]
    exact ⟨A, 0, rfl, Nat.le_refl _, ⟨by omega, fun _ => rfl⟩, fun k x h => by simp at h⟩
  · rw [if_neg hcn]
    refine ⟨_, _, by rw [el], by rw [el]; omega, ⟨by omega, fun e => ?_⟩, fun k x hk => ?_⟩
    · cases A with
      | none => rw [h2.2 rfl]; omega
      | some a => cases e
    · rw [List.getElem?_drop] at hk
      obtain ⟨b, off, e, a1, a2⟩ := hc (n + k) x hk
      subst e
      exact ⟨b, off + n, by simp [Addr.add], a1, by rw [← a2]; congr 2; omega⟩
theorem OwnI.base {B B' : Nat} {w : World} {v : Value} {l : List Int} (h : OwnI B w v l) (hB : B' ≤ B) : OwnI B' w v l := by
  refine ⟨Nat.le_trans hB h.1, h.2.1, ?_⟩
  rcases h.2.2 with h0 | ⟨g, cap, cur, e, hg, hr⟩
  · exact .inl h0
  · exact .inr ⟨g, cap, cur, e, Nat.le_trans hB hg, hr⟩
theorem below_undrew {B : Nat} {a w : World} (h : Below B a.drew w) : Below B a w := ⟨h.os, h.tape, h.output, h.size, h.block⟩
theorem below_dr {B : Nat} {a w : World} (h : Below B a w) : Below B a.drew w := ⟨h.os, h.tape, h.output, h.size, h.block⟩
theorem mrg_err1 {a b : List Sg} (h : chk a ≠ 0) : MrgR a b [] (chk a) := by unfold MrgR; rw [if_pos h]; exact ⟨rfl, rfl⟩
theorem mrg_err2 {a b : List Sg} (h1 : chk a = 0) (h : chk b ≠ 0) : MrgR a b [] (chk b) := by unfold MrgR; rw [if_neg (by simp [h1]), if_pos h]; exact ⟨rfl, rfl⟩
theorem mrg_ok {a b : List Sg} (h1 : chk a = 0) (h2 : chk b = 0) {s : List Int} (hs : IsS (restM a b) s) : (255 < s.length ∨ 64 < (outM a b s).length → MrgR a b [] 4) ∧ (¬ (255 < s.length ∨ 64 < (outM a b s).length) → MrgR a b (outM a b s) 0) := by
  refine ⟨fun h => ?_, fun h => ?_⟩
  · unfold MrgR
    rw [if_neg (by simp [h1]), if_neg (by simp [h2])]
    exact ⟨s, hs, by rw [if_pos h]; exact ⟨rfl, rfl⟩⟩
  · unfold MrgR
    rw [if_neg (by simp [h1]), if_neg (by simp [h2])]
    exact ⟨s, hs, by rw [if_neg h]; exact ⟨rfl, rfl⟩⟩
theorem merge_any (p r : List Sg) (v u : Value) (w : World) (hv : RdS w v p) (hu : RdS w u r) (hl : p.length ≤ 900000) (hf : (flat p).length ≤ 900000) (hl' : r.length ≤ 900000) (hf' : (flat r).length ≤ 900000) :
    Calls Tryz.prog 35 #[v, u] w fun e w' => ∃ v' o x, e = .returned (.tuple #[v', .int .i64 x]) ∧ MrgR p r o x ∧ RdS w' v' o ∧ Below w.heap.size w w' := by
  have HC1 := Lib.hid (check_any p v w hv)
  have HC2 : Hid (∀ W, Below w.heap.size w W → Calls Tryz.prog 13 #[u] W fun e w' => e = .returned (.int .i64 (chk r)) ∧ Below W.heap.size W w') := fun W hW => check_any r u W (hu.below hW)
  have HS1 : Hid (∀ W, Below w.heap.size w W → Calls Tryz.prog 24 #[v] W fun e w' => ∃ v', e = .returned v' ∧ RdS w' v' (strip p) ∧ Below W.heap.size W w') := fun W hW => strip_any p v W (by omega) (by omega) (hv.below hW)
  have HS2 : Hid (∀ W, Below w.heap.size w W → Calls Tryz.prog 24 #[u] W fun e w' => ∃ v', e = .returned v' ∧ RdS w' v' (strip r) ∧ Below W.heap.size W w') := fun W hW => strip_any r u W (by omega) (by omega) (hu.below hW)
  have HN1 := Lib.hid (And.intro (strip_le p) (And.intro (strip_flat_le p) (And.intro hl hf)))
  have HN2 := Lib.hid (And.intro (strip_le r) (And.intro (strip_flat_le r) (And.intro hl' hf')))
  have HE1 := Lib.hid (fun (h : chk p ≠ 0) => mrg_err1 (a := p) (b := r) h)
  have HE2 := Lib.hid (fun (h1 : chk p = 0) (h : chk r ≠ 0) => mrg_err2 (a := p) (b := r) h1 h)
  have HOK := Lib.hid (fun (h1 : chk p = 0) (h2 : chk r = 0) (s : List Int) (hs : IsS (restM p r) s) => mrg_ok (a := p) (b := r) h1 h2 hs)
  obtain ⟨va, vc, rfl⟩ := hv.form
  obtain ⟨ua, uc, rfl⟩ := hu.form
  generalize p.length = N1 at *
  generalize r.length = N2 at *
  obtain ⟨x, hx⟩ : ∃ x, chk p = x := ⟨_, rfl⟩
  obtain ⟨y, hy⟩ : ∃ y, chk r = y := ⟨_, rfl⟩
  rw [hx] at HC1 HE1 HE2 HOK
  rw [hy] at HC2 HE2 HOK
  clear hv hu hl hf hl' hf' hx hy
  go_enter Tryz.func35, Tryz.ntmps35
  go_wp2_with fail
  go_at_call 13
  refine HC1.out.mono ?_
  rintro e w1 ⟨rfl, hb⟩
  have HB1 := Lib.hid hb
  clear hb HC1
  by_cases hx0 : x = 0
  · subst hx0
    clear HE1
    go_wp2_with fail
    go_at_call 13
    refine (HC2.out _ HB1.out).mono ?_
    rintro e w2 ⟨rfl, hb⟩
    have HB2 := Lib.hid (below_then HB1.out hb)
    clear hb HC2 HB1
    by_cases hy0 : y = 0
    · subst hy0
      clear HE2
      have HOK2 := Lib.hid (HOK.out (by first | rfl | trivial) (by first | rfl | trivial))
      clear HOK
      go_wp2_with fail
      go_at_call 24
      refine (HS1.out _ HB2.out).mono ?_
      rintro e w3 ⟨v3, rfl, hr3, hb⟩
      have HB3 := Lib.hid (below_then HB2.out hb)
      have HR3 : Hid (∀ W, Below w3.heap.size w3 W → RdS W v3 (strip p)) := fun W hW => hr3.below hW
      clear hb HS1 hr3
      go_wp2_with fail
      go_at_call 24
      refine (HS2.out _ HB3.out).mono ?_
      rintro e w4 ⟨v4, rfl, hr4, hb⟩
      have HB4 := Lib.hid (below_then HB3.out hb)
      have HR4 : Hid (∀ W, Below w4.heap.size w4 W → RdS W v4 (strip r)) := fun W hW => hr4.below hW
      have HR3' : Hid (∀ W, Below w4.heap.size w4 W → RdS W v3 (strip p)) := fun W hW => HR3.out W (below_then hb hW)
      have HT1 := Lib.hid (take_flat_le (strip p) fun s => decide (2 = s.k))
      have HT2 := Lib.hid (take_flat_le (strip r) fun s => decide (2 = s.k))
      have HD1 := Lib.hid (div_any (strip p) v3 2 w4 (HR3'.out _ (Below.refl _ _)) (by have := HN1.out; omega))
      clear hb HS2 hr4 HR3 HB2 HB3
      go_wp2_with fail
      go_at_call 54
      refine HD1.out.mono ?_
      rintro e w5 ⟨v5, rfl, a1, n1, c1, a2, n2, c2, rfl, h1, h2, hb5⟩
      have HB5 := Lib.hid hb5
      have HL1 : Hid (∀ W, Below w5.heap.size w5 W → RdS W (.slice a1 n1 c1) ((strip p).takeWhile fun s => decide (2 = s.k))) := fun W hW => h1.below hW
      have HD2 := Lib.hid (div_any (strip r) v4 2 w5 (HR4.out _ hb5) (by have := HN2.out; omega))
      clear h1 h2 hb5 HD1
      go_wp2_with fail
      go_at_call 54
      refine HD2.out.mono ?_
      rintro e w6 ⟨v6, rfl, a3, n3, c3, a4, n4, c4, rfl, h1, h2, hb6⟩
      have HB6 := Lib.hid (below_then HB5.out hb6)
      have HL2 : Hid (∀ W, Below w6.heap.size w6 W → RdS W (.slice a3 n3 c3) ((strip r).takeWhile fun s => decide (2 = s.k))) := fun W hW => h1.below hW
      have HF1 := Lib.hid (flat_any _ _ w6 (HL1.out w6 hb6) (by have := HT1.out; have := HN1.out; omega))
      clear h1 h2 hb6 HD2 HB5 HL1
      go_wp2_with fail
      go_at_call 27
      refine HF1.out.mono ?_
      rintro e w7 ⟨v7, rfl, hi7⟩
      have HB7 := Lib.hid (below_then HB6.out hi7.2)
      have HI7 : Hid (∀ W, Below w7.heap.size w7 W → RdI W v7 (lead (strip p))) := fun W hW => hi7.1.rd.below hW
      have HF2 := Lib.hid (flat_any _ _ w7 (HL2.out w7 hi7.2) (by have := HT2.out; have := HN2.out; omega))
      clear hi7 HF1 HL2 HB6
      go_wp2_with fail
      go_at_call 27
      refine HF2.out.mono ?_
      rintro e w8 ⟨v8, rfl, hi8⟩
      have HB8 := Lib.hid (below_then HB7.out hi8.2)
      have HCM := Lib.hid (common_any (lead (strip p)) (lead (strip r)) v7 v8 w8 (HI7.out w8 hi8.2) hi8.1.rd (by have := lead_le (strip p); have := HN1.out; omega) (by have := lead_le (strip r); have := HN2.out; omega))
      clear hi8 HF2 HI7 HB7
      go_wp2_with fail
      go_at_call 67
      refine HCM.out.mono ?_
      rintro e w9 ⟨v9, rfl, hr9, hb9⟩
      have HB9 := Lib.hid (below_then HB8.out hb9)
      have hbl : (both p r).length ≤ (flat (strip p)).length ∧ (both p r).length ≤ (flat (strip r)).length := by
        have h1 := cpre_le (lead (strip p)) (lead (strip r))
        have h2 := lead_le (strip p)
        have h3 := lead_le (strip r)
        unfold both
        omega
      have HR9 : Hid (∀ W, Below w9.heap.size w9 W → RdI W v9 (both p r)) := fun W hW => hr9.below hW
      obtain ⟨a9, c9, hf9⟩ := hr9.form
      have hf9' : v9 = .slice a9 (both p r).length c9 := hf9
      subst hf9'
      obtain ⟨NB, hNB⟩ : ∃ NB, (both p r).length = NB := ⟨_, rfl⟩
      rw [hNB] at hbl HR9 ⊢
      have HNB := Lib.hid hNB
      have HBL := Lib.hid hbl
      have HFA : Hid (∀ W, Below w9.heap.size w9 W → Calls Tryz.prog 27 #[v3] W fun e w' => ∃ a c, e = .returned (.slice a (flat (strip p)).length c) ∧ RdI w' (.slice a (flat (strip p)).length c) (flat (strip p)) ∧ Below W.heap.size W w') := fun W hW => (flat_any (strip p) v3 W (HR3'.out W (below_then HB9.out hW)) (by have := HN1.out; omega)).mono fun e w' ⟨v', he, hi⟩ => by
        obtain ⟨a, c, e1⟩ := hi.1.rd.form
        exact ⟨a, c, by rw [he, e1], e1 ▸ hi.1.rd, hi.2⟩
      have HFB : Hid (∀ W, Below w9.heap.size w9 W → Calls Tryz.prog 27 #[v4] W fun e w' => ∃ a c, e = .returned (.slice a (flat (strip r)).length c) ∧ RdI w' (.slice a (flat (strip r)).length c) (flat (strip r)) ∧ Below W.heap.size W w') := fun W hW => (flat_any (strip r) v4 W (HR4.out W (below_then HB9.out hW)) (by have := HN2.out; omega)).mono fun e w' ⟨v', he, hi⟩ => by
        obtain ⟨a, c, e1⟩ := hi.1.rd.form
        exact ⟨a, c, by rw [he, e1], e1 ▸ hi.1.rd, hi.2⟩
      obtain ⟨M1, hM1⟩ : ∃ M1, (flat (strip p)).length = M1 := ⟨_, rfl⟩
      obtain ⟨M2, hM2⟩ : ∃ M2, (flat (strip r)).length = M2 := ⟨_, rfl⟩
      rw [hM1] at HFA hbl
      rw [hM2] at HFB hbl
      have m0 : (0 : Int) ≤ (NB : Int) := by omega
      have m1 : (NB : Int) ≤ (M1 : Int) := by omega
      have m2 : (NB : Int) ≤ (M2 : Int) := by omega
      have HCC : Hid (∀ (X : World) (A1 A2 : Option Addr) (C1 C2 : Nat) (B1 B2 : Option Addr), Below w9.heap.size w9 X → (if C1 = NB then A1 else Option.map (fun x => Addr.add x NB) A1) = B1 → (if C2 = NB then A2 else Option.map (fun x => Addr.add x NB) A2) = B2 → RdI X (.slice A1 M1 C1) (flat (strip p)) → RdI X (.slice A2 M2 C2) (flat (strip r)) →
          Calls Tryz.prog 55 #[.slice (some ⟨X.heap.size, 0, none⟩) 2 2] (X.alloc (.cells #[.slice B1 (M1 - NB) (C1 - NB), .slice B2 (M2 - NB) (C2 - NB)] 34)) fun e w' => ∃ v', e = .returned v' ∧ OwnI w9.heap.size w' v' (restM p r) ∧ Below w9.heap.size w9 w') := fun X A1 A2 C1 C2 B1 B2 hX e1 e2 h1 h2 => by
        subst e1 e2
        have h1' := h1.dropIf (n := NB) (by have := HBL.out; omega)
        have h2' := h2.dropIf (n := NB) (by have := HBL.out; omega)
        refine (concat_any [(flat (strip p)).drop NB, (flat (strip r)).drop NB] _ _ (rdl_two (t := 34) h1' h2' X.heap.size rfl) (by simp) (by have := HN1.out; have := HN2.out; simp; omega)).mono ?_
        rintro e w' ⟨v', rfl, hi⟩
        have hb' : Below w9.heap.size w9 w' := hX.trans (((below_alloc _ _).trans (hi.2.mono (below_alloc _ _).size)).mono hX.size)
        have e : [(flat (strip p)).drop NB, (flat (strip r)).drop NB].flatten = restM p r := by unfold restM; rw [HNB.out]; simp
        rw [e] at hi
        exact ⟨v', rfl, hi.1.base (by have := hX.size; simp; omega), hb'⟩
      clear hr9 hb9 HCM HB8 hNB hM1 hM2 hbl hf9
      go_wp2_with fail
      go_region_held3 (fun W => Below w9.heap.size w9 W)
        (first | exact (Below.refl _ w9).drew | assumption | exact below_dr (hk11.alloc hk11.size _) | exact hk11.alloc hk11.size _ | exact below_dr hk12 | exact below_dr hk11 | exact below_dr hk10)
        (first
          | (go_at_call 27; refine (HFA.out _ (Below.refl _ w9).drew).mono ?_; rintro e w10 ⟨A1, C1, rfl, hA, hb⟩; have hk10 : Below w9.heap.size w9 w10 := below_undrew hb; have HA := Lib.hid (fun (W : World) (hW : Below w10.heap.size w10 W) => hA.below hW); obtain ⟨B1, hif1⟩ : ∃ B1, (if C1 = NB then A1 else Option.map (fun x => Addr.add x NB) A1) = B1 := ⟨_, rfl⟩; clear hb hA HFA)
          | (go_at_call 27; refine (HFB.out _ hk10).mono ?_; rintro e w11 ⟨A2, C2, rfl, hB, hb⟩; have hk11 : Below w9.heap.size w9 w11 := below_then hk10 hb; have HA2 := Lib.hid (HA.out w11 hb); have HB2 := Lib.hid hB; obtain ⟨B2, hif2⟩ : ∃ B2, (if C2 = NB then A2 else Option.map (fun x => Addr.add x NB) A2) = B2 := ⟨_, rfl⟩; clear hb hB HFB HA)
          | (go_at_call 55; refine (HCC.out w11 A1 A2 C1 C2 B1 B2 hk11 hif1 hif2 HA2.out HB2.out).mono ?_; rintro e w12 ⟨v12, rfl, ho12, hk12⟩; have HO12 := Lib.hid ho12; clear ho12))
      have HK12 := Lib.hid hk12
      have hrl : (restM p r).length ≤ 4000000 := by
        unfold restM
        rw [List.length_append, List.length_drop, List.length_drop]
        have := HN1.out; have := HN2.out; omega
      have HSO := Lib.hid (sort_own w9.heap.size (restM p r) v12 w12 HO12.out.srt HK12.out.size (by omega))
      have HOS := Lib.hid (HOK2.out _ (IsS.of (restM p r)))
      have hml : ((restM p r).mergeSort fun x y => decide (x ≤ y)).length ≤ 4000000 := by rw [List.length_mergeSort]; exact hrl
      have HML := Lib.hid hml
      generalize ((restM p r).mergeSort fun x y => decide (x ≤ y)) = ms at *
      clear hk10 hk11 hk12 hif1 hif2 HA2 HB2 HCC HO12 HOK2 HT1 HT2 HR3' HR4 hrl hml
      go_wp2_with fail
      go_at_call 68
      refine HSO.out.mono ?_
      rintro e w13 ⟨rfl, hs13, hb13⟩
      have HB13 : Hid (Below w9.heap.size w9 w13) := HK12.out.trans hb13
      have HCO := Lib.hid (compact_own w9.heap.size ms v12 w13 hs13 HB13.out.size (by have := HML.out; omega))
      clear hs13 hb13 HSO HK12
      go_wp2_with fail
      go_at_call 69
      refine HCO.out.mono ?_
      rintro e w14 ⟨v14, rfl, hr14, hb14⟩
      have HB14 : Hid (Below w9.heap.size w9 w14) := HB13.out.trans hb14
      have hcl := cut_len ms
      have HSQ := Lib.hid (seqs_any 2 (both p r) _ w14 (HR9.out _ HB14.out) (by have h1 := HNB.out; have h2 := HBL.out; have h3 := HN1.out; omega))
      obtain ⟨s, hs⟩ : ∃ s, Lib.compact ms = s := ⟨_, rfl⟩
      rw [hs] at hr14 HOS hcl
      have HR14 : Hid (∀ W, Below w14.heap.size w14 W → RdI W v14 s) := fun W hW => hr14.below hW
      have HSL : Hid ((seqs 2 (both p r)).length ≤ 1000000) := Nat.le_trans (seqs_len0 2 _ _ rfl) (by have h1 := HNB.out; have h2 := HBL.out; have h3 := HN1.out; omega)
      have HO : Hid (outM p r s = seqs 2 (both p r) ++ if s = [] then [] else [⟨1, s⟩]) := rfl
      obtain ⟨a14, c14, hf14⟩ := hr14.form
      have HRA : Hid (∀ W g, Below w14.heap.size w14 W → w14.heap.size ≤ g → RdN g W v14 s) := fun W g hW hg => hr14.away hg hW
      generalize outM p r s = O at *
      subst hf14
      obtain ⟨S, hS⟩ : ∃ S, s.length = S := ⟨_, rfl⟩
      rw [hS] at hcl HRA HR14 HOS ⊢
      have hSl : S ≤ 4000000 := by have := HML.out; omega
      have HSS := Lib.hid hS
      clear hr14 hb14 HCO hs HB13 HR9 HML hS hcl
      go_wp2_with fail
      go_at_call 57
      refine HSQ.out.mono ?_
      rintro e w15 ⟨v15, rfl, ho15, hb15⟩
      have HB15 := Lib.hid (HB14.out.trans (hb15.mono HB14.out.size))
      have HO15 := Lib.hid ho15
      have HB15' := Lib.hid hb15
      have HBF : Hid (∀ W, Below w9.heap.size w9 W → Below w.heap.size w W) := fun W hW => below_then HB4.out (below_then HB9.out hW)
      obtain ⟨SQ, hSQ⟩ : ∃ SQ, seqs 2 (both p r) = SQ := ⟨_, rfl⟩
      rw [hSQ] at HO15 HO HSL
      clear ho15 hb15 HSQ HN1 HN2 HBL hSQ
      obtain ⟨K, hK⟩ : ∃ K, SQ.length = K := ⟨_, rfl⟩
      have HKK := Lib.hid hK
      have hKl : K ≤ 1000000 := by have := HSL.out; omega
      clear hK
      by_cases hS0 : S = 0
      · have hs0 : s = [] := List.length_eq_zero_iff.1 (by rw [HSS.out]; exact hS0)
        have HOO : Hid (O = SQ) := by show _ = _; rw [HO.out, if_pos hs0]; simp
        have hol : O.length = K := by rw [HOO.out]; exact HKK.out
        subst hS0
        rw [hol] at HOS
        obtain ⟨a15, c15, hf15⟩ := HO15.out.rd.form
        rw [HKK.out] at hf15
        have HRD : Hid (RdS w15 v15 O) := by rw [HOO.out]; exact HO15.out.rd
        subst hf15
        clear HO HO15 HRA HR14 hol hs0
        by_cases h64 : 64 < K
        · have k1 : decide ((64 : Int) < (K : Int)) = true := decide_eq_true (by omega)
          have k2 : (64 : Int) < (K : Int) := by omega
          have HZ := Lib.hid (HOS.out.1 (.inr h64))
          clear HOS
          go_wp2
          go_ret2
          exact ⟨_, [], 4, rfl, HZ.out, rds_nil _, HBF.out _ HB15.out⟩
        · have k1 : decide ((64 : Int) < (K : Int)) = false := decide_eq_false (by omega)
          have k2 : ¬ (64 : Int) < (K : Int) := by omega
          have HZ := Lib.hid (HOS.out.2 (fun h => h.elim (fun h => by omega) h64))
          clear HOS
          go_wp2
          go_ret2
          exact ⟨_, O, 0, rfl, HZ.out, HRD.out, HBF.out _ HB15.out⟩
      · have hs0 : s ≠ [] := fun e => hS0 (by rw [← HSS.out, e]; rfl)
        have HOO : Hid (O = SQ ++ [⟨1, s⟩]) := by show _ = _; rw [HO.out, if_neg hs0]
        have hol : O.length = K + 1 := by rw [HOO.out, List.length_append, HKK.out]; rfl
        have HOL := Lib.hid hol
        rw [hol] at HOS
        have j1 : decide ((0 : Int) < (S : Int)) = true := decide_eq_true (by omega)
        have j2 : (0 : Int) < (S : Int) := by omega
        have HX : Hid (OwnP w14.heap.size (w15.alloc (.cells #[.int .i64 1, .slice a14 S c14] 46)) v15 SQ) := HO15.out.below (below_alloc _ _)
        have hbx : Below w14.heap.size w14 (w15.alloc (.cells #[.int .i64 1, .slice a14 S c14] 46)) := below_then HB15'.out (below_alloc _ _)
        have HBX := Lib.hid hbx
        have HU : Hid (∀ g, (v15.ownBlock = some g ∨ (v15.ownBlock = none ∧ g = (w15.alloc (.cells #[.int .i64 1, .slice a14 S c14] 46)).heap.size)) → RdN g (w15.alloc (.cells #[.int .i64 1, .slice a14 S c14] 46)) (.slice a14 S c14) s) := fun g hg => HRA.out _ g HBX.out (hg.elim (fun e => HX.out.lt e) (fun e => by have h2 := e.2; have := HBX.out.size; omega))
        have H3 : Hid ((w15.alloc (.cells #[.int .i64 1, .slice a14 S c14] 46)).cell? ⟨w15.heap.size, 0, none⟩ = some (.int .i64 1) ∧ (w15.alloc (.cells #[.int .i64 1, .slice a14 S c14] 46)).cell? ⟨w15.heap.size, 1, none⟩ = some (.slice a14 S c14)) := ⟨cell_of (heap_alloc_new _ _) rfl, cell_of (heap_alloc_new _ _) rfl⟩
        have H4 : Hid (SQ.length ≤ 2000000) := by show _ ≤ _; have := HKK.out; omega
        have HB16 : Hid (Below w9.heap.size w9 (w15.alloc (.cells #[.int .i64 1, .slice a14 S c14] 46)) ∧ w9.heap.size ≤ w14.heap.size ∧ w14.heap.size ≤ (w15.alloc (.cells #[.int .i64 1, .slice a14 S c14] 46)).heap.size) := ⟨HB14.out.trans (hbx.mono HB14.out.size), HB14.out.size, hbx.size⟩
        have HX2 : Hid (∀ W, OwnP w14.heap.size W v15 (SQ ++ [⟨1, s⟩]) → True) := fun _ _ => trivial
        clear HO HO15 HRA HR14 hol hs0 hbx HB15 HB15' HB14
        by_cases h4 : 255 < S ∨ 64 < K + 1
        · have HZ := Lib.hid (HOS.out.1 h4)
          clear HOS
          by_cases h255 : 255 < S
          · have k1 : decide ((255 : Int) < (S : Int)) = true := decide_eq_true (by omega)
            have k2 : (255 : Int) < (S : Int) := by omega
            go_wp2_with (at_builtin; refine append_seg rfl (.tmp 65) (.tmp 68) rfl w14.heap.size HB16.out.2.2 v15 SQ rfl HX.out w15.heap.size 1 (.slice a14 S c14) s rfl H3.out.1 H3.out.2 HU.out H4.out ?_; intro v16 w16 hown hgrow hbl hbk; have HRD : Hid (RdS w16 v16 O) := (by show RdS _ _ _; rw [HOO.out]; exact hown.rd); have B2 : Hid (Below w9.heap.size w9 w16) := HB16.out.1.trans (hbl.mono HB16.out.2.1); obtain ⟨a16, c16, hf16⟩ := HRD.out.form; rw [HOL.out] at hf16; subst hf16; clear hown hgrow hbl hbk)
            go_ret2
            exact ⟨_, [], 4, rfl, HZ.out, rds_nil _, HBF.out _ B2.out⟩
          · have k1 : decide ((255 : Int) < (S : Int)) = false := decide_eq_false (by omega)
            have k2 : ¬ (255 : Int) < (S : Int) := by omega
            have k3 : decide ((64 : Int) < ((K + 1 : Nat) : Int)) = true := decide_eq_true (by omega)
            have k4 : decide ((64 : Int) < (K : Int) + 1) = true := decide_eq_true (by omega)
            have k5 : (64 : Int) < (K : Int) + 1 := by omega
            go_wp2_with (at_builtin; refine append_seg rfl (.tmp 65) (.tmp 68) rfl w14.heap.size HB16.out.2.2 v15 SQ rfl HX.out w15.heap.size 1 (.slice a14 S c14) s rfl H3.out.1 H3.out.2 HU.out H4.out ?_; intro v16 w16 hown hgrow hbl hbk; have HRD : Hid (RdS w16 v16 O) := (by show RdS _ _ _; rw [HOO.out]; exact hown.rd); have B2 : Hid (Below w9.heap.size w9 w16) := HB16.out.1.trans (hbl.mono HB16.out.2.1); obtain ⟨a16, c16, hf16⟩ := HRD.out.form; rw [HOL.out] at hf16; subst hf16; clear hown hgrow hbl hbk)
            go_ret2
            exact ⟨_, [], 4, rfl, HZ.out, rds_nil _, HBF.out _ B2.out⟩
        · have HZ := Lib.hid (HOS.out.2 h4)
          have k1 : decide ((255 : Int) < (S : Int)) = false := decide_eq_false (by omega)
          have k2 : ¬ (255 : Int) < (S : Int) := by omega
          have k3 : decide ((64 : Int) < ((K + 1 : Nat) : Int)) = false := decide_eq_false (by omega)
          have k4 : decide ((64 : Int) < (K : Int) + 1) = false := decide_eq_false (by omega)
          have k5 : ¬ (64 : Int) < (K : Int) + 1 := by omega
          clear HOS
          go_wp2_with (at_builtin; refine append_seg rfl (.tmp 65) (.tmp 68) rfl w14.heap.size HB16.out.2.2 v15 SQ rfl HX.out w15.heap.size 1 (.slice a14 S c14) s rfl H3.out.1 H3.out.2 HU.out H4.out ?_; intro v16 w16 hown hgrow hbl hbk; have HRD : Hid (RdS w16 v16 O) := (by show RdS _ _ _; rw [HOO.out]; exact hown.rd); have B2 : Hid (Below w9.heap.size w9 w16) := HB16.out.1.trans (hbl.mono HB16.out.2.1); obtain ⟨a16, c16, hf16⟩ := HRD.out.form; rw [HOL.out] at hf16; subst hf16; clear hown hgrow hbl hbk)
          go_ret2
          exact ⟨_, O, 0, rfl, HZ.out, HRD.out, HBF.out _ B2.out⟩
    · have e1 : (y != 0) = true := by simpa using hy0
      have HZ := Lib.hid (HE2.out (by first | rfl | trivial) hy0)
      clear HE2 HOK hy0
      go_wp2
      go_ret2
      exact ⟨_, [], y, rfl, HZ.out, rds_nil _, HB2.out⟩
  · have e1 : (x != 0) = true := by simpa using hx0
    have HZ := Lib.hid (HE1.out hx0)
    clear HE1 HE2 HOK hx0
    go_wp2
    go_ret2
    exact ⟨_, [], x, rfl, HZ.out, rds_nil _, HB1.out⟩
end Go.Proofs.YtiobfgcpbihbhaaGreatDoor
