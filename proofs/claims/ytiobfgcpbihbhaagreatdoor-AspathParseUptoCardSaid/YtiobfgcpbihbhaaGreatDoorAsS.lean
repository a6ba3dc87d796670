/-
  The walk of Prepend.
-/
import Derived.Test.YtiobfgcpbihbhaaGreatDoorAsO
import Derived.Test.YtiobfgcpbihbhaaGreatDoorAsP
import Derived.Test.YtiobfgcpbihbhaaGreatDoorAsR
import Derived.BigQuiet
namespace Go.Proofs.YtiobfgcpbihbhaaGreatDoor
open Go.RowKit P
set_option linter.unusedSimpArgs false
set_option linter.unusedVariables false
set_option maxHeartbeats 4000000
set_option maxRecDepth 100000
def P.prpL (p : List Sg) (kd x : Int) (n : Nat) : List Int := List.replicate n x ++ flat (p.takeWhile fun s => decide (kd = s.k))
def P.prp (p : List Sg) (kd x : Int) (n : Nat) : List Sg := seqs kd (prpL p kd x n) ++ p.dropWhile fun s => decide (kd = s.k)
def P.prpF (p : List Sg) (kd x n : Int) : List Sg × Int := if prpE p kd x n ≠ 0 then ([], prpE p kd x n) else if 64 < (prp p kd x n.toNat).length then ([], 4) else (prp p kd x n.toNat, 0)
theorem P.prpE_ok {p : List Sg} {kd x n : Int} (h : prpE p kd x n = 0) : 0 ≤ n ∧ n ≤ 255 := by
  unfold prpE at h
  by_cases h1 : chk p ≠ 0
  · rw [if_pos h1] at h; exact absurd h h1
  · rw [if_neg h1] at h
    by_cases h2 : kd ≠ 2 ∧ kd ≠ 3
    · rw [if_pos h2] at h; cases h
    · rw [if_neg h2] at h
      by_cases h3 : isNum x = false ∨ n < 0 ∨ 255 < n
      · rw [if_pos h3] at h; cases h
      · omega
theorem P.take_flat_le (p : List Sg) (q : Sg → Bool) : (flat (p.takeWhile q)).length ≤ (flat p).length ∧ (p.takeWhile q).length ≤ p.length ∧ (p.dropWhile q).length ≤ p.length ∧ (flat (p.dropWhile q)).length ≤ (flat p).length := by
  have e := List.takeWhile_append_dropWhile (p := q) (l := p)
  have h1 : (flat p).length = (flat (p.takeWhile q)).length + (flat (p.dropWhile q)).length := by conv => lhs; rw [← e, flat_app, List.length_append]
  have h2 : p.length = (p.takeWhile q).length + (p.dropWhile q).length := by conv => lhs; rw [← e, List.length_append]
  omega
theorem P.seqs_len0 (k : Int) : ∀ (n : Nat) (l : List Int), l.length = n → (seqs k l).length ≤ n := by
  intro n
  induction n using Nat.strongRecOn with
  | _ n ih =>
    intro l hl
    by_cases h : l = []
    · subst h; rw [seqs_nil]; simp
    · have hp := List.length_pos_iff.2 h
      rw [seqs_cons k h, List.length_cons]
      have := ih (l.drop 255).length (by rw [List.length_drop]; omega) (l.drop 255) rfl
      rw [List.length_drop] at this
      omega
theorem rdl_two {W : World} {t : TypeId} {v1 v2 : Value} {l1 l2 : List Int} (h1 : RdI W v1 l1) (h2 : RdI W v2 l2) (b : Nat) (hb : b = W.heap.size) : RdL (W.alloc (.cells #[v1, v2] t (0, 0))) (.slice (some ⟨b, 0, none⟩) 2 2) [l1, l2] := by
  subst hb
  refine ⟨_, _, rfl, fun k l hk => ?_⟩
  match k, hk with
  | 0, hk => simp at hk; subst hk; exact ⟨_, _, v1, rfl, cell_of (heap_alloc_new _ _) rfl, h1.below (below_alloc _ _)⟩
  | 1, hk => simp at hk; subst hk; exact ⟨_, _, v2, rfl, cell_of (heap_alloc_new _ _) rfl, h2.below (below_alloc _ _)⟩
  | k + 2, hk => simp at hk
theorem prepend_any (p : List Sg) (v : Value) (kd x n : Int) (w : World) (hv : RdS w v p) (hl : p.length ≤ 900000) (hf : (flat p).length ≤ 900000) :
    Calls Tryz.prog 29 #[v, .int .i64 kd, .int .i64 x, .int .i64 n] w fun e w' => ∃ v', e = .returned (.tuple #[v', .int .i64 (prpF p kd x n).2]) ∧ RdS w' v' (prpF p kd x n).1 ∧ Below w.heap.size w w' := by
  have HC := Lib.hid (checkPrep_any p v kd x n w hv)
  have HV : Hid (∀ W, Below w.heap.size w W → RdS W v p) := fun W hW => hv.below hW
  have HF : Hid (prpF p kd x n = if prpE p kd x n ≠ 0 then ([], prpE p kd x n) else if 64 < (prp p kd x n.toNat).length then ([], 4) else (prp p kd x n.toNat, 0)) := rfl
  generalize prpF p kd x n = F at *
  have HOK : Hid (prpE p kd x n = 0 → 0 ≤ n ∧ n ≤ 255) := prpE_ok
  obtain ⟨q, hq⟩ : ∃ q, prpE p kd x n = q := ⟨_, rfl⟩
  rw [hq] at HC HF HOK
  clear hq
  obtain ⟨ad, cap, rfl⟩ := hv.form
  obtain ⟨L, hL⟩ : ∃ L, p.length = L := ⟨_, rfl⟩
  rw [hL] at HC HV ⊢
  have HL := Lib.hid hL
  have HHL := Lib.hid hl
  have HHF := Lib.hid hf
  clear hv hL hl hf
  go_enter Tryz.func29, Tryz.ntmps29
  go_wp2_with fail
  go_at_call 53
  refine HC.out.mono ?_
  rintro e w1 ⟨rfl, hb⟩
  have HB1 := Lib.hid hb
  clear hb HC
  by_cases hq0 : q = 0
  · subst hq0
    obtain ⟨hn1, hn2⟩ := HOK.out rfl
    obtain ⟨m, rfl⟩ := Int.eq_ofNat_of_zero_le hn1
    have hm : m ≤ 255 := by omega
    have HF2 : Hid (F = if 64 < (prp p kd x m).length then ([], 4) else (prp p kd x m, 0)) := by show _ = _; rw [HF.out, if_neg (by simp)]; rfl
    have HDV := Lib.hid (div_any p _ kd w1 (HV.out _ HB1.out) (by have := HHL.out; omega))
    have HT := Lib.hid (take_flat_le p fun s => decide (kd = s.k))
    have HP : Hid (prp p kd x m = seqs kd (prpL p kd x m) ++ p.dropWhile fun s => decide (kd = s.k)) := rfl
    have HPL : Hid (prpL p kd x m = List.replicate m x ++ flat (p.takeWhile fun s => decide (kd = s.k))) := rfl
    generalize prp p kd x m = PR at *
    generalize prpL p kd x m = PL at *
    clear HF HOK hn1 hn2
    go_wp2_with fail
    go_at_call 54
    refine HDV.out.mono ?_
    rintro e w2 ⟨v2, rfl, a1, n1, c1, a2, n2, c2, rfl, h1, h2, hb2⟩
    have HB2 := Lib.hid (below_then HB1.out hb2)
    have HR1 : Hid (∀ W, Below w2.heap.size w2 W → RdS W (.slice a1 n1 c1) (p.takeWhile fun s => decide (kd = s.k))) := fun W hW => h1.below hW
    have HR2 : Hid (∀ W, Below w2.heap.size w2 W → RdS W (.slice a2 n2 c2) (p.dropWhile fun s => decide (kd = s.k))) := fun W hW => h2.below hW
    clear h1 h2 hb2 HDV
    generalize (p.takeWhile fun s => decide (kd = s.k)) = P1 at *
    generalize (p.dropWhile fun s => decide (kd = s.k)) = P2 at *
    have HBa : Hid (Below w2.heap.size w2 (w2.alloc (.cells #[.int .i64 x] 3))) := below_alloc _ _
    have HRP := Lib.hid (repeat_ins x (w2.alloc (.cells #[.int .i64 x] 3)) w2.heap.size m hm (cell_of (heap_alloc_new _ _) rfl) (by simp))
    go_wp2_with fail
    go_at_call 56
    refine HRP.out.mono ?_
    rintro e w3 ⟨v3, rfl, hi3⟩
    have HB3 := Lib.hid (HBa.out.trans (hi3.2.mono HBa.out.size))
    have HI3 := Lib.hid hi3
    have HFL := Lib.hid (flat_any P1 _ w3 (HR1.out _ HB3.out) (by have := HT.out.1; have := HHF.out; omega))
    clear hi3 HRP
    go_wp2_with fail
    go_at_call 27
    refine HFL.out.mono ?_
    rintro e w4 ⟨v4, rfl, hi4⟩
    have HB4 := Lib.hid (HB3.out.trans (hi4.2.mono HB3.out.size))
    have hr3 : RdI w4 v3 (List.replicate m x) := HI3.out.1.rd.below hi4.2
    have HRL := Lib.hid (rdl_two (t := 34) hr3 hi4.1.rd w4.heap.size rfl)
    have HCC := Lib.hid (concat_any [List.replicate m x, flat P1] _ _ HRL.out (by simp) (by have := HT.out.1; have := HHF.out; simp; omega))
    have HB5 : Hid (Below w2.heap.size w2 (w4.alloc (.cells #[v3, v4] 34))) := HB4.out.trans ((below_alloc _ _).mono HB4.out.size)
    obtain ⟨a3, c3, hf3⟩ := hr3.form
    obtain ⟨a4, c4, hf4⟩ := hi4.1.rd.form
    subst hf3 hf4
    rw [List.length_replicate] at HRL HCC HB5
    clear hi4 HFL hr3
    go_wp2_with fail
    go_at_call 55
    refine HCC.out.mono ?_
    rintro e w5 ⟨v5, rfl, hi5⟩
    have e5 : [List.replicate m x, flat P1].flatten = PL := by rw [HPL.out]; simp
    rw [e5] at hi5
    have HB6 := Lib.hid (HB5.out.trans (hi5.2.mono HB5.out.size))
    have hPL : PL.length ≤ 2000000 := by rw [HPL.out, List.length_append, List.length_replicate]; have := HT.out.1; have := HHF.out; omega
    have HSQ := Lib.hid (seqs_any kd PL v5 w5 hi5.1.rd hPL)
    have hSL : (seqs kd PL).length ≤ 1000000 := Nat.le_trans (seqs_len0 kd _ PL rfl) (by rw [HPL.out, List.length_append, List.length_replicate]; have := HT.out.1; have := HHF.out; omega)
    have HSL := Lib.hid hSL
    clear hi5 HCC HRL e5 hSL hPL
    go_wp2_with fail
    go_at_call 57
    refine HSQ.out.mono ?_
    rintro e w6 ⟨v6, rfl, ho6, hb6⟩
    have HB7 := Lib.hid (HB6.out.trans (hb6.mono HB6.out.size))
    have HDU := Lib.hid (dup_any P2 _ w6 (by have := HT.out.2.2.1; have := HHL.out; omega) (by have := HT.out.2.2.2; have := HHF.out; omega) (HR2.out _ HB7.out))
    have HO6 := Lib.hid ho6
    clear ho6 hb6 HSQ
    go_wp2_with fail
    go_at_call 49
    refine HDU.out.mono ?_
    rintro e w7 ⟨v7, rfl, hf7, hb7⟩
    have HB8 := Lib.hid (HB7.out.trans (hb7.mono HB7.out.size))
    have H1 : Hid (OwnP w5.heap.size w7 v6 (seqs kd PL)) := HO6.out.below hb7
    have H2 := Lib.hid hf7
    have H3 : Hid (∀ g, v6.ownBlock = some g → g < w6.heap.size) := fun g hg => by
      rcases HO6.out.2 with ⟨e, _⟩ | ⟨g', cap', q', e, ho, _⟩
      · rw [e] at hg; cases hg
      · rw [e] at hg; cases hg; exact (ownsRow_lt (HO6.out.2.elim (fun h => by rw [e] at h; cases h.1) (fun _ => e ▸ ho))).2
    have H4 : Hid ((seqs kd PL).length + P2.length ≤ 2000000) := by have := HSL.out; have := HT.out.2.2.1; have := HHL.out; show _ ≤ _; omega
    have H5 : Hid (w5.heap.size ≤ w7.heap.size) := H1.out.1
    have H6 : Hid (w2.heap.size ≤ w5.heap.size) := HB6.out.size
    clear hf7 hb7 HDU
    obtain ⟨NN, hNN⟩ : ∃ NN, (seqs kd PL ++ P2).length = NN := ⟨_, rfl⟩
    have HNN := Lib.hid hNN
    have HB2' := Lib.hid (fun (W : World) (hW : Below w2.heap.size w2 W) => HB2.out.trans (hW.mono HB2.out.size))
    have HPP : Hid (PR = seqs kd PL ++ P2) := HP.out
    have HF3 : Hid (F = if 64 < NN then ([], 4) else (PR, 0)) := by show _ = _; rw [HF2.out, HPP.out, HNN.out]
    clear hNN HB1 HR1 HR2 HB3 HB4 HB5 HB6 HB7 HF2 HP HI3 HO6 HSL
    by_cases h64 : 64 < NN
    · have k1 : decide ((64 : Int) < (NN : Int)) = true := decide_eq_true (by omega)
      have HQ : Hid (F = ([], 4)) := by show _ = _; rw [HF3.out, if_pos h64]
      clear HF3
      go_wp2_with (at_builtin; refine append_segs rfl (.tmp 39) (.tmp 41) rfl w5.heap.size H5.out v6 (seqs kd PL) rfl H1.out v7 P2 rfl w6.heap.size H2.out H3.out H4.out ?_; intro v8 w8 ho8 hb8; obtain ⟨a8, c8, hf8⟩ := ho8.rd.form; rw [HNN.out] at hf8; subst hf8; have HO8 := Lib.hid ho8; have HB9 : Hid (Below w2.heap.size w2 w8) := HB8.out.trans (hb8.mono H6.out); clear ho8 hb8)
      go_ret2
      exact ⟨_, by rw [HQ.out] <;> rfl, by rw [HQ.out]; exact rds_nil _, HB2'.out _ HB9.out⟩
    · have k1 : decide ((64 : Int) < (NN : Int)) = false := decide_eq_false (by omega)
      have HQ : Hid (F = (PR, 0)) := by show _ = _; rw [HF3.out, if_neg h64]
      clear HF3
      go_wp2_with (at_builtin; refine append_segs rfl (.tmp 39) (.tmp 41) rfl w5.heap.size H5.out v6 (seqs kd PL) rfl H1.out v7 P2 rfl w6.heap.size H2.out H3.out H4.out ?_; intro v8 w8 ho8 hb8; obtain ⟨a8, c8, hf8⟩ := ho8.rd.form; rw [HNN.out] at hf8; subst hf8; have HO8 := Lib.hid ho8; have HB9 : Hid (Below w2.heap.size w2 w8) := HB8.out.trans (hb8.mono H6.out); clear ho8 hb8)
      go_ret2
      exact ⟨_, by rw [HQ.out] <;> rfl, by rw [HQ.out, HPP.out]; exact HO8.out.rd, HB2'.out _ HB9.out⟩
  · have HQ : Hid (F = ([], q)) := by show _ = _; rw [HF.out, if_pos hq0]
    have e1 : (q != 0) = true := by simpa using hq0
    clear HF HOK hq0
    go_wp2
    go_ret2
    exact ⟨_, by rw [HQ.out] <;> rfl, by rw [HQ.out]; exact rds_nil _, HB1.out⟩
end Go.Proofs.YtiobfgcpbihbhaaGreatDoor
