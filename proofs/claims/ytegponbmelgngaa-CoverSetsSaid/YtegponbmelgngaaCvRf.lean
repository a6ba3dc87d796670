/-
  The reference's Union, Is, Count and Summary.
-/
import Derived.Test.YtegponbmelgngaaCvMg
import Derived.Test.YtegponbmelgngaaCvK
import Derived.Test.YtegponbmelgngaaCvI
import Derived.Test.YtegponbmelgngaaCvZ
import Derived.Test.YtegponbmelgngaaCvJ
import Derived.Test.YtegponbmelgngaaCvM
import Derived.Test.YtegponbmelgngaaCvS2
import Derived.Laws.AppendOwnNone
namespace Go.Proofs.Ytegponbmelgngaa
open Go.RowKit
set_option linter.unusedSimpArgs false
set_option linter.unusedVariables false
set_option maxHeartbeats 4000000
set_option maxRecDepth 100000

theorem rd_none {w : World} {n cap : Nat} {l : List PP} (h : Rd w (.slice none n cap) l) : l = [] := by
  obtain ⟨ad, c, e, hc⟩ := h
  cases e
  cases l with
  | nil => rfl
  | cons x r => obtain ⟨b, off, h, _⟩ := hc 0 x rfl; cases h
theorem rd_cells {w : World} {A : Addr} {n cap : Nat} {l : List PP} (h : Rd w (.slice (some A) n cap) l) : n = l.length ∧ ∀ j u, (flat l)[j]? = some u → w.cell? (A.add j) = some u := by
  obtain ⟨ad, c, e, hc⟩ := h
  cases e
  refine ⟨rfl, flat_cells l w A fun k x hk => ?_⟩
  obtain ⟨b, off, h, _, h0, h1⟩ := hc k x hk
  obtain rfl := Option.some.inj h
  exact ⟨by rw [Addr.add_lit]; exact h0, by rw [Addr.add_lit, ← Nat.add_assoc]; exact h1⟩
/-- a nil slice has no capacity -/
def NilOK (v : Value) : Prop := ∀ n c, v = .slice none n c → c = 0
theorem runion_any (a b : List PP) (v1 v2 : Value) (w : World) (ha : a.length ≤ 60) (hb : b.length ≤ 60) (fa : FitL a) (fb : FitL b) (hr1 : Rd w v1 a) (hr2 : Rd w v2 b) (hn2 : NilOK v2) :
    Calls Try.prog 28 #[v1, v2] w fun e w' => ∃ v B, e = .returned v ∧ CM.Nrm (fun y => (mem a y || mem b y)) B ∧ Rd w' v (B.map pfx) ∧ Below w.heap.size w w' := by
  obtain ⟨i0, hi, hz0, hz1, hz2⟩ := infoP_parts info28
  have HN : Hid (∀ v W, Below w.heap.size w W → Rd W v (a ++ b) → Calls Try.prog 22 #[v] W fun e w' => ∃ v B, e = .returned v ∧ CM.Nrm (fun y => (mem a y || mem b y)) B ∧ Rd w' v (B.map pfx) ∧ Below w.heap.size w w') := fun v W hW hr => by
    refine (rnorm_any merged_any (a ++ b) v W (by unfold Big; simp; omega) (fun x hx => (List.mem_append.1 hx).elim (fa x) (fb x)) hr).mono ?_
    rintro e w' ⟨v', B, rfl, hN, hr', hb'⟩
    have e1 : mem (a ++ b) = fun y => (mem a y || mem b y) := funext fun y => by unfold mem; rw [List.any_append]
    rw [e1] at hN
    exact ⟨v', B, rfl, hN, hr', below_then hW hb'⟩
  obtain ⟨ad1, cap1, rfl⟩ := rdP_slice hr1
  obtain ⟨ad2, cap2, rfl⟩ := rdP_slice hr2
  cases ad1 with
  | none =>
    obtain rfl := rd_none hr1
    cases ad2 with
    | none =>
      obtain rfl := rd_none hr2
      have HN2 := Lib.hid (HN.out (.slice none 0 0) w (Below.refl _ _) (rd_nil w))
      clear hr1 hr2
      go_enter Try.func28, Try.ntmps28
      go_wp2_with (go_at_call 22; refine HN2.out.mono ?_; rintro e w1 ⟨v, B, rfl, h1, h2, h3⟩; have K := Lib.hid (And.intro h1 (And.intro h2 h3)); clear h1 h2 h3)
      go_ret
      exact ⟨_, B, rfl, K.out⟩
    | some A2 =>
      obtain ⟨_, hc2⟩ := rd_cells hr2
      have HC2 := Lib.hid hc2
      clear hr1 hr2 hc2
      go_enter Try.func28, Try.ntmps28
      go_wp2_with (at_builtin; refine wpList_append_own _ rfl (.tmp 9) (.tmp 10) 22 rfl w.heap.size 28 i0 (.agg #[.int .u32 0, .int .i64 0]) 2 16 Try.underlying22 hi hz0 hz1 hz2 rfl (by decide) (.slice none 0 0) 0 [] rfl (World.ownsRow_nil _ _ _ _) A2 b.length cap2 (flat b) rfl (flat_len b) HC2.out (flat_one b) (by unfold maxLen; omega) (by omega) (Nat.le_refl _) ?_; intro v' w1 hown hgrow hnil)
      have B1 : Hid (Below w.heap.size w w1) := (Below.refl _ w).grown hgrow (Nat.le_refl _) (fun k hk => by simp [Value.ownBlock] at hk)
      have HN2 := Lib.hid (HN.out v' w1 B1.out (rd_own (B := w.heap.size) (l := [] ++ b) (by simpa using hown)))
      clear hown hgrow hnil
      refine HN2.out.mono ?_
      rintro e w2 ⟨v, B, rfl, h1, h2, h3⟩
      have K := Lib.hid (And.intro h1 (And.intro h2 h3))
      clear h1 h2 h3
      go_wp2
      go_ret
      exact ⟨_, B, rfl, K.out⟩
  | some A1 =>
    obtain ⟨_, hc1⟩ := rd_cells hr1
    have HC1 := Lib.hid hc1
    cases ad2 with
    | none =>
      obtain rfl := rd_none hr2
      obtain rfl := hn2 _ _ rfl
      clear hc1 hr1 hr2 hn2
      go_enter Try.func28, Try.ntmps28
      go_wp2_with (first
        | (at_builtin; refine wpList_append_own _ rfl (.tmp 6) (.tmp 7) 22 rfl w.heap.size 28 i0 (.agg #[.int .u32 0, .int .i64 0]) 2 16 Try.underlying22 hi hz0 hz1 hz2 rfl (by decide) (.slice none 0 0) 0 [] rfl (World.ownsRow_nil _ _ _ _) A1 a.length cap1 (flat a) rfl (flat_len a) HC1.out (flat_one a) (by unfold maxLen; omega) (by omega) (Nat.le_refl _) ?_; intro v' w1 hown hgrow hnil; have R1 := Lib.hid hown; have B1 : Hid (Below w.heap.size w w1) := (Below.refl _ w).grown hgrow (Nat.le_refl _) (fun k hk => by simp [Value.ownBlock] at hk); clear hown hgrow hnil)
        | (at_builtin; refine wpList_append_own_none rfl (.tmp 9) (.tmp 10) 22 rfl w.heap.size 28 i0 2 Try.underlying22 hi v' (0 + a.length) ([] ++ flat a) rfl R1.out rfl ?_))
      have HN2 := Lib.hid (HN.out v' w1 B1.out (rd_own (B := w.heap.size) (l := a ++ []) (by have := R1.out; simpa using this)))
      refine HN2.out.mono ?_
      rintro e w2 ⟨v, B, rfl, h1, h2, h3⟩
      have K := Lib.hid (And.intro h1 (And.intro h2 h3))
      clear h1 h2 h3
      go_wp2
      go_ret
      exact ⟨_, B, rfl, K.out⟩
    | some A2 =>
      obtain ⟨_, hc2⟩ := rd_cells hr2
      have HC2 := Lib.hid hc2
      clear hc1 hc2 hr1 hr2
      go_enter Try.func28, Try.ntmps28
      go_wp2_with (first
        | (at_builtin; refine wpList_append_own _ rfl (.tmp 6) (.tmp 7) 22 rfl w.heap.size 28 i0 (.agg #[.int .u32 0, .int .i64 0]) 2 16 Try.underlying22 hi hz0 hz1 hz2 rfl (by decide) (.slice none 0 0) 0 [] rfl (World.ownsRow_nil _ _ _ _) A1 a.length cap1 (flat a) rfl (flat_len a) HC1.out (flat_one a) (by unfold maxLen; omega) (by omega) (Nat.le_refl _) ?_; intro v' w1 hown hgrow hnil; have R1 := Lib.hid hown; have B1 : Hid (Below w.heap.size w w1) := (Below.refl _ w).grown hgrow (Nat.le_refl _) (fun k hk => by simp [Value.ownBlock] at hk); have C2 : Hid (∀ j u, (flat b)[j]? = some u → w1.cell? (A2.add j) = some u) := (fun j u hj => carry B1.out (HC2.out j u hj)); clear hown hgrow hnil)
        | (at_builtin; refine wpList_append_own _ rfl (.tmp 9) (.tmp 10) 22 rfl w.heap.size 28 i0 (.agg #[.int .u32 0, .int .i64 0]) 2 16 Try.underlying22 hi hz0 hz1 hz2 rfl (by decide) v' (0 + a.length) ([] ++ flat a) rfl R1.out A2 b.length cap2 (flat b) rfl (flat_len b) C2.out (flat_one b) (by unfold maxLen; omega) (by omega) B1.out.size ?_; intro v'' w2 hown hgrow hnil; have R2 := Lib.hid hown; have B2 : Hid (Below w.heap.size w w2) := B1.out.grown hgrow B1.out.size (fun k hk => (ownP_lt R1.out hk).1); clear hown hgrow hnil))
      have HN2 := Lib.hid (HN.out v'' w2 B2.out (rd_own (B := w.heap.size) (l := a ++ b) (by have := R2.out; rw [List.length_append]; unfold flat at this ⊢; simpa using this)))
      refine HN2.out.mono ?_
      rintro e w3 ⟨v, B, rfl, h1, h2, h3⟩
      have K := Lib.hid (And.intro h1 (And.intro h2 h3))
      clear h1 h2 h3
      go_wp2
      go_ret
      exact ⟨_, B, rfl, K.out⟩
theorem ris_any (a : List PP) (v1 : Value) (w : World) (ha : Big a) (fa : FitL a) (hr1 : Rd w v1 a) :
    Calls Try.prog 24 #[v1] w fun e w' => ∃ B, e = .returned (.bool (decide (a = B.map pfx))) ∧ CM.Nrm (mem a) B ∧ Below w.heap.size w w' := by
  have HN := Lib.hid (rnorm_any merged_any a v1 w ha fa hr1)
  have HS : Hid (∀ (v : Value) (B : List (Nat × Nat)) (W : World), Below w.heap.size w W → Rd W v (B.map pfx) → Calls Try.prog 20 #[v1, v] W fun e w' => e = .returned (.bool (decide (a = B.map pfx))) ∧ Below W.heap.size W w') := fun v B W hW hr => sameP_any a _ v1 v W ha (hr1.below hW) hr
  clear hr1 fa ha
  go_enter Try.func24, Try.ntmps24
  go_wp2_with fail
  go_at_call 22
  refine HN.out.mono ?_
  rintro e w1 ⟨v, B, rfl, h1, h2, h3⟩
  have K := Lib.hid (And.intro h1 h3)
  have HS2 := Lib.hid (HS.out v B w1 h3 h2)
  clear h1 h2 h3
  go_wp2_with fail
  go_at_call 20
  refine HS2.out.mono ?_
  rintro e w2 ⟨rfl, hb2⟩
  have B2 := Lib.hid hb2
  clear hb2
  go_wp2
  go_ret
  exact ⟨B, rfl, K.out.1, below_then K.out.2 B2.out⟩
def sumI (l : List (Nat × Nat)) : Nat := (l.map fun x => x.2 - x.1).sum
theorem sumI_snoc (l : List (Nat × Nat)) (x : Nat × Nat) : sumI (l ++ [x]) = sumI l + (x.2 - x.1) := by unfold sumI; simp
theorem sumI_take (l : List (Nat × Nat)) (k : Nat) : sumI (l.take k) ≤ sumI l := by
  have h : l = l.take k ++ l.drop k := (List.take_append_drop k l).symm
  have : sumI l = sumI (l.take k) + sumI (l.drop k) := by
    conv => lhs; rw [h]
    unfold sumI; rw [List.map_append, List.sum_append]
  omega
theorem sep_cnt {S : Nat → Bool} {l : List (Nat × Nat)} (h : CM.Sep S l) (hh : ∀ x ∈ l, x.2 ≤ 4294967296) : CM.cnt S 4294967296 = sumI l := by
  have := CM.cnt_ivs (S := S) (l := l) (lo := 0) (N := 4294967296) (h.asc.imp fun h => Nat.le_of_lt h) (fun x hx => ⟨Nat.zero_le _, Nat.le_of_lt (h.ne x hx), hh x hx⟩) (fun x hx y h1 h2 => (h.mem y).2 ⟨x, hx, h1, h2⟩) (fun y _ _ hy => (h.mem y).1 hy) (Nat.zero_le _)
  rw [this]
  have e : CM.cnt S 0 = 0 := by have := CM.cnt_le S 0; omega
  rw [e, Nat.zero_add]; rfl
theorem rcount_any (a : List PP) (v1 : Value) (w : World) (ha : Big a) (fa : FitL a) (hr1 : Rd w v1 a) :
    Calls Try.prog 26 #[v1] w fun e w' => e = .returned (.int .u64 (many a : Nat)) ∧ Below w.heap.size w w' := by
  have H1 := Lib.hid (spans_any merged_any a v1 w ha fa hr1)
  unfold Big at ha
  clear hr1 fa
  go_enter Try.func26, Try.ntmps26
  go_wp2_with fail
  go_at_call 63
  refine H1.out.mono ?_
  rintro e w1 ⟨u1, O, rfl, s1, h1, l1, r1, hb1⟩
  obtain ⟨ad, cap, rfl, hc⟩ := r1
  have HC := Lib.hid hc
  have HO := Lib.hid (And.intro s1 h1)
  have HM : Hid (many a = sumI O) := sep_cnt s1 h1
  have hml := many_le a
  have B1 := Lib.hid hb1
  have hOl : O.length ≤ 4294967296 := by omega
  clear hc s1 h1 hb1 H1
  go_wp2_with fail
  go_loopg [9, 3, 5] O.length (fun g s9 s3 s5 wr => ∃ k c : Nat, k ≤ O.length ∧ O.length - k ≤ g ∧ s9 = .int .i64 (k : Int) ∧ s3 = .int .u64 (c : Int) ∧ c ≤ 4294967296 ∧ (∃ v, v = s5) ∧ Hid (c = sumI (O.take k) ∧ Below w1.heap.size w1 wr))
  case atStart => exact ⟨0, 0, by omega, by omega, rfl, rfl, by omega, ⟨_, rfl⟩, rfl, Below.refl _ _⟩
  case round =>
    obtain ⟨k, c, hk, hkg, rfl, rfl, hcl, ⟨v5, rfl⟩, HK⟩ := hrel
    by_cases hlt : k < O.length
    · obtain ⟨x, hx⟩ : ∃ x, O[k]? = some x := ⟨_, List.getElem?_eq_getElem hlt⟩
      obtain ⟨blk, off, rfl, hblk, hc0, hc1⟩ := HC.out k x hx
      have f0 := carryB HK.out.2 hblk hc0
      have f1 := carryB HK.out.2 hblk hc1
      have hm := List.mem_of_getElem? hx
      have hxn := HO.out.1.ne x hm
      have hxh := HO.out.2 x hm
      have hsn : sumI (O.take (k + 1)) = c + (x.2 - x.1) := by rw [take_snocQ hx, sumI_snoc, ← HK.out.1]
      have hle := sumI_take O (k + 1)
      rw [← HM.out, hsn] at hle
      have HSN := Lib.hid hsn
      have HB := Lib.hid HK.out.2
      obtain ⟨lo, hi⟩ := x
      dsimp only at f0 f1 hxn hxh hle HSN
      have k0 : (0 : Int) ≤ (k : Int) := by omega
      clear hx hc0 hc1 hm hsn HK
      have hd0 : (0 : Int) ≤ (hi : Int) - (lo : Int) := by omega
      have hd1 : (hi : Int) - (lo : Int) ≤ 4294967296 := by omega
      have hd2 : (c : Int) + ((hi : Int) - (lo : Int)) ≤ 4294967296 := by omega
      go_wp2
      go_roundg (O.length - (k + 1))
      case measure => omega
      case rel => exact ⟨k + 1, c + (hi - lo), by omega, Nat.le_refl _, by go_num, by rw [show ((c + (hi - lo) : Nat) : Int) = (c : Int) + ((hi : Int) - (lo : Int)) by omega], by omega, ⟨_, rfl⟩, HSN.out.symm, HB.out.alloc HB.out.size _⟩
    · have HE : Hid (c = many a) := by
        have := HK.out.1
        rw [List.take_of_length_le (by omega), ← HM.out] at this
        exact this
      go_wp2
      go_ret
      exact ⟨by rw [HE.out]; rfl, below_then B1.out HK.out.2⟩
end Go.Proofs.Ytegponbmelgngaa
