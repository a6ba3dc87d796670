/-
  Proved: for every slice of bytes and every typed field the law FieldTLVs returns true (PutTLV and TLVs are as the reference describes, and the examples hold); the row lists five library tables, tied by the card; the arguments hold together at most 1048576 values and letters.
-/
import Derived.Test.YthoonegckifiaaaDoorFrame
import Derived.Test.YthoonegckifiaaaDoorOpen
namespace Go.Proofs.YthoonegckifiaaaDoor.fieldTLVs
open Go.ChangeShapes Go.WideShapes Go.ChangeAt Go.RowKit
set_option linter.unusedSimpArgs false
set_option linter.unusedVariables false
set_option maxHeartbeats 4000000
set_option maxRecDepth 100000

theorem tlvF_len : ∀ (n : Nat) (b : List Nat) (ts : List (Nat × List Nat)), tlvF n b = some ts → ts.length ≤ b.length ∧ ∀ t ∈ ts, t.2.length ≤ b.length := by
  intro n
  induction n with
  | zero =>
    intro b ts h
    cases b with
    | nil => simp [tlvF] at h; subst h; simp
    | cons x r => simp [tlvF] at h
  | succ n ih =>
    intro b ts h
    match b with
    | [] => simp [tlvF] at h; subst h; simp
    | [_] => simp [tlvF] at h
    | [_, _] => simp [tlvF] at h
    | k :: x :: y :: r =>
      simp only [tlvF] at h
      split at h
      · cases h
      · obtain ⟨us, hu, rfl⟩ := Option.map_eq_some_iff.1 h
        obtain ⟨h1, h2⟩ := ih _ _ hu
        rw [List.length_drop] at h1 h2
        refine ⟨by simp; omega, fun t ht => ?_⟩
        rcases List.mem_cons.1 ht with rfl | ht
        · simp [List.length_take]; omega
        · have := h2 t ht; simp; omega
theorem walk (l0 : List Nat) (v0 : Value) (a1 : Int) (l1 : List Nat) (v1 : Value) (w : World) (hT : Tab w) (hl0 : l0.length ≤ 1048576) (hr0 : Rd w v0 l0) (h1 : I64 a1) (hl1 : l1.length ≤ 1048576) (hr1 : Rd w v1 l1) :
    Calls Tryd.prog 5 #[v0, .agg #[.int .i64 a1, v1]] w fun e w' => e = .returned (.bool true) ∧ Below w.heap.size w w' := by
  have HT := Lib.hid hT
  obtain ⟨R, er, hRl, hp, hrp⟩ : ∃ (R : List Nat) (er : Int), R.length ≤ 140737489403904 ∧ (∀ W, Below w.heap.size w W → Calls Tryd.prog 20 #[v0, .agg #[.int .i64 a1, v1]] W fun e w' => ∃ v', e = .returned (.tuple #[v', .int .i64 er]) ∧ Rd w' v' R ∧ Below W.heap.size W w') ∧
      (∀ W, Below w.heap.size w W → Calls Tryd.prog 21 #[v0, .agg #[.int .i64 a1, v1]] W fun e w' => ∃ v', e = .returned (.tuple #[v', .int .i64 er]) ∧ Rd w' v' R ∧ Below W.heap.size W w') := by
    by_cases hk : a1 < 0 ∨ 255 < a1
    · exact ⟨[], 5, by simp, fun W hW => (puttlv_kind l0 v0 a1 l1 v1 W h1 (hr0.below hW) (hr1.below hW) hk).mono fun e w' ⟨he, hb⟩ => ⟨_, he, rd_nil _, hb⟩,
        fun W hW => (rputtlv_kind l0 v0 a1 l1 v1 W h1 (hr0.below hW) (hr1.below hW) hk).mono fun e w' ⟨he, hb⟩ => ⟨_, he, rd_nil _, hb⟩⟩
    · obtain ⟨k, rfl⟩ := Int.eq_ofNat_of_zero_le (show 0 ≤ a1 by omega)
      by_cases hlg : 65535 < l1.length
      · exact ⟨[], 4, by simp, fun W hW => (puttlv_long l0 v0 k l1 v1 W (by omega) (hr0.below hW) (hr1.below hW) hlg (by omega)).mono fun e w' ⟨he, hb⟩ => ⟨_, he, rd_nil _, hb⟩,
          fun W hW => (rputtlv_long l0 v0 k l1 v1 W (by omega) (hr0.below hW) (hr1.below hW) hlg (by omega)).mono fun e w' ⟨he, hb⟩ => ⟨_, he, rd_nil _, hb⟩⟩
      · have hbb : Bytes (l0 ++ encT (k, l1)) := hr0.bytes.app (enc_bytes (by omega) (by omega) hr1.bytes)
        refine ⟨l0 ++ encT (k, l1), 0, by rw [List.length_append, encT_len]; simp only; omega, fun W hW => (puttlv_yes l0 v0 k l1 v1 W (by omega) (hr0.below hW) (hr1.below hW) (by omega) (by omega)).mono fun e w' ⟨v', he, ho, hb⟩ => ⟨v', he, rd_own ho hbb, hb⟩,
          fun W hW => (rputtlv_yes l0 v0 k l1 v1 W (by omega) (hr0.below hW) (hr1.below hW) (by omega) (by omega)).mono fun e w' ⟨v', he, ho, hb⟩ => ⟨v', he, rd_own ho hbb, hb⟩⟩
  obtain ⟨ts, es, hts, htl, hq, hrq⟩ : ∃ (ts : List TV) (es : Int), ts.length ≤ 140737489403904 ∧ (∀ t ∈ ts, t.2.length ≤ 140737489403904) ∧ (∀ W, Below w.heap.size w W → Calls Tryd.prog 22 #[v0] W fun e w' => ∃ v', e = .returned (.tuple #[v', .int .i64 es]) ∧ RdT w' v' ts ∧ Below W.heap.size W w') ∧
      (∀ W, Below w.heap.size w W → Calls Tryd.prog 23 #[v0] W fun e w' => ∃ v', e = .returned (.tuple #[v', .int .i64 es]) ∧ RdT w' v' ts ∧ Below W.heap.size W w') := by
    cases ht : tlvs l0 with
    | none =>
      have key : ∀ (W : World) (e : Ending) (w' : World), TlvPost l0 W e w' → ∃ v', e = .returned (.tuple #[v', .int .i64 3]) ∧ RdT w' v' [] ∧ Below W.heap.size W w' := fun W e w' h => by
        rcases h with ⟨⟨_, h⟩ | ⟨ts, v, h, _⟩, hb⟩
        · exact ⟨_, h, rdt_nil _, hb⟩
        · rw [ht] at h; cases h
      exact ⟨[], 3, by simp, by simp, fun W hW => (tlvs_any l0 v0 W hl0 (hr0.below hW)).mono (key W), fun W hW => (rtlvs_any l0 v0 W hl0 (hr0.below hW)).mono (key W)⟩
    | some ts =>
      have key : ∀ (W : World) (e : Ending) (w' : World), TlvPost l0 W e w' → ∃ v', e = .returned (.tuple #[v', .int .i64 0]) ∧ RdT w' v' (ts.map toI) ∧ Below W.heap.size W w' := fun W e w' h => by
        rcases h with ⟨⟨h, _⟩ | ⟨ts', v, h, he, hr⟩, hb⟩
        · rw [ht] at h; cases h
        · rw [ht] at h; obtain rfl := Option.some.inj h; exact ⟨v, he, hr, hb⟩
      obtain ⟨hn1, hn2⟩ := tlvF_len _ _ _ ht
      refine ⟨ts.map toI, 0, by rw [List.length_map]; omega, fun t hm => ?_, fun W hW => (tlvs_any l0 v0 W hl0 (hr0.below hW)).mono (key W), fun W hW => (rtlvs_any l0 v0 W hl0 (hr0.below hW)).mono (key W)⟩
      obtain ⟨t', ht', rfl⟩ := List.mem_map.1 hm
      have := hn2 t' ht'
      simp only [toI]; omega
  have HP := Lib.hid hp
  have HRP := Lib.hid hrp
  have HQ := Lib.hid hq
  have HRQ := Lib.hid hrq
  have HRL := Lib.hid hRl
  have HTS := Lib.hid (And.intro hts htl)
  have HB0 := Lib.hid ((Below.refl w.heap.size w).alloc (Nat.le_refl _) (.cells #[.int .i64 a1, v1] 36))
  have hz0 : (w.alloc (.cells #[.int .i64 a1, v1] 36)).heap.size = w.heap.size + 1 := by simp
  have HBK : Hid (Blk (w.alloc (.cells #[.int .i64 a1, v1] 36)) w.heap.size 36 #[.int .i64 a1, v1]) := Blk.new _ _ _
  obtain ⟨ad, cap, rfl, _⟩ := hr0
  obtain ⟨ad1, cap1, rfl, _⟩ := hr1
  have HZ := Lib.hid hz0
  have HCC : Hid (∀ W, Below (w.heap.size + 1) (w.alloc (.cells #[.int .i64 a1, .slice ad1 l1.length cap1] 36)) W → W.cell? ⟨w.heap.size, 0, none⟩ = some (.int .i64 a1) ∧ W.cell? ⟨w.heap.size, 1, none⟩ = some (.slice ad1 l1.length cap1)) := fun W hW => by
    have h := HBK.out.below hW (Nat.lt_succ_self _)
    have h0 := h.cell 0
    have h1 := h.cell 1
    simp at h0 h1
    exact ⟨h0, h1⟩
  have HCH : Hid (∀ W, Below (w.heap.size + 1) (w.alloc (.cells #[.int .i64 a1, .slice ad1 l1.length cap1] 36)) W → Below w.heap.size w W) := fun W hW => HB0.out.trans (hW.mono (Nat.le_succ _))
  clear hT hp hrp hq hrq hRl hts htl hz0
  go_enter Tryd.func5, Tryd.ntmps5
  go_wp2_with (first
    | (go_at_call 20; refine (HP.out _ HB0.out).mono ?_; rintro e w1 ⟨v2, rfl, hr, hb⟩; rw [HZ.out] at hb; have X1 := Lib.hid (And.intro hr hb); clear hr hb; have e1 := (HCC.out _ X1.out.2).1; have e2 := (HCC.out _ X1.out.2).2)
    | (go_at_call 21; refine (HRP.out _ (HCH.out _ X1.out.2)).mono ?_; rintro e w2 ⟨v3, rfl, hr, hb⟩; have X2 := Lib.hid (And.intro (X1.out.1.below hb) (And.intro hr (X1.out.2.trans (hb.mono (Nat.le_trans (Nat.le_of_eq HZ.out.symm) X1.out.2.size))))); clear hr hb e1 e2)
    | (go_at_call 22; refine (HQ.out _ (HCH.out _ X2.out.2.2)).mono ?_; rintro e w3 ⟨v4, rfl, hr, hb⟩; have X3 := Lib.hid (And.intro (X2.out.1.below hb) (And.intro (X2.out.2.1.below hb) (And.intro hr ((HCH.out _ X2.out.2.2).trans (hb.mono (HCH.out _ X2.out.2.2).size))))); clear hr hb)
    | (go_at_call 23; refine (HRQ.out _ X3.out.2.2.2).mono ?_; rintro e w4 ⟨v5, rfl, hr, hb⟩; have X4 := Lib.hid (And.intro (X3.out.1.below hb) (And.intro (X3.out.2.1.below hb) (And.intro (X3.out.2.2.1.below hb) (And.intro hr (X3.out.2.2.2.trans (hb.mono X3.out.2.2.2.size)))))); clear hr hb)
    | (go_at_call 12; refine (awake_any _ (tab_below HT.out X4.out.2.2.2.2)).mono ?_; rintro e w5 ⟨rfl, hb⟩; have X5 := Lib.hid (And.intro (X4.out.1.below hb) (And.intro (X4.out.2.1.below hb) (And.intro (X4.out.2.2.1.below hb) (And.intro (X4.out.2.2.2.1.below hb) (X4.out.2.2.2.2.trans (hb.mono X4.out.2.2.2.2.size)))))); clear hb)
    | (go_at_call 13; refine (same_yes R _ _ _ HRL.out X5.out.1 X5.out.2.1).mono ?_; rintro e w' ⟨rfl, rfl⟩)
    | (go_at_call 24; refine (samet_yes ts _ _ _ HTS.out.1 HTS.out.2 X5.out.2.2.1 X5.out.2.2.2.1).mono ?_; rintro e w6 ⟨rfl, hb⟩; have X6 := Lib.hid (X5.out.2.2.2.2.trans (hb.mono X5.out.2.2.2.2.size)); clear hb))
  go_ret
  exact ⟨rfl, X6.out⟩

theorem contract (H : Type) (enc : TypeId × Value → H) (W : World) (base : Nat) (args : Array Value) (ds gs : List (DataW H)) (before : List MemPlace)
    (hval : ∀ (j : Nat) t v, Tryd.f5.params[j]? = some t → args[j]? = some v → Value.okWide Tryd.prog W .any base t v)
    (hW : DataW.Whole enc Tryd.prog Tryd.f5.params.toList Rows.fieldTLVsSpec.vars false W args.toList ds gs before)
    (hk : Rows.uptoSmall H (ds ++ gs) = true)
    (hsz : (DataW.weightsEach Tryd.prog (Tryd.f5.params.toList ++ (Rows.OpenSpec.upto Rows.fieldTLVsSpec).bare.plain.varTypes Tryd.prog) (ds ++ gs)).all (· ≤ reachBytes) = true)
    (hL : laidMetH Tryd.prog Rows.fieldTLVsUptoRow.laid W) :
    Calls Tryd.prog 5 args W fun e W' => ∃ v, e = .returned v ∧ Rows.fieldTLVsSpec.post enc Tryd.prog Tryd.f5 false true false false W args v W' := by
  have hT : Tab W := tab_of_laid hL
  have hW' := hW
  obtain ⟨p, q, hA0, hV, rfl, hfz, hnd⟩ := hW
  have hA : DataW.TrodAll enc Tryd.prog W 0 (fun _ => true) true Tryd.f5.params.toList args.toList ds p := hA0
  rw [Tryd.params5] at hA hval hsz
  have HB : ∀ W', Below W.heap.size W W' → DataW.TrodAll enc Tryd.prog W' 0 (fun b => decide (b < W.heap.size)) true Tryd.f5.params.toList args.toList ds p := fun W' hb => by
    rw [Tryd.params5]
    refine trodAll_below hb (fun t ht => ?_) hA (fun x hx => hW'.lt x (by simp [hx]))
    revert t ht
    have hall : ([22, 36] : List TypeId).all (fun t => Tryd.prog.readableRec t && decide (t < Tryd.prog.types.size)) = true := by kernel_rfl
    intro t ht
    have := List.all_eq_true.1 hall t ht
    simpa using this
  obtain ⟨v0, vs0, d0, ds0, p0, q0, hargs, rfl, rfl, h0, r0⟩ := trodAll_cons hA
  obtain ⟨v1, vs1, d1, ds1, p1, q1, rfl, rfl, rfl, h1, r1⟩ := trodAll_cons r0
  obtain ⟨rfl, rfl, rfl⟩ := trodAll_nil r1
  obtain rfl : args = #[v0, v1] := by cases args; simp_all
  obtain ⟨rfl, rfl⟩ := trodVars_none hV
  obtain ⟨l0, hr0, hd0⟩ := open_bytes (hval 0 22 v0 rfl rfl) h0
  have hl0 : l0.length ≤ 1048576 := by
    have hp := bulks.part_le (d := d0) (l := [d0, d1] ++ []) (by simp)
    have hb := bulks.bound hk
    exact Nat.le_trans (bytes_bulk hd0) (Nat.le_trans hp hb)
  obtain ⟨a1, v1x, l1, rfl, hi1, hr1, hd1⟩ := open_tlv (hval 1 36 v1 rfl rfl) h1
  have hl1 : l1.length ≤ 1048576 := by
    have hp := bulks.part_le (d := d1) (l := [d0, d1] ++ []) (by simp)
    have hb := bulks.bound hk
    exact Nat.le_trans hd1 (Nat.le_trans hp hb)
  clear hA0
  simp only [List.append_nil] at hW' HB
  refine (walk l0 v0 a1 l1 v1x W hT hl0 hr0 hi1 hl1 hr1).mono fun e W' ⟨he, hb⟩ => ?_
  subst he
  exact ⟨_, rfl, _, _, _, [], _, [], hW', (trodAll_cons_mk (shut_bool Tryd.underlying4 _) trodAll_mk0), HB W' hb, rfl, hb.frame _, fun h => by cases h⟩
theorem reads (os : Os) {H : Type} (enc : TypeId × Value → H) : ∃ places, DataW.whole enc Tryd.prog ((laidWorld os).forCall (fun _ _ => 0) ⟨#[], #[.slice none 0 0, .agg #[.int .i64 0, .slice none 0 0]], []⟩).memory Tryd.f5.params.toList Rows.fieldTLVsSpec.vars false (#[.slice none 0 0, .agg #[.int .i64 0, .slice none 0 0]] : Array Value).toList 8 = some ([.nil, .agg [.lit (.int .i64 0), .nil]], [], places) :=
  ⟨[], by kernel_rfl⟩
theorem lifted (os : Os) (started : os.Started) (H : Type) (enc : TypeId × Value → H) (F : Stop.Interp) :
    ReturnsInHanded {} Tryd.checked os 5 .any ((Rows.OpenSpec.upto Rows.fieldTLVsSpec).preRow enc Tryd.prog Tryd.f5 Rows.fieldTLVsUptoRow.domain false Rows.fieldTLVsUptoRow.laid) (((Rows.OpenSpec.upto Rows.fieldTLVsSpec).at F).post enc Tryd.prog Tryd.f5 false true false false) := by
  obtain ⟨places, hx⟩ := reads os enc
  refine returnsInHanded_of_row (C := Tryd.checked) (s := (Rows.OpenSpec.upto Rows.fieldTLVsSpec)) own started (by kernel_rfl) Tryd.func5
    (witness_row_at (enc := enc) (C := Tryd.checked) false (laidWorld os) #[.slice none 0 0, .agg #[.int .i64 0, .slice none 0 0]] rfl (by kernel_rfl) (by kernel_rfl) (by kernel_rfl)
      (OpenSpec.preRow_of_cond 8 hx (by kernel_rfl) (fun k hk => by cases hk; kernel_rfl) (by kernel_rfl) (laid_met os _))) ?_
  intro W base args ds gs before hval hW _ hcond hsz hL _ _
  exact contract H enc W base args ds gs before hval hW (hcond _ rfl) hsz hL
theorem said : Rows.FieldTLVsUptoSaid :=
  OpenClaim.holds_of_cond 5 Tryd.f5 rfl rfl rfl rfl rfl rfl rfl ⟨rfl, rfl, rfl, rfl, rfl⟩ rfl rfl rfl rfl rfl (by kernel_rfl) Tryd.func5 (by kernel_rfl)
    (of_decide_eq_true (by kernel_rfl)) (by unfold Func.isWrapper; first | (rw [if_pos (by decide +kernel)]; kernel_rfl) | (rw [if_neg (by decide +kernel)]; exact ⟨rfl, rfl⟩))
    (fun os started H enc _ F => by rw [OpenClaim.pre_eq_preRow]; exact lifted os started H enc F)
theorem plain (f : FuncId) (fn : Func) (hf : Tryd.pinned.checked.prog.funcNamed "routing/routinglaw03.FieldTLVs" = some f) (hfn : Tryd.pinned.checked.prog.funcs[f]? = some fn) :
    false = Tryd.pinned.checked.prog.looks [] ∧ ∀ (j : Nat) t, fn.params[j]? = some t → Tryd.pinned.checked.prog.wantsStandIn t = false := by
  obtain rfl : f = 5 := Option.some.inj ((show Tryd.prog.funcNamed "routing/routinglaw03.FieldTLVs" = some 5 by kernel_rfl).symm.trans hf) |>.symm
  obtain rfl : fn = Tryd.f5 := (Option.some.inj (Tryd.func5.symm.trans hfn)).symm
  refine ⟨by kernel_rfl, fun j t ht => ?_⟩
  rw [Tryd.params5] at ht
  have hm := Array.mem_of_getElem? ht
  have hall : ([22, 36] : List TypeId).all (fun t => !Tryd.prog.wantsStandIn t) = true := by kernel_rfl
  have := List.all_eq_true.1 hall t (by simpa using hm)
  have h2 : Tryd.prog.wantsStandIn t = false := by simpa using this
  exact h2
theorem card : Rows.FieldTLVsUptoCardSaid :=
  Claim7.holds_tied_plain_at .later [] _ _ _ _ said (fun _ h => by cases h) (by kernel_rfl) (fun _ h => by cases h) fieldTLVsUpto_row_tie rfl ⟨rfl, rfl⟩ (by kernel_rfl) rfl plain (by kernel_rfl)
#print axioms card
end Go.Proofs.YthoonegckifiaaaDoor.fieldTLVs
