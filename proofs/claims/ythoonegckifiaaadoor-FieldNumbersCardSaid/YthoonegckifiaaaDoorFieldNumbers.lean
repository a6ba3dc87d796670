/-
  Proved: for every slice of bytes, all integers and every number the law FieldNumbers returns true (Put and Get are as the reference describes, and the examples hold); the row lists five library tables, tied by the card; no other conditions.
-/
import Derived.Test.YthoonegckifiaaaDoorFrame
namespace Go.Proofs.YthoonegckifiaaaDoor.fieldNumbers
open Go.ChangeShapes Go.WideShapes Go.ChangeAt Go.RowKit
set_option linter.unusedSimpArgs false
set_option linter.unusedVariables false
set_option maxHeartbeats 4000000
set_option maxRecDepth 100000

theorem walk (l0 : List Nat) (v0 : Value) (a1 a2 : Int) (x3 : Nat) (w : World) (hT : Tab w) (hl0 : l0.length ≤ 140737488351232) (hr0 : Rd w v0 l0) (h1 : I64 a1) (h2 : I64 a2) (h3 : x3 < 18446744073709551616) :
    Calls Tryd.prog 3 #[v0, .int .i64 a1, .int .i64 a2, .int .u64 x3] w fun e w' => e = .returned (.bool true) ∧ Below w.heap.size w w' := by
  have HR := Lib.hid hr0
  have HT := Lib.hid hT
  obtain ⟨m, hm⟩ : ∃ m : Nat, (m : Int) = min (max a2 0) 8 := ⟨(min (max a2 0) 8).toNat, by omega⟩
  obtain ⟨y, b, hg, hrg⟩ : ∃ (y : Nat) (b : Bool), (∀ W, Below w.heap.size w W → Calls Tryd.prog 10 #[v0, .int .i64 a1, .int .i64 a2] W fun e w' => e = .returned (.tuple #[.int .u64 y, .bool b]) ∧ W = w') ∧
      (∀ W, Below w.heap.size w W → Calls Tryd.prog 11 #[v0, .int .i64 a1, .int .i64 a2] W fun e w' => e = .returned (.tuple #[.int .u64 y, .bool b]) ∧ W = w') := by
    by_cases hin : 0 ≤ a2 ∧ a2 ≤ 8 ∧ 0 ≤ a1 ∧ a1 ≤ (l0.length : Int) - a2
    · obtain ⟨n, rfl⟩ := Int.eq_ofNat_of_zero_le hin.1
      obtain ⟨a, rfl⟩ := Int.eq_ofNat_of_zero_le hin.2.2.1
      exact ⟨_, true, fun W hW => get_yes l0 v0 a n W (by omega) (hr0.below hW) (by omega) (by omega), fun W hW => rget_yes l0 v0 a n W (by omega) (hr0.below hW) (by omega) (by omega)⟩
    · exact ⟨0, false, fun W hW => get_no l0 v0 a1 a2 W (by omega) (hr0.below hW) h1 h2 (by omega), fun W hW => rget_no l0 v0 a1 a2 W (by omega) (hr0.below hW) h1 h2 (by omega)⟩
  have HG := Lib.hid hg
  have HRG := Lib.hid hrg
  have HB : Hid (Bytes (l0 ++ lowB m x3)) := hr0.bytes.app (lowB_bytes _ _)
  have HLN : Hid ((l0 ++ lowB m x3).length ≤ 140737489403904) := by unfold Hid; rw [List.length_append, lowB_len]; omega
  have HP : Hid (∀ W, Below w.heap.size w W → Calls Tryd.prog 14 #[v0, .int .i64 a2, .int .u64 x3] W fun e w' => ∃ v', e = .returned v' ∧ Rd w' v' (l0 ++ lowB m x3) ∧ Below W.heap.size W w') := fun W hW =>
    (put_any l0 v0 a2 x3 m W h3 hm h2 (by omega) (hr0.below hW)).mono fun e w' ⟨v', h1, h2, h3⟩ => ⟨v', h1, rd_own h2 HB.out, h3⟩
  have HRP : Hid (∀ W, Below w.heap.size w W → Calls Tryd.prog 15 #[v0, .int .i64 a2, .int .u64 x3] W fun e w' => ∃ v', e = .returned v' ∧ Rd w' v' (l0 ++ lowB m x3) ∧ Below W.heap.size W w') := fun W hW =>
    (rput_any l0 v0 a2 x3 m W h3 hm h2 (by omega) (hr0.below hW)).mono fun e w' ⟨v', h1, h2, h3⟩ => ⟨v', h1, rd_own h2 HB.out, h3⟩
  obtain ⟨ad, cap, rfl, _⟩ := hr0
  clear hT hg hrg hm
  go_enter Tryd.func3, Tryd.ntmps3
  go_wp2_with (first
    | (go_at_call 10; refine (HG.out _ (Below.refl _ _)).mono ?_; rintro e w' ⟨rfl, rfl⟩)
    | (go_at_call 11; refine (HRG.out _ (Below.refl _ _)).mono ?_; rintro e w' ⟨rfl, rfl⟩)
    | (go_at_call 12; refine (awake_any _ HT.out).mono ?_; rintro e w1 ⟨rfl, hb⟩; have X1 := Lib.hid hb; clear hb)
    | (go_at_call 14; refine (HP.out _ X1.out).mono ?_; rintro e w2 ⟨v2, rfl, hr, hb⟩; have X2 := Lib.hid (And.intro hr (X1.out.trans (hb.mono X1.out.size))); clear hr hb)
    | (go_at_call 15; refine (HRP.out _ X2.out.2).mono ?_; rintro e w3 ⟨v3, rfl, hr, hb⟩; have X3 := Lib.hid (And.intro (X2.out.1.below hb) (And.intro hr (X2.out.2.trans (hb.mono X2.out.2.size)))); clear hr hb)
    | (go_at_call 13; refine (same_yes _ _ _ _ HLN.out X3.out.1 X3.out.2.1).mono ?_; rintro e w' ⟨rfl, rfl⟩))
  go_ret
  exact ⟨rfl, X3.out.2.2⟩

theorem contract (H : Type) (enc : TypeId × Value → H) (W : World) (base : Nat) (args : Array Value) (ds gs : List (DataW H)) (before : List MemPlace)
    (hval : ∀ (j : Nat) t v, Tryd.f3.params[j]? = some t → args[j]? = some v → Value.okWide Tryd.prog W .any base t v)
    (hW : DataW.Whole enc Tryd.prog Tryd.f3.params.toList Rows.fieldNumbersSpec.vars false W args.toList ds gs before)
    (hsz : (DataW.weightsEach Tryd.prog (Tryd.f3.params.toList ++ (OpenSpec.ofChange Rows.fieldNumbersSpec).bare.plain.varTypes Tryd.prog) (ds ++ gs)).all (· ≤ reachBytes) = true)
    (hL : laidMetH Tryd.prog Rows.fieldNumbersRow.laid W) :
    Calls Tryd.prog 3 args W fun e W' => ∃ v, e = .returned v ∧ Rows.fieldNumbersSpec.post enc Tryd.prog Tryd.f3 false true false false W args v W' := by
  have hT : Tab W := tab_of_laid hL
  have hW' := hW
  obtain ⟨p, q, hA0, hV, rfl, hfz, hnd⟩ := hW
  have hA : DataW.TrodAll enc Tryd.prog W 0 (fun _ => true) true Tryd.f3.params.toList args.toList ds p := hA0
  rw [Tryd.params3] at hA hval hsz
  have HB : ∀ W', Below W.heap.size W W' → DataW.TrodAll enc Tryd.prog W' 0 (fun b => decide (b < W.heap.size)) true Tryd.f3.params.toList args.toList ds p := fun W' hb => by
    rw [Tryd.params3]
    refine trodAll_below hb (fun t ht => ?_) hA (fun x hx => hW'.lt x (by simp [hx]))
    revert t ht
    have hall : ([22, 3, 3, 23] : List TypeId).all (fun t => Tryd.prog.readableRec t && decide (t < Tryd.prog.types.size)) = true := by kernel_rfl
    intro t ht
    have := List.all_eq_true.1 hall t ht
    simpa using this
  obtain ⟨v0, vs0, d0, ds0, p0, q0, hargs, rfl, rfl, h0, r0⟩ := trodAll_cons hA
  obtain ⟨v1, vs1, d1, ds1, p1, q1, rfl, rfl, rfl, h1, r1⟩ := trodAll_cons r0
  obtain ⟨v2, vs2, d2, ds2, p2, q2, rfl, rfl, rfl, h2, r2⟩ := trodAll_cons r1
  obtain ⟨v3, vs3, d3, ds3, p3, q3, rfl, rfl, rfl, h3, r3⟩ := trodAll_cons r2
  obtain ⟨rfl, rfl, rfl⟩ := trodAll_nil r3
  obtain rfl : args = #[v0, v1, v2, v3] := by cases args; simp_all
  obtain ⟨rfl, rfl⟩ := trodVars_none hV
  obtain ⟨l0, hr0, hd0⟩ := open_bytes (hval 0 22 v0 rfl rfl) h0
  have hl0 := bytes_len (j := 0) hsz rfl rfl hd0
  obtain ⟨a1, rfl, hi1⟩ := open_i64 (hval 1 3 v1 rfl rfl) h1
  obtain ⟨a2, rfl, hi2⟩ := open_i64 (hval 2 3 v2 rfl rfl) h2
  obtain ⟨x3, rfl, hi3⟩ := open_u64 (hval 3 23 v3 rfl rfl) h3
  clear hA0
  simp only [List.append_nil] at hW' HB
  refine (walk l0 v0 a1 a2 x3 W hT hl0 hr0 hi1 hi2 hi3).mono fun e W' ⟨he, hb⟩ => ?_
  subst he
  exact ⟨_, rfl, _, _, _, [], _, [], hW', (trodAll_cons_mk (shut_bool Tryd.underlying4 _) trodAll_mk0), HB W' hb, rfl, hb.frame _, fun h => by cases h⟩
theorem reads (os : Os) {H : Type} (enc : TypeId × Value → H) : ∃ places, DataW.whole enc Tryd.prog ((laidWorld os).forCall (fun _ _ => 0) ⟨#[], #[.slice none 0 0, .int .i64 0, .int .i64 0, .int .u64 0], []⟩).memory Tryd.f3.params.toList Rows.fieldNumbersSpec.vars false (#[.slice none 0 0, .int .i64 0, .int .i64 0, .int .u64 0] : Array Value).toList 8 = some ([.nil, .lit (.int .i64 0), .lit (.int .i64 0), .lit (.int .u64 0)], [], places) :=
  ⟨[], by kernel_rfl⟩
theorem lifted (os : Os) (started : os.Started) (H : Type) (enc : TypeId × Value → H) (F : Stop.Interp) :
    ReturnsInHanded {} Tryd.checked os 3 .any ((OpenSpec.ofChange Rows.fieldNumbersSpec).preRow enc Tryd.prog Tryd.f3 Rows.fieldNumbersRow.domain false Rows.fieldNumbersRow.laid) (((OpenSpec.ofChange Rows.fieldNumbersSpec).at F).post enc Tryd.prog Tryd.f3 false true false false) := by
  obtain ⟨places, hx⟩ := reads os enc
  refine returnsInHanded_of_row (C := Tryd.checked) (s := (OpenSpec.ofChange Rows.fieldNumbersSpec)) own started (by kernel_rfl) Tryd.func3
    (witness_row_at (enc := enc) (C := Tryd.checked) false (laidWorld os) #[.slice none 0 0, .int .i64 0, .int .i64 0, .int .u64 0] rfl (by kernel_rfl) (by kernel_rfl) (by kernel_rfl)
      (OpenSpec.preRow_of_cond 8 hx (by kernel_rfl) (fun k hk => by cases hk) (by kernel_rfl) (laid_met os _))) ?_
  intro W base args ds gs before hval hW _ hcond hsz hL _ _
  exact contract H enc W base args ds gs before hval hW hsz hL
theorem said : Rows.FieldNumbersSaid :=
  OpenClaim.holds_of_cond 3 Tryd.f3 rfl rfl rfl rfl rfl rfl rfl ⟨rfl, rfl, rfl, rfl, rfl⟩ rfl rfl rfl rfl rfl (by kernel_rfl) Tryd.func3 (by kernel_rfl)
    (of_decide_eq_true (by kernel_rfl)) (by unfold Func.isWrapper; first | (rw [if_pos (by decide +kernel)]; kernel_rfl) | (rw [if_neg (by decide +kernel)]; exact ⟨rfl, rfl⟩))
    (fun os started H enc _ F => by rw [OpenClaim.pre_eq_preRow]; exact lifted os started H enc F)
theorem plain (f : FuncId) (fn : Func) (hf : Tryd.pinned.checked.prog.funcNamed "routing/routinglaw03.FieldNumbers" = some f) (hfn : Tryd.pinned.checked.prog.funcs[f]? = some fn) :
    false = Tryd.pinned.checked.prog.looks [] ∧ ∀ (j : Nat) t, fn.params[j]? = some t → Tryd.pinned.checked.prog.wantsStandIn t = false := by
  obtain rfl : f = 3 := Option.some.inj ((show Tryd.prog.funcNamed "routing/routinglaw03.FieldNumbers" = some 3 by kernel_rfl).symm.trans hf) |>.symm
  obtain rfl : fn = Tryd.f3 := (Option.some.inj (Tryd.func3.symm.trans hfn)).symm
  refine ⟨by kernel_rfl, fun j t ht => ?_⟩
  rw [Tryd.params3] at ht
  have hm := Array.mem_of_getElem? ht
  have hall : ([22, 3, 3, 23] : List TypeId).all (fun t => !Tryd.prog.wantsStandIn t) = true := by kernel_rfl
  have := List.all_eq_true.1 hall t (by simpa using hm)
  have h2 : Tryd.prog.wantsStandIn t = false := by simpa using this
  exact h2
theorem card : Rows.FieldNumbersCardSaid :=
  Claim7.holds_tied_plain_at .later [] _ _ _ _ said (fun _ h => by cases h) (by kernel_rfl) (fun _ h => by cases h) fieldNumbers_row_tie rfl ⟨rfl, rfl⟩ (by kernel_rfl) rfl plain (by kernel_rfl)
#print axioms card
end Go.Proofs.YthoonegckifiaaaDoor.fieldNumbers
