/-
  Proved: for every slice of bytes, every u64 x, all ints n and k and every text the law FieldBack returns true (Put and Get, Decimal and Number are inverse to each other); the row lists five library tables, tied by the card; no other conditions.
-/
import Derived.Test.YthoonegckifiaaaDoorBackA
import Derived.Test.YthoonegckifiaaaDoorBackB
import Derived.Test.YthoonegckifiaaaDoorBackC
import Derived.Test.YthoonegckifiaaaDoorBackD
namespace Go.Proofs.YthoonegckifiaaaDoor.fieldBack
open Go.ChangeShapes Go.WideShapes Go.ChangeAt Go.RowKit
set_option linter.unusedSimpArgs false
set_option linter.unusedVariables false
set_option maxHeartbeats 4000000
set_option maxRecDepth 100000

theorem walk (l0 : List Nat) (v0 : Value) (x1 : Nat) (a2 a3 : Int) (s4 : ByteArray) (w : World) (hT : Tab w) (hl0 : l0.length ≤ 140737488351232) (hr0 : Rd w v0 l0) (h1 : x1 < 18446744073709551616) (h2 : I64 a2) (h3 : I64 a3) (hs4 : s4.size ≤ 140737488351232) :
    Calls Tryd.prog 7 #[v0, .int .u64 x1, .int .i64 a2, .int .i64 a3, .string s4] w fun e w' => e = .returned (.bool true) ∧ Below w.heap.size w w' := by
  obtain ⟨y, er, hy1, hy2, hy3, hy⟩ := number_cases s4
  have hy' : (er = 0 ∧ bs (Lib.itoa y) = s4) ∨ ¬ er = 0 := by
    rcases hy with h | h | h
    · exact .inl h
    · exact .inr (by omega)
    · exact .inr (by omega)
  by_cases c1 : wrap64 (1 + (wrap64 (a2.tmod 8 + 8)).tmod 8) < 8
  · by_cases c2 : a3 < 0
    · rcases hy' with ⟨rfl, h⟩ | h
      · exact walk000 l0 v0 x1 a2 a3 s4 w hT hl0 hr0 h1 h2 h3 hs4 c1 c2 y hy1 hy2 hy3 h
      · exact walk001 l0 v0 x1 a2 a3 s4 w hT hl0 hr0 h1 h2 h3 hs4 c1 c2 er y hy1 hy2 hy3 h
    · rcases hy' with ⟨rfl, h⟩ | h
      · exact walk010 l0 v0 x1 a2 a3 s4 w hT hl0 hr0 h1 h2 h3 hs4 c1 (by omega) y hy1 hy2 hy3 h
      · exact walk011 l0 v0 x1 a2 a3 s4 w hT hl0 hr0 h1 h2 h3 hs4 c1 (by omega) er y hy1 hy2 hy3 h
  · by_cases c2 : a3 < 0
    · rcases hy' with ⟨rfl, h⟩ | h
      · exact walk100 l0 v0 x1 a2 a3 s4 w hT hl0 hr0 h1 h2 h3 hs4 (by omega) c2 y hy1 hy2 hy3 h
      · exact walk101 l0 v0 x1 a2 a3 s4 w hT hl0 hr0 h1 h2 h3 hs4 (by omega) c2 er y hy1 hy2 hy3 h
    · rcases hy' with ⟨rfl, h⟩ | h
      · exact walk110 l0 v0 x1 a2 a3 s4 w hT hl0 hr0 h1 h2 h3 hs4 (by omega) (by omega) y hy1 hy2 hy3 h
      · exact walk111 l0 v0 x1 a2 a3 s4 w hT hl0 hr0 h1 h2 h3 hs4 (by omega) (by omega) er y hy1 hy2 hy3 h

theorem contract (H : Type) (enc : TypeId × Value → H) (W : World) (base : Nat) (args : Array Value) (ds gs : List (DataW H)) (before : List MemPlace)
    (hval : ∀ (j : Nat) t v, Tryd.f7.params[j]? = some t → args[j]? = some v → Value.okWide Tryd.prog W .any base t v)
    (hW : DataW.Whole enc Tryd.prog Tryd.f7.params.toList Rows.fieldBackSpec.vars false W args.toList ds gs before)
    (hsz : (DataW.weightsEach Tryd.prog (Tryd.f7.params.toList ++ (OpenSpec.ofChange Rows.fieldBackSpec).bare.plain.varTypes Tryd.prog) (ds ++ gs)).all (· ≤ reachBytes) = true)
    (hL : laidMetH Tryd.prog Rows.fieldBackRow.laid W) :
    Calls Tryd.prog 7 args W fun e W' => ∃ v, e = .returned v ∧ Rows.fieldBackSpec.post enc Tryd.prog Tryd.f7 false true false false W args v W' := by
  have hT : Tab W := tab_of_laid hL
  have hW' := hW
  obtain ⟨p, q, hA0, hV, rfl, hfz, hnd⟩ := hW
  have hA : DataW.TrodAll enc Tryd.prog W 0 (fun _ => true) true Tryd.f7.params.toList args.toList ds p := hA0
  rw [Tryd.params7] at hA hval hsz
  have HB : ∀ W', Below W.heap.size W W' → DataW.TrodAll enc Tryd.prog W' 0 (fun b => decide (b < W.heap.size)) true Tryd.f7.params.toList args.toList ds p := fun W' hb => by
    rw [Tryd.params7]
    refine trodAll_below hb (fun t ht => ?_) hA (fun x hx => hW'.lt x (by simp [hx]))
    revert t ht
    have hall : ([22, 23, 3, 3, 9] : List TypeId).all (fun t => Tryd.prog.readableRec t && decide (t < Tryd.prog.types.size)) = true := by kernel_rfl
    intro t ht
    have := List.all_eq_true.1 hall t ht
    simpa using this
  obtain ⟨v0, vs0, d0, ds0, p0, q0, hargs, rfl, rfl, h0, r0⟩ := trodAll_cons hA
  obtain ⟨v1, vs1, d1, ds1, p1, q1, rfl, rfl, rfl, h1, r1⟩ := trodAll_cons r0
  obtain ⟨v2, vs2, d2, ds2, p2, q2, rfl, rfl, rfl, h2, r2⟩ := trodAll_cons r1
  obtain ⟨v3, vs3, d3, ds3, p3, q3, rfl, rfl, rfl, h3, r3⟩ := trodAll_cons r2
  obtain ⟨v4, vs4, d4, ds4, p4, q4, rfl, rfl, rfl, h4, r4⟩ := trodAll_cons r3
  obtain ⟨rfl, rfl, rfl⟩ := trodAll_nil r4
  obtain rfl : args = #[v0, v1, v2, v3, v4] := by cases args; simp_all
  obtain ⟨rfl, rfl⟩ := trodVars_none hV
  obtain ⟨l0, hr0, hd0⟩ := open_bytes (hval 0 22 v0 rfl rfl) h0
  have hl0 := bytes_len (j := 0) hsz rfl rfl hd0
  obtain ⟨x1, rfl, hi1⟩ := open_u64 (hval 1 23 v1 rfl rfl) h1
  obtain ⟨a2, rfl, hi2⟩ := open_i64 (hval 2 3 v2 rfl rfl) h2
  obtain ⟨a3, rfl, hi3⟩ := open_i64 (hval 3 3 v3 rfl rfl) h3
  obtain ⟨s4, rfl, hd4⟩ := open_str (hval 4 9 v4 rfl rfl) h4
  have hs4 : s4.size ≤ 140737488351232 := by subst hd4; exact str_len (j := 4) hsz rfl rfl
  clear hA0
  simp only [List.append_nil] at hW' HB
  refine (walk l0 v0 x1 a2 a3 s4 W hT hl0 hr0 hi1 hi2 hi3 hs4).mono fun e W' ⟨he, hb⟩ => ?_
  subst he
  exact ⟨_, rfl, _, _, _, [], _, [], hW', (trodAll_cons_mk (shut_bool Tryd.underlying4 _) trodAll_mk0), HB W' hb, rfl, hb.frame _, fun h => by cases h⟩
theorem reads (os : Os) {H : Type} (enc : TypeId × Value → H) : ∃ places, DataW.whole enc Tryd.prog ((laidWorld os).forCall (fun _ _ => 0) ⟨#[], #[.slice none 0 0, .int .u64 0, .int .i64 0, .int .i64 0, .string ByteArray.empty], []⟩).memory Tryd.f7.params.toList Rows.fieldBackSpec.vars false (#[.slice none 0 0, .int .u64 0, .int .i64 0, .int .i64 0, .string ByteArray.empty] : Array Value).toList 8 = some ([.nil, .lit (.int .u64 0), .lit (.int .i64 0), .lit (.int .i64 0), .lit (.string [])], [], places) :=
  ⟨[], by kernel_rfl⟩
theorem lifted (os : Os) (started : os.Started) (H : Type) (enc : TypeId × Value → H) (F : Stop.Interp) :
    ReturnsInHanded {} Tryd.checked os 7 .any ((OpenSpec.ofChange Rows.fieldBackSpec).preRow enc Tryd.prog Tryd.f7 Rows.fieldBackRow.domain false Rows.fieldBackRow.laid) (((OpenSpec.ofChange Rows.fieldBackSpec).at F).post enc Tryd.prog Tryd.f7 false true false false) := by
  obtain ⟨places, hx⟩ := reads os enc
  refine returnsInHanded_of_row (C := Tryd.checked) (s := (OpenSpec.ofChange Rows.fieldBackSpec)) own started (by kernel_rfl) Tryd.func7
    (witness_row_at (enc := enc) (C := Tryd.checked) false (laidWorld os) #[.slice none 0 0, .int .u64 0, .int .i64 0, .int .i64 0, .string ByteArray.empty] rfl (by kernel_rfl) (by kernel_rfl) (by kernel_rfl)
      (OpenSpec.preRow_of_cond 8 hx (by kernel_rfl) (fun k hk => by cases hk) (by kernel_rfl) (laid_met os _))) ?_
  intro W base args ds gs before hval hW _ hcond hsz hL _ _
  exact contract H enc W base args ds gs before hval hW hsz hL
theorem said : Rows.FieldBackSaid :=
  OpenClaim.holds_of_cond 7 Tryd.f7 rfl rfl rfl rfl rfl rfl rfl ⟨rfl, rfl, rfl, rfl, rfl⟩ rfl rfl rfl rfl rfl (by kernel_rfl) Tryd.func7 (by kernel_rfl)
    (of_decide_eq_true (by kernel_rfl)) (by unfold Func.isWrapper; first | (rw [if_pos (by decide +kernel)]; kernel_rfl) | (rw [if_neg (by decide +kernel)]; exact ⟨rfl, rfl⟩))
    (fun os started H enc _ F => by rw [OpenClaim.pre_eq_preRow]; exact lifted os started H enc F)
theorem plain (f : FuncId) (fn : Func) (hf : Tryd.pinned.checked.prog.funcNamed "routing/routinglaw03.FieldBack" = some f) (hfn : Tryd.pinned.checked.prog.funcs[f]? = some fn) :
    false = Tryd.pinned.checked.prog.looks [] ∧ ∀ (j : Nat) t, fn.params[j]? = some t → Tryd.pinned.checked.prog.wantsStandIn t = false := by
  obtain rfl : f = 7 := Option.some.inj ((show Tryd.prog.funcNamed "routing/routinglaw03.FieldBack" = some 7 by kernel_rfl).symm.trans hf) |>.symm
  obtain rfl : fn = Tryd.f7 := (Option.some.inj (Tryd.func7.symm.trans hfn)).symm
  refine ⟨by kernel_rfl, fun j t ht => ?_⟩
  rw [Tryd.params7] at ht
  have hm := Array.mem_of_getElem? ht
  have hall : ([22, 23, 3, 3, 9] : List TypeId).all (fun t => !Tryd.prog.wantsStandIn t) = true := by kernel_rfl
  have := List.all_eq_true.1 hall t (by simpa using hm)
  have h2 : Tryd.prog.wantsStandIn t = false := by simpa using this
  exact h2
theorem card : Rows.FieldBackCardSaid :=
  Claim7.holds_tied_plain_at .later [] _ _ _ _ said (fun _ h => by cases h) (by kernel_rfl) (fun _ h => by cases h) fieldBack_row_tie rfl ⟨rfl, rfl⟩ (by kernel_rfl) rfl plain (by kernel_rfl)
#print axioms card
end Go.Proofs.YthoonegckifiaaaDoor.fieldBack
