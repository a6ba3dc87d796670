/-
  Proved: for every line the law FieldWords returns true (Words is as the reference describes, and the examples hold); the row lists five library tables, tied by the card; the arguments hold together at most 1048576 values and letters.
-/
import Derived.Test.YthoonegckifiaaaDoorFrame
namespace Go.Proofs.YthoonegckifiaaaDoor.fieldWords
open Go.ChangeShapes Go.WideShapes Go.ChangeAt Go.RowKit
set_option linter.unusedSimpArgs false
set_option linter.unusedVariables false
set_option maxHeartbeats 4000000
set_option maxRecDepth 100000

theorem walk (s0 : ByteArray) (w : World) (hT : Tab w) (hs0 : s0.size ≤ 1048576) :
    Calls Tryd.prog 6 #[.string s0] w fun e w' => e = .returned (.bool true) ∧ Below w.heap.size w w' := by
  have HT := Lib.hid hT
  have HW := Lib.hid (words_any s0 w hs0)
  have HRW : Hid (∀ W, Calls Tryd.prog 26 #[.string s0] W (WordsPost s0.data.toList W)) := fun W => rwords_any s0 W hs0
  have hpl : ∀ ps, T.words s0.data.toList = some ps → ps.length ≤ 140737489403904 := fun ps h => by
    unfold T.words at h
    split at h
    · obtain rfl := Option.some.inj h; simp
    · split at h
      · cases h
      · obtain rfl := Option.some.inj h
        have h1 := T.parts_len 32 s0.data.toList
        rw [list_len] at h1; omega
  have HPL := Lib.hid hpl
  clear hT hpl
  cases hw : T.words s0.data.toList with
  | none =>
    have HW1 : Hid (Calls Tryd.prog 25 #[.string s0] w fun e w' => e = .returned (.tuple #[.slice none 0 0, .int .i64 2]) ∧ Below w.heap.size w w') := HW.out.mono fun e w' h => by
      rcases h with ⟨⟨_, h⟩ | ⟨ps, v, h, _⟩, hb⟩
      · exact ⟨h, hb⟩
      · rw [hw] at h; cases h
    have HW2 : Hid (∀ W, Calls Tryd.prog 26 #[.string s0] W fun e w' => e = .returned (.tuple #[.slice none 0 0, .int .i64 2]) ∧ Below W.heap.size W w') := fun W => (HRW.out W).mono fun e w' h => by
      rcases h with ⟨⟨_, h⟩ | ⟨ps, v, h, _⟩, hb⟩
      · exact ⟨h, hb⟩
      · rw [hw] at h; cases h
    clear hw
    go_enter Tryd.func6, Tryd.ntmps6
    go_wp2_with (first
      | (go_at_call 25; refine HW1.out.mono ?_; rintro e w1 ⟨rfl, hb⟩; have X1 := Lib.hid hb; clear hb)
      | (go_at_call 26; refine (HW2.out _).mono ?_; rintro e w2 ⟨rfl, hb⟩; have X2 := Lib.hid (X1.out.trans (hb.mono X1.out.size)); clear hb)
      | (go_at_call 12; refine (awake_any _ (tab_below HT.out X2.out)).mono ?_; rintro e w3 ⟨rfl, hb⟩; have X3 := Lib.hid (X2.out.trans (hb.mono X2.out.size)); clear hb)
      | (go_at_call 27; refine (sames_yes [] _ _ _ (by simp) (rdw_nil _) (rdw_nil _)).mono ?_; rintro e w' ⟨rfl, rfl⟩))
    go_ret
    exact ⟨rfl, X3.out⟩
  | some ps =>
    have HL := Lib.hid (HPL.out ps hw)
    have HW1 : Hid (Calls Tryd.prog 25 #[.string s0] w fun e w' => ∃ v, e = .returned (.tuple #[v, .int .i64 0]) ∧ RdW w' v ps ∧ Below w.heap.size w w') := HW.out.mono fun e w' h => by
      rcases h with ⟨⟨h, _⟩ | ⟨ps', v, h, he, hr⟩, hb⟩
      · rw [hw] at h; cases h
      · rw [hw] at h; obtain rfl := Option.some.inj h; exact ⟨v, he, hr, hb⟩
    have HW2 : Hid (∀ W, Calls Tryd.prog 26 #[.string s0] W fun e w' => ∃ v, e = .returned (.tuple #[v, .int .i64 0]) ∧ RdW w' v ps ∧ Below W.heap.size W w') := fun W => (HRW.out W).mono fun e w' h => by
      rcases h with ⟨⟨h, _⟩ | ⟨ps', v, h, he, hr⟩, hb⟩
      · rw [hw] at h; cases h
      · rw [hw] at h; obtain rfl := Option.some.inj h; exact ⟨v, he, hr, hb⟩
    clear hw
    go_enter Tryd.func6, Tryd.ntmps6
    go_wp2_with (first
      | (go_at_call 25; refine HW1.out.mono ?_; rintro e w1 ⟨v1, rfl, hr, hb⟩; have X1 := Lib.hid (And.intro hr hb); clear hr hb)
      | (go_at_call 26; refine (HW2.out _).mono ?_; rintro e w2 ⟨v2, rfl, hr, hb⟩; have X2 := Lib.hid (And.intro (X1.out.1.below hb) (And.intro hr (X1.out.2.trans (hb.mono X1.out.2.size)))); clear hr hb)
      | (go_at_call 12; refine (awake_any _ (tab_below HT.out X2.out.2.2)).mono ?_; rintro e w3 ⟨rfl, hb⟩; have X3 := Lib.hid (And.intro (X2.out.1.below hb) (And.intro (X2.out.2.1.below hb) (X2.out.2.2.trans (hb.mono X2.out.2.2.size)))); clear hb)
      | (go_at_call 27; refine (sames_yes ps _ _ _ HL.out X3.out.1 X3.out.2.1).mono ?_; rintro e w' ⟨rfl, rfl⟩))
    go_ret
    exact ⟨rfl, X3.out.2.2⟩

theorem contract (H : Type) (enc : TypeId × Value → H) (W : World) (base : Nat) (args : Array Value) (ds gs : List (DataW H)) (before : List MemPlace)
    (hval : ∀ (j : Nat) t v, Tryd.f6.params[j]? = some t → args[j]? = some v → Value.okWide Tryd.prog W .any base t v)
    (hW : DataW.Whole enc Tryd.prog Tryd.f6.params.toList Rows.fieldWordsSpec.vars false W args.toList ds gs before)
    (hk : Rows.uptoSmall H (ds ++ gs) = true)
    (hsz : (DataW.weightsEach Tryd.prog (Tryd.f6.params.toList ++ (Rows.OpenSpec.upto Rows.fieldWordsSpec).bare.plain.varTypes Tryd.prog) (ds ++ gs)).all (· ≤ reachBytes) = true)
    (hL : laidMetH Tryd.prog Rows.fieldWordsUptoRow.laid W) :
    Calls Tryd.prog 6 args W fun e W' => ∃ v, e = .returned v ∧ Rows.fieldWordsSpec.post enc Tryd.prog Tryd.f6 false true false false W args v W' := by
  have hT : Tab W := tab_of_laid hL
  have hW' := hW
  obtain ⟨p, q, hA0, hV, rfl, hfz, hnd⟩ := hW
  have hA : DataW.TrodAll enc Tryd.prog W 0 (fun _ => true) true Tryd.f6.params.toList args.toList ds p := hA0
  rw [Tryd.params6] at hA hval hsz
  have HB : ∀ W', Below W.heap.size W W' → DataW.TrodAll enc Tryd.prog W' 0 (fun b => decide (b < W.heap.size)) true Tryd.f6.params.toList args.toList ds p := fun W' hb => by
    rw [Tryd.params6]
    refine trodAll_below hb (fun t ht => ?_) hA (fun x hx => hW'.lt x (by simp [hx]))
    revert t ht
    have hall : ([9] : List TypeId).all (fun t => Tryd.prog.readableRec t && decide (t < Tryd.prog.types.size)) = true := by kernel_rfl
    intro t ht
    have := List.all_eq_true.1 hall t ht
    simpa using this
  obtain ⟨v0, vs0, d0, ds0, p0, q0, hargs, rfl, rfl, h0, r0⟩ := trodAll_cons hA
  obtain ⟨rfl, rfl, rfl⟩ := trodAll_nil r0
  obtain rfl : args = #[v0] := by cases args; simp_all
  obtain ⟨rfl, rfl⟩ := trodVars_none hV
  obtain ⟨s0, rfl, hd0⟩ := open_str (hval 0 9 v0 rfl rfl) h0
  have hs0 : s0.size ≤ 1048576 := by
    have hp := bulks.part_le (d := d0) (l := [d0] ++ []) (by simp)
    have hb := bulks.bound hk
    rw [hd0] at hp
    exact Nat.le_trans (str_bulk (H := H) s0) (Nat.le_trans (by simpa [hd0] using hp) hb)
  clear hA0
  simp only [List.append_nil] at hW' HB
  refine (walk s0 W hT hs0).mono fun e W' ⟨he, hb⟩ => ?_
  subst he
  exact ⟨_, rfl, _, _, _, [], _, [], hW', (trodAll_cons_mk (shut_bool Tryd.underlying4 _) trodAll_mk0), HB W' hb, rfl, hb.frame _, fun h => by cases h⟩
theorem reads (os : Os) {H : Type} (enc : TypeId × Value → H) : ∃ places, DataW.whole enc Tryd.prog ((laidWorld os).forCall (fun _ _ => 0) ⟨#[], #[.string ByteArray.empty], []⟩).memory Tryd.f6.params.toList Rows.fieldWordsSpec.vars false (#[.string ByteArray.empty] : Array Value).toList 8 = some ([.lit (.string [])], [], places) :=
  ⟨[], by kernel_rfl⟩
theorem lifted (os : Os) (started : os.Started) (H : Type) (enc : TypeId × Value → H) (F : Stop.Interp) :
    ReturnsInHanded {} Tryd.checked os 6 .any ((Rows.OpenSpec.upto Rows.fieldWordsSpec).preRow enc Tryd.prog Tryd.f6 Rows.fieldWordsUptoRow.domain false Rows.fieldWordsUptoRow.laid) (((Rows.OpenSpec.upto Rows.fieldWordsSpec).at F).post enc Tryd.prog Tryd.f6 false true false false) := by
  obtain ⟨places, hx⟩ := reads os enc
  refine returnsInHanded_of_row (C := Tryd.checked) (s := (Rows.OpenSpec.upto Rows.fieldWordsSpec)) own started (by kernel_rfl) Tryd.func6
    (witness_row_at (enc := enc) (C := Tryd.checked) false (laidWorld os) #[.string ByteArray.empty] rfl (by kernel_rfl) (by kernel_rfl) (by kernel_rfl)
      (OpenSpec.preRow_of_cond 8 hx (by kernel_rfl) (fun k hk => by cases hk; kernel_rfl) (by kernel_rfl) (laid_met os _))) ?_
  intro W base args ds gs before hval hW _ hcond hsz hL _ _
  exact contract H enc W base args ds gs before hval hW (hcond _ rfl) hsz hL
theorem said : Rows.FieldWordsUptoSaid :=
  OpenClaim.holds_of_cond 6 Tryd.f6 rfl rfl rfl rfl rfl rfl rfl ⟨rfl, rfl, rfl, rfl, rfl⟩ rfl rfl rfl rfl rfl (by kernel_rfl) Tryd.func6 (by kernel_rfl)
    (of_decide_eq_true (by kernel_rfl)) (by unfold Func.isWrapper; first | (rw [if_pos (by decide +kernel)]; kernel_rfl) | (rw [if_neg (by decide +kernel)]; exact ⟨rfl, rfl⟩))
    (fun os started H enc _ F => by rw [OpenClaim.pre_eq_preRow]; exact lifted os started H enc F)
theorem plain (f : FuncId) (fn : Func) (hf : Tryd.pinned.checked.prog.funcNamed "routing/routinglaw03.FieldWords" = some f) (hfn : Tryd.pinned.checked.prog.funcs[f]? = some fn) :
    false = Tryd.pinned.checked.prog.looks [] ∧ ∀ (j : Nat) t, fn.params[j]? = some t → Tryd.pinned.checked.prog.wantsStandIn t = false := by
  obtain rfl : f = 6 := Option.some.inj ((show Tryd.prog.funcNamed "routing/routinglaw03.FieldWords" = some 6 by kernel_rfl).symm.trans hf) |>.symm
  obtain rfl : fn = Tryd.f6 := (Option.some.inj (Tryd.func6.symm.trans hfn)).symm
  refine ⟨by kernel_rfl, fun j t ht => ?_⟩
  rw [Tryd.params6] at ht
  have hm := Array.mem_of_getElem? ht
  have hall : ([9] : List TypeId).all (fun t => !Tryd.prog.wantsStandIn t) = true := by kernel_rfl
  have := List.all_eq_true.1 hall t (by simpa using hm)
  have h2 : Tryd.prog.wantsStandIn t = false := by simpa using this
  exact h2
theorem card : Rows.FieldWordsUptoCardSaid :=
  Claim7.holds_tied_plain_at .later [] _ _ _ _ said (fun _ h => by cases h) (by kernel_rfl) (fun _ h => by cases h) fieldWordsUpto_row_tie rfl ⟨rfl, rfl⟩ (by kernel_rfl) rfl plain (by kernel_rfl)
#print axioms card
end Go.Proofs.YthoonegckifiaaaDoor.fieldWords
