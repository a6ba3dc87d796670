/-
  Proved: for every string s the law PrefixParses returns true (ParseAddr and Parse return what the reference returns, and the examples hold); the row lists three library tables, tied by the card; no other conditions.
-/
import Derived.Test.YtbcgfgklajdelaaDoorFrame
namespace Go.Proofs.YtbcgfgklajdelaaDoor.prefixParses
open Go.ChangeShapes Go.WideShapes Go.ChangeAt Go.RowKit
set_option linter.unusedSimpArgs false
set_option linter.unusedVariables false
set_option maxHeartbeats 4000000
set_option maxRecDepth 100000

def paA (o : Option Nat) : Int := (o.getD 0 : Nat)
def paE (o : Option Nat) : Int := bif o.isSome then 0 else 2
theorem paV_eq (o : Option Nat) : paV o = .tuple #[.int .u32 (paA o), .int .i64 (paE o)] := by cases o <;> rfl
def prA : Option (Nat × Nat) → Int
  | none => 0
  | some (a, n) => bif vld a n then (a : Int) else 0
def prN : Option (Nat × Nat) → Int
  | none => 0
  | some (a, n) => bif vld a n then (n : Int) else 0
def prE : Option (Nat × Nat) → Int
  | none => 2
  | some (a, n) => bif vld a n then 0 else 1
theorem prV_eq (o : Option (Nat × Nat)) : prV o = .tuple #[.agg #[.int .u32 (prA o), .int .i64 (prN o)], .int .i64 (prE o)] := by
  rcases o with _ | ⟨a, n⟩
  · rfl
  · cases h : vld a n <;> simp [prV, prA, prN, prE, h]
theorem pa34 (L : List UInt8) (hl : L.length ≤ 140737488355328) (w : World) : Calls Tryd.prog 34 #[.string (bs L)] w fun e w' => e = .returned (.tuple #[.int .u32 (paA (pa L)), .int .i64 (paE (pa L))]) ∧ Below w.heap.size w w' := by
  rw [← paV_eq]; exact parseAddr_any L hl w
theorem pa35 (L : List UInt8) (hl : L.length ≤ 140737488355328) (w : World) : Calls Tryd.prog 35 #[.string (bs L)] w fun e w' => e = .returned (.tuple #[.int .u32 (paA (pa L)), .int .i64 (paE (pa L))]) ∧ w = w' := by
  have := rparseAddr_any (bs L) (by rw [bs_size]; exact hl) w
  rw [bs_list] at this
  rw [← paV_eq]; exact this
theorem pr36 (L : List UInt8) (hl : L.length ≤ 140737488355328) (w : World) : Calls Tryd.prog 36 #[.string (bs L)] w fun e w' => e = .returned (.tuple #[.agg #[.int .u32 (prA (pr L)), .int .i64 (prN (pr L))], .int .i64 (prE (pr L))]) ∧ Below w.heap.size w w' := by
  rw [← prV_eq]; exact parse_any L hl w
theorem pr37 (L : List UInt8) (hl : L.length ≤ 140737488355328) (w : World) : Calls Tryd.prog 37 #[.string (bs L)] w fun e w' => e = .returned (.tuple #[.agg #[.int .u32 (prA (pr L)), .int .i64 (prN (pr L))], .int .i64 (prE (pr L))]) ∧ Below w.heap.size w w' := by
  have := rparse_any (bs L) (by rw [bs_size]; exact hl) w
  rw [bs_list] at this
  rw [← prV_eq]; exact this
theorem walk (s0 : ByteArray) (hs0 : s0.size ≤ 140737488355328) (w : World) (hT : Tab w) :
    Calls Tryd.prog 7 #[.string s0] w fun e w' => e = .returned (.bool true) ∧ Below w.heap.size w w' := by
  obtain ⟨L, rfl⟩ : ∃ L, s0 = bs L := ⟨_, bs_get s0⟩
  have hl : L.length ≤ 140737488355328 := by rw [bs_size] at hs0; exact hs0
  have A1 := Lib.hid (pa34 L hl)
  have A2 := Lib.hid (pa35 L hl)
  have A3 := Lib.hid (pr36 L hl)
  have A4 := Lib.hid (pr37 L hl)
  have HT := Lib.hid hT
  clear hs0 hl hT
  go_enter Tryd.func7, Tryd.ntmps7
  go_wp2_with fail
  go_at_call 34
  refine (A1.out _).mono ?_
  rintro e w1 ⟨rfl, h1⟩
  have B1 := Lib.hid h1; clear h1
  go_wp2_with (go_at_call 35; refine (A2.out _).mono ?_; rintro e w' ⟨rfl, rfl⟩)
  go_at_call 36
  refine (A3.out _).mono ?_
  rintro e w2 ⟨rfl, h2⟩
  have B2 := Lib.hid (below_then B1.out h2); clear h2
  go_wp2_with fail
  go_at_call 37
  refine (A4.out _).mono ?_
  rintro e w3 ⟨rfl, h3⟩
  have c0 : w3.cell? ⟨w2.heap.size, 0, none⟩ = some (.int .u32 (prA (pr L))) := carry h3 (by go_simp)
  have c1 : w3.cell? ⟨w2.heap.size, 1, none⟩ = some (.int .i64 (prN (pr L))) := carry h3 (by go_simp)
  have z3 : w2.heap.size < w3.heap.size := World.block_lt_of_cell? _ _ c0
  have B3 := Lib.hid (below_then (below_then B2.out (below_alloc _ _)) h3); clear h3
  go_wp2_with fail
  go_at_call 21
  refine (lives_any _ (tab_below HT.out (below_then B3.out (below_alloc _ _)))).mono ?_
  rintro e w4 ⟨rfl, h4⟩
  have B4 := Lib.hid (below_then (below_then B3.out (below_alloc _ _)) h4); clear h4
  go_wp2_with fail
  go_ret
  exact ⟨rfl, B4.out⟩
theorem contract (H : Type) (enc : TypeId × Value → H) (W : World) (base : Nat) (args : Array Value) (ds gs : List (DataW H)) (before : List MemPlace)
    (hval : ∀ (j : Nat) t v, Tryd.f7.params[j]? = some t → args[j]? = some v → Value.okWide Tryd.prog W .any base t v)
    (hW : DataW.Whole enc Tryd.prog Tryd.f7.params.toList Rows.prefixParsesSpec.vars false W args.toList ds gs before)
    (hsz : (DataW.weightsEach Tryd.prog (Tryd.f7.params.toList ++ (OpenSpec.ofChange Rows.prefixParsesSpec).bare.plain.varTypes Tryd.prog) (ds ++ gs)).all (· ≤ reachBytes) = true)
    (hL : laidMetH Tryd.prog Rows.prefixParsesRow.laid W) :
    Calls Tryd.prog 7 args W fun e W' => ∃ v, e = .returned v ∧ Rows.prefixParsesSpec.post enc Tryd.prog Tryd.f7 false true false false W args v W' := by
  have hT : Tab W := tab_of_laid hL
  have hW' := hW
  obtain ⟨p, q, hA0, hV, rfl, hfz, hnd⟩ := hW
  have hA : DataW.TrodAll enc Tryd.prog W 0 (fun _ => true) true Tryd.f7.params.toList args.toList ds p := hA0
  rw [Tryd.params7] at hA hval hsz
  obtain ⟨v0, vs0, d0, ds0, p0, q0, hargs, rfl, rfl, h0, r0⟩ := trodAll_cons hA
  obtain ⟨rfl, rfl, rfl⟩ := trodAll_nil r0
  obtain rfl : args = #[v0] := by cases args; simp_all
  obtain ⟨rfl, rfl⟩ := trodVars_none hV
  obtain ⟨s0, rfl, rfl, rfl, hm0⟩ := ChangeMaps.open_string Tryd.underlying9 (hval 0 9 v0 rfl rfl) h0
  have hs0 : s0.size ≤ 140737488355328 := by
    have := sized_string hsz (j := 0) (t := 9) rfl rfl
    have h47 := reachBytes_lt
    rw [list_len] at this; omega
  clear hA0
  simp only [List.append_nil] at hW'
  refine (walk s0 hs0 W hT).mono fun e W' ⟨he, hb⟩ => ?_
  subst he
  exact ⟨_, rfl, _, _, _, [], [], [], hW', (trodAll_cons_mk (shut_bool Tryd.underlying4 _) trodAll_mk0), (trodAll_cons_mk (ChangeMaps.shut_string Tryd.underlying9 hm0) trodAll_mk0), rfl, hb.frame _, fun h => by cases h⟩
theorem reads (os : Os) {H : Type} (enc : TypeId × Value → H) : ∃ places, DataW.whole enc Tryd.prog ((laidWorld os).forCall (fun _ _ => 0) ⟨#[], #[.string ByteArray.empty], []⟩).memory Tryd.f7.params.toList Rows.prefixParsesSpec.vars false (#[.string ByteArray.empty] : Array Value).toList 8 = some ([.lit (.string [])], [], places) :=
  ⟨[], by kernel_rfl⟩
theorem lifted (os : Os) (started : os.Started) (H : Type) (enc : TypeId × Value → H) (F : Stop.Interp) :
    ReturnsInHanded {} Tryd.checked os 7 .any ((OpenSpec.ofChange Rows.prefixParsesSpec).preRow enc Tryd.prog Tryd.f7 Rows.prefixParsesRow.domain false Rows.prefixParsesRow.laid) (((OpenSpec.ofChange Rows.prefixParsesSpec).at F).post enc Tryd.prog Tryd.f7 false true false false) := by
  obtain ⟨places, hx⟩ := reads os enc
  refine returnsInHanded_of_row (C := Tryd.checked) (s := OpenSpec.ofChange Rows.prefixParsesSpec) own started (by kernel_rfl) Tryd.func7
    (witness_row_at (enc := enc) (C := Tryd.checked) false (laidWorld os) #[.string ByteArray.empty] rfl (by kernel_rfl) (by kernel_rfl) (by kernel_rfl)
      (OpenSpec.preRow_of_cond 8 hx (by kernel_rfl) (fun k hk => by cases hk) (by kernel_rfl) (laid_met os _))) ?_
  intro W base args ds gs before hval hW _ _ hsz hL _ _
  exact contract H enc W base args ds gs before hval hW hsz hL
theorem said : Rows.PrefixParsesSaid :=
  OpenClaim.holds_of_cond 7 Tryd.f7 rfl rfl rfl rfl rfl rfl rfl ⟨rfl, rfl, rfl, rfl, rfl⟩ rfl rfl rfl rfl rfl (by kernel_rfl) Tryd.func7 (by kernel_rfl)
    (of_decide_eq_true (by kernel_rfl)) (by unfold Func.isWrapper; first | (rw [if_pos (by decide +kernel)]; kernel_rfl) | (rw [if_neg (by decide +kernel)]; exact ⟨rfl, rfl⟩))
    (fun os started H enc _ F => by rw [OpenClaim.pre_eq_preRow]; exact lifted os started H enc F)
theorem plain (f : FuncId) (fn : Func) (hf : Tryd.pinned.checked.prog.funcNamed "routing/routinglaw02.PrefixParses" = some f) (hfn : Tryd.pinned.checked.prog.funcs[f]? = some fn) :
    false = Tryd.pinned.checked.prog.looks [] ∧ ∀ (j : Nat) t, fn.params[j]? = some t → Tryd.pinned.checked.prog.wantsStandIn t = false := by
  obtain rfl : f = 7 := Option.some.inj ((show Tryd.prog.funcNamed "routing/routinglaw02.PrefixParses" = some 7 by kernel_rfl).symm.trans hf) |>.symm
  obtain rfl : fn = Tryd.f7 := (Option.some.inj (Tryd.func7.symm.trans hfn)).symm
  refine ⟨by kernel_rfl, fun j t ht => ?_⟩
  rw [Tryd.params7] at ht
  have hm := Array.mem_of_getElem? ht
  have hall : ∀ t ∈ (#[9] : Array TypeId), Tryd.prog.wantsStandIn t = false := by
    intro t h
    simp at h
    rcases h with rfl <;> kernel_rfl
  exact hall t hm
theorem card : Rows.PrefixParsesCardSaid :=
  Claim7.holds_tied_plain_at .later [] _ _ _ _ said (fun _ h => by cases h) (by kernel_rfl) (fun _ h => by cases h) prefixParses_row_tie rfl ⟨rfl, rfl⟩ (by kernel_rfl) rfl plain (by kernel_rfl)
#print axioms card
end Go.Proofs.YtbcgfgklajdelaaDoor.prefixParses
