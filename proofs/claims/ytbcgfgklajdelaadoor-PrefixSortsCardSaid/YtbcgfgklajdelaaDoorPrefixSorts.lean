/-
  Proved: for every list of prefix values the law PrefixSorts returns true (Sort returns what the reference returns, and the examples hold); the row lists three library tables, tied by the card; no other conditions.
-/
import Derived.Test.YtbcgfgklajdelaaDoorFrame
import Derived.Test.YtbcgfgklajdelaaDoorWalkV
import Derived.Test.YtbcgfgklajdelaaDoorWalkS
import Derived.Carry
import Derived.Deep.Slices
namespace Go.Proofs.YtbcgfgklajdelaaDoor.prefixSorts
open Go.ChangeShapes Go.WideShapes Go.ChangeAt Go.RowKit Go.Joins
set_option linter.unusedSimpArgs false
set_option linter.unusedVariables false
set_option maxHeartbeats 4000000
set_option maxRecDepth 100000

theorem open_rd {H : Type} {enc : TypeId × Value → H} {w : World} {spare : Nat → Bool} {held : Bool} {r : Reach} {b0 base : Nat} {v : Value} {d : DataW H} {p : List MemPlace}
    (hv : Value.okWide Tryd.prog w r b0 48 v) (h : DataW.Trod enc Tryd.prog w base spare held 48 v d p) : ∃ l, Rd w v l := by
  obtain ⟨a0, len, cap, rfl⟩ := okWide_slice Tryd.underlying48 hv
  obtain ⟨fuel, hf⟩ := h
  rcases Deep.open_slice Tryd.underlying48 hf with ⟨hcs, _⟩ | ⟨a, len', cap', m, n, D, Pl, hcs, _, hl, hm, hmm, _, hi⟩
  · simp [Value.cells] at hcs
    obtain ⟨rfl, rfl, rfl⟩ := hcs
    exact ⟨[], rd_nil w⟩
  · simp [Value.cells] at hcs
    obtain ⟨rfl, rfl, rfl⟩ := hcs
    have hle : len ≤ m := by rw [hmm]; split <;> omega
    have hx : ∀ i, i < len → ∃ x : PP, w.cell? (a.add (i * 2)) = some (.int .u32 (x.1 : Int)) ∧ w.cell? (a.add (i * 2 + 1)) = some (.int .i64 x.2) := by
      intro i him
      obtain ⟨cs', hc, ht⟩ := hi i (by omega)
      rw [cells25] at hc
      obtain ⟨_, hlen, hat⟩ := World.cells?_some hc
      match cs', hlen with
      | [c0, c1], _ =>
        obtain ⟨y0, y1, n', _, _, h0, h1⟩ := trod_struct2 Tryd.underlying25 ht
        have h0' : DataW.trod enc Tryd.prog w base spare held n' 23 [c0] = some y0 := h0
        have h1' : DataW.trod enc Tryd.prog w base spare held n' 3 [c1] = some y1 := h1
        obtain ⟨x, e0, _, wx⟩ := DataW.trod_int Tryd.underlying23 h0'
        obtain ⟨y, e1, _, wy⟩ := DataW.trod_int Tryd.underlying3 h1'
        simp at e0 e1
        subst e0 e1
        obtain ⟨x', rfl⟩ := Int.eq_ofNat_of_zero_le (bounds_u32 wx).1
        have k0 := hat 0 (by omega)
        have k1 := hat 1 (by omega)
        refine ⟨(x', y), ?_, ?_⟩
        · rw [Deep.add_add] at k0; exact k0
        · rw [Deep.add_add] at k1; exact k1
    obtain ⟨V, hV⟩ := Deep.choose_lt hx
    refine ⟨(List.range len).map V, some a, cap, by simp, fun k x hk => ?_⟩
    have hkl : k < len := by have := (List.getElem?_eq_some_iff.1 hk).1; simpa using this
    have e : x = V k := by simpa [hkl] using hk.symm
    subst e
    obtain ⟨c0, c1⟩ := hV k hkl
    have hsp : a.spot = none := by simpa [Addr.add] using World.cell?_spot (hV 0 (by omega)).1
    obtain ⟨b, off, spot⟩ := a
    obtain rfl : spot = none := hsp
    rw [Addr.add_lit] at c0 c1
    exact ⟨b, off, rfl, World.block_lt_of_cell? _ _ c0, c0, by rw [Nat.add_assoc]; exact c1⟩

theorem walk (l : List PP) (v : Value) (w : World) (hr : Rd w v l) (hT : Tab w) :
    Calls Tryd.prog 8 #[v] w fun e w' => e = .returned (.bool true) ∧ Below w.heap.size w w' := by
  have HT := Lib.hid hT
  clear hT
  by_cases hl : 100 < l.length
  · obtain ⟨ad, cap, rfl, _⟩ := hr
    go_enter Tryd.func8, Tryd.ntmps8
    go_wp2_with (go_at_call 21; refine (lives_any _ HT.out).mono ?_; rintro e w1 ⟨rfl, hb⟩)
    go_ret
    exact ⟨rfl, hb⟩
  · have h1 := sort_any l v w (by omega) hr
    have H2 : Hid (∀ w1, Below w.heap.size w w1 → Calls Tryd.prog 40 #[v] w1 fun e w' => ∃ v', e = .returned v' ∧ Rd w' v' (sortR l) ∧ Below w1.heap.size w1 w') := fun w1 hb => rsort_any l v w1 (by omega) (hr.below hb)
    have H3 : Hid ((sortR l).length ≤ 1000) := by have := sortR_le l l.length; rw [List.take_length] at this; exact Nat.le_trans this (by omega)
    obtain ⟨ad, cap, rfl, _⟩ := hr
    go_enter Tryd.func8, Tryd.ntmps8
    go_wp2_with (first
      | (go_at_call 39; refine h1.mono ?_; rintro e w1 ⟨v1, rfl, hrd1, hb1⟩
         have X1 := Lib.hid (And.intro hrd1 hb1)
         clear hrd1 hb1)
      | (go_at_call 40; refine (H2.out w1 X1.out.2).mono ?_; rintro e w2 ⟨v2, rfl, hrd2, hb2⟩
         have X2 := Lib.hid (And.intro hrd2 hb2)
         clear hrd2 hb2)
      | (go_at_call 38; refine (rsame_any (sortR l) v1 v2 w2 H3.out (X1.out.1.below X2.out.2) X2.out.1).mono ?_; rintro e w3 ⟨rfl, hb3⟩
         have X3 : Hid (Below w.heap.size w w3) := (X1.out.2.trans (X2.out.2.mono X1.out.2.size)).trans (hb3.mono (Nat.le_trans X1.out.2.size X2.out.2.size))
         clear hb3)
      | (go_at_call 21; refine (lives_any w3 (tab_below HT.out X3.out)).mono ?_; rintro e w4 ⟨rfl, hb4⟩
         have X4 : Hid (Below w.heap.size w w4) := X3.out.trans (hb4.mono X3.out.size)
         clear hb4))
    go_ret
    exact ⟨rfl, X4.out⟩
theorem laidOut : laidOutB Tryd.prog = true := by kernel_rfl
theorem contract (H : Type) (enc : TypeId × Value → H) (W : World) (base : Nat) (args : Array Value) (ds gs : List (DataW H)) (before : List MemPlace)
    (hval : ∀ (j : Nat) t v, Tryd.f8.params[j]? = some t → args[j]? = some v → Value.okWide Tryd.prog W .any base t v)
    (hW : DataW.Whole enc Tryd.prog Tryd.f8.params.toList Rows.prefixSortsSpec.vars false W args.toList ds gs before)
    (hsz : (DataW.weightsEach Tryd.prog (Tryd.f8.params.toList ++ (OpenSpec.ofChange Rows.prefixSortsSpec).bare.plain.varTypes Tryd.prog) (ds ++ gs)).all (· ≤ reachBytes) = true)
    (hL : laidMetH Tryd.prog Rows.prefixSortsRow.laid W) :
    Calls Tryd.prog 8 args W fun e W' => ∃ v, e = .returned v ∧ Rows.prefixSortsSpec.post enc Tryd.prog Tryd.f8 false true false false W args v W' := by
  have hT : Tab W := tab_of_laid hL
  have hW' := hW
  obtain ⟨p, q, hA0, hV, rfl, hfz, hnd⟩ := hW
  have hA : DataW.TrodAll enc Tryd.prog W 0 (fun _ => true) true Tryd.f8.params.toList args.toList ds p := hA0
  rw [Tryd.params8] at hA hval hsz
  obtain ⟨v0, vs0, d0, ds0, p0, q0, hargs, rfl, rfl, h0, r0⟩ := trodAll_cons hA
  obtain ⟨rfl, rfl, rfl⟩ := trodAll_nil r0
  obtain rfl : args = #[v0] := by cases args; simp_all
  obtain ⟨rfl, rfl⟩ := trodVars_none hV
  obtain ⟨l, hrd⟩ := open_rd (hval 0 48 v0 rfl rfl) h0
  clear hA0
  simp only [List.append_nil] at hW'
  refine (walk l v0 W hrd hT).mono fun e W' ⟨he, hb⟩ => ?_
  subst he
  have hlt : ∀ x ∈ p0, x.block < W.heap.size := fun x hx => by simpa using hW'.lt x hx
  have targ := Below.trod laidOut (by kernel_rfl) (of_decide_eq_true (by kernel_rfl)) h0 hb hlt
  exact ⟨_, rfl, _, _, _, [], _, [], hW', (trodAll_cons_mk (shut_bool Tryd.underlying4 _) trodAll_mk0), trodAll_mk1 targ, rfl, hb.frame _, fun h => by cases h⟩
theorem reads (os : Os) {H : Type} (enc : TypeId × Value → H) : ∃ places, DataW.whole enc Tryd.prog ((laidWorld os).forCall (fun _ _ => 0) ⟨#[], #[.slice none 0 0], []⟩).memory Tryd.f8.params.toList Rows.prefixSortsSpec.vars false (#[.slice none 0 0] : Array Value).toList 8 = some ([.nil], [], places) :=
  ⟨[], by kernel_rfl⟩
theorem lifted (os : Os) (started : os.Started) (H : Type) (enc : TypeId × Value → H) (F : Stop.Interp) :
    ReturnsInHanded {} Tryd.checked os 8 .any ((OpenSpec.ofChange Rows.prefixSortsSpec).preRow enc Tryd.prog Tryd.f8 Rows.prefixSortsRow.domain false Rows.prefixSortsRow.laid) (((OpenSpec.ofChange Rows.prefixSortsSpec).at F).post enc Tryd.prog Tryd.f8 false true false false) := by
  obtain ⟨places, hx⟩ := reads os enc
  refine returnsInHanded_of_row (C := Tryd.checked) (s := OpenSpec.ofChange Rows.prefixSortsSpec) own started (by kernel_rfl) Tryd.func8
    (witness_row_at (enc := enc) (C := Tryd.checked) false (laidWorld os) #[.slice none 0 0] rfl (by kernel_rfl) (by kernel_rfl) (by kernel_rfl)
      (OpenSpec.preRow_of_cond 8 hx (by kernel_rfl) (fun k hk => by cases hk) (by kernel_rfl) (laid_met os _))) ?_
  intro W base args ds gs before hval hW _ _ hsz hL _ _
  exact contract H enc W base args ds gs before hval hW hsz hL
theorem said : Rows.PrefixSortsSaid :=
  OpenClaim.holds_of_cond 8 Tryd.f8 rfl rfl rfl rfl rfl rfl rfl ⟨rfl, rfl, rfl, rfl, rfl⟩ rfl rfl rfl rfl rfl (by kernel_rfl) Tryd.func8 (by kernel_rfl)
    (of_decide_eq_true (by kernel_rfl)) (by unfold Func.isWrapper; first | (rw [if_pos (by decide +kernel)]; kernel_rfl) | (rw [if_neg (by decide +kernel)]; exact ⟨rfl, rfl⟩))
    (fun os started H enc _ F => by rw [OpenClaim.pre_eq_preRow]; exact lifted os started H enc F)
theorem plain (f : FuncId) (fn : Func) (hf : Tryd.pinned.checked.prog.funcNamed "routing/routinglaw02.PrefixSorts" = some f) (hfn : Tryd.pinned.checked.prog.funcs[f]? = some fn) :
    false = Tryd.pinned.checked.prog.looks [] ∧ ∀ (j : Nat) t, fn.params[j]? = some t → Tryd.pinned.checked.prog.wantsStandIn t = false := by
  obtain rfl : f = 8 := Option.some.inj ((show Tryd.prog.funcNamed "routing/routinglaw02.PrefixSorts" = some 8 by kernel_rfl).symm.trans hf) |>.symm
  obtain rfl : fn = Tryd.f8 := (Option.some.inj (Tryd.func8.symm.trans hfn)).symm
  refine ⟨by kernel_rfl, fun j t ht => ?_⟩
  rw [Tryd.params8] at ht
  have hm := Array.mem_of_getElem? ht
  have hall : ∀ t ∈ (#[48] : Array TypeId), Tryd.prog.wantsStandIn t = false := by
    intro t h
    simp at h
    rcases h with rfl <;> kernel_rfl
  exact hall t hm
theorem card : Rows.PrefixSortsCardSaid :=
  Claim7.holds_tied_plain_at .later [] _ _ _ _ said (fun _ h => by cases h) (by kernel_rfl) (fun _ h => by cases h) prefixSorts_row_tie rfl ⟨rfl, rfl⟩ (by kernel_rfl) rfl plain (by kernel_rfl)
#print axioms card
end Go.Proofs.YtbcgfgklajdelaaDoor.prefixSorts
