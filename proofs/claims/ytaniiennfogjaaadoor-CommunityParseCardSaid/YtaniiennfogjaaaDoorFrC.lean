/-
  What all proofs over this seat's rows share: how arguments are opened, how they read behind a call that only makes memory, a world for the witness.
-/
import Derived.Test.YtaniiennfogjaaaDoorCmY
import Derived.Test.YtaniiennfogjaaaDoorCmT
import Derived.Test.YtaniiennfogjaaaDoorCards
import Derived.Test.YtaniiennfogjaaaDoorTie
import Derived.ProofKit
import Derived.OpenShut
import Derived.SizedLaws
import Derived.Carry
import Derived.Deep.Slices
import Derived.Deep.Strs
import Derived.Deep.DeepHandedRow
import Derived.Lib.LaidTab
import Derived.LaidSub
import Derived.Lib.SmallJoins
namespace Go.Proofs.YtaniiennfogjaaaDoor
set_option maxRecDepth 100000
set_option linter.unusedSimpArgs false
set_option linter.unusedVariables false
open Go.ChangeShapes Go.WideShapes Go.ChangeAt Go.RowKit

theorem own : ownKnob Tryd.prog.godebug = none := by kernel_rfl
theorem cells27 : Tryd.prog.cellsOf 27 = 1 := by kernel_rfl
theorem bytes27 : Tryd.prog.bytesOf 27 = 4 := by kernel_rfl
theorem cells3 : Tryd.prog.cellsOf 3 = 1 := by kernel_rfl
theorem cells4 : Tryd.prog.cellsOf 4 = 1 := by kernel_rfl
theorem cells9 : Tryd.prog.cellsOf 9 = 1 := by kernel_rfl
theorem cells40 : Tryd.prog.cellsOf 40 = 3 := by kernel_rfl
theorem cells43 : Tryd.prog.cellsOf 43 = 2 := by kernel_rfl
theorem cells45 : Tryd.prog.cellsOf 45 = 4 := by kernel_rfl
theorem cells46 : Tryd.prog.cellsOf 46 = 4 := by kernel_rfl
theorem cells63 : Tryd.prog.cellsOf 63 = 1 := by kernel_rfl
theorem cells99 : Tryd.prog.cellsOf 99 = 20 := by kernel_rfl
theorem laidOut : laidOutB Tryd.prog = true := by kernel_rfl
theorem gTabType : (Tryd.prog.globals[3]?).map (·.type) = some 99 := by kernel_rfl
theorem gWkType : (Tryd.prog.globals[0]?).map (·.type) = some 45 := by kernel_rfl
theorem gNmType : (Tryd.prog.globals[1]?).map (·.type) = some 46 := by kernel_rfl
theorem gWk : Tryd.prog.globalNamed "routing/community.wellKnown" = some 0 := by kernel_rfl
theorem gNm : Tryd.prog.globalNamed "routing/community.names" = some 1 := by kernel_rfl

/-- an array of strings that reads as a known table holds its strings, cell for cell -/
theorem cells_of_strs {H : Type} {enc : TypeId × Value → H} {P : Program} {w : World} {base : Nat} {sp : Nat → Bool} {held : Bool} {fuel : Nat} {t e : TypeId} {n : Nat} {cs : List Value} {zs : List (List UInt8)} {p : List MemPlace}
    (ht : P.underlying t = some (.array n e)) (he : P.underlying e = some .string) (hce : P.cellsOf e = 1) (hct : P.cellsOf t = n)
    (h : DataW.trod enc P w base sp held fuel t cs = some (.agg (zs.map fun z => .lit (.string z)), p)) : cs = zs.map fun z => Value.string (bs z) := by
  cases fuel with
  | zero => simp [DataW.trod] at h
  | succ fuel =>
    simp only [DataW.trod, ht, hce, hct, Nat.mul_one] at h
    split at h
    · rename_i hl
      obtain ⟨xs, hm, hx⟩ := Option.map_eq_some_iff.1 h
      have hxs : xs.map (·.1) = zs.map fun z => (DataW.lit (.string z) : DataW H) := by
        have := congrArg Prod.fst hx
        simpa using this
      have hxl : xs.length = n := by simpa using Lib.mapM_length hm
      have hzl : zs.length = n := by
        have := congrArg List.length hxs
        simp at this
        omega
      apply List.ext_getElem?
      intro i
      by_cases hi : i < n
      · obtain ⟨b, hb, hf⟩ := Lib.mapM_at hm i i (by simp [hi])
        obtain ⟨s, hc, hbb, _⟩ := DataW.trod_string he hf
        have h1 : cs[i]? = some (.string s) := by
          have := congrArg (·[0]?) hc
          simpa [List.getElem?_take, List.getElem?_drop] using this
        have h2 : (xs.map (·.1))[i]? = some (DataW.lit (.string s.data.toList) : DataW H) := by simp [hb, hbb]
        rw [hxs] at h2
        simp only [List.getElem?_map, Option.map_eq_some_iff, DataW.lit.injEq, Lit.string.injEq] at h2
        obtain ⟨z', hz', hzz⟩ := h2
        rw [h1, List.getElem?_map, hz']
        simp only [Option.map_some, Option.some.injEq, Value.string.injEq]
        exact bs_of hzz.symm
      · rw [List.getElem?_eq_none (by omega), List.getElem?_eq_none (by simp; omega)]
    · cases h
theorem lt_of_laid {W : World} (h : laidMetH Tryd.prog Rows.communityCheckRow.laid W) : Lt W := by
  have a1 := laidMetH.filter (fun x => x.1 == "internal/strconv.uint64pow10") h
  have e1 : Rows.communityCheckRow.laid.filter (fun x => x.1 == "internal/strconv.uint64pow10") = [("internal/strconv.uint64pow10", Lib.tabData .u64 Lib.pow10Tab)] := by kernel_rfl
  rw [e1] at a1
  have hT : Tab W := Lib.tabIs_of_head (rest := []) gTab gTabType Tryd.underlying99 Tryd.underlying63 cells63 cells99 a1
  have a2 := laidMetH.filter (fun x => x.1 == "routing/community.wellKnown") h
  have e2 : Rows.communityCheckRow.laid.filter (fun x => x.1 == "routing/community.wellKnown") = [("routing/community.wellKnown", Lib.tabData .u32 [4294901760, 4294967041, 4294967042, 4294967043])] := by kernel_rfl
  rw [e2] at a2
  have hK : Lib.TabIs Tryd.prog W "routing/community.wellKnown" .u32 [4294901760, 4294967041, 4294967042, 4294967043] := Lib.tabIs_of_head (rest := []) gWk gWkType Tryd.underlying45 Tryd.underlying27 cells27 cells45 a2
  have a3 := laidMetH.filter (fun x => x.1 == "routing/community.names") h
  have e3 : Rows.communityCheckRow.laid.filter (fun x => x.1 == "routing/community.names") = [("routing/community.names", .agg ([T.nmA, T.nmB, T.nmC, T.nmD].map fun z => .lit (.string z)))] := by kernel_rfl
  rw [e3] at a3
  obtain ⟨ps, ⟨g', t', cs, fuel, p, q, hg', ht', hvar, hd, _, _⟩, _⟩ := a3
  obtain rfl := Option.some.inj (gNm.symm.trans hg')
  obtain rfl := Option.some.inj (gNmType.symm.trans ht')
  have hcs := cells_of_strs Tryd.underlying46 Tryd.underlying9 cells9 cells46 hd
  have hc := fun i => World.var?_cell gNm hvar i
  have c : ∀ i : Nat, W.cell? ⟨1, i, none⟩ = ([T.nmA, T.nmB, T.nmC, T.nmD].map fun z => Value.string (bs z))[i]? := fun i => by rw [hc i, ← Array.getElem?_toList, hcs]
  exact ⟨hT, hK.cell gWk 0 (by decide), hK.cell gWk 1 (by decide), hK.cell gWk 2 (by decide), hK.cell gWk 3 (by decide), c 0, c 1, c 2, c 3⟩

def pow10 : Array Value := #[.int .u64 1, .int .u64 10, .int .u64 100, .int .u64 1000, .int .u64 10000, .int .u64 100000, .int .u64 1000000, .int .u64 10000000, .int .u64 100000000, .int .u64 1000000000, .int .u64 10000000000, .int .u64 100000000000, .int .u64 1000000000000, .int .u64 10000000000000, .int .u64 100000000000000, .int .u64 1000000000000000, .int .u64 10000000000000000, .int .u64 100000000000000000, .int .u64 1000000000000000000, .int .u64 10000000000000000000]
def tab32 : Array Value := #[.int .u8 0, .int .u8 1, .int .u8 28, .int .u8 2, .int .u8 29, .int .u8 14, .int .u8 24, .int .u8 3, .int .u8 30, .int .u8 22, .int .u8 20, .int .u8 15, .int .u8 25, .int .u8 17, .int .u8 4, .int .u8 8, .int .u8 31, .int .u8 27, .int .u8 13, .int .u8 23, .int .u8 21, .int .u8 19, .int .u8 16, .int .u8 7, .int .u8 26, .int .u8 12, .int .u8 18, .int .u8 6, .int .u8 11, .int .u8 5, .int .u8 10, .int .u8 9]
def tab64 : Array Value := #[.int .u8 0, .int .u8 1, .int .u8 56, .int .u8 2, .int .u8 57, .int .u8 49, .int .u8 28, .int .u8 3, .int .u8 61, .int .u8 58, .int .u8 42, .int .u8 50, .int .u8 38, .int .u8 29, .int .u8 17, .int .u8 4, .int .u8 62, .int .u8 47, .int .u8 59, .int .u8 36, .int .u8 45, .int .u8 43, .int .u8 51, .int .u8 22, .int .u8 53, .int .u8 39, .int .u8 33, .int .u8 30, .int .u8 24, .int .u8 18, .int .u8 12, .int .u8 5, .int .u8 63, .int .u8 55, .int .u8 48, .int .u8 27, .int .u8 60, .int .u8 41, .int .u8 37, .int .u8 16, .int .u8 46, .int .u8 35, .int .u8 44, .int .u8 21, .int .u8 52, .int .u8 32, .int .u8 23, .int .u8 11, .int .u8 54, .int .u8 26, .int .u8 40, .int .u8 15, .int .u8 34, .int .u8 20, .int .u8 31, .int .u8 10, .int .u8 25, .int .u8 14, .int .u8 19, .int .u8 9, .int .u8 13, .int .u8 8, .int .u8 7, .int .u8 6]
def wkC : Array Value := #[.int .u32 4294901760, .int .u32 4294967041, .int .u32 4294967042, .int .u32 4294967043]
def nmC : Array Value := #[.string (bs T.nmA), .string (bs T.nmB), .string (bs T.nmC), .string (bs T.nmD)]
def lay (cs : Array Value) : Obj → Obj
  | .cells _ t frozen => .cells cs t frozen
  | o => o
/-- the settled world, the five tables holding what their initialisers lay -/
noncomputable def laidWorld (os : Os) : World :=
  { World.holding Tryd.prog os ⟨#[], #[], []⟩ with heap := (((((World.holding Tryd.prog os ⟨#[], #[], []⟩).heap.modify 0 (lay wkC)).modify 1 (lay nmC)).modify 3 (lay pow10)).modify 4 (lay tab32)).modify 5 (lay tab64) }
theorem laid_met (os : Os) (args : Array Value) : laidMet Tryd.prog Rows.communityCheckRow.laid ((laidWorld os).forCall (fun _ _ => 0) ⟨#[], args, []⟩).memory :=
  laidMet_of_run' 8 (by kernel_rfl) (by kernel_rfl)

section
variable {H : Type} {enc : TypeId × Value → H} {w : World}
theorem open_row {fuel : Nat} {spare : Nat → Bool} {cs : List Value} {x : DataW H × List MemPlace} (hf : DataW.trod enc Tryd.prog w 0 spare true fuel 22 cs = some x) :
    ∃ v l, cs = [v] ∧ Rd w v l ∧ NilV v ∧ (l = [] ∨ ∃ es sp, x.1 = .slice es sp ∧ es.length = l.length) := by
  rcases open_ints Tryd.underlying22 Tryd.underlying27 cells27 hf with ⟨rfl, _⟩ | ⟨a, len, cap, zs, rfl, hb, hl, hm, hlen, hx, hc, hw⟩
  · exact ⟨_, [], rfl, rd_nil w, (fun n c e => by cases e; rfl), .inl rfl⟩
  · have hle : len ≤ zs.length := by rw [hlen]; split <;> omega
    have hlt : ((zs.take len).map Int.toNat).length = len := by simp; omega
    have hd : x.1 = .slice (lits .u32 (zs.take len)) (lits .u32 (zs.drop len)) := by rw [hx]
    refine ⟨_, (zs.take len).map Int.toNat, rfl, ⟨some a, cap, by rw [hlt], ⟨by rw [hlt]; omega, by unfold maxLen at hm; omega⟩, ?_, ?_⟩, nilV_some _ _ _, .inr ⟨_, _, hd, ?_⟩⟩
    · intro x hx'
      obtain ⟨z, hz, rfl⟩ := List.mem_map.1 hx'
      have := bounds_u32 (hw z (List.mem_of_mem_take hz)); omega
    · intro k x hk
      have hkl : k < len := by have := (List.getElem?_eq_some_iff.1 hk).1; omega
      have hcell := hc k (by omega)
      have hsp : a.spot = none := by have := World.cell?_spot (hc 0 (by omega)); simpa [Addr.add] using this
      obtain ⟨b, off, spot⟩ := a
      obtain rfl : spot = none := hsp
      rw [Addr.add_lit] at hcell
      refine ⟨b, off, rfl, World.block_lt_of_cell? _ _ hcell, ?_⟩
      rw [hcell]
      have hz : zs.getD k 0 ∈ zs := by
        have e : zs.getD k 0 = zs[k]'(by omega) := by simp [List.getD]; rw [List.getElem?_eq_getElem (by omega)]; rfl
        rw [e]; exact List.getElem_mem _
      have hb := bounds_u32 (hw _ hz)
      rw [List.getElem?_map, List.getElem?_take, if_pos hkl] at hk
      have e : zs[k]? = some (zs.getD k 0) := by rw [List.getElem?_eq_getElem (by omega : k < zs.length)]; simp [List.getD]; rw [List.getElem?_eq_getElem (by omega)]; rfl
      rw [e] at hk
      simp at hk
      rw [← hk]
      simp only [Option.some.injEq]
      congr 1
      simp at hb ⊢
      omega
    · rw [hlt]; simp [lits]; omega
theorem open_list {r : Reach} {b0 : Nat} {spare : Nat → Bool} {v : Value} {d : DataW H} {p : List MemPlace}
    (hv : Value.okWide Tryd.prog w r b0 22 v) (h : DataW.Trod enc Tryd.prog w 0 spare true 22 v d p) : ∃ l, Rd w v l ∧ NilV v ∧ (l = [] ∨ ∃ es sp, d = .slice es sp ∧ es.length = l.length) := by
  obtain ⟨a0, len, cap, rfl⟩ := okWide_slice Tryd.underlying22 hv
  obtain ⟨fuel, hf⟩ := h
  obtain ⟨v', l, e, h1, h2, h3⟩ := open_row hf
  simp [Value.cells] at e
  subst e
  exact ⟨l, h1, h2, h3⟩
theorem list_size {ts : List TypeId} {ds : List (DataW H)} {j : Nat} {d : DataW H} {l : List Nat} (hsz : (DataW.weightsEach Tryd.prog ts ds).all (· ≤ reachBytes) = true) (ht : ts[j]? = some 22) (hd : ds[j]? = some d)
    (h : l = [] ∨ ∃ es sp, d = .slice es sp ∧ es.length = l.length) : l.length ≤ 1000000000000000 := by
  rcases h with rfl | ⟨es, sp, rfl, he⟩
  · simp
  · have := sized_slice hsz ht hd Tryd.underlying22
    rw [bytes27] at this
    unfold reachBytes at this
    omega
theorem open_u32 {r : Reach} {b0 : Nat} {spare : Nat → Bool} {v : Value} {d : DataW H} {p : List MemPlace} (hv : Value.okWide Tryd.prog w r b0 27 v) (h : DataW.Trod enc Tryd.prog w 0 spare true 27 v d p) :
    ∃ x : Nat, v = .int .u32 x ∧ x < 4294967296 := by
  obtain ⟨a, rfl, rfl, rfl, wa⟩ := open_int Tryd.underlying27 hv h
  have b0 := bounds_u32 wa
  obtain ⟨x, rfl⟩ := Int.eq_ofNat_of_zero_le b0.1
  exact ⟨x, rfl, by omega⟩
theorem list_len (s : ByteArray) : s.data.toList.length = s.size := by simp
theorem open_str {r : Reach} {b0 : Nat} {spare : Nat → Bool} {v : Value} {d : DataW H} {p : List MemPlace} (hv : Value.okWide Tryd.prog w r b0 9 v) (h : DataW.Trod enc Tryd.prog w 0 spare true 9 v d p) :
    ∃ s : ByteArray, v = .string s ∧ d = .lit (.string s.data.toList) := by
  obtain ⟨s, h1, h2, _, _⟩ := ChangeMaps.open_string Tryd.underlying9 hv h
  exact ⟨s, h1, h2⟩
theorem str_len {ts : List TypeId} {ds : List (DataW H)} {j : Nat} {s : ByteArray} (hsz : (DataW.weightsEach Tryd.prog ts ds).all (· ≤ reachBytes) = true) (ht : ts[j]? = some 9) (hd : ds[j]? = some (.lit (.string s.data.toList))) : s.size ≤ 140737488351232 := by
  have := sized_string hsz ht hd
  rw [list_len] at this
  unfold reachBytes at this
  omega
theorem open_pair {r : Reach} {b0 : Nat} {spare : Nat → Bool} {v : Value} {d : DataW H} {p : List MemPlace} (hv : Value.okWide Tryd.prog w r b0 43 v) (h : DataW.Trod enc Tryd.prog w 0 spare true 43 v d p) :
    ∃ x y : Nat, v = .agg #[.int .u32 x, .int .u32 y] ∧ x < 4294967296 ∧ y < 4294967296 := by
  obtain ⟨cs, rfl, hsz⟩ : ∃ cs : Array Value, v = .agg cs ∧ cs.size = 2 := by
    simp only [Value.okWide, Tryd.underlying43] at hv
    obtain ⟨cs, h1, h2, _⟩ := hv
    exact ⟨cs, h1, by rw [h2, cells43]⟩
  obtain ⟨fuel, hf⟩ := h
  cases fuel with
  | zero => simp [DataW.trod] at hf
  | succ fuel =>
    simp only [DataW.trod, Tryd.underlying43, cells27, cells43, Nat.mul_one, Value.cells] at hf
    split at hf
    · rename_i hl
      obtain ⟨xs, hm, hx⟩ := Option.map_eq_some_iff.1 hf
      obtain ⟨y0, _, hf0⟩ := Lib.mapM_at hm 0 0 (by simp)
      obtain ⟨y1, _, hf1⟩ := Lib.mapM_at hm 1 1 (by simp)
      obtain ⟨a, ha, _, wa⟩ := DataW.trod_int Tryd.underlying27 hf0
      obtain ⟨b, hb, _, wb⟩ := DataW.trod_int Tryd.underlying27 hf1
      have ba := bounds_u32 wa
      have bb := bounds_u32 wb
      obtain ⟨x, rfl⟩ := Int.eq_ofNat_of_zero_le ba.1
      obtain ⟨y, rfl⟩ := Int.eq_ofNat_of_zero_le bb.1
      refine ⟨x, y, ?_, by omega, by omega⟩
      obtain ⟨l⟩ := cs
      match l, hsz with
      | [c0, c1], _ =>
        simp at ha hb
        rw [ha, hb]
    · cases hf
theorem trod_rule {base : Nat} {spare : Nat → Bool} {held : Bool} {n : Nat} {cs : List Value} {x : DataW H × List MemPlace} {f0 f1 f2 : Field} (ht : Tryd.prog.underlying 40 = some (.struct #[f0, f1, f2]))
    (g : f0.type = 4 ∧ f1.type = 3 ∧ f2.type = 3 ∧ f0.offset = 0 ∧ f1.offset = 1 ∧ f2.offset = 2) (h : DataW.trod enc Tryd.prog w base spare held n 40 cs = some x) :
    ∃ e : Ru, cs = [.bool e.1, .int .i64 e.2.1, .int .i64 e.2.2] := by
  obtain ⟨y0, y1, y2, n', _, hlen, h0, h1, h2⟩ := Deep.trod_struct3 ht h
  obtain ⟨g0, g1, g2, o0, o1, o2⟩ := g
  rw [cells40] at hlen
  rw [g0, o0, cells4] at h0
  rw [g1, o1, cells3] at h1
  rw [g2, o2, cells3] at h2
  match cs, hlen with
  | [c0, c1, c2], _ =>
    have h0' : DataW.trod enc Tryd.prog w base spare held n' 4 [c0] = some y0 := h0
    have h1' : DataW.trod enc Tryd.prog w base spare held n' 3 [c1] = some y1 := h1
    have h2' : DataW.trod enc Tryd.prog w base spare held n' 3 [c2] = some y2 := h2
    obtain ⟨a, e0, _⟩ := DataW.trod_bool Tryd.underlying4 h0'
    obtain ⟨b, e1, _, wb⟩ := DataW.trod_int Tryd.underlying3 h1'
    obtain ⟨c, e2, _, wc⟩ := DataW.trod_int Tryd.underlying3 h2'
    simp at e0 e1 e2
    subst e0 e1 e2
    exact ⟨(a, b, c), rfl⟩
theorem open_rules {r : Reach} {b0 : Nat} {spare : Nat → Bool} {v : Value} {d : DataW H} {p : List MemPlace}
    (hv : Value.okWide Tryd.prog w r b0 38 v) (h : DataW.Trod enc Tryd.prog w 0 spare true 38 v d p) : ∃ rs, RdU w v rs := by
  obtain ⟨a0, len0, cap0, rfl⟩ := okWide_slice Tryd.underlying38 hv
  obtain ⟨fuel, hf⟩ := h
  rcases Deep.open_slice Tryd.underlying38 hf with ⟨hcs, _⟩ | ⟨a, len, cap, m, n, D, Pl, hcs, _, hl, hm, hmm, _, hi⟩
  · simp [Value.cells] at hcs
    obtain ⟨rfl, rfl, rfl⟩ := hcs
    exact ⟨[], none, 0, rfl, ⟨Nat.le_refl _, by omega⟩, fun k x h => by simp at h⟩
  · simp [Value.cells] at hcs
    obtain ⟨rfl, rfl, rfl⟩ := hcs
    rename_i len cap
    have hle : len0 ≤ m := by rw [hmm]; split <;> omega
    have hx : ∀ i, i < len0 → ∃ x : Ru, w.cell? (a.add (i * 3)) = some (.bool x.1) ∧ w.cell? (a.add (i * 3 + 1)) = some (.int .i64 x.2.1) ∧ w.cell? (a.add (i * 3 + 2)) = some (.int .i64 x.2.2) := by
      intro i him
      obtain ⟨cs', hcc, ht⟩ := hi i (by omega)
      rw [cells40] at hcc
      obtain ⟨_, hlen, hat⟩ := World.cells?_some hcc
      obtain ⟨e, rfl⟩ := trod_rule Tryd.underlying40 ⟨rfl, rfl, rfl, rfl, rfl, rfl⟩ ht
      have k0 := hat 0 (by omega)
      have k1 := hat 1 (by omega)
      have k2 := hat 2 (by omega)
      refine ⟨e, ?_, ?_, ?_⟩
      · rw [Deep.add_add] at k0; exact k0
      · rw [Deep.add_add] at k1; exact k1
      · rw [Deep.add_add] at k2; exact k2
    obtain ⟨Vf, hV⟩ := Deep.choose_lt hx
    refine ⟨(List.range len0).map Vf, some a, cap0, by simp, ⟨by simpa using hl, by unfold maxLen at hm; omega⟩, fun k x hk => ?_⟩
    have hkl : k < len0 := by have := (List.getElem?_eq_some_iff.1 hk).1; simpa using this
    have e : x = Vf k := by simpa [hkl] using hk.symm
    subst e
    obtain ⟨c0, c1, c2⟩ := hV k hkl
    have hsp : a.spot = none := by simpa [Addr.add] using World.cell?_spot (hV 0 (by omega)).1
    obtain ⟨b, off, spot⟩ := a
    obtain rfl : spot = none := hsp
    rw [Addr.add_lit] at c0 c1 c2
    exact ⟨b, off, rfl, World.block_lt_of_cell? _ _ c0, c0, by rw [Nat.add_assoc]; exact c1, by rw [Nat.add_assoc]; exact c2⟩
theorem trodAll_below {W W' : World} (hb : Below W.heap.size W W') : ∀ {ts : List TypeId} {vs : List Value} {ds : List (DataW H)} {ps : List MemPlace},
    (∀ t ∈ ts, Tryd.prog.readableRec t = true ∧ t < Tryd.prog.types.size) → DataW.TrodAll enc Tryd.prog W 0 (fun _ => true) true ts vs ds ps → (∀ x ∈ ps, x.block < W.heap.size) →
    DataW.TrodAll enc Tryd.prog W' 0 (fun b => decide (b < W.heap.size)) true ts vs ds ps
  | [], vs, ds, ps, _, h, _ => by
    obtain ⟨rfl, rfl, rfl⟩ := trodAll_nil h
    exact trodAll_mk0
  | t :: ts, vs, ds, ps, hr, h, hlt => by
    obtain ⟨v0, vs0, d0, ds0, p0, q0, rfl, rfl, rfl, h0, r0⟩ := trodAll_cons h
    exact trodAll_cons_mk (Below.trod laidOut (hr t (by simp)).1 (hr t (by simp)).2 h0 hb (fun x hx => hlt x (by simp [hx])))
      (trodAll_below hb (fun t ht => hr t (by simp [ht])) r0 (fun x hx => hlt x (by simp [hx])))
end
end Go.Proofs.YtaniiennfogjaaaDoor
