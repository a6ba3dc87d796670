/-
  What all proofs over this seat's rows share: how arguments are opened, how they read behind a call that only makes memory, a world for the witness.
-/
import Derived.Test.YtiiojkekcnmddaaDoorPlC
import Derived.Test.YtiiojkekcnmddaaDoorPlH
import Derived.Test.YtiiojkekcnmddaaDoorCards
import Derived.Test.YtiiojkekcnmddaaDoorTie
import Derived.ProofKit
import Derived.OpenShut
import Derived.SizedLaws
import Derived.Carry
import Derived.Deep.Slices
import Derived.Deep.Strs
import Derived.Deep.DeepHandedRow
import Derived.Lib.LaidTab
import Derived.LaidSub
import Derived.Lib.SmallJoins
import Derived.Stop.LaidErr
namespace Go.Proofs.YtiiojkekcnmddaaDoor
set_option maxRecDepth 100000
set_option linter.unusedSimpArgs false
set_option linter.unusedVariables false
open Go.ChangeShapes Go.WideShapes Go.ChangeAt Go.RowKit

theorem own : ownKnob Tryd.prog.godebug = none := by kernel_rfl
theorem cells3 : Tryd.prog.cellsOf 3 = 1 := by kernel_rfl
theorem cells4 : Tryd.prog.cellsOf 4 = 1 := by kernel_rfl
theorem cells9 : Tryd.prog.cellsOf 9 = 1 := by kernel_rfl
theorem cells23 : Tryd.prog.cellsOf 23 = 1 := by kernel_rfl
theorem cells25 : Tryd.prog.cellsOf 25 = 2 := by kernel_rfl
theorem cells27 : Tryd.prog.cellsOf 27 = 5 := by kernel_rfl
theorem cells60 : Tryd.prog.cellsOf 60 = 1 := by kernel_rfl
theorem cells98 : Tryd.prog.cellsOf 98 = 20 := by kernel_rfl
theorem laidOut : laidOutB Tryd.prog = true := by kernel_rfl
theorem gTabType : (Tryd.prog.globals[0]?).map (·.type) = some 98 := by kernel_rfl
theorem star : "*" ++ "errors.errorString" = "*errors.errorString" := by decide
theorem row114 (u : TypeId) (h : Tryd.prog.typeName? 3 u = some "*errors.errorString") : u = 114 :=
  typeName_ptr_named (nm := "errors.errorString") (by rw [star]; kernel_rfl) (by kernel_rfl) (by decide) u (by rw [star]; exact h)
theorem lt_of_laid {W : World} (h : laidMetH Tryd.prog Rows.plistCheckRow.laid W) : Lt W := by
  have a1 := laidMetH.filter (fun x => x.1 == "internal/strconv.uint64pow10") h
  have e1 : Rows.plistCheckRow.laid.filter (fun x => x.1 == "internal/strconv.uint64pow10") = [("internal/strconv.uint64pow10", Lib.tabData .u64 Lib.pow10Tab)] := by kernel_rfl
  rw [e1] at a1
  have hT : Tab W := Lib.tabIs_of_head (rest := []) gTab gTabType Tryd.underlying98 Tryd.underlying60 cells60 cells98 a1
  have a2 := laidMetH.filter (fun x => x.1 == "strconv.ErrSyntax") h
  have e2 : Rows.plistCheckRow.laid.filter (fun x => x.1 == "strconv.ErrSyntax") = [("strconv.ErrSyntax", .iface "*errors.errorString" (.ptr (.agg [.lit (.string [105, 110, 118, 97, 108, 105, 100, 32, 115, 121, 110, 116, 97, 120])])))] := by kernel_rfl
  rw [e2] at a2
  have a3 := laidMetH.filter (fun x => x.1 == "strconv.ErrRange") h
  have e3 : Rows.plistCheckRow.laid.filter (fun x => x.1 == "strconv.ErrRange") = [("strconv.ErrRange", .iface "*errors.errorString" (.ptr (.agg [.lit (.string [118, 97, 108, 117, 101, 32, 111, 117, 116, 32, 111, 102, 32, 114, 97, 110, 103, 101])])))] := by kernel_rfl
  rw [e3] at a3
  obtain ⟨b0, t0, hv0, _⟩ := laid_sentinel (g := 2) a2 gSyn (by kernel_rfl) Tryd.underlying64 row114 Tryd.underlying114 Tryd.underlying116 rfl rfl Tryd.underlying9 (by kernel_rfl) cells9
  obtain ⟨b1, t1, hv1, _⟩ := laid_sentinel (g := 3) a3 gRng (by kernel_rfl) Tryd.underlying64 row114 Tryd.underlying114 Tryd.underlying116 rfl rfl Tryd.underlying9 (by kernel_rfl) cells9
  exact ⟨hT, ⟨_, _, hv0⟩, ⟨_, _, hv1⟩⟩

def pow10 : Array Value := #[.int .u64 1, .int .u64 10, .int .u64 100, .int .u64 1000, .int .u64 10000, .int .u64 100000, .int .u64 1000000, .int .u64 10000000, .int .u64 100000000, .int .u64 1000000000, .int .u64 10000000000, .int .u64 100000000000, .int .u64 1000000000000, .int .u64 10000000000000, .int .u64 100000000000000, .int .u64 1000000000000000, .int .u64 10000000000000000, .int .u64 100000000000000000, .int .u64 1000000000000000000, .int .u64 10000000000000000000]
def tab32 : Array Value := #[.int .u8 0, .int .u8 1, .int .u8 28, .int .u8 2, .int .u8 29, .int .u8 14, .int .u8 24, .int .u8 3, .int .u8 30, .int .u8 22, .int .u8 20, .int .u8 15, .int .u8 25, .int .u8 17, .int .u8 4, .int .u8 8, .int .u8 31, .int .u8 27, .int .u8 13, .int .u8 23, .int .u8 21, .int .u8 19, .int .u8 16, .int .u8 7, .int .u8 26, .int .u8 12, .int .u8 18, .int .u8 6, .int .u8 11, .int .u8 5, .int .u8 10, .int .u8 9]
def tab64 : Array Value := #[.int .u8 0, .int .u8 1, .int .u8 56, .int .u8 2, .int .u8 57, .int .u8 49, .int .u8 28, .int .u8 3, .int .u8 61, .int .u8 58, .int .u8 42, .int .u8 50, .int .u8 38, .int .u8 29, .int .u8 17, .int .u8 4, .int .u8 62, .int .u8 47, .int .u8 59, .int .u8 36, .int .u8 45, .int .u8 43, .int .u8 51, .int .u8 22, .int .u8 53, .int .u8 39, .int .u8 33, .int .u8 30, .int .u8 24, .int .u8 18, .int .u8 12, .int .u8 5, .int .u8 63, .int .u8 55, .int .u8 48, .int .u8 27, .int .u8 60, .int .u8 41, .int .u8 37, .int .u8 16, .int .u8 46, .int .u8 35, .int .u8 44, .int .u8 21, .int .u8 52, .int .u8 32, .int .u8 23, .int .u8 11, .int .u8 54, .int .u8 26, .int .u8 40, .int .u8 15, .int .u8 34, .int .u8 20, .int .u8 31, .int .u8 10, .int .u8 25, .int .u8 14, .int .u8 19, .int .u8 9, .int .u8 13, .int .u8 8, .int .u8 7, .int .u8 6]
def lay (cs : Array Value) : Obj → Obj
  | .cells _ t frozen => .cells cs t frozen
  | o => o
/-- the settled world with the two errors' blocks, the five variables holding what their initialisers lay -/
noncomputable def laidWorld (os : Os) : World :=
  let N := (World.settled Tryd.prog os).heap.size
  let w0 := World.holding Tryd.prog os ⟨#[.cells #[.string ⟨#[105, 110, 118, 97, 108, 105, 100, 32, 115, 121, 110, 116, 97, 120]⟩] 116, .cells #[.string ⟨#[118, 97, 108, 117, 101, 32, 111, 117, 116, 32, 111, 102, 32, 114, 97, 110, 103, 101]⟩] 116], #[], []⟩
  { w0 with heap := ((((w0.heap.modify 0 (lay pow10)).modify 2 (lay #[.iface 114 (.pointer (some ⟨N, 0, none⟩))])).modify 3 (lay #[.iface 114 (.pointer (some ⟨N + 1, 0, none⟩))])).modify 4 (lay tab32)).modify 5 (lay tab64) }
theorem laid_met (os : Os) (args : Array Value) : laidMet Tryd.prog Rows.plistCheckRow.laid ((laidWorld os).forCall (fun _ _ => 0) ⟨#[], args, []⟩).memory :=
  laidMet_of_run' 8 (by kernel_rfl) (by kernel_rfl)

def encR (r : Ru) : List Value := [.bool r.1, .int .u32 (r.2.1.1 : Int), .int .i64 r.2.1.2, .int .i64 r.2.2.1, .int .i64 r.2.2.2]
section
variable {H : Type} {enc : TypeId × Value → H} {w : World}
theorem trod_pre {base : Nat} {spare : Nat → Bool} {held : Bool} {n : Nat} {cs : List Value} {x : DataW H × List MemPlace} {f0 f1 : Field} (ht : Tryd.prog.underlying 25 = some (.struct #[f0, f1]))
    (g : f0.type = 23 ∧ f1.type = 3 ∧ f0.offset = 0 ∧ f1.offset = 1) (h : DataW.trod enc Tryd.prog w base spare held n 25 cs = some x) :
    ∃ (a : Nat) (m : Int), cs = [.int .u32 (a : Int), .int .i64 m] ∧ a < 4294967296 ∧ I64 m := by
  obtain ⟨y0, y1, n', _, hlen, h0, h1⟩ := trod_struct2 ht h
  obtain ⟨g0, g1, o0, o1⟩ := g
  rw [cells25] at hlen
  rw [g0, o0, cells23] at h0
  rw [g1, o1, cells3] at h1
  match cs, hlen with
  | [c0, c1], _ =>
    have h0' : DataW.trod enc Tryd.prog w base spare held n' 23 [c0] = some y0 := h0
    have h1' : DataW.trod enc Tryd.prog w base spare held n' 3 [c1] = some y1 := h1
    obtain ⟨a, e0, _, wa⟩ := DataW.trod_int Tryd.underlying23 h0'
    obtain ⟨b, e1, _, wb⟩ := DataW.trod_int Tryd.underlying3 h1'
    simp at e0 e1
    subst e0 e1
    have b0 := bounds_u32 wa
    obtain ⟨x, rfl⟩ := Int.eq_ofNat_of_zero_le b0.1
    exact ⟨x, b, rfl, by omega, bounds_i64 wb⟩
theorem trod_rule {base : Nat} {spare : Nat → Bool} {held : Bool} {n : Nat} {cs : List Value} {x : DataW H × List MemPlace} {f0 f1 f2 f3 : Field} (ht : Tryd.prog.underlying 27 = some (.struct #[f0, f1, f2, f3]))
    (g : f0.type = 4 ∧ f1.type = 25 ∧ f2.type = 3 ∧ f3.type = 3 ∧ f0.offset = 0 ∧ f1.offset = 1 ∧ f2.offset = 3 ∧ f3.offset = 4) (h : DataW.trod enc Tryd.prog w base spare held n 27 cs = some x) :
    ∃ r : Ru, cs = encR r ∧ RuOk r := by
  obtain ⟨y0, y1, y2, y3, n', _, hlen, h0, h1, h2, h3⟩ := Joins.trod_struct4 ht h
  obtain ⟨g0, g1, g2, g3, o0, o1, o2, o3⟩ := g
  rw [cells27] at hlen
  rw [g0, o0, cells4] at h0
  rw [g1, o1, cells25] at h1
  rw [g2, o2, cells3] at h2
  rw [g3, o3, cells3] at h3
  match cs, hlen with
  | [c0, c1, c2, c3, c4], _ =>
    have h0' : DataW.trod enc Tryd.prog w base spare held n' 4 [c0] = some y0 := h0
    have h1' : DataW.trod enc Tryd.prog w base spare held n' 25 [c1, c2] = some y1 := h1
    have h2' : DataW.trod enc Tryd.prog w base spare held n' 3 [c3] = some y2 := h2
    have h3' : DataW.trod enc Tryd.prog w base spare held n' 3 [c4] = some y3 := h3
    obtain ⟨b, e0, _⟩ := DataW.trod_bool Tryd.underlying4 h0'
    obtain ⟨a, m, e1, ha, hm⟩ := trod_pre Tryd.underlying25 ⟨rfl, rfl, rfl, rfl⟩ h1'
    obtain ⟨u, e2, _, wu⟩ := DataW.trod_int Tryd.underlying3 h2'
    obtain ⟨v, e3, _, wv⟩ := DataW.trod_int Tryd.underlying3 h3'
    simp at e0 e1 e2 e3
    obtain ⟨e1, e1'⟩ := e1
    subst e0 e1 e1' e2 e3
    exact ⟨(b, (a, m), u, v), rfl, ha, hm, bounds_i64 wu, bounds_i64 wv⟩
theorem open_rule {r : Reach} {b0 : Nat} {spare : Nat → Bool} {v : Value} {d : DataW H} {p : List MemPlace} (hv : Value.okWide Tryd.prog w r b0 27 v) (h : DataW.Trod enc Tryd.prog w 0 spare true 27 v d p) :
    ∃ x : Ru, v = ruV x ∧ RuOk x := by
  obtain ⟨cs, rfl, hsz⟩ : ∃ cs : Array Value, v = .agg cs ∧ cs.size = 5 := by
    simp only [Value.okWide, Tryd.underlying27] at hv
    obtain ⟨cs, h1, h2, _⟩ := hv
    exact ⟨cs, h1, by rw [h2, cells27]⟩
  obtain ⟨fuel, hf⟩ := h
  obtain ⟨x, hx, ho⟩ := trod_rule Tryd.underlying27 ⟨rfl, rfl, rfl, rfl, rfl, rfl, rfl, rfl⟩ hf
  refine ⟨x, ?_, ho⟩
  have e : cs.toList = encR x := by simpa [Value.cells] using hx
  obtain ⟨l⟩ := cs
  simp at e
  subst e
  rfl
theorem open_pre {r : Reach} {b0 : Nat} {spare : Nat → Bool} {v : Value} {d : DataW H} {p : List MemPlace} (hv : Value.okWide Tryd.prog w r b0 25 v) (h : DataW.Trod enc Tryd.prog w 0 spare true 25 v d p) :
    ∃ x : Nat × Int, v = .agg #[.int .u32 (x.1 : Int), .int .i64 x.2] ∧ x.1 < 4294967296 ∧ I64 x.2 := by
  obtain ⟨cs, rfl, hsz⟩ : ∃ cs : Array Value, v = .agg cs ∧ cs.size = 2 := by
    simp only [Value.okWide, Tryd.underlying25] at hv
    obtain ⟨cs, h1, h2, _⟩ := hv
    exact ⟨cs, h1, by rw [h2, cells25]⟩
  obtain ⟨fuel, hf⟩ := h
  obtain ⟨a, m, hx, ha, hm⟩ := trod_pre Tryd.underlying25 ⟨rfl, rfl, rfl, rfl⟩ hf
  refine ⟨(a, m), ?_, ha, hm⟩
  have e : cs.toList = [.int .u32 (a : Int), .int .i64 m] := by simpa [Value.cells] using hx
  obtain ⟨l⟩ := cs
  simp at e
  subst e
  rfl
theorem open_rules {r : Reach} {b0 : Nat} {spare : Nat → Bool} {v : Value} {d : DataW H} {p : List MemPlace}
    (hv : Value.okWide Tryd.prog w r b0 32 v) (h : DataW.Trod enc Tryd.prog w 0 spare true 32 v d p) : ∃ rs, RdU w v rs ∧ ∀ c, v = .slice none 0 c → c = 0 := by
  obtain ⟨a0, len0, cap0, rfl⟩ := okWide_slice Tryd.underlying32 hv
  obtain ⟨fuel, hf⟩ := h
  rcases Deep.open_slice Tryd.underlying32 hf with ⟨hcs, _⟩ | ⟨a, len, cap, m, n, D, Pl, hcs, _, hl, hm, hmm, _, hi⟩
  · simp [Value.cells] at hcs
    obtain ⟨rfl, rfl, rfl⟩ := hcs
    exact ⟨[], rdU_nil w, fun c e => by cases e; rfl⟩
  · simp [Value.cells] at hcs
    obtain ⟨rfl, rfl, rfl⟩ := hcs
    rename_i len cap
    have hle : len0 ≤ m := by rw [hmm]; split <;> omega
    have hx : ∀ i, i < len0 → ∃ x : Ru, RuOk x ∧ w.cell? (a.add (i * 5)) = some (.bool x.1) ∧ w.cell? (a.add (i * 5 + 1)) = some (.int .u32 (x.2.1.1 : Int)) ∧ w.cell? (a.add (i * 5 + 2)) = some (.int .i64 x.2.1.2) ∧ w.cell? (a.add (i * 5 + 3)) = some (.int .i64 x.2.2.1) ∧ w.cell? (a.add (i * 5 + 4)) = some (.int .i64 x.2.2.2) := by
      intro i him
      obtain ⟨cs', hcc, ht⟩ := hi i (by omega)
      rw [cells27] at hcc
      obtain ⟨_, hlen, hat⟩ := World.cells?_some hcc
      obtain ⟨e, rfl, ho⟩ := trod_rule Tryd.underlying27 ⟨rfl, rfl, rfl, rfl, rfl, rfl, rfl, rfl⟩ ht
      have k0 := hat 0 (by omega)
      have k1 := hat 1 (by omega)
      have k2 := hat 2 (by omega)
      have k3 := hat 3 (by omega)
      have k4 := hat 4 (by omega)
      refine ⟨e, ho, ?_, ?_, ?_, ?_, ?_⟩
      · rw [Deep.add_add] at k0; exact k0
      · rw [Deep.add_add] at k1; exact k1
      · rw [Deep.add_add] at k2; exact k2
      · rw [Deep.add_add] at k3; exact k3
      · rw [Deep.add_add] at k4; exact k4
    obtain ⟨Vf, hV⟩ := Deep.choose_lt hx
    refine ⟨(List.range len0).map Vf, ⟨some a, cap0, by simp, ⟨by simpa using hl, by unfold maxLen at hm; omega⟩, fun x hx => ?_, fun k x hk => ?_⟩, fun c e => by cases e⟩
    · obtain ⟨k, hk, rfl⟩ := List.mem_map.1 hx
      exact (hV k (List.mem_range.1 hk)).1
    · have hkl : k < len0 := by have := (List.getElem?_eq_some_iff.1 hk).1; simpa using this
      have e : x = Vf k := by simpa [hkl] using hk.symm
      subst e
      obtain ⟨_, c0, c1, c2, c3, c4⟩ := hV k hkl
      have hsp : a.spot = none := by simpa [Addr.add] using World.cell?_spot (hV 0 (by omega)).2.1
      obtain ⟨b, off, spot⟩ := a
      obtain rfl : spot = none := hsp
      rw [Addr.add_lit] at c0 c1 c2 c3 c4
      exact ⟨b, off, rfl, World.block_lt_of_cell? _ _ c0, c0, by rw [Nat.add_assoc]; exact c1, by rw [Nat.add_assoc]; exact c2, by rw [Nat.add_assoc]; exact c3, by rw [Nat.add_assoc]; exact c4⟩
theorem open_str {r : Reach} {b0 : Nat} {spare : Nat → Bool} {v : Value} {d : DataW H} {p : List MemPlace} (hv : Value.okWide Tryd.prog w r b0 9 v) (h : DataW.Trod enc Tryd.prog w 0 spare true 9 v d p) :
    ∃ s : ByteArray, v = .string s ∧ d = .lit (.string s.data.toList) := by
  obtain ⟨s, h1, h2, _, _⟩ := ChangeMaps.open_string Tryd.underlying9 hv h
  exact ⟨s, h1, h2⟩
theorem str_len {ts : List TypeId} {ds : List (DataW H)} {j : Nat} {s : ByteArray} (hsz : (DataW.weightsEach Tryd.prog ts ds).all (· ≤ reachBytes) = true) (ht : ts[j]? = some 9) (hd : ds[j]? = some (.lit (.string s.data.toList))) : s.size ≤ 140737488351232 := by
  have := sized_string hsz ht hd
  rw [list_len] at this
  unfold reachBytes at this
  omega
theorem trodAll_below {W W' : World} (hb : Below W.heap.size W W') : ∀ {ts : List TypeId} {vs : List Value} {ds : List (DataW H)} {ps : List MemPlace},
    (∀ t ∈ ts, Tryd.prog.readableRec t = true ∧ t < Tryd.prog.types.size) → DataW.TrodAll enc Tryd.prog W 0 (fun _ => true) true ts vs ds ps → (∀ x ∈ ps, x.block < W.heap.size) →
    DataW.TrodAll enc Tryd.prog W' 0 (fun b => decide (b < W.heap.size)) true ts vs ds ps
  | [], vs, ds, ps, _, h, _ => by
    obtain ⟨rfl, rfl, rfl⟩ := trodAll_nil h
    exact trodAll_mk0
  | t :: ts, vs, ds, ps, hr, h, hlt => by
    obtain ⟨v0, vs0, d0, ds0, p0, q0, rfl, rfl, rfl, h0, r0⟩ := trodAll_cons h
    exact trodAll_cons_mk (Below.trod laidOut (hr t (by simp)).1 (hr t (by simp)).2 h0 hb (fun x hx => hlt x (by simp [hx])))
      (trodAll_below hb (fun t ht => hr t (by simp [ht])) r0 (fun x hx => hlt x (by simp [hx])))
end
end Go.Proofs.YtiiojkekcnmddaaDoor
