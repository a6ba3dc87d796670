/-
  What all proofs over this seat's rows share: the tables that the rows list, how a prefix argument is opened and shut, a world for the witness.
-/
import Derived.Test.YtbcgfgklajdelaaDoorWalkP
import Derived.Test.YtbcgfgklajdelaaDoorCards
import Derived.Test.YtbcgfgklajdelaaDoorTie
import Derived.ProofKit
import Derived.OpenShut
import Derived.Deep.DeepHandedRow
import Derived.Lib.SmallJoins
import Derived.SizedLaws
import Derived.LaidSub
namespace Go.Proofs.YtbcgfgklajdelaaDoor
set_option maxRecDepth 100000
open Go.ChangeShapes Go.WideShapes Go.ChangeAt Go.RowKit Go.Joins

theorem own : ownKnob Tryd.prog.godebug = none := by kernel_rfl
theorem gTabType : (Tryd.prog.globals[1]?).map (·.type) = some 104 := by kernel_rfl
theorem cells104 : Tryd.prog.cellsOf 104 = 20 := by kernel_rfl
theorem cells90 : Tryd.prog.cellsOf 90 = 1 := by kernel_rfl
theorem cells25 : Tryd.prog.cellsOf 25 = 2 := by kernel_rfl
theorem tab_of_laid {W : World} (h : laidMetH Tryd.prog Rows.prefixTellsRow.laid W) : Tab W := by
  have h2 := laidMetH.filter (fun x => x.1 == "internal/strconv.uint64pow10") h
  have e : Rows.prefixTellsRow.laid.filter (fun x => x.1 == "internal/strconv.uint64pow10") = [("internal/strconv.uint64pow10", Lib.tabData .u64 Lib.pow10Tab)] := by kernel_rfl
  rw [e] at h2
  exact Lib.tabIs_of_head (rest := []) gTab gTabType Tryd.underlying104 Tryd.underlying90 cells90 cells104 h2

def pow10 : Array Value := #[.int .u64 1, .int .u64 10, .int .u64 100, .int .u64 1000, .int .u64 10000, .int .u64 100000, .int .u64 1000000, .int .u64 10000000, .int .u64 100000000, .int .u64 1000000000, .int .u64 10000000000, .int .u64 100000000000, .int .u64 1000000000000, .int .u64 10000000000000, .int .u64 100000000000000, .int .u64 1000000000000000, .int .u64 10000000000000000, .int .u64 100000000000000000, .int .u64 1000000000000000000, .int .u64 10000000000000000000]
def tab32 : Array Value := #[.int .u8 0, .int .u8 1, .int .u8 28, .int .u8 2, .int .u8 29, .int .u8 14, .int .u8 24, .int .u8 3, .int .u8 30, .int .u8 22, .int .u8 20, .int .u8 15, .int .u8 25, .int .u8 17, .int .u8 4, .int .u8 8, .int .u8 31, .int .u8 27, .int .u8 13, .int .u8 23, .int .u8 21, .int .u8 19, .int .u8 16, .int .u8 7, .int .u8 26, .int .u8 12, .int .u8 18, .int .u8 6, .int .u8 11, .int .u8 5, .int .u8 10, .int .u8 9]
def tab64 : Array Value := #[.int .u8 0, .int .u8 1, .int .u8 56, .int .u8 2, .int .u8 57, .int .u8 49, .int .u8 28, .int .u8 3, .int .u8 61, .int .u8 58, .int .u8 42, .int .u8 50, .int .u8 38, .int .u8 29, .int .u8 17, .int .u8 4, .int .u8 62, .int .u8 47, .int .u8 59, .int .u8 36, .int .u8 45, .int .u8 43, .int .u8 51, .int .u8 22, .int .u8 53, .int .u8 39, .int .u8 33, .int .u8 30, .int .u8 24, .int .u8 18, .int .u8 12, .int .u8 5, .int .u8 63, .int .u8 55, .int .u8 48, .int .u8 27, .int .u8 60, .int .u8 41, .int .u8 37, .int .u8 16, .int .u8 46, .int .u8 35, .int .u8 44, .int .u8 21, .int .u8 52, .int .u8 32, .int .u8 23, .int .u8 11, .int .u8 54, .int .u8 26, .int .u8 40, .int .u8 15, .int .u8 34, .int .u8 20, .int .u8 31, .int .u8 10, .int .u8 25, .int .u8 14, .int .u8 19, .int .u8 9, .int .u8 13, .int .u8 8, .int .u8 7, .int .u8 6]
def lay (cs : Array Value) : Obj → Obj
  | .cells _ t frozen => .cells cs t frozen
  | o => o
/-- the settled world, the three tables holding what their initialisers lay -/
noncomputable def laidWorld (os : Os) : World :=
  { World.holding Tryd.prog os ⟨#[], #[], []⟩ with heap := (((World.holding Tryd.prog os ⟨#[], #[], []⟩).heap.modify 1 (lay pow10)).modify 2 (lay tab32)).modify 3 (lay tab64) }
theorem laid_met (os : Os) (args : Array Value) : laidMet Tryd.prog Rows.prefixTellsRow.laid ((laidWorld os).forCall (fun _ _ => 0) ⟨#[], args, []⟩).memory :=
  laidMet_of_run' 8 (by kernel_rfl) (by kernel_rfl)

section
variable {H : Type} {enc : TypeId × Value → H} {w : World}
theorem open_prefix {r : Reach} {b0 base : Nat} {spare : Nat → Bool} {held : Bool} {v : Value} {d : DataW H} {p : List MemPlace}
    (hv : Value.okWide Tryd.prog w r b0 25 v) (h : DataW.Trod enc Tryd.prog w base spare held 25 v d p) :
    ∃ (a : Nat) (n : Int), v = .agg #[.int .u32 a, .int .i64 n] ∧ d = .agg [.lit (.int .u32 a), .lit (.int .i64 n)] ∧ p = [] ∧ a < 4294967296 ∧ I64 n := by
  obtain ⟨c0, c1, y0, y1, m, rfl, rfl, rfl, hy0, hy1⟩ := open_agg2 Tryd.underlying25 (by kernel_rfl) cells25 hv h
  obtain ⟨a, e0, rfl, wa⟩ := DataW.trod_int Tryd.underlying23 hy0
  obtain ⟨n, e1, rfl, wn⟩ := DataW.trod_int Tryd.underlying3 hy1
  simp at e0 e1
  subst e0 e1
  have b0 := bounds_u32 wa
  have b1 := bounds_i64 wn
  obtain ⟨x, rfl⟩ := Int.eq_ofNat_of_zero_le b0.1
  exact ⟨x, n, rfl, rfl, rfl, by omega, b1⟩
theorem wf_u32 {a : Nat} (h : a < 4294967296) : (Lit.int .u32 (a : Int)).wf = true := WalkArith.wf_u32 (by omega)
theorem wf_i64 {n : Int} (h : I64 n) : (Lit.int .i64 n).wf = true := WalkArith.wf_i64 (by omega)
theorem shut_prefix {base : Nat} {spare : Nat → Bool} {held : Bool} {a : Nat} {n : Int} (ha : a < 4294967296) (hn : I64 n) :
    DataW.Trod enc Tryd.prog w base spare held 25 (.agg #[.int .u32 a, .int .i64 n]) (.agg [.lit (.int .u32 a), .lit (.int .i64 n)]) [] :=
  shut_agg2 (y0 := (.lit (.int .u32 a), [])) (y1 := (.lit (.int .i64 n), [])) Tryd.underlying25 (by kernel_rfl) cells25
    ⟨1, by simp [DataW.trod, Tryd.underlying23, wf_u32 ha]⟩ ⟨1, by simp [DataW.trod, Tryd.underlying3, wf_i64 hn]⟩
theorem open_addr {r : Reach} {b0 base : Nat} {spare : Nat → Bool} {held : Bool} {v : Value} {d : DataW H} {p : List MemPlace}
    (hv : Value.okWide Tryd.prog w r b0 23 v) (h : DataW.Trod enc Tryd.prog w base spare held 23 v d p) :
    ∃ a : Nat, v = .int .u32 a ∧ d = .lit (.int .u32 a) ∧ p = [] ∧ a < 4294967296 := by
  obtain ⟨a, rfl, rfl, rfl, wa⟩ := open_int Tryd.underlying23 hv h
  have b0 := bounds_u32 wa
  obtain ⟨x, rfl⟩ := Int.eq_ofNat_of_zero_le b0.1
  exact ⟨x, rfl, rfl, rfl, by omega⟩
theorem shut_addr {base : Nat} {spare : Nat → Bool} {held : Bool} {a : Nat} (ha : a < 4294967296) : DataW.Trod enc Tryd.prog w base spare held 23 (.int .u32 a) (.lit (.int .u32 a)) [] :=
  shut_int Tryd.underlying23 (wf_u32 ha)
end
theorem grown_below {w w' : World} (h : Below w.heap.size w w') : (∀ may : MemPlace → Prop, w.keptBut w' may) := fun may => h.frame may
end Go.Proofs.YtbcgfgklajdelaaDoor
