/-
  What all proofs over this seat's rows share: how arguments are opened, how they read behind a call that only makes memory, a world for the witness.
-/
import Derived.Test.YtiobfgcpbihbhaaGreatDoorAtE
import Derived.Test.YtiobfgcpbihbhaaGreatDoorAsC
import Derived.Test.YtiobfgcpbihbhaaGreatDoorBlk
import Derived.Test.YtiobfgcpbihbhaaGreatDoorCards
import Derived.Test.YtiobfgcpbihbhaaGreatDoorTie
import Derived.ProofKit
import Derived.OpenShut
import Derived.SizedLaws
import Derived.Carry
import Derived.ChangeSame
import Derived.Deep.Slices
import Derived.Deep.Strs
import Derived.Deep.DeepHandedRow
import Derived.Lib.LaidTab
import Derived.LaidSub
import Derived.Lib.SmallJoins
namespace Go.Proofs.YtiobfgcpbihbhaaGreatDoor
set_option maxRecDepth 100000
set_option linter.unusedSimpArgs false
set_option linter.unusedVariables false
open Go.ChangeShapes Go.WideShapes Go.ChangeAt Go.RowKit P

theorem own : ownKnob Tryz.prog.godebug = none := by kernel_rfl
theorem fcells3 : Tryz.prog.cellsOf 3 = 1 := by kernel_rfl
theorem fcells34 : Tryz.prog.cellsOf 34 = 1 := by kernel_rfl
theorem fcells46 : Tryz.prog.cellsOf 46 = 2 := by kernel_rfl
theorem fcells108 : Tryz.prog.cellsOf 108 = 1 := by kernel_rfl
theorem fcells159 : Tryz.prog.cellsOf 159 = 20 := by kernel_rfl
theorem laidOut : laidOutB Tryz.prog = true := by kernel_rfl
theorem gTabType : (Tryz.prog.globals[1]?).map (·.type) = some 159 := by kernel_rfl
theorem tab_of_laid {W : World} (h : laidMetH Tryz.prog Rows.aspathSameUptoRow.laid W) : Tab W := by
  have h2 := laidMetH.filter (fun x => x.1 == "internal/strconv.uint64pow10") h
  have e : Rows.aspathSameUptoRow.laid.filter (fun x => x.1 == "internal/strconv.uint64pow10") = [("internal/strconv.uint64pow10", Lib.tabData .u64 Lib.pow10Tab)] := by kernel_rfl
  rw [e] at h2
  exact Lib.tabIs_of_head (rest := []) gTab gTabType Tryz.underlying159 Tryz.underlying108 fcells108 fcells159 h2

def pow10 : Array Value := #[.int .u64 1, .int .u64 10, .int .u64 100, .int .u64 1000, .int .u64 10000, .int .u64 100000, .int .u64 1000000, .int .u64 10000000, .int .u64 100000000, .int .u64 1000000000, .int .u64 10000000000, .int .u64 100000000000, .int .u64 1000000000000, .int .u64 10000000000000, .int .u64 100000000000000, .int .u64 1000000000000000, .int .u64 10000000000000000, .int .u64 100000000000000000, .int .u64 1000000000000000000, .int .u64 10000000000000000000]
def tab32 : Array Value := #[.int .u8 0, .int .u8 1, .int .u8 28, .int .u8 2, .int .u8 29, .int .u8 14, .int .u8 24, .int .u8 3, .int .u8 30, .int .u8 22, .int .u8 20, .int .u8 15, .int .u8 25, .int .u8 17, .int .u8 4, .int .u8 8, .int .u8 31, .int .u8 27, .int .u8 13, .int .u8 23, .int .u8 21, .int .u8 19, .int .u8 16, .int .u8 7, .int .u8 26, .int .u8 12, .int .u8 18, .int .u8 6, .int .u8 11, .int .u8 5, .int .u8 10, .int .u8 9]
def tab64 : Array Value := #[.int .u8 0, .int .u8 1, .int .u8 56, .int .u8 2, .int .u8 57, .int .u8 49, .int .u8 28, .int .u8 3, .int .u8 61, .int .u8 58, .int .u8 42, .int .u8 50, .int .u8 38, .int .u8 29, .int .u8 17, .int .u8 4, .int .u8 62, .int .u8 47, .int .u8 59, .int .u8 36, .int .u8 45, .int .u8 43, .int .u8 51, .int .u8 22, .int .u8 53, .int .u8 39, .int .u8 33, .int .u8 30, .int .u8 24, .int .u8 18, .int .u8 12, .int .u8 5, .int .u8 63, .int .u8 55, .int .u8 48, .int .u8 27, .int .u8 60, .int .u8 41, .int .u8 37, .int .u8 16, .int .u8 46, .int .u8 35, .int .u8 44, .int .u8 21, .int .u8 52, .int .u8 32, .int .u8 23, .int .u8 11, .int .u8 54, .int .u8 26, .int .u8 40, .int .u8 15, .int .u8 34, .int .u8 20, .int .u8 31, .int .u8 10, .int .u8 25, .int .u8 14, .int .u8 19, .int .u8 9, .int .u8 13, .int .u8 8, .int .u8 7, .int .u8 6]
def first256 : Array Value := (Go.Pinned.utf8FirstZ.map fun (n : Nat) => Value.int .u8 (n : Int)).toArray
def accept : Array Value := #[.int .u8 128, .int .u8 191, .int .u8 160, .int .u8 191, .int .u8 128, .int .u8 159, .int .u8 144, .int .u8 191, .int .u8 128, .int .u8 143, .int .u8 0, .int .u8 0, .int .u8 0, .int .u8 0, .int .u8 0, .int .u8 0, .int .u8 0, .int .u8 0, .int .u8 0, .int .u8 0, .int .u8 0, .int .u8 0, .int .u8 0, .int .u8 0, .int .u8 0, .int .u8 0, .int .u8 0, .int .u8 0, .int .u8 0, .int .u8 0, .int .u8 0, .int .u8 0]
def lay (cs : Array Value) : Obj → Obj
  | .cells _ t frozen => .cells cs t frozen
  | o => o
/-- the settled world, the five tables holding what their initialisers lay -/
noncomputable def laidWorld (os : Os) : World :=
  { World.holding Tryz.prog os ⟨#[], #[], []⟩ with heap := (((((World.holding Tryz.prog os ⟨#[], #[], []⟩).heap.modify 1 (lay pow10)).modify 2 (lay first256)).modify 3 (lay accept)).modify 4 (lay tab32)).modify 5 (lay tab64) }
theorem laid_met (os : Os) (args : Array Value) : laidMet Tryz.prog Rows.aspathSameUptoRow.laid ((laidWorld os).forCall (fun _ _ => 0) ⟨#[], args, []⟩).memory :=
  laidMet_of_run' 8 (by kernel_rfl) (by kernel_rfl)

/-- a path of integers of the machine -/
def OkP (p : List Sg) : Prop := ∀ s ∈ p, I64 s.k ∧ ∀ x ∈ s.as, I64 x
def encLen (p : List Sg) : Nat := (p.map fun s => s.as.length + 1).sum
theorem encLen_len : ∀ p : List Sg, p.length ≤ encLen p
  | [] => Nat.zero_le _
  | s :: p => by have := encLen_len p; unfold encLen at *; simp only [List.map_cons, List.sum_cons, List.length_cons]; omega
theorem encLen_flat : ∀ p : List Sg, (flat p).length ≤ encLen p
  | [] => Nat.zero_le _
  | s :: p => by have := encLen_flat p; rw [flat_cons]; unfold encLen at *; simp only [List.map_cons, List.sum_cons, List.length_append]; omega

section
variable {H : Type} {enc : TypeId × Value → H} {w : World}
theorem open_row {fuel : Nat} {spare : Nat → Bool} {cs : List Value} {x : DataW H × List MemPlace} (hf : DataW.trod enc Tryz.prog w 0 spare true fuel 34 cs = some x) :
    ∃ v l, cs = [v] ∧ RdI w v l ∧ (∀ y ∈ l, I64 y) ∧ (l = [] ∨ ∃ es sp, x.1 = .slice es sp ∧ es.length = l.length) := by
  rcases open_ints Tryz.underlying34 Tryz.underlying3 fcells3 hf with ⟨rfl, _⟩ | ⟨a, len, cap, zs, rfl, hb, hl, hm, hlen, hx, hc, hw⟩
  · exact ⟨_, [], rfl, rdi_nil w, (fun y hy => by cases hy), .inl rfl⟩
  · have hle : len ≤ zs.length := by rw [hlen]; split <;> omega
    have hlt : (zs.take len).length = len := by simp; omega
    have hd : x.1 = .slice (lits .i64 (zs.take len)) (lits .i64 (zs.drop len)) := by rw [hx]
    refine ⟨_, zs.take len, rfl, ⟨some a, cap, by rw [hlt], by rw [hlt]; omega, ⟨by unfold maxLen at hm; omega, fun e => by cases e⟩, ?_⟩, fun y hy => bounds_i64 (hw y (List.mem_of_mem_take hy)), .inr ⟨_, _, hd, ?_⟩⟩
    · intro k x hk
      have hkl : k < len := by have := (List.getElem?_eq_some_iff.1 hk).1; omega
      have hcell := hc k (by omega)
      have hsp : a.spot = none := by have := World.cell?_spot (hc 0 (by omega)); simpa [Addr.add] using this
      obtain ⟨b, off, spot⟩ := a
      obtain rfl : spot = none := hsp
      rw [Addr.add_lit] at hcell
      refine ⟨b, off, rfl, World.block_lt_of_cell? _ _ hcell, ?_⟩
      rw [hcell]
      rw [List.getElem?_take, if_pos hkl] at hk
      simp only [List.getD, hk, Option.getD_some]
    · rw [hlt]; simp [lits]; omega
theorem row_bulk {d : DataW H} {l : List Int} (h : l = [] ∨ ∃ es sp, d = .slice es sp ∧ es.length = l.length) : l.length + 1 ≤ Rows.uptoBulk d := by
  rcases h with rfl | ⟨es, sp, rfl, he⟩
  · have := bulks.one_le d; simpa using this
  · have := bulks.slice_le es sp; omega
theorem sum_bulk {α : Type} (f : α → Nat) (V : Nat → α) (D : Nat → DataW H) : ∀ (is : List Nat), (∀ i ∈ is, f (V i) ≤ Rows.uptoBulk (D i)) → ((is.map V).map f).sum ≤ Rows.uptoBulkAll (is.map D)
  | [], _ => Nat.zero_le _
  | i :: is, h => by
    have h1 := h i (by simp)
    have h2 := sum_bulk f V D is (fun j hj => h j (by simp [hj]))
    simp only [List.map_cons, List.sum_cons, Rows.uptoBulkAll]; omega
theorem open_path {r : Reach} {b0 : Nat} {spare : Nat → Bool} {v : Value} {d : DataW H} {p : List MemPlace}
    (hv : Value.okWide Tryz.prog w r b0 22 v) (h : DataW.Trod enc Tryz.prog w 0 spare true 22 v d p) : ∃ ts : List Sg, RdS w v ts ∧ OkP ts ∧ encLen ts ≤ Rows.uptoBulk d := by
  obtain ⟨a0, len, cap, rfl⟩ := okWide_slice Tryz.underlying22 hv
  obtain ⟨fuel, hf⟩ := h
  rcases Deep.open_slice Tryz.underlying22 hf with ⟨hcs, _⟩ | ⟨a, len', cap', m, n, D, Pl, hcs, _, hl, hm, hmm, hx, hi⟩
  · simp [Value.cells] at hcs
    obtain ⟨rfl, rfl, rfl⟩ := hcs
    exact ⟨[], rds_nil w, (fun s hs => by cases hs), Nat.zero_le _⟩
  · simp [Value.cells] at hcs
    obtain ⟨rfl, rfl, rfl⟩ := hcs
    have hle : len ≤ m := by rw [hmm]; split <;> omega
    have hd : d = .slice ((List.range len).map D) ((List.range (m - len)).map fun j => D (len + j)) := (Prod.mk.inj hx).1
    have hxx : ∀ i, i < len → ∃ x : Sg, (x.as.length + 1 ≤ Rows.uptoBulk (D i) ∧ I64 x.k ∧ ∀ y ∈ x.as, I64 y) ∧ ∃ u, w.cell? (a.add (i * 2)) = some (.int .i64 x.k) ∧ w.cell? (a.add (i * 2 + 1)) = some u ∧ RdI w u x.as := by
      intro i him
      obtain ⟨cs', hc, ht⟩ := hi i (by omega)
      rw [fcells46] at hc
      obtain ⟨_, hlen, hat⟩ := World.cells?_some hc
      match cs', hlen with
      | [c0, c1], _ =>
        obtain ⟨y0, y1, n', hD, _, h0, h1⟩ := trod_struct2 Tryz.underlying46 ht
        have h0' : DataW.trod enc Tryz.prog w 0 spare true n' 3 [c0] = some y0 := h0
        have h1' : DataW.trod enc Tryz.prog w 0 spare true n' 34 [c1] = some y1 := h1
        obtain ⟨x, e0, ey0, wx⟩ := DataW.trod_int Tryz.underlying3 h0'
        obtain ⟨u, l, e1, hr, hin, hdl⟩ := open_row h1'
        simp at e0 e1
        subst e0 e1
        have k0 := hat 0 (by omega)
        have k1 := hat 1 (by omega)
        have hDi : D i = .agg [y0.1, y1.1] := (Prod.mk.inj hD).1
        refine ⟨⟨x, l⟩, ⟨?_, bounds_i64 wx, hin⟩, c1, ?_, ?_, hr⟩
        · have := row_bulk hdl
          have h01 := bulks.one_le y0.1
          rw [hDi]; simp only [Rows.uptoBulk, Rows.uptoBulkAll]; omega
        · rw [Deep.add_add] at k0; exact k0
        · rw [Deep.add_add] at k1; exact k1
    haveI : Inhabited Sg := ⟨⟨0, []⟩⟩
    obtain ⟨V, hV⟩ := Deep.choose_lt hxx
    refine ⟨(List.range len).map V, ⟨some a, cap, by simp, by simpa using hl, ⟨by unfold maxLen at hm; omega, fun e => by cases e⟩, fun k x hk => ?_⟩, ?_, ?_⟩
    · have hkl : k < len := by have := (List.getElem?_eq_some_iff.1 hk).1; simpa using this
      have e : x = V k := by simpa [hkl] using hk.symm
      subst e
      obtain ⟨_, u, c0, c1, hr⟩ := hV k hkl
      obtain ⟨_, u0, c00, _, _⟩ := hV 0 (by omega)
      have hsp : a.spot = none := by simpa [Addr.add] using World.cell?_spot c00
      obtain ⟨b, off, spot⟩ := a
      obtain rfl : spot = none := hsp
      rw [Addr.add_lit] at c0 c1
      exact ⟨b, off, u, rfl, World.block_lt_of_cell? _ _ c0, c0, by rw [Nat.add_assoc]; exact c1, hr⟩
    · intro s hs
      obtain ⟨i, hi', rfl⟩ := List.mem_map.1 hs
      exact (hV i (List.mem_range.1 hi')).1.2
    · rw [hd]
      have h1 := sum_bulk (fun t : Sg => t.as.length + 1) V D (List.range len) (fun i hi => (hV i (List.mem_range.1 hi)).1.1)
      have h2 := bulks.slice_elems ((List.range len).map D) ((List.range (m - len)).map fun j => D (len + j))
      unfold encLen; omega
theorem open_i64 {r : Reach} {b0 : Nat} {spare : Nat → Bool} {v : Value} {d : DataW H} {p : List MemPlace} (hv : Value.okWide Tryz.prog w r b0 3 v) (h : DataW.Trod enc Tryz.prog w 0 spare true 3 v d p) :
    ∃ x : Int, v = .int .i64 x ∧ I64 x := by
  obtain ⟨a, rfl, rfl, rfl, wa⟩ := open_int Tryz.underlying3 hv h
  exact ⟨a, rfl, bounds_i64 wa⟩
theorem open_str {r : Reach} {b0 : Nat} {spare : Nat → Bool} {v : Value} {d : DataW H} {p : List MemPlace} (hv : Value.okWide Tryz.prog w r b0 9 v) (h : DataW.Trod enc Tryz.prog w 0 spare true 9 v d p) :
    ∃ s : ByteArray, v = .string s ∧ d = .lit (.string s.data.toList) := by
  obtain ⟨s, h1, h2, _, _⟩ := ChangeMaps.open_string Tryz.underlying9 hv h
  exact ⟨s, h1, h2⟩
theorem str_bulk (s : ByteArray) : s.size ≤ Rows.uptoBulk (DataW.lit (H := H) (.string s.data.toList)) := by
  rw [bulks.string_eq]; simp
theorem trodAll_below {W W' : World} (hb : Below W.heap.size W W') : ∀ {ts : List TypeId} {vs : List Value} {ds : List (DataW H)} {ps : List MemPlace},
    (∀ t ∈ ts, Tryz.prog.readableRec t = true ∧ t < Tryz.prog.types.size) → DataW.TrodAll enc Tryz.prog W 0 (fun _ => true) true ts vs ds ps → (∀ x ∈ ps, x.block < W.heap.size) →
    DataW.TrodAll enc Tryz.prog W' 0 (fun b => decide (b < W.heap.size)) true ts vs ds ps
  | [], vs, ds, ps, _, h, _ => by
    obtain ⟨rfl, rfl, rfl⟩ := trodAll_nil h
    exact trodAll_mk0
  | t :: ts, vs, ds, ps, hr, h, hlt => by
    obtain ⟨v0, vs0, d0, ds0, p0, q0, rfl, rfl, rfl, h0, r0⟩ := trodAll_cons h
    exact trodAll_cons_mk (Below.trod laidOut (hr t (by simp)).1 (hr t (by simp)).2 h0 hb (fun x hx => hlt x (by simp [hx])))
      (trodAll_below hb (fun t ht => hr t (by simp [ht])) r0 (fun x hx => hlt x (by simp [hx])))
end
end Go.Proofs.YtiobfgcpbihbhaaGreatDoor
