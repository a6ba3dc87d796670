/-
  Memory: what a call leaves as it was, rows of integers of the program's own. How arguments are opened, what slices read as, how arguments read behind a call that only makes memory. A queue in memory: its box, the rows of its items, places and keys. The walks of the queue's order, of 'has' and of the exchange of two items. The walk of settle: up, then down. The walks of put and drop, and the queue as a value. The queue's methods. The queue's methods: Len, Key, Min, Set, Drop, Pop.
-/
import Derived.Test.YtmbogobebllheaaProg
import Derived.WalkKit
import Derived.WalkSpells
import Derived.WalkLawsBesides
import Derived.Lib.Hide
import Derived.Deep.QuietTactic
import Derived.BigQuiet
import Derived.Deep.RegionHeld3
import Derived.Deep.LoopGhost
import Derived.Deep.Draws
import Derived.Deep.AppendLies
import Derived.Laws.ResultCell
import Derived.Laws.OwnMore
import Derived.OneCell
import Derived.ProofKit
import Derived.WalkSmall
import Derived.RegionTactic
import Derived.LoopN
import Derived.Test.YtmbogobebllheaaRows
import Derived.OpenShut
import Derived.SizedLaws
import Derived.Carry
import Derived.Lib.SmallJoins
import Derived.Deep.Slices
import Derived.Deep.Strs
import Derived.Test.YtmbogobebllheaaMm
import Derived.Deep.OwnRows
namespace Go.Proofs.Ytmbogobebllheaa
open Go.RowKit
set_option linter.unusedSimpArgs false
set_option linter.unusedVariables false

theorem val_i {k : IntKind} {a b : Int} (h : a = b) : (Value.int k a) = .int k b := by rw [h]
theorem lt_block {w : World} {g : Nat} {o : Obj} (h : w.heap[g]? = some o) : g < w.heap.size := (Array.getElem?_eq_some_iff.1 h).1
theorem below_alloc (w : World) (o : Obj) : Below w.heap.size w (w.alloc o) := (Below.refl _ w).alloc (Nat.le_refl _) o
theorem below_then {w W w1 : World} (h : Below w.heap.size w W) (hb : Below W.heap.size W w1) : Below w.heap.size w w1 := h.trans (hb.mono h.size)
theorem below_drewN {B : Nat} {a w : World} (h : Below B a w) (n : Nat) : Below B a (w.drewN n) := ⟨h.os, h.tape, h.output, h.size, h.block⟩
theorem carry {W w1 : World} (hb : Below W.heap.size W w1) {p : Addr} {v : Value} (h : W.cell? p = some v) : w1.cell? p = some v := (hb.cell (World.block_lt_of_cell? _ _ h)).trans h
theorem heap_set_eq {w : World} {g o : Nat} {cs : Array Value} {t : TypeId} {u : Value} (h : w.heap[g]? = some (.cells cs t (0, 0))) :
    (w.setCell ⟨g, o, none⟩ u).heap[g]? = some (.cells (cs.setIfInBounds o u) t (0, 0)) := by
  have hlt := lt_block h
  have h' : w.heap[g] = .cells cs t (0, 0) := by simpa [Array.getElem?_eq_getElem hlt] using h
  show (w.heap.modify g _)[g]? = _
  rw [Array.getElem?_eq_getElem (by simpa using hlt), Array.getElem_modify_self, h']
  rfl
theorem heap_set_ne {w : World} {g k o : Nat} {u : Value} (h : k ≠ g) : (w.setCell ⟨g, o, none⟩ u).heap[k]? = w.heap[k]? := Below.heap_setCell _ _ _ _ (fun e => h e)
/-- what existed and is no block of S reads as before -/
structure Kp (S : List Nat) (w w' : World) : Prop where
  os : w'.os = w.os
  tape : w'.tape = w.tape
  output : w'.output = w.output
  size : w.heap.size ≤ w'.heap.size
  block : ∀ k, k < w.heap.size → k ∉ S → w'.heap[k]? = w.heap[k]?
theorem Kp.refl (S : List Nat) (w : World) : Kp S w w := ⟨rfl, rfl, rfl, Nat.le_refl _, fun _ _ _ => rfl⟩
theorem Kp.of_below {S : List Nat} {w w' : World} (h : Below w.heap.size w w') : Kp S w w' := ⟨h.os, h.tape, h.output, h.size, fun k hk _ => h.block k hk⟩
theorem Kp.trans {S S' : List Nat} {a b c : World} (h : Kp S a b) (k : Kp S' b c) (hs : ∀ g ∈ S', g ∈ S ∨ a.heap.size ≤ g) : Kp S a c :=
  ⟨k.os.trans h.os, k.tape.trans h.tape, k.output.trans h.output, Nat.le_trans h.size k.size, fun i hi hn =>
    (k.block i (Nat.lt_of_lt_of_le hi h.size) (fun hm => by rcases hs i hm with h1 | h1; exact hn h1; omega)).trans (h.block i hi hn)⟩
theorem Kp.then {S : List Nat} {a b c : World} (h : Kp S a b) (k : Below b.heap.size b c) : Kp S a c := h.trans (Kp.of_below (S := []) k) (fun g hg => by cases hg)
theorem Kp.setCell {S : List Nat} {a b : World} (h : Kp S a b) {g o : Nat} {u : Value} (hg : g ∈ S ∨ a.heap.size ≤ g) : Kp S a (b.setCell ⟨g, o, none⟩ u) :=
  ⟨h.os, h.tape, h.output, by simpa using h.size, fun k hk hn => (heap_set_ne (by rintro rfl; rcases hg with h1 | h1; exact hn h1; omega)).trans (h.block k hk hn)⟩
theorem Kp.mono {S S' : List Nat} {a b : World} (h : Kp S a b) (hs : ∀ g ∈ S, g ∈ S') : Kp S' a b := ⟨h.os, h.tape, h.output, h.size, fun k hk hn => h.block k hk (fun hm => hn (hs k hm))⟩
theorem Kp.below {S : List Nat} {a b : World} (h : Kp S a b) {B : Nat} (hB : B ≤ a.heap.size) (hs : ∀ g ∈ S, B ≤ g) : Below B a b :=
  ⟨h.os, h.tape, h.output, h.size, fun k hk => h.block k (by omega) (fun hm => by have := hs k hm; omega)⟩
theorem Kp.drewN {S : List Nat} {a b : World} (h : Kp S a b) (n : Nat) : Kp S a (b.drewN n) := ⟨h.os, h.tape, h.output, h.size, h.block⟩
theorem Kp.drew {S : List Nat} {a b : World} (h : Kp S a b) : Kp S a b.drew := ⟨h.os, h.tape, h.output, h.size, h.block⟩
theorem Kp.undrewN {S : List Nat} {a b : World} {n : Nat} (h : Kp S (a.drewN n) b) : Kp S a b := ⟨h.os, h.tape, h.output, h.size, h.block⟩
theorem Kp.undrew {S : List Nat} {a b : World} (h : Kp S a.drew b) : Kp S a b := ⟨h.os, h.tape, h.output, h.size, h.block⟩
theorem Kp.alloc {S : List Nat} {a b : World} (h : Kp S a b) (o : Obj) : Kp S a (b.alloc o) := h.then (below_alloc b o)
theorem Kp.grown {S : List Nat} {a b c : World} {row : Option Nat} (h : Kp S a b) (hg : b.grownBy c row) (hr : ∀ k, row = some k → k ∈ S ∨ a.heap.size ≤ k) : Kp S a c :=
  ⟨hg.os.trans h.os, hg.tape.trans h.tape, hg.output.trans h.output, Nat.le_trans h.size hg.size, fun k hk hn =>
    (hg.block k (Nat.lt_of_lt_of_le hk h.size) (fun e => by rcases hr k e.symm with h1 | h1; exact hn h1; omega)).trans (h.block k hk hn)⟩
theorem Kp.carry {S : List Nat} {a b : World} (h : Kp S a b) {p : Addr} {v : Value} (hn : p.block ∉ S) (hc : a.cell? p = some v) : b.cell? p = some v := by
  rw [← hc]; exact World.cell?_of_block (h.block _ (World.block_lt_of_cell? _ _ hc) hn)
theorem cell_of {w : World} {g o : Nat} {cs : Array Value} {t : TypeId} {v : Value} (h : w.heap[g]? = some (.cells cs t (0, 0))) (hv : cs[o]? = some v) : w.cell? ⟨g, o, none⟩ = some v := by simp [World.cell?, h, hv]
theorem free_of {w : World} {g : Nat} {cs : Array Value} {t : TypeId} (h : w.heap[g]? = some (.cells cs t (0, 0))) (o : Nat) : w.frozen? ⟨g, o, none⟩ = false := by simp [World.frozen?, h]

/-- integers as values -/
def ints (l : List Int) : List Value := l.map (Value.int .i64)
def nats (l : List Nat) : List Value := l.map (fun x : Nat => Value.int .i64 (x : Int))
theorem ints_len (l : List Int) : (ints l).length = l.length := by simp [ints]
theorem nats_len (l : List Nat) : (nats l).length = l.length := by simp [nats]
theorem ints_get {l : List Int} {k : Nat} {x : Int} (h : l[k]? = some x) : (ints l)[k]? = some (.int .i64 x) := by simp [ints, h]
theorem nats_get {l : List Nat} {k : Nat} {x : Nat} (h : l[k]? = some x) : (nats l)[k]? = some (.int .i64 (x : Int)) := by simp [nats, h]
theorem ints_set (l : List Int) (k : Nat) (x : Int) : (ints l).set k (.int .i64 x) = ints (l.set k x) := by simp [ints, List.map_set]
theorem nats_set (l : List Nat) (k : Nat) (x : Nat) : (nats l).set k (.int .i64 (x : Int)) = nats (l.set k x) := by simp [nats, List.map_set]
theorem row_congr {w w' : World} {B e k n : Nat} {v : Value} {xs : List Value} (h : w.ownsRow B e k v n xs) (hk : ∀ g, v.ownBlock = some g → w'.heap[g]? = w.heap[g]?) : w'.ownsRow B e k v n xs :=
  ⟨h.1, h.2.imp id (fun ⟨g, cap, cur, a, b, c, d⟩ => ⟨g, cap, cur, a, b, (hk g (by rw [a]; rfl)).trans c, d⟩)⟩
theorem row_lt {w : World} {B e k n : Nat} {v : Value} {xs : List Value} (h : w.ownsRow B e k v n xs) {g : Nat} (hg : v.ownBlock = some g) : B ≤ g ∧ g < w.heap.size := by
  rcases h.2 with ⟨rfl, _⟩ | ⟨g', cap, cur, rfl, hb, hc, _⟩
  · simp [Value.ownBlock] at hg
  · simp [Value.ownBlock] at hg; subst hg; exact ⟨hb, lt_block hc⟩
theorem row_below {w w1 : World} {B e k n : Nat} {v : Value} {xs : List Value} (h : w.ownsRow B e k v n xs) (hb : Below w.heap.size w w1) : w1.ownsRow B e k v n xs := row_congr h (fun g hg => hb.block g (row_lt h hg).2)
theorem row_kp {S : List Nat} {w w1 : World} {B e k n : Nat} {v : Value} {xs : List Value} (h : w.ownsRow B e k v n xs) (hb : Kp S w w1) (hn : ∀ g, v.ownBlock = some g → g ∉ S) : w1.ownsRow B e k v n xs := row_congr h (fun g hg => hb.block g (row_lt h hg).2 (hn g hg))
end Go.Proofs.Ytmbogobebllheaa
namespace Go.Proofs.Ytmbogobebllheaa
set_option maxRecDepth 100000
set_option linter.unusedSimpArgs false
set_option linter.unusedVariables false
open Go.ChangeShapes Go.WideShapes Go.ChangeAt Go.RowKit Go.Joins

theorem own : ownKnob Try.prog.godebug = none := by kernel_rfl
theorem laidOut : laidOutB Try.prog = true := by kernel_rfl
theorem cells3 : Try.prog.cellsOf 3 = 1 := by kernel_rfl
theorem cells72 : Try.prog.cellsOf 72 = 3 := by kernel_rfl
theorem cells27 : Try.prog.cellsOf 27 = 3 := by kernel_rfl
def I64 (n : Int) : Prop := -9223372036854775808 ≤ n ∧ n ≤ 9223372036854775807

/-- three integers of one place -/
abbrev Tri := Int × Int × Int
def FitT (l : List Tri) : Prop := ∀ x ∈ l, I64 x.1 ∧ I64 x.2.1 ∧ I64 x.2.2
/-- a slice of structs of three integers as memory reads -/
def Rd3 (w : World) (v : Value) (l : List Tri) : Prop :=
  ∃ ad cap, v = .slice ad l.length cap ∧ l.length ≤ cap ∧ cap ≤ 9223372036854775807 ∧ ∀ k x, l[k]? = some x → ∃ b off, ad = some ⟨b, off, none⟩ ∧ b < w.heap.size ∧
    w.cell? ⟨b, off + k * 3, none⟩ = some (.int .i64 x.1) ∧ w.cell? ⟨b, off + k * 3 + 1, none⟩ = some (.int .i64 x.2.1) ∧ w.cell? ⟨b, off + k * 3 + 2, none⟩ = some (.int .i64 x.2.2)
/-- a slice of integers as memory reads -/
def RdI (w : World) (v : Value) (l : List Int) : Prop :=
  ∃ ad cap, v = .slice ad l.length cap ∧ l.length ≤ cap ∧ cap ≤ 9223372036854775807 ∧ ∀ k x, l[k]? = some x → ∃ b off, ad = some ⟨b, off, none⟩ ∧ b < w.heap.size ∧ w.cell? ⟨b, off + k, none⟩ = some (.int .i64 x)
theorem Rd3.below {w w' : World} {v : Value} {l : List Tri} (h : Rd3 w v l) (hb : Below w.heap.size w w') : Rd3 w' v l := by
  obtain ⟨ad, cap, rfl, h1, h2, hc⟩ := h
  refine ⟨ad, cap, rfl, h1, h2, fun k x hk => ?_⟩
  obtain ⟨b, off, e, hlt, c0, c1, c2⟩ := hc k x hk
  exact ⟨b, off, e, Nat.lt_of_lt_of_le hlt hb.size, by rw [hb.cell hlt]; exact c0, by rw [hb.cell hlt]; exact c1, by rw [hb.cell hlt]; exact c2⟩
theorem RdI.below {w w' : World} {v : Value} {l : List Int} (h : RdI w v l) (hb : Below w.heap.size w w') : RdI w' v l := by
  obtain ⟨ad, cap, rfl, h1, h2, hc⟩ := h
  refine ⟨ad, cap, rfl, h1, h2, fun k x hk => ?_⟩
  obtain ⟨b, off, e, hlt, c0⟩ := hc k x hk
  exact ⟨b, off, e, Nat.lt_of_lt_of_le hlt hb.size, by rw [hb.cell hlt]; exact c0⟩
theorem rd3_nil (w : World) : Rd3 w (.slice none 0 0) [] := ⟨none, 0, rfl, Nat.le_refl _, by omega, fun k x h => by simp at h⟩
theorem rdI_nil (w : World) : RdI w (.slice none 0 0) [] := ⟨none, 0, rfl, Nat.le_refl _, by omega, fun k x h => by simp at h⟩

section
variable {H : Type} {enc : TypeId × Value → H} {w : World}
theorem open_i64 {r : Reach} {b0 base : Nat} {spare : Nat → Bool} {held : Bool} {v : Value} {d : DataW H} {p : List MemPlace} (hv : Value.okWide Try.prog w r b0 3 v) (h : DataW.Trod enc Try.prog w base spare held 3 v d p) :
    ∃ x : Int, v = .int .i64 x ∧ I64 x := by
  obtain ⟨a, rfl, rfl, rfl, wa⟩ := open_int Try.underlying3 hv h
  exact ⟨a, rfl, bounds_i64 wa⟩
theorem trod_tri {base : Nat} {spare : Nat → Bool} {held : Bool} {n : Nat} {cs : List Value} {x : DataW H × List MemPlace} {t : TypeId} {f0 f1 f2 : Field} (ht : Try.prog.underlying t = some (.struct #[f0, f1, f2])) (hc : Try.prog.cellsOf t = 3)
    (g : f0.type = 3 ∧ f1.type = 3 ∧ f2.type = 3 ∧ f0.offset = 0 ∧ f1.offset = 1 ∧ f2.offset = 2) (h : DataW.trod enc Try.prog w base spare held n t cs = some x) :
    ∃ e : Tri, cs = [.int .i64 e.1, .int .i64 e.2.1, .int .i64 e.2.2] ∧ I64 e.1 ∧ I64 e.2.1 ∧ I64 e.2.2 := by
  obtain ⟨y0, y1, y2, n', _, hlen, h0, h1, h2⟩ := Deep.trod_struct3 ht h
  obtain ⟨g0, g1, g2, o0, o1, o2⟩ := g
  rw [hc] at hlen
  rw [g0, o0, cells3] at h0
  rw [g1, o1, cells3] at h1
  rw [g2, o2, cells3] at h2
  match cs, hlen with
  | [c0, c1, c2], _ =>
    have h0' : DataW.trod enc Try.prog w base spare held n' 3 [c0] = some y0 := h0
    have h1' : DataW.trod enc Try.prog w base spare held n' 3 [c1] = some y1 := h1
    have h2' : DataW.trod enc Try.prog w base spare held n' 3 [c2] = some y2 := h2
    obtain ⟨a, e0, _, wa⟩ := DataW.trod_int Try.underlying3 h0'
    obtain ⟨b, e1, _, wb⟩ := DataW.trod_int Try.underlying3 h1'
    obtain ⟨c, e2, _, wc⟩ := DataW.trod_int Try.underlying3 h2'
    simp at e0 e1 e2
    subst e0 e1 e2
    exact ⟨(a, b, c), rfl, bounds_i64 wa, bounds_i64 wb, bounds_i64 wc⟩
theorem trod_rd3 {t e : TypeId} {f0 f1 f2 : Field} {base fuel : Nat} {spare : Nat → Bool} {held : Bool} {v : Value} {x : DataW H × List MemPlace} (hu : Try.prog.underlying t = some (.slice e)) (he : Try.prog.underlying e = some (.struct #[f0, f1, f2])) (hc : Try.prog.cellsOf e = 3)
    (g : f0.type = 3 ∧ f1.type = 3 ∧ f2.type = 3 ∧ f0.offset = 0 ∧ f1.offset = 1 ∧ f2.offset = 2)
    (hf : DataW.trod enc Try.prog w base spare held fuel t [v] = some x) : ∃ l, Rd3 w v l ∧ FitT l := by
  rcases Deep.open_slice hu hf with ⟨hcs, _⟩ | ⟨a, len, cap, m, n, D, Pl, hcs, _, hl, hm, hmm, _, hi⟩
  · simp at hcs
    subst hcs
    exact ⟨[], rd3_nil w, fun x hx => (by cases hx)⟩
  · simp at hcs
    subst hcs
    have hle : len ≤ m := by rw [hmm]; split <;> omega
    have hx : ∀ i, i < len → ∃ x : Tri, (w.cell? (a.add (i * 3)) = some (.int .i64 x.1) ∧ w.cell? (a.add (i * 3 + 1)) = some (.int .i64 x.2.1) ∧ w.cell? (a.add (i * 3 + 2)) = some (.int .i64 x.2.2)) ∧ I64 x.1 ∧ I64 x.2.1 ∧ I64 x.2.2 := by
      intro i him
      obtain ⟨cs', hcc, ht⟩ := hi i (by omega)
      rw [hc] at hcc
      obtain ⟨_, hlen, hat⟩ := World.cells?_some hcc
      obtain ⟨e, rfl, h1, h2, h3⟩ := trod_tri he hc g ht
      have k0 := hat 0 (by omega)
      have k1 := hat 1 (by omega)
      have k2 := hat 2 (by omega)
      refine ⟨e, ⟨?_, ?_, ?_⟩, h1, h2, h3⟩
      · rw [Deep.add_add] at k0; exact k0
      · rw [Deep.add_add] at k1; exact k1
      · rw [Deep.add_add] at k2; exact k2
    obtain ⟨Vf, hV⟩ := Deep.choose_lt hx
    refine ⟨(List.range len).map Vf, ⟨some a, cap, by simp, by simpa using hl, by unfold maxLen at hm; omega, fun k x hk => ?_⟩, fun x hx' => ?_⟩
    · have hkl : k < len := by have := (List.getElem?_eq_some_iff.1 hk).1; simpa using this
      have e : x = Vf k := by simpa [hkl] using hk.symm
      subst e
      obtain ⟨⟨c0, c1, c2⟩, _⟩ := hV k hkl
      have hsp : a.spot = none := by simpa [Addr.add] using World.cell?_spot (hV 0 (by omega)).1.1
      obtain ⟨b, off, spot⟩ := a
      obtain rfl : spot = none := hsp
      rw [Addr.add_lit] at c0 c1 c2
      exact ⟨b, off, rfl, World.block_lt_of_cell? _ _ c0, c0, by rw [Nat.add_assoc]; exact c1, by rw [Nat.add_assoc]; exact c2⟩
    · obtain ⟨i, hi', rfl⟩ := List.mem_map.1 hx'
      exact (hV i (by simpa using hi')).2
theorem open_graph {r : Reach} {b0 base : Nat} {spare : Nat → Bool} {held : Bool} {v : Value} {d : DataW H} {p : List MemPlace}
    (hv : Value.okWide Try.prog w r b0 27 v) (h : DataW.Trod enc Try.prog w base spare held 27 v d p) : ∃ (R N : Int) (l : List Tri) (s : Value), v = .agg #[.int .i64 R, .int .i64 N, s] ∧ I64 R ∧ I64 N ∧ Rd3 w s l ∧ FitT l := by
  obtain ⟨v0, v1, v2, y0, y1, y2, n, rfl, rfl, rfl, h0, h1, h2⟩ := open_agg3 Try.underlying27 (by kernel_rfl) cells27 hv h
  obtain ⟨a, e0, _, wa⟩ := DataW.trod_int Try.underlying3 h0
  obtain ⟨b, e1, _, wb⟩ := DataW.trod_int Try.underlying3 h1
  simp at e0 e1
  subst e0 e1
  obtain ⟨l, hr, hf⟩ := trod_rd3 Try.underlying25 Try.underlying72 cells72 ⟨rfl, rfl, rfl, rfl, rfl, rfl⟩ h2
  exact ⟨a, b, l, v2, rfl, bounds_i64 wa, bounds_i64 wb, hr, hf⟩
theorem trodAll_below {W W' : World} (hb : Below W.heap.size W W') : ∀ {ts : List TypeId} {vs : List Value} {ds : List (DataW H)} {ps : List MemPlace},
    (∀ t ∈ ts, Try.prog.readableRec t = true ∧ t < Try.prog.types.size) → DataW.TrodAll enc Try.prog W 0 (fun _ => true) true ts vs ds ps → (∀ x ∈ ps, x.block < W.heap.size) →
    DataW.TrodAll enc Try.prog W' 0 (fun b => decide (b < W.heap.size)) true ts vs ds ps
  | [], vs, ds, ps, _, h, _ => by
    obtain ⟨rfl, rfl, rfl⟩ := trodAll_nil h
    exact trodAll_mk0
  | t :: ts, vs, ds, ps, hr, h, hlt => by
    obtain ⟨v0, vs0, d0, ds0, p0, q0, rfl, rfl, rfl, h0, r0⟩ := trodAll_cons h
    exact trodAll_cons_mk (Below.trod laidOut (hr t (by simp)).1 (hr t (by simp)).2 h0 hb (fun x hx => hlt x (by simp [hx])))
      (trodAll_below hb (fun t ht => hr t (by simp [ht])) r0 (fun x hx => hlt x (by simp [hx])))
end
end Go.Proofs.Ytmbogobebllheaa
namespace Go.Proofs.Ytmbogobebllheaa
open Go.RowKit HM
set_option linter.unusedSimpArgs false
set_option linter.unusedVariables false

/-- the box of a queue and its three rows -/
structure HS (w : World) (hb : Nat) (vi : Value) (P K n : Nat) (its : List Nat) (pl keys : List Int) : Prop where
  box : w.heap[hb]? = some (.cells #[vi, .slice (some ⟨P, 0, none⟩) n n, .slice (some ⟨K, 0, none⟩) n n] 174 (0, 0))
  ri : w.ownsRow 0 3 1 vi its.length (nats its)
  rp : w.ownsRow 0 3 1 (.slice (some ⟨P, 0, none⟩) n n) n (ints pl)
  rk : w.ownsRow 0 3 1 (.slice (some ⟨K, 0, none⟩) n n) n (ints keys)
  ib : vi.ownBlock ≠ some hb
  ip : vi.ownBlock ≠ some P
  ik : vi.ownBlock ≠ some K
  bp : hb ≠ P
  bk : hb ≠ K
  pk : P ≠ K
def vblk (v : Value) : List Nat := v.ownBlock.toList
theorem mem_vblk {v : Value} {g : Nat} : g ∈ vblk v ↔ v.ownBlock = some g := by unfold vblk; cases v.ownBlock <;> simp [eq_comm]
section
variable {w w' : World} {hb P K n : Nat} {vi : Value} {its : List Nat} {pl keys : List Int}
theorem HS.lenp (h : HS w hb vi P K n its pl keys) : pl.length = n := by have := h.rp.1; rw [ints_len] at this; omega
theorem HS.lenk (h : HS w hb vi P K n its pl keys) : keys.length = n := by have := h.rk.1; rw [ints_len] at this; omega
theorem HS.congr (h : HS w hb vi P K n its pl keys) (hk : ∀ g, g ∈ hb :: P :: K :: vblk vi → w'.heap[g]? = w.heap[g]?) : HS w' hb vi P K n its pl keys :=
  ⟨(hk hb (by simp)).trans h.box, row_congr h.ri (fun g hg => hk g (by simp [mem_vblk, hg])), row_congr h.rp (fun g hg => hk g (by simp [Value.ownBlock] at hg; simp [hg])),
    row_congr h.rk (fun g hg => hk g (by simp [Value.ownBlock] at hg; simp [hg])), h.ib, h.ip, h.ik, h.bp, h.bk, h.pk⟩
theorem HS.lt (h : HS w hb vi P K n its pl keys) : ∀ g ∈ hb :: P :: K :: vblk vi, g < w.heap.size := by
  intro g hg
  simp only [List.mem_cons, mem_vblk] at hg
  rcases hg with rfl | rfl | rfl | hg
  · exact lt_block h.box
  · exact (row_lt h.rp rfl).2
  · exact (row_lt h.rk rfl).2
  · exact (row_lt h.ri hg).2
theorem HS.below (h : HS w hb vi P K n its pl keys) (k : Below w.heap.size w w') : HS w' hb vi P K n its pl keys := h.congr fun g hg => k.block g (h.lt g hg)
theorem HS.kp {S : List Nat} (h : HS w hb vi P K n its pl keys) (k : Kp S w w') (hn : ∀ g ∈ hb :: P :: K :: vblk vi, g ∉ S) : HS w' hb vi P K n its pl keys := h.congr fun g hg => k.block g (h.lt g hg) (hn g hg)
theorem HS.drewN (h : HS w hb vi P K n its pl keys) (q : Nat) : HS (w.drewN q) hb vi P K n its pl keys := h.congr fun _ _ => rfl
theorem HS.drew (h : HS w hb vi P K n its pl keys) : HS w.drew hb vi P K n its pl keys := h.congr fun _ _ => rfl
theorem HS.form (h : HS w hb vi P K n its pl keys) (hp : 0 < its.length) : ∃ I ci, vi = .slice (some ⟨I, 0, none⟩) its.length ci ∧ its.length ≤ ci ∧ ci ≤ maxLen := by
  rcases h.ri.2 with ⟨rfl, hn⟩ | ⟨g, cap, cur, rfl, _, _, h1, h2, _⟩
  · omega
  · exact ⟨g, cap, rfl, h1, h2⟩
theorem HS.f0 (h : HS w hb vi P K n its pl keys) : w.cell? ⟨hb, 0, none⟩ = some vi := cell_of h.box rfl
theorem HS.f1 (h : HS w hb vi P K n its pl keys) : w.cell? ⟨hb, 1, none⟩ = some (.slice (some ⟨P, 0, none⟩) n n) := cell_of h.box rfl
theorem HS.f2 (h : HS w hb vi P K n its pl keys) : w.cell? ⟨hb, 2, none⟩ = some (.slice (some ⟨K, 0, none⟩) n n) := cell_of h.box rfl
theorem HS.fb (h : HS w hb vi P K n its pl keys) (o : Nat) : w.frozen? ⟨hb, o, none⟩ = false := free_of h.box o
theorem HS.cp (h : HS w hb vi P K n its pl keys) {x : Nat} (hx : x < n) : w.cell? ⟨P, x, none⟩ = some (.int .i64 (gI pl x)) := by
  rw [h.rp.cellAt x (by omega)]; exact ints_get (gI_get (by rw [h.lenp]; exact hx))
theorem HS.ck (h : HS w hb vi P K n its pl keys) {x : Nat} (hx : x < n) : w.cell? ⟨K, x, none⟩ = some (.int .i64 (gI keys x)) := by
  rw [h.rk.cellAt x (by omega)]; exact ints_get (gI_get (by rw [h.lenk]; exact hx))
theorem HS.fp (h : HS w hb vi P K n its pl keys) (o : Nat) : w.frozen? ⟨P, o, none⟩ = false := h.rp.frozenAt o
theorem HS.fk (h : HS w hb vi P K n its pl keys) (o : Nat) : w.frozen? ⟨K, o, none⟩ = false := h.rk.frozenAt o
variable {I ci L : Nat}
theorem HS.cellI (h : HS w hb (.slice (some ⟨I, 0, none⟩) L ci) P K n its pl keys) (hl : its.length = L) {x : Nat} (hx : x < L) : w.cell? ⟨I, x, none⟩ = some (.int .i64 (gN its x : Int)) := by
  subst hl
  rw [h.ri.cellAt x (by omega)]; exact nats_get (gN_get hx)
theorem HS.freeI (h : HS w hb (.slice (some ⟨I, 0, none⟩) L ci) P K n its pl keys) (hl : its.length = L) (o : Nat) : w.frozen? ⟨I, o, none⟩ = false := by subst hl; exact h.ri.frozenAt o
theorem HS.setI (h : HS w hb (.slice (some ⟨I, 0, none⟩) L ci) P K n its pl keys) (hl : its.length = L) (j x : Nat) : HS (w.setCell ⟨I, j, none⟩ (.int .i64 (x : Int))) hb (.slice (some ⟨I, 0, none⟩) L ci) P K n (its.set j x) pl keys := by
  subst hl
  have h1 := h.ib; have h2 := h.ip; have h3 := h.ik
  simp [Value.ownBlock] at h1 h2 h3
  have hs := (h.ri.stored j (.int .i64 (x : Int))).1
  rw [nats_set] at hs
  exact ⟨(heap_set_ne (fun e => h1 e.symm)).trans h.box, by simpa using hs, row_congr h.rp (fun g hg => heap_set_ne (by simp [Value.ownBlock] at hg; subst hg; exact fun e => h2 e.symm)),
    row_congr h.rk (fun g hg => heap_set_ne (by simp [Value.ownBlock] at hg; subst hg; exact fun e => h3 e.symm)), h.ib, h.ip, h.ik, h.bp, h.bk, h.pk⟩
theorem HS.setP (h : HS w hb vi P K n its pl keys) (j : Nat) (x : Int) : HS (w.setCell ⟨P, j, none⟩ (.int .i64 x)) hb vi P K n its (pl.set j x) keys := by
  have hs := (h.rp.stored j (.int .i64 x)).1
  rw [ints_set] at hs
  exact ⟨(heap_set_ne h.bp).trans h.box, row_congr h.ri (fun g hg => heap_set_ne (fun e => h.ip (by rw [hg, e]))), hs,
    row_congr h.rk (fun g hg => heap_set_ne (by simp [Value.ownBlock] at hg; subst hg; exact fun e => h.pk e.symm)), h.ib, h.ip, h.ik, h.bp, h.bk, h.pk⟩
theorem HS.setK (h : HS w hb vi P K n its pl keys) (j : Nat) (x : Int) : HS (w.setCell ⟨K, j, none⟩ (.int .i64 x)) hb vi P K n its pl (keys.set j x) := by
  have hs := (h.rk.stored j (.int .i64 x)).1
  rw [ints_set] at hs
  exact ⟨(heap_set_ne h.bk).trans h.box, row_congr h.ri (fun g hg => heap_set_ne (fun e => h.ik (by rw [hg, e]))),
    row_congr h.rp (fun g hg => heap_set_ne (by simp [Value.ownBlock] at hg; subst hg; exact h.pk)), hs, h.ib, h.ip, h.ik, h.bp, h.bk, h.pk⟩
/-- the box's first field anew -/
theorem HS.setB (h : HS w hb vi P K n its pl keys) {vi' : Value} {its' : List Nat} (hr : w.ownsRow 0 3 1 vi' its'.length (nats its')) (h1 : vi'.ownBlock ≠ some hb) (h2 : vi'.ownBlock ≠ some P) (h3 : vi'.ownBlock ≠ some K) :
    HS (w.setCell ⟨hb, 0, none⟩ vi') hb vi' P K n its' pl keys :=
  ⟨heap_set_eq h.box, row_congr hr (fun g hg => heap_set_ne (fun e => h1 (by rw [hg, e]))), row_congr h.rp (fun g hg => heap_set_ne (by simp [Value.ownBlock] at hg; subst hg; exact fun e => h.bp e.symm)),
    row_congr h.rk (fun g hg => heap_set_ne (by simp [Value.ownBlock] at hg; subst hg; exact fun e => h.bk e.symm)), h1, h2, h3, h.bp, h.bk, h.pk⟩
/-- the last item goes -/
theorem HS.pop (h : HS w hb (.slice (some ⟨I, 0, none⟩) L ci) P K n its pl keys) {m : Nat} (hl : its.length = L) (hm : L = m + 1) : w.ownsRow 0 3 1 (.slice (some ⟨I, 0, none⟩) m ci) (its.take m).length (nats (its.take m)) := by
  subst hl
  have e : nats its = nats (its.take m) ++ nats (its.drop m) := by simp only [nats, ← List.map_append, List.take_append_drop]
  have hl : (its.take m).length = m := by simp; omega
  have hr := h.ri
  rw [e, hm] at hr
  have := ownsRow_pop (by rw [nats_len, hl]; omega) hr
  rw [hl]; exact this
end
end Go.Proofs.Ytmbogobebllheaa
namespace Go.Proofs.Ytmbogobebllheaa
open Go.RowKit HM
set_option linter.unusedSimpArgs false
set_option linter.unusedVariables false
set_option maxHeartbeats 4000000
set_option maxRecDepth 100000

def ltB (keys : List Int) (a b : Nat) : Bool := decide (lt (gI keys) a b)
theorem ltB_true {keys : List Int} {a b : Nat} : ltB keys a b = true ↔ lt (gI keys) a b := by unfold ltB; simp
theorem ltB_false {keys : List Int} {a b : Nat} : ltB keys a b = false ↔ ¬ lt (gI keys) a b := by unfold ltB; simp
theorem ltB_eq {keys : List Int} {a b : Nat} (h : gI keys a = gI keys b) : ltB keys a b = decide (a < b) :=
  Bool.eq_iff_iff.2 (by rw [ltB_true, decide_eq_true_iff]; unfold lt; omega)
theorem ltB_ne {keys : List Int} {a b : Nat} (h : gI keys a ≠ gI keys b) : ltB keys a b = decide (gI keys a < gI keys b) := by
  exact Bool.eq_iff_iff.2 (by rw [ltB_true, decide_eq_true_iff]; unfold lt; omega)

theorem before_any (w : World) (hb : Nat) (vi : Value) (P K n : Nat) (its : List Nat) (pl keys : List Int) (h : HS w hb vi P K n its pl keys) (hn : n ≤ 65536) (a b : Nat) (ha : a < n) (hb' : b < n) :
    Calls Try.prog 157 #[.pointer (some ⟨hb, 0, none⟩), .int .i64 (a : Int), .int .i64 (b : Int)] w fun e w' => e = .returned (.bool (ltB keys a b)) ∧ ∃ q, w' = w.drewN q := by
  have c2 := h.f2
  have ca := h.ck ha
  have cb := h.ck hb'
  have a0 : (0 : Int) ≤ (a : Int) := by omega
  have a1 : (a : Int) < (n : Int) := by omega
  have b0 : (0 : Int) ≤ (b : Int) := by omega
  have b1 : (b : Int) < (n : Int) := by omega
  by_cases e : gI keys a = gI keys b
  · have L := Lib.hid (ltB_eq e)
    rw [e] at ca
    clear h e
    generalize gI keys b = y at ca cb
    go_enter Try.func157, Try.ntmps157
    go_wp2_with fail
    go_quiet (fail)
    go_wp2
    go_ret
    exact ⟨by rw [L.out]; rfl, ⟨_, rfl⟩⟩
  · have L := Lib.hid (ltB_ne e)
    have e1 : (gI keys a == gI keys b) = false := by simpa using e
    have e2 : (gI keys a != gI keys b) = true := by simpa using e
    clear h e
    generalize gI keys a = x at ca e1 e2 L
    generalize gI keys b = y at cb e1 e2 L
    go_enter Try.func157, Try.ntmps157
    go_wp2_with fail
    go_quiet (fail)
    go_wp2_with fail
    go_quiet (fail)
    go_wp2
    go_ret
    exact ⟨by rw [L.out]; rfl, ⟨_, World.drewN_drewN _ _ _⟩⟩

theorem has_in (w : World) (hb : Nat) (vi : Value) (P K n : Nat) (its : List Nat) (pl keys : List Int) (h : HS w hb vi P K n its pl keys) (x : Nat) (hx : x < n) :
    Calls Try.prog 177 #[.pointer (some ⟨hb, 0, none⟩), .int .i64 (x : Int)] w fun e w' => e = .returned (.bool (decide (0 ≤ gI pl x))) ∧ w = w' := by
  have c1 := h.f1
  have cp := h.cp hx
  have h0 : (0 : Int) ≤ (x : Int) := by omega
  have h1 : (x : Int) < (n : Int) := by omega
  clear h
  generalize gI pl x = y at cp ⊢
  go_enter Try.func177, Try.ntmps177
  go_wp2
  go_ret
  exact ⟨rfl, rfl⟩

theorem swap_any (w : World) (hb I ci P K n : Nat) (its : List Nat) (pl keys : List Int) (h : HS w hb (.slice (some ⟨I, 0, none⟩) its.length ci) P K n its pl keys) (hw : WF n its pl) (hn : n ≤ 65536) (a b : Nat) (ha : a < its.length) (hb' : b < its.length) :
    Calls Try.prog 190 #[.pointer (some ⟨hb, 0, none⟩), .int .i64 (a : Int), .int .i64 (b : Int)] w fun e w' => e = .returned (.tuple #[]) ∧
      HS w' hb (.slice (some ⟨I, 0, none⟩) its.length ci) P K n (swapI its a b) (swapP pl (swapI its a b) a b) keys ∧ Kp [I, P] w w' := by
  have hnb := h.ib
  have hnp := h.ip
  simp [Value.ownBlock] at hnb hnp
  obtain ⟨L, hL⟩ : ∃ L, its.length = L := ⟨_, rfl⟩
  have hle := hw.le
  rw [hL] at h ha hb' hle ⊢
  have gs := fun p => swapI_get (its := its) (a := a) (b := b) (by omega) (by omega) p
  have eA : gN (swapI its a b) a = gN its b := by rw [gs]; by_cases e : a = b; simp [e]; simp [e]
  have eB : gN (swapI its a b) b = gN its a := by rw [gs, if_pos rfl]
  have xA := (hw.at' a (by omega)).1
  have xB := (hw.at' b (by omega)).1
  have h1 := (h.setI hL a (gN its b)).setI (by simpa using hL) b (gN its a)
  have f0 := h.f0
  have f1 := h.f1
  have cA := h.cellI hL ha
  have cB := h.cellI hL hb'
  have zA := h.freeI hL a
  have zB := h.freeI hL b
  have a0 : (0 : Int) ≤ (a : Int) := by omega
  have a1 : (a : Int) < (L : Int) := by omega
  have b0 : (0 : Int) ≤ (b : Int) := by omega
  have b1 : (b : Int) < (L : Int) := by omega
  have hL' : (swapI its a b).length = L := by rw [swapI_len, hL]
  have cM := (h.setI hL a (gN its b)).cellI (by simpa using hL) hb'
  have zM := (h.setI hL a (gN its b)).freeI (by simpa using hL) b
  generalize gN (its.set a (gN its b)) b = m at cM
  have H := Lib.hid h
  have H1 : Hid (HS ((w.setCell ⟨I, a, none⟩ (.int .i64 (gN its b : Int))).setCell ⟨I, b, none⟩ (.int .i64 (gN its a : Int))) hb (.slice (some ⟨I, 0, none⟩) L ci) P K n (swapI its a b) pl keys) := h1
  have EA := Lib.hid eA
  have EB := Lib.hid eB
  have HL := Lib.hid hL'
  clear h h1 eA eB gs hw hL hL'
  generalize hI : swapI its a b = its' at *
  generalize gN its a = x at *
  generalize gN its b = y at *
  go_enter Try.func190, Try.ntmps190
  go_wp2_with fail
  go_region
  go_wp2_with fail
  have g1 := H1.out.drew
  have k1 : Kp [I, P] w ((w.setCell ⟨I, a, none⟩ (.int .i64 (y : Int))).setCell ⟨I, b, none⟩ (.int .i64 (x : Int))).drew := (((Kp.refl _ w).setCell (.inl (by simp))).setCell (.inl (by simp))).drew
  clear f0 f1 cA cB zA zB cM zM H H1
  generalize ((w.setCell ⟨I, a, none⟩ (.int .i64 (y : Int))).setCell ⟨I, b, none⟩ (.int .i64 (x : Int))).drew = wq at *
  have f0 := g1.f0
  have f1 := g1.f1
  have cA := g1.cellI HL.out ha
  have cB := g1.cellI HL.out hb'
  rw [EA.out] at cA
  rw [EB.out] at cB
  have cX := g1.cp xA
  have cY := g1.cp xB
  have zX := g1.fp x
  have zY := g1.fp y
  have g2 := (g1.setP y (a : Int)).setP x (b : Int)
  have cM := (g1.setP y (a : Int)).cp xA
  have zM := (g1.setP y (a : Int)).fp x
  generalize gI pl x = px at cX
  generalize gI pl y = py at cY
  generalize gI (pl.set y (a : Int)) x = pm at cM
  have x0 : (0 : Int) ≤ (x : Int) := by omega
  have x1 : (x : Int) < (n : Int) := by omega
  have y0 : (0 : Int) ≤ (y : Int) := by omega
  have y1 : (y : Int) < (n : Int) := by omega
  have G2 := Lib.hid g2
  have KK := Lib.hid k1
  clear g1 g2 k1
  go_region
  go_wp2
  go_end0
  refine ⟨rfl, ?_, ((KK.out.setCell (.inl (by simp))).setCell (.inl (by simp))).drew⟩
  have := G2.out.drew
  unfold swapP
  rw [EA.out, EB.out]
  exact this
end Go.Proofs.Ytmbogobebllheaa
namespace Go.Proofs.Ytmbogobebllheaa
open Go.RowKit HM
set_option linter.unusedSimpArgs false
set_option linter.unusedVariables false
set_option maxHeartbeats 4000000
set_option maxRecDepth 100000

/-- what settle keeps from round to round -/
structure St (w : World) (hb I ci P K n L : Nat) (pl keys : List Int) (W : World) (its' : List Nat) (pl' : List Int) : Prop where
  len : its'.length = L
  hs : HS W hb (.slice (some ⟨I, 0, none⟩) L ci) P K n its' pl' keys
  wf : WF n its' pl'
  nn : ∀ x, x < n → (0 ≤ gI pl' x ↔ 0 ≤ gI pl x)
  kp : Kp [I, P] w W
theorem St.drewN {w : World} {hb I ci P K n L : Nat} {pl keys : List Int} {W : World} {its' : List Nat} {pl' : List Int} (h : St w hb I ci P K n L pl keys W its' pl') (q : Nat) : St w hb I ci P K n L pl keys (W.drewN q) its' pl' :=
  ⟨h.len, h.hs.drewN q, h.wf, h.nn, h.kp.drewN q⟩
theorem St.swap {w : World} {hb I ci P K n L : Nat} {pl keys : List Int} {W : World} {its' : List Nat} {pl' : List Int} (h : St w hb I ci P K n L pl keys W its' pl') (hn : n ≤ 65536) {a b : Nat} (ha : a < L) (hb' : b < L) :
    Calls Try.prog 190 #[.pointer (some ⟨hb, 0, none⟩), .int .i64 (a : Int), .int .i64 (b : Int)] W fun e w' => e = .returned (.tuple #[]) ∧ St w hb I ci P K n L pl keys w' (swapI its' a b) (swapP pl' (swapI its' a b) a b) := by
  obtain ⟨h1, h2, h3, h4, h5⟩ := h
  subst h1
  refine (swap_any W hb I ci P K n its' pl' keys h2 h3 hn a b ha hb').mono ?_
  rintro e w' ⟨rfl, k1, k2⟩
  have hs := h3.swap ha hb'
  exact ⟨rfl, swapI_len _ _ _, k1, hs.1, fun x hx => (hs.2 x hx).trans (h4 x hx), h5.trans k2 (fun g hg => .inl hg)⟩
theorem St.before {w : World} {hb I ci P K n L : Nat} {pl keys : List Int} {W : World} {its' : List Nat} {pl' : List Int} (h : St w hb I ci P K n L pl keys W its' pl') (hn : n ≤ 65536) {a b : Nat} (ha : a < L) (hb' : b < L) (q : Nat) :
    Calls Try.prog 157 #[.pointer (some ⟨hb, 0, none⟩), .int .i64 (gN its' a : Int), .int .i64 (gN its' b : Int)] (W.drewN q) fun e w' => e = .returned (.bool (ltB keys (gN its' a) (gN its' b))) ∧ ∃ q', w' = (W.drewN q).drewN q' :=
  before_any _ hb _ P K n its' pl' keys (h.hs.drewN q) hn _ _ (h.wf.at' a (by have := h.len; omega)).1 (h.wf.at' b (by have := h.len; omega)).1
theorem kids {c q : Nat} (h0 : 0 < q) (h : par q = c) : q = 2 * c + 1 ∨ q = 2 * c + 2 := by unfold par at h; omega
/-- the least of c and of its kids before k -/
structure Fst (keys : List Int) (its : List Nat) (c k f : Nat) : Prop where
  fl : f < its.length
  fk : f = c ∨ (0 < f ∧ par f = c ∧ lt (gI keys) (gN its f) (gN its c))
  all : ∀ q, 0 < q → q < its.length → par q = c → q < k → ¬ lt (gI keys) (gN its q) (gN its f)
theorem fst_start {keys : List Int} {its : List Nat} {c : Nat} (h : c < its.length) : Fst keys its c (2 * c + 1) c := ⟨h, .inl rfl, fun q h0 _ h2 h3 => by have := kids h0 h2; omega⟩
theorem Fst.less {keys : List Int} {its : List Nat} {c k f : Nat} (h : Fst keys its c k f) (hk : k < its.length) (h1 : 2 * c + 1 ≤ k) (h2 : k ≤ 2 * c + 2) (hl : lt (gI keys) (gN its k) (gN its f)) : Fst keys its c (k + 1) k := by
  refine ⟨hk, .inr ⟨by omega, by unfold par; omega, ?_⟩, fun q h0 hq hp hqk => ?_⟩
  · rcases h.fk with rfl | h3
    · exact hl
    · have := h3.2.2
      revert hl this; unfold lt; omega
  · by_cases e : q = k
    · subst e; exact lt_irr
    · exact nlt_of_lt_nlt (h.all q h0 hq hp (by omega)) hl
theorem Fst.more {keys : List Int} {its : List Nat} {c k f : Nat} (h : Fst keys its c k f) (hl : ¬ lt (gI keys) (gN its k) (gN its f)) : Fst keys its c (k + 1) f :=
  ⟨h.fl, h.fk, fun q h0 hq hp hqk => by
    by_cases e : q = k
    · subst e; exact hl
    · exact h.all q h0 hq hp (by omega)⟩
theorem Fst.end {keys : List Int} {its : List Nat} {c k f : Nat} (h : Fst keys its c k f) (hk : 2 * c + 2 < k ∨ its.length ≤ k) : ∀ q, 0 < q → q < its.length → par q = c → ¬ lt (gI keys) (gN its q) (gN its f) := fun q h0 hq hp =>
  h.all q h0 hq hp (by have := kids h0 hp; omega)

/-- what settle leaves -/
def SetP (w : World) (hb I ci P K n L : Nat) (pl keys : List Int) (w' : World) : Prop := ∃ its' pl', St w hb I ci P K n L pl keys w' its' pl' ∧ OK (gI keys) its'
theorem SetP.mk {w : World} {hb I ci P K n L : Nat} {pl keys : List Int} {w' : World} {its' : List Nat} {pl' : List Int} (h : St w hb I ci P K n L pl keys w' its' pl') (k : OK (gI keys) its') : SetP w hb I ci P K n L pl keys w' := ⟨_, _, h, k⟩
set_option maxHeartbeats 8000000 in
theorem settle_any (w : World) (hb I ci P K n L : Nat) (its : List Nat) (pl keys : List Int) (h : St w hb I ci P K n L pl keys w its pl) (hn : n ≤ 65536) (c : Nat) (hc : c < L) (hu : Up (gI keys) its c) :
    Calls Try.prog 178 #[.pointer (some ⟨hb, 0, none⟩), .int .i64 (c : Int), .func (.func 157) #[.pointer (some ⟨hb, 0, none⟩)] #[]] w fun e w' => e = .returned (.tuple #[]) ∧ SetP w hb I ci P K n L pl keys w' := by
  have hLn : L ≤ n := by have := h.wf.le; have := h.len; omega
  have H0 : Hid (St w hb I ci P K n L pl keys w its pl ∧ Up (gI keys) its c) := ⟨h, hu⟩
  clear h hu
  go_enter Try.func178, Try.ntmps178
  go_wp2_with fail
  go_loopg [1, 6] c (fun g s1 s6 wr => ∃ (c : Nat) (its' : List Nat) (pl' : List Int), c < L ∧ c ≤ g ∧ s1 = .int .i64 (c : Int) ∧ (∃ v, v = s6) ∧ Hid (St w hb I ci P K n L pl keys wr its' pl' ∧ Up (gI keys) its' c))
  case atStart => exact ⟨c, its, pl, hc, Nat.le_refl _, rfl, ⟨_, rfl⟩, H0⟩
  case round =>
    clear H0 hc
    obtain ⟨c, its', pl', hcl, hcg, rfl, ⟨v6, rfl⟩, HR⟩ := hrel
    have hlen := HR.out.1.len
    by_cases h0 : c = 0
    · have HD : Hid (St w hb I ci P K n L pl keys wr its' pl' ∧ Down (gI keys) its' c) := ⟨HR.out.1, up_stop HR.out.2 (.inl h0)⟩
      clear HR hlen
      have h0' : ¬ 0 < c := by omega
      clear h0
      go_wp2_with fail
      go_loopg [1, 7, 8] (L - c) (fun g s1 s7 s8 wr => ∃ (c : Nat) (its' : List Nat) (pl' : List Int), c < L ∧ L - c ≤ g ∧ s1 = .int .i64 (c : Int) ∧ (∃ v, v = s7) ∧ (∃ v, v = s8) ∧ Hid (St w hb I ci P K n L pl keys wr its' pl' ∧ Down (gI keys) its' c))
      case atStart => exact ⟨c, its', pl', hcl, Nat.le_refl _, rfl, ⟨_, rfl⟩, ⟨_, rfl⟩, HD⟩
      case round =>
        clear HD
        rename_i cOld itsOld plOld
        obtain ⟨c, its', pl', hcl, hcg, rfl, ⟨v7, rfl⟩, ⟨v8, rfl⟩, HR⟩ := hrel
        have HD : Hid (Down (gI keys) its' c) := HR.out.2
        have HF : Hid (St w hb I ci P K n L pl keys wr its' pl' ∧ Fst keys its' c (2 * c + 1) c) := ⟨HR.out.1, fst_start (by have := HR.out.1.len; omega)⟩
        clear HR
        go_wp2_with fail
        go_loopg [7, 8] 2 (fun g s7 s8 wr => ∃ (f k : Nat), f < L ∧ 2 * c + 1 ≤ k ∧ k ≤ 2 * c + 3 ∧ 2 * c + 3 - k ≤ g ∧ s7 = .int .i64 (f : Int) ∧ s8 = .int .i64 (k : Int) ∧ Hid (St w hb I ci P K n L pl keys wr its' pl' ∧ Fst keys its' c k f))
        case atStart => exact ⟨c, 2 * c + 1, hcl, by omega, by omega, by omega, rfl, by go_num, HF⟩
        case round =>
          clear HF
          obtain ⟨f, k, hfl, hk1, hk2, hkg, rfl, rfl, HF⟩ := hrel
          have hlen := HF.out.1.len
          have f0 := HF.out.1.hs.f0
          by_cases hk3 : k ≤ 2 * c + 2
          · have hk3' : (k : Int) ≤ 2 * (c : Int) + 2 := by omega
            by_cases hkl : k < L
            · have cA := HF.out.1.hs.cellI hlen hkl
              have cB := HF.out.1.hs.cellI hlen hfl
              have HB := Lib.hid (HF.out.1.before hn hkl hfl)
              have i0 : (0 : Int) ≤ (k : Int) := by omega
              have i1 : (k : Int) < (L : Int) := by omega
              have i2 : (0 : Int) ≤ (f : Int) := by omega
              have i3 : (f : Int) < (L : Int) := by omega
              generalize hx : gN its' k = x at *
              generalize hy : gN its' f = y at *
              have HX := Lib.hid (And.intro hx hy)
              clear hx hy hlen
              cases hlt : ltB keys x y
              · have hT := Lib.hid hlt
                rw [hlt] at HB
                clear hlt
                go_wp2_with fail
                go_quiet ((go_at_call 157; exact Calls.quiet_of (HB.out _)))
                go_wp2_with fail
                go_roundg (2 * c + 3 - (k + 1))
                case measure => omega
                case rel => exact ⟨f, k + 1, hfl, by omega, by omega, Nat.le_refl _, rfl, by go_num, HF.out.1.drewN _, HF.out.2.more (by rw [HX.out.1, HX.out.2]; exact ltB_false.1 hT.out)⟩
              · have hT := Lib.hid hlt
                rw [hlt] at HB
                clear hlt
                go_wp2_with fail
                go_quiet ((go_at_call 157; exact Calls.quiet_of (HB.out _)))
                go_wp2_with fail
                go_roundg (2 * c + 3 - (k + 1))
                case measure => omega
                case rel => exact ⟨k, k + 1, hkl, by omega, by omega, Nat.le_refl _, rfl, by go_num, HF.out.1.drewN _, HF.out.2.less (by have := HF.out.1.len; omega) hk1 hk3 (by rw [HX.out.1, HX.out.2]; exact ltB_true.1 hT.out)⟩
            · have hkl' : decide (k < L) = false := decide_eq_false hkl
              clear hlen
              have HE : Hid (∀ q, 0 < q → q < its'.length → par q = c → ¬ lt (gI keys) (gN its' q) (gN its' f)) := HF.out.2.end (by have := HF.out.1.len; omega)
              by_cases hfc : f = c
              · subst hfc
                have HO : Hid (OK (gI keys) its') := down_stop HD.out HE.out
                go_wp2
                refine bodyPost_ret (results_none rfl _ _ _) rfl ?_
                exact ⟨rfl, SetP.mk HF.out.1 HO.out⟩
              · have hf1 : ¬ (f : Int) = (c : Int) := by omega
                have hf2 : ((f : Int) == (c : Int)) = false := by simpa using hf1
                have HS1 := Lib.hid (HF.out.1.swap hn hcl hfl)
                have HN : Hid (Down (gI keys) (swapI its' c f) f) := by
                  have h1 := HF.out.2.fk
                  rcases h1 with h1 | ⟨h1, h2, h3⟩
                  · exact absurd h1 hfc
                  · exact down_step HD.out h1 HF.out.2.fl h2 h3 HE.out
                have hcf : c < f := by
                  have h1 := HF.out.2.fk
                  rcases h1 with h1 | ⟨h1, h2, h3⟩
                  · exact absurd h1 hfc
                  · have := par_lt h1; omega
                go_wp2_with fail
                go_at_call 190
                refine HS1.out.mono ?_
                rintro e w2 ⟨rfl, h2⟩
                have H2 := Lib.hid h2
                clear h2 HS1
                go_wp2_with fail
                go_roundg (L - f)
                case measure => omega
                case rel => exact ⟨f, _, _, hfl, Nat.le_refl _, rfl, ⟨_, rfl⟩, ⟨_, rfl⟩, H2.out, HN.out⟩
          · have hk3' : ¬ (k : Int) ≤ 2 * (c : Int) + 2 := by omega
            have hk4 : decide ((k : Int) ≤ 2 * (c : Int) + 2) = false := decide_eq_false hk3'
            clear hlen
            have HE : Hid (∀ q, 0 < q → q < its'.length → par q = c → ¬ lt (gI keys) (gN its' q) (gN its' f)) := HF.out.2.end (by have := HF.out.1.len; omega)
            by_cases hfc : f = c
            · subst hfc
              have HO : Hid (OK (gI keys) its') := down_stop HD.out HE.out
              go_wp2
              refine bodyPost_ret (results_none rfl _ _ _) rfl ?_
              exact ⟨rfl, SetP.mk HF.out.1 HO.out⟩
            · have hf1 : ¬ (f : Int) = (c : Int) := by omega
              have hf2 : ((f : Int) == (c : Int)) = false := by simpa using hf1
              have HS1 := Lib.hid (HF.out.1.swap hn hcl hfl)
              have HN : Hid (Down (gI keys) (swapI its' c f) f) := by
                have h1 := HF.out.2.fk
                rcases h1 with h1 | ⟨h1, h2, h3⟩
                · exact absurd h1 hfc
                · exact down_step HD.out h1 HF.out.2.fl h2 h3 HE.out
              have hcf : c < f := by
                have h1 := HF.out.2.fk
                rcases h1 with h1 | ⟨h1, h2, h3⟩
                · exact absurd h1 hfc
                · have := par_lt h1; omega
              go_wp2_with fail
              go_at_call 190
              refine HS1.out.mono ?_
              rintro e w2 ⟨rfl, h2⟩
              have H2 := Lib.hid h2
              clear h2 HS1
              go_wp2_with fail
              go_roundg (L - f)
              case measure => omega
              case rel => exact ⟨f, _, _, hfl, Nat.le_refl _, rfl, ⟨_, rfl⟩, ⟨_, rfl⟩, H2.out, HN.out⟩
    · have hp := par_lt (show 0 < c by omega)
      have f0 := HR.out.1.hs.f0
      have cA := HR.out.1.hs.cellI hlen hcl
      have cB := HR.out.1.hs.cellI hlen (show par c < L by omega)
      have ep : ((c : Int) - 1) / 2 = (par c : Int) := by unfold par; omega
      have hB := HR.out.1.before hn hcl (show par c < L by omega)
      have HB := Lib.hid hB
      clear hB
      generalize hpar : par c = pc at *
      have HPc := Lib.hid hpar
      clear hpar
      have i0 : (0 : Int) ≤ (c : Int) := by omega
      have i1 : (c : Int) < (L : Int) := by omega
      have i2 : (0 : Int) ≤ (pc : Int) := by omega
      have i3 : (pc : Int) < (L : Int) := by omega
      generalize hx : gN its' c = x at *
      generalize hy : gN its' pc = y at *
      have HX := Lib.hid (And.intro hx hy)
      clear hx hy hlen
      cases hlt : ltB keys x y
      · have HT := Lib.hid hlt
        rw [hlt] at HB
        clear hlt
        go_wp2_with fail
        simp only [ep]
        clear ep
        go_quiet ((go_at_call 157; exact Calls.quiet_of (HB.out _)))
        have HD : Hid (St w hb I ci P K n L pl keys (wr.drewN nq) its' pl' ∧ Down (gI keys) its' c) := ⟨HR.out.1.drewN nq, up_stop HR.out.2 (.inr (by rw [HPc.out, HX.out.1, HX.out.2]; exact ltB_false.1 HT.out))⟩
        clear HR HB f0 cA cB i0 i1 i2 i3 HX HT HPc
        go_wp2_with fail
        simp only [show decide (0 < c) = true from decide_eq_true (by omega)]
        go_loopg [1, 7, 8] (L - c) (fun g s1 s7 s8 wr => ∃ (c : Nat) (its' : List Nat) (pl' : List Int), c < L ∧ L - c ≤ g ∧ s1 = .int .i64 (c : Int) ∧ (∃ v, v = s7) ∧ (∃ v, v = s8) ∧ Hid (St w hb I ci P K n L pl keys wr its' pl' ∧ Down (gI keys) its' c))
        case atStart => exact ⟨c, its', pl', hcl, Nat.le_refl _, rfl, ⟨_, rfl⟩, ⟨_, rfl⟩, HD⟩
        case round =>
          clear HD
          rename_i cOld itsOld plOld
          obtain ⟨c, its', pl', hcl, hcg, rfl, ⟨v7, rfl⟩, ⟨v8, rfl⟩, HR⟩ := hrel
          have HD : Hid (Down (gI keys) its' c) := HR.out.2
          have HF : Hid (St w hb I ci P K n L pl keys wr its' pl' ∧ Fst keys its' c (2 * c + 1) c) := ⟨HR.out.1, fst_start (by have := HR.out.1.len; omega)⟩
          clear HR
          go_wp2_with fail
          go_loopg [7, 8] 2 (fun g s7 s8 wr => ∃ (f k : Nat), f < L ∧ 2 * c + 1 ≤ k ∧ k ≤ 2 * c + 3 ∧ 2 * c + 3 - k ≤ g ∧ s7 = .int .i64 (f : Int) ∧ s8 = .int .i64 (k : Int) ∧ Hid (St w hb I ci P K n L pl keys wr its' pl' ∧ Fst keys its' c k f))
          case atStart => exact ⟨c, 2 * c + 1, hcl, by omega, by omega, by omega, rfl, by go_num, HF⟩
          case round =>
            clear HF
            obtain ⟨f, k, hfl, hk1, hk2, hkg, rfl, rfl, HF⟩ := hrel
            have hlen := HF.out.1.len
            have f0 := HF.out.1.hs.f0
            by_cases hk3 : k ≤ 2 * c + 2
            · have hk3' : (k : Int) ≤ 2 * (c : Int) + 2 := by omega
              by_cases hkl : k < L
              · have cA := HF.out.1.hs.cellI hlen hkl
                have cB := HF.out.1.hs.cellI hlen hfl
                have HB := Lib.hid (HF.out.1.before hn hkl hfl)
                have i0 : (0 : Int) ≤ (k : Int) := by omega
                have i1 : (k : Int) < (L : Int) := by omega
                have i2 : (0 : Int) ≤ (f : Int) := by omega
                have i3 : (f : Int) < (L : Int) := by omega
                generalize hx : gN its' k = x at *
                generalize hy : gN its' f = y at *
                have HX := Lib.hid (And.intro hx hy)
                clear hx hy hlen
                cases hlt : ltB keys x y
                · have hT := Lib.hid hlt
                  rw [hlt] at HB
                  clear hlt
                  go_wp2_with fail
                  go_quiet ((go_at_call 157; exact Calls.quiet_of (HB.out _)))
                  go_wp2_with fail
                  go_roundg (2 * c + 3 - (k + 1))
                  case measure => omega
                  case rel => exact ⟨f, k + 1, hfl, by omega, by omega, Nat.le_refl _, rfl, by go_num, HF.out.1.drewN _, HF.out.2.more (by rw [HX.out.1, HX.out.2]; exact ltB_false.1 hT.out)⟩
                · have hT := Lib.hid hlt
                  rw [hlt] at HB
                  clear hlt
                  go_wp2_with fail
                  go_quiet ((go_at_call 157; exact Calls.quiet_of (HB.out _)))
                  go_wp2_with fail
                  go_roundg (2 * c + 3 - (k + 1))
                  case measure => omega
                  case rel => exact ⟨k, k + 1, hkl, by omega, by omega, Nat.le_refl _, rfl, by go_num, HF.out.1.drewN _, HF.out.2.less (by have := HF.out.1.len; omega) hk1 hk3 (by rw [HX.out.1, HX.out.2]; exact ltB_true.1 hT.out)⟩
              · have hkl' : decide (k < L) = false := decide_eq_false hkl
                clear hlen
                have HE : Hid (∀ q, 0 < q → q < its'.length → par q = c → ¬ lt (gI keys) (gN its' q) (gN its' f)) := HF.out.2.end (by have := HF.out.1.len; omega)
                by_cases hfc : f = c
                · subst hfc
                  have HO : Hid (OK (gI keys) its') := down_stop HD.out HE.out
                  go_wp2
                  refine bodyPost_ret (results_none rfl _ _ _) rfl ?_
                  exact ⟨rfl, SetP.mk HF.out.1 HO.out⟩
                · have hf1 : ¬ (f : Int) = (c : Int) := by omega
                  have hf2 : ((f : Int) == (c : Int)) = false := by simpa using hf1
                  have HS1 := Lib.hid (HF.out.1.swap hn hcl hfl)
                  have HN : Hid (Down (gI keys) (swapI its' c f) f) := by
                    have h1 := HF.out.2.fk
                    rcases h1 with h1 | ⟨h1, h2, h3⟩
                    · exact absurd h1 hfc
                    · exact down_step HD.out h1 HF.out.2.fl h2 h3 HE.out
                  have hcf : c < f := by
                    have h1 := HF.out.2.fk
                    rcases h1 with h1 | ⟨h1, h2, h3⟩
                    · exact absurd h1 hfc
                    · have := par_lt h1; omega
                  go_wp2_with fail
                  go_at_call 190
                  refine HS1.out.mono ?_
                  rintro e w2 ⟨rfl, h2⟩
                  have H2 := Lib.hid h2
                  clear h2 HS1
                  go_wp2_with fail
                  go_roundg (L - f)
                  case measure => omega
                  case rel => exact ⟨f, _, _, hfl, Nat.le_refl _, rfl, ⟨_, rfl⟩, ⟨_, rfl⟩, H2.out, HN.out⟩
            · have hk3' : ¬ (k : Int) ≤ 2 * (c : Int) + 2 := by omega
              have hk4 : decide ((k : Int) ≤ 2 * (c : Int) + 2) = false := decide_eq_false hk3'
              clear hlen
              have HE : Hid (∀ q, 0 < q → q < its'.length → par q = c → ¬ lt (gI keys) (gN its' q) (gN its' f)) := HF.out.2.end (by have := HF.out.1.len; omega)
              by_cases hfc : f = c
              · subst hfc
                have HO : Hid (OK (gI keys) its') := down_stop HD.out HE.out
                go_wp2
                refine bodyPost_ret (results_none rfl _ _ _) rfl ?_
                exact ⟨rfl, SetP.mk HF.out.1 HO.out⟩
              · have hf1 : ¬ (f : Int) = (c : Int) := by omega
                have hf2 : ((f : Int) == (c : Int)) = false := by simpa using hf1
                have HS1 := Lib.hid (HF.out.1.swap hn hcl hfl)
                have HN : Hid (Down (gI keys) (swapI its' c f) f) := by
                  have h1 := HF.out.2.fk
                  rcases h1 with h1 | ⟨h1, h2, h3⟩
                  · exact absurd h1 hfc
                  · exact down_step HD.out h1 HF.out.2.fl h2 h3 HE.out
                have hcf : c < f := by
                  have h1 := HF.out.2.fk
                  rcases h1 with h1 | ⟨h1, h2, h3⟩
                  · exact absurd h1 hfc
                  · have := par_lt h1; omega
                go_wp2_with fail
                go_at_call 190
                refine HS1.out.mono ?_
                rintro e w2 ⟨rfl, h2⟩
                have H2 := Lib.hid h2
                clear h2 HS1
                go_wp2_with fail
                go_roundg (L - f)
                case measure => omega
                case rel => exact ⟨f, _, _, hfl, Nat.le_refl _, rfl, ⟨_, rfl⟩, ⟨_, rfl⟩, H2.out, HN.out⟩
      · have HT := Lib.hid hlt
        rw [hlt] at HB
        clear hlt
        go_wp2_with fail
        simp only [ep]
        clear ep
        go_quiet ((go_at_call 157; exact Calls.quiet_of (HB.out _)))
        have HS1 := Lib.hid ((HR.out.1.drewN nq).swap hn hcl (show pc < L by omega))
        go_wp2_with fail
        go_at_call 190
        refine HS1.out.mono ?_
        rintro e w2 ⟨rfl, h2⟩
        have HU : Hid (St w hb I ci P K n L pl keys w2 (swapI its' c pc) (swapP pl' (swapI its' c pc) c pc) ∧ Up (gI keys) (swapI its' c pc) pc) := ⟨h2, by
          have := up_step HR.out.2 (show 0 < c by omega) (by have := HR.out.1.len; omega) (by rw [HPc.out, HX.out.1, HX.out.2]; exact ltB_true.1 HT.out)
          rwa [HPc.out] at this⟩
        clear h2 HS1 HB
        go_wp2_with fail
        go_roundg pc
        case measure => omega
        case rel => exact ⟨pc, _, _, by omega, Nat.le_refl _, rfl, ⟨_, rfl⟩, HU⟩
end Go.Proofs.Ytmbogobebllheaa
namespace Go.Proofs.Ytmbogobebllheaa
open Go.RowKit HM
set_option linter.unusedSimpArgs false
set_option linter.unusedVariables false
set_option maxHeartbeats 4000000
set_option maxRecDepth 100000

/-- which items are in the tree -/
def nn (pl : List Int) : List Bool := pl.map (fun v => decide (0 ≤ v))
theorem gB_ext {l m : List Bool} (hl : l.length = m.length) (h : ∀ p, p < l.length → gB l p = gB m p) : l = m := by
  apply List.ext_getElem? ; intro p
  by_cases hp : p < l.length
  · rw [gB_get hp, gB_get (by omega), h p hp]
  · rw [List.getElem?_eq_none (by omega), List.getElem?_eq_none (by omega)]
theorem nn_len (pl : List Int) : (nn pl).length = pl.length := by simp [nn]
theorem nn_get {pl : List Int} {x : Nat} (h : x < pl.length) : gB (nn pl) x = decide (0 ≤ gI pl x) := by
  unfold gB nn; rw [List.getElem?_map, gI_get h]; rfl
theorem nn_set {n : Nat} {p q : List Int} {b : Bool} {y : Nat} (hp : p.length = n) (hq : q.length = n) (hy : y < n) (h : ∀ x, x < n → (0 ≤ gI p x ↔ if x = y then b = true else 0 ≤ gI q x)) : nn p = (nn q).set y b :=
  gB_ext (by rw [nn_len, List.length_set, nn_len, hp, hq]) fun x hx => by
    rw [nn_len] at hx
    rw [nn_get hx, gB_set (by rw [nn_len]; omega)]
    have := h x (by omega)
    by_cases e : x = y
    · rw [if_pos e] at this ⊢; exact Bool.eq_iff_iff.2 (by simpa using this)
    · rw [if_neg e] at this ⊢; rw [nn_get (by omega)]; exact Bool.eq_iff_iff.2 (by simpa using this)

/-- a queue in memory: its box at hb, which items are in it, the keys, the blocks -/
def HeapR (w : World) (hb n : Nat) (ins : List Bool) (keys : List Int) (gs : List Nat) : Prop :=
  ∃ vi P K its pl, HS w hb vi P K n its pl keys ∧ WF n its pl ∧ OK (gI keys) its ∧ ins = nn pl ∧ gs = hb :: P :: K :: vblk vi ∧ n ≤ 65536
/-- behind a call that changes the queue -/
def Put (w : World) (hb n : Nat) (ins : List Bool) (keys : List Int) (gs : List Nat) (w' : World) : Prop :=
  ∃ gs', HeapR w' hb n ins keys gs' ∧ (∀ k ∈ gs', k ∈ gs ∨ w.heap.size ≤ k) ∧ Kp gs w w'
theorem HeapR.lt {w : World} {hb n : Nat} {ins : List Bool} {keys : List Int} {gs : List Nat} (h : HeapR w hb n ins keys gs) : ∀ g ∈ gs, g < w.heap.size := by
  obtain ⟨vi, P, K, its, pl, h1, _, _, _, rfl, _⟩ := h
  exact h1.lt
theorem HeapR.congr {w w' : World} {hb n : Nat} {ins : List Bool} {keys : List Int} {gs : List Nat} (h : HeapR w hb n ins keys gs) (hk : ∀ g ∈ gs, w'.heap[g]? = w.heap[g]?) : HeapR w' hb n ins keys gs := by
  obtain ⟨vi, P, K, its, pl, h1, h2, h3, h4, rfl, h5⟩ := h
  exact ⟨vi, P, K, its, pl, h1.congr hk, h2, h3, h4, rfl, h5⟩
theorem HeapR.below {w w' : World} {hb n : Nat} {ins : List Bool} {keys : List Int} {gs : List Nat} (h : HeapR w hb n ins keys gs) (k : Below w.heap.size w w') : HeapR w' hb n ins keys gs := h.congr fun g hg => k.block g (h.lt g hg)
theorem HeapR.kp {S : List Nat} {w w' : World} {hb n : Nat} {ins : List Bool} {keys : List Int} {gs : List Nat} (h : HeapR w hb n ins keys gs) (k : Kp S w w') (hn : ∀ g ∈ gs, g ∉ S) : HeapR w' hb n ins keys gs := h.congr fun g hg => k.block g (h.lt g hg) (hn g hg)
theorem HS.slice {w : World} {hb P K n : Nat} {vi : Value} {its : List Nat} {pl keys : List Int} (h : HS w hb vi P K n its pl keys) : ∃ ad ci, vi = .slice ad its.length ci := by
  rcases h.ri.2 with ⟨rfl, hn⟩ | ⟨g, cap, cur, rfl, _⟩
  · exact ⟨none, 0, by rw [hn]⟩
  · exact ⟨_, cap, rfl⟩
theorem info3 : (Try.prog.info? 3).map (fun i => (i.zero, i.size, i.bytes)) = some (some (.int .i64 0), 1, 8) := by kernel_rfl
theorem info_parts {t : TypeId} {z : Value} {a b : Nat} (h : (Try.prog.info? t).map (fun i => (i.zero, i.size, i.bytes)) = some (some z, a, b)) : ∃ i, Try.prog.info? t = some i ∧ i.zero = some z ∧ i.size = a ∧ i.bytes = b := by
  cases hi : Try.prog.info? t with
  | none => rw [hi] at h; cases h
  | some i => rw [hi] at h; simp at h; exact ⟨i, rfl, h.1, h.2.1, h.2.2⟩
theorem one_int (x : Int) : ∀ u ∈ [Value.int .i64 x], u.oneCell' = true := by intro u hu; simp at hu; subst hu; rfl
theorem cell_one_new (w : World) (x : Value) (t : TypeId) {b : Nat} (hb : b = w.heap.size) : ∀ j u, [x][j]? = some u → (w.alloc (.cells #[x] t)).cell? ((⟨b, 0, none⟩ : Addr).add j) = some u := by
  subst hb
  intro j u hj
  match j, hj with
  | 0, hj => simp at hj; subst hj; simp [Addr.add]
  | (j + 1), hj => simp at hj

/-- put where the item is in the tree -/
theorem put_old (w : World) (hb P K n : Nat) (vi : Value) (its : List Nat) (pl keys : List Int) (k : Nat → Int) (h : HS w hb vi P K n its pl keys) (hw : WF n its pl) (ho : OK k its) (hn : n ≤ 65536) (x : Nat) (hx : x < n) (hk : ∀ y, y ≠ x → gI keys y = k y) (hin : 0 ≤ gI pl x) :
    Calls Try.prog 156 #[.pointer (some ⟨hb, 0, none⟩), .int .i64 (x : Int), .func (.func 157) #[.pointer (some ⟨hb, 0, none⟩)] #[]] w fun e w' => e = .returned (.tuple #[]) ∧ Put w hb n ((nn pl).set x true) keys (hb :: P :: K :: vblk vi) w' := by
  obtain ⟨p, hp, ep, eg⟩ := hw.lt_len hx hin
  obtain ⟨I, ci, rfl, hci, _⟩ := h.form (by omega)
  have HH : Hid (Calls Try.prog 177 #[.pointer (some ⟨hb, 0, none⟩), .int .i64 (x : Int)] w fun e w' => e = .returned (.bool true) ∧ w = w') := by
    have := has_in w hb _ P K n its pl keys h x hx
    rwa [decide_eq_true hin] at this
  have f1 := h.f1
  have cp := h.cp hx
  rw [ep] at cp
  have HS1 := Lib.hid (settle_any w hb I ci P K n its.length its pl keys ⟨rfl, h, hw, fun _ _ => Iff.rfl, Kp.refl _ _⟩ hn p hp (up_set hw ho hp (by rw [eg]; exact hk)))
  have hle := hw.le
  have x0 : (0 : Int) ≤ (x : Int) := by omega
  have x1 : (x : Int) < (n : Int) := by omega
  have E : Hid (pl.length = n ∧ 0 ≤ gI pl x) := ⟨hw.len, hin⟩
  clear h hw ho hk hin eg ep
  go_enter Try.func156, Try.ntmps156
  go_wp2_with fail
  go_at_call 177
  refine HH.out.mono ?_
  rintro e w1 ⟨rfl, rfl⟩
  go_wp2_with fail
  go_at_call 178
  refine HS1.out.mono ?_
  rintro e w2 ⟨rfl, h2⟩
  have H2 := Lib.hid h2
  clear h2 HS1
  go_wp2
  go_end0
  obtain ⟨its', pl', h1, h2⟩ := H2.out
  have hl := E.out.1
  have hi := E.out.2
  refine ⟨rfl, _, ⟨_, P, K, its', pl', h1.len ▸ h1.hs, h1.wf, h2, ?_, rfl, hn⟩, fun k hk => .inl hk, h1.kp.mono (by intro g hg; simp [vblk, Value.ownBlock] at hg ⊢; rcases hg with rfl | rfl <;> simp)⟩
  refine (nn_set h1.wf.len hl hx (fun y hy => ?_)).symm
  rw [h1.nn y hy]
  by_cases e : y = x
  · subst e; simp [hi]
  · simp [e]
/-- behind an append to the items -/
theorem HS.appended {w w1 : World} {hb P K n L ci g cap x : Nat} {ad : Option Addr} {its : List Nat} {pl keys : List Int} (h : HS w hb (.slice ad L ci) P K n its pl keys) (hL : its.length = L) {o : Obj}
    (hown : w1.ownsRow 0 3 1 (.slice (some ⟨g, 0, none⟩) (L + 1) cap) (L + 1) (nats its ++ [.int .i64 (x : Int)])) (hgrow : (w.alloc o).grownBy w1 (Value.slice ad L ci).ownBlock) (hat : (Value.slice ad L ci).ownBlock = some g ∨ g = w.heap.size + 1) :
    HS (w1.setCell ⟨hb, 0, none⟩ (.slice (some ⟨g, 0, none⟩) (L + 1) cap)) hb (.slice (some ⟨g, 0, none⟩) (L + 1) cap) P K n (its ++ [x]) pl keys ∧ w1.cell? ⟨hb, 0, none⟩ = some (.slice ad L ci) ∧ w1.frozen? ⟨hb, 0, none⟩ = false ∧
      w1.cell? ⟨hb, 1, none⟩ = some (.slice (some ⟨P, 0, none⟩) n n) ∧ (∀ y, y < n → w1.cell? ⟨P, y, none⟩ = some (.int .i64 (gI pl y))) := by
  have hlt := h.lt
  have bk : ∀ k, k < w.heap.size → (Value.slice ad L ci).ownBlock ≠ some k → w1.heap[k]? = w.heap[k]? := fun k hk hn => (hgrow.block k (by simp; omega) (fun e => hn e.symm)).trans (Below.heap_alloc _ _ _ hk)
  have b1 := bk hb (hlt hb (by simp)) h.ib
  have b2 := bk P (hlt P (by simp)) h.ip
  have b3 := bk K (hlt K (by simp)) h.ik
  have g1 : g ≠ hb := by
    rintro rfl
    rcases hat with h1 | h1
    · exact h.ib h1
    · have := hlt g (by simp); omega
  have g2 : g ≠ P := by
    rintro rfl
    rcases hat with h1 | h1
    · exact h.ip h1
    · have := hlt g (by simp); omega
  have g3 : g ≠ K := by
    rintro rfl
    rcases hat with h1 | h1
    · exact h.ik h1
    · have := hlt g (by simp); omega
  have hr : w1.ownsRow 0 3 1 (.slice (some ⟨g, 0, none⟩) (L + 1) cap) (its ++ [x]).length (nats (its ++ [x])) := by
    have e : (its ++ [x]).length = L + 1 := by simp [hL]
    rw [e]; simpa [nats] using hown
  have B : w1.heap[hb]? = some (.cells #[.slice ad L ci, .slice (some ⟨P, 0, none⟩) n n, .slice (some ⟨K, 0, none⟩) n n] 174 (0, 0)) := b1.trans h.box
  have RP := row_congr (w' := w1) h.rp (fun g hg => by simp [Value.ownBlock] at hg; subst hg; exact b2)
  have RK := row_congr (w' := w1) h.rk (fun g hg => by simp [Value.ownBlock] at hg; subst hg; exact b3)
  refine ⟨⟨heap_set_eq B, row_congr hr (fun g' hg => heap_set_ne (by simp [Value.ownBlock] at hg; subst hg; exact g1)), row_congr RP (fun g hg => heap_set_ne (by simp [Value.ownBlock] at hg; subst hg; exact fun e => h.bp e.symm)),
    row_congr RK (fun g hg => heap_set_ne (by simp [Value.ownBlock] at hg; subst hg; exact fun e => h.bk e.symm)), by simp [Value.ownBlock]; exact g1, by simp [Value.ownBlock]; exact g2, by simp [Value.ownBlock]; exact g3, h.bp, h.bk, h.pk⟩, cell_of B rfl, free_of B 0, cell_of B rfl, fun y hy => ?_⟩
  rw [RP.cellAt y (by omega)]; exact ints_get (gI_get (by rw [h.lenp]; exact hy))
/-- put where it is not -/
theorem put_new (w : World) (hb P K n : Nat) (vi : Value) (its : List Nat) (pl keys : List Int) (k : Nat → Int) (h : HS w hb vi P K n its pl keys) (hw : WF n its pl) (ho : OK k its) (hn : n ≤ 65536) (x : Nat) (hx : x < n) (hk : ∀ y, y ≠ x → gI keys y = k y) (hin : ¬ 0 ≤ gI pl x) :
    Calls Try.prog 156 #[.pointer (some ⟨hb, 0, none⟩), .int .i64 (x : Int), .func (.func 157) #[.pointer (some ⟨hb, 0, none⟩)] #[]] w fun e w' => e = .returned (.tuple #[]) ∧ Put w hb n ((nn pl).set x true) keys (hb :: P :: K :: vblk vi) w' := by
  have hm1 : gI pl x = -1 := by
    rcases hw.off x hx with e | ⟨p, _, e, _⟩
    · exact e
    · omega
  obtain ⟨ad, ci, rfl⟩ := h.slice
  have HH : Hid (Calls Try.prog 177 #[.pointer (some ⟨hb, 0, none⟩), .int .i64 (x : Int)] w fun e w' => e = .returned (.bool false) ∧ w = w') := by
    have := has_in w hb _ P K n its pl keys h x hx
    rwa [decide_eq_false hin] at this
  have hle := hw.le
  obtain ⟨hw2, hn2⟩ := hw.app hx hm1
  have hu := up_app hw ho hx hm1 hk
  obtain ⟨L, hL⟩ : ∃ L, its.length = L := ⟨_, rfl⟩
  have g1 := h.setP x (its.length : Int)
  have f0 := h.f0
  have f1 := h.f1
  have cp := h.cp hx
  have zp := h.fp x
  have x0 : (0 : Int) ≤ (x : Int) := by omega
  have x1 : (x : Int) < (n : Int) := by omega
  have K1 : Hid (Kp (hb :: P :: K :: vblk (.slice ad its.length ci)) w (w.setCell ⟨P, x, none⟩ (.int .i64 (its.length : Int)))) := (Kp.refl _ w).setCell (.inl (by simp))
  have hlt := h.lt
  have E : Hid (pl.length = n ∧ gI pl x = -1 ∧ its.length = L ∧ WF n (its ++ [x]) (pl.set x (its.length : Int)) ∧ (∀ y, y < n → (0 ≤ gI (pl.set x (its.length : Int)) y ↔ (y = x ∨ 0 ≤ gI pl y))) ∧ Up (gI keys) (its ++ [x]) its.length ∧ (∀ g ∈ hb :: P :: K :: vblk (.slice ad its.length ci), g < w.heap.size)) := ⟨hw.len, hm1, hL, hw2, hn2, hu, hlt⟩
  rw [hL] at g1 f0 hle K1
  have hbl : hb < w.heap.size := hlt hb (by simp)
  have G1 := Lib.hid g1
  clear h hw ho hk hin hm1 hw2 hn2 hu hlt g1 hL
  generalize gI pl x = px at cp
  obtain ⟨i0, hi, hz0, hz1, hz2⟩ := info_parts info3
  go_enter Try.func156, Try.ntmps156
  go_wp2_with fail
  go_at_call 177
  refine HH.out.mono ?_
  rintro e w1 ⟨rfl, rfl⟩
  go_wp2_with fail
  go_region
  have g1 := G1.out.drew
  have K2 : Hid (Kp (hb :: P :: K :: vblk (.slice ad L ci)) w (w.setCell ⟨P, x, none⟩ (.int .i64 (L : Int))).drew) := K1.out.drew
  clear G1 K1 HH f0 f1 cp zp
  have hsz : w.heap.size = (w.setCell ⟨P, x, none⟩ (.int .i64 (L : Int))).drew.heap.size := by simp
  generalize (w.setCell ⟨P, x, none⟩ (.int .i64 (L : Int))).drew = wq at *
  have f0 := g1.f0
  have zb := g1.fb 0
  have ROW := Lib.hid g1.ri
  have G1 := Lib.hid g1
  have SZ := Lib.hid hsz
  clear g1 hsz
  go_wp2_with (at_builtin; go_loud (refine wpList_append_lies _ rfl (.tmp 25) (.tmp 27) 35 rfl 0 3 i0 (.int .i64 0) 1 8 Try.underlying35 hi hz0 hz1 hz2 rfl (by decide) (.slice ad L ci) L (nats its) rfl (by have := ROW.out; rw [E.out.2.2.1] at this; exact this.alloc _) ⟨wq.heap.size, 0, none⟩ 1 1 [.int .i64 (x : Int)] rfl rfl (cell_one_new _ _ _ rfl) (one_int _) (by decide) (by unfold maxLen; omega) (by omega) (by omega) (wq.heap.size + 1) (by simp) ?_; intro g cap w1 hown hgrow hat hlt
                                    obtain ⟨q1, q2, q3, q4, q5⟩ := G1.out.appended E.out.2.2.1 hown hgrow hat
                                    have q6 : w1.cell? ⟨P, x, none⟩ = some (.int .i64 (L : Int)) := by
                                      rw [q5 x hx, gI_set (by have := E.out.1; omega), if_pos rfl]
                                    have hbp := G1.out.bp
                                    have hpb := Ne.symm hbp
                                    have Q := Lib.hid q1
                                    have KG := Lib.hid ((K2.out.alloc (.cells #[Value.int .i64 (x : Int)] 3)).grown hgrow (fun k hk => .inl (by simp [mem_vblk, hk])))
                                    have HA := Lib.hid (And.intro hat hlt)
                                    clear q1 q5 hown hgrow hat hlt))
  have h0 := E.out
  obtain ⟨e1, e2, e3, e4, e5, e6, e7⟩ := h0
  rw [e3] at e4 e5 e6
  have eL : (its ++ [x]).length = L + 1 := by simp [e3]
  have KS : Kp (hb :: P :: K :: vblk (.slice ad L ci)) w (w1.setCell ⟨hb, 0, none⟩ (.slice (some ⟨g, 0, none⟩) (L + 1) cap)) := KG.out.setCell (.inl (by simp))
  have HS1 := Lib.hid (settle_any (w1.setCell ⟨hb, 0, none⟩ (.slice (some ⟨g, 0, none⟩) (L + 1) cap)) hb g cap P K n (L + 1) (its ++ [x]) (pl.set x (L : Int)) keys ⟨eL, Q.out, e4, fun _ _ => Iff.rfl, Kp.refl _ _⟩ hn L (by omega) e6)
  have HK := Lib.hid (And.intro e5 KS)
  clear e1 e2 e3 e4 e5 e6 e7 eL KS
  refine HS1.out.mono ?_
  rintro e w2 ⟨rfl, h2⟩
  have H2 := Lib.hid h2
  clear h2 HS1
  go_wp2
  go_end0
  obtain ⟨its', pl', h1, h2⟩ := H2.out
  obtain ⟨e1, e2, e3, _⟩ := E.out
  obtain ⟨e5, KS⟩ := HK.out
  rw [e3]
  have hg : g ∈ hb :: P :: K :: vblk (.slice ad L ci) ∨ w.heap.size ≤ g := by
    rcases HA.out.1 with h3 | h3
    · exact .inl (by simp [mem_vblk, h3])
    · have := SZ.out; exact .inr (by omega)
  refine ⟨rfl, _, ⟨_, P, K, its', pl', h1.hs, h1.wf, h2, ?_, rfl, hn⟩, fun k hk => ?_, KS.trans h1.kp (fun k hk => ?_)⟩
  · refine (nn_set h1.wf.len e1 hx (fun y hy => ?_)).symm
    rw [h1.nn y hy, e5 y hy]
    by_cases e : y = x
    · subst e; simp
    · simp [e]
  · simp [vblk, Value.ownBlock] at hk
    rcases hk with rfl | rfl | rfl | rfl
    · exact .inl (by simp)
    · exact .inl (by simp)
    · exact .inl (by simp)
    · exact hg
  · simp at hk
    rcases hk with rfl | rfl
    · exact hg
    · exact .inl (by simp)
theorem put_any (w : World) (hb P K n : Nat) (vi : Value) (its : List Nat) (pl keys : List Int) (k : Nat → Int) (h : HS w hb vi P K n its pl keys) (hw : WF n its pl) (ho : OK k its) (hn : n ≤ 65536) (x : Nat) (hx : x < n) (hk : ∀ y, y ≠ x → gI keys y = k y) :
    Calls Try.prog 156 #[.pointer (some ⟨hb, 0, none⟩), .int .i64 (x : Int), .func (.func 157) #[.pointer (some ⟨hb, 0, none⟩)] #[]] w fun e w' => e = .returned (.tuple #[]) ∧ Put w hb n ((nn pl).set x true) keys (hb :: P :: K :: vblk vi) w' := by
  by_cases e : 0 ≤ gI pl x
  · exact put_old w hb P K n vi its pl keys k h hw ho hn x hx hk e
  · exact put_new w hb P K n vi its pl keys k h hw ho hn x hx hk e

/-- drop where the item is in the tree -/
theorem drop_any (w : World) (hb P K n : Nat) (vi : Value) (its : List Nat) (pl keys : List Int) (h : HS w hb vi P K n its pl keys) (hw : WF n its pl) (ho : OK (gI keys) its) (hn : n ≤ 65536) (x : Nat) (hx : x < n) (hin : 0 ≤ gI pl x) :
    Calls Try.prog 180 #[.pointer (some ⟨hb, 0, none⟩), .int .i64 (x : Int), .func (.func 157) #[.pointer (some ⟨hb, 0, none⟩)] #[]] w fun e w' => e = .returned (.tuple #[]) ∧ Put w hb n ((nn pl).set x false) keys (hb :: P :: K :: vblk vi) w' := by
  obtain ⟨p, hp, ep, eg⟩ := hw.lt_len hx hin
  obtain ⟨m, hm⟩ : ∃ m, its.length = m + 1 := ⟨its.length - 1, by omega⟩
  obtain ⟨I, ci, rfl, hci, _⟩ := h.form (by omega)
  have f0 := h.f0
  have f1 := h.f1
  have cp := h.cp hx
  rw [ep] at cp
  have hle := hw.le
  have x0 : (0 : Int) ≤ (x : Int) := by omega
  have x1 : (x : Int) < (n : Int) := by omega
  have HW : Hid (∀ q, Calls Try.prog 190 #[.pointer (some ⟨hb, 0, none⟩), .int .i64 (p : Int), .int .i64 (m : Int)] (w.drewN q) fun e w' => e = .returned (.tuple #[]) ∧
      HS w' hb (.slice (some ⟨I, 0, none⟩) its.length ci) P K n (swapI its p m) (swapP pl (swapI its p m) p m) keys ∧ Kp [I, P] (w.drewN q) w') := fun q => swap_any _ hb I ci P K n its pl keys (h.drewN q) hw hn p m hp (by omega)
  obtain ⟨w1f, w1m⟩ := hw.drop hm hp
  rw [eg] at w1f w1m
  rw [hm] at f0 HW
  have E : Hid (pl.length = n ∧ WF n ((swapI its p m).take m) ((swapP pl (swapI its p m) p m).set x (-1)) ∧ (∀ y, y < n → (0 ≤ gI ((swapP pl (swapI its p m) p m).set x (-1)) y ↔ (y ≠ x ∧ 0 ≤ gI pl y))) ∧ (p < m → Up (gI keys) ((swapI its p m).take m) p) ∧ (p = m → OK (gI keys) ((swapI its p m).take m)) ∧ (swapI its p m).length = m + 1) :=
    ⟨hw.len, w1f, w1m, fun h => up_drop ho hm h, fun h => by subst h; exact ok_drop ho hm, by rw [swapI_len, hm]⟩
  have hpm : p ≤ m := by omega
  have hci' : (m : Int) ≤ (ci : Int) := by omega
  have hm0 : (0 : Int) ≤ (m : Int) := by omega
  have hmc : m ≤ ci := by omega
  rw [hm] at hle
  clear h hw ho hin ep eg w1f w1m hm hp hci
  generalize swapI its p m = it1 at *
  generalize swapP pl it1 p m = pl1 at *
  go_enter Try.func180, Try.ntmps180
  go_wp2_with fail
  go_quiet (fail)
  go_wp2_with fail
  go_at_call 190
  refine (HW.out nq).mono ?_
  rintro e w1 ⟨rfl, h1, k1⟩
  have b0 := h1.f0
  have bz := h1.fb 0
  have b1 := h1.f1
  have bx := h1.cp hx
  have zx := h1.fp x
  have hbp := h1.bp
  have hpb := Ne.symm hbp
  have H1 := Lib.hid h1
  have K1 : Hid (Kp [I, P] w w1) := k1.undrewN
  clear h1 k1 HW f0 f1 cp
  generalize gI pl1 x = px at bx
  have G : Hid (HS ((w1.setCell ⟨hb, 0, none⟩ (.slice (some ⟨I, 0, none⟩) m ci)).setCell ⟨P, x, none⟩ (.int .i64 (-1))) hb (.slice (some ⟨I, 0, none⟩) m ci) P K n (it1.take m) (pl1.set x (-1)) keys) := by
    have hs := H1.out
    have hib := hs.ib; have hip := hs.ip; have hik := hs.ik
    exact (hs.setB (hs.pop E.out.2.2.2.2.2 rfl) hib hip hik).setP x (-1)
  have KK : Hid (Kp (hb :: P :: K :: vblk (.slice (some ⟨I, 0, none⟩) its.length ci)) w ((w1.setCell ⟨hb, 0, none⟩ (.slice (some ⟨I, 0, none⟩) m ci)).setCell ⟨P, x, none⟩ (.int .i64 (-1)))) :=
    ((K1.out.mono (by intro g hg; simp [vblk, Value.ownBlock] at hg ⊢; rcases hg with rfl | rfl <;> simp)).setCell (.inl (by simp))).setCell (.inl (by simp))
  by_cases hlt : p < m
  · have HS1 := Lib.hid (settle_any _ hb I ci P K n m (it1.take m) (pl1.set x (-1)) keys ⟨by have := E.out.2.2.2.2.2; simp; omega, G.out, E.out.2.1, fun _ _ => Iff.rfl, Kp.refl _ _⟩ hn p hlt (E.out.2.2.2.1 hlt))
    go_wp2_with fail
    go_at_call 178
    refine HS1.out.mono ?_
    rintro e w2 ⟨rfl, h2⟩
    have H2 := Lib.hid h2
    clear h2 HS1
    go_wp2
    go_end0
    obtain ⟨its', pl', h1, h2⟩ := H2.out
    obtain ⟨e1, e2, e3, _⟩ := E.out
    refine ⟨rfl, _, ⟨_, P, K, its', pl', h1.len ▸ h1.hs, h1.wf, h2, ?_, rfl, hn⟩, fun k hk => .inl ?_, KK.out.trans h1.kp (fun k hk => .inl ?_)⟩
    · refine (nn_set h1.wf.len e1 hx (fun y hy => ?_)).symm
      rw [h1.nn y hy, e3 y hy]
      by_cases e : y = x
      · subst e; simp
      · simp [e]
    · simp [vblk, Value.ownBlock] at hk ⊢; exact hk
    · simp [vblk, Value.ownBlock] at hk ⊢; rcases hk with rfl | rfl <;> simp
  · have hpe : Hid (p = m) := by show p = m; omega
    go_wp2
    go_end0
    obtain ⟨e1, e2, e3, _, e5, e6⟩ := E.out
    have hl : (it1.take m).length = m := by simp; omega
    refine ⟨rfl, _, ⟨_, P, K, it1.take m, pl1.set x (-1), G.out, e2, e5 hpe.out, ?_, rfl, hn⟩, fun k hk => .inl ?_, KK.out⟩
    · refine (nn_set e2.len e1 hx (fun y hy => ?_)).symm
      rw [e3 y hy]
      by_cases e : y = x
      · subst e; simp
      · simp [e]
    · simp [vblk, Value.ownBlock] at hk ⊢; exact hk
end Go.Proofs.Ytmbogobebllheaa
namespace Go.Proofs.Ytmbogobebllheaa
open Go.RowKit HM
set_option linter.unusedSimpArgs false
set_option linter.unusedVariables false
set_option maxHeartbeats 4000000
set_option maxRecDepth 100000

theorem make_ints (n : Nat) (hn : n ≤ 65536) (w : World) : (Instr.makeSlice 35 (.int .i64 (n : Int)) (.int .i64 (n : Int))).run Try.prog w = .ok (.slice (some ⟨w.heap.size, 0, none⟩) n n) (w.alloc (.cells (madeCells #[.int .i64 0] n) 3)) :=
  run_make_row' 35 3 (.int .i64 0) 8 Try.underlying35 info3 rfl .i64 .i64 n (by omega) (by omega) w
theorem made_row (w : World) (n : Nat) (hn : n ≤ 65536) {b : Nat} (hb : b = w.heap.size) : (w.alloc (.cells (madeCells #[.int .i64 0] n) 3)).ownsRow 0 3 1 (.slice (some ⟨b, 0, none⟩) n n) n (ints (List.replicate n 0)) := by
  subst hb
  have := World.ownsRow_lit (base := 0) (e := 3) (size := 1) w (madeCells #[.int .i64 0] n) n (Nat.zero_le _) (by unfold maxLen; omega) (by rw [size_madeCells]; omega)
  rw [toList_madeCells_one] at this
  simpa [ints] using this
/-- k cells are filled -/
def fill (n k : Nat) : List Int := List.replicate k (-1) ++ List.replicate (n - k) 0
theorem fill_set {n k : Nat} (h : k < n) : (fill n k).set k (-1) = fill n (k + 1) := by
  unfold fill
  rw [List.set_append_right _ _ (by simp)]
  obtain ⟨m, rfl⟩ : ∃ m, n = k + 1 + m := ⟨n - (k + 1), by omega⟩
  rw [show k + 1 + m - k = m + 1 by omega, show k + 1 + m - (k + 1) = m by omega, List.replicate_succ, List.replicate_succ']
  simp
theorem fill_len {n k : Nat} (h : k ≤ n) : (fill n k).length = n := by unfold fill; simp; omega
theorem newTree_any (n : Nat) (hn : n ≤ 65536) (w : World) :
    Calls Try.prog 155 #[.int .i64 (n : Int)] w fun e w' => ∃ P, e = .returned (.agg #[.slice none 0 0, .slice (some ⟨P, 0, none⟩) n n]) ∧ w.heap.size ≤ P ∧ w'.ownsRow 0 3 1 (.slice (some ⟨P, 0, none⟩) n n) n (ints (List.replicate n (-1))) ∧ Below w.heap.size w w' := by
  have n0 : (0 : Int) ≤ (n : Int) := by omega
  have hmk := make_ints n hn
  go_enter Try.func155, Try.ntmps155
  go_wp2_with fail
  have HS : Hid (((w.alloc (.cells #[.slice none 0 0, .slice none 0 0] 171)).alloc (.cells (madeCells #[.int .i64 0] n) 3)).ownsRow 0 3 1 (.slice (some ⟨w.heap.size + 1, 0, none⟩) n n) n (ints (fill n 0)) ∧
      Below w.heap.size w ((w.alloc (.cells #[.slice none 0 0, .slice none 0 0] 171)).alloc (.cells (madeCells #[.int .i64 0] n) 3)) ∧ ((w.alloc (.cells #[.slice none 0 0, .slice none 0 0] 171)).alloc (.cells (madeCells #[.int .i64 0] n) 3)).heap[w.heap.size]? = some (.cells #[.slice none 0 0, .slice none 0 0] 171 (0, 0))) :=
    ⟨by have := made_row (w.alloc (.cells #[.slice none 0 0, .slice none 0 0] 171)) n hn (b := w.heap.size + 1) (by simp); simpa [fill] using this, (below_then (below_alloc _ _) (below_alloc _ _)), (Below.heap_alloc _ _ _ (by simp)).trans (heap_alloc_new _ _)⟩
  clear hmk
  generalize ((w.alloc (.cells #[.slice none 0 0, .slice none 0 0] 171)).alloc (.cells (madeCells #[.int .i64 0] n) 3)) = W at *
  go_loopg [9, 4] n (fun g s9 s4 wr => ∃ k : Nat, k ≤ n ∧ n - k ≤ g ∧ s9 = .int .i64 (k : Int) ∧ (∃ v, v = s4) ∧ Hid (wr.ownsRow 0 3 1 (.slice (some ⟨w.heap.size + 1, 0, none⟩) n n) n (ints (fill n k)) ∧ Below w.heap.size w wr ∧ wr.heap[w.heap.size]? = some (.cells #[.slice none 0 0, .slice none 0 0] 171 (0, 0))))
  case atStart => exact ⟨0, by omega, by omega, rfl, ⟨_, rfl⟩, HS⟩
  case round =>
    clear HS
    obtain ⟨k, hk, hkg, rfl, ⟨v4, rfl⟩, HR⟩ := hrel
    by_cases hlt : k < n
    · have c := HR.out.1.cellAt k (by omega)
      rw [ints_get (gI_get (by rw [fill_len hk]; exact hlt))] at c
      have z := HR.out.1.frozenAt k
      generalize gI (fill n k) k = x at c
      have k0 : (0 : Int) ≤ (k : Int) := by omega
      have k1 : (k : Int) < (n : Int) := by omega
      go_wp2_with fail
      go_roundg (n - (k + 1))
      case measure => omega
      case rel =>
        refine ⟨k + 1, by omega, Nat.le_refl _, by go_num, ⟨_, rfl⟩, ?_⟩
        have h1 := (HR.out.1.stored k (.int .i64 (-1))).1
        rw [ints_set, fill_set hlt] at h1
        exact ⟨h1, HR.out.2.1.setCell (by simp) _, (heap_set_ne (by omega)).trans HR.out.2.2⟩
    · have hkn : k = n := by omega
      have r0 : wr.cell? ⟨w.heap.size, 0, none⟩ = some (.slice none 0 0) := cell_of HR.out.2.2 rfl
      have r1 : wr.cell? ⟨w.heap.size, 1, none⟩ = some (.slice none 0 0) := cell_of HR.out.2.2 rfl
      have z := free_of HR.out.2.2
      have HK := Lib.hid hkn
      clear hkn
      go_wp2_with fail
      refine bodyPost_ret (v := .agg #[.slice none 0 0, .slice (some ⟨w.heap.size + 1, 0, none⟩) n n]) (by simp [results, Try.results155, go_sem, r0, r1]) rfl ⟨w.heap.size + 1, rfl, by omega, ?_, (HR.out.2.1.setCell (by simp) _).setCell (by simp) _⟩
      have h1 := HR.out.1
      rw [HK.out] at h1
      have e : fill n n = List.replicate n (-1) := by unfold fill; simp
      rw [e] at h1
      exact row_congr h1 (fun g hg => by simp [Value.ownBlock] at hg; subst hg; exact (heap_set_ne (by omega)).trans (heap_set_ne (by omega)))
theorem heapR_new {W : World} {P K n : Nat} (hn : n ≤ 65536) (hp : W.ownsRow 0 3 1 (.slice (some ⟨P, 0, none⟩) n n) n (ints (List.replicate n (-1)))) (hk : W.ownsRow 0 3 1 (.slice (some ⟨K, 0, none⟩) n n) n (ints (List.replicate n 0))) (hne : P ≠ K) {b : Nat} (hb : b = W.heap.size) :
    HeapR (W.alloc (.cells #[.slice none 0 0, .slice (some ⟨P, 0, none⟩) n n, .slice (some ⟨K, 0, none⟩) n n] 174)) b n (List.replicate n false) (List.replicate n 0) [b, P, K] := by
  subst hb
  have lp := (row_lt hp rfl).2
  have lk := (row_lt hk rfl).2
  dsimp only at lp lk
  have gp : ∀ x, x < n → gI (List.replicate n (-1)) x = -1 := fun x hx => by unfold gI; simp [hx]
  refine ⟨.slice none 0 0, P, K, [], List.replicate n (-1), ⟨heap_alloc_new _ _, World.ownsRow_nil _ _ _ _, hp.alloc _, hk.alloc _, by simp [Value.ownBlock], by simp [Value.ownBlock], by simp [Value.ownBlock], by omega, by omega, hne⟩, ⟨by simp, fun p hp => by simp at hp, fun x hx => .inl (gp x hx), ?_⟩, fun p _ hp => by simp at hp, by simp [nn], by simp [vblk, Value.ownBlock], hn⟩
  unfold HM.cnt; rw [List.countP_replicate]; simp
theorem new_core (n : Nat) (hn6 : n ≤ 65536) : ∀ W, Calls Try.prog 155 #[.int .i64 (n : Int)] W fun e w' => ∃ P, e = .returned (.agg #[.slice none 0 0, .slice (some ⟨P, 0, none⟩) n n]) ∧ W.heap.size ≤ P ∧ w'.ownsRow 0 3 1 (.slice (some ⟨P, 0, none⟩) n n) n (ints (List.replicate n (-1))) ∧ Below W.heap.size W w' := fun W => newTree_any n hn6 W
def NewP (m : Int) (w : World) (e : Ending) (w' : World) : Prop := ∃ (hb n : Nat) (gs : List Nat), e = .returned (.pointer (some ⟨hb, 0, none⟩)) ∧ (n : Int) = min (max m 0) 65536 ∧ HeapR w' hb n (List.replicate n false) (List.replicate n 0) gs ∧ (∀ g ∈ gs, w.heap.size ≤ g) ∧ Below w.heap.size w w'
theorem B1 {a b : World} (h : Below a.drew.heap.size a.drew b) : Below a.heap.size a b := ⟨h.os, h.tape, h.output, h.size, h.block⟩
theorem new_any (m : Int) (w : World) : Calls Try.prog 143 #[.int .i64 m] w (NewP m w) := by
  obtain ⟨n, hn⟩ : ∃ n : Nat, (n : Int) = min (max m 0) 65536 := ⟨(min (max m 0) 65536).toNat, by omega⟩
  have hn6 : n ≤ 65536 := by omega
  have HT := Lib.hid (new_core n hn6)
  have HMK := Lib.hid (make_ints n hn6)
  have HN := Lib.hid hn
  have hw0 : w.heap.size = w.heap.size := rfl
  rcases (by omega : m < 0 ∨ (0 ≤ m ∧ m ≤ 65536) ∨ 65536 < m) with h | h | h
  · have e0 : Hid ((Value.int .i64 0) = .int .i64 (n : Int)) := by show _ = _; rw [show (n : Int) = 0 by omega]
    have h' : ¬ 0 ≤ m := by omega
    clear hn
    go_enter Try.func143, Try.ntmps143
    go_wp2_with fail
    rw [e0.out]
    have hmk := HMK.out
    go_region_with ((go_at_call 155; refine (HT.out _).mono ?_; rintro e w1 ⟨P, rfl, hP, hr, hb⟩; have R := Lib.hid (And.intro hP (And.intro hr hb)); clear hP hr hb))
    · go_wp2
      go_ret
      obtain ⟨r1, r2, r3⟩ := R.out
      have hPl := (row_lt r2 rfl).2
      dsimp only at hPl
      have hs := r3.size
      simp at r1 hs
      refine ⟨w1.heap.size + 1, n, _, rfl, HN.out, heapR_new hn6 (r2.alloc _) (made_row w1 n hn6 rfl) (by omega) (by simp), fun g hg => ?_, below_then (below_then (B1 r3) (below_alloc _ _)) (below_alloc _ _)⟩
      simp at hg
      rcases hg with rfl | rfl | rfl <;> omega
    · go_wp2
      go_ret
      obtain ⟨r1, r2, r3⟩ := R.out
      have hPl := (row_lt r2 rfl).2
      dsimp only at hPl
      have hs := r3.size
      simp at r1 hs
      refine ⟨w1.heap.size, n, _, rfl, HN.out, heapR_new hn6 r2 (row_below (made_row w n hn6 rfl) (B1 r3)) (by omega) rfl, fun g hg => ?_, below_then (below_then (below_alloc _ _) (B1 r3)) (below_alloc _ _)⟩
      simp at hg
      rcases hg with rfl | rfl | rfl <;> omega
  · have h1 : ¬ m < 0 := by omega
    have h2 := h.2
    have e0 : Hid (m = (n : Int)) := by show _ = _; omega
    clear hn
    obtain rfl : m = (n : Int) := e0.out
    go_enter Try.func143, Try.ntmps143
    go_wp2_with fail
    have hmk := HMK.out
    go_region_with ((go_at_call 155; refine (HT.out _).mono ?_; rintro e w1 ⟨P, rfl, hP, hr, hb⟩; have R := Lib.hid (And.intro hP (And.intro hr hb)); clear hP hr hb))
    · go_wp2
      go_ret
      obtain ⟨r1, r2, r3⟩ := R.out
      have hPl := (row_lt r2 rfl).2
      dsimp only at hPl
      have hs := r3.size
      simp at r1 hs
      refine ⟨w1.heap.size + 1, n, _, rfl, HN.out, heapR_new hn6 (r2.alloc _) (made_row w1 n hn6 rfl) (by omega) (by simp), fun g hg => ?_, below_then (below_then (B1 r3) (below_alloc _ _)) (below_alloc _ _)⟩
      simp at hg
      rcases hg with rfl | rfl | rfl <;> omega
    · go_wp2
      go_ret
      obtain ⟨r1, r2, r3⟩ := R.out
      have hPl := (row_lt r2 rfl).2
      dsimp only at hPl
      have hs := r3.size
      simp at r1 hs
      refine ⟨w1.heap.size, n, _, rfl, HN.out, heapR_new hn6 r2 (row_below (made_row w n hn6 rfl) (B1 r3)) (by omega) rfl, fun g hg => ?_, below_then (below_then (below_alloc _ _) (B1 r3)) (below_alloc _ _)⟩
      simp at hg
      rcases hg with rfl | rfl | rfl <;> omega
  · have e0 : Hid ((Value.int .i64 65536) = .int .i64 (n : Int)) := by show _ = _; rw [show (n : Int) = 65536 by omega]
    have h' : ¬ m < 0 := by omega
    have h'' : ¬ m ≤ 65536 := by omega
    clear hn
    go_enter Try.func143, Try.ntmps143
    go_wp2_with fail
    rw [e0.out]
    have hmk := HMK.out
    go_region_with ((go_at_call 155; refine (HT.out _).mono ?_; rintro e w1 ⟨P, rfl, hP, hr, hb⟩; have R := Lib.hid (And.intro hP (And.intro hr hb)); clear hP hr hb))
    · go_wp2
      go_ret
      obtain ⟨r1, r2, r3⟩ := R.out
      have hPl := (row_lt r2 rfl).2
      dsimp only at hPl
      have hs := r3.size
      simp at r1 hs
      refine ⟨w1.heap.size + 1, n, _, rfl, HN.out, heapR_new hn6 (r2.alloc _) (made_row w1 n hn6 rfl) (by omega) (by simp), fun g hg => ?_, below_then (below_then (B1 r3) (below_alloc _ _)) (below_alloc _ _)⟩
      simp at hg
      rcases hg with rfl | rfl | rfl <;> omega
    · go_wp2
      go_ret
      obtain ⟨r1, r2, r3⟩ := R.out
      have hPl := (row_lt r2 rfl).2
      dsimp only at hPl
      have hs := r3.size
      simp at r1 hs
      refine ⟨w1.heap.size, n, _, rfl, HN.out, heapR_new hn6 r2 (row_below (made_row w n hn6 rfl) (B1 r3)) (by omega) rfl, fun g hg => ?_, below_then (below_then (below_alloc _ _) (B1 r3)) (below_alloc _ _)⟩
      simp at hg
      rcases hg with rfl | rfl | rfl <;> omega
end Go.Proofs.Ytmbogobebllheaa
namespace Go.Proofs.Ytmbogobebllheaa
open Go.RowKit HM
set_option linter.unusedSimpArgs false
set_option linter.unusedVariables false
set_option maxHeartbeats 4000000
set_option maxRecDepth 100000

def cntB (ins : List Bool) : Nat := ins.countP (fun b => b)
theorem cnt_nn (pl : List Int) : HM.cnt pl = cntB (nn pl) := by unfold HM.cnt cntB nn; rw [List.countP_map]; rfl
def IsMin (n : Nat) (ins : List Bool) (keys : List Int) (x : Nat) : Prop := x < n ∧ gB ins x = true ∧ ∀ y, y < n → gB ins y = true → ¬ lt (gI keys) y x
theorem HeapR.len {w : World} {hb n : Nat} {ins : List Bool} {keys : List Int} {gs : List Nat} (h : HeapR w hb n ins keys gs) : ins.length = n ∧ keys.length = n ∧ n ≤ 65536 := by
  obtain ⟨vi, P, K, its, pl, h1, h2, _, rfl, _, h5⟩ := h
  exact ⟨by rw [nn_len]; exact h2.len, h1.lenk, h5⟩
theorem cntB_zero {ins : List Bool} (h : cntB ins = 0) (x : Nat) : gB ins x = false := by
  unfold cntB at h
  rw [List.countP_eq_zero] at h
  unfold gB
  cases e : ins[x]? with
  | none => rfl
  | some b => have := h b (List.mem_of_getElem? e); simpa using this
theorem len_any (w : World) (hb n : Nat) (ins : List Bool) (keys : List Int) (gs : List Nat) (h : HeapR w hb n ins keys gs) :
    Calls Try.prog 179 #[.pointer (some ⟨hb, 0, none⟩)] w fun e w' => e = .returned (.int .i64 (cntB ins : Int)) ∧ w = w' := by
  obtain ⟨vi, P, K, its, pl, h1, h2, h3, rfl, rfl, hn⟩ := h
  obtain ⟨ad, ci, rfl⟩ := h1.slice
  have f0 := h1.f0
  have e : its.length = cntB (nn pl) := h2.cnt.trans (cnt_nn pl)
  rw [e] at f0
  generalize cntB (nn pl) = c at *
  clear h1 h2 h3 e
  go_enter Try.func179, Try.ntmps179
  go_wp2
  go_ret
  exact ⟨rfl, rfl⟩
theorem min_none (w : World) (hb n : Nat) (ins : List Bool) (keys : List Int) (gs : List Nat) (h : HeapR w hb n ins keys gs) (h0 : cntB ins = 0) :
    Calls Try.prog 158 #[.pointer (some ⟨hb, 0, none⟩)] w fun e w' => e = .returned (.tuple #[.int .i64 0, .int .i64 0, .bool false]) ∧ w = w' := by
  have HL : Hid (Calls Try.prog 179 #[.pointer (some ⟨hb, 0, none⟩)] w fun e w' => e = .returned (.int .i64 0) ∧ w = w') := by
    have := len_any w hb n ins keys gs h
    rwa [h0] at this
  clear h h0
  go_enter Try.func158, Try.ntmps158
  go_wp2_with (go_at_call 179; refine HL.out.mono ?_; rintro e w1 ⟨rfl, rfl⟩)
  go_ret3
  exact ⟨rfl, rfl⟩
theorem min_some (w : World) (hb n : Nat) (ins : List Bool) (keys : List Int) (gs : List Nat) (h : HeapR w hb n ins keys gs) (h0 : cntB ins ≠ 0) :
    Calls Try.prog 158 #[.pointer (some ⟨hb, 0, none⟩)] w fun e w' => ∃ x : Nat, e = .returned (.tuple #[.int .i64 (x : Int), .int .i64 (gI keys x), .bool true]) ∧ IsMin n ins keys x ∧ ∃ q, w' = w.drewN q := by
  have HL := Lib.hid (len_any w hb n ins keys gs h)
  obtain ⟨vi, P, K, its, pl, h1, h2, h3, rfl, rfl, hn⟩ := h
  have e : its.length = cntB (nn pl) := h2.cnt.trans (cnt_nn pl)
  obtain ⟨I, ci, rfl, hci, _⟩ := h1.form (by omega)
  obtain ⟨L, hL⟩ : ∃ L, its.length = L + 1 := ⟨its.length - 1, by omega⟩
  rw [← e, hL] at HL
  have f0 := h1.f0
  rw [hL] at f0
  have c0 := h1.cellI rfl (x := 0) (by omega)
  have hx := (h2.at' 0 (by omega)).1
  have hy := (h2.at' 0 (by omega)).2
  have f2 := h1.f2
  have ck := h1.ck hx
  have HM : Hid (IsMin n (nn pl) keys (gN its 0)) := by
    refine ⟨hx, by rw [nn_get (by rw [h2.len]; exact hx)]; simp; omega, fun y hy hb => ?_⟩
    rw [nn_get (by rw [h2.len]; exact hy)] at hb
    obtain ⟨p, hp, _, rfl⟩ := h2.lt_len hy (by simpa using hb)
    exact ok_min h3 p hp
  have hle := h2.le
  have L0 : (0 : Int) < (L : Int) + 1 := by omega
  clear h1 h2 h3 e hy h0 hL hci
  generalize hX : gN its 0 = x at *
  clear hX
  have x0 : (0 : Int) ≤ (x : Int) := by omega
  have x1 : (x : Int) < (n : Int) := by omega
  generalize hk : gI keys x = k at *
  have HK := Lib.hid hk
  clear hk
  go_enter Try.func158, Try.ntmps158
  go_wp2_with (go_at_call 179; refine HL.out.mono ?_; rintro e w1 ⟨rfl, rfl⟩)
  go_quiet (fail)
  go_wp2
  go_ret3
  exact ⟨x, by rw [HK.out]; rfl, HM.out, ⟨_, rfl⟩⟩
theorem set_in (w : World) (hb n : Nat) (ins : List Bool) (keys : List Int) (gs : List Nat) (h : HeapR w hb n ins keys gs) (x : Nat) (k : Int) (hx : x < n) :
    Calls Try.prog 144 #[.pointer (some ⟨hb, 0, none⟩), .int .i64 (x : Int), .int .i64 k] w fun e w' => e = .returned (.bool true) ∧ Put w hb n (ins.set x true) (keys.set x k) gs w' := by
  obtain ⟨vi, P, K, its, pl, h1, h2, h3, rfl, rfl, hn⟩ := h
  have f2 := h1.f2
  have ck := h1.ck hx
  have zk := h1.fk x
  have hlk := h1.lenk
  have hs := h1.setK x k
  have HP : Hid (Calls Try.prog 156 #[.pointer (some ⟨hb, 0, none⟩), .int .i64 (x : Int), .func (.func 157) #[.pointer (some ⟨hb, 0, none⟩)] #[]] (w.setCell ⟨K, x, none⟩ (.int .i64 k)) fun e w' => e = .returned (.tuple #[]) ∧ Put (w.setCell ⟨K, x, none⟩ (.int .i64 k)) hb n ((nn pl).set x true) (keys.set x k) (hb :: P :: K :: vblk vi) w') :=
    put_any _ hb P K n vi its pl (keys.set x k) (gI keys) hs h2 h3 hn x hx (fun y hy => by rw [gI_set (by omega), if_neg hy])
  have x0 : (0 : Int) ≤ (x : Int) := by omega
  have x0' : ¬ (x : Int) < 0 := by omega
  have x1 : (x : Int) < (n : Int) := by omega
  have x1' : ¬ (n : Int) ≤ (x : Int) := by omega
  have xd : decide ((x : Int) < 0) = false := decide_eq_false x0'
  have xe : decide (n ≤ x) = false := decide_eq_false (by omega)
  clear h1 h2 h3 hs hlk
  generalize gI keys x = ko at ck
  go_enter Try.func144, Try.ntmps144
  go_wp2_with (go_at_call 156; refine HP.out.mono ?_; rintro e w1 ⟨rfl, hp⟩; have H := Lib.hid hp; clear hp)
  go_ret
  obtain ⟨gs', p1, p2, p3⟩ := H.out
  exact ⟨rfl, gs', p1, fun k hk => by simpa using p2 k hk, ((Kp.refl _ w).setCell (.inl (by simp))).trans p3 (fun g hg => .inl hg)⟩
theorem drop_in (w : World) (hb n : Nat) (ins : List Bool) (keys : List Int) (gs : List Nat) (h : HeapR w hb n ins keys gs) (x : Nat) (hx : x < n) (hi : gB ins x = true) :
    Calls Try.prog 159 #[.pointer (some ⟨hb, 0, none⟩), .int .i64 (x : Int)] w fun e w' => e = .returned (.bool true) ∧ Put w hb n (ins.set x false) keys gs w' := by
  obtain ⟨vi, P, K, its, pl, h1, h2, h3, rfl, rfl, hn⟩ := h
  have hp : 0 ≤ gI pl x := by rw [nn_get (by rw [h2.len]; exact hx)] at hi; simpa using hi
  have HH2 : Hid (Calls Try.prog 177 #[.pointer (some ⟨hb, 0, none⟩), .int .i64 (x : Int)] w fun e w' => e = .returned (.bool true) ∧ w = w') := by
    have := has_in w hb _ P K n its pl keys h1 x hx
    rwa [decide_eq_true hp] at this
  have HD := Lib.hid (drop_any w hb P K n vi its pl keys h1 h2 h3 hn x hx hp)
  clear h1 h2 h3 hi hp
  go_enter Try.func159, Try.ntmps159
  go_wp2_with (first
    | (go_at_call 177; refine HH2.out.mono ?_; rintro e w1 ⟨rfl, rfl⟩)
    | (go_at_call 180; refine HD.out.mono ?_; rintro e w1 ⟨rfl, hp⟩; have H := Lib.hid hp; clear hp))
  go_ret
  exact ⟨rfl, H.out⟩
theorem pop_none (w : World) (hb n : Nat) (ins : List Bool) (keys : List Int) (gs : List Nat) (h : HeapR w hb n ins keys gs) (h0 : cntB ins = 0) :
    Calls Try.prog 145 #[.pointer (some ⟨hb, 0, none⟩)] w fun e w' => e = .returned (.tuple #[.int .i64 0, .int .i64 0, .bool false]) ∧ w = w' := by
  have HM := Lib.hid (min_none w hb n ins keys gs h h0)
  clear h h0
  go_enter Try.func145, Try.ntmps145
  go_wp2_with (go_at_call 158; refine HM.out.mono ?_; rintro e w1 ⟨rfl, rfl⟩)
  go_ret3
  exact ⟨rfl, rfl⟩
def PopQ (w : World) (hb n : Nat) (ins : List Bool) (keys : List Int) (gs : List Nat) (e : Ending) (w' : World) : Prop := ∃ x : Nat, e = .returned (.tuple #[.int .i64 (x : Int), .int .i64 (gI keys x), .bool true]) ∧ IsMin n ins keys x ∧ Put w hb n (ins.set x false) keys gs w'
theorem Put.undrewN {w : World} {hb n : Nat} {ins : List Bool} {keys : List Int} {gs : List Nat} {w' : World} {q : Nat} (h : Put (w.drewN q) hb n ins keys gs w') : Put w hb n ins keys gs w' := by
  obtain ⟨gs', a, b, c⟩ := h
  exact ⟨gs', a, b, c.undrewN⟩
theorem pop_some (w : World) (hb n : Nat) (ins : List Bool) (keys : List Int) (gs : List Nat) (h : HeapR w hb n ins keys gs) (h0 : cntB ins ≠ 0) :
    Calls Try.prog 145 #[.pointer (some ⟨hb, 0, none⟩)] w (PopQ w hb n ins keys gs) := by
  have HM := Lib.hid (min_some w hb n ins keys gs h h0)
  have HD : Hid (∀ q x, IsMin n ins keys x → Calls Try.prog 159 #[.pointer (some ⟨hb, 0, none⟩), .int .i64 (x : Int)] (w.drewN q) fun e w' => e = .returned (.bool true) ∧ Put w hb n (ins.set x false) keys gs w') := fun q x hx =>
    (drop_in (w.drewN q) hb n ins keys gs (h.congr fun _ _ => rfl) x hx.1 hx.2.1).mono fun e w' ⟨a, b⟩ => ⟨a, b.undrewN⟩
  clear h h0
  go_enter Try.func145, Try.ntmps145
  go_wp2_with fail
  go_at_call 158
  refine HM.out.mono ?_
  rintro e w1 ⟨x, rfl, hm, q, rfl⟩
  have HX := Lib.hid hm
  have HD2 := Lib.hid (HD.out q x hm)
  clear hm HM HD
  generalize hk : gI keys x = k
  have HK := Lib.hid hk
  clear hk
  go_wp2_with (go_at_call 159; refine HD2.out.mono ?_; rintro e w1 ⟨rfl, hp⟩; have H := Lib.hid hp; clear hp)
  go_ret3
  exact ⟨x, by rw [HK.out]; rfl, HX.out, H.out⟩
end Go.Proofs.Ytmbogobebllheaa
