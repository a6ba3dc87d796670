/-
  The contract of the library's sort by a comparison, laid at this program's numbers. Rows of edges, turned and cut lists, the reference's Cut (carried over from the seat of layer 9).
-/
import Derived.Shelf.SlSortCmp.WholeK
import Derived.Test.YtmbogobebllheaaProg
import Derived.Test.YtmbogobebllheaaMq
import Derived.Test.YtmbogobebllheaaMg
import Derived.Lib.SliceRun
import Derived.Lib.SlicesCompact
import Derived.Sort.WalkB12
import Derived.WalkSmall
import Derived.Deep.LoopGhost
import Derived.Deep.Draws
import Derived.LoopN
import Derived.Shelf.Spec.SlicesInsert
import Derived.Lib.AppendZerosOnto
import Derived.Deep.AppendLies
namespace Go.Proofs
open Go.Shelf
def Try.sortE_ren : Go.Shelf.Ren := ⟨fun | 6 => 134 | 15 => 151 | 14 => 150 | 28 => 170 | 29 => 171 | 20 => 160 | 21 => 163 | 22 => 164 | 23 => 165 | 24 => 166 | 25 => 167 | 26 => 168 | 27 => 169 | 46 => 182 | 47 => 183 | 48 => 184 | 49 => 185 | 50 => 186 | 57 => 192 | n => n, fun | 22 => 25 | 24 => 72 | 25 => 125 | 3 => 3 | 39 => 165 | 0 => 0 | 53 => 56 | 55 => 185 | 4 => 4 | 46 => 178 | 45 => 177 | 50 => 53 | 5 => 5 | 9 => 9 | 66 => 191 | 70 => 195 | 76 => 201 | 77 => 202 | n => n, fun | n => n⟩
theorem Try.sortE : Go.Proofs.SlLaysF0.n6 Try.prog Try.sortE_ren := {
  mixed := by kernel_rfl
  f6 := ⟨Try.f134.name, by decide, Try.func134.trans (congrArg some (by kernel_rfl))⟩
  f14 := ⟨Try.f150.name, by decide, Try.func150.trans (congrArg some (by kernel_rfl))⟩
  f15 := Try.func151.trans (congrArg some (by kernel_rfl))
  f20 := ⟨Try.f160.name, by decide, Try.func160.trans (congrArg some (by kernel_rfl))⟩
  f21 := ⟨Try.f163.name, by decide, Try.func163.trans (congrArg some (by kernel_rfl))⟩
  f22 := ⟨Try.f164.name, by decide, Try.func164.trans (congrArg some (by kernel_rfl))⟩
  f23 := ⟨Try.f165.name, by decide, Try.func165.trans (congrArg some (by kernel_rfl))⟩
  f24 := ⟨Try.f166.name, by decide, Try.func166.trans (congrArg some (by kernel_rfl))⟩
  f25 := ⟨Try.f167.name, by decide, Try.func167.trans (congrArg some (by kernel_rfl))⟩
  f26 := ⟨Try.f168.name, by decide, Try.func168.trans (congrArg some (by kernel_rfl))⟩
  f27 := ⟨Try.f169.name, by decide, Try.func169.trans (congrArg some (by kernel_rfl))⟩
  f28 := Try.func170.trans (congrArg some (by kernel_rfl))
  f29 := Try.func171.trans (congrArg some (by kernel_rfl))
  f46 := ⟨Try.f182.name, by decide, Try.func182.trans (congrArg some (by kernel_rfl))⟩
  f47 := Try.func183.trans (congrArg some (by kernel_rfl))
  f48 := Try.func184.trans (congrArg some (by kernel_rfl))
  f49 := ⟨Try.f185.name, by decide, Try.func185.trans (congrArg some (by kernel_rfl))⟩
  f50 := ⟨Try.f186.name, by decide, Try.func186.trans (congrArg some (by kernel_rfl))⟩
  f57 := ⟨Try.f192.name, by decide, Try.func192.trans (congrArg some (by kernel_rfl))⟩
  t0 := Try.underlying0
  a0 := Try.isAgg0
  z0 := Try.sizeOf0
  v0 := Try.zeroValue0
  t3 := Try.underlying3
  a3 := Try.isAgg3
  z3 := Try.sizeOf3
  v3 := Try.zeroValue3
  t4 := Try.underlying4
  a4 := Try.isAgg4
  z4 := Try.sizeOf4
  v4 := Try.zeroValue4
  t5 := Try.underlying5
  a5 := Try.isAgg5
  z5 := Try.sizeOf5
  v5 := Try.zeroValue5
  t9 := Try.underlying9
  a9 := Try.isAgg9
  z9 := Try.sizeOf9
  v9 := Try.zeroValue9
  t22 := Try.underlying25
  a22 := Try.isAgg25
  z22 := Try.sizeOf25
  v22 := Try.zeroValue25
  t25 := Try.underlying125
  a25 := Try.isAgg125
  z25 := Try.sizeOf125
  v25 := Try.zeroValue125
  t39 := Try.underlying165
  a39 := Try.isAgg165
  z39 := Try.sizeOf165
  v39 := Try.zeroValue165
  t45 := Try.underlying177
  a45 := Try.isAgg177
  z45 := Try.sizeOf177
  v45 := Try.zeroValue177
  t46 := Try.underlying178
  a46 := Try.isAgg178
  z46 := Try.sizeOf178
  v46 := Try.zeroValue178
  t50 := Try.underlying53
  a50 := Try.isAgg53
  z50 := Try.sizeOf53
  v50 := Try.zeroValue53
  t53 := Try.underlying56
  a53 := Try.isAgg56
  z53 := Try.sizeOf56
  v53 := Try.zeroValue56
  t55 := Try.underlying185
  a55 := Try.isAgg185
  z55 := Try.sizeOf185
  v55 := Try.zeroValue185
  t66 := Try.underlying191
  a66 := Try.isAgg191
  z66 := Try.sizeOf191
  v66 := Try.zeroValue191
  t70 := Try.underlying195
  a70 := Try.isAgg195
  z70 := Try.sizeOf195
  v70 := Try.zeroValue195
  t76 := Try.underlying201
  a76 := Try.isAgg201
  z76 := Try.sizeOf201
  v76 := Try.zeroValue201
  t77 := Try.underlying202
  a77 := Try.isAgg202
  z77 := Try.sizeOf202
  v77 := Try.zeroValue202 }
end Go.Proofs

namespace Go.Proofs.Ytmbogobebllheaa
open Go.RowKit GM Go.Sort Go.Lib
set_option linter.unusedSimpArgs false
set_option linter.unusedVariables false
set_option maxHeartbeats 4000000
set_option maxRecDepth 100000

def encE (x : E) : List Value := [.int .i64 x.1, .int .i64 x.2.1, .int .i64 x.2.2]
def flatE (l : List E) : List Value := l.flatMap encE
theorem encE_len (x : E) : (encE x).length = 3 := rfl
theorem encE_one (x : E) : ∀ v ∈ encE x, v.oneCell' = true := by
  intro v hv; simp [encE] at hv; rcases hv with rfl | rfl | rfl <;> rfl
theorem flatE_len (l : List E) : (flatE l).length = l.length * 3 := by
  induction l with
  | nil => rfl
  | cons x r ih => unfold flatE at *; rw [List.flatMap_cons, List.length_append, ih, List.length_cons, encE]; simp; omega
theorem flatE_snoc (l : List E) (x : E) : flatE (l ++ [x]) = flatE l ++ encE x := by unfold flatE; simp
theorem flatE_get : ∀ (l : List E) (k : Nat) (x : E), l[k]? = some x → (flatE l)[k * 3]? = some (.int .i64 x.1) ∧ (flatE l)[k * 3 + 1]? = some (.int .i64 x.2.1) ∧ (flatE l)[k * 3 + 2]? = some (.int .i64 x.2.2)
  | [], k, x, h => by simp at h
  | y :: r, 0, x, h => by simp at h; subst h; simp [flatE, encE]
  | y :: r, k + 1, x, h => by
    have ih := flatE_get r k x (by simpa using h)
    have e : flatE (y :: r) = .int .i64 y.1 :: .int .i64 y.2.1 :: .int .i64 y.2.2 :: flatE r := by simp [flatE, encE]
    rw [e, show (k + 1) * 3 = k * 3 + 1 + 1 + 1 by omega, show k * 3 + 1 + 1 + 1 + 1 = (k * 3 + 1) + 1 + 1 + 1 by omega, show k * 3 + 1 + 1 + 1 + 2 = (k * 3 + 2) + 1 + 1 + 1 by omega]
    simpa using ih
theorem flatE_one (l : List E) : ∀ u ∈ flatE l, u.oneCell' = true := by
  intro u hu
  obtain ⟨x, _, hx⟩ := List.mem_flatMap.1 hu
  exact encE_one x u hx
theorem info72 : (Try.prog.info? 72).map (fun i => (i.zero, i.size, i.bytes)) = some (some (.agg #[.int .i64 0, .int .i64 0, .int .i64 0]), 3, 24) := by kernel_rfl
theorem infoE_parts {t : TypeId} {z : Value} {a b : Nat} (h : (Try.prog.info? t).map (fun i => (i.zero, i.size, i.bytes)) = some (some z, a, b)) : ∃ i, Try.prog.info? t = some i ∧ i.zero = some z ∧ i.size = a ∧ i.bytes = b := by
  cases hi : Try.prog.info? t with
  | none => rw [hi] at h; cases h
  | some i => rw [hi] at h; simp at h; exact ⟨i, rfl, h.1, h.2.1, h.2.2⟩
theorem rd3_own {w : World} {B : Nat} {v : Value} {l : List E} (h : w.ownsRow B 72 3 v l.length (flatE l)) : Rd3 w v l := by
  rcases h.2 with ⟨rfl, hn⟩ | ⟨g, cap, cur, rfl, hB, hg, hnc, hcm, _, _⟩
  · obtain rfl := List.length_eq_zero_iff.1 hn
    exact rd3_nil w
  · refine ⟨some ⟨g, 0, none⟩, cap, rfl, hnc, by unfold maxLen at hcm; omega, fun k x hk => ⟨g, 0, rfl, (Array.getElem?_eq_some_iff.1 hg).1, ?_, ?_, ?_⟩⟩
    · have hlt := (List.getElem?_eq_some_iff.1 hk).1
      rw [Nat.zero_add, h.cellAt (k * 3) (by omega)]; exact (flatE_get l k x hk).1
    · have hlt := (List.getElem?_eq_some_iff.1 hk).1
      rw [Nat.zero_add, h.cellAt (k * 3 + 1) (by omega)]; exact (flatE_get l k x hk).2.1
    · have hlt := (List.getElem?_eq_some_iff.1 hk).1
      rw [Nat.zero_add, h.cellAt (k * 3 + 2) (by omega)]; exact (flatE_get l k x hk).2.2
theorem ownE_base {w : World} {B B' n e k : Nat} {v : Value} {xs : List Value} (h : w.ownsRow B' e k v n xs) (hB : B ≤ B') : w.ownsRow B e k v n xs :=
  ⟨h.1, h.2.imp id (fun ⟨g, cap, cur, a, b, c⟩ => ⟨g, cap, cur, a, Nat.le_trans hB b, c⟩)⟩
theorem cellE_new (w : World) (x y z : Value) (t : TypeId) {b : Nat} (hb : b = w.heap.size) : ∀ j u, [x, y, z][j]? = some u → (w.alloc (.cells #[x, y, z] t)).cell? ((⟨b, 0, none⟩ : Addr).add j) = some u := by
  subst hb
  intro j u hj
  match j, hj with
  | 0, hj => simp at hj; subst hj; simp [Addr.add]
  | 1, hj => simp at hj; subst hj; simp [Addr.add]
  | 2, hj => simp at hj; subst hj; simp [Addr.add]
  | (j + 3), hj => simp at hj
theorem flatE_set (d : Array E) (i : Nat) (x : E) (hi : i < d.size) : setMany (flatK encE 3 d) (i * 3) (encE x) = flatK encE 3 (d.setIfInBounds i x) := by
  refine ext_get! (by simp) fun t ht => ?_
  have ht' : t < d.size * 3 := by simpa using ht
  rw [get_setMany _ _ _ t (by simpa using ht'), get_flatK encE 3 (d.setIfInBounds i x) t (by simpa using ht'), encE_len]
  by_cases h : i * 3 ≤ t ∧ t < i * 3 + 3
  · rw [if_pos h]
    have e : t / 3 = i := by omega
    have e2 : t - i * 3 = t % 3 := by omega
    rw [e, e2]
    simp [hi]
  · rw [if_neg h, get_flatK encE 3 d t ht']
    have e : t / 3 ≠ i := by omega
    rw [getElem!_set_other d i (t / 3) _ e]
theorem holdsE_store {W : World} {blk off : Nat} {d : Array E} (h : HoldsK encE 3 W blk off d) {i : Nat} (hi : i < d.size) (x : E) :
    HoldsK encE 3 (W.setCells blk (off + i * 3) (encE x)) blk off (d.setIfInBounds i x) := by
  have e := putRowK_self encE 3 W blk off d h
  have e2 : W.setCells blk (off + i * 3) (encE x) = putRow id W blk off (setMany (flatK encE 3 d) (i * 3) (encE x)) := by
    rw [← setCells_putRow W blk off (encE x) (i * 3) (flatK encE 3 d) (by rw [encE_len, size_flatK]; omega)]
    exact congrArg (fun w => w.setCells blk (off + i * 3) (encE x)) e.symm
  rw [e2, flatE_set d i x hi]
  exact holds_putRow id W blk off (flatK encE 3 d) _ h (by simp)
theorem he_cells {W : World} {blk off : Nat} {d : Array E} (h : HoldsK encE 3 W blk off d) {i : Nat} (hi : i < d.size) {a b c : Int} (hx : d[i]! = (a, b, c)) :
    (W.cell? ⟨blk, off + i * 3, none⟩ = some (.int .i64 a) ∧ W.cell? ⟨blk, off + i * 3 + 1, none⟩ = some (.int .i64 b) ∧ W.cell? ⟨blk, off + i * 3 + 2, none⟩ = some (.int .i64 c)) ∧ W.frozen? ⟨blk, off + i * 3, none⟩ = false ∧ W.frozen? ⟨blk, off + i * 3 + 1, none⟩ = false ∧ W.frozen? ⟨blk, off + i * 3 + 2, none⟩ = false := by
  have h0 := h.cell hi (c := 0) (by omega)
  have h1 := h.cell hi (c := 1) (by omega)
  have h2 := h.cell hi (c := 2) (by omega)
  rw [hx] at h0 h1 h2
  exact ⟨⟨h0.1, h1.1, h2.1⟩, h0.2, h1.2, h2.2⟩
theorem flatK_flatE (l : List E) : flatK encE 3 l.toArray = (flatE l).toArray := by
  refine ext_get! (by simp [flatE_len]) fun t ht => ?_
  have ht' : t < l.length * 3 := by simpa using ht
  rw [get_flatK _ _ _ t (by simpa using ht')]
  have hk : t / 3 < l.length := by omega
  have f := flatE_get l (t / 3) _ (List.getElem?_eq_getElem hk)
  have g : (flatE l).toArray[t]! = (flatE l)[t]'(by rw [flatE_len]; omega) := by simp [flatE_len, ht']
  have hx : (l.toArray[t / 3]! : E) = l[t / 3] := by simp [hk]
  rw [hx, g]
  rcases (by omega : t % 3 = 0 ∨ t % 3 = 1 ∨ t % 3 = 2) with e | e | e
  · have ej : t / 3 * 3 = t := by omega
    have f := f.1
    rw [ej] at f
    have := (List.getElem?_eq_some_iff.1 f).2
    rw [this, e]; rfl
  · have ej : t / 3 * 3 + 1 = t := by omega
    have f := f.2.1
    rw [ej] at f
    have := (List.getElem?_eq_some_iff.1 f).2
    rw [this, e]; rfl
  · have ej : t / 3 * 3 + 2 = t := by omega
    have f := f.2.2
    rw [ej] at f
    have := (List.getElem?_eq_some_iff.1 f).2
    rw [this, e]; rfl
theorem holdsE_below {w W : World} {blk off : Nat} {d : Array E} (h : HoldsK encE 3 w blk off d) (hb : Below w.heap.size w W) (hlt : blk < w.heap.size) : HoldsK encE 3 W blk off d := fun j hj =>
  ⟨by rw [hb.cell hlt]; exact (h j hj).1, by rw [hb.frozen hlt]; exact (h j hj).2⟩
theorem holdsE_own {w : World} {B g cap : Nat} {l : List E} (h : w.ownsRow B 72 3 (.slice (some ⟨g, 0, none⟩) l.length cap) l.length (flatE l)) : HoldsK encE 3 w g 0 l.toArray := by
  unfold HoldsK
  rw [flatK_flatE]
  intro j hj
  have hj' : j < l.length * 3 := by simpa [flatE_len] using hj
  rw [Nat.zero_add]
  refine ⟨?_, h.frozenAt j⟩
  rw [h.cellAt j hj']
  simp [flatE_len, hj']
/-- a slice over a row at a block that may be written -/
def OwnE (blk off : Nat) (w : World) (v : Value) (l : List E) : Prop :=
  ∃ cap, v = .slice (some ⟨blk, off, none⟩) l.length cap ∧ l.length ≤ cap ∧ cap ≤ 9223372036854775807 ∧ HoldsK encE 3 w blk off l.toArray ∧ blk < w.heap.size
theorem OwnE.cells {blk off : Nat} {w : World} {v : Value} {l : List E} (h : OwnE blk off w v l) : ∀ i x, l[i]? = some x → (w.cell? ⟨blk, off + i * 3, none⟩ = some (.int .i64 x.1) ∧ w.cell? ⟨blk, off + i * 3 + 1, none⟩ = some (.int .i64 x.2.1) ∧ w.cell? ⟨blk, off + i * 3 + 2, none⟩ = some (.int .i64 x.2.2)) ∧ w.frozen? ⟨blk, off + i * 3, none⟩ = false ∧ w.frozen? ⟨blk, off + i * 3 + 1, none⟩ = false ∧ w.frozen? ⟨blk, off + i * 3 + 2, none⟩ = false := by
  obtain ⟨cap, rfl, hc, _, hh, hb⟩ := h
  intro i x hx
  obtain ⟨hi, he⟩ := List.getElem?_eq_some_iff.1 hx
  exact he_cells hh (i := i) (by simpa using hi) (by simp [hi, he])
/-- a slice over a row of the call's own: nil, or a block from B on that may be written -/
def OwnS (B : Nat) (w : World) (v : Value) (l : List E) : Prop := (v = .slice none 0 0 ∧ l = []) ∨ ∃ g, B ≤ g ∧ OwnE g 0 w v l
theorem OwnE.below {blk off : Nat} {w W : World} {v : Value} {l : List E} (h : OwnE blk off w v l) (hb : Below w.heap.size w W) : OwnE blk off W v l := by
  obtain ⟨cap, rfl, h1, h2, h3, h4⟩ := h
  exact ⟨cap, rfl, h1, h2, holdsE_below h3 hb h4, Nat.lt_of_lt_of_le h4 hb.size⟩
theorem OwnS.below {B : Nat} {w W : World} {v : Value} {l : List E} (h : OwnS B w v l) (hb : Below w.heap.size w W) : OwnS B W v l := by
  rcases h with h | ⟨g, h1, h⟩
  · exact .inl h
  · exact .inr ⟨g, h1, h.below hb⟩
theorem OwnE.setCell {blk off g o : Nat} {w : World} {v u : Value} {l : List E} (h : OwnE blk off w v l) (hn : blk ≠ g) : OwnE blk off (w.setCell ⟨g, o, none⟩ u) v l := by
  obtain ⟨cap, rfl, h1, h2, h3, h4⟩ := h
  have hb : (w.setCell ⟨g, o, none⟩ u).heap[blk]? = w.heap[blk]? := heap_set_ne hn
  exact ⟨cap, rfl, h1, h2, fun j hj => ⟨(World.cell?_of_block hb).trans (h3 j hj).1, by have := (h3 j hj).2; simpa [World.frozen?, hb] using this⟩, by simpa using h4⟩
theorem OwnS.setCell {B g o : Nat} {w : World} {v u : Value} {l : List E} (h : OwnS B w v l) (hn : g < B) : OwnS B (w.setCell ⟨g, o, none⟩ u) v l := by
  rcases h with h | ⟨k, h1, h⟩
  · exact .inl h
  · exact .inr ⟨k, h1, h.setCell (by omega)⟩
theorem OwnS.mono {B B' : Nat} {w : World} {v : Value} {l : List E} (h : OwnS B w v l) (hb : B' ≤ B) : OwnS B' w v l := by
  rcases h with h | ⟨k, h1, h⟩
  · exact .inl h
  · exact .inr ⟨k, by omega, h⟩

/-- of the first m places those that kp chooses -/
def pickU (kp : Nat → Bool) (d : Array E) (m : Nat) : List E := ((List.range m).filter kp).map (d[·]!)
theorem pickU_succ (kp : Nat → Bool) (d : Array E) (m : Nat) : pickU kp d (m + 1) = pickU kp d m ++ (if kp m then [d[m]!] else []) := by
  unfold pickU
  rw [List.range_succ, List.filter_append, List.map_append]
  congr 1
  by_cases h : kp m <;> simp [h]
theorem pickU_all (kp : Nat → Bool) (d : Array E) (m : Nat) (h : ∀ j, j < m → kp j = true) : pickU kp d m = (List.range m).map (d[·]!) := by
  unfold pickU
  rw [List.filter_eq_self.2 (fun j hj => h j (List.mem_range.1 hj))]
/-- m places have been looked at; the chosen ones, k elements, lie at the head; from place k on the row is as it was -/
structure PickInv (kp : Nat → Bool) (d : Array E) (m k : Nat) (dk : Array E) : Prop where
  size : dk.size = d.size
  len : (pickU kp d m).length = k
  lt : k < m
  low : ∀ j, j < k → (pickU kp d m)[j]? = some dk[j]!
  high : ∀ j, k ≤ j → dk[j]! = d[j]!
theorem PickInv.start {kp : Nat → Bool} {d : Array E} {k0 : Nat} (hall : ∀ j, j < k0 → kp j = true) (hdup : kp k0 = false) : PickInv kp d (k0 + 1) k0 d where
  size := rfl
  len := by rw [pickU_succ, hdup, pickU_all kp d k0 hall]; simp
  lt := Nat.lt_succ_self _
  low := fun j hj => by rw [pickU_succ, hdup, pickU_all kp d k0 hall]; simp [hj]
  high := fun _ _ => rfl
theorem PickInv.skip {kp : Nat → Bool} {d dk : Array E} {m k : Nat} (h : PickInv kp d m k dk) (hk : kp m = false) : PickInv kp d (m + 1) k dk where
  size := h.size
  len := by rw [pickU_succ, hk]; simpa using h.len
  lt := by have := h.lt; omega
  low := fun j hj => by rw [pickU_succ, hk]; simpa using h.low j hj
  high := h.high
end Go.Proofs.Ytmbogobebllheaa

namespace Go.Proofs.Ytmbogobebllheaa
open Go.RowKit GM Go.Sort Go.Lib
set_option linter.unusedSimpArgs false
set_option linter.unusedVariables false
set_option maxHeartbeats 4000000
set_option maxRecDepth 100000

theorem flatE_cells (l : List E) (w : World) (A : Addr) (h : ∀ k x, l[k]? = some x → w.cell? (A.add (k * 3)) = some (.int .i64 x.1) ∧ w.cell? (A.add (k * 3 + 1)) = some (.int .i64 x.2.1) ∧ w.cell? (A.add (k * 3 + 2)) = some (.int .i64 x.2.2)) :
    ∀ j u, (flatE l)[j]? = some u → w.cell? (A.add j) = some u := by
  intro j u hu
  have hj : j < l.length * 3 := by have := (List.getElem?_eq_some_iff.1 hu).1; rwa [flatE_len] at this
  have hk : j / 3 < l.length := by omega
  have hx : l[j / 3]? = some l[j / 3] := List.getElem?_eq_getElem hk
  have f := flatE_get l (j / 3) _ hx
  have c := h (j / 3) _ hx
  rcases (by omega : j % 3 = 0 ∨ j % 3 = 1 ∨ j % 3 = 2) with e | e | e
  · have ej : j = j / 3 * 3 := by omega
    rw [ej] at hu ⊢
    rw [f.1] at hu
    rw [← hu]; exact c.1
  · have ej : j = j / 3 * 3 + 1 := by omega
    rw [ej] at hu ⊢
    rw [f.2.1] at hu
    rw [← hu]; exact c.2.1
  · have ej : j = j / 3 * 3 + 2 := by omega
    rw [ej] at hu ⊢
    rw [f.2.2] at hu
    rw [← hu]; exact c.2.2
/-- not more edges than a slice can hold -/
abbrev Fits (l : List E) : Prop := l.length ≤ 5864062014634

/-- slices.Clone -/
theorem clone_any (l : List E) (v : Value) (w : World) (hl : Fits l) (hr : Rd3 w v l) :
    Calls Try.prog 115 #[v] w fun e w' => ∃ v', e = .returned v' ∧ w'.ownsRow w.heap.size 72 3 v' l.length (flatE l) ∧ Below w.heap.size w w' := by
  unfold Fits at hl
  obtain ⟨i0, hi, hz0, hz1, hz2⟩ := infoE_parts info72
  obtain ⟨ad, cap, rfl, _, _, hc⟩ := hr
  have q48 : ∀ (w : World) (a : Option Addr) (n c n' c' : Nat), (binOp .eql 25 (.slice a n c) (.slice none n' c')).run Try.prog w = .ok (.bool a.isNone) w := fun w a n c n' c' => Lib.run_eql_slice_nil w _ _ a n c n' c' Try.underlying25
  cases ad with
  | none =>
    have hl0 : l = [] := by
      cases l with
      | nil => rfl
      | cons x r => obtain ⟨b, off, h, _⟩ := hc 0 x rfl; cases h
    subst hl0
    clear hc
    go_enter Try.func115, Try.ntmps115
    go_wp2
    go_ret
    exact ⟨_, rfl, World.ownsRow_nil _ _ _ _, Below.refl _ _⟩
  | some A =>
    have hcs : ∀ j u, (flatE l)[j]? = some u → w.cell? (A.add j) = some u := flatE_cells l w A fun k x hk => by
      obtain ⟨b, off, h, _, h0, h1, h2⟩ := hc k x hk
      obtain rfl := Option.some.inj h
      exact ⟨by rw [Addr.add_lit]; exact h0, by rw [Addr.add_lit, ← Nat.add_assoc]; exact h1, by rw [Addr.add_lit, ← Nat.add_assoc]; exact h2⟩
    have HC := Lib.hid hcs
    clear hc hcs
    go_enter Try.func115, Try.ntmps115
    go_wp2_with (at_builtin; refine wpList_append_own _ rfl _ _ 25 rfl w.heap.size 72 i0 (.agg #[.int .i64 0, .int .i64 0, .int .i64 0]) 3 24 Try.underlying25 hi hz0 hz1 hz2 rfl (by decide) _ _ _ rfl (World.ownsRow_made w #[] 0 (Nat.le_refl _) (Nat.zero_le _) (by simp)) A l.length cap (flatE l) rfl (flatE_len l) (fun j u hj => Lib.cell?_alloc_some _ (HC.out j u hj)) (flatE_one l) (by unfold maxLen; omega) (by omega) (by simp) ?_; intro v' w1 hown hgrow hnil)
    go_ret
    refine ⟨v', rfl, by simpa using hown, ((Below.refl _ w).alloc (Nat.le_refl _) _).grown hgrow (by simp) (by intro k hk; cases hk; exact Nat.le_refl _)⟩
end Go.Proofs.Ytmbogobebllheaa

namespace Go.Proofs.Ytmbogobebllheaa
open Go.RowKit GM Go.Sort Go.Lib
set_option linter.unusedSimpArgs false
set_option linter.unusedVariables false
set_option maxHeartbeats 4000000
set_option maxRecDepth 100000

theorem below_sorted {w : World} {g n : Nat} {os : Array Obj} (F : Array Value) : w.grownBy (grow (putRow id (Sort.ahead w n) g 0 F) os) (some g) := by
  refine ⟨rfl, rfl, rfl, by simp, fun k hk hne => ?_⟩
  rw [heap_grow_old _ _ (by simpa using hk)]
  have : g ≠ k := fun e => hne (by rw [e])
  simp [putRow, mapBlock, Sort.ahead, Array.getElem?_modify, this]
theorem insertion_none (cap : Nat) (fv : Value) (w : World) :
    Calls Try.prog 160 #[.slice none 0 cap, .int .i64 0, .int .i64 0, fv] w fun e w' => e = .returned (.tuple #[]) ∧ w' = w := by
  go_enter Try.func160, Try.ntmps160
  go_wp2
  refine wp_loop_rounds 1 ?_
  rw [rounds_succ]
  go_wp2
  go_end0
  exact ⟨rfl, rfl⟩
end Go.Proofs.Ytmbogobebllheaa

namespace Go.Proofs.Ytmbogobebllheaa
namespace GM
open Go.Sort Go.Lib
set_option linter.unusedVariables false
set_option linter.unusedSimpArgs false

abbrev AscE (l : List E) : Prop := l.Pairwise (fun a b => bef a b = true)
theorem bef_irrefl (a : E) : bef a a = false := by
  cases h : bef a a
  · rfl
  · rw [bef_iff] at h; omega
/-- r: of each pair of nodes the cheapest edge of l, in order -/
def Least (l r : List E) : Prop := AscE r ∧ ∀ x, x ∈ r ↔ x ∈ l ∧ ∀ y ∈ l, y.1 = x.1 → y.2.1 = x.2.1 → x.2.2 ≤ y.2.2
end GM
end Go.Proofs.Ytmbogobebllheaa

namespace Go.Proofs.Ytmbogobebllheaa
namespace GM
set_option linter.unusedVariables false
set_option linter.unusedSimpArgs false

/-- x in front of the first that it stands before -/
def putE (x : E) : List E → List E
  | [] => [x]
  | y :: r => if bef x y = true then x :: y :: r else y :: putE x r
theorem putE_len {x : E} : ∀ {l : List E}, (putE x l).length = l.length + 1
  | [] => rfl
  | z :: r => by unfold putE; split <;> simp [putE_len (l := r)]
theorem bef_conn {a b : E} (h : bef a b = false) (k : ¬ (a.1 = b.1 ∧ a.2.1 = b.2.1)) : bef b a = true := by
  have h' : ¬ bef a b = true := by rw [h]; simp
  rw [bef_iff] at *; omega
/-- in the midst of putting: i places are looked at -/
def PutI (x : E) (l : List E) (i : Nat) (d : Bool) (out : List E) : Prop := if d = true then putE x l = out ++ l.drop i else out = l.take i ∧ putE x l = l.take i ++ putE x (l.drop i)
theorem PutI.start {x : E} {l : List E} : PutI x l 0 false [] := by unfold PutI; simp
theorem PutI.on {x y : E} {l : List E} {i : Nat} {out : List E} (h : PutI x l i true out) (hy : l[i]? = some y) : PutI x l (i + 1) true (out ++ [y]) := by
  unfold PutI at *
  simp only [if_true] at *
  obtain ⟨hk, he⟩ := List.getElem?_eq_some_iff.1 hy
  rw [h, List.append_assoc, List.drop_eq_getElem_cons hk, he]; rfl
theorem PutI.skip {x y : E} {l : List E} {i : Nat} {out : List E} (h : PutI x l i false out) (hy : l[i]? = some y) (hb : bef x y = false) : PutI x l (i + 1) false (out ++ [y]) := by
  unfold PutI at *
  simp only [Bool.false_eq_true, if_false] at *
  obtain ⟨hk, he⟩ := List.getElem?_eq_some_iff.1 hy
  have e1 : l.take (i + 1) = l.take i ++ [y] := by rw [List.take_add_one, hy]; rfl
  rw [e1]
  refine ⟨by rw [h.1], ?_⟩
  rw [h.2, List.drop_eq_getElem_cons hk, he, putE, if_neg (by rw [hb]; simp), List.append_assoc]; rfl
theorem PutI.here {x y : E} {l : List E} {i : Nat} {out : List E} (h : PutI x l i false out) (hy : l[i]? = some y) (hb : bef x y = true) : PutI x l (i + 1) true (out ++ [x] ++ [y]) := by
  unfold PutI at *
  simp only [Bool.false_eq_true, if_false, if_true] at *
  obtain ⟨hk, he⟩ := List.getElem?_eq_some_iff.1 hy
  rw [h.2, List.drop_eq_getElem_cons hk, he, putE, if_pos hb, h.1]; simp
theorem Least.nil : Least [] [] := ⟨List.Pairwise.nil, fun x => by simp⟩
theorem Least.one {l o : List E} (h : Least l o) {x : E} (hx : x ∈ o) {y : E} (hy : y ∈ o) (h1 : x.1 = y.1) (h2 : x.2.1 = y.2.1) : x = y := by
  have a := (h.2 x).1 hx
  have b := (h.2 y).1 hy
  have c := a.2 y b.1 h1.symm h2.symm
  have d := b.2 x a.1 h1 h2
  exact Prod.ext h1 (Prod.ext h2 (by omega))
/-- of each pair of nodes there is a cheapest edge -/
theorem Least.has {l o : List E} (h : Least l o) : ∀ {x : E}, x ∈ l → ∃ y ∈ o, y.1 = x.1 ∧ y.2.1 = x.2.1 ∧ y.2.2 ≤ x.2.2 := by
  have key : ∀ (m : List E), (∀ z ∈ m, z ∈ l) → ∀ x ∈ m, ∃ y ∈ m, y.1 = x.1 ∧ y.2.1 = x.2.1 ∧ y.2.2 ≤ x.2.2 ∧ ∀ z ∈ m, z.1 = x.1 → z.2.1 = x.2.1 → y.2.2 ≤ z.2.2 := by
    intro m
    induction m with
    | nil => intro _ x hx; cases hx
    | cons a m ih =>
      intro hm x hx
      by_cases hin : ∃ u ∈ m, u.1 = x.1 ∧ u.2.1 = x.2.1
      · obtain ⟨u, hu, u1, u2⟩ := hin
        obtain ⟨y, hy, y1, y2, _, y4⟩ := ih (fun z hz => hm z (List.mem_cons_of_mem _ hz)) u hu
        by_cases ha : a.1 = x.1 ∧ a.2.1 = x.2.1 ∧ a.2.2 < y.2.2
        · refine ⟨a, by simp, ha.1, ha.2.1, ?_, ?_⟩
          · rcases List.mem_cons.1 hx with rfl | hx
            · omega
            · have := y4 x hx (by omega) (by omega); omega
          · intro z hz z1 z2
            rcases List.mem_cons.1 hz with rfl | hz
            · omega
            · have := y4 z hz (by omega) (by omega); omega
        · refine ⟨y, List.mem_cons_of_mem _ hy, by omega, by omega, ?_, ?_⟩
          · rcases List.mem_cons.1 hx with rfl | hx
            · omega
            · exact y4 x hx (by omega) (by omega)
          · intro z hz z1 z2
            rcases List.mem_cons.1 hz with rfl | hz
            · omega
            · exact y4 z hz (by omega) (by omega)
      · rcases List.mem_cons.1 hx with rfl | hx
        · refine ⟨x, by simp, rfl, rfl, by omega, ?_⟩
          intro z hz z1 z2
          rcases List.mem_cons.1 hz with rfl | hz
          · omega
          · exact absurd ⟨z, hz, z1, z2⟩ hin
        · exact absurd ⟨x, hx, rfl, rfl⟩ hin
  intro x hx
  obtain ⟨y, hy, y1, y2, y3, y4⟩ := key l (fun z hz => hz) x hx
  exact ⟨y, (h.2 y).2 ⟨hy, fun z hz z1 z2 => y4 z hz (by omega) (by omega)⟩, y1, y2, y3⟩
end GM
end Go.Proofs.Ytmbogobebllheaa

namespace Go.Proofs.Ytmbogobebllheaa
open Go.RowKit GM Go.Sort
set_option linter.unusedSimpArgs false
set_option linter.unusedVariables false
set_option maxHeartbeats 4000000
set_option maxRecDepth 100000

/-- a row of edges of the call's own, from block B on -/
abbrev OwnL (B : Nat) (W : World) (v : Value) (o : List E) : Prop := W.ownsRow B 72 3 v o.length (flatE o)
theorem OwnL.push {B : Nat} {W2 : World} {v v' : Value} {o : List E} (y : E) (hown : W2.ownsRow B 72 3 v' (o.length + 1) (flatE o ++ encE y)) : OwnL B W2 v' (o ++ [y]) := by
  unfold OwnL
  rw [flatE_snoc, List.length_append]
  exact hown
/-- x lies in its box, o in a row of the call's own -/
def PutS (w : World) (x : E) (v : Value) (o : List E) (W : World) : Prop :=
  OwnL (w.heap.size + 1) W v o ∧ Below w.heap.size w W ∧ W.heap[w.heap.size]? = some (.cells #[.int .i64 x.1, .int .i64 x.2.1, .int .i64 x.2.2] 72 (0, 0))
theorem PutS.below {w W W1 : World} {x : E} {v : Value} {o : List E} (h : PutS w x v o W) (hb : Below W.heap.size W W1) : PutS w x v o W1 :=
  ⟨row_below h.1 hb, below_then h.2.1 hb, (hb.block _ (lt_block h.2.2)).trans h.2.2⟩
theorem PutS.drewN {w W : World} {x : E} {v : Value} {o : List E} (h : PutS w x v o W) (n : Nat) : PutS w x v o (W.drewN n) := h.below (below_drewN (Below.refl _ _) n)
theorem PutS.push {w W W2 : World} {x : E} {v v' : Value} {o : List E} (h : PutS w x v o W) (y : E) (ob : Obj) (hown : W2.ownsRow (w.heap.size + 1) 72 3 v' (o.length + 1) (flatE o ++ encE y)) (hg : (W.alloc ob).grownBy W2 v.ownBlock) : PutS w x v' (o ++ [y]) W2 := by
  have hlt := lt_block h.2.2
  refine ⟨OwnL.push (v := v) y hown, (h.2.1.alloc h.2.1.size ob).grown hg (by have := h.2.1.size; simp; omega) (fun k hk => by have := (row_lt h.1 hk).1; omega), ?_⟩
  rw [hg.block _ (by simp; omega) (fun e => by have := (row_lt h.1 e.symm).1; omega), Below.heap_alloc _ _ _ hlt]
  exact h.2.2
theorem GM.PutI.len {x : E} {l : List E} {i : Nat} {d : Bool} {out : List E} (h : PutI x l i d out) (hi : i ≤ l.length) : out.length ≤ i + 1 := by
  unfold PutI at h
  split at h
  · have := congrArg List.length h
    rw [putE_len, List.length_append, List.length_drop] at this
    omega
  · rw [h.1, List.length_take]; omega
end Go.Proofs.Ytmbogobebllheaa

namespace Go.Proofs.Ytmbogobebllheaa
open Go.RowKit GM Go.Sort
set_option linter.unusedSimpArgs false
set_option linter.unusedVariables false
set_option maxHeartbeats 4000000
set_option maxRecDepth 100000

/-- block g is a row of edges with just these cells -/
def Row (W : World) (g : Nat) (xs : List Value) : Prop := W.heap[g]? = some (.cells xs.toArray 72 (0, 0))
theorem Row.cell {W : World} {g : Nat} {xs : List Value} (h : Row W g xs) (j : Nat) : W.cell? ⟨g, j, none⟩ = xs[j]? := by
  unfold Row at h; simp [World.cell?, h]
end Go.Proofs.Ytmbogobebllheaa

namespace Go.Proofs.Ytmbogobebllheaa
namespace GM
set_option linter.unusedVariables false
set_option linter.unusedSimpArgs false

/-- between the nodes of c -/
def sm (c x : E) : Bool := decide (x.1 = c.1 ∧ x.2.1 = c.2.1)
theorem sm_iff {c x : E} : sm c x = true ↔ x.1 = c.1 ∧ x.2.1 = c.2.1 := by unfold sm; rw [decide_eq_true_eq]
def has (l : List E) (c : E) : Bool := l.any (sm c)
end GM
end Go.Proofs.Ytmbogobebllheaa

namespace Go.Proofs.Ytmbogobebllheaa
open Go.RowKit GM Go.Sort
set_option linter.unusedSimpArgs false
set_option linter.unusedVariables false
set_option maxHeartbeats 4000000
set_option maxRecDepth 100000

/-- of what lies before block B only block G is changed -/
structure Chg (G B : Nat) (w w' : World) : Prop where
  os : w'.os = w.os
  tape : w'.tape = w.tape
  output : w'.output = w.output
  size : w.heap.size ≤ w'.heap.size
  block : ∀ k, k < B → k ≠ G → w'.heap[k]? = w.heap[k]?
theorem Chg.refl (G B : Nat) (w : World) : Chg G B w w := ⟨rfl, rfl, rfl, Nat.le_refl _, fun _ _ _ => rfl⟩
theorem Chg.below {G B : Nat} {a b c : World} (h : Chg G B a b) (k : Below b.heap.size b c) (hB : B ≤ b.heap.size) : Chg G B a c :=
  ⟨k.os.trans h.os, k.tape.trans h.tape, k.output.trans h.output, Nat.le_trans h.size k.size, fun i hi hn => (k.block i (by omega)).trans (h.block i hi hn)⟩
theorem Chg.grown {G B g : Nat} {a b c : World} (h : Chg G B a b) (k : b.grownBy c (some g)) (hB : B ≤ b.heap.size) (hg : B ≤ g) : Chg G B a c :=
  ⟨k.os.trans h.os, k.tape.trans h.tape, k.output.trans h.output, Nat.le_trans h.size k.size, fun i hi hn => (k.block i (by omega) (fun e => by cases e; omega)).trans (h.block i hi hn)⟩
theorem Chg.drewN {G B : Nat} {a b : World} (h : Chg G B a b) (n : Nat) : Chg G B a (b.drewN n) := ⟨h.os, h.tape, h.output, h.size, h.block⟩
/-- a graph in its box; its edges lie in a row of the call's own -/
structure GB (G B : Nat) (R N : Int) (s : Value) (l : List E) (W : World) : Prop where
  box : W.heap[G]? = some (.cells #[.int .i64 R, .int .i64 N, s] 27 (0, 0))
  own : OwnL B W s l
  lt : G < B
  sz : B ≤ W.heap.size
theorem GB.below {G B : Nat} {R N : Int} {s : Value} {l : List E} {W W' : World} (h : GB G B R N s l W) (k : Below W.heap.size W W') : GB G B R N s l W' :=
  ⟨(k.block _ (lt_block h.box)).trans h.box, row_below h.own k, h.lt, Nat.le_trans h.sz k.size⟩
theorem GB.drewN {G B : Nat} {R N : Int} {s : Value} {l : List E} {W : World} (h : GB G B R N s l W) (n : Nat) : GB G B R N s l (W.drewN n) := h.below (below_drewN (Below.refl _ _) n)
theorem GB.slice {G B : Nat} {R N : Int} {s : Value} {l : List E} {W : World} (h : GB G B R N s l W) : ∃ ad cap, s = .slice ad l.length cap := rd3_slice (rd3_own h.own)
end Go.Proofs.Ytmbogobebllheaa

namespace Go.Proofs.Ytmbogobebllheaa
open Go.RowKit GM Go.Sort
set_option linter.unusedSimpArgs false
set_option linter.unusedVariables false
set_option maxHeartbeats 4000000
set_option maxRecDepth 100000

/-- in the midst of Apply -/
structure ApS (w : World) (R N : Int) (s : Value) (l : List E) (W : World) : Prop where
  gb : GB w.heap.size (w.heap.size + 2) R N s l W
  z : W.heap[w.heap.size + 1]? = some (.cells #[.int .i64 0, .int .i64 0, .slice none 0 0] 27 (0, 0))
  b : Below w.heap.size w W
theorem ApS.below {w W W' : World} {R N : Int} {s : Value} {l : List E} (h : ApS w R N s l W) (k : Below W.heap.size W W') : ApS w R N s l W' :=
  ⟨h.gb.below k, (k.block _ (lt_block h.z)).trans h.z, below_then h.b k⟩
/-- the result is stored -/
theorem ApS.stored {w W : World} {R N : Int} {s : Value} {l : List E} (h : ApS w R N s l W) (u0 u1 u2 : Value) :
    Rd3 (((W.setCell ⟨w.heap.size + 1, 0, none⟩ u0).setCell ⟨w.heap.size + 1, 1, none⟩ u1).setCell ⟨w.heap.size + 1, 2, none⟩ u2) s l ∧ Below w.heap.size w (((W.setCell ⟨w.heap.size + 1, 0, none⟩ u0).setCell ⟨w.heap.size + 1, 1, none⟩ u1).setCell ⟨w.heap.size + 1, 2, none⟩ u2) := by
  have hh : ∀ g : Nat, w.heap.size + 2 ≤ g → (((W.setCell ⟨w.heap.size + 1, 0, none⟩ u0).setCell ⟨w.heap.size + 1, 1, none⟩ u1).setCell ⟨w.heap.size + 1, 2, none⟩ u2).heap[g]? = W.heap[g]? := fun g hg => by
    rw [heap_set_ne (by omega), heap_set_ne (by omega), heap_set_ne (by omega)]
  exact ⟨rd3_own (row_congr h.gb.own (fun g hg => hh g (row_lt h.gb.own hg).1)), ((h.b.setCell (by show _ ≤ w.heap.size + 1; omega) _).setCell (by show _ ≤ w.heap.size + 1; omega) _).setCell (by show _ ≤ w.heap.size + 1; omega) _⟩
end Go.Proofs.Ytmbogobebllheaa

namespace Go.Proofs.Ytmbogobebllheaa
open Go.RowKit GM Go.Sort
set_option linter.unusedSimpArgs false
set_option linter.unusedVariables false
set_option maxHeartbeats 4000000
set_option maxRecDepth 100000
namespace GM
end GM
/-- in the midst of the reference's Apply -/
structure RAp (w : World) (R N : Int) (s0 v : Value) (l : List E) (H : Nat) (W : World) : Prop where
  b : Below w.heap.size w W
  g : W.heap[w.heap.size]? = some (.cells #[.int .i64 R, .int .i64 N, s0] 27 (0, 0))
  z : W.heap[w.heap.size + 1]? = some (.cells #[.int .i64 0, .int .i64 0, .slice none 0 0] 27 (0, 0))
  hH : w.heap.size + 2 ≤ H
  h : W.heap[H]? = some (.cells #[.int .i64 R, .int .i64 N, v] 27 (0, 0))
  own : OwnL (w.heap.size + 2) W v l
theorem RAp.below {w W W' : World} {R N : Int} {s0 v : Value} {l : List E} {H : Nat} (h : RAp w R N s0 v l H W) (k : Below W.heap.size W W') : RAp w R N s0 v l H W' :=
  ⟨below_then h.b k, (k.block _ (lt_block h.g)).trans h.g, (k.block _ (lt_block h.z)).trans h.z, h.hH, (k.block _ (lt_block h.h)).trans h.h, row_below h.own k⟩
theorem RAp.stored {w W : World} {R N : Int} {s0 v : Value} {l : List E} {H : Nat} (h : RAp w R N s0 v l H W) (u0 u1 u2 : Value) :
    Rd3 (((W.setCell ⟨w.heap.size + 1, 0, none⟩ u0).setCell ⟨w.heap.size + 1, 1, none⟩ u1).setCell ⟨w.heap.size + 1, 2, none⟩ u2) v l ∧ Below w.heap.size w (((W.setCell ⟨w.heap.size + 1, 0, none⟩ u0).setCell ⟨w.heap.size + 1, 1, none⟩ u1).setCell ⟨w.heap.size + 1, 2, none⟩ u2) := by
  have hh : ∀ g : Nat, w.heap.size + 2 ≤ g → (((W.setCell ⟨w.heap.size + 1, 0, none⟩ u0).setCell ⟨w.heap.size + 1, 1, none⟩ u1).setCell ⟨w.heap.size + 1, 2, none⟩ u2).heap[g]? = W.heap[g]? := fun g hg => by
    rw [heap_set_ne (by omega), heap_set_ne (by omega), heap_set_ne (by omega)]
  exact ⟨rd3_own (row_congr h.own (fun g hg => hh g (row_lt h.own hg).1)), ((h.b.setCell (by show _ ≤ w.heap.size + 1; omega) _).setCell (by show _ ≤ w.heap.size + 1; omega) _).setCell (by show _ ≤ w.heap.size + 1; omega) _⟩
/-- what Apply keeps at its beginning -/
def Rb (w : World) (R N : Int) (s0 : Value) (W : World) : Prop := Below w.heap.size w W ∧ W.heap[w.heap.size]? = some (.cells #[.int .i64 R, .int .i64 N, s0] 27 (0, 0)) ∧ W.heap[w.heap.size + 1]? = some (.cells #[.int .i64 0, .int .i64 0, .slice none 0 0] 27 (0, 0))
theorem Rb.one {w w1 w2 : World} {R N : Int} {s0 v : Value} {l : List E} {o : Obj} (h : Rb w R N s0 w1) (hb : Below (w1.alloc o).heap.size (w1.alloc o) w2) (ho : OwnL (w1.alloc o).heap.size w2 v l) (hx : w2.heap[w1.heap.size]? = some (.cells #[.int .i64 0, .int .i64 0, .slice none 0 0] 27 (0, 0))) :
    RAp w R N s0 v l w1.heap.size (((w2.setCell ⟨w1.heap.size, 0, none⟩ (.int .i64 R)).setCell ⟨w1.heap.size, 1, none⟩ (.int .i64 N)).setCell ⟨w1.heap.size, 2, none⟩ v) := by
  have h0 := lt_block h.2.2
  have hb' := below_then (below_alloc w1 o) hb
  have hsz : (w1.alloc o).heap.size = w1.heap.size + 1 := by simp
  refine ⟨(((below_then h.1 hb').setCell h.1.size _).setCell h.1.size _).setCell h.1.size _, ?_, ?_, by omega, ?_, ?_⟩
  · rw [heap_set_ne (by omega), heap_set_ne (by omega), heap_set_ne (by omega)]; exact (hb'.block _ (lt_block h.2.1)).trans h.2.1
  · rw [heap_set_ne (by omega), heap_set_ne (by omega), heap_set_ne (by omega)]; exact (hb'.block _ h0).trans h.2.2
  · rw [heap_set_eq (heap_set_eq (heap_set_eq hx))]; rfl
  · refine ownE_base (B' := (w1.alloc o).heap.size) ?_ (by rw [hsz]; omega)
    exact row_congr ho (fun g hg => by
      have := (row_lt ho hg).1
      rw [hsz] at this
      rw [heap_set_ne (by omega), heap_set_ne (by omega), heap_set_ne (by omega)])
theorem Rb.two {w w1 w2 : World} {R N : Int} {s0 v : Value} {l : List E} (h : Rb w R N s0 w1) (hb : Below w1.heap.size w1 w2) (ho : OwnL w1.heap.size w2 v l) :
    RAp w R N s0 v l w2.heap.size (w2.alloc (.cells #[.int .i64 R, .int .i64 N, v] 27)) := by
  have h0 := lt_block h.2.2
  have hb2 := below_then hb (below_alloc w2 (.cells #[.int .i64 R, .int .i64 N, v] 27))
  exact ⟨below_then h.1 hb2, (hb2.block _ (lt_block h.2.1)).trans h.2.1, (hb2.block _ h0).trans h.2.2, by have := hb.size; omega, heap_alloc_new _ _, row_below (ownE_base ho (by omega)) (below_alloc _ _)⟩
end Go.Proofs.Ytmbogobebllheaa

namespace Go.Proofs.Ytmbogobebllheaa
namespace GM
set_option linter.unusedVariables false
set_option linter.unusedSimpArgs false

/-- in order; equal nodes may follow each other -/
abbrev SrtE (l : List E) : Prop := l.Pairwise (fun a b => bef b a = false)
/-- of each pair of nodes the same edges in the same order -/
def Stb (l m : List E) : Prop := ∀ c : E, m.filter (sm c) = l.filter (sm c)
theorem Stb.refl (l : List E) : Stb l l := fun _ => rfl
theorem Stb.trans {l m n : List E} (h : Stb l m) (k : Stb m n) : Stb l n := fun c => (k c).trans (h c)
theorem Stb.app {a a' b b' : List E} (h : Stb a a') (k : Stb b b') : Stb (a ++ b) (a' ++ b') := fun c => by rw [List.filter_append, List.filter_append, h c, k c]
theorem Stb.mem {l m : List E} (h : Stb l m) {x : E} : x ∈ m ↔ x ∈ l := by
  have hs : sm x x = true := sm_iff.2 ⟨rfl, rfl⟩
  have h1 := h x
  constructor
  · intro hx
    have : x ∈ m.filter (sm x) := List.mem_filter.2 ⟨hx, hs⟩
    rw [h1] at this
    exact (List.mem_filter.1 this).1
  · intro hx
    have : x ∈ l.filter (sm x) := List.mem_filter.2 ⟨hx, hs⟩
    rw [← h1] at this
    exact (List.mem_filter.1 this).1
theorem Stb.swap {u v : List E} (h : ∀ x ∈ u, ∀ y ∈ v, ¬ (x.1 = y.1 ∧ x.2.1 = y.2.1)) : Stb (u ++ v) (v ++ u) := fun c => by
  rw [List.filter_append, List.filter_append]
  by_cases hu : ∃ x ∈ u, sm c x = true
  · obtain ⟨x, hx, hsx⟩ := hu
    have : v.filter (sm c) = [] := by
      rw [List.filter_eq_nil_iff]
      intro y hy hsy
      have h1 := sm_iff.1 hsx
      have h2 := sm_iff.1 hsy
      exact h x hx y hy ⟨by omega, by omega⟩
    rw [this]; simp
  · have : u.filter (sm c) = [] := by
      rw [List.filter_eq_nil_iff]
      intro x hx hsx
      exact hu ⟨x, hx, hsx⟩
    rw [this]; simp
theorem bef_not_same {x y : E} (h : bef x y = true) : ¬ (y.1 = x.1 ∧ y.2.1 = x.2.1) := by rw [bef_iff] at h; omega
/-- a merge of u and v that keeps equals in order -/
structure MergeP (u v z : List E) : Prop where
  srt : SrtE z
  stb : Stb (u ++ v) z
  len : z.length = u.length + v.length
theorem MergeP.nil_right {u : List E} (h : SrtE u) : MergeP u [] u := ⟨h, by rw [List.append_nil]; exact Stb.refl _, by simp⟩
theorem MergeP.nil_left {v : List E} (h : SrtE v) : MergeP [] v v := ⟨h, Stb.refl _, by simp⟩
theorem MergeP.join {u1 u2 v1 v2 z1 z2 : List E} (hu : SrtE (u1 ++ u2)) (hv : SrtE (v1 ++ v2)) (h1 : ∀ x ∈ u1, ∀ y ∈ v2, bef y x = false) (h2 : ∀ y ∈ v1, ∀ x ∈ u2, bef y x = true) (hz1 : MergeP u1 v1 z1) (hz2 : MergeP u2 v2 z2) :
    MergeP (u1 ++ u2) (v1 ++ v2) (z1 ++ z2) where
  srt := by
    obtain ⟨_, _, hu3⟩ := List.pairwise_append.1 hu
    obtain ⟨_, _, hv3⟩ := List.pairwise_append.1 hv
    refine List.pairwise_append.2 ⟨hz1.srt, hz2.srt, fun x hx y hy => ?_⟩
    have hx' := hz1.stb.mem.1 hx
    have hy' := hz2.stb.mem.1 hy
    rw [List.mem_append] at hx' hy'
    rcases hx' with hx' | hx' <;> rcases hy' with hy' | hy'
    · exact hu3 x hx' y hy'
    · exact h1 x hx' y hy'
    · have := h2 x hx' y hy'
      cases h : bef y x
      · rfl
      · have h5 := bef_trans this h; rw [bef_irrefl] at h5; cases h5
    · exact hv3 x hx' y hy'
  stb := by
    have s1 : Stb ((u1 ++ v1) ++ (u2 ++ v2)) (z1 ++ z2) := hz1.stb.app hz2.stb
    have s2 : Stb ((u1 ++ u2) ++ (v1 ++ v2)) ((u1 ++ v1) ++ (u2 ++ v2)) := by
      have : Stb (u2 ++ v1) (v1 ++ u2) := Stb.swap fun x hx y hy => bef_not_same (h2 y hy x hx)
      have := (Stb.refl u1).app (this.app (Stb.refl v2))
      simpa [List.append_assoc] using this
    exact s2.trans s1
  len := by have := hz1.len; have := hz2.len; simp only [List.length_append]; omega
theorem MergeP.one_left {x : E} {v1 v2 : List E} (hv : SrtE (v1 ++ v2)) (h1 : ∀ y ∈ v1, bef y x = true) (h2 : ∀ y ∈ v2, bef y x = false) : MergeP [x] (v1 ++ v2) (v1 ++ x :: v2) := by
  obtain ⟨s1, s2, s3⟩ := List.pairwise_append.1 hv
  refine ⟨?_, ?_, by simp; omega⟩
  · refine List.pairwise_append.2 ⟨s1, List.pairwise_cons.2 ⟨h2, s2⟩, fun a ha b hb => ?_⟩
    rcases List.mem_cons.1 hb with rfl | hb
    · have := h1 a ha
      cases h : bef b a
      · rfl
      · have h5 := bef_trans this h; rw [bef_irrefl] at h5; cases h5
    · exact s3 a ha b hb
  · have : Stb ([x] ++ v1) (v1 ++ [x]) := Stb.swap fun a ha y hy => by
      rw [List.mem_singleton] at ha; subst ha
      exact bef_not_same (h1 y hy)
    have := this.app (Stb.refl v2)
    simpa [List.append_assoc] using this
theorem MergeP.one_right {x : E} {u1 u2 : List E} (hu : SrtE (u1 ++ u2)) (h1 : ∀ y ∈ u1, bef x y = false) (h2 : ∀ y ∈ u2, bef x y = true) : MergeP (u1 ++ u2) [x] (u1 ++ x :: u2) := by
  obtain ⟨s1, s2, s3⟩ := List.pairwise_append.1 hu
  refine ⟨?_, ?_, by simp; omega⟩
  · refine List.pairwise_append.2 ⟨s1, List.pairwise_cons.2 ⟨fun b hb => ?_, s2⟩, fun a ha b hb => ?_⟩
    · have := h2 b hb
      cases h : bef b x
      · rfl
      · have h5 := bef_trans this h; rw [bef_irrefl] at h5; cases h5
    · rcases List.mem_cons.1 hb with rfl | hb
      · exact h1 a ha
      · exact s3 a ha b hb
  · have : Stb (u2 ++ [x]) ([x] ++ u2) := Stb.swap fun a ha y hy => by
      rw [List.mem_singleton] at hy; subst hy
      exact bef_not_same (h2 a ha)
    have := (Stb.refl u1).app this
    simpa [List.append_assoc] using this
theorem le_of {a b c : E} (h : bef b a = false) (k : bef c b = false) : bef c a = false := by
  have h1 : ¬ bef b a = true := by rw [h]; simp
  have h2 : ¬ bef c b = true := by rw [k]; simp
  cases h3 : bef c a
  · rfl
  · rw [bef_iff] at h1 h2 h3; omega
theorem lt_le {a b c : E} (h : bef a b = true) (k : bef c b = false) : bef a c = true := by
  have h2 : ¬ bef c b = true := by rw [k]; simp
  rw [bef_iff] at *; omega
theorem le_lt {a b c : E} (h : bef b a = false) (k : bef b c = true) : bef a c = true := by
  have h2 : ¬ bef b a = true := by rw [h]; simp
  rw [bef_iff] at *; omega
end GM
end Go.Proofs.Ytmbogobebllheaa

namespace Go.Proofs.Ytmbogobebllheaa
open Go.RowKit GM Go.Sort
set_option linter.unusedSimpArgs false
set_option linter.unusedVariables false
set_option maxHeartbeats 1500000
set_option maxRecDepth 100000

theorem results_cell_one {fn : Func} {p : Tmp} {ty : TypeId} (h : fn.results = #[.cell p ty]) (tmps : Array Value) (P : Program) (w : World) :
    (results fn tmps).run P w = ((asAddr (tmps.getD p undef)).run P w).andThen fun a w₁ => ((loadVar ty a).run P w₁).andThen fun v w₂ => .ok v w₂ := by
  simp only [results, h]
  simp [Sem.run_bind, Result.andThen]
  cases Sem.run P (asAddr (tmps[p]?.getD undef)) w with
  | ok a w1 =>
    dsimp only
    cases Sem.run P (loadVar ty a) w1 <;> rfl
  | halt _ _ => rfl
/-- in the midst of Reverse, Without, Cut: the graph's box, the result's, that of the graph that is made -/
def RTu (w : World) (R N : Int) (s0 v : Value) (o : List E) (W : World) : Prop :=
  OwnL (w.heap.size + 3) W v o ∧ Below w.heap.size w W ∧ W.heap[w.heap.size]? = some (.cells #[.int .i64 R, .int .i64 N, s0] 27 (0, 0)) ∧ W.heap[w.heap.size + 1]? = some (.cells #[.int .i64 0, .int .i64 0, .slice none 0 0] 27 (0, 0)) ∧ W.heap[w.heap.size + 2]? = some (.cells #[.int .i64 R, .int .i64 N, v] 27 (0, 0))
theorem RTu.below {w W W1 : World} {R N : Int} {s0 v : Value} {o : List E} (h : RTu w R N s0 v o W) (hb : Below W.heap.size W W1) : RTu w R N s0 v o W1 :=
  ⟨row_below h.1 hb, below_then h.2.1 hb, (hb.block _ (lt_block h.2.2.1)).trans h.2.2.1, (hb.block _ (lt_block h.2.2.2.1)).trans h.2.2.2.1, (hb.block _ (lt_block h.2.2.2.2)).trans h.2.2.2.2⟩
theorem RTu.grown {w W W1 : World} {R N : Int} {s0 v v' : Value} {o o' : List E} (h : RTu w R N s0 v o W) (hg : W.grownBy W1 v.ownBlock) (ho : OwnL (w.heap.size + 3) W1 v' o') : RTu w R N s0 v' o' (W1.setCell ⟨w.heap.size + 2, 2, none⟩ v') ∧ W1.frozen? ⟨w.heap.size + 2, 2, none⟩ = false ∧ W1.cell? ⟨w.heap.size + 2, 2, none⟩ = some v := by
  have hlt := lt_block h.2.2.2.2
  have hf : ∀ k, k < w.heap.size + 3 → W1.heap[k]? = W.heap[k]? := fun k hk => hg.block k (by omega) (fun e => by have := (row_lt h.1 e.symm).1; omega)
  have h2 := (hf (w.heap.size + 2) (by omega)).trans h.2.2.2.2
  refine ⟨⟨row_congr ho (fun g hg => heap_set_ne (by have := (row_lt ho hg).1; omega)), (h.2.1.grown hg h.2.1.size (fun k hk => by have := (row_lt h.1 hk).1; omega)).setCell (by show _ ≤ w.heap.size + 2; omega) _, (heap_set_ne (by omega)).trans ((hf _ (by omega)).trans h.2.2.1), (heap_set_ne (by omega)).trans ((hf _ (by omega)).trans h.2.2.2.1), ?_⟩, free_of h2 _, cell_of h2 rfl⟩
  rw [heap_set_eq h2]; rfl
theorem RTu.start {w : World} {R N : Int} {s0 : Value} : RTu w R N s0 (.slice none 0 0) [] (((w.alloc (.cells #[.int .i64 R, .int .i64 N, s0] 27)).alloc (.cells #[.int .i64 0, .int .i64 0, .slice none 0 0] 27)).alloc (.cells #[.int .i64 R, .int .i64 N, .slice none 0 0] 27)) := by
  have e1 : (w.alloc (.cells #[.int .i64 R, .int .i64 N, s0] 27)).heap.size = w.heap.size + 1 := by simp
  have e2 : ((w.alloc (.cells #[.int .i64 R, .int .i64 N, s0] 27)).alloc (.cells #[.int .i64 0, .int .i64 0, .slice none 0 0] 27)).heap.size = w.heap.size + 2 := by simp
  refine ⟨World.ownsRow_nil _ _ _ _, below_then (below_two _ _ _) (below_alloc _ _), ?_, ?_, ?_⟩
  · exact (Below.heap_alloc _ _ _ (by omega)).trans ((Below.heap_alloc _ _ _ (by omega)).trans (heap_alloc_new _ _))
  · refine (Below.heap_alloc _ _ _ (by omega)).trans ?_
    have := heap_alloc_new (w.alloc (.cells #[.int .i64 R, .int .i64 N, s0] 27)) (.cells #[.int .i64 0, .int .i64 0, .slice none 0 0] 27)
    rwa [e1] at this
  · have := heap_alloc_new ((w.alloc (.cells #[.int .i64 R, .int .i64 N, s0] 27)).alloc (.cells #[.int .i64 0, .int .i64 0, .slice none 0 0] 27)) (.cells #[.int .i64 R, .int .i64 N, .slice none 0 0] 27)
    rwa [e2] at this
/-- the result is stored in its box -/
theorem RTu.done {w W : World} {R N : Int} {s0 v : Value} {o : List E} (h : RTu w R N s0 v o W) (u0 u1 u2 : Value) :
    Rd3 (((W.setCell ⟨w.heap.size + 1, 0, none⟩ u0).setCell ⟨w.heap.size + 1, 1, none⟩ u1).setCell ⟨w.heap.size + 1, 2, none⟩ u2) v o ∧ Below w.heap.size w (((W.setCell ⟨w.heap.size + 1, 0, none⟩ u0).setCell ⟨w.heap.size + 1, 1, none⟩ u1).setCell ⟨w.heap.size + 1, 2, none⟩ u2) := by
  have hh : ∀ g : Nat, w.heap.size + 3 ≤ g → (((W.setCell ⟨w.heap.size + 1, 0, none⟩ u0).setCell ⟨w.heap.size + 1, 1, none⟩ u1).setCell ⟨w.heap.size + 1, 2, none⟩ u2).heap[g]? = W.heap[g]? := fun g hg => by
    rw [heap_set_ne (by omega), heap_set_ne (by omega), heap_set_ne (by omega)]
  exact ⟨rd3_own (row_congr h.1 (fun g hg => hh g (row_lt h.1 hg).1)), ((h.2.1.setCell (by show _ ≤ w.heap.size + 1; omega) _).setCell (by show _ ≤ w.heap.size + 1; omega) _).setCell (by show _ ≤ w.heap.size + 1; omega) _⟩

/-- an edge turned round -/
def flp (e : E) : E := (e.2.1, e.1, e.2.2)
end Go.Proofs.Ytmbogobebllheaa

namespace Go.Proofs.Ytmbogobebllheaa
open Go.RowKit GM Go.Sort
set_option linter.unusedSimpArgs false
set_option linter.unusedVariables false
set_option maxHeartbeats 1500000
set_option maxRecDepth 100000

/-- those that are not chosen -/
def notQ (q : E → Bool) (l : List E) : List E := l.filter (fun e => !q e)
theorem notQ_drop {q : E → Bool} {l : List E} {k : Nat} {e : E} (he : l[k]? = some e) (h : q e = true) : notQ q (l.take (k + 1)) = notQ q (l.take k) := by
  unfold notQ
  rw [List.take_add_one, he, List.filter_append]
  simp [h]
end Go.Proofs.Ytmbogobebllheaa

namespace Go.Proofs.Ytmbogobebllheaa
open Go.RowKit GM Go.Sort Go.Lib
set_option linter.unusedSimpArgs false
set_option linter.unusedVariables false
set_option maxHeartbeats 1500000
set_option maxRecDepth 100000

/-- what DeleteFunc keeps from round to round: of the first j places those that are kept lie at the head -/
structure DelInv (q : E → Bool) (l : List E) (j m : Nat) (dk : Array E) : Prop where
  size : dk.size = l.length
  le : m ≤ j
  len : (notQ q (l.take j)).length = m
  low : ∀ i, i < m → (notQ q (l.take j))[i]? = some dk[i]!
  high : ∀ i, j ≤ i → i < l.length → l[i]? = some dk[i]!
theorem DelInv.skip {q : E → Bool} {l : List E} {j m : Nat} {dk : Array E} {x : E} (h : DelInv q l j m dk) (hx : l[j]? = some x) (hq : q x = true) : DelInv q l (j + 1) m dk := by
  have e := notQ_drop hx hq
  exact ⟨h.size, by have := h.le; omega, by rw [e]; exact h.len, fun i hi => by rw [e]; exact h.low i hi, fun i h1 h2 => h.high i (by omega) h2⟩
theorem DelInv.start {q : E → Bool} {l : List E} {k : Nat} (hk : k < l.length) (h : ∀ x ∈ l.take k, q x = false) (hx : ∃ x, l[k]? = some x ∧ q x = true) : DelInv q l (k + 1) k l.toArray := by
  obtain ⟨x, hx, hq⟩ := hx
  have e0 : notQ q (l.take k) = l.take k := List.filter_eq_self.2 fun x hx => by rw [h x hx]; rfl
  have hlen : (l.take k).length = k := by rw [List.length_take]; omega
  have h0 : DelInv q l k k l.toArray := ⟨by simp, Nat.le_refl _, by rw [e0, hlen], fun i hi => by
    rw [e0, List.getElem?_take, if_pos hi, List.getElem?_eq_getElem (by omega)]
    simp [getElem!_def, List.getElem?_eq_getElem (show i < l.length by omega)], fun i h1 h2 => by
    rw [List.getElem?_eq_getElem h2]
    simp [getElem!_def, List.getElem?_eq_getElem h2]⟩
  exact h0.skip hx hq

end Go.Proofs.Ytmbogobebllheaa

namespace Go.Proofs.Ytmbogobebllheaa
open Go.RowKit GM Go.Sort Go.Lib
set_option linter.unusedSimpArgs false
set_option linter.unusedVariables false
set_option maxHeartbeats 1500000
set_option maxRecDepth 100000

theorem heap_at {w : World} {o : Obj} {g : Nat} (h : g = w.heap.size) : (w.alloc o).heap[g]? = some o := by subst h; exact heap_alloc_new _ _
end Go.Proofs.Ytmbogobebllheaa
