/-
  Rows of edges: how they lie in memory, what stores do to them, clearing, compaction.
-/
import Derived.Test.YtiodpgannelgpaaGrA
import Derived.Shelf.SlSortCmp.WholeK
import Derived.Lib.SliceRun
import Derived.Lib.SlicesCompact
import Derived.Sort.WalkB12
import Derived.WalkSmall
import Derived.Deep.LoopGhost
import Derived.Deep.Draws
namespace Go.Proofs.Ytiodpgannelgpaa
open Go.RowKit GM Go.Sort Go.Lib
set_option linter.unusedSimpArgs false
set_option linter.unusedVariables false
set_option maxHeartbeats 4000000
set_option maxRecDepth 100000

def encE (x : E) : List Value := [.int .i64 x.1, .int .i64 x.2.1, .int .i64 x.2.2]
def flatE (l : List E) : List Value := l.flatMap encE
theorem encE_len (x : E) : (encE x).length = 3 := rfl
theorem encE_one (x : E) : ∀ v ∈ encE x, v.oneCell' = true := by
  intro v hv; simp [encE] at hv; rcases hv with rfl | rfl | rfl <;> rfl
theorem flatE_len (l : List E) : (flatE l).length = l.length * 3 := by
  induction l with
  | nil => rfl
  | cons x r ih => unfold flatE at *; rw [List.flatMap_cons, List.length_append, ih, List.length_cons, encE]; simp; omega
theorem flatE_snoc (l : List E) (x : E) : flatE (l ++ [x]) = flatE l ++ encE x := by unfold flatE; simp
theorem flatE_get : ∀ (l : List E) (k : Nat) (x : E), l[k]? = some x → (flatE l)[k * 3]? = some (.int .i64 x.1) ∧ (flatE l)[k * 3 + 1]? = some (.int .i64 x.2.1) ∧ (flatE l)[k * 3 + 2]? = some (.int .i64 x.2.2)
  | [], k, x, h => by simp at h
  | y :: r, 0, x, h => by simp at h; subst h; simp [flatE, encE]
  | y :: r, k + 1, x, h => by
    have ih := flatE_get r k x (by simpa using h)
    have e : flatE (y :: r) = .int .i64 y.1 :: .int .i64 y.2.1 :: .int .i64 y.2.2 :: flatE r := by simp [flatE, encE]
    rw [e, show (k + 1) * 3 = k * 3 + 1 + 1 + 1 by omega, show k * 3 + 1 + 1 + 1 + 1 = (k * 3 + 1) + 1 + 1 + 1 by omega, show k * 3 + 1 + 1 + 1 + 2 = (k * 3 + 2) + 1 + 1 + 1 by omega]
    simpa using ih
theorem flatE_one (l : List E) : ∀ u ∈ flatE l, u.oneCell' = true := by
  intro u hu
  obtain ⟨x, _, hx⟩ := List.mem_flatMap.1 hu
  exact encE_one x u hx
theorem info52 : (Try.prog.info? 52).map (fun i => (i.zero, i.size, i.bytes)) = some (some (.agg #[.int .i64 0, .int .i64 0, .int .i64 0]), 3, 24) := by kernel_rfl
theorem info3 : (Try.prog.info? 3).map (fun i => (i.zero, i.size, i.bytes)) = some (some (.int .i64 0), 1, 8) := by kernel_rfl
theorem infoE_parts {t : TypeId} {z : Value} {a b : Nat} (h : (Try.prog.info? t).map (fun i => (i.zero, i.size, i.bytes)) = some (some z, a, b)) : ∃ i, Try.prog.info? t = some i ∧ i.zero = some z ∧ i.size = a ∧ i.bytes = b := by
  cases hi : Try.prog.info? t with
  | none => rw [hi] at h; cases h
  | some i => rw [hi] at h; simp at h; exact ⟨i, rfl, h.1, h.2.1, h.2.2⟩
theorem rd3_own {w : World} {B : Nat} {v : Value} {l : List E} (h : w.ownsRow B 52 3 v l.length (flatE l)) : Rd3 w v l := by
  rcases h.2 with ⟨rfl, hn⟩ | ⟨g, cap, cur, rfl, hB, hg, hnc, hcm, _, _⟩
  · obtain rfl := List.length_eq_zero_iff.1 hn
    exact rd3_nil w
  · refine ⟨some ⟨g, 0, none⟩, cap, rfl, hnc, by unfold maxLen at hcm; omega, fun k x hk => ⟨g, 0, rfl, (Array.getElem?_eq_some_iff.1 hg).1, ?_, ?_, ?_⟩⟩
    · have hlt := (List.getElem?_eq_some_iff.1 hk).1
      rw [Nat.zero_add, h.cellAt (k * 3) (by omega)]; exact (flatE_get l k x hk).1
    · have hlt := (List.getElem?_eq_some_iff.1 hk).1
      rw [Nat.zero_add, h.cellAt (k * 3 + 1) (by omega)]; exact (flatE_get l k x hk).2.1
    · have hlt := (List.getElem?_eq_some_iff.1 hk).1
      rw [Nat.zero_add, h.cellAt (k * 3 + 2) (by omega)]; exact (flatE_get l k x hk).2.2
theorem ownE_below {w w1 : World} {B n e k : Nat} {v : Value} {xs : List Value} (h : w.ownsRow B e k v n xs) (hb : Below w.heap.size w w1) : w1.ownsRow B e k v n xs :=
  ⟨h.1, h.2.imp id (fun ⟨g, cap, cur, a, b, c, d⟩ => ⟨g, cap, cur, a, b, (hb.block g (Array.getElem?_eq_some_iff.1 c).1).trans c, d⟩)⟩
theorem ownE_lt {w : World} {B n e k : Nat} {v : Value} {xs : List Value} (h : w.ownsRow B e k v n xs) {g : Nat} (hg : v.ownBlock = some g) : B ≤ g ∧ g < w.heap.size := by
  rcases h.2 with ⟨rfl, _⟩ | ⟨g', cap, cur, rfl, hb, hc, _⟩
  · simp [Value.ownBlock] at hg
  · simp [Value.ownBlock] at hg; subst hg; exact ⟨hb, (Array.getElem?_eq_some_iff.1 hc).1⟩
theorem ownE_base {w : World} {B B' n e k : Nat} {v : Value} {xs : List Value} (h : w.ownsRow B' e k v n xs) (hB : B ≤ B') : w.ownsRow B e k v n xs :=
  ⟨h.1, h.2.imp id (fun ⟨g, cap, cur, a, b, c⟩ => ⟨g, cap, cur, a, Nat.le_trans hB b, c⟩)⟩
theorem cellE_new (w : World) (x y z : Value) (t : TypeId) {b : Nat} (hb : b = w.heap.size) : ∀ j u, [x, y, z][j]? = some u → (w.alloc (.cells #[x, y, z] t)).cell? ((⟨b, 0, none⟩ : Addr).add j) = some u := by
  subst hb
  intro j u hj
  match j, hj with
  | 0, hj => simp at hj; subst hj; simp [Addr.add]
  | 1, hj => simp at hj; subst hj; simp [Addr.add]
  | 2, hj => simp at hj; subst hj; simp [Addr.add]
  | (j + 3), hj => simp at hj
theorem flatE_set (d : Array E) (i : Nat) (x : E) (hi : i < d.size) : setMany (flatK encE 3 d) (i * 3) (encE x) = flatK encE 3 (d.setIfInBounds i x) := by
  refine ext_get! (by simp) fun t ht => ?_
  have ht' : t < d.size * 3 := by simpa using ht
  rw [get_setMany _ _ _ t (by simpa using ht'), get_flatK encE 3 (d.setIfInBounds i x) t (by simpa using ht'), encE_len]
  by_cases h : i * 3 ≤ t ∧ t < i * 3 + 3
  · rw [if_pos h]
    have e : t / 3 = i := by omega
    have e2 : t - i * 3 = t % 3 := by omega
    rw [e, e2]
    simp [hi]
  · rw [if_neg h, get_flatK encE 3 d t ht']
    have e : t / 3 ≠ i := by omega
    rw [getElem!_set_other d i (t / 3) _ e]
theorem holdsE_store {W : World} {blk off : Nat} {d : Array E} (h : HoldsK encE 3 W blk off d) {i : Nat} (hi : i < d.size) (x : E) :
    HoldsK encE 3 (W.setCells blk (off + i * 3) (encE x)) blk off (d.setIfInBounds i x) := by
  have e := putRowK_self encE 3 W blk off d h
  have e2 : W.setCells blk (off + i * 3) (encE x) = putRow id W blk off (setMany (flatK encE 3 d) (i * 3) (encE x)) := by
    rw [← setCells_putRow W blk off (encE x) (i * 3) (flatK encE 3 d) (by rw [encE_len, size_flatK]; omega)]
    exact congrArg (fun w => w.setCells blk (off + i * 3) (encE x)) e.symm
  rw [e2, flatE_set d i x hi]
  exact holds_putRow id W blk off (flatK encE 3 d) _ h (by simp)
theorem setCells_below {B : Nat} {w : World} {blk : Nat} (hB : B ≤ blk) : ∀ (vs : List Value) (s : Nat) (W : World), Below B w W → Below B w (W.setCells blk s vs)
  | [], _, _, h => h
  | v :: r, s, W, h => setCells_below hB r (s + 1) _ (h.setCell hB v)
/-- 'clear(s)' of n > 0 elements of three cells each -/
theorem clear_three {P : Program} (w : World) (t e : TypeId) (a b c : Value) (ht : P.underlying t = some (.slice e)) (hv : ∀ w, (zeroValue e).run P w = .ok (.agg #[a, b, c]) w) (ha : a.oneCell' = true) (hb : b.oneCell' = true) (hc' : c.oneCell' = true) (blk o n cap : Nat) (hn : 0 < n)
    (hc : ∀ j, j < n * 3 → (w.cell? ⟨blk, o + j, none⟩).isSome = true) (hf : ∀ j, j < n * 3 → w.frozen? ⟨blk, o + j, none⟩ = false) :
    ∃ vs : List Value, vs.length = n * 3 ∧ ∀ ty, (Builtin.clear_ #[t] ty #[.slice (some ⟨blk, o, none⟩) n cap]).run P w = .ok (.tuple #[]) (w.setCells blk o vs) := by
  refine ⟨(Builtin.zeroCells #[a, b, c] n).toList, by simp [Builtin.zeroCells], fun ty => ?_⟩
  have hl : (Builtin.zeroCells #[a, b, c] n).toList.length = n * 3 := by simp [Builtin.zeroCells]
  have hst := run_storeCells_cells (P := P) blk o (Builtin.zeroCells #[a, b, c] n).toList 0 w (by simpa [hl] using hc) (by simpa [hl] using hf) (by
    intro v hv'
    simp [Builtin.zeroCells] at hv'
    obtain ⟨j, hj, rfl⟩ := hv'
    have : j % 3 = 0 ∨ j % 3 = 1 ∨ j % 3 = 2 := by omega
    rcases this with h | h | h <;> simp [h, ha, hb, hc'])
  simp only [Nat.add_zero] at hst
  obtain ⟨m, rfl⟩ : ∃ m, n = m + 1 := ⟨n - 1, by omega⟩
  simp [Builtin.clear_, run_underlying ht, hv, Value.cells, hst]
theorem he_cells {W : World} {blk off : Nat} {d : Array E} (h : HoldsK encE 3 W blk off d) {i : Nat} (hi : i < d.size) {a b c : Int} (hx : d[i]! = (a, b, c)) :
    (W.cell? ⟨blk, off + i * 3, none⟩ = some (.int .i64 a) ∧ W.cell? ⟨blk, off + i * 3 + 1, none⟩ = some (.int .i64 b) ∧ W.cell? ⟨blk, off + i * 3 + 2, none⟩ = some (.int .i64 c)) ∧ W.frozen? ⟨blk, off + i * 3, none⟩ = false ∧ W.frozen? ⟨blk, off + i * 3 + 1, none⟩ = false ∧ W.frozen? ⟨blk, off + i * 3 + 2, none⟩ = false := by
  have h0 := h.cell hi (c := 0) (by omega)
  have h1 := h.cell hi (c := 1) (by omega)
  have h2 := h.cell hi (c := 2) (by omega)
  rw [hx] at h0 h1 h2
  exact ⟨⟨h0.1, h1.1, h2.1⟩, h0.2, h1.2, h2.2⟩
theorem flatK_flatE (l : List E) : flatK encE 3 l.toArray = (flatE l).toArray := by
  refine ext_get! (by simp [flatE_len]) fun t ht => ?_
  have ht' : t < l.length * 3 := by simpa using ht
  rw [get_flatK _ _ _ t (by simpa using ht')]
  have hk : t / 3 < l.length := by omega
  have f := flatE_get l (t / 3) _ (List.getElem?_eq_getElem hk)
  have g : (flatE l).toArray[t]! = (flatE l)[t]'(by rw [flatE_len]; omega) := by simp [flatE_len, ht']
  have hx : (l.toArray[t / 3]! : E) = l[t / 3] := by simp [hk]
  rw [hx, g]
  rcases (by omega : t % 3 = 0 ∨ t % 3 = 1 ∨ t % 3 = 2) with e | e | e
  · have ej : t / 3 * 3 = t := by omega
    have f := f.1
    rw [ej] at f
    have := (List.getElem?_eq_some_iff.1 f).2
    rw [this, e]; rfl
  · have ej : t / 3 * 3 + 1 = t := by omega
    have f := f.2.1
    rw [ej] at f
    have := (List.getElem?_eq_some_iff.1 f).2
    rw [this, e]; rfl
  · have ej : t / 3 * 3 + 2 = t := by omega
    have f := f.2.2
    rw [ej] at f
    have := (List.getElem?_eq_some_iff.1 f).2
    rw [this, e]; rfl
theorem holdsE_of {W : World} {blk off : Nat} {l : List E} (h : ∀ i x, l[i]? = some x → (W.cell? ⟨blk, off + i * 3, none⟩ = some (.int .i64 x.1) ∧ W.cell? ⟨blk, off + i * 3 + 1, none⟩ = some (.int .i64 x.2.1) ∧ W.cell? ⟨blk, off + i * 3 + 2, none⟩ = some (.int .i64 x.2.2)) ∧ W.frozen? ⟨blk, off + i * 3, none⟩ = false ∧ W.frozen? ⟨blk, off + i * 3 + 1, none⟩ = false ∧ W.frozen? ⟨blk, off + i * 3 + 2, none⟩ = false) : HoldsK encE 3 W blk off l.toArray := by
  unfold HoldsK
  rw [flatK_flatE]
  intro j hj
  have hj' : j < l.length * 3 := by simpa [flatE_len] using hj
  have hk : j / 3 < l.length := by omega
  obtain ⟨⟨h0, h1, h2⟩, h3, h4, h5⟩ := h (j / 3) _ (List.getElem?_eq_getElem hk)
  have f := flatE_get l (j / 3) _ (List.getElem?_eq_getElem hk)
  have g : (flatE l).toArray[j]! = (flatE l)[j]'(by rw [flatE_len]; exact hj') := by simp [flatE_len, hj']
  rw [g]
  rcases (by omega : j % 3 = 0 ∨ j % 3 = 1 ∨ j % 3 = 2) with e | e | e
  · have ej : j / 3 * 3 = j := by omega
    have f := f.1
    rw [ej] at f h0 h3
    have := (List.getElem?_eq_some_iff.1 f).2
    rw [this]; exact ⟨h0, h3⟩
  · have ej : j / 3 * 3 + 1 = j := by omega
    have f := f.2.1
    rw [Nat.add_assoc, ej] at h1 h4
    rw [ej] at f
    have := (List.getElem?_eq_some_iff.1 f).2
    rw [this]; exact ⟨h1, h4⟩
  · have ej : j / 3 * 3 + 2 = j := by omega
    have f := f.2.2
    rw [Nat.add_assoc, ej] at h2 h5
    rw [ej] at f
    have := (List.getElem?_eq_some_iff.1 f).2
    rw [this]; exact ⟨h2, h5⟩
theorem holdsE_below {w W : World} {blk off : Nat} {d : Array E} (h : HoldsK encE 3 w blk off d) (hb : Below w.heap.size w W) (hlt : blk < w.heap.size) : HoldsK encE 3 W blk off d := fun j hj =>
  ⟨by rw [hb.cell hlt]; exact (h j hj).1, by rw [hb.frozen hlt]; exact (h j hj).2⟩
theorem holdsE_own {w : World} {B g cap : Nat} {l : List E} (h : w.ownsRow B 52 3 (.slice (some ⟨g, 0, none⟩) l.length cap) l.length (flatE l)) : HoldsK encE 3 w g 0 l.toArray := by
  unfold HoldsK
  rw [flatK_flatE]
  intro j hj
  have hj' : j < l.length * 3 := by simpa [flatE_len] using hj
  rw [Nat.zero_add]
  refine ⟨?_, h.frozenAt j⟩
  rw [h.cellAt j hj']
  simp [flatE_len, hj']
/-- a slice over a row at a block that may be written -/
def OwnE (blk off : Nat) (w : World) (v : Value) (l : List E) : Prop :=
  ∃ cap, v = .slice (some ⟨blk, off, none⟩) l.length cap ∧ l.length ≤ cap ∧ cap ≤ 9223372036854775807 ∧ HoldsK encE 3 w blk off l.toArray ∧ blk < w.heap.size
theorem OwnE.cells {blk off : Nat} {w : World} {v : Value} {l : List E} (h : OwnE blk off w v l) : ∀ i x, l[i]? = some x → (w.cell? ⟨blk, off + i * 3, none⟩ = some (.int .i64 x.1) ∧ w.cell? ⟨blk, off + i * 3 + 1, none⟩ = some (.int .i64 x.2.1) ∧ w.cell? ⟨blk, off + i * 3 + 2, none⟩ = some (.int .i64 x.2.2)) ∧ w.frozen? ⟨blk, off + i * 3, none⟩ = false ∧ w.frozen? ⟨blk, off + i * 3 + 1, none⟩ = false ∧ w.frozen? ⟨blk, off + i * 3 + 2, none⟩ = false := by
  obtain ⟨cap, rfl, hc, _, hh, hb⟩ := h
  intro i x hx
  obtain ⟨hi, he⟩ := List.getElem?_eq_some_iff.1 hx
  exact he_cells hh (i := i) (by simpa using hi) (by simp [hi, he])
theorem OwnE.rd {blk off : Nat} {w : World} {v : Value} {l : List E} (h : OwnE blk off w v l) : Rd3 w v l := by
  have hc := h.cells
  obtain ⟨cap, rfl, h1, h2, _, hb⟩ := h
  exact ⟨some ⟨blk, off, none⟩, cap, rfl, h1, h2, fun i x hx => ⟨blk, off, rfl, hb, (hc i x hx).1⟩⟩
/-- a slice over a row of the call's own: nil, or a block from B on that may be written -/
def OwnS (B : Nat) (w : World) (v : Value) (l : List E) : Prop := (v = .slice none 0 0 ∧ l = []) ∨ ∃ g, B ≤ g ∧ OwnE g 0 w v l
theorem OwnS.rd {B : Nat} {w : World} {v : Value} {l : List E} (h : OwnS B w v l) : Rd3 w v l := by
  rcases h with ⟨rfl, rfl⟩ | ⟨g, _, h⟩
  · exact rd3_nil _
  · exact h.rd
theorem OwnE.below {blk off : Nat} {w W : World} {v : Value} {l : List E} (h : OwnE blk off w v l) (hb : Below w.heap.size w W) : OwnE blk off W v l := by
  obtain ⟨cap, rfl, h1, h2, h3, h4⟩ := h
  exact ⟨cap, rfl, h1, h2, holdsE_below h3 hb h4, Nat.lt_of_lt_of_le h4 hb.size⟩
theorem OwnS.below {B : Nat} {w W : World} {v : Value} {l : List E} (h : OwnS B w v l) (hb : Below w.heap.size w W) : OwnS B W v l := by
  rcases h with h | ⟨g, h1, h⟩
  · exact .inl h
  · exact .inr ⟨g, h1, h.below hb⟩
theorem OwnE.setCell {blk off g o : Nat} {w : World} {v u : Value} {l : List E} (h : OwnE blk off w v l) (hn : blk ≠ g) : OwnE blk off (w.setCell ⟨g, o, none⟩ u) v l := by
  obtain ⟨cap, rfl, h1, h2, h3, h4⟩ := h
  have hb : (w.setCell ⟨g, o, none⟩ u).heap[blk]? = w.heap[blk]? := heap_set_ne hn
  exact ⟨cap, rfl, h1, h2, fun j hj => ⟨(World.cell?_of_block hb).trans (h3 j hj).1, by have := (h3 j hj).2; simpa [World.frozen?, hb] using this⟩, by simpa using h4⟩
theorem OwnS.setCell {B g o : Nat} {w : World} {v u : Value} {l : List E} (h : OwnS B w v l) (hn : g < B) : OwnS B (w.setCell ⟨g, o, none⟩ u) v l := by
  rcases h with h | ⟨k, h1, h⟩
  · exact .inl h
  · exact .inr ⟨k, h1, h.setCell (by omega)⟩
theorem OwnS.mono {B B' : Nat} {w : World} {v : Value} {l : List E} (h : OwnS B w v l) (hb : B' ≤ B) : OwnS B' w v l := by
  rcases h with h | ⟨k, h1, h⟩
  · exact .inl h
  · exact .inr ⟨k, by omega, h⟩

/-- of the first m places those that kp chooses -/
def pickU (kp : Nat → Bool) (d : Array E) (m : Nat) : List E := ((List.range m).filter kp).map (d[·]!)
theorem pickU_succ (kp : Nat → Bool) (d : Array E) (m : Nat) : pickU kp d (m + 1) = pickU kp d m ++ (if kp m then [d[m]!] else []) := by
  unfold pickU
  rw [List.range_succ, List.filter_append, List.map_append]
  congr 1
  by_cases h : kp m <;> simp [h]
theorem pickU_all (kp : Nat → Bool) (d : Array E) (m : Nat) (h : ∀ j, j < m → kp j = true) : pickU kp d m = (List.range m).map (d[·]!) := by
  unfold pickU
  rw [List.filter_eq_self.2 (fun j hj => h j (List.mem_range.1 hj))]
theorem pickU_whole (kp : Nat → Bool) (d : Array E) (h : ∀ j, j < d.size → kp j = true) : pickU kp d d.size = d.toList := by rw [pickU_all kp d _ h, range_map_get]
theorem pickU_le (kp : Nat → Bool) (d : Array E) (m : Nat) : (pickU kp d m).length ≤ m := by
  unfold pickU
  rw [List.length_map]
  exact Nat.le_trans (List.length_filter_le _ _) (by simp)
theorem mem_pickU {kp : Nat → Bool} {d : Array E} {m : Nat} {x : E} : x ∈ pickU kp d m ↔ ∃ j, j < m ∧ kp j = true ∧ d[j]! = x := by
  unfold pickU
  simp only [List.mem_map, List.mem_filter, List.mem_range]
  constructor
  · rintro ⟨j, ⟨a, b⟩, c⟩; exact ⟨j, a, b, c⟩
  · rintro ⟨j, a, b, c⟩; exact ⟨j, ⟨a, b⟩, c⟩
/-- m places have been looked at; the chosen ones, k elements, lie at the head; from place k on the row is as it was -/
structure PickInv (kp : Nat → Bool) (d : Array E) (m k : Nat) (dk : Array E) : Prop where
  size : dk.size = d.size
  len : (pickU kp d m).length = k
  lt : k < m
  low : ∀ j, j < k → (pickU kp d m)[j]? = some dk[j]!
  high : ∀ j, k ≤ j → dk[j]! = d[j]!
theorem PickInv.start {kp : Nat → Bool} {d : Array E} {k0 : Nat} (hall : ∀ j, j < k0 → kp j = true) (hdup : kp k0 = false) : PickInv kp d (k0 + 1) k0 d where
  size := rfl
  len := by rw [pickU_succ, hdup, pickU_all kp d k0 hall]; simp
  lt := Nat.lt_succ_self _
  low := fun j hj => by rw [pickU_succ, hdup, pickU_all kp d k0 hall]; simp [hj]
  high := fun _ _ => rfl
theorem PickInv.keep {kp : Nat → Bool} {d dk : Array E} {m k : Nat} (h : PickInv kp d m k dk) (hm : m < d.size) (hk : kp m = true) : PickInv kp d (m + 1) (k + 1) (dk.setIfInBounds k d[m]!) where
  size := by simp [h.size]
  len := by rw [pickU_succ, hk]; simp [h.len]
  lt := by have := h.lt; omega
  low := fun j hj => by
    rw [pickU_succ, hk, if_pos rfl]
    by_cases e : j = k
    · subst e
      rw [List.getElem?_append_right (by rw [h.len]; exact Nat.le_refl _), h.len, Nat.sub_self, getElem!_set_same dk j _ (by have := h.lt; have := h.size; omega)]
      rfl
    · rw [List.getElem?_append_left (by rw [h.len]; omega), h.low j (by omega), getElem!_set_other dk k j _ e]
  high := fun j hj => by rw [getElem!_set_other dk k j _ (by omega), h.high j (by omega)]
theorem PickInv.skip {kp : Nat → Bool} {d dk : Array E} {m k : Nat} (h : PickInv kp d m k dk) (hk : kp m = false) : PickInv kp d (m + 1) k dk where
  size := h.size
  len := by rw [pickU_succ, hk]; simpa using h.len
  lt := by have := h.lt; omega
  low := fun j hj => by rw [pickU_succ, hk]; simpa using h.low j hj
  high := h.high
theorem own_of_pick {W : World} {blk off cap : Nat} {kp : Nat → Bool} {d dk : Array E} {k : Nat} (hI : PickInv kp d d.size k dk) (hcap : k ≤ cap) (hcap2 : cap ≤ 9223372036854775807) (h : ∀ i, i < k → (W.cell? ⟨blk, off + i * 3, none⟩ = some (.int .i64 dk[i]!.1) ∧ W.cell? ⟨blk, off + i * 3 + 1, none⟩ = some (.int .i64 dk[i]!.2.1) ∧ W.cell? ⟨blk, off + i * 3 + 2, none⟩ = some (.int .i64 dk[i]!.2.2)) ∧ W.frozen? ⟨blk, off + i * 3, none⟩ = false ∧ W.frozen? ⟨blk, off + i * 3 + 1, none⟩ = false ∧ W.frozen? ⟨blk, off + i * 3 + 2, none⟩ = false) (hb : blk < W.heap.size) :
    OwnE blk off W (.slice (some ⟨blk, off, none⟩) k cap) (pickU kp d d.size) := by
  refine ⟨cap, by rw [hI.len], by rw [hI.len]; exact hcap, hcap2, holdsE_of fun i x hx => ?_, hb⟩
  have hi : i < k := by have := (List.getElem?_eq_some_iff.1 hx).1; rwa [hI.len] at this
  have := hI.low i hi
  rw [hx] at this
  have e : x = dk[i]! := Option.some.inj this
  rw [e]; exact h i hi
end Go.Proofs.Ytiodpgannelgpaa
