/-
  The walk of the reference's Insert: a list of prefixes as memory holds it, one round, the whole.
  The walk of slices.Compact at prefixes.
-/
import Derived.Test.YtegponbmelgngaaMgWb
import Derived.Test.YtegponbmelgngaaMgP
import Derived.Deep.LoopGhost
import Derived.Deep.Draws
import Derived.Shelf.SlSortCmp.WholeK
import Derived.Lib.SliceRun
import Derived.Sort.WalkB12
import Derived.WalkSmall
section
namespace Go.Proofs.Ytegponbmelgngaa
open Go.RowKit
set_option linter.unusedSimpArgs false
set_option linter.unusedVariables false
set_option maxHeartbeats 4000000
set_option maxRecDepth 100000

theorem cmpP_of_lt {x y : PP} (h : ltP x y) : cmpP x.1 x.2 y.1 y.2 = -1 := by
  unfold ltP at h; unfold cmpP
  rcases h with h | ⟨h1, h2⟩
  · rw [if_pos h]
  · rw [if_neg (by omega), if_neg (by omega)]; exact cmpI_lt h2
theorem cmpP_self (x : PP) : cmpP x.1 x.2 x.1 x.2 = 0 := by
  unfold cmpP; rw [if_neg (by omega), if_neg (by omega)]; exact cmpI_eq _
theorem cmpP_of_gt {x y : PP} (h : ltP y x) : cmpP x.1 x.2 y.1 y.2 = 1 := by
  unfold ltP at h; unfold cmpP
  rcases h with h | ⟨h1, h2⟩
  · rw [if_neg (by omega), if_pos h]
  · rw [if_neg (by omega), if_neg (by omega)]; exact cmpI_gt h2

/-- a prefix's two cells -/
def encP (x : PP) : List Value := [.int .u32 (x.1 : Int), .int .i64 x.2]
def flat (l : List PP) : List Value := l.flatMap encP
theorem flat_len (l : List PP) : (flat l).length = l.length * 2 := by
  induction l with
  | nil => rfl
  | cons x r ih => unfold flat at *; rw [List.flatMap_cons, List.length_append, ih, List.length_cons, encP]; simp; omega
theorem flat_snoc (l : List PP) (x : PP) : flat (l ++ [x]) = flat l ++ encP x := by unfold flat; simp
theorem flat_get : ∀ (l : List PP) (k : Nat) (x : PP), l[k]? = some x → (flat l)[k * 2]? = some (.int .u32 (x.1 : Int)) ∧ (flat l)[k * 2 + 1]? = some (.int .i64 x.2)
  | [], k, x, h => by simp at h
  | y :: r, 0, x, h => by simp at h; subst h; simp [flat, encP]
  | y :: r, k + 1, x, h => by
    have ih := flat_get r k x (by simpa using h)
    have e : flat (y :: r) = .int .u32 (y.1 : Int) :: .int .i64 y.2 :: flat r := by simp [flat, encP]
    rw [e, show (k + 1) * 2 = k * 2 + 1 + 1 by omega, show k * 2 + 1 + 1 + 1 = (k * 2 + 1) + 1 + 1 by omega]
    simpa using ih

/-- a slice of prefixes as the memory reads -/
def Rd (w : World) (v : Value) (l : List PP) : Prop :=
  ∃ ad cap, v = .slice ad l.length cap ∧ ∀ k x, l[k]? = some x → ∃ b off, ad = some ⟨b, off, none⟩ ∧ b < w.heap.size ∧ w.cell? ⟨b, off + k * 2, none⟩ = some (.int .u32 (x.1 : Int)) ∧ w.cell? ⟨b, off + k * 2 + 1, none⟩ = some (.int .i64 x.2)
theorem Rd.below {w w' : World} {v : Value} {l : List PP} (h : Rd w v l) (hb : Below w.heap.size w w') : Rd w' v l := by
  obtain ⟨ad, cap, rfl, hc⟩ := h
  refine ⟨ad, cap, rfl, fun k x hk => ?_⟩
  obtain ⟨b, off, e, hlt, h0, h1⟩ := hc k x hk
  exact ⟨b, off, e, Nat.lt_of_lt_of_le hlt hb.size, by rw [hb.cell hlt]; exact h0, by rw [hb.cell hlt]; exact h1⟩
theorem rd_nil (w : World) : Rd w (.slice none 0 0) [] := ⟨none, 0, rfl, fun k x h => by simp at h⟩
theorem rd_own {w : World} {B : Nat} {v : Value} {l : List PP} (h : w.ownsRow B 28 2 v l.length (flat l)) : Rd w v l := by
  rcases h.2 with ⟨rfl, hn⟩ | ⟨g, cap, cur, rfl, hB, hg, hnc, _, _, _⟩
  · obtain rfl := List.length_eq_zero_iff.1 hn
    exact rd_nil w
  · refine ⟨some ⟨g, 0, none⟩, cap, rfl, fun k x hk => ⟨g, 0, rfl, (Array.getElem?_eq_some_iff.1 hg).1, ?_, ?_⟩⟩
    · have hlt := (List.getElem?_eq_some_iff.1 hk).1
      rw [Nat.zero_add, h.cellAt (k * 2) (by omega)]; exact (flat_get l k x hk).1
    · have hlt := (List.getElem?_eq_some_iff.1 hk).1
      rw [Nat.zero_add, h.cellAt (k * 2 + 1) (by omega)]; exact (flat_get l k x hk).2
theorem ownP_below {w w1 : World} {B n e k : Nat} {v : Value} {xs : List Value} (h : w.ownsRow B e k v n xs) (hb : Below w.heap.size w w1) : w1.ownsRow B e k v n xs :=
  ⟨h.1, h.2.imp id (fun ⟨g, cap, cur, a, b, c, d⟩ => ⟨g, cap, cur, a, b, (hb.block g (Array.getElem?_eq_some_iff.1 c).1).trans c, d⟩)⟩
theorem ownP_lt {w : World} {B n e k : Nat} {v : Value} {xs : List Value} (h : w.ownsRow B e k v n xs) {g : Nat} (hg : v.ownBlock = some g) : B ≤ g ∧ g < w.heap.size := by
  rcases h.2 with ⟨rfl, _⟩ | ⟨g', cap, cur, rfl, hb, hc, _⟩
  · simp [Value.ownBlock] at hg
  · simp [Value.ownBlock] at hg; subst hg; exact ⟨hb, (Array.getElem?_eq_some_iff.1 hc).1⟩
theorem infoP_parts {t : TypeId} {z : Value} {a b : Nat} (h : (Try.prog.info? t).map (fun i => (i.zero, i.size, i.bytes)) = some (some z, a, b)) : ∃ i, Try.prog.info? t = some i ∧ i.zero = some z ∧ i.size = a ∧ i.bytes = b := by
  cases hi : Try.prog.info? t with
  | none => rw [hi] at h; cases h
  | some i => rw [hi] at h; simp at h; exact ⟨i, rfl, h.1, h.2.1, h.2.2⟩
theorem cellP_two_new (w : World) (x y : Value) (t : TypeId) {b : Nat} (hb : b = w.heap.size) : ∀ j u, [x, y][j]? = some u → (w.alloc (.cells #[x, y] t)).cell? ((⟨b, 0, none⟩ : Addr).add j) = some u := by
  subst hb
  intro j u hj
  match j, hj with
  | 0, hj => simp at hj; subst hj; simp [Addr.add]
  | 1, hj => simp at hj; subst hj; simp [Addr.add]
  | (j + 2), hj => simp at hj
theorem own_base {w : World} {B B' n : Nat} {v : Value} {xs : List Value} (h : w.ownsRow B' 28 2 v n xs) (hB : B ≤ B') : w.ownsRow B 28 2 v n xs :=
  ⟨h.1, h.2.imp id (fun ⟨g, cap, cur, a, b, c⟩ => ⟨g, cap, cur, a, Nat.le_trans hB b, c⟩)⟩
theorem one_two (a : Nat) (n : Int) : ∀ u ∈ [Value.int .u32 (a : Int), .int .i64 n], u.oneCell' = true := by
  intro u hu; simp at hu; rcases hu with rfl | rfl <;> rfl
theorem info28 : (Try.prog.info? 28).map (fun i => (i.zero, i.size, i.bytes)) = some (some (.agg #[.int .u32 0, .int .i64 0]), 2, 16) := by kernel_rfl

end Go.Proofs.Ytegponbmelgngaa
end

section
namespace Go.Proofs.Ytegponbmelgngaa
open Go.RowKit Go.Sort Go.Lib
set_option linter.unusedSimpArgs false
set_option linter.unusedVariables false
set_option maxHeartbeats 4000000
set_option maxRecDepth 100000

theorem encP_len (x : PP) : (encP x).length = 2 := rfl
theorem encP_one (x : PP) : ∀ v ∈ encP x, v.oneCell' = true := by
  intro v hv; simp [encP] at hv; rcases hv with rfl | rfl <;> rfl
theorem flatK_set (d : Array PP) (i : Nat) (x : PP) (hi : i < d.size) : setMany (flatK encP 2 d) (i * 2) (encP x) = flatK encP 2 (d.setIfInBounds i x) := by
  refine ext_get! (by simp) fun t ht => ?_
  have ht' : t < d.size * 2 := by simpa using ht
  rw [get_setMany _ _ _ t (by simpa using ht'), get_flatK encP 2 (d.setIfInBounds i x) t (by simpa using ht'), encP_len]
  by_cases h : i * 2 ≤ t ∧ t < i * 2 + 2
  · rw [if_pos h]
    have e : t / 2 = i := by omega
    have e2 : t - i * 2 = t % 2 := by omega
    rw [e, e2]
    simp [hi]
  · rw [if_neg h, get_flatK encP 2 d t ht']
    have e : t / 2 ≠ i := by omega
    rw [getElem!_set_other d i (t / 2) _ e]
theorem holds_store {W : World} {blk off : Nat} {d : Array PP} (h : HoldsK encP 2 W blk off d) {i : Nat} (hi : i < d.size) (x : PP) :
    HoldsK encP 2 (W.setCells blk (off + i * 2) (encP x)) blk off (d.setIfInBounds i x) := by
  have e := putRowK_self encP 2 W blk off d h
  have e2 : W.setCells blk (off + i * 2) (encP x) = putRow id W blk off (setMany (flatK encP 2 d) (i * 2) (encP x)) := by
    rw [← setCells_putRow W blk off (encP x) (i * 2) (flatK encP 2 d) (by rw [encP_len, size_flatK]; omega)]
    exact congrArg (fun w => w.setCells blk (off + i * 2) (encP x)) e.symm
  rw [e2, flatK_set d i x hi]
  exact holds_putRow id W blk off (flatK encP 2 d) _ h (by simp)
theorem setCells_below {B : Nat} {w : World} {blk : Nat} (hB : B ≤ blk) : ∀ (vs : List Value) (s : Nat) (W : World), Below B w W → Below B w (W.setCells blk s vs)
  | [], _, _, h => h
  | v :: r, s, W, h => setCells_below hB r (s + 1) _ (h.setCell hB v)
/-- 'clear(s)' of n > 0 elements of two cells each -/
theorem clear_two {P : Program} (w : World) (t e : TypeId) (a b : Value) (ht : P.underlying t = some (.slice e)) (hv : ∀ w, (zeroValue e).run P w = .ok (.agg #[a, b]) w) (ha : a.oneCell' = true) (hb : b.oneCell' = true) (blk o n c : Nat) (hn : 0 < n)
    (hc : ∀ j, j < n * 2 → (w.cell? ⟨blk, o + j, none⟩).isSome = true) (hf : ∀ j, j < n * 2 → w.frozen? ⟨blk, o + j, none⟩ = false) :
    ∃ vs : List Value, vs.length = n * 2 ∧ ∀ ty, (Builtin.clear_ #[t] ty #[.slice (some ⟨blk, o, none⟩) n c]).run P w = .ok (.tuple #[]) (w.setCells blk o vs) := by
  refine ⟨(Builtin.zeroCells #[a, b] n).toList, by simp [Builtin.zeroCells], fun ty => ?_⟩
  have hl : (Builtin.zeroCells #[a, b] n).toList.length = n * 2 := by simp [Builtin.zeroCells]
  have hst := run_storeCells_cells (P := P) blk o (Builtin.zeroCells #[a, b] n).toList 0 w (by simpa [hl] using hc) (by simpa [hl] using hf) (by
    intro v hv'
    simp [Builtin.zeroCells] at hv'
    obtain ⟨j, hj, rfl⟩ := hv'
    have : j % 2 = 0 ∨ j % 2 = 1 := by omega
    rcases this with h | h <;> simp [h, ha, hb])
  simp only [Nat.add_zero] at hst
  obtain ⟨m, rfl⟩ : ∃ m, n = m + 1 := ⟨n - 1, by omega⟩
  simp [Builtin.clear_, run_underlying ht, hv, Value.cells, hst]

theorem hk_cells {W : World} {blk off : Nat} {d : Array PP} (h : HoldsK encP 2 W blk off d) {i : Nat} (hi : i < d.size) {a : Nat} {n : Int} (hx : d[i]! = (a, n)) :
    W.cell? ⟨blk, off + i * 2, none⟩ = some (.int .u32 (a : Int)) ∧ W.cell? ⟨blk, off + i * 2 + 1, none⟩ = some (.int .i64 n) ∧ W.frozen? ⟨blk, off + i * 2, none⟩ = false ∧ W.frozen? ⟨blk, off + i * 2 + 1, none⟩ = false := by
  have h0 := h.cell hi (c := 0) (by omega)
  have h1 := h.cell hi (c := 1) (by omega)
  rw [hx] at h0 h1
  exact ⟨h0.1, h1.1, h0.2, h1.2⟩
theorem pp_ne {a b : Nat} {n m : Int} (h : (a, n) ≠ (b, m)) : ((a : Int) == (b : Int)) = false ∨ (a = b ∧ (n == m) = false) := by
  by_cases e : a = b
  · subst e
    exact .inr ⟨rfl, by simp; intro g; exact h (by rw [g])⟩
  · exact .inl (by simp; omega)
theorem flatK_flat (l : List PP) : flatK encP 2 l.toArray = (flat l).toArray := by
  refine ext_get! (by simp [flat_len]) fun t ht => ?_
  have ht' : t < l.length * 2 := by simpa using ht
  rw [get_flatK _ _ _ t (by simpa using ht')]
  have hk : t / 2 < l.length := by omega
  have f := flat_get l (t / 2) _ (List.getElem?_eq_getElem hk)
  have g : (flat l).toArray[t]! = (flat l)[t]'(by rw [flat_len]; omega) := by simp [flat_len, ht']
  have hx : (l.toArray[t / 2]! : PP) = l[t / 2] := by simp [hk]
  rw [hx, g]
  rcases (by omega : t % 2 = 0 ∨ t % 2 = 1) with e | e
  · have ej : t / 2 * 2 = t := by omega
    rw [ej] at f
    have := (List.getElem?_eq_some_iff.1 f.1).2
    rw [this, e]; rfl
  · have ej : t / 2 * 2 + 1 = t := by omega
    rw [ej] at f
    have := (List.getElem?_eq_some_iff.1 f.2).2
    rw [this, e]; rfl
theorem holds_of {W : World} {blk off : Nat} {l : List PP} (h : ∀ i x, l[i]? = some x → W.cell? ⟨blk, off + i * 2, none⟩ = some (.int .u32 (x.1 : Int)) ∧ W.cell? ⟨blk, off + i * 2 + 1, none⟩ = some (.int .i64 x.2) ∧ W.frozen? ⟨blk, off + i * 2, none⟩ = false ∧ W.frozen? ⟨blk, off + i * 2 + 1, none⟩ = false) : HoldsK encP 2 W blk off l.toArray := by
  unfold HoldsK
  rw [flatK_flat]
  intro j hj
  have hj' : j < l.length * 2 := by simpa [flat_len] using hj
  have hk : j / 2 < l.length := by omega
  obtain ⟨h0, h1, h2, h3⟩ := h (j / 2) _ (List.getElem?_eq_getElem hk)
  have f := flat_get l (j / 2) _ (List.getElem?_eq_getElem hk)
  have g : (flat l).toArray[j]! = (flat l)[j]'(by rw [flat_len]; exact hj') := by simp [flat_len, hj']
  rw [g]
  rcases (by omega : j % 2 = 0 ∨ j % 2 = 1) with e | e
  · have ej : j / 2 * 2 = j := by omega
    rw [ej] at f h0 h2
    have := (List.getElem?_eq_some_iff.1 f.1).2
    rw [this]; exact ⟨h0, h2⟩
  · have ej : j / 2 * 2 + 1 = j := by omega
    rw [Nat.add_assoc, ej] at h1 h3
    rw [ej] at f
    have := (List.getElem?_eq_some_iff.1 f.2).2
    rw [this]; exact ⟨h1, h3⟩
/-- a slice over a row at a block that may be written -/
def OwnAt (blk off : Nat) (w : World) (v : Value) (l : List PP) : Prop :=
  ∃ cap, v = .slice (some ⟨blk, off, none⟩) l.length cap ∧ l.length ≤ cap ∧ HoldsK encP 2 w blk off l.toArray ∧ blk < w.heap.size
theorem holds_below {w W : World} {blk off : Nat} {d : Array PP} (h : HoldsK encP 2 w blk off d) (hb : Below w.heap.size w W) (hlt : blk < w.heap.size) : HoldsK encP 2 W blk off d := fun j hj =>
  ⟨by rw [hb.cell hlt]; exact (h j hj).1, by rw [hb.frozen hlt]; exact (h j hj).2⟩
theorem own_of_holds {W : World} {blk off cap : Nat} {d dk : Array PP} {k : Nat} (hI : CompInv d d.size k dk) (hcap : k ≤ cap) (h : ∀ i, i < k → W.cell? ⟨blk, off + i * 2, none⟩ = some (.int .u32 (dk[i]!.1 : Int)) ∧ W.cell? ⟨blk, off + i * 2 + 1, none⟩ = some (.int .i64 dk[i]!.2) ∧ W.frozen? ⟨blk, off + i * 2, none⟩ = false ∧ W.frozen? ⟨blk, off + i * 2 + 1, none⟩ = false) (hb : blk < W.heap.size) :
    OwnAt blk off W (.slice (some ⟨blk, off, none⟩) k cap) (compactUpTo d d.size) := by
  refine ⟨cap, by rw [hI.len], by rw [hI.len]; exact hcap, holds_of fun i x hx => ?_, hb⟩
  have hi : i < k := by have := (List.getElem?_eq_some_iff.1 hx).1; rwa [hI.len] at this
  have := hI.low i hi
  rw [hx] at this
  have e : x = dk[i]! := Option.some.inj this
  rw [e]; exact h i hi

theorem compact_any (blk off cap : Nat) (d : Array PP) (w : World) (hH : HoldsK encP 2 w blk off d) (hsz : d.size ≤ 4294967296) (hcap : d.size ≤ cap) (hblk : blk < w.heap.size) :
    Calls Try.prog 133 #[.slice (some ⟨blk, off, none⟩) d.size cap] w fun e w' => ∃ v', e = .returned v' ∧ OwnAt blk off w' v' (compactUpTo d d.size) ∧ Below blk w w' := by
  have same : ∀ W, Below w.heap.size w W → (∀ j, j < d.size → keeps d j = true) → OwnAt blk off W (.slice (some ⟨blk, off, none⟩) d.size cap) (compactUpTo d d.size) := by
    intro W hb hall
    have e : compactUpTo d d.size = d.toList := by rw [compactUpTo_all d _ hall, range_map_get]
    rw [e]
    exact ⟨cap, by simp, by simpa using hcap, by simpa using holds_below hH hb hblk, Nat.lt_of_lt_of_le hblk hb.size⟩
  have HS : Hid (∀ W, Below w.heap.size w W → (∀ j, j < d.size → keeps d j = true) → OwnAt blk off W (.slice (some ⟨blk, off, none⟩) d.size cap) (compactUpTo d d.size)) := same
  have HH : Hid (HoldsK encP 2 w blk off d) := hH
  clear same hH
  by_cases h2 : d.size < 2
  · go_enter Try.func133, Try.ntmps133
    go_wp2
    go_ret
    exact ⟨_, rfl, HS.out _ (Below.refl _ _) (fun j hj => keeps_lt_one d j (by omega)), Below.refl _ _⟩
  · go_enter Try.func133, Try.ntmps133
    go_wp2
    go_loopg [3] d.size (fun g s3 wr => ∃ k : Nat, 1 ≤ k ∧ k ≤ d.size ∧ d.size - k ≤ g ∧ s3 = .int .i64 k ∧ Hid (HoldsK encP 2 wr blk off d ∧ Below w.heap.size w wr) ∧ ∀ j, j < k → keeps d j = true)
    case atStart => exact ⟨1, Nat.le_refl _, by omega, by omega, rfl, ⟨HH.out, Below.refl _ _⟩, keeps_lt_one d⟩
    case round =>
      obtain ⟨k, hk1, hk, hg, rfl, HW, hall⟩ := hrel
      have HA : Hid (∀ j, j < k → keeps d j = true) := hall
      clear hall
      by_cases hlt : k < d.size
      · obtain ⟨⟨a, n⟩, hx⟩ : ∃ x, d[k]! = x := ⟨_, rfl⟩
        obtain ⟨⟨b, m⟩, hy⟩ : ∃ x, d[k - 1]! = x := ⟨_, rfl⟩
        obtain ⟨c0, c1, c2, c3⟩ := hk_cells HW.out.1 hlt hx
        obtain ⟨p0, p1, p2, p3⟩ := hk_cells HW.out.1 (show k - 1 < d.size by omega) hy
        have HX := Lib.hid (And.intro hx hy)
        clear hx hy
        by_cases hdup : (a, n) = (b, m)
        · obtain ⟨rfl, rfl⟩ := Prod.mk.inj hdup
          clear hdup
          go_wp2_with fail
          go_quiet (fail)
          go_wp2
          clear c0 c1 c2 c3 p0 p1 p2 p3
          go_loopg [3, 5] d.size (fun g s3 s5 wr => ∃ (kk k2 : Nat) (dk : Array PP), s3 = .int .i64 kk ∧ s5 = .int .i64 k2 ∧ 1 ≤ k2 ∧ k + k2 ≤ d.size ∧ d.size - (k + k2) ≤ g ∧ Hid (HoldsK encP 2 wr blk off dk ∧ Below blk w wr) ∧ CompInv d (k + k2) kk dk)
          case atStart => exact ⟨k, 1, d, rfl, rfl, Nat.le_refl _, by omega, by omega, ⟨HW.out.1, (below_drewN HW.out.2 _).mono (by omega)⟩, CompInv.start HA.out (keeps_neg (by omega) (by rw [HX.out.1, HX.out.2]))⟩
          case round =>
            obtain ⟨kk, k2, dk, rfl, rfl, h1, hle, hg2, HV, hI⟩ := hrel
            have hkk := hI.lt
            have hds := hI.size
            have I2 : Hid (CompInv d (k + k2) kk dk) := hI
            clear hI
            by_cases hlt2 : k + k2 < d.size
            · obtain ⟨⟨ua, un⟩, hu⟩ : ∃ x, d[k + k2]! = x := ⟨_, rfl⟩
              obtain ⟨⟨va, vn⟩, hv⟩ : ∃ x, d[k + k2 - 1]! = x := ⟨_, rfl⟩
              obtain ⟨⟨oa, on⟩, ho⟩ : ∃ x, dk[kk]! = x := ⟨_, rfl⟩
              obtain ⟨c0, c1, c2, c3⟩ := hk_cells HV.out.1 (show k + k2 < dk.size by omega) ((I2.out.high (k + k2) (by omega)).trans hu)
              obtain ⟨p0, p1, p2, p3⟩ := hk_cells HV.out.1 (show k + k2 - 1 < dk.size by omega) ((I2.out.high (k + k2 - 1) (by omega)).trans hv)
              obtain ⟨o0, o1, o2, o3⟩ := hk_cells HV.out.1 (show kk < dk.size by omega) ho
              rw [show off + (k + k2) * 2 = off + k * 2 + k2 * 2 by omega] at c0 c1 c2 c3
              rw [show off + (k + k2 - 1) * 2 = off + k * 2 + (k2 - 1) * 2 by omega] at p0 p1 p2 p3
              have HU := Lib.hid (And.intro hu hv)
              clear hu hv ho
              by_cases huv : (ua, un) = (va, vn)
              · obtain ⟨rfl, rfl⟩ := Prod.mk.inj huv
                clear huv
                go_wp2_with fail
                go_quiet (fail)
                go_wp2
                go_roundg (d.size - (k + (k2 + 1)))
                case measure => omega
                case rel => exact ⟨kk, k2 + 1, dk, rfl, by go_num, by omega, by omega, Nat.le_refl _, ⟨HV.out.1, below_drewN HV.out.2 _⟩, I2.out.skip (keeps_neg (by omega) (by rw [HU.out.1, HU.out.2]))⟩
              · have HD := Lib.hid huv
                rcases pp_ne huv with h | ⟨rfl, h⟩
                · clear huv
                  go_wp2_with fail
                  go_quiet (fail)
                  go_wp2
                  go_roundg (d.size - (k + (k2 + 1)))
                  case measure => omega
                  case rel => exact ⟨kk + 1, k2 + 1, dk.setIfInBounds kk (ua, un), by go_num, by go_num, by omega, by omega, Nat.le_refl _, ⟨holds_store (W := wr.drewN _) HV.out.1 (by omega) (ua, un), setCells_below (Nat.le_refl _) (encP (ua, un)) _ (wr.drewN _) (below_drewN HV.out.2 _)⟩, by have := I2.out.keep hlt2 (keeps_pos (by rw [HU.out.1, HU.out.2]; exact HD.out)); rwa [HU.out.1] at this⟩
                · clear huv
                  go_wp2_with fail
                  go_quiet (fail)
                  go_wp2
                  go_roundg (d.size - (k + (k2 + 1)))
                  case measure => omega
                  case rel => exact ⟨kk + 1, k2 + 1, dk.setIfInBounds kk (ua, un), by go_num, by go_num, by omega, by omega, Nat.le_refl _, ⟨holds_store (W := wr.drewN _) HV.out.1 (by omega) (ua, un), setCells_below (Nat.le_refl _) (encP (ua, un)) _ (wr.drewN _) (below_drewN HV.out.2 _)⟩, by have := I2.out.keep hlt2 (keeps_pos (by rw [HU.out.1, HU.out.2]; exact HD.out)); rwa [HU.out.1] at this⟩
            · have hend : k + k2 = d.size := by omega
              have hI := I2.out
              rw [hend] at hI
              obtain ⟨vs, hvl, hcl⟩ := clear_two (P := Try.prog) wr 22 28 (.int .u32 0) (.int .i64 0) Try.underlying22 Try.zeroValue28 rfl rfl blk (off + kk * 2) (d.size - kk) (cap - kk) (by omega)
                (fun j hj => by rw [show off + kk * 2 + j = off + (kk * 2 + j) by omega, (HV.out.1 (kk * 2 + j) (by rw [size_flatK]; omega)).1]; rfl) (fun j hj => by rw [show off + kk * 2 + j = off + (kk * 2 + j) by omega]; exact (HV.out.1 (kk * 2 + j) (by rw [size_flatK]; omega)).2)
              have H2 := Lib.hid hI
              have HL := Lib.hid hvl
              clear hI hvl
              go_wp2
              go_ret
              have hsz2 : blk < (wr.setCells blk (off + kk * 2) vs).heap.size := Nat.lt_of_lt_of_le hblk (setCells_below (w := w) (Nat.le_refl _) vs (off + kk * 2) wr HV.out.2).size
              have hkk2 : kk ≤ cap := by omega
              refine ⟨_, rfl, own_of_holds H2.out hkk2 (fun i hi => ?_) hsz2, setCells_below (Nat.le_refl _) vs (off + kk * 2) wr HV.out.2⟩
              obtain ⟨⟨ia, im⟩, hx⟩ : ∃ x, dk[i]! = x := ⟨_, rfl⟩
              have hc := hk_cells HV.out.1 (show i < dk.size by omega) hx
              rw [hx]
              exact ⟨(World.cell?_setCells_out blk vs _ wr ⟨blk, off + i * 2, none⟩ (fun _ _ => .inl (by show off + i * 2 < off + kk * 2; omega))).trans hc.1, (World.cell?_setCells_out blk vs _ wr ⟨blk, off + i * 2 + 1, none⟩ (fun _ _ => .inl (by show off + i * 2 + 1 < off + kk * 2; omega))).trans hc.2.1,
                (World.frozen?_setCells blk vs _ wr _).trans hc.2.2.1, (World.frozen?_setCells blk vs _ wr _).trans hc.2.2.2⟩
        · have HD := Lib.hid hdup
          rcases pp_ne hdup with h | ⟨rfl, h⟩
          · clear hdup
            go_wp2_with fail
            go_quiet (fail)
            go_wp2
            go_roundg (d.size - (k + 1))
            case measure => omega
            case rel =>
              refine ⟨k + 1, by omega, by omega, Nat.le_refl _, by go_num, ⟨HW.out.1, below_drewN HW.out.2 _⟩, fun j hj => ?_⟩
              by_cases e : j = k
              · subst e
                exact keeps_pos (by rw [HX.out.1, HX.out.2]; exact HD.out)
              · exact HA.out j (by omega)
          · clear hdup
            go_wp2_with fail
            go_quiet (fail)
            go_wp2
            go_roundg (d.size - (k + 1))
            case measure => omega
            case rel =>
              refine ⟨k + 1, by omega, by omega, Nat.le_refl _, by go_num, ⟨HW.out.1, below_drewN HW.out.2 _⟩, fun j hj => ?_⟩
              by_cases e : j = k
              · subst e
                exact keeps_pos (by rw [HX.out.1, HX.out.2]; exact HD.out)
              · exact HA.out j (by omega)
      · have hkd : k = d.size := by omega
        go_wp2
        go_ret
        exact ⟨_, rfl, HS.out _ HW.out.2 (fun j hj => HA.out j (by omega)), HW.out.2.mono (by omega)⟩
end Go.Proofs.Ytegponbmelgngaa
end
