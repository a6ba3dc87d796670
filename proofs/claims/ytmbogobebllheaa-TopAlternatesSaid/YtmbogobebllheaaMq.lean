/-
  Rows of integers that stand in a row, in memory; the rows of a tree of shortest paths while it grows. The contracts of the library's functions on integers, laid at this program's numbers. The walks of SameInts, of the library's Equal, of Rows and EqualFunc, of both Same. Shortest paths as mathematics: the edges that begin at a node stand one after the other. A number put into an ascending row of integers: the library's BinarySearch and Insert, and the program's insert. The walk of the library's Repeat at one number. The walks of turn and of leaving: for each node the edges that begin at it. A region whose order is drawn, by one invariant over what has been done. The walk of start: a tree in which only the root is reached. The walks of Same, the program's and the reference's, and a tree as memory reads. How a tree is opened as an argument.
-/
import Derived.Test.YtmbogobebllheaaMh
import Derived.Test.YtmbogobebllheaaMm
import Derived.Shelf.Bits.Mul64
import Derived.Shelf.Slices.Turned
import Derived.Shelf.Slices.Equal
import Derived.Ground.Names2Prog
import Derived.Shelf.Slices.Clone
import Derived.Shelf.Slices.SearchI
import Derived.Shelf.Spec.SlicesInsert
import Derived.Shelf.Spec.SlicesInsertGrow
import Derived.Shelf.Slices.Empties
import Derived.Shelf.Slices.Empties2
import Derived.Test.YtmbogobebllheaaProg
import Derived.Test.YtmbogobebllheaaMg
import Derived.Deep.DeepCutAuto
import Derived.Deep.OwnRows
import Derived.Deep.RegionHeld
namespace Go.Proofs.Ytmbogobebllheaa
open Go.RowKit HM SP
set_option linter.unusedSimpArgs false
set_option linter.unusedVariables false
set_option maxHeartbeats 4000000
set_option maxRecDepth 100000

def gVl (vs : List Value) (v : Nat) : Value := vs[v]?.getD (.slice none 0 0)
theorem gVl_get {vs : List Value} {p : Nat} (h : p < vs.length) : vs[p]? = some (gVl vs p) := by unfold gVl; simp [h]
theorem gVl_set {vs : List Value} {q p : Nat} {x : Value} (hq : q < vs.length) : gVl (vs.set q x) p = if p = q then x else gVl vs p := by
  unfold gVl; rw [List.getElem?_set]
  by_cases h : q = p
  · subst h; simp [hq]
  · rw [if_neg h, if_neg (fun e => h e.symm)]
def rblk (vs : List Value) : List Nat := vs.flatMap vblk
theorem mem_rblk {vs : List Value} {g : Nat} : g ∈ rblk vs ↔ ∃ v, v < vs.length ∧ (gVl vs v).ownBlock = some g := by
  unfold rblk
  rw [List.mem_flatMap]
  constructor
  · rintro ⟨x, h1, h2⟩
    obtain ⟨v, hv⟩ := List.getElem?_of_mem h1
    have hl := (List.getElem?_eq_some_iff.1 hv).1
    refine ⟨v, hl, ?_⟩
    rw [gVl_get hl] at hv; cases hv
    exact mem_vblk.1 h2
  · rintro ⟨v, h1, h2⟩
    exact ⟨gVl vs v, List.mem_of_getElem? (gVl_get h1), mem_vblk.2 h2⟩
/-- values of rows: each its own row of integers, no two in one block -/
structure RS (w : World) (vs : List Value) (rows : List (List Int)) : Prop where
  len : vs.length = rows.length
  row : ∀ v, v < rows.length → w.ownsRow 0 3 1 (gVl vs v) (gL rows v).length (ints (gL rows v))
  dis : ∀ u v g, u < rows.length → v < rows.length → (gVl vs u).ownBlock = some g → (gVl vs v).ownBlock = some g → u = v
section
variable {w w' : World} {vs : List Value} {rows : List (List Int)}
theorem RS.congr (h : RS w vs rows) (hk : ∀ g ∈ rblk vs, w'.heap[g]? = w.heap[g]?) : RS w' vs rows :=
  ⟨h.len, fun v hv => row_congr (h.row v hv) fun g hg => hk g (mem_rblk.2 ⟨v, by rw [h.len]; exact hv, hg⟩), h.dis⟩
theorem RS.lt (h : RS w vs rows) : ∀ g ∈ rblk vs, g < w.heap.size := fun g hg => by
  obtain ⟨v, h1, h2⟩ := mem_rblk.1 hg
  exact (row_lt (h.row v (by rw [← h.len]; exact h1)) h2).2
theorem RS.nils (w : World) (n : Nat) : RS w (List.replicate n (.slice none 0 0)) (List.replicate n []) := by
  have e : ∀ v, gVl (List.replicate n (.slice none 0 0)) v = .slice none 0 0 := fun v => by
    unfold gVl; rw [List.getElem?_replicate]; split <;> rfl
  have e2 : ∀ v, gL (List.replicate n ([] : List Int)) v = [] := fun v => by
    unfold gL; rw [List.getElem?_replicate]; split <;> rfl
  refine ⟨by simp, fun v hv => ?_, fun u v g _ _ h1 _ => ?_⟩
  · rw [e, e2]; exact World.ownsRow_nil _ _ _ _
  · rw [e] at h1; cases h1
theorem RS.put (h : RS w vs rows) {v : Nat} (hv : v < rows.length) {x : Value} {r : List Int} (hk : Kp (vblk (gVl vs v)) w w') (hr : w'.ownsRow 0 3 1 x r.length (ints r)) (hb : ∀ g, x.ownBlock = some g → (gVl vs v).ownBlock = some g ∨ w.heap.size ≤ g) : RS w' (vs.set v x) (rows.set v r) := by
  have hvl : v < vs.length := by rw [h.len]; exact hv
  refine ⟨by simp [h.len], fun u hu => ?_, fun u1 u2 g h1 h2 h3 h4 => ?_⟩
  · rw [List.length_set] at hu
    rw [gVl_set hvl, gL_set hv]
    by_cases e : u = v
    · rw [if_pos e, if_pos e]; exact hr
    · rw [if_neg e, if_neg e]
      exact row_kp (h.row u hu) hk fun g hg hm => e (h.dis u v g hu hv hg (mem_vblk.1 hm))
  · rw [List.length_set] at h1 h2
    rw [gVl_set hvl] at h3 h4
    have key : ∀ u, u < rows.length → u ≠ v → (gVl vs u).ownBlock = some g → x.ownBlock = some g → False := fun u hu hne hg hx => by
      rcases hb g hx with h5 | h5
      · exact hne (h.dis u v g hu hv hg h5)
      · have := (row_lt (h.row u hu) hg).2; omega
    by_cases e1 : u1 = v
    · by_cases e2 : u2 = v
      · rw [e1, e2]
      · rw [if_pos e1] at h3; rw [if_neg e2] at h4
        exact (key u2 h2 e2 h4 h3).elim
    · by_cases e2 : u2 = v
      · rw [if_neg e1] at h3; rw [if_pos e2] at h4
        exact (key u1 h1 e1 h3 h4).elim
      · rw [if_neg e1] at h3; rw [if_neg e2] at h4
        exact h.dis u1 u2 g h1 h2 h3 h4
theorem rblk_set {v : Nat} (hv : v < vs.length) {x : Value} {g : Nat} (hg : g ∈ rblk (vs.set v x)) : x.ownBlock = some g ∨ g ∈ rblk vs := by
  obtain ⟨u, h1, h2⟩ := mem_rblk.1 hg
  rw [List.length_set] at h1
  rw [gVl_set hv] at h2
  by_cases e : u = v
  · rw [if_pos e] at h2; exact .inl h2
  · rw [if_neg e] at h2; exact .inr (mem_rblk.2 ⟨u, h1, h2⟩)
theorem vblk_rblk {v : Nat} (hv : v < vs.length) {g : Nat} (hg : g ∈ vblk (gVl vs v)) : g ∈ rblk vs := mem_rblk.2 ⟨v, hv, mem_vblk.1 hg⟩
end
/-- the rows of a tree -/
structure TR (w : World) (D H P n : Nat) (dist : List Int) (hv pv : List Value) (hops pars : List (List Int)) : Prop where
  rd : w.ownsRow 0 3 1 (.slice (some ⟨D, 0, none⟩) n n) n (ints dist)
  rh : w.ownsRow 0 35 1 (.slice (some ⟨H, 0, none⟩) n n) n hv
  rp : w.ownsRow 0 35 1 (.slice (some ⟨P, 0, none⟩) n n) n pv
  hh : RS w hv hops
  pp : RS w pv pars
  dh : D ≠ H
  dp : D ≠ P
  hp : H ≠ P
  xh : ∀ g ∈ rblk hv, g ≠ D ∧ g ≠ H ∧ g ≠ P
  xp : ∀ g ∈ rblk pv, g ≠ D ∧ g ≠ H ∧ g ≠ P
  x : ∀ g ∈ rblk hv, g ∉ rblk pv
def trB (D H P : Nat) (hv pv : List Value) : List Nat := D :: H :: P :: (rblk hv ++ rblk pv)
section
variable {w w' : World} {D H P n : Nat} {dist : List Int} {hv pv : List Value} {hops pars : List (List Int)}
theorem TR.swap (h : TR w D H P n dist hv pv hops pars) : TR w D P H n dist pv hv pars hops :=
  ⟨h.rd, h.rp, h.rh, h.pp, h.hh, h.dp, h.dh, Ne.symm h.hp, fun g hg => ⟨(h.xp g hg).1, (h.xp g hg).2.2, (h.xp g hg).2.1⟩, fun g hg => ⟨(h.xh g hg).1, (h.xh g hg).2.2, (h.xh g hg).2.1⟩, fun g h1 h2 => h.x g h2 h1⟩
theorem TR.ld (h : TR w D H P n dist hv pv hops pars) : dist.length = n := by have := h.rd.1; rw [ints_len] at this; omega
theorem TR.lhv (h : TR w D H P n dist hv pv hops pars) : hv.length = n := by have := h.rh.1; omega
theorem TR.lh (h : TR w D H P n dist hv pv hops pars) : hops.length = n := by rw [← h.hh.len]; exact h.lhv
theorem TR.lp (h : TR w D H P n dist hv pv hops pars) : pars.length = n := h.swap.lh
theorem TR.lpv (h : TR w D H P n dist hv pv hops pars) : pv.length = n := h.swap.lhv
theorem TR.congr (h : TR w D H P n dist hv pv hops pars) (hk : ∀ g ∈ trB D H P hv pv, w'.heap[g]? = w.heap[g]?) : TR w' D H P n dist hv pv hops pars :=
  ⟨row_congr h.rd fun g hg => hk g (by simp [Value.ownBlock] at hg; simp [trB, hg]), row_congr h.rh fun g hg => hk g (by simp [Value.ownBlock] at hg; simp [trB, hg]), row_congr h.rp fun g hg => hk g (by simp [Value.ownBlock] at hg; simp [trB, hg]),
    h.hh.congr fun g hg => hk g (by simp [trB, hg]), h.pp.congr fun g hg => hk g (by simp [trB, hg]), h.dh, h.dp, h.hp, h.xh, h.xp, h.x⟩
theorem TR.lt (h : TR w D H P n dist hv pv hops pars) : ∀ g ∈ trB D H P hv pv, g < w.heap.size := fun g hg => by
  simp only [trB, List.mem_cons, List.mem_append] at hg
  rcases hg with rfl | rfl | rfl | hg | hg
  · exact (row_lt h.rd rfl).2
  · exact (row_lt h.rh rfl).2
  · exact (row_lt h.rp rfl).2
  · exact h.hh.lt g hg
  · exact h.pp.lt g hg
theorem TR.below (h : TR w D H P n dist hv pv hops pars) (k : Below w.heap.size w w') : TR w' D H P n dist hv pv hops pars := h.congr fun g hg => k.block g (h.lt g hg)
theorem TR.kp {S : List Nat} (h : TR w D H P n dist hv pv hops pars) (k : Kp S w w') (hn : ∀ g ∈ trB D H P hv pv, g ∉ S) : TR w' D H P n dist hv pv hops pars := h.congr fun g hg => k.block g (h.lt g hg) (hn g hg)
theorem TR.cd (h : TR w D H P n dist hv pv hops pars) {v : Nat} (hvn : v < n) : w.cell? ⟨D, v, none⟩ = some (.int .i64 (gI dist v)) := by
  rw [h.rd.cellAt v (by omega)]; exact ints_get (gI_get (by rw [h.ld]; exact hvn))
theorem TR.ch (h : TR w D H P n dist hv pv hops pars) {v : Nat} (hvn : v < n) : w.cell? ⟨H, v, none⟩ = some (gVl hv v) := by
  rw [h.rh.cellAt v (by omega)]; exact gVl_get (by rw [h.lhv]; exact hvn)
theorem TR.cp (h : TR w D H P n dist hv pv hops pars) {v : Nat} (hvn : v < n) : w.cell? ⟨P, v, none⟩ = some (gVl pv v) := h.swap.ch hvn
theorem TR.fd (h : TR w D H P n dist hv pv hops pars) (o : Nat) : w.frozen? ⟨D, o, none⟩ = false := h.rd.frozenAt o
theorem TR.fh (h : TR w D H P n dist hv pv hops pars) (o : Nat) : w.frozen? ⟨H, o, none⟩ = false := h.rh.frozenAt o
theorem TR.fp (h : TR w D H P n dist hv pv hops pars) (o : Nat) : w.frozen? ⟨P, o, none⟩ = false := h.rp.frozenAt o
theorem TR.setD (h : TR w D H P n dist hv pv hops pars) (v : Nat) (d : Int) : TR (w.setCell ⟨D, v, none⟩ (.int .i64 d)) D H P n (dist.set v d) hv pv hops pars := by
  have hs := (h.rd.stored v (.int .i64 d)).1
  rw [ints_set] at hs
  exact ⟨hs, row_congr h.rh fun g hg => heap_set_ne (by simp [Value.ownBlock] at hg; subst hg; exact Ne.symm h.dh), row_congr h.rp fun g hg => heap_set_ne (by simp [Value.ownBlock] at hg; subst hg; exact Ne.symm h.dp),
    h.hh.congr fun g hg => heap_set_ne (h.xh g hg).1, h.pp.congr fun g hg => heap_set_ne (h.xp g hg).1, h.dh, h.dp, h.hp, h.xh, h.xp, h.x⟩
/-- another row of hops -/
theorem TR.putH (h : TR w D H P n dist hv pv hops pars) {v : Nat} (hvn : v < n) {x : Value} {r : List Int} (hk : Kp (vblk (gVl hv v)) w w') (hr : w'.ownsRow 0 3 1 x r.length (ints r)) (hb : ∀ g, x.ownBlock = some g → (gVl hv v).ownBlock = some g ∨ w.heap.size ≤ g) :
    TR (w'.setCell ⟨H, v, none⟩ x) D H P n dist (hv.set v x) pv (hops.set v r) pars := by
  have hvl : v < hv.length := by rw [h.lhv]; exact hvn
  have hvo : v < hops.length := by rw [h.lh]; exact hvn
  have hin : ∀ g, g ∈ vblk (gVl hv v) → g ≠ D ∧ g ≠ H ∧ g ≠ P := fun g hg => h.xh g (vblk_rblk hvl hg)
  have lD := (row_lt h.rd rfl).2
  have lH := (row_lt h.rh rfl).2
  have lP := (row_lt h.rp rfl).2
  dsimp only at lD lH lP
  have hx : ∀ g ∈ rblk (hv.set v x), (g ≠ D ∧ g ≠ H ∧ g ≠ P) ∧ g ∉ rblk pv := fun g hg => by
    rcases rblk_set hvl hg with h1 | h1
    · rcases hb g h1 with h2 | h2
      · have := vblk_rblk hvl (mem_vblk.2 h2)
        exact ⟨h.xh g this, h.x g this⟩
      · exact ⟨⟨by omega, by omega, by omega⟩, fun hp => by have := h.pp.lt g hp; omega⟩
    · exact ⟨h.xh g h1, h.x g h1⟩
  have hbx : ∀ g, x.ownBlock = some g → g ≠ H := fun g hg => (hx g (mem_rblk.2 ⟨v, by rw [List.length_set]; exact hvl, by rw [gVl_set hvl, if_pos rfl]; exact hg⟩)).1.2.1
  have k1 : ∀ g, g < w.heap.size → g ∉ vblk (gVl hv v) → g ≠ H → (w'.setCell ⟨H, v, none⟩ x).heap[g]? = w.heap[g]? := fun g h1 h2 h3 => (heap_set_ne h3).trans (hk.block g h1 h2)
  have rs := h.hh.put hvo hk hr hb
  have hH := row_kp h.rh hk (fun g hg => by simp [Value.ownBlock] at hg; subst hg; exact fun hm => (hin _ hm).2.1 rfl)
  exact ⟨row_congr h.rd fun g hg => by simp [Value.ownBlock] at hg; subst hg; exact k1 _ lD (fun hm => (hin _ hm).1 rfl) h.dh,
    (hH.stored v x).1,
    row_congr h.rp fun g hg => by simp [Value.ownBlock] at hg; subst hg; exact k1 _ lP (fun hm => (hin _ hm).2.2 rfl) (Ne.symm h.hp),
    rs.congr fun g hg => heap_set_ne (hx g hg).1.2.1,
    h.pp.congr fun g hg => k1 g (h.pp.lt g hg) (fun hm => h.x g (vblk_rblk hvl hm) hg) (h.xp g hg).2.1,
    h.dh, h.dp, h.hp, fun g hg => (hx g hg).1, h.xp, fun g hg => (hx g hg).2⟩
theorem TR.putHB (h : TR w D H P n dist hv pv hops pars) {v : Nat} (hvn : v < n) {x : Value} (hb : ∀ g, x.ownBlock = some g → (gVl hv v).ownBlock = some g ∨ w.heap.size ≤ g) : ∀ g ∈ trB D H P (hv.set v x) pv, g ∈ trB D H P hv pv ∨ w.heap.size ≤ g := fun g hg => by
  have hvl : v < hv.length := by rw [h.lhv]; exact hvn
  simp only [trB, List.mem_cons, List.mem_append] at hg ⊢
  rcases hg with rfl | rfl | rfl | hg | hg
  · simp
  · simp
  · simp
  · rcases rblk_set hvl hg with h1 | h1
    · rcases hb g h1 with h2 | h2
      · have := vblk_rblk hvl (mem_vblk.2 h2); simp [this]
      · exact .inr h2
    · simp [h1]
  · simp [hg]
theorem TR.putHK (h : TR w D H P n dist hv pv hops pars) {v : Nat} (hvn : v < n) {x : Value} (hk : Kp (vblk (gVl hv v)) w w') : Kp (trB D H P hv pv) w (w'.setCell ⟨H, v, none⟩ x) := by
  have hvl : v < hv.length := by rw [h.lhv]; exact hvn
  exact (hk.mono fun g hg => by simp [trB, vblk_rblk hvl hg]).setCell (.inl (by simp [trB]))
theorem trB_swap {g : Nat} : g ∈ trB D P H pv hv ↔ g ∈ trB D H P hv pv := by
  simp only [trB, List.mem_cons, List.mem_append]; constructor <;> (intro h; rcases h with h | h | h | h | h <;> simp [h])
theorem TR.putP (h : TR w D H P n dist hv pv hops pars) {v : Nat} (hvn : v < n) {x : Value} {r : List Int} (hk : Kp (vblk (gVl pv v)) w w') (hr : w'.ownsRow 0 3 1 x r.length (ints r)) (hb : ∀ g, x.ownBlock = some g → (gVl pv v).ownBlock = some g ∨ w.heap.size ≤ g) :
    TR (w'.setCell ⟨P, v, none⟩ x) D H P n dist hv (pv.set v x) hops (pars.set v r) := (h.swap.putH hvn hk hr hb).swap
theorem TR.putPB (h : TR w D H P n dist hv pv hops pars) {v : Nat} (hvn : v < n) {x : Value} (hb : ∀ g, x.ownBlock = some g → (gVl pv v).ownBlock = some g ∨ w.heap.size ≤ g) : ∀ g ∈ trB D H P hv (pv.set v x), g ∈ trB D H P hv pv ∨ w.heap.size ≤ g := fun g hg => by
  have := h.swap.putHB hvn hb g (trB_swap.2 hg)
  rwa [trB_swap] at this
theorem TR.putPK (h : TR w D H P n dist hv pv hops pars) {v : Nat} (hvn : v < n) {x : Value} (hk : Kp (vblk (gVl pv v)) w w') : Kp (trB D H P hv pv) w (w'.setCell ⟨P, v, none⟩ x) := (h.swap.putHK hvn hk).mono fun g hg => trB_swap.1 hg
theorem TR.drewN (h : TR w D H P n dist hv pv hops pars) (q : Nat) : TR (w.drewN q) D H P n dist hv pv hops pars := h.congr fun _ _ => rfl
end
end Go.Proofs.Ytmbogobebllheaa
namespace Go.Proofs
open Go.Shelf
open Go.RowKit Go.Lib in
def Try.lays212_ren : Go.Shelf.Ren := ⟨fun | 212 => 172 | 263 => 187 | 264 => 188 | n => n, fun | 46 => 165 | 51 => 56 | 146 => 197 | 53 => 185 | 148 => 199 | n => n, fun | n => n⟩
theorem Try.lays212 : Go.Proofs.Lays.n212 Try.prog Try.lays212_ren := {
  mixed := by kernel_rfl
  f212 := Try.func172.trans (congrArg some (by kernel_rfl))
  f263 := Try.func187.trans (congrArg some (by kernel_rfl))
  f264 := Try.func188.trans (congrArg some (by kernel_rfl))
  t46 := Try.underlying165
  a46 := Try.isAgg165
  z46 := Try.sizeOf165
  v46 := Try.zeroValue165
  t51 := Try.underlying56
  a51 := Try.isAgg56
  z51 := Try.sizeOf56
  v51 := Try.zeroValue56
  t53 := Try.underlying185
  a53 := Try.isAgg185
  z53 := Try.sizeOf185
  v53 := Try.zeroValue185
  t146 := Try.underlying197
  a146 := Try.isAgg197
  z146 := Try.sizeOf197
  v146 := Try.zeroValue197
  t148 := Try.underlying199
  a148 := Try.isAgg199
  z148 := Try.sizeOf199
  v148 := Try.zeroValue199 }
open Go.RowKit Go.Lib in
theorem Try.bits_Mul (x y : Nat) (hx : x < 18446744073709551616) (hy : y < 18446744073709551616) (w : World) :
    Calls Try.prog 172 #[.int .u64 x, .int .u64 y] w fun e w' => e = .returned (.tuple #[.int .u64 ((x * y / 18446744073709551616 : Nat) : Int), .int .u64 ((x * y % 18446744073709551616 : Nat) : Int)]) ∧ w' = w := Any.bits_Mul Try.lays212 x y hx hy w
def Try.laysNm215_ren : Go.Shelf.Ren := ⟨fun | 15 => 110 | n => n, fun | 22 => 35 | 3 => 3 | 4 => 4 | n => n, fun | n => n⟩
theorem Try.laysNm215 : Go.Proofs.Lays2.n15 Try.prog Try.laysNm215_ren := {
  mixed := by kernel_rfl
  f15 := Try.func110.trans (congrArg some (by kernel_rfl))
  t3 := Try.underlying3
  a3 := Try.isAgg3
  z3 := Try.sizeOf3
  v3 := Try.zeroValue3
  t4 := Try.underlying4
  a4 := Try.isAgg4
  z4 := Try.sizeOf4
  v4 := Try.zeroValue4
  t22 := Try.underlying35
  a22 := Try.isAgg35
  z22 := Try.sizeOf35
  v22 := Try.zeroValue35
  i3 := by kernel_rfl }
open Go.RowKit Go.Lib in
theorem Try.slices_Clone_int (b off n c : Nat) (zs : List Int) (w : World) (hz : n ≤ zs.length) (hbig : n * 8 ≤ 140737488355328) (hc : ∀ j, j < zs.length → w.cell? ⟨b, off + j, none⟩ = some (.int .i64 (zs.getD j 0))) :
    Calls Try.prog 110 #[.slice (some ⟨b, off, none⟩) n c] w fun e w' => ∃ v', e = .returned v' ∧ w'.ownsRow w.heap.size 3 1 v' n ((zs.take n).map (Value.int .i64)) ∧ v' ≠ .slice none 0 0 ∧ Below w.heap.size w w' := Any.slices_Clone_int Try.laysNm215 b off n c zs w hz hbig hc
open Go.RowKit Go.Lib in
open Go.RowKit Go.Lib in
open Go.RowKit Go.Lib in
open Go.RowKit Go.Lib in
open Go.RowKit Go.Lib in
def Try.laysNm221_ren : Go.Shelf.Ren := ⟨fun | 21 => 154 | 27 => 175 | 28 => 176 | 35 => 189 | 39 => 193 | n => n, fun | 22 => 35 | 3 => 3 | 4 => 4 | 0 => 0 | n => n, fun | n => n⟩
theorem Try.laysNm221 : Go.Proofs.Lays2.n21 Try.prog Try.laysNm221_ren := {
  mixed := by kernel_rfl
  f21 := Try.func154.trans (congrArg some (by kernel_rfl))
  f27 := Try.func175.trans (congrArg some (by kernel_rfl))
  f28 := Try.func176.trans (congrArg some (by kernel_rfl))
  f35 := Try.func189.trans (congrArg some (by kernel_rfl))
  f39 := Try.func193.trans (congrArg some (by kernel_rfl))
  t0 := Try.underlying0
  a0 := Try.isAgg0
  z0 := Try.sizeOf0
  v0 := Try.zeroValue0
  t3 := Try.underlying3
  a3 := Try.isAgg3
  z3 := Try.sizeOf3
  v3 := Try.zeroValue3
  t4 := Try.underlying4
  a4 := Try.isAgg4
  z4 := Try.sizeOf4
  v4 := Try.zeroValue4
  t22 := Try.underlying35
  a22 := Try.isAgg35
  z22 := Try.sizeOf35
  v22 := Try.zeroValue35
  i3 := by kernel_rfl }
def Try.laysNm225_ren : Go.Shelf.Ren := ⟨fun | 25 => 153 | 31 => 173 | 32 => 174 | 37 => 148 | n => n, fun | 22 => 35 | 3 => 3 | 4 => 4 | 40 => 165 | 0 => 0 | n => n, fun | n => n⟩
theorem Try.laysNm225 : Go.Proofs.Lays2.n25 Try.prog Try.laysNm225_ren := {
  mixed := by kernel_rfl
  f25 := Try.func153.trans (congrArg some (by kernel_rfl))
  f31 := Try.func173.trans (congrArg some (by kernel_rfl))
  f32 := Try.func174.trans (congrArg some (by kernel_rfl))
  f37 := Try.func148.trans (congrArg some (by kernel_rfl))
  t0 := Try.underlying0
  a0 := Try.isAgg0
  z0 := Try.sizeOf0
  v0 := Try.zeroValue0
  t3 := Try.underlying3
  a3 := Try.isAgg3
  z3 := Try.sizeOf3
  v3 := Try.zeroValue3
  t4 := Try.underlying4
  a4 := Try.isAgg4
  z4 := Try.sizeOf4
  v4 := Try.zeroValue4
  t22 := Try.underlying35
  a22 := Try.isAgg35
  z22 := Try.sizeOf35
  v22 := Try.zeroValue35
  t40 := Try.underlying165
  a40 := Try.isAgg165
  z40 := Try.sizeOf165
  v40 := Try.zeroValue165 }
open Go.RowKit Go.Lib in
theorem Try.slices_BinarySearch_int (b off n c : Nat) (zs : List Int) (x : Int) (w : World) (hz : n ≤ zs.length) (hbig : n < 4611686018427387904) (hc : ∀ j, j < zs.length → w.cell? ⟨b, off + j, none⟩ = some (.int .i64 (zs.getD j 0))) (hs : (zs.take n).Pairwise (· ≤ ·)) :
    Calls Try.prog 153 #[.slice (some ⟨b, off, none⟩) n c, .int .i64 x] w fun e w' => e = .returned (.tuple #[.int .i64 ((zs.take n).countP (· < x) : Nat), .bool ((zs.take n).contains x)]) ∧ ∃ q, w' = w.drewN q := Any.slices_BinarySearch_int Try.laysNm225 b off n c zs x w hz hbig hc hs
open Go.RowKit Go.Lib in
theorem Try.slices_BinarySearch_int_empty (a : Option Addr) (c : Nat) (x : Int) (w : World) :
    Calls Try.prog 153 #[.slice a 0 c, .int .i64 x] w fun e w' => e = .returned (.tuple #[.int .i64 0, .bool false]) ∧ w' = w := Any.slices_BinarySearch_int_empty Try.laysNm225 a c x w
end Go.Proofs
namespace Go.Proofs.Ytmbogobebllheaa
open Go.RowKit HM GM SP
set_option linter.unusedSimpArgs false
set_option linter.unusedVariables false
set_option maxHeartbeats 4000000
set_option maxRecDepth 100000

/-- rows of integers as memory reads -/
def RdR (w : World) (v : Value) (rows : List (List Int)) : Prop :=
  ∃ ad cap, v = .slice ad rows.length cap ∧ rows.length ≤ cap ∧ cap ≤ 9223372036854775807 ∧ ∀ k r, rows[k]? = some r → ∃ b off u, ad = some ⟨b, off, none⟩ ∧ b < w.heap.size ∧ w.cell? ⟨b, off + k, none⟩ = some u ∧ RdI w u r
theorem RdR.below {w w' : World} {v : Value} {l : List (List Int)} (h : RdR w v l) (hb : Below w.heap.size w w') : RdR w' v l := by
  obtain ⟨ad, cap, rfl, h1, h2, hc⟩ := h
  refine ⟨ad, cap, rfl, h1, h2, fun k x hk => ?_⟩
  obtain ⟨b, off, u, e, hlt, c0, hr⟩ := hc k x hk
  exact ⟨b, off, u, e, Nat.lt_of_lt_of_le hlt hb.size, by rw [hb.cell hlt]; exact c0, hr.below hb⟩
end Go.Proofs.Ytmbogobebllheaa
namespace Go.Proofs.Ytmbogobebllheaa.SP
open GM HM Classical
set_option linter.unusedVariables false
set_option linter.unusedSimpArgs false

/-- ascending by where they begin -/
def Asc1 (l : List E) : Prop := l.Pairwise (fun a b => a.1 ≤ b.1)
theorem Asc1.of {R N : Int} {l : List E} (hv : Valid R N l) : Asc1 l := hv.asc.imp fun {a b} h => by rw [bef_iff] at h; omega
def cntL (l : List E) (u : Int) : Nat := (l.filter (fun e => decide (e.1 < u))).length
theorem outs_app (a b : List E) (u : Int) : outs (a ++ b) u = outs a u ++ outs b u := by unfold outs; simp
theorem cntL_app (a b : List E) (u : Int) : cntL (a ++ b) u = cntL a u + cntL b u := by unfold cntL; simp
theorem asc_split {l : List E} (h : Asc1 l) (u : Int) : ∃ c, l = l.filter (fun e => decide (e.1 < u)) ++ outs l u ++ c ∧ ∀ e ∈ c, u < e.1 := by
  induction l with
  | nil => exact ⟨[], by simp [outs], fun e he => by cases he⟩
  | cons a l ih =>
    obtain ⟨h1, h2⟩ := List.pairwise_cons.1 h
    obtain ⟨c, h3, h4⟩ := ih h2
    rcases Int.lt_trichotomy a.1 u with e | e | e
    · refine ⟨c, ?_, h4⟩
      have e1 : decide (a.1 < u) = true := decide_eq_true e
      have e2 : decide (a.1 = u) = false := decide_eq_false (by omega)
      unfold outs at h3 ⊢
      rw [List.filter_cons_of_pos (by simpa using e), List.filter_cons_of_neg (by simp; omega)]
      rw [List.cons_append, List.cons_append, ← h3]
    · have h5 : l.filter (fun e => decide (e.1 < u)) = [] := List.filter_eq_nil_iff.2 fun x hx => by have := h1 x hx; simp; omega
      refine ⟨c, ?_, h4⟩
      rw [h5] at h3
      unfold outs at h3 ⊢
      rw [List.filter_cons_of_neg (by simp; omega), List.filter_cons_of_pos (by simpa using e), h5]
      simp only [List.nil_append, List.cons_append] at h3 ⊢
      rw [← h3]
    · have h5 : l.filter (fun e => decide (e.1 < u)) = [] := List.filter_eq_nil_iff.2 fun x hx => by have := h1 x hx; simp; omega
      have h6 : outs l u = [] := List.filter_eq_nil_iff.2 fun x hx => by have := h1 x hx; simp; omega
      refine ⟨a :: l, ?_, fun x hx => ?_⟩
      · unfold outs at h6 ⊢
        rw [List.filter_cons_of_neg (by simp; omega), List.filter_cons_of_neg (by simp; omega), h5, h6]; rfl
      · rcases List.mem_cons.1 hx with rfl | hx
        · exact e
        · have := h1 x hx; omega
/-- where they stand -/
theorem outs_at {l : List E} (h : Asc1 l) {u : Int} {j : Nat} {x : E} (hj : (outs l u)[j]? = some x) : l[cntL l u + j]? = some x := by
  obtain ⟨c, h1, _⟩ := asc_split h u
  have hl := (List.getElem?_eq_some_iff.1 hj).1
  have hc : (l.filter (fun e => decide (e.1 < u))).length = cntL l u := rfl
  have hg : ∀ (a b d : List E), a.length = cntL l u → j < b.length → (a ++ b ++ d)[cntL l u + j]? = b[j]? := fun a b d ha hb => by
    rw [List.append_assoc, List.getElem?_append_right (by omega), ha, Nat.add_sub_cancel_left, List.getElem?_append_left hb]
  have h2 := hg _ (outs l u) c hc hl
  rw [← h1] at h2
  rw [h2]; exact hj
theorem outs_take {l : List E} {i : Nat} {e : E} (he : l[i]? = some e) (u : Int) : outs (l.take (i + 1)) u = if e.1 = u then outs (l.take i) u ++ [e] else outs (l.take i) u := by
  have : l.take (i + 1) = l.take i ++ [e] := by rw [List.take_add_one, he]; rfl
  rw [this, outs_app]
  by_cases h : e.1 = u
  · rw [if_pos h]; unfold outs; simp [h]
  · rw [if_neg h]; unfold outs; simp [h]
/-- the place of the first one -/
theorem outs_first {l : List E} (h : Asc1 l) {i : Nat} {e : E} (he : l[i]? = some e) : i = cntL l e.1 + (outs (l.take i) e.1).length := by
  have hi := (List.getElem?_eq_some_iff.1 he).1
  have e0 : l = l.take i ++ l.drop i := (List.take_append_drop i l).symm
  have hd : l.drop i = e :: l.drop (i + 1) := by
    have := (List.getElem?_eq_some_iff.1 he).2
    rw [← this]; exact List.drop_eq_getElem_cons hi
  have hp := h
  rw [Asc1, e0, List.pairwise_append] at hp
  have h1 : cntL (l.drop i) e.1 = 0 := by
    unfold cntL
    rw [List.length_eq_zero_iff, List.filter_eq_nil_iff]
    intro x hx
    rw [hd] at hx
    rcases List.mem_cons.1 hx with rfl | hx
    · simp
    · have h2 := hp.2.1
      rw [hd] at h2
      have := (List.pairwise_cons.1 h2).1 x hx
      simp; omega
  have h2 : cntL l e.1 = cntL (l.take i) e.1 := by
    have e1 := cntL_app (l.take i) (l.drop i) e.1
    rw [List.take_append_drop, h1] at e1
    exact e1
  obtain ⟨c, h3, h4⟩ := asc_split hp.1 e.1
  have hc : c = [] := by
    cases c with
    | nil => rfl
    | cons x c =>
      have hx : x ∈ l.take i := by rw [h3]; simp
      have a1 := hp.2.2 x hx e (by rw [hd]; simp)
      have a2 := h4 x (by simp)
      omega
  have hlen : (l.take i).length = i := by rw [List.length_take]; omega
  rw [h2]
  have := congrArg List.length h3
  rw [hc, List.append_nil, List.length_append, hlen] at this
  exact this
theorem outs_len (l : List E) (u : Int) : (outs l u).length ≤ l.length := List.length_filter_le _ _
/-- an ascending list below n has at most n elements -/
theorem asc_len : ∀ {r : List Int} {n : Nat}, r.Pairwise (· < ·) → (∀ x ∈ r, 0 ≤ x ∧ x < (n : Int)) → r.length ≤ n := by
  intro r n hp hb
  have key : ∀ (r : List Int) (m : Nat), r.Pairwise (· < ·) → (∀ x ∈ r, (m : Int) ≤ x ∧ x < (n : Int)) → m ≤ n → r.length + m ≤ n := by
    intro r
    induction r with
    | nil => intro m _ _ hm; simpa using hm
    | cons a r ih =>
      intro m h1 h2 hm
      obtain ⟨h3, h4⟩ := List.pairwise_cons.1 h1
      have ha := h2 a (by simp)
      have := ih (a.toNat + 1) h4 (fun x hx => by have := h3 x hx; have := h2 x (by simp [hx]); omega) (by omega)
      simp only [List.length_cons]; omega
  have := key r 0 hp (fun x hx => by have := hb x hx; omega) (by omega)
  omega
/-- the number of smaller elements is the place -/
theorem cnt_place {r : List Int} {x : Int} (h : r.Pairwise (· < ·)) (hx : x ∉ r) : r.countP (· < x) ≤ r.length ∧ (∀ i, i < r.countP (· < x) → gI r i < x) ∧ ∀ i, r.countP (· < x) ≤ i → i < r.length → x < gI r i := by
  induction r with
  | nil => simp
  | cons a r ih =>
    obtain ⟨h1, h2⟩ := List.pairwise_cons.1 h
    have hxr : x ∉ r := fun hm => hx (by simp [hm])
    obtain ⟨i1, i2, i3⟩ := ih h2 hxr
    have hne : a ≠ x := fun e => hx (by simp [e])
    by_cases ha : a < x
    · rw [List.countP_cons_of_pos (by simpa using ha)]
      refine ⟨by simp; omega, fun i hi => ?_, fun i hi hl => ?_⟩
      · cases i with
        | zero => exact ha
        | succ i => exact i2 i (by omega)
      · cases i with
        | zero => omega
        | succ i => exact i3 i (by omega) (by simp at hl; omega)
    · have hz : r.countP (· < x) = 0 := List.countP_eq_zero.2 fun y hy => by have := h1 y hy; simp; omega
      rw [List.countP_cons_of_neg (by simpa using ha), hz]
      refine ⟨by omega, fun i hi => by omega, fun i _ hl => ?_⟩
      cases i with
      | zero => show x < a; omega
      | succ i =>
        have hm : gI r i ∈ r := by
          simp at hl
          exact List.mem_of_getElem? (gI_get hl)
        have := h1 _ hm
        show x < gI r i
        omega
theorem HX.node {R N : Int} {l : List E} (hv : Valid R N l) {s : Int} (hs : 0 ≤ s ∧ s < R) {S : Int → Prop} {X : E → Prop} {D D' : Int → Int} (hi : Inv R N l s S X D') {v h : Int} (hh : HX R l s X D v h) : 0 ≤ h ∧ h < R + N := by
  obtain ⟨u, c, h1, _, h3⟩ := hh
  have he := edge hv (hi.sub _ h1).1
  have hN := hv.n
  rcases h3 with ⟨_, rfl⟩ | ⟨k, hk, rfl⟩
  · omega
  · split
    · omega
    · exact (T_way hv hk.2.2.1.2.1).1.node hv (by omega)
theorem PX.node {R N : Int} {l : List E} (hv : Valid R N l) {s : Int} {S : Int → Prop} {X : E → Prop} {D D' : Int → Int} (hi : Inv R N l s S X D') {v u : Int} (hh : PX l s X D v u) : 0 ≤ u ∧ u < R + N := by
  obtain ⟨c, h1, _⟩ := hh
  have he := edge hv (hi.sub _ h1).1
  omega
theorem Hop.node' {R N : Int} {l : List E} (hv : Valid R N l) {s : Int} (hs : 0 ≤ s ∧ s < R) {v h : Int} (hh : Hop R l s v h) : 0 ≤ h ∧ h < R + N := by
  have hN := hv.n
  exact (T_way hv hh.2.2.1.2.1).1.node hv (by omega)
end Go.Proofs.Ytmbogobebllheaa.SP
namespace Go.Proofs.Ytmbogobebllheaa
open Go.RowKit HM SP
set_option linter.unusedSimpArgs false
set_option linter.unusedVariables false
set_option maxHeartbeats 4000000
set_option maxRecDepth 100000

/-- block g is a row of integers with just these cells -/
def RowC (W : World) (g : Nat) (xs : List Value) : Prop := W.heap[g]? = some (.cells xs.toArray 3 (0, 0))
theorem RowC.sets : ∀ (vs : List Value) {W : World} {g : Nat} {a b c : List Value}, b.length = vs.length → RowC W g (a ++ b ++ c) → RowC (W.setCells g a.length vs) g (a ++ vs ++ c)
  | [], W, g, a, b, c, hb, h => by
    have : b = [] := List.length_eq_zero_iff.1 hb
    subst this; exact h
  | v :: vs, W, g, a, [], c, hb, h => by simp at hb
  | v :: vs, W, g, a, b0 :: b, c, hb, h => by
    have h1 : RowC (W.setCell ⟨g, a.length, none⟩ v) g ((a ++ [v]) ++ b ++ c) := by
      unfold RowC at h ⊢
      rw [heap_set_eq h]
      congr 2
      simp
    have h2 := RowC.sets vs (a := a ++ [v]) (by simpa using hb) h1
    have e : (a ++ [v]).length = a.length + 1 := by simp
    rw [e] at h2
    have e2 : a ++ v :: vs ++ c = a ++ [v] ++ vs ++ c := by simp
    rw [e2]; exact h2
theorem RowC.cell {W : World} {g : Nat} {xs : List Value} (h : RowC W g xs) (j : Nat) : W.cell? ⟨g, j, none⟩ = xs[j]? := by
  unfold RowC at h; simp [World.cell?, h]
theorem RowC.free {W : World} {g : Nat} {xs : List Value} (h : RowC W g xs) (j : Nat) : W.frozen? ⟨g, j, none⟩ = false := free_of h j
theorem rowC_own {g cap : Nat} {W : World} {r : List Int} {xs : List Value} (h : RowC W g xs) (hx : xs.length = cap) (hn : r.length ≤ cap) (hm : cap ≤ maxLen) (ht : xs.take r.length = ints r) : W.ownsRow 0 3 1 (.slice (some ⟨g, 0, none⟩) r.length cap) r.length (ints r) :=
  ⟨by rw [ints_len]; omega, .inr ⟨g, cap, xs.toArray, rfl, Nat.zero_le _, h, hn, hm, by simpa using hx, by simpa using ht⟩⟩
theorem own_rowC {g cap n : Nat} {W : World} {r : List Int} (h : W.ownsRow 0 3 1 (.slice (some ⟨g, 0, none⟩) n cap) n (ints r)) : n = r.length ∧ ∃ sp, RowC W g (ints r ++ sp) ∧ (ints r ++ sp).length = cap ∧ r.length ≤ cap ∧ cap ≤ maxLen := by
  have hl : n = r.length := by have := h.1; rw [ints_len] at this; omega
  rcases h.2 with ⟨h', _⟩ | ⟨g', cap', cur, h', hb, hg, hnc, hcm, hcs, htake⟩
  · cases h'
  · injection h' with e1 e2 e3
    injection e1 with e1
    injection e1 with e1 _ _
    subst e1 e3
    subst hl
    have e : cur.toList = ints r ++ cur.toList.drop (r.length * 1) := by rw [← htake, List.take_append_drop]
    have e' : cur = (ints r ++ cur.toList.drop (r.length * 1)).toArray := by rw [← e]
    refine ⟨rfl, cur.toList.drop (r.length * 1), ?_, ?_, hnc, hcm⟩
    · unfold RowC
      rw [← e']; exact hg
    · rw [← e]; simpa using hcs
theorem ints_app (a b : List Int) : ints (a ++ b) = ints a ++ ints b := by unfold ints; simp
theorem ints_one (r : List Int) : ∀ v ∈ ints r, v.oneCell' = true := by
  intro v hv; unfold ints at hv; obtain ⟨x, _, rfl⟩ := List.mem_map.1 hv; rfl
theorem kp_setCells {S : List Nat} {a : World} {g : Nat} (hg : g ∈ S ∨ a.heap.size ≤ g) : ∀ (vs : List Value) (o : Nat) (W : World), Kp S a W → Kp S a (W.setCells g o vs)
  | [], _, _, h => h
  | v :: vs, o, W, h => kp_setCells hg vs (o + 1) _ (h.setCell hg)
/-- what an insertion leaves -/
def InsQ (w : World) (v : Value) (r' : List Int) (e : Ending) (w' : World) : Prop := ∃ v', e = .returned v' ∧ w'.ownsRow 0 3 1 v' r'.length (ints r') ∧ Kp (vblk v) w w' ∧ ∀ g, v'.ownBlock = some g → v.ownBlock = some g ∨ w.heap.size ≤ g
theorem ints_putI (r : List Int) (p : Nat) (x : Int) : ints (putI r p x) = ints (r.take p) ++ [.int .i64 x] ++ ints (r.drop p) := by unfold putI ints; simp
theorem zero_cells (k : Nat) : (Builtin.zeroCells (Value.int .i64 0).cells k).toList.length = k := by
  rw [Array.length_toList, size_zeroCells]; simp [Value.cells]
theorem libIns (W : World) (v : Value) (r : List Int) (p vb : Nat) (x : Int) (hp : p ≤ r.length) (h : W.ownsRow 0 3 1 v r.length (ints r)) (hv : W.heap[vb]? = some (.cells #[.int .i64 x] 3 (0, 0))) (hne : v.ownBlock ≠ some vb) (hl : r.length ≤ 100000) :
    Calls Try.prog 154 #[v, .int .i64 (p : Int), .slice (some ⟨vb, 0, none⟩) 1 1] W (InsQ W v (putI r p x)) := by
  have hvs : ∀ j u, [Value.int .i64 x][j]? = some u → W.cell? ⟨vb, 0 + j, none⟩ = some u := fun j u hj => by
    rw [Nat.zero_add]; exact cell_of hv (by simpa using hj)
  have h1v : ∀ u ∈ [Value.int .i64 x], u.oneCell' = true := fun u hu => by simp at hu; subst hu; rfl
  have hpl : (putI r p x).length = r.length + 1 := putI_len hp
  have ht1 : (ints (r.take p)).length = p := by rw [ints_len, List.length_take]; omega
  have hd1 : (ints (r.drop p)).length = r.length - p := by rw [ints_len, List.length_drop]
  have hsp : ints r = ints (r.take p) ++ ints (r.drop p) := by rw [← ints_app, List.take_append_drop]
  rcases h.2 with ⟨rfl, hn⟩ | ⟨g, cap, cur, rfl, _, _, hnc, hcm, _, _⟩
  · have hr : r = [] := List.length_eq_zero_iff.1 hn
    subst hr
    have hp0 : p = 0 := by simpa using hp
    subst hp0
    refine (Any2.slices_Insert_int_end_grow Try.laysNm221 none 0 0 vb 0 1 1 [] [.int .i64 x] W (by omega) (by omega) (by omega) (by omega) rfl rfl (fun _ => rfl) (fun a ha => by cases ha) hvs h1v).mono ?_
    rintro e w' ⟨rfl, rfl⟩
    have hge := grownCap_ge W (0 + 1) 0 3
    have hle := grownCap_le_maxLen W (0 + 1) 0 3 (by unfold maxLen; omega)
    refine ⟨_, rfl, ?_, ((Kp.refl _ W).drew).alloc _, fun g hg => .inr (by simp [Value.ownBlock] at hg; omega)⟩
    rw [hpl]
    refine rowC_own (r := putI [] 0 x) (xs := ([.int .i64 x] ++ (Builtin.zeroCells (Value.int .i64 0).cells (grownCap W (0 + 1) 0 3 - (0 + 1))).toList)) ?_ ?_ ?_ hle ?_
    · unfold RowC
      have : (W.drew.alloc (.cells (([] ++ [Value.int .i64 x]).toArray ++ Builtin.zeroCells (Value.int .i64 0).cells (grownCap W (0 + 1) 0 3 - (0 + 1))) 3)).heap[W.heap.size]? = _ := heap_alloc_new W.drew _
      rw [show (Try.laysNm221_ren).t 3 = 3 from rfl, this]
      congr 2
      apply Array.toList_inj.1; simp
    · rw [List.length_append, zero_cells, List.length_singleton, show (Try.laysNm221_ren).t 3 = 3 from rfl]; omega
    · show 1 ≤ _
      rw [show (Try.laysNm221_ren).t 3 = 3 from rfl]; omega
    · simp [putI, ints]
  · obtain ⟨_, sp, hrow, hlen, _, _⟩ := own_rowC h
    have hlen' : r.length + sp.length = cap := by rw [List.length_append, ints_len] at hlen; exact hlen
    have hvg : vb ≠ g := fun e => hne (by rw [e]; rfl)
    by_cases hpn : p < r.length
    · have hcs : ∀ j u, (ints r)[j]? = some u → W.cell? ⟨g, 0 + j, none⟩ = some u := fun j u hj => by
        rw [Nat.zero_add, hrow.cell, List.getElem?_append_left (List.getElem?_eq_some_iff.1 hj).1]; exact hj
      by_cases hroom : r.length + 1 ≤ cap
      · refine (Any2.slices_Insert_int_shift Try.laysNm221 g 0 r.length cap p vb 0 1 1 (ints r) [.int .i64 x] W hpn (by omega) hroom (by unfold maxLen at hcm; omega) hvg (ints_len r) rfl hcs (fun j hj => ?_) (fun j hj => hrow.free _) hvs (ints_one r) h1v 3 3 1 (ints r ++ sp).length (by simp [World.shape?, hv]) (by unfold RowC at hrow; simp [World.shape?, hrow]) (by rw [hlen]; omega) (free_of hv _) (free_of hv _)).mono ?_
        · rw [hrow.cell, List.getElem?_eq_getElem (by rw [hlen]; omega)]; rfl
        rintro e w' ⟨rfl, rfl⟩
        obtain ⟨s0, s', rfl⟩ : ∃ s0 s', sp = s0 :: s' := by
          cases sp with
          | nil => simp at hlen'; omega
          | cons a b => exact ⟨a, b, rfl⟩
        have hdl : (ints (r.drop p) ++ [s0]).length = r.length - p + 1 := by rw [List.length_append, hd1]; rfl
        obtain ⟨t0, tm, htm⟩ : ∃ t0 tm, ints (r.drop p) ++ [s0] = t0 :: tm := by
          cases hq : ints (r.drop p) ++ [s0] with
          | nil => rw [hq] at hdl; simp at hdl
          | cons a b => exact ⟨a, b, rfl⟩
        have htl : tm.length = r.length - p := by rw [htm] at hdl; simpa using hdl
        have e0 : ints r ++ s0 :: s' = (ints (r.take p) ++ [t0]) ++ tm ++ s' := by
          rw [hsp]
          have : ints (r.take p) ++ ints (r.drop p) ++ s0 :: s' = ints (r.take p) ++ (ints (r.drop p) ++ [s0]) ++ s' := by simp
          rw [this, htm]; simp
        have hdrop : (ints r).drop p = ints (r.drop p) := by unfold ints; rw [List.map_drop]
        have hr1 : RowC (W.drew.setCells g (p + 1) (ints (r.drop p))) g ((ints (r.take p) ++ [t0]) ++ ints (r.drop p) ++ s') := by
          have := RowC.sets (ints (r.drop p)) (W := W.drew) (g := g) (a := ints (r.take p) ++ [t0]) (b := tm) (c := s') (by rw [htl, hd1]) (by rw [← e0]; exact hrow)
          rwa [List.length_append, ht1, List.length_singleton] at this
        have hr2 : RowC ((W.drew.setCells g (p + 1) (ints (r.drop p))).setCells g p [.int .i64 x]) g (ints (putI r p x) ++ s') := by
          have := RowC.sets [.int .i64 x] (g := g) (a := ints (r.take p)) (b := [t0]) (c := ints (r.drop p) ++ s') rfl (by simpa using hr1)
          rw [ht1] at this
          rw [ints_putI]
          simpa using this
        refine ⟨_, rfl, ?_, ?_, fun g' hg' => .inl hg'⟩
        · rw [hpl, hdrop, Nat.zero_add, Nat.zero_add]
          have := rowC_own (cap := cap) hr2 (by rw [List.length_append, ints_len, hpl]; simp at hlen'; omega) (by rw [hpl]; omega) hcm (by rw [← ints_len]; exact List.take_left' rfl)
          rw [hpl] at this; exact this
        · exact kp_setCells (.inl (by simp [mem_vblk, Value.ownBlock])) _ _ _ (kp_setCells (.inl (by simp [mem_vblk, Value.ownBlock])) _ _ _ (Kp.refl _ W).drew)
      · refine (Any2.slices_Insert_int_grow Try.laysNm221 g 0 r.length cap p vb 0 1 1 (ints r) [.int .i64 x] W hpn (by omega) hnc (by omega) (by omega) (ints_len r) rfl hcs hvs (ints_one r) h1v).mono ?_
        rintro e w' ⟨rfl, rfl⟩
        have hge := grownCap_ge W (r.length + 1) cap 3
        have hle := grownCap_le_maxLen W (r.length + 1) cap 3 (by unfold maxLen; omega)
        have htake : (ints r).take p = ints (r.take p) := by unfold ints; rw [List.map_take]
        have hdrop : (ints r).drop p = ints (r.drop p) := by unfold ints; rw [List.map_drop]
        rw [show (Try.laysNm221_ren).t 3 = 3 from rfl, htake, hdrop]
        generalize hC : grownCap W (r.length + 1) cap 3 = C at *
        have hZ : ∀ k, (Builtin.zeroCells (Value.int .i64 0).cells k).toList.length = k := zero_cells
        obtain ⟨z0, z1, hz, hz1⟩ : ∃ z0 z1, (Builtin.zeroCells (Value.int .i64 0).cells (r.length + 1 - p)).toList = z0 :: z1 ∧ z1.length = r.length - p := by
          have := hZ (r.length + 1 - p)
          cases hq : (Builtin.zeroCells (Value.int .i64 0).cells (r.length + 1 - p)).toList with
          | nil => rw [hq] at this; simp at this; omega
          | cons a b => rw [hq] at this; exact ⟨a, b, rfl, by simp at this; omega⟩
        generalize hs' : (Builtin.zeroCells (Value.int .i64 0).cells (C - (r.length + 1))).toList = s'
        have hs'l : s'.length = C - (r.length + 1) := by rw [← hs']; exact hZ _
        have hW1 : RowC (W.alloc (.cells ((ints (r.take p)).toArray ++ Builtin.zeroCells (Value.int .i64 0).cells (r.length + 1 - p) ++ Builtin.zeroCells (Value.int .i64 0).cells (C - (r.length + 1))) 3)) W.heap.size (ints (r.take p) ++ [z0] ++ (z1 ++ s')) := by
          unfold RowC
          rw [heap_alloc_new]
          congr 2
          apply Array.toList_inj.1
          simp only [Array.toList_append, hz, hs']
          simp
        have hr1 := RowC.sets [.int .i64 x] (a := ints (r.take p)) (b := [z0]) (c := z1 ++ s') rfl hW1
        have hr2 := RowC.sets (ints (r.drop p)) (W := (((W.alloc (.cells ((ints (r.take p)).toArray ++ Builtin.zeroCells (Value.int .i64 0).cells (r.length + 1 - p) ++ Builtin.zeroCells (Value.int .i64 0).cells (C - (r.length + 1))) 3)).setCells W.heap.size (ints (r.take p)).length [.int .i64 x]))) (g := W.heap.size) (a := ints (r.take p) ++ [.int .i64 x]) (b := z1) (c := s') (by rw [hz1, hd1]) (by simpa using hr1)
        rw [List.length_append, ht1, List.length_singleton] at hr2
        have hr3 : RowC ((((W.alloc (.cells ((ints (r.take p)).toArray ++ Builtin.zeroCells (Value.int .i64 0).cells (r.length + 1 - p) ++ Builtin.zeroCells (Value.int .i64 0).cells (C - (r.length + 1))) 3)).drew.setCells W.heap.size p [.int .i64 x]).drew).setCells W.heap.size (p + 1) (ints (r.drop p))) W.heap.size (ints (putI r p x) ++ s') := by
          rw [ints_putI, ← drew_setCells, ← drew_setCells, ← drew_setCells]
          exact hr2
        refine ⟨_, rfl, ?_, ?_, fun g' hg' => .inr (by simp [Value.ownBlock] at hg'; omega)⟩
        · rw [hpl]
          have := rowC_own (cap := C) hr3 (by rw [List.length_append, ints_len, hpl, hs'l]; omega) (by rw [hpl]; omega) hle (by rw [← ints_len]; exact List.take_left' rfl)
          rw [hpl] at this; exact this
        · exact kp_setCells (.inr (Nat.le_refl _)) _ _ _ ((kp_setCells (.inr (Nat.le_refl _)) _ _ _ ((Kp.refl _ W).alloc _).drew).drew)
    · have hpe : p = r.length := by omega
      subst hpe
      have hput : ints (putI r r.length x) = ints r ++ [.int .i64 x] := by rw [ints_putI]; simp [ints]
      by_cases hroom : r.length + 1 ≤ cap
      · obtain ⟨s0, s', rfl⟩ : ∃ s0 s', sp = s0 :: s' := by
          cases sp with
          | nil => simp at hlen'; omega
          | cons a b => exact ⟨a, b, rfl⟩
        refine (Any2.slices_Insert_int_end_room Try.laysNm221 g 0 r.length cap vb 0 1 1 [.int .i64 x] W (by omega) hroom (by unfold maxLen at hcm; omega) rfl (fun j hj => ?_) (fun j hj => hrow.free _) hvs h1v).mono ?_
        · rw [hrow.cell, List.getElem?_eq_getElem (by rw [hlen]; omega)]; rfl
        rintro e w' ⟨rfl, rfl⟩
        have hr2 := RowC.sets [.int .i64 x] (a := ints r) (b := [s0]) (c := s') rfl (by simpa using hrow)
        rw [ints_len, ← hput] at hr2
        refine ⟨_, rfl, ?_, kp_setCells (.inl (by simp [mem_vblk, Value.ownBlock])) _ _ _ (Kp.refl _ W), fun g' hg' => .inl hg'⟩
        rw [hpl, Nat.zero_add]
        have := rowC_own (cap := cap) hr2 (by rw [List.length_append, ints_len, hpl]; simp at hlen'; omega) (by rw [hpl]; omega) hcm (by rw [← ints_len]; exact List.take_left' rfl)
        rw [hpl] at this; exact this
      · refine (Any2.slices_Insert_int_end_grow Try.laysNm221 (some ⟨g, 0, none⟩) r.length cap vb 0 1 1 (ints r) [.int .i64 x] W (by omega) hnc (by omega) (by omega) (ints_len r) rfl (fun e => by cases e) (fun a ha j u hj => ?_) hvs h1v).mono ?_
        · cases ha
          rw [Addr.add_lit, Nat.zero_add, hrow.cell, List.getElem?_append_left (List.getElem?_eq_some_iff.1 hj).1]; exact hj
        rintro e w' ⟨rfl, rfl⟩
        have hge := grownCap_ge W (r.length + 1) cap 3
        have hle := grownCap_le_maxLen W (r.length + 1) cap 3 (by unfold maxLen; omega)
        rw [show (Try.laysNm221_ren).t 3 = 3 from rfl]
        generalize hC : grownCap W (r.length + 1) cap 3 = C at *
        refine ⟨_, rfl, ?_, ((Kp.refl _ W).drew).alloc _, fun g' hg' => .inr (by simp [Value.ownBlock] at hg'; omega)⟩
        rw [hpl]
        have hW1 : RowC (W.drew.alloc (.cells ((ints r ++ [Value.int .i64 x]).toArray ++ Builtin.zeroCells (Value.int .i64 0).cells (C - (r.length + 1))) 3)) W.heap.size (ints (putI r r.length x) ++ (Builtin.zeroCells (Value.int .i64 0).cells (C - (r.length + 1))).toList) := by
          unfold RowC
          have : (W.drew.alloc (.cells ((ints r ++ [Value.int .i64 x]).toArray ++ Builtin.zeroCells (Value.int .i64 0).cells (C - (r.length + 1))) 3)).heap[W.heap.size]? = _ := heap_alloc_new W.drew _
          rw [this]
          congr 2
          apply Array.toList_inj.1; rw [hput]; simp
        have := rowC_own (cap := C) hW1 (by rw [List.length_append, ints_len, hpl, zero_cells]; omega) (by rw [hpl]; omega) hle (by rw [← ints_len]; exact List.take_left' rfl)
        rw [hpl] at this; exact this
theorem bs_any (w : World) (v : Value) (r : List Int) (x : Int) (h : w.ownsRow 0 3 1 v r.length (ints r)) (ha : r.Pairwise (· < ·)) (hl : r.length ≤ 100000) :
    Calls Try.prog 153 #[v, .int .i64 x] w fun e w' => e = .returned (.tuple #[.int .i64 (r.countP (· < x) : Nat), .bool (r.contains x)]) ∧ ∃ q, w' = w.drewN q := by
  rcases h.2 with ⟨rfl, hn⟩ | ⟨g, cap, cur, rfl, _, _, hnc, hcm, _, _⟩
  · have hr : r = [] := List.length_eq_zero_iff.1 hn
    subst hr
    refine (Try.slices_BinarySearch_int_empty none 0 x w).mono ?_
    intro e w' he
    obtain ⟨e1, e2⟩ := he
    exact ⟨by rw [e1]; rfl, 0, by rw [e2]; rfl⟩
  · have := Try.slices_BinarySearch_int g 0 r.length cap r x w (Nat.le_refl _) (by omega) (fun j hj => by
      rw [Nat.zero_add, h.cellAt j (by omega)]
      rw [ints_get (List.getElem?_eq_getElem hj)]
      simp [List.getD, hj]) (by rw [List.take_length]; exact ha.imp fun h => Int.le_of_lt h)
    rw [List.take_length] at this
    exact this
/-- behind an insertion -/
def InsR (w : World) (v : Value) (r : List Int) (x : Int) (e : Ending) (w' : World) : Prop := ∃ r', RowI (fun y => y ∈ r ∨ y = x) r' ∧ InsQ w v r' e w'
theorem insert_in (w : World) (v : Value) (r : List Int) (x : Int) (h : w.ownsRow 0 3 1 v r.length (ints r)) (ha : r.Pairwise (· < ·)) (hl : r.length ≤ 100000) (hx : x ∈ r) :
    Calls Try.prog 141 #[v, .int .i64 x] w (InsR w v r x) := by
  have HB : Hid (Calls Try.prog 153 #[v, .int .i64 x] w fun e w' => e = .returned (.tuple #[.int .i64 (r.countP (· < x) : Nat), .bool true]) ∧ ∃ q, w' = w.drewN q) := by
    have := bs_any w v r x h ha hl
    rwa [show r.contains x = true by simpa using hx] at this
  have HR : Hid (∀ q, InsR w v r x (.returned v) (w.drewN q)) := fun q => ⟨r, ⟨ha, fun y => ⟨.inl, fun e => e.elim id (fun e => e ▸ hx)⟩⟩, v, rfl, row_congr h (fun _ _ => rfl), (Kp.refl _ w).drewN q, fun g hg => .inl hg⟩
  generalize r.countP (· < x) = p at HB
  clear h ha hl hx
  go_enter Try.func141, Try.ntmps141
  go_wp2_with (go_at_call 153; refine HB.out.mono ?_; rintro e w1 ⟨rfl, q, rfl⟩)
  go_ret
  exact HR.out _
theorem insert_new (w : World) (v : Value) (r : List Int) (x : Int) (h : w.ownsRow 0 3 1 v r.length (ints r)) (ha : r.Pairwise (· < ·)) (hl : r.length ≤ 100000) (hx : x ∉ r) :
    Calls Try.prog 141 #[v, .int .i64 x] w (InsR w v r x) := by
  obtain ⟨c1, c2, c3⟩ := cnt_place ha hx
  have HB : Hid (Calls Try.prog 153 #[v, .int .i64 x] w fun e w' => e = .returned (.tuple #[.int .i64 (r.countP (· < x) : Nat), .bool false]) ∧ ∃ q, w' = w.drewN q) := by
    have := bs_any w v r x h ha hl
    rwa [show r.contains x = false by simpa using hx] at this
  have HI : Hid (∀ q, Calls Try.prog 154 #[v, .int .i64 (r.countP (· < x) : Nat), .slice (some ⟨w.heap.size, 0, none⟩) 1 1] ((w.drewN q).alloc (.cells #[.int .i64 x] 3)) fun e w' => InsR w v r x e w') := fun q => by
    have hne : v.ownBlock ≠ some w.heap.size := fun e => by have := (row_lt h e).2; omega
    refine (libIns ((w.drewN q).alloc (.cells #[.int .i64 x] 3)) v r (r.countP (· < x)) w.heap.size x c1 ((row_congr h (fun _ _ => rfl) : (w.drewN q).ownsRow 0 3 1 v r.length (ints r)).alloc _) (heap_alloc_new (w.drewN q) _) hne hl).mono ?_
    rintro e w' ⟨v', h1, h2, h3, h4⟩
    refine ⟨putI r (r.countP (· < x)) x, (RowI.put ⟨ha, fun y => Iff.rfl⟩ c1 c2 c3), v', h1, h2, ?_, fun g hg => ?_⟩
    · exact ((((Kp.refl (vblk v) w).drewN q).alloc _).trans h3 fun g hg => .inl hg)
    · rcases h4 g hg with h5 | h5
      · exact .inl h5
      · exact .inr (by simp at h5; omega)
  generalize r.countP (· < x) = p at HB HI
  clear h ha hl hx c1 c2 c3
  have p0 : (0 : Int) ≤ (p : Int) := by omega
  go_enter Try.func141, Try.ntmps141
  go_wp2_with (first
    | (go_at_call 153; refine HB.out.mono ?_; rintro e w1 ⟨rfl, q, rfl⟩)
    | (go_at_call 154; refine (HI.out _).mono ?_; rintro e w1 ⟨r', hr, v', rfl, h2, h3, h4⟩; have HQ := Lib.hid (And.intro hr (And.intro h2 (And.intro h3 h4))); clear hr h2 h3 h4))
  go_ret
  obtain ⟨a1, a2, a3, a4⟩ := HQ.out
  exact ⟨r', a1, v', rfl, a2, a3, a4⟩
theorem insert_any (w : World) (v : Value) (r : List Int) (x : Int) (h : w.ownsRow 0 3 1 v r.length (ints r)) (ha : r.Pairwise (· < ·)) (hl : r.length ≤ 100000) :
    Calls Try.prog 141 #[v, .int .i64 x] w (InsR w v r x) := by
  by_cases hx : x ∈ r
  · exact insert_in w v r x h ha hl hx
  · exact insert_new w v r x h ha hl hx
end Go.Proofs.Ytmbogobebllheaa
namespace Go.Proofs.Ytmbogobebllheaa
open Go.RowKit HM SP
set_option linter.unusedSimpArgs false
set_option linter.unusedVariables false
set_option maxHeartbeats 4000000
set_option maxRecDepth 100000

theorem fill_split {n k m : Nat} (h1 : 0 < k) (h2 : k < n) (hm : m = min k (n - k)) : ints (fill n k) = (ints (fill k k) ++ ints (List.replicate m 0)) ++ ints (List.replicate (n - k - m) 0) ∧ ints (fill n (k + m)) = (ints (fill k k) ++ ints (List.replicate m (-1))) ++ ints (List.replicate (n - k - m) 0) := by
  unfold fill
  rw [← ints_app, ← ints_app, ← ints_app, ← ints_app]
  constructor
  · congr 1
    have hm2 : m + (n - k - m) = n - k := by omega
    have hrep := List.replicate_append_replicate (n := m) (m := n - k - m) (a := (0 : Int))
    rw [hm2] at hrep
    rw [← hrep]
    simp
  · congr 1
    have hrep := List.replicate_append_replicate (n := k) (m := m) (a := (-1 : Int))
    rw [show n - (k + m) = n - k - m by omega, ← hrep]
    simp
theorem setCells_below' {B : Nat} {w : World} {blk : Nat} (hB : B ≤ blk) : ∀ (vs : List Value) (s : Nat) (W : World), Below B w W → Below B w (W.setCells blk s vs)
  | [], _, _, h => h
  | v :: vs, s, W, h => setCells_below' hB vs (s + 1) _ (h.setCell hB _)
theorem repeat_any (w : World) (b n : Nat) (hn : 0 < n) (hn2 : n ≤ 128) (hc : w.cell? ⟨b, 0, none⟩ = some (.int .i64 (-1))) (hb : b < w.heap.size) :
    Calls Try.prog 152 #[.slice (some ⟨b, 0, none⟩) 1 1, .int .i64 (n : Int)] w fun e w' => ∃ g, e = .returned (.slice (some ⟨g, 0, none⟩) n n) ∧ w.heap.size ≤ g ∧ w'.ownsRow 0 3 1 (.slice (some ⟨g, 0, none⟩) n n) n (ints (List.replicate n (-1))) ∧ Below w.heap.size w w' := by
  have HM : Hid (∀ W, Calls Try.prog 172 #[.int .u64 1, .int .u64 (n : Int)] W fun e w' => e = .returned (.tuple #[.int .u64 0, .int .u64 (n : Int)]) ∧ w' = W) := fun W => by
    have := Try.bits_Mul 1 n (by omega) (by omega) W
    refine Calls.mono this ?_
    rintro e w' ⟨rfl, rfl⟩
    refine ⟨?_, rfl⟩
    rw [Nat.one_mul, show n / 18446744073709551616 = 0 by omega, show n % 18446744073709551616 = n by omega]; rfl
  have hmk := make_ints n (by omega)
  have n0 : (0 : Int) ≤ (n : Int) := by omega
  have n1 : ¬ (n : Int) < 0 := by omega
  have n2 : ¬ (9223372036854775807 : Int) < (n : Int) := by omega
  have HC := Lib.hid hc
  have hsz : ((Try.prog.info? 3).map (·.size)) = some 1 := by
    obtain ⟨i0, hi, h0, h1, h2⟩ := info_parts info3
    rw [hi]; simp [h1]
  have hrow0 : RowC (w.alloc (.cells (madeCells #[.int .i64 0] n) 3)) w.heap.size (ints (fill n 0)) := by
    obtain ⟨_, sp, h1, h2, _⟩ := own_rowC (r := List.replicate n 0) (made_row w n (by omega) rfl)
    have : sp = [] := by
      rw [List.length_append, ints_len, List.length_replicate] at h2
      exact List.length_eq_zero_iff.1 (by omega)
    subst this
    rw [List.append_nil] at h1
    simpa [fill] using h1
  have hrow1 : RowC ((w.alloc (.cells (madeCells #[.int .i64 0] n) 3)).setCells w.heap.size 0 [.int .i64 (-1)]) w.heap.size (ints (fill n 1)) := by
    obtain ⟨m, rfl⟩ : ∃ m, n = m + 1 := ⟨n - 1, by omega⟩
    have := RowC.sets [.int .i64 (-1)] (a := []) (b := [.int .i64 0]) (c := ints (List.replicate m 0)) rfl (by simpa [fill, ints, List.replicate_succ] using hrow0)
    simpa [fill, ints] using this
  have hcp : ∀ ty, (Builtin.copy_ #[35, 35] ty #[.slice (some ⟨w.heap.size, 0, none⟩) n n, .slice (some ⟨b, 0, none⟩) 1 1]).run Try.prog (w.alloc (.cells (madeCells #[.int .i64 0] n) 3)) = .ok (goInt 1) ((w.alloc (.cells (madeCells #[.int .i64 0] n) 3)).setCells w.heap.size 0 [.int .i64 (-1)]) := fun ty => by
    have := run_copy_cells (P := Try.prog) (w.alloc (.cells (madeCells #[.int .i64 0] n) 3)) 35 35 ty 3 w.heap.size 0 n n ⟨b, 0, none⟩ 1 1 [.int .i64 (-1)] Try.underlying35 hsz (by simp [Nat.min_def]; omega) (fun j v hj => ?_) (fun j hj => ?_) (fun j hj => hrow0.free _) (fun v hv => by simp at hv; subst hv; rfl)
    · simpa using this
    · have hj1 : j = 0 := by have := (List.getElem?_eq_some_iff.1 hj).1; simpa using this
      subst hj1
      rw [Addr.add_lit]
      show (w.alloc _).cell? ⟨b, 0, none⟩ = _
      rw [(below_alloc w _).cell hb, hc]; simpa using hj
    · rw [hrow0.cell, List.getElem?_eq_getElem (by rw [ints_len, fill_len (by omega)]; simp at hj; omega)]; rfl
  have HB : Hid (RowC ((w.alloc (.cells (madeCells #[.int .i64 0] n) 3)).setCells w.heap.size 0 [.int .i64 (-1)]) w.heap.size (ints (fill n 1)) ∧ Below w.heap.size w ((w.alloc (.cells (madeCells #[.int .i64 0] n) 3)).setCells w.heap.size 0 [.int .i64 (-1)])) := ⟨hrow1, setCells_below' (Nat.le_refl _) _ _ _ (below_alloc _ _)⟩
  clear hc hrow0 hrow1
  go_enter Try.func152, Try.ntmps152
  go_wp2_with (first
    | (go_at_call 172; refine (HM.out _).mono ?_; rintro e w1 ⟨rfl, rfl⟩)
    | (at_builtin; refine wpList_copy_runI _ rfl _ _ 35 35 rfl _ _ rfl rfl (hcp _) ?_))
  generalize (w1.alloc (.cells (madeCells #[.int .i64 0] n) 3)).setCells w1.heap.size 0 [.int .i64 (-1)] = W at *
  go_loopg [8] n (fun g s8 wr => ∃ k : Nat, 0 < k ∧ k ≤ n ∧ n - k ≤ g ∧ s8 = .int .i64 (k : Int) ∧ Hid (RowC wr w1.heap.size (ints (fill n k)) ∧ Below w1.heap.size w1 wr))
  case atStart => exact ⟨1, by omega, by omega, by omega, rfl, HB⟩
  case round =>
    clear HB hcp
    obtain ⟨k, hk0, hk, hkg, rfl, HR⟩ := hrel
    by_cases hlt : k < n
    · obtain ⟨m, hm⟩ : ∃ m, m = min k (n - k) := ⟨_, rfl⟩
      obtain ⟨f1, f2⟩ := fill_split hk0 hlt hm
      have hrow := HR.out.1
      have hk5 : (ints (fill k k)).length = k := by rw [ints_len, fill_len (Nat.le_refl _)]
      have hnl : (ints (fill n k)).length = n := by rw [ints_len, fill_len hk]
      have hR2 : RowC (wr.drew.setCells w1.heap.size k (ints (List.replicate m (-1)))) w1.heap.size (ints (fill n (k + m))) := by
        rw [f2]
        have := RowC.sets (ints (List.replicate m (-1))) (W := wr.drew) (a := ints (fill k k)) (b := ints (List.replicate m 0)) (c := ints (List.replicate (n - k - m) 0)) (by rw [ints_len, ints_len]; simp) (by rw [← f1]; exact hrow)
        rwa [hk5] at this
      have hcp : ∀ ty, (Builtin.copy_ #[35, 35] ty #[.slice (some ⟨w1.heap.size, k, none⟩) (n - k) (n - k), .slice (some ⟨w1.heap.size, 0, none⟩) k n]).run Try.prog wr.drew = .ok (goInt m) (wr.drew.setCells w1.heap.size k (ints (List.replicate m (-1)))) := fun ty => by
        have := run_copy_cells (P := Try.prog) wr.drew 35 35 ty 3 w1.heap.size k (n - k) (n - k) ⟨w1.heap.size, 0, none⟩ k n (ints (List.replicate m (-1))) Try.underlying35 hsz (by rw [ints_len, List.length_replicate, hm]) (fun j v hj => ?_) (fun j hj => ?_) (fun j hj => hrow.free _) (ints_one _)
        · rw [ints_len, List.length_replicate] at this; exact this
        · have hjm := (List.getElem?_eq_some_iff.1 hj).1
          rw [ints_len, List.length_replicate] at hjm
          rw [Addr.add_lit, Nat.zero_add]
          show wr.cell? ⟨w1.heap.size, j, none⟩ = some v
          rw [hrow.cell, f1, List.append_assoc, List.getElem?_append_left (by rw [hk5]; omega)]
          have hjk : j < k := by omega
          have e1 : (ints (fill k k))[j]? = some (.int .i64 (-1)) := ints_get (by unfold fill; rw [List.getElem?_append_left (by rw [List.length_replicate]; exact hjk)]; simp [hjk])
          have e2 : (ints (List.replicate m (-1)))[j]? = some (.int .i64 (-1)) := ints_get (by simp [hjm])
          rw [e1, ← e2, hj]
        · rw [ints_len, List.length_replicate] at hj
          show (wr.cell? _).isSome = true
          rw [hrow.cell, List.getElem?_eq_getElem (by rw [hnl]; omega)]; rfl
      have HR2 : Hid (RowC (wr.drew.setCells w1.heap.size k (ints (List.replicate m (-1)))) w1.heap.size (ints (fill n (k + m))) ∧ Below w1.heap.size w1 (wr.drew.setCells w1.heap.size k (ints (List.replicate m (-1))))) := ⟨hR2, setCells_below' (Nat.le_refl _) _ _ _ HR.out.2.drew⟩
      have hm1 : 0 < m := by omega
      have hm2 : k + m ≤ n := by omega
      have k0 : (0 : Int) ≤ (k : Int) := by omega
      have k1 : (k : Int) < (n : Int) := by omega
      have k2 : (k : Int) ≤ (n : Int) := by omega
      have hnk : ¬ n = k := by omega
      clear f1 f2 hrow hR2 hk5 hnl hm
      generalize wr.drew.setCells w1.heap.size k (ints (List.replicate m (-1))) = W2 at *
      go_upto_region 9 with (fail)
      go_region_law (refine step_copy_runI rfl _ _ 35 35 rfl _ _ (by simp [Act.eval, Act.put, hnk]) (by simp [Act.eval, Act.put, hnk]) (hcp _) ?_)
      go_wp2_with fail
      go_roundg (n - (k + m))
      case measure => omega
      case rel => exact ⟨k + m, by omega, by omega, Nat.le_refl _, val_i (by rw [IntKind.wrap_i64]; omega), HR2⟩
    · have hkn : Hid (k = n) := by show _ = _; omega
      have k1 : decide ((k : Int) < (n : Int)) = false := decide_eq_false (by omega)
      go_wp2
      go_ret
      have h1 := HR.out.1
      rw [hkn.out, show fill n n = List.replicate n (-1) by unfold fill; simp] at h1
      have := rowC_own (cap := n) (r := List.replicate n (-1)) h1 (by rw [ints_len, List.length_replicate]) (by rw [List.length_replicate]; exact Nat.le_refl _) (by unfold maxLen; omega) (by rw [List.take_of_length_le (by rw [ints_len]; exact Nat.le_refl _)])
      rw [List.length_replicate] at this
      exact ⟨w1.heap.size, rfl, Nat.le_refl _, this, HR.out.2⟩
end Go.Proofs.Ytmbogobebllheaa
namespace Go.Proofs.Ytmbogobebllheaa
open Go.RowKit HM GM SP
set_option linter.unusedSimpArgs false
set_option linter.unusedVariables false
set_option maxHeartbeats 4000000
set_option maxRecDepth 100000

theorem turn_any (R N : Int) (s : Value) (v d : Int) (w : World) (hR : 0 ≤ R ∧ R ≤ 128) (hd : 0 ≤ d ∧ d ≤ 100000000) :
    Calls Try.prog 146 #[.agg #[.int .i64 R, .int .i64 N, s], .int .i64 v, .int .i64 d] w fun e w' => e = .returned (.int .i64 (tr R v d)) ∧ Below w.heap.size w w' := by
  by_cases h : v < R
  · have H : Hid (tr R v d = 2 * d + 1) := by show _ = _; unfold tr; rw [if_pos h]
    go_enter Try.func146, Try.ntmps146
    go_wp2
    go_ret
    exact ⟨by rw [H.out]; rfl, below_alloc _ _⟩
  · have H : Hid (tr R v d = 2 * d) := by show _ = _; unfold tr; rw [if_neg h]
    have h' : decide (v < R) = false := decide_eq_false h
    go_enter Try.func146, Try.ntmps146
    go_wp2
    go_ret
    exact ⟨by rw [H.out]; rfl, below_alloc _ _⟩
def lvE (b off cap : Nat) (l : List E) (i u : Nat) : Value := if (outs (l.take i) (u : Int)).length = 0 then .slice none 0 0 else .slice (some ⟨b, off + cntL l (u : Int) * 3, none⟩) (outs (l.take i) (u : Int)).length (cap - cntL l (u : Int))
def lvR (b off cap : Nat) (l : List E) (n i : Nat) : List Value := (List.range n).map (fun u => lvE b off cap l i u)
theorem lvR_len (b off cap : Nat) (l : List E) (n i : Nat) : (lvR b off cap l n i).length = n := by unfold lvR; simp
theorem lvR_get {b off cap : Nat} {l : List E} {n i u : Nat} (h : u < n) : (lvR b off cap l n i)[u]? = some (lvE b off cap l i u) := by unfold lvR; simp [h]
theorem lvR_zero (b off cap : Nat) (l : List E) (n : Nat) : lvR b off cap l n 0 = List.replicate n (.slice none 0 0) := by
  unfold lvR lvE outs
  simp
  apply List.ext_getElem
  · simp
  · intro i h1 h2; simp
theorem lvR_step {b off cap : Nat} {l : List E} {n i u : Nat} {e : E} (hl : Asc1 l) (he : l[i]? = some e) (hu : e.1 = (u : Int)) (hun : u < n) :
    (lvR b off cap l n i).set u (.slice (some ⟨b, off + cntL l (u : Int) * 3, none⟩) ((outs (l.take i) (u : Int)).length + 1) (cap - cntL l (u : Int))) = lvR b off cap l n (i + 1) := by
  apply List.ext_getElem?
  intro k
  rw [List.getElem?_set]
  by_cases hk : k < n
  · rw [lvR_get hk, lvR_get hk, lvR_len]
    by_cases e1 : u = k
    · subst e1
      rw [if_pos rfl, if_pos hk]
      unfold lvE
      rw [outs_take he, if_pos hu, List.length_append, List.length_singleton, if_neg (by omega)]
    · rw [if_neg e1]
      have e2 : ¬ e.1 = (k : Int) := by rw [hu]; omega
      unfold lvE
      rw [outs_take he, if_neg e2]
  · rw [List.getElem?_eq_none (by rw [lvR_len]; omega), List.getElem?_eq_none (by rw [lvR_len]; omega)]
    rw [if_neg (by omega)]
def GraphOf (w : World) (l : List E) (b off cap : Nat) : Prop := ∀ k x, l[k]? = some x → b < w.heap.size ∧ w.cell? ⟨b, off + k * 3, none⟩ = some (.int .i64 x.1) ∧ w.cell? ⟨b, off + k * 3 + 1, none⟩ = some (.int .i64 x.2.1) ∧ w.cell? ⟨b, off + k * 3 + 2, none⟩ = some (.int .i64 x.2.2)
theorem info25 : (Try.prog.info? 25).map (fun i => (i.zero, i.size, i.bytes)) = some (some (.slice none 0 0), 1, 24) := by kernel_rfl
theorem make_rowsE (n : Nat) (hn : n ≤ 65536) (w : World) : (Instr.makeSlice 156 (.int .i64 (n : Int)) (.int .i64 (n : Int))).run Try.prog w = .ok (.slice (some ⟨w.heap.size, 0, none⟩) n n) (w.alloc (.cells (madeCells #[.slice none 0 0] n) 25)) :=
  run_make_row' 156 25 (.slice none 0 0) 24 Try.underlying156 info25 rfl .i64 .i64 n (by omega) (by omega) w
theorem made_rowE (w : World) (n : Nat) (t : TypeId) (hn : n ≤ 65536) {b : Nat} (hb : b = w.heap.size) : (w.alloc (.cells (madeCells #[.slice none 0 0] n) t)).ownsRow 0 t 1 (.slice (some ⟨b, 0, none⟩) n n) n (List.replicate n (.slice none 0 0)) := by
  subst hb
  have := World.ownsRow_lit (base := 0) (e := t) (size := 1) w (madeCells #[.slice none 0 0] n) n (Nat.zero_le _) (by unfold maxLen; omega) (by rw [size_madeCells]; omega)
  rw [toList_madeCells_one] at this
  exact this
/-- what stands in the row of leaving reads as the edges of its node -/
theorem lvE_rd {w : World} {b off cap : Nat} {l : List E} (hl : Asc1 l) (hc : GraphOf w l b off cap) (hcap : l.length ≤ cap) (hcap2 : cap ≤ 9223372036854775807) (u : Nat) : Rd3 w (lvE b off cap l l.length u) (outs l (u : Int)) := by
  unfold lvE
  rw [List.take_length]
  by_cases h : (outs l (u : Int)).length = 0
  · rw [if_pos h, List.length_eq_zero_iff.1 h]; exact rd3_nil w
  · rw [if_neg h]
    have h0 : (outs l (u : Int))[(outs l (u : Int)).length - 1]? = some ((outs l (u : Int))[(outs l (u : Int)).length - 1]'(by omega)) := List.getElem?_eq_getElem (by omega)
    have h1 := (List.getElem?_eq_some_iff.1 (outs_at hl h0)).1
    refine ⟨_, _, rfl, by omega, by omega, fun k x hk => ?_⟩
    obtain ⟨a0, a1, a2, a3⟩ := hc _ x (outs_at hl hk)
    refine ⟨b, off + cntL l (u : Int) * 3, rfl, a0, ?_, ?_, ?_⟩
    · rw [show off + cntL l (u : Int) * 3 + k * 3 = off + (cntL l (u : Int) + k) * 3 by omega]; exact a1
    · rw [show off + cntL l (u : Int) * 3 + k * 3 = off + (cntL l (u : Int) + k) * 3 by omega]; exact a2
    · rw [show off + cntL l (u : Int) * 3 + k * 3 = off + (cntL l (u : Int) + k) * 3 by omega]; exact a3
def LeaQ (n : Nat) (l : List E) (w00 w : World) (e : Ending) (w' : World) : Prop := ∃ EB vals, e = .returned (.slice (some ⟨EB, 0, none⟩) n n) ∧ w.heap.size ≤ EB ∧ w'.ownsRow 0 25 1 (.slice (some ⟨EB, 0, none⟩) n n) n vals ∧ (∀ u, u < n → ∃ v, vals[u]? = some v ∧ Rd3 w00 v (outs l (u : Int))) ∧ Below w.heap.size w w'
theorem leaving_none (R N : Int) (l : List E) (s : Value) (n : Nat) (w00 w : World) (hv : Valid R N l) (hr0 : Rd3 w00 s l) (hr : Rd3 w s l) (hn : (n : Int) = R + N) (h0 : l = []) :
    Calls Try.prog 142 #[.agg #[.int .i64 R, .int .i64 N, s]] w (LeaQ n l w00 w) := by
  obtain ⟨ad, cap, rfl, hcap1, hcap2, hc⟩ := hr
  have hR := hv.r; have hN := hv.n; have hS := hv.s
  have hmk := make_rowsE n (by omega)
  have HE : Hid (∀ u, u < n → ∃ v, (List.replicate n (Value.slice none 0 0))[u]? = some v ∧ Rd3 w00 v (outs l (u : Int))) := fun u hu => ⟨.slice none 0 0, by simp [hu], by rw [h0]; exact rd3_nil w00⟩
  have hL : l.length = 0 := by rw [h0]; rfl
  rw [hL]
  have hn1 : R + N = (n : Int) := hn.symm
  have HN := Lib.hid hn
  clear hv hc hr0 h0 hL hcap1 hn
  go_enter Try.func142, Try.ntmps142
  go_wp2_with fail
  go_loopg [15] 0 (fun g s15 wr => s15 = .int .i64 0 ∧ wr = (w.alloc (.cells #[.int .i64 R, .int .i64 N, .slice ad 0 cap] 27)).alloc (.cells (madeCells #[.slice none 0 0] n) 25))
  case atStart => exact ⟨rfl, rfl⟩
  case round =>
    obtain ⟨rfl, rfl⟩ := hrel
    go_wp2
    go_ret
    refine ⟨w.heap.size + 1, _, rfl, by omega, made_rowE _ n 25 (by have := HN.out; omega) (by simp), HE.out, below_then (below_alloc _ _) (below_alloc _ _)⟩
theorem leaving_some (R N : Int) (l : List E) (s : Value) (n : Nat) (w00 w : World) (hv : Valid R N l) (hr0 : Rd3 w00 s l) (hr : Rd3 w s l) (hn : (n : Int) = R + N) (h0 : 0 < l.length) :
    Calls Try.prog 142 #[.agg #[.int .i64 R, .int .i64 N, s]] w (LeaQ n l w00 w) := by
  obtain ⟨ad, cap, rfl, hcap1, hcap2, hc⟩ := hr
  have hR := hv.r; have hN := hv.n; have hS := hv.s
  have hA : Asc1 l := Asc1.of hv
  obtain ⟨b, off, rfl, hblt, -⟩ := hc 0 _ (List.getElem?_eq_getElem h0)
  have hc' : GraphOf w l b off cap := fun k x hk => by
    obtain ⟨b', off', e, a0, a1, a2, a3⟩ := hc k x hk
    cases e; exact ⟨a0, a1, a2, a3⟩
  have hc0 : GraphOf w00 l b off cap := by
    obtain ⟨ad0, cap0, e0, _, _, hc0⟩ := hr0
    injection e0 with e1 e2 e3
    subst e1 e3
    intro k x hk
    obtain ⟨b', off', e, a0, a1, a2, a3⟩ := hc0 k x hk
    cases e; exact ⟨a0, a1, a2, a3⟩
  have HC := Lib.hid hc'
  have HE : Hid (∀ u, u < n → ∃ v, (lvR b off cap l n l.length)[u]? = some v ∧ Rd3 w00 v (outs l (u : Int))) := fun u hu => ⟨_, lvR_get hu, lvE_rd hA hc0 hcap1 hcap2 u⟩
  have HV := Lib.hid hv
  have hmk := make_rowsE n (by omega)
  obtain ⟨L, hL⟩ : ∃ L, l.length = L := ⟨_, rfl⟩
  rw [hL] at hcap1 HE ⊢
  have HL := Lib.hid hL
  have hL10 : L ≤ 1024 := by rw [← hL]; exact hv.len
  have HA := Lib.hid hA
  have hn1 : R + N = (n : Int) := hn.symm
  have HN := Lib.hid hn
  have hnb : n ≤ 128 := by omega
  clear hv hc hc' hc0 hr0 h0 hL hA hn
  go_enter Try.func142, Try.ntmps142
  go_wp2_with fail
  have HS : Hid (((w.alloc (.cells #[.int .i64 R, .int .i64 N, .slice (some ⟨b, off, none⟩) L cap] 27)).alloc (.cells (madeCells #[.slice none 0 0] n) 25)).ownsRow 0 25 1 (.slice (some ⟨w.heap.size + 1, 0, none⟩) n n) n (lvR b off cap l n 0) ∧
      Below w.heap.size w ((w.alloc (.cells #[.int .i64 R, .int .i64 N, .slice (some ⟨b, off, none⟩) L cap] 27)).alloc (.cells (madeCells #[.slice none 0 0] n) 25)) ∧ ((w.alloc (.cells #[.int .i64 R, .int .i64 N, .slice (some ⟨b, off, none⟩) L cap] 27)).alloc (.cells (madeCells #[.slice none 0 0] n) 25)).heap[w.heap.size]? = some (.cells #[.int .i64 R, .int .i64 N, .slice (some ⟨b, off, none⟩) L cap] 27 (0, 0))) :=
    ⟨by rw [lvR_zero]; exact made_rowE _ n 25 (by omega) (by simp), below_then (below_alloc _ _) (below_alloc _ _), (Below.heap_alloc _ _ _ (by simp)).trans (heap_alloc_new _ _)⟩
  clear hmk
  generalize ((w.alloc (.cells #[.int .i64 R, .int .i64 N, .slice (some ⟨b, off, none⟩) L cap] 27)).alloc (.cells (madeCells #[.slice none 0 0] n) 25)) = W at *
  go_loopg [15, 5, 4] L (fun g s15 s5 s4 wr => ∃ i : Nat, i ≤ L ∧ L - i ≤ g ∧ s15 = .int .i64 (i : Int) ∧ (∃ v, v = s5) ∧ (∃ v, v = s4) ∧ Hid (wr.ownsRow 0 25 1 (.slice (some ⟨w.heap.size + 1, 0, none⟩) n n) n (lvR b off cap l n i) ∧ Below w.heap.size w wr ∧ wr.heap[w.heap.size]? = some (.cells #[.int .i64 R, .int .i64 N, .slice (some ⟨b, off, none⟩) L cap] 27 (0, 0))))
  case atStart => exact ⟨0, by omega, by omega, rfl, ⟨_, rfl⟩, ⟨_, rfl⟩, HS⟩
  case round =>
    clear HS
    obtain ⟨i, hi, hig, rfl, ⟨v5, rfl⟩, ⟨v4, rfl⟩, HR⟩ := hrel
    by_cases hlt : i < L
    · obtain ⟨e, he⟩ : ∃ y, l[i]? = some y := ⟨_, List.getElem?_eq_getElem (by have := HL.out; omega)⟩
      have hed := edge HV.out (List.mem_of_getElem? he)
      obtain ⟨_, c0, c1, c2⟩ := HC.out i e he
      have d0 := carryB HR.out.2.1 hblt c0
      have d1 := carryB HR.out.2.1 hblt c1
      have d2 := carryB HR.out.2.1 hblt c2
      clear c0 c1 c2
      obtain ⟨x, y, z⟩ := e
      obtain ⟨u, rfl⟩ : ∃ u : Nat, x = u := ⟨x.toNat, by omega⟩
      have hun : u < n := by have := HN.out; omega
      have hfi := outs_first HA.out he
      have HST := Lib.hid (lvR_step (b := b) (off := off) (cap := cap) HA.out he rfl hun)
      have cE := HR.out.1.cellAt u (by omega)
      rw [lvR_get hun] at cE
      have zE := HR.out.1.frozenAt u
      have g0 : wr.cell? ⟨w.heap.size, 2, none⟩ = some (.slice (some ⟨b, off, none⟩) L cap) := cell_of HR.out.2.2 rfl
      obtain ⟨v, hvv⟩ : ∃ v, lvE b off cap l i u = v := ⟨_, rfl⟩
      rw [hvv] at cE
      obtain ⟨cu, av, cv, rfl, hcu⟩ : ∃ cu av cv, v = .slice av cu cv ∧ cu = (outs (l.take i) (u : Int)).length := by
        rw [← hvv]; unfold lvE; split
        · rename_i h; exact ⟨_, _, _, rfl, h.symm⟩
        · exact ⟨_, _, _, rfl, rfl⟩
      dsimp only at hfi HST d0 d1 d2
      rw [← hcu] at hfi HST
      generalize cntL l (u : Int) = st at *
      clear hvv hcu hed he
      obtain rfl : i = st + cu := hfi
      have hu0 : (0 : Int) ≤ (u : Int) := by omega
      have hu1 : (u : Int) < (n : Int) := by omega
      have e1 : ((st + cu : Nat) : Int) - (cu : Int) = (st : Int) := by omega
      have k1 : ((st + cu : Nat) : Int) < (L : Int) := by omega
      have k2 : st + cu + 1 ≤ cap := by omega
      have k3 : st ≤ st + cu + 1 := by omega
      have hEB : w.heap.size + 1 < wr.heap.size := (row_lt HR.out.1 rfl).2
      have HRR := Lib.hid HR.out
      have g0' : ∀ o, (wr.alloc o).cell? ⟨w.heap.size, 2, none⟩ = some (.slice (some ⟨b, off, none⟩) L cap) := fun o => carry (below_alloc _ _) g0
      have cE' : ∀ o, (wr.alloc o).cell? ⟨w.heap.size + 1, u, none⟩ = some (.slice av cu cv) := fun o => carry (below_alloc _ _) cE
      have zE' : ∀ o, (wr.alloc o).frozen? ⟨w.heap.size + 1, u, none⟩ = false := fun o => by rw [(below_alloc wr o).frozen hEB]; exact zE
      go_upto_region 5 with (fail)
      go_region
      trace_state
      go_wp2_with fail
      go_roundg (L - (st + cu + 1))
      case measure => omega
      case rel =>
        refine ⟨st + cu + 1, by omega, Nat.le_refl _, by go_num, ⟨_, rfl⟩, ⟨_, rfl⟩, ?_⟩
        obtain ⟨r1, r2, r3⟩ := HRR.out
        have h1 := (r1.stored u (.slice (some ⟨b, off + st * 3, none⟩) (st + cu + 1 - st) (cap - st))).1
        have e2 : st + cu + 1 - st = cu + 1 := by omega
        rw [e2] at h1 ⊢
        rw [HST.out] at h1
        refine ⟨(h1.alloc _).drew, ((r2.setCell (by simp) _).alloc (by simp; omega) _).drew, ?_⟩
        show ((wr.setCell _ _).alloc _).heap[w.heap.size]? = _
        rw [Below.heap_alloc _ _ _ (by simp; omega), heap_set_ne (by omega)]; exact r3
    · have HIL : Hid (i = L) := by show _ = _; omega
      have k1 : decide ((i : Int) < (L : Int)) = false := decide_eq_false (by omega)
      go_wp2
      go_ret
      have h1 := HR.out.1
      rw [HIL.out] at h1
      exact ⟨w.heap.size + 1, _, rfl, by omega, h1, HE.out, HR.out.2.1⟩
theorem leaving_any (R N : Int) (l : List E) (s : Value) (n : Nat) (w00 w : World) (hv : Valid R N l) (hr0 : Rd3 w00 s l) (hr : Rd3 w s l) (hn : (n : Int) = R + N) :
    Calls Try.prog 142 #[.agg #[.int .i64 R, .int .i64 N, s]] w (LeaQ n l w00 w) := by
  by_cases h : 0 < l.length
  · exact leaving_some R N l s n w00 w hv hr0 hr hn h
  · exact leaving_none R N l s n w00 w hv hr0 hr hn (List.length_eq_zero_iff.1 (by omega))
end Go.Proofs.Ytmbogobebllheaa
namespace Go.Proofs.Ytmbogobebllheaa
set_option linter.unusedSimpArgs false
set_option linter.unusedVariables false
section
variable {P : Program} {ops : Array Oper} {Q : Exit → Act → World → Prop}
def updB (f : Nat → Bool) (i : Nat) : Nat → Bool := fun j => if j = i then true else f j
theorem updB_same (f : Nat → Bool) (i : Nat) : updB f i i = true := by unfold updB; rw [if_pos rfl]
theorem updB_ne (f : Nat → Bool) {i j : Nat} (h : j ≠ i) : updB f i j = f j := by unfold updB; rw [if_neg h]
def bitsOf (l : Array Bool) : Nat → Bool := fun i => l.getD i false
def leftN (l : Array Bool) : Nat := l.toList.countP (fun b => !b)
theorem bitsOf_set {l : Array Bool} {i : Nat} (hi : i < l.size) : bitsOf (l.setIfInBounds i true) = updB (bitsOf l) i := by
  funext j
  unfold bitsOf updB
  simp only [Array.getD_eq_getD_getElem?]
  rw [Array.getElem?_setIfInBounds]
  by_cases h : i = j
  · subst h; rw [if_pos rfl, if_pos rfl, if_pos hi]; rfl
  · rw [if_neg h, if_neg (fun e => h e.symm)]
theorem countP_set_true : ∀ (l : List Bool) (i : Nat), l[i]? = some false → (l.set i true).countP (fun b => !b) + 1 = l.countP (fun b => !b)
  | [], i, h => by simp at h
  | b :: l, 0, h => by simp at h; subst h; simp
  | b :: l, i + 1, h => by
    have := countP_set_true l i (by simpa using h)
    rw [List.set_cons_succ, List.countP_cons, List.countP_cons]; omega
theorem leftN_set {l : Array Bool} {i : Nat} (h : l[i]? = some false) : leftN (l.setIfInBounds i true) + 1 = leftN l := by
  unfold leftN
  rw [Array.toList_setIfInBounds]
  exact countP_set_true _ _ (by simpa using h)
theorem ord_of (h : (List.range ops.size).all (fun i => ((ops[i]?).map (fun o => o.after.all (fun e => decide (e.on < i)))).getD true) = true) : ∀ (i : Nat) (o : Oper), ops[i]? = some o → ∀ e ∈ o.after, e.on < i := fun i o ho e he => by
  have hi := (Array.getElem?_eq_some_iff.1 ho).1
  have := List.all_eq_true.1 h i (List.mem_range.2 hi)
  rw [ho] at this
  simp only [Option.map_some, Option.getD_some, Array.all_eq_true_iff_forall_mem, decide_eq_true_eq] at this
  exact this e he
theorem inv_any (hord : ∀ (i : Nat) (o : Oper), ops[i]? = some o → ∀ e ∈ o.after, e.on < i) (I : (Nat → Bool) → Act → World → Prop)
    (step : ∀ (f : Nat → Bool) (a : Act) (w : World) (i : Nat) (o : Oper), ops[i]? = some o → I f a w → f i = false → (∀ e ∈ o.after, Region.binds .any e = true → f e.on = true) → wpOp P ops Q i (I (updB f i)) a w)
    (fin : ∀ f a w, I f a w → (∀ i, i < ops.size → f i = true) → Q .normal a w) :
    ∀ (fuel : Nat) (l : Array Bool) (a : Act) (w : World), l.size = ops.size → I (bitsOf l) a w → leftN l ≤ fuel → wpAny P .any ops Q fuel l a w := by
  have hend : ∀ l a w, l.size = ops.size → I (bitsOf l) a w → Region.ready .any ops l = [] → Q .normal a w := fun l a w hl hI hr => by
    refine fin _ a w hI fun i hi => ?_
    have key : ∀ n, ∀ i, i ≤ n → i < ops.size → bitsOf l i = true := by
      intro n
      induction n with
      | zero =>
        intro i hin hi
        cases hb : bitsOf l i with
        | true => rfl
        | false =>
          obtain ⟨o, ho⟩ : ∃ o, ops[i]? = some o := ⟨_, Array.getElem?_eq_getElem hi⟩
          have : i ∈ Region.ready .any ops l := mem_ready.2 ⟨by unfold bitsOf at hb; rw [Array.getD_eq_getD_getElem?] at hb ⊢; rw [Array.getElem?_eq_getElem (by omega)] at hb ⊢; exact hb, o, ho, fun e he _ => by have := hord i o ho e he; omega⟩
          rw [hr] at this; cases this
      | succ n ih =>
        intro i hin hi
        cases hb : bitsOf l i with
        | true => rfl
        | false =>
          obtain ⟨o, ho⟩ : ∃ o, ops[i]? = some o := ⟨_, Array.getElem?_eq_getElem hi⟩
          have : i ∈ Region.ready .any ops l := mem_ready.2 ⟨by unfold bitsOf at hb; rw [Array.getD_eq_getD_getElem?] at hb ⊢; rw [Array.getElem?_eq_getElem (by omega)] at hb ⊢; exact hb, o, ho, fun e he _ => by have := hord i o ho e he; exact ih e.on (by omega) (by omega)⟩
          rw [hr] at this; cases this
    exact key i i (Nat.le_refl _) hi
  intro fuel
  induction fuel with
  | zero =>
    intro l a w hl hI h0
    have hr : Region.ready .any ops l = [] := by
      rw [List.eq_nil_iff_forall_not_mem]
      intro i hi
      obtain ⟨h1, o, ho, _⟩ := mem_ready.1 hi
      have hio := (Array.getElem?_eq_some_iff.1 ho).1
      have hm : false ∈ l.toList := by
        rw [Array.getD_eq_getD_getElem?, Array.getElem?_eq_getElem (by omega)] at h1
        simp at h1
        rw [← h1]; simp
      have : 0 < l.toList.countP (fun b => !b) := List.countP_pos_iff.2 ⟨false, hm, rfl⟩
      unfold leftN at h0; omega
    exact ⟨hr, hend l a w hl hI hr⟩
  | succ fuel ih =>
    intro l a w hl hI h0
    refine ⟨fun hr => hend l a w hl hI hr, fun i hi => ?_⟩
    obtain ⟨h1, o, ho, h2⟩ := mem_ready.1 hi
    have hio := (Array.getElem?_eq_some_iff.1 ho).1
    have hf : l[i]? = some false := by
      rw [Array.getD_eq_getD_getElem?, Array.getElem?_eq_getElem (by omega)] at h1
      rw [Array.getElem?_eq_getElem (by omega)]; simp at h1; rw [h1]
    have hb : bitsOf l i = false := by unfold bitsOf; rw [Array.getD_eq_getD_getElem?, hf]; rfl
    refine wpOp_mono (fun a' w' hI' => ?_) (step (bitsOf l) a w i o ho hI hb h2)
    have hs := bitsOf_set (l := l) (i := i) (by omega)
    have hn := leftN_set hf
    exact ih _ a' w' (by simpa using hl) (by rw [hs]; exact hI') (by omega)
theorem wp_region_inv {id : Nat} {a : Act} {w : World} (hm : P.follows .mixedOrders = true) (hord : ∀ (i : Nat) (o : Oper), ops[i]? = some o → ∀ e ∈ o.after, e.on < i) (I : (Nat → Bool) → Act → World → Prop)
    (step : ∀ (f : Nat → Bool) (a : Act) (w : World) (i : Nat) (o : Oper), ops[i]? = some o → I f a w → f i = false → (∀ e ∈ o.after, Region.binds .any e = true → f e.on = true) → wpOp P ops Q i (I (updB f i)) a w)
    (fin : ∀ f a w, I f a w → (∀ i, i < ops.size → f i = true) → Q .normal a w)
    (hI : I (fun _ => false) a w.drew) : (Code.region id ops true).wp P Q a w := by
  refine wp_region_any hm (inv_any hord I step fin ops.size _ a _ (by simp) ?_ ?_)
  · have : bitsOf (Array.replicate ops.size false) = fun _ => false := by
      funext j; unfold bitsOf; rw [Array.getD_eq_getD_getElem?, Array.getElem?_replicate]; split <;> rfl
    rw [this]; exact hI
  · unfold leftN; rw [Array.toList_replicate]; simp [List.countP_replicate]
end
end Go.Proofs.Ytmbogobebllheaa
namespace Go.Proofs.Ytmbogobebllheaa
open Go.RowKit HM SP
set_option linter.unusedSimpArgs false
set_option linter.unusedVariables false
set_option maxHeartbeats 4000000
set_option maxRecDepth 100000

theorem info35 : (Try.prog.info? 35).map (fun i => (i.zero, i.size, i.bytes)) = some (some (.slice none 0 0), 1, 24) := by kernel_rfl
theorem make_rowsI (n : Nat) (hn : n ≤ 65536) (w : World) : (Instr.makeSlice 22 (.int .i64 (n : Int)) (.int .i64 (n : Int))).run Try.prog w = .ok (.slice (some ⟨w.heap.size, 0, none⟩) n n) (w.alloc (.cells (madeCells #[.slice none 0 0] n) 35)) :=
  run_make_row' 22 35 (.slice none 0 0) 24 Try.underlying22 info35 rfl .i64 .i64 n (by omega) (by omega) w
def zrow (n : Nat) : Obj := .cells (madeCells #[.slice none 0 0] n) 35
/-- the values of a tree -/
def treeV (root : Int) (D H P n : Nat) : Value := .agg #[.int .i64 root, .slice (some ⟨D, 0, none⟩) n n, .slice (some ⟨H, 0, none⟩) n n, .slice (some ⟨P, 0, none⟩) n n]
def StQ (w : World) (root : Int) (x n : Nat) (e : Ending) (w' : World) : Prop := ∃ D H P, e = .returned (treeV root D H P n) ∧ (w.heap.size ≤ D ∧ w.heap.size ≤ H ∧ w.heap.size ≤ P) ∧
  TR w' D H P n ((List.replicate n (-1)).set x 0) (List.replicate n (.slice none 0 0)) (List.replicate n (.slice none 0 0)) (List.replicate n []) (List.replicate n []) ∧ Below w.heap.size w w'
theorem heap_up {W : World} {b : Nat} {x : Obj} {o : Obj} (h : W.heap[b]? = some x) : (W.alloc o).heap[b]? = some x := (Below.heap_alloc _ _ _ (lt_block h)).trans h
theorem heap_new1 (W : World) (o : Obj) {b : Nat} (hb : b = W.heap.size) : (W.alloc o).heap[b]? = some o := by subst hb; exact heap_alloc_new _ _
def box0 : Obj := .cells #[.int .i64 0, .slice none 0 0, .slice none 0 0, .slice none 0 0] 74
/-- what has been made so far -/
structure StI (w0 : World) (x n : Nat) (f : Nat → Bool) (w : World) (v6 v12 v13 v14 v15 v16 v17 v18 v19 v20 : Value) : Prop where
  b : Below w0.heap.size w0 w
  h0 : f 0 = true → v12 = .int .i64 (x : Int)
  h1 : f 1 = true → ∃ b, v13 = .slice (some ⟨b, 0, none⟩) 1 1 ∧ w.cell? ⟨b, 0, none⟩ = some (.int .i64 (-1))
  h2 : f 2 = true → v14 = .int .i64 (n : Int)
  h3 : f 3 = true → ∃ g, v15 = .slice (some ⟨g, 0, none⟩) n n ∧ w0.heap.size ≤ g ∧ w.ownsRow 0 3 1 (.slice (some ⟨g, 0, none⟩) n n) n (ints (List.replicate n (-1)))
  h4 : f 4 = true → v16 = .int .i64 (n : Int)
  h5 : f 5 = true → ∃ g, v17 = .slice (some ⟨g, 0, none⟩) n n ∧ w0.heap.size ≤ g ∧ w.heap[g]? = some (zrow n)
  h6 : f 6 = true → v18 = .int .i64 (n : Int)
  h7 : f 7 = true → ∃ g, v19 = .slice (some ⟨g, 0, none⟩) n n ∧ w0.heap.size ≤ g ∧ w.heap[g]? = some (zrow n)
  h57 : f 5 = true → f 7 = true → v17 ≠ v19
  h8 : f 8 = true → v20 = .agg #[v12, v15, v17, v19]
  h9 : f 9 = true → f 10 = false → ∃ T, v6 = .pointer (some ⟨T, 0, none⟩) ∧ w0.heap.size ≤ T ∧ w.heap[T]? = some box0
  h10 : f 10 = true → ∃ T D H P, v6 = .pointer (some ⟨T, 0, none⟩) ∧ v15 = .slice (some ⟨D, 0, none⟩) n n ∧ v17 = .slice (some ⟨H, 0, none⟩) n n ∧ v19 = .slice (some ⟨P, 0, none⟩) n n ∧ w.heap[T]? = some (.cells #[.int .i64 (x : Int), .slice (some ⟨D, 0, none⟩) n n, .slice (some ⟨H, 0, none⟩) n n, .slice (some ⟨P, 0, none⟩) n n] 74 (0, 0)) ∧ T ≠ D ∧ T ≠ H ∧ T ≠ P ∧ w0.heap.size ≤ T
theorem StI.grow {w0 w w' : World} {x n : Nat} {f : Nat → Bool} {v6 v12 v13 v14 v15 v16 v17 v18 v19 v20 : Value} (h : StI w0 x n f w v6 v12 v13 v14 v15 v16 v17 v18 v19 v20) (hb : Below w.heap.size w w') : StI w0 x n f w' v6 v12 v13 v14 v15 v16 v17 v18 v19 v20 := by
  refine ⟨below_then h.b hb, h.h0, fun e => ?_, h.h2, fun e => ?_, h.h4, fun e => ?_, h.h6, fun e => ?_, h.h57, h.h8, fun e e' => ?_, fun e => ?_⟩
  · obtain ⟨b, h1, h2⟩ := h.h1 e; exact ⟨b, h1, carry hb h2⟩
  · obtain ⟨g, h1, h2, h3⟩ := h.h3 e; exact ⟨g, h1, h2, row_below h3 hb⟩
  · obtain ⟨g, h1, h2, h3⟩ := h.h5 e; exact ⟨g, h1, h2, (hb.block g (lt_block h3)).trans h3⟩
  · obtain ⟨g, h1, h2, h3⟩ := h.h7 e; exact ⟨g, h1, h2, (hb.block g (lt_block h3)).trans h3⟩
  · obtain ⟨g, h1, h2, h3⟩ := h.h9 e e'; exact ⟨g, h1, h2, (hb.block g (lt_block h3)).trans h3⟩
  · obtain ⟨T, D, H, P, h1, h2, h3, h4, h5, h6⟩ := h.h10 e; exact ⟨T, D, H, P, h1, h2, h3, h4, (hb.block T (lt_block h5)).trans h5, h6⟩
section
variable {w0 w w' : World} {x n : Nat} {f : Nat → Bool} {v6 v12 v13 v14 v15 v16 v17 v18 v19 v20 : Value}
theorem StI.s0 (h : StI w0 x n f w v6 v12 v13 v14 v15 v16 v17 v18 v19 v20) (h8 : f 8 = false) (h10 : f 10 = false) : StI w0 x n (updB f 0) w v6 (.int .i64 (x : Int)) v13 v14 v15 v16 v17 v18 v19 v20 :=
  ⟨h.b, fun _ => rfl, h.h1, h.h2, h.h3, h.h4, h.h5, h.h6, h.h7, h.h57, fun e => (by rw [updB_ne f (by decide), h8] at e; cases e), h.h9, fun e => (by rw [updB_ne f (by decide), h10] at e; cases e)⟩
theorem StI.s1 (h : StI w0 x n f w v6 v12 v13 v14 v15 v16 v17 v18 v19 v20) : StI w0 x n (updB f 1) (w.alloc (.cells #[.int .i64 (-1)] 3)) v6 v12 (.slice (some ⟨w.heap.size, 0, none⟩) 1 1) v14 v15 v16 v17 v18 v19 v20 := by
  have g := h.grow (below_alloc w (.cells #[.int .i64 (-1)] 3))
  exact ⟨g.b, g.h0, fun _ => ⟨_, rfl, by simp⟩, g.h2, g.h3, g.h4, g.h5, g.h6, g.h7, g.h57, g.h8, g.h9, g.h10⟩
theorem StI.s2 (h : StI w0 x n f w v6 v12 v13 v14 v15 v16 v17 v18 v19 v20) : StI w0 x n (updB f 2) w v6 v12 v13 (.int .i64 (n : Int)) v15 v16 v17 v18 v19 v20 :=
  ⟨h.b, h.h0, h.h1, fun _ => rfl, h.h3, h.h4, h.h5, h.h6, h.h7, h.h57, h.h8, h.h9, h.h10⟩
theorem StI.s3 (h : StI w0 x n f w v6 v12 v13 v14 v15 v16 v17 v18 v19 v20) (h8 : f 8 = false) (h10 : f 10 = false) {g : Nat} (hg : w.heap.size ≤ g) (ho : w'.ownsRow 0 3 1 (.slice (some ⟨g, 0, none⟩) n n) n (ints (List.replicate n (-1)))) (hb : Below w.heap.size w w') :
    StI w0 x n (updB f 3) w' v6 v12 v13 v14 (.slice (some ⟨g, 0, none⟩) n n) v16 v17 v18 v19 v20 := by
  have k := h.grow hb
  exact ⟨k.b, k.h0, k.h1, k.h2, fun _ => ⟨g, rfl, Nat.le_trans h.b.size hg, ho⟩, k.h4, k.h5, k.h6, k.h7, k.h57, fun e => (by rw [updB_ne f (by decide), h8] at e; cases e), k.h9, fun e => (by rw [updB_ne f (by decide), h10] at e; cases e)⟩
theorem StI.s4 (h : StI w0 x n f w v6 v12 v13 v14 v15 v16 v17 v18 v19 v20) : StI w0 x n (updB f 4) w v6 v12 v13 v14 v15 (.int .i64 (n : Int)) v17 v18 v19 v20 :=
  ⟨h.b, h.h0, h.h1, h.h2, h.h3, fun _ => rfl, h.h5, h.h6, h.h7, h.h57, h.h8, h.h9, h.h10⟩
theorem StI.s5 (h : StI w0 x n f w v6 v12 v13 v14 v15 v16 v17 v18 v19 v20) (h8 : f 8 = false) (h10 : f 10 = false) : StI w0 x n (updB f 5) (w.alloc (.cells (madeCells #[.slice none 0 0] n) 35)) v6 v12 v13 v14 v15 v16 (.slice (some ⟨w.heap.size, 0, none⟩) n n) v18 v19 v20 := by
  have k := h.grow (below_alloc w (.cells (madeCells #[.slice none 0 0] n) 35))
  refine ⟨k.b, k.h0, k.h1, k.h2, k.h3, k.h4, fun _ => ⟨_, rfl, h.b.size, heap_alloc_new _ _⟩, k.h6, k.h7, fun _ e e' => ?_, fun e => (by rw [updB_ne f (by decide), h8] at e; cases e), k.h9, fun e => (by rw [updB_ne f (by decide), h10] at e; cases e)⟩
  obtain ⟨g, h1, _, h3⟩ := h.h7 e
  rw [h1] at e'; injection e' with e1; injection e1 with e1; injection e1 with e1; have := lt_block h3; omega
theorem StI.s6 (h : StI w0 x n f w v6 v12 v13 v14 v15 v16 v17 v18 v19 v20) : StI w0 x n (updB f 6) w v6 v12 v13 v14 v15 v16 v17 (.int .i64 (n : Int)) v19 v20 :=
  ⟨h.b, h.h0, h.h1, h.h2, h.h3, h.h4, h.h5, fun _ => rfl, h.h7, h.h57, h.h8, h.h9, h.h10⟩
theorem StI.s7 (h : StI w0 x n f w v6 v12 v13 v14 v15 v16 v17 v18 v19 v20) (h8 : f 8 = false) (h10 : f 10 = false) : StI w0 x n (updB f 7) (w.alloc (.cells (madeCells #[.slice none 0 0] n) 35)) v6 v12 v13 v14 v15 v16 v17 v18 (.slice (some ⟨w.heap.size, 0, none⟩) n n) v20 := by
  have k := h.grow (below_alloc w (.cells (madeCells #[.slice none 0 0] n) 35))
  refine ⟨k.b, k.h0, k.h1, k.h2, k.h3, k.h4, k.h5, k.h6, fun _ => ⟨_, rfl, h.b.size, heap_alloc_new _ _⟩, fun e _ e' => ?_, fun e => (by rw [updB_ne f (by decide), h8] at e; cases e), k.h9, fun e => (by rw [updB_ne f (by decide), h10] at e; cases e)⟩
  obtain ⟨g, h1, _, h3⟩ := h.h5 e
  rw [h1] at e'; injection e' with e1; injection e1 with e1; injection e1 with e1; have := lt_block h3; omega
theorem StI.s8 (h : StI w0 x n f w v6 v12 v13 v14 v15 v16 v17 v18 v19 v20) : StI w0 x n (updB f 8) w v6 v12 v13 v14 v15 v16 v17 v18 v19 (.agg #[v12, v15, v17, v19]) :=
  ⟨h.b, h.h0, h.h1, h.h2, h.h3, h.h4, h.h5, h.h6, h.h7, h.h57, fun _ => rfl, h.h9, h.h10⟩
theorem StI.s10 {g3 g5 g7 T : Nat} (h : StI w0 x n f w (.pointer (some ⟨T, 0, none⟩)) (.int .i64 (x : Int)) v13 v14 (.slice (some ⟨g3, 0, none⟩) n n) v16 (.slice (some ⟨g5, 0, none⟩) n n) v18 (.slice (some ⟨g7, 0, none⟩) n n) v20) (oT : w.heap[T]? = some box0) (lT : w0.heap.size ≤ T) (o3 : w.ownsRow 0 3 1 (.slice (some ⟨g3, 0, none⟩) n n) n (ints (List.replicate n (-1)))) (o5 : w.heap[g5]? = some (zrow n)) (o7 : w.heap[g7]? = some (zrow n)) (h1 : f 1 = true) (h3 : f 3 = true) (h5 : f 5 = true) (h7 : f 7 = true) :
    StI w0 x n (updB f 10) ((((w.setCell ⟨T, 0, none⟩ (.int .i64 (x : Int))).setCell ⟨T, 1, none⟩ (.slice (some ⟨g3, 0, none⟩) n n)).setCell ⟨T, 2, none⟩ (.slice (some ⟨g5, 0, none⟩) n n)).setCell ⟨T, 3, none⟩ (.slice (some ⟨g7, 0, none⟩) n n)) (.pointer (some ⟨T, 0, none⟩)) (.int .i64 (x : Int)) v13 v14 (.slice (some ⟨g3, 0, none⟩) n n) v16 (.slice (some ⟨g5, 0, none⟩) n n) v18 (.slice (some ⟨g7, 0, none⟩) n n) v20 := by
  have n3 : g3 ≠ T := fun e => by
    subst e
    rcases o3.2 with ⟨h', _⟩ | ⟨g', cap', cur, h', _, hg, _⟩
    · cases h'
    · injection h' with e1; injection e1 with e1; injection e1 with e1; subst e1
      rw [oT] at hg; simp [box0] at hg
  have n5 : g5 ≠ T := fun e => by subst e; rw [oT] at o5; simp [box0, zrow] at o5
  have n7 : g7 ≠ T := fun e => by subst e; rw [oT] at o7; simp [box0, zrow] at o7
  have hk : ∀ k, k ≠ T → ((((w.setCell ⟨T, 0, none⟩ (.int .i64 (x : Int))).setCell ⟨T, 1, none⟩ (.slice (some ⟨g3, 0, none⟩) n n)).setCell ⟨T, 2, none⟩ (.slice (some ⟨g5, 0, none⟩) n n)).setCell ⟨T, 3, none⟩ (.slice (some ⟨g7, 0, none⟩) n n)).heap[k]? = w.heap[k]? := fun k hk => by
    rw [heap_set_ne hk, heap_set_ne hk, heap_set_ne hk, heap_set_ne hk]
  refine ⟨(((h.b.setCell lT _).setCell lT _).setCell lT _).setCell lT _, h.h0, fun e => ?_, h.h2, fun e => ?_, h.h4, fun e => ?_, h.h6, fun e => ?_, h.h57, h.h8, fun _ e => (by rw [updB_same] at e; cases e), fun _ => ⟨T, g3, g5, g7, rfl, rfl, rfl, rfl, ?_, Ne.symm n3, Ne.symm n5, Ne.symm n7, lT⟩⟩
  · obtain ⟨b, e1, e2⟩ := h.h1 h1
    have nb : b ≠ T := fun e => by
      subst e
      have := cell_of oT (o := 0) rfl
      rw [e2] at this; cases this
    exact ⟨b, e1, (World.cell?_of_block (hk b nb)).trans e2⟩
  · obtain ⟨g, e1, e2, e3⟩ := h.h3 h3
    injection e1 with e1; injection e1 with e1; injection e1 with e1; subst e1
    exact ⟨g3, rfl, e2, row_congr e3 fun g hg => by simp [Value.ownBlock] at hg; subst hg; exact hk _ n3⟩
  · obtain ⟨g, e1, e2, e3⟩ := h.h5 h5
    injection e1 with e1; injection e1 with e1; injection e1 with e1; subst e1
    exact ⟨g5, rfl, e2, (hk _ n5).trans e3⟩
  · obtain ⟨g, e1, e2, e3⟩ := h.h7 h7
    injection e1 with e1; injection e1 with e1; injection e1 with e1; subst e1
    exact ⟨g7, rfl, e2, (hk _ n7).trans e3⟩
  · rw [heap_set_eq (heap_set_eq (heap_set_eq (heap_set_eq oT)))]
    rfl
theorem StI.s9 (h : StI w0 x n f w v6 v12 v13 v14 v15 v16 v17 v18 v19 v20) (h10 : f 10 = false) : StI w0 x n (updB f 9) (w.alloc box0) (.pointer (some ⟨w.heap.size, 0, none⟩)) v12 v13 v14 v15 v16 v17 v18 v19 v20 := by
  have k := h.grow (below_alloc w box0)
  exact ⟨k.b, k.h0, k.h1, k.h2, k.h3, k.h4, k.h5, k.h6, k.h7, k.h57, k.h8, fun _ _ => ⟨_, rfl, h.b.size, heap_alloc_new _ _⟩, fun e => (by rw [updB_ne f (by decide), h10] at e; cases e)⟩
end
def StK (f : Nat → Bool) : Prop := (f 8 = true → f 0 = true ∧ f 3 = true ∧ f 5 = true ∧ f 7 = true) ∧ (f 10 = true → f 8 = true ∧ f 9 = true)
theorem updB_up {f : Nat → Bool} {i j : Nat} (h : f j = true) : updB f i j = true := by unfold updB; split; rfl; exact h
theorem StK.up {f : Nat → Bool} (h : StK f) {i : Nat} (h8 : i ≠ 8) (h10 : i ≠ 10) : StK (updB f i) := by
  refine ⟨fun e => ?_, fun e => ?_⟩
  · rw [updB_ne f (Ne.symm h8)] at e; obtain ⟨a, b, c, d⟩ := h.1 e; exact ⟨updB_up a, updB_up b, updB_up c, updB_up d⟩
  · rw [updB_ne f (Ne.symm h10)] at e; obtain ⟨a, b⟩ := h.2 e; exact ⟨updB_up a, updB_up b⟩
theorem StK.n8 {f : Nat → Bool} (h : StK f) (hn : ¬ (f 0 = true ∧ f 3 = true ∧ f 5 = true ∧ f 7 = true)) : f 8 = false ∧ f 10 = false := by
  have h8 : f 8 = false := by
    cases e : f 8 with
    | false => rfl
    | true => exact absurd (h.1 e) hn
  refine ⟨h8, ?_⟩
  cases e : f 10 with
  | false => rfl
  | true => rw [(h.2 e).1] at h8; cases h8
theorem StK.n10 {f : Nat → Bool} (h : StK f) (hn : f 9 = false) : f 10 = false := by
  cases e : f 10 with
  | false => rfl
  | true => rw [(h.2 e).2] at hn; cases hn
theorem start_any (R N : Int) (s : Value) (x n : Nat) (w : World) (hR : 0 ≤ R) (hN : 0 ≤ N) (hs : R + N ≤ 128) (hn : (n : Int) = R + N) (hx : x < n) :
    Calls Try.prog 139 #[.agg #[.int .i64 R, .int .i64 N, s], .int .i64 (x : Int)] w (StQ w (x : Int) x n) := by
  have HP : Hid (∀ W b, W.cell? ⟨b, 0, none⟩ = some (.int .i64 (-1)) → b < W.heap.size → Calls Try.prog 152 #[.slice (some ⟨b, 0, none⟩) 1 1, .int .i64 (n : Int)] W fun e w' => ∃ g, e = .returned (.slice (some ⟨g, 0, none⟩) n n) ∧ W.heap.size ≤ g ∧ w'.ownsRow 0 3 1 (.slice (some ⟨g, 0, none⟩) n n) n (ints (List.replicate n (-1))) ∧ Below W.heap.size W w') := fun W b h1 h2 => repeat_any W b n (by omega) (by omega) h1 h2
  have hmk := make_rowsI n (by omega)
  have hn1 : R + N = (n : Int) := hn.symm
  have HN := Lib.hid hn
  clear hn
  go_enter Try.func139, Try.ntmps139
  go_wp2_with fail
  refine wp_region_inv (by kernel_rfl) (ord_of (by kernel_rfl)) (fun f a W => ∃ v6 v12 v13 v14 v15 v16 v17 v18 v19 v20, a = { tmps := #[.agg #[.int .i64 R, .int .i64 N, s], .int .i64 (x : Int), .pointer (some ⟨w.heap.size, 0, none⟩), undef, .pointer (some ⟨w.heap.size + 1, 0, none⟩), .int .i64 (n : Int), v6, .pointer (some ⟨w.heap.size, 0, none⟩), .int .i64 R, .pointer (some ⟨w.heap.size, 1, none⟩), .int .i64 N, .int .i64 (n : Int), v12, v13, v14, v15, v16, v17, v18, v19, v20, undef, undef, undef, undef, undef], defers := [] } ∧
      StI ((w.alloc (.cells #[.int .i64 R, .int .i64 N, s] 27)).alloc box0) x n f W v6 v12 v13 v14 v15 v16 v17 v18 v19 v20 ∧ StK f) ?_ ?_ ?_
  · intro f a W i o ho hI hfi hdep
    obtain ⟨v6, v12, v13, v14, v15, v16, v17, v18, v19, v20, rfl, hS, hKK⟩ := hI
    have HS := Lib.hid hS
    have HK := Lib.hid hKK
    clear hS hKK
    have hi : i < 11 := (Array.getElem?_eq_some_iff.1 ho).1
    rcases (by omega : i = 0 ∨ i = 1 ∨ i = 2 ∨ i = 3 ∨ i = 4 ∨ i = 5 ∨ i = 6 ∨ i = 7 ∨ i = 8 ∨ i = 9 ∨ i = 10) with rfl | rfl | rfl | rfl | rfl | rfl | rfl | rfl | rfl | rfl | rfl
    · have hn := HK.out.n8 (fun e => by rw [hfi] at e; cases e.1)
      refine wpOp_step rfl (fun K hK => ?_)
      go_simp
      exact hK _ _ ⟨_, _, _, _, _, _, _, _, _, _, rfl, HS.out.s0 hn.1 hn.2, HK.out.up (by decide) (by decide)⟩
    · skip
      refine wpOp_step rfl (fun K hK => ?_)
      go_simp
      exact hK _ _ ⟨_, _, _, _, _, _, _, _, _, _, rfl, HS.out.s1, HK.out.up (by decide) (by decide)⟩
    · skip
      refine wpOp_step rfl (fun K hK => ?_)
      go_simp
      exact hK _ _ ⟨_, _, _, _, _, _, _, _, _, _, rfl, HS.out.s2, HK.out.up (by decide) (by decide)⟩
    · have hn := HK.out.n8 (fun e => by rw [hfi] at e; cases e.2.1)
      obtain rfl := Option.some.inj ho
      have d1 : f 1 = true := hdep ⟨1, .data⟩ (by simp) rfl
      have d2 : f 2 = true := hdep ⟨2, .data⟩ (by simp) rfl
      obtain ⟨b, rfl, hb⟩ := HS.out.h1 d1
      obtain rfl := HS.out.h2 d2
      have HC := Lib.hid (HP.out W b hb (World.block_lt_of_cell? _ _ hb))
      clear hb hdep ho
      refine wpOp_step rfl (fun K hK => ?_)
      go_simp
      go_at_call 152
      refine HC.out.mono ?_
      rintro e w1 ⟨g, rfl, h1, h2, h3⟩
      exact hK _ _ ⟨_, _, _, _, _, _, _, _, _, _, rfl, HS.out.s3 hn.1 hn.2 h1 h2 h3, HK.out.up (by decide) (by decide)⟩
    · skip
      refine wpOp_step rfl (fun K hK => ?_)
      go_simp
      exact hK _ _ ⟨_, _, _, _, _, _, _, _, _, _, rfl, HS.out.s4, HK.out.up (by decide) (by decide)⟩
    · have hn := HK.out.n8 (fun e => by rw [hfi] at e; cases e.2.2.1)
      obtain rfl := Option.some.inj ho
      have d4 : f 4 = true := hdep ⟨4, .data⟩ (by simp) rfl
      obtain rfl := HS.out.h4 d4
      clear hdep ho
      refine wpOp_step rfl (fun K hK => ?_)
      go_simp
      exact hK _ _ ⟨_, _, _, _, _, _, _, _, _, _, rfl, HS.out.s5 hn.1 hn.2, HK.out.up (by decide) (by decide)⟩
    · skip
      refine wpOp_step rfl (fun K hK => ?_)
      go_simp
      exact hK _ _ ⟨_, _, _, _, _, _, _, _, _, _, rfl, HS.out.s6, HK.out.up (by decide) (by decide)⟩
    · have hn := HK.out.n8 (fun e => by rw [hfi] at e; cases e.2.2.2)
      obtain rfl := Option.some.inj ho
      have d6 : f 6 = true := hdep ⟨6, .data⟩ (by simp) rfl
      obtain rfl := HS.out.h6 d6
      clear hdep ho
      refine wpOp_step rfl (fun K hK => ?_)
      go_simp
      exact hK _ _ ⟨_, _, _, _, _, _, _, _, _, _, rfl, HS.out.s7 hn.1 hn.2, HK.out.up (by decide) (by decide)⟩
    · obtain rfl := Option.some.inj ho
      have d0 : f 0 = true := hdep ⟨0, .data⟩ (by simp) rfl
      have d3 : f 3 = true := hdep ⟨3, .data⟩ (by simp) rfl
      have d5 : f 5 = true := hdep ⟨5, .data⟩ (by simp) rfl
      have d7 : f 7 = true := hdep ⟨7, .data⟩ (by simp) rfl
      have HK8 : Hid (StK (updB f 8)) := ⟨fun _ => ⟨updB_up d0, updB_up d3, updB_up d5, updB_up d7⟩, fun e => (by rw [updB_ne f (by decide)] at e; have := (HK.out.2 e).1; rw [hfi] at this; cases this)⟩
      obtain rfl := HS.out.h0 d0
      obtain ⟨g3, rfl, _⟩ := HS.out.h3 d3
      obtain ⟨g5, rfl, _⟩ := HS.out.h5 d5
      obtain ⟨g7, rfl, _⟩ := HS.out.h7 d7
      clear hdep ho
      refine wpOp_step rfl (fun K hK => ?_)
      go_simp
      exact hK _ _ ⟨_, _, _, _, _, _, _, _, _, _, rfl, HS.out.s8, HK8.out⟩
    · have hn := HK.out.n10 hfi
      refine wpOp_step rfl (fun K hK => ?_)
      go_simp
      exact hK _ _ ⟨_, _, _, _, _, _, _, _, _, _, rfl, HS.out.s9 hn, HK.out.up (by decide) (by decide)⟩
    · obtain rfl := Option.some.inj ho
      have dd : ∀ j, j < 10 → f j = true := fun j hj => by
        rcases (by omega : j = 0 ∨ j = 1 ∨ j = 2 ∨ j = 3 ∨ j = 4 ∨ j = 5 ∨ j = 6 ∨ j = 7 ∨ j = 8 ∨ j = 9) with rfl | rfl | rfl | rfl | rfl | rfl | rfl | rfl | rfl | rfl
        · exact hdep ⟨0, .phase⟩ (by simp) rfl
        · exact hdep ⟨1, .phase⟩ (by simp) rfl
        · exact hdep ⟨2, .phase⟩ (by simp) rfl
        · exact hdep ⟨3, .phase⟩ (by simp) rfl
        · exact hdep ⟨4, .phase⟩ (by simp) rfl
        · exact hdep ⟨5, .phase⟩ (by simp) rfl
        · exact hdep ⟨6, .phase⟩ (by simp) rfl
        · exact hdep ⟨7, .phase⟩ (by simp) rfl
        · exact hdep ⟨8, .phase⟩ (by simp) rfl
        · exact hdep ⟨9, .phase⟩ (by simp) rfl
      have HK10 : Hid (StK (updB f 10)) := ⟨fun _ => ⟨updB_up (dd 0 (by decide)), updB_up (dd 3 (by decide)), updB_up (dd 5 (by decide)), updB_up (dd 7 (by decide))⟩, fun _ => ⟨updB_up (dd 8 (by decide)), updB_up (dd 9 (by decide))⟩⟩
      have e8 := HS.out.h8 (dd 8 (by decide))
      subst e8
      obtain rfl := HS.out.h0 (dd 0 (by decide))
      obtain ⟨g3, rfl, l3, o3⟩ := HS.out.h3 (dd 3 (by decide))
      obtain ⟨g5, rfl, l5, o5⟩ := HS.out.h5 (dd 5 (by decide))
      obtain ⟨g7, rfl, l7, o7⟩ := HS.out.h7 (dd 7 (by decide))
      obtain ⟨T, rfl, lT, oT⟩ := HS.out.h9 (dd 9 (by decide)) hfi
      have HS10 := Lib.hid (HS.out.s10 oT lT o3 o5 o7 (dd 1 (by decide)) (dd 3 (by decide)) (dd 5 (by decide)) (dd 7 (by decide)))
      have c0 : W.cell? ⟨T, 0, none⟩ = some (.int .i64 0) := cell_of oT rfl
      have c1 : W.cell? ⟨T, 1, none⟩ = some (.slice none 0 0) := cell_of oT rfl
      have c2 : W.cell? ⟨T, 2, none⟩ = some (.slice none 0 0) := cell_of oT rfl
      have c3 : W.cell? ⟨T, 3, none⟩ = some (.slice none 0 0) := cell_of oT rfl
      have z := free_of oT
      clear hdep ho o3 o5 o7 oT l3 l5 l7 lT
      refine wpOp_step rfl (fun K hK => ?_)
      go_simp
      exact hK _ _ ⟨_, _, _, _, _, _, _, _, _, _, rfl, HS10.out, HK10.out⟩
  · intro f a W hI hall
    obtain ⟨v6, v12, v13, v14, v15, v16, v17, v18, v19, v20, rfl, hS, hKK⟩ := hI
    have hall' : ∀ i, i < 11 → f i = true := hall
    obtain ⟨T, D, H, P, rfl, rfl, rfl, rfl, oT, tD, tH, tP, lT⟩ := hS.h10 (hall' 10 (by decide))
    obtain ⟨D', eD, lD, oD⟩ := hS.h3 (hall' 3 (by decide))
    injection eD with eD; injection eD with eD; injection eD with eD; subst eD
    obtain ⟨H', eH, lH, oH⟩ := hS.h5 (hall' 5 (by decide))
    injection eH with eH; injection eH with eH; injection eH with eH; subst eH
    obtain ⟨P', eP, lP, oP⟩ := hS.h7 (hall' 7 (by decide))
    injection eP with eP; injection eP with eP; injection eP with eP; subst eP
    have hHP : H ≠ P := fun e => hS.h57 (hall' 5 (by decide)) (hall' 7 (by decide)) (by rw [e])
    have hDne : ∀ g, W.heap[g]? = some (zrow n) → D ≠ g := fun g hg e => by
      subst e
      rcases oD.2 with ⟨h', _⟩ | ⟨g', cap', cur, h', _, hg', _⟩
      · cases h'
      · injection h' with e1; injection e1 with e1; injection e1 with e1; subst e1
        rw [hg] at hg'; simp [zrow] at hg'
    have dH := hDne H oH
    have dP := hDne P oP
    have rH : W.ownsRow 0 35 1 (.slice (some ⟨H, 0, none⟩) n n) n (List.replicate n (.slice none 0 0)) := ⟨by simp, .inr ⟨H, n, _, rfl, Nat.zero_le _, oH, Nat.le_refl _, by unfold maxLen; omega, by rw [size_madeCells]; simp, by rw [toList_madeCells_one, List.take_of_length_le (by simp)]⟩⟩
    have rP : W.ownsRow 0 35 1 (.slice (some ⟨P, 0, none⟩) n n) n (List.replicate n (.slice none 0 0)) := ⟨by simp, .inr ⟨P, n, _, rfl, Nat.zero_le _, oP, Nat.le_refl _, by unfold maxLen; omega, by rw [size_madeCells]; simp, by rw [toList_madeCells_one, List.take_of_length_le (by simp)]⟩⟩
    have eN : ∀ v, gVl (List.replicate n (.slice none 0 0)) v = .slice none 0 0 := fun v => by
      unfold gVl; rw [List.getElem?_replicate]; split <;> rfl
    have bN : ∀ g, g ∉ rblk (List.replicate n (Value.slice none 0 0)) := fun g hg => by
      obtain ⟨v, _, h2⟩ := mem_rblk.1 hg
      rw [eN] at h2; cases h2
    have hTR : TR W D H P n (List.replicate n (-1)) (List.replicate n (.slice none 0 0)) (List.replicate n (.slice none 0 0)) (List.replicate n []) (List.replicate n []) :=
      ⟨oD, rH, rP, RS.nils _ _, RS.nils _ _, dH, dP, hHP, fun g hg => absurd hg (bN g), fun g hg => absurd hg (bN g), fun g hg => absurd hg (bN g)⟩
    have hsz0 : ((w.alloc (.cells #[.int .i64 R, .int .i64 N, s] 27)).alloc box0).heap.size = w.heap.size + 2 := by simp
    rw [hsz0] at lT lD lH lP
    have c0 : W.cell? ⟨T, 0, none⟩ = some (.int .i64 (x : Int)) := cell_of oT rfl
    have c1 : W.cell? ⟨T, 1, none⟩ = some (.slice (some ⟨D, 0, none⟩) n n) := cell_of oT rfl
    have c2 : W.cell? ⟨T, 2, none⟩ = some (.slice (some ⟨H, 0, none⟩) n n) := cell_of oT rfl
    have c3 : W.cell? ⟨T, 3, none⟩ = some (.slice (some ⟨P, 0, none⟩) n n) := cell_of oT rfl
    have cD := hTR.cd hx
    have zD := hTR.fd x
    have oR : W.heap[w.heap.size + 1]? = some box0 := (hS.b.block _ (by simp)).trans (by
      rw [show w.heap.size + 1 = (w.alloc (.cells #[.int .i64 R, .int .i64 N, s] 27)).heap.size by simp]; exact heap_alloc_new _ _)
    have r0 : W.cell? ⟨w.heap.size + 1, 0, none⟩ = some (.int .i64 0) := cell_of oR rfl
    have r1 : W.cell? ⟨w.heap.size + 1, 1, none⟩ = some (.slice none 0 0) := cell_of oR rfl
    have r2 : W.cell? ⟨w.heap.size + 1, 2, none⟩ = some (.slice none 0 0) := cell_of oR rfl
    have r3 : W.cell? ⟨w.heap.size + 1, 3, none⟩ = some (.slice none 0 0) := cell_of oR rfl
    have rz := free_of oR
    have nDT : D ≠ T := Ne.symm tD
    have nDR : D ≠ w.heap.size + 1 := by omega
    have x0 : (0 : Int) ≤ (x : Int) := by omega
    have x1 : (x : Int) < (n : Int) := by omega
    have HTR := Lib.hid hTR
    have HB := Lib.hid (below_then (below_then (below_alloc w (.cells #[.int .i64 R, .int .i64 N, s] 27)) (below_alloc _ box0)) hS.b)
    have HL := Lib.hid (And.intro lD (And.intro lH lP))
    have HOR := Lib.hid oR
    clear hS hKK hall hall' oT oD oH oP rH rP bN hTR eN hDne oR hsz0 tD tH tP
    generalize gI (List.replicate n (-1)) x = d0 at cD
    go_wp2_with fail
    have HF : Hid (TR (((((W.setCell ⟨D, x, none⟩ (.int .i64 0)).setCell ⟨w.heap.size + 1, 0, none⟩ (.int .i64 (x : Int))).setCell ⟨w.heap.size + 1, 1, none⟩ (.slice (some ⟨D, 0, none⟩) n n)).setCell ⟨w.heap.size + 1, 2, none⟩ (.slice (some ⟨H, 0, none⟩) n n)).setCell ⟨w.heap.size + 1, 3, none⟩ (.slice (some ⟨P, 0, none⟩) n n)) D H P n ((List.replicate n (-1)).set x 0) (List.replicate n (.slice none 0 0)) (List.replicate n (.slice none 0 0)) (List.replicate n []) (List.replicate n []) ∧ Below w.heap.size w (((((W.setCell ⟨D, x, none⟩ (.int .i64 0)).setCell ⟨w.heap.size + 1, 0, none⟩ (.int .i64 (x : Int))).setCell ⟨w.heap.size + 1, 1, none⟩ (.slice (some ⟨D, 0, none⟩) n n)).setCell ⟨w.heap.size + 1, 2, none⟩ (.slice (some ⟨H, 0, none⟩) n n)).setCell ⟨w.heap.size + 1, 3, none⟩ (.slice (some ⟨P, 0, none⟩) n n)) ∧ (((((W.setCell ⟨D, x, none⟩ (.int .i64 0)).setCell ⟨w.heap.size + 1, 0, none⟩ (.int .i64 (x : Int))).setCell ⟨w.heap.size + 1, 1, none⟩ (.slice (some ⟨D, 0, none⟩) n n)).setCell ⟨w.heap.size + 1, 2, none⟩ (.slice (some ⟨H, 0, none⟩) n n)).setCell ⟨w.heap.size + 1, 3, none⟩ (.slice (some ⟨P, 0, none⟩) n n)).heap[w.heap.size + 1]? = some (.cells #[.int .i64 (x : Int), .slice (some ⟨D, 0, none⟩) n n, .slice (some ⟨H, 0, none⟩) n n, .slice (some ⟨P, 0, none⟩) n n] 74 (0, 0))) := by
      obtain ⟨lD, lH, lP⟩ := HL.out
      have nl : w.heap.size ≤ w.heap.size + 1 := by omega
      refine ⟨(HTR.out.setD x 0).congr fun g hg => ?_, ((((HB.out.setCell (by dsimp only; omega) _).setCell nl _).setCell nl _).setCell nl _).setCell nl _, ?_⟩
      · have hg1 : g ≠ w.heap.size + 1 := by
          have eN : ∀ v, gVl (List.replicate n (.slice none 0 0)) v = .slice none 0 0 := fun v => by
            unfold gVl; rw [List.getElem?_replicate]; split <;> rfl
          have bN : ∀ g, g ∉ rblk (List.replicate n (Value.slice none 0 0)) := fun g hg => by
            obtain ⟨v, _, h2⟩ := mem_rblk.1 hg
            rw [eN] at h2; cases h2
          simp only [trB, List.mem_cons, List.mem_append] at hg
          rcases hg with rfl | rfl | rfl | hg | hg
          · omega
          · omega
          · omega
          · exact absurd hg (bN g)
          · exact absurd hg (bN g)
        rw [heap_set_ne hg1, heap_set_ne hg1, heap_set_ne hg1, heap_set_ne hg1]
      · rw [heap_set_eq (heap_set_eq (heap_set_eq (heap_set_eq ((heap_set_ne (Ne.symm nDR)).trans HOR.out))))]
        rfl
    clear c0 c1 c2 c3 cD zD r0 r1 r2 r3 rz HTR HB HOR
    generalize ((((W.setCell ⟨D, x, none⟩ (.int .i64 0)).setCell ⟨w.heap.size + 1, 0, none⟩ (.int .i64 (x : Int))).setCell ⟨w.heap.size + 1, 1, none⟩ (.slice (some ⟨D, 0, none⟩) n n)).setCell ⟨w.heap.size + 1, 2, none⟩ (.slice (some ⟨H, 0, none⟩) n n)).setCell ⟨w.heap.size + 1, 3, none⟩ (.slice (some ⟨P, 0, none⟩) n n) = Wf at *
    have q0 := cell_of HF.out.2.2 (o := 0) rfl
    have q1 := cell_of HF.out.2.2 (o := 1) rfl
    have q2 := cell_of HF.out.2.2 (o := 2) rfl
    have q3 := cell_of HF.out.2.2 (o := 3) rfl
    refine bodyPost_ret (v := treeV (x : Int) D H P n) (by simp [treeV, results, Try.results139, go_sem, q0, q1, q2, q3]) rfl ⟨D, H, P, rfl, ?_, HF.out.1, HF.out.2.1⟩
    obtain ⟨lD, lH, lP⟩ := HL.out
    exact ⟨by omega, by omega, by omega⟩
  · refine ⟨undef, undef, undef, undef, undef, undef, undef, undef, undef, undef, rfl, ⟨(Below.refl _ _).drew, fun e => (by cases e), fun e => (by cases e), fun e => (by cases e), fun e => (by cases e), fun e => (by cases e), fun e => (by cases e), fun e => (by cases e), fun e => (by cases e), fun e => (by cases e), fun e => (by cases e), fun e => (by cases e), fun e => (by cases e)⟩, fun e => (by cases e), fun e => (by cases e)⟩
end Go.Proofs.Ytmbogobebllheaa
namespace Go.Proofs.Ytmbogobebllheaa
open Go.RowKit HM GM SP
set_option linter.unusedSimpArgs false
set_option linter.unusedVariables false
set_option maxHeartbeats 4000000
set_option maxRecDepth 100000

/-- a tree as memory reads -/
structure Tre where
  root : Int
  dist : List Int
  hops : List (List Int)
  pars : List (List Int)
  deriving DecidableEq
def RdT (w : World) (v : Value) (t : Tre) : Prop := ∃ d h p, v = .agg #[.int .i64 t.root, d, h, p] ∧ RdI w d t.dist ∧ RdR w h t.hops ∧ RdR w p t.pars
theorem RdT.below {w w' : World} {v : Value} {t : Tre} (h : RdT w v t) (hb : Below w.heap.size w w') : RdT w' v t := by
  obtain ⟨d, e, p, rfl, h1, h2, h3⟩ := h
  exact ⟨d, e, p, rfl, h1.below hb, h2.below hb, h3.below hb⟩
theorem RdI.form {w : World} {v : Value} {l : List Int} (h : RdI w v l) : ∃ ad cap, v = .slice ad l.length cap := by obtain ⟨ad, cap, rfl, _⟩ := h; exact ⟨ad, cap, rfl⟩
theorem RdR.form {w : World} {v : Value} {l : List (List Int)} (h : RdR w v l) : ∃ ad cap, v = .slice ad l.length cap := by obtain ⟨ad, cap, rfl, _⟩ := h; exact ⟨ad, cap, rfl⟩
end Go.Proofs.Ytmbogobebllheaa
namespace Go.Proofs.Ytmbogobebllheaa
set_option maxRecDepth 100000
set_option linter.unusedSimpArgs false
set_option linter.unusedVariables false
open Go.ChangeShapes Go.WideShapes Go.ChangeAt Go.RowKit Go.Joins

section
variable {H : Type} {enc : TypeId × Value → H} {w : World}
end
end Go.Proofs.Ytmbogobebllheaa
