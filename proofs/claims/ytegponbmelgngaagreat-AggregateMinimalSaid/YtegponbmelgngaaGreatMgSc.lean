/-
  A result that a closure appends to: its box, its row, and what stays as it was.
  The walks of slices.IndexFunc and slices.DeleteFunc at prefixes, and of cover.ascending.
  The walks of uniform, of slices.BinarySearchFunc at prefixes and of split.
-/
import Derived.Test.YtegponbmelgngaaGreatMgB
import Derived.Test.YtegponbmelgngaaGreatMgSa
import Derived.Test.YtegponbmelgngaaGreatMgTa
import Derived.Deep.AppendLies
import Derived.Test.YtegponbmelgngaaGreatMgWb
import Derived.RegionTactic
import Derived.LoopN
section
namespace Go.Proofs.YtegponbmelgngaaGreat
open Go.RowKit
set_option linter.unusedSimpArgs false
set_option linter.unusedVariables false

/-- the blocks of K read as before -/
structure KC (K : Nat → Prop) (w w' : World) : Prop where
  os : w'.os = w.os
  tape : w'.tape = w.tape
  output : w'.output = w.output
  size : w.heap.size ≤ w'.heap.size
  block : ∀ k, K k → w'.heap[k]? = w.heap[k]?
theorem KC.refl (K : Nat → Prop) (w : World) : KC K w w := ⟨rfl, rfl, rfl, Nat.le_refl _, fun _ _ => rfl⟩
theorem KC.of_below {K : Nat → Prop} {w w' : World} (h : Below w.heap.size w w') (hK : ∀ k, K k → k < w.heap.size) : KC K w w' := ⟨h.os, h.tape, h.output, h.size, fun k hk => h.block k (hK k hk)⟩
theorem KC.trans {K : Nat → Prop} {a b c : World} (h : KC K a b) (k : KC K b c) : KC K a c :=
  ⟨k.os.trans h.os, k.tape.trans h.tape, k.output.trans h.output, Nat.le_trans h.size k.size, fun i hi => (k.block i hi).trans (h.block i hi)⟩
theorem KC.mono {K K' : Nat → Prop} {a b : World} (h : KC K' a b) (hs : ∀ k, K k → K' k) : KC K a b := ⟨h.os, h.tape, h.output, h.size, fun i hi => h.block i (hs i hi)⟩
theorem KC.carry {K : Nat → Prop} {a b : World} (h : KC K a b) {p : Addr} {v : Value} (hp : K p.block) (hc : a.cell? p = some v) : b.cell? p = some v := by
  rw [← hc]; exact World.cell?_of_block (h.block _ hp)
theorem KC.below {K : Nat → Prop} {a b : World} (h : KC K a b) {B : Nat} (hB : ∀ k, k < B → K k) : Below B a b := ⟨h.os, h.tape, h.output, h.size, fun k hk => h.block k (hB k hk)⟩

/-- K and the blocks that were made since -/
def More (K : Nat → Prop) (N M : Nat) (k : Nat) : Prop := K k ∨ (N ≤ k ∧ k < M)
/-- a slice whose cells lie in blocks of K -/
def RdK (K : Nat → Prop) (w : World) (v : Value) (l : List PP) : Prop :=
  ∃ ad cap, v = .slice ad l.length cap ∧ l.length ≤ cap ∧ ∀ k x, l[k]? = some x → ∃ b off, ad = some ⟨b, off, none⟩ ∧ K b ∧ w.cell? ⟨b, off + k * 2, none⟩ = some (.int .u32 (x.1 : Int)) ∧ w.cell? ⟨b, off + k * 2 + 1, none⟩ = some (.int .i64 x.2)
theorem RdK.kc {K : Nat → Prop} {w w' : World} {v : Value} {l : List PP} (h : RdK K w v l) (k : KC K w w') : RdK K w' v l := by
  obtain ⟨ad, cap, rfl, hcap, hc⟩ := h
  refine ⟨ad, cap, rfl, hcap, fun i x hi => ?_⟩
  obtain ⟨b, off, e, hK, h0, h1⟩ := hc i x hi
  exact ⟨b, off, e, hK, k.carry hK h0, k.carry hK h1⟩
theorem RdK.mono {K K' : Nat → Prop} {w : World} {v : Value} {l : List PP} (h : RdK K w v l) (hs : ∀ k, K k → K' k) : RdK K' w v l := by
  obtain ⟨ad, cap, rfl, hcap, hc⟩ := h
  refine ⟨ad, cap, rfl, hcap, fun i x hi => ?_⟩
  obtain ⟨b, off, e, hK, h0⟩ := hc i x hi
  exact ⟨b, off, e, hs b hK, h0⟩
theorem RdK.rd {K : Nat → Prop} {w : World} {v : Value} {l : List PP} (h : RdK K w v l) : Rd w v l := by
  obtain ⟨ad, cap, rfl, hcap, hc⟩ := h
  refine ⟨ad, cap, rfl, fun i x hi => ?_⟩
  obtain ⟨b, off, e, hK, h0, h1⟩ := hc i x hi
  exact ⟨b, off, e, World.block_lt_of_cell? _ _ h0, h0, h1⟩
/-- the addresses between two -/
def rngS (f l y : Nat) : Bool := decide (f ≤ y) && decide (y ≤ l)
theorem rngS_iff (f l y : Nat) : rngS f l y = true ↔ f ≤ y ∧ y ≤ l := by unfold rngS; simp
theorem nrmB_len {S : Nat → Bool} {k A : Nat} {B : List (Nat × Nat)} (h : CM.NrmB S k A B) : B.length + A ≤ A + 2 ^ k :=
  asc_len h.asc (fun x hx => (h.wi x hx).2) A (fun x hx => (h.wi x hx).1) (Nat.le_add_right _ _)
theorem one_twoP (a : Nat) (n : Int) : ∀ u ∈ [Value.int .u32 (a : Int), .int .i64 n], u.oneCell' = true := one_two a n
end Go.Proofs.YtegponbmelgngaaGreat
end

section
namespace Go.Proofs.YtegponbmelgngaaGreat
open Go.RowKit Go.Sort Go.Lib
set_option linter.unusedSimpArgs false
set_option linter.unusedVariables false
set_option maxHeartbeats 4000000
set_option maxRecDepth 100000

/-- the first element that a function tells -/
def IdxPost (q : PP → Bool) (l : List PP) (w : World) : Ending → World → Prop := fun e w' =>
  Below w.heap.size w w' ∧ ((∃ k : Nat, k < l.length ∧ e = .returned (.int .i64 (k : Int)) ∧ (∃ x, l[k]? = some x ∧ q x = true) ∧ ∀ x ∈ l.take k, q x = false) ∨ (e = .returned (.int .i64 (-1)) ∧ ∀ x ∈ l, q x = false))
theorem take_snocP {l : List PP} {k : Nat} {x : PP} (h : l[k]? = some x) : l.take (k + 1) = l.take k ++ [x] := by
  have hlt := (List.getElem?_eq_some_iff.1 h).1
  rw [List.take_succ_eq_append_getElem hlt, (List.getElem?_eq_some_iff.1 h).2]
theorem carryB {B : Nat} {W w1 : World} {b o : Nat} {v : Value} (hb : Below B W w1) (hlt : b < B) (h : W.cell? ⟨b, o, none⟩ = some v) : w1.cell? ⟨b, o, none⟩ = some v := (hb.cell (p := ⟨b, o, none⟩) hlt).trans h
/-- what DeleteFunc keeps from round to round -/
structure DelInv (q : PP → Bool) (l : List PP) (j m : Nat) (dk : Array PP) : Prop where
  size : dk.size = l.length
  le : m ≤ j
  len : ((l.take j).filter q).length = m
  low : ∀ i, i < m → ((l.take j).filter q)[i]? = some dk[i]!
  high : ∀ i, j ≤ i → i < l.length → l[i]? = some dk[i]!
theorem DelInv.skip {q : PP → Bool} {l : List PP} {j m : Nat} {dk : Array PP} {x : PP} (h : DelInv q l j m dk) (hx : l[j]? = some x) (hq : q x = false) : DelInv q l (j + 1) m dk := by
  have e : (l.take (j + 1)).filter q = (l.take j).filter q := by rw [take_snocP hx, List.filter_append]; simp [hq]
  exact ⟨h.size, by have := h.le; omega, by rw [e]; exact h.len, fun i hi => by rw [e]; exact h.low i hi, fun i h1 h2 => h.high i (by omega) h2⟩
theorem DelInv.keep {q : PP → Bool} {l : List PP} {j m : Nat} {dk : Array PP} {x : PP} (h : DelInv q l j m dk) (hx : l[j]? = some x) (hq : q x = true) : DelInv q l (j + 1) (m + 1) (dk.setIfInBounds m x) := by
  have e : (l.take (j + 1)).filter q = (l.take j).filter q ++ [x] := by rw [take_snocP hx, List.filter_append]; simp [hq]
  have hj := (List.getElem?_eq_some_iff.1 hx).1
  have hm := h.le
  have hs := h.size
  refine ⟨by simpa using hs, by omega, by rw [e, List.length_append, h.len]; rfl, fun i hi => ?_, fun i h1 h2 => ?_⟩
  · rw [e]
    by_cases him : i < m
    · rw [List.getElem?_append_left (by rw [h.len]; exact him), h.low i him]
      simp [getElem!_def, Array.getElem?_setIfInBounds_ne (show m ≠ i by omega)]
    · obtain rfl : i = m := by omega
      rw [List.getElem?_append_right (by rw [h.len]; exact Nat.le_refl _), h.len]
      simp [getElem!_def, Array.getElem?_setIfInBounds_self_of_lt (show i < dk.size by omega)]
  · rw [h.high i (by omega) h2]
    simp [getElem!_def, Array.getElem?_setIfInBounds_ne (show m ≠ i by omega)]
theorem DelInv.start {q : PP → Bool} {l : List PP} {k : Nat} (hk : k < l.length) (h : ∀ x ∈ l.take k, q x = true) (hx : ∃ x, l[k]? = some x ∧ q x = false) : DelInv q l (k + 1) k l.toArray := by
  obtain ⟨x, hx, hq⟩ := hx
  have e0 : (l.take k).filter q = l.take k := List.filter_eq_self.2 h
  have hlen : (l.take k).length = k := by rw [List.length_take]; omega
  have h0 : DelInv q l k k l.toArray := ⟨by simp, Nat.le_refl _, by rw [e0, hlen], fun i hi => by
    rw [e0, List.getElem?_take, if_pos hi, List.getElem?_eq_getElem (by omega)]
    simp [getElem!_def, List.getElem?_eq_getElem (show i < l.length by omega)], fun i h1 h2 => by
    rw [List.getElem?_eq_getElem h2]
    simp [getElem!_def, List.getElem?_eq_getElem h2]⟩
  exact h0.skip hx hq
theorem ascd_len (l : List PP) : (ascd l).length ≤ l.length := by
  unfold ascd
  refine Nat.le_trans (List.length_filter_le _ _) ?_
  have := sortR_le l l.length
  rwa [List.take_length] at this
end Go.Proofs.YtegponbmelgngaaGreat
end

section
namespace Go.Proofs.YtegponbmelgngaaGreat
open Go.RowKit
set_option linter.unusedSimpArgs false
set_option linter.unusedVariables false
set_option maxHeartbeats 4000000
set_option maxRecDepth 100000

theorem kp4 {w W W1 : World} {p0 p1 p2 p3 : Addr} {c0 c1 c2 c3 : Value} (h : W.cell? p0 = some c0 ∧ W.cell? p1 = some c1 ∧ W.cell? p2 = some c2 ∧ W.cell? p3 = some c3 ∧ Below w.heap.size w W) (hb : Below W.heap.size W W1) :
    W1.cell? p0 = some c0 ∧ W1.cell? p1 = some c1 ∧ W1.cell? p2 = some c2 ∧ W1.cell? p3 = some c3 ∧ Below w.heap.size w W1 :=
  ⟨carry hb h.1, carry hb h.2.1, carry hb h.2.2.1, carry hb h.2.2.2.1, below_then h.2.2.2.2 hb⟩
/-- what the search keeps -/
def BsInv (t : PP) (l : List PP) (i j : Nat) : Prop := i ≤ j ∧ j ≤ l.length ∧ (∀ x ∈ l.take i, ltP x t) ∧ ∀ x ∈ l.drop j, ¬ ltP x t
theorem bs_lo {t : PP} {l : List PP} {i j h : Nat} {x : PP} (ha : l.Pairwise ltP) (hI : BsInv t l i j) (h1 : i ≤ h) (h2 : h < j) (hx : l[h]? = some x) (hlt : ltP x t) : BsInv t l (h + 1) j := by
  have hjl := hI.2.1
  refine ⟨by omega, hI.2.1, fun y hy => ?_, hI.2.2.2⟩
  rw [take_snocP hx] at hy
  rcases List.mem_append.1 hy with hy | hy
  · obtain ⟨k, hk, rfl⟩ := List.mem_take_iff_getElem.1 hy
    have := List.pairwise_iff_getElem.1 ha k h (by omega) (by omega) (by omega)
    rw [(List.getElem?_eq_some_iff.1 hx).2] at this
    exact ltP_trans this hlt
  · rw [List.mem_singleton] at hy; subst hy; exact hlt
theorem bs_hi {t : PP} {l : List PP} {i j h : Nat} {x : PP} (ha : l.Pairwise ltP) (hI : BsInv t l i j) (h1 : i ≤ h) (h2 : h < j) (hx : l[h]? = some x) (hlt : ¬ ltP x t) : BsInv t l i h := by
  refine ⟨h1, by have := hI.2.1; omega, hI.2.2.1, fun y hy => ?_⟩
  obtain ⟨hh, he⟩ := List.getElem?_eq_some_iff.1 hx
  have e : l.drop h = x :: l.drop (h + 1) := by rw [List.drop_eq_getElem_cons hh, he]
  have hp := ha.sublist (List.drop_sublist h l)
  rw [e] at hp hy
  rcases List.mem_cons.1 hy with rfl | hy
  · exact hlt
  · exact fun g => hlt (ltP_trans ((List.pairwise_cons.1 hp).1 y hy) g)
theorem cmp_lt0 (x t : PP) : (cmpP x.1 x.2 t.1 t.2 < 0) ↔ ltP x t := by
  rcases ltP_or x t with h | h | h
  · rw [cmpP_of_lt h]; exact ⟨fun _ => h, fun _ => by decide⟩
  · subst h; rw [cmpP_self]; exact ⟨fun h => absurd h (by decide), fun h => absurd h (ltP_irrefl _)⟩
  · rw [cmpP_of_gt h]; exact ⟨fun h => absurd h (by decide), fun g => absurd g (fun g => ltP_asymm h g)⟩
theorem cmp_bd (x t : PP) : -1 ≤ cmpP x.1 x.2 t.1 t.2 ∧ cmpP x.1 x.2 t.1 t.2 ≤ 1 := by
  rcases ltP_or x t with h | h | h
  · rw [cmpP_of_lt h]; decide
  · subst h; rw [cmpP_self]; decide
  · rw [cmpP_of_gt h]; decide
end Go.Proofs.YtegponbmelgngaaGreat
end
