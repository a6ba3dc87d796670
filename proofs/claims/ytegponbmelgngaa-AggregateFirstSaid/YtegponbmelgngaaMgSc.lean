/-
  A result that a closure appends to: its box, its row, and what stays as it was.
  The walks of slices.IndexFunc and slices.DeleteFunc at prefixes, and of cover.ascending.
-/
import Derived.Test.YtegponbmelgngaaMgB
import Derived.Test.YtegponbmelgngaaMgSa
import Derived.Test.YtegponbmelgngaaMgTa
import Derived.Deep.AppendLies
import Derived.Test.YtegponbmelgngaaMgSb
section
namespace Go.Proofs.Ytegponbmelgngaa
open Go.RowKit
set_option linter.unusedSimpArgs false
set_option linter.unusedVariables false

/-- the blocks of K read as before -/
structure KC (K : Nat → Prop) (w w' : World) : Prop where
  os : w'.os = w.os
  tape : w'.tape = w.tape
  output : w'.output = w.output
  size : w.heap.size ≤ w'.heap.size
  block : ∀ k, K k → w'.heap[k]? = w.heap[k]?
theorem KC.refl (K : Nat → Prop) (w : World) : KC K w w := ⟨rfl, rfl, rfl, Nat.le_refl _, fun _ _ => rfl⟩
theorem KC.of_below {K : Nat → Prop} {w w' : World} (h : Below w.heap.size w w') (hK : ∀ k, K k → k < w.heap.size) : KC K w w' := ⟨h.os, h.tape, h.output, h.size, fun k hk => h.block k (hK k hk)⟩
theorem KC.trans {K : Nat → Prop} {a b c : World} (h : KC K a b) (k : KC K b c) : KC K a c :=
  ⟨k.os.trans h.os, k.tape.trans h.tape, k.output.trans h.output, Nat.le_trans h.size k.size, fun i hi => (k.block i hi).trans (h.block i hi)⟩
theorem KC.mono {K K' : Nat → Prop} {a b : World} (h : KC K' a b) (hs : ∀ k, K k → K' k) : KC K a b := ⟨h.os, h.tape, h.output, h.size, fun i hi => h.block i (hs i hi)⟩
theorem KC.carry {K : Nat → Prop} {a b : World} (h : KC K a b) {p : Addr} {v : Value} (hp : K p.block) (hc : a.cell? p = some v) : b.cell? p = some v := by
  rw [← hc]; exact World.cell?_of_block (h.block _ hp)
theorem KC.below {K : Nat → Prop} {a b : World} (h : KC K a b) {B : Nat} (hB : ∀ k, k < B → K k) : Below B a b := ⟨h.os, h.tape, h.output, h.size, fun k hk => h.block k (hB k hk)⟩

/-- the result's box at r holds a slice over a row of the call's own that reads as L; K's blocks are others -/
structure ResV (r : Nat) (K : Nat → Prop) (L : List PP) (v : Value) (W : World) : Prop where
  box : W.heap[r]? = some (.cells #[v] 22 (0, 0))
  row : W.ownsRow 0 28 2 v L.length (flat L)
  ne : v.ownBlock ≠ some r
  kr : ¬ K r
  kg : ∀ g, v.ownBlock = some g → ¬ K g
  klt : ∀ k, K k → k < W.heap.size
def ResI (r : Nat) (K : Nat → Prop) (L : List PP) (W : World) : Prop := ∃ v, ResV r K L v W
theorem ResV.below {r : Nat} {K : Nat → Prop} {L : List PP} {v : Value} {W W1 : World} (h : ResV r K L v W) (hb : Below W.heap.size W W1) : ResV r K L v W1 :=
  ⟨(hb.block r (lt_of_block h.box)).trans h.box, ownP_below h.row hb, h.ne, h.kr, h.kg, fun k hk => Nat.lt_of_lt_of_le (h.klt k hk) hb.size⟩
theorem ResI.below {r : Nat} {K : Nat → Prop} {L : List PP} {W W1 : World} (h : ResI r K L W) (hb : Below W.heap.size W W1) : ResI r K L W1 := h.imp fun v h => h.below hb
/-- K and the blocks that were made since -/
def More (K : Nat → Prop) (N M : Nat) (k : Nat) : Prop := K k ∨ (N ≤ k ∧ k < M)
theorem ResV.more {r : Nat} {K : Nat → Prop} {L : List PP} {v : Value} {W W1 : World} (h : ResV r K L v W) (hb : Below W.heap.size W W1) : ResV r (More K W.heap.size W1.heap.size) L v W1 := by
  have h' := h.below hb
  refine ⟨h'.box, h'.row, h'.ne, ?_, ?_, ?_⟩
  · rintro (hk | hk)
    · exact h.kr hk
    · have := lt_of_block h.box; omega
  · intro g hg
    rintro (hk | hk)
    · exact h.kg g hg hk
    · have := (ownP_lt h.row hg).2; omega
  · rintro k (hk | hk)
    · exact h'.klt k hk
    · exact hk.2
theorem ResI.more {r : Nat} {K : Nat → Prop} {L : List PP} {W W1 : World} (h : ResI r K L W) (hb : Below W.heap.size W W1) : ResI r (More K W.heap.size W1.heap.size) L W1 := h.imp fun v h => h.more hb
theorem ResV.less {r : Nat} {K K' : Nat → Prop} {L : List PP} {v : Value} {W : World} (h : ResV r K' L v W) (hs : ∀ k, K k → K' k) : ResV r K L v W :=
  ⟨h.box, h.row, h.ne, fun hk => h.kr (hs _ hk), fun g hg hk => h.kg g hg (hs _ hk), fun k hk => h.klt k (hs k hk)⟩
theorem ResI.less {r : Nat} {K K' : Nat → Prop} {L : List PP} {W : World} (h : ResI r K' L W) (hs : ∀ k, K k → K' k) : ResI r K L W := h.imp fun v h => h.less hs
theorem ResI.klt {r : Nat} {K : Nat → Prop} {L : List PP} {W : World} (h : ResI r K L W) : ∀ k, K k → k < W.heap.size := h.elim fun v h => h.klt
theorem ResV.cell {r : Nat} {K : Nat → Prop} {L : List PP} {v : Value} {W : World} (h : ResV r K L v W) : W.cell? ⟨r, 0, none⟩ = some v ∧ W.frozen? ⟨r, 0, none⟩ = false := ⟨cell_of_one h.box, free_of_one h.box⟩
theorem ResV.form {r : Nat} {K : Nat → Prop} {L : List PP} {v : Value} {W : World} (h : ResV r K L v W) : (v = .slice none 0 0 ∧ L = []) ∨ ∃ g cap, v = .slice (some ⟨g, 0, none⟩) L.length cap ∧ L.length ≤ cap ∧ g < W.heap.size := by
  rcases h.row.2 with ⟨rfl, hn⟩ | ⟨g, cap, cur, rfl, _, hg, hnc, _⟩
  · exact .inl ⟨rfl, List.length_eq_zero_iff.1 hn⟩
  · exact .inr ⟨g, cap, rfl, hnc, (Array.getElem?_eq_some_iff.1 hg).1⟩
/-- behind append and the store into the box -/
theorem ResV.push {r : Nat} {K : Nat → Prop} {L L' : List PP} {v : Value} {w w2 : World} {g cap : Nat} (h : ResV r K L v w)
    (h1 : w2.ownsRow 0 28 2 (.slice (some ⟨g, 0, none⟩) L'.length cap) L'.length (flat L')) (h2 : w.grownBy w2 v.ownBlock) (h3 : v.ownBlock = some g ∨ w.heap.size ≤ g) :
    ResI r K L' (w2.setCell ⟨r, 0, none⟩ (.slice (some ⟨g, 0, none⟩) L'.length cap)) ∧ KC K w (w2.setCell ⟨r, 0, none⟩ (.slice (some ⟨g, 0, none⟩) L'.length cap)) := by
  have hr := lt_of_block h.box
  have hgr : g ≠ r := by
    rintro rfl
    rcases h3 with h3 | h3
    · exact h.ne h3
    · omega
  have b0 : Below 0 w w2 := Below.grown (Below.refl 0 w) h2 (Nat.zero_le _) (fun _ _ => Nat.zero_le _)
  have hbr : w2.heap[r]? = some (.cells #[v] 22 (0, 0)) := (h2.block r hr (fun e => h.ne e.symm)).trans h.box
  refine ⟨⟨_, one_setCell hbr, ownsRow_setCell_other h1 (by simp [Value.ownBlock]; exact fun e => hgr e) _, by simp [Value.ownBlock]; exact hgr, h.kr, ?_, fun k hk => ?_⟩, b0.os, b0.tape, b0.output, by simpa using h2.size, fun k hk => ?_⟩
  · intro g' hg'
    simp [Value.ownBlock] at hg'
    subst hg'
    rcases h3 with h3 | h3
    · exact h.kg _ h3
    · intro hk; have := h.klt _ hk; omega
  · have := h.klt k hk; have := h2.size; simp; omega
  · have hkr : k ≠ r := fun e => h.kr (e ▸ hk)
    rw [heap_set_ne hkr, h2.block k (h.klt k hk) (fun e => h.kg k e.symm hk)]
/-- a slice whose cells lie in blocks of K -/
def RdK (K : Nat → Prop) (w : World) (v : Value) (l : List PP) : Prop :=
  ∃ ad cap, v = .slice ad l.length cap ∧ l.length ≤ cap ∧ ∀ k x, l[k]? = some x → ∃ b off, ad = some ⟨b, off, none⟩ ∧ K b ∧ w.cell? ⟨b, off + k * 2, none⟩ = some (.int .u32 (x.1 : Int)) ∧ w.cell? ⟨b, off + k * 2 + 1, none⟩ = some (.int .i64 x.2)
theorem RdK.kc {K : Nat → Prop} {w w' : World} {v : Value} {l : List PP} (h : RdK K w v l) (k : KC K w w') : RdK K w' v l := by
  obtain ⟨ad, cap, rfl, hcap, hc⟩ := h
  refine ⟨ad, cap, rfl, hcap, fun i x hi => ?_⟩
  obtain ⟨b, off, e, hK, h0, h1⟩ := hc i x hi
  exact ⟨b, off, e, hK, k.carry hK h0, k.carry hK h1⟩
theorem RdK.mono {K K' : Nat → Prop} {w : World} {v : Value} {l : List PP} (h : RdK K w v l) (hs : ∀ k, K k → K' k) : RdK K' w v l := by
  obtain ⟨ad, cap, rfl, hcap, hc⟩ := h
  refine ⟨ad, cap, rfl, hcap, fun i x hi => ?_⟩
  obtain ⟨b, off, e, hK, h0⟩ := hc i x hi
  exact ⟨b, off, e, hs b hK, h0⟩
theorem RdK.rd {K : Nat → Prop} {w : World} {v : Value} {l : List PP} (h : RdK K w v l) : Rd w v l := by
  obtain ⟨ad, cap, rfl, hcap, hc⟩ := h
  refine ⟨ad, cap, rfl, fun i x hi => ?_⟩
  obtain ⟨b, off, e, hK, h0, h1⟩ := hc i x hi
  exact ⟨b, off, e, World.block_lt_of_cell? _ _ h0, h0, h1⟩
theorem ResI.rd {r : Nat} {K : Nat → Prop} {L : List PP} {W : World} (h : ResI r K L W) : ∃ v, W.cell? ⟨r, 0, none⟩ = some v ∧ Rd W v L := h.elim fun v h => ⟨v, h.cell.1, rd_own h.row⟩
/-- an empty result -/
theorem resI_start {w : World} {r : Nat} {K : Nat → Prop} (hb : w.heap[r]? = some (.cells #[.slice none 0 0] 22 (0, 0))) (hr : ¬ K r) (hlt : ∀ k, K k → k < w.heap.size) : ResI r K [] w :=
  ⟨_, hb, World.ownsRow_nil _ _ _ _, by simp [Value.ownBlock], hr, fun g hg => by simp [Value.ownBlock] at hg, hlt⟩
/-- the addresses between two -/
def rngS (f l y : Nat) : Bool := decide (f ≤ y) && decide (y ≤ l)
theorem rngS_iff (f l y : Nat) : rngS f l y = true ↔ f ≤ y ∧ y ≤ l := by unfold rngS; simp
theorem nrmB_len {S : Nat → Bool} {k A : Nat} {B : List (Nat × Nat)} (h : CM.NrmB S k A B) : B.length + A ≤ A + 2 ^ k :=
  asc_len h.asc (fun x hx => (h.wi x hx).2) A (fun x hx => (h.wi x hx).1) (Nat.le_add_right _ _)
theorem one_twoP (a : Nat) (n : Int) : ∀ u ∈ [Value.int .u32 (a : Int), .int .i64 n], u.oneCell' = true := one_two a n
end Go.Proofs.Ytegponbmelgngaa
end

section
namespace Go.Proofs.Ytegponbmelgngaa
open Go.RowKit Go.Sort Go.Lib
set_option linter.unusedSimpArgs false
set_option linter.unusedVariables false
set_option maxHeartbeats 4000000
set_option maxRecDepth 100000

/-- the first element that a function tells -/
def IdxPost (q : PP → Bool) (l : List PP) (w : World) : Ending → World → Prop := fun e w' =>
  Below w.heap.size w w' ∧ ((∃ k : Nat, k < l.length ∧ e = .returned (.int .i64 (k : Int)) ∧ (∃ x, l[k]? = some x ∧ q x = true) ∧ ∀ x ∈ l.take k, q x = false) ∨ (e = .returned (.int .i64 (-1)) ∧ ∀ x ∈ l, q x = false))
theorem take_snocP {l : List PP} {k : Nat} {x : PP} (h : l[k]? = some x) : l.take (k + 1) = l.take k ++ [x] := by
  have hlt := (List.getElem?_eq_some_iff.1 h).1
  rw [List.take_succ_eq_append_getElem hlt, (List.getElem?_eq_some_iff.1 h).2]
theorem carryB {B : Nat} {W w1 : World} {b o : Nat} {v : Value} (hb : Below B W w1) (hlt : b < B) (h : W.cell? ⟨b, o, none⟩ = some v) : w1.cell? ⟨b, o, none⟩ = some v := (hb.cell (p := ⟨b, o, none⟩) hlt).trans h
/-- the closure of ascending -/
theorem notV_any (x : PP) (ha : x.1 < 4294967296) (hn : I64 x.2) (w : World) :
    Calls Try.prog 99 #[.agg #[.int .u32 (x.1 : Int), .int .i64 x.2]] w fun e w' => e = .returned (.bool (!V x)) ∧ Below w.heap.size w w' := by
  obtain ⟨a, n⟩ := x
  have hv : Hid (∀ W, Calls Try.prog 80 #[.agg #[.int .u32 (a : Int), .int .i64 n]] W fun e w' => e = .returned (.bool (V (a, n))) ∧ Below W.heap.size W w') := fun W => valid_any a ha n hn W
  cases h : V (a, n)
  all_goals
    rw [h] at hv
    clear h
    go_enter Try.func99, Try.ntmps99
    go_wp2_with (go_at_call 80; refine (hv.out _).mono ?_; rintro e w1 ⟨rfl, hb⟩; have B := Lib.hid (below_then (below_alloc _ _) hb); clear hb)
    go_ret
    exact ⟨rfl, B.out⟩
theorem index99_any (l : List PP) (v : Value) (w : World) (hl : l.length ≤ 4294967296) (hf : ∀ x ∈ l, x.1 < 4294967296 ∧ I64 x.2) (hr : Rd w v l) :
    Calls Try.prog 108 #[v, .func (.func 99) #[] #[]] w (IdxPost (fun x => !V x) l w) := by
  obtain ⟨ad, cap, rfl, hc⟩ := hr
  have HC := Lib.hid hc
  have HF := Lib.hid hf
  clear hc hf
  go_enter Try.func108, Try.ntmps108
  go_wp2
  go_loopg [8, 5] l.length (fun g s8 s5 wr => ∃ k : Nat, k ≤ l.length ∧ l.length - k ≤ g ∧ s8 = .int .i64 k ∧ Hid (Below w.heap.size w wr ∧ ∀ x ∈ l.take k, (!V x) = false))
  case atStart => exact ⟨0, by omega, by omega, rfl, Below.refl _ _, by simp⟩
  case round =>
    obtain ⟨k, hk, hg, rfl, HB⟩ := hrel
    by_cases hlt : k < l.length
    · obtain ⟨x, hx⟩ : ∃ x, l[k]? = some x := ⟨_, List.getElem?_eq_getElem hlt⟩
      obtain ⟨blk, off, rfl, hblk, hc0, hc1⟩ := HC.out k x hx
      have f0 := carryB HB.out.1 hblk hc0
      have f1 := carryB HB.out.1 hblk hc1
      have HX := Lib.hid hx
      have hfx := HF.out x (List.mem_of_getElem? hx)
      have HV : Hid (∀ W, Calls Try.prog 99 #[.agg #[.int .u32 (x.1 : Int), .int .i64 x.2]] W fun e w' => e = .returned (.bool (!V x)) ∧ Below W.heap.size W w') := fun W => notV_any x hfx.1 hfx.2 W
      clear hc0 hc1 hx hfx
      obtain ⟨a, n⟩ := x
      dsimp only at f0 f1
      cases h : (!V (a, n))
      · have HH := Lib.hid h
        rw [h] at HV
        clear h
        go_wp2_with (go_at_call 99; refine (HV.out _).mono ?_; rintro e w1 ⟨rfl, hb⟩; have B := Lib.hid (below_then HB.out.1 hb); clear hb)
        go_roundg (l.length - (k + 1))
        case measure => omega
        case rel =>
          refine ⟨k + 1, by omega, Nat.le_refl _, by go_num, B.out, ?_⟩
          rw [take_snocP HX.out]
          intro y hy
          rcases List.mem_append.1 hy with hy | hy
          · exact HB.out.2 y hy
          · rw [List.mem_singleton] at hy; subst hy; exact HH.out
      · have HH := Lib.hid h
        rw [h] at HV
        clear h
        go_wp2_with (go_at_call 99; refine (HV.out _).mono ?_; rintro e w1 ⟨rfl, hb⟩; have B := Lib.hid (below_then HB.out.1 hb); clear hb)
        go_ret
        exact ⟨B.out, .inl ⟨k, hlt, rfl, ⟨_, HX.out, HH.out⟩, HB.out.2⟩⟩
    · have hkl : k = l.length := by omega
      subst hkl
      go_wp2
      go_ret
      have := HB.out.2
      rw [List.take_length] at this
      exact ⟨HB.out.1, .inr ⟨rfl, this⟩⟩
/-- what DeleteFunc keeps from round to round -/
structure DelInv (q : PP → Bool) (l : List PP) (j m : Nat) (dk : Array PP) : Prop where
  size : dk.size = l.length
  le : m ≤ j
  len : ((l.take j).filter q).length = m
  low : ∀ i, i < m → ((l.take j).filter q)[i]? = some dk[i]!
  high : ∀ i, j ≤ i → i < l.length → l[i]? = some dk[i]!
theorem DelInv.skip {q : PP → Bool} {l : List PP} {j m : Nat} {dk : Array PP} {x : PP} (h : DelInv q l j m dk) (hx : l[j]? = some x) (hq : q x = false) : DelInv q l (j + 1) m dk := by
  have e : (l.take (j + 1)).filter q = (l.take j).filter q := by rw [take_snocP hx, List.filter_append]; simp [hq]
  exact ⟨h.size, by have := h.le; omega, by rw [e]; exact h.len, fun i hi => by rw [e]; exact h.low i hi, fun i h1 h2 => h.high i (by omega) h2⟩
theorem DelInv.keep {q : PP → Bool} {l : List PP} {j m : Nat} {dk : Array PP} {x : PP} (h : DelInv q l j m dk) (hx : l[j]? = some x) (hq : q x = true) : DelInv q l (j + 1) (m + 1) (dk.setIfInBounds m x) := by
  have e : (l.take (j + 1)).filter q = (l.take j).filter q ++ [x] := by rw [take_snocP hx, List.filter_append]; simp [hq]
  have hj := (List.getElem?_eq_some_iff.1 hx).1
  have hm := h.le
  have hs := h.size
  refine ⟨by simpa using hs, by omega, by rw [e, List.length_append, h.len]; rfl, fun i hi => ?_, fun i h1 h2 => ?_⟩
  · rw [e]
    by_cases him : i < m
    · rw [List.getElem?_append_left (by rw [h.len]; exact him), h.low i him]
      simp [getElem!_def, Array.getElem?_setIfInBounds_ne (show m ≠ i by omega)]
    · obtain rfl : i = m := by omega
      rw [List.getElem?_append_right (by rw [h.len]; exact Nat.le_refl _), h.len]
      simp [getElem!_def, Array.getElem?_setIfInBounds_self_of_lt (show i < dk.size by omega)]
  · rw [h.high i (by omega) h2]
    simp [getElem!_def, Array.getElem?_setIfInBounds_ne (show m ≠ i by omega)]
theorem DelInv.start {q : PP → Bool} {l : List PP} {k : Nat} (hk : k < l.length) (h : ∀ x ∈ l.take k, q x = true) (hx : ∃ x, l[k]? = some x ∧ q x = false) : DelInv q l (k + 1) k l.toArray := by
  obtain ⟨x, hx, hq⟩ := hx
  have e0 : (l.take k).filter q = l.take k := List.filter_eq_self.2 h
  have hlen : (l.take k).length = k := by rw [List.length_take]; omega
  have h0 : DelInv q l k k l.toArray := ⟨by simp, Nat.le_refl _, by rw [e0, hlen], fun i hi => by
    rw [e0, List.getElem?_take, if_pos hi, List.getElem?_eq_getElem (by omega)]
    simp [getElem!_def, List.getElem?_eq_getElem (show i < l.length by omega)], fun i h1 h2 => by
    rw [List.getElem?_eq_getElem h2]
    simp [getElem!_def, List.getElem?_eq_getElem h2]⟩
  exact h0.skip hx hq
theorem delete_any (blk : Nat) (l : List PP) (v : Value) (w : World) (hl : l.length ≤ 4294967296) (hf : ∀ x ∈ l, x.1 < 4294967296 ∧ I64 x.2) (hr : OwnAt blk 0 w v l) :
    Calls Try.prog 97 #[v, .func (.func 99) #[] #[]] w fun e w' => ∃ v', e = .returned v' ∧ OwnAt blk 0 w' v' (l.filter V) ∧ Below blk w w' := by
  have HI := Lib.hid (index99_any l v w hl hf hr.rd)
  have HR := Lib.hid hr
  obtain ⟨cap, rfl, hcap, hH, hlt⟩ := hr
  have HH := Lib.hid hH
  have HF := Lib.hid hf
  clear hH hf
  go_enter Try.func97, Try.ntmps97
  go_wp2_with fail
  go_at_call 108
  refine HI.out.mono ?_
  rintro e w1 ⟨hb1, ⟨k, hk, rfl, hx, hno⟩ | ⟨rfl, hno⟩⟩
  · have HK : Hid (DelInv V l (k + 1) k l.toArray) := DelInv.start hk (fun x hx => by have := hno x hx; simpa using this) (hx.imp fun x h => ⟨h.1, by simpa using h.2⟩)
    have H1 := Lib.hid (holds_below HH.out hb1 hlt)
    have B1 := Lib.hid (hb1.mono (show blk ≤ w.heap.size by omega))
    have hlt1 : blk < w1.heap.size := Nat.lt_of_lt_of_le hlt hb1.size
    clear hx hno hb1
    have hd : ((k : Int) == -1) = false := by simp
    go_wp2
    go_loopg [5, 6, 7] l.length (fun g s5 s6 s7 wr => ∃ (j m : Nat) (dk : Array PP), s5 = .int .i64 m ∧ s6 = .int .i64 j ∧ m < j ∧ j ≤ l.length ∧ l.length - j ≤ g ∧ dk.size = l.length ∧ Hid (HoldsK encP 2 wr blk 0 dk ∧ Below blk w wr ∧ DelInv V l j m dk ∧ blk < wr.heap.size))
    case atStart => exact ⟨k + 1, k, l.toArray, rfl, by go_num, by omega, by omega, by omega, by simp, H1.out, B1.out, HK.out, hlt1⟩
    case round =>
      obtain ⟨j, m, dk, rfl, rfl, hmj, hj, hg, hsz, HV⟩ := hrel
      have hwr := HV.out.2.2.2
      by_cases hjl : j < l.length
      · obtain ⟨x, hx⟩ : ∃ x, l[j]? = some x := ⟨_, List.getElem?_eq_getElem hjl⟩
        have hxd : dk[j]! = x := by have := HV.out.2.2.1.high j (Nat.le_refl _) hjl; rw [hx] at this; exact (Option.some.inj this).symm
        have hfx := HF.out x (List.mem_of_getElem? hx)
        have HX := Lib.hid hx
        obtain ⟨a, n⟩ := x
        obtain ⟨⟨oa, on⟩, ho⟩ : ∃ x, dk[m]! = x := ⟨_, rfl⟩
        obtain ⟨c0, c1, c2, c3⟩ := hk_cells HV.out.1 (show j < dk.size by omega) hxd
        obtain ⟨o0, o1, o2, o3⟩ := hk_cells HV.out.1 (show m < dk.size by omega) ho
        simp only [Nat.zero_add] at c0 c1 c2 c3 o0 o1 o2 o3
        have HN : Hid (∀ W, Calls Try.prog 99 #[.agg #[.int .u32 (a : Int), .int .i64 n]] W fun e w' => e = .returned (.bool (!V (a, n))) ∧ Below W.heap.size W w') := fun W => notV_any (a, n) hfx.1 hfx.2 W
        clear hx hxd hfx ho
        cases hv : V (a, n)
        · have HQ := Lib.hid hv
          rw [hv] at HN
          clear hv
          go_wp2_with (go_at_call 99; refine (HN.out _).mono ?_; rintro e w3 ⟨rfl, hb⟩; have B3 := Lib.hid (below_then (below_alloc _ _) hb); clear hb)
          go_roundg (l.length - (j + 1))
          case measure => omega
          case rel =>
            exact ⟨j + 1, m, dk, rfl, by go_num, by omega, by omega, Nat.le_refl _, hsz, holds_below HV.out.1 B3.out hwr, HV.out.2.1.trans (B3.out.mono (by omega)), HV.out.2.2.1.skip HX.out HQ.out, Nat.lt_of_lt_of_le hwr B3.out.size⟩
        · have HQ := Lib.hid hv
          rw [hv] at HN
          clear hv
          go_wp2_with fail
          go_at_call 99
          refine (HN.out _).mono ?_
          rintro e w3 ⟨rfl, hb⟩
          have B3 := Lib.hid (below_then (below_alloc _ _) hb)
          have e0 := carry B3.out o0
          have e1 := carry B3.out o1
          have e2 := (B3.out.frozen (p := ⟨blk, m * 2, none⟩) hwr).trans o2
          have e3 := (B3.out.frozen (p := ⟨blk, m * 2 + 1, none⟩) hwr).trans o3
          have x0 := carry hb (p := ⟨wr.heap.size, 0, none⟩) (v := .int .u32 (a : Int)) (by simp)
          have x1 := carry hb (p := ⟨wr.heap.size, 1, none⟩) (v := .int .i64 n) (by simp)
          clear hb c0 c1 c2 c3 o0 o1 o2 o3
          go_wp2
          go_roundg (l.length - (j + 1))
          case measure => omega
          case rel =>
            have h3 := holds_below HV.out.1 B3.out hwr
            have hs := holds_store (W := w3) h3 (i := m) (by omega) (a, n)
            rw [Nat.zero_add] at hs
            have hb3 := HV.out.2.1.trans (B3.out.mono (by omega))
            exact ⟨j + 1, m + 1, dk.setIfInBounds m (a, n), by go_num, by go_num, by omega, by omega, Nat.le_refl _, by simpa using hsz, hs, setCells_below (Nat.le_refl _) (encP (a, n)) _ w3 hb3, HV.out.2.2.1.keep HX.out HQ.out, Nat.lt_of_lt_of_le hwr (by have := B3.out.size; simpa using this)⟩
      · have hjl' : j = l.length := by omega
        subst hjl'
        have hI := HV.out.2.2.1
        obtain ⟨vs, hvl, hcl⟩ := clear_two (P := Try.prog) wr 22 28 (.int .u32 0) (.int .i64 0) Try.underlying22 Try.zeroValue28 rfl rfl blk (m * 2) (l.length - m) (cap - m) (by omega)
                (fun j hj => by have := (HV.out.1 (m * 2 + j) (by rw [size_flatK]; omega)).1; rw [Nat.zero_add] at this; rw [this]; rfl) (fun j hj => by have := (HV.out.1 (m * 2 + j) (by rw [size_flatK]; omega)).2; rw [Nat.zero_add] at this; exact this)
        have HL := Lib.hid hvl
        have HI2 := Lib.hid hI
        clear hvl hI
        go_wp2
        go_ret
        have hfl : (l.filter V).length = m := by have := HI2.out.len; rwa [List.take_length] at this
        refine ⟨.slice (some ⟨blk, 0, none⟩) m cap, rfl, ⟨cap, by rw [hfl], by rw [hfl]; omega, holds_of fun i x hx => ?_, by simpa using hwr⟩, setCells_below (Nat.le_refl _) vs _ wr HV.out.2.1⟩
        have hi : i < m := by have := (List.getElem?_eq_some_iff.1 hx).1; omega
        have hxd : dk[i]! = (x.1, x.2) := by have := HI2.out.low i hi; rw [List.take_length, hx] at this; exact (Option.some.inj this).symm
        have hc := hk_cells HV.out.1 (show i < dk.size by omega) hxd
        exact ⟨(World.cell?_setCells_out blk vs _ wr ⟨blk, 0 + i * 2, none⟩ (fun _ _ => .inl (by show 0 + i * 2 < m * 2; omega))).trans hc.1, (World.cell?_setCells_out blk vs _ wr ⟨blk, 0 + i * 2 + 1, none⟩ (fun _ _ => .inl (by show 0 + i * 2 + 1 < m * 2; omega))).trans hc.2.1,
          (World.frozen?_setCells blk vs _ wr _).trans hc.2.2.1, (World.frozen?_setCells blk vs _ wr _).trans hc.2.2.2⟩
  · have HN : Hid (l.filter V = l) := List.filter_eq_self.2 fun x hx => by have := hno x hx; simpa using this
    have B1 := Lib.hid (hb1.mono (show blk ≤ w.heap.size by omega))
    have H1 := Lib.hid (holds_below HH.out hb1 hlt)
    have hlt1 : blk < w1.heap.size := Nat.lt_of_lt_of_le hlt hb1.size
    clear hno hb1
    go_wp2
    go_ret
    exact ⟨_, rfl, by rw [HN.out]; exact ⟨cap, rfl, hcap, H1.out, hlt1⟩, B1.out⟩
theorem index99_none (w : World) : Calls Try.prog 108 #[.slice none 0 0, .func (.func 99) #[] #[]] w fun e w' => e = .returned (.int .i64 (-1)) ∧ Below w.heap.size w w' :=
  (index99_any [] _ w (by simp) (by simp) (rd_nil w)).mono fun e w' h => by
    obtain ⟨hb, ⟨k, hk, _⟩ | ⟨rfl, _⟩⟩ := h
    · simp at hk
    · exact ⟨rfl, hb⟩
theorem delete_none (w : World) : Calls Try.prog 97 #[.slice none 0 0, .func (.func 99) #[] #[]] w fun e w' => e = .returned (.slice none 0 0) ∧ Below w.heap.size w w' := by
  have HI := fun W => index99_none W
  go_enter Try.func97, Try.ntmps97
  go_wp2_with (go_at_call 108; refine (HI _).mono ?_; rintro e w1 ⟨rfl, hb⟩; have B := Lib.hid hb; clear hb)
  go_ret
  exact ⟨rfl, B.out⟩
theorem ascd_len (l : List PP) : (ascd l).length ≤ l.length := by
  unfold ascd
  refine Nat.le_trans (List.length_filter_le _ _) ?_
  have := sortR_le l l.length
  rwa [List.take_length] at this
theorem ascending_any (l : List PP) (v : Value) (w : World) (hl : l.length ≤ 4294967296) (hf : ∀ x ∈ l, x.1 < 4294967296 ∧ I64 x.2) (hr : Rd w v l) :
    Calls Try.prog 59 #[v] w fun e w' => ∃ v', e = .returned v' ∧ OwnS w.heap.size w' v' (ascd l) ∧ Below w.heap.size w w' := by
  have HS := Lib.hid (sort_any l v w hl hr)
  have hsl : (sortR l).length ≤ 4294967296 := by have := sortR_le l l.length; rw [List.take_length] at this; omega
  have hsf : Hid (∀ x ∈ sortR l, x.1 < 4294967296 ∧ I64 x.2) := fun x hx => hf x ((mem_sortR l x).1 hx)
  clear hr hf
  go_enter Try.func59, Try.ntmps59
  go_wp2_with fail
  go_at_call 98
  refine HS.out.mono ?_
  rintro e w1 ⟨v1, rfl, ho, hb⟩
  rcases ho with ⟨rfl, he⟩ | ⟨g, hg, ho⟩
  · have B1 := Lib.hid hb
    have HE : Hid (ascd l = []) := by show ascd l = []; unfold ascd; rw [he]; rfl
    clear hb he
    go_wp2_with (go_at_call 97; refine (delete_none _).mono ?_; rintro e w2 ⟨rfl, hb⟩; have B2 := Lib.hid (below_then B1.out hb); clear hb)
    go_ret
    exact ⟨_, rfl, .inl ⟨rfl, HE.out⟩, B2.out⟩
  · have B1 := Lib.hid hb
    have HD := Lib.hid (delete_any g _ v1 w1 hsl hsf.out ho)
    have HG := Lib.hid hg
    obtain ⟨cap, rfl, _⟩ := ho
    clear hb hg
    go_wp2_with (go_at_call 97; refine HD.out.mono ?_; rintro e w2 ⟨v2, rfl, ho2, hb2⟩; have O2 := Lib.hid ho2; have B2 := Lib.hid (B1.out.trans (hb2.mono HG.out)); clear ho2 hb2)
    go_ret
    exact ⟨_, rfl, .inr ⟨g, HG.out, O2.out⟩, B2.out⟩
end Go.Proofs.Ytegponbmelgngaa
end
