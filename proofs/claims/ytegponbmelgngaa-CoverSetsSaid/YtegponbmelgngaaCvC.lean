/-
  The walk of split and of the closures that say what is kept.
-/
import Derived.Test.YtegponbmelgngaaCvB
namespace Go.Proofs.Ytegponbmelgngaa
open Go.RowKit
set_option linter.unusedSimpArgs false
set_option linter.unusedVariables false
set_option maxHeartbeats 4000000
set_option maxRecDepth 100000

theorem split_true (v : Value) (p h : PP) (w : World) (HU : ∀ W, Below w.heap.size w W → Calls Try.prog 106 #[v, .agg #[.int .u32 (p.1 : Int), .int .i64 p.2]] W fun e w' => e = .returned (.bool true) ∧ Below W.heap.size W w') :
    Calls Try.prog 107 #[v, .agg #[.int .u32 (p.1 : Int), .int .i64 p.2], .agg #[.int .u32 (h.1 : Int), .int .i64 h.2]] w fun e w' => e = .returned (.tuple #[v, v]) ∧ Below w.heap.size w w' := by
  obtain ⟨a, n⟩ := p
  obtain ⟨b, m⟩ := h
  have HU := Lib.hid HU
  have B0 : Hid (∀ o1 o2, Below w.heap.size w ((w.alloc o1).alloc o2)) := fun o1 o2 => below_then (below_alloc _ _) (below_alloc _ _)
  go_enter Try.func107, Try.ntmps107
  go_wp2_with (go_at_call 106; refine (HU.out _ (B0.out _ _)).mono ?_; rintro e w1 ⟨rfl, hb⟩; have B := Lib.hid (below_then (B0.out _ _) hb); clear hb)
  go_ret2
  exact ⟨rfl, B.out⟩
theorem rdK_take {K : Nat → Prop} {w : World} {ad : Option Addr} {n cap : Nat} {l : List PP} {i : Nat} (h : RdK K w (.slice ad n cap) l) (hi : i ≤ l.length) : RdK K w (.slice ad i cap) (l.take i) := by
  obtain ⟨ad', cap', he, hcap, hc⟩ := h
  cases he
  refine ⟨ad, cap, by rw [List.length_take, Nat.min_eq_left hi], by rw [List.length_take]; omega, fun k x hk => ?_⟩
  have hki : k < i := by have := (List.getElem?_eq_some_iff.1 hk).1; rw [List.length_take] at this; omega
  rw [List.getElem?_take, if_pos hki] at hk
  exact hc k x hk
theorem rdK_drop {K : Nat → Prop} {w : World} {b off n cap : Nat} {l : List PP} {i : Nat} (h : RdK K w (.slice (some ⟨b, off, none⟩) n cap) l) (hi : i ≤ l.length) : RdK K w (.slice (some ⟨b, off + i * 2, none⟩) (n - i) (cap - i)) (l.drop i) := by
  obtain ⟨ad', cap', he, hcap, hc⟩ := h
  cases he
  refine ⟨_, cap - i, by rw [List.length_drop], by rw [List.length_drop]; omega, fun k x hk => ?_⟩
  rw [List.getElem?_drop] at hk
  obtain ⟨b', off', e, hK, h0, h1⟩ := hc (i + k) x hk
  cases e
  exact ⟨b, off + i * 2, rfl, hK, by rw [show off + i * 2 + k * 2 = off + (i + k) * 2 by omega]; exact h0, by rw [show off + i * 2 + k * 2 = off + (i + k) * 2 by omega]; exact h1⟩
theorem rdK_empty {K : Nat → Prop} {w : World} {ad : Option Addr} {cap : Nat} : RdK K w (.slice ad 0 cap) [] := ⟨ad, cap, rfl, Nat.zero_le _, fun k x h => by simp at h⟩
theorem split_false (K : Nat → Prop) (l : List PP) (v : Value) (p h : PP) (w : World) (hl : l.length ≤ 4294967296) (ha : l.Pairwise ltP) (hr : RdK K w v l) (hne : l ≠ []) (HU : ∀ W, Below w.heap.size w W → Calls Try.prog 106 #[v, .agg #[.int .u32 (p.1 : Int), .int .i64 p.2]] W fun e w' => e = .returned (.bool false) ∧ Below W.heap.size W w') :
    Calls Try.prog 107 #[v, .agg #[.int .u32 (p.1 : Int), .int .i64 p.2], .agg #[.int .u32 (h.1 : Int), .int .i64 h.2]] w fun e w' => ∃ v1 v2 i, e = .returned (.tuple #[v1, v2]) ∧ RdK K w v1 (l.take i) ∧ RdK K w v2 (l.drop i) ∧ BsInv h l i i ∧ Below w.heap.size w w' := by
  have hrd := hr.rd
  have HS : Hid (∀ W, Below w.heap.size w W → Calls Try.prog 138 #[v, .agg #[.int .u32 (h.1 : Int), .int .i64 h.2], .func (.func 84) #[] #[]] W fun e w' => ∃ (i : Nat) (z : Bool), e = .returned (.tuple #[.int .i64 (i : Int), .bool z]) ∧ BsInv h l i i ∧ Below W.heap.size W w') :=
    fun W hW => bsearch_any l v h W hl ha (hrd.below hW)
  have HR := Lib.hid hr
  obtain ⟨ad, cap, rfl, hcap, hc⟩ := hr
  obtain ⟨x, hx⟩ : ∃ x, l[0]? = some x := by cases l with
    | nil => exact absurd rfl hne
    | cons x r => exact ⟨x, rfl⟩
  obtain ⟨blk, off, rfl, _⟩ := hc 0 x hx
  obtain ⟨a, n⟩ := p
  obtain ⟨b, m⟩ := h
  have HU := Lib.hid HU
  have B0 : Hid (∀ o1 o2, Below w.heap.size w ((w.alloc o1).alloc o2)) := fun o1 o2 => below_then (below_alloc _ _) (below_alloc _ _)
  clear hc hrd hne hx
  go_enter Try.func107, Try.ntmps107
  go_wp2_with fail
  go_at_call 106
  refine (HU.out _ (B0.out _ _)).mono ?_
  rintro e w1 ⟨rfl, hb⟩
  have B := Lib.hid (below_then (B0.out _ _) hb)
  obtain ⟨hc1, hf1⟩ := bcell hb
  have hz1 : w.heap.size + 1 < w1.heap.size := by have := hb.size; simp at this; omega
  clear hb
  go_wp2_with fail
  go_at_call 138
  refine (HS.out _ B.out).mono ?_
  rintro e w2 ⟨i, z, rfl, hI, hb⟩
  have B2 := Lib.hid (below_then B.out hb)
  have HI := Lib.hid hI
  have hiN : i ≤ l.length := hI.2.1
  clear hb hI hc1 hf1
  by_cases hic : i = cap
  · subst hic
    have hlen : Hid (l.length = i) := by show _ = _; omega
    go_wp2_with fail
    go_quiet (fail)
    go_wp2
    go_ret2
    exact ⟨_, .slice (some ⟨blk, off, none⟩) 0 0, i, rfl, rdK_take HR.out hiN, by rw [List.drop_eq_nil_of_le (by rw [hlen.out]; exact Nat.le_refl _)]; exact rdK_empty, HI.out, below_drewN B2.out _⟩
  · have hic2 : ¬ cap = i := fun e => hic e.symm
    go_wp2_with fail
    go_quiet (fail)
    go_wp2
    go_ret2
    exact ⟨_, _, i, rfl, rdK_take HR.out hiN, rdK_drop HR.out hiN, HI.out, below_drewN B2.out _⟩
/- the closures -/
theorem keepU_any (x y : Bool) (w : World) : Calls Try.prog 67 #[.bool x, .bool y] w fun e w' => e = .returned (.bool (x || y)) ∧ w = w' := by
  cases x <;> cases y <;> (go_enter Try.func67, Try.ntmps67; go_wp2; go_ret; exact ⟨rfl, rfl⟩)
theorem keepI_any (x y : Bool) (w : World) : Calls Try.prog 68 #[.bool x, .bool y] w fun e w' => e = .returned (.bool (x && y)) ∧ w = w' := by
  cases x <;> cases y <;> (go_enter Try.func68, Try.ntmps68; go_wp2; go_ret; exact ⟨rfl, rfl⟩)
theorem keepS_any (x y : Bool) (w : World) : Calls Try.prog 70 #[.bool x, .bool y] w fun e w' => e = .returned (.bool (x && !y)) ∧ w = w' := by
  cases x <;> cases y <;> (go_enter Try.func70, Try.ntmps70; go_wp2; go_ret; exact ⟨rfl, rfl⟩)
end Go.Proofs.Ytegponbmelgngaa
