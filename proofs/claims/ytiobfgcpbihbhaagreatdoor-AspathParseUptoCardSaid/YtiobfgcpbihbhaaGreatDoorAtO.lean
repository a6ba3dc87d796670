/-
  The walk of the reader's extend.
-/
import Derived.Test.YtiobfgcpbihbhaaGreatDoorAtL
import Derived.Test.YtiobfgcpbihbhaaGreatDoorAtK
import Derived.Deep.RegionLaw
import Derived.BigQuiet
namespace Go.Proofs.YtiobfgcpbihbhaaGreatDoor
open Go.RowKit P
set_option linter.unusedSimpArgs false
set_option linter.unusedVariables false
set_option maxHeartbeats 2000000
set_option maxRecDepth 100000
theorem P.ext_nil (k x : Int) : ext k x [] = [⟨k, [x]⟩] := rfl
theorem P.ext_snoc (k x : Int) (p : List Sg) (s : Sg) : ext k x (p ++ [s]) = if s.k = k ∧ s.as.length ≠ 255 then p ++ [⟨k, s.as ++ [x]⟩] else p ++ [s] ++ [⟨k, [x]⟩] := by
  unfold ext
  rw [List.getLast?_concat]
  simp
theorem ext_in (B b : Nat) (k x : Int) (v : Value) (p0 : List Sg) (ns : List Int) (en : Bool) (w : World) (hr : RdrI B b v (p0 ++ [⟨k, ns⟩], en) w) (hp : p0.length ≤ 1000000) (hns : ns.length ≤ 1000000) (h255 : ns.length ≠ 255) :
    Calls Tryz.prog 108 #[.pointer (some ⟨b, 0, none⟩), .int .i64 k, .int .i64 x] w fun e w' => e = .returned (.tuple #[]) ∧ Below B w w' ∧ ∃ v', RdrI B b v' (ext k x (p0 ++ [⟨k, ns⟩]), en) w' := by
  have HEX : Hid (ext k x (p0 ++ [⟨k, ns⟩]) = p0 ++ [⟨k, ns ++ [x]⟩]) := by show _ = _; rw [ext_snoc, if_pos ⟨rfl, h255⟩]
  generalize ext k x (p0 ++ [⟨k, ns⟩]) = EX at *
  have HLO : Hid (B ≤ b) := hr.lo.1
  have HLO2 : Hid (b < w.heap.size) := hr.lo.2
  have hrr := hr.row
  have hrb := hr.blk
  dsimp only at hrr hrb
  obtain ⟨g, cap, q, hve, ho, hgb, hn⟩ : ∃ g cap q, v = .slice (some ⟨g, 0, none⟩) (p0.length + 1) cap ∧ w.ownsRow B 46 2 v (p0.length + 1) (flatQ q) ∧ g ≠ b ∧ NumsR B g b w q (p0 ++ [⟨k, ns⟩]) := by
    rcases id hrr with ⟨_, e⟩ | ⟨g, cap, q, e, ho, hgb, hn⟩
    · simp at e
    · have el : (p0 ++ [(⟨k, ns⟩ : Sg)]).length = p0.length + 1 := by simp
      rw [el] at e ho
      exact ⟨g, cap, q, e, ho, hgb, hn⟩
  obtain ⟨m, hm⟩ : ∃ m, p0.length = m := ⟨_, rfl⟩
  rw [hm] at hve ho hp
  have hpm : (p0 ++ [(⟨k, ns⟩ : Sg)])[m]? = some ⟨k, ns⟩ := by rw [← hm]; simp
  obtain ⟨u, hqm, hru⟩ := hn.prs.2 m _ hpm
  dsimp only at hqm hru
  obtain ⟨ua, uc, hf⟩ := hru.rd.form
  subst hf
  obtain ⟨U, hU⟩ : ∃ U, ns.length = U := ⟨_, rfl⟩
  rw [hU] at hqm hru h255
  subst hve
  obtain ⟨f1, f2⟩ := flatQ_get hqm
  have hfl : (flatQ q).length = (m + 1) * 2 := by rw [flatQ_len, hn.prs.1]; simp [hm]
  have d0 : w.cell? ⟨g, m * 2, none⟩ = some (.int .i64 k) := by rw [ho.cellAt (m * 2) (by omega)]; exact f1
  have d1 : w.cell? ⟨g, m * 2 + 1, none⟩ = some (.slice ua U uc) := by rw [ho.cellAt (m * 2 + 1) (by omega)]; exact f2
  have d3 : w.cell? ⟨b, 0, none⟩ = some (.slice (some ⟨g, 0, none⟩) (m + 1) cap) := cell_of hrb rfl
  have HROW0 := Lib.hid hrr
  have HBK0 := Lib.hid hrb
  have hgl := ownsRow_lt ho
  have HGL := Lib.hid hgl
  have HM := Lib.hid hm
  have HUU := Lib.hid hU
  have HNS := Lib.hid hns
  have HRd : Hid (RdI w (.slice ua U uc) ns) := hru.rd
  have k0 : (0 : Int) ≤ (m : Int) := by omega
  have k1 : IntKind.i64.wrap ((m : Int) + 1 - 1) = (m : Int) := by rw [IntWalk.i64_in _ (by omega)]; omega
  have k2 : (m : Int) < (m : Int) + 1 := by omega
  have k3 : decide ((m : Int) < 0) = false := decide_eq_false (by omega)
  have k4 : ((U : Int) == 255) = false := by rw [beq_eq_false_iff_ne]; omega
  have k5 : (U == 255) = false := by rw [beq_eq_false_iff_ne]; omega
  have HI1 : Hid (RdI (w.alloc (.cells #[.int .i64 k] 3)) (.slice (some ⟨w.heap.size, 0, none⟩) 1 1) [k]) := rdi_at _ [k] 3 _ rfl _ rfl _ rfl (by simp)
  clear hr hrr hrb ho hn hpm hqm hru f1 f2 hfl hm hU hgl hgb hns
  go_enter Tryz.func108, Tryz.ntmps108
  go_wp2_with fail
  go_at_call 44
  refine (isOf_any k (.slice ua U uc) _ [k] _ HI1.out rfl).mono ?_
  rintro e w1 ⟨rfl, hb⟩
  have e1 : decide (k ∈ [k]) = true := by simp
  rw [e1]
  have HB1 := Lib.hid (below_then (below_alloc w _) hb)
  have t1 := carry HB1.out d1
  have t0 := carry HB1.out d0
  have t3 := carry HB1.out d3
  clear hb d0 d1 d3 HI1 e1
  go_wp2_with fail
  have HROW : Hid (RowR B b (.slice (some ⟨g, 0, none⟩) (m + 1) cap) (p0 ++ [⟨k, ns⟩]) w1) := HROW0.out.below HB1.out
  have HBK : Hid (w1.heap[b]? = some (.cells #[.slice (some ⟨g, 0, none⟩) (m + 1) cap, .bool en] 70 (0, 0))) := (HB1.out.block b HLO2.out).trans HBK0.out
  have HBW : Hid (Below B w w1) := HB1.out.mono (by have := HLO.out; have := HLO2.out; omega)
  obtain ⟨V0, hV0⟩ : ∃ V0, Value.slice (some ⟨g, 0, none⟩) (m + 1) cap = V0 := ⟨_, rfl⟩
  rw [hV0] at HROW HBK
  clear HROW0 HBK0 HGL HM HUU HRd k0 k1 k2 k3 k4 k5 h255 t0 t1 t3
  -- the number behind the last segment
  have hrow := HROW.out
  obtain ⟨g, cap, q, hve, ho, hgb, hn⟩ : ∃ g cap q, V0 = .slice (some ⟨g, 0, none⟩) (p0.length + 1) cap ∧ w1.ownsRow B 46 2 V0 (p0.length + 1) (flatQ q) ∧ g ≠ b ∧ NumsR B g b w1 q (p0 ++ [⟨k, ns⟩]) := by
    rcases hrow with ⟨_, e⟩ | ⟨g, cap, q, e, ho, hgb, hn⟩
    · simp at e
    · have el : (p0 ++ [(⟨k, ns⟩ : Sg)]).length = p0.length + 1 := by simp
      rw [el] at e ho
      exact ⟨g, cap, q, e, ho, hgb, hn⟩
  obtain ⟨m, hm⟩ : ∃ m, p0.length = m := ⟨_, rfl⟩
  rw [hm] at hve ho
  have hpm : (p0 ++ [(⟨k, ns⟩ : Sg)])[m]? = some ⟨k, ns⟩ := by rw [← hm]; simp
  obtain ⟨u, hqm, hru⟩ := hn.prs.2 m _ hpm
  obtain ⟨hl1, hl2⟩ := hn.last ⟨k, ns⟩ u (by simp [hm]) (by simp [hm]; exact hqm)
  dsimp only at hl1 hqm
  obtain ⟨ua, uc, hf⟩ := hl1.rd.form
  subst hf
  obtain ⟨U, hU⟩ : ∃ U, ns.length = U := ⟨_, rfl⟩
  rw [hU] at hqm hl1 hl2
  subst hve
  cases hV0
  obtain ⟨f1, f2⟩ := flatQ_get hqm
  have hfl : (flatQ q).length = (m + 1) * 2 := by rw [flatQ_len, hn.prs.1]; simp [hm]
  have d1 : w1.cell? ⟨g, m * 2 + 1, none⟩ = some (.slice ua U uc) := by rw [ho.cellAt (m * 2 + 1) (by omega)]; exact f2
  have d2 : w1.frozen? ⟨g, m * 2 + 1, none⟩ = false := ownsRow_free ho _
  have d3 : w1.cell? ⟨b, 0, none⟩ = some (.slice (some ⟨g, 0, none⟩) (m + 1) cap) := cell_of HBK.out rfl
  have hgl := ownsRow_lt ho
  have hbl : b < w1.heap.size := lt_block HBK.out
  have a0 : (w1.drew.alloc (.cells #[.int .i64 x] 3)).cell? ⟨b, 0, none⟩ = some (.slice (some ⟨g, 0, none⟩) (m + 1) cap) := (World.cell?_of_block (Below.heap_alloc w1.drew _ b hbl)).trans d3
  have a1 : (w1.drew.alloc (.cells #[.int .i64 x] 3)).cell? ⟨g, m * 2 + 1, none⟩ = some (.slice ua U uc) := (World.cell?_of_block (Below.heap_alloc w1.drew _ g hgl.2)).trans d1
  have HOW : Hid ((w1.drew.alloc (.cells #[.int .i64 x] 3)).ownsRow B 3 1 (.slice ua U uc) U (ints ns)) := by
    have := hl1.below ((Below.refl _ w1).drew.alloc (Nat.le_refl _) (.cells #[.int .i64 x] 3))
    rw [← hU]; rw [← hU] at this; exact this.2
  have HCE : Hid (∀ j y, [Value.int .i64 x][j]? = some y → (w1.drew.alloc (.cells #[.int .i64 x] 3)).cell? ((⟨w1.heap.size, 0, none⟩ : Addr).add j) = some y) := fun j y hj => by
    match j, hj with
    | 0, hj => simp at hj; subst hj; rw [Addr.add_lit]; exact cell_of (World.alloc_heap_new w1.drew _) rfl
    | j + 1, hj => simp at hj
  have HON : Hid (∀ y ∈ [Value.int .i64 x], y.oneCell' = true) := fun y hy => by simp at hy; subst hy; rfl
  have hUl : U ≤ 2000000 := by rw [← hU]; exact (by have := HNS.out; omega)
  have HMX : Hid (U + 1 ≤ maxLen) := by show _ ≤ _; unfold maxLen; omega
  have HBY : Hid ((U + 1) * 8 ≤ 140737488355328) := by show _ ≤ _; omega
  have HBB : Hid (B ≤ (w1.drew.alloc (.cells #[.int .i64 x] 3)).heap.size) := by show _ ≤ _; simp; omega
  have HPU : Hid (∀ (w12 : World) (g' cap' : Nat), w12.ownsRow B 3 1 (.slice (some ⟨g', 0, none⟩) (U + 1) cap') (U + 1) (ints ns ++ [.int .i64 x]) → (w1.drew.alloc (.cells #[.int .i64 x] 3)).grownBy w12 (Value.slice ua U uc).ownBlock → ((Value.slice ua U uc).ownBlock = some g' ∨ g' = (w1.drew.alloc (.cells #[.int .i64 x] 3)).heap.size) →
      RdrI B b (.slice (some ⟨g, 0, none⟩) (m + 1) cap) (p0 ++ [⟨k, ns ++ [x]⟩], en) (w12.setCell ⟨g, m * 2 + 1, none⟩ (.slice (some ⟨g', 0, none⟩) (U + 1) cap')) ∧ Below B w (w12.setCell ⟨g, m * 2 + 1, none⟩ (.slice (some ⟨g', 0, none⟩) (U + 1) cap')) ∧ w12.cell? ⟨b, 0, none⟩ = some (.slice (some ⟨g, 0, none⟩) (m + 1) cap) ∧ w12.cell? ⟨g, m * 2 + 1, none⟩ = some (.slice ua U uc) ∧ w12.frozen? ⟨g, m * 2 + 1, none⟩ = false) := fun w12 g' cap' b1 b2 b3 => by
    have hw2 : Below w1.heap.size w1 (w1.drew.alloc (.cells #[.int .i64 x] 3)) := (Below.refl _ w1).drew.alloc (Nat.le_refl _) _
    have hnb : ∀ j, (Value.slice ua U uc).ownBlock = some j → j ≠ g ∧ j ≠ b := fun j hj => ⟨(hl2 j hj).1, (hl2 j hj).2.1⟩
    have hlt : ∀ j, (Value.slice ua U uc).ownBlock = some j → B ≤ j := fun j hj => by rw [← hU] at hj hl1; exact (hl1.lt j hj).1
    have keepb : w12.heap[b]? = w1.heap[b]? := (b2.block b (by simp; omega) (fun e => (hnb b e.symm).2 rfl)).trans (hw2.block b hbl)
    have keepg : w12.heap[g]? = w1.heap[g]? := (b2.block g (by simp; omega) (fun e => (hnb g e.symm).1 rfl)).trans (hw2.block g hgl.2)
    have hou : OwnI B w12 (.slice (some ⟨g', 0, none⟩) (U + 1) cap') (ns ++ [x]) := ⟨by have := b2.size; simp at this; omega, by rw [ints_app, List.length_append, hU]; exact b1⟩
    have hbw : Below B w w12 := (HBW.out.trans (hw2.mono (by omega))).grown b2 (by simp; omega) (fun j e => hlt j e)
    refine ⟨⟨⟨HLO.out, by have := b2.size; simp at this ⊢; omega⟩, (heap_set_ne (fun e => hgb e.symm)).trans (keepb.trans HBK.out), RowR.more hm hgb ho hn hqm hbl hw2 hou b2 (fun h hh => by cases hh; exact b3)⟩, hbw.setCell hgl.1 _, (World.cell?_of_block keepb).trans d3, (World.cell?_of_block keepg).trans d1, ?_⟩
    have : w12.frozen? ⟨g, m * 2 + 1, none⟩ = w1.frozen? ⟨g, m * 2 + 1, none⟩ := by simp only [World.frozen?, keepg]
    rw [this]; exact d2
  have k0 : (0 : Int) ≤ (m : Int) := by omega
  have k1 : (m : Int) < (m : Int) + 1 := by omega
  have k2 : (m : Int) < ((m + 1 : Nat) : Int) := by omega
  obtain ⟨i0, hi, hz0, hz1, hz2⟩ := infoE_parts info3
  clear hrow ho hn hl1 hl2 hqm hru f1 f2 hpm HROW hfl 
  go_region_law ((refine step_append_lies _ (by rfl) (.tmp 65) (.tmp 67) 34 (by rfl) B 3 i0 (.int .i64 0) 1 8 Tryz.underlying34 hi hz0 hz1 hz2 rfl (by decide) (.slice ua U uc) U (ints ns) (by rfl) HOW.out ⟨w1.heap.size, 0, none⟩ 1 1 [.int .i64 x] (by rfl) rfl HCE.out HON.out (by decide) HMX.out HBY.out HBB.out _ rfl ?_; intro g' cap' w12 b1 b2 b3 b4; have HPP := Lib.hid (HPU.out w12 g' cap' b1 b2 b3); have q12 := HPP.out.2.2.1; have q13 := HPP.out.2.2.2.1; have q14 := HPP.out.2.2.2.2; clear b1 b2 b3 b4))
  all_goals (
    go_wp2
    go_end0
    exact ⟨rfl, HPP.out.2.1, _, by rw [HEX.out]; exact HPP.out.1⟩)
end Go.Proofs.YtiobfgcpbihbhaaGreatDoor
