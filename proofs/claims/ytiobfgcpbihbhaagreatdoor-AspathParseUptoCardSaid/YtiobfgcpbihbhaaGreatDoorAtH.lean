/-
  strings.SplitSeq at one byte: what it hands back, and its iterator, which stores into a box of its own.
-/
import Derived.RangeFuncNested
import Derived.RangeFuncBound
import Derived.RangeFuncCalls
import Derived.RangeFuncLeaves
import Derived.Shelf.Abstract
import Derived.Shelf.RegionOpen
import Derived.WalkKit
import Derived.OwnWalkIn
import Derived.TacticsInMore
import Derived.LoopNIn
import Derived.LoopIn
import Derived.Test.YtiobfgcpbihbhaaGreatDoorAtF
namespace Go.Proofs.YtiobfgcpbihbhaaGreatDoor
open Go.RowKit Go.Shelf
attribute [local go_sem] Oper.semAt_some
set_option linter.unusedSimpArgs false
set_option linter.unusedVariables false
set_option maxHeartbeats 1500000
set_option maxRecDepth 100000
theorem splitseq0 (l : List UInt8) (c : UInt8) (w : World) :
    Calls Tryz.prog 127 #[.string (bs l), .string ⟨#[c]⟩, .int .i64 0] w fun e w' => e = .returned (.func (.func 145) #[] #[.pointer (some ⟨w.heap.size + 1, 0, none⟩), .pointer (some ⟨w.heap.size, 0, none⟩), .pointer (some ⟨w.heap.size + 2, 0, none⟩)]) ∧ w' = ((w.alloc (.cells #[.string (bs l)] 9)).alloc (.cells #[.string ⟨#[c]⟩] 9)).alloc (.cells #[.int .i64 0] 3) := by
  go_enter Tryz.func127, Tryz.ntmps127
  go_wp2
  go_ret
  exact ⟨rfl, rfl⟩
theorem splitseq (l : List UInt8) (c : UInt8) (w : World) :
    Calls Tryz.prog 105 #[.string (bs l), .string ⟨#[c]⟩] w fun e w' => e = .returned (.func (.func 145) #[] #[.pointer (some ⟨w.heap.size + 1, 0, none⟩), .pointer (some ⟨w.heap.size, 0, none⟩), .pointer (some ⟨w.heap.size + 2, 0, none⟩)]) ∧ w' = ((w.alloc (.cells #[.string (bs l)] 9)).alloc (.cells #[.string ⟨#[c]⟩] 9)).alloc (.cells #[.int .i64 0] 3) := by
  go_enter Tryz.func105, Tryz.ntmps105
  go_wp2_with (go_at_call 127; refine (splitseq0 l c _).mono ?_; rintro e w' ⟨rfl, rfl⟩)
  go_ret
  exact ⟨rfl, rfl⟩
/-- the boxes of the iterator: what is left of the string, the separator, 0 -/
structure Bx (Bs : Nat) (c : UInt8) (r : List UInt8) (W : World) : Prop where
  s : W.cell? ⟨Bs, 0, none⟩ = some (.string (bs r))
  sep : W.cell? ⟨Bs + 1, 0, none⟩ = some (.string ⟨#[c]⟩)
  z : W.cell? ⟨Bs + 2, 0, none⟩ = some (.int .i64 0)
  f : W.frozen? ⟨Bs, 0, none⟩ = false
/-- what a round must keep: the three boxes -/
def KeepB (Bs : Nat) (W W' : World) : Prop := ∀ k, k = Bs ∨ k = Bs + 1 ∨ k = Bs + 2 → W'.heap[k]? = W.heap[k]?
theorem cell_same {W W' : World} {b o : Nat} (h : W'.heap[b]? = W.heap[b]?) : W'.cell? ⟨b, o, none⟩ = W.cell? ⟨b, o, none⟩ := World.cell?_of_block h
theorem frozen_same {W W' : World} {b o : Nat} (h : W'.heap[b]? = W.heap[b]?) : W'.frozen? ⟨b, o, none⟩ = W.frozen? ⟨b, o, none⟩ := by simp only [World.frozen?, h]
theorem Bx.keep {Bs : Nat} {c : UInt8} {r : List UInt8} {W W' : World} (h : Bx Bs c r W) (hk : KeepB Bs W W') : Bx Bs c r W' :=
  ⟨(cell_same (hk _ (.inl rfl))).trans h.s, (cell_same (hk _ (.inr (.inl rfl)))).trans h.sep, (cell_same (hk _ (.inr (.inr rfl)))).trans h.z, (frozen_same (hk _ (.inl rfl))).trans h.f⟩
theorem Bx.put {Bs : Nat} {c : UInt8} {r r' : List UInt8} {W : World} (h : Bx Bs c r W) : Bx Bs c r' (W.setCell ⟨Bs, 0, none⟩ (.string (bs r'))) :=
  ⟨World.cell?_setCell_same' _ _ _ (by rw [h.s]; rfl), (World.cell?_of_block (heap_set_ne (show Bs + 1 ≠ Bs by omega))).trans h.sep, (World.cell?_of_block (heap_set_ne (show Bs + 2 ≠ Bs by omega))).trans h.z, by simpa using h.f⟩
def lenAt (Bs : Nat) (W : World) : Nat := match W.cell? ⟨Bs, 0, none⟩ with | some (.string s) => s.size | _ => 0
theorem lenAt_is {Bs : Nat} {c : UInt8} {r : List UInt8} {W : World} (h : Bx Bs c r W) : lenAt Bs W = r.length := by unfold lenAt; rw [h.s]; exact bs_size r
theorem ext_take (l : List UInt8) (i : Nat) : (bs l).extract 0 i = bs (l.take i) := by apply ByteArray.ext; simp [bs]
theorem ext_drop (l : List UInt8) (i : Nat) : (bs l).extract i (bs l).size = bs (l.drop i) := by
  apply ByteArray.ext
  rw [bs_size]; simp [bs]; exact List.take_of_length_le (by simp)
theorem iter_any (c : UInt8) (l : List UInt8) (hl : l.length ≤ 140737488355328) (n lp Bs : Nat) (hn1 : 1 ≤ n) (J Jx : List (List UInt8) → World → Prop) (W : World)
    (hJs : ∀ pre W1 v, J pre W1 → J pre (W1.setCell ⟨Bs, 0, none⟩ v))
    (hY : ∀ pre x W1, J pre W1 → (pre ++ [x]) <+: T.parts c l → YieldAt Fence.wide (n - 1) Tryz.prog lp #[.string (bs x)] W1 fun e W' =>
      (e = .returned (.bool true) ∧ J (pre ++ [x]) W' ∧ KeepB Bs W1 W') ∨ (e = .returned (.bool false) ∧ Jx (pre ++ [x]) W'))
    (hs : Bx Bs c l W) (h0 : J [] W) :
    CallsIn Fence.wide n Tryz.prog 145 #[.func (.yield lp) #[] #[], .pointer (some ⟨Bs + 1, 0, none⟩), .pointer (some ⟨Bs, 0, none⟩), .pointer (some ⟨Bs + 2, 0, none⟩)] W fun e W' => (∃ v, e = .returned v) ∧ ((∃ xs, xs = T.parts c l ∧ J xs W') ∨ (∃ pre, pre <+: T.parts c l ∧ Jx pre W')) := by
  have c0 := hs.s
  have c1 := hs.sep
  have c2 := hs.z
  have HL := Lib.hid hl
  have HJS := Lib.hid hJs
  have HY := Lib.hid hY
  have HS := Lib.hid hs
  have H0 := Lib.hid h0
  clear hl hJs hY hs h0
  refine callsIn_of_wp Tryz.func145 rfl trivial ?_ rfl
  simp only [Tryz.ntmps145, List.size_toArray, List.length_cons, List.length_nil, Nat.reduceAdd, Nat.reduceSub, Array.replicate_succ, Array.replicate_zero, List.push_toArray, List.append_toArray, List.nil_append, List.cons_append]
  gi_wp2
  gi_loopw [7, 8] (fun s7 s8 wr => ∃ (pre : List (List UInt8)) (r : List UInt8), (∃ q, q = s7) ∧ (∃ q, q = s8) ∧ Hid (T.parts c l = pre ++ T.parts c r) ∧ r.length ≤ 140737488355328 ∧ Hid (Bx Bs c r wr) ∧ Hid (J pre wr))
    (fun _ _ wr => lenAt Bs wr)
  case atStart => exact ⟨[], l, ⟨_, rfl⟩, ⟨_, rfl⟩, by unfold Hid; rfl, HL.out, HS, H0⟩
  case round =>
    clear HS H0 c0 c1 c2
    obtain ⟨pre, r, ⟨u7, rfl⟩, ⟨u8, rfl⟩, HP, hrl, HB, HJ⟩ := hrel
    have c0 := HB.out.s
    have c1 := HB.out.sep
    have c2 := HB.out.z
    have f0 := HB.out.f
    rcases T.split_word c r with ⟨hx1, hx2, h3⟩ | ⟨h1, h2⟩
    · have hi : Lib.indexByte (bs r).data.toList c = -1 := by rw [bs_data]; exact T.index_miss c r h3
      have hp : T.parts c r = [r] := T.parts_miss c r h3
      have HPP : Hid (pre ++ [r] = T.parts c l) := by show _ = _; rw [HP.out, hp]
      obtain ⟨fn, tmps, assign, body, hy, hR⟩ := HY.out pre r wr HJ.out (by rw [HPP.out]; exact List.prefix_rfl)
      clear h3 hp HB HJ HY HJS HP hrl hx1 hx2
      gi_wp2
      refine ⟨trivial, (callsIn_wide.2 (Tryz.strings_Index_one _ c _)).mono ?_⟩
      rintro e w' ⟨rfl, rfl⟩
      gi_wp2
      refine hR.mono ?_
      rintro e W' (⟨rfl, hJ', hk⟩ | ⟨rfl, hJx'⟩)
      · clear hk hy hR
        gi_wp2
        go_end0
        exact ⟨⟨_, rfl⟩, .inl ⟨_, HPP.out, hJ'⟩⟩
      · clear hy hR
        gi_wp2
        go_end0
        exact ⟨⟨_, rfl⟩, .inr ⟨_, by rw [HPP.out]; exact List.prefix_rfl, hJx'⟩⟩
    · obtain ⟨p, hp⟩ : ∃ p, T.wordC c r = p := ⟨_, rfl⟩
      obtain ⟨q, hq⟩ : ∃ q, T.restC c r = q := ⟨_, rfl⟩
      rw [hp, hq] at h1
      rw [hp] at h2
      clear hp hq
      have hi : Lib.indexByte (bs r).data.toList c = (p.length : Int) := by rw [bs_data, h1]; exact T.index_hit c p q h2
      have HPP : Hid (T.parts c l = pre ++ [p] ++ T.parts c q) := by show _ = _; rw [HP.out, h1, T.parts_cut c p q h2]; simp
      have e1 : (bs r).extract 0 p.length = bs p := by rw [ext_take, h1]; simp
      have e2 : (bs r).extract (p.length + 1) (bs r).size = bs q := by rw [ext_drop, h1]; simp
      have hlen : r.length = p.length + 1 + q.length := by rw [h1]; simp; omega
      have HLR : Hid ((bs r).size = p.length + 1 + q.length) := by show _ = _; rw [bs_size]; exact hlen
      have HQ0 : Hid (q.length ≤ 140737488355328) := by show _ ≤ _; omega
      have HBQ : Hid (∀ W', KeepB Bs wr W' → Bx Bs c r W') := fun W' hk => HB.out.keep hk
      have HLA : Hid (lenAt Bs wr = p.length + 1 + q.length) := by show _ = _; rw [lenAt_is HB.out]; exact hlen
      obtain ⟨fn, tmps, assign, body, hy, hR⟩ := HY.out pre p wr HJ.out (by rw [HPP.out]; exact List.prefix_append _ _)
      have hz := HLR.out
      obtain ⟨S, hS⟩ : ∃ S, bs r = S := ⟨_, rfl⟩
      have HSS := Lib.hid hS
      rw [hS] at hi e1 e2 HLR c0 hz
      clear hS
      have z1 : (p.length : Int) ≤ (S.size : Int) := by omega
      have z2 : (p.length : Int) + 1 ≤ (S.size : Int) := by omega
      have z3 : (0 : Int) ≤ (p.length : Int) := by omega
      have z4 : decide ((p.length : Int) < 0) = false := decide_eq_false (by omega)
      obtain ⟨pi, hpi⟩ : ∃ pi : Int, (p.length : Int) = pi := ⟨_, rfl⟩
      rw [hpi] at hi z1 z2 z3 z4
      have hpn : pi.toNat = p.length := by omega
      have hple : p.length ≤ 140737488355328 := by have := hlen; omega
      have w1 : wrap64 pi = pi := IntWalk.wrap64_in _ (by omega)
      have w2 : wrap64 (pi + 1) = pi + 1 := IntWalk.wrap64_in _ (by omega)
      have hpn2 : (pi + 1).toNat = p.length + 1 := by omega
      have z5 : (0 : Int) ≤ pi + 1 := by omega
      clear hpi hple
      clear h1 h2 hlen HJ HY HP hz HB hrl
      gi_wp2
      refine ⟨trivial, (callsIn_wide.2 (Tryz.strings_Index_one _ c _)).mono ?_⟩
      rintro e w' ⟨rfl, rfl⟩
      gi_wp2
      refine hR.mono ?_
      rintro e W' (⟨rfl, hJ', hk⟩ | ⟨rfl, hJx'⟩)
      · have HB2 := Lib.hid (HBQ.out W' hk)
        have d0 := HB2.out.s
        rw [HSS.out] at d0
        have d1 := HB2.out.sep
        have d2 := HB2.out.z
        have d3 := HB2.out.f
        have HJ2 : Hid (J (pre ++ [p]) (W'.setCell ⟨Bs, 0, none⟩ (.string (bs q)))) := HJS.out _ _ _ hJ'
        have HLQ : Hid (lenAt Bs (W'.setCell ⟨Bs, 0, none⟩ (.string (bs q))) = q.length) := lenAt_is HB2.out.put
        have HB3 : Hid (Bx Bs c q (W'.setCell ⟨Bs, 0, none⟩ (.string (bs q)))) := HB2.out.put
        clear hJ' hk hy hR c0 c1 c2 f0 HJS
        gi_wp2
        go_roundw
        case rel => exact ⟨pre ++ [p], q, ⟨_, rfl⟩, ⟨_, rfl⟩, HPP, HQ0.out, HB3, HJ2⟩
        case measure => rw [HLQ.out, HLA.out]; omega
      · clear hy hR
        gi_wp2
        refine bodyPost_ret (results_none rfl _ _ _) rfl ?_
        exact ⟨⟨_, rfl⟩, .inr ⟨_, by rw [HPP.out]; exact List.prefix_append _ _, hJx'⟩⟩
end Go.Proofs.YtiobfgcpbihbhaaGreatDoor
