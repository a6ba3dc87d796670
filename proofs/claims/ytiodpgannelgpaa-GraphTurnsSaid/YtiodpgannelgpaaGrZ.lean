/-
  The walk of graph.Reach.
-/
import Derived.Test.YtiodpgannelgpaaGrY
import Derived.Deep.OwnRows
import Derived.Laws.EntriesVeiled
namespace Go.Proofs.Ytiodpgannelgpaa
open Go.RowKit GM Go.Sort
set_option linter.unusedSimpArgs false
set_option linter.unusedVariables false
set_option maxHeartbeats 4000000
set_option maxRecDepth 100000

theorem visit_all (w0 : World) (l : List E) (R N : Int) (s : Value) (c2 c5 c6 B n : Nat) (hrd : Rd3 w0 s l) (hL : l.length ≤ 1024) (ha : l.Pairwise (fun a b => bef a b = true)) (hin : Inside n l) (hn : n ≤ 128) (hB : w0.heap.size ≤ B) (h2 : c2 ≠ B) (h5 : c5 ≠ B) (h6 : c6 ≠ B) :
    ∀ c, VisC w0 l R N s c2 c5 c6 B n c
  | 0 => fun m hc hm x w hx h => visit_seen w0 l R N s c2 c5 c6 B n m hm x w hx hn h (count_zero (by omega) (by omega))
  | c + 1 => fun m hc hm x w hx h => by
    cases hv : mkd m x
    · exact visit_step w0 l R N s c2 c5 c6 B n c hrd hL ha hin hn hB h2 h5 h6 (visit_all w0 l R N s c2 c5 c6 B n hrd hL ha hin hn hB h2 h5 h6 c) m hc hm x w hx h hv
    · exact visit_seen w0 l R N s c2 c5 c6 B n m hm x w hx hn h hv
theorem info4 : (Try.prog.info? 4).map (fun i => (i.zero, i.size, i.bytes)) = some (some (.bool false), 1, 1) := by kernel_rfl
theorem make_bools (n : Nat) (hn : n ≤ 128) (w : World) : (Instr.makeSlice 45 (.int .i64 (n : Int)) (.int .i64 (n : Int))).run Try.prog w = .ok (.slice (some ⟨w.heap.size, 0, none⟩) n n) (w.alloc (.cells (bools (List.replicate n false)).toArray 4)) := by
  have e : (bools (List.replicate n false)).toArray = madeCells #[.bool false] n := by
    have := toList_madeCells_one (Value.bool false) n
    apply Array.ext'
    rw [this]; simp [bools]
  rw [e]
  exact run_make_row' 45 4 (.bool false) 1 Try.underlying45 info4 rfl .i64 .i64 n (by omega) (by omega) w
/-- a slice of truth values as memory reads -/
def RdB (w : World) (v : Value) (m : List Bool) : Prop :=
  ∃ ad cap, v = .slice ad m.length cap ∧ m.length ≤ cap ∧ cap ≤ 9223372036854775807 ∧ ∀ k x, m[k]? = some x → ∃ b off, ad = some ⟨b, off, none⟩ ∧ b < w.heap.size ∧ w.cell? ⟨b, off + k, none⟩ = some (.bool x)
theorem RdB.below {w w' : World} {v : Value} {l : List Bool} (h : RdB w v l) (hb : Below w.heap.size w w') : RdB w' v l := by
  obtain ⟨ad, cap, rfl, h1, h2, hc⟩ := h
  refine ⟨ad, cap, rfl, h1, h2, fun k x hk => ?_⟩
  obtain ⟨b, off, e, hlt, c0⟩ := hc k x hk
  exact ⟨b, off, e, Nat.lt_of_lt_of_le hlt hb.size, by rw [hb.cell hlt]; exact c0⟩
theorem rdB_nil (w : World) : RdB w (.slice none 0 0) [] := ⟨none, 0, rfl, Nat.le_refl _, by omega, fun k x h => by simp at h⟩
theorem rdB_row {w : World} {B n : Nat} {m : List Bool} (hm : m.length = n) (hn : n ≤ 128) (h : w.heap[B]? = some (.cells (bools m).toArray 4 (0, 0))) : RdB w (.slice (some ⟨B, 0, none⟩) n n) m := by
  subst hm
  refine ⟨_, _, rfl, Nat.le_refl _, by omega, fun k x hk => ⟨B, 0, rfl, lt_block h, ?_⟩⟩
  have hlt := (List.getElem?_eq_some_iff.1 hk).1
  rw [mk_get hlt] at hk; cases hk
  rw [Nat.zero_add]
  exact cell_of h (bools_get hlt)
/-- what Reach answers -/
def ReachP (R N : Int) (l : List E) (x : Int) (m : List Bool) : Prop := if chk R N l = 0 ∧ isN R N x = true then IsReach (R + N).toNat l x.toNat m else m = []
theorem reach_bad (R N : Int) (l : List E) (s : Value) (x : Int) (w : World) (hR : I64 R) (hN : I64 N) (hr : Rd3 w s l) (hb : ¬ (chk R N l = 0 ∧ isN R N x = true)) :
    Calls Try.prog 35 #[.agg #[.int .i64 R, .int .i64 N, s], .int .i64 x] w fun e w' => e = .returned (.slice none 0 0) ∧ Below w.heap.size w w' := by
  have HC : Hid (∀ W, Below w.heap.size w W → Calls Try.prog 17 #[.agg #[.int .i64 R, .int .i64 N, s]] W fun e w' => e = .returned (.int .i64 (chk R N l)) ∧ Below W.heap.size W w') := fun W hW => check_any R N s l W hR hN (hr.below hW)
  obtain ⟨ad, cap, rfl⟩ := rd3_slice hr
  clear hr
  by_cases hq : chk R N l = 0
  · have hv := chk_iff.1 hq
    have hx : isN R N x = false := by
      cases h : isN R N x
      · rfl
      · exact absurd ⟨hq, h⟩ hb
    have HN : Hid (∀ s W, Calls Try.prog 70 #[.agg #[.int .i64 R, .int .i64 N, s], .int .i64 x] W fun e w' => e = .returned (.bool false) ∧ Below W.heap.size W w') := fun s W => by rw [← hx]; exact isNode_any R N s x W hv.r hv.n hv.s
    rw [hq] at HC
    clear hb hq hv hx
    go_enter Try.func35, Try.ntmps35
    go_wp2_with fail
    go_at_call 17
    refine (HC.out _ (below_alloc _ _)).mono ?_
    rintro e w1 ⟨rfl, hb1⟩
    have X1 : w1.heap[w.heap.size]? = some (.cells #[.int .i64 R, .int .i64 N, .slice ad l.length cap] 24 (0, 0)) := (hb1.block _ (by simp)).trans (heap_alloc_new _ _)
    have g0 : w1.cell? ⟨w.heap.size, 0, none⟩ = some (.int .i64 R) := cell_of X1 rfl
    have g1 : w1.cell? ⟨w.heap.size, 1, none⟩ = some (.int .i64 N) := cell_of X1 rfl
    have g2 : w1.cell? ⟨w.heap.size, 2, none⟩ = some (.slice ad l.length cap) := cell_of X1 rfl
    have B1 := Lib.hid (below_then (below_alloc _ _) hb1)
    clear hb1 X1
    go_wp2_with (go_at_call 70; refine (HN.out _ _).mono ?_; rintro e w2 ⟨rfl, hb2⟩; have B2 := Lib.hid hb2; clear hb2)
    go_ret
    exact ⟨rfl, below_then B1.out B2.out⟩
  · generalize chk R N l = q at *
    have hq1 : (q == 0) = false := by simpa using hq
    have hq2 : (q != 0) = true := by simpa using hq
    clear hq hb
    go_enter Try.func35, Try.ntmps35
    go_wp2_with (go_at_call 17; refine (HC.out _ (below_alloc _ _)).mono ?_; rintro e w1 ⟨rfl, hb1⟩; have B1 := Lib.hid hb1; clear hb1)
    go_ret
    exact ⟨rfl, below_then (below_alloc _ _) B1.out⟩
theorem reach_good (R N : Int) (l : List E) (s : Value) (x : Nat) (w : World) (hR : I64 R) (hN : I64 N) (hr : Rd3 w s l) (hq : chk R N l = 0) (hx : isN R N (x : Int) = true) :
    Calls Try.prog 35 #[.agg #[.int .i64 R, .int .i64 N, s], .int .i64 (x : Int)] w fun e w' => ∃ v m, e = .returned v ∧ RdB w' v m ∧ IsReach (R + N).toNat l x m ∧ Below w.heap.size w w' := by
  have hv := chk_iff.1 hq
  obtain ⟨n, hn⟩ : ∃ n : Nat, R + N = (n : Int) := ⟨(R + N).toNat, by have := hv.r; have := hv.n; omega⟩
  have hn8 : n ≤ 128 := by have := hv.s; omega
  have hxn : x < n := by have := of_decide_eq_true hx; omega
  have hin := valid_inside hv
  have hnn : (R + N).toNat = n := by omega
  rw [hnn] at hin ⊢
  have hRN : IntKind.i64.wrap (R + N) = (n : Int) := by rw [hn]; exact IntWalk.i64_in _ (by omega)
  have HC : Hid (∀ W, Below w.heap.size w W → Calls Try.prog 17 #[.agg #[.int .i64 R, .int .i64 N, s]] W fun e w' => e = .returned (.int .i64 0) ∧ Below W.heap.size W w') := fun W hW => by rw [← hq]; exact check_any R N s l W hR hN (hr.below hW)
  have HN : Hid (∀ s W, Calls Try.prog 70 #[.agg #[.int .i64 R, .int .i64 N, s], .int .i64 (x : Int)] W fun e w' => e = .returned (.bool true) ∧ Below W.heap.size W w') := fun s W => by rw [← hx]; exact isNode_any R N s x W hv.r hv.n hv.s
  have HV : Hid (∀ c2 c5 c6 B, w.heap.size ≤ B → c2 ≠ B → c5 ≠ B → c6 ≠ B → VisC w l R N s c2 c5 c6 B n n) := fun c2 c5 c6 B h1 h2 h3 h4 => visit_all w l R N s c2 c5 c6 B n hr hv.len hv.asc hin hn8 h1 h2 h3 h4 n
  have hmk := make_bools n hn8
  have HXN := Lib.hid (And.intro hxn hn8)
  obtain ⟨ad, cap, rfl⟩ := rd3_slice hr
  clear hr hq hx hv hin hnn hR hN hxn hn8 hn
  go_enter Try.func35, Try.ntmps35
  go_wp2_with fail
  go_at_call 17
  refine (HC.out _ (below_alloc _ _)).mono ?_
  rintro e w1 ⟨rfl, hb1⟩
  have X1 : w1.heap[w.heap.size]? = some (.cells #[.int .i64 R, .int .i64 N, .slice ad l.length cap] 24 (0, 0)) := (hb1.block _ (by simp)).trans (heap_alloc_new _ _)
  have g0 : w1.cell? ⟨w.heap.size, 0, none⟩ = some (.int .i64 R) := cell_of X1 rfl
  have g1 : w1.cell? ⟨w.heap.size, 1, none⟩ = some (.int .i64 N) := cell_of X1 rfl
  have g2 : w1.cell? ⟨w.heap.size, 2, none⟩ = some (.slice ad l.length cap) := cell_of X1 rfl
  have B1 := Lib.hid (below_then (below_alloc _ _) hb1)
  have HX1 := Lib.hid X1
  clear hb1 X1
  go_wp2_with fail
  go_at_call 70
  refine (HN.out _ _).mono ?_
  rintro e w2 ⟨rfl, hb2⟩
  have HX2 := Lib.hid ((hb2.block _ (lt_block HX1.out)).trans HX1.out)
  have g0' : w2.cell? ⟨w.heap.size, 0, none⟩ = some (.int .i64 R) := cell_of HX2.out rfl
  have g1' : w2.cell? ⟨w.heap.size, 1, none⟩ = some (.int .i64 N) := cell_of HX2.out rfl
  have B2 := Lib.hid (below_then B1.out hb2)
  clear hb2 g0 g1 g2
  go_wp2_with fail
  have hST : St w R N (.slice ad l.length cap) w.heap.size (w2.heap.size + 1) (w2.heap.size + 1 + 1) w2.heap.size n (List.replicate n false) (((w2.alloc (.cells (bools (List.replicate n false)).toArray 4)).alloc (.cells #[.slice (some ⟨w2.heap.size, 0, none⟩) n n] 45)).alloc (.cells #[visV w.heap.size (w2.heap.size + 1) (w2.heap.size + 1 + 1)] 91)) := by
    have hz := lt_block HX2.out
    refine ⟨below_then (below_then (below_then B2.out (below_alloc _ _)) (below_alloc _ _)) (below_alloc _ _), ?_, ?_, ?_, ?_⟩
    · rw [Below.heap_alloc _ _ _ (by simp; omega), Below.heap_alloc _ _ _ (by simp; omega), Below.heap_alloc _ _ _ hz]; exact HX2.out
    · rw [Below.heap_alloc _ _ _ (by simp)]
      have := heap_alloc_new (w2.alloc (.cells (bools (List.replicate n false)).toArray 4)) (.cells #[.slice (some ⟨w2.heap.size, 0, none⟩) n n] 45)
      rwa [show (w2.alloc _).heap.size = w2.heap.size + 1 by simp] at this
    · have := heap_alloc_new ((w2.alloc (.cells (bools (List.replicate n false)).toArray 4)).alloc (.cells #[.slice (some ⟨w2.heap.size, 0, none⟩) n n] 45)) (.cells #[visV w.heap.size (w2.heap.size + 1) (w2.heap.size + 1 + 1)] 91)
      rwa [show ((w2.alloc _).alloc _).heap.size = w2.heap.size + 1 + 1 by simp] at this
    · rw [Below.heap_alloc _ _ _ (by simp; omega), Below.heap_alloc _ _ _ (by simp)]; exact heap_alloc_new _ _
  have hcount : (List.replicate n false).count false ≤ n := by simp
  have hz := lt_block HX2.out
  go_at_call 71
  refine (HV.out w.heap.size (w2.heap.size + 1) (w2.heap.size + 1 + 1) w2.heap.size (by omega) (by omega) (by omega) (by omega) (List.replicate n false) hcount (by simp) x _ HXN.out.1 hST).mono ?_
  rintro e w3 ⟨rfl, m, hvis, hst⟩
  have r0 : w3.cell? ⟨w2.heap.size + 1, 0, none⟩ = some (.slice (some ⟨w2.heap.size, 0, none⟩) n n) := cell_of hst.r rfl
  have H3 := Lib.hid (And.intro (IsReach.of_vis hvis) hst)
  clear hST hcount hvis hst hmk
  go_wp2
  go_ret
  exact ⟨_, m, rfl, rdB_row H3.out.1.len HXN.out.2 H3.out.2.row, H3.out.1, H3.out.2.b⟩
theorem reach_any (R N : Int) (l : List E) (s : Value) (x : Int) (w : World) (hR : I64 R) (hN : I64 N) (hr : Rd3 w s l) :
    Calls Try.prog 35 #[.agg #[.int .i64 R, .int .i64 N, s], .int .i64 x] w fun e w' => ∃ v m, e = .returned v ∧ RdB w' v m ∧ ReachP R N l x m ∧ Below w.heap.size w w' := by
  by_cases hb : chk R N l = 0 ∧ isN R N x = true
  · obtain ⟨x, rfl⟩ := Int.eq_ofNat_of_zero_le (of_decide_eq_true hb.2).1
    refine (reach_good R N l s x w hR hN hr hb.1 hb.2).mono ?_
    rintro e w' ⟨v, m, rfl, h1, h2, h3⟩
    exact ⟨v, m, rfl, h1, by unfold ReachP; rw [if_pos hb]; exact h2, h3⟩
  · refine (reach_bad R N l s x w hR hN hr hb).mono ?_
    rintro e w' ⟨rfl, h3⟩
    exact ⟨_, [], rfl, rdB_nil _, by unfold ReachP; rw [if_neg hb], h3⟩
end Go.Proofs.Ytiodpgannelgpaa
