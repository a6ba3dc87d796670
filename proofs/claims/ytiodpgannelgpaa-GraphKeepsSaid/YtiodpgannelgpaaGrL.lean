/-
  The walk of the examples of chapter 9.
-/
import Derived.Test.YtiodpgannelgpaaGrZ
import Derived.Test.YtiodpgannelgpaaGrW
namespace Go.Proofs.Ytiodpgannelgpaa
open Go.RowKit GM Go.Sort
set_option linter.unusedSimpArgs false
set_option linter.unusedVariables false
set_option maxHeartbeats 4000000
set_option maxRecDepth 100000

theorem rd3_block {w : World} {b n : Nat} {cs : Array Value} {t : TypeId} {l : List E} (h : w.heap[b]? = some (.cells cs t (0, 0))) (hc : cs = (flatE l).toArray) (hn : n = l.length) (hl : n ≤ 1024) : Rd3 w (.slice (some ⟨b, 0, none⟩) n n) l := by
  subst hc hn
  refine ⟨_, _, rfl, Nat.le_refl _, by omega, fun k x hk => ⟨b, 0, rfl, lt_block h, ?_, ?_, ?_⟩⟩
  · exact cell_of h (by rw [Nat.zero_add]; simpa using (flatE_get l k x hk).1)
  · exact cell_of h (by rw [Nat.zero_add]; simpa using (flatE_get l k x hk).2.1)
  · exact cell_of h (by rw [Nat.zero_add]; simpa using (flatE_get l k x hk).2.2)
theorem five (w : World) (o0 o1 o2 o3 o4 : Obj) :
    (((((w.alloc o0).alloc o1).alloc o2).alloc o3).alloc o4).heap[w.heap.size]? = some o0 ∧ (((((w.alloc o0).alloc o1).alloc o2).alloc o3).alloc o4).heap[w.heap.size + 1]? = some o1 ∧ (((((w.alloc o0).alloc o1).alloc o2).alloc o3).alloc o4).heap[w.heap.size + 1 + 1]? = some o2 ∧
    (((((w.alloc o0).alloc o1).alloc o2).alloc o3).alloc o4).heap[w.heap.size + 1 + 1 + 1]? = some o3 ∧ (((((w.alloc o0).alloc o1).alloc o2).alloc o3).alloc o4).heap[w.heap.size + 1 + 1 + 1 + 1]? = some o4 := by
  have z1 : (w.alloc o0).heap.size = w.heap.size + 1 := by simp
  have z2 : ((w.alloc o0).alloc o1).heap.size = w.heap.size + 1 + 1 := by simp
  have z3 : (((w.alloc o0).alloc o1).alloc o2).heap.size = w.heap.size + 1 + 1 + 1 := by simp
  have z4 : ((((w.alloc o0).alloc o1).alloc o2).alloc o3).heap.size = w.heap.size + 1 + 1 + 1 + 1 := by simp
  have n0 := heap_alloc_new w o0
  have n1 := heap_alloc_new (w.alloc o0) o1
  have n2 := heap_alloc_new ((w.alloc o0).alloc o1) o2
  have n3 := heap_alloc_new (((w.alloc o0).alloc o1).alloc o2) o3
  have n4 := heap_alloc_new ((((w.alloc o0).alloc o1).alloc o2).alloc o3) o4
  rw [z1] at n1
  rw [z2] at n2
  rw [z3] at n3
  rw [z4] at n4
  refine ⟨?_, ?_, ?_, ?_, n4⟩
  · rw [Below.heap_alloc _ _ _ (by omega), Below.heap_alloc _ _ _ (by omega), Below.heap_alloc _ _ _ (by omega), Below.heap_alloc _ _ _ (by omega)]; exact n0
  · rw [Below.heap_alloc _ _ _ (by omega), Below.heap_alloc _ _ _ (by omega), Below.heap_alloc _ _ _ (by omega)]; exact n1
  · rw [Below.heap_alloc _ _ _ (by omega), Below.heap_alloc _ _ _ (by omega)]; exact n2
  · rw [Below.heap_alloc _ _ _ (by omega)]; exact n3
def gl1 : List E := [(0, 1, 5), (0, 2, 3), (2, 1, 0)]
def gl2 : List E := [(2, 1, 1)]
def gl3 : List E := [(0, 1, 7), (0, 1, 4)]
theorem chk1 : chk 2 1 gl1 = 0 := by decide
theorem chk2 : chk 2 1 gl2 = 1 := by decide
theorem chk3 : chk 2 0 [(0, 1, 4)] = 0 := by decide
theorem least3 : Least gl3 [(0, 1, 4)] := by
  refine ⟨List.pairwise_singleton _ _, fun x => ?_⟩
  unfold gl3
  simp only [List.mem_cons, List.mem_nil_iff, or_false]
  constructor
  · rintro rfl
    refine ⟨.inr rfl, ?_⟩
    rintro y (rfl | rfl) <;> simp
  · rintro ⟨rfl | rfl, h⟩
    · have := h (0, 1, 4) (.inr rfl) rfl rfl
      simp at this
    · rfl
theorem reach1 : IsReach 3 gl1 1 [false, true, false] where
  len := rfl
  here := rfl
  cl := by
    intro e he
    unfold gl1 at he
    simp only [List.mem_cons, List.mem_nil_iff, or_false] at he
    rcases he with rfl | rfl | rfl <;> simp [mkd]
  rch := fun y hy => by
    have : y = 1 := by
      rcases (by omega : y = 0 ∨ y = 1 ∨ y = 2 ∨ 3 ≤ y) with h | h | h | h
      · subst h; cases hy
      · exact h
      · subst h; cases hy
      · have := mk_lt hy; simp at this; omega
    subst this; exact .refl
theorem lives_any (w : World) : Calls Try.prog 19 #[] w fun e w' => e = .returned (.bool true) ∧ Below w.heap.size w w' := by
  have HOF : Hid (∀ v W, Rd3 W v gl3 → Calls Try.prog 37 #[.int .i64 2, .int .i64 0, v] W fun e w' => ∃ s, e = .returned (.tuple #[.agg #[.int .i64 2, .int .i64 0, s], .int .i64 0]) ∧ OwnS W.heap.size w' s [(0, 1, 4)] ∧ Below W.heap.size W w') := fun v W h => by
    have := of_any 2 0 gl3 [(0, 1, 4)] v W (by unfold I64; omega) (by unfold I64; omega) (by unfold Fits gl3; simp) h least3
    simp only [ofV, chk3, if_true] at this
    exact this
  have HRE : Hid (∀ s W, Rd3 W s gl1 → Calls Try.prog 35 #[.agg #[.int .i64 2, .int .i64 1, s], .int .i64 1] W fun e w' => ∃ v, e = .returned v ∧ RdB w' v [false, true, false] ∧ Below W.heap.size W w') := fun s W h => by
    refine (reach_any 2 1 gl1 s 1 W (by unfold I64; omega) (by unfold I64; omega) h).mono ?_
    rintro e w' ⟨v, m, rfl, h1, h2, h3⟩
    unfold ReachP at h2
    rw [if_pos ⟨chk1, rfl⟩] at h2
    have := IsReach.unique (valid_inside (chk_iff.1 chk1)) h2 reach1
    subst this
    exact ⟨v, rfl, h1, h3⟩
  have HC1 : Hid (∀ s W, Rd3 W s gl1 → Calls Try.prog 17 #[.agg #[.int .i64 2, .int .i64 1, s]] W fun e w' => e = .returned (.int .i64 0) ∧ Below W.heap.size W w') := fun s W h => by
    rw [← chk1]; exact check_any 2 1 s gl1 W (by unfold I64; omega) (by unfold I64; omega) h
  have HC2 : Hid (∀ s W, Rd3 W s gl2 → Calls Try.prog 17 #[.agg #[.int .i64 2, .int .i64 1, s]] W fun e w' => e = .returned (.int .i64 1) ∧ Below W.heap.size W w') := fun s W h => by
    have := check_any 2 1 s gl2 W (by unfold I64; omega) (by unfold I64; omega) h
    rw [chk2] at this; exact this
  go_enter Try.func19, Try.ntmps19
  go_wp2_with fail
  obtain ⟨W5, hW5⟩ : ∃ W5, W5 = (((((w.alloc (.cells #[.int .i64 0, .int .i64 1, .int .i64 5, .int .i64 0, .int .i64 2, .int .i64 3, .int .i64 2, .int .i64 1, .int .i64 0] 52)).alloc (.cells #[.int .i64 2, .int .i64 1, .slice (some ⟨w.heap.size, 0, none⟩) 3 3] 24)).alloc
      (.cells #[.int .i64 2, .int .i64 1, .int .i64 1] 52)).alloc (.cells #[.int .i64 2, .int .i64 1, .slice (some ⟨w.heap.size + 1 + 1, 0, none⟩) 1 1] 24)).alloc (.cells #[.int .i64 0, .int .i64 1, .int .i64 7, .int .i64 0, .int .i64 1, .int .i64 4] 52)) := ⟨_, rfl⟩
  rw [← hW5]
  obtain ⟨a0, a1, a2, a3, a4⟩ := five w (.cells #[.int .i64 0, .int .i64 1, .int .i64 5, .int .i64 0, .int .i64 2, .int .i64 3, .int .i64 2, .int .i64 1, .int .i64 0] 52) (.cells #[.int .i64 2, .int .i64 1, .slice (some ⟨w.heap.size, 0, none⟩) 3 3] 24)
      (.cells #[.int .i64 2, .int .i64 1, .int .i64 1] 52) (.cells #[.int .i64 2, .int .i64 1, .slice (some ⟨w.heap.size + 1 + 1, 0, none⟩) 1 1] 24) (.cells #[.int .i64 0, .int .i64 1, .int .i64 7, .int .i64 0, .int .i64 1, .int .i64 4] 52)
  rw [← hW5] at a0 a1 a2 a3 a4
  have B5 : Hid (Below w.heap.size w W5) := by rw [hW5]; exact below_then (below_then (below_then (below_then (below_alloc _ _) (below_alloc _ _)) (below_alloc _ _)) (below_alloc _ _)) (below_alloc _ _)
  clear hW5
  go_at_call 37
  refine (HOF.out _ _ (rd3_block (n := 2) a4 rfl rfl (by omega))).mono ?_
  rintro e w6 ⟨s, rfl, hown, hb⟩
  rcases hown with ⟨_, h⟩ | ⟨gs, hgs, cap, hs, _, _, hH, hlt⟩
  · cases h
  obtain ⟨o0, _, _, _⟩ := he_cells hH (i := 0) (by simp) (a := 0) (b := 1) (c := 4) rfl
  have o2 := o0.2.2
  have HA := Lib.hid (And.intro ((hb.block _ (lt_block a0)).trans a0) (And.intro ((hb.block _ (lt_block a1)).trans a1) (And.intro ((hb.block _ (lt_block a2)).trans a2) ((hb.block _ (lt_block a3)).trans a3))))
  have g0 : w6.cell? ⟨w.heap.size + 1, 0, none⟩ = some (.int .i64 2) := cell_of HA.out.2.1 rfl
  have g1 : w6.cell? ⟨w.heap.size + 1, 1, none⟩ = some (.int .i64 1) := cell_of HA.out.2.1 rfl
  have g2 : w6.cell? ⟨w.heap.size + 1, 2, none⟩ = some (.slice (some ⟨w.heap.size, 0, none⟩) 3 3) := cell_of HA.out.2.1 rfl
  have B6 := Lib.hid (below_then B5.out hb)
  have hs : s = .slice (some ⟨gs, 0, none⟩) 1 cap := hs
  subst hs
  have HO2 := Lib.hid (And.intro hlt o2)
  have q0 : (w6.alloc (.cells #[.int .i64 2, .int .i64 0, .slice (some ⟨gs, 0, none⟩) 1 cap] 24)).cell? _ = _ := Lib.cell?_alloc_some _ g0
  have q1 : (w6.alloc (.cells #[.int .i64 2, .int .i64 0, .slice (some ⟨gs, 0, none⟩) 1 cap] 24)).cell? _ = _ := Lib.cell?_alloc_some _ g1
  have q2 : (w6.alloc (.cells #[.int .i64 2, .int .i64 0, .slice (some ⟨gs, 0, none⟩) 1 cap] 24)).cell? _ = _ := Lib.cell?_alloc_some _ g2
  clear hb hgs hH o0 a0 a1 a2 a3 a4 hlt o2 g0 g1 g2
  go_wp2_with fail
  have HO7 : Hid ((w6.alloc (.cells #[.int .i64 2, .int .i64 0, .slice (some ⟨gs, 0, none⟩) 1 cap] 24)).heap[w6.heap.size]? = some (.cells #[.int .i64 2, .int .i64 0, .slice (some ⟨gs, 0, none⟩) 1 cap] 24 (0, 0))) := heap_alloc_new _ _
  have B7 : Hid (Below w6.heap.size w6 (w6.alloc (.cells #[.int .i64 2, .int .i64 0, .slice (some ⟨gs, 0, none⟩) 1 cap] 24))) := below_alloc _ _
  generalize w6.alloc (.cells #[.int .i64 2, .int .i64 0, .slice (some ⟨gs, 0, none⟩) 1 cap] 24) = W7 at *
  go_at_call 35
  refine (HRE.out _ _ (rd3_block (n := 3) ((B7.out.block _ (lt_block HA.out.1)).trans HA.out.1) rfl rfl (by omega))).mono ?_
  rintro e w8 ⟨v, rfl, hrb, hb8⟩
  obtain ⟨rad, rcap, rfl, _, _, hrc⟩ := hrb
  obtain ⟨rb, ro, rfl, hrl, c0⟩ := hrc 0 false rfl
  obtain ⟨_, _, e1, _, c1⟩ := hrc 1 true rfl
  cases e1
  obtain ⟨_, _, e2, _, c2⟩ := hrc 2 false rfl
  cases e2
  have B8 := Lib.hid (below_then B7.out hb8)
  have A8 : Hid (w8.heap[w.heap.size]? = some (.cells #[.int .i64 0, .int .i64 1, .int .i64 5, .int .i64 0, .int .i64 2, .int .i64 3, .int .i64 2, .int .i64 1, .int .i64 0] 52 (0, 0)) ∧ w8.heap[w.heap.size + 1]? = some (.cells #[.int .i64 2, .int .i64 1, .slice (some ⟨w.heap.size, 0, none⟩) 3 3] 24 (0, 0)) ∧
      w8.heap[w.heap.size + 1 + 1]? = some (.cells #[.int .i64 2, .int .i64 1, .int .i64 1] 52 (0, 0)) ∧ w8.heap[w.heap.size + 1 + 1 + 1]? = some (.cells #[.int .i64 2, .int .i64 1, .slice (some ⟨w.heap.size + 1 + 1, 0, none⟩) 1 1] 24 (0, 0))) :=
    ⟨(B8.out.block _ (lt_block HA.out.1)).trans HA.out.1, (B8.out.block _ (lt_block HA.out.2.1)).trans HA.out.2.1, (B8.out.block _ (lt_block HA.out.2.2.1)).trans HA.out.2.2.1, (B8.out.block _ (lt_block HA.out.2.2.2)).trans HA.out.2.2.2⟩
  have O8 : Hid (w8.heap[w6.heap.size]? = some (.cells #[.int .i64 2, .int .i64 0, .slice (some ⟨gs, 0, none⟩) 1 cap] 24 (0, 0)) ∧ w8.cell? ⟨gs, 0 + 0 * 3 + 2, none⟩ = some (.int .i64 4)) := ⟨(hb8.block _ (lt_block HO7.out)).trans HO7.out, carry hb8 (carry B7.out HO2.out.2)⟩
  have R8 : Hid (rb < w8.heap.size ∧ w8.cell? ⟨rb, ro, none⟩ = some (.bool false) ∧ w8.cell? ⟨rb, ro + 1, none⟩ = some (.bool true) ∧ w8.cell? ⟨rb, ro + 2, none⟩ = some (.bool false)) := ⟨hrl, c0, c1, c2⟩
  have B9 := Lib.hid (below_then B6.out B8.out)
  have g0 : w8.cell? ⟨w.heap.size + 1, 0, none⟩ = some (.int .i64 2) := cell_of A8.out.2.1 rfl
  have g1 : w8.cell? ⟨w.heap.size + 1, 1, none⟩ = some (.int .i64 1) := cell_of A8.out.2.1 rfl
  have g2 : w8.cell? ⟨w.heap.size + 1, 2, none⟩ = some (.slice (some ⟨w.heap.size, 0, none⟩) 3 3) := cell_of A8.out.2.1 rfl
  clear hb8 hrc hrl c0 c1 c2 q0 q1 q2
  go_wp2_with fail
  go_at_call 17
  refine (HC1.out _ _ (rd3_block (n := 3) A8.out.1 rfl rfl (by omega))).mono ?_
  rintro e w10 ⟨rfl, hb10⟩
  have h0 : w10.cell? ⟨w.heap.size + 1 + 1 + 1, 0, none⟩ = some (.int .i64 2) := carry hb10 (cell_of A8.out.2.2.2 rfl)
  have h1 : w10.cell? ⟨w.heap.size + 1 + 1 + 1, 1, none⟩ = some (.int .i64 1) := carry hb10 (cell_of A8.out.2.2.2 rfl)
  have h2 : w10.cell? ⟨w.heap.size + 1 + 1 + 1, 2, none⟩ = some (.slice (some ⟨w.heap.size + 1 + 1, 0, none⟩) 1 1) := carry hb10 (cell_of A8.out.2.2.2 rfl)
  have HB10 := Lib.hid hb10
  clear hb10 g0 g1 g2
  go_wp2_with fail
  go_at_call 17
  refine (HC2.out _ _ (rd3_block (n := 1) ((HB10.out.block _ (lt_block A8.out.2.2.1)).trans A8.out.2.2.1) rfl rfl (by omega))).mono ?_
  rintro e w11 ⟨rfl, hb11⟩
  have B11 := Lib.hid (below_then HB10.out hb11)
  have o2 : w11.cell? ⟨w6.heap.size, 2, none⟩ = some (.slice (some ⟨gs, 0, none⟩) 1 cap) := carry B11.out (cell_of O8.out.1 rfl)
  have o3 : w11.cell? ⟨gs, 2, none⟩ = some (.int .i64 4) := by have := carry B11.out O8.out.2; simpa using this
  have r0 := carry B11.out R8.out.2.1
  have r1 := carry B11.out R8.out.2.2.1
  have r2 := carry B11.out R8.out.2.2.2
  clear hb11 h0 h1 h2
  go_wp2
  go_ret
  exact ⟨rfl, below_then B9.out B11.out⟩
end Go.Proofs.Ytiodpgannelgpaa
