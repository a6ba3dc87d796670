/-
  The law's examples.
-/
import Derived.Test.YtmlpbhankgojpaaSpPa
import Derived.Test.YtmlpbhankgojpaaSpC
namespace Go.Proofs.Ytmlpbhankgojpaa
open Go.RowKit Go.Maps Go.ChangeShapes HM GM SP
set_option linter.unusedSimpArgs false
set_option linter.unusedVariables false
set_option maxHeartbeats 4000000
set_option maxRecDepth 100000
theorem rd3_ring {w : World} {b : Nat} (h : w.heap[b]? = some (.cells #[.int .i64 0, .int .i64 1, .int .i64 1, .int .i64 0, .int .i64 3, .int .i64 1, .int .i64 1, .int .i64 0, .int .i64 1, .int .i64 1, .int .i64 2, .int .i64 1, .int .i64 2, .int .i64 1, .int .i64 1, .int .i64 2, .int .i64 3, .int .i64 1, .int .i64 3, .int .i64 0, .int .i64 1, .int .i64 3, .int .i64 2, .int .i64 1] 46 (0, 0))) : Rd3 w (.slice (some ⟨b, 0, none⟩) 8 8) ringL := by
  refine ⟨_, _, rfl, by decide, by decide, fun k x hk => ?_⟩
  have hb := lt_block h
  match k, hk with
  | 0, hk => cases hk; exact ⟨b, 0, rfl, hb, cell_of h rfl, cell_of h rfl, cell_of h rfl⟩
  | 1, hk => cases hk; exact ⟨b, 0, rfl, hb, cell_of h rfl, cell_of h rfl, cell_of h rfl⟩
  | 2, hk => cases hk; exact ⟨b, 0, rfl, hb, cell_of h rfl, cell_of h rfl, cell_of h rfl⟩
  | 3, hk => cases hk; exact ⟨b, 0, rfl, hb, cell_of h rfl, cell_of h rfl, cell_of h rfl⟩
  | 4, hk => cases hk; exact ⟨b, 0, rfl, hb, cell_of h rfl, cell_of h rfl, cell_of h rfl⟩
  | 5, hk => cases hk; exact ⟨b, 0, rfl, hb, cell_of h rfl, cell_of h rfl, cell_of h rfl⟩
  | 6, hk => cases hk; exact ⟨b, 0, rfl, hb, cell_of h rfl, cell_of h rfl, cell_of h rfl⟩
  | 7, hk => cases hk; exact ⟨b, 0, rfl, hb, cell_of h rfl, cell_of h rfl, cell_of h rfl⟩
  | k + 8, hk => simp [ringL] at hk
theorem rd3_net {w : World} {b : Nat} (h : w.heap[b]? = some (.cells #[.int .i64 0, .int .i64 2, .int .i64 3, .int .i64 1, .int .i64 2, .int .i64 3, .int .i64 2, .int .i64 0, .int .i64 0, .int .i64 2, .int .i64 1, .int .i64 0] 46 (0, 0))) : Rd3 w (.slice (some ⟨b, 0, none⟩) 4 4) netL := by
  refine ⟨_, _, rfl, by decide, by decide, fun k x hk => ?_⟩
  have hb := lt_block h
  match k, hk with
  | 0, hk => cases hk; exact ⟨b, 0, rfl, hb, cell_of h rfl, cell_of h rfl, cell_of h rfl⟩
  | 1, hk => cases hk; exact ⟨b, 0, rfl, hb, cell_of h rfl, cell_of h rfl, cell_of h rfl⟩
  | 2, hk => cases hk; exact ⟨b, 0, rfl, hb, cell_of h rfl, cell_of h rfl, cell_of h rfl⟩
  | 3, hk => cases hk; exact ⟨b, 0, rfl, hb, cell_of h rfl, cell_of h rfl, cell_of h rfl⟩
  | k + 4, hk => simp [netL] at hk
theorem ring_any (w : World) : Calls Try.prog 31 #[] w fun e w' => ∃ s, e = .returned (.agg #[.int .i64 4, .int .i64 0, s]) ∧ Rd3 w' s ringL ∧ Below w.heap.size w w' := by
  have HB := fun o1 o2 => Lib.hid (below_two w o1 o2)
  go_enter Try.func31, Try.ntmps31
  go_wp2
  have HBB := HB (.cells #[.int .i64 4, .int .i64 0, .slice (some ⟨w.heap.size + 1, 0, none⟩) 8 8] 24 (0, 0)) (.cells #[.int .i64 0, .int .i64 1, .int .i64 1, .int .i64 0, .int .i64 3, .int .i64 1, .int .i64 1, .int .i64 0, .int .i64 1, .int .i64 1, .int .i64 2, .int .i64 1, .int .i64 2, .int .i64 1, .int .i64 1, .int .i64 2, .int .i64 3, .int .i64 1, .int .i64 3, .int .i64 0, .int .i64 1, .int .i64 3, .int .i64 2, .int .i64 1] 46 (0, 0))
  have o1 : ((w.alloc (.cells #[.int .i64 4, .int .i64 0, .slice (some ⟨w.heap.size + 1, 0, none⟩) 8 8] 24 (0, 0))).alloc (.cells #[.int .i64 0, .int .i64 1, .int .i64 1, .int .i64 0, .int .i64 3, .int .i64 1, .int .i64 1, .int .i64 0, .int .i64 1, .int .i64 1, .int .i64 2, .int .i64 1, .int .i64 2, .int .i64 1, .int .i64 1, .int .i64 2, .int .i64 3, .int .i64 1, .int .i64 3, .int .i64 0, .int .i64 1, .int .i64 3, .int .i64 2, .int .i64 1] 46 (0, 0))).heap[w.heap.size]? = _ := heap_up (heap_new1 w _ rfl)
  have o2 : ((w.alloc (.cells #[.int .i64 4, .int .i64 0, .slice (some ⟨w.heap.size + 1, 0, none⟩) 8 8] 24 (0, 0))).alloc (.cells #[.int .i64 0, .int .i64 1, .int .i64 1, .int .i64 0, .int .i64 3, .int .i64 1, .int .i64 1, .int .i64 0, .int .i64 1, .int .i64 1, .int .i64 2, .int .i64 1, .int .i64 2, .int .i64 1, .int .i64 1, .int .i64 2, .int .i64 3, .int .i64 1, .int .i64 3, .int .i64 0, .int .i64 1, .int .i64 3, .int .i64 2, .int .i64 1] 46 (0, 0))).heap[w.heap.size + 1]? = _ := heap_new1 _ _ (by simp)
  clear HB
  generalize ((w.alloc (.cells #[.int .i64 4, .int .i64 0, .slice (some ⟨w.heap.size + 1, 0, none⟩) 8 8] 24 (0, 0))).alloc (.cells #[.int .i64 0, .int .i64 1, .int .i64 1, .int .i64 0, .int .i64 3, .int .i64 1, .int .i64 1, .int .i64 0, .int .i64 1, .int .i64 1, .int .i64 2, .int .i64 1, .int .i64 2, .int .i64 1, .int .i64 1, .int .i64 2, .int .i64 3, .int .i64 1, .int .i64 3, .int .i64 0, .int .i64 1, .int .i64 3, .int .i64 2, .int .i64 1] 46 (0, 0))) = W at *
  have q0 : W.cell? ⟨w.heap.size, 0, none⟩ = some (.int .i64 4) := cell_of o1 rfl
  have q1 : W.cell? ⟨w.heap.size, 1, none⟩ = some (.int .i64 0) := cell_of o1 rfl
  have q2 : W.cell? ⟨w.heap.size, 2, none⟩ = some (.slice (some ⟨w.heap.size + 1, 0, none⟩) 8 8) := cell_of o1 rfl
  exact bodyPost_ret (v := .agg #[.int .i64 4, .int .i64 0, .slice (some ⟨w.heap.size + 1, 0, none⟩) 8 8]) (by simp [results, Try.results31, go_sem, q0, q1, q2]) rfl ⟨_, rfl, rd3_ring o2, HBB.out⟩
theorem run_ring (s : Value) (w : World) (hr : Rd3 w s ringL) : Calls Try.prog 12 #[.agg #[.int .i64 4, .int .i64 0, s], .int .i64 0] w fun e w' => ∃ tv, e = .returned (.tuple #[tv, .int .i64 0]) ∧ RdT w' tv ⟨0, [0, 1, 2, 1], [[], [1], [1, 3], [3]], [[], [0], [1, 3], [0]]⟩ ∧ Below w.heap.size w w' := by
  refine (run_any 4 0 ringL s 0 w (by unfold I64; omega) (by unfold I64; omega) hr).mono ?_
  rintro e w' ⟨t, er, tv, rfl, ht, hq, hb⟩
  have hc : chk 4 0 ringL = 0 := by decide
  rcases hq with ⟨a, _⟩ | ⟨_, a, _⟩ | ⟨_, _, rfl, hi⟩
  · exact absurd hc a
  · exact absurd ⟨by omega, by omega⟩ a
  · have := hi.unique (u := ⟨0, [0, 1, 2, 1], [[], [1], [1, 3], [3]], [[], [0], [1, 3], [0]]⟩) ⟨4, rfl, rfl, ring_tree⟩
    subst this
    exact ⟨tv, rfl, ht, hb⟩
theorem run_net (s : Value) (w : World) (hr : Rd3 w s netL) : Calls Try.prog 12 #[.agg #[.int .i64 2, .int .i64 1, s], .int .i64 0] w fun e w' => ∃ tv, e = .returned (.tuple #[tv, .int .i64 0]) ∧ RdT w' tv ⟨0, [0, 3, 3], [[], [1], [2]], [[], [2], [0]]⟩ ∧ Below w.heap.size w w' := by
  refine (run_any 2 1 netL s 0 w (by unfold I64; omega) (by unfold I64; omega) hr).mono ?_
  rintro e w' ⟨t, er, tv, rfl, ht, hq, hb⟩
  have hc : chk 2 1 netL = 0 := by decide
  rcases hq with ⟨a, _⟩ | ⟨_, a, _⟩ | ⟨_, _, rfl, hi⟩
  · exact absurd hc a
  · exact absurd ⟨by omega, by omega⟩ a
  · have := hi.unique (u := ⟨0, [0, 3, 3], [[], [1], [2]], [[], [2], [0]]⟩) ⟨3, rfl, rfl, net_tree⟩
    subst this
    exact ⟨tv, rfl, ht, hb⟩
theorem path_ring (tv : Value) (w : World) (hr : RdT w tv ⟨0, [0, 1, 2, 1], [[], [1], [1, 3], [3]], [[], [0], [1, 3], [0]]⟩) : Calls Try.prog 19 #[tv, .int .i64 2] w fun e w' => ∃ v, e = .returned v ∧ RdI w' v [0, 1, 2] ∧ Below w.heap.size w w' := by
  refine (path_any 4 0 ringL 0 2 4 _ tv w ring_valid rfl (by omega) ring_tree rfl hr).mono ?_
  rintro e w' ⟨v, p, rfl, hp, ho, hb⟩
  have : p = [0, 1, 2] := by
    refine hp.unique ring_valid ?_
    have hd : 0 ≤ T ringL 0 2 := by have := ring_tree.d 2 (by omega); simp [gI] at this; omega
    have hp := ring_tree.p
    have p01 : Par ringL 0 1 0 := ((hp 1 (by omega)).2 0).1 (by decide)
    have p12 : Par ringL 0 2 1 := ((hp 2 (by omega)).2 1).1 (by decide)
    have n0 : ∀ u, ¬ Par ringL 0 0 u := fun u h => by have := ((hp 0 (by omega)).2 u).2 h; simp [gL] at this
    have n11 : ¬ Par ringL 0 1 1 := fun h => by have := ((hp 1 (by omega)).2 1).2 h; simp [gL] at this
    have on2 : On ringL 0 2 2 := On.end_ ring_valid hd
    have on1 : On ringL 0 2 1 := On.back ring_valid on2 p12
    refine .inl ⟨⟨by omega, by omega, hd⟩, ?_⟩
    refine SP.Way.more (p := [0, 1]) (u := 1) (SP.Way.more (p := [0]) (u := 0) .one (by omega) ⟨⟨on1, p01⟩, fun y h1 h2 => ?_⟩) (by omega) ⟨⟨on2, p12⟩, fun y h1 h2 => ?_⟩
    · have hy := h1.node ring_valid (by omega)
      by_cases e : y = 0
      · subst e; exact absurd h2 (n0 _)
      · omega
    · have hy := h1.node ring_valid (by omega)
      by_cases e : y = 0
      · subst e; exact absurd h2 (n0 _)
      · by_cases e1 : y = 1
        · subst e1; exact absurd h2 n11
        · omega
  subst this
  exact ⟨v, rfl, rdi_own ho, hb⟩
theorem rdi_new (W : World) (l : List Int) (hl : l.length ≤ 1000) : RdI (W.alloc (.cells (ints l).toArray 3 (0, 0))) (.slice (some ⟨W.heap.size, 0, none⟩) l.length l.length) l := by
  refine ⟨_, _, rfl, Nat.le_refl _, by omega, fun k x hk => ⟨W.heap.size, 0, rfl, by simp, ?_⟩⟩
  refine cell_of (heap_new1 W _ rfl) ?_
  rw [Nat.zero_add, List.getElem?_toArray]
  exact ints_get hk
theorem lives_any (w : World) : Calls Try.prog 15 #[] w fun e w' => e = .returned (.bool true) ∧ Below w.heap.size w w' := by
  have HR : Hid (∀ W, Calls Try.prog 31 #[] W fun e w' => ∃ s, e = .returned (.agg #[.int .i64 4, .int .i64 0, s]) ∧ Rd3 w' s ringL ∧ Below W.heap.size W w') := fun W => ring_any W
  go_enter Try.func15, Try.ntmps15
  go_wp2_with fail
  go_at_call 31
  refine (HR.out _).mono ?_
  rintro e w1 ⟨s1, rfl, h1, hb1⟩
  have HRun : Hid (∀ W, Below w1.heap.size w1 W → Calls Try.prog 12 #[.agg #[.int .i64 4, .int .i64 0, s1], .int .i64 0] W fun e w' => ∃ tv, e = .returned (.tuple #[tv, .int .i64 0]) ∧ RdT w' tv ⟨0, [0, 1, 2, 1], [[], [1], [1, 3], [3]], [[], [0], [1, 3], [0]]⟩ ∧ Below W.heap.size W w') := fun W hW => run_ring s1 W (h1.below hW)
  have HB1 := Lib.hid hb1
  clear h1 hb1 HR
  go_wp2_with fail
  go_at_call 12
  refine (HRun.out _ (Below.refl _ _)).mono ?_
  rintro e w2 ⟨tv, rfl, ht, hb2⟩
  have HB2 := Lib.hid (below_then HB1.out hb2)
  clear HRun hb2 HB1
  have HT := Lib.hid ht
  obtain ⟨td, th, tp, rfl, r1, r2, r3⟩ := ht
  obtain ⟨ad1, q1, rfl⟩ := r1.form
  obtain ⟨ad2, q2, rfl, _, _, hx2⟩ := r2
  obtain ⟨ad3, q3, rfl, _, _, hx3⟩ := r3
  go_wp2_with fail
  have o1 : ((w2.alloc (.cells #[.int .i64 0, .slice ad1 4 q1, .slice ad2 4 q2, .slice ad3 4 q3] 28 (0, 0))).alloc (.cells #[.int .i64 0, .int .i64 2, .int .i64 3, .int .i64 1, .int .i64 2, .int .i64 3, .int .i64 2, .int .i64 0, .int .i64 0, .int .i64 2, .int .i64 1, .int .i64 0] 46 (0, 0))).heap[w2.heap.size]? = _ := heap_up (heap_new1 w2 _ rfl)
  have o2 : ((w2.alloc (.cells #[.int .i64 0, .slice ad1 4 q1, .slice ad2 4 q2, .slice ad3 4 q3] 28 (0, 0))).alloc (.cells #[.int .i64 0, .int .i64 2, .int .i64 3, .int .i64 1, .int .i64 2, .int .i64 3, .int .i64 2, .int .i64 0, .int .i64 0, .int .i64 2, .int .i64 1, .int .i64 0] 46 (0, 0))).heap[w2.heap.size + 1]? = _ := heap_new1 _ _ (by simp)
  have hbw := below_two w2 (.cells #[.int .i64 0, .slice ad1 4 q1, .slice ad2 4 q2, .slice ad3 4 q3] 28 (0, 0)) (.cells #[.int .i64 0, .int .i64 2, .int .i64 3, .int .i64 1, .int .i64 2, .int .i64 3, .int .i64 2, .int .i64 0, .int .i64 0, .int .i64 2, .int .i64 1, .int .i64 0] 46 (0, 0))
  refine (run_net _ _ (rd3_net o2)).mono ?_
  rintro e w3 ⟨uv, rfl, hu, hb3⟩
  have HU := Lib.hid hu
  have hb23 := below_then hbw hb3
  have HB3 := Lib.hid (below_then HB2.out hb23)
  have o3 := (hb3.block _ (lt_block o1)).trans o1
  have HT3 := Lib.hid (HT.out.below hb23)
  clear o1 o2 hbw hb3 HT HB2 hx2 hx3 r1
  obtain ⟨ud, uh, up, rfl, s1', s2', s3'⟩ := hu
  obtain ⟨bd1, p1, rfl⟩ := s1'.form
  obtain ⟨bd2, p2, rfl⟩ := s2'.form
  obtain ⟨bd3, p3, rfl⟩ := s3'.form
  clear s1' s2' s3' hb23
  have c0 : ∀ o, (w3.alloc o).cell? ⟨w2.heap.size, 0, none⟩ = some (.int .i64 0) := fun o => carry (below_alloc _ _) (cell_of o3 rfl)
  have c1 : ∀ o, (w3.alloc o).cell? ⟨w2.heap.size, 1, none⟩ = some (.slice ad1 4 q1) := fun o => carry (below_alloc _ _) (cell_of o3 rfl)
  have c2 : ∀ o, (w3.alloc o).cell? ⟨w2.heap.size, 2, none⟩ = some (.slice ad2 4 q2) := fun o => carry (below_alloc _ _) (cell_of o3 rfl)
  have c3 : ∀ o, (w3.alloc o).cell? ⟨w2.heap.size, 3, none⟩ = some (.slice ad3 4 q3) := fun o => carry (below_alloc _ _) (cell_of o3 rfl)
  have hv3 : Below w3.heap.size w3 (w3.alloc (.cells #[.int .i64 0, .slice bd1 3 p1, .slice bd2 3 p2, .slice bd3 3 p3] 28 (0, 0))) := below_alloc _ _
  have o4 : (w3.alloc (.cells #[.int .i64 0, .slice bd1 3 p1, .slice bd2 3 p2, .slice bd3 3 p3] 28 (0, 0))).heap[w3.heap.size]? = some (.cells #[.int .i64 0, .slice bd1 3 p1, .slice bd2 3 p2, .slice bd3 3 p3] 28 (0, 0)) := heap_new1 _ _ rfl
  have HV3 := Lib.hid (below_then HB3.out hv3)
  have HTV := Lib.hid (HT3.out.below hv3)
  have HUV := Lib.hid (HU.out.below hv3)
  have o3v := (hv3.block _ (lt_block o3)).trans o3
  go_wp2_with fail
  clear c0 c1 c2 c3
  have hVs : (w3.alloc (.cells #[.int .i64 0, .slice bd1 3 p1, .slice bd2 3 p2, .slice bd3 3 p3] 28 (0, 0))).heap.size = w3.heap.size + 1 := by simp
  generalize w3.alloc (.cells #[.int .i64 0, .slice bd1 3 p1, .slice bd2 3 p2, .slice bd3 3 p3] 28 (0, 0)) = V at *
  have HC : Hid (∀ W, Below V.heap.size V W → (W.cell? ⟨w2.heap.size, 0, none⟩ = some (.int .i64 0) ∧ W.cell? ⟨w2.heap.size, 1, none⟩ = some (.slice ad1 4 q1) ∧ W.cell? ⟨w2.heap.size, 2, none⟩ = some (.slice ad2 4 q2) ∧ W.cell? ⟨w2.heap.size, 3, none⟩ = some (.slice ad3 4 q3)) ∧ W.cell? ⟨w3.heap.size, 1, none⟩ = some (.slice bd1 3 p1) ∧ W.cell? ⟨w3.heap.size, 2, none⟩ = some (.slice bd2 3 p2)) := fun W hW =>
    ⟨⟨carry hW (cell_of o3v rfl), carry hW (cell_of o3v rfl), carry hW (cell_of o3v rfl), carry hW (cell_of o3v rfl)⟩, carry hW (cell_of o4 rfl), carry hW (cell_of o4 rfl)⟩
  have HD1 : Hid (RdI V (.slice ad1 4 q1) [0, 1, 2, 1] ∧ RdR V (.slice ad2 4 q2) [[], [1], [1, 3], [3]] ∧ RdR V (.slice ad3 4 q3) [[], [0], [1, 3], [0]]) := by
    obtain ⟨_, _, _, e, a1, a2, a3⟩ := HTV.out
    cases e; exact ⟨a1, a2, a3⟩
  have HD2 : Hid (RdI V (.slice bd1 3 p1) [0, 3, 3] ∧ RdR V (.slice bd2 3 p2) [[], [1], [2]]) := by
    obtain ⟨_, _, _, e, a1, a2, a3⟩ := HUV.out
    cases e; exact ⟨a1, a2⟩
  obtain ⟨x2, y2, e2, _, _, hx2⟩ := HD1.out.2.1
  obtain ⟨x3, y3, e3, _, _, hx3⟩ := HD1.out.2.2
  obtain ⟨x4, y4, e4, _, _, hx4⟩ := HD2.out.2
  cases e2; cases e3; cases e4
  obtain ⟨g2, f2, v2, rfl, l2, k2, R2⟩ := hx2 2 [1, 3] rfl
  obtain ⟨g3, f3, v3, rfl, l3, k3, R3⟩ := hx3 2 [1, 3] rfl
  obtain ⟨g4, f4, v4, rfl, l4, k4, R4⟩ := hx4 1 [1] rfl
  obtain ⟨g5, f5, v5, e5, l5, k5, R5⟩ := hx4 2 [2] rfl
  cases e5
  have HRR := Lib.hid (And.intro R2 (And.intro R3 (And.intro R4 R5)))
  have HK : Hid (∀ W, Below V.heap.size V W → W.cell? ⟨g2, f2 + 2, none⟩ = some v2 ∧ W.cell? ⟨g3, f3 + 2, none⟩ = some v3 ∧ W.cell? ⟨g4, f4 + 1, none⟩ = some v4 ∧ W.cell? ⟨g4, f4 + 2, none⟩ = some v5) := fun W hW => ⟨carry hW k2, carry hW k3, carry hW k4, carry hW k5⟩
  clear hx2 hx3 hx4 R2 R3 R4 R5 k2 k3 k4 k5 l2 l3 l4 l5 o3v o4
  have HBV0 : Hid (Below V.heap.size V V) := Below.refl _ _
  have hlit := rdi_new V [0, 1, 2, 1] (by decide)
  rw [hVs] at hlit
  go_at_call 18
  refine (same_ints [0, 1, 2, 1] [0, 1, 2, 1] _ _ _ ((HD1.out.1.below HBV0.out).below (below_alloc _ _)) hlit).mono ?_
  rintro e W0 ⟨he, hb⟩
  rw [decide_eq_true rfl] at he
  subst he
  have HBV1 := Lib.hid (below_then (below_then HBV0.out (below_alloc _ _)) hb)
  clear hb hlit
  obtain ⟨⟨c0, c1, c2, c3⟩, c4, c5⟩ := HC.out _ HBV1.out
  obtain ⟨k2, k3, k4, k5⟩ := HK.out _ HBV1.out
  have ca0 := fun o => carry (below_alloc W0 o) c0
  have ca1 := fun o => carry (below_alloc W0 o) c1
  clear ca0 ca1
  go_wp2_with fail
  have hlit := rdi_new W0 [1, 3] (by decide)
  go_at_call 18
  refine (same_ints [1, 3] [1, 3] _ _ _ ((HRR.out.2.1.below HBV1.out).below (below_alloc _ _)) hlit).mono ?_
  rintro e W1 ⟨he, hb⟩
  rw [decide_eq_true rfl] at he
  subst he
  have HBV2 := Lib.hid (below_then (below_then HBV1.out (below_alloc _ _)) hb)
  clear hb hlit c0 c1 c2 c3 c4 c5 k2 k3 k4 k5
  obtain ⟨⟨c0, c1, c2, c3⟩, c4, c5⟩ := HC.out _ HBV2.out
  obtain ⟨k2, k3, k4, k5⟩ := HK.out _ HBV2.out
  have ca0 := fun o => carry (below_alloc W1 o) c0
  have ca1 := fun o => carry (below_alloc W1 o) c1
  clear ca0 ca1
  go_wp2_with fail
  have hlit := rdi_new W1 [1, 3] (by decide)
  go_at_call 18
  refine (same_ints [1, 3] [1, 3] _ _ _ ((HRR.out.1.below HBV2.out).below (below_alloc _ _)) hlit).mono ?_
  rintro e W2 ⟨he, hb⟩
  rw [decide_eq_true rfl] at he
  subst he
  have HBV3 := Lib.hid (below_then (below_then HBV2.out (below_alloc _ _)) hb)
  clear hb hlit c0 c1 c2 c3 c4 c5 k2 k3 k4 k5
  obtain ⟨⟨c0, c1, c2, c3⟩, c4, c5⟩ := HC.out _ HBV3.out
  obtain ⟨k2, k3, k4, k5⟩ := HK.out _ HBV3.out
  have ca0 := fun o => carry (below_alloc W2 o) c0
  have ca1 := fun o => carry (below_alloc W2 o) c1
  clear ca0 ca1
  go_wp2_with fail
  go_at_call 19
  refine (path_ring _ _ (HTV.out.below HBV3.out)).mono ?_
  rintro e P1 ⟨vp, rfl, hvp, hb⟩
  have HBV4 := Lib.hid (below_then HBV3.out hb)
  have HVP := Lib.hid hvp
  clear hb hvp c0 c1 c2 c3 c4 c5 k2 k3 k4 k5
  obtain ⟨⟨c0, c1, c2, c3⟩, c4, c5⟩ := HC.out _ HBV4.out
  obtain ⟨k2, k3, k4, k5⟩ := HK.out _ HBV4.out
  go_wp2_with fail
  have hlit := rdi_new P1 [0, 1, 2] (by decide)
  go_at_call 18
  refine (same_ints [0, 1, 2] [0, 1, 2] _ _ _ (HVP.out.below (below_alloc _ _)) hlit).mono ?_
  rintro e W3 ⟨he, hb⟩
  rw [decide_eq_true rfl] at he
  subst he
  have HBV5 := Lib.hid (below_then (below_then HBV4.out (below_alloc _ _)) hb)
  clear hb hlit c0 c1 c2 c3 c4 c5 k2 k3 k4 k5
  obtain ⟨⟨c0, c1, c2, c3⟩, c4, c5⟩ := HC.out _ HBV5.out
  obtain ⟨k2, k3, k4, k5⟩ := HK.out _ HBV5.out
  have ca0 := fun o => carry (below_alloc W3 o) c0
  have ca1 := fun o => carry (below_alloc W3 o) c1
  clear ca0 ca1
  go_wp2_with fail
  have hlit := rdi_new W3 [0, 3, 3] (by decide)
  go_at_call 18
  refine (same_ints [0, 3, 3] [0, 3, 3] _ _ _ ((HD2.out.1.below HBV5.out).below (below_alloc _ _)) hlit).mono ?_
  rintro e W4 ⟨he, hb⟩
  rw [decide_eq_true rfl] at he
  subst he
  have HBV6 := Lib.hid (below_then (below_then HBV5.out (below_alloc _ _)) hb)
  clear hb hlit c0 c1 c2 c3 c4 c5 k2 k3 k4 k5
  obtain ⟨⟨c0, c1, c2, c3⟩, c4, c5⟩ := HC.out _ HBV6.out
  obtain ⟨k2, k3, k4, k5⟩ := HK.out _ HBV6.out
  have ca0 := fun o => carry (below_alloc W4 o) c0
  have ca1 := fun o => carry (below_alloc W4 o) c1
  clear ca0 ca1
  go_wp2_with fail
  have hlit := rdi_new W4 [1] (by decide)
  go_at_call 18
  refine (same_ints [1] [1] _ _ _ ((HRR.out.2.2.1.below HBV6.out).below (below_alloc _ _)) hlit).mono ?_
  rintro e W5 ⟨he, hb⟩
  rw [decide_eq_true rfl] at he
  subst he
  have HBV7 := Lib.hid (below_then (below_then HBV6.out (below_alloc _ _)) hb)
  clear hb hlit c0 c1 c2 c3 c4 c5 k2 k3 k4 k5
  obtain ⟨⟨c0, c1, c2, c3⟩, c4, c5⟩ := HC.out _ HBV7.out
  obtain ⟨k2, k3, k4, k5⟩ := HK.out _ HBV7.out
  have ca0 := fun o => carry (below_alloc W5 o) c0
  have ca1 := fun o => carry (below_alloc W5 o) c1
  clear ca0 ca1
  go_wp2_with fail
  have hlit := rdi_new W5 [2] (by decide)
  go_at_call 18
  refine (same_ints [2] [2] _ _ _ ((HRR.out.2.2.2.below HBV7.out).below (below_alloc _ _)) hlit).mono ?_
  rintro e W6 ⟨he, hb⟩
  rw [decide_eq_true rfl] at he
  subst he
  have HBV8 := Lib.hid (below_then (below_then HBV7.out (below_alloc _ _)) hb)
  clear hb hlit c0 c1 c2 c3 c4 c5 k2 k3 k4 k5
  go_wp2
  go_ret
  exact ⟨rfl, below_then HV3.out HBV8.out⟩
end Go.Proofs.Ytmlpbhankgojpaa
