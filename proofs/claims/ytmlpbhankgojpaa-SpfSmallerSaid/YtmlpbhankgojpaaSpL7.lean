/-
  The walk of the law Smaller.
-/
import Derived.Test.YtmlpbhankgojpaaSpL2
namespace Go.Proofs.Ytmlpbhankgojpaa
open Go.RowKit HM GM SP
set_option linter.unusedSimpArgs false
set_option linter.unusedVariables false
set_option maxHeartbeats 4000000
set_option maxRecDepth 100000
/-- a region by what it leaves -/
theorem reg_mono2 {P : Program} {c : Code} {Q : Exit → Act → World → Prop} {a : Act} {w : World} (RR : Act → Act → World → Prop) (h1 : c.wp P (fun e a' W => e = .normal ∧ RR a a' W) a w) (h2 : ∀ a' W, RR a a' W → Q .normal a' W) : c.wp P Q a w :=
  Code.wp_mono (fun e a' W h => by obtain ⟨rfl, h⟩ := h; exact h2 a' W h) h1
def enc3 (x : E) : List Value := [.int .i64 x.1, .int .i64 x.2.1, .int .i64 x.2.2]
def flat3 (l : List E) : List Value := l.flatMap enc3
theorem flat3_len (l : List E) : (flat3 l).length = l.length * 3 := by
  induction l with
  | nil => rfl
  | cons x r ih => unfold flat3 at *; rw [List.flatMap_cons, List.length_append, ih, List.length_cons, enc3]; simp; omega
theorem flat3_app (a b : List E) : flat3 (a ++ b) = flat3 a ++ flat3 b := by unfold flat3; simp
theorem flat3_get : ∀ (l : List E) (k : Nat) (x : E), l[k]? = some x → (flat3 l)[k * 3]? = some (.int .i64 x.1) ∧ (flat3 l)[k * 3 + 1]? = some (.int .i64 x.2.1) ∧ (flat3 l)[k * 3 + 2]? = some (.int .i64 x.2.2)
  | [], k, x, h => by simp at h
  | y :: r, 0, x, h => by simp at h; subst h; simp [flat3, enc3]
  | y :: r, k + 1, x, h => by
    have ih := flat3_get r k x (by simpa using h)
    have e : flat3 (y :: r) = .int .i64 y.1 :: .int .i64 y.2.1 :: .int .i64 y.2.2 :: flat3 r := by simp [flat3, enc3]
    rw [e, show (k + 1) * 3 = k * 3 + 1 + 1 + 1 by omega, show k * 3 + 1 + 1 + 1 + 1 = (k * 3 + 1) + 1 + 1 + 1 by omega, show k * 3 + 1 + 1 + 1 + 2 = (k * 3 + 2) + 1 + 1 + 1 by omega]
    simpa using ih
theorem flat3_one (l : List E) : ∀ u ∈ flat3 l, u.oneCell' = true := by
  intro u hu
  obtain ⟨x, _, hx⟩ := List.mem_flatMap.1 hu
  simp [enc3] at hx; rcases hx with rfl | rfl | rfl <;> rfl
theorem info46 : (Try.prog.info? 46).map (fun i => (i.zero, i.size, i.bytes)) = some (some (.agg #[.int .i64 0, .int .i64 0, .int .i64 0]), 3, 24) := by kernel_rfl
theorem flat3_cells {w : World} {l : List E} {b off : Nat} (hc : ∀ (q : Nat) (y : E), l[q]? = some y → b < w.heap.size ∧ w.cell? ⟨b, off + q * 3, none⟩ = some (.int .i64 y.1) ∧ w.cell? ⟨b, off + q * 3 + 1, none⟩ = some (.int .i64 y.2.1) ∧ w.cell? ⟨b, off + q * 3 + 2, none⟩ = some (.int .i64 y.2.2)) :
    ∀ j u, (flat3 l)[j]? = some u → w.cell? ((⟨b, off, none⟩ : Addr).add j) = some u := by
  intro j u hj
  have hjl := (List.getElem?_eq_some_iff.1 hj).1
  rw [flat3_len] at hjl
  rw [Addr.add_lit]
  obtain ⟨y, hy⟩ : ∃ y, l[j / 3]? = some y := ⟨_, List.getElem?_eq_getElem (by omega)⟩
  obtain ⟨_, c0, c1, c2⟩ := hc _ y hy
  obtain ⟨g0, g1, g2⟩ := flat3_get l _ y hy
  have hm : j % 3 = 0 ∨ j % 3 = 1 ∨ j % 3 = 2 := by omega
  rcases hm with h | h | h
  · have e : j = j / 3 * 3 := by omega
    rw [e] at hj ⊢; rw [g0] at hj; cases hj; exact c0
  · have e : j = j / 3 * 3 + 1 := by omega
    rw [e] at hj ⊢; rw [g1] at hj; cases hj; exact c1
  · have e : j = j / 3 * 3 + 2 := by omega
    rw [e] at hj ⊢; rw [g2] at hj; cases hj; exact c2
theorem take_get {l : List E} {k q : Nat} {y : E} (h : (l.take k)[q]? = some y) : l[q]? = some y := by
  have := (List.getElem?_eq_some_iff.1 h).1
  rw [List.length_take] at this
  rwa [List.getElem?_take_of_lt (by omega)] at h
theorem GraphOf.below {w w' : World} {l : List E} {b off cap : Nat} (h : GraphOf w l b off cap) (hb : Below w.heap.size w w') : GraphOf w' l b off cap := fun k x hk => by
  obtain ⟨a0, a1, a2, a3⟩ := h k x hk
  exact ⟨Nat.lt_of_lt_of_le a0 hb.size, carry hb a1, carry hb a2, carry hb a3⟩
theorem rd3_own46 {w : World} {B : Nat} {v : Value} {l : List E} (h : w.ownsRow B 46 3 v l.length (flat3 l)) : Rd3 w v l := by
  rcases h.2 with ⟨rfl, hn⟩ | ⟨g, cap, cur, rfl, hB, hg, hnc, hcm, _, _⟩
  · obtain rfl := List.length_eq_zero_iff.1 hn
    exact rd3_nil w
  · refine ⟨some ⟨g, 0, none⟩, cap, rfl, hnc, by unfold maxLen at hcm; omega, fun k x hk => ⟨g, 0, rfl, (Array.getElem?_eq_some_iff.1 hg).1, ?_, ?_, ?_⟩⟩
    · have hlt := (List.getElem?_eq_some_iff.1 hk).1
      rw [Nat.zero_add, h.cellAt (k * 3) (by omega)]; exact (flat3_get l k x hk).1
    · have hlt := (List.getElem?_eq_some_iff.1 hk).1
      rw [Nat.zero_add, h.cellAt (k * 3 + 1) (by omega)]; exact (flat3_get l k x hk).2.1
    · have hlt := (List.getElem?_eq_some_iff.1 hk).1
      rw [Nat.zero_add, h.cellAt (k * 3 + 2) (by omega)]; exact (flat3_get l k x hk).2.2
theorem small_fail (R N : Int) (l : List E) (s : Value) (root ta : Int) (w : World) (hR : I64 R) (hN : I64 N) (hr : Rd3 w s l) (hn : ¬ (chk R N l = 0 ∧ 0 ≤ root ∧ root < R)) :
    Calls Try.prog 11 #[.agg #[.int .i64 R, .int .i64 N, s], .int .i64 root, .int .i64 ta] w fun e w' => e = .returned (.bool true) ∧ Below w.heap.size w w' := by
  have HRun : Hid (∀ W, Below w.heap.size w W → Calls Try.prog 12 #[.agg #[.int .i64 R, .int .i64 N, s], .int .i64 root] W (RunQ R N l root W)) := fun W hW => run_any R N l s root W hR hN (hr.below hW)
  have HF : Hid (∀ t er, RunR R N l root t er → (er == 0) = false ∧ (er != 0) = true) := fun t er h => h.fail hn
  obtain ⟨ad, cap, hform⟩ := rd3_slice hr
  obtain ⟨L, hL⟩ : ∃ L, l.length = L := ⟨_, rfl⟩
  rw [hL] at hform
  subst hform
  clear hr hL hn
  have HB := Lib.hid (below_alloc w (.cells #[.int .i64 R, .int .i64 N, .slice ad L cap] 24))
  go_enter Try.func11, Try.ntmps11
  go_wp2_with fail
  go_at_call 12
  refine (HRun.out _ HB.out).mono ?_
  rintro e w1 ⟨t, er, tv, rfl, ht, hq, hb⟩
  obtain ⟨he0, he1⟩ := HF.out _ _ hq
  have HB1 := Lib.hid (below_then HB.out hb)
  clear hb HB hq HF HRun
  obtain ⟨td, th, tp, rfl, r1, r2, r3⟩ := ht
  obtain ⟨a1, q1, rfl⟩ := r1.form
  obtain ⟨a2, q2, rfl⟩ := r2.form
  obtain ⟨a3, q3, rfl⟩ := r3.form
  clear r1 r2 r3
  go_wp2_with fail
  go_at_call 15
  refine (lives_any _).mono ?_
  rintro e w2 ⟨rfl, hb⟩
  have HB2 := Lib.hid (below_then (below_then HB1.out (below_alloc _ _)) hb)
  clear hb
  go_wp2
  go_ret
  exact ⟨rfl, HB2.out⟩
theorem small_good (R N : Int) (l : List E) (s : Value) (root : Int) (k : Nat) (w : World) (hR : I64 R) (hN : I64 N) (hr : Rd3 w s l) (hf : FitT l) (hc : chk R N l = 0) (hro : 0 ≤ root ∧ root < R) (hkl : k < l.length) :
    Calls Try.prog 11 #[.agg #[.int .i64 R, .int .i64 N, s], .int .i64 root, .int .i64 (k : Int)] w fun e w' => e = .returned (.bool true) ∧ Below w.heap.size w w' := by
  have hv := chk_iff.1 hc
  have hR0 := hv.r; have hN0 := hv.n; have hS := hv.s
  obtain ⟨n, hn⟩ : ∃ n : Nat, (n : Int) = R + N := ⟨(R + N).toNat, by omega⟩
  obtain ⟨x, rfl⟩ : ∃ x : Nat, root = (x : Int) := ⟨root.toNat, by omega⟩
  have HRun : Hid (∀ W, Below w.heap.size w W → Calls Try.prog 12 #[.agg #[.int .i64 R, .int .i64 N, s], .int .i64 (x : Int)] W fun e w' => ∃ t tv, e = .returned (.tuple #[tv, .int .i64 0]) ∧ RdT w' tv t ∧ t.root = (x : Int) ∧ Tree R N l (x : Int) n t.dist t.hops t.pars ∧ Below W.heap.size W w') := fun W hW => by
    refine (run_any R N l s (x : Int) W hR hN (hr.below hW)).mono ?_
    rintro e w' ⟨t, er, tv, rfl, ht, hq, hb⟩
    obtain ⟨rfl, m, hm, h1, h2⟩ := hq.good ⟨hc, hro⟩
    obtain rfl : m = n := by omega
    exact ⟨t, tv, rfl, ht, h1, h2, hb⟩
  have hl1024 : l.length ≤ 1024 := hv.len
  have HRun2 : Hid (∀ W s', Rd3 W s' (l.take k ++ l.drop (k + 1)) → Calls Try.prog 12 #[.agg #[.int .i64 R, .int .i64 N, s'], .int .i64 (x : Int)] W fun e w' => ∃ t tv, e = .returned (.tuple #[tv, .int .i64 0]) ∧ RdT w' tv t ∧ t.root = (x : Int) ∧ Tree R N (l.take k ++ l.drop (k + 1)) (x : Int) n t.dist t.hops t.pars ∧ Below W.heap.size W w') := fun W s' hrd => by
    refine (run_any R N (l.take k ++ l.drop (k + 1)) s' (x : Int) W hR hN hrd).mono ?_
    rintro e w' ⟨t, er, tv, rfl, ht, hq, hb⟩
    obtain ⟨rfl, m, hm, h1, h2⟩ := hq.good ⟨chk_iff.2 (valid_sub hv (cut_sub l k)), hro⟩
    obtain rfl : m = n := by omega
    exact ⟨t, tv, rfl, ht, h1, h2, hb⟩
  have HTS : Hid (∀ v : Nat, v < n → 0 ≤ T (l.take k ++ l.drop (k + 1)) (x : Int) (v : Int) → 0 ≤ T l (x : Int) (v : Int) ∧ T l (x : Int) (v : Int) ≤ T (l.take k ++ l.drop (k + 1)) (x : Int) (v : Int)) := fun v _ h => T_sub hv (cut_sub l k) h
  have HV : Hid (Valid R N l ∧ (n : Int) = R + N ∧ (x : Int) < R) := ⟨hv, hn, hro.2⟩
  obtain ⟨ad, cap, rfl, hcap1, hcap2, hcc⟩ := hr
  have HC := Lib.hid hcc
  obtain ⟨L, hL⟩ : ∃ L, l.length = L := ⟨_, rfl⟩
  rw [hL] at HRun hcap1 hl1024 hkl ⊢
  have HL := Lib.hid hL
  have hxn : x < n := by omega
  have hn8 : n ≤ 128 := by omega
  have hn1 : R + N = (n : Int) := hn.symm
  have x0 : (0 : Int) ≤ (x : Int) := by omega
  have x1 : (x : Int) < (n : Int) := by omega
  clear hv hc hcc hL hn hro
  have HB := Lib.hid (below_alloc w (.cells #[.int .i64 R, .int .i64 N, .slice ad L cap] 24))
  have bx : (w.alloc (.cells #[.int .i64 R, .int .i64 N, .slice ad L cap] 24)).heap[w.heap.size]? = some (.cells #[.int .i64 R, .int .i64 N, .slice ad L cap] 24 (0, 0)) := heap_alloc_new _ _
  have HBX := Lib.hid bx
  clear bx
  have k0 : (0 : Int) ≤ (k : Int) := by omega
  have k1 : (k : Int) < (L : Int) := by omega
  have k2 : decide ((k : Int) < 0) = false := decide_eq_false (by omega)
  have k3 : decide ((L : Int) ≤ (k : Int)) = false := decide_eq_false (by omega)
  have k4 : decide (L ≤ k) = false := decide_eq_false (by omega)
  have k5 : k ≤ cap := by omega
  have k6 : k + 1 ≤ L := by omega
  obtain ⟨ie, hie, hz0, hz1, hz2⟩ := info_parts info46
  go_enter Try.func11, Try.ntmps11
  go_wp2_with fail
  go_at_call 12
  refine (HRun.out _ HB.out).mono ?_
  rintro e w1 ⟨t, tv, rfl, ht, htr, hT, hb⟩
  have HT := Lib.hid hT
  obtain ⟨td, th, tp, rfl, r1, r2, r3⟩ := ht
  obtain ⟨b1, o1, q1, rfl, hq1, hb1, hd⟩ := r1.cells hT.ld (by omega)
  obtain ⟨b2, o2, q2, rfl, hq2, hb2, hh⟩ := r2.cells hT.lh (by omega)
  obtain ⟨b3, o3, q3, rfl, hq3, hb3, hp⟩ := r3.cells hT.lp (by omega)
  rw [htr]
  have HB1 := Lib.hid (below_then HB.out hb)
  have HO1 := Lib.hid ((hb.block _ (lt_block HBX.out)).trans HBX.out)
  clear hb HRun HB HBX htr hT r1 r2 r3
  have cg : ∀ o, (w1.alloc o).heap[w.heap.size]? = some (.cells #[.int .i64 R, .int .i64 N, .slice ad L cap] 24 (0, 0)) := fun o => heap_up HO1.out
  have cg0 : ∀ o, (w1.alloc o).cell? ⟨w.heap.size, 0, none⟩ = some (.int .i64 R) := fun o => cell_of (cg o) rfl
  have cg1 : ∀ o, (w1.alloc o).cell? ⟨w.heap.size, 1, none⟩ = some (.int .i64 N) := fun o => cell_of (cg o) rfl
  have cg2 : ∀ o, (w1.alloc o).cell? ⟨w.heap.size, 2, none⟩ = some (.slice ad L cap) := fun o => cell_of (cg o) rfl
  clear cg
  go_upto_region 4 with (fail)
  clear cg0 cg1 cg2
  have o4 : (w1.alloc (.cells #[.int .i64 (x : Int), .slice (some ⟨b1, o1, none⟩) n q1, .slice (some ⟨b2, o2, none⟩) n q2, .slice (some ⟨b3, o3, none⟩) n q3] 28)).heap[w1.heap.size]? = some (.cells #[.int .i64 (x : Int), .slice (some ⟨b1, o1, none⟩) n q1, .slice (some ⟨b2, o2, none⟩) n q2, .slice (some ⟨b3, o3, none⟩) n q3] 28 (0, 0)) := heap_new1 _ _ rfl
  have o5 : (w1.alloc (.cells #[.int .i64 (x : Int), .slice (some ⟨b1, o1, none⟩) n q1, .slice (some ⟨b2, o2, none⟩) n q2, .slice (some ⟨b3, o3, none⟩) n q3] 28)).heap[w.heap.size]? = _ := heap_up HO1.out
  have hVb := below_alloc w1 (.cells #[.int .i64 (x : Int), .slice (some ⟨b1, o1, none⟩) n q1, .slice (some ⟨b2, o2, none⟩) n q2, .slice (some ⟨b3, o3, none⟩) n q3] 28)
  have HBV := Lib.hid (below_then HB1.out hVb)
  generalize (w1.alloc (.cells #[.int .i64 (x : Int), .slice (some ⟨b1, o1, none⟩) n q1, .slice (some ⟨b2, o2, none⟩) n q2, .slice (some ⟨b3, o3, none⟩) n q3] 28)) = V at *
  have HCG : Hid (∀ W, Below V.heap.size V W → W.cell? ⟨w.heap.size, 0, none⟩ = some (.int .i64 R) ∧ W.cell? ⟨w.heap.size, 1, none⟩ = some (.int .i64 N) ∧ W.cell? ⟨w.heap.size, 2, none⟩ = some (.slice ad L cap)) := fun W hW => ⟨carry hW (cell_of o5 rfl), carry hW (cell_of o5 rfl), carry hW (cell_of o5 rfl)⟩
  have HCT : Hid (∀ W, Below V.heap.size V W → W.cell? ⟨w1.heap.size, 0, none⟩ = some (.int .i64 (x : Int)) ∧ W.cell? ⟨w1.heap.size, 1, none⟩ = some (.slice (some ⟨b1, o1, none⟩) n q1) ∧ W.cell? ⟨w1.heap.size, 2, none⟩ = some (.slice (some ⟨b2, o2, none⟩) n q2) ∧ W.cell? ⟨w1.heap.size, 3, none⟩ = some (.slice (some ⟨b3, o3, none⟩) n q3)) := fun W hW => ⟨carry hW (cell_of o4 rfl), carry hW (cell_of o4 rfl), carry hW (cell_of o4 rfl), carry hW (cell_of o4 rfl)⟩
  have HD : Hid (∀ W, Below V.heap.size V W → ∀ k, k < n → W.cell? ⟨b1, o1 + k, none⟩ = some (.int .i64 (gI t.dist k))) := fun W hW k hk => carry hW (carry hVb (hd k hk))
  have HH : Hid (∀ W, Below V.heap.size V W → ∀ k, k < n → ∃ a c, W.cell? ⟨b2, o2 + k, none⟩ = some (.slice a (gL t.hops k).length c)) := fun W hW k hk => by
    obtain ⟨u, h1, h2⟩ := hh k hk
    obtain ⟨a, c, rfl⟩ := h2.form
    exact ⟨a, c, carry hW (carry hVb h1)⟩
  have HP : Hid (∀ W, Below V.heap.size V W → ∀ k, k < n → ∃ a c, W.cell? ⟨b3, o3 + k, none⟩ = some (.slice a (gL t.pars k).length c)) := fun W hW k hk => by
    obtain ⟨u, h1, h2⟩ := hp k hk
    obtain ⟨a, c, rfl⟩ := h2.form
    exact ⟨a, c, carry hW (carry hVb h1)⟩
  clear o4 o5 hVb hd hh hp HB1 HO1 hb1 hb2 hb3
  obtain ⟨eb, eo, rfl, heb, -⟩ := HC.out k _ (List.getElem?_eq_getElem (by rw [HL.out]; exact hkl))
  have hcV : GraphOf V l eb eo cap := fun q y hq => by
    obtain ⟨b', o', e, a0, a1, a2, a3⟩ := HC.out q y hq
    cases e
    exact ⟨Nat.lt_of_lt_of_le a0 HBV.out.size, carryB HBV.out a0 a1, carryB HBV.out a0 a2, carryB HBV.out a0 a3⟩
  have HCV := Lib.hid hcV
  have HOL : Hid ((V.alloc (.cells #[] 46)).ownsRow V.heap.size 46 3 (.slice (some ⟨V.heap.size, 0, none⟩) 0 0) 0 []) := World.ownsRow_lit V #[] 0 (Nat.le_refl _) (by unfold maxLen; omega) rfl
  have HVL : Hid (Below V.heap.size V (V.alloc (.cells #[] 46))) := below_alloc _ _
  obtain ⟨c0, c1, c2⟩ := HCG.out _ HVL.out
  obtain ⟨c0v, c1v, c2v⟩ := HCG.out V (Below.refl _ _)
  have hcA := fun o => carry (below_alloc V o) c2v
  have hlt : (l.take k).length = k := by rw [List.length_take, HL.out]; omega
  have hld : (l.drop (k + 1)).length = L - (k + 1) := by rw [List.length_drop, HL.out]
  clear hcV
  refine wp_region_list ?_
  refine wpList_plain rfl fun K hK => ?_
  (try go_simp)
  refine hK _ _ ?_
  clear hK K
  (try simp only [Act.put, List.setIfInBounds_toArray, List.set_cons_zero, List.set_cons_succ])
  refine wpList_plain rfl fun K hK => ?_
  (try go_simp)
  refine hK _ _ ?_
  clear hK K
  (try simp only [Act.put, List.setIfInBounds_toArray, List.set_cons_zero, List.set_cons_succ])
  refine wpList_plain rfl fun K hK => ?_
  (try go_simp)
  refine hK _ _ ?_
  clear hK K
  (try simp only [Act.put, List.setIfInBounds_toArray, List.set_cons_zero, List.set_cons_succ])
  refine wpList_plain rfl fun K hK => ?_
  (try go_simp)
  refine hK _ _ ?_
  clear hK K
  (try simp only [Act.put, List.setIfInBounds_toArray, List.set_cons_zero, List.set_cons_succ])
  refine wpList_plain rfl fun K hK => ?_
  (try go_simp)
  refine hK _ _ ?_
  clear hK K
  (try simp only [Act.put, List.setIfInBounds_toArray, List.set_cons_zero, List.set_cons_succ])
  refine wpList_append_own _ rfl (.tmp 33) (.tmp 37) 22 rfl V.heap.size 46 ie (.agg #[.int .i64 0, .int .i64 0, .int .i64 0]) 3 24 Try.underlying22 hie hz0 hz1 hz2 rfl (by decide) (.slice (some ⟨V.heap.size, 0, none⟩) 0 0) 0 [] rfl HOL.out ⟨eb, eo, none⟩ k cap (flat3 (l.take k)) rfl (by rw [flat3_len, hlt]) (flat3_cells (fun q y hq => HCV.out.below HVL.out q y (take_get hq))) (flat3_one _) (by unfold maxLen; omega) (by omega) (by simp) ?_
  (intro vA wA h1 h2 h3; have HA1 : Hid (wA.ownsRow V.heap.size 46 3 vA k (flat3 (l.take k))) := (by (rw [Nat.zero_add, List.nil_append] at h1; exact h1)); have HA2 : Hid (Below V.heap.size V wA) := (HVL.out.grown h2 (by simp) (fun q hq => (row_lt HOL.out hq).1)); obtain ⟨va, vc, hvf, -⟩ := own_form HA1.out; subst hvf; clear h1 h2 h3)
  clear c0 c1 c2 c0v c1v c2v hcA HOL HVL
  obtain ⟨c0, c1, c2⟩ := HCG.out _ HA2.out
  have hdrop : ∀ (q : Nat) (y : E), (l.drop (k + 1))[q]? = some y → l[k + 1 + q]? = some y := fun q y h => by rwa [List.getElem?_drop] at h
  have HCA : Hid (∀ (q : Nat) (y : E), (l.drop (k + 1))[q]? = some y → eb < wA.heap.size ∧ wA.cell? ⟨eb, eo + (k + 1) * 3 + q * 3, none⟩ = some (.int .i64 y.1) ∧ wA.cell? ⟨eb, eo + (k + 1) * 3 + q * 3 + 1, none⟩ = some (.int .i64 y.2.1) ∧ wA.cell? ⟨eb, eo + (k + 1) * 3 + q * 3 + 2, none⟩ = some (.int .i64 y.2.2)) := fun q y hq => by
    obtain ⟨a0, a1, a2, a3⟩ := HCV.out.below HA2.out (k + 1 + q) y (hdrop q y hq)
    rw [show eo + (k + 1) * 3 + q * 3 = eo + (k + 1 + q) * 3 by omega]
    exact ⟨a0, a1, a2, a3⟩
  clear hdrop
  have hk1 : (k : Int) + 1 ≤ (L : Int) := by omega
  go_upto_region 5 with (fail)
  refine reg_mono2 (fun a a' W => ∃ (u39 u40 u41 u42 u43 u44 u45 : Value) (vba : Option Addr) (vbc : Nat), a' = ((((((((a.put (some 39) u39).put (some 40) u40).put (some 41) u41).put (some 42) u42).put (some 43) u43).put (some 44) u44).put (some 45) u45).put (some 9) (.slice vba (k + (L - (k + 1))) vbc)) ∧ Hid (Rd3 W (.slice vba (k + (L - (k + 1))) vbc) (l.take k ++ l.drop (k + 1)) ∧ Below V.heap.size V W)) ?_ ?_
  · by_cases hcp : cap = k + 1
    · subst hcp
      have hd0 : l.drop (k + 1) = [] := List.length_eq_zero_iff.1 (by rw [hld]; omega)
      have HD0 := Lib.hid hd0
      clear hd0
      go_wp2_with (at_builtin; refine wpList_append_own _ rfl (.tmp 39) (.tmp 44) 22 rfl V.heap.size 46 ie (.agg #[.int .i64 0, .int .i64 0, .int .i64 0]) 3 24 Try.underlying22 hie hz0 hz1 hz2 rfl (by decide) (.slice va k vc) k (flat3 (l.take k)) rfl HA1.out ⟨eb, eo, none⟩ 0 0 [] rfl rfl (fun j u h => by simp at h) (fun u h => by simp at h) (by unfold maxLen; omega) (by omega) HA2.out.size ?_; intro vB wB h1 h2 h3; have HB1 : Hid (Rd3 wB vB (l.take k ++ l.drop (k + 1))) := (by (rw [List.append_nil] at h1; refine rd3_own46 (B := V.heap.size) ?_; rw [HD0.out, List.append_nil, hlt]; exact h1)); have HB2' : Hid (Below V.heap.size V wB) := HA2.out.grown h2 HA2.out.size (fun q hq => (row_lt HA1.out hq).1); obtain ⟨vba, vbc, hvf⟩ := rd3_slice HB1.out; rw [List.length_append, hlt, hld] at hvf; subst hvf; clear h1 h2 h3)
      refine ⟨.slice va k vc, .pointer (some ⟨w.heap.size, 2, none⟩), .slice (some ⟨eb, eo, none⟩) L (k + 1), .int .i64 (k : Int), .int .i64 ((k : Int) + 1), .slice (some ⟨eb, eo, none⟩) 0 0, .slice vba (k + (L - (k + 1))) vbc, vba, vbc, ?_, (by first | exact HB1.out | (have := HB1.out; rwa [show k + (L - (k + 1)) = k by omega] at this)), HB2'.out⟩
      simp [Act.put]
      all_goals omega
    · go_wp2_with (at_builtin; refine wpList_append_own _ rfl (.tmp 39) (.tmp 44) 22 rfl V.heap.size 46 ie (.agg #[.int .i64 0, .int .i64 0, .int .i64 0]) 3 24 Try.underlying22 hie hz0 hz1 hz2 rfl (by decide) (.slice va k vc) k (flat3 (l.take k)) rfl HA1.out ⟨eb, eo + (k + 1) * 3, none⟩ (L - (k + 1)) (cap - (k + 1)) (flat3 (l.drop (k + 1))) rfl (by rw [flat3_len, hld]) (flat3_cells HCA.out) (flat3_one _) (by unfold maxLen; omega) (by omega) HA2.out.size ?_; intro vB wB h1 h2 h3; have HB1 : Hid (Rd3 wB vB (l.take k ++ l.drop (k + 1))) := (by (rw [← flat3_app] at h1; refine rd3_own46 (B := V.heap.size) ?_; rw [List.length_append, hlt, hld]; exact h1)); have HB2' : Hid (Below V.heap.size V wB) := HA2.out.grown h2 HA2.out.size (fun q hq => (row_lt HA1.out hq).1); obtain ⟨vba, vbc, hvf⟩ := rd3_slice HB1.out; rw [List.length_append, hlt, hld] at hvf; subst hvf; clear h1 h2 h3)
      refine ⟨.slice va k vc, .pointer (some ⟨w.heap.size, 2, none⟩), .slice (some ⟨eb, eo, none⟩) L cap, .int .i64 (k : Int), .int .i64 ((k : Int) + 1), .slice (some ⟨eb, eo + (k + 1) * 3, none⟩) (L - (k + 1)) (cap - (k + 1)), .slice vba (k + (L - (k + 1))) vbc, vba, vbc, ?_, HB1.out, HB2'.out⟩
      simp [Act.put]
  rintro _ wB ⟨u39, u40, u41, u42, u43, u44, u45, vba, vbc, rfl, HBB⟩
  simp only [Act.put, List.setIfInBounds_toArray, List.set_cons_zero, List.set_cons_succ]
  have HB1 := Lib.hid HBB.out.1
  have HB2' := Lib.hid HBB.out.2
  clear HBB c0 c1 c2
  obtain ⟨c0, c1, c2⟩ := HCG.out _ HB2'.out
  clear c2
  go_wp2_with fail
  go_at_call 12
  refine (HRun2.out wB _ HB1.out).mono ?_
  rintro e w3 ⟨u, uv, rfl, hu, hur, hUT, hb⟩
  have HUT := Lib.hid hUT
  obtain ⟨ud, uh, up, rfl, s1, s2, s3⟩ := hu
  obtain ⟨d1, p1, r1, rfl, hr1, hd1, hud⟩ := s1.cells hUT.ld (by omega)
  obtain ⟨d2, p2, r2, rfl, hr2, hd2, -⟩ := s2.cells hUT.lh (by omega)
  obtain ⟨d3, p3, r3, rfl, hr3, hd3, -⟩ := s3.cells hUT.lp (by omega)
  rw [hur]
  have HW3 := Lib.hid (below_then HB2'.out hb)
  clear hb hur hUT s1 s2 s3 c0 c1 HB1 HRun2 HA1 HA2 HCA HCV
  obtain ⟨t0, t1, t2, t3⟩ := HCT.out _ HW3.out
  have t1a := fun o => carry (below_alloc w3 o) t1
  clear t0 t2 t3
  go_upto_region 9 with (fail)
  clear t1 t1a
  have o6 : (w3.alloc (.cells #[.int .i64 (x : Int), .slice (some ⟨d1, p1, none⟩) n r1, .slice (some ⟨d2, p2, none⟩) n r2, .slice (some ⟨d3, p3, none⟩) n r3] 28)).heap[w3.heap.size]? = some (.cells #[.int .i64 (x : Int), .slice (some ⟨d1, p1, none⟩) n r1, .slice (some ⟨d2, p2, none⟩) n r2, .slice (some ⟨d3, p3, none⟩) n r3] 28 (0, 0)) := heap_new1 _ _ rfl
  have hXb := below_alloc w3 (.cells #[.int .i64 (x : Int), .slice (some ⟨d1, p1, none⟩) n r1, .slice (some ⟨d2, p2, none⟩) n r2, .slice (some ⟨d3, p3, none⟩) n r3] 28)
  generalize (w3.alloc (.cells #[.int .i64 (x : Int), .slice (some ⟨d1, p1, none⟩) n r1, .slice (some ⟨d2, p2, none⟩) n r2, .slice (some ⟨d3, p3, none⟩) n r3] 28)) = X at *
  have HVX := Lib.hid (below_then HW3.out hXb)
  have HCU : Hid (∀ W, Below X.heap.size X W → W.cell? ⟨w3.heap.size, 1, none⟩ = some (.slice (some ⟨d1, p1, none⟩) n r1)) := fun W hW => carry hW (cell_of o6 rfl)
  have HDU : Hid (∀ W, Below X.heap.size X W → ∀ q, q < n → W.cell? ⟨d1, p1 + q, none⟩ = some (.int .i64 (gI u.dist q))) := fun W hW q hq => carry hW (carry hXb (hud q hq))
  clear o6 hXb hud hd1 hd2 hd3 HW3
  have hu1 := HCU.out X (Below.refl _ _)
  go_wp2_with fail
  clear hu1
  have HX0 : Hid (Below X.heap.size X X) := Below.refl _ _
  go_loopg [12, 71] n (fun g s12 s71 wr => ∃ v : Nat, v ≤ n ∧ n - v ≤ g ∧ s71 = .int .i64 (v : Int) ∧ (∃ q, q = s12) ∧ Hid (Below X.heap.size X wr))
  case atStart => exact ⟨0, by omega, by omega, rfl, ⟨_, rfl⟩, HX0⟩
  case round =>
    clear HX0
    obtain ⟨v, hv, hvg, rfl, ⟨u12, rfl⟩, HW⟩ := hrel
    by_cases hvl : v < n
    · have v0 : (0 : Int) ≤ (v : Int) := by omega
      have v1 : (v : Int) < (n : Int) := by omega
      have e1 := HCU.out _ HW.out
      have e2 := HDU.out _ HW.out v hvl
      obtain ⟨t0, t1, t2, t3⟩ := HCT.out _ (below_then HVX.out HW.out)
      have e3 := HD.out _ (below_then HVX.out HW.out) v hvl
      have hmon : 0 ≤ gI u.dist v → 0 ≤ gI t.dist v ∧ gI t.dist v ≤ gI u.dist v := by
        rw [HT.out.d v hvl, HUT.out.d v hvl]
        exact HTS.out v hvl
      clear t0 t2 t3
      generalize gI u.dist v = du at *
      generalize gI t.dist v = dv at *
      by_cases hdu : 0 ≤ du
      · obtain ⟨h1, h2⟩ := hmon hdu
        have z1 : decide (0 ≤ du) = true := decide_eq_true hdu
        have z2 : decide (dv < 0) = false := decide_eq_false (by omega)
        have z3 : decide (du < dv) = false := decide_eq_false (by omega)
        clear hmon
        go_wp2_with fail
        go_quiet (fail)
        go_wp2_with fail
        go_roundg (n - (v + 1))
        case measure => omega
        case rel => exact ⟨v + 1, by omega, Nat.le_refl _, by go_num, ⟨_, rfl⟩, below_drewN HW.out _⟩
      · have z1 : decide (0 ≤ du) = false := decide_eq_false hdu
        clear hmon
        go_wp2_with fail
        go_quiet (fail)
        go_wp2_with fail
        go_roundg (n - (v + 1))
        case measure => omega
        case rel => exact ⟨v + 1, by omega, Nat.le_refl _, by go_num, ⟨_, rfl⟩, below_drewN HW.out _⟩
    · have k5 : decide ((v : Int) < (n : Int)) = false := decide_eq_false (by omega)
      go_wp2_with fail
      go_at_call 15
      refine (lives_any _).mono ?_
      rintro e w9 ⟨rfl, hb⟩
      have HB9 := Lib.hid (below_then (below_then HBV.out (below_then HVX.out HW.out)) hb)
      clear hb
      go_wp2
      go_ret
      exact ⟨rfl, HB9.out⟩
theorem small_out (R N : Int) (l : List E) (s : Value) (root ta : Int) (w : World) (hR : I64 R) (hN : I64 N) (hr : Rd3 w s l) (hc : chk R N l = 0) (hro : 0 ≤ root ∧ root < R) (ho : ¬ (0 ≤ ta ∧ ta < (l.length : Int))) :
    Calls Try.prog 11 #[.agg #[.int .i64 R, .int .i64 N, s], .int .i64 root, .int .i64 ta] w fun e w' => e = .returned (.bool true) ∧ Below w.heap.size w w' := by
  have HRun : Hid (∀ W, Below w.heap.size w W → Calls Try.prog 12 #[.agg #[.int .i64 R, .int .i64 N, s], .int .i64 root] W (RunQ R N l root W)) := fun W hW => run_any R N l s root W hR hN (hr.below hW)
  have HF : Hid (∀ t er, RunR R N l root t er → er = 0) := fun t er h => (h.good ⟨hc, hro⟩).1
  obtain ⟨ad, cap, hform⟩ := rd3_slice hr
  obtain ⟨L, hL⟩ : ∃ L, l.length = L := ⟨_, rfl⟩
  rw [hL] at hform ho
  subst hform
  clear hr hL hc hro
  have HB := Lib.hid (below_alloc w (.cells #[.int .i64 R, .int .i64 N, .slice ad L cap] 24))
  have HBX : Hid ((w.alloc (.cells #[.int .i64 R, .int .i64 N, .slice ad L cap] 24)).heap[w.heap.size]? = some (.cells #[.int .i64 R, .int .i64 N, .slice ad L cap] 24 (0, 0))) := heap_alloc_new _ _
  go_enter Try.func11, Try.ntmps11
  go_wp2_with fail
  go_at_call 12
  refine (HRun.out _ HB.out).mono ?_
  rintro e w1 ⟨t, er, tv, rfl, ht, hq, hb⟩
  obtain rfl := HF.out _ _ hq
  have hbx := (hb.block _ (lt_block HBX.out)).trans HBX.out
  have cg2 : ∀ o, (w1.alloc o).cell? ⟨w.heap.size, 2, none⟩ = some (.slice ad L cap) := fun o => cell_of (heap_up hbx) rfl
  clear hbx
  have HB1 := Lib.hid (below_then HB.out hb)
  clear hb HB hq HF HRun
  obtain ⟨td, th, tp, rfl, r1, r2, r3⟩ := ht
  obtain ⟨a1, q1, rfl⟩ := r1.form
  obtain ⟨a2, q2, rfl⟩ := r2.form
  obtain ⟨a3, q3, rfl⟩ := r3.form
  clear r1 r2 r3
  by_cases h0 : ta < 0
  · have z1 : decide (ta < 0) = true := decide_eq_true h0
    clear ho
    go_wp2_with fail
    go_at_call 15
    refine (lives_any _).mono ?_
    rintro e w2 ⟨rfl, hb⟩
    have HB2 := Lib.hid (below_then (below_then HB1.out (below_alloc _ _)) hb)
    clear hb
    go_wp2
    go_ret
    exact ⟨rfl, HB2.out⟩
  · have z1 : decide (ta < 0) = false := decide_eq_false h0
    have z2 : decide ((L : Int) ≤ ta) = true := decide_eq_true (by omega)
    clear ho
    go_wp2_with fail
    go_at_call 15
    refine (lives_any _).mono ?_
    rintro e w2 ⟨rfl, hb⟩
    have HB2 := Lib.hid (below_then (below_then HB1.out (below_alloc _ _)) hb)
    clear hb
    go_wp2
    go_ret
    exact ⟨rfl, HB2.out⟩
theorem small_walk (R N : Int) (l : List E) (s : Value) (root : Int) (ta : Int) (w : World) (hR : I64 R) (hN : I64 N) (hr : Rd3 w s l) (hf : FitT l) (hx : I64 root) (hz : I64 ta) :
    Calls Try.prog 11 #[.agg #[.int .i64 R, .int .i64 N, s], .int .i64 root, .int .i64 ta] w fun e w' => e = .returned (.bool true) ∧ Below w.heap.size w w' := by
  by_cases h : chk R N l = 0 ∧ 0 ≤ root ∧ root < R
  · by_cases ho : 0 ≤ ta ∧ ta < (l.length : Int)
    · obtain ⟨k, rfl⟩ : ∃ k : Nat, ta = (k : Int) := ⟨ta.toNat, by omega⟩
      exact small_good R N l s root k w hR hN hr hf h.1 h.2 (by omega)
    · exact small_out R N l s root ta w hR hN hr h.1 h.2 ho
  · exact small_fail R N l s root ta w hR hN hr h
end Go.Proofs.Ytmlpbhankgojpaa
