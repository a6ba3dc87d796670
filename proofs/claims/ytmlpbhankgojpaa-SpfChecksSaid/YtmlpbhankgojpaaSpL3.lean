/-
  The walks of the laws Runs and Checks, and of Check.
-/
import Derived.Test.YtmlpbhankgojpaaSpLv
import Derived.Test.YtmlpbhankgojpaaSpRr
namespace Go.Proofs.Ytmlpbhankgojpaa
open Go.RowKit HM GM SP
set_option linter.unusedSimpArgs false
set_option linter.unusedVariables false
set_option maxHeartbeats 4000000
set_option maxRecDepth 100000
theorem rrun_any (R N : Int) (l : List E) (s : Value) (root : Int) (w : World) (hR : I64 R) (hN : I64 N) (hr : Rd3 w s l) (hf : FitT l) :
    Calls Try.prog 13 #[.agg #[.int .i64 R, .int .i64 N, s], .int .i64 root] w (RunQ R N l root w) := by
  by_cases hc : chk R N l = 0
  · by_cases hro : 0 ≤ root ∧ root < R
    · have hv := chk_iff.1 hc
      obtain ⟨x, rfl⟩ : ∃ x : Nat, root = x := ⟨root.toNat, by omega⟩
      obtain ⟨n, hn⟩ : ∃ n : Nat, (n : Int) = R + N := ⟨(R + N).toNat, by have := hv.r; have := hv.n; omega⟩
      refine (rrun_good R N l s x n w hR hN hr hf hc hro.2 hn).mono ?_
      rintro e w' ⟨t, tv, rfl, h1, h2, h3, h4⟩
      exact ⟨t, 0, tv, rfl, h1, .inr (.inr ⟨hc, hro, rfl, n, hn, h2, h3⟩), h4⟩
    · exact rrun_range R N l s root w hR hN hr hf hc hro
  · exact rrun_err R N l s root w hR hN hr hf hc
theorem RdT.form {w : World} {v : Value} {t : Tre} (h : RdT w v t) : ∃ a1 q1 a2 q2 a3 q3, v = .agg #[.int .i64 t.root, .slice a1 t.dist.length q1, .slice a2 t.hops.length q2, .slice a3 t.pars.length q3] := by
  obtain ⟨d, h, p, rfl, r1, r2, r3⟩ := h
  obtain ⟨a1, q1, rfl⟩ := r1.form
  obtain ⟨a2, q2, rfl⟩ := r2.form
  obtain ⟨a3, q3, rfl⟩ := r3.form
  exact ⟨_, _, _, _, _, _, rfl⟩
theorem runs_walk (R N : Int) (l : List E) (s : Value) (root : Int) (w : World) (hR : I64 R) (hN : I64 N) (hr : Rd3 w s l) (hf : FitT l) (hx : I64 root) :
    Calls Try.prog 3 #[.agg #[.int .i64 R, .int .i64 N, s], .int .i64 root] w fun e w' => e = .returned (.bool true) ∧ Below w.heap.size w w' := by
  have HRun : Hid (∀ W, Below w.heap.size w W → Calls Try.prog 12 #[.agg #[.int .i64 R, .int .i64 N, s], .int .i64 root] W (RunQ R N l root W)) := fun W hW => run_any R N l s root W hR hN (hr.below hW)
  have HRef : Hid (∀ W, Below w.heap.size w W → Calls Try.prog 13 #[.agg #[.int .i64 R, .int .i64 N, s], .int .i64 root] W (RunQ R N l root W)) := fun W hW => rrun_any R N l s root W hR hN (hr.below hW) hf
  obtain ⟨ad, cap, hform⟩ := rd3_slice hr
  obtain ⟨L, hL⟩ : ∃ L, l.length = L := ⟨_, rfl⟩
  rw [hL] at hform
  subst hform
  clear hr hL
  have HB := Lib.hid (below_alloc w (.cells #[.int .i64 R, .int .i64 N, .slice ad L cap] 24))
  have HBX : Hid ((w.alloc (.cells #[.int .i64 R, .int .i64 N, .slice ad L cap] 24)).heap[w.heap.size]? = some (.cells #[.int .i64 R, .int .i64 N, .slice ad L cap] 24 (0, 0))) := heap_alloc_new _ _
  go_enter Try.func3, Try.ntmps3
  go_wp2_with fail
  go_at_call 12
  refine (HRun.out _ HB.out).mono ?_
  rintro e w1 ⟨t, er, tv, rfl, ht, hq, hb⟩
  have HQ := Lib.hid hq
  have HT := Lib.hid ht
  have HB1 := Lib.hid (below_then HB.out hb)
  have HO1 := Lib.hid ((hb.block _ (lt_block HBX.out)).trans HBX.out)
  obtain ⟨a1, q1, a2, q2, a3, q3, rfl⟩ := ht.form
  clear hb HB hq HRun ht HBX
  have cg : ∀ o, (w1.alloc o).heap[w.heap.size]? = some (.cells #[.int .i64 R, .int .i64 N, .slice ad L cap] 24 (0, 0)) := fun o => heap_up HO1.out
  have cg0 : ∀ o, (w1.alloc o).cell? ⟨w.heap.size, 0, none⟩ = some (.int .i64 R) := fun o => cell_of (cg o) rfl
  have cg1 : ∀ o, (w1.alloc o).cell? ⟨w.heap.size, 1, none⟩ = some (.int .i64 N) := fun o => cell_of (cg o) rfl
  have cg2 : ∀ o, (w1.alloc o).cell? ⟨w.heap.size, 2, none⟩ = some (.slice ad L cap) := fun o => cell_of (cg o) rfl
  clear cg
  obtain ⟨ra, hra⟩ : ∃ ra, t.root = ra := ⟨_, rfl⟩
  generalize htl : t.dist.length = n1 at *
  generalize t.hops.length = n2 at *
  generalize t.pars.length = n3 at *
  clear htl
  rw [hra] at HT ⊢
  clear hra
  go_wp2_with fail
  clear cg0 cg1 cg2
  have o4 : (w1.alloc (.cells #[.int .i64 ra, .slice a1 n1 q1, .slice a2 n2 q2, .slice a3 n3 q3] 28)).heap[w1.heap.size]? = some (.cells #[.int .i64 ra, .slice a1 n1 q1, .slice a2 n2 q2, .slice a3 n3 q3] 28 (0, 0)) := heap_new1 _ _ rfl
  have hVb := below_alloc w1 (.cells #[.int .i64 ra, .slice a1 n1 q1, .slice a2 n2 q2, .slice a3 n3 q3] 28)
  have HBV := Lib.hid (below_then HB1.out hVb)
  have HTV := Lib.hid (HT.out.below hVb)
  have HO4 := Lib.hid o4
  generalize (w1.alloc (.cells #[.int .i64 ra, .slice a1 n1 q1, .slice a2 n2 q2, .slice a3 n3 q3] 28)) = V at *
  clear o4 hVb HT HO1 HB1
  go_at_call 13
  refine (HRef.out _ HBV.out).mono ?_
  rintro e w2 ⟨t', er', tv', rfl, ht', hq', hb⟩
  obtain ⟨h1, h2⟩ := HQ.out.unique hq'
  subst h1
  subst h2
  have HB2 := Lib.hid (below_then HBV.out hb)
  have HO2 := Lib.hid ((hb.block _ (lt_block HO4.out)).trans HO4.out)
  have HT1 := Lib.hid (HTV.out.below hb)
  have HT2 := Lib.hid ht'
  obtain ⟨b1, p1, b2, p2, b3, p3, rfl⟩ := ht'.form
  clear hb hq' HBV HO4 HTV ht' HRef HQ
  have cg : ∀ o, (w2.alloc o).heap[w1.heap.size]? = some (.cells #[.int .i64 ra, .slice a1 n1 q1, .slice a2 n2 q2, .slice a3 n3 q3] 28 (0, 0)) := fun o => heap_up HO2.out
  have cg0 : ∀ o, (w2.alloc o).cell? ⟨w1.heap.size, 0, none⟩ = some (.int .i64 ra) := fun o => cell_of (cg o) rfl
  have cg1 : ∀ o, (w2.alloc o).cell? ⟨w1.heap.size, 1, none⟩ = some (.slice a1 n1 q1) := fun o => cell_of (cg o) rfl
  have cg2 : ∀ o, (w2.alloc o).cell? ⟨w1.heap.size, 2, none⟩ = some (.slice a2 n2 q2) := fun o => cell_of (cg o) rfl
  have cg3 : ∀ o, (w2.alloc o).cell? ⟨w1.heap.size, 3, none⟩ = some (.slice a3 n3 q3) := fun o => cell_of (cg o) rfl
  clear cg
  go_wp2_with fail
  go_at_call 14
  refine (rsame_any t t _ _ _ (HT1.out.below (below_alloc _ _)) (HT2.out.below (below_alloc _ _))).mono ?_
  rintro e w3 ⟨he, hb⟩
  rw [decide_eq_true rfl] at he
  subst he
  have HB3 := Lib.hid (below_then (below_then HB2.out (below_alloc _ _)) hb)
  clear hb cg0 cg1 cg2 cg3
  go_wp2_with fail
  go_at_call 15
  refine (lives_any _).mono ?_
  rintro e w4 ⟨rfl, hb⟩
  have HB4 := Lib.hid (below_then HB3.out hb)
  clear hb
  go_wp2
  go_ret
  exact ⟨rfl, HB4.out⟩
/-- what Check and the law's own test answer -/
def ChkB (er : Int) (t u : Tre) : Bool := (er == 0) && decide (t = u)
theorem tcheck_any (R N : Int) (l : List E) (s : Value) (t : Tre) (tv : Value) (w : World) (hR : I64 R) (hN : I64 N) (hr : Rd3 w s l) (ht : RdT w tv t) :
    Calls Try.prog 16 #[.agg #[.int .i64 R, .int .i64 N, s], tv] w fun e w' => ∃ u er, e = .returned (.bool (ChkB er t u)) ∧ RunR R N l t.root u er ∧ Below w.heap.size w w' := by
  have HRun : Hid (∀ W, Below w.heap.size w W → Calls Try.prog 12 #[.agg #[.int .i64 R, .int .i64 N, s], .int .i64 t.root] W (RunQ R N l t.root W)) := fun W hW => run_any R N l s t.root W hR hN (hr.below hW)
  have HT := Lib.hid ht
  obtain ⟨ad, cap, hform⟩ := rd3_slice hr
  obtain ⟨L, hL⟩ : ∃ L, l.length = L := ⟨_, rfl⟩
  rw [hL] at hform
  subst hform
  obtain ⟨a1, q1, a2, q2, a3, q3, rfl⟩ := ht.form
  clear hr hL ht
  obtain ⟨ra, hra⟩ : ∃ ra, t.root = ra := ⟨_, rfl⟩
  rw [hra] at HRun HT ⊢
  generalize t.dist.length = n1 at *
  generalize t.hops.length = n2 at *
  generalize t.pars.length = n3 at *
  clear hra
  go_enter Try.func16, Try.ntmps16
  go_wp2_with fail
  have o1 := heap_up (o := .cells #[.int .i64 ra, .slice a1 n1 q1, .slice a2 n2 q2, .slice a3 n3 q3] 28) (heap_new1 w (.cells #[.int .i64 R, .int .i64 N, .slice ad L cap] 24) (b := w.heap.size) rfl)
  have o2 := heap_new1 (w.alloc (.cells #[.int .i64 R, .int .i64 N, .slice ad L cap] 24)) (.cells #[.int .i64 ra, .slice a1 n1 q1, .slice a2 n2 q2, .slice a3 n3 q3] 28) (b := w.heap.size + 1) (by simp)
  have HB := Lib.hid (below_then (below_alloc w (.cells #[.int .i64 R, .int .i64 N, .slice ad L cap] 24)) (below_alloc _ (.cells #[.int .i64 ra, .slice a1 n1 q1, .slice a2 n2 q2, .slice a3 n3 q3] 28)))
  generalize (w.alloc (.cells #[.int .i64 R, .int .i64 N, .slice ad L cap] 24)).alloc (.cells #[.int .i64 ra, .slice a1 n1 q1, .slice a2 n2 q2, .slice a3 n3 q3] 28) = V at *
  go_at_call 12
  refine (HRun.out _ HB.out).mono ?_
  rintro e w1 ⟨u, er, uv, rfl, hu, hq, hb⟩
  have HQ := Lib.hid hq
  have HU := Lib.hid hu
  have HB1 := Lib.hid (below_then HB.out hb)
  have HO1 := Lib.hid ((hb.block _ (lt_block o2)).trans o2)
  have HT1 := Lib.hid (HT.out.below HB1.out)
  obtain ⟨b1, p1, b2, p2, b3, p3, rfl⟩ := hu.form
  clear hb HB hq HRun hu o1 o2 HT
  have cg : ∀ o, (w1.alloc o).heap[w.heap.size + 1]? = some (.cells #[.int .i64 ra, .slice a1 n1 q1, .slice a2 n2 q2, .slice a3 n3 q3] 28 (0, 0)) := fun o => heap_up HO1.out
  have cg0 : ∀ o, (w1.alloc o).cell? ⟨w.heap.size + 1, 0, none⟩ = some (.int .i64 ra) := fun o => cell_of (cg o) rfl
  have cg1 : ∀ o, (w1.alloc o).cell? ⟨w.heap.size + 1, 1, none⟩ = some (.slice a1 n1 q1) := fun o => cell_of (cg o) rfl
  have cg2 : ∀ o, (w1.alloc o).cell? ⟨w.heap.size + 1, 2, none⟩ = some (.slice a2 n2 q2) := fun o => cell_of (cg o) rfl
  have cg3 : ∀ o, (w1.alloc o).cell? ⟨w.heap.size + 1, 3, none⟩ = some (.slice a3 n3 q3) := fun o => cell_of (cg o) rfl
  clear cg
  by_cases he : er = 0
  · subst he
    go_wp2_with fail
    go_at_call 24
    refine (csame_any t u _ _ _ (HT1.out.below (below_alloc _ _)) (HU.out.below (below_alloc _ _))).mono ?_
    rintro e w3 ⟨rfl, hb⟩
    have HB3 := Lib.hid (below_then (below_then HB1.out (below_alloc _ _)) hb)
    clear hb cg0 cg1 cg2 cg3
    go_wp2
    go_ret
    exact ⟨u, 0, by simp [ChkB], HQ.out, HB3.out⟩
  · have he1 : (er == 0) = false := by simpa using he
    have HNE := Lib.hid he
    clear he
    go_wp2
    go_ret
    refine ⟨u, er, ?_, HQ.out, below_then HB1.out (below_alloc _ _)⟩
    unfold ChkB; rw [he1]; rfl
theorem checks_walk (R N : Int) (l : List E) (s : Value) (t : Tre) (tv : Value) (w : World) (hR : I64 R) (hN : I64 N) (hr : Rd3 w s l) (hf : FitT l) (ht : RdT w tv t) (hx : I64 t.root) :
    Calls Try.prog 4 #[.agg #[.int .i64 R, .int .i64 N, s], tv] w fun e w' => e = .returned (.bool true) ∧ Below w.heap.size w w' := by
  have HRef : Hid (∀ W, Below w.heap.size w W → Calls Try.prog 13 #[.agg #[.int .i64 R, .int .i64 N, s], .int .i64 t.root] W (RunQ R N l t.root W)) := fun W hW => rrun_any R N l s t.root W hR hN (hr.below hW) hf
  have HCh : Hid (∀ W, Below w.heap.size w W → Calls Try.prog 16 #[.agg #[.int .i64 R, .int .i64 N, s], tv] W fun e w' => ∃ u er, e = .returned (.bool (ChkB er t u)) ∧ RunR R N l t.root u er ∧ Below W.heap.size W w') := fun W hW => tcheck_any R N l s t tv W hR hN (hr.below hW) (ht.below hW)
  have HT := Lib.hid ht
  obtain ⟨ad, cap, hform⟩ := rd3_slice hr
  obtain ⟨L, hL⟩ : ∃ L, l.length = L := ⟨_, rfl⟩
  rw [hL] at hform
  subst hform
  obtain ⟨a1, q1, a2, q2, a3, q3, rfl⟩ := ht.form
  clear hr hL ht hx
  obtain ⟨ra, hra⟩ : ∃ ra, t.root = ra := ⟨_, rfl⟩
  rw [hra] at HRef HT HCh ⊢
  generalize t.dist.length = n1 at *
  generalize t.hops.length = n2 at *
  generalize t.pars.length = n3 at *
  clear hra
  go_enter Try.func4, Try.ntmps4
  go_wp2_with fail
  have o1 := heap_up (o := .cells #[.int .i64 ra, .slice a1 n1 q1, .slice a2 n2 q2, .slice a3 n3 q3] 28) (heap_new1 w (.cells #[.int .i64 R, .int .i64 N, .slice ad L cap] 24) (b := w.heap.size) rfl)
  have o2 := heap_new1 (w.alloc (.cells #[.int .i64 R, .int .i64 N, .slice ad L cap] 24)) (.cells #[.int .i64 ra, .slice a1 n1 q1, .slice a2 n2 q2, .slice a3 n3 q3] 28) (b := w.heap.size + 1) (by simp)
  have HB := Lib.hid (below_then (below_alloc w (.cells #[.int .i64 R, .int .i64 N, .slice ad L cap] 24)) (below_alloc _ (.cells #[.int .i64 ra, .slice a1 n1 q1, .slice a2 n2 q2, .slice a3 n3 q3] 28)))
  generalize (w.alloc (.cells #[.int .i64 R, .int .i64 N, .slice ad L cap] 24)).alloc (.cells #[.int .i64 ra, .slice a1 n1 q1, .slice a2 n2 q2, .slice a3 n3 q3] 28) = V at *
  go_at_call 13
  refine (HRef.out _ HB.out).mono ?_
  rintro e w1 ⟨u, er, uv, rfl, hu, hq, hb⟩
  have HQ := Lib.hid hq
  have HU := Lib.hid hu
  have HB1 := Lib.hid (below_then HB.out hb)
  have HO1 := Lib.hid (And.intro ((hb.block _ (lt_block o1)).trans o1) ((hb.block _ (lt_block o2)).trans o2))
  have HT1 := Lib.hid (HT.out.below HB1.out)
  obtain ⟨b1, p1, b2, p2, b3, p3, rfl⟩ := hu.form
  clear hb HB hq HRef hu o1 o2 HT
  have cg : ∀ o, (w1.alloc o).heap[w.heap.size + 1]? = some (.cells #[.int .i64 ra, .slice a1 n1 q1, .slice a2 n2 q2, .slice a3 n3 q3] 28 (0, 0)) := fun o => heap_up HO1.out.2
  have cg0 : ∀ o, (w1.alloc o).cell? ⟨w.heap.size + 1, 0, none⟩ = some (.int .i64 ra) := fun o => cell_of (cg o) rfl
  have cg1 : ∀ o, (w1.alloc o).cell? ⟨w.heap.size + 1, 1, none⟩ = some (.slice a1 n1 q1) := fun o => cell_of (cg o) rfl
  have cg2 : ∀ o, (w1.alloc o).cell? ⟨w.heap.size + 1, 2, none⟩ = some (.slice a2 n2 q2) := fun o => cell_of (cg o) rfl
  have cg3 : ∀ o, (w1.alloc o).cell? ⟨w.heap.size + 1, 3, none⟩ = some (.slice a3 n3 q3) := fun o => cell_of (cg o) rfl
  have ch : ∀ o, (w1.alloc o).heap[w.heap.size]? = some (.cells #[.int .i64 R, .int .i64 N, .slice ad L cap] 24 (0, 0)) := fun o => heap_up HO1.out.1
  have ch0 : ∀ o, (w1.alloc o).cell? ⟨w.heap.size, 0, none⟩ = some (.int .i64 R) := fun o => cell_of (ch o) rfl
  have ch1 : ∀ o, (w1.alloc o).cell? ⟨w.heap.size, 1, none⟩ = some (.int .i64 N) := fun o => cell_of (ch o) rfl
  have ch2 : ∀ o, (w1.alloc o).cell? ⟨w.heap.size, 2, none⟩ = some (.slice ad L cap) := fun o => cell_of (ch o) rfl
  clear ch cg
  obtain ⟨rb, hrb⟩ : ∃ rb, u.root = rb := ⟨_, rfl⟩
  rw [hrb] at HU ⊢
  generalize u.dist.length = m1 at *
  generalize u.hops.length = m2 at *
  generalize u.pars.length = m3 at *
  clear hrb
  go_wp2_with fail
  have o3 := heap_new1 w1 (.cells #[.int .i64 rb, .slice b1 m1 p1, .slice b2 m2 p2, .slice b3 m3 p3] 28) (b := w1.heap.size) rfl
  have o4 : (w1.alloc (.cells #[.int .i64 rb, .slice b1 m1 p1, .slice b2 m2 p2, .slice b3 m3 p3] 28)).heap[w.heap.size + 1]? = _ := heap_up HO1.out.2
  have HB2 := Lib.hid (below_then HB1.out (below_alloc w1 (.cells #[.int .i64 rb, .slice b1 m1 p1, .slice b2 m2 p2, .slice b3 m3 p3] 28)))
  have HT2 := Lib.hid (HT1.out.below (below_alloc w1 (.cells #[.int .i64 rb, .slice b1 m1 p1, .slice b2 m2 p2, .slice b3 m3 p3] 28)))
  have HU2 := Lib.hid (HU.out.below (below_alloc w1 (.cells #[.int .i64 rb, .slice b1 m1 p1, .slice b2 m2 p2, .slice b3 m3 p3] 28)))
  generalize w1.alloc (.cells #[.int .i64 rb, .slice b1 m1 p1, .slice b2 m2 p2, .slice b3 m3 p3] 28) = V2 at *
  clear cg0 cg1 cg2 cg3 ch0 ch1 ch2 HB1 HO1 HT1 HU
  go_at_call 16
  refine (HCh.out _ HB2.out).mono ?_
  rintro e w2 ⟨u', er', rfl, hq', hb⟩
  obtain ⟨h1, h2⟩ := HQ.out.unique hq'
  subst h1
  subst h2
  have HB3 := Lib.hid (below_then HB2.out hb)
  replace o3 := (hb.block _ (lt_block o3)).trans o3
  replace o4 := (hb.block _ (lt_block o4)).trans o4
  have HT3 := Lib.hid (HT2.out.below hb)
  have HU3 := Lib.hid (HU2.out.below hb)
  clear hb hq' HCh HQ HB2 HT2 HU2
  have c0 : w2.cell? ⟨w.heap.size + 1, 0, none⟩ = some (.int .i64 ra) := cell_of o4 rfl
  have c1 : w2.cell? ⟨w.heap.size + 1, 1, none⟩ = some (.slice a1 n1 q1) := cell_of o4 rfl
  have c2 : w2.cell? ⟨w.heap.size + 1, 2, none⟩ = some (.slice a2 n2 q2) := cell_of o4 rfl
  have c3 : w2.cell? ⟨w.heap.size + 1, 3, none⟩ = some (.slice a3 n3 q3) := cell_of o4 rfl
  have d0 : w2.cell? ⟨w1.heap.size, 0, none⟩ = some (.int .i64 rb) := cell_of o3 rfl
  have d1 : w2.cell? ⟨w1.heap.size, 1, none⟩ = some (.slice b1 m1 p1) := cell_of o3 rfl
  have d2 : w2.cell? ⟨w1.heap.size, 2, none⟩ = some (.slice b2 m2 p2) := cell_of o3 rfl
  have d3 : w2.cell? ⟨w1.heap.size, 3, none⟩ = some (.slice b3 m3 p3) := cell_of o3 rfl
  clear o3 o4
  by_cases he : er = 0
  · subst he
    have hcb : ChkB 0 t u = decide (t = u) := by simp [ChkB]
    rw [hcb]
    clear hcb
    go_wp2_with fail
    go_at_call 14
    refine (rsame_any t u _ _ _ HT3.out HU3.out).mono ?_
    rintro e w3 ⟨rfl, hb⟩
    have HB4 := Lib.hid (below_then HB3.out hb)
    clear hb c0 c1 c2 c3 d0 d1 d2 d3
    have hee : (decide (t = u) == decide (t = u)) = true := by simp
    generalize decide (t = u) = D at *
    go_wp2_with fail
    go_at_call 15
    refine (lives_any _).mono ?_
    rintro e w4 ⟨rfl, hb⟩
    have HB5 := Lib.hid (below_then HB4.out hb)
    clear hb
    go_wp2
    go_ret
    exact ⟨rfl, HB5.out⟩
  · have he1 : (er == 0) = false := by simpa using he
    have hcb : ChkB er t u = false := by unfold ChkB; rw [he1]; rfl
    rw [hcb]
    clear he hcb
    go_wp2_with fail
    go_at_call 15
    refine (lives_any _).mono ?_
    rintro e w4 ⟨rfl, hb⟩
    have HB5 := Lib.hid (below_then HB3.out hb)
    clear hb
    go_wp2
    go_ret
    exact ⟨rfl, HB5.out⟩
end Go.Proofs.Ytmlpbhankgojpaa
