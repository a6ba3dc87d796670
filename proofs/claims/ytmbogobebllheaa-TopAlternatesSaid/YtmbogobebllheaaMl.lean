/-
  The walks of the elements of a table and of the three tests on it: the program's. The walks of the program's three tests of an alternate on a table. The walks of the reference's elements of a table and of its three tests. How a table is opened as an argument. The walk of leaving: the edges that leave a node. The walk of closer: the nodes that are nearer to one node than to another one by a link. The walks of routersOnly, isRouter and linkCost. The walks of PSpace and QSpace. The walks of slices.Index and Contains at integers, of the reference's IndexInt and HasInt, and of SameInts. The walks of weigh and of the test which of two candidates is better. The walk of weigh: a candidate with the cost of its way. The walk of Remote.
-/
import Derived.Test.YtmbogobebllheaaMq
import Derived.Test.YtmbogobebllheaaMm
import Derived.Test.YtmbogobebllheaaMr
import Derived.Test.YtmbogobebllheaaMd
import Derived.Test.YtmbogobebllheaaMw
import Derived.Test.YtmbogobebllheaaMg
import Derived.RegionTactic
import Derived.BigQuiet
import Derived.OwnWalk
namespace Go.Proofs.Ytmbogobebllheaa
open Go.RowKit HM GM SP
set_option linter.unusedSimpArgs false
set_option linter.unusedVariables false
set_option maxHeartbeats 4000000
set_option maxRecDepth 100000
theorem results_cell {fn : Func} {p : Tmp} {ty : TypeId} (h : fn.results = #[.cell p ty]) (tmps : Array Value) (P : Program) (w : World) :
    (results fn tmps).run P w = ((asAddr (tmps.getD p undef)).run P w).andThen fun a w₁ => ((loadVar ty a).run P w₁).andThen fun v w₂ => .ok v w₂ := by
  simp only [results, h]
  simp [Sem.run_bind, Result.andThen]
  cases Sem.run P (asAddr (tmps[p]?.getD undef)) w with
  | ok a w1 =>
    dsimp only
    cases Sem.run P (loadVar ty a) w1 <;> rfl
  | halt _ _ => rfl
def entA (o : Option Int) : Value := .agg #[.int .i64 (entV o), .bool o.isSome]
theorem elem_any (tab : List (List Int)) (v : Value) (x y : Int) (w : World) (hr : RdR w v tab) :
    Calls Try.prog 63 #[v, .int .i64 x, .int .i64 y] w fun e w' => e = .returned (entA (ent tab x y)) ∧ Below w.heap.size w w' := by
  obtain ⟨ad, cap, rfl, h1, h2, hc⟩ := hr
  obtain ⟨L, hL⟩ : ∃ L, tab.length = L := ⟨_, rfl⟩
  rw [hL] at h1 ⊢
  have HB := Lib.hid (below_alloc w (.cells #[.int .i64 0, .bool false] 81 (0, 0)))
  by_cases hx : 0 ≤ x ∧ x < (L : Int)
  · obtain ⟨i, rfl⟩ : ∃ i : Nat, x = (i : Int) := ⟨x.toNat, by omega⟩
    obtain ⟨r, hri⟩ : ∃ r, tab[i]? = some r := ⟨_, List.getElem?_eq_getElem (by omega)⟩
    obtain ⟨b, off, u, rfl, hb, c, ad', cap', rfl, k1, k2, kc⟩ := hc i r hri
    obtain ⟨M, hM⟩ : ∃ M, r.length = M := ⟨_, rfl⟩
    rw [hM] at k1 c
    have c' := fun o => carry (below_alloc w o) c
    have x0 : (0 : Int) ≤ (i : Int) := by omega
    have x1 : (i : Int) < (L : Int) := by omega
    by_cases hy : 0 ≤ y ∧ y < (M : Int)
    · obtain ⟨j, rfl⟩ : ∃ j : Nat, y = (j : Int) := ⟨y.toNat, by omega⟩
      obtain ⟨z, hz⟩ : ∃ z, r[j]? = some z := ⟨_, List.getElem?_eq_getElem (by omega)⟩
      have HE : Hid (ent tab (i : Int) (j : Int) = some z) := by show _ = _; rw [ent_nat, hri]; exact hz
      obtain ⟨b', o', rfl, hb', cz⟩ := kc j z hz
      have cz' := fun o => carry (below_alloc w o) cz
      have y0 : (0 : Int) ≤ (j : Int) := by omega
      have y1 : (j : Int) < (M : Int) := by omega
      clear hc kc hx hy hri hz hL hM c cz
      go_enter Try.func63, Try.ntmps63
      go_wp2
      (try simp only [Exit.inBlock, Exit.then])
      refine bodyPost_ret (v := .agg #[.int .i64 z, .bool true]) (by rw [results_cell rfl]; go_simp) rfl ?_
      exact ⟨by rw [HE.out]; rfl, by first | exact below_alloc _ _ | exact (HB.out.setCell (Nat.le_refl _) _) | exact (HB.out.setCell (Nat.le_refl _) _).setCell (Nat.le_refl _) _⟩
    · have HE : Hid (ent tab (i : Int) y = none) := by
        show _ = _
        by_cases h0 : 0 ≤ y
        · obtain ⟨j, rfl⟩ : ∃ j : Nat, y = (j : Int) := ⟨y.toNat, by omega⟩
          rw [ent_nat, hri]; exact List.getElem?_eq_none (by omega)
        · exact ent_neg (fun h => h0 h.2)
      clear hc kc hx hri hL hM c
      by_cases y0 : y < 0
      · go_enter Try.func63, Try.ntmps63
        go_wp2
        (try simp only [Exit.inBlock, Exit.then])
        refine bodyPost_ret (v := .agg #[.int .i64 0, .bool false]) (by rw [results_cell rfl]; go_simp) rfl ?_
        exact ⟨by rw [HE.out]; rfl, by exact HB.out⟩
      · have y1 : (M : Int) ≤ y := by omega
        have y2 : (0 : Int) ≤ y := by omega
        clear hy y0
        go_enter Try.func63, Try.ntmps63
        go_wp2
        (try simp only [Exit.inBlock, Exit.then])
        refine bodyPost_ret (v := .agg #[.int .i64 0, .bool false]) (by rw [results_cell rfl]; go_simp) rfl ?_
        exact ⟨by rw [HE.out]; rfl, by exact HB.out⟩
  · have HE : Hid (ent tab x y = none) := ent_row (by rw [hL]; exact hx) y
    clear hc hL
    by_cases x0 : x < 0
    · go_enter Try.func63, Try.ntmps63
      go_wp2
      (try simp only [Exit.inBlock, Exit.then])
      refine bodyPost_ret (v := .agg #[.int .i64 0, .bool false]) (by rw [results_cell rfl]; go_simp) rfl ?_
      exact ⟨by rw [HE.out]; rfl, by exact HB.out⟩
    · have x1 : (L : Int) ≤ x := by omega
      clear hx
      go_enter Try.func63, Try.ntmps63
      go_wp2
      (try simp only [Exit.inBlock, Exit.then])
      refine bodyPost_ret (v := .agg #[.int .i64 0, .bool false]) (by rw [results_cell rfl]; go_simp) rfl ?_
      exact ⟨by rw [HE.out]; rfl, by exact HB.out⟩
end Go.Proofs.Ytmbogobebllheaa
namespace Go.Proofs.Ytmbogobebllheaa
open Go.RowKit HM GM SP
set_option linter.unusedSimpArgs false
set_option linter.unusedVariables false
set_option maxHeartbeats 4000000
set_option maxRecDepth 100000
theorem finite_any (v : Int) (k : Bool) (w : World) : Calls Try.prog 64 #[.agg #[.int .i64 v, .bool k]] w fun e w' => e = .returned (.bool (decide (0 ≤ v))) ∧ Below w.heap.size w w' := by
  have HB := Lib.hid (below_alloc w (.cells #[.int .i64 v, .bool k] 81 (0, 0)))
  go_enter Try.func64, Try.ntmps64
  go_wp2
  go_ret
  exact ⟨rfl, HB.out⟩
def avV (va : Int) (ka : Bool) (vb : Int) (kb : Bool) (vc : Int) (kc : Bool) : Bool := ka && kb && kc && decide (0 ≤ va) && (decide (vb < 0) || decide (vc < 0) || decide (va - vb < vc))
theorem avV_eq (a b c : Option Int) : avV (entV a) a.isSome (entV b) b.isSome (entV c) c.isSome = avO a b c := by
  cases a <;> cases b <;> cases c <;> first | rfl | simp [avV, avO, entV]
def dnV (va : Int) (ka : Bool) (vb : Int) (kb : Bool) : Bool := ka && kb && decide (0 ≤ va) && (decide (vb < 0) || decide (va < vb))
theorem dnV_eq (a b : Option Int) : dnV (entV a) a.isSome (entV b) b.isSome = dnO a b := by
  cases a <;> cases b <;> first | rfl | simp [dnV, dnO, entV]
/-- all elements are machine numbers -/
def FitR (tab : List (List Int)) : Prop := ∀ r ∈ tab, ∀ z ∈ r, I64 z
theorem ent_fit {tab : List (List Int)} (hf : FitR tab) (x y : Int) : I64 (entV (ent tab x y)) := by
  unfold ent
  split
  · cases h : tab[x.toNat]? with
    | none => simp [entV, I64]
    | some r =>
      cases k : r[y.toNat]? with
      | none => simp [entV, I64, k]
      | some z => simp [entV, k]; exact hf r (List.mem_of_getElem? h) z (List.mem_of_getElem? k)
  · simp [entV, I64]

theorem three_al (w : World) (o1 o2 o3 : Obj) : (((w.alloc o1).alloc o2).alloc o3).heap[w.heap.size]? = some o1 ∧ (((w.alloc o1).alloc o2).alloc o3).heap[w.heap.size + 1]? = some o2 ∧ (((w.alloc o1).alloc o2).alloc o3).heap[w.heap.size + 1 + 1]? = some o3 := by
  refine ⟨?_, ?_, ?_⟩
  · rw [Below.heap_alloc _ _ _ (by simp; omega), Below.heap_alloc _ _ _ (by simp), heap_alloc_new]
  · rw [Below.heap_alloc _ _ _ (by simp)]
    have := heap_alloc_new (w.alloc o1) o2
    simpa using this
  · have := heap_alloc_new ((w.alloc o1).alloc o2) o3
    simpa using this
theorem three_kept (w : World) (va vb vc : Int) : ∀ W, Below (((w.alloc (.cells #[.int .i64 va, .bool true] 81)).alloc (.cells #[.int .i64 vb, .bool true] 81)).alloc (.cells #[.int .i64 vc, .bool true] 81)).heap.size (((w.alloc (.cells #[.int .i64 va, .bool true] 81)).alloc (.cells #[.int .i64 vb, .bool true] 81)).alloc (.cells #[.int .i64 vc, .bool true] 81)) W →
    W.cell? ⟨w.heap.size, 0, none⟩ = some (.int .i64 va) ∧ W.cell? ⟨w.heap.size, 1, none⟩ = some (.bool true) ∧ W.cell? ⟨w.heap.size + 1, 0, none⟩ = some (.int .i64 vb) ∧ W.cell? ⟨w.heap.size + 1, 1, none⟩ = some (.bool true) ∧ W.cell? ⟨w.heap.size + 1 + 1, 0, none⟩ = some (.int .i64 vc) ∧ W.cell? ⟨w.heap.size + 1 + 1, 1, none⟩ = some (.bool true) := fun W hW => by
  obtain ⟨h1, h2, h3⟩ := three_al w (.cells #[.int .i64 va, .bool true] 81) (.cells #[.int .i64 vb, .bool true] 81) (.cells #[.int .i64 vc, .bool true] 81)
  exact ⟨carry hW (cell_of h1 rfl), carry hW (cell_of h1 rfl), carry hW (cell_of h2 rfl), carry hW (cell_of h2 rfl), carry hW (cell_of h3 rfl), carry hW (cell_of h3 rfl)⟩

theorem av1 (v : Value) (n x d va vb vc : Int) (ka kb kc : Bool) (w : World) (hfa : I64 va) (hfb : I64 vb) (hka : ka = false)
    (H1 : Hid (∀ W, Below w.heap.size w W → Calls Try.prog 63 #[v, .int .i64 n, .int .i64 d] W fun e w' => e = .returned (.agg #[.int .i64 va, .bool ka]) ∧ Below W.heap.size W w'))
    (H2 : Hid (∀ W, Below w.heap.size w W → Calls Try.prog 63 #[v, .int .i64 n, .int .i64 x] W fun e w' => e = .returned (.agg #[.int .i64 vb, .bool kb]) ∧ Below W.heap.size W w'))
    (H3 : Hid (∀ W, Below w.heap.size w W → Calls Try.prog 63 #[v, .int .i64 x, .int .i64 d] W fun e w' => e = .returned (.agg #[.int .i64 vc, .bool kc]) ∧ Below W.heap.size W w')) :
    Calls Try.prog 61 #[v, .int .i64 n, .int .i64 x, .int .i64 d] w fun e w' => e = .returned (.bool (false)) ∧ Below w.heap.size w w' := by
  obtain ⟨a3, a4⟩ := hfa
  obtain ⟨b3, b4⟩ := hfb
  subst hka
  go_enter Try.func61, Try.ntmps61
  go_wp2_with fail
  go_at_call 63
  refine (H1.out _ (Below.refl _ _)).mono ?_
  rintro e w1 ⟨rfl, hb1⟩
  go_wp2_with fail
  go_at_call 63
  refine (H2.out _ hb1).mono ?_
  rintro e w2 ⟨rfl, hb2⟩
  have HB2 := Lib.hid (below_then hb1 hb2)
  clear hb1 hb2
  go_wp2_with fail
  go_at_call 63
  refine (H3.out _ HB2.out).mono ?_
  rintro e w3 ⟨rfl, hb3⟩
  have HB3 := Lib.hid (below_then HB2.out hb3)
  clear hb3 HB2 H1 H2 H3
  have HB6 := Lib.hid (fun o1 o2 o3 => below_then (below_then (below_then HB3.out (below_alloc w3 o1)) (below_alloc _ o2)) (below_alloc _ o3))
  go_wp2_with fail
  go_ret
  exact ⟨rfl, HB6.out _ _ _⟩

theorem av2 (v : Value) (n x d va vb vc : Int) (ka kb kc : Bool) (w : World) (hfa : I64 va) (hfb : I64 vb) (hka : ka = true) (hkb : kb = false)
    (H1 : Hid (∀ W, Below w.heap.size w W → Calls Try.prog 63 #[v, .int .i64 n, .int .i64 d] W fun e w' => e = .returned (.agg #[.int .i64 va, .bool ka]) ∧ Below W.heap.size W w'))
    (H2 : Hid (∀ W, Below w.heap.size w W → Calls Try.prog 63 #[v, .int .i64 n, .int .i64 x] W fun e w' => e = .returned (.agg #[.int .i64 vb, .bool kb]) ∧ Below W.heap.size W w'))
    (H3 : Hid (∀ W, Below w.heap.size w W → Calls Try.prog 63 #[v, .int .i64 x, .int .i64 d] W fun e w' => e = .returned (.agg #[.int .i64 vc, .bool kc]) ∧ Below W.heap.size W w')) :
    Calls Try.prog 61 #[v, .int .i64 n, .int .i64 x, .int .i64 d] w fun e w' => e = .returned (.bool (false)) ∧ Below w.heap.size w w' := by
  obtain ⟨a3, a4⟩ := hfa
  obtain ⟨b3, b4⟩ := hfb
  subst hka hkb
  go_enter Try.func61, Try.ntmps61
  go_wp2_with fail
  go_at_call 63
  refine (H1.out _ (Below.refl _ _)).mono ?_
  rintro e w1 ⟨rfl, hb1⟩
  go_wp2_with fail
  go_at_call 63
  refine (H2.out _ hb1).mono ?_
  rintro e w2 ⟨rfl, hb2⟩
  have HB2 := Lib.hid (below_then hb1 hb2)
  clear hb1 hb2
  go_wp2_with fail
  go_at_call 63
  refine (H3.out _ HB2.out).mono ?_
  rintro e w3 ⟨rfl, hb3⟩
  have HB3 := Lib.hid (below_then HB2.out hb3)
  clear hb3 HB2 H1 H2 H3
  have HB6 := Lib.hid (fun o1 o2 o3 => below_then (below_then (below_then HB3.out (below_alloc w3 o1)) (below_alloc _ o2)) (below_alloc _ o3))
  go_wp2_with fail
  go_ret
  exact ⟨rfl, HB6.out _ _ _⟩

theorem av3 (v : Value) (n x d va vb vc : Int) (ka kb kc : Bool) (w : World) (hfa : I64 va) (hfb : I64 vb) (hka : ka = true) (hkb : kb = true) (hkc : kc = false)
    (H1 : Hid (∀ W, Below w.heap.size w W → Calls Try.prog 63 #[v, .int .i64 n, .int .i64 d] W fun e w' => e = .returned (.agg #[.int .i64 va, .bool ka]) ∧ Below W.heap.size W w'))
    (H2 : Hid (∀ W, Below w.heap.size w W → Calls Try.prog 63 #[v, .int .i64 n, .int .i64 x] W fun e w' => e = .returned (.agg #[.int .i64 vb, .bool kb]) ∧ Below W.heap.size W w'))
    (H3 : Hid (∀ W, Below w.heap.size w W → Calls Try.prog 63 #[v, .int .i64 x, .int .i64 d] W fun e w' => e = .returned (.agg #[.int .i64 vc, .bool kc]) ∧ Below W.heap.size W w')) :
    Calls Try.prog 61 #[v, .int .i64 n, .int .i64 x, .int .i64 d] w fun e w' => e = .returned (.bool (false)) ∧ Below w.heap.size w w' := by
  obtain ⟨a3, a4⟩ := hfa
  obtain ⟨b3, b4⟩ := hfb
  subst hka hkb hkc
  go_enter Try.func61, Try.ntmps61
  go_wp2_with fail
  go_at_call 63
  refine (H1.out _ (Below.refl _ _)).mono ?_
  rintro e w1 ⟨rfl, hb1⟩
  go_wp2_with fail
  go_at_call 63
  refine (H2.out _ hb1).mono ?_
  rintro e w2 ⟨rfl, hb2⟩
  have HB2 := Lib.hid (below_then hb1 hb2)
  clear hb1 hb2
  go_wp2_with fail
  go_at_call 63
  refine (H3.out _ HB2.out).mono ?_
  rintro e w3 ⟨rfl, hb3⟩
  have HB3 := Lib.hid (below_then HB2.out hb3)
  clear hb3 HB2 H1 H2 H3
  have HB6 := Lib.hid (fun o1 o2 o3 => below_then (below_then (below_then HB3.out (below_alloc w3 o1)) (below_alloc _ o2)) (below_alloc _ o3))
  go_wp2_with fail
  go_ret
  exact ⟨rfl, HB6.out _ _ _⟩

theorem av4 (v : Value) (n x d va vb vc : Int) (ka kb kc : Bool) (w : World) (hfa : I64 va) (hfb : I64 vb) (hka : ka = true) (hkb : kb = true) (hkc : kc = true) (ha : va < 0)
    (H1 : Hid (∀ W, Below w.heap.size w W → Calls Try.prog 63 #[v, .int .i64 n, .int .i64 d] W fun e w' => e = .returned (.agg #[.int .i64 va, .bool ka]) ∧ Below W.heap.size W w'))
    (H2 : Hid (∀ W, Below w.heap.size w W → Calls Try.prog 63 #[v, .int .i64 n, .int .i64 x] W fun e w' => e = .returned (.agg #[.int .i64 vb, .bool kb]) ∧ Below W.heap.size W w'))
    (H3 : Hid (∀ W, Below w.heap.size w W → Calls Try.prog 63 #[v, .int .i64 x, .int .i64 d] W fun e w' => e = .returned (.agg #[.int .i64 vc, .bool kc]) ∧ Below W.heap.size W w')) :
    Calls Try.prog 61 #[v, .int .i64 n, .int .i64 x, .int .i64 d] w fun e w' => e = .returned (.bool (false)) ∧ Below w.heap.size w w' := by
  obtain ⟨a3, a4⟩ := hfa
  obtain ⟨b3, b4⟩ := hfb
  subst hka hkb hkc
  have a1 : decide (0 ≤ va) = false := decide_eq_false (by omega)
  go_enter Try.func61, Try.ntmps61
  go_wp2_with fail
  go_at_call 63
  refine (H1.out _ (Below.refl _ _)).mono ?_
  rintro e w1 ⟨rfl, hb1⟩
  go_wp2_with fail
  go_at_call 63
  refine (H2.out _ hb1).mono ?_
  rintro e w2 ⟨rfl, hb2⟩
  have HB2 := Lib.hid (below_then hb1 hb2)
  clear hb1 hb2
  go_wp2_with fail
  go_at_call 63
  refine (H3.out _ HB2.out).mono ?_
  rintro e w3 ⟨rfl, hb3⟩
  have HB3 := Lib.hid (below_then HB2.out hb3)
  clear hb3 HB2 H1 H2 H3
  have HB6 := Lib.hid (fun o1 o2 o3 => below_then (below_then (below_then HB3.out (below_alloc w3 o1)) (below_alloc _ o2)) (below_alloc _ o3))
  go_wp2_with fail
  have HBV := Lib.hid (HB6.out (.cells #[.int .i64 va, .bool true] 81) (.cells #[.int .i64 vb, .bool true] 81) (.cells #[.int .i64 vc, .bool true] 81))
  have HKV := Lib.hid (three_kept w3 va vb vc)
  have hBV0 : Below _ _ _ := Below.refl (((w3.alloc (.cells #[.int .i64 va, .bool true] 81)).alloc (.cells #[.int .i64 vb, .bool true] 81)).alloc (.cells #[.int .i64 vc, .bool true] 81)).heap.size (((w3.alloc (.cells #[.int .i64 va, .bool true] 81)).alloc (.cells #[.int .i64 vb, .bool true] 81)).alloc (.cells #[.int .i64 vc, .bool true] 81))
  have HU := Lib.hid hBV0
  clear hBV0 HB6
  generalize (((w3.alloc (.cells #[.int .i64 va, .bool true] 81)).alloc (.cells #[.int .i64 vb, .bool true] 81)).alloc (.cells #[.int .i64 vc, .bool true] 81)) = V at *
  go_at_call 64
  refine (finite_any _ _ _).mono ?_
  rintro e u0 ⟨rfl, hc0⟩
  have HU0 := Lib.hid (below_then HU.out hc0)
  clear hc0 HU
  have HU := Lib.hid HU0.out
  obtain ⟨d0, d1, d2, d3, d4, d5⟩ := HKV.out _ HU0.out
  clear HU0
  go_wp2_with fail
  clear d0 d1 d2 d3 d4 d5
  go_ret
  exact ⟨rfl, below_then HBV.out HU.out⟩

theorem av5 (v : Value) (n x d va vb vc : Int) (ka kb kc : Bool) (w : World) (hfa : I64 va) (hfb : I64 vb) (hka : ka = true) (hkb : kb = true) (hkc : kc = true) (ha : 0 ≤ va) (hb : vb < 0)
    (H1 : Hid (∀ W, Below w.heap.size w W → Calls Try.prog 63 #[v, .int .i64 n, .int .i64 d] W fun e w' => e = .returned (.agg #[.int .i64 va, .bool ka]) ∧ Below W.heap.size W w'))
    (H2 : Hid (∀ W, Below w.heap.size w W → Calls Try.prog 63 #[v, .int .i64 n, .int .i64 x] W fun e w' => e = .returned (.agg #[.int .i64 vb, .bool kb]) ∧ Below W.heap.size W w'))
    (H3 : Hid (∀ W, Below w.heap.size w W → Calls Try.prog 63 #[v, .int .i64 x, .int .i64 d] W fun e w' => e = .returned (.agg #[.int .i64 vc, .bool kc]) ∧ Below W.heap.size W w')) :
    Calls Try.prog 61 #[v, .int .i64 n, .int .i64 x, .int .i64 d] w fun e w' => e = .returned (.bool (true)) ∧ Below w.heap.size w w' := by
  obtain ⟨a3, a4⟩ := hfa
  obtain ⟨b3, b4⟩ := hfb
  subst hka hkb hkc
  have a1 : decide (0 ≤ va) = true := decide_eq_true ha
  have b1 : decide (0 ≤ vb) = false := decide_eq_false (by omega)
  go_enter Try.func61, Try.ntmps61
  go_wp2_with fail
  go_at_call 63
  refine (H1.out _ (Below.refl _ _)).mono ?_
  rintro e w1 ⟨rfl, hb1⟩
  go_wp2_with fail
  go_at_call 63
  refine (H2.out _ hb1).mono ?_
  rintro e w2 ⟨rfl, hb2⟩
  have HB2 := Lib.hid (below_then hb1 hb2)
  clear hb1 hb2
  go_wp2_with fail
  go_at_call 63
  refine (H3.out _ HB2.out).mono ?_
  rintro e w3 ⟨rfl, hb3⟩
  have HB3 := Lib.hid (below_then HB2.out hb3)
  clear hb3 HB2 H1 H2 H3
  have HB6 := Lib.hid (fun o1 o2 o3 => below_then (below_then (below_then HB3.out (below_alloc w3 o1)) (below_alloc _ o2)) (below_alloc _ o3))
  go_wp2_with fail
  have HBV := Lib.hid (HB6.out (.cells #[.int .i64 va, .bool true] 81) (.cells #[.int .i64 vb, .bool true] 81) (.cells #[.int .i64 vc, .bool true] 81))
  have HKV := Lib.hid (three_kept w3 va vb vc)
  have hBV0 : Below _ _ _ := Below.refl (((w3.alloc (.cells #[.int .i64 va, .bool true] 81)).alloc (.cells #[.int .i64 vb, .bool true] 81)).alloc (.cells #[.int .i64 vc, .bool true] 81)).heap.size (((w3.alloc (.cells #[.int .i64 va, .bool true] 81)).alloc (.cells #[.int .i64 vb, .bool true] 81)).alloc (.cells #[.int .i64 vc, .bool true] 81))
  have HU := Lib.hid hBV0
  clear hBV0 HB6
  generalize (((w3.alloc (.cells #[.int .i64 va, .bool true] 81)).alloc (.cells #[.int .i64 vb, .bool true] 81)).alloc (.cells #[.int .i64 vc, .bool true] 81)) = V at *
  go_at_call 64
  refine (finite_any _ _ _).mono ?_
  rintro e u0 ⟨rfl, hc0⟩
  have HU0 := Lib.hid (below_then HU.out hc0)
  clear hc0 HU
  have HU := Lib.hid HU0.out
  obtain ⟨d0, d1, d2, d3, d4, d5⟩ := HKV.out _ HU0.out
  clear HU0
  go_wp2_with fail
  clear d0 d1 d2 d3 d4 d5
  go_at_call 64
  refine (finite_any _ _ _).mono ?_
  rintro e u1 ⟨rfl, hc1⟩
  have HU1 := Lib.hid (below_then HU.out hc1)
  clear hc1 HU
  have HU := Lib.hid HU1.out
  obtain ⟨d0, d1, d2, d3, d4, d5⟩ := HKV.out _ HU1.out
  clear HU1
  go_wp2_with fail
  clear d0 d1 d2 d3 d4 d5
  go_ret
  exact ⟨rfl, below_then HBV.out HU.out⟩

theorem av6 (v : Value) (n x d va vb vc : Int) (ka kb kc : Bool) (w : World) (hfa : I64 va) (hfb : I64 vb) (hka : ka = true) (hkb : kb = true) (hkc : kc = true) (ha : 0 ≤ va) (hb : 0 ≤ vb) (hc : vc < 0)
    (H1 : Hid (∀ W, Below w.heap.size w W → Calls Try.prog 63 #[v, .int .i64 n, .int .i64 d] W fun e w' => e = .returned (.agg #[.int .i64 va, .bool ka]) ∧ Below W.heap.size W w'))
    (H2 : Hid (∀ W, Below w.heap.size w W → Calls Try.prog 63 #[v, .int .i64 n, .int .i64 x] W fun e w' => e = .returned (.agg #[.int .i64 vb, .bool kb]) ∧ Below W.heap.size W w'))
    (H3 : Hid (∀ W, Below w.heap.size w W → Calls Try.prog 63 #[v, .int .i64 x, .int .i64 d] W fun e w' => e = .returned (.agg #[.int .i64 vc, .bool kc]) ∧ Below W.heap.size W w')) :
    Calls Try.prog 61 #[v, .int .i64 n, .int .i64 x, .int .i64 d] w fun e w' => e = .returned (.bool (true)) ∧ Below w.heap.size w w' := by
  obtain ⟨a3, a4⟩ := hfa
  obtain ⟨b3, b4⟩ := hfb
  subst hka hkb hkc
  have a1 : decide (0 ≤ va) = true := decide_eq_true ha
  have b1 : decide (0 ≤ vb) = true := decide_eq_true hb
  have c1 : decide (0 ≤ vc) = false := decide_eq_false (by omega)
  go_enter Try.func61, Try.ntmps61
  go_wp2_with fail
  go_at_call 63
  refine (H1.out _ (Below.refl _ _)).mono ?_
  rintro e w1 ⟨rfl, hb1⟩
  go_wp2_with fail
  go_at_call 63
  refine (H2.out _ hb1).mono ?_
  rintro e w2 ⟨rfl, hb2⟩
  have HB2 := Lib.hid (below_then hb1 hb2)
  clear hb1 hb2
  go_wp2_with fail
  go_at_call 63
  refine (H3.out _ HB2.out).mono ?_
  rintro e w3 ⟨rfl, hb3⟩
  have HB3 := Lib.hid (below_then HB2.out hb3)
  clear hb3 HB2 H1 H2 H3
  have HB6 := Lib.hid (fun o1 o2 o3 => below_then (below_then (below_then HB3.out (below_alloc w3 o1)) (below_alloc _ o2)) (below_alloc _ o3))
  go_wp2_with fail
  have HBV := Lib.hid (HB6.out (.cells #[.int .i64 va, .bool true] 81) (.cells #[.int .i64 vb, .bool true] 81) (.cells #[.int .i64 vc, .bool true] 81))
  have HKV := Lib.hid (three_kept w3 va vb vc)
  have hBV0 : Below _ _ _ := Below.refl (((w3.alloc (.cells #[.int .i64 va, .bool true] 81)).alloc (.cells #[.int .i64 vb, .bool true] 81)).alloc (.cells #[.int .i64 vc, .bool true] 81)).heap.size (((w3.alloc (.cells #[.int .i64 va, .bool true] 81)).alloc (.cells #[.int .i64 vb, .bool true] 81)).alloc (.cells #[.int .i64 vc, .bool true] 81))
  have HU := Lib.hid hBV0
  clear hBV0 HB6
  generalize (((w3.alloc (.cells #[.int .i64 va, .bool true] 81)).alloc (.cells #[.int .i64 vb, .bool true] 81)).alloc (.cells #[.int .i64 vc, .bool true] 81)) = V at *
  go_at_call 64
  refine (finite_any _ _ _).mono ?_
  rintro e u0 ⟨rfl, hc0⟩
  have HU0 := Lib.hid (below_then HU.out hc0)
  clear hc0 HU
  have HU := Lib.hid HU0.out
  obtain ⟨d0, d1, d2, d3, d4, d5⟩ := HKV.out _ HU0.out
  clear HU0
  go_wp2_with fail
  clear d0 d1 d2 d3 d4 d5
  go_at_call 64
  refine (finite_any _ _ _).mono ?_
  rintro e u1 ⟨rfl, hc1⟩
  have HU1 := Lib.hid (below_then HU.out hc1)
  clear hc1 HU
  have HU := Lib.hid HU1.out
  obtain ⟨d0, d1, d2, d3, d4, d5⟩ := HKV.out _ HU1.out
  clear HU1
  go_wp2_with fail
  clear d0 d1 d2 d3 d4 d5
  go_at_call 64
  refine (finite_any _ _ _).mono ?_
  rintro e u2 ⟨rfl, hc2⟩
  have HU2 := Lib.hid (below_then HU.out hc2)
  clear hc2 HU
  have HU := Lib.hid HU2.out
  obtain ⟨d0, d1, d2, d3, d4, d5⟩ := HKV.out _ HU2.out
  clear HU2
  go_wp2_with fail
  clear d0 d1 d2 d3 d4 d5
  go_ret
  exact ⟨rfl, below_then HBV.out HU.out⟩

theorem av7 (v : Value) (n x d va vb vc : Int) (ka kb kc : Bool) (w : World) (hfa : I64 va) (hfb : I64 vb) (hka : ka = true) (hkb : kb = true) (hkc : kc = true) (ha : 0 ≤ va) (hb : 0 ≤ vb) (hc : 0 ≤ vc)
    (H1 : Hid (∀ W, Below w.heap.size w W → Calls Try.prog 63 #[v, .int .i64 n, .int .i64 d] W fun e w' => e = .returned (.agg #[.int .i64 va, .bool ka]) ∧ Below W.heap.size W w'))
    (H2 : Hid (∀ W, Below w.heap.size w W → Calls Try.prog 63 #[v, .int .i64 n, .int .i64 x] W fun e w' => e = .returned (.agg #[.int .i64 vb, .bool kb]) ∧ Below W.heap.size W w'))
    (H3 : Hid (∀ W, Below w.heap.size w W → Calls Try.prog 63 #[v, .int .i64 x, .int .i64 d] W fun e w' => e = .returned (.agg #[.int .i64 vc, .bool kc]) ∧ Below W.heap.size W w')) :
    Calls Try.prog 61 #[v, .int .i64 n, .int .i64 x, .int .i64 d] w fun e w' => e = .returned (.bool (decide (va - vb < vc))) ∧ Below w.heap.size w w' := by
  obtain ⟨a3, a4⟩ := hfa
  obtain ⟨b3, b4⟩ := hfb
  subst hka hkb hkc
  have a1 : decide (0 ≤ va) = true := decide_eq_true ha
  have b1 : decide (0 ≤ vb) = true := decide_eq_true hb
  have c1 : decide (0 ≤ vc) = true := decide_eq_true hc
  go_enter Try.func61, Try.ntmps61
  go_wp2_with fail
  go_at_call 63
  refine (H1.out _ (Below.refl _ _)).mono ?_
  rintro e w1 ⟨rfl, hb1⟩
  go_wp2_with fail
  go_at_call 63
  refine (H2.out _ hb1).mono ?_
  rintro e w2 ⟨rfl, hb2⟩
  have HB2 := Lib.hid (below_then hb1 hb2)
  clear hb1 hb2
  go_wp2_with fail
  go_at_call 63
  refine (H3.out _ HB2.out).mono ?_
  rintro e w3 ⟨rfl, hb3⟩
  have HB3 := Lib.hid (below_then HB2.out hb3)
  clear hb3 HB2 H1 H2 H3
  have HB6 := Lib.hid (fun o1 o2 o3 => below_then (below_then (below_then HB3.out (below_alloc w3 o1)) (below_alloc _ o2)) (below_alloc _ o3))
  go_wp2_with fail
  have HBV := Lib.hid (HB6.out (.cells #[.int .i64 va, .bool true] 81) (.cells #[.int .i64 vb, .bool true] 81) (.cells #[.int .i64 vc, .bool true] 81))
  have HKV := Lib.hid (three_kept w3 va vb vc)
  have hBV0 : Below _ _ _ := Below.refl (((w3.alloc (.cells #[.int .i64 va, .bool true] 81)).alloc (.cells #[.int .i64 vb, .bool true] 81)).alloc (.cells #[.int .i64 vc, .bool true] 81)).heap.size (((w3.alloc (.cells #[.int .i64 va, .bool true] 81)).alloc (.cells #[.int .i64 vb, .bool true] 81)).alloc (.cells #[.int .i64 vc, .bool true] 81))
  have HU := Lib.hid hBV0
  clear hBV0 HB6
  generalize (((w3.alloc (.cells #[.int .i64 va, .bool true] 81)).alloc (.cells #[.int .i64 vb, .bool true] 81)).alloc (.cells #[.int .i64 vc, .bool true] 81)) = V at *
  go_at_call 64
  refine (finite_any _ _ _).mono ?_
  rintro e u0 ⟨rfl, hc0⟩
  have HU0 := Lib.hid (below_then HU.out hc0)
  clear hc0 HU
  have HU := Lib.hid HU0.out
  obtain ⟨d0, d1, d2, d3, d4, d5⟩ := HKV.out _ HU0.out
  clear HU0
  go_wp2_with fail
  clear d0 d1 d2 d3 d4 d5
  go_at_call 64
  refine (finite_any _ _ _).mono ?_
  rintro e u1 ⟨rfl, hc1⟩
  have HU1 := Lib.hid (below_then HU.out hc1)
  clear hc1 HU
  have HU := Lib.hid HU1.out
  obtain ⟨d0, d1, d2, d3, d4, d5⟩ := HKV.out _ HU1.out
  clear HU1
  go_wp2_with fail
  clear d0 d1 d2 d3 d4 d5
  go_at_call 64
  refine (finite_any _ _ _).mono ?_
  rintro e u2 ⟨rfl, hc2⟩
  have HU2 := Lib.hid (below_then HU.out hc2)
  clear hc2 HU
  have HU := Lib.hid HU2.out
  obtain ⟨d0, d1, d2, d3, d4, d5⟩ := HKV.out _ HU2.out
  clear HU2
  go_wp2_with fail
  clear d0 d1 d2 d3 d4 d5
  go_ret
  exact ⟨rfl, below_then HBV.out HU.out⟩

theorem avoids_any (tab : List (List Int)) (v : Value) (n x d : Int) (w : World) (hr : RdR w v tab) (hf : FitR tab) :
    Calls Try.prog 61 #[v, .int .i64 n, .int .i64 x, .int .i64 d] w fun e w' => e = .returned (.bool (avT tab n x d)) ∧ Below w.heap.size w w' := by
  have H : ∀ a b, Hid (∀ W, Below w.heap.size w W → Calls Try.prog 63 #[v, .int .i64 a, .int .i64 b] W fun e w' => e = .returned (.agg #[.int .i64 (entV (ent tab a b)), .bool (ent tab a b).isSome]) ∧ Below W.heap.size W w') := fun a b W hW => elem_any tab v a b W (hr.below hW)
  have H1 := H n d
  have H2 := H n x
  have H3 := H x d
  have f1 := ent_fit hf n d
  have f2 := ent_fit hf n x
  unfold avT
  rw [← avV_eq]
  generalize entV (ent tab n d) = va at *
  generalize entV (ent tab n x) = vb at *
  generalize entV (ent tab x d) = vc at *
  generalize (ent tab n d).isSome = ka at *
  generalize (ent tab n x).isSome = kb at *
  generalize (ent tab x d).isSome = kc at *
  unfold avV
  clear H
  cases hka : ka
  · exact av1 v n x d va vb vc ka kb kc w f1 f2 hka H1 H2 H3
  · cases hkb : kb
    · exact av2 v n x d va vb vc ka kb kc w f1 f2 hka hkb H1 H2 H3
    · cases hkc : kc
      · exact av3 v n x d va vb vc ka kb kc w f1 f2 hka hkb hkc H1 H2 H3
      · by_cases ha : 0 ≤ va
        · by_cases hb : 0 ≤ vb
          · by_cases hc : 0 ≤ vc
            · have := av7 v n x d va vb vc ka kb kc w f1 f2 hka hkb hkc ha hb hc H1 H2 H3
              rw [decide_eq_true ha, decide_eq_false (show ¬ vb < 0 by omega), decide_eq_false (show ¬ vc < 0 by omega)]
              exact this
            · have := av6 v n x d va vb vc ka kb kc w f1 f2 hka hkb hkc ha hb (by omega) H1 H2 H3
              rw [decide_eq_true ha, decide_eq_true (show vc < 0 by omega), Bool.or_true]
              exact this
          · have := av5 v n x d va vb vc ka kb kc w f1 f2 hka hkb hkc ha (by omega) H1 H2 H3
            rw [decide_eq_true ha, decide_eq_true (show vb < 0 by omega)]
            exact this
        · have := av4 v n x d va vb vc ka kb kc w f1 f2 hka hkb hkc (by omega) H1 H2 H3
          rw [decide_eq_false ha]
          exact this
theorem loopfree_any (tab : List (List Int)) (v : Value) (s n d : Int) (w : World) (hr : RdR w v tab) (hf : FitR tab) :
    Calls Try.prog 18 #[v, .int .i64 s, .int .i64 n, .int .i64 d] w fun e w' => e = .returned (.bool (avT tab n s d)) ∧ Below w.heap.size w w' := by
  have H := Lib.hid (avoids_any tab v n s d w hr hf)
  clear hr
  go_enter Try.func18, Try.ntmps18
  go_wp2_with fail
  go_at_call 61
  refine H.out.mono ?_
  rintro e w1 ⟨rfl, hb⟩
  clear H
  go_wp2
  go_ret
  exact ⟨rfl, hb⟩
theorem protects_any (tab : List (List Int)) (v : Value) (n x d : Int) (w : World) (hr : RdR w v tab) (hf : FitR tab) :
    Calls Try.prog 22 #[v, .int .i64 n, .int .i64 x, .int .i64 d] w fun e w' => e = .returned (.bool (avT tab n x d)) ∧ Below w.heap.size w w' := by
  have H := Lib.hid (avoids_any tab v n x d w hr hf)
  clear hr
  go_enter Try.func22, Try.ntmps22
  go_wp2_with fail
  go_at_call 61
  refine H.out.mono ?_
  rintro e w1 ⟨rfl, hb⟩
  clear H
  go_wp2
  go_ret
  exact ⟨rfl, hb⟩
theorem two_kept (w : World) (va vb : Int) : ∀ W, Below ((w.alloc (.cells #[.int .i64 va, .bool true] 81)).alloc (.cells #[.int .i64 vb, .bool true] 81)).heap.size ((w.alloc (.cells #[.int .i64 va, .bool true] 81)).alloc (.cells #[.int .i64 vb, .bool true] 81)) W →
    W.cell? ⟨w.heap.size, 0, none⟩ = some (.int .i64 va) ∧ W.cell? ⟨w.heap.size, 1, none⟩ = some (.bool true) ∧ W.cell? ⟨w.heap.size + 1, 0, none⟩ = some (.int .i64 vb) ∧ W.cell? ⟨w.heap.size + 1, 1, none⟩ = some (.bool true) := fun W hW => by
  have h1 : ((w.alloc (.cells #[.int .i64 va, .bool true] 81)).alloc (.cells #[.int .i64 vb, .bool true] 81)).heap[w.heap.size]? = some (.cells #[.int .i64 va, .bool true] 81) := by
    rw [Below.heap_alloc _ _ _ (by simp), heap_alloc_new]
  have h2 : ((w.alloc (.cells #[.int .i64 va, .bool true] 81)).alloc (.cells #[.int .i64 vb, .bool true] 81)).heap[w.heap.size + 1]? = some (.cells #[.int .i64 vb, .bool true] 81) := by
    have := heap_alloc_new (w.alloc (.cells #[.int .i64 va, .bool true] 81)) (.cells #[.int .i64 vb, .bool true] 81)
    simpa using this
  exact ⟨carry hW (cell_of h1 rfl), carry hW (cell_of h1 rfl), carry hW (cell_of h2 rfl), carry hW (cell_of h2 rfl)⟩

theorem dn1 (v : Value) (n s d va vb : Int) (ka kb : Bool) (w : World) (hka : ka = false)
    (H1 : Hid (∀ W, Below w.heap.size w W → Calls Try.prog 63 #[v, .int .i64 n, .int .i64 d] W fun e w' => e = .returned (.agg #[.int .i64 va, .bool ka]) ∧ Below W.heap.size W w'))
    (H2 : Hid (∀ W, Below w.heap.size w W → Calls Try.prog 63 #[v, .int .i64 s, .int .i64 d] W fun e w' => e = .returned (.agg #[.int .i64 vb, .bool kb]) ∧ Below W.heap.size W w')) :
    Calls Try.prog 20 #[v, .int .i64 s, .int .i64 n, .int .i64 d] w fun e w' => e = .returned (.bool (false)) ∧ Below w.heap.size w w' := by
  subst hka
  go_enter Try.func20, Try.ntmps20
  go_wp2_with fail
  go_at_call 63
  refine (H1.out _ (Below.refl _ _)).mono ?_
  rintro e w1 ⟨rfl, hb1⟩
  go_wp2_with fail
  go_at_call 63
  refine (H2.out _ hb1).mono ?_
  rintro e w2 ⟨rfl, hb2⟩
  have HB2 := Lib.hid (below_then hb1 hb2)
  clear hb1 hb2 H1 H2
  have HB6 := Lib.hid (fun o1 o2 => below_then (below_then HB2.out (below_alloc w2 o1)) (below_alloc _ o2))
  go_wp2_with fail
  go_ret
  exact ⟨rfl, HB6.out _ _⟩

theorem dn2 (v : Value) (n s d va vb : Int) (ka kb : Bool) (w : World) (hka : ka = true) (hkb : kb = false)
    (H1 : Hid (∀ W, Below w.heap.size w W → Calls Try.prog 63 #[v, .int .i64 n, .int .i64 d] W fun e w' => e = .returned (.agg #[.int .i64 va, .bool ka]) ∧ Below W.heap.size W w'))
    (H2 : Hid (∀ W, Below w.heap.size w W → Calls Try.prog 63 #[v, .int .i64 s, .int .i64 d] W fun e w' => e = .returned (.agg #[.int .i64 vb, .bool kb]) ∧ Below W.heap.size W w')) :
    Calls Try.prog 20 #[v, .int .i64 s, .int .i64 n, .int .i64 d] w fun e w' => e = .returned (.bool (false)) ∧ Below w.heap.size w w' := by
  subst hka hkb
  go_enter Try.func20, Try.ntmps20
  go_wp2_with fail
  go_at_call 63
  refine (H1.out _ (Below.refl _ _)).mono ?_
  rintro e w1 ⟨rfl, hb1⟩
  go_wp2_with fail
  go_at_call 63
  refine (H2.out _ hb1).mono ?_
  rintro e w2 ⟨rfl, hb2⟩
  have HB2 := Lib.hid (below_then hb1 hb2)
  clear hb1 hb2 H1 H2
  have HB6 := Lib.hid (fun o1 o2 => below_then (below_then HB2.out (below_alloc w2 o1)) (below_alloc _ o2))
  go_wp2_with fail
  go_ret
  exact ⟨rfl, HB6.out _ _⟩

theorem dn3 (v : Value) (n s d va vb : Int) (ka kb : Bool) (w : World) (hka : ka = true) (hkb : kb = true) (ha : va < 0)
    (H1 : Hid (∀ W, Below w.heap.size w W → Calls Try.prog 63 #[v, .int .i64 n, .int .i64 d] W fun e w' => e = .returned (.agg #[.int .i64 va, .bool ka]) ∧ Below W.heap.size W w'))
    (H2 : Hid (∀ W, Below w.heap.size w W → Calls Try.prog 63 #[v, .int .i64 s, .int .i64 d] W fun e w' => e = .returned (.agg #[.int .i64 vb, .bool kb]) ∧ Below W.heap.size W w')) :
    Calls Try.prog 20 #[v, .int .i64 s, .int .i64 n, .int .i64 d] w fun e w' => e = .returned (.bool (false)) ∧ Below w.heap.size w w' := by
  subst hka hkb
  have a1 : decide (0 ≤ va) = false := decide_eq_false (by omega)
  go_enter Try.func20, Try.ntmps20
  go_wp2_with fail
  go_at_call 63
  refine (H1.out _ (Below.refl _ _)).mono ?_
  rintro e w1 ⟨rfl, hb1⟩
  go_wp2_with fail
  go_at_call 63
  refine (H2.out _ hb1).mono ?_
  rintro e w2 ⟨rfl, hb2⟩
  have HB2 := Lib.hid (below_then hb1 hb2)
  clear hb1 hb2 H1 H2
  have HB6 := Lib.hid (fun o1 o2 => below_then (below_then HB2.out (below_alloc w2 o1)) (below_alloc _ o2))
  go_wp2_with fail
  have HBV := Lib.hid (HB6.out (.cells #[.int .i64 va, .bool true] 81) (.cells #[.int .i64 vb, .bool true] 81))
  have HKV := Lib.hid (two_kept w2 va vb)
  have hBV0 : Below _ _ _ := Below.refl ((w2.alloc (.cells #[.int .i64 va, .bool true] 81)).alloc (.cells #[.int .i64 vb, .bool true] 81)).heap.size ((w2.alloc (.cells #[.int .i64 va, .bool true] 81)).alloc (.cells #[.int .i64 vb, .bool true] 81))
  have HU := Lib.hid hBV0
  clear hBV0 HB6
  generalize ((w2.alloc (.cells #[.int .i64 va, .bool true] 81)).alloc (.cells #[.int .i64 vb, .bool true] 81)) = V at *
  go_at_call 64
  refine (finite_any _ _ _).mono ?_
  rintro e u0 ⟨rfl, hc0⟩
  have HU0 := Lib.hid (below_then HU.out hc0)
  clear hc0 HU
  have HU := Lib.hid HU0.out
  obtain ⟨d0, d1, d2, d3⟩ := HKV.out _ HU0.out
  clear HU0
  go_wp2_with fail
  clear d0 d1 d2 d3
  go_ret
  exact ⟨rfl, below_then HBV.out HU.out⟩

theorem dn4 (v : Value) (n s d va vb : Int) (ka kb : Bool) (w : World) (hka : ka = true) (hkb : kb = true) (ha : 0 ≤ va) (hb : vb < 0)
    (H1 : Hid (∀ W, Below w.heap.size w W → Calls Try.prog 63 #[v, .int .i64 n, .int .i64 d] W fun e w' => e = .returned (.agg #[.int .i64 va, .bool ka]) ∧ Below W.heap.size W w'))
    (H2 : Hid (∀ W, Below w.heap.size w W → Calls Try.prog 63 #[v, .int .i64 s, .int .i64 d] W fun e w' => e = .returned (.agg #[.int .i64 vb, .bool kb]) ∧ Below W.heap.size W w')) :
    Calls Try.prog 20 #[v, .int .i64 s, .int .i64 n, .int .i64 d] w fun e w' => e = .returned (.bool (true)) ∧ Below w.heap.size w w' := by
  subst hka hkb
  have a1 : decide (0 ≤ va) = true := decide_eq_true ha
  have b1 : decide (0 ≤ vb) = false := decide_eq_false (by omega)
  go_enter Try.func20, Try.ntmps20
  go_wp2_with fail
  go_at_call 63
  refine (H1.out _ (Below.refl _ _)).mono ?_
  rintro e w1 ⟨rfl, hb1⟩
  go_wp2_with fail
  go_at_call 63
  refine (H2.out _ hb1).mono ?_
  rintro e w2 ⟨rfl, hb2⟩
  have HB2 := Lib.hid (below_then hb1 hb2)
  clear hb1 hb2 H1 H2
  have HB6 := Lib.hid (fun o1 o2 => below_then (below_then HB2.out (below_alloc w2 o1)) (below_alloc _ o2))
  go_wp2_with fail
  have HBV := Lib.hid (HB6.out (.cells #[.int .i64 va, .bool true] 81) (.cells #[.int .i64 vb, .bool true] 81))
  have HKV := Lib.hid (two_kept w2 va vb)
  have hBV0 : Below _ _ _ := Below.refl ((w2.alloc (.cells #[.int .i64 va, .bool true] 81)).alloc (.cells #[.int .i64 vb, .bool true] 81)).heap.size ((w2.alloc (.cells #[.int .i64 va, .bool true] 81)).alloc (.cells #[.int .i64 vb, .bool true] 81))
  have HU := Lib.hid hBV0
  clear hBV0 HB6
  generalize ((w2.alloc (.cells #[.int .i64 va, .bool true] 81)).alloc (.cells #[.int .i64 vb, .bool true] 81)) = V at *
  go_at_call 64
  refine (finite_any _ _ _).mono ?_
  rintro e u0 ⟨rfl, hc0⟩
  have HU0 := Lib.hid (below_then HU.out hc0)
  clear hc0 HU
  have HU := Lib.hid HU0.out
  obtain ⟨d0, d1, d2, d3⟩ := HKV.out _ HU0.out
  clear HU0
  go_wp2_with fail
  clear d0 d1 d2 d3
  go_at_call 64
  refine (finite_any _ _ _).mono ?_
  rintro e u1 ⟨rfl, hc1⟩
  have HU1 := Lib.hid (below_then HU.out hc1)
  clear hc1 HU
  have HU := Lib.hid HU1.out
  obtain ⟨d0, d1, d2, d3⟩ := HKV.out _ HU1.out
  clear HU1
  go_wp2_with fail
  clear d0 d1 d2 d3
  go_ret
  exact ⟨rfl, below_then HBV.out HU.out⟩

theorem dn5 (v : Value) (n s d va vb : Int) (ka kb : Bool) (w : World) (hka : ka = true) (hkb : kb = true) (ha : 0 ≤ va) (hb : 0 ≤ vb)
    (H1 : Hid (∀ W, Below w.heap.size w W → Calls Try.prog 63 #[v, .int .i64 n, .int .i64 d] W fun e w' => e = .returned (.agg #[.int .i64 va, .bool ka]) ∧ Below W.heap.size W w'))
    (H2 : Hid (∀ W, Below w.heap.size w W → Calls Try.prog 63 #[v, .int .i64 s, .int .i64 d] W fun e w' => e = .returned (.agg #[.int .i64 vb, .bool kb]) ∧ Below W.heap.size W w')) :
    Calls Try.prog 20 #[v, .int .i64 s, .int .i64 n, .int .i64 d] w fun e w' => e = .returned (.bool (decide (va < vb))) ∧ Below w.heap.size w w' := by
  subst hka hkb
  have a1 : decide (0 ≤ va) = true := decide_eq_true ha
  have b1 : decide (0 ≤ vb) = true := decide_eq_true hb
  go_enter Try.func20, Try.ntmps20
  go_wp2_with fail
  go_at_call 63
  refine (H1.out _ (Below.refl _ _)).mono ?_
  rintro e w1 ⟨rfl, hb1⟩
  go_wp2_with fail
  go_at_call 63
  refine (H2.out _ hb1).mono ?_
  rintro e w2 ⟨rfl, hb2⟩
  have HB2 := Lib.hid (below_then hb1 hb2)
  clear hb1 hb2 H1 H2
  have HB6 := Lib.hid (fun o1 o2 => below_then (below_then HB2.out (below_alloc w2 o1)) (below_alloc _ o2))
  go_wp2_with fail
  have HBV := Lib.hid (HB6.out (.cells #[.int .i64 va, .bool true] 81) (.cells #[.int .i64 vb, .bool true] 81))
  have HKV := Lib.hid (two_kept w2 va vb)
  have hBV0 : Below _ _ _ := Below.refl ((w2.alloc (.cells #[.int .i64 va, .bool true] 81)).alloc (.cells #[.int .i64 vb, .bool true] 81)).heap.size ((w2.alloc (.cells #[.int .i64 va, .bool true] 81)).alloc (.cells #[.int .i64 vb, .bool true] 81))
  have HU := Lib.hid hBV0
  clear hBV0 HB6
  generalize ((w2.alloc (.cells #[.int .i64 va, .bool true] 81)).alloc (.cells #[.int .i64 vb, .bool true] 81)) = V at *
  go_at_call 64
  refine (finite_any _ _ _).mono ?_
  rintro e u0 ⟨rfl, hc0⟩
  have HU0 := Lib.hid (below_then HU.out hc0)
  clear hc0 HU
  have HU := Lib.hid HU0.out
  obtain ⟨d0, d1, d2, d3⟩ := HKV.out _ HU0.out
  clear HU0
  go_wp2_with fail
  clear d0 d1 d2 d3
  go_at_call 64
  refine (finite_any _ _ _).mono ?_
  rintro e u1 ⟨rfl, hc1⟩
  have HU1 := Lib.hid (below_then HU.out hc1)
  clear hc1 HU
  have HU := Lib.hid HU1.out
  obtain ⟨d0, d1, d2, d3⟩ := HKV.out _ HU1.out
  clear HU1
  go_wp2_with fail
  clear d0 d1 d2 d3
  go_ret
  exact ⟨rfl, below_then HBV.out HU.out⟩

theorem down_any (tab : List (List Int)) (v : Value) (s n d : Int) (w : World) (hr : RdR w v tab) :
    Calls Try.prog 20 #[v, .int .i64 s, .int .i64 n, .int .i64 d] w fun e w' => e = .returned (.bool (dnT tab s n d)) ∧ Below w.heap.size w w' := by
  have H : ∀ a b, Hid (∀ W, Below w.heap.size w W → Calls Try.prog 63 #[v, .int .i64 a, .int .i64 b] W fun e w' => e = .returned (.agg #[.int .i64 (entV (ent tab a b)), .bool (ent tab a b).isSome]) ∧ Below W.heap.size W w') := fun a b W hW => elem_any tab v a b W (hr.below hW)
  have H1 := H n d
  have H2 := H s d
  unfold dnT
  rw [← dnV_eq]
  generalize entV (ent tab n d) = va at *
  generalize entV (ent tab s d) = vb at *
  generalize (ent tab n d).isSome = ka at *
  generalize (ent tab s d).isSome = kb at *
  unfold dnV
  clear H
  cases hka : ka
  · exact dn1 v n s d va vb ka kb w hka H1 H2
  · cases hkb : kb
    · exact dn2 v n s d va vb ka kb w hka hkb H1 H2
    · by_cases ha : 0 ≤ va
      · by_cases hb : 0 ≤ vb
        · have := dn5 v n s d va vb ka kb w hka hkb ha hb H1 H2
          rw [decide_eq_true ha, decide_eq_false (show ¬ vb < 0 by omega)]
          exact this
        · have := dn4 v n s d va vb ka kb w hka hkb ha (by omega) H1 H2
          rw [decide_eq_true ha, decide_eq_true (show vb < 0 by omega)]
          exact this
      · have := dn3 v n s d va vb ka kb w hka hkb (by omega) H1 H2
        rw [decide_eq_false ha]
        exact this

end Go.Proofs.Ytmbogobebllheaa
namespace Go.Proofs.Ytmbogobebllheaa
open Go.RowKit HM GM SP
set_option linter.unusedSimpArgs false
set_option linter.unusedVariables false
set_option maxHeartbeats 4000000
set_option maxRecDepth 100000
end Go.Proofs.Ytmbogobebllheaa
namespace Go.Proofs.Ytmbogobebllheaa
set_option maxRecDepth 100000
set_option linter.unusedSimpArgs false
set_option linter.unusedVariables false
open Go.ChangeShapes Go.WideShapes Go.ChangeAt Go.RowKit Go.Joins
section
variable {H : Type} {enc : TypeId × Value → H} {w : World}
end
end Go.Proofs.Ytmbogobebllheaa
namespace Go.Proofs.Ytmbogobebllheaa
open Go.RowKit HM GM SP Go.Lib
set_option linter.unusedSimpArgs false
set_option linter.unusedVariables false
set_option maxHeartbeats 4000000
set_option maxRecDepth 100000
def LvS (w : World) (v : Value) (o : List E) (W : World) : Prop := OwnL w.heap.size W v o ∧ Below w.heap.size w W
theorem LvS.push {w W W2 : World} {v v' : Value} {o : List E} (h : LvS w v o W) (y : E) (ob : Obj) (hown : W2.ownsRow w.heap.size 72 3 v' (o.length + 1) (flatE o ++ encE y)) (hg : (W.alloc ob).grownBy W2 v.ownBlock) : LvS w v' (o ++ [y]) W2 :=
  ⟨OwnL.push (v := v) y hown, (h.2.alloc h.2.size ob).grown hg (by have := h.2.size; simp; omega) (fun k hk => (row_lt h.1 hk).1)⟩
theorem LvS.below {w W W1 : World} {v : Value} {o : List E} (h : LvS w v o W) (hb : Below W.heap.size W W1) : LvS w v o W1 := ⟨row_below h.1 hb, below_then h.2 hb⟩
theorem leav_any (R N : Int) (l : List E) (s : Value) (u : Int) (w : World) (hl : l.length ≤ 1024) (hr : Rd3 w s l) :
    Calls Try.prog 68 #[.agg #[.int .i64 R, .int .i64 N, s], .int .i64 u] w fun e w' => ∃ v, e = .returned v ∧ Rd3 w' v (outs l u) ∧ Below w.heap.size w w' := by
  obtain ⟨i0, hi, hz0, hz1, hz2⟩ := infoE_parts info72
  obtain ⟨ad, cap, rfl, hcap1, hcap2, hc⟩ := hr
  have HC := Lib.hid hc
  obtain ⟨L, hL⟩ : ∃ L, l.length = L := ⟨_, rfl⟩
  rw [hL] at hcap1 hl ⊢
  have HL := Lib.hid hL
  have HS0 : Hid (LvS w (.slice none 0 0) [] (w.alloc (.cells #[.int .i64 R, .int .i64 N, .slice ad L cap] 27))) := ⟨World.ownsRow_nil _ _ _ _, below_alloc _ _⟩
  clear hc hL
  go_enter Try.func68, Try.ntmps68
  go_wp2_with fail
  go_loopg [5, 7, 11] L (fun g s5 s7 s11 wr => ∃ (k : Nat) (v : Value) (o : List E), k ≤ L ∧ o.length ≤ k ∧ L - k ≤ g ∧ v = s5 ∧ (∃ q, q = s7) ∧ s11 = .int .i64 (k : Int) ∧ Hid (o = outs (l.take k) u) ∧ Hid (LvS w v o wr))
  case atStart => exact ⟨0, _, [], by omega, Nat.le_refl _, by omega, rfl, ⟨_, rfl⟩, rfl, by show _ = _; simp [outs], HS0⟩
  case round =>
    clear HS0
    obtain ⟨k, v, o, hk, hok, hg, rfl, ⟨u7, rfl⟩, rfl, HI, HS⟩ := hrel
    by_cases hlt : k < L
    · obtain ⟨e, he⟩ : ∃ y, l[k]? = some y := ⟨_, List.getElem?_eq_getElem (by have := HL.out; omega)⟩
      obtain ⟨bl, off, rfl, hbl, c0, c1, c2⟩ := HC.out k e he
      have d0 := carryB HS.out.2 hbl c0
      have d1 := carryB HS.out.2 hbl c1
      have d2 := carryB HS.out.2 hbl c2
      have k0 : (0 : Int) ≤ (k : Int) := by omega
      have k1 : (k : Int) < (L : Int) := by omega
      have HEe := Lib.hid (outs_take he u)
      obtain ⟨x, y, z⟩ := e
      dsimp only at d0 d1 d2 HEe
      clear c0 c1 c2 he hbl
      have HS1 : Hid (LvS w v o (wr.alloc (.cells #[.int .i64 x, .int .i64 y, .int .i64 z] 72))) := HS.out.below (below_alloc _ _)
      by_cases hx : x = u
      · have HI2 : Hid (o ++ [(x, y, z)] = outs (l.take (k + 1)) u) := by show _ = _; rw [HEe.out, if_pos hx, HI.out]
        subst hx
        clear HEe HI
        go_wp2_with (at_builtin; refine wpList_append_own _ rfl (.tmp 19) (.tmp 21) 25 rfl w.heap.size 72 i0 (.agg #[.int .i64 0, .int .i64 0, .int .i64 0]) 3 24 Try.underlying25 hi hz0 hz1 hz2 rfl (by decide) v o.length (flatE o) rfl (row_below HS1.out.1 (below_alloc _ _)) ⟨wr.heap.size + 1, 0, none⟩ 1 1 (encE (x, y, z)) rfl rfl (cellE_new _ _ _ _ _ (by simp)) (encE_one _) (by unfold maxLen; omega) (by omega) (by have := HS1.out.2.size; simp at this ⊢; omega) ?_; intro v1 w4 hown hgrow hnil; have S2 := Lib.hid (HS1.out.push (x, y, z) _ hown hgrow); clear hown hgrow hnil)
        go_roundg (L - (k + 1))
        case measure => omega
        case rel => exact ⟨k + 1, _, _, by omega, by simp; omega, Nat.le_refl _, rfl, ⟨_, rfl⟩, by go_num, HI2, S2⟩
      · have HI2 : Hid (o = outs (l.take (k + 1)) u) := by show _ = _; rw [HEe.out, if_neg hx, HI.out]
        have hx2 : (x == u) = false := by simpa using hx
        clear HEe HI hx
        go_wp2_with fail
        go_roundg (L - (k + 1))
        case measure => omega
        case rel => exact ⟨k + 1, _, _, by omega, by omega, Nat.le_refl _, rfl, ⟨_, rfl⟩, by go_num, HI2, HS1⟩
    · have k1 : decide ((k : Int) < (L : Int)) = false := decide_eq_false (by omega)
      have HF : Hid (Rd3 wr v (outs l u)) := by
        have := HI.out
        rw [List.take_of_length_le (by have := HL.out; omega)] at this
        rw [← this]
        exact rd3_own HS.out.1
      have HB := Lib.hid HS.out.2
      clear HS
      go_wp2
      go_ret
      exact ⟨_, rfl, HF.out, HB.out⟩
end Go.Proofs.Ytmbogobebllheaa
namespace Go.Proofs.Ytmbogobebllheaa
open Go.RowKit HM GM SP
set_option linter.unusedSimpArgs false
set_option linter.unusedVariables false
set_option maxHeartbeats 4000000
set_option maxRecDepth 100000
theorem allRow_len (l : List E) (r i : Nat) : (allRow l r i).length = r := by simp [allRow]
theorem allRow_get {l : List E} {r i k : Nat} (hk : k < r) : (allRow l r i)[k]? = some (T l (i : Int) (k : Int)) := by simp [allRow, hk]
theorem dist_allRow {r : Nat} {l : List E} {x : Nat} {t : Tre} (h : IsTre (r : Int) 0 l (x : Int) t) : t.dist = allRow l r x := by
  obtain ⟨n, hn, _, ht⟩ := h
  obtain rfl : n = r := by omega
  have := tree_take ht (Nat.le_refl n)
  rw [List.take_of_length_le (by rw [ht.ld]; exact Nat.le_refl _)] at this
  exact this
/-- a tree's distances in memory -/
def RunD (r : Nat) (l : List E) (x : Nat) (w : World) (e : Ending) (w' : World) : Prop := ∃ D o c ah nh ch ap np cp, e = .returned (.tuple #[.agg #[.int .i64 (x : Int), .slice (some ⟨D, o, none⟩) r c, .slice ah nh ch, .slice ap np cp], .int .i64 0]) ∧ (D < w'.heap.size ∧ r ≤ c ∧ ∀ k, k < r → w'.cell? ⟨D, o + k, none⟩ = some (.int .i64 (T l (x : Int) (k : Int)))) ∧ Below w.heap.size w w'
theorem RdI.cells'' {w : World} {v : Value} {l : List Int} {n : Nat} (h : RdI w v l) (hl : l.length = n) (h0 : 0 < n) : ∃ b o cap, v = .slice (some ⟨b, o, none⟩) n cap ∧ n ≤ cap ∧ b < w.heap.size ∧ ∀ k x, l[k]? = some x → w.cell? ⟨b, o + k, none⟩ = some (.int .i64 x) := by
  obtain ⟨ad, cap, rfl, h1, h2, hc⟩ := h
  obtain ⟨b, o, rfl, hb, _⟩ := hc 0 _ (List.getElem?_eq_getElem (by omega))
  refine ⟨b, o, cap, by rw [hl], by omega, hb, fun k x hk => ?_⟩
  obtain ⟨b', o', e, _, c⟩ := hc k x hk
  cases e; exact c
theorem run_dist (r : Nat) (l : List E) (s : Value) (x : Nat) (w : World) (hv : Valid (r : Int) 0 l) (hr : Rd3 w s l) (hx : x < r) :
    Calls Try.prog 59 #[.agg #[.int .i64 (r : Int), .int .i64 0, s], .int .i64 (x : Int)] w (RunD r l x w) := by
  have hS := hv.s
  refine (run_any (r : Int) 0 l s (x : Int) w (by unfold I64; omega) (by unfold I64; omega) hr).mono ?_
  rintro e w' ⟨t, er, tv, rfl, ht, hq, hb⟩
  have hc := chk_iff.2 hv
  rcases hq with ⟨a, _⟩ | ⟨_, a, _⟩ | ⟨_, _, rfl, hi⟩
  · exact absurd hc a
  · exact absurd ⟨by omega, by omega⟩ a
  · obtain ⟨d, h, p, rfl, r1, r2, r3⟩ := ht
    rw [dist_allRow hi] at r1
    obtain ⟨_, _, hroot, _⟩ := hi
    rw [hroot]
    obtain ⟨a2, c2, rfl⟩ := r2.form
    obtain ⟨a3, c3, rfl⟩ := r3.form
    obtain ⟨D, o, c, rfl, h1, h2, h3⟩ := RdI.cells'' r1 (allRow_len l r x) (by omega)
    refine ⟨D, o, c, _, _, _, _, _, _, rfl, ⟨h2, h1, fun k hk => ?_⟩, hb⟩
    exact h3 k _ (allRow_get hk)
theorem insS_nil (w : World) : InsS w (.slice none 0 0) [] w := ⟨World.ownsRow_nil _ _ _ _, Below.refl _ _⟩
theorem closer_any (r : Nat) (l : List E) (s : Value) (a b : Nat) (c : Int) (w : World) (hv : Valid (r : Int) 0 l) (hr : Rd3 w s l) (ha : a < r) (hb : b < r) (hc : 0 ≤ c ∧ c ≤ 65535) :
    Calls Try.prog 74 #[.agg #[.int .i64 (r : Int), .int .i64 0, s], .int .i64 (a : Int), .int .i64 (b : Int), .int .i64 c] w fun e w' => ∃ v, e = .returned (.tuple #[v, .int .i64 0]) ∧ RdI w' v (rowF r (spB (T l) (a : Int) (b : Int) c)) ∧ Below w.heap.size w w' := by
  have HRun : Hid (∀ x W, x < r → Below w.heap.size w W → Calls Try.prog 59 #[.agg #[.int .i64 (r : Int), .int .i64 0, s], .int .i64 (x : Int)] W (RunD r l x W)) := fun x W hx hW => run_dist r l s x W hv (hr.below hW) hx
  have HSM : Hid (∀ k : Nat, k < r → ∀ i : Nat, i < r → T l (k : Int) (i : Int) ≤ 65535 * 129) := fun k hk i hi => by
    by_cases h : 0 ≤ T l (k : Int) (i : Int)
    · have hS := hv.s
      have := T_small hv (n := r) (by omega) (i := (k : Int)) (k := (i : Int)) (by omega) h
      omega
    · omega
  have hS := hv.s
  have hr8 : r ≤ 128 := by omega
  obtain ⟨i0, hi, hz0, hz1, hz2⟩ := info_parts info3
  obtain ⟨c0, c1⟩ := hc
  obtain ⟨ad, cap, hform⟩ := rd3_slice hr
  obtain ⟨L, hL⟩ : ∃ L, l.length = L := ⟨_, rfl⟩
  rw [hL] at hform
  subst hform
  have HB0 := Lib.hid (below_alloc w (.cells #[.int .i64 (r : Int), .int .i64 0, .slice ad L cap] 27))
  have HX0 : Hid ((w.alloc (.cells #[.int .i64 (r : Int), .int .i64 0, .slice ad L cap] 27)).heap[w.heap.size]? = some (.cells #[.int .i64 (r : Int), .int .i64 0, .slice ad L cap] 27 (0, 0))) := heap_alloc_new _ _
  clear hr hL hv hS
  go_enter Try.func74, Try.ntmps74
  go_wp2_with fail
  go_at_call 59
  refine (HRun.out a _ ha HB0.out).mono ?_
  rintro e w1 ⟨D, o, cc, ah, nh, ch, ap, np, cp, rfl, hD, hb1⟩
  have HB1 := Lib.hid (below_then HB0.out hb1)
  have HX1 := Lib.hid ((hb1.block _ (lt_block HX0.out)).trans HX0.out)
  have HD := Lib.hid hD
  have q0 : ∀ ob, (w1.alloc ob).cell? ⟨w.heap.size, 0, none⟩ = some (.int .i64 (r : Int)) := fun ob => carry (below_alloc _ _) (cell_of HX1.out rfl)
  have q1 : ∀ ob, (w1.alloc ob).cell? ⟨w.heap.size, 1, none⟩ = some (.int .i64 0) := fun ob => carry (below_alloc _ _) (cell_of HX1.out rfl)
  have q2 : ∀ ob, (w1.alloc ob).cell? ⟨w.heap.size, 2, none⟩ = some (.slice ad L cap) := fun ob => carry (below_alloc _ _) (cell_of HX1.out rfl)
  clear hb1 hD HB0 HX0
  go_wp2_with fail
  clear q0 q1 q2
  have HBT := Lib.hid (below_then HB1.out (below_alloc w1 (.cells #[.int .i64 (a : Int), .slice (some ⟨D, o, none⟩) r cc, .slice ah nh ch, .slice ap np cp] 74)))
  have HXT : Hid ((w1.alloc (.cells #[.int .i64 (a : Int), .slice (some ⟨D, o, none⟩) r cc, .slice ah nh ch, .slice ap np cp] 74)).heap[w1.heap.size]? = some (.cells #[.int .i64 (a : Int), .slice (some ⟨D, o, none⟩) r cc, .slice ah nh ch, .slice ap np cp] 74 (0, 0))) := heap_alloc_new _ _
  have HDV : Hid (Below w1.heap.size w1 (w1.alloc (.cells #[.int .i64 (a : Int), .slice (some ⟨D, o, none⟩) r cc, .slice ah nh ch, .slice ap np cp] 74))) := below_alloc _ _
  generalize w1.alloc (.cells #[.int .i64 (a : Int), .slice (some ⟨D, o, none⟩) r cc, .slice ah nh ch, .slice ap np cp] 74) = V1 at *
  refine (HRun.out b _ hb HBT.out).mono ?_
  rintro e w2 ⟨D2, o2, cc2, ah2, nh2, ch2, ap2, np2, cp2, rfl, hD2, hb2⟩
  have HB2 := Lib.hid (below_then HBT.out hb2)
  have HX2 := Lib.hid ((hb2.block _ (lt_block HXT.out)).trans HXT.out)
  have HD1 := Lib.hid (below_then HDV.out hb2)
  have HD2 := Lib.hid hD2
  clear hb2 hD2 HXT HDV HBT HX1 HB1 HRun
  have q0 : ∀ ob, (w2.alloc ob).cell? ⟨w1.heap.size, 1, none⟩ = some (.slice (some ⟨D, o, none⟩) r cc) := fun _ => carry (below_alloc _ _) (cell_of HX2.out rfl)
  go_wp2_with fail
  clear q0
  have HBV := Lib.hid (below_then HB2.out (below_alloc w2 (.cells #[.int .i64 (b : Int), .slice (some ⟨D2, o2, none⟩) r cc2, .slice ah2 nh2 ch2, .slice ap2 np2 cp2] 74)))
  have HXV : Hid ((w2.alloc (.cells #[.int .i64 (b : Int), .slice (some ⟨D2, o2, none⟩) r cc2, .slice ah2 nh2 ch2, .slice ap2 np2 cp2] 74)).heap[w2.heap.size]? = some (.cells #[.int .i64 (b : Int), .slice (some ⟨D2, o2, none⟩) r cc2, .slice ah2 nh2 ch2, .slice ap2 np2 cp2] 74 (0, 0))) := heap_alloc_new _ _
  have HE1 := Lib.hid (below_then HD1.out (below_alloc w2 (.cells #[.int .i64 (b : Int), .slice (some ⟨D2, o2, none⟩) r cc2, .slice ah2 nh2 ch2, .slice ap2 np2 cp2] 74)))
  have HE2 : Hid (Below w2.heap.size w2 (w2.alloc (.cells #[.int .i64 (b : Int), .slice (some ⟨D2, o2, none⟩) r cc2, .slice ah2 nh2 ch2, .slice ap2 np2 cp2] 74))) := below_alloc _ _
  clear HB2 HD1 HX2
  generalize w2.alloc (.cells #[.int .i64 (b : Int), .slice (some ⟨D2, o2, none⟩) r cc2, .slice ah2 nh2 ch2, .slice ap2 np2 cp2] 74) = V at *
  have HO0 : Hid (rowF 0 (spB (T l) (a : Int) (b : Int) c) = []) := rfl
  have HS0 : Hid (InsS V (.slice none 0 0) [] V) := insS_nil V
  go_loopg [13, 14, 15, 16, 38] r (fun g s13 s14 s15 s16 s38 wr => ∃ (y : Nat) (v13 : Value) (o13 : List Int), y ≤ r ∧ r - y ≤ g ∧ v13 = s13 ∧ (∃ q, q = s14) ∧ (∃ q, q = s15) ∧ (∃ q, q = s16) ∧ s38 = .int .i64 (y : Int) ∧ Hid (rowF y (spB (T l) (a : Int) (b : Int) c) = o13) ∧ Hid (InsS V v13 o13 wr))
  case atStart => exact ⟨0, _, [], by omega, by omega, rfl, ⟨_, rfl⟩, ⟨_, rfl⟩, ⟨_, rfl⟩, rfl, HO0, HS0⟩
  case round =>
    clear HO0 HS0
    obtain ⟨y, v13, o13, hy, hyg, rfl, ⟨u14, rfl⟩, ⟨u15, rfl⟩, ⟨u16, rfl⟩, rfl, HO, HS⟩ := hrel
    by_cases hyl : y < r
    · have y0 : (0 : Int) ≤ (y : Int) := by omega
      have y1 : (y : Int) < (r : Int) := by omega
      have d1 := carry (below_then HE1.out HS.out.2) (HD.out.2.2 y hyl)
      have d2 := carry (below_then HE2.out HS.out.2) (HD2.out.2.2 y hyl)
      have d3 : wr.cell? ⟨w2.heap.size, 1, none⟩ = some (.slice (some ⟨D2, o2, none⟩) r cc2) := carry HS.out.2 (cell_of HXV.out rfl)
      have hs1 := HSM.out b hb y hyl
      have HLen : Hid (o13.length ≤ y) := by have h1 := rowF_len y (spB (T l) (a : Int) (b : Int) c); have h2 := HO.out; rw [h2] at h1; exact h1
      obtain ⟨t1, ht1⟩ : ∃ t, T l (a : Int) (y : Int) = t := ⟨_, rfl⟩
      obtain ⟨t2, ht2⟩ : ∃ t, T l (b : Int) (y : Int) = t := ⟨_, rfl⟩
      rw [ht1] at d1
      rw [ht2] at d2 hs1
      have HT1 := Lib.hid ht1
      have HT2 := Lib.hid ht2
      clear ht1 ht2
      by_cases h1 : 0 ≤ t1
      · have k1 : decide (0 ≤ t1) = true := decide_eq_true h1
        by_cases h2 : t2 < 0
        · have k2 : decide (t2 < 0) = true := decide_eq_true h2
          have HN : Hid (rowF (y + 1) (spB (T l) (a : Int) (b : Int) c) = o13 ++ [(y : Int)]) := by
            show _ = _
            rw [rowF_succ, if_pos (by unfold spB; rw [HT1.out, HT2.out]; simp; omega), HO.out]
          go_wp2_with (at_builtin; refine wpList_append_own _ rfl (.tmp 61) (.tmp 63) 35 rfl V.heap.size 3 i0 (.int .i64 0) 1 8 Try.underlying35 hi hz0 hz1 hz2 rfl (by decide) v13 o13.length (ints o13) rfl (row_below HS.out.1 (below_alloc _ _)) ⟨wr.heap.size, 0, none⟩ 1 1 [.int .i64 (y : Int)] rfl rfl (cellI_new _ _ _ rfl) (one_int _) (by have := HLen.out; unfold maxLen; omega) (by have := HLen.out; omega) (by have := HS.out.2.size; simp; omega) ?_; intro v1 w4 hown hgrow hnil; have S2 := Lib.hid (HS.out.push (y : Int) _ hown hgrow); clear hown hgrow hnil)
          go_roundg (r - (y + 1))
          case measure => omega
          case rel => exact ⟨y + 1, _, o13 ++ [(y : Int)], by omega, Nat.le_refl _, rfl, ⟨_, rfl⟩, ⟨_, rfl⟩, ⟨_, rfl⟩, by go_num, HN, S2⟩
        · have k2 : decide (t2 < 0) = false := decide_eq_false h2
          by_cases h3 : t1 < c + t2
          · have k3 : decide (t1 < c + t2) = true := decide_eq_true h3
            have HN : Hid (rowF (y + 1) (spB (T l) (a : Int) (b : Int) c) = o13 ++ [(y : Int)]) := by
              show _ = _
              rw [rowF_succ, if_pos (by unfold spB; rw [HT1.out, HT2.out]; simp; omega), HO.out]
            go_wp2_with (at_builtin; refine wpList_append_own _ rfl (.tmp 61) (.tmp 63) 35 rfl V.heap.size 3 i0 (.int .i64 0) 1 8 Try.underlying35 hi hz0 hz1 hz2 rfl (by decide) v13 o13.length (ints o13) rfl (row_below HS.out.1 (below_alloc _ _)) ⟨wr.heap.size, 0, none⟩ 1 1 [.int .i64 (y : Int)] rfl rfl (cellI_new _ _ _ rfl) (one_int _) (by have := HLen.out; unfold maxLen; omega) (by have := HLen.out; omega) (by have := HS.out.2.size; simp; omega) ?_; intro v1 w4 hown hgrow hnil; have S2 := Lib.hid (HS.out.push (y : Int) _ hown hgrow); clear hown hgrow hnil)
            go_roundg (r - (y + 1))
            case measure => omega
            case rel => exact ⟨y + 1, _, o13 ++ [(y : Int)], by omega, Nat.le_refl _, rfl, ⟨_, rfl⟩, ⟨_, rfl⟩, ⟨_, rfl⟩, by go_num, HN, S2⟩
          · have k3 : decide (t1 < c + t2) = false := decide_eq_false h3
            have HN : Hid (rowF (y + 1) (spB (T l) (a : Int) (b : Int) c) = o13) := by
              show _ = _
              rw [rowF_succ, if_neg (by unfold spB; rw [HT1.out, HT2.out]; simp; omega), HO.out]; simp
            go_wp2_with fail
            go_roundg (r - (y + 1))
            case measure => omega
            case rel => exact ⟨y + 1, _, o13, by omega, Nat.le_refl _, rfl, ⟨_, rfl⟩, ⟨_, rfl⟩, ⟨_, rfl⟩, by go_num, HN, HS⟩
      · have k1 : decide (0 ≤ t1) = false := decide_eq_false h1
        have HN : Hid (rowF (y + 1) (spB (T l) (a : Int) (b : Int) c) = o13) := by
          show _ = _
          rw [rowF_succ, if_neg (by unfold spB; rw [HT1.out, HT2.out]; simp; omega), HO.out]; simp
        go_wp2_with fail
        go_roundg (r - (y + 1))
        case measure => omega
        case rel => exact ⟨y + 1, _, o13, by omega, Nat.le_refl _, rfl, ⟨_, rfl⟩, ⟨_, rfl⟩, ⟨_, rfl⟩, by go_num, HN, HS⟩
    · have k1 : decide ((y : Int) < (r : Int)) = false := decide_eq_false (by omega)
      have HIR : Hid (y = r) := by show _ = _; omega
      have HF : Hid (RdI wr v13 (rowF r (spB (T l) (a : Int) (b : Int) c))) := by have := HO.out; rw [HIR.out] at this; rw [this]; exact rdI_own HS.out.1
      have HBF := Lib.hid (below_then HBV.out HS.out.2)
      clear HS HIR HO
      go_wp2
      go_ret2
      exact ⟨_, rfl, HF.out, HBF.out⟩
end Go.Proofs.Ytmbogobebllheaa
namespace Go.Proofs.Ytmbogobebllheaa
open Go.RowKit HM GM SP
set_option linter.unusedSimpArgs false
set_option linter.unusedVariables false
set_option maxHeartbeats 4000000
set_option maxRecDepth 100000
/-- the first error of a graph without networks -/
def roE (R N : Int) (l : List E) : Int := if chk R N l ≠ 0 then chk R N l else if 0 < N then 15 else 0
theorem ro_any (R N : Int) (l : List E) (s : Value) (w : World) (hR : I64 R) (hN : I64 N) (hr : Rd3 w s l) :
    Calls Try.prog 66 #[.agg #[.int .i64 R, .int .i64 N, s]] w fun e w' => e = .returned (.int .i64 (roE R N l)) ∧ Below w.heap.size w w' := by
  have HCK : Hid (∀ W, Below w.heap.size w W → Calls Try.prog 57 #[.agg #[.int .i64 R, .int .i64 N, s]] W fun e w' => e = .returned (.int .i64 (chk R N l)) ∧ Below W.heap.size W w') := fun W hW => check_any R N s l W hR hN (hr.below hW)
  have HE : Hid (roE R N l = if chk R N l ≠ 0 then chk R N l else if 0 < N then 15 else 0) := rfl
  obtain ⟨ad, cap, hform⟩ := rd3_slice hr
  obtain ⟨L, hL⟩ : ∃ L, l.length = L := ⟨_, rfl⟩
  rw [hL] at hform
  subst hform
  generalize roE R N l = re at *
  generalize chk R N l = c at *
  have HB := Lib.hid (below_alloc w (.cells #[.int .i64 R, .int .i64 N, .slice ad L cap] 27))
  have HBX : Hid ((w.alloc (.cells #[.int .i64 R, .int .i64 N, .slice ad L cap] 27)).heap[w.heap.size]? = some (.cells #[.int .i64 R, .int .i64 N, .slice ad L cap] 27 (0, 0))) := heap_alloc_new _ _
  clear hr hL
  by_cases hc : c = 0
  · subst hc
    by_cases hn : 0 < N
    · have HE2 : Hid (re = 15) := by have := HE.out; rw [if_neg (by omega), if_pos hn] at this; exact this
      clear HE
      go_enter Try.func66, Try.ntmps66
      go_wp2_with fail
      go_at_call 57
      refine (HCK.out _ HB.out).mono ?_
      rintro e w1 ⟨rfl, hb1⟩
      have HB1 := Lib.hid (below_then HB.out hb1)
      have hbx := (hb1.block _ (lt_block HBX.out)).trans HBX.out
      have q1 : w1.cell? ⟨w.heap.size, 1, none⟩ = some (.int .i64 N) := cell_of hbx rfl
      clear hb1 hbx HB HBX HCK
      go_wp2
      go_ret
      exact ⟨by rw [HE2.out]; rfl, HB1.out⟩
    · have HE2 : Hid (re = 0) := by have := HE.out; rw [if_neg (by omega), if_neg hn] at this; exact this
      clear HE
      have hn2 : decide (0 < N) = false := decide_eq_false hn
      go_enter Try.func66, Try.ntmps66
      go_wp2_with fail
      go_at_call 57
      refine (HCK.out _ HB.out).mono ?_
      rintro e w1 ⟨rfl, hb1⟩
      have HB1 := Lib.hid (below_then HB.out hb1)
      have hbx := (hb1.block _ (lt_block HBX.out)).trans HBX.out
      have q1 : w1.cell? ⟨w.heap.size, 1, none⟩ = some (.int .i64 N) := cell_of hbx rfl
      clear hb1 hbx HB HBX HCK
      go_wp2
      go_ret
      exact ⟨by rw [HE2.out]; rfl, HB1.out⟩
  · have HE2 : Hid (re = c) := by have := HE.out; rw [if_pos hc] at this; exact this
    have hb : (c != 0) = true := by simpa using hc
    clear HE hc
    go_enter Try.func66, Try.ntmps66
    go_wp2_with fail
    go_at_call 57
    refine (HCK.out _ HB.out).mono ?_
    rintro e w1 ⟨rfl, hb1⟩
    have HB1 := Lib.hid (below_then HB.out hb1)
    clear hb1 HB HBX HCK
    go_wp2
    go_ret
    exact ⟨by rw [HE2.out]; rfl, HB1.out⟩
theorem isr_any (R N x : Int) (s : Value) (w : World) :
    Calls Try.prog 78 #[.agg #[.int .i64 R, .int .i64 N, s], .int .i64 x] w fun e w' => e = .returned (.bool (decide (0 ≤ x ∧ x < R))) ∧ Below w.heap.size w w' := by
  have HB := Lib.hid (below_alloc w (.cells #[.int .i64 R, .int .i64 N, s] 27))
  by_cases h0 : 0 ≤ x
  · by_cases h1 : x < R
    · have HD : Hid (decide (0 ≤ x ∧ x < R) = true) := decide_eq_true ⟨h0, h1⟩
      go_enter Try.func78, Try.ntmps78
      go_wp2
      go_ret
      exact ⟨by first | rfl | (rw [HD.out]; rfl), HB.out⟩
    · have HD : Hid (decide (0 ≤ x ∧ x < R) = false) := decide_eq_false (fun h => h1 h.2)
      have h2 : decide (x < R) = false := decide_eq_false h1
      go_enter Try.func78, Try.ntmps78
      go_wp2
      go_ret
      exact ⟨by first | rfl | (rw [HD.out]; rfl), HB.out⟩
  · have HD : Hid (decide (0 ≤ x ∧ x < R) = false) := decide_eq_false (fun h => h0 h.1)
    have h2 : decide (0 ≤ x) = false := decide_eq_false h0
    go_enter Try.func78, Try.ntmps78
    go_wp2
    go_ret
    exact ⟨by first | rfl | (rw [HD.out]; rfl), HB.out⟩
/-- the first error of P13.3, and the cost of the link -/
def lkE (R N : Int) (l : List E) (s e : Int) : Int := if roE R N l ≠ 0 then roE R N l else if ¬ ((0 ≤ s ∧ s < R) ∧ (0 ≤ e ∧ e < R)) then 5 else if (cstF s e l).2 = false then 6 else 0
def lkC (R N : Int) (l : List E) (s e : Int) : Int := if lkE R N l s e = 0 then (cstF s e l).1 else 0
theorem lkE_ok {R N : Int} {l : List E} {s e : Int} (h : lkE R N l s e = 0) : chk R N l = 0 ∧ N = 0 ∧ (0 ≤ s ∧ s < R) ∧ (0 ≤ e ∧ e < R) ∧ (cstF s e l).2 = true := by
  unfold lkE at h
  by_cases h1 : roE R N l ≠ 0
  · rw [if_pos h1] at h; omega
  · rw [if_neg h1] at h
    by_cases h2 : ¬ ((0 ≤ s ∧ s < R) ∧ (0 ≤ e ∧ e < R))
    · rw [if_pos h2] at h; omega
    · rw [if_neg h2] at h
      by_cases h3 : (cstF s e l).2 = false
      · rw [if_pos h3] at h; omega
      · have h4 : chk R N l = 0 ∧ ¬ 0 < N := by
          unfold roE at h1
          by_cases h5 : chk R N l ≠ 0
          · rw [if_pos h5] at h1; exact absurd h5 h1
          · rw [if_neg h5] at h1
            by_cases h6 : 0 < N
            · rw [if_pos h6] at h1; omega
            · exact ⟨by omega, h6⟩
        have h5 := (chk_iff.1 h4.1).n
        exact ⟨h4.1, by omega, Classical.not_not.1 h2 |>.1, Classical.not_not.1 h2 |>.2, by simpa using h3⟩
theorem lk1 (R N : Int) (l : List E) (s : Value) (x y : Int) (w : World) (hR : I64 R) (hN : I64 N) (hr : Rd3 w s l) (h : roE R N l ≠ 0) :
    Calls Try.prog 73 #[.agg #[.int .i64 R, .int .i64 N, s], .int .i64 x, .int .i64 y] w fun e w' => e = .returned (.tuple #[.int .i64 (lkC R N l x y), .int .i64 (lkE R N l x y)]) ∧ Below w.heap.size w w' := by
  have HRO : Hid (∀ W, Below w.heap.size w W → Calls Try.prog 66 #[.agg #[.int .i64 R, .int .i64 N, s]] W fun e w' => e = .returned (.int .i64 (roE R N l)) ∧ Below W.heap.size W w') := fun W hW => ro_any R N l s W hR hN (hr.below hW)
  have HCO : Hid (∀ W, Below w.heap.size w W → Calls Try.prog 114 #[.agg #[.int .i64 R, .int .i64 N, s], .int .i64 x, .int .i64 y] W fun e w' => e = .returned (.tuple #[.int .i64 (cstF x y l).1, .bool (cstF x y l).2]) ∧ Below W.heap.size W w') := fun W hW => cost_any R N x y l s W (hr.below hW)
  have HE : Hid (lkE R N l x y = roE R N l) := by show _ = _; unfold lkE; rw [if_pos h]
  have HC : Hid (lkC R N l x y = 0) := by show _ = _; unfold lkC; rw [HE.out, if_neg h]
  rw [HE.out, HC.out]
  obtain ⟨ad, cap, hform⟩ := rd3_slice hr
  obtain ⟨L, hL⟩ : ∃ L, l.length = L := ⟨_, rfl⟩
  rw [hL] at hform
  subst hform
  have HB := Lib.hid (below_alloc w (.cells #[.int .i64 R, .int .i64 N, .slice ad L cap] 27))
  have HBX : Hid ((w.alloc (.cells #[.int .i64 R, .int .i64 N, .slice ad L cap] 27)).heap[w.heap.size]? = some (.cells #[.int .i64 R, .int .i64 N, .slice ad L cap] 27 (0, 0))) := heap_alloc_new _ _
  clear hr hL
  generalize roE R N l = c at *
  have hb0 : (c != 0) = true := by simpa using h
  clear h HE HC
  have HX0 := HBX
  have HB0 := HB
  go_enter Try.func73, Try.ntmps73
  go_wp2_with fail
  go_at_call 66
  refine (HRO.out _ HB0.out).mono ?_
  rintro e w1 ⟨rfl, hb⟩
  have HB1 := Lib.hid (below_then HB0.out hb)
  have HX1 := Lib.hid ((hb.block _ (lt_block HX0.out)).trans HX0.out)
  have q0 : w1.cell? ⟨w.heap.size, 0, none⟩ = some (.int .i64 R) := cell_of HX1.out rfl
  have q1 : w1.cell? ⟨w.heap.size, 1, none⟩ = some (.int .i64 N) := cell_of HX1.out rfl
  have q2 : w1.cell? ⟨w.heap.size, 2, none⟩ = some (.slice ad L cap) := cell_of HX1.out rfl
  clear hb
  go_wp2_with fail
  clear q0 q1 q2
  go_ret2
  exact ⟨rfl, HB1.out⟩

theorem lk2 (R N : Int) (l : List E) (s : Value) (x y : Int) (w : World) (hR : I64 R) (hN : I64 N) (hr : Rd3 w s l) (h : roE R N l = 0) (h2 : ¬ (0 ≤ x ∧ x < R)) :
    Calls Try.prog 73 #[.agg #[.int .i64 R, .int .i64 N, s], .int .i64 x, .int .i64 y] w fun e w' => e = .returned (.tuple #[.int .i64 (lkC R N l x y), .int .i64 (lkE R N l x y)]) ∧ Below w.heap.size w w' := by
  have HRO : Hid (∀ W, Below w.heap.size w W → Calls Try.prog 66 #[.agg #[.int .i64 R, .int .i64 N, s]] W fun e w' => e = .returned (.int .i64 (roE R N l)) ∧ Below W.heap.size W w') := fun W hW => ro_any R N l s W hR hN (hr.below hW)
  have HCO : Hid (∀ W, Below w.heap.size w W → Calls Try.prog 114 #[.agg #[.int .i64 R, .int .i64 N, s], .int .i64 x, .int .i64 y] W fun e w' => e = .returned (.tuple #[.int .i64 (cstF x y l).1, .bool (cstF x y l).2]) ∧ Below W.heap.size W w') := fun W hW => cost_any R N x y l s W (hr.below hW)
  have HE : Hid (lkE R N l x y = 5) := by show _ = _; unfold lkE; rw [if_neg (by omega), if_pos (fun k => h2 k.1)]
  have HC : Hid (lkC R N l x y = 0) := by show _ = _; unfold lkC; rw [HE.out, if_neg (by omega)]
  rw [HE.out, HC.out]
  obtain ⟨ad, cap, hform⟩ := rd3_slice hr
  obtain ⟨L, hL⟩ : ∃ L, l.length = L := ⟨_, rfl⟩
  rw [hL] at hform
  subst hform
  have HB := Lib.hid (below_alloc w (.cells #[.int .i64 R, .int .i64 N, .slice ad L cap] 27))
  have HBX : Hid ((w.alloc (.cells #[.int .i64 R, .int .i64 N, .slice ad L cap] 27)).heap[w.heap.size]? = some (.cells #[.int .i64 R, .int .i64 N, .slice ad L cap] 27 (0, 0))) := heap_alloc_new _ _
  clear hr hL
  rw [h] at HRO
  have HIx : Hid (decide (0 ≤ x ∧ x < R) = false) := decide_eq_false h2
  clear h h2 HE HC
  have HX0 := HBX
  have HB0 := HB
  go_enter Try.func73, Try.ntmps73
  go_wp2_with fail
  go_at_call 66
  refine (HRO.out _ HB0.out).mono ?_
  rintro e w1 ⟨rfl, hb⟩
  have HB1 := Lib.hid (below_then HB0.out hb)
  have HX1 := Lib.hid ((hb.block _ (lt_block HX0.out)).trans HX0.out)
  have q0 : w1.cell? ⟨w.heap.size, 0, none⟩ = some (.int .i64 R) := cell_of HX1.out rfl
  have q1 : w1.cell? ⟨w.heap.size, 1, none⟩ = some (.int .i64 N) := cell_of HX1.out rfl
  have q2 : w1.cell? ⟨w.heap.size, 2, none⟩ = some (.slice ad L cap) := cell_of HX1.out rfl
  clear hb
  go_wp2_with fail
  clear q0 q1 q2
  go_at_call 78
  refine (isr_any R N x _ w1).mono ?_
  rintro e w2 ⟨rfl, hb⟩
  have HB2 := Lib.hid (below_then HB1.out hb)
  have HX2 := Lib.hid ((hb.block _ (lt_block HX1.out)).trans HX1.out)
  have q0 : w2.cell? ⟨w.heap.size, 0, none⟩ = some (.int .i64 R) := cell_of HX2.out rfl
  have q1 : w2.cell? ⟨w.heap.size, 1, none⟩ = some (.int .i64 N) := cell_of HX2.out rfl
  have q2 : w2.cell? ⟨w.heap.size, 2, none⟩ = some (.slice ad L cap) := cell_of HX2.out rfl
  clear hb
  simp only [HIx.out]
  go_wp2_with fail
  clear q0 q1 q2
  go_ret2
  exact ⟨rfl, HB2.out⟩

theorem lk3 (R N : Int) (l : List E) (s : Value) (x y : Int) (w : World) (hR : I64 R) (hN : I64 N) (hr : Rd3 w s l) (h : roE R N l = 0) (h2 : 0 ≤ x ∧ x < R) (h3 : ¬ (0 ≤ y ∧ y < R)) :
    Calls Try.prog 73 #[.agg #[.int .i64 R, .int .i64 N, s], .int .i64 x, .int .i64 y] w fun e w' => e = .returned (.tuple #[.int .i64 (lkC R N l x y), .int .i64 (lkE R N l x y)]) ∧ Below w.heap.size w w' := by
  have HRO : Hid (∀ W, Below w.heap.size w W → Calls Try.prog 66 #[.agg #[.int .i64 R, .int .i64 N, s]] W fun e w' => e = .returned (.int .i64 (roE R N l)) ∧ Below W.heap.size W w') := fun W hW => ro_any R N l s W hR hN (hr.below hW)
  have HCO : Hid (∀ W, Below w.heap.size w W → Calls Try.prog 114 #[.agg #[.int .i64 R, .int .i64 N, s], .int .i64 x, .int .i64 y] W fun e w' => e = .returned (.tuple #[.int .i64 (cstF x y l).1, .bool (cstF x y l).2]) ∧ Below W.heap.size W w') := fun W hW => cost_any R N x y l s W (hr.below hW)
  have HE : Hid (lkE R N l x y = 5) := by show _ = _; unfold lkE; rw [if_neg (by omega), if_pos (fun k => h3 k.2)]
  have HC : Hid (lkC R N l x y = 0) := by show _ = _; unfold lkC; rw [HE.out, if_neg (by omega)]
  rw [HE.out, HC.out]
  obtain ⟨ad, cap, hform⟩ := rd3_slice hr
  obtain ⟨L, hL⟩ : ∃ L, l.length = L := ⟨_, rfl⟩
  rw [hL] at hform
  subst hform
  have HB := Lib.hid (below_alloc w (.cells #[.int .i64 R, .int .i64 N, .slice ad L cap] 27))
  have HBX : Hid ((w.alloc (.cells #[.int .i64 R, .int .i64 N, .slice ad L cap] 27)).heap[w.heap.size]? = some (.cells #[.int .i64 R, .int .i64 N, .slice ad L cap] 27 (0, 0))) := heap_alloc_new _ _
  clear hr hL
  rw [h] at HRO
  have HIx : Hid (decide (0 ≤ x ∧ x < R) = true) := decide_eq_true h2
  have HIy : Hid (decide (0 ≤ y ∧ y < R) = false) := decide_eq_false h3
  clear h h2 h3 HE HC
  have HX0 := HBX
  have HB0 := HB
  go_enter Try.func73, Try.ntmps73
  go_wp2_with fail
  go_at_call 66
  refine (HRO.out _ HB0.out).mono ?_
  rintro e w1 ⟨rfl, hb⟩
  have HB1 := Lib.hid (below_then HB0.out hb)
  have HX1 := Lib.hid ((hb.block _ (lt_block HX0.out)).trans HX0.out)
  have q0 : w1.cell? ⟨w.heap.size, 0, none⟩ = some (.int .i64 R) := cell_of HX1.out rfl
  have q1 : w1.cell? ⟨w.heap.size, 1, none⟩ = some (.int .i64 N) := cell_of HX1.out rfl
  have q2 : w1.cell? ⟨w.heap.size, 2, none⟩ = some (.slice ad L cap) := cell_of HX1.out rfl
  clear hb
  go_wp2_with fail
  clear q0 q1 q2
  go_at_call 78
  refine (isr_any R N x _ w1).mono ?_
  rintro e w2 ⟨rfl, hb⟩
  have HB2 := Lib.hid (below_then HB1.out hb)
  have HX2 := Lib.hid ((hb.block _ (lt_block HX1.out)).trans HX1.out)
  have q0 : w2.cell? ⟨w.heap.size, 0, none⟩ = some (.int .i64 R) := cell_of HX2.out rfl
  have q1 : w2.cell? ⟨w.heap.size, 1, none⟩ = some (.int .i64 N) := cell_of HX2.out rfl
  have q2 : w2.cell? ⟨w.heap.size, 2, none⟩ = some (.slice ad L cap) := cell_of HX2.out rfl
  clear hb
  simp only [HIx.out]
  go_wp2_with fail
  clear q0 q1 q2
  go_at_call 78
  refine (isr_any R N y _ w2).mono ?_
  rintro e w3 ⟨rfl, hb⟩
  have HB3 := Lib.hid (below_then HB2.out hb)
  have HX3 := Lib.hid ((hb.block _ (lt_block HX2.out)).trans HX2.out)
  have q0 : w3.cell? ⟨w.heap.size, 0, none⟩ = some (.int .i64 R) := cell_of HX3.out rfl
  have q1 : w3.cell? ⟨w.heap.size, 1, none⟩ = some (.int .i64 N) := cell_of HX3.out rfl
  have q2 : w3.cell? ⟨w.heap.size, 2, none⟩ = some (.slice ad L cap) := cell_of HX3.out rfl
  clear hb
  simp only [HIy.out]
  go_wp2_with fail
  clear q0 q1 q2
  go_ret2
  exact ⟨rfl, HB3.out⟩

theorem lk4 (R N : Int) (l : List E) (s : Value) (x y : Int) (w : World) (hR : I64 R) (hN : I64 N) (hr : Rd3 w s l) (h : roE R N l = 0) (h2 : 0 ≤ x ∧ x < R) (h3 : 0 ≤ y ∧ y < R) (h4 : (cstF x y l).2 = false) :
    Calls Try.prog 73 #[.agg #[.int .i64 R, .int .i64 N, s], .int .i64 x, .int .i64 y] w fun e w' => e = .returned (.tuple #[.int .i64 (lkC R N l x y), .int .i64 (lkE R N l x y)]) ∧ Below w.heap.size w w' := by
  have HRO : Hid (∀ W, Below w.heap.size w W → Calls Try.prog 66 #[.agg #[.int .i64 R, .int .i64 N, s]] W fun e w' => e = .returned (.int .i64 (roE R N l)) ∧ Below W.heap.size W w') := fun W hW => ro_any R N l s W hR hN (hr.below hW)
  have HCO : Hid (∀ W, Below w.heap.size w W → Calls Try.prog 114 #[.agg #[.int .i64 R, .int .i64 N, s], .int .i64 x, .int .i64 y] W fun e w' => e = .returned (.tuple #[.int .i64 (cstF x y l).1, .bool (cstF x y l).2]) ∧ Below W.heap.size W w') := fun W hW => cost_any R N x y l s W (hr.below hW)
  have HE : Hid (lkE R N l x y = 6) := by show _ = _; unfold lkE; rw [if_neg (by omega), if_neg (fun k => k ⟨h2, h3⟩), if_pos h4]
  have HC : Hid (lkC R N l x y = 0) := by show _ = _; unfold lkC; rw [HE.out, if_neg (by omega)]
  rw [HE.out, HC.out]
  obtain ⟨ad, cap, hform⟩ := rd3_slice hr
  obtain ⟨L, hL⟩ : ∃ L, l.length = L := ⟨_, rfl⟩
  rw [hL] at hform
  subst hform
  have HB := Lib.hid (below_alloc w (.cells #[.int .i64 R, .int .i64 N, .slice ad L cap] 27))
  have HBX : Hid ((w.alloc (.cells #[.int .i64 R, .int .i64 N, .slice ad L cap] 27)).heap[w.heap.size]? = some (.cells #[.int .i64 R, .int .i64 N, .slice ad L cap] 27 (0, 0))) := heap_alloc_new _ _
  clear hr hL
  rw [h] at HRO
  rw [h4] at HCO
  generalize (cstF x y l).1 = cst at *
  have HIx : Hid (decide (0 ≤ x ∧ x < R) = true) := decide_eq_true h2
  have HIy : Hid (decide (0 ≤ y ∧ y < R) = true) := decide_eq_true h3
  clear h h2 h3 h4 HE HC
  have HX0 := HBX
  have HB0 := HB
  go_enter Try.func73, Try.ntmps73
  go_wp2_with fail
  go_at_call 66
  refine (HRO.out _ HB0.out).mono ?_
  rintro e w1 ⟨rfl, hb⟩
  have HB1 := Lib.hid (below_then HB0.out hb)
  have HX1 := Lib.hid ((hb.block _ (lt_block HX0.out)).trans HX0.out)
  have q0 : w1.cell? ⟨w.heap.size, 0, none⟩ = some (.int .i64 R) := cell_of HX1.out rfl
  have q1 : w1.cell? ⟨w.heap.size, 1, none⟩ = some (.int .i64 N) := cell_of HX1.out rfl
  have q2 : w1.cell? ⟨w.heap.size, 2, none⟩ = some (.slice ad L cap) := cell_of HX1.out rfl
  clear hb
  go_wp2_with fail
  clear q0 q1 q2
  go_at_call 78
  refine (isr_any R N x _ w1).mono ?_
  rintro e w2 ⟨rfl, hb⟩
  have HB2 := Lib.hid (below_then HB1.out hb)
  have HX2 := Lib.hid ((hb.block _ (lt_block HX1.out)).trans HX1.out)
  have q0 : w2.cell? ⟨w.heap.size, 0, none⟩ = some (.int .i64 R) := cell_of HX2.out rfl
  have q1 : w2.cell? ⟨w.heap.size, 1, none⟩ = some (.int .i64 N) := cell_of HX2.out rfl
  have q2 : w2.cell? ⟨w.heap.size, 2, none⟩ = some (.slice ad L cap) := cell_of HX2.out rfl
  clear hb
  simp only [HIx.out]
  go_wp2_with fail
  clear q0 q1 q2
  go_at_call 78
  refine (isr_any R N y _ w2).mono ?_
  rintro e w3 ⟨rfl, hb⟩
  have HB3 := Lib.hid (below_then HB2.out hb)
  have HX3 := Lib.hid ((hb.block _ (lt_block HX2.out)).trans HX2.out)
  have q0 : w3.cell? ⟨w.heap.size, 0, none⟩ = some (.int .i64 R) := cell_of HX3.out rfl
  have q1 : w3.cell? ⟨w.heap.size, 1, none⟩ = some (.int .i64 N) := cell_of HX3.out rfl
  have q2 : w3.cell? ⟨w.heap.size, 2, none⟩ = some (.slice ad L cap) := cell_of HX3.out rfl
  clear hb
  simp only [HIy.out]
  go_wp2_with fail
  clear q0 q1 q2
  go_at_call 114
  refine (HCO.out _ HB3.out).mono ?_
  rintro e w4 ⟨rfl, hb⟩
  have HB4 := Lib.hid (below_then HB3.out hb)
  have HX4 := Lib.hid ((hb.block _ (lt_block HX3.out)).trans HX3.out)
  have q0 : w4.cell? ⟨w.heap.size, 0, none⟩ = some (.int .i64 R) := cell_of HX4.out rfl
  have q1 : w4.cell? ⟨w.heap.size, 1, none⟩ = some (.int .i64 N) := cell_of HX4.out rfl
  have q2 : w4.cell? ⟨w.heap.size, 2, none⟩ = some (.slice ad L cap) := cell_of HX4.out rfl
  clear hb
  go_wp2_with fail
  clear q0 q1 q2
  go_ret2
  exact ⟨rfl, HB4.out⟩

theorem lk5 (R N : Int) (l : List E) (s : Value) (x y : Int) (w : World) (hR : I64 R) (hN : I64 N) (hr : Rd3 w s l) (h : roE R N l = 0) (h2 : 0 ≤ x ∧ x < R) (h3 : 0 ≤ y ∧ y < R) (h4 : (cstF x y l).2 = true) :
    Calls Try.prog 73 #[.agg #[.int .i64 R, .int .i64 N, s], .int .i64 x, .int .i64 y] w fun e w' => e = .returned (.tuple #[.int .i64 (lkC R N l x y), .int .i64 (lkE R N l x y)]) ∧ Below w.heap.size w w' := by
  have HRO : Hid (∀ W, Below w.heap.size w W → Calls Try.prog 66 #[.agg #[.int .i64 R, .int .i64 N, s]] W fun e w' => e = .returned (.int .i64 (roE R N l)) ∧ Below W.heap.size W w') := fun W hW => ro_any R N l s W hR hN (hr.below hW)
  have HCO : Hid (∀ W, Below w.heap.size w W → Calls Try.prog 114 #[.agg #[.int .i64 R, .int .i64 N, s], .int .i64 x, .int .i64 y] W fun e w' => e = .returned (.tuple #[.int .i64 (cstF x y l).1, .bool (cstF x y l).2]) ∧ Below W.heap.size W w') := fun W hW => cost_any R N x y l s W (hr.below hW)
  have HE : Hid (lkE R N l x y = 0) := by show _ = _; unfold lkE; rw [if_neg (by omega), if_neg (fun k => k ⟨h2, h3⟩), if_neg (by rw [h4]; simp)]
  have HC : Hid (lkC R N l x y = (cstF x y l).1) := by show _ = _; unfold lkC; rw [HE.out, if_pos rfl]
  rw [HE.out, HC.out]
  obtain ⟨ad, cap, hform⟩ := rd3_slice hr
  obtain ⟨L, hL⟩ : ∃ L, l.length = L := ⟨_, rfl⟩
  rw [hL] at hform
  subst hform
  have HB := Lib.hid (below_alloc w (.cells #[.int .i64 R, .int .i64 N, .slice ad L cap] 27))
  have HBX : Hid ((w.alloc (.cells #[.int .i64 R, .int .i64 N, .slice ad L cap] 27)).heap[w.heap.size]? = some (.cells #[.int .i64 R, .int .i64 N, .slice ad L cap] 27 (0, 0))) := heap_alloc_new _ _
  clear hr hL
  rw [h] at HRO
  rw [h4] at HCO
  generalize (cstF x y l).1 = cst at *
  have HIx : Hid (decide (0 ≤ x ∧ x < R) = true) := decide_eq_true h2
  have HIy : Hid (decide (0 ≤ y ∧ y < R) = true) := decide_eq_true h3
  clear h h2 h3 h4 HE HC
  have HX0 := HBX
  have HB0 := HB
  go_enter Try.func73, Try.ntmps73
  go_wp2_with fail
  go_at_call 66
  refine (HRO.out _ HB0.out).mono ?_
  rintro e w1 ⟨rfl, hb⟩
  have HB1 := Lib.hid (below_then HB0.out hb)
  have HX1 := Lib.hid ((hb.block _ (lt_block HX0.out)).trans HX0.out)
  have q0 : w1.cell? ⟨w.heap.size, 0, none⟩ = some (.int .i64 R) := cell_of HX1.out rfl
  have q1 : w1.cell? ⟨w.heap.size, 1, none⟩ = some (.int .i64 N) := cell_of HX1.out rfl
  have q2 : w1.cell? ⟨w.heap.size, 2, none⟩ = some (.slice ad L cap) := cell_of HX1.out rfl
  clear hb
  go_wp2_with fail
  clear q0 q1 q2
  go_at_call 78
  refine (isr_any R N x _ w1).mono ?_
  rintro e w2 ⟨rfl, hb⟩
  have HB2 := Lib.hid (below_then HB1.out hb)
  have HX2 := Lib.hid ((hb.block _ (lt_block HX1.out)).trans HX1.out)
  have q0 : w2.cell? ⟨w.heap.size, 0, none⟩ = some (.int .i64 R) := cell_of HX2.out rfl
  have q1 : w2.cell? ⟨w.heap.size, 1, none⟩ = some (.int .i64 N) := cell_of HX2.out rfl
  have q2 : w2.cell? ⟨w.heap.size, 2, none⟩ = some (.slice ad L cap) := cell_of HX2.out rfl
  clear hb
  simp only [HIx.out]
  go_wp2_with fail
  clear q0 q1 q2
  go_at_call 78
  refine (isr_any R N y _ w2).mono ?_
  rintro e w3 ⟨rfl, hb⟩
  have HB3 := Lib.hid (below_then HB2.out hb)
  have HX3 := Lib.hid ((hb.block _ (lt_block HX2.out)).trans HX2.out)
  have q0 : w3.cell? ⟨w.heap.size, 0, none⟩ = some (.int .i64 R) := cell_of HX3.out rfl
  have q1 : w3.cell? ⟨w.heap.size, 1, none⟩ = some (.int .i64 N) := cell_of HX3.out rfl
  have q2 : w3.cell? ⟨w.heap.size, 2, none⟩ = some (.slice ad L cap) := cell_of HX3.out rfl
  clear hb
  simp only [HIy.out]
  go_wp2_with fail
  clear q0 q1 q2
  go_at_call 114
  refine (HCO.out _ HB3.out).mono ?_
  rintro e w4 ⟨rfl, hb⟩
  have HB4 := Lib.hid (below_then HB3.out hb)
  have HX4 := Lib.hid ((hb.block _ (lt_block HX3.out)).trans HX3.out)
  have q0 : w4.cell? ⟨w.heap.size, 0, none⟩ = some (.int .i64 R) := cell_of HX4.out rfl
  have q1 : w4.cell? ⟨w.heap.size, 1, none⟩ = some (.int .i64 N) := cell_of HX4.out rfl
  have q2 : w4.cell? ⟨w.heap.size, 2, none⟩ = some (.slice ad L cap) := cell_of HX4.out rfl
  clear hb
  go_wp2_with fail
  clear q0 q1 q2
  go_ret2
  exact ⟨rfl, HB4.out⟩

theorem link_any (R N : Int) (l : List E) (s : Value) (x y : Int) (w : World) (hR : I64 R) (hN : I64 N) (hr : Rd3 w s l) :
    Calls Try.prog 73 #[.agg #[.int .i64 R, .int .i64 N, s], .int .i64 x, .int .i64 y] w fun e w' => e = .returned (.tuple #[.int .i64 (lkC R N l x y), .int .i64 (lkE R N l x y)]) ∧ Below w.heap.size w w' := by
  by_cases h : roE R N l = 0
  · by_cases h2 : 0 ≤ x ∧ x < R
    · by_cases h3 : 0 ≤ y ∧ y < R
      · cases h4 : (cstF x y l).2
        · exact lk4 R N l s x y w hR hN hr h h2 h3 h4
        · exact lk5 R N l s x y w hR hN hr h h2 h3 h4
      · exact lk3 R N l s x y w hR hN hr h h2 h3
    · exact lk2 R N l s x y w hR hN hr h h2
  · exact lk1 R N l s x y w hR hN hr h
end Go.Proofs.Ytmbogobebllheaa
namespace Go.Proofs.Ytmbogobebllheaa
open Go.RowKit HM GM SP Go.Lib
set_option linter.unusedSimpArgs false
set_option linter.unusedVariables false
set_option maxHeartbeats 4000000
set_option maxRecDepth 100000
theorem rd3_ownS {B : Nat} {w : World} {v : Value} {l : List E} (h : OwnS B w v l) : Rd3 w v l := by
  rcases h with ⟨rfl, rfl⟩ | ⟨g, _, h⟩
  · exact rd3_nil w
  · have hc := h.cells
    obtain ⟨cap, rfl, h1, h2, _, hb⟩ := h
    exact ⟨some ⟨g, 0, none⟩, cap, rfl, h1, h2, fun k x hk => ⟨g, 0, rfl, hb, (hc k x hk).1⟩⟩
/-- the P-space, the Q-space: nothing where there is no link -/
noncomputable def psF (R N : Int) (l : List E) (x y : Int) : List Int := if lkE R N l x y = 0 then rowF R.toNat (spB (T l) x y (lkC R N l x y)) else []
noncomputable def qsF (R N : Int) (l : List E) (x y : Int) : List Int := if lkE R N l x y = 0 then rowF R.toNat (sqB (T l) x y (lkC R N l x y)) else []
theorem lkC_small {R N : Int} {l : List E} {x y : Int} (h : lkE R N l x y = 0) : 0 ≤ lkC R N l x y ∧ lkC R N l x y ≤ 65535 := by
  have hv := chk_iff.1 (lkE_ok h).1
  unfold lkC
  rw [if_pos h]
  exact cstF_small hv x y
theorem rev_of {l o : List E} (h : Stb (l.map flp) o) : Rev l o := fun u v c => by
  have := Stb.mem h (x := (u, v, c))
  rw [this, List.mem_map]
  constructor
  · rintro ⟨⟨a, b, d⟩, h1, h2⟩
    unfold flp at h2
    simp at h2
    obtain ⟨rfl, rfl, rfl⟩ := h2
    exact h1
  · intro h1
    exact ⟨(v, u, c), h1, rfl⟩
theorem rev_row {R : Int} {l o : List E} (hv : Valid R 0 l) (hv' : Valid R 0 o) (hr : Rev l o) (n : Nat) (x y c : Int) : rowF n (spB (T o) y x c) = rowF n (sqB (T l) x y c) := rowF_congr fun z _ _ => by
  unfold spB sqB
  rw [T_rev hv hv' hr, T_rev hv hv' hr, Int.add_comm]
theorem psp_err (R N : Int) (l : List E) (s : Value) (x y : Int) (w : World) (hR : I64 R) (hN : I64 N) (hr : Rd3 w s l) (h : lkE R N l x y ≠ 0) :
    Calls Try.prog 28 #[.agg #[.int .i64 R, .int .i64 N, s], .int .i64 x, .int .i64 y] w fun e w' => ∃ v, e = .returned (.tuple #[v, .int .i64 (lkE R N l x y)]) ∧ RdI w' v (psF R N l x y) ∧ Below w.heap.size w w' := by
  have HF : Hid (psF R N l x y = []) := by show _ = _; unfold psF; rw [if_neg h]
  rw [HF.out]
  have HLK : Hid (∀ W, Below w.heap.size w W → Calls Try.prog 73 #[.agg #[.int .i64 R, .int .i64 N, s], .int .i64 x, .int .i64 y] W fun e w' => e = .returned (.tuple #[.int .i64 (lkC R N l x y), .int .i64 (lkE R N l x y)]) ∧ Below W.heap.size W w') := fun W hW => link_any R N l s x y W hR hN (hr.below hW)
  obtain ⟨ad, cap, hform⟩ := rd3_slice hr
  obtain ⟨L, hL⟩ : ∃ L, l.length = L := ⟨_, rfl⟩
  rw [hL] at hform
  subst hform
  have HB0 := Lib.hid (below_alloc w (.cells #[.int .i64 R, .int .i64 N, .slice ad L cap] 27))
  have HX0 : Hid ((w.alloc (.cells #[.int .i64 R, .int .i64 N, .slice ad L cap] 27)).heap[w.heap.size]? = some (.cells #[.int .i64 R, .int .i64 N, .slice ad L cap] 27 (0, 0))) := heap_alloc_new _ _
  generalize lkE R N l x y = er at *
  generalize lkC R N l x y = co at *
  have hb0 : (er != 0) = true := by simpa using h
  clear hr hL h HF
  go_enter Try.func28, Try.ntmps28
  go_wp2_with fail
  go_at_call 73
  refine (HLK.out _ HB0.out).mono ?_
  rintro e w1 ⟨rfl, hb⟩
  have HB1 := Lib.hid (below_then HB0.out hb)
  clear hb HLK
  go_wp2
  go_ret2
  exact ⟨_, rfl, rdI_nil _, HB1.out⟩
theorem psp_ok (r : Nat) (l : List E) (s : Value) (x y : Nat) (c : Int) (w : World) (hv : Valid (r : Int) 0 l) (hr : Rd3 w s l) (hx : x < r) (hy : y < r) (hE : lkE (r : Int) 0 l x y = 0) (hC : lkC (r : Int) 0 l x y = c) (hc : 0 ≤ c ∧ c ≤ 65535) :
    Calls Try.prog 28 #[.agg #[.int .i64 (r : Int), .int .i64 0, s], .int .i64 (x : Int), .int .i64 (y : Int)] w fun e w' => ∃ v, e = .returned (.tuple #[v, .int .i64 0]) ∧ RdI w' v (rowF r (spB (T l) (x : Int) (y : Int) c)) ∧ Below w.heap.size w w' := by
  have hS := hv.s
  have HLK : Hid (∀ W, Below w.heap.size w W → Calls Try.prog 73 #[.agg #[.int .i64 (r : Int), .int .i64 0, s], .int .i64 (x : Int), .int .i64 (y : Int)] W fun e w' => e = .returned (.tuple #[.int .i64 c, .int .i64 0]) ∧ Below W.heap.size W w') := fun W hW => by
    have := link_any (r : Int) 0 l s x y W (by unfold I64; omega) (by unfold I64; omega) (hr.below hW)
    rwa [hE, hC] at this
  have HCL : Hid (∀ W, Below w.heap.size w W → Calls Try.prog 74 #[.agg #[.int .i64 (r : Int), .int .i64 0, s], .int .i64 (x : Int), .int .i64 (y : Int), .int .i64 c] W fun e w' => ∃ v, e = .returned (.tuple #[v, .int .i64 0]) ∧ RdI w' v (rowF r (spB (T l) (x : Int) (y : Int) c)) ∧ Below W.heap.size W w') := fun W hW => closer_any r l s x y c W hv (hr.below hW) hx hy hc
  obtain ⟨ad, cap, hform⟩ := rd3_slice hr
  obtain ⟨L, hL⟩ : ∃ L, l.length = L := ⟨_, rfl⟩
  rw [hL] at hform
  subst hform
  have HB0 := Lib.hid (below_alloc w (.cells #[.int .i64 (r : Int), .int .i64 0, .slice ad L cap] 27))
  have HX0 : Hid ((w.alloc (.cells #[.int .i64 (r : Int), .int .i64 0, .slice ad L cap] 27)).heap[w.heap.size]? = some (.cells #[.int .i64 (r : Int), .int .i64 0, .slice ad L cap] 27 (0, 0))) := heap_alloc_new _ _
  clear hr hL hE hC hv hS
  go_enter Try.func28, Try.ntmps28
  go_wp2_with fail
  go_at_call 73
  refine (HLK.out _ HB0.out).mono ?_
  rintro e w1 ⟨rfl, hb⟩
  have HB1 := Lib.hid (below_then HB0.out hb)
  have HX1 := Lib.hid ((hb.block _ (lt_block HX0.out)).trans HX0.out)
  have q0 : w1.cell? ⟨w.heap.size, 0, none⟩ = some (.int .i64 (r : Int)) := cell_of HX1.out rfl
  have q1 : w1.cell? ⟨w.heap.size, 1, none⟩ = some (.int .i64 0) := cell_of HX1.out rfl
  have q2 : w1.cell? ⟨w.heap.size, 2, none⟩ = some (.slice ad L cap) := cell_of HX1.out rfl
  clear hb
  clear HLK HB0 HX0
  go_wp2_with fail
  go_at_call 74
  refine (HCL.out _ HB1.out).mono ?_
  rintro e w2 ⟨v, rfl, hrd, hb⟩
  have HR := Lib.hid hrd
  have HB2 := Lib.hid (below_then HB1.out hb)
  obtain ⟨a1, c1, rfl⟩ := hrd.form
  clear hb hrd HCL q0 q1 q2
  go_wp2
  go_ret2
  exact ⟨_, rfl, HR.out, HB2.out⟩
theorem psp_any (R N : Int) (l : List E) (s : Value) (x y : Int) (w : World) (hR : I64 R) (hN : I64 N) (hr : Rd3 w s l) :
    Calls Try.prog 28 #[.agg #[.int .i64 R, .int .i64 N, s], .int .i64 x, .int .i64 y] w fun e w' => ∃ v, e = .returned (.tuple #[v, .int .i64 (lkE R N l x y)]) ∧ RdI w' v (psF R N l x y) ∧ Below w.heap.size w w' := by
  by_cases h : lkE R N l x y = 0
  · obtain ⟨h1, rfl, h3, h4, h5⟩ := lkE_ok h
    obtain ⟨r, rfl⟩ : ∃ r : Nat, R = (r : Int) := ⟨R.toNat, by omega⟩
    obtain ⟨a, rfl⟩ : ∃ a : Nat, x = (a : Int) := ⟨x.toNat, by omega⟩
    obtain ⟨b, rfl⟩ : ∃ b : Nat, y = (b : Int) := ⟨y.toNat, by omega⟩
    have := psp_ok r l s a b (lkC (r : Int) 0 l a b) w (chk_iff.1 h1) hr (by omega) (by omega) h rfl (lkC_small h)
    unfold psF
    rw [if_pos h, h, Int.toNat_natCast]
    exact this
  · exact psp_err R N l s x y w hR hN hr h
theorem qsp_ok (r : Nat) (l : List E) (s : Value) (x y : Nat) (c : Int) (w : World) (hv : Valid (r : Int) 0 l) (hr : Rd3 w s l) (hx : x < r) (hy : y < r) (hE : lkE (r : Int) 0 l x y = 0) (hC : lkC (r : Int) 0 l x y = c) (hc : 0 ≤ c ∧ c ≤ 65535) :
    Calls Try.prog 29 #[.agg #[.int .i64 (r : Int), .int .i64 0, s], .int .i64 (x : Int), .int .i64 (y : Int)] w fun e w' => ∃ v, e = .returned (.tuple #[v, .int .i64 0]) ∧ RdI w' v (rowF r (sqB (T l) (x : Int) (y : Int) c)) ∧ Below w.heap.size w w' := by
  have hS := hv.s
  have HLK : Hid (∀ W, Below w.heap.size w W → Calls Try.prog 73 #[.agg #[.int .i64 (r : Int), .int .i64 0, s], .int .i64 (x : Int), .int .i64 (y : Int)] W fun e w' => e = .returned (.tuple #[.int .i64 c, .int .i64 0]) ∧ Below W.heap.size W w') := fun W hW => by
    have := link_any (r : Int) 0 l s x y W (by unfold I64; omega) (by unfold I64; omega) (hr.below hW)
    rwa [hE, hC] at this
  have HRV : Hid (∀ W, Below w.heap.size w W → Calls Try.prog 75 #[.agg #[.int .i64 (r : Int), .int .i64 0, s]] W fun e w' => ∃ s' o, e = .returned (.agg #[.int .i64 (r : Int), .int .i64 0, s']) ∧ OwnS W.heap.size w' s' o ∧ (SrtE o ∧ Stb (l.map flp) o) ∧ Below W.heap.size W w') := fun W hW => rev_any (r : Int) 0 l s W (by unfold Fits; have := hv.len; omega) (hr.below hW)
  have HVR : Hid (∀ o, SrtE o ∧ Stb (l.map flp) o → Valid (r : Int) 0 o ∧ rowF r (spB (T o) (y : Int) (x : Int) c) = rowF r (sqB (T l) (x : Int) (y : Int) c)) := fun o ho => ⟨valid_rev hv ho, rev_row hv (valid_rev hv ho) (rev_of ho.2) r _ _ _⟩
  obtain ⟨ad, cap, hform⟩ := rd3_slice hr
  obtain ⟨L, hL⟩ : ∃ L, l.length = L := ⟨_, rfl⟩
  rw [hL] at hform
  subst hform
  have HB0 := Lib.hid (below_alloc w (.cells #[.int .i64 (r : Int), .int .i64 0, .slice ad L cap] 27))
  have HX0 : Hid ((w.alloc (.cells #[.int .i64 (r : Int), .int .i64 0, .slice ad L cap] 27)).heap[w.heap.size]? = some (.cells #[.int .i64 (r : Int), .int .i64 0, .slice ad L cap] 27 (0, 0))) := heap_alloc_new _ _
  clear hr hL hE hC hv hS
  go_enter Try.func29, Try.ntmps29
  go_wp2_with fail
  go_at_call 73
  refine (HLK.out _ HB0.out).mono ?_
  rintro e w1 ⟨rfl, hb⟩
  have HB1 := Lib.hid (below_then HB0.out hb)
  have HX1 := Lib.hid ((hb.block _ (lt_block HX0.out)).trans HX0.out)
  have q0 : w1.cell? ⟨w.heap.size, 0, none⟩ = some (.int .i64 (r : Int)) := cell_of HX1.out rfl
  have q1 : w1.cell? ⟨w.heap.size, 1, none⟩ = some (.int .i64 0) := cell_of HX1.out rfl
  have q2 : w1.cell? ⟨w.heap.size, 2, none⟩ = some (.slice ad L cap) := cell_of HX1.out rfl
  clear hb
  clear HLK HB0 HX0
  go_wp2_with fail
  go_at_call 75
  refine (HRV.out _ HB1.out).mono ?_
  rintro e w2 ⟨s', o', rfl, hown, hso, hb⟩
  have HR := Lib.hid (rd3_ownS hown)
  have HB2 := Lib.hid (below_then HB1.out hb)
  obtain ⟨hvo, hrow⟩ := HVR.out o' hso
  have HVO := Lib.hid (And.intro hvo hrow)
  obtain ⟨a1, c1, hf1⟩ := rd3_slice HR.out
  obtain ⟨L2, hL2⟩ : ∃ L, o'.length = L := ⟨_, rfl⟩
  rw [hL2] at hf1
  subst hf1
  clear hb hown hso hvo hrow HRV HVR q0 q1 q2 hL2
  go_wp2_with fail
  go_at_call 74
  refine (closer_any r o' _ y x c w2 HVO.out.1 HR.out hy hx hc).mono ?_
  rintro e w3 ⟨v, rfl, hrd, hb⟩
  rw [HVO.out.2] at hrd
  have HR3 := Lib.hid hrd
  have HB3 := Lib.hid (below_then HB2.out hb)
  obtain ⟨a3, c3, rfl⟩ := hrd.form
  clear hb hrd
  go_wp2
  go_ret2
  exact ⟨_, rfl, HR3.out, HB3.out⟩
end Go.Proofs.Ytmbogobebllheaa
namespace Go.Proofs.Ytmbogobebllheaa
open Go.RowKit HM GM SP
set_option linter.unusedSimpArgs false
set_option linter.unusedVariables false
set_option maxHeartbeats 4000000
set_option maxRecDepth 100000
/-- where a number stands first -/
def IdxR (m : List Int) (y : Int) (i : Int) : Prop := (i = -1 ∧ y ∉ m) ∨ (0 ≤ i ∧ y ∈ m)
theorem index_any (m : List Int) (v : Value) (y : Int) (w : World) (hv : RdI w v m) : Calls Try.prog 117 #[v, .int .i64 y] w fun e w' => ∃ i, e = .returned (.int .i64 i) ∧ IdxR m y i ∧ Below w.heap.size w w' := by
  obtain ⟨ad, cap, rfl, h1, h2, hc⟩ := hv
  have HC := Lib.hid hc
  obtain ⟨L, hL⟩ : ∃ L, m.length = L := ⟨_, rfl⟩
  rw [hL] at h1 ⊢
  have HL := Lib.hid hL
  clear hc hL
  go_enter Try.func117, Try.ntmps117
  go_wp2_with fail
  have HS : Hid (Below w.heap.size w w ∧ ∀ k z, k < 0 → m[k]? = some z → z ≠ y) := ⟨Below.refl _ _, fun k z h => by omega⟩
  go_loopg [5, 8] L (fun g s5 s8 wr => ∃ k : Nat, k ≤ L ∧ L - k ≤ g ∧ s8 = .int .i64 (k : Int) ∧ (∃ q, q = s5) ∧ Hid (Below w.heap.size w wr ∧ ∀ j z, j < k → m[j]? = some z → z ≠ y))
  case atStart => exact ⟨0, by omega, by omega, rfl, ⟨_, rfl⟩, HS⟩
  case round =>
    clear HS
    obtain ⟨k, hk, hkg, rfl, ⟨u5, rfl⟩, HS⟩ := hrel
    by_cases hlt : k < L
    · obtain ⟨z, hz⟩ : ∃ z, m[k]? = some z := ⟨_, List.getElem?_eq_getElem (by rw [HL.out]; exact hlt)⟩
      obtain ⟨b, off, rfl, hb, c⟩ := HC.out k z hz
      have c' := carryB HS.out.1 hb c
      have HZ := Lib.hid hz
      have k0 : (0 : Int) ≤ (k : Int) := by omega
      have k1 : (k : Int) < (L : Int) := by omega
      clear c hz
      by_cases he : y = z
      · have HM : Hid (IdxR m y (k : Int)) := .inr ⟨by omega, by rw [he]; exact List.mem_of_getElem? HZ.out⟩
        have HB := Lib.hid HS.out.1
        clear HS HZ
        subst he
        go_wp2
        go_ret
        exact ⟨_, rfl, HM.out, HB.out⟩
      · have he1 : (y == z) = false := by simpa using he
        have HN : Hid (Below w.heap.size w wr ∧ ∀ j z, j < k + 1 → m[j]? = some z → z ≠ y) := ⟨HS.out.1, fun j z' hj hz' => by
          by_cases e : j = k
          · subst e; have := HZ.out; rw [hz'] at this; cases this; exact fun e => he e.symm
          · exact HS.out.2 j z' (by omega) hz'⟩
        clear HS
        go_wp2_with fail
        go_roundg (L - (k + 1))
        case measure => omega
        case rel => exact ⟨k + 1, by omega, Nat.le_refl _, by go_num, ⟨_, rfl⟩, HN⟩
    · have k1 : decide ((k : Int) < (L : Int)) = false := decide_eq_false (by omega)
      have HM : Hid (IdxR m y (-1)) := .inl ⟨rfl, fun hm => by
        obtain ⟨j, hj⟩ := List.getElem?_of_mem hm
        exact HS.out.2 j y (by have := (List.getElem?_eq_some_iff.1 hj).1; have := HL.out; omega) hj rfl⟩
      have HB := Lib.hid HS.out.1
      clear HS
      go_wp2
      go_ret
      exact ⟨_, rfl, HM.out, HB.out⟩
theorem contains_any (m : List Int) (v : Value) (y : Int) (w : World) (hv : RdI w v m) : Calls Try.prog 76 #[v, .int .i64 y] w fun e w' => e = .returned (.bool (decide (y ∈ m))) ∧ Below w.heap.size w w' := by
  have H := Lib.hid (index_any m v y w hv)
  obtain ⟨ad, cap, rfl⟩ := hv.form
  generalize m.length = L at *
  clear hv
  go_enter Try.func76, Try.ntmps76
  go_wp2_with fail
  go_at_call 117
  refine H.out.mono ?_
  rintro e w1 ⟨i, rfl, hi, hb⟩
  clear H
  have HD : Hid (decide (0 ≤ i) = decide (y ∈ m)) := by
    rcases hi with ⟨rfl, h⟩ | ⟨h1, h2⟩
    · show decide _ = decide _; rw [decide_eq_false h]; rfl
    · show decide _ = decide _; rw [decide_eq_true h1, decide_eq_true h2]
  have HB := Lib.hid hb
  clear hi hb
  go_wp2
  go_ret
  exact ⟨by rw [← HD.out]; rfl, HB.out⟩
end Go.Proofs.Ytmbogobebllheaa
namespace Go.Proofs.Ytmbogobebllheaa
open Go.RowKit HM GM SP Go.Lib
set_option linter.unusedSimpArgs false
set_option linter.unusedVariables false
set_option maxHeartbeats 4000000
set_option maxRecDepth 100000
/-- an alternate as a value's fields -/
def alC (a : Al) : List Value := [.int .i64 a.dest, .int .i64 a.prim, .int .i64 a.via, .int .i64 a.kind, .bool a.down]
def alV (a : Al) : Value := .agg #[.int .i64 a.dest, .int .i64 a.prim, .int .i64 a.via, .int .i64 a.kind, .bool a.down]
def caV (c : Al × Int) : Value := .agg #[.int .i64 c.1.dest, .int .i64 c.1.prim, .int .i64 c.1.via, .int .i64 c.1.kind, .bool c.1.down, .int .i64 c.2]
def caO (c : Al × Int) : Obj := .cells #[.int .i64 c.1.dest, .int .i64 c.1.prim, .int .i64 c.1.via, .int .i64 c.1.kind, .bool c.1.down, .int .i64 c.2] 131
theorem all_ent (l : List E) (r : Nat) (i k : Int) (h0 : 0 ≤ i) (h1 : i < r) (k0 : 0 ≤ k) (k1 : k < r) : ent (gT (allRow l r) r r) i k = some (T l i k) := by
  obtain ⟨a, rfl⟩ : ∃ a : Nat, i = (a : Int) := ⟨i.toNat, by omega⟩
  obtain ⟨b, rfl⟩ : ∃ b : Nat, k = (b : Int) := ⟨k.toNat, by omega⟩
  have ha : a < r := by omega
  have hb : b < r := by omega
  rw [ent_nat]
  have h : (gT (allRow l r) r r)[a]? = some (allRow l r a) := by
    have := gT_get (row := allRow l r) (n := r) (i := r) (a := a) ha
    rw [if_pos ha] at this
    unfold gL at this
    rw [List.getElem?_eq_getElem (by rw [gT_len]; exact ha)] at this ⊢
    simpa using this
  rw [h]
  exact allRow_get hb
theorem better_any (a b : Al × Int) (g : Nat) (w : World) (hg : w.heap[g]? = some (caO b)) :
    Calls Try.prog 111 #[caV a, .pointer (some ⟨g, 0, none⟩)] w fun e w' => e = .returned (.bool (betterA a b)) ∧ Below w.heap.size w w' := by
  obtain ⟨⟨a1, a2, a3, a4, a5⟩, a6⟩ := a
  obtain ⟨⟨b1, b2, b3, b4, b5⟩, b6⟩ := b
  have HR : Hid (betterA (⟨a1, a2, a3, a4, a5⟩, a6) (⟨b1, b2, b3, b4, b5⟩, b6) = if a4 ≠ b4 then decide (a4 = 2) else if a6 ≠ b6 then decide (a6 < b6) else decide (a3 < b3)) := rfl
  generalize betterA (⟨a1, a2, a3, a4, a5⟩, a6) (⟨b1, b2, b3, b4, b5⟩, b6) = bb at *
  unfold caV
  unfold caO at hg
  dsimp only at hg ⊢
  have HB := Lib.hid (below_alloc w (.cells #[.int .i64 a1, .int .i64 a2, .int .i64 a3, .int .i64 a4, .bool a5, .int .i64 a6] 131))
  have c2 := fun o => carry (below_alloc w o) (cell_of hg (o := 2) rfl)
  have c3 := fun o => carry (below_alloc w o) (cell_of hg (o := 3) rfl)
  have c5 := fun o => carry (below_alloc w o) (cell_of hg (o := 5) rfl)
  clear hg
  by_cases h4 : a4 = b4
  · by_cases h6 : a6 = b6
    · have HE : Hid (bb = decide (a3 < b3)) := by have := HR.out; rw [if_neg (by simpa using h4), if_neg (by simpa using h6)] at this; exact this
      clear HR
      subst h4
      subst h6
      go_enter Try.func111, Try.ntmps111
      go_wp2
      go_ret
      exact ⟨by rw [HE.out]; rfl, HB.out⟩
    · have HE : Hid (bb = decide (a6 < b6)) := by have := HR.out; rw [if_neg (by simpa using h4), if_pos h6] at this; exact this
      clear HR
      subst h4
      have n6 : (a6 != b6) = true := by simpa using h6
      clear h6
      go_enter Try.func111, Try.ntmps111
      go_wp2
      go_ret
      exact ⟨by rw [HE.out]; rfl, HB.out⟩
  · have HE : Hid (bb = decide (a4 = 2)) := by have := HR.out; rw [if_pos h4] at this; exact this
    clear HR
    have n4 : (a4 != b4) = true := by simpa using h4
    clear h4
    have HE2 : Hid (bb = (a4 == 2)) := by show _ = _; rw [HE.out, Bool.eq_iff_iff]; simp
    clear HE
    go_enter Try.func111, Try.ntmps111
    go_wp2
    go_ret
    exact ⟨by rw [HE2.out]; rfl, HB.out⟩
end Go.Proofs.Ytmbogobebllheaa
namespace Go.Proofs.Ytmbogobebllheaa
open Go.RowKit HM GM SP Go.Lib
set_option linter.unusedSimpArgs false
set_option linter.unusedVariables false
set_option maxHeartbeats 4000000
set_option maxRecDepth 100000
theorem allT_tb (l : List E) (r : Nat) : Tb r (gT (allRow l r) r r) ∧ ∀ a b : Nat, a < r → b < r → at2 (gT (allRow l r) r r) a b = T l a b := by
  refine ⟨⟨gT_len _ _ _, fun i hi => by rw [gT_get hi, if_pos hi]; simp [allRow]⟩, fun a b ha hb => ?_⟩
  unfold at2
  rw [gT_get ha, if_pos ha]
  simp [allRow, gI, hb]
theorem T_bound {r : Nat} {l : List E} (hv : Valid (r : Int) 0 l) {y d : Nat} (hy : y < r) (hd : d < r) : -1 ≤ T l (y : Int) (d : Int) ∧ T l (y : Int) (d : Int) ≤ 65535 * 129 := by
  have hS := hv.s
  by_cases h : 0 ≤ T l (y : Int) (d : Int)
  · have := T_small hv (n := r) (by omega) (i := (y : Int)) (k := (d : Int)) (by omega) h
    omega
  · have := (T_no hv (s := (y : Int)) (v := (d : Int)) (by omega)).1
    omega
theorem all_fitV {r : Nat} {l : List E} (hv : Valid (r : Int) 0 l) : FitR (gT (allRow l r) r r) := fun q hq z hz => by
  obtain ⟨a, ha⟩ := List.getElem?_of_mem hq
  have hal := (List.getElem?_eq_some_iff.1 ha).1
  rw [gT_len] at hal
  have : gL (gT (allRow l r) r r) a = q := by unfold gL; rw [ha]; rfl
  rw [gT_get hal, if_pos hal] at this
  subst this
  unfold allRow at hz
  obtain ⟨b, hb, rfl⟩ := List.mem_map.1 hz
  have e1 := T_bound hv hal (List.mem_range.1 hb)
  unfold I64
  omega
structure WgS (w W : World) (x y z d p k : Int) (dn : Bool) : Prop where
  b : Below w.heap.size w W
  h0 : W.heap[w.heap.size]? = some (.cells #[.int .i64 x, .int .i64 y, .int .i64 z] 72 (0, 0))
  h1 : W.heap[w.heap.size + 1]? = some (.cells #[.int .i64 0, .int .i64 0, .int .i64 0, .int .i64 0, .bool false, .int .i64 0] 131 (0, 0))
  h2 : W.heap[w.heap.size + 1 + 1]? = some (.cells #[.int .i64 d, .int .i64 p, .int .i64 y, .int .i64 k, .bool dn] 47 (0, 0))
theorem WgS.start (w : World) (x y z d p : Int) : WgS w (((w.alloc (.cells #[.int .i64 x, .int .i64 y, .int .i64 z] 72)).alloc (.cells #[.int .i64 0, .int .i64 0, .int .i64 0, .int .i64 0, .bool false, .int .i64 0] 131)).alloc (.cells #[.int .i64 d, .int .i64 p, .int .i64 y, .int .i64 1, .bool false] 47)) x y z d p 1 false := by
  obtain ⟨h1, h2, h3⟩ := three_al w (.cells #[.int .i64 x, .int .i64 y, .int .i64 z] 72) (.cells #[.int .i64 0, .int .i64 0, .int .i64 0, .int .i64 0, .bool false, .int .i64 0] 131) (.cells #[.int .i64 d, .int .i64 p, .int .i64 y, .int .i64 1, .bool false] 47)
  exact ⟨below_then (below_then (below_alloc _ _) (below_alloc _ _)) (below_alloc _ _), h1, h2, h3⟩
theorem WgS.below {w W W1 : World} {x y z d p k : Int} {dn : Bool} (h : WgS w W x y z d p k dn) (hb : Below W.heap.size W W1) : WgS w W1 x y z d p k dn :=
  ⟨below_then h.b hb, (hb.block _ (lt_block h.h0)).trans h.h0, (hb.block _ (lt_block h.h1)).trans h.h1, (hb.block _ (lt_block h.h2)).trans h.h2⟩
theorem WgS.setK {w W : World} {x y z d p k : Int} {dn : Bool} (h : WgS w W x y z d p k dn) (k' : Int) : WgS w (W.setCell ⟨w.heap.size + 1 + 1, 3, none⟩ (.int .i64 k')) x y z d p k' dn :=
  ⟨h.b.setCell (by show w.heap.size ≤ w.heap.size + 1 + 1; omega) _, (heap_set_ne (by omega)).trans h.h0, (heap_set_ne (by omega)).trans h.h1, by rw [heap_set_eq h.h2]; rfl⟩
theorem WgS.setD {w W : World} {x y z d p k : Int} {dn : Bool} (h : WgS w W x y z d p k dn) (d' : Bool) : WgS w (W.setCell ⟨w.heap.size + 1 + 1, 4, none⟩ (.bool d')) x y z d p k d' :=
  ⟨h.b.setCell (by show w.heap.size ≤ w.heap.size + 1 + 1; omega) _, (heap_set_ne (by omega)).trans h.h0, (heap_set_ne (by omega)).trans h.h1, by rw [heap_set_eq h.h2]; rfl⟩
theorem wg1 (vd : Value) (l : List E) (r root y d : Nat) (z : Int) (w : World) (hrd : RdR w vd (gT (allRow l r) r r)) (hv : Valid (r : Int) 0 l) (hroot : root < r) (hy : y < r) (hd : d < r) (hz : 0 ≤ z ∧ z ≤ 65535)  :
    Calls Try.prog 112 #[vd, .agg #[.int .i64 (root : Int), .int .i64 (y : Int), .int .i64 z], .int .i64 (d : Int), .int .i64 (d : Int)] w fun e w' => e = .returned (.agg #[.int .i64 (d : Int), .int .i64 (d : Int), .int .i64 (y : Int), .int .i64 1, .bool (dnT (gT (allRow l r) r r) root y d), .int .i64 (z + T l (y : Int) (d : Int))]) ∧ Below w.heap.size w w' := by
  have hft : FitR (gT (allRow l r) r r) := all_fitV hv
  have hT := T_bound hv hy hd
  have HPR : Hid (∀ W, Below w.heap.size w W → Calls Try.prog 22 #[vd, .int .i64 (y : Int), .int .i64 (d : Int), .int .i64 (d : Int)] W fun e w' => e = .returned (.bool (avT (gT (allRow l r) r r) y d d)) ∧ Below W.heap.size W w') := fun W hW => protects_any _ vd y d d W (hrd.below hW) hft
  have HDN : Hid (∀ W, Below w.heap.size w W → Calls Try.prog 20 #[vd, .int .i64 (root : Int), .int .i64 (y : Int), .int .i64 (d : Int)] W fun e w' => e = .returned (.bool (dnT (gT (allRow l r) r r) root y d)) ∧ Below W.heap.size W w') := fun W hW => down_any _ vd root y d W (hrd.below hW)
  obtain ⟨b, o, c, rfl, hc, hdt⟩ := DT.of hrd (allT_tb l r).1 (allT_tb l r).2 (by omega)
  have HDT := Lib.hid hdt
  generalize dnT (gT (allRow l r) r r) root y d = dn at *
  generalize avT (gT (allRow l r) r r) y d d = av at *
  obtain ⟨z0, z1⟩ := hz
  obtain ⟨t, ht⟩ : ∃ t, T l (y : Int) (d : Int) = t := ⟨_, rfl⟩
  rw [ht] at hT ⊢
  have HTT := Lib.hid ht
  obtain ⟨t0, t1⟩ := hT
  have y0 : (0 : Int) ≤ (y : Int) := by omega
  have y1 : (y : Int) < (r : Int) := by omega
  have d0 : (0 : Int) ≤ (d : Int) := by omega
  have d1 : (d : Int) < (r : Int) := by omega
  have HR8 : Hid (r ≤ 128) := by have := hv.s; show _ ≤ _; omega
  clear hrd hft ht hdt hv
  have HE0 : ((d : Int) != (d : Int)) = false := by simp
  clear HPR
  have HS0 := Lib.hid (WgS.start w (root : Int) (y : Int) z (d : Int) (d : Int))
  go_enter Try.func112, Try.ntmps112
  go_wp2_with fail
  generalize (((w.alloc (.cells #[.int .i64 (root : Int), .int .i64 (y : Int), .int .i64 z] 72)).alloc (.cells #[.int .i64 0, .int .i64 0, .int .i64 0, .int .i64 0, .bool false, .int .i64 0] 131)).alloc (.cells #[.int .i64 (d : Int), .int .i64 (d : Int), .int .i64 (y : Int), .int .i64 1, .bool false] 47)) = V at *
  go_at_call 20
  refine (HDN.out _ HS0.out.b).mono ?_
  rintro e w3 ⟨rfl, hb⟩
  have HS3 := Lib.hid (HS0.out.below hb)
  clear hb HS0 HDN
  have k4 : w3.cell? ⟨w.heap.size + 1 + 1, 4, none⟩ = some (.bool false) := cell_of HS3.out.h2 rfl
  have f4 : w3.frozen? ⟨w.heap.size + 1 + 1, 4, none⟩ = false := free_of HS3.out.h2 _
  have HS4 := Lib.hid (HS3.out.setD dn)
  go_wp2_with fail
  clear k4 f4 HS3
  generalize (w3.setCell ⟨w.heap.size + 1 + 1, 4, none⟩ (.bool dn)) = W5 at *
  obtain ⟨ga, pa, ca, r1, r2, r3, r4⟩ := (HDT.out.below HS4.out.b).rows y hy
  have r5 := r4 d hd
  rw [HTT.out] at r5
  clear r4
  have k0 : W5.cell? ⟨w.heap.size + 1 + 1, 0, none⟩ = some (.int .i64 (d : Int)) := cell_of HS4.out.h2 rfl
  have k1 : W5.cell? ⟨w.heap.size + 1 + 1, 1, none⟩ = some (.int .i64 (d : Int)) := cell_of HS4.out.h2 rfl
  have k2 : W5.cell? ⟨w.heap.size + 1 + 1, 2, none⟩ = some (.int .i64 (y : Int)) := cell_of HS4.out.h2 rfl
  have k3 : W5.cell? ⟨w.heap.size + 1 + 1, 3, none⟩ = some (.int .i64 1) := cell_of HS4.out.h2 rfl
  have k4 : W5.cell? ⟨w.heap.size + 1 + 1, 4, none⟩ = some (.bool dn) := cell_of HS4.out.h2 rfl
  have e1 : W5.cell? ⟨w.heap.size, 1, none⟩ = some (.int .i64 (y : Int)) := cell_of HS4.out.h0 rfl
  have e2 : W5.cell? ⟨w.heap.size, 2, none⟩ = some (.int .i64 z) := cell_of HS4.out.h0 rfl
  have z0' : W5.cell? ⟨w.heap.size + 1, 0, none⟩ = some (.int .i64 0) := cell_of HS4.out.h1 rfl
  have z1' : W5.cell? ⟨w.heap.size + 1, 1, none⟩ = some (.int .i64 0) := cell_of HS4.out.h1 rfl
  have z2' : W5.cell? ⟨w.heap.size + 1, 2, none⟩ = some (.int .i64 0) := cell_of HS4.out.h1 rfl
  have z3' : W5.cell? ⟨w.heap.size + 1, 3, none⟩ = some (.int .i64 0) := cell_of HS4.out.h1 rfl
  have z4' : W5.cell? ⟨w.heap.size + 1, 4, none⟩ = some (.bool false) := cell_of HS4.out.h1 rfl
  have z5' : W5.cell? ⟨w.heap.size + 1, 5, none⟩ = some (.int .i64 0) := cell_of HS4.out.h1 rfl
  have y0' : W5.frozen? ⟨w.heap.size + 1, 0, none⟩ = false := free_of HS4.out.h1 _
  have y1' : W5.frozen? ⟨w.heap.size + 1, 1, none⟩ = false := free_of HS4.out.h1 _
  have y2' : W5.frozen? ⟨w.heap.size + 1, 2, none⟩ = false := free_of HS4.out.h1 _
  have y3' : W5.frozen? ⟨w.heap.size + 1, 3, none⟩ = false := free_of HS4.out.h1 _
  have y4' : W5.frozen? ⟨w.heap.size + 1, 4, none⟩ = false := free_of HS4.out.h1 _
  have y5' : W5.frozen? ⟨w.heap.size + 1, 5, none⟩ = false := free_of HS4.out.h1 _
  have HB := Lib.hid HS4.out.b
  clear HS4 HDT HTT
  go_region
  go_wp2
  (try simp only [Exit.inBlock, Exit.then])
  refine bodyPost_ret (v := .agg #[.int .i64 (d : Int), .int .i64 (d : Int), .int .i64 (y : Int), .int .i64 1, .bool dn, .int .i64 (z + t)]) (by rw [results_cell rfl]; go_simp) rfl ?_
  refine ⟨rfl, ?_⟩
  have hh : ∀ k, w.heap.size ≤ (Addr.mk (w.heap.size + 1) k none).block := fun k => Nat.le_succ _
  exact below_drewB ((((((HB.out.setCell (hh 0) _).setCell (hh 1) _).setCell (hh 2) _).setCell (hh 3) _).setCell (hh 4) _).setCell (hh 5) _)
theorem wg2 (vd : Value) (l : List E) (r root y d p : Nat) (z : Int) (w : World) (hrd : RdR w vd (gT (allRow l r) r r)) (hv : Valid (r : Int) 0 l) (hroot : root < r) (hy : y < r) (hd : d < r) (hp : p < r) (hz : 0 ≤ z ∧ z ≤ 65535) (hpd : ¬ p = d) (hav : avT (gT (allRow l r) r r) y p d = true) :
    Calls Try.prog 112 #[vd, .agg #[.int .i64 (root : Int), .int .i64 (y : Int), .int .i64 z], .int .i64 (d : Int), .int .i64 (p : Int)] w fun e w' => e = .returned (.agg #[.int .i64 (d : Int), .int .i64 (p : Int), .int .i64 (y : Int), .int .i64 2, .bool (dnT (gT (allRow l r) r r) root y d), .int .i64 (z + T l (y : Int) (d : Int))]) ∧ Below w.heap.size w w' := by
  have hft : FitR (gT (allRow l r) r r) := all_fitV hv
  have hT := T_bound hv hy hd
  have HPR : Hid (∀ W, Below w.heap.size w W → Calls Try.prog 22 #[vd, .int .i64 (y : Int), .int .i64 (p : Int), .int .i64 (d : Int)] W fun e w' => e = .returned (.bool (avT (gT (allRow l r) r r) y p d)) ∧ Below W.heap.size W w') := fun W hW => protects_any _ vd y p d W (hrd.below hW) hft
  have HDN : Hid (∀ W, Below w.heap.size w W → Calls Try.prog 20 #[vd, .int .i64 (root : Int), .int .i64 (y : Int), .int .i64 (d : Int)] W fun e w' => e = .returned (.bool (dnT (gT (allRow l r) r r) root y d)) ∧ Below W.heap.size W w') := fun W hW => down_any _ vd root y d W (hrd.below hW)
  obtain ⟨b, o, c, rfl, hc, hdt⟩ := DT.of hrd (allT_tb l r).1 (allT_tb l r).2 (by omega)
  have HDT := Lib.hid hdt
  generalize dnT (gT (allRow l r) r r) root y d = dn at *
  generalize avT (gT (allRow l r) r r) y p d = av at *
  obtain ⟨z0, z1⟩ := hz
  obtain ⟨t, ht⟩ : ∃ t, T l (y : Int) (d : Int) = t := ⟨_, rfl⟩
  rw [ht] at hT ⊢
  have HTT := Lib.hid ht
  obtain ⟨t0, t1⟩ := hT
  have y0 : (0 : Int) ≤ (y : Int) := by omega
  have y1 : (y : Int) < (r : Int) := by omega
  have d0 : (0 : Int) ≤ (d : Int) := by omega
  have d1 : (d : Int) < (r : Int) := by omega
  have HR8 : Hid (r ≤ 128) := by have := hv.s; show _ ≤ _; omega
  clear hrd hft ht hdt hv
  subst hav
  have HE0 : ((p : Int) != (d : Int)) = true := by simp; omega
  have HS0 := Lib.hid (WgS.start w (root : Int) (y : Int) z (d : Int) (p : Int))
  go_enter Try.func112, Try.ntmps112
  go_wp2_with fail
  generalize (((w.alloc (.cells #[.int .i64 (root : Int), .int .i64 (y : Int), .int .i64 z] 72)).alloc (.cells #[.int .i64 0, .int .i64 0, .int .i64 0, .int .i64 0, .bool false, .int .i64 0] 131)).alloc (.cells #[.int .i64 (d : Int), .int .i64 (p : Int), .int .i64 (y : Int), .int .i64 1, .bool false] 47)) = V at *
  go_at_call 22
  refine (HPR.out _ HS0.out.b).mono ?_
  rintro e w1 ⟨rfl, hb⟩
  have HS1 := Lib.hid (HS0.out.below hb)
  clear hb HS0 HPR
  have e0 : w1.cell? ⟨w.heap.size, 0, none⟩ = some (.int .i64 (root : Int)) := cell_of HS1.out.h0 rfl
  have e1 : w1.cell? ⟨w.heap.size, 1, none⟩ = some (.int .i64 (y : Int)) := cell_of HS1.out.h0 rfl
  have k3 : w1.cell? ⟨w.heap.size + 1 + 1, 3, none⟩ = some (.int .i64 1) := cell_of HS1.out.h2 rfl
  have f3 : w1.frozen? ⟨w.heap.size + 1 + 1, 3, none⟩ = false := free_of HS1.out.h2 _
  have HS2 := Lib.hid (HS1.out.setK 2)
  have e0' : (w1.setCell ⟨w.heap.size + 1 + 1, 3, none⟩ (.int .i64 2)).cell? ⟨w.heap.size, 0, none⟩ = some (.int .i64 (root : Int)) := cell_of HS2.out.h0 rfl
  have e1' : (w1.setCell ⟨w.heap.size + 1 + 1, 3, none⟩ (.int .i64 2)).cell? ⟨w.heap.size, 1, none⟩ = some (.int .i64 (y : Int)) := cell_of HS2.out.h0 rfl
  go_wp2_with fail
  clear e0 e1 e0' e1' k3 f3 HS1
  go_at_call 20
  refine (HDN.out _ HS2.out.b).mono ?_
  rintro e w3 ⟨rfl, hb⟩
  have HS3 := Lib.hid (HS2.out.below hb)
  clear hb HS2 HDN
  have k4 : w3.cell? ⟨w.heap.size + 1 + 1, 4, none⟩ = some (.bool false) := cell_of HS3.out.h2 rfl
  have f4 : w3.frozen? ⟨w.heap.size + 1 + 1, 4, none⟩ = false := free_of HS3.out.h2 _
  have HS4 := Lib.hid (HS3.out.setD dn)
  go_wp2_with fail
  clear k4 f4 HS3
  generalize (w3.setCell ⟨w.heap.size + 1 + 1, 4, none⟩ (.bool dn)) = W5 at *
  obtain ⟨ga, pa, ca, r1, r2, r3, r4⟩ := (HDT.out.below HS4.out.b).rows y hy
  have r5 := r4 d hd
  rw [HTT.out] at r5
  clear r4
  have k0 : W5.cell? ⟨w.heap.size + 1 + 1, 0, none⟩ = some (.int .i64 (d : Int)) := cell_of HS4.out.h2 rfl
  have k1 : W5.cell? ⟨w.heap.size + 1 + 1, 1, none⟩ = some (.int .i64 (p : Int)) := cell_of HS4.out.h2 rfl
  have k2 : W5.cell? ⟨w.heap.size + 1 + 1, 2, none⟩ = some (.int .i64 (y : Int)) := cell_of HS4.out.h2 rfl
  have k3 : W5.cell? ⟨w.heap.size + 1 + 1, 3, none⟩ = some (.int .i64 2) := cell_of HS4.out.h2 rfl
  have k4 : W5.cell? ⟨w.heap.size + 1 + 1, 4, none⟩ = some (.bool dn) := cell_of HS4.out.h2 rfl
  have e1 : W5.cell? ⟨w.heap.size, 1, none⟩ = some (.int .i64 (y : Int)) := cell_of HS4.out.h0 rfl
  have e2 : W5.cell? ⟨w.heap.size, 2, none⟩ = some (.int .i64 z) := cell_of HS4.out.h0 rfl
  have z0' : W5.cell? ⟨w.heap.size + 1, 0, none⟩ = some (.int .i64 0) := cell_of HS4.out.h1 rfl
  have z1' : W5.cell? ⟨w.heap.size + 1, 1, none⟩ = some (.int .i64 0) := cell_of HS4.out.h1 rfl
  have z2' : W5.cell? ⟨w.heap.size + 1, 2, none⟩ = some (.int .i64 0) := cell_of HS4.out.h1 rfl
  have z3' : W5.cell? ⟨w.heap.size + 1, 3, none⟩ = some (.int .i64 0) := cell_of HS4.out.h1 rfl
  have z4' : W5.cell? ⟨w.heap.size + 1, 4, none⟩ = some (.bool false) := cell_of HS4.out.h1 rfl
  have z5' : W5.cell? ⟨w.heap.size + 1, 5, none⟩ = some (.int .i64 0) := cell_of HS4.out.h1 rfl
  have y0' : W5.frozen? ⟨w.heap.size + 1, 0, none⟩ = false := free_of HS4.out.h1 _
  have y1' : W5.frozen? ⟨w.heap.size + 1, 1, none⟩ = false := free_of HS4.out.h1 _
  have y2' : W5.frozen? ⟨w.heap.size + 1, 2, none⟩ = false := free_of HS4.out.h1 _
  have y3' : W5.frozen? ⟨w.heap.size + 1, 3, none⟩ = false := free_of HS4.out.h1 _
  have y4' : W5.frozen? ⟨w.heap.size + 1, 4, none⟩ = false := free_of HS4.out.h1 _
  have y5' : W5.frozen? ⟨w.heap.size + 1, 5, none⟩ = false := free_of HS4.out.h1 _
  have HB := Lib.hid HS4.out.b
  clear HS4 HDT HTT
  go_region
  go_wp2
  (try simp only [Exit.inBlock, Exit.then])
  refine bodyPost_ret (v := .agg #[.int .i64 (d : Int), .int .i64 (p : Int), .int .i64 (y : Int), .int .i64 2, .bool dn, .int .i64 (z + t)]) (by rw [results_cell rfl]; go_simp) rfl ?_
  refine ⟨rfl, ?_⟩
  have hh : ∀ k, w.heap.size ≤ (Addr.mk (w.heap.size + 1) k none).block := fun k => Nat.le_succ _
  exact below_drewB ((((((HB.out.setCell (hh 0) _).setCell (hh 1) _).setCell (hh 2) _).setCell (hh 3) _).setCell (hh 4) _).setCell (hh 5) _)
theorem wg3 (vd : Value) (l : List E) (r root y d p : Nat) (z : Int) (w : World) (hrd : RdR w vd (gT (allRow l r) r r)) (hv : Valid (r : Int) 0 l) (hroot : root < r) (hy : y < r) (hd : d < r) (hp : p < r) (hz : 0 ≤ z ∧ z ≤ 65535) (hpd : ¬ p = d) (hav : avT (gT (allRow l r) r r) y p d = false) :
    Calls Try.prog 112 #[vd, .agg #[.int .i64 (root : Int), .int .i64 (y : Int), .int .i64 z], .int .i64 (d : Int), .int .i64 (p : Int)] w fun e w' => e = .returned (.agg #[.int .i64 (d : Int), .int .i64 (p : Int), .int .i64 (y : Int), .int .i64 1, .bool (dnT (gT (allRow l r) r r) root y d), .int .i64 (z + T l (y : Int) (d : Int))]) ∧ Below w.heap.size w w' := by
  have hft : FitR (gT (allRow l r) r r) := all_fitV hv
  have hT := T_bound hv hy hd
  have HPR : Hid (∀ W, Below w.heap.size w W → Calls Try.prog 22 #[vd, .int .i64 (y : Int), .int .i64 (p : Int), .int .i64 (d : Int)] W fun e w' => e = .returned (.bool (avT (gT (allRow l r) r r) y p d)) ∧ Below W.heap.size W w') := fun W hW => protects_any _ vd y p d W (hrd.below hW) hft
  have HDN : Hid (∀ W, Below w.heap.size w W → Calls Try.prog 20 #[vd, .int .i64 (root : Int), .int .i64 (y : Int), .int .i64 (d : Int)] W fun e w' => e = .returned (.bool (dnT (gT (allRow l r) r r) root y d)) ∧ Below W.heap.size W w') := fun W hW => down_any _ vd root y d W (hrd.below hW)
  obtain ⟨b, o, c, rfl, hc, hdt⟩ := DT.of hrd (allT_tb l r).1 (allT_tb l r).2 (by omega)
  have HDT := Lib.hid hdt
  generalize dnT (gT (allRow l r) r r) root y d = dn at *
  generalize avT (gT (allRow l r) r r) y p d = av at *
  obtain ⟨z0, z1⟩ := hz
  obtain ⟨t, ht⟩ : ∃ t, T l (y : Int) (d : Int) = t := ⟨_, rfl⟩
  rw [ht] at hT ⊢
  have HTT := Lib.hid ht
  obtain ⟨t0, t1⟩ := hT
  have y0 : (0 : Int) ≤ (y : Int) := by omega
  have y1 : (y : Int) < (r : Int) := by omega
  have d0 : (0 : Int) ≤ (d : Int) := by omega
  have d1 : (d : Int) < (r : Int) := by omega
  have HR8 : Hid (r ≤ 128) := by have := hv.s; show _ ≤ _; omega
  clear hrd hft ht hdt hv
  subst hav
  have HE0 : ((p : Int) != (d : Int)) = true := by simp; omega
  have HS0 := Lib.hid (WgS.start w (root : Int) (y : Int) z (d : Int) (p : Int))
  go_enter Try.func112, Try.ntmps112
  go_wp2_with fail
  generalize (((w.alloc (.cells #[.int .i64 (root : Int), .int .i64 (y : Int), .int .i64 z] 72)).alloc (.cells #[.int .i64 0, .int .i64 0, .int .i64 0, .int .i64 0, .bool false, .int .i64 0] 131)).alloc (.cells #[.int .i64 (d : Int), .int .i64 (p : Int), .int .i64 (y : Int), .int .i64 1, .bool false] 47)) = V at *
  go_at_call 22
  refine (HPR.out _ HS0.out.b).mono ?_
  rintro e w1 ⟨rfl, hb⟩
  have HS1 := Lib.hid (HS0.out.below hb)
  clear hb HS0 HPR
  have e0 : w1.cell? ⟨w.heap.size, 0, none⟩ = some (.int .i64 (root : Int)) := cell_of HS1.out.h0 rfl
  have e1 : w1.cell? ⟨w.heap.size, 1, none⟩ = some (.int .i64 (y : Int)) := cell_of HS1.out.h0 rfl
  go_wp2_with fail
  clear e0 e1
  go_at_call 20
  refine (HDN.out _ HS1.out.b).mono ?_
  rintro e w3 ⟨rfl, hb⟩
  have HS3 := Lib.hid (HS1.out.below hb)
  clear hb HS1 HDN
  have k4 : w3.cell? ⟨w.heap.size + 1 + 1, 4, none⟩ = some (.bool false) := cell_of HS3.out.h2 rfl
  have f4 : w3.frozen? ⟨w.heap.size + 1 + 1, 4, none⟩ = false := free_of HS3.out.h2 _
  have HS4 := Lib.hid (HS3.out.setD dn)
  go_wp2_with fail
  clear k4 f4 HS3
  generalize (w3.setCell ⟨w.heap.size + 1 + 1, 4, none⟩ (.bool dn)) = W5 at *
  obtain ⟨ga, pa, ca, r1, r2, r3, r4⟩ := (HDT.out.below HS4.out.b).rows y hy
  have r5 := r4 d hd
  rw [HTT.out] at r5
  clear r4
  have k0 : W5.cell? ⟨w.heap.size + 1 + 1, 0, none⟩ = some (.int .i64 (d : Int)) := cell_of HS4.out.h2 rfl
  have k1 : W5.cell? ⟨w.heap.size + 1 + 1, 1, none⟩ = some (.int .i64 (p : Int)) := cell_of HS4.out.h2 rfl
  have k2 : W5.cell? ⟨w.heap.size + 1 + 1, 2, none⟩ = some (.int .i64 (y : Int)) := cell_of HS4.out.h2 rfl
  have k3 : W5.cell? ⟨w.heap.size + 1 + 1, 3, none⟩ = some (.int .i64 1) := cell_of HS4.out.h2 rfl
  have k4 : W5.cell? ⟨w.heap.size + 1 + 1, 4, none⟩ = some (.bool dn) := cell_of HS4.out.h2 rfl
  have e1 : W5.cell? ⟨w.heap.size, 1, none⟩ = some (.int .i64 (y : Int)) := cell_of HS4.out.h0 rfl
  have e2 : W5.cell? ⟨w.heap.size, 2, none⟩ = some (.int .i64 z) := cell_of HS4.out.h0 rfl
  have z0' : W5.cell? ⟨w.heap.size + 1, 0, none⟩ = some (.int .i64 0) := cell_of HS4.out.h1 rfl
  have z1' : W5.cell? ⟨w.heap.size + 1, 1, none⟩ = some (.int .i64 0) := cell_of HS4.out.h1 rfl
  have z2' : W5.cell? ⟨w.heap.size + 1, 2, none⟩ = some (.int .i64 0) := cell_of HS4.out.h1 rfl
  have z3' : W5.cell? ⟨w.heap.size + 1, 3, none⟩ = some (.int .i64 0) := cell_of HS4.out.h1 rfl
  have z4' : W5.cell? ⟨w.heap.size + 1, 4, none⟩ = some (.bool false) := cell_of HS4.out.h1 rfl
  have z5' : W5.cell? ⟨w.heap.size + 1, 5, none⟩ = some (.int .i64 0) := cell_of HS4.out.h1 rfl
  have y0' : W5.frozen? ⟨w.heap.size + 1, 0, none⟩ = false := free_of HS4.out.h1 _
  have y1' : W5.frozen? ⟨w.heap.size + 1, 1, none⟩ = false := free_of HS4.out.h1 _
  have y2' : W5.frozen? ⟨w.heap.size + 1, 2, none⟩ = false := free_of HS4.out.h1 _
  have y3' : W5.frozen? ⟨w.heap.size + 1, 3, none⟩ = false := free_of HS4.out.h1 _
  have y4' : W5.frozen? ⟨w.heap.size + 1, 4, none⟩ = false := free_of HS4.out.h1 _
  have y5' : W5.frozen? ⟨w.heap.size + 1, 5, none⟩ = false := free_of HS4.out.h1 _
  have HB := Lib.hid HS4.out.b
  clear HS4 HDT HTT
  go_region
  go_wp2
  (try simp only [Exit.inBlock, Exit.then])
  refine bodyPost_ret (v := .agg #[.int .i64 (d : Int), .int .i64 (p : Int), .int .i64 (y : Int), .int .i64 1, .bool dn, .int .i64 (z + t)]) (by rw [results_cell rfl]; go_simp) rfl ?_
  refine ⟨rfl, ?_⟩
  have hh : ∀ k, w.heap.size ≤ (Addr.mk (w.heap.size + 1) k none).block := fun k => Nat.le_succ _
  exact below_drewB ((((((HB.out.setCell (hh 0) _).setCell (hh 1) _).setCell (hh 2) _).setCell (hh 3) _).setCell (hh 4) _).setCell (hh 5) _)
theorem weigh_any (vd : Value) (l : List E) (r root y d p : Nat) (z : Int) (w : World) (hrd : RdR w vd (gT (allRow l r) r r)) (hv : Valid (r : Int) 0 l) (hroot : root < r) (hy : y < r) (hd : d < r) (hp : p < r) (hz : 0 ≤ z ∧ z ≤ 65535) (hroot2 : True) (he : ((root : Int), (y : Int), z) ∈ l) :
    Calls Try.prog 112 #[vd, .agg #[.int .i64 (root : Int), .int .i64 (y : Int), .int .i64 z], .int .i64 (d : Int), .int .i64 (p : Int)] w fun e w' => e = .returned (caV (weighA l root d p ((root : Int), (y : Int), z))) ∧ Below w.heap.size w w' := by
  have ht := all_ent l r
  have hdn := dnT_eq (l := l) (tab := gT (allRow l r) r r) (n := r) ht (s := root) (a := y) (d := d) ⟨by omega, by omega⟩ ⟨by omega, by omega⟩ ⟨by omega, by omega⟩
  have hav := avT_iff (l := l) (tab := gT (allRow l r) r r) (n := r) ht (a := y) (x := p) (d := d) ⟨by omega, by omega⟩ ⟨by omega, by omega⟩ ⟨by omega, by omega⟩
  unfold caV weighA
  dsimp only
  rw [← hdn]
  by_cases hpd : p = d
  · subst hpd
    rw [if_neg (fun h => h.1 rfl)]
    exact wg1 vd l r root y p z w hrd hv hroot hy hd hz
  · cases h : avT (gT (allRow l r) r r) y p d
    · rw [if_neg (fun k => by rw [hav.2 k.2] at h; cases h)]
      exact wg3 vd l r root y d p z w hrd hv hroot hy hd hp hz hpd h
    · rw [if_pos ⟨by omega, hav.1 h⟩]
      exact wg2 vd l r root y d p z w hrd hv hroot hy hd hp hz hpd h
end Go.Proofs.Ytmbogobebllheaa
namespace Go.Proofs.Ytmbogobebllheaa
open Go.RowKit HM GM SP Go.Lib
set_option linter.unusedSimpArgs false
set_option linter.unusedVariables false
set_option maxHeartbeats 4000000
set_option maxRecDepth 100000
noncomputable def rmO (R N : Int) (l : List E) (x y : Int) : Option Int := if lkE R N l x y = 0 then remF (T l) x (psF R N l x y) (qsF R N l x y) else none
def remK (s : Int) (q : List Int) (y : Int) : Bool := !(y == s) && q.contains y
theorem rem_snoc {t : Int → Int → Int} {s : Int} {q p : List Int} {k : Nat} {y : Int} (hy : p[k]? = some y) : ((p.take (k + 1)).filter (remK s q)).foldl (remStep t s) none = if remK s q y = true then remStep t s (((p.take k).filter (remK s q)).foldl (remStep t s) none) y else ((p.take k).filter (remK s q)).foldl (remStep t s) none := by
  rw [List.take_add_one, hy, List.filter_append, List.foldl_append]
  by_cases h : remK s q y = true
  · rw [if_pos h]; simp [h]
  · rw [if_neg h]; simp [h]
def oN (a : Option Nat) : Option Int := a.map (fun n : Nat => (n : Int))
theorem rm_err (R N : Int) (l : List E) (s : Value) (x y : Int) (w : World) (hR : I64 R) (hN : I64 N) (hr : Rd3 w s l) (h : lkE R N l x y ≠ 0) :
    Calls Try.prog 30 #[.agg #[.int .i64 R, .int .i64 N, s], .int .i64 x, .int .i64 y] w fun e w' => e = .returned (.tuple #[.int .i64 0, .bool false, .int .i64 (lkE R N l x y)]) ∧ Below w.heap.size w w' := by
  have HPS : Hid (∀ W, Below w.heap.size w W → Calls Try.prog 28 #[.agg #[.int .i64 R, .int .i64 N, s], .int .i64 x, .int .i64 y] W fun e w' => ∃ v, e = .returned (.tuple #[v, .int .i64 (lkE R N l x y)]) ∧ RdI w' v (psF R N l x y) ∧ Below W.heap.size W w') := fun W hW => psp_any R N l s x y W hR hN (hr.below hW)
  obtain ⟨ad, cap, hform⟩ := rd3_slice hr
  obtain ⟨L, hL⟩ : ∃ L, l.length = L := ⟨_, rfl⟩
  rw [hL] at hform
  subst hform
  have HB0 := Lib.hid (below_alloc w (.cells #[.int .i64 R, .int .i64 N, .slice ad L cap] 27))
  have HX0 : Hid ((w.alloc (.cells #[.int .i64 R, .int .i64 N, .slice ad L cap] 27)).heap[w.heap.size]? = some (.cells #[.int .i64 R, .int .i64 N, .slice ad L cap] 27 (0, 0))) := heap_alloc_new _ _
  generalize lkE R N l x y = er at *
  have hb0 : (er != 0) = true := by simpa using h
  clear hr hL h
  go_enter Try.func30, Try.ntmps30
  go_wp2_with fail
  go_at_call 28
  refine (HPS.out _ HB0.out).mono ?_
  rintro e w1 ⟨v, rfl, hrd, hb⟩
  have HB1 := Lib.hid (below_then HB0.out hb)
  obtain ⟨a1, c1, rfl⟩ := hrd.form
  clear hb HPS hrd
  go_wp2
  go_ret3
  exact ⟨rfl, HB1.out⟩
theorem rm_ok (r : Nat) (l : List E) (s : Value) (x y : Nat) (c : Int) (w : World) (hv : Valid (r : Int) 0 l) (hr : Rd3 w s l) (hx : x < r) (hy : y < r) (hE : lkE (r : Int) 0 l x y = 0) (hC : lkC (r : Int) 0 l x y = c) (hc : 0 ≤ c ∧ c ≤ 65535) (ps qs : List Int) (hps : ps = rowF r (spB (T l) (x : Int) (y : Int) c)) (hqs : qs = rowF r (sqB (T l) (x : Int) (y : Int) c)) :
    Calls Try.prog 30 #[.agg #[.int .i64 (r : Int), .int .i64 0, s], .int .i64 (x : Int), .int .i64 (y : Int)] w fun e w' => e = .returned (.tuple #[.int .i64 ((remF (T l) (x : Int) ps qs).getD 0), .bool (remF (T l) (x : Int) ps qs).isSome, .int .i64 0]) ∧ Below w.heap.size w w' := by
  have HPS : Hid (∀ W, Below w.heap.size w W → Calls Try.prog 28 #[.agg #[.int .i64 (r : Int), .int .i64 0, s], .int .i64 (x : Int), .int .i64 (y : Int)] W fun e w' => ∃ v, e = .returned (.tuple #[v, .int .i64 0]) ∧ RdI w' v ps ∧ Below W.heap.size W w') := fun W hW => by rw [hps]; exact psp_ok r l s x y c W hv (hr.below hW) hx hy hE hC hc
  have HQS : Hid (∀ W, Below w.heap.size w W → Calls Try.prog 29 #[.agg #[.int .i64 (r : Int), .int .i64 0, s], .int .i64 (x : Int), .int .i64 (y : Int)] W fun e w' => ∃ v, e = .returned (.tuple #[v, .int .i64 0]) ∧ RdI w' v qs ∧ Below W.heap.size W w') := fun W hW => by rw [hqs]; exact qsp_ok r l s x y c W hv (hr.below hW) hx hy hE hC hc
  have HRun : Hid (∀ W, Below w.heap.size w W → Calls Try.prog 59 #[.agg #[.int .i64 (r : Int), .int .i64 0, s], .int .i64 (x : Int)] W (RunD r l x W)) := fun W hW => run_dist r l s x W hv (hr.below hW) hx
  have HPM : Hid (∀ (k : Nat) (z : Int), ps[k]? = some z → ∃ n : Nat, z = (n : Int) ∧ n < r) := fun k z hk => by
    have := List.mem_of_getElem? hk
    rw [hps, mem_rowF] at this
    exact ⟨z.toNat, by omega, by omega⟩
  have HRF : Hid (remF (T l) (x : Int) ps qs = (ps.filter (remK x qs)).foldl (remStep (T l) x) none) := rfl
  generalize remF (T l) (x : Int) ps qs = rf at *
  obtain ⟨ad, cap, hform⟩ := rd3_slice hr
  obtain ⟨L, hL⟩ : ∃ L, l.length = L := ⟨_, rfl⟩
  rw [hL] at hform
  subst hform
  have HB0 := Lib.hid (below_alloc w (.cells #[.int .i64 (r : Int), .int .i64 0, .slice ad L cap] 27))
  have HX0 : Hid ((w.alloc (.cells #[.int .i64 (r : Int), .int .i64 0, .slice ad L cap] 27)).heap[w.heap.size]? = some (.cells #[.int .i64 (r : Int), .int .i64 0, .slice ad L cap] 27 (0, 0))) := heap_alloc_new _ _
  clear hr hL hE hC hc hps hqs
  go_enter Try.func30, Try.ntmps30
  go_wp2_with fail
  go_at_call 28
  refine (HPS.out _ HB0.out).mono ?_
  rintro e w1 ⟨pv, rfl, hrd, hb⟩
  have HB1 := Lib.hid (below_then HB0.out hb)
  have HX1 := Lib.hid ((hb.block _ (lt_block HX0.out)).trans HX0.out)
  have q0 : w1.cell? ⟨w.heap.size, 0, none⟩ = some (.int .i64 (r : Int)) := cell_of HX1.out rfl
  have q1 : w1.cell? ⟨w.heap.size, 1, none⟩ = some (.int .i64 0) := cell_of HX1.out rfl
  have q2 : w1.cell? ⟨w.heap.size, 2, none⟩ = some (.slice ad L cap) := cell_of HX1.out rfl
  have HP1 := Lib.hid hrd
  obtain ⟨pa, pc, hpf⟩ := hrd.form
  subst hpf
  clear hb hrd HPS HB0 HX0
  go_wp2_with fail
  go_at_call 29
  refine (HQS.out _ HB1.out).mono ?_
  rintro e w2 ⟨qv, rfl, hrd, hb⟩
  clear q0 q1 q2
  have HB2 := Lib.hid (below_then HB1.out hb)
  have HX2 := Lib.hid ((hb.block _ (lt_block HX1.out)).trans HX1.out)
  have q0 : w2.cell? ⟨w.heap.size, 0, none⟩ = some (.int .i64 (r : Int)) := cell_of HX2.out rfl
  have q1 : w2.cell? ⟨w.heap.size, 1, none⟩ = some (.int .i64 0) := cell_of HX2.out rfl
  have q2 : w2.cell? ⟨w.heap.size, 2, none⟩ = some (.slice ad L cap) := cell_of HX2.out rfl
  have HP2 := Lib.hid (HP1.out.below hb)
  have HQ2 := Lib.hid hrd
  obtain ⟨qa, qc, hqf⟩ := hrd.form
  subst hqf
  clear hb hrd HQS HB1 HX1 HP1
  go_wp2_with fail
  go_at_call 59
  refine (HRun.out _ HB2.out).mono ?_
  rintro e w3 ⟨D, o, cc, ah, nh, ch, ap, np, cp, rfl, hD, hb⟩
  have HB3 := Lib.hid (below_then HB2.out hb)
  have HP3 := Lib.hid ((HP2.out.below hb).below (below_alloc _ (.cells #[.int .i64 (x : Int), .slice (some ⟨D, o, none⟩) r cc, .slice ah nh ch, .slice ap np cp] 74)))
  have HQ3 := Lib.hid ((HQ2.out.below hb).below (below_alloc _ (.cells #[.int .i64 (x : Int), .slice (some ⟨D, o, none⟩) r cc, .slice ah nh ch, .slice ap np cp] 74)))
  have HD : Hid (∀ z, z < r → (w3.alloc (.cells #[.int .i64 (x : Int), .slice (some ⟨D, o, none⟩) r cc, .slice ah nh ch, .slice ap np cp] 74)).cell? ⟨D, o + z, none⟩ = some (.int .i64 (T l (x : Int) (z : Int)))) := fun z hz => carry (below_alloc _ _) (hD.2.2 z hz)
  have HTX : Hid ((w3.alloc (.cells #[.int .i64 (x : Int), .slice (some ⟨D, o, none⟩) r cc, .slice ah nh ch, .slice ap np cp] 74)).cell? ⟨w3.heap.size, 1, none⟩ = some (.slice (some ⟨D, o, none⟩) r cc)) := cell_of (heap_alloc_new _ _) rfl
  have HBV := Lib.hid (below_then HB3.out (below_alloc w3 (.cells #[.int .i64 (x : Int), .slice (some ⟨D, o, none⟩) r cc, .slice ah nh ch, .slice ap np cp] 74)))
  clear hb hD q0 q1 q2 HB2 HX2 HP2 HQ2 HRun HB3
  go_wp2_with fail
  generalize (w3.alloc (.cells #[.int .i64 (x : Int), .slice (some ⟨D, o, none⟩) r cc, .slice ah nh ch, .slice ap np cp] 74)) = V at *
  obtain ⟨M, hM⟩ : ∃ M, ps.length = M := ⟨_, rfl⟩
  have HM := Lib.hid hM
  have HCT : Hid (∀ (z : Nat) W, Below V.heap.size V W → Calls Try.prog 76 #[.slice qa qs.length qc, .int .i64 (z : Int)] W fun e w' => e = .returned (.bool (decide ((z : Int) ∈ qs))) ∧ Below W.heap.size W w') := fun z W hW => contains_any qs _ z W (HQ3.out.below hW)
  generalize qs.length = qn at *
  obtain ⟨pad, pcap, hpe, hp1, hp2, hpr⟩ := HP3.out
  rw [hM] at hpe hp1 ⊢
  cases hpe
  have HPR := Lib.hid hpr
  have HA0 : Hid (((ps.take 0).filter (remK x qs)).foldl (remStep (T l) x) none = oN none) := rfl
  have HN0 : Hid (∀ b, (none : Option Nat) = some b → b < r) := fun b h => by cases h
  have HS0 : Hid (Below V.heap.size V V) := Below.refl _ _
  clear hpr HP3 HQ3 hM
  go_loopg [13, 14, 16, 48] M (fun g s13 s14 s16 s48 wr => ∃ (k : Nat) (a : Option Nat), k ≤ M ∧ M - k ≤ g ∧ s13 = .int .i64 ((a.getD 0 : Nat) : Int) ∧ s14 = .bool a.isSome ∧ (∃ q, q = s16) ∧ s48 = .int .i64 (k : Int) ∧ Hid (((ps.take k).filter (remK x qs)).foldl (remStep (T l) x) none = oN a) ∧ Hid (∀ b, a = some b → b < r) ∧ Hid (Below V.heap.size V wr))
  case atStart => exact ⟨0, none, by omega, by omega, rfl, rfl, ⟨_, rfl⟩, rfl, HA0, HN0, HS0⟩
  case round =>
    clear HA0 HN0 HS0
    obtain ⟨k, a, hk, hkg, rfl, rfl, ⟨u16, rfl⟩, rfl, HA, HN, HS⟩ := hrel
    by_cases hkl : k < M
    · have k0 : (0 : Int) ≤ (k : Int) := by omega
      have k1 : (k : Int) < (M : Int) := by omega
      obtain ⟨z', hz'⟩ : ∃ z, ps[k]? = some z := ⟨_, List.getElem?_eq_getElem (by have := HM.out; omega)⟩
      obtain ⟨z, rfl, hz⟩ := HPM.out k z' hz'
      obtain ⟨pb, po, rfl, hpb, hpc⟩ := HPR.out k _ hz'
      have e1 := carry HS.out hpc
      have HSN := Lib.hid (rem_snoc (t := T l) (s := (x : Int)) (q := qs) hz')
      clear hpc hz'
      by_cases hzx : z = x
      · have HA2 : Hid (((ps.take (k + 1)).filter (remK x qs)).foldl (remStep (T l) x) none = oN a) := by
          show _ = _; rw [HSN.out, if_neg (by unfold remK; subst hzx; simp)]; exact HA.out
        subst hzx
        clear HSN HA
        go_wp2_with fail
        go_roundg (M - (k + 1))
        case measure => omega
        case rel => exact ⟨k + 1, a, by omega, Nat.le_refl _, rfl, rfl, ⟨_, rfl⟩, by go_num, HA2, HN, HS⟩
      · have n1 : ((z : Int) == (x : Int)) = false := by simp; omega
        go_wp2_with fail
        go_at_call 76
        refine (HCT.out z _ HS.out).mono ?_
        rintro e W9 ⟨rfl, hb⟩
        have HS3 := Lib.hid (below_then HS.out hb)
        clear hb HS e1
        by_cases hq : (z : Int) ∈ qs
        · have t1 : decide ((z : Int) ∈ qs) = true := decide_eq_true hq
          have HK : Hid (remK x qs z = true) := by show _ = _; unfold remK; rw [n1]; simpa using hq
          simp only [t1]
          clear t1 hq
          have z0 : (0 : Int) ≤ (z : Int) := by omega
          have z1 : (z : Int) < (r : Int) := by omega
          cases a with
          | none =>
            have HA2 : Hid (((ps.take (k + 1)).filter (remK x qs)).foldl (remStep (T l) x) none = oN (some z)) := by show _ = _; rw [HSN.out, if_pos HK.out, HA.out]; rfl
            have HN2 : Hid (∀ b, (some z : Option Nat) = some b → b < r) := fun b h => by cases h; exact hz
            have i0 : (none : Option Nat).isSome = false := rfl
            simp only [i0, Option.getD_none]
            clear HSN HA HK HN
            go_wp2_with fail
            go_quiet (fail)
            go_wp2_with fail
            go_roundg (M - (k + 1))
            case measure => omega
            case rel => exact ⟨k + 1, some z, by omega, Nat.le_refl _, rfl, rfl, ⟨_, rfl⟩, by go_num, HA2, HN2, below_drewN HS3.out _⟩
          | some b =>
            have hb := HN.out b rfl
            have d2 : W9.cell? ⟨w3.heap.size, 1, none⟩ = some (.slice (some ⟨D, o, none⟩) r cc) := carry HS3.out HTX.out
            have d3 := carry HS3.out (HD.out z hz)
            have d4 := carry HS3.out (HD.out b hb)
            obtain ⟨t1, ht1⟩ : ∃ t, T l (x : Int) (z : Int) = t := ⟨_, rfl⟩
            obtain ⟨t2, ht2⟩ : ∃ t, T l (x : Int) (b : Int) = t := ⟨_, rfl⟩
            have HSX : Hid (((ps.take (k + 1)).filter (remK x qs)).foldl (remStep (T l) x) none = if t1 < t2 then some (z : Int) else some (b : Int)) := by show _ = _; rw [HSN.out, if_pos HK.out, HA.out, ← ht1, ← ht2]; rfl
            rw [ht1] at d3
            rw [ht2] at d4
            have b0 : (0 : Int) ≤ (b : Int) := by omega
            have b1 : (b : Int) < (r : Int) := by omega
            have i1 : (some b : Option Nat).isSome = true := rfl
            simp only [i1, Option.getD_some]
            clear ht1 ht2 HSN HA HK
            by_cases hlt : t1 < t2
            · have HA2 : Hid (((ps.take (k + 1)).filter (remK x qs)).foldl (remStep (T l) x) none = oN (some z)) := by have := HSX.out; rw [if_pos hlt] at this; exact this
              have HN2 : Hid (∀ b, (some z : Option Nat) = some b → b < r) := fun b h => by cases h; exact hz
              have l1 : decide (t1 < t2) = true := decide_eq_true hlt
              clear HSX HN
              go_wp2_with fail
              go_quiet (fail)
              go_wp2_with fail
              go_roundg (M - (k + 1))
              case measure => omega
              case rel => exact ⟨k + 1, some z, by omega, Nat.le_refl _, rfl, rfl, ⟨_, rfl⟩, by go_num, HA2, HN2, below_drewN HS3.out _⟩
            · have HA2 : Hid (((ps.take (k + 1)).filter (remK x qs)).foldl (remStep (T l) x) none = oN (some b)) := by have := HSX.out; rw [if_neg hlt] at this; exact this
              have l1 : decide (t1 < t2) = false := decide_eq_false hlt
              clear HSX
              go_wp2_with fail
              go_quiet (fail)
              go_wp2_with fail
              go_roundg (M - (k + 1))
              case measure => omega
              case rel => exact ⟨k + 1, some b, by omega, Nat.le_refl _, rfl, rfl, ⟨_, rfl⟩, by go_num, HA2, HN, below_drewN HS3.out _⟩
        · have t1 : decide ((z : Int) ∈ qs) = false := decide_eq_false hq
          have HA2 : Hid (((ps.take (k + 1)).filter (remK x qs)).foldl (remStep (T l) x) none = oN a) := by
            show _ = _; rw [HSN.out, if_neg (by unfold remK; simpa using fun _ => hq)]; exact HA.out
          simp only [t1]
          clear HSN HA t1 hq
          go_wp2_with fail
          go_roundg (M - (k + 1))
          case measure => omega
          case rel => exact ⟨k + 1, a, by omega, Nat.le_refl _, rfl, rfl, ⟨_, rfl⟩, by go_num, HA2, HN, HS3⟩
    · have k1 : decide ((k : Int) < (M : Int)) = false := decide_eq_false (by omega)
      have HF : Hid (rf = oN a) := by
        have h1 := HA.out
        rw [List.take_of_length_le (by have := HM.out; omega)] at h1
        show _ = _
        rw [HRF.out]; exact h1
      have HBF := Lib.hid (below_then HBV.out HS.out)
      clear HS HA
      go_wp2
      go_ret3
      exact ⟨by rw [HF.out]; cases a <;> rfl, HBF.out⟩
theorem rm_any (R N : Int) (l : List E) (s : Value) (x y : Int) (w : World) (hR : I64 R) (hN : I64 N) (hr : Rd3 w s l) :
    Calls Try.prog 30 #[.agg #[.int .i64 R, .int .i64 N, s], .int .i64 x, .int .i64 y] w fun e w' => e = .returned (.tuple #[.int .i64 ((rmO R N l x y).getD 0), .bool (rmO R N l x y).isSome, .int .i64 (lkE R N l x y)]) ∧ Below w.heap.size w w' := by
  by_cases h : lkE R N l x y = 0
  · obtain ⟨h1, rfl, h3, h4, h5⟩ := lkE_ok h
    obtain ⟨r, rfl⟩ : ∃ r : Nat, R = (r : Int) := ⟨R.toNat, by omega⟩
    obtain ⟨a, rfl⟩ : ∃ a : Nat, x = (a : Int) := ⟨x.toNat, by omega⟩
    obtain ⟨b, rfl⟩ : ∃ b : Nat, y = (b : Int) := ⟨y.toNat, by omega⟩
    have := rm_ok r l s a b (lkC (r : Int) 0 l a b) w (chk_iff.1 h1) hr (by omega) (by omega) h rfl (lkC_small h) (psF (r : Int) 0 l a b) (qsF (r : Int) 0 l a b) (by unfold psF; rw [if_pos h, Int.toNat_natCast]) (by unfold qsF; rw [if_pos h, Int.toNat_natCast])
    unfold rmO
    rw [if_pos h, h]
    exact this
  · unfold rmO
    rw [if_neg h]
    exact rm_err R N l s x y w hR hN hr h
end Go.Proofs.Ytmbogobebllheaa
