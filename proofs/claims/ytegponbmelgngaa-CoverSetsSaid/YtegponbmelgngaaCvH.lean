/-
  The walk of combine.
-/
import Derived.Test.YtegponbmelgngaaCvE
import Derived.Test.YtegponbmelgngaaCvF
import Derived.Test.YtegponbmelgngaaCvG
namespace Go.Proofs.Ytegponbmelgngaa
open Go.RowKit
set_option linter.unusedSimpArgs false
set_option linter.unusedVariables false
set_option maxHeartbeats 4000000
set_option maxRecDepth 100000

theorem GL.uni0 {S : Nat → Bool} {A : Nat} {l : List PP} (h : GL S A 0 l) (ha : A % 2 ^ 0 = 0) : uniB l (pfx (A, 0)) = true := by
  rcases h.uni (by omega) ha with ⟨h, _⟩ | ⟨_, hne, _, hk⟩
  · exact h
  · cases l with
    | nil => exact absurd rfl hne
    | cons x r => have := hk (blk x) (by simp); omega
theorem gl_ascd {a : List PP} (ha : a.length ≤ 4294967296) (fa : ∀ x ∈ a, x.1 < 4294967296 ∧ I64 x.2) : GL (mem a) 0 32 (ascd a) :=
  ⟨Nat.le_trans (ascd_len a) ha, fun x hx => ⟨(fa x ((ascd_mem a x).1 hx).1).1, ((ascd_mem a x).1 hx).2⟩, ascd_asc a, inv_ascd (fun x hx => (fa x hx).1)⟩
theorem ownS_rdK {B : Nat} {w : World} {v : Value} {l : List PP} (h : OwnS B w v l) : RdK (fun k => B ≤ k ∧ k < w.heap.size) w v l := by
  rcases h with ⟨rfl, rfl⟩ | ⟨g, hg, h⟩
  · exact rdK_empty
  · have hc := h.cells
    obtain ⟨cap, rfl, hcap, _, hb⟩ := h
    exact ⟨_, cap, rfl, hcap, fun i x hx => ⟨g, 0, rfl, ⟨hg, hb⟩, hc i x hx⟩⟩
theorem comb67_all (S Sa Sb : Nat → Bool) (hS : ∀ y, S y = ((Sa y) || (Sb y))) (kb r vb : Nat) : ∀ k, CombV S Sa Sb 67 kb r vb k := by
  intro k
  induction k with
  | zero =>
    intro A n la lb va vb' L K w hn hk ha htop ga gb ra rb kkb kvb ck cv hR hL hLe
    exact comb67_leaf S Sa Sb hS kb r vb 0 A n la lb va vb' L K w hn hk ha htop ga gb ra rb kkb ck hR hL (ga.uni0 ha) (gb.uni0 ha)
  | succ k ih =>
    intro A n la lb va vb' L K w hn hk ha htop ga gb ra rb kkb kvb ck cv hR hL hLe
    cases ua : uniB la (pfx (A, k + 1))
    · exact comb_partA S Sa Sb 67 kb r vb k A n la lb va vb' L K w hn hk ha htop ga gb ra rb kkb kvb ck cv hR hL hLe ua ih
    · cases ub : uniB lb (pfx (A, k + 1))
      · exact comb_partB S Sa Sb 67 kb r vb k A n la lb va vb' L K w hn hk ha htop ga gb ra rb kkb kvb ck cv hR hL hLe ua ub ih
      · exact comb67_leaf S Sa Sb hS kb r vb (k + 1) A n la lb va vb' L K w hn hk ha htop ga gb ra rb kkb ck hR hL ua ub
theorem combine67_any (a b : List PP) (v1 v2 : Value) (w : World) (ha : a.length ≤ 4294967296) (hb : b.length ≤ 4294967296) (fa : ∀ x ∈ a, x.1 < 4294967296 ∧ I64 x.2) (fb : ∀ x ∈ b, x.1 < 4294967296 ∧ I64 x.2) (hr1 : Rd w v1 a) (hr2 : Rd w v2 b) :
    Calls Try.prog 66 #[v1, v2, .func (.func 67) #[] #[]] w fun e w' => ∃ v B, e = .returned v ∧ CM.Nrm (fun y => ((mem a y) || (mem b y))) B ∧ Rd w' v (B.map pfx) ∧ Below w.heap.size w w' := by
  have HC := Lib.hid (comb67_all (fun y => ((mem a y) || (mem b y))) (mem a) (mem b) (fun y => rfl) w.heap.size (w.heap.size + 1) (w.heap.size + 1 + 1))
  have HA1 : Hid (∀ W, Below w.heap.size w W → Calls Try.prog 59 #[v1] W fun e w' => ∃ v', e = .returned v' ∧ OwnS W.heap.size w' v' (ascd a) ∧ Below W.heap.size W w') := fun W hW => ascending_any a v1 W ha fa (hr1.below hW)
  have HA2 : Hid (∀ W, Below w.heap.size w W → Calls Try.prog 59 #[v2] W fun e w' => ∃ v', e = .returned v' ∧ OwnS W.heap.size w' v' (ascd b) ∧ Below W.heap.size W w') := fun W hW => ascending_any b v2 W hb fb (hr2.below hW)
  have GA : Hid (GL (mem a) 0 32 (ascd a)) := gl_ascd ha fa
  have GB : Hid (GL (mem b) 0 32 (ascd b)) := gl_ascd hb fb
  have HLT : Hid (∀ y, (((mem a y) || (mem b y))) = true → y < 4294967296) := fun y hy => by
    have h1 : mem a y = true ∨ mem b y = true := by revert hy; cases mem a y <;> cases mem b y <;> simp
    rcases h1 with h1 | h1
    · exact mem_lt (fun x hx => (fa x hx).1) y h1
    · exact mem_lt (fun x hx => (fb x hx).1) y h1
  clear hr1 hr2 fa fb ha hb
  go_enter Try.func66, Try.ntmps66
  go_wp2_with fail
  obtain ⟨W, hW⟩ : ∃ W, W = ((w.alloc (.cells #[.func (.func 67) #[] #[]] 77)).alloc (.cells #[.slice none 0 0] 22)).alloc
          (.cells #[(.func (.func 105) #[] #[.pointer (some ⟨w.heap.size, 0, none⟩), .pointer (some ⟨w.heap.size + 1, 0, none⟩), .pointer (some ⟨w.heap.size + 1 + 1, 0, none⟩)])] 112) := ⟨_, rfl⟩
  rw [← hW]
  have hb0 : Below w.heap.size w W := by rw [hW]; exact (((Below.refl _ _).alloc (Nat.le_refl _) _).alloc (by simp) _).alloc (by simp; omega) _
  have hz : W.heap.size = w.heap.size + 3 := by rw [hW]; simp
  have c0 : W.cell? ⟨w.heap.size, 0, none⟩ = some (.func (.func 67) #[] #[]) := by rw [hW]; exact carry (below_alloc _ _) (carry (below_alloc _ _) (cell_of_one (heap_alloc_new w _)))
  have c2 : W.cell? ⟨w.heap.size + 1 + 1, 0, none⟩ = some (.func (.func 105) #[] #[.pointer (some ⟨w.heap.size, 0, none⟩), .pointer (some ⟨w.heap.size + 1, 0, none⟩), .pointer (some ⟨w.heap.size + 1 + 1, 0, none⟩)]) := by
    rw [hW]
    refine cell_of_one (t := 112) ?_
    have := heap_alloc_new ((w.alloc (.cells #[.func (.func 67) #[] #[]] 77)).alloc (.cells #[.slice none 0 0] 22)) (.cells #[(.func (.func 105) #[] #[.pointer (some ⟨w.heap.size, 0, none⟩), .pointer (some ⟨w.heap.size + 1, 0, none⟩), .pointer (some ⟨w.heap.size + 1 + 1, 0, none⟩)])] 112)
    simpa using this
  have c1 : W.heap[w.heap.size + 1]? = some (.cells #[.slice none 0 0] 22 (0, 0)) := by
    rw [hW, Below.heap_alloc _ _ _ (by simp)]
    have := heap_alloc_new (w.alloc (.cells #[.func (.func 67) #[] #[]] 77)) (.cells #[.slice none 0 0] 22)
    simpa using this
  clear hW
  refine wp_region_held_drew (S := fun W' => W'.cell? ⟨w.heap.size + 1 + 1, 0, none⟩ = some (.func (.func 105) #[] #[.pointer (some ⟨w.heap.size, 0, none⟩), .pointer (some ⟨w.heap.size + 1, 0, none⟩), .pointer (some ⟨w.heap.size + 1 + 1, 0, none⟩)])) (by kernel_rfl) c2 (fun hS0 => ?_)
  have hB0 : Below W.heap.size W W.drew := (Below.refl _ _).drew
  refine wpAnyH_take (i := 0) (oi := ⟨some 10, _, _, _, _, _⟩) (v := (.func (.func 105) #[] #[.pointer (some ⟨w.heap.size, 0, none⟩), .pointer (some ⟨w.heap.size + 1, 0, none⟩), .pointer (some ⟨w.heap.size + 1 + 1, 0, none⟩)])) rfl (by kernel_rfl) (by kernel_rfl) (by kernel_rfl) (fun _ _ _ h => h) (Or.inl ⟨by rfl, by intro w' hw'; (try dsimp only at hw'); go_simp⟩) hS0 ?_
  simp only [Act.put, List.setIfInBounds_toArray, List.set_cons_zero, List.set_cons_succ]
  refine wpAnyH_take (i := 1) (oi := ⟨some 11, _, _, _, _, _⟩) (v := .agg #[.int .u32 0, .int .i64 0]) rfl (by kernel_rfl) (by kernel_rfl) (by kernel_rfl) (fun _ _ _ h => h) (Or.inl ⟨by rfl, by intro w' hw'; (try dsimp only at hw'); go_simp⟩) hS0 ?_
  simp only [Act.put, List.setIfInBounds_toArray, List.set_cons_zero, List.set_cons_succ]
  refine wpAnyH_take (i := 2) (oi := ⟨some 12, _, _, _, _, _⟩) (v := v1) rfl (by kernel_rfl) (by kernel_rfl) (by kernel_rfl) (fun _ _ _ h => h) (Or.inl ⟨by rfl, by intro w' hw'; (try dsimp only at hw'); go_simp⟩) hS0 ?_
  simp only [Act.put, List.setIfInBounds_toArray, List.set_cons_zero, List.set_cons_succ]
  refine wpAnyH_take (i := 4) (oi := ⟨some 14, _, _, _, _, _⟩) (v := v2) rfl (by kernel_rfl) (by kernel_rfl) (by kernel_rfl) (fun _ _ _ h => h) (Or.inl ⟨by rfl, by intro w' hw'; (try dsimp only at hw'); go_simp⟩) hS0 ?_
  simp only [Act.put, List.setIfInBounds_toArray, List.set_cons_zero, List.set_cons_succ]
  refine wpAnyH_ready (rs := [3]) (by kernel_rfl) (by simp) ?_
  refine AllReadyH.cons rfl (fun K hK => ?_) AllReadyH.nil
  go_simp
  go_at_call 59
  refine (HA1.out _ (below_then hb0 hB0)).mono ?_
  rintro e w4 ⟨va, rfl, ho, hb⟩
  have hS1 := carry hb hS0
  have hB1 := below_then hB0 hb
  have O4 := Lib.hid (ownS_rdK ho)
  have hzA := hB0.size
  clear ho hb
  go_wp2_with fail
  refine hK.out _ _ hS1 (fun _ => ?_)
  clear hK K hS0
  (try simp only [Act.put, List.setIfInBounds_toArray, List.set_cons_zero, List.set_cons_succ])
  refine wpAnyH_ready (rs := [5]) (by kernel_rfl) (by simp) ?_
  refine AllReadyH.cons rfl (fun K hK => ?_) AllReadyH.nil
  go_simp
  go_at_call 59
  refine (HA2.out _ (below_then hb0 hB1)).mono ?_
  rintro e w5 ⟨vb, rfl, ho, hb⟩
  have hS2 := carry hb hS1
  have hB2 := below_then hB1 hb
  have hzB := hB1.size
  have O5 := Lib.hid (And.intro (O4.out.below hb) (And.intro (ownS_rdK ho) hb.size))
  clear ho hb
  go_wp2_with fail
  refine hK.out _ _ hS2 (fun _ => ?_)
  clear hK K hS1
  (try simp only [Act.put, List.setIfInBounds_toArray, List.set_cons_zero, List.set_cons_succ])
  refine wpAnyH_ready (rs := [6]) (by kernel_rfl) (by simp) ?_
  refine AllReadyH.cons rfl (fun K hK => ?_) AllReadyH.nil
  go_simp
  have hb5 := hB2
  have d0 := carry hb5 c0
  have d1 := (hb5.block _ (lt_of_block c1)).trans c1
  have hR : ResI (w.heap.size + 1) (fun k => k < w5.heap.size ∧ k ≠ w.heap.size + 1) [] w5 := resI_start d1 (fun h => h.2 rfl) (fun k hk => hk.1)
  have hz5 := hb5.size
  refine (HC.out 32 0 0 (ascd a) (ascd b) va vb [] (fun k => k < w5.heap.size ∧ k ≠ w.heap.size + 1) w5 rfl (by omega) (by simp) (by simp) GA.out GB.out (O5.out.1.mono (fun k hk => ⟨by have := O5.out.2.2; omega, by omega⟩)) (O5.out.2.1.mono (fun k hk => ⟨hk.2, by have := hk.1; have := O5.out.2.2; omega⟩)) ⟨by omega, by omega⟩ ⟨by omega, by omega⟩ d0 hS2 hR (Nat.le_refl _) (by simp)).mono ?_
  rintro e w6 ⟨rfl, B, hB, hR6, hK6⟩
  have b6 := Lib.hid ((hb0.trans (hb5.mono (by omega))).trans (hK6.below (B := w.heap.size) (fun k hk => ⟨by omega, by omega⟩)))
  have HB := Lib.hid hB
  have hS3 := hK6.carry (p := ⟨w.heap.size + 1 + 1, 0, none⟩) ⟨by show w.heap.size + 1 + 1 < _; omega, by show w.heap.size + 1 + 1 ≠ _; omega⟩ hS2
  obtain ⟨vr, hcr, hrd⟩ := hR6.rd
  have HRD := Lib.hid hrd
  clear hB hR6 hR d0 d1 hK6 hrd
  go_wp2_with fail
  refine hK.out _ _ hS3 (fun _ => ?_)
  clear hK K
  (try simp only [Act.put, List.setIfInBounds_toArray, List.set_cons_zero, List.set_cons_succ])
  refine wpAnyH_done (by kernel_rfl) ?_ _
  go_wp2
  go_ret
  exact ⟨vr, B, rfl, HB.out.root HLT.out, HRD.out, b6.out⟩
theorem comb68_all (S Sa Sb : Nat → Bool) (hS : ∀ y, S y = ((Sa y) && (Sb y))) (kb r vb : Nat) : ∀ k, CombV S Sa Sb 68 kb r vb k := by
  intro k
  induction k with
  | zero =>
    intro A n la lb va vb' L K w hn hk ha htop ga gb ra rb kkb kvb ck cv hR hL hLe
    exact comb68_leaf S Sa Sb hS kb r vb 0 A n la lb va vb' L K w hn hk ha htop ga gb ra rb kkb ck hR hL (ga.uni0 ha) (gb.uni0 ha)
  | succ k ih =>
    intro A n la lb va vb' L K w hn hk ha htop ga gb ra rb kkb kvb ck cv hR hL hLe
    cases ua : uniB la (pfx (A, k + 1))
    · exact comb_partA S Sa Sb 68 kb r vb k A n la lb va vb' L K w hn hk ha htop ga gb ra rb kkb kvb ck cv hR hL hLe ua ih
    · cases ub : uniB lb (pfx (A, k + 1))
      · exact comb_partB S Sa Sb 68 kb r vb k A n la lb va vb' L K w hn hk ha htop ga gb ra rb kkb kvb ck cv hR hL hLe ua ub ih
      · exact comb68_leaf S Sa Sb hS kb r vb (k + 1) A n la lb va vb' L K w hn hk ha htop ga gb ra rb kkb ck hR hL ua ub
theorem combine68_any (a b : List PP) (v1 v2 : Value) (w : World) (ha : a.length ≤ 4294967296) (hb : b.length ≤ 4294967296) (fa : ∀ x ∈ a, x.1 < 4294967296 ∧ I64 x.2) (fb : ∀ x ∈ b, x.1 < 4294967296 ∧ I64 x.2) (hr1 : Rd w v1 a) (hr2 : Rd w v2 b) :
    Calls Try.prog 66 #[v1, v2, .func (.func 68) #[] #[]] w fun e w' => ∃ v B, e = .returned v ∧ CM.Nrm (fun y => ((mem a y) && (mem b y))) B ∧ Rd w' v (B.map pfx) ∧ Below w.heap.size w w' := by
  have HC := Lib.hid (comb68_all (fun y => ((mem a y) && (mem b y))) (mem a) (mem b) (fun y => rfl) w.heap.size (w.heap.size + 1) (w.heap.size + 1 + 1))
  have HA1 : Hid (∀ W, Below w.heap.size w W → Calls Try.prog 59 #[v1] W fun e w' => ∃ v', e = .returned v' ∧ OwnS W.heap.size w' v' (ascd a) ∧ Below W.heap.size W w') := fun W hW => ascending_any a v1 W ha fa (hr1.below hW)
  have HA2 : Hid (∀ W, Below w.heap.size w W → Calls Try.prog 59 #[v2] W fun e w' => ∃ v', e = .returned v' ∧ OwnS W.heap.size w' v' (ascd b) ∧ Below W.heap.size W w') := fun W hW => ascending_any b v2 W hb fb (hr2.below hW)
  have GA : Hid (GL (mem a) 0 32 (ascd a)) := gl_ascd ha fa
  have GB : Hid (GL (mem b) 0 32 (ascd b)) := gl_ascd hb fb
  have HLT : Hid (∀ y, (((mem a y) && (mem b y))) = true → y < 4294967296) := fun y hy => by
    have h1 : mem a y = true ∨ mem b y = true := by revert hy; cases mem a y <;> cases mem b y <;> simp
    rcases h1 with h1 | h1
    · exact mem_lt (fun x hx => (fa x hx).1) y h1
    · exact mem_lt (fun x hx => (fb x hx).1) y h1
  clear hr1 hr2 fa fb ha hb
  go_enter Try.func66, Try.ntmps66
  go_wp2_with fail
  obtain ⟨W, hW⟩ : ∃ W, W = ((w.alloc (.cells #[.func (.func 68) #[] #[]] 77)).alloc (.cells #[.slice none 0 0] 22)).alloc
          (.cells #[(.func (.func 105) #[] #[.pointer (some ⟨w.heap.size, 0, none⟩), .pointer (some ⟨w.heap.size + 1, 0, none⟩), .pointer (some ⟨w.heap.size + 1 + 1, 0, none⟩)])] 112) := ⟨_, rfl⟩
  rw [← hW]
  have hb0 : Below w.heap.size w W := by rw [hW]; exact (((Below.refl _ _).alloc (Nat.le_refl _) _).alloc (by simp) _).alloc (by simp; omega) _
  have hz : W.heap.size = w.heap.size + 3 := by rw [hW]; simp
  have c0 : W.cell? ⟨w.heap.size, 0, none⟩ = some (.func (.func 68) #[] #[]) := by rw [hW]; exact carry (below_alloc _ _) (carry (below_alloc _ _) (cell_of_one (heap_alloc_new w _)))
  have c2 : W.cell? ⟨w.heap.size + 1 + 1, 0, none⟩ = some (.func (.func 105) #[] #[.pointer (some ⟨w.heap.size, 0, none⟩), .pointer (some ⟨w.heap.size + 1, 0, none⟩), .pointer (some ⟨w.heap.size + 1 + 1, 0, none⟩)]) := by
    rw [hW]
    refine cell_of_one (t := 112) ?_
    have := heap_alloc_new ((w.alloc (.cells #[.func (.func 68) #[] #[]] 77)).alloc (.cells #[.slice none 0 0] 22)) (.cells #[(.func (.func 105) #[] #[.pointer (some ⟨w.heap.size, 0, none⟩), .pointer (some ⟨w.heap.size + 1, 0, none⟩), .pointer (some ⟨w.heap.size + 1 + 1, 0, none⟩)])] 112)
    simpa using this
  have c1 : W.heap[w.heap.size + 1]? = some (.cells #[.slice none 0 0] 22 (0, 0)) := by
    rw [hW, Below.heap_alloc _ _ _ (by simp)]
    have := heap_alloc_new (w.alloc (.cells #[.func (.func 68) #[] #[]] 77)) (.cells #[.slice none 0 0] 22)
    simpa using this
  clear hW
  refine wp_region_held_drew (S := fun W' => W'.cell? ⟨w.heap.size + 1 + 1, 0, none⟩ = some (.func (.func 105) #[] #[.pointer (some ⟨w.heap.size, 0, none⟩), .pointer (some ⟨w.heap.size + 1, 0, none⟩), .pointer (some ⟨w.heap.size + 1 + 1, 0, none⟩)])) (by kernel_rfl) c2 (fun hS0 => ?_)
  have hB0 : Below W.heap.size W W.drew := (Below.refl _ _).drew
  refine wpAnyH_take (i := 0) (oi := ⟨some 10, _, _, _, _, _⟩) (v := (.func (.func 105) #[] #[.pointer (some ⟨w.heap.size, 0, none⟩), .pointer (some ⟨w.heap.size + 1, 0, none⟩), .pointer (some ⟨w.heap.size + 1 + 1, 0, none⟩)])) rfl (by kernel_rfl) (by kernel_rfl) (by kernel_rfl) (fun _ _ _ h => h) (Or.inl ⟨by rfl, by intro w' hw'; (try dsimp only at hw'); go_simp⟩) hS0 ?_
  simp only [Act.put, List.setIfInBounds_toArray, List.set_cons_zero, List.set_cons_succ]
  refine wpAnyH_take (i := 1) (oi := ⟨some 11, _, _, _, _, _⟩) (v := .agg #[.int .u32 0, .int .i64 0]) rfl (by kernel_rfl) (by kernel_rfl) (by kernel_rfl) (fun _ _ _ h => h) (Or.inl ⟨by rfl, by intro w' hw'; (try dsimp only at hw'); go_simp⟩) hS0 ?_
  simp only [Act.put, List.setIfInBounds_toArray, List.set_cons_zero, List.set_cons_succ]
  refine wpAnyH_take (i := 2) (oi := ⟨some 12, _, _, _, _, _⟩) (v := v1) rfl (by kernel_rfl) (by kernel_rfl) (by kernel_rfl) (fun _ _ _ h => h) (Or.inl ⟨by rfl, by intro w' hw'; (try dsimp only at hw'); go_simp⟩) hS0 ?_
  simp only [Act.put, List.setIfInBounds_toArray, List.set_cons_zero, List.set_cons_succ]
  refine wpAnyH_take (i := 4) (oi := ⟨some 14, _, _, _, _, _⟩) (v := v2) rfl (by kernel_rfl) (by kernel_rfl) (by kernel_rfl) (fun _ _ _ h => h) (Or.inl ⟨by rfl, by intro w' hw'; (try dsimp only at hw'); go_simp⟩) hS0 ?_
  simp only [Act.put, List.setIfInBounds_toArray, List.set_cons_zero, List.set_cons_succ]
  refine wpAnyH_ready (rs := [3]) (by kernel_rfl) (by simp) ?_
  refine AllReadyH.cons rfl (fun K hK => ?_) AllReadyH.nil
  go_simp
  go_at_call 59
  refine (HA1.out _ (below_then hb0 hB0)).mono ?_
  rintro e w4 ⟨va, rfl, ho, hb⟩
  have hS1 := carry hb hS0
  have hB1 := below_then hB0 hb
  have O4 := Lib.hid (ownS_rdK ho)
  have hzA := hB0.size
  clear ho hb
  go_wp2_with fail
  refine hK.out _ _ hS1 (fun _ => ?_)
  clear hK K hS0
  (try simp only [Act.put, List.setIfInBounds_toArray, List.set_cons_zero, List.set_cons_succ])
  refine wpAnyH_ready (rs := [5]) (by kernel_rfl) (by simp) ?_
  refine AllReadyH.cons rfl (fun K hK => ?_) AllReadyH.nil
  go_simp
  go_at_call 59
  refine (HA2.out _ (below_then hb0 hB1)).mono ?_
  rintro e w5 ⟨vb, rfl, ho, hb⟩
  have hS2 := carry hb hS1
  have hB2 := below_then hB1 hb
  have hzB := hB1.size
  have O5 := Lib.hid (And.intro (O4.out.below hb) (And.intro (ownS_rdK ho) hb.size))
  clear ho hb
  go_wp2_with fail
  refine hK.out _ _ hS2 (fun _ => ?_)
  clear hK K hS1
  (try simp only [Act.put, List.setIfInBounds_toArray, List.set_cons_zero, List.set_cons_succ])
  refine wpAnyH_ready (rs := [6]) (by kernel_rfl) (by simp) ?_
  refine AllReadyH.cons rfl (fun K hK => ?_) AllReadyH.nil
  go_simp
  have hb5 := hB2
  have d0 := carry hb5 c0
  have d1 := (hb5.block _ (lt_of_block c1)).trans c1
  have hR : ResI (w.heap.size + 1) (fun k => k < w5.heap.size ∧ k ≠ w.heap.size + 1) [] w5 := resI_start d1 (fun h => h.2 rfl) (fun k hk => hk.1)
  have hz5 := hb5.size
  refine (HC.out 32 0 0 (ascd a) (ascd b) va vb [] (fun k => k < w5.heap.size ∧ k ≠ w.heap.size + 1) w5 rfl (by omega) (by simp) (by simp) GA.out GB.out (O5.out.1.mono (fun k hk => ⟨by have := O5.out.2.2; omega, by omega⟩)) (O5.out.2.1.mono (fun k hk => ⟨hk.2, by have := hk.1; have := O5.out.2.2; omega⟩)) ⟨by omega, by omega⟩ ⟨by omega, by omega⟩ d0 hS2 hR (Nat.le_refl _) (by simp)).mono ?_
  rintro e w6 ⟨rfl, B, hB, hR6, hK6⟩
  have b6 := Lib.hid ((hb0.trans (hb5.mono (by omega))).trans (hK6.below (B := w.heap.size) (fun k hk => ⟨by omega, by omega⟩)))
  have HB := Lib.hid hB
  have hS3 := hK6.carry (p := ⟨w.heap.size + 1 + 1, 0, none⟩) ⟨by show w.heap.size + 1 + 1 < _; omega, by show w.heap.size + 1 + 1 ≠ _; omega⟩ hS2
  obtain ⟨vr, hcr, hrd⟩ := hR6.rd
  have HRD := Lib.hid hrd
  clear hB hR6 hR d0 d1 hK6 hrd
  go_wp2_with fail
  refine hK.out _ _ hS3 (fun _ => ?_)
  clear hK K
  (try simp only [Act.put, List.setIfInBounds_toArray, List.set_cons_zero, List.set_cons_succ])
  refine wpAnyH_done (by kernel_rfl) ?_ _
  go_wp2
  go_ret
  exact ⟨vr, B, rfl, HB.out.root HLT.out, HRD.out, b6.out⟩
theorem comb70_all (S Sa Sb : Nat → Bool) (hS : ∀ y, S y = ((Sa y) && !(Sb y))) (kb r vb : Nat) : ∀ k, CombV S Sa Sb 70 kb r vb k := by
  intro k
  induction k with
  | zero =>
    intro A n la lb va vb' L K w hn hk ha htop ga gb ra rb kkb kvb ck cv hR hL hLe
    exact comb70_leaf S Sa Sb hS kb r vb 0 A n la lb va vb' L K w hn hk ha htop ga gb ra rb kkb ck hR hL (ga.uni0 ha) (gb.uni0 ha)
  | succ k ih =>
    intro A n la lb va vb' L K w hn hk ha htop ga gb ra rb kkb kvb ck cv hR hL hLe
    cases ua : uniB la (pfx (A, k + 1))
    · exact comb_partA S Sa Sb 70 kb r vb k A n la lb va vb' L K w hn hk ha htop ga gb ra rb kkb kvb ck cv hR hL hLe ua ih
    · cases ub : uniB lb (pfx (A, k + 1))
      · exact comb_partB S Sa Sb 70 kb r vb k A n la lb va vb' L K w hn hk ha htop ga gb ra rb kkb kvb ck cv hR hL hLe ua ub ih
      · exact comb70_leaf S Sa Sb hS kb r vb (k + 1) A n la lb va vb' L K w hn hk ha htop ga gb ra rb kkb ck hR hL ua ub
theorem combine70_any (a b : List PP) (v1 v2 : Value) (w : World) (ha : a.length ≤ 4294967296) (hb : b.length ≤ 4294967296) (fa : ∀ x ∈ a, x.1 < 4294967296 ∧ I64 x.2) (fb : ∀ x ∈ b, x.1 < 4294967296 ∧ I64 x.2) (hr1 : Rd w v1 a) (hr2 : Rd w v2 b) :
    Calls Try.prog 66 #[v1, v2, .func (.func 70) #[] #[]] w fun e w' => ∃ v B, e = .returned v ∧ CM.Nrm (fun y => ((mem a y) && !(mem b y))) B ∧ Rd w' v (B.map pfx) ∧ Below w.heap.size w w' := by
  have HC := Lib.hid (comb70_all (fun y => ((mem a y) && !(mem b y))) (mem a) (mem b) (fun y => rfl) w.heap.size (w.heap.size + 1) (w.heap.size + 1 + 1))
  have HA1 : Hid (∀ W, Below w.heap.size w W → Calls Try.prog 59 #[v1] W fun e w' => ∃ v', e = .returned v' ∧ OwnS W.heap.size w' v' (ascd a) ∧ Below W.heap.size W w') := fun W hW => ascending_any a v1 W ha fa (hr1.below hW)
  have HA2 : Hid (∀ W, Below w.heap.size w W → Calls Try.prog 59 #[v2] W fun e w' => ∃ v', e = .returned v' ∧ OwnS W.heap.size w' v' (ascd b) ∧ Below W.heap.size W w') := fun W hW => ascending_any b v2 W hb fb (hr2.below hW)
  have GA : Hid (GL (mem a) 0 32 (ascd a)) := gl_ascd ha fa
  have GB : Hid (GL (mem b) 0 32 (ascd b)) := gl_ascd hb fb
  have HLT : Hid (∀ y, (((mem a y) && !(mem b y))) = true → y < 4294967296) := fun y hy => by
    have h1 : mem a y = true ∨ mem b y = true := by revert hy; cases mem a y <;> cases mem b y <;> simp
    rcases h1 with h1 | h1
    · exact mem_lt (fun x hx => (fa x hx).1) y h1
    · exact mem_lt (fun x hx => (fb x hx).1) y h1
  clear hr1 hr2 fa fb ha hb
  go_enter Try.func66, Try.ntmps66
  go_wp2_with fail
  obtain ⟨W, hW⟩ : ∃ W, W = ((w.alloc (.cells #[.func (.func 70) #[] #[]] 77)).alloc (.cells #[.slice none 0 0] 22)).alloc
          (.cells #[(.func (.func 105) #[] #[.pointer (some ⟨w.heap.size, 0, none⟩), .pointer (some ⟨w.heap.size + 1, 0, none⟩), .pointer (some ⟨w.heap.size + 1 + 1, 0, none⟩)])] 112) := ⟨_, rfl⟩
  rw [← hW]
  have hb0 : Below w.heap.size w W := by rw [hW]; exact (((Below.refl _ _).alloc (Nat.le_refl _) _).alloc (by simp) _).alloc (by simp; omega) _
  have hz : W.heap.size = w.heap.size + 3 := by rw [hW]; simp
  have c0 : W.cell? ⟨w.heap.size, 0, none⟩ = some (.func (.func 70) #[] #[]) := by rw [hW]; exact carry (below_alloc _ _) (carry (below_alloc _ _) (cell_of_one (heap_alloc_new w _)))
  have c2 : W.cell? ⟨w.heap.size + 1 + 1, 0, none⟩ = some (.func (.func 105) #[] #[.pointer (some ⟨w.heap.size, 0, none⟩), .pointer (some ⟨w.heap.size + 1, 0, none⟩), .pointer (some ⟨w.heap.size + 1 + 1, 0, none⟩)]) := by
    rw [hW]
    refine cell_of_one (t := 112) ?_
    have := heap_alloc_new ((w.alloc (.cells #[.func (.func 70) #[] #[]] 77)).alloc (.cells #[.slice none 0 0] 22)) (.cells #[(.func (.func 105) #[] #[.pointer (some ⟨w.heap.size, 0, none⟩), .pointer (some ⟨w.heap.size + 1, 0, none⟩), .pointer (some ⟨w.heap.size + 1 + 1, 0, none⟩)])] 112)
    simpa using this
  have c1 : W.heap[w.heap.size + 1]? = some (.cells #[.slice none 0 0] 22 (0, 0)) := by
    rw [hW, Below.heap_alloc _ _ _ (by simp)]
    have := heap_alloc_new (w.alloc (.cells #[.func (.func 70) #[] #[]] 77)) (.cells #[.slice none 0 0] 22)
    simpa using this
  clear hW
  refine wp_region_held_drew (S := fun W' => W'.cell? ⟨w.heap.size + 1 + 1, 0, none⟩ = some (.func (.func 105) #[] #[.pointer (some ⟨w.heap.size, 0, none⟩), .pointer (some ⟨w.heap.size + 1, 0, none⟩), .pointer (some ⟨w.heap.size + 1 + 1, 0, none⟩)])) (by kernel_rfl) c2 (fun hS0 => ?_)
  have hB0 : Below W.heap.size W W.drew := (Below.refl _ _).drew
  refine wpAnyH_take (i := 0) (oi := ⟨some 10, _, _, _, _, _⟩) (v := (.func (.func 105) #[] #[.pointer (some ⟨w.heap.size, 0, none⟩), .pointer (some ⟨w.heap.size + 1, 0, none⟩), .pointer (some ⟨w.heap.size + 1 + 1, 0, none⟩)])) rfl (by kernel_rfl) (by kernel_rfl) (by kernel_rfl) (fun _ _ _ h => h) (Or.inl ⟨by rfl, by intro w' hw'; (try dsimp only at hw'); go_simp⟩) hS0 ?_
  simp only [Act.put, List.setIfInBounds_toArray, List.set_cons_zero, List.set_cons_succ]
  refine wpAnyH_take (i := 1) (oi := ⟨some 11, _, _, _, _, _⟩) (v := .agg #[.int .u32 0, .int .i64 0]) rfl (by kernel_rfl) (by kernel_rfl) (by kernel_rfl) (fun _ _ _ h => h) (Or.inl ⟨by rfl, by intro w' hw'; (try dsimp only at hw'); go_simp⟩) hS0 ?_
  simp only [Act.put, List.setIfInBounds_toArray, List.set_cons_zero, List.set_cons_succ]
  refine wpAnyH_take (i := 2) (oi := ⟨some 12, _, _, _, _, _⟩) (v := v1) rfl (by kernel_rfl) (by kernel_rfl) (by kernel_rfl) (fun _ _ _ h => h) (Or.inl ⟨by rfl, by intro w' hw'; (try dsimp only at hw'); go_simp⟩) hS0 ?_
  simp only [Act.put, List.setIfInBounds_toArray, List.set_cons_zero, List.set_cons_succ]
  refine wpAnyH_take (i := 4) (oi := ⟨some 14, _, _, _, _, _⟩) (v := v2) rfl (by kernel_rfl) (by kernel_rfl) (by kernel_rfl) (fun _ _ _ h => h) (Or.inl ⟨by rfl, by intro w' hw'; (try dsimp only at hw'); go_simp⟩) hS0 ?_
  simp only [Act.put, List.setIfInBounds_toArray, List.set_cons_zero, List.set_cons_succ]
  refine wpAnyH_ready (rs := [3]) (by kernel_rfl) (by simp) ?_
  refine AllReadyH.cons rfl (fun K hK => ?_) AllReadyH.nil
  go_simp
  go_at_call 59
  refine (HA1.out _ (below_then hb0 hB0)).mono ?_
  rintro e w4 ⟨va, rfl, ho, hb⟩
  have hS1 := carry hb hS0
  have hB1 := below_then hB0 hb
  have O4 := Lib.hid (ownS_rdK ho)
  have hzA := hB0.size
  clear ho hb
  go_wp2_with fail
  refine hK.out _ _ hS1 (fun _ => ?_)
  clear hK K hS0
  (try simp only [Act.put, List.setIfInBounds_toArray, List.set_cons_zero, List.set_cons_succ])
  refine wpAnyH_ready (rs := [5]) (by kernel_rfl) (by simp) ?_
  refine AllReadyH.cons rfl (fun K hK => ?_) AllReadyH.nil
  go_simp
  go_at_call 59
  refine (HA2.out _ (below_then hb0 hB1)).mono ?_
  rintro e w5 ⟨vb, rfl, ho, hb⟩
  have hS2 := carry hb hS1
  have hB2 := below_then hB1 hb
  have hzB := hB1.size
  have O5 := Lib.hid (And.intro (O4.out.below hb) (And.intro (ownS_rdK ho) hb.size))
  clear ho hb
  go_wp2_with fail
  refine hK.out _ _ hS2 (fun _ => ?_)
  clear hK K hS1
  (try simp only [Act.put, List.setIfInBounds_toArray, List.set_cons_zero, List.set_cons_succ])
  refine wpAnyH_ready (rs := [6]) (by kernel_rfl) (by simp) ?_
  refine AllReadyH.cons rfl (fun K hK => ?_) AllReadyH.nil
  go_simp
  have hb5 := hB2
  have d0 := carry hb5 c0
  have d1 := (hb5.block _ (lt_of_block c1)).trans c1
  have hR : ResI (w.heap.size + 1) (fun k => k < w5.heap.size ∧ k ≠ w.heap.size + 1) [] w5 := resI_start d1 (fun h => h.2 rfl) (fun k hk => hk.1)
  have hz5 := hb5.size
  refine (HC.out 32 0 0 (ascd a) (ascd b) va vb [] (fun k => k < w5.heap.size ∧ k ≠ w.heap.size + 1) w5 rfl (by omega) (by simp) (by simp) GA.out GB.out (O5.out.1.mono (fun k hk => ⟨by have := O5.out.2.2; omega, by omega⟩)) (O5.out.2.1.mono (fun k hk => ⟨hk.2, by have := hk.1; have := O5.out.2.2; omega⟩)) ⟨by omega, by omega⟩ ⟨by omega, by omega⟩ d0 hS2 hR (Nat.le_refl _) (by simp)).mono ?_
  rintro e w6 ⟨rfl, B, hB, hR6, hK6⟩
  have b6 := Lib.hid ((hb0.trans (hb5.mono (by omega))).trans (hK6.below (B := w.heap.size) (fun k hk => ⟨by omega, by omega⟩)))
  have HB := Lib.hid hB
  have hS3 := hK6.carry (p := ⟨w.heap.size + 1 + 1, 0, none⟩) ⟨by show w.heap.size + 1 + 1 < _; omega, by show w.heap.size + 1 + 1 ≠ _; omega⟩ hS2
  obtain ⟨vr, hcr, hrd⟩ := hR6.rd
  have HRD := Lib.hid hrd
  clear hB hR6 hR d0 d1 hK6 hrd
  go_wp2_with fail
  refine hK.out _ _ hS3 (fun _ => ?_)
  clear hK K
  (try simp only [Act.put, List.setIfInBounds_toArray, List.set_cons_zero, List.set_cons_succ])
  refine wpAnyH_done (by kernel_rfl) ?_ _
  go_wp2
  go_ret
  exact ⟨vr, B, rfl, HB.out.root HLT.out, HRD.out, b6.out⟩
end Go.Proofs.Ytegponbmelgngaa
