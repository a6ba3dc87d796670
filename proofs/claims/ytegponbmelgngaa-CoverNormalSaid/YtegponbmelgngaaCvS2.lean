/-
  Results whose capacity is known; the walk of Count; the law's own test.
-/
import Derived.Test.YtegponbmelgngaaCvN
import Derived.LoopN
namespace Go.Proofs.Ytegponbmelgngaa
open Go.RowKit
set_option linter.unusedSimpArgs false
set_option linter.unusedVariables false
set_option maxHeartbeats 4000000
set_option maxRecDepth 100000

def sumB (l : List (Nat × Nat)) : Nat := (l.map (fun x => 2 ^ x.2)).sum
theorem sumB_snoc (l : List (Nat × Nat)) (x : Nat × Nat) : sumB (l ++ [x]) = sumB l + 2 ^ x.2 := by unfold sumB; simp
theorem sumB_take (l : List (Nat × Nat)) (k : Nat) : sumB (l.take k) ≤ sumB l := by
  conv => rhs; rw [← List.take_append_drop k l]
  unfold sumB; rw [List.map_append, List.sum_append]; omega
theorem take_snocQ {l : List (Nat × Nat)} {k : Nat} {x : Nat × Nat} (h : l[k]? = some x) : l.take (k + 1) = l.take k ++ [x] := by
  have hlt := (List.getElem?_eq_some_iff.1 h).1
  rw [List.take_succ_eq_append_getElem hlt, (List.getElem?_eq_some_iff.1 h).2]
theorem pow32 {k : Nat} (h : k ≤ 32) : 2 ^ k ≤ 4294967296 := by
  have := Nat.pow_le_pow_right (n := 2) (by omega) h; simpa using this
/-- how many addresses -/
def many (l : List PP) : Nat := CM.cnt (mem l) 4294967296
theorem many_le (l : List PP) : many l ≤ 4294967296 := CM.cnt_le _ _
theorem count_any (a : List PP) (v1 : Value) (w : World) (ha : Big a) (fa : FitL a) (hr1 : Rd w v1 a) :
    Calls Try.prog 25 #[v1] w fun e w' => e = .returned (.int .u64 (many a : Nat)) ∧ Below w.heap.size w w' := by
  have H := Lib.hid (normal_any a v1 w ha fa hr1)
  have ML := Lib.hid (mem_lt (l := a) (fun p hp => (fa p hp).1))
  clear hr1 fa
  go_enter Try.func25, Try.ntmps25
  go_wp2_with fail
  go_at_call 21
  refine H.out.mono ?_
  rintro e w1 ⟨v, B, rfl, hN, ⟨ad, cap, rfl, hc⟩, hb⟩
  have hcnt : Hid (many a = sumB B) := hN.count ML.out
  have hsb : sumB B ≤ 4294967296 := by rw [← hcnt.out]; exact many_le a
  have hBl : (B.map pfx).length ≤ 4294967296 := by rw [List.length_map]; exact nrm_len hN ML.out
  have HN := Lib.hid hN
  have HC := Lib.hid hc
  have B1 := Lib.hid hb
  obtain ⟨N, hNl⟩ : ∃ N, N = (B.map pfx).length := ⟨_, rfl⟩
  have HNl := Lib.hid hNl
  rw [← hNl] at hBl ⊢
  clear hN hc hb hNl
  go_wp2_with fail
  go_loopg [9, 3, 5] N (fun g s9 s3 s5 wr => ∃ k : Nat, k ≤ N ∧ N - k ≤ g ∧ s9 = .int .i64 k ∧ s3 = .int .u64 (sumB (B.take k) : Nat) ∧ Hid (Below w1.heap.size w1 wr))
  case atStart => exact ⟨0, by omega, by omega, rfl, rfl, Below.refl _ _⟩
  case round =>
    obtain ⟨k, hk, hg, rfl, rfl, HB⟩ := hrel
    by_cases hlt : k < N
    · obtain ⟨x, hx⟩ : ∃ x, B[k]? = some x := ⟨_, List.getElem?_eq_getElem (by have := HNl.out; rw [List.length_map] at this; omega)⟩
      have hxp : (B.map pfx)[k]? = some (pfx x) := by rw [List.getElem?_map, hx]; rfl
      obtain ⟨blk', off', rfl, hblk, hc0, hc1⟩ := HC.out k _ hxp
      have f0 := carryB HB.out hblk hc0
      have f1 := carryB HB.out hblk hc1
      have hx32 := HN.out.le x (List.mem_of_getElem? hx)
      have hst : Hid (sumB (B.take (k + 1)) = sumB (B.take k) + 2 ^ x.2) := by show _ = _; rw [take_snocQ hx, sumB_snoc]
      have hs1 := sumB_take B (k + 1)
      rw [hst.out] at hs1
      have hp32 := pow32 hx32
      obtain ⟨xa, xk⟩ := x
      dsimp only [pfx] at f0 f1 hx32 hst hs1 hp32
      obtain ⟨n, hn⟩ : ∃ n : Nat, n = 32 - xk := ⟨_, rfl⟩
      rw [← hn] at f1
      have hn32 : n ≤ 32 := by omega
      have hxk : xk = 32 - n := by omega
      rw [hxk] at hst hs1 hp32
      have hpp := CM.pow_pos' (32 - n)
      obtain ⟨P, hP⟩ : ∃ P, P = 2 ^ (32 - n) := ⟨_, rfl⟩
      have hP2 : ((2 : Int) ^ (32 - n)) = (P : Int) := by rw [hP]; simp
      rw [← hP] at hst hs1 hp32 hpp
      have hPw : IntKind.u64.wrap (P : Int) = (P : Int) := IntWalk.u64_in _ (by constructor <;> omega)
      generalize sumB (B.take k) = T at *
      clear hc0 hc1 hx hxp hxk hn hP
      go_wp2
      go_roundg (N - (k + 1))
      case measure => omega
      case rel => exact ⟨k + 1, by omega, Nat.le_refl _, by go_num, by rw [hst.out, Int.natCast_add], HB.out.alloc HB.out.size _⟩
    · have hkl : k = N := by omega
      subst hkl
      have hT : Hid (sumB (B.take k) = many a) := by
        show _ = _
        rw [List.take_of_length_le (by have := HNl.out; rw [List.length_map] at this; omega)]; exact hcnt.out.symm
      go_wp2
      go_ret
      exact ⟨by rw [hT.out]; rfl, B1.out.trans (HB.out.mono B1.out.size)⟩
def CapOK (v : Value) : Prop := ∀ ad n c, v = .slice ad n c → n ≤ c
theorem cap_form {r : Nat} {K : Nat → Prop} {L : List PP} {v : Value} {W : World} (h : ResV r K L v W) : CapOK v := by
  intro ad n c e
  rcases h.form with ⟨rfl, _⟩ | ⟨g, cap, rfl, hc, _⟩
  · cases e; exact Nat.le_refl _
  · cases e; exact hc
theorem combine67C_any (a b : List PP) (v1 v2 : Value) (w : World) (ha : a.length ≤ 4294967296) (hb : b.length ≤ 4294967296) (fa : ∀ x ∈ a, x.1 < 4294967296 ∧ I64 x.2) (fb : ∀ x ∈ b, x.1 < 4294967296 ∧ I64 x.2) (hr1 : Rd w v1 a) (hr2 : Rd w v2 b) :
    Calls Try.prog 66 #[v1, v2, .func (.func 67) #[] #[]] w fun e w' => ∃ v B, e = .returned v ∧ CM.Nrm (fun y => ((mem a y) || (mem b y))) B ∧ Rd w' v (B.map pfx) ∧ Below w.heap.size w w' ∧ CapOK v := by
  have HC := Lib.hid (comb67_all (fun y => ((mem a y) || (mem b y))) (mem a) (mem b) (fun y => rfl) w.heap.size (w.heap.size + 1) (w.heap.size + 1 + 1))
  have HA1 : Hid (∀ W, Below w.heap.size w W → Calls Try.prog 59 #[v1] W fun e w' => ∃ v', e = .returned v' ∧ OwnS W.heap.size w' v' (ascd a) ∧ Below W.heap.size W w') := fun W hW => ascending_any a v1 W ha fa (hr1.below hW)
  have HA2 : Hid (∀ W, Below w.heap.size w W → Calls Try.prog 59 #[v2] W fun e w' => ∃ v', e = .returned v' ∧ OwnS W.heap.size w' v' (ascd b) ∧ Below W.heap.size W w') := fun W hW => ascending_any b v2 W hb fb (hr2.below hW)
  have GA : Hid (GL (mem a) 0 32 (ascd a)) := gl_ascd ha fa
  have GB : Hid (GL (mem b) 0 32 (ascd b)) := gl_ascd hb fb
  have HLT : Hid (∀ y, (((mem a y) || (mem b y))) = true → y < 4294967296) := fun y hy => by
    have h1 : mem a y = true ∨ mem b y = true := by revert hy; cases mem a y <;> cases mem b y <;> simp
    rcases h1 with h1 | h1
    · exact mem_lt (fun x hx => (fa x hx).1) y h1
    · exact mem_lt (fun x hx => (fb x hx).1) y h1
  clear hr1 hr2 fa fb ha hb
  go_enter Try.func66, Try.ntmps66
  go_wp2_with fail
  obtain ⟨W, hW⟩ : ∃ W, W = ((w.alloc (.cells #[.func (.func 67) #[] #[]] 77)).alloc (.cells #[.slice none 0 0] 22)).alloc
          (.cells #[(.func (.func 105) #[] #[.pointer (some ⟨w.heap.size, 0, none⟩), .pointer (some ⟨w.heap.size + 1, 0, none⟩), .pointer (some ⟨w.heap.size + 1 + 1, 0, none⟩)])] 112) := ⟨_, rfl⟩
  rw [← hW]
  have hb0 : Below w.heap.size w W := by rw [hW]; exact (((Below.refl _ _).alloc (Nat.le_refl _) _).alloc (by simp) _).alloc (by simp; omega) _
  have hz : W.heap.size = w.heap.size + 3 := by rw [hW]; simp
  have c0 : W.cell? ⟨w.heap.size, 0, none⟩ = some (.func (.func 67) #[] #[]) := by rw [hW]; exact carry (below_alloc _ _) (carry (below_alloc _ _) (cell_of_one (heap_alloc_new w _)))
  have c2 : W.cell? ⟨w.heap.size + 1 + 1, 0, none⟩ = some (.func (.func 105) #[] #[.pointer (some ⟨w.heap.size, 0, none⟩), .pointer (some ⟨w.heap.size + 1, 0, none⟩), .pointer (some ⟨w.heap.size + 1 + 1, 0, none⟩)]) := by
    rw [hW]
    refine cell_of_one (t := 112) ?_
    have := heap_alloc_new ((w.alloc (.cells #[.func (.func 67) #[] #[]] 77)).alloc (.cells #[.slice none 0 0] 22)) (.cells #[(.func (.func 105) #[] #[.pointer (some ⟨w.heap.size, 0, none⟩), .pointer (some ⟨w.heap.size + 1, 0, none⟩), .pointer (some ⟨w.heap.size + 1 + 1, 0, none⟩)])] 112)
    simpa using this
  have c1 : W.heap[w.heap.size + 1]? = some (.cells #[.slice none 0 0] 22 (0, 0)) := by
    rw [hW, Below.heap_alloc _ _ _ (by simp)]
    have := heap_alloc_new (w.alloc (.cells #[.func (.func 67) #[] #[]] 77)) (.cells #[.slice none 0 0] 22)
    simpa using this
  clear hW
  refine wp_region_held_drew (S := fun W' => W'.cell? ⟨w.heap.size + 1 + 1, 0, none⟩ = some (.func (.func 105) #[] #[.pointer (some ⟨w.heap.size, 0, none⟩), .pointer (some ⟨w.heap.size + 1, 0, none⟩), .pointer (some ⟨w.heap.size + 1 + 1, 0, none⟩)])) (by kernel_rfl) c2 (fun hS0 => ?_)
  have hB0 : Below W.heap.size W W.drew := (Below.refl _ _).drew
  refine wpAnyH_take (i := 0) (oi := ⟨some 10, _, _, _, _, _⟩) (v := (.func (.func 105) #[] #[.pointer (some ⟨w.heap.size, 0, none⟩), .pointer (some ⟨w.heap.size + 1, 0, none⟩), .pointer (some ⟨w.heap.size + 1 + 1, 0, none⟩)])) rfl (by kernel_rfl) (by kernel_rfl) (by kernel_rfl) (fun _ _ _ h => h) (Or.inl ⟨by rfl, by intro w' hw'; (try dsimp only at hw'); go_simp⟩) hS0 ?_
  simp only [Act.put, List.setIfInBounds_toArray, List.set_cons_zero, List.set_cons_succ]
  refine wpAnyH_take (i := 1) (oi := ⟨some 11, _, _, _, _, _⟩) (v := .agg #[.int .u32 0, .int .i64 0]) rfl (by kernel_rfl) (by kernel_rfl) (by kernel_rfl) (fun _ _ _ h => h) (Or.inl ⟨by rfl, by intro w' hw'; (try dsimp only at hw'); go_simp⟩) hS0 ?_
  simp only [Act.put, List.setIfInBounds_toArray, List.set_cons_zero, List.set_cons_succ]
  refine wpAnyH_take (i := 2) (oi := ⟨some 12, _, _, _, _, _⟩) (v := v1) rfl (by kernel_rfl) (by kernel_rfl) (by kernel_rfl) (fun _ _ _ h => h) (Or.inl ⟨by rfl, by intro w' hw'; (try dsimp only at hw'); go_simp⟩) hS0 ?_
  simp only [Act.put, List.setIfInBounds_toArray, List.set_cons_zero, List.set_cons_succ]
  refine wpAnyH_take (i := 4) (oi := ⟨some 14, _, _, _, _, _⟩) (v := v2) rfl (by kernel_rfl) (by kernel_rfl) (by kernel_rfl) (fun _ _ _ h => h) (Or.inl ⟨by rfl, by intro w' hw'; (try dsimp only at hw'); go_simp⟩) hS0 ?_
  simp only [Act.put, List.setIfInBounds_toArray, List.set_cons_zero, List.set_cons_succ]
  refine wpAnyH_ready (rs := [3]) (by kernel_rfl) (by simp) ?_
  refine AllReadyH.cons rfl (fun K hK => ?_) AllReadyH.nil
  go_simp
  go_at_call 59
  refine (HA1.out _ (below_then hb0 hB0)).mono ?_
  rintro e w4 ⟨va, rfl, ho, hb⟩
  have hS1 := carry hb hS0
  have hB1 := below_then hB0 hb
  have O4 := Lib.hid (ownS_rdK ho)
  have hzA := hB0.size
  clear ho hb
  go_wp2_with fail
  refine hK.out _ _ hS1 (fun _ => ?_)
  clear hK K hS0
  (try simp only [Act.put, List.setIfInBounds_toArray, List.set_cons_zero, List.set_cons_succ])
  refine wpAnyH_ready (rs := [5]) (by kernel_rfl) (by simp) ?_
  refine AllReadyH.cons rfl (fun K hK => ?_) AllReadyH.nil
  go_simp
  go_at_call 59
  refine (HA2.out _ (below_then hb0 hB1)).mono ?_
  rintro e w5 ⟨vb, rfl, ho, hb⟩
  have hS2 := carry hb hS1
  have hB2 := below_then hB1 hb
  have hzB := hB1.size
  have O5 := Lib.hid (And.intro (O4.out.below hb) (And.intro (ownS_rdK ho) hb.size))
  clear ho hb
  go_wp2_with fail
  refine hK.out _ _ hS2 (fun _ => ?_)
  clear hK K hS1
  (try simp only [Act.put, List.setIfInBounds_toArray, List.set_cons_zero, List.set_cons_succ])
  refine wpAnyH_ready (rs := [6]) (by kernel_rfl) (by simp) ?_
  refine AllReadyH.cons rfl (fun K hK => ?_) AllReadyH.nil
  go_simp
  have hb5 := hB2
  have d0 := carry hb5 c0
  have d1 := (hb5.block _ (lt_of_block c1)).trans c1
  have hR : ResI (w.heap.size + 1) (fun k => k < w5.heap.size ∧ k ≠ w.heap.size + 1) [] w5 := resI_start d1 (fun h => h.2 rfl) (fun k hk => hk.1)
  have hz5 := hb5.size
  refine (HC.out 32 0 0 (ascd a) (ascd b) va vb [] (fun k => k < w5.heap.size ∧ k ≠ w.heap.size + 1) w5 rfl (by omega) (by simp) (by simp) GA.out GB.out (O5.out.1.mono (fun k hk => ⟨by have := O5.out.2.2; omega, by omega⟩)) (O5.out.2.1.mono (fun k hk => ⟨hk.2, by have := hk.1; have := O5.out.2.2; omega⟩)) ⟨by omega, by omega⟩ ⟨by omega, by omega⟩ d0 hS2 hR (Nat.le_refl _) (by simp)).mono ?_
  rintro e w6 ⟨rfl, B, hB, hR6, hK6⟩
  have b6 := Lib.hid ((hb0.trans (hb5.mono (by omega))).trans (hK6.below (B := w.heap.size) (fun k hk => ⟨by omega, by omega⟩)))
  have HB := Lib.hid hB
  have hS3 := hK6.carry (p := ⟨w.heap.size + 1 + 1, 0, none⟩) ⟨by show w.heap.size + 1 + 1 < _; omega, by show w.heap.size + 1 + 1 ≠ _; omega⟩ hS2
  obtain ⟨vr, hVr⟩ := hR6
  have hcr := hVr.cell.1
  have hrd := rd_own hVr.row
  have hcp := Lib.hid (cap_form hVr)
  have HRD := Lib.hid hrd
  clear hB hVr hR d0 d1 hK6 hrd
  go_wp2_with fail
  refine hK.out _ _ hS3 (fun _ => ?_)
  clear hK K
  (try simp only [Act.put, List.setIfInBounds_toArray, List.set_cons_zero, List.set_cons_succ])
  refine wpAnyH_done (by kernel_rfl) ?_ _
  go_wp2
  go_ret
  exact ⟨vr, B, rfl, HB.out.root HLT.out, HRD.out, b6.out, hcp.out⟩
theorem combine68C_any (a b : List PP) (v1 v2 : Value) (w : World) (ha : a.length ≤ 4294967296) (hb : b.length ≤ 4294967296) (fa : ∀ x ∈ a, x.1 < 4294967296 ∧ I64 x.2) (fb : ∀ x ∈ b, x.1 < 4294967296 ∧ I64 x.2) (hr1 : Rd w v1 a) (hr2 : Rd w v2 b) :
    Calls Try.prog 66 #[v1, v2, .func (.func 68) #[] #[]] w fun e w' => ∃ v B, e = .returned v ∧ CM.Nrm (fun y => ((mem a y) && (mem b y))) B ∧ Rd w' v (B.map pfx) ∧ Below w.heap.size w w' ∧ CapOK v := by
  have HC := Lib.hid (comb68_all (fun y => ((mem a y) && (mem b y))) (mem a) (mem b) (fun y => rfl) w.heap.size (w.heap.size + 1) (w.heap.size + 1 + 1))
  have HA1 : Hid (∀ W, Below w.heap.size w W → Calls Try.prog 59 #[v1] W fun e w' => ∃ v', e = .returned v' ∧ OwnS W.heap.size w' v' (ascd a) ∧ Below W.heap.size W w') := fun W hW => ascending_any a v1 W ha fa (hr1.below hW)
  have HA2 : Hid (∀ W, Below w.heap.size w W → Calls Try.prog 59 #[v2] W fun e w' => ∃ v', e = .returned v' ∧ OwnS W.heap.size w' v' (ascd b) ∧ Below W.heap.size W w') := fun W hW => ascending_any b v2 W hb fb (hr2.below hW)
  have GA : Hid (GL (mem a) 0 32 (ascd a)) := gl_ascd ha fa
  have GB : Hid (GL (mem b) 0 32 (ascd b)) := gl_ascd hb fb
  have HLT : Hid (∀ y, (((mem a y) && (mem b y))) = true → y < 4294967296) := fun y hy => by
    have h1 : mem a y = true ∨ mem b y = true := by revert hy; cases mem a y <;> cases mem b y <;> simp
    rcases h1 with h1 | h1
    · exact mem_lt (fun x hx => (fa x hx).1) y h1
    · exact mem_lt (fun x hx => (fb x hx).1) y h1
  clear hr1 hr2 fa fb ha hb
  go_enter Try.func66, Try.ntmps66
  go_wp2_with fail
  obtain ⟨W, hW⟩ : ∃ W, W = ((w.alloc (.cells #[.func (.func 68) #[] #[]] 77)).alloc (.cells #[.slice none 0 0] 22)).alloc
          (.cells #[(.func (.func 105) #[] #[.pointer (some ⟨w.heap.size, 0, none⟩), .pointer (some ⟨w.heap.size + 1, 0, none⟩), .pointer (some ⟨w.heap.size + 1 + 1, 0, none⟩)])] 112) := ⟨_, rfl⟩
  rw [← hW]
  have hb0 : Below w.heap.size w W := by rw [hW]; exact (((Below.refl _ _).alloc (Nat.le_refl _) _).alloc (by simp) _).alloc (by simp; omega) _
  have hz : W.heap.size = w.heap.size + 3 := by rw [hW]; simp
  have c0 : W.cell? ⟨w.heap.size, 0, none⟩ = some (.func (.func 68) #[] #[]) := by rw [hW]; exact carry (below_alloc _ _) (carry (below_alloc _ _) (cell_of_one (heap_alloc_new w _)))
  have c2 : W.cell? ⟨w.heap.size + 1 + 1, 0, none⟩ = some (.func (.func 105) #[] #[.pointer (some ⟨w.heap.size, 0, none⟩), .pointer (some ⟨w.heap.size + 1, 0, none⟩), .pointer (some ⟨w.heap.size + 1 + 1, 0, none⟩)]) := by
    rw [hW]
    refine cell_of_one (t := 112) ?_
    have := heap_alloc_new ((w.alloc (.cells #[.func (.func 68) #[] #[]] 77)).alloc (.cells #[.slice none 0 0] 22)) (.cells #[(.func (.func 105) #[] #[.pointer (some ⟨w.heap.size, 0, none⟩), .pointer (some ⟨w.heap.size + 1, 0, none⟩), .pointer (some ⟨w.heap.size + 1 + 1, 0, none⟩)])] 112)
    simpa using this
  have c1 : W.heap[w.heap.size + 1]? = some (.cells #[.slice none 0 0] 22 (0, 0)) := by
    rw [hW, Below.heap_alloc _ _ _ (by simp)]
    have := heap_alloc_new (w.alloc (.cells #[.func (.func 68) #[] #[]] 77)) (.cells #[.slice none 0 0] 22)
    simpa using this
  clear hW
  refine wp_region_held_drew (S := fun W' => W'.cell? ⟨w.heap.size + 1 + 1, 0, none⟩ = some (.func (.func 105) #[] #[.pointer (some ⟨w.heap.size, 0, none⟩), .pointer (some ⟨w.heap.size + 1, 0, none⟩), .pointer (some ⟨w.heap.size + 1 + 1, 0, none⟩)])) (by kernel_rfl) c2 (fun hS0 => ?_)
  have hB0 : Below W.heap.size W W.drew := (Below.refl _ _).drew
  refine wpAnyH_take (i := 0) (oi := ⟨some 10, _, _, _, _, _⟩) (v := (.func (.func 105) #[] #[.pointer (some ⟨w.heap.size, 0, none⟩), .pointer (some ⟨w.heap.size + 1, 0, none⟩), .pointer (some ⟨w.heap.size + 1 + 1, 0, none⟩)])) rfl (by kernel_rfl) (by kernel_rfl) (by kernel_rfl) (fun _ _ _ h => h) (Or.inl ⟨by rfl, by intro w' hw'; (try dsimp only at hw'); go_simp⟩) hS0 ?_
  simp only [Act.put, List.setIfInBounds_toArray, List.set_cons_zero, List.set_cons_succ]
  refine wpAnyH_take (i := 1) (oi := ⟨some 11, _, _, _, _, _⟩) (v := .agg #[.int .u32 0, .int .i64 0]) rfl (by kernel_rfl) (by kernel_rfl) (by kernel_rfl) (fun _ _ _ h => h) (Or.inl ⟨by rfl, by intro w' hw'; (try dsimp only at hw'); go_simp⟩) hS0 ?_
  simp only [Act.put, List.setIfInBounds_toArray, List.set_cons_zero, List.set_cons_succ]
  refine wpAnyH_take (i := 2) (oi := ⟨some 12, _, _, _, _, _⟩) (v := v1) rfl (by kernel_rfl) (by kernel_rfl) (by kernel_rfl) (fun _ _ _ h => h) (Or.inl ⟨by rfl, by intro w' hw'; (try dsimp only at hw'); go_simp⟩) hS0 ?_
  simp only [Act.put, List.setIfInBounds_toArray, List.set_cons_zero, List.set_cons_succ]
  refine wpAnyH_take (i := 4) (oi := ⟨some 14, _, _, _, _, _⟩) (v := v2) rfl (by kernel_rfl) (by kernel_rfl) (by kernel_rfl) (fun _ _ _ h => h) (Or.inl ⟨by rfl, by intro w' hw'; (try dsimp only at hw'); go_simp⟩) hS0 ?_
  simp only [Act.put, List.setIfInBounds_toArray, List.set_cons_zero, List.set_cons_succ]
  refine wpAnyH_ready (rs := [3]) (by kernel_rfl) (by simp) ?_
  refine AllReadyH.cons rfl (fun K hK => ?_) AllReadyH.nil
  go_simp
  go_at_call 59
  refine (HA1.out _ (below_then hb0 hB0)).mono ?_
  rintro e w4 ⟨va, rfl, ho, hb⟩
  have hS1 := carry hb hS0
  have hB1 := below_then hB0 hb
  have O4 := Lib.hid (ownS_rdK ho)
  have hzA := hB0.size
  clear ho hb
  go_wp2_with fail
  refine hK.out _ _ hS1 (fun _ => ?_)
  clear hK K hS0
  (try simp only [Act.put, List.setIfInBounds_toArray, List.set_cons_zero, List.set_cons_succ])
  refine wpAnyH_ready (rs := [5]) (by kernel_rfl) (by simp) ?_
  refine AllReadyH.cons rfl (fun K hK => ?_) AllReadyH.nil
  go_simp
  go_at_call 59
  refine (HA2.out _ (below_then hb0 hB1)).mono ?_
  rintro e w5 ⟨vb, rfl, ho, hb⟩
  have hS2 := carry hb hS1
  have hB2 := below_then hB1 hb
  have hzB := hB1.size
  have O5 := Lib.hid (And.intro (O4.out.below hb) (And.intro (ownS_rdK ho) hb.size))
  clear ho hb
  go_wp2_with fail
  refine hK.out _ _ hS2 (fun _ => ?_)
  clear hK K hS1
  (try simp only [Act.put, List.setIfInBounds_toArray, List.set_cons_zero, List.set_cons_succ])
  refine wpAnyH_ready (rs := [6]) (by kernel_rfl) (by simp) ?_
  refine AllReadyH.cons rfl (fun K hK => ?_) AllReadyH.nil
  go_simp
  have hb5 := hB2
  have d0 := carry hb5 c0
  have d1 := (hb5.block _ (lt_of_block c1)).trans c1
  have hR : ResI (w.heap.size + 1) (fun k => k < w5.heap.size ∧ k ≠ w.heap.size + 1) [] w5 := resI_start d1 (fun h => h.2 rfl) (fun k hk => hk.1)
  have hz5 := hb5.size
  refine (HC.out 32 0 0 (ascd a) (ascd b) va vb [] (fun k => k < w5.heap.size ∧ k ≠ w.heap.size + 1) w5 rfl (by omega) (by simp) (by simp) GA.out GB.out (O5.out.1.mono (fun k hk => ⟨by have := O5.out.2.2; omega, by omega⟩)) (O5.out.2.1.mono (fun k hk => ⟨hk.2, by have := hk.1; have := O5.out.2.2; omega⟩)) ⟨by omega, by omega⟩ ⟨by omega, by omega⟩ d0 hS2 hR (Nat.le_refl _) (by simp)).mono ?_
  rintro e w6 ⟨rfl, B, hB, hR6, hK6⟩
  have b6 := Lib.hid ((hb0.trans (hb5.mono (by omega))).trans (hK6.below (B := w.heap.size) (fun k hk => ⟨by omega, by omega⟩)))
  have HB := Lib.hid hB
  have hS3 := hK6.carry (p := ⟨w.heap.size + 1 + 1, 0, none⟩) ⟨by show w.heap.size + 1 + 1 < _; omega, by show w.heap.size + 1 + 1 ≠ _; omega⟩ hS2
  obtain ⟨vr, hVr⟩ := hR6
  have hcr := hVr.cell.1
  have hrd := rd_own hVr.row
  have hcp := Lib.hid (cap_form hVr)
  have HRD := Lib.hid hrd
  clear hB hVr hR d0 d1 hK6 hrd
  go_wp2_with fail
  refine hK.out _ _ hS3 (fun _ => ?_)
  clear hK K
  (try simp only [Act.put, List.setIfInBounds_toArray, List.set_cons_zero, List.set_cons_succ])
  refine wpAnyH_done (by kernel_rfl) ?_ _
  go_wp2
  go_ret
  exact ⟨vr, B, rfl, HB.out.root HLT.out, HRD.out, b6.out, hcp.out⟩
theorem combine70C_any (a b : List PP) (v1 v2 : Value) (w : World) (ha : a.length ≤ 4294967296) (hb : b.length ≤ 4294967296) (fa : ∀ x ∈ a, x.1 < 4294967296 ∧ I64 x.2) (fb : ∀ x ∈ b, x.1 < 4294967296 ∧ I64 x.2) (hr1 : Rd w v1 a) (hr2 : Rd w v2 b) :
    Calls Try.prog 66 #[v1, v2, .func (.func 70) #[] #[]] w fun e w' => ∃ v B, e = .returned v ∧ CM.Nrm (fun y => ((mem a y) && !(mem b y))) B ∧ Rd w' v (B.map pfx) ∧ Below w.heap.size w w' ∧ CapOK v := by
  have HC := Lib.hid (comb70_all (fun y => ((mem a y) && !(mem b y))) (mem a) (mem b) (fun y => rfl) w.heap.size (w.heap.size + 1) (w.heap.size + 1 + 1))
  have HA1 : Hid (∀ W, Below w.heap.size w W → Calls Try.prog 59 #[v1] W fun e w' => ∃ v', e = .returned v' ∧ OwnS W.heap.size w' v' (ascd a) ∧ Below W.heap.size W w') := fun W hW => ascending_any a v1 W ha fa (hr1.below hW)
  have HA2 : Hid (∀ W, Below w.heap.size w W → Calls Try.prog 59 #[v2] W fun e w' => ∃ v', e = .returned v' ∧ OwnS W.heap.size w' v' (ascd b) ∧ Below W.heap.size W w') := fun W hW => ascending_any b v2 W hb fb (hr2.below hW)
  have GA : Hid (GL (mem a) 0 32 (ascd a)) := gl_ascd ha fa
  have GB : Hid (GL (mem b) 0 32 (ascd b)) := gl_ascd hb fb
  have HLT : Hid (∀ y, (((mem a y) && !(mem b y))) = true → y < 4294967296) := fun y hy => by
    have h1 : mem a y = true ∨ mem b y = true := by revert hy; cases mem a y <;> cases mem b y <;> simp
    rcases h1 with h1 | h1
    · exact mem_lt (fun x hx => (fa x hx).1) y h1
    · exact mem_lt (fun x hx => (fb x hx).1) y h1
  clear hr1 hr2 fa fb ha hb
  go_enter Try.func66, Try.ntmps66
  go_wp2_with fail
  obtain ⟨W, hW⟩ : ∃ W, W = ((w.alloc (.cells #[.func (.func 70) #[] #[]] 77)).alloc (.cells #[.slice none 0 0] 22)).alloc
          (.cells #[(.func (.func 105) #[] #[.pointer (some ⟨w.heap.size, 0, none⟩), .pointer (some ⟨w.heap.size + 1, 0, none⟩), .pointer (some ⟨w.heap.size + 1 + 1, 0, none⟩)])] 112) := ⟨_, rfl⟩
  rw [← hW]
  have hb0 : Below w.heap.size w W := by rw [hW]; exact (((Below.refl _ _).alloc (Nat.le_refl _) _).alloc (by simp) _).alloc (by simp; omega) _
  have hz : W.heap.size = w.heap.size + 3 := by rw [hW]; simp
  have c0 : W.cell? ⟨w.heap.size, 0, none⟩ = some (.func (.func 70) #[] #[]) := by rw [hW]; exact carry (below_alloc _ _) (carry (below_alloc _ _) (cell_of_one (heap_alloc_new w _)))
  have c2 : W.cell? ⟨w.heap.size + 1 + 1, 0, none⟩ = some (.func (.func 105) #[] #[.pointer (some ⟨w.heap.size, 0, none⟩), .pointer (some ⟨w.heap.size + 1, 0, none⟩), .pointer (some ⟨w.heap.size + 1 + 1, 0, none⟩)]) := by
    rw [hW]
    refine cell_of_one (t := 112) ?_
    have := heap_alloc_new ((w.alloc (.cells #[.func (.func 70) #[] #[]] 77)).alloc (.cells #[.slice none 0 0] 22)) (.cells #[(.func (.func 105) #[] #[.pointer (some ⟨w.heap.size, 0, none⟩), .pointer (some ⟨w.heap.size + 1, 0, none⟩), .pointer (some ⟨w.heap.size + 1 + 1, 0, none⟩)])] 112)
    simpa using this
  have c1 : W.heap[w.heap.size + 1]? = some (.cells #[.slice none 0 0] 22 (0, 0)) := by
    rw [hW, Below.heap_alloc _ _ _ (by simp)]
    have := heap_alloc_new (w.alloc (.cells #[.func (.func 70) #[] #[]] 77)) (.cells #[.slice none 0 0] 22)
    simpa using this
  clear hW
  refine wp_region_held_drew (S := fun W' => W'.cell? ⟨w.heap.size + 1 + 1, 0, none⟩ = some (.func (.func 105) #[] #[.pointer (some ⟨w.heap.size, 0, none⟩), .pointer (some ⟨w.heap.size + 1, 0, none⟩), .pointer (some ⟨w.heap.size + 1 + 1, 0, none⟩)])) (by kernel_rfl) c2 (fun hS0 => ?_)
  have hB0 : Below W.heap.size W W.drew := (Below.refl _ _).drew
  refine wpAnyH_take (i := 0) (oi := ⟨some 10, _, _, _, _, _⟩) (v := (.func (.func 105) #[] #[.pointer (some ⟨w.heap.size, 0, none⟩), .pointer (some ⟨w.heap.size + 1, 0, none⟩), .pointer (some ⟨w.heap.size + 1 + 1, 0, none⟩)])) rfl (by kernel_rfl) (by kernel_rfl) (by kernel_rfl) (fun _ _ _ h => h) (Or.inl ⟨by rfl, by intro w' hw'; (try dsimp only at hw'); go_simp⟩) hS0 ?_
  simp only [Act.put, List.setIfInBounds_toArray, List.set_cons_zero, List.set_cons_succ]
  refine wpAnyH_take (i := 1) (oi := ⟨some 11, _, _, _, _, _⟩) (v := .agg #[.int .u32 0, .int .i64 0]) rfl (by kernel_rfl) (by kernel_rfl) (by kernel_rfl) (fun _ _ _ h => h) (Or.inl ⟨by rfl, by intro w' hw'; (try dsimp only at hw'); go_simp⟩) hS0 ?_
  simp only [Act.put, List.setIfInBounds_toArray, List.set_cons_zero, List.set_cons_succ]
  refine wpAnyH_take (i := 2) (oi := ⟨some 12, _, _, _, _, _⟩) (v := v1) rfl (by kernel_rfl) (by kernel_rfl) (by kernel_rfl) (fun _ _ _ h => h) (Or.inl ⟨by rfl, by intro w' hw'; (try dsimp only at hw'); go_simp⟩) hS0 ?_
  simp only [Act.put, List.setIfInBounds_toArray, List.set_cons_zero, List.set_cons_succ]
  refine wpAnyH_take (i := 4) (oi := ⟨some 14, _, _, _, _, _⟩) (v := v2) rfl (by kernel_rfl) (by kernel_rfl) (by kernel_rfl) (fun _ _ _ h => h) (Or.inl ⟨by rfl, by intro w' hw'; (try dsimp only at hw'); go_simp⟩) hS0 ?_
  simp only [Act.put, List.setIfInBounds_toArray, List.set_cons_zero, List.set_cons_succ]
  refine wpAnyH_ready (rs := [3]) (by kernel_rfl) (by simp) ?_
  refine AllReadyH.cons rfl (fun K hK => ?_) AllReadyH.nil
  go_simp
  go_at_call 59
  refine (HA1.out _ (below_then hb0 hB0)).mono ?_
  rintro e w4 ⟨va, rfl, ho, hb⟩
  have hS1 := carry hb hS0
  have hB1 := below_then hB0 hb
  have O4 := Lib.hid (ownS_rdK ho)
  have hzA := hB0.size
  clear ho hb
  go_wp2_with fail
  refine hK.out _ _ hS1 (fun _ => ?_)
  clear hK K hS0
  (try simp only [Act.put, List.setIfInBounds_toArray, List.set_cons_zero, List.set_cons_succ])
  refine wpAnyH_ready (rs := [5]) (by kernel_rfl) (by simp) ?_
  refine AllReadyH.cons rfl (fun K hK => ?_) AllReadyH.nil
  go_simp
  go_at_call 59
  refine (HA2.out _ (below_then hb0 hB1)).mono ?_
  rintro e w5 ⟨vb, rfl, ho, hb⟩
  have hS2 := carry hb hS1
  have hB2 := below_then hB1 hb
  have hzB := hB1.size
  have O5 := Lib.hid (And.intro (O4.out.below hb) (And.intro (ownS_rdK ho) hb.size))
  clear ho hb
  go_wp2_with fail
  refine hK.out _ _ hS2 (fun _ => ?_)
  clear hK K hS1
  (try simp only [Act.put, List.setIfInBounds_toArray, List.set_cons_zero, List.set_cons_succ])
  refine wpAnyH_ready (rs := [6]) (by kernel_rfl) (by simp) ?_
  refine AllReadyH.cons rfl (fun K hK => ?_) AllReadyH.nil
  go_simp
  have hb5 := hB2
  have d0 := carry hb5 c0
  have d1 := (hb5.block _ (lt_of_block c1)).trans c1
  have hR : ResI (w.heap.size + 1) (fun k => k < w5.heap.size ∧ k ≠ w.heap.size + 1) [] w5 := resI_start d1 (fun h => h.2 rfl) (fun k hk => hk.1)
  have hz5 := hb5.size
  refine (HC.out 32 0 0 (ascd a) (ascd b) va vb [] (fun k => k < w5.heap.size ∧ k ≠ w.heap.size + 1) w5 rfl (by omega) (by simp) (by simp) GA.out GB.out (O5.out.1.mono (fun k hk => ⟨by have := O5.out.2.2; omega, by omega⟩)) (O5.out.2.1.mono (fun k hk => ⟨hk.2, by have := hk.1; have := O5.out.2.2; omega⟩)) ⟨by omega, by omega⟩ ⟨by omega, by omega⟩ d0 hS2 hR (Nat.le_refl _) (by simp)).mono ?_
  rintro e w6 ⟨rfl, B, hB, hR6, hK6⟩
  have b6 := Lib.hid ((hb0.trans (hb5.mono (by omega))).trans (hK6.below (B := w.heap.size) (fun k hk => ⟨by omega, by omega⟩)))
  have HB := Lib.hid hB
  have hS3 := hK6.carry (p := ⟨w.heap.size + 1 + 1, 0, none⟩) ⟨by show w.heap.size + 1 + 1 < _; omega, by show w.heap.size + 1 + 1 ≠ _; omega⟩ hS2
  obtain ⟨vr, hVr⟩ := hR6
  have hcr := hVr.cell.1
  have hrd := rd_own hVr.row
  have hcp := Lib.hid (cap_form hVr)
  have HRD := Lib.hid hrd
  clear hB hVr hR d0 d1 hK6 hrd
  go_wp2_with fail
  refine hK.out _ _ hS3 (fun _ => ?_)
  clear hK K
  (try simp only [Act.put, List.setIfInBounds_toArray, List.set_cons_zero, List.set_cons_succ])
  refine wpAnyH_done (by kernel_rfl) ?_ _
  go_wp2
  go_ret
  exact ⟨vr, B, rfl, HB.out.root HLT.out, HRD.out, b6.out, hcp.out⟩

theorem unionC_any (a b : List PP) (v1 v2 : Value) (w : World) (ha : Big a) (hb : Big b) (fa : FitL a) (fb : FitL b) (hr1 : Rd w v1 a) (hr2 : Rd w v2 b) :
    Calls Try.prog 27 #[v1, v2] w fun e w' => ∃ v B, e = .returned v ∧ CM.Nrm (fun y => (mem a y || mem b y)) B ∧ Rd w' v (B.map pfx) ∧ Below w.heap.size w w' ∧ CapOK v := by
  have H := Lib.hid (combine67C_any a b v1 v2 w ha hb fa fb hr1 hr2)
  clear hr1 hr2
  go_enter Try.func27, Try.ntmps27
  go_wp2_with (go_at_call 66; refine H.out.mono ?_; rintro e w1 ⟨v, B, rfl, hB⟩; have HB := Lib.hid hB; clear hB)
  go_ret
  exact ⟨v, B, rfl, HB.out⟩
theorem interC_any (a b : List PP) (v1 v2 : Value) (w : World) (ha : Big a) (hb : Big b) (fa : FitL a) (fb : FitL b) (hr1 : Rd w v1 a) (hr2 : Rd w v2 b) :
    Calls Try.prog 29 #[v1, v2] w fun e w' => ∃ v B, e = .returned v ∧ CM.Nrm (fun y => (mem a y && mem b y)) B ∧ Rd w' v (B.map pfx) ∧ Below w.heap.size w w' ∧ CapOK v := by
  have H := Lib.hid (combine68C_any a b v1 v2 w ha hb fa fb hr1 hr2)
  clear hr1 hr2
  go_enter Try.func29, Try.ntmps29
  go_wp2_with (go_at_call 66; refine H.out.mono ?_; rintro e w1 ⟨v, B, rfl, hB⟩; have HB := Lib.hid hB; clear hB)
  go_ret
  exact ⟨v, B, rfl, HB.out⟩
theorem subtC_any (a b : List PP) (v1 v2 : Value) (w : World) (ha : Big a) (hb : Big b) (fa : FitL a) (fb : FitL b) (hr1 : Rd w v1 a) (hr2 : Rd w v2 b) :
    Calls Try.prog 31 #[v1, v2] w fun e w' => ∃ v B, e = .returned v ∧ CM.Nrm (fun y => (mem a y && !mem b y)) B ∧ Rd w' v (B.map pfx) ∧ Below w.heap.size w w' ∧ CapOK v := by
  have H := Lib.hid (combine70C_any a b v1 v2 w ha hb fa fb hr1 hr2)
  clear hr1 hr2
  go_enter Try.func31, Try.ntmps31
  go_wp2_with (go_at_call 66; refine H.out.mono ?_; rintro e w1 ⟨v, B, rfl, hB⟩; have HB := Lib.hid hB; clear hB)
  go_ret
  exact ⟨v, B, rfl, HB.out⟩
end Go.Proofs.Ytegponbmelgngaa
