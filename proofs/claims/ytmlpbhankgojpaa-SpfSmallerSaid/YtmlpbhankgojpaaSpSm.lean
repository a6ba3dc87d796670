/-
  The walks of SameInts, of the library's Equal, of Rows and EqualFunc, of both Same.
-/
import Derived.Test.YtmlpbhankgojpaaSpMem
import Derived.Test.YtmlpbhankgojpaaSpLay
import Derived.Test.YtmlpbhankgojpaaGrCo
import Derived.Deep.DeepCutAuto
namespace Go.Proofs.Ytmlpbhankgojpaa
open Go.RowKit HM GM SP
set_option linter.unusedSimpArgs false
set_option linter.unusedVariables false
set_option maxHeartbeats 4000000
set_option maxRecDepth 100000

theorem same_len (m l : List Int) (v u : Value) (w : World) (hv : RdI w v m) (hu : RdI w u l) (hne : m.length ≠ l.length) : Calls Try.prog 18 #[v, u] w fun e w' => e = .returned (.bool (decide (m = l))) ∧ Below w.heap.size w w' := by
  obtain ⟨va, vc, rfl, v1, v2, hvc⟩ := hv
  obtain ⟨ua, uc, rfl, u1, u2, huc⟩ := hu
  have H : Hid (decide (m = l) = false) := decide_eq_false fun e => hne (by rw [e])
  have hne' : ((m.length : Int) != (l.length : Int)) = true := by simp; omega
  clear hvc huc
  generalize m.length = a at *
  generalize l.length = b at *
  clear hne
  go_enter Try.func18, Try.ntmps18
  go_wp2
  go_ret
  exact ⟨by rw [H.out]; rfl, Below.refl _ _⟩
theorem same_in (m l : List Int) (v u : Value) (w : World) (hv : RdI w v m) (hu : RdI w u l) (hne : m.length = l.length) : Calls Try.prog 18 #[v, u] w fun e w' => e = .returned (.bool (decide (m = l))) ∧ Below w.heap.size w w' := by
  obtain ⟨va, vc, rfl, v1, v2, hvc⟩ := hv
  obtain ⟨ua, uc, rfl, u1, u2, huc⟩ := hu
  obtain ⟨L, hL⟩ : ∃ L, m.length = L := ⟨_, rfl⟩
  have hl : l.length = L := by omega
  rw [hL] at v1 ⊢
  rw [hl] at u1 ⊢
  have HL := Lib.hid (And.intro hL hl)
  have HV := Lib.hid hvc
  have HU := Lib.hid huc
  have hL2 : L ≤ 9223372036854775807 := by omega
  have H0 : Hid (∀ j, j < 0 → m[j]? = l[j]?) := fun j hj => by omega
  clear hL hl hvc huc hne
  have hee : ((L : Int) == (L : Int)) = true := by simp
  have hen : ((L : Int) != (L : Int)) = false := by simp
  go_enter Try.func18, Try.ntmps18
  go_wp2_with fail
  go_loopg [5] L (fun g s5 wr => ∃ k : Nat, k ≤ L ∧ L - k ≤ g ∧ s5 = .int .i64 (k : Int) ∧ Hid (Below w.heap.size w wr) ∧ Hid (∀ j, j < k → m[j]? = l[j]?))
  case atStart => exact ⟨0, by omega, by omega, rfl, Below.refl _ _, H0⟩
  case round =>
    clear H0
    obtain ⟨k, hk, hkg, rfl, HB, HE⟩ := hrel
    by_cases hlt : k < L
    · obtain ⟨x, hx⟩ : ∃ y, m[k]? = some y := ⟨_, List.getElem?_eq_getElem (by have := HL.out; omega)⟩
      obtain ⟨y, hy⟩ : ∃ y, l[k]? = some y := ⟨_, List.getElem?_eq_getElem (by have := HL.out; omega)⟩
      obtain ⟨b, o, rfl, hb, c⟩ := HV.out k x hx
      obtain ⟨b', o', rfl, hb', c'⟩ := HU.out k y hy
      have d := carryB HB.out hb c
      have d' := carryB HB.out hb' c'
      have k0 : (0 : Int) ≤ (k : Int) := by omega
      have k1 : (k : Int) < (L : Int) := by omega
      have HXY := Lib.hid (And.intro hx hy)
      clear c c' hx hy
      by_cases hxy : x = y
      · have hxb : (x != y) = false := by simpa using hxy
        have HN : Hid (∀ j, j < k + 1 → m[j]? = l[j]?) := fun j hj => by
          by_cases e : j = k
          · rw [e, HXY.out.1, HXY.out.2, hxy]
          · exact HE.out j (by omega)
        clear hxy
        go_wp2_with fail
        go_quiet (fail)
        go_wp2_with fail
        go_roundg (L - (k + 1))
        case measure => omega
        case rel => exact ⟨k + 1, by omega, Nat.le_refl _, by go_num, below_drewN HB.out _, HN⟩
      · have hxb : (x != y) = true := by simpa using hxy
        have HF : Hid (decide (m = l) = false) := decide_eq_false fun e => hxy (by have h := HXY.out; rw [e, h.2] at h; exact (Option.some.inj h.1).symm)
        clear hxy
        go_wp2_with fail
        go_quiet (fail)
        go_wp2
        go_ret
        exact ⟨by rw [HF.out]; rfl, below_drewN HB.out _⟩
    · have k1 : decide ((k : Int) < (L : Int)) = false := decide_eq_false (by omega)
      have HT : Hid (decide (m = l) = true) := decide_eq_true (List.ext_getElem? fun j => by
        by_cases e : j < k
        · exact HE.out j e
        · rw [List.getElem?_eq_none (by have := HL.out; omega), List.getElem?_eq_none (by have := HL.out; omega)])
      go_wp2
      go_ret
      exact ⟨by rw [HT.out]; rfl, HB.out⟩
theorem same_ints (m l : List Int) (v u : Value) (w : World) (hv : RdI w v m) (hu : RdI w u l) : Calls Try.prog 18 #[v, u] w fun e w' => e = .returned (.bool (decide (m = l))) ∧ Below w.heap.size w w' := by
  by_cases h : m.length = l.length
  · exact same_in m l v u w hv hu h
  · exact same_len m l v u w hv hu h
/-- the library's Equal -/
theorem equal_ints (m l : List Int) (v u : Value) (w : World) (hv : RdI w v m) (hu : RdI w u l) : Calls Try.prog 38 #[v, u] w fun e w' => e = .returned (.bool (decide (m = l))) ∧ Below w.heap.size w w' := by
  obtain ⟨va, vc, rfl, v1, v2, hvc⟩ := hv
  obtain ⟨ua, uc, rfl, u1, u2, huc⟩ := hu
  by_cases h : m.length = l.length
  · by_cases h0 : 0 < m.length
    · obtain ⟨b, o, rfl, hb, _⟩ := hvc 0 _ (List.getElem?_eq_getElem h0)
      obtain ⟨b', o', rfl, hb', _⟩ := huc 0 _ (List.getElem?_eq_getElem (by omega))
      have := Try.slices_Equal_int b o m.length vc b' o' l.length uc m l w (Nat.le_refl _) (Nat.le_refl _) (by omega) (by omega)
        (fun j hj => by obtain ⟨b1, o1, e, _, c⟩ := hvc j _ (List.getElem?_eq_getElem hj); cases e; rw [c]; simp [List.getD, hj])
        (fun j hj => by obtain ⟨b1, o1, e, _, c⟩ := huc j _ (List.getElem?_eq_getElem hj); cases e; rw [c]; simp [List.getD, hj])
      rw [List.take_length, List.take_length] at this
      refine this.mono ?_
      rintro e w' ⟨rfl, q, rfl⟩
      refine ⟨?_, below_drewN (Below.refl _ _) q⟩
      congr 2
      rw [Bool.eq_iff_iff]; simp
    · have hm : m.length = 0 := by omega
      have hl : l.length = 0 := by omega
      rw [hm, hl]
      refine (Try.slices_Equal_int_empty va ua vc 0 uc w (by omega)).mono ?_
      rintro e w' ⟨rfl, rfl⟩
      refine ⟨?_, Below.refl _ _⟩
      rw [List.length_eq_zero_iff.1 hm, List.length_eq_zero_iff.1 hl]; rfl
  · refine (Try.slices_Equal_int_lens va ua m.length vc l.length uc w h).mono ?_
    intro e w' he
    obtain ⟨e1, e2⟩ := he
    have : decide (m = l) = false := decide_eq_false fun e => h (by rw [e])
    rw [this]
    first
      | exact ⟨e1, by rw [e2]; exact Below.refl _ _⟩
      | (obtain ⟨q, rfl⟩ := e2; exact ⟨e1, below_drewN (Below.refl _ _) q⟩)
/-- rows of integers as memory reads -/
def RdR (w : World) (v : Value) (rows : List (List Int)) : Prop :=
  ∃ ad cap, v = .slice ad rows.length cap ∧ rows.length ≤ cap ∧ cap ≤ 9223372036854775807 ∧ ∀ k r, rows[k]? = some r → ∃ b off u, ad = some ⟨b, off, none⟩ ∧ b < w.heap.size ∧ w.cell? ⟨b, off + k, none⟩ = some u ∧ RdI w u r
theorem RdR.below {w w' : World} {v : Value} {l : List (List Int)} (h : RdR w v l) (hb : Below w.heap.size w w') : RdR w' v l := by
  obtain ⟨ad, cap, rfl, h1, h2, hc⟩ := h
  refine ⟨ad, cap, rfl, h1, h2, fun k x hk => ?_⟩
  obtain ⟨b, off, u, e, hlt, c0, hr⟩ := hc k x hk
  exact ⟨b, off, u, e, Nat.lt_of_lt_of_le hlt hb.size, by rw [hb.cell hlt]; exact c0, hr.below hb⟩
theorem rows_len (m l : List (List Int)) (v u : Value) (w : World) (hv : RdR w v m) (hu : RdR w u l) (hne : m.length ≠ l.length) : Calls Try.prog 23 #[v, u] w fun e w' => e = .returned (.bool (decide (m = l))) ∧ Below w.heap.size w w' := by
  obtain ⟨va, vc, rfl, v1, v2, hvc⟩ := hv
  obtain ⟨ua, uc, rfl, u1, u2, huc⟩ := hu
  have H : Hid (decide (m = l) = false) := decide_eq_false fun e => hne (by rw [e])
  have hne' : ((m.length : Int) != (l.length : Int)) = true := by simp; omega
  clear hvc huc
  generalize m.length = a at *
  generalize l.length = b at *
  clear hne
  go_enter Try.func23, Try.ntmps23
  go_wp2
  go_ret
  exact ⟨by rw [H.out]; rfl, Below.refl _ _⟩
theorem rows_in (m l : List (List Int)) (v u : Value) (w : World) (hv : RdR w v m) (hu : RdR w u l) (hne : m.length = l.length) : Calls Try.prog 23 #[v, u] w fun e w' => e = .returned (.bool (decide (m = l))) ∧ Below w.heap.size w w' := by
  obtain ⟨va, vc, rfl, v1, v2, hvc⟩ := hv
  obtain ⟨ua, uc, rfl, u1, u2, huc⟩ := hu
  obtain ⟨L, hL⟩ : ∃ L, m.length = L := ⟨_, rfl⟩
  have hl : l.length = L := by omega
  rw [hL] at v1 ⊢
  rw [hl] at u1 ⊢
  have HL := Lib.hid (And.intro hL hl)
  have HV := Lib.hid hvc
  have HU := Lib.hid huc
  have hL2 : L ≤ 9223372036854775807 := by omega
  have H0 : Hid (∀ j, j < 0 → m[j]? = l[j]?) := fun j hj => by omega
  clear hL hl hvc huc hne
  have hee : ((L : Int) == (L : Int)) = true := by simp
  have hen : ((L : Int) != (L : Int)) = false := by simp
  go_enter Try.func23, Try.ntmps23
  go_wp2_with fail
  go_loopg [5] L (fun g s5 wr => ∃ k : Nat, k ≤ L ∧ L - k ≤ g ∧ s5 = .int .i64 (k : Int) ∧ Hid (Below w.heap.size w wr) ∧ Hid (∀ j, j < k → m[j]? = l[j]?))
  case atStart => exact ⟨0, by omega, by omega, rfl, Below.refl _ _, H0⟩
  case round =>
    clear H0
    obtain ⟨k, hk, hkg, rfl, HB, HE⟩ := hrel
    by_cases hlt : k < L
    · obtain ⟨x, hx⟩ : ∃ y, m[k]? = some y := ⟨_, List.getElem?_eq_getElem (by have := HL.out; omega)⟩
      obtain ⟨y, hy⟩ : ∃ y, l[k]? = some y := ⟨_, List.getElem?_eq_getElem (by have := HL.out; omega)⟩
      obtain ⟨b, o, vx, rfl, hb, c, rx⟩ := HV.out k x hx
      obtain ⟨b', o', vy, rfl, hb', c', ry⟩ := HU.out k y hy
      have d := carryB HB.out hb c
      have d' := carryB HB.out hb' c'
      have k0 : (0 : Int) ≤ (k : Int) := by omega
      have k1 : (k : Int) < (L : Int) := by omega
      have HXY := Lib.hid (And.intro hx hy)
      have HC : Hid (∀ W, Below w.heap.size w W → Calls Try.prog 18 #[vx, vy] W fun e w' => e = .returned (.bool (decide (x = y))) ∧ Below W.heap.size W w') := fun W hW => same_ints x y vx vy W (rx.below hW) (ry.below hW)
      clear c c' hx hy rx ry
      by_cases hxy : x = y
      · have HN : Hid (∀ j, j < k + 1 → m[j]? = l[j]?) := fun j hj => by
          by_cases e : j = k
          · rw [e, HXY.out.1, HXY.out.2, hxy]
          · exact HE.out j (by omega)
        rw [decide_eq_true hxy] at HC
        clear hxy
        go_upto_region 6 with (fail)
        refine wp_region_held_drew (S := (fun W => W.cell? ⟨b, o + k, none⟩ = some vx ∧ W.cell? ⟨b', o' + k, none⟩ = some vy)) (by kernel_rfl) ⟨d, d'⟩ (fun hS0 => ?_)
        refine wpAnyH_take (i := 0) (oi := ⟨some 17, _, _, _, _, _⟩) (v := .slice (some ⟨b, o, none⟩) L vc) rfl (by kernel_rfl) (by kernel_rfl) (by kernel_rfl) (fun _ _ _ h => h) (Or.inl ⟨by rfl, by intro w' hw'; obtain ⟨q0, q1⟩ := hw'; go_simp⟩) hS0 ?_
        simp only [Act.put, List.setIfInBounds_toArray, List.set_cons_zero, List.set_cons_succ]
        refine wpAnyH_take (i := 1) (oi := ⟨some 18, _, _, _, _, _⟩) (v := .int .i64 (k : Int)) rfl (by kernel_rfl) (by kernel_rfl) (by kernel_rfl) (fun _ _ _ h => h) (Or.inl ⟨by rfl, by intro w' hw'; obtain ⟨q0, q1⟩ := hw'; go_simp⟩) hS0 ?_
        simp only [Act.put, List.setIfInBounds_toArray, List.set_cons_zero, List.set_cons_succ]
        refine wpAnyH_take (i := 2) (oi := ⟨some 19, _, _, _, _, _⟩) (v := .pointer (some ⟨b, o + k, none⟩)) rfl (by kernel_rfl) (by kernel_rfl) (by kernel_rfl) (fun _ _ _ h => h) (Or.inl ⟨by rfl, by intro w' hw'; obtain ⟨q0, q1⟩ := hw'; go_simp⟩) hS0 ?_
        simp only [Act.put, List.setIfInBounds_toArray, List.set_cons_zero, List.set_cons_succ]
        refine wpAnyH_take (i := 3) (oi := ⟨some 20, _, _, _, _, _⟩) (v := vx) rfl (by kernel_rfl) (by kernel_rfl) (by kernel_rfl) (fun _ _ _ h => h) (Or.inl ⟨by rfl, by intro w' hw'; obtain ⟨q0, q1⟩ := hw'; go_simp⟩) hS0 ?_
        simp only [Act.put, List.setIfInBounds_toArray, List.set_cons_zero, List.set_cons_succ]
        refine wpAnyH_take (i := 4) (oi := ⟨some 21, _, _, _, _, _⟩) (v := .slice (some ⟨b', o', none⟩) L uc) rfl (by kernel_rfl) (by kernel_rfl) (by kernel_rfl) (fun _ _ _ h => h) (Or.inl ⟨by rfl, by intro w' hw'; obtain ⟨q0, q1⟩ := hw'; go_simp⟩) hS0 ?_
        simp only [Act.put, List.setIfInBounds_toArray, List.set_cons_zero, List.set_cons_succ]
        refine wpAnyH_take (i := 5) (oi := ⟨some 22, _, _, _, _, _⟩) (v := .int .i64 (k : Int)) rfl (by kernel_rfl) (by kernel_rfl) (by kernel_rfl) (fun _ _ _ h => h) (Or.inl ⟨by rfl, by intro w' hw'; obtain ⟨q0, q1⟩ := hw'; go_simp⟩) hS0 ?_
        simp only [Act.put, List.setIfInBounds_toArray, List.set_cons_zero, List.set_cons_succ]
        refine wpAnyH_take (i := 6) (oi := ⟨some 23, _, _, _, _, _⟩) (v := .pointer (some ⟨b', o' + k, none⟩)) rfl (by kernel_rfl) (by kernel_rfl) (by kernel_rfl) (fun _ _ _ h => h) (Or.inl ⟨by rfl, by intro w' hw'; obtain ⟨q0, q1⟩ := hw'; go_simp⟩) hS0 ?_
        simp only [Act.put, List.setIfInBounds_toArray, List.set_cons_zero, List.set_cons_succ]
        refine wpAnyH_take (i := 7) (oi := ⟨some 24, _, _, _, _, _⟩) (v := vy) rfl (by kernel_rfl) (by kernel_rfl) (by kernel_rfl) (fun _ _ _ h => h) (Or.inl ⟨by rfl, by intro w' hw'; obtain ⟨q0, q1⟩ := hw'; go_simp⟩) hS0 ?_
        simp only [Act.put, List.setIfInBounds_toArray, List.set_cons_zero, List.set_cons_succ]
        refine wpAnyH_ready (rs := [8]) (by kernel_rfl) (by simp) ?_
        refine AllReadyH.cons rfl (fun K hK => ?_) AllReadyH.nil
        go_simp
        go_at_call 18
        refine (HC.out _ HB.out.drew).mono ?_
        rintro e w3 ⟨rfl, hb3⟩
        have hb4 : Below wr.heap.size wr w3 := ⟨hb3.os, hb3.tape, hb3.output, hb3.size, hb3.block⟩
        have HB2 := Lib.hid (below_then HB.out hb4)
        have gS := And.intro (carry hb4 d) (carry hb4 d')
        clear hb3 hb4
        (try go_wp2_with fail)
        refine hK.out _ _ gS (fun _ => ?_)
        clear hK K
        (try simp only [Act.put, List.setIfInBounds_toArray, List.set_cons_zero, List.set_cons_succ])
        refine wpAnyH_take (i := 9) (oi := ⟨some 26, _, _, _, _, _⟩) (v := .bool false) rfl (by kernel_rfl) (by kernel_rfl) (by kernel_rfl) (fun _ _ _ h => h) (Or.inl ⟨by rfl, by intro w' hw'; obtain ⟨q0, q1⟩ := hw'; go_simp⟩) gS ?_
        simp only [Act.put, List.setIfInBounds_toArray, List.set_cons_zero, List.set_cons_succ]
        refine wpAnyH_done (by kernel_rfl) ?_ _
        go_wp2_with fail
        go_roundg (L - (k + 1))
        case measure => omega
        case rel => exact ⟨k + 1, by omega, Nat.le_refl _, by go_num, HB2, HN⟩
      · have HF : Hid (decide (m = l) = false) := decide_eq_false fun e => hxy (by have h := HXY.out; rw [e, h.2] at h; exact (Option.some.inj h.1).symm)
        rw [decide_eq_false hxy] at HC
        clear hxy
        go_upto_region 6 with (fail)
        refine wp_region_held_drew (S := (fun W => W.cell? ⟨b, o + k, none⟩ = some vx ∧ W.cell? ⟨b', o' + k, none⟩ = some vy)) (by kernel_rfl) ⟨d, d'⟩ (fun hS0 => ?_)
        refine wpAnyH_take (i := 0) (oi := ⟨some 17, _, _, _, _, _⟩) (v := .slice (some ⟨b, o, none⟩) L vc) rfl (by kernel_rfl) (by kernel_rfl) (by kernel_rfl) (fun _ _ _ h => h) (Or.inl ⟨by rfl, by intro w' hw'; obtain ⟨q0, q1⟩ := hw'; go_simp⟩) hS0 ?_
        simp only [Act.put, List.setIfInBounds_toArray, List.set_cons_zero, List.set_cons_succ]
        refine wpAnyH_take (i := 1) (oi := ⟨some 18, _, _, _, _, _⟩) (v := .int .i64 (k : Int)) rfl (by kernel_rfl) (by kernel_rfl) (by kernel_rfl) (fun _ _ _ h => h) (Or.inl ⟨by rfl, by intro w' hw'; obtain ⟨q0, q1⟩ := hw'; go_simp⟩) hS0 ?_
        simp only [Act.put, List.setIfInBounds_toArray, List.set_cons_zero, List.set_cons_succ]
        refine wpAnyH_take (i := 2) (oi := ⟨some 19, _, _, _, _, _⟩) (v := .pointer (some ⟨b, o + k, none⟩)) rfl (by kernel_rfl) (by kernel_rfl) (by kernel_rfl) (fun _ _ _ h => h) (Or.inl ⟨by rfl, by intro w' hw'; obtain ⟨q0, q1⟩ := hw'; go_simp⟩) hS0 ?_
        simp only [Act.put, List.setIfInBounds_toArray, List.set_cons_zero, List.set_cons_succ]
        refine wpAnyH_take (i := 3) (oi := ⟨some 20, _, _, _, _, _⟩) (v := vx) rfl (by kernel_rfl) (by kernel_rfl) (by kernel_rfl) (fun _ _ _ h => h) (Or.inl ⟨by rfl, by intro w' hw'; obtain ⟨q0, q1⟩ := hw'; go_simp⟩) hS0 ?_
        simp only [Act.put, List.setIfInBounds_toArray, List.set_cons_zero, List.set_cons_succ]
        refine wpAnyH_take (i := 4) (oi := ⟨some 21, _, _, _, _, _⟩) (v := .slice (some ⟨b', o', none⟩) L uc) rfl (by kernel_rfl) (by kernel_rfl) (by kernel_rfl) (fun _ _ _ h => h) (Or.inl ⟨by rfl, by intro w' hw'; obtain ⟨q0, q1⟩ := hw'; go_simp⟩) hS0 ?_
        simp only [Act.put, List.setIfInBounds_toArray, List.set_cons_zero, List.set_cons_succ]
        refine wpAnyH_take (i := 5) (oi := ⟨some 22, _, _, _, _, _⟩) (v := .int .i64 (k : Int)) rfl (by kernel_rfl) (by kernel_rfl) (by kernel_rfl) (fun _ _ _ h => h) (Or.inl ⟨by rfl, by intro w' hw'; obtain ⟨q0, q1⟩ := hw'; go_simp⟩) hS0 ?_
        simp only [Act.put, List.setIfInBounds_toArray, List.set_cons_zero, List.set_cons_succ]
        refine wpAnyH_take (i := 6) (oi := ⟨some 23, _, _, _, _, _⟩) (v := .pointer (some ⟨b', o' + k, none⟩)) rfl (by kernel_rfl) (by kernel_rfl) (by kernel_rfl) (fun _ _ _ h => h) (Or.inl ⟨by rfl, by intro w' hw'; obtain ⟨q0, q1⟩ := hw'; go_simp⟩) hS0 ?_
        simp only [Act.put, List.setIfInBounds_toArray, List.set_cons_zero, List.set_cons_succ]
        refine wpAnyH_take (i := 7) (oi := ⟨some 24, _, _, _, _, _⟩) (v := vy) rfl (by kernel_rfl) (by kernel_rfl) (by kernel_rfl) (fun _ _ _ h => h) (Or.inl ⟨by rfl, by intro w' hw'; obtain ⟨q0, q1⟩ := hw'; go_simp⟩) hS0 ?_
        simp only [Act.put, List.setIfInBounds_toArray, List.set_cons_zero, List.set_cons_succ]
        refine wpAnyH_ready (rs := [8]) (by kernel_rfl) (by simp) ?_
        refine AllReadyH.cons rfl (fun K hK => ?_) AllReadyH.nil
        go_simp
        go_at_call 18
        refine (HC.out _ HB.out.drew).mono ?_
        rintro e w3 ⟨rfl, hb3⟩
        have hb4 : Below wr.heap.size wr w3 := ⟨hb3.os, hb3.tape, hb3.output, hb3.size, hb3.block⟩
        have HB2 := Lib.hid (below_then HB.out hb4)
        have gS := And.intro (carry hb4 d) (carry hb4 d')
        clear hb3 hb4
        (try go_wp2_with fail)
        refine hK.out _ _ gS (fun _ => ?_)
        clear hK K
        (try simp only [Act.put, List.setIfInBounds_toArray, List.set_cons_zero, List.set_cons_succ])
        refine wpAnyH_take (i := 9) (oi := ⟨some 26, _, _, _, _, _⟩) (v := .bool true) rfl (by kernel_rfl) (by kernel_rfl) (by kernel_rfl) (fun _ _ _ h => h) (Or.inl ⟨by rfl, by intro w' hw'; obtain ⟨q0, q1⟩ := hw'; go_simp⟩) gS ?_
        simp only [Act.put, List.setIfInBounds_toArray, List.set_cons_zero, List.set_cons_succ]
        refine wpAnyH_done (by kernel_rfl) ?_ _
        go_wp2
        go_ret
        exact ⟨by rw [HF.out]; rfl, HB2.out⟩
    · have k1 : decide ((k : Int) < (L : Int)) = false := decide_eq_false (by omega)
      have HT : Hid (decide (m = l) = true) := decide_eq_true (List.ext_getElem? fun j => by
        by_cases e : j < k
        · exact HE.out j e
        · rw [List.getElem?_eq_none (by have := HL.out; omega), List.getElem?_eq_none (by have := HL.out; omega)])
      go_wp2
      go_ret
      exact ⟨by rw [HT.out]; rfl, HB.out⟩
theorem rows_any (m l : List (List Int)) (v u : Value) (w : World) (hv : RdR w v m) (hu : RdR w u l) : Calls Try.prog 23 #[v, u] w fun e w' => e = .returned (.bool (decide (m = l))) ∧ Below w.heap.size w w' := by
  by_cases h : m.length = l.length
  · exact rows_in m l v u w hv hu h
  · exact rows_len m l v u w hv hu h
theorem eqf_len (m l : List (List Int)) (v u : Value) (w : World) (hv : RdR w v m) (hu : RdR w u l) (hne : m.length ≠ l.length) : Calls Try.prog 39 #[v, u, .func (.func 38) #[] #[]] w fun e w' => e = .returned (.bool (decide (m = l))) ∧ Below w.heap.size w w' := by
  obtain ⟨va, vc, rfl, v1, v2, hvc⟩ := hv
  obtain ⟨ua, uc, rfl, u1, u2, huc⟩ := hu
  have H : Hid (decide (m = l) = false) := decide_eq_false fun e => hne (by rw [e])
  have hne' : ((m.length : Int) != (l.length : Int)) = true := by simp; omega
  clear hvc huc
  generalize m.length = a at *
  generalize l.length = b at *
  clear hne
  go_enter Try.func39, Try.ntmps39
  go_wp2
  go_ret
  exact ⟨by rw [H.out]; rfl, Below.refl _ _⟩
theorem eqf_in (m l : List (List Int)) (v u : Value) (w : World) (hv : RdR w v m) (hu : RdR w u l) (hne : m.length = l.length) : Calls Try.prog 39 #[v, u, .func (.func 38) #[] #[]] w fun e w' => e = .returned (.bool (decide (m = l))) ∧ Below w.heap.size w w' := by
  obtain ⟨va, vc, rfl, v1, v2, hvc⟩ := hv
  obtain ⟨ua, uc, rfl, u1, u2, huc⟩ := hu
  obtain ⟨L, hL⟩ : ∃ L, m.length = L := ⟨_, rfl⟩
  have hl : l.length = L := by omega
  rw [hL] at v1 ⊢
  rw [hl] at u1 ⊢
  have HL := Lib.hid (And.intro hL hl)
  have HV := Lib.hid hvc
  have HU := Lib.hid huc
  have hL2 : L ≤ 9223372036854775807 := by omega
  have H0 : Hid (∀ j, j < 0 → m[j]? = l[j]?) := fun j hj => by omega
  clear hL hl hvc huc hne
  have hee : ((L : Int) == (L : Int)) = true := by simp
  have hen : ((L : Int) != (L : Int)) = false := by simp
  go_enter Try.func39, Try.ntmps39
  go_wp2_with fail
  go_loopg [17] L (fun g s5 wr => ∃ k : Nat, k ≤ L ∧ L - k ≤ g ∧ s5 = .int .i64 (k : Int) ∧ Hid (Below w.heap.size w wr) ∧ Hid (∀ j, j < k → m[j]? = l[j]?))
  case atStart => exact ⟨0, by omega, by omega, rfl, Below.refl _ _, H0⟩
  case round =>
    clear H0
    obtain ⟨k, hk, hkg, rfl, HB, HE⟩ := hrel
    by_cases hlt : k < L
    · obtain ⟨x, hx⟩ : ∃ y, m[k]? = some y := ⟨_, List.getElem?_eq_getElem (by have := HL.out; omega)⟩
      obtain ⟨y, hy⟩ : ∃ y, l[k]? = some y := ⟨_, List.getElem?_eq_getElem (by have := HL.out; omega)⟩
      obtain ⟨b, o, vx, rfl, hb, c, rx⟩ := HV.out k x hx
      obtain ⟨b', o', vy, rfl, hb', c', ry⟩ := HU.out k y hy
      have d := carryB HB.out hb c
      have d' := carryB HB.out hb' c'
      have k0 : (0 : Int) ≤ (k : Int) := by omega
      have k1 : (k : Int) < (L : Int) := by omega
      have HXY := Lib.hid (And.intro hx hy)
      have HC : Hid (∀ W, Below w.heap.size w W → Calls Try.prog 38 #[vx, vy] W fun e w' => e = .returned (.bool (decide (x = y))) ∧ Below W.heap.size W w') := fun W hW => equal_ints x y vx vy W (rx.below hW) (ry.below hW)
      clear c c' hx hy rx ry
      by_cases hxy : x = y
      · have HN : Hid (∀ j, j < k + 1 → m[j]? = l[j]?) := fun j hj => by
          by_cases e : j = k
          · rw [e, HXY.out.1, HXY.out.2, hxy]
          · exact HE.out j (by omega)
        rw [decide_eq_true hxy] at HC
        clear hxy
        go_wp2_with (go_at_call 38; refine (HC.out _ HB.out).mono ?_; rintro e w3 ⟨rfl, hb3⟩; have HB2 := Lib.hid (below_then HB.out hb3); clear hb3)
        go_roundg (L - (k + 1))
        case measure => omega
        case rel => exact ⟨k + 1, by omega, Nat.le_refl _, by go_num, HB2, HN⟩
      · have HF : Hid (decide (m = l) = false) := decide_eq_false fun e => hxy (by have h := HXY.out; rw [e, h.2] at h; exact (Option.some.inj h.1).symm)
        rw [decide_eq_false hxy] at HC
        clear hxy
        go_wp2_with (go_at_call 38; refine (HC.out _ HB.out).mono ?_; rintro e w3 ⟨rfl, hb3⟩; have HB2 := Lib.hid (below_then HB.out hb3); clear hb3)
        go_ret
        exact ⟨by rw [HF.out]; rfl, HB2.out⟩
    · have k1 : decide ((k : Int) < (L : Int)) = false := decide_eq_false (by omega)
      have HT : Hid (decide (m = l) = true) := decide_eq_true (List.ext_getElem? fun j => by
        by_cases e : j < k
        · exact HE.out j e
        · rw [List.getElem?_eq_none (by have := HL.out; omega), List.getElem?_eq_none (by have := HL.out; omega)])
      go_wp2
      go_ret
      exact ⟨by rw [HT.out]; rfl, HB.out⟩
theorem eqf_any (m l : List (List Int)) (v u : Value) (w : World) (hv : RdR w v m) (hu : RdR w u l) : Calls Try.prog 39 #[v, u, .func (.func 38) #[] #[]] w fun e w' => e = .returned (.bool (decide (m = l))) ∧ Below w.heap.size w w' := by
  by_cases h : m.length = l.length
  · exact eqf_in m l v u w hv hu h
  · exact eqf_len m l v u w hv hu h
end Go.Proofs.Ytmlpbhankgojpaa
