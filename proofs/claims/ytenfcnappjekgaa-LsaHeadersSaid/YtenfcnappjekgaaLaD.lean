/-
  The reference's comparison of instances; keys, both.
-/
import Derived.Test.YtenfcnappjekgaaLaC
namespace Go.Proofs.Ytenfcnappjekgaa
open Go.RowKit
set_option linter.unusedSimpArgs false
set_option linter.unusedVariables false
set_option maxHeartbeats 2000000
set_option maxRecDepth 100000

theorem orL_head {x : Int} (h : x ≠ 0) (l : List Int) : orL (x :: l) = x := by rw [orL, if_neg h]
theorem orL_zero (l : List Int) : orL (0 :: l) = orL l := by rw [orL, if_pos rfl]
theorem orL_one (x : Int) : orL [x] = x := by
  unfold orL
  split
  · rename_i h; rw [h]; rfl
  · rfl
theorem cmpI_ne {a b : Int} (h : a ≠ b) : cmpI a b ≠ 0 := by
  rcases Int.lt_trichotomy a b with h1 | h1 | h1
  · rw [cmpI_lt h1]; decide
  · exact absurd h1 h
  · rw [cmpI_gt h1]; decide
theorem rcompare_any (a b : Hd) (ha : HdOk a) (hb : HdOk b) (w : World) : Calls Try.prog 21 #[hdV a, hdV b] w fun e w' => e = .returned (.int .i64 (cmpH a b)) ∧ Below w.heap.size w w' := by
  have B2 := Lib.hid (below2 w (hdC a) (hdC b))
  by_cases h0 : a.seq = b.seq
  · by_cases h1 : a.sum = b.sum
    · have HR : Hid (cmpH a b = ageC a.age b.age) := by unfold Hid cmpH; rw [h0, h1, cmpI_eq, cmpI_eq, orL_zero, orL_zero, orL_one]
      have ia := ha.age
      have ib := hb.age
      obtain ⟨aty, aid, alen, art, aseq, aage, asum⟩ := a
      obtain ⟨bty, bid, blen, brt, bseq, bage, bsum⟩ := b
      dsimp only at *
      clear ha hb
      subst h0 h1
      by_cases h2 : aage = 3600
      · by_cases h3 : bage = 3600
        · have HV : Hid (ageC aage bage = 0) := by unfold Hid ageC; rw [if_pos (h2.trans h3.symm)]
          subst h2 h3
          have l0 : ¬ (3600 : Int) < 3600 := by omega
          have l1 : ((3600 : Int) == 3600) = true := rfl
          go_enter Try.func21, Try.ntmps21
          go_wp2
          go_ret
          exact ⟨ret_i (HR.out.trans HV.out).symm, B2.out⟩
        · have HV : Hid (ageC aage bage = 1) := by unfold Hid ageC; rw [if_neg (by omega), if_pos h2]
          subst h2
          have l1 : ((3600 : Int) == 3600) = true := rfl
          have l2 : (bage == 3600) = false := by simpa using h3
          go_enter Try.func21, Try.ntmps21
          go_wp2
          go_ret
          exact ⟨ret_i (HR.out.trans HV.out).symm, B2.out⟩
      · by_cases h3 : bage = 3600
        · have HV : Hid (ageC aage bage = -1) := by unfold Hid ageC; rw [if_neg (by omega), if_neg h2, if_pos h3]
          subst h3
          have l1 : ((3600 : Int) == 3600) = true := rfl
          have l2 : (aage == 3600) = false := by simpa using h2
          go_enter Try.func21, Try.ntmps21
          go_wp2
          go_ret
          exact ⟨ret_i (HR.out.trans HV.out).symm, B2.out⟩
        · have l1 : (aage == 3600) = false := by simpa using h2
          have l2 : (bage == 3600) = false := by simpa using h3
          rcases Int.lt_trichotomy aage bage with h4 | h4 | h4
          · have h4' : ¬ bage < aage := by omega
            have HA : Hid (∀ W, Calls Try.prog 55 #[.int .i64 aage, .int .i64 bage] W fun e w' => e = .returned (.bool (decide (900 < bage - aage))) ∧ W = w') := fun W => apart_any aage bage ia ib h4 W
            have HV : Hid (ageC aage bage = if 900 < bage - aage then 1 else 0) := by unfold Hid ageC; rw [if_neg (by omega), if_neg h2, if_neg h3, Int.max_eq_right (by omega), Int.min_eq_left (by omega), cmpI_gt h4]
            cases hd : decide (900 < bage - aage)
            · rw [hd] at HA
              rw [if_neg (by simpa using hd)] at HV
              clear hd ia ib
              go_enter Try.func21, Try.ntmps21
              go_wp2_with (go_at_call 55; refine (HA.out _).mono ?_; rintro e w' ⟨rfl, rfl⟩)
              go_ret
              exact ⟨ret_i (HR.out.trans HV.out).symm, B2.out⟩
            · rw [hd] at HA
              rw [if_pos (by simpa using hd)] at HV
              clear hd ia ib
              go_enter Try.func21, Try.ntmps21
              go_wp2_with (go_at_call 55; refine (HA.out _).mono ?_; rintro e w' ⟨rfl, rfl⟩)
              go_ret
              exact ⟨ret_i (HR.out.trans HV.out).symm, B2.out⟩
          · have HV : Hid (ageC aage bage = 0) := by unfold Hid ageC; rw [if_pos h4]
            subst h4
            have h4' : ¬ aage < aage := by omega
            go_enter Try.func21, Try.ntmps21
            go_wp2
            go_ret
            exact ⟨ret_i (HR.out.trans HV.out).symm, B2.out⟩
          · have h4' : ¬ aage < bage := by omega
            have HA : Hid (∀ W, Calls Try.prog 55 #[.int .i64 bage, .int .i64 aage] W fun e w' => e = .returned (.bool (decide (900 < aage - bage))) ∧ W = w') := fun W => apart_any bage aage ib ia h4 W
            have HV : Hid (ageC aage bage = if 900 < aage - bage then -1 else 0) := by unfold Hid ageC; rw [if_neg (by omega), if_neg h2, if_neg h3, Int.max_eq_left (by omega), Int.min_eq_right (by omega), cmpI_lt h4]
            cases hd : decide (900 < aage - bage)
            · rw [hd] at HA
              rw [if_neg (by simpa using hd)] at HV
              clear hd ia ib
              go_enter Try.func21, Try.ntmps21
              go_wp2_with (go_at_call 55; refine (HA.out _).mono ?_; rintro e w' ⟨rfl, rfl⟩)
              go_ret
              exact ⟨ret_i (HR.out.trans HV.out).symm, B2.out⟩
            · rw [hd] at HA
              rw [if_pos (by simpa using hd)] at HV
              clear hd ia ib
              go_enter Try.func21, Try.ntmps21
              go_wp2_with (go_at_call 55; refine (HA.out _).mono ?_; rintro e w' ⟨rfl, rfl⟩)
              go_ret
              exact ⟨ret_i (HR.out.trans HV.out).symm, B2.out⟩
    · have HR : Hid (cmpH a b = cmpI a.sum b.sum) := by unfold Hid cmpH; rw [h0, cmpI_eq, orL_zero, orL_head (cmpI_ne h1)]
      obtain ⟨aty, aid, alen, art, aseq, aage, asum⟩ := a
      obtain ⟨bty, bid, blen, brt, bseq, bage, bsum⟩ := b
      dsimp only at *
      clear ha hb
      subst h0
      go_enter Try.func21, Try.ntmps21
      go_wp2_with (go_at_call 52; refine (num_any _ _ _).mono ?_; rintro e w' ⟨rfl, rfl⟩)
      go_ret
      exact ⟨ret_i HR.out.symm, B2.out⟩
  · have HR : Hid (cmpH a b = cmpI a.seq b.seq) := by unfold Hid cmpH; rw [orL_head (cmpI_ne h0)]
    obtain ⟨aty, aid, alen, art, aseq, aage, asum⟩ := a
    obtain ⟨bty, bid, blen, brt, bseq, bage, bsum⟩ := b
    dsimp only at *
    clear ha hb
    go_enter Try.func21, Try.ntmps21
    go_wp2_with (go_at_call 52; refine (num_any _ _ _).mono ?_; rintro e w' ⟨rfl, rfl⟩)
    go_ret
    exact ⟨ret_i HR.out.symm, B2.out⟩

def cmpK (a : Int) (b : Nat) (c : Int) (d : Nat) (a' : Int) (b' : Nat) (c' : Int) (d' : Nat) : Int := orL [cmpI a a', cmpI b b', cmpI c c', cmpI d d']
theorem key_any (h : Hd) (w : World) : Calls Try.prog 16 #[hdV h] w fun e w' => e = .returned (keV h.ty h.id h.len h.rt) ∧ Below w.heap.size w w' := by
  obtain ⟨aty, aid, alen, art, aseq, aage, asum⟩ := h
  dsimp only at *
  go_enter Try.func16, Try.ntmps16
  go_wp2
  exact bodyPost_ret (v := keV aty aid alen art) (by simp [results, Try.results16, go_sem]) rfl ⟨rfl, (by exact below2 _ _ _)⟩
theorem rkey_any (h : Hd) (w : World) : Calls Try.prog 17 #[hdV h] w fun e w' => e = .returned (keV h.ty h.id h.len h.rt) ∧ Below w.heap.size w w' := by
  obtain ⟨aty, aid, alen, art, aseq, aage, asum⟩ := h
  dsimp only at *
  go_enter Try.func17, Try.ntmps17
  go_wp2
  exact bodyPost_ret (v := keV aty aid alen art) (by simp [results, Try.results17, go_sem]) rfl ⟨rfl, (by exact below2 _ _ _)⟩
theorem four_cells {W : World} {g : Nat} {x y z u : Int} (hg : W.heap[g]? = some (.cells #[.int .i64 x, .int .i64 y, .int .i64 z, .int .i64 u] 3 (0, 0))) (k : Nat) (v : Int) (hu : [x, y, z, u][k]? = some v) : W.cell? ⟨g, k, none⟩ = some (.int .i64 v) := by
  refine cell_of hg ?_
  match k, hu with
  | 0, hu => obtain rfl := Option.some.inj hu; rfl
  | 1, hu => obtain rfl := Option.some.inj hu; rfl
  | 2, hu => obtain rfl := Option.some.inj hu; rfl
  | 3, hu => obtain rfl := Option.some.inj hu; rfl
  | k + 4, hu => simp at hu
abbrev keC (a : Int) (b : Nat) (c : Int) (d : Nat) : Obj := .cells #[.int .i64 a, .int .u32 (b : Int), .int .i64 c, .int .u32 (d : Int)] 35
theorem keys_any (a : Int) (b : Nat) (c : Int) (d : Nat) (a' : Int) (b' : Nat) (c' : Int) (d' : Nat) (w : World) :
    Calls Try.prog 18 #[keV a b c d, keV a' b' c' d'] w fun e w' => e = .returned (.int .i64 (cmpK a b c d a' b' c' d')) ∧ Below w.heap.size w w' := by
  obtain ⟨x, hx⟩ : ∃ x, cmpI a a' = x := ⟨_, rfl⟩
  obtain ⟨y, hy⟩ : ∃ y, cmpI b b' = y := ⟨_, rfl⟩
  obtain ⟨z, hz⟩ : ∃ z, cmpI c c' = z := ⟨_, rfl⟩
  obtain ⟨u, hu⟩ : ∃ u, cmpI d d' = u := ⟨_, rfl⟩
  have HR : Hid (cmpK a b c d a' b' c' d' = orL [x, y, z, u]) := by unfold Hid cmpK; rw [hx, hy, hz, hu]
  have ha0 := heap_alloc_new w (keC a b c d)
  have ha1 := (Below.heap_alloc (w.alloc (keC a b c d)) (keC a' b' c' d') w.heap.size (by simp)).trans ha0
  have hb1 := heap_alloc_new (w.alloc (keC a b c d)) (keC a' b' c' d')
  have k1 : ((w.alloc (keC a b c d)).alloc (keC a' b' c' d')).cell? ⟨w.heap.size, 0, none⟩ = some (.int .i64 a) := cell_of ha1 rfl
  have k2 : ((w.alloc (keC a b c d)).alloc (keC a' b' c' d')).cell? ⟨w.heap.size, 1, none⟩ = some (.int .u32 (b : Int)) := cell_of ha1 rfl
  have k3 : ((w.alloc (keC a b c d)).alloc (keC a' b' c' d')).cell? ⟨w.heap.size, 2, none⟩ = some (.int .i64 c) := cell_of ha1 rfl
  have k4 : ((w.alloc (keC a b c d)).alloc (keC a' b' c' d')).cell? ⟨w.heap.size, 3, none⟩ = some (.int .u32 (d : Int)) := cell_of ha1 rfl
  have k5 : ((w.alloc (keC a b c d)).alloc (keC a' b' c' d')).cell? ⟨w.heap.size + 1, 0, none⟩ = some (.int .i64 a') := cell_of (by simpa using hb1) rfl
  have k6 : ((w.alloc (keC a b c d)).alloc (keC a' b' c' d')).cell? ⟨w.heap.size + 1, 1, none⟩ = some (.int .u32 (b' : Int)) := cell_of (by simpa using hb1) rfl
  have k7 : ((w.alloc (keC a b c d)).alloc (keC a' b' c' d')).cell? ⟨w.heap.size + 1, 2, none⟩ = some (.int .i64 c') := cell_of (by simpa using hb1) rfl
  have k8 : ((w.alloc (keC a b c d)).alloc (keC a' b' c' d')).cell? ⟨w.heap.size + 1, 3, none⟩ = some (.int .u32 (d' : Int)) := cell_of (by simpa using hb1) rfl
  have H1 : Hid (∀ W, Calls Try.prog 50 #[.int .i64 a, .int .i64 a'] W fun e w' => e = .returned (.int .i64 x) ∧ W = w') := fun W => hx ▸ cmp_any a a' W
  have H2 : Hid (∀ W, Calls Try.prog 51 #[.int .u32 (b : Int), .int .u32 (b' : Int)] W fun e w' => e = .returned (.int .i64 y) ∧ W = w') := fun W => hy ▸ cmpw_any b b' W
  have H3 : Hid (∀ W, Calls Try.prog 50 #[.int .i64 c, .int .i64 c'] W fun e w' => e = .returned (.int .i64 z) ∧ W = w') := fun W => hz ▸ cmp_any c c' W
  have H4 : Hid (∀ W, Calls Try.prog 51 #[.int .u32 (d : Int), .int .u32 (d' : Int)] W fun e w' => e = .returned (.int .i64 u) ∧ W = w') := fun W => hu ▸ cmpw_any d d' W
  have H5 : Hid (∀ (W : World) (g : Nat), W.heap[g]? = some (.cells #[.int .i64 x, .int .i64 y, .int .i64 z, .int .i64 u] 3 (0, 0)) → Calls Try.prog 49 #[.slice (some ⟨g, 0, none⟩) 4 4] W fun e w' => e = .returned (.int .i64 (orL [x, y, z, u])) ∧ W = w') := fun W g hg =>
    (or_any [x, y, z, u] g _ (by simp) (four_cells hg))
  clear hx hy hz hu ha0 ha1 hb1
  go_enter Try.func18, Try.ntmps18
  go_wp2_with fail
  go_region_held3 (fun w' => w'.cell? ⟨w.heap.size, 0, none⟩ = some (.int .i64 a) ∧ w'.cell? ⟨w.heap.size, 1, none⟩ = some (.int .u32 (b : Int)) ∧ w'.cell? ⟨w.heap.size, 2, none⟩ = some (.int .i64 c) ∧ w'.cell? ⟨w.heap.size, 3, none⟩ = some (.int .u32 (d : Int)) ∧ w'.cell? ⟨w.heap.size + 1, 0, none⟩ = some (.int .i64 a') ∧ w'.cell? ⟨w.heap.size + 1, 1, none⟩ = some (.int .u32 (b' : Int)) ∧ w'.cell? ⟨w.heap.size + 1, 2, none⟩ = some (.int .i64 c') ∧ w'.cell? ⟨w.heap.size + 1, 3, none⟩ = some (.int .u32 (d' : Int)))
    (first | (refine ⟨?_, ?_, ?_, ?_, ?_, ?_, ?_, ?_⟩ <;> assumption) | go_keep)
    (first
      | (go_at_call 50; ((with_reducible refine (H1.out _).mono ?_); rintro e w' ⟨rfl, rfl⟩))
      | (go_at_call 51; ((with_reducible refine (H2.out _).mono ?_); rintro e w' ⟨rfl, rfl⟩))
      | (go_at_call 50; ((with_reducible refine (H3.out _).mono ?_); rintro e w' ⟨rfl, rfl⟩))
      | (go_at_call 51; ((with_reducible refine (H4.out _).mono ?_); rintro e w' ⟨rfl, rfl⟩))
      | (go_at_call 49; refine Calls.mono (H5.out _ (w.heap.size + 1 + 1) (alloc_at (W := (w.alloc _).alloc _) (by simp))) ?_; rintro e w' ⟨rfl, rfl⟩))
  all_goals go_wp2
  all_goals go_ret
  all_goals exact ⟨ret_i HR.out.symm, by exact (below3 _ _ _ _).drew⟩
theorem rkeys_any (a : Int) (b : Nat) (c : Int) (d : Nat) (a' : Int) (b' : Nat) (c' : Int) (d' : Nat) (w : World) :
    Calls Try.prog 19 #[keV a b c d, keV a' b' c' d'] w fun e w' => e = .returned (.int .i64 (cmpK a b c d a' b' c' d')) ∧ Below w.heap.size w w' := by
  have B2 := Lib.hid (below2 w (keC a b c d) (keC a' b' c' d'))
  by_cases h0 : a = a'
  · subst h0
    by_cases h1 : b = b'
    · subst h1
      by_cases h2 : c = c'
      · subst h2
        have HR : Hid (cmpK a b c d a b c d' = cmpI d d') := by unfold Hid cmpK; rw [cmpI_eq, cmpI_eq, cmpI_eq, orL_zero, orL_zero, orL_zero, orL_one]
        go_enter Try.func19, Try.ntmps19
        go_wp2_with (go_at_call 53; refine (word_any _ _ _).mono ?_; rintro e w' ⟨rfl, rfl⟩)
        go_ret
        exact ⟨ret_i HR.out.symm, B2.out⟩
      · have HR : Hid (cmpK a b c d a b c' d' = cmpI c c') := by unfold Hid cmpK; rw [cmpI_eq, cmpI_eq, orL_zero, orL_zero, orL_head (cmpI_ne h2)]
        go_enter Try.func19, Try.ntmps19
        go_wp2_with (go_at_call 52; refine (num_any _ _ _).mono ?_; rintro e w' ⟨rfl, rfl⟩)
        go_ret
        exact ⟨ret_i HR.out.symm, B2.out⟩
    · have HR : Hid (cmpK a b c d a b' c' d' = cmpI b b') := by unfold Hid cmpK; rw [cmpI_eq, orL_zero, orL_head (cmpI_ne (by omega))]
      have h1' : ¬ (b : Int) = (b' : Int) := by omega
      go_enter Try.func19, Try.ntmps19
      go_wp2_with (go_at_call 53; refine (word_any _ _ _).mono ?_; rintro e w' ⟨rfl, rfl⟩)
      go_ret
      exact ⟨ret_i HR.out.symm, B2.out⟩
  · have HR : Hid (cmpK a b c d a' b' c' d' = cmpI a a') := by unfold Hid cmpK; rw [orL_head (cmpI_ne h0)]
    go_enter Try.func19, Try.ntmps19
    go_wp2_with (go_at_call 52; refine (num_any _ _ _).mono ?_; rintro e w' ⟨rfl, rfl⟩)
    go_ret
    exact ⟨ret_i HR.out.symm, B2.out⟩
end Go.Proofs.Ytenfcnappjekgaa
