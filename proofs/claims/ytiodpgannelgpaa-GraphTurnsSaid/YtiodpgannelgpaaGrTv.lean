/-
  The walks of the reference's Without and Cut.
-/
import Derived.Test.YtiodpgannelgpaaGrTu
namespace Go.Proofs.Ytiodpgannelgpaa
open Go.RowKit GM Go.Sort
set_option linter.unusedSimpArgs false
set_option linter.unusedVariables false
set_option maxHeartbeats 1500000
set_option maxRecDepth 100000

/-- chosen by Without -/
def woQ (n : Int) (e : E) : Bool := e.1 == n || e.2.1 == n
/-- chosen by Cut -/
def cutQ (a b : Int) (e : E) : Bool := (e.1 == a && e.2.1 == b) || (e.1 == b && e.2.1 == a)
/-- those that are not chosen -/
def notQ (q : E → Bool) (l : List E) : List E := l.filter (fun e => !q e)
theorem notQ_keep {q : E → Bool} {l : List E} {k : Nat} {e : E} (he : l[k]? = some e) (h : q e = false) : notQ q (l.take (k + 1)) = notQ q (l.take k) ++ [e] := by
  unfold notQ
  rw [List.take_add_one, he, List.filter_append]
  simp [h]
theorem notQ_drop {q : E → Bool} {l : List E} {k : Nat} {e : E} (he : l[k]? = some e) (h : q e = true) : notQ q (l.take (k + 1)) = notQ q (l.take k) := by
  unfold notQ
  rw [List.take_add_one, he, List.filter_append]
  simp [h]
theorem notQ_len (q : E → Bool) (l : List E) (k : Nat) : (notQ q (l.take k)).length ≤ k := by
  unfold notQ
  have := List.length_filter_le (fun e => !q e) (l.take k)
  rw [List.length_take] at this; omega
theorem rwithout_any (R N : Int) (l : List E) (n : Int) (v : Value) (w : World) (hl : Fits l) (hr : Rd3 w v l) :
    Calls Try.prog 31 #[.agg #[.int .i64 R, .int .i64 N, v], .int .i64 n] w fun e w' => ∃ s, e = .returned (.agg #[.int .i64 R, .int .i64 N, s]) ∧ Rd3 w' s (notQ (woQ n) l) ∧ Below w.heap.size w w' := by
  unfold Fits at hl
  obtain ⟨i0, hi, hz0, hz1, hz2⟩ := infoE_parts info52
  obtain ⟨ad, cap, rfl, hcap1, hcap2, hc⟩ := hr
  have HC := Lib.hid hc
  obtain ⟨L, hL⟩ : ∃ L, l.length = L := ⟨_, rfl⟩
  rw [hL] at hcap1 hl ⊢
  have HL := Lib.hid hL
  have HS0 := Lib.hid (RTu.start (w := w) (R := R) (N := N) (s0 := .slice ad L cap))
  obtain ⟨q, hq⟩ : ∃ q, q = woQ n := ⟨_, rfl⟩
  rw [← hq]
  have HQ := Lib.hid hq
  clear hc hL hq
  go_enter Try.func31, Try.ntmps31
  go_wp2_with fail
  go_loopg [6] L (fun g s6 wr => ∃ (k : Nat) (v : Value) (o : List E), k ≤ L ∧ o.length ≤ k ∧ L - k ≤ g ∧ s6 = .int .i64 (k : Int) ∧ Hid (o = notQ q (l.take k)) ∧ Hid (RTu w R N (.slice ad L cap) v o wr))
  case atStart => exact ⟨0, _, [], by omega, Nat.le_refl _, by omega, rfl, by show _ = _; simp [notQ], HS0.out⟩
  case round =>
    clear HS0
    obtain ⟨k, v, o, hk, hok, hg, rfl, HI, HS⟩ := hrel
    have hrdo := rd3_own HS.out.1
    have hol : o.length ≤ L := by omega
    have r2 : wr.cell? ⟨w.heap.size, 2, none⟩ = some (.slice ad L cap) := cell_of HS.out.2.2.1 rfl
    by_cases hlt : k < L
    · obtain ⟨e, he⟩ : ∃ y, l[k]? = some y := ⟨_, List.getElem?_eq_getElem (by have := HL.out; omega)⟩
      obtain ⟨bl, off, rfl, hbl, c0, c1, c2⟩ := HC.out k e he
      have d0 := carryB HS.out.2.1 hbl c0
      have d1 := carryB HS.out.2.1 hbl c1
      have d2 := carryB HS.out.2.1 hbl c2
      obtain ⟨ad2, cap2, rfl⟩ := rd3_slice hrdo
      have g2 : wr.cell? ⟨w.heap.size + 1 + 1, 2, none⟩ = some (.slice ad2 o.length cap2) := cell_of HS.out.2.2.2.2 rfl
      have k0 : (0 : Int) ≤ (k : Int) := by omega
      have k1 : (k : Int) < (L : Int) := by omega
      have HEe := Lib.hid he
      obtain ⟨x, y, z⟩ := e
      dsimp only at d0 d1 d2
      clear c0 c1 c2 he hbl hrdo
      cases h1 : (x == n)
      · have h1' : (x != n) = true := by simp [bne, h1]
        cases h2 : (y == n)
        · have h2' : (y != n) = true := by simp [bne, h2]
          have hq : woQ n (x, y, z) = false := by simp [woQ, h1, h2]
          rw [← HQ.out] at hq
          have HI2 : Hid (o ++ [(x, y, z)] = notQ q (l.take (k + 1))) := (congrArg (· ++ [(x, y, z)]) HI.out).trans (notQ_keep HEe.out hq).symm
          clear hq HQ
          have r2a := fun o => carry (below_alloc wr o) r2
          have g2a := fun o => carry (below_alloc wr o) g2
          have d0a := fun o => carry (below_alloc wr o) d0
          have d1a := fun o => carry (below_alloc wr o) d1
          have d2a := fun o => carry (below_alloc wr o) d2
          have hws := lt_block HS.out.2.2.2.2
          have SA : Hid (RTu w R N (.slice (some ⟨bl, off, none⟩) L cap) (.slice ad2 o.length cap2) o ((wr.alloc (.cells #[.int .i64 x, .int .i64 y, .int .i64 z] 52)).drew)) := HS.out.below (below_alloc _ _).drew
          go_wp2_with fail
          go_region_law (first | (refine step_append_lies _ rfl (.tmp 38) (.tmp 44) 22 rfl (w.heap.size + 3) 52 i0 (.agg #[.int .i64 0, .int .i64 0, .int .i64 0]) 3 24 Try.underlying22 hi hz0 hz1 hz2 rfl (by decide) (.slice ad2 o.length cap2) o.length (flatE o) rfl SA.out.1 ⟨wr.heap.size, 0, none⟩ 1 1 (encE (x, y, z)) rfl rfl (cellE_new _ _ _ _ _ rfl) (encE_one _) (by decide) (by unfold maxLen; omega) (by omega) (by simp; omega) (wr.heap.size + 1) (by simp) ?_; intro g5 cap5 w5 hown hgrow hat hlt5; have S5 := RTu.grown SA.out hgrow (OwnL.push (v := .slice (some ⟨g5, 0, none⟩) (o.length + 1) cap5) (x, y, z) hown); have y5 : w5.frozen? ⟨w.heap.size + 1 + 1, 2, none⟩ = false := S5.2.1; have x5 : w5.cell? ⟨w.heap.size + 1 + 1, 2, none⟩ = some (.slice ad2 o.length cap2) := S5.2.2; have HS5 := Lib.hid S5.1; clear hown hgrow hat S5))
          all_goals (
            go_wp2_with fail
            go_roundg (L - (k + 1))
            case measure => omega
            case rel => exact ⟨k + 1, _, _, by omega, by simp; omega, Nat.le_refl _, by go_num, HI2, HS5.out⟩)
        · have h2' : (y != n) = false := by simp [bne, h2]
          have hq : woQ n (x, y, z) = true := by simp [woQ, h1, h2]
          rw [← HQ.out] at hq
          have HI2 : Hid (o = notQ q (l.take (k + 1))) := HI.out.trans (notQ_drop HEe.out hq).symm
          clear hq HQ
          go_wp2_with fail
          go_roundg (L - (k + 1))
          case measure => omega
          case rel => exact ⟨k + 1, _, o, by omega, by omega, Nat.le_refl _, by go_num, HI2, HS⟩
      · have h1' : (x != n) = false := by simp [bne, h1]
        have hq : woQ n (x, y, z) = true := by simp [woQ, h1]
        rw [← HQ.out] at hq
        have HI2 : Hid (o = notQ q (l.take (k + 1))) := HI.out.trans (notQ_drop HEe.out hq).symm
        clear hq HQ
        go_wp2_with fail
        go_roundg (L - (k + 1))
        case measure => omega
        case rel => exact ⟨k + 1, _, o, by omega, by omega, Nat.le_refl _, by go_num, HI2, HS⟩
    · have k1 : decide ((k : Int) < (L : Int)) = false := decide_eq_false (by omega)
      have HF : Hid (o = notQ q l) := by show _ = _; rw [HI.out, List.take_of_length_le (by have := HL.out; omega)]
      obtain ⟨ad2, cap2, rfl⟩ := rd3_slice hrdo
      have g0 : wr.cell? ⟨w.heap.size + 1 + 1, 0, none⟩ = some (.int .i64 R) := cell_of HS.out.2.2.2.2 rfl
      have g1 : wr.cell? ⟨w.heap.size + 1 + 1, 1, none⟩ = some (.int .i64 N) := cell_of HS.out.2.2.2.2 rfl
      have g2 : wr.cell? ⟨w.heap.size + 1 + 1, 2, none⟩ = some (.slice ad2 o.length cap2) := cell_of HS.out.2.2.2.2 rfl
      have z0 : wr.cell? ⟨w.heap.size + 1, 0, none⟩ = some (.int .i64 0) := cell_of HS.out.2.2.2.1 rfl
      have z1 : wr.cell? ⟨w.heap.size + 1, 1, none⟩ = some (.int .i64 0) := cell_of HS.out.2.2.2.1 rfl
      have z2 : wr.cell? ⟨w.heap.size + 1, 2, none⟩ = some (.slice none 0 0) := cell_of HS.out.2.2.2.1 rfl
      have y0 : wr.frozen? ⟨w.heap.size + 1, 0, none⟩ = false := free_of HS.out.2.2.2.1 _
      have y1 : wr.frozen? ⟨w.heap.size + 1, 1, none⟩ = false := free_of HS.out.2.2.2.1 _
      have y2 : wr.frozen? ⟨w.heap.size + 1, 2, none⟩ = false := free_of HS.out.2.2.2.1 _
      have RB := Lib.hid (RTu.done HS.out)
      clear hrdo
      go_wp2
      (try simp only [Exit.inBlock, Exit.then])
      refine bodyPost_ret (v := .agg #[.int .i64 R, .int .i64 N, .slice ad2 o.length cap2]) (by rw [results_cell_one rfl]; go_simp) rfl ?_
      exact ⟨_, rfl, HF.out ▸ (RB.out _ _ _).1, (RB.out _ _ _).2⟩
theorem rcut_any (R N : Int) (l : List E) (a b : Int) (v : Value) (w : World) (hl : Fits l) (hr : Rd3 w v l) :
    Calls Try.prog 33 #[.agg #[.int .i64 R, .int .i64 N, v], .int .i64 a, .int .i64 b] w fun e w' => ∃ s, e = .returned (.agg #[.int .i64 R, .int .i64 N, s]) ∧ Rd3 w' s (notQ (cutQ a b) l) ∧ Below w.heap.size w w' := by
  unfold Fits at hl
  obtain ⟨i0, hi, hz0, hz1, hz2⟩ := infoE_parts info52
  obtain ⟨ad, cap, rfl, hcap1, hcap2, hc⟩ := hr
  have HC := Lib.hid hc
  obtain ⟨L, hL⟩ : ∃ L, l.length = L := ⟨_, rfl⟩
  rw [hL] at hcap1 hl ⊢
  have HL := Lib.hid hL
  have HS0 := Lib.hid (RTu.start (w := w) (R := R) (N := N) (s0 := .slice ad L cap))
  obtain ⟨q, hq⟩ : ∃ q, q = cutQ a b := ⟨_, rfl⟩
  rw [← hq]
  have HQ := Lib.hid hq
  clear hc hL hq
  go_enter Try.func33, Try.ntmps33
  go_wp2_with fail
  go_loopg [8, 9] L (fun g s8 s9 wr => ∃ (k : Nat) (v : Value) (o : List E), k ≤ L ∧ o.length ≤ k ∧ L - k ≤ g ∧ s8 = .int .i64 (k : Int) ∧ (∃ u, u = s9) ∧ Hid (o = notQ q (l.take k)) ∧ Hid (RTu w R N (.slice ad L cap) v o wr))
  case atStart => exact ⟨0, _, [], by omega, Nat.le_refl _, by omega, rfl, ⟨_, rfl⟩, by show _ = _; simp [notQ], HS0.out⟩
  case round =>
    clear HS0
    obtain ⟨k, v, o, hk, hok, hg, rfl, ⟨u9, rfl⟩, HI, HS⟩ := hrel
    have hrdo := rd3_own HS.out.1
    have hol : o.length ≤ L := by omega
    have r2 : wr.cell? ⟨w.heap.size, 2, none⟩ = some (.slice ad L cap) := cell_of HS.out.2.2.1 rfl
    by_cases hlt : k < L
    · obtain ⟨e, he⟩ : ∃ y, l[k]? = some y := ⟨_, List.getElem?_eq_getElem (by have := HL.out; omega)⟩
      obtain ⟨bl, off, rfl, hbl, c0, c1, c2⟩ := HC.out k e he
      have d0 := carryB HS.out.2.1 hbl c0
      have d1 := carryB HS.out.2.1 hbl c1
      have d2 := carryB HS.out.2.1 hbl c2
      obtain ⟨ad2, cap2, rfl⟩ := rd3_slice hrdo
      have g2 : wr.cell? ⟨w.heap.size + 1 + 1, 2, none⟩ = some (.slice ad2 o.length cap2) := cell_of HS.out.2.2.2.2 rfl
      have k0 : (0 : Int) ≤ (k : Int) := by omega
      have k1 : (k : Int) < (L : Int) := by omega
      have HEe := Lib.hid he
      obtain ⟨x, y, z⟩ := e
      dsimp only at d0 d1 d2
      clear c0 c1 c2 he hbl hrdo
      cases h1 : (x == a)
      · cases h3 : (x == b)
        · 
          have hq : cutQ a b (x, y, z) = false := by simp [cutQ, h1, h3]
          rw [← HQ.out] at hq
          have HI2 : Hid (o ++ [(x, y, z)] = notQ q (l.take (k + 1))) := (congrArg (· ++ [(x, y, z)]) HI.out).trans (notQ_keep HEe.out hq).symm
          clear hq HQ
          have HSB : Hid (RTu w R N (.slice (some ⟨bl, off, none⟩) L cap) (.slice ad2 o.length cap2) o (wr.alloc (.cells #[.int .i64 x, .int .i64 y, .int .i64 z] 52))) := HS.out.below (below_alloc _ _)
          have g2a := fun o => carry (below_alloc wr o) g2
          go_wp2_with (at_builtin; refine wpList_append_lies _ rfl (.tmp 51) (.tmp 53) 22 rfl (w.heap.size + 3) 52 i0 (.agg #[.int .i64 0, .int .i64 0, .int .i64 0]) 3 24 Try.underlying22 hi hz0 hz1 hz2 rfl (by decide) (.slice ad2 o.length cap2) o.length (flatE o) rfl (row_below HSB.out.1 (below_alloc _ _)) ⟨wr.heap.size + 1, 0, none⟩ 1 1 (encE (x, y, z)) rfl rfl (cellE_new _ _ _ _ _ (by simp)) (encE_one _) (by decide) (by unfold maxLen; omega) (by omega) (by have := lt_block HSB.out.2.2.2.2; simp at this ⊢; omega) (wr.heap.size + 2) (by simp) ?_; intro g5 cap5 w5 hown hgrow hat hlt5; have S5 := RTu.grown (HSB.out.below (below_alloc _ _)) hgrow (OwnL.push (v := .slice (some ⟨g5, 0, none⟩) (o.length + 1) cap5) (x, y, z) hown); have y5 : w5.frozen? ⟨w.heap.size + 1 + 1, 2, none⟩ = false := S5.2.1; have x5 : w5.cell? ⟨w.heap.size + 1 + 1, 2, none⟩ = some (.slice ad2 o.length cap2) := S5.2.2; have HS5 := Lib.hid S5.1; clear hown hgrow hat S5)
          go_roundg (L - (k + 1))
          case measure => omega
          case rel => exact ⟨k + 1, _, _, by omega, by simp; omega, Nat.le_refl _, by go_num, ⟨_, rfl⟩, HI2, HS5.out⟩
        · cases h4 : (y == a)
          · 
            have hq : cutQ a b (x, y, z) = false := by simp [cutQ, h1, h3, h4]
            rw [← HQ.out] at hq
            have HI2 : Hid (o ++ [(x, y, z)] = notQ q (l.take (k + 1))) := (congrArg (· ++ [(x, y, z)]) HI.out).trans (notQ_keep HEe.out hq).symm
            clear hq HQ
            have HSB : Hid (RTu w R N (.slice (some ⟨bl, off, none⟩) L cap) (.slice ad2 o.length cap2) o (wr.alloc (.cells #[.int .i64 x, .int .i64 y, .int .i64 z] 52))) := HS.out.below (below_alloc _ _)
            have g2a := fun o => carry (below_alloc wr o) g2
            go_wp2_with (at_builtin; refine wpList_append_lies _ rfl (.tmp 51) (.tmp 53) 22 rfl (w.heap.size + 3) 52 i0 (.agg #[.int .i64 0, .int .i64 0, .int .i64 0]) 3 24 Try.underlying22 hi hz0 hz1 hz2 rfl (by decide) (.slice ad2 o.length cap2) o.length (flatE o) rfl (row_below HSB.out.1 (below_alloc _ _)) ⟨wr.heap.size + 1, 0, none⟩ 1 1 (encE (x, y, z)) rfl rfl (cellE_new _ _ _ _ _ (by simp)) (encE_one _) (by decide) (by unfold maxLen; omega) (by omega) (by have := lt_block HSB.out.2.2.2.2; simp at this ⊢; omega) (wr.heap.size + 2) (by simp) ?_; intro g5 cap5 w5 hown hgrow hat hlt5; have S5 := RTu.grown (HSB.out.below (below_alloc _ _)) hgrow (OwnL.push (v := .slice (some ⟨g5, 0, none⟩) (o.length + 1) cap5) (x, y, z) hown); have y5 : w5.frozen? ⟨w.heap.size + 1 + 1, 2, none⟩ = false := S5.2.1; have x5 : w5.cell? ⟨w.heap.size + 1 + 1, 2, none⟩ = some (.slice ad2 o.length cap2) := S5.2.2; have HS5 := Lib.hid S5.1; clear hown hgrow hat S5)
            go_roundg (L - (k + 1))
            case measure => omega
            case rel => exact ⟨k + 1, _, _, by omega, by simp; omega, Nat.le_refl _, by go_num, ⟨_, rfl⟩, HI2, HS5.out⟩
          · 
            have hq : cutQ a b (x, y, z) = true := by simp [cutQ, h1, h3, h4]
            rw [← HQ.out] at hq
            have HI2 : Hid (o = notQ q (l.take (k + 1))) := HI.out.trans (notQ_drop HEe.out hq).symm
            clear hq HQ
            have HSB : Hid (RTu w R N (.slice (some ⟨bl, off, none⟩) L cap) (.slice ad2 o.length cap2) o (wr.alloc (.cells #[.int .i64 x, .int .i64 y, .int .i64 z] 52))) := HS.out.below (below_alloc _ _)
            go_wp2_with fail
            go_roundg (L - (k + 1))
            case measure => omega
            case rel => exact ⟨k + 1, _, o, by omega, by omega, Nat.le_refl _, by go_num, ⟨_, rfl⟩, HI2, HSB.out⟩
      · cases h2 : (y == b)
        · cases h3 : (x == b)
          · 
            have hq : cutQ a b (x, y, z) = false := by simp [cutQ, h1, h2, h3]
            rw [← HQ.out] at hq
            have HI2 : Hid (o ++ [(x, y, z)] = notQ q (l.take (k + 1))) := (congrArg (· ++ [(x, y, z)]) HI.out).trans (notQ_keep HEe.out hq).symm
            clear hq HQ
            have HSB : Hid (RTu w R N (.slice (some ⟨bl, off, none⟩) L cap) (.slice ad2 o.length cap2) o (wr.alloc (.cells #[.int .i64 x, .int .i64 y, .int .i64 z] 52))) := HS.out.below (below_alloc _ _)
            have g2a := fun o => carry (below_alloc wr o) g2
            go_wp2_with (at_builtin; refine wpList_append_lies _ rfl (.tmp 51) (.tmp 53) 22 rfl (w.heap.size + 3) 52 i0 (.agg #[.int .i64 0, .int .i64 0, .int .i64 0]) 3 24 Try.underlying22 hi hz0 hz1 hz2 rfl (by decide) (.slice ad2 o.length cap2) o.length (flatE o) rfl (row_below HSB.out.1 (below_alloc _ _)) ⟨wr.heap.size + 1, 0, none⟩ 1 1 (encE (x, y, z)) rfl rfl (cellE_new _ _ _ _ _ (by simp)) (encE_one _) (by decide) (by unfold maxLen; omega) (by omega) (by have := lt_block HSB.out.2.2.2.2; simp at this ⊢; omega) (wr.heap.size + 2) (by simp) ?_; intro g5 cap5 w5 hown hgrow hat hlt5; have S5 := RTu.grown (HSB.out.below (below_alloc _ _)) hgrow (OwnL.push (v := .slice (some ⟨g5, 0, none⟩) (o.length + 1) cap5) (x, y, z) hown); have y5 : w5.frozen? ⟨w.heap.size + 1 + 1, 2, none⟩ = false := S5.2.1; have x5 : w5.cell? ⟨w.heap.size + 1 + 1, 2, none⟩ = some (.slice ad2 o.length cap2) := S5.2.2; have HS5 := Lib.hid S5.1; clear hown hgrow hat S5)
            go_roundg (L - (k + 1))
            case measure => omega
            case rel => exact ⟨k + 1, _, _, by omega, by simp; omega, Nat.le_refl _, by go_num, ⟨_, rfl⟩, HI2, HS5.out⟩
          · cases h4 : (y == a)
            · 
              have hq : cutQ a b (x, y, z) = false := by simp [cutQ, h1, h2, h3, h4]
              rw [← HQ.out] at hq
              have HI2 : Hid (o ++ [(x, y, z)] = notQ q (l.take (k + 1))) := (congrArg (· ++ [(x, y, z)]) HI.out).trans (notQ_keep HEe.out hq).symm
              clear hq HQ
              have HSB : Hid (RTu w R N (.slice (some ⟨bl, off, none⟩) L cap) (.slice ad2 o.length cap2) o (wr.alloc (.cells #[.int .i64 x, .int .i64 y, .int .i64 z] 52))) := HS.out.below (below_alloc _ _)
              have g2a := fun o => carry (below_alloc wr o) g2
              go_wp2_with (at_builtin; refine wpList_append_lies _ rfl (.tmp 51) (.tmp 53) 22 rfl (w.heap.size + 3) 52 i0 (.agg #[.int .i64 0, .int .i64 0, .int .i64 0]) 3 24 Try.underlying22 hi hz0 hz1 hz2 rfl (by decide) (.slice ad2 o.length cap2) o.length (flatE o) rfl (row_below HSB.out.1 (below_alloc _ _)) ⟨wr.heap.size + 1, 0, none⟩ 1 1 (encE (x, y, z)) rfl rfl (cellE_new _ _ _ _ _ (by simp)) (encE_one _) (by decide) (by unfold maxLen; omega) (by omega) (by have := lt_block HSB.out.2.2.2.2; simp at this ⊢; omega) (wr.heap.size + 2) (by simp) ?_; intro g5 cap5 w5 hown hgrow hat hlt5; have S5 := RTu.grown (HSB.out.below (below_alloc _ _)) hgrow (OwnL.push (v := .slice (some ⟨g5, 0, none⟩) (o.length + 1) cap5) (x, y, z) hown); have y5 : w5.frozen? ⟨w.heap.size + 1 + 1, 2, none⟩ = false := S5.2.1; have x5 : w5.cell? ⟨w.heap.size + 1 + 1, 2, none⟩ = some (.slice ad2 o.length cap2) := S5.2.2; have HS5 := Lib.hid S5.1; clear hown hgrow hat S5)
              go_roundg (L - (k + 1))
              case measure => omega
              case rel => exact ⟨k + 1, _, _, by omega, by simp; omega, Nat.le_refl _, by go_num, ⟨_, rfl⟩, HI2, HS5.out⟩
            · 
              have hq : cutQ a b (x, y, z) = true := by simp [cutQ, h1, h2, h3, h4]
              rw [← HQ.out] at hq
              have HI2 : Hid (o = notQ q (l.take (k + 1))) := HI.out.trans (notQ_drop HEe.out hq).symm
              clear hq HQ
              have HSB : Hid (RTu w R N (.slice (some ⟨bl, off, none⟩) L cap) (.slice ad2 o.length cap2) o (wr.alloc (.cells #[.int .i64 x, .int .i64 y, .int .i64 z] 52))) := HS.out.below (below_alloc _ _)
              go_wp2_with fail
              go_roundg (L - (k + 1))
              case measure => omega
              case rel => exact ⟨k + 1, _, o, by omega, by omega, Nat.le_refl _, by go_num, ⟨_, rfl⟩, HI2, HSB.out⟩
        · 
          have hq : cutQ a b (x, y, z) = true := by simp [cutQ, h1, h2]
          rw [← HQ.out] at hq
          have HI2 : Hid (o = notQ q (l.take (k + 1))) := HI.out.trans (notQ_drop HEe.out hq).symm
          clear hq HQ
          have HSB : Hid (RTu w R N (.slice (some ⟨bl, off, none⟩) L cap) (.slice ad2 o.length cap2) o (wr.alloc (.cells #[.int .i64 x, .int .i64 y, .int .i64 z] 52))) := HS.out.below (below_alloc _ _)
          go_wp2_with fail
          go_roundg (L - (k + 1))
          case measure => omega
          case rel => exact ⟨k + 1, _, o, by omega, by omega, Nat.le_refl _, by go_num, ⟨_, rfl⟩, HI2, HSB.out⟩
    · have k1 : decide ((k : Int) < (L : Int)) = false := decide_eq_false (by omega)
      have HF : Hid (o = notQ q l) := by show _ = _; rw [HI.out, List.take_of_length_le (by have := HL.out; omega)]
      obtain ⟨ad2, cap2, rfl⟩ := rd3_slice hrdo
      have g0 : wr.cell? ⟨w.heap.size + 1 + 1, 0, none⟩ = some (.int .i64 R) := cell_of HS.out.2.2.2.2 rfl
      have g1 : wr.cell? ⟨w.heap.size + 1 + 1, 1, none⟩ = some (.int .i64 N) := cell_of HS.out.2.2.2.2 rfl
      have g2 : wr.cell? ⟨w.heap.size + 1 + 1, 2, none⟩ = some (.slice ad2 o.length cap2) := cell_of HS.out.2.2.2.2 rfl
      have z0 : wr.cell? ⟨w.heap.size + 1, 0, none⟩ = some (.int .i64 0) := cell_of HS.out.2.2.2.1 rfl
      have z1 : wr.cell? ⟨w.heap.size + 1, 1, none⟩ = some (.int .i64 0) := cell_of HS.out.2.2.2.1 rfl
      have z2 : wr.cell? ⟨w.heap.size + 1, 2, none⟩ = some (.slice none 0 0) := cell_of HS.out.2.2.2.1 rfl
      have y0 : wr.frozen? ⟨w.heap.size + 1, 0, none⟩ = false := free_of HS.out.2.2.2.1 _
      have y1 : wr.frozen? ⟨w.heap.size + 1, 1, none⟩ = false := free_of HS.out.2.2.2.1 _
      have y2 : wr.frozen? ⟨w.heap.size + 1, 2, none⟩ = false := free_of HS.out.2.2.2.1 _
      have RB := Lib.hid (RTu.done HS.out)
      clear hrdo
      go_wp2
      (try simp only [Exit.inBlock, Exit.then])
      refine bodyPost_ret (v := .agg #[.int .i64 R, .int .i64 N, .slice ad2 o.length cap2]) (by rw [results_cell_one rfl]; go_simp) rfl ?_
      exact ⟨_, rfl, HF.out ▸ (RB.out _ _ _).1, (RB.out _ _ _).2⟩
end Go.Proofs.Ytiodpgannelgpaa
