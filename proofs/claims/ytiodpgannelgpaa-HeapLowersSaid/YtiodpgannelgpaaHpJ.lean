/-
  The law on changed keys.
-/
import Derived.Test.YtiodpgannelgpaaHpI
namespace Go.Proofs.Ytiodpgannelgpaa
open Go.RowKit HM
set_option linter.unusedSimpArgs false
set_option linter.unusedVariables false
set_option maxHeartbeats 4000000
set_option maxRecDepth 100000

theorem quiet_left {P : Program} {f : FuncId} {args : Array Value} {w : World} {n : Nat} {v : Value}
    (h : Calls P f args (w.drewN n) fun e w' => e = .returned v ∧ w.drewN n = w') : Calls P f args (w.drewN n) fun e w'' => e = .returned v ∧ ∃ m, w'' = w.drewN m :=
  h.mono fun _ _ ⟨he, hm⟩ => ⟨he, n, hm.symm⟩
theorem idx_run (z0 z1 z2 z3 z4 z5 z6 z7 z8 z9 : Bool) (w : World) : ∀ (k : Nat), k < 10 → (Instr.index 69 (.agg #[.bool z0, .bool z1, .bool z2, .bool z3, .bool z4, .bool z5, .bool z6, .bool z7, .bool z8, .bool z9]) (.int .i64 (k : Int))).run Try.prog w = .ok (.bool (gB [z0, z1, z2, z3, z4, z5, z6, z7, z8, z9] k)) w
  | 0, _ => by simp [Instr.index, run_underlying Try.underlying69, asIntOf, gB, go_sem]
  | 1, _ => by simp [Instr.index, run_underlying Try.underlying69, asIntOf, gB, go_sem]
  | 2, _ => by simp [Instr.index, run_underlying Try.underlying69, asIntOf, gB, go_sem]
  | 3, _ => by simp [Instr.index, run_underlying Try.underlying69, asIntOf, gB, go_sem]
  | 4, _ => by simp [Instr.index, run_underlying Try.underlying69, asIntOf, gB, go_sem]
  | 5, _ => by simp [Instr.index, run_underlying Try.underlying69, asIntOf, gB, go_sem]
  | 6, _ => by simp [Instr.index, run_underlying Try.underlying69, asIntOf, gB, go_sem]
  | 7, _ => by simp [Instr.index, run_underlying Try.underlying69, asIntOf, gB, go_sem]
  | 8, _ => by simp [Instr.index, run_underlying Try.underlying69, asIntOf, gB, go_sem]
  | 9, _ => by simp [Instr.index, run_underlying Try.underlying69, asIntOf, gB, go_sem]
  | k + 10, h => absurd h (by omega)
theorem ten (ins : List Bool) (h : ins.length = 10) : ∃ z0 z1 z2 z3 z4 z5 z6 z7 z8 z9 : Bool, ins = [z0, z1, z2, z3, z4, z5, z6, z7, z8, z9] := by
  match ins, h with
  | [z0, z1, z2, z3, z4, z5, z6, z7, z8, z9], _ => exact ⟨z0, z1, z2, z3, z4, z5, z6, z7, z8, z9, rfl⟩
theorem cnt_take {ins : List Bool} {k : Nat} (h : k < ins.length) : cntB (ins.take (k + 1)) = cntB (ins.take k) + if gB ins k = true then 1 else 0 := by
  unfold cntB gB
  rw [List.take_succ_eq_append_getElem h, List.countP_append, List.getElem?_eq_getElem h]
  simp [List.countP_cons]
theorem lowers_big (l : List Tri) (v : Value) (w : World) (hr : Rd3 w v l) (h : 200 < l.length) : Calls Try.prog 14 #[v] w fun e w' => e = .returned (.bool true) ∧ Below w.heap.size w w' := by
  obtain ⟨ad, cap, rfl, h1, h2, hc⟩ := hr
  have h' : (200 : Int) < (l.length : Int) := by omega
  clear hc
  go_enter Try.func14, Try.ntmps14
  go_wp2_with (go_at_call 39; refine (awake_any _).mono ?_; rintro e w1 ⟨rfl, hb⟩; have B := Lib.hid hb; clear hb)
  go_ret
  exact ⟨rfl, B.out⟩
theorem mod_fact (x : Int) : ∃ j : Nat, j < 10 ∧ (Int.tmod x 10 + 10) % 10 = (j : Int) ∧ -10 < Int.tmod x 10 ∧ Int.tmod x 10 < 10 := by
  have h1 : -10 < Int.tmod x 10 := by have := Int.lt_tmod_of_pos x (b := 10) (by omega); omega
  have h2 : Int.tmod x 10 < 10 := by have := Int.tmod_lt_of_pos x (b := 10) (by omega); omega
  exact ⟨((Int.tmod x 10 + 10) % 10).toNat, by omega, by omega, h1, h2⟩
theorem lowers_small (l : List Tri) (v : Value) (w : World) (hr : Rd3 w v l) (h : l.length ≤ 200) : Calls Try.prog 14 #[v] w fun e w' => e = .returned (.bool true) ∧ Below w.heap.size w w' := by
  obtain ⟨ad, cap, rfl, h1, h2, hc⟩ := hr
  have HC := Lib.hid hc
  clear hc h1
  obtain ⟨L, hL⟩ : ∃ L, l.length = L := ⟨_, rfl⟩
  have HL := Lib.hid hL
  rw [hL] at h
  rw [hL]
  clear hL
  go_enter Try.func14, Try.ntmps14
  go_wp2_with fail
  go_at_call 40
  refine (hw_new 10 10 (by decide) w w (Below.refl _ _)).mono ?_
  rintro e w1 ⟨hb, rfl, hh⟩
  have H0 := Lib.hid hh
  clear hh
  go_wp2_with fail
  have HS : Hid (Hz w ((w1.alloc (.cells #[.int .i64 0, .int .i64 0, .int .i64 0, .int .i64 0, .int .i64 0, .int .i64 0, .int .i64 0, .int .i64 0, .int .i64 0, .int .i64 0] 68)).alloc (.cells #[.bool false, .bool false, .bool false, .bool false, .bool false, .bool false, .bool false, .bool false, .bool false, .bool false] 69)) hb 10 (List.replicate 10 false) (List.replicate 10 0) [w1.heap.size + 1, w1.heap.size] ∧
      Arr ((w1.alloc (.cells #[.int .i64 0, .int .i64 0, .int .i64 0, .int .i64 0, .int .i64 0, .int .i64 0, .int .i64 0, .int .i64 0, .int .i64 0, .int .i64 0] 68)).alloc (.cells #[.bool false, .bool false, .bool false, .bool false, .bool false, .bool false, .bool false, .bool false, .bool false, .bool false] 69)) w1.heap.size (w1.heap.size + 1) (List.replicate 10 false) (List.replicate 10 0)) := by
    refine ⟨((Hz.of H0.out).more _ rfl).more _ (by simp), (Below.heap_alloc _ _ _ (by simp)).trans (heap_alloc_new _ _), ?_⟩
    have := heap_alloc_new (w1.alloc (.cells #[.int .i64 0, .int .i64 0, .int .i64 0, .int .i64 0, .int .i64 0, .int .i64 0, .int .i64 0, .int .i64 0, .int .i64 0, .int .i64 0] 68)) (.cells #[.bool false, .bool false, .bool false, .bool false, .bool false, .bool false, .bool false, .bool false, .bool false, .bool false] 69)
    rw [show (w1.alloc _).heap.size = w1.heap.size + 1 by simp] at this
    exact this
  have hA := H0.out.b.size
  clear H0
  generalize ((w1.alloc (.cells #[.int .i64 0, .int .i64 0, .int .i64 0, .int .i64 0, .int .i64 0, .int .i64 0, .int .i64 0, .int .i64 0, .int .i64 0, .int .i64 0] 68)).alloc (.cells #[.bool false, .bool false, .bool false, .bool false, .bool false, .bool false, .bool false, .bool false, .bool false, .bool false] 69)) = W at *
  have hAB : w1.heap.size ≠ w1.heap.size + 1 := by omega
  have hB : w.heap.size ≤ w1.heap.size + 1 := by omega
  generalize w1.heap.size + 1 = B at *
  generalize w1.heap.size = A at *
  have hBA := Ne.symm hAB
  go_loopg [23, 8, 9] L (fun g s23 s8 s9 wr => ∃ (k : Nat) (ins : List Bool) (keys : List Int), k ≤ L ∧ L - k ≤ g ∧ s23 = .int .i64 (k : Int) ∧ (∃ v, v = s8) ∧ (∃ v, v = s9) ∧ Hid (Hz w wr hb 10 ins keys [B, A] ∧ Arr wr A B ins keys))
  case atStart => exact ⟨0, _, _, by omega, by omega, rfl, ⟨_, rfl⟩, ⟨_, rfl⟩, HS⟩
  case round =>
    clear HS
    obtain ⟨k, ins, keys, hk, hkg, rfl, ⟨v8, rfl⟩, ⟨v9, rfl⟩, HS⟩ := hrel
    by_cases hlt : k < L
    · obtain ⟨x, hx⟩ : ∃ x, l[k]? = some x := ⟨_, List.getElem?_eq_getElem (by have := HL.out; omega)⟩
      obtain ⟨b, off, rfl, hbl, c0, c1, c2⟩ := rd3_cell HC.out HS.out.1.b hx
      obtain ⟨kd, it, ky⟩ := x
      dsimp only at c0 c1 c2
      clear hx
      have k0 : (0 : Int) ≤ (k : Int) := by omega
      have k1 : (k : Int) < (L : Int) := by omega
      obtain ⟨j, hj, hje, ht1, ht2⟩ := mod_fact it
      have hlen := HS.out.1.len
      have hC := HS.out.1.b.size
      have HZ : Hid (Hz w (wr.alloc (.cells #[.int .i64 kd, .int .i64 it, .int .i64 ky] 60)) hb 10 ins keys [wr.heap.size, B, A] ∧ Arr (wr.alloc (.cells #[.int .i64 kd, .int .i64 it, .int .i64 ky] 60)) A B ins keys ∧
          (wr.alloc (.cells #[.int .i64 kd, .int .i64 it, .int .i64 ky] 60)).heap[wr.heap.size]? = some (.cells #[.int .i64 kd, .int .i64 it, .int .i64 ky] 60 (0, 0))) :=
        ⟨HS.out.1.more _ rfl, HS.out.2.kq (HS.out.1.below (below_alloc _ _)).2 (by simp) (by simp), heap_alloc_new _ _⟩
      have j0 : (0 : Int) ≤ (j : Int) := by omega
      have j1 : (j : Int) < 10 := by omega
      by_cases hkd : kd = 2
      · subst hkd
        have cB0 := HZ.out.2.1.cb (x := j) (by omega)
        have zB0 := free_of HZ.out.2.1.b j
        cases hz : gB ins j
        · have HD : Hid (∀ q, Calls Try.prog 47 #[.pointer (some ⟨hb, 0, none⟩), .int .i64 (j : Int)] ((wr.alloc (.cells #[.int .i64 2, .int .i64 it, .int .i64 ky] 60)).drewN q) fun e w' => e = .returned (.bool false) ∧ (wr.alloc (.cells #[.int .i64 2, .int .i64 it, .int .i64 ky] 60)).drewN q = w') := fun q =>
            (HZ.out.1.below (below_drewN (Below.refl _ _) q)).1.dropOut (j : Int) (by rw [Int.toNat_natCast, hz]; simp)
          rw [hz] at cB0
          have HE : Hid (∀ q, Hz w (((wr.alloc (.cells #[.int .i64 2, .int .i64 it, .int .i64 ky] 60)).drewN q).setCell ⟨B, j, none⟩ (.bool false)) hb 10 (ins.set j false) keys [B, A] ∧ Arr (((wr.alloc (.cells #[.int .i64 2, .int .i64 it, .int .i64 ky] 60)).drewN q).setCell ⟨B, j, none⟩ (.bool false)) A B (ins.set j false) keys) := fun q => by
            have e : ins.set j false = ins := by
              apply gB_ext (by simp)
              intro p hp
              rw [gB_set (by omega)]
              split
              · rename_i e; rw [e, hz]
              · rfl
            have a1 := (HZ.out.1.below (below_drewN (Below.refl _ _) q))
            have a2 := (HZ.out.2.1.kq a1.2 (by simp) (by simp)).setB hAB j false
            rw [e] at a2 ⊢
            exact ⟨(a1.1.less (fun s hs => List.mem_cons_of_mem _ hs)).write (by simp) hB, a2⟩
          clear hz HZ
          go_wp2_with fail
          generalize wr.alloc (.cells #[.int .i64 2, .int .i64 it, .int .i64 ky] 60) = W1 at *
          go_quiet ((go_at_call 47; exact quiet_left (HD.out _)))
          have HE2 := Lib.hid (HE.out nq)
          go_wp2_with fail
          go_roundg (L - (k + 1))
          case measure => omega
          case rel => exact ⟨k + 1, _, _, by omega, Nat.le_refl _, by go_num, ⟨_, rfl⟩, ⟨_, rfl⟩, HE2⟩
        · have HD : Hid (∀ W, Below (wr.alloc (.cells #[.int .i64 2, .int .i64 it, .int .i64 ky] 60)).heap.size (wr.alloc (.cells #[.int .i64 2, .int .i64 it, .int .i64 ky] 60)) W → Calls Try.prog 47 #[.pointer (some ⟨hb, 0, none⟩), .int .i64 (j : Int)] W fun e w' => e = .returned (.bool true) ∧ Hz w w' hb 10 (ins.set j false) keys [B, A] ∧ Arr w' A B ins keys) := fun W hW => by
            have a1 := HZ.out.1.below hW
            refine (a1.1.drop j hj hz).mono ?_
            rintro e w' ⟨rfl, z1, z2⟩
            exact ⟨rfl, z1.less (fun s hs => List.mem_cons_of_mem _ hs), (HZ.out.2.1.kq a1.2 (by simp) (by simp)).kq z2 (by simp) (by simp)⟩
          rw [hz] at cB0
          have HZB := Lib.hid hz
          have BW : Hid (∀ W, Below (wr.alloc (.cells #[.int .i64 2, .int .i64 it, .int .i64 ky] 60)).heap.size (wr.alloc (.cells #[.int .i64 2, .int .i64 it, .int .i64 ky] 60)) W → W.cell? ⟨B, j, none⟩ = some (.bool true)) := fun W hW => carry hW cB0
          clear hz HZ
          go_wp2_with fail
          generalize wr.alloc (.cells #[.int .i64 2, .int .i64 it, .int .i64 ky] 60) = W1 at *
          go_region_held3 (fun w' => w'.cell? ⟨B, j, none⟩ = some (.bool true)) (first | assumption | exact BW.out _ (Below.refl _ _).drew)
            (first | (go_at_call 47; refine (HD.out _ (Below.refl _ _).drew).mono ?_; rintro e w2 ⟨rfl, z1, a1⟩; have cB := (show w2.cell? ⟨B, j, none⟩ = some (.bool true) from (a1.cb (x := j) (by rw [hlen.1]; exact hj)).trans (by rw [HZB.out])); have zB := free_of a1.b j; have HE : Hid (Hz w (w2.setCell ⟨B, j, none⟩ (.bool false)) hb 10 (ins.set j false) keys [B, A] ∧ Arr (w2.setCell ⟨B, j, none⟩ (.bool false)) A B (ins.set j false) keys) := ⟨z1.write (by simp) hB, a1.setB hAB j false⟩; clear z1 a1))
          all_goals (
            go_wp2_with fail
            go_roundg (L - (k + 1))
            case measure => omega
            case rel => exact ⟨k + 1, _, _, by omega, Nat.le_refl _, by go_num, ⟨_, rfl⟩, ⟨_, rfl⟩, HE⟩)
      · have HC1 := Lib.hid (HZ.out.1.set j ky hj)
        go_wp2_with fail
        go_at_call 45
        refine HC1.out.mono ?_
        rintro e w2 ⟨rfl, z1, z2⟩
        have a1 := HZ.out.2.1.kq z2 (by simp) (by simp)
        have cC : w2.cell? ⟨wr.heap.size, 2, none⟩ = some (.int .i64 ky) := cell_of ((z2.2 _ (by simp)).trans HZ.out.2.2) rfl
        have cA := a1.ca (x := j) (by omega)
        have cB := a1.cb (x := j) (by omega)
        have zA := free_of a1.a j
        have zB := free_of a1.b j
        have HE : Hid (Hz w ((w2.setCell ⟨A, j, none⟩ (.int .i64 ky)).setCell ⟨B, j, none⟩ (.bool true)) hb 10 (ins.set j true) (keys.set j ky) [B, A] ∧ Arr ((w2.setCell ⟨A, j, none⟩ (.int .i64 ky)).setCell ⟨B, j, none⟩ (.bool true)) A B (ins.set j true) (keys.set j ky)) :=
          ⟨(((z1.less (S' := [B, A]) (fun s hs => List.mem_cons_of_mem _ hs)).write (by simp) hA).write (by simp) hB), (a1.setA hAB j ky).setB hAB j true⟩
        generalize gI keys j = oa at cA
        generalize gB ins j = ob at cB
        clear z1 z2 a1 HC1
        go_wp2_with fail
        go_roundg (L - (k + 1))
        case measure => omega
        case rel => exact ⟨k + 1, _, _, by omega, Nat.le_refl _, by go_num, ⟨_, rfl⟩, ⟨_, rfl⟩, HE⟩
    · clear hkg hk
      have hlen := HS.out.1.len.1
      obtain ⟨z0, z1, z2, z3, z4, z5, z6, z7, z8, z9, rfl⟩ := ten ins hlen
      have cb0 : wr.cell? ⟨B, 0, none⟩ = some (.bool z0) := HS.out.2.cb (x := 0) (by simp)
      have cb1 : wr.cell? ⟨B, 1, none⟩ = some (.bool z1) := HS.out.2.cb (x := 1) (by simp)
      have cb2 : wr.cell? ⟨B, 2, none⟩ = some (.bool z2) := HS.out.2.cb (x := 2) (by simp)
      have cb3 : wr.cell? ⟨B, 3, none⟩ = some (.bool z3) := HS.out.2.cb (x := 3) (by simp)
      have cb4 : wr.cell? ⟨B, 4, none⟩ = some (.bool z4) := HS.out.2.cb (x := 4) (by simp)
      have cb5 : wr.cell? ⟨B, 5, none⟩ = some (.bool z5) := HS.out.2.cb (x := 5) (by simp)
      have cb6 : wr.cell? ⟨B, 6, none⟩ = some (.bool z6) := HS.out.2.cb (x := 6) (by simp)
      have cb7 : wr.cell? ⟨B, 7, none⟩ = some (.bool z7) := HS.out.2.cb (x := 7) (by simp)
      have cb8 : wr.cell? ⟨B, 8, none⟩ = some (.bool z8) := HS.out.2.cb (x := 8) (by simp)
      have cb9 : wr.cell? ⟨B, 9, none⟩ = some (.bool z9) := HS.out.2.cb (x := 9) (by simp)
      clear hlen
      go_wp2_with fail
      clear cb0 cb1 cb2 cb3 cb4 cb5 cb6 cb7 cb8 cb9
      have HI := Lib.hid (idx_run z0 z1 z2 z3 z4 z5 z6 z7 z8 z9)
      have HH : Hid (Hz w wr hb 10 [z0, z1, z2, z3, z4, z5, z6, z7, z8, z9] keys [B, A] ∧ Arr wr A B [z0, z1, z2, z3, z4, z5, z6, z7, z8, z9] keys ∧ [z0, z1, z2, z3, z4, z5, z6, z7, z8, z9].length = 10) := ⟨HS.out.1, HS.out.2, rfl⟩
      clear HS
      have HN : Hid (cntB ([z0, z1, z2, z3, z4, z5, z6, z7, z8, z9].take 0) = 0) := rfl
      generalize (Value.agg #[.bool z0, .bool z1, .bool z2, .bool z3, .bool z4, .bool z5, .bool z6, .bool z7, .bool z8, .bool z9]) = vz at *
      generalize [z0, z1, z2, z3, z4, z5, z6, z7, z8, z9] = zl at *

      go_loopg [58, 6, 10, 11, 12, 13] 10 (fun g s58 s6 s10 s11 s12 s13 wr2 => ∃ k n : Nat, k ≤ 10 ∧ n ≤ k ∧ 10 - k ≤ g ∧ s58 = .int .i64 (k : Int) ∧ s6 = .int .i64 (n : Int) ∧ (∃ v, v = s10) ∧ (∃ v, v = s11) ∧ (∃ v, v = s12) ∧ (∃ v, v = s13) ∧ Hid (cntB (zl.take k) = n) ∧ wr = wr2)
      case atStart => exact ⟨0, 0, by omega, by omega, by omega, rfl, rfl, ⟨_, rfl⟩, ⟨_, rfl⟩, ⟨_, rfl⟩, ⟨_, rfl⟩, HN, rfl⟩
      case round =>
        clear HN
        obtain ⟨k, n, hk, hn, hkg, rfl, rfl, ⟨v10, rfl⟩, ⟨v11, rfl⟩, ⟨v12, rfl⟩, ⟨v13, rfl⟩, HN, rfl⟩ := hrel
        by_cases hlt : k < 10
        · have hidx : ∀ w, (Instr.index 69 vz (.int .i64 (k : Int))).run Try.prog w = .ok (.bool (gB zl k)) w := fun w => HI.out w k hlt
          have hlz := HH.out.2.2
          have hlk := HH.out.1.len.2.1
          have cA := HH.out.2.1.ca (x := k) (by omega)
          have k0 : (0 : Int) ≤ (k : Int) := by omega
          have k1 : (k : Int) < 10 := by omega
          have hct := cnt_take (ins := zl) (k := k) (by omega)
          rw [HN.out] at hct
          have HKy : Hid (KeyQ 10 zl keys (k : Int) (if gB zl k = true then gI keys k else 0) (gB zl k)) := by
            cases hz : gB zl k
            · exact .inr ⟨fun h => by rw [Int.toNat_natCast, hz] at h; simp at h, rfl, rfl⟩
            · exact .inl ⟨by omega, by omega, by rw [Int.toNat_natCast, hz], by rw [Int.toNat_natCast]; rfl, rfl⟩
          have HKc := Lib.hid (HH.out.1.keyC (k : Int) HKy.out)
          clear HKy
          generalize gI keys k = ky at *
          cases hz : gB zl k
          · rw [hz] at hidx HKc hct
            have HCT := Lib.hid hct
            clear hct hz hlz hlk
            go_wp2_with (go_at_call 48; refine HKc.out.mono ?_; rintro e w3 ⟨rfl, rfl⟩)
            go_roundg (10 - (k + 1))
            case measure => omega
            case rel => exact ⟨k + 1, n, by omega, by omega, Nat.le_refl _, by go_num, rfl, ⟨_, rfl⟩, ⟨_, rfl⟩, ⟨_, rfl⟩, ⟨_, rfl⟩, HCT, rfl⟩
          · rw [hz] at hidx HKc hct
            have HCT := Lib.hid hct
            clear hct hz hlz hlk
            go_wp2_with (go_at_call 48; refine HKc.out.mono ?_; rintro e w3 ⟨rfl, rfl⟩)
            go_roundg (10 - (k + 1))
            case measure => omega
            case rel => exact ⟨k + 1, n + 1, by omega, by omega, Nat.le_refl _, by go_num, by go_num, ⟨_, rfl⟩, ⟨_, rfl⟩, ⟨_, rfl⟩, ⟨_, rfl⟩, HCT, rfl⟩
        · have hk10 : k = 10 := by omega
          have HCT : Hid (cntB zl = n) := by
            have h1 := HN.out
            rw [hk10] at h1
            rwa [List.take_of_length_le (by rw [HH.out.2.2]; exact Nat.le_refl _)] at h1
          clear HN hk10
          have hlt' : ¬ (k : Int) < 10 := by omega
          go_wp2_with fail
          go_at_call 39
          refine (awake_any _).mono ?_
          rintro e w3 ⟨rfl, hb3⟩
          have H3 := Lib.hid (HH.out.1.below hb3).1
          clear hb3
          have HL3 := Lib.hid H3.out.size
          rw [HCT.out] at HL3
          go_wp2_with (go_at_call 43; refine HL3.out.mono ?_; rintro e w4 ⟨rfl, rfl⟩)
          go_ret
          exact ⟨by simp, H3.out.b⟩
theorem lowers_walk (l : List Tri) (v : Value) (w : World) (hr : Rd3 w v l) (hf : FitT l) : Calls Try.prog 14 #[v] w fun e w' => e = .returned (.bool true) ∧ Below w.heap.size w w' := by
  by_cases h : 200 < l.length
  · exact lowers_big l v w hr h
  · exact lowers_small l v w hr (by omega)
end Go.Proofs.Ytiodpgannelgpaa
