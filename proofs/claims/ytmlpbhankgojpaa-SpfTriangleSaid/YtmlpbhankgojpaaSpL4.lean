/-
  The walk of the law Triangle.
-/
import Derived.Test.YtmlpbhankgojpaaSpLv
import Derived.Test.YtmlpbhankgojpaaSpAl
namespace Go.Proofs.Ytmlpbhankgojpaa
open Go.RowKit HM GM SP
set_option linter.unusedSimpArgs false
set_option linter.unusedVariables false
set_option maxHeartbeats 4000000
set_option maxRecDepth 100000
theorem AllR.cases {R N : Int} {l : List E} {rows : List (List Int)} {er : Int} (h : AllR R N l rows er) : (er ≠ 0 ∧ rows = []) ∨ (er = 0 ∧ chk R N l = 0 ∧ ∃ r : Nat, R = (r : Int) ∧ rows = gT (allRow l r) r r) := by
  rcases h with ⟨a1, a2, a3⟩ | ⟨a1, a2, a3⟩
  · exact .inl ⟨by omega, a3⟩
  · exact .inr ⟨a2, a1, a3⟩
theorem allT_tb (l : List E) (r : Nat) : Tb r (gT (allRow l r) r r) ∧ ∀ a b : Nat, a < r → b < r → at2 (gT (allRow l r) r r) a b = T l a b := by
  refine ⟨⟨gT_len _ _ _, fun i hi => by rw [gT_get hi, if_pos hi]; simp [allRow]⟩, fun a b ha hb => ?_⟩
  unfold at2
  rw [gT_get ha, if_pos ha]
  simp [allRow, gI, hb]
theorem AllR.fail {R N : Int} {l : List E} {rows : List (List Int)} {er : Int} (h : AllR R N l rows er) (hn : ¬ chk R N l = 0) : (er == 0) = false ∧ (er != 0) = true := by
  rcases h with ⟨h1, h2, _⟩ | ⟨h1, _⟩
  · have : er ≠ 0 := by omega
    simp [this]
  · exact absurd h1 hn
theorem tri_fail (R N : Int) (l : List E) (s : Value) (w : World) (hR : I64 R) (hN : I64 N) (hr : Rd3 w s l) (hn : ¬ chk R N l = 0) :
    Calls Try.prog 9 #[.agg #[.int .i64 R, .int .i64 N, s]] w fun e w' => e = .returned (.bool true) ∧ Below w.heap.size w w' := by
  have HAll : Hid (∀ W, Below w.heap.size w W → Calls Try.prog 21 #[.agg #[.int .i64 R, .int .i64 N, s]] W (AllQ R N l W)) := fun W hW => all_any R N l s W hR hN (hr.below hW)
  have HF : Hid (∀ rows er, AllR R N l rows er → (er == 0) = false ∧ (er != 0) = true) := fun t er h => h.fail hn
  obtain ⟨ad, cap, hform⟩ := rd3_slice hr
  obtain ⟨L, hL⟩ : ∃ L, l.length = L := ⟨_, rfl⟩
  rw [hL] at hform
  subst hform
  clear hr hL hn
  have HB := Lib.hid (below_alloc w (.cells #[.int .i64 R, .int .i64 N, .slice ad L cap] 24))
  go_enter Try.func9, Try.ntmps9
  go_wp2_with fail
  go_at_call 21
  refine (HAll.out _ HB.out).mono ?_
  rintro e w1 ⟨rows, er, v, rfl, ht, hq, hb⟩
  obtain ⟨he0, he1⟩ := HF.out _ _ hq
  have HB1 := Lib.hid (below_then HB.out hb)
  obtain ⟨a1, q1, rfl⟩ := ht.form
  clear hb HB hq HF HAll ht
  go_wp2_with fail
  go_at_call 15
  refine (lives_any _).mono ?_
  rintro e w2 ⟨rfl, hb⟩
  have HB2 := Lib.hid (below_then HB1.out hb)
  clear hb
  go_wp2
  go_ret
  exact ⟨rfl, HB2.out⟩
/-- what a cell of a table reads as, behind calls that make memory -/
theorem tri_good (r n : Nat) (N : Int) (l : List E) (s : Value) (w : World) (hR : I64 (r : Int)) (hN : I64 N) (hr : Rd3 w s l) (hc : chk (r : Int) N l = 0) (hn : (n : Int) = (r : Int) + N) :
    Calls Try.prog 9 #[.agg #[.int .i64 (r : Int), .int .i64 N, s]] w fun e w' => e = .returned (.bool true) ∧ Below w.heap.size w w' := by
  have hv := chk_iff.1 hc
  have hN0 := hv.n; have hS := hv.s
  have HAll : Hid (∀ W, Below w.heap.size w W → Calls Try.prog 21 #[.agg #[.int .i64 (r : Int), .int .i64 N, s]] W fun e w' => ∃ v, e = .returned (.tuple #[v, .int .i64 0]) ∧ RdR w' v (gT (allRow l r) r r) ∧ Below W.heap.size W w') := fun W hW => by
    refine (all_any (r : Int) N l s W hR hN (hr.below hW)).mono ?_
    rintro e w' ⟨rows, er, v, rfl, h1, h2, h3⟩
    rcases h2 with ⟨a1, _⟩ | ⟨_, rfl, q, a3, rfl⟩
    · exact absurd hc a1
    · obtain rfl : r = q := by omega
      exact ⟨v, rfl, h1, h3⟩
  have HV : Hid (Valid (r : Int) N l ∧ (n : Int) = (r : Int) + N) := ⟨hv, hn⟩
  obtain ⟨ad, cap, hform⟩ := rd3_slice hr
  obtain ⟨L, hL⟩ : ∃ L, l.length = L := ⟨_, rfl⟩
  rw [hL] at hform
  subst hform
  have hrn : r ≤ n := by omega
  have hn8 : n ≤ 128 := by omega
  clear hr hL hc hv hn
  have HB := Lib.hid (below_alloc w (.cells #[.int .i64 (r : Int), .int .i64 N, .slice ad L cap] 24))
  have HBX : Hid ((w.alloc (.cells #[.int .i64 (r : Int), .int .i64 N, .slice ad L cap] 24)).heap[w.heap.size]? = some (.cells #[.int .i64 (r : Int), .int .i64 N, .slice ad L cap] 24 (0, 0))) := heap_alloc_new _ _
  go_enter Try.func9, Try.ntmps9
  go_wp2_with fail
  go_at_call 21
  refine (HAll.out _ HB.out).mono ?_
  rintro e w1 ⟨v, rfl, ht, hb⟩
  have HB1 := Lib.hid (below_then HB.out hb)
  have hbx := (hb.block _ (lt_block HBX.out)).trans HBX.out
  have q0 : w1.cell? ⟨w.heap.size, 0, none⟩ = some (.int .i64 (r : Int)) := cell_of hbx rfl
  have HRD := Lib.hid ht
  obtain ⟨va, vc, hvf⟩ := ht.form
  rw [gT_len] at hvf
  subst hvf
  have HD : Hid (0 < r → ∃ b o, va = some ⟨b, o, none⟩ ∧ r ≤ vc ∧ DT w1 l r b o vc) := fun h0 => by
    obtain ⟨b, o, c, e, h1, h2⟩ := DT.of HRD.out (allT_tb l r).1 (allT_tb l r).2 h0
    cases e
    exact ⟨b, o, rfl, h1, h2⟩
  have HS1 : Hid (∀ W, W = w1 → Below w1.heap.size w1 W) := fun W h => by subst h; exact Below.refl _ _
  have HSM : Hid (∀ k : Nat, k < n → ∀ i : Nat, i < n → T l (k : Int) (i : Int) ≤ 65535 * 129) := fun k hk i hi => by
    by_cases h : 0 ≤ T l (k : Int) (i : Int)
    · have := T_small HV.out.1 HV.out.2 (i := (k : Int)) (k := (i : Int)) (by have := HV.out.2; omega) h; omega
    · omega
  clear hb HB HAll ht hbx HRD HBX
  go_wp2_with fail
  clear q0
  have HW0 : Hid (Below w1.heap.size w1 w1) := Below.refl _ _
  go_loopg [5, 24] r (fun g s5 s24 wr => ∃ a : Nat, a ≤ r ∧ r - a ≤ g ∧ s24 = .int .i64 (a : Int) ∧ (∃ q, q = s5) ∧ Hid (Below w1.heap.size w1 wr))
  case atStart => exact ⟨0, by omega, by omega, rfl, ⟨_, rfl⟩, HW0⟩
  case round =>
    clear HW0
    obtain ⟨a, ha, hag, rfl, ⟨u5, rfl⟩, HW⟩ := hrel
    by_cases hal : a < r
    · have a0 : (0 : Int) ≤ (a : Int) := by omega
      have a1 : (a : Int) < (r : Int) := by omega
      obtain ⟨b, o, rfl, hvc, hdt⟩ := HD.out (by omega)
      obtain ⟨ga, pa, ca, e1, _, e3, e4⟩ := (hdt.below HW.out).rows a hal
      have e5 := e4 a hal
      rw [T_self HV.out.1] at e5
      clear e4 hdt
      go_wp2_with fail
      go_roundg (r - (a + 1))
      case measure => omega
      case rel => exact ⟨a + 1, by omega, Nat.le_refl _, by go_num, ⟨_, rfl⟩, HW⟩
    · have k1 : decide ((a : Int) < (r : Int)) = false := decide_eq_false (by omega)
      go_wp2_with fail
      go_loopg [6, 7, 8, 48, 53, 58] r (fun g s6 s7 s8 s48 s53 s58 wr => ∃ a : Nat, a ≤ r ∧ r - a ≤ g ∧ s48 = .int .i64 (a : Int) ∧ (∃ q, q = s6) ∧ (∃ q, q = s7) ∧ (∃ q, q = s8) ∧ (∃ q, q = s53) ∧ (∃ q, q = s58) ∧ Hid (Below w1.heap.size w1 wr))
      case atStart => exact ⟨0, by omega, by omega, rfl, ⟨_, rfl⟩, ⟨_, rfl⟩, ⟨_, rfl⟩, ⟨_, rfl⟩, ⟨_, rfl⟩, HW⟩
      case round =>
        clear HW
        obtain ⟨a, ha, hag, rfl, ⟨u6, rfl⟩, ⟨u7, rfl⟩, ⟨u8, rfl⟩, ⟨u53, rfl⟩, ⟨u58, rfl⟩, HW⟩ := hrel
        by_cases hal : a < r
        · have a0 : (0 : Int) ≤ (a : Int) := by omega
          have a1 : (a : Int) < (r : Int) := by omega
          obtain ⟨bb, oo, rfl, hvc, hdt⟩ := HD.out (by omega)
          have HDT := Lib.hid hdt
          clear hdt HD
          go_wp2_with fail
          go_loopg [7, 8, 53, 58] r (fun g s7 s8 s53 s58 wr => ∃ b : Nat, b ≤ r ∧ r - b ≤ g ∧ s53 = .int .i64 (b : Int) ∧ (∃ q, q = s7) ∧ (∃ q, q = s8) ∧ (∃ q, q = s58) ∧ Hid (Below w1.heap.size w1 wr))
          case atStart => exact ⟨0, by omega, by omega, rfl, ⟨_, rfl⟩, ⟨_, rfl⟩, ⟨_, rfl⟩, HW⟩
          case round =>
            clear HW
            obtain ⟨b, hb, hbg, rfl, ⟨u7, rfl⟩, ⟨u8, rfl⟩, ⟨u58, rfl⟩, HW⟩ := hrel
            by_cases hbl : b < r
            · have b0 : (0 : Int) ≤ (b : Int) := by omega
              have b1 : (b : Int) < (r : Int) := by omega
              go_wp2_with fail
              go_loopg [8, 58] r (fun g s8 s58 wr => ∃ c : Nat, c ≤ r ∧ r - c ≤ g ∧ s58 = .int .i64 (c : Int) ∧ (∃ q, q = s8) ∧ Hid (Below w1.heap.size w1 wr))
              case atStart => exact ⟨0, by omega, by omega, rfl, ⟨_, rfl⟩, HW⟩
              case round =>
                clear HW
                obtain ⟨c, hc, hcg, rfl, ⟨u8, rfl⟩, HW⟩ := hrel
                by_cases hcl : c < r
                · have c0 : (0 : Int) ≤ (c : Int) := by omega
                  have c1 : (c : Int) < (r : Int) := by omega
                  obtain ⟨ga, pa, ca, e1, _, e3, e4⟩ := (HDT.out.below HW.out).rows a hal
                  obtain ⟨gb, pb, cb, f1, _, f3, f4⟩ := (HDT.out.below HW.out).rows b hbl
                  have e5 := e4 b hbl
                  have e6 := e4 c hcl
                  have f5 := f4 c hcl
                  have hs1 := HSM.out a (by omega) b (by omega)
                  have hs2 := HSM.out b (by omega) c (by omega)
                  have htri : 0 ≤ T l (a : Int) (b : Int) → 0 ≤ T l (b : Int) (c : Int) → 0 ≤ T l (a : Int) (c : Int) ∧ T l (a : Int) (c : Int) ≤ T l (a : Int) (b : Int) + T l (b : Int) (c : Int) := fun h1 h2 => T_tri HV.out.1 h1 h2
                  clear e4 f4
                  generalize T l (a : Int) (b : Int) = x at *
                  generalize T l (b : Int) (c : Int) = y at *
                  generalize T l (a : Int) (c : Int) = z at *
                  by_cases hx : 0 ≤ x
                  · have x1 : decide (0 ≤ x) = true := decide_eq_true hx
                    by_cases hy : 0 ≤ y
                    · have y1 : decide (0 ≤ y) = true := decide_eq_true hy
                      obtain ⟨hz0, hz⟩ := htri hx hy
                      have z1 : decide (z < 0) = false := decide_eq_false (by omega)
                      have z2 : decide (x + y < z) = false := decide_eq_false (by omega)
                      clear htri
                      go_wp2_with fail
                      go_quiet (fail)
                      go_wp2_with fail
                      go_roundg (r - (c + 1))
                      case measure => omega
                      case rel => exact ⟨c + 1, by omega, Nat.le_refl _, by go_num, ⟨_, rfl⟩, below_drewN HW.out _⟩
                    · have y1 : decide (0 ≤ y) = false := decide_eq_false hy
                      clear htri
                      go_wp2_with fail
                      go_quiet (fail)
                      go_wp2_with fail
                      go_roundg (r - (c + 1))
                      case measure => omega
                      case rel => exact ⟨c + 1, by omega, Nat.le_refl _, by go_num, ⟨_, rfl⟩, below_drewN HW.out _⟩
                  · have x1 : decide (0 ≤ x) = false := decide_eq_false hx
                    clear htri
                    go_wp2_with fail
                    go_quiet (fail)
                    go_wp2_with fail
                    go_roundg (r - (c + 1))
                    case measure => omega
                    case rel => exact ⟨c + 1, by omega, Nat.le_refl _, by go_num, ⟨_, rfl⟩, below_drewN HW.out _⟩
                · have k2 : decide ((c : Int) < (r : Int)) = false := decide_eq_false (by omega)
                  go_wp2_with fail
                  go_roundg (r - (b + 1))
                  case measure => omega
                  case rel => exact ⟨b + 1, by omega, Nat.le_refl _, by go_num, ⟨_, rfl⟩, ⟨_, rfl⟩, ⟨_, rfl⟩, HW⟩
            · have k2 : decide ((b : Int) < (r : Int)) = false := decide_eq_false (by omega)
              go_wp2_with fail
              go_roundg (r - (a + 1))
              case measure => omega
              case rel => exact ⟨a + 1, by omega, Nat.le_refl _, by go_num, ⟨_, rfl⟩, ⟨_, rfl⟩, ⟨_, rfl⟩, ⟨_, rfl⟩, ⟨_, rfl⟩, HW⟩
        · have k2 : decide ((a : Int) < (r : Int)) = false := decide_eq_false (by omega)
          go_wp2_with fail
          go_at_call 15
          refine (lives_any _).mono ?_
          rintro e w9 ⟨rfl, hb⟩
          have HB9 := Lib.hid (below_then (below_then HB1.out HW.out) hb)
          clear hb
          go_wp2
          go_ret
          exact ⟨rfl, HB9.out⟩
theorem tri_walk (R N : Int) (l : List E) (s : Value) (w : World) (hR : I64 R) (hN : I64 N) (hr : Rd3 w s l) (hf : FitT l) :
    Calls Try.prog 9 #[.agg #[.int .i64 R, .int .i64 N, s]] w fun e w' => e = .returned (.bool true) ∧ Below w.heap.size w w' := by
  by_cases hc : chk R N l = 0
  · have hv := chk_iff.1 hc
    have h1 := hv.r; have h2 := hv.n
    obtain ⟨r, rfl⟩ : ∃ r : Nat, R = r := ⟨R.toNat, by omega⟩
    exact tri_good r (r + N.toNat) N l s w hR hN hr hc (by omega)
  · exact tri_fail R N l s w hR hN hr hc
end Go.Proofs.Ytmlpbhankgojpaa
