/-
  The walk of the reference's Permits.
-/
import Derived.Test.YtiiojkekcnmddaaDoorPlB
import Derived.Test.YtiiojkekcnmddaaDoorPlC
import Derived.BigQuiet
namespace Go.Proofs.YtiiojkekcnmddaaDoor
open Go.RowKit
set_option linter.unusedSimpArgs false
set_option linter.unusedVariables false
set_option maxHeartbeats 1500000
set_option maxRecDepth 100000

theorem rpermits_any (rs : List Ru) (p : Nat × Int) (u : Value) (w : World) (hu : RdU w u rs) (hp : p.1 < 4294967296) (hp2 : I64 p.2) :
    Calls Tryd.prog 16 #[u, .agg #[.int .u32 (p.1 : Int), .int .i64 p.2]] w fun e w' => e = .returned (.bool (permB rs p)) ∧ Below w.heap.size w w' := by
  have hb : Below w.heap.size w (w.alloc (.cells #[.int .u32 (p.1 : Int), .int .i64 p.2] 25)) := below_alloc _ _
  have hx : (w.alloc (.cells #[.int .u32 (p.1 : Int), .int .i64 p.2] 25)).cell? ⟨w.heap.size, 0, none⟩ = some (.int .u32 (p.1 : Int)) := cell_of (heap_alloc_new _ _) rfl
  have hy : (w.alloc (.cells #[.int .u32 (p.1 : Int), .int .i64 p.2] 25)).cell? ⟨w.heap.size, 1, none⟩ = some (.int .i64 p.2) := cell_of (heap_alloc_new _ _) rfl
  obtain ⟨ad, cap, rfl, ⟨h1, h1'⟩, hok, hc⟩ := hu
  have HC := Lib.hid hc
  have HOK := Lib.hid hok
  obtain ⟨L, hL⟩ : ∃ L, rs.length = L := ⟨_, rfl⟩
  rw [hL] at h1 ⊢
  have HL := Lib.hid hL
  clear hc hL hok
  obtain ⟨q, hq⟩ : ∃ q, permB rs p = q := ⟨_, rfl⟩
  rw [hq]
  have HQ := Lib.hid hq
  clear hq
  have HS : Hid (∀ (k : Nat) (z : Ru), k < 0 → rs[k]? = some z → matR z p = false) := fun k z h => by omega
  have HW : Hid (Below w.heap.size w (w.alloc (.cells #[.int .u32 (p.1 : Int), .int .i64 p.2] 25)) ∧ (w.alloc (.cells #[.int .u32 (p.1 : Int), .int .i64 p.2] 25)).cell? ⟨w.heap.size, 0, none⟩ = some (.int .u32 (p.1 : Int)) ∧ (w.alloc (.cells #[.int .u32 (p.1 : Int), .int .i64 p.2] 25)).cell? ⟨w.heap.size, 1, none⟩ = some (.int .i64 p.2)) := ⟨hb, hx, hy⟩
  clear hb hx hy
  go_enter Tryd.func16, Tryd.ntmps16
  go_wp2_with fail
  go_loopg [6, 9] L (fun g s6 s9 wr => ∃ k : Nat, k ≤ L ∧ L - k ≤ g ∧ s9 = .int .i64 (k : Int) ∧ (∃ q, q = s6) ∧ Hid (∀ (j : Nat) (z : Ru), j < k → rs[j]? = some z → matR z p = false) ∧ Hid (Below w.heap.size w wr ∧ wr.cell? ⟨w.heap.size, 0, none⟩ = some (.int .u32 (p.1 : Int)) ∧ wr.cell? ⟨w.heap.size, 1, none⟩ = some (.int .i64 p.2)))
  case atStart => exact ⟨0, by omega, by omega, rfl, ⟨_, rfl⟩, HS, HW⟩
  case round =>
    clear HS HW
    obtain ⟨k, hk, hkg, rfl, ⟨u6, rfl⟩, HS, HW⟩ := hrel
    by_cases hlt : k < L
    · obtain ⟨z, hz⟩ : ∃ z, rs[k]? = some z := ⟨_, List.getElem?_eq_getElem (by rw [HL.out]; exact hlt)⟩
      obtain ⟨b, off, rfl, hb, e0, e1, e2, e3, e4⟩ := HC.out k z hz
      have c0 := carry HW.out.1 e0
      have c1 := carry HW.out.1 e1
      have c2 := carry HW.out.1 e2
      have c3 := carry HW.out.1 e3
      have c4 := carry HW.out.1 e4
      have p0 := carry (below_alloc wr (ruC z)) HW.out.2.1
      have p1 := carry (below_alloc wr (ruC z)) HW.out.2.2
      have HZ := Lib.hid hz
      have k0 : (0 : Int) ≤ (k : Int) := by omega
      have k1 : (k : Int) < (L : Int) := by omega
      have hzok := HOK.out z (List.mem_of_getElem? hz)
      have HX := Lib.hid (heap_alloc_new wr (ruC z))
      have HBB : Hid (Below w.heap.size w (wr.alloc (ruC z)) ∧ (wr.alloc (ruC z)).cell? ⟨w.heap.size, 0, none⟩ = some (.int .u32 (p.1 : Int)) ∧ (wr.alloc (ruC z)).cell? ⟨w.heap.size, 1, none⟩ = some (.int .i64 p.2)) := ⟨below_then HW.out.1 (below_alloc _ _), p0, p1⟩
      have HMM := Lib.hid (rmatch_any z p hzok hp hp2 (wr.alloc (ruC z)))
      obtain ⟨pm, ⟨a, n⟩, mn, mx⟩ := z
      dsimp only at *
      clear hz e0 e1 e2 e3 e4 hb hzok HW
      cases hpz : matR (pm, (a, n), mn, mx) p with
      | true =>
        have HM : Hid (pm = q) := by unfold Hid; rw [← HQ.out]; exact (perm_at HZ.out hpz HS.out).symm
        rw [hpz] at HMM
        clear HS HZ hpz
        go_wp2_with fail
        go_at_call 14
        refine HMM.out.mono ?_
        rintro e w1 ⟨rfl, hw1⟩
        have y0 := carry hw1 (cell_of HX.out (rfl : (#[Value.bool pm, .int .u32 (a : Int), .int .i64 n, .int .i64 mn, .int .i64 mx] : Array Value)[0]? = some (.bool pm)))
        have HW1 := Lib.hid (below_then HBB.out.1 hw1)
        clear hw1
        go_wp2
        go_ret
        exact ⟨ret_b HM.out, HW1.out⟩
      | false =>
        have HN : Hid (∀ (j : Nat) (z : Ru), j < k + 1 → rs[j]? = some z → matR z p = false) := fun j z' hj hz' => by
          by_cases e : j = k
          · subst e; have := HZ.out; rw [hz'] at this; cases this; exact hpz
          · exact HS.out j z' (by omega) hz'
        rw [hpz] at HMM
        clear HS HZ hpz
        go_wp2_with fail
        go_at_call 14
        refine HMM.out.mono ?_
        rintro e w1 ⟨rfl, hw1⟩
        have HW1 : Hid (Below w.heap.size w w1 ∧ w1.cell? ⟨w.heap.size, 0, none⟩ = some (.int .u32 (p.1 : Int)) ∧ w1.cell? ⟨w.heap.size, 1, none⟩ = some (.int .i64 p.2)) := ⟨below_then HBB.out.1 hw1, carry hw1 HBB.out.2.1, carry hw1 HBB.out.2.2⟩
        clear hw1
        go_wp2_with fail
        go_roundg (L - (k + 1))
        case measure => omega
        case rel => exact ⟨k + 1, by omega, Nat.le_refl _, by go_num, ⟨_, rfl⟩, HN, HW1⟩
    · have k1 : decide ((k : Int) < (L : Int)) = false := decide_eq_false (by omega)
      have HM : Hid (false = q) := by
        unfold Hid; rw [← HQ.out]
        exact (perm_none fun x hm => by
          obtain ⟨j, hj⟩ := List.getElem?_of_mem hm
          exact HS.out j x (by have := (List.getElem?_eq_some_iff.1 hj).1; have := HL.out; omega) hj).symm
      clear HS
      go_wp2
      go_ret
      exact ⟨ret_b HM.out, HW.out.1⟩
end Go.Proofs.YtiiojkekcnmddaaDoor
