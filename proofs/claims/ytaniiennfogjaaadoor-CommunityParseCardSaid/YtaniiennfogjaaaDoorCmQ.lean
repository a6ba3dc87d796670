/-
  The walk of the reference's Parse.
-/
import Derived.Test.YtaniiennfogjaaaDoorCmT
import Derived.Deep.DeepCutAuto
import Derived.RegionTactic
namespace Go.Proofs.YtaniiennfogjaaaDoor
open Go.RowKit
set_option linter.unusedSimpArgs false
set_option linter.unusedVariables false
set_option maxHeartbeats 2000000
set_option maxRecDepth 100000

theorem rtx_A (w : World) : Calls Tryd.prog 14 #[.int .u32 4294901760] w fun e w' => e = .returned (.string (bs T.nmA)) ∧ Below w.heap.size w w' := by have := rtext_any 4294901760 w (by omega); rwa [tx_A] at this
theorem rtx_B (w : World) : Calls Tryd.prog 14 #[.int .u32 4294967041] w fun e w' => e = .returned (.string (bs T.nmB)) ∧ Below w.heap.size w w' := by have := rtext_any 4294967041 w (by omega); rwa [tx_B] at this
theorem rtx_C (w : World) : Calls Tryd.prog 14 #[.int .u32 4294967042] w fun e w' => e = .returned (.string (bs T.nmC)) ∧ Below w.heap.size w w' := by have := rtext_any 4294967042 w (by omega); rwa [tx_C] at this
theorem rtx_D (w : World) : Calls Tryd.prog 14 #[.int .u32 4294967043] w fun e w' => e = .returned (.string (bs T.nmD)) ∧ Below w.heap.size w w' := by have := rtext_any 4294967043 w (by omega); rwa [tx_D] at this
theorem rd_dig0 {c : UInt8} {r : List UInt8} {a b : Nat} (h1 : 48 ≤ c.toNat) (h2 : c.toNat ≤ 57) (ha : a ≤ 65535) : T.rdR (c :: r) a b false = T.rdR r (10 * a + (c.toNat - 48)) b false := by
  rw [T.rdR, if_pos ⟨(T.isD_iff c).2 ⟨h1, h2⟩, ha⟩]; rfl
theorem rd_dig1 {c : UInt8} {r : List UInt8} {a b : Nat} (h1 : 48 ≤ c.toNat) (h2 : c.toNat ≤ 57) (ha : b ≤ 65535) : T.rdR (c :: r) a b true = T.rdR r a (10 * b + (c.toNat - 48)) true := by
  rw [T.rdR, if_pos ⟨(T.isD_iff c).2 ⟨h1, h2⟩, ha⟩]; rfl
theorem rd_col {c : UInt8} {r : List UInt8} {a b : Nat} (h : c.toNat = 58) : T.rdR (c :: r) a b false = T.rdR r a b true := by
  have hc : c = 58 := UInt8.toNat_inj.1 h
  subst hc
  rw [T.rdR, if_neg (fun h => absurd h.1 (by decide)), if_pos rfl]
theorem rd_no0 {c : UInt8} {r : List UInt8} {a b : Nat} (h1 : ¬ (48 ≤ c.toNat ∧ c.toNat ≤ 57 ∧ a ≤ 65535)) (h2 : c.toNat ≠ 58) : T.rdR (c :: r) a b false = none := by
  rw [T.rdR, if_neg (fun h => h1 ⟨((T.isD_iff c).1 h.1).1, ((T.isD_iff c).1 h.1).2, h.2⟩), if_neg (fun e => h2 (by rw [e]; rfl))]
theorem rd_no1 {c : UInt8} {r : List UInt8} {a b : Nat} (h1 : ¬ (48 ≤ c.toNat ∧ c.toNat ≤ 57 ∧ b ≤ 65535)) : T.rdR (c :: r) a b true = none := by
  rw [T.rdR, if_neg (fun h => h1 ⟨((T.isD_iff c).1 h.1).1, ((T.isD_iff c).1 h.1).2, h.2⟩)]
theorem rparse_any (l : List UInt8) (w : World) (hl : l.length ≤ 140737488355328) :
    Calls Tryd.prog 15 #[.string (bs l)] w fun e w' => ∃ (c : Nat) (er : Int), e = .returned (.tuple #[.int .u32 (c : Int), .int .i64 er]) ∧ T.PrC l c er ∧ Below w.heap.size w w' := by
  have sl : (bs l).toList = l := by rw [ByteArray.toList_eq, bs_data]
  have sA : (bs T.nmA).toList = T.nmA := by rw [ByteArray.toList_eq, bs_data]
  have sB : (bs T.nmB).toList = T.nmB := by rw [ByteArray.toList_eq, bs_data]
  have sC : (bs T.nmC).toList = T.nmC := by rw [ByteArray.toList_eq, bs_data]
  have sD : (bs T.nmD).toList = T.nmD := by rw [ByteArray.toList_eq, bs_data]
  have hsz : (bs l).size = l.length := bs_size l
  have hgt : ∀ k (h : k < (bs l).size), l.drop k = (bs l)[k] :: l.drop (k + 1) := fun k h => by
    have := drop_at (bs l) k h; rwa [bs_data] at this
  have HGT := Lib.hid hgt
  clear hgt
  generalize bs l = S at *
  have HAL : Hid (Below w.heap.size w (w.alloc (.cells #[.int .u32 4294901760, .int .u32 4294967041, .int .u32 4294967042, .int .u32 4294967043] 27))) := below_alloc _ _
  have HX : Hid ((w.alloc (.cells #[.int .u32 4294901760, .int .u32 4294967041, .int .u32 4294967042, .int .u32 4294967043] 27)).heap[w.heap.size]? = some (.cells #[.int .u32 4294901760, .int .u32 4294967041, .int .u32 4294967042, .int .u32 4294967043] 27 (0, 0))) := heap_alloc_new _ _
  by_cases h1 : l = T.nmA
  · have HP : Hid (T.PrC l 4294901760 0) := T.parse_yes (by omega) (by rw [tx_A, h1])
    have y : (T.nmA == l) = true := by rw [h1]; simp
    clear h1
    go_enter Tryd.func15, Tryd.ntmps15
    go_wp2_with fail
    refine wp_loop_rounds 1 ?_
    rw [rounds_succ]
    have q0 : (w.alloc (.cells #[.int .u32 4294901760, .int .u32 4294967041, .int .u32 4294967042, .int .u32 4294967043] 27)).cell? ⟨w.heap.size, 0, none⟩ = some (.int .u32 4294901760) := cell_of HX.out rfl
    go_wp2_with fail
    go_at_call 14
    refine (rtx_A _).mono ?_
    rintro e w1 ⟨rfl, hb⟩
    have HB1 := Lib.hid hb
    clear hb q0
    go_wp2_with fail
    go_ret2
    exact ⟨4294901760, 0, rfl, HP.out, below_then HAL.out HB1.out⟩
  by_cases h2 : l = T.nmB
  · have HP : Hid (T.PrC l 4294967041 0) := T.parse_yes (by omega) (by rw [tx_B, h2])
    have y : (T.nmB == l) = true := by rw [h2]; simp
    have g1 : (T.nmA == l) = false := by simpa using fun e => h1 (Eq.symm e)
    clear h2
    go_enter Tryd.func15, Tryd.ntmps15
    go_wp2_with fail
    refine wp_loop_rounds 2 ?_
    rw [rounds_succ]
    have q0 : (w.alloc (.cells #[.int .u32 4294901760, .int .u32 4294967041, .int .u32 4294967042, .int .u32 4294967043] 27)).cell? ⟨w.heap.size, 0, none⟩ = some (.int .u32 4294901760) := cell_of HX.out rfl
    go_wp2_with fail
    go_at_call 14
    refine (rtx_A _).mono ?_
    rintro e w1 ⟨rfl, hb⟩
    have HB1 := Lib.hid hb
    clear hb q0
    go_wp2_with fail
    rw [rounds_succ]
    have q1 : w1.cell? ⟨w.heap.size, 1, none⟩ = some (.int .u32 4294967041) := carry HB1.out (cell_of HX.out rfl)
    go_wp2_with fail
    go_at_call 14
    refine (rtx_B _).mono ?_
    rintro e w2 ⟨rfl, hb⟩
    have HB2 := Lib.hid (below_then HB1.out hb)
    clear hb q1
    go_wp2_with fail
    go_ret2
    exact ⟨4294967041, 0, rfl, HP.out, below_then HAL.out HB2.out⟩
  by_cases h3 : l = T.nmC
  · have HP : Hid (T.PrC l 4294967042 0) := T.parse_yes (by omega) (by rw [tx_C, h3])
    have y : (T.nmC == l) = true := by rw [h3]; simp
    have g1 : (T.nmA == l) = false := by simpa using fun e => h1 (Eq.symm e)
    have g2 : (T.nmB == l) = false := by simpa using fun e => h2 (Eq.symm e)
    clear h3
    go_enter Tryd.func15, Tryd.ntmps15
    go_wp2_with fail
    refine wp_loop_rounds 3 ?_
    rw [rounds_succ]
    have q0 : (w.alloc (.cells #[.int .u32 4294901760, .int .u32 4294967041, .int .u32 4294967042, .int .u32 4294967043] 27)).cell? ⟨w.heap.size, 0, none⟩ = some (.int .u32 4294901760) := cell_of HX.out rfl
    go_wp2_with fail
    go_at_call 14
    refine (rtx_A _).mono ?_
    rintro e w1 ⟨rfl, hb⟩
    have HB1 := Lib.hid hb
    clear hb q0
    go_wp2_with fail
    rw [rounds_succ]
    have q1 : w1.cell? ⟨w.heap.size, 1, none⟩ = some (.int .u32 4294967041) := carry HB1.out (cell_of HX.out rfl)
    go_wp2_with fail
    go_at_call 14
    refine (rtx_B _).mono ?_
    rintro e w2 ⟨rfl, hb⟩
    have HB2 := Lib.hid (below_then HB1.out hb)
    clear hb q1
    go_wp2_with fail
    rw [rounds_succ]
    have q2 : w2.cell? ⟨w.heap.size, 2, none⟩ = some (.int .u32 4294967042) := carry HB2.out (cell_of HX.out rfl)
    go_wp2_with fail
    go_at_call 14
    refine (rtx_C _).mono ?_
    rintro e w3 ⟨rfl, hb⟩
    have HB3 := Lib.hid (below_then HB2.out hb)
    clear hb q2
    go_wp2_with fail
    go_ret2
    exact ⟨4294967042, 0, rfl, HP.out, below_then HAL.out HB3.out⟩
  by_cases h4 : l = T.nmD
  · have HP : Hid (T.PrC l 4294967043 0) := T.parse_yes (by omega) (by rw [tx_D, h4])
    have y : (T.nmD == l) = true := by rw [h4]; simp
    have g1 : (T.nmA == l) = false := by simpa using fun e => h1 (Eq.symm e)
    have g2 : (T.nmB == l) = false := by simpa using fun e => h2 (Eq.symm e)
    have g3 : (T.nmC == l) = false := by simpa using fun e => h3 (Eq.symm e)
    clear h4
    go_enter Tryd.func15, Tryd.ntmps15
    go_wp2_with fail
    refine wp_loop_rounds 4 ?_
    rw [rounds_succ]
    have q0 : (w.alloc (.cells #[.int .u32 4294901760, .int .u32 4294967041, .int .u32 4294967042, .int .u32 4294967043] 27)).cell? ⟨w.heap.size, 0, none⟩ = some (.int .u32 4294901760) := cell_of HX.out rfl
    go_wp2_with fail
    go_at_call 14
    refine (rtx_A _).mono ?_
    rintro e w1 ⟨rfl, hb⟩
    have HB1 := Lib.hid hb
    clear hb q0
    go_wp2_with fail
    rw [rounds_succ]
    have q1 : w1.cell? ⟨w.heap.size, 1, none⟩ = some (.int .u32 4294967041) := carry HB1.out (cell_of HX.out rfl)
    go_wp2_with fail
    go_at_call 14
    refine (rtx_B _).mono ?_
    rintro e w2 ⟨rfl, hb⟩
    have HB2 := Lib.hid (below_then HB1.out hb)
    clear hb q1
    go_wp2_with fail
    rw [rounds_succ]
    have q2 : w2.cell? ⟨w.heap.size, 2, none⟩ = some (.int .u32 4294967042) := carry HB2.out (cell_of HX.out rfl)
    go_wp2_with fail
    go_at_call 14
    refine (rtx_C _).mono ?_
    rintro e w3 ⟨rfl, hb⟩
    have HB3 := Lib.hid (below_then HB2.out hb)
    clear hb q2
    go_wp2_with fail
    rw [rounds_succ]
    have q3 : w3.cell? ⟨w.heap.size, 3, none⟩ = some (.int .u32 4294967043) := carry HB3.out (cell_of HX.out rfl)
    go_wp2_with fail
    go_at_call 14
    refine (rtx_D _).mono ?_
    rintro e w4 ⟨rfl, hb⟩
    have HB4 := Lib.hid (below_then HB3.out hb)
    clear hb q3
    go_wp2_with fail
    go_ret2
    exact ⟨4294967043, 0, rfl, HP.out, below_then HAL.out HB4.out⟩
  have g1 : (T.nmA == l) = false := by simpa using fun e => h1 (Eq.symm e)
  have g2 : (T.nmB == l) = false := by simpa using fun e => h2 (Eq.symm e)
  have g3 : (T.nmC == l) = false := by simpa using fun e => h3 (Eq.symm e)
  have g4 : (T.nmD == l) = false := by simpa using fun e => h4 (Eq.symm e)
  have HNO : Hid (∀ (h : ∀ a b, T.rdR l 0 0 false = some (a, b) → a ≤ 65535 → b ≤ 65535 → T.txC (a * 65536 + b) ≠ l), T.PrC l 0 2) := fun h => T.rparse_no h1 h2 h3 h4 h
  clear h1 h2 h3 h4
  go_enter Tryd.func15, Tryd.ntmps15
  go_wp2_with fail
  refine wp_loop_rounds 5 ?_
  rw [rounds_succ]
  have q0 : (w.alloc (.cells #[.int .u32 4294901760, .int .u32 4294967041, .int .u32 4294967042, .int .u32 4294967043] 27)).cell? ⟨w.heap.size, 0, none⟩ = some (.int .u32 4294901760) := cell_of HX.out rfl
  go_wp2_with fail
  go_at_call 14
  refine (rtx_A _).mono ?_
  rintro e w1 ⟨rfl, hb⟩
  have HB1 := Lib.hid hb
  clear hb q0
  go_wp2_with fail
  rw [rounds_succ]
  have q1 : w1.cell? ⟨w.heap.size, 1, none⟩ = some (.int .u32 4294967041) := carry HB1.out (cell_of HX.out rfl)
  go_wp2_with fail
  go_at_call 14
  refine (rtx_B _).mono ?_
  rintro e w2 ⟨rfl, hb⟩
  have HB2 := Lib.hid (below_then HB1.out hb)
  clear hb q1
  go_wp2_with fail
  rw [rounds_succ]
  have q2 : w2.cell? ⟨w.heap.size, 2, none⟩ = some (.int .u32 4294967042) := carry HB2.out (cell_of HX.out rfl)
  go_wp2_with fail
  go_at_call 14
  refine (rtx_C _).mono ?_
  rintro e w3 ⟨rfl, hb⟩
  have HB3 := Lib.hid (below_then HB2.out hb)
  clear hb q2
  go_wp2_with fail
  rw [rounds_succ]
  have q3 : w3.cell? ⟨w.heap.size, 3, none⟩ = some (.int .u32 4294967043) := carry HB3.out (cell_of HX.out rfl)
  go_wp2_with fail
  go_at_call 14
  refine (rtx_D _).mono ?_
  rintro e w4 ⟨rfl, hb⟩
  have HB4 := Lib.hid (below_then HB3.out hb)
  clear hb q3
  go_wp2_with fail
  rw [rounds_succ]
  go_wp2_with fail
  have HBX : Hid (Below w.heap.size w (w4.alloc (.cells #[.int .i64 0, .int .i64 0] 54))) := below_then (below_then HAL.out HB4.out) (below_alloc _ _)
  have HPX : Hid ((w4.alloc (.cells #[.int .i64 0, .int .i64 0] 54)).heap[w4.heap.size]? = some (.cells #[.int .i64 ((0 : Nat) : Int), .int .i64 ((0 : Nat) : Int)] 54 (0, 0))) := heap_alloc_new _ _
  have HGB : Hid (w.heap.size ≤ w4.heap.size) := (below_then HAL.out HB4.out).size
  obtain ⟨G, hG⟩ : ∃ G, w4.heap.size = G := ⟨_, rfl⟩
  rw [hG] at HPX HGB ⊢
  have HI : Hid (T.rdR l 0 0 false = T.rdR (l.drop 0) 0 0 false) := rfl
  generalize (w4.alloc (.cells #[.int .i64 0, .int .i64 0] 54)) = W0 at *
  clear hG HB1 HB2 HB3 HB4 HAL HX g1 g2 g3 g4 sA sB sC sD
  obtain ⟨n, hn⟩ : ∃ n, S.size = n := ⟨_, rfl⟩
  have HSZ := Lib.hid hn
  go_loopg [7, 8, 29, 58] S.size (fun g s7 s8 s29 s58 wr => ∃ (k a b : Nat) (q : Bool), k ≤ S.size ∧ S.size - k ≤ g ∧ ((q = false ∧ s7 = .int .i64 0) ∨ (q = true ∧ s7 = .int .i64 1)) ∧ s8 = .int .i64 (k : Int) ∧ (∃ q, q = s29) ∧ (∃ q, q = s58) ∧ a ≤ 655359 ∧ b ≤ 655359 ∧ Hid (T.rdR l 0 0 false = T.rdR (l.drop k) a b q) ∧ Hid (Below w.heap.size w wr) ∧ Hid (wr.heap[G]? = some (.cells #[.int .i64 (a : Int), .int .i64 (b : Int)] 54 (0, 0))))
  case atStart => exact ⟨0, 0, 0, false, by omega, by omega, .inl ⟨rfl, rfl⟩, rfl, ⟨_, rfl⟩, ⟨_, rfl⟩, by omega, by omega, HI, HBX, HPX⟩
  case round =>
    clear HBX HPX HI
    obtain ⟨k, a, b, q, hk, hkg, hq, rfl, ⟨u29, rfl⟩, ⟨u58, rfl⟩, ha9, hb9, HR, HB, HP⟩ := hrel
    have c0 : wr.cell? ⟨G, 0, none⟩ = some (.int .i64 (a : Int)) := cell_of HP.out rfl
    have c1 : wr.cell? ⟨G, 1, none⟩ = some (.int .i64 (b : Int)) := cell_of HP.out rfl
    have fz0 : wr.frozen? ⟨G, 0, none⟩ = false := free_of HP.out _
    have fz1 : wr.frozen? ⟨G, 1, none⟩ = false := free_of HP.out _
    by_cases hlt : k < S.size
    · have HG := Lib.hid (HGT.out k hlt)
      rcases hq with ⟨rfl, rfl⟩ | ⟨rfl, rfl⟩
      · by_cases h48 : 48 ≤ S[k].toNat
        · by_cases h57 : S[k].toNat ≤ 57
          · have t58 : ((S[k].toNat : Int) == 58) = false := by simp; omega
            by_cases hv : a ≤ 65535
            · have hv1 : (a : Int) ≤ 65535 := by omega
              have HN : Hid (T.rdR l 0 0 false = T.rdR (l.drop (k + 1)) (10 * a + (S[k].toNat - 48)) (b) false) := by unfold Hid; rw [HR.out, HG.out]; exact rd_dig0 h48 h57 hv
              have hin : (10 : Int) * (a : Int) + ((S[k].toNat : Int) - 48) = ((10 * a + (S[k].toNat - 48) : Nat) : Int) := by omega
              have HH : Hid (Below w.heap.size w (wr.setCell ⟨G, 0, none⟩ (.int .i64 (10 * (a : Int) + ((S[k].toNat : Int) - 48)))).drew ∧ (wr.setCell ⟨G, 0, none⟩ (.int .i64 (10 * (a : Int) + ((S[k].toNat : Int) - 48)))).drew.heap[G]? = some (.cells #[.int .i64 ((10 * a + (S[k].toNat - 48) : Nat) : Int), .int .i64 ((b : Nat) : Int)] 54 (0, 0))) := by
                rw [hin]
                exact ⟨below_drewN (HB.out.setCell (p := ⟨G, 0, none⟩) HGB.out _) 1, by
                  show (wr.setCell ⟨G, 0, none⟩ _).heap[G]? = _
                  rw [heap_set_eq HP.out]; rfl⟩
              have hz : (10 * a + (S[k].toNat - 48)) ≤ 655359 := by omega
              clear HR HG HB HP hin
              go_wp2_with fail
              go_region
              go_wp2_with fail
              go_roundg (S.size - (k + 1))
              case measure => omega
              case rel => exact ⟨k + 1, 10 * a + (S[k].toNat - 48), b, false, by omega, Nat.le_refl _, .inl ⟨rfl, rfl⟩, by go_num, ⟨_, rfl⟩, ⟨_, rfl⟩, hz, hb9, HN, HH.out.1, HH.out.2⟩
            · have hv1 : ¬ (a : Int) ≤ 65535 := by omega
              have HN : Hid (T.rdR l 0 0 false = none) := by unfold Hid; rw [HR.out, HG.out]; exact rd_no0 (fun h => hv h.2.2) (by omega)
              have HF : Hid (T.PrC l 0 2) := HNO.out (fun a b h => by rw [HN.out] at h; cases h)
              clear HR HG HN HNO HGT HP
              go_wp2
              go_ret2
              exact ⟨0, 2, rfl, HF.out, HB.out⟩
          · by_cases h58 : S[k].toNat = 58
            · have t58 : ((S[k].toNat : Int) == 58) = true := by simp; omega
              have HN : Hid (T.rdR l 0 0 false = T.rdR (l.drop (k + 1)) a b true) := by unfold Hid; rw [HR.out, HG.out]; exact rd_col h58
              clear HR HG
              go_wp2_with fail
              go_roundg (S.size - (k + 1))
              case measure => omega
              case rel => exact ⟨k + 1, a, b, true, by omega, Nat.le_refl _, .inr ⟨rfl, rfl⟩, by go_num, ⟨_, rfl⟩, ⟨_, rfl⟩, ha9, hb9, HN, HB, HP⟩
            · have t58 : ((S[k].toNat : Int) == 58) = false := by simp; omega
              have HN : Hid (T.rdR l 0 0 false = none) := by unfold Hid; rw [HR.out, HG.out]; exact rd_no0 (fun h => h57 h.2.1) h58
              have HF : Hid (T.PrC l 0 2) := HNO.out (fun a b h => by rw [HN.out] at h; cases h)
              clear HR HG HN HNO HGT HP
              go_wp2
              go_ret2
              exact ⟨0, 2, rfl, HF.out, HB.out⟩
        · have t58 : ((S[k].toNat : Int) == 58) = false := by simp; omega
          have HN : Hid (T.rdR l 0 0 false = none) := by unfold Hid; rw [HR.out, HG.out]; exact rd_no0 (fun h => h48 h.1) (by omega)
          have HF : Hid (T.PrC l 0 2) := HNO.out (fun a b h => by rw [HN.out] at h; cases h)
          clear HR HG HN HNO HGT HP
          go_wp2
          go_ret2
          exact ⟨0, 2, rfl, HF.out, HB.out⟩
      · by_cases h48 : 48 ≤ S[k].toNat
        · by_cases h57 : S[k].toNat ≤ 57
          · have t58 : ((S[k].toNat : Int) == 58) = false := by simp; omega
            by_cases hv : b ≤ 65535
            · have hv1 : (b : Int) ≤ 65535 := by omega
              have HN : Hid (T.rdR l 0 0 false = T.rdR (l.drop (k + 1)) (a) (10 * b + (S[k].toNat - 48)) true) := by unfold Hid; rw [HR.out, HG.out]; exact rd_dig1 h48 h57 hv
              have hin : (10 : Int) * (b : Int) + ((S[k].toNat : Int) - 48) = ((10 * b + (S[k].toNat - 48) : Nat) : Int) := by omega
              have HH : Hid (Below w.heap.size w (wr.setCell ⟨G, 1, none⟩ (.int .i64 (10 * (b : Int) + ((S[k].toNat : Int) - 48)))).drew ∧ (wr.setCell ⟨G, 1, none⟩ (.int .i64 (10 * (b : Int) + ((S[k].toNat : Int) - 48)))).drew.heap[G]? = some (.cells #[.int .i64 ((a : Nat) : Int), .int .i64 ((10 * b + (S[k].toNat - 48) : Nat) : Int)] 54 (0, 0))) := by
                rw [hin]
                exact ⟨below_drewN (HB.out.setCell (p := ⟨G, 1, none⟩) HGB.out _) 1, by
                  show (wr.setCell ⟨G, 1, none⟩ _).heap[G]? = _
                  rw [heap_set_eq HP.out]; rfl⟩
              have hz : (10 * b + (S[k].toNat - 48)) ≤ 655359 := by omega
              clear HR HG HB HP hin
              go_wp2_with fail
              go_region
              go_wp2_with fail
              go_roundg (S.size - (k + 1))
              case measure => omega
              case rel => exact ⟨k + 1, a, 10 * b + (S[k].toNat - 48), true, by omega, Nat.le_refl _, .inr ⟨rfl, rfl⟩, by go_num, ⟨_, rfl⟩, ⟨_, rfl⟩, ha9, hz, HN, HH.out.1, HH.out.2⟩
            · have hv1 : ¬ (b : Int) ≤ 65535 := by omega
              have HN : Hid (T.rdR l 0 0 false = none) := by unfold Hid; rw [HR.out, HG.out]; exact rd_no1 (fun h => hv h.2.2)
              have HF : Hid (T.PrC l 0 2) := HNO.out (fun a b h => by rw [HN.out] at h; cases h)
              clear HR HG HN HNO HGT HP
              go_wp2
              go_ret2
              exact ⟨0, 2, rfl, HF.out, HB.out⟩
          · by_cases h58 : S[k].toNat = 58
            · have t58 : ((S[k].toNat : Int) == 58) = true := by simp; omega
              have HN : Hid (T.rdR l 0 0 false = none) := by unfold Hid; rw [HR.out, HG.out]; exact rd_no1 (fun h => h57 h.2.1)
              have HF : Hid (T.PrC l 0 2) := HNO.out (fun a b h => by rw [HN.out] at h; cases h)
              clear HR HG HN HNO HGT HP
              go_wp2
              go_ret2
              exact ⟨0, 2, rfl, HF.out, HB.out⟩
            · have t58 : ((S[k].toNat : Int) == 58) = false := by simp; omega
              have HN : Hid (T.rdR l 0 0 false = none) := by unfold Hid; rw [HR.out, HG.out]; exact rd_no1 (fun h => h57 h.2.1)
              have HF : Hid (T.PrC l 0 2) := HNO.out (fun a b h => by rw [HN.out] at h; cases h)
              clear HR HG HN HNO HGT HP
              go_wp2
              go_ret2
              exact ⟨0, 2, rfl, HF.out, HB.out⟩
        · have t58 : ((S[k].toNat : Int) == 58) = false := by simp; omega
          have HN : Hid (T.rdR l 0 0 false = none) := by unfold Hid; rw [HR.out, HG.out]; exact rd_no1 (fun h => h48 h.1)
          have HF : Hid (T.PrC l 0 2) := HNO.out (fun a b h => by rw [HN.out] at h; cases h)
          clear HR HG HN HNO HGT HP
          go_wp2
          go_ret2
          exact ⟨0, 2, rfl, HF.out, HB.out⟩
    · have hkl : k = S.size := by omega
      subst hkl
      have HE : Hid (T.rdR l 0 0 false = some (a, b)) := by unfold Hid; rw [HR.out, List.drop_of_length_le (by omega)]; cases q <;> rfl
      clear HR
      have HS : Hid (∀ e', (∀ a' b', T.rdR l 0 0 false = some (a', b') → a' ≤ 65535 → b' ≤ 65535 → T.txC (a' * 65536 + b') ≠ l) → e' = (2 : Int) → T.PrC l 0 e') := fun e' h1 h2 => by rw [h2]; exact HNO.out h1
      clear hq
      by_cases hva : a ≤ 65535
      · have x1 : ¬ (65535 : Int) < (a : Int) := by omega
        have x1' : decide ((65535 : Int) < (a : Int)) = false := decide_eq_false x1
        by_cases hvb : b ≤ 65535
        · have x2 : ¬ (65535 : Int) < (b : Int) := by omega
          have x2' : decide ((65535 : Int) < (b : Int)) = false := decide_eq_false x2
          have u1 : IntKind.u32.wrap (a : Int) = (a : Int) := IntWalk.u32_in _ (by constructor <;> omega)
          have u2 : IntKind.u32.wrap (b : Int) = (b : Int) := IntWalk.u32_in _ (by constructor <;> omega)
          have u3 : IntKind.u32.wrap ((a : Int) * 65536) = (a : Int) * 65536 := IntWalk.u32_in _ (by constructor <;> omega)
          have u4 : IntKind.u32.wrap ((a : Int) * 65536 + (b : Int)) = ((a * 65536 + b : Nat) : Int) := by rw [IntWalk.u32_in _ (by constructor <;> omega)]; omega
          have u5 : (a : Int) * 65536 + (b : Int) = ((a * 65536 + b : Nat) : Int) := by omega
          have HO : Hid (T.txC (a * 65536 + b) ≠ l → T.PrC l 0 2) := fun h => HNO.out (fun a' b' h' _ _ => by
            rw [HE.out] at h'
            cases h'
            exact h)
          have hc32 : a * 65536 + b < 4294967296 := by omega
          have HTX : Hid (∀ W, Calls Tryd.prog 14 #[.int .u32 ((a : Int) * 65536 + (b : Int))] W fun e w' => e = .returned (.string (bs (T.txC (a * 65536 + b)))) ∧ Below W.heap.size W w') := fun W => by
            rw [u5]; exact rtext_any _ W hc32
          have HY : Hid (T.txC (a * 65536 + b) = l → T.PrC l (a * 65536 + b) 0) := fun h => T.parse_yes hc32 h
          have st : (bs (T.txC (a * 65536 + b))).toList = T.txC (a * 65536 + b) := by rw [ByteArray.toList_eq, bs_data]
          have HV : Hid ((a : Int) * 65536 + (b : Int) = ((a * 65536 + b : Nat) : Int)) := u5
          clear u4 u5 HS HE HNO HGT HP
          generalize bs (T.txC (a * 65536 + b)) = TS at *
          generalize T.txC (a * 65536 + b) = tl at *
          by_cases ht : tl = l
          · subst ht
            have HF := Lib.hid (HY.out rfl)
            have t1 : (tl != tl) = false := by simp
            clear HO HY
            go_wp2_with fail
            go_at_call 14
            refine (HTX.out _).mono ?_
            rintro e w9 ⟨rfl, hb⟩
            have HF1 := Lib.hid (below_then HB.out hb)
            clear hb
            go_wp2_with fail
            go_ret2
            exact ⟨a * 65536 + b, 0, by rw [← HV.out] <;> rfl, HF.out, HF1.out⟩
          · have HF := Lib.hid (HO.out ht)
            have t1 : (tl != l) = true := by simpa using ht
            have t2 : (tl == l) = false := by simpa using ht
            clear HO HY ht
            go_wp2_with fail
            go_at_call 14
            refine (HTX.out _).mono ?_
            rintro e w9 ⟨rfl, hb⟩
            have HF1 := Lib.hid (below_then HB.out hb)
            clear hb
            go_wp2_with fail
            go_ret2
            exact ⟨0, 2, rfl, HF.out, HF1.out⟩
        · have x2 : (65535 : Int) < (b : Int) := by omega
          have HF : Hid (T.PrC l 0 2) := HNO.out (fun a' b' h' _ h2 => by rw [HE.out] at h'; cases h'; exact absurd h2 hvb)
          clear HS HE HNO HGT HP
          go_wp2
          go_ret2
          exact ⟨0, 2, rfl, HF.out, HB.out⟩
      · have x1 : (65535 : Int) < (a : Int) := by omega
        have HF : Hid (T.PrC l 0 2) := HNO.out (fun a' b' h' h1 _ => by rw [HE.out] at h'; cases h'; exact absurd h1 hva)
        clear HS HE HNO HGT HP
        go_wp2
        go_ret2
        exact ⟨0, 2, rfl, HF.out, HB.out⟩
end Go.Proofs.YtaniiennfogjaaaDoor
