/-
  The walk of the library's Repeat at one number.
-/
import Derived.Test.YtmlpbhankgojpaaSpMem
import Derived.Test.YtmlpbhankgojpaaSpIns
import Derived.Deep.DeepCutAuto
namespace Go.Proofs.Ytmlpbhankgojpaa
open Go.RowKit HM SP
set_option linter.unusedSimpArgs false
set_option linter.unusedVariables false
set_option maxHeartbeats 4000000
set_option maxRecDepth 100000

theorem fill_split {n k m : Nat} (h1 : 0 < k) (h2 : k < n) (hm : m = min k (n - k)) : ints (fill n k) = (ints (fill k k) ++ ints (List.replicate m 0)) ++ ints (List.replicate (n - k - m) 0) ∧ ints (fill n (k + m)) = (ints (fill k k) ++ ints (List.replicate m (-1))) ++ ints (List.replicate (n - k - m) 0) := by
  unfold fill
  rw [← ints_app, ← ints_app, ← ints_app, ← ints_app]
  constructor
  · congr 1
    have hm2 : m + (n - k - m) = n - k := by omega
    have hrep := List.replicate_append_replicate (n := m) (m := n - k - m) (a := (0 : Int))
    rw [hm2] at hrep
    rw [← hrep]
    simp
  · congr 1
    have hrep := List.replicate_append_replicate (n := k) (m := m) (a := (-1 : Int))
    rw [show n - (k + m) = n - k - m by omega, ← hrep]
    simp
theorem setCells_below' {B : Nat} {w : World} {blk : Nat} (hB : B ≤ blk) : ∀ (vs : List Value) (s : Nat) (W : World), Below B w W → Below B w (W.setCells blk s vs)
  | [], _, _, h => h
  | v :: vs, s, W, h => setCells_below' hB vs (s + 1) _ (h.setCell hB _)
theorem repeat_any (w : World) (b n : Nat) (hn : 0 < n) (hn2 : n ≤ 128) (hc : w.cell? ⟨b, 0, none⟩ = some (.int .i64 (-1))) (hb : b < w.heap.size) :
    Calls Try.prog 55 #[.slice (some ⟨b, 0, none⟩) 1 1, .int .i64 (n : Int)] w fun e w' => ∃ g, e = .returned (.slice (some ⟨g, 0, none⟩) n n) ∧ w.heap.size ≤ g ∧ w'.ownsRow 0 3 1 (.slice (some ⟨g, 0, none⟩) n n) n (ints (List.replicate n (-1))) ∧ Below w.heap.size w w' := by
  have HM : Hid (∀ W, Calls Try.prog 64 #[.int .u64 1, .int .u64 (n : Int)] W fun e w' => e = .returned (.tuple #[.int .u64 0, .int .u64 (n : Int)]) ∧ w' = W) := fun W => by
    have := Try.bits_Mul 1 n (by omega) (by omega) W
    refine Calls.mono this ?_
    rintro e w' ⟨rfl, rfl⟩
    refine ⟨?_, rfl⟩
    rw [Nat.one_mul, show n / 18446744073709551616 = 0 by omega, show n % 18446744073709551616 = n by omega]; rfl
  have hmk := make_ints n (by omega)
  have n0 : (0 : Int) ≤ (n : Int) := by omega
  have n1 : ¬ (n : Int) < 0 := by omega
  have n2 : ¬ (9223372036854775807 : Int) < (n : Int) := by omega
  have HC := Lib.hid hc
  have hsz : ((Try.prog.info? 3).map (·.size)) = some 1 := by
    obtain ⟨i0, hi, h0, h1, h2⟩ := info_parts info3
    rw [hi]; simp [h1]
  have hrow0 : RowC (w.alloc (.cells (madeCells #[.int .i64 0] n) 3)) w.heap.size (ints (fill n 0)) := by
    obtain ⟨_, sp, h1, h2, _⟩ := own_rowC (r := List.replicate n 0) (made_row w n (by omega) rfl)
    have : sp = [] := by
      rw [List.length_append, ints_len, List.length_replicate] at h2
      exact List.length_eq_zero_iff.1 (by omega)
    subst this
    rw [List.append_nil] at h1
    simpa [fill] using h1
  have hrow1 : RowC ((w.alloc (.cells (madeCells #[.int .i64 0] n) 3)).setCells w.heap.size 0 [.int .i64 (-1)]) w.heap.size (ints (fill n 1)) := by
    obtain ⟨m, rfl⟩ : ∃ m, n = m + 1 := ⟨n - 1, by omega⟩
    have := RowC.sets [.int .i64 (-1)] (a := []) (b := [.int .i64 0]) (c := ints (List.replicate m 0)) rfl (by simpa [fill, ints, List.replicate_succ] using hrow0)
    simpa [fill, ints] using this
  have hcp : ∀ ty, (Builtin.copy_ #[25, 25] ty #[.slice (some ⟨w.heap.size, 0, none⟩) n n, .slice (some ⟨b, 0, none⟩) 1 1]).run Try.prog (w.alloc (.cells (madeCells #[.int .i64 0] n) 3)) = .ok (goInt 1) ((w.alloc (.cells (madeCells #[.int .i64 0] n) 3)).setCells w.heap.size 0 [.int .i64 (-1)]) := fun ty => by
    have := run_copy_cells (P := Try.prog) (w.alloc (.cells (madeCells #[.int .i64 0] n) 3)) 25 25 ty 3 w.heap.size 0 n n ⟨b, 0, none⟩ 1 1 [.int .i64 (-1)] Try.underlying25 hsz (by simp [Nat.min_def]; omega) (fun j v hj => ?_) (fun j hj => ?_) (fun j hj => hrow0.free _) (fun v hv => by simp at hv; subst hv; rfl)
    · simpa using this
    · have hj1 : j = 0 := by have := (List.getElem?_eq_some_iff.1 hj).1; simpa using this
      subst hj1
      rw [Addr.add_lit]
      show (w.alloc _).cell? ⟨b, 0, none⟩ = _
      rw [(below_alloc w _).cell hb, hc]; simpa using hj
    · rw [hrow0.cell, List.getElem?_eq_getElem (by rw [ints_len, fill_len (by omega)]; simp at hj; omega)]; rfl
  have HB : Hid (RowC ((w.alloc (.cells (madeCells #[.int .i64 0] n) 3)).setCells w.heap.size 0 [.int .i64 (-1)]) w.heap.size (ints (fill n 1)) ∧ Below w.heap.size w ((w.alloc (.cells (madeCells #[.int .i64 0] n) 3)).setCells w.heap.size 0 [.int .i64 (-1)])) := ⟨hrow1, setCells_below' (Nat.le_refl _) _ _ _ (below_alloc _ _)⟩
  clear hc hrow0 hrow1
  go_enter Try.func55, Try.ntmps55
  go_wp2_with (first
    | (go_at_call 64; refine (HM.out _).mono ?_; rintro e w1 ⟨rfl, rfl⟩)
    | (at_builtin; refine wpList_copy_runI _ rfl _ _ 25 25 rfl _ _ rfl rfl (hcp _) ?_))
  generalize (w1.alloc (.cells (madeCells #[.int .i64 0] n) 3)).setCells w1.heap.size 0 [.int .i64 (-1)] = W at *
  go_loopg [8] n (fun g s8 wr => ∃ k : Nat, 0 < k ∧ k ≤ n ∧ n - k ≤ g ∧ s8 = .int .i64 (k : Int) ∧ Hid (RowC wr w1.heap.size (ints (fill n k)) ∧ Below w1.heap.size w1 wr))
  case atStart => exact ⟨1, by omega, by omega, by omega, rfl, HB⟩
  case round =>
    clear HB hcp
    obtain ⟨k, hk0, hk, hkg, rfl, HR⟩ := hrel
    by_cases hlt : k < n
    · obtain ⟨m, hm⟩ : ∃ m, m = min k (n - k) := ⟨_, rfl⟩
      obtain ⟨f1, f2⟩ := fill_split hk0 hlt hm
      have hrow := HR.out.1
      have hk5 : (ints (fill k k)).length = k := by rw [ints_len, fill_len (Nat.le_refl _)]
      have hnl : (ints (fill n k)).length = n := by rw [ints_len, fill_len hk]
      have hR2 : RowC (wr.drew.setCells w1.heap.size k (ints (List.replicate m (-1)))) w1.heap.size (ints (fill n (k + m))) := by
        rw [f2]
        have := RowC.sets (ints (List.replicate m (-1))) (W := wr.drew) (a := ints (fill k k)) (b := ints (List.replicate m 0)) (c := ints (List.replicate (n - k - m) 0)) (by rw [ints_len, ints_len]; simp) (by rw [← f1]; exact hrow)
        rwa [hk5] at this
      have hcp : ∀ ty, (Builtin.copy_ #[25, 25] ty #[.slice (some ⟨w1.heap.size, k, none⟩) (n - k) (n - k), .slice (some ⟨w1.heap.size, 0, none⟩) k n]).run Try.prog wr.drew = .ok (goInt m) (wr.drew.setCells w1.heap.size k (ints (List.replicate m (-1)))) := fun ty => by
        have := run_copy_cells (P := Try.prog) wr.drew 25 25 ty 3 w1.heap.size k (n - k) (n - k) ⟨w1.heap.size, 0, none⟩ k n (ints (List.replicate m (-1))) Try.underlying25 hsz (by rw [ints_len, List.length_replicate, hm]) (fun j v hj => ?_) (fun j hj => ?_) (fun j hj => hrow.free _) (ints_one _)
        · rw [ints_len, List.length_replicate] at this; exact this
        · have hjm := (List.getElem?_eq_some_iff.1 hj).1
          rw [ints_len, List.length_replicate] at hjm
          rw [Addr.add_lit, Nat.zero_add]
          show wr.cell? ⟨w1.heap.size, j, none⟩ = some v
          rw [hrow.cell, f1, List.append_assoc, List.getElem?_append_left (by rw [hk5]; omega)]
          have hjk : j < k := by omega
          have e1 : (ints (fill k k))[j]? = some (.int .i64 (-1)) := ints_get (by unfold fill; rw [List.getElem?_append_left (by rw [List.length_replicate]; exact hjk)]; simp [hjk])
          have e2 : (ints (List.replicate m (-1)))[j]? = some (.int .i64 (-1)) := ints_get (by simp [hjm])
          rw [e1, ← e2, hj]
        · rw [ints_len, List.length_replicate] at hj
          show (wr.cell? _).isSome = true
          rw [hrow.cell, List.getElem?_eq_getElem (by rw [hnl]; omega)]; rfl
      have HR2 : Hid (RowC (wr.drew.setCells w1.heap.size k (ints (List.replicate m (-1)))) w1.heap.size (ints (fill n (k + m))) ∧ Below w1.heap.size w1 (wr.drew.setCells w1.heap.size k (ints (List.replicate m (-1))))) := ⟨hR2, setCells_below' (Nat.le_refl _) _ _ _ HR.out.2.drew⟩
      have hm1 : 0 < m := by omega
      have hm2 : k + m ≤ n := by omega
      have k0 : (0 : Int) ≤ (k : Int) := by omega
      have k1 : (k : Int) < (n : Int) := by omega
      have k2 : (k : Int) ≤ (n : Int) := by omega
      have hnk : ¬ n = k := by omega
      clear f1 f2 hrow hR2 hk5 hnl hm
      generalize wr.drew.setCells w1.heap.size k (ints (List.replicate m (-1))) = W2 at *
      go_upto_region 9 with (fail)
      go_region_law (refine step_copy_runI rfl _ _ 25 25 rfl _ _ (by simp [Act.eval, Act.put, hnk]) (by simp [Act.eval, Act.put, hnk]) (hcp _) ?_)
      go_wp2_with fail
      go_roundg (n - (k + m))
      case measure => omega
      case rel => exact ⟨k + m, by omega, by omega, Nat.le_refl _, val_i (by rw [IntKind.wrap_i64]; omega), HR2⟩
    · have hkn : Hid (k = n) := by show _ = _; omega
      have k1 : decide ((k : Int) < (n : Int)) = false := decide_eq_false (by omega)
      go_wp2
      go_ret
      have h1 := HR.out.1
      rw [hkn.out, show fill n n = List.replicate n (-1) by unfold fill; simp] at h1
      have := rowC_own (cap := n) (r := List.replicate n (-1)) h1 (by rw [ints_len, List.length_replicate]) (by rw [List.length_replicate]; exact Nat.le_refl _) (by unfold maxLen; omega) (by rw [List.take_of_length_le (by rw [ints_len]; exact Nat.le_refl _)])
      rw [List.length_replicate] at this
      exact ⟨w1.heap.size, rfl, Nat.le_refl _, this, HR.out.2⟩
end Go.Proofs.Ytmlpbhankgojpaa
