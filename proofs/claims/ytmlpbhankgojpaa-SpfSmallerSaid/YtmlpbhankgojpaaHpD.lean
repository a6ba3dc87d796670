/-
  The queue's methods.
-/
import Derived.Test.YtmlpbhankgojpaaHpC
import Derived.Deep.OwnRows
namespace Go.Proofs.Ytmlpbhankgojpaa
open Go.RowKit HM
set_option linter.unusedSimpArgs false
set_option linter.unusedVariables false
set_option maxHeartbeats 4000000
set_option maxRecDepth 100000

theorem make_ints (n : Nat) (hn : n ≤ 65536) (w : World) : (Instr.makeSlice 25 (.int .i64 (n : Int)) (.int .i64 (n : Int))).run Try.prog w = .ok (.slice (some ⟨w.heap.size, 0, none⟩) n n) (w.alloc (.cells (madeCells #[.int .i64 0] n) 3)) :=
  run_make_row' 25 3 (.int .i64 0) 8 Try.underlying25 info3 rfl .i64 .i64 n (by omega) (by omega) w
theorem made_row (w : World) (n : Nat) (hn : n ≤ 65536) {b : Nat} (hb : b = w.heap.size) : (w.alloc (.cells (madeCells #[.int .i64 0] n) 3)).ownsRow 0 3 1 (.slice (some ⟨b, 0, none⟩) n n) n (ints (List.replicate n 0)) := by
  subst hb
  have := World.ownsRow_lit (base := 0) (e := 3) (size := 1) w (madeCells #[.int .i64 0] n) n (Nat.zero_le _) (by unfold maxLen; omega) (by rw [size_madeCells]; omega)
  rw [toList_madeCells_one] at this
  simpa [ints] using this
/-- k cells are filled -/
def fill (n k : Nat) : List Int := List.replicate k (-1) ++ List.replicate (n - k) 0
theorem fill_set {n k : Nat} (h : k < n) : (fill n k).set k (-1) = fill n (k + 1) := by
  unfold fill
  rw [List.set_append_right _ _ (by simp)]
  obtain ⟨m, rfl⟩ : ∃ m, n = k + 1 + m := ⟨n - (k + 1), by omega⟩
  rw [show k + 1 + m - k = m + 1 by omega, show k + 1 + m - (k + 1) = m by omega, List.replicate_succ, List.replicate_succ']
  simp
theorem fill_len {n k : Nat} (h : k ≤ n) : (fill n k).length = n := by unfold fill; simp; omega
theorem newTree_any (n : Nat) (hn : n ≤ 65536) (w : World) :
    Calls Try.prog 58 #[.int .i64 (n : Int)] w fun e w' => ∃ P, e = .returned (.agg #[.slice none 0 0, .slice (some ⟨P, 0, none⟩) n n]) ∧ w.heap.size ≤ P ∧ w'.ownsRow 0 3 1 (.slice (some ⟨P, 0, none⟩) n n) n (ints (List.replicate n (-1))) ∧ Below w.heap.size w w' := by
  have n0 : (0 : Int) ≤ (n : Int) := by omega
  have hmk := make_ints n hn
  go_enter Try.func58, Try.ntmps58
  go_wp2_with fail
  have HS : Hid (((w.alloc (.cells #[.slice none 0 0, .slice none 0 0] 77)).alloc (.cells (madeCells #[.int .i64 0] n) 3)).ownsRow 0 3 1 (.slice (some ⟨w.heap.size + 1, 0, none⟩) n n) n (ints (fill n 0)) ∧
      Below w.heap.size w ((w.alloc (.cells #[.slice none 0 0, .slice none 0 0] 77)).alloc (.cells (madeCells #[.int .i64 0] n) 3)) ∧ ((w.alloc (.cells #[.slice none 0 0, .slice none 0 0] 77)).alloc (.cells (madeCells #[.int .i64 0] n) 3)).heap[w.heap.size]? = some (.cells #[.slice none 0 0, .slice none 0 0] 77 (0, 0))) :=
    ⟨by have := made_row (w.alloc (.cells #[.slice none 0 0, .slice none 0 0] 77)) n hn (b := w.heap.size + 1) (by simp); simpa [fill] using this, (below_then (below_alloc _ _) (below_alloc _ _)), (Below.heap_alloc _ _ _ (by simp)).trans (heap_alloc_new _ _)⟩
  clear hmk
  generalize ((w.alloc (.cells #[.slice none 0 0, .slice none 0 0] 77)).alloc (.cells (madeCells #[.int .i64 0] n) 3)) = W at *
  go_loopg [9, 4] n (fun g s9 s4 wr => ∃ k : Nat, k ≤ n ∧ n - k ≤ g ∧ s9 = .int .i64 (k : Int) ∧ (∃ v, v = s4) ∧ Hid (wr.ownsRow 0 3 1 (.slice (some ⟨w.heap.size + 1, 0, none⟩) n n) n (ints (fill n k)) ∧ Below w.heap.size w wr ∧ wr.heap[w.heap.size]? = some (.cells #[.slice none 0 0, .slice none 0 0] 77 (0, 0))))
  case atStart => exact ⟨0, by omega, by omega, rfl, ⟨_, rfl⟩, HS⟩
  case round =>
    clear HS
    obtain ⟨k, hk, hkg, rfl, ⟨v4, rfl⟩, HR⟩ := hrel
    by_cases hlt : k < n
    · have c := HR.out.1.cellAt k (by omega)
      rw [ints_get (gI_get (by rw [fill_len hk]; exact hlt))] at c
      have z := HR.out.1.frozenAt k
      generalize gI (fill n k) k = x at c
      have k0 : (0 : Int) ≤ (k : Int) := by omega
      have k1 : (k : Int) < (n : Int) := by omega
      go_wp2_with fail
      go_roundg (n - (k + 1))
      case measure => omega
      case rel =>
        refine ⟨k + 1, by omega, Nat.le_refl _, by go_num, ⟨_, rfl⟩, ?_⟩
        have h1 := (HR.out.1.stored k (.int .i64 (-1))).1
        rw [ints_set, fill_set hlt] at h1
        exact ⟨h1, HR.out.2.1.setCell (by simp) _, (heap_set_ne (by omega)).trans HR.out.2.2⟩
    · have hkn : k = n := by omega
      have r0 : wr.cell? ⟨w.heap.size, 0, none⟩ = some (.slice none 0 0) := cell_of HR.out.2.2 rfl
      have r1 : wr.cell? ⟨w.heap.size, 1, none⟩ = some (.slice none 0 0) := cell_of HR.out.2.2 rfl
      have z := free_of HR.out.2.2
      have HK := Lib.hid hkn
      clear hkn
      go_wp2_with fail
      refine bodyPost_ret (v := .agg #[.slice none 0 0, .slice (some ⟨w.heap.size + 1, 0, none⟩) n n]) (by simp [results, Try.results58, go_sem, r0, r1]) rfl ⟨w.heap.size + 1, rfl, by omega, ?_, (HR.out.2.1.setCell (by simp) _).setCell (by simp) _⟩
      have h1 := HR.out.1
      rw [HK.out] at h1
      have e : fill n n = List.replicate n (-1) := by unfold fill; simp
      rw [e] at h1
      exact row_congr h1 (fun g hg => by simp [Value.ownBlock] at hg; subst hg; exact (heap_set_ne (by omega)).trans (heap_set_ne (by omega)))
theorem heapR_new {W : World} {P K n : Nat} (hn : n ≤ 65536) (hp : W.ownsRow 0 3 1 (.slice (some ⟨P, 0, none⟩) n n) n (ints (List.replicate n (-1)))) (hk : W.ownsRow 0 3 1 (.slice (some ⟨K, 0, none⟩) n n) n (ints (List.replicate n 0))) (hne : P ≠ K) {b : Nat} (hb : b = W.heap.size) :
    HeapR (W.alloc (.cells #[.slice none 0 0, .slice (some ⟨P, 0, none⟩) n n, .slice (some ⟨K, 0, none⟩) n n] 80)) b n (List.replicate n false) (List.replicate n 0) [b, P, K] := by
  subst hb
  have lp := (row_lt hp rfl).2
  have lk := (row_lt hk rfl).2
  dsimp only at lp lk
  have gp : ∀ x, x < n → gI (List.replicate n (-1)) x = -1 := fun x hx => by unfold gI; simp [hx]
  refine ⟨.slice none 0 0, P, K, [], List.replicate n (-1), ⟨heap_alloc_new _ _, World.ownsRow_nil _ _ _ _, hp.alloc _, hk.alloc _, by simp [Value.ownBlock], by simp [Value.ownBlock], by simp [Value.ownBlock], by omega, by omega, hne⟩, ⟨by simp, fun p hp => by simp at hp, fun x hx => .inl (gp x hx), ?_⟩, fun p _ hp => by simp at hp, by simp [nn], by simp [vblk, Value.ownBlock], hn⟩
  unfold HM.cnt; rw [List.countP_replicate]; simp
theorem new_core (n : Nat) (hn6 : n ≤ 65536) : ∀ W, Calls Try.prog 58 #[.int .i64 (n : Int)] W fun e w' => ∃ P, e = .returned (.agg #[.slice none 0 0, .slice (some ⟨P, 0, none⟩) n n]) ∧ W.heap.size ≤ P ∧ w'.ownsRow 0 3 1 (.slice (some ⟨P, 0, none⟩) n n) n (ints (List.replicate n (-1))) ∧ Below W.heap.size W w' := fun W => newTree_any n hn6 W
def NewP (m : Int) (w : World) (e : Ending) (w' : World) : Prop := ∃ (hb n : Nat) (gs : List Nat), e = .returned (.pointer (some ⟨hb, 0, none⟩)) ∧ (n : Int) = min (max m 0) 65536 ∧ HeapR w' hb n (List.replicate n false) (List.replicate n 0) gs ∧ (∀ g ∈ gs, w.heap.size ≤ g) ∧ Below w.heap.size w w'
theorem B1 {a b : World} (h : Below a.drew.heap.size a.drew b) : Below a.heap.size a b := ⟨h.os, h.tape, h.output, h.size, h.block⟩
theorem new_any (m : Int) (w : World) : Calls Try.prog 47 #[.int .i64 m] w (NewP m w) := by
  obtain ⟨n, hn⟩ : ∃ n : Nat, (n : Int) = min (max m 0) 65536 := ⟨(min (max m 0) 65536).toNat, by omega⟩
  have hn6 : n ≤ 65536 := by omega
  have HT := Lib.hid (new_core n hn6)
  have HMK := Lib.hid (make_ints n hn6)
  have HN := Lib.hid hn
  have hw0 : w.heap.size = w.heap.size := rfl
  rcases (by omega : m < 0 ∨ (0 ≤ m ∧ m ≤ 65536) ∨ 65536 < m) with h | h | h
  · have e0 : Hid ((Value.int .i64 0) = .int .i64 (n : Int)) := by show _ = _; rw [show (n : Int) = 0 by omega]
    have h' : ¬ 0 ≤ m := by omega
    clear hn
    go_enter Try.func47, Try.ntmps47
    go_wp2_with fail
    rw [e0.out]
    have hmk := HMK.out
    go_region_with ((go_at_call 58; refine (HT.out _).mono ?_; rintro e w1 ⟨P, rfl, hP, hr, hb⟩; have R := Lib.hid (And.intro hP (And.intro hr hb)); clear hP hr hb))
    · go_wp2
      go_ret
      obtain ⟨r1, r2, r3⟩ := R.out
      have hPl := (row_lt r2 rfl).2
      dsimp only at hPl
      have hs := r3.size
      simp at r1 hs
      refine ⟨w1.heap.size + 1, n, _, rfl, HN.out, heapR_new hn6 (r2.alloc _) (made_row w1 n hn6 rfl) (by omega) (by simp), fun g hg => ?_, below_then (below_then (B1 r3) (below_alloc _ _)) (below_alloc _ _)⟩
      simp at hg
      rcases hg with rfl | rfl | rfl <;> omega
    · go_wp2
      go_ret
      obtain ⟨r1, r2, r3⟩ := R.out
      have hPl := (row_lt r2 rfl).2
      dsimp only at hPl
      have hs := r3.size
      simp at r1 hs
      refine ⟨w1.heap.size, n, _, rfl, HN.out, heapR_new hn6 r2 (row_below (made_row w n hn6 rfl) (B1 r3)) (by omega) rfl, fun g hg => ?_, below_then (below_then (below_alloc _ _) (B1 r3)) (below_alloc _ _)⟩
      simp at hg
      rcases hg with rfl | rfl | rfl <;> omega
  · have h1 : ¬ m < 0 := by omega
    have h2 := h.2
    have e0 : Hid (m = (n : Int)) := by show _ = _; omega
    clear hn
    obtain rfl : m = (n : Int) := e0.out
    go_enter Try.func47, Try.ntmps47
    go_wp2_with fail
    have hmk := HMK.out
    go_region_with ((go_at_call 58; refine (HT.out _).mono ?_; rintro e w1 ⟨P, rfl, hP, hr, hb⟩; have R := Lib.hid (And.intro hP (And.intro hr hb)); clear hP hr hb))
    · go_wp2
      go_ret
      obtain ⟨r1, r2, r3⟩ := R.out
      have hPl := (row_lt r2 rfl).2
      dsimp only at hPl
      have hs := r3.size
      simp at r1 hs
      refine ⟨w1.heap.size + 1, n, _, rfl, HN.out, heapR_new hn6 (r2.alloc _) (made_row w1 n hn6 rfl) (by omega) (by simp), fun g hg => ?_, below_then (below_then (B1 r3) (below_alloc _ _)) (below_alloc _ _)⟩
      simp at hg
      rcases hg with rfl | rfl | rfl <;> omega
    · go_wp2
      go_ret
      obtain ⟨r1, r2, r3⟩ := R.out
      have hPl := (row_lt r2 rfl).2
      dsimp only at hPl
      have hs := r3.size
      simp at r1 hs
      refine ⟨w1.heap.size, n, _, rfl, HN.out, heapR_new hn6 r2 (row_below (made_row w n hn6 rfl) (B1 r3)) (by omega) rfl, fun g hg => ?_, below_then (below_then (below_alloc _ _) (B1 r3)) (below_alloc _ _)⟩
      simp at hg
      rcases hg with rfl | rfl | rfl <;> omega
  · have e0 : Hid ((Value.int .i64 65536) = .int .i64 (n : Int)) := by show _ = _; rw [show (n : Int) = 65536 by omega]
    have h' : ¬ m < 0 := by omega
    have h'' : ¬ m ≤ 65536 := by omega
    clear hn
    go_enter Try.func47, Try.ntmps47
    go_wp2_with fail
    rw [e0.out]
    have hmk := HMK.out
    go_region_with ((go_at_call 58; refine (HT.out _).mono ?_; rintro e w1 ⟨P, rfl, hP, hr, hb⟩; have R := Lib.hid (And.intro hP (And.intro hr hb)); clear hP hr hb))
    · go_wp2
      go_ret
      obtain ⟨r1, r2, r3⟩ := R.out
      have hPl := (row_lt r2 rfl).2
      dsimp only at hPl
      have hs := r3.size
      simp at r1 hs
      refine ⟨w1.heap.size + 1, n, _, rfl, HN.out, heapR_new hn6 (r2.alloc _) (made_row w1 n hn6 rfl) (by omega) (by simp), fun g hg => ?_, below_then (below_then (B1 r3) (below_alloc _ _)) (below_alloc _ _)⟩
      simp at hg
      rcases hg with rfl | rfl | rfl <;> omega
    · go_wp2
      go_ret
      obtain ⟨r1, r2, r3⟩ := R.out
      have hPl := (row_lt r2 rfl).2
      dsimp only at hPl
      have hs := r3.size
      simp at r1 hs
      refine ⟨w1.heap.size, n, _, rfl, HN.out, heapR_new hn6 r2 (row_below (made_row w n hn6 rfl) (B1 r3)) (by omega) rfl, fun g hg => ?_, below_then (below_then (below_alloc _ _) (B1 r3)) (below_alloc _ _)⟩
      simp at hg
      rcases hg with rfl | rfl | rfl <;> omega
end Go.Proofs.Ytmlpbhankgojpaa
