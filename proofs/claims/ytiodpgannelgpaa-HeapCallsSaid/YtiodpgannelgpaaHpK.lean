/-
  The reference's queue.
-/
import Derived.Test.YtiodpgannelgpaaHpJ
namespace Go.Proofs.Ytiodpgannelgpaa
open Go.RowKit HM
set_option linter.unusedSimpArgs false
set_option linter.unusedVariables false
set_option maxHeartbeats 4000000
set_option maxRecDepth 100000

theorem bools_len (l : List Bool) : (bools l).length = l.length := by simp [bools]
structure RefR (w : World) (r I K n : Nat) (ins : List Bool) (keys : List Int) : Prop where
  box : w.heap[r]? = some (.cells #[.slice (some ⟨I, 0, none⟩) n n, .slice (some ⟨K, 0, none⟩) n n] 102 (0, 0))
  ri : w.ownsRow 0 4 1 (.slice (some ⟨I, 0, none⟩) n n) n (bools ins)
  rk : w.ownsRow 0 3 1 (.slice (some ⟨K, 0, none⟩) n n) n (ints keys)
  a : r ≠ I
  b : r ≠ K
  c : I ≠ K
  n6 : n ≤ 65536
section
variable {w w' : World} {r I K n : Nat} {ins : List Bool} {keys : List Int}
theorem RefR.li (h : RefR w r I K n ins keys) : ins.length = n := by have := h.ri.1; rw [bools_len] at this; omega
theorem RefR.lk (h : RefR w r I K n ins keys) : keys.length = n := by have := h.rk.1; rw [ints_len] at this; omega
theorem RefR.lt (h : RefR w r I K n ins keys) : ∀ g ∈ [r, I, K], g < w.heap.size := by
  intro g hg
  simp at hg
  rcases hg with rfl | rfl | rfl
  · exact lt_block h.box
  · exact (row_lt h.ri rfl).2
  · exact (row_lt h.rk rfl).2
theorem RefR.congr (h : RefR w r I K n ins keys) (hk : ∀ g ∈ [r, I, K], w'.heap[g]? = w.heap[g]?) : RefR w' r I K n ins keys :=
  ⟨(hk r (by simp)).trans h.box, row_congr h.ri (fun g hg => hk g (by simp [Value.ownBlock] at hg; simp [hg])), row_congr h.rk (fun g hg => hk g (by simp [Value.ownBlock] at hg; simp [hg])), h.a, h.b, h.c, h.n6⟩
theorem RefR.below (h : RefR w r I K n ins keys) (k : Below w.heap.size w w') : RefR w' r I K n ins keys := h.congr fun g hg => k.block g (h.lt g hg)
theorem RefR.f0 (h : RefR w r I K n ins keys) : w.cell? ⟨r, 0, none⟩ = some (.slice (some ⟨I, 0, none⟩) n n) := cell_of h.box rfl
theorem RefR.f1 (h : RefR w r I K n ins keys) : w.cell? ⟨r, 1, none⟩ = some (.slice (some ⟨K, 0, none⟩) n n) := cell_of h.box rfl
theorem RefR.ci (h : RefR w r I K n ins keys) {x : Nat} (hx : x < n) : w.cell? ⟨I, x, none⟩ = some (.bool (gB ins x)) := by
  rw [h.ri.cellAt x (by omega)]; exact bools_get (gB_get (by rw [h.li]; exact hx))
theorem RefR.ck (h : RefR w r I K n ins keys) {x : Nat} (hx : x < n) : w.cell? ⟨K, x, none⟩ = some (.int .i64 (gI keys x)) := by
  rw [h.rk.cellAt x (by omega)]; exact ints_get (gI_get (by rw [h.lk]; exact hx))
theorem RefR.zi (h : RefR w r I K n ins keys) (o : Nat) : w.frozen? ⟨I, o, none⟩ = false := h.ri.frozenAt o
theorem RefR.zk (h : RefR w r I K n ins keys) (o : Nat) : w.frozen? ⟨K, o, none⟩ = false := h.rk.frozenAt o
theorem RefR.setI (h : RefR w r I K n ins keys) (j : Nat) (x : Bool) : RefR (w.setCell ⟨I, j, none⟩ (.bool x)) r I K n (ins.set j x) keys := by
  have hs := (h.ri.stored j (.bool x)).1
  rw [bools_set] at hs
  exact ⟨(heap_set_ne h.a).trans h.box, hs, row_congr h.rk (fun g hg => heap_set_ne (by simp [Value.ownBlock] at hg; subst hg; exact fun e => h.c e.symm)), h.a, h.b, h.c, h.n6⟩
theorem RefR.setK (h : RefR w r I K n ins keys) (j : Nat) (x : Int) : RefR (w.setCell ⟨K, j, none⟩ (.int .i64 x)) r I K n ins (keys.set j x) := by
  have hs := (h.rk.stored j (.int .i64 x)).1
  rw [ints_set] at hs
  exact ⟨(heap_set_ne h.b).trans h.box, row_congr h.ri (fun g hg => heap_set_ne (by simp [Value.ownBlock] at hg; subst hg; exact h.c)), hs, h.a, h.b, h.c, h.n6⟩
end
theorem info4 : (Try.prog.info? 4).map (fun i => (i.zero, i.size, i.bytes)) = some (some (.bool false), 1, 1) := by kernel_rfl
theorem make_bools (n : Nat) (hn : n ≤ 65536) (w : World) : (Instr.makeSlice 45 (.int .i64 (n : Int)) (.int .i64 (n : Int))).run Try.prog w = .ok (.slice (some ⟨w.heap.size, 0, none⟩) n n) (w.alloc (.cells (madeCells #[.bool false] n) 4)) :=
  run_make_row' 45 4 (.bool false) 1 Try.underlying45 info4 rfl .i64 .i64 n (by omega) (by omega) w
theorem made_bools (w : World) (n : Nat) (hn : n ≤ 65536) {b : Nat} (hb : b = w.heap.size) : (w.alloc (.cells (madeCells #[.bool false] n) 4)).ownsRow 0 4 1 (.slice (some ⟨b, 0, none⟩) n n) n (bools (List.replicate n false)) := by
  subst hb
  have := World.ownsRow_lit (base := 0) (e := 4) (size := 1) w (madeCells #[.bool false] n) n (Nat.zero_le _) (by unfold maxLen; omega) (by rw [size_madeCells]; omega)
  rw [toList_madeCells_one] at this
  simpa [bools] using this
def NewR (m : Int) (w : World) (e : Ending) (w' : World) : Prop := ∃ (r I K n : Nat), e = .returned (.pointer (some ⟨r, 0, none⟩)) ∧ (n : Int) = min (max m 0) 65536 ∧ RefR w' r I K n (List.replicate n false) (List.replicate n 0) ∧ (∀ g ∈ [r, I, K], w.heap.size ≤ g) ∧ Below w.heap.size w w'
theorem refR_new {W : World} {I K n : Nat} (hn : n ≤ 65536) (hp : W.ownsRow 0 4 1 (.slice (some ⟨I, 0, none⟩) n n) n (bools (List.replicate n false))) (hk : W.ownsRow 0 3 1 (.slice (some ⟨K, 0, none⟩) n n) n (ints (List.replicate n 0))) (hne : I ≠ K) {b : Nat} (hb : b = W.heap.size) :
    RefR (W.alloc (.cells #[.slice (some ⟨I, 0, none⟩) n n, .slice (some ⟨K, 0, none⟩) n n] 102)) b I K n (List.replicate n false) (List.replicate n 0) := by
  subst hb
  have lp := (row_lt hp rfl).2
  have lk := (row_lt hk rfl).2
  dsimp only at lp lk
  exact ⟨heap_alloc_new _ _, hp.alloc _, hk.alloc _, by omega, by omega, hne, hn⟩
theorem rnew_any (m : Int) (w : World) : Calls Try.prog 41 #[.int .i64 m] w (NewR m w) := by
  obtain ⟨n, hn⟩ : ∃ n : Nat, (n : Int) = min (max m 0) 65536 := ⟨(min (max m 0) 65536).toNat, by omega⟩
  have hn6 : n ≤ 65536 := by omega
  have HMK := Lib.hid (make_ints n hn6)
  have HMB := Lib.hid (make_bools n hn6)
  have HN := Lib.hid hn
  rcases (by omega : m < 0 ∨ (0 ≤ m ∧ m ≤ 65536) ∨ 65536 < m) with h | h | h
  · have e0 : Hid ((Value.int .i64 0) = .int .i64 (n : Int)) := by show _ = _; rw [show (n : Int) = 0 by omega]
    have h' : ¬ 0 ≤ m := by omega
    clear hn
    go_enter Try.func41, Try.ntmps41
    go_wp2_with fail
    rw [e0.out]
    have hmk := HMK.out
    have hmb := HMB.out
    go_region
    · go_wp2
      go_ret
      refine ⟨w.heap.size + 1 + 1, w.heap.size, w.heap.size + 1, n, rfl, HN.out, (refR_new hn6 ((made_bools w n hn6 rfl).alloc _) (made_row _ n hn6 (b := w.heap.size + 1) (by simp)) (by omega) (by simp)).congr (fun _ _ => rfl), fun g hg => ?_, (below_then (below_then (below_alloc _ _) (below_alloc _ _)) (below_alloc _ _)).drew⟩
      simp at hg
      rcases hg with rfl | rfl | rfl <;> omega
    · go_wp2
      go_ret
      refine ⟨w.heap.size + 1 + 1, w.heap.size + 1, w.heap.size, n, rfl, HN.out, (refR_new hn6 (made_bools _ n hn6 (b := w.heap.size + 1) (by simp)) ((made_row w n hn6 rfl).alloc _) (by omega) (by simp)).congr (fun _ _ => rfl), fun g hg => ?_, (below_then (below_then (below_alloc _ _) (below_alloc _ _)) (below_alloc _ _)).drew⟩
      simp at hg
      rcases hg with rfl | rfl | rfl <;> omega
  · have h1 : ¬ m < 0 := by omega
    have h2 := h.2
    have e0 : Hid (m = (n : Int)) := by show _ = _; omega
    clear hn
    obtain rfl : m = (n : Int) := e0.out
    go_enter Try.func41, Try.ntmps41
    go_wp2_with fail
    have hmk := HMK.out
    have hmb := HMB.out
    go_region
    · go_wp2
      go_ret
      refine ⟨w.heap.size + 1 + 1, w.heap.size, w.heap.size + 1, n, rfl, HN.out, (refR_new hn6 ((made_bools w n hn6 rfl).alloc _) (made_row _ n hn6 (b := w.heap.size + 1) (by simp)) (by omega) (by simp)).congr (fun _ _ => rfl), fun g hg => ?_, (below_then (below_then (below_alloc _ _) (below_alloc _ _)) (below_alloc _ _)).drew⟩
      simp at hg
      rcases hg with rfl | rfl | rfl <;> omega
    · go_wp2
      go_ret
      refine ⟨w.heap.size + 1 + 1, w.heap.size + 1, w.heap.size, n, rfl, HN.out, (refR_new hn6 (made_bools _ n hn6 (b := w.heap.size + 1) (by simp)) ((made_row w n hn6 rfl).alloc _) (by omega) (by simp)).congr (fun _ _ => rfl), fun g hg => ?_, (below_then (below_then (below_alloc _ _) (below_alloc _ _)) (below_alloc _ _)).drew⟩
      simp at hg
      rcases hg with rfl | rfl | rfl <;> omega
  · have e0 : Hid ((Value.int .i64 65536) = .int .i64 (n : Int)) := by show _ = _; rw [show (n : Int) = 65536 by omega]
    have h' : ¬ m < 0 := by omega
    have h'' : ¬ m ≤ 65536 := by omega
    clear hn
    go_enter Try.func41, Try.ntmps41
    go_wp2_with fail
    rw [e0.out]
    have hmk := HMK.out
    have hmb := HMB.out
    go_region
    · go_wp2
      go_ret
      refine ⟨w.heap.size + 1 + 1, w.heap.size, w.heap.size + 1, n, rfl, HN.out, (refR_new hn6 ((made_bools w n hn6 rfl).alloc _) (made_row _ n hn6 (b := w.heap.size + 1) (by simp)) (by omega) (by simp)).congr (fun _ _ => rfl), fun g hg => ?_, (below_then (below_then (below_alloc _ _) (below_alloc _ _)) (below_alloc _ _)).drew⟩
      simp at hg
      rcases hg with rfl | rfl | rfl <;> omega
    · go_wp2
      go_ret
      refine ⟨w.heap.size + 1 + 1, w.heap.size + 1, w.heap.size, n, rfl, HN.out, (refR_new hn6 (made_bools _ n hn6 (b := w.heap.size + 1) (by simp)) ((made_row w n hn6 rfl).alloc _) (by omega) (by simp)).congr (fun _ _ => rfl), fun g hg => ?_, (below_then (below_then (below_alloc _ _) (below_alloc _ _)) (below_alloc _ _)).drew⟩
      simp at hg
      rcases hg with rfl | rfl | rfl <;> omega
def inR (n : Nat) (i : Int) : Bool := decide (0 ≤ i ∧ i < n)
theorem rhas_any (w : World) (r I K n : Nat) (ins : List Bool) (keys : List Int) (h : RefR w r I K n ins keys) (i : Int) : Calls Try.prog 98 #[.pointer (some ⟨r, 0, none⟩), .int .i64 i] w fun e w' => e = .returned (.bool (inR n i)) ∧ w = w' := by
  have f0 := h.f0
  clear h
  by_cases h0 : 0 ≤ i
  · by_cases h1 : i < n
    · have e : Hid (inR n i = true) := decide_eq_true ⟨h0, h1⟩
      go_enter Try.func98, Try.ntmps98
      go_wp2
      go_ret
      exact ⟨by rw [e.out]; rfl, rfl⟩
    · have e : Hid (inR n i = false) := decide_eq_false (fun h => h1 h.2)
      have h1' : decide (i < (n : Int)) = false := decide_eq_false h1
      go_enter Try.func98, Try.ntmps98
      go_wp2
      go_ret
      exact ⟨by rw [e.out]; rfl, rfl⟩
  · have e : Hid (inR n i = false) := decide_eq_false (fun h => h0 h.1)
    have h0' : decide (0 ≤ i) = false := decide_eq_false h0
    go_enter Try.func98, Try.ntmps98
    go_wp2
    go_ret
    exact ⟨by rw [e.out]; rfl, rfl⟩
theorem rset_out (w : World) (r I K n : Nat) (ins : List Bool) (keys : List Int) (h : RefR w r I K n ins keys) (i k : Int) (hi : ¬ (0 ≤ i ∧ i < n)) :
    Calls Try.prog 84 #[.pointer (some ⟨r, 0, none⟩), .int .i64 i, .int .i64 k] w fun e w' => e = .returned (.bool false) ∧ w = w' := by
  have HH := Lib.hid (rhas_any w r I K n ins keys h i)
  rw [show inR n i = false from decide_eq_false hi] at HH
  clear h hi
  go_enter Try.func84, Try.ntmps84
  go_wp2_with (go_at_call 98; refine HH.out.mono ?_; rintro e w1 ⟨rfl, rfl⟩)
  go_ret
  exact ⟨rfl, rfl⟩
theorem rset_in (w : World) (r I K n : Nat) (ins : List Bool) (keys : List Int) (h : RefR w r I K n ins keys) (x : Nat) (k : Int) (hx : x < n) :
    Calls Try.prog 84 #[.pointer (some ⟨r, 0, none⟩), .int .i64 (x : Int), .int .i64 k] w fun e w' => e = .returned (.bool true) ∧ RefR w' r I K n (ins.set x true) (keys.set x k) ∧ Kp [r, I, K] w w' := by
  have HH := Lib.hid (rhas_any w r I K n ins keys h (x : Int))
  rw [show inR n (x : Int) = true from decide_eq_true (by omega)] at HH
  have f0 := h.f0
  have f1 := h.f1
  have ci := h.ci hx
  have ck := h.ck hx
  have zi := h.zi x
  have zk := h.zk x
  have hri := h.a
  have hir := Ne.symm h.a
  have hik := h.c
  have hki := Ne.symm h.c
  have R := Lib.hid ((h.setI x true).setK x k)
  have x0 : (0 : Int) ≤ (x : Int) := by omega
  have x1 : (x : Int) < (n : Int) := by omega
  clear h
  generalize gB ins x = oi at ci
  generalize gI keys x = ok at ck
  go_enter Try.func84, Try.ntmps84
  go_wp2_with (go_at_call 98; refine HH.out.mono ?_; rintro e w1 ⟨rfl, rfl⟩)
  go_ret
  exact ⟨rfl, R.out, ((Kp.refl _ w).setCell (.inl (by simp))).setCell (.inl (by simp))⟩
theorem rkey_any (w : World) (r I K n : Nat) (ins : List Bool) (keys : List Int) (h : RefR w r I K n ins keys) (i : Int) :
    Calls Try.prog 83 #[.pointer (some ⟨r, 0, none⟩), .int .i64 i] w fun e w' => ∃ (k : Int) (b : Bool), e = .returned (.tuple #[.int .i64 k, .bool b]) ∧ KeyQ n ins keys i k b ∧ w = w' := by
  have HH := Lib.hid (rhas_any w r I K n ins keys h i)
  by_cases hi : 0 ≤ i ∧ i < n
  · obtain ⟨x, rfl⟩ : ∃ x : Nat, i = x := ⟨i.toNat, by omega⟩
    have hx : x < n := by omega
    rw [show inR n (x : Int) = true from decide_eq_true hi] at HH
    have f0 := h.f0
    have f1 := h.f1
    have ci := h.ci hx
    have ck := h.ck hx
    have x0 : (0 : Int) ≤ (x : Int) := by omega
    have x1 : (x : Int) < (n : Int) := by omega
    clear h hi
    generalize hk : gI keys x = k at ck
    have HK := Lib.hid hk
    clear hk
    cases hz : gB ins x
    · rw [hz] at ci
      have HZ := Lib.hid hz
      clear hz
      go_enter Try.func83, Try.ntmps83
      go_wp2_with (go_at_call 98; refine HH.out.mono ?_; rintro e w1 ⟨rfl, rfl⟩)
      go_ret2
      exact ⟨0, false, rfl, .inr ⟨fun h => by rw [Int.toNat_natCast, HZ.out] at h; simp at h, rfl, rfl⟩, rfl⟩
    · rw [hz] at ci
      have HZ := Lib.hid hz
      clear hz
      go_enter Try.func83, Try.ntmps83
      go_wp2_with (go_at_call 98; refine HH.out.mono ?_; rintro e w1 ⟨rfl, rfl⟩)
      go_ret2
      exact ⟨k, true, rfl, .inl ⟨by omega, by omega, by rw [Int.toNat_natCast]; exact HZ.out, by rw [Int.toNat_natCast]; exact HK.out.symm, rfl⟩, rfl⟩
  · rw [show inR n i = false from decide_eq_false hi] at HH
    have HI := Lib.hid hi
    clear h hi
    go_enter Try.func83, Try.ntmps83
    go_wp2_with (go_at_call 98; refine HH.out.mono ?_; rintro e w1 ⟨rfl, rfl⟩)
    go_ret2
    exact ⟨0, false, rfl, .inr ⟨fun h => HI.out ⟨h.1, h.2.1⟩, rfl, rfl⟩, rfl⟩
theorem rdrop_out (w : World) (r I K n : Nat) (ins : List Bool) (keys : List Int) (h : RefR w r I K n ins keys) (i : Int) (hi : ¬ (0 ≤ i ∧ i < n ∧ gB ins i.toNat = true)) :
    Calls Try.prog 82 #[.pointer (some ⟨r, 0, none⟩), .int .i64 i] w fun e w' => e = .returned (.bool false) ∧ w = w' := by
  have HH := Lib.hid (rhas_any w r I K n ins keys h i)
  by_cases h2 : 0 ≤ i ∧ i < n
  · obtain ⟨x, rfl⟩ : ∃ x : Nat, i = x := ⟨i.toNat, by omega⟩
    have hx : x < n := by omega
    rw [show inR n (x : Int) = true from decide_eq_true h2] at HH
    have f0 := h.f0
    have ci := h.ci hx
    have x0 : (0 : Int) ≤ (x : Int) := by omega
    have x1 : (x : Int) < (n : Int) := by omega
    have hz : gB ins x = false := by
      cases hz : gB ins x
      · rfl
      · exact absurd ⟨h2.1, h2.2, by rw [Int.toNat_natCast]; exact hz⟩ hi
    rw [hz] at ci
    clear h hi h2 hz
    go_enter Try.func82, Try.ntmps82
    go_wp2_with (go_at_call 98; refine HH.out.mono ?_; rintro e w1 ⟨rfl, rfl⟩)
    go_ret
    exact ⟨rfl, rfl⟩
  · rw [show inR n i = false from decide_eq_false h2] at HH
    clear h hi h2
    go_enter Try.func82, Try.ntmps82
    go_wp2_with (go_at_call 98; refine HH.out.mono ?_; rintro e w1 ⟨rfl, rfl⟩)
    go_ret
    exact ⟨rfl, rfl⟩
theorem rdrop_in (w : World) (r I K n : Nat) (ins : List Bool) (keys : List Int) (h : RefR w r I K n ins keys) (x : Nat) (hx : x < n) (hz : gB ins x = true) :
    Calls Try.prog 82 #[.pointer (some ⟨r, 0, none⟩), .int .i64 (x : Int)] w fun e w' => e = .returned (.bool true) ∧ RefR w' r I K n (ins.set x false) keys ∧ Kp [r, I, K] w w' := by
  have HH := Lib.hid (rhas_any w r I K n ins keys h (x : Int))
  rw [show inR n (x : Int) = true from decide_eq_true (by omega)] at HH
  have f0 := h.f0
  have ci := h.ci hx
  have zi := h.zi x
  have R := Lib.hid (h.setI x false)
  have x0 : (0 : Int) ≤ (x : Int) := by omega
  have x1 : (x : Int) < (n : Int) := by omega
  rw [hz] at ci
  clear h hz
  go_enter Try.func82, Try.ntmps82
  go_wp2_with (go_at_call 98; refine HH.out.mono ?_; rintro e w1 ⟨rfl, rfl⟩)
  go_ret
  exact ⟨rfl, R.out, (Kp.refl _ w).setCell (.inl (by simp))⟩
theorem rlen_any (w : World) (r I K n : Nat) (ins : List Bool) (keys : List Int) (h : RefR w r I K n ins keys) : Calls Try.prog 44 #[.pointer (some ⟨r, 0, none⟩)] w fun e w' => e = .returned (.int .i64 (cntB ins : Int)) ∧ w = w' := by
  have f0 := h.f0
  have H := Lib.hid h
  have hn := h.n6
  clear h
  go_enter Try.func44, Try.ntmps44
  go_wp2_with fail
  go_loopg [13, 3, 5] n (fun g s13 s3 s5 wr => ∃ k c : Nat, k ≤ n ∧ c ≤ k ∧ n - k ≤ g ∧ s13 = .int .i64 (k : Int) ∧ s3 = .int .i64 (c : Int) ∧ (∃ v, v = s5) ∧ Hid (cntB (ins.take k) = c) ∧ w = wr)
  case atStart => exact ⟨0, 0, by omega, by omega, by omega, rfl, rfl, ⟨_, rfl⟩, rfl, rfl⟩
  case round =>
    obtain ⟨k, c, hk, hc, hkg, rfl, rfl, ⟨v5, rfl⟩, HC, rfl⟩ := hrel
    by_cases hlt : k < n
    · have ci := H.out.ci hlt
      have hct := cnt_take (ins := ins) (k := k) (by rw [H.out.li]; exact hlt)
      rw [HC.out] at hct
      have k0 : (0 : Int) ≤ (k : Int) := by omega
      have k1 : (k : Int) < (n : Int) := by omega
      cases hz : gB ins k
      · rw [hz] at ci hct
        have HCT := Lib.hid hct
        clear hct hz
        go_wp2
        go_roundg (n - (k + 1))
        case measure => omega
        case rel => exact ⟨k + 1, c, by omega, by omega, Nat.le_refl _, by go_num, rfl, ⟨_, rfl⟩, HCT, rfl⟩
      · rw [hz] at ci hct
        have HCT := Lib.hid hct
        clear hct hz
        go_wp2
        go_roundg (n - (k + 1))
        case measure => omega
        case rel => exact ⟨k + 1, c + 1, by omega, by omega, Nat.le_refl _, by go_num, by go_num, ⟨_, rfl⟩, HCT, rfl⟩
    · have HCT : Hid (cntB ins = c) := by
        have h1 := HC.out
        rwa [List.take_of_length_le (by rw [H.out.li]; omega)] at h1
      clear HC
      go_wp2
      go_ret
      exact ⟨ret_i (by rw [HCT.out]), rfl⟩
/-- the least among the first -/
def MinB (ins : List Bool) (keys : List Int) (k : Nat) (it : Nat) (key : Int) (ok : Bool) : Prop :=
  (ok = false ∧ it = 0 ∧ key = 0 ∧ ∀ x, x < k → gB ins x = false) ∨ (ok = true ∧ it < k ∧ gB ins it = true ∧ key = gI keys it ∧ ∀ y, y < k → gB ins y = true → ¬ lt (gI keys) y it)
theorem MinB.skip {ins : List Bool} {keys : List Int} {k it : Nat} {key : Int} {ok : Bool} (h : MinB ins keys k it key ok) (hk : gB ins k = false) : MinB ins keys (k + 1) it key ok := by
  rcases h with ⟨rfl, rfl, rfl, h⟩ | ⟨rfl, h1, h2, h3, h4⟩
  · exact .inl ⟨rfl, rfl, rfl, fun x hx => by
      by_cases e : x = k
      · subst e; exact hk
      · exact h x (by omega)⟩
  · exact .inr ⟨rfl, by omega, h2, h3, fun y hy hb => by
      by_cases e : y = k
      · subst e; rw [hk] at hb; cases hb
      · exact h4 y (by omega) hb⟩
theorem MinB.first {ins : List Bool} {keys : List Int} {k it : Nat} {key : Int} (h : MinB ins keys k it key false) (hk : gB ins k = true) : MinB ins keys (k + 1) k (gI keys k) true := by
  rcases h with ⟨_, rfl, rfl, h⟩ | ⟨h0, _⟩
  · exact .inr ⟨rfl, by omega, hk, rfl, fun y hy hb => by
      by_cases e : y = k
      · subst e; exact lt_irr
      · have := h y (by omega); rw [hb] at this; cases this⟩
  · cases h0
theorem MinB.less {ins : List Bool} {keys : List Int} {k it : Nat} {key : Int} (h : MinB ins keys k it key true) (hk : gB ins k = true) (hl : gI keys k < key) : MinB ins keys (k + 1) k (gI keys k) true := by
  rcases h with ⟨h0, _⟩ | ⟨_, h1, h2, rfl, h4⟩
  · cases h0
  · exact .inr ⟨rfl, by omega, hk, rfl, fun y hy hb => by
      by_cases e : y = k
      · subst e; exact lt_irr
      · have := h4 y (by omega) hb
        revert this; unfold lt; omega⟩
theorem MinB.more {ins : List Bool} {keys : List Int} {k it : Nat} {key : Int} (h : MinB ins keys k it key true) (hl : ¬ gI keys k < key) : MinB ins keys (k + 1) it key true := by
  rcases h with ⟨h0, _⟩ | ⟨_, h1, h2, rfl, h4⟩
  · cases h0
  · exact .inr ⟨rfl, by omega, h2, rfl, fun y hy hb => by
      by_cases e : y = k
      · subst e; unfold lt; omega
      · exact h4 y (by omega) hb⟩
def MinP (w : World) (n : Nat) (ins : List Bool) (keys : List Int) (e : Ending) (w' : World) : Prop := ∃ (it : Nat) (key : Int) (ok : Bool), e = .returned (.tuple #[.int .i64 (it : Int), .int .i64 key, .bool ok]) ∧ MinB ins keys n it key ok ∧ ∃ q, w' = w.drewN q
theorem rmin_any (w : World) (r I K n : Nat) (ins : List Bool) (keys : List Int) (h : RefR w r I K n ins keys) : Calls Try.prog 81 #[.pointer (some ⟨r, 0, none⟩)] w (MinP w n ins keys) := by
  have f0 := h.f0
  have H := Lib.hid h
  have hn := h.n6
  clear h
  go_enter Try.func81, Try.ntmps81
  go_wp2_with fail
  go_loopg [14, 2, 3, 4, 5, 6] n (fun g s14 s2 s3 s4 s5 s6 wr => ∃ (k it : Nat) (key : Int) (ok : Bool) (q : Nat), k ≤ n ∧ it ≤ k ∧ n - k ≤ g ∧ s14 = .int .i64 (k : Int) ∧ s2 = .int .i64 (it : Int) ∧ s3 = .int .i64 key ∧ s4 = .bool ok ∧ (∃ v, v = s5) ∧ (∃ v, v = s6) ∧ Hid (MinB ins keys k it key ok) ∧ w.drewN q = wr)
  case atStart => exact ⟨0, 0, 0, false, 0, by omega, by omega, by omega, rfl, rfl, rfl, rfl, ⟨_, rfl⟩, ⟨_, rfl⟩, .inl ⟨rfl, rfl, rfl, fun x hx => by omega⟩, rfl⟩
  case round =>
    obtain ⟨k, it, key, ok, q, hk, hit, hkg, rfl, rfl, rfl, rfl, ⟨v5, rfl⟩, ⟨v6, rfl⟩, HM, rfl⟩ := hrel
    by_cases hlt : k < n
    · have ci := H.out.ci hlt
      have f1 := H.out.f1
      have ck := H.out.ck hlt
      have k0 : (0 : Int) ≤ (k : Int) := by omega
      have k1 : (k : Int) < (n : Int) := by omega
      generalize hkk : gI keys k = kk at ck
      cases hz : gB ins k
      · rw [hz] at ci
        have HM2 := Lib.hid (HM.out.skip hz)
        clear hz HM hkk
        go_wp2
        go_roundg (n - (k + 1))
        case measure => omega
        case rel => exact ⟨k + 1, it, key, ok, q, by omega, by omega, Nat.le_refl _, by go_num, rfl, rfl, rfl, ⟨_, rfl⟩, ⟨_, rfl⟩, HM2, rfl⟩
      · rw [hz] at ci
        cases hok : ok
        · subst hok
          have HM2 := Lib.hid (HM.out.first hz)
          rw [hkk] at HM2
          clear hz HM hkk
          go_wp2_with fail
          go_quiet (fail)
          go_wp2
          go_roundg (n - (k + 1))
          case measure => omega
          case rel => exact ⟨k + 1, k, kk, true, _, by omega, by omega, Nat.le_refl _, by go_num, rfl, rfl, rfl, ⟨_, rfl⟩, ⟨_, rfl⟩, HM2, rfl⟩
        · subst hok
          by_cases hl : kk < key
          · have HM2 := Lib.hid (HM.out.less hz (by rw [hkk]; exact hl))
            rw [hkk] at HM2
            clear hz HM hkk
            go_wp2_with fail
            go_quiet (fail)
            go_wp2
            go_roundg (n - (k + 1))
            case measure => omega
            case rel => exact ⟨k + 1, k, kk, true, _, by omega, by omega, Nat.le_refl _, by go_num, rfl, rfl, rfl, ⟨_, rfl⟩, ⟨_, rfl⟩, HM2, rfl⟩
          · have HM2 := Lib.hid (HM.out.more (by rw [hkk]; exact hl))
            have hl' : decide (kk < key) = false := decide_eq_false hl
            clear hz HM hkk
            go_wp2
            go_roundg (n - (k + 1))
            case measure => omega
            case rel => exact ⟨k + 1, it, key, true, _, by omega, by omega, Nat.le_refl _, by go_num, rfl, rfl, rfl, ⟨_, rfl⟩, ⟨_, rfl⟩, HM2, rfl⟩
    · have hkn : Hid (k = n) := by show _ = _; omega
      go_wp2
      go_ret3
      exact ⟨it, key, ok, rfl, hkn.out ▸ HM.out, ⟨_, rfl⟩⟩
theorem minB_isMin {n : Nat} {ins : List Bool} {keys : List Int} {it : Nat} {key : Int} {ok : Bool} (h : MinB ins keys n it key ok) {x : Nat} (hx : IsMin n ins keys x) : it = x ∧ key = gI keys x ∧ ok = true := by
  rcases h with ⟨rfl, rfl, rfl, h⟩ | ⟨rfl, h1, h2, h3, h4⟩
  · have := h x hx.1; rw [hx.2.1] at this; cases this
  · obtain rfl : it = x := isMin_unique (n := n) (ins := ins) (keys := keys) ⟨h1, h2, h4⟩ hx
    exact ⟨rfl, h3, rfl⟩
theorem minB_none {n : Nat} {ins : List Bool} {keys : List Int} {it : Nat} {key : Int} {ok : Bool} (h : MinB ins keys n it key ok) (hx : cntB ins = 0) : it = 0 ∧ key = 0 ∧ ok = false := by
  rcases h with ⟨rfl, rfl, rfl, h⟩ | ⟨rfl, h1, h2, h3, h4⟩
  · exact ⟨rfl, rfl, rfl⟩
  · have := cntB_zero hx it; rw [h2] at this; cases this
theorem rmin_none (w : World) (r I K n : Nat) (ins : List Bool) (keys : List Int) (h : RefR w r I K n ins keys) (h0 : cntB ins = 0) : Calls Try.prog 81 #[.pointer (some ⟨r, 0, none⟩)] w fun e w' => e = .returned (.tuple #[.int .i64 0, .int .i64 0, .bool false]) ∧ ∃ q, w' = w.drewN q := by
  refine (rmin_any w r I K n ins keys h).mono ?_
  rintro e w' ⟨it, key, ok, rfl, hm, hq⟩
  obtain ⟨rfl, rfl, rfl⟩ := minB_none hm h0
  exact ⟨rfl, hq⟩
theorem rmin_some (w : World) (r I K n : Nat) (ins : List Bool) (keys : List Int) (h : RefR w r I K n ins keys) {x : Nat} (hx : IsMin n ins keys x) : Calls Try.prog 81 #[.pointer (some ⟨r, 0, none⟩)] w fun e w' => e = .returned (.tuple #[.int .i64 (x : Int), .int .i64 (gI keys x), .bool true]) ∧ ∃ q, w' = w.drewN q := by
  refine (rmin_any w r I K n ins keys h).mono ?_
  rintro e w' ⟨it, key, ok, rfl, hm, hq⟩
  obtain ⟨rfl, rfl, rfl⟩ := minB_isMin hm hx
  exact ⟨rfl, hq⟩
theorem rpop_none (w : World) (r I K n : Nat) (ins : List Bool) (keys : List Int) (h : RefR w r I K n ins keys) (h0 : cntB ins = 0) : Calls Try.prog 80 #[.pointer (some ⟨r, 0, none⟩)] w fun e w' => e = .returned (.tuple #[.int .i64 0, .int .i64 0, .bool false]) ∧ ∃ q, w' = w.drewN q := by
  have HM := Lib.hid (rmin_none w r I K n ins keys h h0)
  clear h h0
  go_enter Try.func80, Try.ntmps80
  go_wp2_with (go_at_call 81; refine HM.out.mono ?_; rintro e w1 ⟨rfl, q, rfl⟩)
  go_ret3
  exact ⟨rfl, _, rfl⟩
theorem rpop_some (w : World) (r I K n : Nat) (ins : List Bool) (keys : List Int) (h : RefR w r I K n ins keys) {x : Nat} (hx : IsMin n ins keys x) : Calls Try.prog 80 #[.pointer (some ⟨r, 0, none⟩)] w fun e w' => e = .returned (.tuple #[.int .i64 (x : Int), .int .i64 (gI keys x), .bool true]) ∧ RefR w' r I K n (ins.set x false) keys ∧ Kp [r, I, K] w w' := by
  have HM := Lib.hid (rmin_some w r I K n ins keys h hx)
  have hxn := hx.1
  have hz := hx.2.1
  have f0 := h.f0
  have ci := h.ci hxn
  have zi := h.zi x
  have R : Hid (∀ q, RefR ((w.drewN q).setCell ⟨I, x, none⟩ (.bool false)) r I K n (ins.set x false) keys) := fun q => (h.below (below_drewN (Below.refl _ _) q)).setI x false
  have x0 : (0 : Int) ≤ (x : Int) := by omega
  have x1 : (x : Int) < (n : Int) := by omega
  rw [hz] at ci
  clear h hx hz
  generalize gI keys x = kk at *
  go_enter Try.func80, Try.ntmps80
  go_wp2_with (go_at_call 81; refine HM.out.mono ?_; rintro e w1 ⟨rfl, q, rfl⟩)
  go_ret3
  have R2 := R.out q
  exact ⟨rfl, R2, ((Kp.refl _ w).drewN q).setCell (.inl (by simp))⟩
end Go.Proofs.Ytiodpgannelgpaa
