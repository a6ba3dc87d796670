/-
  The walk of the library's Repeat at one number.
-/
import Derived.Test.YtiobfgcpbihbhaaGreatDoorAsO
import Derived.Test.YtiobfgcpbihbhaaGreatDoorAsLay
import Derived.Deep.DeepCutAuto
import Derived.BigQuiet
import Derived.Deep.OwnRows
import Derived.Shelf.Spec.SlicesInsert
import Derived.Deep.RegionLaw
namespace Go.Proofs.YtiobfgcpbihbhaaGreatDoor
open Go.RowKit P Go.Lib
set_option linter.unusedSimpArgs false
set_option linter.unusedVariables false
set_option maxHeartbeats 4000000
set_option maxRecDepth 100000
theorem info_parts {t : TypeId} {z : Value} {a b : Nat} (h : (Tryz.prog.info? t).map (fun i => (i.zero, i.size, i.bytes)) = some (some z, a, b)) : ∃ i, Tryz.prog.info? t = some i ∧ i.zero = some z ∧ i.size = a ∧ i.bytes = b := by
  cases hi : Tryz.prog.info? t with
  | none => rw [hi] at h; cases h
  | some i => rw [hi] at h; simp at h; exact ⟨i, rfl, h.1, h.2.1, h.2.2⟩
theorem make_ints (n : Nat) (hn : n ≤ 65536) (w : World) : (Instr.makeSlice 34 (.int .i64 (n : Int)) (.int .i64 (n : Int))).run Tryz.prog w = .ok (.slice (some ⟨w.heap.size, 0, none⟩) n n) (w.alloc (.cells (madeCells #[.int .i64 0] n) 3)) :=
  run_make_row' 34 3 (.int .i64 0) 8 Tryz.underlying34 info3 rfl .i64 .i64 n (by omega) (by omega) w
theorem made_row (w : World) (n : Nat) (hn : n ≤ 65536) {b : Nat} (hb : b = w.heap.size) : (w.alloc (.cells (madeCells #[.int .i64 0] n) 3)).ownsRow 0 3 1 (.slice (some ⟨b, 0, none⟩) n n) n (ints (List.replicate n 0)) := by
  subst hb
  have := World.ownsRow_lit (base := 0) (e := 3) (size := 1) w (madeCells #[.int .i64 0] n) n (Nat.zero_le _) (by unfold maxLen; omega) (by rw [size_madeCells]; omega)
  rw [toList_madeCells_one] at this
  simpa [ints] using this
/-- k cells are filled -/
def fill (x : Int) (n k : Nat) : List Int := List.replicate k x ++ List.replicate (n - k) 0
theorem fill_len {x : Int} {n k : Nat} (h : k ≤ n) : (fill x n k).length = n := by unfold fill; simp; omega
/-- block g is a row of integers with just these cells -/
def RowC (W : World) (g : Nat) (xs : List Value) : Prop := W.heap[g]? = some (.cells xs.toArray 3 (0, 0))
theorem RowC.sets : ∀ (vs : List Value) {W : World} {g : Nat} {a b c : List Value}, b.length = vs.length → RowC W g (a ++ b ++ c) → RowC (W.setCells g a.length vs) g (a ++ vs ++ c)
  | [], W, g, a, b, c, hb, h => by
    have : b = [] := List.length_eq_zero_iff.1 hb
    subst this; exact h
  | v :: vs, W, g, a, [], c, hb, h => by simp at hb
  | v :: vs, W, g, a, b0 :: b, c, hb, h => by
    have h1 : RowC (W.setCell ⟨g, a.length, none⟩ v) g ((a ++ [v]) ++ b ++ c) := by
      unfold RowC at h ⊢
      rw [heap_set_eq h]
      congr 2
      simp
    have h2 := RowC.sets vs (a := a ++ [v]) (by simpa using hb) h1
    have e : (a ++ [v]).length = a.length + 1 := by simp
    rw [e] at h2
    have e2 : a ++ v :: vs ++ c = a ++ [v] ++ vs ++ c := by simp
    rw [e2]; exact h2
theorem RowC.cell {W : World} {g : Nat} {xs : List Value} (h : RowC W g xs) (j : Nat) : W.cell? ⟨g, j, none⟩ = xs[j]? := by
  unfold RowC at h; simp [World.cell?, h]
theorem RowC.free {W : World} {g : Nat} {xs : List Value} (h : RowC W g xs) (j : Nat) : W.frozen? ⟨g, j, none⟩ = false := free_of h j
theorem rowC_own {g cap : Nat} {W : World} {r : List Int} {xs : List Value} (h : RowC W g xs) (hx : xs.length = cap) (hn : r.length ≤ cap) (hm : cap ≤ maxLen) (ht : xs.take r.length = ints r) : W.ownsRow 0 3 1 (.slice (some ⟨g, 0, none⟩) r.length cap) r.length (ints r) :=
  ⟨by rw [ints_len]; omega, .inr ⟨g, cap, xs.toArray, rfl, Nat.zero_le _, h, hn, hm, by simpa using hx, by simpa using ht⟩⟩
theorem own_rowC {g cap n : Nat} {W : World} {r : List Int} (h : W.ownsRow 0 3 1 (.slice (some ⟨g, 0, none⟩) n cap) n (ints r)) : n = r.length ∧ ∃ sp, RowC W g (ints r ++ sp) ∧ (ints r ++ sp).length = cap ∧ r.length ≤ cap ∧ cap ≤ maxLen := by
  have hl : n = r.length := by have := h.1; rw [ints_len] at this; omega
  rcases h.2 with ⟨h', _⟩ | ⟨g', cap', cur, h', hb, hg, hnc, hcm, hcs, htake⟩
  · cases h'
  · injection h' with e1 e2 e3
    injection e1 with e1
    injection e1 with e1 _ _
    subst e1 e3
    subst hl
    have e : cur.toList = ints r ++ cur.toList.drop (r.length * 1) := by rw [← htake, List.take_append_drop]
    have e' : cur = (ints r ++ cur.toList.drop (r.length * 1)).toArray := by rw [← e]
    refine ⟨rfl, cur.toList.drop (r.length * 1), ?_, ?_, hnc, hcm⟩
    · unfold RowC
      rw [← e']; exact hg
    · rw [← e]; simpa using hcs
theorem fill_split {x : Int} {n k m : Nat} (h1 : 0 < k) (h2 : k < n) (hm : m = min k (n - k)) : ints (fill x n k) = (ints (fill x k k) ++ ints (List.replicate m 0)) ++ ints (List.replicate (n - k - m) 0) ∧ ints (fill x n (k + m)) = (ints (fill x k k) ++ ints (List.replicate m x)) ++ ints (List.replicate (n - k - m) 0) := by
  unfold fill
  rw [← ints_app, ← ints_app, ← ints_app, ← ints_app]
  constructor
  · congr 1
    have hm2 : m + (n - k - m) = n - k := by omega
    have hrep := List.replicate_append_replicate (n := m) (m := n - k - m) (a := (0 : Int))
    rw [hm2] at hrep
    rw [← hrep]
    simp
  · congr 1
    have hrep := List.replicate_append_replicate (n := k) (m := m) (a := x)
    rw [show n - (k + m) = n - k - m by omega, ← hrep]
    simp
theorem setCells_below' {B : Nat} {w : World} {blk : Nat} (hB : B ≤ blk) : ∀ (vs : List Value) (s : Nat) (W : World), Below B w W → Below B w (W.setCells blk s vs)
  | [], _, _, h => h
  | v :: vs, s, W, h => setCells_below' hB vs (s + 1) _ (h.setCell hB _)
theorem repeat_any (x : Int) (w : World) (b n : Nat) (hn : 0 < n) (hn2 : n ≤ 255) (hc : w.cell? ⟨b, 0, none⟩ = some (.int .i64 x)) (hb : b < w.heap.size) :
    Calls Tryz.prog 56 #[.slice (some ⟨b, 0, none⟩) 1 1, .int .i64 (n : Int)] w fun e w' => ∃ g, e = .returned (.slice (some ⟨g, 0, none⟩) n n) ∧ w.heap.size ≤ g ∧ w'.ownsRow 0 3 1 (.slice (some ⟨g, 0, none⟩) n n) n (ints (List.replicate n x)) ∧ Below w.heap.size w w' := by
  have HM : Hid (∀ W, Calls Tryz.prog 83 #[.int .u64 1, .int .u64 (n : Int)] W fun e w' => e = .returned (.tuple #[.int .u64 0, .int .u64 (n : Int)]) ∧ w' = W) := fun W => by
    have := Tryz.bits_Mul 1 n (by omega) (by omega) W
    refine Calls.mono this ?_
    rintro e w' ⟨rfl, rfl⟩
    refine ⟨?_, rfl⟩
    rw [Nat.one_mul, show n / 18446744073709551616 = 0 by omega, show n % 18446744073709551616 = n by omega]; rfl
  have hmk := make_ints n (by omega)
  have n0 : (0 : Int) ≤ (n : Int) := by omega
  have n1 : ¬ (n : Int) < 0 := by omega
  have n2 : ¬ (9223372036854775807 : Int) < (n : Int) := by omega
  have HC := Lib.hid hc
  have hsz : ((Tryz.prog.info? 3).map (·.size)) = some 1 := by
    obtain ⟨i0, hi, h0, h1, h2⟩ := info_parts info3
    rw [hi]; simp [h1]
  have hrow0 : RowC (w.alloc (.cells (madeCells #[.int .i64 0] n) 3)) w.heap.size (ints (fill x n 0)) := by
    obtain ⟨_, sp, h1, h2, _⟩ := own_rowC (r := List.replicate n 0) (made_row w n (by omega) rfl)
    have : sp = [] := by
      rw [List.length_append, ints_len, List.length_replicate] at h2
      exact List.length_eq_zero_iff.1 (by omega)
    subst this
    rw [List.append_nil] at h1
    simpa [fill] using h1
  have hrow1 : RowC ((w.alloc (.cells (madeCells #[.int .i64 0] n) 3)).setCells w.heap.size 0 [.int .i64 x]) w.heap.size (ints (fill x n 1)) := by
    obtain ⟨m, rfl⟩ : ∃ m, n = m + 1 := ⟨n - 1, by omega⟩
    have := RowC.sets [.int .i64 x] (a := []) (b := [.int .i64 0]) (c := ints (List.replicate m 0)) rfl (by simpa [fill, ints, List.replicate_succ] using hrow0)
    simpa [fill, ints] using this
  have hcp : ∀ ty, (Builtin.copy_ #[34, 34] ty #[.slice (some ⟨w.heap.size, 0, none⟩) n n, .slice (some ⟨b, 0, none⟩) 1 1]).run Tryz.prog (w.alloc (.cells (madeCells #[.int .i64 0] n) 3)) = .ok (goInt 1) ((w.alloc (.cells (madeCells #[.int .i64 0] n) 3)).setCells w.heap.size 0 [.int .i64 x]) := fun ty => by
    have := run_copy_cells (P := Tryz.prog) (w.alloc (.cells (madeCells #[.int .i64 0] n) 3)) 34 34 ty 3 w.heap.size 0 n n ⟨b, 0, none⟩ 1 1 [.int .i64 x] Tryz.underlying34 hsz (by simp [Nat.min_def]; omega) (fun j v hj => ?_) (fun j hj => ?_) (fun j hj => hrow0.free _) (fun v hv => by simp at hv; subst hv; rfl)
    · simpa using this
    · have hj1 : j = 0 := by have := (List.getElem?_eq_some_iff.1 hj).1; simpa using this
      subst hj1
      rw [Addr.add_lit]
      show (w.alloc _).cell? ⟨b, 0, none⟩ = _
      rw [(below_alloc w _).cell hb, hc]; simpa using hj
    · rw [hrow0.cell, List.getElem?_eq_getElem (by rw [ints_len, fill_len (by omega)]; simp at hj; omega)]; rfl
  have HB : Hid (RowC ((w.alloc (.cells (madeCells #[.int .i64 0] n) 3)).setCells w.heap.size 0 [.int .i64 x]) w.heap.size (ints (fill x n 1)) ∧ Below w.heap.size w ((w.alloc (.cells (madeCells #[.int .i64 0] n) 3)).setCells w.heap.size 0 [.int .i64 x])) := ⟨hrow1, setCells_below' (Nat.le_refl _) _ _ _ (below_alloc _ _)⟩
  clear hc hrow0 hrow1
  go_enter Tryz.func56, Tryz.ntmps56
  go_wp2_with (first
    | (go_at_call 83; refine (HM.out _).mono ?_; rintro e w1 ⟨rfl, rfl⟩)
    | (at_builtin; refine wpList_copy_runI _ rfl _ _ 34 34 rfl _ _ rfl rfl (hcp _) ?_))
  generalize (w1.alloc (.cells (madeCells #[.int .i64 0] n) 3)).setCells w1.heap.size 0 [.int .i64 x] = W at *
  go_loopg [8] n (fun g s8 wr => ∃ k : Nat, 0 < k ∧ k ≤ n ∧ n - k ≤ g ∧ s8 = .int .i64 (k : Int) ∧ Hid (RowC wr w1.heap.size (ints (fill x n k)) ∧ Below w1.heap.size w1 wr))
  case atStart => exact ⟨1, by omega, by omega, by omega, rfl, HB⟩
  case round =>
    clear HB hcp
    obtain ⟨k, hk0, hk, hkg, rfl, HR⟩ := hrel
    by_cases hlt : k < n
    · obtain ⟨m, hm⟩ : ∃ m, m = min k (n - k) := ⟨_, rfl⟩
      obtain ⟨f1, f2⟩ := fill_split hk0 hlt hm
      have hrow := HR.out.1
      have hk5 : (ints (fill x k k)).length = k := by rw [ints_len, fill_len (Nat.le_refl _)]
      have hnl : (ints (fill x n k)).length = n := by rw [ints_len, fill_len hk]
      have hR2 : RowC (wr.drew.setCells w1.heap.size k (ints (List.replicate m x))) w1.heap.size (ints (fill x n (k + m))) := by
        rw [f2]
        have := RowC.sets (ints (List.replicate m x)) (W := wr.drew) (a := ints (fill x k k)) (b := ints (List.replicate m 0)) (c := ints (List.replicate (n - k - m) 0)) (by rw [ints_len, ints_len]; simp) (by rw [← f1]; exact hrow)
        rwa [hk5] at this
      have hcp : ∀ ty, (Builtin.copy_ #[34, 34] ty #[.slice (some ⟨w1.heap.size, k, none⟩) (n - k) (n - k), .slice (some ⟨w1.heap.size, 0, none⟩) k n]).run Tryz.prog wr.drew = .ok (goInt m) (wr.drew.setCells w1.heap.size k (ints (List.replicate m x))) := fun ty => by
        have := run_copy_cells (P := Tryz.prog) wr.drew 34 34 ty 3 w1.heap.size k (n - k) (n - k) ⟨w1.heap.size, 0, none⟩ k n (ints (List.replicate m x)) Tryz.underlying34 hsz (by rw [ints_len, List.length_replicate, hm]) (fun j v hj => ?_) (fun j hj => ?_) (fun j hj => hrow.free _) (ints_one _)
        · rw [ints_len, List.length_replicate] at this; exact this
        · have hjm := (List.getElem?_eq_some_iff.1 hj).1
          rw [ints_len, List.length_replicate] at hjm
          rw [Addr.add_lit, Nat.zero_add]
          show wr.cell? ⟨w1.heap.size, j, none⟩ = some v
          rw [hrow.cell, f1, List.append_assoc, List.getElem?_append_left (by rw [hk5]; omega)]
          have hjk : j < k := by omega
          have e1 : (ints (fill x k k))[j]? = some (.int .i64 x) := ints_get (by unfold fill; rw [List.getElem?_append_left (by rw [List.length_replicate]; exact hjk)]; simp [hjk])
          have e2 : (ints (List.replicate m x))[j]? = some (.int .i64 x) := ints_get (by simp [hjm])
          rw [e1, ← e2, hj]
        · rw [ints_len, List.length_replicate] at hj
          show (wr.cell? _).isSome = true
          rw [hrow.cell, List.getElem?_eq_getElem (by rw [hnl]; omega)]; rfl
      have HR2 : Hid (RowC (wr.drew.setCells w1.heap.size k (ints (List.replicate m x))) w1.heap.size (ints (fill x n (k + m))) ∧ Below w1.heap.size w1 (wr.drew.setCells w1.heap.size k (ints (List.replicate m x)))) := ⟨hR2, setCells_below' (Nat.le_refl _) _ _ _ HR.out.2.drew⟩
      have hm1 : 0 < m := by omega
      have hm2 : k + m ≤ n := by omega
      have k0 : (0 : Int) ≤ (k : Int) := by omega
      have k1 : (k : Int) < (n : Int) := by omega
      have k2 : (k : Int) ≤ (n : Int) := by omega
      have hnk : ¬ n = k := by omega
      clear f1 f2 hrow hR2 hk5 hnl hm
      generalize wr.drew.setCells w1.heap.size k (ints (List.replicate m x)) = W2 at *
      go_upto_region 9 with (fail)
      go_region_law (refine step_copy_runI rfl _ _ 34 34 rfl _ _ (by simp [Act.eval, Act.put, hnk]) (by simp [Act.eval, Act.put, hnk]) (hcp _) ?_)
      go_wp2_with fail
      go_roundg (n - (k + m))
      case measure => omega
      case rel => exact ⟨k + m, by omega, by omega, Nat.le_refl _, val_i (by rw [IntKind.wrap_i64]; omega), HR2⟩
    · have hkn : Hid (k = n) := by show _ = _; omega
      have k1 : decide ((k : Int) < (n : Int)) = false := decide_eq_false (by omega)
      go_wp2
      go_ret
      have h1 := HR.out.1
      rw [hkn.out, show fill x n n = List.replicate n x by unfold fill; simp] at h1
      have := rowC_own (cap := n) (r := List.replicate n x) h1 (by rw [ints_len, List.length_replicate]) (by rw [List.length_replicate]; exact Nat.le_refl _) (by unfold maxLen; omega) (by rw [List.take_of_length_le (by rw [ints_len]; exact Nat.le_refl _)])
      rw [List.length_replicate] at this
      exact ⟨w1.heap.size, rfl, Nat.le_refl _, this, HR.out.2⟩
theorem repeat0_any (w : World) (b : Nat) (v : Value) (hc : w.cell? ⟨b, 0, none⟩ = some v) (hb : b < w.heap.size) :
    Calls Tryz.prog 56 #[.slice (some ⟨b, 0, none⟩) 1 1, .int .i64 0] w fun e w' => ∃ v', e = .returned v' ∧ InsI w v' [] w' := by
  have HM : Hid (∀ W, Calls Tryz.prog 83 #[.int .u64 1, .int .u64 0] W fun e w' => e = .returned (.tuple #[.int .u64 0, .int .u64 0]) ∧ w' = W) := fun W => by
    have := Tryz.bits_Mul 1 0 (by omega) (by omega) W
    refine Calls.mono this ?_
    rintro e w' ⟨rfl, rfl⟩
    exact ⟨rfl, rfl⟩
  have hmk := make_ints 0 (by omega)
  have hmk0 : ∀ (w : World), (Instr.makeSlice 34 (.int .i64 0) (.int .i64 0)).run Tryz.prog w = .ok (.slice (some ⟨w.heap.size, 0, none⟩) 0 0) (w.alloc (.cells (madeCells #[.int .i64 0] 0) 3)) := make_ints 0 (by omega)
  have hsz : ((Tryz.prog.info? 3).map (·.size)) = some 1 := by
    obtain ⟨i0, hi, h0, h1, h2⟩ := info_parts info3
    rw [hi]; simp [h1]
  have hrow : (w.alloc (.cells (madeCells #[.int .i64 0] 0) 3)).ownsRow w.heap.size 3 1 (.slice (some ⟨w.heap.size, 0, none⟩) 0 0) 0 [] := World.ownsRow_made w (madeCells #[.int .i64 0] 0) 0 (Nat.le_refl _) (Nat.zero_le _) (by simp [madeCells])
  have HI : Hid (InsI w (.slice (some ⟨w.heap.size, 0, none⟩) 0 0) [] (w.alloc (.cells (madeCells #[.int .i64 0] 0) 3))) := ⟨⟨(below_alloc _ _).size, hrow⟩, below_alloc _ _⟩
  have hcp : ∀ ty, (Builtin.copy_ #[34, 34] ty #[.slice (some ⟨w.heap.size, 0, none⟩) 0 0, .slice (some ⟨b, 0, none⟩) 1 1]).run Tryz.prog (w.alloc (.cells (madeCells #[.int .i64 0] 0) 3)) = .ok (goInt 0) (w.alloc (.cells (madeCells #[.int .i64 0] 0) 3)) := fun ty => by
    have := run_copy_cells (P := Tryz.prog) (w.alloc (.cells (madeCells #[.int .i64 0] 0) 3)) 34 34 ty 3 w.heap.size 0 0 0 ⟨b, 0, none⟩ 1 1 [] Tryz.underlying34 hsz (by simp) (fun j v hj => by simp at hj) (fun j hj => by simp at hj) (fun j hj => by simp at hj) (fun v hv => by simp at hv)
    exact this
  clear hrow hsz
  go_enter Tryz.func56, Tryz.ntmps56
  go_wp2_with (first
    | (go_at_call 83; refine (HM.out _).mono ?_; rintro e w1 ⟨rfl, rfl⟩)
    | (at_builtin; refine wpList_copy_runI _ rfl _ _ 34 34 rfl _ _ rfl rfl (hcp _) ?_))
  generalize (w1.alloc (.cells (madeCells #[.int .i64 0] 0) 3)) = W at *
  refine wp_loop_rounds 1 ?_
  rw [rounds_succ]
  go_wp2
  go_ret
  exact ⟨.slice (some ⟨w1.heap.size, 0, none⟩) 0 0, rfl, HI.out⟩
theorem repeat_ins (x : Int) (w : World) (b n : Nat) (hn2 : n ≤ 255) (hc : w.cell? ⟨b, 0, none⟩ = some (.int .i64 x)) (hb : b < w.heap.size) :
    Calls Tryz.prog 56 #[.slice (some ⟨b, 0, none⟩) 1 1, .int .i64 (n : Int)] w fun e w' => ∃ v', e = .returned v' ∧ InsI w v' (List.replicate n x) w' := by
  by_cases h0 : n = 0
  · subst h0
    exact repeat0_any w b _ hc hb
  · refine (repeat_any x w b n (by omega) hn2 hc hb).mono ?_
    rintro e w' ⟨g, rfl, hg, ho, hbl⟩
    refine ⟨_, rfl, ⟨hbl.size, ?_⟩, hbl⟩
    rw [List.length_replicate]
    exact ⟨ho.1, ho.2.imp id (fun ⟨g', cap, cur, e, hB, r⟩ => ⟨g', cap, cur, e, by cases e; exact hg, r⟩)⟩

end Go.Proofs.YtiobfgcpbihbhaaGreatDoor
