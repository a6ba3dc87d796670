/-
  The walks of the trie's small functions: covers, toward, needed.
-/
import Derived.Test.YtegponbmelgngaaTrieMem
import Derived.Test.YtegponbmelgngaaWalkG
namespace Go.Proofs.Ytegponbmelgngaa
open Go.RowKit
set_option linter.unusedSimpArgs false
set_option linter.unusedVariables false
set_option maxHeartbeats 1000000

theorem ret_p {a b : Value} (h : a = b) : Ending.returned a = .returned b := by rw [h]
theorem toward_any {g : Nat} {p : PP} {x : Int} {s : Bool} {c d : Value} (b : Nat) (hb : b < 4294967296) (m : Int) (w : World) (hI : I64 p.2) (h : IsNode w g p x s c d) :
    Calls Try.prog 114 #[.pointer (some ⟨g, 0, none⟩), .agg #[.int .u32 b, .int .i64 m]] w fun e w' => e = .returned (.pointer (some ⟨g, 4 + atZ b p.2, none⟩)) ∧ Below w.heap.size w w' := by
  obtain ⟨a, n⟩ := p
  have hc := h.cells
  have hlt := h.lt
  have H := Lib.hid h
  clear h
  obtain ⟨-, h1, -, -, -, -⟩ := hc
  have hz := atZ_le b n
  have f1 : (w.alloc (.cells #[.int .u32 (b : Int), .int .i64 m] 28)).cell? ⟨g, 1, none⟩ = some (.int .i64 n) := by rw [← h1]; exact World.cell?_of_block (Below.heap_alloc _ _ _ hlt)
  clear h1
  go_enter Try.func114, Try.ntmps114
  go_wp2
  go_quiet ((go_at_call 136; exact Calls.quiet_of_same ((at_any b hb n hI _).mono fun _ _ h => ⟨h.1, h.2.symm⟩)))
  go_wp2
  go_ret
  exact ⟨by simp, below_drewN (below_alloc _ _) _⟩

theorem toward_0 {g : Nat} {p : PP} {x : Int} {s : Bool} {c d : Value} (b : Nat) (hb : b < 4294967296) (m : Int) (w : World) (hI : I64 p.2) (h : IsNode w g p x s c d) (h0 : atZ b p.2 = 0) :
    Calls Try.prog 114 #[.pointer (some ⟨g, 0, none⟩), .agg #[.int .u32 b, .int .i64 m]] w fun e w' => e = .returned (.pointer (some ⟨g, 4, none⟩)) ∧ Below w.heap.size w w' :=
  (toward_any b hb m w hI h).mono fun _ _ k => ⟨by rw [k.1, h0], k.2⟩
theorem toward_1 {g : Nat} {p : PP} {x : Int} {s : Bool} {c d : Value} (b : Nat) (hb : b < 4294967296) (m : Int) (w : World) (hI : I64 p.2) (h : IsNode w g p x s c d) (h0 : atZ b p.2 = 1) :
    Calls Try.prog 114 #[.pointer (some ⟨g, 0, none⟩), .agg #[.int .u32 b, .int .i64 m]] w fun e w' => e = .returned (.pointer (some ⟨g, 5, none⟩)) ∧ Below w.heap.size w w' :=
  (toward_any b hb m w hI h).mono fun _ _ k => ⟨by rw [k.1, h0], k.2⟩

theorem covN_nil (b : Nat) (m : Int) (w : World) :
    Calls Try.prog 112 #[.pointer none, .agg #[.int .u32 b, .int .i64 m]] w fun e w' => e = .returned (.bool false) ∧ Below w.heap.size w w' := by
  go_enter Try.func112, Try.ntmps112
  go_wp2
  go_quiet (fail)
  go_wp2
  go_ret
  exact ⟨rfl, below_drewN (below_alloc _ _) _⟩
theorem covN_any {g : Nat} {p : PP} {x : Int} {s : Bool} {c d : Value} (hp : PV p) (b : Nat) (hb : b < 4294967296) (m : Int) (hm : I64 m) (w : World) (h : IsNode w g p x s c d) :
    Calls Try.prog 112 #[.pointer (some ⟨g, 0, none⟩), .agg #[.int .u32 b, .int .i64 m]] w fun e w' => e = .returned (.bool (C p (b, m))) ∧ Below w.heap.size w w' := by
  have hI := (V_iff p).1 hp.2
  obtain ⟨a, n⟩ := p
  have ha : a < 4294967296 := hp.1
  have hn : I64 n := by have h1 := hI.1; have h2 := hI.2.1; dsimp only at h1 h2; constructor <;> omega
  have hc := h.cells
  have hlt := h.lt
  have HX := Lib.hid (show C (a, n) (b, m) = cov a n b m from rfl)
  clear h hI hp
  obtain ⟨h0, h1, -, -, -, -⟩ := hc
  have f0 : (w.alloc (.cells #[.int .u32 (b : Int), .int .i64 m] 28)).cell? ⟨g, 0, none⟩ = some (.int .u32 (a : Int)) := by rw [← h0]; exact World.cell?_of_block (Below.heap_alloc _ _ _ hlt)
  have f1 : (w.alloc (.cells #[.int .u32 (b : Int), .int .i64 m] 28)).cell? ⟨g, 1, none⟩ = some (.int .i64 n) := by rw [← h1]; exact World.cell?_of_block (Below.heap_alloc _ _ _ hlt)
  clear h0 h1
  go_enter Try.func112, Try.ntmps112
  go_wp2
  go_region_held3 (fun w' => w'.cell? ⟨g, 0, none⟩ = some (.int .u32 a) ∧ w'.cell? ⟨g, 1, none⟩ = some (.int .i64 n) ∧ w'.cell? ⟨w.heap.size, 0, none⟩ = some (.int .u32 b) ∧ w'.cell? ⟨w.heap.size, 1, none⟩ = some (.int .i64 m) ∧ Boxed w w')
    (first | exact ⟨f0, f1, by simp [*], by simp [*], boxed_box _ _⟩ | go_keep)
    (first | (go_at_call 137; refine (covers_any _ (by omega) _ (by omega) _ (by omega) _ (by omega) _).mono ?_; rintro e w1 ⟨rfl, hb⟩; have hk := keep4 ‹_› hb; clear hb))
  all_goals go_wp2
  go_ret
  exact ⟨ret_b HX.out.symm, by obtain ⟨_, _, _, _, hB⟩ := hk; exact hB.1⟩

def needV (g : Nat) (s : Bool) (u1 u2 : Option Addr) : Option Addr := if s = true ∨ (u1 ≠ none ∧ u2 ≠ none) then some ⟨g, 0, none⟩ else if u1 ≠ none then u1 else u2
theorem sub_l {g : Nat} {gl gr : List Nat} : gl.Sublist (g :: (gl ++ gr)) := (List.sublist_append_left _ _).trans (List.sublist_cons_self _ _)
theorem sub_r {g : Nat} {gl gr : List Nat} : gr.Sublist (g :: (gl ++ gr)) := (List.sublist_append_right _ _).trans (List.sublist_cons_self _ _)
theorem isNil_ptr {w : World} {T : Sh} {u : Option Addr} {gs : List Nat} (h : Lies w T (.pointer u) gs) : T.isNil = decide (u = none) := by
  cases T
  · obtain ⟨h1, _⟩ := h; cases h1; rfl
  · obtain ⟨g, c, d, gl, gr, h1, _⟩ := h; cases h1; rfl
end Go.Proofs.Ytegponbmelgngaa
