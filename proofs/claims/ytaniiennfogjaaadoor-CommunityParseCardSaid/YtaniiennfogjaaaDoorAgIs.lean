/-
  Rows of addresses; the walk of the library's insertion sort at addresses.
-/
import Derived.Test.YtaniiennfogjaaaDoorCmB
namespace Go.Proofs.YtaniiennfogjaaaDoor
open Go.RowKit
set_option linter.unusedSimpArgs false
set_option linter.unusedVariables false
set_option maxHeartbeats 1500000
set_option maxRecDepth 100000

/-- a row of addresses of the call's own -/
def OwnA (B : Nat) (w : World) (v : Value) (l : List Nat) : Prop := B ≤ w.heap.size ∧ w.ownsRow B 27 1 v l.length (adV l)
theorem OwnA.below {B : Nat} {w w1 : World} {v : Value} {l : List Nat} (h : OwnA B w v l) (hb : Below w.heap.size w w1) : OwnA B w1 v l := ⟨Nat.le_trans h.1 hb.size, own_below h.2 hb⟩
theorem OwnA.drewN {B : Nat} {w : World} {v : Value} {l : List Nat} (h : OwnA B w v l) (q : Nat) : OwnA B (w.drewN q) v l := h
theorem OwnA.slice {B : Nat} {w : World} {v : Value} {l : List Nat} (h : OwnA B w v l) : ∃ ad cap, v = .slice ad l.length cap ∧ l.length ≤ cap ∧ ∀ (k x : Nat), l[k]? = some x → ∃ g : Nat, ad = some ⟨g, 0, none⟩ := by
  rcases h.2.2 with ⟨rfl, hn⟩ | ⟨g, cap, cur, rfl, hB, hg, hc, _⟩
  · obtain rfl := List.length_eq_zero_iff.1 hn
    exact ⟨none, 0, rfl, Nat.le_refl _, fun k x h => by simp at h⟩
  · exact ⟨some ⟨g, 0, none⟩, cap, rfl, hc, fun k x _ => ⟨g, rfl⟩⟩
theorem OwnA.cell {B g cap n : Nat} {w : World} {l : List Nat} (h : OwnA B w (.slice (some ⟨g, 0, none⟩) n cap) l) {k x : Nat} (hk : l[k]? = some x) (hn : n = l.length) : w.cell? ⟨g, k, none⟩ = some (.int .u32 (x : Int)) := by
  subst hn
  have := h.2.cellAt k (by have := (List.getElem?_eq_some_iff.1 hk).1; omega)
  rw [this]; exact adV_at hk
theorem OwnA.free {B g cap n : Nat} {w : World} {l : List Nat} (h : OwnA B w (.slice (some ⟨g, 0, none⟩) n cap) l) (k : Nat) : w.frozen? ⟨g, k, none⟩ = false := by
  rcases h.2.2 with ⟨h', _⟩ | ⟨g', cap', cur, h', hB, hg, _⟩
  · simp at h'
  · simp at h'
    obtain ⟨⟨rfl, _⟩, _⟩ := h'
    exact freeO hg _
theorem OwnA.base {B g cap n : Nat} {w : World} {l : List Nat} (h : OwnA B w (.slice (some ⟨g, 0, none⟩) n cap) l) : B ≤ g ∧ g < w.heap.size := by
  rcases h.2.2 with ⟨h', _⟩ | ⟨g', cap', cur, h', hB, hg, _⟩
  · simp at h'
  · simp at h'
    obtain ⟨⟨rfl, _⟩, _⟩ := h'
    exact ⟨hB, ltO hg⟩
theorem OwnA.set {B g cap n : Nat} {w : World} {l : List Nat} (h : OwnA B w (.slice (some ⟨g, 0, none⟩) n cap) l) (hn : n = l.length) (k z : Nat) : OwnA B (w.setCell ⟨g, k, none⟩ (.int .u32 (z : Int))) (.slice (some ⟨g, 0, none⟩) n cap) (l.set k z) := by
  subst hn
  refine ⟨by have := h.1; simpa [World.setCell] using this, ?_⟩
  have := (h.2.stored k (.int .u32 (z : Int))).1
  rw [adV_setL] at this
  rw [List.length_set]; exact this
theorem nan_any (x : Nat) (w : World) : Calls Tryd.prog 87 #[.int .u32 (x : Int)] w fun e w' => e = .returned (.bool false) ∧ w = w' := by
  go_enter Tryd.func87, Tryd.ntmps87
  go_wp2
  go_ret
  exact ⟨rfl, rfl⟩
theorem less_any (x y : Nat) (w : World) : Calls Tryd.prog 71 #[.int .u32 (x : Int), .int .u32 (y : Int)] w fun e w' => e = .returned (.bool (decide (x < y))) ∧ w = w' := by
  have hd : decide ((x : Int) < (y : Int)) = decide (x < y) := by simp
  go_enter Tryd.func71, Tryd.ntmps71
  go_wp2_with (go_at_call 87; refine (nan_any x _).mono ?_; rintro en w1 ⟨rfl, rfl⟩)
  go_ret
  exact ⟨by simp, rfl⟩
end Go.Proofs.YtaniiennfogjaaaDoor
