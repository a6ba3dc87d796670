/-
  The walk of the reference's Insert: a list of prefixes as memory holds it, one round, the whole.
-/
import Derived.Test.YtegponbmelgngaaGreatMgWb
import Derived.Test.YtegponbmelgngaaGreatMgP
import Derived.Deep.LoopGhost
import Derived.Deep.Draws
section
namespace Go.Proofs.YtegponbmelgngaaGreat
open Go.RowKit
set_option linter.unusedSimpArgs false
set_option linter.unusedVariables false
set_option maxHeartbeats 4000000
set_option maxRecDepth 100000

theorem cmpP_of_lt {x y : PP} (h : ltP x y) : cmpP x.1 x.2 y.1 y.2 = -1 := by
  unfold ltP at h; unfold cmpP
  rcases h with h | ⟨h1, h2⟩
  · rw [if_pos h]
  · rw [if_neg (by omega), if_neg (by omega)]; exact cmpI_lt h2
theorem cmpP_self (x : PP) : cmpP x.1 x.2 x.1 x.2 = 0 := by
  unfold cmpP; rw [if_neg (by omega), if_neg (by omega)]; exact cmpI_eq _
theorem cmpP_of_gt {x y : PP} (h : ltP y x) : cmpP x.1 x.2 y.1 y.2 = 1 := by
  unfold ltP at h; unfold cmpP
  rcases h with h | ⟨h1, h2⟩
  · rw [if_neg (by omega), if_pos h]
  · rw [if_neg (by omega), if_neg (by omega)]; exact cmpI_gt h2

/-- a prefix's two cells -/
def encP (x : PP) : List Value := [.int .u32 (x.1 : Int), .int .i64 x.2]
def flat (l : List PP) : List Value := l.flatMap encP
theorem flat_len (l : List PP) : (flat l).length = l.length * 2 := by
  induction l with
  | nil => rfl
  | cons x r ih => unfold flat at *; rw [List.flatMap_cons, List.length_append, ih, List.length_cons, encP]; simp; omega
theorem flat_snoc (l : List PP) (x : PP) : flat (l ++ [x]) = flat l ++ encP x := by unfold flat; simp
theorem flat_get : ∀ (l : List PP) (k : Nat) (x : PP), l[k]? = some x → (flat l)[k * 2]? = some (.int .u32 (x.1 : Int)) ∧ (flat l)[k * 2 + 1]? = some (.int .i64 x.2)
  | [], k, x, h => by simp at h
  | y :: r, 0, x, h => by simp at h; subst h; simp [flat, encP]
  | y :: r, k + 1, x, h => by
    have ih := flat_get r k x (by simpa using h)
    have e : flat (y :: r) = .int .u32 (y.1 : Int) :: .int .i64 y.2 :: flat r := by simp [flat, encP]
    rw [e, show (k + 1) * 2 = k * 2 + 1 + 1 by omega, show k * 2 + 1 + 1 + 1 = (k * 2 + 1) + 1 + 1 by omega]
    simpa using ih

/-- a slice of prefixes as the memory reads -/
def Rd (w : World) (v : Value) (l : List PP) : Prop :=
  ∃ ad cap, v = .slice ad l.length cap ∧ ∀ k x, l[k]? = some x → ∃ b off, ad = some ⟨b, off, none⟩ ∧ b < w.heap.size ∧ w.cell? ⟨b, off + k * 2, none⟩ = some (.int .u32 (x.1 : Int)) ∧ w.cell? ⟨b, off + k * 2 + 1, none⟩ = some (.int .i64 x.2)
theorem Rd.below {w w' : World} {v : Value} {l : List PP} (h : Rd w v l) (hb : Below w.heap.size w w') : Rd w' v l := by
  obtain ⟨ad, cap, rfl, hc⟩ := h
  refine ⟨ad, cap, rfl, fun k x hk => ?_⟩
  obtain ⟨b, off, e, hlt, h0, h1⟩ := hc k x hk
  exact ⟨b, off, e, Nat.lt_of_lt_of_le hlt hb.size, by rw [hb.cell hlt]; exact h0, by rw [hb.cell hlt]; exact h1⟩
theorem rd_nil (w : World) : Rd w (.slice none 0 0) [] := ⟨none, 0, rfl, fun k x h => by simp at h⟩
theorem rd_own {w : World} {B : Nat} {v : Value} {l : List PP} (h : w.ownsRow B 35 2 v l.length (flat l)) : Rd w v l := by
  rcases h.2 with ⟨rfl, hn⟩ | ⟨g, cap, cur, rfl, hB, hg, hnc, _, _, _⟩
  · obtain rfl := List.length_eq_zero_iff.1 hn
    exact rd_nil w
  · refine ⟨some ⟨g, 0, none⟩, cap, rfl, fun k x hk => ⟨g, 0, rfl, (Array.getElem?_eq_some_iff.1 hg).1, ?_, ?_⟩⟩
    · have hlt := (List.getElem?_eq_some_iff.1 hk).1
      rw [Nat.zero_add, h.cellAt (k * 2) (by omega)]; exact (flat_get l k x hk).1
    · have hlt := (List.getElem?_eq_some_iff.1 hk).1
      rw [Nat.zero_add, h.cellAt (k * 2 + 1) (by omega)]; exact (flat_get l k x hk).2
theorem ownP_below {w w1 : World} {B n e k : Nat} {v : Value} {xs : List Value} (h : w.ownsRow B e k v n xs) (hb : Below w.heap.size w w1) : w1.ownsRow B e k v n xs :=
  ⟨h.1, h.2.imp id (fun ⟨g, cap, cur, a, b, c, d⟩ => ⟨g, cap, cur, a, b, (hb.block g (Array.getElem?_eq_some_iff.1 c).1).trans c, d⟩)⟩
theorem ownP_lt {w : World} {B n e k : Nat} {v : Value} {xs : List Value} (h : w.ownsRow B e k v n xs) {g : Nat} (hg : v.ownBlock = some g) : B ≤ g ∧ g < w.heap.size := by
  rcases h.2 with ⟨rfl, _⟩ | ⟨g', cap, cur, rfl, hb, hc, _⟩
  · simp [Value.ownBlock] at hg
  · simp [Value.ownBlock] at hg; subst hg; exact ⟨hb, (Array.getElem?_eq_some_iff.1 hc).1⟩
theorem infoP_parts {t : TypeId} {z : Value} {a b : Nat} (h : (Tryz.prog.info? t).map (fun i => (i.zero, i.size, i.bytes)) = some (some z, a, b)) : ∃ i, Tryz.prog.info? t = some i ∧ i.zero = some z ∧ i.size = a ∧ i.bytes = b := by
  cases hi : Tryz.prog.info? t with
  | none => rw [hi] at h; cases h
  | some i => rw [hi] at h; simp at h; exact ⟨i, rfl, h.1, h.2.1, h.2.2⟩
theorem cellP_two_new (w : World) (x y : Value) (t : TypeId) {b : Nat} (hb : b = w.heap.size) : ∀ j u, [x, y][j]? = some u → (w.alloc (.cells #[x, y] t)).cell? ((⟨b, 0, none⟩ : Addr).add j) = some u := by
  subst hb
  intro j u hj
  match j, hj with
  | 0, hj => simp at hj; subst hj; simp [Addr.add]
  | 1, hj => simp at hj; subst hj; simp [Addr.add]
  | (j + 2), hj => simp at hj
theorem own_base {w : World} {B B' n : Nat} {v : Value} {xs : List Value} (h : w.ownsRow B' 35 2 v n xs) (hB : B ≤ B') : w.ownsRow B 35 2 v n xs :=
  ⟨h.1, h.2.imp id (fun ⟨g, cap, cur, a, b, c⟩ => ⟨g, cap, cur, a, Nat.le_trans hB b, c⟩)⟩
theorem one_two (a : Nat) (n : Int) : ∀ u ∈ [Value.int .u32 (a : Int), .int .i64 n], u.oneCell' = true := by
  intro u hu; simp at hu; rcases hu with rfl | rfl <;> rfl
theorem info35 : (Tryz.prog.info? 35).map (fun i => (i.zero, i.size, i.bytes)) = some (some (.agg #[.int .u32 0, .int .i64 0]), 2, 16) := by kernel_rfl

end Go.Proofs.YtegponbmelgngaaGreat
end
