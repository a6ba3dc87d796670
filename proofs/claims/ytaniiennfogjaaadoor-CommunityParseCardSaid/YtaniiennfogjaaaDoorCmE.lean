/-
  Rows of communities of the call's own: what is appended, what they read as.
-/
import Derived.Test.YtaniiennfogjaaaDoorAgIs
import Derived.Test.YtaniiennfogjaaaDoorCmA
import Derived.Test.YtaniiennfogjaaaDoorMa
import Derived.Laws.ResultCell
namespace Go.Proofs.YtaniiennfogjaaaDoor
open Go.RowKit T
set_option linter.unusedSimpArgs false
set_option linter.unusedVariables false
set_option maxHeartbeats 1500000
set_option maxRecDepth 100000

theorem infoE_parts {t : TypeId} {z : Value} {a b : Nat} (h : (Tryd.prog.info? t).map (fun i => (i.zero, i.size, i.bytes)) = some (some z, a, b)) : ∃ i, Tryd.prog.info? t = some i ∧ i.zero = some z ∧ i.size = a ∧ i.bytes = b := by
  cases hi : Tryd.prog.info? t with
  | none => rw [hi] at h; cases h
  | some i =>
    rw [hi] at h
    simp only [Option.map_some, Option.some.injEq, Prod.mk.injEq] at h
    exact ⟨i, rfl, h.1, h.2.1, h.2.2⟩
theorem info27 : (Tryd.prog.info? 27).map (fun i => (i.zero, i.size, i.bytes)) = some (some (.int .u32 0), 1, 4) := by kernel_rfl
theorem one_u32 (x : Int) : ∀ u ∈ [Value.int .u32 x], u.oneCell' = true := by intro u hu; simp at hu; subst hu; rfl
theorem cellU_new (w : World) (x : Value) (t : TypeId) {b : Nat} (hb : b = w.heap.size) : ∀ j u, [x][j]? = some u → (w.alloc (.cells #[x] t)).cell? ((⟨b, 0, none⟩ : Addr).add j) = some u := by
  subst hb
  intro j u hj
  match j, hj with
  | 0, hj => simp at hj; subst hj; simp [Addr.add]
  | (j + 1), hj => simp at hj
theorem OwnA.nil (B : Nat) (w : World) (h : B ≤ w.heap.size) : OwnA B w (.slice none 0 0) [] := ⟨h, World.ownsRow_nil _ _ _ _⟩
theorem OwnA.rd {B : Nat} {w : World} {v : Value} {l : List Nat} (h : OwnA B w v l) (h32 : W32 l) : Rd w v l := rd_own h.2 h32
theorem OwnA.base_le {B C : Nat} {w : World} {v : Value} {l : List Nat} (h : OwnA B w v l) (hB : C ≤ B) : OwnA C w v l := ⟨Nat.le_trans hB h.1, own_base h.2 hB⟩
theorem OwnA.lt {B : Nat} {w : World} {v : Value} {l : List Nat} (h : OwnA B w v l) : ∀ k, v.ownBlock = some k → B ≤ k ∧ k < w.heap.size := h.2.lt
/-- o in a row of the call's own, nothing older changed -/
def InsS (w : World) (v : Value) (o : List Nat) (W : World) : Prop := OwnA w.heap.size W v o ∧ Below w.heap.size w W
theorem InsS.push {w W W2 : World} {v v' : Value} {o : List Nat} (h : InsS w v o W) (y : Nat) (ob : Obj) (hown : W2.ownsRow w.heap.size 27 1 v' (o.length + 1) (adV o ++ [.int .u32 (y : Int)])) (hg : (W.alloc ob).grownBy W2 v.ownBlock) : InsS w v' (o ++ [y]) W2 := by
  have hb : Below w.heap.size w W2 := (h.2.alloc h.2.size ob).grown hg (by have := h.2.size; simp; omega) (fun k hk => (h.1.lt k hk).1)
  refine ⟨⟨hb.size, ?_⟩, hb⟩
  have e : adV (o ++ [y]) = adV o ++ [.int .u32 (y : Int)] := by simp [adV]
  rw [e, List.length_append]
  exact hown
theorem InsS.below {w W W2 : World} {v : Value} {o : List Nat} (h : InsS w v o W) (hb : Below W.heap.size W W2) : InsS w v o W2 := ⟨h.1.below hb, h.2.trans (hb.mono h.2.size)⟩
theorem InsS.start (w : World) : InsS w (.slice none 0 0) [] w := ⟨OwnA.nil _ _ (Nat.le_refl _), Below.refl _ _⟩
end Go.Proofs.YtaniiennfogjaaaDoor
