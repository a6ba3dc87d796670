/-
  A queue in memory: its box, the rows of its items, places and keys.
-/
import Derived.Test.YtmlpbhankgojpaaMemB
import Derived.Test.YtmlpbhankgojpaaHpMath
namespace Go.Proofs.Ytmlpbhankgojpaa
open Go.RowKit HM
set_option linter.unusedSimpArgs false
set_option linter.unusedVariables false

/-- the box of a queue and its three rows -/
structure HS (w : World) (hb : Nat) (vi : Value) (P K n : Nat) (its : List Nat) (pl keys : List Int) : Prop where
  box : w.heap[hb]? = some (.cells #[vi, .slice (some ⟨P, 0, none⟩) n n, .slice (some ⟨K, 0, none⟩) n n] 80 (0, 0))
  ri : w.ownsRow 0 3 1 vi its.length (nats its)
  rp : w.ownsRow 0 3 1 (.slice (some ⟨P, 0, none⟩) n n) n (ints pl)
  rk : w.ownsRow 0 3 1 (.slice (some ⟨K, 0, none⟩) n n) n (ints keys)
  ib : vi.ownBlock ≠ some hb
  ip : vi.ownBlock ≠ some P
  ik : vi.ownBlock ≠ some K
  bp : hb ≠ P
  bk : hb ≠ K
  pk : P ≠ K
def vblk (v : Value) : List Nat := v.ownBlock.toList
theorem mem_vblk {v : Value} {g : Nat} : g ∈ vblk v ↔ v.ownBlock = some g := by unfold vblk; cases v.ownBlock <;> simp [eq_comm]
section
variable {w w' : World} {hb P K n : Nat} {vi : Value} {its : List Nat} {pl keys : List Int}
theorem HS.lenp (h : HS w hb vi P K n its pl keys) : pl.length = n := by have := h.rp.1; rw [ints_len] at this; omega
theorem HS.lenk (h : HS w hb vi P K n its pl keys) : keys.length = n := by have := h.rk.1; rw [ints_len] at this; omega
theorem HS.congr (h : HS w hb vi P K n its pl keys) (hk : ∀ g, g ∈ hb :: P :: K :: vblk vi → w'.heap[g]? = w.heap[g]?) : HS w' hb vi P K n its pl keys :=
  ⟨(hk hb (by simp)).trans h.box, row_congr h.ri (fun g hg => hk g (by simp [mem_vblk, hg])), row_congr h.rp (fun g hg => hk g (by simp [Value.ownBlock] at hg; simp [hg])),
    row_congr h.rk (fun g hg => hk g (by simp [Value.ownBlock] at hg; simp [hg])), h.ib, h.ip, h.ik, h.bp, h.bk, h.pk⟩
theorem HS.lt (h : HS w hb vi P K n its pl keys) : ∀ g ∈ hb :: P :: K :: vblk vi, g < w.heap.size := by
  intro g hg
  simp only [List.mem_cons, mem_vblk] at hg
  rcases hg with rfl | rfl | rfl | hg
  · exact lt_block h.box
  · exact (row_lt h.rp rfl).2
  · exact (row_lt h.rk rfl).2
  · exact (row_lt h.ri hg).2
theorem HS.below (h : HS w hb vi P K n its pl keys) (k : Below w.heap.size w w') : HS w' hb vi P K n its pl keys := h.congr fun g hg => k.block g (h.lt g hg)
theorem HS.kp {S : List Nat} (h : HS w hb vi P K n its pl keys) (k : Kp S w w') (hn : ∀ g ∈ hb :: P :: K :: vblk vi, g ∉ S) : HS w' hb vi P K n its pl keys := h.congr fun g hg => k.block g (h.lt g hg) (hn g hg)
theorem HS.drewN (h : HS w hb vi P K n its pl keys) (q : Nat) : HS (w.drewN q) hb vi P K n its pl keys := h.congr fun _ _ => rfl
theorem HS.drew (h : HS w hb vi P K n its pl keys) : HS w.drew hb vi P K n its pl keys := h.congr fun _ _ => rfl
theorem HS.form (h : HS w hb vi P K n its pl keys) (hp : 0 < its.length) : ∃ I ci, vi = .slice (some ⟨I, 0, none⟩) its.length ci ∧ its.length ≤ ci ∧ ci ≤ maxLen := by
  rcases h.ri.2 with ⟨rfl, hn⟩ | ⟨g, cap, cur, rfl, _, _, h1, h2, _⟩
  · omega
  · exact ⟨g, cap, rfl, h1, h2⟩
theorem HS.f0 (h : HS w hb vi P K n its pl keys) : w.cell? ⟨hb, 0, none⟩ = some vi := cell_of h.box rfl
theorem HS.f1 (h : HS w hb vi P K n its pl keys) : w.cell? ⟨hb, 1, none⟩ = some (.slice (some ⟨P, 0, none⟩) n n) := cell_of h.box rfl
theorem HS.f2 (h : HS w hb vi P K n its pl keys) : w.cell? ⟨hb, 2, none⟩ = some (.slice (some ⟨K, 0, none⟩) n n) := cell_of h.box rfl
theorem HS.fb (h : HS w hb vi P K n its pl keys) (o : Nat) : w.frozen? ⟨hb, o, none⟩ = false := free_of h.box o
theorem HS.cp (h : HS w hb vi P K n its pl keys) {x : Nat} (hx : x < n) : w.cell? ⟨P, x, none⟩ = some (.int .i64 (gI pl x)) := by
  rw [h.rp.cellAt x (by omega)]; exact ints_get (gI_get (by rw [h.lenp]; exact hx))
theorem HS.ck (h : HS w hb vi P K n its pl keys) {x : Nat} (hx : x < n) : w.cell? ⟨K, x, none⟩ = some (.int .i64 (gI keys x)) := by
  rw [h.rk.cellAt x (by omega)]; exact ints_get (gI_get (by rw [h.lenk]; exact hx))
theorem HS.fp (h : HS w hb vi P K n its pl keys) (o : Nat) : w.frozen? ⟨P, o, none⟩ = false := h.rp.frozenAt o
theorem HS.fk (h : HS w hb vi P K n its pl keys) (o : Nat) : w.frozen? ⟨K, o, none⟩ = false := h.rk.frozenAt o
variable {I ci L : Nat}
theorem HS.cellI (h : HS w hb (.slice (some ⟨I, 0, none⟩) L ci) P K n its pl keys) (hl : its.length = L) {x : Nat} (hx : x < L) : w.cell? ⟨I, x, none⟩ = some (.int .i64 (gN its x : Int)) := by
  subst hl
  rw [h.ri.cellAt x (by omega)]; exact nats_get (gN_get hx)
theorem HS.freeI (h : HS w hb (.slice (some ⟨I, 0, none⟩) L ci) P K n its pl keys) (hl : its.length = L) (o : Nat) : w.frozen? ⟨I, o, none⟩ = false := by subst hl; exact h.ri.frozenAt o
theorem HS.setI (h : HS w hb (.slice (some ⟨I, 0, none⟩) L ci) P K n its pl keys) (hl : its.length = L) (j x : Nat) : HS (w.setCell ⟨I, j, none⟩ (.int .i64 (x : Int))) hb (.slice (some ⟨I, 0, none⟩) L ci) P K n (its.set j x) pl keys := by
  subst hl
  have h1 := h.ib; have h2 := h.ip; have h3 := h.ik
  simp [Value.ownBlock] at h1 h2 h3
  have hs := (h.ri.stored j (.int .i64 (x : Int))).1
  rw [nats_set] at hs
  exact ⟨(heap_set_ne (fun e => h1 e.symm)).trans h.box, by simpa using hs, row_congr h.rp (fun g hg => heap_set_ne (by simp [Value.ownBlock] at hg; subst hg; exact fun e => h2 e.symm)),
    row_congr h.rk (fun g hg => heap_set_ne (by simp [Value.ownBlock] at hg; subst hg; exact fun e => h3 e.symm)), h.ib, h.ip, h.ik, h.bp, h.bk, h.pk⟩
theorem HS.setP (h : HS w hb vi P K n its pl keys) (j : Nat) (x : Int) : HS (w.setCell ⟨P, j, none⟩ (.int .i64 x)) hb vi P K n its (pl.set j x) keys := by
  have hs := (h.rp.stored j (.int .i64 x)).1
  rw [ints_set] at hs
  exact ⟨(heap_set_ne h.bp).trans h.box, row_congr h.ri (fun g hg => heap_set_ne (fun e => h.ip (by rw [hg, e]))), hs,
    row_congr h.rk (fun g hg => heap_set_ne (by simp [Value.ownBlock] at hg; subst hg; exact fun e => h.pk e.symm)), h.ib, h.ip, h.ik, h.bp, h.bk, h.pk⟩
theorem HS.setK (h : HS w hb vi P K n its pl keys) (j : Nat) (x : Int) : HS (w.setCell ⟨K, j, none⟩ (.int .i64 x)) hb vi P K n its pl (keys.set j x) := by
  have hs := (h.rk.stored j (.int .i64 x)).1
  rw [ints_set] at hs
  exact ⟨(heap_set_ne h.bk).trans h.box, row_congr h.ri (fun g hg => heap_set_ne (fun e => h.ik (by rw [hg, e]))),
    row_congr h.rp (fun g hg => heap_set_ne (by simp [Value.ownBlock] at hg; subst hg; exact h.pk)), hs, h.ib, h.ip, h.ik, h.bp, h.bk, h.pk⟩
/-- the box's first field anew -/
theorem HS.setB (h : HS w hb vi P K n its pl keys) {vi' : Value} {its' : List Nat} (hr : w.ownsRow 0 3 1 vi' its'.length (nats its')) (h1 : vi'.ownBlock ≠ some hb) (h2 : vi'.ownBlock ≠ some P) (h3 : vi'.ownBlock ≠ some K) :
    HS (w.setCell ⟨hb, 0, none⟩ vi') hb vi' P K n its' pl keys :=
  ⟨heap_set_eq h.box, row_congr hr (fun g hg => heap_set_ne (fun e => h1 (by rw [hg, e]))), row_congr h.rp (fun g hg => heap_set_ne (by simp [Value.ownBlock] at hg; subst hg; exact fun e => h.bp e.symm)),
    row_congr h.rk (fun g hg => heap_set_ne (by simp [Value.ownBlock] at hg; subst hg; exact fun e => h.bk e.symm)), h1, h2, h3, h.bp, h.bk, h.pk⟩
/-- the last item goes -/
theorem HS.pop (h : HS w hb (.slice (some ⟨I, 0, none⟩) L ci) P K n its pl keys) {m : Nat} (hl : its.length = L) (hm : L = m + 1) : w.ownsRow 0 3 1 (.slice (some ⟨I, 0, none⟩) m ci) (its.take m).length (nats (its.take m)) := by
  subst hl
  have e : nats its = nats (its.take m) ++ nats (its.drop m) := by simp only [nats, ← List.map_append, List.take_append_drop]
  have hl : (its.take m).length = m := by simp; omega
  have hr := h.ri
  rw [e, hm] at hr
  have := ownsRow_pop (by rw [nats_len, hl]; omega) hr
  rw [hl]; exact this
end
end Go.Proofs.Ytmlpbhankgojpaa
