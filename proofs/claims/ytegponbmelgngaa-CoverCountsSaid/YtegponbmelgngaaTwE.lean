/-
  The visitors of the trie's walks: the collector's add, the closure of nearest.
-/
import Derived.Test.YtegponbmelgngaaTwC
import Derived.Deep.AppendLies
import Derived.Deep.RegionLaw
namespace Go.Proofs.Ytegponbmelgngaa
open Go.RowKit
set_option linter.unusedSimpArgs false
set_option linter.unusedVariables false
set_option maxHeartbeats 4000000
set_option maxRecDepth 100000

/-- an entry's three cells -/
def encE (x : En) : List Value := [.int .u32 (x.1.1 : Int), .int .i64 x.1.2, .int .i64 x.2]
def flatE (l : List En) : List Value := l.flatMap encE
theorem flatE_len (l : List En) : (flatE l).length = l.length * 3 := by
  induction l with
  | nil => rfl
  | cons x r ih => unfold flatE at *; rw [List.flatMap_cons, List.length_append, ih, List.length_cons, encE]; simp; omega
theorem flatE_snoc (l : List En) (x : En) : flatE (l ++ [x]) = flatE l ++ encE x := by unfold flatE; simp
theorem flatE_app (l m : List En) : flatE (l ++ m) = flatE l ++ flatE m := by unfold flatE; simp
theorem info51 : (Try.prog.info? 51).map (fun i => (i.zero, i.size, i.bytes)) = some (some (.agg #[.int .u32 0, .int .i64 0, .int .i64 0]), 3, 24) := by kernel_rfl
theorem info_parts {t : TypeId} {z : Value} {a b : Nat} (h : (Try.prog.info? t).map (fun i => (i.zero, i.size, i.bytes)) = some (some z, a, b)) : ∃ i, Try.prog.info? t = some i ∧ i.zero = some z ∧ i.size = a ∧ i.bytes = b := by
  cases hi : Try.prog.info? t with
  | none => rw [hi] at h; cases h
  | some i => rw [hi] at h; simp at h; exact ⟨i, rfl, h.1, h.2.1, h.2.2⟩
theorem cell_three_new (w : World) (x y z : Value) (t : TypeId) : ∀ j u, [x, y, z][j]? = some u → (w.alloc (.cells #[x, y, z] t)).cell? ((⟨w.heap.size, 0, none⟩ : Addr).add j) = some u := by
  intro j u hj
  match j, hj with
  | 0, hj => simp at hj; subst hj; simp [Addr.add]
  | 1, hj => simp at hj; subst hj; simp [Addr.add]
  | 2, hj => simp at hj; subst hj; simp [Addr.add]
  | (j + 3), hj => simp at hj
theorem one_three (a : Nat) (n x : Int) : ∀ u ∈ [Value.int .u32 (a : Int), .int .i64 n, .int .i64 x], u.oneCell' = true := by
  intro u hu; simp at hu; rcases hu with rfl | rfl | rfl <;> rfl

theorem cell_three_at (w : World) (x y z : Value) (t : TypeId) {b : Nat} (hb : b = w.heap.size) : ∀ j u, [x, y, z][j]? = some u → (w.alloc (.cells #[x, y, z] t)).cell? ((⟨b, 0, none⟩ : Addr).add j) = some u := by
  subst hb; exact cell_three_new w x y z t
theorem own_below {w w1 : World} {B n e k : Nat} {v : Value} {xs : List Value} (h : w.ownsRow B e k v n xs) (hb : Below w.heap.size w w1) : w1.ownsRow B e k v n xs :=
  ⟨h.1, h.2.imp id (fun ⟨g, cap, cur, a, b, c, d⟩ => ⟨g, cap, cur, a, b, (hb.block g (Array.getElem?_eq_some_iff.1 c).1).trans c, d⟩)⟩

/-- a collector at block B that holds L, its row away from the blocks P -/
def ColI (B : Nat) (P : List Nat) (L : List En) (W : World) : Prop := ∃ v, W.heap[B]? = some (.cells #[v] 9105 (0, 0)) ∧ W.ownsRow (B + 1) 51 3 v L.length (flatE L) ∧ ∀ m ∈ P, v.ownBlock ≠ some m
/-- what a visitor whose blocks begin at B leaves alone -/
structure Ch (B : Nat) (P : List Nat) (w w' : World) : Prop where
  os : w'.os = w.os
  tape : w'.tape = w.tape
  output : w'.output = w.output
  size : w.heap.size ≤ w'.heap.size
  block : ∀ k, k < w.heap.size → (k < B ∨ k ∈ P) → w'.heap[k]? = w.heap[k]?
theorem Ch.refl (B : Nat) (P : List Nat) (w : World) : Ch B P w w := ⟨rfl, rfl, rfl, Nat.le_refl _, fun _ _ _ => rfl⟩
theorem Ch.of_below {B : Nat} {P : List Nat} {w w' : World} (h : Below w.heap.size w w') : Ch B P w w' := ⟨h.os, h.tape, h.output, h.size, fun k hk _ => h.block k hk⟩
theorem Ch.trans {B : Nat} {P : List Nat} {a b c : World} (h : Ch B P a b) (k : Ch B P b c) : Ch B P a c :=
  ⟨k.os.trans h.os, k.tape.trans h.tape, k.output.trans h.output, Nat.le_trans h.size k.size, fun i hi hp => (k.block i (Nat.lt_of_lt_of_le hi h.size) hp).trans (h.block i hi hp)⟩
theorem Ch.then {B : Nat} {P : List Nat} {a b c : World} (h : Ch B P a b) (k : Below b.heap.size b c) : Ch B P a c := h.trans (Ch.of_below k)
theorem Ch.less {B m : Nat} {P : List Nat} {a b : World} (h : Ch B (m :: P) a b) : Ch B P a b := ⟨h.os, h.tape, h.output, h.size, fun k hk hp => h.block k hk (hp.imp id (fun h => List.mem_cons_of_mem _ h))⟩
theorem Ch.carry {B : Nat} {P : List Nat} {a b : World} (h : Ch B P a b) {p : Addr} {v : Value} (hp : p.block < B ∨ p.block ∈ P) (hc : a.cell? p = some v) : b.cell? p = some v := by
  rw [← hc]; exact World.cell?_of_block (h.block _ (World.block_lt_of_cell? _ _ hc) hp)
theorem Ch.below {B B' : Nat} {P : List Nat} {a b : World} (h : Ch B P a b) (hB : B' ≤ B) (hs : B' ≤ a.heap.size) : Below B' a b := ⟨h.os, h.tape, h.output, h.size, fun k hk => h.block k (by omega) (.inl (by omega))⟩
theorem Lies.ch {B : Nat} {P : List Nat} {w w' : World} {T : Sh} {v : Value} {gs : List Nat} (h : Lies w T v gs) (k : Ch B P w w') (hb : ∀ g ∈ gs, g < B) : Lies w' T v gs := h.congr fun g hg => k.block g (h.lt g hg) (.inl (hb g hg))
theorem IsNode.ch {B : Nat} {P : List Nat} {w w' : World} {g : Nat} {p : PP} {x : Int} {s : Bool} {c d : Value} (h : IsNode w g p x s c d) (k : Ch B P w w') (hb : g < B) : IsNode w' g p x s c d := h.congr (k.block g h.lt (.inl hb))

theorem own_lt {w : World} {B n e k : Nat} {v : Value} {xs : List Value} (h : w.ownsRow B e k v n xs) {g : Nat} (hg : v.ownBlock = some g) : B ≤ g ∧ g < w.heap.size := by
  rcases h.2 with ⟨rfl, _⟩ | ⟨g', cap, cur, rfl, hb, hc, _⟩
  · simp [Value.ownBlock] at hg
  · simp [Value.ownBlock] at hg; subst hg; exact ⟨hb, (Array.getElem?_eq_some_iff.1 hc).1⟩
theorem ColI.below {B : Nat} {P : List Nat} {L : List En} {W W1 : World} (h : ColI B P L W) (hb : Below W.heap.size W W1) : ColI B P L W1 := by
  obtain ⟨v, h1, h2, h3⟩ := h
  exact ⟨v, (hb.block B (lt_of_block h1)).trans h1, own_below h2 hb, h3⟩
theorem ColI.more {B m : Nat} {P : List Nat} {L : List En} {W : World} (h : ColI B P L W) (hm : W.heap.size ≤ m) : ColI B (m :: P) L W := by
  obtain ⟨v, h1, h2, h3⟩ := h
  refine ⟨v, h1, h2, fun k hk e => ?_⟩
  rcases List.mem_cons.1 hk with rfl | hk
  · have := (own_lt h2 e).2; omega
  · exact h3 k hk e
theorem ColI.less {B m : Nat} {P : List Nat} {L : List En} {W : World} (h : ColI B (m :: P) L W) : ColI B P L W := by
  obtain ⟨v, h1, h2, h3⟩ := h
  exact ⟨v, h1, h2, fun k hk => h3 k (List.mem_cons_of_mem _ hk)⟩
theorem ColI.lt {B : Nat} {P : List Nat} {L : List En} {W : World} (h : ColI B P L W) : B < W.heap.size := by obtain ⟨v, h1, _⟩ := h; exact lt_of_block h1

/-- the variables of nearest: the last entry, whether there is one -/
def NearI (B : Nat) (P : List Nat) (L : List En) (W : World) : Prop :=
  W.heap[B]? = some (.cells #[.int .u32 ((L.getLastD ((0, 0), 0)).1.1 : Int), .int .i64 (L.getLastD ((0, 0), 0)).1.2, .int .i64 (L.getLastD ((0, 0), 0)).2] 51 (0, 0)) ∧ W.heap[B + 1]? = some (.cells #[.bool (!L.isEmpty)] 4 (0, 0))
theorem NearI.below {B : Nat} {P : List Nat} {L : List En} {W W1 : World} (h : NearI B P L W) (hb : Below W.heap.size W W1) : NearI B P L W1 :=
  ⟨(hb.block B (lt_of_block h.1)).trans h.1, (hb.block (B + 1) (lt_of_block h.2)).trans h.2⟩
theorem NearI.more {B m : Nat} {P : List Nat} {L : List En} {W : World} (h : NearI B P L W) (hm : W.heap.size ≤ m) : NearI B (m :: P) L W := h
theorem NearI.less {B m : Nat} {P : List Nat} {L : List En} {W : World} (h : NearI B (m :: P) L W) : NearI B P L W := h
theorem NearI.lt {B : Nat} {P : List Nat} {L : List En} {W : World} (h : NearI B P L W) : B + 1 < W.heap.size := lt_of_block h.2
theorem near_any (B : Nat) (P : List Nat) (L : List En) (e : En) (w : World) (h : NearI B P L w) (hlen : L.length ≤ 1000) (hP : ∀ m ∈ P, m < w.heap.size ∧ B + 1 < m) :
    Calls Try.prog 116 #[.agg #[.int .u32 (e.1.1 : Nat), .int .i64 e.1.2, .int .i64 e.2], .pointer (some ⟨B, 0, none⟩), .pointer (some ⟨B + 1, 0, none⟩)] w fun en w' => en = .returned (.tuple #[]) ∧ NearI B P (L ++ [e]) w' ∧ Ch B P w w' := by
  obtain ⟨hB, hC⟩ := h
  obtain ⟨⟨a, n⟩, x⟩ := e
  have hBlt := lt_of_block hB
  have hClt := lt_of_block hC
  have c0 : ∃ u, w.cell? ⟨B, 0, none⟩ = some u := ⟨_, by simp only [World.cell?, hB]; rfl⟩
  have c1 : ∃ u, w.cell? ⟨B, 1, none⟩ = some u := ⟨_, by simp only [World.cell?, hB]; rfl⟩
  have c2 : ∃ u, w.cell? ⟨B, 2, none⟩ = some u := ⟨_, by simp only [World.cell?, hB]; rfl⟩
  have f0 : ∀ o, w.frozen? ⟨B, o, none⟩ = false := fun o => by simp [World.frozen?, hB]
  have c3 := cell_of_one hC
  have f3 := free_of_one hC
  obtain ⟨u0, c0⟩ := c0
  obtain ⟨u1, c1⟩ := c1
  obtain ⟨u2, c2⟩ := c2
  have HB := Lib.hid hB
  have HC := Lib.hid hC
  have HP := Lib.hid hP
  clear hB hC hP
  go_enter Try.func116, Try.ntmps116
  go_wp2
  go_end0
  have ne : B + 1 ≠ B := by omega
  refine ⟨rfl, ⟨?_, ?_⟩, ?_⟩
  · rw [List.getLastD_concat, Below.heap_alloc _ _ _ (by simpa using hBlt), heap_set_ne (by omega), heap_set_eq (heap_set_eq (heap_set_eq HB.out))]; rfl
  · rw [Below.heap_alloc _ _ _ (by simpa using hClt), heap_set_eq ((heap_set_ne ne).trans ((heap_set_ne ne).trans ((heap_set_ne ne).trans HC.out)))]; simp
  · refine ⟨rfl, rfl, rfl, by simp, fun k hk hp => ?_⟩
    have hkB : k ≠ B ∧ k ≠ B + 1 := by
      rcases hp with h | h
      · omega
      · have := (HP.out k h).2; omega
    rw [Below.heap_alloc _ _ _ (by simpa using hk), heap_set_ne hkB.2, heap_set_ne hkB.1, heap_set_ne hkB.1, heap_set_ne hkB.1]
end Go.Proofs.Ytegponbmelgngaa
