/-
  A map from nodes to rows of nodes, as the program makes it; work that is put behind a slice that began further on.
-/
import Derived.Test.YtmlpbhankgojpaaSpIns
import Derived.Test.YtmlpbhankgojpaaFrame
import Derived.Test.YtmlpbhankgojpaaSpMg
import Derived.Maps.OwnRows
import Derived.Maps.GroupsBeside
import Derived.Maps.Views
namespace Go.Proofs.Ytmlpbhankgojpaa
open Go.RowKit Go.Maps Go.ChangeShapes HM SP
set_option linter.unusedSimpArgs false
set_option linter.unusedVariables false
set_option maxRecDepth 100000

theorem ownE_base0 {w : World} {B n e k : Nat} {v : Value} {xs : List Value} (h : w.ownsRow B e k v n xs) : w.ownsRow 0 e k v n xs :=
  ⟨h.1, h.2.imp id (fun ⟨g, cap, cur, a, _, c, d⟩ => ⟨g, cap, cur, a, Nat.zero_le _, c, d⟩)⟩
/-- a key -/
abbrev kI (x : Int) : Lit := .int .i64 x
theorem kI_wf {x : Int} (h : I64 x) : (kI x).wf = true := WalkArith.wf_i64 (by unfold I64 at h; omega)
theorem kI_key {x : Int} (h : I64 x) : keyOf Try.prog 3 (.int .i64 x) = some (kI x) := Maps.keyOf_int_mk Try.underlying3 (kI_wf h)
theorem kI_is {x : Int} (h : I64 x) : WideAt.IsKeyLit (kI x) := (Maps.int_keyed Try.underlying3).key (kI_key h)
theorem kI_keyed : Maps.Keyed Try.prog 3 := Maps.int_keyed Try.underlying3
theorem kI_inj {x y : Int} (h : kI x = kI y) : x = y := by cases h; rfl
theorem zero25 (w : World) : (zeroValue 25).run Try.prog w = .ok (.slice none 0 0) w := by kernel_rfl
def rowD (l : List Int) : DataW Unit := match l with | [] => .nil | x :: r => .slice (lits .i64 (x :: r)) []
theorem rowD_ne {l : List Int} (h : l ≠ []) : rowD l = .slice (lits .i64 l) [] := by cases l with | nil => exact absurd rfl h | cons x r => rfl
/-- the datum of rows by node -/
def NxD (D : DataW Unit) (next : Int → List Int) : Prop := Maps.IsMap D ∧ ∀ p, I64 p → D.atKey (kI p) .nil = rowD (next p)
theorem nxD_nil : NxD (.map []) (fun _ => []) := ⟨⟨_, rfl⟩, fun p _ => rfl⟩
theorem lits_inj {a b : List Int} (h : lits (H := Unit) .i64 a = lits .i64 b) : a = b := by
  unfold lits at h
  exact (List.map_inj_right (fun x y hxy => by cases hxy; rfl)).1 h
theorem NxD.look {D : DataW Unit} {next : Int → List Int} (h : NxD D next) {p : Int} (hp : I64 p) {w : World} {base : Nat} {e : TypeId} {v : Value} {zs : List Int} (hat : D.atKey (kI p) .nil = rowDatum .i64 v zs) (ho : w.ownsInts base e .i64 v zs) : zs = next p := by
  rw [h.2 p hp] at hat
  by_cases hn : next p = []
  · rw [hn] at hat
    change DataW.nil = _ at hat
    rcases ho.datum (H := Unit) with ⟨_, h2⟩ | h1
    · rw [hn, h2]
    · rw [h1] at hat; cases hat
  · rw [rowD_ne hn] at hat
    rcases ho.datum (H := Unit) with ⟨h1, _⟩ | h1
    · rw [h1] at hat; cases hat
    · rw [h1] at hat
      injection hat with e1
      exact (lits_inj e1).symm
theorem NxD.put {D : DataW Unit} {next : Int → List Int} (h : NxD D next) {p : Int} (hp : I64 p) {zs : List Int} (hz : zs ≠ []) : NxD (D.put (kI p) (.slice (lits .i64 zs) [])) (fun u => if u = p then zs else next u) := by
  refine ⟨h.1.put _ _, fun u hu => ?_⟩
  dsimp only
  by_cases e : u = p
  · subst e
    rw [Maps.atKey_put_same h.1 (kI_is hu), if_pos rfl, rowD_ne hz]
  · rw [Maps.atKey_put_other (fun h => e (kI_inj h)), h.2 u hu, if_neg e]
theorem NxD.congr {D : DataW Unit} {next next' : Int → List Int} (h : NxD D next) (he : ∀ p, next p = next' p) : NxD D next' := by
  have : next = next' := funext he
  rw [← this]; exact h
/-- rows by node in memory, none of which lies in block g -/
def MG (w : World) (B n : Nat) (next : Int → List Int) (g : Nat) : Prop := ∃ D : DataW Unit, w.ownsGroups Try.prog 3 (B + 1) 3 .i64 B n D ∧ NxD D next ∧ w.Shuns B (fun b => b = g)
theorem MG.lt {w : World} {B n g : Nat} {next : Int → List Int} (h : MG w B n next g) : B < w.heap.size := by
  obtain ⟨D, ⟨es, clock, hb, _⟩, _⟩ := h
  exact (Array.getElem?_eq_some_iff.1 hb).1
theorem MG.grow {w w' : World} {B n g : Nat} {next : Int → List Int} (h : MG w B n next g) (hg : w.grownBy w' none) : MG w' B n next g := by
  have hl := h.lt
  obtain ⟨D, h1, h2, h3⟩ := h
  exact ⟨D, h1.kept hg (by simp) (fun es clock hb x hx => by cases h : x.val.ownBlock <;> simp), h2, h3.kept hg hl (by simp)⟩
/-- the work's own block has grown -/
theorem MG.work {w w' : World} {B n g : Nat} {next : Int → List Int} (h : MG w B n next g) (hg : w.grownBy w' (some g)) (hne : B ≠ g) : MG w' B n next g := by
  have hl := h.lt
  obtain ⟨D, h1, h2, h3⟩ := h
  have hb : some B ≠ some g := fun e => hne (by injection e)
  exact ⟨D, h1.kept hg hb (h3.rowsOff (fun j hj => by cases hj; rfl)), h2, h3.kept hg hl hb⟩
/-- the work has another block -/
theorem MG.other {w w' : World} {B n g g' : Nat} {next : Int → List Int} (h : MG w B n next g) (hg : w.grownBy w' none) (hg' : w.heap.size ≤ g') : MG w' B n next g' := by
  have hl := h.lt
  obtain ⟨D, h1, h2, h3⟩ := h
  exact ⟨D, h1.kept hg (by simp) (fun es clock hb x hx => by cases h : x.val.ownBlock <;> simp), h2, (h3.reno h1 (fun b hb => .inr (by subst hb; exact hg'))).kept hg hl (by simp)⟩
/-- work: a slice into block g -/
structure WK (w : World) (B0 g off cap : Nat) (wk : List Int) : Prop where
  lo : B0 ≤ g
  len : wk.length ≤ cap
  capm : off + cap ≤ maxLen
  row : ∃ xs : List Value, RowC w g xs ∧ xs.length = off + cap ∧ (xs.drop off).take wk.length = ints wk
theorem WK.cell {w : World} {B0 g off cap : Nat} {wk : List Int} (h : WK w B0 g off cap wk) {j : Nat} {x : Int} (hj : wk[j]? = some x) : w.cell? ⟨g, off + j, none⟩ = some (.int .i64 x) := by
  obtain ⟨xs, h1, h2, h3⟩ := h.row
  have hjl := (List.getElem?_eq_some_iff.1 hj).1
  rw [h1.cell]
  have e : ((xs.drop off).take wk.length)[j]? = some (.int .i64 x) := by rw [h3]; exact ints_get hj
  rw [List.getElem?_take, if_pos hjl, List.getElem?_drop] at e
  exact e
theorem WK.congr {w w' : World} {B0 g off cap : Nat} {wk : List Int} (h : WK w B0 g off cap wk) (hk : w'.heap[g]? = w.heap[g]?) : WK w' B0 g off cap wk := by
  obtain ⟨xs, h1, h2, h3⟩ := h.row
  exact ⟨h.lo, h.len, h.capm, xs, hk.trans h1, h2, h3⟩
theorem WK.lt {w : World} {B0 g off cap : Nat} {wk : List Int} (h : WK w B0 g off cap wk) : g < w.heap.size := by
  obtain ⟨xs, h1, _⟩ := h.row
  exact lt_block h1
theorem WK.tail {w : World} {B0 g off cap : Nat} {x : Int} {wk : List Int} (h : WK w B0 g off cap (x :: wk)) : WK w B0 g (off + 1) (cap - 1) wk := by
  obtain ⟨xs, h1, h2, h3⟩ := h.row
  have hl := h.len
  have hc := h.capm
  simp only [List.length_cons] at hl h3
  refine ⟨h.lo, by omega, by omega, xs, h1, by omega, ?_⟩
  have e : xs.drop (off + 1) = (xs.drop off).tail := by rw [List.tail_drop]
  rw [e]
  cases hys : xs.drop off with
  | nil => rw [hys] at h3; simp [ints] at h3
  | cons y ys =>
    rw [hys] at h3
    rw [List.take_succ_cons] at h3
    simp only [ints, List.map_cons, List.cons.injEq] at h3
    rw [List.tail_cons]
    exact h3.2
/-- one more behind it, there is room -/
theorem WK.room {w : World} {B0 g off cap : Nat} {wk : List Int} (h : WK w B0 g off cap wk) (hr : wk.length < cap) (x : Int) : WK (w.setCells g (off + wk.length) [.int .i64 x]) B0 g off cap (wk ++ [x]) := by
  obtain ⟨xs, h1, h2, h3⟩ := h.row
  have hlt : off + wk.length < xs.length := by omega
  have e0 : xs = xs.take (off + wk.length) ++ [xs[off + wk.length]] ++ xs.drop (off + wk.length + 1) := by
    rw [List.append_assoc, List.singleton_append, ← List.drop_eq_getElem_cons hlt, List.take_append_drop]
  have hal : (xs.take (off + wk.length)).length = off + wk.length := by rw [List.length_take]; omega
  have hs := RowC.sets [.int .i64 x] (W := w) (g := g) (a := xs.take (off + wk.length)) (b := [xs[off + wk.length]]) (c := xs.drop (off + wk.length + 1)) rfl (by rw [← e0]; exact h1)
  rw [hal] at hs
  refine ⟨h.lo, by rw [List.length_append]; simp; omega, h.capm, _, hs, ?_, ?_⟩
  · rw [List.length_append, List.length_append, hal, List.length_drop]; simp; omega
  · rw [List.append_assoc, List.drop_append_of_le_length (by omega), List.drop_take, show off + wk.length - off = wk.length by omega, h3, List.length_append, ints_app]
    rw [← List.append_assoc, List.take_left' (by rw [List.length_append, ints_len]; rfl)]
    rfl
/-- work in a row of its own -/
theorem WK.of_own {w : World} {B0 : Nat} {v : Value} {wk : List Int} {n : Nat} (h : w.ownsRow B0 3 1 v n (ints wk)) (h0 : 0 < n) : ∃ g cap, v = .slice (some ⟨g, 0, none⟩) n cap ∧ n = wk.length ∧ WK w B0 g 0 cap wk := by
  obtain ⟨ad, cap, rfl, hne⟩ := own_form h
  obtain ⟨g, rfl⟩ := hne h0
  have hlo := (row_lt h rfl).1
  have h' : w.ownsRow 0 3 1 (.slice (some ⟨g, 0, none⟩) n cap) n (ints wk) := ownE_base0 h
  obtain ⟨hn, sp, h1, h2, h3, h4⟩ := own_rowC h'
  subst hn
  exact ⟨g, cap, rfl, rfl, hlo, h3, by omega, _, h1, by omega, by rw [List.drop_zero, ← ints_len, List.take_left' rfl]⟩
end Go.Proofs.Ytmlpbhankgojpaa
