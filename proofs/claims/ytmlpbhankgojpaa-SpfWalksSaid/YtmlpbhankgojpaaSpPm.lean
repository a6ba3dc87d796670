/-
  Path's mathematics and memory: the least of those that follow, and a map that loses what lies behind.
-/
import Derived.Test.YtmlpbhankgojpaaSpOn
import Derived.Maps.OwnSet
namespace Go.Proofs.Ytmlpbhankgojpaa
open Go.RowKit Go.Maps Go.ChangeShapes HM GM SP
set_option linter.unusedSimpArgs false
set_option linter.unusedVariables false
set_option maxRecDepth 100000

theorem foldl_min : ∀ (zs : List Int) (a : Int), (zs.foldl min a = a ∨ zs.foldl min a ∈ zs) ∧ zs.foldl min a ≤ a ∧ ∀ y ∈ zs, zs.foldl min a ≤ y
  | [], a => ⟨.inl rfl, Int.le_refl _, fun y h => by cases h⟩
  | x :: r, a => by
    obtain ⟨h1, h2, h3⟩ := foldl_min r (min a x)
    rw [List.foldl_cons]
    refine ⟨?_, by omega, fun y hy => ?_⟩
    · rcases h1 with h | h
      · by_cases e : a ≤ x
        · exact .inl (by rw [h]; omega)
        · exact .inr (by rw [h, show min a x = x by omega]; simp)
      · exact .inr (List.mem_cons_of_mem _ h)
    · rcases List.mem_cons.1 hy with e | e
      · subst e; omega
      · exact h3 y e
theorem minOf_spec {zs : List Int} (h : zs ≠ []) : Lib.minOf zs ∈ zs ∧ ∀ y ∈ zs, Lib.minOf zs ≤ y := by
  cases zs with
  | nil => exact absurd rfl h
  | cons x r =>
    unfold Lib.minOf
    obtain ⟨h1, h2, h3⟩ := foldl_min (x :: r) x
    refine ⟨?_, h3⟩
    rcases h1 with e | e
    · simp only [List.headD_cons]; rw [e]; simp
    · exact e
/-- the least that follows is the next one -/
theorem nxt_min {l : List E} {root z u : Int} {next : Int → List Int} (hq : OnQ l root z next) (hne : next u ≠ []) : Nxt l root z u (Lib.minOf (next u)) := by
  obtain ⟨h1, h2⟩ := minOf_spec hne
  exact ⟨(hq u _).1 h1, fun y a b => h2 y ((hq u y).2 ⟨a, b⟩)⟩
theorem next_ne {R N : Int} {l : List E} (hv : Valid R N l) {root z u : Int} {next : Int → List Int} (hs : 0 ≤ root ∧ root < R + N) (hq : OnQ l root z next) (hu : On l root z u) (hne : u ≠ z) : next u ≠ [] := by
  obtain ⟨v, h1, _⟩ := Nxt.ex hv hs hu hne
  have := (hq u v).2 h1
  intro e; rw [e] at this; cases this
/-- a way has each node once -/
theorem way_nodup {R N : Int} {l : List E} (hv : Valid R N l) {root z : Int} (hz : 0 ≤ T l root z) {p : List Int} {u : Int} (h : SP.Way l root z p u) : p.Nodup ∧ ∀ x ∈ p, On l root z x ∧ tr R x (T l root x) ≤ tr R u (T l root u) := by
  induction h with
  | one => exact ⟨by simp, fun x hx => by simp at hx; subst hx; exact ⟨On.start hv hz, Int.le_refl _⟩⟩
  | more h hu hn ih =>
    have ht := (hn.turn hv).1
    refine ⟨?_, fun x hx => ?_⟩
    · rw [List.nodup_append]
      refine ⟨ih.1, by simp, fun a ha b hb => ?_⟩
      simp at hb; subst hb
      intro e; subst e
      have := (ih.2 a ha).2
      omega
    · rcases List.mem_append.1 hx with h1 | h1
      · exact ⟨(ih.2 x h1).1, by have := (ih.2 x h1).2; omega⟩
      · simp at h1; subst h1; exact ⟨hn.1.1, Int.le_refl _⟩
theorem way_len {R N : Int} {l : List E} (hv : Valid R N l) {n : Nat} (hn : (n : Int) = R + N) {root z : Int} (hs : 0 ≤ root ∧ root < R) (hz : 0 ≤ T l root z) {p : List Int} {u : Int} (h : SP.Way l root z p u) : p.length ≤ n :=
  on_len hv hn hs (way_nodup hv hz h).1 fun x hx => ((way_nodup hv hz h).2 x hx).1
theorem own_lower {w : World} {B B' n e k : Nat} {v : Value} {xs : List Value} (h : w.ownsRow B e k v n xs) (hb : B' ≤ B) : w.ownsRow B' e k v n xs :=
  ⟨h.1, h.2.imp id (fun ⟨g, cap, cur, a, b, c, d⟩ => ⟨g, cap, cur, a, Nat.le_trans hb b, c, d⟩)⟩
/-- the map of onward, from which what lies behind is deleted -/
def PM (W1 Wr : World) (B m : Nat) (ok : Int → Prop) (next : Int → List Int) : Prop :=
  ∃ D : DataW Unit, Wr.ownsMap Try.prog 3 (rowElem W1 (B + 1) 3 .i64) B m D ∧ ∀ p, I64 p → ok p → D.atKey (kI p) .nil = rowD (next p)
theorem rowElem_zero (W1 : World) (base : Nat) : rowElem (H := Unit) W1 base 3 .i64 (.slice none 0 0) = some (.nil, rowPlaces (.slice none 0 0)) := rowElem_mk (World.ownsInts_nil W1 base 3 .i64)
theorem PM.start {W1 : World} {B m g : Nat} {next : Int → List Int} (h : MG W1 B m next g) : PM W1 W1 B m (fun _ => True) next := by
  obtain ⟨D, ⟨es, clock, hb, hf, hs, hD, _⟩, hN, _⟩ := h
  exact ⟨D, ⟨es, clock, hb, hf, hs, hD⟩, fun p hp _ => hN.2 p hp⟩
theorem PM.kept {W1 Wr W' : World} {B m : Nat} {ok : Int → Prop} {next : Int → List Int} (h : PM W1 Wr B m ok next) {row : Option Nat} (hg : Wr.grownBy W' row) (hne : some B ≠ row) : PM W1 W' B m ok next := by
  obtain ⟨D, h1, h2⟩ := h
  exact ⟨D, h1.kept hg hne, h2⟩
theorem pm_look {W1 : World} {B : Nat} {D : DataW Unit} {next : Int → List Int} {p : Int} {v : Value} {ps : List MemPlace} (hat : D.atKey (kI p) .nil = rowD (next p)) (hr : rowElem (H := Unit) W1 (B + 1) 3 .i64 v = some (D.atKey (kI p) .nil, ps)) : W1.ownsInts (B + 1) 3 .i64 v (next p) := by
  obtain ⟨zs, ho, hz⟩ := rowElem_inv hr
  have e : D.atKey (kI p) .nil = rowDatum .i64 v zs := by injection hz
  rw [hat] at e
  have : zs = next p := by
    by_cases hn : next p = []
    · rw [hn] at e
      change DataW.nil = _ at e
      rcases ho.datum (H := Unit) with ⟨_, h2⟩ | h1
      · rw [hn, h2]
      · rw [h1] at e; cases e
    · rw [rowD_ne hn] at e
      rcases ho.datum (H := Unit) with ⟨h1, _⟩ | h1
      · rw [h1] at e; cases e
      · rw [h1] at e
        injection e with e1
        exact (lits_inj e1).symm
  rw [← this]; exact ho
theorem pm_del {W1 W' : World} {B m : Nat} {D : DataW Unit} {ok ok' : Int → Prop} {next : Int → List Int} {u : Int} (ho : W'.ownsMap Try.prog 3 (rowElem W1 (B + 1) 3 .i64) B m (D.del (kI u))) (hN : ∀ p, I64 p → ok p → D.atKey (kI p) .nil = rowD (next p)) (hk : ∀ p, ok' p → ok p ∧ p ≠ u) : PM W1 W' B m ok' next :=
  ⟨_, ho, fun p hp h => by rw [Maps.atKey_del_other (fun e => (hk p h).2 (kI_inj e))]; exact hN p hp (hk p h).1⟩
theorem wpl_look {w : World} {ops : Array Oper} {rest : List Oper} {o : Oper} {a : Act} {Q : Exit → Act → World → Prop}
    (hg : o.guard = none) (m x : Operand) (hop : o.op = Op.lookup 56 m x false) (ht : Try.prog.underlying 56 = some (.map 3 25)) {W1 : World} {B n : Nat} {D : DataW Unit}
    (hm : a.eval m = .map (some B)) (hown : w.ownsMap Try.prog 3 (rowElem W1 (B + 1) 3 .i64) B n D) {p : Int} (hx : a.eval x = .int .i64 p) (hp : I64 p) {next : Int → List Int} (hat : D.atKey (kI p) .nil = rowD (next p))
    (hK : ∀ v, W1.ownsInts (B + 1) 3 .i64 v (next p) → wpList Try.prog ops Q rest (a.put o.dst v) w) :
    wpList Try.prog ops Q (o :: rest) a w := by
  refine wpList_plain hg fun K' hK' => ?_
  obtain ⟨v, ps, hrun, hv⟩ := hown.lookup kI_keyed ht (zero25 _) (rowElem_zero W1 (B + 1)) (kI_key hp)
  unfold Oper.wp
  simp [execOp, hop, hm, hx, hrun, Result.andThen]
  exact hK' _ _ (hK v (pm_look hat hv))
theorem pm_step {w1 wr w2 : World} {B hb L vc k : Nat} {zs : List Int} {v6 : Value} {xs : List Value} (hk : Kp [B] w1 wr) (hT : wr.mapTurned w2 B) (hoi : w1.ownsInts (B + 1) 3 .i64 (.slice (some ⟨hb, 0, none⟩) L vc) zs) (ho : wr.ownsRow w1.heap.size 3 1 v6 k xs) (hB : B < w1.heap.size) :
    Hid (Kp [B] w1 w2) ∧ Hid (∀ j, j < zs.length → w2.cell? ⟨hb, 0 + j, none⟩ = some (.int .i64 (zs.getD j 0))) ∧ Hid (w2.ownsRow w1.heap.size 3 1 v6 k xs) := by
  have hlo := own_block_lo hoi.1 (k := hb) rfl
  have hk2 : Kp [B] w1 w2 := hk.grown hT.grown (fun b hb => by cases hb; exact .inl (by simp))
  refine ⟨hk2, fun j hj => ?_, ho.kept hT.grown ?_⟩
  · refine hk2.carry (by simp; omega) ?_
    rw [Nat.zero_add]
    have hl : zs.length = L := by
      obtain ⟨_, _, e, _⟩ := own_form hoi.1
      cases e; rfl
    subst hl
    refine (hoi.1.cellAt j (by simpa using hj)).trans ?_
    simp [List.getD, hj]
  · by_cases e : v6.ownBlock = none
    · exact .inl e
    · refine .inr fun e2 => ?_
      have := own_block_lo ho e2
      omega
end Go.Proofs.Ytmlpbhankgojpaa
