/-
  Appending a path to a row of the call's own.
-/
import Derived.Test.YtiobfgcpbihbhaaGreatDoorAsQ
import Derived.Test.YtiobfgcpbihbhaaGreatDoorAsP
import Derived.BigQuiet
namespace Go.Proofs.YtiobfgcpbihbhaaGreatDoor
open Go.RowKit P
set_option linter.unusedSimpArgs false
set_option linter.unusedVariables false
set_option maxHeartbeats 4000000
set_option maxRecDepth 100000
theorem run_append_owned_zero {P : Program} {w : World} (base : Nat) (t ty e : TypeId) (i : TypeInfo) (size : Nat) (ht : P.underlying t = some (.slice e)) (hi : P.info? e = some i)
    (v : Value) (n : Nat) (xs : List Value) (hown : w.ownsRow base e size v n xs) (A : Addr) (c : Nat) :
    (Builtin.append_ #[t, t] ty #[v, .slice (some A) 0 c]).run P w = .ok v w := by
  rcases hown.2 with ⟨rfl, rfl⟩ | ⟨g, cap, cur, rfl, _, _, hnc, _⟩
  · simp [Builtin.append_, run_underlying ht, sizeOf, typeInfo, hi, Builtin.lenOf, Builtin.firstCells, loadCells, loadCellsFrom]
  · simp [Builtin.append_, run_underlying ht, sizeOf, typeInfo, hi, Builtin.lenOf, Builtin.firstCells, hnc, storeCells, loadCells, loadCellsFrom]
theorem wpList_append_own_zero {P : Program} {w : World} {ops : Array Oper} {rest : List Oper} {o : Oper} {a : Act} {Q : Exit → Act → World → Prop} (hgd : o.guard = none) (s x : Operand) (t : TypeId)
    (ho : o.op = .call { callee := .builtin .append, args := #[s, x], argTypes := #[t, t] })
    (base : Nat) (e : TypeId) (i : TypeInfo) (size : Nat) (ht : P.underlying t = some (.slice e)) (hi : P.info? e = some i)
    (v : Value) (n : Nat) (xs : List Value) (hs : a.eval s = v) (hown : w.ownsRow base e size v n xs) (A : Addr) (c : Nat) (hx : a.eval x = .slice (some A) 0 c)
    (h : wpList P ops Q rest (a.put o.dst v) w) : wpList P ops Q (o :: rest) a w := by
  refine wpList_plain hgd fun K hK => ?_
  have hrun := run_append_owned_zero (P := P) (w := w) base t o.type e i size ht hi v n xs hown A c
  unfold Oper.wp
  simp [execOp, ho, resolve, invoke, builtin, hs, hx, hrun, Result.andThen]
  exact hK _ _ h
theorem append_segs {w : World} {ops : Array Oper} {rest : List Oper} {o : Oper} {a : Act} {Q : Exit → Act → World → Prop} (hgd : o.guard = none) (s x : Operand)
    (ho : o.op = .call { callee := .builtin .append, args := #[s, x], argTypes := #[22, 22] }) (B : Nat) (hB : B ≤ w.heap.size)
    (v : Value) (p : List Sg) (hs : a.eval s = v) (hown : OwnP B w v p) (vx : Value) (r : List Sg) (hx : a.eval x = vx) (C : Nat) (hr : OwnF C w vx r) (hC : ∀ g, v.ownBlock = some g → g < C) (hlen : p.length + r.length ≤ 2000000)
    (h : ∀ v' w', OwnP B w' v' (p ++ r) → Below B w w' → wpList Tryz.prog ops Q rest (a.put o.dst v') w') : wpList Tryz.prog ops Q (o :: rest) a w := by
  obtain ⟨i0, hi, hz0, hz1, hz2⟩ := infoE_parts info46
  obtain ⟨g, q, hq, hrow, hgq⟩ : ∃ g q, Prs g w q p ∧ w.ownsRow B 46 2 v p.length (flatQ q) ∧ (v.ownBlock = some g ∨ (v.ownBlock = none ∧ g = w.heap.size)) := by
    rcases hown.2 with ⟨rfl, rfl⟩ | ⟨g, cap, q, rfl, ho', hp⟩
    · exact ⟨w.heap.size, [], ⟨rfl, fun k s hk => by simp at hk⟩, World.ownsRow_nil _ _ _ _, .inr ⟨rfl, rfl⟩⟩
    · exact ⟨g, q, hp, ho', .inl rfl⟩
  rcases hr.2 with ⟨rfl, rfl⟩ | ⟨gx, cx, qx, rfl, hox, hpx, hfx⟩
  · refine wpList_append_own_none hgd s x 22 ho B 46 i0 2 Tryz.underlying22 hi v p.length (flatQ q) hs hrow hx (h v w ?_ (Below.refl _ _))
    rw [List.append_nil]; exact hown
  · by_cases h0 : r.length = 0
    · have hr0 : r = [] := List.length_eq_zero_iff.1 h0
      subst hr0
      refine wpList_append_own_zero hgd s x 22 ho B 46 i0 2 Tryz.underlying22 hi v p.length (flatQ q) hs hrow ⟨gx, 0, none⟩ cx hx (h v w ?_ (Below.refl _ _))
      rw [List.append_nil]; exact hown
    · have hpg : Prs g w qx r := by
        refine ⟨hpx.1, fun k s hk => ?_⟩
        rcases hgq with e | ⟨_, e⟩
        · obtain ⟨u, a1, a2⟩ := hfx k s (List.getElem?_eq_some_iff.1 hk).1 hk
          exact ⟨u, a1, a2 g (hC g e)⟩
        · obtain ⟨u, a1, a2⟩ := hpx.2 k s hk
          exact ⟨u, a1, by rw [e]; exact a2.rd.away (Nat.le_refl _) (Below.refl _ _)⟩
      have hcell : ∀ j u, (flatQ qx)[j]? = some u → w.cell? ((⟨gx, 0, none⟩ : Addr).add j) = some u := fun j u hj => by
        have hjl := (List.getElem?_eq_some_iff.1 hj).1
        rw [flatQ_len, hpx.1] at hjl
        rw [Addr.add_lit, Nat.zero_add, hox.cellAt j hjl]; exact hj
      refine wpList_append_lies _ hgd s x 22 ho B 46 i0 (.agg #[.int .i64 0, .slice none 0 0]) 2 32 Tryz.underlying22 hi hz0 hz1 hz2 rfl (by decide) v p.length (flatQ q) hs hrow ⟨gx, 0, none⟩ r.length cx (flatQ qx) hx (by rw [flatQ_len, hpx.1]) hcell hpx.one (by omega) (by unfold maxLen; omega) (by omega) hB w.heap.size rfl fun g' cap' w' h1 h2 h3 h4 => ?_
      have hb : Below B w w' := (Below.refl _ w).grown h2 hB (fun k hk => (row_lt hrow hk).1)
      have hgg : g' = g ∨ g' = w.heap.size := by
        rcases h3 with e | e
        · rcases hgq with e2 | ⟨e2, _⟩
          · rw [e] at e2; cases e2; exact .inl rfl
          · rw [e] at e2; cases e2
        · exact .inr e
      have hrk : ∀ k, v.ownBlock = some k → k = g := fun k hk => by
        rcases hgq with e2 | ⟨e2, _⟩
        · rw [hk] at e2; cases e2; rfl
        · rw [hk] at e2; cases e2
      refine h _ _ ⟨Nat.le_trans hB hb.size, .inr ⟨g', cap', q ++ qx, by rw [List.length_append], ?_, ?_⟩⟩ hb
      · rw [flatQ_app, List.length_append]; exact h1
      · refine ⟨by rw [List.length_append, List.length_append, hq.1, hpx.1], fun k s hk => ?_⟩
        by_cases hkl : k < p.length
        · rw [List.getElem?_append_left hkl] at hk
          obtain ⟨u', e1, e2⟩ := hq.2 k s hk
          exact ⟨u', by rw [List.getElem?_append_left (by rw [hq.1]; exact hkl)]; exact e1, e2.grown h2 hrk hgg⟩
        · rw [List.getElem?_append_right (by omega)] at hk
          obtain ⟨u', e1, e2⟩ := hpg.2 _ s hk
          exact ⟨u', by rw [List.getElem?_append_right (by rw [hq.1]; omega), hq.1]; exact e1, e2.grown h2 hrk hgg⟩
end Go.Proofs.YtiobfgcpbihbhaaGreatDoor
