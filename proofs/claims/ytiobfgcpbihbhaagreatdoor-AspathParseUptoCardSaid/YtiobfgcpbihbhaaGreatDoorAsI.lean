/-
  Rows of segments of the call's own; the walks of both Clone, duplicate.
-/
import Derived.Test.YtiobfgcpbihbhaaGreatDoorAsH
import Derived.BigQuiet
namespace Go.Proofs.YtiobfgcpbihbhaaGreatDoor
open Go.RowKit P
set_option linter.unusedSimpArgs false
set_option linter.unusedVariables false
set_option maxHeartbeats 4000000
set_option maxRecDepth 100000
theorem info46 : (Tryz.prog.info? 46).map (fun i => (i.zero, i.size, i.bytes)) = some (some (.agg #[.int .i64 0, .slice none 0 0]), 2, 32) := by kernel_rfl
theorem RdI.cellA {w : World} {A : Addr} {n cap : Nat} {m : List Int} (h : RdI w (.slice (some A) n cap) m) : ∀ j u, (ints m)[j]? = some u → w.cell? (A.add j) = some u := fun j u hj => by
  obtain ⟨ad, cap', e, _, _, hc⟩ := h
  injection e with e1 e2 e3
  subst e1
  unfold ints at hj
  rw [List.getElem?_map] at hj
  cases hx : m[j]? with
  | none => rw [hx] at hj; cases hj
  | some y =>
    rw [hx] at hj
    obtain rfl := Option.some.inj hj
    obtain ⟨b, off, e, _, hcell⟩ := hc j y hx
    injection e with e
    subst e
    rw [Addr.add_lit]; exact hcell
/-- slices.Clone at integers -/
theorem clonei_any (l : List Int) (v : Value) (w : World) (hl : l.length ≤ 2000000) (hr : RdI w v l) :
    Calls Tryz.prog 81 #[v] w fun e w' => ∃ v', e = .returned v' ∧ InsI w v' l w' := by
  obtain ⟨i0, hi, hz0, hz1, hz2⟩ := infoE_parts info3
  have HR := Lib.hid hr
  obtain ⟨ad, cap, rfl, _, hn, hc⟩ := hr
  have q48 : ∀ (w : World) (a : Option Addr) (n c n' c' : Nat), (binOp .eql 34 (.slice a n c) (.slice none n' c')).run Tryz.prog w = .ok (.bool a.isNone) w := fun w a n c n' c' => Lib.run_eql_slice_nil w _ _ a n c n' c' Tryz.underlying34
  cases ad with
  | none =>
    have hl0 : l = [] := by
      cases l with
      | nil => rfl
      | cons x r => obtain ⟨b, off, h, _⟩ := hc 0 x rfl; cases h
    subst hl0
    clear hc HR
    go_enter Tryz.func81, Tryz.ntmps81
    go_wp2
    go_ret
    exact ⟨_, rfl, InsI.start w⟩
  | some A =>
    have HC := Lib.hid HR.out.cellA
    clear hc hn HR
    go_enter Tryz.func81, Tryz.ntmps81
    go_wp2_with (at_builtin; refine wpList_append_own _ rfl _ _ 34 rfl w.heap.size 3 i0 (.int .i64 0) 1 8 Tryz.underlying34 hi hz0 hz1 hz2 rfl (by decide) _ _ _ rfl (World.ownsRow_made w #[] 0 (Nat.le_refl _) (Nat.zero_le _) (by simp)) A l.length cap (ints l) rfl (by simp [ints]) (fun j u hj => Lib.cell?_alloc_some _ (HC.out j u hj)) (ints_one l) (by unfold maxLen; omega) (by omega) (by simp) ?_; intro v' w1 hown hgrow hnil)
    go_ret
    have hb : Below w.heap.size w w1 := ((Below.refl _ w).alloc (Nat.le_refl _) _).grown hgrow (by simp) (by intro k hk; cases hk; exact Nat.le_refl _)
    exact ⟨v', rfl, ⟨hb.size, by simpa using hown⟩, hb⟩
def flatQ (q : List (Int × Value)) : List Value := q.flatMap fun x => [.int .i64 x.1, x.2]
theorem flatQ_len (q : List (Int × Value)) : (flatQ q).length = q.length * 2 := by
  unfold flatQ
  induction q with
  | nil => rfl
  | cons x q ih => rw [List.flatMap_cons, List.length_append, ih, List.length_cons]; simp; omega
theorem flatQ_app (q r : List (Int × Value)) : flatQ (q ++ r) = flatQ q ++ flatQ r := by unfold flatQ; simp
theorem flatQ_get : ∀ {q : List (Int × Value)} {k : Nat} {x : Int × Value}, q[k]? = some x → (flatQ q)[k * 2]? = some (.int .i64 x.1) ∧ (flatQ q)[k * 2 + 1]? = some x.2
  | [], k, x, h => by simp at h
  | y :: q, 0, x, h => by simp at h; subst h; exact ⟨rfl, rfl⟩
  | y :: q, k + 1, x, h => by
    have ih := @flatQ_get q k x (by simpa using h)
    have e : flatQ (y :: q) = .int .i64 y.1 :: y.2 :: flatQ q := rfl
    rw [e, show (k + 1) * 2 = k * 2 + 1 + 1 by omega]
    exact ⟨by simpa using ih.1, by simpa using ih.2⟩
theorem flatQ_of {q : List (Int × Value)} {j : Nat} {u : Value} (h : (flatQ q)[j]? = some u) : ∃ k x, q[k]? = some x ∧ ((j = k * 2 ∧ u = .int .i64 x.1) ∨ (j = k * 2 + 1 ∧ u = x.2)) := by
  have hj := (List.getElem?_eq_some_iff.1 h).1
  rw [flatQ_len] at hj
  obtain ⟨x, hx⟩ : ∃ x, q[j / 2]? = some x := ⟨_, List.getElem?_eq_getElem (by omega)⟩
  obtain ⟨h1, h2⟩ := flatQ_get hx
  rcases (show j = j / 2 * 2 ∨ j = j / 2 * 2 + 1 by omega) with e | e
  · refine ⟨j / 2, x, hx, .inl ⟨e, ?_⟩⟩
    rw [← e, h] at h1; exact Option.some.inj h1
  · refine ⟨j / 2, x, hx, .inr ⟨e, ?_⟩⟩
    rw [← e, h] at h2; exact Option.some.inj h2
theorem flatQ_set : ∀ (q : List (Int × Value)) (k : Nat) (x : Int × Value) (u : Value), q[k]? = some x → (flatQ q).set (k * 2 + 1) u = flatQ (q.set k (x.1, u))
  | [], k, x, u, h => by simp at h
  | y :: q, 0, x, u, h => by simp at h; subst h; rfl
  | y :: q, k + 1, x, u, h => by
    have ih := flatQ_set q k x u (by simpa using h)
    have e : ∀ y q, flatQ (y :: q) = .int .i64 y.1 :: y.2 :: flatQ q := fun _ _ => rfl
    rw [e, show (k + 1) * 2 + 1 = k * 2 + 1 + 1 + 1 by omega, List.set_cons_succ, List.set_cons_succ, ih, List.set_cons_succ, e]
/-- numbers that lie in no cell of block g -/
def RdN (g : Nat) (w : World) (v : Value) (l : List Int) : Prop :=
  ∃ ad cap, v = .slice ad l.length cap ∧ l.length ≤ cap ∧ (cap ≤ 9223372036854775807 ∧ (ad = none → cap = 0)) ∧ ∀ k x, l[k]? = some x → ∃ b off, ad = some ⟨b, off, none⟩ ∧ b < w.heap.size ∧ b ≠ g ∧ w.cell? ⟨b, off + k, none⟩ = some (.int .i64 x)
theorem RdN.rd {g : Nat} {w : World} {v : Value} {l : List Int} (h : RdN g w v l) : RdI w v l := by
  obtain ⟨ad, cap, e, h1, h2, hc⟩ := h
  exact ⟨ad, cap, e, h1, h2, fun k x hk => by obtain ⟨b, off, a1, a2, _, a4⟩ := hc k x hk; exact ⟨b, off, a1, a2, a4⟩⟩
theorem RdI.away {g : Nat} {w w' : World} {v : Value} {l : List Int} (h : RdI w v l) (hg : w.heap.size ≤ g) (hb : Below w.heap.size w w') : RdN g w' v l := by
  obtain ⟨ad, cap, e, h1, h2, hc⟩ := h
  exact ⟨ad, cap, e, h1, h2, fun k x hk => by obtain ⟨b, off, a1, a2, a4⟩ := hc k x hk; exact ⟨b, off, a1, Nat.lt_of_lt_of_le a2 hb.size, by omega, by rw [hb.cell a2]; exact a4⟩⟩
theorem OwnI.away {B g : Nat} {w : World} {v : Value} {l : List Int} (h : OwnI B w v l) (hg : g < B) : RdN g w v l := by
  obtain ⟨ad, cap, e, h1, h2, hc⟩ := h.rd
  refine ⟨ad, cap, e, h1, h2, fun k x hk => ?_⟩
  obtain ⟨b, off, a1, a2, a4⟩ := hc k x hk
  have := h.lt b (by rw [e, a1]; rfl)
  exact ⟨b, off, a1, a2, by omega, a4⟩
theorem RdN.below {g : Nat} {w w' : World} {v : Value} {l : List Int} (h : RdN g w v l) (hb : Below w.heap.size w w') : RdN g w' v l := by
  obtain ⟨ad, cap, e, h1, h2, hc⟩ := h
  exact ⟨ad, cap, e, h1, h2, fun k x hk => by obtain ⟨b, off, a1, a2, a3, a4⟩ := hc k x hk; exact ⟨b, off, a1, Nat.lt_of_lt_of_le a2 hb.size, a3, carry hb a4⟩⟩
theorem RdN.set {g o : Nat} {w : World} {v u : Value} {l : List Int} (h : RdN g w v l) : RdN g (w.setCell ⟨g, o, none⟩ u) v l := by
  obtain ⟨ad, cap, e, h1, h2, hc⟩ := h
  exact ⟨ad, cap, e, h1, h2, fun k x hk => by
    obtain ⟨b, off, a1, a2, a3, a4⟩ := hc k x hk
    exact ⟨b, off, a1, by simpa [World.setCell] using a2, a3, by rw [← a4]; exact World.cell?_of_block (heap_set_ne a3)⟩⟩
/-- pairs of a kind and a slice that stand for the segments, no number in block g -/
def Prs (g : Nat) (w : World) (q : List (Int × Value)) (p : List Sg) : Prop := q.length = p.length ∧ ∀ (k : Nat) (s : Sg), p[k]? = some s → ∃ u, q[k]? = some (s.k, u) ∧ RdN g w u s.as
theorem Prs.below {g : Nat} {w w' : World} {q : List (Int × Value)} {p : List Sg} (h : Prs g w q p) (hb : Below w.heap.size w w') : Prs g w' q p := ⟨h.1, fun k s hk => by obtain ⟨u, a, b⟩ := h.2 k s hk; exact ⟨u, a, b.below hb⟩⟩
theorem Prs.set {g o : Nat} {w : World} {q : List (Int × Value)} {p : List Sg} (h : Prs g w q p) {k : Nat} {s : Sg} {u : Value} (hk : p[k]? = some s) (hu : RdN g w u s.as) (c : Value) : Prs g (w.setCell ⟨g, o, none⟩ c) (q.set k (s.k, u)) p := by
  refine ⟨by rw [List.length_set]; exact h.1, fun j t hj => ?_⟩
  by_cases e : k = j
  · subst e
    rw [hk] at hj
    cases hj
    exact ⟨u, by rw [List.getElem?_set_self]; rw [h.1]; exact (List.getElem?_eq_some_iff.1 hk).1, hu.set⟩
  · obtain ⟨u', a, b⟩ := h.2 j t hj
    exact ⟨u', by rw [List.getElem?_set_ne e]; exact a, b.set⟩
theorem Prs.one {g : Nat} {w : World} {q : List (Int × Value)} {p : List Sg} (h : Prs g w q p) : ∀ u ∈ flatQ q, u.oneCell' = true := by
  intro u hu
  unfold flatQ at hu
  obtain ⟨x, hx, hm⟩ := List.mem_flatMap.1 hu
  obtain ⟨k, hk⟩ := List.getElem?_of_mem hx
  obtain ⟨s, hs⟩ : ∃ s, p[k]? = some s := ⟨_, List.getElem?_eq_getElem (by rw [← h.1]; exact (List.getElem?_eq_some_iff.1 hk).1)⟩
  obtain ⟨u', a, ad, cap, e, _⟩ := h.2 k s hs
  rw [hk] at a
  cases a
  simp at hm
  rcases hm with rfl | rfl
  · rfl
  · subst e; rfl
theorem RdS.prs {w : World} {v : Value} {p : List Sg} (h : RdS w v p) : (v = .slice none 0 0 ∧ p = []) ∨ ∃ A cap q, v = .slice (some A) p.length cap ∧ (∀ g, w.heap.size ≤ g → Prs g w q p) ∧ ∀ j u, (flatQ q)[j]? = some u → w.cell? (A.add j) = some u := by
  obtain ⟨ad, cap, e, h1, h2, hc⟩ := h
  cases ad with
  | none =>
    have hp : p = [] := by
      cases p with
      | nil => rfl
      | cons x r => obtain ⟨b, off, u, h, _⟩ := hc 0 x rfl; cases h
    subst hp
    left
    rw [h2.2 rfl] at e
    exact ⟨e, rfl⟩
  | some A =>
    right
    have hq : ∀ k s, p[k]? = some s → (p.mapIdx fun k s => (s.k, (w.cell? (A.add (k * 2 + 1))).getD (.slice none 0 0)))[k]? = some (s.k, (w.cell? (A.add (k * 2 + 1))).getD (.slice none 0 0)) := fun k s hk => by rw [List.getElem?_mapIdx, hk]; rfl
    refine ⟨A, cap, _, e, fun g hg => ⟨by rw [List.length_mapIdx], fun k s hk => ⟨_, hq k s hk, ?_⟩⟩, fun j u hj => ?_⟩
    · obtain ⟨b, off, u, e1, hb, c0, c1, hu⟩ := hc k s hk
      cases e1
      have e2 : w.cell? ((⟨b, off, none⟩ : Addr).add (k * 2 + 1)) = some u := by rw [Addr.add_lit, ← Nat.add_assoc]; exact c1
      rw [e2]
      exact hu.away hg (Below.refl _ _)
    · obtain ⟨k, x, hx, ho⟩ := flatQ_of hj
      have hk := (List.getElem?_eq_some_iff.1 hx).1
      rw [List.length_mapIdx] at hk
      obtain ⟨s, hs⟩ : ∃ s, p[k]? = some s := ⟨_, List.getElem?_eq_getElem hk⟩
      rw [hq k s hs] at hx
      cases hx
      obtain ⟨b, off, u', e1, hb, c0, c1, hu⟩ := hc k s hs
      cases e1
      have e2 : w.cell? ((⟨b, off, none⟩ : Addr).add (k * 2 + 1)) = some u' := by rw [Addr.add_lit, ← Nat.add_assoc]; exact c1
      rcases ho with ⟨rfl, rfl⟩ | ⟨rfl, rfl⟩
      · rw [Addr.add_lit]; exact c0
      · rw [e2]; rfl
/-- a path in a row of the call's own -/
def OwnP (B : Nat) (w : World) (v : Value) (p : List Sg) : Prop := B ≤ w.heap.size ∧ ((v = .slice none 0 0 ∧ p = []) ∨ ∃ g cap q, v = .slice (some ⟨g, 0, none⟩) p.length cap ∧ w.ownsRow B 46 2 v p.length (flatQ q) ∧ Prs g w q p)
theorem OwnP.below {B : Nat} {w w1 : World} {v : Value} {p : List Sg} (h : OwnP B w v p) (hb : Below w.heap.size w w1) : OwnP B w1 v p := ⟨Nat.le_trans h.1 hb.size, h.2.imp id fun ⟨g, cap, q, a, b, c⟩ => ⟨g, cap, q, a, row_below b hb, c.below hb⟩⟩
theorem OwnP.rd {B : Nat} {w : World} {v : Value} {p : List Sg} (h : OwnP B w v p) : RdS w v p := by
  rcases h.2 with ⟨rfl, rfl⟩ | ⟨g, cap, q, rfl, ho, hp⟩
  · exact rds_nil w
  · rcases ho.2 with ⟨h0, _⟩ | ⟨g', cap', cur, e, hB, hg, hnc, hml, _, _⟩
    · cases h0
    · cases e
      refine ⟨_, _, rfl, hnc, ⟨hml, fun e => by cases e⟩, fun k s hk => ?_⟩
      obtain ⟨u, hu, hr⟩ := hp.2 k s hk
      obtain ⟨f1, f2⟩ := flatQ_get hu
      have hkl := (List.getElem?_eq_some_iff.1 hk).1
      refine ⟨g, 0, u, rfl, lt_block hg, ?_, ?_, hr.rd⟩
      · rw [Nat.zero_add, ho.cellAt (k * 2) (by omega)]; exact f1
      · rw [Nat.zero_add, ho.cellAt (k * 2 + 1) (by omega)]; exact f2
end Go.Proofs.YtiobfgcpbihbhaaGreatDoor
