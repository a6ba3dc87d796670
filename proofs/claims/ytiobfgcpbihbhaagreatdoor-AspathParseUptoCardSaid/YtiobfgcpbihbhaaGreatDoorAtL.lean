/-
  Putting a number behind the last segment of a reader's path: memory.
-/
import Derived.Test.YtiobfgcpbihbhaaGreatDoorAtJ
namespace Go.Proofs.YtiobfgcpbihbhaaGreatDoor
open Go.RowKit P
set_option linter.unusedSimpArgs false
set_option linter.unusedVariables false
set_option maxHeartbeats 1000000
set_option maxRecDepth 100000
theorem OwnI.apart {B g : Nat} {w : World} {v : Value} {l : List Int} (h : OwnI B w v l) (hne : v.ownBlock ≠ some g) : RdN g w v l := by
  obtain ⟨ad, cap, e, h1, h2, hc⟩ := h.rd
  refine ⟨ad, cap, e, h1, h2, fun k x hk => ?_⟩
  obtain ⟨b, off, a1, a2, a4⟩ := hc k x hk
  refine ⟨b, off, a1, a2, fun e2 => hne ?_, a4⟩
  rw [e, a1, ← e2]; rfl
theorem RowR.more {B b g cap m : Nat} {w w2 w' : World} {p0 : List Sg} {k x : Int} {ns : List Int} {q : List (Int × Value)} {u u' : Value} (hm : p0.length = m) (hgb : g ≠ b)
    (ho : w.ownsRow B 46 2 (.slice (some ⟨g, 0, none⟩) (m + 1) cap) (m + 1) (flatQ q)) (hn : NumsR B g b w q (p0 ++ [⟨k, ns⟩])) (hq : q[m]? = some (k, u)) (hb2 : b < w.heap.size)
    (hw2 : Below w.heap.size w w2) (hu : OwnI B w' u' (ns ++ [x])) (h2 : w2.grownBy w' u.ownBlock) (h3 : ∀ h, u'.ownBlock = some h → u.ownBlock = some h ∨ h = w2.heap.size) :
    RowR B b (.slice (some ⟨g, 0, none⟩) (m + 1) cap) (p0 ++ [⟨k, ns ++ [x]⟩]) (w'.setCell ⟨g, m * 2 + 1, none⟩ u') := by
  have hlen : (p0 ++ [(⟨k, ns⟩ : Sg)]).length = m + 1 := by simp [hm]
  have hlen' : (p0 ++ [(⟨k, ns ++ [x]⟩ : Sg)]).length = m + 1 := by simp [hm]
  have hpm : (p0 ++ [(⟨k, ns⟩ : Sg)])[m]? = some ⟨k, ns⟩ := by rw [← hm]; simp
  have hpm' : (p0 ++ [(⟨k, ns ++ [x]⟩ : Sg)])[m]? = some ⟨k, ns ++ [x]⟩ := by rw [← hm]; simp
  have hql : q.length = m + 1 := by rw [hn.prs.1, hlen]
  have hgw := (ownsRow_lt ho).2
  have hsz := hw2.size
  obtain ⟨hl1, hl2⟩ := hn.last ⟨k, ns⟩ u (by rw [hlen, Nat.add_sub_cancel]; exact hpm) (by rw [hlen, Nat.add_sub_cancel]; exact hq)
  have hcut : ∀ j, j < m → (p0 ++ [(⟨k, ns⟩ : Sg)])[j]? = p0[j]? ∧ (p0 ++ [(⟨k, ns ++ [x]⟩ : Sg)])[j]? = p0[j]? := fun j hj => ⟨List.getElem?_append_left (by omega), List.getElem?_append_left (by omega)⟩
  -- the older numbers at the world behind the append
  have hold : ∀ (j : Nat) (s : Sg) (v : Value), j < m → p0[j]? = some s → q[j]? = some (s.k, v) → RdN g w' v s.as ∧ RdN b w' v s.as ∧ ∀ h, u'.ownBlock = some h → RdN h w' v s.as := fun j s v hj hs hv => by
    have hs1 := (hcut j hj).1.trans hs
    obtain ⟨v2, a, c⟩ := hn.prs.2 j s hs1
    rw [hv] at a
    cases a
    have hrow : ∀ i, u.ownBlock = some i → RdN i w2 v s.as := fun i hi => ((hl2 i hi).2.2 j s v (by rw [hlen]; omega) hs1 hv).below hw2
    refine ⟨(c.below hw2).grow2 hrow h2, ((hn.rdr j s v hs1 hv).below hw2).grow2 hrow h2, fun h hh => ?_⟩
    rcases h3 h hh with e | e
    · exact (hrow h e).grow2 hrow h2
    · exact ((c.below hw2).rd.away (g := h) (by omega) (Below.refl _ _)).grow2 hrow h2
  have hug : u'.ownBlock ≠ some g := fun e => by
    rcases h3 g e with e2 | e2
    · exact (hl2 g e2).1 rfl
    · omega
  have hub : u'.ownBlock ≠ some b := fun e => by
    rcases h3 b e with e2 | e2
    · exact (hl2 b e2).2.1 rfl
    · omega
  have hunew : RdN g w' u' (ns ++ [x]) ∧ RdN b w' u' (ns ++ [x]) := ⟨hu.apart hug, hu.apart hub⟩
  have hrow' : w'.ownsRow B 46 2 (.slice (some ⟨g, 0, none⟩) (m + 1) cap) (m + 1) (flatQ q) := row_congr ho fun j hj => by
    cases hj
    rw [h2.block g (by omega) (fun e => (hl2 g e.symm).1 rfl)]
    exact hw2.block g hgw
  have hst := (hrow'.stored (m * 2 + 1) u').1
  rw [flatQ_set q m _ u' hq] at hst
  have hqj : ∀ j, j ≠ m → (q.set m (k, u'))[j]? = q[j]? := fun j hj => List.getElem?_set_ne (fun e => hj e.symm)
  have hqm : (q.set m (k, u'))[m]? = some (k, u') := by rw [List.getElem?_set_self (by omega)]
  have hin : ∀ {j : Nat} {s : Sg}, (p0 ++ [(⟨k, ns ++ [x]⟩ : Sg)])[j]? = some s → (j < m ∧ p0[j]? = some s) ∨ (j = m ∧ s = ⟨k, ns ++ [x]⟩) := fun {j s} hj => by
    by_cases h : j < m
    · exact .inl ⟨h, (hcut j h).2.symm.trans hj⟩
    · have hl := (List.getElem?_eq_some_iff.1 hj).1
      rw [hlen'] at hl
      have e : j = m := by omega
      subst e
      rw [hpm'] at hj
      cases hj
      exact .inr ⟨rfl, rfl⟩
  refine .inr ⟨g, cap, q.set m (k, u'), by rw [hlen'], by rw [hlen']; exact hst, hgb, ⟨⟨by rw [List.length_set, hql, hlen'], fun j s hj => ?_⟩, fun j s v hj hv => ?_, fun s v hs hv => ?_⟩⟩
  · rcases hin hj with ⟨h, hs⟩ | ⟨e, es⟩
    · obtain ⟨v, a, c⟩ := hn.prs.2 j s ((hcut j h).1.trans hs)
      exact ⟨v, (hqj j (by omega)).trans a, (hold j s v h hs a).1.set⟩
    · subst e es
      exact ⟨u', hqm, hunew.1.set⟩
  · rcases hin hj with ⟨h, hs⟩ | ⟨e, es⟩
    · rw [hqj j (by omega)] at hv
      obtain ⟨a1, a2, _⟩ := hold j s v h hs hv
      exact a2.set2 a1
    · subst e es
      rw [hqm] at hv
      cases hv
      exact hunew.2.set2 hunew.1
  · rw [hlen', Nat.add_sub_cancel] at hs hv
    rw [hpm'] at hs
    cases hs
    rw [hqm] at hv
    cases hv
    refine ⟨⟨by simpa using hu.1, row_congr hu.2 fun j hj => heap_set_ne fun e => hug (e ▸ hj)⟩, fun h hh => ⟨fun e => hug (e ▸ hh), fun e => hub (e ▸ hh), fun j s' v' hj hs' hv' => ?_⟩⟩
    have hjm : j < m := by rw [hlen'] at hj; omega
    rw [(hcut j hjm).2] at hs'
    rw [hqj j (by omega)] at hv'
    obtain ⟨a1, a2, a3⟩ := hold j s' v' hjm hs' hv'
    exact (a3 h hh).set2 a1
end Go.Proofs.YtiobfgcpbihbhaaGreatDoor
