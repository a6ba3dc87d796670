/-
  slices.Compact of a sorted row of the call's own: the row of its elements, each once.
-/
import Derived.Test.YtaniiennfogjaaaDoorAgCo
import Derived.Test.YtaniiennfogjaaaDoorCmE
namespace Go.Proofs.YtaniiennfogjaaaDoor
open Go.RowKit Go.Sort Go.Lib T
set_option linter.unusedSimpArgs false
set_option linter.unusedVariables false
set_option maxHeartbeats 1500000
set_option maxRecDepth 100000

theorem compact_strict (d : Array Int) (hs : ∀ i, i + 1 < d.size → d[i]! ≤ d[i + 1]!) : ∀ m, m ≤ d.size → (compactUpTo d m).Pairwise (· < ·) ∧ ∀ x ∈ compactUpTo d m, 0 < m ∧ x ≤ d[m - 1]!
  | 0, _ => by unfold compactUpTo; simp
  | m + 1, hm => by
    obtain ⟨h1, h2⟩ := compact_strict d hs m (by omega)
    rw [compactUpTo_succ]
    by_cases hk : keeps d m = true
    · rw [if_pos hk]
      by_cases h0 : m = 0
      · subst h0
        have e : compactUpTo d 0 = [] := by unfold compactUpTo; simp
        rw [e]
        exact ⟨by simp, fun x hx => ⟨by omega, by simp at hx; rw [hx]; simp⟩⟩
      · have hne : d[m]! ≠ d[m - 1]! := by
          unfold keeps at hk
          simpa [h0] using hk
        have hle := hs (m - 1) (by omega)
        rw [show m - 1 + 1 = m by omega] at hle
        refine ⟨?_, fun x hx => ⟨by omega, ?_⟩⟩
        · rw [List.pairwise_append]
          refine ⟨h1, by simp, fun a ha b hb => ?_⟩
          have := (h2 a ha).2
          rw [List.mem_singleton.1 hb]
          omega
        · rw [show m + 1 - 1 = m by omega]
          rcases List.mem_append.1 hx with h3 | h3
          · have := (h2 x h3).2; omega
          · rw [List.mem_singleton.1 h3]; omega
    · rw [if_neg hk, List.append_nil]
      refine ⟨h1, fun x hx => ⟨by omega, ?_⟩⟩
      have h3 := h2 x hx
      have hle := hs (m - 1) (by omega)
      rw [show m - 1 + 1 = m by omega] at hle
      rw [show m + 1 - 1 = m by omega]
      omega
theorem compactO_any (B g cap L : Nat) (l : List Nat) (w : World) (h : OwnA B w (.slice (some ⟨g, 0, none⟩) L cap) l) (hL : L = l.length) (hbig : L ≤ 100000) (hs : l.Pairwise (· ≤ ·)) :
    Calls Tryd.prog 53 #[.slice (some ⟨g, 0, none⟩) L cap] w fun e w' => ∃ v' l', e = .returned v' ∧ OwnA B w' v' l' ∧ IsSet l l' ∧ l'.length ≤ L ∧ Below B w w' := by
  subst hL
  obtain ⟨zs, hz⟩ : ∃ zs : List Int, zs = l.map (fun n : Nat => (n : Int)) := ⟨_, rfl⟩
  have hzl : zs.length = l.length := by rw [hz]; simp
  have hH : Holds (Value.int .u32) w g 0 zs.toArray := by
    intro j hj
    have hj' : j < l.length := by simpa [hzl] using hj
    rw [Nat.zero_add]
    refine ⟨?_, h.free j⟩
    rw [h.cell (List.getElem?_eq_getElem hj') rfl]
    have : zs.toArray[j]! = ((l[j] : Nat) : Int) := by
      rw [getElem!_pos _ j hj]
      simp [hz]
    rw [this]
  have hcap : l.length ≤ cap := by
    obtain ⟨ad, c, e, hc, _⟩ := h.slice
    cases e; exact hc
  have hgb := h.base
  have hc := AnyE.slices_Compact Tryd.compactA (Value.int .u32) (fun _ => rfl) (EqlAt.intD _ _ _) (NeqAt.intD _ _ _) 0 Tryd.zeroValue27 g 0 cap zs.toArray w hH (by simp; omega) (by simp; omega)
  have hsz : zs.toArray.size = l.length := by simpa using hzl
  rw [hsz] at hc
  refine Calls.mono hc ?_
  rintro e w' ⟨he, q, rfl⟩
  have hcomp : compactUpTo zs.toArray l.length = compact zs := by unfold compact; rw [hzl]
  have hstr := (compact_strict zs.toArray (fun i hi => by
    rw [getElem!_pos _ i (by omega), getElem!_pos _ (i + 1) hi]
    simp only [List.getElem_toArray, hz, List.getElem_map]
    have h1 : i + 1 < l.length := by rw [← hsz]; exact hi
    have := List.pairwise_iff_getElem.1 hs i (i + 1) (by omega) h1 (by omega)
    omega) l.length (by omega)).1
  rw [hcomp] at he hstr ⊢
  have hlen : (compact zs).length ≤ l.length := by have := (compact_sub zs).length_le; omega
  have hmem : ∀ x ∈ compact zs, ∃ n : Nat, n ∈ l ∧ x = (n : Int) := fun x hx => by
    have h1 := (mem_compact zs x).1 hx
    rw [hz] at h1
    obtain ⟨n, hn, rfl⟩ := List.mem_map.1 h1
    exact ⟨n, hn, rfl⟩
  have hg := grown_rowA (w := w) (g := g) (n := q) (os := #[]) (compact zs ++ List.replicate (l.length - (compact zs).length) 0).toArray
  have e0 : ∀ X : World, grow X #[] = X := fun X => by cases X; simp [grow]
  rw [e0] at hg
  have hHH := holds_putRow (Value.int .u32) (Sort.ahead w q) g 0 zs.toArray (compact zs ++ List.replicate (l.length - (compact zs).length) 0).toArray (holds_ahead _ _ _ _ _ _ hH) (by simp; omega)
  have hbelow : Below B w (putRow (Value.int .u32) (Sort.ahead w q) g 0 (compact zs ++ List.replicate (l.length - (compact zs).length) 0).toArray) := (Below.refl _ _).grown hg h.1 (fun j e => by cases e; exact hgb.1)
  refine ⟨_, (compact zs).map Int.toNat, he, ⟨Nat.le_trans h.1 hbelow.size, ?_⟩, ⟨?_, fun y => ?_⟩, by rw [List.length_map]; exact hlen, hbelow⟩
  · rcases h.2.2 with ⟨h', _⟩ | ⟨g', cap', cur, h', hB, hgg, hn1, hn2, hn3, hn4⟩
    · simp at h'
    · have e := h'
      simp at e
      obtain ⟨rfl, rfl⟩ : g = g' ∧ cap = cap' := ⟨by first | exact e.1 | exact e.1.1, by first | exact e.2 | exact e.2.2⟩
      have hgg' : (putRow (Value.int .u32) (Sort.ahead w q) g 0 (compact zs ++ List.replicate (l.length - (compact zs).length) 0).toArray).heap[g]? = some (.cells (putCells (Value.int .u32) 0 (compact zs ++ List.replicate (l.length - (compact zs).length) 0).toArray cur) 27 (0, 0)) := by
        have hlt := ltO hgg
        have hw : w.heap[g] = .cells cur 27 (0, 0) := by simpa [Array.getElem?_eq_getElem hlt] using hgg
        show (w.heap.modify g _)[g]? = _
        rw [Array.getElem?_eq_getElem (by simpa using hlt), Array.getElem_modify_self, hw]
        rfl
      refine ⟨by simp [adV], .inr ⟨g, cap, _, by simp, hB, hgg', by simp; omega, hn2, by unfold putCells; simp; omega, ?_⟩⟩
      apply List.ext_getElem?
      intro k
      by_cases hk : k < (compact zs).length
      · have h1 := (hHH k (by simp; omega)).1
        rw [Nat.zero_add] at h1
        have h2 : (compact zs ++ List.replicate (l.length - (compact zs).length) 0).toArray[k]! = (compact zs)[k] := by
          rw [getElem!_pos _ k (by simp; omega)]
          simp [List.getElem_append_left hk]
        rw [h2] at h1
        have h3 : (putCells (Value.int .u32) 0 (compact zs ++ List.replicate (l.length - (compact zs).length) 0).toArray cur)[k]? = some (.int .u32 (compact zs)[k]) := by
          rw [← h1]
          simp [World.cell?, hgg']
        rw [List.getElem?_take, if_pos (by simpa using hk), Array.getElem?_toList, h3]
        obtain ⟨n, _, hn⟩ := hmem (compact zs)[k] (List.getElem_mem _)
        unfold adV
        rw [List.getElem?_map, List.getElem?_map, List.getElem?_eq_getElem hk]
        simp only [Option.map_some, Option.some.injEq, Value.int.injEq, true_and]
        rw [hn]; simp
      · rw [List.getElem?_eq_none (by simp; omega), List.getElem?_eq_none (by simp [adV]; omega)]
  · unfold Asc
    rw [List.pairwise_map]
    refine hstr.imp_of_mem (fun {a b} ha hb hab => ?_)
    obtain ⟨n, _, rfl⟩ := hmem a ha
    obtain ⟨m, _, rfl⟩ := hmem b hb
    simp; omega
  · rw [List.mem_map]
    constructor
    · rintro ⟨x, hx, rfl⟩
      obtain ⟨n, hn, rfl⟩ := hmem x hx
      simpa using hn
    · intro hy
      exact ⟨(y : Int), (mem_compact zs _).2 (by rw [hz]; exact List.mem_map.2 ⟨y, hy, rfl⟩), by simp⟩
end Go.Proofs.YtaniiennfogjaaaDoor
