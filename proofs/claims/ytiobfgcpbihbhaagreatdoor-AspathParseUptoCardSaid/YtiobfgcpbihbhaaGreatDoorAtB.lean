/-
  slices.Sort and slices.Compact of a row of the call's own.
-/
import Derived.Test.YtiobfgcpbihbhaaGreatDoorAsI
import Derived.Test.YtiobfgcpbihbhaaGreatDoorAtN
import Derived.Test.YtiobfgcpbihbhaaGreatDoorShelf
import Derived.BigQuiet
namespace Go.Proofs.YtiobfgcpbihbhaaGreatDoor
open Go.RowKit P Go.Sort
set_option linter.unusedSimpArgs false
set_option linter.unusedVariables false
set_option maxHeartbeats 4000000
set_option maxRecDepth 100000
namespace P
open Go.Lib
theorem mem_cut {d : Array Int} {m : Nat} {x : Int} : x ∈ compactUpTo d m ↔ ∃ j, j < m ∧ keeps d j = true ∧ d[j]! = x := by
  unfold compactUpTo
  simp only [List.mem_map, List.mem_filter, List.mem_range]
  constructor
  · rintro ⟨j, ⟨a, b⟩, c⟩; exact ⟨j, a, b, c⟩
  · rintro ⟨j, a, b, c⟩; exact ⟨j, ⟨a, b⟩, c⟩
theorem cut_asc (d : Array Int) (hs : ∀ i j, i < j → j < d.size → d[i]! ≤ d[j]!) : ∀ m, m ≤ d.size → (compactUpTo d m).Pairwise (· < ·)
  | 0, _ => List.Pairwise.nil
  | m + 1, hm => by
    have ih := cut_asc d hs m (by omega)
    rw [compactUpTo_succ]
    by_cases hk : keeps d m = true
    · rw [if_pos hk]
      refine List.pairwise_append.2 ⟨ih, List.pairwise_singleton _ _, fun x hx y hy => ?_⟩
      rw [List.mem_singleton] at hy
      subst hy
      obtain ⟨j, hj, _, rfl⟩ := mem_cut.1 hx
      have hk' : m = 0 ∨ d[m]! ≠ d[m - 1]! := of_decide_eq_true hk
      have hk2 : d[m]! ≠ d[m - 1]! := hk'.resolve_left (by omega)
      have h1 := hs (m - 1) m (by omega) (by omega)
      rcases Nat.lt_or_ge j (m - 1) with hjm | hjm
      · have h2 := hs j (m - 1) hjm (by omega)
        omega
      · obtain rfl : j = m - 1 := by omega
        omega
    · rw [if_neg hk, List.append_nil]; exact ih
theorem cut_mem (d : Array Int) : ∀ n, ∀ i, i ≤ n → i < d.size → ∃ j, j < d.size ∧ keeps d j = true ∧ d[j]! = d[i]!
  | 0, i, hi, hs => ⟨i, hs, decide_eq_true (.inl (by omega)), rfl⟩
  | n + 1, i, hi, hs => by
    cases hk : keeps d i
    · have hk' : ¬ (i = 0 ∨ d[i]! ≠ d[i - 1]!) := of_decide_eq_false hk
      have h0 : i ≠ 0 := fun h => hk' (.inl h)
      have h1 : d[i]! = d[i - 1]! := by
        by_cases h : d[i]! = d[i - 1]!
        · exact h
        · exact absurd (.inr h) hk'
      rw [h1]
      exact cut_mem d n (i - 1) (by omega) (by omega)
    · exact ⟨i, hs, hk, rfl⟩
theorem compact_sorted {zs : List Int} (hs : zs.Pairwise (· ≤ ·)) : (compact zs).Pairwise (· < ·) ∧ ∀ x, x ∈ compact zs ↔ x ∈ zs := by
  have hs' : ∀ i j, i < j → j < zs.toArray.size → zs.toArray[i]! ≤ zs.toArray[j]! := fun i j hij hj => by
    have hj' : j < zs.length := by simpa using hj
    have := List.pairwise_iff_getElem.1 hs i j (by omega) hj' hij
    simpa [hj', Nat.lt_trans hij hj'] using this
  have hsz : zs.length = zs.toArray.size := by simp
  refine ⟨?_, fun x => ?_⟩
  · unfold compact
    exact cut_asc _ hs' _ (by simp)
  · unfold compact
    rw [mem_cut]
    constructor
    · rintro ⟨j, hj, _, rfl⟩
      simp only [List.getElem!_toArray]
      rw [getElem!_pos zs j hj]
      exact List.getElem_mem hj
    · intro hx
      obtain ⟨i, hi, rfl⟩ := List.getElem_of_mem hx
      obtain ⟨j, h1, h2, h3⟩ := cut_mem zs.toArray i i (Nat.le_refl _) (by simpa using hi)
      refine ⟨j, by simpa using h1, h2, ?_⟩
      rw [h3]
      simp [hi]
theorem sorted_ints (zs : List Int) : (zs.mergeSort fun x y => decide (x ≤ y)).Pairwise (· ≤ ·) := by
  have := List.pairwise_mergeSort (le := fun x y : Int => decide (x ≤ y)) (fun a b c h1 h2 => by simp at *; omega) (fun a b => by simp; omega) zs
  exact this.imp (fun h => by simpa using h)
theorem cut_len (zs : List Int) : (compact zs).length ≤ zs.length := by
  unfold compact compactUpTo
  rw [List.length_map]
  exact Nat.le_trans (List.length_filter_le _ _) (by simp)
theorem IsS.of (l : List Int) : IsS l (compact (l.mergeSort fun x y => decide (x ≤ y))) := by
  have h := compact_sorted (sorted_ints l)
  exact ⟨h.1, fun x => by rw [h.2, List.mem_mergeSort]⟩
end P
theorem grown_row {w : World} {g n : Nat} {os : Array Obj} (d : Array Int) : w.grownBy (grow (putRow (Value.int .i64) (Sort.ahead w n) g 0 d) os) (some g) := by
  refine ⟨rfl, rfl, rfl, by simp, fun k hk hne => ?_⟩
  rw [heap_grow_old _ _ (by simpa using hk)]
  have : g ≠ k := fun e => hne (by rw [e])
  simp [putRow, mapBlock, Sort.ahead, Array.getElem?_modify, this]

theorem holdsI_own {B g cap : Nat} {w : World} {l : List Int} (h : OwnI B w (.slice (some ⟨g, 0, none⟩) l.length cap) l) : Holds (Value.int .i64) w g 0 l.toArray := by
  intro j hj
  have hj' : j < l.length := by simpa using hj
  rw [Nat.zero_add]
  refine ⟨?_, ?_⟩
  · rw [h.2.cellAt j (by omega), ints_get (List.getElem?_eq_getElem hj')]
    simp [hj']
  · rcases h.2.2 with ⟨h0, _⟩ | ⟨g', cap', cur, e, _, hg, _⟩
    · cases h0
    · cases e; exact free_of hg _
/-- a row of the call's own with these numbers, perhaps nil -/
def Srt (B : Nat) (w : World) (v : Value) (ms : List Int) : Prop := (v = .slice none 0 0 ∧ ms = []) ∨ ∃ g cap, v = .slice (some ⟨g, 0, none⟩) ms.length cap ∧ Holds (Value.int .i64) w g 0 ms.toArray ∧ B ≤ g ∧ g < w.heap.size ∧ ms.length ≤ cap ∧ cap ≤ 9223372036854775807
theorem OwnI.srt {B : Nat} {w : World} {v : Value} {l : List Int} (h : OwnI B w v l) : Srt B w v l := by
  rcases id h.2.2 with ⟨rfl, hn⟩ | ⟨g, cap, cur, rfl, hB, hg, hnc, hml, _, _⟩
  · exact .inl ⟨rfl, List.length_eq_zero_iff.1 hn⟩
  · exact .inr ⟨g, cap, rfl, holdsI_own h, hB, lt_block hg, hnc, hml⟩
theorem sort_own (B : Nat) (l : List Int) (v : Value) (w : World) (h : Srt B w v l) (hB : B ≤ w.heap.size) (hl : l.length ≤ 17592186040320) :
    Calls Tryz.prog 68 #[v] w fun e w' => e = .returned (.tuple #[]) ∧ Srt B w' v (l.mergeSort fun x y => decide (x ≤ y)) ∧ Below B w w' := by
  rcases h with ⟨rfl, rfl⟩ | ⟨g, cap, rfl, hH, hBg, hg, hc, hm⟩
  · refine (Tryz.slices_Sort_int_none none 0 w).mono ?_
    rintro e w' ⟨rfl, rfl⟩
    exact ⟨rfl, .inl ⟨rfl, by simp⟩, Below.refl _ _⟩
  · refine (Tryz.slices_Sort_int g 0 cap l w hH hg (by omega)).mono ?_
    rintro e w' ⟨he, n, os, rfl⟩
    have hgr := grown_row (w := w) (g := g) (n := n) (os := os) (l.mergeSort fun x y => decide (x ≤ y)).toArray
    have hb : Below B w _ := (Below.refl _ w).grown hgr hB (fun k hk => by cases hk; exact hBg)
    exact ⟨he, .inr ⟨g, cap, by rw [List.length_mergeSort], holds_grow _ _ _ _ _ _ (by simpa using hg) (holds_putRow _ _ _ _ l.toArray _ (holds_ahead _ _ _ _ _ _ hH) (by simp)), hBg, Nat.lt_of_lt_of_le hg hgr.size, by rw [List.length_mergeSort]; exact hc, hm⟩, hb⟩
theorem compact_own (B : Nat) (ms : List Int) (v : Value) (w : World) (h : Srt B w v ms) (hB : B ≤ w.heap.size) (hl : ms.length ≤ 17592186040320) :
    Calls Tryz.prog 69 #[v] w fun e w' => ∃ v', e = .returned v' ∧ RdI w' v' (Lib.compact ms) ∧ Below B w w' := by
  rcases h with ⟨rfl, rfl⟩ | ⟨g, cap, rfl, hH, hBg, hg, hc, hm⟩
  · refine (Tryz.slices_Compact_int_empty none 0 w).mono ?_
    rintro e w' ⟨rfl, rfl⟩
    exact ⟨_, rfl, by rw [show Lib.compact ([] : List Int) = [] from List.length_eq_zero_iff.1 (Nat.le_zero.1 (cut_len []))]; exact rdi_nil _, Below.refl _ _⟩
  · refine (Tryz.slices_Compact_int g 0 cap ms w hH (by omega) hc).mono ?_
    rintro e w' ⟨rfl, q, rfl⟩
    have hgr := grown_row (w := w) (g := g) (n := q) (os := #[]) (Lib.compact ms ++ List.replicate (ms.length - (Lib.compact ms).length) 0).toArray
    have e0 : ∀ X : World, grow X #[] = X := fun X => by cases X; simp [grow]
    rw [e0] at hgr
    have hH2 := holds_putRow (Value.int .i64) (Sort.ahead w q) g 0 ms.toArray (Lib.compact ms ++ List.replicate (ms.length - (Lib.compact ms).length) 0).toArray (holds_ahead _ _ _ _ _ _ hH) (by have := cut_len ms; simp; omega)
    have hlen := cut_len ms
    refine ⟨_, rfl, ⟨_, _, rfl, by omega, ⟨hm, fun e => by cases e⟩, fun k x hk => ⟨g, 0, rfl, Nat.lt_of_lt_of_le hg hgr.size, ?_⟩⟩, (Below.refl _ w).grown hgr hB (fun k hk => by cases hk; exact hBg)⟩
    obtain ⟨hlt, he⟩ := List.getElem?_eq_some_iff.1 hk
    have h1 := (hH2 k (by simp; omega)).1
    rw [h1]
    have : (Lib.compact ms ++ List.replicate (ms.length - (Lib.compact ms).length) 0).toArray[k]! = x := by
      rw [getElem!_pos _ k (by simp; omega)]
      simp [List.getElem_append_left hlt, he]
    rw [this]
end Go.Proofs.YtiobfgcpbihbhaaGreatDoor
