/-
  The library's sort of a few addresses, and slices.Compact at addresses.
-/
import Derived.Test.YtaniiennfogjaaaDoorAgQs
import Derived.Test.YtaniiennfogjaaaDoorCpLay
import Derived.Test.YtaniiennfogjaaaDoorSoLay
namespace Go.Proofs.YtaniiennfogjaaaDoor
open Go.RowKit Go.Sort Go.Lib
set_option linter.unusedSimpArgs false
set_option linter.unusedVariables false
set_option maxHeartbeats 1500000
set_option maxRecDepth 100000

theorem sortA_any (B g cap L : Nat) (l : List Nat) (w : World) (h : OwnA B w (.slice (some ⟨g, 0, none⟩) L cap) l) (hL : L = l.length) (hbig : L ≤ 100000) :
    Calls Tryd.prog 52 #[.slice (some ⟨g, 0, none⟩) L cap] w fun e w' => e = .returned (.tuple #[]) ∧ ∃ l', l'.Perm l ∧ l'.Pairwise (· ≤ ·) ∧ OwnA B w' (.slice (some ⟨g, 0, none⟩) L cap) l' ∧ Below B w w' := by
  have HP : Hid (∀ k : Nat, k ≤ 64 → Calls Tryd.prog 58 #[.slice (some ⟨g, 0, none⟩) L cap, .int .i64 0, .int .i64 (L : Int), .int .i64 (k : Int)] w fun e w' => e = .returned (.tuple #[]) ∧ ∃ l', l'.Perm l ∧ l'.Pairwise (· ≤ ·) ∧ OwnA B w' (.slice (some ⟨g, 0, none⟩) L cap) l' ∧ Below B w w') := fun k hk => by
    refine (pdqs_any L B g cap L 0 L k l w h hL (Nat.zero_le _) (Nat.le_refl _) (by omega) (fun u i x h0 => by omega) hk (by omega)).mono ?_
    rintro e w' ⟨he, l', h1, h2⟩
    refine ⟨he, l', h1.1.1, SrtSeg.all (by rw [h1.1.len, ← hL]; exact h2), h1.2.1, h1.2.2⟩
  have HN : Hid (∀ W, Calls Tryd.prog 59 #[.int .u64 (L : Int)] W fun e w' => (∃ k : Nat, e = .returned (.int .i64 (k : Int)) ∧ k ≤ 64) ∧ w' = W) := fun W => len142_any L W (by omega)
  have hw : IntKind.u64.wrap (L : Int) = (L : Int) := IntWalk.u64_in _ (by constructor <;> omega)
  clear h hL
  go_enter Tryd.func52, Tryd.ntmps52
  go_wp2_with (first
    | (go_at_call 59; refine (HN.out _).mono ?_; rintro en w1 ⟨⟨k, rfl, hk⟩, rfl⟩)
    | (go_at_call 58; refine (HP.out k hk).mono ?_; rintro en w1 ⟨rfl, h1⟩; have HF := Lib.hid h1; clear h1))
  go_end0
  exact ⟨rfl, HF.out⟩
theorem sortA_nil (w : World) : Calls Tryd.prog 52 #[.slice none 0 0] w fun e w' => e = .returned (.tuple #[]) ∧ Below w.heap.size w w' := by
  have HN : Hid (∀ W, Calls Tryd.prog 59 #[.int .u64 0] W fun e w' => (∃ k : Nat, e = .returned (.int .i64 (k : Int)) ∧ k ≤ 64) ∧ w' = W) := fun W => len142_any 0 W (by omega)
  have HI : Hid (∀ W, Calls Tryd.prog 65 #[.slice none 0 0, .int .i64 0, .int .i64 0] W fun e w' => e = .returned (.tuple #[]) ∧ Below W.heap.size W w') := fun W => by
    go_enter Tryd.func65, Tryd.ntmps65
    go_wp2_with fail
    refine wp_loop_rounds 1 ?_
    rw [rounds_succ]
    go_wp2
    go_end0
    exact ⟨rfl, Below.refl _ _⟩
  have HP : Hid (∀ W (k : Nat), Calls Tryd.prog 58 #[.slice none 0 0, .int .i64 0, .int .i64 0, .int .i64 (k : Int)] W fun e w' => e = .returned (.tuple #[]) ∧ Below W.heap.size W w') := fun W k => by
    go_enter Tryd.func58, Tryd.ntmps58
    go_wp2_with fail
    refine wp_loop_rounds 1 ?_
    rw [rounds_succ]
    go_wp2_with (go_at_call 65; refine (HI.out _).mono ?_; rintro en w1 ⟨rfl, h1⟩; have HF := Lib.hid h1; clear h1)
    (try simp only [Exit.inBlock, Exit.then])
    refine bodyPost_ret (results_none rfl _ _ _) rfl ?_
    exact ⟨rfl, HF.out⟩
  go_enter Tryd.func52, Tryd.ntmps52
  go_wp2_with (first
    | (go_at_call 59; refine (HN.out _).mono ?_; rintro en w1 ⟨⟨k, rfl, hk⟩, rfl⟩)
    | (go_at_call 58; refine (HP.out _ k).mono ?_; rintro en w1 ⟨rfl, h1⟩; have HF := Lib.hid h1; clear h1))
  go_end0
  exact ⟨rfl, HF.out⟩
theorem compactA_nil (w : World) : Calls Tryd.prog 53 #[.slice none 0 0] w fun e w' => e = .returned (.slice none 0 0) ∧ Below w.heap.size w w' := by
  go_enter Tryd.func53, Tryd.ntmps53
  go_wp2_with fail
  go_ret
  exact ⟨rfl, Below.refl _ _⟩
/-- addresses, as a slice reads -/
def RdA (w : World) (v : Value) (l : List Nat) : Prop := ∃ ad cap, v = .slice ad l.length cap ∧ ∀ (k x : Nat), l[k]? = some x → ∃ b off, ad = some ⟨b, off, none⟩ ∧ b < w.heap.size ∧ w.cell? ⟨b, off + k, none⟩ = some (.int .u32 (x : Int))
theorem mem_compact (zs : List Int) (x : Int) : x ∈ compact zs ↔ x ∈ zs := by
  unfold compact compactUpTo
  rw [List.mem_map]
  constructor
  · rintro ⟨j, hj, rfl⟩
    have h1 := (List.mem_filter.1 hj).1
    have hl : j < zs.length := by simpa using h1
    rw [getElem!_pos _ j (by simpa using hl)]
    simp
  · intro hx
    have key : ∀ j, j < zs.length → zs.toArray[j]! = x → ∃ i, i ≤ j ∧ keeps zs.toArray i = true ∧ zs.toArray[i]! = x := by
      intro j
      induction j with
      | zero => exact fun hj e => ⟨0, Nat.le_refl _, by simp [keeps], e⟩
      | succ j ih =>
        intro hj e
        by_cases he : zs.toArray[j + 1]! = zs.toArray[j]!
        · obtain ⟨i, h1, h2, h3⟩ := ih (by omega) (by rw [← he]; exact e)
          exact ⟨i, by omega, h2, h3⟩
        · exact ⟨j + 1, Nat.le_refl _, keeps_pos (by simpa using he), e⟩
    obtain ⟨j, hj, e⟩ := List.mem_iff_getElem.1 hx
    obtain ⟨i, h1, h2, h3⟩ := key j hj (by rw [getElem!_pos _ j (by simpa using hj)]; simpa using e)
    exact ⟨i, List.mem_filter.2 ⟨by simp; omega, h2⟩, h3⟩
theorem compact_sub (zs : List Int) : (compact zs).Sublist zs := by
  unfold compact compactUpTo
  have h1 : ((List.range zs.length).filter (keeps zs.toArray)).Sublist (List.range zs.length) := List.filter_sublist
  have h2 := h1.map (fun j => zs.toArray[j]!)
  have h3 := range_map_get zs.toArray
  simp only [List.size_toArray] at h3
  rwa [h3] at h2
theorem grown_rowA {w : World} {g n : Nat} {os : Array Obj} (d : Array Int) : w.grownBy (grow (putRow (Value.int .u32) (Sort.ahead w n) g 0 d) os) (some g) := by
  refine ⟨rfl, rfl, rfl, by simp, fun k hk hne => ?_⟩
  rw [heap_grow_old _ _ (by simpa using hk)]
  have : g ≠ k := fun e => hne (by rw [e])
  simp [putRow, mapBlock, Sort.ahead, Array.getElem?_modify, this]
theorem compactA_any (B g cap L : Nat) (l : List Nat) (w : World) (h : OwnA B w (.slice (some ⟨g, 0, none⟩) L cap) l) (hL : L = l.length) (hbig : L ≤ 100000) (hs : l.Pairwise (· ≤ ·)) :
    Calls Tryd.prog 53 #[.slice (some ⟨g, 0, none⟩) L cap] w fun e w' => ∃ v' l', e = .returned v' ∧ RdA w' v' l' ∧ l'.Pairwise (· ≤ ·) ∧ (∀ y, y ∈ l' ↔ y ∈ l) ∧ l'.length ≤ L ∧ Below B w w' := by
  subst hL
  obtain ⟨zs, hz⟩ : ∃ zs : List Int, zs = l.map (fun n : Nat => (n : Int)) := ⟨_, rfl⟩
  have hzl : zs.length = l.length := by rw [hz]; simp
  have hH : Holds (Value.int .u32) w g 0 zs.toArray := by
    intro j hj
    have hj' : j < l.length := by simpa [hzl] using hj
    rw [Nat.zero_add]
    refine ⟨?_, h.free j⟩
    rw [h.cell (List.getElem?_eq_getElem hj') rfl]
    have : zs.toArray[j]! = ((l[j] : Nat) : Int) := by
      rw [getElem!_pos _ j hj]
      simp [hz]
    rw [this]
  have hcap : l.length ≤ cap := by
    obtain ⟨ad, c, e, hc, _⟩ := h.slice
    cases e; exact hc
  have hgb := h.base
  have hc := AnyE.slices_Compact Tryd.compactA (Value.int .u32) (fun _ => rfl) (EqlAt.intD _ _ _) (NeqAt.intD _ _ _) 0 Tryd.zeroValue27 g 0 cap zs.toArray w hH (by simp; omega) (by simp; omega)
  have hsz : zs.toArray.size = l.length := by simpa using hzl
  rw [hsz] at hc
  refine Calls.mono hc ?_
  rintro e w' ⟨he, q, rfl⟩
  have hcomp : compactUpTo zs.toArray l.length = compact zs := by unfold compact; rw [hzl]
  rw [hcomp] at he ⊢
  have hlen : (compact zs).length ≤ l.length := by have := (compact_sub zs).length_le; omega
  have hmem : ∀ x ∈ compact zs, ∃ n : Nat, n ∈ l ∧ x = (n : Int) := fun x hx => by
    have h1 := (mem_compact zs x).1 hx
    rw [hz] at h1
    obtain ⟨n, hn, rfl⟩ := List.mem_map.1 h1
    exact ⟨n, hn, rfl⟩
  have hg := grown_rowA (w := w) (g := g) (n := q) (os := #[]) (compact zs ++ List.replicate (l.length - (compact zs).length) 0).toArray
  have e0 : ∀ X : World, grow X #[] = X := fun X => by cases X; simp [grow]
  rw [e0] at hg
  have hHH := holds_putRow (Value.int .u32) (Sort.ahead w q) g 0 zs.toArray (compact zs ++ List.replicate (l.length - (compact zs).length) 0).toArray (holds_ahead _ _ _ _ _ _ hH) (by simp; omega)
  refine ⟨_, (compact zs).map Int.toNat, he, ⟨_, cap, by rw [List.length_map], fun k x hk => ⟨g, 0, rfl, Nat.lt_of_lt_of_le hgb.2 hg.size, ?_⟩⟩, ?_, fun y => ?_, by rw [List.length_map]; exact hlen, (Below.refl _ _).grown hg h.1 (fun j e => by cases e; exact hgb.1)⟩
  · rw [List.getElem?_map] at hk
    cases hck : (compact zs)[k]? with
    | none => rw [hck] at hk; cases hk
    | some c =>
      rw [hck] at hk
      obtain rfl : c.toNat = x := by simpa using hk
      obtain ⟨hlt, hce⟩ := List.getElem?_eq_some_iff.1 hck
      have h1 := (hHH k (by simp; omega)).1
      rw [h1]
      obtain ⟨n, _, hn⟩ := hmem c (List.mem_of_getElem? hck)
      have h2 : (compact zs ++ List.replicate (l.length - (compact zs).length) 0).toArray[k]! = c := by
        rw [getElem!_pos _ k (by simp; omega)]
        simp [List.getElem_append_left hlt, hce]
      rw [h2, hn]
      simp
  · rw [List.pairwise_map]
    have hp : zs.Pairwise (· ≤ ·) := by rw [hz, List.pairwise_map]; exact hs.imp (fun h => by omega)
    exact (hp.sublist (compact_sub zs)).imp (fun h => by omega)
  · rw [List.mem_map]
    constructor
    · rintro ⟨x, hx, rfl⟩
      obtain ⟨n, hn, rfl⟩ := hmem x hx
      simpa using hn
    · intro hy
      exact ⟨(y : Int), (mem_compact zs _).2 (by rw [hz]; exact List.mem_map.2 ⟨y, hy, rfl⟩), by simp⟩
end Go.Proofs.YtaniiennfogjaaaDoor
