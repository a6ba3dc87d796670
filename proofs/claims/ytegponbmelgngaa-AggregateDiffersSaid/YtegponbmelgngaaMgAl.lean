/-
  The contract of slices.Compact at addresses, laid at this program's numbers.
  The library's sort of a few addresses, and slices.Compact at addresses.
  The walk of aggregate.bounds, for tables of few entries.
-/
import Derived.Shelf.SlicesE.Compact
import Derived.Test.YtegponbmelgngaaProg
import Derived.Test.YtegponbmelgngaaAgQs
import Derived.Test.YtegponbmelgngaaMgSb
section
namespace Go.Proofs
open Go.Shelf
def Try.compactA_ren : Go.Shelf.Ren := ⟨fun | 43 => 120 | n => n, fun | 22 => 96 | 23 => 26 | 3 => 3 | 4 => 4 | 0 => 0 | n => n, fun | n => n⟩
theorem Try.compactA : Go.Proofs.SlLaysE.n43 Try.prog Try.compactA_ren := {
  mixed := by kernel_rfl
  f43 := ⟨Try.f120.name, by decide, Try.func120.trans (congrArg some (by kernel_rfl))⟩
  t0 := Try.underlying0
  a0 := Try.isAgg0
  z0 := Try.sizeOf0
  v0 := Try.zeroValue0
  t3 := Try.underlying3
  a3 := Try.isAgg3
  z3 := Try.sizeOf3
  v3 := Try.zeroValue3
  t4 := Try.underlying4
  a4 := Try.isAgg4
  z4 := Try.sizeOf4
  v4 := Try.zeroValue4
  t22 := Try.underlying96
  a22 := Try.isAgg96
  z22 := Try.sizeOf96
  v22 := Try.zeroValue96
  a23 := Try.isAgg26
  z23 := Try.sizeOf26 }
end Go.Proofs
end

section
namespace Go.Proofs.Ytegponbmelgngaa
open Go.RowKit Go.Sort Go.Lib
set_option linter.unusedSimpArgs false
set_option linter.unusedVariables false
set_option maxHeartbeats 1500000
set_option maxRecDepth 100000

theorem sortA_any (B g cap L : Nat) (l : List Nat) (w : World) (h : OwnA B w (.slice (some ⟨g, 0, none⟩) L cap) l) (hL : L = l.length) (hbig : L ≤ 100000) :
    Calls Try.prog 119 #[.slice (some ⟨g, 0, none⟩) L cap] w fun e w' => e = .returned (.tuple #[]) ∧ ∃ l', l'.Perm l ∧ l'.Pairwise (· ≤ ·) ∧ OwnA B w' (.slice (some ⟨g, 0, none⟩) L cap) l' ∧ Below B w w' := by
  have HP : Hid (∀ k : Nat, k ≤ 64 → Calls Try.prog 141 #[.slice (some ⟨g, 0, none⟩) L cap, .int .i64 0, .int .i64 (L : Int), .int .i64 (k : Int)] w fun e w' => e = .returned (.tuple #[]) ∧ ∃ l', l'.Perm l ∧ l'.Pairwise (· ≤ ·) ∧ OwnA B w' (.slice (some ⟨g, 0, none⟩) L cap) l' ∧ Below B w w') := fun k hk => by
    refine (pdqs_any L B g cap L 0 L k l w h hL (Nat.zero_le _) (Nat.le_refl _) (by omega) (fun u i x h0 => by omega) hk (by omega)).mono ?_
    rintro e w' ⟨he, l', h1, h2⟩
    refine ⟨he, l', h1.1.1, SrtSeg.all (by rw [h1.1.len, ← hL]; exact h2), h1.2.1, h1.2.2⟩
  have HN : Hid (∀ W, Calls Try.prog 142 #[.int .u64 (L : Int)] W fun e w' => (∃ k : Nat, e = .returned (.int .i64 (k : Int)) ∧ k ≤ 64) ∧ w' = W) := fun W => len142_any L W (by omega)
  have hw : IntKind.u64.wrap (L : Int) = (L : Int) := IntWalk.u64_in _ (by constructor <;> omega)
  clear h hL
  go_enter Try.func119, Try.ntmps119
  go_wp2_with (first
    | (go_at_call 142; refine (HN.out _).mono ?_; rintro en w1 ⟨⟨k, rfl, hk⟩, rfl⟩)
    | (go_at_call 141; refine (HP.out k hk).mono ?_; rintro en w1 ⟨rfl, h1⟩; have HF := Lib.hid h1; clear h1))
  go_end0
  exact ⟨rfl, HF.out⟩
theorem sortA_nil (w : World) : Calls Try.prog 119 #[.slice none 0 0] w fun e w' => e = .returned (.tuple #[]) ∧ Below w.heap.size w w' := by
  have HN : Hid (∀ W, Calls Try.prog 142 #[.int .u64 0] W fun e w' => (∃ k : Nat, e = .returned (.int .i64 (k : Int)) ∧ k ≤ 64) ∧ w' = W) := fun W => len142_any 0 W (by omega)
  have HI : Hid (∀ W, Calls Try.prog 149 #[.slice none 0 0, .int .i64 0, .int .i64 0] W fun e w' => e = .returned (.tuple #[]) ∧ Below W.heap.size W w') := fun W => by
    go_enter Try.func149, Try.ntmps149
    go_wp2_with fail
    refine wp_loop_rounds 1 ?_
    rw [rounds_succ]
    go_wp2
    go_end0
    exact ⟨rfl, Below.refl _ _⟩
  have HP : Hid (∀ W (k : Nat), Calls Try.prog 141 #[.slice none 0 0, .int .i64 0, .int .i64 0, .int .i64 (k : Int)] W fun e w' => e = .returned (.tuple #[]) ∧ Below W.heap.size W w') := fun W k => by
    go_enter Try.func141, Try.ntmps141
    go_wp2_with fail
    refine wp_loop_rounds 1 ?_
    rw [rounds_succ]
    go_wp2_with (go_at_call 149; refine (HI.out _).mono ?_; rintro en w1 ⟨rfl, h1⟩; have HF := Lib.hid h1; clear h1)
    (try simp only [Exit.inBlock, Exit.then])
    refine bodyPost_ret (results_none rfl _ _ _) rfl ?_
    exact ⟨rfl, HF.out⟩
  go_enter Try.func119, Try.ntmps119
  go_wp2_with (first
    | (go_at_call 142; refine (HN.out _).mono ?_; rintro en w1 ⟨⟨k, rfl, hk⟩, rfl⟩)
    | (go_at_call 141; refine (HP.out _ k).mono ?_; rintro en w1 ⟨rfl, h1⟩; have HF := Lib.hid h1; clear h1))
  go_end0
  exact ⟨rfl, HF.out⟩
theorem compactA_nil (w : World) : Calls Try.prog 120 #[.slice none 0 0] w fun e w' => e = .returned (.slice none 0 0) ∧ Below w.heap.size w w' := by
  go_enter Try.func120, Try.ntmps120
  go_wp2_with fail
  go_ret
  exact ⟨rfl, Below.refl _ _⟩
/-- addresses, as a slice reads -/
def RdA (w : World) (v : Value) (l : List Nat) : Prop := ∃ ad cap, v = .slice ad l.length cap ∧ ∀ (k x : Nat), l[k]? = some x → ∃ b off, ad = some ⟨b, off, none⟩ ∧ b < w.heap.size ∧ w.cell? ⟨b, off + k, none⟩ = some (.int .u32 (x : Int))
theorem RdA.below {w w' : World} {v : Value} {l : List Nat} (h : RdA w v l) (hb : Below w.heap.size w w') : RdA w' v l := by
  obtain ⟨ad, cap, e, hc⟩ := h
  refine ⟨ad, cap, e, fun k x hk => ?_⟩
  obtain ⟨b, off, e2, hlt, hcell⟩ := hc k x hk
  exact ⟨b, off, e2, Nat.lt_of_lt_of_le hlt hb.size, carryE hb hlt hcell⟩
theorem mem_compact (zs : List Int) (x : Int) : x ∈ compact zs ↔ x ∈ zs := by
  unfold compact compactUpTo
  rw [List.mem_map]
  constructor
  · rintro ⟨j, hj, rfl⟩
    have h1 := (List.mem_filter.1 hj).1
    have hl : j < zs.length := by simpa using h1
    rw [getElem!_pos _ j (by simpa using hl)]
    simp
  · intro hx
    have key : ∀ j, j < zs.length → zs.toArray[j]! = x → ∃ i, i ≤ j ∧ keeps zs.toArray i = true ∧ zs.toArray[i]! = x := by
      intro j
      induction j with
      | zero => exact fun hj e => ⟨0, Nat.le_refl _, by simp [keeps], e⟩
      | succ j ih =>
        intro hj e
        by_cases he : zs.toArray[j + 1]! = zs.toArray[j]!
        · obtain ⟨i, h1, h2, h3⟩ := ih (by omega) (by rw [← he]; exact e)
          exact ⟨i, by omega, h2, h3⟩
        · exact ⟨j + 1, Nat.le_refl _, keeps_pos (by simpa using he), e⟩
    obtain ⟨j, hj, e⟩ := List.mem_iff_getElem.1 hx
    obtain ⟨i, h1, h2, h3⟩ := key j hj (by rw [getElem!_pos _ j (by simpa using hj)]; simpa using e)
    exact ⟨i, List.mem_filter.2 ⟨by simp; omega, h2⟩, h3⟩
theorem compact_sub (zs : List Int) : (compact zs).Sublist zs := by
  unfold compact compactUpTo
  have h1 : ((List.range zs.length).filter (keeps zs.toArray)).Sublist (List.range zs.length) := List.filter_sublist
  have h2 := h1.map (fun j => zs.toArray[j]!)
  have h3 := range_map_get zs.toArray
  simp only [List.size_toArray] at h3
  rwa [h3] at h2
theorem grown_rowA {w : World} {g n : Nat} {os : Array Obj} (d : Array Int) : w.grownBy (grow (putRow (Value.int .u32) (Sort.ahead w n) g 0 d) os) (some g) := by
  refine ⟨rfl, rfl, rfl, by simp, fun k hk hne => ?_⟩
  rw [heap_grow_old _ _ (by simpa using hk)]
  have : g ≠ k := fun e => hne (by rw [e])
  simp [putRow, mapBlock, Sort.ahead, Array.getElem?_modify, this]
theorem compactA_any (B g cap L : Nat) (l : List Nat) (w : World) (h : OwnA B w (.slice (some ⟨g, 0, none⟩) L cap) l) (hL : L = l.length) (hbig : L ≤ 100000) (hs : l.Pairwise (· ≤ ·)) :
    Calls Try.prog 120 #[.slice (some ⟨g, 0, none⟩) L cap] w fun e w' => ∃ v' l', e = .returned v' ∧ RdA w' v' l' ∧ l'.Pairwise (· ≤ ·) ∧ (∀ y, y ∈ l' ↔ y ∈ l) ∧ l'.length ≤ L ∧ Below B w w' := by
  subst hL
  obtain ⟨zs, hz⟩ : ∃ zs : List Int, zs = l.map (fun n : Nat => (n : Int)) := ⟨_, rfl⟩
  have hzl : zs.length = l.length := by rw [hz]; simp
  have hH : Holds (Value.int .u32) w g 0 zs.toArray := by
    intro j hj
    have hj' : j < l.length := by simpa [hzl] using hj
    rw [Nat.zero_add]
    refine ⟨?_, h.free j⟩
    rw [h.cell (List.getElem?_eq_getElem hj') rfl]
    have : zs.toArray[j]! = ((l[j] : Nat) : Int) := by
      rw [getElem!_pos _ j hj]
      simp [hz]
    rw [this]
  have hcap : l.length ≤ cap := by
    obtain ⟨ad, c, e, hc, _⟩ := h.slice
    cases e; exact hc
  have hgb := h.base
  have hc := AnyE.slices_Compact Try.compactA (Value.int .u32) (fun _ => rfl) (EqlAt.intD _ _ _) (NeqAt.intD _ _ _) 0 Try.zeroValue26 g 0 cap zs.toArray w hH (by simp; omega) (by simp; omega)
  have hsz : zs.toArray.size = l.length := by simpa using hzl
  rw [hsz] at hc
  refine Calls.mono hc ?_
  rintro e w' ⟨he, q, rfl⟩
  have hcomp : compactUpTo zs.toArray l.length = compact zs := by unfold compact; rw [hzl]
  rw [hcomp] at he ⊢
  have hlen : (compact zs).length ≤ l.length := by have := (compact_sub zs).length_le; omega
  have hmem : ∀ x ∈ compact zs, ∃ n : Nat, n ∈ l ∧ x = (n : Int) := fun x hx => by
    have h1 := (mem_compact zs x).1 hx
    rw [hz] at h1
    obtain ⟨n, hn, rfl⟩ := List.mem_map.1 h1
    exact ⟨n, hn, rfl⟩
  have hg := grown_rowA (w := w) (g := g) (n := q) (os := #[]) (compact zs ++ List.replicate (l.length - (compact zs).length) 0).toArray
  have e0 : ∀ X : World, grow X #[] = X := fun X => by cases X; simp [grow]
  rw [e0] at hg
  have hHH := holds_putRow (Value.int .u32) (Sort.ahead w q) g 0 zs.toArray (compact zs ++ List.replicate (l.length - (compact zs).length) 0).toArray (holds_ahead _ _ _ _ _ _ hH) (by simp; omega)
  refine ⟨_, (compact zs).map Int.toNat, he, ⟨_, cap, by rw [List.length_map], fun k x hk => ⟨g, 0, rfl, Nat.lt_of_lt_of_le hgb.2 hg.size, ?_⟩⟩, ?_, fun y => ?_, by rw [List.length_map]; exact hlen, (Below.refl _ _).grown hg h.1 (fun j e => by cases e; exact hgb.1)⟩
  · rw [List.getElem?_map] at hk
    cases hck : (compact zs)[k]? with
    | none => rw [hck] at hk; cases hk
    | some c =>
      rw [hck] at hk
      obtain rfl : c.toNat = x := by simpa using hk
      obtain ⟨hlt, hce⟩ := List.getElem?_eq_some_iff.1 hck
      have h1 := (hHH k (by simp; omega)).1
      rw [h1]
      obtain ⟨n, _, hn⟩ := hmem c (List.mem_of_getElem? hck)
      have h2 : (compact zs ++ List.replicate (l.length - (compact zs).length) 0).toArray[k]! = c := by
        rw [getElem!_pos _ k (by simp; omega)]
        simp [List.getElem_append_left hlt, hce]
      rw [h2, hn]
      simp
  · rw [List.pairwise_map]
    have hp : zs.Pairwise (· ≤ ·) := by rw [hz, List.pairwise_map]; exact hs.imp (fun h => by omega)
    exact (hp.sublist (compact_sub zs)).imp (fun h => by omega)
  · rw [List.mem_map]
    constructor
    · rintro ⟨x, hx, rfl⟩
      obtain ⟨n, hn, rfl⟩ := hmem x hx
      simpa using hn
    · intro hy
      exact ⟨(y : Int), (mem_compact zs _).2 (by rw [hz]; exact List.mem_map.2 ⟨y, hy, rfl⟩), by simp⟩
end Go.Proofs.Ytegponbmelgngaa
end

section
namespace Go.Proofs.Ytegponbmelgngaa
open Go.RowKit
set_option linter.unusedSimpArgs false
set_option linter.unusedVariables false
set_option maxHeartbeats 1500000
set_option maxRecDepth 100000

/-- the addresses of an entry: its first, and the one behind it -/
def ptE (e : En) : List Nat := [e.1.1, (e.1.1 + 2 ^ (blk e.1).2) % 4294967296]
def ptsE (l : List En) : List Nat := l.flatMap ptE
theorem ptsE_snoc (l : List En) (e : En) : ptsE (l ++ [e]) = ptsE l ++ ptE e := by unfold ptsE; simp
theorem ptsE_len (l : List En) : (ptsE l).length = 2 * l.length := by
  unfold ptsE
  induction l with
  | nil => rfl
  | cons e r ih => rw [List.flatMap_cons, List.length_append, ih]; simp [ptE]; omega
theorem ptsE_take {l : List En} {k : Nat} {e : En} (h : l[k]? = some e) : ptsE (l.take (k + 1)) = ptsE (l.take k) ++ ptE e := by rw [take_snocN h, ptsE_snoc]
theorem infoA : (Try.prog.info? 26).map (fun i => (i.zero, i.size, i.bytes)) = some (some (.int .u32 0), 1, 4) := by kernel_rfl
theorem ownA_ne {B E : Nat} {W : World} {v : Value} {l : List Nat} {c : Array Value} (h : OwnA B W v l) (hE : W.heap[E]? = some (.cells c 51 (0, 0))) : some E ≠ v.ownBlock := by
  rcases h.2.2 with ⟨rfl, _⟩ | ⟨g, cap, cur, rfl, hB, hg, _⟩
  · simp [Value.ownBlock]
  · intro e
    simp [Value.ownBlock] at e
    subst e
    rw [hg] at hE
    cases hE
theorem one_twoA (a b : Nat) : ∀ u ∈ [Value.int .u32 (a : Int), .int .u32 (b : Int)], u.oneCell' = true := by
  intro u hu; simp at hu; rcases hu with rfl | rfl <;> rfl
theorem bounds_any (a b : List En) (v1 v2 : Value) (hb : Nat) (w : World) (hb1 : w.heap[hb]? = some (.cells #[v1, v2] 56 (0, 0))) (h1 : RdE w v1 a) (h2 : RdE w v2 b) (hv : ∀ e ∈ a ++ b, V e.1 = true) (hf : FitE (a ++ b)) (hl : 2 * (a.length + b.length) ≤ 1000) (hpos : 0 < a.length + b.length) :
    Calls Try.prog 88 #[.slice (some ⟨hb, 0, none⟩) 2 2] w fun e w' => ∃ v' l', e = .returned v' ∧ RdA w' v' l' ∧ l'.Pairwise (· ≤ ·) ∧ (∀ y, y ∈ l' ↔ y ∈ ptsE (a ++ b)) ∧ l'.length ≤ 1000 ∧ Below w.heap.size w w' := by
  obtain ⟨i0, hi, hz0, hz1, hz2⟩ := info_parts infoA
  obtain ⟨T, hT⟩ : ∃ T : List (Value × List En), T = [(v1, a), (v2, b)] := ⟨_, rfl⟩
  have HT : Hid (∀ k v l, T[k]? = some (v, l) → w.cell? ⟨hb, k, none⟩ = some v ∧ RdE w v l ∧ (∀ e ∈ l, e ∈ a ++ b) ∧ l.length ≤ 500) := fun k v l hk => by
    subst hT
    have hk2 : k < 2 := (List.getElem?_eq_some_iff.1 hk).1
    rcases (by omega : k = 0 ∨ k = 1) with rfl | rfl
    · cases hk; exact ⟨cellO hb1 rfl, h1, fun e he => List.mem_append_left _ he, by omega⟩
    · cases hk; exact ⟨cellO hb1 rfl, h2, fun e he => List.mem_append_right _ he, by omega⟩
  have HTL : Hid (T.length = 2 ∧ T.flatMap (fun x => ptsE x.2) = ptsE (a ++ b) ∧ hb < w.heap.size ∧ (∀ k, k ≤ 2 → ((T.take k).flatMap (fun x => ptsE x.2)).length ≤ 1000) ∧ ∀ k v l j, T[k]? = some (v, l) → j < l.length → ((T.take k).flatMap (fun x => ptsE x.2)).length + 2 * (j + 1) ≤ 1000) := by
    subst hT
    refine ⟨rfl, by unfold ptsE; simp, ltO hb1, fun k hk => ?_, fun k v l j hk hj => ?_⟩
    · rcases (by omega : k = 0 ∨ k = 1 ∨ k = 2) with rfl | rfl | rfl <;> simp [ptsE_len] <;> omega
    · have hk2 : k < 2 := (List.getElem?_eq_some_iff.1 hk).1
      rcases (by omega : k = 0 ∨ k = 1) with rfl | rfl <;> cases hk <;> simp [ptsE_len] <;> omega
  have HV := Lib.hid hv
  have HF := Lib.hid hf
  have HP := Lib.hid (And.intro hl hpos)
  clear hb1 h1 h2 hv hf hl hpos hT
  go_enter Try.func88, Try.ntmps88
  go_wp2_with fail
  go_loopg [3, 5, 7, 10] 2 (fun g s3 s5 s7 s10 wr => ∃ (k : Nat) (v : Value), v = s3 ∧ (∃ u, u = s5) ∧ (∃ u, u = s7) ∧ s10 = .int .i64 (k : Int) ∧ k ≤ 2 ∧ 2 - k ≤ g ∧ Hid (Below w.heap.size w wr ∧ OwnA w.heap.size wr v ((T.take k).flatMap (fun x => ptsE x.2))))
  case atStart => exact ⟨0, _, rfl, ⟨_, rfl⟩, ⟨_, rfl⟩, rfl, by omega, by omega, Below.refl _ _, Nat.le_refl _, World.ownsRow_nil _ _ _ _⟩
  case round =>
    obtain ⟨k, v, rfl, ⟨u5, rfl⟩, ⟨u7, rfl⟩, rfl, hk, hg, HI⟩ := hrel
    by_cases hlt : k < 2
    · obtain ⟨⟨vk, lk⟩, hTk⟩ : ∃ x, T[k]? = some x := ⟨_, List.getElem?_eq_getElem (by have := HTL.out.1; omega)⟩
      obtain ⟨ck, hrk, hsub, hlk⟩ := HT.out k vk lk hTk
      have c0 := carryE HI.out.1 HTL.out.2.2.1 ck
      obtain ⟨ad, cap, rfl, hc⟩ := hrk
      have HC := Lib.hid hc
      have HSUB := Lib.hid hsub
      have HTK := Lib.hid hTk
      obtain ⟨L, hL⟩ : ∃ L, lk.length = L := ⟨_, rfl⟩
      rw [hL] at hlk c0
      have HL := Lib.hid hL
      have k0 : (0 : Int) ≤ (k : Int) := by omega
      have k1 : (k : Int) < 2 := by omega
      clear hc hsub hTk hL ck
      go_wp2_with fail
      obtain ⟨W1, hW1⟩ : ∃ W1, W1 = wr := ⟨_, rfl⟩
      rw [← hW1] at HI ⊢
      clear hW1 c0
      go_loopg [3, 7, 16] L (fun gk s3 s7 s16 wr => ∃ (j : Nat) (v2 : Value), v2 = s3 ∧ (∃ u, u = s7) ∧ s16 = .int .i64 (j : Int) ∧ j ≤ L ∧ L - j ≤ gk ∧ Hid (Below w.heap.size w wr ∧ OwnA w.heap.size wr v2 ((T.take k).flatMap (fun x => ptsE x.2) ++ ptsE (lk.take j))))
      case atStart => exact ⟨0, v, rfl, ⟨_, rfl⟩, rfl, by omega, by omega, HI.out.1, by
        rw [List.take_zero]
        show OwnA _ _ _ (_ ++ [])
        rw [List.append_nil]; exact HI.out.2⟩
      case round =>
        clear HI
        obtain ⟨j, v3, rfl, ⟨u7b, rfl⟩, rfl, hj, hgk, HJ⟩ := hrel
        by_cases hjl : j < L
        · obtain ⟨e, he⟩ : ∃ x, lk[j]? = some x := ⟨_, List.getElem?_eq_getElem (by have := HL.out; omega)⟩
          obtain ⟨blk1, off, rfl, hbl, q0, q1, q2⟩ := HC.out j e he
          have d0 := carryE HJ.out.1 hbl q0
          have d1 := carryE HJ.out.1 hbl q1
          have d2 := carryE HJ.out.1 hbl q2
          have hme := HSUB.out e (List.mem_of_getElem? he)
          have hve := HV.out e hme
          have hfe := HF.out e hme
          have hlast := last_eq (a := e.1.1) (n := e.1.2) hve
          have htop := block_top hfe.1 hve
          have hp2 := CM.pow_pos' (32 - e.1.2.toNat)
          have HNX : Hid ((T.take k).flatMap (fun x => ptsE x.2) ++ ptsE (lk.take (j + 1)) = ((T.take k).flatMap (fun x => ptsE x.2) ++ ptsE (lk.take j)) ++ [e.1.1, (e.1.1 + 2 ^ (blk e.1).2) % 4294967296]) := by
            show _ = _
            rw [ptsE_take he, List.append_assoc]; rfl
          obtain ⟨O, hO⟩ : ∃ O, O = (T.take k).flatMap (fun x => ptsE x.2) ++ ptsE (lk.take j) := ⟨_, rfl⟩
          have hOl : O.length + 2 ≤ 1000 := by
            have h1 := HTL.out.2.2.2.2 k _ lk j HTK.out (by have := HL.out; omega)
            rw [hO, List.length_append, ptsE_len, List.length_take, Nat.min_eq_left (by have := HL.out; omega)]
            omega
          rw [← hO] at HJ HNX
          obtain ⟨nx, hnx⟩ : ∃ nx, nx = (e.1.1 + 2 ^ (blk e.1).2) % 4294967296 := ⟨_, rfl⟩
          rw [← hnx] at HNX
          obtain ⟨la, hla⟩ : ∃ la, la = lastN e.1.1 e.1.2 := ⟨_, rfl⟩
          have hwr : IntKind.u32.wrap ((la : Int) + 1) = (nx : Int) := by
            have hbe : (blk e.1).2 = 32 - e.1.2.toNat := rfl
            rw [hbe] at hnx
            have hl1 : (la : Int) + 1 = ((e.1.1 + 2 ^ (32 - e.1.2.toNat) : Nat) : Int) := by omega
            rw [hl1]
            rcases Nat.lt_or_ge (e.1.1 + 2 ^ (32 - e.1.2.toNat)) 4294967296 with h | h
            · rw [IntWalk.u32_in _ (by constructor <;> omega), hnx, Nat.mod_eq_of_lt h]
            · have h2 : e.1.1 + 2 ^ (32 - e.1.2.toNat) = 4294967296 := by omega
              rw [hnx, h2]; decide
          have HLC : Hid (∀ W, Calls Try.prog 60 #[.agg #[.int .u32 (e.1.1 : Int), .int .i64 e.1.2]] W fun en w' => en = .returned (.int .u32 (la : Int)) ∧ Below W.heap.size W w') := fun W => by rw [hla]; exact last_yes e.1.1 hfe.1 e.1.2 hfe.2.1 W hve
          have HO := Lib.hid HJ.out.2
          have HB := Lib.hid HJ.out.1
          obtain ⟨⟨x, n⟩, y⟩ := e
          dsimp only at d0 d1 d2 HNX HLC
          have j0 : (0 : Int) ≤ (j : Int) := by omega
          have j1 : (j : Int) < (L : Int) := by omega
          clear he q0 q1 q2 hme hve hfe hlast htop hp2 hnx hla hO HJ hbl
          go_wp2_with fail
          have HE0 : Hid ((wr.alloc (.cells #[.int .u32 (x : Int), .int .i64 n, .int .i64 y] 51)).heap[wr.heap.size]? = some (.cells #[.int .u32 (x : Int), .int .i64 n, .int .i64 y] 51 (0, 0)) ∧ Below w.heap.size w (wr.alloc (.cells #[.int .u32 (x : Int), .int .i64 n, .int .i64 y] 51)) ∧ OwnA w.heap.size (wr.alloc (.cells #[.int .u32 (x : Int), .int .i64 n, .int .i64 y] 51)) v3 O) := ⟨heap_alloc_new _ _, HB.out.alloc HB.out.size _, HO.out.below (below_alloc _ _)⟩
          clear d0 d1 d2 HO HB
          generalize wr.alloc (.cells #[.int .u32 (x : Int), .int .i64 n, .int .i64 y] 51) = w1 at *
          generalize wr.heap.size = E at *
          have e0 := cellO HE0.out.1 (o := 0) rfl
          have e1 := cellO HE0.out.1 (o := 1) rfl
          have HK : Hid (∀ {W W1 : World}, (W.cell? ⟨E, 0, none⟩ = some (.int .u32 (x : Int)) ∧ W.cell? ⟨E, 1, none⟩ = some (.int .i64 n) ∧ Hid (Below w.heap.size w W ∧ W.heap[E]? = some (.cells #[.int .u32 (x : Int), .int .i64 n, .int .i64 y] 51 (0, 0)))) → Below W.heap.size W W1 → W1.cell? ⟨E, 0, none⟩ = some (.int .u32 (x : Int)) ∧ W1.cell? ⟨E, 1, none⟩ = some (.int .i64 n) ∧ Hid (Below w.heap.size w W1 ∧ W1.heap[E]? = some (.cells #[.int .u32 (x : Int), .int .i64 n, .int .i64 y] 51 (0, 0)))) := fun {W W1} h hb => ⟨carry hb h.1, carry hb h.2.1, below_then h.2.2.out.1 hb, (hb.block _ (ltO h.2.2.out.2)).trans h.2.2.out.2⟩
          have HKG : Hid (∀ {W W1 : World} {v : Value} {l : List Nat}, (W.cell? ⟨E, 0, none⟩ = some (.int .u32 (x : Int)) ∧ W.cell? ⟨E, 1, none⟩ = some (.int .i64 n) ∧ Hid (Below w.heap.size w W ∧ W.heap[E]? = some (.cells #[.int .u32 (x : Int), .int .i64 n, .int .i64 y] 51 (0, 0)))) → OwnA w.heap.size W v l → W.grownBy W1 v.ownBlock → W1.cell? ⟨E, 0, none⟩ = some (.int .u32 (x : Int)) ∧ W1.cell? ⟨E, 1, none⟩ = some (.int .i64 n) ∧ Hid (Below w.heap.size w W1 ∧ W1.heap[E]? = some (.cells #[.int .u32 (x : Int), .int .i64 n, .int .i64 y] 51 (0, 0)))) := fun {W W1 v l} h ho hg => by
            have hb := hg.block E (ltO h.2.2.out.2) (ownA_ne ho h.2.2.out.2)
            have hb2 := hb.trans h.2.2.out.2
            exact ⟨cellO hb2 rfl, cellO hb2 rfl, h.2.2.out.1.grown hg h.2.2.out.1.size (fun q hq => (own_lt ho.2 hq).1), hb2⟩
          go_region_held3 (fun W => W.cell? ⟨E, 0, none⟩ = some (.int .u32 (x : Int)) ∧ W.cell? ⟨E, 1, none⟩ = some (.int .i64 n) ∧ Hid (Below w.heap.size w W ∧ W.heap[E]? = some (.cells #[.int .u32 (x : Int), .int .i64 n, .int .i64 y] 51 (0, 0))))
            (first | exact ⟨e0, e1, HE0.out.2.1.drew, HE0.out.1⟩ | assumption | exact HK.out ‹_› (below_alloc _ _))
            (first
              | (go_at_call 60; (refine (HLC.out _).mono ?_); rintro en w6 ⟨rfl, hb6⟩; have hk6 := HK.out ‹_› hb6; have HO6 : Hid (OwnA w.heap.size w6 v3 O) := OwnA.below (w := w1.drew) HE0.out.2.2 hb6; clear hb6)
              | (refine step_append_lies _ rfl (.tmp 20) (.tmp 28) 96 rfl w.heap.size 26 i0 (.int .u32 0) 1 4 Try.underlying96 hi hz0 hz1 hz2 rfl (by decide) v3 O.length (adV O) (by rfl) (HO6.out.below (below_alloc _ _)).2 ⟨w6.heap.size, 0, none⟩ 2 2 [.int .u32 (x : Int), .int .u32 (nx : Int)] (by rfl) rfl (cellP_two_new _ _ _ _ rfl) (one_twoA _ _) (by decide) (by unfold maxLen; omega) (by omega) (HO6.out.below (below_alloc _ _)).1 _ rfl ?_
                 intro g4 cap4 w7 hown hgrow hloc hlt7
                 have hk7 := HKG.out (HK.out ‹_› (below_alloc _ _)) (HO6.out.below (below_alloc _ _)) hgrow
                 have HO7 : Hid (OwnA w.heap.size w7 (.slice (some ⟨g4, 0, none⟩) (O.length + 2) cap4) (O ++ [x, nx])) := ⟨hk7.2.2.out.1.size, by rw [adV_snoc2, List.length_append]; exact hown⟩
                 clear hown hgrow hloc hlt7))
          have HB7 := Lib.hid hk7.2.2.out.1
          go_wp2_with fail
          go_roundg (L - (j + 1))
          case measure => omega
          case rel => exact ⟨j + 1, _, rfl, ⟨_, rfl⟩, by go_num, by omega, Nat.le_refl _, HB7.out, by rw [HNX.out]; exact HO7.out⟩
        · have k2 : decide ((j : Int) < (L : Int)) = false := decide_eq_false (by omega)
          have HE : Hid ((T.take k).flatMap (fun x => ptsE x.2) ++ ptsE (lk.take j) = (T.take (k + 1)).flatMap (fun x => ptsE x.2)) := by
            show _ = _
            rw [List.take_add_one, HTK.out, List.take_of_length_le (l := lk) (by have := HL.out; omega)]
            simp
          go_wp2_with fail
          go_roundg (2 - (k + 1))
          case measure => omega
          case rel => exact ⟨k + 1, v3, rfl, ⟨_, rfl⟩, ⟨_, rfl⟩, by go_num, by omega, Nat.le_refl _, HJ.out.1, by rw [← HE.out]; exact HJ.out.2⟩
    · have hk2 : k = 2 := by omega
      subst hk2
      have hall : (T.take 2).flatMap (fun x => ptsE x.2) = ptsE (a ++ b) := by rw [List.take_of_length_le (by have := HTL.out.1; omega)]; exact HTL.out.2.1
      have HO : Hid (OwnA w.heap.size wr v (ptsE (a ++ b)) ∧ Below w.heap.size w wr) := ⟨hall ▸ HI.out.2, HI.out.1⟩
      obtain ⟨P, hP⟩ : ∃ P, P = ptsE (a ++ b) := ⟨_, rfl⟩
      rw [← hP] at HO
      have HPP := Lib.hid hP
      have hPl : P.length = 2 * (a.length + b.length) := by rw [hP, ptsE_len, List.length_append]
      have hP1 : P.length ≤ 1000 ∧ 0 < P.length := by have := HP.out; omega
      obtain ⟨ad, cap, rfl, _, hex⟩ := HO.out.1.slice
      obtain ⟨g, rfl⟩ := hex 0 _ (List.getElem?_eq_getElem hP1.2)
      obtain ⟨N, hN⟩ : ∃ N, N = P.length := ⟨_, rfl⟩
      rw [← hN] at HO
      have HS := Lib.hid (sortA_any w.heap.size g cap N P wr HO.out.1 hN (by omega))
      have HCM : Hid (∀ W l', l'.Perm P → l'.Pairwise (· ≤ ·) → OwnA w.heap.size W (.slice (some ⟨g, 0, none⟩) N cap) l' → Calls Try.prog 120 #[.slice (some ⟨g, 0, none⟩) N cap] W fun e w' => ∃ v' l2, e = .returned v' ∧ RdA w' v' l2 ∧ l2.Pairwise (· ≤ ·) ∧ (∀ y, y ∈ l2 ↔ y ∈ P) ∧ l2.length ≤ 1000 ∧ Below w.heap.size W w') := fun W l' hp hs ho => by
        refine (compactA_any w.heap.size g cap N l' W ho (by rw [hN, hp.length_eq]) (by omega) hs).mono ?_
        rintro e w' ⟨v', l2, he, h1, h2, h3, h4, h5⟩
        exact ⟨v', l2, he, h1, h2, fun y => (h3 y).trans hp.mem_iff, by omega, h5⟩
      have HBB := Lib.hid HO.out.2
      rw [← hN]
      clear hall hP hPl hP1 hex hN HI HO HT HTL
      go_wp2_with (first
        | (go_at_call 119; refine HS.out.mono ?_; rintro en w2 ⟨rfl, l', hp, hs, ho, hb⟩; have H2 : Hid (l'.Perm P ∧ l'.Pairwise (· ≤ ·) ∧ OwnA w.heap.size w2 (.slice (some ⟨g, 0, none⟩) N cap) l' ∧ Below w.heap.size w w2) := ⟨hp, hs, ho, HBB.out.trans hb⟩; clear hp hs ho hb)
        | (go_at_call 120; refine (HCM.out _ _ H2.out.1 H2.out.2.1 H2.out.2.2.1).mono ?_; rintro en w3 ⟨v3, l2, rfl, h1, h2, h3, h4, h5⟩; have H3 := Lib.hid (And.intro h1 (And.intro h2 (And.intro h3 (And.intro h4 (H2.out.2.2.2.trans h5))))); clear h1 h2 h3 h4 h5))
      go_ret
      exact ⟨v3, l2, rfl, by have := H3.out; rw [HPP.out] at this; exact this⟩
theorem bounds_nil (ad1 ad2 : Option Addr) (c1 c2 hb : Nat) (w : World) (hb1 : w.heap[hb]? = some (.cells #[.slice ad1 0 c1, .slice ad2 0 c2] 56 (0, 0))) :
    Calls Try.prog 88 #[.slice (some ⟨hb, 0, none⟩) 2 2] w fun e w' => e = .returned (.slice none 0 0) ∧ Below w.heap.size w w' := by
  have q0 := cellO hb1 (o := 0) rfl
  have q1 := cellO hb1 (o := 1) rfl
  have hlt := ltO hb1
  clear hb1
  go_enter Try.func88, Try.ntmps88
  go_wp2_with fail
  go_loopg [3, 5, 7, 10] 2 (fun g s3 s5 s7 s10 wr => ∃ (k : Nat), s3 = .slice none 0 0 ∧ (∃ u, u = s5) ∧ (∃ u, u = s7) ∧ s10 = .int .i64 (k : Int) ∧ k ≤ 2 ∧ 2 - k ≤ g ∧ Hid (Below w.heap.size w wr))
  case atStart => exact ⟨0, rfl, ⟨_, rfl⟩, ⟨_, rfl⟩, rfl, by omega, by omega, Below.refl _ _⟩
  case round =>
    obtain ⟨k, rfl, ⟨u5, rfl⟩, ⟨u7, rfl⟩, rfl, hk, hg, HI⟩ := hrel
    have c0 := carryE HI.out hlt q0
    have c1' := carryE HI.out hlt q1
    clear q0 q1
    rcases (by omega : k = 0 ∨ k = 1 ∨ k = 2) with rfl | rfl | rfl
    · go_wp2_with fail
      obtain ⟨W1, hW1⟩ : ∃ W1, W1 = wr := ⟨_, rfl⟩
      rw [← hW1] at HI ⊢
      clear hW1 c0 c1'
      go_loopg [3, 7, 16] 0 (fun gk s3 s7 s16 wr => s3 = .slice none 0 0 ∧ (∃ u, u = s7) ∧ s16 = .int .i64 0 ∧ Hid (Below w.heap.size w wr))
      case atStart => exact ⟨rfl, ⟨_, rfl⟩, rfl, HI.out⟩
      case round =>
        clear HI
        obtain ⟨rfl, ⟨u7b, rfl⟩, rfl, HI⟩ := hrel
        go_wp2_with fail
        go_roundg 1
        case measure => omega
        case rel => exact ⟨1, rfl, ⟨_, rfl⟩, ⟨_, rfl⟩, rfl, by omega, Nat.le_refl _, HI.out⟩
    · go_wp2_with fail
      obtain ⟨W1, hW1⟩ : ∃ W1, W1 = wr := ⟨_, rfl⟩
      rw [← hW1] at HI ⊢
      clear hW1 c0 c1'
      go_loopg [3, 7, 16] 0 (fun gk s3 s7 s16 wr => s3 = .slice none 0 0 ∧ (∃ u, u = s7) ∧ s16 = .int .i64 0 ∧ Hid (Below w.heap.size w wr))
      case atStart => exact ⟨rfl, ⟨_, rfl⟩, rfl, HI.out⟩
      case round =>
        clear HI
        obtain ⟨rfl, ⟨u7b, rfl⟩, rfl, HI⟩ := hrel
        go_wp2_with fail
        go_roundg 0
        case measure => omega
        case rel => exact ⟨2, rfl, ⟨_, rfl⟩, ⟨_, rfl⟩, rfl, by omega, Nat.le_refl _, HI.out⟩
    · clear c0 c1'
      go_wp2_with (first
        | (go_at_call 119; refine (sortA_nil _).mono ?_; rintro en w2 ⟨rfl, hb⟩; have H2 := Lib.hid (below_then HI.out hb); clear hb)
        | (go_at_call 120; refine (compactA_nil _).mono ?_; rintro en w3 ⟨rfl, hb⟩; have H3 := Lib.hid (below_then H2.out hb); clear hb))
      go_ret
      exact ⟨rfl, H3.out⟩
end Go.Proofs.Ytegponbmelgngaa
end
