/-
  The walk of the reference's Drop.
-/
import Derived.Test.YtkelfjgjgjdinaaTxB
namespace Go.Proofs.Ytkelfjgjgjdinaa
open Go.RowKit
set_option linter.unusedSimpArgs false
set_option linter.unusedVariables false
set_option maxHeartbeats 2000000
set_option maxRecDepth 100000

theorem plc_has {L : List En} (ha : AscE L) {p : PP} (h : hasE L p = true) : ∃ x, L[plc L p]? = some x ∧ x.1 = p ∧ plc L p < L.length := by
  obtain ⟨y, hy, e⟩ := hasE_iff.1 h
  have hd := drop_plc ha p
  have hym : y ∈ L.drop (plc L p) := by rw [hd, List.mem_filter]; exact ⟨hy, by rw [e]; simp; exact ltP_irrefl _⟩
  cases hdr : L.drop (plc L p) with
  | nil => rw [hdr] at hym; cases hym
  | cons x r =>
    have hx : L[plc L p]? = some x := by
      have := List.getElem?_drop (xs := L) (i := plc L p) (j := 0)
      rw [hdr] at this; simpa using this.symm
    have hlt := (List.getElem?_eq_some_iff.1 hx).1
    refine ⟨x, hx, ?_, hlt⟩
    have hasc : AscE (x :: r) := by rw [← hdr]; exact ha.sublist (List.drop_sublist _ _)
    have hxn : ¬ ltP x.1 p := by
      have : x ∈ L.drop (plc L p) := by rw [hdr]; simp
      rw [hd, List.mem_filter] at this; simpa using this.2
    rw [hdr] at hym
    rcases List.mem_cons.1 hym with h1 | h1
    · rw [← h1]; exact e
    · have := (List.pairwise_cons.1 hasc).1 y h1
      rw [e] at this; exact absurd this hxn
theorem del_parts {L : List En} (ha : AscE L) {p : PP} (h : hasE L p = true) : L.take (plc L p) ++ L.drop (plc L p + 1) = delE L p := by
  obtain ⟨x, hx, e, hlt⟩ := plc_has ha h
  refine asc_ext (ha.sublist ?_) (asc_delE p ha) fun y => ?_
  · conv => rhs; rw [← List.take_append_drop (plc L p) L]
    exact List.Sublist.append (List.Sublist.refl _) (List.drop_sublist_drop_left _ (Nat.le_succ _))
  · have hcut : L = L.take (plc L p) ++ x :: L.drop (plc L p + 1) := by
      conv => lhs; rw [← List.take_append_drop (plc L p) L, List.drop_eq_getElem_cons hlt]
      rw [(List.getElem?_eq_some_iff.1 hx).2]
    have hp : ∀ z ∈ L.take (plc L p) ++ L.drop (plc L p + 1), z.1 ≠ p := by
      have ha' := ha
      rw [hcut] at ha'
      obtain ⟨_, h2, h3⟩ := List.pairwise_append.1 ha'
      obtain ⟨h4, _⟩ := List.pairwise_cons.1 h2
      intro z hz ez
      rcases List.mem_append.1 hz with hz | hz
      · have := h3 z hz x (by simp); rw [ez, e] at this; exact ltP_irrefl _ this
      · have := h4 z hz; rw [ez, e] at this; exact ltP_irrefl _ this
    rw [mem_delE]
    constructor
    · intro hy
      refine ⟨?_, hp y hy⟩
      rw [hcut]
      rcases List.mem_append.1 hy with hy | hy
      · exact List.mem_append_left _ hy
      · exact List.mem_append_right _ (List.mem_cons_of_mem _ hy)
    · rintro ⟨hy, hn⟩
      rw [hcut] at hy
      rcases List.mem_append.1 hy with hy | hy
      · exact List.mem_append_left _ hy
      · rcases List.mem_cons.1 hy with rfl | hy
        · exact absurd e hn
        · exact List.mem_append_right _ hy
theorem flat_take (L : List En) (i : Nat) (hi : i ≤ L.length) : ∀ (j : Nat) (u : Value), (flatE (L.take i))[j]? = some u → (flatE L)[j]? = some u := by
  intro j u h
  have hlt := (List.getElem?_eq_some_iff.1 h).1
  have e : flatE L = flatE (L.take i) ++ flatE (L.drop i) := by rw [← flatE_app, List.take_append_drop]
  rw [e, List.getElem?_append_left hlt]; exact h
theorem flat_drop (L : List En) (i : Nat) (hi : i ≤ L.length) : ∀ (j : Nat) (u : Value), (flatE (L.drop i))[j]? = some u → (flatE L)[i * 3 + j]? = some u := by
  intro j u h
  have hl : (flatE (L.take i)).length = i * 3 := by rw [flatE_len, List.length_take]; congr 1; omega
  have e : flatE L = flatE (L.take i) ++ flatE (L.drop i) := by rw [← flatE_app, List.take_append_drop]
  rw [e, List.getElem?_append_right (by omega), hl, show i * 3 + j - i * 3 = j by omega]; exact h
theorem add_at (b o j : Nat) : (⟨b, o, none⟩ : Addr).add j = ⟨b, o + j, none⟩ := by unfold Addr.add; split <;> simp_all
theorem own_slice {w : World} {B n e k : Nat} {v : Value} {xs : List Value} (h : w.ownsRow B e k v n xs) : ∃ ad m c, v = .slice ad m c := by
  rcases h.2 with ⟨rfl, _⟩ | ⟨g, cap, cur, rfl, _⟩ <;> exact ⟨_, _, _, rfl⟩
def RefPost (w : World) (g : Nat) (v : Value) (L' : List En) (w' : World) : Prop := ∃ v', RefR w' g v' L' ∧ (∀ b, v'.ownBlock = some b → v.ownBlock = some b ∨ w.heap.size ≤ b) ∧ Kp [g] w w'
theorem rdrop_no (g : Nat) (v : Value) (L : List En) (w : World) (p : PP) (h : RefR w g v L) (hl : L.length ≤ 1000) (hh : hasE L p = false) :
    Calls Try.prog 82 #[.pointer (some ⟨g, 0, none⟩), .agg #[.int .u32 (p.1 : Nat), .int .i64 p.2]] w fun en w' => en = .returned (.bool false) ∧ Below w.heap.size w w' := by
  have HG : Hid (∀ W, RefR W g v L → Calls Try.prog 83 #[.pointer (some ⟨g, 0, none⟩), .agg #[.int .u32 (p.1 : Nat), .int .i64 p.2]] W fun en w' => en = .returned (.tuple #[.int .i64 0, .bool false]) ∧ Below W.heap.size W w') := fun W hW => by
    have := rget_any g v L W p hW hl
    rw [getE_none (hasE_not.1 hh)] at this; exact this
  have HR := Lib.hid (h.below (below_alloc w (.cells #[.int .u32 (p.1 : Int), .int .i64 p.2] 28)))
  obtain ⟨a, n⟩ := p
  clear h hh
  go_enter Try.func82, Try.ntmps82
  go_wp2_with (go_at_call 83; refine (HG.out _ HR.out).mono ?_; rintro e w1 ⟨rfl, hb⟩; have B := Lib.hid hb; clear hb)
  go_ret
  exact ⟨rfl, below_then (below_alloc _ _) B.out⟩
theorem rdrop_yes (g : Nat) (v : Value) (L : List En) (w : World) (p : PP) (h : RefR w g v L) (ha : AscE L) (hl : L.length ≤ 1000) (hh : hasE L p = true) :
    Calls Try.prog 82 #[.pointer (some ⟨g, 0, none⟩), .agg #[.int .u32 (p.1 : Nat), .int .i64 p.2]] w fun en w' => en = .returned (.bool true) ∧ RefPost w g v (delE L p) w' := by
  obtain ⟨i0, hi, hz0, hz1, hz2⟩ := info_parts info65
  obtain ⟨x, hx, hxp, hlt⟩ := plc_has ha hh
  have HD := Lib.hid (del_parts ha hh)
  have HG : Hid (∀ W, RefR W g v L → Calls Try.prog 83 #[.pointer (some ⟨g, 0, none⟩), .agg #[.int .u32 (p.1 : Nat), .int .i64 p.2]] W fun en w' => en = .returned (.tuple #[.int .i64 x.2, .bool true]) ∧ Below W.heap.size W w') := fun W hW => by
    have := rget_any g v L W p hW hl
    rw [getE_mem ha (List.mem_of_getElem? hx) hxp] at this; exact this
  obtain ⟨i, hpl⟩ : ∃ i, plc L p = i := ⟨_, rfl⟩
  have HPl : Hid (∀ W, RefR W g v L → Calls Try.prog 109 #[.pointer (some ⟨g, 0, none⟩), .agg #[.int .u32 (p.1 : Nat), .int .i64 p.2]] W fun en w' => en = .returned (.int .i64 (i : Nat)) ∧ Below W.heap.size W w') := fun W hW => hpl ▸ place_any g v L W p hW hl
  rw [hpl] at HD hlt
  rcases row_form h.row with ⟨rfl, rfl⟩ | ⟨b, cap, rfl, hcap, hbl, hcs⟩
  · exact absurd hlt (by simp)
  · have hglt := lt_of_block h.blk
    have HR := Lib.hid h
    have HCS : Hid (∀ (W : World), Below w.heap.size w W → ∀ (j : Nat) (u : Value), (flatE L)[j]? = some u → W.cell? ⟨b, j, none⟩ = some u) := fun W hW j u hj => carry' hW hbl (hcs j u hj)
    obtain ⟨a, n⟩ := p
    clear h hh hx hxp hpl ha hcs
    have hT : (flatE (L.take i)).length = i * 3 := by rw [flatE_len, List.length_take]; congr 1; omega
    have hD : (flatE (L.drop (i + 1))).length = (L.length - (i + 1)) * 3 := by rw [flatE_len, List.length_drop]
    have HT := Lib.hid hT
    have HDl := Lib.hid hD
    clear hT hD
    have q1 : (0 : Int) ≤ (i : Int) := by omega
    have q2 : i ≤ cap := by omega
    have q3 : i + 1 ≤ cap := by omega
    have q4 : i + 1 ≤ L.length := by omega
    by_cases hce : cap = i + 1
    · subst hce
      have HLe : Hid (L.length = i + 1) := by unfold Hid; omega
      have HDr : Hid (flatE (L.drop (i + 1)) = []) := by unfold Hid; rw [List.drop_of_length_le (by have := HLe.out; omega)]; rfl
      have HNw : Hid (∀ (W : World), Below w.heap.size w W → ∀ (j : Nat) (u : Value), ([] : List Value)[j]? = some u → W.cell? ((⟨b, 0, none⟩ : Addr).add j) = some u) := fun W _ j u hj => by simp at hj
      have q5 : L.length - (i + 1) = 0 := by omega
      have q6 : (L.length : Int) - ((i : Int) + 1) = 0 := by have := HLe.out; omega
      go_enter Try.func82, Try.ntmps82
      go_wp2_with (first
        | (go_at_call 83; refine (HG.out _ (HR.out.below (below_alloc _ _))).mono ?_; rintro e w1 ⟨rfl, hb1⟩
           have R1 := Lib.hid ((HR.out.below (below_alloc _ _)).below hb1)
           have B1 := Lib.hid (below_then (below_alloc _ _) hb1)
           have c0 : w1.cell? ⟨w.heap.size, 0, none⟩ = some (.int .u32 a) := carry hb1 (by simp)
           have c1 : w1.cell? ⟨w.heap.size, 1, none⟩ = some (.int .i64 n) := carry hb1 (by simp)
           clear hb1)
        | (go_at_call 109; refine (HPl.out _ R1.out).mono ?_; rintro e w2 ⟨rfl, hb2⟩
           have R2 := Lib.hid (R1.out.below hb2)
           have B2 := Lib.hid (below_then B1.out hb2)
           have d0 := R2.out.cell
           have hB2 : w.heap.size ≤ w2.heap.size := B2.out.size
           clear hb2 c0 c1)
        | (at_builtin; refine wpList_append_own_at _ rfl (.tmp 20) (.tmp 26) 56 rfl w2.heap.size 65 i0 (.agg #[.int .u32 0, .int .i64 0, .int .i64 0]) 3 24 Try.underlying56 hi hz0 hz1 hz2 rfl (by decide) (.slice none 0 0) 0 [] rfl (World.ownsRow_nil _ _ _ _) ⟨b, 0, none⟩ i (i + 1) (flatE (L.take i)) rfl HT.out (fun j u hj => by rw [add_at, Nat.zero_add]; exact HCS.out _ B2.out j u (flat_take L i (by omega) j u hj)) one_flat (by unfold maxLen; omega) (by omega) (Nat.le_refl _) ?_; intro v1 w3 hown hgr hnil hat
           have X := Lib.hid (And.intro hown (And.intro hgr hat))
           have e0 : w3.cell? ⟨g, 0, none⟩ = _ := (hgr.cell_far ⟨g, 0, none⟩ (Nat.lt_of_lt_of_le hglt hB2) (by simp [Value.ownBlock])).trans d0
           have B3 : Hid (Below w2.heap.size w2 w3) := (Below.refl _ _).grown hgr (Nat.le_refl _) (fun k hk => by simp [Value.ownBlock] at hk)
           clear hown hgr hnil hat)
        | (at_builtin; refine wpList_append_own_at _ rfl (.tmp 28) (.tmp 35) 56 rfl w2.heap.size 65 i0 (.agg #[.int .u32 0, .int .i64 0, .int .i64 0]) 3 24 Try.underlying56 hi hz0 hz1 hz2 rfl (by decide) v1 (0 + i) ([] ++ flatE (L.take i)) rfl X.out.1 ⟨b, 0, none⟩ 0 0 [] rfl rfl (fun j u hj => HNw.out w3 (B2.out.trans (B3.out.mono hB2)) j u hj) (by intro u hu; cases hu) (by unfold maxLen; omega) (by omega) B3.out.size ?_; intro v2 w4 hown hgr hnil hat
           obtain ⟨ad4, n4, cp4, rfl⟩ := own_slice hown
           have Y := Lib.hid (And.intro hown (And.intro hgr hat))
           have B4 : Hid (Below w2.heap.size w2 w4) := B3.out.grown hgr B3.out.size (fun k hk => (own_lt X.out.1 hk).1)
           have K4 : Hid (RefR w4 g (.slice (some ⟨b, 0, none⟩) L.length (i + 1)) L) := R2.out.below B4.out
           have k0 := K4.out.cell
           have kf := free_of_one K4.out.blk
           clear hown hgr hnil hat))
      go_ret
      refine ⟨rfl, .slice ad4 n4 cp4, ⟨one_setCell K4.out.blk, ?_⟩, ?_, ?_⟩
      · have h1 := Y.out.1
        have hne : (Value.slice ad4 n4 cp4).ownBlock ≠ some g := fun e => by have := (own_lt h1 e).1; omega
        have h2 := ownsRow_setCell_other h1 (a := ⟨g, 0, none⟩) hne (.slice ad4 n4 cp4)
        have e : (delE L (a, n)).length = 0 + i + 0 := by rw [← HD.out, List.length_append, List.length_take, List.length_drop]; omega
        have e2 : flatE (delE L (a, n)) = [] ++ flatE (L.take i) ++ [] := by rw [← HD.out, flatE_app, HDr.out]; rfl
        rw [e, e2]
        exact ⟨h2.1, h2.2.imp id (fun ⟨g', cap', cur, r1, r2, r3⟩ => ⟨g', cap', cur, r1, Nat.zero_le _, r3⟩)⟩
      · intro b' hb'
        exact .inr (Nat.le_trans hB2 (own_lt Y.out.1 hb').1)
      · exact (Kp.of_below (B2.out.trans (B4.out.mono hB2))).setCell (.inl (by simp))
    · have HNw : Hid (∀ (W : World), Below w.heap.size w W → ∀ (j : Nat) (u : Value), (flatE (L.drop (i + 1)))[j]? = some u → W.cell? ((⟨b, (i + 1) * 3, none⟩ : Addr).add j) = some u) := fun W hW j u hj => by
        rw [add_at]; exact HCS.out W hW _ u (flat_drop L (i + 1) (by omega) j u hj)
      go_enter Try.func82, Try.ntmps82
      go_wp2_with (first
        | (go_at_call 83; refine (HG.out _ (HR.out.below (below_alloc _ _))).mono ?_; rintro e w1 ⟨rfl, hb1⟩
           have R1 := Lib.hid ((HR.out.below (below_alloc _ _)).below hb1)
           have B1 := Lib.hid (below_then (below_alloc _ _) hb1)
           have c0 : w1.cell? ⟨w.heap.size, 0, none⟩ = some (.int .u32 a) := carry hb1 (by simp)
           have c1 : w1.cell? ⟨w.heap.size, 1, none⟩ = some (.int .i64 n) := carry hb1 (by simp)
           clear hb1)
        | (go_at_call 109; refine (HPl.out _ R1.out).mono ?_; rintro e w2 ⟨rfl, hb2⟩
           have R2 := Lib.hid (R1.out.below hb2)
           have B2 := Lib.hid (below_then B1.out hb2)
           have d0 := R2.out.cell
           have hB2 : w.heap.size ≤ w2.heap.size := B2.out.size
           clear hb2 c0 c1)
        | (at_builtin; refine wpList_append_own_at _ rfl (.tmp 20) (.tmp 26) 56 rfl w2.heap.size 65 i0 (.agg #[.int .u32 0, .int .i64 0, .int .i64 0]) 3 24 Try.underlying56 hi hz0 hz1 hz2 rfl (by decide) (.slice none 0 0) 0 [] rfl (World.ownsRow_nil _ _ _ _) ⟨b, 0, none⟩ i cap (flatE (L.take i)) rfl HT.out (fun j u hj => by rw [add_at, Nat.zero_add]; exact HCS.out _ B2.out j u (flat_take L i (by omega) j u hj)) one_flat (by unfold maxLen; omega) (by omega) (Nat.le_refl _) ?_; intro v1 w3 hown hgr hnil hat
           have X := Lib.hid (And.intro hown (And.intro hgr hat))
           have e0 : w3.cell? ⟨g, 0, none⟩ = _ := (hgr.cell_far ⟨g, 0, none⟩ (Nat.lt_of_lt_of_le hglt hB2) (by simp [Value.ownBlock])).trans d0
           have B3 : Hid (Below w2.heap.size w2 w3) := (Below.refl _ _).grown hgr (Nat.le_refl _) (fun k hk => by simp [Value.ownBlock] at hk)
           clear hown hgr hnil hat)
        | (at_builtin; refine wpList_append_own_at _ rfl (.tmp 28) (.tmp 35) 56 rfl w2.heap.size 65 i0 (.agg #[.int .u32 0, .int .i64 0, .int .i64 0]) 3 24 Try.underlying56 hi hz0 hz1 hz2 rfl (by decide) v1 (0 + i) ([] ++ flatE (L.take i)) rfl X.out.1 ⟨b, (i + 1) * 3, none⟩ (L.length - (i + 1)) (cap - (i + 1)) (flatE (L.drop (i + 1))) rfl HDl.out (fun j u hj => HNw.out w3 (B2.out.trans (B3.out.mono hB2)) j u hj) one_flat (by unfold maxLen; omega) (by omega) B3.out.size ?_; intro v2 w4 hown hgr hnil hat
           obtain ⟨ad4, n4, cp4, rfl⟩ := own_slice hown
           have Y := Lib.hid (And.intro hown (And.intro hgr hat))
           have B4 : Hid (Below w2.heap.size w2 w4) := B3.out.grown hgr B3.out.size (fun k hk => (own_lt X.out.1 hk).1)
           have K4 : Hid (RefR w4 g (.slice (some ⟨b, 0, none⟩) L.length cap) L) := R2.out.below B4.out
           have k0 := K4.out.cell
           have kf := free_of_one K4.out.blk
           clear hown hgr hnil hat))
      go_ret
      refine ⟨rfl, .slice ad4 n4 cp4, ⟨one_setCell K4.out.blk, ?_⟩, ?_, ?_⟩
      · have h1 := Y.out.1
        have hne : (Value.slice ad4 n4 cp4).ownBlock ≠ some g := fun e => by have := (own_lt h1 e).1; omega
        have h2 := ownsRow_setCell_other h1 (a := ⟨g, 0, none⟩) hne (.slice ad4 n4 cp4)
        have e : (delE L (a, n)).length = 0 + i + (L.length - (i + 1)) := by rw [← HD.out, List.length_append, List.length_take, List.length_drop]; omega
        have e2 : flatE (delE L (a, n)) = [] ++ flatE (L.take i) ++ (flatE (L.drop (i + 1))) := by rw [← HD.out, flatE_app]; rfl
        rw [e, e2]
        exact ⟨h2.1, h2.2.imp id (fun ⟨g', cap', cur, r1, r2, r3⟩ => ⟨g', cap', cur, r1, Nat.zero_le _, r3⟩)⟩
      · intro b' hb'
        exact .inr (Nat.le_trans hB2 (own_lt Y.out.1 hb').1)
      · exact (Kp.of_below (B2.out.trans (B4.out.mono hB2))).setCell (.inl (by simp))
end Go.Proofs.Ytkelfjgjgjdinaa
