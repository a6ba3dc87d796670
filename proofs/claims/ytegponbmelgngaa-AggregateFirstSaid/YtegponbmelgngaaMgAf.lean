/-
  The walk of aggregate.visible.
  The walks of aggregate.visible and aggregate.Trim.
  The walk of aggregate.Trim.
-/
import Derived.Test.YtegponbmelgngaaMgAb
import Derived.Deep.RegionWith
import Derived.Deep.DeepCutAuto
section
namespace Go.Proofs.Ytegponbmelgngaa
open Go.RowKit
set_option linter.unusedSimpArgs false
set_option linter.unusedVariables false
set_option maxHeartbeats 1500000
set_option maxRecDepth 100000
open Classical

/-- how many addresses are left to each entry once the first n ones have been looked at -/
def LftL (L : List (Nat × Nat)) (m : List Nat) (n : Nat) : Prop := m.length = L.length ∧ ∀ i x, L[i]? = some x → m[i]? = some ((if i < n then 2 ^ x.2 else 0) - AG.chs L n i)
theorem LftL.start (L : List (Nat × Nat)) : LftL L (List.replicate L.length 0) 0 := ⟨by simp, fun i x hx => by
  have := (List.getElem?_eq_some_iff.1 hx).1
  rw [List.getElem?_replicate, if_pos this]; simp⟩
theorem LftL.none {L : List (Nat × Nat)} (hL : AG.Asc L) {m : List Nat} {n : Nat} {x : Nat × Nat} (h : LftL L m n) (hx : L[n]? = some x) (hp : AG.NoPar L n) : LftL L (m.set n (2 ^ x.2)) (n + 1) := ⟨by rw [List.length_set]; exact h.1, fun i y hy => by
  have hi := (List.getElem?_eq_some_iff.1 hy).1
  by_cases e : i = n
  · subst e
    rw [hx] at hy; cases hy
    rw [List.getElem?_set_self (by rw [h.1]; exact hi), if_pos (by omega), AG.chs_late (Nat.le_refl _)]; rfl
  · rw [List.getElem?_set_ne (by omega), h.2 i y hy, AG.chs_no (fun hh => hh.not_none hp)]
    congr 2
    by_cases g : i < n
    · rw [if_pos g, if_pos (by omega)]
    · rw [if_neg g, if_neg (by omega)]⟩
theorem LftL.some {L : List (Nat × Nat)} (hL : AG.Asc L) {m : List Nat} {n j : Nat} {x y : Nat × Nat} (h : LftL L m n) (hx : L[n]? = Option.some x) (hp : AG.Par L n j) (hy : L[j]? = Option.some y) :
    ∃ z, m[j]? = Option.some (z + 2 ^ x.2) ∧ z ≤ 2 ^ y.2 ∧ LftL L ((m.set n (2 ^ x.2)).set j z) (n + 1) := by
  have hjn := hp.lt
  have hn := (List.getElem?_eq_some_iff.1 hx).1
  have hc := AG.chs_le hL (n := n + 1) hy
  have hs := AG.chs_yes hp
  rw [AG.blkAt_some hx] at hs
  have hpx := CM.pow_pos' x.2
  have hpy := CM.pow_pos' y.2
  refine ⟨2 ^ y.2 - AG.chs L n j - 2 ^ x.2, ?_, by omega, ?_⟩
  · rw [h.2 j y hy, if_pos hjn]
    congr 1; omega
  · refine ⟨by rw [List.length_set, List.length_set]; exact h.1, fun i z hz => ?_⟩
    have hi := (List.getElem?_eq_some_iff.1 hz).1
    by_cases e : i = j
    · subst e
      rw [hy] at hz; cases hz
      rw [List.getElem?_set_self (by rw [List.length_set, h.1]; exact hi), if_pos (by omega), hs]
      congr 1; omega
    · rw [List.getElem?_set_ne (by omega)]
      by_cases e2 : i = n
      · subst e2
        rw [hx] at hz; cases hz
        rw [List.getElem?_set_self (by rw [h.1]; exact hi), if_pos (by omega), AG.chs_late (Nat.le_refl _)]; rfl
      · rw [List.getElem?_set_ne (by omega), h.2 i z hz, AG.chs_no (fun hh => e (hh.unique hp))]
        congr 2
        by_cases g : i < n
        · rw [if_pos g, if_pos (by omega)]
        · rw [if_neg g, if_neg (by omega)]
theorem LftL.zero {L : List (Nat × Nat)} {m : List Nat} {n : Nat} {x : Nat × Nat} (h : LftL L m n) (hx : L[n]? = Option.some x) : m[n]? = Option.some 0 := by
  rw [h.2 n x hx, if_neg (by omega)]; simp
/-- the entries that are not hidden -/
noncomputable def visE (l : List En) : List En := l.filter (fun e => !decide (AG.HidE (l.map toBe) (toBe e)))
theorem visE_be (l : List En) : (visE l).map toBe = AG.vis (l.map toBe) := by
  unfold visE AG.vis
  rw [List.filter_map]; rfl
theorem TabE.tab {l : List En} (h : TabE l) : AG.Tab (l.map toBe) := ⟨by
  rw [List.pairwise_map]
  exact h.asc.imp_of_mem fun {x y} hx hy hxy => (ltB_blk (h.val x hx).1 (h.val y hy).1).2 hxy, fun e he => by
  obtain ⟨x, hx, rfl⟩ := List.mem_map.1 he
  exact blk_al (h.val x hx).1⟩
theorem visE_tab {l : List En} (h : TabE l) : TabE (visE l) := ⟨Nat.le_trans (List.length_filter_le _ _) h.len, fun e he => h.val e (List.mem_filter.1 he).1, h.asc.sublist List.filter_sublist⟩
theorem visE_fit {l : List En} (h : FitE l) : FitE (visE l) := fun e he => h e (List.mem_filter.1 he).1
/-- what is left to an entry is more than nothing exactly if it is not hidden -/
theorem left_vis {l : List En} (ht : TabE l) {m : List Nat} (h : LftL (blE l) m l.length) {i : Nat} {e : En} (he : l[i]? = Option.some e) : ∃ z, m[i]? = Option.some z ∧ z ≤ 2 ^ (blk e.1).2 ∧ (0 < z ↔ ¬ AG.HidE (l.map toBe) (toBe e)) := by
  have hi := (List.getElem?_eq_some_iff.1 he).1
  have hb := blE_some he
  have hz := h.2 i _ hb
  rw [if_pos hi] at hz
  have hpp := CM.pow_pos' (blk e.1).2
  refine ⟨_, hz, by omega, ?_⟩
  rw [AG.hid_iff ht.tab (i := i) (by rw [List.getElem?_map, he]; rfl), ← blE_bls, AG.hidden_iff ht.ascB hb, blE_len]
  have := AG.chs_le ht.ascB (n := l.length) hb
  omega
def wdV (m : List Nat) : List Value := m.map (fun n : Nat => Value.int .u64 (n : Int))
theorem wdV_set (m : List Nat) (i z : Nat) : (wdV m).toArray.setIfInBounds i (.int .u64 (z : Int)) = (wdV (m.set i z)).toArray := by simp [wdV, List.map_set]
theorem wdV_get {m : List Nat} {i z : Nat} (h : m[i]? = Option.some z) : (wdV m).toArray[i]? = Option.some (.int .u64 (z : Int)) := by simp [wdV, h]
theorem infoW : (Try.prog.info? 33).map (fun i => (i.zero, i.size, i.bytes)) = Option.some (Option.some (.int .u64 0), 1, 8) := by kernel_rfl
theorem make_words (n : Nat) (hn : n ≤ 2000) (w : World) : (Instr.makeSlice 99 (.int .i64 (n : Int)) (.int .i64 (n : Int))).run Try.prog w = .ok (.slice (Option.some ⟨w.heap.size, 0, Option.none⟩) n n) (w.alloc (.cells (wdV (List.replicate n 0)).toArray 33)) := by
  have e : (wdV (List.replicate n 0)).toArray = madeCells #[.int .u64 0] n := by
    have := toList_madeCells_one (Value.int .u64 0) n
    apply Array.ext'
    rw [this]; simp [wdV]
  rw [e]
  exact run_make_row' 99 33 (.int .u64 0) 8 Try.underlying99 infoW rfl .i64 .i64 n (by omega) (by omega) w
end Go.Proofs.Ytegponbmelgngaa
end

section
namespace Go.Proofs.Ytegponbmelgngaa
open Go.RowKit
open Classical
set_option linter.unusedSimpArgs false
set_option linter.unusedVariables false
set_option maxHeartbeats 1500000
set_option maxRecDepth 100000

/-- in the midst of visible: the numbers of addresses that are left, the places above -/
structure VisS (w : World) (L : List (Nat × Nat)) (m : List Int) (d : List Nat) (W : World) : Prop where
  b : Below w.heap.size w W
  row : W.heap[w.heap.size]? = some (.cells (wdV d).toArray 33 (0, 0))
  par : W.heap[w.heap.size + 1]? = some (.cells (intV m).toArray 3 (0, 0))
  ml : m.length = L.length
  pl : ParL L m L.length
theorem VisS.below {w W W' : World} {L : List (Nat × Nat)} {m : List Int} {d : List Nat} (h : VisS w L m d W) (k : Below W.heap.size W W') : VisS w L m d W' :=
  ⟨below_then h.b k, (k.block _ (ltO h.row)).trans h.row, (k.block _ (ltO h.par)).trans h.par, h.ml, h.pl⟩
theorem VisS.set {w W : World} {L : List (Nat × Nat)} {m : List Int} {d : List Nat} (h : VisS w L m d W) (i z : Nat) : VisS w L m (d.set i z) (W.setCell ⟨w.heap.size, i, none⟩ (.int .u64 (z : Int))) :=
  ⟨h.b.setCell (Nat.le_refl _) _, by rw [heap_set_eq h.row, wdV_set], (heap_set_ne (by omega)).trans h.par, h.ml, h.pl⟩
/-- of the first k entries those that are not hidden -/
noncomputable def visP (l : List En) (k : Nat) : List En := (l.take k).filter (fun e => !decide (AG.HidE (l.map toBe) (toBe e)))
theorem visP_keep {l : List En} {k : Nat} {e : En} (he : l[k]? = some e) (h : ¬ AG.HidE (l.map toBe) (toBe e)) : visP l (k + 1) = visP l k ++ [e] := by
  unfold visP
  rw [take_snocN he, List.filter_append]; simp [h]
theorem visP_drop {l : List En} {k : Nat} {e : En} (he : l[k]? = some e) (h : AG.HidE (l.map toBe) (toBe e)) : visP l (k + 1) = visP l k := by
  unfold visP
  rw [take_snocN he, List.filter_append]; simp [h]
theorem visP_all {l : List En} {k : Nat} (h : l.length ≤ k) : visP l k = visE l := by unfold visP visE; rw [List.take_of_length_le h]
theorem visible_any (l : List En) (v : Value) (w : World) (ht : TabE l) (hr : RdE w v l) (hf : FitE l) :
    Calls Try.prog 92 #[v] w fun e w' => ∃ v', e = .returned v' ∧ RdE w' v' (visE l) ∧ Below w.heap.size w w' := by
  obtain ⟨i0, hi, hz0', hz1, hz2⟩ := info_parts info51
  have hlen := ht.len
  have HPA : Hid (∀ W, Below w.heap.size w W → Calls Try.prog 123 #[v] W fun e w' => ∃ m : List Int, e = .returned (.slice (some ⟨W.heap.size, 0, none⟩) l.length l.length) ∧ w'.heap[W.heap.size]? = some (.cells (intV m).toArray 3 (0, 0)) ∧ m.length = l.length ∧ ParL (blE l) m l.length ∧ Below W.heap.size W w') := fun W hW => parents_any l v W ht (hr.below hW) hf
  obtain ⟨ad, cap, rfl, hc⟩ := hr
  have HR := Lib.hid hc
  have HF := Lib.hid hf
  have HT := Lib.hid ht
  have hbl := blE_len l
  obtain ⟨L, hL⟩ : ∃ L, l.length = L := ⟨_, rfl⟩
  have HLV : Hid (∀ d, LftL (blE l) d l.length → ∀ (i : Nat) (e : En), l[i]? = some e → ∃ z, d[i]? = some z ∧ z ≤ 2 ^ (blk e.1).2 ∧ (0 < z ↔ ¬ AG.HidE (l.map toBe) (toBe e))) := fun d h i e he => left_vis ht h he
  rw [hL] at hlen HPA hbl HLV ⊢
  have HL := Lib.hid hL
  have HBLN := Lib.hid hbl
  have hmk := make_words L hlen
  have HST := Lib.hid (LftL.start (blE l))
  rw [hbl] at HST
  have HB0 : Hid (Below w.heap.size w (w.alloc (.cells (wdV (List.replicate L 0)).toArray 33)) ∧ (w.alloc (.cells (wdV (List.replicate L 0)).toArray 33)).heap[w.heap.size]? = some (.cells (wdV (List.replicate L 0)).toArray 33 (0, 0))) := ⟨below_alloc _ _, heap_alloc_new _ _⟩
  clear hc hf hL ht hbl
  go_enter Try.func92, Try.ntmps92
  go_wp2_with fail
  go_at_call 123
  refine (HPA.out _ HB0.out.1).mono ?_
  rintro en w1 ⟨m, rfl, hrow, hml, hpl, hb⟩
  have HV1 : Hid (VisS w (blE l) m (List.replicate L 0) w1) := ⟨below_then HB0.out.1 hb, (hb.block _ (ltO HB0.out.2)).trans HB0.out.2, by have := hrow; simpa using this, by rw [hml, HBLN.out], by rw [HBLN.out]; exact hpl⟩
  clear hrow hml hpl hb HB0 hmk HPA
  go_wp2_with fail
  go_loopg [4, 5, 15] L (fun g s4 s5 s15 wr => ∃ (k : Nat) (d : List Nat), (∃ u, u = s4) ∧ (∃ u, u = s5) ∧ s15 = .int .i64 (k : Int) ∧ k ≤ L ∧ L - k ≤ g ∧ Hid (LftL (blE l) d k) ∧ Hid (VisS w (blE l) m d wr))
  case atStart => exact ⟨0, List.replicate L 0, ⟨_, rfl⟩, ⟨_, rfl⟩, rfl, by omega, by omega, HST.out, HV1.out⟩
  case round =>
    clear HV1 HST
    obtain ⟨k, d, ⟨u4, rfl⟩, ⟨u5, rfl⟩, rfl, hk, hg, HD, HS⟩ := hrel
    by_cases hlt : k < L
    · obtain ⟨e, he⟩ : ∃ x, l[k]? = some x := ⟨_, List.getElem?_eq_getElem (by have := HL.out; omega)⟩
      obtain ⟨b, off, rfl, hbl, c0, c1, c2⟩ := HR.out k e he
      have d0 := carryE HS.out.b hbl c0
      have d1 := carryE HS.out.b hbl c1
      have hve := HT.out.val e (List.mem_of_getElem? he)
      have hfe := HF.out e (List.mem_of_getElem? he)
      have hbk := blE_some he
      have hd0 := HD.out.zero hbk
      have hkd : k < d.length := (List.getElem?_eq_some_iff.1 hd0).1
      obtain ⟨Q, hQ⟩ : ∃ Q, 2 ^ (blk e.1).2 = Q := ⟨_, rfl⟩
      have hQl : Q ≤ 4294967296 := by rw [← hQ]; exact pow32_le (blk_le _)
      have HSZ : Hid (∀ W, Calls Try.prog 124 #[.agg #[.int .u32 (e.1.1 : Int), .int .i64 e.1.2]] W fun en w' => en = .returned (.int .u64 (Q : Int)) ∧ Below W.heap.size W w') := fun W => by have := size124_any e.1 W hve.1 hfe.1; rwa [hQ] at this
      have hcl : wr.cell? ⟨w.heap.size, k, none⟩ = some (.int .u64 ((0 : Nat) : Int)) := cellO HS.out.row (wdV_get hd0)
      have hQw : IntKind.u64.wrap (Q : Int) = (Q : Int) := IntWalk.u64_in _ (by constructor <;> omega)
      have k0 : (0 : Int) ≤ (k : Int) := by omega
      have k1 : (k : Int) < (L : Int) := by omega
      have HSET : Hid (∀ W, Below wr.heap.size wr W → VisS w (blE l) m (d.set k Q) (W.setCell ⟨w.heap.size, k, none⟩ (.int .u64 (Q : Int)))) := fun W hW => (HS.out.below hW).set k Q
      have HBL := Lib.hid hbl
      have HC : Hid (w.cell? ⟨b, off + k * 3, none⟩ = some (.int .u32 (e.1.1 : Int)) ∧ w.cell? ⟨b, off + k * 3 + 1, none⟩ = some (.int .i64 e.1.2)) := ⟨c0, c1⟩
      -- the place above
      obtain ⟨jj, hmk, hpar⟩ : ∃ jj : Int, m[k]? = some jj ∧ ((∃ (j z : Nat), jj = (j : Int) ∧ j < k ∧ d[j]? = some (z + Q) ∧ z + Q ≤ 4294967296 ∧ LftL (blE l) ((d.set k Q).set j z) (k + 1)) ∨ (jj = -1 ∧ LftL (blE l) (d.set k Q) (k + 1))) := by
        rcases HS.out.pl k (by rw [HBLN.out]; exact hlt) with ⟨j, hp, hm⟩ | ⟨hp, hm⟩
        · obtain ⟨y, _, hy, _, _⟩ := hp.cov
          obtain ⟨z, z1, z2, z3⟩ := HD.out.some HT.out.ascB hbk hp hy
          rw [hQ] at z1 z3
          refine ⟨j, hm, .inl ⟨j, z, rfl, hp.lt, z1, ?_, z3⟩⟩
          have hcs := AG.chs_le HT.out.ascB (n := k) hy
          have := HD.out.2 j y hy
          rw [if_pos hp.lt] at this
          rw [this] at z1
          have hzz := Option.some.inj z1
          obtain ⟨ej, hej, rfl⟩ : ∃ ej, l[j]? = some ej ∧ blk ej.1 = y := by
            unfold blE at hy
            rw [List.getElem?_map] at hy
            cases hlj : l[j]? with
            | none => rw [hlj] at hy; cases hy
            | some ej => rw [hlj] at hy; exact ⟨ej, rfl, by simpa using hy⟩
          have := pow32_le (blk_le ej.1)
          omega
        · have := HD.out.none HT.out.ascB hbk hp
          rw [hQ] at this
          exact ⟨-1, hm, .inr ⟨rfl, this⟩⟩
      have dm := cellO HS.out.par (intV_get hmk)
      have hfr : wr.frozen? ⟨w.heap.size, k, none⟩ = false := freeO HS.out.row _
      have hz := ltO HS.out.row
      have hzp := ltO HS.out.par
      obtain ⟨⟨x, n⟩, val⟩ := e
      dsimp only at d0 d1 HSZ HC
      clear c0 c1 c2 he hfe hve hbk hd0 hQ hmk hbl
      go_upto_region 5 with (fail)
      go_cut [] (fun wx => Hid (VisS w (blE l) m (d.set k Q) wx))
      case first =>
        go_region_with (go_at_call 124; refine (HSZ.out _).mono ?_; rintro en w5 ⟨rfl, hb⟩; have HB5 : Hid (Below wr.heap.size wr w5) := ⟨hb.os, hb.tape, hb.output, hb.size, hb.block⟩; have x0 := carry HB5.out hcl; have x1 : w5.frozen? ⟨w.heap.size, k, none⟩ = false := freeO (HS.out.below HB5.out).row _; clear hb)
        all_goals go_wp2_with fail
        all_goals go_meet
        all_goals exact HSET.out _ HB5.out
      case rest =>
        clear HSET hcl hfr hz hzp d0 d1 dm
        have HW := hcut
        clear hcut
        rcases hpar with ⟨j, z, rfl, hjk, hdj, hzl, HN⟩ | ⟨rfl, HN⟩
        · have HN2 := Lib.hid HN
          have hdj2 : (d.set k Q)[j]? = some (z + Q) := by rw [List.getElem?_set_ne (by omega)]; exact hdj
          have e0 : wc.cell? ⟨w.heap.size, j, none⟩ = some (.int .u64 ((z + Q : Nat) : Int)) := cellO HW.out.row (wdV_get hdj2)
          have e1 : wc.frozen? ⟨w.heap.size, j, none⟩ = false := freeO HW.out.row _
          have d0 := carryE HW.out.b HBL.out HC.out.1
          have d1 := carryE HW.out.b HBL.out HC.out.2
          have j0 : (0 : Int) ≤ (j : Int) := by omega
          have j1 : (j : Int) < (L : Int) := by omega
          have hzw : IntKind.u64.wrap (z : Int) = (z : Int) := IntWalk.u64_in _ (by constructor <;> omega)
          have HSET2 : Hid (∀ W, Below wc.heap.size wc W → VisS w (blE l) m ((d.set k Q).set j z) (W.setCell ⟨w.heap.size, j, none⟩ (.int .u64 (z : Int)))) := fun W hW => (HW.out.below hW).set j z
          have hz := ltO HW.out.row
          clear HN hdj hdj2
          go_wp2_with fail
          go_region_with (go_at_call 124; refine (HSZ.out _).mono ?_; rintro en w5 ⟨rfl, hb⟩; have HB5 : Hid (Below wc.heap.size wc w5) := ⟨hb.os, hb.tape, hb.output, hb.size, hb.block⟩; have x0 := carry HB5.out e0; have x1 : w5.frozen? ⟨w.heap.size, j, none⟩ = false := freeO (HW.out.below HB5.out).row _; clear hb)
          all_goals (
            go_wp2_with fail
            go_roundg (L - (k + 1))
            case measure => omega
            case rel => exact ⟨k + 1, _, ⟨_, rfl⟩, ⟨_, rfl⟩, by go_num, by omega, Nat.le_refl _, HN2.out, HSET2.out _ HB5.out⟩)
        · have HN2 := Lib.hid HN
          clear HN
          go_wp2_with fail
          go_roundg (L - (k + 1))
          case measure => omega
          case rel => exact ⟨k + 1, _, ⟨_, rfl⟩, ⟨_, rfl⟩, by go_num, by omega, Nat.le_refl _, HN2.out, HW.out⟩
    · have k1 : decide ((k : Int) < (L : Int)) = false := decide_eq_false (by omega)
      have HDF : Hid (LftL (blE l) d L) := by have := HD.out; rw [show k = L by omega] at this; exact this
      have HLE := Lib.hid (HLV.out d HDF.out)
      obtain ⟨w2, hw2⟩ : ∃ w2, w2 = wr := ⟨_, rfl⟩
      have HV2 : Hid (VisS w (blE l) m d w2) := by show VisS _ _ _ _ _; rw [hw2]; exact HS.out
      clear HD HS HLV HDF
      go_wp2_with fail
      rw [← hw2]
      clear k1 hk hw2
      go_loopg [6, 7, 8, 49] L (fun g s6 s7 s8 s49 wr => ∃ (k : Nat) (v : Value) (o : List En), v = s6 ∧ (∃ u, u = s7) ∧ (∃ u, u = s8) ∧ s49 = .int .i64 (k : Int) ∧ k ≤ L ∧ L - k ≤ g ∧ o.length ≤ k ∧ Hid (o = visP l k) ∧ Hid (Below w2.heap.size w2 wr ∧ wr.ownsRow w2.heap.size 51 3 v o.length (flatE o)))
      case atStart => exact ⟨0, _, [], rfl, ⟨_, rfl⟩, ⟨_, rfl⟩, rfl, by omega, by omega, Nat.le_refl _, rfl, Below.refl _ _, World.ownsRow_nil _ _ _ _⟩
      case round =>
        obtain ⟨k, v, o, rfl, ⟨u7, rfl⟩, ⟨u8, rfl⟩, rfl, hk, hg, hok, HO, HS⟩ := hrel
        have hB : Hid (Below w.heap.size w wr) := below_then HV2.out.b HS.out.1
        by_cases hlt : k < L
        · obtain ⟨e, he⟩ : ∃ x, l[k]? = some x := ⟨_, List.getElem?_eq_getElem (by have := HL.out; omega)⟩
          obtain ⟨b, off, rfl, hbl, c0, c1, c2⟩ := HR.out k e he
          have d0 := carryE hB.out hbl c0
          have d1 := carryE hB.out hbl c1
          have d2 := carryE hB.out hbl c2
          obtain ⟨z, hz, hzl, hziff⟩ := HLE.out k e he
          have hrow : wr.heap[w.heap.size]? = some (.cells (wdV d).toArray 33 (0, 0)) := (HS.out.1.block _ (ltO HV2.out.row)).trans HV2.out.row
          have dz := cellO hrow (wdV_get hz)
          have dza := fun o => carry (below_alloc wr o) dz
          have HK := Lib.hid (visP_keep he)
          have HD := Lib.hid (visP_drop he)
          have HZ := Lib.hid hziff
          have hws := HS.out.1.size
          have k0 : (0 : Int) ≤ (k : Int) := by omega
          have k1 : (k : Int) < (L : Int) := by omega
          obtain ⟨⟨x, n⟩, val⟩ := e
          dsimp only at d0 d1 d2
          clear c0 c1 c2 he hz hzl hziff hrow hbl
          by_cases hz0 : 0 < z
          · have HO2 : Hid (o ++ [((x, n), val)] = visP l (k + 1)) := (congrArg (· ++ [((x, n), val)]) HO.out).trans (HK.out (HZ.out.1 hz0)).symm
            have S1 : Hid (Below w2.heap.size w2 (wr.alloc (.cells #[.int .u32 (x : Int), .int .i64 n, .int .i64 val] 51)) ∧ (wr.alloc (.cells #[.int .u32 (x : Int), .int .i64 n, .int .i64 val] 51)).ownsRow w2.heap.size 51 3 v o.length (flatE o)) := ⟨HS.out.1.alloc hws _, own_below HS.out.2 (below_alloc _ _)⟩
            clear HK HD HZ
            go_wp2_with (at_builtin; refine wpList_append_own _ rfl (.tmp 59) (.tmp 61) 56 rfl w2.heap.size 51 i0 (.agg #[.int .u32 0, .int .i64 0, .int .i64 0]) 3 24 Try.underlying56 hi hz0' hz1 hz2 rfl (by decide) v o.length (flatE o) rfl (own_below S1.out.2 (below_alloc _ _)) ⟨wr.heap.size + 1, 0, none⟩ 1 1 [.int .u32 (x : Int), .int .i64 n, .int .i64 val] rfl rfl (cell_three_at _ _ _ _ _ (by simp)) (one_three _ _ _) (by unfold maxLen; omega) (by omega) (by simp; omega) ?_; intro v1 w4 hown hgrow hnil; have S2 : Hid (Below w2.heap.size w2 w4 ∧ w4.ownsRow w2.heap.size 51 3 v1 (o ++ [((x, n), val)]).length (flatE (o ++ [((x, n), val)]))) := ⟨(S1.out.1.alloc S1.out.1.size _).grown hgrow (by have := S1.out.1.size; simp at this ⊢; omega) (fun q hq => (own_lt S1.out.2 hq).1), by rw [flatE_snoc, List.length_append]; exact hown⟩; clear hown hgrow hnil)
            go_roundg (L - (k + 1))
            case measure => omega
            case rel => exact ⟨k + 1, _, _, rfl, ⟨_, rfl⟩, ⟨_, rfl⟩, by go_num, by omega, Nat.le_refl _, by simp; omega, HO2, S2⟩
          · have HO2 : Hid (o = visP l (k + 1)) := HO.out.trans (HD.out (by have := fun h => hz0 (HZ.out.2 h); exact Classical.byContradiction this)).symm
            obtain rfl : z = 0 := by omega
            have S1 : Hid (Below w2.heap.size w2 (wr.alloc (.cells #[.int .u32 (x : Int), .int .i64 n, .int .i64 val] 51)) ∧ (wr.alloc (.cells #[.int .u32 (x : Int), .int .i64 n, .int .i64 val] 51)).ownsRow w2.heap.size 51 3 v o.length (flatE o)) := ⟨HS.out.1.alloc hws _, own_below HS.out.2 (below_alloc _ _)⟩
            clear HK HD HZ hz0
            go_wp2_with fail
            go_roundg (L - (k + 1))
            case measure => omega
            case rel => exact ⟨k + 1, v, o, rfl, ⟨_, rfl⟩, ⟨_, rfl⟩, by go_num, by omega, Nat.le_refl _, by omega, HO2, S1⟩
        · have k1 : decide ((k : Int) < (L : Int)) = false := decide_eq_false (by omega)
          have HE : Hid (o = visE l) := by show _ = _; rw [HO.out, visP_all (by have := HL.out; omega)]
          go_wp2
          go_ret
          exact ⟨_, rfl, HE.out ▸ rdE_own HS.out.2, hB.out⟩
end Go.Proofs.Ytegponbmelgngaa
end

section
namespace Go.Proofs.Ytegponbmelgngaa
open Go.RowKit
set_option linter.unusedSimpArgs false
set_option linter.unusedVariables false
set_option maxHeartbeats 1500000
set_option maxRecDepth 100000

/-- a trimmed table -/
noncomputable def trimE (l : List En) : List En := effE (visE l) (visE l).length
theorem trimE_be (l : List En) : (trimE l).map toBe = AG.trim (l.map toBe) := by
  unfold trimE AG.trim
  rw [effE_be, visE_be, ← visE_be, List.length_map]
theorem effE_mem {l : List En} : ∀ {n : Nat} {e : En}, e ∈ effE l n → e ∈ l
  | 0, e, h => by cases h
  | n + 1, e, h => by
    have h' : e ∈ effE l n ++ _ := h
    rcases List.mem_append.1 h' with h | h
    · exact effE_mem h
    · split at h
      · rename_i x hx
        split at h
        · cases h
        · rw [List.mem_singleton] at h; rw [h]; exact List.mem_of_getElem? hx
      · cases h
theorem trimE_mem {l : List En} {e : En} (h : e ∈ trimE l) : e ∈ l := (List.mem_filter.1 (effE_mem h)).1
theorem trim_own (l : List En) (v : Value) (w : World) (hr : RdE w v l) (hf : FitE l) :
    Calls Try.prog 55 #[v] w fun e w' => ∃ v', e = .returned (.tuple #[v', .int .i64 (ckE l)]) ∧ (ckE l = 0 → ∃ B, w'.ownsRow B 51 3 v' (trimE l).length (flatE (trimE l))) ∧ (ckE l ≠ 0 → v' = .slice none 0 0) ∧ Below w.heap.size w w' := by
  have HC := Lib.hid (check47_any l v w hr hf)
  by_cases hck : ckE l = 0
  · have ht := ckE_iff.1 hck
    have HV : Hid (∀ W, Below w.heap.size w W → Calls Try.prog 92 #[v] W fun e w' => ∃ v', e = .returned v' ∧ RdE w' v' (visE l) ∧ Below W.heap.size W w') := fun W hW => visible_any l v W ht (hr.below hW) hf
    have HE : Hid (∀ v W, RdE W v (visE l) → Calls Try.prog 91 #[v] W fun e w' => ∃ v', e = .returned v' ∧ (∃ B, w'.ownsRow B 51 3 v' (trimE l).length (flatE (trimE l))) ∧ Below W.heap.size W w') := fun v W h => (effective_own (visE l) v W (visE_tab ht) h (visE_fit hf)).mono fun e w' ⟨v', B, he, h, hb⟩ => ⟨v', he, ⟨B, h⟩, hb⟩
    rw [hck] at HC ⊢
    clear hck hr hf ht
    go_enter Try.func55, Try.ntmps55
    go_wp2_with (first
      | (go_at_call 47; refine HC.out.mono ?_; rintro en w1 ⟨rfl, hb⟩; have HB := Lib.hid hb; clear hb)
      | (go_at_call 92; refine (HV.out _ HB.out).mono ?_; rintro en w2 ⟨v2, rfl, hrd, hb⟩; have HB2 := Lib.hid (And.intro (below_then HB.out hb) hrd); clear hb hrd)
      | (go_at_call 91; refine (HE.out _ _ HB2.out.2).mono ?_; rintro en w3 ⟨v3, rfl, hrd, hb⟩; have HB3 := Lib.hid (And.intro (below_then HB2.out.1 hb) hrd); clear hb hrd))
    go_ret2
    exact ⟨v3, rfl, fun _ => HB3.out.2, fun h => absurd rfl h, HB3.out.1⟩
  · generalize hq : ckE l = q at *
    have h1 : (q == 0) = false := by simpa using hck
    have h2 : (q != 0) = true := by simpa using hck
    have HN := Lib.hid hck
    clear hck hr hf hq
    go_enter Try.func55, Try.ntmps55
    go_wp2_with (go_at_call 47; refine HC.out.mono ?_; rintro en w1 ⟨rfl, hb⟩; have HB := Lib.hid hb; clear hb)
    go_ret2
    exact ⟨.slice none 0 0, rfl, fun h => absurd h HN.out, fun _ => rfl, HB.out⟩
theorem trim_any (l : List En) (v : Value) (w : World) (hr : RdE w v l) (hf : FitE l) :
    Calls Try.prog 55 #[v] w fun e w' => ∃ v', e = .returned (.tuple #[v', .int .i64 (ckE l)]) ∧ (ckE l = 0 → RdE w' v' (trimE l)) ∧ (ckE l ≠ 0 → v' = .slice none 0 0) ∧ Below w.heap.size w w' :=
  (trim_own l v w hr hf).mono fun e w' ⟨v', he, h1, h2, hb⟩ => ⟨v', he, fun h => (h1 h).elim fun _ g => rdE_own g, h2, hb⟩
end Go.Proofs.Ytegponbmelgngaa
end
