/-
  The walk of the law on setting and removing an edge.
-/
import Derived.Test.YtiodpgannelgpaaGrAl
namespace Go.Proofs.Ytiodpgannelgpaa
open Go.RowKit GM Go.Sort
set_option linter.unusedSimpArgs false
set_option linter.unusedVariables false
set_option maxHeartbeats 4000000
set_option maxRecDepth 100000
namespace GM
theorem ape_set {R N : Int} {l : List E} {k : Nat} {x c : E} (h : Valid R N l) (hx : l[k]? = some x) (h1 : x.1 = c.1) (h2 : x.2.1 = c.2.1) (hc : ¬ c.2.2 < 0) (ha : alw R N c = 0) : ape R N l c = 0 ∧ nxt l c = l.set k c := by
  have h3 := alw_cases.1 ha
  refine ⟨?_, (set_nxt h.asc hx ⟨h1, h2⟩ hc).symm⟩
  unfold ape isN
  rw [if_pos ⟨decide_eq_true h3.1, decide_eq_true h3.2.1⟩, if_neg hc, if_neg (by simpa using ha), if_neg]
  rintro ⟨h4, _⟩
  rw [(has_iff (c := c)).2 ⟨x, List.mem_of_getElem? hx, h1, h2⟩] at h4; cases h4
theorem ape_rem {R N : Int} {l : List E} {k : Nat} {x c : E} (h : Valid R N l) (hx : l[k]? = some x) (h1 : x.1 = c.1) (h2 : x.2.1 = c.2.1) (hc : c.2.2 < 0) : ape R N l c = 0 ∧ nxt l c = wo l c := by
  have h3 := alw_cases.1 (h.al x (List.mem_of_getElem? hx))
  rw [h1, h2] at h3
  refine ⟨?_, if_pos hc⟩
  unfold ape isN
  rw [if_pos ⟨decide_eq_true h3.1, decide_eq_true h3.2.1⟩, if_pos hc, if_pos ((has_iff (c := c)).2 ⟨x, List.mem_of_getElem? hx, h1, h2⟩)]
theorem cost_pos {R N : Int} {l : List E} (h : Valid R N l) {x : E} (hx : x ∈ l) : ¬ x.2.2 < 0 := by
  have h5 := (alw_cases.1 (h.al x hx)).2.2.2.2
  unfold costOK at h5
  split at h5
  · have := of_decide_eq_true h5; omega
  · have := of_decide_eq_true h5; omega
theorem same_ap {R N : Int} {l : List E} {k : Nat} {x : E} (h : Valid R N l) (hx : l[k]? = some x) : apF R N l [x] = (0, l) := by
  have hm := List.mem_of_getElem? hx
  have h1 := ape_set h hx rfl rfl (cost_pos h hm) (h.al x hm)
  unfold apF
  rw [if_pos h1.1, h1.2]
  have : l.set k x = l := by
    refine List.ext_getElem? fun j => ?_
    rw [List.getElem?_set]
    split
    · rename_i e; subst e
      split
      · exact hx.symm
      · rename_i h2; exact absurd (List.getElem?_eq_some_iff.1 hx).1 h2
    · rfl
  rw [this]; rfl
theorem wo_len_eq {l : List E} {k : Nat} {x c : E} (h : AscE l) (hx : l[k]? = some x) (h1 : x.1 = c.1) (h2 : x.2.1 = c.2.1) : (wo l c).length + 1 = l.length := by
  have hk := (List.getElem?_eq_some_iff.1 hx).1
  rw [← del_wo h hx ⟨h1, h2⟩]
  unfold Go.Proofs.Ytiodpgannelgpaa.delE
  rw [List.length_append, List.length_take, List.length_drop]; omega
theorem gone_ap {R N : Int} {l : List E} {k : Nat} {x : E} (h : Valid R N l) (hx : l[k]? = some x) : apF R N l [(x.1, x.2.1, -1)] = (0, wo l (x.1, x.2.1, -1)) := by
  have h1 := ape_rem (c := (x.1, x.2.1, -1)) h hx rfl rfl (show (-1 : Int) < 0 by decide)
  unfold apF
  rw [if_pos h1.1, h1.2]; rfl
theorem alw_cost {R N c : Int} {x : E} (h : alw R N x = 0) (hr : x.1 < R) (h1 : 1 ≤ c) (h2 : c ≤ 65535) : alw R N (x.1, x.2.1, c) = 0 := by
  have h3 := alw_cases.1 h
  refine alw_cases.2 ⟨h3.1, h3.2.1, h3.2.2.1, h3.2.2.2.1, ?_⟩
  unfold costOK
  rw [if_neg (by dsimp only; omega)]
  exact decide_eq_true ⟨h1, h2⟩
theorem set_ap {R N c : Int} {l : List E} {k : Nat} {x : E} (h : Valid R N l) (hx : l[k]? = some x) (hr : x.1 < R) (h1 : 1 ≤ c) (h2 : c ≤ 65535) : apF R N l [(x.1, x.2.1, c), (x.1, x.2.1, -1)] = (0, wo l (x.1, x.2.1, -1)) := by
  have ha := alw_cost (h.al x (List.mem_of_getElem? hx)) hr h1 h2
  have e1 := ape_set (c := (x.1, x.2.1, c)) h hx rfl rfl (by dsimp only; omega) ha
  have hv := nxt_valid h e1.1
  rw [e1.2] at hv
  have hk := (List.getElem?_eq_some_iff.1 hx).1
  have hx2 : (l.set k (x.1, x.2.1, c))[k]? = some (x.1, x.2.1, c) := by rw [List.getElem?_set, if_pos rfl, if_pos hk]
  have e2 := ape_rem (c := (x.1, x.2.1, -1)) hv hx2 rfl rfl (show (-1 : Int) < 0 by decide)
  unfold apF
  rw [if_pos e1.1, e1.2]
  unfold apF
  rw [if_pos e2.1, e2.2]
  have : wo (l.set k (x.1, x.2.1, c)) (x.1, x.2.1, -1) = wo l (x.1, x.2.1, -1) := by
    rw [← del_wo (c := (x.1, x.2.1, -1)) hv.asc hx2 ⟨rfl, rfl⟩, ← del_wo (c := (x.1, x.2.1, -1)) h.asc hx ⟨rfl, rfl⟩]
    unfold Go.Proofs.Ytiodpgannelgpaa.delE
    rw [List.take_set_of_le (Nat.le_refl _), List.drop_set_of_lt (by omega)]
  rw [this]; rfl
end GM
theorem two_new (w : World) (o0 o1 : Obj) : ((w.alloc o0).alloc o1).heap[w.heap.size]? = some o0 ∧ ((w.alloc o0).alloc o1).heap[w.heap.size + 1]? = some o1 := by
  refine ⟨(Below.heap_alloc _ _ _ (by simp)).trans (heap_alloc_new _ _), ?_⟩
  have := heap_alloc_new (w.alloc o0) o1
  rwa [show (w.alloc o0).heap.size = w.heap.size + 1 by simp] at this
theorem ch_bad (R N : Int) (l : List E) (s : Value) (at_ cost : Int) (w : World) (hR : I64 R) (hN : I64 N) (hr : Rd3 w s l) (hb : ¬ (chk R N l = 0 ∧ 0 ≤ at_ ∧ at_ < l.length)) :
    Calls Try.prog 11 #[.agg #[.int .i64 R, .int .i64 N, s], .int .i64 at_, .int .i64 cost] w fun e w' => e = .returned (.bool true) ∧ Below w.heap.size w w' := by
  have HC : Hid (∀ W, Below w.heap.size w W → Calls Try.prog 17 #[.agg #[.int .i64 R, .int .i64 N, s]] W fun e w' => e = .returned (.int .i64 (chk R N l)) ∧ Below W.heap.size W w') := fun W hW => check_any R N s l W hR hN (hr.below hW)
  obtain ⟨ad, cap, rfl⟩ := rd3_slice hr
  clear hr hR hN
  by_cases hq : chk R N l = 0
  · rw [hq] at HC
    have hb' : at_ < 0 ∨ (0 ≤ at_ ∧ (l.length : Int) ≤ at_) := by
      rcases Int.lt_or_le at_ 0 with h | h
      · exact .inl h
      · exact .inr ⟨h, by
          rcases Int.lt_or_le at_ l.length with h1 | h1
          · exact absurd ⟨hq, h, h1⟩ hb
          · exact h1⟩
    clear hb hq
    rcases hb' with h | ⟨h, h1⟩
    · go_enter Try.func11, Try.ntmps11
      go_wp2_with (first
        | (go_at_call 17; refine (HC.out _ (below_alloc _ _)).mono ?_; rintro e w1 ⟨rfl, hb⟩; have HB1 := Lib.hid (below_then (below_alloc _ _) hb); clear hb)
        | (go_at_call 19; refine (lives_any _).mono ?_; rintro e w2 ⟨rfl, hb⟩; have HB2 := Lib.hid hb; clear hb))
      go_ret
      exact ⟨rfl, below_then HB1.out HB2.out⟩
    · have h' : ¬ at_ < 0 := by omega
      go_enter Try.func11, Try.ntmps11
      go_wp2_with fail
      go_at_call 17
      refine (HC.out _ (below_alloc _ _)).mono ?_
      rintro e w1 ⟨rfl, hb⟩
      have g2 : w1.cell? ⟨w.heap.size, 2, none⟩ = some (.slice ad l.length cap) := carry hb (by simp)
      have HB1 := Lib.hid (below_then (below_alloc _ _) hb)
      clear hb
      go_wp2_with (go_at_call 19; refine (lives_any _).mono ?_; rintro e w2 ⟨rfl, hb⟩; have HB2 := Lib.hid hb; clear hb)
      go_ret
      exact ⟨rfl, below_then HB1.out HB2.out⟩
  · generalize chk R N l = q at *
    have hq1 : (q == 0) = false := by simpa using hq
    have hq2 : (q != 0) = true := by simpa using hq
    clear hb hq
    go_enter Try.func11, Try.ntmps11
    go_wp2_with (first
      | (go_at_call 17; refine (HC.out _ (below_alloc _ _)).mono ?_; rintro e w1 ⟨rfl, hb⟩; have HB1 := Lib.hid (below_then (below_alloc _ _) hb); clear hb)
      | (go_at_call 19; refine (lives_any _).mono ?_; rintro e w2 ⟨rfl, hb⟩; have HB2 := Lib.hid hb; clear hb))
    go_ret
    exact ⟨rfl, below_then HB1.out HB2.out⟩
/-- the boxes that the law makes -/
structure ChS (w : World) (R N : Int) (s : Value) (l : List E) (x : E) (e : Nat) (W : World) : Prop where
  b : Below w.heap.size w W
  g : W.heap[w.heap.size]? = some (.cells #[.int .i64 R, .int .i64 N, s] 24 (0, 0))
  x : W.heap[e]? = some (.cells #[.int .i64 x.1, .int .i64 x.2.1, .int .i64 x.2.2] 52 (0, 0))
theorem ChS.below {w W W' : World} {R N : Int} {s : Value} {l : List E} {x : E} {e : Nat} (h : ChS w R N s l x e W) (k : Below W.heap.size W W') : ChS w R N s l x e W' :=
  ⟨below_then h.b k, (k.block _ (lt_block h.g)).trans h.g, (k.block _ (lt_block h.x)).trans h.x⟩
theorem ch_good (R N : Int) (l : List E) (s : Value) (k : Nat) (cost : Int) (w : World) (hR : I64 R) (hN : I64 N) (hr : Rd3 w s l) (hq : chk R N l = 0) (hk : k < l.length) (hco : I64 cost) :
    Calls Try.prog 11 #[.agg #[.int .i64 R, .int .i64 N, s], .int .i64 (k : Int), .int .i64 cost] w fun e w' => e = .returned (.bool true) ∧ Below w.heap.size w w' := by
  have hV := chk_iff.1 hq
  obtain ⟨x, hx⟩ : ∃ x, l[k]? = some x := ⟨_, List.getElem?_eq_getElem hk⟩
  have HC : Hid (∀ W, Below w.heap.size w W → Calls Try.prog 17 #[.agg #[.int .i64 R, .int .i64 N, s]] W fun e w' => e = .returned (.int .i64 0) ∧ Below W.heap.size W w') := fun W hW => by rw [← hq]; exact check_any R N s l W hR hN (hr.below hW)
  have HAP : Hid (∀ cs l' v W, apF R N l cs = (0, l') → Below w.heap.size w W → Rd3 W v cs → Calls Try.prog 25 #[.agg #[.int .i64 R, .int .i64 N, s], v] W fun e w' => ∃ ad cap, e = .returned (.tuple #[.agg #[.int .i64 R, .int .i64 N, .slice ad l'.length cap], .int .i64 0]) ∧ Hid (Rd3 w' (.slice ad l'.length cap) l') ∧ Hid (Below W.heap.size W w')) := fun cs l' v W h hW hv => by
    have e0 : apR R N l cs = (0, l') := by unfold apR; rw [if_pos hq, h]
    refine (apply_any R N l cs s v W hR hN (hr.below hW) hv).mono ?_
    rw [e0]
    rintro e w' ⟨s', rfl, h1, h2⟩
    have h1 := h1 rfl
    obtain ⟨ad, cap, rfl⟩ := rd3_slice h1
    exact ⟨ad, cap, rfl, h1, h2⟩
  have H1 := Lib.hid (same_ap hV hx)
  have H2 := Lib.hid (gone_ap hV hx)
  have H3 : Hid (x.1 < R → 1 ≤ cost → cost ≤ 65535 → apF R N l [(x.1, x.2.1, cost), (x.1, x.2.1, -1)] = (0, wo l (x.1, x.2.1, -1))) := fun h1 h2 h3 => set_ap hV hx h1 h2 h3
  have HWL := Lib.hid (wo_len_eq (c := (x.1, x.2.1, -1)) hV.asc hx rfl rfl)
  have HRD := Lib.hid hr
  obtain ⟨ad, cap, rfl, hcap1, hcap2, hc⟩ := hr
  obtain ⟨bl, off, rfl, hbl, c0, c1, c2⟩ := hc k x hx
  have HCC := Lib.hid (And.intro hbl (And.intro c0 (And.intro c1 c2)))
  have hL1 : l.length ≤ 1024 := hV.len
  have hk0 : ¬ (k : Int) < 0 := by omega
  have hk1 : (k : Int) < (l.length : Int) := by omega
  have hk2 : decide ((l.length : Int) ≤ (k : Int)) = false := decide_eq_false (by omega)
  have hk3 : (0 : Int) ≤ (k : Int) := by omega
  obtain ⟨x0, x1, x2⟩ := x
  dsimp only at H1 H2 H3 HWL HCC
  generalize wo l (x0, x1, -1) = lw at *
  clear hq hV hR hN hc hx c0 c1 c2 hbl hco
  go_enter Try.func11, Try.ntmps11
  go_wp2_with fail
  go_at_call 17
  refine (HC.out _ (below_alloc _ _)).mono ?_
  rintro e w1 ⟨rfl, hb⟩
  have HB1 : Hid (Below w.heap.size w w1 ∧ w1.heap[w.heap.size]? = some (.cells #[.int .i64 R, .int .i64 N, .slice (some ⟨bl, off, none⟩) l.length cap] 24 (0, 0))) := ⟨below_then (below_alloc _ _) hb, (hb.block _ (by simp)).trans (heap_alloc_new _ _)⟩
  have g0 : w1.cell? ⟨w.heap.size, 0, none⟩ = some (.int .i64 R) := cell_of HB1.out.2 rfl
  have g1 : w1.cell? ⟨w.heap.size, 1, none⟩ = some (.int .i64 N) := cell_of HB1.out.2 rfl
  have g2 : w1.cell? ⟨w.heap.size, 2, none⟩ = some (.slice (some ⟨bl, off, none⟩) l.length cap) := cell_of HB1.out.2 rfl
  have d0 := carryB HB1.out.1 HCC.out.1 HCC.out.2.1
  have d1 := carryB HB1.out.1 HCC.out.1 HCC.out.2.2.1
  have d2 := carryB HB1.out.1 HCC.out.1 HCC.out.2.2.2
  clear hb
  go_upto_region 4 with fail
  have HE1 : Hid (ChS w R N (.slice (some ⟨bl, off, none⟩) l.length cap) l (x0, x1, x2) w1.heap.size (w1.alloc (.cells #[.int .i64 x0, .int .i64 x1, .int .i64 x2] 52))) := ⟨below_then HB1.out.1 (below_alloc _ _), ((below_alloc w1 _).block _ (lt_block HB1.out.2)).trans HB1.out.2, heap_alloc_new _ _⟩
  generalize w1.alloc (.cells #[.int .i64 x0, .int .i64 x1, .int .i64 x2] 52) = wa at *
  clear g0 g1 g2 d0 d1 d2
  have g0 : wa.cell? ⟨w.heap.size, 0, none⟩ = some (.int .i64 R) := cell_of HE1.out.g rfl
  have g1 : wa.cell? ⟨w.heap.size, 1, none⟩ = some (.int .i64 N) := cell_of HE1.out.g rfl
  have g2 : wa.cell? ⟨w.heap.size, 2, none⟩ = some (.slice (some ⟨bl, off, none⟩) l.length cap) := cell_of HE1.out.g rfl
  have e0 : wa.cell? ⟨w1.heap.size, 0, none⟩ = some (.int .i64 x0) := cell_of HE1.out.x rfl
  have e1 : wa.cell? ⟨w1.heap.size, 1, none⟩ = some (.int .i64 x1) := cell_of HE1.out.x rfl
  have e2 : wa.cell? ⟨w1.heap.size, 2, none⟩ = some (.int .i64 x2) := cell_of HE1.out.x rfl
  go_wp2_with fail
  go_at_call 25
  refine (HAP.out [(x0, x1, x2)] l _ _ H1.out (below_then HE1.out.b (below_alloc _ _)) (rd3_block (n := 1) (heap_alloc_new _ _) rfl rfl (by omega))).mono ?_
  rintro e w3 ⟨ad3, cap3, rfl, HR3, HB3⟩
  have HE3 : Hid (ChS w R N (.slice (some ⟨bl, off, none⟩) l.length cap) l (x0, x1, x2) w1.heap.size w3) := HE1.out.below (below_then (below_alloc _ _) HB3.out)
  clear g0 g1 g2 e0 e1 e2
  go_upto_region 5 with fail
  have HE4 : Hid (ChS w R N (.slice (some ⟨bl, off, none⟩) l.length cap) l (x0, x1, x2) w1.heap.size (w3.alloc (.cells #[.int .i64 R, .int .i64 N, .slice ad3 l.length cap3] 24)) ∧ Rd3 (w3.alloc (.cells #[.int .i64 R, .int .i64 N, .slice ad3 l.length cap3] 24)) (.slice ad3 l.length cap3) l ∧ (w3.alloc (.cells #[.int .i64 R, .int .i64 N, .slice ad3 l.length cap3] 24)).heap[w3.heap.size]? = some (.cells #[.int .i64 R, .int .i64 N, .slice ad3 l.length cap3] 24 (0, 0))) := ⟨HE3.out.below (below_alloc _ _), HR3.out.below (below_alloc _ _), heap_alloc_new _ _⟩
  generalize w3.alloc (.cells #[.int .i64 R, .int .i64 N, .slice ad3 l.length cap3] 24) = wb at *
  have g0 : wb.cell? ⟨w.heap.size, 0, none⟩ = some (.int .i64 R) := cell_of HE4.out.1.g rfl
  have g1 : wb.cell? ⟨w.heap.size, 1, none⟩ = some (.int .i64 N) := cell_of HE4.out.1.g rfl
  have g2 : wb.cell? ⟨w.heap.size, 2, none⟩ = some (.slice (some ⟨bl, off, none⟩) l.length cap) := cell_of HE4.out.1.g rfl
  have e0 : wb.cell? ⟨w1.heap.size, 0, none⟩ = some (.int .i64 x0) := cell_of HE4.out.1.x rfl
  have e1 : wb.cell? ⟨w1.heap.size, 1, none⟩ = some (.int .i64 x1) := cell_of HE4.out.1.x rfl
  go_wp2_with fail
  go_at_call 25
  refine (HAP.out [(x0, x1, -1)] lw _ _ H2.out (below_then HE4.out.1.b (below_alloc _ _)) (rd3_block (n := 1) (heap_alloc_new _ _) rfl rfl (by omega))).mono ?_
  rintro e w5 ⟨ad5, cap5, rfl, HR5, HB5⟩
  clear g0 g1 g2 e0 e1
  go_upto_region 6 with fail
  have HE6 : Hid (ChS w R N (.slice (some ⟨bl, off, none⟩) l.length cap) l (x0, x1, x2) w1.heap.size (w5.alloc (.cells #[.int .i64 R, .int .i64 N, .slice ad5 lw.length cap5] 24)) ∧ Rd3 (w5.alloc (.cells #[.int .i64 R, .int .i64 N, .slice ad5 lw.length cap5] 24)) (.slice ad3 l.length cap3) l ∧ (w5.alloc (.cells #[.int .i64 R, .int .i64 N, .slice ad5 lw.length cap5] 24)).heap[w3.heap.size]? = some (.cells #[.int .i64 R, .int .i64 N, .slice ad3 l.length cap3] 24 (0, 0)) ∧ Rd3 (w5.alloc (.cells #[.int .i64 R, .int .i64 N, .slice ad5 lw.length cap5] 24)) (.slice ad5 lw.length cap5) lw ∧ (w5.alloc (.cells #[.int .i64 R, .int .i64 N, .slice ad5 lw.length cap5] 24)).heap[w5.heap.size]? = some (.cells #[.int .i64 R, .int .i64 N, .slice ad5 lw.length cap5] 24 (0, 0))) := by
    have hb := below_then (below_then (below_alloc wb (.cells #[.int .i64 x0, .int .i64 x1, .int .i64 (-1)] 53)) HB5.out) (below_alloc w5 (.cells #[.int .i64 R, .int .i64 N, .slice ad5 lw.length cap5] 24))
    exact ⟨HE4.out.1.below hb, HE4.out.2.1.below hb, (hb.block _ (lt_block HE4.out.2.2)).trans HE4.out.2.2, HR5.out.below (below_alloc _ _), heap_alloc_new _ _⟩
  generalize w5.alloc (.cells #[.int .i64 R, .int .i64 N, .slice ad5 lw.length cap5] 24) = wc at *
  have g0 : wc.cell? ⟨w.heap.size, 0, none⟩ = some (.int .i64 R) := cell_of HE6.out.1.g rfl
  have g1 : wc.cell? ⟨w.heap.size, 1, none⟩ = some (.int .i64 N) := cell_of HE6.out.1.g rfl
  have g2 : wc.cell? ⟨w.heap.size, 2, none⟩ = some (.slice (some ⟨bl, off, none⟩) l.length cap) := cell_of HE6.out.1.g rfl
  have a0 : wc.cell? ⟨w3.heap.size, 0, none⟩ = some (.int .i64 R) := cell_of HE6.out.2.2.1 rfl
  have a1 : wc.cell? ⟨w3.heap.size, 1, none⟩ = some (.int .i64 N) := cell_of HE6.out.2.2.1 rfl
  have a2 : wc.cell? ⟨w3.heap.size, 2, none⟩ = some (.slice ad3 l.length cap3) := cell_of HE6.out.2.2.1 rfl
  go_wp2_with fail
  go_at_call 27
  refine (same27_any R N l _ _ _ HE6.out.2.1 (HRD.out.below HE6.out.1.b)).mono ?_
  rintro e w7 ⟨rfl, hb7⟩
  have HE7 : Hid (ChS w R N (.slice (some ⟨bl, off, none⟩) l.length cap) l (x0, x1, x2) w1.heap.size w7 ∧ Rd3 w7 (.slice ad5 lw.length cap5) lw ∧ w7.heap[w5.heap.size]? = some (.cells #[.int .i64 R, .int .i64 N, .slice ad5 lw.length cap5] 24 (0, 0))) := ⟨HE6.out.1.below hb7, HE6.out.2.2.2.1.below hb7, (hb7.block _ (lt_block HE6.out.2.2.2.2)).trans HE6.out.2.2.2.2⟩
  clear hb7 g0 g1 g2 a0 a1 a2
  have g0 : w7.cell? ⟨w.heap.size, 0, none⟩ = some (.int .i64 R) := cell_of HE7.out.1.g rfl
  have g1 : w7.cell? ⟨w.heap.size, 1, none⟩ = some (.int .i64 N) := cell_of HE7.out.1.g rfl
  have g2 : w7.cell? ⟨w.heap.size, 2, none⟩ = some (.slice (some ⟨bl, off, none⟩) l.length cap) := cell_of HE7.out.1.g rfl
  have e0 : w7.cell? ⟨w1.heap.size, 0, none⟩ = some (.int .i64 x0) := cell_of HE7.out.1.x rfl
  have e1 : w7.cell? ⟨w1.heap.size, 1, none⟩ = some (.int .i64 x1) := cell_of HE7.out.1.x rfl
  have b2 : w7.cell? ⟨w5.heap.size, 2, none⟩ = some (.slice ad5 lw.length cap5) := cell_of HE7.out.2.2 rfl
  have hlw : (l.length : Int) - 1 = (lw.length : Int) := by have := HWL.out; omega
  have hll : ((lw.length : Int) != (lw.length : Int)) = false := by simp
  have hle : ((lw.length : Int) == (lw.length : Int)) = true := by simp
  go_upto_region 8 with fail
  have HLV : Hid (∀ W, Calls Try.prog 19 #[] W fun e w' => e = .returned (.bool true) ∧ Below W.heap.size W w') := fun W => lives_any W
  by_cases hxr : x0 < R
  · by_cases h1 : 1 ≤ cost
    · by_cases h2 : cost ≤ 65535
      · have H3' := Lib.hid (H3.out hxr h1 h2)
        have hxr' : decide (R ≤ x0) = false := decide_eq_false (by omega)
        have h1' : decide (cost < 1) = false := decide_eq_false (by omega)
        have h2' : decide (65535 < cost) = false := decide_eq_false (by omega)
        clear H3
        go_wp2_with fail
        go_at_call 25
        refine (HAP.out [(x0, x1, cost), (x0, x1, -1)] lw _ _ H3'.out (below_then HE7.out.1.b (below_alloc _ _)) (rd3_block (n := 2) (heap_alloc_new _ _) rfl rfl (by omega))).mono ?_
        rintro e w9 ⟨ad9, cap9, rfl, HR9, HB9⟩
        have hbx := (HB9.out.block _ (lt_block ((Below.heap_alloc w7 (.cells #[.int .i64 x0, .int .i64 x1, .int .i64 cost, .int .i64 x0, .int .i64 x1, .int .i64 (-1)] 53) _ (lt_block HE7.out.2.2)).trans HE7.out.2.2))).trans ((Below.heap_alloc w7 (.cells #[.int .i64 x0, .int .i64 x1, .int .i64 cost, .int .i64 x0, .int .i64 x1, .int .i64 (-1)] 53) _ (lt_block HE7.out.2.2)).trans HE7.out.2.2)
        have HW9 : Hid (Below w.heap.size w w9 ∧ Rd3 w9 (.slice ad5 lw.length cap5) lw) := ⟨below_then HE7.out.1.b (below_then (below_alloc _ _) HB9.out), (HE7.out.2.1.below (below_alloc _ _)).below HB9.out⟩
        have q0 : ∀ o, (w9.alloc o).cell? ⟨w5.heap.size, 0, none⟩ = some (.int .i64 R) := fun o => Lib.cell?_alloc_some _ (cell_of hbx rfl)
        have q1 : ∀ o, (w9.alloc o).cell? ⟨w5.heap.size, 1, none⟩ = some (.int .i64 N) := fun o => Lib.cell?_alloc_some _ (cell_of hbx rfl)
        have q2 : ∀ o, (w9.alloc o).cell? ⟨w5.heap.size, 2, none⟩ = some (.slice ad5 lw.length cap5) := fun o => Lib.cell?_alloc_some _ (cell_of hbx rfl)
        clear hbx g0 g1 g2 e0 e1 b2
        go_wp2_with fail
        go_at_call 27
        refine (same27_any R N lw _ _ _ (HR9.out.below (below_alloc _ _)) (HW9.out.2.below (below_alloc _ _))).mono ?_
        rintro e w10 ⟨rfl, hb10⟩
        have HB10 := Lib.hid (below_then (below_then HW9.out.1 (below_alloc _ _)) hb10)
        clear hb10 q0 q1 q2
        go_wp2_with (go_at_call 19; refine (HLV.out _).mono ?_; rintro e w11 ⟨rfl, hb11⟩; have HB11 := Lib.hid hb11; clear hb11)
        go_ret
        exact ⟨rfl, below_then HB10.out HB11.out⟩
      · have hxr' : decide (R ≤ x0) = false := decide_eq_false (by omega)
        have h1' : decide (cost < 1) = false := decide_eq_false (by omega)
        have h2' : 65535 < cost := by omega
        go_wp2_with (go_at_call 19; refine (HLV.out _).mono ?_; rintro e w11 ⟨rfl, hb11⟩; have HB11 := Lib.hid hb11; clear hb11)
        go_ret
        exact ⟨rfl, below_then HE7.out.1.b HB11.out⟩
    · have hxr' : decide (R ≤ x0) = false := decide_eq_false (by omega)
      have h1' : cost < 1 := by omega
      go_wp2_with (go_at_call 19; refine (HLV.out _).mono ?_; rintro e w11 ⟨rfl, hb11⟩; have HB11 := Lib.hid hb11; clear hb11)
      go_ret
      exact ⟨rfl, below_then HE7.out.1.b HB11.out⟩
  · have hxr' : R ≤ x0 := by omega
    go_wp2_with (go_at_call 19; refine (HLV.out _).mono ?_; rintro e w11 ⟨rfl, hb11⟩; have HB11 := Lib.hid hb11; clear hb11)
    go_ret
    exact ⟨rfl, below_then HE7.out.1.b HB11.out⟩
theorem changes_walk (R N : Int) (l : List E) (s : Value) (at_ cost : Int) (w : World) (hR : I64 R) (hN : I64 N) (hl : Fits l) (hr : Rd3 w s l) (hF : FitT l) (ha : I64 at_) (hc : I64 cost) :
    Calls Try.prog 11 #[.agg #[.int .i64 R, .int .i64 N, s], .int .i64 at_, .int .i64 cost] w fun e w' => e = .returned (.bool true) ∧ Below w.heap.size w w' := by
  by_cases hb : chk R N l = 0 ∧ 0 ≤ at_ ∧ at_ < l.length
  · obtain ⟨k, rfl⟩ := Int.eq_ofNat_of_zero_le hb.2.1
    exact ch_good R N l s k cost w hR hN hr hb.1 (by omega) hc
  · exact ch_bad R N l s at_ cost w hR hN hr hb
end Go.Proofs.Ytiodpgannelgpaa
