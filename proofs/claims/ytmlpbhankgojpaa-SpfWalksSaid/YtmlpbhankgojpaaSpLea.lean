/-
  The walks of turn and of leaving: for each node the edges that begin at it.
-/
import Derived.Test.YtmlpbhankgojpaaGrA
import Derived.Test.YtmlpbhankgojpaaSpOut
import Derived.Deep.OwnRows
import Derived.Deep.DeepCutAuto
namespace Go.Proofs.Ytmlpbhankgojpaa
open Go.RowKit HM GM SP
set_option linter.unusedSimpArgs false
set_option linter.unusedVariables false
set_option maxHeartbeats 4000000
set_option maxRecDepth 100000

theorem turn_any (R N : Int) (s : Value) (v d : Int) (w : World) (hR : 0 ≤ R ∧ R ≤ 128) (hd : 0 ≤ d ∧ d ≤ 100000000) :
    Calls Try.prog 50 #[.agg #[.int .i64 R, .int .i64 N, s], .int .i64 v, .int .i64 d] w fun e w' => e = .returned (.int .i64 (tr R v d)) ∧ Below w.heap.size w w' := by
  by_cases h : v < R
  · have H : Hid (tr R v d = 2 * d + 1) := by show _ = _; unfold tr; rw [if_pos h]
    go_enter Try.func50, Try.ntmps50
    go_wp2
    go_ret
    exact ⟨by rw [H.out]; rfl, below_alloc _ _⟩
  · have H : Hid (tr R v d = 2 * d) := by show _ = _; unfold tr; rw [if_neg h]
    have h' : decide (v < R) = false := decide_eq_false h
    go_enter Try.func50, Try.ntmps50
    go_wp2
    go_ret
    exact ⟨by rw [H.out]; rfl, below_alloc _ _⟩
def lvE (b off cap : Nat) (l : List E) (i u : Nat) : Value := if (outs (l.take i) (u : Int)).length = 0 then .slice none 0 0 else .slice (some ⟨b, off + cntL l (u : Int) * 3, none⟩) (outs (l.take i) (u : Int)).length (cap - cntL l (u : Int))
def lvR (b off cap : Nat) (l : List E) (n i : Nat) : List Value := (List.range n).map (fun u => lvE b off cap l i u)
theorem lvR_len (b off cap : Nat) (l : List E) (n i : Nat) : (lvR b off cap l n i).length = n := by unfold lvR; simp
theorem lvR_get {b off cap : Nat} {l : List E} {n i u : Nat} (h : u < n) : (lvR b off cap l n i)[u]? = some (lvE b off cap l i u) := by unfold lvR; simp [h]
theorem lvR_zero (b off cap : Nat) (l : List E) (n : Nat) : lvR b off cap l n 0 = List.replicate n (.slice none 0 0) := by
  unfold lvR lvE outs
  simp
  apply List.ext_getElem
  · simp
  · intro i h1 h2; simp
theorem lvR_step {b off cap : Nat} {l : List E} {n i u : Nat} {e : E} (hl : Asc1 l) (he : l[i]? = some e) (hu : e.1 = (u : Int)) (hun : u < n) :
    (lvR b off cap l n i).set u (.slice (some ⟨b, off + cntL l (u : Int) * 3, none⟩) ((outs (l.take i) (u : Int)).length + 1) (cap - cntL l (u : Int))) = lvR b off cap l n (i + 1) := by
  apply List.ext_getElem?
  intro k
  rw [List.getElem?_set]
  by_cases hk : k < n
  · rw [lvR_get hk, lvR_get hk, lvR_len]
    by_cases e1 : u = k
    · subst e1
      rw [if_pos rfl, if_pos hk]
      unfold lvE
      rw [outs_take he, if_pos hu, List.length_append, List.length_singleton, if_neg (by omega)]
    · rw [if_neg e1]
      have e2 : ¬ e.1 = (k : Int) := by rw [hu]; omega
      unfold lvE
      rw [outs_take he, if_neg e2]
  · rw [List.getElem?_eq_none (by rw [lvR_len]; omega), List.getElem?_eq_none (by rw [lvR_len]; omega)]
    rw [if_neg (by omega)]
def GraphOf (w : World) (l : List E) (b off cap : Nat) : Prop := ∀ k x, l[k]? = some x → b < w.heap.size ∧ w.cell? ⟨b, off + k * 3, none⟩ = some (.int .i64 x.1) ∧ w.cell? ⟨b, off + k * 3 + 1, none⟩ = some (.int .i64 x.2.1) ∧ w.cell? ⟨b, off + k * 3 + 2, none⟩ = some (.int .i64 x.2.2)
theorem info22 : (Try.prog.info? 22).map (fun i => (i.zero, i.size, i.bytes)) = some (some (.slice none 0 0), 1, 24) := by kernel_rfl
theorem make_rowsE (n : Nat) (hn : n ≤ 65536) (w : World) : (Instr.makeSlice 65 (.int .i64 (n : Int)) (.int .i64 (n : Int))).run Try.prog w = .ok (.slice (some ⟨w.heap.size, 0, none⟩) n n) (w.alloc (.cells (madeCells #[.slice none 0 0] n) 22)) :=
  run_make_row' 65 22 (.slice none 0 0) 24 Try.underlying65 info22 rfl .i64 .i64 n (by omega) (by omega) w
theorem made_rowE (w : World) (n : Nat) (t : TypeId) (hn : n ≤ 65536) {b : Nat} (hb : b = w.heap.size) : (w.alloc (.cells (madeCells #[.slice none 0 0] n) t)).ownsRow 0 t 1 (.slice (some ⟨b, 0, none⟩) n n) n (List.replicate n (.slice none 0 0)) := by
  subst hb
  have := World.ownsRow_lit (base := 0) (e := t) (size := 1) w (madeCells #[.slice none 0 0] n) n (Nat.zero_le _) (by unfold maxLen; omega) (by rw [size_madeCells]; omega)
  rw [toList_madeCells_one] at this
  exact this
/-- what stands in the row of leaving reads as the edges of its node -/
theorem lvE_rd {w : World} {b off cap : Nat} {l : List E} (hl : Asc1 l) (hc : GraphOf w l b off cap) (hcap : l.length ≤ cap) (hcap2 : cap ≤ 9223372036854775807) (u : Nat) : Rd3 w (lvE b off cap l l.length u) (outs l (u : Int)) := by
  unfold lvE
  rw [List.take_length]
  by_cases h : (outs l (u : Int)).length = 0
  · rw [if_pos h, List.length_eq_zero_iff.1 h]; exact rd3_nil w
  · rw [if_neg h]
    have h0 : (outs l (u : Int))[(outs l (u : Int)).length - 1]? = some ((outs l (u : Int))[(outs l (u : Int)).length - 1]'(by omega)) := List.getElem?_eq_getElem (by omega)
    have h1 := (List.getElem?_eq_some_iff.1 (outs_at hl h0)).1
    refine ⟨_, _, rfl, by omega, by omega, fun k x hk => ?_⟩
    obtain ⟨a0, a1, a2, a3⟩ := hc _ x (outs_at hl hk)
    refine ⟨b, off + cntL l (u : Int) * 3, rfl, a0, ?_, ?_, ?_⟩
    · rw [show off + cntL l (u : Int) * 3 + k * 3 = off + (cntL l (u : Int) + k) * 3 by omega]; exact a1
    · rw [show off + cntL l (u : Int) * 3 + k * 3 = off + (cntL l (u : Int) + k) * 3 by omega]; exact a2
    · rw [show off + cntL l (u : Int) * 3 + k * 3 = off + (cntL l (u : Int) + k) * 3 by omega]; exact a3
def LeaQ (n : Nat) (l : List E) (w00 w : World) (e : Ending) (w' : World) : Prop := ∃ EB vals, e = .returned (.slice (some ⟨EB, 0, none⟩) n n) ∧ w.heap.size ≤ EB ∧ w'.ownsRow 0 22 1 (.slice (some ⟨EB, 0, none⟩) n n) n vals ∧ (∀ u, u < n → ∃ v, vals[u]? = some v ∧ Rd3 w00 v (outs l (u : Int))) ∧ Below w.heap.size w w'
theorem leaving_none (R N : Int) (l : List E) (s : Value) (n : Nat) (w00 w : World) (hv : Valid R N l) (hr0 : Rd3 w00 s l) (hr : Rd3 w s l) (hn : (n : Int) = R + N) (h0 : l = []) :
    Calls Try.prog 46 #[.agg #[.int .i64 R, .int .i64 N, s]] w (LeaQ n l w00 w) := by
  obtain ⟨ad, cap, rfl, hcap1, hcap2, hc⟩ := hr
  have hR := hv.r; have hN := hv.n; have hS := hv.s
  have hmk := make_rowsE n (by omega)
  have HE : Hid (∀ u, u < n → ∃ v, (List.replicate n (Value.slice none 0 0))[u]? = some v ∧ Rd3 w00 v (outs l (u : Int))) := fun u hu => ⟨.slice none 0 0, by simp [hu], by rw [h0]; exact rd3_nil w00⟩
  have hL : l.length = 0 := by rw [h0]; rfl
  rw [hL]
  have hn1 : R + N = (n : Int) := hn.symm
  have HN := Lib.hid hn
  clear hv hc hr0 h0 hL hcap1 hn
  go_enter Try.func46, Try.ntmps46
  go_wp2_with fail
  go_loopg [15] 0 (fun g s15 wr => s15 = .int .i64 0 ∧ wr = (w.alloc (.cells #[.int .i64 R, .int .i64 N, .slice ad 0 cap] 24)).alloc (.cells (madeCells #[.slice none 0 0] n) 22))
  case atStart => exact ⟨rfl, rfl⟩
  case round =>
    obtain ⟨rfl, rfl⟩ := hrel
    go_wp2
    go_ret
    refine ⟨w.heap.size + 1, _, rfl, by omega, made_rowE _ n 22 (by have := HN.out; omega) (by simp), HE.out, below_then (below_alloc _ _) (below_alloc _ _)⟩
theorem leaving_some (R N : Int) (l : List E) (s : Value) (n : Nat) (w00 w : World) (hv : Valid R N l) (hr0 : Rd3 w00 s l) (hr : Rd3 w s l) (hn : (n : Int) = R + N) (h0 : 0 < l.length) :
    Calls Try.prog 46 #[.agg #[.int .i64 R, .int .i64 N, s]] w (LeaQ n l w00 w) := by
  obtain ⟨ad, cap, rfl, hcap1, hcap2, hc⟩ := hr
  have hR := hv.r; have hN := hv.n; have hS := hv.s
  have hA : Asc1 l := Asc1.of hv
  obtain ⟨b, off, rfl, hblt, -⟩ := hc 0 _ (List.getElem?_eq_getElem h0)
  have hc' : GraphOf w l b off cap := fun k x hk => by
    obtain ⟨b', off', e, a0, a1, a2, a3⟩ := hc k x hk
    cases e; exact ⟨a0, a1, a2, a3⟩
  have hc0 : GraphOf w00 l b off cap := by
    obtain ⟨ad0, cap0, e0, _, _, hc0⟩ := hr0
    injection e0 with e1 e2 e3
    subst e1 e3
    intro k x hk
    obtain ⟨b', off', e, a0, a1, a2, a3⟩ := hc0 k x hk
    cases e; exact ⟨a0, a1, a2, a3⟩
  have HC := Lib.hid hc'
  have HE : Hid (∀ u, u < n → ∃ v, (lvR b off cap l n l.length)[u]? = some v ∧ Rd3 w00 v (outs l (u : Int))) := fun u hu => ⟨_, lvR_get hu, lvE_rd hA hc0 hcap1 hcap2 u⟩
  have HV := Lib.hid hv
  have hmk := make_rowsE n (by omega)
  obtain ⟨L, hL⟩ : ∃ L, l.length = L := ⟨_, rfl⟩
  rw [hL] at hcap1 HE ⊢
  have HL := Lib.hid hL
  have hL10 : L ≤ 1024 := by rw [← hL]; exact hv.len
  have HA := Lib.hid hA
  have hn1 : R + N = (n : Int) := hn.symm
  have HN := Lib.hid hn
  have hnb : n ≤ 128 := by omega
  clear hv hc hc' hc0 hr0 h0 hL hA hn
  go_enter Try.func46, Try.ntmps46
  go_wp2_with fail
  have HS : Hid (((w.alloc (.cells #[.int .i64 R, .int .i64 N, .slice (some ⟨b, off, none⟩) L cap] 24)).alloc (.cells (madeCells #[.slice none 0 0] n) 22)).ownsRow 0 22 1 (.slice (some ⟨w.heap.size + 1, 0, none⟩) n n) n (lvR b off cap l n 0) ∧
      Below w.heap.size w ((w.alloc (.cells #[.int .i64 R, .int .i64 N, .slice (some ⟨b, off, none⟩) L cap] 24)).alloc (.cells (madeCells #[.slice none 0 0] n) 22)) ∧ ((w.alloc (.cells #[.int .i64 R, .int .i64 N, .slice (some ⟨b, off, none⟩) L cap] 24)).alloc (.cells (madeCells #[.slice none 0 0] n) 22)).heap[w.heap.size]? = some (.cells #[.int .i64 R, .int .i64 N, .slice (some ⟨b, off, none⟩) L cap] 24 (0, 0))) :=
    ⟨by rw [lvR_zero]; exact made_rowE _ n 22 (by omega) (by simp), below_then (below_alloc _ _) (below_alloc _ _), (Below.heap_alloc _ _ _ (by simp)).trans (heap_alloc_new _ _)⟩
  clear hmk
  generalize ((w.alloc (.cells #[.int .i64 R, .int .i64 N, .slice (some ⟨b, off, none⟩) L cap] 24)).alloc (.cells (madeCells #[.slice none 0 0] n) 22)) = W at *
  go_loopg [15, 5, 4] L (fun g s15 s5 s4 wr => ∃ i : Nat, i ≤ L ∧ L - i ≤ g ∧ s15 = .int .i64 (i : Int) ∧ (∃ v, v = s5) ∧ (∃ v, v = s4) ∧ Hid (wr.ownsRow 0 22 1 (.slice (some ⟨w.heap.size + 1, 0, none⟩) n n) n (lvR b off cap l n i) ∧ Below w.heap.size w wr ∧ wr.heap[w.heap.size]? = some (.cells #[.int .i64 R, .int .i64 N, .slice (some ⟨b, off, none⟩) L cap] 24 (0, 0))))
  case atStart => exact ⟨0, by omega, by omega, rfl, ⟨_, rfl⟩, ⟨_, rfl⟩, HS⟩
  case round =>
    clear HS
    obtain ⟨i, hi, hig, rfl, ⟨v5, rfl⟩, ⟨v4, rfl⟩, HR⟩ := hrel
    by_cases hlt : i < L
    · obtain ⟨e, he⟩ : ∃ y, l[i]? = some y := ⟨_, List.getElem?_eq_getElem (by have := HL.out; omega)⟩
      have hed := edge HV.out (List.mem_of_getElem? he)
      obtain ⟨_, c0, c1, c2⟩ := HC.out i e he
      have d0 := carryB HR.out.2.1 hblt c0
      have d1 := carryB HR.out.2.1 hblt c1
      have d2 := carryB HR.out.2.1 hblt c2
      clear c0 c1 c2
      obtain ⟨x, y, z⟩ := e
      obtain ⟨u, rfl⟩ : ∃ u : Nat, x = u := ⟨x.toNat, by omega⟩
      have hun : u < n := by have := HN.out; omega
      have hfi := outs_first HA.out he
      have HST := Lib.hid (lvR_step (b := b) (off := off) (cap := cap) HA.out he rfl hun)
      have cE := HR.out.1.cellAt u (by omega)
      rw [lvR_get hun] at cE
      have zE := HR.out.1.frozenAt u
      have g0 : wr.cell? ⟨w.heap.size, 2, none⟩ = some (.slice (some ⟨b, off, none⟩) L cap) := cell_of HR.out.2.2 rfl
      obtain ⟨v, hvv⟩ : ∃ v, lvE b off cap l i u = v := ⟨_, rfl⟩
      rw [hvv] at cE
      obtain ⟨cu, av, cv, rfl, hcu⟩ : ∃ cu av cv, v = .slice av cu cv ∧ cu = (outs (l.take i) (u : Int)).length := by
        rw [← hvv]; unfold lvE; split
        · rename_i h; exact ⟨_, _, _, rfl, h.symm⟩
        · exact ⟨_, _, _, rfl, rfl⟩
      dsimp only at hfi HST d0 d1 d2
      rw [← hcu] at hfi HST
      generalize cntL l (u : Int) = st at *
      clear hvv hcu hed he
      obtain rfl : i = st + cu := hfi
      have hu0 : (0 : Int) ≤ (u : Int) := by omega
      have hu1 : (u : Int) < (n : Int) := by omega
      have e1 : ((st + cu : Nat) : Int) - (cu : Int) = (st : Int) := by omega
      have k1 : ((st + cu : Nat) : Int) < (L : Int) := by omega
      have k2 : st + cu + 1 ≤ cap := by omega
      have k3 : st ≤ st + cu + 1 := by omega
      have hEB : w.heap.size + 1 < wr.heap.size := (row_lt HR.out.1 rfl).2
      have HRR := Lib.hid HR.out
      have g0' : ∀ o, (wr.alloc o).cell? ⟨w.heap.size, 2, none⟩ = some (.slice (some ⟨b, off, none⟩) L cap) := fun o => carry (below_alloc _ _) g0
      have cE' : ∀ o, (wr.alloc o).cell? ⟨w.heap.size + 1, u, none⟩ = some (.slice av cu cv) := fun o => carry (below_alloc _ _) cE
      have zE' : ∀ o, (wr.alloc o).frozen? ⟨w.heap.size + 1, u, none⟩ = false := fun o => by rw [(below_alloc wr o).frozen hEB]; exact zE
      go_upto_region 5 with (fail)
      go_region
      trace_state
      go_wp2_with fail
      go_roundg (L - (st + cu + 1))
      case measure => omega
      case rel =>
        refine ⟨st + cu + 1, by omega, Nat.le_refl _, by go_num, ⟨_, rfl⟩, ⟨_, rfl⟩, ?_⟩
        obtain ⟨r1, r2, r3⟩ := HRR.out
        have h1 := (r1.stored u (.slice (some ⟨b, off + st * 3, none⟩) (st + cu + 1 - st) (cap - st))).1
        have e2 : st + cu + 1 - st = cu + 1 := by omega
        rw [e2] at h1 ⊢
        rw [HST.out] at h1
        refine ⟨(h1.alloc _).drew, ((r2.setCell (by simp) _).alloc (by simp; omega) _).drew, ?_⟩
        show ((wr.setCell _ _).alloc _).heap[w.heap.size]? = _
        rw [Below.heap_alloc _ _ _ (by simp; omega), heap_set_ne (by omega)]; exact r3
    · have HIL : Hid (i = L) := by show _ = _; omega
      have k1 : decide ((i : Int) < (L : Int)) = false := decide_eq_false (by omega)
      go_wp2
      go_ret
      have h1 := HR.out.1
      rw [HIL.out] at h1
      exact ⟨w.heap.size + 1, _, rfl, by omega, h1, HE.out, HR.out.2.1⟩
theorem leaving_any (R N : Int) (l : List E) (s : Value) (n : Nat) (w00 w : World) (hv : Valid R N l) (hr0 : Rd3 w00 s l) (hr : Rd3 w s l) (hn : (n : Int) = R + N) :
    Calls Try.prog 46 #[.agg #[.int .i64 R, .int .i64 N, s]] w (LeaQ n l w00 w) := by
  by_cases h : 0 < l.length
  · exact leaving_some R N l s n w00 w hv hr0 hr hn h
  · exact leaving_none R N l s n w00 w hv hr0 hr hn (List.length_eq_zero_iff.1 (by omega))
end Go.Proofs.Ytmlpbhankgojpaa
