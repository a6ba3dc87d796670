/-
  The walk of aggregate.parents: for each entry the place of the entry above it.
  The walks of aggregate.size and aggregate.effective.
-/
import Derived.Test.YtegponbmelgngaaMgAa
import Derived.Deep.OwnRows
section
namespace Go.Proofs.Ytegponbmelgngaa
open Go.RowKit
set_option linter.unusedSimpArgs false
set_option linter.unusedVariables false
set_option maxHeartbeats 1500000
set_option maxRecDepth 100000

theorem cellO {w : World} {g o : Nat} {cs : Array Value} {t : TypeId} {v : Value} (h : w.heap[g]? = some (.cells cs t (0, 0))) (hv : cs[o]? = some v) : w.cell? ⟨g, o, none⟩ = some v := by simp [World.cell?, h, hv]
theorem freeO {w : World} {g : Nat} {cs : Array Value} {t : TypeId} (h : w.heap[g]? = some (.cells cs t (0, 0))) (o : Nat) : w.frozen? ⟨g, o, none⟩ = false := by simp [World.frozen?, h]
theorem ltO {w : World} {g : Nat} {o : Obj} (h : w.heap[g]? = some o) : g < w.heap.size := (Array.getElem?_eq_some_iff.1 h).1
/-- the blocks of a list of entries -/
def blE (l : List En) : List (Nat × Nat) := l.map (fun e => blk e.1)
theorem blE_some {l : List En} {i : Nat} {e : En} (h : l[i]? = some e) : (blE l)[i]? = some (blk e.1) := by unfold blE; rw [List.getElem?_map, h]; rfl
theorem blE_bls (l : List En) : blE l = AG.bls (l.map toBe) := by unfold blE AG.bls; rw [List.map_map]; rfl
theorem blE_len (l : List En) : (blE l).length = l.length := by unfold blE; simp
/-- prefix p covers prefix q exactly if p's block holds q's -/
theorem cov_cv {p q : PP} (hp : V p = true) (hq : V q = true) : cov p.1 p.2 q.1 q.2 = true ↔ AG.cv (blk p) (blk q) := by
  have ip := (V_al p.1 p.2).1 hp
  have iq := (V_al q.1 q.2).1 hq
  have hpp := CM.pow_pos' (32 - q.2.toNat)
  unfold cov
  rw [show vld q.1 q.2 = true from hq, Bool.true_and, Bool.and_eq_true, decide_eq_true_eq, con_in hp]
  show _ ↔ p.1 ≤ q.1 ∧ q.1 + 2 ^ (32 - q.2.toNat) ≤ p.1 + 2 ^ (32 - p.2.toNat)
  constructor
  · rintro ⟨h1, h2, h3⟩
    exact CM.nest ip.2.2 iq.2.2 (show 32 - q.2.toNat ≤ 32 - p.2.toNat by omega) h2 h3 (Nat.le_refl _) (by omega)
  · rintro ⟨h1, h2⟩
    refine ⟨?_, h1, by omega⟩
    refine Classical.byContradiction fun hn => ?_
    have := CM.pow_le' (show 32 - p.2.toNat + 1 ≤ 32 - q.2.toNat by omega)
    rw [Nat.pow_succ] at this
    have := CM.pow_pos' (32 - p.2.toNat)
    omega
theorem TabE.ascB {l : List En} (h : TabE l) : AG.Asc (blE l) := ⟨by
  unfold blE
  rw [List.pairwise_map]
  exact h.asc.imp_of_mem fun {x y} hx hy hxy => (ltB_blk (h.val x hx).1 (h.val y hy).1).2 hxy, fun x hx => by
  obtain ⟨e, he, rfl⟩ := List.mem_map.1 hx
  exact blk_al (h.val e he).1⟩
/-- a row of numbers -/
def intV (m : List Int) : List Value := m.map (Value.int .i64)
theorem intV_set (m : List Int) (i : Nat) (z : Int) : (intV m).toArray.setIfInBounds i (.int .i64 z) = (intV (m.set i z)).toArray := by simp [intV, List.map_set]
theorem intV_get {m : List Int} {i : Nat} {z : Int} (h : m[i]? = some z) : (intV m).toArray[i]? = some (.int .i64 z) := by simp [intV, h]
theorem infoI : (Try.prog.info? 3).map (fun i => (i.zero, i.size, i.bytes)) = some (some (.int .i64 0), 1, 8) := by kernel_rfl
theorem make_ints (n : Nat) (hn : n ≤ 2000) (w : World) : (Instr.makeSlice 133 (.int .i64 (n : Int)) (.int .i64 (n : Int))).run Try.prog w = .ok (.slice (some ⟨w.heap.size, 0, none⟩) n n) (w.alloc (.cells (intV (List.replicate n 0)).toArray 3)) := by
  have e : (intV (List.replicate n 0)).toArray = madeCells #[.int .i64 0] n := by
    have := toList_madeCells_one (Value.int .i64 0) n
    apply Array.ext'
    rw [this]; simp [intV]
  rw [e]
  exact run_make_row' 133 3 (.int .i64 0) 8 Try.underlying133 infoI rfl .i64 .i64 n (by omega) (by omega) w
/-- the first n numbers are the places above -/
def ParL (L : List (Nat × Nat)) (m : List Int) (n : Nat) : Prop := ∀ i, i < n → (∃ j : Nat, AG.Par L i j ∧ m[i]? = some (j : Int)) ∨ (AG.NoPar L i ∧ m[i]? = some (-1))
theorem ParL.set {L : List (Nat × Nat)} {m : List Int} {n : Nat} {z : Int} (h : ParL L m n) (hn : n < m.length) (hz : (∃ j : Nat, AG.Par L n j ∧ z = (j : Int)) ∨ (AG.NoPar L n ∧ z = -1)) : ParL L (m.set n z) (n + 1) := fun i hi => by
  rcases Nat.lt_or_ge i n with g | g
  · rw [List.getElem?_set_ne (by omega)]; exact h i g
  · obtain rfl : i = n := by omega
    rw [List.getElem?_set_self hn]
    rcases hz with ⟨j, h1, rfl⟩ | ⟨h1, rfl⟩
    · exact .inl ⟨j, h1, rfl⟩
    · exact .inr ⟨h1, rfl⟩
theorem parents_any (l : List En) (v : Value) (w : World) (ht : TabE l) (hr : RdE w v l) (hf : FitE l) :
    Calls Try.prog 123 #[v] w fun e w' => ∃ m : List Int, e = .returned (.slice (some ⟨w.heap.size, 0, none⟩) l.length l.length) ∧ w'.heap[w.heap.size]? = some (.cells (intV m).toArray 3 (0, 0)) ∧ m.length = l.length ∧ ParL (blE l) m l.length ∧ Below w.heap.size w w' := by
  have hlen := ht.len
  obtain ⟨ad, cap, rfl, hc⟩ := hr
  have HR := Lib.hid hc
  have HF := Lib.hid hf
  have HT := Lib.hid ht
  obtain ⟨L, hL⟩ : ∃ L, l.length = L := ⟨_, rfl⟩
  rw [hL] at hlen ⊢
  have HL := Lib.hid hL
  have hmk := make_ints L hlen
  have HB0 : Hid (Below w.heap.size w (w.alloc (.cells (intV (List.replicate L 0)).toArray 3)) ∧ (w.alloc (.cells (intV (List.replicate L 0)).toArray 3)).heap[w.heap.size]? = some (.cells (intV (List.replicate L 0)).toArray 3 (0, 0))) := ⟨below_alloc _ _, heap_alloc_new _ _⟩
  clear hc hf hL ht
  go_enter Try.func123, Try.ntmps123
  go_wp2_with fail
  clear hmk
  go_loopg [4, 5, 6, 12] L (fun g s4 s5 s6 s12 wr => ∃ (k : Nat) (m : List Int), (∃ u, u = s4) ∧ (∃ u, u = s5) ∧ (∃ u, u = s6) ∧ s12 = .int .i64 (k : Int) ∧ k ≤ L ∧ L - k ≤ g ∧ m.length = L ∧ Hid (Below w.heap.size w wr ∧ wr.heap[w.heap.size]? = some (.cells (intV m).toArray 3 (0, 0)) ∧ ParL (blE l) m k))
  case atStart => exact ⟨0, List.replicate L 0, ⟨_, rfl⟩, ⟨_, rfl⟩, ⟨_, rfl⟩, rfl, by omega, by omega, by simp, HB0.out.1, HB0.out.2, fun i hi => by omega⟩
  case round =>
    clear HB0
    obtain ⟨k, m, ⟨u4, rfl⟩, ⟨u5, rfl⟩, ⟨u6, rfl⟩, rfl, hk, hg, hml, HS⟩ := hrel
    by_cases hlt : k < L
    · obtain ⟨e, he⟩ : ∃ x, l[k]? = some x := ⟨_, List.getElem?_eq_getElem (by have := HL.out; omega)⟩
      obtain ⟨b, off, rfl, hbl, c0, c1, c2⟩ := HR.out k e he
      have d0 := carryE HS.out.1 hbl c0
      have d1 := carryE HS.out.1 hbl c1
      have d2 := carryE HS.out.1 hbl c2
      have hfe := HF.out e (List.mem_of_getElem? he)
      have hve := (HT.out.val e (List.mem_of_getElem? he)).1
      have HBL := Lib.hid hbl
      have HE : Hid (l[k]? = some e ∧ V e.1 = true ∧ e.1.1 < 4294967296 ∧ I64 e.1.2) := ⟨he, hve, hfe.1, hfe.2.1⟩
      obtain ⟨⟨x, n⟩, val⟩ := e
      dsimp only at d0 d1 d2
      clear c0 c1 c2 he hfe hve hbl
      have HW1 : Hid (Below wr.heap.size wr (wr.alloc (.cells #[.int .u32 (x : Int), .int .i64 n, .int .i64 val] 51)) ∧ (wr.alloc (.cells #[.int .u32 (x : Int), .int .i64 n, .int .i64 val] 51)).heap[wr.heap.size]? = some (.cells #[.int .u32 (x : Int), .int .i64 n, .int .i64 val] 51 (0, 0))) := ⟨below_alloc _ _, heap_alloc_new _ _⟩
      go_wp2_with fail
      generalize wr.alloc (.cells #[.int .u32 (x : Int), .int .i64 n, .int .i64 val] 51) = w1 at *
      have HS1 : Hid (Below w.heap.size w w1 ∧ w1.heap[w.heap.size]? = some (.cells (intV m).toArray 3 (0, 0)) ∧ ParL (blE l) m k ∧ w1.heap[wr.heap.size]? = some (.cells #[.int .u32 (x : Int), .int .i64 n, .int .i64 val] 51 (0, 0)) ∧ b < w1.heap.size) := ⟨below_then HS.out.1 HW1.out.1, (HW1.out.1.block _ (ltO HS.out.2.1)).trans HS.out.2.1, HS.out.2.2, HW1.out.2, Nat.lt_of_lt_of_le HBL.out (below_then HS.out.1 HW1.out.1).size⟩
      clear d0 d1 d2 HS HW1
      generalize wr.heap.size = bx at *
      go_loopg [6] (k + 1) (fun g6 s6 wr => ∃ jj : Int, s6 = .int .i64 jj ∧ jj < k ∧ -1 ≤ jj ∧ (jj + 1).toNat ≤ g6 ∧ Hid (Below w1.heap.size w1 wr ∧ AG.Srch (blE l) k (jj + 1).toNat))
      case atStart => exact ⟨(k : Int) - 1, by go_num, by omega, by omega, by omega, Below.refl _ _, by rw [show ((k : Int) - 1 + 1).toNat = k by omega]; exact AG.Srch.first k⟩
      case round =>
        obtain ⟨jj, rfl, hj1, hj2, hg6, HI⟩ := hrel
        have HB2 : Hid (Below w.heap.size w wr ∧ wr.heap[w.heap.size]? = some (.cells (intV m).toArray 3 (0, 0)) ∧ wr.heap[bx]? = some (.cells #[.int .u32 (x : Int), .int .i64 n, .int .i64 val] 51 (0, 0))) := ⟨below_then HS1.out.1 HI.out.1, (HI.out.1.block _ (ltO HS1.out.2.1)).trans HS1.out.2.1, (HI.out.1.block _ (ltO HS1.out.2.2.2.1)).trans HS1.out.2.2.2.1⟩
        by_cases hneg : jj = -1
        · subst hneg
          have HN : Hid (AG.NoPar (blE l) k) := HI.out.2.none
          have HF2 : Hid (∀ q, Below w.heap.size w ((wr.drewN q).setCell ⟨w.heap.size, k, none⟩ (.int .i64 (-1))) ∧ ((wr.drewN q).setCell ⟨w.heap.size, k, none⟩ (.int .i64 (-1))).heap[w.heap.size]? = some (.cells (intV (m.set k (-1))).toArray 3 (0, 0)) ∧ ParL (blE l) (m.set k (-1)) (k + 1)) := fun q =>
            ⟨(below_drewN HB2.out.1 q).setCell (Nat.le_refl _) _, by rw [heap_set_eq (show (wr.drewN q).heap[w.heap.size]? = _ from HB2.out.2.1), intV_set], HS1.out.2.2.1.set (by omega) (.inr ⟨HN.out, rfl⟩)⟩
          have hfz : wr.frozen? ⟨w.heap.size, k, none⟩ = false := freeO HB2.out.2.1 _
          have hcz : wr.cell? ⟨w.heap.size, k, none⟩ = some (.int .i64 (m[k]'(by omega))) := cellO HB2.out.2.1 (intV_get (List.getElem?_eq_getElem _))
          have hms : (m.set k (-1)).length = L := by rw [List.length_set]; exact hml
          generalize m[k]'(by omega) = mk at hcz
          go_wp2_with fail
          refine wp_region_held_drew (S := fun _ => True) (by kernel_rfl) trivial (fun hS0 => ?_)
          refine wpAnyH_take (i := 0) (oi := ⟨some 19, _, _, _, _, _⟩) (v := .int .i64 (-1)) rfl (by kernel_rfl) (by kernel_rfl) (by kernel_rfl) (fun _ _ _ h => h) (Or.inl ⟨by rfl, by intro w' hw'; go_simp⟩) hS0 ?_
          simp only [Act.put, List.setIfInBounds_toArray, List.set_cons_zero, List.set_cons_succ]
          refine wpAnyH_take (i := 1) (oi := ⟨some 20, _, _, _, _, _⟩) (v := .bool false) rfl (by kernel_rfl) (by kernel_rfl) (by kernel_rfl) (fun _ _ _ h => h) (Or.inl ⟨by rfl, by intro w' hw'; go_simp⟩) hS0 ?_
          simp only [Act.put, List.setIfInBounds_toArray, List.set_cons_zero, List.set_cons_succ]
          refine wpAnyH_take (i := 2) (oi := ⟨some 21, _, _, _, _, _⟩) (v := .bool false) rfl (by kernel_rfl) (by kernel_rfl) (by kernel_rfl) (fun _ _ _ h => h) (Or.inl ⟨by rfl, by intro w' hw'; go_simp⟩) hS0 ?_
          simp only [Act.put, List.setIfInBounds_toArray, List.set_cons_zero, List.set_cons_succ]
          refine wpAnyH_take (i := 3) (oi := ⟨some 22, _, _, _, _, _⟩) (v := undef) rfl (by kernel_rfl) (by kernel_rfl) (by kernel_rfl) (fun _ _ _ h => h) (Or.inr ⟨by rfl, rfl⟩) hS0 ?_
          (try simp only [Act.put, List.setIfInBounds_toArray, List.set_cons_zero, List.set_cons_succ])
          refine wpAnyH_take (i := 4) (oi := ⟨some 23, _, _, _, _, _⟩) (v := undef) rfl (by kernel_rfl) (by kernel_rfl) (by kernel_rfl) (fun _ _ _ h => h) (Or.inr ⟨by rfl, rfl⟩) hS0 ?_
          (try simp only [Act.put, List.setIfInBounds_toArray, List.set_cons_zero, List.set_cons_succ])
          refine wpAnyH_take (i := 5) (oi := ⟨some 24, _, _, _, _, _⟩) (v := undef) rfl (by kernel_rfl) (by kernel_rfl) (by kernel_rfl) (fun _ _ _ h => h) (Or.inr ⟨by rfl, rfl⟩) hS0 ?_
          (try simp only [Act.put, List.setIfInBounds_toArray, List.set_cons_zero, List.set_cons_succ])
          refine wpAnyH_take (i := 6) (oi := ⟨some 25, _, _, _, _, _⟩) (v := undef) rfl (by kernel_rfl) (by kernel_rfl) (by kernel_rfl) (fun _ _ _ h => h) (Or.inr ⟨by rfl, rfl⟩) hS0 ?_
          (try simp only [Act.put, List.setIfInBounds_toArray, List.set_cons_zero, List.set_cons_succ])
          refine wpAnyH_take (i := 7) (oi := ⟨some 26, _, _, _, _, _⟩) (v := undef) rfl (by kernel_rfl) (by kernel_rfl) (by kernel_rfl) (fun _ _ _ h => h) (Or.inr ⟨by rfl, rfl⟩) hS0 ?_
          (try simp only [Act.put, List.setIfInBounds_toArray, List.set_cons_zero, List.set_cons_succ])
          refine wpAnyH_take (i := 8) (oi := ⟨some 27, _, _, _, _, _⟩) (v := undef) rfl (by kernel_rfl) (by kernel_rfl) (by kernel_rfl) (fun _ _ _ h => h) (Or.inr ⟨by rfl, rfl⟩) hS0 ?_
          (try simp only [Act.put, List.setIfInBounds_toArray, List.set_cons_zero, List.set_cons_succ])
          refine wpAnyH_take (i := 9) (oi := ⟨some 28, _, _, _, _, _⟩) (v := undef) rfl (by kernel_rfl) (by kernel_rfl) (by kernel_rfl) (fun _ _ _ h => h) (Or.inr ⟨by rfl, rfl⟩) hS0 ?_
          (try simp only [Act.put, List.setIfInBounds_toArray, List.set_cons_zero, List.set_cons_succ])
          refine wpAnyH_take (i := 10) (oi := ⟨some 29, _, _, _, _, _⟩) (v := undef) rfl (by kernel_rfl) (by kernel_rfl) (by kernel_rfl) (fun _ _ _ h => h) (Or.inr ⟨by rfl, rfl⟩) hS0 ?_
          (try simp only [Act.put, List.setIfInBounds_toArray, List.set_cons_zero, List.set_cons_succ])
          refine wpAnyH_take (i := 11) (oi := ⟨some 30, _, _, _, _, _⟩) (v := undef) rfl (by kernel_rfl) (by kernel_rfl) (by kernel_rfl) (fun _ _ _ h => h) (Or.inr ⟨by rfl, rfl⟩) hS0 ?_
          (try simp only [Act.put, List.setIfInBounds_toArray, List.set_cons_zero, List.set_cons_succ])
          refine wpAnyH_take (i := 12) (oi := ⟨some 31, _, _, _, _, _⟩) (v := .bool false) rfl (by kernel_rfl) (by kernel_rfl) (by kernel_rfl) (fun _ _ _ h => h) (Or.inl ⟨by rfl, by intro w' hw'; go_simp⟩) hS0 ?_
          simp only [Act.put, List.setIfInBounds_toArray, List.set_cons_zero, List.set_cons_succ]
          refine wpAnyH_done (by kernel_rfl) ?_ _
          go_wp2_with fail
          go_roundg (L - (k + 1))
          case measure => omega
          case rel => exact ⟨k + 1, m.set k (-1), ⟨_, rfl⟩, ⟨_, rfl⟩, ⟨_, rfl⟩, by go_num, by omega, Nat.le_refl _, hms, HF2.out 1⟩
        · obtain ⟨j, rfl⟩ : ∃ j : Nat, jj = (j : Int) := ⟨jj.toNat, by omega⟩
          have hjk : j < k := by omega
          have HSR : Hid (AG.Srch (blE l) k (j + 1)) := by have := HI.out.2; rwa [show ((j : Int) + 1).toNat = j + 1 by omega] at this
          obtain ⟨f, hfj⟩ : ∃ x, l[j]? = some x := ⟨_, List.getElem?_eq_getElem (by have := HL.out; omega)⟩
          obtain ⟨b', off', hbb, _, c0, c1, c2⟩ := HR.out j f hfj
          cases hbb
          have hbw : b < w.heap.size := HBL.out
          have p0 := carryE HB2.out.1 hbw c0
          have p1 := carryE HB2.out.1 hbw c1
          have e0 : wr.cell? ⟨bx, 0, none⟩ = some (.int .u32 (x : Int)) := cellO HB2.out.2.2 rfl
          have e1 : wr.cell? ⟨bx, 1, none⟩ = some (.int .i64 n) := cellO HB2.out.2.2 rfl
          have hff := HF.out f (List.mem_of_getElem? hfj)
          have hvf := (HT.out.val f (List.mem_of_getElem? hfj)).1
          have HCV : Hid (∀ W, Calls Try.prog 137 #[.agg #[.int .u32 (f.1.1 : Int), .int .i64 f.1.2], .agg #[.int .u32 (x : Int), .int .i64 n]] W fun en w' => en = .returned (.bool (cov f.1.1 f.1.2 x n)) ∧ Below W.heap.size W w') := fun W => covers_any f.1.1 hff.1 f.1.2 hff.2.1 x HE.out.2.2.1 n HE.out.2.2.2 W
          have HIFF : Hid (cov f.1.1 f.1.2 x n = true ↔ ∃ y z, (blE l)[j]? = some y ∧ (blE l)[k]? = some z ∧ AG.cv y z) := by
            refine (cov_cv (p := f.1) (q := (x, n)) hvf HE.out.2.1).trans ⟨fun h => ⟨_, _, blE_some hfj, blE_some HE.out.1, h⟩, ?_⟩
            rintro ⟨y, z, hy, hz, h⟩
            rw [blE_some hfj] at hy
            rw [blE_some HE.out.1] at hz
            cases hy; cases hz; exact h
          obtain ⟨⟨fx, fn⟩, fval⟩ := f
          dsimp only at p0 p1 HCV HIFF
          have i0 : (0 : Int) ≤ (j : Int) := by omega
          have i1 : (j : Int) < (L : Int) := by omega
          have hz0 : w.heap.size < wr.heap.size := ltO HB2.out.2.1
          clear c0 c1 c2 hfj hff hvf hneg
          cases hcv : cov fx fn x n
          all_goals
            rw [hcv] at HCV HIFF
            clear hcv
            go_wp2_with fail
            go_region_held3 (fun w' => w'.cell? ⟨bx, 0, none⟩ = some (.int .u32 (x : Int)) ∧ w'.cell? ⟨bx, 1, none⟩ = some (.int .i64 n) ∧ w'.cell? ⟨b, off + j * 3, none⟩ = some (.int .u32 (fx : Int)) ∧ w'.cell? ⟨b, off + j * 3 + 1, none⟩ = some (.int .i64 fn))
              (first | exact ⟨e0, e1, p0, p1⟩ | assumption)
              (first | (go_at_call 137; refine (HCV.out _).mono ?_; rintro en w3 ⟨rfl, hb⟩; have HB3 : Hid (Below wr.heap.size wr w3) := ⟨hb.os, hb.tape, hb.output, hb.size, hb.block⟩; have hk := (And.intro (carry HB3.out e0) (And.intro (carry HB3.out e1) (And.intro (carry HB3.out p0) (carry HB3.out p1)))); clear hb))
          · have HNC : Hid (¬ ∃ y z, (blE l)[j]? = some y ∧ (blE l)[k]? = some z ∧ AG.cv y z) := fun h => by have := HIFF.out.2 h; cases this
            have hmj : m[j]? = some (m[j]'(by omega)) := List.getElem?_eq_getElem _
            have hcj : w3.cell? ⟨w.heap.size, j, none⟩ = some (.int .i64 (m[j]'(by omega))) := cellO ((HB3.out.block _ hz0).trans HB2.out.2.1) (intV_get hmj)
            have HX : Hid ((m[j]'(by omega)) < k ∧ -1 ≤ (m[j]'(by omega)) ∧ ((m[j]'(by omega)) + 1).toNat ≤ j ∧ AG.Srch (blE l) k ((m[j]'(by omega)) + 1).toNat) := by
              have hkl : k < (blE l).length := by rw [blE_len]; have := HL.out; omega
              rcases HS1.out.2.2.1 j hjk with ⟨p, hp, hmp⟩ | ⟨hp, hmp⟩
              · rw [hmj] at hmp
                have hpe := Option.some.inj hmp
                have hplt := hp.lt
                rw [hpe]
                refine ⟨by omega, by omega, by omega, ?_⟩
                rw [show ((p : Int) + 1).toNat = p + 1 by omega]
                exact HSR.out.go HT.out.ascB hjk hkl HNC.out hp
              · rw [hmj] at hmp
                have hpe := Option.some.inj hmp
                rw [hpe]
                refine ⟨by omega, by omega, by omega, ?_⟩
                have hno := HSR.out.stop HT.out.ascB hjk hkl HNC.out hp
                exact fun q y z _ h2 hy hz => hno q y z h2 hy hz
            generalize m[j]'(by omega) = mj at hcj HX
            clear hk e0 e1 p0 p1 HCV hmj
            have HB4 : Hid (Below w1.heap.size w1 w3) := below_then HI.out.1 HB3.out
            go_wp2_with fail
            go_roundg j
            case measure => omega
            case rel => exact ⟨mj, rfl, HX.out.1, HX.out.2.1, HX.out.2.2.1, HB4.out, HX.out.2.2.2⟩
          · have HP : Hid (AG.Par (blE l) k j) := HSR.out.found hjk (HIFF.out.1 (by trivial))
            have hw3 : w3.heap[w.heap.size]? = some (.cells (intV m).toArray 3 (0, 0)) := (HB3.out.block _ hz0).trans HB2.out.2.1
            have hfz : w3.frozen? ⟨w.heap.size, k, none⟩ = false := freeO hw3 _
            have hcz : w3.cell? ⟨w.heap.size, k, none⟩ = some (.int .i64 (m[k]'(by omega))) := cellO hw3 (intV_get (List.getElem?_eq_getElem _))
            have HF2 : Hid (Below w.heap.size w (w3.setCell ⟨w.heap.size, k, none⟩ (.int .i64 (j : Int))) ∧ (w3.setCell ⟨w.heap.size, k, none⟩ (.int .i64 (j : Int))).heap[w.heap.size]? = some (.cells (intV (m.set k (j : Int))).toArray 3 (0, 0)) ∧ ParL (blE l) (m.set k (j : Int)) (k + 1)) :=
              ⟨(below_then HB2.out.1 HB3.out).setCell (Nat.le_refl _) _, by rw [heap_set_eq hw3, intV_set], HS1.out.2.2.1.set (by omega) (.inl ⟨j, HP.out, rfl⟩)⟩
            have hms : (m.set k (j : Int)).length = L := by rw [List.length_set]; exact hml
            generalize m[k]'(by omega) = mk at hcz
            clear hk e0 e1 p0 p1 HCV hw3
            go_wp2_with fail
            go_roundg (L - (k + 1))
            case measure => omega
            case rel => exact ⟨k + 1, m.set k (j : Int), ⟨_, rfl⟩, ⟨_, rfl⟩, ⟨_, rfl⟩, by go_num, by omega, Nat.le_refl _, hms, HF2.out⟩
    · have k1 : decide ((k : Int) < (L : Int)) = false := decide_eq_false (by omega)
      have hkl : k = L := by omega
      subst hkl
      go_wp2
      go_ret
      exact ⟨m, rfl, HS.out.2.1, hml, HS.out.2.2, HS.out.1⟩
end Go.Proofs.Ytegponbmelgngaa
end

section
namespace Go.Proofs.Ytegponbmelgngaa
open Go.RowKit
set_option linter.unusedSimpArgs false
set_option linter.unusedVariables false
set_option maxHeartbeats 1500000
set_option maxRecDepth 100000

theorem pow32_le {n : Nat} (h : n ≤ 32) : 2 ^ n ≤ 4294967296 := by
  have := CM.pow_le' h
  exact this
theorem size124_any (p : PP) (w : World) (hp : V p = true) (ha : p.1 < 4294967296) :
    Calls Try.prog 124 #[.agg #[.int .u32 (p.1 : Int), .int .i64 p.2]] w fun e w' => e = .returned (.int .u64 ((2 ^ (blk p).2 : Nat) : Int)) ∧ Below w.heap.size w w' := by
  obtain ⟨a, n⟩ := p
  have iv := (V_iff _).1 hp
  have h0 : 0 ≤ n := iv.1
  have h1 : n ≤ 32 := iv.2.1
  obtain ⟨m, rfl⟩ := Int.eq_ofNat_of_zero_le h0
  have HE : Hid ((blk (a, (m : Int))).2 = 32 - m) := by show _ = _; unfold blk; dsimp only; rw [Int.toNat_natCast]
  obtain ⟨Q, hQ⟩ : ∃ Q, Q = 2 ^ (32 - m) := ⟨_, rfl⟩
  have hQ2 : ((2 : Int) ^ (32 - m)) = (Q : Int) := by rw [hQ]; simp
  have hQl : Q ≤ 4294967296 := by rw [hQ]; exact pow32_le (by omega)
  have hQw : IntKind.u64.wrap (Q : Int) = (Q : Int) := IntWalk.u64_in _ (by constructor <;> omega)
  have wt2 : IntKind.i64.wrap (32 - (m : Int)) = 32 - (m : Int) := IntWalk.i64_in _ (by constructor <;> omega)
  have HQ : Hid (2 ^ (blk (a, (m : Int))).2 = Q) := by show _ = _; rw [HE.out, hQ]
  have HB : Hid (Below w.heap.size w (w.alloc (.cells #[.int .u32 (a : Int), .int .i64 (m : Int)] 28))) := below_alloc _ _
  have hm : m ≤ 32 := by omega
  clear hQ hp iv ha
  go_enter Try.func124, Try.ntmps124
  go_wp2
  go_ret
  exact ⟨by rw [HQ.out]; rfl, HB.out⟩
/-- of the first n entries those that have another value than the one above -/
noncomputable def effE (l : List En) : Nat → List En
  | 0 => []
  | n + 1 => effE l n ++ (match l[n]? with
    | some e => if e.2 = AG.abv (l.map toBe) n then [] else [e]
    | none => [])
theorem effE_be (l : List En) : ∀ n, (effE l n).map toBe = AG.eff (l.map toBe) n
  | 0 => rfl
  | n + 1 => by
    show (effE l n ++ _).map toBe = AG.eff (l.map toBe) n ++ _
    rw [List.map_append, effE_be l n, List.getElem?_map]
    congr 1
    cases l[n]? with
    | none => rfl
    | some e =>
      show List.map toBe (if e.2 = _ then [] else [e]) = if (toBe e).2 = _ then [] else [toBe e]
      split
      · rename_i h; rw [if_pos (show (toBe e).2 = _ from h)]; rfl
      · rename_i h; rw [if_neg (show ¬ (toBe e).2 = _ from h)]; rfl
theorem effE_keep {l : List En} {n : Nat} {e : En} (he : l[n]? = some e) (h : e.2 ≠ AG.abv (l.map toBe) n) : effE l (n + 1) = effE l n ++ [e] := by
  show effE l n ++ _ = _
  rw [he]; simp [h]
theorem effE_drop {l : List En} {n : Nat} {e : En} (he : l[n]? = some e) (h : e.2 = AG.abv (l.map toBe) n) : effE l (n + 1) = effE l n := by
  show effE l n ++ _ = _
  rw [he]; simp [h]
theorem effE_len (l : List En) : ∀ n, (effE l n).length ≤ n
  | 0 => Nat.le_refl _
  | n + 1 => by
    have ih := effE_len l n
    show (effE l n ++ _).length ≤ _
    rw [List.length_append]
    cases l[n]? with
    | none => simp; omega
    | some e => dsimp only; split <;> simp <;> omega
theorem effective_own (l : List En) (v : Value) (w : World) (ht : TabE l) (hr : RdE w v l) (hf : FitE l) :
    Calls Try.prog 91 #[v] w fun e w' => ∃ v' B, e = .returned v' ∧ w'.ownsRow B 51 3 v' (effE l l.length).length (flatE (effE l l.length)) ∧ Below w.heap.size w w' := by
  obtain ⟨i0, hi, hz0, hz1, hz2⟩ := info_parts info51
  have hlen := ht.len
  have HPA := Lib.hid (parents_any l v w ht hr hf)
  obtain ⟨ad, cap, rfl, hc⟩ := hr
  have HR := Lib.hid hc
  obtain ⟨L, hL⟩ : ∃ L, l.length = L := ⟨_, rfl⟩
  rw [hL] at hlen HPA ⊢
  have HL := Lib.hid hL
  have HEL := Lib.hid (effE_len l)
  clear hc hf hL ht
  go_enter Try.func91, Try.ntmps91
  go_wp2_with (go_at_call 123; refine HPA.out.mono ?_; rintro en w1 ⟨m, rfl, hrow, hml, hpl, hb⟩; have HP1 : Hid (w1.heap[w.heap.size]? = some (.cells (intV m).toArray 3 (0, 0)) ∧ ParL (blE l) m L ∧ Below w.heap.size w w1) := ⟨hrow, hpl, hb⟩; clear hrow hpl hb)
  go_loopg [3, 4, 5, 6, 10] L (fun g s3 s4 s5 s6 s10 wr => ∃ (k : Nat) (v : Value) (o : List En), v = s3 ∧ (∃ u, u = s4) ∧ (∃ u, u = s5) ∧ (∃ u, u = s6) ∧ s10 = .int .i64 (k : Int) ∧ k ≤ L ∧ L - k ≤ g ∧ o.length ≤ k ∧ Hid (o = effE l k) ∧ Hid (Below w1.heap.size w1 wr ∧ wr.ownsRow w1.heap.size 51 3 v o.length (flatE o)))
  case atStart => exact ⟨0, _, [], rfl, ⟨_, rfl⟩, ⟨_, rfl⟩, ⟨_, rfl⟩, rfl, by omega, by omega, Nat.le_refl _, rfl, Below.refl _ _, World.ownsRow_nil _ _ _ _⟩
  case round =>
    obtain ⟨k, v, o, rfl, ⟨u4, rfl⟩, ⟨u5, rfl⟩, ⟨u6, rfl⟩, rfl, hk, hg, hok, HO, HS⟩ := hrel
    have hB : Hid (Below w.heap.size w wr) := below_then HP1.out.2.2 HS.out.1
    by_cases hlt : k < L
    · obtain ⟨e, he⟩ : ∃ x, l[k]? = some x := ⟨_, List.getElem?_eq_getElem (by have := HL.out; omega)⟩
      obtain ⟨b, off, rfl, hbl, c0, c1, c2⟩ := HR.out k e he
      have d0 := carryE hB.out hbl c0
      have d1 := carryE hB.out hbl c1
      have d2 := carryE hB.out hbl c2
      have hrow : wr.heap[w.heap.size]? = some (.cells (intV m).toArray 3 (0, 0)) := (HS.out.1.block _ (ltO HP1.out.1)).trans HP1.out.1
      -- the value above
      obtain ⟨jj, hmk, hpar⟩ : ∃ jj : Int, m[k]? = some jj ∧ ((∃ j f, jj = ((j : Nat) : Int) ∧ j < k ∧ l[j]? = some f ∧ AG.abv (l.map toBe) k = f.2) ∨ (jj = -1 ∧ AG.abv (l.map toBe) k = -1)) := by
        rcases HP1.out.2.1 k hlt with ⟨j, hp, hm⟩ | ⟨hp, hm⟩
        · obtain ⟨f, hfj⟩ : ∃ x, l[j]? = some x := ⟨_, List.getElem?_eq_getElem (by have := hp.lt; have := HL.out; omega)⟩
          refine ⟨j, hm, .inl ⟨j, f, rfl, hp.lt, hfj, ?_⟩⟩
          rw [blE_bls] at hp
          exact AG.abv_par hp (e := toBe f) (by rw [List.getElem?_map, hfj]; rfl)
        · refine ⟨-1, hm, .inr ⟨rfl, ?_⟩⟩
          rw [blE_bls] at hp
          exact AG.abv_none hp
      have dm := cellO hrow (intV_get hmk)
      have HK := Lib.hid (effE_keep he)
      have HD := Lib.hid (effE_drop he)
      have i0' : (0 : Int) ≤ (k : Int) := by omega
      have i1' : (k : Int) < (L : Int) := by omega
      obtain ⟨ab, hab⟩ : ∃ ab, ab = AG.abv (l.map toBe) k := ⟨_, rfl⟩
      rw [← hab] at HK HD hpar
      obtain ⟨⟨x, n⟩, val⟩ := e
      dsimp only at d0 d1 d2 HK HD
      have hws := HS.out.1.size
      clear c0 c1 c2 he hrow hmk hab
      rcases hpar with ⟨j, f, rfl, hjk, hfj, rfl⟩ | ⟨rfl, rfl⟩
      · obtain ⟨b', off', hbb, _, q0, q1, q2⟩ := HR.out j f hfj
        cases hbb
        have p2 := carryE hB.out hbl q2
        have j0 : (0 : Int) ≤ (j : Int) := by omega
        have j1 : (j : Int) < (L : Int) := by omega
        obtain ⟨f0, fval⟩ := f
        dsimp only at p2 HK HD
        clear q0 q1 q2 hfj hbl
        by_cases hv : val = fval
        · have HO2 : Hid (o = effE l (k + 1)) := HO.out.trans (HD.out hv).symm
          have e1 : (val == fval) = true := by simpa using hv
          have e2 : (val != fval) = false := by simpa using hv
          clear hv HK HD
          go_wp2_with fail
          go_roundg (L - (k + 1))
          case measure => omega
          case rel => exact ⟨k + 1, v, o, rfl, ⟨_, rfl⟩, ⟨_, rfl⟩, ⟨_, rfl⟩, by go_num, by omega, Nat.le_refl _, by omega, HO2, HS⟩
        · have HO2 : Hid (o ++ [((x, n), val)] = effE l (k + 1)) := (congrArg (· ++ [((x, n), val)]) HO.out).trans (HK.out hv).symm
          have e1 : (val == fval) = false := by simpa using hv
          have e2 : (val != fval) = true := by simpa using hv
          clear hv HK HD
          go_wp2_with (at_builtin; refine wpList_append_own _ rfl (.tmp 29) (.tmp 34) 56 rfl w1.heap.size 51 i0 (.agg #[.int .u32 0, .int .i64 0, .int .i64 0]) 3 24 Try.underlying56 hi hz0 hz1 hz2 rfl (by decide) v o.length (flatE o) rfl (own_below HS.out.2 (below_alloc _ _)) ⟨wr.heap.size, 0, none⟩ 1 1 [.int .u32 (x : Int), .int .i64 n, .int .i64 val] rfl rfl (cell_three_at _ _ _ _ _ rfl) (one_three _ _ _) (by unfold maxLen; omega) (by omega) (by simp; omega) ?_; intro v1 w4 hown hgrow hnil; have S2 : Hid (Below w1.heap.size w1 w4 ∧ w4.ownsRow w1.heap.size 51 3 v1 (o ++ [((x, n), val)]).length (flatE (o ++ [((x, n), val)]))) := ⟨(HS.out.1.alloc hws _).grown hgrow (by simp; omega) (fun q hq => (own_lt HS.out.2 hq).1), by rw [flatE_snoc, List.length_append]; exact hown⟩; clear hown hgrow hnil)
          go_roundg (L - (k + 1))
          case measure => omega
          case rel => exact ⟨k + 1, _, _, rfl, ⟨_, rfl⟩, ⟨_, rfl⟩, ⟨_, rfl⟩, by go_num, by omega, Nat.le_refl _, by simp; omega, HO2, S2⟩
      · clear hbl
        by_cases hv : val = -1
        · have HO2 : Hid (o = effE l (k + 1)) := HO.out.trans (HD.out hv).symm
          have e1 : (val == -1) = true := by simpa using hv
          have e2 : (val != -1) = false := by simpa using hv
          clear hv HK HD
          go_wp2_with fail
          go_roundg (L - (k + 1))
          case measure => omega
          case rel => exact ⟨k + 1, v, o, rfl, ⟨_, rfl⟩, ⟨_, rfl⟩, ⟨_, rfl⟩, by go_num, by omega, Nat.le_refl _, by omega, HO2, HS⟩
        · have HO2 : Hid (o ++ [((x, n), val)] = effE l (k + 1)) := (congrArg (· ++ [((x, n), val)]) HO.out).trans (HK.out hv).symm
          have e1 : (val == -1) = false := by simpa using hv
          have e2 : (val != -1) = true := by simpa using hv
          clear hv HK HD
          go_wp2_with (at_builtin; refine wpList_append_own _ rfl (.tmp 29) (.tmp 34) 56 rfl w1.heap.size 51 i0 (.agg #[.int .u32 0, .int .i64 0, .int .i64 0]) 3 24 Try.underlying56 hi hz0 hz1 hz2 rfl (by decide) v o.length (flatE o) rfl (own_below HS.out.2 (below_alloc _ _)) ⟨wr.heap.size, 0, none⟩ 1 1 [.int .u32 (x : Int), .int .i64 n, .int .i64 val] rfl rfl (cell_three_at _ _ _ _ _ rfl) (one_three _ _ _) (by unfold maxLen; omega) (by omega) (by simp; omega) ?_; intro v1 w4 hown hgrow hnil; have S2 : Hid (Below w1.heap.size w1 w4 ∧ w4.ownsRow w1.heap.size 51 3 v1 (o ++ [((x, n), val)]).length (flatE (o ++ [((x, n), val)]))) := ⟨(HS.out.1.alloc hws _).grown hgrow (by simp; omega) (fun q hq => (own_lt HS.out.2 hq).1), by rw [flatE_snoc, List.length_append]; exact hown⟩; clear hown hgrow hnil)
          go_roundg (L - (k + 1))
          case measure => omega
          case rel => exact ⟨k + 1, _, _, rfl, ⟨_, rfl⟩, ⟨_, rfl⟩, ⟨_, rfl⟩, by go_num, by omega, Nat.le_refl _, by simp; omega, HO2, S2⟩
    · have k1 : decide ((k : Int) < (L : Int)) = false := decide_eq_false (by omega)
      have HE : Hid (o = effE l L) := by show _ = _; rw [HO.out, show k = L by omega]
      go_wp2
      go_ret
      exact ⟨_, _, rfl, HE.out ▸ HS.out.2, hB.out⟩
theorem effective_any (l : List En) (v : Value) (w : World) (ht : TabE l) (hr : RdE w v l) (hf : FitE l) :
    Calls Try.prog 91 #[v] w fun e w' => ∃ v', e = .returned v' ∧ RdE w' v' (effE l l.length) ∧ Below w.heap.size w w' :=
  (effective_own l v w ht hr hf).mono fun e w' ⟨v', B, he, h, hb⟩ => ⟨v', he, rdE_own h, hb⟩
end Go.Proofs.Ytegponbmelgngaa
end
