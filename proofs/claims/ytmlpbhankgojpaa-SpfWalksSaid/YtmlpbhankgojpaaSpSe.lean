/-
  The walk of search.
-/
import Derived.Test.YtmlpbhankgojpaaSpSS
import Derived.WalkMore
import Derived.Test.YtmlpbhankgojpaaSpIn
import Derived.Deep.LoopGhost
namespace Go.Proofs.Ytmlpbhankgojpaa
open Go.RowKit HM GM SP
set_option linter.unusedSimpArgs false
set_option linter.unusedVariables false
set_option maxHeartbeats 4000000
set_option maxRecDepth 100000

def SeQ (R N : Int) (l : List E) (x n : Nat) (w : World) (e : Ending) (w' : World) : Prop := ∃ D H P dist hv pv hops pars, e = .returned (treeV (x : Int) D H P n) ∧ TR w' D H P n dist hv pv hops pars ∧ Tree R N l (x : Int) n dist hops pars ∧ (∀ g ∈ trB D H P hv pv, w.heap.size ≤ g) ∧ Below w.heap.size w w'
def ogr (R N : Int) (s : Value) : Obj := .cells #[.int .i64 R, .int .i64 N, s] 24
def oroot (x : Nat) : Obj := .cells #[.int .i64 (x : Int)] 3
def otree (x D H P n : Nat) : Obj := .cells #[.int .i64 (x : Int), .slice (some ⟨D, 0, none⟩) n n, .slice (some ⟨H, 0, none⟩) n n, .slice (some ⟨P, 0, none⟩) n n] 28
theorem trB_nil {D H P n m g : Nat} (h : g ∈ trB D H P (List.replicate n (.slice none 0 0)) (List.replicate m (.slice none 0 0))) : g = D ∨ g = H ∨ g = P := by
  have bN : ∀ n g, g ∉ rblk (List.replicate n (Value.slice none 0 0)) := fun n g hg => by
    obtain ⟨v, _, h2⟩ := mem_rblk.1 hg
    have e : gVl (List.replicate n (Value.slice none 0 0)) v = .slice none 0 0 := by unfold gVl; rw [List.getElem?_replicate]; split <;> rfl
    rw [e] at h2; cases h2
  simp only [trB, List.mem_cons, List.mem_append] at h
  rcases h with h | h | h | h | h
  · exact .inl h
  · exact .inr (.inl h)
  · exact .inr (.inr h)
  · exact absurd h (bN _ _)
  · exact absurd h (bN _ _)
/-- the blocks that no step changes: the graph's box, the root's, the result's, the tree's, the row of edges -/
def csS (R N : Int) (ad : Option Addr) (L cap x D H P n g0 tb EB : Nat) (cE : Array Value) : List (Nat × Obj) := [(g0, ogr R N (.slice ad L cap)), (g0 + 1, oroot x), (g0 + 1 + 1, box0), (tb, otree x D H P n), (EB, .cells cE 22)]
theorem search_any (R N : Int) (l : List E) (s : Value) (n x : Nat) (w : World) (hv : Valid R N l) (hr : Rd3 w s l) (hn : (n : Int) = R + N) (hx : (x : Int) < R) :
    Calls Try.prog 28 #[.agg #[.int .i64 R, .int .i64 N, s], .int .i64 (x : Int)] w (SeQ R N l x n w) := by
  obtain ⟨ad, cap, rfl⟩ : ∃ ad cap, s = .slice ad l.length cap := by obtain ⟨ad, cap, rfl, _⟩ := hr; exact ⟨ad, cap, rfl⟩
  obtain ⟨L, hL⟩ : ∃ L, l.length = L := ⟨_, rfl⟩
  rw [hL] at hr ⊢
  have hR := hv.r; have hN := hv.n; have hS := hv.s
  have hxn : x < n := by omega
  have HST : Hid (∀ W, Calls Try.prog 43 #[.agg #[.int .i64 R, .int .i64 N, .slice ad L cap], .int .i64 (x : Int)] W (StQ W (x : Int) x n)) := fun W => start_any R N _ x n W hR hN hS hn hxn
  have HLE : Hid (∀ W, Below w.heap.size w W → Calls Try.prog 46 #[.agg #[.int .i64 R, .int .i64 N, .slice ad L cap]] W (LeaQ n l w W)) := fun W hb => leaving_any R N l _ n w W hv hr (hr.below hb) hn
  have HNW : Hid (∀ W, Calls Try.prog 47 #[.int .i64 (n : Int)] W (NewP (n : Int) W)) := fun W => new_any _ W
  have HV := Lib.hid (And.intro hv (And.intro hn hx))
  have hnb : n ≤ 128 := by omega
  clear hr hv hL hn
  go_enter Try.func28, Try.ntmps28
  go_wp2_with fail
  have o1 : (((w.alloc (ogr R N (.slice ad L cap))).alloc (oroot x)).alloc box0).heap[w.heap.size]? = some (ogr R N (.slice ad L cap)) := heap_up (heap_up (heap_new1 _ _ rfl))
  have o2 : (((w.alloc (ogr R N (.slice ad L cap))).alloc (oroot x)).alloc box0).heap[w.heap.size + 1]? = some (oroot x) := heap_up (heap_new1 _ _ (by simp))
  have o3 : (((w.alloc (ogr R N (.slice ad L cap))).alloc (oroot x)).alloc box0).heap[w.heap.size + 1 + 1]? = some box0 := heap_new1 _ _ (by simp)
  have hbw := below_then (below_then (below_alloc w (ogr R N (.slice ad L cap))) (below_alloc _ (oroot x))) (below_alloc _ box0)
  have hs3 : (((w.alloc (ogr R N (.slice ad L cap))).alloc (oroot x)).alloc box0).heap.size = w.heap.size + 3 := by simp
  change Code.wp Try.prog _ _ _ (((w.alloc (ogr R N (.slice ad L cap))).alloc (oroot x)).alloc box0)
  generalize ((w.alloc (ogr R N (.slice ad L cap))).alloc (oroot x)).alloc box0 = W3 at *
  have c0 : W3.cell? ⟨w.heap.size, 0, none⟩ = some (.int .i64 R) := cell_of o1 rfl
  have c1 : W3.cell? ⟨w.heap.size, 1, none⟩ = some (.int .i64 N) := cell_of o1 rfl
  have c2 : W3.cell? ⟨w.heap.size, 2, none⟩ = some (.slice ad L cap) := cell_of o1 rfl
  have cr : W3.cell? ⟨w.heap.size + 1, 0, none⟩ = some (.int .i64 (x : Int)) := cell_of o2 rfl
  go_wp2_with fail
  go_step3
  go_wp2_with fail
  go_at_call 43
  refine (HST.out _).mono ?_
  rintro e w1 ⟨D, H, P, rfl, ⟨lD, lH, lP⟩, ht, hb1⟩
  have hsz : w.heap.size + 3 ≤ w1.heap.size := by have := hb1.size; omega
  have p1 := (hb1.block _ (lt_block o1)).trans o1
  have p2 := (hb1.block _ (lt_block o2)).trans o2
  have p3 := (hb1.block _ (lt_block o3)).trans o3
  have hbw1 := below_then hbw hb1
  have HT := Lib.hid (And.intro ht (And.intro lD (And.intro lH lP)))
  clear o1 o2 o3 hbw hb1 ht c0 c1 c2 cr lD lH lP
  have c0 : ∀ o, (w1.alloc o).cell? ⟨w.heap.size, 0, none⟩ = some (.int .i64 R) := fun o => carry (below_alloc _ _) (cell_of p1 rfl)
  have c1 : ∀ o, (w1.alloc o).cell? ⟨w.heap.size, 1, none⟩ = some (.int .i64 N) := fun o => carry (below_alloc _ _) (cell_of p1 rfl)
  have c2 : ∀ o, (w1.alloc o).cell? ⟨w.heap.size, 2, none⟩ = some (.slice ad L cap) := fun o => carry (below_alloc _ _) (cell_of p1 rfl)
  unfold treeV
  go_wp2_with fail
  go_at_call 46
  refine (HLE.out _ (below_then hbw1 (below_alloc _ _))).mono ?_
  rintro e w5 ⟨EB, vals, rfl, lEB, oEB, hE, hb5⟩
  simp only [World.alloc, Array.size_push] at lEB
  have hb15 : Below w1.heap.size w1 w5 := below_then (below_alloc _ _) hb5
  have q1 := (hb15.block _ (lt_block p1)).trans p1
  have q2 := (hb15.block _ (lt_block p2)).trans p2
  have q3 := (hb15.block _ (lt_block p3)).trans p3
  have q4 : w5.heap[w1.heap.size]? = some (otree x D H P n) := (hb5.block _ (by simp)).trans (heap_new1 _ _ rfl)
  have hbw5 := below_then hbw1 hb15
  have HT5 := Lib.hid (HT.out.1.below hb15)
  have hs15 := hb15.size
  obtain ⟨cE, oE⟩ : ∃ cE, w5.heap[EB]? = some (.cells cE 22 (0, 0)) := by
    rcases oEB.2 with ⟨h', _⟩ | ⟨g', cap', cur, h', _, hg', _⟩
    · cases h'
    · injection h' with e1; injection e1 with e1; injection e1 with e1; subst e1; exact ⟨cur, hg'⟩
  have HEB : Hid (∀ u, u < n → ∃ v, cE[u]? = some v ∧ Rd3 w v (outs l (u : Int))) := fun u hu => by
    obtain ⟨v, h1, h2⟩ := hE u hu
    refine ⟨v, ?_, h2⟩
    have := oEB.cellAt u (by omega)
    rw [h1] at this
    simpa [World.cell?, oE] using this
  have lE5 := lt_block oE
  have lt5 := lt_block q4
  clear oEB hE hb5 hb15 p1 p2 p3 hbw1 c0 c1 c2
  have d1 : w5.cell? ⟨w1.heap.size, 1, none⟩ = some (.slice (some ⟨D, 0, none⟩) n n) := cell_of q4 rfl
  go_wp2_with fail
  go_at_call 47
  refine (HNW.out _).mono ?_
  rintro e w6 ⟨qb, n', gs, rfl, hn', hq, lq, hb6⟩
  obtain rfl : n = n' := by omega
  have t1 := (hb6.block _ (lt_block q1)).trans q1
  have t2 := (hb6.block _ (lt_block q2)).trans q2
  have t3 := (hb6.block _ (lt_block q3)).trans q3
  have t4 := (hb6.block _ (lt_block q4)).trans q4
  have tE := (hb6.block _ (lt_block oE)).trans oE
  have hbw6 := below_then hbw5 hb6
  have HT6 := Lib.hid (HT5.out.below hb6)
  have hs56 := hb6.size
  have HQ := Lib.hid (And.intro hq lq)
  have dr : w6.cell? ⟨w.heap.size + 1, 0, none⟩ = some (.int .i64 (x : Int)) := cell_of t2 rfl
  clear q1 q2 q3 q4 oE hbw5 HT5 hb6 hq lq hn' d1
  go_wp2_with fail
  have HSS : Hid (SS w w6 (csS R N ad L cap x D H P n w.heap.size w1.heap.size EB cE) D H P qb n ((List.replicate n (-1)).set x 0) (List.replicate n (.slice none 0 0)) (List.replicate n (.slice none 0 0)) (List.replicate n []) (List.replicate n []) (List.replicate n false) (List.replicate n 0) gs) := by
    obtain ⟨hq, lq⟩ := HQ.out
    obtain ⟨_, lD, lH, lP⟩ := HT.out
    have l1 := HT.out.1.lt D (by simp [trB])
    have l2 := HT.out.1.lt H (by simp [trB])
    have l3 := HT.out.1.lt P (by simp [trB])
    have lE := lt_block tE
    have hmem : ∀ g, g ∈ bkS D H P (List.replicate n (.slice none 0 0)) (List.replicate n (.slice none 0 0)) gs → (g = D ∨ g = H ∨ g = P) ∨ w5.heap.size ≤ g := fun g hg => by
      rcases List.mem_append.1 hg with h | h
      · exact .inl (trB_nil h)
      · exact .inr (lq g h)
    refine ⟨HT6.out, hq, fun g hg ht => ?_, fun g hg => ?_, hbw6, fun c hc => ?_⟩
    · have := lq g hg
      rcases trB_nil ht with e | e | e <;> omega
    · rcases hmem g hg with (e | e | e) | e <;> omega
    · simp only [csS, List.mem_cons, List.mem_nil_iff, or_false] at hc
      rcases hc with rfl | rfl | rfl | rfl | rfl
      · exact ⟨t1, fun hm => by rcases hmem _ hm with (e | e | e) | e <;> omega⟩
      · exact ⟨t2, fun hm => by rcases hmem _ hm with (e | e | e) | e <;> omega⟩
      · exact ⟨t3, fun hm => by rcases hmem _ hm with (e | e | e) | e <;> omega⟩
      · exact ⟨t4, fun hm => by rcases hmem _ hm with (e | e | e) | e <;> omega⟩
      · exact ⟨tE, fun hm => by rcases hmem _ hm with (e | e | e) | e <;> omega⟩
  clear lE5 lt5 lEB t1 t2 t3 t4 tE hbw6 HT6 HT hs15 hs56 dr hsz hs3
  go_at_call 48
  refine (set_in w6 qb n _ _ gs HQ.out.1 x 0 hxn).mono ?_
  rintro e w7 ⟨rfl, hp⟩
  obtain ⟨gs7, h7⟩ := HSS.out.put hp
  have HS7 := Lib.hid h7
  clear HSS hp h7 HQ
  go_wp2_with fail
  go_step3
  go_wp2_with fail
  have HOUT : Hid (OutR R N l x n (n + 1) ((List.replicate n (-1)).set x 0) (List.replicate n []) (List.replicate n []) ((List.replicate n false).set x true) ((List.replicate n 0).set x 0)) := OutR.start hxn
  go_loopg [9] (n + 1) (fun g s9 wr => (∃ u, u = s9) ∧ ∃ dist hv pv hops pars ins keys gs, Hid (SS w wr (csS R N ad L cap x D H P n w.heap.size w1.heap.size EB cE) D H P qb n dist hv pv hops pars ins keys gs) ∧ Hid (OutR R N l x n g dist hops pars ins keys))
  case atStart => exact ⟨⟨_, rfl⟩, _, _, _, _, _, _, _, _, HS7, HOUT⟩
  case round =>
    clear HS7 HOUT
    obtain ⟨⟨u9, rfl⟩, dist, hv, pv, hops, pars, ins, keys, gs, HS, HO⟩ := hrel
    by_cases h0 : cntB ins = 0
    · have HM := Lib.hid (pop_none wr qb n ins keys gs HS.out.hq h0)
      have HTR := Lib.hid (OutR.tree HV.out.1 HV.out.2.2 HV.out.2.1 HO.out h0)
      have fT := (HS.out.fx (w1.heap.size, otree x D H P n) (by simp [csS])).1
      have fO := HS.out.fx (w.heap.size + 1 + 1, box0) (by simp [csS])
      have t0 : wr.cell? ⟨w1.heap.size, 0, none⟩ = some (.int .i64 (x : Int)) := cell_of fT rfl
      have t1 : wr.cell? ⟨w1.heap.size, 1, none⟩ = some (.slice (some ⟨D, 0, none⟩) n n) := cell_of fT rfl
      have t2 : wr.cell? ⟨w1.heap.size, 2, none⟩ = some (.slice (some ⟨H, 0, none⟩) n n) := cell_of fT rfl
      have t3 : wr.cell? ⟨w1.heap.size, 3, none⟩ = some (.slice (some ⟨P, 0, none⟩) n n) := cell_of fT rfl
      have r0 : wr.cell? ⟨w.heap.size + 1 + 1, 0, none⟩ = some (.int .i64 0) := cell_of fO.1 rfl
      have r1 : wr.cell? ⟨w.heap.size + 1 + 1, 1, none⟩ = some (.slice none 0 0) := cell_of fO.1 rfl
      have r2 : wr.cell? ⟨w.heap.size + 1 + 1, 2, none⟩ = some (.slice none 0 0) := cell_of fO.1 rfl
      have r3 : wr.cell? ⟨w.heap.size + 1 + 1, 3, none⟩ = some (.slice none 0 0) := cell_of fO.1 rfl
      have rz := free_of fO.1
      have HFO := Lib.hid fO
      clear h0 HO fT fO
      go_wp2_with fail
      go_at_call 49
      refine HM.out.mono ?_
      rintro e w8 ⟨rfl, h8⟩
      subst h8
      go_wp2_with fail
      have HF : Hid (TR ((((wr.setCell ⟨w.heap.size + 1 + 1, 0, none⟩ (.int .i64 (x : Int))).setCell ⟨w.heap.size + 1 + 1, 1, none⟩ (.slice (some ⟨D, 0, none⟩) n n)).setCell ⟨w.heap.size + 1 + 1, 2, none⟩ (.slice (some ⟨H, 0, none⟩) n n)).setCell ⟨w.heap.size + 1 + 1, 3, none⟩ (.slice (some ⟨P, 0, none⟩) n n)) D H P n dist hv pv hops pars ∧ Below w.heap.size w ((((wr.setCell ⟨w.heap.size + 1 + 1, 0, none⟩ (.int .i64 (x : Int))).setCell ⟨w.heap.size + 1 + 1, 1, none⟩ (.slice (some ⟨D, 0, none⟩) n n)).setCell ⟨w.heap.size + 1 + 1, 2, none⟩ (.slice (some ⟨H, 0, none⟩) n n)).setCell ⟨w.heap.size + 1 + 1, 3, none⟩ (.slice (some ⟨P, 0, none⟩) n n)) ∧ ((((wr.setCell ⟨w.heap.size + 1 + 1, 0, none⟩ (.int .i64 (x : Int))).setCell ⟨w.heap.size + 1 + 1, 1, none⟩ (.slice (some ⟨D, 0, none⟩) n n)).setCell ⟨w.heap.size + 1 + 1, 2, none⟩ (.slice (some ⟨H, 0, none⟩) n n)).setCell ⟨w.heap.size + 1 + 1, 3, none⟩ (.slice (some ⟨P, 0, none⟩) n n)).heap[w.heap.size + 1 + 1]? = some (otree x D H P n)) := by
        have nl : w.heap.size ≤ w.heap.size + 1 + 1 := by omega
        refine ⟨HS.out.tr.congr fun g hg => ?_, (((HS.out.b.setCell nl _).setCell nl _).setCell nl _).setCell nl _, ?_⟩
        · have hg1 : g ≠ w.heap.size + 1 + 1 := fun e => HFO.out.2 (by rw [← e]; simp [bkS, hg])
          rw [heap_set_ne hg1, heap_set_ne hg1, heap_set_ne hg1, heap_set_ne hg1]
        · rw [heap_set_eq (heap_set_eq (heap_set_eq (heap_set_eq HFO.out.1)))]
          rfl
      have HLO : Hid (∀ g ∈ trB D H P hv pv, w.heap.size ≤ g) := fun g hg => HS.out.lo g (by simp [bkS, hg])
      clear t0 t1 t2 t3 r0 r1 r2 r3 rz HFO HS HM
      generalize (((wr.setCell ⟨w.heap.size + 1 + 1, 0, none⟩ (.int .i64 (x : Int))).setCell ⟨w.heap.size + 1 + 1, 1, none⟩ (.slice (some ⟨D, 0, none⟩) n n)).setCell ⟨w.heap.size + 1 + 1, 2, none⟩ (.slice (some ⟨H, 0, none⟩) n n)).setCell ⟨w.heap.size + 1 + 1, 3, none⟩ (.slice (some ⟨P, 0, none⟩) n n) = Wf at *
      have q0 : Wf.cell? ⟨w.heap.size + 1 + 1, 0, none⟩ = some (.int .i64 (x : Int)) := cell_of HF.out.2.2 rfl
      have q1 : Wf.cell? ⟨w.heap.size + 1 + 1, 1, none⟩ = some (.slice (some ⟨D, 0, none⟩) n n) := cell_of HF.out.2.2 rfl
      have q2 : Wf.cell? ⟨w.heap.size + 1 + 1, 2, none⟩ = some (.slice (some ⟨H, 0, none⟩) n n) := cell_of HF.out.2.2 rfl
      have q3 : Wf.cell? ⟨w.heap.size + 1 + 1, 3, none⟩ = some (.slice (some ⟨P, 0, none⟩) n n) := cell_of HF.out.2.2 rfl
      (try rw [Exit.noGoto_ret])
      exact bodyPost_ret (v := treeV (x : Int) D H P n) (by simp [treeV, results, Try.results28, go_sem, q0, q1, q2, q3]) rfl ⟨D, H, P, dist, hv, pv, hops, pars, rfl, HF.out.1, HTR.out, HLO.out, HF.out.2.1⟩
    · have HM := Lib.hid (pop_some wr qb n ins keys gs HS.out.hq h0)
      clear h0
      go_wp2_with fail
      go_at_call 49
      refine HM.out.mono ?_
      rintro e w8 ⟨y, rfl, hmin, hput⟩
      obtain ⟨gs8, h8⟩ := HS.out.put hput
      obtain ⟨hg0, hin⟩ := OutR.pop HV.out.1 HV.out.2.2 HV.out.2.1 HO.out hmin
      have hyn : y < n := hmin.1
      have hGn : gk ≤ n + 1 := HO.out.1.2.2
      obtain ⟨v40, hcE, hRd⟩ := HEB.out y hyn
      have cE8 : w8.cell? ⟨EB, y, none⟩ = some v40 := cell_of (h8.fx (EB, .cells cE 22) (by simp [csS])).1 hcE
      obtain ⟨ad40, cap40, rfl, hc1, hc2, hce⟩ := hRd
      have HS8 := Lib.hid h8
      have HIN := Lib.hid hin
      have HCE := Lib.hid (And.intro hc1 (And.intro hc2 hce))
      obtain ⟨K, hK⟩ : ∃ K, (outs l (y : Int)).length = K := ⟨_, rfl⟩
      rw [hK] at cE8
      have HK := Lib.hid hK
      have y0 : (0 : Int) ≤ (y : Int) := by omega
      have y1 : (y : Int) < (n : Int) := by omega
      have hK10 : K ≤ 1024 := by rw [← hK]; exact Nat.le_trans (outs_len _ _) HV.out.1.len
      generalize gI keys y = ky
      clear HS HO HM hmin hput h8 hin hcE hc1 hc2 hce hK
      obtain ⟨G, hG⟩ : ∃ G, G = gk := ⟨_, rfl⟩
      rw [← hG] at hg0 HIN hGn
      have HG := Lib.hid hG
      clear hG
      go_wp2_with fail
      go_loopg [42] K (fun g s42 wq => ∃ k : Nat, k ≤ K ∧ K - k ≤ g ∧ s42 = .int .i64 (k : Int) ∧ ∃ dist hv pv hops pars ins keys gs, Hid (SS w wq (csS R N ad L cap x D H P n w.heap.size w1.heap.size EB cE) D H P qb n dist hv pv hops pars ins keys gs) ∧ Hid (InR R N l x n y k (65535 * ((n : Int) + 1 - ((G - 1 : Nat) : Int))) (G - 1) dist hops pars ins keys))
      case atStart => exact ⟨0, by omega, by omega, rfl, _, _, _, _, _, _, _, _, HS8, HIN⟩
      case round =>
        clear HS8 HIN cE8
        obtain ⟨k, hk, hkg, rfl, dist, hv, pv, hops, pars, ins, keys, gs, HS, HI⟩ := hrel
        by_cases hlt : k < K
        · obtain ⟨e, he⟩ : ∃ e, (outs l (y : Int))[k]? = some e := ⟨_, List.getElem?_eq_getElem (by have := HK.out; omega)⟩
          obtain ⟨b, off, rfl, hb, c0, c1, c2⟩ := HCE.out.2.2 k e he
          obtain ⟨v, c, rfl, hvn, hyv, _, hcc0, hcc1, hd0, hd1, hrows, hprow, hv1⟩ := InR.facts HV.out.1 HV.out.2.2 HV.out.2.1 HI.out he
          have d0 := carryB HS.out.b hb c0
          have d1 := carryB HS.out.b hb c1
          have d2 := carryB HS.out.b hb c2
          dsimp only at d0 d1 d2
          have HRO := Lib.hid (And.intro hrows hprow)
          have HE := Lib.hid he
          have k1 : (k : Int) < (K : Int) := by omega
          have v0 : (0 : Int) ≤ (v : Int) := by omega
          have v1 : (v : Int) < (n : Int) := by omega
          have hd2 : gI dist y ≤ 65535 * 130 := by omega
          clear c0 c1 c2 he hrows hprow
          go_upto_region 11 with (fail)
          have HSA := Lib.hid (HS.out.alloc (.cells #[.int .i64 (y : Int), .int .i64 (v : Int), .int .i64 c] 46))
          generalize hWa : wr.alloc (.cells #[.int .i64 (y : Int), .int .i64 (v : Int), .int .i64 c] 46) = Wa at *
          generalize wr.heap.size = eb at *
          have fE := (HSA.out.fx (eb, .cells #[.int .i64 (y : Int), .int .i64 (v : Int), .int .i64 c] 46) (by simp)).1
          have fT := (HSA.out.fx (w1.heap.size, otree x D H P n) (by simp [csS])).1
          have e1 : Wa.cell? ⟨eb, 1, none⟩ = some (.int .i64 (v : Int)) := cell_of fE rfl
          have e2 : Wa.cell? ⟨eb, 2, none⟩ = some (.int .i64 c) := cell_of fE rfl
          have t1 : Wa.cell? ⟨w1.heap.size, 1, none⟩ = some (.slice (some ⟨D, 0, none⟩) n n) := cell_of fT rfl
          have cDy := HSA.out.tr.cd hyn
          have cDv := HSA.out.tr.cd hvn
          clear fE fT d0 d1 d2 hWa HS
          generalize hdy : gI dist y = dy at *
          generalize hdv : gI dist v = dv at *
          have HD := Lib.hid (And.intro hdy hdv)
          clear hdy hdv
          go_quiet (fail)
          have HSB := Lib.hid (HSA.out.grow (below_drewN (Below.refl _ Wa) nq))
          clear HSA e1 e2 t1 cDy cDv
          generalize Wa.drewN nq = Wb at *
          by_cases a1 : 0 ≤ dv
          · by_cases a2 : dv < dy + c
            · have HN : Hid (InR R N l x n y (k + 1) (65535 * ((n : Int) + 1 - ((G - 1 : Nat) : Int))) (G - 1) dist hops pars ins keys) := InR.skip HV.out.1 HV.out.2.1 HI.out HE.out (by rw [HD.out.2]; exact a1) (by rw [HD.out.1, HD.out.2]; exact a2)
              go_wp2_with fail
              go_roundg (K - (k + 1))
              case measure => omega
              case rel => exact ⟨k + 1, by omega, Nat.le_refl _, by go_num, _, _, _, _, _, _, _, _, Lib.hid HSB.out.drop, HN⟩
            · by_cases a3 : dv = dy + c
              · have b3 : (dv != dy + c) = false := by simpa using a3
                have HA3 := Lib.hid a3.symm
                have HT := HSB
                clear a3 HSB
                have fE := HT.out.fx (eb, Obj.cells #[.int .i64 (y : Int), .int .i64 (v : Int), .int .i64 c] 46) (by simp)
                have fT := HT.out.fx (w1.heap.size, otree x D H P n) (by simp [csS])
                have e1 : Wb.cell? ⟨eb, 1, none⟩ = some (.int .i64 (v : Int)) := cell_of fE.1 rfl
                have t3 : Wb.cell? ⟨w1.heap.size, 3, none⟩ = some (.slice (some ⟨P, 0, none⟩) n n) := cell_of fT.1 rfl
                have cPv := HT.out.tr.cp hvn
                have zP := HT.out.tr.fp v
                have hrow : Wb.drew.ownsRow 0 3 1 (gVl pv v) (gL pars v).length (ints (gL pars v)) := row_congr (HT.out.tr.pp.row v (by rw [HT.out.tr.lp]; exact hvn)) fun _ _ => rfl
                have hpp : (gL pars v).Pairwise (· < ·) ∧ (gL pars v).length ≤ n := ⟨HRO.out.2.2, asc_len HRO.out.2.2 HRO.out.2.1⟩
                have HI16 := Lib.hid (insert_any Wb.drew (gVl pv v) (gL pars v) (y : Int) hrow hpp.1 (by omega))
                have hvp : v < (pv : List Value).length := by rw [HT.out.tr.lpv]; exact hvn
                have hPx : P ∉ vblk (gVl pv v) := fun hm => (HT.out.tr.xp P (vblk_rblk hvp hm)).2.2 rfl
                have hTx : w1.heap.size ∉ vblk (gVl pv v) := fun hm => fT.2 (by simp [bkS, trB, vblk_rblk hvp hm])
                have hEx : eb ∉ vblk (gVl pv v) := fun hm => fE.2 (by simp [bkS, trB, vblk_rblk hvp hm])
                have hPT : P ≠ w1.heap.size := fun e => fT.2 (by simp [bkS, trB, ← e])
                have hPE : P ≠ eb := fun e => fE.2 (by simp [bkS, trB, ← e])
                have H16 := Lib.hid (And.intro hPx (And.intro hTx hEx))
                have hset : ∀ (W : World) (u : Value), (W.cell? ⟨w1.heap.size, 3, none⟩ = some (.slice (some ⟨P, 0, none⟩) n n) ∧ W.cell? ⟨eb, 1, none⟩ = some (.int .i64 (v : Int))) → ((W.setCell ⟨P, v, none⟩ u).cell? ⟨w1.heap.size, 3, none⟩ = some (.slice (some ⟨P, 0, none⟩) n n) ∧ (W.setCell ⟨P, v, none⟩ u).cell? ⟨eb, 1, none⟩ = some (.int .i64 (v : Int))) := fun W u h => ⟨by rw [World.cell?_setCell_far _ _ _ _ hPT]; exact h.1, by rw [World.cell?_setCell_far _ _ _ _ hPE]; exact h.2⟩
                have cPv0 := cPv
                clear hrow hpp hPx hTx hEx hPT hPE fE fT
                go_upto_region 16 with (fail)
                refine wp_region_held_drew (S := (fun W => W.cell? ⟨w1.heap.size, 3, none⟩ = some (.slice (some ⟨P, 0, none⟩) n n) ∧ W.cell? ⟨eb, 1, none⟩ = some (.int .i64 (v : Int)))) (by kernel_rfl) ⟨t3, e1⟩ (fun hS0 => ?_)
                refine wpAnyH_take (i := 0) (oi := ⟨some 95, _, _, _, _, _⟩) (v := .pointer (some ⟨w1.heap.size, 3, none⟩)) rfl (by kernel_rfl) (by kernel_rfl) (by kernel_rfl) (fun _ _ _ h => h) (Or.inl ⟨by rfl, by intro w' hw'; obtain ⟨q0, q1⟩ := hw'; go_simp⟩) hS0 ?_
                simp only [Act.put, List.setIfInBounds_toArray, List.set_cons_zero, List.set_cons_succ]
                refine wpAnyH_take (i := 1) (oi := ⟨some 96, _, _, _, _, _⟩) (v := .slice (some ⟨P, 0, none⟩) n n) rfl (by kernel_rfl) (by kernel_rfl) (by kernel_rfl) (fun _ _ _ h => h) (Or.inl ⟨by rfl, by intro w' hw'; obtain ⟨q0, q1⟩ := hw'; go_simp⟩) hS0 ?_
                simp only [Act.put, List.setIfInBounds_toArray, List.set_cons_zero, List.set_cons_succ]
                refine wpAnyH_take (i := 2) (oi := ⟨some 97, _, _, _, _, _⟩) (v := .pointer (some ⟨eb, 1, none⟩)) rfl (by kernel_rfl) (by kernel_rfl) (by kernel_rfl) (fun _ _ _ h => h) (Or.inl ⟨by rfl, by intro w' hw'; obtain ⟨q0, q1⟩ := hw'; go_simp⟩) hS0 ?_
                simp only [Act.put, List.setIfInBounds_toArray, List.set_cons_zero, List.set_cons_succ]
                refine wpAnyH_take (i := 3) (oi := ⟨some 98, _, _, _, _, _⟩) (v := .int .i64 (v : Int)) rfl (by kernel_rfl) (by kernel_rfl) (by kernel_rfl) (fun _ _ _ h => h) (Or.inl ⟨by rfl, by intro w' hw'; obtain ⟨q0, q1⟩ := hw'; go_simp⟩) hS0 ?_
                simp only [Act.put, List.setIfInBounds_toArray, List.set_cons_zero, List.set_cons_succ]
                refine wpAnyH_take (i := 4) (oi := ⟨some 99, _, _, _, _, _⟩) (v := .pointer (some ⟨w1.heap.size, 3, none⟩)) rfl (by kernel_rfl) (by kernel_rfl) (by kernel_rfl) (fun _ _ _ h => h) (Or.inl ⟨by rfl, by intro w' hw'; obtain ⟨q0, q1⟩ := hw'; go_simp⟩) hS0 ?_
                simp only [Act.put, List.setIfInBounds_toArray, List.set_cons_zero, List.set_cons_succ]
                refine wpAnyH_take (i := 5) (oi := ⟨some 100, _, _, _, _, _⟩) (v := .slice (some ⟨P, 0, none⟩) n n) rfl (by kernel_rfl) (by kernel_rfl) (by kernel_rfl) (fun _ _ _ h => h) (Or.inl ⟨by rfl, by intro w' hw'; obtain ⟨q0, q1⟩ := hw'; go_simp⟩) hS0 ?_
                simp only [Act.put, List.setIfInBounds_toArray, List.set_cons_zero, List.set_cons_succ]
                refine wpAnyH_take (i := 6) (oi := ⟨some 101, _, _, _, _, _⟩) (v := .pointer (some ⟨eb, 1, none⟩)) rfl (by kernel_rfl) (by kernel_rfl) (by kernel_rfl) (fun _ _ _ h => h) (Or.inl ⟨by rfl, by intro w' hw'; obtain ⟨q0, q1⟩ := hw'; go_simp⟩) hS0 ?_
                simp only [Act.put, List.setIfInBounds_toArray, List.set_cons_zero, List.set_cons_succ]
                refine wpAnyH_take (i := 7) (oi := ⟨some 102, _, _, _, _, _⟩) (v := .int .i64 (v : Int)) rfl (by kernel_rfl) (by kernel_rfl) (by kernel_rfl) (fun _ _ _ h => h) (Or.inl ⟨by rfl, by intro w' hw'; obtain ⟨q0, q1⟩ := hw'; go_simp⟩) hS0 ?_
                simp only [Act.put, List.setIfInBounds_toArray, List.set_cons_zero, List.set_cons_succ]
                refine wpAnyH_take (i := 8) (oi := ⟨some 103, _, _, _, _, _⟩) (v := .pointer (some ⟨P, v, none⟩)) rfl (by kernel_rfl) (by kernel_rfl) (by kernel_rfl) (fun _ _ _ h => h) (Or.inl ⟨by rfl, by intro w' hw'; obtain ⟨q0, q1⟩ := hw'; go_simp⟩) hS0 ?_
                simp only [Act.put, List.setIfInBounds_toArray, List.set_cons_zero, List.set_cons_succ]
                refine wpAnyH_take (i := 10) (oi := ⟨some 105, _, _, _, _, _⟩) (v := .int .i64 (y : Int)) rfl (by kernel_rfl) (by kernel_rfl) (by kernel_rfl) (fun _ _ _ h => h) (Or.inl ⟨by rfl, by intro w' hw'; obtain ⟨q0, q1⟩ := hw'; go_simp⟩) hS0 ?_
                simp only [Act.put, List.setIfInBounds_toArray, List.set_cons_zero, List.set_cons_succ]
                refine wpAnyH_ready (rs := [9]) (by kernel_rfl) (by simp) ?_
                refine AllReadyH.cons rfl (fun K hK => ?_) AllReadyH.nil
                go_simp
                (try go_wp2_with fail)
                refine hK.out _ _ hS0 (fun _ => ?_)
                clear hK K
                (try simp only [Act.put, List.setIfInBounds_toArray, List.set_cons_zero, List.set_cons_succ])
                refine wpAnyH_ready (rs := [11]) (by kernel_rfl) (by simp) ?_
                refine AllReadyH.cons rfl (fun K hK => ?_) AllReadyH.nil
                go_simp
                go_at_call 45
                refine HI16.out.mono ?_
                rintro e wi ⟨r', hr', v', rfl, h1, h2, h3⟩
                have g1 := h2.undrew.carry (p := ⟨w1.heap.size, 3, none⟩) H16.out.2.1 t3
                have g2 := h2.undrew.carry (p := ⟨eb, 1, none⟩) H16.out.2.2 e1
                have gS := And.intro g1 g2
                have eP := h2.undrew.carry (p := ⟨P, v, none⟩) H16.out.1 cPv
                have zP1 : wi.frozen? ⟨P, v, none⟩ = false := mg_free h2.undrew H16.out.1 cPv0 zP
                obtain ⟨ad', cap', rfl, -⟩ := own_form h1
                have HQ := Lib.hid (And.intro hr' (And.intro h1 (And.intro h2.undrew h3)))
                clear hr' h1 h2 h3 g1 g2
                (try go_wp2_with fail)
                refine hK.out _ _ gS (fun _ => ?_)
                clear hK K
                (try simp only [Act.put, List.setIfInBounds_toArray, List.set_cons_zero, List.set_cons_succ])
                refine wpAnyH_take (i := 12) (oi := ⟨some 107, _, _, _, _, _⟩) (v := .pointer (some ⟨P, v, none⟩)) rfl (by kernel_rfl) (by kernel_rfl) (by kernel_rfl) (fun _ _ _ h => h) (Or.inl ⟨by rfl, by intro w' hw'; obtain ⟨q0, q1⟩ := hw'; go_simp⟩) gS ?_
                simp only [Act.put, List.setIfInBounds_toArray, List.set_cons_zero, List.set_cons_succ]
                refine wpAnyH_ready (rs := [13]) (by kernel_rfl) (by simp) ?_
                refine AllReadyH.cons rfl (fun K hK => ?_) AllReadyH.nil
                go_simp
                (try go_wp2_with fail)
                refine hK.out _ _ (hset _ _ gS) (fun _ => ?_)
                clear hK K
                (try simp only [Act.put, List.setIfInBounds_toArray, List.set_cons_zero, List.set_cons_succ])
                refine wpAnyH_done (by kernel_rfl) ?_ _
                have HT2 : Hid (SS w (wi.setCell ⟨P, v, none⟩ (.slice ad' r'.length cap')) ((eb, Obj.cells #[.int .i64 (y : Int), .int .i64 (v : Int), .int .i64 c] 46) :: (csS R N ad L cap x D H P n w.heap.size w1.heap.size EB cE)) D H P qb n dist hv (pv.set v (.slice ad' r'.length cap')) hops (pars.set v r') ins keys gs) := by
                  obtain ⟨_, q2, q3, q4⟩ := HQ.out
                  exact HT.out.par hvn q3 q2 q4
                have HR16 := Lib.hid HQ.out.1
                clear HT HI16 H16 HQ eP zP1 zP cPv cPv0 gS e1 t3 hset hvp
                generalize wi.setCell ⟨P, v, none⟩ (.slice ad' r'.length cap') = W2 at *
                generalize Value.slice ad' r'.length cap' = pnew at *
                have fE := HT2.out.fx (eb, Obj.cells #[.int .i64 (y : Int), .int .i64 (v : Int), .int .i64 c] 46) (by simp)
                have fG := HT2.out.fx (w.heap.size, ogr R N (.slice ad L cap)) (by simp [csS])
                have fR := HT2.out.fx (w.heap.size + 1, oroot x) (by simp [csS])
                have fT := HT2.out.fx (w1.heap.size, otree x D H P n) (by simp [csS])
                have e1 : W2.cell? ⟨eb, 1, none⟩ = some (.int .i64 (v : Int)) := cell_of fE.1 rfl
                have HMG := Lib.hid (merge_any W2 w1.heap.size (w.heap.size + 1) w.heap.size D H P n (x : Int) R y v _ _ _ _ _ hnb fT.1 (cell_of fR.1 rfl) (cell_of fG.1 rfl) HT2.out.tr hyn hvn hyv (fun hm => fT.2 (List.mem_append.2 (.inl hm))) (fun hm => fR.2 (List.mem_append.2 (.inl hm))) (fun hm => fG.2 (List.mem_append.2 (.inl hm))) HRO.out.1.1 HRO.out.1.2.1 HRO.out.1.2.2.1 HRO.out.1.2.2.2)
                clear fE fG fR fT
                go_wp2_with fail
                go_at_call 44
                refine HMG.out.mono ?_
                rintro e w3 ⟨rfl, xv, rh, ht3, hr3, hb3, hk3⟩
                have HT3 := Lib.hid ((HT2.out.hop hvn ht3 hb3 hk3).drop)
                have HR3 := Lib.hid (hr3.congr fun z => MgK.end_ z)
                clear HT2 HMG ht3 hr3 hb3 hk3 e1
                go_wp2_with fail
                go_roundg (K - (k + 1))
                case measure => omega
                case rel =>
                  refine ⟨k + 1, hlt, Nat.le_refl _, val_i (by omega), _, _, _, _, _, _, _, _, HT3, ?_⟩
                  exact InR.same HV.out.1 HV.out.2.1 HI.out HE.out (by rw [HD.out.1, HD.out.2]; exact HA3.out.symm) HR16.out HR3.out
              · have b3 : (dv != dy + c) = true := by simpa using a3
                have a4 : dv < 0 ∨ dy + c < dv := .inr (by omega)
                clear a3
                go_upto_region 14 with (fail)
                have fE := HSB.out.fx (eb, Obj.cells #[.int .i64 (y : Int), .int .i64 (v : Int), .int .i64 c] 46) (by simp)
                have fT := HSB.out.fx (w1.heap.size, otree x D H P n) (by simp [csS])
                have e1 : Wb.cell? ⟨eb, 1, none⟩ = some (.int .i64 (v : Int)) := cell_of fE.1 rfl
                have t1 : Wb.cell? ⟨w1.heap.size, 1, none⟩ = some (.slice (some ⟨D, 0, none⟩) n n) := cell_of fT.1 rfl
                have t2 : Wb.cell? ⟨w1.heap.size, 2, none⟩ = some (.slice (some ⟨H, 0, none⟩) n n) := cell_of fT.1 rfl
                have t3 : Wb.cell? ⟨w1.heap.size, 3, none⟩ = some (.slice (some ⟨P, 0, none⟩) n n) := cell_of fT.1 rfl
                have cDv := HSB.out.tr.cd hvn
                have cHv := HSB.out.tr.ch hvn
                have cPv := HSB.out.tr.cp hvn
                have zD := HSB.out.tr.fd v
                have zH := HSB.out.tr.fh v
                have zP := HSB.out.tr.fp v
                have nDH := HSB.out.tr.dh
                have nDP := HSB.out.tr.dp
                have nHP := HSB.out.tr.hp
                have nDT : D ≠ w1.heap.size := fun e => fT.2 (by simp [bkS, trB, ← e])
                have nHT : H ≠ w1.heap.size := fun e => fT.2 (by simp [bkS, trB, ← e])
                have nPT : P ≠ w1.heap.size := fun e => fT.2 (by simp [bkS, trB, ← e])
                have nDE : D ≠ eb := fun e => fE.2 (by simp [bkS, trB, ← e])
                have nHE : H ≠ eb := fun e => fE.2 (by simp [bkS, trB, ← e])
                have nPE : P ≠ eb := fun e => fE.2 (by simp [bkS, trB, ← e])
                clear fE fT
                generalize gVl hv v = hvv at cHv
                generalize gVl pv v = pvv at cPv
                generalize gI dist v = dvv at cDv
                have cHv1 : ∀ u, (Wb.setCell ⟨D, v, none⟩ u).cell? ⟨H, v, none⟩ = some hvv := fun u => by rw [World.cell?_setCell_far _ _ _ _ nDH]; exact cHv
                have cPv1 : ∀ u u', ((Wb.setCell ⟨D, v, none⟩ u).setCell ⟨H, v, none⟩ u').cell? ⟨P, v, none⟩ = some pvv := fun u u' => by rw [World.cell?_setCell_far _ _ _ _ nHP, World.cell?_setCell_far _ _ _ _ nDP]; exact cPv
                have zH1 : ∀ u, (Wb.setCell ⟨D, v, none⟩ u).frozen? ⟨H, v, none⟩ = false := fun u => by rw [World.frozen?_setCell]; exact zH
                have zP1 : ∀ u u', ((Wb.setCell ⟨D, v, none⟩ u).setCell ⟨H, v, none⟩ u').frozen? ⟨P, v, none⟩ = false := fun u u' => by rw [World.frozen?_setCell, World.frozen?_setCell]; exact zP
                have hset : ∀ (W : World) (g : Nat) (u : Value), g ≠ w1.heap.size → g ≠ eb → (W.cell? ⟨w1.heap.size, 1, none⟩ = some (.slice (some ⟨D, 0, none⟩) n n) ∧ W.cell? ⟨w1.heap.size, 2, none⟩ = some (.slice (some ⟨H, 0, none⟩) n n) ∧ W.cell? ⟨w1.heap.size, 3, none⟩ = some (.slice (some ⟨P, 0, none⟩) n n) ∧ W.cell? ⟨eb, 1, none⟩ = some (.int .i64 (v : Int))) →
                    ((W.setCell ⟨g, v, none⟩ u).cell? ⟨w1.heap.size, 1, none⟩ = some (.slice (some ⟨D, 0, none⟩) n n) ∧ (W.setCell ⟨g, v, none⟩ u).cell? ⟨w1.heap.size, 2, none⟩ = some (.slice (some ⟨H, 0, none⟩) n n) ∧ (W.setCell ⟨g, v, none⟩ u).cell? ⟨w1.heap.size, 3, none⟩ = some (.slice (some ⟨P, 0, none⟩) n n) ∧ (W.setCell ⟨g, v, none⟩ u).cell? ⟨eb, 1, none⟩ = some (.int .i64 (v : Int))) :=
                  fun W g u n1 n2 h => ⟨by rw [World.cell?_setCell_far _ _ _ _ n1]; exact h.1, by rw [World.cell?_setCell_far _ _ _ _ n1]; exact h.2.1, by rw [World.cell?_setCell_far _ _ _ _ n1]; exact h.2.2.1, by rw [World.cell?_setCell_far _ _ _ _ n2]; exact h.2.2.2⟩
                have gS := And.intro t1 (And.intro t2 (And.intro t3 e1))
                refine wp_region_held_drew (S := (fun W => W.cell? ⟨w1.heap.size, 1, none⟩ = some (.slice (some ⟨D, 0, none⟩) n n) ∧ W.cell? ⟨w1.heap.size, 2, none⟩ = some (.slice (some ⟨H, 0, none⟩) n n) ∧ W.cell? ⟨w1.heap.size, 3, none⟩ = some (.slice (some ⟨P, 0, none⟩) n n) ∧ W.cell? ⟨eb, 1, none⟩ = some (.int .i64 (v : Int)))) (by kernel_rfl) gS (fun hS0 => ?_)
                refine wpAnyH_take (i := 0) (oi := ⟨some 70, _, _, _, _, _⟩) (v := .pointer (some ⟨w1.heap.size, 1, none⟩)) rfl (by kernel_rfl) (by kernel_rfl) (by kernel_rfl) (fun _ _ _ h => h) (Or.inl ⟨by rfl, by intro w' hw'; obtain ⟨q0, q1, q2, q3⟩ := hw'; go_simp⟩) hS0 ?_
                simp only [Act.put, List.setIfInBounds_toArray, List.set_cons_zero, List.set_cons_succ]
                refine wpAnyH_take (i := 1) (oi := ⟨some 71, _, _, _, _, _⟩) (v := .slice (some ⟨D, 0, none⟩) n n) rfl (by kernel_rfl) (by kernel_rfl) (by kernel_rfl) (fun _ _ _ h => h) (Or.inl ⟨by rfl, by intro w' hw'; obtain ⟨q0, q1, q2, q3⟩ := hw'; go_simp⟩) hS0 ?_
                simp only [Act.put, List.setIfInBounds_toArray, List.set_cons_zero, List.set_cons_succ]
                refine wpAnyH_take (i := 2) (oi := ⟨some 72, _, _, _, _, _⟩) (v := .pointer (some ⟨eb, 1, none⟩)) rfl (by kernel_rfl) (by kernel_rfl) (by kernel_rfl) (fun _ _ _ h => h) (Or.inl ⟨by rfl, by intro w' hw'; obtain ⟨q0, q1, q2, q3⟩ := hw'; go_simp⟩) hS0 ?_
                simp only [Act.put, List.setIfInBounds_toArray, List.set_cons_zero, List.set_cons_succ]
                refine wpAnyH_take (i := 3) (oi := ⟨some 73, _, _, _, _, _⟩) (v := .int .i64 (v : Int)) rfl (by kernel_rfl) (by kernel_rfl) (by kernel_rfl) (fun _ _ _ h => h) (Or.inl ⟨by rfl, by intro w' hw'; obtain ⟨q0, q1, q2, q3⟩ := hw'; go_simp⟩) hS0 ?_
                simp only [Act.put, List.setIfInBounds_toArray, List.set_cons_zero, List.set_cons_succ]
                refine wpAnyH_take (i := 4) (oi := ⟨some 74, _, _, _, _, _⟩) (v := .pointer (some ⟨w1.heap.size, 2, none⟩)) rfl (by kernel_rfl) (by kernel_rfl) (by kernel_rfl) (fun _ _ _ h => h) (Or.inl ⟨by rfl, by intro w' hw'; obtain ⟨q0, q1, q2, q3⟩ := hw'; go_simp⟩) hS0 ?_
                simp only [Act.put, List.setIfInBounds_toArray, List.set_cons_zero, List.set_cons_succ]
                refine wpAnyH_take (i := 5) (oi := ⟨some 75, _, _, _, _, _⟩) (v := .slice (some ⟨H, 0, none⟩) n n) rfl (by kernel_rfl) (by kernel_rfl) (by kernel_rfl) (fun _ _ _ h => h) (Or.inl ⟨by rfl, by intro w' hw'; obtain ⟨q0, q1, q2, q3⟩ := hw'; go_simp⟩) hS0 ?_
                simp only [Act.put, List.setIfInBounds_toArray, List.set_cons_zero, List.set_cons_succ]
                refine wpAnyH_take (i := 6) (oi := ⟨some 76, _, _, _, _, _⟩) (v := .pointer (some ⟨eb, 1, none⟩)) rfl (by kernel_rfl) (by kernel_rfl) (by kernel_rfl) (fun _ _ _ h => h) (Or.inl ⟨by rfl, by intro w' hw'; obtain ⟨q0, q1, q2, q3⟩ := hw'; go_simp⟩) hS0 ?_
                simp only [Act.put, List.setIfInBounds_toArray, List.set_cons_zero, List.set_cons_succ]
                refine wpAnyH_take (i := 7) (oi := ⟨some 77, _, _, _, _, _⟩) (v := .int .i64 (v : Int)) rfl (by kernel_rfl) (by kernel_rfl) (by kernel_rfl) (fun _ _ _ h => h) (Or.inl ⟨by rfl, by intro w' hw'; obtain ⟨q0, q1, q2, q3⟩ := hw'; go_simp⟩) hS0 ?_
                simp only [Act.put, List.setIfInBounds_toArray, List.set_cons_zero, List.set_cons_succ]
                refine wpAnyH_take (i := 8) (oi := ⟨some 78, _, _, _, _, _⟩) (v := .pointer (some ⟨w1.heap.size, 3, none⟩)) rfl (by kernel_rfl) (by kernel_rfl) (by kernel_rfl) (fun _ _ _ h => h) (Or.inl ⟨by rfl, by intro w' hw'; obtain ⟨q0, q1, q2, q3⟩ := hw'; go_simp⟩) hS0 ?_
                simp only [Act.put, List.setIfInBounds_toArray, List.set_cons_zero, List.set_cons_succ]
                refine wpAnyH_take (i := 9) (oi := ⟨some 79, _, _, _, _, _⟩) (v := .slice (some ⟨P, 0, none⟩) n n) rfl (by kernel_rfl) (by kernel_rfl) (by kernel_rfl) (fun _ _ _ h => h) (Or.inl ⟨by rfl, by intro w' hw'; obtain ⟨q0, q1, q2, q3⟩ := hw'; go_simp⟩) hS0 ?_
                simp only [Act.put, List.setIfInBounds_toArray, List.set_cons_zero, List.set_cons_succ]
                refine wpAnyH_take (i := 10) (oi := ⟨some 80, _, _, _, _, _⟩) (v := .pointer (some ⟨eb, 1, none⟩)) rfl (by kernel_rfl) (by kernel_rfl) (by kernel_rfl) (fun _ _ _ h => h) (Or.inl ⟨by rfl, by intro w' hw'; obtain ⟨q0, q1, q2, q3⟩ := hw'; go_simp⟩) hS0 ?_
                simp only [Act.put, List.setIfInBounds_toArray, List.set_cons_zero, List.set_cons_succ]
                refine wpAnyH_take (i := 11) (oi := ⟨some 81, _, _, _, _, _⟩) (v := .int .i64 (v : Int)) rfl (by kernel_rfl) (by kernel_rfl) (by kernel_rfl) (fun _ _ _ h => h) (Or.inl ⟨by rfl, by intro w' hw'; obtain ⟨q0, q1, q2, q3⟩ := hw'; go_simp⟩) hS0 ?_
                simp only [Act.put, List.setIfInBounds_toArray, List.set_cons_zero, List.set_cons_succ]
                refine wpAnyH_take (i := 12) (oi := ⟨some 82, _, _, _, _, _⟩) (v := .int .i64 (dy + c)) rfl (by kernel_rfl) (by kernel_rfl) (by kernel_rfl) (fun _ _ _ h => h) (Or.inl ⟨by rfl, by intro w' hw'; obtain ⟨q0, q1, q2, q3⟩ := hw'; go_simp⟩) hS0 ?_
                simp only [Act.put, List.setIfInBounds_toArray, List.set_cons_zero, List.set_cons_succ]
                refine wpAnyH_take (i := 13) (oi := ⟨some 83, _, _, _, _, _⟩) (v := .pointer (some ⟨D, v, none⟩)) rfl (by kernel_rfl) (by kernel_rfl) (by kernel_rfl) (fun _ _ _ h => h) (Or.inl ⟨by rfl, by intro w' hw'; obtain ⟨q0, q1, q2, q3⟩ := hw'; go_simp⟩) hS0 ?_
                simp only [Act.put, List.setIfInBounds_toArray, List.set_cons_zero, List.set_cons_succ]
                refine wpAnyH_ready (rs := [14]) (by kernel_rfl) (by simp) ?_
                refine AllReadyH.cons rfl (fun K hK => ?_) AllReadyH.nil
                go_simp
                (try go_wp2_with fail)
                refine hK.out _ _ (hset _ D _ nDT nDE gS) (fun _ => ?_)
                clear hK K
                (try simp only [Act.put, List.setIfInBounds_toArray, List.set_cons_zero, List.set_cons_succ])
                refine wpAnyH_take (i := 15) (oi := ⟨some 84, _, _, _, _, _⟩) (v := .pointer (some ⟨H, v, none⟩)) rfl (by kernel_rfl) (by kernel_rfl) (by kernel_rfl) (fun _ _ _ h => h) (Or.inl ⟨by rfl, by intro w' hw'; obtain ⟨q0, q1, q2, q3⟩ := hw'; go_simp⟩) (hset _ D _ nDT nDE gS) ?_
                simp only [Act.put, List.setIfInBounds_toArray, List.set_cons_zero, List.set_cons_succ]
                refine wpAnyH_ready (rs := [16]) (by kernel_rfl) (by simp) ?_
                refine AllReadyH.cons rfl (fun K hK => ?_) AllReadyH.nil
                go_simp
                (try go_wp2_with fail)
                refine hK.out _ _ (hset _ H _ nHT nHE (hset _ D _ nDT nDE gS)) (fun _ => ?_)
                clear hK K
                (try simp only [Act.put, List.setIfInBounds_toArray, List.set_cons_zero, List.set_cons_succ])
                refine wpAnyH_take (i := 17) (oi := ⟨some 85, _, _, _, _, _⟩) (v := .pointer (some ⟨P, v, none⟩)) rfl (by kernel_rfl) (by kernel_rfl) (by kernel_rfl) (fun _ _ _ h => h) (Or.inl ⟨by rfl, by intro w' hw'; obtain ⟨q0, q1, q2, q3⟩ := hw'; go_simp⟩) (hset _ H _ nHT nHE (hset _ D _ nDT nDE gS)) ?_
                simp only [Act.put, List.setIfInBounds_toArray, List.set_cons_zero, List.set_cons_succ]
                refine wpAnyH_ready (rs := [18]) (by kernel_rfl) (by simp) ?_
                refine AllReadyH.cons rfl (fun K hK => ?_) AllReadyH.nil
                go_simp
                (try go_wp2_with fail)
                refine hK.out _ _ (hset _ P _ nPT nPE (hset _ H _ nHT nHE (hset _ D _ nDT nDE gS))) (fun _ => ?_)
                clear hK K
                (try simp only [Act.put, List.setIfInBounds_toArray, List.set_cons_zero, List.set_cons_succ])
                refine wpAnyH_done (by kernel_rfl) ?_ _
                have HT0 : Hid (SS w ((((Wb.setCell ⟨D, v, none⟩ (.int .i64 (dy + c))).setCell ⟨H, v, none⟩ (.slice none 0 0)).setCell ⟨P, v, none⟩ (.slice none 0 0)).drew) ((eb, Obj.cells #[.int .i64 (y : Int), .int .i64 (v : Int), .int .i64 c] 46) :: (csS R N ad L cap x D H P n w.heap.size w1.heap.size EB cE)) D H P qb n (dist.set v (dy + c)) (hv.set v (.slice none 0 0)) (pv.set v (.slice none 0 0)) (hops.set v []) (pars.set v []) ins keys gs) :=
                  (HSB.out.anew hvn (dy + c)).grow (Below.refl _ _).drew
                clear HSB cDv cHv cPv zD zH zP nDH nDP nHP nDT nHT nPT nDE nHE nPE e1 t1 t2 t3 cHv1 cPv1 zH1 zP1 hset gS
                generalize ((((Wb.setCell ⟨D, v, none⟩ (.int .i64 (dy + c))).setCell ⟨H, v, none⟩ (.slice none 0 0)).setCell ⟨P, v, none⟩ (.slice none 0 0)).drew) = W0 at *
                have fE := HT0.out.fx (eb, Obj.cells #[.int .i64 (y : Int), .int .i64 (v : Int), .int .i64 c] 46) (by simp)
                have fG := HT0.out.fx (w.heap.size, ogr R N (.slice ad L cap)) (by simp [csS])
                have e1 : W0.cell? ⟨eb, 1, none⟩ = some (.int .i64 (v : Int)) := cell_of fE.1 rfl
                have g0 : W0.cell? ⟨w.heap.size, 0, none⟩ = some (.int .i64 R) := cell_of fG.1 rfl
                have g1 : W0.cell? ⟨w.heap.size, 1, none⟩ = some (.int .i64 N) := cell_of fG.1 rfl
                have g2 : W0.cell? ⟨w.heap.size, 2, none⟩ = some (.slice ad L cap) := cell_of fG.1 rfl
                have HTU : Hid (∀ W, Calls Try.prog 50 #[.agg #[.int .i64 R, .int .i64 N, .slice ad L cap], .int .i64 (v : Int), .int .i64 (dy + c)] W fun e w' => e = .returned (.int .i64 (tr R (v : Int) (dy + c))) ∧ Below W.heap.size W w') := fun W => turn_any R N _ (v : Int) (dy + c) W ⟨hR, by omega⟩ ⟨by omega, by omega⟩
                clear fE fG
                go_upto_region 15 with (fail)
                refine wp_region_held_drew (S := (fun W => W.cell? ⟨eb, 1, none⟩ = some (.int .i64 (v : Int)) ∧ W.cell? ⟨w.heap.size, 0, none⟩ = some (.int .i64 R) ∧ W.cell? ⟨w.heap.size, 1, none⟩ = some (.int .i64 N) ∧ W.cell? ⟨w.heap.size, 2, none⟩ = some (.slice ad L cap))) (by kernel_rfl) ⟨e1, g0, g1, g2⟩ (fun hS0 => ?_)
                refine wpAnyH_take (i := 0) (oi := ⟨some 86, _, _, _, _, _⟩) (v := .pointer (some ⟨qb, 0, none⟩)) rfl (by kernel_rfl) (by kernel_rfl) (by kernel_rfl) (fun _ _ _ h => h) (Or.inl ⟨by rfl, by intro w' hw'; obtain ⟨q0, q1, q2, q3⟩ := hw'; go_simp⟩) hS0 ?_
                simp only [Act.put, List.setIfInBounds_toArray, List.set_cons_zero, List.set_cons_succ]
                refine wpAnyH_take (i := 1) (oi := ⟨some 87, _, _, _, _, _⟩) (v := .pointer (some ⟨eb, 1, none⟩)) rfl (by kernel_rfl) (by kernel_rfl) (by kernel_rfl) (fun _ _ _ h => h) (Or.inl ⟨by rfl, by intro w' hw'; obtain ⟨q0, q1, q2, q3⟩ := hw'; go_simp⟩) hS0 ?_
                simp only [Act.put, List.setIfInBounds_toArray, List.set_cons_zero, List.set_cons_succ]
                refine wpAnyH_take (i := 2) (oi := ⟨some 88, _, _, _, _, _⟩) (v := .int .i64 (v : Int)) rfl (by kernel_rfl) (by kernel_rfl) (by kernel_rfl) (fun _ _ _ h => h) (Or.inl ⟨by rfl, by intro w' hw'; obtain ⟨q0, q1, q2, q3⟩ := hw'; go_simp⟩) hS0 ?_
                simp only [Act.put, List.setIfInBounds_toArray, List.set_cons_zero, List.set_cons_succ]
                refine wpAnyH_take (i := 3) (oi := ⟨some 89, _, _, _, _, _⟩) (v := .agg #[.int .i64 R, .int .i64 N, .slice ad L cap]) rfl (by kernel_rfl) (by kernel_rfl) (by kernel_rfl) (fun _ _ _ h => h) (Or.inl ⟨by rfl, by intro w' hw'; obtain ⟨q0, q1, q2, q3⟩ := hw'; go_simp⟩) hS0 ?_
                simp only [Act.put, List.setIfInBounds_toArray, List.set_cons_zero, List.set_cons_succ]
                refine wpAnyH_take (i := 4) (oi := ⟨some 90, _, _, _, _, _⟩) (v := .pointer (some ⟨eb, 1, none⟩)) rfl (by kernel_rfl) (by kernel_rfl) (by kernel_rfl) (fun _ _ _ h => h) (Or.inl ⟨by rfl, by intro w' hw'; obtain ⟨q0, q1, q2, q3⟩ := hw'; go_simp⟩) hS0 ?_
                simp only [Act.put, List.setIfInBounds_toArray, List.set_cons_zero, List.set_cons_succ]
                refine wpAnyH_take (i := 5) (oi := ⟨some 91, _, _, _, _, _⟩) (v := .int .i64 (v : Int)) rfl (by kernel_rfl) (by kernel_rfl) (by kernel_rfl) (fun _ _ _ h => h) (Or.inl ⟨by rfl, by intro w' hw'; obtain ⟨q0, q1, q2, q3⟩ := hw'; go_simp⟩) hS0 ?_
                simp only [Act.put, List.setIfInBounds_toArray, List.set_cons_zero, List.set_cons_succ]
                refine wpAnyH_take (i := 6) (oi := ⟨some 92, _, _, _, _, _⟩) (v := .int .i64 (dy + c)) rfl (by kernel_rfl) (by kernel_rfl) (by kernel_rfl) (fun _ _ _ h => h) (Or.inl ⟨by rfl, by intro w' hw'; obtain ⟨q0, q1, q2, q3⟩ := hw'; go_simp⟩) hS0 ?_
                simp only [Act.put, List.setIfInBounds_toArray, List.set_cons_zero, List.set_cons_succ]
                refine wpAnyH_ready (rs := [7]) (by kernel_rfl) (by simp) ?_
                refine AllReadyH.cons rfl (fun K hK => ?_) AllReadyH.nil
                go_simp
                go_at_call 50
                refine (HTU.out _).mono ?_
                rintro e wt ⟨rfl, hbt⟩
                have hbt' : Below W0.heap.size W0 wt := ⟨hbt.os, hbt.tape, hbt.output, hbt.size, hbt.block⟩
                have HST15 := Lib.hid (HT0.out.grow hbt')
                have gS1 := And.intro (carry hbt' e1) (And.intro (carry hbt' g0) (And.intro (carry hbt' g1) (carry hbt' g2)))
                clear hbt hbt'
                (try go_wp2_with fail)
                refine hK.out _ _ gS1 (fun _ => ?_)
                clear hK K
                (try simp only [Act.put, List.setIfInBounds_toArray, List.set_cons_zero, List.set_cons_succ])
                refine wpAnyH_ready (rs := [8]) (by kernel_rfl) (by simp) ?_
                refine AllReadyH.cons rfl (fun K hK => ?_) AllReadyH.nil
                go_simp
                go_at_call 48
                refine (set_in wt qb n _ _ _ HST15.out.hq v (tr R (v : Int) (dy + c)) hvn).mono ?_
                rintro e ws ⟨rfl, hput⟩
                obtain ⟨gs2, h15⟩ := HST15.out.put hput
                have gS2 : (fun W => W.cell? ⟨eb, 1, none⟩ = some (.int .i64 (v : Int)) ∧ W.cell? ⟨w.heap.size, 0, none⟩ = some (.int .i64 R) ∧ W.cell? ⟨w.heap.size, 1, none⟩ = some (.int .i64 N) ∧ W.cell? ⟨w.heap.size, 2, none⟩ = some (.slice ad L cap)) ws := ⟨cell_of (h15.fx (eb, Obj.cells #[.int .i64 (y : Int), .int .i64 (v : Int), .int .i64 c] 46) (by simp)).1 rfl, cell_of (h15.fx (w.heap.size, ogr R N (.slice ad L cap)) (by simp [csS])).1 rfl, cell_of (h15.fx (w.heap.size, ogr R N (.slice ad L cap)) (by simp [csS])).1 rfl, cell_of (h15.fx (w.heap.size, ogr R N (.slice ad L cap)) (by simp [csS])).1 rfl⟩
                (try go_wp2_with fail)
                refine hK.out _ _ gS2 (fun _ => ?_)
                clear hK K
                (try simp only [Act.put, List.setIfInBounds_toArray, List.set_cons_zero, List.set_cons_succ])
                refine wpAnyH_done (by kernel_rfl) ?_ _
                have HT := Lib.hid h15
                clear HT0 HTU HST15 h15 hput e1 g0 g1 g2 gS1 gS2
                have hp0 : gL (pars.set v []) v = [] := by rw [gL_set (by have := HT.out.tr.lp; rw [List.length_set] at this; omega), if_pos rfl]
                have hh0 : gL (hops.set v []) v = [] := by rw [gL_set (by have := HT.out.tr.lh; rw [List.length_set] at this; omega), if_pos rfl]
                have hh1 : gL (hops.set v []) y = gL hops y := by rw [gL_set (by have := HT.out.tr.lh; rw [List.length_set] at this; omega), if_neg hyv]
                have HH0 := Lib.hid (And.intro hp0 (And.intro hh0 hh1))
                clear hp0 hh0 hh1
                have fE := HT.out.fx (eb, Obj.cells #[.int .i64 (y : Int), .int .i64 (v : Int), .int .i64 c] 46) (by simp)
                have fT := HT.out.fx (w1.heap.size, otree x D H P n) (by simp [csS])
                have e1 : ws.cell? ⟨eb, 1, none⟩ = some (.int .i64 (v : Int)) := cell_of fE.1 rfl
                have t3 : ws.cell? ⟨w1.heap.size, 3, none⟩ = some (.slice (some ⟨P, 0, none⟩) n n) := cell_of fT.1 rfl
                have cPv := HT.out.tr.cp hvn
                have zP := HT.out.tr.fp v
                have hrow : ws.drew.ownsRow 0 3 1 (gVl (pv.set v (.slice none 0 0)) v) (gL (pars.set v []) v).length (ints (gL (pars.set v []) v)) := row_congr (HT.out.tr.pp.row v (by rw [HT.out.tr.lp]; exact hvn)) fun _ _ => rfl
                have hpp : (gL (pars.set v []) v).Pairwise (· < ·) ∧ (gL (pars.set v []) v).length ≤ n := (by rw [HH0.out.1]; exact ⟨List.Pairwise.nil, Nat.zero_le _⟩)
                have HI16 := Lib.hid (insert_any ws.drew (gVl (pv.set v (.slice none 0 0)) v) (gL (pars.set v []) v) (y : Int) hrow hpp.1 (by omega))
                have hvp : v < ((pv.set v (.slice none 0 0)) : List Value).length := by rw [HT.out.tr.lpv]; exact hvn
                have hPx : P ∉ vblk (gVl (pv.set v (.slice none 0 0)) v) := fun hm => (HT.out.tr.xp P (vblk_rblk hvp hm)).2.2 rfl
                have hTx : w1.heap.size ∉ vblk (gVl (pv.set v (.slice none 0 0)) v) := fun hm => fT.2 (by simp [bkS, trB, vblk_rblk hvp hm])
                have hEx : eb ∉ vblk (gVl (pv.set v (.slice none 0 0)) v) := fun hm => fE.2 (by simp [bkS, trB, vblk_rblk hvp hm])
                have hPT : P ≠ w1.heap.size := fun e => fT.2 (by simp [bkS, trB, ← e])
                have hPE : P ≠ eb := fun e => fE.2 (by simp [bkS, trB, ← e])
                have H16 := Lib.hid (And.intro hPx (And.intro hTx hEx))
                have hset : ∀ (W : World) (u : Value), (W.cell? ⟨w1.heap.size, 3, none⟩ = some (.slice (some ⟨P, 0, none⟩) n n) ∧ W.cell? ⟨eb, 1, none⟩ = some (.int .i64 (v : Int))) → ((W.setCell ⟨P, v, none⟩ u).cell? ⟨w1.heap.size, 3, none⟩ = some (.slice (some ⟨P, 0, none⟩) n n) ∧ (W.setCell ⟨P, v, none⟩ u).cell? ⟨eb, 1, none⟩ = some (.int .i64 (v : Int))) := fun W u h => ⟨by rw [World.cell?_setCell_far _ _ _ _ hPT]; exact h.1, by rw [World.cell?_setCell_far _ _ _ _ hPE]; exact h.2⟩
                have cPv0 := cPv
                clear hrow hpp hPx hTx hEx hPT hPE fE fT
                go_upto_region 16 with (fail)
                refine wp_region_held_drew (S := (fun W => W.cell? ⟨w1.heap.size, 3, none⟩ = some (.slice (some ⟨P, 0, none⟩) n n) ∧ W.cell? ⟨eb, 1, none⟩ = some (.int .i64 (v : Int)))) (by kernel_rfl) ⟨t3, e1⟩ (fun hS0 => ?_)
                refine wpAnyH_take (i := 0) (oi := ⟨some 95, _, _, _, _, _⟩) (v := .pointer (some ⟨w1.heap.size, 3, none⟩)) rfl (by kernel_rfl) (by kernel_rfl) (by kernel_rfl) (fun _ _ _ h => h) (Or.inl ⟨by rfl, by intro w' hw'; obtain ⟨q0, q1⟩ := hw'; go_simp⟩) hS0 ?_
                simp only [Act.put, List.setIfInBounds_toArray, List.set_cons_zero, List.set_cons_succ]
                refine wpAnyH_take (i := 1) (oi := ⟨some 96, _, _, _, _, _⟩) (v := .slice (some ⟨P, 0, none⟩) n n) rfl (by kernel_rfl) (by kernel_rfl) (by kernel_rfl) (fun _ _ _ h => h) (Or.inl ⟨by rfl, by intro w' hw'; obtain ⟨q0, q1⟩ := hw'; go_simp⟩) hS0 ?_
                simp only [Act.put, List.setIfInBounds_toArray, List.set_cons_zero, List.set_cons_succ]
                refine wpAnyH_take (i := 2) (oi := ⟨some 97, _, _, _, _, _⟩) (v := .pointer (some ⟨eb, 1, none⟩)) rfl (by kernel_rfl) (by kernel_rfl) (by kernel_rfl) (fun _ _ _ h => h) (Or.inl ⟨by rfl, by intro w' hw'; obtain ⟨q0, q1⟩ := hw'; go_simp⟩) hS0 ?_
                simp only [Act.put, List.setIfInBounds_toArray, List.set_cons_zero, List.set_cons_succ]
                refine wpAnyH_take (i := 3) (oi := ⟨some 98, _, _, _, _, _⟩) (v := .int .i64 (v : Int)) rfl (by kernel_rfl) (by kernel_rfl) (by kernel_rfl) (fun _ _ _ h => h) (Or.inl ⟨by rfl, by intro w' hw'; obtain ⟨q0, q1⟩ := hw'; go_simp⟩) hS0 ?_
                simp only [Act.put, List.setIfInBounds_toArray, List.set_cons_zero, List.set_cons_succ]
                refine wpAnyH_take (i := 4) (oi := ⟨some 99, _, _, _, _, _⟩) (v := .pointer (some ⟨w1.heap.size, 3, none⟩)) rfl (by kernel_rfl) (by kernel_rfl) (by kernel_rfl) (fun _ _ _ h => h) (Or.inl ⟨by rfl, by intro w' hw'; obtain ⟨q0, q1⟩ := hw'; go_simp⟩) hS0 ?_
                simp only [Act.put, List.setIfInBounds_toArray, List.set_cons_zero, List.set_cons_succ]
                refine wpAnyH_take (i := 5) (oi := ⟨some 100, _, _, _, _, _⟩) (v := .slice (some ⟨P, 0, none⟩) n n) rfl (by kernel_rfl) (by kernel_rfl) (by kernel_rfl) (fun _ _ _ h => h) (Or.inl ⟨by rfl, by intro w' hw'; obtain ⟨q0, q1⟩ := hw'; go_simp⟩) hS0 ?_
                simp only [Act.put, List.setIfInBounds_toArray, List.set_cons_zero, List.set_cons_succ]
                refine wpAnyH_take (i := 6) (oi := ⟨some 101, _, _, _, _, _⟩) (v := .pointer (some ⟨eb, 1, none⟩)) rfl (by kernel_rfl) (by kernel_rfl) (by kernel_rfl) (fun _ _ _ h => h) (Or.inl ⟨by rfl, by intro w' hw'; obtain ⟨q0, q1⟩ := hw'; go_simp⟩) hS0 ?_
                simp only [Act.put, List.setIfInBounds_toArray, List.set_cons_zero, List.set_cons_succ]
                refine wpAnyH_take (i := 7) (oi := ⟨some 102, _, _, _, _, _⟩) (v := .int .i64 (v : Int)) rfl (by kernel_rfl) (by kernel_rfl) (by kernel_rfl) (fun _ _ _ h => h) (Or.inl ⟨by rfl, by intro w' hw'; obtain ⟨q0, q1⟩ := hw'; go_simp⟩) hS0 ?_
                simp only [Act.put, List.setIfInBounds_toArray, List.set_cons_zero, List.set_cons_succ]
                refine wpAnyH_take (i := 8) (oi := ⟨some 103, _, _, _, _, _⟩) (v := .pointer (some ⟨P, v, none⟩)) rfl (by kernel_rfl) (by kernel_rfl) (by kernel_rfl) (fun _ _ _ h => h) (Or.inl ⟨by rfl, by intro w' hw'; obtain ⟨q0, q1⟩ := hw'; go_simp⟩) hS0 ?_
                simp only [Act.put, List.setIfInBounds_toArray, List.set_cons_zero, List.set_cons_succ]
                refine wpAnyH_take (i := 10) (oi := ⟨some 105, _, _, _, _, _⟩) (v := .int .i64 (y : Int)) rfl (by kernel_rfl) (by kernel_rfl) (by kernel_rfl) (fun _ _ _ h => h) (Or.inl ⟨by rfl, by intro w' hw'; obtain ⟨q0, q1⟩ := hw'; go_simp⟩) hS0 ?_
                simp only [Act.put, List.setIfInBounds_toArray, List.set_cons_zero, List.set_cons_succ]
                refine wpAnyH_ready (rs := [9]) (by kernel_rfl) (by simp) ?_
                refine AllReadyH.cons rfl (fun K hK => ?_) AllReadyH.nil
                go_simp
                (try go_wp2_with fail)
                refine hK.out _ _ hS0 (fun _ => ?_)
                clear hK K
                (try simp only [Act.put, List.setIfInBounds_toArray, List.set_cons_zero, List.set_cons_succ])
                refine wpAnyH_ready (rs := [11]) (by kernel_rfl) (by simp) ?_
                refine AllReadyH.cons rfl (fun K hK => ?_) AllReadyH.nil
                go_simp
                go_at_call 45
                refine HI16.out.mono ?_
                rintro e wi ⟨r', hr', v', rfl, h1, h2, h3⟩
                have g1 := h2.undrew.carry (p := ⟨w1.heap.size, 3, none⟩) H16.out.2.1 t3
                have g2 := h2.undrew.carry (p := ⟨eb, 1, none⟩) H16.out.2.2 e1
                have gS := And.intro g1 g2
                have eP := h2.undrew.carry (p := ⟨P, v, none⟩) H16.out.1 cPv
                have zP1 : wi.frozen? ⟨P, v, none⟩ = false := mg_free h2.undrew H16.out.1 cPv0 zP
                obtain ⟨ad', cap', rfl, -⟩ := own_form h1
                have HQ := Lib.hid (And.intro hr' (And.intro h1 (And.intro h2.undrew h3)))
                clear hr' h1 h2 h3 g1 g2
                (try go_wp2_with fail)
                refine hK.out _ _ gS (fun _ => ?_)
                clear hK K
                (try simp only [Act.put, List.setIfInBounds_toArray, List.set_cons_zero, List.set_cons_succ])
                refine wpAnyH_take (i := 12) (oi := ⟨some 107, _, _, _, _, _⟩) (v := .pointer (some ⟨P, v, none⟩)) rfl (by kernel_rfl) (by kernel_rfl) (by kernel_rfl) (fun _ _ _ h => h) (Or.inl ⟨by rfl, by intro w' hw'; obtain ⟨q0, q1⟩ := hw'; go_simp⟩) gS ?_
                simp only [Act.put, List.setIfInBounds_toArray, List.set_cons_zero, List.set_cons_succ]
                refine wpAnyH_ready (rs := [13]) (by kernel_rfl) (by simp) ?_
                refine AllReadyH.cons rfl (fun K hK => ?_) AllReadyH.nil
                go_simp
                (try go_wp2_with fail)
                refine hK.out _ _ (hset _ _ gS) (fun _ => ?_)
                clear hK K
                (try simp only [Act.put, List.setIfInBounds_toArray, List.set_cons_zero, List.set_cons_succ])
                refine wpAnyH_done (by kernel_rfl) ?_ _
                have HT2 : Hid (SS w (wi.setCell ⟨P, v, none⟩ (.slice ad' r'.length cap')) ((eb, Obj.cells #[.int .i64 (y : Int), .int .i64 (v : Int), .int .i64 c] 46) :: (csS R N ad L cap x D H P n w.heap.size w1.heap.size EB cE)) D H P qb n (dist.set v (dy + c)) (hv.set v (.slice none 0 0)) ((pv.set v (.slice none 0 0)).set v (.slice ad' r'.length cap')) (hops.set v []) ((pars.set v []).set v r') (ins.set v true) (keys.set v (tr R (v : Int) (dy + c))) gs2) := by
                  obtain ⟨_, q2, q3, q4⟩ := HQ.out
                  exact HT.out.par hvn q3 q2 q4
                have HR16 := Lib.hid HQ.out.1
                clear HT HI16 H16 HQ eP zP1 zP cPv cPv0 gS e1 t3 hset hvp
                generalize wi.setCell ⟨P, v, none⟩ (.slice ad' r'.length cap') = W2 at *
                generalize Value.slice ad' r'.length cap' = pnew at *
                have fE := HT2.out.fx (eb, Obj.cells #[.int .i64 (y : Int), .int .i64 (v : Int), .int .i64 c] 46) (by simp)
                have fG := HT2.out.fx (w.heap.size, ogr R N (.slice ad L cap)) (by simp [csS])
                have fR := HT2.out.fx (w.heap.size + 1, oroot x) (by simp [csS])
                have fT := HT2.out.fx (w1.heap.size, otree x D H P n) (by simp [csS])
                have e1 : W2.cell? ⟨eb, 1, none⟩ = some (.int .i64 (v : Int)) := cell_of fE.1 rfl
                have HMG := Lib.hid (merge_any W2 w1.heap.size (w.heap.size + 1) w.heap.size D H P n (x : Int) R y v _ _ _ _ _ hnb fT.1 (cell_of fR.1 rfl) (cell_of fG.1 rfl) HT2.out.tr hyn hvn hyv (fun hm => fT.2 (List.mem_append.2 (.inl hm))) (fun hm => fR.2 (List.mem_append.2 (.inl hm))) (fun hm => fG.2 (List.mem_append.2 (.inl hm))) (by rw [HH0.out.2.2]; exact HRO.out.1.1) (by rw [HH0.out.2.1]; intro z hz; cases hz) (by rw [HH0.out.2.1]; exact List.Pairwise.nil) (by rw [HH0.out.2.2]; exact HRO.out.1.2.2.2))
                clear fE fG fR fT
                go_wp2_with fail
                go_at_call 44
                refine HMG.out.mono ?_
                rintro e w3 ⟨rfl, xv, rh, ht3, hr3, hb3, hk3⟩
                have HT3 := Lib.hid ((HT2.out.hop hvn ht3 hb3 hk3).drop)
                have HR3 := Lib.hid (hr3.congr fun z => MgK.end_ z)
                clear HT2 HMG ht3 hr3 hb3 hk3 e1
                go_wp2_with fail
                go_roundg (K - (k + 1))
                case measure => omega
                case rel =>
                  refine ⟨k + 1, hlt, Nat.le_refl _, val_i (by omega), _, _, _, _, _, _, _, _, HT3, ?_⟩
                  exact InR.less' HV.out.1 HV.out.2.2 HV.out.2.1 HI.out HE.out HD.out.1 HD.out.2 a4 HR16.out HR3.out
          · have a3 : ¬ dv = dy + c := by omega
            have b3 : (dv != dy + c) = true := by simpa using a3
            have a4 : dv < 0 ∨ dy + c < dv := .inl (by omega)
            clear a3
            go_upto_region 14 with (fail)
            have fE := HSB.out.fx (eb, Obj.cells #[.int .i64 (y : Int), .int .i64 (v : Int), .int .i64 c] 46) (by simp)
            have fT := HSB.out.fx (w1.heap.size, otree x D H P n) (by simp [csS])
            have e1 : Wb.cell? ⟨eb, 1, none⟩ = some (.int .i64 (v : Int)) := cell_of fE.1 rfl
            have t1 : Wb.cell? ⟨w1.heap.size, 1, none⟩ = some (.slice (some ⟨D, 0, none⟩) n n) := cell_of fT.1 rfl
            have t2 : Wb.cell? ⟨w1.heap.size, 2, none⟩ = some (.slice (some ⟨H, 0, none⟩) n n) := cell_of fT.1 rfl
            have t3 : Wb.cell? ⟨w1.heap.size, 3, none⟩ = some (.slice (some ⟨P, 0, none⟩) n n) := cell_of fT.1 rfl
            have cDv := HSB.out.tr.cd hvn
            have cHv := HSB.out.tr.ch hvn
            have cPv := HSB.out.tr.cp hvn
            have zD := HSB.out.tr.fd v
            have zH := HSB.out.tr.fh v
            have zP := HSB.out.tr.fp v
            have nDH := HSB.out.tr.dh
            have nDP := HSB.out.tr.dp
            have nHP := HSB.out.tr.hp
            have nDT : D ≠ w1.heap.size := fun e => fT.2 (by simp [bkS, trB, ← e])
            have nHT : H ≠ w1.heap.size := fun e => fT.2 (by simp [bkS, trB, ← e])
            have nPT : P ≠ w1.heap.size := fun e => fT.2 (by simp [bkS, trB, ← e])
            have nDE : D ≠ eb := fun e => fE.2 (by simp [bkS, trB, ← e])
            have nHE : H ≠ eb := fun e => fE.2 (by simp [bkS, trB, ← e])
            have nPE : P ≠ eb := fun e => fE.2 (by simp [bkS, trB, ← e])
            clear fE fT
            generalize gVl hv v = hvv at cHv
            generalize gVl pv v = pvv at cPv
            generalize gI dist v = dvv at cDv
            have cHv1 : ∀ u, (Wb.setCell ⟨D, v, none⟩ u).cell? ⟨H, v, none⟩ = some hvv := fun u => by rw [World.cell?_setCell_far _ _ _ _ nDH]; exact cHv
            have cPv1 : ∀ u u', ((Wb.setCell ⟨D, v, none⟩ u).setCell ⟨H, v, none⟩ u').cell? ⟨P, v, none⟩ = some pvv := fun u u' => by rw [World.cell?_setCell_far _ _ _ _ nHP, World.cell?_setCell_far _ _ _ _ nDP]; exact cPv
            have zH1 : ∀ u, (Wb.setCell ⟨D, v, none⟩ u).frozen? ⟨H, v, none⟩ = false := fun u => by rw [World.frozen?_setCell]; exact zH
            have zP1 : ∀ u u', ((Wb.setCell ⟨D, v, none⟩ u).setCell ⟨H, v, none⟩ u').frozen? ⟨P, v, none⟩ = false := fun u u' => by rw [World.frozen?_setCell, World.frozen?_setCell]; exact zP
            have hset : ∀ (W : World) (g : Nat) (u : Value), g ≠ w1.heap.size → g ≠ eb → (W.cell? ⟨w1.heap.size, 1, none⟩ = some (.slice (some ⟨D, 0, none⟩) n n) ∧ W.cell? ⟨w1.heap.size, 2, none⟩ = some (.slice (some ⟨H, 0, none⟩) n n) ∧ W.cell? ⟨w1.heap.size, 3, none⟩ = some (.slice (some ⟨P, 0, none⟩) n n) ∧ W.cell? ⟨eb, 1, none⟩ = some (.int .i64 (v : Int))) →
                ((W.setCell ⟨g, v, none⟩ u).cell? ⟨w1.heap.size, 1, none⟩ = some (.slice (some ⟨D, 0, none⟩) n n) ∧ (W.setCell ⟨g, v, none⟩ u).cell? ⟨w1.heap.size, 2, none⟩ = some (.slice (some ⟨H, 0, none⟩) n n) ∧ (W.setCell ⟨g, v, none⟩ u).cell? ⟨w1.heap.size, 3, none⟩ = some (.slice (some ⟨P, 0, none⟩) n n) ∧ (W.setCell ⟨g, v, none⟩ u).cell? ⟨eb, 1, none⟩ = some (.int .i64 (v : Int))) :=
              fun W g u n1 n2 h => ⟨by rw [World.cell?_setCell_far _ _ _ _ n1]; exact h.1, by rw [World.cell?_setCell_far _ _ _ _ n1]; exact h.2.1, by rw [World.cell?_setCell_far _ _ _ _ n1]; exact h.2.2.1, by rw [World.cell?_setCell_far _ _ _ _ n2]; exact h.2.2.2⟩
            have gS := And.intro t1 (And.intro t2 (And.intro t3 e1))
            refine wp_region_held_drew (S := (fun W => W.cell? ⟨w1.heap.size, 1, none⟩ = some (.slice (some ⟨D, 0, none⟩) n n) ∧ W.cell? ⟨w1.heap.size, 2, none⟩ = some (.slice (some ⟨H, 0, none⟩) n n) ∧ W.cell? ⟨w1.heap.size, 3, none⟩ = some (.slice (some ⟨P, 0, none⟩) n n) ∧ W.cell? ⟨eb, 1, none⟩ = some (.int .i64 (v : Int)))) (by kernel_rfl) gS (fun hS0 => ?_)
            refine wpAnyH_take (i := 0) (oi := ⟨some 70, _, _, _, _, _⟩) (v := .pointer (some ⟨w1.heap.size, 1, none⟩)) rfl (by kernel_rfl) (by kernel_rfl) (by kernel_rfl) (fun _ _ _ h => h) (Or.inl ⟨by rfl, by intro w' hw'; obtain ⟨q0, q1, q2, q3⟩ := hw'; go_simp⟩) hS0 ?_
            simp only [Act.put, List.setIfInBounds_toArray, List.set_cons_zero, List.set_cons_succ]
            refine wpAnyH_take (i := 1) (oi := ⟨some 71, _, _, _, _, _⟩) (v := .slice (some ⟨D, 0, none⟩) n n) rfl (by kernel_rfl) (by kernel_rfl) (by kernel_rfl) (fun _ _ _ h => h) (Or.inl ⟨by rfl, by intro w' hw'; obtain ⟨q0, q1, q2, q3⟩ := hw'; go_simp⟩) hS0 ?_
            simp only [Act.put, List.setIfInBounds_toArray, List.set_cons_zero, List.set_cons_succ]
            refine wpAnyH_take (i := 2) (oi := ⟨some 72, _, _, _, _, _⟩) (v := .pointer (some ⟨eb, 1, none⟩)) rfl (by kernel_rfl) (by kernel_rfl) (by kernel_rfl) (fun _ _ _ h => h) (Or.inl ⟨by rfl, by intro w' hw'; obtain ⟨q0, q1, q2, q3⟩ := hw'; go_simp⟩) hS0 ?_
            simp only [Act.put, List.setIfInBounds_toArray, List.set_cons_zero, List.set_cons_succ]
            refine wpAnyH_take (i := 3) (oi := ⟨some 73, _, _, _, _, _⟩) (v := .int .i64 (v : Int)) rfl (by kernel_rfl) (by kernel_rfl) (by kernel_rfl) (fun _ _ _ h => h) (Or.inl ⟨by rfl, by intro w' hw'; obtain ⟨q0, q1, q2, q3⟩ := hw'; go_simp⟩) hS0 ?_
            simp only [Act.put, List.setIfInBounds_toArray, List.set_cons_zero, List.set_cons_succ]
            refine wpAnyH_take (i := 4) (oi := ⟨some 74, _, _, _, _, _⟩) (v := .pointer (some ⟨w1.heap.size, 2, none⟩)) rfl (by kernel_rfl) (by kernel_rfl) (by kernel_rfl) (fun _ _ _ h => h) (Or.inl ⟨by rfl, by intro w' hw'; obtain ⟨q0, q1, q2, q3⟩ := hw'; go_simp⟩) hS0 ?_
            simp only [Act.put, List.setIfInBounds_toArray, List.set_cons_zero, List.set_cons_succ]
            refine wpAnyH_take (i := 5) (oi := ⟨some 75, _, _, _, _, _⟩) (v := .slice (some ⟨H, 0, none⟩) n n) rfl (by kernel_rfl) (by kernel_rfl) (by kernel_rfl) (fun _ _ _ h => h) (Or.inl ⟨by rfl, by intro w' hw'; obtain ⟨q0, q1, q2, q3⟩ := hw'; go_simp⟩) hS0 ?_
            simp only [Act.put, List.setIfInBounds_toArray, List.set_cons_zero, List.set_cons_succ]
            refine wpAnyH_take (i := 6) (oi := ⟨some 76, _, _, _, _, _⟩) (v := .pointer (some ⟨eb, 1, none⟩)) rfl (by kernel_rfl) (by kernel_rfl) (by kernel_rfl) (fun _ _ _ h => h) (Or.inl ⟨by rfl, by intro w' hw'; obtain ⟨q0, q1, q2, q3⟩ := hw'; go_simp⟩) hS0 ?_
            simp only [Act.put, List.setIfInBounds_toArray, List.set_cons_zero, List.set_cons_succ]
            refine wpAnyH_take (i := 7) (oi := ⟨some 77, _, _, _, _, _⟩) (v := .int .i64 (v : Int)) rfl (by kernel_rfl) (by kernel_rfl) (by kernel_rfl) (fun _ _ _ h => h) (Or.inl ⟨by rfl, by intro w' hw'; obtain ⟨q0, q1, q2, q3⟩ := hw'; go_simp⟩) hS0 ?_
            simp only [Act.put, List.setIfInBounds_toArray, List.set_cons_zero, List.set_cons_succ]
            refine wpAnyH_take (i := 8) (oi := ⟨some 78, _, _, _, _, _⟩) (v := .pointer (some ⟨w1.heap.size, 3, none⟩)) rfl (by kernel_rfl) (by kernel_rfl) (by kernel_rfl) (fun _ _ _ h => h) (Or.inl ⟨by rfl, by intro w' hw'; obtain ⟨q0, q1, q2, q3⟩ := hw'; go_simp⟩) hS0 ?_
            simp only [Act.put, List.setIfInBounds_toArray, List.set_cons_zero, List.set_cons_succ]
            refine wpAnyH_take (i := 9) (oi := ⟨some 79, _, _, _, _, _⟩) (v := .slice (some ⟨P, 0, none⟩) n n) rfl (by kernel_rfl) (by kernel_rfl) (by kernel_rfl) (fun _ _ _ h => h) (Or.inl ⟨by rfl, by intro w' hw'; obtain ⟨q0, q1, q2, q3⟩ := hw'; go_simp⟩) hS0 ?_
            simp only [Act.put, List.setIfInBounds_toArray, List.set_cons_zero, List.set_cons_succ]
            refine wpAnyH_take (i := 10) (oi := ⟨some 80, _, _, _, _, _⟩) (v := .pointer (some ⟨eb, 1, none⟩)) rfl (by kernel_rfl) (by kernel_rfl) (by kernel_rfl) (fun _ _ _ h => h) (Or.inl ⟨by rfl, by intro w' hw'; obtain ⟨q0, q1, q2, q3⟩ := hw'; go_simp⟩) hS0 ?_
            simp only [Act.put, List.setIfInBounds_toArray, List.set_cons_zero, List.set_cons_succ]
            refine wpAnyH_take (i := 11) (oi := ⟨some 81, _, _, _, _, _⟩) (v := .int .i64 (v : Int)) rfl (by kernel_rfl) (by kernel_rfl) (by kernel_rfl) (fun _ _ _ h => h) (Or.inl ⟨by rfl, by intro w' hw'; obtain ⟨q0, q1, q2, q3⟩ := hw'; go_simp⟩) hS0 ?_
            simp only [Act.put, List.setIfInBounds_toArray, List.set_cons_zero, List.set_cons_succ]
            refine wpAnyH_take (i := 12) (oi := ⟨some 82, _, _, _, _, _⟩) (v := .int .i64 (dy + c)) rfl (by kernel_rfl) (by kernel_rfl) (by kernel_rfl) (fun _ _ _ h => h) (Or.inl ⟨by rfl, by intro w' hw'; obtain ⟨q0, q1, q2, q3⟩ := hw'; go_simp⟩) hS0 ?_
            simp only [Act.put, List.setIfInBounds_toArray, List.set_cons_zero, List.set_cons_succ]
            refine wpAnyH_take (i := 13) (oi := ⟨some 83, _, _, _, _, _⟩) (v := .pointer (some ⟨D, v, none⟩)) rfl (by kernel_rfl) (by kernel_rfl) (by kernel_rfl) (fun _ _ _ h => h) (Or.inl ⟨by rfl, by intro w' hw'; obtain ⟨q0, q1, q2, q3⟩ := hw'; go_simp⟩) hS0 ?_
            simp only [Act.put, List.setIfInBounds_toArray, List.set_cons_zero, List.set_cons_succ]
            refine wpAnyH_ready (rs := [14]) (by kernel_rfl) (by simp) ?_
            refine AllReadyH.cons rfl (fun K hK => ?_) AllReadyH.nil
            go_simp
            (try go_wp2_with fail)
            refine hK.out _ _ (hset _ D _ nDT nDE gS) (fun _ => ?_)
            clear hK K
            (try simp only [Act.put, List.setIfInBounds_toArray, List.set_cons_zero, List.set_cons_succ])
            refine wpAnyH_take (i := 15) (oi := ⟨some 84, _, _, _, _, _⟩) (v := .pointer (some ⟨H, v, none⟩)) rfl (by kernel_rfl) (by kernel_rfl) (by kernel_rfl) (fun _ _ _ h => h) (Or.inl ⟨by rfl, by intro w' hw'; obtain ⟨q0, q1, q2, q3⟩ := hw'; go_simp⟩) (hset _ D _ nDT nDE gS) ?_
            simp only [Act.put, List.setIfInBounds_toArray, List.set_cons_zero, List.set_cons_succ]
            refine wpAnyH_ready (rs := [16]) (by kernel_rfl) (by simp) ?_
            refine AllReadyH.cons rfl (fun K hK => ?_) AllReadyH.nil
            go_simp
            (try go_wp2_with fail)
            refine hK.out _ _ (hset _ H _ nHT nHE (hset _ D _ nDT nDE gS)) (fun _ => ?_)
            clear hK K
            (try simp only [Act.put, List.setIfInBounds_toArray, List.set_cons_zero, List.set_cons_succ])
            refine wpAnyH_take (i := 17) (oi := ⟨some 85, _, _, _, _, _⟩) (v := .pointer (some ⟨P, v, none⟩)) rfl (by kernel_rfl) (by kernel_rfl) (by kernel_rfl) (fun _ _ _ h => h) (Or.inl ⟨by rfl, by intro w' hw'; obtain ⟨q0, q1, q2, q3⟩ := hw'; go_simp⟩) (hset _ H _ nHT nHE (hset _ D _ nDT nDE gS)) ?_
            simp only [Act.put, List.setIfInBounds_toArray, List.set_cons_zero, List.set_cons_succ]
            refine wpAnyH_ready (rs := [18]) (by kernel_rfl) (by simp) ?_
            refine AllReadyH.cons rfl (fun K hK => ?_) AllReadyH.nil
            go_simp
            (try go_wp2_with fail)
            refine hK.out _ _ (hset _ P _ nPT nPE (hset _ H _ nHT nHE (hset _ D _ nDT nDE gS))) (fun _ => ?_)
            clear hK K
            (try simp only [Act.put, List.setIfInBounds_toArray, List.set_cons_zero, List.set_cons_succ])
            refine wpAnyH_done (by kernel_rfl) ?_ _
            have HT0 : Hid (SS w ((((Wb.setCell ⟨D, v, none⟩ (.int .i64 (dy + c))).setCell ⟨H, v, none⟩ (.slice none 0 0)).setCell ⟨P, v, none⟩ (.slice none 0 0)).drew) ((eb, Obj.cells #[.int .i64 (y : Int), .int .i64 (v : Int), .int .i64 c] 46) :: (csS R N ad L cap x D H P n w.heap.size w1.heap.size EB cE)) D H P qb n (dist.set v (dy + c)) (hv.set v (.slice none 0 0)) (pv.set v (.slice none 0 0)) (hops.set v []) (pars.set v []) ins keys gs) :=
              (HSB.out.anew hvn (dy + c)).grow (Below.refl _ _).drew
            clear HSB cDv cHv cPv zD zH zP nDH nDP nHP nDT nHT nPT nDE nHE nPE e1 t1 t2 t3 cHv1 cPv1 zH1 zP1 hset gS
            generalize ((((Wb.setCell ⟨D, v, none⟩ (.int .i64 (dy + c))).setCell ⟨H, v, none⟩ (.slice none 0 0)).setCell ⟨P, v, none⟩ (.slice none 0 0)).drew) = W0 at *
            have fE := HT0.out.fx (eb, Obj.cells #[.int .i64 (y : Int), .int .i64 (v : Int), .int .i64 c] 46) (by simp)
            have fG := HT0.out.fx (w.heap.size, ogr R N (.slice ad L cap)) (by simp [csS])
            have e1 : W0.cell? ⟨eb, 1, none⟩ = some (.int .i64 (v : Int)) := cell_of fE.1 rfl
            have g0 : W0.cell? ⟨w.heap.size, 0, none⟩ = some (.int .i64 R) := cell_of fG.1 rfl
            have g1 : W0.cell? ⟨w.heap.size, 1, none⟩ = some (.int .i64 N) := cell_of fG.1 rfl
            have g2 : W0.cell? ⟨w.heap.size, 2, none⟩ = some (.slice ad L cap) := cell_of fG.1 rfl
            have HTU : Hid (∀ W, Calls Try.prog 50 #[.agg #[.int .i64 R, .int .i64 N, .slice ad L cap], .int .i64 (v : Int), .int .i64 (dy + c)] W fun e w' => e = .returned (.int .i64 (tr R (v : Int) (dy + c))) ∧ Below W.heap.size W w') := fun W => turn_any R N _ (v : Int) (dy + c) W ⟨hR, by omega⟩ ⟨by omega, by omega⟩
            clear fE fG
            go_upto_region 15 with (fail)
            refine wp_region_held_drew (S := (fun W => W.cell? ⟨eb, 1, none⟩ = some (.int .i64 (v : Int)) ∧ W.cell? ⟨w.heap.size, 0, none⟩ = some (.int .i64 R) ∧ W.cell? ⟨w.heap.size, 1, none⟩ = some (.int .i64 N) ∧ W.cell? ⟨w.heap.size, 2, none⟩ = some (.slice ad L cap))) (by kernel_rfl) ⟨e1, g0, g1, g2⟩ (fun hS0 => ?_)
            refine wpAnyH_take (i := 0) (oi := ⟨some 86, _, _, _, _, _⟩) (v := .pointer (some ⟨qb, 0, none⟩)) rfl (by kernel_rfl) (by kernel_rfl) (by kernel_rfl) (fun _ _ _ h => h) (Or.inl ⟨by rfl, by intro w' hw'; obtain ⟨q0, q1, q2, q3⟩ := hw'; go_simp⟩) hS0 ?_
            simp only [Act.put, List.setIfInBounds_toArray, List.set_cons_zero, List.set_cons_succ]
            refine wpAnyH_take (i := 1) (oi := ⟨some 87, _, _, _, _, _⟩) (v := .pointer (some ⟨eb, 1, none⟩)) rfl (by kernel_rfl) (by kernel_rfl) (by kernel_rfl) (fun _ _ _ h => h) (Or.inl ⟨by rfl, by intro w' hw'; obtain ⟨q0, q1, q2, q3⟩ := hw'; go_simp⟩) hS0 ?_
            simp only [Act.put, List.setIfInBounds_toArray, List.set_cons_zero, List.set_cons_succ]
            refine wpAnyH_take (i := 2) (oi := ⟨some 88, _, _, _, _, _⟩) (v := .int .i64 (v : Int)) rfl (by kernel_rfl) (by kernel_rfl) (by kernel_rfl) (fun _ _ _ h => h) (Or.inl ⟨by rfl, by intro w' hw'; obtain ⟨q0, q1, q2, q3⟩ := hw'; go_simp⟩) hS0 ?_
            simp only [Act.put, List.setIfInBounds_toArray, List.set_cons_zero, List.set_cons_succ]
            refine wpAnyH_take (i := 3) (oi := ⟨some 89, _, _, _, _, _⟩) (v := .agg #[.int .i64 R, .int .i64 N, .slice ad L cap]) rfl (by kernel_rfl) (by kernel_rfl) (by kernel_rfl) (fun _ _ _ h => h) (Or.inl ⟨by rfl, by intro w' hw'; obtain ⟨q0, q1, q2, q3⟩ := hw'; go_simp⟩) hS0 ?_
            simp only [Act.put, List.setIfInBounds_toArray, List.set_cons_zero, List.set_cons_succ]
            refine wpAnyH_take (i := 4) (oi := ⟨some 90, _, _, _, _, _⟩) (v := .pointer (some ⟨eb, 1, none⟩)) rfl (by kernel_rfl) (by kernel_rfl) (by kernel_rfl) (fun _ _ _ h => h) (Or.inl ⟨by rfl, by intro w' hw'; obtain ⟨q0, q1, q2, q3⟩ := hw'; go_simp⟩) hS0 ?_
            simp only [Act.put, List.setIfInBounds_toArray, List.set_cons_zero, List.set_cons_succ]
            refine wpAnyH_take (i := 5) (oi := ⟨some 91, _, _, _, _, _⟩) (v := .int .i64 (v : Int)) rfl (by kernel_rfl) (by kernel_rfl) (by kernel_rfl) (fun _ _ _ h => h) (Or.inl ⟨by rfl, by intro w' hw'; obtain ⟨q0, q1, q2, q3⟩ := hw'; go_simp⟩) hS0 ?_
            simp only [Act.put, List.setIfInBounds_toArray, List.set_cons_zero, List.set_cons_succ]
            refine wpAnyH_take (i := 6) (oi := ⟨some 92, _, _, _, _, _⟩) (v := .int .i64 (dy + c)) rfl (by kernel_rfl) (by kernel_rfl) (by kernel_rfl) (fun _ _ _ h => h) (Or.inl ⟨by rfl, by intro w' hw'; obtain ⟨q0, q1, q2, q3⟩ := hw'; go_simp⟩) hS0 ?_
            simp only [Act.put, List.setIfInBounds_toArray, List.set_cons_zero, List.set_cons_succ]
            refine wpAnyH_ready (rs := [7]) (by kernel_rfl) (by simp) ?_
            refine AllReadyH.cons rfl (fun K hK => ?_) AllReadyH.nil
            go_simp
            go_at_call 50
            refine (HTU.out _).mono ?_
            rintro e wt ⟨rfl, hbt⟩
            have hbt' : Below W0.heap.size W0 wt := ⟨hbt.os, hbt.tape, hbt.output, hbt.size, hbt.block⟩
            have HST15 := Lib.hid (HT0.out.grow hbt')
            have gS1 := And.intro (carry hbt' e1) (And.intro (carry hbt' g0) (And.intro (carry hbt' g1) (carry hbt' g2)))
            clear hbt hbt'
            (try go_wp2_with fail)
            refine hK.out _ _ gS1 (fun _ => ?_)
            clear hK K
            (try simp only [Act.put, List.setIfInBounds_toArray, List.set_cons_zero, List.set_cons_succ])
            refine wpAnyH_ready (rs := [8]) (by kernel_rfl) (by simp) ?_
            refine AllReadyH.cons rfl (fun K hK => ?_) AllReadyH.nil
            go_simp
            go_at_call 48
            refine (set_in wt qb n _ _ _ HST15.out.hq v (tr R (v : Int) (dy + c)) hvn).mono ?_
            rintro e ws ⟨rfl, hput⟩
            obtain ⟨gs2, h15⟩ := HST15.out.put hput
            have gS2 : (fun W => W.cell? ⟨eb, 1, none⟩ = some (.int .i64 (v : Int)) ∧ W.cell? ⟨w.heap.size, 0, none⟩ = some (.int .i64 R) ∧ W.cell? ⟨w.heap.size, 1, none⟩ = some (.int .i64 N) ∧ W.cell? ⟨w.heap.size, 2, none⟩ = some (.slice ad L cap)) ws := ⟨cell_of (h15.fx (eb, Obj.cells #[.int .i64 (y : Int), .int .i64 (v : Int), .int .i64 c] 46) (by simp)).1 rfl, cell_of (h15.fx (w.heap.size, ogr R N (.slice ad L cap)) (by simp [csS])).1 rfl, cell_of (h15.fx (w.heap.size, ogr R N (.slice ad L cap)) (by simp [csS])).1 rfl, cell_of (h15.fx (w.heap.size, ogr R N (.slice ad L cap)) (by simp [csS])).1 rfl⟩
            (try go_wp2_with fail)
            refine hK.out _ _ gS2 (fun _ => ?_)
            clear hK K
            (try simp only [Act.put, List.setIfInBounds_toArray, List.set_cons_zero, List.set_cons_succ])
            refine wpAnyH_done (by kernel_rfl) ?_ _
            have HT := Lib.hid h15
            clear HT0 HTU HST15 h15 hput e1 g0 g1 g2 gS1 gS2
            have hp0 : gL (pars.set v []) v = [] := by rw [gL_set (by have := HT.out.tr.lp; rw [List.length_set] at this; omega), if_pos rfl]
            have hh0 : gL (hops.set v []) v = [] := by rw [gL_set (by have := HT.out.tr.lh; rw [List.length_set] at this; omega), if_pos rfl]
            have hh1 : gL (hops.set v []) y = gL hops y := by rw [gL_set (by have := HT.out.tr.lh; rw [List.length_set] at this; omega), if_neg hyv]
            have HH0 := Lib.hid (And.intro hp0 (And.intro hh0 hh1))
            clear hp0 hh0 hh1
            have fE := HT.out.fx (eb, Obj.cells #[.int .i64 (y : Int), .int .i64 (v : Int), .int .i64 c] 46) (by simp)
            have fT := HT.out.fx (w1.heap.size, otree x D H P n) (by simp [csS])
            have e1 : ws.cell? ⟨eb, 1, none⟩ = some (.int .i64 (v : Int)) := cell_of fE.1 rfl
            have t3 : ws.cell? ⟨w1.heap.size, 3, none⟩ = some (.slice (some ⟨P, 0, none⟩) n n) := cell_of fT.1 rfl
            have cPv := HT.out.tr.cp hvn
            have zP := HT.out.tr.fp v
            have hrow : ws.drew.ownsRow 0 3 1 (gVl (pv.set v (.slice none 0 0)) v) (gL (pars.set v []) v).length (ints (gL (pars.set v []) v)) := row_congr (HT.out.tr.pp.row v (by rw [HT.out.tr.lp]; exact hvn)) fun _ _ => rfl
            have hpp : (gL (pars.set v []) v).Pairwise (· < ·) ∧ (gL (pars.set v []) v).length ≤ n := (by rw [HH0.out.1]; exact ⟨List.Pairwise.nil, Nat.zero_le _⟩)
            have HI16 := Lib.hid (insert_any ws.drew (gVl (pv.set v (.slice none 0 0)) v) (gL (pars.set v []) v) (y : Int) hrow hpp.1 (by omega))
            have hvp : v < ((pv.set v (.slice none 0 0)) : List Value).length := by rw [HT.out.tr.lpv]; exact hvn
            have hPx : P ∉ vblk (gVl (pv.set v (.slice none 0 0)) v) := fun hm => (HT.out.tr.xp P (vblk_rblk hvp hm)).2.2 rfl
            have hTx : w1.heap.size ∉ vblk (gVl (pv.set v (.slice none 0 0)) v) := fun hm => fT.2 (by simp [bkS, trB, vblk_rblk hvp hm])
            have hEx : eb ∉ vblk (gVl (pv.set v (.slice none 0 0)) v) := fun hm => fE.2 (by simp [bkS, trB, vblk_rblk hvp hm])
            have hPT : P ≠ w1.heap.size := fun e => fT.2 (by simp [bkS, trB, ← e])
            have hPE : P ≠ eb := fun e => fE.2 (by simp [bkS, trB, ← e])
            have H16 := Lib.hid (And.intro hPx (And.intro hTx hEx))
            have hset : ∀ (W : World) (u : Value), (W.cell? ⟨w1.heap.size, 3, none⟩ = some (.slice (some ⟨P, 0, none⟩) n n) ∧ W.cell? ⟨eb, 1, none⟩ = some (.int .i64 (v : Int))) → ((W.setCell ⟨P, v, none⟩ u).cell? ⟨w1.heap.size, 3, none⟩ = some (.slice (some ⟨P, 0, none⟩) n n) ∧ (W.setCell ⟨P, v, none⟩ u).cell? ⟨eb, 1, none⟩ = some (.int .i64 (v : Int))) := fun W u h => ⟨by rw [World.cell?_setCell_far _ _ _ _ hPT]; exact h.1, by rw [World.cell?_setCell_far _ _ _ _ hPE]; exact h.2⟩
            have cPv0 := cPv
            clear hrow hpp hPx hTx hEx hPT hPE fE fT
            go_upto_region 16 with (fail)
            refine wp_region_held_drew (S := (fun W => W.cell? ⟨w1.heap.size, 3, none⟩ = some (.slice (some ⟨P, 0, none⟩) n n) ∧ W.cell? ⟨eb, 1, none⟩ = some (.int .i64 (v : Int)))) (by kernel_rfl) ⟨t3, e1⟩ (fun hS0 => ?_)
            refine wpAnyH_take (i := 0) (oi := ⟨some 95, _, _, _, _, _⟩) (v := .pointer (some ⟨w1.heap.size, 3, none⟩)) rfl (by kernel_rfl) (by kernel_rfl) (by kernel_rfl) (fun _ _ _ h => h) (Or.inl ⟨by rfl, by intro w' hw'; obtain ⟨q0, q1⟩ := hw'; go_simp⟩) hS0 ?_
            simp only [Act.put, List.setIfInBounds_toArray, List.set_cons_zero, List.set_cons_succ]
            refine wpAnyH_take (i := 1) (oi := ⟨some 96, _, _, _, _, _⟩) (v := .slice (some ⟨P, 0, none⟩) n n) rfl (by kernel_rfl) (by kernel_rfl) (by kernel_rfl) (fun _ _ _ h => h) (Or.inl ⟨by rfl, by intro w' hw'; obtain ⟨q0, q1⟩ := hw'; go_simp⟩) hS0 ?_
            simp only [Act.put, List.setIfInBounds_toArray, List.set_cons_zero, List.set_cons_succ]
            refine wpAnyH_take (i := 2) (oi := ⟨some 97, _, _, _, _, _⟩) (v := .pointer (some ⟨eb, 1, none⟩)) rfl (by kernel_rfl) (by kernel_rfl) (by kernel_rfl) (fun _ _ _ h => h) (Or.inl ⟨by rfl, by intro w' hw'; obtain ⟨q0, q1⟩ := hw'; go_simp⟩) hS0 ?_
            simp only [Act.put, List.setIfInBounds_toArray, List.set_cons_zero, List.set_cons_succ]
            refine wpAnyH_take (i := 3) (oi := ⟨some 98, _, _, _, _, _⟩) (v := .int .i64 (v : Int)) rfl (by kernel_rfl) (by kernel_rfl) (by kernel_rfl) (fun _ _ _ h => h) (Or.inl ⟨by rfl, by intro w' hw'; obtain ⟨q0, q1⟩ := hw'; go_simp⟩) hS0 ?_
            simp only [Act.put, List.setIfInBounds_toArray, List.set_cons_zero, List.set_cons_succ]
            refine wpAnyH_take (i := 4) (oi := ⟨some 99, _, _, _, _, _⟩) (v := .pointer (some ⟨w1.heap.size, 3, none⟩)) rfl (by kernel_rfl) (by kernel_rfl) (by kernel_rfl) (fun _ _ _ h => h) (Or.inl ⟨by rfl, by intro w' hw'; obtain ⟨q0, q1⟩ := hw'; go_simp⟩) hS0 ?_
            simp only [Act.put, List.setIfInBounds_toArray, List.set_cons_zero, List.set_cons_succ]
            refine wpAnyH_take (i := 5) (oi := ⟨some 100, _, _, _, _, _⟩) (v := .slice (some ⟨P, 0, none⟩) n n) rfl (by kernel_rfl) (by kernel_rfl) (by kernel_rfl) (fun _ _ _ h => h) (Or.inl ⟨by rfl, by intro w' hw'; obtain ⟨q0, q1⟩ := hw'; go_simp⟩) hS0 ?_
            simp only [Act.put, List.setIfInBounds_toArray, List.set_cons_zero, List.set_cons_succ]
            refine wpAnyH_take (i := 6) (oi := ⟨some 101, _, _, _, _, _⟩) (v := .pointer (some ⟨eb, 1, none⟩)) rfl (by kernel_rfl) (by kernel_rfl) (by kernel_rfl) (fun _ _ _ h => h) (Or.inl ⟨by rfl, by intro w' hw'; obtain ⟨q0, q1⟩ := hw'; go_simp⟩) hS0 ?_
            simp only [Act.put, List.setIfInBounds_toArray, List.set_cons_zero, List.set_cons_succ]
            refine wpAnyH_take (i := 7) (oi := ⟨some 102, _, _, _, _, _⟩) (v := .int .i64 (v : Int)) rfl (by kernel_rfl) (by kernel_rfl) (by kernel_rfl) (fun _ _ _ h => h) (Or.inl ⟨by rfl, by intro w' hw'; obtain ⟨q0, q1⟩ := hw'; go_simp⟩) hS0 ?_
            simp only [Act.put, List.setIfInBounds_toArray, List.set_cons_zero, List.set_cons_succ]
            refine wpAnyH_take (i := 8) (oi := ⟨some 103, _, _, _, _, _⟩) (v := .pointer (some ⟨P, v, none⟩)) rfl (by kernel_rfl) (by kernel_rfl) (by kernel_rfl) (fun _ _ _ h => h) (Or.inl ⟨by rfl, by intro w' hw'; obtain ⟨q0, q1⟩ := hw'; go_simp⟩) hS0 ?_
            simp only [Act.put, List.setIfInBounds_toArray, List.set_cons_zero, List.set_cons_succ]
            refine wpAnyH_take (i := 10) (oi := ⟨some 105, _, _, _, _, _⟩) (v := .int .i64 (y : Int)) rfl (by kernel_rfl) (by kernel_rfl) (by kernel_rfl) (fun _ _ _ h => h) (Or.inl ⟨by rfl, by intro w' hw'; obtain ⟨q0, q1⟩ := hw'; go_simp⟩) hS0 ?_
            simp only [Act.put, List.setIfInBounds_toArray, List.set_cons_zero, List.set_cons_succ]
            refine wpAnyH_ready (rs := [9]) (by kernel_rfl) (by simp) ?_
            refine AllReadyH.cons rfl (fun K hK => ?_) AllReadyH.nil
            go_simp
            (try go_wp2_with fail)
            refine hK.out _ _ hS0 (fun _ => ?_)
            clear hK K
            (try simp only [Act.put, List.setIfInBounds_toArray, List.set_cons_zero, List.set_cons_succ])
            refine wpAnyH_ready (rs := [11]) (by kernel_rfl) (by simp) ?_
            refine AllReadyH.cons rfl (fun K hK => ?_) AllReadyH.nil
            go_simp
            go_at_call 45
            refine HI16.out.mono ?_
            rintro e wi ⟨r', hr', v', rfl, h1, h2, h3⟩
            have g1 := h2.undrew.carry (p := ⟨w1.heap.size, 3, none⟩) H16.out.2.1 t3
            have g2 := h2.undrew.carry (p := ⟨eb, 1, none⟩) H16.out.2.2 e1
            have gS := And.intro g1 g2
            have eP := h2.undrew.carry (p := ⟨P, v, none⟩) H16.out.1 cPv
            have zP1 : wi.frozen? ⟨P, v, none⟩ = false := mg_free h2.undrew H16.out.1 cPv0 zP
            obtain ⟨ad', cap', rfl, -⟩ := own_form h1
            have HQ := Lib.hid (And.intro hr' (And.intro h1 (And.intro h2.undrew h3)))
            clear hr' h1 h2 h3 g1 g2
            (try go_wp2_with fail)
            refine hK.out _ _ gS (fun _ => ?_)
            clear hK K
            (try simp only [Act.put, List.setIfInBounds_toArray, List.set_cons_zero, List.set_cons_succ])
            refine wpAnyH_take (i := 12) (oi := ⟨some 107, _, _, _, _, _⟩) (v := .pointer (some ⟨P, v, none⟩)) rfl (by kernel_rfl) (by kernel_rfl) (by kernel_rfl) (fun _ _ _ h => h) (Or.inl ⟨by rfl, by intro w' hw'; obtain ⟨q0, q1⟩ := hw'; go_simp⟩) gS ?_
            simp only [Act.put, List.setIfInBounds_toArray, List.set_cons_zero, List.set_cons_succ]
            refine wpAnyH_ready (rs := [13]) (by kernel_rfl) (by simp) ?_
            refine AllReadyH.cons rfl (fun K hK => ?_) AllReadyH.nil
            go_simp
            (try go_wp2_with fail)
            refine hK.out _ _ (hset _ _ gS) (fun _ => ?_)
            clear hK K
            (try simp only [Act.put, List.setIfInBounds_toArray, List.set_cons_zero, List.set_cons_succ])
            refine wpAnyH_done (by kernel_rfl) ?_ _
            have HT2 : Hid (SS w (wi.setCell ⟨P, v, none⟩ (.slice ad' r'.length cap')) ((eb, Obj.cells #[.int .i64 (y : Int), .int .i64 (v : Int), .int .i64 c] 46) :: (csS R N ad L cap x D H P n w.heap.size w1.heap.size EB cE)) D H P qb n (dist.set v (dy + c)) (hv.set v (.slice none 0 0)) ((pv.set v (.slice none 0 0)).set v (.slice ad' r'.length cap')) (hops.set v []) ((pars.set v []).set v r') (ins.set v true) (keys.set v (tr R (v : Int) (dy + c))) gs2) := by
              obtain ⟨_, q2, q3, q4⟩ := HQ.out
              exact HT.out.par hvn q3 q2 q4
            have HR16 := Lib.hid HQ.out.1
            clear HT HI16 H16 HQ eP zP1 zP cPv cPv0 gS e1 t3 hset hvp
            generalize wi.setCell ⟨P, v, none⟩ (.slice ad' r'.length cap') = W2 at *
            generalize Value.slice ad' r'.length cap' = pnew at *
            have fE := HT2.out.fx (eb, Obj.cells #[.int .i64 (y : Int), .int .i64 (v : Int), .int .i64 c] 46) (by simp)
            have fG := HT2.out.fx (w.heap.size, ogr R N (.slice ad L cap)) (by simp [csS])
            have fR := HT2.out.fx (w.heap.size + 1, oroot x) (by simp [csS])
            have fT := HT2.out.fx (w1.heap.size, otree x D H P n) (by simp [csS])
            have e1 : W2.cell? ⟨eb, 1, none⟩ = some (.int .i64 (v : Int)) := cell_of fE.1 rfl
            have HMG := Lib.hid (merge_any W2 w1.heap.size (w.heap.size + 1) w.heap.size D H P n (x : Int) R y v _ _ _ _ _ hnb fT.1 (cell_of fR.1 rfl) (cell_of fG.1 rfl) HT2.out.tr hyn hvn hyv (fun hm => fT.2 (List.mem_append.2 (.inl hm))) (fun hm => fR.2 (List.mem_append.2 (.inl hm))) (fun hm => fG.2 (List.mem_append.2 (.inl hm))) (by rw [HH0.out.2.2]; exact HRO.out.1.1) (by rw [HH0.out.2.1]; intro z hz; cases hz) (by rw [HH0.out.2.1]; exact List.Pairwise.nil) (by rw [HH0.out.2.2]; exact HRO.out.1.2.2.2))
            clear fE fG fR fT
            go_wp2_with fail
            go_at_call 44
            refine HMG.out.mono ?_
            rintro e w3 ⟨rfl, xv, rh, ht3, hr3, hb3, hk3⟩
            have HT3 := Lib.hid ((HT2.out.hop hvn ht3 hb3 hk3).drop)
            have HR3 := Lib.hid (hr3.congr fun z => MgK.end_ z)
            clear HT2 HMG ht3 hr3 hb3 hk3 e1
            go_wp2_with fail
            go_roundg (K - (k + 1))
            case measure => omega
            case rel =>
              refine ⟨k + 1, hlt, Nat.le_refl _, val_i (by omega), _, _, _, _, _, _, _, _, HT3, ?_⟩
              exact InR.less' HV.out.1 HV.out.2.2 HV.out.2.1 HI.out HE.out HD.out.1 HD.out.2 a4 HR16.out HR3.out
        · have hkK : k = K := by omega
          subst hkK
          have k1 : decide ((k : Int) < (k : Int)) = false := decide_eq_false (by omega)
          have HO : Hid (OutR R N l x n (G - 1) dist hops pars ins keys) := by
            have h := HI.out
            rw [← HK.out] at h
            exact h.done (by omega)
          clear HI
          go_wp2_with fail
          go_roundg (G - 1)
          case measure => have := HG.out; omega
          case rel => exact ⟨⟨_, rfl⟩, _, _, _, _, _, _, _, _, HS, HO⟩
end Go.Proofs.Ytmlpbhankgojpaa
