/-
  The reference's table in memory.
  The walk of the reference's Distances.
-/
import Derived.Test.YtmlpbhankgojpaaSpMem
import Derived.Test.YtmlpbhankgojpaaSpFe
import Derived.Test.YtmlpbhankgojpaaSpSt
import Derived.Test.YtmlpbhankgojpaaGrE
namespace Go.Proofs.Ytmlpbhankgojpaa
open Go.RowKit HM SP
set_option linter.unusedSimpArgs false
set_option linter.unusedVariables false
set_option maxHeartbeats 4000000
set_option maxRecDepth 100000
/-- a table of n rows in memory, made since w0, whose first block is bx -/
def TB (w0 : World) (bx : Obj) (H n : Nat) (tab : List (List Int)) (wr : World) : Prop :=
  ∃ vs, wr.ownsRow 0 25 1 (.slice (some ⟨H, 0, none⟩) n n) n vs ∧ RS wr vs tab ∧ (∀ g ∈ rblk vs, g ≠ H ∧ w0.heap.size < g) ∧ Below w0.heap.size w0 wr ∧ wr.heap[w0.heap.size]? = some bx ∧ w0.heap.size < H
section
variable {w0 wr : World} {bx : Obj} {H n : Nat} {tab : List (List Int)}
theorem TB.drew (h : TB w0 bx H n tab wr) : TB w0 bx H n tab wr.drew := by
  obtain ⟨vs, h1, h2, h3, h4, h5, h6⟩ := h
  exact ⟨vs, h1.drew, h2.congr fun g hg => rfl, h3, h4.drew, h5, h6⟩
theorem TB.drewN (h : TB w0 bx H n tab wr) (q : Nat) : TB w0 bx H n tab (wr.drewN q) := by
  obtain ⟨vs, h1, h2, h3, h4, h5, h6⟩ := h
  exact ⟨vs, row_congr h1 fun g hg => rfl, h2.congr fun g hg => rfl, h3, below_drewN h4 q, h5, h6⟩
theorem TB.len (h : TB w0 bx H n tab wr) : tab.length = n := by
  obtain ⟨vs, h1, h2, _⟩ := h
  rw [← h2.len]; have := h1.1; omega
theorem TB.start {w1 : World} (hb : Below w0.heap.size w0 w1) (hx : w1.heap[w0.heap.size]? = some bx) (hn : n ≤ 65536) {b : Nat} (e : b = w1.heap.size) : TB w0 bx b n (List.replicate n []) (w1.alloc (.cells (madeCells #[.slice none 0 0] n) 25)) := by
  subst e
  refine ⟨List.replicate n (.slice none 0 0), made_rowE w1 n 25 hn rfl, RS.nils _ n, fun g hg => ?_, below_then hb (below_alloc _ _), heap_up hx, lt_block hx⟩
  obtain ⟨v, h1, h2⟩ := mem_rblk.1 hg
  rw [List.length_replicate] at h1
  unfold gVl at h2
  simp [h1, Value.ownBlock] at h2
/-- a row that is full, opened: what its cells hold, what a store into it does -/
theorem TB.at_ (h : TB w0 bx H n tab wr) {i : Nat} (hi : i < n) (hl : (gL tab i).length = n) (h0 : 0 < n) :
    ∃ g cap, wr.cell? ⟨H, i, none⟩ = some (.slice (some ⟨g, 0, none⟩) n cap) ∧ n ≤ cap ∧ (∀ k, k < n → wr.cell? ⟨g, k, none⟩ = some (.int .i64 (at2 tab i k))) ∧ (∀ o, wr.frozen? ⟨g, o, none⟩ = false) ∧
      ∀ k x, TB w0 bx H n (setT tab i k x) (wr.setCell ⟨g, k, none⟩ (.int .i64 x)) := by
  have hlen := h.len
  obtain ⟨vs, h1, h2, h3, h4, h5, h6⟩ := h
  have hv : vs.length = n := by have := h1.1; omega
  have hr := h2.row i (by omega)
  rw [hl] at hr
  rcases hr.2 with ⟨e1, e2⟩ | ⟨g, cap, cur, e1, _, hg, hcur, hcap, hlv⟩
  · omega
  · have hgb : (gVl vs i).ownBlock = some g := by rw [e1]; rfl
    have hgr : g ∈ rblk vs := mem_rblk.2 ⟨i, by omega, hgb⟩
    obtain ⟨hgH, hg0⟩ := h3 g hgr
    have hrow := hr
    rw [e1] at hrow
    refine ⟨g, cap, ?_, hcur, fun k hk => ?_, fun o => hrow.frozenAt o, fun k x => ?_⟩
    · rw [h1.cellAt i (by omega), gVl_get (by omega), e1]
    · rw [hrow.cellAt k (by omega)]
      exact ints_get (gI_get (by omega))
    · have hst := (hrow.stored k (.int .i64 x)).1
      rw [ints_set] at hst
      have hput : RS (wr.setCell ⟨g, k, none⟩ (.int .i64 x)) (vs.set i (gVl vs i)) (tab.set i ((gL tab i).set k x)) := by
        refine h2.put (by omega) ((Kp.refl _ _).setCell (.inl ?_)) ?_ (fun g' hg' => .inl hg')
        · exact mem_vblk.2 hgb
        · rw [List.length_set, hl, e1]; exact hst
      have hset : vs.set i (gVl vs i) = vs := by
        apply List.ext_getElem?
        intro j
        rw [List.getElem?_set]
        by_cases e : i = j
        · subst e; rw [if_pos rfl, if_pos (by omega), gVl_get (by omega)]
        · rw [if_neg e]
      rw [hset] at hput
      exact ⟨vs, row_congr h1 fun g' hg' => heap_set_ne (by simp [Value.ownBlock] at hg'; subst hg'; exact Ne.symm hgH), hput, h3, h4.setCell (Nat.le_of_lt hg0) _, (heap_set_ne (by omega)).trans h5, h6⟩
/-- a new row -/
theorem TB.put (h : TB w0 bx H n tab wr) {i : Nat} (hi : i < n) (hn : n ≤ 65536) {b : Nat} (e : b = wr.heap.size) : TB w0 bx H n (tab.set i (List.replicate n 0)) ((wr.alloc (.cells (madeCells #[.int .i64 0] n) 3)).setCell ⟨H, i, none⟩ (.slice (some ⟨b, 0, none⟩) n n)) := by
  have hlen := h.len
  obtain ⟨vs, h1, h2, h3, h4, h5, h6⟩ := h
  have hv : vs.length = n := by have := h1.1; omega
  subst e
  have hHlt : H < wr.heap.size := (row_lt h1 rfl).2
  have hmr := made_row wr n hn (b := wr.heap.size) rfl
  have h2' : RS (wr.alloc (.cells (madeCells #[.int .i64 0] n) 3)) (vs.set i (.slice (some ⟨wr.heap.size, 0, none⟩) n n)) (tab.set i (List.replicate n 0)) := by
    refine h2.put (by omega) (Kp.of_below (below_alloc _ _)) ?_ (fun g' hg' => .inr ?_)
    · rw [List.length_replicate]; exact hmr
    · simp [Value.ownBlock] at hg'; omega
  have hst := (h1.alloc (.cells (madeCells #[.int .i64 0] n) 3)).stored i (.slice (some ⟨wr.heap.size, 0, none⟩) n n)
  have hnb : ∀ g ∈ rblk (vs.set i (.slice (some ⟨wr.heap.size, 0, none⟩) n n)), g ≠ H ∧ w0.heap.size < g := fun g hg => by
    rcases rblk_set (by omega) hg with hg | hg
    · simp [Value.ownBlock] at hg; subst hg; have := lt_block h5; exact ⟨by omega, this⟩
    · exact h3 g hg
  refine ⟨_, hst.1, h2'.congr fun g hg => heap_set_ne (hnb g hg).1, hnb, (below_then h4 (below_alloc _ _)).setCell (Nat.le_of_lt h6) _, (heap_set_ne (by omega)).trans (heap_up h5), h6⟩
end
end Go.Proofs.Ytmlpbhankgojpaa
namespace Go.Proofs.Ytmlpbhankgojpaa
open Go.RowKit HM GM SP
set_option linter.unusedSimpArgs false
set_option linter.unusedVariables false
set_option maxHeartbeats 4000000
set_option maxRecDepth 100000
def DistQ (l : List E) (n : Nat) (w : World) (e : Ending) (w' : World) : Prop :=
  ∃ H tab vs, e = .returned (.slice (some ⟨H, 0, none⟩) n n) ∧ w'.ownsRow 0 25 1 (.slice (some ⟨H, 0, none⟩) n n) n vs ∧ RS w' vs tab ∧ Tb n tab ∧ (∀ a b : Nat, a < n → b < n → at2 tab a b = T l a b) ∧ Below w.heap.size w w'
section
variable {w0 wr : World} {bx : Obj} {H n : Nat} {tab : List (List Int)}
theorem TB.slot (h : TB w0 bx H n tab wr) {i : Nat} (hi : i < n) : (∃ v, wr.cell? ⟨H, i, none⟩ = some v) ∧ wr.frozen? ⟨H, i, none⟩ = false ∧ H < wr.heap.size := by
  obtain ⟨vs, h1, h2, h3, h4, h5, h6⟩ := h
  have hv : vs.length = n := by have := h1.1; omega
  exact ⟨⟨_, (h1.cellAt i (by omega)).trans (gVl_get (by omega))⟩, h1.frozenAt i, (row_lt h1 rfl).2⟩
theorem TB.box (h : TB w0 bx H n tab wr) : wr.heap[w0.heap.size]? = some bx := by
  obtain ⟨vs, h1, h2, h3, h4, h5, h6⟩ := h; exact h5
theorem TB.bel (h : TB w0 bx H n tab wr) : Below w0.heap.size w0 wr := by
  obtain ⟨vs, h1, h2, h3, h4, h5, h6⟩ := h; exact h4
end
theorem fill_zero (n : Nat) : fill n 0 = List.replicate n 0 := by simp [fill]
theorem fill_full (n : Nat) : fill n n = List.replicate n (-1) := by simp [fill]
theorem gL_set_self {tab : List (List Int)} {i : Nat} {r : List Int} (h : i < tab.length) : gL (tab.set i r) i = r := by rw [gL_set h, if_pos rfl]
theorem setT_set {tab : List (List Int)} {i k : Nat} {r : List Int} {x : Int} (h : i < tab.length) : setT (tab.set i r) i k x = tab.set i (r.set k x) := by
  unfold setT; rw [gL_set_self h, List.set_set]
theorem dist_any (R N : Int) (l : List E) (s : Value) (n : Nat) (w : World) (hv : Valid R N l) (hr : Rd3 w s l) (hn : (n : Int) = R + N) :
    Calls Try.prog 29 #[.agg #[.int .i64 R, .int .i64 N, s]] w (DistQ l n w) := by
  obtain ⟨ad, cap, rfl, hcap1, hcap2, hc⟩ := hr
  have hR := hv.r; have hN := hv.n; have hS := hv.s
  have HV := Lib.hid hv
  have HC := Lib.hid hc
  have hn8 : n ≤ 128 := by omega
  have hmk := make_rowsI n (by omega)
  have hmi := make_ints n (by omega)
  obtain ⟨L, hL⟩ : ∃ L, l.length = L := ⟨_, rfl⟩
  rw [hL] at hcap1 ⊢
  have HL := Lib.hid hL
  have hn1 : R + N = (n : Int) := hn.symm
  have HN := Lib.hid hn
  clear hv hc hL hn
  go_enter Try.func29, Try.ntmps29
  go_wp2_with fail
  have HS : Hid (TB w (.cells #[.int .i64 R, .int .i64 N, .slice ad L cap] 24) (w.heap.size + 1) n (stT n 0) ((w.alloc (.cells #[.int .i64 R, .int .i64 N, .slice ad L cap] 24)).alloc (.cells (madeCells #[.slice none 0 0] n) 25))) := by
    rw [Hid, stT_zero]
    exact TB.start (below_alloc _ _) (heap_new1 _ _ rfl) (by omega) (by simp)
  clear hmk
  generalize ((w.alloc (.cells #[.int .i64 R, .int .i64 N, .slice ad L cap] 24)).alloc (.cells (madeCells #[.slice none 0 0] n) 25)) = W at *
  go_loopg [5, 6] n (fun g s5 s6 wr => ∃ i : Nat, i ≤ n ∧ n - i ≤ g ∧ s5 = .int .i64 (i : Int) ∧ (∃ v, v = s6) ∧ Hid (TB w (.cells #[.int .i64 R, .int .i64 N, .slice ad L cap] 24) (w.heap.size + 1) n (stT n i) wr))
  case atStart => exact ⟨0, by omega, by omega, rfl, ⟨_, rfl⟩, HS⟩
  case round =>
    clear HS
    obtain ⟨i, hi, hig, rfl, ⟨v6, rfl⟩, HR⟩ := hrel
    by_cases hlt : i < n
    · have i0 : (0 : Int) ≤ (i : Int) := by omega
      have i1 : (i : Int) < (n : Int) := by omega
      obtain ⟨⟨cv, hcv⟩, hzv, hHlt⟩ := HR.out.slot hlt
      have cE : ∀ o, (wr.alloc o).cell? ⟨w.heap.size + 1, i, none⟩ = some cv := fun o => carry (below_alloc _ _) hcv
      have zE : ∀ o, (wr.alloc o).frozen? ⟨w.heap.size + 1, i, none⟩ = false := fun o => by rw [(below_alloc wr o).frozen hHlt]; exact hzv
      go_wp2_with fail
      have HR1 : Hid (TB w (.cells #[.int .i64 R, .int .i64 N, .slice ad L cap] 24) (w.heap.size + 1) n ((stT n i).set i (fill n 0)) ((wr.setCell ⟨w.heap.size + 1, i, none⟩ (.slice (some ⟨wr.heap.size, 0, none⟩) n n)).alloc (.cells (madeCells #[.int .i64 0] n) 3))) := by
        rw [Hid, fill_zero]
        have := HR.out.put hlt (by omega) rfl
        rwa [World.setCell_alloc_past _ _ _ _ hHlt] at this
      clear HR hcv hzv cE zE hHlt
      generalize ((wr.setCell ⟨w.heap.size + 1, i, none⟩ (.slice (some ⟨wr.heap.size, 0, none⟩) n n)).alloc (.cells (madeCells #[.int .i64 0] n) 3)) = Wi at *
      go_loopg [6] n (fun g s6 wq => ∃ k : Nat, k ≤ n ∧ n - k ≤ g ∧ s6 = .int .i64 (k : Int) ∧ Hid (TB w (.cells #[.int .i64 R, .int .i64 N, .slice ad L cap] 24) (w.heap.size + 1) n ((stT n i).set i (fill n k)) wq))
      case atStart => exact ⟨0, by omega, by omega, rfl, HR1⟩
      case round =>
        clear HR1
        obtain ⟨k, hk, hkg, rfl, HR⟩ := hrel
        have hti : i < (stT n i).length := by rw [stT_len]; exact hlt
        by_cases hkl : k < n
        · have k0 : (0 : Int) ≤ (k : Int) := by omega
          have k1 : (k : Int) < (n : Int) := by omega
          obtain ⟨g, gc, c1, c2, c3, c4, c5⟩ := HR.out.at_ hlt (by rw [gL_set_self hti, fill_len hk]) (by omega)
          have d1 := c3 k hkl
          have d2 := c4 k
          have HT : Hid (TB w (.cells #[.int .i64 R, .int .i64 N, .slice ad L cap] 24) (w.heap.size + 1) n ((stT n i).set i (fill n (k + 1))) (wr.setCell ⟨g, k, none⟩ (.int .i64 (-1)))) := by
            have := c5 k (-1)
            rw [setT_set hti, fill_set hkl] at this
            exact this
          clear c3 c4 c5
          generalize at2 ((stT n i).set i (fill n k)) i k = old at d1
          go_wp2_with fail
          go_roundg (n - (k + 1))
          case measure => omega
          case rel => exact ⟨k + 1, by omega, Nat.le_refl _, by go_num, HT⟩
        · have k1 : decide ((k : Int) < (n : Int)) = false := decide_eq_false (by omega)
          obtain rfl : k = n := by omega
          obtain ⟨g, gc, c1, c2, c3, c4, c5⟩ := HR.out.at_ hlt (by rw [gL_set_self hti, fill_len hk]) (by omega)
          have d1 := c3 i hlt
          have d2 := c4 i
          have HT : Hid (TB w (.cells #[.int .i64 R, .int .i64 N, .slice ad L cap] 24) (w.heap.size + 1) k (stT k (i + 1)) (wr.setCell ⟨g, i, none⟩ (.int .i64 0))) := by
            have := c5 i 0
            rw [setT_set hti, fill_full] at this
            rw [← stT_set hlt]
            exact this
          clear c3 c4 c5
          generalize at2 ((stT k i).set i (fill k k)) i i = old at d1
          go_wp2_with fail
          go_roundg (k - (i + 1))
          case measure => omega
          case rel => exact ⟨i + 1, by omega, Nat.le_refl _, by go_num, ⟨_, rfl⟩, HT⟩
    · have i1 : decide ((i : Int) < (n : Int)) = false := decide_eq_false (by omega)
      have HIN : Hid (i = n) := by show _ = _; omega
      have HRC : Hid (TB w (.cells #[.int .i64 R, .int .i64 N, .slice ad L cap] 24) (w.heap.size + 1) n (stT n n) wr) := by have := HR.out; rwa [HIN.out] at this
      have HED : Hid (EdR l n 0 (stT n n)) := stT_ed l n
      clear HR HIN
      go_wp2_with fail
      go_loopg [7] L (fun g s7 wr => ∃ (q : Nat) (tab : List (List Int)), q ≤ L ∧ L - q ≤ g ∧ s7 = .int .i64 (q : Int) ∧ Hid (TB w (.cells #[.int .i64 R, .int .i64 N, .slice ad L cap] 24) (w.heap.size + 1) n tab wr) ∧ Hid (EdR l n q tab))
      case atStart => exact ⟨0, _, by omega, by omega, rfl, HRC, HED⟩
      case round =>
        clear HRC HED
        obtain ⟨q, tab, hq, hqg, rfl, HT, HE⟩ := hrel
        by_cases hlt : q < L
        · obtain ⟨e, he⟩ : ∃ y, l[q]? = some y := ⟨_, List.getElem?_eq_getElem (by have := HL.out; omega)⟩
          have hed := edge HV.out (List.mem_of_getElem? he)
          obtain ⟨b, off, rfl, hblt, c0, c1, c2⟩ := HC.out q e he
          have d0 := carryB HT.out.bel hblt c0
          have d1 := carryB HT.out.bel hblt c1
          have d2 := carryB HT.out.bel hblt c2
          clear c0 c1 c2
          obtain ⟨x, y, z⟩ := e
          dsimp only at hed
          obtain ⟨u, rfl⟩ : ∃ u : Nat, x = u := ⟨x.toNat, by omega⟩
          obtain ⟨v, rfl⟩ : ∃ v : Nat, y = v := ⟨y.toNat, by omega⟩
          obtain ⟨hst, hun, hvn⟩ := HE.out.step HV.out HN.out he
          have HST := Lib.hid hst
          dsimp only at d0 d1 d2
          have g2 : wr.cell? ⟨w.heap.size, 2, none⟩ = some (.slice (some ⟨b, off, none⟩) L cap) := cell_of HT.out.box rfl
          obtain ⟨g, gc, e1, e2, e3, e4, e5⟩ := HT.out.at_ hun (HE.out.1.row u hun) (by omega)
          have f1 := e3 v hvn
          have f2 := e4 v
          have HT1 := Lib.hid (e5 v z)
          have k1 : (q : Int) < (L : Int) := by omega
          have q0 : (0 : Int) ≤ (q : Int) := by omega
          have u0 : (0 : Int) ≤ (u : Int) := by omega
          have u1 : (u : Int) < (n : Int) := by omega
          have v0 : (0 : Int) ≤ (v : Int) := by omega
          have v1 : (v : Int) < (n : Int) := by omega
          clear e3 e4 e5 hst hed he HT HE
          generalize at2 tab u v = old at f1
          go_upto_region 15 with (fail)
          go_region
          go_wp2_with fail
          go_roundg (L - (q + 1))
          case measure => omega
          case rel => exact ⟨q + 1, _, by omega, Nat.le_refl _, by go_num, HT1.out.drew, HST⟩
        · have k1 : decide ((q : Int) < (L : Int)) = false := decide_eq_false (by omega)
          have HQL : Hid (q = L) := by show _ = _; omega
          have g2 : wr.cell? ⟨w.heap.size, 2, none⟩ = some (.slice ad L cap) := cell_of HT.out.box rfl
          have HF : Hid (FwR R N l n 0 0 0 tab) := by
            have := HE.out
            rw [HQL.out, ← HL.out] at this
            exact this.fw.start HV.out HN.out
          clear HE HQL
          have HTC := Lib.hid HT.out
          clear HT
          go_wp2_with fail
          go_loopg [8, 9, 10] n (fun g s8 s9 s10 wr => ∃ (m : Nat) (tab : List (List Int)), m ≤ n ∧ n - m ≤ g ∧ s8 = .int .i64 (m : Int) ∧ (∃ v, v = s9) ∧ (∃ v, v = s10) ∧ Hid (TB w (.cells #[.int .i64 R, .int .i64 N, .slice ad L cap] 24) (w.heap.size + 1) n tab wr) ∧ Hid (FwR R N l n m 0 0 tab))
          case atStart => exact ⟨0, _, by omega, by omega, rfl, ⟨_, rfl⟩, ⟨_, rfl⟩, HTC, HF⟩
          case round =>
            clear HTC HF
            obtain ⟨m, tab, hm, hmg, rfl, ⟨v9, rfl⟩, ⟨v10, rfl⟩, HT, HF⟩ := hrel
            by_cases hml : m < n
            · have m0 : (0 : Int) ≤ (m : Int) := by omega
              have m1 : (m : Int) < (n : Int) := by omega
              go_wp2_with fail
              go_loopg [9, 10] n (fun g s9 s10 wr => ∃ (i : Nat) (tab : List (List Int)), i ≤ n ∧ n - i ≤ g ∧ s9 = .int .i64 (i : Int) ∧ (∃ v, v = s10) ∧ Hid (TB w (.cells #[.int .i64 R, .int .i64 N, .slice ad L cap] 24) (w.heap.size + 1) n tab wr) ∧ Hid (FwR R N l n m i 0 tab))
              case atStart => exact ⟨0, _, by omega, by omega, rfl, ⟨_, rfl⟩, HT, HF⟩
              case round =>
                clear HT HF
                obtain ⟨i, tab, hi, hig, rfl, ⟨v10, rfl⟩, HT, HF⟩ := hrel
                by_cases hil : i < n
                · have i0 : (0 : Int) ≤ (i : Int) := by omega
                  have i1 : (i : Int) < (n : Int) := by omega
                  obtain ⟨gi, ci, e1, e2, e3, e4, e5⟩ := HT.out.at_ hil (HF.out.tb.row i hil) (by omega)
                  have f1 := e3 m hml
                  obtain ⟨x, hx⟩ : ∃ x, at2 tab i m = x := ⟨_, rfl⟩
                  rw [hx] at f1
                  have HX := Lib.hid hx
                  clear e3 e4 e5 hx
                  by_cases hx0 : x < 0
                  · have HSK := Lib.hid (HF.out.skip HV.out hml hil (by rw [HX.out]; exact hx0))
                    have HTC := Lib.hid HT.out
                    clear HT HF
                    go_wp2_with fail
                    go_roundg (n - (i + 1))
                    case measure => omega
                    case rel => exact ⟨i + 1, _, by omega, Nat.le_refl _, by go_num, ⟨_, rfl⟩, HTC, HSK⟩
                  · have HX0 : Hid (0 ≤ at2 tab i m) := by rw [Hid, HX.out]; omega
                    have HTC := Lib.hid HT.out
                    clear HX
                    go_wp2_with fail
                    clear e1 f1
                    go_loopg [10] n (fun g s10 wr => ∃ (k : Nat) (tab : List (List Int)), k ≤ n ∧ n - k ≤ g ∧ s10 = .int .i64 (k : Int) ∧ Hid (TB w (.cells #[.int .i64 R, .int .i64 N, .slice ad L cap] 24) (w.heap.size + 1) n tab wr) ∧ Hid (FwR R N l n m i k tab ∧ 0 ≤ at2 tab i m))
                    case atStart => exact ⟨0, _, by omega, by omega, rfl, HT, HF.out, HX0.out⟩
                    case round =>
                      clear HT HF HX0 HTC
                      obtain ⟨k, tab, hk, hkg, rfl, HT, HF⟩ := hrel
                      by_cases hkl : k < n
                      · have k0 : (0 : Int) ≤ (k : Int) := by omega
                        have k1 : (k : Int) < (n : Int) := by omega
                        obtain ⟨gi, ci, e1, e2, e3, e4, e5⟩ := HT.out.at_ hil (HF.out.1.tb.row i hil) (by omega)
                        obtain ⟨gm, cm, p1, p2, p3, p4, p5⟩ := HT.out.at_ hml (HF.out.1.tb.row m hml) (by omega)
                        have f1 := e3 m hml
                        have f2 := e3 k hkl
                        have f3 := p3 k hkl
                        have f4 := e4 k
                        have HS5 := Lib.hid (e5 k (at2 tab i m + at2 tab m k))
                        have HSM : Hid (0 ≤ at2 tab m k → at2 tab m k ≤ 65535 * ((m : Int) + 1)) := fun h => HF.out.1.small HV.out HN.out hml hml hkl (.inl rfl) h
                        have HSI : Hid (at2 tab i m ≤ 65535 * ((m : Int) + 1)) := HF.out.1.small HV.out HN.out hml hil hml (.inr rfl) HF.out.2
                        have HPT : Hid (0 ≤ at2 tab m k → (at2 tab i k < 0 ∨ at2 tab i m + at2 tab m k < at2 tab i k) → FwR R N l n m i (k + 1) (setT tab i k (at2 tab i m + at2 tab m k)) ∧ 0 ≤ at2 (setT tab i k (at2 tab i m + at2 tab m k)) i m) := fun h1 h2 =>
                          ⟨HF.out.1.put HV.out HN.out hml hil hkl HF.out.2 h1 h2, by
                            rw [at2_set HF.out.1.tb hil hkl]
                            have := HF.out.2
                            split <;> omega⟩
                        have HLV : Hid ((0 ≤ at2 tab m k → 0 ≤ at2 tab i k ∧ at2 tab i k ≤ at2 tab i m + at2 tab m k) → FwR R N l n m i (k + 1) tab ∧ 0 ≤ at2 tab i m) := fun h1 => ⟨HF.out.1.leave HV.out hml hil hkl (fun _ => h1), HF.out.2⟩
                        have HX0 := Lib.hid HF.out.2
                        have HTC := Lib.hid HT.out
                        clear e3 e4 e5 p3 p4 p5 HF HT
                        have hx0 := HX0.out
                        have hsi := HSI.out
                        have hsm := HSM.out
                        clear HX0 HSI HSM
                        generalize hxe : at2 tab i m = x at *
                        have HXE := Lib.hid hxe
                        clear hxe
                        generalize at2 tab i k = y at *
                        generalize at2 tab m k = z at *
                        by_cases hz : z < 0
                        · have z1 : decide (0 ≤ z) = false := decide_eq_false (by omega)
                          have HN1 := Lib.hid (HLV.out (fun h => by omega))
                          clear HLV HPT HS5
                          go_wp2_with fail
                          go_quiet (fail)
                          go_wp2_with fail
                          go_roundg (n - (k + 1))
                          case measure => omega
                          case rel => exact ⟨k + 1, _, by omega, Nat.le_refl _, by go_num, HTC.out.drewN _, HN1.out.1, by rw [HXE.out]; exact HN1.out.2⟩
                        · have z0 : 0 ≤ z := by omega
                          have z1 : decide (0 ≤ z) = true := decide_eq_true z0
                          have hs1 := hsm z0
                          by_cases hy : y < 0
                          · have y1 : decide (y < 0) = true := decide_eq_true hy
                            have HN1 := Lib.hid (HPT.out z0 (.inl hy))
                            clear HLV HPT
                            go_wp2_with fail
                            go_quiet (fail)
                            go_upto_region 27 with (fail)
                            go_region
                            go_wp2_with fail
                            go_roundg (n - (k + 1))
                            case measure => omega
                            case rel => exact ⟨k + 1, _, by omega, Nat.le_refl _, by go_num, (HS5.out.drewN _).drew, HN1.out.1, HN1.out.2⟩
                          · have y1 : decide (y < 0) = false := decide_eq_false hy
                            by_cases hxy : x + z < y
                            · have HN1 := Lib.hid (HPT.out z0 (.inr hxy))
                              have y2 : decide (x + z < y) = true := decide_eq_true hxy
                              clear HLV HPT
                              go_wp2_with fail
                              go_quiet (fail)
                              go_upto_region 27 with (fail)
                              go_region
                              go_wp2_with fail
                              go_roundg (n - (k + 1))
                              case measure => omega
                              case rel => exact ⟨k + 1, _, by omega, Nat.le_refl _, by go_num, (HS5.out.drewN _).drew, HN1.out.1, HN1.out.2⟩
                            · have y2 : decide (x + z < y) = false := decide_eq_false hxy
                              have HN1 := Lib.hid (HLV.out (fun h => by omega))
                              clear HLV HPT HS5
                              go_wp2_with fail
                              go_quiet (fail)
                              go_wp2_with fail
                              go_roundg (n - (k + 1))
                              case measure => omega
                              case rel => exact ⟨k + 1, _, by omega, Nat.le_refl _, by go_num, HTC.out.drewN _, HN1.out.1, by rw [HXE.out]; exact HN1.out.2⟩
                      · have k1 : decide ((k : Int) < (n : Int)) = false := decide_eq_false (by omega)
                        have HKN : Hid (k = n) := by show _ = _; omega
                        have HRW : Hid (FwR R N l n m (i + 1) 0 tab) := by
                          have := HF.out.1; rw [HKN.out] at this; exact this.row
                        clear HF HKN
                        go_wp2_with fail
                        go_roundg (n - (i + 1))
                        case measure => omega
                        case rel => exact ⟨i + 1, _, by omega, Nat.le_refl _, by go_num, ⟨_, rfl⟩, HT, HRW⟩
                · have k1 : decide ((i : Int) < (n : Int)) = false := decide_eq_false (by omega)
                  have HIN : Hid (i = n) := by show _ = _; omega
                  have HRD : Hid (FwR R N l n (m + 1) 0 0 tab) := by
                    have := HF.out; rw [HIN.out] at this; exact this.round
                  clear HF HIN
                  go_wp2_with fail
                  go_roundg (n - (m + 1))
                  case measure => omega
                  case rel => exact ⟨m + 1, _, by omega, Nat.le_refl _, by go_num, ⟨_, rfl⟩, ⟨_, rfl⟩, HT, HRD⟩
            · have k1 : decide ((m : Int) < (n : Int)) = false := decide_eq_false (by omega)
              have HMN : Hid (m = n) := by show _ = _; omega
              have HD : Hid (∀ a b : Nat, a < n → b < n → at2 tab a b = T l a b) := fun a b ha hb => by
                have := HF.out; rw [HMN.out] at this; exact this.dist HV.out HN.out ha hb
              have HTb := Lib.hid HF.out.tb
              clear HF HMN
              go_wp2
              go_ret
              obtain ⟨vs, h1, h2, h3, h4, h5, h6⟩ := HT.out
              exact ⟨_, tab, vs, rfl, h1, h2, HTb.out, HD.out, h4⟩
end Go.Proofs.Ytmlpbhankgojpaa
