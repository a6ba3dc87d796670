/-
  Mathematics of the reference: its first table, and the rows that it makes one entry after the other. The reference's table in memory. The walk of the reference's Distances. The walk of the reference's direct: is a node the first one behind the root? Two tables of rows in memory that grow: the reference's hops and parents. The rows that the reference's Run makes, and its first region. The walk of All.
-/
import Derived.Test.YtmbogobebllheaaMm
import Derived.Test.YtmbogobebllheaaMq
import Derived.Test.YtmbogobebllheaaMg
import Derived.Test.YtmbogobebllheaaMt
namespace Go.Proofs.Ytmbogobebllheaa.SP
open GM HM Classical
set_option linter.unusedVariables false
set_option linter.unusedSimpArgs false
theorem rowF_zero (P : Int → Bool) : rowF 0 P = [] := rfl
theorem rowF_succ (n : Nat) (P : Int → Bool) : rowF (n + 1) P = rowF n P ++ (if P (n : Int) = true then [(n : Int)] else []) := by
  unfold rowF
  rw [List.range_succ, List.filter_append, List.map_append]
  by_cases h : P (n : Int) = true
  · simp [h]
  · simp [h]
theorem rowF_len (n : Nat) (P : Int → Bool) : (rowF n P).length ≤ n := by
  unfold rowF
  rw [List.length_map]
  have := List.length_filter_le (fun k : Nat => P (k : Int)) (List.range n)
  simpa using this
section
variable {R N : Int} {l : List E} (hv : Valid R N l) {s : Int}
/-- the table while the edges are put in -/
def EdR (l : List E) (n q : Nat) (tab : List (List Int)) : Prop := Tb n tab ∧ ∀ a b : Nat, a < n → b < n → at2 tab a b = start2 (l.take q) a b
include hv
theorem EdR.step {n q : Nat} (hn : (n : Int) = R + N) {tab : List (List Int)} (h : EdR l n q tab) {u v : Nat} {c : Int} (hq : l[q]? = some ((u : Int), (v : Int), c)) : EdR l n (q + 1) (setT tab u v c) ∧ u < n ∧ v < n := by
  have hm := List.mem_of_getElem? hq
  have hed := edge hv hm
  have hu : u < n := by omega
  have hv' : v < n := by omega
  refine ⟨⟨h.1.set hu _ _, fun a b ha hb => ?_⟩, hu, hv'⟩
  rw [at2_set h.1 hu hv', h.2 a b ha hb]
  have ht : l.take (q + 1) = l.take q ++ [((u : Int), (v : Int), c)] := by
    rw [List.take_add_one, hq]; rfl
  unfold start2
  rw [ht, List.find?_append]
  by_cases e : a = u ∧ b = v
  · obtain ⟨rfl, rfl⟩ := e
    rw [if_pos ⟨rfl, rfl⟩, if_neg (by omega)]
    have : (l.take q).find? (fun e => decide (e.1 = (a : Int) ∧ e.2.1 = (b : Int))) = none := by
      rw [List.find?_eq_none]
      intro x hx hd
      obtain ⟨h1, h2⟩ := of_decide_eq_true hd
      obtain ⟨i, hi⟩ := List.getElem?_of_mem hx
      have hil := (List.getElem?_eq_some_iff.1 hi).1
      rw [List.length_take] at hil
      rw [List.getElem?_take_of_lt (by omega)] at hi
      have hp := hv.asc
      rw [List.pairwise_iff_getElem] at hp
      obtain ⟨h3, h4⟩ := List.getElem?_eq_some_iff.1 hi
      obtain ⟨h5, h6⟩ := List.getElem?_eq_some_iff.1 hq
      have := hp i q h3 h5 (by omega)
      rw [h4, h6, bef_iff] at this
      dsimp only at this
      omega
    rw [this]
    simp
  · rw [if_neg e]
    by_cases e2 : (a : Int) = b
    · rw [if_pos e2, if_pos e2]
    · rw [if_neg e2, if_neg e2]
      have : [((u : Int), (v : Int), c)].find? (fun e => decide (e.1 = (a : Int) ∧ e.2.1 = (b : Int))) = none := by
        rw [List.find?_eq_none]
        intro x hx hd
        obtain ⟨h1, h2⟩ := of_decide_eq_true hd
        have := List.mem_singleton.1 hx
        subst this
        dsimp only at h1 h2
        exact e (by omega)
      rw [this, Option.or_none]
omit hv in
theorem EdR.fw {n : Nat} {tab : List (List Int)} (h : EdR l n l.length tab) : Fw0 R N l n tab := by
  refine ⟨h.1, fun a b ha hb => ?_⟩
  rw [h.2 a b ha hb, List.take_length]
omit hv in
/-- the first hops of a node: those of the first routers and networks that lie on a shortest path -/
theorem hop_row (hs : 0 ≤ s ∧ s < R) {first : List Int} (hf : RowI (First R l s) first) {v : Int} (hvs : v ≠ s) (hT : 0 ≤ T l s v) :
    RowI (Hop R l s v) (first.filter (fun h => decide (h = v ∨ (h < R ∧ 0 ≤ T l h v ∧ T l s h + T l h v = T l s v)))) := by
  refine ⟨hf.1.sublist (List.filter_sublist), fun x => ?_⟩
  rw [List.mem_filter, hf.2 x]
  constructor
  · rintro ⟨h1, h2⟩; exact ⟨hvs, hT, h1, of_decide_eq_true h2⟩
  · rintro ⟨_, _, h1, h2⟩; exact ⟨h1, decide_eq_true h2⟩
end
/-- the first table, row by row -/
def diag (n a : Nat) : List Int := (List.replicate n (-1)).set a 0
def stT (n i : Nat) : List (List Int) := (List.range n).map (fun a => if a < i then diag n a else [])
theorem stT_len (n i : Nat) : (stT n i).length = n := by simp [stT]
theorem stT_get {n i a : Nat} (ha : a < n) : gL (stT n i) a = if a < i then diag n a else [] := by
  unfold gL stT; simp [ha]
theorem stT_zero (n : Nat) : stT n 0 = List.replicate n [] := by
  apply List.ext_getElem
  · simp [stT]
  · intro i h1 h2; simp [stT]
theorem stT_set {n i : Nat} (hi : i < n) : (stT n i).set i (diag n i) = stT n (i + 1) := by
  apply List.ext_getElem
  · simp [stT]
  · intro j h1 h2
    rw [List.getElem_set]
    by_cases e : i = j
    · subst e; simp [stT]
    · rw [if_neg e]
      simp only [stT, List.getElem_map, List.getElem_range]
      by_cases h3 : j < i
      · rw [if_pos h3, if_pos (by omega)]
      · rw [if_neg h3, if_neg (by omega)]
theorem stT_ed (l : List E) (n : Nat) : EdR l n 0 (stT n n) := by
  refine ⟨⟨stT_len n n, fun i hi => by rw [stT_get hi, if_pos hi]; simp [diag]⟩, fun a b ha hb => ?_⟩
  unfold at2
  rw [stT_get ha, if_pos ha]
  unfold diag
  rw [gI_set (by simp [ha])]
  unfold start2
  by_cases e : b = a
  · rw [if_pos e, if_pos (by omega)]
  · rw [if_neg e, if_neg (by omega)]
    simp [gI, hb]
end Go.Proofs.Ytmbogobebllheaa.SP
namespace Go.Proofs.Ytmbogobebllheaa
open Go.RowKit HM SP
set_option linter.unusedSimpArgs false
set_option linter.unusedVariables false
set_option maxHeartbeats 4000000
set_option maxRecDepth 100000
/-- a table of n rows in memory, made since w0, whose first block is bx -/
def TB (w0 : World) (bx : Obj) (H n : Nat) (tab : List (List Int)) (wr : World) : Prop :=
  ∃ vs, wr.ownsRow 0 35 1 (.slice (some ⟨H, 0, none⟩) n n) n vs ∧ RS wr vs tab ∧ (∀ g ∈ rblk vs, g ≠ H ∧ w0.heap.size < g) ∧ Below w0.heap.size w0 wr ∧ wr.heap[w0.heap.size]? = some bx ∧ w0.heap.size < H
section
variable {w0 wr : World} {bx : Obj} {H n : Nat} {tab : List (List Int)}
theorem TB.drew (h : TB w0 bx H n tab wr) : TB w0 bx H n tab wr.drew := by
  obtain ⟨vs, h1, h2, h3, h4, h5, h6⟩ := h
  exact ⟨vs, h1.drew, h2.congr fun g hg => rfl, h3, h4.drew, h5, h6⟩
theorem TB.drewN (h : TB w0 bx H n tab wr) (q : Nat) : TB w0 bx H n tab (wr.drewN q) := by
  obtain ⟨vs, h1, h2, h3, h4, h5, h6⟩ := h
  exact ⟨vs, row_congr h1 fun g hg => rfl, h2.congr fun g hg => rfl, h3, below_drewN h4 q, h5, h6⟩
theorem TB.len (h : TB w0 bx H n tab wr) : tab.length = n := by
  obtain ⟨vs, h1, h2, _⟩ := h
  rw [← h2.len]; have := h1.1; omega
theorem TB.start {w1 : World} (hb : Below w0.heap.size w0 w1) (hx : w1.heap[w0.heap.size]? = some bx) (hn : n ≤ 65536) {b : Nat} (e : b = w1.heap.size) : TB w0 bx b n (List.replicate n []) (w1.alloc (.cells (madeCells #[.slice none 0 0] n) 35)) := by
  subst e
  refine ⟨List.replicate n (.slice none 0 0), made_rowE w1 n 35 hn rfl, RS.nils _ n, fun g hg => ?_, below_then hb (below_alloc _ _), heap_up hx, lt_block hx⟩
  obtain ⟨v, h1, h2⟩ := mem_rblk.1 hg
  rw [List.length_replicate] at h1
  unfold gVl at h2
  simp [h1, Value.ownBlock] at h2
/-- a row that is full, opened: what its cells hold, what a store into it does -/
theorem TB.at_ (h : TB w0 bx H n tab wr) {i : Nat} (hi : i < n) (hl : (gL tab i).length = n) (h0 : 0 < n) :
    ∃ g cap, wr.cell? ⟨H, i, none⟩ = some (.slice (some ⟨g, 0, none⟩) n cap) ∧ n ≤ cap ∧ (∀ k, k < n → wr.cell? ⟨g, k, none⟩ = some (.int .i64 (at2 tab i k))) ∧ (∀ o, wr.frozen? ⟨g, o, none⟩ = false) ∧
      ∀ k x, TB w0 bx H n (setT tab i k x) (wr.setCell ⟨g, k, none⟩ (.int .i64 x)) := by
  have hlen := h.len
  obtain ⟨vs, h1, h2, h3, h4, h5, h6⟩ := h
  have hv : vs.length = n := by have := h1.1; omega
  have hr := h2.row i (by omega)
  rw [hl] at hr
  rcases hr.2 with ⟨e1, e2⟩ | ⟨g, cap, cur, e1, _, hg, hcur, hcap, hlv⟩
  · omega
  · have hgb : (gVl vs i).ownBlock = some g := by rw [e1]; rfl
    have hgr : g ∈ rblk vs := mem_rblk.2 ⟨i, by omega, hgb⟩
    obtain ⟨hgH, hg0⟩ := h3 g hgr
    have hrow := hr
    rw [e1] at hrow
    refine ⟨g, cap, ?_, hcur, fun k hk => ?_, fun o => hrow.frozenAt o, fun k x => ?_⟩
    · rw [h1.cellAt i (by omega), gVl_get (by omega), e1]
    · rw [hrow.cellAt k (by omega)]
      exact ints_get (gI_get (by omega))
    · have hst := (hrow.stored k (.int .i64 x)).1
      rw [ints_set] at hst
      have hput : RS (wr.setCell ⟨g, k, none⟩ (.int .i64 x)) (vs.set i (gVl vs i)) (tab.set i ((gL tab i).set k x)) := by
        refine h2.put (by omega) ((Kp.refl _ _).setCell (.inl ?_)) ?_ (fun g' hg' => .inl hg')
        · exact mem_vblk.2 hgb
        · rw [List.length_set, hl, e1]; exact hst
      have hset : vs.set i (gVl vs i) = vs := by
        apply List.ext_getElem?
        intro j
        rw [List.getElem?_set]
        by_cases e : i = j
        · subst e; rw [if_pos rfl, if_pos (by omega), gVl_get (by omega)]
        · rw [if_neg e]
      rw [hset] at hput
      exact ⟨vs, row_congr h1 fun g' hg' => heap_set_ne (by simp [Value.ownBlock] at hg'; subst hg'; exact Ne.symm hgH), hput, h3, h4.setCell (Nat.le_of_lt hg0) _, (heap_set_ne (by omega)).trans h5, h6⟩
/-- a new row -/
theorem TB.put (h : TB w0 bx H n tab wr) {i : Nat} (hi : i < n) (hn : n ≤ 65536) {b : Nat} (e : b = wr.heap.size) : TB w0 bx H n (tab.set i (List.replicate n 0)) ((wr.alloc (.cells (madeCells #[.int .i64 0] n) 3)).setCell ⟨H, i, none⟩ (.slice (some ⟨b, 0, none⟩) n n)) := by
  have hlen := h.len
  obtain ⟨vs, h1, h2, h3, h4, h5, h6⟩ := h
  have hv : vs.length = n := by have := h1.1; omega
  subst e
  have hHlt : H < wr.heap.size := (row_lt h1 rfl).2
  have hmr := made_row wr n hn (b := wr.heap.size) rfl
  have h2' : RS (wr.alloc (.cells (madeCells #[.int .i64 0] n) 3)) (vs.set i (.slice (some ⟨wr.heap.size, 0, none⟩) n n)) (tab.set i (List.replicate n 0)) := by
    refine h2.put (by omega) (Kp.of_below (below_alloc _ _)) ?_ (fun g' hg' => .inr ?_)
    · rw [List.length_replicate]; exact hmr
    · simp [Value.ownBlock] at hg'; omega
  have hst := (h1.alloc (.cells (madeCells #[.int .i64 0] n) 3)).stored i (.slice (some ⟨wr.heap.size, 0, none⟩) n n)
  have hnb : ∀ g ∈ rblk (vs.set i (.slice (some ⟨wr.heap.size, 0, none⟩) n n)), g ≠ H ∧ w0.heap.size < g := fun g hg => by
    rcases rblk_set (by omega) hg with hg | hg
    · simp [Value.ownBlock] at hg; subst hg; have := lt_block h5; exact ⟨by omega, this⟩
    · exact h3 g hg
  refine ⟨_, hst.1, h2'.congr fun g hg => heap_set_ne (hnb g hg).1, hnb, (below_then h4 (below_alloc _ _)).setCell (Nat.le_of_lt h6) _, (heap_set_ne (by omega)).trans (heap_up h5), h6⟩
end
end Go.Proofs.Ytmbogobebllheaa
namespace Go.Proofs.Ytmbogobebllheaa
open Go.RowKit HM GM SP
set_option linter.unusedSimpArgs false
set_option linter.unusedVariables false
set_option maxHeartbeats 4000000
set_option maxRecDepth 100000
def DistQ (l : List E) (n : Nat) (w : World) (e : Ending) (w' : World) : Prop :=
  ∃ H tab vs, e = .returned (.slice (some ⟨H, 0, none⟩) n n) ∧ w'.ownsRow 0 35 1 (.slice (some ⟨H, 0, none⟩) n n) n vs ∧ RS w' vs tab ∧ Tb n tab ∧ (∀ a b : Nat, a < n → b < n → at2 tab a b = T l a b) ∧ Below w.heap.size w w'
section
variable {w0 wr : World} {bx : Obj} {H n : Nat} {tab : List (List Int)}
theorem TB.slot (h : TB w0 bx H n tab wr) {i : Nat} (hi : i < n) : (∃ v, wr.cell? ⟨H, i, none⟩ = some v) ∧ wr.frozen? ⟨H, i, none⟩ = false ∧ H < wr.heap.size := by
  obtain ⟨vs, h1, h2, h3, h4, h5, h6⟩ := h
  have hv : vs.length = n := by have := h1.1; omega
  exact ⟨⟨_, (h1.cellAt i (by omega)).trans (gVl_get (by omega))⟩, h1.frozenAt i, (row_lt h1 rfl).2⟩
theorem TB.box (h : TB w0 bx H n tab wr) : wr.heap[w0.heap.size]? = some bx := by
  obtain ⟨vs, h1, h2, h3, h4, h5, h6⟩ := h; exact h5
theorem TB.bel (h : TB w0 bx H n tab wr) : Below w0.heap.size w0 wr := by
  obtain ⟨vs, h1, h2, h3, h4, h5, h6⟩ := h; exact h4
end
theorem fill_zero (n : Nat) : fill n 0 = List.replicate n 0 := by simp [fill]
theorem fill_full (n : Nat) : fill n n = List.replicate n (-1) := by simp [fill]
theorem gL_set_self {tab : List (List Int)} {i : Nat} {r : List Int} (h : i < tab.length) : gL (tab.set i r) i = r := by rw [gL_set h, if_pos rfl]
theorem setT_set {tab : List (List Int)} {i k : Nat} {r : List Int} {x : Int} (h : i < tab.length) : setT (tab.set i r) i k x = tab.set i (r.set k x) := by
  unfold setT; rw [gL_set_self h, List.set_set]
theorem dist_any (R N : Int) (l : List E) (s : Value) (n : Nat) (w : World) (hv : Valid R N l) (hr : Rd3 w s l) (hn : (n : Int) = R + N) :
    Calls Try.prog 83 #[.agg #[.int .i64 R, .int .i64 N, s]] w (DistQ l n w) := by
  obtain ⟨ad, cap, rfl, hcap1, hcap2, hc⟩ := hr
  have hR := hv.r; have hN := hv.n; have hS := hv.s
  have HV := Lib.hid hv
  have HC := Lib.hid hc
  have hn8 : n ≤ 128 := by omega
  have hmk := make_rowsI n (by omega)
  have hmi := make_ints n (by omega)
  obtain ⟨L, hL⟩ : ∃ L, l.length = L := ⟨_, rfl⟩
  rw [hL] at hcap1 ⊢
  have HL := Lib.hid hL
  have hn1 : R + N = (n : Int) := hn.symm
  have HN := Lib.hid hn
  clear hv hc hL hn
  go_enter Try.func83, Try.ntmps83
  go_wp2_with fail
  have HS : Hid (TB w (.cells #[.int .i64 R, .int .i64 N, .slice ad L cap] 27) (w.heap.size + 1) n (stT n 0) ((w.alloc (.cells #[.int .i64 R, .int .i64 N, .slice ad L cap] 27)).alloc (.cells (madeCells #[.slice none 0 0] n) 35))) := by
    rw [Hid, stT_zero]
    exact TB.start (below_alloc _ _) (heap_new1 _ _ rfl) (by omega) (by simp)
  clear hmk
  generalize ((w.alloc (.cells #[.int .i64 R, .int .i64 N, .slice ad L cap] 27)).alloc (.cells (madeCells #[.slice none 0 0] n) 35)) = W at *
  go_loopg [5, 6] n (fun g s5 s6 wr => ∃ i : Nat, i ≤ n ∧ n - i ≤ g ∧ s5 = .int .i64 (i : Int) ∧ (∃ v, v = s6) ∧ Hid (TB w (.cells #[.int .i64 R, .int .i64 N, .slice ad L cap] 27) (w.heap.size + 1) n (stT n i) wr))
  case atStart => exact ⟨0, by omega, by omega, rfl, ⟨_, rfl⟩, HS⟩
  case round =>
    clear HS
    obtain ⟨i, hi, hig, rfl, ⟨v6, rfl⟩, HR⟩ := hrel
    by_cases hlt : i < n
    · have i0 : (0 : Int) ≤ (i : Int) := by omega
      have i1 : (i : Int) < (n : Int) := by omega
      obtain ⟨⟨cv, hcv⟩, hzv, hHlt⟩ := HR.out.slot hlt
      have cE : ∀ o, (wr.alloc o).cell? ⟨w.heap.size + 1, i, none⟩ = some cv := fun o => carry (below_alloc _ _) hcv
      have zE : ∀ o, (wr.alloc o).frozen? ⟨w.heap.size + 1, i, none⟩ = false := fun o => by rw [(below_alloc wr o).frozen hHlt]; exact hzv
      go_wp2_with fail
      have HR1 : Hid (TB w (.cells #[.int .i64 R, .int .i64 N, .slice ad L cap] 27) (w.heap.size + 1) n ((stT n i).set i (fill n 0)) ((wr.setCell ⟨w.heap.size + 1, i, none⟩ (.slice (some ⟨wr.heap.size, 0, none⟩) n n)).alloc (.cells (madeCells #[.int .i64 0] n) 3))) := by
        rw [Hid, fill_zero]
        have := HR.out.put hlt (by omega) rfl
        rwa [World.setCell_alloc_past _ _ _ _ hHlt] at this
      clear HR hcv hzv cE zE hHlt
      generalize ((wr.setCell ⟨w.heap.size + 1, i, none⟩ (.slice (some ⟨wr.heap.size, 0, none⟩) n n)).alloc (.cells (madeCells #[.int .i64 0] n) 3)) = Wi at *
      go_loopg [6] n (fun g s6 wq => ∃ k : Nat, k ≤ n ∧ n - k ≤ g ∧ s6 = .int .i64 (k : Int) ∧ Hid (TB w (.cells #[.int .i64 R, .int .i64 N, .slice ad L cap] 27) (w.heap.size + 1) n ((stT n i).set i (fill n k)) wq))
      case atStart => exact ⟨0, by omega, by omega, rfl, HR1⟩
      case round =>
        clear HR1
        obtain ⟨k, hk, hkg, rfl, HR⟩ := hrel
        have hti : i < (stT n i).length := by rw [stT_len]; exact hlt
        by_cases hkl : k < n
        · have k0 : (0 : Int) ≤ (k : Int) := by omega
          have k1 : (k : Int) < (n : Int) := by omega
          obtain ⟨g, gc, c1, c2, c3, c4, c5⟩ := HR.out.at_ hlt (by rw [gL_set_self hti, fill_len hk]) (by omega)
          have d1 := c3 k hkl
          have d2 := c4 k
          have HT : Hid (TB w (.cells #[.int .i64 R, .int .i64 N, .slice ad L cap] 27) (w.heap.size + 1) n ((stT n i).set i (fill n (k + 1))) (wr.setCell ⟨g, k, none⟩ (.int .i64 (-1)))) := by
            have := c5 k (-1)
            rw [setT_set hti, fill_set hkl] at this
            exact this
          clear c3 c4 c5
          generalize at2 ((stT n i).set i (fill n k)) i k = old at d1
          go_wp2_with fail
          go_roundg (n - (k + 1))
          case measure => omega
          case rel => exact ⟨k + 1, by omega, Nat.le_refl _, by go_num, HT⟩
        · have k1 : decide ((k : Int) < (n : Int)) = false := decide_eq_false (by omega)
          obtain rfl : k = n := by omega
          obtain ⟨g, gc, c1, c2, c3, c4, c5⟩ := HR.out.at_ hlt (by rw [gL_set_self hti, fill_len hk]) (by omega)
          have d1 := c3 i hlt
          have d2 := c4 i
          have HT : Hid (TB w (.cells #[.int .i64 R, .int .i64 N, .slice ad L cap] 27) (w.heap.size + 1) k (stT k (i + 1)) (wr.setCell ⟨g, i, none⟩ (.int .i64 0))) := by
            have := c5 i 0
            rw [setT_set hti, fill_full] at this
            rw [← stT_set hlt]
            exact this
          clear c3 c4 c5
          generalize at2 ((stT k i).set i (fill k k)) i i = old at d1
          go_wp2_with fail
          go_roundg (k - (i + 1))
          case measure => omega
          case rel => exact ⟨i + 1, by omega, Nat.le_refl _, by go_num, ⟨_, rfl⟩, HT⟩
    · have i1 : decide ((i : Int) < (n : Int)) = false := decide_eq_false (by omega)
      have HIN : Hid (i = n) := by show _ = _; omega
      have HRC : Hid (TB w (.cells #[.int .i64 R, .int .i64 N, .slice ad L cap] 27) (w.heap.size + 1) n (stT n n) wr) := by have := HR.out; rwa [HIN.out] at this
      have HED : Hid (EdR l n 0 (stT n n)) := stT_ed l n
      clear HR HIN
      go_wp2_with fail
      go_loopg [7] L (fun g s7 wr => ∃ (q : Nat) (tab : List (List Int)), q ≤ L ∧ L - q ≤ g ∧ s7 = .int .i64 (q : Int) ∧ Hid (TB w (.cells #[.int .i64 R, .int .i64 N, .slice ad L cap] 27) (w.heap.size + 1) n tab wr) ∧ Hid (EdR l n q tab))
      case atStart => exact ⟨0, _, by omega, by omega, rfl, HRC, HED⟩
      case round =>
        clear HRC HED
        obtain ⟨q, tab, hq, hqg, rfl, HT, HE⟩ := hrel
        by_cases hlt : q < L
        · obtain ⟨e, he⟩ : ∃ y, l[q]? = some y := ⟨_, List.getElem?_eq_getElem (by have := HL.out; omega)⟩
          have hed := edge HV.out (List.mem_of_getElem? he)
          obtain ⟨b, off, rfl, hblt, c0, c1, c2⟩ := HC.out q e he
          have d0 := carryB HT.out.bel hblt c0
          have d1 := carryB HT.out.bel hblt c1
          have d2 := carryB HT.out.bel hblt c2
          clear c0 c1 c2
          obtain ⟨x, y, z⟩ := e
          dsimp only at hed
          obtain ⟨u, rfl⟩ : ∃ u : Nat, x = u := ⟨x.toNat, by omega⟩
          obtain ⟨v, rfl⟩ : ∃ v : Nat, y = v := ⟨y.toNat, by omega⟩
          obtain ⟨hst, hun, hvn⟩ := HE.out.step HV.out HN.out he
          have HST := Lib.hid hst
          dsimp only at d0 d1 d2
          have g2 : wr.cell? ⟨w.heap.size, 2, none⟩ = some (.slice (some ⟨b, off, none⟩) L cap) := cell_of HT.out.box rfl
          obtain ⟨g, gc, e1, e2, e3, e4, e5⟩ := HT.out.at_ hun (HE.out.1.row u hun) (by omega)
          have f1 := e3 v hvn
          have f2 := e4 v
          have HT1 := Lib.hid (e5 v z)
          have k1 : (q : Int) < (L : Int) := by omega
          have q0 : (0 : Int) ≤ (q : Int) := by omega
          have u0 : (0 : Int) ≤ (u : Int) := by omega
          have u1 : (u : Int) < (n : Int) := by omega
          have v0 : (0 : Int) ≤ (v : Int) := by omega
          have v1 : (v : Int) < (n : Int) := by omega
          clear e3 e4 e5 hst hed he HT HE
          generalize at2 tab u v = old at f1
          go_upto_region 15 with (fail)
          go_region
          go_wp2_with fail
          go_roundg (L - (q + 1))
          case measure => omega
          case rel => exact ⟨q + 1, _, by omega, Nat.le_refl _, by go_num, HT1.out.drew, HST⟩
        · have k1 : decide ((q : Int) < (L : Int)) = false := decide_eq_false (by omega)
          have HQL : Hid (q = L) := by show _ = _; omega
          have g2 : wr.cell? ⟨w.heap.size, 2, none⟩ = some (.slice ad L cap) := cell_of HT.out.box rfl
          have HF : Hid (FwR R N l n 0 0 0 tab) := by
            have := HE.out
            rw [HQL.out, ← HL.out] at this
            exact this.fw.start HV.out HN.out
          clear HE HQL
          have HTC := Lib.hid HT.out
          clear HT
          go_wp2_with fail
          go_loopg [8, 9, 10] n (fun g s8 s9 s10 wr => ∃ (m : Nat) (tab : List (List Int)), m ≤ n ∧ n - m ≤ g ∧ s8 = .int .i64 (m : Int) ∧ (∃ v, v = s9) ∧ (∃ v, v = s10) ∧ Hid (TB w (.cells #[.int .i64 R, .int .i64 N, .slice ad L cap] 27) (w.heap.size + 1) n tab wr) ∧ Hid (FwR R N l n m 0 0 tab))
          case atStart => exact ⟨0, _, by omega, by omega, rfl, ⟨_, rfl⟩, ⟨_, rfl⟩, HTC, HF⟩
          case round =>
            clear HTC HF
            obtain ⟨m, tab, hm, hmg, rfl, ⟨v9, rfl⟩, ⟨v10, rfl⟩, HT, HF⟩ := hrel
            by_cases hml : m < n
            · have m0 : (0 : Int) ≤ (m : Int) := by omega
              have m1 : (m : Int) < (n : Int) := by omega
              go_wp2_with fail
              go_loopg [9, 10] n (fun g s9 s10 wr => ∃ (i : Nat) (tab : List (List Int)), i ≤ n ∧ n - i ≤ g ∧ s9 = .int .i64 (i : Int) ∧ (∃ v, v = s10) ∧ Hid (TB w (.cells #[.int .i64 R, .int .i64 N, .slice ad L cap] 27) (w.heap.size + 1) n tab wr) ∧ Hid (FwR R N l n m i 0 tab))
              case atStart => exact ⟨0, _, by omega, by omega, rfl, ⟨_, rfl⟩, HT, HF⟩
              case round =>
                clear HT HF
                obtain ⟨i, tab, hi, hig, rfl, ⟨v10, rfl⟩, HT, HF⟩ := hrel
                by_cases hil : i < n
                · have i0 : (0 : Int) ≤ (i : Int) := by omega
                  have i1 : (i : Int) < (n : Int) := by omega
                  obtain ⟨gi, ci, e1, e2, e3, e4, e5⟩ := HT.out.at_ hil (HF.out.tb.row i hil) (by omega)
                  have f1 := e3 m hml
                  obtain ⟨x, hx⟩ : ∃ x, at2 tab i m = x := ⟨_, rfl⟩
                  rw [hx] at f1
                  have HX := Lib.hid hx
                  clear e3 e4 e5 hx
                  by_cases hx0 : x < 0
                  · have HSK := Lib.hid (HF.out.skip HV.out hml hil (by rw [HX.out]; exact hx0))
                    have HTC := Lib.hid HT.out
                    clear HT HF
                    go_wp2_with fail
                    go_roundg (n - (i + 1))
                    case measure => omega
                    case rel => exact ⟨i + 1, _, by omega, Nat.le_refl _, by go_num, ⟨_, rfl⟩, HTC, HSK⟩
                  · have HX0 : Hid (0 ≤ at2 tab i m) := by rw [Hid, HX.out]; omega
                    have HTC := Lib.hid HT.out
                    clear HX
                    go_wp2_with fail
                    clear e1 f1
                    go_loopg [10] n (fun g s10 wr => ∃ (k : Nat) (tab : List (List Int)), k ≤ n ∧ n - k ≤ g ∧ s10 = .int .i64 (k : Int) ∧ Hid (TB w (.cells #[.int .i64 R, .int .i64 N, .slice ad L cap] 27) (w.heap.size + 1) n tab wr) ∧ Hid (FwR R N l n m i k tab ∧ 0 ≤ at2 tab i m))
                    case atStart => exact ⟨0, _, by omega, by omega, rfl, HT, HF.out, HX0.out⟩
                    case round =>
                      clear HT HF HX0 HTC
                      obtain ⟨k, tab, hk, hkg, rfl, HT, HF⟩ := hrel
                      by_cases hkl : k < n
                      · have k0 : (0 : Int) ≤ (k : Int) := by omega
                        have k1 : (k : Int) < (n : Int) := by omega
                        obtain ⟨gi, ci, e1, e2, e3, e4, e5⟩ := HT.out.at_ hil (HF.out.1.tb.row i hil) (by omega)
                        obtain ⟨gm, cm, p1, p2, p3, p4, p5⟩ := HT.out.at_ hml (HF.out.1.tb.row m hml) (by omega)
                        have f1 := e3 m hml
                        have f2 := e3 k hkl
                        have f3 := p3 k hkl
                        have f4 := e4 k
                        have HS5 := Lib.hid (e5 k (at2 tab i m + at2 tab m k))
                        have HSM : Hid (0 ≤ at2 tab m k → at2 tab m k ≤ 65535 * ((m : Int) + 1)) := fun h => HF.out.1.small HV.out HN.out hml hml hkl (.inl rfl) h
                        have HSI : Hid (at2 tab i m ≤ 65535 * ((m : Int) + 1)) := HF.out.1.small HV.out HN.out hml hil hml (.inr rfl) HF.out.2
                        have HPT : Hid (0 ≤ at2 tab m k → (at2 tab i k < 0 ∨ at2 tab i m + at2 tab m k < at2 tab i k) → FwR R N l n m i (k + 1) (setT tab i k (at2 tab i m + at2 tab m k)) ∧ 0 ≤ at2 (setT tab i k (at2 tab i m + at2 tab m k)) i m) := fun h1 h2 =>
                          ⟨HF.out.1.put HV.out HN.out hml hil hkl HF.out.2 h1 h2, by
                            rw [at2_set HF.out.1.tb hil hkl]
                            have := HF.out.2
                            split <;> omega⟩
                        have HLV : Hid ((0 ≤ at2 tab m k → 0 ≤ at2 tab i k ∧ at2 tab i k ≤ at2 tab i m + at2 tab m k) → FwR R N l n m i (k + 1) tab ∧ 0 ≤ at2 tab i m) := fun h1 => ⟨HF.out.1.leave HV.out hml hil hkl (fun _ => h1), HF.out.2⟩
                        have HX0 := Lib.hid HF.out.2
                        have HTC := Lib.hid HT.out
                        clear e3 e4 e5 p3 p4 p5 HF HT
                        have hx0 := HX0.out
                        have hsi := HSI.out
                        have hsm := HSM.out
                        clear HX0 HSI HSM
                        generalize hxe : at2 tab i m = x at *
                        have HXE := Lib.hid hxe
                        clear hxe
                        generalize at2 tab i k = y at *
                        generalize at2 tab m k = z at *
                        by_cases hz : z < 0
                        · have z1 : decide (0 ≤ z) = false := decide_eq_false (by omega)
                          have HN1 := Lib.hid (HLV.out (fun h => by omega))
                          clear HLV HPT HS5
                          go_wp2_with fail
                          go_quiet (fail)
                          go_wp2_with fail
                          go_roundg (n - (k + 1))
                          case measure => omega
                          case rel => exact ⟨k + 1, _, by omega, Nat.le_refl _, by go_num, HTC.out.drewN _, HN1.out.1, by rw [HXE.out]; exact HN1.out.2⟩
                        · have z0 : 0 ≤ z := by omega
                          have z1 : decide (0 ≤ z) = true := decide_eq_true z0
                          have hs1 := hsm z0
                          by_cases hy : y < 0
                          · have y1 : decide (y < 0) = true := decide_eq_true hy
                            have HN1 := Lib.hid (HPT.out z0 (.inl hy))
                            clear HLV HPT
                            go_wp2_with fail
                            go_quiet (fail)
                            go_upto_region 27 with (fail)
                            go_region
                            go_wp2_with fail
                            go_roundg (n - (k + 1))
                            case measure => omega
                            case rel => exact ⟨k + 1, _, by omega, Nat.le_refl _, by go_num, (HS5.out.drewN _).drew, HN1.out.1, HN1.out.2⟩
                          · have y1 : decide (y < 0) = false := decide_eq_false hy
                            by_cases hxy : x + z < y
                            · have HN1 := Lib.hid (HPT.out z0 (.inr hxy))
                              have y2 : decide (x + z < y) = true := decide_eq_true hxy
                              clear HLV HPT
                              go_wp2_with fail
                              go_quiet (fail)
                              go_upto_region 27 with (fail)
                              go_region
                              go_wp2_with fail
                              go_roundg (n - (k + 1))
                              case measure => omega
                              case rel => exact ⟨k + 1, _, by omega, Nat.le_refl _, by go_num, (HS5.out.drewN _).drew, HN1.out.1, HN1.out.2⟩
                            · have y2 : decide (x + z < y) = false := decide_eq_false hxy
                              have HN1 := Lib.hid (HLV.out (fun h => by omega))
                              clear HLV HPT HS5
                              go_wp2_with fail
                              go_quiet (fail)
                              go_wp2_with fail
                              go_roundg (n - (k + 1))
                              case measure => omega
                              case rel => exact ⟨k + 1, _, by omega, Nat.le_refl _, by go_num, HTC.out.drewN _, HN1.out.1, by rw [HXE.out]; exact HN1.out.2⟩
                      · have k1 : decide ((k : Int) < (n : Int)) = false := decide_eq_false (by omega)
                        have HKN : Hid (k = n) := by show _ = _; omega
                        have HRW : Hid (FwR R N l n m (i + 1) 0 tab) := by
                          have := HF.out.1; rw [HKN.out] at this; exact this.row
                        clear HF HKN
                        go_wp2_with fail
                        go_roundg (n - (i + 1))
                        case measure => omega
                        case rel => exact ⟨i + 1, _, by omega, Nat.le_refl _, by go_num, ⟨_, rfl⟩, HT, HRW⟩
                · have k1 : decide ((i : Int) < (n : Int)) = false := decide_eq_false (by omega)
                  have HIN : Hid (i = n) := by show _ = _; omega
                  have HRD : Hid (FwR R N l n (m + 1) 0 0 tab) := by
                    have := HF.out; rw [HIN.out] at this; exact this.round
                  clear HF HIN
                  go_wp2_with fail
                  go_roundg (n - (m + 1))
                  case measure => omega
                  case rel => exact ⟨m + 1, _, by omega, Nat.le_refl _, by go_num, ⟨_, rfl⟩, ⟨_, rfl⟩, HT, HRD⟩
            · have k1 : decide ((m : Int) < (n : Int)) = false := decide_eq_false (by omega)
              have HMN : Hid (m = n) := by show _ = _; omega
              have HD : Hid (∀ a b : Nat, a < n → b < n → at2 tab a b = T l a b) := fun a b ha hb => by
                have := HF.out; rw [HMN.out] at this; exact this.dist HV.out HN.out ha hb
              have HTb := Lib.hid HF.out.tb
              clear HF HMN
              go_wp2
              go_ret
              obtain ⟨vs, h1, h2, h3, h4, h5, h6⟩ := HT.out
              exact ⟨_, tab, vs, rfl, h1, h2, HTb.out, HD.out, h4⟩
end Go.Proofs.Ytmbogobebllheaa
namespace Go.Proofs.Ytmbogobebllheaa
open Go.RowKit HM GM SP
set_option linter.unusedSimpArgs false
set_option linter.unusedVariables false
set_option maxHeartbeats 4000000
set_option maxRecDepth 100000
theorem cstF_mem {a b : Int} : ∀ {l : List E}, (cstF a b l).2 = true → (a, b, (cstF a b l).1) ∈ l
  | [], h => by simp [cstF] at h
  | (x, y, z) :: r, h => by
    unfold cstF at h ⊢
    split
    · rename_i he
      obtain ⟨rfl, rfl⟩ := he
      exact List.mem_cons_self
    · rename_i he
      rw [if_neg he] at h
      exact List.mem_cons_of_mem _ (cstF_mem h)
theorem cstF_no {a b : Int} : ∀ {l : List E}, (cstF a b l).2 = false → ∀ c, (a, b, c) ∉ l
  | [], _, c => by simp
  | (x, y, z) :: r, h, c => by
    unfold cstF at h
    split at h
    · cases h
    · rename_i he
      intro hm
      rcases List.mem_cons.1 hm with hm | hm
      · cases hm; exact he ⟨rfl, rfl⟩
      · exact cstF_no h c hm
theorem cstF_iff {R N : Int} {l : List E} (hv : Valid R N l) {a b c : Int} : (a, b, c) ∈ l ↔ ((cstF a b l).2 = true ∧ (cstF a b l).1 = c) := by
  constructor
  · intro h
    cases h2 : (cstF a b l).2 with
    | true => exact ⟨rfl, edge_one hv (cstF_mem h2) h⟩
    | false => exact absurd h (cstF_no h2 c)
  · rintro ⟨h1, rfl⟩; exact cstF_mem h1
theorem cstF_small {R N : Int} {l : List E} (hv : Valid R N l) (a b : Int) : 0 ≤ (cstF a b l).1 ∧ (cstF a b l).1 ≤ 65535 := by
  cases h2 : (cstF a b l).2 with
  | true => have := edge hv (cstF_mem h2); omega
  | false =>
    have : ∀ l : List E, (cstF a b l).2 = false → (cstF a b l).1 = 0 := by
      intro l
      induction l with
      | nil => intro _; rfl
      | cons e r ih =>
        intro h
        unfold cstF at h ⊢
        split
        · rename_i he; rw [if_pos he] at h; cases h
        · rename_i he; rw [if_neg he] at h; exact ih h
    rw [this l h2]; omega
/-- the same as First, but for what it says of the node itself -/
def FirstB (R : Int) (l : List E) (s v : Int) : Prop := (s, v, T l s v) ∈ l ∨ (v < R ∧ ∃ w, R ≤ w ∧ (s, w, T l s w) ∈ l ∧ T l s w = T l s v ∧ (w, v, 0) ∈ l)
/-- a table of distances that is there -/
structure DT (w : World) (l : List E) (n b o cap : Nat) : Prop where
  rows : ∀ k, k < n → ∃ g p c, w.cell? ⟨b, o + k, none⟩ = some (.slice (some ⟨g, p, none⟩) n c) ∧ g < w.heap.size ∧ n ≤ c ∧ ∀ j, j < n → w.cell? ⟨g, p + j, none⟩ = some (.int .i64 (T l (k : Int) (j : Int)))
  blk : b < w.heap.size
theorem DT.of {w : World} {l : List E} {n : Nat} {v : Value} {tab : List (List Int)} (h : RdR w v tab) (ht : Tb n tab) (hd : ∀ a b : Nat, a < n → b < n → at2 tab a b = T l a b) (h0 : 0 < n) : ∃ b o cap, v = .slice (some ⟨b, o, none⟩) n cap ∧ n ≤ cap ∧ DT w l n b o cap := by
  obtain ⟨ad, cap, rfl, h1, h2, hc⟩ := h
  obtain ⟨b, o, _, rfl, hb, _⟩ := hc 0 _ (gL_get (by rw [ht.len]; omega))
  refine ⟨b, o, cap, by rw [ht.len], by rw [← ht.len]; omega, fun k hk => ?_, hb⟩
  obtain ⟨b', o', u, e, _, c, hr⟩ := hc k _ (gL_get (by rw [ht.len]; omega))
  cases e
  obtain ⟨ad', cap', rfl, k1, k2, hc'⟩ := hr
  rw [ht.row k hk] at k1
  obtain ⟨g, p, rfl, hg, _⟩ := hc' 0 _ (gI_get (by rw [ht.row k hk]; omega))
  refine ⟨g, p, cap', by rw [c, ht.row k hk], hg, k1, fun j hj => ?_⟩
  obtain ⟨g', p', e, _, c'⟩ := hc' j _ (gI_get (by rw [ht.row k hk]; omega))
  cases e
  rw [c', ← hd k j hk hj]; rfl
theorem DT.below {w w' : World} {l : List E} {n b o cap : Nat} (h : DT w l n b o cap) (hb : Below w.heap.size w w') : DT w' l n b o cap :=
  ⟨fun k hk => by
    obtain ⟨g, p, c, c1, c2, c3, c4⟩ := h.rows k hk
    exact ⟨g, p, c, carry hb c1, Nat.lt_of_lt_of_le c2 hb.size, c3, fun j hj => carry hb (c4 j hj)⟩, Nat.lt_of_lt_of_le h.blk hb.size⟩
theorem direct_any (R N : Int) (l : List E) (s : Value) (n x v b o dcap : Nat) (w : World) (hv : Valid R N l) (hr : Rd3 w s l) (hn : (n : Int) = R + N) (hx : x < n) (hvn : v < n) (hd : DT w l n b o dcap) (hdc : n ≤ dcap) :
    Calls Try.prog 105 #[.agg #[.int .i64 R, .int .i64 N, s], .slice (some ⟨b, o, none⟩) n dcap, .int .i64 (x : Int), .int .i64 (v : Int)] w fun e w' => ∃ d : Bool, e = .returned (.bool d) ∧ (d = true ↔ FirstB R l (x : Int) (v : Int)) ∧ Below w.heap.size w w' := by
  have HCo : Hid (∀ a c W, Below w.heap.size w W → Calls Try.prog 43 #[.agg #[.int .i64 R, .int .i64 N, s], .int .i64 a, .int .i64 c] W fun e w' => e = .returned (.tuple #[.int .i64 (cstF a c l).1, .bool (cstF a c l).2]) ∧ Below W.heap.size W w') := fun a c W hW => rcost_any R N a c l s W (hr.below hW)
  have hR := hv.r; have hN := hv.n; have hS := hv.s
  have HV := Lib.hid (And.intro hv hn)
  have HD := Lib.hid hd
  obtain ⟨ad, cap, hform⟩ := rd3_slice hr
  obtain ⟨L, hL⟩ : ∃ L, l.length = L := ⟨_, rfl⟩
  rw [hL] at hform
  subst hform
  have hn8 : n ≤ 128 := by omega
  have hRn : R ≤ (n : Int) := by omega
  have x0 : (0 : Int) ≤ (x : Int) := by omega
  have x1 : (x : Int) < (n : Int) := by omega
  have v0 : (0 : Int) ≤ (v : Int) := by omega
  have v1 : (v : Int) < (n : Int) := by omega
  obtain ⟨r, rfl⟩ : ∃ r : Nat, R = (r : Int) := ⟨R.toNat, by omega⟩
  have hrn : r ≤ n := by omega
  clear hv hd hL hr hn
  have HB := Lib.hid (below_alloc w (.cells #[.int .i64 (r : Int), .int .i64 N, .slice ad L cap] 27))
  have bx : (w.alloc (.cells #[.int .i64 (r : Int), .int .i64 N, .slice ad L cap] 27)).heap[w.heap.size]? = some (.cells #[.int .i64 (r : Int), .int .i64 N, .slice ad L cap] 27 (0, 0)) := heap_alloc_new _ _
  have HBX := Lib.hid bx
  clear bx
  go_enter Try.func105, Try.ntmps105
  go_wp2_with fail
  generalize (w.alloc (.cells #[.int .i64 (r : Int), .int .i64 N, .slice ad L cap] 27)) = V at *
  have HC : Hid (∀ W, Below V.heap.size V W → W.cell? ⟨w.heap.size, 0, none⟩ = some (.int .i64 (r : Int)) ∧ W.cell? ⟨w.heap.size, 1, none⟩ = some (.int .i64 N) ∧ W.cell? ⟨w.heap.size, 2, none⟩ = some (.slice ad L cap)) := fun W hW => ⟨carry hW (cell_of HBX.out rfl), carry hW (cell_of HBX.out rfl), carry hW (cell_of HBX.out rfl)⟩
  go_at_call 43
  refine (HCo.out _ _ _ HB.out).mono ?_
  rintro e w1 ⟨rfl, hb1⟩
  have HB1 := Lib.hid hb1
  obtain ⟨c0, c1, c2⟩ := HC.out _ hb1
  obtain ⟨g, p, gc, f1, f2, f3, f4⟩ := (HD.out.below (below_then HB.out hb1)).rows x hx
  have f5 := f4 v hvn
  have HM : Hid ((cstF (x : Int) (v : Int) l).2 = true ∧ (cstF (x : Int) (v : Int) l).1 = T l x v ↔ ((x : Int), (v : Int), T l x v) ∈ l) := (cstF_iff HV.out.1).symm
  clear f4 hb1
  generalize hT : T l (x : Int) (v : Int) = tv at f5
  have HT := Lib.hid hT
  clear hT
  generalize (cstF (x : Int) (v : Int) l).1 = cc at *
  generalize (cstF (x : Int) (v : Int) l).2 = cb at *
  rw [HT.out] at HM
  by_cases hh : cb = true ∧ cc = tv
  · obtain ⟨rfl, rfl⟩ := hh
    go_wp2
    go_ret
    refine ⟨true, rfl, ⟨fun _ => .inl ?_, fun _ => rfl⟩, below_then HB.out HB1.out⟩
    rw [HT.out]; exact HM.out.1 (by constructor <;> first | rfl | trivial)
  · have HNO : Hid (((x : Int), (v : Int), T l x v) ∉ l) := fun h => by rw [HT.out] at h; exact hh (HM.out.2 h)
    clear HM
    have hcond : (cb && (cc == tv)) = false := by
      cases cb with
      | false => rfl
      | true => simp; intro e; exact hh ⟨rfl, e⟩
    by_cases hvr : r ≤ v
    · have q1 : (r : Int) ≤ (v : Int) := by omega
      have HNF : Hid (¬ FirstB (r : Int) l (x : Int) (v : Int)) := by
        rintro (h | ⟨h, _⟩)
        · exact HNO.out h
        · omega
      clear hcond
      cases cb with
      | false =>
        clear hh
        go_wp2
        go_ret
        exact ⟨false, rfl, ⟨(fun h => by cases h), fun h => absurd h HNF.out⟩, below_then HB.out HB1.out⟩
      | true =>
        have q2 : (cc == tv) = false := by simp; intro e; exact hh ⟨rfl, e⟩
        have q3 : ¬ cc = tv := fun e => hh ⟨rfl, e⟩
        clear hh
        go_wp2
        go_ret
        exact ⟨false, rfl, ⟨(fun h => by cases h), fun h => absurd h HNF.out⟩, below_then HB.out HB1.out⟩
    · have q1 : ¬ ((r : Int) ≤ (v : Int)) := by omega
      have hvR : v < r := by omega
      have HS : Hid (Below V.heap.size V w1 ∧ ∀ u : Nat, r ≤ u → u < r → ¬ (((x : Int), (u : Int), T l x u) ∈ l ∧ T l x u = T l x v ∧ ((u : Int), (v : Int), 0) ∈ l)) := ⟨HB1.out, fun u h1 h2 => by omega⟩
      cases cb with
      | false =>
        clear hh hcond
        go_wp2_with fail
        go_loopg [11, 12, 13, 14, 15] n (fun g s11 s12 s13 s14 s15 wr => ∃ j : Nat, r ≤ j ∧ j ≤ n ∧ n - j ≤ g ∧ s11 = .int .i64 (j : Int) ∧ (∃ u, u = s12) ∧ (∃ u, u = s13) ∧ (∃ u, u = s14) ∧ (∃ u, u = s15) ∧ Hid (Below V.heap.size V wr ∧ ∀ u : Nat, r ≤ u → u < j → ¬ (((x : Int), (u : Int), T l x u) ∈ l ∧ T l x u = T l x v ∧ ((u : Int), (v : Int), 0) ∈ l)))
        case atStart => exact ⟨r, Nat.le_refl _, hrn, by omega, rfl, ⟨_, rfl⟩, ⟨_, rfl⟩, ⟨_, rfl⟩, ⟨_, rfl⟩, HS⟩
        case round =>
          clear HS
          obtain ⟨j, hrj, hj, hjg, rfl, ⟨u12, rfl⟩, ⟨u13, rfl⟩, ⟨u14, rfl⟩, ⟨u15, rfl⟩, HSS⟩ := hrel
          by_cases hlt : j < n
          · have j0 : (0 : Int) ≤ (j : Int) := by omega
            have j1 : (j : Int) < (n : Int) := by omega
            obtain ⟨c0, c1, c2⟩ := HC.out _ HSS.out.1
            go_wp2_with fail
            go_at_call 43
            refine (HCo.out _ _ _ (below_then HB.out HSS.out.1)).mono ?_
            rintro e w2 ⟨rfl, hb2⟩
            have HB2 := Lib.hid (below_then HSS.out.1 hb2)
            clear c0 c1 c2 hb2
            obtain ⟨c0, c1, c2⟩ := HC.out _ HB2.out
            go_wp2_with fail
            go_at_call 43
            refine (HCo.out _ _ _ (below_then HB.out HB2.out)).mono ?_
            rintro e w3 ⟨rfl, hb3⟩
            have HB3 := Lib.hid (below_then HB2.out hb3)
            clear c0 c1 c2 hb3
            obtain ⟨g1, p1, gc1, k1, k2, k3, k4⟩ := (HD.out.below (below_then HB.out HB3.out)).rows x hx
            have k5 := k4 v hvn
            have k6 := k4 j hlt
            rw [HT.out] at k5
            have HM1 : Hid (((x : Int), (j : Int), T l x j) ∈ l ↔ ((cstF (x : Int) (j : Int) l).2 = true ∧ (cstF (x : Int) (j : Int) l).1 = T l x j)) := cstF_iff HV.out.1
            have HM2 : Hid (((j : Int), (v : Int), 0) ∈ l ↔ (cstF (j : Int) (v : Int) l).2 = true) := by
              constructor
              · intro h; exact ((cstF_iff HV.out.1).1 h).1
              · intro h
                have hm := cstF_mem h
                have := (edge HV.out.1 hm).2.2.2.2.2.2.2.2 (by omega)
                rw [this.1] at hm; exact hm
            clear k4
            generalize hT6 : T l (x : Int) (j : Int) = tj at k6
            have HT6 := Lib.hid hT6
            clear hT6
            rw [HT6.out] at HM1
            generalize (cstF (x : Int) (j : Int) l).1 = aj at *
            generalize (cstF (x : Int) (j : Int) l).2 = isb at *
            generalize (cstF (j : Int) (v : Int) l).2 = hab at *
            generalize (cstF (j : Int) (v : Int) l).1 = zj at *
            cases isb with
            | false =>
              have HNJ : Hid (¬ (((x : Int), (j : Int), T l x j) ∈ l ∧ T l x j = T l x v ∧ ((j : Int), (v : Int), 0) ∈ l)) := fun h => by have := HM1.out.1 (by rw [← HT6.out]; exact h.1); exact Bool.noConfusion this.1
              go_wp2_with fail
              go_roundg (n - (j + 1))
              case measure => omega
              case rel => exact ⟨j + 1, by omega, by omega, Nat.le_refl _, by go_num, ⟨_, rfl⟩, ⟨_, rfl⟩, ⟨_, rfl⟩, ⟨_, rfl⟩, HB3.out, fun u h1 h2 => by
                by_cases e : u = j
                · subst e; exact HNJ.out
                · exact HSS.out.2 u h1 (by omega)⟩
            | true =>
              cases hab with
              | false =>
                have HNJ : Hid (¬ (((x : Int), (j : Int), T l x j) ∈ l ∧ T l x j = T l x v ∧ ((j : Int), (v : Int), 0) ∈ l)) := fun h => by have := HM2.out.1 h.2.2; exact Bool.noConfusion this
                go_wp2_with fail
                go_roundg (n - (j + 1))
                case measure => omega
                case rel => exact ⟨j + 1, by omega, by omega, Nat.le_refl _, by go_num, ⟨_, rfl⟩, ⟨_, rfl⟩, ⟨_, rfl⟩, ⟨_, rfl⟩, HB3.out, fun u h1 h2 => by
                  by_cases e : u = j
                  · subst e; exact HNJ.out
                  · exact HSS.out.2 u h1 (by omega)⟩
              | true =>
                by_cases ha : aj = tj
                · by_cases hb : aj = tv
                  · have HYES : Hid (FirstB (r : Int) l (x : Int) (v : Int)) := .inr ⟨by omega, (j : Int), by omega, by rw [HT6.out]; exact HM1.out.2 ⟨rfl, ha⟩, by rw [HT6.out, HT.out, ← ha]; exact hb, HM2.out.2 rfl⟩
                    subst ha
                    subst hb
                    clear HM1 HM2
                    go_wp2
                    go_ret
                    exact ⟨true, rfl, ⟨fun _ => HYES.out, fun _ => rfl⟩, below_then HB.out HB3.out⟩
                  · have z1 : (aj == tv) = false := by simpa using hb
                    subst ha
                    have HNE : Hid (¬ aj = tv) := hb
                    have HNJ : Hid (¬ (((x : Int), (j : Int), T l x j) ∈ l ∧ T l x j = T l x v ∧ ((j : Int), (v : Int), 0) ∈ l)) := fun h => HNE.out (by have := h.2.1; rw [HT6.out, HT.out] at this; exact this)
                    go_wp2_with fail
                    go_roundg (n - (j + 1))
                    case measure => omega
                    case rel => exact ⟨j + 1, by omega, by omega, Nat.le_refl _, by go_num, ⟨_, rfl⟩, ⟨_, rfl⟩, ⟨_, rfl⟩, ⟨_, rfl⟩, HB3.out, fun u h1 h2 => by
                      by_cases e : u = j
                      · subst e; exact HNJ.out
                      · exact HSS.out.2 u h1 (by omega)⟩
                · have z1 : (aj == tj) = false := by simpa using ha
                  have HNE : Hid (¬ aj = tj) := ha
                  have HNJ : Hid (¬ (((x : Int), (j : Int), T l x j) ∈ l ∧ T l x j = T l x v ∧ ((j : Int), (v : Int), 0) ∈ l)) := fun h => by have := HM1.out.1 (by rw [← HT6.out]; exact h.1); exact HNE.out this.2
                  go_wp2_with fail
                  go_roundg (n - (j + 1))
                  case measure => omega
                  case rel => exact ⟨j + 1, by omega, by omega, Nat.le_refl _, by go_num, ⟨_, rfl⟩, ⟨_, rfl⟩, ⟨_, rfl⟩, ⟨_, rfl⟩, HB3.out, fun u h1 h2 => by
                    by_cases e : u = j
                    · subst e; exact HNJ.out
                    · exact HSS.out.2 u h1 (by omega)⟩
          · have k1 : decide ((j : Int) < (n : Int)) = false := decide_eq_false (by omega)
            have HNF : Hid (¬ FirstB (r : Int) l (x : Int) (v : Int)) := by
              rintro (h | ⟨_, u, h1, h2, h3, h4⟩)
              · exact HNO.out h
              · have hu := edge HV.out.1 h2
                have hnn := HV.out.2
                obtain ⟨u, rfl⟩ : ∃ u' : Nat, u = u' := ⟨u.toNat, by omega⟩
                exact HSS.out.2 u (by omega) (by omega) ⟨h2, h3, h4⟩
            go_wp2
            go_ret
            exact ⟨false, rfl, ⟨(fun h => by cases h), fun h => absurd h HNF.out⟩, below_then HB.out HSS.out.1⟩
      | true =>
        have q2 : (cc == tv) = false := by simp; intro e; exact hh ⟨rfl, e⟩
        have q3 : ¬ cc = tv := fun e => hh ⟨rfl, e⟩
        clear hh hcond
        go_wp2_with fail
        go_loopg [11, 12, 13, 14, 15] n (fun g s11 s12 s13 s14 s15 wr => ∃ j : Nat, r ≤ j ∧ j ≤ n ∧ n - j ≤ g ∧ s11 = .int .i64 (j : Int) ∧ (∃ u, u = s12) ∧ (∃ u, u = s13) ∧ (∃ u, u = s14) ∧ (∃ u, u = s15) ∧ Hid (Below V.heap.size V wr ∧ ∀ u : Nat, r ≤ u → u < j → ¬ (((x : Int), (u : Int), T l x u) ∈ l ∧ T l x u = T l x v ∧ ((u : Int), (v : Int), 0) ∈ l)))
        case atStart => exact ⟨r, Nat.le_refl _, hrn, by omega, rfl, ⟨_, rfl⟩, ⟨_, rfl⟩, ⟨_, rfl⟩, ⟨_, rfl⟩, HS⟩
        case round =>
          clear HS
          obtain ⟨j, hrj, hj, hjg, rfl, ⟨u12, rfl⟩, ⟨u13, rfl⟩, ⟨u14, rfl⟩, ⟨u15, rfl⟩, HSS⟩ := hrel
          by_cases hlt : j < n
          · have j0 : (0 : Int) ≤ (j : Int) := by omega
            have j1 : (j : Int) < (n : Int) := by omega
            obtain ⟨c0, c1, c2⟩ := HC.out _ HSS.out.1
            go_wp2_with fail
            go_at_call 43
            refine (HCo.out _ _ _ (below_then HB.out HSS.out.1)).mono ?_
            rintro e w2 ⟨rfl, hb2⟩
            have HB2 := Lib.hid (below_then HSS.out.1 hb2)
            clear c0 c1 c2 hb2
            obtain ⟨c0, c1, c2⟩ := HC.out _ HB2.out
            go_wp2_with fail
            go_at_call 43
            refine (HCo.out _ _ _ (below_then HB.out HB2.out)).mono ?_
            rintro e w3 ⟨rfl, hb3⟩
            have HB3 := Lib.hid (below_then HB2.out hb3)
            clear c0 c1 c2 hb3
            obtain ⟨g1, p1, gc1, k1, k2, k3, k4⟩ := (HD.out.below (below_then HB.out HB3.out)).rows x hx
            have k5 := k4 v hvn
            have k6 := k4 j hlt
            rw [HT.out] at k5
            have HM1 : Hid (((x : Int), (j : Int), T l x j) ∈ l ↔ ((cstF (x : Int) (j : Int) l).2 = true ∧ (cstF (x : Int) (j : Int) l).1 = T l x j)) := cstF_iff HV.out.1
            have HM2 : Hid (((j : Int), (v : Int), 0) ∈ l ↔ (cstF (j : Int) (v : Int) l).2 = true) := by
              constructor
              · intro h; exact ((cstF_iff HV.out.1).1 h).1
              · intro h
                have hm := cstF_mem h
                have := (edge HV.out.1 hm).2.2.2.2.2.2.2.2 (by omega)
                rw [this.1] at hm; exact hm
            clear k4
            generalize hT6 : T l (x : Int) (j : Int) = tj at k6
            have HT6 := Lib.hid hT6
            clear hT6
            rw [HT6.out] at HM1
            generalize (cstF (x : Int) (j : Int) l).1 = aj at *
            generalize (cstF (x : Int) (j : Int) l).2 = isb at *
            generalize (cstF (j : Int) (v : Int) l).2 = hab at *
            generalize (cstF (j : Int) (v : Int) l).1 = zj at *
            cases isb with
            | false =>
              have HNJ : Hid (¬ (((x : Int), (j : Int), T l x j) ∈ l ∧ T l x j = T l x v ∧ ((j : Int), (v : Int), 0) ∈ l)) := fun h => by have := HM1.out.1 (by rw [← HT6.out]; exact h.1); exact Bool.noConfusion this.1
              go_wp2_with fail
              go_roundg (n - (j + 1))
              case measure => omega
              case rel => exact ⟨j + 1, by omega, by omega, Nat.le_refl _, by go_num, ⟨_, rfl⟩, ⟨_, rfl⟩, ⟨_, rfl⟩, ⟨_, rfl⟩, HB3.out, fun u h1 h2 => by
                by_cases e : u = j
                · subst e; exact HNJ.out
                · exact HSS.out.2 u h1 (by omega)⟩
            | true =>
              cases hab with
              | false =>
                have HNJ : Hid (¬ (((x : Int), (j : Int), T l x j) ∈ l ∧ T l x j = T l x v ∧ ((j : Int), (v : Int), 0) ∈ l)) := fun h => by have := HM2.out.1 h.2.2; exact Bool.noConfusion this
                go_wp2_with fail
                go_roundg (n - (j + 1))
                case measure => omega
                case rel => exact ⟨j + 1, by omega, by omega, Nat.le_refl _, by go_num, ⟨_, rfl⟩, ⟨_, rfl⟩, ⟨_, rfl⟩, ⟨_, rfl⟩, HB3.out, fun u h1 h2 => by
                  by_cases e : u = j
                  · subst e; exact HNJ.out
                  · exact HSS.out.2 u h1 (by omega)⟩
              | true =>
                by_cases ha : aj = tj
                · by_cases hb : aj = tv
                  · have HYES : Hid (FirstB (r : Int) l (x : Int) (v : Int)) := .inr ⟨by omega, (j : Int), by omega, by rw [HT6.out]; exact HM1.out.2 ⟨rfl, ha⟩, by rw [HT6.out, HT.out, ← ha]; exact hb, HM2.out.2 rfl⟩
                    subst ha
                    subst hb
                    clear HM1 HM2
                    go_wp2
                    go_ret
                    exact ⟨true, rfl, ⟨fun _ => HYES.out, fun _ => rfl⟩, below_then HB.out HB3.out⟩
                  · have z1 : (aj == tv) = false := by simpa using hb
                    subst ha
                    have HNE : Hid (¬ aj = tv) := hb
                    have HNJ : Hid (¬ (((x : Int), (j : Int), T l x j) ∈ l ∧ T l x j = T l x v ∧ ((j : Int), (v : Int), 0) ∈ l)) := fun h => HNE.out (by have := h.2.1; rw [HT6.out, HT.out] at this; exact this)
                    go_wp2_with fail
                    go_roundg (n - (j + 1))
                    case measure => omega
                    case rel => exact ⟨j + 1, by omega, by omega, Nat.le_refl _, by go_num, ⟨_, rfl⟩, ⟨_, rfl⟩, ⟨_, rfl⟩, ⟨_, rfl⟩, HB3.out, fun u h1 h2 => by
                      by_cases e : u = j
                      · subst e; exact HNJ.out
                      · exact HSS.out.2 u h1 (by omega)⟩
                · have z1 : (aj == tj) = false := by simpa using ha
                  have HNE : Hid (¬ aj = tj) := ha
                  have HNJ : Hid (¬ (((x : Int), (j : Int), T l x j) ∈ l ∧ T l x j = T l x v ∧ ((j : Int), (v : Int), 0) ∈ l)) := fun h => by have := HM1.out.1 (by rw [← HT6.out]; exact h.1); exact HNE.out this.2
                  go_wp2_with fail
                  go_roundg (n - (j + 1))
                  case measure => omega
                  case rel => exact ⟨j + 1, by omega, by omega, Nat.le_refl _, by go_num, ⟨_, rfl⟩, ⟨_, rfl⟩, ⟨_, rfl⟩, ⟨_, rfl⟩, HB3.out, fun u h1 h2 => by
                    by_cases e : u = j
                    · subst e; exact HNJ.out
                    · exact HSS.out.2 u h1 (by omega)⟩
          · have k1 : decide ((j : Int) < (n : Int)) = false := decide_eq_false (by omega)
            have HNF : Hid (¬ FirstB (r : Int) l (x : Int) (v : Int)) := by
              rintro (h | ⟨_, u, h1, h2, h3, h4⟩)
              · exact HNO.out h
              · have hu := edge HV.out.1 h2
                have hnn := HV.out.2
                obtain ⟨u, rfl⟩ : ∃ u' : Nat, u = u' := ⟨u.toNat, by omega⟩
                exact HSS.out.2 u (by omega) (by omega) ⟨h2, h3, h4⟩
            go_wp2
            go_ret
            exact ⟨false, rfl, ⟨(fun h => by cases h), fun h => absurd h HNF.out⟩, below_then HB.out HSS.out.1⟩
end Go.Proofs.Ytmbogobebllheaa
namespace Go.Proofs.Ytmbogobebllheaa
open Go.RowKit HM SP
set_option linter.unusedSimpArgs false
set_option linter.unusedVariables false
set_option maxHeartbeats 4000000
set_option maxRecDepth 100000
structure HPm (w : World) (H P n : Nat) (hv pv : List Value) (hops pars : List (List Int)) : Prop where
  rh : w.ownsRow 0 35 1 (.slice (some ⟨H, 0, none⟩) n n) n hv
  rp : w.ownsRow 0 35 1 (.slice (some ⟨P, 0, none⟩) n n) n pv
  hh : RS w hv hops
  pp : RS w pv pars
  hp : H ≠ P
  xh : ∀ g ∈ rblk hv, g ≠ H ∧ g ≠ P
  xp : ∀ g ∈ rblk pv, g ≠ H ∧ g ≠ P
  x : ∀ g ∈ rblk hv, g ∉ rblk pv
section
variable {w w' : World} {H P n : Nat} {hv pv : List Value} {hops pars : List (List Int)}
theorem HPm.swap (h : HPm w H P n hv pv hops pars) : HPm w P H n pv hv pars hops :=
  ⟨h.rp, h.rh, h.pp, h.hh, Ne.symm h.hp, fun g hg => ⟨(h.xp g hg).2, (h.xp g hg).1⟩, fun g hg => ⟨(h.xh g hg).2, (h.xh g hg).1⟩, fun g h1 h2 => h.x g h2 h1⟩
theorem HPm.lhv (h : HPm w H P n hv pv hops pars) : hv.length = n := by have := h.rh.1; omega
theorem HPm.lh (h : HPm w H P n hv pv hops pars) : hops.length = n := by rw [← h.hh.len]; exact h.lhv
theorem HPm.lpv (h : HPm w H P n hv pv hops pars) : pv.length = n := h.swap.lhv
theorem HPm.lp (h : HPm w H P n hv pv hops pars) : pars.length = n := h.swap.lh
theorem HPm.congr (h : HPm w H P n hv pv hops pars) (hk : ∀ g, (g = H ∨ g = P ∨ g ∈ rblk hv ∨ g ∈ rblk pv) → w'.heap[g]? = w.heap[g]?) : HPm w' H P n hv pv hops pars :=
  ⟨row_congr h.rh fun g hg => hk g (by simp [Value.ownBlock] at hg; simp [hg]), row_congr h.rp fun g hg => hk g (by simp [Value.ownBlock] at hg; simp [hg]),
    h.hh.congr fun g hg => hk g (by simp [hg]), h.pp.congr fun g hg => hk g (by simp [hg]), h.hp, h.xh, h.xp, h.x⟩
theorem HPm.lt (h : HPm w H P n hv pv hops pars) : ∀ g, (g = H ∨ g = P ∨ g ∈ rblk hv ∨ g ∈ rblk pv) → g < w.heap.size := fun g hg => by
  rcases hg with rfl | rfl | hg | hg
  · exact (row_lt h.rh rfl).2
  · exact (row_lt h.rp rfl).2
  · exact h.hh.lt g hg
  · exact h.pp.lt g hg
theorem HPm.below (h : HPm w H P n hv pv hops pars) (k : Below w.heap.size w w') : HPm w' H P n hv pv hops pars := h.congr fun g hg => k.block g (h.lt g hg)
theorem HPm.drew (h : HPm w H P n hv pv hops pars) : HPm w.drew H P n hv pv hops pars := h.congr fun _ _ => rfl
theorem HPm.ch (h : HPm w H P n hv pv hops pars) {v : Nat} (hvn : v < n) : w.cell? ⟨H, v, none⟩ = some (gVl hv v) := by
  rw [h.rh.cellAt v (by omega)]; exact gVl_get (by rw [h.lhv]; exact hvn)
theorem HPm.cp (h : HPm w H P n hv pv hops pars) {v : Nat} (hvn : v < n) : w.cell? ⟨P, v, none⟩ = some (gVl pv v) := h.swap.ch hvn
theorem HPm.fp (h : HPm w H P n hv pv hops pars) (o : Nat) : w.frozen? ⟨P, o, none⟩ = false := h.rp.frozenAt o
/-- another row of hops -/
theorem HPm.putH (h : HPm w H P n hv pv hops pars) {v : Nat} (hvn : v < n) {x : Value} {r : List Int} (hk : Kp (vblk (gVl hv v)) w w') (hr : w'.ownsRow 0 3 1 x r.length (ints r)) (hb : ∀ g, x.ownBlock = some g → (gVl hv v).ownBlock = some g ∨ w.heap.size ≤ g) :
    HPm (w'.setCell ⟨H, v, none⟩ x) H P n (hv.set v x) pv (hops.set v r) pars := by
  have hvl : v < hv.length := by rw [h.lhv]; exact hvn
  have hvo : v < hops.length := by rw [h.lh]; exact hvn
  have hin : ∀ g, g ∈ vblk (gVl hv v) → g ≠ H ∧ g ≠ P := fun g hg => h.xh g (vblk_rblk hvl hg)
  have lH := (row_lt h.rh rfl).2
  have lP := (row_lt h.rp rfl).2
  dsimp only at lH lP
  have hx : ∀ g ∈ rblk (hv.set v x), (g ≠ H ∧ g ≠ P) ∧ g ∉ rblk pv := fun g hg => by
    rcases rblk_set hvl hg with h1 | h1
    · rcases hb g h1 with h2 | h2
      · have := vblk_rblk hvl (mem_vblk.2 h2)
        exact ⟨h.xh g this, h.x g this⟩
      · exact ⟨⟨by omega, by omega⟩, fun hp => by have := h.pp.lt g hp; omega⟩
    · exact ⟨h.xh g h1, h.x g h1⟩
  have k1 : ∀ g, g < w.heap.size → g ∉ vblk (gVl hv v) → g ≠ H → (w'.setCell ⟨H, v, none⟩ x).heap[g]? = w.heap[g]? := fun g h1 h2 h3 => (heap_set_ne h3).trans (hk.block g h1 h2)
  have rs := h.hh.put hvo hk hr hb
  have hH := row_kp h.rh hk (fun g hg => by simp [Value.ownBlock] at hg; subst hg; exact fun hm => (hin _ hm).1 rfl)
  exact ⟨(hH.stored v x).1,
    row_congr h.rp fun g hg => by simp [Value.ownBlock] at hg; subst hg; exact k1 _ lP (fun hm => (hin _ hm).2 rfl) (Ne.symm h.hp),
    rs.congr fun g hg => heap_set_ne (hx g hg).1.1,
    h.pp.congr fun g hg => k1 g (h.pp.lt g hg) (fun hm => h.x g (vblk_rblk hvl hm) hg) (h.xp g hg).1,
    h.hp, fun g hg => (hx g hg).1, h.xp, fun g hg => (hx g hg).2⟩
theorem HPm.putP (h : HPm w H P n hv pv hops pars) {v : Nat} (hvn : v < n) {x : Value} {r : List Int} (hk : Kp (vblk (gVl pv v)) w w') (hr : w'.ownsRow 0 3 1 x r.length (ints r)) (hb : ∀ g, x.ownBlock = some g → (gVl pv v).ownBlock = some g ∨ w.heap.size ≤ g) :
    HPm (w'.setCell ⟨P, v, none⟩ x) H P n hv (pv.set v x) hops (pars.set v r) := (h.swap.putH hvn hk hr hb).swap
end
/-- the tree as it grows: since W1, only the tables' rows have changed -/
def RM (W1 : World) (H P n : Nat) (hops pars : List (List Int)) (wr : World) : Prop :=
  ∃ hv pv, HPm wr H P n hv pv hops pars ∧ Kp [H, P] W1 wr ∧ ∀ g, (g ∈ rblk hv ∨ g ∈ rblk pv) → W1.heap.size ≤ g
section
variable {W1 wr : World} {H P n : Nat} {hops pars : List (List Int)}
theorem RM.drew (h : RM W1 H P n hops pars wr) : RM W1 H P n hops pars wr.drew := by
  obtain ⟨hv, pv, h1, h2, h3⟩ := h; exact ⟨hv, pv, h1.drew, h2.drew, h3⟩
theorem RM.drewN (h : RM W1 H P n hops pars wr) (q : Nat) : RM W1 H P n hops pars (wr.drewN q) := by
  obtain ⟨hv, pv, h1, h2, h3⟩ := h; exact ⟨hv, pv, h1.congr fun _ _ => rfl, h2.drewN q, h3⟩
theorem RM.below {w' : World} (h : RM W1 H P n hops pars wr) (k : Below wr.heap.size wr w') : RM W1 H P n hops pars w' := by
  obtain ⟨hv, pv, h1, h2, h3⟩ := h; exact ⟨hv, pv, h1.below k, h2.then k, h3⟩
theorem RM.kp (h : RM W1 H P n hops pars wr) : Kp [H, P] W1 wr := by obtain ⟨hv, pv, h1, h2, h3⟩ := h; exact h2
theorem RM.swap (h : RM W1 H P n hops pars wr) : RM W1 P H n pars hops wr := by
  obtain ⟨hv, pv, h1, h2, h3⟩ := h
  exact ⟨pv, hv, h1.swap, h2.mono (fun g hg => by simp at hg ⊢; omega), fun g hg => h3 g (Or.symm hg)⟩
/-- one more number in a row of parents: what is read, what an append and a store make of it -/
theorem RM.atP (h : RM W1 H P n hops pars wr) {v : Nat} (hvn : v < n) :
    ∃ xv, wr.cell? ⟨P, v, none⟩ = some xv ∧ wr.frozen? ⟨P, v, none⟩ = false ∧ wr.ownsRow 0 3 1 xv (gL pars v).length (ints (gL pars v)) ∧ (∀ g, xv.ownBlock = some g → W1.heap.size ≤ g ∧ g ≠ P) ∧ P < wr.heap.size ∧
      ∀ (wd w2 : World) (y : Int) (x' : Value), Below wr.heap.size wr wd → wd.grownBy w2 xv.ownBlock → w2.ownsRow 0 3 1 x' ((gL pars v).length + 1) (ints (gL pars v) ++ [.int .i64 y]) → (∀ g, x'.ownBlock = some g → xv.ownBlock = some g ∨ wr.heap.size ≤ g) → RM W1 H P n hops (pars.set v (gL pars v ++ [y])) (w2.setCell ⟨P, v, none⟩ x') := by
  obtain ⟨hv, pv, h1, h2, h3⟩ := h
  have hvl : v < pv.length := by rw [h1.lpv]; exact hvn
  have hr := h1.pp.row v (by rw [h1.lp]; exact hvn)
  have hblk : ∀ g, (gVl pv v).ownBlock = some g → W1.heap.size ≤ g ∧ g ≠ P := fun g hg => by
    have hm := vblk_rblk hvl (mem_vblk.2 hg)
    exact ⟨h3 g (.inr hm), (h1.xp g hm).2⟩
  refine ⟨gVl pv v, h1.cp hvn, h1.fp v, hr, hblk, h1.lt P (.inr (.inl rfl)), fun wd w2 y x' hb hg ho hx => ?_⟩
  have hk : Kp (vblk (gVl pv v)) wr w2 := (Kp.of_below hb).grown hg fun k hk => .inl (mem_vblk.2 hk)
  refine ⟨hv, pv.set v x', h1.putP hvn hk (by rw [List.length_append, List.length_singleton, show ints (gL pars v ++ [y]) = ints (gL pars v) ++ [.int .i64 y] from by simp [ints]]; exact ho) hx, ?_, fun g hg => ?_⟩
  · refine Kp.setCell ?_ (.inl (by simp))
    refine h2.trans hk fun g hg => .inr (hblk g (mem_vblk.1 hg)).1
  · rcases hg with hg | hg
    · exact h3 g (.inl hg)
    · rcases rblk_set hvl hg with hg | hg
      · rcases hx g hg with hg | hg
        · exact (hblk g hg).1
        · exact Nat.le_trans h2.size hg
      · exact h3 g (.inr hg)
theorem RM.atH (h : RM W1 H P n hops pars wr) {v : Nat} (hvn : v < n) :
    ∃ xv, wr.cell? ⟨H, v, none⟩ = some xv ∧ wr.frozen? ⟨H, v, none⟩ = false ∧ wr.ownsRow 0 3 1 xv (gL hops v).length (ints (gL hops v)) ∧ (∀ g, xv.ownBlock = some g → W1.heap.size ≤ g ∧ g ≠ H) ∧ H < wr.heap.size ∧
      ∀ (wd w2 : World) (y : Int) (x' : Value), Below wr.heap.size wr wd → wd.grownBy w2 xv.ownBlock → w2.ownsRow 0 3 1 x' ((gL hops v).length + 1) (ints (gL hops v) ++ [.int .i64 y]) → (∀ g, x'.ownBlock = some g → xv.ownBlock = some g ∨ wr.heap.size ≤ g) → RM W1 H P n (hops.set v (gL hops v ++ [y])) pars (w2.setCell ⟨H, v, none⟩ x') := by
  obtain ⟨xv, a1, a2, a3, a4, a5, a6⟩ := h.swap.atP hvn
  exact ⟨xv, a1, a2, a3, a4, a5, fun wd w2 y x' b1 b2 b3 b4 => (a6 wd w2 y x' b1 b2 b3 b4).swap⟩
end
end Go.Proofs.Ytmbogobebllheaa
namespace Go.Proofs.Ytmbogobebllheaa
open Go.RowKit HM GM SP Classical
set_option linter.unusedSimpArgs false
set_option linter.unusedVariables false
set_option maxHeartbeats 4000000
set_option maxRecDepth 100000
def gT (row : Nat → List Int) (n i : Nat) : List (List Int) := (List.range n).map (fun a => if a < i then row a else [])
theorem gT_len (row : Nat → List Int) (n i : Nat) : (gT row n i).length = n := by simp [gT]
theorem gT_get {row : Nat → List Int} {n i a : Nat} (ha : a < n) : gL (gT row n i) a = if a < i then row a else [] := by
  unfold gL gT; simp [ha]
theorem gT_zero (row : Nat → List Int) (n : Nat) : gT row n 0 = List.replicate n [] := by
  apply List.ext_getElem
  · simp [gT]
  · intro i h1 h2; simp [gT]
theorem gT_set {row : Nat → List Int} {n i : Nat} (hi : i < n) : (gT row n i).set i (row i) = gT row n (i + 1) := by
  apply List.ext_getElem
  · simp [gT]
  · intro j h1 h2
    rw [List.getElem_set]
    by_cases e : i = j
    · subst e; simp [gT]
    · rw [if_neg e]
      simp only [gT, List.getElem_map, List.getElem_range]
      by_cases h3 : j < i
      · rw [if_pos h3, if_pos (by omega)]
      · rw [if_neg h3, if_neg (by omega)]
theorem gT_self {row : Nat → List Int} {n i : Nat} (hi : i < n) : (gT row n i).set i [] = gT row n i := by
  apply List.ext_getElem
  · simp
  · intro j h1 h2
    rw [List.getElem_set]
    by_cases e : i = j
    · subst e; simp [gT]
    · rw [if_neg e]
theorem gT_skip {row : Nat → List Int} {n i : Nat} (hi : i < n) (h : row i = []) : gT row n i = gT row n (i + 1) := by rw [← gT_set hi, h, gT_self hi]
noncomputable def parRow (l : List E) (s : Int) (n : Nat) (v : Nat) : List Int := rowF n (fun u => decide (Par l s (v : Int) u))
noncomputable def hopP (R : Int) (l : List E) (s : Int) (v : Nat) : Int → Bool := fun h => decide ((v : Int) ≠ s ∧ 0 ≤ T l s (v : Int) ∧ (h = (v : Int) ∨ (h < R ∧ 0 ≤ T l h (v : Int) ∧ T l s h + T l h (v : Int) = T l s (v : Int))))
noncomputable def hopRow (R : Int) (l : List E) (s : Int) (first : List Int) (v : Nat) : List Int := first.filter (hopP R l s v)
noncomputable def firstRow (R : Int) (l : List E) (s : Int) (n : Nat) : List Int := rowF n (fun u => decide (First R l s u))
section
variable {R N : Int} {l : List E} (hv : Valid R N l) {s : Int} {n : Nat}
include hv
theorem parRow_row (hn : (n : Int) = R + N) (v : Nat) : RowI (Par l s (v : Int)) (parRow l s n v) :=
  rowF_row (fun x hx => by
    obtain ⟨c, he, _⟩ := hx
    have := edge hv he; omega) fun x _ _ => decide_eq_true_iff
theorem firstRow_row (hs : 0 ≤ s ∧ s < R) (hn : (n : Int) = R + N) : RowI (First R l s) (firstRow R l s n) :=
  rowF_row (fun x hx => by have := (T_way hv hx.2.1).1.node hv (by have := hv.n; omega); omega) fun x _ _ => decide_eq_true_iff
omit hv in
theorem hopRow_row {first : List Int} (hf : RowI (First R l s) first) (v : Nat) : RowI (Hop R l s (v : Int)) (hopRow R l s first v) := by
  refine ⟨hf.1.sublist (List.filter_sublist), fun x => ?_⟩
  unfold hopRow hopP
  rw [List.mem_filter, hf.2 x]
  constructor
  · rintro ⟨h1, h2⟩
    obtain ⟨h3, h4, h5⟩ := of_decide_eq_true h2
    exact ⟨h3, h4, h1, h5⟩
  · rintro ⟨h1, h2, h3, h4⟩; exact ⟨h3, decide_eq_true ⟨h1, h2, h4⟩⟩
theorem rows_tree (hs : 0 ≤ s ∧ s < R) (hn : (n : Int) = R + N) : Tree R N l s n ((List.range n).map fun v : Nat => T l s (v : Int)) (gT (hopRow R l s (firstRow R l s n)) n n) (gT (parRow l s n) n n) := by
  refine ⟨by simp, gT_len _ _ _, gT_len _ _ _, fun v hvn => by simp [gI, hvn], fun v hvn => ?_, fun v hvn => ?_⟩
  · rw [gT_get hvn, if_pos hvn]; exact parRow_row hv hn v
  · rw [gT_get hvn, if_pos hvn]; exact hopRow_row (firstRow_row hv hs hn) v
theorem unreached (hs : s < R) {v : Nat} (h : (v : Int) = s ∨ T l s (v : Int) < 0) (first : List Int) : parRow l s n v = [] ∧ hopRow R l s first v = [] := by
  constructor
  · unfold parRow
    have : rowF n (fun u => decide (Par l s (v : Int) u)) = rowF n (fun _ => false) := rowF_congr fun x _ _ => decide_eq_false fun hp => by
      have := Par.reached hv hs hp; omega
    rw [this]; unfold rowF; simp
  · unfold hopRow
    rw [List.filter_eq_nil_iff]
    intro a _ h2
    obtain ⟨h3, h4, _⟩ := of_decide_eq_true h2
    omega
end
theorem filter_take_succ {l : List Int} {p : Int → Bool} {k : Nat} {y : Int} (h : l[k]? = some y) : (l.take (k + 1)).filter p = (l.take k).filter p ++ (if p y = true then [y] else []) := by
  rw [List.take_add_one, h, List.filter_append]
  by_cases hp : p y = true
  · simp [hp]
  · simp [hp]
/-- what region 8 leaves -/
structure T0F (W0 W : World) (tb H P n : Nat) (x : Int) (gr gp gc : Nat) : Prop where
  b : Below W0.heap.size W0 W
  t : W.heap[tb]? = some (.cells #[.int .i64 x, .slice (some ⟨gr, gp, none⟩) n gc, .slice (some ⟨H, 0, none⟩) n n, .slice (some ⟨P, 0, none⟩) n n] 74 (0, 0))
  h : W.ownsRow 0 35 1 (.slice (some ⟨H, 0, none⟩) n n) n (List.replicate n (.slice none 0 0))
  p : W.ownsRow 0 35 1 (.slice (some ⟨P, 0, none⟩) n n) n (List.replicate n (.slice none 0 0))
  ne : H ≠ P ∧ tb ≠ H ∧ tb ≠ P
  lo : W0.heap.size ≤ tb ∧ W0.heap.size ≤ H ∧ W0.heap.size ≤ P
theorem own_of_heap {W : World} {H n : Nat} (hn : n ≤ 65536) (h : W.heap[H]? = some (.cells (madeCells #[.slice none 0 0] n) 35 (0, 0))) : W.ownsRow 0 35 1 (.slice (some ⟨H, 0, none⟩) n n) n (List.replicate n (.slice none 0 0)) := by
  have hl := lt_block h
  have hsz : ({ W with heap := W.heap.extract 0 H } : World).heap.size = H := by simp; omega
  have := made_rowE ({ W with heap := W.heap.extract 0 H } : World) n 35 hn hsz.symm
  refine row_congr this fun g hg => ?_
  simp [Value.ownBlock] at hg
  subst hg
  rw [h, heap_new1 _ _ hsz.symm]
theorem T0F.mk' {W0 W : World} {tb H P n : Nat} {x : Int} {gr gp gc : Nat} (hn : n ≤ 65536) (b : Below W0.heap.size W0 W)
    (t : W.heap[tb]? = some (.cells #[.int .i64 x, .slice (some ⟨gr, gp, none⟩) n gc, .slice (some ⟨H, 0, none⟩) n n, .slice (some ⟨P, 0, none⟩) n n] 74 (0, 0)))
    (h : W.heap[H]? = some (.cells (madeCells #[.slice none 0 0] n) 35 (0, 0))) (p : W.heap[P]? = some (.cells (madeCells #[.slice none 0 0] n) 35 (0, 0))) (ne : H ≠ P ∧ tb ≠ H ∧ tb ≠ P) (lo : W0.heap.size ≤ tb ∧ W0.heap.size ≤ H ∧ W0.heap.size ≤ P) : T0F W0 W tb H P n x gr gp gc :=
  ⟨b, t, own_of_heap hn h, own_of_heap hn p, ne, lo⟩
theorem three {W0 : World} {o1 o2 o3 : Obj} : (((W0.alloc o1).alloc o2).alloc o3).drew.heap[W0.heap.size]? = some o1 ∧ (((W0.alloc o1).alloc o2).alloc o3).drew.heap[W0.heap.size + 1]? = some o2 ∧ (((W0.alloc o1).alloc o2).alloc o3).drew.heap[W0.heap.size + 1 + 1]? = some o3 ∧ Below W0.heap.size W0 (((W0.alloc o1).alloc o2).alloc o3).drew :=
  ⟨heap_up (heap_up (heap_new1 W0 _ rfl)), heap_up (heap_new1 _ _ (by simp)), heap_new1 _ _ (by simp), (below_then (below_then (below_alloc _ _) (below_alloc _ _)) (below_alloc _ _)).drew⟩
theorem own_low {w : World} {B B' n e k : Nat} {v : Value} {xs : List Value} (h : w.ownsRow B e k v n xs) (hb : B' ≤ B) : w.ownsRow B' e k v n xs :=
  ⟨h.1, h.2.imp id (fun ⟨g, cap, cur, a, b, c, d⟩ => ⟨g, cap, cur, a, Nat.le_trans hb b, c, d⟩)⟩
/-- a region by what it leaves -/
theorem reg_mono {P : Program} {c : Code} {Q : Exit → Act → World → Prop} {a : Act} {w : World} (RR : Act → Act → World → Prop) (h1 : c.wp P (fun e a' W => e = .normal ∧ RR a a' W) a w) (h2 : ∀ a' W, RR a a' W → Q .normal a' W) : c.wp P Q a w :=
  Code.wp_mono (fun e a' W h => by obtain ⟨rfl, h⟩ := h; exact h2 a' W h) h1
theorem RM.start {W : World} {H P n : Nat} (hh : W.ownsRow 0 35 1 (.slice (some ⟨H, 0, none⟩) n n) n (List.replicate n (.slice none 0 0))) (hp : W.ownsRow 0 35 1 (.slice (some ⟨P, 0, none⟩) n n) n (List.replicate n (.slice none 0 0))) (hne : H ≠ P) :
    RM W H P n (List.replicate n []) (List.replicate n []) W := by
  have hnil : ∀ g, g ∉ rblk (List.replicate n (Value.slice none 0 0)) := fun g hg => by
    obtain ⟨v, h1, h2⟩ := mem_rblk.1 hg
    rw [List.length_replicate] at h1
    unfold gVl at h2
    simp [h1, Value.ownBlock] at h2
  exact ⟨_, _, ⟨hh, hp, RS.nils _ n, RS.nils _ n, hne, fun g hg => absurd hg (hnil g), fun g hg => absurd hg (hnil g), fun g hg => absurd hg (hnil g)⟩, Kp.refl _ _, fun g hg => by rcases hg with hg | hg <;> exact absurd hg (hnil g)⟩
theorem DT.kp {W1 W : World} {l : List E} {n b o cap H P : Nat} (h : DT W1 l n b o cap) {W0 : World} (h0 : DT W0 l n b o cap) (hb : Below W0.heap.size W0 W1) (hk : Kp [H, P] W1 W) (hH : W0.heap.size ≤ H) (hP : W0.heap.size ≤ P) : DT W l n b o cap :=
  ⟨fun k hk' => by
    obtain ⟨g, p, c, c1, c2, c3, c4⟩ := h0.rows k hk'
    have hbl := h0.blk
    exact ⟨g, p, c, hk.carry (by simp; omega) (carry hb c1), Nat.lt_of_lt_of_le (Nat.lt_of_lt_of_le c2 hb.size) hk.size, c3, fun j hj => hk.carry (by simp; omega) (carry hb (c4 j hj))⟩, Nat.lt_of_lt_of_le h.blk hk.size⟩
end Go.Proofs.Ytmbogobebllheaa
namespace Go.Proofs.Ytmbogobebllheaa
open Go.RowKit HM GM SP
set_option linter.unusedSimpArgs false
set_option linter.unusedVariables false
set_option maxHeartbeats 4000000
set_option maxRecDepth 100000
noncomputable def allRow (l : List E) (r : Nat) (i : Nat) : List Int := (List.range r).map (fun k : Nat => T l (i : Int) (k : Int))
theorem tree_take {R N : Int} {l : List E} {i n r : Nat} {dist : List Int} {hops pars : List (List Int)} (h : Tree R N l (i : Int) n dist hops pars) (hr : r ≤ n) : dist.take r = (List.range r).map (fun k : Nat => T l (i : Int) (k : Int)) := by
  apply List.ext_getElem
  · simp [h.ld]; omega
  · intro k h1 h2
    simp [h.ld] at h1
    have := h.d k (by omega)
    unfold gI at this
    rw [List.getElem?_eq_getElem (by rw [h.ld]; omega)] at this
    simpa using this
theorem below_drewB {B : Nat} {a w : World} (h : Below B a w) : Below B a w.drew := ⟨h.os, h.tape, h.output, h.size, h.block⟩
theorem own_base' {w : World} {B B' n e k : Nat} {v : Value} {xs ys : List Int} (h : w.ownsRow B e k v n (xs.map (Value.int .i64))) (hB : B' ≤ B) (hx : xs = ys) : w.ownsRow B' e k v n (ints ys) := by
  subst hx; exact own_low h hB
section
variable {w0 wr w1 : World} {bx : Obj} {H n : Nat} {tab : List (List Int)}
theorem TB.row (h : TB w0 bx H n tab wr) {i m : Nat} (hi : i < n) (hb : Below wr.heap.size wr w1) {x : Value} {r : List Int} (ho : w1.ownsRow wr.heap.size 3 1 x m (ints r)) : TB w0 bx H n (tab.set i r) (w1.setCell ⟨H, i, none⟩ x) := by
  have hlen := h.len
  obtain ⟨vs, h1, h2, h3, h4, h5, h6⟩ := h
  have hv : vs.length = n := by have := h1.1; omega
  have hHlt : H < wr.heap.size := (row_lt h1 rfl).2
  have hm : m = r.length := by have := ho.1; rw [ints_len] at this; omega
  subst hm
  have h2' : RS w1 (vs.set i x) (tab.set i r) := h2.put (by omega) (Kp.of_below hb) (own_low ho (Nat.zero_le _)) (fun g' hg' => .inr (row_lt ho hg').1)
  have hst := (row_congr h1 (fun g hg => hb.block g (row_lt h1 hg).2)).stored i x
  have hnb : ∀ g ∈ rblk (vs.set i x), g ≠ H ∧ w0.heap.size < g := fun g hg => by
    rcases rblk_set (by omega) hg with hg | hg
    · have := (row_lt ho hg).1; have := lt_block h5; exact ⟨by omega, by omega⟩
    · exact h3 g hg
  exact ⟨_, hst.1, h2'.congr fun g hg => heap_set_ne (hnb g hg).1, hnb, (below_then h4 hb).setCell (Nat.le_of_lt h6) _, (heap_set_ne (by omega)).trans ((hb.block _ (lt_block h5)).trans h5), h6⟩
theorem TB.rdr (h : TB w0 bx H n tab wr) (hn : n ≤ 65536) : RdR wr (.slice (some ⟨H, 0, none⟩) n n) tab := by
  obtain ⟨vs, h1, h2, _⟩ := h
  exact rdr_own h1 h2 hn
end
/-- what All answers -/
def AllR (R N : Int) (l : List E) (rows : List (List Int)) (er : Int) : Prop :=
  (chk R N l ≠ 0 ∧ er = chk R N l ∧ rows = []) ∨ (chk R N l = 0 ∧ er = 0 ∧ ∃ r : Nat, R = (r : Int) ∧ rows = gT (allRow l r) r r)
theorem AllR.unique {R N : Int} {l : List E} {rows rows' : List (List Int)} {er er' : Int} (h : AllR R N l rows er) (k : AllR R N l rows' er') : rows = rows' ∧ er = er' := by
  rcases h with ⟨a1, a2, a3⟩ | ⟨a1, a2, r, a3, a4⟩ <;> rcases k with ⟨b1, b2, b3⟩ | ⟨b1, b2, q, b3, b4⟩
  · exact ⟨by rw [a3, b3], by rw [a2, b2]⟩
  · exact absurd b1 a1
  · exact absurd a1 b1
  · obtain rfl : r = q := by omega
    exact ⟨by rw [a4, b4], by rw [a2, b2]⟩
def AllQ (R N : Int) (l : List E) (w : World) (e : Ending) (w' : World) : Prop := ∃ rows er v, e = .returned (.tuple #[v, .int .i64 er]) ∧ RdR w' v rows ∧ AllR R N l rows er ∧ Below w.heap.size w w'
theorem rdR_nil (w : World) : RdR w (.slice none 0 0) [] := ⟨none, 0, rfl, Nat.le_refl _, by omega, fun k r h => by simp at h⟩
theorem all_err (R N : Int) (l : List E) (s : Value) (w : World) (hR : I64 R) (hN : I64 N) (hr : Rd3 w s l) (hc : chk R N l ≠ 0) :
    Calls Try.prog 67 #[.agg #[.int .i64 R, .int .i64 N, s]] w (AllQ R N l w) := by
  have HCK : Hid (∀ W, Below w.heap.size w W → Calls Try.prog 57 #[.agg #[.int .i64 R, .int .i64 N, s]] W fun e w' => e = .returned (.int .i64 (chk R N l)) ∧ Below W.heap.size W w') := fun W hW => check_any R N s l W hR hN (hr.below hW)
  have HRR : Hid (AllR R N l [] (chk R N l)) := .inl ⟨hc, rfl, rfl⟩
  obtain ⟨ad, cap, hform⟩ := rd3_slice hr
  obtain ⟨L, hL⟩ : ∃ L, l.length = L := ⟨_, rfl⟩
  rw [hL] at hform
  subst hform
  have hb : (chk R N l != 0) = true := by simpa using hc
  generalize chk R N l = c at *
  have HBA := Lib.hid (below_alloc w (.cells #[.int .i64 R, .int .i64 N, .slice ad L cap] 27))
  clear hr hL hc
  go_enter Try.func67, Try.ntmps67
  go_wp2_with fail
  go_at_call 57
  refine (HCK.out _ HBA.out).mono ?_
  rintro e w1 ⟨rfl, hb1⟩
  have HB1 := Lib.hid (below_then HBA.out hb1)
  clear hb1
  go_wp2
  go_ret2
  exact ⟨[], c, _, rfl, rdR_nil _, HRR.out, HB1.out⟩
theorem all_ok (r n : Nat) (N : Int) (l : List E) (s : Value) (w : World) (hR : I64 (r : Int)) (hN : I64 N) (hr : Rd3 w s l) (hc : chk (r : Int) N l = 0) (hn : (n : Int) = (r : Int) + N) :
    Calls Try.prog 67 #[.agg #[.int .i64 (r : Int), .int .i64 N, s]] w (AllQ (r : Int) N l w) := by
  have hv := chk_iff.1 hc
  have hN0 := hv.n; have hS := hv.s
  have HCK : Hid (∀ W, Below w.heap.size w W → Calls Try.prog 57 #[.agg #[.int .i64 (r : Int), .int .i64 N, s]] W fun e w' => e = .returned (.int .i64 0) ∧ Below W.heap.size W w') := fun W hW => by
    have := check_any (r : Int) N s l W hR hN (hr.below hW)
    rwa [hc] at this
  have HSE : Hid (∀ (i : Nat) W, Below w.heap.size w W → i < r → Calls Try.prog 109 #[.agg #[.int .i64 (r : Int), .int .i64 N, s], .int .i64 (i : Int)] W (SeQ (r : Int) N l i n W)) := fun i W hW hi => search_any (r : Int) N l s n i W hv (hr.below hW) hn (by omega)
  have HRR : Hid (AllR (r : Int) N l (gT (allRow l r) r r) 0) := .inr ⟨hc, rfl, r, rfl, rfl⟩
  have hrn : r ≤ n := by omega
  have hn8 : n ≤ 128 := by omega
  have hmk := make_rowsI r (by omega)
  obtain ⟨ad, cap, hform⟩ := rd3_slice hr
  obtain ⟨L, hL⟩ : ∃ L, l.length = L := ⟨_, rfl⟩
  rw [hL] at hform
  subst hform
  have HBA := Lib.hid (below_alloc w (.cells #[.int .i64 (r : Int), .int .i64 N, .slice ad L cap] 27))
  have HBX : Hid ((w.alloc (.cells #[.int .i64 (r : Int), .int .i64 N, .slice ad L cap] 27)).heap[w.heap.size]? = some (.cells #[.int .i64 (r : Int), .int .i64 N, .slice ad L cap] 27 (0, 0))) := heap_alloc_new _ _
  clear hr hL hc hv hn
  go_enter Try.func67, Try.ntmps67
  go_wp2_with fail
  go_at_call 57
  refine (HCK.out _ HBA.out).mono ?_
  rintro e w1 ⟨rfl, hb1⟩
  have HB1 := Lib.hid (below_then HBA.out hb1)
  have HO1 := Lib.hid ((hb1.block _ (lt_block HBX.out)).trans HBX.out)
  clear hb1 HBX HBA HCK
  have q0 : w1.cell? ⟨w.heap.size, 0, none⟩ = some (.int .i64 (r : Int)) := cell_of HO1.out rfl
  have r0 : (0 : Int) ≤ (r : Int) := by omega
  go_wp2_with fail
  have HT0 : Hid (∃ H, H = w1.heap.size ∧ TB w (.cells #[.int .i64 (r : Int), .int .i64 N, .slice ad L cap] 27) H r (gT (allRow l r) r 0) (w1.alloc (.cells (madeCells #[.slice none 0 0] r) 35))) := ⟨_, rfl, by
    rw [gT_zero]; exact TB.start HB1.out HO1.out (by omega) rfl⟩
  have hlw : w.heap.size < w1.heap.size := lt_block HO1.out
  clear q0 hmk HB1 HO1
  generalize (w1.alloc (.cells (madeCells #[.slice none 0 0] r) 35)) = V at *
  obtain ⟨_, rfl, hT0⟩ := HT0.out
  have HT1 := Lib.hid hT0
  clear HT0 hT0
  go_loopg [6, 17] r (fun g s6 s17 wr => ∃ i : Nat, i ≤ r ∧ r - i ≤ g ∧ s17 = .int .i64 (i : Int) ∧ (∃ q, q = s6) ∧ Hid (TB w (.cells #[.int .i64 (r : Int), .int .i64 N, .slice ad L cap] 27) w1.heap.size r (gT (allRow l r) r i) wr))
  case atStart => exact ⟨0, by omega, by omega, rfl, ⟨_, rfl⟩, HT1⟩
  case round =>
    clear HT1
    obtain ⟨i, hi, hig, rfl, ⟨u6, rfl⟩, HT⟩ := hrel
    by_cases hil : i < r
    · have i0 : (0 : Int) ≤ (i : Int) := by omega
      have i1 : (i : Int) < (r : Int) := by omega
      have hbx := HT.out.box
      have HG : Hid (∀ W, Below wr.heap.size wr W → W.cell? ⟨w.heap.size, 0, none⟩ = some (.int .i64 (r : Int)) ∧ W.cell? ⟨w.heap.size, 1, none⟩ = some (.int .i64 N) ∧ W.cell? ⟨w.heap.size, 2, none⟩ = some (.slice ad L cap)) := fun W hW => ⟨carry hW (cell_of hbx rfl), carry hW (cell_of hbx rfl), carry hW (cell_of hbx rfl)⟩
      clear hbx
      go_upto_region 8 with (fail)
      refine wp_region_held_drew (S := fun W => W.cell? ⟨w.heap.size, 0, none⟩ = some (.int .i64 (r : Int)) ∧ W.cell? ⟨w.heap.size, 1, none⟩ = some (.int .i64 N) ∧ W.cell? ⟨w.heap.size, 2, none⟩ = some (.slice ad L cap)) (by kernel_rfl) (HG.out _ (Below.refl _ wr).drew) (fun hS0 => ?_)
      refine wpAnyH_take (i := 0) (oi := ⟨some 20, _, _, _, _, _⟩) (v := .slice (some ⟨w1.heap.size, 0, none⟩) r r) rfl (by kernel_rfl) (by kernel_rfl) (by kernel_rfl) (fun _ _ _ h => h) (Or.inl ⟨by rfl, by intro w' hw'; obtain ⟨hw1, hw2, hw3⟩ := hw'; go_simp⟩) hS0 ?_
      simp only [Act.put, List.setIfInBounds_toArray, List.set_cons_zero, List.set_cons_succ]
      refine wpAnyH_take (i := 1) (oi := ⟨some 21, _, _, _, _, _⟩) (v := .int .i64 (i : Int)) rfl (by kernel_rfl) (by kernel_rfl) (by kernel_rfl) (fun _ _ _ h => h) (Or.inl ⟨by rfl, by intro w' hw'; obtain ⟨hw1, hw2, hw3⟩ := hw'; go_simp⟩) hS0 ?_
      simp only [Act.put, List.setIfInBounds_toArray, List.set_cons_zero, List.set_cons_succ]
      refine wpAnyH_take (i := 2) (oi := ⟨some 22, _, _, _, _, _⟩) (v := .agg #[.int .i64 (r : Int), .int .i64 N, .slice ad L cap]) rfl (by kernel_rfl) (by kernel_rfl) (by kernel_rfl) (fun _ _ _ h => h) (Or.inl ⟨by rfl, by intro w' hw'; obtain ⟨hw1, hw2, hw3⟩ := hw'; go_simp⟩) hS0 ?_
      simp only [Act.put, List.setIfInBounds_toArray, List.set_cons_zero, List.set_cons_succ]
      refine wpAnyH_take (i := 3) (oi := ⟨some 23, _, _, _, _, _⟩) (v := .int .i64 (i : Int)) rfl (by kernel_rfl) (by kernel_rfl) (by kernel_rfl) (fun _ _ _ h => h) (Or.inl ⟨by rfl, by intro w' hw'; obtain ⟨hw1, hw2, hw3⟩ := hw'; go_simp⟩) hS0 ?_
      simp only [Act.put, List.setIfInBounds_toArray, List.set_cons_zero, List.set_cons_succ]
      refine wpAnyH_take (i := 6) (oi := ⟨some 26, _, _, _, _, _⟩) (v := .pointer (some ⟨w.heap.size, 0, none⟩)) rfl (by kernel_rfl) (by kernel_rfl) (by kernel_rfl) (fun _ _ _ h => h) (Or.inl ⟨by rfl, by intro w' hw'; obtain ⟨hw1, hw2, hw3⟩ := hw'; go_simp⟩) hS0 ?_
      simp only [Act.put, List.setIfInBounds_toArray, List.set_cons_zero, List.set_cons_succ]
      refine wpAnyH_take (i := 7) (oi := ⟨some 27, _, _, _, _, _⟩) (v := .int .i64 (r : Int)) rfl (by kernel_rfl) (by kernel_rfl) (by kernel_rfl) (fun _ _ _ h => h) (Or.inl ⟨by rfl, by intro w' hw'; obtain ⟨hw1, hw2, hw3⟩ := hw'; go_simp⟩) hS0 ?_
      simp only [Act.put, List.setIfInBounds_toArray, List.set_cons_zero, List.set_cons_succ]
      refine wpAnyH_ready (rs := [4]) (by kernel_rfl) (by simp) ?_
      refine AllReadyH.cons rfl (fun K hK => ?_) AllReadyH.nil
      go_simp
      go_at_call 109
      refine (HSE.out i wr.drew (below_drewB HT.out.bel) hil).mono ?_
      rintro e w3 ⟨D, H, P, dist, hv', pv', hops, pars, rfl, hTR, hTree, hge, hb3⟩
      have HB3 : Hid (Below wr.heap.size wr w3) := ⟨hb3.os, hb3.tape, hb3.output, hb3.size, hb3.block⟩
      have hS1 := HG.out _ HB3.out
      have HTR := Lib.hid hTR
      have HTE := Lib.hid hTree
      clear hTR hTree hge hb3
      unfold treeV
      (try go_wp2_with fail)
      refine hK.out _ _ hS1 (fun _ => ?_)
      clear hK K
      (try simp only [Act.put, List.setIfInBounds_toArray, List.set_cons_zero, List.set_cons_succ])
      have hfd : ∀ w : World, (Instr.field 74 (.agg #[.int .i64 (i : Int), .slice (some ⟨D, 0, none⟩) n n, .slice (some ⟨H, 0, none⟩) n n, .slice (some ⟨P, 0, none⟩) n n]) 1).run Try.prog w = .ok (.slice (some ⟨D, 0, none⟩) n n) w := fun _ => by kernel_rfl
      refine wpAnyH_take (i := 5) (oi := ⟨some 25, _, _, _, _, _⟩) (v := .slice (some ⟨D, 0, none⟩) n n) rfl (by kernel_rfl) (by kernel_rfl) (by kernel_rfl) (fun _ _ _ h => h) (Or.inl ⟨by rfl, by intro w' hw'; obtain ⟨hw1, hw2, hw3⟩ := hw'; go_simp⟩) hS1 ?_
      simp only [Act.put, List.setIfInBounds_toArray, List.set_cons_zero, List.set_cons_succ]
      refine wpAnyH_take (i := 8) (oi := ⟨some 28, _, _, _, _, _⟩) (v := .slice (some ⟨D, 0, none⟩) r n) rfl (by kernel_rfl) (by kernel_rfl) (by kernel_rfl) (fun _ _ _ h => h) (Or.inl ⟨by rfl, by intro w' hw'; obtain ⟨hw1, hw2, hw3⟩ := hw'; go_simp⟩) hS1 ?_
      simp only [Act.put, List.setIfInBounds_toArray, List.set_cons_zero, List.set_cons_succ]
      refine wpAnyH_ready (rs := [9]) (by kernel_rfl) (by simp) ?_
      refine AllReadyH.cons rfl (fun K hK => ?_) AllReadyH.nil
      go_simp
      go_at_call 110
      refine (Try.slices_Clone_int D 0 r n dist w3 (by rw [HTE.out.ld]; omega) (by omega) (fun j hj => by rw [Nat.zero_add, HTR.out.cd (by rw [HTE.out.ld] at hj; exact hj)]; rfl)).mono ?_
      rintro e w4 ⟨v', rfl, hown, _, hb4⟩
      have HB4 := Lib.hid (below_then HB3.out hb4)
      have hS2 := HG.out _ HB4.out
      have hdl : ints (dist.take r) = (dist.take r).map (Value.int .i64) := rfl
      have hrow : dist.take r = (List.range r).map (fun k : Nat => T l (i : Int) (k : Int)) := tree_take HTE.out (by omega)
      have hTN := HT.out.row hil HB4.out (own_base' hown HB3.out.size hrow)
      have HTN := Lib.hid hTN
      obtain ⟨⟨cv, hcv⟩, hzv, hHlt⟩ := HT.out.slot hil
      have hcv4 := carry HB4.out hcv
      have hzv4 : w4.frozen? ⟨w1.heap.size, i, none⟩ = false := by rw [HB4.out.frozen hHlt]; exact hzv
      obtain ⟨va, vc, rfl, -⟩ := own_form hown
      clear hown hb4 hdl hrow hTN hcv hzv HT
      (try go_wp2_with fail)
      refine hK.out _ _ hS2 (fun _ => ?_)
      clear hK K
      (try simp only [Act.put, List.setIfInBounds_toArray, List.set_cons_zero, List.set_cons_succ])
      refine wpAnyH_take (i := 10) (oi := ⟨some 30, _, _, _, _, _⟩) (v := .pointer (some ⟨w1.heap.size, i, none⟩)) rfl (by kernel_rfl) (by kernel_rfl) (by kernel_rfl) (fun _ _ _ h => h) (Or.inl ⟨by rfl, by intro w' hw'; obtain ⟨hw1, hw2, hw3⟩ := hw'; go_simp⟩) hS2 ?_
      simp only [Act.put, List.setIfInBounds_toArray, List.set_cons_zero, List.set_cons_succ]
      refine wpAnyH_ready (rs := [11]) (by kernel_rfl) (by simp) ?_
      refine AllReadyH.cons rfl (fun K hK => ?_) AllReadyH.nil
      go_simp
      (try go_wp2_with fail)
      refine hK.out _ _ ⟨by rw [World.cell?_setCell_far _ _ _ _ (by dsimp only; omega)]; exact hS2.1, by rw [World.cell?_setCell_far _ _ _ _ (by dsimp only; omega)]; exact hS2.2.1, by rw [World.cell?_setCell_far _ _ _ _ (by dsimp only; omega)]; exact hS2.2.2⟩ (fun _ => ?_)
      clear hK K
      (try simp only [Act.put, List.setIfInBounds_toArray, List.set_cons_zero, List.set_cons_succ])
      refine wpAnyH_done (by kernel_rfl) ?_ _
      go_wp2_with fail
      go_roundg (r - (i + 1))
      case measure => omega
      case rel => exact ⟨i + 1, by omega, Nat.le_refl _, by go_num, ⟨_, rfl⟩, by rw [Hid, ← gT_set hil]; exact HTN.out⟩
    · have k1 : decide ((i : Int) < (r : Int)) = false := decide_eq_false (by omega)
      have HIR : Hid (i = r) := by show _ = _; omega
      have HTF : Hid (TB w (.cells #[.int .i64 (r : Int), .int .i64 N, .slice ad L cap] 27) w1.heap.size r (gT (allRow l r) r r) wr) := by have := HT.out; rw [HIR.out] at this; exact this
      clear HT HIR
      go_wp2
      go_ret2
      exact ⟨_, 0, _, rfl, HTF.out.rdr (by omega), HRR.out, HTF.out.bel⟩
theorem all_any (R N : Int) (l : List E) (s : Value) (w : World) (hR : I64 R) (hN : I64 N) (hr : Rd3 w s l) : Calls Try.prog 67 #[.agg #[.int .i64 R, .int .i64 N, s]] w (AllQ R N l w) := by
  by_cases hc : chk R N l = 0
  · have hv := chk_iff.1 hc
    have h1 := hv.r; have h2 := hv.n
    obtain ⟨r, rfl⟩ : ∃ r : Nat, R = r := ⟨R.toNat, by omega⟩
    exact all_ok r (r + N.toNat) N l s w hR hN hr hc (by omega)
  · exact all_err R N l s w hR hN hr hc
end Go.Proofs.Ytmbogobebllheaa
