/-
  A number put into an ascending row of integers: the library's BinarySearch and Insert, and the program's insert.
-/
import Derived.Test.YtmlpbhankgojpaaSpMem
import Derived.Test.YtmlpbhankgojpaaSpLay
import Derived.Test.YtmlpbhankgojpaaSpOut
namespace Go.Proofs.Ytmlpbhankgojpaa
open Go.RowKit HM SP
set_option linter.unusedSimpArgs false
set_option linter.unusedVariables false
set_option maxHeartbeats 4000000
set_option maxRecDepth 100000

/-- block g is a row of integers with just these cells -/
def RowC (W : World) (g : Nat) (xs : List Value) : Prop := W.heap[g]? = some (.cells xs.toArray 3 (0, 0))
theorem RowC.sets : ∀ (vs : List Value) {W : World} {g : Nat} {a b c : List Value}, b.length = vs.length → RowC W g (a ++ b ++ c) → RowC (W.setCells g a.length vs) g (a ++ vs ++ c)
  | [], W, g, a, b, c, hb, h => by
    have : b = [] := List.length_eq_zero_iff.1 hb
    subst this; exact h
  | v :: vs, W, g, a, [], c, hb, h => by simp at hb
  | v :: vs, W, g, a, b0 :: b, c, hb, h => by
    have h1 : RowC (W.setCell ⟨g, a.length, none⟩ v) g ((a ++ [v]) ++ b ++ c) := by
      unfold RowC at h ⊢
      rw [heap_set_eq h]
      congr 2
      simp
    have h2 := RowC.sets vs (a := a ++ [v]) (by simpa using hb) h1
    have e : (a ++ [v]).length = a.length + 1 := by simp
    rw [e] at h2
    have e2 : a ++ v :: vs ++ c = a ++ [v] ++ vs ++ c := by simp
    rw [e2]; exact h2
theorem RowC.cell {W : World} {g : Nat} {xs : List Value} (h : RowC W g xs) (j : Nat) : W.cell? ⟨g, j, none⟩ = xs[j]? := by
  unfold RowC at h; simp [World.cell?, h]
theorem RowC.free {W : World} {g : Nat} {xs : List Value} (h : RowC W g xs) (j : Nat) : W.frozen? ⟨g, j, none⟩ = false := free_of h j
theorem rowC_own {g cap : Nat} {W : World} {r : List Int} {xs : List Value} (h : RowC W g xs) (hx : xs.length = cap) (hn : r.length ≤ cap) (hm : cap ≤ maxLen) (ht : xs.take r.length = ints r) : W.ownsRow 0 3 1 (.slice (some ⟨g, 0, none⟩) r.length cap) r.length (ints r) :=
  ⟨by rw [ints_len]; omega, .inr ⟨g, cap, xs.toArray, rfl, Nat.zero_le _, h, hn, hm, by simpa using hx, by simpa using ht⟩⟩
theorem own_rowC {g cap n : Nat} {W : World} {r : List Int} (h : W.ownsRow 0 3 1 (.slice (some ⟨g, 0, none⟩) n cap) n (ints r)) : n = r.length ∧ ∃ sp, RowC W g (ints r ++ sp) ∧ (ints r ++ sp).length = cap ∧ r.length ≤ cap ∧ cap ≤ maxLen := by
  have hl : n = r.length := by have := h.1; rw [ints_len] at this; omega
  rcases h.2 with ⟨h', _⟩ | ⟨g', cap', cur, h', hb, hg, hnc, hcm, hcs, htake⟩
  · cases h'
  · injection h' with e1 e2 e3
    injection e1 with e1
    injection e1 with e1 _ _
    subst e1 e3
    subst hl
    have e : cur.toList = ints r ++ cur.toList.drop (r.length * 1) := by rw [← htake, List.take_append_drop]
    have e' : cur = (ints r ++ cur.toList.drop (r.length * 1)).toArray := by rw [← e]
    refine ⟨rfl, cur.toList.drop (r.length * 1), ?_, ?_, hnc, hcm⟩
    · unfold RowC
      rw [← e']; exact hg
    · rw [← e]; simpa using hcs
theorem ints_app (a b : List Int) : ints (a ++ b) = ints a ++ ints b := by unfold ints; simp
theorem ints_one (r : List Int) : ∀ v ∈ ints r, v.oneCell' = true := by
  intro v hv; unfold ints at hv; obtain ⟨x, _, rfl⟩ := List.mem_map.1 hv; rfl
theorem kp_setCells {S : List Nat} {a : World} {g : Nat} (hg : g ∈ S ∨ a.heap.size ≤ g) : ∀ (vs : List Value) (o : Nat) (W : World), Kp S a W → Kp S a (W.setCells g o vs)
  | [], _, _, h => h
  | v :: vs, o, W, h => kp_setCells hg vs (o + 1) _ (h.setCell hg)
/-- what an insertion leaves -/
def InsQ (w : World) (v : Value) (r' : List Int) (e : Ending) (w' : World) : Prop := ∃ v', e = .returned v' ∧ w'.ownsRow 0 3 1 v' r'.length (ints r') ∧ Kp (vblk v) w w' ∧ ∀ g, v'.ownBlock = some g → v.ownBlock = some g ∨ w.heap.size ≤ g
theorem ints_putI (r : List Int) (p : Nat) (x : Int) : ints (putI r p x) = ints (r.take p) ++ [.int .i64 x] ++ ints (r.drop p) := by unfold putI ints; simp
theorem zero_cells (k : Nat) : (Builtin.zeroCells (Value.int .i64 0).cells k).toList.length = k := by
  rw [Array.length_toList, size_zeroCells]; simp [Value.cells]
theorem libIns (W : World) (v : Value) (r : List Int) (p vb : Nat) (x : Int) (hp : p ≤ r.length) (h : W.ownsRow 0 3 1 v r.length (ints r)) (hv : W.heap[vb]? = some (.cells #[.int .i64 x] 3 (0, 0))) (hne : v.ownBlock ≠ some vb) (hl : r.length ≤ 100000) :
    Calls Try.prog 57 #[v, .int .i64 (p : Int), .slice (some ⟨vb, 0, none⟩) 1 1] W (InsQ W v (putI r p x)) := by
  have hvs : ∀ j u, [Value.int .i64 x][j]? = some u → W.cell? ⟨vb, 0 + j, none⟩ = some u := fun j u hj => by
    rw [Nat.zero_add]; exact cell_of hv (by simpa using hj)
  have h1v : ∀ u ∈ [Value.int .i64 x], u.oneCell' = true := fun u hu => by simp at hu; subst hu; rfl
  have hpl : (putI r p x).length = r.length + 1 := putI_len hp
  have ht1 : (ints (r.take p)).length = p := by rw [ints_len, List.length_take]; omega
  have hd1 : (ints (r.drop p)).length = r.length - p := by rw [ints_len, List.length_drop]
  have hsp : ints r = ints (r.take p) ++ ints (r.drop p) := by rw [← ints_app, List.take_append_drop]
  rcases h.2 with ⟨rfl, hn⟩ | ⟨g, cap, cur, rfl, _, _, hnc, hcm, _, _⟩
  · have hr : r = [] := List.length_eq_zero_iff.1 hn
    subst hr
    have hp0 : p = 0 := by simpa using hp
    subst hp0
    refine (Any2.slices_Insert_int_end_grow Try.laysNm221 none 0 0 vb 0 1 1 [] [.int .i64 x] W (by omega) (by omega) (by omega) (by omega) rfl rfl (fun _ => rfl) (fun a ha => by cases ha) hvs h1v).mono ?_
    rintro e w' ⟨rfl, rfl⟩
    have hge := grownCap_ge W (0 + 1) 0 3
    have hle := grownCap_le_maxLen W (0 + 1) 0 3 (by unfold maxLen; omega)
    refine ⟨_, rfl, ?_, ((Kp.refl _ W).drew).alloc _, fun g hg => .inr (by simp [Value.ownBlock] at hg; omega)⟩
    rw [hpl]
    refine rowC_own (r := putI [] 0 x) (xs := ([.int .i64 x] ++ (Builtin.zeroCells (Value.int .i64 0).cells (grownCap W (0 + 1) 0 3 - (0 + 1))).toList)) ?_ ?_ ?_ hle ?_
    · unfold RowC
      have : (W.drew.alloc (.cells (([] ++ [Value.int .i64 x]).toArray ++ Builtin.zeroCells (Value.int .i64 0).cells (grownCap W (0 + 1) 0 3 - (0 + 1))) 3)).heap[W.heap.size]? = _ := heap_alloc_new W.drew _
      rw [show (Try.laysNm221_ren).t 3 = 3 from rfl, this]
      congr 2
      apply Array.toList_inj.1; simp
    · rw [List.length_append, zero_cells, List.length_singleton, show (Try.laysNm221_ren).t 3 = 3 from rfl]; omega
    · show 1 ≤ _
      rw [show (Try.laysNm221_ren).t 3 = 3 from rfl]; omega
    · simp [putI, ints]
  · obtain ⟨_, sp, hrow, hlen, _, _⟩ := own_rowC h
    have hlen' : r.length + sp.length = cap := by rw [List.length_append, ints_len] at hlen; exact hlen
    have hvg : vb ≠ g := fun e => hne (by rw [e]; rfl)
    by_cases hpn : p < r.length
    · have hcs : ∀ j u, (ints r)[j]? = some u → W.cell? ⟨g, 0 + j, none⟩ = some u := fun j u hj => by
        rw [Nat.zero_add, hrow.cell, List.getElem?_append_left (List.getElem?_eq_some_iff.1 hj).1]; exact hj
      by_cases hroom : r.length + 1 ≤ cap
      · refine (Any2.slices_Insert_int_shift Try.laysNm221 g 0 r.length cap p vb 0 1 1 (ints r) [.int .i64 x] W hpn (by omega) hroom (by unfold maxLen at hcm; omega) hvg (ints_len r) rfl hcs (fun j hj => ?_) (fun j hj => hrow.free _) hvs (ints_one r) h1v 3 3 1 (ints r ++ sp).length (by simp [World.shape?, hv]) (by unfold RowC at hrow; simp [World.shape?, hrow]) (by rw [hlen]; omega) (free_of hv _) (free_of hv _)).mono ?_
        · rw [hrow.cell, List.getElem?_eq_getElem (by rw [hlen]; omega)]; rfl
        rintro e w' ⟨rfl, rfl⟩
        obtain ⟨s0, s', rfl⟩ : ∃ s0 s', sp = s0 :: s' := by
          cases sp with
          | nil => simp at hlen'; omega
          | cons a b => exact ⟨a, b, rfl⟩
        have hdl : (ints (r.drop p) ++ [s0]).length = r.length - p + 1 := by rw [List.length_append, hd1]; rfl
        obtain ⟨t0, tm, htm⟩ : ∃ t0 tm, ints (r.drop p) ++ [s0] = t0 :: tm := by
          cases hq : ints (r.drop p) ++ [s0] with
          | nil => rw [hq] at hdl; simp at hdl
          | cons a b => exact ⟨a, b, rfl⟩
        have htl : tm.length = r.length - p := by rw [htm] at hdl; simpa using hdl
        have e0 : ints r ++ s0 :: s' = (ints (r.take p) ++ [t0]) ++ tm ++ s' := by
          rw [hsp]
          have : ints (r.take p) ++ ints (r.drop p) ++ s0 :: s' = ints (r.take p) ++ (ints (r.drop p) ++ [s0]) ++ s' := by simp
          rw [this, htm]; simp
        have hdrop : (ints r).drop p = ints (r.drop p) := by unfold ints; rw [List.map_drop]
        have hr1 : RowC (W.drew.setCells g (p + 1) (ints (r.drop p))) g ((ints (r.take p) ++ [t0]) ++ ints (r.drop p) ++ s') := by
          have := RowC.sets (ints (r.drop p)) (W := W.drew) (g := g) (a := ints (r.take p) ++ [t0]) (b := tm) (c := s') (by rw [htl, hd1]) (by rw [← e0]; exact hrow)
          rwa [List.length_append, ht1, List.length_singleton] at this
        have hr2 : RowC ((W.drew.setCells g (p + 1) (ints (r.drop p))).setCells g p [.int .i64 x]) g (ints (putI r p x) ++ s') := by
          have := RowC.sets [.int .i64 x] (g := g) (a := ints (r.take p)) (b := [t0]) (c := ints (r.drop p) ++ s') rfl (by simpa using hr1)
          rw [ht1] at this
          rw [ints_putI]
          simpa using this
        refine ⟨_, rfl, ?_, ?_, fun g' hg' => .inl hg'⟩
        · rw [hpl, hdrop, Nat.zero_add, Nat.zero_add]
          have := rowC_own (cap := cap) hr2 (by rw [List.length_append, ints_len, hpl]; simp at hlen'; omega) (by rw [hpl]; omega) hcm (by rw [← ints_len]; exact List.take_left' rfl)
          rw [hpl] at this; exact this
        · exact kp_setCells (.inl (by simp [mem_vblk, Value.ownBlock])) _ _ _ (kp_setCells (.inl (by simp [mem_vblk, Value.ownBlock])) _ _ _ (Kp.refl _ W).drew)
      · refine (Any2.slices_Insert_int_grow Try.laysNm221 g 0 r.length cap p vb 0 1 1 (ints r) [.int .i64 x] W hpn (by omega) hnc (by omega) (by omega) (ints_len r) rfl hcs hvs (ints_one r) h1v).mono ?_
        rintro e w' ⟨rfl, rfl⟩
        have hge := grownCap_ge W (r.length + 1) cap 3
        have hle := grownCap_le_maxLen W (r.length + 1) cap 3 (by unfold maxLen; omega)
        have htake : (ints r).take p = ints (r.take p) := by unfold ints; rw [List.map_take]
        have hdrop : (ints r).drop p = ints (r.drop p) := by unfold ints; rw [List.map_drop]
        rw [show (Try.laysNm221_ren).t 3 = 3 from rfl, htake, hdrop]
        generalize hC : grownCap W (r.length + 1) cap 3 = C at *
        have hZ : ∀ k, (Builtin.zeroCells (Value.int .i64 0).cells k).toList.length = k := zero_cells
        obtain ⟨z0, z1, hz, hz1⟩ : ∃ z0 z1, (Builtin.zeroCells (Value.int .i64 0).cells (r.length + 1 - p)).toList = z0 :: z1 ∧ z1.length = r.length - p := by
          have := hZ (r.length + 1 - p)
          cases hq : (Builtin.zeroCells (Value.int .i64 0).cells (r.length + 1 - p)).toList with
          | nil => rw [hq] at this; simp at this; omega
          | cons a b => rw [hq] at this; exact ⟨a, b, rfl, by simp at this; omega⟩
        generalize hs' : (Builtin.zeroCells (Value.int .i64 0).cells (C - (r.length + 1))).toList = s'
        have hs'l : s'.length = C - (r.length + 1) := by rw [← hs']; exact hZ _
        have hW1 : RowC (W.alloc (.cells ((ints (r.take p)).toArray ++ Builtin.zeroCells (Value.int .i64 0).cells (r.length + 1 - p) ++ Builtin.zeroCells (Value.int .i64 0).cells (C - (r.length + 1))) 3)) W.heap.size (ints (r.take p) ++ [z0] ++ (z1 ++ s')) := by
          unfold RowC
          rw [heap_alloc_new]
          congr 2
          apply Array.toList_inj.1
          simp only [Array.toList_append, hz, hs']
          simp
        have hr1 := RowC.sets [.int .i64 x] (a := ints (r.take p)) (b := [z0]) (c := z1 ++ s') rfl hW1
        have hr2 := RowC.sets (ints (r.drop p)) (W := (((W.alloc (.cells ((ints (r.take p)).toArray ++ Builtin.zeroCells (Value.int .i64 0).cells (r.length + 1 - p) ++ Builtin.zeroCells (Value.int .i64 0).cells (C - (r.length + 1))) 3)).setCells W.heap.size (ints (r.take p)).length [.int .i64 x]))) (g := W.heap.size) (a := ints (r.take p) ++ [.int .i64 x]) (b := z1) (c := s') (by rw [hz1, hd1]) (by simpa using hr1)
        rw [List.length_append, ht1, List.length_singleton] at hr2
        have hr3 : RowC ((((W.alloc (.cells ((ints (r.take p)).toArray ++ Builtin.zeroCells (Value.int .i64 0).cells (r.length + 1 - p) ++ Builtin.zeroCells (Value.int .i64 0).cells (C - (r.length + 1))) 3)).drew.setCells W.heap.size p [.int .i64 x]).drew).setCells W.heap.size (p + 1) (ints (r.drop p))) W.heap.size (ints (putI r p x) ++ s') := by
          rw [ints_putI, ← drew_setCells, ← drew_setCells, ← drew_setCells]
          exact hr2
        refine ⟨_, rfl, ?_, ?_, fun g' hg' => .inr (by simp [Value.ownBlock] at hg'; omega)⟩
        · rw [hpl]
          have := rowC_own (cap := C) hr3 (by rw [List.length_append, ints_len, hpl, hs'l]; omega) (by rw [hpl]; omega) hle (by rw [← ints_len]; exact List.take_left' rfl)
          rw [hpl] at this; exact this
        · exact kp_setCells (.inr (Nat.le_refl _)) _ _ _ ((kp_setCells (.inr (Nat.le_refl _)) _ _ _ ((Kp.refl _ W).alloc _).drew).drew)
    · have hpe : p = r.length := by omega
      subst hpe
      have hput : ints (putI r r.length x) = ints r ++ [.int .i64 x] := by rw [ints_putI]; simp [ints]
      by_cases hroom : r.length + 1 ≤ cap
      · obtain ⟨s0, s', rfl⟩ : ∃ s0 s', sp = s0 :: s' := by
          cases sp with
          | nil => simp at hlen'; omega
          | cons a b => exact ⟨a, b, rfl⟩
        refine (Any2.slices_Insert_int_end_room Try.laysNm221 g 0 r.length cap vb 0 1 1 [.int .i64 x] W (by omega) hroom (by unfold maxLen at hcm; omega) rfl (fun j hj => ?_) (fun j hj => hrow.free _) hvs h1v).mono ?_
        · rw [hrow.cell, List.getElem?_eq_getElem (by rw [hlen]; omega)]; rfl
        rintro e w' ⟨rfl, rfl⟩
        have hr2 := RowC.sets [.int .i64 x] (a := ints r) (b := [s0]) (c := s') rfl (by simpa using hrow)
        rw [ints_len, ← hput] at hr2
        refine ⟨_, rfl, ?_, kp_setCells (.inl (by simp [mem_vblk, Value.ownBlock])) _ _ _ (Kp.refl _ W), fun g' hg' => .inl hg'⟩
        rw [hpl, Nat.zero_add]
        have := rowC_own (cap := cap) hr2 (by rw [List.length_append, ints_len, hpl]; simp at hlen'; omega) (by rw [hpl]; omega) hcm (by rw [← ints_len]; exact List.take_left' rfl)
        rw [hpl] at this; exact this
      · refine (Any2.slices_Insert_int_end_grow Try.laysNm221 (some ⟨g, 0, none⟩) r.length cap vb 0 1 1 (ints r) [.int .i64 x] W (by omega) hnc (by omega) (by omega) (ints_len r) rfl (fun e => by cases e) (fun a ha j u hj => ?_) hvs h1v).mono ?_
        · cases ha
          rw [Addr.add_lit, Nat.zero_add, hrow.cell, List.getElem?_append_left (List.getElem?_eq_some_iff.1 hj).1]; exact hj
        rintro e w' ⟨rfl, rfl⟩
        have hge := grownCap_ge W (r.length + 1) cap 3
        have hle := grownCap_le_maxLen W (r.length + 1) cap 3 (by unfold maxLen; omega)
        rw [show (Try.laysNm221_ren).t 3 = 3 from rfl]
        generalize hC : grownCap W (r.length + 1) cap 3 = C at *
        refine ⟨_, rfl, ?_, ((Kp.refl _ W).drew).alloc _, fun g' hg' => .inr (by simp [Value.ownBlock] at hg'; omega)⟩
        rw [hpl]
        have hW1 : RowC (W.drew.alloc (.cells ((ints r ++ [Value.int .i64 x]).toArray ++ Builtin.zeroCells (Value.int .i64 0).cells (C - (r.length + 1))) 3)) W.heap.size (ints (putI r r.length x) ++ (Builtin.zeroCells (Value.int .i64 0).cells (C - (r.length + 1))).toList) := by
          unfold RowC
          have : (W.drew.alloc (.cells ((ints r ++ [Value.int .i64 x]).toArray ++ Builtin.zeroCells (Value.int .i64 0).cells (C - (r.length + 1))) 3)).heap[W.heap.size]? = _ := heap_alloc_new W.drew _
          rw [this]
          congr 2
          apply Array.toList_inj.1; rw [hput]; simp
        have := rowC_own (cap := C) hW1 (by rw [List.length_append, ints_len, hpl, zero_cells]; omega) (by rw [hpl]; omega) hle (by rw [← ints_len]; exact List.take_left' rfl)
        rw [hpl] at this; exact this
theorem bs_any (w : World) (v : Value) (r : List Int) (x : Int) (h : w.ownsRow 0 3 1 v r.length (ints r)) (ha : r.Pairwise (· < ·)) (hl : r.length ≤ 100000) :
    Calls Try.prog 56 #[v, .int .i64 x] w fun e w' => e = .returned (.tuple #[.int .i64 (r.countP (· < x) : Nat), .bool (r.contains x)]) ∧ ∃ q, w' = w.drewN q := by
  rcases h.2 with ⟨rfl, hn⟩ | ⟨g, cap, cur, rfl, _, _, hnc, hcm, _, _⟩
  · have hr : r = [] := List.length_eq_zero_iff.1 hn
    subst hr
    refine (Try.slices_BinarySearch_int_empty none 0 x w).mono ?_
    intro e w' he
    obtain ⟨e1, e2⟩ := he
    exact ⟨by rw [e1]; rfl, 0, by rw [e2]; rfl⟩
  · have := Try.slices_BinarySearch_int g 0 r.length cap r x w (Nat.le_refl _) (by omega) (fun j hj => by
      rw [Nat.zero_add, h.cellAt j (by omega)]
      rw [ints_get (List.getElem?_eq_getElem hj)]
      simp [List.getD, hj]) (by rw [List.take_length]; exact ha.imp fun h => Int.le_of_lt h)
    rw [List.take_length] at this
    exact this
/-- behind an insertion -/
def InsR (w : World) (v : Value) (r : List Int) (x : Int) (e : Ending) (w' : World) : Prop := ∃ r', RowI (fun y => y ∈ r ∨ y = x) r' ∧ InsQ w v r' e w'
theorem insert_in (w : World) (v : Value) (r : List Int) (x : Int) (h : w.ownsRow 0 3 1 v r.length (ints r)) (ha : r.Pairwise (· < ·)) (hl : r.length ≤ 100000) (hx : x ∈ r) :
    Calls Try.prog 45 #[v, .int .i64 x] w (InsR w v r x) := by
  have HB : Hid (Calls Try.prog 56 #[v, .int .i64 x] w fun e w' => e = .returned (.tuple #[.int .i64 (r.countP (· < x) : Nat), .bool true]) ∧ ∃ q, w' = w.drewN q) := by
    have := bs_any w v r x h ha hl
    rwa [show r.contains x = true by simpa using hx] at this
  have HR : Hid (∀ q, InsR w v r x (.returned v) (w.drewN q)) := fun q => ⟨r, ⟨ha, fun y => ⟨.inl, fun e => e.elim id (fun e => e ▸ hx)⟩⟩, v, rfl, row_congr h (fun _ _ => rfl), (Kp.refl _ w).drewN q, fun g hg => .inl hg⟩
  generalize r.countP (· < x) = p at HB
  clear h ha hl hx
  go_enter Try.func45, Try.ntmps45
  go_wp2_with (go_at_call 56; refine HB.out.mono ?_; rintro e w1 ⟨rfl, q, rfl⟩)
  go_ret
  exact HR.out _
theorem insert_new (w : World) (v : Value) (r : List Int) (x : Int) (h : w.ownsRow 0 3 1 v r.length (ints r)) (ha : r.Pairwise (· < ·)) (hl : r.length ≤ 100000) (hx : x ∉ r) :
    Calls Try.prog 45 #[v, .int .i64 x] w (InsR w v r x) := by
  obtain ⟨c1, c2, c3⟩ := cnt_place ha hx
  have HB : Hid (Calls Try.prog 56 #[v, .int .i64 x] w fun e w' => e = .returned (.tuple #[.int .i64 (r.countP (· < x) : Nat), .bool false]) ∧ ∃ q, w' = w.drewN q) := by
    have := bs_any w v r x h ha hl
    rwa [show r.contains x = false by simpa using hx] at this
  have HI : Hid (∀ q, Calls Try.prog 57 #[v, .int .i64 (r.countP (· < x) : Nat), .slice (some ⟨w.heap.size, 0, none⟩) 1 1] ((w.drewN q).alloc (.cells #[.int .i64 x] 3)) fun e w' => InsR w v r x e w') := fun q => by
    have hne : v.ownBlock ≠ some w.heap.size := fun e => by have := (row_lt h e).2; omega
    refine (libIns ((w.drewN q).alloc (.cells #[.int .i64 x] 3)) v r (r.countP (· < x)) w.heap.size x c1 ((row_congr h (fun _ _ => rfl) : (w.drewN q).ownsRow 0 3 1 v r.length (ints r)).alloc _) (heap_alloc_new (w.drewN q) _) hne hl).mono ?_
    rintro e w' ⟨v', h1, h2, h3, h4⟩
    refine ⟨putI r (r.countP (· < x)) x, (RowI.put ⟨ha, fun y => Iff.rfl⟩ c1 c2 c3), v', h1, h2, ?_, fun g hg => ?_⟩
    · exact ((((Kp.refl (vblk v) w).drewN q).alloc _).trans h3 fun g hg => .inl hg)
    · rcases h4 g hg with h5 | h5
      · exact .inl h5
      · exact .inr (by simp at h5; omega)
  generalize r.countP (· < x) = p at HB HI
  clear h ha hl hx c1 c2 c3
  have p0 : (0 : Int) ≤ (p : Int) := by omega
  go_enter Try.func45, Try.ntmps45
  go_wp2_with (first
    | (go_at_call 56; refine HB.out.mono ?_; rintro e w1 ⟨rfl, q, rfl⟩)
    | (go_at_call 57; refine (HI.out _).mono ?_; rintro e w1 ⟨r', hr, v', rfl, h2, h3, h4⟩; have HQ := Lib.hid (And.intro hr (And.intro h2 (And.intro h3 h4))); clear hr h2 h3 h4))
  go_ret
  obtain ⟨a1, a2, a3, a4⟩ := HQ.out
  exact ⟨r', a1, v', rfl, a2, a3, a4⟩
theorem insert_any (w : World) (v : Value) (r : List Int) (x : Int) (h : w.ownsRow 0 3 1 v r.length (ints r)) (ha : r.Pairwise (· < ·)) (hl : r.length ≤ 100000) :
    Calls Try.prog 45 #[v, .int .i64 x] w (InsR w v r x) := by
  by_cases hx : x ∈ r
  · exact insert_in w v r x h ha hl hx
  · exact insert_new w v r x h ha hl hx
end Go.Proofs.Ytmlpbhankgojpaa
