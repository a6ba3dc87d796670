/-
  The walk of the law Sets.
-/
import Derived.Test.YtaniiennfogjaaaDoorLwC
namespace Go.Proofs.YtaniiennfogjaaaDoor
open Go.RowKit T
set_option linter.unusedSimpArgs false
set_option linter.unusedVariables false
set_option maxHeartbeats 2000000
set_option maxRecDepth 100000

theorem isset_len {l s : List Nat} (h : IsSet l s) : s.length ≤ l.length := asc_len h.1 (fun x hx => (h.2 x).1 hx)
theorem add_mem {a t : List Nat} {c : Nat} (h : AddP a c t) (hl : a.length < 255) : Asc t ∧ (∀ x, x ∈ t ↔ x ∈ a ∨ x = c) ∧ t.length ≤ a.length + 1 := by
  obtain ⟨s, h1, h2⟩ := h
  have := isset_len h1
  rw [if_neg (by omega)] at h2
  refine ⟨h2.1, fun x => ?_, ?_⟩
  · rw [h2.2]; simp
  · have := isset_len h2
    simpa using this
theorem drop_mem {a t : List Nat} {c : Nat} (h : DropP a c t) : Asc t ∧ (∀ x, x ∈ t ↔ x ∈ a ∧ x ≠ c) ∧ t.length ≤ a.length := by
  obtain ⟨s, h1, rfl⟩ := h
  refine ⟨h1.1.filter _, fun x => ?_, Nat.le_trans (List.length_filter_le _ _) (isset_len h1)⟩
  rw [List.mem_filter, h1.2]; simp
theorem join_mem {a b t : List Nat} (h : JoinP a b t) (hl : a.length + b.length < 255) : Asc t ∧ (∀ x, x ∈ t ↔ x ∈ a ∨ x ∈ b) ∧ t.length ≤ a.length + b.length := by
  obtain ⟨s, h1, rfl⟩ := h
  have h3 := isset_len h1
  rw [List.length_append] at h3
  rw [List.take_of_length_le (by omega)]
  exact ⟨h1.1, fun x => by rw [h1.2]; simp, h3⟩
theorem chk_ok {t : List Nat} (h : Asc t) (hl : t.length ≤ 255) : chkE t = 0 := by
  unfold chkE
  rw [if_neg (by omega), if_pos (by unfold ascB; exact decide_eq_true h)]
theorem join_comm {a b t t' : List Nat} (h : JoinP a b t) (h' : JoinP b a t') : t = t' := by
  obtain ⟨s, h1, rfl⟩ := h
  obtain ⟨s', g1, rfl⟩ := h'
  rw [h1.unique g1 (fun x => by simp only [List.mem_append]; exact Or.comm)]
theorem drop_add {a ta td t : List Nat} {c : Nat} (hl : a.length < 255) (h1 : AddP a c ta) (h2 : DropP a c td) (h3 : DropP ta c t) : t = td := by
  obtain ⟨_, m1, _⟩ := add_mem h1 hl
  obtain ⟨a2, m2, _⟩ := drop_mem h2
  obtain ⟨a3, m3, _⟩ := drop_mem h3
  refine a3.unique a2 (fun x => ?_)
  rw [m3, m2, m1]
  constructor
  · rintro ⟨h | h, hn⟩
    · exact ⟨h, hn⟩
    · exact absurd h hn
  · rintro ⟨h, hn⟩; exact ⟨.inl h, hn⟩
theorem sets_large (a b : List Nat) (u v : Value) (c d : Nat) (w : World) (hT : Lt w) (hu : Rd w u a) (hv : Rd w v b) (h : 255 ≤ a.length + b.length) (ha : a.length ≤ 1000000000000000) (hbb : b.length ≤ 1000000000000000) :
    Calls Tryd.prog 8 #[u, v, .agg #[.int .u32 (c : Int), .int .u32 (d : Int)]] w fun e w' => e = .returned (.bool true) ∧ Below w.heap.size w w' := by
  obtain ⟨ad, cap, rfl⟩ := hu.form
  obtain ⟨ad2, cap2, rfl⟩ := hv.form
  have hx : (w.alloc (.cells #[.int .u32 (c : Int), .int .u32 (d : Int)] 43)).heap[w.heap.size]? = some (.cells #[.int .u32 (c : Int), .int .u32 (d : Int)] 43 (0, 0)) := heap_alloc_new _ _
  have x0 : (w.alloc (.cells #[.int .u32 (c : Int), .int .u32 (d : Int)] 43)).cell? ⟨w.heap.size, 0, none⟩ = some (.int .u32 (c : Int)) := cell_of hx rfl
  have x1 : (w.alloc (.cells #[.int .u32 (c : Int), .int .u32 (d : Int)] 43)).cell? ⟨w.heap.size, 1, none⟩ = some (.int .u32 (d : Int)) := cell_of hx rfl
  have HB : Hid (Below w.heap.size w (w.alloc (.cells #[.int .u32 (c : Int), .int .u32 (d : Int)] 43))) := below_alloc _ _
  have HA : Hid (∀ n, Calls Tryd.prog 11 #[] ((w.alloc (.cells #[.int .u32 (c : Int), .int .u32 (d : Int)] 43)).drewN n) fun e w' => e = .returned (.bool true) ∧ Below w.heap.size w w') := fun n =>
    (awake_any _ (hT.below (below_drewN HB.out n))).mono fun _ _ h => ⟨h.1, (below_drewN HB.out n).trans (h.2.mono (below_drewN HB.out n).size)⟩
  have g1 : (255 : Int) ≤ (a.length : Int) + (b.length : Int) := by omega
  clear hT hu hv hx
  generalize a.length = L at *
  generalize b.length = M at *
  go_enter Tryd.func8, Tryd.ntmps8
  go_wp2_with fail
  generalize w.alloc (.cells #[.int .u32 (c : Int), .int .u32 (d : Int)] 43) = X at *
  go_quiet (fail)
  go_wp2_with fail
  go_at_call 11
  refine (HA.out _).mono ?_
  rintro e w1 ⟨rfl, hb⟩
  go_wp2
  go_ret
  exact ⟨rfl, hb⟩
theorem has_lit {t : List Nat} {x : Value} {y : Nat} {q : Bool} (w : World) (hr : Rd w x t) (hq : decide (y ∈ t) = q) : Calls Tryd.prog 16 #[x, .int .u32 (y : Int)] w fun e w' => e = .returned (.bool q) ∧ w = w' :=
  (has_any t x y w hr).mono fun _ _ h => ⟨by rw [h.1, hq], h.2.symm⟩
theorem check_lit {t : List Nat} {x : Value} (w : World) (hr : Rd w x t) (hq : chkE t = 0) : Calls Tryd.prog 9 #[x] w fun e w' => e = .returned (.int .i64 0) ∧ Below w.heap.size w w' :=
  (check_any t x w hr).mono fun _ _ h => ⟨by rw [h.1, hq], h.2⟩
theorem sets_0 (a b : List Nat) (u v : Value) (c d : Nat) (w : World) (hT : Lt w) (hu : Rd w u a) (hun : NilV u) (hv : Rd w v b) (hvn : NilV v) (hc : c < 4294967296) (hlen : a.length + b.length < 255) (hqa : d ∈ a) (hcd : d = c) :
    Calls Tryd.prog 8 #[u, v, .agg #[.int .u32 (c : Int), .int .u32 (d : Int)]] w fun e w' => e = .returned (.bool true) ∧ Below w.heap.size w w' := by
  have HT := Lib.hid hT
  have HQA := Lib.hid hqa
  have HCD := Lib.hid hcd
  have HU : Hid (∀ W, Below w.heap.size w W → Rd W u a) := fun W hW => hu.below hW
  have HV : Hid (∀ W, Below w.heap.size w W → Rd W v b) := fun W hW => hv.below hW
  have H19 : Hid (∀ W, Below w.heap.size w W → Calls Tryd.prog 19 #[u, .int .u32 (c : Int)] W fun e w' => ∃ v', e = .returned v' ∧ RS W (AddP a c) v' w') := fun W hW => add_any a u c W (hu.below hW) hun hc (by omega)
  have H21 : Hid (∀ W, Below w.heap.size w W → Calls Tryd.prog 21 #[u, .int .u32 (c : Int)] W fun e w' => ∃ v', e = .returned v' ∧ RS W (DropP a c) v' w') := fun W hW => drop_any a u c W (hu.below hW) hun (by omega)
  have H23 : Hid (∀ W, Below w.heap.size w W → Calls Tryd.prog 23 #[u, v] W fun e w' => ∃ v', e = .returned v' ∧ RS W (JoinP a b) v' w') := fun W hW => join_any a b u v W (hu.below hW) hun (hv.below hW) hvn (by omega)
  have H32 : Hid (∀ W, Below w.heap.size w W → Calls Tryd.prog 23 #[v, u] W fun e w' => ∃ v', e = .returned v' ∧ RS W (JoinP b a) v' w') := fun W hW => join_any b a v u W (hv.below hW) hvn (hu.below hW) hun (by omega)
  obtain ⟨ad, cap, rfl⟩ := hu.form
  obtain ⟨ad2, cap2, rfl⟩ := hv.form
  have hx : (w.alloc (.cells #[.int .u32 (c : Int), .int .u32 (d : Int)] 43)).heap[w.heap.size]? = some (.cells #[.int .u32 (c : Int), .int .u32 (d : Int)] 43 (0, 0)) := heap_alloc_new _ _
  have x0 : (w.alloc (.cells #[.int .u32 (c : Int), .int .u32 (d : Int)] 43)).cell? ⟨w.heap.size, 0, none⟩ = some (.int .u32 (c : Int)) := cell_of hx rfl
  have x1 : (w.alloc (.cells #[.int .u32 (c : Int), .int .u32 (d : Int)] 43)).cell? ⟨w.heap.size, 1, none⟩ = some (.int .u32 (d : Int)) := cell_of hx rfl
  have HB : Hid (∀ n, Below w.heap.size w ((w.alloc (.cells #[.int .u32 (c : Int), .int .u32 (d : Int)] 43)).drewN n)) := fun n => below_drewN (below_alloc _ _) n
  have g1 : ¬ (255 : Int) ≤ (a.length : Int) + (b.length : Int) := by omega
  have g2 : decide ((255 : Int) ≤ (a.length : Int) + (b.length : Int)) = false := decide_eq_false g1
  have y1 : ((c : Int) == (d : Int)) = true := by simp; omega
  have y2 : ((c : Int) != (d : Int)) = false := by simp; omega
  clear hT hu hv hx hqa hcd
  go_enter Tryd.func8, Tryd.ntmps8
  go_wp2_with fail
  generalize w.alloc (.cells #[.int .u32 (c : Int), .int .u32 (d : Int)] 43) = X at *
  go_quiet (fail)
  have HB0 := Lib.hid (HB.out nq)
  go_wp2_with fail
  go_at_call 19
  refine (H19.out _ HB0.out).mono ?_
  rintro e w1 ⟨vA, rfl, tA, hr, hn, hp, hb⟩
  have HB1 := Lib.hid (HB0.out.trans (hb.mono HB0.out.size))
  have HRA := Lib.hid hr
  have HNA := Lib.hid hn
  have HPA := Lib.hid hp
  clear hr hn hp hb
  go_wp2_with fail
  go_at_call 21
  refine (H21.out _ HB1.out).mono ?_
  rintro e w2 ⟨vD, rfl, tD, hr, hn, hp, hb⟩
  have HB2 := Lib.hid (HB1.out.trans (hb.mono HB1.out.size))
  have HRD := Lib.hid hr
  have HND := Lib.hid hn
  have HPD := Lib.hid hp
  have HRA := Lib.hid (HRA.out.below hb)
  clear hr hn hp hb
  go_wp2_with fail
  go_at_call 23
  refine (H23.out _ HB2.out).mono ?_
  rintro e w3 ⟨vJ, rfl, tJ, hr, hn, hp, hb⟩
  have HB3 := Lib.hid (HB2.out.trans (hb.mono HB2.out.size))
  have HRJ := Lib.hid hr
  have HNJ := Lib.hid hn
  have HPJ := Lib.hid hp
  have HRA := Lib.hid (HRA.out.below hb)
  have HRD := Lib.hid (HRD.out.below hb)
  clear hr hn hp hb
  go_wp2_with fail
  have HMA := Lib.hid (add_mem HPA.out (by omega))
  have HMD := Lib.hid (drop_mem HPD.out)
  have HMJ := Lib.hid (join_mem HPJ.out hlen)
  go_at_call 9
  refine (check_lit _ HRA.out (chk_ok HMA.out.1 (by have := HMA.out.2.2; omega))).mono ?_
  rintro e w4 ⟨rfl, hb⟩
  have HB4 := Lib.hid (HB3.out.trans (hb.mono HB3.out.size))
  have HRA := Lib.hid (HRA.out.below hb)
  have HRD := Lib.hid (HRD.out.below hb)
  have HRJ := Lib.hid (HRJ.out.below hb)
  clear hb
  go_wp2_with fail
  go_at_call 9
  refine (check_lit _ HRD.out (chk_ok HMD.out.1 (by have := HMD.out.2.2; omega))).mono ?_
  rintro e w5 ⟨rfl, hb⟩
  have HB5 := Lib.hid (HB4.out.trans (hb.mono HB4.out.size))
  have HRA := Lib.hid (HRA.out.below hb)
  have HRD := Lib.hid (HRD.out.below hb)
  have HRJ := Lib.hid (HRJ.out.below hb)
  clear hb
  go_wp2_with fail
  go_at_call 9
  refine (check_lit _ HRJ.out (chk_ok HMJ.out.1 (by have := HMJ.out.2.2; omega))).mono ?_
  rintro e w6 ⟨rfl, hb⟩
  have HB6 := Lib.hid (HB5.out.trans (hb.mono HB5.out.size))
  have HRA := Lib.hid (HRA.out.below hb)
  have HRD := Lib.hid (HRD.out.below hb)
  have HRJ := Lib.hid (HRJ.out.below hb)
  clear hb
  go_wp2_with fail
  go_at_call 16
  refine (has_lit (q := true) _ (HRA.out) (decide_eq_true (by rw [HMA.out.2.1]; exact .inl HQA.out))).mono ?_
  rintro e w9 ⟨rfl, rfl⟩
  go_wp2_with fail
  go_at_call 16
  refine (has_lit (q := true) _ (HU.out _ HB6.out) (decide_eq_true (HQA.out))).mono ?_
  rintro e w9 ⟨rfl, rfl⟩
  go_wp2_with fail
  go_at_call 16
  refine (has_lit (q := false) _ (HRD.out) (decide_eq_false (by rw [HMD.out.2.1]; exact fun h => h.2 HCD.out))).mono ?_
  rintro e w9 ⟨rfl, rfl⟩
  go_wp2_with fail
  go_at_call 16
  refine (has_lit (q := true) _ (HU.out _ HB6.out) (decide_eq_true (HQA.out))).mono ?_
  rintro e w9 ⟨rfl, rfl⟩
  go_wp2_with fail
  go_at_call 16
  refine (has_lit (q := true) _ (HRJ.out) (decide_eq_true (by rw [HMJ.out.2.1]; exact .inl HQA.out))).mono ?_
  rintro e w9 ⟨rfl, rfl⟩
  go_wp2_with fail
  go_at_call 16
  refine (has_lit (q := true) _ (HU.out _ HB6.out) (decide_eq_true (HQA.out))).mono ?_
  rintro e w9 ⟨rfl, rfl⟩
  go_wp2_with fail
  go_at_call 23
  refine (H32.out _ HB6.out).mono ?_
  rintro e w7 ⟨vK, rfl, tK, hr, hn, hp, hb⟩
  have HB7 := Lib.hid (HB6.out.trans (hb.mono HB6.out.size))
  have HRK := Lib.hid hr
  have HRA := Lib.hid (HRA.out.below hb)
  have HRD := Lib.hid (HRD.out.below hb)
  have HRJ := Lib.hid (HRJ.out.below hb)
  have hJK := join_comm HPJ.out hp
  have HS := Lib.hid (same_any tJ tK vJ vK w7 HRJ.out HRK.out)
  rw [decide_eq_true hJK] at HS
  clear hJK
  clear hr hn hp hb
  go_wp2_with fail
  go_at_call 18
  refine HS.out.mono ?_
  rintro e w8 ⟨rfl, hb⟩
  have HB8 := Lib.hid (HB7.out.trans (hb.mono HB7.out.size))
  have HRA := Lib.hid (HRA.out.below hb)
  have HRD := Lib.hid (HRD.out.below hb)
  clear hb HS
  go_wp2_with fail
  go_at_call 21
  refine (drop_any tA vA c _ HRA.out HNA.out (by have := HMA.out.2.2; omega)).mono ?_
  rintro e w9 ⟨vE, rfl, tE, hr, hn, hp, hb⟩
  have HB9 := Lib.hid (HB8.out.trans (hb.mono HB8.out.size))
  have HRE := Lib.hid hr
  have HRA := Lib.hid (HRA.out.below hb)
  have HRD := Lib.hid (HRD.out.below hb)
  have hDE := drop_add (by omega) HPA.out HPD.out hp
  have HS := Lib.hid (same_any tE tD vE vD w9 HRE.out HRD.out)
  rw [decide_eq_true hDE] at HS
  clear hDE
  clear hr hn hp hb
  go_wp2_with fail
  go_at_call 18
  refine HS.out.mono ?_
  rintro e w10 ⟨rfl, hb⟩
  have HB10 := Lib.hid (HB9.out.trans (hb.mono HB9.out.size))
  clear hb HS
  go_wp2_with fail
  go_at_call 11
  refine (awake_any _ (HT.out.below HB10.out)).mono ?_
  rintro e w99 ⟨rfl, hb⟩
  have HB99 := Lib.hid (HB10.out.trans (hb.mono HB10.out.size))
  clear hb
  go_wp2
  go_ret
  exact ⟨rfl, HB99.out⟩
theorem sets_1 (a b : List Nat) (u v : Value) (c d : Nat) (w : World) (hT : Lt w) (hu : Rd w u a) (hun : NilV u) (hv : Rd w v b) (hvn : NilV v) (hc : c < 4294967296) (hlen : a.length + b.length < 255) (hqa : d ∈ a) (hcd : ¬ d = c) :
    Calls Tryd.prog 8 #[u, v, .agg #[.int .u32 (c : Int), .int .u32 (d : Int)]] w fun e w' => e = .returned (.bool true) ∧ Below w.heap.size w w' := by
  have HT := Lib.hid hT
  have HQA := Lib.hid hqa
  have HCD := Lib.hid hcd
  have HU : Hid (∀ W, Below w.heap.size w W → Rd W u a) := fun W hW => hu.below hW
  have HV : Hid (∀ W, Below w.heap.size w W → Rd W v b) := fun W hW => hv.below hW
  have H19 : Hid (∀ W, Below w.heap.size w W → Calls Tryd.prog 19 #[u, .int .u32 (c : Int)] W fun e w' => ∃ v', e = .returned v' ∧ RS W (AddP a c) v' w') := fun W hW => add_any a u c W (hu.below hW) hun hc (by omega)
  have H21 : Hid (∀ W, Below w.heap.size w W → Calls Tryd.prog 21 #[u, .int .u32 (c : Int)] W fun e w' => ∃ v', e = .returned v' ∧ RS W (DropP a c) v' w') := fun W hW => drop_any a u c W (hu.below hW) hun (by omega)
  have H23 : Hid (∀ W, Below w.heap.size w W → Calls Tryd.prog 23 #[u, v] W fun e w' => ∃ v', e = .returned v' ∧ RS W (JoinP a b) v' w') := fun W hW => join_any a b u v W (hu.below hW) hun (hv.below hW) hvn (by omega)
  have H32 : Hid (∀ W, Below w.heap.size w W → Calls Tryd.prog 23 #[v, u] W fun e w' => ∃ v', e = .returned v' ∧ RS W (JoinP b a) v' w') := fun W hW => join_any b a v u W (hv.below hW) hvn (hu.below hW) hun (by omega)
  obtain ⟨ad, cap, rfl⟩ := hu.form
  obtain ⟨ad2, cap2, rfl⟩ := hv.form
  have hx : (w.alloc (.cells #[.int .u32 (c : Int), .int .u32 (d : Int)] 43)).heap[w.heap.size]? = some (.cells #[.int .u32 (c : Int), .int .u32 (d : Int)] 43 (0, 0)) := heap_alloc_new _ _
  have x0 : (w.alloc (.cells #[.int .u32 (c : Int), .int .u32 (d : Int)] 43)).cell? ⟨w.heap.size, 0, none⟩ = some (.int .u32 (c : Int)) := cell_of hx rfl
  have x1 : (w.alloc (.cells #[.int .u32 (c : Int), .int .u32 (d : Int)] 43)).cell? ⟨w.heap.size, 1, none⟩ = some (.int .u32 (d : Int)) := cell_of hx rfl
  have HB : Hid (∀ n, Below w.heap.size w ((w.alloc (.cells #[.int .u32 (c : Int), .int .u32 (d : Int)] 43)).drewN n)) := fun n => below_drewN (below_alloc _ _) n
  have g1 : ¬ (255 : Int) ≤ (a.length : Int) + (b.length : Int) := by omega
  have g2 : decide ((255 : Int) ≤ (a.length : Int) + (b.length : Int)) = false := decide_eq_false g1
  have y1 : ((c : Int) == (d : Int)) = false := by simp; omega
  have y2 : ((c : Int) != (d : Int)) = true := by simp; omega
  clear hT hu hv hx hqa hcd
  go_enter Tryd.func8, Tryd.ntmps8
  go_wp2_with fail
  generalize w.alloc (.cells #[.int .u32 (c : Int), .int .u32 (d : Int)] 43) = X at *
  go_quiet (fail)
  have HB0 := Lib.hid (HB.out nq)
  go_wp2_with fail
  go_at_call 19
  refine (H19.out _ HB0.out).mono ?_
  rintro e w1 ⟨vA, rfl, tA, hr, hn, hp, hb⟩
  have HB1 := Lib.hid (HB0.out.trans (hb.mono HB0.out.size))
  have HRA := Lib.hid hr
  have HNA := Lib.hid hn
  have HPA := Lib.hid hp
  clear hr hn hp hb
  go_wp2_with fail
  go_at_call 21
  refine (H21.out _ HB1.out).mono ?_
  rintro e w2 ⟨vD, rfl, tD, hr, hn, hp, hb⟩
  have HB2 := Lib.hid (HB1.out.trans (hb.mono HB1.out.size))
  have HRD := Lib.hid hr
  have HND := Lib.hid hn
  have HPD := Lib.hid hp
  have HRA := Lib.hid (HRA.out.below hb)
  clear hr hn hp hb
  go_wp2_with fail
  go_at_call 23
  refine (H23.out _ HB2.out).mono ?_
  rintro e w3 ⟨vJ, rfl, tJ, hr, hn, hp, hb⟩
  have HB3 := Lib.hid (HB2.out.trans (hb.mono HB2.out.size))
  have HRJ := Lib.hid hr
  have HNJ := Lib.hid hn
  have HPJ := Lib.hid hp
  have HRA := Lib.hid (HRA.out.below hb)
  have HRD := Lib.hid (HRD.out.below hb)
  clear hr hn hp hb
  go_wp2_with fail
  have HMA := Lib.hid (add_mem HPA.out (by omega))
  have HMD := Lib.hid (drop_mem HPD.out)
  have HMJ := Lib.hid (join_mem HPJ.out hlen)
  go_at_call 9
  refine (check_lit _ HRA.out (chk_ok HMA.out.1 (by have := HMA.out.2.2; omega))).mono ?_
  rintro e w4 ⟨rfl, hb⟩
  have HB4 := Lib.hid (HB3.out.trans (hb.mono HB3.out.size))
  have HRA := Lib.hid (HRA.out.below hb)
  have HRD := Lib.hid (HRD.out.below hb)
  have HRJ := Lib.hid (HRJ.out.below hb)
  clear hb
  go_wp2_with fail
  go_at_call 9
  refine (check_lit _ HRD.out (chk_ok HMD.out.1 (by have := HMD.out.2.2; omega))).mono ?_
  rintro e w5 ⟨rfl, hb⟩
  have HB5 := Lib.hid (HB4.out.trans (hb.mono HB4.out.size))
  have HRA := Lib.hid (HRA.out.below hb)
  have HRD := Lib.hid (HRD.out.below hb)
  have HRJ := Lib.hid (HRJ.out.below hb)
  clear hb
  go_wp2_with fail
  go_at_call 9
  refine (check_lit _ HRJ.out (chk_ok HMJ.out.1 (by have := HMJ.out.2.2; omega))).mono ?_
  rintro e w6 ⟨rfl, hb⟩
  have HB6 := Lib.hid (HB5.out.trans (hb.mono HB5.out.size))
  have HRA := Lib.hid (HRA.out.below hb)
  have HRD := Lib.hid (HRD.out.below hb)
  have HRJ := Lib.hid (HRJ.out.below hb)
  clear hb
  go_wp2_with fail
  go_at_call 16
  refine (has_lit (q := true) _ (HRA.out) (decide_eq_true (by rw [HMA.out.2.1]; exact .inl HQA.out))).mono ?_
  rintro e w9 ⟨rfl, rfl⟩
  go_wp2_with fail
  go_at_call 16
  refine (has_lit (q := true) _ (HU.out _ HB6.out) (decide_eq_true (HQA.out))).mono ?_
  rintro e w9 ⟨rfl, rfl⟩
  go_wp2_with fail
  go_at_call 16
  refine (has_lit (q := true) _ (HRD.out) (decide_eq_true (by rw [HMD.out.2.1]; exact ⟨HQA.out, HCD.out⟩))).mono ?_
  rintro e w9 ⟨rfl, rfl⟩
  go_wp2_with fail
  go_at_call 16
  refine (has_lit (q := true) _ (HU.out _ HB6.out) (decide_eq_true (HQA.out))).mono ?_
  rintro e w9 ⟨rfl, rfl⟩
  go_wp2_with fail
  go_at_call 16
  refine (has_lit (q := true) _ (HRJ.out) (decide_eq_true (by rw [HMJ.out.2.1]; exact .inl HQA.out))).mono ?_
  rintro e w9 ⟨rfl, rfl⟩
  go_wp2_with fail
  go_at_call 16
  refine (has_lit (q := true) _ (HU.out _ HB6.out) (decide_eq_true (HQA.out))).mono ?_
  rintro e w9 ⟨rfl, rfl⟩
  go_wp2_with fail
  go_at_call 23
  refine (H32.out _ HB6.out).mono ?_
  rintro e w7 ⟨vK, rfl, tK, hr, hn, hp, hb⟩
  have HB7 := Lib.hid (HB6.out.trans (hb.mono HB6.out.size))
  have HRK := Lib.hid hr
  have HRA := Lib.hid (HRA.out.below hb)
  have HRD := Lib.hid (HRD.out.below hb)
  have HRJ := Lib.hid (HRJ.out.below hb)
  have hJK := join_comm HPJ.out hp
  have HS := Lib.hid (same_any tJ tK vJ vK w7 HRJ.out HRK.out)
  rw [decide_eq_true hJK] at HS
  clear hJK
  clear hr hn hp hb
  go_wp2_with fail
  go_at_call 18
  refine HS.out.mono ?_
  rintro e w8 ⟨rfl, hb⟩
  have HB8 := Lib.hid (HB7.out.trans (hb.mono HB7.out.size))
  have HRA := Lib.hid (HRA.out.below hb)
  have HRD := Lib.hid (HRD.out.below hb)
  clear hb HS
  go_wp2_with fail
  go_at_call 21
  refine (drop_any tA vA c _ HRA.out HNA.out (by have := HMA.out.2.2; omega)).mono ?_
  rintro e w9 ⟨vE, rfl, tE, hr, hn, hp, hb⟩
  have HB9 := Lib.hid (HB8.out.trans (hb.mono HB8.out.size))
  have HRE := Lib.hid hr
  have HRA := Lib.hid (HRA.out.below hb)
  have HRD := Lib.hid (HRD.out.below hb)
  have hDE := drop_add (by omega) HPA.out HPD.out hp
  have HS := Lib.hid (same_any tE tD vE vD w9 HRE.out HRD.out)
  rw [decide_eq_true hDE] at HS
  clear hDE
  clear hr hn hp hb
  go_wp2_with fail
  go_at_call 18
  refine HS.out.mono ?_
  rintro e w10 ⟨rfl, hb⟩
  have HB10 := Lib.hid (HB9.out.trans (hb.mono HB9.out.size))
  clear hb HS
  go_wp2_with fail
  go_at_call 11
  refine (awake_any _ (HT.out.below HB10.out)).mono ?_
  rintro e w99 ⟨rfl, hb⟩
  have HB99 := Lib.hid (HB10.out.trans (hb.mono HB10.out.size))
  clear hb
  go_wp2
  go_ret
  exact ⟨rfl, HB99.out⟩
theorem sets_2 (a b : List Nat) (u v : Value) (c d : Nat) (w : World) (hT : Lt w) (hu : Rd w u a) (hun : NilV u) (hv : Rd w v b) (hvn : NilV v) (hc : c < 4294967296) (hlen : a.length + b.length < 255) (hqa : ¬ d ∈ a) (hcd : d = c) (hqb : d ∈ b) :
    Calls Tryd.prog 8 #[u, v, .agg #[.int .u32 (c : Int), .int .u32 (d : Int)]] w fun e w' => e = .returned (.bool true) ∧ Below w.heap.size w w' := by
  have HT := Lib.hid hT
  have HQA := Lib.hid hqa
  have HCD := Lib.hid hcd
  have HQB := Lib.hid hqb
  have HU : Hid (∀ W, Below w.heap.size w W → Rd W u a) := fun W hW => hu.below hW
  have HV : Hid (∀ W, Below w.heap.size w W → Rd W v b) := fun W hW => hv.below hW
  have H19 : Hid (∀ W, Below w.heap.size w W → Calls Tryd.prog 19 #[u, .int .u32 (c : Int)] W fun e w' => ∃ v', e = .returned v' ∧ RS W (AddP a c) v' w') := fun W hW => add_any a u c W (hu.below hW) hun hc (by omega)
  have H21 : Hid (∀ W, Below w.heap.size w W → Calls Tryd.prog 21 #[u, .int .u32 (c : Int)] W fun e w' => ∃ v', e = .returned v' ∧ RS W (DropP a c) v' w') := fun W hW => drop_any a u c W (hu.below hW) hun (by omega)
  have H23 : Hid (∀ W, Below w.heap.size w W → Calls Tryd.prog 23 #[u, v] W fun e w' => ∃ v', e = .returned v' ∧ RS W (JoinP a b) v' w') := fun W hW => join_any a b u v W (hu.below hW) hun (hv.below hW) hvn (by omega)
  have H32 : Hid (∀ W, Below w.heap.size w W → Calls Tryd.prog 23 #[v, u] W fun e w' => ∃ v', e = .returned v' ∧ RS W (JoinP b a) v' w') := fun W hW => join_any b a v u W (hv.below hW) hvn (hu.below hW) hun (by omega)
  obtain ⟨ad, cap, rfl⟩ := hu.form
  obtain ⟨ad2, cap2, rfl⟩ := hv.form
  have hx : (w.alloc (.cells #[.int .u32 (c : Int), .int .u32 (d : Int)] 43)).heap[w.heap.size]? = some (.cells #[.int .u32 (c : Int), .int .u32 (d : Int)] 43 (0, 0)) := heap_alloc_new _ _
  have x0 : (w.alloc (.cells #[.int .u32 (c : Int), .int .u32 (d : Int)] 43)).cell? ⟨w.heap.size, 0, none⟩ = some (.int .u32 (c : Int)) := cell_of hx rfl
  have x1 : (w.alloc (.cells #[.int .u32 (c : Int), .int .u32 (d : Int)] 43)).cell? ⟨w.heap.size, 1, none⟩ = some (.int .u32 (d : Int)) := cell_of hx rfl
  have HB : Hid (∀ n, Below w.heap.size w ((w.alloc (.cells #[.int .u32 (c : Int), .int .u32 (d : Int)] 43)).drewN n)) := fun n => below_drewN (below_alloc _ _) n
  have g1 : ¬ (255 : Int) ≤ (a.length : Int) + (b.length : Int) := by omega
  have g2 : decide ((255 : Int) ≤ (a.length : Int) + (b.length : Int)) = false := decide_eq_false g1
  have y1 : ((c : Int) == (d : Int)) = true := by simp; omega
  have y2 : ((c : Int) != (d : Int)) = false := by simp; omega
  clear hT hu hv hx hqa hcd hqb
  go_enter Tryd.func8, Tryd.ntmps8
  go_wp2_with fail
  generalize w.alloc (.cells #[.int .u32 (c : Int), .int .u32 (d : Int)] 43) = X at *
  go_quiet (fail)
  have HB0 := Lib.hid (HB.out nq)
  go_wp2_with fail
  go_at_call 19
  refine (H19.out _ HB0.out).mono ?_
  rintro e w1 ⟨vA, rfl, tA, hr, hn, hp, hb⟩
  have HB1 := Lib.hid (HB0.out.trans (hb.mono HB0.out.size))
  have HRA := Lib.hid hr
  have HNA := Lib.hid hn
  have HPA := Lib.hid hp
  clear hr hn hp hb
  go_wp2_with fail
  go_at_call 21
  refine (H21.out _ HB1.out).mono ?_
  rintro e w2 ⟨vD, rfl, tD, hr, hn, hp, hb⟩
  have HB2 := Lib.hid (HB1.out.trans (hb.mono HB1.out.size))
  have HRD := Lib.hid hr
  have HND := Lib.hid hn
  have HPD := Lib.hid hp
  have HRA := Lib.hid (HRA.out.below hb)
  clear hr hn hp hb
  go_wp2_with fail
  go_at_call 23
  refine (H23.out _ HB2.out).mono ?_
  rintro e w3 ⟨vJ, rfl, tJ, hr, hn, hp, hb⟩
  have HB3 := Lib.hid (HB2.out.trans (hb.mono HB2.out.size))
  have HRJ := Lib.hid hr
  have HNJ := Lib.hid hn
  have HPJ := Lib.hid hp
  have HRA := Lib.hid (HRA.out.below hb)
  have HRD := Lib.hid (HRD.out.below hb)
  clear hr hn hp hb
  go_wp2_with fail
  have HMA := Lib.hid (add_mem HPA.out (by omega))
  have HMD := Lib.hid (drop_mem HPD.out)
  have HMJ := Lib.hid (join_mem HPJ.out hlen)
  go_at_call 9
  refine (check_lit _ HRA.out (chk_ok HMA.out.1 (by have := HMA.out.2.2; omega))).mono ?_
  rintro e w4 ⟨rfl, hb⟩
  have HB4 := Lib.hid (HB3.out.trans (hb.mono HB3.out.size))
  have HRA := Lib.hid (HRA.out.below hb)
  have HRD := Lib.hid (HRD.out.below hb)
  have HRJ := Lib.hid (HRJ.out.below hb)
  clear hb
  go_wp2_with fail
  go_at_call 9
  refine (check_lit _ HRD.out (chk_ok HMD.out.1 (by have := HMD.out.2.2; omega))).mono ?_
  rintro e w5 ⟨rfl, hb⟩
  have HB5 := Lib.hid (HB4.out.trans (hb.mono HB4.out.size))
  have HRA := Lib.hid (HRA.out.below hb)
  have HRD := Lib.hid (HRD.out.below hb)
  have HRJ := Lib.hid (HRJ.out.below hb)
  clear hb
  go_wp2_with fail
  go_at_call 9
  refine (check_lit _ HRJ.out (chk_ok HMJ.out.1 (by have := HMJ.out.2.2; omega))).mono ?_
  rintro e w6 ⟨rfl, hb⟩
  have HB6 := Lib.hid (HB5.out.trans (hb.mono HB5.out.size))
  have HRA := Lib.hid (HRA.out.below hb)
  have HRD := Lib.hid (HRD.out.below hb)
  have HRJ := Lib.hid (HRJ.out.below hb)
  clear hb
  go_wp2_with fail
  go_at_call 16
  refine (has_lit (q := true) _ (HRA.out) (decide_eq_true (by rw [HMA.out.2.1]; exact .inr HCD.out))).mono ?_
  rintro e w9 ⟨rfl, rfl⟩
  go_wp2_with fail
  go_at_call 16
  refine (has_lit (q := false) _ (HU.out _ HB6.out) (decide_eq_false (HQA.out))).mono ?_
  rintro e w9 ⟨rfl, rfl⟩
  go_wp2_with fail
  go_at_call 16
  refine (has_lit (q := false) _ (HRD.out) (decide_eq_false (by rw [HMD.out.2.1]; exact fun h => h.2 HCD.out))).mono ?_
  rintro e w9 ⟨rfl, rfl⟩
  go_wp2_with fail
  go_at_call 16
  refine (has_lit (q := false) _ (HU.out _ HB6.out) (decide_eq_false (HQA.out))).mono ?_
  rintro e w9 ⟨rfl, rfl⟩
  go_wp2_with fail
  go_at_call 16
  refine (has_lit (q := true) _ (HRJ.out) (decide_eq_true (by rw [HMJ.out.2.1]; exact .inr HQB.out))).mono ?_
  rintro e w9 ⟨rfl, rfl⟩
  go_wp2_with fail
  go_at_call 16
  refine (has_lit (q := false) _ (HU.out _ HB6.out) (decide_eq_false (HQA.out))).mono ?_
  rintro e w9 ⟨rfl, rfl⟩
  go_wp2_with fail
  go_at_call 16
  refine (has_lit (q := true) _ (HV.out _ HB6.out) (decide_eq_true (HQB.out))).mono ?_
  rintro e w9 ⟨rfl, rfl⟩
  go_wp2_with fail
  go_at_call 23
  refine (H32.out _ HB6.out).mono ?_
  rintro e w7 ⟨vK, rfl, tK, hr, hn, hp, hb⟩
  have HB7 := Lib.hid (HB6.out.trans (hb.mono HB6.out.size))
  have HRK := Lib.hid hr
  have HRA := Lib.hid (HRA.out.below hb)
  have HRD := Lib.hid (HRD.out.below hb)
  have HRJ := Lib.hid (HRJ.out.below hb)
  have hJK := join_comm HPJ.out hp
  have HS := Lib.hid (same_any tJ tK vJ vK w7 HRJ.out HRK.out)
  rw [decide_eq_true hJK] at HS
  clear hJK
  clear hr hn hp hb
  go_wp2_with fail
  go_at_call 18
  refine HS.out.mono ?_
  rintro e w8 ⟨rfl, hb⟩
  have HB8 := Lib.hid (HB7.out.trans (hb.mono HB7.out.size))
  have HRA := Lib.hid (HRA.out.below hb)
  have HRD := Lib.hid (HRD.out.below hb)
  clear hb HS
  go_wp2_with fail
  go_at_call 21
  refine (drop_any tA vA c _ HRA.out HNA.out (by have := HMA.out.2.2; omega)).mono ?_
  rintro e w9 ⟨vE, rfl, tE, hr, hn, hp, hb⟩
  have HB9 := Lib.hid (HB8.out.trans (hb.mono HB8.out.size))
  have HRE := Lib.hid hr
  have HRA := Lib.hid (HRA.out.below hb)
  have HRD := Lib.hid (HRD.out.below hb)
  have hDE := drop_add (by omega) HPA.out HPD.out hp
  have HS := Lib.hid (same_any tE tD vE vD w9 HRE.out HRD.out)
  rw [decide_eq_true hDE] at HS
  clear hDE
  clear hr hn hp hb
  go_wp2_with fail
  go_at_call 18
  refine HS.out.mono ?_
  rintro e w10 ⟨rfl, hb⟩
  have HB10 := Lib.hid (HB9.out.trans (hb.mono HB9.out.size))
  clear hb HS
  go_wp2_with fail
  go_at_call 11
  refine (awake_any _ (HT.out.below HB10.out)).mono ?_
  rintro e w99 ⟨rfl, hb⟩
  have HB99 := Lib.hid (HB10.out.trans (hb.mono HB10.out.size))
  clear hb
  go_wp2
  go_ret
  exact ⟨rfl, HB99.out⟩
theorem sets_3 (a b : List Nat) (u v : Value) (c d : Nat) (w : World) (hT : Lt w) (hu : Rd w u a) (hun : NilV u) (hv : Rd w v b) (hvn : NilV v) (hc : c < 4294967296) (hlen : a.length + b.length < 255) (hqa : ¬ d ∈ a) (hcd : d = c) (hqb : ¬ d ∈ b) :
    Calls Tryd.prog 8 #[u, v, .agg #[.int .u32 (c : Int), .int .u32 (d : Int)]] w fun e w' => e = .returned (.bool true) ∧ Below w.heap.size w w' := by
  have HT := Lib.hid hT
  have HQA := Lib.hid hqa
  have HCD := Lib.hid hcd
  have HQB := Lib.hid hqb
  have HU : Hid (∀ W, Below w.heap.size w W → Rd W u a) := fun W hW => hu.below hW
  have HV : Hid (∀ W, Below w.heap.size w W → Rd W v b) := fun W hW => hv.below hW
  have H19 : Hid (∀ W, Below w.heap.size w W → Calls Tryd.prog 19 #[u, .int .u32 (c : Int)] W fun e w' => ∃ v', e = .returned v' ∧ RS W (AddP a c) v' w') := fun W hW => add_any a u c W (hu.below hW) hun hc (by omega)
  have H21 : Hid (∀ W, Below w.heap.size w W → Calls Tryd.prog 21 #[u, .int .u32 (c : Int)] W fun e w' => ∃ v', e = .returned v' ∧ RS W (DropP a c) v' w') := fun W hW => drop_any a u c W (hu.below hW) hun (by omega)
  have H23 : Hid (∀ W, Below w.heap.size w W → Calls Tryd.prog 23 #[u, v] W fun e w' => ∃ v', e = .returned v' ∧ RS W (JoinP a b) v' w') := fun W hW => join_any a b u v W (hu.below hW) hun (hv.below hW) hvn (by omega)
  have H32 : Hid (∀ W, Below w.heap.size w W → Calls Tryd.prog 23 #[v, u] W fun e w' => ∃ v', e = .returned v' ∧ RS W (JoinP b a) v' w') := fun W hW => join_any b a v u W (hv.below hW) hvn (hu.below hW) hun (by omega)
  obtain ⟨ad, cap, rfl⟩ := hu.form
  obtain ⟨ad2, cap2, rfl⟩ := hv.form
  have hx : (w.alloc (.cells #[.int .u32 (c : Int), .int .u32 (d : Int)] 43)).heap[w.heap.size]? = some (.cells #[.int .u32 (c : Int), .int .u32 (d : Int)] 43 (0, 0)) := heap_alloc_new _ _
  have x0 : (w.alloc (.cells #[.int .u32 (c : Int), .int .u32 (d : Int)] 43)).cell? ⟨w.heap.size, 0, none⟩ = some (.int .u32 (c : Int)) := cell_of hx rfl
  have x1 : (w.alloc (.cells #[.int .u32 (c : Int), .int .u32 (d : Int)] 43)).cell? ⟨w.heap.size, 1, none⟩ = some (.int .u32 (d : Int)) := cell_of hx rfl
  have HB : Hid (∀ n, Below w.heap.size w ((w.alloc (.cells #[.int .u32 (c : Int), .int .u32 (d : Int)] 43)).drewN n)) := fun n => below_drewN (below_alloc _ _) n
  have g1 : ¬ (255 : Int) ≤ (a.length : Int) + (b.length : Int) := by omega
  have g2 : decide ((255 : Int) ≤ (a.length : Int) + (b.length : Int)) = false := decide_eq_false g1
  have y1 : ((c : Int) == (d : Int)) = true := by simp; omega
  have y2 : ((c : Int) != (d : Int)) = false := by simp; omega
  clear hT hu hv hx hqa hcd hqb
  go_enter Tryd.func8, Tryd.ntmps8
  go_wp2_with fail
  generalize w.alloc (.cells #[.int .u32 (c : Int), .int .u32 (d : Int)] 43) = X at *
  go_quiet (fail)
  have HB0 := Lib.hid (HB.out nq)
  go_wp2_with fail
  go_at_call 19
  refine (H19.out _ HB0.out).mono ?_
  rintro e w1 ⟨vA, rfl, tA, hr, hn, hp, hb⟩
  have HB1 := Lib.hid (HB0.out.trans (hb.mono HB0.out.size))
  have HRA := Lib.hid hr
  have HNA := Lib.hid hn
  have HPA := Lib.hid hp
  clear hr hn hp hb
  go_wp2_with fail
  go_at_call 21
  refine (H21.out _ HB1.out).mono ?_
  rintro e w2 ⟨vD, rfl, tD, hr, hn, hp, hb⟩
  have HB2 := Lib.hid (HB1.out.trans (hb.mono HB1.out.size))
  have HRD := Lib.hid hr
  have HND := Lib.hid hn
  have HPD := Lib.hid hp
  have HRA := Lib.hid (HRA.out.below hb)
  clear hr hn hp hb
  go_wp2_with fail
  go_at_call 23
  refine (H23.out _ HB2.out).mono ?_
  rintro e w3 ⟨vJ, rfl, tJ, hr, hn, hp, hb⟩
  have HB3 := Lib.hid (HB2.out.trans (hb.mono HB2.out.size))
  have HRJ := Lib.hid hr
  have HNJ := Lib.hid hn
  have HPJ := Lib.hid hp
  have HRA := Lib.hid (HRA.out.below hb)
  have HRD := Lib.hid (HRD.out.below hb)
  clear hr hn hp hb
  go_wp2_with fail
  have HMA := Lib.hid (add_mem HPA.out (by omega))
  have HMD := Lib.hid (drop_mem HPD.out)
  have HMJ := Lib.hid (join_mem HPJ.out hlen)
  go_at_call 9
  refine (check_lit _ HRA.out (chk_ok HMA.out.1 (by have := HMA.out.2.2; omega))).mono ?_
  rintro e w4 ⟨rfl, hb⟩
  have HB4 := Lib.hid (HB3.out.trans (hb.mono HB3.out.size))
  have HRA := Lib.hid (HRA.out.below hb)
  have HRD := Lib.hid (HRD.out.below hb)
  have HRJ := Lib.hid (HRJ.out.below hb)
  clear hb
  go_wp2_with fail
  go_at_call 9
  refine (check_lit _ HRD.out (chk_ok HMD.out.1 (by have := HMD.out.2.2; omega))).mono ?_
  rintro e w5 ⟨rfl, hb⟩
  have HB5 := Lib.hid (HB4.out.trans (hb.mono HB4.out.size))
  have HRA := Lib.hid (HRA.out.below hb)
  have HRD := Lib.hid (HRD.out.below hb)
  have HRJ := Lib.hid (HRJ.out.below hb)
  clear hb
  go_wp2_with fail
  go_at_call 9
  refine (check_lit _ HRJ.out (chk_ok HMJ.out.1 (by have := HMJ.out.2.2; omega))).mono ?_
  rintro e w6 ⟨rfl, hb⟩
  have HB6 := Lib.hid (HB5.out.trans (hb.mono HB5.out.size))
  have HRA := Lib.hid (HRA.out.below hb)
  have HRD := Lib.hid (HRD.out.below hb)
  have HRJ := Lib.hid (HRJ.out.below hb)
  clear hb
  go_wp2_with fail
  go_at_call 16
  refine (has_lit (q := true) _ (HRA.out) (decide_eq_true (by rw [HMA.out.2.1]; exact .inr HCD.out))).mono ?_
  rintro e w9 ⟨rfl, rfl⟩
  go_wp2_with fail
  go_at_call 16
  refine (has_lit (q := false) _ (HU.out _ HB6.out) (decide_eq_false (HQA.out))).mono ?_
  rintro e w9 ⟨rfl, rfl⟩
  go_wp2_with fail
  go_at_call 16
  refine (has_lit (q := false) _ (HRD.out) (decide_eq_false (by rw [HMD.out.2.1]; exact fun h => h.2 HCD.out))).mono ?_
  rintro e w9 ⟨rfl, rfl⟩
  go_wp2_with fail
  go_at_call 16
  refine (has_lit (q := false) _ (HU.out _ HB6.out) (decide_eq_false (HQA.out))).mono ?_
  rintro e w9 ⟨rfl, rfl⟩
  go_wp2_with fail
  go_at_call 16
  refine (has_lit (q := false) _ (HRJ.out) (decide_eq_false (by rw [HMJ.out.2.1]; rintro (h | h); exact HQA.out h; exact HQB.out h))).mono ?_
  rintro e w9 ⟨rfl, rfl⟩
  go_wp2_with fail
  go_at_call 16
  refine (has_lit (q := false) _ (HU.out _ HB6.out) (decide_eq_false (HQA.out))).mono ?_
  rintro e w9 ⟨rfl, rfl⟩
  go_wp2_with fail
  go_at_call 16
  refine (has_lit (q := false) _ (HV.out _ HB6.out) (decide_eq_false (HQB.out))).mono ?_
  rintro e w9 ⟨rfl, rfl⟩
  go_wp2_with fail
  go_at_call 23
  refine (H32.out _ HB6.out).mono ?_
  rintro e w7 ⟨vK, rfl, tK, hr, hn, hp, hb⟩
  have HB7 := Lib.hid (HB6.out.trans (hb.mono HB6.out.size))
  have HRK := Lib.hid hr
  have HRA := Lib.hid (HRA.out.below hb)
  have HRD := Lib.hid (HRD.out.below hb)
  have HRJ := Lib.hid (HRJ.out.below hb)
  have hJK := join_comm HPJ.out hp
  have HS := Lib.hid (same_any tJ tK vJ vK w7 HRJ.out HRK.out)
  rw [decide_eq_true hJK] at HS
  clear hJK
  clear hr hn hp hb
  go_wp2_with fail
  go_at_call 18
  refine HS.out.mono ?_
  rintro e w8 ⟨rfl, hb⟩
  have HB8 := Lib.hid (HB7.out.trans (hb.mono HB7.out.size))
  have HRA := Lib.hid (HRA.out.below hb)
  have HRD := Lib.hid (HRD.out.below hb)
  clear hb HS
  go_wp2_with fail
  go_at_call 21
  refine (drop_any tA vA c _ HRA.out HNA.out (by have := HMA.out.2.2; omega)).mono ?_
  rintro e w9 ⟨vE, rfl, tE, hr, hn, hp, hb⟩
  have HB9 := Lib.hid (HB8.out.trans (hb.mono HB8.out.size))
  have HRE := Lib.hid hr
  have HRA := Lib.hid (HRA.out.below hb)
  have HRD := Lib.hid (HRD.out.below hb)
  have hDE := drop_add (by omega) HPA.out HPD.out hp
  have HS := Lib.hid (same_any tE tD vE vD w9 HRE.out HRD.out)
  rw [decide_eq_true hDE] at HS
  clear hDE
  clear hr hn hp hb
  go_wp2_with fail
  go_at_call 18
  refine HS.out.mono ?_
  rintro e w10 ⟨rfl, hb⟩
  have HB10 := Lib.hid (HB9.out.trans (hb.mono HB9.out.size))
  clear hb HS
  go_wp2_with fail
  go_at_call 11
  refine (awake_any _ (HT.out.below HB10.out)).mono ?_
  rintro e w99 ⟨rfl, hb⟩
  have HB99 := Lib.hid (HB10.out.trans (hb.mono HB10.out.size))
  clear hb
  go_wp2
  go_ret
  exact ⟨rfl, HB99.out⟩
theorem sets_4 (a b : List Nat) (u v : Value) (c d : Nat) (w : World) (hT : Lt w) (hu : Rd w u a) (hun : NilV u) (hv : Rd w v b) (hvn : NilV v) (hc : c < 4294967296) (hlen : a.length + b.length < 255) (hqa : ¬ d ∈ a) (hcd : ¬ d = c) (hqb : d ∈ b) :
    Calls Tryd.prog 8 #[u, v, .agg #[.int .u32 (c : Int), .int .u32 (d : Int)]] w fun e w' => e = .returned (.bool true) ∧ Below w.heap.size w w' := by
  have HT := Lib.hid hT
  have HQA := Lib.hid hqa
  have HCD := Lib.hid hcd
  have HQB := Lib.hid hqb
  have HU : Hid (∀ W, Below w.heap.size w W → Rd W u a) := fun W hW => hu.below hW
  have HV : Hid (∀ W, Below w.heap.size w W → Rd W v b) := fun W hW => hv.below hW
  have H19 : Hid (∀ W, Below w.heap.size w W → Calls Tryd.prog 19 #[u, .int .u32 (c : Int)] W fun e w' => ∃ v', e = .returned v' ∧ RS W (AddP a c) v' w') := fun W hW => add_any a u c W (hu.below hW) hun hc (by omega)
  have H21 : Hid (∀ W, Below w.heap.size w W → Calls Tryd.prog 21 #[u, .int .u32 (c : Int)] W fun e w' => ∃ v', e = .returned v' ∧ RS W (DropP a c) v' w') := fun W hW => drop_any a u c W (hu.below hW) hun (by omega)
  have H23 : Hid (∀ W, Below w.heap.size w W → Calls Tryd.prog 23 #[u, v] W fun e w' => ∃ v', e = .returned v' ∧ RS W (JoinP a b) v' w') := fun W hW => join_any a b u v W (hu.below hW) hun (hv.below hW) hvn (by omega)
  have H32 : Hid (∀ W, Below w.heap.size w W → Calls Tryd.prog 23 #[v, u] W fun e w' => ∃ v', e = .returned v' ∧ RS W (JoinP b a) v' w') := fun W hW => join_any b a v u W (hv.below hW) hvn (hu.below hW) hun (by omega)
  obtain ⟨ad, cap, rfl⟩ := hu.form
  obtain ⟨ad2, cap2, rfl⟩ := hv.form
  have hx : (w.alloc (.cells #[.int .u32 (c : Int), .int .u32 (d : Int)] 43)).heap[w.heap.size]? = some (.cells #[.int .u32 (c : Int), .int .u32 (d : Int)] 43 (0, 0)) := heap_alloc_new _ _
  have x0 : (w.alloc (.cells #[.int .u32 (c : Int), .int .u32 (d : Int)] 43)).cell? ⟨w.heap.size, 0, none⟩ = some (.int .u32 (c : Int)) := cell_of hx rfl
  have x1 : (w.alloc (.cells #[.int .u32 (c : Int), .int .u32 (d : Int)] 43)).cell? ⟨w.heap.size, 1, none⟩ = some (.int .u32 (d : Int)) := cell_of hx rfl
  have HB : Hid (∀ n, Below w.heap.size w ((w.alloc (.cells #[.int .u32 (c : Int), .int .u32 (d : Int)] 43)).drewN n)) := fun n => below_drewN (below_alloc _ _) n
  have g1 : ¬ (255 : Int) ≤ (a.length : Int) + (b.length : Int) := by omega
  have g2 : decide ((255 : Int) ≤ (a.length : Int) + (b.length : Int)) = false := decide_eq_false g1
  have y1 : ((c : Int) == (d : Int)) = false := by simp; omega
  have y2 : ((c : Int) != (d : Int)) = true := by simp; omega
  clear hT hu hv hx hqa hcd hqb
  go_enter Tryd.func8, Tryd.ntmps8
  go_wp2_with fail
  generalize w.alloc (.cells #[.int .u32 (c : Int), .int .u32 (d : Int)] 43) = X at *
  go_quiet (fail)
  have HB0 := Lib.hid (HB.out nq)
  go_wp2_with fail
  go_at_call 19
  refine (H19.out _ HB0.out).mono ?_
  rintro e w1 ⟨vA, rfl, tA, hr, hn, hp, hb⟩
  have HB1 := Lib.hid (HB0.out.trans (hb.mono HB0.out.size))
  have HRA := Lib.hid hr
  have HNA := Lib.hid hn
  have HPA := Lib.hid hp
  clear hr hn hp hb
  go_wp2_with fail
  go_at_call 21
  refine (H21.out _ HB1.out).mono ?_
  rintro e w2 ⟨vD, rfl, tD, hr, hn, hp, hb⟩
  have HB2 := Lib.hid (HB1.out.trans (hb.mono HB1.out.size))
  have HRD := Lib.hid hr
  have HND := Lib.hid hn
  have HPD := Lib.hid hp
  have HRA := Lib.hid (HRA.out.below hb)
  clear hr hn hp hb
  go_wp2_with fail
  go_at_call 23
  refine (H23.out _ HB2.out).mono ?_
  rintro e w3 ⟨vJ, rfl, tJ, hr, hn, hp, hb⟩
  have HB3 := Lib.hid (HB2.out.trans (hb.mono HB2.out.size))
  have HRJ := Lib.hid hr
  have HNJ := Lib.hid hn
  have HPJ := Lib.hid hp
  have HRA := Lib.hid (HRA.out.below hb)
  have HRD := Lib.hid (HRD.out.below hb)
  clear hr hn hp hb
  go_wp2_with fail
  have HMA := Lib.hid (add_mem HPA.out (by omega))
  have HMD := Lib.hid (drop_mem HPD.out)
  have HMJ := Lib.hid (join_mem HPJ.out hlen)
  go_at_call 9
  refine (check_lit _ HRA.out (chk_ok HMA.out.1 (by have := HMA.out.2.2; omega))).mono ?_
  rintro e w4 ⟨rfl, hb⟩
  have HB4 := Lib.hid (HB3.out.trans (hb.mono HB3.out.size))
  have HRA := Lib.hid (HRA.out.below hb)
  have HRD := Lib.hid (HRD.out.below hb)
  have HRJ := Lib.hid (HRJ.out.below hb)
  clear hb
  go_wp2_with fail
  go_at_call 9
  refine (check_lit _ HRD.out (chk_ok HMD.out.1 (by have := HMD.out.2.2; omega))).mono ?_
  rintro e w5 ⟨rfl, hb⟩
  have HB5 := Lib.hid (HB4.out.trans (hb.mono HB4.out.size))
  have HRA := Lib.hid (HRA.out.below hb)
  have HRD := Lib.hid (HRD.out.below hb)
  have HRJ := Lib.hid (HRJ.out.below hb)
  clear hb
  go_wp2_with fail
  go_at_call 9
  refine (check_lit _ HRJ.out (chk_ok HMJ.out.1 (by have := HMJ.out.2.2; omega))).mono ?_
  rintro e w6 ⟨rfl, hb⟩
  have HB6 := Lib.hid (HB5.out.trans (hb.mono HB5.out.size))
  have HRA := Lib.hid (HRA.out.below hb)
  have HRD := Lib.hid (HRD.out.below hb)
  have HRJ := Lib.hid (HRJ.out.below hb)
  clear hb
  go_wp2_with fail
  go_at_call 16
  refine (has_lit (q := false) _ (HRA.out) (decide_eq_false (by rw [HMA.out.2.1]; rintro (h | h); exact HQA.out h; exact HCD.out h))).mono ?_
  rintro e w9 ⟨rfl, rfl⟩
  go_wp2_with fail
  go_at_call 16
  refine (has_lit (q := false) _ (HU.out _ HB6.out) (decide_eq_false (HQA.out))).mono ?_
  rintro e w9 ⟨rfl, rfl⟩
  go_wp2_with fail
  go_at_call 16
  refine (has_lit (q := false) _ (HRD.out) (decide_eq_false (by rw [HMD.out.2.1]; exact fun h => HQA.out h.1))).mono ?_
  rintro e w9 ⟨rfl, rfl⟩
  go_wp2_with fail
  go_at_call 16
  refine (has_lit (q := false) _ (HU.out _ HB6.out) (decide_eq_false (HQA.out))).mono ?_
  rintro e w9 ⟨rfl, rfl⟩
  go_wp2_with fail
  go_at_call 16
  refine (has_lit (q := true) _ (HRJ.out) (decide_eq_true (by rw [HMJ.out.2.1]; exact .inr HQB.out))).mono ?_
  rintro e w9 ⟨rfl, rfl⟩
  go_wp2_with fail
  go_at_call 16
  refine (has_lit (q := false) _ (HU.out _ HB6.out) (decide_eq_false (HQA.out))).mono ?_
  rintro e w9 ⟨rfl, rfl⟩
  go_wp2_with fail
  go_at_call 16
  refine (has_lit (q := true) _ (HV.out _ HB6.out) (decide_eq_true (HQB.out))).mono ?_
  rintro e w9 ⟨rfl, rfl⟩
  go_wp2_with fail
  go_at_call 23
  refine (H32.out _ HB6.out).mono ?_
  rintro e w7 ⟨vK, rfl, tK, hr, hn, hp, hb⟩
  have HB7 := Lib.hid (HB6.out.trans (hb.mono HB6.out.size))
  have HRK := Lib.hid hr
  have HRA := Lib.hid (HRA.out.below hb)
  have HRD := Lib.hid (HRD.out.below hb)
  have HRJ := Lib.hid (HRJ.out.below hb)
  have hJK := join_comm HPJ.out hp
  have HS := Lib.hid (same_any tJ tK vJ vK w7 HRJ.out HRK.out)
  rw [decide_eq_true hJK] at HS
  clear hJK
  clear hr hn hp hb
  go_wp2_with fail
  go_at_call 18
  refine HS.out.mono ?_
  rintro e w8 ⟨rfl, hb⟩
  have HB8 := Lib.hid (HB7.out.trans (hb.mono HB7.out.size))
  have HRA := Lib.hid (HRA.out.below hb)
  have HRD := Lib.hid (HRD.out.below hb)
  clear hb HS
  go_wp2_with fail
  go_at_call 21
  refine (drop_any tA vA c _ HRA.out HNA.out (by have := HMA.out.2.2; omega)).mono ?_
  rintro e w9 ⟨vE, rfl, tE, hr, hn, hp, hb⟩
  have HB9 := Lib.hid (HB8.out.trans (hb.mono HB8.out.size))
  have HRE := Lib.hid hr
  have HRA := Lib.hid (HRA.out.below hb)
  have HRD := Lib.hid (HRD.out.below hb)
  have hDE := drop_add (by omega) HPA.out HPD.out hp
  have HS := Lib.hid (same_any tE tD vE vD w9 HRE.out HRD.out)
  rw [decide_eq_true hDE] at HS
  clear hDE
  clear hr hn hp hb
  go_wp2_with fail
  go_at_call 18
  refine HS.out.mono ?_
  rintro e w10 ⟨rfl, hb⟩
  have HB10 := Lib.hid (HB9.out.trans (hb.mono HB9.out.size))
  clear hb HS
  go_wp2_with fail
  go_at_call 11
  refine (awake_any _ (HT.out.below HB10.out)).mono ?_
  rintro e w99 ⟨rfl, hb⟩
  have HB99 := Lib.hid (HB10.out.trans (hb.mono HB10.out.size))
  clear hb
  go_wp2
  go_ret
  exact ⟨rfl, HB99.out⟩
theorem sets_5 (a b : List Nat) (u v : Value) (c d : Nat) (w : World) (hT : Lt w) (hu : Rd w u a) (hun : NilV u) (hv : Rd w v b) (hvn : NilV v) (hc : c < 4294967296) (hlen : a.length + b.length < 255) (hqa : ¬ d ∈ a) (hcd : ¬ d = c) (hqb : ¬ d ∈ b) :
    Calls Tryd.prog 8 #[u, v, .agg #[.int .u32 (c : Int), .int .u32 (d : Int)]] w fun e w' => e = .returned (.bool true) ∧ Below w.heap.size w w' := by
  have HT := Lib.hid hT
  have HQA := Lib.hid hqa
  have HCD := Lib.hid hcd
  have HQB := Lib.hid hqb
  have HU : Hid (∀ W, Below w.heap.size w W → Rd W u a) := fun W hW => hu.below hW
  have HV : Hid (∀ W, Below w.heap.size w W → Rd W v b) := fun W hW => hv.below hW
  have H19 : Hid (∀ W, Below w.heap.size w W → Calls Tryd.prog 19 #[u, .int .u32 (c : Int)] W fun e w' => ∃ v', e = .returned v' ∧ RS W (AddP a c) v' w') := fun W hW => add_any a u c W (hu.below hW) hun hc (by omega)
  have H21 : Hid (∀ W, Below w.heap.size w W → Calls Tryd.prog 21 #[u, .int .u32 (c : Int)] W fun e w' => ∃ v', e = .returned v' ∧ RS W (DropP a c) v' w') := fun W hW => drop_any a u c W (hu.below hW) hun (by omega)
  have H23 : Hid (∀ W, Below w.heap.size w W → Calls Tryd.prog 23 #[u, v] W fun e w' => ∃ v', e = .returned v' ∧ RS W (JoinP a b) v' w') := fun W hW => join_any a b u v W (hu.below hW) hun (hv.below hW) hvn (by omega)
  have H32 : Hid (∀ W, Below w.heap.size w W → Calls Tryd.prog 23 #[v, u] W fun e w' => ∃ v', e = .returned v' ∧ RS W (JoinP b a) v' w') := fun W hW => join_any b a v u W (hv.below hW) hvn (hu.below hW) hun (by omega)
  obtain ⟨ad, cap, rfl⟩ := hu.form
  obtain ⟨ad2, cap2, rfl⟩ := hv.form
  have hx : (w.alloc (.cells #[.int .u32 (c : Int), .int .u32 (d : Int)] 43)).heap[w.heap.size]? = some (.cells #[.int .u32 (c : Int), .int .u32 (d : Int)] 43 (0, 0)) := heap_alloc_new _ _
  have x0 : (w.alloc (.cells #[.int .u32 (c : Int), .int .u32 (d : Int)] 43)).cell? ⟨w.heap.size, 0, none⟩ = some (.int .u32 (c : Int)) := cell_of hx rfl
  have x1 : (w.alloc (.cells #[.int .u32 (c : Int), .int .u32 (d : Int)] 43)).cell? ⟨w.heap.size, 1, none⟩ = some (.int .u32 (d : Int)) := cell_of hx rfl
  have HB : Hid (∀ n, Below w.heap.size w ((w.alloc (.cells #[.int .u32 (c : Int), .int .u32 (d : Int)] 43)).drewN n)) := fun n => below_drewN (below_alloc _ _) n
  have g1 : ¬ (255 : Int) ≤ (a.length : Int) + (b.length : Int) := by omega
  have g2 : decide ((255 : Int) ≤ (a.length : Int) + (b.length : Int)) = false := decide_eq_false g1
  have y1 : ((c : Int) == (d : Int)) = false := by simp; omega
  have y2 : ((c : Int) != (d : Int)) = true := by simp; omega
  clear hT hu hv hx hqa hcd hqb
  go_enter Tryd.func8, Tryd.ntmps8
  go_wp2_with fail
  generalize w.alloc (.cells #[.int .u32 (c : Int), .int .u32 (d : Int)] 43) = X at *
  go_quiet (fail)
  have HB0 := Lib.hid (HB.out nq)
  go_wp2_with fail
  go_at_call 19
  refine (H19.out _ HB0.out).mono ?_
  rintro e w1 ⟨vA, rfl, tA, hr, hn, hp, hb⟩
  have HB1 := Lib.hid (HB0.out.trans (hb.mono HB0.out.size))
  have HRA := Lib.hid hr
  have HNA := Lib.hid hn
  have HPA := Lib.hid hp
  clear hr hn hp hb
  go_wp2_with fail
  go_at_call 21
  refine (H21.out _ HB1.out).mono ?_
  rintro e w2 ⟨vD, rfl, tD, hr, hn, hp, hb⟩
  have HB2 := Lib.hid (HB1.out.trans (hb.mono HB1.out.size))
  have HRD := Lib.hid hr
  have HND := Lib.hid hn
  have HPD := Lib.hid hp
  have HRA := Lib.hid (HRA.out.below hb)
  clear hr hn hp hb
  go_wp2_with fail
  go_at_call 23
  refine (H23.out _ HB2.out).mono ?_
  rintro e w3 ⟨vJ, rfl, tJ, hr, hn, hp, hb⟩
  have HB3 := Lib.hid (HB2.out.trans (hb.mono HB2.out.size))
  have HRJ := Lib.hid hr
  have HNJ := Lib.hid hn
  have HPJ := Lib.hid hp
  have HRA := Lib.hid (HRA.out.below hb)
  have HRD := Lib.hid (HRD.out.below hb)
  clear hr hn hp hb
  go_wp2_with fail
  have HMA := Lib.hid (add_mem HPA.out (by omega))
  have HMD := Lib.hid (drop_mem HPD.out)
  have HMJ := Lib.hid (join_mem HPJ.out hlen)
  go_at_call 9
  refine (check_lit _ HRA.out (chk_ok HMA.out.1 (by have := HMA.out.2.2; omega))).mono ?_
  rintro e w4 ⟨rfl, hb⟩
  have HB4 := Lib.hid (HB3.out.trans (hb.mono HB3.out.size))
  have HRA := Lib.hid (HRA.out.below hb)
  have HRD := Lib.hid (HRD.out.below hb)
  have HRJ := Lib.hid (HRJ.out.below hb)
  clear hb
  go_wp2_with fail
  go_at_call 9
  refine (check_lit _ HRD.out (chk_ok HMD.out.1 (by have := HMD.out.2.2; omega))).mono ?_
  rintro e w5 ⟨rfl, hb⟩
  have HB5 := Lib.hid (HB4.out.trans (hb.mono HB4.out.size))
  have HRA := Lib.hid (HRA.out.below hb)
  have HRD := Lib.hid (HRD.out.below hb)
  have HRJ := Lib.hid (HRJ.out.below hb)
  clear hb
  go_wp2_with fail
  go_at_call 9
  refine (check_lit _ HRJ.out (chk_ok HMJ.out.1 (by have := HMJ.out.2.2; omega))).mono ?_
  rintro e w6 ⟨rfl, hb⟩
  have HB6 := Lib.hid (HB5.out.trans (hb.mono HB5.out.size))
  have HRA := Lib.hid (HRA.out.below hb)
  have HRD := Lib.hid (HRD.out.below hb)
  have HRJ := Lib.hid (HRJ.out.below hb)
  clear hb
  go_wp2_with fail
  go_at_call 16
  refine (has_lit (q := false) _ (HRA.out) (decide_eq_false (by rw [HMA.out.2.1]; rintro (h | h); exact HQA.out h; exact HCD.out h))).mono ?_
  rintro e w9 ⟨rfl, rfl⟩
  go_wp2_with fail
  go_at_call 16
  refine (has_lit (q := false) _ (HU.out _ HB6.out) (decide_eq_false (HQA.out))).mono ?_
  rintro e w9 ⟨rfl, rfl⟩
  go_wp2_with fail
  go_at_call 16
  refine (has_lit (q := false) _ (HRD.out) (decide_eq_false (by rw [HMD.out.2.1]; exact fun h => HQA.out h.1))).mono ?_
  rintro e w9 ⟨rfl, rfl⟩
  go_wp2_with fail
  go_at_call 16
  refine (has_lit (q := false) _ (HU.out _ HB6.out) (decide_eq_false (HQA.out))).mono ?_
  rintro e w9 ⟨rfl, rfl⟩
  go_wp2_with fail
  go_at_call 16
  refine (has_lit (q := false) _ (HRJ.out) (decide_eq_false (by rw [HMJ.out.2.1]; rintro (h | h); exact HQA.out h; exact HQB.out h))).mono ?_
  rintro e w9 ⟨rfl, rfl⟩
  go_wp2_with fail
  go_at_call 16
  refine (has_lit (q := false) _ (HU.out _ HB6.out) (decide_eq_false (HQA.out))).mono ?_
  rintro e w9 ⟨rfl, rfl⟩
  go_wp2_with fail
  go_at_call 16
  refine (has_lit (q := false) _ (HV.out _ HB6.out) (decide_eq_false (HQB.out))).mono ?_
  rintro e w9 ⟨rfl, rfl⟩
  go_wp2_with fail
  go_at_call 23
  refine (H32.out _ HB6.out).mono ?_
  rintro e w7 ⟨vK, rfl, tK, hr, hn, hp, hb⟩
  have HB7 := Lib.hid (HB6.out.trans (hb.mono HB6.out.size))
  have HRK := Lib.hid hr
  have HRA := Lib.hid (HRA.out.below hb)
  have HRD := Lib.hid (HRD.out.below hb)
  have HRJ := Lib.hid (HRJ.out.below hb)
  have hJK := join_comm HPJ.out hp
  have HS := Lib.hid (same_any tJ tK vJ vK w7 HRJ.out HRK.out)
  rw [decide_eq_true hJK] at HS
  clear hJK
  clear hr hn hp hb
  go_wp2_with fail
  go_at_call 18
  refine HS.out.mono ?_
  rintro e w8 ⟨rfl, hb⟩
  have HB8 := Lib.hid (HB7.out.trans (hb.mono HB7.out.size))
  have HRA := Lib.hid (HRA.out.below hb)
  have HRD := Lib.hid (HRD.out.below hb)
  clear hb HS
  go_wp2_with fail
  go_at_call 21
  refine (drop_any tA vA c _ HRA.out HNA.out (by have := HMA.out.2.2; omega)).mono ?_
  rintro e w9 ⟨vE, rfl, tE, hr, hn, hp, hb⟩
  have HB9 := Lib.hid (HB8.out.trans (hb.mono HB8.out.size))
  have HRE := Lib.hid hr
  have HRA := Lib.hid (HRA.out.below hb)
  have HRD := Lib.hid (HRD.out.below hb)
  have hDE := drop_add (by omega) HPA.out HPD.out hp
  have HS := Lib.hid (same_any tE tD vE vD w9 HRE.out HRD.out)
  rw [decide_eq_true hDE] at HS
  clear hDE
  clear hr hn hp hb
  go_wp2_with fail
  go_at_call 18
  refine HS.out.mono ?_
  rintro e w10 ⟨rfl, hb⟩
  have HB10 := Lib.hid (HB9.out.trans (hb.mono HB9.out.size))
  clear hb HS
  go_wp2_with fail
  go_at_call 11
  refine (awake_any _ (HT.out.below HB10.out)).mono ?_
  rintro e w99 ⟨rfl, hb⟩
  have HB99 := Lib.hid (HB10.out.trans (hb.mono HB10.out.size))
  clear hb
  go_wp2
  go_ret
  exact ⟨rfl, HB99.out⟩
theorem lawSets (a b : List Nat) (u v : Value) (c d : Nat) (w : World) (hT : Lt w) (hu : Rd w u a) (hun : NilV u) (hv : Rd w v b) (hvn : NilV v) (hc : c < 4294967296) (ha : a.length ≤ 1000000000000000) (hb : b.length ≤ 1000000000000000) :
    Calls Tryd.prog 8 #[u, v, .agg #[.int .u32 (c : Int), .int .u32 (d : Int)]] w fun e w' => e = .returned (.bool true) ∧ Below w.heap.size w w' := by
  by_cases hlen : a.length + b.length < 255
  · by_cases h1 : d ∈ a
    · by_cases h2 : d = c
      · exact sets_0 a b u v c d w hT hu hun hv hvn hc hlen h1 h2
      · exact sets_1 a b u v c d w hT hu hun hv hvn hc hlen h1 h2
    · by_cases h2 : d = c
      · by_cases h3 : d ∈ b
        · exact sets_2 a b u v c d w hT hu hun hv hvn hc hlen h1 h2 h3
        · exact sets_3 a b u v c d w hT hu hun hv hvn hc hlen h1 h2 h3
      · by_cases h3 : d ∈ b
        · exact sets_4 a b u v c d w hT hu hun hv hvn hc hlen h1 h2 h3
        · exact sets_5 a b u v c d w hT hu hun hv hvn hc hlen h1 h2 h3
  · exact sets_large a b u v c d w hT hu hv (by omega) ha hb
end Go.Proofs.YtaniiennfogjaaaDoor
