/-
  The walk of the law on what operations on valid graphs keep.
-/
import Derived.Test.YtiodpgannelgpaaGrTn
namespace Go.Proofs.Ytiodpgannelgpaa
open Go.RowKit GM Go.Sort
set_option linter.unusedSimpArgs false
set_option linter.unusedVariables false
set_option maxHeartbeats 1500000
set_option maxRecDepth 100000

theorem valid_not {R N : Int} {l : List E} (q : E → Bool) (h : Valid R N l) : Valid R N (notQ q l) :=
  ⟨h.r, h.n, h.s, Nat.le_trans (List.length_filter_le _ _) h.len, fun e he => h.al e (List.mem_filter.1 he).1, h.asc.sublist List.filter_sublist⟩
theorem flp_flp (e : E) : flp (flp e) = e := rfl
theorem flp_sm (c x : E) : sm c (flp x) = sm (flp c) x := by unfold sm flp; exact decide_eq_decide.2 ⟨fun h => ⟨h.2, h.1⟩, fun h => ⟨h.2, h.1⟩⟩
theorem stb_flp {l m : List E} (h : Stb l m) : Stb (l.map flp) (m.map flp) := fun c => by
  rw [List.filter_map, List.filter_map]
  have e : (sm c ∘ flp) = sm (flp c) := funext fun x => flp_sm c x
  rw [e, h (flp c)]
theorem map_flp_flp (l : List E) : (l.map flp).map flp = l := by
  rw [List.map_map]
  have : (flp ∘ flp) = id := funext flp_flp
  rw [this, List.map_id]
theorem stb_len {l m : List E} (h : Stb l m) : l.length = m.length := by
  have : l.Perm m := by
    rw [List.perm_iff_count]
    intro x
    have h1 := h x
    have hc : ∀ (k : List E), (k.filter (sm x)).count x = k.count x := fun k => List.count_filter (sm_iff.2 ⟨rfl, rfl⟩)
    rw [← hc l, ← hc m, h1]
  exact this.length_eq
theorem asc_srt {l : List E} (h : l.Pairwise (fun a b => bef a b = true)) : SrtE l := h.imp fun {a b} hab => by
  cases hb : bef b a
  · rfl
  · have := bef_trans hab hb; rw [bef_irrefl] at this; cases this
theorem srt_asc {l o : List E} (hd : l.Pairwise (fun a b => ¬ (a.1 = b.1 ∧ a.2.1 = b.2.1))) (hs : SrtE o) (h : Stb l o) : o.Pairwise (fun a b => bef a b = true) := by
  have hno : ∀ c : E, (o.filter (sm c)).length ≤ 1 := fun c => by
    rw [h c]
    have hp := hd.sublist (List.filter_sublist (p := sm c))
    match hf : l.filter (sm c) with
    | [] => simp
    | [x] => simp
    | x :: y :: r =>
      rw [hf] at hp
      have hx := sm_iff.1 (List.mem_filter.1 (hf ▸ List.mem_cons_self : x ∈ l.filter (sm c))).2
      have hy := sm_iff.1 (List.mem_filter.1 (hf ▸ (List.mem_cons_of_mem x List.mem_cons_self) : y ∈ l.filter (sm c))).2
      have := (List.pairwise_cons.1 hp).1 y List.mem_cons_self
      exact absurd ⟨by omega, by omega⟩ this
  refine List.pairwise_iff_getElem.2 fun i j hi hj hij => ?_
  have h1 := List.pairwise_iff_getElem.1 hs i j hi hj hij
  refine bef_conn h1 fun hsm => ?_
  have hsub : [o[i], o[j]].Sublist o := by
    have e : o = o.take i ++ o[i] :: o.drop (i + 1) := by rw [← List.drop_eq_getElem_cons hi, List.take_append_drop]
    have hm : o[j] ∈ o.drop (i + 1) := by
      have : (o.drop (i + 1))[j - (i + 1)]? = some o[j] := by rw [List.getElem?_drop, show i + 1 + (j - (i + 1)) = j by omega]; exact List.getElem?_eq_getElem hj
      exact List.mem_of_getElem? this
    conv => rhs; rw [e]
    exact ((List.singleton_sublist.2 hm).cons_cons o[i]).trans (List.sublist_append_right _ _)
  have h2 := (hsub.filter (sm o[i])).length_le
  have hii : sm o[i] o[i] = true := sm_iff.2 ⟨rfl, rfl⟩
  have hij2 : sm o[i] o[j] = true := sm_iff.2 ⟨hsm.1, hsm.2⟩
  rw [List.filter_cons, if_pos hii, List.filter_cons, if_pos hij2] at h2
  have := hno o[i]
  simp at h2
  omega
theorem valid_rev {R : Int} {l o : List E} (h : Valid R 0 l) (hs : SrtE o ∧ Stb (l.map flp) o) : Valid R 0 o := by
  have hlen := stb_len hs.2
  rw [List.length_map] at hlen
  refine ⟨h.r, h.n, h.s, by have := h.len; omega, fun e he => ?_, srt_asc (l := l.map flp) ?_ hs.1 hs.2⟩
  · obtain ⟨x, hx, rfl⟩ := List.mem_map.1 (hs.2.mem.1 he)
    have := alw_cases.1 (h.al x hx)
    refine alw_cases.2 ⟨this.2.1, this.1, fun e => this.2.2.1 e.symm, fun e => this.2.2.2.1 ⟨e.2, e.1⟩, ?_⟩
    have hc := this.2.2.2.2
    unfold costOK at hc ⊢
    have h1 : ¬ R ≤ x.1 := by omega
    have h2 : ¬ R ≤ (flp x).1 := by show ¬ R ≤ x.2.1; omega
    rw [if_neg h1] at hc
    rw [if_neg h2]
    exact hc
  · rw [List.pairwise_map]
    exact h.asc.imp fun {a b} hab he => by
      rw [bef_iff] at hab
      have h1 : a.2.1 = b.2.1 := he.1
      have h2 : a.1 = b.1 := he.2
      omega
/-- reversing twice -/
theorem rev_rev {R : Int} {l o o2 : List E} (h : Valid R 0 l) (hs : SrtE o ∧ Stb (l.map flp) o) (hs2 : SrtE o2 ∧ Stb (o.map flp) o2) : o2 = l := by
  have h1 := stb_flp hs.2
  rw [map_flp_flp] at h1
  exact turned_eq ⟨hs2.1, h1.trans hs2.2⟩ ⟨asc_srt h.asc, Stb.refl _⟩
theorem keeps_walk (R N : Int) (l : List E) (s : Value) (a b : Int) (w : World) (hR : I64 R) (hN : I64 N) (hl : Fits l) (hr : Rd3 w s l) (hF : FitT l) (ha : I64 a) (hb : I64 b) :
    Calls Try.prog 9 #[.agg #[.int .i64 R, .int .i64 N, s], .int .i64 a, .int .i64 b] w fun e w' => e = .returned (.bool true) ∧ Below w.heap.size w w' := by
  have H17 : Hid (∀ l s W, Rd3 W s l → Calls Try.prog 17 #[.agg #[.int .i64 R, .int .i64 N, s]] W fun e w' => e = .returned (.int .i64 (chk R N l)) ∧ Below W.heap.size W w') := fun l s W h => check_any R N s l W hR hN h
  have H28 : Hid (∀ l s W, Fits l → Rd3 W s l → Calls Try.prog 28 #[.agg #[.int .i64 R, .int .i64 N, s]] W fun e w' => ∃ s o, e = .returned (.agg #[.int .i64 R, .int .i64 N, s]) ∧ Rd3 w' s o ∧ (SrtE o ∧ Stb (l.map flp) o) ∧ Below W.heap.size W w') := fun l s W h1 h2 => (rev_any R N l s W h1 h2).mono fun e w' ⟨s, o, h1, h2, h3, h4⟩ => ⟨s, o, h1, h2.rd, h3, h4⟩
  have H30 : Hid (∀ s W, Rd3 W s l → Calls Try.prog 30 #[.agg #[.int .i64 R, .int .i64 N, s], .int .i64 a] W fun e w' => ∃ s, e = .returned (.agg #[.int .i64 R, .int .i64 N, s]) ∧ Rd3 w' s (notQ (woQ a) l) ∧ Below W.heap.size W w') := fun s W hr => (without_any R N a l s W hl hr).mono fun e w' ⟨s, h1, h2, h3⟩ => ⟨s, h1, h2.rd, h3⟩
  have H32 : Hid (∀ s W, Rd3 W s l → Calls Try.prog 32 #[.agg #[.int .i64 R, .int .i64 N, s], .int .i64 a, .int .i64 b] W fun e w' => ∃ s, e = .returned (.agg #[.int .i64 R, .int .i64 N, s]) ∧ Rd3 w' s (notQ (cutQ a b) l) ∧ Below W.heap.size W w') := fun s W hr => (cut_any R N a b l s W hl hr).mono fun e w' ⟨s, h1, h2, h3⟩ => ⟨s, h1, h2.rd, h3⟩
  have H27 : Hid (∀ (l : List E) s u W, Rd3 W s l → Rd3 W u l → Calls Try.prog 27 #[.agg #[.int .i64 R, .int .i64 N, s], .agg #[.int .i64 R, .int .i64 N, u]] W fun e w' => e = .returned (.bool true) ∧ Below W.heap.size W w') := fun l s u W h1 h2 => same27_any R N l s u W h1 h2
  have HLN := Lib.hid hl
  have HR := Lib.hid hr
  obtain ⟨ad, cap, rfl⟩ := rd3_slice hr
  obtain ⟨L, hL⟩ : ∃ L, l.length = L := ⟨_, rfl⟩
  rw [hL] at HR ⊢
  clear hr hF hR hN hl ha hb hL
  have hk0 : (w.alloc (.cells #[.int .i64 R, .int .i64 N, .slice ad L cap] 24)).cell? ⟨w.heap.size, 0, none⟩ = some (.int .i64 R) ∧ (w.alloc (.cells #[.int .i64 R, .int .i64 N, .slice ad L cap] 24)).cell? ⟨w.heap.size, 1, none⟩ = some (.int .i64 N) ∧ (w.alloc (.cells #[.int .i64 R, .int .i64 N, .slice ad L cap] 24)).cell? ⟨w.heap.size, 2, none⟩ = some (.slice ad L cap) ∧ Below w.heap.size w (w.alloc (.cells #[.int .i64 R, .int .i64 N, .slice ad L cap] 24)) := ⟨by simp, by simp, by simp, below_alloc _ _⟩
  by_cases hv : chk R N l = 0
  · have HV := Lib.hid (chk_iff.1 hv)
    go_enter Try.func9, Try.ntmps9
    go_wp2_with fail
    go_at_call 17
    refine (H17.out l _ _ (HR.out.below hk0.2.2.2)).mono ?_
    rintro e w1 ⟨rfl, hb⟩
    have hk1 := holdG_below hk0 hb
    rw [hv]
    clear hv hb hk0
    obtain ⟨g0, g1, g2, g3⟩ := hk1
    have HK1 : Hid (_ ∧ _ ∧ _ ∧ _) := ⟨g0, g1, g2, g3⟩
    clear g3
    go_wp2_with fail
    go_at_call 30
    refine (H30.out _ _ (HR.out.below HK1.out.2.2.2)).mono ?_
    rintro e w2 ⟨v2, rfl, hrd2, hb⟩
    have hk2 := holdG_below HK1.out hb
    have HRD2 := Lib.hid hrd2
    obtain ⟨ad2, cap2, rfl⟩ := rd3_slice hrd2
    generalize (notQ (woQ a) l).length = M2 at *
    clear hb hrd2 g0 g1 g2 HK1
    go_wp2_with fail
    go_at_call 17
    refine (H17.out _ _ _ HRD2.out).mono ?_
    rintro e w3 ⟨rfl, hb⟩
    have hk3 := holdG_below hk2 hb
    rw [chk_iff.2 (valid_not (woQ a) HV.out)]
    clear hb hk2 HRD2
    obtain ⟨g0, g1, g2, g3⟩ := hk3
    have HK3 : Hid (_ ∧ _ ∧ _ ∧ _) := ⟨g0, g1, g2, g3⟩
    clear g3
    go_wp2_with fail
    go_at_call 32
    refine (H32.out _ _ (HR.out.below HK3.out.2.2.2)).mono ?_
    rintro e w4 ⟨v4, rfl, hrd4, hb⟩
    have hk4 := holdG_below HK3.out hb
    have HRD4 := Lib.hid hrd4
    obtain ⟨ad4, cap4, rfl⟩ := rd3_slice hrd4
    generalize (notQ (cutQ a b) l).length = M4 at *
    clear hb hrd4 g0 g1 g2 HK3
    go_wp2_with fail
    go_at_call 17
    refine (H17.out _ _ _ HRD4.out).mono ?_
    rintro e w5 ⟨rfl, hb⟩
    have hk5 := holdG_below hk4 hb
    rw [chk_iff.2 (valid_not (cutQ a b) HV.out)]
    clear hb hk4 HRD4
    obtain ⟨g0, g1, g2, g3⟩ := hk5
    have HK5 : Hid (_ ∧ _ ∧ _ ∧ _) := ⟨g0, g1, g2, g3⟩
    clear g3
    by_cases hn : N = 0
    · subst hn
      go_wp2_with fail
      go_at_call 28
      refine (H28.out l _ _ HLN.out (HR.out.below HK5.out.2.2.2)).mono ?_
      rintro e w6 ⟨v6, o6, rfl, hrd6, hs6, hb⟩
      have hk6 := holdG_below HK5.out hb
      have HS6 := Lib.hid (And.intro hrd6 hs6)
      obtain ⟨ad6, cap6, rfl⟩ := rd3_slice hrd6
      have HVO := Lib.hid (valid_rev HV.out hs6)
      have HF6 : Hid (Fits o6) := by have := HVO.out.len; show Fits _; unfold Fits; omega
      have HCO : Hid (∀ s W, Rd3 W s o6 → Calls Try.prog 17 #[.agg #[.int .i64 R, .int .i64 0, s]] W fun e w' => e = .returned (.int .i64 0) ∧ Below W.heap.size W w') := fun s W h => by have := H17.out o6 s W h; rwa [chk_iff.2 HVO.out] at this
      generalize o6.length = M6 at *
      clear hb hrd6 hs6 g0 g1 g2 HK5
      have HK6 := Lib.hid hk6
      have HX7 : Hid (Below w6.heap.size w6 (w6.alloc (.cells #[.int .i64 R, .int .i64 0, .slice ad6 M6 cap6] 24)) ∧ (w6.alloc (.cells #[.int .i64 R, .int .i64 0, .slice ad6 M6 cap6] 24)).heap[w6.heap.size]? = some (.cells #[.int .i64 R, .int .i64 0, .slice ad6 M6 cap6] 24 (0, 0))) := ⟨below_alloc _ _, heap_alloc_new _ _⟩
      clear hk6
      go_wp2_with fail
      generalize w6.alloc (.cells #[.int .i64 R, .int .i64 0, .slice ad6 M6 cap6] 24) = w7 at *
      have hkk : w7.cell? ⟨w.heap.size, 0, none⟩ = some (.int .i64 R) ∧ w7.cell? ⟨w.heap.size, 1, none⟩ = some (.int .i64 0) ∧ w7.cell? ⟨w.heap.size, 2, none⟩ = some (.slice ad L cap) ∧ w7.cell? ⟨w6.heap.size, 0, none⟩ = some (.int .i64 R) ∧ w7.cell? ⟨w6.heap.size, 1, none⟩ = some (.int .i64 0) ∧ w7.cell? ⟨w6.heap.size, 2, none⟩ = some (.slice ad6 M6 cap6) ∧ Below w.heap.size w w7 ∧ Below w6.heap.size w6 w7 :=
        ⟨carry HX7.out.1 HK6.out.1, carry HX7.out.1 HK6.out.2.1, carry HX7.out.1 HK6.out.2.2.1, cell_of HX7.out.2 rfl, cell_of HX7.out.2 rfl, cell_of HX7.out.2 rfl, below_then HK6.out.2.2.2 HX7.out.1, HX7.out.1⟩
      have HKB : Hid (∀ W W1, (W.cell? ⟨w.heap.size, 0, none⟩ = some (.int .i64 R) ∧ W.cell? ⟨w.heap.size, 1, none⟩ = some (.int .i64 0) ∧ W.cell? ⟨w.heap.size, 2, none⟩ = some (.slice ad L cap) ∧ W.cell? ⟨w6.heap.size, 0, none⟩ = some (.int .i64 R) ∧ W.cell? ⟨w6.heap.size, 1, none⟩ = some (.int .i64 0) ∧ W.cell? ⟨w6.heap.size, 2, none⟩ = some (.slice ad6 M6 cap6) ∧ Below w.heap.size w W ∧ Below w6.heap.size w6 W) → Below W.heap.size W W1 → W1.cell? ⟨w.heap.size, 0, none⟩ = some (.int .i64 R) ∧ W1.cell? ⟨w.heap.size, 1, none⟩ = some (.int .i64 0) ∧ W1.cell? ⟨w.heap.size, 2, none⟩ = some (.slice ad L cap) ∧ W1.cell? ⟨w6.heap.size, 0, none⟩ = some (.int .i64 R) ∧ W1.cell? ⟨w6.heap.size, 1, none⟩ = some (.int .i64 0) ∧ W1.cell? ⟨w6.heap.size, 2, none⟩ = some (.slice ad6 M6 cap6) ∧ Below w.heap.size w W1 ∧ Below w6.heap.size w6 W1) :=
        fun W W1 h hb => ⟨carry hb h.1, carry hb h.2.1, carry hb h.2.2.1, carry hb h.2.2.2.1, carry hb h.2.2.2.2.1, carry hb h.2.2.2.2.2.1, below_then h.2.2.2.2.2.2.1 hb, below_then h.2.2.2.2.2.2.2 hb⟩
      clear HX7 HK6
      go_region_held3 (fun W => W.cell? ⟨w.heap.size, 0, none⟩ = some (.int .i64 R) ∧ W.cell? ⟨w.heap.size, 1, none⟩ = some (.int .i64 0) ∧ W.cell? ⟨w.heap.size, 2, none⟩ = some (.slice ad L cap) ∧ W.cell? ⟨w6.heap.size, 0, none⟩ = some (.int .i64 R) ∧ W.cell? ⟨w6.heap.size, 1, none⟩ = some (.int .i64 0) ∧ W.cell? ⟨w6.heap.size, 2, none⟩ = some (.slice ad6 M6 cap6) ∧ Below w.heap.size w W ∧ Below w6.heap.size w6 W)
        (first | exact HKB.out _ _ hkk (Below.refl _ w7).drew | assumption)
        (first
          | (go_at_call 17; refine (HCO.out _ _ (HS6.out.1.below (HKB.out _ _ hkk (Below.refl _ w7).drew).2.2.2.2.2.2.2)).mono ?_; rintro e w8 ⟨rfl, hb⟩; have hk8 := HKB.out _ _ (HKB.out _ _ hkk (Below.refl _ w7).drew) hb; clear hb)
          | (go_at_call 28; refine (H28.out o6 _ _ HF6.out (HS6.out.1.below hk8.2.2.2.2.2.2.2)).mono ?_; rintro e w9 ⟨v9, o9, rfl, hrd9, hs9, hb⟩; have hk9 := HKB.out _ _ hk8 hb; have HR9 : Hid (Rd3 w9 v9 l) := (rev_rev HV.out HS6.out.2 hs9) ▸ hrd9; clear hb hrd9 hs9)
          | (go_at_call 27; refine (H27.out l _ _ _ HR9.out (HR.out.below hk9.2.2.2.2.2.2.1)).mono ?_; rintro e w10 ⟨rfl, hb⟩; have hk10 := HKB.out _ _ hk9 hb; clear hb)
          | (go_at_call 19; refine (lives_any _).mono ?_; rintro e w11 ⟨rfl, hb⟩; have hk11 := HKB.out _ _ hk10 hb; clear hb))
      all_goals go_wp2
      all_goals go_ret
      all_goals exact ⟨by simp, hk11.2.2.2.2.2.2.1⟩
    · have hn1 : (N == 0) = false := by simpa using hn
      have hn2 : (N != 0) = true := by simpa using hn
      clear hn
      go_wp2_with (go_at_call 19; refine (lives_any _).mono ?_; rintro e w6 ⟨rfl, hb⟩; have HB6 := Lib.hid (below_then HK5.out.2.2.2 hb); clear hb)
      go_ret
      exact ⟨rfl, HB6.out⟩
  · have HH : Hid (∀ s W, Rd3 W s l → ∃ q, q ≠ 0 ∧ Calls Try.prog 17 #[.agg #[.int .i64 R, .int .i64 N, s]] W fun e w' => e = .returned (.int .i64 q) ∧ Below W.heap.size W w') := fun s W h => ⟨_, hv, H17.out l s W h⟩
    obtain ⟨q, hq, hc⟩ := HH.out _ _ (HR.out.below hk0.2.2.2)
    have HC := Lib.hid hc
    have hq1 : (q == 0) = false := by simpa using hq
    have hq2 : (q != 0) = true := by simpa using hq
    have HB0 := Lib.hid hk0.2.2.2
    clear hc hq hv hk0
    go_enter Try.func9, Try.ntmps9
    go_wp2_with (first
      | (go_at_call 17; refine HC.out.mono ?_; rintro e w1 ⟨rfl, hb⟩; have HB1 := Lib.hid (below_then HB0.out hb); clear hb)
      | (go_at_call 19; refine (lives_any _).mono ?_; rintro e w2 ⟨rfl, hb⟩; have HB2 := Lib.hid (below_then HB1.out hb); clear hb))
    go_ret
    exact ⟨rfl, HB2.out⟩
end Go.Proofs.Ytiodpgannelgpaa
