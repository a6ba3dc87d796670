/-
  The walk of the law on Reverse, Without and Cut.
-/
import Derived.Test.YtiodpgannelgpaaGrRv
import Derived.Test.YtiodpgannelgpaaGrP
import Derived.Test.YtiodpgannelgpaaGrL
namespace Go.Proofs.Ytiodpgannelgpaa
open Go.RowKit GM Go.Sort
set_option linter.unusedSimpArgs false
set_option linter.unusedVariables false
set_option maxHeartbeats 1500000
set_option maxRecDepth 100000

theorem turned_eq {l o o' : List E} (h : SrtE o ∧ Stb l o) (k : SrtE o' ∧ Stb l o') : o = o' := srt_unique h.1 k.1 fun c => (k.2 c).trans (h.2 c).symm
theorem turns_walk (R N : Int) (l : List E) (s : Value) (a b : Int) (w : World) (hR : I64 R) (hN : I64 N) (hl : Fits l) (hr : Rd3 w s l) (hF : FitT l) (ha : I64 a) (hb : I64 b) :
    Calls Try.prog 6 #[.agg #[.int .i64 R, .int .i64 N, s], .int .i64 a, .int .i64 b] w fun e w' => e = .returned (.bool true) ∧ Below w.heap.size w w' := by
  have H28 : Hid (∀ W, Below w.heap.size w W → Calls Try.prog 28 #[.agg #[.int .i64 R, .int .i64 N, s]] W fun e w' => ∃ s o, e = .returned (.agg #[.int .i64 R, .int .i64 N, s]) ∧ Rd3 w' s o ∧ (SrtE o ∧ Stb (l.map flp) o) ∧ Below W.heap.size W w') := fun W hW => (rev_any R N l s W hl (hr.below hW)).mono fun e w' ⟨s, o, h1, h2, h3, h4⟩ => ⟨s, o, h1, h2.rd, h3, h4⟩
  have H29 : Hid (∀ W, Below w.heap.size w W → Calls Try.prog 29 #[.agg #[.int .i64 R, .int .i64 N, s]] W fun e w' => ∃ s o, e = .returned (.agg #[.int .i64 R, .int .i64 N, s]) ∧ Rd3 w' s o ∧ (SrtE o ∧ Stb (l.map flp) o) ∧ Below W.heap.size W w') := fun W hW => (rrev_any R N l s W hR hN hl (hr.below hW)).mono fun e w' ⟨s, o, h1, h2, h3, h4, h5⟩ => ⟨s, o, h1, h2, ⟨h3, h4⟩, h5⟩
  have H30 : Hid (∀ W, Below w.heap.size w W → Calls Try.prog 30 #[.agg #[.int .i64 R, .int .i64 N, s], .int .i64 a] W fun e w' => ∃ s, e = .returned (.agg #[.int .i64 R, .int .i64 N, s]) ∧ Rd3 w' s (notQ (woQ a) l) ∧ Below W.heap.size W w') := fun W hW => (without_any R N a l s W hl (hr.below hW)).mono fun e w' ⟨s, h1, h2, h3⟩ => ⟨s, h1, h2.rd, h3⟩
  have H31 : Hid (∀ W, Below w.heap.size w W → Calls Try.prog 31 #[.agg #[.int .i64 R, .int .i64 N, s], .int .i64 a] W fun e w' => ∃ s, e = .returned (.agg #[.int .i64 R, .int .i64 N, s]) ∧ Rd3 w' s (notQ (woQ a) l) ∧ Below W.heap.size W w') := fun W hW => rwithout_any R N l a s W hl (hr.below hW)
  have H32 : Hid (∀ W, Below w.heap.size w W → Calls Try.prog 32 #[.agg #[.int .i64 R, .int .i64 N, s], .int .i64 a, .int .i64 b] W fun e w' => ∃ s, e = .returned (.agg #[.int .i64 R, .int .i64 N, s]) ∧ Rd3 w' s (notQ (cutQ a b) l) ∧ Below W.heap.size W w') := fun W hW => (cut_any R N a b l s W hl (hr.below hW)).mono fun e w' ⟨s, h1, h2, h3⟩ => ⟨s, h1, h2.rd, h3⟩
  have H33 : Hid (∀ W, Below w.heap.size w W → Calls Try.prog 33 #[.agg #[.int .i64 R, .int .i64 N, s], .int .i64 a, .int .i64 b] W fun e w' => ∃ s, e = .returned (.agg #[.int .i64 R, .int .i64 N, s]) ∧ Rd3 w' s (notQ (cutQ a b) l) ∧ Below W.heap.size W w') := fun W hW => rcut_any R N l a b s W hl (hr.below hW)
  have H27 : Hid (∀ (l : List E) s u W, Rd3 W s l → Rd3 W u l → Calls Try.prog 27 #[.agg #[.int .i64 R, .int .i64 N, s], .agg #[.int .i64 R, .int .i64 N, u]] W fun e w' => e = .returned (.bool true) ∧ Below W.heap.size W w') := fun l s u W h1 h2 => same27_any R N l s u W h1 h2
  obtain ⟨ad, cap, rfl⟩ := rd3_slice hr
  clear hr hF hR hN hl ha hb
  go_enter Try.func6, Try.ntmps6
  go_wp2_with fail
  go_region_held3 (fun W => W.cell? ⟨w.heap.size, 0, none⟩ = some (.int .i64 R) ∧ W.cell? ⟨w.heap.size, 1, none⟩ = some (.int .i64 N) ∧ W.cell? ⟨w.heap.size, 2, none⟩ = some (.slice ad l.length cap) ∧ Below w.heap.size w W)
    (first | exact ⟨by simp, by simp, by simp, (below_alloc _ _).drew⟩ | assumption)
    (first
      | (go_at_call 28; refine (H28.out _ (by first | exact hk.2.2.2 | exact (below_alloc _ _).drew | exact below_alloc _ _ | exact (‹_ ∧ _› : _).2.2.2)).mono ?_; rintro e w1 ⟨v1, o1, rfl, hrd1, hs1, hb⟩; have hk1 := holdG_below ‹_› hb; have HR1 := Lib.hid (And.intro hrd1 hs1); clear hb hrd1 hs1)
      | (go_at_call 29; refine (H29.out _ hk1.2.2.2).mono ?_; rintro e w2 ⟨v2, o2, rfl, hrd2, hs2, hb⟩; have hk2 := holdG_below hk1 hb; have HR2 : Hid (Rd3 w2 v1 o2 ∧ Rd3 w2 v2 o2) := ⟨turned_eq HR1.out.2 hs2 ▸ HR1.out.1.below hb, hrd2⟩; clear hb hrd2 hs2 HR1)
      | (go_at_call 27; refine (H27.out o2 _ _ _ HR2.out.1 HR2.out.2).mono ?_; rintro e w3 ⟨rfl, hb⟩; have hk3 := holdG_below hk2 hb; clear hb HR2 hk1 hk2)
      | (go_at_call 30; refine (H30.out _ hk3.2.2.2).mono ?_; rintro e w4 ⟨v4, rfl, hrd4, hb⟩; have hk4 := holdG_below hk3 hb; have HR4 := Lib.hid hrd4; clear hb hrd4)
      | (go_at_call 31; refine (H31.out _ hk4.2.2.2).mono ?_; rintro e w5 ⟨v5, rfl, hrd5, hb⟩; have hk5 := holdG_below hk4 hb; have HR5 := Lib.hid (And.intro (HR4.out.below hb) hrd5); clear hb hrd5 HR4)
      | (go_at_call 27; refine (H27.out _ _ _ _ HR5.out.1 HR5.out.2).mono ?_; rintro e w6 ⟨rfl, hb⟩; have hk6 := holdG_below hk5 hb; clear hb HR5 hk3 hk4 hk5)
      | (go_at_call 32; refine (H32.out _ hk6.2.2.2).mono ?_; rintro e w7 ⟨v7, rfl, hrd7, hb⟩; have hk7 := holdG_below hk6 hb; have HR7 := Lib.hid hrd7; clear hb hrd7)
      | (go_at_call 33; refine (H33.out _ hk7.2.2.2).mono ?_; rintro e w8 ⟨v8, rfl, hrd8, hb⟩; have hk8 := holdG_below hk7 hb; have HR8 := Lib.hid (And.intro (HR7.out.below hb) hrd8); clear hb hrd8 HR7)
      | (go_at_call 27; refine (H27.out _ _ _ _ HR8.out.1 HR8.out.2).mono ?_; rintro e w9 ⟨rfl, hb⟩; have hk9 := holdG_below hk8 hb; clear hb HR8 hk6 hk7 hk8)
      | (go_at_call 19; refine (lives_any _).mono ?_; rintro e w10 ⟨rfl, hb⟩; have hk10 := holdG_below hk9 hb; clear hb))
  all_goals go_wp2
  all_goals go_ret
  all_goals exact ⟨by simp, hk10.2.2.2⟩
end Go.Proofs.Ytiodpgannelgpaa
