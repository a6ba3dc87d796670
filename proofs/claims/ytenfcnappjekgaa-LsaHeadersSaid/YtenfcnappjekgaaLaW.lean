/-
  The walk of lives.
-/
import Derived.Test.YtenfcnappjekgaaLaV
namespace Go.Proofs.Ytenfcnappjekgaa
open Go.RowKit
set_option linter.unusedSimpArgs false
set_option linter.unusedVariables false
set_option maxHeartbeats 4000000
set_option maxRecDepth 100000

theorem lives_any (w : World) : Calls Try.prog 15 #[] w fun e w' => e = .returned (.bool true) ∧ Below w.heap.size w w' := by
  have H1 := Lib.hid (sample_any w)
  have H2 : Hid (∀ W, Calls Try.prog 22 #[lsV (smp 0).z false false (.slice none 0 0) (.slice none 0 0) 7 false 0 0] W fun e w' => e = .returned (.tuple #[lsV (smp 1238).z false false (.slice none 0 0) (.slice none 0 0) 7 false 0 0, .int .i64 0]) ∧ Below W.heap.size W w') := smp_seal
  have H3 : Hid (∀ W, Calls Try.prog 25 #[lsV (smp 1238).z false false (.slice none 0 0) (.slice none 0 0) 7 false 0 0] W fun e w' => ∃ a c, e = .returned (.tuple #[.slice a 24 c, .int .i64 0]) ∧ Below W.heap.size W w') := smp_encode
  have ex1 : cmpH ⟨1, 1, 0, 1, 4, 100, 0⟩ ⟨1, 1, 0, 1, 3, 100, 0⟩ = 1 := by decide
  have ex2 : cmpH ⟨1, 1, 0, 1, 4, 100, 0⟩ ⟨1, 1, 0, 1, 4, 1100, 0⟩ = 1 := by decide
  have ex3 : cmpH ⟨1, 1, 0, 1, 4, 100, 0⟩ ⟨1, 1, 0, 1, 4, 1000, 0⟩ = 0 := by decide
  have hk : ∀ s g : Int, I64 s → I64 g → HdOk ⟨1, 1, 0, 1, s, g, 0⟩ := fun s g h1 h2 => ⟨(by decide : I64 1), (by decide : 1 < 4294967296), (by decide : I64 0), (by decide : 1 < 4294967296), h1, h2, (by decide : I64 0)⟩
  have C1 : Hid (∀ W, Calls Try.prog 20 #[hdV ⟨1, 1, 0, 1, 4, 100, 0⟩, hdV ⟨1, 1, 0, 1, 3, 100, 0⟩] W fun e w' => e = .returned (.int .i64 1) ∧ Below W.heap.size W w') := fun W => ex1 ▸ compare_any _ _ (hk _ _ (by decide) (by decide)) (hk _ _ (by decide) (by decide)) W
  have C2 : Hid (∀ W, Calls Try.prog 20 #[hdV ⟨1, 1, 0, 1, 4, 100, 0⟩, hdV ⟨1, 1, 0, 1, 4, 1100, 0⟩] W fun e w' => e = .returned (.int .i64 1) ∧ Below W.heap.size W w') := fun W => ex2 ▸ compare_any _ _ (hk _ _ (by decide) (by decide)) (hk _ _ (by decide) (by decide)) W
  have C3 : Hid (∀ W, Calls Try.prog 20 #[hdV ⟨1, 1, 0, 1, 4, 100, 0⟩, hdV ⟨1, 1, 0, 1, 4, 1000, 0⟩] W fun e w' => e = .returned (.int .i64 0) ∧ Below W.heap.size W w') := fun W => ex3 ▸ compare_any _ _ (hk _ _ (by decide) (by decide)) (hk _ _ (by decide) (by decide)) W
  clear ex1 ex2 ex3 hk
  go_enter Try.func15, Try.ntmps15
  go_wp2_with fail
  go_at_call 48
  refine H1.out.mono ?_
  rintro e w1 ⟨rfl, h1⟩
  have HB1 := Lib.hid h1
  clear h1
  go_wp2_with fail
  go_at_call 22
  refine (H2.out _).mono ?_
  rintro e w2 ⟨rfl, h2⟩
  have HB2 := Lib.hid (below_then HB1.out h2)
  clear h2
  go_wp2_with fail
  go_at_call 25
  refine (H3.out _).mono ?_
  rintro e w3 ⟨a3, c3, rfl, h3⟩
  have HB3 := Lib.hid (below_then HB2.out (below_then (below_alloc _ _) h3))
  clear h3
  have BW : Hid (Below w.heap.size w ((((w3.alloc (.cells #[.int .i64 1, .int .u32 1, .int .i64 0, .int .u32 1, .int .i64 4, .int .i64 100, .int .i64 0] 24)).alloc (.cells #[.int .i64 1, .int .u32 1, .int .i64 0, .int .u32 1, .int .i64 3, .int .i64 100, .int .i64 0] 24)).alloc (.cells #[.int .i64 1, .int .u32 1, .int .i64 0, .int .u32 1, .int .i64 4, .int .i64 1100, .int .i64 0] 24)).alloc (.cells #[.int .i64 1, .int .u32 1, .int .i64 0, .int .u32 1, .int .i64 4, .int .i64 1000, .int .i64 0] 24))) := below_then HB3.out (below_then (below2 _ _ _) (below2 _ _ _))
  have SW : Hid (((((w3.alloc (.cells #[.int .i64 1, .int .u32 1, .int .i64 0, .int .u32 1, .int .i64 4, .int .i64 100, .int .i64 0] 24)).alloc (.cells #[.int .i64 1, .int .u32 1, .int .i64 0, .int .u32 1, .int .i64 3, .int .i64 100, .int .i64 0] 24)).alloc (.cells #[.int .i64 1, .int .u32 1, .int .i64 0, .int .u32 1, .int .i64 4, .int .i64 1100, .int .i64 0] 24)).alloc (.cells #[.int .i64 1, .int .u32 1, .int .i64 0, .int .u32 1, .int .i64 4, .int .i64 1000, .int .i64 0] 24)).heap.size = w3.heap.size + 1 + 1 + 1 + 1) := by unfold Hid; simp
  have KW : Hid (∀ W', Below ((((w3.alloc (.cells #[.int .i64 1, .int .u32 1, .int .i64 0, .int .u32 1, .int .i64 4, .int .i64 100, .int .i64 0] 24)).alloc (.cells #[.int .i64 1, .int .u32 1, .int .i64 0, .int .u32 1, .int .i64 3, .int .i64 100, .int .i64 0] 24)).alloc (.cells #[.int .i64 1, .int .u32 1, .int .i64 0, .int .u32 1, .int .i64 4, .int .i64 1100, .int .i64 0] 24)).alloc (.cells #[.int .i64 1, .int .u32 1, .int .i64 0, .int .u32 1, .int .i64 4, .int .i64 1000, .int .i64 0] 24)).heap.size ((((w3.alloc (.cells #[.int .i64 1, .int .u32 1, .int .i64 0, .int .u32 1, .int .i64 4, .int .i64 100, .int .i64 0] 24)).alloc (.cells #[.int .i64 1, .int .u32 1, .int .i64 0, .int .u32 1, .int .i64 3, .int .i64 100, .int .i64 0] 24)).alloc (.cells #[.int .i64 1, .int .u32 1, .int .i64 0, .int .u32 1, .int .i64 4, .int .i64 1100, .int .i64 0] 24)).alloc (.cells #[.int .i64 1, .int .u32 1, .int .i64 0, .int .u32 1, .int .i64 4, .int .i64 1000, .int .i64 0] 24)) W' → ∀ b o, b < w3.heap.size + 1 + 1 + 1 + 1 → W'.cell? ⟨b, o, none⟩ = ((((w3.alloc (.cells #[.int .i64 1, .int .u32 1, .int .i64 0, .int .u32 1, .int .i64 4, .int .i64 100, .int .i64 0] 24)).alloc (.cells #[.int .i64 1, .int .u32 1, .int .i64 0, .int .u32 1, .int .i64 3, .int .i64 100, .int .i64 0] 24)).alloc (.cells #[.int .i64 1, .int .u32 1, .int .i64 0, .int .u32 1, .int .i64 4, .int .i64 1100, .int .i64 0] 24)).alloc (.cells #[.int .i64 1, .int .u32 1, .int .i64 0, .int .u32 1, .int .i64 4, .int .i64 1000, .int .i64 0] 24)).cell? ⟨b, o, none⟩) := fun W' h b o hb => h.cell (p := ⟨b, o, none⟩) (by rw [SW.out]; exact hb)
  go_wp2_with fail
  go_at_call 20
  refine (C1.out _).mono ?_
  rintro e w4 ⟨rfl, h4⟩
  have HB4 := Lib.hid h4
  have kc4 := KW.out _ h4
  clear h4
  go_wp2_with fail
  go_at_call 20
  refine (C2.out _).mono ?_
  rintro e w5 ⟨rfl, h5⟩
  have HB5 := Lib.hid (HB4.out.trans (h5.mono HB4.out.size))
  have kc5 := KW.out _ HB5.out
  clear h5 kc4
  go_wp2_with fail
  go_at_call 20
  refine (C3.out _).mono ?_
  rintro e w6 ⟨rfl, h6⟩
  have HB6 := Lib.hid (HB5.out.trans (h6.mono HB5.out.size))
  clear h6 kc5
  go_wp2
  go_ret
  exact ⟨rfl, below_then BW.out HB6.out⟩
end Go.Proofs.Ytenfcnappjekgaa
