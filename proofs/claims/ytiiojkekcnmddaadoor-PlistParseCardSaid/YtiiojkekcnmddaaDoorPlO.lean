/-
  The walk of the examples.
-/
import Derived.Test.YtiiojkekcnmddaaDoorPlN
import Derived.BigQuiet
namespace Go.Proofs.YtiiojkekcnmddaaDoor
open Go.RowKit
set_option linter.unusedSimpArgs false
set_option linter.unusedVariables false
set_option maxHeartbeats 2000000
set_option maxRecDepth 100000

theorem rdU_two (w : World) (r q : Ru) (hr : RuOk r) (hq : RuOk q) : RdU (w.alloc (.cells #[.bool r.1, .int .u32 (r.2.1.1 : Int), .int .i64 r.2.1.2, .int .i64 r.2.2.1, .int .i64 r.2.2.2, .bool q.1, .int .u32 (q.2.1.1 : Int), .int .i64 q.2.1.2, .int .i64 q.2.2.1, .int .i64 q.2.2.2] 27)) (.slice (some ⟨w.heap.size, 0, none⟩) 2 2) [r, q] := by
  have hx := heap_alloc_new w (.cells #[.bool r.1, .int .u32 (r.2.1.1 : Int), .int .i64 r.2.1.2, .int .i64 r.2.2.1, .int .i64 r.2.2.2, .bool q.1, .int .u32 (q.2.1.1 : Int), .int .i64 q.2.1.2, .int .i64 q.2.2.1, .int .i64 q.2.2.2] 27)
  refine ⟨_, _, rfl, ⟨Nat.le_refl _, by decide⟩, ?_, ?_⟩
  · intro y hy
    simp at hy
    rcases hy with rfl | rfl
    · exact hr
    · exact hq
  · intro k y hk
    match k, hk with
    | 0, hk =>
      obtain rfl : r = y := by simpa using hk
      exact ⟨w.heap.size, 0, rfl, by simp, cell_of hx rfl, cell_of hx rfl, cell_of hx rfl, cell_of hx rfl, cell_of hx rfl⟩
    | 1, hk =>
      obtain rfl : q = y := by simpa using hk
      exact ⟨w.heap.size, 0, rfl, by simp, cell_of hx rfl, cell_of hx rfl, cell_of hx rfl, cell_of hx rfl, cell_of hx rfl⟩
    | k + 2, hk => simp at hk
theorem e_par1 (w : World) (hT : Lt w) : Calls Tryd.prog 19 #[.string ⟨#[112, 101, 114, 109, 105, 116, 32, 49, 48, 46, 48, 46, 48, 46, 48, 47, 56, 32, 49, 54, 45, 50, 52]⟩] w fun e w' => e = .returned (.tuple #[.agg #[.bool true, .int .u32 167772160, .int .i64 8, .int .i64 16, .int .i64 24], .int .i64 0]) ∧ Below w.heap.size w w' := by
  have h := parse19_any exS1 (by decide) w hT
  rw [ex_par1] at h
  exact h
theorem e_par2 (w : World) (hT : Lt w) : Calls Tryd.prog 19 #[.string ⟨#[112, 101, 114, 109, 105, 116, 32, 49, 48, 46, 48, 46, 48, 46, 48, 47, 56, 32, 56, 45, 56]⟩] w fun e w' => e = .returned (.tuple #[.agg #[.bool false, .int .u32 0, .int .i64 0, .int .i64 0, .int .i64 0], .int .i64 2]) ∧ Below w.heap.size w w' := by
  have h := parse19_any exS2 (by decide) w hT
  rw [ex_par2] at h
  exact h
theorem e_txt1 (w : World) (hT : Lt w) : Calls Tryd.prog 17 #[.agg #[.bool true, .int .u32 167772160, .int .i64 8, .int .i64 16, .int .i64 24]] w fun e w' => e = .returned (.tuple #[.string ⟨#[112, 101, 114, 109, 105, 116, 32, 49, 48, 46, 48, 46, 48, 46, 48, 47, 56, 32, 49, 54, 45, 50, 52]⟩, .int .i64 0]) ∧ Below w.heap.size w w' := by
  have h := text19_any exR1 ex_ok1 w hT.tab
  rw [ex_tx1] at h
  exact h
theorem e_c5 (w : World) : Calls Tryd.prog 10 #[.agg #[.bool false, .int .u32 0, .int .i64 0, .int .i64 33, .int .i64 33]] w fun e w' => e = .returned (.int .i64 5) ∧ Below w.heap.size w w' := by
  have h := check_any (false, (0, 0), 33, 33) ⟨by decide, by constructor <;> decide, by constructor <;> decide, by constructor <;> decide⟩ w
  rw [ex_c5] at h
  exact h
theorem e_c1 (w : World) : Calls Tryd.prog 10 #[.agg #[.bool false, .int .u32 0, .int .i64 33, .int .i64 0, .int .i64 0]] w fun e w' => e = .returned (.int .i64 1) ∧ Below w.heap.size w w' := by
  have h := check_any (false, (0, 33), 0, 0) ⟨by decide, by constructor <;> decide, by constructor <;> decide, by constructor <;> decide⟩ w
  rw [ex_c1] at h
  exact h
theorem e_m1 (w : World) : Calls Tryd.prog 13 #[.agg #[.bool true, .int .u32 167772160, .int .i64 8, .int .i64 16, .int .i64 24], .agg #[.int .u32 167837696, .int .i64 16]] w fun e w' => e = .returned (.bool true) ∧ Below w.heap.size w w' := by
  have h := match_any exR1 (167837696, 16) ex_ok1 (by decide) (by constructor <;> decide) w
  rw [ex_m1] at h
  exact h
theorem e_m2 (w : World) : Calls Tryd.prog 13 #[.agg #[.bool true, .int .u32 167772160, .int .i64 8, .int .i64 16, .int .i64 24], .agg #[.int .u32 167772160, .int .i64 8]] w fun e w' => e = .returned (.bool false) ∧ Below w.heap.size w w' := by
  have h := match_any exR1 (167772160, 8) ex_ok1 (by decide) (by constructor <;> decide) w
  rw [ex_m2] at h
  exact h
theorem e_p1 (w : World) : Calls Tryd.prog 15 #[.slice (some ⟨w.heap.size, 0, none⟩) 1 1, .agg #[.int .u32 167837696, .int .i64 16]] (w.alloc (.cells #[.bool true, .int .u32 167772160, .int .i64 8, .int .i64 16, .int .i64 24] 27)) fun e w' => e = .returned (.bool true) ∧ Below (w.alloc (.cells #[.bool true, .int .u32 167772160, .int .i64 8, .int .i64 16, .int .i64 24] 27)).heap.size (w.alloc (.cells #[.bool true, .int .u32 167772160, .int .i64 8, .int .i64 16, .int .i64 24] 27)) w' := by
  have h := permits_any [exR1] (167837696, 16) _ _ (rdU_one w exR1 ex_ok1) (by decide) (by constructor <;> decide)
  rw [ex_p1] at h
  exact h
theorem e_p2 (w : World) : Calls Tryd.prog 15 #[.slice none 0 0, .agg #[.int .u32 167837696, .int .i64 16]] w fun e w' => e = .returned (.bool false) ∧ Below w.heap.size w w' := by
  have h := permits_any [] (167837696, 16) _ w (rdU_nil w) (by decide) (by constructor <;> decide)
  rw [ex_p2] at h
  exact h
theorem trim_len {w : World} {rs : List Ru} {n : Nat} {v : Value} (h : (trimR rs).length = n) (H : Calls Tryd.prog 21 #[v] w fun e w' => ∃ v', e = .returned v' ∧ OwnU w.heap.size w' v' (trimR rs) ∧ Below w.heap.size w w') :
    Calls Tryd.prog 21 #[v] w fun e w' => ∃ ad cap, e = .returned (.slice ad n cap) ∧ Below w.heap.size w w' := by
  refine H.mono ?_
  rintro e w' ⟨v', rfl, ho, hb⟩
  obtain ⟨ad, cap, e⟩ := ho.rd.form
  exact ⟨ad, cap, by rw [e, h], hb⟩
theorem e_t1 (w : World) : Calls Tryd.prog 21 #[.slice (some ⟨w.heap.size, 0, none⟩) 2 2] (w.alloc (.cells #[.bool true, .int .u32 0, .int .i64 0, .int .i64 0, .int .i64 32, .bool true, .int .u32 167772160, .int .i64 8, .int .i64 16, .int .i64 24] 27)) fun e w' => ∃ ad cap, e = .returned (.slice ad 1 cap) ∧ Below (w.alloc (.cells #[.bool true, .int .u32 0, .int .i64 0, .int .i64 0, .int .i64 32, .bool true, .int .u32 167772160, .int .i64 8, .int .i64 16, .int .i64 24] 27)).heap.size (w.alloc (.cells #[.bool true, .int .u32 0, .int .i64 0, .int .i64 0, .int .i64 32, .bool true, .int .u32 167772160, .int .i64 8, .int .i64 16, .int .i64 24] 27)) w' :=
  trim_len ex_t1 (trim_any [exAll, exR1] _ _ (rdU_two w exAll exR1 ex_okA ex_ok1) (by decide))
theorem e_t2 (w : World) : Calls Tryd.prog 21 #[.slice (some ⟨w.heap.size, 0, none⟩) 2 2] (w.alloc (.cells #[.bool true, .int .u32 167772160, .int .i64 8, .int .i64 16, .int .i64 24, .bool true, .int .u32 0, .int .i64 0, .int .i64 0, .int .i64 32] 27)) fun e w' => ∃ ad cap, e = .returned (.slice ad 2 cap) ∧ Below (w.alloc (.cells #[.bool true, .int .u32 167772160, .int .i64 8, .int .i64 16, .int .i64 24, .bool true, .int .u32 0, .int .i64 0, .int .i64 0, .int .i64 32] 27)).heap.size (w.alloc (.cells #[.bool true, .int .u32 167772160, .int .i64 8, .int .i64 16, .int .i64 24, .bool true, .int .u32 0, .int .i64 0, .int .i64 0, .int .i64 32] 27)) w' :=
  trim_len ex_t2 (trim_any [exR1, exAll] _ _ (rdU_two w exR1 exAll ex_ok1 ex_okA) (by decide))
/-- blocks of the call's own that hold what they held -/
def Five (w : World) (g : Nat) (c0 c1 c2 c3 c4 : Value) : Prop := w.heap[g]? = some (.cells #[c0, c1, c2, c3, c4] 27 (0, 0))
theorem Five.below {w w' : World} {g : Nat} {c0 c1 c2 c3 c4 : Value} (h : Five w g c0 c1 c2 c3 c4) (hb : Below w.heap.size w w') : Five w' g c0 c1 c2 c3 c4 := (hb.block g (lt_block h)).trans h
theorem Five.cells {w : World} {g : Nat} {c0 c1 c2 c3 c4 : Value} (h : Five w g c0 c1 c2 c3 c4) : w.cell? ⟨g, 0, none⟩ = some c0 ∧ w.cell? ⟨g, 1, none⟩ = some c1 ∧ w.cell? ⟨g, 2, none⟩ = some c2 ∧ w.cell? ⟨g, 3, none⟩ = some c3 ∧ w.cell? ⟨g, 4, none⟩ = some c4 :=
  ⟨cell_of h rfl, cell_of h rfl, cell_of h rfl, cell_of h rfl, cell_of h rfl⟩
theorem heap_at {w : World} {o : Obj} {g : Nat} (h : g = w.heap.size) : (w.alloc o).heap[g]? = some o := by subst h; exact heap_alloc_new _ _
theorem heap_old {w : World} {o ob : Obj} {g : Nat} (h : w.heap[g]? = some ob) : (w.alloc o).heap[g]? = w.heap[g]? := heap_alloc_old w o (lt_block h)
theorem awake_any (w : World) (hT : Lt w) : Calls Tryd.prog 12 #[] w fun e w' => e = .returned (.bool true) ∧ Below w.heap.size w w' := by
  have HT : Hid (∀ W, Below w.heap.size w W → Lt W) := fun W hW => hT.below hW
  clear hT
  go_enter Tryd.func12, Tryd.ntmps12
  go_wp2_with fail
  go_at_call 19
  refine (e_par1 _ (HT.out _ (Below.refl _ _))).mono ?_
  rintro e w1 ⟨rfl, h1⟩
  have HB1 := Lib.hid h1
  clear h1
  have HA : Hid (Below w.heap.size w (w1.alloc (.cells #[.bool true, .int .u32 167772160, .int .i64 8, .int .i64 16, .int .i64 24] 27))) := below_then HB1.out (below_alloc _ _)
  have HF : Hid (Five (w1.alloc (.cells #[.bool true, .int .u32 167772160, .int .i64 8, .int .i64 16, .int .i64 24] 27)) w1.heap.size (.bool true) (.int .u32 167772160) (.int .i64 8) (.int .i64 16) (.int .i64 24)) := heap_alloc_new _ _
  go_wp2_with fail
  go_at_call 17
  refine (e_txt1 _ (HT.out _ HA.out)).mono ?_
  rintro e w2 ⟨rfl, h2⟩
  have HF2 := Lib.hid (HF.out.below h2)
  have HB2 := Lib.hid (below_then HA.out h2)
  clear h2 HF HA
  go_wp2_with fail
  go_at_call 19
  refine (e_par2 _ (HT.out _ HB2.out)).mono ?_
  rintro e w3 ⟨rfl, h3⟩
  have HF3 := Lib.hid (HF2.out.below h3)
  have HB3 := Lib.hid (below_then HB2.out h3)
  clear h3 HF2
  go_wp2_with fail
  go_at_call 10
  refine (e_c5 _).mono ?_
  rintro e w4 ⟨rfl, h4⟩
  have HB4 : Hid (Below w.heap.size w w4) := below_then (below_then (below_then HB3.out (below_alloc _ _)) (below_alloc _ _)) h4
  have HF4 : Hid (Five w4 w1.heap.size (.bool true) (.int .u32 167772160) (.int .i64 8) (.int .i64 16) (.int .i64 24)) := ((HF3.out.below (below_alloc _ _)).below (below_alloc _ _)).below h4
  have HG4 : Hid (Five w4 (w3.heap.size + 1) (.bool true) (.int .u32 0) (.int .i64 0) (.int .i64 0) (.int .i64 32)) := (h4.block (w3.heap.size + 1) (by simp)).trans (heap_at (by simp))
  clear h4 HB3 HF3
  go_wp2_with fail
  go_at_call 10
  refine (e_c1 _).mono ?_
  rintro e w5 ⟨rfl, h5⟩
  have HB5 : Hid (Below w.heap.size w (w5.alloc (.cells #[.int .u32 167837696, .int .i64 16] 25))) := below_then (below_then HB4.out h5) (below_alloc _ _)
  have HF5 : Hid (Five (w5.alloc (.cells #[.int .u32 167837696, .int .i64 16] 25)) w1.heap.size (.bool true) (.int .u32 167772160) (.int .i64 8) (.int .i64 16) (.int .i64 24)) := (HF4.out.below h5).below (below_alloc _ _)
  have HG5 : Hid (Five (w5.alloc (.cells #[.int .u32 167837696, .int .i64 16] 25)) (w3.heap.size + 1) (.bool true) (.int .u32 0) (.int .i64 0) (.int .i64 0) (.int .i64 32)) := (HG4.out.below h5).below (below_alloc _ _)
  have hp5 : (w5.alloc (.cells #[.int .u32 167837696, .int .i64 16] 25)).heap[w5.heap.size]? = some (.cells #[.int .u32 167837696, .int .i64 16] 25) := heap_alloc_new _ _
  have HP5 := Lib.hid hp5
  obtain ⟨x0, x1, x2, x3, x4⟩ := HF5.out.cells
  clear h5 HB4 HF4 HG4 hp5
  go_wp2_with fail
  go_at_call 13
  refine (e_m1 _).mono ?_
  rintro e w6 ⟨rfl, h6⟩
  clear x0 x1 x2 x3 x4
  have HB6 := Lib.hid (below_then HB5.out h6)
  have HF6 := Lib.hid (HF5.out.below h6)
  have HG6 := Lib.hid (HG5.out.below h6)
  have HP6 := Lib.hid ((h6.block _ (lt_block HP5.out)).trans HP5.out)
  obtain ⟨x0, x1, x2, x3, x4⟩ := HF6.out.cells
  clear h6 HB5 HF5 HG5 HP5
  go_wp2_with fail
  go_at_call 13
  refine (e_m2 _).mono ?_
  rintro e w7 ⟨rfl, h7⟩
  clear x0 x1 x2 x3 x4
  have HB7 := Lib.hid (below_then HB6.out h7)
  have HF7 := Lib.hid (HF6.out.below h7)
  have HG7 := Lib.hid (HG6.out.below h7)
  have HP7 := Lib.hid ((h7.block _ (lt_block HP6.out)).trans HP6.out)
  obtain ⟨x0, x1, x2, x3, x4⟩ := HF7.out.cells
  have hp7 := HP7.out
  have y0 : (w7.alloc (.cells #[.bool true, .int .u32 167772160, .int .i64 8, .int .i64 16, .int .i64 24] 27)).cell? ⟨w5.heap.size, 0, none⟩ = some (.int .u32 167837696) := carry (below_alloc _ _) (cell_of hp7 rfl)
  have y1 : (w7.alloc (.cells #[.bool true, .int .u32 167772160, .int .i64 8, .int .i64 16, .int .i64 24] 27)).cell? ⟨w5.heap.size, 1, none⟩ = some (.int .i64 16) := carry (below_alloc _ _) (cell_of hp7 rfl)
  clear h7 HB6 HF6 HG6 HP6 hp7
  go_wp2_with fail
  go_at_call 15
  refine (e_p1 _).mono ?_
  rintro e w8 ⟨rfl, h8⟩
  clear x0 x1 x2 x3 x4 y0 y1
  have HB8 := Lib.hid (below_then (below_then HB7.out (below_alloc _ _)) h8)
  have HF8 := Lib.hid ((HF7.out.below (below_alloc _ _)).below h8)
  have HG8 := Lib.hid ((HG7.out.below (below_alloc _ _)).below h8)
  have HP8 := Lib.hid ((h8.block _ (by have := lt_block HP7.out; simp; omega)).trans ((heap_old HP7.out).trans HP7.out))
  have hp8 := HP8.out
  have y0 := cell_of hp8 (rfl : (#[Value.int .u32 167837696, Value.int .i64 16] : Array Value)[0]? = some (.int .u32 167837696))
  have y1 := cell_of hp8 (rfl : (#[Value.int .u32 167837696, Value.int .i64 16] : Array Value)[1]? = some (.int .i64 16))
  clear h8 HB7 HF7 HG7 HP7 hp8
  go_wp2_with fail
  go_at_call 15
  refine (e_p2 _).mono ?_
  rintro e w9 ⟨rfl, h9⟩
  clear y0 y1
  have HB9 := Lib.hid (below_then HB8.out h9)
  have HF9 := Lib.hid (HF8.out.below h9)
  have HG9 := Lib.hid (HG8.out.below h9)
  obtain ⟨x0, x1, x2, x3, x4⟩ := HF9.out.cells
  obtain ⟨z0, z1, z2, z3, z4⟩ := HG9.out.cells
  clear h9 HB8 HF8 HG8 HP8
  go_wp2_with fail
  go_at_call 21
  refine (e_t1 _).mono ?_
  rintro e w10 ⟨ad1, cap1, rfl, h10⟩
  clear x0 x1 x2 x3 x4 z0 z1 z2 z3 z4
  have HB10 := Lib.hid (below_then (below_then HB9.out (below_alloc _ _)) h10)
  have HF10 := Lib.hid ((HF9.out.below (below_alloc _ _)).below h10)
  have HG10 := Lib.hid ((HG9.out.below (below_alloc _ _)).below h10)
  obtain ⟨x0, x1, x2, x3, x4⟩ := HF10.out.cells
  obtain ⟨z0, z1, z2, z3, z4⟩ := HG10.out.cells
  clear h10 HB9 HF9 HG9
  go_wp2_with fail
  go_at_call 21
  refine (e_t2 _).mono ?_
  rintro e w11 ⟨ad2, cap2, rfl, h11⟩
  have HB11 := Lib.hid (below_then (below_then HB10.out (below_alloc _ _)) h11)
  clear h11
  go_wp2_with fail
  go_ret
  exact ⟨rfl, HB11.out⟩
end Go.Proofs.YtiiojkekcnmddaaDoor
