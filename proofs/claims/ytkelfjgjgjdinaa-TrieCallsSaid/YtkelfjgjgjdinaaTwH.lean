/-
  The walk of the trie's visitUnder, with the collector as the visitor.
-/
import Derived.Test.YtkelfjgjgjdinaaTwF
import Derived.LoopN
namespace Go.Proofs.Ytkelfjgjgjdinaa
open Go.RowKit
set_option linter.unusedSimpArgs false
set_option linter.unusedVariables false
set_option maxHeartbeats 4000000
set_option maxRecDepth 100000

theorem idx_k0 (a b : Option Addr) (w : World) : (Instr.index 126 (.agg #[.pointer a, .pointer b]) (.int .i64 0)).run Try.prog w = .ok (.pointer a) w := by
  simp [Instr.index, run_underlying Try.underlying126, asIntOf, go_sem]
theorem idx_k1 (a b : Option Addr) (w : World) : (Instr.index 126 (.agg #[.pointer a, .pointer b]) (.int .i64 1)).run Try.prog w = .ok (.pointer b) w := by
  simp [Instr.index, run_underlying Try.underlying126, asIntOf, go_sem]
theorem und_none (B : Nat) (P : List Nat) (L : List En) (w : World) (b : Nat) (m : Int) (hI : ColI B P L w) (fv : Value) :
    Calls Try.prog 94 #[.pointer none, .agg #[.int .u32 b, .int .i64 m], fv] w fun en w' => en = .returned (.tuple #[]) ∧ ColI B P (L ++ und (b, m) .nil) w' ∧ Ch B P w w' := by
  have HI := Lib.hid hI
  clear hI
  go_enter Try.func94, Try.ntmps94
  go_wp2
  go_quiet (fail)
  go_wp2
  (try simp only [Exit.inBlock, Exit.then]); refine bodyPost_ret (results_none rfl _ _ _) rfl ?_
  have hb := below_drewN (below_alloc w (.cells #[.int .u32 (b : Int), .int .i64 m] 28)) nq
  refine ⟨rfl, ?_, Ch.of_below hb⟩
  rw [show und (b, m) .nil = [] from rfl, List.append_nil]
  exact HI.out.below hb
/-- the facts of a node that the walk of visitUnder wants -/
theorem k4_kept {w W W1 : World} {p0 p1 p2 p3 : Addr} {c0 c1 c2 c3 : Value} (h : W.cell? p0 = some c0 ∧ W.cell? p1 = some c1 ∧ W.cell? p2 = some c2 ∧ W.cell? p3 = some c3 ∧ Own w 1 W) (hb : Below W.heap.size W W1) :
    W1.cell? p0 = some c0 ∧ W1.cell? p1 = some c1 ∧ W1.cell? p2 = some c2 ∧ W1.cell? p3 = some c3 ∧ Own w 1 W1 := k4_below h hb
theorem und_len (p : PP) : ∀ T : Sh, (und p T).length ≤ (ents T).length
  | .nil => Nat.le_refl _
  | .node q v s l r => by
    have h1 := und_len p l
    have h2 := und_len p r
    rw [und, ents_node]
    split
    · rw [List.length_append, List.length_append, List.length_append, List.length_append]
      cases s <;> cases C p q <;> simp <;> omega
    · simp

theorem und_out (B : Nat) (P : List Nat) (L : List En) (w : World) (g : Nat) (q : PP) (x : Int) (s : Bool) (c d : Value) (l r : Sh) (gl gr : List Nat) (b : Nat) (hb : b < 4294967296) (m : Int) (hm : I64 m) (hI : ColI B P L w)
    (hn : IsNode w g q x s c d) (hl : Lies w l c gl) (hr : Lies w r d gr) (hgs : ∀ k ∈ g :: (gl ++ gr), k < B) (hq : PV q) (hlen : L.length + (ents (.node q x s l r)).length ≤ 1000) (hP : ∀ m ∈ P, m < w.heap.size ∧ B < m) (ho : (C q (b, m) || C (b, m) q) = false)
    (ihl : ∀ P L w, ColI B P L w → Lies w l c gl → L.length + (ents l).length ≤ 1000 → (∀ m ∈ P, m < w.heap.size ∧ B < m) → Calls Try.prog 94 #[c, .agg #[.int .u32 b, .int .i64 m], .func (.func 90) #[.pointer (some ⟨B, 0, none⟩)] #[]] w fun en w' => en = .returned (.tuple #[]) ∧ ColI B P (L ++ und (b, m) l) w' ∧ Ch B P w w')
    (ihr : ∀ P L w, ColI B P L w → Lies w r d gr → L.length + (ents r).length ≤ 1000 → (∀ m ∈ P, m < w.heap.size ∧ B < m) → Calls Try.prog 94 #[d, .agg #[.int .u32 b, .int .i64 m], .func (.func 90) #[.pointer (some ⟨B, 0, none⟩)] #[]] w fun en w' => en = .returned (.tuple #[]) ∧ ColI B P (L ++ und (b, m) r) w' ∧ Ch B P w w') :
    Calls Try.prog 94 #[.pointer (some ⟨g, 0, none⟩), .agg #[.int .u32 b, .int .i64 m], .func (.func 90) #[.pointer (some ⟨B, 0, none⟩)] #[]] w fun en w' => en = .returned (.tuple #[]) ∧ ColI B P (L ++ und (b, m) (.node q x s l r)) w' ∧ Ch B P w w' := by
  obtain ⟨u1, rfl⟩ := hl.ptr
  obtain ⟨u2, rfl⟩ := hr.ptr
  have hBlt := hI.lt
  have hlt := hn.lt
  have hgB : g < B := hgs g (by simp)
  have hJ := (V_iff _).1 hq.2
  obtain ⟨a, n⟩ := q
  have ha : a < 4294967296 := hq.1
  have hqI : I64 n := by have h1 := hJ.1; have h2 := hJ.2.1; dsimp only at h1 h2; constructor <;> omega
  have B0 := Lib.hid (below_alloc w (.cells #[.int .u32 (b : Int), .int .i64 m] 28))
  have hn0 := hn.below B0.out
  obtain ⟨k0, k1, -, -, -, -⟩ := hn0.cells
  have HN0 := Lib.hid hn0
  have HO : Hid (∀ W, Calls Try.prog 115 #[.agg #[.int .u32 a, .int .i64 n], .agg #[.int .u32 b, .int .i64 m]] W fun e w' => e = .returned (.bool false) ∧ Below W.heap.size W w') :=
    fun W => (overlap_any a ha n hqI b hb m hm W).mono fun _ _ k => ⟨by rw [k.1]; exact ret_b ho, k.2⟩
  have HR0 : Hid (und (b, m) (.node (a, n) x s l r) = []) := by unfold Hid; rw [und, ho]; rfl
  have HI := Lib.hid hI
  have HL := Lib.hid hl
  have HR := Lib.hid hr
  have HG := Lib.hid hgs
  have HLen := Lib.hid hlen
  have HIl := Lib.hid ihl
  have HIr := Lib.hid ihr
  have HP : Hid (∀ W : World, w.heap.size + 1 ≤ W.heap.size → ∀ k ∈ w.heap.size :: P, k < W.heap.size ∧ B < k) := fun W hW k hk => by
    rcases List.mem_cons.1 hk with rfl | hk
    · exact ⟨by omega, hBlt⟩
    · exact ⟨by have := (hP k hk).1; omega, (hP k hk).2⟩
  clear hI hn hl hr hgs hq hlen hP ho ihl ihr hJ hn0
  go_enter Try.func94, Try.ntmps94
  go_wp2
  go_region_held3 (fun w' => w'.cell? ⟨g, 0, none⟩ = some (.int .u32 a) ∧ w'.cell? ⟨g, 1, none⟩ = some (.int .i64 n) ∧ w'.cell? ⟨w.heap.size, 0, none⟩ = some (.int .u32 b) ∧ w'.cell? ⟨w.heap.size, 1, none⟩ = some (.int .i64 m) ∧ Own w 1 w')
    (first | exact ⟨k0, k1, by simp, by simp, ((Own.start w).alloc _).drewN 1⟩ | assumption)
    (first | (go_at_call 115; refine (HO.out _).mono ?_; rintro e w1 ⟨rfl, hb1⟩; have hk := k4_kept ‹_› hb1; have BB1 : Hid (Below w.heap.size w w1) := below_then (below_drewN B0.out 1) hb1; clear hb1))
  all_goals (obtain ⟨d0, d1, d2, d3, d4⟩ := hk; have hsz1 := d4.2; have HSZ := Lib.hid hsz1; clear d4 hsz1)
  go_wp2
  (try simp only [Exit.inBlock, Exit.then]); refine bodyPost_ret (results_none rfl _ _ _) rfl ?_
  refine ⟨rfl, ?_, Ch.of_below BB1.out⟩
  rw [HR0.out, List.append_nil]
  exact HI.out.below BB1.out

theorem und_free (B : Nat) (P : List Nat) (L : List En) (w : World) (g : Nat) (q : PP) (x : Int) (c d : Value) (l r : Sh) (gl gr : List Nat) (b : Nat) (hb : b < 4294967296) (m : Int) (hm : I64 m) (hI : ColI B P L w)
    (hn : IsNode w g q x false c d) (hl : Lies w l c gl) (hr : Lies w r d gr) (hgs : ∀ k ∈ g :: (gl ++ gr), k < B) (hq : PV q) (hlen : L.length + (ents (.node q x false l r)).length ≤ 1000) (hP : ∀ m ∈ P, m < w.heap.size ∧ B < m) (ho : (C q (b, m) || C (b, m) q) = true)
    (ihl : ∀ P L w, ColI B P L w → Lies w l c gl → L.length + (ents l).length ≤ 1000 → (∀ m ∈ P, m < w.heap.size ∧ B < m) → Calls Try.prog 94 #[c, .agg #[.int .u32 b, .int .i64 m], .func (.func 90) #[.pointer (some ⟨B, 0, none⟩)] #[]] w fun en w' => en = .returned (.tuple #[]) ∧ ColI B P (L ++ und (b, m) l) w' ∧ Ch B P w w')
    (ihr : ∀ P L w, ColI B P L w → Lies w r d gr → L.length + (ents r).length ≤ 1000 → (∀ m ∈ P, m < w.heap.size ∧ B < m) → Calls Try.prog 94 #[d, .agg #[.int .u32 b, .int .i64 m], .func (.func 90) #[.pointer (some ⟨B, 0, none⟩)] #[]] w fun en w' => en = .returned (.tuple #[]) ∧ ColI B P (L ++ und (b, m) r) w' ∧ Ch B P w w') :
    Calls Try.prog 94 #[.pointer (some ⟨g, 0, none⟩), .agg #[.int .u32 b, .int .i64 m], .func (.func 90) #[.pointer (some ⟨B, 0, none⟩)] #[]] w fun en w' => en = .returned (.tuple #[]) ∧ ColI B P (L ++ und (b, m) (.node q x false l r)) w' ∧ Ch B P w w' := by
  obtain ⟨u1, rfl⟩ := hl.ptr
  obtain ⟨u2, rfl⟩ := hr.ptr
  have hBlt := hI.lt
  have hlt := hn.lt
  have hgB : g < B := hgs g (by simp)
  have hJ := (V_iff _).1 hq.2
  obtain ⟨a, n⟩ := q
  have ha : a < 4294967296 := hq.1
  have hqI : I64 n := by have h1 := hJ.1; have h2 := hJ.2.1; dsimp only at h1 h2; constructor <;> omega
  have B0 := Lib.hid (below_alloc w (.cells #[.int .u32 (b : Int), .int .i64 m] 28))
  have hn0 := hn.below B0.out
  obtain ⟨k0, k1, -, -, -, -⟩ := hn0.cells
  have HN0 := Lib.hid hn0
  have HO : Hid (∀ W, Calls Try.prog 115 #[.agg #[.int .u32 a, .int .i64 n], .agg #[.int .u32 b, .int .i64 m]] W fun e w' => e = .returned (.bool true) ∧ Below W.heap.size W w') :=
    fun W => (overlap_any a ha n hqI b hb m hm W).mono fun _ _ k => ⟨by rw [k.1]; exact ret_b ho, k.2⟩
  have HRes : Hid (und (b, m) (.node (a, n) x false l r) = und (b, m) l ++ und (b, m) r) := by unfold Hid; rw [und, ho]; rfl
  have HI := Lib.hid hI
  have HL := Lib.hid hl
  have HR := Lib.hid hr
  have HG := Lib.hid hgs
  have HLen := Lib.hid hlen
  have HIl := Lib.hid ihl
  have HIr := Lib.hid ihr
  have HP : Hid (∀ W : World, w.heap.size + 1 ≤ W.heap.size → ∀ k ∈ w.heap.size :: P, k < W.heap.size ∧ B < k) := fun W hW k hk => by
    rcases List.mem_cons.1 hk with rfl | hk
    · exact ⟨by omega, hBlt⟩
    · exact ⟨by have := (hP k hk).1; omega, (hP k hk).2⟩
  clear hI hn hl hr hgs hq hlen hP ho ihl ihr hJ hn0
  go_enter Try.func94, Try.ntmps94
  go_wp2
  go_region_held3 (fun w' => w'.cell? ⟨g, 0, none⟩ = some (.int .u32 a) ∧ w'.cell? ⟨g, 1, none⟩ = some (.int .i64 n) ∧ w'.cell? ⟨w.heap.size, 0, none⟩ = some (.int .u32 b) ∧ w'.cell? ⟨w.heap.size, 1, none⟩ = some (.int .i64 m) ∧ Own w 1 w')
    (first | exact ⟨k0, k1, by simp, by simp, ((Own.start w).alloc _).drewN 1⟩ | assumption)
    (first | (go_at_call 115; refine (HO.out _).mono ?_; rintro e w1 ⟨rfl, hb1⟩; have hk := k4_kept ‹_› hb1; have BB1 : Hid (Below w.heap.size w w1) := below_then (below_drewN B0.out 1) hb1; clear hb1))
  all_goals (obtain ⟨d0, d1, d2, d3, d4⟩ := hk; have hsz1 := d4.2; have HSZ := Lib.hid hsz1; clear d4 hsz1)
  have N1 := Lib.hid (HN0.out.congr (w' := w1) (by rw [BB1.out.block g hlt]; exact (B0.out.block g hlt).symm))
  have e3 := N1.out.cells.2.2.2.1
  go_wp2_with fail
  go_quiet (fail)
  have W3 := Lib.hid (below_drewN BB1.out nq)
  have N3 := Lib.hid (N1.out.drewN nq)
  have I3 := Lib.hid ((HI.out.more (Nat.le_refl _)).below W3.out)
  have C3 : Hid (Ch B (w.heap.size :: P) w (w1.drewN nq)) := Ch.of_below W3.out
  have f0 : (w1.drewN nq).cell? ⟨w.heap.size, 0, none⟩ = some (.int .u32 b) := d2
  have f1 : (w1.drewN nq).cell? ⟨w.heap.size, 1, none⟩ = some (.int .i64 m) := d3
  have L3 := Lib.hid (HL.out.below W3.out)
  have R3 := Lib.hid (HR.out.below W3.out)
  have kk0 := N3.out.cells.2.2.2.2.1
  have kk1 := N3.out.cells.2.2.2.2.2
  have HLA : Hid (L.length + (ents l).length ≤ 1000 ∧ (L ++ und (b, m) l).length + (ents r).length ≤ 1000) := by
    have h1 := HLen.out
    have h2 := und_len (b, m) l
    rw [ents_node, List.length_append, List.length_append] at h1
    constructor
    · simp at h1 ⊢; omega
    · rw [List.length_append]; simp at h1 ⊢; omega
  have HSZ3 := Lib.hid (World.block_lt_of_cell? _ _ f0)
  go_wp2
  have ix0 := fun W => idx_k0 u1 u2 W
  have ix1 := fun W => idx_k1 u1 u2 W
  refine wp_loop_rounds 3 ?_
  rw [rounds_succ]
  go_wp2_with (first
    | (go_at_call 94; refine (HIl.out (w.heap.size :: P) L _ I3.out L3.out HLA.out.1 (HP.out _ HSZ3.out)).mono ?_; rintro e w4 ⟨rfl, hi4, hch4⟩
       have I4 := Lib.hid hi4
       have C4 := Lib.hid (C3.out.trans hch4)
       have R4 := Lib.hid (HR.out.ch C4.out (fun k hk => HG.out k (by simp [hk])))
       have m0 : w4.cell? ⟨w.heap.size, 0, none⟩ = some (.int .u32 b) := hch4.carry (.inr (by simp)) f0
       have m1 : w4.cell? ⟨w.heap.size, 1, none⟩ = some (.int .i64 m) := hch4.carry (.inr (by simp)) f1
       have HSZ4 := Lib.hid (World.block_lt_of_cell? _ _ m0)
       clear hi4 hch4))
  rw [rounds_succ]
  go_wp2_with (first
    | (go_at_call 94; refine (HIr.out (w.heap.size :: P) (L ++ und (b, m) l) _ I4.out R4.out HLA.out.2 (HP.out _ HSZ4.out)).mono ?_; rintro e w5 ⟨rfl, hi5, hch5⟩
       have I5 := Lib.hid hi5
       have C5 := Lib.hid (C4.out.trans hch5)
       clear hi5 hch5))
  rw [rounds_succ]
  go_wp2
  go_end0
  refine ⟨rfl, ?_, C5.out.less⟩
  have h5 := I5.out.less
  rw [HRes.out]
  simpa [List.append_assoc] using h5

theorem und_miss (B : Nat) (P : List Nat) (L : List En) (w : World) (g : Nat) (q : PP) (x : Int) (c d : Value) (l r : Sh) (gl gr : List Nat) (b : Nat) (hb : b < 4294967296) (m : Int) (hm : I64 m) (hI : ColI B P L w)
    (hn : IsNode w g q x true c d) (hl : Lies w l c gl) (hr : Lies w r d gr) (hgs : ∀ k ∈ g :: (gl ++ gr), k < B) (hq : PV q) (hlen : L.length + (ents (.node q x true l r)).length ≤ 1000) (hP : ∀ m ∈ P, m < w.heap.size ∧ B < m) (ho : (C q (b, m) || C (b, m) q) = true) (hcv : C (b, m) q = false)
    (ihl : ∀ P L w, ColI B P L w → Lies w l c gl → L.length + (ents l).length ≤ 1000 → (∀ m ∈ P, m < w.heap.size ∧ B < m) → Calls Try.prog 94 #[c, .agg #[.int .u32 b, .int .i64 m], .func (.func 90) #[.pointer (some ⟨B, 0, none⟩)] #[]] w fun en w' => en = .returned (.tuple #[]) ∧ ColI B P (L ++ und (b, m) l) w' ∧ Ch B P w w')
    (ihr : ∀ P L w, ColI B P L w → Lies w r d gr → L.length + (ents r).length ≤ 1000 → (∀ m ∈ P, m < w.heap.size ∧ B < m) → Calls Try.prog 94 #[d, .agg #[.int .u32 b, .int .i64 m], .func (.func 90) #[.pointer (some ⟨B, 0, none⟩)] #[]] w fun en w' => en = .returned (.tuple #[]) ∧ ColI B P (L ++ und (b, m) r) w' ∧ Ch B P w w') :
    Calls Try.prog 94 #[.pointer (some ⟨g, 0, none⟩), .agg #[.int .u32 b, .int .i64 m], .func (.func 90) #[.pointer (some ⟨B, 0, none⟩)] #[]] w fun en w' => en = .returned (.tuple #[]) ∧ ColI B P (L ++ und (b, m) (.node q x true l r)) w' ∧ Ch B P w w' := by
  obtain ⟨u1, rfl⟩ := hl.ptr
  obtain ⟨u2, rfl⟩ := hr.ptr
  have hBlt := hI.lt
  have hlt := hn.lt
  have hgB : g < B := hgs g (by simp)
  have hJ := (V_iff _).1 hq.2
  obtain ⟨a, n⟩ := q
  have ha : a < 4294967296 := hq.1
  have hqI : I64 n := by have h1 := hJ.1; have h2 := hJ.2.1; dsimp only at h1 h2; constructor <;> omega
  have B0 := Lib.hid (below_alloc w (.cells #[.int .u32 (b : Int), .int .i64 m] 28))
  have hn0 := hn.below B0.out
  obtain ⟨k0, k1, -, -, -, -⟩ := hn0.cells
  have HN0 := Lib.hid hn0
  have HO : Hid (∀ W, Calls Try.prog 115 #[.agg #[.int .u32 a, .int .i64 n], .agg #[.int .u32 b, .int .i64 m]] W fun e w' => e = .returned (.bool true) ∧ Below W.heap.size W w') :=
    fun W => (overlap_any a ha n hqI b hb m hm W).mono fun _ _ k => ⟨by rw [k.1]; exact ret_b ho, k.2⟩
  have HCv : Hid (∀ W, Calls Try.prog 116 #[.agg #[.int .u32 b, .int .i64 m], .agg #[.int .u32 a, .int .i64 n]] W fun e w' => e = .returned (.bool false) ∧ Below W.heap.size W w') :=
    fun W => (covers_any b hb m hm a ha n hqI W).mono fun _ _ k => ⟨by rw [k.1]; exact ret_b hcv, k.2⟩
  have HRes : Hid (und (b, m) (.node (a, n) x true l r) = und (b, m) l ++ und (b, m) r) := by unfold Hid; rw [und, ho, hcv]; rfl
  have HI := Lib.hid hI
  have HL := Lib.hid hl
  have HR := Lib.hid hr
  have HG := Lib.hid hgs
  have HLen := Lib.hid hlen
  have HIl := Lib.hid ihl
  have HIr := Lib.hid ihr
  have HP : Hid (∀ W : World, w.heap.size + 1 ≤ W.heap.size → ∀ k ∈ w.heap.size :: P, k < W.heap.size ∧ B < k) := fun W hW k hk => by
    rcases List.mem_cons.1 hk with rfl | hk
    · exact ⟨by omega, hBlt⟩
    · exact ⟨by have := (hP k hk).1; omega, (hP k hk).2⟩
  clear hI hn hl hr hgs hq hlen hP ho ihl ihr hJ hn0 hcv
  go_enter Try.func94, Try.ntmps94
  go_wp2
  go_region_held3 (fun w' => w'.cell? ⟨g, 0, none⟩ = some (.int .u32 a) ∧ w'.cell? ⟨g, 1, none⟩ = some (.int .i64 n) ∧ w'.cell? ⟨w.heap.size, 0, none⟩ = some (.int .u32 b) ∧ w'.cell? ⟨w.heap.size, 1, none⟩ = some (.int .i64 m) ∧ Own w 1 w')
    (first | exact ⟨k0, k1, by simp, by simp, ((Own.start w).alloc _).drewN 1⟩ | assumption)
    (first | (go_at_call 115; refine (HO.out _).mono ?_; rintro e w1 ⟨rfl, hb1⟩; have hk := k4_kept ‹_› hb1; have BB1 : Hid (Below w.heap.size w w1) := below_then (below_drewN B0.out 1) hb1; clear hb1))
  all_goals (obtain ⟨d0, d1, d2, d3, d4⟩ := hk; have hsz1 := d4.2; have HSZ := Lib.hid hsz1; clear d4 hsz1)
  have N1 := Lib.hid (HN0.out.congr (w' := w1) (by rw [BB1.out.block g hlt]; exact (B0.out.block g hlt).symm))
  have e3 := N1.out.cells.2.2.2.1
  go_wp2_with fail
  go_region_held3 (fun w' => w'.cell? ⟨g, 0, none⟩ = some (.int .u32 a) ∧ w'.cell? ⟨g, 1, none⟩ = some (.int .i64 n) ∧ w'.cell? ⟨g, 3, none⟩ = some (.bool true) ∧ w'.cell? ⟨w.heap.size, 0, none⟩ = some (.int .u32 b) ∧ w'.cell? ⟨w.heap.size, 1, none⟩ = some (.int .i64 m))
    (first | exact ⟨d0, d1, e3, d2, d3⟩ | assumption)
    (first | (go_at_call 116; refine (HCv.out _).mono ?_; rintro e w2 ⟨rfl, hb2⟩; have hk := And.intro (carry hb2 d0) (And.intro (carry hb2 d1) (And.intro (carry hb2 e3) (And.intro (carry hb2 d2) (carry hb2 d3)))); have W2 : Hid (Below w.heap.size w w2) := below_then (below_drewN BB1.out 1) hb2; have N2 := Lib.hid ((N1.out.drewN 1).below hb2); clear hb2))
  all_goals (obtain ⟨h0, h1, h3, f0, f1⟩ := hk)
  have I3 := Lib.hid ((HI.out.more (Nat.le_refl _)).below W2.out)
  have C3 : Hid (Ch B (w.heap.size :: P) w w2) := Ch.of_below W2.out
  have L3 := Lib.hid (HL.out.below W2.out)
  have R3 := Lib.hid (HR.out.below W2.out)
  have N3 := N2
  have kk0 := N3.out.cells.2.2.2.2.1
  have kk1 := N3.out.cells.2.2.2.2.2
  have HLA : Hid (L.length + (ents l).length ≤ 1000 ∧ (L ++ und (b, m) l).length + (ents r).length ≤ 1000) := by
    have h1 := HLen.out
    have h2 := und_len (b, m) l
    rw [ents_node, List.length_append, List.length_append] at h1
    constructor
    · simp at h1 ⊢; omega
    · rw [List.length_append]; simp at h1 ⊢; omega
  have HSZ3 := Lib.hid (World.block_lt_of_cell? _ _ f0)
  go_wp2
  have ix0 := fun W => idx_k0 u1 u2 W
  have ix1 := fun W => idx_k1 u1 u2 W
  refine wp_loop_rounds 3 ?_
  rw [rounds_succ]
  go_wp2_with (first
    | (go_at_call 94; refine (HIl.out (w.heap.size :: P) L _ I3.out L3.out HLA.out.1 (HP.out _ HSZ3.out)).mono ?_; rintro e w4 ⟨rfl, hi4, hch4⟩
       have I4 := Lib.hid hi4
       have C4 := Lib.hid (C3.out.trans hch4)
       have R4 := Lib.hid (HR.out.ch C4.out (fun k hk => HG.out k (by simp [hk])))
       have m0 : w4.cell? ⟨w.heap.size, 0, none⟩ = some (.int .u32 b) := hch4.carry (.inr (by simp)) f0
       have m1 : w4.cell? ⟨w.heap.size, 1, none⟩ = some (.int .i64 m) := hch4.carry (.inr (by simp)) f1
       have HSZ4 := Lib.hid (World.block_lt_of_cell? _ _ m0)
       clear hi4 hch4))
  rw [rounds_succ]
  go_wp2_with (first
    | (go_at_call 94; refine (HIr.out (w.heap.size :: P) (L ++ und (b, m) l) _ I4.out R4.out HLA.out.2 (HP.out _ HSZ4.out)).mono ?_; rintro e w5 ⟨rfl, hi5, hch5⟩
       have I5 := Lib.hid hi5
       have C5 := Lib.hid (C4.out.trans hch5)
       clear hi5 hch5))
  rw [rounds_succ]
  go_wp2
  go_end0
  refine ⟨rfl, ?_, C5.out.less⟩
  have h5 := I5.out.less
  rw [HRes.out]
  simpa [List.append_assoc] using h5

theorem und_hit (B : Nat) (P : List Nat) (L : List En) (w : World) (g : Nat) (q : PP) (x : Int) (c d : Value) (l r : Sh) (gl gr : List Nat) (b : Nat) (hb : b < 4294967296) (m : Int) (hm : I64 m) (hI : ColI B P L w)
    (hn : IsNode w g q x true c d) (hl : Lies w l c gl) (hr : Lies w r d gr) (hgs : ∀ k ∈ g :: (gl ++ gr), k < B) (hq : PV q) (hlen : L.length + (ents (.node q x true l r)).length ≤ 1000) (hP : ∀ m ∈ P, m < w.heap.size ∧ B < m) (ho : (C q (b, m) || C (b, m) q) = true) (hcv : C (b, m) q = true)
    (ihl : ∀ P L w, ColI B P L w → Lies w l c gl → L.length + (ents l).length ≤ 1000 → (∀ m ∈ P, m < w.heap.size ∧ B < m) → Calls Try.prog 94 #[c, .agg #[.int .u32 b, .int .i64 m], .func (.func 90) #[.pointer (some ⟨B, 0, none⟩)] #[]] w fun en w' => en = .returned (.tuple #[]) ∧ ColI B P (L ++ und (b, m) l) w' ∧ Ch B P w w')
    (ihr : ∀ P L w, ColI B P L w → Lies w r d gr → L.length + (ents r).length ≤ 1000 → (∀ m ∈ P, m < w.heap.size ∧ B < m) → Calls Try.prog 94 #[d, .agg #[.int .u32 b, .int .i64 m], .func (.func 90) #[.pointer (some ⟨B, 0, none⟩)] #[]] w fun en w' => en = .returned (.tuple #[]) ∧ ColI B P (L ++ und (b, m) r) w' ∧ Ch B P w w') :
    Calls Try.prog 94 #[.pointer (some ⟨g, 0, none⟩), .agg #[.int .u32 b, .int .i64 m], .func (.func 90) #[.pointer (some ⟨B, 0, none⟩)] #[]] w fun en w' => en = .returned (.tuple #[]) ∧ ColI B P (L ++ und (b, m) (.node q x true l r)) w' ∧ Ch B P w w' := by
  obtain ⟨u1, rfl⟩ := hl.ptr
  obtain ⟨u2, rfl⟩ := hr.ptr
  have hBlt := hI.lt
  have hlt := hn.lt
  have hgB : g < B := hgs g (by simp)
  have hJ := (V_iff _).1 hq.2
  obtain ⟨a, n⟩ := q
  have ha : a < 4294967296 := hq.1
  have hqI : I64 n := by have h1 := hJ.1; have h2 := hJ.2.1; dsimp only at h1 h2; constructor <;> omega
  have B0 := Lib.hid (below_alloc w (.cells #[.int .u32 (b : Int), .int .i64 m] 28))
  have hn0 := hn.below B0.out
  obtain ⟨k0, k1, -, -, -, -⟩ := hn0.cells
  have HN0 := Lib.hid hn0
  have HO : Hid (∀ W, Calls Try.prog 115 #[.agg #[.int .u32 a, .int .i64 n], .agg #[.int .u32 b, .int .i64 m]] W fun e w' => e = .returned (.bool true) ∧ Below W.heap.size W w') :=
    fun W => (overlap_any a ha n hqI b hb m hm W).mono fun _ _ k => ⟨by rw [k.1]; exact ret_b ho, k.2⟩
  have HCv : Hid (∀ W, Calls Try.prog 116 #[.agg #[.int .u32 b, .int .i64 m], .agg #[.int .u32 a, .int .i64 n]] W fun e w' => e = .returned (.bool true) ∧ Below W.heap.size W w') :=
    fun W => (covers_any b hb m hm a ha n hqI W).mono fun _ _ k => ⟨by rw [k.1]; exact ret_b hcv, k.2⟩
  have HRes : Hid (und (b, m) (.node (a, n) x true l r) = [((a, n), x)] ++ (und (b, m) l ++ und (b, m) r)) := by unfold Hid; rw [und, ho, hcv]; rfl
  have HI := Lib.hid hI
  have HL := Lib.hid hl
  have HR := Lib.hid hr
  have HG := Lib.hid hgs
  have HLen := Lib.hid hlen
  have HIl := Lib.hid ihl
  have HIr := Lib.hid ihr
  have HP : Hid (∀ W : World, w.heap.size + 1 ≤ W.heap.size → ∀ k ∈ w.heap.size :: P, k < W.heap.size ∧ B < k) := fun W hW k hk => by
    rcases List.mem_cons.1 hk with rfl | hk
    · exact ⟨by omega, hBlt⟩
    · exact ⟨by have := (hP k hk).1; omega, (hP k hk).2⟩
  clear hI hn hl hr hgs hq hlen hP ho ihl ihr hJ hn0 hcv
  go_enter Try.func94, Try.ntmps94
  go_wp2
  go_region_held3 (fun w' => w'.cell? ⟨g, 0, none⟩ = some (.int .u32 a) ∧ w'.cell? ⟨g, 1, none⟩ = some (.int .i64 n) ∧ w'.cell? ⟨w.heap.size, 0, none⟩ = some (.int .u32 b) ∧ w'.cell? ⟨w.heap.size, 1, none⟩ = some (.int .i64 m) ∧ Own w 1 w')
    (first | exact ⟨k0, k1, by simp, by simp, ((Own.start w).alloc _).drewN 1⟩ | assumption)
    (first | (go_at_call 115; refine (HO.out _).mono ?_; rintro e w1 ⟨rfl, hb1⟩; have hk := k4_kept ‹_› hb1; have BB1 : Hid (Below w.heap.size w w1) := below_then (below_drewN B0.out 1) hb1; clear hb1))
  all_goals (obtain ⟨d0, d1, d2, d3, d4⟩ := hk; have hsz1 := d4.2; have HSZ := Lib.hid hsz1; clear d4 hsz1)
  have N1 := Lib.hid (HN0.out.congr (w' := w1) (by rw [BB1.out.block g hlt]; exact (B0.out.block g hlt).symm))
  have e3 := N1.out.cells.2.2.2.1
  go_wp2_with fail
  go_region_held3 (fun w' => w'.cell? ⟨g, 0, none⟩ = some (.int .u32 a) ∧ w'.cell? ⟨g, 1, none⟩ = some (.int .i64 n) ∧ w'.cell? ⟨g, 3, none⟩ = some (.bool true) ∧ w'.cell? ⟨w.heap.size, 0, none⟩ = some (.int .u32 b) ∧ w'.cell? ⟨w.heap.size, 1, none⟩ = some (.int .i64 m))
    (first | exact ⟨d0, d1, e3, d2, d3⟩ | assumption)
    (first | (go_at_call 116; refine (HCv.out _).mono ?_; rintro e w2 ⟨rfl, hb2⟩; have hk := And.intro (carry hb2 d0) (And.intro (carry hb2 d1) (And.intro (carry hb2 e3) (And.intro (carry hb2 d2) (carry hb2 d3)))); have W2 : Hid (Below w.heap.size w w2) := below_then (below_drewN BB1.out 1) hb2; have N2 := Lib.hid ((N1.out.drewN 1).below hb2); clear hb2))
  all_goals (obtain ⟨h0, h1, h3, f0, f1⟩ := hk)
  have I2 := Lib.hid ((HI.out.more (Nat.le_refl _)).below W2.out)
  have kk2 := N2.out.cells.2.2.1
  have HSZ2 : Hid (w.heap.size + 1 ≤ w2.heap.size) := World.block_lt_of_cell? _ _ f0
  go_wp2_with (first
    | (go_at_call 90; refine (add_any B (w.heap.size :: P) L ((a, n), x) _ I2.out (by have := HLen.out; omega) (HP.out _ HSZ2.out)).mono ?_; rintro e w3 ⟨rfl, hi3, hch3⟩
       have I3 := Lib.hid hi3
       have C3 : Hid (Ch B (w.heap.size :: P) w w3) := (Ch.of_below W2.out).trans hch3
       have N3 := Lib.hid (N2.out.ch hch3 hgB)
       have j0 : w3.cell? ⟨w.heap.size, 0, none⟩ = some (.int .u32 b) := hch3.carry (.inr (by simp)) f0
       have j1 : w3.cell? ⟨w.heap.size, 1, none⟩ = some (.int .i64 m) := hch3.carry (.inr (by simp)) f1
       have L3 := Lib.hid (HL.out.ch C3.out (fun k hk => HG.out k (by simp [hk])))
       have R3 := Lib.hid (HR.out.ch C3.out (fun k hk => HG.out k (by simp [hk])))
       have kk0 := N3.out.cells.2.2.2.2.1
       have kk1 := N3.out.cells.2.2.2.2.2
       clear hi3 hch3))
  have HLA : Hid ((L ++ [((a, n), x)]).length + (ents l).length ≤ 1000 ∧ ((L ++ [((a, n), x)]) ++ und (b, m) l).length + (ents r).length ≤ 1000) := by
    have h1 := HLen.out
    have h2 := und_len (b, m) l
    rw [ents_node, List.length_append, List.length_append] at h1
    constructor
    · simp at h1 ⊢; omega
    · rw [List.length_append]; simp at h1 ⊢; omega
  have HSZ3 := Lib.hid (World.block_lt_of_cell? _ _ j0)
  have ix0 := fun W => idx_k0 u1 u2 W
  have ix1 := fun W => idx_k1 u1 u2 W
  refine wp_loop_rounds 3 ?_
  rw [rounds_succ]
  go_wp2_with (first
    | (go_at_call 94; refine (HIl.out (w.heap.size :: P) (L ++ [((a, n), x)]) _ I3.out L3.out HLA.out.1 (HP.out _ HSZ3.out)).mono ?_; rintro e w4 ⟨rfl, hi4, hch4⟩
       have I4 := Lib.hid hi4
       have C4 := Lib.hid (C3.out.trans hch4)
       have R4 := Lib.hid (HR.out.ch C4.out (fun k hk => HG.out k (by simp [hk])))
       have m0 : w4.cell? ⟨w.heap.size, 0, none⟩ = some (.int .u32 b) := hch4.carry (.inr (by simp)) j0
       have m1 : w4.cell? ⟨w.heap.size, 1, none⟩ = some (.int .i64 m) := hch4.carry (.inr (by simp)) j1
       have HSZ4 := Lib.hid (World.block_lt_of_cell? _ _ m0)
       clear hi4 hch4))
  rw [rounds_succ]
  go_wp2_with (first
    | (go_at_call 94; refine (HIr.out (w.heap.size :: P) ((L ++ [((a, n), x)]) ++ und (b, m) l) _ I4.out R4.out HLA.out.2 (HP.out _ HSZ4.out)).mono ?_; rintro e w5 ⟨rfl, hi5, hch5⟩
       have I5 := Lib.hid hi5
       have C5 := Lib.hid (C4.out.trans hch5)
       clear hi5 hch5))
  rw [rounds_succ]
  go_wp2
  go_end0
  refine ⟨rfl, ?_, C5.out.less⟩
  have h5 := I5.out.less
  rw [HRes.out]
  simpa [List.append_assoc] using h5

theorem und_any (B : Nat) (b : Nat) (hb : b < 4294967296) (m : Int) (hm : I64 m) : ∀ (T : Sh) (P : List Nat) (L : List En) (w : World) (v : Value) (gs : List Nat), ColI B P L w → Lies w T v gs → (∀ k ∈ gs, k < B) → WF T → L.length + (ents T).length ≤ 1000 → (∀ m ∈ P, m < w.heap.size ∧ B < m) →
    Calls Try.prog 94 #[v, .agg #[.int .u32 b, .int .i64 m], .func (.func 90) #[.pointer (some ⟨B, 0, none⟩)] #[]] w fun en w' => en = .returned (.tuple #[]) ∧ ColI B P (L ++ und (b, m) T) w' ∧ Ch B P w w'
  | .nil, P, L, w, v, gs, hI, hl, _, _, _, _ => by
    obtain ⟨rfl, rfl⟩ := hl
    exact und_none B P L w b m hI _
  | .node q x s l r, P, L, w, v, gs, hI, hlies, hgs, hw, hlen, hP => by
    obtain ⟨g, c, d, gl, gr, rfl, rfl, hn, hl, hr⟩ := hlies
    have ihl := fun P L w hI hl' hlen hP => und_any B b hb m hm l P L w c gl hI hl' (fun k hk => hgs k (by simp [hk])) hw.2.2.2.1 hlen hP
    have ihr := fun P L w hI hr' hlen hP => und_any B b hb m hm r P L w d gr hI hr' (fun k hk => hgs k (by simp [hk])) hw.2.2.2.2 hlen hP
    cases ho : (C q (b, m) || C (b, m) q)
    · exact und_out B P L w g q x s c d l r gl gr b hb m hm hI hn hl hr hgs hw.1 hlen hP ho ihl ihr
    · cases s
      · exact und_free B P L w g q x c d l r gl gr b hb m hm hI hn hl hr hgs hw.1 hlen hP ho ihl ihr
      · cases hcv : C (b, m) q
        · exact und_miss B P L w g q x c d l r gl gr b hb m hm hI hn hl hr hgs hw.1 hlen hP ho hcv ihl ihr
        · exact und_hit B P L w g q x c d l r gl gr b hb m hm hI hn hl hr hgs hw.1 hlen hP ho hcv ihl ihr
end Go.Proofs.Ytkelfjgjgjdinaa
