/-
  The walk of Run.
-/
import Derived.Test.YtmlpbhankgojpaaSpSe
import Derived.Test.YtmlpbhankgojpaaSpSa
import Derived.Test.YtmlpbhankgojpaaGrE
namespace Go.Proofs.Ytmlpbhankgojpaa
open Go.RowKit HM GM SP
set_option linter.unusedSimpArgs false
set_option linter.unusedVariables false
set_option maxHeartbeats 4000000
set_option maxRecDepth 100000

theorem rdi_own {w : World} {B : Nat} {v : Value} {r : List Int} (h : w.ownsRow B 3 1 v r.length (ints r)) : RdI w v r := by
  rcases h.2 with ⟨rfl, hn⟩ | ⟨g, cap, cur, rfl, _, hg, h1, h2, _⟩
  · have : r = [] := List.length_eq_zero_iff.1 hn
    subst this; exact rdI_nil w
  · refine ⟨_, cap, rfl, h1, by unfold maxLen at h2; omega, fun k x hk => ⟨g, 0, rfl, lt_block hg, ?_⟩⟩
    have hkl := (List.getElem?_eq_some_iff.1 hk).1
    rw [Nat.zero_add, h.cellAt k (by omega)]
    exact ints_get hk
theorem rdr_own {w : World} {B : Nat} {H n : Nat} {vs : List Value} {rows : List (List Int)} (h : w.ownsRow B 25 1 (.slice (some ⟨H, 0, none⟩) n n) n vs) (hr : RS w vs rows) (hn : n ≤ 65536) : RdR w (.slice (some ⟨H, 0, none⟩) n n) rows := by
  have hl : vs.length = n := by have := h.1; omega
  have hl2 : rows.length = n := by rw [← hr.len]; exact hl
  refine ⟨some ⟨H, 0, none⟩, n, by rw [hl2], by omega, by omega, fun k r hk => ?_⟩
  have hkl := (List.getElem?_eq_some_iff.1 hk).1
  have hkn : k < n := by omega
  refine ⟨H, 0, gVl vs k, rfl, (row_lt h rfl).2, ?_, ?_⟩
  · rw [Nat.zero_add, h.cellAt k (by omega)]; exact gVl_get (by omega)
  · have := hr.row k hkl
    have e : gL rows k = r := by unfold gL; rw [hk]; rfl
    rw [e] at this
    exact rdi_own this
theorem TR.rdt {w : World} {D H P n : Nat} {dist : List Int} {hv pv : List Value} {hops pars : List (List Int)} (h : TR w D H P n dist hv pv hops pars) (hn : n ≤ 65536) (root : Int) : RdT w (treeV root D H P n) ⟨root, dist, hops, pars⟩ := by
  refine ⟨_, _, _, rfl, ?_, rdr_own h.rh h.hh hn, rdr_own h.rp h.pp hn⟩
  have := h.rd
  have e : dist.length = n := h.ld
  rw [← e] at this ⊢
  exact rdi_own this
def zeroT : Tre := ⟨0, [], [], []⟩
def zeroV : Value := .agg #[.int .i64 0, .slice none 0 0, .slice none 0 0, .slice none 0 0]
theorem rdt_zero (w : World) : RdT w zeroV zeroT := ⟨_, _, _, rfl, rdI_nil w, ⟨none, 0, rfl, Nat.le_refl _, by omega, fun k r h => by simp [zeroT] at h⟩, ⟨none, 0, rfl, Nat.le_refl _, by omega, fun k r h => by simp [zeroT] at h⟩⟩
/-- the tree of a root -/
def IsTre (R N : Int) (l : List E) (root : Int) (t : Tre) : Prop := ∃ n : Nat, (n : Int) = R + N ∧ t.root = root ∧ Tree R N l root n t.dist t.hops t.pars
theorem IsTre.unique {R N : Int} {l : List E} {root : Int} {t u : Tre} (h : IsTre R N l root t) (k : IsTre R N l root u) : t = u := by
  obtain ⟨n, e1, e2, e3⟩ := h
  obtain ⟨m, f1, f2, f3⟩ := k
  obtain rfl : n = m := by omega
  obtain ⟨g1, g2, g3⟩ := e3.unique f3
  obtain ⟨a1, a2, a3, a4⟩ := t
  obtain ⟨b1, b2, b3, b4⟩ := u
  dsimp only at *
  subst e2 f2 g1 g2 g3; rfl
/-- what Run answers -/
def RunR (R N : Int) (l : List E) (root : Int) (t : Tre) (er : Int) : Prop :=
  (chk R N l ≠ 0 ∧ er = chk R N l ∧ t = zeroT) ∨ (chk R N l = 0 ∧ ¬ (0 ≤ root ∧ root < R) ∧ er = 5 ∧ t = zeroT) ∨ (chk R N l = 0 ∧ (0 ≤ root ∧ root < R) ∧ er = 0 ∧ IsTre R N l root t)
theorem RunR.unique {R N : Int} {l : List E} {root er er' : Int} {t t' : Tre} (h : RunR R N l root t er) (k : RunR R N l root t' er') : t = t' ∧ er = er' := by
  rcases h with ⟨a1, a2, a3⟩ | ⟨a1, a2, a3, a4⟩ | ⟨a1, a2, a3, a4⟩ <;> rcases k with ⟨b1, b2, b3⟩ | ⟨b1, b2, b3, b4⟩ | ⟨b1, b2, b3, b4⟩
  · exact ⟨by rw [a3, b3], by rw [a2, b2]⟩
  · exact absurd b1 a1
  · exact absurd b1 a1
  · exact absurd a1 b1
  · exact ⟨by rw [a4, b4], by rw [a3, b3]⟩
  · exact absurd b2 a2
  · exact absurd a1 b1
  · exact absurd a2 b2
  · exact ⟨a4.unique b4, by rw [a3, b3]⟩
def RunQ (R N : Int) (l : List E) (root : Int) (w : World) (e : Ending) (w' : World) : Prop := ∃ t er tv, e = .returned (.tuple #[tv, .int .i64 er]) ∧ RdT w' tv t ∧ RunR R N l root t er ∧ Below w.heap.size w w'
theorem box_kept2 {W w1 : World} {b : Nat} (hb : Below W.heap.size W w1) (h : W.heap[b]? = some box0) :
    w1.cell? ⟨b, 0, none⟩ = some (.int .i64 0) ∧ w1.cell? ⟨b, 1, none⟩ = some (.slice none 0 0) ∧ w1.cell? ⟨b, 2, none⟩ = some (.slice none 0 0) ∧ w1.cell? ⟨b, 3, none⟩ = some (.slice none 0 0) ∧ ∀ o, w1.frozen? ⟨b, o, none⟩ = false := by
  have h' := (hb.block b (lt_block h)).trans h
  exact ⟨cell_of h' rfl, cell_of h' rfl, cell_of h' rfl, cell_of h' rfl, free_of h'⟩
theorem set4 {w1 : World} {b : Nat} {a0 a1 a2 a3 : Value} (h : w1.heap[b]? = some (.cells #[a0, a1, a2, a3] 28 (0, 0))) (v0 v1 v2 v3 : Value) :
    ((((w1.setCell ⟨b, 0, none⟩ v0).setCell ⟨b, 1, none⟩ v1).setCell ⟨b, 2, none⟩ v2).setCell ⟨b, 3, none⟩ v3).heap[b]? = some (.cells #[v0, v1, v2, v3] 28 (0, 0)) := by
  rw [heap_set_eq (heap_set_eq (heap_set_eq (heap_set_eq h)))]; rfl
theorem set4_below {w w1 : World} {b : Nat} (hb : Below w.heap.size w w1) (hl : w.heap.size ≤ b) (v0 v1 v2 v3 : Value) : Below w.heap.size w ((((w1.setCell ⟨b, 0, none⟩ v0).setCell ⟨b, 1, none⟩ v1).setCell ⟨b, 2, none⟩ v2).setCell ⟨b, 3, none⟩ v3) :=
  (((hb.setCell hl _).setCell hl _).setCell hl _).setCell hl _
theorem run_err (R N : Int) (l : List E) (s : Value) (root : Int) (w : World) (hR : I64 R) (hN : I64 N) (hr : Rd3 w s l) (hc : chk R N l ≠ 0) :
    Calls Try.prog 12 #[.agg #[.int .i64 R, .int .i64 N, s], .int .i64 root] w (RunQ R N l root w) := by
  have HCK : Hid (∀ W, Below w.heap.size w W → Calls Try.prog 27 #[.agg #[.int .i64 R, .int .i64 N, s]] W fun e w' => e = .returned (.int .i64 (chk R N l)) ∧ Below W.heap.size W w') := fun W hW => check_any R N s l W hR hN (hr.below hW)
  have HRR : Hid (RunR R N l root zeroT (chk R N l)) := .inl ⟨hc, rfl, rfl⟩
  obtain ⟨ad, cap, hform⟩ := rd3_slice hr
  obtain ⟨L, hL⟩ : ∃ L, l.length = L := ⟨_, rfl⟩
  rw [hL] at hform
  subst hform
  have hb : (chk R N l != 0) = true := by simpa using hc
  generalize chk R N l = c at *
  clear hr hL hc
  go_enter Try.func12, Try.ntmps12
  go_wp2_with fail
  have o2 := heap_new1 (w.alloc (.cells #[.int .i64 R, .int .i64 N, .slice ad L cap] 24)) box0 (b := w.heap.size + 1) (by simp)
  have HB := Lib.hid (below_then (below_alloc w (.cells #[.int .i64 R, .int .i64 N, .slice ad L cap] 24)) (below_alloc _ box0))
  go_at_call 27
  refine (HCK.out _ HB.out).mono ?_
  rintro e w1 ⟨rfl, hb1⟩
  have HB1 := Lib.hid (below_then HB.out hb1)
  have HO := Lib.hid ((hb1.block _ (lt_block o2)).trans o2)
  obtain ⟨r0, r1, r2, r3, rz⟩ := box_kept2 hb1 o2
  clear hb1 o2 HB
  go_wp2_with fail
  have HF := Lib.hid (And.intro (set4 HO.out (.int .i64 0) (.slice none 0 0) (.slice none 0 0) (.slice none 0 0)) (set4_below HB1.out (Nat.le_succ _) (.int .i64 0) (.slice none 0 0) (.slice none 0 0) (.slice none 0 0)))
  clear r0 r1 r2 r3 rz
  generalize ((((w1.setCell ⟨w.heap.size + 1, 0, none⟩ (.int .i64 0)).setCell ⟨w.heap.size + 1, 1, none⟩ (.slice none 0 0)).setCell ⟨w.heap.size + 1, 2, none⟩ (.slice none 0 0)).setCell ⟨w.heap.size + 1, 3, none⟩ (.slice none 0 0)) = Wf at *
  have q0 : Wf.cell? ⟨w.heap.size + 1, 0, none⟩ = some (.int .i64 0) := cell_of HF.out.1 rfl
  have q1 : Wf.cell? ⟨w.heap.size + 1, 1, none⟩ = some (.slice none 0 0) := cell_of HF.out.1 rfl
  have q2 : Wf.cell? ⟨w.heap.size + 1, 2, none⟩ = some (.slice none 0 0) := cell_of HF.out.1 rfl
  have q3 : Wf.cell? ⟨w.heap.size + 1, 3, none⟩ = some (.slice none 0 0) := cell_of HF.out.1 rfl
  exact bodyPost_ret (v := .tuple #[.agg #[.int .i64 0, .slice none 0 0, .slice none 0 0, .slice none 0 0], .int .i64 c]) (by simp [results, Try.results12, go_sem, q0, q1, q2, q3]) rfl ⟨_, _, _, rfl, rdt_zero Wf, HRR.out, HF.out.2⟩
theorem run_range (R N : Int) (l : List E) (s : Value) (root : Int) (w : World) (hR : I64 R) (hN : I64 N) (hr : Rd3 w s l) (hc : chk R N l = 0) (hro : ¬ (0 ≤ root ∧ root < R)) :
    Calls Try.prog 12 #[.agg #[.int .i64 R, .int .i64 N, s], .int .i64 root] w (RunQ R N l root w) := by
  have HCK : Hid (∀ W, Below w.heap.size w W → Calls Try.prog 27 #[.agg #[.int .i64 R, .int .i64 N, s]] W fun e w' => e = .returned (.int .i64 (chk R N l)) ∧ Below W.heap.size W w') := fun W hW => check_any R N s l W hR hN (hr.below hW)
  have HRR : Hid (RunR R N l root zeroT 5) := .inr (.inl ⟨hc, hro, rfl, rfl⟩)
  obtain ⟨ad, cap, hform⟩ := rd3_slice hr
  obtain ⟨L, hL⟩ : ∃ L, l.length = L := ⟨_, rfl⟩
  rw [hL] at hform
  subst hform
  rw [hc] at HCK
  clear hr hL hc
  go_enter Try.func12, Try.ntmps12
  go_wp2_with fail
  have o2 := heap_new1 (w.alloc (.cells #[.int .i64 R, .int .i64 N, .slice ad L cap] 24)) box0 (b := w.heap.size + 1) (by simp)
  have HB := Lib.hid (below_then (below_alloc w (.cells #[.int .i64 R, .int .i64 N, .slice ad L cap] 24)) (below_alloc _ box0))
  go_at_call 27
  refine (HCK.out _ HB.out).mono ?_
  rintro e w1 ⟨rfl, hb1⟩
  have HB1 := Lib.hid (below_then HB.out hb1)
  have HO := Lib.hid ((hb1.block _ (lt_block o2)).trans o2)
  obtain ⟨r0, r1, r2, r3, rz⟩ := box_kept2 hb1 o2
  have hg1 := (hb1.block _ (by simp; omega)).trans (heap_up (o := box0) (heap_new1 w (.cells #[.int .i64 R, .int .i64 N, .slice ad L cap] 24) (b := w.heap.size) rfl))
  have g0 : w1.cell? ⟨w.heap.size, 0, none⟩ = some (.int .i64 R) := cell_of hg1 rfl
  clear hb1 o2 HB hg1
  by_cases hneg : root < 0
  · clear hro
    go_wp2_with fail
    have HF := Lib.hid (And.intro (set4 HO.out (.int .i64 0) (.slice none 0 0) (.slice none 0 0) (.slice none 0 0)) (set4_below HB1.out (Nat.le_succ _) (.int .i64 0) (.slice none 0 0) (.slice none 0 0) (.slice none 0 0)))
    clear r0 r1 r2 r3 rz
    generalize ((((w1.setCell ⟨w.heap.size + 1, 0, none⟩ (.int .i64 0)).setCell ⟨w.heap.size + 1, 1, none⟩ (.slice none 0 0)).setCell ⟨w.heap.size + 1, 2, none⟩ (.slice none 0 0)).setCell ⟨w.heap.size + 1, 3, none⟩ (.slice none 0 0)) = Wf at *
    have q0 : Wf.cell? ⟨w.heap.size + 1, 0, none⟩ = some (.int .i64 0) := cell_of HF.out.1 rfl
    have q1 : Wf.cell? ⟨w.heap.size + 1, 1, none⟩ = some (.slice none 0 0) := cell_of HF.out.1 rfl
    have q2 : Wf.cell? ⟨w.heap.size + 1, 2, none⟩ = some (.slice none 0 0) := cell_of HF.out.1 rfl
    have q3 : Wf.cell? ⟨w.heap.size + 1, 3, none⟩ = some (.slice none 0 0) := cell_of HF.out.1 rfl
    exact bodyPost_ret (v := .tuple #[.agg #[.int .i64 0, .slice none 0 0, .slice none 0 0, .slice none 0 0], .int .i64 5]) (by simp [results, Try.results12, go_sem, q0, q1, q2, q3]) rfl ⟨_, _, _, rfl, rdt_zero Wf, HRR.out, HF.out.2⟩
  · have h2 : R ≤ root := by omega
    clear hro
    go_wp2_with fail
    have HF := Lib.hid (And.intro (set4 HO.out (.int .i64 0) (.slice none 0 0) (.slice none 0 0) (.slice none 0 0)) (set4_below HB1.out (Nat.le_succ _) (.int .i64 0) (.slice none 0 0) (.slice none 0 0) (.slice none 0 0)))
    clear r0 r1 r2 r3 rz
    generalize ((((w1.setCell ⟨w.heap.size + 1, 0, none⟩ (.int .i64 0)).setCell ⟨w.heap.size + 1, 1, none⟩ (.slice none 0 0)).setCell ⟨w.heap.size + 1, 2, none⟩ (.slice none 0 0)).setCell ⟨w.heap.size + 1, 3, none⟩ (.slice none 0 0)) = Wf at *
    have q0 : Wf.cell? ⟨w.heap.size + 1, 0, none⟩ = some (.int .i64 0) := cell_of HF.out.1 rfl
    have q1 : Wf.cell? ⟨w.heap.size + 1, 1, none⟩ = some (.slice none 0 0) := cell_of HF.out.1 rfl
    have q2 : Wf.cell? ⟨w.heap.size + 1, 2, none⟩ = some (.slice none 0 0) := cell_of HF.out.1 rfl
    have q3 : Wf.cell? ⟨w.heap.size + 1, 3, none⟩ = some (.slice none 0 0) := cell_of HF.out.1 rfl
    exact bodyPost_ret (v := .tuple #[.agg #[.int .i64 0, .slice none 0 0, .slice none 0 0, .slice none 0 0], .int .i64 5]) (by simp [results, Try.results12, go_sem, q0, q1, q2, q3]) rfl ⟨_, _, _, rfl, rdt_zero Wf, HRR.out, HF.out.2⟩
theorem run_ok (R N : Int) (l : List E) (s : Value) (root : Int) (w : World) (hR : I64 R) (hN : I64 N) (hr : Rd3 w s l) (hc : chk R N l = 0) (hro : 0 ≤ root ∧ root < R) :
    Calls Try.prog 12 #[.agg #[.int .i64 R, .int .i64 N, s], .int .i64 root] w (RunQ R N l root w) := by
  have HCK : Hid (∀ W, Below w.heap.size w W → Calls Try.prog 27 #[.agg #[.int .i64 R, .int .i64 N, s]] W fun e w' => e = .returned (.int .i64 (chk R N l)) ∧ Below W.heap.size W w') := fun W hW => check_any R N s l W hR hN (hr.below hW)
  obtain ⟨x, rfl⟩ : ∃ x : Nat, root = x := ⟨root.toNat, by omega⟩
  have hv := chk_iff.1 hc
  have h1 := hv.r; have h2 := hv.n; have h3 := hv.s
  obtain ⟨n, hn⟩ : ∃ n : Nat, (n : Int) = R + N := ⟨(R + N).toNat, by omega⟩
  have hnb : n ≤ 128 := by omega
  have HSE : Hid (∀ W, Below w.heap.size w W → Calls Try.prog 28 #[.agg #[.int .i64 R, .int .i64 N, s], .int .i64 (x : Int)] W (SeQ R N l x n W)) := fun W hW => search_any R N l s n x W hv (hr.below hW) hn hro.2
  have HRO := Lib.hid (And.intro hc (And.intro hro hn))
  obtain ⟨ad, cap, hform⟩ := rd3_slice hr
  obtain ⟨L, hL⟩ : ∃ L, l.length = L := ⟨_, rfl⟩
  rw [hL] at hform
  subst hform
  rw [hc] at HCK
  have n1 : ¬ (x : Int) < 0 := by omega
  have n2 : ¬ R ≤ (x : Int) := by omega
  clear hr hL hc hv hn h1 h2 h3 hro
  go_enter Try.func12, Try.ntmps12
  go_wp2_with fail
  have o2 := heap_new1 (w.alloc (.cells #[.int .i64 R, .int .i64 N, .slice ad L cap] 24)) box0 (b := w.heap.size + 1) (by simp)
  have HB := Lib.hid (below_then (below_alloc w (.cells #[.int .i64 R, .int .i64 N, .slice ad L cap] 24)) (below_alloc _ box0))
  go_at_call 27
  refine (HCK.out _ HB.out).mono ?_
  rintro e w1 ⟨rfl, hb1⟩
  have HB1 := Lib.hid (below_then HB.out hb1)
  have HO := Lib.hid ((hb1.block _ (lt_block o2)).trans o2)
  obtain ⟨r0, r1, r2, r3, rz⟩ := box_kept2 hb1 o2
  have hg1 := (hb1.block _ (by simp; omega)).trans (heap_up (o := box0) (heap_new1 w (.cells #[.int .i64 R, .int .i64 N, .slice ad L cap] 24) (b := w.heap.size) rfl))
  have g0 : w1.cell? ⟨w.heap.size, 0, none⟩ = some (.int .i64 R) := cell_of hg1 rfl
  have g1 : w1.cell? ⟨w.heap.size, 1, none⟩ = some (.int .i64 N) := cell_of hg1 rfl
  have g2 : w1.cell? ⟨w.heap.size, 2, none⟩ = some (.slice ad L cap) := cell_of hg1 rfl
  clear hb1 o2 HB hg1 r0 r1 r2 r3 rz
  go_wp2_with fail
  go_at_call 28
  refine (HSE.out _ HB1.out).mono ?_
  rintro e w2 ⟨D, H, P, dist, hv, pv, hops, pars, rfl, ht, hT, hlo, hb2⟩
  have HB2 := Lib.hid (below_then HB1.out hb2)
  have HO2 := Lib.hid ((hb2.block _ (lt_block HO.out)).trans HO.out)
  have HLT := Lib.hid (lt_block HO.out)
  obtain ⟨r0, r1, r2, r3, rz⟩ := box_kept2 hb2 HO.out
  have HTR := Lib.hid (And.intro ht (And.intro hT hlo))
  clear ht hT hlo hb2
  unfold treeV
  go_wp2_with fail
  have HF := Lib.hid (And.intro (set4 HO2.out (.int .i64 (x : Int)) (.slice (some ⟨D, 0, none⟩) n n) (.slice (some ⟨H, 0, none⟩) n n) (.slice (some ⟨P, 0, none⟩) n n)) (set4_below HB2.out (Nat.le_succ _) (.int .i64 (x : Int)) (.slice (some ⟨D, 0, none⟩) n n) (.slice (some ⟨H, 0, none⟩) n n) (.slice (some ⟨P, 0, none⟩) n n)))
  have HRD := Lib.hid (TR.rdt (HTR.out.1.congr (w' := (((w2.setCell ⟨w.heap.size + 1, 0, none⟩ (.int .i64 (x : Int))).setCell ⟨w.heap.size + 1, 1, none⟩ (.slice (some ⟨D, 0, none⟩) n n)).setCell ⟨w.heap.size + 1, 2, none⟩ (.slice (some ⟨H, 0, none⟩) n n)).setCell ⟨w.heap.size + 1, 3, none⟩ (.slice (some ⟨P, 0, none⟩) n n)) fun g hg => by
    have h1 := HTR.out.2.2 g hg
    have hne : g ≠ w.heap.size + 1 := by have := HLT.out; omega
    rw [heap_set_ne hne, heap_set_ne hne, heap_set_ne hne, heap_set_ne hne]) (by omega) (x : Int))
  clear r0 r1 r2 r3 rz
  generalize ((((w2.setCell ⟨w.heap.size + 1, 0, none⟩ (.int .i64 (x : Int))).setCell ⟨w.heap.size + 1, 1, none⟩ (.slice (some ⟨D, 0, none⟩) n n)).setCell ⟨w.heap.size + 1, 2, none⟩ (.slice (some ⟨H, 0, none⟩) n n)).setCell ⟨w.heap.size + 1, 3, none⟩ (.slice (some ⟨P, 0, none⟩) n n)) = Wf at *
  have q0 : Wf.cell? ⟨w.heap.size + 1, 0, none⟩ = some (.int .i64 (x : Int)) := cell_of HF.out.1 rfl
  have q1 : Wf.cell? ⟨w.heap.size + 1, 1, none⟩ = some (.slice (some ⟨D, 0, none⟩) n n) := cell_of HF.out.1 rfl
  have q2 : Wf.cell? ⟨w.heap.size + 1, 2, none⟩ = some (.slice (some ⟨H, 0, none⟩) n n) := cell_of HF.out.1 rfl
  have q3 : Wf.cell? ⟨w.heap.size + 1, 3, none⟩ = some (.slice (some ⟨P, 0, none⟩) n n) := cell_of HF.out.1 rfl
  exact bodyPost_ret (v := .tuple #[.agg #[.int .i64 (x : Int), .slice (some ⟨D, 0, none⟩) n n, .slice (some ⟨H, 0, none⟩) n n, .slice (some ⟨P, 0, none⟩) n n], .int .i64 0]) (by simp [results, Try.results12, go_sem, q0, q1, q2, q3]) rfl ⟨_, _, _, rfl, HRD.out, .inr (.inr ⟨HRO.out.1, HRO.out.2.1, rfl, n, HRO.out.2.2, rfl, HTR.out.2.1⟩), HF.out.2⟩
theorem run_any (R N : Int) (l : List E) (s : Value) (root : Int) (w : World) (hR : I64 R) (hN : I64 N) (hr : Rd3 w s l) :
    Calls Try.prog 12 #[.agg #[.int .i64 R, .int .i64 N, s], .int .i64 root] w (RunQ R N l root w) := by
  by_cases hc : chk R N l = 0
  · by_cases hro : 0 ≤ root ∧ root < R
    · exact run_ok R N l s root w hR hN hr hc hro
    · exact run_range R N l s root w hR hN hr hc hro
  · exact run_err R N l s root w hR hN hr hc
end Go.Proofs.Ytmlpbhankgojpaa
