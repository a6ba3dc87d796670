/-
  The reference's place: how many entries lie below a prefix.
-/
import Derived.Test.YtkelfjgjgjdinaaTxA
namespace Go.Proofs.Ytkelfjgjgjdinaa
open Go.RowKit
set_option linter.unusedSimpArgs false
set_option linter.unusedVariables false
set_option maxHeartbeats 2000000
set_option maxRecDepth 100000

theorem cmpP_not_lt {x y : PP} (h : ¬ ltP x y) : cmpP x.1 x.2 y.1 y.2 = 0 ∨ cmpP x.1 x.2 y.1 y.2 = 1 := by
  rcases ltP_or x y with h1 | h1 | h1
  · exact absurd h1 h
  · subst h1; left; unfold cmpP; rw [if_neg (by omega), if_neg (by omega)]; exact cmpI_eq _
  · right; unfold ltP at h1; unfold cmpP
    rcases h1 with h1 | ⟨h1, h2⟩
    · rw [if_neg (by omega), if_pos h1]
    · rw [if_neg (by omega), if_neg (by omega)]; exact cmpI_gt h2
/-- how many entries lie below p -/
def plc (L : List En) (p : PP) : Nat := (L.takeWhile (fun x => decide (ltP x.1 p))).length
theorem plc_le (L : List En) (p : PP) : plc L p ≤ L.length := by
  unfold plc; exact (List.takeWhile_prefix _).length_le
theorem plc_eq {L : List En} {p : PP} {k : Nat} (h1 : ∀ x ∈ L.take k, ltP x.1 p) (h2 : ∀ x, L[k]? = some x → ¬ ltP x.1 p) (hk : k ≤ L.length) : plc L p = k := by
  unfold plc
  have e : L = L.take k ++ L.drop k := (List.take_append_drop k L).symm
  rw [e, List.takeWhile_append_of_pos (fun x hx => by simpa using h1 x hx)]
  have : (L.drop k).takeWhile (fun x => decide (ltP x.1 p)) = [] := by
    cases hd : L.drop k with
    | nil => rfl
    | cons x r =>
      have hx : L[k]? = some x := by
        have := List.getElem?_drop (xs := L) (i := k) (j := 0)
        rw [hd] at this; simpa using this.symm
      rw [List.takeWhile_cons_of_neg (by simpa using h2 x hx)]
  rw [this, List.append_nil, List.length_take]; omega
theorem take_plc {L : List En} (ha : AscE L) (p : PP) : L.take (plc L p) = L.filter (fun x => decide (ltP x.1 p)) := by
  unfold plc
  induction L with
  | nil => rfl
  | cons x r ih =>
    obtain ⟨h1, h2⟩ := List.pairwise_cons.1 ha
    by_cases h : ltP x.1 p
    · rw [List.takeWhile_cons_of_pos (by simpa using h), List.filter_cons_of_pos (by simpa using h), List.length_cons, List.take_succ_cons, ih h2]
    · rw [List.takeWhile_cons_of_neg (by simpa using h), List.filter_cons_of_neg (by simpa using h)]
      rw [filter_none (fun y hy => by simp; exact fun hy2 => h (ltP_trans (h1 y hy) hy2))]; rfl
theorem drop_plc {L : List En} (ha : AscE L) (p : PP) : L.drop (plc L p) = L.filter (fun x => !decide (ltP x.1 p)) := by
  unfold plc
  induction L with
  | nil => rfl
  | cons x r ih =>
    obtain ⟨h1, h2⟩ := List.pairwise_cons.1 ha
    by_cases h : ltP x.1 p
    · rw [List.takeWhile_cons_of_pos (by simpa using h), List.filter_cons_of_neg (by simpa using h), List.length_cons, List.drop_succ_cons, ih h2]
    · rw [List.takeWhile_cons_of_neg (by simpa using h), List.filter_cons_of_pos (by simpa using h)]
      rw [List.filter_eq_self.2 (fun y hy => by simp; exact fun hy2 => h (ltP_trans (h1 y hy) hy2))]; rfl
theorem place_any (g : Nat) (v : Value) (L : List En) (w : World) (p : PP) (h : RefR w g v L) (hl : L.length ≤ 1000) :
    Calls Try.prog 109 #[.pointer (some ⟨g, 0, none⟩), .agg #[.int .u32 (p.1 : Nat), .int .i64 p.2]] w fun en w' => en = .returned (.int .i64 (plc L p : Nat)) ∧ Below w.heap.size w w' := by
  obtain ⟨a, n⟩ := p
  have hcell := h.cell
  have hglt := lt_of_block h.blk
  obtain ⟨ad, cap, rfl, hcc⟩ := h.rd
  have HC := Lib.hid hcc
  have B0 := Lib.hid (below_alloc w (.cells #[.int .u32 (a : Int), .int .i64 n] 28))
  have HT := Lib.hid hcell
  clear h hcc hcell
  go_enter Try.func109, Try.ntmps109
  go_wp2_with fail
  go_loopg [5] L.length (fun g s5 wr => ∃ k : Nat, k ≤ L.length ∧ L.length - k ≤ g ∧ s5 = .int .i64 k ∧ (∀ x ∈ L.take k, ltP x.1 (a, n)) ∧ Below (w.heap.size + 1) (w.alloc (.cells #[.int .u32 (a : Int), .int .i64 n] 28)) wr)
  case atStart => exact ⟨0, by omega, by omega, by go_num, fun x hx => by simp at hx, Below.refl _ _⟩
  case round =>
    obtain ⟨k, hk, hg, rfl, hno, hbw⟩ := hrel
    have HB := Lib.hid hbw
    have HN := Lib.hid hno
    have HBw : Hid (Below w.heap.size w wr) := B0.out.trans (hbw.mono (by omega))
    have b0 : wr.cell? ⟨w.heap.size, 0, none⟩ = some (.int .u32 a) := carry' hbw (by omega) (by simp)
    have b1 : wr.cell? ⟨w.heap.size, 1, none⟩ = some (.int .i64 n) := carry' hbw (by omega) (by simp)
    have g0 := carry' HBw.out hglt HT.out
    clear hbw hno
    by_cases hlt : k < L.length
    · obtain ⟨x, hx⟩ : ∃ x, L[k]? = some x := ⟨_, List.getElem?_eq_getElem hlt⟩
      obtain ⟨blk, off, rfl, hblk, hc0, hc1, hc2⟩ := HC.out k x hx
      have f0 := carry' HBw.out hblk hc0
      have f1 := carry' HBw.out hblk hc1
      have HX := Lib.hid hx
      clear hc0 hc1 hc2 hx
      obtain ⟨⟨xa, xn⟩, xv⟩ := x
      dsimp only at f0 f1
      have s1 : ((k : Int) < (L.length : Int)) := by omega
      have s2 : (0 : Int) ≤ (k : Int) := by omega
      have sd : decide (k < L.length) = true := decide_eq_true hlt
      by_cases hlp : ltP (xa, xn) (a, n)
      · have HCm : Hid (∀ W, Calls Try.prog 57 #[.agg #[.int .u32 xa, .int .i64 xn], .agg #[.int .u32 a, .int .i64 n]] W fun e w' => e = .returned (.int .i64 (-1)) ∧ Below W.heap.size W w') := fun W => by
          have := rcompare_any xa xn a n W
          rw [show cmpP xa xn a n = -1 from cmpP_of_lt hlp] at this; exact this
        have HLp := Lib.hid hlp
        clear hlp
        go_wp2_with fail
        go_region_held3 (fun w' => w'.cell? ⟨w.heap.size, 0, none⟩ = some (.int .u32 a) ∧ w'.cell? ⟨w.heap.size, 1, none⟩ = some (.int .i64 n) ∧ w'.cell? ⟨g, 0, none⟩ = some (.slice (some ⟨blk, off, none⟩) L.length cap) ∧ w'.cell? ⟨blk, off + k * 3, none⟩ = some (.int .u32 xa) ∧ w'.cell? ⟨blk, off + k * 3 + 1, none⟩ = some (.int .i64 xn))
          (first | exact ⟨b0, b1, g0, f0, f1⟩ | assumption)
          (first | (go_at_call 57; refine (HCm.out _).mono ?_; rintro e w6 ⟨rfl, hb6⟩; have hk6 := And.intro (carry hb6 b0) (And.intro (carry hb6 b1) (And.intro (carry hb6 g0) (And.intro (carry hb6 f0) (carry hb6 f1)))); have B6 : Hid (Below (w.heap.size + 1) (w.alloc (.cells #[.int .u32 (a : Int), .int .i64 n] 28)) w6) := HB.out.trans ((below_drewN (Below.refl _ _) 1 |>.trans hb6).mono (by have := HB.out.size; simp at this; simp; omega)); clear hb6))
        all_goals clear hk6 s1 s2 sd
        all_goals go_wp2
        all_goals go_roundg (L.length - (k + 1))
        all_goals first
          | omega
          | (refine ⟨k + 1, by omega, Nat.le_refl _, by go_num, ?_, B6.out⟩
             rw [take_snoc HX.out]
             intro y hy
             rcases List.mem_append.1 hy with hy | hy
             · exact HN.out y hy
             · simp at hy; subst hy; exact HLp.out)
      · have HP : Hid (plc L (a, n) = k) := plc_eq HN.out (fun y hy => by have : y = ((xa, xn), xv) := Option.some.inj (hy.symm.trans HX.out); rw [this]; exact hlp) hk
        have HCm : Hid (∀ W, Calls Try.prog 57 #[.agg #[.int .u32 xa, .int .i64 xn], .agg #[.int .u32 a, .int .i64 n]] W fun e w' => ∃ z : Int, e = .returned (.int .i64 z) ∧ 0 ≤ z ∧ z ≤ 1 ∧ Below W.heap.size W w') := fun W => by
          refine (rcompare_any xa xn a n W).mono fun e w' ⟨h1, h2⟩ => ?_
          rcases cmpP_not_lt (x := (xa, xn)) (y := (a, n)) hlp with h | h
          · exact ⟨0, by rw [h1]; exact congrArg (fun z => Ending.returned (.int .i64 z)) h, by omega, by omega, h2⟩
          · exact ⟨1, by rw [h1]; exact congrArg (fun z => Ending.returned (.int .i64 z)) h, by omega, by omega, h2⟩
        clear hlp
        go_wp2_with fail
        go_region_held3 (fun w' => w'.cell? ⟨w.heap.size, 0, none⟩ = some (.int .u32 a) ∧ w'.cell? ⟨w.heap.size, 1, none⟩ = some (.int .i64 n) ∧ w'.cell? ⟨g, 0, none⟩ = some (.slice (some ⟨blk, off, none⟩) L.length cap) ∧ w'.cell? ⟨blk, off + k * 3, none⟩ = some (.int .u32 xa) ∧ w'.cell? ⟨blk, off + k * 3 + 1, none⟩ = some (.int .i64 xn))
          (first | exact ⟨b0, b1, g0, f0, f1⟩ | assumption)
          (first | (go_at_call 57; refine (HCm.out _).mono ?_; rintro e w6 ⟨z, rfl, hz0, hz1, hb6⟩; have hk6 := And.intro (carry hb6 b0) (And.intro (carry hb6 b1) (And.intro (carry hb6 g0) (And.intro (carry hb6 f0) (carry hb6 f1)))); have hzd : decide (z < 0) = false := decide_eq_false (by omega); have B6 : Hid (Below w.heap.size w w6) := HBw.out.trans ((below_drewN (Below.refl _ _) 1 |>.trans hb6).mono HBw.out.size); clear hb6))
        all_goals clear hk6 s1 s2 sd
        all_goals go_wp2
        all_goals go_ret
        all_goals exact ⟨by rw [HP.out]; rfl, B6.out⟩
    · have hkl : k = L.length := by omega
      subst hkl
      have HP : Hid (plc L (a, n) = L.length) := plc_eq HN.out (fun y hy => by rw [List.getElem?_eq_none (Nat.le_refl _)] at hy; cases hy) (Nat.le_refl _)
      have sd : decide (L.length < L.length) = false := by simp
      go_wp2_with fail
      go_quiet (fail)
      go_wp2
      go_ret
      exact ⟨by rw [HP.out]; rfl, below_drewN HBw.out _⟩
end Go.Proofs.Ytkelfjgjgjdinaa
