/-
  The walks of the reference's Above and Under.
-/
import Derived.Test.YtkelfjgjgjdinaaTxE
namespace Go.Proofs.Ytkelfjgjgjdinaa
open Go.RowKit
set_option linter.unusedSimpArgs false
set_option linter.unusedVariables false
set_option maxHeartbeats 2000000
set_option maxRecDepth 100000

theorem filter_snoc_yes {f : En → Bool} {l : List En} {x : En} (h : f x = true) : (l ++ [x]).filter f = l.filter f ++ [x] := by rw [List.filter_append]; simp [h]
theorem filter_snoc_no {f : En → Bool} {l : List En} {x : En} (h : f x = false) : (l ++ [x]).filter f = l.filter f := by rw [List.filter_append]; simp [h]
theorem rabove_any (g : Nat) (v : Value) (L : List En) (w : World) (p : PP) (hb : p.1 < 4294967296) (hm : I64 p.2) (h : RefR w g v L) (hv : ∀ x ∈ L, PV x.1) (hl : L.length ≤ 900) :
    Calls Try.prog 84 #[.pointer (some ⟨g, 0, none⟩), .agg #[.int .u32 (p.1 : Nat), .int .i64 p.2]] w fun en w' => ∃ v', en = .returned v' ∧ RdE w' v' (L.filter (fun x => C x.1 p)) ∧ Below w.heap.size w w' := by
  obtain ⟨i0, hi, hz0, hz1, hz2⟩ := info_parts info65
  obtain ⟨a, n⟩ := p
  have HA := Lib.hid (rall_any g v L _ (h.below (below_alloc w (.cells #[.int .u32 (a : Int), .int .i64 n] 28))) (by omega))
  have HPV := Lib.hid hv
  clear h hv
  go_enter Try.func84, Try.ntmps84
  go_wp2_with fail
  refine HA.out.mono ?_
  rintro e w1 ⟨v1, rfl, hr1, hb1⟩
  have c0 : w1.cell? ⟨w.heap.size, 0, none⟩ = some (.int .u32 a) := carry hb1 (by simp)
  have c1 : w1.cell? ⟨w.heap.size, 1, none⟩ = some (.int .i64 n) := carry hb1 (by simp)
  have B1 := Lib.hid (below_then (below_alloc _ _) hb1)
  obtain ⟨ad, cap, rfl, hcc⟩ := hr1
  have HC := Lib.hid hcc
  clear hb1 hcc
  go_wp2_with fail
  go_loopg [11, 5] L.length (fun gg s11 s5 wr => ∃ (k : Nat) (ov : Value), k ≤ L.length ∧ L.length - k ≤ gg ∧ s11 = .int .i64 k ∧ ov = s5 ∧ wr.ownsRow w1.heap.size 65 3 ov ((L.take k).filter (fun x => C x.1 (a, n))).length (flatE ((L.take k).filter (fun x => C x.1 (a, n)))) ∧ Below w1.heap.size w1 wr)
  case atStart => exact ⟨0, _, by omega, by omega, rfl, rfl, World.ownsRow_nil _ _ _ _, Below.refl _ _⟩
  case round =>
    obtain ⟨k, ov, hk, hg, rfl, rfl, hown, hbw⟩ := hrel
    have HO := Lib.hid hown
    have HB := Lib.hid hbw
    have HL : Hid (((L.take k).filter (fun x => C x.1 (a, n))).length ≤ 900) := by have h1 := List.length_filter_le (fun x : En => C x.1 (a, n)) (L.take k); have h2 := List.length_take_le k L; exact Nat.le_trans h1 (by omega)
    clear hown hbw
    have b0 := carry' HB.out (World.block_lt_of_cell? _ _ c0) c0
    have b1 := carry' HB.out (World.block_lt_of_cell? _ _ c1) c1
    have bl0 : ∀ o, (wr.alloc o).cell? ⟨w.heap.size, 0, none⟩ = some (.int .u32 a) := fun o => carry (below_alloc _ _) b0
    have bl1 : ∀ o, (wr.alloc o).cell? ⟨w.heap.size, 1, none⟩ = some (.int .i64 n) := fun o => carry (below_alloc _ _) b1
    by_cases hlt : k < L.length
    · obtain ⟨x, hx⟩ : ∃ x, L[k]? = some x := ⟨_, List.getElem?_eq_getElem hlt⟩
      obtain ⟨blk, off, rfl, hblk, hc0, hc1, hc2⟩ := HC.out k x hx
      have f0 := carry' HB.out hblk hc0
      have f1 := carry' HB.out hblk hc1
      have f2 := carry' HB.out hblk hc2
      have HX := Lib.hid hx
      have hpx := HPV.out x (List.mem_of_getElem? hx)
      have hjx := (V_iff _).1 hpx.2
      clear hc0 hc1 hc2 hx
      obtain ⟨⟨xa, xn⟩, xv⟩ := x
      have hxa : xa < 4294967296 := hpx.1
      have hxn : I64 xn := by have h1 := hjx.1; have h2 := hjx.2.1; dsimp only at h1 h2; constructor <;> omega
      dsimp only at f0 f1 f2
      clear hpx hjx
      have HCv : Hid (∀ W, Calls Try.prog 40 #[.agg #[.int .u32 xa, .int .i64 xn], .agg #[.int .u32 a, .int .i64 n]] W fun e w' => e = .returned (.bool (C (xa, xn) (a, n))) ∧ Below W.heap.size W w') := fun W => rcovers_any xa hxa xn hxn a hb n hm W
      have HF : Hid (∀ bb, C (xa, xn) (a, n) = bb → (L.take (k + 1)).filter (fun x => C x.1 (a, n)) = (L.take k).filter (fun x => C x.1 (a, n)) ++ if bb then [((xa, xn), xv)] else []) := fun bb hbb => by
        rw [take_snoc HX.out]
        cases bb
        · rw [filter_snoc_no (f := fun x : En => C x.1 (a, n)) hbb]; simp
        · rw [filter_snoc_yes (f := fun x : En => C x.1 (a, n)) hbb]; rfl
      cases hcv : C (xa, xn) (a, n)
      · have HF1 := Lib.hid (HF.out false hcv)
        rw [hcv] at HCv
        clear hcv
        go_wp2_with (go_at_call 40; refine (HCv.out _).mono ?_; rintro e w2 ⟨rfl, hb2⟩; have B2 := Lib.hid hb2; clear hb2)
        go_roundg (L.length - (k + 1))
        case measure => omega
        case rel =>
          refine ⟨k + 1, ov, by omega, Nat.le_refl _, by go_num, rfl, ?_, (HB.out.alloc HB.out.size _).trans (B2.out.mono (by have := HB.out.size; simp; omega))⟩
          rw [HF1.out]
          simp only [Bool.false_eq_true, if_false, List.append_nil]
          exact own_below (own_below HO.out (below_alloc _ _)) B2.out
      · have HF1 := Lib.hid (HF.out true hcv)
        rw [hcv] at HCv
        clear hcv
        go_wp2_with (first
          | (go_at_call 40; refine (HCv.out _).mono ?_; rintro e w2 ⟨rfl, hb2⟩
             have B2 : Hid (Below w1.heap.size w1 w2) := (HB.out.alloc HB.out.size (.cells #[.int .u32 (xa : Int), .int .i64 xn, .int .i64 xv] 65)).trans (hb2.mono (Nat.le_trans HB.out.size (below_alloc _ _).size))
             have O2 := Lib.hid (own_below (own_below HO.out (below_alloc _ (.cells #[.int .u32 (xa : Int), .int .i64 xn, .int .i64 xv] 65))) hb2)
             have g0 : w2.cell? ⟨wr.heap.size, 0, none⟩ = some (.int .u32 xa) := carry hb2 (by simp)
             have g1 : w2.cell? ⟨wr.heap.size, 1, none⟩ = some (.int .i64 xn) := carry hb2 (by simp)
             have g2 : w2.cell? ⟨wr.heap.size, 2, none⟩ = some (.int .i64 xv) := carry hb2 (by simp)
             clear hb2)
          | (at_builtin; refine wpList_append_own_at _ rfl (.tmp 19) (.tmp 21) 56 rfl w1.heap.size 65 i0 (.agg #[.int .u32 0, .int .i64 0, .int .i64 0]) 3 24 Try.underlying56 hi hz0 hz1 hz2 rfl (by decide) ov _ _ rfl (own_below O2.out (below_alloc _ _)) ⟨w2.heap.size, 0, none⟩ 1 1 [.int .u32 (xa : Int), .int .i64 xn, .int .i64 xv] rfl rfl (cell_three_at _ _ _ _ _ rfl) (one_three _ _ _) (by have := HL.out; unfold maxLen; omega) (by have := HL.out; omega) (Nat.le_trans B2.out.size (below_alloc _ _).size) ?_; intro v3 w3 hown hgr hnil hat
             have Y3 := Lib.hid hown
             have B3 : Hid (Below w1.heap.size w1 w3) := (B2.out.alloc B2.out.size _).grown hgr (Nat.le_trans B2.out.size (below_alloc _ _).size) (fun k hk => (own_lt O2.out hk).1)
             clear hown hgr hnil hat))
        go_roundg (L.length - (k + 1))
        case measure => omega
        case rel =>
          refine ⟨k + 1, v3, by omega, Nat.le_refl _, by go_num, rfl, ?_, B3.out⟩
          rw [HF1.out]
          simp only [if_true]
          rw [flatE_snoc, List.length_append]
          exact Y3.out
    · have hkl : k = L.length := by omega
      subst hkl
      have ho := HO.out
      rw [List.take_length] at ho
      have HO2 := Lib.hid (rdE_own ho)
      clear ho
      go_wp2
      go_ret
      exact ⟨ov, rfl, HO2.out, B1.out.trans (HB.out.mono B1.out.size)⟩
theorem runder_any (g : Nat) (v : Value) (L : List En) (w : World) (p : PP) (hb : p.1 < 4294967296) (hm : I64 p.2) (h : RefR w g v L) (hv : ∀ x ∈ L, PV x.1) (hl : L.length ≤ 900) :
    Calls Try.prog 85 #[.pointer (some ⟨g, 0, none⟩), .agg #[.int .u32 (p.1 : Nat), .int .i64 p.2]] w fun en w' => ∃ v', en = .returned v' ∧ RdE w' v' (L.filter (fun x => C p x.1)) ∧ Below w.heap.size w w' := by
  obtain ⟨i0, hi, hz0, hz1, hz2⟩ := info_parts info65
  obtain ⟨a, n⟩ := p
  have HA := Lib.hid (rall_any g v L _ (h.below (below_alloc w (.cells #[.int .u32 (a : Int), .int .i64 n] 28))) (by omega))
  have HPV := Lib.hid hv
  clear h hv
  go_enter Try.func85, Try.ntmps85
  go_wp2_with fail
  refine HA.out.mono ?_
  rintro e w1 ⟨v1, rfl, hr1, hb1⟩
  have c0 : w1.cell? ⟨w.heap.size, 0, none⟩ = some (.int .u32 a) := carry hb1 (by simp)
  have c1 : w1.cell? ⟨w.heap.size, 1, none⟩ = some (.int .i64 n) := carry hb1 (by simp)
  have B1 := Lib.hid (below_then (below_alloc _ _) hb1)
  obtain ⟨ad, cap, rfl, hcc⟩ := hr1
  have HC := Lib.hid hcc
  clear hb1 hcc
  go_wp2_with fail
  go_loopg [11, 5] L.length (fun gg s11 s5 wr => ∃ (k : Nat) (ov : Value), k ≤ L.length ∧ L.length - k ≤ gg ∧ s11 = .int .i64 k ∧ ov = s5 ∧ wr.ownsRow w1.heap.size 65 3 ov ((L.take k).filter (fun x => C (a, n) x.1)).length (flatE ((L.take k).filter (fun x => C (a, n) x.1))) ∧ Below w1.heap.size w1 wr)
  case atStart => exact ⟨0, _, by omega, by omega, rfl, rfl, World.ownsRow_nil _ _ _ _, Below.refl _ _⟩
  case round =>
    obtain ⟨k, ov, hk, hg, rfl, rfl, hown, hbw⟩ := hrel
    have HO := Lib.hid hown
    have HB := Lib.hid hbw
    have HL : Hid (((L.take k).filter (fun x => C (a, n) x.1)).length ≤ 900) := by have h1 := List.length_filter_le (fun x : En => C (a, n) x.1) (L.take k); have h2 := List.length_take_le k L; exact Nat.le_trans h1 (by omega)
    clear hown hbw
    have b0 := carry' HB.out (World.block_lt_of_cell? _ _ c0) c0
    have b1 := carry' HB.out (World.block_lt_of_cell? _ _ c1) c1
    have bl0 : ∀ o, (wr.alloc o).cell? ⟨w.heap.size, 0, none⟩ = some (.int .u32 a) := fun o => carry (below_alloc _ _) b0
    have bl1 : ∀ o, (wr.alloc o).cell? ⟨w.heap.size, 1, none⟩ = some (.int .i64 n) := fun o => carry (below_alloc _ _) b1
    by_cases hlt : k < L.length
    · obtain ⟨x, hx⟩ : ∃ x, L[k]? = some x := ⟨_, List.getElem?_eq_getElem hlt⟩
      obtain ⟨blk, off, rfl, hblk, hc0, hc1, hc2⟩ := HC.out k x hx
      have f0 := carry' HB.out hblk hc0
      have f1 := carry' HB.out hblk hc1
      have f2 := carry' HB.out hblk hc2
      have HX := Lib.hid hx
      have hpx := HPV.out x (List.mem_of_getElem? hx)
      have hjx := (V_iff _).1 hpx.2
      clear hc0 hc1 hc2 hx
      obtain ⟨⟨xa, xn⟩, xv⟩ := x
      have hxa : xa < 4294967296 := hpx.1
      have hxn : I64 xn := by have h1 := hjx.1; have h2 := hjx.2.1; dsimp only at h1 h2; constructor <;> omega
      dsimp only at f0 f1 f2
      clear hpx hjx
      have HCv : Hid (∀ W, Calls Try.prog 40 #[.agg #[.int .u32 a, .int .i64 n], .agg #[.int .u32 xa, .int .i64 xn]] W fun e w' => e = .returned (.bool (C (a, n) (xa, xn))) ∧ Below W.heap.size W w') := fun W => rcovers_any a hb n hm xa hxa xn hxn W
      have HF : Hid (∀ bb, C (a, n) (xa, xn) = bb → (L.take (k + 1)).filter (fun x => C (a, n) x.1) = (L.take k).filter (fun x => C (a, n) x.1) ++ if bb then [((xa, xn), xv)] else []) := fun bb hbb => by
        rw [take_snoc HX.out]
        cases bb
        · rw [filter_snoc_no (f := fun x : En => C (a, n) x.1) hbb]; simp
        · rw [filter_snoc_yes (f := fun x : En => C (a, n) x.1) hbb]; rfl
      cases hcv : C (a, n) (xa, xn)
      · have HF1 := Lib.hid (HF.out false hcv)
        rw [hcv] at HCv
        clear hcv
        go_wp2_with (go_at_call 40; refine (HCv.out _).mono ?_; rintro e w2 ⟨rfl, hb2⟩; have B2 := Lib.hid hb2; clear hb2)
        go_roundg (L.length - (k + 1))
        case measure => omega
        case rel =>
          refine ⟨k + 1, ov, by omega, Nat.le_refl _, by go_num, rfl, ?_, (HB.out.alloc HB.out.size _).trans (B2.out.mono (by have := HB.out.size; simp; omega))⟩
          rw [HF1.out]
          simp only [Bool.false_eq_true, if_false, List.append_nil]
          exact own_below (own_below HO.out (below_alloc _ _)) B2.out
      · have HF1 := Lib.hid (HF.out true hcv)
        rw [hcv] at HCv
        clear hcv
        go_wp2_with (first
          | (go_at_call 40; refine (HCv.out _).mono ?_; rintro e w2 ⟨rfl, hb2⟩
             have B2 : Hid (Below w1.heap.size w1 w2) := (HB.out.alloc HB.out.size (.cells #[.int .u32 (xa : Int), .int .i64 xn, .int .i64 xv] 65)).trans (hb2.mono (Nat.le_trans HB.out.size (below_alloc _ _).size))
             have O2 := Lib.hid (own_below (own_below HO.out (below_alloc _ (.cells #[.int .u32 (xa : Int), .int .i64 xn, .int .i64 xv] 65))) hb2)
             have g0 : w2.cell? ⟨wr.heap.size, 0, none⟩ = some (.int .u32 xa) := carry hb2 (by simp)
             have g1 : w2.cell? ⟨wr.heap.size, 1, none⟩ = some (.int .i64 xn) := carry hb2 (by simp)
             have g2 : w2.cell? ⟨wr.heap.size, 2, none⟩ = some (.int .i64 xv) := carry hb2 (by simp)
             clear hb2)
          | (at_builtin; refine wpList_append_own_at _ rfl (.tmp 19) (.tmp 21) 56 rfl w1.heap.size 65 i0 (.agg #[.int .u32 0, .int .i64 0, .int .i64 0]) 3 24 Try.underlying56 hi hz0 hz1 hz2 rfl (by decide) ov _ _ rfl (own_below O2.out (below_alloc _ _)) ⟨w2.heap.size, 0, none⟩ 1 1 [.int .u32 (xa : Int), .int .i64 xn, .int .i64 xv] rfl rfl (cell_three_at _ _ _ _ _ rfl) (one_three _ _ _) (by have := HL.out; unfold maxLen; omega) (by have := HL.out; omega) (Nat.le_trans B2.out.size (below_alloc _ _).size) ?_; intro v3 w3 hown hgr hnil hat
             have Y3 := Lib.hid hown
             have B3 : Hid (Below w1.heap.size w1 w3) := (B2.out.alloc B2.out.size _).grown hgr (Nat.le_trans B2.out.size (below_alloc _ _).size) (fun k hk => (own_lt O2.out hk).1)
             clear hown hgr hnil hat))
        go_roundg (L.length - (k + 1))
        case measure => omega
        case rel =>
          refine ⟨k + 1, v3, by omega, Nat.le_refl _, by go_num, rfl, ?_, B3.out⟩
          rw [HF1.out]
          simp only [if_true]
          rw [flatE_snoc, List.length_append]
          exact Y3.out
    · have hkl : k = L.length := by omega
      subst hkl
      have ho := HO.out
      rw [List.take_length] at ho
      have HO2 := Lib.hid (rdE_own ho)
      clear ho
      go_wp2
      go_ret
      exact ⟨ov, rfl, HO2.out, B1.out.trans (HB.out.mono B1.out.size)⟩
end Go.Proofs.Ytkelfjgjgjdinaa
