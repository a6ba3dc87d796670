/-
  The walk of the reference's Insert: the whole.
-/
import Derived.Test.YtbcgfgklajdelaaDoorWalkQ
import Derived.Deep.RegionHeld3
namespace Go.Proofs.YtbcgfgklajdelaaDoor
open Go.RowKit
set_option linter.unusedSimpArgs false
set_option linter.unusedVariables false
set_option maxHeartbeats 4000000
set_option maxRecDepth 100000

def fo (p : PP) (l : List PP) (k : Nat) : List PP × Bool := (l.take k).foldl (stp p) ([], false)
theorem fo_succ {p : PP} {l : List PP} {k : Nat} {x : PP} (h : l[k]? = some x) : fo p l (k + 1) = stp p (fo p l k) x := by
  unfold fo
  have hlt := (List.getElem?_eq_some_iff.1 h).1
  rw [List.take_succ_eq_append_getElem hlt, List.foldl_append, (List.getElem?_eq_some_iff.1 h).2]
  rfl
theorem stp_len (p : PP) (s : List PP × Bool) (x : PP) : (stp p s x).1.length + (if (stp p s x).2 then 0 else 1) ≤ s.1.length + (if s.2 then 0 else 1) + 1 := by
  obtain ⟨o, b⟩ := s
  unfold stp
  cases b <;> (repeat' split) <;> simp_all <;> omega
theorem fo_len (p : PP) (l : List PP) : ∀ k, k ≤ l.length → (fo p l k).1.length + (if (fo p l k).2 then 0 else 1) ≤ k + 1
  | 0, _ => by simp [fo]
  | k + 1, h => by
    have ih := fo_len p l k (by omega)
    have hk : l[k]? = some l[k] := List.getElem?_eq_getElem (by omega)
    rw [fo_succ hk]
    have := stp_len p (fo p l k) l[k]
    omega
theorem insR_fo (p : PP) (l : List PP) : insR l p = if (fo p l l.length).2 then (fo p l l.length).1 else (fo p l l.length).1 ++ [p] := by
  unfold insR fo; rw [List.take_length]

theorem rinsert_any (l : List PP) (a : Nat) (n : Int) (v : Value) (w : World) (hl : l.length ≤ 1000) (hr : Rd w v l) :
    Calls Tryd.prog 58 #[v, .agg #[.int .u32 a, .int .i64 n]] w fun e w' => ∃ v', e = .returned v' ∧ Rd w' v' (insR l (a, n)) ∧ Below w.heap.size w w' := by
  obtain ⟨i0, hi, hz0, hz1, hz2⟩ := info_parts info25
  obtain ⟨ad, cap, rfl, hc⟩ := hr
  have HC : Hid (∀ k x, l[k]? = some x → ∃ b off, ad = some ⟨b, off, none⟩ ∧ b < w.heap.size ∧ w.cell? ⟨b, off + k * 2, none⟩ = some (.int .u32 (x.1 : Int)) ∧ w.cell? ⟨b, off + k * 2 + 1, none⟩ = some (.int .i64 x.2)) := hc
  clear hc
  have FIN : Hid (insR l (a, n) = if (fo (a, n) l l.length).2 then (fo (a, n) l l.length).1 else (fo (a, n) l l.length).1 ++ [(a, n)]) := insR_fo _ _
  go_enter Tryd.func58, Tryd.ntmps58
  go_wp2
  go_loopg [5, 6, 11] l.length (fun g s5 s6 s11 wr => ∃ (k : Nat) (v : Value) (o : List PP) (d : Bool), k ≤ l.length ∧ l.length - k ≤ g ∧ v = s5 ∧ s6 = .bool d ∧ s11 = .int .i64 k ∧ fo (a, n) l k = (o, d) ∧ InsInv w wr a n v o)
  case atStart => exact ⟨0, _, [], false, by omega, by omega, rfl, rfl, rfl, rfl, InsInv.start _ _ _ _⟩
  case round =>
    obtain ⟨k, v, o, d, hk, hg, rfl, rfl, rfl, hfo, hinv⟩ := hrel
    have HI : Hid (InsInv w wr a n v o) := hinv
    have HF : Hid (fo (a, n) l k = (o, d)) := hfo
    have HL : Hid (o.length ≤ k + 1) := by have := fo_len (a, n) l k hk; rw [hfo] at this; simp at this; exact Nat.le_trans (Nat.le_add_right _ _) this
    clear hinv hfo
    by_cases hlt : k < l.length
    · obtain ⟨x, hx⟩ : ∃ x, l[k]? = some x := ⟨_, List.getElem?_eq_getElem hlt⟩
      obtain ⟨blk, off, rfl, hblk, hc0, hc1⟩ := HC.out k x hx
      have HX : Hid (l[k]? = some x) := hx
      obtain ⟨b, m⟩ := x
      clear hx
      have hB := HI.out.2.1
      have e0 : wr.cell? ⟨w.heap.size, 0, none⟩ = some (.int .u32 (a : Int)) := HI.out.2.2.1
      have e1 : wr.cell? ⟨w.heap.size, 1, none⟩ = some (.int .i64 n) := HI.out.2.2.2
      have f0 := (hB.1.cell (p := ⟨blk, off + k * 2, none⟩) hblk).trans hc0
      have f1 := (hB.1.cell (p := ⟨blk, off + k * 2 + 1, none⟩) hblk).trans hc1
      have HC2 := Lib.hid (And.intro hblk (And.intro hc0 hc1))
      clear hB hc0 hc1
      have S_keep : ∀ W W1 : World, (W.cell? ⟨w.heap.size, 0, none⟩ = some (.int .u32 (a : Int)) ∧ W.cell? ⟨w.heap.size, 1, none⟩ = some (.int .i64 n) ∧ W.cell? ⟨blk, off + k * 2, none⟩ = some (.int .u32 (b : Int)) ∧ W.cell? ⟨blk, off + k * 2 + 1, none⟩ = some (.int .i64 m) ∧ Hid (InsInv w W a n v o)) → Below W.heap.size W W1 →
          (W1.cell? ⟨w.heap.size, 0, none⟩ = some (.int .u32 (a : Int)) ∧ W1.cell? ⟨w.heap.size, 1, none⟩ = some (.int .i64 n) ∧ W1.cell? ⟨blk, off + k * 2, none⟩ = some (.int .u32 (b : Int)) ∧ W1.cell? ⟨blk, off + k * 2 + 1, none⟩ = some (.int .i64 m) ∧ Hid (InsInv w W1 a n v o)) := by
        rintro W W1 ⟨h0, h1, h2, h3, h4⟩ hb
        have h5 := h4.out.below hb
        have hbk : blk < W.heap.size := Nat.lt_of_lt_of_le hblk h4.out.2.1.1.size
        exact ⟨h5.2.2.1, h5.2.2.2, (hb.cell (p := ⟨blk, off + k * 2, none⟩) hbk).trans h2, (hb.cell (p := ⟨blk, off + k * 2 + 1, none⟩) hbk).trans h3, h5⟩
      have SK := Lib.hid S_keep
      clear S_keep
      rcases ltP_or (a, n) (b, m) with h | h | h
      · have R : ∀ W, Calls Tryd.prog 23 #[.agg #[.int .u32 (a : Nat), .int .i64 n], .agg #[.int .u32 (b : Nat), .int .i64 m]] W fun e w' => e = .returned (.int .i64 (-1)) ∧ Below W.heap.size W w' := fun W => cmpP_of_lt h ▸ rcompare_any a n b m W
        have HR := Lib.hid R
        have HH := Lib.hid h
        clear R h
        cases d
        · go_wp2_with fail
          go_region_held3 (fun w' => w'.cell? ⟨w.heap.size, 0, none⟩ = some (.int .u32 (a : Int)) ∧ w'.cell? ⟨w.heap.size, 1, none⟩ = some (.int .i64 n) ∧ w'.cell? ⟨blk, off + k * 2, none⟩ = some (.int .u32 (b : Int)) ∧ w'.cell? ⟨blk, off + k * 2 + 1, none⟩ = some (.int .i64 m) ∧ Hid (InsInv w w' a n v o))
            (first | exact ⟨e0, e1, f0, f1, HI.out.drewN 1⟩ | go_keep)
            (first | (go_at_call 23; refine (HR.out _).mono ?_; rintro e w1 ⟨rfl, hb⟩; have hkk := SK.out _ _ ‹_› hb; clear hb))
          all_goals (
            obtain ⟨g0, g1, g2, g3, hI⟩ := hkk
            clear e0 e1 f0 f1
            go_wp2_with (first
              | (at_builtin; refine wpList_append_own _ rfl (.tmp 26) (.tmp 28) 48 rfl (w.heap.size + 1) 25 i0 (.agg #[.int .u32 0, .int .i64 0]) 2 16 Tryd.underlying48 hi hz0 hz1 hz2 rfl (by decide) v o.length (flat o) rfl (hI.out.1.alloc _) ⟨w1.heap.size, 0, none⟩ 1 1 [.int .u32 (a : Int), .int .i64 n] rfl rfl (cell_two_new _ _ _ _) (one_two _ _) (by have := HL.out; unfold maxLen; omega) (by have := HL.out; omega) (by have := hI.out.2.1.2; simp; omega) ?_; intro v1 w2 hown2 hgrow2 hnil2
                 have X2 := Lib.hid (hI.out.push a n _ hown2 hgrow2)
                 have g0 := (X2.out.2.1.1.cell (p := ⟨blk, off + k * 2, none⟩) HC2.out.1).trans HC2.out.2.1
                 have g1 := (X2.out.2.1.1.cell (p := ⟨blk, off + k * 2 + 1, none⟩) HC2.out.1).trans HC2.out.2.2
                 clear hown2 hgrow2 hnil2)
              | (at_builtin; refine wpList_append_own _ rfl (.tmp 32) (.tmp 37) 48 rfl (w.heap.size + 1) 25 i0 (.agg #[.int .u32 0, .int .i64 0]) 2 16 Tryd.underlying48 hi hz0 hz1 hz2 rfl (by decide) v1 (o ++ [(a, n)]).length (flat (o ++ [(a, n)])) rfl (X2.out.1.alloc _) ⟨w2.heap.size, 0, none⟩ 1 1 [.int .u32 (b : Int), .int .i64 m] rfl rfl (cell_two_new _ _ _ _) (one_two _ _) (by have := HL.out; (try rw [List.length_append]); unfold maxLen; (try simp); omega) (by have := HL.out; (try rw [List.length_append]); (try simp); omega) (by have := X2.out.2.1.2; simp; omega) ?_; intro v2 w3 hown3 hgrow3 hnil3
                 have X3 := Lib.hid (X2.out.push b m _ hown3 hgrow3)
                 clear hown3 hgrow3 hnil3)))
          go_roundg (l.length - (k + 1))
          case measure => omega
          case rel => exact ⟨k + 1, _, o ++ [(a, n)] ++ [(b, m)], true, by omega, Nat.le_refl _, rfl, rfl, by go_num, by rw [fo_succ HX.out, HF.out, stp, if_pos HH.out]; rfl, X3.out⟩
        · go_wp2_with fail
          go_region_held3 (fun w' => w'.cell? ⟨w.heap.size, 0, none⟩ = some (.int .u32 (a : Int)) ∧ w'.cell? ⟨w.heap.size, 1, none⟩ = some (.int .i64 n) ∧ w'.cell? ⟨blk, off + k * 2, none⟩ = some (.int .u32 (b : Int)) ∧ w'.cell? ⟨blk, off + k * 2 + 1, none⟩ = some (.int .i64 m) ∧ Hid (InsInv w w' a n v o))
            (first | exact ⟨e0, e1, f0, f1, HI.out.drewN 1⟩ | go_keep)
            (first | (go_at_call 23; refine (HR.out _).mono ?_; rintro e w1 ⟨rfl, hb⟩; have hkk := SK.out _ _ ‹_› hb; clear hb))
          all_goals (
            obtain ⟨g0, g1, g2, g3, hI⟩ := hkk
            clear e0 e1 f0 f1
            go_wp2_with (first
              | (at_builtin; refine wpList_append_own _ rfl (.tmp 32) (.tmp 37) 48 rfl (w.heap.size + 1) 25 i0 (.agg #[.int .u32 0, .int .i64 0]) 2 16 Tryd.underlying48 hi hz0 hz1 hz2 rfl (by decide) v o.length (flat o) rfl (hI.out.1.alloc _) ⟨w1.heap.size, 0, none⟩ 1 1 [.int .u32 (b : Int), .int .i64 m] rfl rfl (cell_two_new _ _ _ _) (one_two _ _) (by have := HL.out; (try rw [List.length_append]); unfold maxLen; (try simp); omega) (by have := HL.out; (try rw [List.length_append]); (try simp); omega) (by have := hI.out.2.1.2; simp; omega) ?_; intro v1 w2 hown3 hgrow3 hnil3
                 have X2 := Lib.hid (hI.out.push b m _ hown3 hgrow3)
                 clear hown3 hgrow3 hnil3)))
          go_roundg (l.length - (k + 1))
          case measure => omega
          case rel => exact ⟨k + 1, _, o ++ [(b, m)], true, by omega, Nat.le_refl _, rfl, rfl, by go_num, by rw [fo_succ HX.out, HF.out, stp, if_pos HH.out]; rfl, X2.out⟩
      · obtain ⟨rfl, rfl⟩ := Prod.mk.inj h
        have R : ∀ W, Calls Tryd.prog 23 #[.agg #[.int .u32 (a : Nat), .int .i64 n], .agg #[.int .u32 (a : Nat), .int .i64 n]] W fun e w' => e = .returned (.int .i64 0) ∧ Below W.heap.size W w' := fun W => cmpP_self (a, n) ▸ rcompare_any a n a n W
        have HR := Lib.hid R
        clear R h
        cases d
        · go_wp2_with fail
          go_region_held3 (fun w' => w'.cell? ⟨w.heap.size, 0, none⟩ = some (.int .u32 (a : Int)) ∧ w'.cell? ⟨w.heap.size, 1, none⟩ = some (.int .i64 n) ∧ w'.cell? ⟨blk, off + k * 2, none⟩ = some (.int .u32 (a : Int)) ∧ w'.cell? ⟨blk, off + k * 2 + 1, none⟩ = some (.int .i64 n) ∧ Hid (InsInv w w' a n v o))
            (first | exact ⟨e0, e1, f0, f1, HI.out.drewN 1⟩ | go_keep)
            (first | (go_at_call 23; refine (HR.out _).mono ?_; rintro e w1 ⟨rfl, hb⟩; have hkk := SK.out _ _ ‹_› hb; clear hb))
          all_goals (
            obtain ⟨g0, g1, g2, g3, hI⟩ := hkk
            clear e0 e1 f0 f1
            go_wp2_with (first
              | (at_builtin; refine wpList_append_own _ rfl (.tmp 26) (.tmp 28) 48 rfl (w.heap.size + 1) 25 i0 (.agg #[.int .u32 0, .int .i64 0]) 2 16 Tryd.underlying48 hi hz0 hz1 hz2 rfl (by decide) v o.length (flat o) rfl (hI.out.1.alloc _) ⟨w1.heap.size, 0, none⟩ 1 1 [.int .u32 (a : Int), .int .i64 n] rfl rfl (cell_two_new _ _ _ _) (one_two _ _) (by have := HL.out; unfold maxLen; omega) (by have := HL.out; omega) (by have := hI.out.2.1.2; simp; omega) ?_; intro v1 w2 hown2 hgrow2 hnil2
                 have X2 := Lib.hid (hI.out.push a n _ hown2 hgrow2)
                 have g0 := (X2.out.2.1.1.cell (p := ⟨blk, off + k * 2, none⟩) HC2.out.1).trans HC2.out.2.1
                 have g1 := (X2.out.2.1.1.cell (p := ⟨blk, off + k * 2 + 1, none⟩) HC2.out.1).trans HC2.out.2.2
                 clear hown2 hgrow2 hnil2)))
          go_roundg (l.length - (k + 1))
          case measure => omega
          case rel => exact ⟨k + 1, _, o ++ [(a, n)], true, by omega, Nat.le_refl _, rfl, rfl, by go_num, by rw [fo_succ HX.out, HF.out, stp, if_neg (ltP_irrefl _), if_pos rfl]; rfl, X2.out⟩
        · go_wp2_with fail
          go_region_held3 (fun w' => w'.cell? ⟨w.heap.size, 0, none⟩ = some (.int .u32 (a : Int)) ∧ w'.cell? ⟨w.heap.size, 1, none⟩ = some (.int .i64 n) ∧ w'.cell? ⟨blk, off + k * 2, none⟩ = some (.int .u32 (a : Int)) ∧ w'.cell? ⟨blk, off + k * 2 + 1, none⟩ = some (.int .i64 n) ∧ Hid (InsInv w w' a n v o))
            (first | exact ⟨e0, e1, f0, f1, HI.out.drewN 1⟩ | go_keep)
            (first | (go_at_call 23; refine (HR.out _).mono ?_; rintro e w1 ⟨rfl, hb⟩; have hkk := SK.out _ _ ‹_› hb; clear hb))
          all_goals (
            obtain ⟨g0, g1, g2, g3, hI⟩ := hkk
            clear e0 e1 f0 f1
            go_wp2)
          go_roundg (l.length - (k + 1))
          case measure => omega
          case rel => exact ⟨k + 1, _, o, true, by omega, Nat.le_refl _, rfl, rfl, by go_num, by rw [fo_succ HX.out, HF.out, stp, if_neg (ltP_irrefl _), if_pos rfl]; rfl, hI.out⟩
      · have R : ∀ W, Calls Tryd.prog 23 #[.agg #[.int .u32 (a : Nat), .int .i64 n], .agg #[.int .u32 (b : Nat), .int .i64 m]] W fun e w' => e = .returned (.int .i64 1) ∧ Below W.heap.size W w' := fun W => cmpP_of_gt h ▸ rcompare_any a n b m W
        have HR := Lib.hid R
        have HH := Lib.hid (And.intro (fun g : ltP (a, n) (b, m) => ltP_irrefl _ (ltP_trans g h)) (fun g : (a, n) = (b, m) => ltP_irrefl _ (g ▸ h)))
        clear R h
        cases d
        · go_wp2_with fail
          go_region_held3 (fun w' => w'.cell? ⟨w.heap.size, 0, none⟩ = some (.int .u32 (a : Int)) ∧ w'.cell? ⟨w.heap.size, 1, none⟩ = some (.int .i64 n) ∧ w'.cell? ⟨blk, off + k * 2, none⟩ = some (.int .u32 (b : Int)) ∧ w'.cell? ⟨blk, off + k * 2 + 1, none⟩ = some (.int .i64 m) ∧ Hid (InsInv w w' a n v o))
            (first | exact ⟨e0, e1, f0, f1, HI.out.drewN 1⟩ | go_keep)
            (first | (go_at_call 23; refine (HR.out _).mono ?_; rintro e w1 ⟨rfl, hb⟩; have hkk := SK.out _ _ ‹_› hb; clear hb))
          all_goals (
            obtain ⟨g0, g1, g2, g3, hI⟩ := hkk
            clear e0 e1 f0 f1
            go_wp2_with (first
              | (at_builtin; refine wpList_append_own _ rfl (.tmp 32) (.tmp 37) 48 rfl (w.heap.size + 1) 25 i0 (.agg #[.int .u32 0, .int .i64 0]) 2 16 Tryd.underlying48 hi hz0 hz1 hz2 rfl (by decide) v o.length (flat o) rfl (hI.out.1.alloc _) ⟨w1.heap.size, 0, none⟩ 1 1 [.int .u32 (b : Int), .int .i64 m] rfl rfl (cell_two_new _ _ _ _) (one_two _ _) (by have := HL.out; (try rw [List.length_append]); unfold maxLen; (try simp); omega) (by have := HL.out; (try rw [List.length_append]); (try simp); omega) (by have := hI.out.2.1.2; simp; omega) ?_; intro v1 w2 hown3 hgrow3 hnil3
                 have X2 := Lib.hid (hI.out.push b m _ hown3 hgrow3)
                 clear hown3 hgrow3 hnil3)))
          go_roundg (l.length - (k + 1))
          case measure => omega
          case rel => exact ⟨k + 1, _, o ++ [(b, m)], false, by omega, Nat.le_refl _, rfl, rfl, by go_num, by rw [fo_succ HX.out, HF.out, stp, if_neg HH.out.1, if_neg HH.out.2]; try rfl, X2.out⟩
        · go_wp2_with fail
          go_region_held3 (fun w' => w'.cell? ⟨w.heap.size, 0, none⟩ = some (.int .u32 (a : Int)) ∧ w'.cell? ⟨w.heap.size, 1, none⟩ = some (.int .i64 n) ∧ w'.cell? ⟨blk, off + k * 2, none⟩ = some (.int .u32 (b : Int)) ∧ w'.cell? ⟨blk, off + k * 2 + 1, none⟩ = some (.int .i64 m) ∧ Hid (InsInv w w' a n v o))
            (first | exact ⟨e0, e1, f0, f1, HI.out.drewN 1⟩ | go_keep)
            (first | (go_at_call 23; refine (HR.out _).mono ?_; rintro e w1 ⟨rfl, hb⟩; have hkk := SK.out _ _ ‹_› hb; clear hb))
          all_goals (
            obtain ⟨g0, g1, g2, g3, hI⟩ := hkk
            clear e0 e1 f0 f1
            go_wp2_with (first
              | (at_builtin; refine wpList_append_own _ rfl (.tmp 32) (.tmp 37) 48 rfl (w.heap.size + 1) 25 i0 (.agg #[.int .u32 0, .int .i64 0]) 2 16 Tryd.underlying48 hi hz0 hz1 hz2 rfl (by decide) v o.length (flat o) rfl (hI.out.1.alloc _) ⟨w1.heap.size, 0, none⟩ 1 1 [.int .u32 (b : Int), .int .i64 m] rfl rfl (cell_two_new _ _ _ _) (one_two _ _) (by have := HL.out; (try rw [List.length_append]); unfold maxLen; (try simp); omega) (by have := HL.out; (try rw [List.length_append]); (try simp); omega) (by have := hI.out.2.1.2; simp; omega) ?_; intro v1 w2 hown3 hgrow3 hnil3
                 have X2 := Lib.hid (hI.out.push b m _ hown3 hgrow3)
                 clear hown3 hgrow3 hnil3)))
          go_roundg (l.length - (k + 1))
          case measure => omega
          case rel => exact ⟨k + 1, _, o ++ [(b, m)], true, by omega, Nat.le_refl _, rfl, rfl, by go_num, by rw [fo_succ HX.out, HF.out, stp, if_neg HH.out.1, if_neg HH.out.2]; try rfl, X2.out⟩
    · have hkl : k = l.length := by omega
      subst hkl
      have e0 : wr.cell? ⟨w.heap.size, 0, none⟩ = some (.int .u32 (a : Int)) := HI.out.2.2.1
      have e1 : wr.cell? ⟨w.heap.size, 1, none⟩ = some (.int .i64 n) := HI.out.2.2.2
      cases d
      · go_wp2_with (first
          | (at_builtin; refine wpList_append_own _ rfl (.tmp 42) (.tmp 44) 48 rfl (w.heap.size + 1) 25 i0 (.agg #[.int .u32 0, .int .i64 0]) 2 16 Tryd.underlying48 hi hz0 hz1 hz2 rfl (by decide) v o.length (flat o) rfl (HI.out.1.alloc _) ⟨wr.heap.size, 0, none⟩ 1 1 [.int .u32 (a : Int), .int .i64 n] rfl rfl (cell_two_new _ _ _ _) (one_two _ _) (by have := HL.out; unfold maxLen; omega) (by have := HL.out; omega) (by have := HI.out.2.1.2; simp; omega) ?_; intro v1 w2 hown2 hgrow2 hnil2
             have X2 := Lib.hid (HI.out.push a n _ hown2 hgrow2)
             clear hown2 hgrow2 hnil2))
        go_ret
        refine ⟨_, rfl, ?_, X2.out.2.1.1⟩
        rw [FIN.out, HF.out]
        exact rd_own X2.out.1
      · go_wp2
        go_ret
        refine ⟨_, rfl, ?_, HI.out.2.1.1⟩
        rw [FIN.out, HF.out]
        exact rd_own HI.out.1
end Go.Proofs.YtbcgfgklajdelaaDoor
