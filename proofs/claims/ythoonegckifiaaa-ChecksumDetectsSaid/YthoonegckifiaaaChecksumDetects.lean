/-
  Proved: for every slice of bytes, all indices and every byte the law ChecksumDetects returns true (a change of one byte of a valid slice is detected unless 0 and 255 are exchanged, it always changes the Internet checksum, and the examples hold); no conditions.
-/
import Derived.Test.YthoonegckifiaaaFrame
namespace Go.Proofs.Ythoonegckifiaaa.checksumDetects
open Go.ChangeShapes Go.WideShapes Go.ChangeAt Go.RowKit
set_option linter.unusedSimpArgs false
set_option linter.unusedVariables false
set_option maxHeartbeats 4000000
set_option maxRecDepth 100000

theorem walk (l0 : List Nat) (v0 : Value) (a1 a2 : Int) (x3 : Nat) (w : World) (hl0 : l0.length ≤ 140737488351232) (hr0 : Rd w v0 l0) (h1 : I64 a1) (h2 : I64 a2) (h3 : x3 < 256) :
    Calls Try.prog 8 #[v0, .int .i64 a1, .int .i64 a2, .int .u8 x3] w fun e w' => e = .returned (.bool true) ∧ Below w.heap.size w w' := by
  obtain ⟨i0, hi, hz0, hz1, hz2⟩ := info_parts u8_info
  have HR := Lib.hid hr0
  obtain ⟨ad, cap, rfl, _⟩ := hr0
  by_cases hin : 0 ≤ a1 ∧ a1 + 1 < (l0.length : Int)
  · obtain ⟨a, rfl⟩ := Int.eq_ofNat_of_zero_le hin.1
    have ha : a + 1 < l0.length := by omega
    have HBY := Lib.hid (seal_bytes HR.out.bytes a ha)
    have HVC := Lib.hid (seal_val l0 a ha)
    obtain ⟨c, hc⟩ : ∃ c, c = seal_ l0 a := ⟨_, rfl⟩
    have hf := sealed_yes l0 _ a w (by omega) HR.out ha
    have hcl : c.length = l0.length := by rw [hc, seal_len]
    rw [← hc] at hf HBY HVC
    clear hc
    rw [hcl] at hf
    have HCL := Lib.hid hcl
    have HLC : Hid (c.length ≤ 140737488355328) := by unfold Hid; omega
    have hf2 : Calls Try.prog 19 #[.slice ad l0.length cap, .int .i64 a] w fun e w' => ∃ g cp, e = .returned (.tuple #[.slice (some ⟨g, 0, none⟩) l0.length cp, .bool true]) ∧ w'.ownsRow w.heap.size 5 1 (.slice (some ⟨g, 0, none⟩) l0.length cp) l0.length (u8s c) ∧ Below w.heap.size w w' :=
      hf.mono fun e w' ⟨v, he, ho, hb⟩ => by
        obtain ⟨g, cp, rfl, _, _⟩ := ho.form (by omega)
        exact ⟨g, cp, he, ho, hb⟩
    have HF := Lib.hid hf2
    have HVAL : Hid (∀ W v, Rd W v c → Calls Try.prog 15 #[v] W fun e w' => e = .returned (.bool true) ∧ Below W.heap.size W w') := fun W v hr => HVC.out ▸ valid_any c v W HLC.out hr
    have HINT : Hid (∀ W v l, l.length ≤ 140737488355328 → Rd W v l → Calls Try.prog 10 #[v] W fun e w' => e = .returned (.int .i64 (inet l)) ∧ Below W.heap.size W w') := fun W v l hl hr => internet_any l v W hl hr
    have HRO : Hid (∀ W B g cp, W.ownsRow B 5 1 (.slice (some ⟨g, 0, none⟩) l0.length cp) l0.length (u8s c) → Rd W (.slice (some ⟨g, 0, none⟩) l0.length cp) c) := fun W B g cp h => rd_own (by rw [HCL.out]; exact h) HBY.out
    clear hf hf2 hcl hin
    by_cases hi2 : 0 ≤ a2 ∧ a2 < (l0.length : Int)
    · obtain ⟨i, rfl⟩ := Int.eq_ofNat_of_zero_le hi2.1
      have hil : i < l0.length := by omega
      obtain ⟨y, hy⟩ : ∃ y, c[i]? = some y := ⟨_, List.getElem?_eq_getElem (by have := HCL.out; omega)⟩
      have hyb := HBY.out.get hy
      have HCELL : Hid (∀ (W : World) B g cp, W.ownsRow B 5 1 (.slice (some ⟨g, 0, none⟩) l0.length cp) l0.length (u8s c) → W.cell? ⟨g, i, none⟩ = some (.int .u8 (y : Int))) := fun W B g cp h => by rw [h.cellAt i (by omega)]; exact u8s_get hy
      have HY := Lib.hid hy
      clear hy hi2
      by_cases hyx : y = x3
      · subst hyx
        go_enter Try.func8, Try.ntmps8
        go_wp2_with (first
          | (go_at_call 19; refine HF.out.mono ?_; rintro e w1 ⟨g, cp, rfl, hown, hb1⟩; have e1 := HCELL.out _ _ _ _ hown; have HB1 := Lib.hid (And.intro hown hb1); clear hown hb1)
          | (go_at_call 15; refine (HVAL.out _ _ (HRO.out _ _ _ _ HB1.out.1)).mono ?_; rintro e w2 ⟨rfl, hb2⟩; have HB2 := Lib.hid (HB1.out.2.trans (hb2.mono HB1.out.2.size)); clear hb2)
          | (go_at_call 12; refine (lives_any _).mono ?_; rintro e w3 ⟨rfl, hb⟩; have HB3 := Lib.hid (HB2.out.trans (hb.mono HB2.out.size)); clear hb))
        go_ret
        exact ⟨rfl, HB3.out⟩
      · have hyx' : ¬ ((y : Int) = (x3 : Int)) := by omega
        have hne : (inet c == inet (c.set i x3)) = false := by
          have := inet_change c i x3 y HY.out h3 hyb (fun e => hyx e.symm)
          simpa using fun e => this e.symm
        have HBD : Hid (Bytes (c.set i x3)) := HBY.out.set i h3
        have HLD : Hid ((c.set i x3).length ≤ 140737488355328) := by unfold Hid; rw [List.length_set]; exact HLC.out
        have HRD : Hid (∀ W B g cp, W.ownsRow B 5 1 (.slice (some ⟨g, 0, none⟩) l0.length cp) l0.length (u8s (c.set i x3)) → Rd W (.slice (some ⟨g, 0, none⟩) l0.length cp) (c.set i x3)) := fun W B g cp h => rd_own (by rw [List.length_set, HCL.out]; exact h) HBD.out
        have HVD : Hid (¬ (y = 0 ∧ x3 = 255) → ¬ (y = 255 ∧ x3 = 0) → val (c.set i x3) = false) := fun n1 n2 => val_change c i x3 y HY.out h3 hyb (fun e => hyx e.symm) n1 n2 HVC.out
        have HAL : Hid (([] : List Nat).length + c.length ≤ 140737489403904) := by unfold Hid; have := HLC.out; simp; omega
        clear hyx
        have hcases : (y = 0 ∧ x3 = 255) ∨ (y = 255 ∧ x3 = 0) ∨ (y = 0 ∧ x3 ≠ 255) ∨ (y = 255 ∧ x3 ≠ 0) ∨ (y ≠ 0 ∧ y ≠ 255) := by omega
        rcases hcases with ⟨k1, k2⟩ | ⟨k1, k2⟩ | ⟨k1, k2⟩ | ⟨k1, k2⟩ | ⟨k1, k2⟩
        · subst k1 k2
          go_enter Try.func8, Try.ntmps8
          go_wp2_with (first
            | (go_at_call 19; refine HF.out.mono ?_; rintro e w1 ⟨g, cp, rfl, hown, hb1⟩; have e1 := HCELL.out _ _ _ _ hown; have HB1 := Lib.hid (And.intro hown hb1); clear hown hb1)
            | (at_builtin
               refine wpList_append_rd _ rfl (.tmp 53) (.tmp 54) 22 rfl w1.heap.size 5 i0 Try.underlying22 hi hz0 hz1 hz2 _ [] rfl (World.ownsRow_made w1 #[] 0 (Nat.le_refl _) (Nat.zero_le _) (by simp)) _ c rfl ((HRO.out _ _ _ _ HB1.out.1).below ((Below.refl _ _).alloc (Nat.le_refl _) _)) HAL.out (by simp) ?_
               intro v2 w2 hown2 hg2
               obtain ⟨g2, cp2, rfl, hown, hbel⟩ := app_new hown2 hg2 (by have := HCL.out; omega)
               rw [HCL.out] at hown
               have e2 := HCELL.out _ _ _ _ hown
               have f2 := hown.frozenAt i
               have hgl := (hown.lt g2 rfl).1
               have X2 : Hid ((w2.setCell ⟨g2, i, none⟩ (.int .u8 (255 : Int))).ownsRow w1.heap.size 5 1 (.slice (some ⟨g2, 0, none⟩) l0.length cp2) l0.length (u8s (c.set i 255)) ∧ Below w1.heap.size w1 (w2.setCell ⟨g2, i, none⟩ (.int .u8 (255 : Int)))) := And.intro (own_set (a := i) hown 255) (hbel.setCell (p := ⟨g2, i, none⟩) hgl _)
               rw [HCL.out]
               clear e1 hown hown2 hbel hg2 hgl)
            | (go_at_call 10; ((with_reducible refine (HINT.out _ (.slice (some ⟨g, 0, none⟩) l0.length cp) c HLC.out ((HRO.out _ _ _ _ HB1.out.1).below X2.out.2)).mono ?_); rintro e w4 ⟨rfl, hb4⟩; have X4 := Lib.hid (And.intro (X2.out.2.trans (hb4.mono X2.out.2.size)) ((HRD.out _ _ _ _ X2.out.1).below hb4)); clear hb4 e2 f2))
            | (go_at_call 10; ((with_reducible refine (HINT.out _ (.slice (some ⟨g2, 0, none⟩) l0.length cp2) (c.set i 255) HLD.out X4.out.2).mono ?_); rintro e w5 ⟨rfl, hb5⟩; have X5 := Lib.hid (And.intro (X4.out.1.trans (hb5.mono X4.out.1.size)) (X4.out.2.below hb5)); clear hb5; have e5 := HCELL.out _ _ _ _ (own_below HB1.out.1 X5.out.1)))
            | (go_at_call 12; refine (lives_any _).mono ?_; rintro e w8 ⟨rfl, hb⟩; have HB8 := Lib.hid (HB1.out.2.trans ((X5.out.1.trans (hb.mono X5.out.1.size)).mono HB1.out.2.size)); clear hb))
          go_ret
          exact ⟨rfl, HB8.out⟩
        · subst k1 k2
          go_enter Try.func8, Try.ntmps8
          go_wp2_with (first
            | (go_at_call 19; refine HF.out.mono ?_; rintro e w1 ⟨g, cp, rfl, hown, hb1⟩; have e1 := HCELL.out _ _ _ _ hown; have HB1 := Lib.hid (And.intro hown hb1); clear hown hb1)
            | (at_builtin
               refine wpList_append_rd _ rfl (.tmp 53) (.tmp 54) 22 rfl w1.heap.size 5 i0 Try.underlying22 hi hz0 hz1 hz2 _ [] rfl (World.ownsRow_made w1 #[] 0 (Nat.le_refl _) (Nat.zero_le _) (by simp)) _ c rfl ((HRO.out _ _ _ _ HB1.out.1).below ((Below.refl _ _).alloc (Nat.le_refl _) _)) HAL.out (by simp) ?_
               intro v2 w2 hown2 hg2
               obtain ⟨g2, cp2, rfl, hown, hbel⟩ := app_new hown2 hg2 (by have := HCL.out; omega)
               rw [HCL.out] at hown
               have e2 := HCELL.out _ _ _ _ hown
               have f2 := hown.frozenAt i
               have hgl := (hown.lt g2 rfl).1
               have X2 : Hid ((w2.setCell ⟨g2, i, none⟩ (.int .u8 (0 : Int))).ownsRow w1.heap.size 5 1 (.slice (some ⟨g2, 0, none⟩) l0.length cp2) l0.length (u8s (c.set i 0)) ∧ Below w1.heap.size w1 (w2.setCell ⟨g2, i, none⟩ (.int .u8 (0 : Int)))) := And.intro (own_set (a := i) hown 0) (hbel.setCell (p := ⟨g2, i, none⟩) hgl _)
               rw [HCL.out]
               clear e1 hown hown2 hbel hg2 hgl)
            | (go_at_call 10; ((with_reducible refine (HINT.out _ (.slice (some ⟨g, 0, none⟩) l0.length cp) c HLC.out ((HRO.out _ _ _ _ HB1.out.1).below X2.out.2)).mono ?_); rintro e w4 ⟨rfl, hb4⟩; have X4 := Lib.hid (And.intro (X2.out.2.trans (hb4.mono X2.out.2.size)) ((HRD.out _ _ _ _ X2.out.1).below hb4)); clear hb4 e2 f2))
            | (go_at_call 10; ((with_reducible refine (HINT.out _ (.slice (some ⟨g2, 0, none⟩) l0.length cp2) (c.set i 0) HLD.out X4.out.2).mono ?_); rintro e w5 ⟨rfl, hb5⟩; have X5 := Lib.hid (And.intro (X4.out.1.trans (hb5.mono X4.out.1.size)) (X4.out.2.below hb5)); clear hb5; have e5 := HCELL.out _ _ _ _ (own_below HB1.out.1 X5.out.1)))
            | (go_at_call 12; refine (lives_any _).mono ?_; rintro e w8 ⟨rfl, hb⟩; have HB8 := Lib.hid (HB1.out.2.trans ((X5.out.1.trans (hb.mono X5.out.1.size)).mono HB1.out.2.size)); clear hb))
          go_ret
          exact ⟨rfl, HB8.out⟩
        · have HVALD : Hid (∀ W v, Rd W v (c.set i x3) → Calls Try.prog 15 #[v] W fun e w' => e = .returned (.bool false) ∧ Below W.heap.size W w') := fun W v hr => HVD.out (by omega) (by omega) ▸ valid_any (c.set i x3) v W HLD.out hr
          have q0 : ¬ ((i : Int) < 0) := by omega
          have q1 : ¬ ((l0.length : Int) ≤ i) := by omega
          subst k1
          have k3 : ((x3 : Int) == (255 : Int)) = false := by simp; omega
          have k4 : ((0 : Int) == (x3 : Int)) = false := by simp; omega
          go_enter Try.func8, Try.ntmps8
          go_wp2_with (first
            | (go_at_call 19; refine HF.out.mono ?_; rintro e w1 ⟨g, cp, rfl, hown, hb1⟩; have e1 := HCELL.out _ _ _ _ hown; have HB1 := Lib.hid (And.intro hown hb1); clear hown hb1)
            | (at_builtin
               refine wpList_append_rd _ rfl (.tmp 53) (.tmp 54) 22 rfl w1.heap.size 5 i0 Try.underlying22 hi hz0 hz1 hz2 _ [] rfl (World.ownsRow_made w1 #[] 0 (Nat.le_refl _) (Nat.zero_le _) (by simp)) _ c rfl ((HRO.out _ _ _ _ HB1.out.1).below ((Below.refl _ _).alloc (Nat.le_refl _) _)) HAL.out (by simp) ?_
               intro v2 w2 hown2 hg2
               obtain ⟨g2, cp2, rfl, hown, hbel⟩ := app_new hown2 hg2 (by have := HCL.out; omega)
               rw [HCL.out] at hown
               have e2 := HCELL.out _ _ _ _ hown
               have f2 := hown.frozenAt i
               have hgl := (hown.lt g2 rfl).1
               have X2 : Hid ((w2.setCell ⟨g2, i, none⟩ (.int .u8 (x3 : Int))).ownsRow w1.heap.size 5 1 (.slice (some ⟨g2, 0, none⟩) l0.length cp2) l0.length (u8s (c.set i x3)) ∧ Below w1.heap.size w1 (w2.setCell ⟨g2, i, none⟩ (.int .u8 (x3 : Int)))) := And.intro (own_set (a := i) hown x3) (hbel.setCell (p := ⟨g2, i, none⟩) hgl _)
               rw [HCL.out]
               clear e1 hown hown2 hbel hg2 hgl)
            | (go_at_call 10; ((with_reducible refine (HINT.out _ (.slice (some ⟨g, 0, none⟩) l0.length cp) c HLC.out ((HRO.out _ _ _ _ HB1.out.1).below X2.out.2)).mono ?_); rintro e w4 ⟨rfl, hb4⟩; have X4 := Lib.hid (And.intro (X2.out.2.trans (hb4.mono X2.out.2.size)) ((HRD.out _ _ _ _ X2.out.1).below hb4)); clear hb4 e2 f2))
            | (go_at_call 10; ((with_reducible refine (HINT.out _ (.slice (some ⟨g2, 0, none⟩) l0.length cp2) (c.set i x3) HLD.out X4.out.2).mono ?_); rintro e w5 ⟨rfl, hb5⟩; have X5 := Lib.hid (And.intro (X4.out.1.trans (hb5.mono X4.out.1.size)) (X4.out.2.below hb5)); clear hb5; have e5 := HCELL.out _ _ _ _ (own_below HB1.out.1 X5.out.1)))
            | (go_at_call 15; ((with_reducible refine (HVAL.out _ (.slice (some ⟨g, 0, none⟩) l0.length cp) ((HRO.out _ _ _ _ HB1.out.1).below X5.out.1)).mono ?_); rintro e w6 ⟨rfl, hb6⟩; have X6 := Lib.hid (And.intro (X5.out.1.trans (hb6.mono X5.out.1.size)) (X5.out.2.below hb6)); clear hb6))
            | (go_at_call 15; ((with_reducible refine (HVALD.out _ (.slice (some ⟨g2, 0, none⟩) l0.length cp2) X6.out.2).mono ?_); rintro e w7 ⟨rfl, hb7⟩; have X7 := Lib.hid (X6.out.1.trans (hb7.mono X6.out.1.size)); clear hb7))
            | (go_at_call 12; refine (lives_any _).mono ?_; rintro e w8 ⟨rfl, hb⟩; have HB8 := Lib.hid (HB1.out.2.trans ((X7.out.trans (hb.mono X7.out.size)).mono HB1.out.2.size)); clear hb))
          go_ret
          exact ⟨rfl, HB8.out⟩
        · have HVALD : Hid (∀ W v, Rd W v (c.set i x3) → Calls Try.prog 15 #[v] W fun e w' => e = .returned (.bool false) ∧ Below W.heap.size W w') := fun W v hr => HVD.out (by omega) (by omega) ▸ valid_any (c.set i x3) v W HLD.out hr
          have q0 : ¬ ((i : Int) < 0) := by omega
          have q1 : ¬ ((l0.length : Int) ≤ i) := by omega
          subst k1
          have k3 : ((x3 : Int) == (0 : Int)) = false := by simp; omega
          have k4 : ((255 : Int) == (x3 : Int)) = false := by simp; omega
          go_enter Try.func8, Try.ntmps8
          go_wp2_with (first
            | (go_at_call 19; refine HF.out.mono ?_; rintro e w1 ⟨g, cp, rfl, hown, hb1⟩; have e1 := HCELL.out _ _ _ _ hown; have HB1 := Lib.hid (And.intro hown hb1); clear hown hb1)
            | (at_builtin
               refine wpList_append_rd _ rfl (.tmp 53) (.tmp 54) 22 rfl w1.heap.size 5 i0 Try.underlying22 hi hz0 hz1 hz2 _ [] rfl (World.ownsRow_made w1 #[] 0 (Nat.le_refl _) (Nat.zero_le _) (by simp)) _ c rfl ((HRO.out _ _ _ _ HB1.out.1).below ((Below.refl _ _).alloc (Nat.le_refl _) _)) HAL.out (by simp) ?_
               intro v2 w2 hown2 hg2
               obtain ⟨g2, cp2, rfl, hown, hbel⟩ := app_new hown2 hg2 (by have := HCL.out; omega)
               rw [HCL.out] at hown
               have e2 := HCELL.out _ _ _ _ hown
               have f2 := hown.frozenAt i
               have hgl := (hown.lt g2 rfl).1
               have X2 : Hid ((w2.setCell ⟨g2, i, none⟩ (.int .u8 (x3 : Int))).ownsRow w1.heap.size 5 1 (.slice (some ⟨g2, 0, none⟩) l0.length cp2) l0.length (u8s (c.set i x3)) ∧ Below w1.heap.size w1 (w2.setCell ⟨g2, i, none⟩ (.int .u8 (x3 : Int)))) := And.intro (own_set (a := i) hown x3) (hbel.setCell (p := ⟨g2, i, none⟩) hgl _)
               rw [HCL.out]
               clear e1 hown hown2 hbel hg2 hgl)
            | (go_at_call 10; ((with_reducible refine (HINT.out _ (.slice (some ⟨g, 0, none⟩) l0.length cp) c HLC.out ((HRO.out _ _ _ _ HB1.out.1).below X2.out.2)).mono ?_); rintro e w4 ⟨rfl, hb4⟩; have X4 := Lib.hid (And.intro (X2.out.2.trans (hb4.mono X2.out.2.size)) ((HRD.out _ _ _ _ X2.out.1).below hb4)); clear hb4 e2 f2))
            | (go_at_call 10; ((with_reducible refine (HINT.out _ (.slice (some ⟨g2, 0, none⟩) l0.length cp2) (c.set i x3) HLD.out X4.out.2).mono ?_); rintro e w5 ⟨rfl, hb5⟩; have X5 := Lib.hid (And.intro (X4.out.1.trans (hb5.mono X4.out.1.size)) (X4.out.2.below hb5)); clear hb5; have e5 := HCELL.out _ _ _ _ (own_below HB1.out.1 X5.out.1)))
            | (go_at_call 15; ((with_reducible refine (HVAL.out _ (.slice (some ⟨g, 0, none⟩) l0.length cp) ((HRO.out _ _ _ _ HB1.out.1).below X5.out.1)).mono ?_); rintro e w6 ⟨rfl, hb6⟩; have X6 := Lib.hid (And.intro (X5.out.1.trans (hb6.mono X5.out.1.size)) (X5.out.2.below hb6)); clear hb6))
            | (go_at_call 15; ((with_reducible refine (HVALD.out _ (.slice (some ⟨g2, 0, none⟩) l0.length cp2) X6.out.2).mono ?_); rintro e w7 ⟨rfl, hb7⟩; have X7 := Lib.hid (X6.out.1.trans (hb7.mono X6.out.1.size)); clear hb7))
            | (go_at_call 12; refine (lives_any _).mono ?_; rintro e w8 ⟨rfl, hb⟩; have HB8 := Lib.hid (HB1.out.2.trans ((X7.out.trans (hb.mono X7.out.size)).mono HB1.out.2.size)); clear hb))
          go_ret
          exact ⟨rfl, HB8.out⟩
        · have HVALD : Hid (∀ W v, Rd W v (c.set i x3) → Calls Try.prog 15 #[v] W fun e w' => e = .returned (.bool false) ∧ Below W.heap.size W w') := fun W v hr => HVD.out (by omega) (by omega) ▸ valid_any (c.set i x3) v W HLD.out hr
          have q0 : ¬ ((i : Int) < 0) := by omega
          have q1 : ¬ ((l0.length : Int) ≤ i) := by omega
          have k3 : ((y : Int) == (0 : Int)) = false := by simp; omega
          have k4 : ((y : Int) == (255 : Int)) = false := by simp; omega
          have k5 : ((y : Int) == (x3 : Int)) = false := by simp; omega
          go_enter Try.func8, Try.ntmps8
          go_wp2_with (first
            | (go_at_call 19; refine HF.out.mono ?_; rintro e w1 ⟨g, cp, rfl, hown, hb1⟩; have e1 := HCELL.out _ _ _ _ hown; have HB1 := Lib.hid (And.intro hown hb1); clear hown hb1)
            | (at_builtin
               refine wpList_append_rd _ rfl (.tmp 53) (.tmp 54) 22 rfl w1.heap.size 5 i0 Try.underlying22 hi hz0 hz1 hz2 _ [] rfl (World.ownsRow_made w1 #[] 0 (Nat.le_refl _) (Nat.zero_le _) (by simp)) _ c rfl ((HRO.out _ _ _ _ HB1.out.1).below ((Below.refl _ _).alloc (Nat.le_refl _) _)) HAL.out (by simp) ?_
               intro v2 w2 hown2 hg2
               obtain ⟨g2, cp2, rfl, hown, hbel⟩ := app_new hown2 hg2 (by have := HCL.out; omega)
               rw [HCL.out] at hown
               have e2 := HCELL.out _ _ _ _ hown
               have f2 := hown.frozenAt i
               have hgl := (hown.lt g2 rfl).1
               have X2 : Hid ((w2.setCell ⟨g2, i, none⟩ (.int .u8 (x3 : Int))).ownsRow w1.heap.size 5 1 (.slice (some ⟨g2, 0, none⟩) l0.length cp2) l0.length (u8s (c.set i x3)) ∧ Below w1.heap.size w1 (w2.setCell ⟨g2, i, none⟩ (.int .u8 (x3 : Int)))) := And.intro (own_set (a := i) hown x3) (hbel.setCell (p := ⟨g2, i, none⟩) hgl _)
               rw [HCL.out]
               clear e1 hown hown2 hbel hg2 hgl)
            | (go_at_call 10; ((with_reducible refine (HINT.out _ (.slice (some ⟨g, 0, none⟩) l0.length cp) c HLC.out ((HRO.out _ _ _ _ HB1.out.1).below X2.out.2)).mono ?_); rintro e w4 ⟨rfl, hb4⟩; have X4 := Lib.hid (And.intro (X2.out.2.trans (hb4.mono X2.out.2.size)) ((HRD.out _ _ _ _ X2.out.1).below hb4)); clear hb4 e2 f2))
            | (go_at_call 10; ((with_reducible refine (HINT.out _ (.slice (some ⟨g2, 0, none⟩) l0.length cp2) (c.set i x3) HLD.out X4.out.2).mono ?_); rintro e w5 ⟨rfl, hb5⟩; have X5 := Lib.hid (And.intro (X4.out.1.trans (hb5.mono X4.out.1.size)) (X4.out.2.below hb5)); clear hb5; have e5 := HCELL.out _ _ _ _ (own_below HB1.out.1 X5.out.1)))
            | (go_at_call 15; ((with_reducible refine (HVAL.out _ (.slice (some ⟨g, 0, none⟩) l0.length cp) ((HRO.out _ _ _ _ HB1.out.1).below X5.out.1)).mono ?_); rintro e w6 ⟨rfl, hb6⟩; have X6 := Lib.hid (And.intro (X5.out.1.trans (hb6.mono X5.out.1.size)) (X5.out.2.below hb6)); clear hb6))
            | (go_at_call 15; ((with_reducible refine (HVALD.out _ (.slice (some ⟨g2, 0, none⟩) l0.length cp2) X6.out.2).mono ?_); rintro e w7 ⟨rfl, hb7⟩; have X7 := Lib.hid (X6.out.1.trans (hb7.mono X6.out.1.size)); clear hb7))
            | (go_at_call 12; refine (lives_any _).mono ?_; rintro e w8 ⟨rfl, hb⟩; have HB8 := Lib.hid (HB1.out.2.trans ((X7.out.trans (hb.mono X7.out.size)).mono HB1.out.2.size)); clear hb))
          go_ret
          exact ⟨rfl, HB8.out⟩
    · have hout : a2 < 0 ∨ (l0.length : Int) ≤ a2 := by omega
      clear hi2
      rcases hout with k1 | k1
      · go_enter Try.func8, Try.ntmps8
        go_wp2_with (first
          | (go_at_call 19; refine HF.out.mono ?_; rintro e w1 ⟨g, cp, rfl, hown, hb1⟩; have HB1 := Lib.hid (And.intro hown hb1); clear hown hb1)
          | (go_at_call 15; refine (HVAL.out _ _ (HRO.out _ _ _ _ HB1.out.1)).mono ?_; rintro e w2 ⟨rfl, hb2⟩; have HB2 := Lib.hid (HB1.out.2.trans (hb2.mono HB1.out.2.size)); clear hb2)
          | (go_at_call 12; refine (lives_any _).mono ?_; rintro e w3 ⟨rfl, hb⟩; have HB3 := Lib.hid (HB2.out.trans (hb.mono HB2.out.size)); clear hb))
        go_ret
        exact ⟨rfl, HB3.out⟩
      · have k2 : ¬ a2 < 0 := by omega
        go_enter Try.func8, Try.ntmps8
        go_wp2_with (first
          | (go_at_call 19; refine HF.out.mono ?_; rintro e w1 ⟨g, cp, rfl, hown, hb1⟩; have HB1 := Lib.hid (And.intro hown hb1); clear hown hb1)
          | (go_at_call 15; refine (HVAL.out _ _ (HRO.out _ _ _ _ HB1.out.1)).mono ?_; rintro e w2 ⟨rfl, hb2⟩; have HB2 := Lib.hid (HB1.out.2.trans (hb2.mono HB1.out.2.size)); clear hb2)
          | (go_at_call 12; refine (lives_any _).mono ?_; rintro e w3 ⟨rfl, hb⟩; have HB3 := Lib.hid (HB2.out.trans (hb.mono HB2.out.size)); clear hb))
        go_ret
        exact ⟨rfl, HB3.out⟩
  · by_cases hneg : a1 < 0
    · have hf := sealed_no l0 _ a1 w h1 (by omega) HR.out (.inl hneg)
      clear hin
      go_enter Try.func8, Try.ntmps8
      go_wp2_with (first
        | (go_at_call 19; refine hf.mono ?_; rintro e w1 ⟨rfl, hb1⟩; have HB1 := Lib.hid hb1; clear hb1)
        | (go_at_call 12; refine (lives_any _).mono ?_; rintro e w3 ⟨rfl, hb⟩; have HB3 := Lib.hid (HB1.out.trans (hb.mono HB1.out.size)); clear hb))
      go_ret
      exact ⟨rfl, HB3.out⟩
    · have hout : (l0.length : Int) - 1 ≤ a1 := by omega
      have hf := sealed_no l0 _ a1 w h1 (by omega) HR.out (.inr hout)
      clear hin
      go_enter Try.func8, Try.ntmps8
      go_wp2_with (first
        | (go_at_call 19; refine hf.mono ?_; rintro e w1 ⟨rfl, hb1⟩; have HB1 := Lib.hid hb1; clear hb1)
        | (go_at_call 12; refine (lives_any _).mono ?_; rintro e w3 ⟨rfl, hb⟩; have HB3 := Lib.hid (HB1.out.trans (hb.mono HB1.out.size)); clear hb))
      go_ret
      exact ⟨rfl, HB3.out⟩

theorem contract (H : Type) (enc : TypeId × Value → H) (W : World) (base : Nat) (args : Array Value) (ds gs : List (DataW H)) (before : List MemPlace)
    (hval : ∀ (j : Nat) t v, Try.f8.params[j]? = some t → args[j]? = some v → Value.okWide Try.prog W .any base t v)
    (hW : DataW.Whole enc Try.prog Try.f8.params.toList Rows.checksumDetectsSpec.vars false W args.toList ds gs before)
    (hsz : (DataW.weightsEach Try.prog (Try.f8.params.toList ++ Rows.checksumDetectsSpec.plain.varTypes Try.prog) (ds ++ gs)).all (· ≤ reachBytes) = true) :
    Calls Try.prog 8 args W fun e W' => ∃ v, e = .returned v ∧ Rows.checksumDetectsSpec.post enc Try.prog Try.f8 false true false false W args v W' := by
  have hW' := hW
  obtain ⟨p, q, hA0, hV, rfl, hfz, hnd⟩ := hW
  have hA : DataW.TrodAll enc Try.prog W 0 (fun _ => true) true Try.f8.params.toList args.toList ds p := hA0
  rw [Try.params8] at hA hval hsz
  have HB : ∀ W', Below W.heap.size W W' → DataW.TrodAll enc Try.prog W' 0 (fun b => decide (b < W.heap.size)) true Try.f8.params.toList args.toList ds p := fun W' hb => by
    rw [Try.params8]
    refine trodAll_below hb (fun t ht => ?_) hA (fun x hx => hW'.lt x (by simp [hx]))
    revert t ht
    intro t ht
    simp at ht
    rcases ht with rfl | rfl | rfl <;> exact ⟨by kernel_rfl, of_decide_eq_true (by kernel_rfl)⟩
  obtain ⟨v0, vs0, d0, ds0, p0, q0, hargs, rfl, rfl, h0, r0⟩ := trodAll_cons hA
  obtain ⟨v1, vs1, d1, ds1, p1, q1, rfl, rfl, rfl, h1, r1⟩ := trodAll_cons r0
  obtain ⟨v2, vs2, d2, ds2, p2, q2, rfl, rfl, rfl, h2, r2⟩ := trodAll_cons r1
  obtain ⟨v3, vs3, d3, ds3, p3, q3, rfl, rfl, rfl, h3, r3⟩ := trodAll_cons r2
  obtain ⟨rfl, rfl, rfl⟩ := trodAll_nil r3
  obtain rfl : args = #[v0, v1, v2, v3] := by cases args; simp_all
  obtain ⟨rfl, rfl⟩ := trodVars_none hV
  obtain ⟨l0, hr0, hd0⟩ := open_bytes (hval 0 22 v0 rfl rfl) h0
  have hl0 := bytes_len (j := 0) hsz rfl rfl hd0
  obtain ⟨a1, rfl, hi1⟩ := open_i64 (hval 1 3 v1 rfl rfl) h1
  obtain ⟨a2, rfl, hi2⟩ := open_i64 (hval 2 3 v2 rfl rfl) h2
  obtain ⟨x3, rfl, hi3⟩ := open_byte (hval 3 5 v3 rfl rfl) h3
  clear hA0
  simp only [List.append_nil] at hW' HB
  refine (walk l0 v0 a1 a2 x3 W hl0 hr0 hi1 hi2 hi3).mono fun e W' ⟨he, hb⟩ => ?_
  subst he
  exact ⟨_, rfl, _, _, _, [], _, [], hW', (trodAll_cons_mk (shut_bool Try.underlying4 _) trodAll_mk0), HB W' hb, rfl, hb.frame _, fun h => by cases h⟩
theorem lifted (os : Os) (started : os.Started) (H : Type) (enc : TypeId × Value → H) :
    ReturnsInHanded {} Try.checked os 8 .any (Rows.checksumDetectsSpec.pre6 enc Try.prog Try.f8 Rows.checksumDetectsRow.domain false) (Rows.checksumDetectsSpec.post enc Try.prog Try.f8 false true false false) := by
  refine returnsInHanded_of_change_sized (C := Try.checked) own started (by kernel_rfl) Try.func8
    (ChangeSpec.witness6 (enc := enc) (C := Try.checked) false ⟨#[], #[.slice none 0 0, .int .i64 0, .int .i64 0, .int .u8 0], []⟩ 8 (by kernel_rfl) (by kernel_rfl) (by kernel_rfl) (by kernel_rfl)) ?_
  intro W base args ds gs before hval hW _ hsz _
  exact contract H enc W base args ds gs before hval hW hsz
theorem over : Rows.checksumDetectsRow.holds Try.pinned (OpenSpec.ofChange Rows.checksumDetectsSpec) :=
  OpenClaim.holds_of_wide 8 Try.f8 rfl rfl rfl rfl rfl rfl rfl ⟨rfl, rfl, rfl, rfl, rfl⟩ rfl rfl rfl rfl rfl (by kernel_rfl) Try.func8 (by kernel_rfl)
    (of_decide_eq_true (by kernel_rfl)) (by unfold Func.isWrapper; first | (rw [if_pos (by decide +kernel)]; kernel_rfl) | (rw [if_neg (by decide +kernel)]; exact ⟨rfl, rfl⟩))
    (fun os started H enc _ => lifted os started H enc)
theorem proved : Rows.ChecksumDetectsSaid :=
  over
#print axioms proved
end Go.Proofs.Ythoonegckifiaaa.checksumDetects
