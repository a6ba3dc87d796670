/-
  Proved: for every slice of bytes and all indices the law ChecksumOrder returns true (Internet does not depend on the order of the words of a slice of even length, and the examples hold); no conditions.
-/
import Derived.Test.YthoonegckifiaaaFrame
namespace Go.Proofs.Ythoonegckifiaaa.checksumOrder
open Go.ChangeShapes Go.WideShapes Go.ChangeAt Go.RowKit
set_option linter.unusedSimpArgs false
set_option linter.unusedVariables false
set_option maxHeartbeats 4000000
set_option maxRecDepth 100000

theorem walk (l0 : List Nat) (v0 : Value) (a1 a2 : Int) (w : World) (hl0 : l0.length ≤ 140737488351232) (hr0 : Rd w v0 l0) (h1 : I64 a1) (h2 : I64 a2) :
    Calls Try.prog 9 #[v0, .int .i64 a1, .int .i64 a2] w fun e w' => e = .returned (.bool true) ∧ Below w.heap.size w w' := by
  obtain ⟨i0, hi, hz0, hz1, hz2⟩ := info_parts u8_info
  have HR := Lib.hid hr0
  obtain ⟨ad, cap, rfl, hcap, hby, hat⟩ := hr0
  have HAT := Lib.hid hat
  clear hat
  by_cases hev : l0.length % 2 = 0
  · have hev' : (l0.length : Int) % 2 = 0 := by omega
    by_cases hin : 0 ≤ a1 ∧ 2 * a1 < (l0.length : Int) ∧ 0 ≤ a2 ∧ 2 * a2 < (l0.length : Int)
    · obtain ⟨i, rfl⟩ := Int.eq_ofNat_of_zero_le hin.1
      obtain ⟨k, rfl⟩ := Int.eq_ofNat_of_zero_le hin.2.2.1
      have hi1 : 2 * i + 1 < l0.length := by omega
      have hk1 : 2 * k + 1 < l0.length := by omega
      obtain ⟨a, ha⟩ : ∃ a, l0[2 * i]? = some a := ⟨_, List.getElem?_eq_getElem (by omega)⟩
      obtain ⟨b, hb⟩ : ∃ a, l0[2 * i + 1]? = some a := ⟨_, List.getElem?_eq_getElem (by omega)⟩
      obtain ⟨c, hc⟩ : ∃ a, l0[2 * k]? = some a := ⟨_, List.getElem?_eq_getElem (by omega)⟩
      obtain ⟨d, hd⟩ : ∃ a, l0[2 * k + 1]? = some a := ⟨_, List.getElem?_eq_getElem (by omega)⟩
      have HWS : Hid (inet (swapW l0 i k a b c d) = inet l0) := by unfold Hid inet; rw [ws_swap l0 i k a b c d ha hb hc hd]
      have HBS : Hid (Bytes (swapW l0 i k a b c d)) := (((hby.set _ (hby.get hc)).set _ (hby.get hd)).set _ (hby.get ha)).set _ (hby.get hb)
      have HLS : Hid ((swapW l0 i k a b c d).length = l0.length) := by unfold Hid swapW; simp
      obtain ⟨blk, off, rfl, hblk, c1⟩ := HAT.out _ _ ha
      have c2 : w.cell? ⟨blk, off + (2 * i + 1), none⟩ = some (.int .u8 (b : Int)) := by
        obtain ⟨b', o', e, _, h⟩ := HAT.out _ _ hb
        injection e with e; injection e with e1 e2; subst e1 e2; exact h
      have c3 : w.cell? ⟨blk, off + 2 * k, none⟩ = some (.int .u8 (c : Int)) := by
        obtain ⟨b', o', e, _, h⟩ := HAT.out _ _ hc
        injection e with e; injection e with e1 e2; subst e1 e2; exact h
      have c4 : w.cell? ⟨blk, off + (2 * k + 1), none⟩ = some (.int .u8 (d : Int)) := by
        obtain ⟨b', o', e, _, h⟩ := HAT.out _ _ hd
        injection e with e; injection e with e1 e2; subst e1 e2; exact h
      have HC := Lib.hid (And.intro hblk (And.intro c1 (And.intro c2 (And.intro c3 c4))))
      have HAL : Hid (([] : List Nat).length + l0.length ≤ 140737489403904) := by unfold Hid; simp; omega
      have HINT : Hid (∀ W v, Rd W v l0 → Calls Try.prog 10 #[v] W fun e w' => e = .returned (.int .i64 (inet l0)) ∧ Below W.heap.size W w') := fun W v hr => internet_any l0 v W (by omega) hr
      have HINS : Hid (∀ W v, Rd W v (swapW l0 i k a b c d) → Calls Try.prog 10 #[v] W fun e w' => e = .returned (.int .i64 (inet l0)) ∧ Below W.heap.size W w') := fun W v hr => HWS.out ▸ internet_any (swapW l0 i k a b c d) v W (by rw [HLS.out]; omega) hr
      have HG := Lib.hid (And.intro ha (And.intro hb (And.intro hc hd)))
      have n1 : ¬ ((i : Int) < 0) := by omega
      have n2 : ¬ ((l0.length : Int) / 2 ≤ i) := by omega
      have n3 : ¬ ((k : Int) < 0) := by omega
      have n4 : ¬ ((l0.length : Int) / 2 ≤ k) := by omega
      by_cases hik : i = k
      · subst hik
        obtain rfl : a = c := Option.some.inj (ha.symm.trans hc)
        obtain rfl : b = d := Option.some.inj (hb.symm.trans hd)
        clear hin c1 c2 c3 c4 ha hb hc hd
        go_enter Try.func9, Try.ntmps9
        go_wp2_with (first
          | (at_builtin
             refine wpList_append_rd _ rfl (.tmp 35) (.tmp 36) 22 rfl w.heap.size 5 i0 Try.underlying22 hi hz0 hz1 hz2 _ [] rfl (World.ownsRow_made w #[] 0 (Nat.le_refl _) (Nat.zero_le _) (by simp)) _ l0 rfl (HR.out.below ((Below.refl _ _).alloc (Nat.le_refl _) _)) HAL.out (by simp) ?_
             intro v2 w2 hown2 hg2
             obtain ⟨g2, cp2, rfl, hown, hbel⟩ := app_new hown2 hg2 (by omega)
             have d1 := (hbel.cell (p := ⟨blk, off + 2 * i, none⟩) HC.out.1).trans HC.out.2.1
             have d2 := (hbel.cell (p := ⟨blk, off + (2 * i + 1), none⟩) HC.out.1).trans HC.out.2.2.1
             have d3 := (hbel.cell (p := ⟨blk, off + 2 * i, none⟩) HC.out.1).trans HC.out.2.2.2.1
             have d4 := (hbel.cell (p := ⟨blk, off + (2 * i + 1), none⟩) HC.out.1).trans HC.out.2.2.2.2
             have hgl := (hown.lt g2 rfl).1
             have hne : ¬ blk = g2 := by have := HC.out.1; omega
             have e1 := hown.cellAt (2 * i) (by omega)
             have e2 := hown.cellAt (2 * i + 1) (by omega)
             have e3 := hown.cellAt (2 * i) (by omega)
             have e4 := hown.cellAt (2 * i + 1) (by omega)
             rw [u8s_get HG.out.1] at e1
             rw [u8s_get HG.out.2.1] at e2
             rw [u8s_get HG.out.2.2.1] at e3
             rw [u8s_get HG.out.2.2.2] at e4
             have f1 := hown.frozenAt (2 * i)
             have f2 := hown.frozenAt (2 * i + 1)
             have f3 := hown.frozenAt (2 * i)
             have f4 := hown.frozenAt (2 * i + 1)
             have X1 : Hid (Below w.heap.size w ((((w2.setCell ⟨g2, 2 * i, none⟩ (.int .u8 (a : Int))).setCell ⟨g2, 2 * i + 1, none⟩ (.int .u8 (b : Int))).setCell ⟨g2, 2 * i, none⟩ (.int .u8 (a : Int))).setCell ⟨g2, 2 * i + 1, none⟩ (.int .u8 (b : Int)))) :=
               ((((hbel.setCell (p := ⟨g2, 2 * i, none⟩) hgl _).setCell (p := ⟨g2, 2 * i + 1, none⟩) hgl _).setCell (p := ⟨g2, 2 * i, none⟩) hgl _).setCell (p := ⟨g2, 2 * i + 1, none⟩) hgl _)
             have X2 : Hid (Rd ((((w2.setCell ⟨g2, 2 * i, none⟩ (.int .u8 (a : Int))).setCell ⟨g2, 2 * i + 1, none⟩ (.int .u8 (b : Int))).setCell ⟨g2, 2 * i, none⟩ (.int .u8 (a : Int))).setCell ⟨g2, 2 * i + 1, none⟩ (.int .u8 (b : Int))) (.slice (some ⟨g2, 0, none⟩) l0.length cp2) (swapW l0 i i a b a b)) :=
               rd_own (by rw [HLS.out]; exact own_set (a := 2 * i + 1) (own_set (a := 2 * i) (own_set (a := 2 * i + 1) (own_set (a := 2 * i) hown a) b) a) b) HBS.out
             clear hown2 hbel hg2 hown)
          | (go_at_call 10; ((with_reducible refine (HINT.out _ (.slice (some ⟨blk, off, none⟩) l0.length cap) (HR.out.below X1.out)).mono ?_); rintro e w4 ⟨rfl, hb4⟩; have X4 := Lib.hid (And.intro (X1.out.trans (hb4.mono X1.out.size)) (X2.out.below hb4)); clear hb4))
          | (go_at_call 10; ((with_reducible refine (HINS.out _ (.slice (some ⟨g2, 0, none⟩) l0.length cp2) X4.out.2).mono ?_); rintro e w5 ⟨rfl, hb5⟩; have X5 := Lib.hid (X4.out.1.trans (hb5.mono X4.out.1.size)); clear hb5))
          | (go_at_call 12; refine (lives_any _).mono ?_; rintro e w8 ⟨rfl, hb⟩; have HB8 := Lib.hid (X5.out.trans (hb.mono X5.out.size)); clear hb))
        go_ret
        exact ⟨rfl, HB8.out⟩
      · have n5 : ¬ 2 * i = 2 * k := by omega
        have n6 : ¬ 2 * i = 2 * k + 1 := by omega
        have n7 : ¬ 2 * k = 2 * i + 1 := by omega
        have n8 : ¬ 2 * i + 1 = 2 * k := by omega
        have n9 : ¬ 2 * i + 1 = 2 * k + 1 := by omega
        clear hin c1 c2 c3 c4 ha hb hc hd
        go_enter Try.func9, Try.ntmps9
        go_wp2_with (first
          | (at_builtin
             refine wpList_append_rd _ rfl (.tmp 35) (.tmp 36) 22 rfl w.heap.size 5 i0 Try.underlying22 hi hz0 hz1 hz2 _ [] rfl (World.ownsRow_made w #[] 0 (Nat.le_refl _) (Nat.zero_le _) (by simp)) _ l0 rfl (HR.out.below ((Below.refl _ _).alloc (Nat.le_refl _) _)) HAL.out (by simp) ?_
             intro v2 w2 hown2 hg2
             obtain ⟨g2, cp2, rfl, hown, hbel⟩ := app_new hown2 hg2 (by omega)
             have d1 := (hbel.cell (p := ⟨blk, off + 2 * i, none⟩) HC.out.1).trans HC.out.2.1
             have d2 := (hbel.cell (p := ⟨blk, off + (2 * i + 1), none⟩) HC.out.1).trans HC.out.2.2.1
             have d3 := (hbel.cell (p := ⟨blk, off + 2 * k, none⟩) HC.out.1).trans HC.out.2.2.2.1
             have d4 := (hbel.cell (p := ⟨blk, off + (2 * k + 1), none⟩) HC.out.1).trans HC.out.2.2.2.2
             have hgl := (hown.lt g2 rfl).1
             have hne : ¬ blk = g2 := by have := HC.out.1; omega
             have e1 := hown.cellAt (2 * i) (by omega)
             have e2 := hown.cellAt (2 * i + 1) (by omega)
             have e3 := hown.cellAt (2 * k) (by omega)
             have e4 := hown.cellAt (2 * k + 1) (by omega)
             rw [u8s_get HG.out.1] at e1
             rw [u8s_get HG.out.2.1] at e2
             rw [u8s_get HG.out.2.2.1] at e3
             rw [u8s_get HG.out.2.2.2] at e4
             have f1 := hown.frozenAt (2 * i)
             have f2 := hown.frozenAt (2 * i + 1)
             have f3 := hown.frozenAt (2 * k)
             have f4 := hown.frozenAt (2 * k + 1)
             have X1 : Hid (Below w.heap.size w ((((w2.setCell ⟨g2, 2 * i, none⟩ (.int .u8 (c : Int))).setCell ⟨g2, 2 * i + 1, none⟩ (.int .u8 (d : Int))).setCell ⟨g2, 2 * k, none⟩ (.int .u8 (a : Int))).setCell ⟨g2, 2 * k + 1, none⟩ (.int .u8 (b : Int)))) :=
               ((((hbel.setCell (p := ⟨g2, 2 * i, none⟩) hgl _).setCell (p := ⟨g2, 2 * i + 1, none⟩) hgl _).setCell (p := ⟨g2, 2 * k, none⟩) hgl _).setCell (p := ⟨g2, 2 * k + 1, none⟩) hgl _)
             have X2 : Hid (Rd ((((w2.setCell ⟨g2, 2 * i, none⟩ (.int .u8 (c : Int))).setCell ⟨g2, 2 * i + 1, none⟩ (.int .u8 (d : Int))).setCell ⟨g2, 2 * k, none⟩ (.int .u8 (a : Int))).setCell ⟨g2, 2 * k + 1, none⟩ (.int .u8 (b : Int))) (.slice (some ⟨g2, 0, none⟩) l0.length cp2) (swapW l0 i k a b c d)) :=
               rd_own (by rw [HLS.out]; exact own_set (a := 2 * k + 1) (own_set (a := 2 * k) (own_set (a := 2 * i + 1) (own_set (a := 2 * i) hown c) d) a) b) HBS.out
             clear hown2 hbel hg2 hown)
          | (go_at_call 10; ((with_reducible refine (HINT.out _ (.slice (some ⟨blk, off, none⟩) l0.length cap) (HR.out.below X1.out)).mono ?_); rintro e w4 ⟨rfl, hb4⟩; have X4 := Lib.hid (And.intro (X1.out.trans (hb4.mono X1.out.size)) (X2.out.below hb4)); clear hb4))
          | (go_at_call 10; ((with_reducible refine (HINS.out _ (.slice (some ⟨g2, 0, none⟩) l0.length cp2) X4.out.2).mono ?_); rintro e w5 ⟨rfl, hb5⟩; have X5 := Lib.hid (X4.out.1.trans (hb5.mono X4.out.1.size)); clear hb5))
          | (go_at_call 12; refine (lives_any _).mono ?_; rintro e w8 ⟨rfl, hb⟩; have HB8 := Lib.hid (X5.out.trans (hb.mono X5.out.size)); clear hb))
        go_ret
        exact ⟨rfl, HB8.out⟩
    · have hout : a1 < 0 ∨ (l0.length : Int) / 2 ≤ a1 ∨ a2 < 0 ∨ (l0.length : Int) / 2 ≤ a2 := by omega
      clear hin
      by_cases k1 : a1 < 0
      · go_enter Try.func9, Try.ntmps9
        go_wp2_with (go_at_call 12; refine (lives_any _).mono ?_; rintro e w8 ⟨rfl, hb⟩)
        go_ret
        exact ⟨rfl, hb⟩
      · by_cases k2 : (l0.length : Int) / 2 ≤ a1
        · clear hout
          go_enter Try.func9, Try.ntmps9
          go_wp2_with (go_at_call 12; refine (lives_any _).mono ?_; rintro e w8 ⟨rfl, hb⟩)
          go_ret
          exact ⟨rfl, hb⟩
        · by_cases k3 : a2 < 0
          · clear hout
            go_enter Try.func9, Try.ntmps9
            go_wp2_with (go_at_call 12; refine (lives_any _).mono ?_; rintro e w8 ⟨rfl, hb⟩)
            go_ret
            exact ⟨rfl, hb⟩
          · have k4 : (l0.length : Int) / 2 ≤ a2 := by omega
            clear hout
            go_enter Try.func9, Try.ntmps9
            go_wp2_with (go_at_call 12; refine (lives_any _).mono ?_; rintro e w8 ⟨rfl, hb⟩)
            go_ret
            exact ⟨rfl, hb⟩
  · have hev' : (l0.length : Int) % 2 = 1 := by omega
    go_enter Try.func9, Try.ntmps9
    go_wp2_with (go_at_call 12; refine (lives_any _).mono ?_; rintro e w8 ⟨rfl, hb⟩)
    go_ret
    exact ⟨rfl, hb⟩

theorem contract (H : Type) (enc : TypeId × Value → H) (W : World) (base : Nat) (args : Array Value) (ds gs : List (DataW H)) (before : List MemPlace)
    (hval : ∀ (j : Nat) t v, Try.f9.params[j]? = some t → args[j]? = some v → Value.okWide Try.prog W .any base t v)
    (hW : DataW.Whole enc Try.prog Try.f9.params.toList Rows.checksumOrderSpec.vars false W args.toList ds gs before)
    (hsz : (DataW.weightsEach Try.prog (Try.f9.params.toList ++ Rows.checksumOrderSpec.plain.varTypes Try.prog) (ds ++ gs)).all (· ≤ reachBytes) = true) :
    Calls Try.prog 9 args W fun e W' => ∃ v, e = .returned v ∧ Rows.checksumOrderSpec.post enc Try.prog Try.f9 false true false false W args v W' := by
  have hW' := hW
  obtain ⟨p, q, hA0, hV, rfl, hfz, hnd⟩ := hW
  have hA : DataW.TrodAll enc Try.prog W 0 (fun _ => true) true Try.f9.params.toList args.toList ds p := hA0
  rw [Try.params9] at hA hval hsz
  have HB : ∀ W', Below W.heap.size W W' → DataW.TrodAll enc Try.prog W' 0 (fun b => decide (b < W.heap.size)) true Try.f9.params.toList args.toList ds p := fun W' hb => by
    rw [Try.params9]
    refine trodAll_below hb (fun t ht => ?_) hA (fun x hx => hW'.lt x (by simp [hx]))
    revert t ht
    intro t ht
    simp at ht
    rcases ht with rfl | rfl <;> exact ⟨by kernel_rfl, of_decide_eq_true (by kernel_rfl)⟩
  obtain ⟨v0, vs0, d0, ds0, p0, q0, hargs, rfl, rfl, h0, r0⟩ := trodAll_cons hA
  obtain ⟨v1, vs1, d1, ds1, p1, q1, rfl, rfl, rfl, h1, r1⟩ := trodAll_cons r0
  obtain ⟨v2, vs2, d2, ds2, p2, q2, rfl, rfl, rfl, h2, r2⟩ := trodAll_cons r1
  obtain ⟨rfl, rfl, rfl⟩ := trodAll_nil r2
  obtain rfl : args = #[v0, v1, v2] := by cases args; simp_all
  obtain ⟨rfl, rfl⟩ := trodVars_none hV
  obtain ⟨l0, hr0, hd0⟩ := open_bytes (hval 0 22 v0 rfl rfl) h0
  have hl0 := bytes_len (j := 0) hsz rfl rfl hd0
  obtain ⟨a1, rfl, hi1⟩ := open_i64 (hval 1 3 v1 rfl rfl) h1
  obtain ⟨a2, rfl, hi2⟩ := open_i64 (hval 2 3 v2 rfl rfl) h2
  clear hA0
  simp only [List.append_nil] at hW' HB
  refine (walk l0 v0 a1 a2 W hl0 hr0 hi1 hi2).mono fun e W' ⟨he, hb⟩ => ?_
  subst he
  exact ⟨_, rfl, _, _, _, [], _, [], hW', (trodAll_cons_mk (shut_bool Try.underlying4 _) trodAll_mk0), HB W' hb, rfl, hb.frame _, fun h => by cases h⟩
theorem lifted (os : Os) (started : os.Started) (H : Type) (enc : TypeId × Value → H) :
    ReturnsInHanded {} Try.checked os 9 .any (Rows.checksumOrderSpec.pre6 enc Try.prog Try.f9 Rows.checksumOrderRow.domain false) (Rows.checksumOrderSpec.post enc Try.prog Try.f9 false true false false) := by
  refine returnsInHanded_of_change_sized (C := Try.checked) own started (by kernel_rfl) Try.func9
    (ChangeSpec.witness6 (enc := enc) (C := Try.checked) false ⟨#[], #[.slice none 0 0, .int .i64 0, .int .i64 0], []⟩ 8 (by kernel_rfl) (by kernel_rfl) (by kernel_rfl) (by kernel_rfl)) ?_
  intro W base args ds gs before hval hW _ hsz _
  exact contract H enc W base args ds gs before hval hW hsz
theorem over : Rows.checksumOrderRow.holds Try.pinned (OpenSpec.ofChange Rows.checksumOrderSpec) :=
  OpenClaim.holds_of_wide 9 Try.f9 rfl rfl rfl rfl rfl rfl rfl ⟨rfl, rfl, rfl, rfl, rfl⟩ rfl rfl rfl rfl rfl (by kernel_rfl) Try.func9 (by kernel_rfl)
    (of_decide_eq_true (by kernel_rfl)) (by unfold Func.isWrapper; first | (rw [if_pos (by decide +kernel)]; kernel_rfl) | (rw [if_neg (by decide +kernel)]; exact ⟨rfl, rfl⟩))
    (fun os started H enc _ => lifted os started H enc)
theorem proved : Rows.ChecksumOrderSaid :=
  over
#print axioms proved
end Go.Proofs.Ythoonegckifiaaa.checksumOrder
