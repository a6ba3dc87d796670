/-
  The walks of the reference's Drop and Join.
-/
import Derived.Test.YtaniiennfogjaaaDoorCmL
namespace Go.Proofs.YtaniiennfogjaaaDoor
open Go.RowKit T
set_option linter.unusedSimpArgs false
set_option linter.unusedVariables false
set_option maxHeartbeats 1500000
set_option maxRecDepth 100000

theorem filt_take {s : List Nat} {k x : Nat} (p : Nat → Bool) (h : s[k]? = some x) : (s.take (k + 1)).filter p = (s.take k).filter p ++ if p x = true then [x] else [] := by
  obtain ⟨hk, he⟩ := List.getElem?_eq_some_iff.1 h
  rw [List.take_succ_eq_append_getElem hk, he, List.filter_append]
  congr 1
  by_cases hp : p x <;> simp [hp]
theorem rdrop_any (l : List Nat) (v : Value) (c : Nat) (w : World) (hv : Rd w v l) (hl : l.length ≤ 10000) :
    Calls Tryd.prog 22 #[v, .int .u32 (c : Int)] w fun e w' => ∃ v', e = .returned v' ∧ RS w (DropP l c) v' w' := by
  obtain ⟨i0, hi, hz0, hz1, hz2⟩ := infoE_parts info27
  have H1 := Lib.hid (ascending_any l v w hv (by omega))
  have H32 := Lib.hid hv.w32
  obtain ⟨ad, cap, rfl⟩ := hv.form
  have HL := Lib.hid hl
  clear hv hl
  go_enter Tryd.func22, Tryd.ntmps22
  go_wp2_with fail
  go_at_call 38
  refine H1.out.mono ?_
  rintro e w1 ⟨v1, s, rfl, hs, hset⟩
  have hsl : s.length ≤ 10000 := Nat.le_trans (asc_len hset.1 (fun x hx => (hset.2 x).1 hx)) HL.out
  have HI := Lib.hid hs
  have hR : Rd w1 v1 s := hs.1.rd (hset.w32 H32.out)
  have HS := Lib.hid hset
  obtain ⟨ad1, c1, e1, _, _, hat⟩ := hR
  subst e1
  have HAT := Lib.hid hat
  obtain ⟨n, hn⟩ : ∃ n, s.length = n := ⟨_, rfl⟩
  rw [hn] at hsl ⊢
  have HSN := Lib.hid hn
  have HS0 : Hid (InsS w1 (.slice none 0 0) ((s.take 0).filter (fun x => decide (x ≠ c))) w1) := by
    rw [List.take_zero]
    exact InsS.start w1
  have HW1 := Lib.hid hs.2
  clear hs hset hn H1 hat HI
  go_wp2_with fail
  go_loopg [5, 7, 11] n (fun g s5 s7 s11 wr => ∃ (k : Nat) (vo : Value), k ≤ n ∧ n - k ≤ g ∧ vo = s5 ∧ (∃ q, q = s7) ∧ s11 = .int .i64 (k : Int) ∧ Hid (InsS w1 vo ((s.take k).filter (fun x => decide (x ≠ c))) wr))
  case atStart => exact ⟨0, _, by omega, by omega, rfl, ⟨_, rfl⟩, rfl, HS0⟩
  case round =>
    clear HS0
    obtain ⟨k, vo, hk, hkg, rfl, ⟨u7, rfl⟩, rfl, HI⟩ := hrel
    by_cases hlt : k < n
    · obtain ⟨x, hx⟩ : ∃ x, s[k]? = some x := ⟨_, List.getElem?_eq_getElem (by rw [HSN.out]; exact hlt)⟩
      obtain ⟨b, off, rfl, hb, c0⟩ := HAT.out k x hx
      have f0 := carry HI.out.2 c0
      have HF := Lib.hid (filt_take (fun x => decide (x ≠ c)) hx)
      have hfl : ((s.take k).filter (fun x => decide (x ≠ c))).length ≤ 10000 := by
        have h1 := List.length_filter_le (fun x => decide (x ≠ c)) (s.take k)
        rw [List.length_take] at h1
        have := HSN.out; omega
      have k0 : (0 : Int) ≤ (k : Int) := by omega
      have k1 : (k : Int) < (n : Int) := by omega
      clear hx c0 hb
      by_cases hxc : x = c
      · subst hxc
        have t1 : ((x : Int) != (x : Int)) = false := by simp
        have HI2 : Hid (InsS w1 vo ((s.take (k + 1)).filter (fun y => decide (y ≠ x))) wr) := by unfold Hid; rw [HF.out]; simp; simpa using HI.out
        clear HI HF hfl
        go_wp2_with fail
        go_roundg (n - (k + 1))
        case measure => omega
        case rel => exact ⟨k + 1, vo, by omega, Nat.le_refl _, rfl, ⟨_, rfl⟩, by go_num, HI2⟩
      · have t1 : ((x : Int) != (c : Int)) = true := by simp; omega
        have HE : Hid ((s.take (k + 1)).filter (fun x => decide (x ≠ c)) = (s.take k).filter (fun x => decide (x ≠ c)) ++ [x]) := by unfold Hid; rw [HF.out, if_pos (by simpa using hxc)]
        clear HF
        generalize hpre : (s.take k).filter (fun x => decide (x ≠ c)) = pre at *
        clear hpre
        go_wp2_with (at_builtin; refine wpList_append_own _ rfl (.tmp 18) (.tmp 20) 22 rfl w1.heap.size 27 i0 (.int .u32 0) 1 4 Tryd.underlying22 hi hz0 hz1 hz2 rfl (by decide) vo pre.length (adV pre) rfl (own_below HI.out.1.2 (below_alloc _ _)) ⟨wr.heap.size, 0, none⟩ 1 1 [.int .u32 (x : Int)] rfl rfl (cellU_new _ _ _ rfl) (one_u32 _) (by unfold maxLen; omega) (by omega) (by have := HI.out.2.size; simp; omega) ?_; intro v2 w4 hown hgrow hnil; have S2 := Lib.hid (HI.out.push x _ hown hgrow); clear hown hgrow hnil)
        go_roundg (n - (k + 1))
        case measure => omega
        case rel => exact ⟨k + 1, _, by omega, Nat.le_refl _, rfl, ⟨_, rfl⟩, by go_num, by unfold Hid; rw [HE.out]; exact S2.out⟩
    · have k1 : decide ((k : Int) < (n : Int)) = false := decide_eq_false (by omega)
      have hkn : k = n := by omega
      subst hkn
      have HE : Hid ((s.take k).filter (fun x => decide (x ≠ c)) = s.filter (fun x => decide (x ≠ c))) := by unfold Hid; rw [List.take_of_length_le (by rw [HSN.out]; exact Nat.le_refl _)]
      have HF : Hid (RS w (DropP l c) vo wr) := by
        have h := HI.out
        rw [HE.out] at h
        exact ⟨_, h.1.rd (fun x hx => (HS.out.w32 H32.out) x (List.mem_filter.1 hx).1), h.1.nilV, ⟨s, HS.out, rfl⟩, below_then HW1.out h.2⟩
      go_wp2
      go_ret
      exact ⟨_, rfl, HF.out⟩
theorem rjoin_any (a b : List Nat) (u v : Value) (w : World) (hu : Rd w u a) (hun : NilV u) (hv : Rd w v b) (hvn : NilV v) (hl : a.length + b.length ≤ 10000) :
    Calls Tryd.prog 24 #[u, v] w fun e w' => ∃ v', e = .returned v' ∧ RS w (JoinP a b) v' w' := by
  have H32 : Hid (W32 (a ++ b)) := hu.w32.app hv.w32
  have HU := Lib.hid hu
  have HV := Lib.hid hv
  have HUN := Lib.hid hun
  have HVN := Lib.hid hvn
  have HS0 : Hid (InsS w (.slice (some ⟨w.heap.size, 0, none⟩) 0 0) [] (w.alloc (.cells #[] 27))) :=
    ⟨⟨by simp, World.ownsRow_made (base := w.heap.size) (e := 27) (size := 1) w #[] 0 (Nat.le_refl _) (Nat.zero_le _) (by simp)⟩, below_alloc _ _⟩
  obtain ⟨ad, cap, rfl⟩ := hu.form
  obtain ⟨ad2, cap2, rfl⟩ := hv.form
  have HL := Lib.hid hl
  clear hu hun hv hvn hl
  go_enter Tryd.func24, Tryd.ntmps24
  go_upto_region 1 with fail
  refine wp_region_list ?_
  refine wpList_plain rfl fun K hK => ?_
  (try go_simp)
  refine hK _ _ ?_
  clear hK K
  (try simp only [Act.put, List.setIfInBounds_toArray, List.set_cons_zero, List.set_cons_succ])
  generalize Value.slice (some ⟨w.heap.size, 0, none⟩) 0 0 = vo at *
  generalize w.alloc (.cells #[] 27) = W0 at *
  refine wpList_plain rfl fun K hK => ?_
  (try go_simp)
  refine hK _ _ ?_
  clear hK K
  (try simp only [Act.put, List.setIfInBounds_toArray, List.set_cons_zero, List.set_cons_succ])
  refine append_rd rfl (.tmp 6) (.tmp 7) rfl w.heap.size HS0.out.2.size vo [] rfl HS0.out.1 _ a rfl (HU.out.below HS0.out.2) HUN.out (by have := HL.out; simp; omega) ?_
  intro v2 w2 hown hb
  have S2 : Hid (InsS w v2 a w2) := ⟨by simpa using hown, HS0.out.2.trans hb⟩
  clear hown hb HS0
  (try simp only [Act.put, List.setIfInBounds_toArray, List.set_cons_zero, List.set_cons_succ])
  refine wpList_plain rfl fun K hK => ?_
  (try go_simp)
  refine hK _ _ ?_
  clear hK K
  (try simp only [Act.put, List.setIfInBounds_toArray, List.set_cons_zero, List.set_cons_succ])
  refine append_rd rfl (.tmp 8) (.tmp 9) rfl w.heap.size S2.out.2.size v2 a rfl S2.out.1 _ b rfl (HV.out.below S2.out.2) HVN.out (by have := HL.out; omega) ?_
  intro v3 w3 hown hb
  have S3 : Hid (InsS w v3 (a ++ b) w3) := ⟨hown, S2.out.2.trans hb⟩
  have H1 : Hid (Calls Tryd.prog 38 #[v3] w3 fun e w' => ∃ v' s, e = .returned v' ∧ InsS w3 v' s w' ∧ IsSet (a ++ b) s) := ascending_any (a ++ b) v3 w3 (S3.out.1.rd H32.out) (by rw [List.length_append]; have := HL.out; omega)
  clear hown hb S2
  (try simp only [Act.put, List.setIfInBounds_toArray, List.set_cons_zero, List.set_cons_succ])
  go_wp2_with fail
  go_at_call 38
  refine H1.out.mono ?_
  rintro e w4 ⟨v4, s, rfl, hs, hset⟩
  have hR : Rd w4 v4 s := hs.1.rd (hset.w32 H32.out)
  have hN : NilV v4 := hs.1.nilV
  obtain ⟨ad1, c1, rfl⟩ := hR.form
  obtain ⟨n, hn⟩ : ∃ n, s.length = n := ⟨_, rfl⟩
  rw [hn] at hR hN ⊢
  have hnc : n ≤ c1 := by
    obtain ⟨_, _, e, ⟨h1, _⟩, _⟩ := hR
    cases e; omega
  have HR := Lib.hid hR
  have HN := Lib.hid hN
  have HSN := Lib.hid hn
  have HS := Lib.hid hset
  have HB := Lib.hid (below_then S3.out.2 hs.2)
  clear hs hset hR hN hn H1 S3
  by_cases h255 : 255 < n
  · have g2 : (255 : Int) < (n : Int) := by omega
    have g5 : (255 : Int) ≤ (c1 : Int) := by omega
    have HP : Hid (RS w (JoinP a b) (.slice ad1 255 c1) w4) := ⟨s.take 255, HR.out.take (by omega), HN.out.take, ⟨s, HS.out, rfl⟩, HB.out⟩
    go_wp2
    go_ret
    exact ⟨_, rfl, HP.out⟩
  · have g2 : ¬ (255 : Int) < (n : Int) := by omega
    have HP : Hid (RS w (JoinP a b) (.slice ad1 n c1) w4) := ⟨s, HR.out, HN.out, ⟨s, HS.out, by rw [List.take_of_length_le (by rw [HSN.out]; omega)]⟩, HB.out⟩
    go_wp2
    go_ret
    exact ⟨_, rfl, HP.out⟩
end Go.Proofs.YtaniiennfogjaaaDoor
