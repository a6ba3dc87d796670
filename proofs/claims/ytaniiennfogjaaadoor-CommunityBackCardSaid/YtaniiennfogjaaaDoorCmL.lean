/-
  The walks of Join, of the reference's Add, Drop and Join.
-/
import Derived.Test.YtaniiennfogjaaaDoorCmK
namespace Go.Proofs.YtaniiennfogjaaaDoor
open Go.RowKit T
set_option linter.unusedSimpArgs false
set_option linter.unusedVariables false
set_option maxHeartbeats 1500000
set_option maxRecDepth 100000

theorem Rd.take {w : World} {ad : Option Addr} {n cap m : Nat} {l : List Nat} (h : Rd w (.slice ad n cap) l) (hm : m ≤ n) : Rd w (.slice ad m cap) (l.take m) := by
  obtain ⟨ad', cap', e, ⟨h1, h1'⟩, h2, h3⟩ := h
  cases e
  exact ⟨ad, cap, by rw [List.length_take, Nat.min_eq_left hm], ⟨by rw [List.length_take]; omega, h1'⟩, fun x hx => h2 x (List.mem_of_mem_take hx), h3.take m⟩
theorem NilV.take {ad : Option Addr} {n cap m : Nat} (h : NilV (.slice ad n cap)) : NilV (.slice ad m cap) := fun n' c' e => by
  cases e; exact h n cap rfl
theorem join_any (a b : List Nat) (u v : Value) (w : World) (hu : Rd w u a) (hun : NilV u) (hv : Rd w v b) (hvn : NilV v) (hl : a.length + b.length ≤ 10000) :
    Calls Tryd.prog 23 #[u, v] w fun e w' => ∃ v', e = .returned v' ∧ RS w (JoinP a b) v' w' := by
  have H1 : Hid (Calls Tryd.prog 37 #[.slice (some ⟨w.heap.size, 0, none⟩) 2 2] (w.alloc (.cells #[u, v] 22)) fun e w' => ∃ v', e = .returned v' ∧ UnR (w.alloc (.cells #[u, v] 22)) (a ++ b) v' w') := by
    have := union_any [a, b] _ _ (rdl_two w u v a b hu hun hv hvn) (by simp) (by simp; omega)
    have e : [a, b].flatten = a ++ b := by simp
    rw [e] at this; exact this
  have HB0 : Hid (Below w.heap.size w (w.alloc (.cells #[u, v] 22))) := below_alloc _ _
  have H32 : Hid (W32 (a ++ b)) := hu.w32.app hv.w32
  obtain ⟨ad, cap, rfl⟩ := hu.form
  obtain ⟨ad2, cap2, rfl⟩ := hv.form
  have HL := Lib.hid hl
  clear hu hun hv hvn hl
  go_enter Tryd.func23, Tryd.ntmps23
  go_wp2_with fail
  go_at_call 37
  refine H1.out.mono ?_
  rintro e w1 ⟨v1, rfl, hu⟩
  obtain ⟨s, hr, hnil, ⟨hset, hlen⟩, hb⟩ := hu.rs H32.out
  have HB1 := Lib.hid (below_then HB0.out hb)
  have HS := Lib.hid hset
  obtain ⟨ad1, c1, rfl⟩ := hr.form
  obtain ⟨n, hn⟩ : ∃ n, s.length = n := ⟨_, rfl⟩
  rw [hn] at hr hnil ⊢
  have hnc : n ≤ c1 := by
    obtain ⟨_, _, e, ⟨h1, _⟩, _⟩ := hr
    cases e; omega
  have HR := Lib.hid hr
  have HN := Lib.hid hnil
  have HSN := Lib.hid hn
  clear hu hr hnil hset hlen hb hn H1
  by_cases h255 : n ≤ 255
  · have g1 : (n : Int) ≤ 255 := by omega
    have g2 : ¬ (255 : Int) < (n : Int) := by omega
    have g3 : min (n : Int) 255 = (n : Int) := Int.min_eq_left g1
    have g4 : min (255 : Int) (n : Int) = (n : Int) := Int.min_eq_right g1
    have HP : Hid (JoinP a b s) := ⟨s, HS.out, by rw [List.take_of_length_le (by rw [HSN.out]; exact h255)]⟩
    go_wp2
    go_ret
    exact ⟨_, rfl, s, HR.out, HN.out, HP.out, HB1.out⟩
  · have g1 : ¬ (n : Int) ≤ 255 := by omega
    have g2 : (255 : Int) < (n : Int) := by omega
    have g3 : min (n : Int) 255 = 255 := Int.min_eq_right (by omega)
    have g4 : min (255 : Int) (n : Int) = 255 := Int.min_eq_left (by omega)
    have g5 : (255 : Int) ≤ (c1 : Int) := by omega
    have HP : Hid (RS w (JoinP a b) (.slice ad1 255 c1) w1) := ⟨s.take 255, HR.out.take (by omega), HN.out.take, ⟨s, HS.out, rfl⟩, HB1.out⟩
    go_wp2
    go_ret
    exact ⟨_, rfl, HP.out⟩
theorem radd_any (l : List Nat) (v : Value) (c : Nat) (w : World) (hv : Rd w v l) (hc : c < 4294967296) (hl : l.length ≤ 10000) :
    Calls Tryd.prog 20 #[v, .int .u32 (c : Int)] w fun e w' => ∃ v', e = .returned v' ∧ RS w (AddP l c) v' w' := by
  obtain ⟨i0, hi, hz0, hz1, hz2⟩ := infoE_parts info27
  have H1 := Lib.hid (ascending_any l v w hv (by omega))
  have H32 := Lib.hid hv.w32
  obtain ⟨ad, cap, rfl⟩ := hv.form
  have HL := Lib.hid hl
  clear hv hl
  go_enter Tryd.func20, Tryd.ntmps20
  go_wp2_with fail
  go_at_call 38
  refine H1.out.mono ?_
  rintro e w1 ⟨v1, s, rfl, hs, hset⟩
  have hsl : s.length ≤ 10000 := Nat.le_trans (asc_len hset.1 (fun x hx => (hset.2 x).1 hx)) HL.out
  have HI := Lib.hid hs
  have HR : Hid (Rd w1 v1 s) := hs.1.rd (hset.w32 H32.out)
  have HN : Hid (NilV v1) := hs.1.nilV
  have HS := Lib.hid hset
  obtain ⟨ad1, c1, rfl⟩ := HR.out.form
  obtain ⟨n, hn⟩ : ∃ n, s.length = n := ⟨_, rfl⟩
  have HHAS : Hid (Calls Tryd.prog 17 #[.slice ad1 n c1, .int .u32 (c : Int)] w1 fun e w' => e = .returned (.bool (decide (c ∈ s))) ∧ w1 = w') := by rw [← hn]; exact (rhas_any s _ c w1 HR.out).mono fun _ _ h => ⟨h.1, h.2.symm⟩
  rw [hn] at hsl HR HN HI ⊢
  have HSN := Lib.hid hn
  clear hs hset hn H1
  by_cases h255 : 255 ≤ n
  · have g1 : (255 : Int) ≤ (n : Int) := by omega
    by_cases hcs : c ∈ s
    · rw [decide_eq_true hcs] at HHAS
      have hcs' := Lib.hid hcs
      clear hcs
      have HW : Hid (W32 (s ++ [c])) := (HS.out.w32 H32.out).app (fun x hx => by rw [List.mem_singleton.1 hx]; exact hc)
      have H2 : Hid (∀ v2 w4, InsS w v2 (s ++ [c]) w4 → Calls Tryd.prog 38 #[v2] w4 fun e w' => ∃ v' s2, e = .returned v' ∧ InsS w4 v' s2 w' ∧ IsSet (s ++ [c]) s2) := fun v2 w4 h => ascending_any (s ++ [c]) v2 w4 (h.1.rd HW.out) (by rw [List.length_append, HSN.out]; simp; omega)
      have H3 : Hid (∀ s2, IsSet (s ++ [c]) s2 → AddP l c s2) := fun s2 h => ⟨s, HS.out, by rw [if_pos (by rw [HSN.out]; exact h255)]; exact set_same HS.out.1 h hcs'.out⟩
      go_upto_region 4 with (go_at_call 17; refine HHAS.out.mono ?_; rintro e w2 ⟨rfl, rfl⟩)
      generalize hvv : Value.slice ad1 n c1 = vo at *
      clear hvv
      go_wp2_with (at_builtin; refine wpList_append_own _ rfl (.tmp 18) (.tmp 20) 22 rfl w.heap.size 27 i0 (.int .u32 0) 1 4 Tryd.underlying22 hi hz0 hz1 hz2 rfl (by decide) vo s.length (adV s) rfl (own_below HI.out.1.2 (below_alloc _ _)) ⟨w1.heap.size, 0, none⟩ 1 1 [.int .u32 (c : Int)] rfl rfl (cellU_new _ _ _ rfl) (one_u32 _) (by have := HSN.out; unfold maxLen; omega) (by have := HSN.out; omega) (by have := HI.out.2.size; simp; omega) ?_; intro v2 w4 hown hgrow hnil; have S2 := Lib.hid (HI.out.push c _ hown hgrow); clear hown hgrow hnil)
      go_at_call 38
      refine (H2.out _ _ S2.out).mono ?_
      rintro e w5 ⟨v3, s2, rfl, hs2, hset2⟩
      have HF : Hid (RS w (AddP l c) v3 w5) := ⟨s2, hs2.1.rd (hset2.w32 HW.out), hs2.1.nilV, H3.out _ hset2, below_then S2.out.2 hs2.2⟩
      clear hs2 hset2
      go_wp2
      go_ret
      exact ⟨_, rfl, HF.out⟩
    · rw [decide_eq_false hcs] at HHAS
      have HP : Hid (RS w (AddP l c) (.slice ad1 n c1) w1) := ⟨s, HR.out, HN.out, ⟨s, HS.out, by rw [if_pos (by rw [HSN.out]; exact h255)]⟩, HI.out.2⟩
      clear hcs
      go_wp2_with (go_at_call 17; refine HHAS.out.mono ?_; rintro e w2 ⟨rfl, rfl⟩)
      go_ret
      exact ⟨_, rfl, HP.out⟩
  · have g1 : ¬ (255 : Int) ≤ (n : Int) := by omega
    have g2 : decide ((255 : Int) ≤ (n : Int)) = false := decide_eq_false g1
    have HW : Hid (W32 (s ++ [c])) := (HS.out.w32 H32.out).app (fun x hx => by rw [List.mem_singleton.1 hx]; exact hc)
    have H2 : Hid (∀ v2 w4, InsS w v2 (s ++ [c]) w4 → Calls Tryd.prog 38 #[v2] w4 fun e w' => ∃ v' s2, e = .returned v' ∧ InsS w4 v' s2 w' ∧ IsSet (s ++ [c]) s2) := fun v2 w4 h => ascending_any (s ++ [c]) v2 w4 (h.1.rd HW.out) (by rw [List.length_append, HSN.out]; simp; omega)
    have H3 : Hid (∀ s2, IsSet (s ++ [c]) s2 → AddP l c s2) := fun s2 h => ⟨s, HS.out, by rw [if_neg (by rw [HSN.out]; exact h255)]; exact set_snoc HS.out h⟩
    go_upto_region 4 with fail
    generalize hvv : Value.slice ad1 n c1 = vo at *
    clear hvv
    go_wp2_with (at_builtin; refine wpList_append_own _ rfl (.tmp 18) (.tmp 20) 22 rfl w.heap.size 27 i0 (.int .u32 0) 1 4 Tryd.underlying22 hi hz0 hz1 hz2 rfl (by decide) vo s.length (adV s) rfl (own_below HI.out.1.2 (below_alloc _ _)) ⟨w1.heap.size, 0, none⟩ 1 1 [.int .u32 (c : Int)] rfl rfl (cellU_new _ _ _ rfl) (one_u32 _) (by have := HSN.out; unfold maxLen; omega) (by have := HSN.out; omega) (by have := HI.out.2.size; simp; omega) ?_; intro v2 w4 hown hgrow hnil; have S2 := Lib.hid (HI.out.push c _ hown hgrow); clear hown hgrow hnil)
    go_at_call 38
    refine (H2.out _ _ S2.out).mono ?_
    rintro e w5 ⟨v3, s2, rfl, hs2, hset2⟩
    have HF : Hid (RS w (AddP l c) v3 w5) := ⟨s2, hs2.1.rd (hset2.w32 HW.out), hs2.1.nilV, H3.out _ hset2, below_then S2.out.2 hs2.2⟩
    clear hs2 hset2
    go_wp2
    go_ret
    exact ⟨_, rfl, HF.out⟩
end Go.Proofs.YtaniiennfogjaaaDoor
