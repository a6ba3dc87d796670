/-
  The walk of checkPrepend.
-/
import Derived.Test.YtiobfgcpbihbhaaGreatDoorAsN
import Derived.BigQuiet
namespace Go.Proofs.YtiobfgcpbihbhaaGreatDoor
open Go.RowKit P
set_option linter.unusedSimpArgs false
set_option linter.unusedVariables false
set_option maxHeartbeats 4000000
set_option maxRecDepth 100000
/-- begins with a segment of a confederation -/
def P.confB (p : List Sg) : Bool := match p with | s :: _ => isConf s.k | [] => false
def P.prpE (p : List Sg) (kd x n : Int) : Int :=
  if chk p ≠ 0 then chk p else if kd ≠ 2 ∧ kd ≠ 3 then 15 else if isNum x = false ∨ n < 0 ∨ 255 < n then 5 else if 0 < n ∧ kd = 2 ∧ confB p = true then 1 else 0
theorem checkPrep_any (p : List Sg) (v : Value) (kd x n : Int) (w : World) (hv : RdS w v p) : Calls Tryz.prog 53 #[v, .int .i64 kd, .int .i64 x, .int .i64 n] w fun e w' => e = .returned (.int .i64 (prpE p kd x n)) ∧ Below w.heap.size w w' := by
  have HC := Lib.hid (check_any p v w hv)
  have HV : Hid (∀ W, Below w.heap.size w W → RdS W v p) := fun W hW => hv.below hW
  have HE : Hid (prpE p kd x n = if chk p ≠ 0 then chk p else if kd ≠ 2 ∧ kd ≠ 3 then 15 else if isNum x = false ∨ n < 0 ∨ 255 < n then 5 else if 0 < n ∧ kd = 2 ∧ confB p = true then 1 else 0) := rfl
  generalize prpE p kd x n = q at *
  obtain ⟨ad, cap, rfl, h1, h2, hc⟩ := hv
  obtain ⟨L, hL⟩ : ∃ L, p.length = L := ⟨_, rfl⟩
  rw [hL] at HC HV ⊢
  have HL := Lib.hid hL
  clear hc hL h1
  go_enter Tryz.func53, Tryz.ntmps53
  go_wp2_with fail
  go_at_call 13
  refine HC.out.mono ?_
  rintro e w1 ⟨rfl, hb⟩
  have HB1 := Lib.hid hb
  clear hb HC
  by_cases hk : chk p = 0
  · rw [hk] at HE ⊢
    have E1 : Hid (q = if kd ≠ 2 ∧ kd ≠ 3 then 15 else if isNum x = false ∨ n < 0 ∨ 255 < n then 5 else if 0 < n ∧ kd = 2 ∧ confB p = true then 1 else 0) := by show _ = _; rw [HE.out, if_neg (by simp)]
    clear HE hk
    by_cases hkd : kd ≠ 2 ∧ kd ≠ 3
    · have HQ : Hid (q = 15) := by show _ = _; rw [E1.out, if_pos hkd]
      have e1 : (kd != 2) = true := by simpa using hkd.1
      have e2 : (kd != 3) = true := by simpa using hkd.2
      clear E1 hkd
      go_wp2
      go_ret
      exact ⟨by rw [HQ.out] <;> rfl, HB1.out⟩
    · have E2 : Hid (q = if isNum x = false ∨ n < 0 ∨ 255 < n then 5 else if 0 < n ∧ kd = 2 ∧ confB p = true then 1 else 0) := by show _ = _; rw [E1.out, if_neg hkd]
      have hk2 : kd = 2 ∨ kd = 3 := by omega
      clear E1 hkd
      have HN := Lib.hid (isNum_any x w1)
      obtain ⟨b, hb⟩ : ∃ b, isNum x = b := ⟨_, rfl⟩
      rw [hb] at E2 HN
      clear hb
      -- the rest does not ask how the kind was found
      have key : ∀ (kd : Int), (kd = 2 ∨ kd = 3) → True := fun _ _ => trivial
      clear key
      rcases hk2 with rfl | rfl
      · go_wp2_with fail
        go_at_call 77
        refine HN.out.mono ?_
        rintro e w2 ⟨rfl, rfl⟩
        clear HN
        cases b with
        | false =>
          have HQ : Hid (q = 5) := by show _ = _; rw [E2.out, if_pos (.inl rfl)]
          go_wp2
          go_ret
          exact ⟨by rw [HQ.out] <;> rfl, HB1.out⟩
        | true =>
          by_cases hn1 : n < 0
          · have HQ : Hid (q = 5) := by show _ = _; rw [E2.out, if_pos (.inr (.inl hn1))]
            have e1 : decide (n < 0) = true := decide_eq_true hn1
            go_wp2
            go_ret
            exact ⟨by rw [HQ.out] <;> rfl, HB1.out⟩
          · by_cases hn2 : 255 < n
            · have HQ : Hid (q = 5) := by show _ = _; rw [E2.out, if_pos (.inr (.inr hn2))]
              have e1 : decide (n < 0) = false := decide_eq_false hn1
              have e2 : decide (255 < n) = true := decide_eq_true hn2
              go_wp2
              go_ret
              exact ⟨by rw [HQ.out] <;> rfl, HB1.out⟩
            · have E3 : Hid (q = if 0 < n ∧ confB p = true then 1 else 0) := by show _ = _; rw [E2.out, if_neg (by simp; omega)]; simp
              have e1 : decide (n < 0) = false := decide_eq_false hn1
              have e2 : decide (255 < n) = false := decide_eq_false hn2
              clear E2
              by_cases hn3 : 0 < n
              · have e3 : decide (0 < n) = true := decide_eq_true hn3
                have E4 : Hid (q = if confB p = true then 1 else 0) := by
                  show _ = _; rw [E3.out]
                  cases confB p <;> simp [hn3]
                clear E3
                by_cases hl0 : L = 0
                · have hp : p = [] := List.length_eq_zero_iff.1 (by rw [HL.out]; exact hl0)
                  have HQ : Hid (q = 0) := by show _ = _; rw [E4.out, hp]; rfl
                  subst hl0
                  clear E4 hp
                  go_wp2
                  go_ret
                  exact ⟨by rw [HQ.out] <;> rfl, HB1.out⟩
                · obtain ⟨s, r, hp⟩ : ∃ s r, p = s :: r := by
                    cases p with
                    | nil => exact absurd HL.out.symm hl0
                    | cons s r => exact ⟨s, r, rfl⟩
                  obtain ⟨ad', cap', e', _, _, hcc⟩ := HV.out w2 HB1.out
                  injection e' with e1' e2' e3'
                  subst e1'
                  obtain ⟨b', off, u, rfl, hbb, c0, c1, hu⟩ := hcc 0 s (by rw [hp]; rfl)
                  have d0 : w2.cell? ⟨b', off, none⟩ = some (.int .i64 s.k) := by simpa using c0
                  have d1 : w2.cell? ⟨b', off + 1, none⟩ = some u := by simpa using c1
                  obtain ⟨uad, ucap, hf⟩ := hu.form
                  subst hf
                  generalize s.as.length = LL at *
                  have k0 : (0 : Int) < (L : Int) := by omega
                  have k0' : decide ((0 : Int) < (L : Int)) = true := decide_eq_true k0
                  have HR1 : Hid (RdI (w2.alloc (.cells #[.int .i64 3, .int .i64 4] 3)) (.slice (some ⟨w2.heap.size, 0, none⟩) 2 2) [3, 4]) := rdi_at _ [3, 4] 3 _ rfl _ rfl _ rfl (by decide)
                  have HB2 : Hid (Below w.heap.size w (w2.alloc (.cells #[.int .i64 3, .int .i64 4] 3))) := below_then HB1.out (below_alloc _ _)
                  have E5 : Hid (q = if isConf s.k = true then 1 else 0) := by show _ = _; rw [E4.out, hp]; rfl
                  clear E4 hcc c0 c1 hu hp HV
                  go_wp2_with fail
                  go_at_call 44
                  refine (isOf_any s.k (.slice uad LL ucap) _ [3, 4] _ HR1.out rfl).mono ?_
                  rintro e w3 ⟨rfl, hb3⟩
                  rw [memConf]
                  have HB3 := Lib.hid (below_then HB2.out hb3)
                  clear hb3
                  cases hcf : isConf s.k with
                  | true =>
                    have HQ : Hid (q = 1) := by show _ = _; rw [E5.out, hcf]; rfl
                    clear E5 hcf
                    go_wp2
                    go_ret
                    exact ⟨by rw [HQ.out] <;> rfl, HB3.out⟩
                  | false =>
                    have HQ : Hid (q = 0) := by show _ = _; rw [E5.out, hcf]; rfl
                    clear E5 hcf
                    go_wp2
                    go_ret
                    exact ⟨by rw [HQ.out] <;> rfl, HB3.out⟩
              · have e3 : decide (0 < n) = false := decide_eq_false hn3
                have HQ : Hid (q = 0) := by show _ = _; rw [E3.out, if_neg (fun h => hn3 h.1)]
                clear E3
                go_wp2
                go_ret
                exact ⟨by rw [HQ.out] <;> rfl, HB1.out⟩
      · go_wp2_with fail
        go_at_call 77
        refine HN.out.mono ?_
        rintro e w2 ⟨rfl, rfl⟩
        clear HN
        cases b with
        | false =>
          have HQ : Hid (q = 5) := by show _ = _; rw [E2.out, if_pos (.inl rfl)]
          go_wp2
          go_ret
          exact ⟨by rw [HQ.out] <;> rfl, HB1.out⟩
        | true =>
          by_cases hn1 : n < 0
          · have HQ : Hid (q = 5) := by show _ = _; rw [E2.out, if_pos (.inr (.inl hn1))]
            have e1 : decide (n < 0) = true := decide_eq_true hn1
            go_wp2
            go_ret
            exact ⟨by rw [HQ.out] <;> rfl, HB1.out⟩
          · by_cases hn2 : 255 < n
            · have HQ : Hid (q = 5) := by show _ = _; rw [E2.out, if_pos (.inr (.inr hn2))]
              have e1 : decide (n < 0) = false := decide_eq_false hn1
              have e2 : decide (255 < n) = true := decide_eq_true hn2
              go_wp2
              go_ret
              exact ⟨by rw [HQ.out] <;> rfl, HB1.out⟩
            · have HQ : Hid (q = 0) := by show _ = _; rw [E2.out, if_neg (by simp; omega), if_neg (by simp)]
              have e1 : decide (n < 0) = false := decide_eq_false hn1
              have e2 : decide (255 < n) = false := decide_eq_false hn2
              clear E2
              by_cases hn3 : 0 < n
              · have e3 : decide (0 < n) = true := decide_eq_true hn3
                go_wp2
                go_ret
                exact ⟨by rw [HQ.out] <;> rfl, HB1.out⟩
              · have e3 : decide (0 < n) = false := decide_eq_false hn3
                go_wp2
                go_ret
                exact ⟨by rw [HQ.out] <;> rfl, HB1.out⟩
  · have HQ : Hid (q = chk p) := by show _ = _; rw [HE.out, if_pos hk]
    have e1 : (chk p != 0) = true := by simpa using hk
    generalize chk p = z at *
    clear HE hk
    go_wp2
    go_ret
    exact ⟨by rw [HQ.out] <;> rfl, HB1.out⟩
end Go.Proofs.YtiobfgcpbihbhaaGreatDoor
