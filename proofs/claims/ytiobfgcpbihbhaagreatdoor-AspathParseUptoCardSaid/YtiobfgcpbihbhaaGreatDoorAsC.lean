/-
  The walks of ascends, checkSegment, mayFollow.
-/
import Derived.Test.YtiobfgcpbihbhaaGreatDoorAsA
import Derived.BigQuiet
namespace Go.Proofs.YtiobfgcpbihbhaaGreatDoor
open Go.RowKit P
set_option linter.unusedSimpArgs false
set_option linter.unusedVariables false
set_option maxHeartbeats 4000000
set_option maxRecDepth 100000
theorem P.asc_iff : ∀ {l : List Int}, asc l = true ↔ ∀ (j : Nat) (x y : Int), l[j]? = some x → l[j + 1]? = some y → x < y
  | [] => by simp [asc]
  | [a] => by simp [asc]
  | a :: b :: r => by
    have ih := @asc_iff (b :: r)
    rw [asc, Bool.and_eq_true, decide_eq_true_eq, ih]
    constructor
    · rintro ⟨h1, h2⟩ j x y hx hy
      cases j with
      | zero => simp at hx hy; subst hx hy; exact h1
      | succ j => exact h2 j x y (by simpa using hx) (by simpa using hy)
    · intro h
      exact ⟨h 0 a b rfl rfl, fun j x y hx hy => h (j + 1) x y (by simpa using hx) (by simpa using hy)⟩
theorem ascends_any (l : List Int) (v : Value) (w : World) (hv : RdI w v l) : Calls Tryz.prog 78 #[v] w fun e w' => e = .returned (.bool (asc l)) ∧ Below w.heap.size w w' := by
  obtain ⟨ad, cap, rfl, h1, h2, hc⟩ := hv
  have HC := Lib.hid hc
  obtain ⟨L, hL⟩ : ∃ L, l.length = L := ⟨_, rfl⟩
  rw [hL] at h1 ⊢
  have HL := Lib.hid hL
  have hLm : L ≤ 9223372036854775807 := by have := h2.1; omega
  clear hc hL h2
  have HA0 : Hid (∀ (j : Nat) (x y : Int), j + 1 < 1 → l[j]? = some x → l[j + 1]? = some y → x < y) := fun j x y h => by omega
  have HS0 : Hid (Below w.heap.size w w) := Below.refl _ _
  go_enter Tryz.func78, Tryz.ntmps78
  go_wp2_with fail
  go_loopg [3] (L + 1) (fun g s3 wr => ∃ k : Nat, 1 ≤ k ∧ (k ≤ L ∨ k = 1) ∧ L + 1 - k ≤ g ∧ s3 = .int .i64 (k : Int) ∧ Hid (∀ (j : Nat) (x y : Int), j + 1 < k → l[j]? = some x → l[j + 1]? = some y → x < y) ∧ Hid (Below w.heap.size w wr))
  case atStart => exact ⟨1, by omega, .inr rfl, by omega, rfl, HA0, HS0⟩
  case round =>
    clear HA0 HS0
    obtain ⟨k, hk1, hkL, hg, rfl, HA, HS⟩ := hrel
    by_cases hlt : k < L
    · obtain ⟨x, hx⟩ : ∃ x, l[k - 1]? = some x := ⟨_, List.getElem?_eq_getElem (by have := HL.out; omega)⟩
      obtain ⟨y, hy⟩ : ∃ y, l[k]? = some y := ⟨_, List.getElem?_eq_getElem (by have := HL.out; omega)⟩
      obtain ⟨b, off, rfl, hb, c⟩ := HC.out (k - 1) x hx
      obtain ⟨b', off', e', hb', c'⟩ := HC.out k y hy
      cases e'
      have d := carry HS.out c
      have d' := carry HS.out c'
      have p0 : (0 : Int) ≤ (k : Int) := by omega
      have p1 : (k : Int) < (L : Int) := by omega
      have p2 : (0 : Int) ≤ (k : Int) - 1 := by omega
      have p3 : (k : Int) - 1 < (L : Int) := by omega
      have p4 : IntKind.i64.wrap ((k : Int) - 1) = (k : Int) - 1 := IntWalk.i64_in _ (by omega)
      have p5 : ((k : Int) - 1).toNat = k - 1 := by omega
      have HXY := Lib.hid (And.intro hx hy)
      clear c c' hx hy
      by_cases hxy : x < y
      · have q1 : decide (y ≤ x) = false := decide_eq_false (by omega)
        have HN : Hid (∀ (j : Nat) (x y : Int), j + 1 < k + 1 → l[j]? = some x → l[j + 1]? = some y → x < y) := fun j x' y' hj hx' hy' => by
          by_cases e : j + 1 = k
          · subst e
            have h1 := HXY.out.1; have h2 := HXY.out.2
            rw [show j + 1 - 1 = j by omega, hx'] at h1
            rw [hy'] at h2
            cases h1; cases h2; exact hxy
          · exact HA.out j x' y' (by omega) hx' hy'
        clear HA
        go_wp2_with fail
        go_quiet (fail)
        go_wp2_with fail
        go_roundg (L + 1 - (k + 1))
        case measure => omega
        case rel => exact ⟨k + 1, by omega, .inl (by omega), Nat.le_refl _, by go_num, HN, below_drewN HS.out _⟩
      · have q1 : decide (y ≤ x) = true := decide_eq_true (by omega)
        have HF : Hid (asc l = false) := by
          show _ = _
          rw [Bool.eq_false_iff]
          intro h
          have h1 := HXY.out.1; have h2 := HXY.out.2
          exact hxy (asc_iff.1 h (k - 1) x y h1 (by rw [show k - 1 + 1 = k by omega]; exact h2))
        clear HA
        go_wp2_with fail
        go_quiet (fail)
        go_wp2
        go_ret
        exact ⟨by rw [HF.out]; rfl, below_drewN HS.out _⟩
    · have k1 : decide ((k : Int) < (L : Int)) = false := decide_eq_false (by omega)
      have HF : Hid (asc l = true) := asc_iff.2 fun j x y hx hy => HA.out j x y (by have := (List.getElem?_eq_some_iff.1 hy).1; have := HL.out; omega) hx hy
      go_wp2
      go_ret
      exact ⟨by rw [HF.out]; rfl, HS.out⟩
theorem mem4 (k : Int) : decide (k ∈ [(2 : Int), 1, 3, 4]) = !(decide (k < 1 ∨ 4 < k)) := by
  by_cases h : k < 1 ∨ 4 < k
  · rw [decide_eq_true h, decide_eq_false]; rfl
    simp; omega
  · rw [decide_eq_false h, decide_eq_true]; rfl
    simp; omega
theorem memSet (k : Int) : decide (k ∈ [(1 : Int), 4]) = isSet k := by unfold isSet; simp
theorem memConf (k : Int) : decide (k ∈ [(3 : Int), 4]) = isConf k := by unfold isConf; simp
theorem memSeq (k : Int) : decide (k ∈ [(2 : Int), 3]) = isSeq k := by unfold isSeq; simp
theorem seg_any (k : Int) (ns : List Int) (u : Value) (w : World) (hu : RdI w u ns) : Calls Tryz.prog 39 #[.agg #[.int .i64 k, u]] w fun e w' => e = .returned (.int .i64 (segE ⟨k, ns⟩)) ∧ Below w.heap.size w w' := by
  have HU : Hid (∀ W, Below w.heap.size w W → RdI W u ns) := fun W hW => hu.below hW
  obtain ⟨ad, cap, hf⟩ := hu.form
  obtain ⟨L, hL⟩ : ∃ L, ns.length = L := ⟨_, rfl⟩
  have hLm : L ≤ 9223372036854775807 := by obtain ⟨_, _, _, h1, h2, _⟩ := hu; have := h2.1; omega
  rw [hL] at hf
  subst hf
  have HL := Lib.hid hL
  have HB0 : Hid (Below w.heap.size w ((w.alloc (.cells #[.int .i64 k, .slice ad L cap] 46)).alloc (.cells #[.int .i64 2, .int .i64 1, .int .i64 3, .int .i64 4] 3))) := below_then (below_alloc _ _) (below_alloc _ _)
  have HR0 : Hid (RdI ((w.alloc (.cells #[.int .i64 k, .slice ad L cap] 46)).alloc (.cells #[.int .i64 2, .int .i64 1, .int .i64 3, .int .i64 4] 3)) (.slice (some ⟨w.heap.size + 1, 0, none⟩) 4 4) [2, 1, 3, 4]) := rdi_at _ [2, 1, 3, 4] 3 _ (by simp) _ rfl _ rfl (by decide)
  have HX0 : Hid (((w.alloc (.cells #[.int .i64 k, .slice ad L cap] 46)).alloc (.cells #[.int .i64 2, .int .i64 1, .int .i64 3, .int .i64 4] 3)).heap[w.heap.size]? = some (.cells #[.int .i64 k, .slice ad L cap] 46 (0, 0))) := ((below_alloc _ _).block _ (by simp)).trans (heap_alloc_new _ _)
  clear hu hL
  have S15 : Hid ((k < 1 ∨ 4 < k) → segE ⟨k, ns⟩ = 15) := fun h => if_pos h
  by_cases h0 : k < 1 ∨ 4 < k
  · rw [S15.out h0]
    have hm := mem4 k
    rw [decide_eq_true h0] at hm
    go_enter Tryz.func39, Tryz.ntmps39
    go_wp2_with fail
    go_at_call 44
    refine (isOf_any k (.slice ad L cap) _ [2, 1, 3, 4] _ HR0.out rfl).mono ?_
    rintro e w1 ⟨rfl, hb⟩
    rw [hm]
    have HB1 := Lib.hid (below_then HB0.out hb)
    clear hb
    go_wp2
    go_ret
    exact ⟨rfl, HB1.out⟩
  · have hm := mem4 k
    rw [decide_eq_false h0] at hm
    have E0 : Hid (segE ⟨k, ns⟩ = if ns = [] then 1 else if 255 < ns.length then 4 else if ns.any (fun x => !isNum x) then 5 else if isSet k && !asc ns then 16 else 0) := if_neg h0
    clear S15 h0
    go_enter Tryz.func39, Tryz.ntmps39
    go_wp2_with fail
    go_at_call 44
    refine (isOf_any k (.slice ad L cap) _ [2, 1, 3, 4] _ HR0.out rfl).mono ?_
    rintro e w1 ⟨rfl, hb⟩
    rw [hm]
    have HB1 := Lib.hid (below_then HB0.out hb)
    have HX1 := Lib.hid ((hb.block _ (lt_block HX0.out)).trans HX0.out)
    have b0 : w1.cell? ⟨w.heap.size, 0, none⟩ = some (.int .i64 k) := cell_of HX1.out rfl
    have b1 : w1.cell? ⟨w.heap.size, 1, none⟩ = some (.slice ad L cap) := cell_of HX1.out rfl
    clear hb HB0 HX0 hm
    by_cases h1 : L = 0
    · subst h1
      have ha : ns = [] := List.length_eq_zero_iff.1 HL.out
      have HE : Hid (segE ⟨k, ns⟩ = 1) := by show _ = _; rw [E0.out, if_pos ha]
      clear E0 ha
      go_wp2
      go_ret
      exact ⟨by rw [HE.out] <;> rfl, HB1.out⟩
    · have n1 : ((L : Int) == 0) = false := by simp; omega
      have n1' : (L == 0) = false := by simp; omega
      have ha : ns ≠ [] := fun e => h1 (by rw [← HL.out, e]; rfl)
      by_cases h2 : 255 < L
      · have n2 : decide ((255 : Int) < (L : Int)) = true := decide_eq_true (by omega)
        have n2' : decide (255 < L) = true := decide_eq_true h2
        have HE : Hid (segE ⟨k, ns⟩ = 4) := by show _ = _; rw [E0.out, if_neg ha, if_pos (by rw [HL.out]; exact h2)]
        clear E0 ha h1
        go_wp2
        go_ret
        exact ⟨by rw [HE.out] <;> rfl, HB1.out⟩
      · have n2 : decide ((255 : Int) < (L : Int)) = false := decide_eq_false (by omega)
        have n2' : decide (255 < L) = false := decide_eq_false h2
        have E1 : Hid (segE ⟨k, ns⟩ = if ns.any (fun x => !isNum x) then 5 else if isSet k && !asc ns then 16 else 0) := by show _ = _; rw [E0.out, if_neg ha, if_neg (by rw [HL.out]; exact h2)]
        clear E0 ha h1
        go_wp2_with fail
        go_at_call 75
        refine (cont76_any ns (.slice ad L cap) _ (HU.out _ HB1.out)).mono ?_
        rintro e w2 ⟨rfl, rfl⟩
        cases hq : (ns.any fun x => !isNum x) with
        | true =>
          have HE : Hid (segE ⟨k, ns⟩ = 5) := by show _ = _; rw [E1.out, hq]; rfl
          clear E1 hq
          go_wp2
          go_ret
          exact ⟨by rw [HE.out] <;> rfl, HB1.out⟩
        | false =>
          have E2 : Hid (segE ⟨k, ns⟩ = if isSet k && !asc ns then 16 else 0) := by show _ = _; rw [E1.out, hq]; rfl
          clear E1 hq
          have HB2 := Lib.hid (below_then HB1.out (below_alloc w2 (.cells #[.int .i64 1, .int .i64 4] 3)))
          have HR2 : Hid (RdI (w2.alloc (.cells #[.int .i64 1, .int .i64 4] 3)) (.slice (some ⟨w2.heap.size, 0, none⟩) 2 2) [1, 4]) := rdi_at _ [1, 4] 3 _ rfl _ rfl _ rfl (by decide)
          have HX2 : Hid ((w2.alloc (.cells #[.int .i64 1, .int .i64 4] 3)).heap[w.heap.size]? = some (.cells #[.int .i64 k, .slice ad L cap] 46 (0, 0))) := ((below_alloc _ _).block _ (lt_block HX1.out)).trans HX1.out
          go_wp2_with fail
          go_at_call 44
          refine (isOf_any k (.slice ad L cap) _ [1, 4] _ HR2.out rfl).mono ?_
          rintro e w3 ⟨rfl, hb⟩
          rw [memSet]
          have HB3 := Lib.hid (below_then HB2.out hb)
          have HX3 := Lib.hid ((hb.block _ (lt_block HX2.out)).trans HX2.out)
          clear b0 b1 hb HB1 HX1 HB2 HX2
          have b0 : w3.cell? ⟨w.heap.size, 0, none⟩ = some (.int .i64 k) := cell_of HX3.out rfl
          have b1 : w3.cell? ⟨w.heap.size, 1, none⟩ = some (.slice ad L cap) := cell_of HX3.out rfl
          cases hs : isSet k with
          | false =>
            have HE : Hid (segE ⟨k, ns⟩ = 0) := by show _ = _; rw [E2.out, hs]; rfl
            clear E2 hs
            go_wp2
            go_ret
            exact ⟨by rw [HE.out] <;> rfl, HB3.out⟩
          | true =>
            go_wp2_with fail
            go_at_call 78
            refine (ascends_any ns (.slice ad L cap) _ (HU.out _ HB3.out)).mono ?_
            rintro e w4 ⟨rfl, hb⟩
            have HB4 := Lib.hid (below_then HB3.out hb)
            clear hb b0 b1
            cases ha : asc ns with
            | true =>
              have HE : Hid (segE ⟨k, ns⟩ = 0) := by show _ = _; rw [E2.out, hs, ha]; rfl
              clear E2 hs ha
              go_wp2
              go_ret
              exact ⟨by rw [HE.out] <;> rfl, HB4.out⟩
            | false =>
              have HE : Hid (segE ⟨k, ns⟩ = 16) := by show _ = _; rw [E2.out, hs, ha]; rfl
              clear E2 hs ha
              go_wp2
              go_ret
              exact ⟨by rw [HE.out] <;> rfl, HB4.out⟩
end Go.Proofs.YtiobfgcpbihbhaaGreatDoor
