/-
  AwA AwB AwC AwD in one text.
-/
import Derived.Test.YtaniiennfogjaaaGreatDoorAuA
import Derived.Test.YtaniiennfogjaaaGreatDoorAsF
import Derived.Test.YtaniiennfogjaaaGreatDoorAsG
import Derived.Test.YtaniiennfogjaaaGreatDoorAsH
import Derived.BigQuiet
import Derived.Test.YtaniiennfogjaaaGreatDoorAsR
import Derived.Deep.AppendLies
import Derived.Deep.RegionLaw
import Derived.Test.YtaniiennfogjaaaGreatDoorAvA
import Derived.Test.YtaniiennfogjaaaGreatDoorAtA
import Derived.Test.YtaniiennfogjaaaGreatDoorAuC
import Derived.Test.YtaniiennfogjaaaGreatDoorAtU
namespace Go.Proofs.YtaniiennfogjaaaGreatDoor
section
open Go.RowKit P
set_option linter.unusedSimpArgs false
set_option linter.unusedVariables false
set_option maxHeartbeats 1500000
set_option maxRecDepth 100000
theorem lsame_any (a b : List Int) (v u : Value) (w : World) (hv : RdI w v a) (hu : RdI w u b) :
    Calls Tryz.prog 26 #[v, u] w fun e w' => e = .returned (.bool (decide (a = b))) ∧ Below w.heap.size w w' := by
  obtain ⟨va, vc, rfl, v1, v2, hvc⟩ := hv
  obtain ⟨ua, uc, rfl, u1, u2, huc⟩ := hu
  obtain ⟨M, hM⟩ : ∃ M, a.length = M := ⟨_, rfl⟩
  obtain ⟨N, hN⟩ : ∃ N, b.length = N := ⟨_, rfl⟩
  rw [hM] at v1 ⊢
  rw [hN] at u1 ⊢
  have HM := Lib.hid hM
  have HN := Lib.hid hN
  have HVC := Lib.hid hvc
  have HUC := Lib.hid huc
  have hLm : M ≤ 9223372036854775807 := by have := v2.1; omega
  have HA0 : Hid (∀ j, j < 0 → a[j]? = b[j]?) := fun j h => by omega
  have HS0 : Hid (Below w.heap.size w w) := Below.refl _ _
  clear v1 v2 u1 u2 hvc huc hM hN
  by_cases hmn : M = N
  · subst hmn
    go_enter Tryz.func26, Tryz.ntmps26
    go_wp2_with fail
    go_loopg [5, 13] (M + 1) (fun g s5 s13 wr => ∃ k : Nat, k ≤ M ∧ M + 1 - k ≤ g ∧ s13 = .int .i64 (k : Int) ∧ (∃ q, q = s5) ∧ Hid (∀ j, j < k → a[j]? = b[j]?) ∧ Hid (Below w.heap.size w wr))
    case atStart => exact ⟨0, by omega, by omega, rfl, ⟨_, rfl⟩, HA0, HS0⟩
    case round =>
      clear HA0 HS0
      obtain ⟨k, hk, hkg, rfl, ⟨u5, rfl⟩, HA, HS⟩ := hrel
      by_cases hlt : k < M
      · obtain ⟨x, hx⟩ : ∃ x, a[k]? = some x := ⟨_, List.getElem?_eq_getElem (by have := HM.out; omega)⟩
        obtain ⟨y, hy⟩ : ∃ y, b[k]? = some y := ⟨_, List.getElem?_eq_getElem (by have := HN.out; omega)⟩
        have HXY := Lib.hid (And.intro hx hy)
        obtain ⟨p1, o1, rfl, q1, c1⟩ := HVC.out k x hx
        obtain ⟨p2, o2, rfl, q2, c2⟩ := HUC.out k y hy
        have d1 := carry HS.out c1
        have d2 := carry HS.out c2
        have k0 : (0 : Int) ≤ (k : Int) := by omega
        have k1 : decide ((k : Int) < (M : Int)) = true := decide_eq_true (by omega)
        have k2 : (k : Int) < (M : Int) := by omega
        clear hx hy c1 c2
        by_cases hxy : x = y
        · have e1 : (x == y) = true := by simpa using hxy
          have HA2 : Hid (∀ j, j < k + 1 → a[j]? = b[j]?) := fun j hj => by
            by_cases e : j = k
            · subst e; rw [HXY.out.1, HXY.out.2, hxy]
            · exact HA.out j (by omega)
          clear HA HXY hxy
          go_wp2_with fail
          go_quiet (fail)
          go_wp2_with fail
          go_roundg (M + 1 - (k + 1))
          case measure => omega
          case rel => exact ⟨k + 1, by omega, Nat.le_refl _, by go_num, ⟨_, rfl⟩, HA2, below_drewN HS.out _⟩
        · have e1 : (x == y) = false := by simpa using hxy
          have HZ : Hid (decide (a = b) = false) := by
            refine decide_eq_false fun e => hxy ?_
            have h1 := HXY.out.1; have h2 := HXY.out.2
            rw [e, h2] at h1; cases h1; rfl
          clear HA HXY hxy
          go_wp2_with fail
          go_quiet (fail)
          go_wp2
          go_ret
          exact ⟨by rw [HZ.out] <;> rfl, below_drewN HS.out _⟩
      · have k1 : decide ((k : Int) < (M : Int)) = false := decide_eq_false (by omega)
        have HZ : Hid (decide (a = b) = true) := decide_eq_true (eq_upto (by rw [HM.out, HN.out]) (fun j hj => HA.out j (by have := HM.out; omega)))
        go_wp2
        go_ret
        exact ⟨by rw [HZ.out] <;> rfl, HS.out⟩
  · have HZ : Hid (decide (a = b) = false) := decide_eq_false fun e => hmn (by rw [← HM.out, ← HN.out, e])
    have k1 : ((M : Int) == (N : Int)) = false := by simpa using (by omega : ¬ (M : Int) = (N : Int))
    go_enter Tryz.func26, Tryz.ntmps26
    go_wp2
    go_ret
    exact ⟨by rw [HZ.out] <;> rfl, HS0.out⟩
theorem rlength_any (p : List Sg) (v : Value) (w : World) (hv : RdS w v p) (hl : (flat p).length ≤ 2000000) (hp : p.length ≤ 2000000) : Calls Tryz.prog 20 #[v] w fun e w' => e = .returned (.int .i64 (len p : Int)) ∧ Below w.heap.size w w' := by
  obtain ⟨ad, cap, rfl, h1, h2, hc⟩ := hv
  have HC := Lib.hid hc
  obtain ⟨n, hn⟩ : ∃ n, p.length = n := ⟨_, rfl⟩
  have HTL : Hid (∀ k, len (p.take k) ≤ 4000000) := fun k => Nat.le_trans (len_take_le p k) (by omega)
  rw [hn] at h1 hp ⊢
  have HN := Lib.hid hn
  have HS0 : Hid (Below w.heap.size w w) := Below.refl _ _
  have HE0 : Hid (len (p.take 0) = 0) := by unfold Hid; simp [len]
  clear hc hn hl
  go_enter Tryz.func20, Tryz.ntmps20
  go_wp2_with fail
  go_loopg [3, 5, 8] n (fun g s3 s5 s8 wr => ∃ (k z : Nat), k ≤ n ∧ n - k ≤ g ∧ s3 = .int .i64 (z : Int) ∧ (∃ q, q = s5) ∧ s8 = .int .i64 (k : Int) ∧ Hid (len (p.take k) = z) ∧ Hid (Below w.heap.size w wr))
  case atStart => exact ⟨0, 0, by omega, by omega, rfl, ⟨_, rfl⟩, rfl, HE0, HS0⟩
  case round =>
    clear HS0 HE0
    obtain ⟨k, z, hk, hkg, rfl, ⟨u5, rfl⟩, rfl, HE, HS⟩ := hrel
    by_cases hlt : k < n
    · obtain ⟨s, hs⟩ : ∃ s, p[k]? = some s := ⟨_, List.getElem?_eq_getElem (by have := HN.out; omega)⟩
      have HLT := Lib.hid (len_take hs)
      have hle := HTL.out (k + 1)
      rw [HLT.out, HE.out] at hle
      obtain ⟨b, off, u, rfl, hb, c0, c1, hu⟩ := HC.out k s hs
      have d0 := carry HS.out c0
      have d1 := carry HS.out c1
      obtain ⟨uad, ucap, hf⟩ := hu.form
      have k0 : (0 : Int) ≤ (k : Int) := by omega
      have k1 : (k : Int) < (n : Int) := by omega
      subst hf
      have HL1 : Hid (len1 s = if s.k = 2 then s.as.length else if s.k = 1 then 1 else 0) := rfl
      have HS1 : Hid (∀ o, Below w.heap.size w (wr.alloc o)) := fun o => below_then HS.out (below_alloc _ o)
      generalize s.as.length = L at *
      obtain ⟨kd, hkd⟩ : ∃ kd, s.k = kd := ⟨_, rfl⟩
      rw [hkd] at d0 HL1
      clear hs c0 c1 hu HS hkd
      by_cases h2 : kd = 2
      · subst h2
        have e1 : len1 s = L := by rw [HL1.out]; rfl
        have HE2 : Hid (len (p.take (k + 1)) = z + L) := by unfold Hid; rw [HLT.out, HE.out, e1]
        rw [e1] at hle
        have e2 : IntKind.i64.wrap ((z : Int) + (L : Int)) = (z : Int) + (L : Int) := IntWalk.i64_in _ (by omega)
        clear HL1 HE HLT e1
        go_wp2_with fail
        go_roundg (n - (k + 1))
        case measure => omega
        case rel => exact ⟨k + 1, z + L, by omega, Nat.le_refl _, by go_num, ⟨_, rfl⟩, by go_num, HE2, HS1.out _⟩
      · have n2 : (kd == 2) = false := by simpa using h2
        by_cases h3 : kd = 1
        · subst h3
          have e1 : len1 s = 1 := by rw [HL1.out]; rfl
          have HE2 : Hid (len (p.take (k + 1)) = z + 1) := by unfold Hid; rw [HLT.out, HE.out, e1]
          rw [e1] at hle
          clear HL1 HE HLT e1
          go_wp2_with fail
          go_roundg (n - (k + 1))
          case measure => omega
          case rel => exact ⟨k + 1, z + 1, by omega, Nat.le_refl _, by go_num, ⟨_, rfl⟩, by go_num, HE2, HS1.out _⟩
        · have n3 : (kd == 1) = false := by simpa using h3
          have e1 : len1 s = 0 := by rw [HL1.out, if_neg h2, if_neg h3]
          have HE2 : Hid (len (p.take (k + 1)) = z) := by unfold Hid; rw [HLT.out, HE.out, e1]; omega
          clear HL1 HE HLT e1
          go_wp2_with fail
          go_roundg (n - (k + 1))
          case measure => omega
          case rel => exact ⟨k + 1, z, by omega, Nat.le_refl _, rfl, ⟨_, rfl⟩, by go_num, HE2, HS1.out _⟩
    · have k1 : decide ((k : Int) < (n : Int)) = false := decide_eq_false (by omega)
      have HZ : Hid (len p = z) := by unfold Hid; rw [← HE.out, List.take_of_length_le (by rw [HN.out]; omega)]
      go_wp2
      go_ret
      exact ⟨by rw [HZ.out] <;> rfl, HS.out⟩
theorem rhas_any (p : List Sg) (v : Value) (x : Int) (w : World) (hv : RdS w v p) (hl : (flat p).length ≤ 2000000) : Calls Tryz.prog 22 #[v, .int .i64 x] w fun e w' => e = .returned (.bool (has p x)) ∧ Below w.heap.size w w' := by
  have HF := Lib.hid (rflat_any p v w hv hl)
  obtain ⟨ad, cap, rfl⟩ := hv.form
  have HH : Hid (has p x = decide (x ∈ flat p)) := rfl
  generalize has p x = q at *
  generalize flat p = l at *
  generalize p.length = n at *
  clear hv
  go_enter Tryz.func22, Tryz.ntmps22
  go_wp2_with fail
  go_at_call 28
  refine HF.out.mono ?_
  rintro e w1 ⟨v1, rfl, hi⟩
  have HB1 := Lib.hid hi.2
  obtain ⟨a1, c1, rfl, r1, r2, hc⟩ := hi.1.rd
  obtain ⟨L, hL⟩ : ∃ L, l.length = L := ⟨_, rfl⟩
  rw [hL] at r1 hl
  have HL := Lib.hid hL
  have HC := Lib.hid hc
  have HA0 : Hid (∀ (j : Nat) (y : Int), j < 0 → l[j]? = some y → y ≠ x) := fun j y h => by omega
  have HS0 : Hid (Below w1.heap.size w1 w1) := Below.refl _ _
  clear hi hc HF r1 r2
  rw [hL]
  clear hL
  go_wp2_with fail
  go_loopg [6, 10] (L + 1) (fun g s6 s10 wr => ∃ k : Nat, k ≤ L ∧ L + 1 - k ≤ g ∧ s10 = .int .i64 (k : Int) ∧ (∃ q, q = s6) ∧ Hid (∀ (j : Nat) (y : Int), j < k → l[j]? = some y → y ≠ x) ∧ Hid (Below w1.heap.size w1 wr))
  case atStart => exact ⟨0, by omega, by omega, rfl, ⟨_, rfl⟩, HA0, HS0⟩
  case round =>
    clear HA0 HS0
    obtain ⟨k, hk, hkg, rfl, ⟨u6, rfl⟩, HA, HS⟩ := hrel
    by_cases hlt : k < L
    · obtain ⟨y, hy⟩ : ∃ y, l[k]? = some y := ⟨_, List.getElem?_eq_getElem (by have := HL.out; omega)⟩
      have HY := Lib.hid hy
      obtain ⟨b, off, rfl, hb, c⟩ := HC.out k y hy
      have d := carry HS.out c
      have k0 : (0 : Int) ≤ (k : Int) := by omega
      have k1 : (k : Int) < (L : Int) := by omega
      clear hy c
      by_cases hxy : y = x
      · have HQ : Hid (q = true) := by show _ = _; rw [HH.out]; exact decide_eq_true (by rw [← hxy]; exact List.mem_of_getElem? HY.out)
        have HB2 := Lib.hid (below_then HB1.out HS.out)
        have e1 : (y == x) = true := by simpa using hxy
        clear HA HY hxy
        go_wp2
        go_ret
        exact ⟨by rw [HQ.out] <;> rfl, HB2.out⟩
      · have e1 : (y == x) = false := by simpa using hxy
        have HA2 : Hid (∀ (j : Nat) (y : Int), j < k + 1 → l[j]? = some y → y ≠ x) := fun j z hj hz => by
          by_cases e : j = k
          · subst e; have := HY.out; rw [hz] at this; cases this; exact hxy
          · exact HA.out j z (by omega) hz
        clear HA HY hxy
        go_wp2_with fail
        go_roundg (L + 1 - (k + 1))
        case measure => omega
        case rel => exact ⟨k + 1, by omega, Nat.le_refl _, by go_num, ⟨_, rfl⟩, HA2, HS⟩
    · have k1 : decide ((k : Int) < (L : Int)) = false := decide_eq_false (by omega)
      have HQ : Hid (q = false) := by
        show _ = _; rw [HH.out]
        refine decide_eq_false fun hm => ?_
        obtain ⟨j, hj⟩ := List.getElem?_of_mem hm
        exact HA.out j x (by have := (List.getElem?_eq_some_iff.1 hj).1; have := HL.out; omega) hj rfl
      have HB2 := Lib.hid (below_then HB1.out HS.out)
      clear HA
      go_wp2
      go_ret
      exact ⟨by rw [HQ.out] <;> rfl, HB2.out⟩
theorem rfirst_any (p : List Sg) (v : Value) (w : World) (hv : RdS w v p) : Calls Tryz.prog 16 #[v] w fun e w' => e = .returned (.tuple #[.int .i64 (fst p).1, .bool (fst p).2]) ∧ Below w.heap.size w w' := by
  obtain ⟨ad, cap, rfl, h1, h2, hc⟩ := hv
  have HC := Lib.hid hc
  have HF : Hid (fst p = match p.find? (fun s => decide (s.k = 2)) with | some s => (match s.as with | x :: _ => (x, true) | [] => (0, false)) | none => (0, false)) := rfl
  generalize fst p = z at *
  obtain ⟨n, hn⟩ : ∃ n, p.length = n := ⟨_, rfl⟩
  rw [hn] at h1 ⊢
  have HN := Lib.hid hn
  have hcap := h2.1
  have HA0 : Hid (∀ (j : Nat) (y : Sg), j < 0 → p[j]? = some y → decide (y.k = 2) = false) := fun j y h => by omega
  have HS0 : Hid (Below w.heap.size w w) := Below.refl _ _
  clear hc hn h2
  go_enter Tryz.func16, Tryz.ntmps16
  go_wp2_with fail
  go_loopg [5, 8] (n + 1) (fun g s5 s8 wr => ∃ k : Nat, k ≤ n ∧ n + 1 - k ≤ g ∧ s8 = .int .i64 (k : Int) ∧ (∃ q, q = s5) ∧ Hid (∀ (j : Nat) (y : Sg), j < k → p[j]? = some y → decide (y.k = 2) = false) ∧ Hid (Below w.heap.size w wr))
  case atStart => exact ⟨0, by omega, by omega, rfl, ⟨_, rfl⟩, HA0, HS0⟩
  case round =>
    clear HA0 HS0
    obtain ⟨k, hk, hkg, rfl, ⟨u5, rfl⟩, HA, HS⟩ := hrel
    by_cases hlt : k < n
    · obtain ⟨s, hs⟩ : ∃ s, p[k]? = some s := ⟨_, List.getElem?_eq_getElem (by have := HN.out; omega)⟩
      have HSS := Lib.hid hs
      obtain ⟨b, off, u, rfl, hbb, c0, c1, hu⟩ := HC.out k s hs
      have d0 := carry HS.out c0
      have d1 := carry HS.out c1
      obtain ⟨uad, ucap, rfl, u1, u2, hcs⟩ := hu
      have HCS := Lib.hid hcs
      have k0 : (0 : Int) ≤ (k : Int) := by omega
      have k1 : (k : Int) < (n : Int) := by omega
      obtain ⟨L, hL⟩ : ∃ L, s.as.length = L := ⟨_, rfl⟩
      rw [hL] at d1 u1
      have HL := Lib.hid hL
      have HS2 := Lib.hid (below_then HS.out (below_alloc wr (.cells #[.int .i64 s.k, .slice uad L ucap] 46)))
      clear hs c0 c1 hcs hL
      by_cases hkd : s.k = 2
      · have HFF := Lib.hid (find_at HSS.out (decide_eq_true hkd) HA.out)
        have HZ : Hid (z = match s.as with | x :: _ => (x, true) | [] => (0, false)) := by show _ = _; rw [HF.out, HFF.out]
        rw [hkd] at d0 HS2
        clear HF HFF HA HSS hkd
        by_cases hl0 : L = 0
        · have hnil : s.as = [] := List.length_eq_zero_iff.1 (by rw [HL.out]; exact hl0)
          have HE : Hid (z = (0, false)) := by show _ = _; rw [HZ.out, hnil]
          subst hl0
          clear HZ hnil
          go_wp2
          go_ret2
          exact ⟨by rw [HE.out] <;> rfl, HS2.out⟩
        · obtain ⟨x, hx⟩ : ∃ x, s.as[0]? = some x := ⟨_, List.getElem?_eq_getElem (by have := HL.out; omega)⟩
          obtain ⟨ub, uo, rfl, hub, x0⟩ := HCS.out 0 x hx
          have x1 : wr.cell? ⟨ub, uo, none⟩ = some (.int .i64 x) := carry HS.out x0
          have HE : Hid (z = (x, true)) := by
            show _ = _; rw [HZ.out]
            cases hq : s.as with
            | nil => rw [hq] at hx; cases hx
            | cons y r => rw [hq] at hx; cases hx; rfl
          have n1 : ((L : Int) == 0) = false := by simpa using hl0
          have n2 : (0 : Int) < (L : Int) := by omega
          have n3 : (L == 0) = false := by simpa using hl0
          have x2 := carry (below_alloc wr (.cells #[.int .i64 2, .slice (some ⟨ub, uo, none⟩) L ucap] 46)) x1
          clear HZ hx x0
          go_wp2
          go_ret2
          exact ⟨by rw [HE.out] <;> rfl, HS2.out⟩
      · have e1 : (s.k == 2) = false := by simpa using hkd
        have HA2 : Hid (∀ (j : Nat) (y : Sg), j < k + 1 → p[j]? = some y → decide (y.k = 2) = false) := fun j y hj hy => by
          by_cases e : j = k
          · subst e; have := HSS.out; rw [hy] at this; cases this; exact decide_eq_false hkd
          · exact HA.out j y (by omega) hy
        clear HA HSS hkd
        go_wp2_with fail
        go_roundg (n + 1 - (k + 1))
        case measure => omega
        case rel => exact ⟨k + 1, by omega, Nat.le_refl _, by go_num, ⟨_, rfl⟩, HA2, HS2⟩
    · have k1 : decide ((k : Int) < (n : Int)) = false := decide_eq_false (by omega)
      have HE : Hid (z = (0, false)) := by
        show _ = _; rw [HF.out, find_none (fun y hy => by
          obtain ⟨j, hj⟩ := List.getElem?_of_mem hy
          exact HA.out j y (by have := (List.getElem?_eq_some_iff.1 hj).1; have := HN.out; omega) hj)]
      clear HA HF
      go_wp2
      go_ret2
      exact ⟨by rw [HE.out] <;> rfl, HS.out⟩
theorem rorigin_any (p : List Sg) (v : Value) (w : World) (hv : RdS w v p) : Calls Tryz.prog 18 #[v] w fun e w' => e = .returned (.tuple #[.int .i64 (org p).1, .bool (org p).2]) ∧ Below w.heap.size w w' := by
  obtain ⟨ad, cap, rfl, h1, h2, hc⟩ := hv
  have HF : Hid (org p = match p.getLast? with | some s => (if s.k = 2 then (match s.as.getLast? with | some x => (x, true) | none => (0, false)) else (0, false)) | none => (0, false)) := rfl
  generalize org p = z at *
  obtain ⟨n, hn⟩ : ∃ n, p.length = n := ⟨_, rfl⟩
  rw [hn] at h1 ⊢
  have h63 := h2.1
  by_cases h0 : n = 0
  · have hp : p = [] := List.length_eq_zero_iff.1 (by omega)
    have HE : Hid (z = (0, false)) := by show _ = _; rw [HF.out, hp]; rfl
    subst h0
    clear HF hc hn hp
    go_enter Tryz.func18, Tryz.ntmps18
    go_wp2
    go_ret2
    exact ⟨by rw [HE.out] <;> rfl, Below.refl _ _⟩
  · obtain ⟨s, hs⟩ : ∃ s, p[n - 1]? = some s := ⟨_, List.getElem?_eq_getElem (by omega)⟩
    have HL : Hid (p.getLast? = some s) := by show _ = _; rw [List.getLast?_eq_getElem?, hn]; exact hs
    obtain ⟨b, off, u, rfl, hbb, c0, c1, hu⟩ := hc (n - 1) s hs
    obtain ⟨uad, ucap, rfl, u1, u2, hcs⟩ := hu
    have k0 : (0 : Int) ≤ (n : Int) - 1 := by omega
    have k1 : (n : Int) - 1 < (n : Int) := by omega
    have k2 : (1 : Int) ≤ (n : Int) := by omega
    have k3 : IntKind.i64.wrap ((n : Int) - 1) = (n : Int) - 1 := IntWalk.i64_in _ (by omega)
    have k4 : ((n : Int) - 1).toNat = n - 1 := by omega
    have k5 : ((n : Int) == 0) = false := by simp; omega
    have k6 : (n == 0) = false := by simp; omega
    have HE0 : Hid (z = if s.k = 2 then (match s.as.getLast? with | some x => (x, true) | none => (0, false)) else (0, false)) := by show _ = _; rw [HF.out, HL.out]
    obtain ⟨L, hL⟩ : ∃ L, s.as.length = L := ⟨_, rfl⟩
    rw [hL] at c1 u1
    have HC := Lib.hid hcs
    have hL63 : L ≤ 9223372036854775807 := by have := u2.1; omega
    have HLn := Lib.hid hL
    have HB1 : Hid (Below w.heap.size w (w.alloc (.cells #[.int .i64 s.k, .slice uad L ucap] 46))) := below_alloc _ _
    clear HF HL hc hn hs hcs hL u2 h2
    by_cases hk2 : s.k = 2
    · have e1 : (s.k != 2) = false := by simpa using hk2
      by_cases hl0 : L = 0
      · have hnil : s.as = [] := List.length_eq_zero_iff.1 (by rw [HLn.out]; exact hl0)
        have HE : Hid (z = (0, false)) := by show _ = _; rw [HE0.out, if_pos hk2, hnil]; rfl
        subst hl0
        clear HE0 hnil
        rw [hk2] at c0 HB1
        go_enter Tryz.func18, Tryz.ntmps18
        go_wp2
        go_ret2
        exact ⟨by rw [HE.out] <;> rfl, HB1.out⟩
      · obtain ⟨x, hx⟩ : ∃ x, s.as[L - 1]? = some x := ⟨_, List.getElem?_eq_getElem (by have := HLn.out; omega)⟩
        obtain ⟨ub, uo, rfl, hub, x0⟩ := HC.out (L - 1) x hx
        have HE : Hid (z = (x, true)) := by show _ = _; rw [HE0.out, if_pos hk2, List.getLast?_eq_getElem?, HLn.out, hx]
        have x1 := carry HB1.out x0
        rw [hk2] at c0 HB1 x1
        have j0 : (0 : Int) ≤ (L : Int) - 1 := by omega
        have j1 : (L : Int) - 1 < (L : Int) := by omega
        have j2 : (1 : Int) ≤ (L : Int) := by omega
        have j3 : IntKind.i64.wrap ((L : Int) - 1) = (L : Int) - 1 := IntWalk.i64_in _ (by omega)
        have j4 : ((L : Int) - 1).toNat = L - 1 := by omega
        have j5 : ((L : Int) == 0) = false := by simp; omega
        have j6 : (L == 0) = false := by simp; omega
        clear HE0 hx hk2 e1
        go_enter Tryz.func18, Tryz.ntmps18
        go_wp2
        go_ret2
        exact ⟨by rw [HE.out] <;> rfl, HB1.out⟩
    · have e1 : (s.k != 2) = true := by simpa using hk2
      have e2 : (s.k == 2) = false := by simpa using hk2
      have HE : Hid (z = (0, false)) := by show _ = _; rw [HE0.out, if_neg hk2]
      clear HE0 hk2
      go_enter Tryz.func18, Tryz.ntmps18
      go_wp2
      go_ret2
      exact ⟨by rw [HE.out] <;> rfl, HB1.out⟩
end
end Go.Proofs.YtaniiennfogjaaaGreatDoor
namespace Go.Proofs.YtaniiennfogjaaaGreatDoor
section
open Go.RowKit P
set_option linter.unusedSimpArgs false
set_option linter.unusedVariables false
set_option maxHeartbeats 1500000
set_option maxRecDepth 100000
/-- 'append(s, x...)' at a step of a region that draws: s the call's own and not nil, numbers -/
theorem step_ints {w : World} {ops : Array Oper} {o : Oper} {a : Act} {K : Act → World → Prop} {Q : Exit → Act → World → Prop} {E : Prop} (hgd : o.guard = none) (s x : Operand)
    (ho : o.op = .call { callee := .builtin .append, args := #[s, x], argTypes := #[34, 34] }) (B : Nat) (hB : B ≤ w.heap.size)
    (g0 c0 : Nat) (hs : a.eval s = .slice (some ⟨g0, 0, none⟩) 0 c0) (hown : w.ownsRow B 3 1 (.slice (some ⟨g0, 0, none⟩) 0 c0) 0 []) (vx : Value) (m : List Int) (hx : a.eval x = vx) (hr : RdI w vx m) (hlen : m.length ≤ 2000000)
    (h : ∀ g cap w', OwnI B w' (.slice (some ⟨g, 0, none⟩) m.length cap) m → Below B w w' → K (a.put o.dst (.slice (some ⟨g, 0, none⟩) m.length cap)) w') : if Region.wanted o (yielded ops a.tmps) = true then Oper.wp Tryz.prog o a w K Q else E := by
  obtain ⟨i0, hi, hz0, hz1, hz2⟩ := infoE_parts info3
  obtain ⟨ad, cap, e, hcap, ⟨h63, hnil⟩, hc⟩ := id hr
  subst e
  have hw : Region.wanted o (yielded ops a.tmps) = true := by simp [Region.wanted, hgd]
  have hown0 : OwnI B w (.slice (some ⟨g0, 0, none⟩) 0 c0) [] := ⟨hB, hown⟩
  cases ad with
  | none =>
    have h0 : m = [] := by
      cases m with
      | nil => rfl
      | cons y r => obtain ⟨b, off, e, _⟩ := hc 0 y rfl; cases e
    subst h0
    have hcap : cap = 0 := hnil rfl
    subst hcap
    have hrun := run_append_owned_none (P := Tryz.prog) (w := w) B 34 o.type 3 i0 1 Tryz.underlying34 hi _ 0 [] hown
    rw [if_pos hw]
    unfold Oper.wp
    have hx' : a.eval x = .slice none 0 0 := hx
    simp [execOp, ho, resolve, invoke, builtin, hs, hx', hrun, Result.andThen]
    exact h g0 c0 w hown0 (Below.refl _ _)
  | some A =>
    by_cases h0 : m.length = 0
    · have hm0 : m = [] := List.length_eq_zero_iff.1 h0
      subst hm0
      have hrun := run_append_owned_zero (P := Tryz.prog) (w := w) B 34 o.type 3 i0 1 Tryz.underlying34 hi _ 0 [] hown A cap
      rw [if_pos hw]
      unfold Oper.wp
      have hx' : a.eval x = .slice (some A) 0 cap := hx
      simp [execOp, ho, resolve, invoke, builtin, hs, hx', hrun, Result.andThen]
      exact h g0 c0 w hown0 (Below.refl _ _)
    · have hsp : ∀ j u, (ints m)[j]? = some u → w.cell? (A.add j) = some u := fun j u hj => by
        unfold ints at hj
        rw [List.getElem?_map] at hj
        cases hx : m[j]? with
        | none => rw [hx] at hj; cases hj
        | some y =>
          rw [hx] at hj
          obtain rfl := Option.some.inj hj
          obtain ⟨b, off, e, _, hcell⟩ := hc j y hx
          injection e with e
          subst e
          rw [Addr.add_lit]; exact hcell
      refine step_append_lies w hgd s x 34 ho B 3 i0 (.int .i64 0) 1 8 Tryz.underlying34 hi hz0 hz1 hz2 rfl (by decide) _ 0 [] hs hown A m.length cap (ints m) hx (by simp [ints]) hsp (ints_one m) (by omega) (by unfold maxLen; omega) (by omega) hB w.heap.size rfl fun g' cap' w' h1 h2 _ _ => ?_
      have hb := (Below.refl _ w).grown h2 hB (fun k hk => (row_lt hown hk).1)
      rw [Nat.zero_add] at h1 ⊢
      exact h g' cap' w' ⟨Nat.le_trans hB hb.size, by simpa using h1⟩ hb
/-- a segment behind a row of the call's own, at a step of a region that draws -/
theorem step_seg {w : World} {ops : Array Oper} {o : Oper} {a : Act} {K : Act → World → Prop} {Q : Exit → Act → World → Prop} {E : Prop} (hgd : o.guard = none) (s x : Operand)
    (ho : o.op = .call { callee := .builtin .append, args := #[s, x], argTypes := #[22, 22] }) (B : Nat) (hB : B ≤ w.heap.size)
    (v : Value) (p : List Sg) (hs : a.eval s = v) (hown : OwnP B w v p) (c : Nat) (kd : Int) (u : Value) (ns : List Int) (hx : a.eval x = .slice (some ⟨c, 0, none⟩) 1 1) (hc0 : w.cell? ⟨c, 0, none⟩ = some (.int .i64 kd)) (hc1 : w.cell? ⟨c, 1, none⟩ = some u)
    (hu : ∀ g, (v.ownBlock = some g ∨ (v.ownBlock = none ∧ g = w.heap.size)) → RdN g w u ns) (hlen : p.length ≤ 2000000)
    (h : ∀ g cap w', OwnP B w' (.slice (some ⟨g, 0, none⟩) (p.length + 1) cap) (p ++ [⟨kd, ns⟩]) → Below B w w' → K (a.put o.dst (.slice (some ⟨g, 0, none⟩) (p.length + 1) cap)) w') : if Region.wanted o (yielded ops a.tmps) = true then Oper.wp Tryz.prog o a w K Q else E := by
  obtain ⟨i0, hi, hz0, hz1, hz2⟩ := infoE_parts info46
  obtain ⟨g, q, hq, hrow, hgq⟩ : ∃ g q, Prs g w q p ∧ w.ownsRow B 46 2 v p.length (flatQ q) ∧ (v.ownBlock = some g ∨ (v.ownBlock = none ∧ g = w.heap.size)) := by
    rcases hown.2 with ⟨rfl, rfl⟩ | ⟨g, cap, q, rfl, ho', hp⟩
    · exact ⟨w.heap.size, [], ⟨rfl, fun k s hk => by simp at hk⟩, World.ownsRow_nil _ _ _ _, .inr ⟨rfl, rfl⟩⟩
    · exact ⟨g, q, hp, ho', .inl rfl⟩
  have hug := hu g hgq
  have hone : ∀ x ∈ [Value.int .i64 kd, u], x.oneCell' = true := by
    intro x hx
    obtain ⟨ad, cap, e, _⟩ := hug
    simp at hx
    rcases hx with rfl | rfl
    · rfl
    · subst e; rfl
  have hcell : ∀ j x, [Value.int .i64 kd, u][j]? = some x → w.cell? ((⟨c, 0, none⟩ : Addr).add j) = some x := by
    intro j x hj
    match j, hj with
    | 0, hj => simp at hj; subst hj; rw [Addr.add_lit]; exact hc0
    | 1, hj => simp at hj; subst hj; rw [Addr.add_lit]; exact hc1
    | j + 2, hj => simp at hj
  refine step_append_lies _ hgd s x 22 ho B 46 i0 (.agg #[.int .i64 0, .slice none 0 0]) 2 32 Tryz.underlying22 hi hz0 hz1 hz2 rfl (by decide) v p.length (flatQ q) hs hrow ⟨c, 0, none⟩ 1 1 [.int .i64 kd, u] hx rfl hcell hone (by decide) (by unfold maxLen; omega) (by omega) hB w.heap.size rfl fun g' cap' w' h1 h2 h3 h4 => ?_
  have hb : Below B w w' := (Below.refl _ w).grown h2 hB (fun k hk => (row_lt hrow hk).1)
  have hgg : g' = g ∨ g' = w.heap.size := by
    rcases h3 with e | e
    · rcases hgq with e2 | ⟨e2, _⟩
      · rw [e] at e2; cases e2; exact .inl rfl
      · rw [e] at e2; cases e2
    · exact .inr e
  have hrk : ∀ k, v.ownBlock = some k → k = g ∨ False := fun k hk => by
    rcases hgq with e2 | ⟨e2, _⟩
    · rw [hk] at e2; cases e2; exact .inl rfl
    · rw [hk] at e2; cases e2
  refine h _ _ _ ⟨Nat.le_trans hB hb.size, .inr ⟨g', cap', q ++ [(kd, u)], by rw [List.length_append]; rfl, ?_, ?_⟩⟩ hb
  · rw [flatQ_app, List.length_append]; exact h1
  · refine ⟨by rw [List.length_append, List.length_append, hq.1]; rfl, fun k s hk => ?_⟩
    by_cases hkl : k < p.length
    · rw [List.getElem?_append_left hkl] at hk
      obtain ⟨u', e1, e2⟩ := hq.2 k s hk
      exact ⟨u', by rw [List.getElem?_append_left (by rw [hq.1]; exact hkl)]; exact e1, e2.grown h2 (fun j hj => (hrk j hj).elim id False.elim) hgg⟩
    · have hk2 := (List.getElem?_eq_some_iff.1 hk).1
      rw [List.length_append] at hk2
      have e : k = p.length := by simp at hk2; omega
      subst e
      rw [List.getElem?_append_right (Nat.le_refl _), Nat.sub_self] at hk
      cases hk
      exact ⟨u, by rw [List.getElem?_append_right (by rw [hq.1]; exact Nat.le_refl _), hq.1, Nat.sub_self]; rfl, hug.grown h2 (fun j hj => (hrk j hj).elim id False.elim) hgg⟩
end
end Go.Proofs.YtaniiennfogjaaaGreatDoor
namespace Go.Proofs.YtaniiennfogjaaaGreatDoor
section
open Go.RowKit P
set_option linter.unusedSimpArgs false
set_option linter.unusedVariables false
set_option maxHeartbeats 1500000
set_option maxRecDepth 100000
theorem rclone_any (p : List Sg) (v : Value) (w : World) (hl : p.length ≤ 2000000) (hf : (flat p).length ≤ 2000000) (hv : RdS w v p) :
    Calls Tryz.prog 52 #[v] w fun e w' => ∃ v', e = .returned v' ∧ OwnP w.heap.size w' v' p ∧ Below w.heap.size w w' := by
  obtain ⟨ad, cap, rfl, h1, h2, hc⟩ := hv
  have HC := Lib.hid hc
  obtain ⟨n, hn⟩ : ∃ n, p.length = n := ⟨_, rfl⟩
  rw [hn] at h1 hl ⊢
  have HN := Lib.hid hn
  have HLE := Lib.hid (flat_all_le hf)
  have HO0 : Hid (OwnP w.heap.size w (.slice none 0 0) (p.take 0)) := by show OwnP _ _ _ _; rw [List.take_zero]; exact OwnP.nil _ _ (Nat.le_refl _)
  have HS0 : Hid (Below w.heap.size w w) := Below.refl _ _
  clear hc hn hf h2
  go_enter Tryz.func52, Tryz.ntmps52
  go_wp2_with fail
  go_loopg [3, 5, 8] (n + 1) (fun g s3 s5 s8 wr => ∃ (k : Nat) (v3 : Value), k ≤ n ∧ n + 1 - k ≤ g ∧ v3 = s3 ∧ (∃ q, q = s5) ∧ s8 = .int .i64 (k : Int) ∧ Hid (OwnP w.heap.size wr v3 (p.take k)) ∧ Hid (Below w.heap.size w wr))
  case atStart => exact ⟨0, _, by omega, by omega, rfl, ⟨_, rfl⟩, rfl, HO0, HS0⟩
  case round =>
    clear HO0 HS0
    obtain ⟨k, v3, hk, hkg, rfl, ⟨u5, rfl⟩, rfl, HO, HS⟩ := hrel
    by_cases hlt : k < n
    · obtain ⟨s, hs⟩ : ∃ s, p[k]? = some s := ⟨_, List.getElem?_eq_getElem (by have := HN.out; omega)⟩
      have HTK : Hid (p.take (k + 1) = p.take k ++ [s]) := by show _ = _; rw [List.take_add_one, hs]; rfl
      have hsl := HLE.out k s hs
      obtain ⟨b, off, u, rfl, hbb, c0, c1, hu⟩ := HC.out k s hs
      have d0 := carry HS.out c0
      have d1 := carry HS.out c1
      have k0 : (0 : Int) ≤ (k : Int) := by omega
      have k1 : (k : Int) < (n : Int) := by omega
      obtain ⟨uad, ucap, hff⟩ := hu.form
      subst hff
      obtain ⟨ns, hns⟩ : ∃ ns, s.as = ns := ⟨_, rfl⟩
      obtain ⟨kd, hkd⟩ : ∃ kd, s.k = kd := ⟨_, rfl⟩
      have hse : s = ⟨kd, ns⟩ := by rw [← hns, ← hkd]
      rw [hns] at hu d1 hsl
      rw [hkd] at d0
      have HSE := Lib.hid hse
      obtain ⟨pre, hpre⟩ : ∃ pre, p.take k = pre := ⟨_, rfl⟩
      rw [hpre] at HO HTK
      have hpl : pre.length ≤ 2000000 := by rw [← hpre, List.length_take]; have := HN.out; omega
      obtain ⟨L, hL⟩ : ∃ L, ns.length = L := ⟨_, rfl⟩
      rw [hL] at d1 hu hsl
      have HL := Lib.hid hL
      have HUw := Lib.hid hu
      clear hu c0 c1 hs hns hkd hse hpre hL
      go_wp2_with fail
      have hbw : Below wr.heap.size wr (wr.alloc (.cells #[.int .i64 kd, .slice uad L ucap] 46)) := below_alloc _ _
      have f0 : (wr.alloc (.cells #[.int .i64 kd, .slice uad L ucap] 46)).cell? ⟨wr.heap.size, 0, none⟩ = some (.int .i64 kd) := cell_of (heap_alloc_new _ _) rfl
      have f1 : (wr.alloc (.cells #[.int .i64 kd, .slice uad L ucap] 46)).cell? ⟨wr.heap.size, 1, none⟩ = some (.slice uad L ucap) := cell_of (heap_alloc_new _ _) rfl
      have hbz : wr.heap.size < (wr.alloc (.cells #[.int .i64 kd, .slice uad L ucap] 46)).heap.size := by simp
      have HOW := Lib.hid (HO.out.below hbw)
      have HBW := Lib.hid (below_then HS.out hbw)
      clear HO d0 d1
      generalize hWb : wr.alloc (.cells #[.int .i64 kd, .slice uad L ucap] 46) = Wb at *
      have hX : Below Wb.heap.size Wb (Wb.drew.alloc (.cells #[] 3)) := (Below.refl _ Wb).drew.alloc (Nat.le_refl _) _
      have a0 := carry hX f0
      have a1 := carry hX f1
      have HO1 : Hid ((Wb.drew.alloc (.cells #[] 3)).ownsRow Wb.heap.size 3 1 (.slice (some ⟨Wb.heap.size, 0, none⟩) 0 0) 0 []) := World.ownsRow_made Wb.drew #[] 0 (Nat.le_refl _) (Nat.zero_le _) (by simp)
      have HR1 : Hid (RdI (Wb.drew.alloc (.cells #[] 3)) (.slice uad L ucap) ns) := HUw.out.below (HBW.out.trans (hX.mono HBW.out.size))
      have HB1 : Hid (Wb.heap.size ≤ (Wb.drew.alloc (.cells #[] 3)).heap.size) := hX.size
      have HLL : Hid (ns.length ≤ 2000000) := by show _ ≤ _; rw [HL.out]; exact hsl
      have HP1 : Hid (∀ (w1 : World) (g1 e1 : Nat), OwnI Wb.heap.size w1 (.slice (some ⟨g1, 0, none⟩) ns.length e1) ns → Below Wb.heap.size (Wb.drew.alloc (.cells #[] 3)) w1 →
          OwnP w.heap.size (w1.alloc (.cells #[.int .i64 kd, .slice (some ⟨g1, 0, none⟩) ns.length e1] 46)) v3 pre ∧ Below w.heap.size w (w1.alloc (.cells #[.int .i64 kd, .slice (some ⟨g1, 0, none⟩) ns.length e1] 46)) ∧
          (w1.alloc (.cells #[.int .i64 kd, .slice (some ⟨g1, 0, none⟩) ns.length e1] 46)).cell? ⟨w1.heap.size, 0, none⟩ = some (.int .i64 kd) ∧ (w1.alloc (.cells #[.int .i64 kd, .slice (some ⟨g1, 0, none⟩) ns.length e1] 46)).cell? ⟨w1.heap.size, 1, none⟩ = some (.slice (some ⟨g1, 0, none⟩) ns.length e1) ∧
          (∀ g, (v3.ownBlock = some g ∨ (v3.ownBlock = none ∧ g = (w1.alloc (.cells #[.int .i64 kd, .slice (some ⟨g1, 0, none⟩) ns.length e1] 46)).heap.size)) → RdN g (w1.alloc (.cells #[.int .i64 kd, .slice (some ⟨g1, 0, none⟩) ns.length e1] 46)) (.slice (some ⟨g1, 0, none⟩) ns.length e1) ns) ∧
          w1.cell? ⟨wr.heap.size, 0, none⟩ = some (.int .i64 kd)) := fun w1 g1 e1 h1 h2 => by
        have hbb : Below Wb.heap.size Wb w1 := hX.trans h2
        have hba : Below Wb.heap.size Wb (w1.alloc (.cells #[.int .i64 kd, .slice (some ⟨g1, 0, none⟩) ns.length e1] 46)) := hbb.alloc hbb.size _
        refine ⟨HOW.out.below hba, HBW.out.trans (hba.mono HBW.out.size), cell_of (heap_alloc_new _ _) rfl, cell_of (heap_alloc_new _ _) rfl, fun g hg => ?_, carry hbb f0⟩
        rcases hg with e | ⟨_, e⟩
        · have hgl : g < Wb.heap.size := by
            rcases HOW.out.2 with ⟨e2, _⟩ | ⟨g', cap', q', e2, ho', _⟩
            · rw [e2] at e; cases e
            · rw [e2] at e; cases e; exact (ownsRow_lt (e2 ▸ ho')).2
          exact (h1.away hgl).below (below_alloc _ _)
        · rw [e]
          exact h1.rd.away (by simp) (below_alloc _ _)
      clear hX HOW HBW HUw hWb
      go_region_law (first
        | (refine step_ints (by rfl) (.tmp 15) (.tmp 17) (by rfl) Wb.heap.size HB1.out Wb.heap.size 0 (by rfl) HO1.out (.slice uad L ucap) ns (by rfl) HR1.out HLL.out ?_; intro g1 e1 w1 hx1 hx2; have P1 := Lib.hid (HP1.out w1 g1 e1 hx1 hx2); have q0 := P1.out.2.2.2.2.2; clear hx1 hx2)
        | (refine step_seg (by rfl) (.tmp 12) (.tmp 20) (by rfl) w.heap.size P1.out.2.1.size v3 pre (by rfl) P1.out.1 w1.heap.size kd _ ns (by rfl) P1.out.2.2.1 P1.out.2.2.2.1 P1.out.2.2.2.2.1 hpl ?_; intro g2 e2 w2 hy1 hy2; have P2 := Lib.hid (And.intro hy1 (P1.out.2.1.trans hy2)); clear hy1 hy2))
      all_goals (
        have HO3 : Hid (OwnP w.heap.size w2 (.slice (some ⟨g2, 0, none⟩) (pre.length + 1) e2) (p.take (k + 1))) := by
          show OwnP _ _ _ _; rw [HTK.out, HSE.out]; exact P2.out.1
        go_wp2_with fail
        go_roundg (n + 1 - (k + 1))
        case measure => omega
        case rel => exact ⟨k + 1, _, by omega, Nat.le_refl _, rfl, ⟨_, rfl⟩, by go_num, HO3, P2.out.2⟩)
    · have k1 : decide ((k : Int) < (n : Int)) = false := decide_eq_false (by omega)
      have HE : Hid (p.take k = p) := by show _ = _; rw [List.take_of_length_le (by rw [HN.out]; omega)]
      have HO2 : Hid (OwnP w.heap.size wr v3 p) := HE.out ▸ HO.out
      clear HO
      go_wp2
      go_ret
      exact ⟨_, rfl, HO2.out, HS.out⟩
theorem P.strip_len (p : List Sg) : (strip p).length ≤ p.length := List.length_filter_le _ _
theorem P.strip_flat : ∀ p : List Sg, (flat (strip p)).length ≤ (flat p).length
  | [] => Nat.le_refl _
  | s :: p => by
    have ih := strip_flat p
    unfold strip at *
    rw [List.filter_cons]
    split
    · rw [flat_cons, flat_cons, List.length_append, List.length_append]; omega
    · rw [flat_cons, List.length_append]; omega
theorem rstrip_any (p : List Sg) (v : Value) (w : World) (hl : p.length ≤ 2000000) (hf : (flat p).length ≤ 2000000) (hv : RdS w v p) :
    Calls Tryz.prog 25 #[v] w fun e w' => ∃ v', e = .returned v' ∧ RdS w' v' (strip p) ∧ Below w.heap.size w w' := by
  have HCL : Hid (∀ (W : World) (u : Value), RdS W u (strip p) → Calls Tryz.prog 52 #[u] W fun e w' => ∃ v', e = .returned v' ∧ OwnP W.heap.size w' v' (strip p) ∧ Below W.heap.size W w') := fun W u h => rclone_any _ u W (Nat.le_trans (strip_len p) hl) (Nat.le_trans (strip_flat p) hf) h
  obtain ⟨ad, cap, rfl, h1, h2, hc⟩ := hv
  have HC := Lib.hid hc
  obtain ⟨n, hn⟩ : ∃ n, p.length = n := ⟨_, rfl⟩
  rw [hn] at h1 hl ⊢
  have HN := Lib.hid hn
  have HO0 : Hid (OwnP w.heap.size w (.slice none 0 0) (strip (p.take 0))) := by show OwnP _ _ _ _; rw [List.take_zero]; exact OwnP.nil _ _ (Nat.le_refl _)
  have HS0 : Hid (Below w.heap.size w w) := Below.refl _ _
  clear hc hn hf h2
  go_enter Tryz.func25, Tryz.ntmps25
  go_wp2_with fail
  go_loopg [3, 5, 8] (n + 1) (fun g s3 s5 s8 wr => ∃ (k : Nat) (v3 : Value), k ≤ n ∧ n + 1 - k ≤ g ∧ v3 = s3 ∧ (∃ q, q = s5) ∧ s8 = .int .i64 (k : Int) ∧ Hid (OwnP w.heap.size wr v3 (strip (p.take k))) ∧ Hid (Below w.heap.size w wr))
  case atStart => exact ⟨0, _, by omega, by omega, rfl, ⟨_, rfl⟩, rfl, HO0, HS0⟩
  case round =>
    clear HO0 HS0
    obtain ⟨k, v3, hk, hkg, rfl, ⟨u5, rfl⟩, rfl, HO, HS⟩ := hrel
    by_cases hlt : k < n
    · obtain ⟨s, hs⟩ : ∃ s, p[k]? = some s := ⟨_, List.getElem?_eq_getElem (by have := HN.out; omega)⟩
      have HTK := Lib.hid (strip_snoc hs)
      obtain ⟨b, off, u, rfl, hbb, c0, c1, hu⟩ := HC.out k s hs
      have d0 := carry HS.out c0
      have d1 := carry HS.out c1
      have k0 : (0 : Int) ≤ (k : Int) := by omega
      have k1 : (k : Int) < (n : Int) := by omega
      have HUw := Lib.hid hu
      obtain ⟨uad, ucap, hff⟩ := hu.form
      subst hff
      obtain ⟨ns, hns⟩ : ∃ ns, s.as = ns := ⟨_, rfl⟩
      obtain ⟨kd, hkd⟩ : ∃ kd, s.k = kd := ⟨_, rfl⟩
      have hse : s = ⟨kd, ns⟩ := by rw [← hns, ← hkd]
      rw [hns] at d1 HUw
      rw [hkd] at d0 HTK
      have HSE := Lib.hid hse
      obtain ⟨pre, hpre⟩ : ∃ pre, strip (p.take k) = pre := ⟨_, rfl⟩
      have hpl : pre.length ≤ 2000000 := by
        rw [← hpre]; refine Nat.le_trans (strip_len _) ?_; rw [List.length_take]; have := HN.out; omega
      rw [hpre] at HO HTK
      have HCF : Hid (∀ W, Calls Tryz.prog 51 #[.int .i64 kd] W fun e w' => e = .returned (.bool (isConf kd)) ∧ w' = W) := fun W => conf51_same kd W
      obtain ⟨L, hL⟩ : ∃ L, ns.length = L := ⟨_, rfl⟩
      rw [hL] at d1 HUw
      have HB1 : Hid (∀ o, OwnP w.heap.size (wr.alloc o) v3 pre ∧ Below w.heap.size w (wr.alloc o)) := fun o => ⟨HO.out.below (below_alloc _ _), below_then HS.out (below_alloc _ _)⟩
      clear hu c0 c1 hs hns hkd hse hpre hL HO HS
      cases hcf : isConf kd with
      | true =>
        rw [hcf] at HCF HTK
        have HO2 : Hid (OwnP w.heap.size (wr.alloc (.cells #[.int .i64 kd, .slice uad L ucap] 46)) v3 (strip (p.take (k + 1)))) := by
          show OwnP _ _ _ _; rw [HTK.out]; simpa using (HB1.out _).1
        have HS2 := Lib.hid (HB1.out (.cells #[.int .i64 kd, .slice uad L ucap] 46)).2
        clear HB1 HTK hcf
        go_wp2_with fail
        go_at_call 51
        refine (HCF.out _).mono ?_
        rintro e w2 ⟨rfl, rfl⟩
        go_wp2_with fail
        go_roundg (n + 1 - (k + 1))
        case measure => omega
        case rel => exact ⟨k + 1, _, by omega, Nat.le_refl _, rfl, ⟨_, rfl⟩, by go_num, HO2, HS2⟩
      | false =>
        rw [hcf] at HCF HTK
        have HTK2 : Hid (strip (p.take (k + 1)) = pre ++ [⟨kd, ns⟩]) := by
          show _ = _; rw [HTK.out, HSE.out]; rfl
        clear HTK hcf HSE
        have H0 := Lib.hid (HB1.out (.cells #[.int .i64 kd, .slice uad L ucap] 46))
        have f0 : (wr.alloc (.cells #[.int .i64 kd, .slice uad L ucap] 46)).cell? ⟨wr.heap.size, 0, none⟩ = some (.int .i64 kd) := cell_of (heap_alloc_new _ _) rfl
        have f1 : (wr.alloc (.cells #[.int .i64 kd, .slice uad L ucap] 46)).cell? ⟨wr.heap.size, 1, none⟩ = some (.slice uad L ucap) := cell_of (heap_alloc_new _ _) rfl
        clear HB1
        go_wp2_with fail
        go_at_call 51
        refine (HCF.out _).mono ?_
        rintro e w2 ⟨rfl, rfl⟩
        clear HCF
        generalize hWb : wr.alloc (.cells #[.int .i64 kd, .slice uad L ucap] 46) = Wb at *
        have H1 : Hid (OwnP w.heap.size (Wb.alloc (.cells #[.int .i64 kd, .slice uad L ucap] 46)) v3 pre ∧ Below w.heap.size w (Wb.alloc (.cells #[.int .i64 kd, .slice uad L ucap] 46))) := ⟨H0.out.1.below (below_alloc _ _), below_then H0.out.2 (below_alloc _ _)⟩
        have H2 : Hid (∀ g, (v3.ownBlock = some g ∨ (v3.ownBlock = none ∧ g = (Wb.alloc (.cells #[.int .i64 kd, .slice uad L ucap] 46)).heap.size)) → RdN g (Wb.alloc (.cells #[.int .i64 kd, .slice uad L ucap] 46)) (.slice uad L ucap) ns) := (fun g hg => HUw.out.away (hg.elim (fun e => H1.out.1.lt e) (fun e => by have h2 := e.2; have := H1.out.2.size; omega)) H1.out.2)
        have H3 : Hid ((Wb.alloc (.cells #[.int .i64 kd, .slice uad L ucap] 46)).cell? ⟨Wb.heap.size, 0, none⟩ = some (.int .i64 kd) ∧ (Wb.alloc (.cells #[.int .i64 kd, .slice uad L ucap] 46)).cell? ⟨Wb.heap.size, 1, none⟩ = some (.slice uad L ucap)) := ⟨cell_of (heap_alloc_new _ _) rfl, cell_of (heap_alloc_new _ _) rfl⟩
        clear hWb HUw H0 d0 d1
        go_wp2_with (at_builtin; refine append_seg rfl (.tmp 16) (.tmp 18) rfl w.heap.size H1.out.2.size v3 pre rfl H1.out.1 Wb.heap.size kd (.slice uad L ucap) ns rfl H3.out.1 H3.out.2 H2.out hpl ?_; intro v2 w2 hown hgrow hbl hbk; have S2 : Hid (OwnP w.heap.size w2 v2 (strip (p.take (k + 1)))) := (by show OwnP _ _ _ _; rw [HTK2.out]; exact hown); have B2 : Hid (Below w.heap.size w w2) := H1.out.2.trans hbl; clear hown hgrow hbl hbk)
        go_roundg (n + 1 - (k + 1))
        case measure => omega
        case rel => exact ⟨k + 1, _, by omega, Nat.le_refl _, rfl, ⟨_, rfl⟩, by go_num, S2, B2⟩
    · have k1 : decide ((k : Int) < (n : Int)) = false := decide_eq_false (by omega)
      have HE : Hid (p.take k = p) := by show _ = _; rw [List.take_of_length_le (by rw [HN.out]; omega)]
      have HO2 : Hid (OwnP w.heap.size wr v3 (strip p)) := HE.out ▸ HO.out
      have HK := Lib.hid (HCL.out wr v3 HO2.out.rd)
      obtain ⟨va, vc, hvf⟩ := HO2.out.rd.form
      subst hvf
      clear HO HCL HO2
      go_wp2_with fail
      go_at_call 52
      refine HK.out.mono ?_
      rintro e w2 ⟨v2, rfl, ho, hb⟩
      have HR : Hid (RdS w2 v2 (strip p) ∧ Below w.heap.size w w2) := ⟨ho.rd, below_then HS.out hb⟩
      obtain ⟨va2, vc2, hvf2⟩ := ho.rd.form
      subst hvf2
      clear ho hb HK
      go_wp2
      go_ret
      exact ⟨_, rfl, HR.out.1, HR.out.2⟩
end
end Go.Proofs.YtaniiennfogjaaaGreatDoor
namespace Go.Proofs.YtaniiennfogjaaaGreatDoor
section
open Go.RowKit P
set_option linter.unusedSimpArgs false
set_option linter.unusedVariables false
set_option maxHeartbeats 1500000
set_option maxRecDepth 100000
theorem lawNumbers_any (a : List Sg) (v : Value) (x : Int) (w : World) (hT : Tab w) (hv : RdS w v a) (ha : (flat a).length ≤ 2000000) (ha2 : a.length ≤ 2000000) :
    Calls Tryz.prog 4 #[v, .int .i64 x] w fun e w' => e = .returned (.bool true) ∧ Below w.heap.size w w' := by
  have HT : Hid (∀ W, Below w.heap.size w W → Tab W) := fun W hW => tab_below hT hW
  have HV : Hid (∀ W, Below w.heap.size w W → RdS W v a) := fun W hW => hv.below hW
  have HLa := Lib.hid (large_any a v w hv ha ha2)
  have C15 : Hid (∀ W, Below w.heap.size w W → Calls Tryz.prog 15 #[v] W fun e w' => e = .returned (.tuple #[.int .i64 (fst a).1, .bool (fst a).2]) ∧ Below W.heap.size W w') := fun W hW => first_any a v W (hv.below hW)
  have C16 : Hid (∀ W, Below w.heap.size w W → Calls Tryz.prog 16 #[v] W fun e w' => e = .returned (.tuple #[.int .i64 (fst a).1, .bool (fst a).2]) ∧ Below W.heap.size W w') := fun W hW => rfirst_any a v W (hv.below hW)
  have C17 : Hid (∀ W, Below w.heap.size w W → Calls Tryz.prog 17 #[v] W fun e w' => e = .returned (.tuple #[.int .i64 (org a).1, .bool (org a).2]) ∧ Below W.heap.size W w') := fun W hW => origin_any a v W (hv.below hW)
  have C18 : Hid (∀ W, Below w.heap.size w W → Calls Tryz.prog 18 #[v] W fun e w' => e = .returned (.tuple #[.int .i64 (org a).1, .bool (org a).2]) ∧ Below W.heap.size W w') := fun W hW => rorigin_any a v W (hv.below hW)
  have C19 : Hid (∀ W, Below w.heap.size w W → Calls Tryz.prog 19 #[v] W fun e w' => e = .returned (.int .i64 (len a : Int)) ∧ Below W.heap.size W w') := fun W hW => length_any a v W (hv.below hW) ha ha2
  have C20 : Hid (∀ W, Below w.heap.size w W → Calls Tryz.prog 20 #[v] W fun e w' => e = .returned (.int .i64 (len a : Int)) ∧ Below W.heap.size W w') := fun W hW => rlength_any a v W (hv.below hW) ha ha2
  have C21 : Hid (∀ W, Below w.heap.size w W → Calls Tryz.prog 21 #[v, .int .i64 x] W fun e w' => e = .returned (.bool (has a x)) ∧ Below W.heap.size W w') := fun W hW => has_any a v x W (hv.below hW)
  have C22 : Hid (∀ W, Below w.heap.size w W → Calls Tryz.prog 22 #[v, .int .i64 x] W fun e w' => e = .returned (.bool (has a x)) ∧ Below W.heap.size W w') := fun W hW => rhas_any a v x W (hv.below hW) ha
  have C24 : Hid (∀ W, Below w.heap.size w W → Calls Tryz.prog 24 #[v] W fun e w' => ∃ v', e = .returned v' ∧ RdS w' v' (strip a) ∧ Below W.heap.size W w') := fun W hW => strip_any a v W ha2 ha (hv.below hW)
  have C25 : Hid (∀ W, Below w.heap.size w W → Calls Tryz.prog 25 #[v] W fun e w' => ∃ v', e = .returned v' ∧ RdS w' v' (strip a) ∧ Below W.heap.size W w') := fun W hW => rstrip_any a v W ha2 ha (hv.below hW)
  have C23 : Hid (∀ (W : World) (u1 u2 : Value), RdS W u1 (strip a) → RdS W u2 (strip a) → Calls Tryz.prog 23 #[u1, u2] W fun e w' => e = .returned (.bool true) ∧ Below W.heap.size W w') := fun W u1 u2 h1 h2 => by
    have := rsame_any _ _ u1 u2 W h1 h2
    rwa [decide_eq_true (rfl : strip a = strip a)] at this
  have C27 : Hid (∀ W, Below w.heap.size w W → Calls Tryz.prog 27 #[v] W fun e w' => ∃ v', e = .returned v' ∧ InsI W v' (flat a) w') := fun W hW => flat_any a v W (hv.below hW) ha
  have C28 : Hid (∀ W, Below w.heap.size w W → Calls Tryz.prog 28 #[v] W fun e w' => ∃ v', e = .returned v' ∧ InsI W v' (flat a) w') := fun W hW => rflat_any a v W (hv.below hW) ha
  have C26 : Hid (∀ (W : World) (u1 u2 : Value), RdI W u1 (flat a) → RdI W u2 (flat a) → Calls Tryz.prog 26 #[u1, u2] W fun e w' => e = .returned (.bool true) ∧ Below W.heap.size W w') := fun W u1 u2 h1 h2 => by
    have := lsame_any _ _ u1 u2 W h1 h2
    rwa [decide_eq_true (rfl : flat a = flat a)] at this
  generalize hf : fst a = z1 at *
  generalize ho : org a = z2 at *
  obtain ⟨fx, fb⟩ := z1
  obtain ⟨ox, ob⟩ := z2
  generalize (len a : Int) = ln at *
  generalize has a x = hb at *
  obtain ⟨ad, cap, hff⟩ := hv.form
  subst hff
  have t1 : (fx != fx) = false := by simp
  have t2 : (fb != fb) = false := by simp
  have t3 : (ox != ox) = false := by simp
  have t4 : (ob != ob) = false := by simp
  have t5 : (ln == ln) = true := by simp
  have t6 : (hb == hb) = true := by simp
  clear hf ho
  by_cases hl : 3000 < sz a
  · rw [decide_eq_true hl] at HLa
    generalize a.length = M at *
    clear hT hv ha ha2 hl C15 C16 C17 C18 C19 C20 C21 C22 C23 C24 C25 C26 C27 C28
    go_enter Tryz.func4, Tryz.ntmps4
    go_wp2_with fail
    go_at_call 11
    refine HLa.out.mono ?_
    rintro e w1 ⟨rfl, hb1⟩
    have B1 := Lib.hid hb1
    have HA := Lib.hid (awake_any w1 (HT.out _ hb1))
    clear hb1 HLa
    go_wp2_with fail
    go_at_call 12
    refine HA.out.mono ?_
    rintro e w2 ⟨rfl, hb2⟩
    have B2 := Lib.hid (below_then B1.out hb2)
    clear hb2 HA
    go_wp2
    go_ret
    exact ⟨rfl, B2.out⟩
  rw [decide_eq_false hl] at HLa
  obtain ⟨fl, hfl⟩ : ∃ fl, flat a = fl := ⟨_, rfl⟩
  obtain ⟨st, hst⟩ : ∃ st, strip a = st := ⟨_, rfl⟩
  rw [hfl] at C26 C27 C28
  rw [hst] at C23 C24 C25
  generalize a.length = M at *
  clear hT hv ha ha2 hl hfl hst HV
  go_enter Tryz.func4, Tryz.ntmps4
  go_wp2_with fail
  go_at_call 11
  refine HLa.out.mono ?_
  rintro e w1 ⟨rfl, hb1⟩
  have B1 := Lib.hid hb1
  clear hb1 HLa
  go_wp2_with fail
  go_at_call 15
  refine (C15.out _ B1.out).mono ?_
  rintro e w2 ⟨rfl, hb2⟩
  have B2 := Lib.hid (below_then B1.out hb2)
  clear hb2 C15 B1
  go_wp2_with fail
  go_at_call 16
  refine (C16.out _ B2.out).mono ?_
  rintro e w3 ⟨rfl, hb3⟩
  have B3 := Lib.hid (below_then B2.out hb3)
  clear hb3 C16 B2
  go_wp2_with fail
  go_at_call 17
  refine (C17.out _ B3.out).mono ?_
  rintro e w4 ⟨rfl, hb4⟩
  have B4 := Lib.hid (below_then B3.out hb4)
  clear hb4 C17 B3
  go_wp2_with fail
  go_at_call 18
  refine (C18.out _ B4.out).mono ?_
  rintro e w5 ⟨rfl, hb5⟩
  have B5 := Lib.hid (below_then B4.out hb5)
  clear hb5 C18 B4
  go_wp2_with fail
  go_at_call 19
  refine (C19.out _ B5.out).mono ?_
  rintro e w6 ⟨rfl, hb6⟩
  have B6 := Lib.hid (below_then B5.out hb6)
  clear hb6 C19 B5
  go_wp2_with fail
  go_at_call 20
  refine (C20.out _ B6.out).mono ?_
  rintro e w7 ⟨rfl, hb7⟩
  have B7 := Lib.hid (below_then B6.out hb7)
  clear hb7 C20 B6
  go_wp2_with fail
  go_at_call 21
  refine (C21.out _ B7.out).mono ?_
  rintro e w8 ⟨rfl, hb8⟩
  have B8 := Lib.hid (below_then B7.out hb8)
  clear hb8 C21 B7
  go_wp2_with fail
  go_at_call 22
  refine (C22.out _ B8.out).mono ?_
  rintro e w9 ⟨rfl, hb9⟩
  have B9 := Lib.hid (below_then B8.out hb9)
  clear hb9 C22 B8
  go_wp2_with fail
  go_at_call 24
  refine (C24.out _ B9.out).mono ?_
  rintro e w10 ⟨v10, rfl, hr10, hb10⟩
  have B10 := Lib.hid (below_then B9.out hb10)
  have R10 := Lib.hid hr10
  obtain ⟨a10, c10, hf10⟩ := hr10.form
  subst hf10
  clear hb10 C24 B9 hr10
  go_wp2_with fail
  go_at_call 25
  refine (C25.out _ B10.out).mono ?_
  rintro e w11 ⟨v11, rfl, hr11, hb11⟩
  have B11 := Lib.hid (below_then B10.out hb11)
  have R11 := Lib.hid (C23.out w11 _ _ (R10.out.below hb11) hr11)
  obtain ⟨a11, c11, hf11⟩ := hr11.form
  subst hf11
  clear hb11 C25 B10 hr11 R10 C23
  go_wp2_with fail
  go_at_call 23
  refine R11.out.mono ?_
  rintro e w12 ⟨rfl, hb12⟩
  have B12 := Lib.hid (below_then B11.out hb12)
  clear hb12 R11 B11
  go_wp2_with fail
  go_at_call 27
  refine (C27.out _ B12.out).mono ?_
  rintro e w13 ⟨v13, rfl, hi13⟩
  have B13 := Lib.hid (below_then B12.out hi13.2)
  have R13 := Lib.hid hi13.1.rd
  obtain ⟨a13, c13, hf13⟩ := hi13.1.rd.form
  subst hf13
  clear hi13 C27 B12
  go_wp2_with fail
  go_at_call 28
  refine (C28.out _ B13.out).mono ?_
  rintro e w14 ⟨v14, rfl, hi14⟩
  have B14 := Lib.hid (below_then B13.out hi14.2)
  have R14 := Lib.hid (C26.out w14 _ _ (R13.out.below hi14.2) hi14.1.rd)
  obtain ⟨a14, c14, hf14⟩ := hi14.1.rd.form
  subst hf14
  clear hi14 C28 B13 R13 C26
  go_wp2_with fail
  go_at_call 26
  refine R14.out.mono ?_
  rintro e w15 ⟨rfl, hb15⟩
  have B15 := Lib.hid (below_then B14.out hb15)
  have HA := Lib.hid (awake_any w15 (HT.out _ B15.out))
  clear hb15 R14 B14
  go_wp2_with fail
  go_at_call 12
  refine HA.out.mono ?_
  rintro e w16 ⟨rfl, hb16⟩
  have B16 := Lib.hid (below_then B15.out hb16)
  clear hb16 HA
  go_wp2
  go_ret
  exact ⟨rfl, B16.out⟩
end
end Go.Proofs.YtaniiennfogjaaaGreatDoor
