/-
  The walks of Length, First, Origin, Has.
-/
import Derived.Test.YtiobfgcpbihbhaaGreatDoorAsF
import Derived.BigQuiet
namespace Go.Proofs.YtiobfgcpbihbhaaGreatDoor
open Go.RowKit P
set_option linter.unusedSimpArgs false
set_option linter.unusedVariables false
set_option maxHeartbeats 4000000
set_option maxRecDepth 100000
theorem P.len_le (p : List Sg) : len p ≤ (flat p).length + p.length := by
  induction p with
  | nil => simp [len, flat]
  | cons s p ih =>
    have h1 : len1 s ≤ s.as.length + 1 := by unfold len1; split <;> (try split) <;> omega
    have h2 : len (s :: p) = len1 s + len p := by simp [len]
    rw [h2, flat_cons, List.length_append, List.length_cons]
    omega
theorem P.len_take_le (p : List Sg) (k : Nat) : len (p.take k) ≤ (flat p).length + p.length := by
  have h1 := len_le (p.take k)
  have h2 := flat_take_le p k
  have h3 : (p.take k).length ≤ p.length := by rw [List.length_take]; omega
  omega
theorem length_any (p : List Sg) (v : Value) (w : World) (hv : RdS w v p) (hl : (flat p).length ≤ 2000000) (hp : p.length ≤ 2000000) : Calls Tryz.prog 19 #[v] w fun e w' => e = .returned (.int .i64 (len p : Int)) ∧ Below w.heap.size w w' := by
  obtain ⟨ad, cap, rfl, h1, h2, hc⟩ := hv
  have HC := Lib.hid hc
  obtain ⟨n, hn⟩ : ∃ n, p.length = n := ⟨_, rfl⟩
  have HTL : Hid (∀ k, len (p.take k) ≤ 4000000) := fun k => Nat.le_trans (len_take_le p k) (by omega)
  rw [hn] at h1 hp ⊢
  have HN := Lib.hid hn
  have HS0 : Hid (Below w.heap.size w w) := Below.refl _ _
  have HE0 : Hid (len (p.take 0) = 0) := by unfold Hid; simp [len]
  clear hc hn hl
  go_enter Tryz.func19, Tryz.ntmps19
  go_wp2_with fail
  go_loopg [3, 5, 8] n (fun g s3 s5 s8 wr => ∃ (k z : Nat), k ≤ n ∧ n - k ≤ g ∧ s3 = .int .i64 (z : Int) ∧ (∃ q, q = s5) ∧ s8 = .int .i64 (k : Int) ∧ Hid (len (p.take k) = z) ∧ Hid (Below w.heap.size w wr))
  case atStart => exact ⟨0, 0, by omega, by omega, rfl, ⟨_, rfl⟩, rfl, HE0, HS0⟩
  case round =>
    clear HS0 HE0
    obtain ⟨k, z, hk, hkg, rfl, ⟨u5, rfl⟩, rfl, HE, HS⟩ := hrel
    by_cases hlt : k < n
    · obtain ⟨s, hs⟩ : ∃ s, p[k]? = some s := ⟨_, List.getElem?_eq_getElem (by have := HN.out; omega)⟩
      have HLT := Lib.hid (len_take hs)
      have hle := HTL.out (k + 1)
      rw [HLT.out, HE.out] at hle
      obtain ⟨b, off, u, rfl, hb, c0, c1, hu⟩ := HC.out k s hs
      have d0 := carry HS.out c0
      have d1 := carry HS.out c1
      obtain ⟨uad, ucap, hf⟩ := hu.form
      have k0 : (0 : Int) ≤ (k : Int) := by omega
      have k1 : (k : Int) < (n : Int) := by omega
      subst hf
      have HL1 : Hid (len1 s = if s.k = 2 then s.as.length else if s.k = 1 then 1 else 0) := rfl
      have HS1 : Hid (∀ o, Below w.heap.size w (wr.alloc o)) := fun o => below_then HS.out (below_alloc _ o)
      generalize s.as.length = L at *
      obtain ⟨kd, hkd⟩ : ∃ kd, s.k = kd := ⟨_, rfl⟩
      rw [hkd] at d0 HL1
      clear hs c0 c1 hu HS hkd
      by_cases h2 : kd = 2
      · subst h2
        have e1 : len1 s = L := by rw [HL1.out]; rfl
        have HE2 : Hid (len (p.take (k + 1)) = z + L) := by unfold Hid; rw [HLT.out, HE.out, e1]
        rw [e1] at hle
        have e2 : IntKind.i64.wrap ((z : Int) + (L : Int)) = (z : Int) + (L : Int) := IntWalk.i64_in _ (by omega)
        clear HL1 HE HLT e1
        go_wp2_with fail
        go_roundg (n - (k + 1))
        case measure => omega
        case rel => exact ⟨k + 1, z + L, by omega, Nat.le_refl _, by go_num, ⟨_, rfl⟩, by go_num, HE2, HS1.out _⟩
      · have n2 : (kd == 2) = false := by simpa using h2
        by_cases h3 : kd = 1
        · subst h3
          have e1 : len1 s = 1 := by rw [HL1.out]; rfl
          have HE2 : Hid (len (p.take (k + 1)) = z + 1) := by unfold Hid; rw [HLT.out, HE.out, e1]
          rw [e1] at hle
          clear HL1 HE HLT e1
          go_wp2_with fail
          go_roundg (n - (k + 1))
          case measure => omega
          case rel => exact ⟨k + 1, z + 1, by omega, Nat.le_refl _, by go_num, ⟨_, rfl⟩, by go_num, HE2, HS1.out _⟩
        · have n3 : (kd == 1) = false := by simpa using h3
          have e1 : len1 s = 0 := by rw [HL1.out, if_neg h2, if_neg h3]
          have HE2 : Hid (len (p.take (k + 1)) = z) := by unfold Hid; rw [HLT.out, HE.out, e1]; omega
          clear HL1 HE HLT e1
          go_wp2_with fail
          go_roundg (n - (k + 1))
          case measure => omega
          case rel => exact ⟨k + 1, z, by omega, Nat.le_refl _, rfl, ⟨_, rfl⟩, by go_num, HE2, HS1.out _⟩
    · have k1 : decide ((k : Int) < (n : Int)) = false := decide_eq_false (by omega)
      have HZ : Hid (len p = z) := by unfold Hid; rw [← HE.out, List.take_of_length_le (by rw [HN.out]; omega)]
      go_wp2
      go_ret
      exact ⟨by rw [HZ.out] <;> rfl, HS.out⟩
theorem indexs43_any (p : List Sg) (v : Value) (q : Sg → Bool) (w : World) (hv : RdS w v p) (hp : ∀ (s : Sg) (u : Value) (W : World), Below w.heap.size w W → RdI W u s.as → Calls Tryz.prog 43 #[.agg #[.int .i64 s.k, u]] W fun e w' => e = .returned (.bool (q s)) ∧ Below W.heap.size W w') :
    Calls Tryz.prog 42 #[v, .func (.func 43) #[] #[]] w fun e w' => ∃ i, e = .returned (.int .i64 i) ∧ IdxP p q i ∧ Below w.heap.size w w' := by
  obtain ⟨ad, cap, rfl, h1, h2, hc⟩ := hv
  have HC := Lib.hid hc
  obtain ⟨n, hn⟩ : ∃ n, p.length = n := ⟨_, rfl⟩
  rw [hn] at h1 ⊢
  have HN := Lib.hid hn
  have HP := Lib.hid hp
  have HS0 : Hid (∀ k z, k < 0 → p[k]? = some z → q z = false) := fun k z h => by omega
  have HB0 : Hid (Below w.heap.size w w) := Below.refl _ _
  clear hc hn hp
  go_enter Tryz.func42, Tryz.ntmps42
  go_wp2_with fail
  go_loopg [5, 8] n (fun g s5 s8 wr => ∃ k : Nat, k ≤ n ∧ n - k ≤ g ∧ s8 = .int .i64 (k : Int) ∧ (∃ q, q = s5) ∧ Hid (∀ j z, j < k → p[j]? = some z → q z = false) ∧ Hid (Below w.heap.size w wr))
  case atStart => exact ⟨0, by omega, by omega, rfl, ⟨_, rfl⟩, HS0, HB0⟩
  case round =>
    clear HS0 HB0
    obtain ⟨k, hk, hkg, rfl, ⟨u5, rfl⟩, HS, HB⟩ := hrel
    by_cases hlt : k < n
    · obtain ⟨s, hs⟩ : ∃ s, p[k]? = some s := ⟨_, List.getElem?_eq_getElem (by have := HN.out; omega)⟩
      have HZ := Lib.hid hs
      obtain ⟨b, off, u, rfl, hb, c0, c1, hu⟩ := HC.out k s hs
      have d0 := carry HB.out c0
      have d1 := carry HB.out c1
      have HPZ := Lib.hid (HP.out s u wr HB.out (hu.below HB.out))
      obtain ⟨uad, ucap, hf⟩ := hu.form
      have k0 : (0 : Int) ≤ (k : Int) := by omega
      have k1 : (k : Int) < (n : Int) := by omega
      subst hf
      clear hs c0 c1 hu
      cases hq : q s with
      | true =>
        have HM : Hid (IdxP p q (k : Int)) := .inr ⟨k, s, rfl, HZ.out, hq, HS.out⟩
        rw [hq] at HPZ
        clear HS HZ hq
        go_wp2_with fail
        refine HPZ.out.mono ?_
        rintro e w1 ⟨rfl, hbb⟩
        have HB1 := Lib.hid (below_then HB.out hbb)
        clear hbb
        go_wp2
        go_ret
        exact ⟨_, rfl, HM.out, HB1.out⟩
      | false =>
        have HN' : Hid (∀ j z, j < k + 1 → p[j]? = some z → q z = false) := fun j z' hj hz' => by
          by_cases e : j = k
          · subst e; have := HZ.out; rw [hz'] at this; cases this; exact hq
          · exact HS.out j z' (by omega) hz'
        rw [hq] at HPZ
        clear HS HZ hq
        go_wp2_with fail
        refine HPZ.out.mono ?_
        rintro e w1 ⟨rfl, hbb⟩
        have HB1 := Lib.hid (below_then HB.out hbb)
        clear hbb
        go_wp2_with fail
        go_roundg (n - (k + 1))
        case measure => omega
        case rel => exact ⟨k + 1, by omega, Nat.le_refl _, by go_num, ⟨_, rfl⟩, HN', HB1⟩
    · have k1 : decide ((k : Int) < (n : Int)) = false := decide_eq_false (by omega)
      have HM : Hid (IdxP p q (-1)) := .inl ⟨rfl, fun x hm => by
        obtain ⟨j, hj⟩ := List.getElem?_of_mem hm
        exact HS.out j x (by have := (List.getElem?_eq_some_iff.1 hj).1; have := HN.out; omega) hj⟩
      clear HS
      go_wp2
      go_ret
      exact ⟨_, rfl, HM.out, HB.out⟩
theorem indexs46_any (p : List Sg) (v cp : Value) (q : Sg → Bool) (w : World) (hv : RdS w v p) (hp : ∀ (s : Sg) (u : Value) (W : World), Below w.heap.size w W → RdI W u s.as → Calls Tryz.prog 46 #[.agg #[.int .i64 s.k, u], cp] W fun e w' => e = .returned (.bool (q s)) ∧ Below W.heap.size W w') :
    Calls Tryz.prog 42 #[v, .func (.func 46) #[] #[cp]] w fun e w' => ∃ i, e = .returned (.int .i64 i) ∧ IdxP p q i ∧ Below w.heap.size w w' := by
  obtain ⟨ad, cap, rfl, h1, h2, hc⟩ := hv
  have HC := Lib.hid hc
  obtain ⟨n, hn⟩ : ∃ n, p.length = n := ⟨_, rfl⟩
  rw [hn] at h1 ⊢
  have HN := Lib.hid hn
  have HP := Lib.hid hp
  have HS0 : Hid (∀ k z, k < 0 → p[k]? = some z → q z = false) := fun k z h => by omega
  have HB0 : Hid (Below w.heap.size w w) := Below.refl _ _
  clear hc hn hp
  go_enter Tryz.func42, Tryz.ntmps42
  go_wp2_with fail
  go_loopg [5, 8] n (fun g s5 s8 wr => ∃ k : Nat, k ≤ n ∧ n - k ≤ g ∧ s8 = .int .i64 (k : Int) ∧ (∃ q, q = s5) ∧ Hid (∀ j z, j < k → p[j]? = some z → q z = false) ∧ Hid (Below w.heap.size w wr))
  case atStart => exact ⟨0, by omega, by omega, rfl, ⟨_, rfl⟩, HS0, HB0⟩
  case round =>
    clear HS0 HB0
    obtain ⟨k, hk, hkg, rfl, ⟨u5, rfl⟩, HS, HB⟩ := hrel
    by_cases hlt : k < n
    · obtain ⟨s, hs⟩ : ∃ s, p[k]? = some s := ⟨_, List.getElem?_eq_getElem (by have := HN.out; omega)⟩
      have HZ := Lib.hid hs
      obtain ⟨b, off, u, rfl, hb, c0, c1, hu⟩ := HC.out k s hs
      have d0 := carry HB.out c0
      have d1 := carry HB.out c1
      have HPZ := Lib.hid (HP.out s u wr HB.out (hu.below HB.out))
      obtain ⟨uad, ucap, hf⟩ := hu.form
      have k0 : (0 : Int) ≤ (k : Int) := by omega
      have k1 : (k : Int) < (n : Int) := by omega
      subst hf
      clear hs c0 c1 hu
      cases hq : q s with
      | true =>
        have HM : Hid (IdxP p q (k : Int)) := .inr ⟨k, s, rfl, HZ.out, hq, HS.out⟩
        rw [hq] at HPZ
        clear HS HZ hq
        go_wp2_with fail
        refine HPZ.out.mono ?_
        rintro e w1 ⟨rfl, hbb⟩
        have HB1 := Lib.hid (below_then HB.out hbb)
        clear hbb
        go_wp2
        go_ret
        exact ⟨_, rfl, HM.out, HB1.out⟩
      | false =>
        have HN' : Hid (∀ j z, j < k + 1 → p[j]? = some z → q z = false) := fun j z' hj hz' => by
          by_cases e : j = k
          · subst e; have := HZ.out; rw [hz'] at this; cases this; exact hq
          · exact HS.out j z' (by omega) hz'
        rw [hq] at HPZ
        clear HS HZ hq
        go_wp2_with fail
        refine HPZ.out.mono ?_
        rintro e w1 ⟨rfl, hbb⟩
        have HB1 := Lib.hid (below_then HB.out hbb)
        clear hbb
        go_wp2_with fail
        go_roundg (n - (k + 1))
        case measure => omega
        case rel => exact ⟨k + 1, by omega, Nat.le_refl _, by go_num, ⟨_, rfl⟩, HN', HB1⟩
    · have k1 : decide ((k : Int) < (n : Int)) = false := decide_eq_false (by omega)
      have HM : Hid (IdxP p q (-1)) := .inl ⟨rfl, fun x hm => by
        obtain ⟨j, hj⟩ := List.getElem?_of_mem hm
        exact HS.out j x (by have := (List.getElem?_eq_some_iff.1 hj).1; have := HN.out; omega) hj⟩
      clear HS
      go_wp2
      go_ret
      exact ⟨_, rfl, HM.out, HB.out⟩
theorem cl46_any (s : Sg) (u : Value) (b : Nat) (x : Int) (w : World) (hu : RdI w u s.as) (hx : w.cell? ⟨b, 0, none⟩ = some (.int .i64 x)) : Calls Tryz.prog 46 #[.agg #[.int .i64 s.k, u], .pointer (some ⟨b, 0, none⟩)] w fun e w' => e = .returned (.bool (decide (x ∈ s.as))) ∧ Below w.heap.size w w' := by
  obtain ⟨ad, cap, hf⟩ := hu.form
  have H := Lib.hid (contains_any s.as u x (w.alloc (.cells #[.int .i64 s.k, u] 46)) (hu.below (below_alloc _ _)))
  have HB := Lib.hid (below_alloc w (.cells #[.int .i64 s.k, u] 46))
  have x1 : (w.alloc (.cells #[.int .i64 s.k, u] 46)).cell? ⟨b, 0, none⟩ = some (.int .i64 x) := carry HB.out hx
  subst hf
  generalize s.as.length = L at *
  clear hu
  go_enter Tryz.func46, Tryz.ntmps46
  go_wp2_with fail
  go_at_call 47
  refine H.out.mono ?_
  rintro e w1 ⟨rfl, hb⟩
  have HB1 := Lib.hid (below_then HB.out hb)
  clear hb H
  go_wp2
  go_ret
  exact ⟨rfl, HB1.out⟩
theorem P.has_any (p : List Sg) (x : Int) : (p.any fun s => decide (x ∈ s.as)) = has p x := by
  unfold has flat
  rw [Bool.eq_iff_iff, List.any_eq_true, decide_eq_true_eq, List.mem_flatten]
  constructor
  · rintro ⟨s, hs, h⟩
    exact ⟨s.as, List.mem_map_of_mem hs, by simpa using h⟩
  · rintro ⟨l, hl, h⟩
    obtain ⟨s, hs, rfl⟩ := List.mem_map.1 hl
    exact ⟨s, hs, by simpa using h⟩
theorem has_any (p : List Sg) (v : Value) (x : Int) (w : World) (hv : RdS w v p) : Calls Tryz.prog 21 #[v, .int .i64 x] w fun e w' => e = .returned (.bool (has p x)) ∧ Below w.heap.size w w' := by
  have HB0 := Lib.hid (below_alloc w (.cells #[.int .i64 x] 3))
  have HX : Hid ((w.alloc (.cells #[.int .i64 x] 3)).cell? ⟨w.heap.size, 0, none⟩ = some (.int .i64 x)) := cell_of (heap_alloc_new _ _) rfl
  have HI := Lib.hid (indexs46_any p v (.pointer (some ⟨w.heap.size, 0, none⟩)) (fun s => decide (x ∈ s.as)) (w.alloc (.cells #[.int .i64 x] 3)) (hv.below HB0.out) (fun s u W hW hu => cl46_any s u w.heap.size x W hu (carry hW HX.out)))
  have HCF : Hid (Calls Tryz.prog 45 #[v, .func (.func 46) #[] #[.pointer (some ⟨w.heap.size, 0, none⟩)]] (w.alloc (.cells #[.int .i64 x] 3)) fun e w' => e = .returned (.bool (has p x)) ∧ Below (w.alloc (.cells #[.int .i64 x] 3)).heap.size (w.alloc (.cells #[.int .i64 x] 3)) w') := by
    obtain ⟨ad, cap, rfl⟩ := hv.form
    generalize (w.alloc (.cells #[.int .i64 x] 3)) = W at *
    generalize p.length = n at *
    generalize w.heap.size = wb at *
    clear hv HX HB0
    show Calls _ _ _ _ _
    go_enter Tryz.func45, Tryz.ntmps45
    go_wp2_with fail
    go_at_call 42
    refine HI.out.mono ?_
    rintro e w1 ⟨i, rfl, hi, hb⟩
    have HQ := Lib.hid (hi.any.trans (P.has_any p x))
    have HB := Lib.hid hb
    clear hi hb HI
    go_wp2
    go_ret
    exact ⟨by rw [← HQ.out] <;> rfl, HB.out⟩
  obtain ⟨ad, cap, rfl⟩ := hv.form
  generalize p.length = n at *
  clear hv HX HI
  go_enter Tryz.func21, Tryz.ntmps21
  go_wp2_with fail
  go_at_call 45
  refine HCF.out.mono ?_
  rintro e w1 ⟨rfl, hb⟩
  have HB1 := Lib.hid (below_then HB0.out hb)
  clear hb HCF
  go_wp2
  go_ret
  exact ⟨rfl, HB1.out⟩
end Go.Proofs.YtiobfgcpbihbhaaGreatDoor
