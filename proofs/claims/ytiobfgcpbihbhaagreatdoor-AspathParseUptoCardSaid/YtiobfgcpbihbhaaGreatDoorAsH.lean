/-
  The walks of First, Origin; closures over segments.
-/
import Derived.Test.YtiobfgcpbihbhaaGreatDoorAsG
import Derived.BigQuiet
namespace Go.Proofs.YtiobfgcpbihbhaaGreatDoor
open Go.RowKit P
set_option linter.unusedSimpArgs false
set_option linter.unusedVariables false
set_option maxHeartbeats 4000000
set_option maxRecDepth 100000
theorem cl43_any (s : Sg) (u : Value) (w : World) (hu : RdI w u s.as) : Calls Tryz.prog 43 #[.agg #[.int .i64 s.k, u]] w fun e w' => e = .returned (.bool (decide (s.k = 2))) ∧ Below w.heap.size w w' := by
  obtain ⟨ad, cap, hf⟩ := hu.form
  have HB0 : Hid (Below w.heap.size w ((w.alloc (.cells #[.int .i64 s.k, u] 46)).alloc (.cells #[.int .i64 2] 3))) := below_then (below_alloc _ _) (below_alloc _ _)
  have HR0 : Hid (RdI ((w.alloc (.cells #[.int .i64 s.k, u] 46)).alloc (.cells #[.int .i64 2] 3)) (.slice (some ⟨w.heap.size + 1, 0, none⟩) 1 1) [2]) := rdi_at _ [2] 3 _ (by simp) _ rfl _ rfl (by decide)
  subst hf
  generalize s.as.length = L at *
  clear hu
  go_enter Tryz.func43, Tryz.ntmps43
  go_wp2_with fail
  go_at_call 44
  refine (isOf_any s.k (.slice ad L cap) _ [2] _ HR0.out rfl).mono ?_
  rintro e w1 ⟨rfl, hb⟩
  rw [mem1]
  have HB1 := Lib.hid (below_then HB0.out hb)
  clear hb HR0
  go_wp2
  go_ret
  exact ⟨rfl, HB1.out⟩
theorem cl50_any (s : Sg) (u : Value) (w : World) (hu : RdI w u s.as) : Calls Tryz.prog 50 #[.agg #[.int .i64 s.k, u]] w fun e w' => e = .returned (.bool (isConf s.k)) ∧ Below w.heap.size w w' := by
  obtain ⟨ad, cap, hf⟩ := hu.form
  have HB0 : Hid (Below w.heap.size w ((w.alloc (.cells #[.int .i64 s.k, u] 46)).alloc (.cells #[.int .i64 3, .int .i64 4] 3))) := below_then (below_alloc _ _) (below_alloc _ _)
  have HR0 : Hid (RdI ((w.alloc (.cells #[.int .i64 s.k, u] 46)).alloc (.cells #[.int .i64 3, .int .i64 4] 3)) (.slice (some ⟨w.heap.size + 1, 0, none⟩) 2 2) [3, 4]) := rdi_at _ [3, 4] 3 _ (by simp) _ rfl _ rfl (by decide)
  subst hf
  generalize s.as.length = L at *
  clear hu
  go_enter Tryz.func50, Tryz.ntmps50
  go_wp2_with fail
  go_at_call 44
  refine (isOf_any s.k (.slice ad L cap) _ [3, 4] _ HR0.out rfl).mono ?_
  rintro e w1 ⟨rfl, hb⟩
  rw [memConf]
  have HB1 := Lib.hid (below_then HB0.out hb)
  clear hb HR0
  go_wp2
  go_ret
  exact ⟨rfl, HB1.out⟩
theorem find_none {p : List Sg} {q : Sg → Bool} (h : ∀ x ∈ p, q x = false) : p.find? q = none := List.find?_eq_none.2 fun x hx => by rw [h x hx]; simp
theorem find_at : ∀ {p : List Sg} {q : Sg → Bool} {k : Nat} {s : Sg}, p[k]? = some s → q s = true → (∀ j y, j < k → p[j]? = some y → q y = false) → p.find? q = some s
  | [], q, k, s, h, _, _ => by simp at h
  | a :: p, q, 0, s, h, hq, _ => by simp at h; subst h; simp [hq]
  | a :: p, q, k + 1, s, h, hq, hb => by
    have h0 := hb 0 a (by omega) rfl
    rw [List.find?_cons_of_neg (by rw [h0]; simp)]
    exact find_at (by simpa using h) hq (fun j y hj hy => hb (j + 1) y (by omega) (by simpa using hy))
theorem first_any (p : List Sg) (v : Value) (w : World) (hv : RdS w v p) : Calls Tryz.prog 15 #[v] w fun e w' => e = .returned (.tuple #[.int .i64 (fst p).1, .bool (fst p).2]) ∧ Below w.heap.size w w' := by
  have HI := Lib.hid (indexs43_any p v (fun s => decide (s.k = 2)) w hv (fun s u W hW hu => cl43_any s u W hu))
  obtain ⟨ad, cap, rfl, h1, h2, hc⟩ := hv
  have HC := Lib.hid hc
  have HF : Hid (fst p = match p.find? (fun s => decide (s.k = 2)) with | some s => (match s.as with | x :: _ => (x, true) | [] => (0, false)) | none => (0, false)) := rfl
  generalize fst p = z at *
  obtain ⟨n, hn⟩ : ∃ n, p.length = n := ⟨_, rfl⟩
  rw [hn] at h1 HI ⊢
  have HN := Lib.hid hn
  clear hc hn
  go_enter Tryz.func15, Tryz.ntmps15
  go_wp2_with fail
  go_at_call 42
  refine HI.out.mono ?_
  rintro e w1 ⟨i, rfl, hi, hb⟩
  have HB := Lib.hid hb
  clear HI hb
  rcases hi with ⟨rfl, hno⟩ | ⟨k, s, rfl, hk, hq, hbef⟩
  · have HE : Hid (z = (0, false)) := by show _ = _; rw [HF.out, find_none hno]
    clear HF hno
    go_wp2
    go_ret2
    exact ⟨by rw [HE.out] <;> rfl, HB.out⟩
  · have HFF := Lib.hid (find_at hk hq hbef)
    have hkn : k < n := by rw [← HN.out]; exact (List.getElem?_eq_some_iff.1 hk).1
    obtain ⟨b, off, u, rfl, hbb, c0, c1, hu⟩ := HC.out k s hk
    have d0 := carry HB.out c0
    have d1 := carry HB.out c1
    obtain ⟨uad, ucap, rfl, u1, u2, hcs⟩ := hu
    have k0 : (0 : Int) ≤ (k : Int) := by omega
    have k1 : (k : Int) < (n : Int) := by omega
    have k2 : decide ((k : Int) < 0) = false := decide_eq_false (by omega)
    cases hs : s.as with
    | nil =>
      have HE : Hid (z = (0, false)) := by show _ = _; rw [HF.out, HFF.out]; simp only [hs]
      rw [hs] at d1
      have d1' : w1.cell? ⟨b, off + k * 2 + 1, none⟩ = some (.slice uad 0 ucap) := d1
      clear HF HFF hs hcs hk hq hbef c0 c1 d1 u1
      go_wp2
      go_ret2
      exact ⟨by rw [HE.out] <;> rfl, HB.out⟩
    | cons x r =>
      have HE : Hid (z = (x, true)) := by show _ = _; rw [HF.out, HFF.out]; simp only [hs]
      obtain ⟨ub, uo, rfl, hub, x0⟩ := hcs 0 x (by rw [hs]; rfl)
      have x1 : w1.cell? ⟨ub, uo, none⟩ = some (.int .i64 x) := carry HB.out x0
      have n1 : ((s.as.length : Int) == 0) = false := by rw [hs, List.length_cons, beq_eq_false_iff_ne]; omega
      have n2 : (0 : Int) < (s.as.length : Int) := by rw [hs, List.length_cons]; omega
      have n3 : (s.as.length == 0) = false := by rw [hs]; simp
      generalize s.as.length = L at *
      clear HF HFF hs hcs hk hq hbef c0 c1 u1 x0
      go_wp2
      go_ret2
      exact ⟨by rw [HE.out] <;> rfl, HB.out⟩
theorem origin_any (p : List Sg) (v : Value) (w : World) (hv : RdS w v p) : Calls Tryz.prog 17 #[v] w fun e w' => e = .returned (.tuple #[.int .i64 (org p).1, .bool (org p).2]) ∧ Below w.heap.size w w' := by
  obtain ⟨ad, cap, rfl, h1, h2, hc⟩ := hv
  have HF : Hid (org p = match p.getLast? with | some s => (if s.k = 2 then (match s.as.getLast? with | some x => (x, true) | none => (0, false)) else (0, false)) | none => (0, false)) := rfl
  generalize org p = z at *
  obtain ⟨n, hn⟩ : ∃ n, p.length = n := ⟨_, rfl⟩
  rw [hn] at h1 ⊢
  have h63 := h2.1
  by_cases h0 : n = 0
  · have hp : p = [] := List.length_eq_zero_iff.1 (by omega)
    have HE : Hid (z = (0, false)) := by show _ = _; rw [HF.out, hp]; rfl
    subst h0
    clear HF hc hn hp
    go_enter Tryz.func17, Tryz.ntmps17
    go_wp2
    go_ret2
    exact ⟨by rw [HE.out] <;> rfl, Below.refl _ _⟩
  · obtain ⟨s, hs⟩ : ∃ s, p[n - 1]? = some s := ⟨_, List.getElem?_eq_getElem (by omega)⟩
    have HL : Hid (p.getLast? = some s) := by show _ = _; rw [List.getLast?_eq_getElem?, hn]; exact hs
    obtain ⟨b, off, u, rfl, hbb, c0, c1, hu⟩ := hc (n - 1) s hs
    have HU : Hid (RdI w u s.as) := hu
    obtain ⟨uad, ucap, rfl, u1, u2, hcs⟩ := hu
    have k0 : (0 : Int) ≤ (n : Int) - 1 := by omega
    have k1 : (n : Int) - 1 < (n : Int) := by omega
    have k2 : (1 : Int) ≤ (n : Int) := by omega
    have k3 : IntKind.i64.wrap ((n : Int) - 1) = (n : Int) - 1 := IntWalk.i64_in _ (by omega)
    have k4 : ((n : Int) - 1).toNat = n - 1 := by omega
    have k5 : ((n : Int) == 0) = false := by simp; omega
    have k6 : (n == 0) = false := by simp; omega
    have HE0 : Hid (z = if s.k = 2 then (match s.as.getLast? with | some x => (x, true) | none => (0, false)) else (0, false)) := by show _ = _; rw [HF.out, HL.out]
    obtain ⟨L, hL⟩ : ∃ L, s.as.length = L := ⟨_, rfl⟩
    rw [hL] at c1 HU u1
    have HC := Lib.hid hcs
    have hL63 : L ≤ 9223372036854775807 := by have := u2.1; omega
    obtain ⟨kd, hkd⟩ : ∃ kd, s.k = kd := ⟨_, rfl⟩
    rw [hkd] at c0 HE0
    obtain ⟨ns, hns⟩ : ∃ ns, s.as = ns := ⟨_, rfl⟩
    rw [hns] at hL HE0 HC HU
    have HLn := Lib.hid hL
    have HB0 : Hid (Below w.heap.size w ((w.alloc (.cells #[.int .i64 kd, .slice uad L ucap] 46)).alloc (.cells #[.int .i64 2] 3))) := below_then (below_alloc _ _) (below_alloc _ _)
    have HX0 : Hid (((w.alloc (.cells #[.int .i64 kd, .slice uad L ucap] 46)).alloc (.cells #[.int .i64 2] 3)).heap[w.heap.size]? = some (.cells #[.int .i64 kd, .slice uad L ucap] 46 (0, 0))) := ((below_alloc _ _).block _ (by simp)).trans (heap_alloc_new _ _)
    have HR0 : Hid (RdI ((w.alloc (.cells #[.int .i64 kd, .slice uad L ucap] 46)).alloc (.cells #[.int .i64 2] 3)) (.slice (some ⟨w.heap.size + 1, 0, none⟩) 1 1) [2]) := rdi_at _ [2] 3 _ (by simp) _ rfl _ rfl (by decide)
    clear HF HL hc hn hs hcs hL hkd hns u2 h2
    go_enter Tryz.func17, Tryz.ntmps17
    go_wp2_with fail
    go_at_call 44
    refine (isOf_any kd (.slice uad L ucap) _ [2] _ HR0.out rfl).mono ?_
    rintro e w1 ⟨rfl, hb⟩
    rw [mem1]
    have HB1 := Lib.hid (below_then HB0.out hb)
    have HX1 := Lib.hid ((hb.block _ (lt_block HX0.out)).trans HX0.out)
    have b0 : w1.cell? ⟨w.heap.size, 0, none⟩ = some (.int .i64 kd) := cell_of HX1.out rfl
    have b1 : w1.cell? ⟨w.heap.size, 1, none⟩ = some (.slice uad L ucap) := cell_of HX1.out rfl
    clear hb HB0 HX0 HR0 c0 c1
    by_cases hk2 : kd = 2
    · rw [decide_eq_true hk2]
      by_cases hl0 : L = 0
      · have hnil : ns = [] := List.length_eq_zero_iff.1 (by rw [HLn.out]; exact hl0)
        have HE : Hid (z = (0, false)) := by show _ = _; rw [HE0.out, if_pos hk2, hnil]; rfl
        subst hl0
        clear HE0 hnil hk2
        go_wp2
        go_ret2
        exact ⟨by rw [HE.out] <;> rfl, HB1.out⟩
      · obtain ⟨x, hx⟩ : ∃ x, ns[L - 1]? = some x := ⟨_, List.getElem?_eq_getElem (by have := HLn.out; omega)⟩
        obtain ⟨ub, uo, rfl, hub, x0⟩ := HC.out (L - 1) x hx
        have x1 := carry HB1.out x0
        have HE : Hid (z = (x, true)) := by show _ = _; rw [HE0.out, if_pos hk2, List.getLast?_eq_getElem?, HLn.out, hx]
        have m0 : (0 : Int) ≤ (L : Int) - 1 := by omega
        have m1 : (L : Int) - 1 < (L : Int) := by omega
        have m2 : (1 : Int) ≤ (L : Int) := by omega
        have m3 : IntKind.i64.wrap ((L : Int) - 1) = (L : Int) - 1 := IntWalk.i64_in _ (by omega)
        have m4 : ((L : Int) - 1).toNat = L - 1 := by omega
        have m5 : ((L : Int) == 0) = false := by simp; omega
        have m6 : (L == 0) = false := by simp; omega
        clear HE0 hx x0 hk2
        go_wp2
        go_ret2
        exact ⟨by rw [HE.out] <;> rfl, HB1.out⟩
    · rw [decide_eq_false hk2]
      have HE : Hid (z = (0, false)) := by show _ = _; rw [HE0.out, if_neg hk2]
      clear HE0 hk2
      go_wp2
      go_ret2
      exact ⟨by rw [HE.out] <;> rfl, HB1.out⟩
end Go.Proofs.YtiobfgcpbihbhaaGreatDoor
