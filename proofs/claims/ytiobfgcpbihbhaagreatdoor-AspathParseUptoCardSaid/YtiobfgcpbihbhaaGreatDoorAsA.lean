/-
  The walks of isOf, isNumber, ascends, checkSegment, mayFollow, Check.
-/
import Derived.Test.YtiobfgcpbihbhaaGreatDoorAsB
import Derived.Deep.DeepCutAuto
namespace Go.Proofs.YtiobfgcpbihbhaaGreatDoor
open Go.RowKit P
set_option linter.unusedSimpArgs false
set_option linter.unusedVariables false
set_option maxHeartbeats 4000000
set_option maxRecDepth 100000
/-- where a number stands first -/
def IdxR (m : List Int) (y : Int) (i : Int) : Prop := (i = -1 ∧ y ∉ m) ∨ (0 ≤ i ∧ y ∈ m)
theorem index_any (m : List Int) (v : Value) (y : Int) (w : World) (hv : RdI w v m) : Calls Tryz.prog 79 #[v, .int .i64 y] w fun e w' => ∃ i, e = .returned (.int .i64 i) ∧ IdxR m y i ∧ Below w.heap.size w w' := by
  obtain ⟨ad, cap, rfl, h1, h2, hc⟩ := hv
  have HC := Lib.hid hc
  obtain ⟨L, hL⟩ : ∃ L, m.length = L := ⟨_, rfl⟩
  rw [hL] at h1 ⊢
  have HL := Lib.hid hL
  clear hc hL
  go_enter Tryz.func79, Tryz.ntmps79
  go_wp2_with fail
  have HS : Hid (Below w.heap.size w w ∧ ∀ k z, k < 0 → m[k]? = some z → z ≠ y) := ⟨Below.refl _ _, fun k z h => by omega⟩
  go_loopg [5, 8] L (fun g s5 s8 wr => ∃ k : Nat, k ≤ L ∧ L - k ≤ g ∧ s8 = .int .i64 (k : Int) ∧ (∃ q, q = s5) ∧ Hid (Below w.heap.size w wr ∧ ∀ j z, j < k → m[j]? = some z → z ≠ y))
  case atStart => exact ⟨0, by omega, by omega, rfl, ⟨_, rfl⟩, HS⟩
  case round =>
    clear HS
    obtain ⟨k, hk, hkg, rfl, ⟨u5, rfl⟩, HS⟩ := hrel
    by_cases hlt : k < L
    · obtain ⟨z, hz⟩ : ∃ z, m[k]? = some z := ⟨_, List.getElem?_eq_getElem (by rw [HL.out]; exact hlt)⟩
      obtain ⟨b, off, rfl, hb, c⟩ := HC.out k z hz
      have c' := carry HS.out.1 c
      have HZ := Lib.hid hz
      have k0 : (0 : Int) ≤ (k : Int) := by omega
      have k1 : (k : Int) < (L : Int) := by omega
      clear c hz
      by_cases he : y = z
      · have HM : Hid (IdxR m y (k : Int)) := .inr ⟨by omega, by rw [he]; exact List.mem_of_getElem? HZ.out⟩
        have HB := Lib.hid HS.out.1
        clear HS HZ
        subst he
        go_wp2
        go_ret
        exact ⟨_, rfl, HM.out, HB.out⟩
      · have he1 : (y == z) = false := by simpa using he
        have HN : Hid (Below w.heap.size w wr ∧ ∀ j z, j < k + 1 → m[j]? = some z → z ≠ y) := ⟨HS.out.1, fun j z' hj hz' => by
          by_cases e : j = k
          · subst e; have := HZ.out; rw [hz'] at this; cases this; exact fun e => he e.symm
          · exact HS.out.2 j z' (by omega) hz'⟩
        clear HS
        go_wp2_with fail
        go_roundg (L - (k + 1))
        case measure => omega
        case rel => exact ⟨k + 1, by omega, Nat.le_refl _, by go_num, ⟨_, rfl⟩, HN⟩
    · have k1 : decide ((k : Int) < (L : Int)) = false := decide_eq_false (by omega)
      have HM : Hid (IdxR m y (-1)) := .inl ⟨rfl, fun hm => by
        obtain ⟨j, hj⟩ := List.getElem?_of_mem hm
        exact HS.out.2 j y (by have := (List.getElem?_eq_some_iff.1 hj).1; have := HL.out; omega) hj rfl⟩
      have HB := Lib.hid HS.out.1
      clear HS
      go_wp2
      go_ret
      exact ⟨_, rfl, HM.out, HB.out⟩
theorem contains_any (m : List Int) (v : Value) (y : Int) (w : World) (hv : RdI w v m) : Calls Tryz.prog 47 #[v, .int .i64 y] w fun e w' => e = .returned (.bool (decide (y ∈ m))) ∧ Below w.heap.size w w' := by
  have H := Lib.hid (index_any m v y w hv)
  obtain ⟨ad, cap, rfl⟩ := hv.form
  generalize m.length = L at *
  clear hv
  go_enter Tryz.func47, Tryz.ntmps47
  go_wp2_with fail
  go_at_call 79
  refine H.out.mono ?_
  rintro e w1 ⟨i, rfl, hi, hb⟩
  clear H
  have HD : Hid (decide (0 ≤ i) = decide (y ∈ m)) := by
    rcases hi with ⟨rfl, h⟩ | ⟨h1, h2⟩
    · show decide _ = decide _; rw [decide_eq_false h]; rfl
    · show decide _ = decide _; rw [decide_eq_true h1, decide_eq_true h2]
  have HB := Lib.hid hb
  clear hi hb
  go_wp2
  go_ret
  exact ⟨by rw [← HD.out]; rfl, HB.out⟩

theorem isOf_any (k : Int) (sv v : Value) (l : List Int) (w : World) (hv : RdI w v l) (ho : sv.oneCell' = true) : Calls Tryz.prog 44 #[.agg #[.int .i64 k, sv], v] w fun e w' => e = .returned (.bool (decide (k ∈ l))) ∧ Below w.heap.size w w' := by
  have H := Lib.hid (contains_any l v k (w.alloc (.cells #[.int .i64 k, sv] 46)) (hv.below (below_alloc _ _)))
  have HB := Lib.hid (below_alloc w (.cells #[.int .i64 k, sv] 46))
  clear hv
  go_enter Tryz.func44, Tryz.ntmps44
  go_wp2_with fail
  go_at_call 47
  refine H.out.mono ?_
  rintro e w1 ⟨rfl, hb⟩
  have HB1 := Lib.hid (below_then HB.out hb)
  clear hb H
  go_wp2
  go_ret
  exact ⟨rfl, HB1.out⟩
theorem isNum_any (x : Int) (w : World) : Calls Tryz.prog 77 #[.int .i64 x] w fun e w' => e = .returned (.bool (isNum x)) ∧ w' = w := by
  unfold isNum
  by_cases h1 : 1 ≤ x
  · have k1 : decide (1 ≤ x) = true := decide_eq_true h1
    have e : decide (1 ≤ x ∧ x ≤ 4294967295) = decide (x ≤ 4294967295) := by simp [h1]
    rw [e]
    clear e
    go_enter Tryz.func77, Tryz.ntmps77
    go_wp2
    go_ret
    exact ⟨rfl, rfl⟩
  · have k1 : decide (1 ≤ x) = false := decide_eq_false h1
    have e : decide (1 ≤ x ∧ x ≤ 4294967295) = false := by simp [h1]
    rw [e]
    clear e
    go_enter Tryz.func77, Tryz.ntmps77
    go_wp2
    go_ret
    exact ⟨rfl, rfl⟩
theorem cl76_any (x : Int) (w : World) : Calls Tryz.prog 76 #[.int .i64 x] w fun e w' => e = .returned (.bool (!isNum x)) ∧ w' = w := by
  have H := Lib.hid (isNum_any x w)
  generalize isNum x = q at *
  go_enter Tryz.func76, Tryz.ntmps76
  go_wp2_with fail
  go_at_call 77
  refine H.out.mono ?_
  rintro e w1 ⟨rfl, rfl⟩
  go_wp2
  go_ret
  exact ⟨rfl, rfl⟩
/-- where a property holds first -/
def IdxP {α : Type} (m : List α) (p : α → Bool) (i : Int) : Prop := (i = -1 ∧ ∀ x ∈ m, p x = false) ∨ (∃ (k : Nat) (x : α), i = (k : Int) ∧ m[k]? = some x ∧ p x = true ∧ ∀ j y, j < k → m[j]? = some y → p y = false)
theorem IdxP.any {α : Type} {m : List α} {p : α → Bool} {i : Int} (h : IdxP m p i) : decide (0 ≤ i) = m.any p := by
  rcases h with ⟨rfl, h⟩ | ⟨k, x, rfl, hk, hp, _⟩
  · rw [decide_eq_false (by omega)]; symm; rw [List.any_eq_false]; intro x hx; rw [h x hx]; simp
  · rw [decide_eq_true (by omega)]; symm; rw [List.any_eq_true]; exact ⟨x, List.mem_of_getElem? hk, hp⟩
theorem indexf76_any (m : List Int) (v : Value) (w : World) (hv : RdI w v m) : Calls Tryz.prog 95 #[v, .func (.func 76) #[] #[]] w fun e w' => ∃ i, e = .returned (.int .i64 i) ∧ IdxP m (fun x => !isNum x) i ∧ w' = w := by
  obtain ⟨ad, cap, rfl, h1, h2, hc⟩ := hv
  have HC := Lib.hid hc
  obtain ⟨L, hL⟩ : ∃ L, m.length = L := ⟨_, rfl⟩
  rw [hL] at h1 ⊢
  have HL := Lib.hid hL
  clear hc hL
  have HS : Hid (∀ k z, k < 0 → m[k]? = some z → (!isNum z) = false) := fun k z h => by omega
  go_enter Tryz.func95, Tryz.ntmps95
  go_wp2_with fail
  go_loop [5, 8] (fun s5 s8 => ∃ k : Nat, k ≤ L ∧ s8 = .int .i64 (k : Int) ∧ (∃ q, q = s5) ∧ Hid (∀ j z, j < k → m[j]? = some z → (!isNum z) = false)) (fun _ s8 => L - (intOf s8).toNat)
  case atStart => exact ⟨0, by omega, rfl, ⟨_, rfl⟩, HS⟩
  case round =>
    clear HS
    obtain ⟨k, hk, rfl, ⟨u5, rfl⟩, HS⟩ := hrel
    by_cases hlt : k < L
    · obtain ⟨z, hz⟩ : ∃ z, m[k]? = some z := ⟨_, List.getElem?_eq_getElem (by rw [HL.out]; exact hlt)⟩
      obtain ⟨b, off, rfl, hbb, c⟩ := HC.out k z hz
      have HZ := Lib.hid hz
      have HPZ := Lib.hid (cl76_any z w)
      have k0 : (0 : Int) ≤ (k : Int) := by omega
      have k1 : (k : Int) < (L : Int) := by omega
      clear hz
      cases hpz : (!isNum z) with
      | true =>
        have HM : Hid (IdxP m (fun x => !isNum x) (k : Int)) := .inr ⟨k, z, rfl, HZ.out, hpz, HS.out⟩
        rw [hpz] at HPZ
        clear HS HZ hpz
        go_wp2_with fail
        go_at_call 76
        refine HPZ.out.mono ?_
        rintro e w1 ⟨rfl, rfl⟩
        go_wp2
        go_ret
        exact ⟨_, rfl, HM.out, rfl⟩
      | false =>
        have HN : Hid (∀ j z, j < k + 1 → m[j]? = some z → (!isNum z) = false) := fun j z' hj hz' => by
          by_cases e : j = k
          · subst e; have := HZ.out; rw [hz'] at this; cases this; exact hpz
          · exact HS.out j z' (by omega) hz'
        rw [hpz] at HPZ
        clear HS HZ hpz
        go_wp2_with fail
        go_at_call 76
        refine HPZ.out.mono ?_
        rintro e w1 ⟨rfl, rfl⟩
        go_wp2_with fail
        go_round
        case measure => simp [intOf]; omega
        case rel => exact ⟨k + 1, by omega, by go_num, ⟨_, rfl⟩, HN⟩
    · have k1 : decide ((k : Int) < (L : Int)) = false := decide_eq_false (by omega)
      have HM : Hid (IdxP m (fun x => !isNum x) (-1)) := .inl ⟨rfl, fun x hm => by
        obtain ⟨j, hj⟩ := List.getElem?_of_mem hm
        exact HS.out j x (by have := (List.getElem?_eq_some_iff.1 hj).1; have := HL.out; omega) hj⟩
      clear HS
      go_wp2
      go_ret
      exact ⟨_, rfl, HM.out, rfl⟩
theorem cont76_any (m : List Int) (v : Value) (w : World) (hv : RdI w v m) : Calls Tryz.prog 75 #[v, .func (.func 76) #[] #[]] w fun e w' => e = .returned (.bool (m.any fun x => !isNum x)) ∧ w' = w := by
  have H := Lib.hid (indexf76_any m v w hv)
  obtain ⟨ad, cap, rfl⟩ := hv.form
  generalize m.length = L at *
  clear hv
  go_enter Tryz.func75, Tryz.ntmps75
  go_wp2_with fail
  go_at_call 95
  refine H.out.mono ?_
  rintro e w1 ⟨i, rfl, hi, rfl⟩
  have HI := Lib.hid hi.any
  clear H hi
  go_wp2
  go_ret
  exact ⟨by rw [← HI.out]; rfl, rfl⟩
end Go.Proofs.YtiobfgcpbihbhaaGreatDoor
