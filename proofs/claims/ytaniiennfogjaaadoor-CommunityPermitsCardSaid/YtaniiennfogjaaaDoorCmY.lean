/-
  The walks of Permits and of the reference's Permits.
-/
import Derived.Test.YtaniiennfogjaaaDoorCmX
import Derived.Test.YtaniiennfogjaaaDoorCmH
namespace Go.Proofs.YtaniiennfogjaaaDoor
open Go.RowKit T
set_option linter.unusedSimpArgs false
set_option linter.unusedVariables false
set_option maxHeartbeats 1500000
set_option maxRecDepth 100000

/-- a rule: whether it permits, its high part, its low part -/
abbrev Ru := Bool × Int × Int
abbrev ruV (r : Ru) : Value := .agg #[.bool r.1, .int .i64 r.2.1, .int .i64 r.2.2]
def RdU (w : World) (v : Value) (rs : List Ru) : Prop := ∃ ad cap, v = .slice ad rs.length cap ∧ (rs.length ≤ cap ∧ cap ≤ 9223372036854775807) ∧ ∀ (k : Nat) (r : Ru), rs[k]? = some r → ∃ b off, ad = some ⟨b, off, none⟩ ∧ b < w.heap.size ∧ w.cell? ⟨b, off + k * 3, none⟩ = some (.bool r.1) ∧ w.cell? ⟨b, off + k * 3 + 1, none⟩ = some (.int .i64 r.2.1) ∧ w.cell? ⟨b, off + k * 3 + 2, none⟩ = some (.int .i64 r.2.2)
theorem RdU.below {w w' : World} {v : Value} {rs : List Ru} (h : RdU w v rs) (hb : Below w.heap.size w w') : RdU w' v rs := by
  obtain ⟨ad, cap, e, hc, hx⟩ := h
  refine ⟨ad, cap, e, hc, fun k r hk => ?_⟩
  obtain ⟨b, off, e1, e2, e3, e4, e5⟩ := hx k r hk
  exact ⟨b, off, e1, Nat.lt_of_lt_of_le e2 hb.size, carry hb e3, carry hb e4, carry hb e5⟩
theorem RdU.form {w : World} {v : Value} {rs : List Ru} (h : RdU w v rs) : ∃ ad cap, v = .slice ad rs.length cap := by
  obtain ⟨ad, cap, e, _⟩ := h
  exact ⟨ad, cap, e⟩
def mr (l : List Nat) (r : Ru) : Bool := matchB r.2.1 r.2.2 l
def permB (rs : List Ru) (l : List Nat) : Bool := ((rs.find? (mr l)).map (·.1)).getD false
def IdxU (rs : List Ru) (p : Ru → Bool) (i : Int) : Prop := (i = -1 ∧ ∀ r ∈ rs, p r = false) ∨ (∃ (k : Nat) (r : Ru), i = (k : Int) ∧ rs[k]? = some r ∧ p r = true ∧ ∀ (j : Nat) (y : Ru), j < k → rs[j]? = some y → p y = false)
theorem find_at {p : Ru → Bool} : ∀ {rs : List Ru} {k : Nat} {r : Ru}, rs[k]? = some r → p r = true → (∀ (j : Nat) (y : Ru), j < k → rs[j]? = some y → p y = false) → rs.find? p = some r
  | [], k, r, h, _, _ => by simp at h
  | x :: rs, 0, r, h, hp, _ => by
    obtain rfl : x = r := by simpa using h
    rw [List.find?_cons, hp]
  | x :: rs, k + 1, r, h, hp, hn => by
    have hx : p x = false := hn 0 x (by omega) rfl
    rw [List.find?_cons, hx]
    exact find_at (by simpa using h) hp (fun j y hj hy => hn (j + 1) y (by omega) (by simpa using hy))
theorem perm_at {rs : List Ru} {l : List Nat} {k : Nat} {r : Ru} (h : rs[k]? = some r) (hp : mr l r = true) (hn : ∀ (j : Nat) (y : Ru), j < k → rs[j]? = some y → mr l y = false) : permB rs l = r.1 := by
  unfold permB; rw [find_at h hp hn]; rfl
theorem perm_none {rs : List Ru} {l : List Nat} (h : ∀ r ∈ rs, mr l r = false) : permB rs l = false := by
  unfold permB
  rw [List.find?_eq_none.2 (fun r hr => by rw [h r hr]; simp)]; rfl
def Pred45 (W0 : World) (cp : Value) (p : Ru → Bool) : Prop := ∀ (W : World) (r : Ru), Below W0.heap.size W0 W → Calls Tryd.prog 45 #[ruV r, cp] W fun e w' => e = .returned (.bool (p r)) ∧ Below W.heap.size W w'
theorem indexu_any (rs : List Ru) (v cp : Value) (p : Ru → Bool) (w : World) (hv : RdU w v rs) (hp : Pred45 w cp p) : Calls Tryd.prog 44 #[v, .func (.func 45) #[] #[cp]] w fun e w' => ∃ i, e = .returned (.int .i64 i) ∧ IdxU rs p i ∧ Below w.heap.size w w' := by
  obtain ⟨ad, cap, rfl, ⟨h1, h1'⟩, hc⟩ := hv
  have HC := Lib.hid hc
  obtain ⟨L, hL⟩ : ∃ L, rs.length = L := ⟨_, rfl⟩
  rw [hL] at h1 ⊢
  have HL := Lib.hid hL
  have HP := Lib.hid hp
  clear hc hL hp
  have HS : Hid (∀ (k : Nat) (z : Ru), k < 0 → rs[k]? = some z → p z = false) := fun k z h => by omega
  have HW := Lib.hid (Below.refl w.heap.size w)
  go_enter Tryd.func44, Tryd.ntmps44
  go_wp2_with fail
  go_loopg [5, 8] L (fun g s5 s8 wr => ∃ k : Nat, k ≤ L ∧ L - k ≤ g ∧ s8 = .int .i64 (k : Int) ∧ (∃ q, q = s5) ∧ Hid (∀ (j : Nat) (z : Ru), j < k → rs[j]? = some z → p z = false) ∧ Hid (Below w.heap.size w wr))
  case atStart => exact ⟨0, by omega, by omega, rfl, ⟨_, rfl⟩, HS, HW⟩
  case round =>
    clear HS HW
    obtain ⟨k, hk, hkg, rfl, ⟨u5, rfl⟩, HS, HW⟩ := hrel
    by_cases hlt : k < L
    · obtain ⟨z, hz⟩ : ∃ z, rs[k]? = some z := ⟨_, List.getElem?_eq_getElem (by rw [HL.out]; exact hlt)⟩
      obtain ⟨b, off, rfl, hb, e0, e1, e2⟩ := HC.out k z hz
      have c0 := carry HW.out e0
      have c1 := carry HW.out e1
      have c2 := carry HW.out e2
      have HZ := Lib.hid hz
      have HPZ := Lib.hid (HP.out wr z HW.out)
      have k0 : (0 : Int) ≤ (k : Int) := by omega
      have k1 : (k : Int) < (L : Int) := by omega
      clear hz e0 e1 e2 hb
      cases hpz : p z with
      | true =>
        have HM : Hid (IdxU rs p (k : Int)) := .inr ⟨k, z, rfl, HZ.out, hpz, HS.out⟩
        rw [hpz] at HPZ
        clear HS HZ hpz
        go_wp2_with fail
        refine HPZ.out.mono ?_
        rintro e w1 ⟨rfl, hw1⟩
        have HW1 := Lib.hid (below_then HW.out hw1)
        clear hw1
        go_wp2
        go_ret
        exact ⟨_, rfl, HM.out, HW1.out⟩
      | false =>
        have HN : Hid (∀ (j : Nat) (z : Ru), j < k + 1 → rs[j]? = some z → p z = false) := fun j z' hj hz' => by
          by_cases e : j = k
          · subst e; have := HZ.out; rw [hz'] at this; cases this; exact hpz
          · exact HS.out j z' (by omega) hz'
        rw [hpz] at HPZ
        clear HS HZ hpz
        go_wp2_with fail
        refine HPZ.out.mono ?_
        rintro e w1 ⟨rfl, hw1⟩
        have HW1 := Lib.hid (below_then HW.out hw1)
        clear hw1
        go_wp2_with fail
        go_roundg (L - (k + 1))
        case measure => omega
        case rel => exact ⟨k + 1, by omega, Nat.le_refl _, by go_num, ⟨_, rfl⟩, HN, HW1⟩
    · have k1 : decide ((k : Int) < (L : Int)) = false := decide_eq_false (by omega)
      have HM : Hid (IdxU rs p (-1)) := .inl ⟨rfl, fun x hm => by
        obtain ⟨j, hj⟩ := List.getElem?_of_mem hm
        exact HS.out j x (by have := (List.getElem?_eq_some_iff.1 hj).1; have := HL.out; omega) hj⟩
      clear HS
      go_wp2
      go_ret
      exact ⟨_, rfl, HM.out, HW.out⟩
theorem closure45_any (r : Ru) (l : List Nat) (v : Value) (b : Nat) (w : World) (hv : Rd w v l) (hc : w.cell? ⟨b, 0, none⟩ = some v) :
    Calls Tryd.prog 45 #[ruV r, .pointer (some ⟨b, 0, none⟩)] w fun e w' => e = .returned (.bool (mr l r)) ∧ Below w.heap.size w w' := by
  obtain ⟨pm, hi, lo⟩ := r
  have hb : Below w.heap.size w (w.alloc (.cells #[.bool pm, .int .i64 hi, .int .i64 lo] 40)) := below_alloc _ _
  have hx : (w.alloc (.cells #[.bool pm, .int .i64 hi, .int .i64 lo] 40)).heap[w.heap.size]? = some (.cells #[.bool pm, .int .i64 hi, .int .i64 lo] 40 (0, 0)) := heap_alloc_new _ _
  have c0 : (w.alloc (.cells #[.bool pm, .int .i64 hi, .int .i64 lo] 40)).cell? ⟨w.heap.size, 0, none⟩ = some (.bool pm) := cell_of hx rfl
  have c1 : (w.alloc (.cells #[.bool pm, .int .i64 hi, .int .i64 lo] 40)).cell? ⟨w.heap.size, 1, none⟩ = some (.int .i64 hi) := cell_of hx rfl
  have c2 : (w.alloc (.cells #[.bool pm, .int .i64 hi, .int .i64 lo] 40)).cell? ⟨w.heap.size, 2, none⟩ = some (.int .i64 lo) := cell_of hx rfl
  have c3 := carry hb hc
  have HM := Lib.hid (match_any pm hi lo l v _ (hv.below hb))
  have HB := Lib.hid hb
  obtain ⟨ad, cap, rfl⟩ := hv.form
  clear hv hx hb hc
  go_enter Tryd.func45, Tryd.ntmps45
  go_wp2_with fail
  go_at_call 25
  refine HM.out.mono ?_
  rintro e w1 ⟨rfl, hb⟩
  have HF := Lib.hid (below_then HB.out hb)
  clear hb
  go_wp2
  go_ret
  exact ⟨rfl, HF.out⟩
theorem permits_any (rs : List Ru) (l : List Nat) (u v : Value) (w : World) (hu : RdU w u rs) (hv : Rd w v l) :
    Calls Tryd.prog 27 #[u, v] w fun e w' => e = .returned (.bool (permB rs l)) ∧ Below w.heap.size w w' := by
  have hb : Below w.heap.size w (w.alloc (.cells #[v] 22)) := below_alloc _ _
  have hx : (w.alloc (.cells #[v] 22)).cell? ⟨w.heap.size, 0, none⟩ = some v := cell_of (heap_alloc_new _ _) rfl
  have H := Lib.hid (indexu_any rs u (.pointer (some ⟨w.heap.size, 0, none⟩)) (mr l) _ (hu.below hb) (fun W r hW => closure45_any r l v w.heap.size W ((hv.below hb).below hW) (carry hW hx)))
  have HB := Lib.hid hb
  obtain ⟨ad, cap, e, ⟨h1, h1'⟩, hc⟩ := hu.below hb
  subst e
  have HC := Lib.hid hc
  obtain ⟨ad2, cap2, rfl⟩ := hv.form
  obtain ⟨L, hL⟩ : ∃ L, rs.length = L := ⟨_, rfl⟩
  rw [hL] at h1 ⊢
  rw [hL] at H
  have HL := Lib.hid hL
  clear hb hx hu hv hc hL
  go_enter Tryd.func27, Tryd.ntmps27
  go_wp2_with fail
  go_at_call 44
  refine H.out.mono ?_
  rintro e w1 ⟨i, rfl, hi, hb⟩
  have HBB := Lib.hid hb
  have HB1 := Lib.hid (below_then HB.out hb)
  rcases hi with ⟨rfl, hn⟩ | ⟨k, r, rfl, hk, hp, hn⟩
  · have HF := Lib.hid (perm_none hn)
    clear hn hb
    go_wp2
    go_ret
    exact ⟨by rw [HF.out] <;> rfl, HB1.out⟩
  · have HF := Lib.hid (perm_at hk hp hn)
    have hkl : k < L := by rw [← HL.out]; exact (List.getElem?_eq_some_iff.1 hk).1
    obtain ⟨b, off, rfl, _, e0, _, _⟩ := HC.out k r hk
    have c0 := carry HBB.out e0
    have k0 : (0 : Int) ≤ (k : Int) := by omega
    have k1 : (k : Int) < (L : Int) := by omega
    clear hn hb hk hp e0
    generalize r.1 = pq at *
    go_wp2
    go_ret
    exact ⟨by rw [HF.out] <;> rfl, HB1.out⟩
end Go.Proofs.YtaniiennfogjaaaDoor
