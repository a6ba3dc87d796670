/-
  Lists of rules; the closures; IndexFunc and Permits.
-/
import Derived.Test.YtiiojkekcnmddaaDoorPlA
import Derived.BigQuiet
namespace Go.Proofs.YtiiojkekcnmddaaDoor
open Go.RowKit
set_option linter.unusedSimpArgs false
set_option linter.unusedVariables false
set_option maxHeartbeats 1500000
set_option maxRecDepth 100000

theorem carry {W w1 : World} (hb : Below W.heap.size W w1) {p : Addr} {v : Value} (h : W.cell? p = some v) : w1.cell? p = some v := (hb.cell (World.block_lt_of_cell? _ _ h)).trans h
theorem cell_of {w : World} {g o : Nat} {cs : Array Value} {t : TypeId} {v : Value} (h : w.heap[g]? = some (.cells cs t (0, 0))) (hv : cs[o]? = some v) : w.cell? ⟨g, o, none⟩ = some v := by simp [World.cell?, h, hv]
/-- a slice that reads as a list of rules -/
def RdU (w : World) (v : Value) (rs : List Ru) : Prop := ∃ ad cap, v = .slice ad rs.length cap ∧ (rs.length ≤ cap ∧ cap ≤ 9223372036854775807) ∧ (∀ r ∈ rs, RuOk r) ∧ ∀ (k : Nat) (r : Ru), rs[k]? = some r → ∃ b off, ad = some ⟨b, off, none⟩ ∧ b < w.heap.size ∧ w.cell? ⟨b, off + k * 5, none⟩ = some (.bool r.1) ∧ w.cell? ⟨b, off + k * 5 + 1, none⟩ = some (.int .u32 (r.2.1.1 : Int)) ∧ w.cell? ⟨b, off + k * 5 + 2, none⟩ = some (.int .i64 r.2.1.2) ∧ w.cell? ⟨b, off + k * 5 + 3, none⟩ = some (.int .i64 r.2.2.1) ∧ w.cell? ⟨b, off + k * 5 + 4, none⟩ = some (.int .i64 r.2.2.2)
theorem RdU.below {w w' : World} {v : Value} {rs : List Ru} (h : RdU w v rs) (hb : Below w.heap.size w w') : RdU w' v rs := by
  obtain ⟨ad, cap, e, hc, ho, hx⟩ := h
  refine ⟨ad, cap, e, hc, ho, fun k r hk => ?_⟩
  obtain ⟨b, off, e1, e2, e3, e4, e5, e6, e7⟩ := hx k r hk
  exact ⟨b, off, e1, Nat.lt_of_lt_of_le e2 hb.size, carry hb e3, carry hb e4, carry hb e5, carry hb e6, carry hb e7⟩
theorem RdU.form {w : World} {v : Value} {rs : List Ru} (h : RdU w v rs) : ∃ ad cap, v = .slice ad rs.length cap := by
  obtain ⟨ad, cap, e, _⟩ := h
  exact ⟨ad, cap, e⟩
theorem rdU_nil (w : World) : RdU w (.slice none 0 0) [] := by
  refine ⟨none, 0, rfl, ⟨Nat.le_refl _, by decide⟩, ?_, ?_⟩
  · intro r h; cases h
  · intro k x h; simp at h
theorem RdU.oks {w : World} {v : Value} {rs : List Ru} (h : RdU w v rs) : ∀ r ∈ rs, RuOk r := by
  obtain ⟨_, _, _, _, ho, _⟩ := h; exact ho
def permB (rs : List Ru) (p : Nat × Int) : Bool := ((rs.find? (fun r => matR r p)).map (·.1)).getD false
def IdxU (rs : List Ru) (p : Ru → Bool) (i : Int) : Prop := (i = -1 ∧ ∀ r ∈ rs, p r = false) ∨ (∃ (k : Nat) (r : Ru), i = (k : Int) ∧ rs[k]? = some r ∧ p r = true ∧ ∀ (j : Nat) (y : Ru), j < k → rs[j]? = some y → p y = false)
theorem find_at {p : Ru → Bool} : ∀ {rs : List Ru} {k : Nat} {r : Ru}, rs[k]? = some r → p r = true → (∀ (j : Nat) (y : Ru), j < k → rs[j]? = some y → p y = false) → rs.find? p = some r
  | [], k, r, h, _, _ => by simp at h
  | x :: rs, 0, r, h, hp, _ => by
    obtain rfl : x = r := by simpa using h
    rw [List.find?_cons, hp]
  | x :: rs, k + 1, r, h, hp, hn => by
    have hx : p x = false := hn 0 x (by omega) rfl
    rw [List.find?_cons, hx]
    exact find_at (by simpa using h) hp (fun j y hj hy => hn (j + 1) y (by omega) (by simpa using hy))
theorem perm_at {rs : List Ru} {p : Nat × Int} {k : Nat} {r : Ru} (h : rs[k]? = some r) (hp : matR r p = true) (hn : ∀ (j : Nat) (y : Ru), j < k → rs[j]? = some y → matR y p = false) : permB rs p = r.1 := by
  unfold permB; rw [find_at (p := fun r => matR r p) h hp hn]; rfl
theorem perm_none {rs : List Ru} {p : Nat × Int} (h : ∀ r ∈ rs, matR r p = false) : permB rs p = false := by
  unfold permB
  rw [List.find?_eq_none.2 (fun r hr => by rw [h r hr]; simp)]; rfl
theorem idx_any {rs : List Ru} {p : Ru → Bool} {i : Int} (h : IdxU rs p i) : decide (0 ≤ i) = rs.any p := by
  rcases h with ⟨rfl, hn⟩ | ⟨k, r, rfl, hk, hp, _⟩
  · symm
    have : rs.any p = false := List.any_eq_false.2 (fun r hr => by rw [hn r hr]; simp)
    rw [this]; rfl
  · symm
    have : rs.any p = true := List.any_eq_true.2 ⟨r, List.mem_of_getElem? hk, hp⟩
    rw [this, decide_eq_true (by omega)]

def PredK28 (W0 : World) (cp : Value) (p : Ru → Bool) : Prop := ∀ (W : World) (r : Ru), RuOk r → Below W0.heap.size W0 W → Calls Tryd.prog 28 #[ruV r, cp] W fun e w' => e = .returned (.bool (p r)) ∧ Below W.heap.size W w'
theorem indexf28_any (rs : List Ru) (v cp : Value) (p : Ru → Bool) (w : World) (hv : RdU w v rs) (hp : PredK28 w cp p) : Calls Tryd.prog 27 #[v, .func (.func 28) #[] #[cp]] w fun e w' => ∃ i, e = .returned (.int .i64 i) ∧ IdxU rs p i ∧ Below w.heap.size w w' := by
  obtain ⟨ad, cap, rfl, ⟨h1, h1'⟩, hok, hc⟩ := hv
  have HC := Lib.hid hc
  have HOK := Lib.hid hok
  obtain ⟨L, hL⟩ : ∃ L, rs.length = L := ⟨_, rfl⟩
  rw [hL] at h1 ⊢
  have HL := Lib.hid hL
  have HP := Lib.hid hp
  clear hc hL hp hok
  have HS : Hid (∀ (k : Nat) (z : Ru), k < 0 → rs[k]? = some z → p z = false) := fun k z h => by omega
  have HW := Lib.hid (Below.refl w.heap.size w)
  go_enter Tryd.func27, Tryd.ntmps27
  go_wp2_with fail
  go_loopg [5, 8] L (fun g s5 s8 wr => ∃ k : Nat, k ≤ L ∧ L - k ≤ g ∧ s8 = .int .i64 (k : Int) ∧ (∃ q, q = s5) ∧ Hid (∀ (j : Nat) (z : Ru), j < k → rs[j]? = some z → p z = false) ∧ Hid (Below w.heap.size w wr))
  case atStart => exact ⟨0, by omega, by omega, rfl, ⟨_, rfl⟩, HS, HW⟩
  case round =>
    clear HS HW
    obtain ⟨k, hk, hkg, rfl, ⟨u5, rfl⟩, HS, HW⟩ := hrel
    by_cases hlt : k < L
    · obtain ⟨z, hz⟩ : ∃ z, rs[k]? = some z := ⟨_, List.getElem?_eq_getElem (by rw [HL.out]; exact hlt)⟩
      obtain ⟨b, off, rfl, hb, e0, e1, e2, e3, e4⟩ := HC.out k z hz
      have c0 := carry HW.out e0
      have c1 := carry HW.out e1
      have c2 := carry HW.out e2
      have c3 := carry HW.out e3
      have c4 := carry HW.out e4
      have HZ := Lib.hid hz
      have HPZ := Lib.hid (HP.out wr z (HOK.out z (List.mem_of_getElem? hz)) HW.out)
      have k0 : (0 : Int) ≤ (k : Int) := by omega
      have k1 : (k : Int) < (L : Int) := by omega
      clear hz e0 e1 e2 e3 e4 hb
      cases hpz : p z with
      | true =>
        have HM : Hid (IdxU rs p (k : Int)) := .inr ⟨k, z, rfl, HZ.out, hpz, HS.out⟩
        rw [hpz] at HPZ
        clear HS HZ hpz
        go_wp2_with fail
        refine HPZ.out.mono ?_
        rintro e w1 ⟨rfl, hw1⟩
        have HW1 := Lib.hid (below_then HW.out hw1)
        clear hw1
        go_wp2
        go_ret
        exact ⟨_, rfl, HM.out, HW1.out⟩
      | false =>
        have HN : Hid (∀ (j : Nat) (z : Ru), j < k + 1 → rs[j]? = some z → p z = false) := fun j z' hj hz' => by
          by_cases e : j = k
          · subst e; have := HZ.out; rw [hz'] at this; cases this; exact hpz
          · exact HS.out j z' (by omega) hz'
        rw [hpz] at HPZ
        clear HS HZ hpz
        go_wp2_with fail
        refine HPZ.out.mono ?_
        rintro e w1 ⟨rfl, hw1⟩
        have HW1 := Lib.hid (below_then HW.out hw1)
        clear hw1
        go_wp2_with fail
        go_roundg (L - (k + 1))
        case measure => omega
        case rel => exact ⟨k + 1, by omega, Nat.le_refl _, by go_num, ⟨_, rfl⟩, HN, HW1⟩
    · have k1 : decide ((k : Int) < (L : Int)) = false := decide_eq_false (by omega)
      have HM : Hid (IdxU rs p (-1)) := .inl ⟨rfl, fun x hm => by
        obtain ⟨j, hj⟩ := List.getElem?_of_mem hm
        exact HS.out j x (by have := (List.getElem?_eq_some_iff.1 hj).1; have := HL.out; omega) hj⟩
      clear HS
      go_wp2
      go_ret
      exact ⟨_, rfl, HM.out, HW.out⟩

def PredK38 (W0 : World) (cp : Value) (p : Ru → Bool) : Prop := ∀ (W : World) (r : Ru), RuOk r → Below W0.heap.size W0 W → Calls Tryd.prog 38 #[ruV r, cp] W fun e w' => e = .returned (.bool (p r)) ∧ Below W.heap.size W w'
theorem indexf38_any (rs : List Ru) (v cp : Value) (p : Ru → Bool) (w : World) (hv : RdU w v rs) (hp : PredK38 w cp p) : Calls Tryd.prog 27 #[v, .func (.func 38) #[] #[cp]] w fun e w' => ∃ i, e = .returned (.int .i64 i) ∧ IdxU rs p i ∧ Below w.heap.size w w' := by
  obtain ⟨ad, cap, rfl, ⟨h1, h1'⟩, hok, hc⟩ := hv
  have HC := Lib.hid hc
  have HOK := Lib.hid hok
  obtain ⟨L, hL⟩ : ∃ L, rs.length = L := ⟨_, rfl⟩
  rw [hL] at h1 ⊢
  have HL := Lib.hid hL
  have HP := Lib.hid hp
  clear hc hL hp hok
  have HS : Hid (∀ (k : Nat) (z : Ru), k < 0 → rs[k]? = some z → p z = false) := fun k z h => by omega
  have HW := Lib.hid (Below.refl w.heap.size w)
  go_enter Tryd.func27, Tryd.ntmps27
  go_wp2_with fail
  go_loopg [5, 8] L (fun g s5 s8 wr => ∃ k : Nat, k ≤ L ∧ L - k ≤ g ∧ s8 = .int .i64 (k : Int) ∧ (∃ q, q = s5) ∧ Hid (∀ (j : Nat) (z : Ru), j < k → rs[j]? = some z → p z = false) ∧ Hid (Below w.heap.size w wr))
  case atStart => exact ⟨0, by omega, by omega, rfl, ⟨_, rfl⟩, HS, HW⟩
  case round =>
    clear HS HW
    obtain ⟨k, hk, hkg, rfl, ⟨u5, rfl⟩, HS, HW⟩ := hrel
    by_cases hlt : k < L
    · obtain ⟨z, hz⟩ : ∃ z, rs[k]? = some z := ⟨_, List.getElem?_eq_getElem (by rw [HL.out]; exact hlt)⟩
      obtain ⟨b, off, rfl, hb, e0, e1, e2, e3, e4⟩ := HC.out k z hz
      have c0 := carry HW.out e0
      have c1 := carry HW.out e1
      have c2 := carry HW.out e2
      have c3 := carry HW.out e3
      have c4 := carry HW.out e4
      have HZ := Lib.hid hz
      have HPZ := Lib.hid (HP.out wr z (HOK.out z (List.mem_of_getElem? hz)) HW.out)
      have k0 : (0 : Int) ≤ (k : Int) := by omega
      have k1 : (k : Int) < (L : Int) := by omega
      clear hz e0 e1 e2 e3 e4 hb
      cases hpz : p z with
      | true =>
        have HM : Hid (IdxU rs p (k : Int)) := .inr ⟨k, z, rfl, HZ.out, hpz, HS.out⟩
        rw [hpz] at HPZ
        clear HS HZ hpz
        go_wp2_with fail
        refine HPZ.out.mono ?_
        rintro e w1 ⟨rfl, hw1⟩
        have HW1 := Lib.hid (below_then HW.out hw1)
        clear hw1
        go_wp2
        go_ret
        exact ⟨_, rfl, HM.out, HW1.out⟩
      | false =>
        have HN : Hid (∀ (j : Nat) (z : Ru), j < k + 1 → rs[j]? = some z → p z = false) := fun j z' hj hz' => by
          by_cases e : j = k
          · subst e; have := HZ.out; rw [hz'] at this; cases this; exact hpz
          · exact HS.out j z' (by omega) hz'
        rw [hpz] at HPZ
        clear HS HZ hpz
        go_wp2_with fail
        refine HPZ.out.mono ?_
        rintro e w1 ⟨rfl, hw1⟩
        have HW1 := Lib.hid (below_then HW.out hw1)
        clear hw1
        go_wp2_with fail
        go_roundg (L - (k + 1))
        case measure => omega
        case rel => exact ⟨k + 1, by omega, Nat.le_refl _, by go_num, ⟨_, rfl⟩, HN, HW1⟩
    · have k1 : decide ((k : Int) < (L : Int)) = false := decide_eq_false (by omega)
      have HM : Hid (IdxU rs p (-1)) := .inl ⟨rfl, fun x hm => by
        obtain ⟨j, hj⟩ := List.getElem?_of_mem hm
        exact HS.out j x (by have := (List.getElem?_eq_some_iff.1 hj).1; have := HL.out; omega) hj⟩
      clear HS
      go_wp2
      go_ret
      exact ⟨_, rfl, HM.out, HW.out⟩

theorem closure28_any (r : Ru) (hr : RuOk r) (p : Nat × Int) (hp : p.1 < 4294967296) (hp2 : I64 p.2) (b : Nat) (w : World) (e0 : w.cell? ⟨b, 0, none⟩ = some (.int .u32 (p.1 : Int))) (e1 : w.cell? ⟨b, 1, none⟩ = some (.int .i64 p.2)) :
    Calls Tryd.prog 28 #[ruV r, .pointer (some ⟨b, 0, none⟩)] w fun e w' => e = .returned (.bool (matR r p)) ∧ Below w.heap.size w w' := by
  have HM := Lib.hid (match_any r p hr hp hp2)
  have hb := below_alloc w (ruC r)
  have c3 := carry hb e0
  have c4 := carry hb e1
  have HB := Lib.hid hb
  obtain ⟨pm, ⟨a, n⟩, mn, mx⟩ := r
  obtain ⟨x, m⟩ := p
  dsimp only at *
  clear hb
  go_enter Tryd.func28, Tryd.ntmps28
  go_wp2_with fail
  go_at_call 13
  refine (HM.out _).mono ?_
  rintro e w1 ⟨rfl, hb⟩
  have HF := Lib.hid (below_then HB.out hb)
  clear hb
  go_wp2
  go_ret
  exact ⟨rfl, HF.out⟩
theorem closure38_any (r q : Ru) (hr : RuOk r) (hq : RuOk q) (b : Nat) (w : World) (e0 : w.cell? ⟨b, 0, none⟩ = some (.bool q.1)) (e1 : w.cell? ⟨b, 1, none⟩ = some (.int .u32 (q.2.1.1 : Int))) (e2 : w.cell? ⟨b, 2, none⟩ = some (.int .i64 q.2.1.2)) (e3 : w.cell? ⟨b, 3, none⟩ = some (.int .i64 q.2.2.1)) (e4 : w.cell? ⟨b, 4, none⟩ = some (.int .i64 q.2.2.2)) :
    Calls Tryd.prog 38 #[ruV r, .pointer (some ⟨b, 0, none⟩)] w fun e w' => e = .returned (.bool (covR r q)) ∧ Below w.heap.size w w' := by
  have HM := Lib.hid (coversR_any r q hr hq)
  have hb := below_alloc w (ruC r)
  have c3 := carry hb e0
  have c4 := carry hb e1
  have c5 := carry hb e2
  have c6 := carry hb e3
  have c7 := carry hb e4
  have HB := Lib.hid hb
  obtain ⟨pm, ⟨a, n⟩, mn, mx⟩ := r
  obtain ⟨qm, ⟨x, m⟩, kn, kx⟩ := q
  dsimp only at *
  clear hb
  go_enter Tryd.func38, Tryd.ntmps38
  go_wp2_with fail
  go_at_call 39
  refine (HM.out _).mono ?_
  rintro e w1 ⟨rfl, hb⟩
  have HF := Lib.hid (below_then HB.out hb)
  clear hb
  go_wp2
  go_ret
  exact ⟨rfl, HF.out⟩
theorem permits_any (rs : List Ru) (p : Nat × Int) (u : Value) (w : World) (hu : RdU w u rs) (hp : p.1 < 4294967296) (hp2 : I64 p.2) :
    Calls Tryd.prog 15 #[u, .agg #[.int .u32 (p.1 : Int), .int .i64 p.2]] w fun e w' => e = .returned (.bool (permB rs p)) ∧ Below w.heap.size w w' := by
  have hb : Below w.heap.size w (w.alloc (.cells #[.int .u32 (p.1 : Int), .int .i64 p.2] 25)) := below_alloc _ _
  have hx : (w.alloc (.cells #[.int .u32 (p.1 : Int), .int .i64 p.2] 25)).cell? ⟨w.heap.size, 0, none⟩ = some (.int .u32 (p.1 : Int)) := cell_of (heap_alloc_new _ _) rfl
  have hy : (w.alloc (.cells #[.int .u32 (p.1 : Int), .int .i64 p.2] 25)).cell? ⟨w.heap.size, 1, none⟩ = some (.int .i64 p.2) := cell_of (heap_alloc_new _ _) rfl
  have H := Lib.hid (indexf28_any rs u (.pointer (some ⟨w.heap.size, 0, none⟩)) (fun r => matR r p) _ (hu.below hb) (fun W r hr hW => closure28_any r hr p hp hp2 w.heap.size W (carry hW hx) (carry hW hy)))
  have HB := Lib.hid hb
  obtain ⟨ad, cap, e, ⟨h1, h1'⟩, _, hc⟩ := hu.below hb
  subst e
  have HC := Lib.hid hc
  obtain ⟨L, hL⟩ : ∃ L, rs.length = L := ⟨_, rfl⟩
  rw [hL] at h1 ⊢
  rw [hL] at H
  have HL := Lib.hid hL
  clear hb hx hy hu hc hL
  go_enter Tryd.func15, Tryd.ntmps15
  go_wp2_with fail
  go_at_call 27
  refine H.out.mono ?_
  rintro e w1 ⟨i, rfl, hi, hb⟩
  have HBB := Lib.hid hb
  have HB1 := Lib.hid (below_then HB.out hb)
  rcases hi with ⟨rfl, hn⟩ | ⟨k, r, rfl, hk, hp, hn⟩
  · have HF := Lib.hid (perm_none hn)
    clear hn hb
    go_wp2
    go_ret
    exact ⟨by rw [HF.out] <;> rfl, HB1.out⟩
  · have HF := Lib.hid (perm_at hk hp hn)
    have hkl : k < L := by rw [← HL.out]; exact (List.getElem?_eq_some_iff.1 hk).1
    obtain ⟨b, off, rfl, _, e0, _, _⟩ := HC.out k r hk
    have c0 := carry HBB.out e0
    have k0 : (0 : Int) ≤ (k : Int) := by omega
    have k1 : (k : Int) < (L : Int) := by omega
    clear hn hb hk hp e0
    generalize r.1 = pq at *
    go_wp2
    go_ret
    exact ⟨by rw [HF.out] <;> rfl, HB1.out⟩
end Go.Proofs.YtiiojkekcnmddaaDoor
