/-
  slices.Equal at links and at routers.
-/
import Derived.Test.YtenfcnappjekgaaLyM
import Derived.Test.YtenfcnappjekgaaLxA
import Derived.Laws.StructEq
namespace Go.Proofs.Ytenfcnappjekgaa
open Go.RowKit
set_option linter.unusedSimpArgs false
set_option linter.unusedVariables false
set_option maxHeartbeats 4000000
set_option maxRecDepth 100000

def sameW (x y : Nat) : Bool := ((x : Int) == (y : Int))
def difW (l m : List Nat) (k : Nat) : Int := match l[k]?, m[k]? with
  | some x, some y => if sameW x y = true then 0 else 1
  | _, _ => 0
def eqW (l m : List Nat) : Bool := if l.length = m.length then decide (orL ((List.range l.length).map (difW l m)) = 0) else false
def sameL (x y : Lk) : Bool := (x.kind == y.kind) && (((x.id : Int) == (y.id : Int)) && (((x.data : Int) == (y.data : Int)) && (x.cost == y.cost)))
def difL (l m : List Lk) (k : Nat) : Int := match l[k]?, m[k]? with
  | some x, some y => if sameL x y = true then 0 else 1
  | _, _ => 0
def eqL (l m : List Lk) : Bool := if l.length = m.length then decide (orL ((List.range l.length).map (difL l m)) = 0) else false
theorem eqw_any (l m : List Nat) (v u : Value) (w : World) (hv : RdW w v l) (hu : RdW w u m) : Calls Try.prog 75 #[v, u] w fun e w' => e = .returned (.bool (eqW l m)) ∧ Below w.heap.size w w' := by
  obtain ⟨ad, cap, rfl, ⟨hc1, hc2⟩, hok, hrd⟩ := id hv
  obtain ⟨ad', cap', rfl, ⟨hc1', hc2'⟩, hok', hrd'⟩ := id hu
  have HV0 := Lib.hid hv
  have HU0 := Lib.hid hu
  clear hrd hrd' hok hok' hv hu
  by_cases hlen : l.length = m.length
  · have HE : Hid (eqW l m = decide (orL ((List.range l.length).map (difW l m)) = 0)) := by unfold Hid eqW; rw [if_pos hlen]
    have hlen2 : (m.length : Int) = (l.length : Int) := by omega
    rw [← hlen]
    rw [← hlen] at hc1'
    have hrf : ((l.length : Int) != (l.length : Int)) = false := by simp
    go_enter Try.func75, Try.ntmps75
    go_wp2
    go_loopg [5, 13] l.length (fun gg s5 s13 wr => ∃ k : Nat, k ≤ l.length ∧ l.length - k ≤ gg ∧ s13 = .int .i64 (k : Int) ∧ Hid (∀ x ∈ ((List.range l.length).map (difW l m)).take k, x = 0) ∧ Hid (Below w.heap.size w wr))
    case atStart => exact ⟨0, by omega, by omega, rfl, (by unfold Hid; simp), Below.refl _ _⟩
    case round =>
      obtain ⟨k, hk, hg, rfl, hz, hbel⟩ := hrel
      by_cases hlt : k < l.length
      · obtain ⟨x, hx⟩ : ∃ x, l[k]? = some x := ⟨_, List.getElem?_eq_getElem hlt⟩
        obtain ⟨y, hy⟩ : ∃ y, m[k]? = some y := ⟨_, List.getElem?_eq_getElem (by omega)⟩
        obtain ⟨ad1, cap1, e, -, hok, hrd⟩ := HV0.out.below hbel.out
        obtain ⟨rfl, rfl⟩ : ad = ad1 ∧ cap = cap1 := by injection e with e1 e2 e3; exact ⟨e1, e3⟩
        obtain ⟨ad2, cap2, e', -, hok', hrd'⟩ := HU0.out.below hbel.out
        obtain ⟨rfl, rfl⟩ : ad' = ad2 ∧ cap' = cap2 := by injection e' with e1 e2 e3; exact ⟨e1, e3⟩
        obtain ⟨b, off, rfl, hbl, x0⟩ := hrd k x hx
        obtain ⟨b', off', rfl, hbl', y0⟩ := hrd' k y hy
        have KC : Hid (∀ W', Below wr.heap.size wr W' → W'.cell? ⟨b, off + k, none⟩ = some (.int .u32 (x : Int)) ∧ W'.cell? ⟨b', off' + k, none⟩ = some (.int .u32 (y : Int))) := fun W' hW => ⟨carry hW x0, carry hW y0⟩
        have hi0 : (0 : Int) ≤ (k : Int) := by omega
        have hi1 : (k : Int) < (l.length : Int) := by omega
        have HD : Hid (difW l m k = if sameW x y = true then 0 else 1) := by unfold Hid difW; rw [hx, hy]
        clear e e' hrd hrd' hx hy hok hok' x0 y0
        cases hs : sameW x y
        · have hs0 : ¬ (x : Int) = (y : Int) := by unfold sameW at hs; rw [beq_eq_false_iff_ne] at hs; exact hs
          have HN : Hid (eqW l m = false) := by
            have e1 : orL ((List.range l.length).map (difW l m)) = 1 := orL_at _ _ hz.out ((map_get hlt).trans (by rw [HD.out, hs]; rfl)) (by decide)
            unfold Hid; rw [HE.out, e1]; rfl
          clear hs
          go_wp2_with fail
          refine wp_region_held_drew (S := (fun W' : World => Below wr.heap.size wr W')) (by kernel_rfl) (below_drewN (Below.refl _ _) 1) (fun hS0 => ?_)
          refine wpAnyH_take (i := 0) (oi := ⟨some 16, _, _, _, _, _⟩) (v := .slice (some ⟨b, off, none⟩) l.length cap) rfl (by kernel_rfl) (by kernel_rfl) (by kernel_rfl) (fun _ _ _ h => h) (Or.inl ⟨by rfl, by intro w' hw'; obtain ⟨g0, g1⟩ := KC.out _ hw'; go_simp⟩) hS0 ?_
          simp only [Act.put, List.setIfInBounds_toArray, List.set_cons_zero, List.set_cons_succ]
          refine wpAnyH_take (i := 1) (oi := ⟨some 17, _, _, _, _, _⟩) (v := .int .i64 (k : Int)) rfl (by kernel_rfl) (by kernel_rfl) (by kernel_rfl) (fun _ _ _ h => h) (Or.inl ⟨by rfl, by intro w' hw'; obtain ⟨g0, g1⟩ := KC.out _ hw'; go_simp⟩) hS0 ?_
          simp only [Act.put, List.setIfInBounds_toArray, List.set_cons_zero, List.set_cons_succ]
          refine wpAnyH_take (i := 2) (oi := ⟨some 18, _, _, _, _, _⟩) (v := Value.pointer (some ⟨b, off + k, none⟩)) rfl (by kernel_rfl) (by kernel_rfl) (by kernel_rfl) (fun _ _ _ h => h) (Or.inl ⟨by rfl, by intro w' hw'; obtain ⟨g0, g1⟩ := KC.out _ hw'; go_simp⟩) hS0 ?_
          simp only [Act.put, List.setIfInBounds_toArray, List.set_cons_zero, List.set_cons_succ]
          refine wpAnyH_take (i := 3) (oi := ⟨some 19, _, _, _, _, _⟩) (v := .int .u32 (x : Int)) rfl (by kernel_rfl) (by kernel_rfl) (by kernel_rfl) (fun _ _ _ h => h) (Or.inl ⟨by rfl, by intro w' hw'; obtain ⟨g0, g1⟩ := KC.out _ hw'; go_simp⟩) hS0 ?_
          simp only [Act.put, List.setIfInBounds_toArray, List.set_cons_zero, List.set_cons_succ]
          refine wpAnyH_take (i := 4) (oi := ⟨some 20, _, _, _, _, _⟩) (v := .slice (some ⟨b', off', none⟩) l.length cap') rfl (by kernel_rfl) (by kernel_rfl) (by kernel_rfl) (fun _ _ _ h => h) (Or.inl ⟨by rfl, by intro w' hw'; obtain ⟨g0, g1⟩ := KC.out _ hw'; go_simp⟩) hS0 ?_
          simp only [Act.put, List.setIfInBounds_toArray, List.set_cons_zero, List.set_cons_succ]
          refine wpAnyH_take (i := 5) (oi := ⟨some 21, _, _, _, _, _⟩) (v := .int .i64 (k : Int)) rfl (by kernel_rfl) (by kernel_rfl) (by kernel_rfl) (fun _ _ _ h => h) (Or.inl ⟨by rfl, by intro w' hw'; obtain ⟨g0, g1⟩ := KC.out _ hw'; go_simp⟩) hS0 ?_
          simp only [Act.put, List.setIfInBounds_toArray, List.set_cons_zero, List.set_cons_succ]
          refine wpAnyH_take (i := 6) (oi := ⟨some 22, _, _, _, _, _⟩) (v := Value.pointer (some ⟨b', off' + k, none⟩)) rfl (by kernel_rfl) (by kernel_rfl) (by kernel_rfl) (fun _ _ _ h => h) (Or.inl ⟨by rfl, by intro w' hw'; obtain ⟨g0, g1⟩ := KC.out _ hw'; go_simp⟩) hS0 ?_
          simp only [Act.put, List.setIfInBounds_toArray, List.set_cons_zero, List.set_cons_succ]
          refine wpAnyH_take (i := 7) (oi := ⟨some 23, _, _, _, _, _⟩) (v := .int .u32 (y : Int)) rfl (by kernel_rfl) (by kernel_rfl) (by kernel_rfl) (fun _ _ _ h => h) (Or.inl ⟨by rfl, by intro w' hw'; obtain ⟨g0, g1⟩ := KC.out _ hw'; go_simp⟩) hS0 ?_
          simp only [Act.put, List.setIfInBounds_toArray, List.set_cons_zero, List.set_cons_succ]
          refine wpAnyH_take (i := 8) (oi := ⟨some 24, _, _, _, _, _⟩) (v := .bool true) rfl (by kernel_rfl) (by kernel_rfl) (by kernel_rfl) (fun _ _ _ h => h) (Or.inl ⟨by rfl, by intro w' hw'; obtain ⟨g0, g1⟩ := KC.out _ hw'; go_simp; (try exact hs0)⟩) hS0 ?_
          simp only [Act.put, List.setIfInBounds_toArray, List.set_cons_zero, List.set_cons_succ]
          refine wpAnyH_done (by kernel_rfl) ?_ _
          go_wp2
          go_ret
          exact ⟨ret_b HN.out.symm, hbel.out.drew⟩
        · have HN : Hid (difW l m k = 0) := by unfold Hid; rw [HD.out, hs]; rfl
          unfold sameW at hs
          have hs0 : (x : Int) = (y : Int) := eq_of_beq hs
          clear hs
          go_wp2_with fail
          refine wp_region_held_drew (S := (fun W' : World => Below wr.heap.size wr W')) (by kernel_rfl) (below_drewN (Below.refl _ _) 1) (fun hS0 => ?_)
          refine wpAnyH_take (i := 0) (oi := ⟨some 16, _, _, _, _, _⟩) (v := .slice (some ⟨b, off, none⟩) l.length cap) rfl (by kernel_rfl) (by kernel_rfl) (by kernel_rfl) (fun _ _ _ h => h) (Or.inl ⟨by rfl, by intro w' hw'; obtain ⟨g0, g1⟩ := KC.out _ hw'; go_simp⟩) hS0 ?_
          simp only [Act.put, List.setIfInBounds_toArray, List.set_cons_zero, List.set_cons_succ]
          refine wpAnyH_take (i := 1) (oi := ⟨some 17, _, _, _, _, _⟩) (v := .int .i64 (k : Int)) rfl (by kernel_rfl) (by kernel_rfl) (by kernel_rfl) (fun _ _ _ h => h) (Or.inl ⟨by rfl, by intro w' hw'; obtain ⟨g0, g1⟩ := KC.out _ hw'; go_simp⟩) hS0 ?_
          simp only [Act.put, List.setIfInBounds_toArray, List.set_cons_zero, List.set_cons_succ]
          refine wpAnyH_take (i := 2) (oi := ⟨some 18, _, _, _, _, _⟩) (v := Value.pointer (some ⟨b, off + k, none⟩)) rfl (by kernel_rfl) (by kernel_rfl) (by kernel_rfl) (fun _ _ _ h => h) (Or.inl ⟨by rfl, by intro w' hw'; obtain ⟨g0, g1⟩ := KC.out _ hw'; go_simp⟩) hS0 ?_
          simp only [Act.put, List.setIfInBounds_toArray, List.set_cons_zero, List.set_cons_succ]
          refine wpAnyH_take (i := 3) (oi := ⟨some 19, _, _, _, _, _⟩) (v := .int .u32 (x : Int)) rfl (by kernel_rfl) (by kernel_rfl) (by kernel_rfl) (fun _ _ _ h => h) (Or.inl ⟨by rfl, by intro w' hw'; obtain ⟨g0, g1⟩ := KC.out _ hw'; go_simp⟩) hS0 ?_
          simp only [Act.put, List.setIfInBounds_toArray, List.set_cons_zero, List.set_cons_succ]
          refine wpAnyH_take (i := 4) (oi := ⟨some 20, _, _, _, _, _⟩) (v := .slice (some ⟨b', off', none⟩) l.length cap') rfl (by kernel_rfl) (by kernel_rfl) (by kernel_rfl) (fun _ _ _ h => h) (Or.inl ⟨by rfl, by intro w' hw'; obtain ⟨g0, g1⟩ := KC.out _ hw'; go_simp⟩) hS0 ?_
          simp only [Act.put, List.setIfInBounds_toArray, List.set_cons_zero, List.set_cons_succ]
          refine wpAnyH_take (i := 5) (oi := ⟨some 21, _, _, _, _, _⟩) (v := .int .i64 (k : Int)) rfl (by kernel_rfl) (by kernel_rfl) (by kernel_rfl) (fun _ _ _ h => h) (Or.inl ⟨by rfl, by intro w' hw'; obtain ⟨g0, g1⟩ := KC.out _ hw'; go_simp⟩) hS0 ?_
          simp only [Act.put, List.setIfInBounds_toArray, List.set_cons_zero, List.set_cons_succ]
          refine wpAnyH_take (i := 6) (oi := ⟨some 22, _, _, _, _, _⟩) (v := Value.pointer (some ⟨b', off' + k, none⟩)) rfl (by kernel_rfl) (by kernel_rfl) (by kernel_rfl) (fun _ _ _ h => h) (Or.inl ⟨by rfl, by intro w' hw'; obtain ⟨g0, g1⟩ := KC.out _ hw'; go_simp⟩) hS0 ?_
          simp only [Act.put, List.setIfInBounds_toArray, List.set_cons_zero, List.set_cons_succ]
          refine wpAnyH_take (i := 7) (oi := ⟨some 23, _, _, _, _, _⟩) (v := .int .u32 (y : Int)) rfl (by kernel_rfl) (by kernel_rfl) (by kernel_rfl) (fun _ _ _ h => h) (Or.inl ⟨by rfl, by intro w' hw'; obtain ⟨g0, g1⟩ := KC.out _ hw'; go_simp⟩) hS0 ?_
          simp only [Act.put, List.setIfInBounds_toArray, List.set_cons_zero, List.set_cons_succ]
          refine wpAnyH_take (i := 8) (oi := ⟨some 24, _, _, _, _, _⟩) (v := .bool false) rfl (by kernel_rfl) (by kernel_rfl) (by kernel_rfl) (fun _ _ _ h => h) (Or.inl ⟨by rfl, by intro w' hw'; obtain ⟨g0, g1⟩ := KC.out _ hw'; go_simp⟩) hS0 ?_
          simp only [Act.put, List.setIfInBounds_toArray, List.set_cons_zero, List.set_cons_succ]
          refine wpAnyH_done (by kernel_rfl) ?_ _
          go_wp2
          go_roundg (l.length - (k + 1))
          case measure => omega
          case rel => exact ⟨k + 1, by omega, Nat.le_refl _, by go_num, take_zero hz.out hlt HN.out, hbel.out.drew⟩
      · have hkl : k = l.length := by omega
        subst hkl
        have HN : Hid (eqW l m = true) := by unfold Hid; rw [HE.out, all_zero hz.out]; rfl
        go_wp2
        go_ret
        exact ⟨ret_b HN.out.symm, hbel.out⟩
  · have HE : Hid (eqW l m = false) := by unfold Hid eqW; rw [if_neg hlen]
    have hlen2 : ((l.length : Int) != (m.length : Int)) = true := by rw [bne_iff_ne]; omega
    go_enter Try.func75, Try.ntmps75
    go_wp2
    go_ret
    exact ⟨ret_b HE.out.symm, Below.refl _ _⟩
theorem eql_any (l m : List Lk) (v u : Value) (w : World) (hv : RdL w v l) (hu : RdL w u m) : Calls Try.prog 74 #[v, u] w fun e w' => e = .returned (.bool (eqL l m)) ∧ Below w.heap.size w w' := by
  obtain ⟨ad, cap, rfl, ⟨hc1, hc2⟩, hok, hrd⟩ := id hv
  obtain ⟨ad', cap', rfl, ⟨hc1', hc2'⟩, hok', hrd'⟩ := id hu
  have HV0 := Lib.hid hv
  have HU0 := Lib.hid hu
  clear hrd hrd' hok hok' hv hu
  by_cases hlen : l.length = m.length
  · have HE : Hid (eqL l m = decide (orL ((List.range l.length).map (difL l m)) = 0)) := by unfold Hid eqL; rw [if_pos hlen]
    have hlen2 : (m.length : Int) = (l.length : Int) := by omega
    rw [← hlen]
    rw [← hlen] at hc1'
    have hrf : ((l.length : Int) != (l.length : Int)) = false := by simp
    go_enter Try.func74, Try.ntmps74
    go_wp2
    go_loopg [5, 13] l.length (fun gg s5 s13 wr => ∃ k : Nat, k ≤ l.length ∧ l.length - k ≤ gg ∧ s13 = .int .i64 (k : Int) ∧ Hid (∀ x ∈ ((List.range l.length).map (difL l m)).take k, x = 0) ∧ Hid (Below w.heap.size w wr))
    case atStart => exact ⟨0, by omega, by omega, rfl, (by unfold Hid; simp), Below.refl _ _⟩
    case round =>
      obtain ⟨k, hk, hg, rfl, hz, hbel⟩ := hrel
      by_cases hlt : k < l.length
      · obtain ⟨x, hx⟩ : ∃ x, l[k]? = some x := ⟨_, List.getElem?_eq_getElem hlt⟩
        obtain ⟨y, hy⟩ : ∃ y, m[k]? = some y := ⟨_, List.getElem?_eq_getElem (by omega)⟩
        obtain ⟨ad1, cap1, e, -, hok, hrd⟩ := HV0.out.below hbel.out
        obtain ⟨rfl, rfl⟩ : ad = ad1 ∧ cap = cap1 := by injection e with e1 e2 e3; exact ⟨e1, e3⟩
        obtain ⟨ad2, cap2, e', -, hok', hrd'⟩ := HU0.out.below hbel.out
        obtain ⟨rfl, rfl⟩ : ad' = ad2 ∧ cap' = cap2 := by injection e' with e1 e2 e3; exact ⟨e1, e3⟩
        obtain ⟨b, off, rfl, hbl, x0, x1, x2, x3⟩ := hrd k x hx
        obtain ⟨b', off', rfl, hbl', y0, y1, y2, y3⟩ := hrd' k y hy
        have KC : Hid (∀ W', Below wr.heap.size wr W' → W'.cell? ⟨b, off + k * 4, none⟩ = some (.int .i64 x.kind) ∧ W'.cell? ⟨b, off + k * 4 + 1, none⟩ = some (.int .u32 (x.id : Int)) ∧ W'.cell? ⟨b, off + k * 4 + 2, none⟩ = some (.int .u32 (x.data : Int)) ∧ W'.cell? ⟨b, off + k * 4 + 3, none⟩ = some (.int .i64 x.cost) ∧ W'.cell? ⟨b', off' + k * 4, none⟩ = some (.int .i64 y.kind) ∧ W'.cell? ⟨b', off' + k * 4 + 1, none⟩ = some (.int .u32 (y.id : Int)) ∧ W'.cell? ⟨b', off' + k * 4 + 2, none⟩ = some (.int .u32 (y.data : Int)) ∧ W'.cell? ⟨b', off' + k * 4 + 3, none⟩ = some (.int .i64 y.cost)) := fun W' hW => ⟨carry hW x0, carry hW x1, carry hW x2, carry hW x3, carry hW y0, carry hW y1, carry hW y2, carry hW y3⟩
        have hi0 : (0 : Int) ≤ (k : Int) := by omega
        have hi1 : (k : Int) < (l.length : Int) := by omega
        have HD : Hid (difL l m k = if sameL x y = true then 0 else 1) := by unfold Hid difL; rw [hx, hy]
        clear e e' hrd hrd' hx hy hok hok' x0 x1 x2 x3 y0 y1 y2 y3
        cases hs : sameL x y
        · have hs0 : x.kind = y.kind → (x.id : Int) = (y.id : Int) → (x.data : Int) = (y.data : Int) → ¬ x.cost = y.cost := by intro p1 p2 p3 p4; unfold sameL at hs; rw [p1, p2, p3, p4] at hs; simp at hs
          have HN : Hid (eqL l m = false) := by
            have e1 : orL ((List.range l.length).map (difL l m)) = 1 := orL_at _ _ hz.out ((map_get hlt).trans (by rw [HD.out, hs]; rfl)) (by decide)
            unfold Hid; rw [HE.out, e1]; rfl
          clear hs
          go_wp2_with fail
          refine wp_region_held_drew (S := (fun W' : World => Below wr.heap.size wr W')) (by kernel_rfl) (below_drewN (Below.refl _ _) 1) (fun hS0 => ?_)
          refine wpAnyH_take (i := 0) (oi := ⟨some 16, _, _, _, _, _⟩) (v := .slice (some ⟨b, off, none⟩) l.length cap) rfl (by kernel_rfl) (by kernel_rfl) (by kernel_rfl) (fun _ _ _ h => h) (Or.inl ⟨by rfl, by intro w' hw'; obtain ⟨g0, g1, g2, g3, g4, g5, g6, g7⟩ := KC.out _ hw'; go_simp⟩) hS0 ?_
          simp only [Act.put, List.setIfInBounds_toArray, List.set_cons_zero, List.set_cons_succ]
          refine wpAnyH_take (i := 1) (oi := ⟨some 17, _, _, _, _, _⟩) (v := .int .i64 (k : Int)) rfl (by kernel_rfl) (by kernel_rfl) (by kernel_rfl) (fun _ _ _ h => h) (Or.inl ⟨by rfl, by intro w' hw'; obtain ⟨g0, g1, g2, g3, g4, g5, g6, g7⟩ := KC.out _ hw'; go_simp⟩) hS0 ?_
          simp only [Act.put, List.setIfInBounds_toArray, List.set_cons_zero, List.set_cons_succ]
          refine wpAnyH_take (i := 2) (oi := ⟨some 18, _, _, _, _, _⟩) (v := Value.pointer (some ⟨b, off + k * 4, none⟩)) rfl (by kernel_rfl) (by kernel_rfl) (by kernel_rfl) (fun _ _ _ h => h) (Or.inl ⟨by rfl, by intro w' hw'; obtain ⟨g0, g1, g2, g3, g4, g5, g6, g7⟩ := KC.out _ hw'; go_simp⟩) hS0 ?_
          simp only [Act.put, List.setIfInBounds_toArray, List.set_cons_zero, List.set_cons_succ]
          refine wpAnyH_take (i := 3) (oi := ⟨some 19, _, _, _, _, _⟩) (v := lkV x) rfl (by kernel_rfl) (by kernel_rfl) (by kernel_rfl) (fun _ _ _ h => h) (Or.inl ⟨by rfl, by intro w' hw'; obtain ⟨g0, g1, g2, g3, g4, g5, g6, g7⟩ := KC.out _ hw'; go_simp⟩) hS0 ?_
          simp only [Act.put, List.setIfInBounds_toArray, List.set_cons_zero, List.set_cons_succ]
          refine wpAnyH_take (i := 4) (oi := ⟨some 20, _, _, _, _, _⟩) (v := .slice (some ⟨b', off', none⟩) l.length cap') rfl (by kernel_rfl) (by kernel_rfl) (by kernel_rfl) (fun _ _ _ h => h) (Or.inl ⟨by rfl, by intro w' hw'; obtain ⟨g0, g1, g2, g3, g4, g5, g6, g7⟩ := KC.out _ hw'; go_simp⟩) hS0 ?_
          simp only [Act.put, List.setIfInBounds_toArray, List.set_cons_zero, List.set_cons_succ]
          refine wpAnyH_take (i := 5) (oi := ⟨some 21, _, _, _, _, _⟩) (v := .int .i64 (k : Int)) rfl (by kernel_rfl) (by kernel_rfl) (by kernel_rfl) (fun _ _ _ h => h) (Or.inl ⟨by rfl, by intro w' hw'; obtain ⟨g0, g1, g2, g3, g4, g5, g6, g7⟩ := KC.out _ hw'; go_simp⟩) hS0 ?_
          simp only [Act.put, List.setIfInBounds_toArray, List.set_cons_zero, List.set_cons_succ]
          refine wpAnyH_take (i := 6) (oi := ⟨some 22, _, _, _, _, _⟩) (v := Value.pointer (some ⟨b', off' + k * 4, none⟩)) rfl (by kernel_rfl) (by kernel_rfl) (by kernel_rfl) (fun _ _ _ h => h) (Or.inl ⟨by rfl, by intro w' hw'; obtain ⟨g0, g1, g2, g3, g4, g5, g6, g7⟩ := KC.out _ hw'; go_simp⟩) hS0 ?_
          simp only [Act.put, List.setIfInBounds_toArray, List.set_cons_zero, List.set_cons_succ]
          refine wpAnyH_take (i := 7) (oi := ⟨some 23, _, _, _, _, _⟩) (v := lkV y) rfl (by kernel_rfl) (by kernel_rfl) (by kernel_rfl) (fun _ _ _ h => h) (Or.inl ⟨by rfl, by intro w' hw'; obtain ⟨g0, g1, g2, g3, g4, g5, g6, g7⟩ := KC.out _ hw'; go_simp⟩) hS0 ?_
          simp only [Act.put, List.setIfInBounds_toArray, List.set_cons_zero, List.set_cons_succ]
          refine wpAnyH_take (i := 8) (oi := ⟨some 24, _, _, _, _, _⟩) (v := .bool true) rfl (by kernel_rfl) (by kernel_rfl) (by kernel_rfl) (fun _ _ _ h => h) (Or.inl ⟨by rfl, by intro w' hw'; obtain ⟨g0, g1, g2, g3, g4, g5, g6, g7⟩ := KC.out _ hw'; go_simp; (try exact hs0)⟩) hS0 ?_
          simp only [Act.put, List.setIfInBounds_toArray, List.set_cons_zero, List.set_cons_succ]
          refine wpAnyH_done (by kernel_rfl) ?_ _
          go_wp2
          go_ret
          exact ⟨ret_b HN.out.symm, hbel.out.drew⟩
        · have HN : Hid (difL l m k = 0) := by unfold Hid; rw [HD.out, hs]; rfl
          unfold sameL at hs
          obtain ⟨p1, p2, p3, p4⟩ : x.kind = y.kind ∧ (x.id : Int) = (y.id : Int) ∧ (x.data : Int) = (y.data : Int) ∧ x.cost = y.cost := by simpa only [Bool.and_eq_true, beq_iff_eq] using hs
          clear hs
          go_wp2_with fail
          refine wp_region_held_drew (S := (fun W' : World => Below wr.heap.size wr W')) (by kernel_rfl) (below_drewN (Below.refl _ _) 1) (fun hS0 => ?_)
          refine wpAnyH_take (i := 0) (oi := ⟨some 16, _, _, _, _, _⟩) (v := .slice (some ⟨b, off, none⟩) l.length cap) rfl (by kernel_rfl) (by kernel_rfl) (by kernel_rfl) (fun _ _ _ h => h) (Or.inl ⟨by rfl, by intro w' hw'; obtain ⟨g0, g1, g2, g3, g4, g5, g6, g7⟩ := KC.out _ hw'; go_simp⟩) hS0 ?_
          simp only [Act.put, List.setIfInBounds_toArray, List.set_cons_zero, List.set_cons_succ]
          refine wpAnyH_take (i := 1) (oi := ⟨some 17, _, _, _, _, _⟩) (v := .int .i64 (k : Int)) rfl (by kernel_rfl) (by kernel_rfl) (by kernel_rfl) (fun _ _ _ h => h) (Or.inl ⟨by rfl, by intro w' hw'; obtain ⟨g0, g1, g2, g3, g4, g5, g6, g7⟩ := KC.out _ hw'; go_simp⟩) hS0 ?_
          simp only [Act.put, List.setIfInBounds_toArray, List.set_cons_zero, List.set_cons_succ]
          refine wpAnyH_take (i := 2) (oi := ⟨some 18, _, _, _, _, _⟩) (v := Value.pointer (some ⟨b, off + k * 4, none⟩)) rfl (by kernel_rfl) (by kernel_rfl) (by kernel_rfl) (fun _ _ _ h => h) (Or.inl ⟨by rfl, by intro w' hw'; obtain ⟨g0, g1, g2, g3, g4, g5, g6, g7⟩ := KC.out _ hw'; go_simp⟩) hS0 ?_
          simp only [Act.put, List.setIfInBounds_toArray, List.set_cons_zero, List.set_cons_succ]
          refine wpAnyH_take (i := 3) (oi := ⟨some 19, _, _, _, _, _⟩) (v := lkV x) rfl (by kernel_rfl) (by kernel_rfl) (by kernel_rfl) (fun _ _ _ h => h) (Or.inl ⟨by rfl, by intro w' hw'; obtain ⟨g0, g1, g2, g3, g4, g5, g6, g7⟩ := KC.out _ hw'; go_simp⟩) hS0 ?_
          simp only [Act.put, List.setIfInBounds_toArray, List.set_cons_zero, List.set_cons_succ]
          refine wpAnyH_take (i := 4) (oi := ⟨some 20, _, _, _, _, _⟩) (v := .slice (some ⟨b', off', none⟩) l.length cap') rfl (by kernel_rfl) (by kernel_rfl) (by kernel_rfl) (fun _ _ _ h => h) (Or.inl ⟨by rfl, by intro w' hw'; obtain ⟨g0, g1, g2, g3, g4, g5, g6, g7⟩ := KC.out _ hw'; go_simp⟩) hS0 ?_
          simp only [Act.put, List.setIfInBounds_toArray, List.set_cons_zero, List.set_cons_succ]
          refine wpAnyH_take (i := 5) (oi := ⟨some 21, _, _, _, _, _⟩) (v := .int .i64 (k : Int)) rfl (by kernel_rfl) (by kernel_rfl) (by kernel_rfl) (fun _ _ _ h => h) (Or.inl ⟨by rfl, by intro w' hw'; obtain ⟨g0, g1, g2, g3, g4, g5, g6, g7⟩ := KC.out _ hw'; go_simp⟩) hS0 ?_
          simp only [Act.put, List.setIfInBounds_toArray, List.set_cons_zero, List.set_cons_succ]
          refine wpAnyH_take (i := 6) (oi := ⟨some 22, _, _, _, _, _⟩) (v := Value.pointer (some ⟨b', off' + k * 4, none⟩)) rfl (by kernel_rfl) (by kernel_rfl) (by kernel_rfl) (fun _ _ _ h => h) (Or.inl ⟨by rfl, by intro w' hw'; obtain ⟨g0, g1, g2, g3, g4, g5, g6, g7⟩ := KC.out _ hw'; go_simp⟩) hS0 ?_
          simp only [Act.put, List.setIfInBounds_toArray, List.set_cons_zero, List.set_cons_succ]
          refine wpAnyH_take (i := 7) (oi := ⟨some 23, _, _, _, _, _⟩) (v := lkV y) rfl (by kernel_rfl) (by kernel_rfl) (by kernel_rfl) (fun _ _ _ h => h) (Or.inl ⟨by rfl, by intro w' hw'; obtain ⟨g0, g1, g2, g3, g4, g5, g6, g7⟩ := KC.out _ hw'; go_simp⟩) hS0 ?_
          simp only [Act.put, List.setIfInBounds_toArray, List.set_cons_zero, List.set_cons_succ]
          refine wpAnyH_take (i := 8) (oi := ⟨some 24, _, _, _, _, _⟩) (v := .bool false) rfl (by kernel_rfl) (by kernel_rfl) (by kernel_rfl) (fun _ _ _ h => h) (Or.inl ⟨by rfl, by intro w' hw'; obtain ⟨g0, g1, g2, g3, g4, g5, g6, g7⟩ := KC.out _ hw'; go_simp⟩) hS0 ?_
          simp only [Act.put, List.setIfInBounds_toArray, List.set_cons_zero, List.set_cons_succ]
          refine wpAnyH_done (by kernel_rfl) ?_ _
          go_wp2
          go_roundg (l.length - (k + 1))
          case measure => omega
          case rel => exact ⟨k + 1, by omega, Nat.le_refl _, by go_num, take_zero hz.out hlt HN.out, hbel.out.drew⟩
      · have hkl : k = l.length := by omega
        subst hkl
        have HN : Hid (eqL l m = true) := by unfold Hid; rw [HE.out, all_zero hz.out]; rfl
        go_wp2
        go_ret
        exact ⟨ret_b HN.out.symm, hbel.out⟩
  · have HE : Hid (eqL l m = false) := by unfold Hid eqL; rw [if_neg hlen]
    have hlen2 : ((l.length : Int) != (m.length : Int)) = true := by rw [bne_iff_ne]; omega
    go_enter Try.func74, Try.ntmps74
    go_wp2
    go_ret
    exact ⟨ret_b HE.out.symm, Below.refl _ _⟩
end Go.Proofs.Ytenfcnappjekgaa
