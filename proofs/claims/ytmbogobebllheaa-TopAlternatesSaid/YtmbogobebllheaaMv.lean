/-
  The walks of swapRange and rotate at edges, over the worlds of a sort. The walk of rotate at edges; what swapping and rotating do to the row as a list. The walk of symMerge at edges where one of the two parts holds one edge. The walk of symMerge at edges where the second part holds one edge.
-/
import Derived.Test.YtmbogobebllheaaMr
import Derived.Shelf.SlSortCmp.KitK
import Derived.Sort.WalkB2
namespace Go.Proofs.Ytmbogobebllheaa
open Go.RowKit GM Go.Sort Go.Lib
set_option linter.unusedSimpArgs false
set_option linter.unusedVariables false
set_option maxHeartbeats 4000000
set_option maxRecDepth 100000

def swR (a b : Nat) : Nat → Array E → Array E
  | 0, d => d
  | n + 1, d => swp (swR a b n d) (a + n) (b + n)
theorem swR_size (a b : Nat) (d : Array E) : ∀ n, (swR a b n d).size = d.size
  | 0 => rfl
  | n + 1 => by unfold swR; rw [size_swp]; exact swR_size a b d n
abbrev SW (w0 : World) (blk : Nat) (d : Array E) (W : World) : Prop := SWK encE 3 w0 blk 0 d W

theorem swapRange_any (blk cap a b n : Nat) (cv : Value) (d0 d : Array E) (w0 w : World) (R : RowK encE 3 w0 blk 0 d0) (hs : d0.size = d.size) (S : SW w0 blk d w) (ha : a + n ≤ b) (hb : b + n ≤ d.size) (hsz : d.size < 4611686018427387904) :
    Calls Try.prog 191 #[.slice (some ⟨blk, 0, none⟩) d.size cap, .int .i64 a, .int .i64 b, .int .i64 n, cv] w fun e w' => e = .returned (.tuple #[]) ∧ SW w0 blk (swR a b n d) w' := by
  have mixed := Try.sortE.mixed
  have S0 : Aside (SW w0 blk d w) := S
  clear S
  go_enter Try.func191, Try.ntmps191
  go_wp2
  go_loopg [10] n (fun kx vi wr => ∃ (i : Nat), vi = .int .i64 i ∧ i ≤ n ∧ n - i ≤ kx ∧ Aside (SW w0 blk (swR a b i d) wr))
  case atStart => exact ⟨0, rfl, Nat.zero_le _, by omega, S0⟩
  case round =>
    clear S0
    obtain ⟨i, rfl, hin, hkx, S1⟩ := hrel
    by_cases hlt : (i : Int) < (n : Int)
    · have hlt' : i < n := by omega
      have hsd : Aside ((swR a b i d).size = d.size) := swR_size a b d i
      have hd0 : d0.size = (swR a b i d).size := hs.trans hsd.out.symm
      go_wp2_with fail
      have ea : ((a : Int) + (i : Int)).toNat = a + i := by omega
      have pa : (0 : Int) ≤ (a : Int) + (i : Int) := by omega
      have ba : (a : Int) + (i : Int) < (d.size : Int) := by omega
      have ra : IntKind.i64.wrap ((a : Int) + (i : Int)) = (a : Int) + (i : Int) := by rw [IntKind.wrap_i64]; omega
      have eb : ((b : Int) + (i : Int)).toNat = b + i := by omega
      have pb : (0 : Int) ≤ (b : Int) + (i : Int) := by omega
      have bb : (b : Int) + (i : Int) < (d.size : Int) := by omega
      have rb : IntKind.i64.wrap ((b : Int) + (i : Int)) = (b : Int) + (i : Int) := by rw [IntKind.wrap_i64]; omega
      have hH : HoldsK encE 3 wr blk 0 (swR a b i d) := S1.out.holds R.hblk R.hH hd0.symm
      obtain ⟨x, y, z, hA⟩ : ∃ x y z, (swR a b i d)[a + i]! = (x, y, z) := ⟨_, _, _, rfl⟩
      obtain ⟨p, q, r, hB⟩ : ∃ p q r, (swR a b i d)[b + i]! = (p, q, r) := ⟨_, _, _, rfl⟩
      obtain ⟨⟨a0, a1, a2⟩, f0, f1, f2⟩ := he_cells hH (by have := hsd.out; omega) hA
      obtain ⟨⟨b0, b1, b2⟩, g0, g1, g2⟩ := he_cells hH (by have := hsd.out; omega) hB
      rw [Nat.zero_add] at a0 a1 a2 f0 f1 f2 b0 b1 b2 g0 g1 g2
      have HEND : Hid (SW w0 blk (swR a b (i + 1) d) (((((((wr).setCell ⟨blk, (a + i) * 3, none⟩ (.int .i64 p)).setCell ⟨blk, (a + i) * 3 + 1, none⟩ (.int .i64 q)).setCell ⟨blk, (a + i) * 3 + 2, none⟩ (.int .i64 r)).setCell ⟨blk, (b + i) * 3, none⟩ (.int .i64 x)).setCell ⟨blk, (b + i) * 3 + 1, none⟩ (.int .i64 y)).setCell ⟨blk, (b + i) * 3 + 2, none⟩ (.int .i64 z)).drew) := by
        have := (S1.out).swap R.hk R.hblk (a + i) (b + i) (by have := hsd.out; omega) (by have := hsd.out; omega)
        rw [Nat.zero_add, Nat.zero_add, hA, hB] at this
        exact this.drew
      clear hH hA hB S1 hsd hd0
      go_wp2_with fail
      go_big_region_o
      all_goals go_wp2
      all_goals go_roundg (n - (i + 1))
      case measure => omega
      case rel =>
        exact ⟨i + 1, by go_num, by omega, Nat.le_refl _, HEND.out⟩
    · have e : i = n := by omega
      subst e
      go_wp2
      go_end0
      exact ⟨rfl, S1.out⟩
end Go.Proofs.Ytmbogobebllheaa
namespace Go.Proofs.Ytmbogobebllheaa
open Go.RowKit GM Go.Sort Go.Lib
set_option linter.unusedSimpArgs false
set_option linter.unusedVariables false
set_option maxHeartbeats 4000000
set_option maxRecDepth 100000

theorem swp_list {P Q S : List E} {x y : E} {d : Array E} {i j : Nat} (h : d.toList = P ++ x :: (Q ++ y :: S)) (hi : i = P.length) (hj : j = P.length + 1 + Q.length) : (swp d i j).toList = P ++ y :: (Q ++ x :: S) := by
  have hd : d = (P ++ x :: (Q ++ y :: S)).toArray := by rw [← h]
  subst hd hi hj
  have h1 : (P ++ x :: (Q ++ y :: S))[P.length + 1 + Q.length]? = some y := by
    rw [List.getElem?_append_right (by omega), show P.length + 1 + Q.length - P.length = Q.length + 1 by omega, List.getElem?_cons_succ, List.getElem?_append_right (by omega)]
    simp
  have h0 : (P ++ x :: (Q ++ y :: S))[P.length]? = some x := by simp
  unfold swp
  simp only [Array.toList_setIfInBounds, List.getElem!_toArray, List.getElem!_eq_getElem?_getD, h0, h1, Option.getD_some]
  rw [List.set_append_right _ _ (by omega), Nat.sub_self, List.set_cons_zero, List.set_append_right _ _ (by omega), show P.length + 1 + Q.length - P.length = Q.length + 1 by omega, List.set_cons_succ, List.set_append_right _ _ (by omega), Nat.sub_self, List.set_cons_zero]
theorem swR_list : ∀ (n : Nat) {A u M v C : List E} {d : Array E} {a b : Nat}, d.toList = A ++ (u ++ (M ++ (v ++ C))) → a = A.length → u.length = n → v.length = n → b = a + n + M.length → (swR a b n d).toList = A ++ (v ++ (M ++ (u ++ C)))
  | 0, A, u, M, v, C, d, a, b, h, _, hu, hv, _ => by
    have e1 := List.length_eq_zero_iff.1 hu
    have e2 := List.length_eq_zero_iff.1 hv
    subst e1 e2
    exact h
  | n + 1, A, u, M, v, C, d, a, b, h, ha, hu, hv, hb => by
    obtain ⟨u', x, rfl⟩ : ∃ u' x, u = u' ++ [x] := ⟨u.dropLast, u.getLast (by intro e; subst e; cases hu), (List.dropLast_concat_getLast _).symm⟩
    obtain ⟨v', y, rfl⟩ : ∃ v' y, v = v' ++ [y] := ⟨v.dropLast, v.getLast (by intro e; subst e; cases hv), (List.dropLast_concat_getLast _).symm⟩
    simp only [List.length_append, List.length_cons, List.length_nil] at hu hv
    have ih := swR_list n (A := A) (u := u') (M := x :: M) (v := v') (C := y :: C) (d := d) (a := a) (b := b) (by rw [h]; simp) ha (by omega) (by omega) (by simp; omega)
    have := swp_list (P := A ++ v') (Q := M ++ u') (S := C) (x := x) (y := y) (d := swR a b n d) (i := a + n) (j := b + n) (by rw [ih]; simp) (by simp; omega) (by simp; omega)
    show (swp (swR a b n d) (a + n) (b + n)).toList = _
    rw [this]; simp
theorem arr_len {d : Array E} {l : List E} (h : d.toList = l) : d.size = l.length := by rw [← h]; simp
theorem swapRange_l (blk cap : Nat) (cv : Value) (d0 : Array E) (w0 : World) (R : RowK encE 3 w0 blk 0 d0) (hsz : d0.size < 4611686018427387904)
    (A u M v C : List E) (d : Array E) (w : World) (ia ib n : Int) (hd : d.toList = A ++ (u ++ (M ++ (v ++ C)))) (hs : d.size = d0.size) (S : SW w0 blk d w) (ha : ia = A.length) (hb : ib = (A.length + u.length + M.length : Nat)) (hn : n = u.length) (hv : v.length = u.length) :
    Calls Try.prog 191 #[.slice (some ⟨blk, 0, none⟩) d0.size cap, .int .i64 ia, .int .i64 ib, .int .i64 n, cv] w fun e w' => e = .returned (.tuple #[]) ∧ ∃ d' : Array E, d'.toList = A ++ (v ++ (M ++ (u ++ C))) ∧ d'.size = d0.size ∧ SW w0 blk d' w' := by
  subst ha hb hn
  have hl := arr_len hd
  simp only [List.length_append] at hl
  rw [← hs]
  refine (swapRange_any blk cap A.length (A.length + u.length + M.length) u.length cv d0 d w0 w R hs.symm S (by omega) (by omega) (by omega)).mono ?_
  rintro e w' ⟨rfl, h⟩
  exact ⟨rfl, _, swR_list u.length hd rfl rfl hv rfl, by rw [swR_size], h⟩

theorem rotate_any (blk cap : Nat) (cv : Value) (d0 : Array E) (w0 : World) (R : RowK encE 3 w0 blk 0 d0) (hsz : d0.size < 4611686018427387904)
    (A u v C : List E) (d : Array E) (w : World) (a m b : Nat) (hd : d.toList = A ++ (u ++ (v ++ C))) (hs : d.size = d0.size) (S : SW w0 blk d w) (ha : a = A.length) (hm : m = a + u.length) (hb : b = m + v.length) (hu : 0 < u.length) (hv : 0 < v.length) :
    Calls Try.prog 181 #[.slice (some ⟨blk, 0, none⟩) d0.size cap, .int .i64 a, .int .i64 m, .int .i64 b, cv] w fun e w' => e = .returned (.tuple #[]) ∧ ∃ d' : Array E, d'.toList = A ++ (v ++ (u ++ C)) ∧ d'.size = d0.size ∧ SW w0 blk d' w' := by
  have HSW := Lib.hid (swapRange_l blk cap cv d0 w0 R hsz)
  have hl := arr_len hd
  simp only [List.length_append] at hl
  have S0 : Hid (d.toList = A ++ (u ++ (v ++ C)) ∧ d.size = d0.size ∧ SW w0 blk d w) := ⟨hd, hs, S⟩
  obtain ⟨T, hT⟩ : ∃ T, T = A ++ (v ++ (u ++ C)) := ⟨_, rfl⟩
  rw [← hT]
  have hml : m + v.length ≤ d0.size := by omega
  have ham : a ≤ m := by omega
  have HT := Lib.hid hT
  have HE : Hid (a = A.length ∧ m = a + u.length ∧ b = m + v.length) := ⟨ha, hm, hb⟩
  have hmb : m ≤ b := by omega
  have hbd : b ≤ d0.size := by omega
  clear S hd hs hT ha hm hb hl hml
  go_enter Try.func181, Try.ntmps181
  go_wp2
  go_loopg [10, 11] (m + m + b + b) (fun kx vi vj wr => ∃ (i j : Nat) (A' u' v' C' : List E) (dk : Array E), vi = .int .i64 i ∧ vj = .int .i64 j ∧ 0 < i ∧ 0 < j ∧ i ≤ m ∧ m + j ≤ d0.size ∧ i + j ≤ kx ∧
    Hid (dk.toList = A' ++ (u' ++ (v' ++ C')) ∧ dk.size = d0.size ∧ SW w0 blk dk wr ∧ A'.length + i = m ∧ u'.length = i ∧ v'.length = j ∧ T = A' ++ (v' ++ (u' ++ C'))))
  case atStart => 
    obtain ⟨h1, h2, h3⟩ := HE.out
    exact ⟨u.length, v.length, A, u, v, C, d, by congr 1; omega, by congr 1; omega, hu, hv, by omega, by omega, by omega, S0.out.1, S0.out.2.1, S0.out.2.2, by omega, rfl, rfl, HT.out⟩
  case round =>
    clear S0 HT
    obtain ⟨i, j, A', u', v', C', dk, rfl, rfl, hi, hj, him, hmj, hkx, HI⟩ := hrel
    rcases (by omega : i = j ∨ j < i ∨ i < j) with hij | hij | hij
    · subst hij
      have HS1 : Hid (∀ ia ib n, ia = (m : Int) - (i : Int) → ib = (m : Int) → n = (i : Int) → Calls Try.prog 191 #[.slice (some ⟨blk, 0, none⟩) d0.size cap, .int .i64 ia, .int .i64 ib, .int .i64 n, cv] wr fun e w' => e = .returned (.tuple #[]) ∧ ∃ d' : Array E, d'.toList = T ∧ d'.size = d0.size ∧ SW w0 blk d' w') := fun ia ib n h1 h2 h3 => by
        obtain ⟨q1, q2, q3, q4, q5, q6, q7⟩ := HI.out
        have := HSW.out A' u' [] v' C' dk wr ia ib n q1 q2 q3 (by omega) (by simp; omega) (by omega) (by omega)
        rw [q7]; exact this
      clear HI HSW
      go_wp2_with (go_at_call 191; refine (HS1.out _ _ _ (by go_num) (by go_num) (by go_num)).mono ?_; rintro e w' ⟨rfl, hx⟩; have HX := Lib.hid hx; clear hx)
      go_end0
      exact ⟨rfl, HX.out⟩
    · have HS1 : Hid (∀ ia ib n, ia = (m : Int) - (i : Int) → ib = (m : Int) → n = (j : Int) → Calls Try.prog 191 #[.slice (some ⟨blk, 0, none⟩) d0.size cap, .int .i64 ia, .int .i64 ib, .int .i64 n, cv] wr fun e w' => e = .returned (.tuple #[]) ∧ ∃ (A1 u1 v1 C1 : List E) (d' : Array E), d'.toList = A1 ++ (u1 ++ (v1 ++ C1)) ∧ d'.size = d0.size ∧ SW w0 blk d' w' ∧ A1.length + (i - j) = m ∧ u1.length = i - j ∧ v1.length = j ∧ T = A1 ++ (v1 ++ (u1 ++ C1))) := fun ia ib n h1 h2 h3 => by
        obtain ⟨q1, q2, q3, q4, q5, q6, q7⟩ := HI.out
        obtain ⟨p, q, rfl, hp⟩ : ∃ p q, u' = p ++ q ∧ p.length = j := ⟨u'.take j, u'.drop j, (List.take_append_drop _ _).symm, by rw [List.length_take]; omega⟩
        rw [List.length_append] at q5
        refine (HSW.out A' p q v' C' dk wr ia ib n (by rw [q1]; simp) q2 q3 (by omega) (by omega) (by omega) (by omega)).mono ?_
        rintro e w' ⟨rfl, d', r1, r2, r3⟩
        exact ⟨rfl, A' ++ v', q, p, C', d', by rw [r1]; simp, r2, r3, by rw [List.length_append]; omega, by omega, hp, by rw [q7]; simp⟩
      clear HI HSW
      have hne : ((i : Int) == (j : Int)) = false := by rw [beq_eq_false_iff_ne]; omega
      have hne' : ((i : Int) != (j : Int)) = true := by rw [bne_iff_ne]; omega
      have hgt : (j : Int) < (i : Int) := by omega
      go_wp2_with (go_at_call 191; refine (HS1.out _ _ _ (by go_num) (by go_num) (by go_num)).mono ?_; rintro e w' ⟨rfl, hx⟩; have HX := Lib.hid hx; clear hx)
      go_roundg (i - j + j)
      case measure => omega
      case rel =>
        obtain ⟨A1, u1, v1, C1, d', r⟩ := HX.out
        exact ⟨i - j, j, A1, u1, v1, C1, d', by go_num, rfl, by omega, hj, by omega, hmj, Nat.le_refl _, r⟩
    · have HS1 : Hid (∀ ia ib n, ia = (m : Int) - (i : Int) → ib = (m : Int) + (j : Int) - (i : Int) → n = (i : Int) → Calls Try.prog 191 #[.slice (some ⟨blk, 0, none⟩) d0.size cap, .int .i64 ia, .int .i64 ib, .int .i64 n, cv] wr fun e w' => e = .returned (.tuple #[]) ∧ ∃ (A1 u1 v1 C1 : List E) (d' : Array E), d'.toList = A1 ++ (u1 ++ (v1 ++ C1)) ∧ d'.size = d0.size ∧ SW w0 blk d' w' ∧ A1.length + i = m ∧ u1.length = i ∧ v1.length = j - i ∧ T = A1 ++ (v1 ++ (u1 ++ C1))) := fun ia ib n h1 h2 h3 => by
        obtain ⟨q1, q2, q3, q4, q5, q6, q7⟩ := HI.out
        obtain ⟨p, q, rfl, hp⟩ : ∃ p q, v' = p ++ q ∧ p.length = j - i := ⟨v'.take (j - i), v'.drop (j - i), (List.take_append_drop _ _).symm, by rw [List.length_take]; omega⟩
        rw [List.length_append] at q6
        refine (HSW.out A' u' p q C' dk wr ia ib n (by rw [q1]; simp) q2 q3 (by omega) (by omega) (by omega) (by omega)).mono ?_
        rintro e w' ⟨rfl, d', r1, r2, r3⟩
        exact ⟨rfl, A', q, p, u' ++ C', d', by rw [r1], r2, r3, q4, by omega, hp, by rw [q7]; simp⟩
      clear HI HSW
      have hne : ((i : Int) == (j : Int)) = false := by rw [beq_eq_false_iff_ne]; omega
      have hne' : ((i : Int) != (j : Int)) = true := by rw [bne_iff_ne]; omega
      have hgt : ¬ (j : Int) < (i : Int) := by omega
      go_wp2_with (go_at_call 191; refine (HS1.out _ _ _ (by go_num) (by go_num) (by go_num)).mono ?_; rintro e w' ⟨rfl, hx⟩; have HX := Lib.hid hx; clear hx)
      go_roundg (i + (j - i))
      case measure => omega
      case rel =>
        obtain ⟨A1, u1, v1, C1, d', r⟩ := HX.out
        exact ⟨i, j - i, A1, u1, v1, C1, d', rfl, by go_num, hi, by omega, him, by omega, Nat.le_refl _, r⟩
end Go.Proofs.Ytmbogobebllheaa
namespace Go.Proofs.Ytmbogobebllheaa
open Go.RowKit GM Go.Sort Go.Lib
set_option linter.unusedSimpArgs false
set_option linter.unusedVariables false
set_option maxHeartbeats 4000000
set_option maxRecDepth 100000

theorem sw_cells {blk : Nat} {d0 d : Array E} {w0 W : World} (R : RowK encE 3 w0 blk 0 d0) (S : SW w0 blk d W) (hs : d.size = d0.size) {i : Nat} {x : E} (hx : d.toList[i]? = some x) :
    (W.cell? ⟨blk, i * 3, none⟩ = some (.int .i64 x.1) ∧ W.cell? ⟨blk, i * 3 + 1, none⟩ = some (.int .i64 x.2.1) ∧ W.cell? ⟨blk, i * 3 + 2, none⟩ = some (.int .i64 x.2.2)) ∧ W.frozen? ⟨blk, i * 3, none⟩ = false ∧ W.frozen? ⟨blk, i * 3 + 1, none⟩ = false ∧ W.frozen? ⟨blk, i * 3 + 2, none⟩ = false := by
  obtain ⟨hi, e⟩ := List.getElem?_eq_some_iff.1 hx
  have hi' : i < d.size := by simpa using hi
  have := he_cells (S.holds R.hblk R.hH hs) hi' (a := x.1) (b := x.2.1) (c := x.2.2) (by rw [getElem!_pos d i hi']; simpa using e)
  simpa only [Nat.zero_add] using this
theorem sw_grown {blk : Nat} {d0 d : Array E} {w0 W : World} (R : RowK encE 3 w0 blk 0 d0) (S : SW w0 blk d W) (hs : d.size = d0.size) {i : Nat} {x : E} (hx : d.toList[i]? = some x) (n : Nat) (os : Array Obj) :
    (grow (W.drewN n) os).cell? ⟨blk, i * 3, none⟩ = some (.int .i64 x.1) ∧ (grow (W.drewN n) os).cell? ⟨blk, i * 3 + 1, none⟩ = some (.int .i64 x.2.1) ∧ (grow (W.drewN n) os).cell? ⟨blk, i * 3 + 2, none⟩ = some (.int .i64 x.2.2) :=
  (sw_cells R (S.grown n os) hs hx).1
theorem sw_swap {blk : Nat} {d0 d : Array E} {w0 W : World} (R : RowK encE 3 w0 blk 0 d0) (S : SW w0 blk d W) {i j : Nat} {x y z p q r : Int} (hx : d.toList[i]? = some (x, y, z)) (hy : d.toList[j]? = some (p, q, r)) :
    SW w0 blk (swp d i j) (((((((W.setCell ⟨blk, i * 3, none⟩ (.int .i64 p)).setCell ⟨blk, i * 3 + 1, none⟩ (.int .i64 q)).setCell ⟨blk, i * 3 + 2, none⟩ (.int .i64 r)).setCell ⟨blk, j * 3, none⟩ (.int .i64 x)).setCell ⟨blk, j * 3 + 1, none⟩ (.int .i64 y)).setCell ⟨blk, j * 3 + 2, none⟩ (.int .i64 z)).drew) := by
  obtain ⟨hi, e1⟩ := List.getElem?_eq_some_iff.1 hx
  obtain ⟨hj, e2⟩ := List.getElem?_eq_some_iff.1 hy
  have hi' : i < d.size := by simpa using hi
  have hj' : j < d.size := by simpa using hj
  have h1 : d[i]! = (x, y, z) := by rw [getElem!_pos d i hi']; simpa using e1
  have h2 : d[j]! = (p, q, r) := by rw [getElem!_pos d j hj']; simpa using e2
  have := S.swap R.hk R.hblk i j hi' hj'
  rw [Nat.zero_add, Nat.zero_add, h1, h2] at this
  exact this.drew

theorem merge_left (blk cap : Nat) (d0 : Array E) (w0 : World) (R : RowK encE 3 w0 blk 0 d0) (hsz : d0.size < 4611686018427387904)
    (A v C : List E) (x : E) (d : Array E) (w : World) (a m b : Nat) (hd : d.toList = A ++ (x :: (v ++ C))) (hs : d.size = d0.size) (S : SW w0 blk d w) (ha : a = A.length) (hm : m = a + 1) (hb : b = m + v.length) (hv : SrtE v) :
    Calls Try.prog 161 #[.slice (some ⟨blk, 0, none⟩) d0.size cap, .int .i64 a, .int .i64 m, .int .i64 b, .func (.func 107) #[] #[]] w fun e w' => e = .returned (.tuple #[]) ∧ ∃ (d' : Array E) (z : List E), MergeP [x] v z ∧ d'.toList = A ++ (z ++ C) ∧ d'.size = d0.size ∧ SW w0 blk d' w' := by
  have mixed := Try.sortE.mixed
  have hl := arr_len hd
  simp only [List.length_append, List.length_cons] at hl
  have HE : Hid (a = A.length ∧ m = a + 1 ∧ b = m + v.length ∧ d.toList = A ++ (x :: (v ++ C)) ∧ d.size = d0.size ∧ SrtE v) := ⟨ha, hm, hb, hd, hs, hv⟩
  have S0 : Hid (SW w0 blk d w) := S
  have hma : (m : Int) - (a : Int) = 1 := by omega
  have hmb : m ≤ b := by omega
  have hbd : b ≤ d0.size := by omega
  have ham : a < m := by omega
  have hxa : d.toList[a]? = some x := by rw [hd, ha]; simp
  have HXA := Lib.hid hxa
  clear S hd hs ha hm hb hv hl hxa
  go_enter Try.func161, Try.ntmps161
  go_wp2
  go_loopg [10, 11, 12] b (fun g s10 s11 s12 wr => ∃ (i j : Nat), s10 = .int .i64 i ∧ s11 = .int .i64 j ∧ (∃ v, v = s12) ∧ m ≤ i ∧ i ≤ j ∧ j ≤ b ∧ j - i ≤ g ∧ Hid ((∀ k y, v[k]? = some y → m + k < i → bef y x = true) ∧ (∀ k y, v[k]? = some y → j ≤ m + k → bef y x = false) ∧ SW w0 blk d wr))
  case atStart => exact ⟨m, b, rfl, rfl, ⟨_, rfl⟩, Nat.le_refl _, hmb, Nat.le_refl _, by omega, fun k y h1 h2 => by omega, fun k y h1 h2 => by have := (List.getElem?_eq_some_iff.1 h1).1; have := HE.out; omega, S0.out⟩
  case round =>
    clear S0
    obtain ⟨i, j, rfl, rfl, ⟨v12, rfl⟩, hmi, hij, hjb, hg, HI⟩ := hrel
    by_cases hlt : i < j
    · go_wp2
      obtain ⟨h, hh⟩ : ∃ h : Nat, h = (i + j) / 2 := ⟨_, rfl⟩
      have eh : ((i : Int) + (j : Int)) / 2 = (h : Int) := by omega
      simp only [eh]
      have hih : i ≤ h := by omega
      have hhj : h < j := by omega
      have hhl : h < d0.size := by omega
      have hal : a < d0.size := by omega
      clear eh hh
      obtain ⟨y, hy, hyv⟩ : ∃ y, d.toList[h]? = some y ∧ v[h - m]? = some y := by
        obtain ⟨e1, e2, e3, e4, e5, e6⟩ := HE.out
        refine ⟨v[h - m]'(by omega), ?_, List.getElem?_eq_getElem _⟩
        rw [e4, List.getElem?_append_right (by omega), show h - A.length = (h - m) + 1 by omega, List.getElem?_cons_succ, List.getElem?_append_left (by omega)]
        exact List.getElem?_eq_getElem _
      have hx := HXA.out
      have cy := fun n os => (sw_grown R HI.out.2.2 HE.out.2.2.2.2.1 hy n os).1
      have cy1 := fun n os => (sw_grown R HI.out.2.2 HE.out.2.2.2.2.1 hy n os).2.1
      have cy2 := fun n os => (sw_grown R HI.out.2.2 HE.out.2.2.2.2.1 hy n os).2.2
      have cx := fun n os => (sw_grown R HI.out.2.2 HE.out.2.2.2.2.1 hx n os).1
      have cx1 := fun n os => (sw_grown R HI.out.2.2 HE.out.2.2.2.2.1 hx n os).2.1
      have cx2 := fun n os => (sw_grown R HI.out.2.2 HE.out.2.2.2.2.1 hx n os).2.2
      have HN := Lib.hid (ordC_neg (a := y) (b := x))
      have HYV := Lib.hid hyv
      have HP : Hid (∀ W, Calls Try.prog 107 #[.agg #[.int .i64 y.1, .int .i64 y.2.1, .int .i64 y.2.2], .agg #[.int .i64 x.1, .int .i64 x.2.1, .int .i64 x.2.2]] W fun e w' => e = .returned (.int .i64 (ordC y x)) ∧ Gr W w') := fun W => order_any y x W
      generalize ordC y x = z at HN HP
      obtain ⟨x0, x1, x2⟩ := x
      obtain ⟨y0, y1, y2⟩ := y
      dsimp only at cx cx1 cx2 cy cy1 cy2 HP
      clear hx hy hyv
      go_wp2_with fail
      go_quiet_grown (first | (go_at_call 107; refine Calls.grown_of (HP.out _)))
      have HI2 : Hid ((∀ k y, v[k]? = some y → m + k < i → bef y (x0, x1, x2) = true) ∧ (∀ k y, v[k]? = some y → j ≤ m + k → bef y (x0, x1, x2) = false) ∧ SW w0 blk d (grow (wr.drewN nq) osq)) := ⟨HI.out.1, HI.out.2.1, HI.out.2.2.grown nq osq⟩
      clear cx cx1 cx2 cy cy1 cy2 HP HI
      generalize grow (wr.drewN nq) osq = wu2 at HI2 ⊢
      clear nq osq
      by_cases hneg : z < 0
      · have HL : Hid (bef (y0, y1, y2) (x0, x1, x2) = true) := HN.out.1 hneg
        go_wp2_with fail
        go_roundg (j - (h + 1))
        case measure => omega
        case rel =>
          refine ⟨h + 1, j, by go_num, rfl, ⟨_, rfl⟩, by omega, by omega, hjb, Nat.le_refl _, fun k u hu hk => ?_, HI2.out.2.1, HI2.out.2.2⟩
          rcases (by omega : m + k < i ∨ k = h - m ∨ (k < h - m)) with g1 | g1 | g1
          · exact HI2.out.1 k u hu g1
          · have := HYV.out; rw [g1, this] at hu; cases hu; exact HL.out
          · obtain ⟨a1, a2⟩ := List.getElem?_eq_some_iff.1 hu
            obtain ⟨b1, b2⟩ := List.getElem?_eq_some_iff.1 HYV.out
            have := List.pairwise_iff_getElem.1 HE.out.2.2.2.2.2 k (h - m) a1 b1 g1
            rw [a2, b2] at this
            exact le_lt this HL.out
      · have HL : Hid (bef (y0, y1, y2) (x0, x1, x2) = false) := by
          show _ = _
          cases hb : bef (y0, y1, y2) (x0, x1, x2)
          · rfl
          · exact absurd (HN.out.2 hb) hneg
        have hneg' : decide (z < 0) = false := decide_eq_false hneg
        go_wp2_with fail
        go_roundg (h - i)
        case measure => omega
        case rel =>
          refine ⟨i, h, rfl, rfl, ⟨_, rfl⟩, hmi, hih, by omega, Nat.le_refl _, HI2.out.1, fun k u hu hk => ?_, HI2.out.2.2⟩
          rcases (by omega : j ≤ m + k ∨ k = h - m ∨ (h - m < k)) with g1 | g1 | g1
          · exact HI2.out.2.1 k u hu g1
          · have := HYV.out; rw [g1, this] at hu; cases hu; exact HL.out
          · obtain ⟨a1, a2⟩ := List.getElem?_eq_some_iff.1 hu
            obtain ⟨b1, b2⟩ := List.getElem?_eq_some_iff.1 HYV.out
            have := List.pairwise_iff_getElem.1 HE.out.2.2.2.2.2 (h - m) k b1 a1 g1
            rw [a2, b2] at this
            exact le_of HL.out this
    · obtain rfl : i = j := by omega
      have him1 : ((i : Int) - 1) = ((i - 1 : Nat) : Int) := by omega
      go_wp2
      go_loopg [13] b (fun g s13 wr2 => ∃ (k : Nat) (dk : Array E), s13 = .int .i64 k ∧ a ≤ k ∧ k ≤ i - 1 ∧ i - 1 - k ≤ g ∧ Hid (dk.toList = A ++ (v.take (k - a) ++ (x :: (v.drop (k - a) ++ C))) ∧ dk.size = d0.size ∧ SW w0 blk dk wr2))
      case atStart => exact ⟨a, d, rfl, Nat.le_refl _, by omega, by omega, by rw [HE.out.2.2.2.1, Nat.sub_self]; simp, HE.out.2.2.2.2.1, HI.out.2.2⟩
      case round =>
        obtain ⟨k, dk, rfl, hak, hki, hg2, HK⟩ := hrel
        by_cases hlk : k < i - 1
        · obtain ⟨k1, hk1⟩ : ∃ k1, k1 = k + 1 := ⟨_, rfl⟩
          have ek : (k : Int) + 1 = (k1 : Int) := by omega
          have hk1s : k1 < d0.size := by omega
          have hks : k < d0.size := by omega
          obtain ⟨y, hy⟩ : ∃ y, v[k - a]? = some y := ⟨_, List.getElem?_eq_getElem (by have := HE.out; omega)⟩
          have htk : (v.take (k - a)).length = k - a := by rw [List.length_take]; have := HE.out; have := (List.getElem?_eq_some_iff.1 hy).1; omega
          have hdr : v.drop (k - a) = y :: v.drop (k + 1 - a) := by
            obtain ⟨e1, e2⟩ := List.getElem?_eq_some_iff.1 hy
            rw [List.drop_eq_getElem_cons e1, e2, show k - a + 1 = k + 1 - a by omega]
          have htk1 : v.take (k + 1 - a) = v.take (k - a) ++ [y] := by
            rw [show k + 1 - a = k - a + 1 by omega, List.take_add_one, hy]; rfl
          have hda : dk.toList = (A ++ v.take (k - a)) ++ x :: ([] ++ y :: (v.drop (k + 1 - a) ++ C)) := by rw [HK.out.1, hdr]; simp
          have hPl : (A ++ v.take (k - a)).length = k := by rw [List.length_append, htk]; have := HE.out; omega
          have hdk : dk.toList[k]? = some x := by rw [hda, List.getElem?_append_right (by omega), hPl, Nat.sub_self]; rfl
          have hdk1 : dk.toList[k1]? = some y := by rw [hda, List.getElem?_append_right (by omega), hPl, show k1 - k = 1 by omega]; rfl
          have HNX : Hid ((swp dk k k1).toList = A ++ (v.take (k + 1 - a) ++ (x :: (v.drop (k + 1 - a) ++ C)))) := by
            show _ = _
            rw [swp_list hda hPl.symm (by rw [hPl]; simp; omega), htk1]; simp
          obtain ⟨⟨a0, a1, a2⟩, f0, f1, f2⟩ := sw_cells R HK.out.2.2 HK.out.2.1 hdk
          obtain ⟨⟨b0, b1, b2⟩, g0, g1, g2⟩ := sw_cells R HK.out.2.2 HK.out.2.1 hdk1
          obtain ⟨x0, x1, x2⟩ := x
          obtain ⟨y0, y1, y2⟩ := y
          dsimp only at a0 a1 a2 b0 b1 b2
          have HW := Lib.hid (sw_swap R HK.out.2.2 hdk hdk1)
          have HKS : Hid (dk.size = d0.size ∧ k1 = k + 1) := ⟨HK.out.2.1, hk1⟩
          have hlkz : (k : Int) < ((i - 1 : Nat) : Int) := by omega
          clear hy htk hdr htk1 hda hPl hdk hdk1 HK HI hk1 HXA
          go_wp2_with fail
          go_big_region_o
          all_goals go_wp2
          all_goals go_roundg (i - 1 - (k + 1))
          case measure => omega
          case rel =>
            have hk1 := HKS.out.2
            exact ⟨k + 1, swp dk k k1, by first | go_num | (congr 1; omega), by omega, by omega, Nat.le_refl _, HNX.out, by rw [size_swp]; exact HKS.out.1, HW.out⟩
        · have hke : k = i - 1 := by omega
          have HF : Hid (∃ (d' : Array E) (z : List E), MergeP [x] v z ∧ d'.toList = A ++ (z ++ C) ∧ d'.size = d0.size ∧ SW w0 blk d' wr) := by
            obtain ⟨e1, e2, e3, e4, e5, e6⟩ := HE.out
            refine ⟨dk, v.take (k - a) ++ x :: v.drop (k - a), ?_, by rw [HK.out.1]; simp, HK.out.2.1, HK.out.2.2⟩
            have := MergeP.one_left (x := x) (v1 := v.take (k - a)) (v2 := v.drop (k - a)) (by rw [List.take_append_drop]; exact e6) (fun y hy => ?_) (fun y hy => ?_)
            · rwa [List.take_append_drop] at this
            · obtain ⟨t, ht, e⟩ := List.getElem_of_mem hy
              rw [List.length_take] at ht
              exact HI.out.1 t y (by rw [← e, List.getElem_take]; exact List.getElem?_eq_getElem _) (by omega)
            · obtain ⟨t, ht, e⟩ := List.getElem_of_mem hy
              rw [List.length_drop] at ht
              exact HI.out.2.1 (k - a + t) y (by rw [← e, List.getElem_drop]; exact List.getElem?_eq_getElem _) (by omega)
          have hlkz : ¬ (k : Int) < ((i - 1 : Nat) : Int) := by omega
          clear HK HI HXA HE
          go_wp2
          (try simp only [Exit.inBlock, Exit.then])
          refine bodyPost_ret (results_none rfl _ _ _) rfl ?_
          exact ⟨rfl, HF.out⟩
end Go.Proofs.Ytmbogobebllheaa
namespace Go.Proofs.Ytmbogobebllheaa
open Go.RowKit GM Go.Sort Go.Lib
set_option linter.unusedSimpArgs false
set_option linter.unusedVariables false
set_option maxHeartbeats 4000000
set_option maxRecDepth 100000

theorem swp_list' {P Q S : List E} {x y : E} {d : Array E} {i j : Nat} (h : d.toList = P ++ x :: (Q ++ y :: S)) (hi : i = P.length) (hj : j = P.length + 1 + Q.length) : (swp d j i).toList = P ++ y :: (Q ++ x :: S) := by
  have hd : d = (P ++ x :: (Q ++ y :: S)).toArray := by rw [← h]
  subst hd hi hj
  have h1 : (P ++ x :: (Q ++ y :: S))[P.length + 1 + Q.length]? = some y := by
    rw [List.getElem?_append_right (by omega), show P.length + 1 + Q.length - P.length = Q.length + 1 by omega, List.getElem?_cons_succ, List.getElem?_append_right (by omega)]
    simp
  have h0 : (P ++ x :: (Q ++ y :: S))[P.length]? = some x := by simp
  unfold swp
  simp only [Array.toList_setIfInBounds, List.getElem!_toArray, List.getElem!_eq_getElem?_getD, h0, h1, Option.getD_some]
  rw [List.set_append_right _ _ (by omega), show P.length + 1 + Q.length - P.length = Q.length + 1 by omega, List.set_cons_succ, List.set_append_right _ _ (by omega), Nat.sub_self, List.set_cons_zero, List.set_append_right _ _ (by omega), Nat.sub_self, List.set_cons_zero]

theorem merge_right (blk cap : Nat) (d0 : Array E) (w0 : World) (R : RowK encE 3 w0 blk 0 d0) (hsz : d0.size < 4611686018427387904)
    (A u C : List E) (x : E) (d : Array E) (w : World) (a m b : Nat) (hd : d.toList = A ++ (u ++ (x :: C))) (hs : d.size = d0.size) (S : SW w0 blk d w) (ha : a = A.length) (hm : m = a + u.length) (hb : b = m + 1) (hu : SrtE u) (hu1 : 1 < u.length) :
    Calls Try.prog 161 #[.slice (some ⟨blk, 0, none⟩) d0.size cap, .int .i64 a, .int .i64 m, .int .i64 b, .func (.func 107) #[] #[]] w fun e w' => e = .returned (.tuple #[]) ∧ ∃ (d' : Array E) (z : List E), MergeP u [x] z ∧ d'.toList = A ++ (z ++ C) ∧ d'.size = d0.size ∧ SW w0 blk d' w' := by
  have mixed := Try.sortE.mixed
  have hl := arr_len hd
  simp only [List.length_append, List.length_cons] at hl
  have HE : Hid (a = A.length ∧ m = a + u.length ∧ b = m + 1 ∧ d.toList = A ++ (u ++ (x :: C)) ∧ d.size = d0.size ∧ SrtE u) := ⟨ha, hm, hb, hd, hs, hu⟩
  have S0 : Hid (SW w0 blk d w) := S
  have hma : ((m : Int) - (a : Int) == 1) = false := by rw [beq_eq_false_iff_ne]; omega
  have hma' : ((m : Int) - (a : Int) != 1) = true := by rw [bne_iff_ne]; omega
  have hbm : (b : Int) - (m : Int) = 1 := by omega
  have hmb : m < b := by omega
  have hbd : b ≤ d0.size := by omega
  have ham : a ≤ m := by omega
  have hxm : d.toList[m]? = some x := by rw [hd, hm, ha, List.getElem?_append_right (by omega), Nat.add_sub_cancel_left, List.getElem?_append_right (by omega)]; simp
  have HXA := Lib.hid hxm
  clear S hd hs ha hm hb hu hl hxm hu1
  go_enter Try.func161, Try.ntmps161
  go_wp2
  go_loopg [14, 15, 16] m (fun g s14 s15 s16 wr => ∃ (i j : Nat), s14 = .int .i64 i ∧ s15 = .int .i64 j ∧ (∃ v, v = s16) ∧ a ≤ i ∧ i ≤ j ∧ j ≤ m ∧ j - i ≤ g ∧ Hid ((∀ k y, u[k]? = some y → a + k < i → bef x y = false) ∧ (∀ k y, u[k]? = some y → j ≤ a + k → bef x y = true) ∧ SW w0 blk d wr))
  case atStart => exact ⟨a, m, rfl, rfl, ⟨_, rfl⟩, Nat.le_refl _, ham, Nat.le_refl _, by omega, fun k y h1 h2 => by omega, fun k y h1 h2 => by have := (List.getElem?_eq_some_iff.1 h1).1; have := HE.out; omega, S0.out⟩
  case round =>
    clear S0
    obtain ⟨i, j, rfl, rfl, ⟨v12, rfl⟩, hmi, hij, hjb, hg, HI⟩ := hrel
    by_cases hlt : i < j
    · go_wp2
      obtain ⟨h, hh⟩ : ∃ h : Nat, h = (i + j) / 2 := ⟨_, rfl⟩
      have eh : ((i : Int) + (j : Int)) / 2 = (h : Int) := by omega
      simp only [eh]
      have hih : i ≤ h := by omega
      have hhj : h < j := by omega
      have hhl : h < d0.size := by omega
      have hal : m < d0.size := by omega
      clear eh hh
      obtain ⟨y, hy, hyv⟩ : ∃ y, d.toList[h]? = some y ∧ u[h - a]? = some y := by
        obtain ⟨e1, e2, e3, e4, e5, e6⟩ := HE.out
        refine ⟨u[h - a]'(by omega), ?_, List.getElem?_eq_getElem _⟩
        rw [e4, List.getElem?_append_right (by omega), show h - A.length = h - a by omega, List.getElem?_append_left (by omega)]
        exact List.getElem?_eq_getElem _
      have hx := HXA.out
      have cy := fun n os => (sw_grown R HI.out.2.2 HE.out.2.2.2.2.1 hy n os).1
      have cy1 := fun n os => (sw_grown R HI.out.2.2 HE.out.2.2.2.2.1 hy n os).2.1
      have cy2 := fun n os => (sw_grown R HI.out.2.2 HE.out.2.2.2.2.1 hy n os).2.2
      have cx := fun n os => (sw_grown R HI.out.2.2 HE.out.2.2.2.2.1 hx n os).1
      have cx1 := fun n os => (sw_grown R HI.out.2.2 HE.out.2.2.2.2.1 hx n os).2.1
      have cx2 := fun n os => (sw_grown R HI.out.2.2 HE.out.2.2.2.2.1 hx n os).2.2
      have HN := Lib.hid (ordC_neg (a := x) (b := y))
      have HYV := Lib.hid hyv
      have HP : Hid (∀ W, Calls Try.prog 107 #[.agg #[.int .i64 x.1, .int .i64 x.2.1, .int .i64 x.2.2], .agg #[.int .i64 y.1, .int .i64 y.2.1, .int .i64 y.2.2]] W fun e w' => e = .returned (.int .i64 (ordC x y)) ∧ Gr W w') := fun W => order_any x y W
      generalize ordC x y = z at HN HP
      obtain ⟨x0, x1, x2⟩ := x
      obtain ⟨y0, y1, y2⟩ := y
      dsimp only at cx cx1 cx2 cy cy1 cy2 HP
      clear hx hy hyv
      go_wp2_with fail
      go_quiet_grown (first | (go_at_call 107; refine Calls.grown_of (HP.out _)))
      have HI2 : Hid ((∀ k y, u[k]? = some y → a + k < i → bef (x0, x1, x2) y = false) ∧ (∀ k y, u[k]? = some y → j ≤ a + k → bef (x0, x1, x2) y = true) ∧ SW w0 blk d (grow (wr.drewN nq) osq)) := ⟨HI.out.1, HI.out.2.1, HI.out.2.2.grown nq osq⟩
      clear cx cx1 cx2 cy cy1 cy2 HP HI
      generalize grow (wr.drewN nq) osq = wu2 at HI2 ⊢
      clear nq osq
      by_cases hneg : z < 0
      · have HL : Hid (bef (x0, x1, x2) (y0, y1, y2) = true) := HN.out.1 hneg
        have hn1 : decide (z < 0) = true := decide_eq_true hneg
        simp only [hn1, Bool.not_true]
        go_wp2_with fail
        go_roundg (h - i)
        case measure => omega
        case rel =>
          refine ⟨i, h, rfl, rfl, ⟨_, rfl⟩, hmi, hih, by omega, Nat.le_refl _, HI2.out.1, fun k u2 hu hk => ?_, HI2.out.2.2⟩
          rcases (by omega : j ≤ a + k ∨ k = h - a ∨ (h - a < k)) with g1 | g1 | g1
          · exact HI2.out.2.1 k u2 hu g1
          · have := HYV.out; rw [g1, this] at hu; cases hu; exact HL.out
          · obtain ⟨a1, a2⟩ := List.getElem?_eq_some_iff.1 hu
            obtain ⟨b1, b2⟩ := List.getElem?_eq_some_iff.1 HYV.out
            have := List.pairwise_iff_getElem.1 HE.out.2.2.2.2.2 (h - a) k b1 a1 g1
            rw [a2, b2] at this
            exact lt_le HL.out this
      · have HL : Hid (bef (x0, x1, x2) (y0, y1, y2) = false) := by
          show _ = _
          cases hb : bef (x0, x1, x2) (y0, y1, y2)
          · rfl
          · exact absurd (HN.out.2 hb) hneg
        have hneg' : decide (z < 0) = false := decide_eq_false hneg; simp only [hneg', Bool.not_false]
        go_wp2_with fail
        go_roundg (j - (h + 1))
        case measure => omega
        case rel =>
          refine ⟨h + 1, j, by go_num, rfl, ⟨_, rfl⟩, by omega, by omega, hjb, Nat.le_refl _, fun k u2 hu hk => ?_, HI2.out.2.1, HI2.out.2.2⟩
          rcases (by omega : a + k < i ∨ k = h - a ∨ (k < h - a)) with g1 | g1 | g1
          · exact HI2.out.1 k u2 hu g1
          · have := HYV.out; rw [g1, this] at hu; cases hu; exact HL.out
          · obtain ⟨a1, a2⟩ := List.getElem?_eq_some_iff.1 hu
            obtain ⟨b1, b2⟩ := List.getElem?_eq_some_iff.1 HYV.out
            have := List.pairwise_iff_getElem.1 HE.out.2.2.2.2.2 k (h - a) a1 b1 g1
            rw [a2, b2] at this
            exact le_of this HL.out
    · obtain rfl : i = j := by omega
      go_wp2
      go_loopg [17] b (fun g s17 wr2 => ∃ (k : Nat) (dk : Array E), s17 = .int .i64 k ∧ i ≤ k ∧ k ≤ m ∧ k - i ≤ g ∧ Hid (dk.toList = A ++ (u.take (k - a) ++ (x :: (u.drop (k - a) ++ C))) ∧ dk.size = d0.size ∧ SW w0 blk dk wr2))
      case atStart => exact ⟨m, d, rfl, by omega, Nat.le_refl _, by omega, by obtain ⟨e1, e2, e3, e4, e5, e6⟩ := HE.out; rw [e4, List.take_of_length_le (by omega), List.drop_of_length_le (by omega)]; simp, HE.out.2.2.2.2.1, HI.out.2.2⟩
      case round =>
        obtain ⟨k, dk, rfl, hik, hkm, hg2, HK⟩ := hrel
        by_cases hlk : i < k
        · obtain ⟨k1, hk1⟩ : ∃ k1, k = k1 + 1 := ⟨k - 1, by omega⟩
          have ek : (k : Int) - 1 = (k1 : Int) := by omega
          have hk1s : k1 < d0.size := by omega
          have hks : k < d0.size := by omega
          obtain ⟨y, hy⟩ : ∃ y, u[k1 - a]? = some y := ⟨_, List.getElem?_eq_getElem (by have := HE.out; omega)⟩
          have htk : (u.take (k1 - a)).length = k1 - a := by rw [List.length_take]; have := HE.out; have := (List.getElem?_eq_some_iff.1 hy).1; omega
          have hdr : u.drop (k1 - a) = y :: u.drop (k - a) := by
            obtain ⟨e1, e2⟩ := List.getElem?_eq_some_iff.1 hy
            rw [List.drop_eq_getElem_cons e1, e2, show k1 - a + 1 = k - a by omega]
          have htk1 : u.take (k - a) = u.take (k1 - a) ++ [y] := by
            rw [show k - a = k1 - a + 1 by omega, List.take_add_one, hy]; rfl
          have hda : dk.toList = (A ++ u.take (k1 - a)) ++ y :: ([] ++ x :: (u.drop (k - a) ++ C)) := by rw [HK.out.1, htk1]; simp
          have hPl : (A ++ u.take (k1 - a)).length = k1 := by rw [List.length_append, htk]; have := HE.out; omega
          have hdk : dk.toList[k1]? = some y := by rw [hda, List.getElem?_append_right (by omega), hPl, Nat.sub_self]; rfl
          have hdk1 : dk.toList[k]? = some x := by rw [hda, List.getElem?_append_right (by omega), hPl, show k - k1 = 1 by omega]; rfl
          have HNX : Hid ((swp dk k k1).toList = A ++ (u.take (k1 - a) ++ (x :: (u.drop (k1 - a) ++ C)))) := by
            show _ = _
            rw [swp_list' hda hPl.symm (by rw [hPl]; simp; omega), hdr]; simp
          obtain ⟨⟨a0, a1, a2⟩, f0, f1, f2⟩ := sw_cells R HK.out.2.2 HK.out.2.1 hdk
          obtain ⟨⟨b0, b1, b2⟩, g0, g1, g2⟩ := sw_cells R HK.out.2.2 HK.out.2.1 hdk1
          obtain ⟨x0, x1, x2⟩ := x
          obtain ⟨y0, y1, y2⟩ := y
          dsimp only at a0 a1 a2 b0 b1 b2
          have HW := Lib.hid (sw_swap R HK.out.2.2 hdk1 hdk)
          have HKS : Hid (dk.size = d0.size ∧ k = k1 + 1) := ⟨HK.out.2.1, hk1⟩
          have hlkz : (i : Int) < (k : Int) := by omega
          have hk1p : 1 ≤ k := by omega
          clear hy htk hdr htk1 hda hPl hdk hdk1 HK HI hk1 HXA
          go_wp2_with fail
          go_big_region_o
          all_goals go_wp2
          all_goals go_roundg (k1 - i)
          case measure => have := HKS.out.2; omega
          case rel =>
            have hk1 := HKS.out.2
            exact ⟨k1, swp dk k k1, by first | go_num | (congr 1; omega), by omega, by omega, Nat.le_refl _, HNX.out, by rw [size_swp]; exact HKS.out.1, HW.out⟩
        · have hke : k = i := by omega
          have HF : Hid (∃ (d' : Array E) (z : List E), MergeP u [x] z ∧ d'.toList = A ++ (z ++ C) ∧ d'.size = d0.size ∧ SW w0 blk d' wr) := by
            obtain ⟨e1, e2, e3, e4, e5, e6⟩ := HE.out
            refine ⟨dk, u.take (k - a) ++ x :: u.drop (k - a), ?_, by rw [HK.out.1]; simp, HK.out.2.1, HK.out.2.2⟩
            have := MergeP.one_right (x := x) (u1 := u.take (k - a)) (u2 := u.drop (k - a)) (by rw [List.take_append_drop]; exact e6) (fun y hy => ?_) (fun y hy => ?_)
            · rwa [List.take_append_drop] at this
            · obtain ⟨t, ht, e⟩ := List.getElem_of_mem hy
              rw [List.length_take] at ht
              exact HI.out.1 t y (by rw [← e, List.getElem_take]; exact List.getElem?_eq_getElem _) (by omega)
            · obtain ⟨t, ht, e⟩ := List.getElem_of_mem hy
              rw [List.length_drop] at ht
              exact HI.out.2.1 (k - a + t) y (by rw [← e, List.getElem_drop]; exact List.getElem?_eq_getElem _) (by omega)
          have hlkz : ¬ (i : Int) < (k : Int) := by omega
          clear HK HI HXA HE
          go_wp2
          (try simp only [Exit.inBlock, Exit.then])
          refine bodyPost_ret (results_none rfl _ _ _) rfl ?_
          exact ⟨rfl, HF.out⟩
end Go.Proofs.Ytmbogobebllheaa
