/-
  The walk of rotate at edges; what swapping and rotating do to the row as a list.
-/
import Derived.Test.YtiodpgannelgpaaGrSw
namespace Go.Proofs.Ytiodpgannelgpaa
open Go.RowKit GM Go.Sort Go.Lib
set_option linter.unusedSimpArgs false
set_option linter.unusedVariables false
set_option maxHeartbeats 4000000
set_option maxRecDepth 100000

theorem swp_list {P Q S : List E} {x y : E} {d : Array E} {i j : Nat} (h : d.toList = P ++ x :: (Q ++ y :: S)) (hi : i = P.length) (hj : j = P.length + 1 + Q.length) : (swp d i j).toList = P ++ y :: (Q ++ x :: S) := by
  have hd : d = (P ++ x :: (Q ++ y :: S)).toArray := by rw [← h]
  subst hd hi hj
  have h1 : (P ++ x :: (Q ++ y :: S))[P.length + 1 + Q.length]? = some y := by
    rw [List.getElem?_append_right (by omega), show P.length + 1 + Q.length - P.length = Q.length + 1 by omega, List.getElem?_cons_succ, List.getElem?_append_right (by omega)]
    simp
  have h0 : (P ++ x :: (Q ++ y :: S))[P.length]? = some x := by simp
  unfold swp
  simp only [Array.toList_setIfInBounds, List.getElem!_toArray, List.getElem!_eq_getElem?_getD, h0, h1, Option.getD_some]
  rw [List.set_append_right _ _ (by omega), Nat.sub_self, List.set_cons_zero, List.set_append_right _ _ (by omega), show P.length + 1 + Q.length - P.length = Q.length + 1 by omega, List.set_cons_succ, List.set_append_right _ _ (by omega), Nat.sub_self, List.set_cons_zero]
theorem swR_list : ∀ (n : Nat) {A u M v C : List E} {d : Array E} {a b : Nat}, d.toList = A ++ (u ++ (M ++ (v ++ C))) → a = A.length → u.length = n → v.length = n → b = a + n + M.length → (swR a b n d).toList = A ++ (v ++ (M ++ (u ++ C)))
  | 0, A, u, M, v, C, d, a, b, h, _, hu, hv, _ => by
    have e1 := List.length_eq_zero_iff.1 hu
    have e2 := List.length_eq_zero_iff.1 hv
    subst e1 e2
    exact h
  | n + 1, A, u, M, v, C, d, a, b, h, ha, hu, hv, hb => by
    obtain ⟨u', x, rfl⟩ : ∃ u' x, u = u' ++ [x] := ⟨u.dropLast, u.getLast (by intro e; subst e; cases hu), (List.dropLast_concat_getLast _).symm⟩
    obtain ⟨v', y, rfl⟩ : ∃ v' y, v = v' ++ [y] := ⟨v.dropLast, v.getLast (by intro e; subst e; cases hv), (List.dropLast_concat_getLast _).symm⟩
    simp only [List.length_append, List.length_cons, List.length_nil] at hu hv
    have ih := swR_list n (A := A) (u := u') (M := x :: M) (v := v') (C := y :: C) (d := d) (a := a) (b := b) (by rw [h]; simp) ha (by omega) (by omega) (by simp; omega)
    have := swp_list (P := A ++ v') (Q := M ++ u') (S := C) (x := x) (y := y) (d := swR a b n d) (i := a + n) (j := b + n) (by rw [ih]; simp) (by simp; omega) (by simp; omega)
    show (swp (swR a b n d) (a + n) (b + n)).toList = _
    rw [this]; simp
theorem arr_len {d : Array E} {l : List E} (h : d.toList = l) : d.size = l.length := by rw [← h]; simp
theorem swapRange_l (blk cap : Nat) (cv : Value) (d0 : Array E) (w0 : World) (R : RowK encE 3 w0 blk 0 d0) (hsz : d0.size < 4611686018427387904)
    (A u M v C : List E) (d : Array E) (w : World) (ia ib n : Int) (hd : d.toList = A ++ (u ++ (M ++ (v ++ C)))) (hs : d.size = d0.size) (S : SW w0 blk d w) (ha : ia = A.length) (hb : ib = (A.length + u.length + M.length : Nat)) (hn : n = u.length) (hv : v.length = u.length) :
    Calls Try.prog 136 #[.slice (some ⟨blk, 0, none⟩) d0.size cap, .int .i64 ia, .int .i64 ib, .int .i64 n, cv] w fun e w' => e = .returned (.tuple #[]) ∧ ∃ d' : Array E, d'.toList = A ++ (v ++ (M ++ (u ++ C))) ∧ d'.size = d0.size ∧ SW w0 blk d' w' := by
  subst ha hb hn
  have hl := arr_len hd
  simp only [List.length_append] at hl
  rw [← hs]
  refine (swapRange_any blk cap A.length (A.length + u.length + M.length) u.length cv d0 d w0 w R hs.symm S (by omega) (by omega) (by omega)).mono ?_
  rintro e w' ⟨rfl, h⟩
  exact ⟨rfl, _, swR_list u.length hd rfl rfl hv rfl, by rw [swR_size], h⟩

theorem rotate_any (blk cap : Nat) (cv : Value) (d0 : Array E) (w0 : World) (R : RowK encE 3 w0 blk 0 d0) (hsz : d0.size < 4611686018427387904)
    (A u v C : List E) (d : Array E) (w : World) (a m b : Nat) (hd : d.toList = A ++ (u ++ (v ++ C))) (hs : d.size = d0.size) (S : SW w0 blk d w) (ha : a = A.length) (hm : m = a + u.length) (hb : b = m + v.length) (hu : 0 < u.length) (hv : 0 < v.length) :
    Calls Try.prog 130 #[.slice (some ⟨blk, 0, none⟩) d0.size cap, .int .i64 a, .int .i64 m, .int .i64 b, cv] w fun e w' => e = .returned (.tuple #[]) ∧ ∃ d' : Array E, d'.toList = A ++ (v ++ (u ++ C)) ∧ d'.size = d0.size ∧ SW w0 blk d' w' := by
  have HSW := Lib.hid (swapRange_l blk cap cv d0 w0 R hsz)
  have hl := arr_len hd
  simp only [List.length_append] at hl
  have S0 : Hid (d.toList = A ++ (u ++ (v ++ C)) ∧ d.size = d0.size ∧ SW w0 blk d w) := ⟨hd, hs, S⟩
  obtain ⟨T, hT⟩ : ∃ T, T = A ++ (v ++ (u ++ C)) := ⟨_, rfl⟩
  rw [← hT]
  have hml : m + v.length ≤ d0.size := by omega
  have ham : a ≤ m := by omega
  have HT := Lib.hid hT
  have HE : Hid (a = A.length ∧ m = a + u.length ∧ b = m + v.length) := ⟨ha, hm, hb⟩
  have hmb : m ≤ b := by omega
  have hbd : b ≤ d0.size := by omega
  clear S hd hs hT ha hm hb hl hml
  go_enter Try.func130, Try.ntmps130
  go_wp2
  go_loopg [10, 11] (m + m + b + b) (fun kx vi vj wr => ∃ (i j : Nat) (A' u' v' C' : List E) (dk : Array E), vi = .int .i64 i ∧ vj = .int .i64 j ∧ 0 < i ∧ 0 < j ∧ i ≤ m ∧ m + j ≤ d0.size ∧ i + j ≤ kx ∧
    Hid (dk.toList = A' ++ (u' ++ (v' ++ C')) ∧ dk.size = d0.size ∧ SW w0 blk dk wr ∧ A'.length + i = m ∧ u'.length = i ∧ v'.length = j ∧ T = A' ++ (v' ++ (u' ++ C'))))
  case atStart => 
    obtain ⟨h1, h2, h3⟩ := HE.out
    exact ⟨u.length, v.length, A, u, v, C, d, by congr 1; omega, by congr 1; omega, hu, hv, by omega, by omega, by omega, S0.out.1, S0.out.2.1, S0.out.2.2, by omega, rfl, rfl, HT.out⟩
  case round =>
    clear S0 HT
    obtain ⟨i, j, A', u', v', C', dk, rfl, rfl, hi, hj, him, hmj, hkx, HI⟩ := hrel
    rcases (by omega : i = j ∨ j < i ∨ i < j) with hij | hij | hij
    · subst hij
      have HS1 : Hid (∀ ia ib n, ia = (m : Int) - (i : Int) → ib = (m : Int) → n = (i : Int) → Calls Try.prog 136 #[.slice (some ⟨blk, 0, none⟩) d0.size cap, .int .i64 ia, .int .i64 ib, .int .i64 n, cv] wr fun e w' => e = .returned (.tuple #[]) ∧ ∃ d' : Array E, d'.toList = T ∧ d'.size = d0.size ∧ SW w0 blk d' w') := fun ia ib n h1 h2 h3 => by
        obtain ⟨q1, q2, q3, q4, q5, q6, q7⟩ := HI.out
        have := HSW.out A' u' [] v' C' dk wr ia ib n q1 q2 q3 (by omega) (by simp; omega) (by omega) (by omega)
        rw [q7]; exact this
      clear HI HSW
      go_wp2_with (go_at_call 136; refine (HS1.out _ _ _ (by go_num) (by go_num) (by go_num)).mono ?_; rintro e w' ⟨rfl, hx⟩; have HX := Lib.hid hx; clear hx)
      go_end0
      exact ⟨rfl, HX.out⟩
    · have HS1 : Hid (∀ ia ib n, ia = (m : Int) - (i : Int) → ib = (m : Int) → n = (j : Int) → Calls Try.prog 136 #[.slice (some ⟨blk, 0, none⟩) d0.size cap, .int .i64 ia, .int .i64 ib, .int .i64 n, cv] wr fun e w' => e = .returned (.tuple #[]) ∧ ∃ (A1 u1 v1 C1 : List E) (d' : Array E), d'.toList = A1 ++ (u1 ++ (v1 ++ C1)) ∧ d'.size = d0.size ∧ SW w0 blk d' w' ∧ A1.length + (i - j) = m ∧ u1.length = i - j ∧ v1.length = j ∧ T = A1 ++ (v1 ++ (u1 ++ C1))) := fun ia ib n h1 h2 h3 => by
        obtain ⟨q1, q2, q3, q4, q5, q6, q7⟩ := HI.out
        obtain ⟨p, q, rfl, hp⟩ : ∃ p q, u' = p ++ q ∧ p.length = j := ⟨u'.take j, u'.drop j, (List.take_append_drop _ _).symm, by rw [List.length_take]; omega⟩
        rw [List.length_append] at q5
        refine (HSW.out A' p q v' C' dk wr ia ib n (by rw [q1]; simp) q2 q3 (by omega) (by omega) (by omega) (by omega)).mono ?_
        rintro e w' ⟨rfl, d', r1, r2, r3⟩
        exact ⟨rfl, A' ++ v', q, p, C', d', by rw [r1]; simp, r2, r3, by rw [List.length_append]; omega, by omega, hp, by rw [q7]; simp⟩
      clear HI HSW
      have hne : ((i : Int) == (j : Int)) = false := by rw [beq_eq_false_iff_ne]; omega
      have hne' : ((i : Int) != (j : Int)) = true := by rw [bne_iff_ne]; omega
      have hgt : (j : Int) < (i : Int) := by omega
      go_wp2_with (go_at_call 136; refine (HS1.out _ _ _ (by go_num) (by go_num) (by go_num)).mono ?_; rintro e w' ⟨rfl, hx⟩; have HX := Lib.hid hx; clear hx)
      go_roundg (i - j + j)
      case measure => omega
      case rel =>
        obtain ⟨A1, u1, v1, C1, d', r⟩ := HX.out
        exact ⟨i - j, j, A1, u1, v1, C1, d', by go_num, rfl, by omega, hj, by omega, hmj, Nat.le_refl _, r⟩
    · have HS1 : Hid (∀ ia ib n, ia = (m : Int) - (i : Int) → ib = (m : Int) + (j : Int) - (i : Int) → n = (i : Int) → Calls Try.prog 136 #[.slice (some ⟨blk, 0, none⟩) d0.size cap, .int .i64 ia, .int .i64 ib, .int .i64 n, cv] wr fun e w' => e = .returned (.tuple #[]) ∧ ∃ (A1 u1 v1 C1 : List E) (d' : Array E), d'.toList = A1 ++ (u1 ++ (v1 ++ C1)) ∧ d'.size = d0.size ∧ SW w0 blk d' w' ∧ A1.length + i = m ∧ u1.length = i ∧ v1.length = j - i ∧ T = A1 ++ (v1 ++ (u1 ++ C1))) := fun ia ib n h1 h2 h3 => by
        obtain ⟨q1, q2, q3, q4, q5, q6, q7⟩ := HI.out
        obtain ⟨p, q, rfl, hp⟩ : ∃ p q, v' = p ++ q ∧ p.length = j - i := ⟨v'.take (j - i), v'.drop (j - i), (List.take_append_drop _ _).symm, by rw [List.length_take]; omega⟩
        rw [List.length_append] at q6
        refine (HSW.out A' u' p q C' dk wr ia ib n (by rw [q1]; simp) q2 q3 (by omega) (by omega) (by omega) (by omega)).mono ?_
        rintro e w' ⟨rfl, d', r1, r2, r3⟩
        exact ⟨rfl, A', q, p, u' ++ C', d', by rw [r1], r2, r3, q4, by omega, hp, by rw [q7]; simp⟩
      clear HI HSW
      have hne : ((i : Int) == (j : Int)) = false := by rw [beq_eq_false_iff_ne]; omega
      have hne' : ((i : Int) != (j : Int)) = true := by rw [bne_iff_ne]; omega
      have hgt : ¬ (j : Int) < (i : Int) := by omega
      go_wp2_with (go_at_call 136; refine (HS1.out _ _ _ (by go_num) (by go_num) (by go_num)).mono ?_; rintro e w' ⟨rfl, hx⟩; have HX := Lib.hid hx; clear hx)
      go_roundg (i + (j - i))
      case measure => omega
      case rel =>
        obtain ⟨A1, u1, v1, C1, d', r⟩ := HX.out
        exact ⟨i, j - i, A1, u1, v1, C1, d', rfl, by go_num, hi, by omega, him, by omega, Nat.le_refl _, r⟩
end Go.Proofs.Ytiodpgannelgpaa
