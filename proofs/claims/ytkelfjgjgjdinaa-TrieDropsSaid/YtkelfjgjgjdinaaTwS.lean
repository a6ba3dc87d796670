/-
  The walk of the law TrieDrops.
-/
import Derived.Test.YtkelfjgjgjdinaaTwR
namespace Go.Proofs.Ytkelfjgjgjdinaa
open Go.RowKit
set_option linter.unusedSimpArgs false
set_option linter.unusedVariables false
set_option maxHeartbeats 2000000
set_option maxRecDepth 100000

theorem drops_big (l : List En) (v : Value) (a : Nat) (n x : Int) (w : World) (hl : 120 < l.length) (hr : RdE w v l) :
    Calls Try.prog 13 #[v, .agg #[.int .u32 a, .int .i64 n], .int .i64 x] w fun e w' => e = .returned (.bool true) ∧ Below w.heap.size w w' := by
  obtain ⟨ad, cap, rfl, _⟩ := hr
  go_enter Try.func13, Try.ntmps13
  go_wp2_with (go_at_call 41; refine (awake6_any _).mono ?_; rintro e w1 ⟨rfl, hb⟩; have B1 := Lib.hid hb; clear hb)
  go_ret
  exact ⟨rfl, below_then (below_alloc _ _) B1.out⟩
theorem drops_bad (l : List En) (v : Value) (a : Nat) (n x : Int) (w : World) (hl : l.length ≤ 120) (hr : RdE w v l) (hf : Fit l) (hV : allV l = false) :
    Calls Try.prog 13 #[v, .agg #[.int .u32 a, .int .i64 n], .int .i64 x] w fun e w' => e = .returned (.bool true) ∧ Below w.heap.size w w' := by
  have HO := Lib.hid (of_no l v _ (by omega) hf (hr.below (below_alloc w (.cells #[.int .u32 (a : Int), .int .i64 n] 28))) hV)
  obtain ⟨ad, cap, rfl, _⟩ := hr
  clear hV hf
  go_enter Try.func13, Try.ntmps13
  go_wp2_with (first | (go_at_call 50; refine HO.out.mono ?_; rintro e w1 ⟨rfl, hb1⟩; have B1 := Lib.hid hb1; clear hb1) | (go_at_call 41; refine (awake6_any _).mono ?_; rintro e w2 ⟨rfl, hb2⟩; have B2 := Lib.hid hb2; clear hb2))
  go_ret
  exact ⟨rfl, below_then (below_then (below_alloc _ _) B1.out) B2.out⟩
/-- a put that changes nothing that the law looks at: an invalid prefix, or one that is there -/
theorem drops_old (l : List En) (v : Value) (a : Nat) (ha : a < 4294967296) (n : Int) (hn : I64 n) (x : Int) (w : World) (hl : l.length ≤ 120) (hr : RdE w v l) (hf : Fit l) (hV : allV l = true) (ho : V (a, n) = false ∨ hasE (foldE l) (a, n) = true) :
    Calls Try.prog 13 #[v, .agg #[.int .u32 a, .int .i64 n], .int .i64 x] w fun e w' => e = .returned (.bool true) ∧ Below w.heap.size w w' := by
  have HO := Lib.hid (of_yes l v _ (by omega) hf (hr.below (below_alloc w (.cells #[.int .u32 (a : Int), .int .i64 n] 28))) hV)
  have hlen : (foldE l).length ≤ 200 := by have := foldE_take_len l l.length; rw [List.take_length] at this; exact Nat.le_trans this (by omega)
  have HLen := Lib.hid hlen
  have HP : Hid (∀ (g : Nat) gs W, TrieR W (.pointer (some ⟨g, 0, none⟩)) (foldE l) gs → (∀ k ∈ gs, w.heap.size + 1 ≤ k) → Calls Try.prog 55 #[.pointer (some ⟨g, 0, none⟩), .agg #[.int .u32 a, .int .i64 n], .int .i64 x] W fun en w' => ∃ e2 : Int, en = .returned (.tuple #[.bool false, .int .i64 e2]) ∧ Kp gs W w') := fun g gs W hT hg => by
    rcases ho with h | h
    · exact (tput_bad g (a, n) ha hn x h W).mono fun en w' ⟨h1, h2⟩ => ⟨1, h1, Kp.of_below h2⟩
    · cases hv : V (a, n)
      · exact (tput_bad g (a, n) ha hn x hv W).mono fun en w' ⟨h1, h2⟩ => ⟨1, h1, Kp.of_below h2⟩
      · exact (tput_any _ (foldE l) gs W ((a, n), x) ⟨ha, hv⟩ hT (by omega)).mono fun en w' ⟨gs', h1, h2, h3, h4⟩ => ⟨0, by rw [h1]; dsimp only; rw [h]; rfl, h4⟩
  obtain ⟨ad, cap, rfl, _⟩ := hr
  clear hV hf ho hlen
  go_enter Try.func13, Try.ntmps13
  go_wp2_with fail
  refine HO.out.mono ?_
  rintro e w1 ⟨t, gs, rfl, hT, hg, hb1⟩
  obtain ⟨gt, rfl, -⟩ := hT.ptr
  have T1 := Lib.hid hT
  have G1 : Hid (∀ k ∈ gs, w.heap.size + 1 ≤ k) := fun k hk => by have := hg k hk; simpa using this
  have B1 := Lib.hid (below_then (below_alloc _ _) hb1)
  have c0 : w1.cell? ⟨w.heap.size, 0, none⟩ = some (.int .u32 a) := carry hb1 (by simp)
  have c1 : w1.cell? ⟨w.heap.size, 1, none⟩ = some (.int .i64 n) := carry hb1 (by simp)
  clear hT hg hb1
  go_wp2_with fail
  refine (all_any _ _ gs _ (.inr T1.out) (by have := HLen.out; omega)).mono ?_
  rintro e w2 ⟨v2, rfl, hr2, hb2⟩
  obtain ⟨ad2, cap2, rfl⟩ := rdE_slice hr2.rd
  have T2 := Lib.hid (T1.out.below hb2)
  have B2 := Lib.hid (below_then B1.out hb2)
  have d0 := carry hb2 c0
  have d1 := carry hb2 c1
  clear hr2 hb2 c0 c1
  go_wp2_with fail
  refine (HP.out gt gs _ T2.out G1.out).mono ?_
  rintro e w3 ⟨e2, rfl, hk3⟩
  have B3 : Hid (Below w.heap.size w w3) := B2.out.trans (hk3.below B2.out.size (fun k hk => by have := G1.out k hk; omega))
  clear hk3
  go_wp2_with (go_at_call 41; refine (awake6_any _).mono ?_; rintro e w4 ⟨rfl, hb4⟩; have B4 := Lib.hid hb4; clear hb4)
  go_ret
  exact ⟨rfl, below_then B3.out B4.out⟩
theorem drops_new (l : List En) (v : Value) (a : Nat) (ha : a < 4294967296) (n : Int) (hn : I64 n) (x : Int) (hx : I64 x) (w : World) (hl : l.length ≤ 120) (hr : RdE w v l) (hf : Fit l) (hV : allV l = true) (hv : V (a, n) = true) (hh : hasE (foldE l) (a, n) = false) :
    Calls Try.prog 13 #[v, .agg #[.int .u32 a, .int .i64 n], .int .i64 x] w fun e w' => e = .returned (.bool true) ∧ Below w.heap.size w w' := by
  have HO := Lib.hid (of_yes l v _ (by omega) hf (hr.below (below_alloc w (.cells #[.int .u32 (a : Int), .int .i64 n] 28))) hV)
  have hlen : (foldE l).length ≤ 200 := by have := foldE_take_len l l.length; rw [List.take_length] at this; exact Nat.le_trans this (by omega)
  have hasc := foldE_asc l
  have hL2 : (insE (foldE l) ((a, n), x)).length = (foldE l).length + 1 := by have := insE_len hasc ((a, n), x); rw [if_neg (by dsimp only; rw [hh]; decide)] at this; exact this
  have HP : Hid (∀ t gs W, TrieR W t (foldE l) gs → Calls Try.prog 55 #[t, .agg #[.int .u32 a, .int .i64 n], .int .i64 x] W fun en w' => ∃ gs', en = .returned (.tuple #[.bool true, .int .i64 0]) ∧ TrieR w' t (insE (foldE l) ((a, n), x)) gs' ∧ (∀ k ∈ gs', k ∈ gs ∨ W.heap.size ≤ k) ∧ Kp gs W w') := fun t gs W hT =>
    (tput_any _ (foldE l) gs W ((a, n), x) ⟨ha, hv⟩ hT (by omega)).mono fun en w' ⟨gs', h1, r⟩ => ⟨gs', by rw [h1]; dsimp only; rw [hh]; rfl, r⟩
  have HGet : Hid (∀ t gs W, TrieR W t (insE (foldE l) ((a, n), x)) gs → Calls Try.prog 56 #[t, .agg #[.int .u32 a, .int .i64 n]] W fun en w' => en = .returned (.tuple #[.int .i64 x, .bool true]) ∧ Below W.heap.size W w') := fun t gs W hT => by
    have := get_any t _ gs W (a, n) ha hn (.inr hT) hT.lt (by omega)
    rw [get_ins ((a, n), x) hasc] at this; exact this
  have HLn : Hid (∀ t gs W, TrieR W t (insE (foldE l) ((a, n), x)) gs → Calls Try.prog 45 #[t] W fun en w' => en = .returned (.int .i64 (((foldE l).length : Nat) + 1)) ∧ Below W.heap.size W w') := fun t gs W hT =>
    (len_any t _ gs W (.inr hT)).mono fun en w' ⟨h1, h2⟩ => ⟨by rw [h1, hL2]; rfl, h2 ▸ Below.refl _ _⟩
  have HD1 : Hid (∀ t gs W, TrieR W t (insE (foldE l) ((a, n), x)) gs → Calls Try.prog 58 #[t, .agg #[.int .u32 a, .int .i64 n]] W fun en w' => ∃ gs', en = .returned (.bool true) ∧ TrieR w' t (foldE l) gs' ∧ (∀ k ∈ gs', k ∈ gs ∨ W.heap.size ≤ k) ∧ Kp gs W w') := fun t gs W hT => by
    have := tdrop_any t _ gs W (a, n) ha hn hT (by omega)
    rw [show hasE (insE (foldE l) ((a, n), x)) (a, n) = true from has_ins _ ((a, n), x), show delE (insE (foldE l) ((a, n), x)) (a, n) = foldE l from del_ins hasc hh] at this
    exact this
  have HD2 : Hid (∀ t gs W, TrieR W t (foldE l) gs → Calls Try.prog 58 #[t, .agg #[.int .u32 a, .int .i64 n]] W fun en w' => ∃ gs', en = .returned (.bool false) ∧ TrieR w' t (foldE l) gs' ∧ (∀ k ∈ gs', k ∈ gs ∨ W.heap.size ≤ k) ∧ Kp gs W w') := fun t gs W hT => by
    have := tdrop_any t _ gs W (a, n) ha hn hT (by omega)
    rw [hh, del_none (hasE_not.1 hh)] at this
    exact this
  have HAl : Hid (∀ t gs W, TrieR W t (foldE l) gs → Calls Try.prog 48 #[t] W fun en w' => ∃ v, en = .returned v ∧ RdF W.heap.size w' v (foldE l) ∧ Below W.heap.size W w') := fun t gs W hT => all_any t _ gs W (.inr hT) (by omega)
  have HSm : Hid (∀ v v' W, RdE W v (foldE l) → RdE W v' (foldE l) → Calls Try.prog 47 #[v, v'] W fun e w' => e = .returned (.bool true) ∧ Below W.heap.size W w') := fun v v' W h1 h2 => same_any (foldE l) v v' W (by omega) h1 h2
  obtain ⟨N, hN⟩ : ∃ N, (foldE l).length = N := ⟨_, rfl⟩
  have hN2 : N ≤ 200 := by omega
  have HN := Lib.hid hN
  rw [hN] at HLn
  obtain ⟨ad, cap, rfl, _⟩ := hr
  clear hV hf hv hh hlen hasc hL2 hN
  go_enter Try.func13, Try.ntmps13
  go_wp2_with fail
  refine HO.out.mono ?_
  rintro e w1 ⟨t, gs, rfl, hT, hg, hb1⟩
  obtain ⟨gt, rfl, -⟩ := hT.ptr
  have T1 := Lib.hid hT
  have G1 : Hid (∀ k ∈ gs, w.heap.size + 1 ≤ k) := fun k hk => by have := hg k hk; simpa using this
  have B1 := Lib.hid (below_then (below_alloc _ _) hb1)
  have c0 : w1.cell? ⟨w.heap.size, 0, none⟩ = some (.int .u32 a) := carry hb1 (by simp)
  have c1 : w1.cell? ⟨w.heap.size, 1, none⟩ = some (.int .i64 n) := carry hb1 (by simp)
  clear hT hg hb1
  go_wp2_with fail
  refine (HAl.out _ gs _ T1.out).mono ?_
  rintro e w2 ⟨v2, rfl, hr2, hb2⟩
  have R2 := Lib.hid hr2.g
  obtain ⟨ad2, cap2, rfl⟩ := rdE_slice hr2.rd
  have T2 := Lib.hid (T1.out.below hb2)
  have B2 := Lib.hid (below_then B1.out hb2)
  have d0 := carry hb2 c0
  have d1 := carry hb2 c1
  have L1 : Hid (∀ k ∈ gs, k < w1.heap.size) := T1.out.lt
  have S2 : Hid (w.heap.size + 1 ≤ w2.heap.size) := World.block_lt_of_cell? _ _ d0
  clear hr2 hb2 c0 c1
  rw [HN.out]
  go_wp2_with fail
  refine (HP.out _ gs _ T2.out).mono ?_
  rintro e w3 ⟨gs3, rfl, hT3, hg3, hk3⟩
  have nb : w.heap.size ∉ gs := fun h => by have := G1.out _ h; omega
  have T3 := Lib.hid hT3
  have G3 : Hid (∀ k ∈ gs3, w.heap.size + 1 ≤ k) := fun k hk => by
    rcases hg3 k hk with h | h
    · exact G1.out k h
    · have := S2.out; omega
  have X3 : Hid (∀ k ∈ gs3, k ∈ gs ∨ w2.heap.size ≤ k) := hg3
  have R3 := Lib.hid (R2.out.kp hk3 (fun k hk => .inl (L1.out k hk)))
  have Y3 : Hid (∀ k ∈ gs3, k < w1.heap.size ∨ w2.heap.size ≤ k) := fun k hk => (hg3 k hk).imp (L1.out k) id
  have Z3 : Hid (w2.heap.size ≤ w3.heap.size) := hk3.size
  have B3 : Hid (Below w.heap.size w w3) := B2.out.trans (hk3.below B2.out.size (fun k hk => by have := G1.out k hk; omega))
  have e0 := hk3.carry nb d0
  have e1 := hk3.carry nb d1
  clear hT3 hg3 hk3 d0 d1
  go_wp2_with fail
  refine (HGet.out _ gs3 _ T3.out).mono ?_
  rintro e w4 ⟨rfl, hb4⟩
  have T4 := Lib.hid (T3.out.below hb4)
  have R4 := Lib.hid (R3.out.below hb4)
  have B4 := Lib.hid (below_then B3.out hb4)
  have f0 := carry hb4 e0
  have f1 := carry hb4 e1
  clear hb4 e0 e1
  go_wp2_with fail
  refine (HLn.out _ gs3 _ T4.out).mono ?_
  rintro e w5 ⟨rfl, hb5⟩
  have T5 := Lib.hid (T4.out.below hb5)
  have R5 := Lib.hid (R4.out.below hb5)
  have B5 := Lib.hid (below_then B4.out hb5)
  have h0 := carry hb5 f0
  have h1 := carry hb5 f1
  clear hb5 f0 f1
  go_wp2_with fail
  refine (HD1.out _ gs3 _ T5.out).mono ?_
  rintro e w6 ⟨gs6, rfl, hT6, hg6, hk6⟩
  have nb6 : w.heap.size ∉ gs3 := fun h => by have := G3.out _ h; omega
  have T6 := Lib.hid hT6
  have HS5 : Hid (w.heap.size + 1 ≤ w5.heap.size) := World.block_lt_of_cell? _ _ h0
  have hs5 : w2.heap.size ≤ w5.heap.size := R5.out.1
  have G6 : Hid (∀ k ∈ gs6, w.heap.size + 1 ≤ k) := fun k hk => by
    rcases hg6 k hk with h | h
    · exact G3.out k h
    · have := HS5.out; omega
  have Y6 : Hid (∀ k ∈ gs6, k < w1.heap.size ∨ w2.heap.size ≤ k) := fun k hk => by
    rcases hg6 k hk with h | h
    · exact Y3.out k h
    · exact .inr (by omega)
  have R6 := Lib.hid (R5.out.kp hk6 Y3.out)
  have B6 : Hid (Below w.heap.size w w6) := B5.out.trans (hk6.below B5.out.size (fun k hk => by have := G3.out k hk; omega))
  have i0 := hk6.carry nb6 h0
  have i1 := hk6.carry nb6 h1
  clear hT6 hg6 hk6 h0 h1 hs5
  go_wp2_with fail
  refine (HD2.out _ gs6 _ T6.out).mono ?_
  rintro e w7 ⟨gs7, rfl, hT7, hg7, hk7⟩
  have T7 := Lib.hid hT7
  have R7 := Lib.hid (R6.out.kp hk7 Y6.out)
  have B7 : Hid (Below w.heap.size w w7) := B6.out.trans (hk7.below B6.out.size (fun k hk => by have := G6.out k hk; omega))
  clear hT7 hg7 hk7 i0 i1
  go_wp2_with fail
  refine (awake6_any _).mono ?_
  rintro e w8 ⟨rfl, hb8⟩
  have T8 := Lib.hid (T7.out.below hb8)
  have R8 := Lib.hid (R7.out.below hb8)
  have B8 := Lib.hid (below_then B7.out hb8)
  clear hb8
  go_wp2_with fail
  refine (HAl.out _ gs7 _ T8.out).mono ?_
  rintro e w9 ⟨v9, rfl, hr9, hb9⟩
  have R9 := Lib.hid (R8.out.below hb9)
  have B9 := Lib.hid (below_then B8.out hb9)
  have Q9 := Lib.hid hr9.rd
  obtain ⟨ad9, cap9, rfl⟩ := rdE_slice hr9.rd
  have q9 := Q9.out
  rw [HN.out] at q9
  clear hb9 hr9
  go_wp2_with fail
  refine (HSm.out _ _ _ (by have := Q9.out; first | exact this | (rw [HN.out] at this; exact this)) (by have := R9.out.rd; first | exact this | (rw [HN.out] at this; exact this))).mono ?_
  rintro e w10 ⟨rfl, hb10⟩
  have B10 := Lib.hid (below_then B9.out hb10)
  clear hb10
  go_wp2
  go_ret
  exact ⟨rfl, B10.out⟩
theorem drops_walk (l : List En) (v : Value) (a : Nat) (n x : Int) (w : World) (hr : RdE w v l) (hf : Fit l) (ha : a < 4294967296) (hn : I64 n) (hx : I64 x) :
    Calls Try.prog 13 #[v, .agg #[.int .u32 a, .int .i64 n], .int .i64 x] w fun e w' => e = .returned (.bool true) ∧ Below w.heap.size w w' := by
  by_cases hl : 120 < l.length
  · exact drops_big l v a n x w hl hr
  · cases hV : allV l
    · exact drops_bad l v a n x w (by omega) hr hf hV
    · cases hv : V (a, n)
      · exact drops_old l v a ha n hn x w (by omega) hr hf hV (.inl hv)
      · cases hh : hasE (foldE l) (a, n)
        · exact drops_new l v a ha n hn x hx w (by omega) hr hf hV hv hh
        · exact drops_old l v a ha n hn x w (by omega) hr hf hV (.inr hh)
end Go.Proofs.Ytkelfjgjgjdinaa
