/-
  Proved: for every prefix value, every address and every string the law PrefixBack returns true (Parse is the inverse of Text, and Text of Parse, and the examples hold); the row lists three library tables, tied by the card; no other conditions.
-/
import Derived.Test.YtbcgfgklajdelaaDoorFrame
namespace Go.Proofs.YtbcgfgklajdelaaDoor.prefixBack
open Go.ChangeShapes Go.WideShapes Go.ChangeAt Go.RowKit
set_option linter.unusedSimpArgs false
set_option linter.unusedVariables false
set_option maxHeartbeats 4000000
set_option maxRecDepth 100000

theorem val4 (a : Nat) (ha : a < 4294967296) : valA [a / 16777216, a / 65536 % 256, a / 256 % 256, a % 256] = a := by
  simp [valA]; omega
theorem dec46 (n : Nat) : (46 : UInt8) ∉ Lib.decDigits n := T.dig_no46 (T.dec_facts n).1
theorem dec47 (n : Nat) : (47 : UInt8) ∉ Lib.decDigits n := T.dig_no47 (T.dec_facts n).1
theorem pa_addr (a : Nat) (ha : a < 4294967296) : pa (addrT a) = some a := by
  have hc : Lib.countByte (addrT a) 46 = 3 := by
    unfold addrT
    rw [T.count_app _ _ _ (dec46 _), T.count_app _ _ _ (dec46 _), T.count_app _ _ _ (dec46 _)]
    unfold Lib.countByte; rw [List.count_eq_zero_of_not_mem (dec46 _)]
  have h4 : T.codeN 4 (addrT a) = some [a / 16777216, a / 65536 % 256, a / 256 % 256, a % 256] := by
    unfold addrT
    rw [T.codeN, (T.word_of (dec46 _)).1, (T.word_of (dec46 _)).2, T.pnum_dec _ 255 (by omega) (by omega),
      T.codeN, (T.word_of (dec46 _)).1, (T.word_of (dec46 _)).2, T.pnum_dec _ 255 (by omega) (by omega),
      T.codeN, (T.word_of (dec46 _)).1, (T.word_of (dec46 _)).2, T.pnum_dec _ 255 (by omega) (by omega),
      T.codeN, (T.word_none (dec46 _)).1, (T.word_none (dec46 _)).2, T.pnum_dec _ 255 (by omega) (by omega)]
    rfl
  unfold pa
  rw [if_pos hc, h4, Option.map_some, val4 a ha]
theorem code_step {k : Nat} {l : List UInt8} {ns : List Nat} (hc : Lib.countByte l 46 = k + 1) (h : T.codeN (k + 2) l = some ns) :
    ∃ n ms t, ns = n :: ms ∧ n ≤ 255 ∧ l = Lib.decDigits n ++ 46 :: t ∧ Lib.countByte t 46 = k ∧ T.codeN (k + 1) t = some ms := by
  rcases T.split_word 46 l with ⟨_, _, h3⟩ | ⟨h1, h2⟩
  · unfold Lib.countByte at hc; rw [List.count_eq_zero_of_not_mem h3] at hc; omega
  · rw [T.codeN] at h
    cases hp : T.pnum (T.wordC 46 l) 255 with
    | none => rw [hp] at h; cases h
    | some n =>
      rw [hp] at h
      obtain ⟨ms, hm, hns⟩ := Option.map_eq_some_iff.1 h
      refine ⟨n, ms, T.restC 46 l, hns.symm, T.pnum_le hp, ?_, ?_, hm⟩
      · rw [T.dec_pnum hp]; exact h1
      · have := T.count_app (T.wordC 46 l) (T.restC 46 l) 46 h2
        rw [← h1, hc] at this; omega
theorem code_last {l : List UInt8} {ns : List Nat} (hc : Lib.countByte l 46 = 0) (h : T.codeN 1 l = some ns) : ∃ n, ns = [n] ∧ n ≤ 255 ∧ l = Lib.decDigits n := by
  have hn : (46 : UInt8) ∉ l := by unfold Lib.countByte at hc; exact List.count_eq_zero.1 hc
  rw [T.codeN, (T.word_none hn).1] at h
  cases hp : T.pnum l 255 with
  | none => rw [hp] at h; cases h
  | some n =>
    rw [hp] at h
    simp [T.codeN] at h
    exact ⟨n, h.symm, T.pnum_le hp, (T.dec_pnum hp).symm⟩
theorem addr_pa {l : List UInt8} {c : Nat} (h : pa l = some c) : addrT c = l := by
  unfold pa at h
  split at h
  · rename_i hc
    obtain ⟨ns, h1, h2⟩ := Option.map_eq_some_iff.1 h
    obtain ⟨n0, m0, t0, rfl, b0, rfl, c0, k0⟩ := code_step hc h1
    obtain ⟨n1, m1, t1, rfl, b1, rfl, c1, k1⟩ := code_step c0 k0
    obtain ⟨n2, m2, t2, rfl, b2, rfl, c2, k2⟩ := code_step c1 k1
    obtain ⟨n3, rfl, b3, rfl⟩ := code_last c2 k2
    have hv : c = ((n0 * 256 + n1) * 256 + n2) * 256 + n3 := by rw [← h2]; simp [valA]
    unfold addrT
    rw [show c / 16777216 = n0 by omega, show c / 65536 % 256 = n1 by omega, show c / 256 % 256 = n2 by omega, show c % 256 = n3 by omega]
  · cases h
theorem addr47 (a : Nat) : (47 : UInt8) ∉ addrT a := by
  unfold addrT
  intro h
  simp only [List.mem_append, List.mem_cons] at h
  rcases h with h | h | h | h | h | h | h
  · exact dec47 _ h
  · cases h
  · exact dec47 _ h
  · cases h
  · exact dec47 _ h
  · cases h
  · exact dec47 _ h
theorem pr_text (a : Nat) (ha : a < 4294967296) (n : Int) (h0 : 0 ≤ n) (h1 : n ≤ 32) : pr (textT a n) = some (a, n.toNat) := by
  unfold pr textT
  rw [if_pos (by simp), (T.word_of (addr47 a)).1, (T.word_of (addr47 a)).2, pa_addr a ha, T.pnum_dec _ 32 (by omega) (by omega)]; rfl
theorem text_pr {l : List UInt8} {c n : Nat} (h : pr l = some (c, n)) : textT c (n : Int) = l ∧ c < 4294967296 ∧ n ≤ 32 := by
  unfold pr at h
  split at h
  · rename_i hm
    cases hp : pa (T.wordC 47 l) with
    | none => rw [hp] at h; cases h
    | some a =>
      rw [hp] at h
      obtain ⟨m, hq, he⟩ := Option.map_eq_some_iff.1 (show (T.pnum (T.restC 47 l) 32).map (fun n => (a, n)) = some (c, n) from h)
      simp at he
      obtain ⟨rfl, rfl⟩ := he
      refine ⟨?_, pa_lt hp, T.pnum_le hq⟩
      unfold textT
      rw [addr_pa hp, show ((m : Int)).toNat = m by omega, T.dec_pnum hq]
      exact (split47 hm).1.symm
  · cases h
theorem ex_back (a : Nat) (ha : a < 4294967296) (n : Int) (hv : vld a n = true) (w : World) :
    Calls Tryd.prog 36 #[.string (bs (txt a n))] w fun e w' => e = .returned (.tuple #[.agg #[.int .u32 a, .int .i64 n], .int .i64 0]) ∧ Below w.heap.size w w' := by
  obtain ⟨h0, h1, _⟩ := vld_in hv
  have hs : (textT a n).length ≤ 140737488355328 := by
    have s0 := addrT_size a ha
    have s1 := T.dec_len n.toNat (by omega)
    rw [bs_size] at s0
    unfold textT; simp; omega
  have := parse_any (textT a n) hs w
  rw [pr_text a ha n h0 h1, prV, show ((n.toNat : Nat) : Int) = n by omega, hv] at this
  rw [txt_yes hv]; exact this
theorem ex_back_no (a : Nat) (n : Int) (hv : vld a n = false) (w : World) :
    Calls Tryd.prog 36 #[.string (bs (txt a n))] w fun e w' => e = .returned (.tuple #[.agg #[.int .u32 0, .int .i64 0], .int .i64 2]) ∧ Below w.heap.size w w' := by
  have := parse_any [] (by simp) w
  rw [txt_no hv]; exact this
theorem ex_back_addr (a : Nat) (ha : a < 4294967296) (w : World) :
    Calls Tryd.prog 34 #[.string (bs (addrT a))] w fun e w' => e = .returned (.tuple #[.int .u32 a, .int .i64 0]) ∧ Below w.heap.size w w' := by
  have s0 := addrT_size a ha
  rw [bs_size] at s0
  have := parseAddr_any (addrT a) (by omega) w
  rw [pa_addr a ha] at this; exact this
theorem walk (a0 : Nat) (n0 : Int) (ha0 : a0 < 4294967296) (hn0 : I64 n0) (a1 : Nat) (ha1 : a1 < 4294967296) (s2 : ByteArray) (hs2 : s2.size ≤ 140737488355328) (w : World) (hT : Tab w) :
    Calls Tryd.prog 11 #[.agg #[.int .u32 (a0 : Nat), .int .i64 n0], .int .u32 (a1 : Nat), .string s2] w fun e w' => e = .returned (.bool true) ∧ Below w.heap.size w w' := by
  obtain ⟨L, rfl⟩ : ∃ L, s2 = bs L := ⟨_, bs_get s2⟩
  have hl : L.length ≤ 140737488355328 := by rw [bs_size] at hs2; exact hs2
  have HT := Lib.hid hT
  have R0 := parse_any L hl
  have A0 := parseAddr_any L hl
  clear hs2 hl hT
  cases hv : vld a0 n0
  · cases hp : pr L with
    | none =>
      have R := Lib.hid (show ∀ W, Calls Tryd.prog 36 #[.string (bs L)] W fun e w' => e = .returned (.tuple #[.agg #[.int .u32 0, .int .i64 0], .int .i64 2]) ∧ Below W.heap.size W w' from fun W => by have := R0 W; rw [hp] at this; exact this)
      clear R0 hp
      cases hq : pa L with
      | none =>
        have A := Lib.hid (show ∀ W, Calls Tryd.prog 34 #[.string (bs L)] W fun e w' => e = .returned (.tuple #[.int .u32 0, .int .i64 2]) ∧ Below W.heap.size W w' from fun W => by have := A0 W; rw [hq] at this; exact this)
        clear A0 hq
        go_enter Tryd.func11, Tryd.ntmps11
        go_wp2_with fail
        go_at_call 32
        refine (text_any _ ha0 _ hn0 _ (tab_below HT.out (below_alloc _ _))).mono ?_
        rintro e w1 ⟨rfl, h1⟩
        have f0_1 : w1.cell? ⟨w.heap.size, 0, none⟩ = some (.int .u32 (a0 : Nat)) := carry h1 (by go_simp)
        have f1_1 : w1.cell? ⟨w.heap.size, 1, none⟩ = some (.int .i64 n0) := carry h1 (by go_simp)
        have B1 := Lib.hid (below_then (below_alloc _ _) h1)
        clear h1
        go_wp2_with fail
        go_at_call 36
        refine (ex_back_no _ _ hv _).mono ?_
        rintro e w2 ⟨rfl, h2⟩
        have f0_2 : w2.cell? ⟨w.heap.size, 0, none⟩ = some (.int .u32 (a0 : Nat)) := carry h2 (f0_1)
        have f1_2 : w2.cell? ⟨w.heap.size, 1, none⟩ = some (.int .i64 n0) := carry h2 (f1_1)
        have B2 := Lib.hid (below_then B1.out h2)
        clear h2 f0_1 f1_1
        have zf02 : w.heap.size < w2.heap.size := World.block_lt_of_cell? _ _ f0_2
        go_wp2_with fail
        go_at_call 30
        refine (addr_any _ ha1 _ (tab_below HT.out (below_then B2.out (below_alloc _ _)))).mono ?_
        rintro e w3 ⟨rfl, h3⟩
        have f0_3 : w3.cell? ⟨w.heap.size, 0, none⟩ = some (.int .u32 (a0 : Nat)) := carry h3 (akeep f0_2)
        have f1_3 : w3.cell? ⟨w.heap.size, 1, none⟩ = some (.int .i64 n0) := carry h3 (akeep f1_2)
        have q0_3 : w3.cell? ⟨w2.heap.size, 0, none⟩ = some (.int .u32 0) := carry h3 (by go_simp)
        have q1_3 : w3.cell? ⟨w2.heap.size, 1, none⟩ = some (.int .i64 0) := carry h3 (by go_simp)
        have B3 := Lib.hid (below_then (below_then B2.out (below_alloc _ _)) h3)
        clear h3 f0_2 f1_2
        clear zf02
        generalize w2.heap.size = X1 at *
        go_wp2_with fail
        go_at_call 34
        refine (ex_back_addr _ ha1 _).mono ?_
        rintro e w4 ⟨rfl, h4⟩
        have f0_4 : w4.cell? ⟨w.heap.size, 0, none⟩ = some (.int .u32 (a0 : Nat)) := carry h4 (f0_3)
        have f1_4 : w4.cell? ⟨w.heap.size, 1, none⟩ = some (.int .i64 n0) := carry h4 (f1_3)
        have q0_4 : w4.cell? ⟨X1, 0, none⟩ = some (.int .u32 0) := carry h4 (q0_3)
        have q1_4 : w4.cell? ⟨X1, 1, none⟩ = some (.int .i64 0) := carry h4 (q1_3)
        have B4 := Lib.hid (below_then B3.out h4)
        clear h4 f0_3 f1_3 q0_3 q1_3
        go_wp2_with fail
        go_at_call 15
        refine (valid_any _ ha0 _ hn0 _).mono ?_
        rintro e w5 ⟨rfl, h5⟩
        have f0_5 : w5.cell? ⟨w.heap.size, 0, none⟩ = some (.int .u32 (a0 : Nat)) := carry h5 (f0_4)
        have f1_5 : w5.cell? ⟨w.heap.size, 1, none⟩ = some (.int .i64 n0) := carry h5 (f1_4)
        have q0_5 : w5.cell? ⟨X1, 0, none⟩ = some (.int .u32 0) := carry h5 (q0_4)
        have q1_5 : w5.cell? ⟨X1, 1, none⟩ = some (.int .i64 0) := carry h5 (q1_4)
        have B5 := Lib.hid (below_then B4.out h5)
        clear h5 f0_4 f1_4 q0_4 q1_4
        go_wp2_with fail
        go_at_call 36
        refine (R.out _).mono ?_
        rintro e w6 ⟨rfl, h6⟩
        have f0_6 : w6.cell? ⟨w.heap.size, 0, none⟩ = some (.int .u32 (a0 : Nat)) := carry h6 (f0_5)
        have f1_6 : w6.cell? ⟨w.heap.size, 1, none⟩ = some (.int .i64 n0) := carry h6 (f1_5)
        have q0_6 : w6.cell? ⟨X1, 0, none⟩ = some (.int .u32 0) := carry h6 (q0_5)
        have q1_6 : w6.cell? ⟨X1, 1, none⟩ = some (.int .i64 0) := carry h6 (q1_5)
        have B6 := Lib.hid (below_then B5.out h6)
        clear h6 f0_5 f1_5 q0_5 q1_5
        go_wp2_with fail
        go_at_call 34
        refine (A.out _).mono ?_
        rintro e w7 ⟨rfl, h7⟩
        have r0_7 : w7.cell? ⟨w6.heap.size, 0, none⟩ = some (.int .u32 0) := carry h7 (by go_simp)
        have r1_7 : w7.cell? ⟨w6.heap.size, 1, none⟩ = some (.int .i64 0) := carry h7 (by go_simp)
        have B7 := Lib.hid (below_then (below_then B6.out (below_alloc _ _)) h7)
        clear h7
        generalize w6.heap.size = X2 at *
        go_wp2_with fail
        go_at_call 21
        refine (lives_any _ (tab_below HT.out B7.out)).mono ?_
        rintro e w8 ⟨rfl, h8⟩
        have r0_8 : w8.cell? ⟨X2, 0, none⟩ = some (.int .u32 0) := carry h8 (r0_7)
        have r1_8 : w8.cell? ⟨X2, 1, none⟩ = some (.int .i64 0) := carry h8 (r1_7)
        have B8 := Lib.hid (below_then B7.out h8)
        clear h8 r0_7 r1_7
        go_wp2_with fail
        go_ret
        exact ⟨rfl, B8.out⟩
      | some d =>
        have A := Lib.hid (show ∀ W, Calls Tryd.prog 34 #[.string (bs L)] W fun e w' => e = .returned (.tuple #[.int .u32 d, .int .i64 0]) ∧ Below W.heap.size W w' from fun W => by have := A0 W; rw [hq] at this; exact this)
        have hd := pa_lt hq
        have hda := addr_pa hq
        clear A0 hq
        go_enter Tryd.func11, Tryd.ntmps11
        go_wp2_with fail
        go_at_call 32
        refine (text_any _ ha0 _ hn0 _ (tab_below HT.out (below_alloc _ _))).mono ?_
        rintro e w1 ⟨rfl, h1⟩
        have f0_1 : w1.cell? ⟨w.heap.size, 0, none⟩ = some (.int .u32 (a0 : Nat)) := carry h1 (by go_simp)
        have f1_1 : w1.cell? ⟨w.heap.size, 1, none⟩ = some (.int .i64 n0) := carry h1 (by go_simp)
        have B1 := Lib.hid (below_then (below_alloc _ _) h1)
        clear h1
        go_wp2_with fail
        go_at_call 36
        refine (ex_back_no _ _ hv _).mono ?_
        rintro e w2 ⟨rfl, h2⟩
        have f0_2 : w2.cell? ⟨w.heap.size, 0, none⟩ = some (.int .u32 (a0 : Nat)) := carry h2 (f0_1)
        have f1_2 : w2.cell? ⟨w.heap.size, 1, none⟩ = some (.int .i64 n0) := carry h2 (f1_1)
        have B2 := Lib.hid (below_then B1.out h2)
        clear h2 f0_1 f1_1
        have zf02 : w.heap.size < w2.heap.size := World.block_lt_of_cell? _ _ f0_2
        go_wp2_with fail
        go_at_call 30
        refine (addr_any _ ha1 _ (tab_below HT.out (below_then B2.out (below_alloc _ _)))).mono ?_
        rintro e w3 ⟨rfl, h3⟩
        have f0_3 : w3.cell? ⟨w.heap.size, 0, none⟩ = some (.int .u32 (a0 : Nat)) := carry h3 (akeep f0_2)
        have f1_3 : w3.cell? ⟨w.heap.size, 1, none⟩ = some (.int .i64 n0) := carry h3 (akeep f1_2)
        have q0_3 : w3.cell? ⟨w2.heap.size, 0, none⟩ = some (.int .u32 0) := carry h3 (by go_simp)
        have q1_3 : w3.cell? ⟨w2.heap.size, 1, none⟩ = some (.int .i64 0) := carry h3 (by go_simp)
        have B3 := Lib.hid (below_then (below_then B2.out (below_alloc _ _)) h3)
        clear h3 f0_2 f1_2
        clear zf02
        generalize w2.heap.size = X1 at *
        go_wp2_with fail
        go_at_call 34
        refine (ex_back_addr _ ha1 _).mono ?_
        rintro e w4 ⟨rfl, h4⟩
        have f0_4 : w4.cell? ⟨w.heap.size, 0, none⟩ = some (.int .u32 (a0 : Nat)) := carry h4 (f0_3)
        have f1_4 : w4.cell? ⟨w.heap.size, 1, none⟩ = some (.int .i64 n0) := carry h4 (f1_3)
        have q0_4 : w4.cell? ⟨X1, 0, none⟩ = some (.int .u32 0) := carry h4 (q0_3)
        have q1_4 : w4.cell? ⟨X1, 1, none⟩ = some (.int .i64 0) := carry h4 (q1_3)
        have B4 := Lib.hid (below_then B3.out h4)
        clear h4 f0_3 f1_3 q0_3 q1_3
        go_wp2_with fail
        go_at_call 15
        refine (valid_any _ ha0 _ hn0 _).mono ?_
        rintro e w5 ⟨rfl, h5⟩
        have f0_5 : w5.cell? ⟨w.heap.size, 0, none⟩ = some (.int .u32 (a0 : Nat)) := carry h5 (f0_4)
        have f1_5 : w5.cell? ⟨w.heap.size, 1, none⟩ = some (.int .i64 n0) := carry h5 (f1_4)
        have q0_5 : w5.cell? ⟨X1, 0, none⟩ = some (.int .u32 0) := carry h5 (q0_4)
        have q1_5 : w5.cell? ⟨X1, 1, none⟩ = some (.int .i64 0) := carry h5 (q1_4)
        have B5 := Lib.hid (below_then B4.out h5)
        clear h5 f0_4 f1_4 q0_4 q1_4
        go_wp2_with fail
        go_at_call 36
        refine (R.out _).mono ?_
        rintro e w6 ⟨rfl, h6⟩
        have f0_6 : w6.cell? ⟨w.heap.size, 0, none⟩ = some (.int .u32 (a0 : Nat)) := carry h6 (f0_5)
        have f1_6 : w6.cell? ⟨w.heap.size, 1, none⟩ = some (.int .i64 n0) := carry h6 (f1_5)
        have q0_6 : w6.cell? ⟨X1, 0, none⟩ = some (.int .u32 0) := carry h6 (q0_5)
        have q1_6 : w6.cell? ⟨X1, 1, none⟩ = some (.int .i64 0) := carry h6 (q1_5)
        have B6 := Lib.hid (below_then B5.out h6)
        clear h6 f0_5 f1_5 q0_5 q1_5
        go_wp2_with fail
        go_at_call 34
        refine (A.out _).mono ?_
        rintro e w7 ⟨rfl, h7⟩
        have r0_7 : w7.cell? ⟨w6.heap.size, 0, none⟩ = some (.int .u32 0) := carry h7 (by go_simp)
        have r1_7 : w7.cell? ⟨w6.heap.size, 1, none⟩ = some (.int .i64 0) := carry h7 (by go_simp)
        have B7 := Lib.hid (below_then (below_then B6.out (below_alloc _ _)) h7)
        clear h7
        generalize w6.heap.size = X2 at *
        go_wp2_with fail
        go_at_call 30
        refine (addr_any _ hd _ (tab_below HT.out B7.out)).mono ?_
        rintro e w8 ⟨rfl, h8⟩
        have r0_8 : w8.cell? ⟨X2, 0, none⟩ = some (.int .u32 0) := carry h8 (r0_7)
        have r1_8 : w8.cell? ⟨X2, 1, none⟩ = some (.int .i64 0) := carry h8 (r1_7)
        have B8 := Lib.hid (below_then B7.out h8)
        clear h8 r0_7 r1_7
        go_wp2_with fail
        go_at_call 21
        refine (lives_any _ (tab_below HT.out B8.out)).mono ?_
        rintro e w9 ⟨rfl, h9⟩
        have r0_9 : w9.cell? ⟨X2, 0, none⟩ = some (.int .u32 0) := carry h9 (r0_8)
        have r1_9 : w9.cell? ⟨X2, 1, none⟩ = some (.int .i64 0) := carry h9 (r1_8)
        have B9 := Lib.hid (below_then B8.out h9)
        clear h9 r0_8 r1_8
        go_wp2_with fail
        go_ret
        exact ⟨rfl, B9.out⟩
    | some x =>
      obtain ⟨c, m⟩ := x
      obtain ⟨htx, hc, hm⟩ := text_pr hp
      have hmI : I64 (m : Int) := by omega
      cases hv2 : vld c m
      · have R := Lib.hid (show ∀ W, Calls Tryd.prog 36 #[.string (bs L)] W fun e w' => e = .returned (.tuple #[.agg #[.int .u32 0, .int .i64 0], .int .i64 1]) ∧ Below W.heap.size W w' from fun W => by have := R0 W; rw [hp, prV, hv2] at this; exact this)
        clear R0 hp htx
        cases hq : pa L with
        | none =>
          have A := Lib.hid (show ∀ W, Calls Tryd.prog 34 #[.string (bs L)] W fun e w' => e = .returned (.tuple #[.int .u32 0, .int .i64 2]) ∧ Below W.heap.size W w' from fun W => by have := A0 W; rw [hq] at this; exact this)
          clear A0 hq
          go_enter Tryd.func11, Tryd.ntmps11
          go_wp2_with fail
          go_at_call 32
          refine (text_any _ ha0 _ hn0 _ (tab_below HT.out (below_alloc _ _))).mono ?_
          rintro e w1 ⟨rfl, h1⟩
          have f0_1 : w1.cell? ⟨w.heap.size, 0, none⟩ = some (.int .u32 (a0 : Nat)) := carry h1 (by go_simp)
          have f1_1 : w1.cell? ⟨w.heap.size, 1, none⟩ = some (.int .i64 n0) := carry h1 (by go_simp)
          have B1 := Lib.hid (below_then (below_alloc _ _) h1)
          clear h1
          go_wp2_with fail
          go_at_call 36
          refine (ex_back_no _ _ hv _).mono ?_
          rintro e w2 ⟨rfl, h2⟩
          have f0_2 : w2.cell? ⟨w.heap.size, 0, none⟩ = some (.int .u32 (a0 : Nat)) := carry h2 (f0_1)
          have f1_2 : w2.cell? ⟨w.heap.size, 1, none⟩ = some (.int .i64 n0) := carry h2 (f1_1)
          have B2 := Lib.hid (below_then B1.out h2)
          clear h2 f0_1 f1_1
          have zf02 : w.heap.size < w2.heap.size := World.block_lt_of_cell? _ _ f0_2
          go_wp2_with fail
          go_at_call 30
          refine (addr_any _ ha1 _ (tab_below HT.out (below_then B2.out (below_alloc _ _)))).mono ?_
          rintro e w3 ⟨rfl, h3⟩
          have f0_3 : w3.cell? ⟨w.heap.size, 0, none⟩ = some (.int .u32 (a0 : Nat)) := carry h3 (akeep f0_2)
          have f1_3 : w3.cell? ⟨w.heap.size, 1, none⟩ = some (.int .i64 n0) := carry h3 (akeep f1_2)
          have q0_3 : w3.cell? ⟨w2.heap.size, 0, none⟩ = some (.int .u32 0) := carry h3 (by go_simp)
          have q1_3 : w3.cell? ⟨w2.heap.size, 1, none⟩ = some (.int .i64 0) := carry h3 (by go_simp)
          have B3 := Lib.hid (below_then (below_then B2.out (below_alloc _ _)) h3)
          clear h3 f0_2 f1_2
          clear zf02
          generalize w2.heap.size = X1 at *
          go_wp2_with fail
          go_at_call 34
          refine (ex_back_addr _ ha1 _).mono ?_
          rintro e w4 ⟨rfl, h4⟩
          have f0_4 : w4.cell? ⟨w.heap.size, 0, none⟩ = some (.int .u32 (a0 : Nat)) := carry h4 (f0_3)
          have f1_4 : w4.cell? ⟨w.heap.size, 1, none⟩ = some (.int .i64 n0) := carry h4 (f1_3)
          have q0_4 : w4.cell? ⟨X1, 0, none⟩ = some (.int .u32 0) := carry h4 (q0_3)
          have q1_4 : w4.cell? ⟨X1, 1, none⟩ = some (.int .i64 0) := carry h4 (q1_3)
          have B4 := Lib.hid (below_then B3.out h4)
          clear h4 f0_3 f1_3 q0_3 q1_3
          go_wp2_with fail
          go_at_call 15
          refine (valid_any _ ha0 _ hn0 _).mono ?_
          rintro e w5 ⟨rfl, h5⟩
          have f0_5 : w5.cell? ⟨w.heap.size, 0, none⟩ = some (.int .u32 (a0 : Nat)) := carry h5 (f0_4)
          have f1_5 : w5.cell? ⟨w.heap.size, 1, none⟩ = some (.int .i64 n0) := carry h5 (f1_4)
          have q0_5 : w5.cell? ⟨X1, 0, none⟩ = some (.int .u32 0) := carry h5 (q0_4)
          have q1_5 : w5.cell? ⟨X1, 1, none⟩ = some (.int .i64 0) := carry h5 (q1_4)
          have B5 := Lib.hid (below_then B4.out h5)
          clear h5 f0_4 f1_4 q0_4 q1_4
          go_wp2_with fail
          go_at_call 36
          refine (R.out _).mono ?_
          rintro e w6 ⟨rfl, h6⟩
          have f0_6 : w6.cell? ⟨w.heap.size, 0, none⟩ = some (.int .u32 (a0 : Nat)) := carry h6 (f0_5)
          have f1_6 : w6.cell? ⟨w.heap.size, 1, none⟩ = some (.int .i64 n0) := carry h6 (f1_5)
          have q0_6 : w6.cell? ⟨X1, 0, none⟩ = some (.int .u32 0) := carry h6 (q0_5)
          have q1_6 : w6.cell? ⟨X1, 1, none⟩ = some (.int .i64 0) := carry h6 (q1_5)
          have B6 := Lib.hid (below_then B5.out h6)
          clear h6 f0_5 f1_5 q0_5 q1_5
          go_wp2_with fail
          go_at_call 34
          refine (A.out _).mono ?_
          rintro e w7 ⟨rfl, h7⟩
          have r0_7 : w7.cell? ⟨w6.heap.size, 0, none⟩ = some (.int .u32 0) := carry h7 (by go_simp)
          have r1_7 : w7.cell? ⟨w6.heap.size, 1, none⟩ = some (.int .i64 0) := carry h7 (by go_simp)
          have B7 := Lib.hid (below_then (below_then B6.out (below_alloc _ _)) h7)
          clear h7
          generalize w6.heap.size = X2 at *
          go_wp2_with fail
          go_at_call 21
          refine (lives_any _ (tab_below HT.out B7.out)).mono ?_
          rintro e w8 ⟨rfl, h8⟩
          have r0_8 : w8.cell? ⟨X2, 0, none⟩ = some (.int .u32 0) := carry h8 (r0_7)
          have r1_8 : w8.cell? ⟨X2, 1, none⟩ = some (.int .i64 0) := carry h8 (r1_7)
          have B8 := Lib.hid (below_then B7.out h8)
          clear h8 r0_7 r1_7
          go_wp2_with fail
          go_ret
          exact ⟨rfl, B8.out⟩
        | some d =>
          have A := Lib.hid (show ∀ W, Calls Tryd.prog 34 #[.string (bs L)] W fun e w' => e = .returned (.tuple #[.int .u32 d, .int .i64 0]) ∧ Below W.heap.size W w' from fun W => by have := A0 W; rw [hq] at this; exact this)
          have hd := pa_lt hq
          have hda := addr_pa hq
          clear A0 hq
          go_enter Tryd.func11, Tryd.ntmps11
          go_wp2_with fail
          go_at_call 32
          refine (text_any _ ha0 _ hn0 _ (tab_below HT.out (below_alloc _ _))).mono ?_
          rintro e w1 ⟨rfl, h1⟩
          have f0_1 : w1.cell? ⟨w.heap.size, 0, none⟩ = some (.int .u32 (a0 : Nat)) := carry h1 (by go_simp)
          have f1_1 : w1.cell? ⟨w.heap.size, 1, none⟩ = some (.int .i64 n0) := carry h1 (by go_simp)
          have B1 := Lib.hid (below_then (below_alloc _ _) h1)
          clear h1
          go_wp2_with fail
          go_at_call 36
          refine (ex_back_no _ _ hv _).mono ?_
          rintro e w2 ⟨rfl, h2⟩
          have f0_2 : w2.cell? ⟨w.heap.size, 0, none⟩ = some (.int .u32 (a0 : Nat)) := carry h2 (f0_1)
          have f1_2 : w2.cell? ⟨w.heap.size, 1, none⟩ = some (.int .i64 n0) := carry h2 (f1_1)
          have B2 := Lib.hid (below_then B1.out h2)
          clear h2 f0_1 f1_1
          have zf02 : w.heap.size < w2.heap.size := World.block_lt_of_cell? _ _ f0_2
          go_wp2_with fail
          go_at_call 30
          refine (addr_any _ ha1 _ (tab_below HT.out (below_then B2.out (below_alloc _ _)))).mono ?_
          rintro e w3 ⟨rfl, h3⟩
          have f0_3 : w3.cell? ⟨w.heap.size, 0, none⟩ = some (.int .u32 (a0 : Nat)) := carry h3 (akeep f0_2)
          have f1_3 : w3.cell? ⟨w.heap.size, 1, none⟩ = some (.int .i64 n0) := carry h3 (akeep f1_2)
          have q0_3 : w3.cell? ⟨w2.heap.size, 0, none⟩ = some (.int .u32 0) := carry h3 (by go_simp)
          have q1_3 : w3.cell? ⟨w2.heap.size, 1, none⟩ = some (.int .i64 0) := carry h3 (by go_simp)
          have B3 := Lib.hid (below_then (below_then B2.out (below_alloc _ _)) h3)
          clear h3 f0_2 f1_2
          clear zf02
          generalize w2.heap.size = X1 at *
          go_wp2_with fail
          go_at_call 34
          refine (ex_back_addr _ ha1 _).mono ?_
          rintro e w4 ⟨rfl, h4⟩
          have f0_4 : w4.cell? ⟨w.heap.size, 0, none⟩ = some (.int .u32 (a0 : Nat)) := carry h4 (f0_3)
          have f1_4 : w4.cell? ⟨w.heap.size, 1, none⟩ = some (.int .i64 n0) := carry h4 (f1_3)
          have q0_4 : w4.cell? ⟨X1, 0, none⟩ = some (.int .u32 0) := carry h4 (q0_3)
          have q1_4 : w4.cell? ⟨X1, 1, none⟩ = some (.int .i64 0) := carry h4 (q1_3)
          have B4 := Lib.hid (below_then B3.out h4)
          clear h4 f0_3 f1_3 q0_3 q1_3
          go_wp2_with fail
          go_at_call 15
          refine (valid_any _ ha0 _ hn0 _).mono ?_
          rintro e w5 ⟨rfl, h5⟩
          have f0_5 : w5.cell? ⟨w.heap.size, 0, none⟩ = some (.int .u32 (a0 : Nat)) := carry h5 (f0_4)
          have f1_5 : w5.cell? ⟨w.heap.size, 1, none⟩ = some (.int .i64 n0) := carry h5 (f1_4)
          have q0_5 : w5.cell? ⟨X1, 0, none⟩ = some (.int .u32 0) := carry h5 (q0_4)
          have q1_5 : w5.cell? ⟨X1, 1, none⟩ = some (.int .i64 0) := carry h5 (q1_4)
          have B5 := Lib.hid (below_then B4.out h5)
          clear h5 f0_4 f1_4 q0_4 q1_4
          go_wp2_with fail
          go_at_call 36
          refine (R.out _).mono ?_
          rintro e w6 ⟨rfl, h6⟩
          have f0_6 : w6.cell? ⟨w.heap.size, 0, none⟩ = some (.int .u32 (a0 : Nat)) := carry h6 (f0_5)
          have f1_6 : w6.cell? ⟨w.heap.size, 1, none⟩ = some (.int .i64 n0) := carry h6 (f1_5)
          have q0_6 : w6.cell? ⟨X1, 0, none⟩ = some (.int .u32 0) := carry h6 (q0_5)
          have q1_6 : w6.cell? ⟨X1, 1, none⟩ = some (.int .i64 0) := carry h6 (q1_5)
          have B6 := Lib.hid (below_then B5.out h6)
          clear h6 f0_5 f1_5 q0_5 q1_5
          go_wp2_with fail
          go_at_call 34
          refine (A.out _).mono ?_
          rintro e w7 ⟨rfl, h7⟩
          have r0_7 : w7.cell? ⟨w6.heap.size, 0, none⟩ = some (.int .u32 0) := carry h7 (by go_simp)
          have r1_7 : w7.cell? ⟨w6.heap.size, 1, none⟩ = some (.int .i64 0) := carry h7 (by go_simp)
          have B7 := Lib.hid (below_then (below_then B6.out (below_alloc _ _)) h7)
          clear h7
          generalize w6.heap.size = X2 at *
          go_wp2_with fail
          go_at_call 30
          refine (addr_any _ hd _ (tab_below HT.out B7.out)).mono ?_
          rintro e w8 ⟨rfl, h8⟩
          have r0_8 : w8.cell? ⟨X2, 0, none⟩ = some (.int .u32 0) := carry h8 (r0_7)
          have r1_8 : w8.cell? ⟨X2, 1, none⟩ = some (.int .i64 0) := carry h8 (r1_7)
          have B8 := Lib.hid (below_then B7.out h8)
          clear h8 r0_7 r1_7
          go_wp2_with fail
          go_at_call 21
          refine (lives_any _ (tab_below HT.out B8.out)).mono ?_
          rintro e w9 ⟨rfl, h9⟩
          have r0_9 : w9.cell? ⟨X2, 0, none⟩ = some (.int .u32 0) := carry h9 (r0_8)
          have r1_9 : w9.cell? ⟨X2, 1, none⟩ = some (.int .i64 0) := carry h9 (r1_8)
          have B9 := Lib.hid (below_then B8.out h9)
          clear h9 r0_8 r1_8
          go_wp2_with fail
          go_ret
          exact ⟨rfl, B9.out⟩
      · have R := Lib.hid (show ∀ W, Calls Tryd.prog 36 #[.string (bs L)] W fun e w' => e = .returned (.tuple #[.agg #[.int .u32 c, .int .i64 m], .int .i64 0]) ∧ Below W.heap.size W w' from fun W => by have := R0 W; rw [hp, prV, hv2] at this; exact this)
        have htt : txt c (m : Int) = L := by rw [txt_yes hv2]; exact htx
        clear R0 hp htx
        cases hq : pa L with
        | none =>
          have A := Lib.hid (show ∀ W, Calls Tryd.prog 34 #[.string (bs L)] W fun e w' => e = .returned (.tuple #[.int .u32 0, .int .i64 2]) ∧ Below W.heap.size W w' from fun W => by have := A0 W; rw [hq] at this; exact this)
          clear A0 hq
          go_enter Tryd.func11, Tryd.ntmps11
          go_wp2_with fail
          go_at_call 32
          refine (text_any _ ha0 _ hn0 _ (tab_below HT.out (below_alloc _ _))).mono ?_
          rintro e w1 ⟨rfl, h1⟩
          have f0_1 : w1.cell? ⟨w.heap.size, 0, none⟩ = some (.int .u32 (a0 : Nat)) := carry h1 (by go_simp)
          have f1_1 : w1.cell? ⟨w.heap.size, 1, none⟩ = some (.int .i64 n0) := carry h1 (by go_simp)
          have B1 := Lib.hid (below_then (below_alloc _ _) h1)
          clear h1
          go_wp2_with fail
          go_at_call 36
          refine (ex_back_no _ _ hv _).mono ?_
          rintro e w2 ⟨rfl, h2⟩
          have f0_2 : w2.cell? ⟨w.heap.size, 0, none⟩ = some (.int .u32 (a0 : Nat)) := carry h2 (f0_1)
          have f1_2 : w2.cell? ⟨w.heap.size, 1, none⟩ = some (.int .i64 n0) := carry h2 (f1_1)
          have B2 := Lib.hid (below_then B1.out h2)
          clear h2 f0_1 f1_1
          have zf02 : w.heap.size < w2.heap.size := World.block_lt_of_cell? _ _ f0_2
          go_wp2_with fail
          go_at_call 30
          refine (addr_any _ ha1 _ (tab_below HT.out (below_then B2.out (below_alloc _ _)))).mono ?_
          rintro e w3 ⟨rfl, h3⟩
          have f0_3 : w3.cell? ⟨w.heap.size, 0, none⟩ = some (.int .u32 (a0 : Nat)) := carry h3 (akeep f0_2)
          have f1_3 : w3.cell? ⟨w.heap.size, 1, none⟩ = some (.int .i64 n0) := carry h3 (akeep f1_2)
          have q0_3 : w3.cell? ⟨w2.heap.size, 0, none⟩ = some (.int .u32 0) := carry h3 (by go_simp)
          have q1_3 : w3.cell? ⟨w2.heap.size, 1, none⟩ = some (.int .i64 0) := carry h3 (by go_simp)
          have B3 := Lib.hid (below_then (below_then B2.out (below_alloc _ _)) h3)
          clear h3 f0_2 f1_2
          clear zf02
          generalize w2.heap.size = X1 at *
          go_wp2_with fail
          go_at_call 34
          refine (ex_back_addr _ ha1 _).mono ?_
          rintro e w4 ⟨rfl, h4⟩
          have f0_4 : w4.cell? ⟨w.heap.size, 0, none⟩ = some (.int .u32 (a0 : Nat)) := carry h4 (f0_3)
          have f1_4 : w4.cell? ⟨w.heap.size, 1, none⟩ = some (.int .i64 n0) := carry h4 (f1_3)
          have q0_4 : w4.cell? ⟨X1, 0, none⟩ = some (.int .u32 0) := carry h4 (q0_3)
          have q1_4 : w4.cell? ⟨X1, 1, none⟩ = some (.int .i64 0) := carry h4 (q1_3)
          have B4 := Lib.hid (below_then B3.out h4)
          clear h4 f0_3 f1_3 q0_3 q1_3
          go_wp2_with fail
          go_at_call 15
          refine (valid_any _ ha0 _ hn0 _).mono ?_
          rintro e w5 ⟨rfl, h5⟩
          have f0_5 : w5.cell? ⟨w.heap.size, 0, none⟩ = some (.int .u32 (a0 : Nat)) := carry h5 (f0_4)
          have f1_5 : w5.cell? ⟨w.heap.size, 1, none⟩ = some (.int .i64 n0) := carry h5 (f1_4)
          have q0_5 : w5.cell? ⟨X1, 0, none⟩ = some (.int .u32 0) := carry h5 (q0_4)
          have q1_5 : w5.cell? ⟨X1, 1, none⟩ = some (.int .i64 0) := carry h5 (q1_4)
          have B5 := Lib.hid (below_then B4.out h5)
          clear h5 f0_4 f1_4 q0_4 q1_4
          go_wp2_with fail
          go_at_call 36
          refine (R.out _).mono ?_
          rintro e w6 ⟨rfl, h6⟩
          have f0_6 : w6.cell? ⟨w.heap.size, 0, none⟩ = some (.int .u32 (a0 : Nat)) := carry h6 (f0_5)
          have f1_6 : w6.cell? ⟨w.heap.size, 1, none⟩ = some (.int .i64 n0) := carry h6 (f1_5)
          have q0_6 : w6.cell? ⟨X1, 0, none⟩ = some (.int .u32 0) := carry h6 (q0_5)
          have q1_6 : w6.cell? ⟨X1, 1, none⟩ = some (.int .i64 0) := carry h6 (q1_5)
          have B6 := Lib.hid (below_then B5.out h6)
          clear h6 f0_5 f1_5 q0_5 q1_5
          go_wp2_with fail
          go_at_call 34
          refine (A.out _).mono ?_
          rintro e w7 ⟨rfl, h7⟩
          have r0_7 : w7.cell? ⟨w6.heap.size, 0, none⟩ = some (.int .u32 (c : Nat)) := carry h7 (by go_simp)
          have r1_7 : w7.cell? ⟨w6.heap.size, 1, none⟩ = some (.int .i64 (m : Nat)) := carry h7 (by go_simp)
          have B7 := Lib.hid (below_then (below_then B6.out (below_alloc _ _)) h7)
          clear h7
          generalize w6.heap.size = X2 at *
          go_wp2_with fail
          go_at_call 15
          refine (valid_any _ hc _ hmI _).mono ?_
          rintro e w8 ⟨rfl, h8⟩
          have r0_8 : w8.cell? ⟨X2, 0, none⟩ = some (.int .u32 (c : Nat)) := carry h8 (r0_7)
          have r1_8 : w8.cell? ⟨X2, 1, none⟩ = some (.int .i64 (m : Nat)) := carry h8 (r1_7)
          have B8 := Lib.hid (below_then B7.out h8)
          clear h8 r0_7 r1_7
          go_wp2_with fail
          go_at_call 32
          refine (text_any _ hc _ hmI _ (tab_below HT.out B8.out)).mono ?_
          rintro e w9 ⟨rfl, h9⟩
          have r0_9 : w9.cell? ⟨X2, 0, none⟩ = some (.int .u32 (c : Nat)) := carry h9 (r0_8)
          have r1_9 : w9.cell? ⟨X2, 1, none⟩ = some (.int .i64 (m : Nat)) := carry h9 (r1_8)
          have B9 := Lib.hid (below_then B8.out h9)
          clear h9 r0_8 r1_8
          go_wp2_with fail
          go_at_call 21
          refine (lives_any _ (tab_below HT.out B9.out)).mono ?_
          rintro e w10 ⟨rfl, h10⟩
          have r0_10 : w10.cell? ⟨X2, 0, none⟩ = some (.int .u32 (c : Nat)) := carry h10 (r0_9)
          have r1_10 : w10.cell? ⟨X2, 1, none⟩ = some (.int .i64 (m : Nat)) := carry h10 (r1_9)
          have B10 := Lib.hid (below_then B9.out h10)
          clear h10 r0_9 r1_9
          go_wp2_with fail
          go_ret
          exact ⟨rfl, B10.out⟩
        | some d =>
          have A := Lib.hid (show ∀ W, Calls Tryd.prog 34 #[.string (bs L)] W fun e w' => e = .returned (.tuple #[.int .u32 d, .int .i64 0]) ∧ Below W.heap.size W w' from fun W => by have := A0 W; rw [hq] at this; exact this)
          have hd := pa_lt hq
          have hda := addr_pa hq
          clear A0 hq
          go_enter Tryd.func11, Tryd.ntmps11
          go_wp2_with fail
          go_at_call 32
          refine (text_any _ ha0 _ hn0 _ (tab_below HT.out (below_alloc _ _))).mono ?_
          rintro e w1 ⟨rfl, h1⟩
          have f0_1 : w1.cell? ⟨w.heap.size, 0, none⟩ = some (.int .u32 (a0 : Nat)) := carry h1 (by go_simp)
          have f1_1 : w1.cell? ⟨w.heap.size, 1, none⟩ = some (.int .i64 n0) := carry h1 (by go_simp)
          have B1 := Lib.hid (below_then (below_alloc _ _) h1)
          clear h1
          go_wp2_with fail
          go_at_call 36
          refine (ex_back_no _ _ hv _).mono ?_
          rintro e w2 ⟨rfl, h2⟩
          have f0_2 : w2.cell? ⟨w.heap.size, 0, none⟩ = some (.int .u32 (a0 : Nat)) := carry h2 (f0_1)
          have f1_2 : w2.cell? ⟨w.heap.size, 1, none⟩ = some (.int .i64 n0) := carry h2 (f1_1)
          have B2 := Lib.hid (below_then B1.out h2)
          clear h2 f0_1 f1_1
          have zf02 : w.heap.size < w2.heap.size := World.block_lt_of_cell? _ _ f0_2
          go_wp2_with fail
          go_at_call 30
          refine (addr_any _ ha1 _ (tab_below HT.out (below_then B2.out (below_alloc _ _)))).mono ?_
          rintro e w3 ⟨rfl, h3⟩
          have f0_3 : w3.cell? ⟨w.heap.size, 0, none⟩ = some (.int .u32 (a0 : Nat)) := carry h3 (akeep f0_2)
          have f1_3 : w3.cell? ⟨w.heap.size, 1, none⟩ = some (.int .i64 n0) := carry h3 (akeep f1_2)
          have q0_3 : w3.cell? ⟨w2.heap.size, 0, none⟩ = some (.int .u32 0) := carry h3 (by go_simp)
          have q1_3 : w3.cell? ⟨w2.heap.size, 1, none⟩ = some (.int .i64 0) := carry h3 (by go_simp)
          have B3 := Lib.hid (below_then (below_then B2.out (below_alloc _ _)) h3)
          clear h3 f0_2 f1_2
          clear zf02
          generalize w2.heap.size = X1 at *
          go_wp2_with fail
          go_at_call 34
          refine (ex_back_addr _ ha1 _).mono ?_
          rintro e w4 ⟨rfl, h4⟩
          have f0_4 : w4.cell? ⟨w.heap.size, 0, none⟩ = some (.int .u32 (a0 : Nat)) := carry h4 (f0_3)
          have f1_4 : w4.cell? ⟨w.heap.size, 1, none⟩ = some (.int .i64 n0) := carry h4 (f1_3)
          have q0_4 : w4.cell? ⟨X1, 0, none⟩ = some (.int .u32 0) := carry h4 (q0_3)
          have q1_4 : w4.cell? ⟨X1, 1, none⟩ = some (.int .i64 0) := carry h4 (q1_3)
          have B4 := Lib.hid (below_then B3.out h4)
          clear h4 f0_3 f1_3 q0_3 q1_3
          go_wp2_with fail
          go_at_call 15
          refine (valid_any _ ha0 _ hn0 _).mono ?_
          rintro e w5 ⟨rfl, h5⟩
          have f0_5 : w5.cell? ⟨w.heap.size, 0, none⟩ = some (.int .u32 (a0 : Nat)) := carry h5 (f0_4)
          have f1_5 : w5.cell? ⟨w.heap.size, 1, none⟩ = some (.int .i64 n0) := carry h5 (f1_4)
          have q0_5 : w5.cell? ⟨X1, 0, none⟩ = some (.int .u32 0) := carry h5 (q0_4)
          have q1_5 : w5.cell? ⟨X1, 1, none⟩ = some (.int .i64 0) := carry h5 (q1_4)
          have B5 := Lib.hid (below_then B4.out h5)
          clear h5 f0_4 f1_4 q0_4 q1_4
          go_wp2_with fail
          go_at_call 36
          refine (R.out _).mono ?_
          rintro e w6 ⟨rfl, h6⟩
          have f0_6 : w6.cell? ⟨w.heap.size, 0, none⟩ = some (.int .u32 (a0 : Nat)) := carry h6 (f0_5)
          have f1_6 : w6.cell? ⟨w.heap.size, 1, none⟩ = some (.int .i64 n0) := carry h6 (f1_5)
          have q0_6 : w6.cell? ⟨X1, 0, none⟩ = some (.int .u32 0) := carry h6 (q0_5)
          have q1_6 : w6.cell? ⟨X1, 1, none⟩ = some (.int .i64 0) := carry h6 (q1_5)
          have B6 := Lib.hid (below_then B5.out h6)
          clear h6 f0_5 f1_5 q0_5 q1_5
          go_wp2_with fail
          go_at_call 34
          refine (A.out _).mono ?_
          rintro e w7 ⟨rfl, h7⟩
          have r0_7 : w7.cell? ⟨w6.heap.size, 0, none⟩ = some (.int .u32 (c : Nat)) := carry h7 (by go_simp)
          have r1_7 : w7.cell? ⟨w6.heap.size, 1, none⟩ = some (.int .i64 (m : Nat)) := carry h7 (by go_simp)
          have B7 := Lib.hid (below_then (below_then B6.out (below_alloc _ _)) h7)
          clear h7
          generalize w6.heap.size = X2 at *
          go_wp2_with fail
          go_at_call 15
          refine (valid_any _ hc _ hmI _).mono ?_
          rintro e w8 ⟨rfl, h8⟩
          have r0_8 : w8.cell? ⟨X2, 0, none⟩ = some (.int .u32 (c : Nat)) := carry h8 (r0_7)
          have r1_8 : w8.cell? ⟨X2, 1, none⟩ = some (.int .i64 (m : Nat)) := carry h8 (r1_7)
          have B8 := Lib.hid (below_then B7.out h8)
          clear h8 r0_7 r1_7
          go_wp2_with fail
          go_at_call 32
          refine (text_any _ hc _ hmI _ (tab_below HT.out B8.out)).mono ?_
          rintro e w9 ⟨rfl, h9⟩
          have r0_9 : w9.cell? ⟨X2, 0, none⟩ = some (.int .u32 (c : Nat)) := carry h9 (r0_8)
          have r1_9 : w9.cell? ⟨X2, 1, none⟩ = some (.int .i64 (m : Nat)) := carry h9 (r1_8)
          have B9 := Lib.hid (below_then B8.out h9)
          clear h9 r0_8 r1_8
          go_wp2_with fail
          go_at_call 30
          refine (addr_any _ hd _ (tab_below HT.out B9.out)).mono ?_
          rintro e w10 ⟨rfl, h10⟩
          have r0_10 : w10.cell? ⟨X2, 0, none⟩ = some (.int .u32 (c : Nat)) := carry h10 (r0_9)
          have r1_10 : w10.cell? ⟨X2, 1, none⟩ = some (.int .i64 (m : Nat)) := carry h10 (r1_9)
          have B10 := Lib.hid (below_then B9.out h10)
          clear h10 r0_9 r1_9
          go_wp2_with fail
          go_at_call 21
          refine (lives_any _ (tab_below HT.out B10.out)).mono ?_
          rintro e w11 ⟨rfl, h11⟩
          have r0_11 : w11.cell? ⟨X2, 0, none⟩ = some (.int .u32 (c : Nat)) := carry h11 (r0_10)
          have r1_11 : w11.cell? ⟨X2, 1, none⟩ = some (.int .i64 (m : Nat)) := carry h11 (r1_10)
          have B11 := Lib.hid (below_then B10.out h11)
          clear h11 r0_10 r1_10
          go_wp2_with fail
          go_ret
          exact ⟨rfl, B11.out⟩
  · cases hp : pr L with
    | none =>
      have R := Lib.hid (show ∀ W, Calls Tryd.prog 36 #[.string (bs L)] W fun e w' => e = .returned (.tuple #[.agg #[.int .u32 0, .int .i64 0], .int .i64 2]) ∧ Below W.heap.size W w' from fun W => by have := R0 W; rw [hp] at this; exact this)
      clear R0 hp
      cases hq : pa L with
      | none =>
        have A := Lib.hid (show ∀ W, Calls Tryd.prog 34 #[.string (bs L)] W fun e w' => e = .returned (.tuple #[.int .u32 0, .int .i64 2]) ∧ Below W.heap.size W w' from fun W => by have := A0 W; rw [hq] at this; exact this)
        clear A0 hq
        go_enter Tryd.func11, Tryd.ntmps11
        go_wp2_with fail
        go_at_call 32
        refine (text_any _ ha0 _ hn0 _ (tab_below HT.out (below_alloc _ _))).mono ?_
        rintro e w1 ⟨rfl, h1⟩
        have f0_1 : w1.cell? ⟨w.heap.size, 0, none⟩ = some (.int .u32 (a0 : Nat)) := carry h1 (by go_simp)
        have f1_1 : w1.cell? ⟨w.heap.size, 1, none⟩ = some (.int .i64 n0) := carry h1 (by go_simp)
        have B1 := Lib.hid (below_then (below_alloc _ _) h1)
        clear h1
        go_wp2_with fail
        go_at_call 36
        refine (ex_back _ ha0 _ hv _).mono ?_
        rintro e w2 ⟨rfl, h2⟩
        have f0_2 : w2.cell? ⟨w.heap.size, 0, none⟩ = some (.int .u32 (a0 : Nat)) := carry h2 (f0_1)
        have f1_2 : w2.cell? ⟨w.heap.size, 1, none⟩ = some (.int .i64 n0) := carry h2 (f1_1)
        have B2 := Lib.hid (below_then B1.out h2)
        clear h2 f0_1 f1_1
        have zf02 : w.heap.size < w2.heap.size := World.block_lt_of_cell? _ _ f0_2
        go_wp2_with fail
        go_at_call 30
        refine (addr_any _ ha1 _ (tab_below HT.out (below_then B2.out (below_alloc _ _)))).mono ?_
        rintro e w3 ⟨rfl, h3⟩
        have f0_3 : w3.cell? ⟨w.heap.size, 0, none⟩ = some (.int .u32 (a0 : Nat)) := carry h3 (akeep f0_2)
        have f1_3 : w3.cell? ⟨w.heap.size, 1, none⟩ = some (.int .i64 n0) := carry h3 (akeep f1_2)
        have q0_3 : w3.cell? ⟨w2.heap.size, 0, none⟩ = some (.int .u32 (a0 : Nat)) := carry h3 (by go_simp)
        have q1_3 : w3.cell? ⟨w2.heap.size, 1, none⟩ = some (.int .i64 n0) := carry h3 (by go_simp)
        have B3 := Lib.hid (below_then (below_then B2.out (below_alloc _ _)) h3)
        clear h3 f0_2 f1_2
        clear zf02
        generalize w2.heap.size = X1 at *
        go_wp2_with fail
        go_at_call 34
        refine (ex_back_addr _ ha1 _).mono ?_
        rintro e w4 ⟨rfl, h4⟩
        have f0_4 : w4.cell? ⟨w.heap.size, 0, none⟩ = some (.int .u32 (a0 : Nat)) := carry h4 (f0_3)
        have f1_4 : w4.cell? ⟨w.heap.size, 1, none⟩ = some (.int .i64 n0) := carry h4 (f1_3)
        have q0_4 : w4.cell? ⟨X1, 0, none⟩ = some (.int .u32 (a0 : Nat)) := carry h4 (q0_3)
        have q1_4 : w4.cell? ⟨X1, 1, none⟩ = some (.int .i64 n0) := carry h4 (q1_3)
        have B4 := Lib.hid (below_then B3.out h4)
        clear h4 f0_3 f1_3 q0_3 q1_3
        go_wp2_with fail
        go_at_call 15
        refine (valid_any _ ha0 _ hn0 _).mono ?_
        rintro e w5 ⟨rfl, h5⟩
        have f0_5 : w5.cell? ⟨w.heap.size, 0, none⟩ = some (.int .u32 (a0 : Nat)) := carry h5 (f0_4)
        have f1_5 : w5.cell? ⟨w.heap.size, 1, none⟩ = some (.int .i64 n0) := carry h5 (f1_4)
        have q0_5 : w5.cell? ⟨X1, 0, none⟩ = some (.int .u32 (a0 : Nat)) := carry h5 (q0_4)
        have q1_5 : w5.cell? ⟨X1, 1, none⟩ = some (.int .i64 n0) := carry h5 (q1_4)
        have B5 := Lib.hid (below_then B4.out h5)
        clear h5 f0_4 f1_4 q0_4 q1_4
        go_wp2_with fail
        go_at_call 36
        refine (R.out _).mono ?_
        rintro e w6 ⟨rfl, h6⟩
        have f0_6 : w6.cell? ⟨w.heap.size, 0, none⟩ = some (.int .u32 (a0 : Nat)) := carry h6 (f0_5)
        have f1_6 : w6.cell? ⟨w.heap.size, 1, none⟩ = some (.int .i64 n0) := carry h6 (f1_5)
        have q0_6 : w6.cell? ⟨X1, 0, none⟩ = some (.int .u32 (a0 : Nat)) := carry h6 (q0_5)
        have q1_6 : w6.cell? ⟨X1, 1, none⟩ = some (.int .i64 n0) := carry h6 (q1_5)
        have B6 := Lib.hid (below_then B5.out h6)
        clear h6 f0_5 f1_5 q0_5 q1_5
        go_wp2_with fail
        go_at_call 34
        refine (A.out _).mono ?_
        rintro e w7 ⟨rfl, h7⟩
        have r0_7 : w7.cell? ⟨w6.heap.size, 0, none⟩ = some (.int .u32 0) := carry h7 (by go_simp)
        have r1_7 : w7.cell? ⟨w6.heap.size, 1, none⟩ = some (.int .i64 0) := carry h7 (by go_simp)
        have B7 := Lib.hid (below_then (below_then B6.out (below_alloc _ _)) h7)
        clear h7
        generalize w6.heap.size = X2 at *
        go_wp2_with fail
        go_at_call 21
        refine (lives_any _ (tab_below HT.out B7.out)).mono ?_
        rintro e w8 ⟨rfl, h8⟩
        have r0_8 : w8.cell? ⟨X2, 0, none⟩ = some (.int .u32 0) := carry h8 (r0_7)
        have r1_8 : w8.cell? ⟨X2, 1, none⟩ = some (.int .i64 0) := carry h8 (r1_7)
        have B8 := Lib.hid (below_then B7.out h8)
        clear h8 r0_7 r1_7
        go_wp2_with fail
        go_ret
        exact ⟨rfl, B8.out⟩
      | some d =>
        have A := Lib.hid (show ∀ W, Calls Tryd.prog 34 #[.string (bs L)] W fun e w' => e = .returned (.tuple #[.int .u32 d, .int .i64 0]) ∧ Below W.heap.size W w' from fun W => by have := A0 W; rw [hq] at this; exact this)
        have hd := pa_lt hq
        have hda := addr_pa hq
        clear A0 hq
        go_enter Tryd.func11, Tryd.ntmps11
        go_wp2_with fail
        go_at_call 32
        refine (text_any _ ha0 _ hn0 _ (tab_below HT.out (below_alloc _ _))).mono ?_
        rintro e w1 ⟨rfl, h1⟩
        have f0_1 : w1.cell? ⟨w.heap.size, 0, none⟩ = some (.int .u32 (a0 : Nat)) := carry h1 (by go_simp)
        have f1_1 : w1.cell? ⟨w.heap.size, 1, none⟩ = some (.int .i64 n0) := carry h1 (by go_simp)
        have B1 := Lib.hid (below_then (below_alloc _ _) h1)
        clear h1
        go_wp2_with fail
        go_at_call 36
        refine (ex_back _ ha0 _ hv _).mono ?_
        rintro e w2 ⟨rfl, h2⟩
        have f0_2 : w2.cell? ⟨w.heap.size, 0, none⟩ = some (.int .u32 (a0 : Nat)) := carry h2 (f0_1)
        have f1_2 : w2.cell? ⟨w.heap.size, 1, none⟩ = some (.int .i64 n0) := carry h2 (f1_1)
        have B2 := Lib.hid (below_then B1.out h2)
        clear h2 f0_1 f1_1
        have zf02 : w.heap.size < w2.heap.size := World.block_lt_of_cell? _ _ f0_2
        go_wp2_with fail
        go_at_call 30
        refine (addr_any _ ha1 _ (tab_below HT.out (below_then B2.out (below_alloc _ _)))).mono ?_
        rintro e w3 ⟨rfl, h3⟩
        have f0_3 : w3.cell? ⟨w.heap.size, 0, none⟩ = some (.int .u32 (a0 : Nat)) := carry h3 (akeep f0_2)
        have f1_3 : w3.cell? ⟨w.heap.size, 1, none⟩ = some (.int .i64 n0) := carry h3 (akeep f1_2)
        have q0_3 : w3.cell? ⟨w2.heap.size, 0, none⟩ = some (.int .u32 (a0 : Nat)) := carry h3 (by go_simp)
        have q1_3 : w3.cell? ⟨w2.heap.size, 1, none⟩ = some (.int .i64 n0) := carry h3 (by go_simp)
        have B3 := Lib.hid (below_then (below_then B2.out (below_alloc _ _)) h3)
        clear h3 f0_2 f1_2
        clear zf02
        generalize w2.heap.size = X1 at *
        go_wp2_with fail
        go_at_call 34
        refine (ex_back_addr _ ha1 _).mono ?_
        rintro e w4 ⟨rfl, h4⟩
        have f0_4 : w4.cell? ⟨w.heap.size, 0, none⟩ = some (.int .u32 (a0 : Nat)) := carry h4 (f0_3)
        have f1_4 : w4.cell? ⟨w.heap.size, 1, none⟩ = some (.int .i64 n0) := carry h4 (f1_3)
        have q0_4 : w4.cell? ⟨X1, 0, none⟩ = some (.int .u32 (a0 : Nat)) := carry h4 (q0_3)
        have q1_4 : w4.cell? ⟨X1, 1, none⟩ = some (.int .i64 n0) := carry h4 (q1_3)
        have B4 := Lib.hid (below_then B3.out h4)
        clear h4 f0_3 f1_3 q0_3 q1_3
        go_wp2_with fail
        go_at_call 15
        refine (valid_any _ ha0 _ hn0 _).mono ?_
        rintro e w5 ⟨rfl, h5⟩
        have f0_5 : w5.cell? ⟨w.heap.size, 0, none⟩ = some (.int .u32 (a0 : Nat)) := carry h5 (f0_4)
        have f1_5 : w5.cell? ⟨w.heap.size, 1, none⟩ = some (.int .i64 n0) := carry h5 (f1_4)
        have q0_5 : w5.cell? ⟨X1, 0, none⟩ = some (.int .u32 (a0 : Nat)) := carry h5 (q0_4)
        have q1_5 : w5.cell? ⟨X1, 1, none⟩ = some (.int .i64 n0) := carry h5 (q1_4)
        have B5 := Lib.hid (below_then B4.out h5)
        clear h5 f0_4 f1_4 q0_4 q1_4
        go_wp2_with fail
        go_at_call 36
        refine (R.out _).mono ?_
        rintro e w6 ⟨rfl, h6⟩
        have f0_6 : w6.cell? ⟨w.heap.size, 0, none⟩ = some (.int .u32 (a0 : Nat)) := carry h6 (f0_5)
        have f1_6 : w6.cell? ⟨w.heap.size, 1, none⟩ = some (.int .i64 n0) := carry h6 (f1_5)
        have q0_6 : w6.cell? ⟨X1, 0, none⟩ = some (.int .u32 (a0 : Nat)) := carry h6 (q0_5)
        have q1_6 : w6.cell? ⟨X1, 1, none⟩ = some (.int .i64 n0) := carry h6 (q1_5)
        have B6 := Lib.hid (below_then B5.out h6)
        clear h6 f0_5 f1_5 q0_5 q1_5
        go_wp2_with fail
        go_at_call 34
        refine (A.out _).mono ?_
        rintro e w7 ⟨rfl, h7⟩
        have r0_7 : w7.cell? ⟨w6.heap.size, 0, none⟩ = some (.int .u32 0) := carry h7 (by go_simp)
        have r1_7 : w7.cell? ⟨w6.heap.size, 1, none⟩ = some (.int .i64 0) := carry h7 (by go_simp)
        have B7 := Lib.hid (below_then (below_then B6.out (below_alloc _ _)) h7)
        clear h7
        generalize w6.heap.size = X2 at *
        go_wp2_with fail
        go_at_call 30
        refine (addr_any _ hd _ (tab_below HT.out B7.out)).mono ?_
        rintro e w8 ⟨rfl, h8⟩
        have r0_8 : w8.cell? ⟨X2, 0, none⟩ = some (.int .u32 0) := carry h8 (r0_7)
        have r1_8 : w8.cell? ⟨X2, 1, none⟩ = some (.int .i64 0) := carry h8 (r1_7)
        have B8 := Lib.hid (below_then B7.out h8)
        clear h8 r0_7 r1_7
        go_wp2_with fail
        go_at_call 21
        refine (lives_any _ (tab_below HT.out B8.out)).mono ?_
        rintro e w9 ⟨rfl, h9⟩
        have r0_9 : w9.cell? ⟨X2, 0, none⟩ = some (.int .u32 0) := carry h9 (r0_8)
        have r1_9 : w9.cell? ⟨X2, 1, none⟩ = some (.int .i64 0) := carry h9 (r1_8)
        have B9 := Lib.hid (below_then B8.out h9)
        clear h9 r0_8 r1_8
        go_wp2_with fail
        go_ret
        exact ⟨rfl, B9.out⟩
    | some x =>
      obtain ⟨c, m⟩ := x
      obtain ⟨htx, hc, hm⟩ := text_pr hp
      have hmI : I64 (m : Int) := by omega
      cases hv2 : vld c m
      · have R := Lib.hid (show ∀ W, Calls Tryd.prog 36 #[.string (bs L)] W fun e w' => e = .returned (.tuple #[.agg #[.int .u32 0, .int .i64 0], .int .i64 1]) ∧ Below W.heap.size W w' from fun W => by have := R0 W; rw [hp, prV, hv2] at this; exact this)
        clear R0 hp htx
        cases hq : pa L with
        | none =>
          have A := Lib.hid (show ∀ W, Calls Tryd.prog 34 #[.string (bs L)] W fun e w' => e = .returned (.tuple #[.int .u32 0, .int .i64 2]) ∧ Below W.heap.size W w' from fun W => by have := A0 W; rw [hq] at this; exact this)
          clear A0 hq
          go_enter Tryd.func11, Tryd.ntmps11
          go_wp2_with fail
          go_at_call 32
          refine (text_any _ ha0 _ hn0 _ (tab_below HT.out (below_alloc _ _))).mono ?_
          rintro e w1 ⟨rfl, h1⟩
          have f0_1 : w1.cell? ⟨w.heap.size, 0, none⟩ = some (.int .u32 (a0 : Nat)) := carry h1 (by go_simp)
          have f1_1 : w1.cell? ⟨w.heap.size, 1, none⟩ = some (.int .i64 n0) := carry h1 (by go_simp)
          have B1 := Lib.hid (below_then (below_alloc _ _) h1)
          clear h1
          go_wp2_with fail
          go_at_call 36
          refine (ex_back _ ha0 _ hv _).mono ?_
          rintro e w2 ⟨rfl, h2⟩
          have f0_2 : w2.cell? ⟨w.heap.size, 0, none⟩ = some (.int .u32 (a0 : Nat)) := carry h2 (f0_1)
          have f1_2 : w2.cell? ⟨w.heap.size, 1, none⟩ = some (.int .i64 n0) := carry h2 (f1_1)
          have B2 := Lib.hid (below_then B1.out h2)
          clear h2 f0_1 f1_1
          have zf02 : w.heap.size < w2.heap.size := World.block_lt_of_cell? _ _ f0_2
          go_wp2_with fail
          go_at_call 30
          refine (addr_any _ ha1 _ (tab_below HT.out (below_then B2.out (below_alloc _ _)))).mono ?_
          rintro e w3 ⟨rfl, h3⟩
          have f0_3 : w3.cell? ⟨w.heap.size, 0, none⟩ = some (.int .u32 (a0 : Nat)) := carry h3 (akeep f0_2)
          have f1_3 : w3.cell? ⟨w.heap.size, 1, none⟩ = some (.int .i64 n0) := carry h3 (akeep f1_2)
          have q0_3 : w3.cell? ⟨w2.heap.size, 0, none⟩ = some (.int .u32 (a0 : Nat)) := carry h3 (by go_simp)
          have q1_3 : w3.cell? ⟨w2.heap.size, 1, none⟩ = some (.int .i64 n0) := carry h3 (by go_simp)
          have B3 := Lib.hid (below_then (below_then B2.out (below_alloc _ _)) h3)
          clear h3 f0_2 f1_2
          clear zf02
          generalize w2.heap.size = X1 at *
          go_wp2_with fail
          go_at_call 34
          refine (ex_back_addr _ ha1 _).mono ?_
          rintro e w4 ⟨rfl, h4⟩
          have f0_4 : w4.cell? ⟨w.heap.size, 0, none⟩ = some (.int .u32 (a0 : Nat)) := carry h4 (f0_3)
          have f1_4 : w4.cell? ⟨w.heap.size, 1, none⟩ = some (.int .i64 n0) := carry h4 (f1_3)
          have q0_4 : w4.cell? ⟨X1, 0, none⟩ = some (.int .u32 (a0 : Nat)) := carry h4 (q0_3)
          have q1_4 : w4.cell? ⟨X1, 1, none⟩ = some (.int .i64 n0) := carry h4 (q1_3)
          have B4 := Lib.hid (below_then B3.out h4)
          clear h4 f0_3 f1_3 q0_3 q1_3
          go_wp2_with fail
          go_at_call 15
          refine (valid_any _ ha0 _ hn0 _).mono ?_
          rintro e w5 ⟨rfl, h5⟩
          have f0_5 : w5.cell? ⟨w.heap.size, 0, none⟩ = some (.int .u32 (a0 : Nat)) := carry h5 (f0_4)
          have f1_5 : w5.cell? ⟨w.heap.size, 1, none⟩ = some (.int .i64 n0) := carry h5 (f1_4)
          have q0_5 : w5.cell? ⟨X1, 0, none⟩ = some (.int .u32 (a0 : Nat)) := carry h5 (q0_4)
          have q1_5 : w5.cell? ⟨X1, 1, none⟩ = some (.int .i64 n0) := carry h5 (q1_4)
          have B5 := Lib.hid (below_then B4.out h5)
          clear h5 f0_4 f1_4 q0_4 q1_4
          go_wp2_with fail
          go_at_call 36
          refine (R.out _).mono ?_
          rintro e w6 ⟨rfl, h6⟩
          have f0_6 : w6.cell? ⟨w.heap.size, 0, none⟩ = some (.int .u32 (a0 : Nat)) := carry h6 (f0_5)
          have f1_6 : w6.cell? ⟨w.heap.size, 1, none⟩ = some (.int .i64 n0) := carry h6 (f1_5)
          have q0_6 : w6.cell? ⟨X1, 0, none⟩ = some (.int .u32 (a0 : Nat)) := carry h6 (q0_5)
          have q1_6 : w6.cell? ⟨X1, 1, none⟩ = some (.int .i64 n0) := carry h6 (q1_5)
          have B6 := Lib.hid (below_then B5.out h6)
          clear h6 f0_5 f1_5 q0_5 q1_5
          go_wp2_with fail
          go_at_call 34
          refine (A.out _).mono ?_
          rintro e w7 ⟨rfl, h7⟩
          have r0_7 : w7.cell? ⟨w6.heap.size, 0, none⟩ = some (.int .u32 0) := carry h7 (by go_simp)
          have r1_7 : w7.cell? ⟨w6.heap.size, 1, none⟩ = some (.int .i64 0) := carry h7 (by go_simp)
          have B7 := Lib.hid (below_then (below_then B6.out (below_alloc _ _)) h7)
          clear h7
          generalize w6.heap.size = X2 at *
          go_wp2_with fail
          go_at_call 21
          refine (lives_any _ (tab_below HT.out B7.out)).mono ?_
          rintro e w8 ⟨rfl, h8⟩
          have r0_8 : w8.cell? ⟨X2, 0, none⟩ = some (.int .u32 0) := carry h8 (r0_7)
          have r1_8 : w8.cell? ⟨X2, 1, none⟩ = some (.int .i64 0) := carry h8 (r1_7)
          have B8 := Lib.hid (below_then B7.out h8)
          clear h8 r0_7 r1_7
          go_wp2_with fail
          go_ret
          exact ⟨rfl, B8.out⟩
        | some d =>
          have A := Lib.hid (show ∀ W, Calls Tryd.prog 34 #[.string (bs L)] W fun e w' => e = .returned (.tuple #[.int .u32 d, .int .i64 0]) ∧ Below W.heap.size W w' from fun W => by have := A0 W; rw [hq] at this; exact this)
          have hd := pa_lt hq
          have hda := addr_pa hq
          clear A0 hq
          go_enter Tryd.func11, Tryd.ntmps11
          go_wp2_with fail
          go_at_call 32
          refine (text_any _ ha0 _ hn0 _ (tab_below HT.out (below_alloc _ _))).mono ?_
          rintro e w1 ⟨rfl, h1⟩
          have f0_1 : w1.cell? ⟨w.heap.size, 0, none⟩ = some (.int .u32 (a0 : Nat)) := carry h1 (by go_simp)
          have f1_1 : w1.cell? ⟨w.heap.size, 1, none⟩ = some (.int .i64 n0) := carry h1 (by go_simp)
          have B1 := Lib.hid (below_then (below_alloc _ _) h1)
          clear h1
          go_wp2_with fail
          go_at_call 36
          refine (ex_back _ ha0 _ hv _).mono ?_
          rintro e w2 ⟨rfl, h2⟩
          have f0_2 : w2.cell? ⟨w.heap.size, 0, none⟩ = some (.int .u32 (a0 : Nat)) := carry h2 (f0_1)
          have f1_2 : w2.cell? ⟨w.heap.size, 1, none⟩ = some (.int .i64 n0) := carry h2 (f1_1)
          have B2 := Lib.hid (below_then B1.out h2)
          clear h2 f0_1 f1_1
          have zf02 : w.heap.size < w2.heap.size := World.block_lt_of_cell? _ _ f0_2
          go_wp2_with fail
          go_at_call 30
          refine (addr_any _ ha1 _ (tab_below HT.out (below_then B2.out (below_alloc _ _)))).mono ?_
          rintro e w3 ⟨rfl, h3⟩
          have f0_3 : w3.cell? ⟨w.heap.size, 0, none⟩ = some (.int .u32 (a0 : Nat)) := carry h3 (akeep f0_2)
          have f1_3 : w3.cell? ⟨w.heap.size, 1, none⟩ = some (.int .i64 n0) := carry h3 (akeep f1_2)
          have q0_3 : w3.cell? ⟨w2.heap.size, 0, none⟩ = some (.int .u32 (a0 : Nat)) := carry h3 (by go_simp)
          have q1_3 : w3.cell? ⟨w2.heap.size, 1, none⟩ = some (.int .i64 n0) := carry h3 (by go_simp)
          have B3 := Lib.hid (below_then (below_then B2.out (below_alloc _ _)) h3)
          clear h3 f0_2 f1_2
          clear zf02
          generalize w2.heap.size = X1 at *
          go_wp2_with fail
          go_at_call 34
          refine (ex_back_addr _ ha1 _).mono ?_
          rintro e w4 ⟨rfl, h4⟩
          have f0_4 : w4.cell? ⟨w.heap.size, 0, none⟩ = some (.int .u32 (a0 : Nat)) := carry h4 (f0_3)
          have f1_4 : w4.cell? ⟨w.heap.size, 1, none⟩ = some (.int .i64 n0) := carry h4 (f1_3)
          have q0_4 : w4.cell? ⟨X1, 0, none⟩ = some (.int .u32 (a0 : Nat)) := carry h4 (q0_3)
          have q1_4 : w4.cell? ⟨X1, 1, none⟩ = some (.int .i64 n0) := carry h4 (q1_3)
          have B4 := Lib.hid (below_then B3.out h4)
          clear h4 f0_3 f1_3 q0_3 q1_3
          go_wp2_with fail
          go_at_call 15
          refine (valid_any _ ha0 _ hn0 _).mono ?_
          rintro e w5 ⟨rfl, h5⟩
          have f0_5 : w5.cell? ⟨w.heap.size, 0, none⟩ = some (.int .u32 (a0 : Nat)) := carry h5 (f0_4)
          have f1_5 : w5.cell? ⟨w.heap.size, 1, none⟩ = some (.int .i64 n0) := carry h5 (f1_4)
          have q0_5 : w5.cell? ⟨X1, 0, none⟩ = some (.int .u32 (a0 : Nat)) := carry h5 (q0_4)
          have q1_5 : w5.cell? ⟨X1, 1, none⟩ = some (.int .i64 n0) := carry h5 (q1_4)
          have B5 := Lib.hid (below_then B4.out h5)
          clear h5 f0_4 f1_4 q0_4 q1_4
          go_wp2_with fail
          go_at_call 36
          refine (R.out _).mono ?_
          rintro e w6 ⟨rfl, h6⟩
          have f0_6 : w6.cell? ⟨w.heap.size, 0, none⟩ = some (.int .u32 (a0 : Nat)) := carry h6 (f0_5)
          have f1_6 : w6.cell? ⟨w.heap.size, 1, none⟩ = some (.int .i64 n0) := carry h6 (f1_5)
          have q0_6 : w6.cell? ⟨X1, 0, none⟩ = some (.int .u32 (a0 : Nat)) := carry h6 (q0_5)
          have q1_6 : w6.cell? ⟨X1, 1, none⟩ = some (.int .i64 n0) := carry h6 (q1_5)
          have B6 := Lib.hid (below_then B5.out h6)
          clear h6 f0_5 f1_5 q0_5 q1_5
          go_wp2_with fail
          go_at_call 34
          refine (A.out _).mono ?_
          rintro e w7 ⟨rfl, h7⟩
          have r0_7 : w7.cell? ⟨w6.heap.size, 0, none⟩ = some (.int .u32 0) := carry h7 (by go_simp)
          have r1_7 : w7.cell? ⟨w6.heap.size, 1, none⟩ = some (.int .i64 0) := carry h7 (by go_simp)
          have B7 := Lib.hid (below_then (below_then B6.out (below_alloc _ _)) h7)
          clear h7
          generalize w6.heap.size = X2 at *
          go_wp2_with fail
          go_at_call 30
          refine (addr_any _ hd _ (tab_below HT.out B7.out)).mono ?_
          rintro e w8 ⟨rfl, h8⟩
          have r0_8 : w8.cell? ⟨X2, 0, none⟩ = some (.int .u32 0) := carry h8 (r0_7)
          have r1_8 : w8.cell? ⟨X2, 1, none⟩ = some (.int .i64 0) := carry h8 (r1_7)
          have B8 := Lib.hid (below_then B7.out h8)
          clear h8 r0_7 r1_7
          go_wp2_with fail
          go_at_call 21
          refine (lives_any _ (tab_below HT.out B8.out)).mono ?_
          rintro e w9 ⟨rfl, h9⟩
          have r0_9 : w9.cell? ⟨X2, 0, none⟩ = some (.int .u32 0) := carry h9 (r0_8)
          have r1_9 : w9.cell? ⟨X2, 1, none⟩ = some (.int .i64 0) := carry h9 (r1_8)
          have B9 := Lib.hid (below_then B8.out h9)
          clear h9 r0_8 r1_8
          go_wp2_with fail
          go_ret
          exact ⟨rfl, B9.out⟩
      · have R := Lib.hid (show ∀ W, Calls Tryd.prog 36 #[.string (bs L)] W fun e w' => e = .returned (.tuple #[.agg #[.int .u32 c, .int .i64 m], .int .i64 0]) ∧ Below W.heap.size W w' from fun W => by have := R0 W; rw [hp, prV, hv2] at this; exact this)
        have htt : txt c (m : Int) = L := by rw [txt_yes hv2]; exact htx
        clear R0 hp htx
        cases hq : pa L with
        | none =>
          have A := Lib.hid (show ∀ W, Calls Tryd.prog 34 #[.string (bs L)] W fun e w' => e = .returned (.tuple #[.int .u32 0, .int .i64 2]) ∧ Below W.heap.size W w' from fun W => by have := A0 W; rw [hq] at this; exact this)
          clear A0 hq
          go_enter Tryd.func11, Tryd.ntmps11
          go_wp2_with fail
          go_at_call 32
          refine (text_any _ ha0 _ hn0 _ (tab_below HT.out (below_alloc _ _))).mono ?_
          rintro e w1 ⟨rfl, h1⟩
          have f0_1 : w1.cell? ⟨w.heap.size, 0, none⟩ = some (.int .u32 (a0 : Nat)) := carry h1 (by go_simp)
          have f1_1 : w1.cell? ⟨w.heap.size, 1, none⟩ = some (.int .i64 n0) := carry h1 (by go_simp)
          have B1 := Lib.hid (below_then (below_alloc _ _) h1)
          clear h1
          go_wp2_with fail
          go_at_call 36
          refine (ex_back _ ha0 _ hv _).mono ?_
          rintro e w2 ⟨rfl, h2⟩
          have f0_2 : w2.cell? ⟨w.heap.size, 0, none⟩ = some (.int .u32 (a0 : Nat)) := carry h2 (f0_1)
          have f1_2 : w2.cell? ⟨w.heap.size, 1, none⟩ = some (.int .i64 n0) := carry h2 (f1_1)
          have B2 := Lib.hid (below_then B1.out h2)
          clear h2 f0_1 f1_1
          have zf02 : w.heap.size < w2.heap.size := World.block_lt_of_cell? _ _ f0_2
          go_wp2_with fail
          go_at_call 30
          refine (addr_any _ ha1 _ (tab_below HT.out (below_then B2.out (below_alloc _ _)))).mono ?_
          rintro e w3 ⟨rfl, h3⟩
          have f0_3 : w3.cell? ⟨w.heap.size, 0, none⟩ = some (.int .u32 (a0 : Nat)) := carry h3 (akeep f0_2)
          have f1_3 : w3.cell? ⟨w.heap.size, 1, none⟩ = some (.int .i64 n0) := carry h3 (akeep f1_2)
          have q0_3 : w3.cell? ⟨w2.heap.size, 0, none⟩ = some (.int .u32 (a0 : Nat)) := carry h3 (by go_simp)
          have q1_3 : w3.cell? ⟨w2.heap.size, 1, none⟩ = some (.int .i64 n0) := carry h3 (by go_simp)
          have B3 := Lib.hid (below_then (below_then B2.out (below_alloc _ _)) h3)
          clear h3 f0_2 f1_2
          clear zf02
          generalize w2.heap.size = X1 at *
          go_wp2_with fail
          go_at_call 34
          refine (ex_back_addr _ ha1 _).mono ?_
          rintro e w4 ⟨rfl, h4⟩
          have f0_4 : w4.cell? ⟨w.heap.size, 0, none⟩ = some (.int .u32 (a0 : Nat)) := carry h4 (f0_3)
          have f1_4 : w4.cell? ⟨w.heap.size, 1, none⟩ = some (.int .i64 n0) := carry h4 (f1_3)
          have q0_4 : w4.cell? ⟨X1, 0, none⟩ = some (.int .u32 (a0 : Nat)) := carry h4 (q0_3)
          have q1_4 : w4.cell? ⟨X1, 1, none⟩ = some (.int .i64 n0) := carry h4 (q1_3)
          have B4 := Lib.hid (below_then B3.out h4)
          clear h4 f0_3 f1_3 q0_3 q1_3
          go_wp2_with fail
          go_at_call 15
          refine (valid_any _ ha0 _ hn0 _).mono ?_
          rintro e w5 ⟨rfl, h5⟩
          have f0_5 : w5.cell? ⟨w.heap.size, 0, none⟩ = some (.int .u32 (a0 : Nat)) := carry h5 (f0_4)
          have f1_5 : w5.cell? ⟨w.heap.size, 1, none⟩ = some (.int .i64 n0) := carry h5 (f1_4)
          have q0_5 : w5.cell? ⟨X1, 0, none⟩ = some (.int .u32 (a0 : Nat)) := carry h5 (q0_4)
          have q1_5 : w5.cell? ⟨X1, 1, none⟩ = some (.int .i64 n0) := carry h5 (q1_4)
          have B5 := Lib.hid (below_then B4.out h5)
          clear h5 f0_4 f1_4 q0_4 q1_4
          go_wp2_with fail
          go_at_call 36
          refine (R.out _).mono ?_
          rintro e w6 ⟨rfl, h6⟩
          have f0_6 : w6.cell? ⟨w.heap.size, 0, none⟩ = some (.int .u32 (a0 : Nat)) := carry h6 (f0_5)
          have f1_6 : w6.cell? ⟨w.heap.size, 1, none⟩ = some (.int .i64 n0) := carry h6 (f1_5)
          have q0_6 : w6.cell? ⟨X1, 0, none⟩ = some (.int .u32 (a0 : Nat)) := carry h6 (q0_5)
          have q1_6 : w6.cell? ⟨X1, 1, none⟩ = some (.int .i64 n0) := carry h6 (q1_5)
          have B6 := Lib.hid (below_then B5.out h6)
          clear h6 f0_5 f1_5 q0_5 q1_5
          go_wp2_with fail
          go_at_call 34
          refine (A.out _).mono ?_
          rintro e w7 ⟨rfl, h7⟩
          have r0_7 : w7.cell? ⟨w6.heap.size, 0, none⟩ = some (.int .u32 (c : Nat)) := carry h7 (by go_simp)
          have r1_7 : w7.cell? ⟨w6.heap.size, 1, none⟩ = some (.int .i64 (m : Nat)) := carry h7 (by go_simp)
          have B7 := Lib.hid (below_then (below_then B6.out (below_alloc _ _)) h7)
          clear h7
          generalize w6.heap.size = X2 at *
          go_wp2_with fail
          go_at_call 15
          refine (valid_any _ hc _ hmI _).mono ?_
          rintro e w8 ⟨rfl, h8⟩
          have r0_8 : w8.cell? ⟨X2, 0, none⟩ = some (.int .u32 (c : Nat)) := carry h8 (r0_7)
          have r1_8 : w8.cell? ⟨X2, 1, none⟩ = some (.int .i64 (m : Nat)) := carry h8 (r1_7)
          have B8 := Lib.hid (below_then B7.out h8)
          clear h8 r0_7 r1_7
          go_wp2_with fail
          go_at_call 32
          refine (text_any _ hc _ hmI _ (tab_below HT.out B8.out)).mono ?_
          rintro e w9 ⟨rfl, h9⟩
          have r0_9 : w9.cell? ⟨X2, 0, none⟩ = some (.int .u32 (c : Nat)) := carry h9 (r0_8)
          have r1_9 : w9.cell? ⟨X2, 1, none⟩ = some (.int .i64 (m : Nat)) := carry h9 (r1_8)
          have B9 := Lib.hid (below_then B8.out h9)
          clear h9 r0_8 r1_8
          go_wp2_with fail
          go_at_call 21
          refine (lives_any _ (tab_below HT.out B9.out)).mono ?_
          rintro e w10 ⟨rfl, h10⟩
          have r0_10 : w10.cell? ⟨X2, 0, none⟩ = some (.int .u32 (c : Nat)) := carry h10 (r0_9)
          have r1_10 : w10.cell? ⟨X2, 1, none⟩ = some (.int .i64 (m : Nat)) := carry h10 (r1_9)
          have B10 := Lib.hid (below_then B9.out h10)
          clear h10 r0_9 r1_9
          go_wp2_with fail
          go_ret
          exact ⟨rfl, B10.out⟩
        | some d =>
          have A := Lib.hid (show ∀ W, Calls Tryd.prog 34 #[.string (bs L)] W fun e w' => e = .returned (.tuple #[.int .u32 d, .int .i64 0]) ∧ Below W.heap.size W w' from fun W => by have := A0 W; rw [hq] at this; exact this)
          have hd := pa_lt hq
          have hda := addr_pa hq
          clear A0 hq
          go_enter Tryd.func11, Tryd.ntmps11
          go_wp2_with fail
          go_at_call 32
          refine (text_any _ ha0 _ hn0 _ (tab_below HT.out (below_alloc _ _))).mono ?_
          rintro e w1 ⟨rfl, h1⟩
          have f0_1 : w1.cell? ⟨w.heap.size, 0, none⟩ = some (.int .u32 (a0 : Nat)) := carry h1 (by go_simp)
          have f1_1 : w1.cell? ⟨w.heap.size, 1, none⟩ = some (.int .i64 n0) := carry h1 (by go_simp)
          have B1 := Lib.hid (below_then (below_alloc _ _) h1)
          clear h1
          go_wp2_with fail
          go_at_call 36
          refine (ex_back _ ha0 _ hv _).mono ?_
          rintro e w2 ⟨rfl, h2⟩
          have f0_2 : w2.cell? ⟨w.heap.size, 0, none⟩ = some (.int .u32 (a0 : Nat)) := carry h2 (f0_1)
          have f1_2 : w2.cell? ⟨w.heap.size, 1, none⟩ = some (.int .i64 n0) := carry h2 (f1_1)
          have B2 := Lib.hid (below_then B1.out h2)
          clear h2 f0_1 f1_1
          have zf02 : w.heap.size < w2.heap.size := World.block_lt_of_cell? _ _ f0_2
          go_wp2_with fail
          go_at_call 30
          refine (addr_any _ ha1 _ (tab_below HT.out (below_then B2.out (below_alloc _ _)))).mono ?_
          rintro e w3 ⟨rfl, h3⟩
          have f0_3 : w3.cell? ⟨w.heap.size, 0, none⟩ = some (.int .u32 (a0 : Nat)) := carry h3 (akeep f0_2)
          have f1_3 : w3.cell? ⟨w.heap.size, 1, none⟩ = some (.int .i64 n0) := carry h3 (akeep f1_2)
          have q0_3 : w3.cell? ⟨w2.heap.size, 0, none⟩ = some (.int .u32 (a0 : Nat)) := carry h3 (by go_simp)
          have q1_3 : w3.cell? ⟨w2.heap.size, 1, none⟩ = some (.int .i64 n0) := carry h3 (by go_simp)
          have B3 := Lib.hid (below_then (below_then B2.out (below_alloc _ _)) h3)
          clear h3 f0_2 f1_2
          clear zf02
          generalize w2.heap.size = X1 at *
          go_wp2_with fail
          go_at_call 34
          refine (ex_back_addr _ ha1 _).mono ?_
          rintro e w4 ⟨rfl, h4⟩
          have f0_4 : w4.cell? ⟨w.heap.size, 0, none⟩ = some (.int .u32 (a0 : Nat)) := carry h4 (f0_3)
          have f1_4 : w4.cell? ⟨w.heap.size, 1, none⟩ = some (.int .i64 n0) := carry h4 (f1_3)
          have q0_4 : w4.cell? ⟨X1, 0, none⟩ = some (.int .u32 (a0 : Nat)) := carry h4 (q0_3)
          have q1_4 : w4.cell? ⟨X1, 1, none⟩ = some (.int .i64 n0) := carry h4 (q1_3)
          have B4 := Lib.hid (below_then B3.out h4)
          clear h4 f0_3 f1_3 q0_3 q1_3
          go_wp2_with fail
          go_at_call 15
          refine (valid_any _ ha0 _ hn0 _).mono ?_
          rintro e w5 ⟨rfl, h5⟩
          have f0_5 : w5.cell? ⟨w.heap.size, 0, none⟩ = some (.int .u32 (a0 : Nat)) := carry h5 (f0_4)
          have f1_5 : w5.cell? ⟨w.heap.size, 1, none⟩ = some (.int .i64 n0) := carry h5 (f1_4)
          have q0_5 : w5.cell? ⟨X1, 0, none⟩ = some (.int .u32 (a0 : Nat)) := carry h5 (q0_4)
          have q1_5 : w5.cell? ⟨X1, 1, none⟩ = some (.int .i64 n0) := carry h5 (q1_4)
          have B5 := Lib.hid (below_then B4.out h5)
          clear h5 f0_4 f1_4 q0_4 q1_4
          go_wp2_with fail
          go_at_call 36
          refine (R.out _).mono ?_
          rintro e w6 ⟨rfl, h6⟩
          have f0_6 : w6.cell? ⟨w.heap.size, 0, none⟩ = some (.int .u32 (a0 : Nat)) := carry h6 (f0_5)
          have f1_6 : w6.cell? ⟨w.heap.size, 1, none⟩ = some (.int .i64 n0) := carry h6 (f1_5)
          have q0_6 : w6.cell? ⟨X1, 0, none⟩ = some (.int .u32 (a0 : Nat)) := carry h6 (q0_5)
          have q1_6 : w6.cell? ⟨X1, 1, none⟩ = some (.int .i64 n0) := carry h6 (q1_5)
          have B6 := Lib.hid (below_then B5.out h6)
          clear h6 f0_5 f1_5 q0_5 q1_5
          go_wp2_with fail
          go_at_call 34
          refine (A.out _).mono ?_
          rintro e w7 ⟨rfl, h7⟩
          have r0_7 : w7.cell? ⟨w6.heap.size, 0, none⟩ = some (.int .u32 (c : Nat)) := carry h7 (by go_simp)
          have r1_7 : w7.cell? ⟨w6.heap.size, 1, none⟩ = some (.int .i64 (m : Nat)) := carry h7 (by go_simp)
          have B7 := Lib.hid (below_then (below_then B6.out (below_alloc _ _)) h7)
          clear h7
          generalize w6.heap.size = X2 at *
          go_wp2_with fail
          go_at_call 15
          refine (valid_any _ hc _ hmI _).mono ?_
          rintro e w8 ⟨rfl, h8⟩
          have r0_8 : w8.cell? ⟨X2, 0, none⟩ = some (.int .u32 (c : Nat)) := carry h8 (r0_7)
          have r1_8 : w8.cell? ⟨X2, 1, none⟩ = some (.int .i64 (m : Nat)) := carry h8 (r1_7)
          have B8 := Lib.hid (below_then B7.out h8)
          clear h8 r0_7 r1_7
          go_wp2_with fail
          go_at_call 32
          refine (text_any _ hc _ hmI _ (tab_below HT.out B8.out)).mono ?_
          rintro e w9 ⟨rfl, h9⟩
          have r0_9 : w9.cell? ⟨X2, 0, none⟩ = some (.int .u32 (c : Nat)) := carry h9 (r0_8)
          have r1_9 : w9.cell? ⟨X2, 1, none⟩ = some (.int .i64 (m : Nat)) := carry h9 (r1_8)
          have B9 := Lib.hid (below_then B8.out h9)
          clear h9 r0_8 r1_8
          go_wp2_with fail
          go_at_call 30
          refine (addr_any _ hd _ (tab_below HT.out B9.out)).mono ?_
          rintro e w10 ⟨rfl, h10⟩
          have r0_10 : w10.cell? ⟨X2, 0, none⟩ = some (.int .u32 (c : Nat)) := carry h10 (r0_9)
          have r1_10 : w10.cell? ⟨X2, 1, none⟩ = some (.int .i64 (m : Nat)) := carry h10 (r1_9)
          have B10 := Lib.hid (below_then B9.out h10)
          clear h10 r0_9 r1_9
          go_wp2_with fail
          go_at_call 21
          refine (lives_any _ (tab_below HT.out B10.out)).mono ?_
          rintro e w11 ⟨rfl, h11⟩
          have r0_11 : w11.cell? ⟨X2, 0, none⟩ = some (.int .u32 (c : Nat)) := carry h11 (r0_10)
          have r1_11 : w11.cell? ⟨X2, 1, none⟩ = some (.int .i64 (m : Nat)) := carry h11 (r1_10)
          have B11 := Lib.hid (below_then B10.out h11)
          clear h11 r0_10 r1_10
          go_wp2_with fail
          go_ret
          exact ⟨rfl, B11.out⟩
theorem contract (H : Type) (enc : TypeId × Value → H) (W : World) (base : Nat) (args : Array Value) (ds gs : List (DataW H)) (before : List MemPlace)
    (hval : ∀ (j : Nat) t v, Tryd.f11.params[j]? = some t → args[j]? = some v → Value.okWide Tryd.prog W .any base t v)
    (hW : DataW.Whole enc Tryd.prog Tryd.f11.params.toList Rows.prefixBackSpec.vars false W args.toList ds gs before)
    (hsz : (DataW.weightsEach Tryd.prog (Tryd.f11.params.toList ++ (OpenSpec.ofChange Rows.prefixBackSpec).bare.plain.varTypes Tryd.prog) (ds ++ gs)).all (· ≤ reachBytes) = true)
    (hL : laidMetH Tryd.prog Rows.prefixBackRow.laid W) :
    Calls Tryd.prog 11 args W fun e W' => ∃ v, e = .returned v ∧ Rows.prefixBackSpec.post enc Tryd.prog Tryd.f11 false true false false W args v W' := by
  have hT : Tab W := tab_of_laid hL
  have hW' := hW
  obtain ⟨p, q, hA0, hV, rfl, hfz, hnd⟩ := hW
  have hA : DataW.TrodAll enc Tryd.prog W 0 (fun _ => true) true Tryd.f11.params.toList args.toList ds p := hA0
  rw [Tryd.params11] at hA hval hsz
  obtain ⟨v0, vs0, d0, ds0, p0, q0, hargs, rfl, rfl, h0, r0⟩ := trodAll_cons hA
  obtain ⟨v1, vs1, d1, ds1, p1, q1, rfl, rfl, rfl, h1, r1⟩ := trodAll_cons r0
  obtain ⟨v2, vs2, d2, ds2, p2, q2, rfl, rfl, rfl, h2, r2⟩ := trodAll_cons r1
  obtain ⟨rfl, rfl, rfl⟩ := trodAll_nil r2
  obtain rfl : args = #[v0, v1, v2] := by cases args; simp_all
  obtain ⟨rfl, rfl⟩ := trodVars_none hV
  obtain ⟨a0, n0, rfl, rfl, rfl, ha0, hn0⟩ := open_prefix (hval 0 25 v0 rfl rfl) h0
  obtain ⟨a1, rfl, rfl, rfl, ha1⟩ := open_addr (hval 1 23 v1 rfl rfl) h1
  obtain ⟨s2, rfl, rfl, rfl, hm2⟩ := ChangeMaps.open_string Tryd.underlying9 (hval 2 9 v2 rfl rfl) h2
  have hs2 : s2.size ≤ 140737488355328 := by
    have := sized_string hsz (j := 2) (t := 9) rfl rfl
    have h47 := reachBytes_lt
    rw [list_len] at this; omega
  clear hA0
  simp only [List.append_nil] at hW'
  refine (walk a0 n0 ha0 hn0 a1 ha1 s2 hs2 W hT).mono fun e W' ⟨he, hb⟩ => ?_
  subst he
  exact ⟨_, rfl, _, _, _, [], [], [], hW', (trodAll_cons_mk (shut_bool Tryd.underlying4 _) trodAll_mk0), (trodAll_cons_mk (shut_prefix ha0 hn0) (trodAll_cons_mk (shut_addr ha1) (trodAll_cons_mk (ChangeMaps.shut_string Tryd.underlying9 hm2) trodAll_mk0))), rfl, hb.frame _, fun h => by cases h⟩
theorem reads (os : Os) {H : Type} (enc : TypeId × Value → H) : ∃ places, DataW.whole enc Tryd.prog ((laidWorld os).forCall (fun _ _ => 0) ⟨#[], #[.agg #[.int .u32 0, .int .i64 0], .int .u32 0, .string ByteArray.empty], []⟩).memory Tryd.f11.params.toList Rows.prefixBackSpec.vars false (#[.agg #[.int .u32 0, .int .i64 0], .int .u32 0, .string ByteArray.empty] : Array Value).toList 8 = some ([.agg [.lit (.int .u32 0), .lit (.int .i64 0)], .lit (.int .u32 0), .lit (.string [])], [], places) :=
  ⟨[], by kernel_rfl⟩
theorem lifted (os : Os) (started : os.Started) (H : Type) (enc : TypeId × Value → H) (F : Stop.Interp) :
    ReturnsInHanded {} Tryd.checked os 11 .any ((OpenSpec.ofChange Rows.prefixBackSpec).preRow enc Tryd.prog Tryd.f11 Rows.prefixBackRow.domain false Rows.prefixBackRow.laid) (((OpenSpec.ofChange Rows.prefixBackSpec).at F).post enc Tryd.prog Tryd.f11 false true false false) := by
  obtain ⟨places, hx⟩ := reads os enc
  refine returnsInHanded_of_row (C := Tryd.checked) (s := OpenSpec.ofChange Rows.prefixBackSpec) own started (by kernel_rfl) Tryd.func11
    (witness_row_at (enc := enc) (C := Tryd.checked) false (laidWorld os) #[.agg #[.int .u32 0, .int .i64 0], .int .u32 0, .string ByteArray.empty] rfl (by kernel_rfl) (by kernel_rfl) (by kernel_rfl)
      (OpenSpec.preRow_of_cond 8 hx (by kernel_rfl) (fun k hk => by cases hk) (by kernel_rfl) (laid_met os _))) ?_
  intro W base args ds gs before hval hW _ _ hsz hL _ _
  exact contract H enc W base args ds gs before hval hW hsz hL
theorem said : Rows.PrefixBackSaid :=
  OpenClaim.holds_of_cond 11 Tryd.f11 rfl rfl rfl rfl rfl rfl rfl ⟨rfl, rfl, rfl, rfl, rfl⟩ rfl rfl rfl rfl rfl (by kernel_rfl) Tryd.func11 (by kernel_rfl)
    (of_decide_eq_true (by kernel_rfl)) (by unfold Func.isWrapper; first | (rw [if_pos (by decide +kernel)]; kernel_rfl) | (rw [if_neg (by decide +kernel)]; exact ⟨rfl, rfl⟩))
    (fun os started H enc _ F => by rw [OpenClaim.pre_eq_preRow]; exact lifted os started H enc F)
theorem plain (f : FuncId) (fn : Func) (hf : Tryd.pinned.checked.prog.funcNamed "routing/routinglaw02.PrefixBack" = some f) (hfn : Tryd.pinned.checked.prog.funcs[f]? = some fn) :
    false = Tryd.pinned.checked.prog.looks [] ∧ ∀ (j : Nat) t, fn.params[j]? = some t → Tryd.pinned.checked.prog.wantsStandIn t = false := by
  obtain rfl : f = 11 := Option.some.inj ((show Tryd.prog.funcNamed "routing/routinglaw02.PrefixBack" = some 11 by kernel_rfl).symm.trans hf) |>.symm
  obtain rfl : fn = Tryd.f11 := (Option.some.inj (Tryd.func11.symm.trans hfn)).symm
  refine ⟨by kernel_rfl, fun j t ht => ?_⟩
  rw [Tryd.params11] at ht
  have hm := Array.mem_of_getElem? ht
  have hall : ∀ t ∈ (#[25, 23, 9] : Array TypeId), Tryd.prog.wantsStandIn t = false := by
    intro t h
    simp at h
    rcases h with rfl | rfl | rfl <;> kernel_rfl
  exact hall t hm
theorem card : Rows.PrefixBackCardSaid :=
  Claim7.holds_tied_plain_at .later [] _ _ _ _ said (fun _ h => by cases h) (by kernel_rfl) (fun _ h => by cases h) prefixBack_row_tie rfl ⟨rfl, rfl⟩ (by kernel_rfl) rfl plain (by kernel_rfl)
#print axioms card
end Go.Proofs.YtbcgfgklajdelaaDoor.prefixBack
