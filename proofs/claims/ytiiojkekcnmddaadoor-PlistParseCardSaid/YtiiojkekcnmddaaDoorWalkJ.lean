/-
  The walks of strings.Cut at one byte and of ParseAddr.
-/
import Derived.Test.YtiiojkekcnmddaaDoorWalkI
import Derived.Test.YtiiojkekcnmddaaDoorShelf
import Derived.LoopN
namespace Go.Proofs.YtiiojkekcnmddaaDoor
open Go.RowKit
set_option linter.unusedSimpArgs false
set_option linter.unusedVariables false
set_option maxHeartbeats 2000000
set_option maxRecDepth 100000

theorem idx_none : ∀ {c : UInt8} {l : List UInt8}, c ∉ l → Lib.indexByte l c = -1
  | _, [], _ => rfl
  | c, x :: l, h => by
    simp only [List.mem_cons, not_or] at h
    rw [Lib.indexByte, if_neg (by simpa using fun e => h.1 e.symm), idx_none h.2]; rfl
theorem idx_word : ∀ {c : UInt8} (p r : List UInt8), c ∉ p → Lib.indexByte (p ++ c :: r) c = p.length
  | c, [], r, _ => by rw [List.nil_append, Lib.indexByte, if_pos (by simp)]; rfl
  | c, x :: p, r, h => by
    simp only [List.mem_cons, not_or] at h
    rw [List.cons_append, Lib.indexByte, if_neg (by simpa using fun e => h.1 e.symm), idx_word p r h.2, if_neg (by simp)]; simp
theorem bs_size (l : List UInt8) : (bs l).size = l.length := by rw [← list_len, bs_list]
theorem bs_get (s : ByteArray) : s = bs s.data.toList := bs_of rfl
theorem ext_take (l : List UInt8) (i : Nat) : (bs l).extract 0 i = bs (l.take i) := bs_of (by simp [bs])
theorem ext_drop (l : List UInt8) (i : Nat) : (bs l).extract i (bs l).size = bs (l.drop i) := bs_of (by
  rw [bs_size]; simp [bs]; exact List.take_of_length_le (by simp))
theorem slCut_no (c : UInt8) (l : List UInt8) (hl : l.length ≤ 140737488355328) (h : c ∉ l) (w : World) :
    Calls Tryd.prog 61 #[.string (bs l), .string ⟨#[c]⟩] w fun e w' => e = .returned (.tuple #[.string (bs l), .string (bs []), .bool false]) ∧ ∃ n, w.drewN n = w' := by
  have hi : Lib.indexByte (bs l).data.toList c = -1 := by rw [bs_list]; exact idx_none h
  go_enter Tryd.func61, Tryd.ntmps61
  go_wp2_with (go_at_call 71; refine (Tryd.stringslite_Index_one _ _ _).mono ?_; rintro e w' ⟨rfl, rfl⟩)
  go_ret3
  exact ⟨rfl, 0, rfl⟩
theorem slCut_yes (c : UInt8) (p r : List UInt8) (hl : p.length + 1 + r.length ≤ 140737488355328) (h : c ∉ p) (w : World) :
    Calls Tryd.prog 61 #[.string (bs (p ++ c :: r)), .string ⟨#[c]⟩] w fun e w' => e = .returned (.tuple #[.string (bs p), .string (bs r), .bool true]) ∧ ∃ n, w.drewN n = w' := by
  have hi : Lib.indexByte (bs (p ++ c :: r)).data.toList c = (p.length : Int) := by rw [bs_list]; exact idx_word p r h
  have hz : (bs (p ++ c :: r)).size = p.length + 1 + r.length := by rw [bs_size]; simp; omega
  have e1 : (bs (p ++ c :: r)).extract 0 p.length = bs p := by rw [ext_take]; simp
  have e2 : (bs (p ++ c :: r)).extract (p.length + 1) (bs (p ++ c :: r)).size = bs r := by rw [ext_drop]; simp
  generalize bs (p ++ c :: r) = S at *
  have c1 : (p.length : Int) ≤ (S.size : Int) := by omega
  have c2 : (p.length : Int) + 1 ≤ (S.size : Int) := by omega
  clear hz
  go_enter Tryd.func61, Tryd.ntmps61
  go_wp2_with (go_at_call 71; refine (Tryd.stringslite_Index_one _ _ _).mono ?_; rintro e w' ⟨rfl, rfl⟩)
  go_region
  go_wp2
  go_ret3
  exact ⟨rfl, 1, rfl⟩
theorem below_drawn {w w' : World} (h : ∃ n, w.drewN n = w') : Below w.heap.size w w' := by
  obtain ⟨n, rfl⟩ := h; exact below_drewN (Below.refl _ _) n
theorem cut_no (c : UInt8) (l : List UInt8) (hl : l.length ≤ 140737488355328) (h : c ∉ l) (w : World) :
    Calls Tryd.prog 51 #[.string (bs l), .string ⟨#[c]⟩] w fun e w' => e = .returned (.tuple #[.string (bs l), .string (bs []), .bool false]) ∧ ∃ n, w.drewN n = w' := by
  go_enter Tryd.func51, Tryd.ntmps51
  go_wp2_with (go_at_call 61; refine (slCut_no c l hl h _).mono ?_; rintro e w' ⟨rfl, n, rfl⟩)
  go_ret3
  exact ⟨rfl, n, rfl⟩
theorem cut_yes (c : UInt8) (p r : List UInt8) (hl : p.length + 1 + r.length ≤ 140737488355328) (h : c ∉ p) (w : World) :
    Calls Tryd.prog 51 #[.string (bs (p ++ c :: r)), .string ⟨#[c]⟩] w fun e w' => e = .returned (.tuple #[.string (bs p), .string (bs r), .bool true]) ∧ ∃ n, w.drewN n = w' := by
  go_enter Tryd.func51, Tryd.ntmps51
  go_wp2_with (go_at_call 61; refine (slCut_yes c p r hl h _).mono ?_; rintro e w' ⟨rfl, n, rfl⟩)
  go_ret3
  exact ⟨rfl, n, rfl⟩
/-- Cut at one byte: the word ahead of it, the rest behind it, and whether it is there -/
theorem cut_any (c : UInt8) (l : List UInt8) (hl : l.length ≤ 140737488355328) (w : World) :
    Calls Tryd.prog 51 #[.string (bs l), .string ⟨#[c]⟩] w fun e w' => e = .returned (.tuple #[.string (bs (T.wordC c l)), .string (bs (T.restC c l)), .bool (decide (c ∈ l))]) ∧ ∃ n, w.drewN n = w' := by
  rcases T.split_word c l with ⟨h1, h2, h3⟩ | ⟨h1, h2⟩
  · have := cut_no c l hl h3 w
    rw [decide_eq_false h3, h2, ← h1]; exact this
  · have hlen := congrArg List.length h1
    rw [List.length_append, List.length_cons] at hlen
    have := cut_yes c (T.wordC c l) (T.restC c l) (by omega) h2 w
    rw [← h1] at this
    rw [decide_eq_true (show c ∈ l by rw [h1]; simp)]; exact this
theorem word_len (c : UInt8) (l : List UInt8) : (T.wordC c l).length ≤ l.length ∧ (T.restC c l).length ≤ l.length := by
  rcases T.split_word c l with ⟨h1, h2, h3⟩ | ⟨h1, h2⟩
  · rw [h2, ← h1]; simp
  · have hlen := congrArg List.length h1
    rw [List.length_append, List.length_cons] at hlen; omega
theorem pn_bs (l : List UInt8) (hl : l.length ≤ 140737488355328) (lim : Nat) (hm : lim ≤ 255) (w : World) :
    Calls Tryd.prog 63 #[.string (bs l), .int .i64 lim] w fun e w' => e = .returned (pnV (T.pnum l lim)) ∧ w = w' := by
  have := parseNumber_any (bs l) (by rw [bs_size]; unfold maxLen; omega) lim hm w
  rw [bs_list] at this; exact this
theorem pn_no (l : List UInt8) (hl : l.length ≤ 140737488355328) (h : T.pnum l 255 = none) (w : World) :
    Calls Tryd.prog 63 #[.string (bs l), .int .i64 255] w fun e w' => e = .returned (.tuple #[.int .i64 0, .bool false]) ∧ w = w' := by
  have := pn_bs l hl 255 (by omega) w
  rw [h] at this; exact this
theorem pn_yes (l : List UInt8) (hl : l.length ≤ 140737488355328) (n : Nat) (h : T.pnum l 255 = some n) (w : World) :
    Calls Tryd.prog 63 #[.string (bs l), .int .i64 255] w fun e w' => e = .returned (.tuple #[.int .i64 n, .bool true]) ∧ w = w' := by
  have := pn_bs l hl 255 (by omega) w
  rw [h] at this; exact this

/-- the address with the text l -/
def pa (l : List UInt8) : Option Nat := if Lib.countByte l 46 = 3 then (T.codeN 4 l).map valA else none
def paV : Option Nat → Value
  | some a => .tuple #[.int .u32 a, .int .i64 0]
  | none => .tuple #[.int .u32 0, .int .i64 2]
theorem paV_none {o : Option Nat} (h : o = none) : Value.tuple #[.int .u32 0, .int .i64 2] = paV o := by rw [h]; rfl
theorem pa_count {l : List UInt8} (h : Lib.countByte l 46 ≠ 3) : pa l = none := by unfold pa; rw [if_neg h]
theorem idx_arr0 (a b c d : Int) (w : World) : (Instr.index 89 (.agg #[.int .i64 a, .int .i64 b, .int .i64 c, .int .i64 d]) (.int .i64 0)).run Tryd.prog w = .ok (.int .i64 a) w := by
  simp [Instr.index, run_underlying Tryd.underlying89, asIntOf, go_sem]
theorem idx_arr1 (a b c d : Int) (w : World) : (Instr.index 89 (.agg #[.int .i64 a, .int .i64 b, .int .i64 c, .int .i64 d]) (.int .i64 1)).run Tryd.prog w = .ok (.int .i64 b) w := by
  simp [Instr.index, run_underlying Tryd.underlying89, asIntOf, go_sem]
theorem idx_arr2 (a b c d : Int) (w : World) : (Instr.index 89 (.agg #[.int .i64 a, .int .i64 b, .int .i64 c, .int .i64 d]) (.int .i64 2)).run Tryd.prog w = .ok (.int .i64 c) w := by
  simp [Instr.index, run_underlying Tryd.underlying89, asIntOf, go_sem]
theorem idx_arr3 (a b c d : Int) (w : World) : (Instr.index 89 (.agg #[.int .i64 a, .int .i64 b, .int .i64 c, .int .i64 d]) (.int .i64 3)).run Tryd.prog w = .ok (.int .i64 d) w := by
  simp [Instr.index, run_underlying Tryd.underlying89, asIntOf, go_sem]
theorem or_step (a n : Nat) (ha : a ≤ 16777215) (hn : n ≤ 255) : bits BinOp.or IntKind.u32 ((a : Int) * 256 % 4294967296) n = ((a * 256 + n : Nat) : Int) := by
  have e : ((a : Int) * 256 % 4294967296) = ((a * 256 : Nat) : Int) := by omega
  rw [e, u32_or_nat _ _ (by omega) (by omega), M.nat_join 8 _ _ (by omega) (by omega)]
theorem or_zero (n : Nat) (hn : n ≤ 255) : bits BinOp.or IntKind.u32 0 n = (n : Int) := by
  have := u32_or_nat 0 n (by omega) (by omega)
  simpa using this
theorem or_all (n0 n1 n2 n3 : Nat) (h0 : n0 ≤ 255) (h1 : n1 ≤ 255) (h2 : n2 ≤ 255) (h3 : n3 ≤ 255) :
    bits BinOp.or IntKind.u32 (bits BinOp.or IntKind.u32 (bits BinOp.or IntKind.u32 (bits BinOp.or IntKind.u32 0 ↑n0 * 256 % 4294967296) ↑n1 * 256 % 4294967296) ↑n2 * 256 % 4294967296) ↑n3 = (valA [n0, n1, n2, n3] : Nat) := by
  rw [or_zero n0 h0, or_step n0 n1 (by omega) h1, or_step _ n2 (by omega) h2, or_step _ n3 (by omega) h3]
  simp [valA]
theorem drewN_below {w W : World} (h : Below w.heap.size w W) (n : Nat) : Below w.heap.size w (W.drewN n) := below_drewN h n
theorem parseAddr_ok (l : List UInt8) (hl : l.length ≤ 140737488355328) (w : World) (hcnt : Lib.countByte l 46 = 3) (n0 n1 n2 n3 : Nat)
    (hp0 : T.pnum (T.wordC 46 l) 255 = some n0) (hp1 : T.pnum (T.wordC 46 (T.restC 46 l)) 255 = some n1) (hp2 : T.pnum (T.wordC 46 (T.restC 46 (T.restC 46 l))) 255 = some n2)
    (hp3 : T.pnum (T.wordC 46 (T.restC 46 (T.restC 46 (T.restC 46 l)))) 255 = some n3) :
    Calls Tryd.prog 62 #[.string (bs l)] w fun e w' => e = .returned (paV (pa l)) ∧ Below w.heap.size w w' := by
  have H := Lib.hid (show Value.tuple #[.int .u32 (valA [n0, n1, n2, n3]), .int .i64 0] = paV (pa l) by
    unfold pa; rw [if_pos hcnt, T.codeN, hp0, T.codeN, hp1, T.codeN, hp2, T.codeN, hp3]; rfl)
  have hci : ((Lib.countByte (bs l).data.toList 46 : Nat) : Int) = 3 := by rw [bs_list, hcnt]; rfl
  have b0 := T.pnum_le hp0; have b1 := T.pnum_le hp1; have b2 := T.pnum_le hp2; have b3 := T.pnum_le hp3
  have w0 := word_len 46 l; have w1 := word_len 46 (T.restC 46 l); have w2 := word_len 46 (T.restC 46 (T.restC 46 l)); have w3 := word_len 46 (T.restC 46 (T.restC 46 (T.restC 46 l)))
  have A0 := Lib.hid (cut_any 46 l hl)
  have A1 := Lib.hid (cut_any 46 (T.restC 46 l) (by omega))
  have A2 := Lib.hid (cut_any 46 (T.restC 46 (T.restC 46 l)) (by omega))
  have A3 := Lib.hid (cut_any 46 (T.restC 46 (T.restC 46 (T.restC 46 l))) (by omega))
  have B0 := Lib.hid (pn_yes _ (by omega) n0 hp0)
  have B1 := Lib.hid (pn_yes _ (by omega) n1 hp1)
  have B2 := Lib.hid (pn_yes _ (by omega) n2 hp2)
  have B3 := Lib.hid (pn_yes _ (by omega) n3 hp3)
  clear hcnt hp0 hp1 hp2 hp3 w0 w1 w2 w3
  generalize T.wordC 46 l = W0 at *
  generalize T.restC 46 l = R0 at *
  generalize T.wordC 46 R0 = W1 at *
  generalize T.restC 46 R0 = R1 at *
  generalize T.wordC 46 R1 = W2 at *
  generalize T.restC 46 R1 = R2 at *
  generalize T.wordC 46 R2 = W3 at *
  generalize T.restC 46 R2 = R3 at *
  go_enter Tryd.func62, Tryd.ntmps62
  go_wp2_with (first
    | (go_at_call 72; refine (Tryd.strings_Count_one _ _ _).mono ?_; rintro e w' ⟨rfl, rfl⟩)
    | (go_at_call 51; fail))
  refine wp_loop_rounds 5 ?_
  rw [rounds_succ]
  go_wp2_with (first
    | (go_at_call 51; refine (A0.out _).mono ?_; rintro e w' ⟨rfl, k0, rfl⟩)
    | (go_at_call 63; refine (B0.out _).mono ?_; rintro e w' ⟨rfl, rfl⟩))
  rw [rounds_succ]
  go_wp2_with (first
    | (go_at_call 51; refine (A1.out _).mono ?_; rintro e w' ⟨rfl, k1, rfl⟩)
    | (go_at_call 63; refine (B1.out _).mono ?_; rintro e w' ⟨rfl, rfl⟩))
  rw [rounds_succ]
  go_wp2_with (first
    | (go_at_call 51; refine (A2.out _).mono ?_; rintro e w' ⟨rfl, k2, rfl⟩)
    | (go_at_call 63; refine (B2.out _).mono ?_; rintro e w' ⟨rfl, rfl⟩))
  rw [rounds_succ]
  go_wp2_with (first
    | (go_at_call 51; refine (A3.out _).mono ?_; rintro e w' ⟨rfl, k3, rfl⟩)
    | (go_at_call 63; refine (B3.out _).mono ?_; rintro e w' ⟨rfl, rfl⟩))
  rw [rounds_succ]
  go_wp2
  have X0 := idx_arr0 n0 n1 n2 n3
  have X1 := idx_arr1 n0 n1 n2 n3
  have X2 := idx_arr2 n0 n1 n2 n3
  have X3 := idx_arr3 n0 n1 n2 n3
  refine wp_loop_rounds 5 ?_
  rw [rounds_succ]
  go_wp2
  rw [rounds_succ]
  go_wp2
  rw [rounds_succ]
  go_wp2
  rw [rounds_succ]
  go_wp2
  rw [rounds_succ]
  go_wp2
  go_ret2
  refine ⟨ret_t (Eq.trans ?_ H.out), ?_⟩
  · rw [← or_all n0 n1 n2 n3 b0 b1 b2 b3]; rfl
  · exact (below_drewN ((below_drewN ((below_drewN ((below_drewN (below_alloc _ _) _).setCell (by simp) _) _).setCell (by simp) _) _).setCell (by simp) _) _).setCell (by simp) _
theorem parseAddr_count (l : List UInt8) (hl : l.length ≤ 140737488355328) (w : World) (hcnt : Lib.countByte l 46 ≠ 3) :
    Calls Tryd.prog 62 #[.string (bs l)] w fun e w' => e = .returned (paV (pa l)) ∧ Below w.heap.size w w' := by
  have H := Lib.hid (paV_none (pa_count hcnt))
  have hci : (((Lib.countByte (bs l).data.toList 46 : Nat) : Int) == 3) = false := by rw [bs_list, beq_eq_false_iff_ne]; omega
  have hcj : (((Lib.countByte (bs l).data.toList 46 : Nat) : Int) != 3) = true := by rw [bne, hci]; rfl
  clear hcnt
  go_enter Tryd.func62, Tryd.ntmps62
  go_wp2_with (first
    | (go_at_call 72; refine (Tryd.strings_Count_one _ _ _).mono ?_; rintro e w' ⟨rfl, rfl⟩)
    | (go_at_call 51; fail))
  go_ret2
  exact ⟨ret_t H.out, below_alloc _ _⟩
theorem parseAddr_no0 (l : List UInt8) (hl : l.length ≤ 140737488355328) (w : World) (hcnt : Lib.countByte l 46 = 3) (hp0 : T.pnum (T.wordC 46 l) 255 = none) :
    Calls Tryd.prog 62 #[.string (bs l)] w fun e w' => e = .returned (paV (pa l)) ∧ Below w.heap.size w w' := by
  have H := Lib.hid (paV_none (show pa l = none by unfold pa; rw [if_pos hcnt, T.codeN, hp0]; rfl))
  have hci : ((Lib.countByte (bs l).data.toList 46 : Nat) : Int) = 3 := by rw [bs_list, hcnt]; rfl
  have w0 := word_len 46 l
  have A0 := Lib.hid (cut_any 46 l (by omega))
  have B0 := Lib.hid (pn_no _ (by omega) hp0)
  clear hcnt hp0 w0
  generalize T.wordC 46 l = W0 at *
  generalize T.restC 46 l = R0 at *
  go_enter Tryd.func62, Tryd.ntmps62
  go_wp2_with (first
    | (go_at_call 72; refine (Tryd.strings_Count_one _ _ _).mono ?_; rintro e w' ⟨rfl, rfl⟩)
    | (go_at_call 51; fail))
  refine wp_loop_rounds 5 ?_
  rw [rounds_succ]
  go_wp2_with (first
    | (go_at_call 51; refine (A0.out _).mono ?_; rintro e w' ⟨rfl, k0, rfl⟩)
    | (go_at_call 63; refine (B0.out _).mono ?_; rintro e w' ⟨rfl, rfl⟩))
  go_ret2
  exact ⟨ret_t H.out, below_drewN (below_alloc _ _) _⟩
theorem parseAddr_no1 (l : List UInt8) (hl : l.length ≤ 140737488355328) (w : World) (hcnt : Lib.countByte l 46 = 3) (n0 : Nat) (hp0 : T.pnum (T.wordC 46 l) 255 = some n0) (hp1 : T.pnum (T.wordC 46 (T.restC 46 l)) 255 = none) :
    Calls Tryd.prog 62 #[.string (bs l)] w fun e w' => e = .returned (paV (pa l)) ∧ Below w.heap.size w w' := by
  have H := Lib.hid (paV_none (show pa l = none by unfold pa; rw [if_pos hcnt, T.codeN, hp0, T.codeN, hp1]; rfl))
  have hci : ((Lib.countByte (bs l).data.toList 46 : Nat) : Int) = 3 := by rw [bs_list, hcnt]; rfl
  have b0 := T.pnum_le hp0
  have w0 := word_len 46 l
  have w1 := word_len 46 (T.restC 46 l)
  have A0 := Lib.hid (cut_any 46 l (by omega))
  have A1 := Lib.hid (cut_any 46 (T.restC 46 l) (by omega))
  have B0 := Lib.hid (pn_yes _ (by omega) n0 hp0)
  have B1 := Lib.hid (pn_no _ (by omega) hp1)
  clear hcnt hp0 hp1 w0 w1
  generalize T.wordC 46 l = W0 at *
  generalize T.restC 46 l = R0 at *
  generalize T.wordC 46 R0 = W1 at *
  generalize T.restC 46 R0 = R1 at *
  go_enter Tryd.func62, Tryd.ntmps62
  go_wp2_with (first
    | (go_at_call 72; refine (Tryd.strings_Count_one _ _ _).mono ?_; rintro e w' ⟨rfl, rfl⟩)
    | (go_at_call 51; fail))
  refine wp_loop_rounds 5 ?_
  rw [rounds_succ]
  go_wp2_with (first
    | (go_at_call 51; refine (A0.out _).mono ?_; rintro e w' ⟨rfl, k0, rfl⟩)
    | (go_at_call 63; refine (B0.out _).mono ?_; rintro e w' ⟨rfl, rfl⟩))
  rw [rounds_succ]
  go_wp2_with (first
    | (go_at_call 51; refine (A1.out _).mono ?_; rintro e w' ⟨rfl, k1, rfl⟩)
    | (go_at_call 63; refine (B1.out _).mono ?_; rintro e w' ⟨rfl, rfl⟩))
  go_ret2
  exact ⟨ret_t H.out, below_drewN ((below_drewN (below_alloc _ _) _).setCell (by simp) _) _⟩
theorem parseAddr_no2 (l : List UInt8) (hl : l.length ≤ 140737488355328) (w : World) (hcnt : Lib.countByte l 46 = 3) (n0 n1 : Nat) (hp0 : T.pnum (T.wordC 46 l) 255 = some n0) (hp1 : T.pnum (T.wordC 46 (T.restC 46 l)) 255 = some n1) (hp2 : T.pnum (T.wordC 46 (T.restC 46 (T.restC 46 l))) 255 = none) :
    Calls Tryd.prog 62 #[.string (bs l)] w fun e w' => e = .returned (paV (pa l)) ∧ Below w.heap.size w w' := by
  have H := Lib.hid (paV_none (show pa l = none by unfold pa; rw [if_pos hcnt, T.codeN, hp0, T.codeN, hp1, T.codeN, hp2]; rfl))
  have hci : ((Lib.countByte (bs l).data.toList 46 : Nat) : Int) = 3 := by rw [bs_list, hcnt]; rfl
  have b0 := T.pnum_le hp0
  have b1 := T.pnum_le hp1
  have w0 := word_len 46 l
  have w1 := word_len 46 (T.restC 46 l)
  have w2 := word_len 46 (T.restC 46 (T.restC 46 l))
  have A0 := Lib.hid (cut_any 46 l (by omega))
  have A1 := Lib.hid (cut_any 46 (T.restC 46 l) (by omega))
  have A2 := Lib.hid (cut_any 46 (T.restC 46 (T.restC 46 l)) (by omega))
  have B0 := Lib.hid (pn_yes _ (by omega) n0 hp0)
  have B1 := Lib.hid (pn_yes _ (by omega) n1 hp1)
  have B2 := Lib.hid (pn_no _ (by omega) hp2)
  clear hcnt hp0 hp1 hp2 w0 w1 w2
  generalize T.wordC 46 l = W0 at *
  generalize T.restC 46 l = R0 at *
  generalize T.wordC 46 R0 = W1 at *
  generalize T.restC 46 R0 = R1 at *
  generalize T.wordC 46 R1 = W2 at *
  generalize T.restC 46 R1 = R2 at *
  go_enter Tryd.func62, Tryd.ntmps62
  go_wp2_with (first
    | (go_at_call 72; refine (Tryd.strings_Count_one _ _ _).mono ?_; rintro e w' ⟨rfl, rfl⟩)
    | (go_at_call 51; fail))
  refine wp_loop_rounds 5 ?_
  rw [rounds_succ]
  go_wp2_with (first
    | (go_at_call 51; refine (A0.out _).mono ?_; rintro e w' ⟨rfl, k0, rfl⟩)
    | (go_at_call 63; refine (B0.out _).mono ?_; rintro e w' ⟨rfl, rfl⟩))
  rw [rounds_succ]
  go_wp2_with (first
    | (go_at_call 51; refine (A1.out _).mono ?_; rintro e w' ⟨rfl, k1, rfl⟩)
    | (go_at_call 63; refine (B1.out _).mono ?_; rintro e w' ⟨rfl, rfl⟩))
  rw [rounds_succ]
  go_wp2_with (first
    | (go_at_call 51; refine (A2.out _).mono ?_; rintro e w' ⟨rfl, k2, rfl⟩)
    | (go_at_call 63; refine (B2.out _).mono ?_; rintro e w' ⟨rfl, rfl⟩))
  go_ret2
  exact ⟨ret_t H.out, below_drewN ((below_drewN ((below_drewN (below_alloc _ _) _).setCell (by simp) _) _).setCell (by simp) _) _⟩
theorem parseAddr_no3 (l : List UInt8) (hl : l.length ≤ 140737488355328) (w : World) (hcnt : Lib.countByte l 46 = 3) (n0 n1 n2 : Nat) (hp0 : T.pnum (T.wordC 46 l) 255 = some n0) (hp1 : T.pnum (T.wordC 46 (T.restC 46 l)) 255 = some n1) (hp2 : T.pnum (T.wordC 46 (T.restC 46 (T.restC 46 l))) 255 = some n2) (hp3 : T.pnum (T.wordC 46 (T.restC 46 (T.restC 46 (T.restC 46 l)))) 255 = none) :
    Calls Tryd.prog 62 #[.string (bs l)] w fun e w' => e = .returned (paV (pa l)) ∧ Below w.heap.size w w' := by
  have H := Lib.hid (paV_none (show pa l = none by unfold pa; rw [if_pos hcnt, T.codeN, hp0, T.codeN, hp1, T.codeN, hp2, T.codeN, hp3]; rfl))
  have hci : ((Lib.countByte (bs l).data.toList 46 : Nat) : Int) = 3 := by rw [bs_list, hcnt]; rfl
  have b0 := T.pnum_le hp0
  have b1 := T.pnum_le hp1
  have b2 := T.pnum_le hp2
  have w0 := word_len 46 l
  have w1 := word_len 46 (T.restC 46 l)
  have w2 := word_len 46 (T.restC 46 (T.restC 46 l))
  have w3 := word_len 46 (T.restC 46 (T.restC 46 (T.restC 46 l)))
  have A0 := Lib.hid (cut_any 46 l (by omega))
  have A1 := Lib.hid (cut_any 46 (T.restC 46 l) (by omega))
  have A2 := Lib.hid (cut_any 46 (T.restC 46 (T.restC 46 l)) (by omega))
  have A3 := Lib.hid (cut_any 46 (T.restC 46 (T.restC 46 (T.restC 46 l))) (by omega))
  have B0 := Lib.hid (pn_yes _ (by omega) n0 hp0)
  have B1 := Lib.hid (pn_yes _ (by omega) n1 hp1)
  have B2 := Lib.hid (pn_yes _ (by omega) n2 hp2)
  have B3 := Lib.hid (pn_no _ (by omega) hp3)
  clear hcnt hp0 hp1 hp2 hp3 w0 w1 w2 w3
  generalize T.wordC 46 l = W0 at *
  generalize T.restC 46 l = R0 at *
  generalize T.wordC 46 R0 = W1 at *
  generalize T.restC 46 R0 = R1 at *
  generalize T.wordC 46 R1 = W2 at *
  generalize T.restC 46 R1 = R2 at *
  generalize T.wordC 46 R2 = W3 at *
  generalize T.restC 46 R2 = R3 at *
  go_enter Tryd.func62, Tryd.ntmps62
  go_wp2_with (first
    | (go_at_call 72; refine (Tryd.strings_Count_one _ _ _).mono ?_; rintro e w' ⟨rfl, rfl⟩)
    | (go_at_call 51; fail))
  refine wp_loop_rounds 5 ?_
  rw [rounds_succ]
  go_wp2_with (first
    | (go_at_call 51; refine (A0.out _).mono ?_; rintro e w' ⟨rfl, k0, rfl⟩)
    | (go_at_call 63; refine (B0.out _).mono ?_; rintro e w' ⟨rfl, rfl⟩))
  rw [rounds_succ]
  go_wp2_with (first
    | (go_at_call 51; refine (A1.out _).mono ?_; rintro e w' ⟨rfl, k1, rfl⟩)
    | (go_at_call 63; refine (B1.out _).mono ?_; rintro e w' ⟨rfl, rfl⟩))
  rw [rounds_succ]
  go_wp2_with (first
    | (go_at_call 51; refine (A2.out _).mono ?_; rintro e w' ⟨rfl, k2, rfl⟩)
    | (go_at_call 63; refine (B2.out _).mono ?_; rintro e w' ⟨rfl, rfl⟩))
  rw [rounds_succ]
  go_wp2_with (first
    | (go_at_call 51; refine (A3.out _).mono ?_; rintro e w' ⟨rfl, k3, rfl⟩)
    | (go_at_call 63; refine (B3.out _).mono ?_; rintro e w' ⟨rfl, rfl⟩))
  go_ret2
  exact ⟨ret_t H.out, below_drewN ((below_drewN ((below_drewN ((below_drewN (below_alloc _ _) _).setCell (by simp) _) _).setCell (by simp) _) _).setCell (by simp) _) _⟩
theorem parseAddr_any (l : List UInt8) (hl : l.length ≤ 140737488355328) (w : World) :
    Calls Tryd.prog 62 #[.string (bs l)] w fun e w' => e = .returned (paV (pa l)) ∧ Below w.heap.size w w' := by
  by_cases hcnt : Lib.countByte l 46 = 3
  · cases hp0 : T.pnum (T.wordC 46 l) 255 with
    | none => exact parseAddr_no0 l hl w hcnt hp0
    | some n0 =>
      cases hp1 : T.pnum (T.wordC 46 (T.restC 46 l)) 255 with
      | none => exact parseAddr_no1 l hl w hcnt n0 hp0 hp1
      | some n1 =>
        cases hp2 : T.pnum (T.wordC 46 (T.restC 46 (T.restC 46 l))) 255 with
        | none => exact parseAddr_no2 l hl w hcnt n0 n1 hp0 hp1 hp2
        | some n2 =>
          cases hp3 : T.pnum (T.wordC 46 (T.restC 46 (T.restC 46 (T.restC 46 l)))) 255 with
          | none => exact parseAddr_no3 l hl w hcnt n0 n1 n2 hp0 hp1 hp2 hp3
          | some n3 => exact parseAddr_ok l hl w hcnt n0 n1 n2 n3 hp0 hp1 hp2 hp3
  · exact parseAddr_count l hl w hcnt
end Go.Proofs.YtiiojkekcnmddaaDoor
