/-
  The walks of Cut at one byte; the laid tables; the walks of both Texts.
-/
import Derived.Test.YtaniiennfogjaaaDoorCmN
import Derived.Test.YtaniiennfogjaaaDoorCmA
import Derived.LoopN
import Derived.WalkMore
namespace Go.Proofs.YtaniiennfogjaaaDoor
open Go.RowKit
set_option linter.unusedSimpArgs false
set_option linter.unusedVariables false
set_option maxHeartbeats 2000000
set_option maxRecDepth 100000

theorem bs_of {s : ByteArray} {l : List UInt8} (h : s.data.toList = l) : s = bs l := by
  apply ByteArray.ext; rw [← h]; simp [bs]
theorem idx_none : ∀ {c : UInt8} {l : List UInt8}, c ∉ l → Lib.indexByte l c = -1
  | _, [], _ => rfl
  | c, x :: l, h => by
    simp only [List.mem_cons, not_or] at h
    rw [Lib.indexByte, if_neg (by simpa using fun e => h.1 e.symm), idx_none h.2]; rfl
theorem idx_word : ∀ {c : UInt8} (p r : List UInt8), c ∉ p → Lib.indexByte (p ++ c :: r) c = p.length
  | c, [], r, _ => by rw [List.nil_append, Lib.indexByte, if_pos (by simp)]; rfl
  | c, x :: p, r, h => by
    simp only [List.mem_cons, not_or] at h
    rw [List.cons_append, Lib.indexByte, if_neg (by simpa using fun e => h.1 e.symm), idx_word p r h.2, if_neg (by simp)]; simp
theorem ext_take (l : List UInt8) (i : Nat) : (bs l).extract 0 i = bs (l.take i) := bs_of (by simp [bs])
theorem ext_drop (l : List UInt8) (i : Nat) : (bs l).extract i (bs l).size = bs (l.drop i) := bs_of (by
  rw [bs_size]; simp [bs]; exact List.take_of_length_le (by simp))
theorem slCut_no (c : UInt8) (l : List UInt8) (hl : l.length ≤ 140737488355328) (h : c ∉ l) (w : World) :
    Calls Tryd.prog 47 #[.string (bs l), .string ⟨#[c]⟩] w fun e w' => e = .returned (.tuple #[.string (bs l), .string (bs []), .bool false]) ∧ ∃ n, w.drewN n = w' := by
  have hi : Lib.indexByte (bs l).data.toList c = -1 := by rw [bs_data]; exact idx_none h
  go_enter Tryd.func47, Tryd.ntmps47
  go_wp2_with (go_at_call 56; refine (Tryd.stringslite_Index_one _ _ _).mono ?_; rintro e w' ⟨rfl, rfl⟩)
  go_ret3
  exact ⟨rfl, 0, rfl⟩
theorem slCut_yes (c : UInt8) (p r : List UInt8) (hl : p.length + 1 + r.length ≤ 140737488355328) (h : c ∉ p) (w : World) :
    Calls Tryd.prog 47 #[.string (bs (p ++ c :: r)), .string ⟨#[c]⟩] w fun e w' => e = .returned (.tuple #[.string (bs p), .string (bs r), .bool true]) ∧ ∃ n, w.drewN n = w' := by
  have hi : Lib.indexByte (bs (p ++ c :: r)).data.toList c = (p.length : Int) := by rw [bs_data]; exact idx_word p r h
  have hz : (bs (p ++ c :: r)).size = p.length + 1 + r.length := by rw [bs_size]; simp; omega
  have e1 : (bs (p ++ c :: r)).extract 0 p.length = bs p := by rw [ext_take]; simp
  have e2 : (bs (p ++ c :: r)).extract (p.length + 1) (bs (p ++ c :: r)).size = bs r := by rw [ext_drop]; simp
  generalize bs (p ++ c :: r) = S at *
  have c1 : (p.length : Int) ≤ (S.size : Int) := by omega
  have c2 : (p.length : Int) + 1 ≤ (S.size : Int) := by omega
  clear hz
  go_enter Tryd.func47, Tryd.ntmps47
  go_wp2_with (go_at_call 56; refine (Tryd.stringslite_Index_one _ _ _).mono ?_; rintro e w' ⟨rfl, rfl⟩)
  go_region
  go_wp2
  go_ret3
  exact ⟨rfl, 1, rfl⟩
theorem below_drawn {w w' : World} (h : ∃ n, w.drewN n = w') : Below w.heap.size w w' := by
  obtain ⟨n, rfl⟩ := h; exact below_drewN (Below.refl _ _) n
theorem cut_no (c : UInt8) (l : List UInt8) (hl : l.length ≤ 140737488355328) (h : c ∉ l) (w : World) :
    Calls Tryd.prog 33 #[.string (bs l), .string ⟨#[c]⟩] w fun e w' => e = .returned (.tuple #[.string (bs l), .string (bs []), .bool false]) ∧ ∃ n, w.drewN n = w' := by
  go_enter Tryd.func33, Tryd.ntmps33
  go_wp2_with (go_at_call 47; refine (slCut_no c l hl h _).mono ?_; rintro e w' ⟨rfl, n, rfl⟩)
  go_ret3
  exact ⟨rfl, n, rfl⟩
theorem cut_yes (c : UInt8) (p r : List UInt8) (hl : p.length + 1 + r.length ≤ 140737488355328) (h : c ∉ p) (w : World) :
    Calls Tryd.prog 33 #[.string (bs (p ++ c :: r)), .string ⟨#[c]⟩] w fun e w' => e = .returned (.tuple #[.string (bs p), .string (bs r), .bool true]) ∧ ∃ n, w.drewN n = w' := by
  go_enter Tryd.func33, Tryd.ntmps33
  go_wp2_with (go_at_call 47; refine (slCut_yes c p r hl h _).mono ?_; rintro e w' ⟨rfl, n, rfl⟩)
  go_ret3
  exact ⟨rfl, n, rfl⟩
/-- Cut at one byte: the word ahead of it, the rest behind it, and whether it is there -/
theorem cut_any (c : UInt8) (l : List UInt8) (hl : l.length ≤ 140737488355328) (w : World) :
    Calls Tryd.prog 33 #[.string (bs l), .string ⟨#[c]⟩] w fun e w' => e = .returned (.tuple #[.string (bs (T.wordC c l)), .string (bs (T.restC c l)), .bool (decide (c ∈ l))]) ∧ ∃ n, w.drewN n = w' := by
  rcases T.split_word c l with ⟨h1, h2, h3⟩ | ⟨h1, h2⟩
  · have := cut_no c l hl h3 w
    rw [decide_eq_false h3, h2, ← h1]; exact this
  · have hlen := congrArg List.length h1
    rw [List.length_append, List.length_cons] at hlen
    have := cut_yes c (T.wordC c l) (T.restC c l) (by omega) h2 w
    rw [← h1] at this
    rw [decide_eq_true (show c ∈ l by rw [h1]; simp)]; exact this
theorem word_len (c : UInt8) (l : List UInt8) : (T.wordC c l).length ≤ l.length ∧ (T.restC c l).length ≤ l.length := by
  rcases T.split_word c l with ⟨h1, h2, h3⟩ | ⟨h1, h2⟩
  · rw [h2, ← h1]; simp
  · have hlen := congrArg List.length h1
    rw [List.length_append, List.length_cons] at hlen; omega

/-- the tables that the program's initialisers lay -/
structure Lt (w : World) : Prop where
  tab : Tab w
  k0 : w.cell? ⟨0, 0, none⟩ = some (.int .u32 4294901760)
  k1 : w.cell? ⟨0, 1, none⟩ = some (.int .u32 4294967041)
  k2 : w.cell? ⟨0, 2, none⟩ = some (.int .u32 4294967042)
  k3 : w.cell? ⟨0, 3, none⟩ = some (.int .u32 4294967043)
  n0 : w.cell? ⟨1, 0, none⟩ = some (.string (bs T.nmA))
  n1 : w.cell? ⟨1, 1, none⟩ = some (.string (bs T.nmB))
  n2 : w.cell? ⟨1, 2, none⟩ = some (.string (bs T.nmC))
  n3 : w.cell? ⟨1, 3, none⟩ = some (.string (bs T.nmD))
theorem Lt.below {w w' : World} (h : Lt w) (hb : Below w.heap.size w w') : Lt w' := ⟨tab_below h.tab hb, carry hb h.k0, carry hb h.k1, carry hb h.k2, carry hb h.k3, carry hb h.n0, carry hb h.n1, carry hb h.n2, carry hb h.n3⟩
theorem dec_lim {n : Nat} (h : n < 100000) : (Lib.decDigits n).length ≤ 5 := dec_size20 4 n (by omega)
theorem itoa_nat (n : Nat) : Lib.itoa (n : Int) = Lib.decDigits n := by unfold Lib.itoa; rw [if_neg (by omega)]; simp
theorem colon_app (l m : List UInt8) : (bs l ++ (⟨#[58]⟩ : ByteArray)) ++ bs m = bs (l ++ 58 :: m) := by
  rw [show (⟨#[58]⟩ : ByteArray) = bs [58] from rfl, bs_app, bs_app]; simp
theorem rtext_any (c : Nat) (w : World) (hc : c < 4294967296) :
    Calls Tryd.prog 14 #[.int .u32 (c : Int)] w fun e w' => e = .returned (.string (bs (T.txC c))) ∧ Below w.heap.size w w' := by
  by_cases h1 : c = 4294901760
  · subst h1
    go_enter Tryd.func14, Tryd.ntmps14
    go_wp2
    go_ret
    exact ⟨rfl, Below.refl _ _⟩
  by_cases h2 : c = 4294967041
  · subst h2
    go_enter Tryd.func14, Tryd.ntmps14
    go_wp2
    go_ret
    exact ⟨rfl, Below.refl _ _⟩
  by_cases h3 : c = 4294967042
  · subst h3
    go_enter Tryd.func14, Tryd.ntmps14
    go_wp2
    go_ret
    exact ⟨rfl, Below.refl _ _⟩
  by_cases h4 : c = 4294967043
  · subst h4
    go_enter Tryd.func14, Tryd.ntmps14
    go_wp2
    go_ret
    exact ⟨rfl, Below.refl _ _⟩
  have HT : Hid (T.txC c = T.parts c) := T.tx_parts (by unfold T.Known; omega)
  have f1 : ((c : Int) == 4294901760) = false := by simp; omega
  have f2 : ((c : Int) == 4294967041) = false := by simp; omega
  have f3 : ((c : Int) == 4294967042) = false := by simp; omega
  have f4 : ((c : Int) == 4294967043) = false := by simp; omega
  clear h1 h2 h3 h4
  have ha := and16 hc
  have w1 : IntKind.i64.wrap ((c : Int) / 65536) = ((c / 65536 : Nat) : Int) := by rw [IntWalk.i64_in _ (by constructor <;> omega)]; omega
  have w2 : IntKind.i64.wrap ((c % 65536 : Nat) : Int) = ((c % 65536 : Nat) : Int) := IntWalk.i64_in _ (by constructor <;> omega)
  obtain ⟨a, hha⟩ : ∃ a, c / 65536 = a := ⟨_, rfl⟩
  obtain ⟨b, hhb⟩ : ∃ b, c % 65536 = b := ⟨_, rfl⟩
  have HP : Hid (T.parts c = Lib.decDigits a ++ 58 :: Lib.decDigits b) := by unfold Hid T.parts; rw [hha, hhb]
  have HA : Hid (∀ W, Calls Tryd.prog 35 #[.int .i64 (a : Int)] W fun e w' => e = .returned (.string (bs (Lib.decDigits a))) ∧ Below W.heap.size W w') := fun W => by
    have := rdecimal_any (a : Int) W (by constructor <;> omega); rwa [itoa_nat] at this
  have HB : Hid (∀ W, Calls Tryd.prog 35 #[.int .i64 (b : Int)] W fun e w' => e = .returned (.string (bs (Lib.decDigits b))) ∧ Below W.heap.size W w') := fun W => by
    have := rdecimal_any (b : Int) W (by constructor <;> omega); rwa [itoa_nat] at this
  have sa : (Lib.decDigits a).length ≤ 5 := dec_lim (by omega)
  have sb : (Lib.decDigits b).length ≤ 5 := dec_lim (by omega)
  have z1 : ¬ 9223372036854775807 < (bs (Lib.decDigits a)).size + 1 := by rw [bs_size]; omega
  have z2 : ¬ 9223372036854775807 < (bs (Lib.decDigits a) ++ (⟨#[58]⟩ : ByteArray)).size + (bs (Lib.decDigits b)).size := by
    rw [show (⟨#[58]⟩ : ByteArray) = bs [58] from rfl, bs_app, bs_size, bs_size]; simp; omega
  have z3 : ¬ 9223372036854775807 < (bs (Lib.decDigits a)).size + 1 + (bs (Lib.decDigits b)).size := by rw [bs_size, bs_size]; omega
  rw [hha] at w1
  rw [hhb] at ha w2
  have HE := Lib.hid (colon_app (Lib.decDigits a) (Lib.decDigits b))
  clear hha hhb sa sb
  generalize Lib.decDigits a = la at *
  generalize Lib.decDigits b = lb at *
  generalize bs la = sa at *
  generalize bs lb = sb at *
  go_enter Tryd.func14, Tryd.ntmps14
  go_wp2_with fail
  go_at_call 35
  refine (HA.out _).mono ?_
  rintro e w1 ⟨rfl, hb⟩
  have HB1 := Lib.hid hb
  clear hb HA
  go_wp2_with fail
  go_at_call 35
  refine (HB.out _).mono ?_
  rintro e w2 ⟨rfl, hb⟩
  have HB2 := Lib.hid (below_then HB1.out hb)
  clear hb HB
  go_wp2_with fail
  go_ret
  exact ⟨by rw [HT.out, HP.out, ← HE.out] <;> rfl, HB2.out⟩
theorem idx_u0 (a b c d : Value) (w : World) : (Instr.index 45 (.agg #[a, b, c, d]) (.int .i64 0)).run Tryd.prog w = .ok a w := by
  simp [Instr.index, run_underlying Tryd.underlying45, asIntOf, go_sem]
theorem idx_u1 (a b c d : Value) (w : World) : (Instr.index 45 (.agg #[a, b, c, d]) (.int .i64 1)).run Tryd.prog w = .ok b w := by
  simp [Instr.index, run_underlying Tryd.underlying45, asIntOf, go_sem]
theorem idx_u2 (a b c d : Value) (w : World) : (Instr.index 45 (.agg #[a, b, c, d]) (.int .i64 2)).run Tryd.prog w = .ok c w := by
  simp [Instr.index, run_underlying Tryd.underlying45, asIntOf, go_sem]
theorem idx_u3 (a b c d : Value) (w : World) : (Instr.index 45 (.agg #[a, b, c, d]) (.int .i64 3)).run Tryd.prog w = .ok d w := by
  simp [Instr.index, run_underlying Tryd.underlying45, asIntOf, go_sem]
theorem idx_s0 (a b c d : Value) (w : World) : (Instr.index 46 (.agg #[a, b, c, d]) (.int .i64 0)).run Tryd.prog w = .ok a w := by
  simp [Instr.index, run_underlying Tryd.underlying46, asIntOf, go_sem]
theorem idx_s1 (a b c d : Value) (w : World) : (Instr.index 46 (.agg #[a, b, c, d]) (.int .i64 1)).run Tryd.prog w = .ok b w := by
  simp [Instr.index, run_underlying Tryd.underlying46, asIntOf, go_sem]
theorem idx_s2 (a b c d : Value) (w : World) : (Instr.index 46 (.agg #[a, b, c, d]) (.int .i64 2)).run Tryd.prog w = .ok c w := by
  simp [Instr.index, run_underlying Tryd.underlying46, asIntOf, go_sem]
theorem idx_s3 (a b c d : Value) (w : World) : (Instr.index 46 (.agg #[a, b, c, d]) (.int .i64 3)).run Tryd.prog w = .ok d w := by
  simp [Instr.index, run_underlying Tryd.underlying46, asIntOf, go_sem]
theorem tx_A : T.txC 4294901760 = T.nmA := by unfold T.txC; rw [if_pos rfl]
theorem tx_B : T.txC 4294967041 = T.nmB := by unfold T.txC; rw [if_neg (by omega), if_pos rfl]
theorem tx_C : T.txC 4294967042 = T.nmC := by unfold T.txC; rw [if_neg (by omega), if_neg (by omega), if_pos rfl]
theorem tx_D : T.txC 4294967043 = T.nmD := by unfold T.txC; rw [if_neg (by omega), if_neg (by omega), if_neg (by omega), if_pos rfl]
theorem text_any (c : Nat) (w : World) (hc : c < 4294967296) (hT : Lt w) :
    Calls Tryd.prog 12 #[.int .u32 (c : Int)] w fun e w' => e = .returned (.string (bs (T.txC c))) ∧ Below w.heap.size w w' := by
  have HTT := Lib.hid hT
  have c0 := hT.k0
  have c1 := hT.k1
  have c2 := hT.k2
  have c3 := hT.k3
  have d0 := hT.n0
  have d1 := hT.n1
  have d2 := hT.n2
  have d3 := hT.n3
  have i0 := idx_u0
  have i1 := idx_u1
  have i2 := idx_u2
  have i3 := idx_u3
  clear hT
  by_cases h1 : c = 4294901760
  · subst h1
    go_enter Tryd.func12, Tryd.ntmps12
    go_wp2_with fail
    refine wp_loop_rounds 1 ?_
    rw [rounds_succ]
    go_wp2_with fail
    go_ret
    exact ⟨by rw [tx_A] <;> rfl, Below.refl _ _⟩
  by_cases h2 : c = 4294967041
  · subst h2
    go_enter Tryd.func12, Tryd.ntmps12
    go_wp2_with fail
    refine wp_loop_rounds 2 ?_
    rw [rounds_succ]
    go_wp2_with fail
    rw [rounds_succ]
    go_wp2_with fail
    go_ret
    exact ⟨by rw [tx_B] <;> rfl, Below.refl _ _⟩
  by_cases h3 : c = 4294967042
  · subst h3
    go_enter Tryd.func12, Tryd.ntmps12
    go_wp2_with fail
    refine wp_loop_rounds 3 ?_
    rw [rounds_succ]
    go_wp2_with fail
    rw [rounds_succ]
    go_wp2_with fail
    rw [rounds_succ]
    go_wp2_with fail
    go_ret
    exact ⟨by rw [tx_C] <;> rfl, Below.refl _ _⟩
  by_cases h4 : c = 4294967043
  · subst h4
    go_enter Tryd.func12, Tryd.ntmps12
    go_wp2_with fail
    refine wp_loop_rounds 4 ?_
    rw [rounds_succ]
    go_wp2_with fail
    rw [rounds_succ]
    go_wp2_with fail
    rw [rounds_succ]
    go_wp2_with fail
    rw [rounds_succ]
    go_wp2_with fail
    go_ret
    exact ⟨by rw [tx_D] <;> rfl, Below.refl _ _⟩
  have HTX : Hid (T.txC c = T.parts c) := T.tx_parts (by unfold T.Known; omega)
  have f1 : ((c : Int) == 4294901760) = false := by simp; omega
  have f2 : ((c : Int) == 4294967041) = false := by simp; omega
  have f3 : ((c : Int) == 4294967042) = false := by simp; omega
  have f4 : ((c : Int) == 4294967043) = false := by simp; omega
  clear h1 h2 h3 h4
  obtain ⟨a, hha⟩ : ∃ a, c / 65536 = a := ⟨_, rfl⟩
  obtain ⟨b, hhb⟩ : ∃ b, c % 65536 = b := ⟨_, rfl⟩
  have HP : Hid (T.parts c = Lib.decDigits a ++ 58 :: Lib.decDigits b) := by unfold Hid T.parts; rw [hha, hhb]
  have HH : Hid (∀ W, Calls Tryd.prog 31 #[.int .u32 (c : Int)] W fun e w' => e = .returned (.int .i64 (a : Int)) ∧ W = w') := fun W => by
    have := high_any c W hc; rwa [hha] at this
  have HL : Hid (∀ W, Calls Tryd.prog 32 #[.int .u32 (c : Int)] W fun e w' => e = .returned (.int .i64 (b : Int)) ∧ W = w') := fun W => by
    have := low_any c W hc; rwa [hhb] at this
  have HA : Hid (∀ W, Below w.heap.size w W → Calls Tryd.prog 30 #[.int .i64 (a : Int)] W fun e w' => e = .returned (.string (bs (Lib.decDigits a))) ∧ Below W.heap.size W w') := fun W hW => by
    have := decimal_any (a : Int) W (by constructor <;> omega) (tab_below HTT.out.tab hW); rwa [itoa_nat] at this
  have HB : Hid (∀ W, Below w.heap.size w W → Calls Tryd.prog 30 #[.int .i64 (b : Int)] W fun e w' => e = .returned (.string (bs (Lib.decDigits b))) ∧ Below W.heap.size W w') := fun W hW => by
    have := decimal_any (b : Int) W (by constructor <;> omega) (tab_below HTT.out.tab hW); rwa [itoa_nat] at this
  have sa : (Lib.decDigits a).length ≤ 5 := dec_lim (by omega)
  have sb : (Lib.decDigits b).length ≤ 5 := dec_lim (by omega)
  have z1 : ¬ 9223372036854775807 < (bs (Lib.decDigits a)).size + 1 := by rw [bs_size]; omega
  have z2 : ¬ 9223372036854775807 < (bs (Lib.decDigits a) ++ (⟨#[58]⟩ : ByteArray)).size + (bs (Lib.decDigits b)).size := by
    rw [show (⟨#[58]⟩ : ByteArray) = bs [58] from rfl, bs_app, bs_size, bs_size]; simp; omega
  have z3 : ¬ 9223372036854775807 < (bs (Lib.decDigits a)).size + 1 + (bs (Lib.decDigits b)).size := by rw [bs_size, bs_size]; omega
  have HE := Lib.hid (colon_app (Lib.decDigits a) (Lib.decDigits b))
  clear hha hhb sa sb
  generalize Lib.decDigits a = la at *
  generalize Lib.decDigits b = lb at *
  generalize bs la = sa at *
  generalize bs lb = sb at *
  have H0 := Lib.hid (Below.refl w.heap.size w)
  go_enter Tryd.func12, Tryd.ntmps12
  go_wp2_with fail
  refine wp_loop_rounds 5 ?_
  rw [rounds_succ]
  go_wp2_with fail
  rw [rounds_succ]
  go_wp2_with fail
  rw [rounds_succ]
  go_wp2_with fail
  rw [rounds_succ]
  go_wp2_with fail
  rw [rounds_succ]
  go_wp2_with fail
  go_at_call 31
  refine (HH.out _).mono ?_
  rintro e w1 ⟨rfl, rfl⟩
  go_wp2_with fail
  go_at_call 30
  refine (HA.out _ H0.out).mono ?_
  rintro e w1 ⟨rfl, hb⟩
  have HB1 := Lib.hid hb
  clear hb HA
  go_wp2_with fail
  go_at_call 32
  refine (HL.out _).mono ?_
  rintro e w1 ⟨rfl, rfl⟩
  go_wp2_with fail
  go_at_call 30
  refine (HB.out _ HB1.out).mono ?_
  rintro e w2 ⟨rfl, hb⟩
  have HB2 := Lib.hid (below_then HB1.out hb)
  clear hb HB
  go_wp2_with fail
  go_ret
  exact ⟨by rw [HTX.out, HP.out, ← HE.out] <;> rfl, HB2.out⟩
end Go.Proofs.YtaniiennfogjaaaDoor
