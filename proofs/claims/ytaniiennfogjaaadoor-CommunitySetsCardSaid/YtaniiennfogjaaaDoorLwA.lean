/-
  The walks of the laws Check, Back and Parse.
-/
import Derived.Test.YtaniiennfogjaaaDoorCmAw
namespace Go.Proofs.YtaniiennfogjaaaDoor
open Go.RowKit T
set_option linter.unusedSimpArgs false
set_option linter.unusedVariables false
set_option maxHeartbeats 2000000
set_option maxRecDepth 100000

theorem tx_len (c : Nat) : (txC c).length ≤ 100 ∨ 4294967296 ≤ c := by
  by_cases h : 4294967296 ≤ c
  · exact .inr h
  · left
    unfold txC
    split
    · decide
    split
    · decide
    split
    · decide
    split
    · decide
    unfold parts
    have h1 : (Lib.decDigits (c / 65536)).length ≤ 5 := dec_lim (by omega)
    have h2 : (Lib.decDigits (c % 65536)).length ≤ 5 := dec_lim (by omega)
    simp; omega
theorem lawCheck (l : List Nat) (v : Value) (w : World) (hT : Lt w) (hv : Rd w v l) : Calls Tryd.prog 3 #[v] w fun e w' => e = .returned (.bool true) ∧ Below w.heap.size w w' := by
  have HT := Lib.hid hT
  have H1 := Lib.hid (check_any l v w hv)
  have H2 : Hid (∀ W, Below w.heap.size w W → Calls Tryd.prog 10 #[v] W fun e w' => e = .returned (.int .i64 (chkE l)) ∧ Below W.heap.size W w') := fun W hW => rcheck_any l v W (hv.below hW)
  obtain ⟨ad, cap, rfl⟩ := hv.form
  generalize l.length = L at *
  generalize chkE l = x at *
  have t1 : (x == x) = true := by simp
  clear hT hv
  go_enter Tryd.func3, Tryd.ntmps3
  go_wp2_with fail
  go_at_call 9
  refine H1.out.mono ?_
  rintro e w1 ⟨rfl, hb⟩
  have HB1 := Lib.hid hb
  clear hb
  go_wp2_with fail
  go_at_call 10
  refine (H2.out _ HB1.out).mono ?_
  rintro e w2 ⟨rfl, hb⟩
  have HB2 := Lib.hid (below_then HB1.out hb)
  clear hb
  go_wp2_with fail
  go_at_call 11
  refine (awake_any _ (HT.out.below HB2.out)).mono ?_
  rintro e w3 ⟨rfl, hb⟩
  have HB3 := Lib.hid (below_then HB2.out hb)
  clear hb
  go_wp2
  go_ret
  exact ⟨rfl, HB3.out⟩
theorem lawBack (c : Nat) (w : World) (hT : Lt w) (hc : c < 4294967296) : Calls Tryd.prog 4 #[.int .u32 (c : Int)] w fun e w' => e = .returned (.bool true) ∧ Below w.heap.size w w' := by
  have HT := Lib.hid hT
  have hl : (txC c).length ≤ 100 := (tx_len c).resolve_right (by omega)
  have H1 := Lib.hid (text_any c w hc hT)
  have H2 : Hid (∀ W, Below w.heap.size w W → Calls Tryd.prog 13 #[.string (bs (txC c))] W fun e w' => e = .returned (.tuple #[.int .u32 (c : Int), .int .i64 0]) ∧ Below W.heap.size W w') := fun W hW => ex_parse (txC c) c 0 (parse_yes hc rfl) hl W (hT.below hW)
  have H3 : Hid (∀ W, Calls Tryd.prog 14 #[.int .u32 (c : Int)] W fun e w' => e = .returned (.string (bs (txC c))) ∧ Below W.heap.size W w') := fun W => rtext_any c W hc
  generalize bs (txC c) = S at *
  have t1 : (S.toList == S.toList) = true := by simp
  have t2 : ((c : Int) == (c : Int)) = true := by simp
  clear hT hl
  go_enter Tryd.func4, Tryd.ntmps4
  go_wp2_with fail
  go_at_call 12
  refine H1.out.mono ?_
  rintro e w1 ⟨rfl, hb⟩
  have HB1 := Lib.hid hb
  clear hb
  go_wp2_with fail
  go_at_call 13
  refine (H2.out _ HB1.out).mono ?_
  rintro e w2 ⟨rfl, hb⟩
  have HB2 := Lib.hid (below_then HB1.out hb)
  clear hb
  go_wp2_with fail
  go_at_call 14
  refine (H3.out _).mono ?_
  rintro e w3 ⟨rfl, hb⟩
  have HB3 := Lib.hid (below_then HB2.out hb)
  clear hb
  go_wp2_with fail
  go_at_call 11
  refine (awake_any _ (HT.out.below HB3.out)).mono ?_
  rintro e w4 ⟨rfl, hb⟩
  have HB4 := Lib.hid (below_then HB3.out hb)
  clear hb
  go_wp2
  go_ret
  exact ⟨rfl, HB4.out⟩
theorem lawParse (s : ByteArray) (w : World) (hT : Lt w) (hs : s.size ≤ 140737488351232) : Calls Tryd.prog 5 #[.string s] w fun e w' => e = .returned (.bool true) ∧ Below w.heap.size w w' := by
  have HT := Lib.hid hT
  obtain ⟨l, rfl⟩ : ∃ l, s = bs l := ⟨s.data.toList, bs_of rfl⟩
  rw [bs_size] at hs
  have H1 := Lib.hid (parse_any l w (by omega) hT)
  have H2 : Hid (∀ W, Calls Tryd.prog 15 #[.string (bs l)] W fun e w' => ∃ (c : Nat) (er : Int), e = .returned (.tuple #[.int .u32 (c : Int), .int .i64 er]) ∧ T.PrC l c er ∧ Below W.heap.size W w') := fun W => rparse_any l W (by omega)
  have hz : (bs l).size = l.length := bs_size l
  have st : (bs l).toList = l := by rw [ByteArray.toList_eq, bs_data]
  by_cases h : 1000 < l.length
  · have h1 : (1000 : Int) < (l.length : Int) := by omega
    clear hT
    generalize bs l = S at *
    go_enter Tryd.func5, Tryd.ntmps5
    go_wp2_with fail
    go_at_call 11
    refine (awake_any w HT.out).mono ?_
    rintro e w1 ⟨rfl, hb⟩
    go_wp2
    go_ret
    exact ⟨rfl, hb⟩
  · have h1 : ¬ (1000 : Int) < (l.length : Int) := by omega
    have HTX : Hid (∀ W c, Below w.heap.size w W → c < 4294967296 → txC c = l → Calls Tryd.prog 12 #[.int .u32 (c : Int)] W fun e w' => e = .returned (.string (bs l)) ∧ Below W.heap.size W w') := fun W c hW hc he => by
      have := text_any c W hc (hT.below hW); rwa [he] at this
    have t3 : (l == l) = true := by simp
    clear hT
    generalize bs l = S at *
    go_enter Tryd.func5, Tryd.ntmps5
    go_wp2_with fail
    go_at_call 13
    refine H1.out.mono ?_
    rintro e w1 ⟨c, er, rfl, hp, hb⟩
    have HB1 := Lib.hid hb
    have HP1 := Lib.hid hp
    clear hb hp
    go_wp2_with fail
    go_at_call 15
    refine (H2.out _).mono ?_
    rintro e w2 ⟨c', er', rfl, hp, hb⟩
    obtain ⟨rfl, rfl⟩ := hp.unique HP1.out
    have HB2 := Lib.hid (below_then HB1.out hb)
    clear hb hp
    have t1 : ((c' : Int) == (c' : Int)) = true := by simp
    have t2 : (er' == er') = true := by simp
    rcases HP1.out with ⟨rfl, hc, he⟩ | ⟨rfl, rfl, _⟩
    · have HX := Lib.hid (HTX.out w2 c' HB2.out hc he)
      clear HP1 he
      go_wp2_with fail
      go_at_call 12
      refine HX.out.mono ?_
      rintro e w3 ⟨rfl, hb⟩
      have HB3 := Lib.hid (below_then HB2.out hb)
      clear hb
      go_wp2_with fail
      go_at_call 11
      refine (awake_any _ (HT.out.below HB3.out)).mono ?_
      rintro e w4 ⟨rfl, hb⟩
      have HB4 := Lib.hid (below_then HB3.out hb)
      clear hb
      go_wp2
      go_ret
      exact ⟨rfl, HB4.out⟩
    · clear HP1
      go_wp2_with fail
      go_at_call 11
      refine (awake_any _ (HT.out.below HB2.out)).mono ?_
      rintro e w4 ⟨rfl, hb⟩
      have HB4 := Lib.hid (below_then HB2.out hb)
      clear hb
      go_wp2
      go_ret
      exact ⟨rfl, HB4.out⟩
end Go.Proofs.YtaniiennfogjaaaDoor
