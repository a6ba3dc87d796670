/-
  The law's own examples.
-/
import Derived.Test.YtaniiennfogjaaaDoorCmZ
import Derived.Test.YtaniiennfogjaaaDoorCmW
import Derived.Test.YtaniiennfogjaaaDoorCmP
import Derived.Test.YtaniiennfogjaaaDoorCmQ
import Derived.Test.YtaniiennfogjaaaDoorCmD
import Derived.Test.YtaniiennfogjaaaDoorMa
namespace Go.Proofs.YtaniiennfogjaaaDoor
open Go.RowKit T
set_option linter.unusedSimpArgs false
set_option linter.unusedVariables false
set_option maxHeartbeats 2000000
set_option maxRecDepth 100000

theorem ex_parse (l : List UInt8) (c : Nat) (er : Int) (hp : PrC l c er) (hl : l.length ≤ 100) (w : World) (hT : Lt w) :
    Calls Tryd.prog 13 #[.string (bs l)] w fun e w' => e = .returned (.tuple #[.int .u32 (c : Int), .int .i64 er]) ∧ Below w.heap.size w w' := by
  refine (parse_any l w (by omega) hT).mono ?_
  rintro e w' ⟨c', er', rfl, h, hb⟩
  obtain ⟨rfl, rfl⟩ := h.unique hp
  exact ⟨rfl, hb⟩
theorem rd_two (W : World) (c d : Nat) (hc : c < 4294967296) (hd : d < 4294967296) : Rd (W.alloc (.cells #[.int .u32 (c : Int), .int .u32 (d : Int)] 27)) (.slice (some ⟨W.heap.size, 0, none⟩) 2 2) [c, d] :=
  ⟨_, _, rfl, ⟨Nat.le_refl _, by omega⟩, fun x hx => by simp at hx; rcases hx with rfl | rfl <;> assumption, fun k x hk => by
    match k, hk with
    | 0, hk =>
      obtain rfl : c = x := by simpa using hk
      exact ⟨W.heap.size, 0, rfl, lt_block (heap_alloc_new _ _), cell_of (heap_alloc_new _ _) rfl⟩
    | 1, hk =>
      obtain rfl : d = x := by simpa using hk
      exact ⟨W.heap.size, 0, rfl, lt_block (heap_alloc_new _ _), cell_of (heap_alloc_new _ _) rfl⟩
    | k + 2, hk => simp at hk⟩
theorem rdu_one (W : World) (r : Ru) : RdU (W.alloc (.cells #[.bool r.1, .int .i64 r.2.1, .int .i64 r.2.2] 40)) (.slice (some ⟨W.heap.size, 0, none⟩) 1 1) [r] :=
  ⟨_, _, rfl, ⟨Nat.le_refl _, by omega⟩, fun k x hk => by
    have hk0 : k = 0 := by have := (List.getElem?_eq_some_iff.1 hk).1; simpa using this
    subst hk0
    obtain rfl : r = x := by simpa using hk
    exact ⟨W.heap.size, 0, rfl, lt_block (heap_alloc_new _ _), cell_of (heap_alloc_new _ _) rfl, cell_of (heap_alloc_new _ _) rfl, cell_of (heap_alloc_new _ _) rfl⟩⟩
theorem rdu_nil (W : World) : RdU W (.slice none 0 0) [] := ⟨none, 0, rfl, ⟨Nat.le_refl _, by omega⟩, fun k x h => by simp at h⟩
theorem ex_match : matchB 65000 (-1) [4259840100] = true := by unfold matchB matchC fitB; decide
theorem ex_perm : permB [(true, 65000, -1)] [4259840100] = true := by unfold permB mr; rw [List.find?_cons, show matchB 65000 (-1) [4259840100] = true from ex_match]; rfl
theorem ex_add (W : World) : Calls Tryd.prog 19 #[.slice (some ⟨W.heap.size, 0, none⟩) 2 2, .int .u32 4] (W.alloc (.cells #[.int .u32 5, .int .u32 3] 27)) fun e w' => ∃ b off cap, e = .returned (.slice (some ⟨b, off, none⟩) 3 cap) ∧ Rd w' (.slice (some ⟨b, off, none⟩) 3 cap) [3, 4, 5] ∧ Below W.heap.size W w' := by
  refine (add_any [5, 3] _ 4 _ (rd_two W 5 3 (by omega) (by omega)) (nilV_some _ _ _) (by omega) (by decide)).mono ?_
  rintro e w' ⟨v', he, t, hr, hn, hp, hb⟩
  have ht : t = [3, 4, 5] := hp.unique ⟨[3, 5], set53, by rw [if_neg (by decide)]; exact set534⟩
  subst ht
  obtain ⟨ad, cap, rfl, h1, h2, h3⟩ := id hr
  obtain ⟨b, off, rfl, _⟩ := h3 0 3 rfl
  exact ⟨b, off, cap, he, hr, below_then (below_alloc _ _) hb⟩
theorem ex_drop (v : Value) (W : World) (hr : Rd W v [3, 4, 5]) (hn : NilV v) : Calls Tryd.prog 21 #[v, .int .u32 4] W fun e w' => ∃ ad cap, e = .returned (.slice ad 2 cap) ∧ Below W.heap.size W w' := by
  refine (drop_any [3, 4, 5] v 4 W hr hn (by decide)).mono ?_
  rintro e w' ⟨v', he, t, hr, hn, hp, hb⟩
  have ht : t = [3, 5] := hp.unique ⟨[3, 4, 5], set345, rfl⟩
  subst ht
  obtain ⟨ad, cap, rfl⟩ := hr.form
  exact ⟨ad, cap, he, hb⟩
theorem ex_join (v : Value) (W : World) (hr : Rd W v [3, 4, 5]) (hn : NilV v) : Calls Tryd.prog 23 #[v, .slice (some ⟨W.heap.size, 0, none⟩) 1 1] (W.alloc (.cells #[.int .u32 9] 27)) fun e w' => ∃ ad cap, e = .returned (.slice ad 4 cap) ∧ Below W.heap.size W w' := by
  refine (join_any [3, 4, 5] [9] v _ _ (hr.below (below_alloc _ _)) hn (rd_lit W 9 (by omega)) (nilV_some _ _ _) (by decide)).mono ?_
  rintro e w' ⟨v', he, t, hr, hn, hp, hb⟩
  have ht : t = [3, 4, 5, 9] := hp.unique ⟨[3, 4, 5, 9], set3459, rfl⟩
  subst ht
  obtain ⟨ad, cap, rfl⟩ := hr.form
  exact ⟨ad, cap, he, below_then (below_alloc _ _) hb⟩
theorem ex_text (W : World) (hT : Lt W) : Calls Tryd.prog 12 #[.int .u32 4259840100] W fun e w' => e = .returned (.string ⟨#[54, 53, 48, 48, 48, 58, 49, 48, 48]⟩) ∧ Below W.heap.size W w' := by
  have := text_any 4259840100 W (by omega) hT
  rw [tx_exA] at this
  exact this
theorem ex_check1 (v : Value) (W : World) (hr : Rd W v [3, 4, 5]) : Calls Tryd.prog 9 #[v] W fun e w' => e = .returned (.int .i64 0) ∧ Below W.heap.size W w' := by
  have := check_any [3, 4, 5] v W hr
  rwa [show chkE [3, 4, 5] = 0 by decide] at this
theorem ex_check2 (W : World) : Calls Tryd.prog 9 #[.slice (some ⟨W.heap.size, 0, none⟩) 2 2] (W.alloc (.cells #[.int .u32 2, .int .u32 1] 27)) fun e w' => e = .returned (.int .i64 16) ∧ Below W.heap.size W w' := by
  have := check_any [2, 1] _ _ (rd_two W 2 1 (by omega) (by omega))
  rw [show chkE [2, 1] = 16 by decide] at this
  exact this.mono fun _ _ h => ⟨h.1, below_then (below_alloc _ _) h.2⟩
theorem ex_has (v : Value) (W : World) (hr : Rd W v [3, 4, 5]) : Calls Tryd.prog 16 #[v, .int .u32 5] W fun e w' => e = .returned (.bool true) ∧ W = w' := by
  have := has_any [3, 4, 5] v 5 W hr
  rw [show decide (5 ∈ [3, 4, 5]) = true by decide] at this
  exact this.mono fun _ _ h => ⟨h.1, h.2.symm⟩
theorem ex_m (W : World) : Calls Tryd.prog 25 #[.agg #[.bool true, .int .i64 65000, .int .i64 (-1)], .slice (some ⟨W.heap.size, 0, none⟩) 1 1] (W.alloc (.cells #[.int .u32 4259840100] 27)) fun e w' => e = .returned (.bool true) ∧ Below W.heap.size W w' := by
  have := match_any true 65000 (-1) [4259840100] _ _ (rd_lit W 4259840100 (by omega))
  rw [ex_match] at this
  exact this.mono fun _ _ h => ⟨h.1, below_then (below_alloc _ _) h.2⟩
theorem ex_p (W : World) : Calls Tryd.prog 27 #[.slice (some ⟨W.heap.size, 0, none⟩) 1 1, .slice (some ⟨W.heap.size + 1, 0, none⟩) 1 1] ((W.alloc (.cells #[.bool true, .int .i64 65000, .int .i64 (-1)] 40)).alloc (.cells #[.int .u32 4259840100] 27)) fun e w' => e = .returned (.bool true) ∧ Below W.heap.size W w' := by
  have h1 := rdu_one W (true, 65000, -1)
  have hb := below_alloc (W.alloc (.cells #[.bool true, .int .i64 65000, .int .i64 (-1)] 40)) (.cells #[.int .u32 4259840100] 27)
  have h2 := rd_lit (W.alloc (.cells #[.bool true, .int .i64 65000, .int .i64 (-1)] 40)) 4259840100 (by omega)
  have e : (W.alloc (.cells #[.bool true, .int .i64 65000, .int .i64 (-1)] 40)).heap.size = W.heap.size + 1 := by simp
  rw [e] at h2
  have := permits_any [(true, 65000, -1)] [4259840100] _ _ _ (h1.below hb) h2
  rw [ex_perm] at this
  exact this.mono fun _ _ h => ⟨h.1, below_then (below_then (below_alloc _ _) hb) h.2⟩
theorem ex_pn (v : Value) (l : List Nat) (W : World) (hr : Rd W v l) : Calls Tryd.prog 27 #[.slice none 0 0, v] W fun e w' => e = .returned (.bool false) ∧ Below W.heap.size W w' :=
  permits_any [] l _ v W (rdu_nil W) hr
theorem awake_any (w : World) (hT : Lt w) : Calls Tryd.prog 11 #[] w fun e w' => e = .returned (.bool true) ∧ Below w.heap.size w w' := by
  have HT := Lib.hid hT
  have H0 := Lib.hid (Below.refl w.heap.size w)
  clear hT
  go_enter Tryd.func11, Tryd.ntmps11
  go_wp2_with fail
  go_at_call 13
  refine (ex_parse exA 4259840100 0 pr_exA (by decide) w HT.out).mono ?_
  rintro e w1 ⟨rfl, hb⟩
  have H1 := Lib.hid (below_then H0.out hb)
  clear hb
  go_wp2_with fail
  go_at_call 13
  refine (ex_parse exB 0 2 pr_exB (by decide) w1 (HT.out.below H1.out)).mono ?_
  rintro e w2 ⟨rfl, hb⟩
  have H2 := Lib.hid (below_then H1.out hb)
  clear hb
  go_wp2_with fail
  go_at_call 13
  refine (ex_parse nmB 4294967041 0 pr_no (by decide) w2 (HT.out.below H2.out)).mono ?_
  rintro e w3 ⟨rfl, hb⟩
  have H3 := Lib.hid (below_then H2.out hb)
  clear hb
  go_wp2_with fail
  go_at_call 19
  refine (ex_add w3).mono ?_
  rintro e w4 ⟨b, off, cap, rfl, hr, hb⟩
  have H4 := Lib.hid (below_then H3.out hb)
  have HR := Lib.hid hr
  have HNV : Hid (NilV (.slice (some ⟨b, off, none⟩) 3 cap)) := nilV_some _ _ _
  have cl : w4.cell? ⟨b, off + 1, none⟩ = some (.int .u32 4) := by
    obtain ⟨ad, c2, e, _, _, h3⟩ := hr
    cases e
    obtain ⟨b', off', e', _, h⟩ := h3 1 4 rfl
    cases e'
    exact h
  clear hb hr
  go_wp2_with fail
  go_at_call 12
  refine (ex_text w4 (HT.out.below H4.out)).mono ?_
  rintro e w5 ⟨rfl, hb⟩
  have H5 := Lib.hid (below_then H4.out hb)
  have HR5 := Lib.hid (HR.out.below hb)
  clear hb cl HR
  go_wp2_with fail
  have hx : (w5.alloc (.cells #[.bool true, .int .i64 65000, .int .i64 (-1)] 40)).heap[w5.heap.size]? = some (.cells #[.bool true, .int .i64 65000, .int .i64 (-1)] 40 (0, 0)) := heap_alloc_new _ _
  have HX := Lib.hid hx
  have H5' : Hid (Below w.heap.size w (w5.alloc (.cells #[.bool true, .int .i64 65000, .int .i64 (-1)] 40))) := below_then H5.out (below_alloc _ _)
  have HR5' := Lib.hid (HR5.out.below (below_alloc w5 (.cells #[.bool true, .int .i64 65000, .int .i64 (-1)] 40)))
  clear hx
  go_at_call 9
  refine (ex_check1 _ _ HR5'.out).mono ?_
  rintro e w6 ⟨rfl, hb⟩
  have H6 := Lib.hid (below_then H5'.out hb)
  have HR6 := Lib.hid (HR5'.out.below hb)
  have HX6 := Lib.hid ((hb.block _ (lt_block HX.out)).trans HX.out)
  clear hb
  go_wp2_with fail
  go_at_call 9
  refine (ex_check2 w6).mono ?_
  rintro e w7 ⟨rfl, hb⟩
  have H7 := Lib.hid (below_then H6.out hb)
  have HR7 := Lib.hid (HR6.out.below hb)
  have HX7 := Lib.hid ((hb.block _ (lt_block HX6.out)).trans HX6.out)
  clear hb
  go_wp2_with fail
  go_at_call 16
  refine (ex_has _ _ HR7.out).mono ?_
  rintro e w7' ⟨rfl, rfl⟩
  go_wp2_with fail
  go_at_call 21
  refine (ex_drop _ _ HR7.out HNV.out).mono ?_
  rintro e w8 ⟨ad8, c8, rfl, hb⟩
  have H8 := Lib.hid (below_then H7.out hb)
  have HR8 := Lib.hid (HR7.out.below hb)
  have HX8 := Lib.hid ((hb.block _ (lt_block HX7.out)).trans HX7.out)
  clear hb
  go_wp2_with fail
  go_at_call 23
  refine (ex_join _ w8 HR8.out HNV.out).mono ?_
  rintro e w9 ⟨ad9, c9, rfl, hb⟩
  have H9 := Lib.hid (below_then H8.out hb)
  have HR9 := Lib.hid (HR8.out.below hb)
  have hx9 := (hb.block _ (lt_block HX8.out)).trans HX8.out
  have HX9 := Lib.hid hx9
  have q0 : w9.cell? ⟨w5.heap.size, 0, none⟩ = some (.bool true) := cell_of hx9 rfl
  have q1 : w9.cell? ⟨w5.heap.size, 1, none⟩ = some (.int .i64 65000) := cell_of hx9 rfl
  have q2 : w9.cell? ⟨w5.heap.size, 2, none⟩ = some (.int .i64 (-1)) := cell_of hx9 rfl
  clear hb hx9
  go_wp2_with fail
  go_at_call 25
  refine (ex_m w9).mono ?_
  rintro e w10 ⟨rfl, hb⟩
  have H10 := Lib.hid (below_then H9.out hb)
  have HR10 := Lib.hid (HR9.out.below hb)
  have hx10 := (hb.block _ (lt_block HX9.out)).trans HX9.out
  have q0 : w10.cell? ⟨w5.heap.size, 0, none⟩ = some (.bool true) := cell_of hx10 rfl
  have q1 : w10.cell? ⟨w5.heap.size, 1, none⟩ = some (.int .i64 65000) := cell_of hx10 rfl
  have q2 : w10.cell? ⟨w5.heap.size, 2, none⟩ = some (.int .i64 (-1)) := cell_of hx10 rfl
  clear hb hx10
  go_wp2_with fail
  go_at_call 27
  refine (ex_p w10).mono ?_
  rintro e w11 ⟨rfl, hb⟩
  have H11 := Lib.hid (below_then H10.out hb)
  have HR11 := Lib.hid (HR10.out.below hb)
  clear hb q0 q1 q2
  go_wp2_with fail
  go_at_call 27
  refine (ex_pn _ _ _ HR11.out).mono ?_
  rintro e w12 ⟨rfl, hb⟩
  have H12 := Lib.hid (below_then H11.out hb)
  clear hb
  go_wp2
  go_ret
  exact ⟨rfl, H12.out⟩
end Go.Proofs.YtaniiennfogjaaaDoor
