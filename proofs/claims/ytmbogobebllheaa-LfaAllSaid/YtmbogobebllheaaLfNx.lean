/-
  The reference's Next again, with the row as the call's own; the neighbours are those of the edges that leave, their costs the edges'; the reference's better.
-/
import Derived.Test.YtmbogobebllheaaMw
import Derived.Test.YtmbogobebllheaaMg
import Derived.Test.YtmbogobebllheaaMz
namespace Go.Proofs.Ytmbogobebllheaa.GM
open SP HM
theorem cst_mem {a b c : Int} : ∀ {l : List E}, l.Pairwise (fun a b => bef a b = true) → (a, b, c) ∈ l → cstF a b l = (c, true)
  | [], _, h => by cases h
  | e :: r, hp, h => by
    rw [List.pairwise_cons] at hp
    unfold cstF
    rcases List.mem_cons.1 h with rfl | h
    · rw [if_pos ⟨rfl, rfl⟩]
    · have := hp.1 _ h
      rw [bef_iff] at this
      dsimp only at this
      rw [if_neg (by omega)]
      exact cst_mem hp.2 h
theorem next_outs {R N : Int} {l : List E} {a : Int} {r : List Int} (hv : Valid R N l) (h : NextOf l a r) : r = (outs l a).map (fun e => e.2.1) := by
  refine RowI.unique (P := fun x => ∃ e ∈ l, e.1 = a ∧ e.2.1 = x) ⟨h.1, h.2⟩ ⟨?_, fun x => ?_⟩
  · rw [List.pairwise_map]
    refine (List.Pairwise.filter _ hv.asc).imp_of_mem fun {e f} he hf hb => ?_
    have h1 : e.1 = a := of_decide_eq_true (List.mem_filter.1 he).2
    have h2 : f.1 = a := of_decide_eq_true (List.mem_filter.1 hf).2
    rw [bef_iff] at hb
    omega
  · simp only [List.mem_map, outs, List.mem_filter, decide_eq_true_eq]
    constructor
    · rintro ⟨e, ⟨h1, h2⟩, h3⟩; exact ⟨e, h1, h2, h3⟩
    · rintro ⟨e, h1, h2, h3⟩; exact ⟨e, ⟨h1, h2⟩, h3⟩
end Go.Proofs.Ytmbogobebllheaa.GM
namespace Go.Proofs.Ytmbogobebllheaa
open Go.RowKit HM GM SP Go.Lib
set_option linter.unusedSimpArgs false
set_option linter.unusedVariables false
set_option maxHeartbeats 4000000
set_option maxRecDepth 100000
/-- a slice of integers whose cells lie in blocks from B on -/
def RdIB (B : Nat) (w : World) (v : Value) (l : List Int) : Prop :=
  ∃ ad cap, v = .slice ad l.length cap ∧ l.length ≤ cap ∧ cap ≤ 9223372036854775807 ∧ ∀ k x, l[k]? = some x → ∃ b off, ad = some ⟨b, off, none⟩ ∧ b < w.heap.size ∧ B ≤ b ∧ w.cell? ⟨b, off + k, none⟩ = some (.int .i64 x)
theorem RdIB.rd {B : Nat} {w : World} {v : Value} {l : List Int} (h : RdIB B w v l) : RdI w v l := by
  obtain ⟨ad, cap, e, h1, h2, hc⟩ := h
  exact ⟨ad, cap, e, h1, h2, fun k x hk => by obtain ⟨b, off, e1, e2, _, e4⟩ := hc k x hk; exact ⟨b, off, e1, e2, e4⟩⟩
theorem rdIB_own {B B' : Nat} {W : World} {v : Value} {o : List Int} (h : OwnI B W v o) (hB : B' ≤ B) : RdIB B' W v o := by
  obtain ⟨ad, cap, e, h1, h2, hc⟩ := rdI_own h
  subst e
  refine ⟨ad, cap, rfl, h1, h2, fun k x hk => ?_⟩
  obtain ⟨b, off, rfl, e2, e4⟩ := hc k x hk
  exact ⟨b, off, rfl, e2, Nat.le_trans hB (row_lt h rfl).1, e4⟩
theorem rnext_own (R N a : Int) (l : List E) (s : Value) (w : World) (hl : Fits l) (hr : Rd3 w s l) :
    Calls Try.prog 71 #[.agg #[.int .i64 R, .int .i64 N, s], .int .i64 a] w fun e w' => ∃ v r, e = .returned v ∧ RdIB w.heap.size w' v r ∧ NextOf l a r ∧ Below w.heap.size w w' := by
  unfold Fits at hl
  obtain ⟨ad, cap, rfl, hcap1, hcap2, hc⟩ := hr
  have HC := Lib.hid hc
  obtain ⟨L, hL⟩ : ∃ L, l.length = L := ⟨_, rfl⟩
  rw [hL] at hcap1 hl ⊢
  have HL := Lib.hid hL
  have HI0 : Hid (NextOf (l.take 0) a []) := by rw [List.take_zero]; exact NextOf.nil
  have HS0 : Hid (RdIB w.heap.size ((w.alloc (.cells #[.int .i64 R, .int .i64 N, .slice ad L cap] 27)).alloc (.cells #[] 3)) (.slice (some ⟨w.heap.size + 1, 0, none⟩) 0 0) [] ∧ Below w.heap.size w ((w.alloc (.cells #[.int .i64 R, .int .i64 N, .slice ad L cap] 27)).alloc (.cells #[] 3)) ∧ ((w.alloc (.cells #[.int .i64 R, .int .i64 N, .slice ad L cap] 27)).alloc (.cells #[] 3)).heap[w.heap.size]? = some (.cells #[.int .i64 R, .int .i64 N, .slice ad L cap] 27 (0, 0))) :=
    ⟨⟨_, _, rfl, Nat.le_refl _, by omega, fun k x h => by simp at h⟩, below_two _ _ _, (Below.heap_alloc _ _ _ (by simp)).trans (heap_alloc_new _ _)⟩
  clear hc hL
  go_enter Try.func71, Try.ntmps71
  go_wp2_with fail
  go_loopg [5, 6] L (fun g s5 s6 wr => ∃ (k : Nat) (v : Value) (o : List Int), k ≤ L ∧ o.length ≤ k ∧ L - k ≤ g ∧ v = s5 ∧ s6 = .int .i64 (k : Int) ∧ Hid (NextOf (l.take k) a o) ∧ Hid (RdIB w.heap.size wr v o ∧ Below w.heap.size w wr ∧ wr.heap[w.heap.size]? = some (.cells #[.int .i64 R, .int .i64 N, .slice ad L cap] 27 (0, 0))))
  case atStart => exact ⟨0, _, [], by omega, Nat.le_refl _, by omega, rfl, rfl, HI0, HS0⟩
  case round =>
    clear HI0 HS0
    obtain ⟨k, v, o, hk, hok, hg, rfl, rfl, HI, HS⟩ := hrel
    have g2 : wr.cell? ⟨w.heap.size, 2, none⟩ = some (.slice ad L cap) := cell_of HS.out.2.2 rfl
    by_cases hlt : k < L
    · obtain ⟨e, he⟩ : ∃ y, l[k]? = some y := ⟨_, List.getElem?_eq_getElem (by have := HL.out; omega)⟩
      obtain ⟨bl, off, rfl, hbl, c0, c1, c2⟩ := HC.out k e he
      have d0 := carryB HS.out.2.1 hbl c0
      have d1 := carryB HS.out.2.1 hbl c1
      have htk : l.take (k + 1) = l.take k ++ [e] := by rw [List.take_add_one, he]; rfl
      have k1 : (k : Int) < (L : Int) := by omega
      by_cases hea : e.1 = a
      · have HI2 : Hid (NextOf (l.take (k + 1)) a (insI e.2.1 o)) := by rw [htk]; exact HI.out.yes hea
        have HLI : Hid ((insI e.2.1 o).length ≤ k + 1) := by have := insI_len (n := e.2.1) (l := o); show _ ≤ _; omega
        have HIN : Hid (Calls Try.prog 113 #[v, .int .i64 e.2.1] wr fun e' w' => ∃ v', e' = .returned v' ∧ OwnI wr.heap.size w' v' (insI e.2.1 o) ∧ Below wr.heap.size wr w') := ints59_any o e.2.1 v wr (by omega) HS.out.1.rd
        obtain ⟨x, y, z⟩ := e
        dsimp only at d0 d1 HIN HI2 HLI hea
        subst hea
        clear c0 c1 c2 he htk hbl
        go_wp2_with fail
        go_at_call 113
        refine HIN.out.mono ?_
        rintro en w3 ⟨v3, rfl, hown, hb⟩
        have S3 : Hid (RdIB w.heap.size w3 v3 (insI y o) ∧ Below w.heap.size w w3 ∧ w3.heap[w.heap.size]? = some (.cells #[.int .i64 R, .int .i64 N, .slice (some ⟨bl, off, none⟩) L cap] 27 (0, 0))) := ⟨rdIB_own hown HS.out.2.1.size, below_then HS.out.2.1 hb, (hb.block _ (lt_block HS.out.2.2)).trans HS.out.2.2⟩
        obtain ⟨ad3, cap3, rfl, _⟩ := rdI_own hown
        clear hown hb g2 d0 d1
        go_wp2_with fail
        go_roundg (L - (k + 1))
        case measure => omega
        case rel => exact ⟨k + 1, _, _, by omega, HLI.out, Nat.le_refl _, rfl, by go_num, HI2, S3⟩
      · have HI2 : Hid (NextOf (l.take (k + 1)) a o) := by rw [htk]; exact HI.out.no hea
        obtain ⟨x, y, z⟩ := e
        dsimp only at d0 d1 hea
        have e1 : (x == a) = false := by simpa using hea
        clear c0 c1 c2 he htk hbl hea
        go_wp2_with fail
        go_roundg (L - (k + 1))
        case measure => omega
        case rel => exact ⟨k + 1, _, _, by omega, by omega, Nat.le_refl _, rfl, by go_num, HI2, HS⟩
    · have k1 : decide ((k : Int) < (L : Int)) = false := decide_eq_false (by omega)
      have HF : Hid (NextOf l a o) := by have := HI.out; rwa [List.take_of_length_le (by have := HL.out; omega)] at this
      go_wp2
      go_ret
      exact ⟨_, o, rfl, HS.out.1, HF.out, HS.out.2.1⟩
theorem rbetter_any (a b : Al × Int) (w : World) : Calls Try.prog 72 #[alV a.1, alV b.1, .int .i64 a.2, .int .i64 b.2] w fun e w' => e = .returned (.bool (betterA a b)) ∧ Below w.heap.size w w' := by
  obtain ⟨⟨a1, a2, a3, a4, a5⟩, ac⟩ := a
  obtain ⟨⟨b1, b2, b3, b4, b5⟩, bc⟩ := b
  have HB := Lib.hid (below_two w (.cells #[.int .i64 a1, .int .i64 a2, .int .i64 a3, .int .i64 a4, .bool a5] 47) (.cells #[.int .i64 b1, .int .i64 b2, .int .i64 b3, .int .i64 b4, .bool b5] 47))
  unfold alV
  dsimp only
  by_cases h1 : a4 = b4
  · have e1 : (a4 != b4) = false := by simpa using h1
    by_cases h2 : ac = bc
    · have e2 : (ac != bc) = false := by simpa using h2
      have HR : Hid (betterA (⟨a1, a2, a3, a4, a5⟩, ac) (⟨b1, b2, b3, b4, b5⟩, bc) = decide (a3 < b3)) := by show _ = _; unfold betterA; dsimp only; rw [if_neg (by simpa using h1), if_neg (by simpa using h2)]
      clear h1 h2
      go_enter Try.func72, Try.ntmps72
      go_wp2
      go_ret
      exact ⟨by rw [HR.out]; rfl, HB.out⟩
    · have e2 : (ac != bc) = true := by simpa using h2
      have HR : Hid (betterA (⟨a1, a2, a3, a4, a5⟩, ac) (⟨b1, b2, b3, b4, b5⟩, bc) = decide (ac < bc)) := by show _ = _; unfold betterA; dsimp only; rw [if_neg (by simpa using h1), if_pos h2]
      clear h1 h2
      go_enter Try.func72, Try.ntmps72
      go_wp2
      go_ret
      exact ⟨by rw [HR.out]; rfl, HB.out⟩
  · have e1 : (a4 != b4) = true := by simpa using h1
    have HR : Hid (betterA (⟨a1, a2, a3, a4, a5⟩, ac) (⟨b1, b2, b3, b4, b5⟩, bc) = (a4 == 2)) := by show _ = _; unfold betterA; dsimp only; rw [if_pos h1]; simp [Bool.beq_eq_decide_eq]
    clear h1
    go_enter Try.func72, Try.ntmps72
    go_wp2
    go_ret
    exact ⟨by rw [HR.out]; rfl, HB.out⟩
end Go.Proofs.Ytmbogobebllheaa
