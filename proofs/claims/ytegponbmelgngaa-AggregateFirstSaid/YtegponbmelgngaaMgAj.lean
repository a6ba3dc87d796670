/-
  The walk of the reference's Differ.
  The walk of the reference's Same.
  The walks of the reference's SameEntries (two slices that read as one list) and of the law's own halves.
  The walk of the law AggregateTrims, given that the law's own test is awake.
  The walk of the law AggregateChecks, given that the law's own test is awake.
-/
import Derived.Test.YtegponbmelgngaaMgAi
section
namespace Go.Proofs.Ytegponbmelgngaa
open Go.RowKit
set_option linter.unusedSimpArgs false
set_option linter.unusedVariables false
set_option maxHeartbeats 1500000
set_option maxRecDepth 100000

theorem differ_heq {a b : List En} {ys : List Nat} (ha : ∀ e ∈ a, V e.1 = true) (hb : ∀ e ∈ b, V e.1 = true) (hy : BdP (a ++ b) ys) {n : Nat} (hn : n ≤ 4294967296) (h : ∀ z ∈ ys, z < n → lkE z (-1) a = lkE z (-1) b) : ∀ y, y < n → lkE y (-1) a = lkE y (-1) b := fun y hyn => by
  rw [lkE_lk y a _ ha, lkE_lk y b _ hb]
  refine AG.differ_first (bs := ys) (fun x hx hB => (hy x).2 (.inr ⟨hx, ?_⟩)) (n := n) (fun x hx hxn => ?_) hyn (by omega)
  · rw [List.map_append]
    rcases hB with ⟨e, he, h⟩ | ⟨e, he, h⟩
    · exact ⟨e, List.mem_append_left _ he, h⟩
    · exact ⟨e, List.mem_append_right _ he, h⟩
  · rw [← lkE_lk x a _ ha, ← lkE_lk x b _ hb]; exact h x hx hxn
theorem rdiffer_any (a b : List En) (v1 v2 : Value) (w : World) (hla : a.length ≤ 400) (hlb : b.length ≤ 400) (hr1 : RdE w v1 a) (hr2 : RdE w v2 b) (n1 : NilE v1) (n2 : NilE v2) (fa : FitE a) (fb : FitE b) :
    Calls Try.prog 52 #[v1, v2] w fun e w' => ∃ (d : Nat) (f : Bool), e = .returned (.tuple #[.int .u32 (d : Int), .bool f]) ∧ DifP a b d f ∧ Below w.heap.size w w' := by
  by_cases hck : ckE a = 0 ∧ ckE b = 0
  · have ta := ckE_iff.1 hck.1
    have tb := ckE_iff.1 hck.2
    have HC1 := Lib.hid (rcheck48_any a v1 w hr1 fa)
    have HC2 : Hid (∀ W, Below w.heap.size w W → Calls Try.prog 48 #[v2] W fun e w' => e = .returned (.int .i64 0) ∧ Below W.heap.size W w') := fun W hW => by have := rcheck48_any b v2 W (hr2.below hW) fb; rwa [hck.2] at this
    rw [hck.1] at HC1
    have HL1 : Hid (∀ W x, Below w.heap.size w W → x < 4294967296 → Calls Try.prog 86 #[v1, .int .u32 (x : Nat)] W fun e w' => e = .returned (.int .i64 (lkE x (-1) a)) ∧ Below W.heap.size W w') := fun W x hW hx => rlookup86_any a v1 x W ta (hr1.below hW) fa hx
    have HL2 : Hid (∀ W x, Below w.heap.size w W → x < 4294967296 → Calls Try.prog 86 #[v2, .int .u32 (x : Nat)] W fun e w' => e = .returned (.int .i64 (lkE x (-1) b)) ∧ Below W.heap.size W w') := fun W x hW hx => rlookup86_any b v2 x W tb (hr2.below hW) fb hx
    have HBN : Hid (∀ (v : Value) (W : World), W.ownsRow w.heap.size 51 3 v (a ++ b).length (flatE (a ++ b)) → Calls Try.prog 90 #[v] W fun e w' => ∃ v' ys, e = .returned v' ∧ OwnW W.heap.size w' v' ys ∧ AscN ys ∧ BdP (a ++ b) ys ∧ ys.length ≤ 2 * (a ++ b).length + 1 ∧ Below W.heap.size W w') := fun v W hW =>
      rbounds_any (a ++ b) v W (by rw [List.length_append]; omega) (fun e he => (List.mem_append.1 he).elim (fun h => (ta.val e h).1) (fun h => (tb.val e h).1)) (rdE_own hW) (fun e he => (List.mem_append.1 he).elim (fun h => fa e h) (fun h => fb e h))
    have HR1 : Hid (RdE w v1 a ∧ NilE v1 ∧ a.length ≤ 400) := ⟨hr1, n1, hla⟩
    have HR2 : Hid (RdE w v2 b ∧ NilE v2 ∧ b.length ≤ 400) := ⟨hr2, n2, hlb⟩
    have HQ : Hid (∀ ys, BdP (a ++ b) ys → ∀ n, n ≤ 4294967296 → (∀ z ∈ ys, z < n → lkE z (-1) a = lkE z (-1) b) → ∀ y, y < n → lkE y (-1) a = lkE y (-1) b) := fun ys hy n hn h => differ_heq (fun e he => (ta.val e he).1) (fun e he => (tb.val e he).1) hy hn h
    have HD : Hid (∀ d f, (d < 4294967296 ∧ (∀ y, y < 4294967296 → (f = true → y < d) → lkE y (-1) a = lkE y (-1) b) ∧ (f = true → lkE d (-1) a ≠ lkE d (-1) b) ∧ (f = false → d = 0)) → DifP a b d f) := fun d f h => by unfold DifP; rw [if_pos hck]; exact h
    clear hck ta tb hr1 hr2 n1 n2 fa fb hla hlb
    go_enter Try.func52, Try.ntmps52
    go_wp2_with (first
      | (go_at_call 48; refine (HC2.out _ HB.out).mono ?_; rintro en w2 ⟨rfl, hb⟩; have HB2 := Lib.hid (below_then HB.out hb); clear hb)
      | (go_at_call 48; refine HC1.out.mono ?_; rintro en w1 ⟨rfl, hb⟩; have HB := Lib.hid hb; clear hb)
      | (at_builtin; refine append_rdE rfl (.tmp 20) (.tmp 21) rfl w.heap.size HB3.out.1.size v3 a rfl HB3.out.2 v2 b rfl (HR2.out.1.below HB3.out.1) HR2.out.2.1 (by have := HR1.out.2.2; have := HR2.out.2.2; omega) ?_; intro v4 w4 hown hb; have HB4 : Hid (Below w.heap.size w w4 ∧ w4.ownsRow w.heap.size 51 3 v4 (a ++ b).length (flatE (a ++ b))) := ⟨HB3.out.1.trans hb, hown⟩; clear hown hb)
      | (at_builtin; refine append_rdE rfl (.tmp 17) (.tmp 18) rfl w.heap.size HB2.out.size (.slice none 0 0) [] rfl (World.ownsRow_nil _ _ _ _) v1 a rfl (HR1.out.1.below HB2.out) HR1.out.2.1 (by have := HR1.out.2.2; simp; omega) ?_; intro v3 w3 hown hb; have HB3 : Hid (Below w.heap.size w w3 ∧ w3.ownsRow w.heap.size 51 3 v3 a.length (flatE a)) := ⟨HB2.out.trans hb, hown⟩; clear hown hb))
    go_at_call 90
    refine (HBN.out _ _ HB4.out.2).mono ?_
    rintro en w5 ⟨v5, ys, rfl, ho5, ha5, hm5, hl5, hb5⟩
    obtain ⟨ad, cap, rfl, hsl⟩ := OwnW.slice ho5
    have HSL := Lib.hid hsl
    have HAY := Lib.hid ha5
    have HBY := Lib.hid hm5
    have HQ2 := Lib.hid (HQ.out ys hm5)
    have HB5 := Lib.hid (HB4.out.1.trans ⟨hb5.os, hb5.tape, hb5.output, hb5.size, fun j hj => hb5.block j (by have := HB4.out.1.size; omega)⟩)
    obtain ⟨B5, hB5⟩ : ∃ B5, B5 = w4.heap.size := ⟨_, rfl⟩
    rw [← hB5] at ho5
    have HO5 := Lib.hid ho5
    have hl : ys.length ≤ 2000 := by have := HR1.out.2.2; have := HR2.out.2.2; rw [List.length_append] at hl5; omega
    obtain ⟨L, hL⟩ : ∃ L, ys.length = L := ⟨_, rfl⟩
    rw [hL] at HO5 hl ⊢
    have HL := Lib.hid hL
    clear hsl ho5 ha5 hm5 hl5 hb5 HC1 HC2 HBN HR1 HR2 HQ hB5 hL
    go_wp2_with fail
    go_loopg [8, 26] L (fun g s8 s26 wr => ∃ (k : Nat), (∃ u, u = s8) ∧ s26 = .int .i64 (k : Int) ∧ k ≤ L ∧ L - k ≤ g ∧ Hid (Below w.heap.size w wr ∧ OwnW B5 wr (.slice ad L cap) ys ∧ ∀ z ∈ ys.take k, lkE z (-1) a = lkE z (-1) b))
    case atStart => exact ⟨0, ⟨_, rfl⟩, rfl, by omega, by omega, HB5.out, HO5.out, fun z hz => by simp at hz⟩
    case round =>
      clear HB5 HO5
      obtain ⟨k, ⟨u8, rfl⟩, rfl, hk, hg, HS⟩ := hrel
      by_cases hlt : k < L
      · obtain ⟨y, hy⟩ : ∃ x, ys[k]? = some x := ⟨_, List.getElem?_eq_getElem (by have := HL.out; omega)⟩
        obtain ⟨g, rfl⟩ := HSL.out k y hy
        have c0 := HS.out.2.1.cell hy HL.out.symm
        have hyl : y < 4294967296 := by
          rcases (HBY.out y).1 (List.mem_of_getElem? hy) with h | h
          · omega
          · exact h.1
        have wy : IntKind.u32.wrap (y : Int) = (y : Int) := IntWalk.u32_in _ (by constructor <;> omega)
        have HLA := Lib.hid (fun W hW => HL1.out W y hW hyl)
        have HLB := Lib.hid (fun W hW => HL2.out W y hW hyl)
        have HNX : Hid (lkE y (-1) a = lkE y (-1) b → ∀ z ∈ ys.take (k + 1), lkE z (-1) a = lkE z (-1) b) := fun h z hz => by
          rw [List.take_add_one, hy] at hz
          rcases List.mem_append.1 hz with hz | hz
          · exact HS.out.2.2 z hz
          · simp at hz; rw [hz]; exact h
        have HFD : Hid (lkE y (-1) a ≠ lkE y (-1) b → DifP a b y true) := fun h => by
          refine HD.out y true ⟨hyl, fun z _ hz => ?_, fun _ => h, (fun e => by cases e)⟩
          refine HQ2.out y (by omega) (fun u hu huy => HS.out.2.2 u ?_) z (hz rfl)
          obtain ⟨i, hi⟩ := List.getElem?_of_mem hu
          obtain ⟨h1, e1⟩ := List.getElem?_eq_some_iff.1 hi
          obtain ⟨h2, e2⟩ := List.getElem?_eq_some_iff.1 hy
          have hik : i < k := by
            refine Classical.byContradiction fun hn => ?_
            rcases (by omega : i = k ∨ k < i) with e | e
            · subst e; rw [hi] at hy; cases hy; omega
            · have := List.pairwise_iff_getElem.1 HAY.out k i h2 h1 e
              rw [e1, e2] at this; omega
          exact List.mem_of_getElem? (i := i) (by rw [List.getElem?_take, if_pos hik]; exact hi)
        obtain ⟨p, hp⟩ : ∃ p, p = lkE y (-1) a := ⟨_, rfl⟩
        obtain ⟨q, hq⟩ : ∃ q, q = lkE y (-1) b := ⟨_, rfl⟩
        rw [← hp] at HLA HNX HFD
        rw [← hq] at HLB HNX HFD
        clear hy hyl hp hq
        by_cases he : p = q
        · have f1 : (p == q) = true := by simpa using he
          have f2 : (p != q) = false := by simpa using he
          have HN2 := Lib.hid (HNX.out he)
          clear he HNX HFD
          go_wp2_with (first
            | (go_at_call 86; refine (HLB.out _ HX1.out).mono ?_; rintro en w7 ⟨rfl, hb⟩; have HX2 : Hid (Below w.heap.size w w7 ∧ OwnW B5 w7 (.slice (some ⟨g, 0, none⟩) L cap) ys) := ⟨below_then HX1.out hb, HO1.out.below hb⟩; clear hb)
            | (go_at_call 86; refine (HLA.out _ HS.out.1).mono ?_; rintro en w6 ⟨rfl, hb⟩; have HX1 := Lib.hid (below_then HS.out.1 hb); have HO1 := Lib.hid (HS.out.2.1.below hb); clear hb))
          go_roundg (L - (k + 1))
          case measure => omega
          case rel => exact ⟨k + 1, ⟨_, rfl⟩, by go_num, by omega, Nat.le_refl _, HX2.out.1, HX2.out.2, HN2.out⟩
        · have f1 : (p == q) = false := by simpa using he
          have f2 : (p != q) = true := by simpa using he
          have HF2 := Lib.hid (HFD.out he)
          clear he HNX HFD
          go_wp2_with (first
            | (go_at_call 86; refine (HLB.out _ HX1.out).mono ?_; rintro en w7 ⟨rfl, hb⟩; have HX2 := Lib.hid (below_then HX1.out hb); clear hb)
            | (go_at_call 86; refine (HLA.out _ HS.out.1).mono ?_; rintro en w6 ⟨rfl, hb⟩; have HX1 := Lib.hid (below_then HS.out.1 hb); clear hb))
          go_ret2
          exact ⟨y, true, rfl, HF2.out, HX2.out⟩
      · have k1 : decide ((k : Int) < (L : Int)) = false := decide_eq_false (by omega)
        have HF2 : Hid (DifP a b 0 false) := by
          refine HD.out 0 false ⟨by omega, fun z hz _ => ?_, (fun e => by cases e), fun _ => rfl⟩
          refine HQ2.out 4294967296 (Nat.le_refl _) (fun u hu _ => HS.out.2.2 u ?_) z hz
          rwa [List.take_of_length_le (by have := HL.out; omega)]
        go_wp2
        go_ret2
        exact ⟨0, false, rfl, HF2.out, HS.out.1⟩
  · exact rdiffer_bad a b v1 v2 w hr1 hr2 fa fb hck
end Go.Proofs.Ytegponbmelgngaa
end

section
namespace Go.Proofs.Ytegponbmelgngaa
open Go.RowKit
open Classical
set_option linter.unusedSimpArgs false
set_option linter.unusedVariables false
set_option maxHeartbeats 1500000
set_option maxRecDepth 100000

/-- two tables, and every lookup the same -/
def SamE (a b : List En) : Prop := ckE a = 0 ∧ ckE b = 0 ∧ ∀ y, y < 4294967296 → lkE y (-1) a = lkE y (-1) b
theorem DifP.same {a b : List En} {d : Nat} {f : Bool} (h : DifP a b d f) : SamE a b ↔ ckE a = 0 ∧ ckE b = 0 ∧ f = false := by
  unfold DifP at h
  unfold SamE
  constructor
  · rintro ⟨h1, h2, h3⟩
    rw [if_pos ⟨h1, h2⟩] at h
    refine ⟨h1, h2, ?_⟩
    cases f
    · rfl
    · exact absurd (h3 d h.1) (h.2.2.1 rfl)
  · rintro ⟨h1, h2, rfl⟩
    rw [if_pos ⟨h1, h2⟩] at h
    exact ⟨h1, h2, fun y hy => h.2.1 y hy (fun e => by cases e)⟩
theorem rsame_any (a b : List En) (v1 v2 : Value) (w : World) (hla : a.length ≤ 400) (hlb : b.length ≤ 400) (hr1 : RdE w v1 a) (hr2 : RdE w v2 b) (n1 : NilE v1) (n2 : NilE v2) (fa : FitE a) (fb : FitE b) :
    Calls Try.prog 54 #[v1, v2] w fun e w' => e = .returned (.bool (decide (SamE a b))) ∧ Below w.heap.size w w' := by
  have HD := Lib.hid (rdiffer_any a b v1 v2 w hla hlb hr1 hr2 n1 n2 fa fb)
  have HC1 : Hid (∀ W, Below w.heap.size w W → Calls Try.prog 48 #[v1] W fun e w' => e = .returned (.int .i64 (ckE a)) ∧ Below W.heap.size W w') := fun W hW => rcheck48_any a v1 W (hr1.below hW) fa
  have HC2 : Hid (∀ W, Below w.heap.size w W → Calls Try.prog 48 #[v2] W fun e w' => e = .returned (.int .i64 (ckE b)) ∧ Below W.heap.size W w') := fun W hW => rcheck48_any b v2 W (hr2.below hW) fb
  have HS : Hid (∀ d f, DifP a b d f → decide (SamE a b) = (decide (ckE a = 0) && decide (ckE b = 0) && !f)) := fun d f h => by
    rw [Bool.eq_iff_iff, decide_eq_true_iff, h.same]
    simp [and_assoc]
  generalize ckE a = p at *
  generalize ckE b = q at *
  clear hr1 hr2 n1 n2 fa fb hla hlb
  by_cases hp : p = 0
  · subst hp
    by_cases hq : q = 0
    · subst hq
      go_enter Try.func54, Try.ntmps54
      go_wp2_with (first
        | (go_at_call 48; refine (HC2.out _ HB2.out).mono ?_; rintro en w3 ⟨rfl, hb⟩; have HB3 := Lib.hid (below_then HB2.out hb); clear hb)
        | (go_at_call 48; refine (HC1.out _ HB1.out.2).mono ?_; rintro en w2 ⟨rfl, hb⟩; have HB2 := Lib.hid (below_then HB1.out.2 hb); clear hb)
        | (go_at_call 52; refine HD.out.mono ?_; rintro en w1 ⟨d, f, rfl, hd, hb⟩; have HB1 : Hid (decide (SamE a b) = (true && true && !f) ∧ Below w.heap.size w w1) := ⟨HS.out d f hd, hb⟩; clear hd hb))
      go_ret
      exact ⟨by rw [HB1.out.1]; rfl, HB3.out⟩
    · have h1 : (q == 0) = false := by simpa using hq
      have HQ : Hid (decide (q = 0) = false) := decide_eq_false hq
      clear hq
      go_enter Try.func54, Try.ntmps54
      go_wp2_with (first
        | (go_at_call 48; refine (HC2.out _ HB2.out).mono ?_; rintro en w3 ⟨rfl, hb⟩; have HB3 := Lib.hid (below_then HB2.out hb); clear hb)
        | (go_at_call 48; refine (HC1.out _ HB1.out.2).mono ?_; rintro en w2 ⟨rfl, hb⟩; have HB2 := Lib.hid (below_then HB1.out.2 hb); clear hb)
        | (go_at_call 52; refine HD.out.mono ?_; rintro en w1 ⟨d, f, rfl, hd, hb⟩; have HB1 : Hid (decide (SamE a b) = false ∧ Below w.heap.size w w1) := ⟨by rw [HS.out d f hd, HQ.out]; simp, hb⟩; clear hd hb))
      go_ret
      exact ⟨by rw [HB1.out.1]; rfl, HB3.out⟩
  · have h1 : (p == 0) = false := by simpa using hp
    have HQ : Hid (decide (p = 0) = false) := decide_eq_false hp
    clear hp
    go_enter Try.func54, Try.ntmps54
    go_wp2_with (first
      | (go_at_call 48; refine (HC1.out _ HB1.out.2).mono ?_; rintro en w2 ⟨rfl, hb⟩; have HB2 := Lib.hid (below_then HB1.out.2 hb); clear hb)
      | (go_at_call 52; refine HD.out.mono ?_; rintro en w1 ⟨d, f, rfl, hd, hb⟩; have HB1 : Hid (decide (SamE a b) = false ∧ Below w.heap.size w w1) := ⟨by rw [HS.out d f hd, HQ.out]; simp, hb⟩; clear hd hb))
    go_ret
    exact ⟨by rw [HB1.out.1]; rfl, HB2.out⟩
end Go.Proofs.Ytegponbmelgngaa
end

section
namespace Go.Proofs.Ytegponbmelgngaa
open Go.RowKit
set_option linter.unusedSimpArgs false
set_option linter.unusedVariables false
set_option maxHeartbeats 1500000
set_option maxRecDepth 100000

theorem sameE_any (l : List En) (v v' : Value) (w : World) (hl : l.length ≤ 1000) (hr : RdE w v l) (hr' : RdE w v' l) :
    Calls Try.prog 57 #[v, v'] w fun e w' => e = .returned (.bool true) ∧ Below w.heap.size w w' := by
  obtain ⟨ad, cap, rfl, hc⟩ := hr
  obtain ⟨ad', cap', rfl, hc'⟩ := hr'
  have HC := Lib.hid hc
  have HC' := Lib.hid hc'
  clear hc hc'
  go_enter Try.func57, Try.ntmps57
  go_wp2
  go_loopg [14] l.length (fun g s13 wr => ∃ (k : Nat), k ≤ l.length ∧ l.length - k ≤ g ∧ s13 = .int .i64 k ∧ Below w.heap.size w wr)
  case atStart => exact ⟨0, by omega, by omega, rfl, Below.refl _ _⟩
  case round =>
    obtain ⟨k, hk, hg, rfl, hbw⟩ := hrel
    have HB : Hid (Below w.heap.size w wr) := hbw
    clear hbw
    by_cases hlt : k < l.length
    · obtain ⟨x, hx⟩ : ∃ x, l[k]? = some x := ⟨_, List.getElem?_eq_getElem hlt⟩
      obtain ⟨blk, off, rfl, hblk, hc0, hc1, hc2⟩ := HC.out k x hx
      obtain ⟨blk', off', rfl, hblk', hd0, hd1, hd2⟩ := HC'.out k x hx
      obtain ⟨⟨a, n⟩, y⟩ := x
      clear hx
      have f0 := carryE HB.out hblk hc0
      have f1 := carryE HB.out hblk hc1
      have f2 := carryE HB.out hblk hc2
      have k0 := carryE HB.out hblk' hd0
      have k1 := carryE HB.out hblk' hd1
      have k2 := carryE HB.out hblk' hd2
      have al0 : ∀ o, (wr.alloc o).cell? ⟨blk', off' + k * 3, none⟩ = _ := fun o => carry (below_alloc _ _) k0
      have al1 : ∀ o, (wr.alloc o).cell? ⟨blk', off' + k * 3 + 1, none⟩ = _ := fun o => carry (below_alloc _ _) k1
      have al2 : ∀ o, (wr.alloc o).cell? ⟨blk', off' + k * 3 + 2, none⟩ = _ := fun o => carry (below_alloc _ _) k2
      clear hc0 hc1 hc2 hd0 hd1 hd2
      go_wp2_with fail
      go_quiet (fail)
      all_goals go_wp2
      go_roundg (l.length - (k + 1))
      case measure => omega
      case rel => exact ⟨k + 1, by omega, Nat.le_refl _, by go_num, by first | exact below_drewN (HB.out.alloc HB.out.size _) _ | exact HB.out.alloc HB.out.size _⟩
    · have hkl : k = l.length := by omega
      subst hkl
      go_wp2
      go_ret
      exact ⟨rfl, HB.out⟩
/-- the law's own table -/
def halvesL : List En := [((0, 0), 1), ((167772160, 9), 2), ((176160768, 9), 2)]
theorem halves_any (w : World) : Calls Try.prog 83 #[] w fun e w' => ∃ v, e = .returned v ∧ RdE w' v halvesL ∧ NilE v ∧ Below w.heap.size w w' := by
  have HR : Hid (∀ c, RdE (w.alloc (.cells #[.int .u32 0, .int .i64 0, .int .i64 1, .int .u32 167772160, .int .i64 9, .int .i64 2, .int .u32 176160768, .int .i64 9, .int .i64 2] c)) (.slice (some ⟨w.heap.size, 0, none⟩) 3 3) halvesL) := fun c => by
    have h := heap_alloc_new w (.cells #[.int .u32 0, .int .i64 0, .int .i64 1, .int .u32 167772160, .int .i64 9, .int .i64 2, .int .u32 176160768, .int .i64 9, .int .i64 2] c)
    refine ⟨some ⟨w.heap.size, 0, none⟩, 3, rfl, fun k x hx => ?_⟩
    have hk : k < 3 := (List.getElem?_eq_some_iff.1 hx).1
    refine ⟨w.heap.size, 0, rfl, by simp, ?_⟩
    rcases (by omega : k = 0 ∨ k = 1 ∨ k = 2) with rfl | rfl | rfl <;> (simp [halvesL] at hx; subst hx; exact ⟨cellO h (by rfl), cellO h (by rfl), cellO h (by rfl)⟩)
  go_enter Try.func83, Try.ntmps83
  go_wp2_with fail
  go_ret
  exact ⟨_, rfl, HR.out _, fun n c h => by simp at h, below_alloc _ _⟩
end Go.Proofs.Ytegponbmelgngaa
end

section
namespace Go.Proofs.Ytegponbmelgngaa
open Go.RowKit
open Classical
set_option linter.unusedSimpArgs false
set_option linter.unusedVariables false
set_option maxHeartbeats 1500000
set_option maxRecDepth 100000

/-- the law's own test answers true -/
def Awake7 : Prop := ∀ W : World, Calls Try.prog 46 #[] W fun e w' => e = .returned (.bool true) ∧ Below W.heap.size W w'
theorem trims_walk (HA : Awake7) (l : List En) (v : Value) (w : World) (hr : RdE w v l) (hf : FitE l) :
    Calls Try.prog 12 #[v] w fun e w' => e = .returned (.bool true) ∧ Below w.heap.size w w' := by
  have HAW := Lib.hid HA
  clear HA
  by_cases hlen : l.length ≤ 60
  · have HT := Lib.hid (trim_any l v w hr hf)
    have HT2 : Hid (∀ W, Below w.heap.size w W → Calls Try.prog 56 #[v] W fun e w' => ∃ v', e = .returned (.tuple #[v', .int .i64 (ckE l)]) ∧ (ckE l = 0 → RdE w' v' (trimE l)) ∧ (ckE l ≠ 0 → v' = .slice none 0 0) ∧ Below W.heap.size W w') := fun W hW => rtrim_any l v W hlen (hr.below hW) hf
    have hle : (trimE l).length ≤ 1000 := by
      have h1 := effE_len (visE l) (visE l).length
      have h2 : (visE l).length ≤ l.length := List.length_filter_le _ _
      show (effE (visE l) (visE l).length).length ≤ 1000
      omega
    have HSA : Hid (∀ v1 v2 w1 w2 W, (ckE l = 0 → RdE w1 v1 (trimE l)) → (ckE l ≠ 0 → v1 = .slice none 0 0) → (ckE l = 0 → RdE w2 v2 (trimE l)) → (ckE l ≠ 0 → v2 = .slice none 0 0) → Below w1.heap.size w1 W → Below w2.heap.size w2 W → Calls Try.prog 57 #[v1, v2] W fun e w' => e = .returned (.bool true) ∧ Below W.heap.size W w') := fun v1 v2 w1 w2 W h1 h2 h3 h4 hb1 hb2 => by
      by_cases hc : ckE l = 0
      · exact sameE_any (trimE l) v1 v2 W hle ((h1 hc).below hb1) ((h3 hc).below hb2)
      · rw [h2 hc, h4 hc]
        exact sameE_any [] _ _ W (by simp) ⟨none, 0, rfl, fun k x h => by simp at h⟩ ⟨none, 0, rfl, fun k x h => by simp at h⟩
    obtain ⟨ad, cap, rfl, -⟩ := hr
    obtain ⟨L, hL⟩ : ∃ L, l.length = L := ⟨_, rfl⟩
    rw [hL] at hlen HT HT2 ⊢
    generalize ckE l = q at *
    have k1 : decide ((L : Int) > 60) = false := decide_eq_false (by omega)
    have k2 : ¬ (60 : Int) < (L : Int) := by omega
    clear hf hL hle
    go_enter Try.func12, Try.ntmps12
    go_wp2_with (first
      | (go_at_call 55; refine HT.out.mono ?_; rintro en w1 ⟨v1, rfl, h1, h2, hb⟩; have H1 : Hid ((q = 0 → RdE w1 v1 (trimE l)) ∧ (q ≠ 0 → v1 = .slice none 0 0) ∧ Below w.heap.size w w1) := ⟨h1, h2, hb⟩; clear h1 h2 hb)
      | (go_at_call 56; refine (HT2.out _ H1.out.2.2).mono ?_; rintro en w2 ⟨v2, rfl, h1, h2, hb⟩; have H2 : Hid ((q = 0 → RdE w2 v2 (trimE l)) ∧ (q ≠ 0 → v2 = .slice none 0 0) ∧ Below w1.heap.size w1 w2) := ⟨h1, h2, hb⟩; clear h1 h2 hb)
      | (go_at_call 46; refine (HAW.out _).mono ?_; rintro en w3 ⟨rfl, hb⟩; have H3 : Hid (Below w2.heap.size w2 w3) := hb; clear hb)
      | (go_at_call 57; refine (HSA.out _ _ _ _ _ H1.out.1 H1.out.2.1 H2.out.1 H2.out.2.1 (below_then H2.out.2.2 H3.out) H3.out).mono ?_; rintro en w4 ⟨rfl, hb⟩; have H4 : Hid (Below w3.heap.size w3 w4) := hb; clear hb))
    go_ret
    exact ⟨rfl, below_then H1.out.2.2 (below_then (below_then H2.out.2.2 H3.out) H4.out)⟩
  · obtain ⟨ad, cap, rfl, -⟩ := hr
    have k1 : decide ((l.length : Int) > 60) = true := decide_eq_true (by omega)
    have k2 : (60 : Int) < (l.length : Int) := by omega
    obtain ⟨L, hL⟩ : ∃ L, l.length = L := ⟨_, rfl⟩
    rw [hL] at k1 k2 ⊢
    clear hf hL hlen
    go_enter Try.func12, Try.ntmps12
    go_wp2_with (go_at_call 46; refine (HAW.out _).mono ?_; rintro en w3 ⟨rfl, hb⟩; have H3 := Lib.hid hb; clear hb)
    go_ret
    exact ⟨rfl, H3.out⟩
end Go.Proofs.Ytegponbmelgngaa
end

section
namespace Go.Proofs.Ytegponbmelgngaa
open Go.RowKit
set_option linter.unusedSimpArgs false
set_option linter.unusedVariables false
set_option maxHeartbeats 1500000
set_option maxRecDepth 100000

theorem checks_walk (HA : Awake7) (l : List En) (v : Value) (a : Nat) (w : World) (hr : RdE w v l) (hf : FitE l) (ha : a < 4294967296) :
    Calls Try.prog 10 #[v, .int .u32 (a : Int)] w fun e w' => e = .returned (.bool true) ∧ Below w.heap.size w w' := by
  have HAW := Lib.hid HA
  clear HA
  have H47 : Hid (∀ W, Below w.heap.size w W → Calls Try.prog 47 #[v] W fun e w' => e = .returned (.int .i64 (ckE l)) ∧ Below W.heap.size W w') := fun W hW => check47_any l v W (hr.below hW) hf
  have H48 : Hid (∀ W, Below w.heap.size w W → Calls Try.prog 48 #[v] W fun e w' => e = .returned (.int .i64 (ckE l)) ∧ Below W.heap.size W w') := fun W hW => rcheck48_any l v W (hr.below hW) hf
  have H49 : Hid (∀ W, Below w.heap.size w W → Calls Try.prog 49 #[v, .int .u32 (a : Int)] W fun e w' => e = .returned (.int .i64 (lkT a l)) ∧ Below W.heap.size W w') := fun W hW => lookup49_any l v a W (hr.below hW) hf ha
  have H50 : Hid (∀ W, Below w.heap.size w W → Calls Try.prog 50 #[v, .int .u32 (a : Int)] W fun e w' => e = .returned (.int .i64 (lkT a l)) ∧ Below W.heap.size W w') := fun W hW => rlookup50_any l v a W (hr.below hW) hf ha
  obtain ⟨ad, cap, rfl, -⟩ := hr
  obtain ⟨L, hL⟩ : ∃ L, l.length = L := ⟨_, rfl⟩
  rw [hL] at H47 H48 H49 H50 ⊢
  generalize ckE l = p at *
  generalize lkT a l = q at *
  clear hf ha hL
  by_cases hlen : L ≤ 2100
  · have k1 : decide ((L : Int) > 2100) = false := decide_eq_false (by omega)
    have k2 : ¬ (2100 : Int) < (L : Int) := by omega
    clear hlen
    go_enter Try.func10, Try.ntmps10
    go_wp2_with (first
      | (go_at_call 46; refine (HAW.out _).mono ?_; rintro en w1 ⟨rfl, hb⟩; have H1 : Hid (Below w.heap.size w w1) := hb; clear hb)
      | (go_at_call 47; refine (H47.out _ H1.out).mono ?_; rintro en w2 ⟨rfl, hb⟩; have H2 : Hid (Below w.heap.size w w2) := below_then H1.out hb; clear hb)
      | (go_at_call 48; refine (H48.out _ H2.out).mono ?_; rintro en w3 ⟨rfl, hb⟩; have H3 : Hid (Below w.heap.size w w3) := below_then H2.out hb; clear hb)
      | (go_at_call 49; refine (H49.out _ H3.out).mono ?_; rintro en w4 ⟨rfl, hb⟩; have H4 : Hid (Below w.heap.size w w4) := below_then H3.out hb; clear hb)
      | (go_at_call 50; refine (H50.out _ H4.out).mono ?_; rintro en w5 ⟨rfl, hb⟩; have H5 : Hid (Below w.heap.size w w5) := below_then H4.out hb; clear hb))
    go_ret
    exact ⟨rfl, H5.out⟩
  · have k1 : decide ((L : Int) > 2100) = true := decide_eq_true (by omega)
    have k2 : (2100 : Int) < (L : Int) := by omega
    clear hlen
    go_enter Try.func10, Try.ntmps10
    go_wp2_with (go_at_call 46; refine (HAW.out _).mono ?_; rintro en w3 ⟨rfl, hb⟩; have H3 := Lib.hid hb; clear hb)
    go_ret
    exact ⟨rfl, H3.out⟩
end Go.Proofs.Ytegponbmelgngaa
end
