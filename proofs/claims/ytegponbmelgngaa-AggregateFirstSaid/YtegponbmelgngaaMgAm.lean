/-
  The walks of aggregate.lookup, and of Differ and Same at tables of few entries.
  The walks of Differ and Same at tables of few entries.
  The law's own test of layer 7 answers true.
  The walk of the law AggregateLeast.
-/
import Derived.Test.YtegponbmelgngaaMgAl
import Derived.Test.YtegponbmelgngaaMgTd
import Derived.Test.YtegponbmelgngaaMgAj
import Derived.Test.YtegponbmelgngaaMgAk
section
namespace Go.Proofs.Ytegponbmelgngaa
open Go.RowKit
set_option linter.unusedSimpArgs false
set_option linter.unusedVariables false
set_option maxHeartbeats 1500000
set_option maxRecDepth 100000

theorem insE_last {l : List En} {e : En} (h : ∀ x ∈ l, ltP x.1 e.1) : insE l e = l ++ [e] := by
  unfold insE
  rw [List.filter_eq_self.2 (fun x hx => by simpa using h x hx), List.filter_eq_nil_iff.2 (fun x hx g => ltP_asymm (h x hx) (by simpa using g))]
theorem foldE_id {l : List En} (h : AscE l) : foldE l = l := by
  have key : ∀ (r s : List En), AscE (s ++ r) → r.foldl insE s = s ++ r := by
    intro r
    induction r with
    | nil => intro s _; simp
    | cons e q ih =>
      intro s hs
      rw [List.foldl_cons, insE_last (fun x hx => (List.pairwise_append.1 hs).2.2 x hx e (by simp)), ih (s ++ [e]) (by rw [List.append_assoc]; exact hs), List.append_assoc]
      rfl
  exact key l [] h
theorem lkE_getLast (a : Nat) : ∀ (l : List En) (v : Int), lkE a v l = ((l.filter (fun e => con e.1.1 e.1.2 a)).map (·.2)).getLastD v
  | [], v => rfl
  | e :: r, v => by
    show lkE a (if con e.1.1 e.1.2 a = true then e.2 else v) r = _
    rw [lkE_getLast a r, List.filter_cons]
    by_cases h : con e.1.1 e.1.2 a = true
    · rw [if_pos h, if_pos h, List.map_cons, List.getLastD_cons]
    · rw [if_neg h, if_neg h]
theorem lkE_trie {l : List En} (hv : ∀ e ∈ l, V e.1 = true) (a : Nat) : lkE a (-1) l = if (l.filter (fun x => C x.1 (a, 32))).isEmpty = true then -1 else (lastOf (l.filter (fun x => C x.1 (a, 32)))).2 := by
  have hf : l.filter (fun x => C x.1 (a, 32)) = l.filter (fun e => con e.1.1 e.1.2 a) := List.filter_congr fun x hx => C_con a (hv x hx)
  rw [hf, lkE_getLast]
  cases hq : l.filter (fun e => con e.1.1 e.1.2 a) with
  | nil => rfl
  | cons e r =>
    rw [if_neg (by simp)]
    unfold lastOf
    have key : ∀ (r : List En) (e d : En), ((e :: r).map (·.2)).getLastD (-1) = ((e :: r).getLastD d).2 := by
      intro r
      induction r with
      | nil => intro e d; rfl
      | cons x q ih =>
        intro e d
        have h1 := ih x e
        rw [List.map_cons, List.getLastD_cons] at h1
        rw [List.map_cons, List.map_cons, List.getLastD_cons, List.getLastD_cons, List.getLastD_cons, h1, List.getLastD_cons]
    exact key r e _
theorem tlook_any (t : Value) (l : List En) (gs : List Nat) (w : World) (a : Nat) (ha : a < 4294967296) (ht : TabE l) (h : TrieO w t (foldE l) gs) (hgs : ∀ g ∈ gs, g < w.heap.size) (hlen : l.length ≤ 1000) :
    Calls Try.prog 89 #[t, .int .u32 (a : Int)] w fun e w' => e = .returned (.int .i64 (lkE a (-1) l)) ∧ Below w.heap.size w w' := by
  rw [foldE_id ht.asc] at h
  have HL := Lib.hid (lookup_any t l gs w a ha h hgs hlen)
  have HE := Lib.hid (lkE_trie (fun e he => (ht.val e he).1) a)
  have hpt : ∃ u, t = .pointer u := by
    rcases h with ⟨rfl, _⟩ | ⟨g0, root, T, gs0, rfl, _⟩
    · exact ⟨_, rfl⟩
    · exact ⟨_, rfl⟩
  obtain ⟨u, rfl⟩ := hpt
  generalize lkE a (-1) l = r at *
  obtain ⟨⟨⟨xa, xn⟩, xv⟩, hx⟩ : ∃ x, lastOf (l.filter (fun x => C x.1 (a, 32))) = x := ⟨_, rfl⟩
  obtain ⟨z, hz⟩ : ∃ z, (l.filter (fun x => C x.1 (a, 32))).isEmpty = z := ⟨_, rfl⟩
  rw [hx, hz] at HL HE
  unfold entV at HL
  dsimp only at HL HE
  clear ht h hgs hlen hx hz
  cases z with
  | true =>
    go_enter Try.func89, Try.ntmps89
    go_wp2_with (go_at_call 43; refine HL.out.mono ?_; rintro en w1 ⟨rfl, hb⟩; have HB := Lib.hid hb; clear hb)
    go_ret
    exact ⟨by rw [HE.out]; rfl, HB.out.alloc HB.out.size _⟩
  | false =>
    go_enter Try.func89, Try.ntmps89
    go_wp2_with (go_at_call 43; refine HL.out.mono ?_; rintro en w1 ⟨rfl, hb⟩; have HB := Lib.hid hb; clear hb)
    go_ret
    exact ⟨by rw [HE.out]; rfl, HB.out.alloc HB.out.size _⟩
end Go.Proofs.Ytegponbmelgngaa
end

section
namespace Go.Proofs.Ytegponbmelgngaa
open Go.RowKit
open Classical
set_option linter.unusedSimpArgs false
set_option linter.unusedVariables false
set_option maxHeartbeats 1500000
set_option maxRecDepth 100000

theorem pts_isB {l : List En} {x : Nat} (hx : x < 4294967296) (h : AG.isB (l.map toBe) x) : x ∈ ptsE l := by
  obtain ⟨y, hy, h⟩ := h
  obtain ⟨e, he, rfl⟩ := List.mem_map.1 hy
  unfold ptsE
  rw [List.mem_flatMap]
  refine ⟨e, he, ?_⟩
  unfold ptE
  rcases h with h | h
  · rw [h]; simp; left; rfl
  · have h2 : x = e.1.1 + 2 ^ (blk e.1).2 := h
    rw [← h2, Nat.mod_eq_of_lt hx]; simp
theorem pts_lt {l : List En} (hf : FitE l) : ∀ y ∈ ptsE l, y < 4294967296 := fun y hy => by
  unfold ptsE at hy
  obtain ⟨e, he, h⟩ := List.mem_flatMap.1 hy
  unfold ptE at h
  simp at h
  rcases h with rfl | rfl
  · exact (hf e he).1
  · exact Nat.mod_lt _ (by decide)
theorem differ_heq2 {a b : List En} {ys : List Nat} (ha : ∀ e ∈ a, V e.1 = true) (hb : ∀ e ∈ b, V e.1 = true) (hy : ∀ y, y ∈ ys ↔ y ∈ ptsE (a ++ b)) {n : Nat} (hn : n ≤ 4294967296) (h : ∀ z ∈ ys, z < n → lkE z (-1) a = lkE z (-1) b) : ∀ y, y < n → lkE y (-1) a = lkE y (-1) b := fun y hyn => by
  rw [lkE_lk y a _ ha, lkE_lk y b _ hb]
  refine AG.differ_first (bs := ys) (fun x hx hB => (hy x).2 (pts_isB hx ?_)) (n := n) (fun x hx hxn => ?_) hyn (by omega)
  · rw [List.map_append]
    rcases hB with ⟨e, he, h⟩ | ⟨e, he, h⟩
    · exact ⟨e, List.mem_append_left _ he, h⟩
    · exact ⟨e, List.mem_append_right _ he, h⟩
  · rw [← lkE_lk x a _ ha, ← lkE_lk x b _ hb]; exact h x hx hxn
theorem fit_of {l : List En} (h : FitE l) : Fit l := fun x hx => ⟨(h x hx).1, (h x hx).2.1⟩
theorem differ_few (a b : List En) (v1 v2 : Value) (w : World) (ta : TabE a) (tb : TabE b) (hr1 : RdE w v1 a) (hr2 : RdE w v2 b) (fa : FitE a) (fb : FitE b) (hl : 2 * (a.length + b.length) ≤ 1000) (hpos : 0 < a.length + b.length) :
    Calls Try.prog 51 #[v1, v2] w fun e w' => ∃ (d : Nat) (f : Bool), e = .returned (.tuple #[.int .u32 (d : Int), .bool f]) ∧ DifP a b d f ∧ Below w.heap.size w w' := by
  have HC1 : Hid (∀ W, Below w.heap.size w W → Calls Try.prog 47 #[v1] W fun e w' => e = .returned (.int .i64 0) ∧ Below W.heap.size W w') := fun W hW => by have := check47_any a v1 W (hr1.below hW) fa; rwa [ckE_iff.2 ta] at this
  have HC2 : Hid (∀ W, Below w.heap.size w W → Calls Try.prog 47 #[v2] W fun e w' => e = .returned (.int .i64 0) ∧ Below W.heap.size W w') := fun W hW => by have := check47_any b v2 W (hr2.below hW) fb; rwa [ckE_iff.2 tb] at this
  have HT1 : Hid (∀ W, Below w.heap.size w W → Calls Try.prog 87 #[v1] W fun en w' => ∃ t gs, en = .returned (.tuple #[t, .int .i64 0]) ∧ TrieR w' t (foldE a) gs ∧ (∀ g ∈ gs, W.heap.size ≤ g) ∧ Below W.heap.size W w') := fun W hW => of_yes a v1 W (by omega) (fit_of fa) (hr1.below hW) (by unfold allV; rw [List.all_eq_true]; exact fun e he => (ta.val e he).1)
  have HT2 : Hid (∀ W, Below w.heap.size w W → Calls Try.prog 87 #[v2] W fun en w' => ∃ t gs, en = .returned (.tuple #[t, .int .i64 0]) ∧ TrieR w' t (foldE b) gs ∧ (∀ g ∈ gs, W.heap.size ≤ g) ∧ Below W.heap.size W w') := fun W hW => of_yes b v2 W (by omega) (fit_of fb) (hr2.below hW) (by unfold allV; rw [List.all_eq_true]; exact fun e he => (tb.val e he).1)
  have HBN : Hid (∀ W, Below w.heap.size w W → Calls Try.prog 88 #[.slice (some ⟨W.heap.size, 0, none⟩) 2 2] (W.alloc (.cells #[v1, v2] 56)) fun e w' => ∃ v' l', e = .returned v' ∧ RdA w' v' l' ∧ l'.Pairwise (· ≤ ·) ∧ (∀ y, y ∈ l' ↔ y ∈ ptsE (a ++ b)) ∧ l'.length ≤ 1000 ∧ Below W.heap.size W w') := fun W hW => by
    refine (bounds_any a b v1 v2 W.heap.size (W.alloc (.cells #[v1, v2] 56)) (heap_alloc_new _ _) ((hr1.below hW).below (below_alloc _ _)) ((hr2.below hW).below (below_alloc _ _)) (fun e he => (List.mem_append.1 he).elim (fun h => (ta.val e h).1) (fun h => (tb.val e h).1)) (fun e he => (List.mem_append.1 he).elim (fun h => fa e h) (fun h => fb e h)) hl hpos).mono ?_
    rintro e w' ⟨v', l', he, h1, h2, h3, h4, h5⟩
    exact ⟨v', l', he, h1, h2, h3, h4, below_then (below_alloc _ _) h5⟩
  have HQ : Hid (∀ ys, (∀ y, y ∈ ys ↔ y ∈ ptsE (a ++ b)) → ∀ n, n ≤ 4294967296 → (∀ z ∈ ys, z < n → lkE z (-1) a = lkE z (-1) b) → ∀ y, y < n → lkE y (-1) a = lkE y (-1) b) := fun ys hy n hn h => differ_heq2 (fun e he => (ta.val e he).1) (fun e he => (tb.val e he).1) hy hn h
  have HD : Hid (∀ d f, (d < 4294967296 ∧ (∀ y, y < 4294967296 → (f = true → y < d) → lkE y (-1) a = lkE y (-1) b) ∧ (f = true → lkE d (-1) a ≠ lkE d (-1) b) ∧ (f = false → d = 0)) → DifP a b d f) := fun d f h => by unfold DifP; rw [if_pos ⟨ckE_iff.2 ta, ckE_iff.2 tb⟩]; exact h
  have HPL : Hid (∀ y ∈ ptsE (a ++ b), y < 4294967296) := pts_lt (fun e he => (List.mem_append.1 he).elim (fun h => fa e h) (fun h => fb e h))
  have HK1 : Hid (∀ t gs W x, TrieR W t (foldE a) gs → x < 4294967296 → Calls Try.prog 89 #[t, .int .u32 (x : Nat)] W fun e w' => e = .returned (.int .i64 (lkE x (-1) a)) ∧ Below W.heap.size W w') := fun t gs W x h hx => tlook_any t a gs W x hx ta (.inr h) h.lt (by omega)
  have HK2 : Hid (∀ t gs W x, TrieR W t (foldE b) gs → x < 4294967296 → Calls Try.prog 89 #[t, .int .u32 (x : Nat)] W fun e w' => e = .returned (.int .i64 (lkE x (-1) b)) ∧ Below W.heap.size W w') := fun t gs W x h hx => tlook_any t b gs W x hx tb (.inr h) h.lt (by omega)
  obtain ⟨ad1, cap1, rfl, -⟩ := hr1
  obtain ⟨ad2, cap2, rfl, -⟩ := hr2
  clear ta tb fa fb hl hpos
  go_enter Try.func51, Try.ntmps51
  go_wp2_with (first
    | (go_at_call 47; refine (HC2.out _ HB.out).mono ?_; rintro en w2 ⟨rfl, hb⟩; have HB2 := Lib.hid (below_then HB.out hb); clear hb)
    | (go_at_call 47; refine (HC1.out _ (Below.refl _ _)).mono ?_; rintro en w1 ⟨rfl, hb⟩; have HB := Lib.hid hb; clear hb)
    | (go_at_call 87; refine (HT2.out _ HG1.out.2).mono ?_; rintro en w4 ⟨t2, gs2, rfl, ht, _, hb⟩; have HG2 : Hid (TrieR w4 t1 (foldE a) gs1 ∧ TrieR w4 t2 (foldE b) gs2 ∧ Below w.heap.size w w4) := ⟨HG1.out.1.below hb, ht, below_then HG1.out.2 hb⟩; clear ht hb)
    | (go_at_call 87; refine (HT1.out _ HB2.out).mono ?_; rintro en w3 ⟨t1, gs1, rfl, ht, _, hb⟩; have HG1 : Hid (TrieR w3 t1 (foldE a) gs1 ∧ Below w.heap.size w w3) := ⟨ht, below_then HB2.out hb⟩; clear ht hb))
  go_at_call 88
  refine (HBN.out _ HG2.out.2.2).mono ?_
  rintro en w5 ⟨v5, ys, rfl, hr5, hs5, hm5, hl5, hb5⟩
  obtain ⟨ad5, cap5, rfl, hc5⟩ := hr5
  have HSL := Lib.hid hc5
  have HAY := Lib.hid hs5
  have HBY := Lib.hid hm5
  have HQ2 := Lib.hid (HQ.out ys hm5)
  have HB5 : Hid (Below w.heap.size w w5 ∧ TrieR w5 t1 (foldE a) gs1 ∧ TrieR w5 t2 (foldE b) gs2) := ⟨below_then HG2.out.2.2 hb5, HG2.out.1.below hb5, HG2.out.2.1.below hb5⟩
  obtain ⟨L, hL⟩ : ∃ L, ys.length = L := ⟨_, rfl⟩
  rw [hL] at hl5 ⊢
  have HL := Lib.hid hL
  clear hc5 hs5 hm5 hb5 hL HC1 HC2 HT1 HT2 HBN HQ
  go_wp2_with fail
  go_loopg [11, 35] L (fun g s11 s35 wr => ∃ (k : Nat), (∃ u, u = s11) ∧ s35 = .int .i64 (k : Int) ∧ k ≤ L ∧ L - k ≤ g ∧ Hid (Below w5.heap.size w5 wr ∧ ∀ z ∈ ys.take k, lkE z (-1) a = lkE z (-1) b))
  case atStart => exact ⟨0, ⟨_, rfl⟩, rfl, by omega, by omega, Below.refl _ _, fun z hz => by simp at hz⟩
  case round =>
    obtain ⟨k, ⟨u11, rfl⟩, rfl, hk, hg, HS⟩ := hrel
    have HBW : Hid (Below w.heap.size w wr ∧ TrieR wr t1 (foldE a) gs1 ∧ TrieR wr t2 (foldE b) gs2) := ⟨below_then HB5.out.1 HS.out.1, HB5.out.2.1.below HS.out.1, HB5.out.2.2.below HS.out.1⟩
    by_cases hlt : k < L
    · obtain ⟨y, hy⟩ : ∃ x, ys[k]? = some x := ⟨_, List.getElem?_eq_getElem (by have := HL.out; omega)⟩
      obtain ⟨bk, off, rfl, hbl, c0⟩ := HSL.out k y hy
      have d0 := carryE HS.out.1 hbl c0
      have hyl : y < 4294967296 := HPL.out y ((HBY.out y).1 (List.mem_of_getElem? hy))
      have HLA := Lib.hid (fun W h => HK1.out t1 gs1 W y h hyl)
      have HLB := Lib.hid (fun W h => HK2.out t2 gs2 W y h hyl)
      have HNX : Hid (lkE y (-1) a = lkE y (-1) b → ∀ z ∈ ys.take (k + 1), lkE z (-1) a = lkE z (-1) b) := fun h z hz => by
        rw [List.take_add_one, hy] at hz
        rcases List.mem_append.1 hz with hz | hz
        · exact HS.out.2 z hz
        · simp at hz; rw [hz]; exact h
      have HFD : Hid (lkE y (-1) a ≠ lkE y (-1) b → DifP a b y true) := fun h => by
        refine HD.out y true ⟨hyl, fun z _ hz => ?_, fun _ => h, (fun e => by cases e)⟩
        refine HQ2.out y (by omega) (fun u hu huy => HS.out.2 u ?_) z (hz rfl)
        obtain ⟨i, hi⟩ := List.getElem?_of_mem hu
        obtain ⟨h1, e1⟩ := List.getElem?_eq_some_iff.1 hi
        obtain ⟨h2, e2⟩ := List.getElem?_eq_some_iff.1 hy
        have hik : i < k := by
          refine Classical.byContradiction fun hn => ?_
          rcases (by omega : i = k ∨ k < i) with e | e
          · subst e; rw [hi] at hy; cases hy; omega
          · have := List.pairwise_iff_getElem.1 HAY.out k i h2 h1 e
            rw [e1, e2] at this; omega
        exact List.mem_of_getElem? (i := i) (by rw [List.getElem?_take, if_pos hik]; exact hi)
      obtain ⟨p, hp⟩ : ∃ p, p = lkE y (-1) a := ⟨_, rfl⟩
      obtain ⟨q, hq⟩ : ∃ q, q = lkE y (-1) b := ⟨_, rfl⟩
      rw [← hp] at HLA HNX HFD
      rw [← hq] at HLB HNX HFD
      have i0 : (0 : Int) ≤ (k : Int) := by omega
      have i1 : (k : Int) < (L : Int) := by omega
      clear hy hyl hp hq c0 hbl
      by_cases he : p = q
      · have f1 : (p == q) = true := by simpa using he
        have f2 : (p != q) = false := by simpa using he
        have HN2 := Lib.hid (HNX.out he)
        clear he HNX HFD
        go_wp2_with (first
          | (go_at_call 89; refine (HLB.out _ HX1.out.2.2).mono ?_; rintro en w7 ⟨rfl, hb⟩; have HX2 : Hid (Below w5.heap.size w5 w7) := below_then HX1.out.1 hb; clear hb)
          | (go_at_call 89; refine (HLA.out _ HBW.out.2.1).mono ?_; rintro en w6 ⟨rfl, hb⟩; have HX1 : Hid (Below w5.heap.size w5 w6 ∧ Below w.heap.size w w6 ∧ TrieR w6 t2 (foldE b) gs2) := ⟨below_then HS.out.1 hb, below_then HBW.out.1 hb, HBW.out.2.2.below hb⟩; clear hb))
        go_roundg (L - (k + 1))
        case measure => omega
        case rel => exact ⟨k + 1, ⟨_, rfl⟩, by go_num, by omega, Nat.le_refl _, HX2.out, HN2.out⟩
      · have f1 : (p == q) = false := by simpa using he
        have f2 : (p != q) = true := by simpa using he
        have HF2 := Lib.hid (HFD.out he)
        clear he HNX HFD
        go_wp2_with (first
          | (go_at_call 89; refine (HLB.out _ HX1.out.2.2).mono ?_; rintro en w7 ⟨rfl, hb⟩; have HX2 : Hid (Below w.heap.size w w7) := below_then HX1.out.2.1 hb; clear hb)
          | (go_at_call 89; refine (HLA.out _ HBW.out.2.1).mono ?_; rintro en w6 ⟨rfl, hb⟩; have HX1 : Hid (Below w5.heap.size w5 w6 ∧ Below w.heap.size w w6 ∧ TrieR w6 t2 (foldE b) gs2) := ⟨below_then HS.out.1 hb, below_then HBW.out.1 hb, HBW.out.2.2.below hb⟩; clear hb))
        go_ret2
        exact ⟨y, true, rfl, HF2.out, HX2.out⟩
    · have k1 : decide ((k : Int) < (L : Int)) = false := decide_eq_false (by omega)
      have HF2 : Hid (DifP a b 0 false) := by
        refine HD.out 0 false ⟨by omega, fun z hz _ => ?_, (fun e => by cases e), fun _ => rfl⟩
        refine HQ2.out 4294967296 (Nat.le_refl _) (fun u hu _ => HS.out.2 u ?_) z hz
        rwa [List.take_of_length_le (by have := HL.out; omega)]
      go_wp2
      go_ret2
      exact ⟨0, false, rfl, HF2.out, HBW.out.1⟩
/-- Same at tables of few entries that have the same lookups -/
theorem same_few (a b : List En) (v1 v2 : Value) (w : World) (ta : TabE a) (tb : TabE b) (hr1 : RdE w v1 a) (hr2 : RdE w v2 b) (fa : FitE a) (fb : FitE b) (hl : 2 * (a.length + b.length) ≤ 1000) (hpos : 0 < a.length + b.length) (hs : ∀ y, y < 4294967296 → lkE y (-1) a = lkE y (-1) b) :
    Calls Try.prog 53 #[v1, v2] w fun e w' => e = .returned (.bool true) ∧ Below w.heap.size w w' := by
  have HD := Lib.hid (differ_few a b v1 v2 w ta tb hr1 hr2 fa fb hl hpos)
  have HC1 : Hid (∀ W, Below w.heap.size w W → Calls Try.prog 47 #[v1] W fun e w' => e = .returned (.int .i64 0) ∧ Below W.heap.size W w') := fun W hW => by have := check47_any a v1 W (hr1.below hW) fa; rwa [ckE_iff.2 ta] at this
  have HC2 : Hid (∀ W, Below w.heap.size w W → Calls Try.prog 47 #[v2] W fun e w' => e = .returned (.int .i64 0) ∧ Below W.heap.size W w') := fun W hW => by have := check47_any b v2 W (hr2.below hW) fb; rwa [ckE_iff.2 tb] at this
  have HF : Hid (∀ d f, DifP a b d f → f = false) := fun d f h => (h.same.1 ⟨ckE_iff.2 ta, ckE_iff.2 tb, hs⟩).2.2
  clear ta tb hr1 hr2 fa fb hl hpos hs
  go_enter Try.func53, Try.ntmps53
  go_wp2_with (first
    | (go_at_call 47; refine (HC2.out _ HB2.out).mono ?_; rintro en w3 ⟨rfl, hb⟩; have HB3 := Lib.hid (below_then HB2.out hb); clear hb)
    | (go_at_call 47; refine (HC1.out _ HB1.out).mono ?_; rintro en w2 ⟨rfl, hb⟩; have HB2 := Lib.hid (below_then HB1.out hb); clear hb)
    | (go_at_call 51; refine HD.out.mono ?_; rintro en w1 ⟨d, f, rfl, hd, hb⟩; obtain rfl : f = false := HF.out d f hd; have HB1 := Lib.hid hb; clear hd hb))
  go_ret
  exact ⟨rfl, HB3.out⟩
end Go.Proofs.Ytegponbmelgngaa
end

section
namespace Go.Proofs.Ytegponbmelgngaa
open Go.RowKit
open Classical
set_option linter.unusedSimpArgs false
set_option linter.unusedVariables false
set_option maxHeartbeats 1500000
set_option maxRecDepth 100000

def trimL : List En := [((167772160, 8), 1), ((167772160, 9), 1), ((176160768, 9), 2)]
def pairL : List En := [((0, 1), 1), ((2147483648, 1), 1)]
def leastL : List En := [((0, 0), 1), ((167772160, 8), 2)]
def oneL : List En := [((0, 0), 1)]
theorem min_halves : minE halvesL = leastL := by kernel_rfl
theorem min_pair : minE pairL = oneL := by kernel_rfl
theorem ck_halves : ckE halvesL = 0 := by kernel_rfl
theorem ck_pair : ckE pairL = 0 := by kernel_rfl
theorem ck_trimL : ckE trimL = 0 := by kernel_rfl
theorem look_net : lkT 167772160 halvesL = 2 := by kernel_rfl
theorem look_zero : lkT 0 halvesL = 1 := by kernel_rfl
theorem fit_halves : FitE halvesL := by intro e he; simp [halvesL] at he; rcases he with rfl | rfl | rfl <;> decide
theorem fit_pair : FitE pairL := by intro e he; simp [pairL] at he; rcases he with rfl | rfl <;> decide
theorem fit_trimL : FitE trimL := by intro e he; simp [trimL] at he; rcases he with rfl | rfl | rfl <;> decide
theorem be_trimL : trimL.map toBe = [((167772160, 24), 1), ((167772160, 23), 1), ((176160768, 23), 2)] := by kernel_rfl
theorem vis_trimL : visE trimL = [((167772160, 9), 1), ((176160768, 9), 2)] := by
  have h1 : AG.HidE (trimL.map toBe) (toBe ((167772160, 8), 1)) := by
    intro a ha hb
    have ha' : 167772160 ≤ a := ha
    have hb' : a < 167772160 + 2 ^ 24 := hb
    rw [be_trimL]
    rcases Nat.lt_or_ge a 176160768 with h | h
    · refine ⟨((167772160, 23), 1), by simp, by decide, by decide, ?_, ?_⟩
      · show 167772160 ≤ a; omega
      · show a < 167772160 + 2 ^ 23; omega
    · refine ⟨((176160768, 23), 2), by simp, by decide, by decide, ?_, ?_⟩
      · show 176160768 ≤ a; omega
      · show a < 176160768 + 2 ^ 23; omega
  have h2 : ¬ AG.HidE (trimL.map toBe) (toBe ((167772160, 9), 1)) := by
    intro h
    obtain ⟨x, hx, hne, hc, _⟩ := h 167772160 (by decide) (by decide)
    rw [be_trimL] at hx
    simp at hx
    rcases hx with rfl | rfl | rfl
    · exact absurd hc (by decide)
    · exact hne rfl
    · exact absurd hc (by decide)
  have h3 : ¬ AG.HidE (trimL.map toBe) (toBe ((176160768, 9), 2)) := by
    intro h
    obtain ⟨x, hx, hne, hc, _⟩ := h 176160768 (by decide) (by decide)
    rw [be_trimL] at hx
    simp at hx
    rcases hx with rfl | rfl | rfl
    · exact absurd hc (by decide)
    · exact absurd hc (by decide)
    · exact hne rfl
  have e : visE trimL = List.filter (fun e => !decide (AG.HidE (trimL.map toBe) (toBe e))) [((167772160, 8), 1), ((167772160, 9), 1), ((176160768, 9), 2)] := rfl
  rw [e, List.filter_cons, List.filter_cons, List.filter_cons, List.filter_nil]
  simp [h1, h2, h3]
theorem trim_len : (trimE trimL).length = 2 := by
  unfold trimE
  rw [vis_trimL]
  have e : [((167772160, 9), 1), ((176160768, 9), 2)].map toBe = [((167772160, 23), 1), ((176160768, 23), 2)] := by kernel_rfl
  have a0 : AG.abv ([((167772160, 9), 1), ((176160768, 9), 2)].map toBe) 0 = -1 := AG.abv_none (fun k x y hk => by omega)
  have a1 : AG.abv ([((167772160, 9), 1), ((176160768, 9), 2)].map toBe) 1 = -1 := AG.abv_none (fun k x y hk hx hy => by
    obtain rfl : k = 0 := by omega
    rw [e] at hx hy
    obtain rfl : (167772160, 23) = x := by simpa [AG.bls] using hx
    obtain rfl : (176160768, 23) = y := by simpa [AG.bls] using hy
    decide)
  have s1 := effE_keep (l := [((167772160, 9), 1), ((176160768, 9), 2)]) (n := 0) (e := ((167772160, 9), 1)) rfl (by rw [a0]; decide)
  have s2 := effE_keep (l := [((167772160, 9), 1), ((176160768, 9), 2)]) (n := 1) (e := ((176160768, 9), 2)) rfl (by rw [a1]; decide)
  show (effE _ 2).length = 2
  rw [s2, s1]
  rfl
theorem halves3_any (w : World) : Calls Try.prog 83 #[] w fun e w' => e = .returned (.slice (some ⟨w.heap.size, 0, none⟩) 3 3) ∧ RdE w' (.slice (some ⟨w.heap.size, 0, none⟩) 3 3) halvesL ∧ Below w.heap.size w w' := by
  have HR : Hid (∀ c, RdE (w.alloc (.cells #[.int .u32 0, .int .i64 0, .int .i64 1, .int .u32 167772160, .int .i64 9, .int .i64 2, .int .u32 176160768, .int .i64 9, .int .i64 2] c)) (.slice (some ⟨w.heap.size, 0, none⟩) 3 3) halvesL) := fun c => by
    have h := heap_alloc_new w (.cells #[.int .u32 0, .int .i64 0, .int .i64 1, .int .u32 167772160, .int .i64 9, .int .i64 2, .int .u32 176160768, .int .i64 9, .int .i64 2] c)
    refine ⟨some ⟨w.heap.size, 0, none⟩, 3, rfl, fun k x hx => ?_⟩
    have hk : k < 3 := (List.getElem?_eq_some_iff.1 hx).1
    refine ⟨w.heap.size, 0, rfl, by simp, ?_⟩
    rcases (by omega : k = 0 ∨ k = 1 ∨ k = 2) with rfl | rfl | rfl <;> (simp [halvesL] at hx; subst hx; exact ⟨cellO h (by rfl), cellO h (by rfl), cellO h (by rfl)⟩)
  go_enter Try.func83, Try.ntmps83
  go_wp2_with fail
  go_ret
  exact ⟨rfl, HR.out _, below_alloc _ _⟩
theorem capE_three (p : Option Addr) (n c : Nat) (h : n ≤ c) : CapE (.slice p n c) := fun ad m c' e => by cases e; exact h
theorem awake7_any : Awake7 := by
  intro w
  have HH := Lib.hid (halves3_any w)
  -- the least table of the first list
  have HM1 : Hid (∀ W v, RdE W v halvesL → CapE v → Calls Try.prog 58 #[v] W fun e w' => ∃ ad cap, e = .returned (.tuple #[.slice ad 2 cap, .int .i64 0]) ∧ RdE w' (.slice ad 2 cap) leastL ∧ Below W.heap.size W w') := fun W v hr hc => by
    refine (minimal_any halvesL v W hr hc fit_halves).mono ?_
    rintro e w' ⟨v', he, h1, _, hb⟩
    rw [ck_halves] at he h1
    have h2 := (h1 rfl).1
    rw [min_halves] at h2
    obtain ⟨ad, cap, rfl, _⟩ := id h2
    exact ⟨ad, cap, he, h2, hb⟩
  have HM2 : Hid (∀ W v, RdE W v pairL → CapE v → Calls Try.prog 58 #[v] W fun e w' => ∃ b off cap, e = .returned (.tuple #[.slice (some ⟨b, off, none⟩) 1 cap, .int .i64 0]) ∧ (w'.cell? ⟨b, off, none⟩ = some (.int .u32 0) ∧ w'.cell? ⟨b, off + 1, none⟩ = some (.int .i64 0) ∧ w'.cell? ⟨b, off + 2, none⟩ = some (.int .i64 1) ∧ b < w'.heap.size) ∧ Below W.heap.size W w') := fun W v hr hc => by
    refine (minimal_any pairL v W hr hc fit_pair).mono ?_
    rintro e w' ⟨v', he, h1, _, hb⟩
    rw [ck_pair] at he h1
    have h2 := (h1 rfl).1
    rw [min_pair] at h2
    obtain ⟨ad, cap, rfl, hcc⟩ := h2
    obtain ⟨b, off, rfl, hlt, c0, c1, c2⟩ := hcc 0 _ rfl
    rw [Nat.zero_mul, Nat.add_zero] at c0 c1 c2
    exact ⟨b, off, cap, he, ⟨c0, c1, c2, hlt⟩, hb⟩
  have HTR : Hid (∀ W v, RdE W v trimL → Calls Try.prog 55 #[v] W fun e w' => ∃ ad cap, e = .returned (.tuple #[.slice ad 2 cap, .int .i64 0]) ∧ Below W.heap.size W w') := fun W v hr => by
    refine (trim_any trimL v W hr fit_trimL).mono ?_
    rintro e w' ⟨v', he, h1, _, hb⟩
    rw [ck_trimL] at he h1
    obtain ⟨ad, cap, e2, _⟩ := h1 rfl
    rw [trim_len] at e2
    rw [e2] at he
    exact ⟨ad, cap, he, hb⟩
  have HSM : Hid (∀ W v v', RdE W v halvesL → RdE W v' leastL → Calls Try.prog 53 #[v, v'] W fun e w' => e = .returned (.bool true) ∧ Below W.heap.size W w') := fun W v v' h1 h2 => by
    have t1 := ckE_iff.1 ck_halves
    have t2 := minE_tab t1 fit_halves
    have f2 := minE_fit t1 fit_halves
    rw [min_halves] at t2 f2
    refine same_few halvesL leastL v v' W t1 t2 h1 h2 fit_halves f2 (by decide) (by decide) fun y hy => ?_
    rw [← min_halves]
    exact (minE_look t1 fit_halves y hy).symm
  have HL1 : Hid (∀ W v, RdE W v halvesL → Calls Try.prog 49 #[v, .int .u32 167772160] W fun e w' => e = .returned (.int .i64 2) ∧ Below W.heap.size W w') := fun W v h => by
    have := lookup49_any halvesL v 167772160 W h fit_halves (by decide)
    rwa [look_net] at this
  have HL2 : Hid (∀ W v, RdE W v halvesL → Calls Try.prog 49 #[v, .int .u32 0] W fun e w' => e = .returned (.int .i64 1) ∧ Below W.heap.size W w') := fun W v h => by
    have := lookup49_any halvesL v 0 W h fit_halves (by decide)
    rwa [look_zero] at this
  have HRT : Hid (∀ (W : World) c, RdE (W.alloc (.cells #[.int .u32 167772160, .int .i64 8, .int .i64 1, .int .u32 167772160, .int .i64 9, .int .i64 1, .int .u32 176160768, .int .i64 9, .int .i64 2] c)) (.slice (some ⟨W.heap.size, 0, none⟩) 3 3) trimL) := fun W c => by
    have h := heap_alloc_new W (.cells #[.int .u32 167772160, .int .i64 8, .int .i64 1, .int .u32 167772160, .int .i64 9, .int .i64 1, .int .u32 176160768, .int .i64 9, .int .i64 2] c)
    refine ⟨some ⟨W.heap.size, 0, none⟩, 3, rfl, fun k x hx => ?_⟩
    have hk : k < 3 := (List.getElem?_eq_some_iff.1 hx).1
    refine ⟨W.heap.size, 0, rfl, by simp, ?_⟩
    rcases (by omega : k = 0 ∨ k = 1 ∨ k = 2) with rfl | rfl | rfl <;> (simp [trimL] at hx; subst hx; exact ⟨cellO h (by rfl), cellO h (by rfl), cellO h (by rfl)⟩)
  have HRP : Hid (∀ (W : World) c, RdE (W.alloc (.cells #[.int .u32 0, .int .i64 1, .int .i64 1, .int .u32 2147483648, .int .i64 1, .int .i64 1] c)) (.slice (some ⟨W.heap.size, 0, none⟩) 2 2) pairL) := fun W c => by
    have h := heap_alloc_new W (.cells #[.int .u32 0, .int .i64 1, .int .i64 1, .int .u32 2147483648, .int .i64 1, .int .i64 1] c)
    refine ⟨some ⟨W.heap.size, 0, none⟩, 2, rfl, fun k x hx => ?_⟩
    have hk : k < 2 := (List.getElem?_eq_some_iff.1 hx).1
    refine ⟨W.heap.size, 0, rfl, by simp, ?_⟩
    rcases (by omega : k = 0 ∨ k = 1) with rfl | rfl <;> (simp [pairL] at hx; subst hx; exact ⟨cellO h (by rfl), cellO h (by rfl), cellO h (by rfl)⟩)
  go_enter Try.func46, Try.ntmps46
  go_wp2_with (first
    | (go_at_call 83; refine HH.out.mono ?_; rintro en w1 ⟨rfl, hr, hb⟩; have H1 := Lib.hid (And.intro hr hb); clear hr hb)
    | (go_at_call 58; have tok := H3; clear tok; refine (HM2.out _ _ (HRP.out _ _) (capE_three _ _ _ (by decide))).mono ?_; rintro en w4 ⟨b4, off4, cap4, rfl, ⟨c0, c1, c2, hlt4⟩, hb⟩; have hb' := below_then (below_alloc _ _) hb; have H4 : Hid (RdE w4 (.slice (some ⟨w.heap.size, 0, none⟩) 3 3) halvesL ∧ RdE w4 (.slice ad2 2 cap2) leastL ∧ Below w.heap.size w w4) := ⟨H3.out.1.below hb', H3.out.2.1.below hb', below_then H3.out.2.2 hb'⟩; clear hb hb')
    | (go_at_call 58; refine (HM1.out _ _ H1.out.1 (capE_three _ _ _ (by decide))).mono ?_; rintro en w2 ⟨ad2, cap2, rfl, hr, hb⟩; have H2 : Hid (RdE w2 (.slice (some ⟨w.heap.size, 0, none⟩) 3 3) halvesL ∧ RdE w2 (.slice ad2 2 cap2) leastL ∧ Below w.heap.size w w2) := ⟨H1.out.1.below hb, hr, below_then H1.out.2 hb⟩; clear hr hb)
    | (go_at_call 55; refine (HTR.out _ _ (HRT.out _ _)).mono ?_; rintro en w3 ⟨ad3, cap3, rfl, hb⟩; have hb' := below_then (below_alloc _ _) hb; have H3 : Hid (RdE w3 (.slice (some ⟨w.heap.size, 0, none⟩) 3 3) halvesL ∧ RdE w3 (.slice ad2 2 cap2) leastL ∧ Below w.heap.size w w3) := ⟨H2.out.1.below hb', H2.out.2.1.below hb', below_then H2.out.2.2 hb'⟩; clear hb hb')
    | (go_at_call 53; refine (HSM.out _ _ _ H4.out.1 H4.out.2.1).mono ?_; rintro en w5 ⟨rfl, hb⟩; have d0 := carryE hb hlt4 c0; have d1 := carryE hb hlt4 c1; have d2 := carryE hb hlt4 c2; have H5 : Hid (RdE w5 (.slice (some ⟨w.heap.size, 0, none⟩) 3 3) halvesL ∧ Below w.heap.size w w5) := ⟨H4.out.1.below hb, below_then H4.out.2.2 hb⟩; clear hb)
    | (go_at_call 49; have tok := H6; clear tok; refine (HL2.out _ _ H6.out.1).mono ?_; rintro en w7 ⟨rfl, hb⟩; have H7 := Lib.hid (below_then H6.out.2 hb); clear hb)
    | (go_at_call 49; refine (HL1.out _ _ H5.out.1).mono ?_; rintro en w6 ⟨rfl, hb⟩; have H6 : Hid (RdE w6 (.slice (some ⟨w.heap.size, 0, none⟩) 3 3) halvesL ∧ Below w.heap.size w w6) := ⟨H5.out.1.below hb, below_then H5.out.2 hb⟩; clear hb))
  go_ret
  exact ⟨rfl, H7.out⟩
end Go.Proofs.Ytegponbmelgngaa
end

section
namespace Go.Proofs.Ytegponbmelgngaa
open Go.RowKit
open Classical
set_option linter.unusedSimpArgs false
set_option linter.unusedVariables false
set_option maxHeartbeats 1500000
set_option maxRecDepth 100000

theorem least_good (a b : List En) (v1 v2 : Value) (w : World) (hla : a.length ≤ 60) (hlb : b.length ≤ 60) (hs : SamE a b) (hr1 : RdE w v1 a) (hr2 : RdE w v2 b) (n1 : NilE v1) (n2 : NilE v2) (c1 : CapE v1) (c2 : CapE v2) (fa : FitE a) (fb : FitE b) :
    Calls Try.prog 13 #[v1, v2] w fun e w' => e = .returned (.bool true) ∧ Below w.heap.size w w' := by
  have HAW := Lib.hid awake7_any
  have ta := ckE_iff.1 hs.1
  have tb := ckE_iff.1 hs.2.1
  have HS1 : Hid (∀ W, Below w.heap.size w W → Calls Try.prog 54 #[v1, v2] W fun e w' => e = .returned (.bool true) ∧ Below W.heap.size W w') := fun W hW => by
    have := rsame_any a b v1 v2 W (by omega) (by omega) (hr1.below hW) (hr2.below hW) n1 n2 fa fb
    rwa [decide_eq_true hs] at this
  have HS2 : Hid (∀ W m, Below w.heap.size w W → RdE W m (minE a) → NilE m → Calls Try.prog 54 #[v1, m] W fun e w' => e = .returned (.bool true) ∧ Below W.heap.size W w') := fun W m hW hm nm => by
    have h1 : SamE a (minE a) := ⟨hs.1, ckE_iff.2 (minE_tab ta fa), fun y hy => (minE_look ta fa y hy).symm⟩
    have := rsame_any a (minE a) v1 m W (by omega) (by have := minE_len ta fa; omega) (hr1.below hW) hm n1 nm fa (minE_fit ta fa)
    rwa [decide_eq_true h1] at this
  have hp1 : (minE a).length ≤ b.length := minE_least ta fa tb fb (fun y hy => (hs.2.2 y hy).symm)
  have hp2 := minE_len ta fa
  have hp3 : (minE a).length = (minE b).length := minE_same ta fa tb fb (fun y hy => (hs.2.2 y hy).symm)
  obtain ⟨P, hP⟩ : ∃ P, (minE a).length = P := ⟨_, rfl⟩
  have HM1 : Hid (∀ W, Below w.heap.size w W → Calls Try.prog 58 #[v1] W fun e w' => ∃ ad cap, e = .returned (.tuple #[.slice ad P cap, .int .i64 0]) ∧ RdE w' (.slice ad P cap) (minE a) ∧ NilE (.slice ad P cap) ∧ Below W.heap.size W w') := fun W hW => by
    refine (minimal_any a v1 W (hr1.below hW) c1 fa).mono ?_
    rintro e w' ⟨v', he, h1, _, hb⟩
    rw [hs.1] at he h1
    obtain ⟨h2, h3, _⟩ := h1 rfl
    obtain ⟨ad, cap, rfl, _⟩ := id h2
    rw [hP] at he h2 h3
    exact ⟨ad, cap, he, h2, h3, hb⟩
  have HM2 : Hid (∀ W, Below w.heap.size w W → Calls Try.prog 58 #[v2] W fun e w' => ∃ ad cap, e = .returned (.tuple #[.slice ad P cap, .int .i64 0]) ∧ Below W.heap.size W w') := fun W hW => by
    refine (minimal_any b v2 W (hr2.below hW) c2 fb).mono ?_
    rintro e w' ⟨v', he, h1, _, hb⟩
    rw [hs.2.1] at he h1
    obtain ⟨h2, _⟩ := h1 rfl
    obtain ⟨ad, cap, rfl, _⟩ := h2
    rw [← hp3, hP] at he
    exact ⟨ad, cap, he, hb⟩
  rw [hP] at hp1 hp2
  obtain ⟨ad1, cap1, rfl, -⟩ := hr1
  obtain ⟨ad2, cap2, rfl, -⟩ := hr2
  obtain ⟨L, hL⟩ : ∃ L, a.length = L := ⟨_, rfl⟩
  obtain ⟨M, hM⟩ : ∃ M, b.length = M := ⟨_, rfl⟩
  rw [hL] at hla hp2 HS1 HS2 HM1 ⊢
  rw [hM] at hlb hp1 HS1 HM2 ⊢
  have k1 : decide ((L : Int) > 60) = false := decide_eq_false (by omega)
  have k2 : ¬ (60 : Int) < (L : Int) := by omega
  have k3 : decide ((M : Int) > 60) = false := decide_eq_false (by omega)
  have k4 : ¬ (60 : Int) < (M : Int) := by omega
  have k5 : (P : Int) ≤ (M : Int) := by omega
  have k6 : (P : Int) ≤ (L : Int) := by omega
  have k7 : decide ((P : Int) ≤ (M : Int)) = true := decide_eq_true k5
  have k8 : decide ((P : Int) ≤ (L : Int)) = true := decide_eq_true k6
  clear hs n1 n2 c1 c2 fa fb ta tb hp1 hp2 hp3 hP hL hM hla hlb
  go_enter Try.func13, Try.ntmps13
  go_wp2_with (first
    | (go_at_call 54; have tok := H4; clear tok; refine (HS2.out _ _ H4.out.2.2 H4.out.1 H4.out.2.1).mono ?_; rintro en w5 ⟨rfl, hb⟩; have H5 := Lib.hid (below_then H4.out.2.2 hb); clear hb)
    | (go_at_call 54; refine (HS1.out _ (Below.refl _ _)).mono ?_; rintro en w1 ⟨rfl, hb⟩; have H1 := Lib.hid hb; clear hb)
    | (go_at_call 58; have tok := H2; clear tok; refine (HM2.out _ H2.out.2.2).mono ?_; rintro en w3 ⟨ad4, cap4, rfl, hb⟩; have H3 : Hid (RdE w3 (.slice ad3 P cap3) (minE a) ∧ NilE (.slice ad3 P cap3) ∧ Below w.heap.size w w3) := ⟨H2.out.1.below hb, H2.out.2.1, below_then H2.out.2.2 hb⟩; clear hb)
    | (go_at_call 58; refine (HM1.out _ H1.out).mono ?_; rintro en w2 ⟨ad3, cap3, rfl, hr, hn, hb⟩; have H2 : Hid (RdE w2 (.slice ad3 P cap3) (minE a) ∧ NilE (.slice ad3 P cap3) ∧ Below w.heap.size w w2) := ⟨hr, hn, below_then H1.out hb⟩; clear hr hn hb)
    | (go_at_call 46; refine (HAW.out _).mono ?_; rintro en w4 ⟨rfl, hb⟩; have H4 : Hid (RdE w4 (.slice ad3 P cap3) (minE a) ∧ NilE (.slice ad3 P cap3) ∧ Below w.heap.size w w4) := ⟨H3.out.1.below hb, H3.out.2.1, below_then H3.out.2.2 hb⟩; clear hb))
  go_ret
  exact ⟨by simp, H5.out⟩
theorem least_walk (a b : List En) (v1 v2 : Value) (w : World) (hr1 : RdE w v1 a) (hr2 : RdE w v2 b) (n1 : NilE v1) (n2 : NilE v2) (c1 : CapE v1) (c2 : CapE v2) (fa : FitE a) (fb : FitE b) :
    Calls Try.prog 13 #[v1, v2] w fun e w' => e = .returned (.bool true) ∧ Below w.heap.size w w' := by
  have HAW := Lib.hid awake7_any
  by_cases hla : a.length ≤ 60
  · by_cases hlb : b.length ≤ 60
    · by_cases hs : SamE a b
      · exact least_good a b v1 v2 w hla hlb hs hr1 hr2 n1 n2 c1 c2 fa fb
      · have HS1 : Hid (Calls Try.prog 54 #[v1, v2] w fun e w' => e = .returned (.bool false) ∧ Below w.heap.size w w') := by
          have := rsame_any a b v1 v2 w (by omega) (by omega) hr1 hr2 n1 n2 fa fb
          rwa [decide_eq_false hs] at this
        obtain ⟨ad1, cap1, rfl, -⟩ := hr1
        obtain ⟨ad2, cap2, rfl, -⟩ := hr2
        obtain ⟨L, hL⟩ : ∃ L, a.length = L := ⟨_, rfl⟩
        obtain ⟨M, hM⟩ : ∃ M, b.length = M := ⟨_, rfl⟩
        rw [hL] at hla HS1 ⊢
        rw [hM] at hlb HS1 ⊢
        have k1 : decide ((L : Int) > 60) = false := decide_eq_false (by omega)
        have k2 : ¬ (60 : Int) < (L : Int) := by omega
        have k3 : decide ((M : Int) > 60) = false := decide_eq_false (by omega)
        have k4 : ¬ (60 : Int) < (M : Int) := by omega
        clear hs n1 n2 c1 c2 fa fb hL hM hla hlb
        go_enter Try.func13, Try.ntmps13
        go_wp2_with (first
          | (go_at_call 54; refine HS1.out.mono ?_; rintro en w1 ⟨rfl, hb⟩; have H1 := Lib.hid hb; clear hb)
          | (go_at_call 46; refine (HAW.out _).mono ?_; rintro en w4 ⟨rfl, hb⟩; have H4 := Lib.hid (below_then H1.out hb); clear hb))
        go_ret
        exact ⟨rfl, H4.out⟩
    · obtain ⟨ad1, cap1, rfl, -⟩ := hr1
      obtain ⟨ad2, cap2, rfl, -⟩ := hr2
      obtain ⟨L, hL⟩ : ∃ L, a.length = L := ⟨_, rfl⟩
      obtain ⟨M, hM⟩ : ∃ M, b.length = M := ⟨_, rfl⟩
      rw [hL] at hla ⊢
      rw [hM] at hlb ⊢
      have k1 : decide ((L : Int) > 60) = false := decide_eq_false (by omega)
      have k2 : ¬ (60 : Int) < (L : Int) := by omega
      have k3 : decide ((M : Int) > 60) = true := decide_eq_true (by omega)
      have k4 : (60 : Int) < (M : Int) := by omega
      clear n1 n2 c1 c2 fa fb hL hM hla hlb
      go_enter Try.func13, Try.ntmps13
      go_wp2_with (go_at_call 46; refine (HAW.out _).mono ?_; rintro en w4 ⟨rfl, hb⟩; have H4 := Lib.hid hb; clear hb)
      go_ret
      exact ⟨rfl, H4.out⟩
  · obtain ⟨ad1, cap1, rfl, -⟩ := hr1
    obtain ⟨ad2, cap2, rfl, -⟩ := hr2
    obtain ⟨L, hL⟩ : ∃ L, a.length = L := ⟨_, rfl⟩
    rw [hL] at hla ⊢
    have k1 : decide ((L : Int) > 60) = true := decide_eq_true (by omega)
    have k2 : (60 : Int) < (L : Int) := by omega
    clear n1 n2 c1 c2 fa fb hL hla
    go_enter Try.func13, Try.ntmps13
    go_wp2_with (go_at_call 46; refine (HAW.out _).mono ?_; rintro en w4 ⟨rfl, hb⟩; have H4 := Lib.hid hb; clear hb)
    go_ret
    exact ⟨rfl, H4.out⟩
end Go.Proofs.Ytegponbmelgngaa
end
