/-
  The walks of the reference's Ints and Next.
-/
import Derived.Test.YtiodpgannelgpaaGrCo
import Derived.Test.YtiodpgannelgpaaGrPu
namespace Go.Proofs.Ytiodpgannelgpaa
open Go.RowKit GM Go.Sort
set_option linter.unusedSimpArgs false
set_option linter.unusedVariables false
set_option maxHeartbeats 4000000
set_option maxRecDepth 100000
namespace GM
/-- strictly ascending -/
abbrev SAsc (l : List Int) : Prop := l.Pairwise (· < ·)
def insI (n : Int) : List Int → List Int
  | [] => [n]
  | y :: r => if n ≤ y then n :: (y :: r).filter (fun x => decide (x ≠ n)) else y :: insI n r
theorem mem_insI {n y : Int} : ∀ {l : List Int}, y ∈ insI n l ↔ y = n ∨ y ∈ l
  | [] => by simp [insI]
  | z :: r => by
    unfold insI
    split
    · simp only [List.mem_cons, List.mem_filter, decide_eq_true_eq]
      constructor
      · rintro (h | ⟨h, _⟩)
        · exact .inl h
        · exact .inr h
      · rintro (h | h)
        · exact .inl h
        · by_cases e : y = n
          · exact .inl e
          · exact .inr ⟨h, e⟩
    · simp only [List.mem_cons, mem_insI (l := r)]
      constructor
      · rintro (h | h | h)
        · exact .inr (.inl h)
        · exact .inl h
        · exact .inr (.inr h)
      · rintro (h | h | h)
        · exact .inr (.inl h)
        · exact .inl h
        · exact .inr (.inr h)
theorem insI_asc {n : Int} : ∀ {l : List Int}, SAsc l → SAsc (insI n l)
  | [], _ => List.pairwise_singleton _ _
  | z :: r, h => by
    obtain ⟨h1, h2⟩ := List.pairwise_cons.1 h
    unfold insI
    split
    · rename_i hle
      refine List.pairwise_cons.2 ⟨fun y hy => ?_, h.filter _⟩
      rw [List.mem_filter, decide_eq_true_eq, List.mem_cons] at hy
      rcases hy with ⟨rfl | hy, hne⟩
      · omega
      · have := h1 y hy; omega
    · rename_i hle
      refine List.pairwise_cons.2 ⟨fun y hy => ?_, insI_asc h2⟩
      rcases mem_insI.1 hy with rfl | hy
      · omega
      · exact h1 y hy
theorem insI_len {n : Int} : ∀ {l : List Int}, (insI n l).length ≤ l.length + 1
  | [] => by simp [insI]
  | z :: r => by
    unfold insI
    split
    · have := List.length_filter_le (fun x => decide (x ≠ n)) (z :: r)
      simp only [List.length_cons] at *
      omega
    · have := insI_len (n := n) (l := r)
      simp only [List.length_cons]; omega
theorem sasc_ext : ∀ {l m : List Int}, SAsc l → SAsc m → (∀ x, x ∈ l ↔ x ∈ m) → l = m
  | [], [], _, _, _ => rfl
  | [], y :: m, _, _, h => by have := (h y).2 (by simp); simp at this
  | x :: l, [], _, _, h => by have := (h x).1 (by simp); simp at this
  | x :: l, y :: m, hl, hm, h => by
    replace hl := List.pairwise_cons.1 hl
    replace hm := List.pairwise_cons.1 hm
    have e : x = y := by
      have a := (h x).1 (by simp)
      have b := (h y).2 (by simp)
      rw [List.mem_cons] at a b
      rcases a with a | a
      · exact a
      · rcases b with b | b
        · exact b.symm
        · have := hl.1 y b; have := hm.1 x a; omega
    subst e
    rw [sasc_ext hl.2 hm.2 fun z => ⟨fun hz => by
      have := (h z).1 (List.mem_cons_of_mem _ hz)
      rcases List.mem_cons.1 this with rfl | h'
      · have := hl.1 z hz; omega
      · exact h', fun hz => by
      have := (h z).2 (List.mem_cons_of_mem _ hz)
      rcases List.mem_cons.1 this with rfl | h'
      · have := hm.1 z hz; omega
      · exact h'⟩]
/-- in the midst of inserting -/
def InsP (n : Int) (l : List Int) (i : Nat) (d : Bool) (out : List Int) : Prop := if d = true then insI n l = out ++ (l.drop i).filter (fun x => decide (x ≠ n)) else out = l.take i ∧ insI n l = l.take i ++ insI n (l.drop i)
theorem InsP.start {n : Int} {l : List Int} : InsP n l 0 false [] := by unfold InsP; simp
theorem InsP.on {n y : Int} {l : List Int} {i : Nat} {out : List Int} (h : InsP n l i true out) (hy : l[i]? = some y) (hn : y ≠ n) : InsP n l (i + 1) true (out ++ [y]) := by
  unfold InsP at *
  simp only [if_true] at *
  obtain ⟨hk, he⟩ := List.getElem?_eq_some_iff.1 hy
  rw [h, List.append_assoc, List.drop_eq_getElem_cons hk, he, List.filter_cons, if_pos (decide_eq_true hn)]; rfl
theorem InsP.same {n y : Int} {l : List Int} {i : Nat} {out : List Int} (h : InsP n l i true out) (hy : l[i]? = some y) (hn : y = n) : InsP n l (i + 1) true out := by
  unfold InsP at *
  simp only [if_true] at *
  obtain ⟨hk, he⟩ := List.getElem?_eq_some_iff.1 hy
  rw [h, List.drop_eq_getElem_cons hk, he, List.filter_cons, if_neg (by simp [hn])]
theorem InsP.skip {n y : Int} {l : List Int} {i : Nat} {out : List Int} (h : InsP n l i false out) (hy : l[i]? = some y) (hb : ¬ n ≤ y) : InsP n l (i + 1) false (out ++ [y]) := by
  unfold InsP at *
  simp only [Bool.false_eq_true, if_false] at *
  obtain ⟨hk, he⟩ := List.getElem?_eq_some_iff.1 hy
  have e1 : l.take (i + 1) = l.take i ++ [y] := by rw [List.take_add_one, hy]; rfl
  rw [e1]
  refine ⟨by rw [h.1], ?_⟩
  rw [h.2, List.drop_eq_getElem_cons hk, he, insI, if_neg hb, List.append_assoc]; rfl
theorem InsP.here {n y : Int} {l : List Int} {i : Nat} {out : List Int} (h : InsP n l i false out) (hy : l[i]? = some y) (hb : n ≤ y) : InsP n l i true (out ++ [n]) := by
  unfold InsP at *
  simp only [Bool.false_eq_true, if_false, if_true] at *
  obtain ⟨hk, he⟩ := List.getElem?_eq_some_iff.1 hy
  rw [h.2, List.drop_eq_getElem_cons hk, he, insI, if_pos hb, h.1]; simp
theorem InsP.end_yes {n : Int} {l : List Int} {out : List Int} (h : InsP n l l.length true out) : out = insI n l := by
  unfold InsP at h; simp at h; exact h.symm
theorem InsP.end_no {n : Int} {l : List Int} {out : List Int} (h : InsP n l l.length false out) : out ++ [n] = insI n l := by
  unfold InsP at h; simp [insI] at h; rw [h.2, h.1]
theorem InsP.len {n : Int} {l : List Int} {i : Nat} {d : Bool} {out : List Int} (h : InsP n l i d out) (hi : i ≤ l.length) : out.length ≤ l.length + 1 := by
  unfold InsP at h
  split at h
  · have h1 := congrArg List.length h
    have h2 := insI_len (n := n) (l := l)
    rw [List.length_append] at h1
    omega
  · rw [h.1, List.length_take]; omega
end GM
/-- a row of integers of the call's own, from block B on -/
abbrev OwnI (B : Nat) (W : World) (v : Value) (o : List Int) : Prop := W.ownsRow B 3 1 v o.length (ints o)
theorem OwnI.push {B : Nat} {W2 : World} {v' : Value} {o : List Int} (y : Int) (hown : W2.ownsRow B 3 1 v' (o.length + 1) (ints o ++ [.int .i64 y])) : OwnI B W2 v' (o ++ [y]) := by
  have e : ints (o ++ [y]) = ints o ++ [.int .i64 y] := by simp [ints]
  unfold OwnI
  rw [e, List.length_append]
  exact hown
theorem rdI_own {B : Nat} {W : World} {v : Value} {o : List Int} (h : OwnI B W v o) : RdI W v o := by
  rcases h.2 with ⟨rfl, hn⟩ | ⟨g, cap, cur, rfl, hB, hg, hnc, hcm, _, _⟩
  · obtain rfl := List.length_eq_zero_iff.1 hn
    exact rdI_nil W
  · refine ⟨some ⟨g, 0, none⟩, cap, rfl, hnc, by unfold maxLen at hcm; omega, fun k x hk => ⟨g, 0, rfl, lt_block hg, ?_⟩⟩
    have hlt := (List.getElem?_eq_some_iff.1 hk).1
    rw [Nat.zero_add, h.cellAt k (by omega)]; exact ints_get hk
theorem cellI_new (w : World) (x : Value) (t : TypeId) {b : Nat} (hb : b = w.heap.size) : ∀ j u, [x][j]? = some u → (w.alloc (.cells #[x] t)).cell? ((⟨b, 0, none⟩ : Addr).add j) = some u := by
  subst hb
  intro j u hj
  match j, hj with
  | 0, hj => simp at hj; subst hj; simp [Addr.add]
  | (j + 1), hj => simp at hj
theorem one_int (n : Int) : ∀ u ∈ [Value.int .i64 n], u.oneCell' = true := by simp [Value.oneCell']
/-- o in a row of the call's own, nothing older changed -/
def InsS (w : World) (v : Value) (o : List Int) (W : World) : Prop := OwnI w.heap.size W v o ∧ Below w.heap.size w W
theorem InsS.push {w W W2 : World} {v v' : Value} {o : List Int} (h : InsS w v o W) (y : Int) (ob : Obj) (hown : W2.ownsRow w.heap.size 3 1 v' (o.length + 1) (ints o ++ [.int .i64 y])) (hg : (W.alloc ob).grownBy W2 v.ownBlock) : InsS w v' (o ++ [y]) W2 :=
  ⟨OwnI.push y hown, (h.2.alloc h.2.size ob).grown hg (by have := h.2.size; simp; omega) (fun k hk => (row_lt h.1 hk).1)⟩
theorem InsS.below {w W W1 : World} {v : Value} {o : List Int} (h : InsS w v o W) (hb : Below W.heap.size W W1) : InsS w v o W1 := ⟨row_below h.1 hb, below_then h.2 hb⟩
theorem ints59_any (l : List Int) (n : Int) (v : Value) (w : World) (hl : l.length ≤ 17592186040320) (hr : RdI w v l) :
    Calls Try.prog 59 #[v, .int .i64 n] w fun e w' => ∃ v', e = .returned v' ∧ OwnI w.heap.size w' v' (insI n l) ∧ Below w.heap.size w w' := by
  obtain ⟨i0, hi, hz0, hz1, hz2⟩ := infoE_parts info3
  obtain ⟨ad, cap, rfl, hcap1, hcap2, hc⟩ := hr
  have HC := Lib.hid hc
  obtain ⟨L, hL⟩ : ∃ L, l.length = L := ⟨_, rfl⟩
  rw [hL] at hcap1 hl ⊢
  have HL := Lib.hid hL
  have HS0 : Hid (InsS w (.slice (some ⟨w.heap.size, 0, none⟩) 0 0) [] (w.alloc (.cells #[] 3))) :=
    ⟨World.ownsRow_made (base := w.heap.size) (e := 3) (size := 1) w #[] 0 (Nat.le_refl _) (Nat.zero_le _) (by simp), below_alloc _ _⟩
  have HI0 : Hid (InsP n l 0 false []) := InsP.start
  have HPI : Hid (∀ k d o, k ≤ L → InsP n l k d o → o.length ≤ L + 1) := fun k d o hk h => by have := InsP.len h (by omega); omega
  clear hc hL
  go_enter Try.func59, Try.ntmps59
  go_wp2_with fail
  go_loopg [5, 6, 7] L (fun g s5 s6 s7 wr => ∃ (k : Nat) (v : Value) (o : List Int) (d : Bool), k ≤ L ∧ L - k ≤ g ∧ v = s5 ∧ s6 = .bool d ∧ s7 = .int .i64 (k : Int) ∧ Hid (InsP n l k d o) ∧ Hid (InsS w v o wr))
  case atStart => exact ⟨0, _, [], false, by omega, by omega, rfl, rfl, rfl, HI0, HS0⟩
  case round =>
    clear HI0 HS0
    obtain ⟨k, v, o, d, hk, hg, rfl, rfl, rfl, HI, HS⟩ := hrel
    have hol := HPI.out k d o hk HI.out
    by_cases hlt : k < L
    · obtain ⟨y, hy⟩ : ∃ y, l[k]? = some y := ⟨_, List.getElem?_eq_getElem (by have := HL.out; omega)⟩
      obtain ⟨bl, off, rfl, hbl, c0⟩ := HC.out k y hy
      have f0 := carryB HS.out.2 hbl c0
      have HCC := Lib.hid (And.intro hbl c0)
      have HY := Lib.hid hy
      have k1 : (k : Int) < (L : Int) := by omega
      clear c0 hy hbl
      cases d
      · by_cases hny : n ≤ y
        · have HI2 : Hid (InsP n l k true (o ++ [n])) := HI.out.here HY.out hny
          have hol2 := HPI.out k true _ hk HI2.out
          rw [List.length_append] at hol2
          by_cases hyn : y = n
          · have HI3 : Hid (InsP n l (k + 1) true (o ++ [n])) := HI2.out.same HY.out hyn
            subst hyn
            clear hny
            go_wp2_with (at_builtin; refine wpList_append_own _ rfl (.tmp 25) (.tmp 27) 32 rfl w.heap.size 3 i0 (.int .i64 0) 1 8 Try.underlying32 hi hz0 hz1 hz2 rfl (by decide) v o.length (ints o) rfl (row_below HS.out.1 (below_alloc _ _)) ⟨wr.heap.size, 0, none⟩ 1 1 [.int .i64 y] rfl rfl (cellI_new _ _ _ rfl) (one_int _) (by unfold maxLen; omega) (by omega) (by have := HS.out.2.size; simp; omega) ?_; intro v1 w4 hown hgrow hnil; have S2 := Lib.hid (HS.out.push y _ hown hgrow); have f0 := carryB S2.out.2 HCC.out.1 HCC.out.2; clear hown hgrow hnil)
            go_roundg (L - (k + 1))
            case measure => omega
            case rel => exact ⟨k + 1, _, o ++ [y], true, by omega, Nat.le_refl _, rfl, rfl, by go_num, HI3, S2⟩
          · have HI3 : Hid (InsP n l (k + 1) true (o ++ [n] ++ [y])) := HI2.out.on HY.out hyn
            have e1 : (y == n) = false := by simpa using hyn
            have e2 : (y != n) = true := by simpa using hyn
            clear hyn
            go_wp2_with (first
              | (at_builtin; refine wpList_append_own _ rfl (.tmp 25) (.tmp 27) 32 rfl w.heap.size 3 i0 (.int .i64 0) 1 8 Try.underlying32 hi hz0 hz1 hz2 rfl (by decide) v o.length (ints o) rfl (row_below HS.out.1 (below_alloc _ _)) ⟨wr.heap.size, 0, none⟩ 1 1 [.int .i64 n] rfl rfl (cellI_new _ _ _ rfl) (one_int _) (by unfold maxLen; omega) (by omega) (by have := HS.out.2.size; simp; omega) ?_; intro v1 w4 hown hgrow hnil; have S2 := Lib.hid (HS.out.push n _ hown hgrow); have f0 := carryB S2.out.2 HCC.out.1 HCC.out.2; clear hown hgrow hnil)
              | (at_builtin; refine wpList_append_own _ rfl (.tmp 35) (.tmp 40) 32 rfl w.heap.size 3 i0 (.int .i64 0) 1 8 Try.underlying32 hi hz0 hz1 hz2 rfl (by decide) v1 (o ++ [n]).length (ints (o ++ [n])) rfl (row_below S2.out.1 (below_alloc _ _)) ⟨w4.heap.size, 0, none⟩ 1 1 [.int .i64 y] rfl rfl (cellI_new _ _ _ rfl) (one_int _) (by rw [List.length_append]; unfold maxLen; simp; omega) (by rw [List.length_append]; simp; omega) (by have := S2.out.2.size; simp; omega) ?_; intro v2 w5 hown hgrow hnil; have S3 := Lib.hid (S2.out.push y _ hown hgrow); clear hown hgrow hnil))
            go_roundg (L - (k + 1))
            case measure => omega
            case rel => exact ⟨k + 1, _, o ++ [n] ++ [y], true, by omega, Nat.le_refl _, rfl, rfl, by go_num, HI3, S3⟩
        · have HI2 : Hid (InsP n l (k + 1) false (o ++ [y])) := HI.out.skip HY.out hny
          have hny' : decide (n ≤ y) = false := decide_eq_false hny
          have e1 : (y == n) = false := by have : y ≠ n := by omega
                                           simpa using this
          have e2 : (y != n) = true := by simpa using e1
          clear hny
          go_wp2_with (at_builtin; refine wpList_append_own _ rfl (.tmp 35) (.tmp 40) 32 rfl w.heap.size 3 i0 (.int .i64 0) 1 8 Try.underlying32 hi hz0 hz1 hz2 rfl (by decide) v o.length (ints o) rfl (row_below HS.out.1 (below_alloc _ _)) ⟨wr.heap.size, 0, none⟩ 1 1 [.int .i64 y] rfl rfl (cellI_new _ _ _ rfl) (one_int _) (by unfold maxLen; omega) (by omega) (by have := HS.out.2.size; simp; omega) ?_; intro v1 w4 hown hgrow hnil; have S2 := Lib.hid (HS.out.push y _ hown hgrow); clear hown hgrow hnil)
          go_roundg (L - (k + 1))
          case measure => omega
          case rel => exact ⟨k + 1, _, o ++ [y], false, by omega, Nat.le_refl _, rfl, rfl, by go_num, HI2, S2⟩
      · by_cases hyn : y = n
        · have HI3 : Hid (InsP n l (k + 1) true o) := HI.out.same HY.out hyn
          subst hyn
          go_wp2_with fail
          go_roundg (L - (k + 1))
          case measure => omega
          case rel => exact ⟨k + 1, _, o, true, by omega, Nat.le_refl _, rfl, rfl, by go_num, HI3, HS⟩
        · have HI3 : Hid (InsP n l (k + 1) true (o ++ [y])) := HI.out.on HY.out hyn
          have e1 : (y == n) = false := by simpa using hyn
          have e2 : (y != n) = true := by simpa using hyn
          clear hyn
          go_wp2_with (at_builtin; refine wpList_append_own _ rfl (.tmp 35) (.tmp 40) 32 rfl w.heap.size 3 i0 (.int .i64 0) 1 8 Try.underlying32 hi hz0 hz1 hz2 rfl (by decide) v o.length (ints o) rfl (row_below HS.out.1 (below_alloc _ _)) ⟨wr.heap.size, 0, none⟩ 1 1 [.int .i64 y] rfl rfl (cellI_new _ _ _ rfl) (one_int _) (by unfold maxLen; omega) (by omega) (by have := HS.out.2.size; simp; omega) ?_; intro v1 w4 hown hgrow hnil; have S2 := Lib.hid (HS.out.push y _ hown hgrow); clear hown hgrow hnil)
          go_roundg (L - (k + 1))
          case measure => omega
          case rel => exact ⟨k + 1, _, o ++ [y], true, by omega, Nat.le_refl _, rfl, rfl, by go_num, HI3, S2⟩
    · have k1 : decide ((k : Int) < (L : Int)) = false := decide_eq_false (by omega)
      have hkL : k = l.length := by have := HL.out; omega
      cases d
      · have HE : Hid (o ++ [n] = insI n l) := by have := HI.out; rw [hkL] at this; exact this.end_no
        clear hkL
        go_wp2_with (at_builtin; refine wpList_append_own _ rfl (.tmp 44) (.tmp 46) 32 rfl w.heap.size 3 i0 (.int .i64 0) 1 8 Try.underlying32 hi hz0 hz1 hz2 rfl (by decide) v o.length (ints o) rfl (row_below HS.out.1 (below_alloc _ _)) ⟨wr.heap.size, 0, none⟩ 1 1 [.int .i64 n] rfl rfl (cellI_new _ _ _ rfl) (one_int _) (by unfold maxLen; omega) (by omega) (by have := HS.out.2.size; simp; omega) ?_; intro v1 w4 hown hgrow hnil; have S2 := Lib.hid (HS.out.push n _ hown hgrow); clear hown hgrow hnil)
        go_ret
        exact ⟨_, rfl, HE.out ▸ S2.out.1, S2.out.2⟩
      · have HE : Hid (o = insI n l) := by have := HI.out; rw [hkL] at this; exact this.end_yes
        clear hkL
        go_wp2
        go_ret
        exact ⟨_, rfl, HE.out ▸ HS.out.1, HS.out.2⟩
namespace GM
/-- r: the nodes to which edges of a node lead, ascending -/
def NextOf (l : List E) (a : Int) (r : List Int) : Prop := SAsc r ∧ ∀ x, x ∈ r ↔ ∃ e ∈ l, e.1 = a ∧ e.2.1 = x
theorem NextOf.unique {l : List E} {a : Int} {r s : List Int} (h : NextOf l a r) (k : NextOf l a s) : r = s := sasc_ext h.1 k.1 fun x => (h.2 x).trans (k.2 x).symm
theorem NextOf.nil {a : Int} : NextOf [] a [] := ⟨List.Pairwise.nil, fun x => by simp⟩
theorem NextOf.yes {l : List E} {a : Int} {r : List Int} {e : E} (h : NextOf l a r) (he : e.1 = a) : NextOf (l ++ [e]) a (insI e.2.1 r) := by
  refine ⟨insI_asc h.1, fun x => ?_⟩
  rw [mem_insI, h.2]
  simp only [List.mem_append, List.mem_singleton]
  constructor
  · rintro (rfl | ⟨f, h1, h2⟩)
    · exact ⟨e, .inr rfl, he, rfl⟩
    · exact ⟨f, .inl h1, h2⟩
  · rintro ⟨f, h1 | rfl, h2, h3⟩
    · exact .inr ⟨f, h1, h2, h3⟩
    · exact .inl h3.symm
theorem NextOf.no {l : List E} {a : Int} {r : List Int} {e : E} (h : NextOf l a r) (he : e.1 ≠ a) : NextOf (l ++ [e]) a r := by
  refine ⟨h.1, fun x => ?_⟩
  rw [h.2]
  simp only [List.mem_append, List.mem_singleton]
  constructor
  · rintro ⟨f, h1, h2⟩; exact ⟨f, .inl h1, h2⟩
  · rintro ⟨f, h1 | rfl, h2, h3⟩
    · exact ⟨f, h1, h2, h3⟩
    · exact absurd h2 he
end GM
theorem rnext_any (R N a : Int) (l : List E) (s : Value) (w : World) (hl : Fits l) (hr : Rd3 w s l) :
    Calls Try.prog 24 #[.agg #[.int .i64 R, .int .i64 N, s], .int .i64 a] w fun e w' => ∃ v r, e = .returned v ∧ RdI w' v r ∧ NextOf l a r ∧ Below w.heap.size w w' := by
  unfold Fits at hl
  obtain ⟨ad, cap, rfl, hcap1, hcap2, hc⟩ := hr
  have HC := Lib.hid hc
  obtain ⟨L, hL⟩ : ∃ L, l.length = L := ⟨_, rfl⟩
  rw [hL] at hcap1 hl ⊢
  have HL := Lib.hid hL
  have HI0 : Hid (NextOf (l.take 0) a []) := by rw [List.take_zero]; exact NextOf.nil
  have HS0 : Hid (RdI ((w.alloc (.cells #[.int .i64 R, .int .i64 N, .slice ad L cap] 24)).alloc (.cells #[] 3)) (.slice (some ⟨w.heap.size + 1, 0, none⟩) 0 0) [] ∧ Below w.heap.size w ((w.alloc (.cells #[.int .i64 R, .int .i64 N, .slice ad L cap] 24)).alloc (.cells #[] 3)) ∧ ((w.alloc (.cells #[.int .i64 R, .int .i64 N, .slice ad L cap] 24)).alloc (.cells #[] 3)).heap[w.heap.size]? = some (.cells #[.int .i64 R, .int .i64 N, .slice ad L cap] 24 (0, 0))) :=
    ⟨⟨_, _, rfl, Nat.le_refl _, by omega, fun k x h => by simp at h⟩, below_two _ _ _, (Below.heap_alloc _ _ _ (by simp)).trans (heap_alloc_new _ _)⟩
  clear hc hL
  go_enter Try.func24, Try.ntmps24
  go_wp2_with fail
  go_loopg [5, 6] L (fun g s5 s6 wr => ∃ (k : Nat) (v : Value) (o : List Int), k ≤ L ∧ o.length ≤ k ∧ L - k ≤ g ∧ v = s5 ∧ s6 = .int .i64 (k : Int) ∧ Hid (NextOf (l.take k) a o) ∧ Hid (RdI wr v o ∧ Below w.heap.size w wr ∧ wr.heap[w.heap.size]? = some (.cells #[.int .i64 R, .int .i64 N, .slice ad L cap] 24 (0, 0))))
  case atStart => exact ⟨0, _, [], by omega, Nat.le_refl _, by omega, rfl, rfl, HI0, HS0⟩
  case round =>
    clear HI0 HS0
    obtain ⟨k, v, o, hk, hok, hg, rfl, rfl, HI, HS⟩ := hrel
    have g2 : wr.cell? ⟨w.heap.size, 2, none⟩ = some (.slice ad L cap) := cell_of HS.out.2.2 rfl
    by_cases hlt : k < L
    · obtain ⟨e, he⟩ : ∃ y, l[k]? = some y := ⟨_, List.getElem?_eq_getElem (by have := HL.out; omega)⟩
      obtain ⟨bl, off, rfl, hbl, c0, c1, c2⟩ := HC.out k e he
      have d0 := carryB HS.out.2.1 hbl c0
      have d1 := carryB HS.out.2.1 hbl c1
      have htk : l.take (k + 1) = l.take k ++ [e] := by rw [List.take_add_one, he]; rfl
      have k1 : (k : Int) < (L : Int) := by omega
      by_cases hea : e.1 = a
      · have HI2 : Hid (NextOf (l.take (k + 1)) a (insI e.2.1 o)) := by rw [htk]; exact HI.out.yes hea
        have HLI : Hid ((insI e.2.1 o).length ≤ k + 1) := by have := insI_len (n := e.2.1) (l := o); show _ ≤ _; omega
        have HIN : Hid (Calls Try.prog 59 #[v, .int .i64 e.2.1] wr fun e' w' => ∃ v', e' = .returned v' ∧ OwnI wr.heap.size w' v' (insI e.2.1 o) ∧ Below wr.heap.size wr w') := ints59_any o e.2.1 v wr (by omega) HS.out.1
        obtain ⟨x, y, z⟩ := e
        dsimp only at d0 d1 HIN HI2 HLI hea
        subst hea
        clear c0 c1 c2 he htk hbl
        go_wp2_with fail
        go_at_call 59
        refine HIN.out.mono ?_
        rintro en w3 ⟨v3, rfl, hown, hb⟩
        have S3 : Hid (RdI w3 v3 (insI y o) ∧ Below w.heap.size w w3 ∧ w3.heap[w.heap.size]? = some (.cells #[.int .i64 R, .int .i64 N, .slice (some ⟨bl, off, none⟩) L cap] 24 (0, 0))) := ⟨rdI_own hown, below_then HS.out.2.1 hb, (hb.block _ (lt_block HS.out.2.2)).trans HS.out.2.2⟩
        obtain ⟨ad3, cap3, rfl, _⟩ := rdI_own hown
        clear hown hb g2 d0 d1
        go_wp2_with fail
        go_roundg (L - (k + 1))
        case measure => omega
        case rel => exact ⟨k + 1, _, _, by omega, HLI.out, Nat.le_refl _, rfl, by go_num, HI2, S3⟩
      · have HI2 : Hid (NextOf (l.take (k + 1)) a o) := by rw [htk]; exact HI.out.no hea
        obtain ⟨x, y, z⟩ := e
        dsimp only at d0 d1 hea
        have e1 : (x == a) = false := by simpa using hea
        clear c0 c1 c2 he htk hbl hea
        go_wp2_with fail
        go_roundg (L - (k + 1))
        case measure => omega
        case rel => exact ⟨k + 1, _, _, by omega, by omega, Nat.le_refl _, rfl, by go_num, HI2, HS⟩
    · have k1 : decide ((k : Int) < (L : Int)) = false := decide_eq_false (by omega)
      have HF : Hid (NextOf l a o) := by have := HI.out; rwa [List.take_of_length_le (by have := HL.out; omega)] at this
      go_wp2
      go_ret
      exact ⟨_, o, rfl, HS.out.1, HF.out, HS.out.2.1⟩
end Go.Proofs.Ytiodpgannelgpaa
