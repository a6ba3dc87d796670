/-
  The walk of the reference's bound: an address put into an ascending list of addresses.
  The walks of the reference's Mask, Last and Bounds.
  Appending a slice of entries to a row of the call's own; the walk of the reference's Differ.
-/
import Derived.Test.YtegponbmelgngaaMgAh
import Derived.Laws.AppendOwnNone
section
namespace Go.Proofs.Ytegponbmelgngaa
open Go.RowKit
set_option linter.unusedSimpArgs false
set_option linter.unusedVariables false
set_option maxHeartbeats 1500000
set_option maxRecDepth 100000

theorem wdV_len (m : List Nat) : (wdV m).length = m.length := by unfold wdV; simp
theorem wdV_at {m : List Nat} {i z : Nat} (h : m[i]? = some z) : (wdV m)[i]? = some (.int .u64 (z : Int)) := by unfold wdV; simp [h]
theorem wdV_snoc (m : List Nat) (x : Nat) : wdV (m ++ [x]) = wdV m ++ [.int .u64 (x : Int)] := by unfold wdV; simp
theorem wdV_setL (m : List Nat) (i z : Nat) : (wdV m).set i (.int .u64 (z : Int)) = wdV (m.set i z) := by unfold wdV; rw [List.map_set]
/-- a row of addresses of the call's own -/
def OwnW (B : Nat) (w : World) (v : Value) (l : List Nat) : Prop := B ≤ w.heap.size ∧ w.ownsRow B 33 1 v l.length (wdV l)
theorem OwnW.below {B : Nat} {w w1 : World} {v : Value} {l : List Nat} (h : OwnW B w v l) (hb : Below w.heap.size w w1) : OwnW B w1 v l := ⟨Nat.le_trans h.1 hb.size, own_below h.2 hb⟩
theorem OwnW.drewN {B : Nat} {w : World} {v : Value} {l : List Nat} (h : OwnW B w v l) (q : Nat) : OwnW B (w.drewN q) v l := h
theorem OwnW.slice {B : Nat} {w : World} {v : Value} {l : List Nat} (h : OwnW B w v l) : ∃ ad cap, v = .slice ad l.length cap ∧ ∀ (k x : Nat), l[k]? = some x → ∃ g : Nat, ad = some ⟨g, 0, none⟩ := by
  rcases h.2.2 with ⟨rfl, hn⟩ | ⟨g, cap, cur, rfl, hB, hg, _⟩
  · obtain rfl := List.length_eq_zero_iff.1 hn
    exact ⟨none, 0, rfl, fun k x h => by simp at h⟩
  · exact ⟨some ⟨g, 0, none⟩, cap, rfl, fun k x _ => ⟨g, rfl⟩⟩
theorem OwnW.cell {B g cap n : Nat} {w : World} {l : List Nat} (h : OwnW B w (.slice (some ⟨g, 0, none⟩) n cap) l) {k x : Nat} (hk : l[k]? = some x) (hn : n = l.length) : w.cell? ⟨g, k, none⟩ = some (.int .u64 (x : Int)) := by
  subst hn
  have := h.2.cellAt k (by have := (List.getElem?_eq_some_iff.1 hk).1; omega)
  rw [this]; exact wdV_at hk
theorem OwnW.free {B g cap n : Nat} {w : World} {l : List Nat} (h : OwnW B w (.slice (some ⟨g, 0, none⟩) n cap) l) (k : Nat) : w.frozen? ⟨g, k, none⟩ = false := by
  rcases h.2.2 with ⟨h', _⟩ | ⟨g', cap', cur, h', hB, hg, _⟩
  · simp at h'
  · simp at h'
    obtain ⟨⟨rfl, _⟩, _⟩ := h'
    exact freeO hg _
theorem OwnW.base {B g cap n : Nat} {w : World} {l : List Nat} (h : OwnW B w (.slice (some ⟨g, 0, none⟩) n cap) l) : B ≤ g := by
  rcases h.2.2 with ⟨h', _⟩ | ⟨g', cap', cur, h', hB, hg, _⟩
  · simp at h'
  · simp at h'
    obtain ⟨⟨rfl, _⟩, _⟩ := h'
    exact hB
theorem OwnW.set {B g cap n : Nat} {w : World} {l : List Nat} (h : OwnW B w (.slice (some ⟨g, 0, none⟩) n cap) l) (hn : n = l.length) (k z : Nat) : OwnW B (w.setCell ⟨g, k, none⟩ (.int .u64 (z : Int))) (.slice (some ⟨g, 0, none⟩) n cap) (l.set k z) := by
  subst hn
  refine ⟨by have := h.1; simpa [World.setCell] using this, ?_⟩
  have := (h.2.stored k (.int .u64 (z : Int))).1
  rw [wdV_setL] at this
  rw [List.length_set]; exact this
theorem cellW_one_new (w : World) (x : Value) (t : TypeId) {b : Nat} (hb : b = w.heap.size) : ∀ j u, [x][j]? = some u → (w.alloc (.cells #[x] t)).cell? ((⟨b, 0, none⟩ : Addr).add j) = some u := by
  subst hb
  intro j u hj
  match j, hj with
  | 0, hj => simp at hj; subst hj; simp [Addr.add]
  | (j + 1), hj => simp at hj
theorem one_oneW (a : Nat) : ∀ u ∈ [Value.int .u64 (a : Int)], u.oneCell' = true := by
  intro u hu; simp at hu; subst hu; rfl
/-- ascending addresses -/
def AscN (l : List Nat) : Prop := l.Pairwise (· < ·)
/-- blocks that hold other things than addresses are kept -/
def KT (w w' : World) : Prop := ∀ (k : Nat) (c : Array Value) (t : TypeId) (f : Nat × Nat), t ≠ 33 → w.heap[k]? = some (.cells c t f) → w'.heap[k]? = some (.cells c t f)
theorem KT.refl (w : World) : KT w w := fun _ _ _ _ _ h => h
theorem KT.trans {a b c : World} (h : KT a b) (g : KT b c) : KT a c := fun k d t f ht hk => g k d t f ht (h k d t f ht hk)
theorem KT.alloc (w : World) (o : Obj) : KT w (w.alloc o) := fun k c t f ht h => (Below.heap_alloc w o k (ltO h)).trans h
theorem KT.drewN {w w' : World} (h : KT w w') (q : Nat) : KT w (w'.drewN q) := h
theorem KT.below {w w' : World} (h : Below w.heap.size w w') : KT w w' := fun k c t f ht g => (h.block k (ltO g)).trans g
theorem KT.grown {w w' : World} {B n : Nat} {v : Value} {xs : List Value} (h : w.ownsRow B 33 1 v n xs) (g : w.grownBy w' v.ownBlock) : KT w w' := fun k c t f ht hk => (g.block k (ltO hk) (fun e => by
  rcases h.2 with ⟨rfl, _⟩ | ⟨g', cap', cur, rfl, hB, hg, _⟩
  · simp [Value.ownBlock] at e
  · simp [Value.ownBlock] at e
    subst e
    rw [hg] at hk
    cases hk
    exact ht rfl)).trans hk
theorem KT.set {w : World} {B g cap n : Nat} {l : List Nat} (h : OwnW B w (.slice (some ⟨g, 0, none⟩) n cap) l) (j : Nat) (u : Value) : KT w (w.setCell ⟨g, j, none⟩ u) := fun k c t f ht hk => by
  have hne : k ≠ g := fun e => by
    subst e
    rcases h.2.2 with ⟨h', _⟩ | ⟨g', cap', cur, h', hB, hg, _⟩
    · simp at h'
    · simp at h'
      obtain ⟨⟨rfl, _⟩, _⟩ := h'
      rw [hg] at hk
      cases hk
      exact ht rfl
  rw [heap_set_ne (by omega)]; exact hk
theorem rbound_any (B : Nat) (bs : List Nat) (x : Nat) (v : Value) (w : World) (hl : bs.length ≤ 4000) (ha : AscN bs) (hb : ∀ y ∈ bs, y < 18446744073709551616) (hx : x < 18446744073709551616) (h : OwnW B w v bs) :
    Calls Try.prog 121 #[v, .int .u64 (x : Int)] w fun e w' => ∃ v' ys, e = .returned v' ∧ OwnW B w' v' ys ∧ AscN ys ∧ (∀ y, y ∈ ys ↔ y ∈ bs ∨ y = x) ∧ ys.length ≤ bs.length + 1 ∧ Below B w w' ∧ KT w w' := by
  obtain ⟨i0, hi, hz0, hz1, hz2⟩ := info_parts infoW
  obtain ⟨ad, cap, rfl, hsl⟩ := OwnW.slice h
  have H := Lib.hid h
  have HSL := Lib.hid hsl
  have HA := Lib.hid ha
  obtain ⟨L, hL⟩ : ∃ L, bs.length = L := ⟨_, rfl⟩
  have HL := Lib.hid hL
  rw [hL] at hl H ⊢
  clear h hsl hL ha
  go_enter Try.func121, Try.ntmps121
  go_wp2_with fail
  go_loopg [6, 11] L (fun g s6 s11 wr => ∃ (k : Nat), (∃ u, u = s6) ∧ s11 = .int .i64 (k : Int) ∧ k ≤ L ∧ L - k ≤ g ∧ Hid ((∀ y ∈ bs.take k, y ≠ x) ∧ Below B w wr ∧ OwnW B wr (.slice ad L cap) bs ∧ KT w wr))
  case atStart => exact ⟨0, ⟨_, rfl⟩, rfl, by omega, by omega, fun y hy => by simp at hy, Below.refl _ _, H.out, KT.refl _⟩
  case round =>
    obtain ⟨k, ⟨u6, rfl⟩, rfl, hk, hg, HS⟩ := hrel
    by_cases hlt : k < L
    · obtain ⟨y, hy⟩ : ∃ x, bs[k]? = some x := ⟨_, List.getElem?_eq_getElem (by have := HL.out; omega)⟩
      obtain ⟨g, rfl⟩ := HSL.out k y hy
      have c0 := HS.out.2.2.1.cell hy HL.out.symm
      have hyl := hb y (List.mem_of_getElem? hy)
      by_cases he : y = x
      · subst he
        have HM : Hid (y ∈ bs) := List.mem_of_getElem? hy
        clear hy
        go_wp2_with fail
        go_ret
        exact ⟨_, bs, rfl, HS.out.2.2.1, HA.out, fun z => ⟨.inl, fun h => h.elim id (fun h => by rw [h]; exact HM.out)⟩, by have := HL.out; omega, HS.out.2.1, HS.out.2.2.2⟩
      · have f1 : ((y : Int) == (x : Int)) = false := by simpa using (show ¬ (y : Int) = (x : Int) by omega)
        have f2 : decide ((y : Int) = (x : Int)) = false := decide_eq_false (by omega)
        have HN : Hid (∀ z ∈ bs.take (k + 1), z ≠ x) := fun z hz => by
          rw [List.take_add_one, hy] at hz
          rcases List.mem_append.1 hz with h | h
          · exact HS.out.1 z h
          · simp at h; rw [h]; exact he
        clear hy he
        go_wp2_with fail
        go_roundg (L - (k + 1))
        case measure => omega
        case rel => exact ⟨k + 1, ⟨_, rfl⟩, by go_num, by omega, Nat.le_refl _, HN.out, HS.out.2⟩
    · have k1 : decide ((k : Int) < (L : Int)) = false := decide_eq_false (by omega)
      have HNM : Hid (x ∉ bs) := fun hm => by
        have : k = L := by omega
        have h1 := HS.out.1
        rw [this, ← HL.out, List.take_length] at h1
        exact h1 x hm rfl
      obtain ⟨w1, hw1⟩ : ∃ w1, w1 = wr := ⟨_, rfl⟩
      rw [← hw1] at HS ⊢
      clear hw1 HSL H
      have hBs := HS.out.2.2.1.1
      have hlen1 : (bs ++ [x]).length = L + 1 := by rw [List.length_append, HL.out]; rfl
      go_wp2_with (at_builtin; refine wpList_append_own _ rfl (.tmp 20) (.tmp 22) 99 rfl B 33 i0 (.int .u64 0) 1 8 Try.underlying99 hi hz0 hz1 hz2 rfl (by decide) (.slice ad L cap) L (wdV bs) rfl (by have := (HS.out.2.2.1.below (below_alloc w1 (.cells #[.int .u64 (x : Int)] 33))).2; rwa [HL.out] at this) ⟨w1.heap.size, 0, none⟩ 1 1 [.int .u64 (x : Int)] rfl rfl (cellW_one_new _ _ _ rfl) (one_oneW _) (by unfold maxLen; omega) (by omega) (by simp; omega) ?_; intro v1 w4 hown hgrow hnil; have S2 : Hid (Below B w w4 ∧ KT w w4 ∧ OwnW B w4 v1 (bs ++ [x])) := ⟨(HS.out.2.1.alloc hBs _).grown hgrow (by simp; omega) (fun q hq => (own_lt HS.out.2.2.1.2 hq).1), (HS.out.2.2.2.trans (KT.alloc _ _)).trans (KT.grown (HS.out.2.2.1.below (below_alloc w1 (.cells #[.int .u64 (x : Int)] 33))).2 (by simpa using hgrow)), by have := hgrow.size; simp at this; omega, by rw [wdV_snoc, List.length_append, HL.out]; exact hown⟩; clear hown hgrow hnil; obtain ⟨ad1, cap1, rfl, hs1⟩ := OwnW.slice S2.out.2.2; obtain ⟨g, rfl⟩ := hs1 L x (by rw [← HL.out]; simp); rw [hlen1] at S2 ⊢; clear hs1)
      go_loopg [7, 8] L (fun gk s7 s8 wr => ∃ (i : Nat) (A C : List Nat), s7 = .int .i64 (i : Int) ∧ (∃ u, u = s8) ∧ i ≤ gk ∧ i ≤ L ∧ Hid (A.length = i ∧ A ++ C = bs ∧ (∀ y ∈ C, x < y) ∧ Below B w wr ∧ OwnW B wr (.slice (some ⟨g, 0, none⟩) (L + 1) cap1) (A ++ x :: C) ∧ KT w wr))
      case atStart => exact ⟨L, bs, [], by go_num, ⟨_, rfl⟩, Nat.le_refl _, Nat.le_refl _, HL.out, by simp, fun y hy => by simp at hy, S2.out.1, S2.out.2.2, S2.out.2.1⟩
      case round =>
        clear S2 hlen1
        obtain ⟨i, A, C, rfl, ⟨u8, rfl⟩, hig, hiL, HI⟩ := hrel
        have hlen : Hid ((A ++ x :: C).length = L + 1) := by
          show _ = _
          have h1 := congrArg List.length HI.out.2.1
          rw [List.length_append, HL.out] at h1
          rw [List.length_append, List.length_cons]; omega
        -- the end
        have HEND : Hid ((∀ y ∈ A, y < x) → ∀ q, ∃ v' ys, (Value.slice (some ⟨g, 0, none⟩) (L + 1) cap1) = v' ∧ OwnW B (wr.drewN q) v' ys ∧ AscN ys ∧ (∀ y, y ∈ ys ↔ y ∈ bs ∨ y = x) ∧ ys.length ≤ L + 1 ∧ Below B w (wr.drewN q) ∧ KT w (wr.drewN q)) := fun hA q => by
          refine ⟨_, A ++ x :: C, rfl, HI.out.2.2.2.2.1.drewN q, ?_, fun y => ?_, Nat.le_of_eq hlen.out, below_drewN HI.out.2.2.2.1 q, HI.out.2.2.2.2.2.drewN q⟩
          · have hasc := HA.out
            unfold AscN at hasc ⊢
            rw [← HI.out.2.1, List.pairwise_append] at hasc
            rw [List.pairwise_append]
            refine ⟨hasc.1, List.pairwise_cons.2 ⟨HI.out.2.2.1, hasc.2.1⟩, fun a ha b hb => ?_⟩
            rcases List.mem_cons.1 hb with rfl | hb
            · exact hA a ha
            · exact hasc.2.2 a ha b hb
          · rw [← HI.out.2.1]; simp only [List.mem_append, List.mem_cons]
            constructor
            · rintro (h | h | h)
              · exact .inl (.inl h)
              · exact .inr h
              · exact .inl (.inr h)
            · rintro ((h | h) | h)
              · exact .inl h
              · exact .inr (.inr h)
              · exact .inr (.inl h)
        rcases Nat.eq_zero_or_pos i with rfl | hip
        · have hA0 : A = [] := List.length_eq_zero_iff.1 HI.out.1
          have HE := Lib.hid (HEND.out (by rw [hA0]; intro y hy; simp at hy))
          clear HEND
          go_wp2_with fail
          go_quiet (fail)
          go_wp2_with fail
          go_ret
          obtain ⟨v', ys, h1, h2⟩ := HE.out _
          exact ⟨v', ys, by rw [h1]; rfl, h2⟩
        · obtain ⟨j, rfl⟩ : ∃ j, i = j + 1 := ⟨i - 1, by omega⟩
          obtain ⟨A', a, rfl⟩ : ∃ A' a, A = A' ++ [a] := by
            rcases List.eq_nil_or_concat A with h | ⟨A', a, h⟩
            · rw [h] at HI; have := HI.out.1; simp at this
            · exact ⟨A', a, by simpa using h⟩
          have hAj : A'.length = j := by have := HI.out.1; rw [List.length_append] at this; simpa using this
          have g1 : ((A' ++ [a]) ++ x :: C)[j]? = some a := by rw [← hAj]; simp
          have g2 : ((A' ++ [a]) ++ x :: C)[j + 1]? = some x := by rw [← hAj]; simp
          have e1 := HI.out.2.2.2.2.1.cell g1 hlen.out.symm
          have e2 := HI.out.2.2.2.2.1.cell g2 hlen.out.symm
          have hab : a ∈ bs := by rw [← HI.out.2.1]; simp
          have hax : a ≠ x := fun h => HNM.out (h ▸ hab)
          have hal := hb a hab
          have hj1 : ((j + 1 : Nat) : Int) = (j : Int) + 1 := by omega
          have q0 : (0 : Int) < (j : Int) + 1 := by omega
          have q1 : (0 : Int) ≤ (j : Int) := by omega
          have q2 : (j : Int) < ((L + 1 : Nat) : Int) := by omega
          have q3 : (0 : Int) ≤ (j : Int) + 1 := by omega
          have q4 : (j : Int) + 1 < ((L + 1 : Nat) : Int) := by omega
          have q5 : IntKind.i64.wrap (j : Int) = (j : Int) := IntWalk.i64_in _ (by constructor <;> omega)
          rw [hj1]
          clear g1 g2 hab
          by_cases hlt2 : x < a
          · have c1 : decide ((a : Int) > (x : Int)) = true := decide_eq_true (by omega)
            have c2 : (x : Int) < (a : Int) := by omega
            have FZ : Hid (∀ k, wr.frozen? ⟨g, k, none⟩ = false) := fun k => HI.out.2.2.2.2.1.free k
            have z1 := FZ.out (j + 1)
            have S1 := HI.out.2.2.2.2.1.set hlen.out.symm (j + 1) a
            have hlen2 : L + 1 = (((A' ++ [a]) ++ x :: C).set (j + 1) a).length := by rw [List.length_set]; exact hlen.out.symm
            have S2 := S1.set hlen2 j x
            have z2 : ∀ q, ((wr.drewN q).setCell ⟨g, j + 1, none⟩ (.int .u64 (a : Int))).frozen? ⟨g, j, none⟩ = false := fun q => S1.free j
            have e3 : (((A' ++ [a]) ++ x :: C).set (j + 1) a).set j x = A' ++ x :: (a :: C) := by
              rw [← hAj]; simp
            have e4 : A' ++ (a :: C) = bs := by rw [← HI.out.2.1]; simp
            have hgb := HI.out.2.2.2.2.1.base
            have HN : Hid (∀ q, A'.length = j ∧ A' ++ (a :: C) = bs ∧ (∀ y ∈ a :: C, x < y) ∧ Below B w (((wr.drewN q).setCell ⟨g, j + 1, none⟩ (.int .u64 (a : Int))).setCell ⟨g, j, none⟩ (.int .u64 (x : Int))) ∧ OwnW B (((wr.drewN q).setCell ⟨g, j + 1, none⟩ (.int .u64 (a : Int))).setCell ⟨g, j, none⟩ (.int .u64 (x : Int))) (.slice (some ⟨g, 0, none⟩) (L + 1) cap1) (A' ++ x :: (a :: C)) ∧ KT w (((wr.drewN q).setCell ⟨g, j + 1, none⟩ (.int .u64 (a : Int))).setCell ⟨g, j, none⟩ (.int .u64 (x : Int)))) := fun q =>
              ⟨hAj, e4, fun y hy => (List.mem_cons.1 hy).elim (fun h => by rw [h]; exact hlt2) (HI.out.2.2.1 y), (((below_drewN HI.out.2.2.2.1 q).setCell hgb _).setCell hgb _), by rw [← e3]; exact S2, ((HI.out.2.2.2.2.2.trans (KT.set HI.out.2.2.2.2.1 (j + 1) _)).trans (KT.set S1 j _))⟩
            clear S1 S2 e3 e4 HEND hlen2
            go_wp2_with fail
            go_quiet (fail)
            go_wp2_with fail
            go_roundg j
            case measure => omega
            case rel => exact ⟨j, A', a :: C, by go_num, ⟨_, rfl⟩, Nat.le_refl _, by omega, HN.out _⟩
          · have c1 : decide ((a : Int) > (x : Int)) = false := decide_eq_false (by omega)
            have c2 : ¬ (x : Int) < (a : Int) := by omega
            have HE := Lib.hid (HEND.out (by
              intro y hy
              rcases List.mem_append.1 hy with h | h
              · have hasc := HA.out
                unfold AscN at hasc
                rw [← HI.out.2.1, List.append_assoc, List.pairwise_append] at hasc
                have := hasc.2.2 y h a (by simp)
                omega
              · simp at h; omega))
            clear HEND
            go_wp2_with fail
            go_quiet (fail)
            go_wp2_with fail
            go_ret
            obtain ⟨v', ys, h1, h2⟩ := HE.out _
            exact ⟨v', ys, by rw [h1]; rfl, h2⟩
end Go.Proofs.Ytegponbmelgngaa
end

section
namespace Go.Proofs.Ytegponbmelgngaa
open Go.RowKit
set_option linter.unusedSimpArgs false
set_option linter.unusedVariables false
set_option maxHeartbeats 1500000
set_option maxRecDepth 100000

theorem rmask_any (n : Int) (hn : I64 n) (w : World) :
    Calls Try.prog 143 #[.int .i64 n] w fun e w' => e = .returned (.int .u32 (M.maskN (M.lowN n 32) : Nat)) ∧ w = w' := by
  have hl := M.lowN_le n 32
  go_enter Try.func143, Try.ntmps143
  go_wp2_with (go_at_call 110; refine (low_any _ 32 (by omega) (by omega) _).mono ?_; rintro e w' ⟨rfl, rfl⟩)
  go_loop [3, 7] (fun y i => ∃ k : Nat, k ≤ M.lowN n 32 ∧ i = .int .i64 k ∧ y = .int .u32 (M.maskN k : Nat)) (fun _ i => 32 - (intOf i).toNat)
  case atStart => exact ⟨0, Nat.zero_le _, rfl, rfl⟩
  case round =>
    obtain ⟨k, hk, rfl, rfl⟩ := hrel
    by_cases hlt : k < M.lowN n 32
    · go_wp2
      go_round
      case rel => exact ⟨k + 1, by omega, by go_num, val_i (or_mask k (by omega))⟩
      case measure => simp [intOf]; omega
    · have he : k = M.lowN n 32 := by omega
      go_wp2
      go_ret
      exact ⟨rfl, rfl⟩
theorem rlast_any (a : Nat) (ha : a < 4294967296) (n : Int) (hn : I64 n) (w : World) :
    Calls Try.prog 122 #[.agg #[.int .u32 a, .int .i64 n]] w fun e w' => e = .returned (.int .u32 (lastN a n : Nat)) ∧ Below w.heap.size w w' := by
  have hm := M.maskN_lt (M.lowN n 32)
  have hw : IntKind.u32.wrap (4294967295 - (M.maskN (M.lowN n 32) : Int)) = 4294967295 - (M.maskN (M.lowN n 32) : Int) := IntWalk.u32_in _ (by constructor <;> omega)
  go_enter Try.func122, Try.ntmps122
  go_wp2_with fail
  go_quiet ((go_at_call 143; exact Calls.quiet_of_same ((rmask_any _ (by omega) _).mono fun _ _ h => ⟨h.1, h.2.symm⟩)))
  go_wp2
  go_ret
  exact ⟨ret_i (by rw [or_last a ha _ hm]; rfl), below_drewN (below_alloc _ _) _⟩
/-- the addresses at which blocks begin or have ended -/
def BdP (l : List En) (ys : List Nat) : Prop := ∀ y, y ∈ ys ↔ y = 0 ∨ (y < 4294967296 ∧ AG.isB (l.map toBe) y)
theorem isB_snoc {t : List AG.Be} {e : AG.Be} {y : Nat} : AG.isB (t ++ [e]) y ↔ AG.isB t y ∨ y = e.1.1 ∨ y = e.1.1 + 2 ^ e.1.2 := by
  unfold AG.isB
  constructor
  · rintro ⟨x, hx, h⟩
    rcases List.mem_append.1 hx with hx | hx
    · exact .inl ⟨x, hx, h⟩
    · rw [List.mem_singleton.1 hx] at h; exact .inr h
  · rintro (⟨x, hx, h⟩ | h)
    · exact ⟨x, List.mem_append_left _ hx, h⟩
    · exact ⟨e, by simp, h⟩
theorem BdP.step {l : List En} {k : Nat} {e : En} {ys zs us : List Nat} (h : BdP (l.take k) ys) (he : l[k]? = some e) (ha : e.1.1 < 4294967296) (h1 : ∀ y, y ∈ zs ↔ y ∈ ys ∨ y = e.1.1) (h2 : ∀ y, y ∈ us ↔ y ∈ zs ∨ (y < 4294967296 ∧ y = e.1.1 + 2 ^ (blk e.1).2)) : BdP (l.take (k + 1)) us := fun y => by
  rw [h2, h1, h y, take_snocN he, List.map_append, List.map_singleton, isB_snoc]
  have e1 : (toBe e).1.1 = e.1.1 := rfl
  have e2 : (toBe e).1.2 = (blk e.1).2 := rfl
  rw [e1, e2]
  constructor
  · rintro (((h | h) | h) | h)
    · exact .inl h
    · exact .inr ⟨h.1, .inl h.2⟩
    · exact .inr ⟨by omega, .inr (.inl h)⟩
    · exact .inr ⟨h.1, .inr (.inr h.2)⟩
  · rintro (h | ⟨h0, h | h | h⟩)
    · exact .inl (.inl (.inl h))
    · exact .inl (.inl (.inr ⟨h0, h⟩))
    · exact .inl (.inr h)
    · exact .inr ⟨h0, h⟩
theorem rbounds_any (l : List En) (v : Value) (w : World) (hlen : l.length ≤ 1000) (hv : ∀ e ∈ l, V e.1 = true) (hr : RdE w v l) (hf : FitE l) :
    Calls Try.prog 90 #[v] w fun e w' => ∃ v' ys, e = .returned v' ∧ OwnW w.heap.size w' v' ys ∧ AscN ys ∧ BdP l ys ∧ ys.length ≤ 2 * l.length + 1 ∧ Below w.heap.size w w' := by
  obtain ⟨ad, cap, rfl, hc⟩ := hr
  have HR := Lib.hid hc
  have HF := Lib.hid hf
  have HV := Lib.hid hv
  obtain ⟨L, hL⟩ : ∃ L, l.length = L := ⟨_, rfl⟩
  rw [hL] at hlen ⊢
  have HL := Lib.hid hL
  have HB0 : Hid (Below w.heap.size w (w.alloc (.cells #[.int .u64 0] 33)) ∧ OwnW w.heap.size (w.alloc (.cells #[.int .u64 0] 33)) (.slice (some ⟨w.heap.size, 0, none⟩) 1 1) [0]) :=
    ⟨below_alloc _ _, by simp, rfl, .inr ⟨w.heap.size, 1, #[.int .u64 0], rfl, Nat.le_refl _, heap_alloc_new _ _, Nat.le_refl _, by decide, rfl, rfl⟩⟩
  clear hc hf hv hL
  go_enter Try.func90, Try.ntmps90
  go_wp2_with fail
  go_loopg [3, 5, 6, 10] L (fun g s3 s5 s6 s10 wr => ∃ (k : Nat) (v : Value) (ys : List Nat), v = s3 ∧ (∃ u, u = s5) ∧ (∃ u, u = s6) ∧ s10 = .int .i64 (k : Int) ∧ k ≤ L ∧ L - k ≤ g ∧ ys.length ≤ 2 * k + 1 ∧ Hid (OwnW w.heap.size wr v ys ∧ AscN ys ∧ BdP (l.take k) ys ∧ Below w.heap.size w wr))
  case atStart => exact ⟨0, _, [0], rfl, ⟨_, rfl⟩, ⟨_, rfl⟩, rfl, by omega, by omega, by simp, HB0.out.2, List.pairwise_singleton _ _, fun y => by simp [AG.isB], HB0.out.1⟩
  case round =>
    clear HB0
    obtain ⟨k, v, ys, rfl, ⟨u5, rfl⟩, ⟨u6, rfl⟩, rfl, hk, hg, hyl, HS⟩ := hrel
    by_cases hlt : k < L
    · obtain ⟨e, he⟩ : ∃ x, l[k]? = some x := ⟨_, List.getElem?_eq_getElem (by have := HL.out; omega)⟩
      obtain ⟨b, off, rfl, hbl, c0, c1, c2⟩ := HR.out k e he
      have d0 := carryE HS.out.2.2.2 hbl c0
      have d1 := carryE HS.out.2.2.2 hbl c1
      have d2 := carryE HS.out.2.2.2 hbl c2
      have hem := List.mem_of_getElem? he
      have hfe := HF.out e hem
      have hve := HV.out e hem
      have htop := blk_top hfe.1 hve
      have hpp := CM.pow_pos' (blk e.1).2
      have hlq : lastN e.1.1 e.1.2 + 1 = e.1.1 + 2 ^ (blk e.1).2 := by
        have := last_eq hve
        have e2 : (blk e.1).2 = 32 - e.1.2.toNat := rfl
        rw [e2] at hpp ⊢
        omega
      have hb1 : (blk e.1).1 = e.1.1 := rfl
      rw [hb1] at htop
      have HLA : Hid (∀ W, Calls Try.prog 122 #[.agg #[.int .u32 (e.1.1 : Int), .int .i64 e.1.2]] W fun en w' => en = .returned (.int .u32 (lastN e.1.1 e.1.2 : Nat)) ∧ Below W.heap.size W w') := fun W => rlast_any e.1.1 hfe.1 e.1.2 hfe.2.1 W
      have HST : Hid (∀ zs us, (∀ y, y ∈ zs ↔ y ∈ ys ∨ y = e.1.1) → (∀ y, y ∈ us ↔ y ∈ zs ∨ (y < 4294967296 ∧ y = e.1.1 + 2 ^ (blk e.1).2)) → BdP (l.take (k + 1)) us) := fun zs us h1 h2 => HS.out.2.2.1.step he hfe.1 h1 h2
      obtain ⟨Q, hQ⟩ : ∃ Q, Q = 2 ^ (blk e.1).2 := ⟨_, rfl⟩
      rw [← hQ] at htop hlq HST hpp
      obtain ⟨Z, hZ⟩ : ∃ Z, Z = lastN e.1.1 e.1.2 := ⟨_, rfl⟩
      rw [← hZ] at hlq HLA
      have hysm : ∀ y ∈ ys, y < 18446744073709551616 := fun y hy => by
        rcases (HS.out.2.2.1 y).1 hy with h | h <;> omega
      obtain ⟨⟨x, n⟩, val⟩ := e
      dsimp only at d0 d1 d2 htop hlq HLA HST hfe hpp
      have hx := hfe.1
      have HWA : Hid (Below wr.heap.size wr (wr.alloc (.cells #[.int .u32 (x : Int), .int .i64 n, .int .i64 val] 51)) ∧ (wr.alloc (.cells #[.int .u32 (x : Int), .int .i64 n, .int .i64 val] 51)).heap[wr.heap.size]? = some (.cells #[.int .u32 (x : Int), .int .i64 n, .int .i64 val] 51 (0, 0))) := ⟨below_alloc _ _, heap_alloc_new _ _⟩
      have HBD := Lib.hid (rbound_any w.heap.size ys x v (wr.alloc (.cells #[.int .u32 (x : Int), .int .i64 n, .int .i64 val] 51)) (by omega) HS.out.2.1 hysm (by omega) (HS.out.1.below HWA.out.1))
      have HYM := Lib.hid hysm
      have wx : IntKind.u64.wrap (x : Int) = (x : Int) := IntWalk.u64_in _ (by constructor <;> omega)
      have wz : IntKind.u64.wrap (Z : Int) = (Z : Int) := IntWalk.u64_in _ (by constructor <;> omega)
      obtain ⟨T, hT⟩ : ∃ T, T = x + Q := ⟨_, rfl⟩
      have wz1 : IntKind.u64.wrap ((Z : Int) + 1) = (T : Int) := (IntWalk.u64_in _ (by constructor <;> omega)).trans (by omega)
      rw [← hT] at HST htop
      have HBW := Lib.hid (below_then HS.out.2.2.2 (below_alloc wr (.cells #[.int .u32 (x : Int), .int .i64 n, .int .i64 val] 51)))
      have HTT := Lib.hid htop
      clear c0 c1 c2 he hbl hem hve hfe hQ hZ hysm hb1 hpp htop hlq hT
      go_wp2_with fail
      go_at_call 121
      refine HBD.out.mono ?_
      rintro en w2 ⟨v2, zs, rfl, ho2, ha2, hm2, hl2, hb2, hk2⟩
      have hrow2 := hk2 _ _ _ _ (by decide) HWA.out.2
      have e0 : w2.cell? ⟨wr.heap.size, 0, none⟩ = some (.int .u32 (x : Int)) := cellO hrow2 rfl
      have e1 : w2.cell? ⟨wr.heap.size, 1, none⟩ = some (.int .i64 n) := cellO hrow2 rfl
      have H2 : Hid (OwnW w.heap.size w2 v2 zs ∧ AscN zs ∧ (∀ y, y ∈ zs ↔ y ∈ ys ∨ y = x) ∧ Below w.heap.size w w2 ∧ zs.length ≤ ys.length + 1) := ⟨ho2, ha2, hm2, HBW.out.trans hb2, hl2⟩
      clear ho2 ha2 hm2 hb2 hk2 hrow2 hl2 HBD d0 d1 d2
      by_cases hz : T < 4294967296
      · have z1 : (T : Int) < 4294967296 := by omega
        have z2 : decide ((T : Int) < 4294967296) = true := decide_eq_true z1
        have HBE : Hid (∀ W, OwnW w.heap.size W v2 zs → Calls Try.prog 121 #[v2, .int .u64 (T : Int)] W fun e w' => ∃ v' us, e = .returned v' ∧ OwnW w.heap.size w' v' us ∧ AscN us ∧ (∀ y, y ∈ us ↔ y ∈ zs ∨ y = T) ∧ us.length ≤ zs.length + 1 ∧ Below w.heap.size W w' ∧ KT W w') := fun W hW =>
          rbound_any w.heap.size zs T v2 W (by have := H2.out.2.2.2.2; omega) H2.out.2.1 (fun y hy => by
            rcases (H2.out.2.2.1 y).1 hy with h | h
            · exact HYM.out y h
            · omega) (by omega) hW
        have HFIN : Hid (∀ us, (∀ y, y ∈ us ↔ y ∈ zs ∨ y = T) → BdP (l.take (k + 1)) us) := fun us h => HST.out zs us H2.out.2.2.1 (fun y => by rw [h y]; exact or_congr Iff.rfl ⟨fun g => ⟨by omega, g⟩, fun g => g.2⟩)
        clear hz HST
        go_wp2_with (go_at_call 122; refine (HLA.out _).mono ?_; rintro en w3 ⟨rfl, hb⟩; have H3 : Hid (OwnW w.heap.size w3 v2 zs ∧ Below w.heap.size w w3) := ⟨H2.out.1.below hb, H2.out.2.2.2.1.trans ⟨hb.os, hb.tape, hb.output, hb.size, fun j hj => hb.block j (by have := H2.out.1.1; omega)⟩⟩; clear hb)
        go_at_call 121
        refine (HBE.out _ H3.out.1).mono ?_
        rintro en w4 ⟨v4, us, rfl, ho4, ha4, hm4, hl4, hb4, -⟩
        have H4 : Hid (OwnW w.heap.size w4 v4 us ∧ AscN us ∧ BdP (l.take (k + 1)) us ∧ Below w.heap.size w w4) := ⟨ho4, ha4, HFIN.out us hm4, H3.out.2.trans hb4⟩
        have hll := H2.out.2.2.2.2
        clear ho4 ha4 hm4 hb4 HFIN HBE
        go_wp2_with fail
        go_roundg (L - (k + 1))
        case measure => omega
        case rel => exact ⟨k + 1, v4, us, rfl, ⟨_, rfl⟩, ⟨_, rfl⟩, by go_num, by omega, Nat.le_refl _, by omega, H4⟩
      · have z1 : ¬ (T : Int) < 4294967296 := by omega
        have z2 : decide ((T : Int) < 4294967296) = false := decide_eq_false z1
        have HFIN : Hid (BdP (l.take (k + 1)) zs) := HST.out zs zs H2.out.2.2.1 (fun y => ⟨.inl, fun h => h.elim id (fun g => absurd g.1 (by rw [g.2]; exact hz))⟩)
        have hll := H2.out.2.2.2.2
        clear hz HST
        go_wp2_with (go_at_call 122; refine (HLA.out _).mono ?_; rintro en w3 ⟨rfl, hb⟩; have H3 : Hid (OwnW w.heap.size w3 v2 zs ∧ Below w.heap.size w w3) := ⟨H2.out.1.below hb, H2.out.2.2.2.1.trans ⟨hb.os, hb.tape, hb.output, hb.size, fun j hj => hb.block j (by have := H2.out.1.1; omega)⟩⟩; clear hb)
        go_roundg (L - (k + 1))
        case measure => omega
        case rel => exact ⟨k + 1, v2, zs, rfl, ⟨_, rfl⟩, ⟨_, rfl⟩, by go_num, by omega, Nat.le_refl _, by omega, H3.out.1, H2.out.2.1, HFIN.out, H3.out.2⟩
    · have k1 : decide ((k : Int) < (L : Int)) = false := decide_eq_false (by omega)
      have HBL : Hid (BdP l ys) := by
        have h1 := HS.out.2.2.1
        rwa [List.take_of_length_le (by have := HL.out; omega)] at h1
      go_wp2
      go_ret
      exact ⟨v, ys, rfl, HS.out.1, HS.out.2.1, HBL.out, by omega, HS.out.2.2.2⟩
end Go.Proofs.Ytegponbmelgngaa
end

section
namespace Go.Proofs.Ytegponbmelgngaa
open Go.RowKit
set_option linter.unusedSimpArgs false
set_option linter.unusedVariables false
set_option maxHeartbeats 1500000
set_option maxRecDepth 100000

theorem rdE_cells {w : World} {A : Addr} {n cap : Nat} {l : List En} (h : RdE w (.slice (some A) n cap) l) : n = l.length ∧ ∀ j u, (flatE l)[j]? = some u → w.cell? (A.add j) = some u := by
  obtain ⟨ad, c, e, hc⟩ := h
  cases e
  refine ⟨rfl, fun j u hj => ?_⟩
  have hlt := (List.getElem?_eq_some_iff.1 hj).1
  rw [flatE_len] at hlt
  obtain ⟨k, r, hr, rfl⟩ : ∃ k r, r < 3 ∧ j = k * 3 + r := ⟨j / 3, j % 3, by omega, by omega⟩
  obtain ⟨x, hx⟩ : ∃ x, l[k]? = some x := ⟨_, List.getElem?_eq_getElem (by omega)⟩
  obtain ⟨b, off, h, _, h0, h1, h2⟩ := hc k x hx
  obtain rfl := Option.some.inj h
  obtain ⟨g0, g1, g2⟩ := flatE_get l k x hx
  rw [Addr.add_lit]
  rcases (by omega : r = 0 ∨ r = 1 ∨ r = 2) with rfl | rfl | rfl
  · rw [Nat.add_zero] at hj ⊢
    rw [g0] at hj; cases hj; exact h0
  · rw [g1] at hj; cases hj; rw [← Nat.add_assoc]; exact h1
  · rw [g2] at hj; cases hj; rw [← Nat.add_assoc]; exact h2
theorem flatE_one (l : List En) : ∀ u ∈ flatE l, u.oneCell' = true := fun u hu => by
  unfold flatE at hu
  obtain ⟨x, _, hx⟩ := List.mem_flatMap.1 hu
  unfold encE at hx
  simp at hx
  rcases hx with rfl | rfl | rfl <;> rfl
/-- a nil slice of entries has no capacity -/
def NilE (v : Value) : Prop := ∀ n c, v = .slice none n c → c = 0
theorem append_rdE {w : World} {ops : Array Oper} {rest : List Oper} {o : Oper} {a : Act} {Q : Exit → Act → World → Prop} (hgd : o.guard = none) (s x : Operand)
    (ho : o.op = .call { callee := .builtin .append, args := #[s, x], argTypes := #[56, 56] }) (B : Nat) (hB : B ≤ w.heap.size)
    (v : Value) (l : List En) (hs : a.eval s = v) (hown : w.ownsRow B 51 3 v l.length (flatE l)) (vx : Value) (m : List En) (hx : a.eval x = vx) (hr : RdE w vx m) (hn : NilE vx) (hlen : l.length + m.length ≤ 8000)
    (h : ∀ v' w', w'.ownsRow B 51 3 v' (l ++ m).length (flatE (l ++ m)) → Below B w w' → wpList Try.prog ops Q rest (a.put o.dst v') w') : wpList Try.prog ops Q (o :: rest) a w := by
  obtain ⟨i0, hi, hz0, hz1, hz2⟩ := info_parts info51
  obtain ⟨ad, cap, e, hc⟩ := id hr
  subst e
  cases ad with
  | none =>
    have h0 : m = [] := by
      cases m with
      | nil => rfl
      | cons y r => obtain ⟨b, off, e, _⟩ := hc 0 y rfl; cases e
    subst h0
    have hcap : cap = 0 := hn _ _ rfl
    subst hcap
    refine wpList_append_own_none hgd s x 56 ho B 51 i0 3 Try.underlying56 hi v l.length (flatE l) hs hown hx (h v w ?_ (Below.refl _ _))
    rw [List.append_nil]; exact hown
  | some A =>
    have hcs := (rdE_cells hr).2
    refine wpList_append_own _ hgd s x 56 ho B 51 i0 (.agg #[.int .u32 0, .int .i64 0, .int .i64 0]) 3 24 Try.underlying56 hi hz0 hz1 hz2 rfl (by decide) v l.length (flatE l) hs hown A m.length cap (flatE m) hx (flatE_len m) hcs (flatE_one m) (by unfold maxLen; omega) (by omega) hB fun v' w' h1 h2 _ => h v' w' ?_ ?_
    · rw [flatE_app, List.length_append]; exact h1
    · exact (Below.refl _ w).grown h2 hB (fun k hk => (own_lt hown hk).1)
/-- what Differ answers: the first address at which two tables differ -/
def DifP (a b : List En) (d : Nat) (f : Bool) : Prop :=
  if ckE a = 0 ∧ ckE b = 0 then d < 4294967296 ∧ (∀ y, y < 4294967296 → (f = true → y < d) → lkE y (-1) a = lkE y (-1) b) ∧ (f = true → lkE d (-1) a ≠ lkE d (-1) b) ∧ (f = false → d = 0)
  else d = 0 ∧ f = false
theorem DifP.unique {a b : List En} {d d' : Nat} {f f' : Bool} (h : DifP a b d f) (g : DifP a b d' f') : d = d' ∧ f = f' := by
  unfold DifP at h g
  split at h
  · rename_i hc
    rw [if_pos hc] at g
    obtain ⟨h0, h1, h2, h3⟩ := h
    obtain ⟨g0, g1, g2, g3⟩ := g
    cases f <;> cases f'
    · exact ⟨(h3 rfl).trans (g3 rfl).symm, rfl⟩
    · exact absurd (h1 d' g0 (fun e => by cases e)) (g2 rfl)
    · exact absurd (g1 d h0 (fun e => by cases e)) (h2 rfl)
    · refine ⟨?_, rfl⟩
      rcases Nat.lt_trichotomy d d' with e | e | e
      · exact absurd (g1 d h0 (fun _ => e)) (h2 rfl)
      · exact e
      · exact absurd (h1 d' g0 (fun _ => e)) (g2 rfl)
  · rename_i hc
    rw [if_neg hc] at g
    exact ⟨h.1.trans g.1.symm, h.2.trans g.2.symm⟩
theorem rdiffer_bad (a b : List En) (v1 v2 : Value) (w : World) (hr1 : RdE w v1 a) (hr2 : RdE w v2 b) (fa : FitE a) (fb : FitE b) (h : ¬ (ckE a = 0 ∧ ckE b = 0)) :
    Calls Try.prog 52 #[v1, v2] w fun e w' => ∃ (d : Nat) (f : Bool), e = .returned (.tuple #[.int .u32 (d : Int), .bool f]) ∧ DifP a b d f ∧ Below w.heap.size w w' := by
  have HC1 := Lib.hid (rcheck48_any a v1 w hr1 fa)
  have HC2 : Hid (∀ W, Below w.heap.size w W → Calls Try.prog 48 #[v2] W fun e w' => e = .returned (.int .i64 (ckE b)) ∧ Below W.heap.size W w') := fun W hW => rcheck48_any b v2 W (hr2.below hW) fb
  have HD : Hid (DifP a b 0 false) := by show DifP _ _ _ _; unfold DifP; rw [if_neg h]; exact ⟨rfl, rfl⟩
  generalize ckE a = p at *
  generalize ckE b = q at *
  clear hr1 hr2 fa fb
  by_cases hp : p = 0
  · have hq : q ≠ 0 := fun e => h ⟨hp, e⟩
    subst hp
    have h1 : (q == 0) = false := by simpa using hq
    have h2 : (q != 0) = true := by simpa using hq
    clear h hq
    go_enter Try.func52, Try.ntmps52
    go_wp2_with (first
      | (go_at_call 48; refine (HC2.out _ HB.out).mono ?_; rintro en w2 ⟨rfl, hb⟩; have HB2 := Lib.hid (below_then HB.out hb); clear hb)
      | (go_at_call 48; refine HC1.out.mono ?_; rintro en w1 ⟨rfl, hb⟩; have HB := Lib.hid hb; clear hb))
    go_ret2
    exact ⟨0, false, rfl, HD.out, HB2.out⟩
  · have h1 : (p == 0) = false := by simpa using hp
    have h2 : (p != 0) = true := by simpa using hp
    clear h hp HC2
    go_enter Try.func52, Try.ntmps52
    go_wp2_with (go_at_call 48; refine HC1.out.mono ?_; rintro en w1 ⟨rfl, hb⟩; have HB := Lib.hid hb; clear hb)
    go_ret2
    exact ⟨0, false, rfl, HD.out, HB.out⟩
end Go.Proofs.Ytegponbmelgngaa
end
