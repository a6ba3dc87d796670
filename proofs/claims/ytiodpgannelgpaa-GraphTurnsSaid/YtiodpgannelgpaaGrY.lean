/-
  The walk of Reach's closure: a visit.
-/
import Derived.Test.YtiodpgannelgpaaGrX
import Derived.Test.YtiodpgannelgpaaGrRM
namespace Go.Proofs.Ytiodpgannelgpaa
open Go.RowKit GM Go.Sort
set_option linter.unusedSimpArgs false
set_option linter.unusedVariables false
set_option maxHeartbeats 4000000
set_option maxRecDepth 100000

def bools (m : List Bool) : List Value := m.map Value.bool
theorem bools_len (m : List Bool) : (bools m).length = m.length := by simp [bools]
theorem bools_set (m : List Bool) (i : Nat) (b : Bool) : (bools m).toArray.setIfInBounds i (.bool b) = (bools (m.set i b)).toArray := by
  simp [bools, List.map_set]
theorem bools_get {m : List Bool} {i : Nat} (h : i < m.length) : (bools m).toArray[i]? = some (.bool (mkd m i)) := by
  simp [bools, mk_get h]
/-- Reach's closure with its variables -/
abbrev visV (c2 c5 c6 : Nat) : Value := .func (.func 71) #[] #[.pointer (some ⟨c5, 0, none⟩), .pointer (some ⟨c2, 0, none⟩), .pointer (some ⟨c6, 0, none⟩)]
/-- the memory in the midst of Reach -/
structure St (w0 : World) (R N : Int) (s : Value) (c2 c5 c6 B n : Nat) (m : List Bool) (w : World) : Prop where
  b : Below w0.heap.size w0 w
  g : w.heap[c2]? = some (.cells #[.int .i64 R, .int .i64 N, s] 24 (0, 0))
  r : w.heap[c5]? = some (.cells #[.slice (some ⟨B, 0, none⟩) n n] 45 (0, 0))
  v : w.heap[c6]? = some (.cells #[visV c2 c5 c6] 91 (0, 0))
  row : w.heap[B]? = some (.cells (bools m).toArray 4 (0, 0))
theorem St.below {w0 w w' : World} {R N : Int} {s : Value} {c2 c5 c6 B n : Nat} {m : List Bool} (h : St w0 R N s c2 c5 c6 B n m w) (hb : Below w.heap.size w w') : St w0 R N s c2 c5 c6 B n m w' :=
  ⟨below_then h.b hb, (hb.block _ (lt_block h.g)).trans h.g, (hb.block _ (lt_block h.r)).trans h.r, (hb.block _ (lt_block h.v)).trans h.v, (hb.block _ (lt_block h.row)).trans h.row⟩
theorem St.mark {w0 w : World} {R N : Int} {s : Value} {c2 c5 c6 B n : Nat} {m : List Bool} (h : St w0 R N s c2 c5 c6 B n m w) (hB : w0.heap.size ≤ B) (h2 : c2 ≠ B) (h5 : c5 ≠ B) (h6 : c6 ≠ B) (i : Nat) :
    St w0 R N s c2 c5 c6 B n (m.set i true) (w.setCell ⟨B, i, none⟩ (.bool true)) :=
  ⟨h.b.setCell hB _, (heap_set_ne h2).trans h.g, (heap_set_ne h5).trans h.r, (heap_set_ne h6).trans h.v, by rw [heap_set_eq h.row, bools_set]⟩
theorem St.drewN {w0 w : World} {R N : Int} {s : Value} {c2 c5 c6 B n : Nat} {m : List Bool} (h : St w0 R N s c2 c5 c6 B n m w) (k : Nat) : St w0 R N s c2 c5 c6 B n m (w.drewN k) := h.below (below_drewN (Below.refl _ _) k)

def VisC (w0 : World) (l : List E) (R N : Int) (s : Value) (c2 c5 c6 B n : Nat) (c : Nat) : Prop :=
  ∀ (m : List Bool), m.count false ≤ c → m.length = n → ∀ (x : Nat) (w : World), x < n → St w0 R N s c2 c5 c6 B n m w →
    Calls Try.prog 71 #[.int .i64 (x : Int), .pointer (some ⟨c5, 0, none⟩), .pointer (some ⟨c2, 0, none⟩), .pointer (some ⟨c6, 0, none⟩)] w fun e w' => e = .returned (.tuple #[]) ∧ ∃ m', Vis l x m m' ∧ St w0 R N s c2 c5 c6 B n m' w'
theorem visit_seen (w0 : World) (l : List E) (R N : Int) (s : Value) (c2 c5 c6 B n : Nat) (m : List Bool) (hm : m.length = n) (x : Nat) (w : World) (hx : x < n) (hn : n ≤ 128) (h : St w0 R N s c2 c5 c6 B n m w) (hv : mkd m x = true) :
    Calls Try.prog 71 #[.int .i64 (x : Int), .pointer (some ⟨c5, 0, none⟩), .pointer (some ⟨c2, 0, none⟩), .pointer (some ⟨c6, 0, none⟩)] w fun e w' => e = .returned (.tuple #[]) ∧ ∃ m', Vis l x m m' ∧ St w0 R N s c2 c5 c6 B n m' w' := by
  have r0 : w.cell? ⟨c5, 0, none⟩ = some (.slice (some ⟨B, 0, none⟩) n n) := cell_of h.r rfl
  have d0 : w.cell? ⟨B, x, none⟩ = some (.bool true) := cell_of h.row (by rw [bools_get (by omega), hv])
  have H : Hid (Vis l x m m ∧ St w0 R N s c2 c5 c6 B n m w) := ⟨Vis.stay hv, h⟩
  clear h hv hm
  go_enter Try.func71, Try.ntmps71
  go_wp2
  (try simp only [Exit.inBlock, Exit.then]); refine bodyPost_ret (results_none rfl _ _ _) rfl ?_
  exact ⟨rfl, m, H.out⟩
theorem visit_step (w0 : World) (l : List E) (R N : Int) (s : Value) (c2 c5 c6 B n c : Nat) (hrd : Rd3 w0 s l) (hL : l.length ≤ 1024) (ha : l.Pairwise (fun a b => bef a b = true)) (hin : Inside n l) (hn : n ≤ 128) (hB : w0.heap.size ≤ B) (h2 : c2 ≠ B) (h5 : c5 ≠ B) (h6 : c6 ≠ B)
    (ih : VisC w0 l R N s c2 c5 c6 B n c) (m : List Bool) (hcm : m.count false ≤ c + 1) (hm : m.length = n) (x : Nat) (w : World) (hx : x < n) (h : St w0 R N s c2 c5 c6 B n m w) (hv : mkd m x = false) :
    Calls Try.prog 71 #[.int .i64 (x : Int), .pointer (some ⟨c5, 0, none⟩), .pointer (some ⟨c2, 0, none⟩), .pointer (some ⟨c6, 0, none⟩)] w fun e w' => e = .returned (.tuple #[]) ∧ ∃ m', Vis l x m m' ∧ St w0 R N s c2 c5 c6 B n m' w' := by
  have HC0 : Hid ((m.set x true).count false ≤ c) := by show _ ≤ _; have := count_set (m := m) (x := x) (by omega) hv; omega
  have HXM : Hid (x < m.length) := by show _ < _; omega
  have HIH := Lib.hid ih
  have HA := Lib.hid ha
  have HI := Lib.hid hin
  have HST := Lib.hid (h.mark hB h2 h5 h6 x)
  have HFD : Hid (∀ W, St w0 R N s c2 c5 c6 B n (m.set x true) W → Calls Try.prog 72 #[s, .int .i64 (x : Int), .int .i64 0] W fun e w' => ∃ i : Nat, e = .returned (.tuple #[.int .i64 (i : Int), .bool (hit ((x : Int), 0, 0) l i)]) ∧ BsE ((x : Int), 0, 0) l i i ∧ Below W.heap.size W w') := fun W hW => find_any l s x 0 W (by omega) ha (hrd.below hW.b)
  obtain ⟨ad, cap, rfl, hcap1, hcap2, hc⟩ := hrd
  have HC := Lib.hid hc
  have r0 : w.cell? ⟨c5, 0, none⟩ = some (.slice (some ⟨B, 0, none⟩) n n) := cell_of h.r rfl
  have d0 : w.cell? ⟨B, x, none⟩ = some (.bool false) := cell_of h.row (by rw [bools_get (by omega), hv])
  have f0 : w.frozen? ⟨B, x, none⟩ = false := free_of h.row _
  have g2 : (w.setCell ⟨B, x, none⟩ (.bool true)).cell? ⟨c2, 2, none⟩ = some (.slice ad l.length cap) := cell_of HST.out.g rfl
  have HMN := Lib.hid hm
  have HNN := Lib.hid hn
  have HNE := Lib.hid (And.intro hB (And.intro h2 (And.intro h5 h6)))
  obtain ⟨L, hLL⟩ : ∃ L, l.length = L := ⟨_, rfl⟩
  rw [hLL] at hL hcap1 g2 HST HFD HIH ⊢
  have HLN := Lib.hid hLL
  clear hc ih ha hin h hv hcm hLL h2 h5 h6 hB hm
  go_enter Try.func71, Try.ntmps71
  go_wp2_with fail
  go_at_call 72
  refine (HFD.out _ HST.out).mono ?_
  rintro e w2 ⟨i, rfl, hbs, hb⟩
  have S2 := Lib.hid (HST.out.below hb)
  have HBS := Lib.hid hbs
  have hiL : i ≤ L := by have := hbs.2.1; have := HLN.out; omega
  have g2' : w2.cell? ⟨c2, 2, none⟩ = some (.slice ad L cap) := cell_of S2.out.g rfl
  clear hbs hb HFD g2 f0 d0 r0
  have HM0 : Hid (Mid l x (m.set x true) (m.set x true) i i) := Mid.start
  rcases (by omega : i = L ∨ i < L) with hiL' | hiL'
  · have HV : Hid (Vis l x m (m.set x true)) := HM0.out.finish HXM.out (fun k e hk hx => by
      have h1 := (List.getElem?_eq_some_iff.1 hk).1
      have h2 := HBS.out.2.2.1 k e hk (by have := HLN.out; omega)
      have h3 := (HI.out e (List.mem_of_getElem? hk)).2.1
      rw [bef_iff] at h2; dsimp only at h2; omega) (fun e he => (HI.out e he).1.1)
    subst hiL'
    by_cases hci : cap = i
    · subst hci
      go_wp2_with fail
      refine wp_loop_rounds 1 ?_
      rw [rounds_succ]
      go_wp2
      go_end0
      exact ⟨rfl, _, HV.out, S2.out⟩
    · go_wp2_with fail
      refine wp_loop_rounds 1 ?_
      rw [rounds_succ]
      go_wp2
      go_end0
      exact ⟨rfl, _, HV.out, S2.out⟩
  · obtain ⟨e0, he0⟩ : ∃ x, l[i]? = some x := ⟨_, List.getElem?_eq_getElem (by have := HLN.out; omega)⟩
    obtain ⟨b, off, rfl, hbl, _⟩ := HC.out i e0 he0
    have hci : ¬ cap = i := by omega
    clear he0 hiL
    go_wp2_with fail
    go_loopg [28, 8] (L - i) (fun g s28 s8 wr => ∃ (k : Nat) (m1 : List Bool), k ≤ L - i ∧ L - i - k ≤ g ∧ s28 = .int .i64 (k : Int) ∧ (∃ v, v = s8) ∧ Hid (St w0 R N (.slice (some ⟨b, off, none⟩) L cap) c2 c5 c6 B n m1 wr ∧ Mid l x (m.set x true) m1 i (i + k)))
    case atStart => exact ⟨0, _, by omega, by omega, rfl, ⟨_, rfl⟩, S2.out, HM0.out⟩
    case round =>
      clear S2 HM0 g2'
      obtain ⟨k, m1, hk, hkg, rfl, ⟨v8, rfl⟩, HS⟩ := hrel
      by_cases hlt : k < L - i
      · obtain ⟨e, he⟩ : ∃ x, l[i + k]? = some x := ⟨_, List.getElem?_eq_getElem (by have := HLN.out; omega)⟩
        obtain ⟨b', off', eb, _, c0, c1, c2'⟩ := HC.out (i + k) e he
        cases eb
        have d0 := carryB HS.out.1.b hbl c0
        have d1 := carryB HS.out.1.b hbl c1
        have d2 := carryB HS.out.1.b hbl c2'
        rw [show off + (i + k) * 3 = off + i * 3 + k * 3 by omega] at d0 d1 d2
        have hine := HI.out e (List.mem_of_getElem? he)
        have HE := Lib.hid he
        obtain ⟨a, y, z⟩ := e
        dsimp only at d0 d1 d2 hine
        obtain ⟨y, rfl⟩ := Int.eq_ofNat_of_zero_le hine.2.1
        have hyn : y < n := by have := hine.2.2; omega
        have v0 : wr.cell? ⟨c6, 0, none⟩ = some (visV c2 c5 c6) := cell_of HS.out.1.v rfl
        have k1 : (k : Int) < ((L - i : Nat) : Int) := by omega
        have n6 := World.new_ne wr _ v0
        have HIN := Lib.hid hine
        clear he c0 c1 c2' hine
        by_cases hax : a = (x : Int)
        · subst hax
          have v1 : (wr.alloc (.cells #[.int .i64 (x : Int), .int .i64 (y : Int), .int .i64 z] 52)).cell? ⟨c6, 0, none⟩ = some (.func (.func 71) #[] #[.pointer (some ⟨c5, 0, none⟩), .pointer (some ⟨c2, 0, none⟩), .pointer (some ⟨c6, 0, none⟩)]) := Lib.cell?_alloc_some _ v0
          clear v0
          go_wp2_with fail
          go_at_call 71
          refine (HIH.out m1 (Nat.le_trans (count_sub HS.out.2.len HS.out.2.sub) HC0.out) (by rw [HS.out.2.len, List.length_set]; exact HMN.out) y _ hyn (HS.out.1.below (below_alloc _ _))).mono ?_
          rintro e w3 ⟨rfl, m2, hvis, hst⟩
          have HS3 : Hid (St w0 R N (.slice (some ⟨b, off, none⟩) L cap) c2 c5 c6 B n m2 w3 ∧ Mid l x (m.set x true) m2 i (i + k + 1)) := ⟨hst, HS.out.2.next HI.out HE.out rfl (by simpa using hvis)⟩
          clear hvis hst d0 d1 d2 v1
          go_wp2_with fail
          go_roundg (L - i - (k + 1))
          case measure => omega
          case rel => exact ⟨k + 1, m2, by omega, Nat.le_refl _, by go_num, ⟨_, rfl⟩, HS3.out⟩
        · have HV : Hid (Vis l x m m1) := HS.out.2.finish HXM.out (fun q f hq hf => by
            have h2 := HBS.out.2.2.2 i
            refine ⟨?_, ?_⟩
            · rcases Nat.lt_or_ge q i with h | h
              · have h4 := HBS.out.2.2.1 q f hq h
                have h3 := (HI.out f (List.mem_of_getElem? hq)).2.1
                rw [bef_iff] at h4; dsimp only at h4; omega
              · exact h
            · rcases Nat.lt_or_ge q (i + k) with h | h
              · exact h
              · exfalso
                have h5 := HBS.out.2.2.2 (i + k) _ HE.out (by omega)
                have h6 : ¬ bef (a, (y : Int), z) ((x : Int), 0, 0) = true := by rw [h5]; simp
                rw [bef_iff] at h6
                dsimp only at h6
                rcases (by omega : i + k = q ∨ i + k < q) with h7 | h7
                · subst h7
                  rw [HE.out] at hq; cases hq
                  exact hax hf
                · obtain ⟨q1, q2⟩ := List.getElem?_eq_some_iff.1 hq
                  obtain ⟨p1, p2⟩ := List.getElem?_eq_some_iff.1 HE.out
                  have h8 := List.pairwise_iff_getElem.1 HA.out (i + k) q p1 q1 h7
                  rw [p2, q2, bef_iff] at h8
                  dsimp only at h8
                  omega) (fun e he => (HI.out e he).1.1)
          have hax1 : (a == (x : Int)) = false := by simpa using hax
          have hax2 : (a != (x : Int)) = true := by simpa using hax
          clear hax
          go_wp2
          go_end0
          exact ⟨rfl, _, HV.out, HS.out.1.below (below_alloc _ _)⟩
      · have HV : Hid (Vis l x m m1) := HS.out.2.finish HXM.out (fun q f hq hf => by
          refine ⟨?_, ?_⟩
          · rcases Nat.lt_or_ge q i with h | h
            · have h4 := HBS.out.2.2.1 q f hq h
              have h3 := (HI.out f (List.mem_of_getElem? hq)).2.1
              rw [bef_iff] at h4; dsimp only at h4; omega
            · exact h
          · have := (List.getElem?_eq_some_iff.1 hq).1; have := HLN.out; omega) (fun e he => (HI.out e he).1.1)
        have k1 : decide ((k : Int) < ((L - i : Nat) : Int)) = false := decide_eq_false (by omega)
        go_wp2
        go_end0
        exact ⟨rfl, _, HV.out, HS.out.1⟩
end Go.Proofs.Ytiodpgannelgpaa
