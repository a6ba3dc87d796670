/-
  The walk of aggregate.Minimal.
  Rows of addresses; the walk of the library's insertion sort at addresses.
  The walk of the library's insertion sort at addresses.
-/
import Derived.Test.YtegponbmelgngaaMgAe
import Derived.Test.YtegponbmelgngaaMgAj
import Derived.Test.YtegponbmelgngaaMgAd
section
namespace Go.Proofs.Ytegponbmelgngaa
open Go.RowKit
set_option linter.unusedSimpArgs false
set_option linter.unusedVariables false
set_option maxHeartbeats 1500000
set_option maxRecDepth 100000

/-- a slice is not longer than its capacity -/
def CapE (v : Value) : Prop := ∀ ad n c, v = .slice ad n c → n ≤ c
theorem own_cap {w : World} {B n : Nat} {v : Value} {xs : List Value} {e k : Nat} (h : w.ownsRow B e k v n xs) : CapE v := fun ad m c hv => by
  rcases h.2 with ⟨rfl, h0⟩ | ⟨g, cap, cur, rfl, hb, hg, hc, _⟩
  · cases hv; exact Nat.le_refl _
  · cases hv; exact hc
theorem own_nil {w : World} {B n : Nat} {v : Value} {xs : List Value} {e k : Nat} (h : w.ownsRow B e k v n xs) : NilE v := fun m c hv => by
  rcases h.2 with ⟨rfl, h0⟩ | ⟨g, cap, cur, rfl, hb, hg, hc, _⟩
  · cases hv; rfl
  · cases hv
theorem minimal_any (l : List En) (v : Value) (w : World) (hr : RdE w v l) (hcap : CapE v) (hf : FitE l) :
    Calls Try.prog 58 #[v] w fun e w' => ∃ v', e = .returned (.tuple #[v', .int .i64 (ckE l)]) ∧ (ckE l = 0 → RdE w' v' (minE l) ∧ NilE v' ∧ CapE v') ∧ (ckE l ≠ 0 → v' = .slice none 0 0) ∧ Below w.heap.size w w' := by
  have HC := Lib.hid (check47_any l v w hr hf)
  by_cases hck : ckE l = 0
  · have ht := ckE_iff.1 hck
    rw [hck] at HC ⊢
    have hrd := hr
    obtain ⟨ad, cap, rfl, -⟩ := hr
    have hle := hcap _ _ _ rfl
    have hF := ht.frag fun e he => (hf e he).1
    have HN : Hid (∀ W, Below w.heap.size w W → Calls Try.prog 95 #[.agg #[.int .u32 0, .int .i64 0], .slice ad l.length cap, .int .i64 (-1)] W fun e w' => ∃ g, e = .returned (.pointer (some ⟨g, 0, none⟩)) ∧ RegM w' (AG.reg 32 0 (l.map toBe) (-1)) g ∧ Below W.heap.size W w') := fun W hW =>
      newRegion_any 32 0 0 ad l.length cap l (-1) W rfl (Nat.zero_mod _) (by decide) ⟨rfl, hle, ht.len, hrd.below hW, hF, fun e he => (ht.val e he).1, hf⟩ (by decide)
    have HE : Hid (∀ g W, RegM W (AG.reg 32 0 (l.map toBe) (-1)) g → Calls Try.prog 96 #[.pointer (some ⟨g, 0, none⟩), .slice none 0 0, .int .i64 (-1)] W fun e w' => ∃ v', e = .returned v' ∧ (RdE w' v' (minE l) ∧ NilE v' ∧ CapE v') ∧ Below W.heap.size W w') := fun g W hg => by
      refine (entries_any _ (okR_reg 32 0 _ _) W g (.slice none 0 0) [] (-1) W hg (Below.refl _ _) (World.ownsRow_nil _ _ _ _) (by decide) ?_).mono ?_
      · have h1 := AG.minimal_le hF
        have h2 := ht.len
        rw [List.length_map] at h1
        show 0 + (AG.minimal (l.map toBe)).length ≤ 4000
        omega
      · rintro e w' ⟨v', he, hv, hb⟩
        rw [List.nil_append] at hv
        exact ⟨v', he, ⟨rdE_own hv, own_nil hv, own_cap hv⟩, hb⟩
    clear hck hf ht hrd hle hF hcap
    go_enter Try.func58, Try.ntmps58
    go_wp2_with (first
      | (go_at_call 47; refine HC.out.mono ?_; rintro en w1 ⟨rfl, hb⟩; have HB := Lib.hid hb; clear hb)
      | (go_at_call 95; refine (HN.out _ HB.out).mono ?_; rintro en w2 ⟨g, rfl, hg, hb⟩; have HB2 := Lib.hid (And.intro (below_then HB.out hb) hg); clear hb hg)
      | (go_at_call 96; refine (HE.out _ _ HB2.out.2).mono ?_; rintro en w3 ⟨v3, rfl, hrd, hb⟩; have HB3 := Lib.hid (And.intro (below_then HB2.out.1 hb) hrd); clear hb hrd))
    go_ret2
    exact ⟨v3, rfl, fun _ => HB3.out.2, fun h => absurd rfl h, HB3.out.1⟩
  · generalize hq : ckE l = q at *
    have h1 : (q == 0) = false := by simpa using hck
    have h2 : (q != 0) = true := by simpa using hck
    have HN := Lib.hid hck
    clear hck hr hf hq hcap
    go_enter Try.func58, Try.ntmps58
    go_wp2_with (go_at_call 47; refine HC.out.mono ?_; rintro en w1 ⟨rfl, hb⟩; have HB := Lib.hid hb; clear hb)
    go_ret2
    exact ⟨.slice none 0 0, rfl, fun h => absurd h HN.out, fun _ => rfl, HB.out⟩
end Go.Proofs.Ytegponbmelgngaa
end

section
namespace Go.Proofs.Ytegponbmelgngaa
open Go.RowKit
set_option linter.unusedSimpArgs false
set_option linter.unusedVariables false
set_option maxHeartbeats 1500000
set_option maxRecDepth 100000

def adV (m : List Nat) : List Value := m.map (fun n : Nat => Value.int .u32 (n : Int))
theorem adV_len (m : List Nat) : (adV m).length = m.length := by unfold adV; simp
theorem adV_at {m : List Nat} {i z : Nat} (h : m[i]? = some z) : (adV m)[i]? = some (.int .u32 (z : Int)) := by unfold adV; simp [h]
theorem adV_snoc2 (m : List Nat) (x y : Nat) : adV (m ++ [x, y]) = adV m ++ [.int .u32 (x : Int), .int .u32 (y : Int)] := by unfold adV; simp
theorem adV_setL (m : List Nat) (i z : Nat) : (adV m).set i (.int .u32 (z : Int)) = adV (m.set i z) := by unfold adV; rw [List.map_set]
/-- a row of addresses of the call's own -/
def OwnA (B : Nat) (w : World) (v : Value) (l : List Nat) : Prop := B ≤ w.heap.size ∧ w.ownsRow B 26 1 v l.length (adV l)
theorem OwnA.below {B : Nat} {w w1 : World} {v : Value} {l : List Nat} (h : OwnA B w v l) (hb : Below w.heap.size w w1) : OwnA B w1 v l := ⟨Nat.le_trans h.1 hb.size, own_below h.2 hb⟩
theorem OwnA.drewN {B : Nat} {w : World} {v : Value} {l : List Nat} (h : OwnA B w v l) (q : Nat) : OwnA B (w.drewN q) v l := h
theorem OwnA.slice {B : Nat} {w : World} {v : Value} {l : List Nat} (h : OwnA B w v l) : ∃ ad cap, v = .slice ad l.length cap ∧ l.length ≤ cap ∧ ∀ (k x : Nat), l[k]? = some x → ∃ g : Nat, ad = some ⟨g, 0, none⟩ := by
  rcases h.2.2 with ⟨rfl, hn⟩ | ⟨g, cap, cur, rfl, hB, hg, hc, _⟩
  · obtain rfl := List.length_eq_zero_iff.1 hn
    exact ⟨none, 0, rfl, Nat.le_refl _, fun k x h => by simp at h⟩
  · exact ⟨some ⟨g, 0, none⟩, cap, rfl, hc, fun k x _ => ⟨g, rfl⟩⟩
theorem OwnA.cell {B g cap n : Nat} {w : World} {l : List Nat} (h : OwnA B w (.slice (some ⟨g, 0, none⟩) n cap) l) {k x : Nat} (hk : l[k]? = some x) (hn : n = l.length) : w.cell? ⟨g, k, none⟩ = some (.int .u32 (x : Int)) := by
  subst hn
  have := h.2.cellAt k (by have := (List.getElem?_eq_some_iff.1 hk).1; omega)
  rw [this]; exact adV_at hk
theorem OwnA.free {B g cap n : Nat} {w : World} {l : List Nat} (h : OwnA B w (.slice (some ⟨g, 0, none⟩) n cap) l) (k : Nat) : w.frozen? ⟨g, k, none⟩ = false := by
  rcases h.2.2 with ⟨h', _⟩ | ⟨g', cap', cur, h', hB, hg, _⟩
  · simp at h'
  · simp at h'
    obtain ⟨⟨rfl, _⟩, _⟩ := h'
    exact freeO hg _
theorem OwnA.base {B g cap n : Nat} {w : World} {l : List Nat} (h : OwnA B w (.slice (some ⟨g, 0, none⟩) n cap) l) : B ≤ g ∧ g < w.heap.size := by
  rcases h.2.2 with ⟨h', _⟩ | ⟨g', cap', cur, h', hB, hg, _⟩
  · simp at h'
  · simp at h'
    obtain ⟨⟨rfl, _⟩, _⟩ := h'
    exact ⟨hB, ltO hg⟩
theorem OwnA.set {B g cap n : Nat} {w : World} {l : List Nat} (h : OwnA B w (.slice (some ⟨g, 0, none⟩) n cap) l) (hn : n = l.length) (k z : Nat) : OwnA B (w.setCell ⟨g, k, none⟩ (.int .u32 (z : Int))) (.slice (some ⟨g, 0, none⟩) n cap) (l.set k z) := by
  subst hn
  refine ⟨by have := h.1; simpa [World.setCell] using this, ?_⟩
  have := (h.2.stored k (.int .u32 (z : Int))).1
  rw [adV_setL] at this
  rw [List.length_set]; exact this
theorem nan_any (x : Nat) (w : World) : Calls Try.prog 139 #[.int .u32 (x : Int)] w fun e w' => e = .returned (.bool false) ∧ w = w' := by
  go_enter Try.func139, Try.ntmps139
  go_wp2
  go_ret
  exact ⟨rfl, rfl⟩
theorem less_any (x y : Nat) (w : World) : Calls Try.prog 155 #[.int .u32 (x : Int), .int .u32 (y : Int)] w fun e w' => e = .returned (.bool (decide (x < y))) ∧ w = w' := by
  have hd : decide ((x : Int) < (y : Int)) = decide (x < y) := by simp
  go_enter Try.func155, Try.ntmps155
  go_wp2_with (go_at_call 139; refine (nan_any x _).mono ?_; rintro en w1 ⟨rfl, rfl⟩)
  go_ret
  exact ⟨by simp, rfl⟩
/-- the pairs up to place i are in order, but for those that end at place j -/
def InsI (l : List Nat) (i j : Nat) : Prop := ∀ p q x y, p < q → q ≤ i → q ≠ j → l[p]? = some x → l[q]? = some y → x ≤ y
theorem insI_done {l : List Nat} {i j : Nat} (h : InsI l i j) (hj : j ≤ i) (hl : i < l.length) (he : j = 0 ∨ ∃ a b, l[j - 1]? = some a ∧ l[j]? = some b ∧ ¬ b < a) : InsI l i (i + 1) := fun p q x y hpq hq _ hx hy => by
  by_cases hqj : q = j
  · subst hqj
    rcases he with h0 | ⟨a, b, ha, hb, hab⟩
    · omega
    · rw [hb] at hy; cases hy
      by_cases hp : p = q - 1
      · subst hp; rw [ha] at hx; cases hx; omega
      · have := h p (q - 1) x a (by omega) (by omega) (by omega) hx ha
        omega
  · exact h p q x y hpq hq hqj hx hy
theorem insI_next {l : List Nat} {i : Nat} (h : InsI l i (i + 1)) : InsI l (i + 1) (i + 1) := fun p q x y hpq hq hqj hx hy => h p q x y hpq (by omega) hqj hx hy
theorem insI_swap {l : List Nat} {i j a b : Nat} (h : InsI l i j) (hj0 : 0 < j) (hj : j ≤ i) (ha : l[j - 1]? = some a) (hb : l[j]? = some b) (hab : b < a) : InsI ((l.set j a).set (j - 1) b) i (j - 1) := by
  have hjl := (List.getElem?_eq_some_iff.1 hb).1
  have g1 : ((l.set j a).set (j - 1) b)[j]? = some a := by
    rw [List.getElem?_set_ne (by omega), List.getElem?_set_self hjl]
  have g2 : ((l.set j a).set (j - 1) b)[j - 1]? = some b := by
    rw [List.getElem?_set_self (by rw [List.length_set]; omega)]
  have g3 : ∀ k, k ≠ j → k ≠ j - 1 → ((l.set j a).set (j - 1) b)[k]? = l[k]? := fun k h1 h2 => by
    rw [List.getElem?_set_ne (Ne.symm h2), List.getElem?_set_ne (Ne.symm h1)]
  intro p q x y hpq hq hqj hx hy
  by_cases hq1 : q = j
  · subst hq1
    rw [g1] at hy; cases hy
    by_cases hp1 : p = q - 1
    · subst hp1; rw [g2] at hx; cases hx; omega
    · rw [g3 p (by omega) hp1] at hx
      exact h p (q - 1) x a (by omega) (by omega) (by omega) hx ha
  · rw [g3 q hq1 hqj] at hy
    by_cases hp1 : p = j
    · subst hp1; rw [g1] at hx; cases hx
      exact h (p - 1) q a y (by omega) hq hq1 ha hy
    · by_cases hp2 : p = j - 1
      · subst hp2; rw [g2] at hx; cases hx
        exact h j q b y (by omega) hq hq1 hb hy
      · rw [g3 p hp1 hp2] at hx
        exact h p q x y hpq hq hq1 hx hy
theorem swap_perm {l : List Nat} {j a b : Nat} (ha : l[j - 1]? = some a) (hb : l[j]? = some b) : ((l.set j a).set (j - 1) b).Perm l := by
  obtain ⟨h1, e1⟩ := List.getElem?_eq_some_iff.1 ha
  obtain ⟨h2, e2⟩ := List.getElem?_eq_some_iff.1 hb
  have := List.set_set_perm (i := j) (j := j - 1) h2 h1
  rw [e1, e2] at this
  exact this
end Go.Proofs.Ytegponbmelgngaa
end

section
namespace Go.Proofs.Ytegponbmelgngaa
open Go.RowKit
set_option linter.unusedSimpArgs false
set_option linter.unusedVariables false
set_option maxHeartbeats 1500000
set_option maxRecDepth 100000

/-- a row on the way to being sorted -/
def SrtS (B g cap L : Nat) (l0 l : List Nat) (w W : World) : Prop := l.Perm l0 ∧ OwnA B W (.slice (some ⟨g, 0, none⟩) L cap) l ∧ Below B w W
theorem ins_any (B g cap L : Nat) (l : List Nat) (w : World) (h : OwnA B w (.slice (some ⟨g, 0, none⟩) L cap) l) (hL : L = l.length) (hbig : L ≤ 1000) :
    Calls Try.prog 149 #[.slice (some ⟨g, 0, none⟩) L cap, .int .i64 0, .int .i64 (L : Int)] w fun e w' => e = .returned (.tuple #[]) ∧ ∃ l', l'.Perm l ∧ l'.Pairwise (· ≤ ·) ∧ OwnA B w' (.slice (some ⟨g, 0, none⟩) L cap) l' ∧ Below B w w' := by
  have H := Lib.hid h
  have HL := Lib.hid hL
  clear h hL
  go_enter Try.func149, Try.ntmps149
  go_wp2_with fail
  go_loopg [6, 7] L (fun gg s6 s7 wr => ∃ (i : Nat) (l1 : List Nat), s6 = .int .i64 (i : Int) ∧ (∃ u, u = s7) ∧ 1 ≤ i ∧ (i ≤ L ∨ i = 1) ∧ L - i ≤ gg ∧ Hid (SrtS B g cap L l l1 w wr ∧ InsI l1 (i - 1) i))
  case atStart => exact ⟨1, l, rfl, ⟨_, rfl⟩, Nat.le_refl _, .inr rfl, by omega, ⟨List.Perm.refl _, H.out, Below.refl _ _⟩, fun p q x y hpq hq _ _ _ => by omega⟩
  case round =>
    obtain ⟨i, l1, rfl, ⟨u7, rfl⟩, hi1, hi2, hg, HI⟩ := hrel
    by_cases hlt : i < L
    · have HI2 : Hid (SrtS B g cap L l l1 w wr ∧ InsI l1 i i) := ⟨HI.out.1, by
        have := HI.out.2
        obtain ⟨k, rfl⟩ : ∃ k, i = k + 1 := ⟨i - 1, by omega⟩
        exact insI_next this⟩
      clear HI
      go_wp2_with fail
      obtain ⟨W1, hW1⟩ : ∃ W1, W1 = wr := ⟨_, rfl⟩
      rw [← hW1] at HI2 ⊢
      clear hW1
      go_loopg [7] i (fun gk s7 wr => ∃ (j : Nat) (l2 : List Nat), s7 = .int .i64 (j : Int) ∧ j ≤ i ∧ j ≤ gk ∧ Hid (SrtS B g cap L l l2 w wr ∧ InsI l2 i j))
      case atStart => exact ⟨i, l1, rfl, Nat.le_refl _, Nat.le_refl _, HI2.out⟩
      case round =>
        clear HI2
        obtain ⟨j, l2, rfl, hji, hgk, HJ⟩ := hrel
        have hlen : l2.length = L := by have := HJ.out.1.1.length_eq; have := HL.out; omega
        have HLN := Lib.hid hlen
        cases j with
        | zero =>
          have HD : Hid (InsI l2 i (i + 1)) := insI_done HJ.out.2 (Nat.zero_le _) (by omega) (.inl rfl)
          clear hlen
          go_wp2_with fail
          go_quiet (fail)
          go_wp2_with fail
          go_roundg (L - (i + 1))
          case measure => omega
          case rel => exact ⟨i + 1, l2, by go_num, ⟨_, rfl⟩, by omega, .inl (by omega), Nat.le_refl _, ⟨HJ.out.1.1, HJ.out.1.2.1.drewN _, below_drewN HJ.out.1.2.2 _⟩, by rw [show i + 1 - 1 = i by omega]; exact HD.out⟩
        | succ m =>
          obtain ⟨a, ha⟩ : ∃ a, l2[m]? = some a := ⟨_, List.getElem?_eq_getElem (by omega)⟩
          obtain ⟨b, hb⟩ : ∃ b, l2[m + 1]? = some b := ⟨_, List.getElem?_eq_getElem (by omega)⟩
          have ca := HJ.out.1.2.1.cell ha HLN.out.symm
          have cb := HJ.out.1.2.1.cell hb HLN.out.symm
          have HAB : Hid (l2[m]? = some a ∧ l2[m + 1]? = some b) := ⟨ha, hb⟩
          have hwm : IntKind.i64.wrap (m : Int) = (m : Int) := IntWalk.i64_in _ (by constructor <;> omega)
          have m0 : (0 : Int) ≤ (m : Int) := by omega
          have m1 : (m : Int) < (L : Int) := by omega
          have m2 : (m : Int) + 1 < (L : Int) := by omega
          have m3 : (0 : Int) < (m : Int) + 1 := by omega
          have hd1 : decide ((m : Int) + 1 > 0) = true := decide_eq_true (by omega)
          have HLS : Hid (∀ W, Calls Try.prog 155 #[.int .u32 (b : Int), .int .u32 (a : Int)] W fun e w' => e = .returned (.bool (decide (b < a))) ∧ W = w') := fun W => less_any b a W
          clear ha hb hlen
          by_cases hba : b < a
          · have hq : decide (b < a) = true := decide_eq_true hba
            rw [hq] at HLS
            have HSW : Hid (∀ k1, SrtS B g cap L l ((l2.set (m + 1) a).set m b) w (((wr.drewN k1).setCell ⟨g, m + 1, none⟩ (.int .u32 (a : Int))).setCell ⟨g, m, none⟩ (.int .u32 (b : Int)))) := fun k1 => by
              have h1 := HJ.out.1.2.1.drewN k1
              have h2 := h1.set HLN.out.symm (m + 1) a
              have h3 := h2.set (by rw [List.length_set]; exact HLN.out.symm) m b
              have hb2 := below_drewN HJ.out.1.2.2 k1
              have hg2 := HJ.out.1.2.1.base.1
              exact ⟨(swap_perm (l := l2) (j := m + 1) HAB.out.1 HAB.out.2).trans HJ.out.1.1, h3, (hb2.setCell (p := ⟨g, m + 1, none⟩) hg2 _).setCell (p := ⟨g, m, none⟩) hg2 _⟩
            have HIN : Hid (InsI ((l2.set (m + 1) a).set m b) i m) := insI_swap HJ.out.2 (Nat.succ_pos m) hji HAB.out.1 HAB.out.2 hba
            have y0 := HJ.out.1.2.1.free m
            have y1 := HJ.out.1.2.1.free (m + 1)
            clear hba hq
            go_wp2_with fail
            go_quiet ((go_at_call 155; exact Calls.quiet_of_same ((HLS.out _).mono fun _ _ h => ⟨h.1, h.2.symm⟩)))
            go_wp2_with fail
            go_region
            all_goals (
              go_wp2_with fail
              go_roundg m
              case measure => omega
              case rel => exact ⟨m, (l2.set (m + 1) a).set m b, by go_num, by omega, Nat.le_refl _, HSW.out _, HIN.out⟩)
          · have hq : decide (b < a) = false := decide_eq_false hba
            rw [hq] at HLS
            have HD : Hid (InsI l2 i (i + 1)) := insI_done HJ.out.2 hji (by have := HLN.out; omega) (.inr ⟨a, b, HAB.out.1, HAB.out.2, hba⟩)
            clear hba hq
            go_wp2_with fail
            go_quiet ((go_at_call 155; exact Calls.quiet_of_same ((HLS.out _).mono fun _ _ h => ⟨h.1, h.2.symm⟩)))
            go_wp2_with fail
            go_roundg (L - (i + 1))
            case measure => omega
            case rel => exact ⟨i + 1, l2, by go_num, ⟨_, rfl⟩, by omega, .inl (by omega), Nat.le_refl _, ⟨HJ.out.1.1, HJ.out.1.2.1.drewN _, below_drewN HJ.out.1.2.2 _⟩, by rw [show i + 1 - 1 = i by omega]; exact HD.out⟩
    · have k1 : decide ((i : Int) < (L : Int)) = false := decide_eq_false (by omega)
      have HS : Hid (l1.Pairwise (· ≤ ·)) := by
        have hlen : l1.length = L := by have := HI.out.1.1.length_eq; have := HL.out; omega
        show List.Pairwise _ _
        rw [List.pairwise_iff_getElem]
        intro p q hp hq hpq
        exact HI.out.2 p q _ _ hpq (by omega) (by omega) (List.getElem?_eq_getElem hp) (List.getElem?_eq_getElem hq)
      go_wp2
      go_end0
      exact ⟨rfl, l1, HI.out.1.1, HS.out, HI.out.1.2.1, HI.out.1.2.2⟩
end Go.Proofs.Ytegponbmelgngaa
end
