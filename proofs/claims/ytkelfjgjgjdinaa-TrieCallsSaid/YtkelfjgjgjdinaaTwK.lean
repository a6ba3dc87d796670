/-
  The trie's methods: Above, Under, All, Put, Drop.
-/
import Derived.Test.YtkelfjgjgjdinaaTwJ
namespace Go.Proofs.Ytkelfjgjgjdinaa
open Go.RowKit
set_option linter.unusedSimpArgs false
set_option linter.unusedVariables false
set_option maxHeartbeats 4000000
set_option maxRecDepth 100000

theorem TrieO.pt {w : World} {t : Value} {E : List En} {gs : List Nat} (h : TrieO w t E gs) : ∃ u, t = .pointer u := by
  rcases h with ⟨rfl, _⟩ | ⟨g0, root, T, gs0, rfl, _⟩
  · exact ⟨_, rfl⟩
  · exact ⟨_, rfl⟩
theorem TrieO.lt {w : World} {t : Value} {E : List En} {gs : List Nat} (h : TrieO w t E gs) : ∀ g ∈ gs, g < w.heap.size := by
  rcases h with ⟨_, _, rfl⟩ | h
  · intro g hg; cases hg
  · exact h.lt
theorem col_start (w1 : World) {B : Nat} (hB : B = w1.heap.size) : ColI B [] [] (w1.alloc (.cells #[.slice none 0 0] 105)) := by
  subst hB
  exact ⟨_, heap_alloc_new _ _, World.ownsRow_nil _ _ _ _, fun m hm => (by cases hm)⟩
theorem ColI.read {B : Nat} {P : List Nat} {L : List En} {W : World} (h : ColI B P L W) : ∃ v, W.cell? ⟨B, 0, none⟩ = some v ∧ RdF (B + 1) W v L := by
  obtain ⟨v, h1, h2, _⟩ := h
  exact ⟨v, cell_of_one h1, rdF_own h2⟩
theorem rdE_slice {w : World} {v : Value} {l : List En} (h : RdE w v l) : ∃ ad cap, v = .slice ad l.length cap := by obtain ⟨ad, cap, h, _⟩ := h; exact ⟨ad, cap, h⟩
theorem above_any (t : Value) (E : List En) (gs : List Nat) (w : World) (p : PP) (hb : p.1 < 4294967296) (hm : I64 p.2) (h : TrieO w t E gs) (hlen : E.length ≤ 1000) :
    Calls Try.prog 54 #[t, .agg #[.int .u32 (p.1 : Nat), .int .i64 p.2]] w fun en w' => ∃ v, en = .returned v ∧ RdF w.heap.size w' v (E.filter (fun x => C x.1 p)) ∧ Below w.heap.size w w' := by
  have hlt := h.lt
  obtain ⟨u, rfl⟩ := h.pt
  obtain ⟨b, m⟩ := p
  have HT : Hid (∀ W, Below w.heap.size w W → TrieO W (.pointer u) E gs) := fun W h1 => h.below h1
  have HG := Lib.hid hlt
  clear h hlt
  go_enter Try.func54, Try.ntmps54
  go_wp2_with (go_at_call 89; refine (absC (w.heap.size + 1) [] _ E gs _ b hb m hm (col_start _ (by simp)) (HT.out _ (below2 _ _ _)) (fun g hg => by have := HG.out g hg; omega) (by simpa using hlen)).mono ?_; rintro e w1 ⟨rfl, hi1, hch1⟩; obtain ⟨v, hv, hr⟩ := hi1.read; have R1 := Lib.hid hr; have C1 := Lib.hid hch1; clear hi1 hch1 hr)
  go_ret
  exact ⟨v, rfl, by have := R1.out.less (B' := w.heap.size) (by omega); simpa using this, (below2 _ _ _).trans (C1.out.below (by omega) (by simp; omega))⟩
theorem under_any (t : Value) (E : List En) (gs : List Nat) (w : World) (p : PP) (hb : p.1 < 4294967296) (hm : I64 p.2) (h : TrieO w t E gs) (hlen : E.length ≤ 1000) :
    Calls Try.prog 59 #[t, .agg #[.int .u32 (p.1 : Nat), .int .i64 p.2]] w fun en w' => ∃ v, en = .returned v ∧ RdF w.heap.size w' v (E.filter (fun x => C p x.1)) ∧ Below w.heap.size w w' := by
  obtain ⟨b, m⟩ := p
  have hlt := h.lt
  rcases h with ⟨rfl, rfl, _⟩ | ⟨g0, root, T, gs0, rfl, rfl, hT, hl, hn, hw, rfl⟩
  · go_enter Try.func59, Try.ntmps59
    go_wp2
    go_ret
    exact ⟨_, rfl, rdF_nil _ _, below_alloc _ _⟩
  · rw [← und_eq (b, m) hw]
    obtain ⟨u0, rfl⟩ := hl.ptr
    have hg0 := hlt g0 (by simp)
    have hT2 : Hid (∀ W, Below w.heap.size w W → W.cell? ⟨g0, 0, none⟩ = some (.pointer u0)) := fun W hW => by
      have := (hW.block g0 hg0).trans hT
      simp [World.cell?, this]
    have t0 := hT2.out _ (below2 w (.cells #[.int .u32 (b : Int), .int .i64 m] 28) (.cells #[.slice none 0 0] 105))
    have HL := Lib.hid (hl.below (below2 w (.cells #[.int .u32 (b : Int), .int .i64 m] 28) (.cells #[.slice none 0 0] 105)))
    have HG := Lib.hid hlt
    have HW := Lib.hid hw
    have HLen := Lib.hid hlen
    have HI0 := Lib.hid (col_start (w.alloc (.cells #[.int .u32 (b : Int), .int .i64 m] 28)) (B := w.heap.size + 1) (by simp))
    clear hT hl hn hw hlt hlen
    go_enter Try.func59, Try.ntmps59
    go_wp2
    go_region_held3 (fun w' => w'.cell? ⟨g0, 0, none⟩ = some (.pointer u0) ∧ w'.cell? ⟨w.heap.size, 0, none⟩ = some (.int .u32 b) ∧ w'.cell? ⟨w.heap.size, 1, none⟩ = some (.int .i64 m))
      (first | exact ⟨t0, by simp, by simp⟩ | assumption)
      (first | (go_at_call 94; refine (und_any (w.heap.size + 1) b hb m hm T [] [] _ _ gs0 (HI0.out.below (below_drewN (Below.refl _ _) 1)) HL.out.drew (fun g hg => by have := HG.out g (by simp [hg]); omega) HW.out (by have := HLen.out; simpa using this) (fun k hk => (by cases hk))).mono ?_; rintro e w1 ⟨rfl, hi1, hch1⟩; have hk := And.intro (hch1.carry (p := ⟨g0, 0, none⟩) (.inl (by dsimp only; omega)) t0) (And.intro (hch1.carry (p := ⟨w.heap.size, 0, none⟩) (v := .int .u32 b) (.inl (by dsimp only; omega)) (by simp)) (hch1.carry (p := ⟨w.heap.size, 1, none⟩) (v := .int .i64 m) (.inl (by dsimp only; omega)) (by simp))); obtain ⟨v, hv, hr⟩ := hi1.read; have R1 := Lib.hid hr; have C1 := Lib.hid hch1; clear hi1 hch1 hr))
    all_goals clear hk
    all_goals go_wp2
    all_goals go_ret
    all_goals exact ⟨v, rfl, by have := R1.out.less (B' := w.heap.size) (by omega); simpa using this, (below_drewN (below2 _ _ _) 1).trans (C1.out.below (by omega) (by simp; omega))⟩
theorem C_zero {p : PP} (h : PV p) : C (0, 0) p = true := by
  have i := (V_iff p).1 h.2
  refine (C_iff _ _).2 ⟨by decide, h.2, by dsimp only; omega, ?_⟩
  show M.topN p.1 0 = M.topN 0 0
  rw [M.topN_zero _ h.1, M.topN_zero _ (by omega)]
theorem all_any (t : Value) (E : List En) (gs : List Nat) (w : World) (h : TrieO w t E gs) (hlen : E.length ≤ 1000) :
    Calls Try.prog 48 #[t] w fun en w' => ∃ v, en = .returned v ∧ RdF w.heap.size w' v E ∧ Below w.heap.size w w' := by
  have hv := h.valid
  have hu := fun W (hW : TrieO W t E gs) => under_any t E gs W (0, 0) (by decide) (by constructor <;> decide) hW hlen
  rw [List.filter_eq_self.2 (fun x hx => C_zero (hv x hx))] at hu
  have HU := Lib.hid hu
  have HT := Lib.hid h
  obtain ⟨u, rfl⟩ := h.pt
  clear h hu hv
  go_enter Try.func48, Try.ntmps48
  go_wp2_with (go_at_call 59; refine (HU.out _ HT.out).mono ?_; rintro e w1 ⟨v, rfl, hr, hb⟩; have R1 := Lib.hid hr; have B1 := Lib.hid hb; clear hr hb)
  go_ret
  exact ⟨v, rfl, R1.out, B1.out⟩
end Go.Proofs.Ytkelfjgjgjdinaa
