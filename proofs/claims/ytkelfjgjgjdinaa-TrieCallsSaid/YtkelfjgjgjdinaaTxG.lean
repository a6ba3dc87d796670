/-
  The walk of the reference's Lookup; the trie and the reference side by side.
-/
import Derived.Test.YtkelfjgjgjdinaaTxF
namespace Go.Proofs.Ytkelfjgjgjdinaa
open Go.RowKit
set_option linter.unusedSimpArgs false
set_option linter.unusedVariables false
set_option maxHeartbeats 2000000
set_option maxRecDepth 100000

theorem rlookup_any (g : Nat) (v : Value) (L : List En) (w : World) (a : Nat) (ha : a < 4294967296) (h : RefR w g v L) (hv : ∀ x ∈ L, PV x.1) (hl : L.length ≤ 900) :
    Calls Try.prog 86 #[.pointer (some ⟨g, 0, none⟩), .int .u32 a] w fun en w' => en = .returned (.tuple #[entV (lastOf (L.filter (fun x => C x.1 (a, 32)))), .bool (!(L.filter (fun x => C x.1 (a, 32))).isEmpty)]) ∧ Below w.heap.size w w' := by
  have HA := Lib.hid (rabove_any g v L _ (a, 32) ha (by constructor <;> omega) (h.below (below_alloc w (.cells #[.int .u32 0, .int .i64 0, .int .i64 0] 65))) hv hl)
  obtain ⟨F, hF⟩ : ∃ F, L.filter (fun x => C x.1 (a, 32)) = F := ⟨_, rfl⟩
  have hFl : F.length ≤ 900 := by have := List.length_filter_le (fun x : En => C x.1 (a, 32)) L; rw [hF] at this; omega
  rw [hF] at HA ⊢
  clear h hv hF
  cases hFe : F with
  | nil =>
    subst hFe
    have HX : Hid (entV (lastOf []) = .agg #[.int .u32 0, .int .i64 0, .int .i64 0]) := rfl
    go_enter Try.func86, Try.ntmps86
    go_wp2_with fail
    refine HA.out.mono ?_
    rintro e w1 ⟨v1, rfl, hr1, hb1⟩
    obtain ⟨ad, cap, rfl⟩ := rdE_slice hr1
    have B1 := Lib.hid (below_then (below_alloc _ _) hb1)
    obtain ⟨q1, r1⟩ := bcell hb1
    clear hb1 hr1
    go_wp2
    exact bodyPost_ret (v := .tuple #[.agg #[.int .u32 0, .int .i64 0, .int .i64 0], .bool false]) (by simp [results, Try.results86, go_sem, *]) rfl ⟨by rw [HX.out]; rfl, ((B1.out.setCell (by simp) _).setCell (by simp) _).setCell (by simp) _⟩
  | cons y r =>
    obtain ⟨N, hN⟩ : ∃ N, F.length = N + 1 := ⟨r.length, by rw [hFe]; rfl⟩
    have hlast : F[N]? = some (lastOf F) := by
      have hne : F ≠ [] := by rw [hFe]; exact List.cons_ne_nil _ _
      rw [show N = F.length - 1 by omega, ← List.getLast?_eq_getElem?, List.getLast?_eq_some_getLast hne]
      unfold lastOf
      rw [List.getLastD_eq_getLast?, List.getLast?_eq_some_getLast hne]; rfl
    have hE : (!F.isEmpty) = true := by rw [hFe]; rfl
    rw [← hFe]
    obtain ⟨⟨⟨xa, xn⟩, xv⟩, hx⟩ : ∃ x, lastOf F = x := ⟨_, rfl⟩
    rw [hx] at hlast
    have HX : Hid (entV (lastOf F) = .agg #[.int .u32 xa, .int .i64 xn, .int .i64 xv] ∧ (!F.isEmpty) = true) := ⟨by rw [hx]; rfl, hE⟩
    have HLs := Lib.hid hlast
    have HN := Lib.hid hN
    have hN2 : N ≤ 900 := by omega
    clear hlast hE hx hN hFe hFl
    go_enter Try.func86, Try.ntmps86
    go_wp2_with fail
    refine HA.out.mono ?_
    rintro e w1 ⟨v1, rfl, hr1, hb1⟩
    obtain ⟨ad, cap, rfl, hcc⟩ := hr1
    obtain ⟨blk, off, rfl, hblk, k0, k1, k2⟩ := hcc N _ HLs.out
    have B1 := Lib.hid (below_then (below_alloc _ _) hb1)
    obtain ⟨q1, r1⟩ := bcell hb1
    dsimp only at k0 k1 k2
    rw [HN.out]
    have hne2 : blk ≠ w.heap.size ∨ blk = w.heap.size := by omega
    have s0 : (((N : Int) + 1) == 0) = false := by simp; omega
    clear hb1 hcc
    go_wp2
    exact bodyPost_ret (v := .tuple #[.agg #[.int .u32 xa, .int .i64 xn, .int .i64 xv], .bool true]) (by simp [results, Try.results86, go_sem, *]) rfl ⟨by rw [HX.out.1, HX.out.2], ((B1.out.setCell (by simp) _).setCell (by simp) _).setCell (by simp) _⟩

/-- the trie with E, the reference with F, apart -/
structure Duo (w0 : World) (gt gr : Nat) (E F : List En) (h1 : List Nat) (rv : Value) (W : World) : Prop where
  t : TrieR W (.pointer (some ⟨gt, 0, none⟩)) E h1
  r : RefR W gr rv F
  d1 : gr ∉ h1
  d2 : ∀ g ∈ h1, rv.ownBlock ≠ some g
  n1 : ∀ g ∈ h1, w0.heap.size ≤ g
  n2 : w0.heap.size ≤ gr
  bel : Below w0.heap.size w0 W
theorem Duo.below {w0 W W1 : World} {gt gr : Nat} {E F : List En} {h1 : List Nat} {rv : Value} (h : Duo w0 gt gr E F h1 rv W) (hb : Below W.heap.size W W1) : Duo w0 gt gr E F h1 rv W1 :=
  ⟨h.t.below hb, h.r.below hb, h.d1, h.d2, h.n1, h.n2, h.bel.trans (hb.mono h.bel.size)⟩
theorem Duo.putT {w0 W W1 : World} {gt gr : Nat} {E E' F : List En} {h1 h1' : List Nat} {rv : Value} (h : Duo w0 gt gr E F h1 rv W) (hT : TrieR W1 (.pointer (some ⟨gt, 0, none⟩)) E' h1') (hg : ∀ k ∈ h1', k ∈ h1 ∨ W.heap.size ≤ k) (hk : Kp h1 W W1) : Duo w0 gt gr E' F h1' rv W1 := by
  have hgr := lt_of_block h.r.blk
  have hs := h.bel.size
  refine ⟨hT, h.r.kp hk h.d1 h.d2, ?_, ?_, ?_, h.n2, h.bel.trans (hk.below h.bel.size h.n1)⟩
  · intro hm
    rcases hg gr hm with h2 | h2
    · exact h.d1 h2
    · omega
  · intro g hm e
    rcases hg g hm with h2 | h2
    · exact h.d2 g h2 e
    · have := (own_lt h.r.row e).2; omega
  · intro g hm
    rcases hg g hm with h2 | h2
    · exact h.n1 g h2
    · omega
theorem Duo.putR {w0 W W1 : World} {gt gr : Nat} {E F F' : List En} {h1 : List Nat} {rv : Value} (h : Duo w0 gt gr E F h1 rv W) (hp : RefPost W gr rv F' W1) : ∃ rv', Duo w0 gt gr E F' h1 rv' W1 := by
  obtain ⟨rv', r', o', k'⟩ := hp
  have hl := h.t.lt
  refine ⟨rv', h.t.kp k' (fun g hg hm => by simp at hm; subst hm; exact h.d1 hg), r', h.d1, ?_, h.n1, h.n2, h.bel.trans (k'.below h.bel.size (fun k hk => by simp at hk; subst hk; exact h.n2))⟩
  intro g hg e
  rcases o' g e with h2 | h2
  · exact h.d2 g hg h2
  · have := hl g hg; omega
end Go.Proofs.Ytkelfjgjgjdinaa
