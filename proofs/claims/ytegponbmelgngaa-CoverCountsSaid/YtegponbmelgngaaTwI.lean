/-
  The trie as a value: New, Len, nearest, Lookup.
-/
import Derived.Test.YtegponbmelgngaaTwG
import Derived.RegionTactic
namespace Go.Proofs.Ytegponbmelgngaa
open Go.RowKit
set_option linter.unusedSimpArgs false
set_option linter.unusedVariables false
set_option maxHeartbeats 4000000
set_option maxRecDepth 100000

def IsTrie (w : World) (g : Nat) (root : Value) (sz : Int) : Prop := w.heap[g]? = some (.cells #[root, .int .i64 sz] 88 (0, 0))
/-- a trie in memory: its pointer, its entries, its blocks -/
def TrieR (w : World) (t : Value) (E : List En) (gs : List Nat) : Prop :=
  ∃ g0 root T gs0, t = .pointer (some ⟨g0, 0, none⟩) ∧ gs = g0 :: gs0 ∧ IsTrie w g0 root ((ents T).length : Nat) ∧ Lies w T root gs0 ∧ gs.Nodup ∧ WF T ∧ ents T = E
/-- a trie or nil -/
def TrieO (w : World) (t : Value) (E : List En) (gs : List Nat) : Prop := (t = .pointer none ∧ E = [] ∧ gs = []) ∨ TrieR w t E gs
theorem TrieR.lt {w : World} {t : Value} {E : List En} {gs : List Nat} (h : TrieR w t E gs) : ∀ g ∈ gs, g < w.heap.size := by
  obtain ⟨g0, root, T, gs0, rfl, rfl, hT, hl, _, _, _⟩ := h
  intro g hg
  rcases List.mem_cons.1 hg with rfl | hg
  · exact lt_of_block hT
  · exact hl.lt g hg
theorem TrieR.congr {w w' : World} {t : Value} {E : List En} {gs : List Nat} (h : TrieR w t E gs) (hk : ∀ g ∈ gs, w'.heap[g]? = w.heap[g]?) : TrieR w' t E gs := by
  obtain ⟨g0, root, T, gs0, rfl, rfl, hT, hl, hn, hw, he⟩ := h
  exact ⟨g0, root, T, gs0, rfl, rfl, (hk g0 (by simp)).trans hT, hl.congr fun g hg => hk g (by simp [hg]), hn, hw, he⟩
theorem TrieR.below {w w' : World} {t : Value} {E : List En} {gs : List Nat} (h : TrieR w t E gs) (k : Below w.heap.size w w') : TrieR w' t E gs := h.congr fun g hg => k.block g (h.lt g hg)
theorem TrieR.kp {S : List Nat} {w w' : World} {t : Value} {E : List En} {gs : List Nat} (h : TrieR w t E gs) (k : Kp S w w') (hn : ∀ g ∈ gs, g ∉ S) : TrieR w' t E gs := h.congr fun g hg => k.block g (h.lt g hg) (hn g hg)
theorem TrieO.below {w w' : World} {t : Value} {E : List En} {gs : List Nat} (h : TrieO w t E gs) (k : Below w.heap.size w w') : TrieO w' t E gs := h.imp id (fun h => h.below k)
theorem TrieR.asc {w : World} {t : Value} {E : List En} {gs : List Nat} (h : TrieR w t E gs) : AscE E := by
  obtain ⟨g0, root, T, gs0, rfl, rfl, hT, hl, hn, hw, rfl⟩ := h
  exact ents_asc hw
theorem TrieO.asc {w : World} {t : Value} {E : List En} {gs : List Nat} (h : TrieO w t E gs) : AscE E := by
  rcases h with ⟨_, rfl, _⟩ | h
  · exact List.Pairwise.nil
  · exact h.asc
theorem TrieR.ptr {w : World} {t : Value} {E : List En} {gs : List Nat} (h : TrieR w t E gs) : ∃ g, t = .pointer (some ⟨g, 0, none⟩) ∧ g ∈ gs := by
  obtain ⟨g0, root, T, gs0, rfl, rfl, _⟩ := h
  exact ⟨g0, rfl, by simp⟩

theorem new_any (w : World) : Calls Try.prog 41 #[] w fun en w' => ∃ t gs, en = .returned t ∧ TrieR w' t [] gs ∧ (∀ g ∈ gs, w.heap.size ≤ g) ∧ Below w.heap.size w w' := by
  go_enter Try.func41, Try.ntmps41
  go_wp2
  go_ret
  exact ⟨_, [w.heap.size], rfl, ⟨w.heap.size, .pointer none, .nil, [], rfl, rfl, heap_alloc_new _ _, ⟨rfl, rfl⟩, by simp, trivial, rfl⟩, by simp, below_alloc _ _⟩
theorem len_any (t : Value) (E : List En) (gs : List Nat) (w : World) (h : TrieO w t E gs) :
    Calls Try.prog 44 #[t] w fun en w' => en = .returned (.int .i64 (E.length : Nat)) ∧ w = w' := by
  rcases h with ⟨rfl, rfl, _⟩ | ⟨g0, root, T, gs0, rfl, rfl, hT, hl, hn, hw, rfl⟩
  · go_enter Try.func44, Try.ntmps44
    go_wp2
    go_ret
    exact ⟨rfl, rfl⟩
  · have hc : w.cell? ⟨g0, 1, none⟩ = some (.int .i64 ((ents T).length : Nat)) := by unfold IsTrie at hT; simp [World.cell?, hT]
    clear hT hl
    go_enter Try.func44, Try.ntmps44
    go_wp2
    go_ret
    exact ⟨rfl, rfl⟩

/-! the walks up over a trie that may be nil -/
theorem absC_nil (w : World) (b : Nat) (m : Int) (fv : Value) : Calls Try.prog 115 #[.pointer none, .agg #[.int .u32 b, .int .i64 m], fv] w fun en w' => en = .returned (.tuple #[]) ∧ Below w.heap.size w w' := by
  go_enter Try.func115, Try.ntmps115
  go_wp2
  (try simp only [Exit.inBlock, Exit.then]); refine bodyPost_ret (results_none rfl _ _ _) rfl ?_
  exact ⟨rfl, below_alloc _ _⟩
theorem absN (B : Nat) (L : List En) (t : Value) (E : List En) (gs : List Nat) (w : World) (b : Nat) (hb : b < 4294967296) (m : Int) (hm : I64 m) (hI : NearI B [] L w) (h : TrieO w t E gs) (hgs : ∀ g ∈ gs, g < B) (hlen : L.length + E.length ≤ 1000) :
    Calls Try.prog 115 #[t, .agg #[.int .u32 b, .int .i64 m], .func (.func 116) #[] #[.pointer (some ⟨B, 0, none⟩), .pointer (some ⟨B + 1, 0, none⟩)]] w fun en w' => en = .returned (.tuple #[]) ∧ NearI B [] (L ++ E.filter (fun x => C x.1 (b, m))) w' ∧ Ch B [] w w' := by
  rcases h with ⟨rfl, rfl, _⟩ | ⟨g0, root, T, gs0, rfl, rfl, hT, hl, hn, hw, rfl⟩
  · exact (absC_nil w b m _).mono fun en w' ⟨h1, h2⟩ => ⟨h1, by simpa using hI.below h2, Ch.of_below h2⟩
  · rw [← abv_eq (b, m) hw]
    exact abvN_any B [] L T w g0 root _ gs0 b hb m hm hI hT (hgs g0 (by simp)) hl (fun g hg => hgs g (by simp [hg])) hw hlen (fun k hk => (by cases hk))

def lastOf (l : List En) : En := l.getLastD ((0, 0), 0)
def entV (e : En) : Value := .agg #[.int .u32 (e.1.1 : Int), .int .i64 e.1.2, .int .i64 e.2]
theorem near_start (w1 : World) {B : Nat} (hB : B = w1.heap.size) : NearI B [] [] ((w1.alloc (.cells #[.int .u32 0, .int .i64 0, .int .i64 0] 51)).alloc (.cells #[.bool false] 4)) := by
  subst hB
  exact ⟨(Below.heap_alloc _ _ _ (by simp)).trans (heap_alloc_new _ _), by have := heap_alloc_new (w1.alloc (.cells #[.int .u32 0, .int .i64 0, .int .i64 0] 51)) (.cells #[.bool false] 4); simpa using this⟩
theorem heap2 (w : World) (o1 o2 o3 o4 : Obj) : ((((w.alloc o1).alloc o2).alloc o3).alloc o4).heap[w.heap.size + 1]? = some o2 := by
  rw [Below.heap_alloc _ _ _ (by simp), Below.heap_alloc _ _ _ (by simp)]
  have := heap_alloc_new (w.alloc o1) o2
  simpa using this
theorem nearest_any (t : Value) (E : List En) (gs : List Nat) (w : World) (b : Nat) (hb : b < 4294967296) (m : Int) (hm : I64 m) (h : TrieO w t E gs) (hgs : ∀ g ∈ gs, g < w.heap.size) (hlen : E.length ≤ 1000) :
    Calls Try.prog 82 #[t, .agg #[.int .u32 b, .int .i64 m]] w fun en w' => en = .returned (.tuple #[entV (lastOf (E.filter (fun x => C x.1 (b, m)))), .bool (!(E.filter (fun x => C x.1 (b, m))).isEmpty)]) ∧ Below w.heap.size w w' := by
  have HT : Hid (∀ W, Below w.heap.size w W → TrieO W t E gs) := fun W h1 => h.below h1
  have HG := Lib.hid hgs
  have hpt : ∃ u, t = .pointer u := by
    rcases h with ⟨rfl, _⟩ | ⟨g0, root, T, gs0, rfl, _⟩
    · exact ⟨_, rfl⟩
    · exact ⟨_, rfl⟩
  obtain ⟨u, rfl⟩ := hpt
  clear h hgs
  have b4 := fun o1 o2 o3 o4 => below_then (below3 w o1 o2 o3) (below_alloc _ o4)
  have HB4 := Lib.hid b4
  clear b4
  go_enter Try.func82, Try.ntmps82
  go_wp2_with (first
    | (go_at_call 115; refine (absN (w.heap.size + 2) [] _ E gs _ b hb m hm (near_start _ (by simp)) (HT.out _ (HB4.out _ _ _ _)) (fun g hg => by have := HG.out g hg; omega) (by simpa using hlen)).mono ?_; rintro e w1 ⟨rfl, hi1, hch1⟩
       have I1 := Lib.hid hi1
       have C1 := Lib.hid hch1
       clear hi1 hch1))
  have hr : w1.heap[w.heap.size + 1]? = some (.cells #[.int .u32 0, .int .i64 0, .int .i64 0] 51 (0, 0)) := (C1.out.block (w.heap.size + 1) (by simp) (.inl (by omega))).trans (heap2 w _ _ _ _)
  have r0 : w1.cell? ⟨w.heap.size + 1, 0, none⟩ = some (.int .u32 0) := by simp [World.cell?, hr]
  have r1 : w1.cell? ⟨w.heap.size + 1, 1, none⟩ = some (.int .i64 0) := by simp [World.cell?, hr]
  have r2 : w1.cell? ⟨w.heap.size + 1, 2, none⟩ = some (.int .i64 0) := by simp [World.cell?, hr]
  have rf : ∀ o, w1.frozen? ⟨w.heap.size + 1, o, none⟩ = false := fun o => by simp [World.frozen?, hr]
  obtain ⟨i0, i1⟩ := I1.out
  rw [List.nil_append] at i0 i1
  obtain ⟨⟨⟨xa, xn⟩, xv⟩, hx⟩ : ∃ x, lastOf (E.filter (fun x => C x.1 (b, m))) = x := ⟨_, rfl⟩
  obtain ⟨z, hz⟩ : ∃ z, (!(E.filter (fun x => C x.1 (b, m))).isEmpty) = z := ⟨_, rfl⟩
  have hx' : (E.filter (fun x => C x.1 (b, m))).getLastD ((0, 0), 0) = ((xa, xn), xv) := hx
  rw [hx'] at i0
  rw [hz] at i1
  have e0 : w1.cell? ⟨w.heap.size + 1 + 1, 0, none⟩ = some (.int .u32 xa) := by simp only [World.cell?, i0]; rfl
  have e1 : w1.cell? ⟨w.heap.size + 1 + 1, 1, none⟩ = some (.int .i64 xn) := by simp only [World.cell?, i0]; rfl
  have e2 : w1.cell? ⟨w.heap.size + 1 + 1, 2, none⟩ = some (.int .i64 xv) := by simp only [World.cell?, i0]; rfl
  have e3 : w1.cell? ⟨w.heap.size + 1 + 1 + 1, 0, none⟩ = some (.bool z) := by simp only [World.cell?, i1]; rfl
  have HX := Lib.hid hx
  have HZ := Lib.hid hz
  have hB : Below w.heap.size w w1 := (HB4.out _ _ _ _).trans (C1.out.below (by omega) (by simp; omega))
  have HBB := Lib.hid hB
  clear hx hz hx' i0 i1 hr hB
  go_region
  all_goals go_wp2
  all_goals refine bodyPost_ret (v := .tuple #[.agg #[.int .u32 xa, .int .i64 xn, .int .i64 xv], .bool z]) (by simp [results, Try.results82, go_sem, *]) rfl ⟨by rw [HX.out, HZ.out]; rfl, ?_⟩
  all_goals first | exact (((HBB.out.drew).setCell (by simp) _).setCell (by simp) _).setCell (by simp) _ | exact (((HBB.out.setCell (by simp) _).setCell (by simp) _).setCell (by simp) _).drew
end Go.Proofs.Ytegponbmelgngaa
