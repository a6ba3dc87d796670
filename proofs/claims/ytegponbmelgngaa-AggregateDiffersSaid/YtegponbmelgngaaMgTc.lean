/-
  The walk of the trie's visitAbove, with nearest's closure as the visitor.
  The trie as a value: New, Len, nearest, Lookup.
  The trie's methods: Lookup, Get, Above, Under, All, Put, Drop.
-/
import Derived.Test.YtegponbmelgngaaMgTb
import Derived.Deep.LoopGhost
import Derived.RegionTactic
section
namespace Go.Proofs.Ytegponbmelgngaa
open Go.RowKit
set_option linter.unusedSimpArgs false
set_option linter.unusedVariables false
set_option maxHeartbeats 4000000
set_option maxRecDepth 100000

theorem abvN_any (B : Nat) (P : List Nat) (L : List En) (T : Sh) (w : World) (g0 : Nat) (root : Value) (sz : Int) (gs : List Nat) (b : Nat) (hb : b < 4294967296) (m : Int) (hm : I64 m) (hI : NearI B P L w) (hT : w.heap[g0]? = some (.cells #[root, .int .i64 sz] 88 (0, 0))) (hg0 : g0 < B)
    (hl : Lies w T root gs) (hgs : ∀ g ∈ gs, g < B) (hw : WF T) (hlen : L.length + (ents T).length ≤ 1000) (hP : ∀ m ∈ P, m < w.heap.size ∧ B + 1 < m) :
    Calls Try.prog 115 #[.pointer (some ⟨g0, 0, none⟩), .agg #[.int .u32 b, .int .i64 m], .func (.func 116) #[] #[.pointer (some ⟨B, 0, none⟩), .pointer (some ⟨B + 1, 0, none⟩)]] w fun en w' => en = .returned (.tuple #[]) ∧ NearI B P (L ++ abv (b, m) T) w' ∧ Ch B P w w' := by
  have hBlt : B + 1 < w.heap.size := hI.lt
  have hcT : w.cell? ⟨g0, 0, none⟩ = some root := by simp [World.cell?, hT]
  have hg0lt := lt_of_block hT
  obtain ⟨u0, rfl⟩ := hl.ptr
  have hct : ∀ o, (w.alloc o).cell? ⟨g0, 0, none⟩ = some (.pointer u0) := fun o => carry (below_alloc _ _) hcT
  have B0 := Lib.hid (below_alloc w (.cells #[.int .u32 (b : Int), .int .i64 m] 28))
  have I0 : Hid (NearI B (w.heap.size :: P) L (w.alloc (.cells #[.int .u32 (b : Int), .int .i64 m] 28))) := (hI.more (Nat.le_refl _)).below B0.out
  have L0 := Lib.hid (hl.below B0.out)
  have HP : Hid (∀ W : World, w.heap.size + 1 ≤ W.heap.size → ∀ k ∈ w.heap.size :: P, k < W.heap.size ∧ B + 1 < k) := fun W hW k hk => by
    rcases List.mem_cons.1 hk with rfl | hk
    · exact ⟨by omega, hBlt⟩
    · exact ⟨by have := (hP k hk).1; omega, (hP k hk).2⟩
  have HG := Lib.hid hgs
  have HW := Lib.hid hw
  have HN := Lib.hid hlen
  clear hI hT hl hgs hw hlen hP hcT
  go_enter Try.func115, Try.ntmps115
  go_wp2
  go_loopg [6] T.sz (fun g s6 wr => ∃ (T' : Sh) (L' : List En) (gs' : List Nat), T'.sz ≤ g ∧ Lies wr T' s6 gs' ∧ (∀ k ∈ gs', k < B) ∧ WF T' ∧ NearI B (w.heap.size :: P) L' wr ∧ Ch B (w.heap.size :: P) (w.alloc (.cells #[.int .u32 (b : Int), .int .i64 m] 28)) wr ∧ L' ++ abv (b, m) T' = L ++ abv (b, m) T ∧ L'.length + (ents T').length ≤ 1000)
  case atStart => exact ⟨T, L, gs, Nat.le_refl _, L0.out, HG.out, HW.out, I0.out, Ch.refl _ _ _, rfl, HN.out⟩
  case round =>
    obtain ⟨T', L', gs', hg, hl, hgs, hw, hI, hCh, hEq, hlen⟩ := hrel
    have HI := Lib.hid hI
    have HE := Lib.hid hEq
    have HCh := Lib.hid hCh
    have hsz : w.heap.size + 1 ≤ wr.heap.size := by have := hCh.size; simpa using this
    have HSZ := Lib.hid hsz
    have HG' := Lib.hid hgs
    have HN' := Lib.hid hlen
    have cB0 : wr.cell? ⟨w.heap.size, 0, none⟩ = some (.int .u32 b) := hCh.carry (.inr (by simp)) (by simp)
    have cB1 : wr.cell? ⟨w.heap.size, 1, none⟩ = some (.int .i64 m) := hCh.carry (.inr (by simp)) (by simp)
    clear hI hEq hCh hgs hsz hlen hg0lt
    have fin : ∀ w1, Below wr.heap.size wr w1 → abv (b, m) T' = [] → NearI B P (L ++ abv (b, m) T) w1 ∧ Ch B P w w1 := fun w1 h1 h0 => by
      have e := HE.out
      rw [h0, List.append_nil] at e
      rw [← e]
      exact ⟨(HI.out.below h1).less, ((Ch.of_below B0.out).trans HCh.out.less).then h1⟩
    have FIN := Lib.hid fin
    clear fin
    cases T' with
    | nil =>
      obtain ⟨rfl, rfl⟩ := hl
      go_wp2_with (go_at_call 112; refine (covN_nil b m _).mono ?_; rintro e w1 ⟨rfl, hb1⟩; have X := Lib.hid (FIN.out w1 hb1 rfl); clear hb1)
      go_end0
      exact ⟨rfl, X.out⟩
    | node q x s l r =>
      obtain ⟨g, c, d, gl, gr, rfl, rfl, hn, hl, hr⟩ := hl
      obtain ⟨hq, hUl, hUr, wl, wr'⟩ := hw
      obtain ⟨u1, rfl⟩ := hl.ptr
      obtain ⟨u2, rfl⟩ := hr.ptr
      have hgB : g < B := HG'.out g (by simp)
      have HNo := Lib.hid hn
      have HLl := Lib.hid hl
      have HLr := Lib.hid hr
      have HWl := Lib.hid wl
      have HWr := Lib.hid wr'
      have HQ := Lib.hid hq
      have hJ := (V_iff _).1 hq.2
      have hqI : I64 q.2 := by have h1 := hJ.1; have h2 := hJ.2.1; constructor <;> omega
      have HC : Hid (∀ W, IsNode W g q x s (.pointer u1) (.pointer u2) → Calls Try.prog 112 #[.pointer (some ⟨g, 0, none⟩), .agg #[.int .u32 b, .int .i64 m]] W fun e w' => e = .returned (.bool (C q (b, m))) ∧ Below W.heap.size W w') :=
        fun W h => covN_any hq b hb m hm W h
      clear hn hl hr hUl hUr wl wr' hq hJ
      cases hc : C q (b, m)
      · have H0 := Lib.hid (show abv (b, m) (.node q x s l r) = [] by rw [abv, hc]; rfl)
        rw [hc] at HC
        clear hc
        go_wp2_with (go_at_call 112; refine (HC.out _ HNo.out).mono ?_; rintro e w1 ⟨rfl, hb1⟩; have X := Lib.hid (FIN.out w1 hb1 H0.out); clear hb1)
        go_end0
        exact ⟨rfl, X.out⟩
      · have ha2 := atZ_le b q.2
        rw [hc] at HC
        have HA : Hid (∀ k : Nat, atZ b q.2 = k → abv (b, m) (.node q x s l r) = (if s then [(q, x)] else []) ++ (if k = 0 then abv (b, m) l else abv (b, m) r)) := fun k hk => by rw [abv, hc, hk]; rfl
        have HEL : Hid ((ents (.node q x s l r)).length = (if s then 1 else 0) + ((ents l).length + (ents r).length)) := by unfold Hid; rw [ents_node, List.length_append, List.length_append]; cases s <;> rfl
        clear hc
        rcases (by omega : atZ b q.2 = 0 ∨ atZ b q.2 = 1) with h0 | h0
        all_goals
          have H0 := Lib.hid h0
          clear h0
          cases s
        all_goals
          have hz := HA.out _ H0.out
          simp only [Bool.false_eq_true, if_true, if_false, List.nil_append] at hz
          have HZ := Lib.hid hz
          clear hz
        · go_wp2_with (first
            | (go_at_call 112; refine (HC.out _ HNo.out).mono ?_; rintro e w1 ⟨rfl, hb1⟩
               have N1 := Lib.hid (HNo.out.below hb1)
               have B1 := Lib.hid hb1
               have k3 := N1.out.cells.2.2.2.1
               have k0 := N1.out.cells.1
               have k1 := N1.out.cells.2.1
               have k2 := N1.out.cells.2.2.1
               have c0 := carry hb1 cB0
               have c1 := carry hb1 cB1
               have I1 := Lib.hid (HI.out.below hb1)
               clear hb1)
            | (go_at_call 114; refine (toward_0 b hb m _ hqI N1.out H0.out).mono ?_; rintro e w3 ⟨rfl, hb3⟩
               have N3 := Lib.hid (N1.out.below hb3)
               have B3 := Lib.hid hb3
               have k4 := N3.out.cells.2.2.2.2.1
               clear hb3))
          go_roundg l.sz
          case measure => simp only [Sh.sz] at hg; omega
          case rel =>
            refine ⟨l, L', gl, Nat.le_refl _, (HLl.out.below B1.out).below B3.out, fun k hk => HG'.out k (by simp [hk]), HWl.out, I1.out.below B3.out, (HCh.out.then B1.out).then B3.out, ?_, ?_⟩
            · rw [← HE.out, HZ.out] <;> rfl
            · have h1 := HN'.out; have h2 := HEL.out; simp at h2; omega
        · go_wp2_with (first
            | (go_at_call 112; refine (HC.out _ HNo.out).mono ?_; rintro e w1 ⟨rfl, hb1⟩
               have N1 := Lib.hid (HNo.out.below hb1)
               have B1 := Lib.hid hb1
               have k3 := N1.out.cells.2.2.2.1
               have k0 := N1.out.cells.1
               have k1 := N1.out.cells.2.1
               have k2 := N1.out.cells.2.2.1
               have c0 := carry hb1 cB0
               have c1 := carry hb1 cB1
               have I1 := Lib.hid (HI.out.below hb1)
               clear hb1)
            | (go_at_call 116; refine (near_any B (w.heap.size :: P) L' (q, x) _ I1.out (by have := HN'.out; omega) (HP.out _ (Nat.le_trans HSZ.out B1.out.size))).mono ?_; rintro e w2 ⟨rfl, hi2, hch2⟩
               have I2 := Lib.hid hi2
               have C2 := Lib.hid hch2
               have N2 := Lib.hid (N1.out.ch hch2 hgB)
               have d0 : w2.cell? ⟨w.heap.size, 0, none⟩ = some (.int .u32 b) := hch2.carry (.inr (by simp)) c0
               have d1 : w2.cell? ⟨w.heap.size, 1, none⟩ = some (.int .i64 m) := hch2.carry (.inr (by simp)) c1
               clear hi2 hch2)
            | (go_at_call 114; refine (toward_0 b hb m _ hqI N2.out H0.out).mono ?_; rintro e w3 ⟨rfl, hb3⟩
               have N3 := Lib.hid (N2.out.below hb3)
               have B3 := Lib.hid hb3
               have k4 := N3.out.cells.2.2.2.2.1
               clear hb3))
          go_roundg l.sz
          case measure => simp only [Sh.sz] at hg; omega
          case rel =>
            refine ⟨l, L' ++ [(q, x)], gl, Nat.le_refl _, (HLl.out.below B1.out).ch C2.out (fun k hk => HG'.out k (by simp [hk])) |>.below B3.out, fun k hk => HG'.out k (by simp [hk]), HWl.out, I2.out.below B3.out, ((HCh.out.then B1.out).trans C2.out).then B3.out, ?_, ?_⟩
            · rw [List.append_assoc, ← HE.out, HZ.out] <;> rfl
            · have h1 := HN'.out; have h2 := HEL.out; rw [List.length_append]; simp at h2 ⊢; omega
        · go_wp2_with (first
            | (go_at_call 112; refine (HC.out _ HNo.out).mono ?_; rintro e w1 ⟨rfl, hb1⟩
               have N1 := Lib.hid (HNo.out.below hb1)
               have B1 := Lib.hid hb1
               have k3 := N1.out.cells.2.2.2.1
               have k0 := N1.out.cells.1
               have k1 := N1.out.cells.2.1
               have k2 := N1.out.cells.2.2.1
               have c0 := carry hb1 cB0
               have c1 := carry hb1 cB1
               have I1 := Lib.hid (HI.out.below hb1)
               clear hb1)
            | (go_at_call 114; refine (toward_1 b hb m _ hqI N1.out H0.out).mono ?_; rintro e w3 ⟨rfl, hb3⟩
               have N3 := Lib.hid (N1.out.below hb3)
               have B3 := Lib.hid hb3
               have k4 := N3.out.cells.2.2.2.2.2
               clear hb3))
          go_roundg r.sz
          case measure => simp only [Sh.sz] at hg; omega
          case rel =>
            refine ⟨r, L', gr, Nat.le_refl _, (HLr.out.below B1.out).below B3.out, fun k hk => HG'.out k (by simp [hk]), HWr.out, I1.out.below B3.out, (HCh.out.then B1.out).then B3.out, ?_, ?_⟩
            · rw [← HE.out, HZ.out] <;> rfl
            · have h1 := HN'.out; have h2 := HEL.out; simp at h2; omega
        · go_wp2_with (first
            | (go_at_call 112; refine (HC.out _ HNo.out).mono ?_; rintro e w1 ⟨rfl, hb1⟩
               have N1 := Lib.hid (HNo.out.below hb1)
               have B1 := Lib.hid hb1
               have k3 := N1.out.cells.2.2.2.1
               have k0 := N1.out.cells.1
               have k1 := N1.out.cells.2.1
               have k2 := N1.out.cells.2.2.1
               have c0 := carry hb1 cB0
               have c1 := carry hb1 cB1
               have I1 := Lib.hid (HI.out.below hb1)
               clear hb1)
            | (go_at_call 116; refine (near_any B (w.heap.size :: P) L' (q, x) _ I1.out (by have := HN'.out; omega) (HP.out _ (Nat.le_trans HSZ.out B1.out.size))).mono ?_; rintro e w2 ⟨rfl, hi2, hch2⟩
               have I2 := Lib.hid hi2
               have C2 := Lib.hid hch2
               have N2 := Lib.hid (N1.out.ch hch2 hgB)
               have d0 : w2.cell? ⟨w.heap.size, 0, none⟩ = some (.int .u32 b) := hch2.carry (.inr (by simp)) c0
               have d1 : w2.cell? ⟨w.heap.size, 1, none⟩ = some (.int .i64 m) := hch2.carry (.inr (by simp)) c1
               clear hi2 hch2)
            | (go_at_call 114; refine (toward_1 b hb m _ hqI N2.out H0.out).mono ?_; rintro e w3 ⟨rfl, hb3⟩
               have N3 := Lib.hid (N2.out.below hb3)
               have B3 := Lib.hid hb3
               have k4 := N3.out.cells.2.2.2.2.2
               clear hb3))
          go_roundg r.sz
          case measure => simp only [Sh.sz] at hg; omega
          case rel =>
            refine ⟨r, L' ++ [(q, x)], gr, Nat.le_refl _, (HLr.out.below B1.out).ch C2.out (fun k hk => HG'.out k (by simp [hk])) |>.below B3.out, fun k hk => HG'.out k (by simp [hk]), HWr.out, I2.out.below B3.out, ((HCh.out.then B1.out).trans C2.out).then B3.out, ?_, ?_⟩
            · rw [List.append_assoc, ← HE.out, HZ.out] <;> rfl
            · have h1 := HN'.out; have h2 := HEL.out; rw [List.length_append]; simp at h2 ⊢; omega

end Go.Proofs.Ytegponbmelgngaa
end

section
namespace Go.Proofs.Ytegponbmelgngaa
open Go.RowKit
set_option linter.unusedSimpArgs false
set_option linter.unusedVariables false
set_option maxHeartbeats 4000000
set_option maxRecDepth 100000

def IsTrie (w : World) (g : Nat) (root : Value) (sz : Int) : Prop := w.heap[g]? = some (.cells #[root, .int .i64 sz] 88 (0, 0))
/-- a trie in memory: its pointer, its entries, its blocks -/
def TrieR (w : World) (t : Value) (E : List En) (gs : List Nat) : Prop :=
  ∃ g0 root T gs0, t = .pointer (some ⟨g0, 0, none⟩) ∧ gs = g0 :: gs0 ∧ IsTrie w g0 root ((ents T).length : Nat) ∧ Lies w T root gs0 ∧ gs.Nodup ∧ WF T ∧ ents T = E
/-- a trie or nil -/
def TrieO (w : World) (t : Value) (E : List En) (gs : List Nat) : Prop := (t = .pointer none ∧ E = [] ∧ gs = []) ∨ TrieR w t E gs
theorem TrieR.lt {w : World} {t : Value} {E : List En} {gs : List Nat} (h : TrieR w t E gs) : ∀ g ∈ gs, g < w.heap.size := by
  obtain ⟨g0, root, T, gs0, rfl, rfl, hT, hl, _, _, _⟩ := h
  intro g hg
  rcases List.mem_cons.1 hg with rfl | hg
  · exact lt_of_block hT
  · exact hl.lt g hg
theorem TrieR.congr {w w' : World} {t : Value} {E : List En} {gs : List Nat} (h : TrieR w t E gs) (hk : ∀ g ∈ gs, w'.heap[g]? = w.heap[g]?) : TrieR w' t E gs := by
  obtain ⟨g0, root, T, gs0, rfl, rfl, hT, hl, hn, hw, he⟩ := h
  exact ⟨g0, root, T, gs0, rfl, rfl, (hk g0 (by simp)).trans hT, hl.congr fun g hg => hk g (by simp [hg]), hn, hw, he⟩
theorem TrieR.below {w w' : World} {t : Value} {E : List En} {gs : List Nat} (h : TrieR w t E gs) (k : Below w.heap.size w w') : TrieR w' t E gs := h.congr fun g hg => k.block g (h.lt g hg)
theorem TrieR.kp {S : List Nat} {w w' : World} {t : Value} {E : List En} {gs : List Nat} (h : TrieR w t E gs) (k : Kp S w w') (hn : ∀ g ∈ gs, g ∉ S) : TrieR w' t E gs := h.congr fun g hg => k.block g (h.lt g hg) (hn g hg)
theorem TrieO.below {w w' : World} {t : Value} {E : List En} {gs : List Nat} (h : TrieO w t E gs) (k : Below w.heap.size w w') : TrieO w' t E gs := h.imp id (fun h => h.below k)
theorem TrieR.asc {w : World} {t : Value} {E : List En} {gs : List Nat} (h : TrieR w t E gs) : AscE E := by
  obtain ⟨g0, root, T, gs0, rfl, rfl, hT, hl, hn, hw, rfl⟩ := h
  exact ents_asc hw
theorem TrieO.asc {w : World} {t : Value} {E : List En} {gs : List Nat} (h : TrieO w t E gs) : AscE E := by
  rcases h with ⟨_, rfl, _⟩ | h
  · exact List.Pairwise.nil
  · exact h.asc
theorem TrieR.ptr {w : World} {t : Value} {E : List En} {gs : List Nat} (h : TrieR w t E gs) : ∃ g, t = .pointer (some ⟨g, 0, none⟩) ∧ g ∈ gs := by
  obtain ⟨g0, root, T, gs0, rfl, rfl, _⟩ := h
  exact ⟨g0, rfl, by simp⟩

theorem new_any (w : World) : Calls Try.prog 41 #[] w fun en w' => ∃ t gs, en = .returned t ∧ TrieR w' t [] gs ∧ (∀ g ∈ gs, w.heap.size ≤ g) ∧ Below w.heap.size w w' := by
  go_enter Try.func41, Try.ntmps41
  go_wp2
  go_ret
  exact ⟨_, [w.heap.size], rfl, ⟨w.heap.size, .pointer none, .nil, [], rfl, rfl, heap_alloc_new _ _, ⟨rfl, rfl⟩, by simp, trivial, rfl⟩, by simp, below_alloc _ _⟩
theorem len_any (t : Value) (E : List En) (gs : List Nat) (w : World) (h : TrieO w t E gs) :
    Calls Try.prog 44 #[t] w fun en w' => en = .returned (.int .i64 (E.length : Nat)) ∧ w = w' := by
  rcases h with ⟨rfl, rfl, _⟩ | ⟨g0, root, T, gs0, rfl, rfl, hT, hl, hn, hw, rfl⟩
  · go_enter Try.func44, Try.ntmps44
    go_wp2
    go_ret
    exact ⟨rfl, rfl⟩
  · have hc : w.cell? ⟨g0, 1, none⟩ = some (.int .i64 ((ents T).length : Nat)) := by unfold IsTrie at hT; simp [World.cell?, hT]
    clear hT hl
    go_enter Try.func44, Try.ntmps44
    go_wp2
    go_ret
    exact ⟨rfl, rfl⟩

/-! the walks up over a trie that may be nil -/
theorem absC_nil (w : World) (b : Nat) (m : Int) (fv : Value) : Calls Try.prog 115 #[.pointer none, .agg #[.int .u32 b, .int .i64 m], fv] w fun en w' => en = .returned (.tuple #[]) ∧ Below w.heap.size w w' := by
  go_enter Try.func115, Try.ntmps115
  go_wp2
  (try simp only [Exit.inBlock, Exit.then]); refine bodyPost_ret (results_none rfl _ _ _) rfl ?_
  exact ⟨rfl, below_alloc _ _⟩
theorem absN (B : Nat) (L : List En) (t : Value) (E : List En) (gs : List Nat) (w : World) (b : Nat) (hb : b < 4294967296) (m : Int) (hm : I64 m) (hI : NearI B [] L w) (h : TrieO w t E gs) (hgs : ∀ g ∈ gs, g < B) (hlen : L.length + E.length ≤ 1000) :
    Calls Try.prog 115 #[t, .agg #[.int .u32 b, .int .i64 m], .func (.func 116) #[] #[.pointer (some ⟨B, 0, none⟩), .pointer (some ⟨B + 1, 0, none⟩)]] w fun en w' => en = .returned (.tuple #[]) ∧ NearI B [] (L ++ E.filter (fun x => C x.1 (b, m))) w' ∧ Ch B [] w w' := by
  rcases h with ⟨rfl, rfl, _⟩ | ⟨g0, root, T, gs0, rfl, rfl, hT, hl, hn, hw, rfl⟩
  · exact (absC_nil w b m _).mono fun en w' ⟨h1, h2⟩ => ⟨h1, by simpa using hI.below h2, Ch.of_below h2⟩
  · rw [← abv_eq (b, m) hw]
    exact abvN_any B [] L T w g0 root _ gs0 b hb m hm hI hT (hgs g0 (by simp)) hl (fun g hg => hgs g (by simp [hg])) hw hlen (fun k hk => (by cases hk))

def lastOf (l : List En) : En := l.getLastD ((0, 0), 0)
def entV (e : En) : Value := .agg #[.int .u32 (e.1.1 : Int), .int .i64 e.1.2, .int .i64 e.2]
theorem near_start (w1 : World) {B : Nat} (hB : B = w1.heap.size) : NearI B [] [] ((w1.alloc (.cells #[.int .u32 0, .int .i64 0, .int .i64 0] 51)).alloc (.cells #[.bool false] 4)) := by
  subst hB
  exact ⟨(Below.heap_alloc _ _ _ (by simp)).trans (heap_alloc_new _ _), by have := heap_alloc_new (w1.alloc (.cells #[.int .u32 0, .int .i64 0, .int .i64 0] 51)) (.cells #[.bool false] 4); simpa using this⟩
theorem heap2 (w : World) (o1 o2 o3 o4 : Obj) : ((((w.alloc o1).alloc o2).alloc o3).alloc o4).heap[w.heap.size + 1]? = some o2 := by
  rw [Below.heap_alloc _ _ _ (by simp), Below.heap_alloc _ _ _ (by simp)]
  have := heap_alloc_new (w.alloc o1) o2
  simpa using this
theorem nearest_any (t : Value) (E : List En) (gs : List Nat) (w : World) (b : Nat) (hb : b < 4294967296) (m : Int) (hm : I64 m) (h : TrieO w t E gs) (hgs : ∀ g ∈ gs, g < w.heap.size) (hlen : E.length ≤ 1000) :
    Calls Try.prog 82 #[t, .agg #[.int .u32 b, .int .i64 m]] w fun en w' => en = .returned (.tuple #[entV (lastOf (E.filter (fun x => C x.1 (b, m)))), .bool (!(E.filter (fun x => C x.1 (b, m))).isEmpty)]) ∧ Below w.heap.size w w' := by
  have HT : Hid (∀ W, Below w.heap.size w W → TrieO W t E gs) := fun W h1 => h.below h1
  have HG := Lib.hid hgs
  have hpt : ∃ u, t = .pointer u := by
    rcases h with ⟨rfl, _⟩ | ⟨g0, root, T, gs0, rfl, _⟩
    · exact ⟨_, rfl⟩
    · exact ⟨_, rfl⟩
  obtain ⟨u, rfl⟩ := hpt
  clear h hgs
  have b4 := fun o1 o2 o3 o4 => below_then (below3 w o1 o2 o3) (below_alloc _ o4)
  have HB4 := Lib.hid b4
  clear b4
  go_enter Try.func82, Try.ntmps82
  go_wp2_with (first
    | (go_at_call 115; refine (absN (w.heap.size + 2) [] _ E gs _ b hb m hm (near_start _ (by simp)) (HT.out _ (HB4.out _ _ _ _)) (fun g hg => by have := HG.out g hg; omega) (by simpa using hlen)).mono ?_; rintro e w1 ⟨rfl, hi1, hch1⟩
       have I1 := Lib.hid hi1
       have C1 := Lib.hid hch1
       clear hi1 hch1))
  have hr : w1.heap[w.heap.size + 1]? = some (.cells #[.int .u32 0, .int .i64 0, .int .i64 0] 51 (0, 0)) := (C1.out.block (w.heap.size + 1) (by simp) (.inl (by omega))).trans (heap2 w _ _ _ _)
  have r0 : w1.cell? ⟨w.heap.size + 1, 0, none⟩ = some (.int .u32 0) := by simp [World.cell?, hr]
  have r1 : w1.cell? ⟨w.heap.size + 1, 1, none⟩ = some (.int .i64 0) := by simp [World.cell?, hr]
  have r2 : w1.cell? ⟨w.heap.size + 1, 2, none⟩ = some (.int .i64 0) := by simp [World.cell?, hr]
  have rf : ∀ o, w1.frozen? ⟨w.heap.size + 1, o, none⟩ = false := fun o => by simp [World.frozen?, hr]
  obtain ⟨i0, i1⟩ := I1.out
  rw [List.nil_append] at i0 i1
  obtain ⟨⟨⟨xa, xn⟩, xv⟩, hx⟩ : ∃ x, lastOf (E.filter (fun x => C x.1 (b, m))) = x := ⟨_, rfl⟩
  obtain ⟨z, hz⟩ : ∃ z, (!(E.filter (fun x => C x.1 (b, m))).isEmpty) = z := ⟨_, rfl⟩
  have hx' : (E.filter (fun x => C x.1 (b, m))).getLastD ((0, 0), 0) = ((xa, xn), xv) := hx
  rw [hx'] at i0
  rw [hz] at i1
  have e0 : w1.cell? ⟨w.heap.size + 1 + 1, 0, none⟩ = some (.int .u32 xa) := by simp only [World.cell?, i0]; rfl
  have e1 : w1.cell? ⟨w.heap.size + 1 + 1, 1, none⟩ = some (.int .i64 xn) := by simp only [World.cell?, i0]; rfl
  have e2 : w1.cell? ⟨w.heap.size + 1 + 1, 2, none⟩ = some (.int .i64 xv) := by simp only [World.cell?, i0]; rfl
  have e3 : w1.cell? ⟨w.heap.size + 1 + 1 + 1, 0, none⟩ = some (.bool z) := by simp only [World.cell?, i1]; rfl
  have HX := Lib.hid hx
  have HZ := Lib.hid hz
  have hB : Below w.heap.size w w1 := (HB4.out _ _ _ _).trans (C1.out.below (by omega) (by simp; omega))
  have HBB := Lib.hid hB
  clear hx hz hx' i0 i1 hr hB
  go_region
  all_goals go_wp2
  all_goals refine bodyPost_ret (v := .tuple #[.agg #[.int .u32 xa, .int .i64 xn, .int .i64 xv], .bool z]) (by simp [results, Try.results82, go_sem, *]) rfl ⟨by rw [HX.out, HZ.out]; rfl, ?_⟩
  all_goals first | exact (((HBB.out.drew).setCell (by simp) _).setCell (by simp) _).setCell (by simp) _ | exact (((HBB.out.setCell (by simp) _).setCell (by simp) _).setCell (by simp) _).drew
end Go.Proofs.Ytegponbmelgngaa
end

section
namespace Go.Proofs.Ytegponbmelgngaa
open Go.RowKit
set_option linter.unusedSimpArgs false
set_option linter.unusedVariables false
set_option maxHeartbeats 4000000
set_option maxRecDepth 100000

/-- a slice of entries as the memory reads -/
def RdE (w : World) (v : Value) (l : List En) : Prop :=
  ∃ ad cap, v = .slice ad l.length cap ∧ ∀ k x, l[k]? = some x → ∃ b off, ad = some ⟨b, off, none⟩ ∧ b < w.heap.size ∧ w.cell? ⟨b, off + k * 3, none⟩ = some (.int .u32 (x.1.1 : Int)) ∧ w.cell? ⟨b, off + k * 3 + 1, none⟩ = some (.int .i64 x.1.2) ∧ w.cell? ⟨b, off + k * 3 + 2, none⟩ = some (.int .i64 x.2)
theorem RdE.below {w w' : World} {v : Value} {l : List En} (h : RdE w v l) (hb : Below w.heap.size w w') : RdE w' v l := by
  obtain ⟨ad, cap, rfl, hc⟩ := h
  refine ⟨ad, cap, rfl, fun k x hk => ?_⟩
  obtain ⟨b, off, e, hlt, h0, h1, h2⟩ := hc k x hk
  exact ⟨b, off, e, Nat.lt_of_lt_of_le hlt hb.size, carry hb h0, carry hb h1, carry hb h2⟩
theorem rdE_nil (w : World) : RdE w (.slice none 0 0) [] := ⟨none, 0, rfl, fun k x h => by simp at h⟩
theorem flatE_get : ∀ (l : List En) (k : Nat) (x : En), l[k]? = some x → (flatE l)[k * 3]? = some (.int .u32 (x.1.1 : Int)) ∧ (flatE l)[k * 3 + 1]? = some (.int .i64 x.1.2) ∧ (flatE l)[k * 3 + 2]? = some (.int .i64 x.2)
  | [], k, x, h => by simp at h
  | y :: r, 0, x, h => by simp at h; subst h; simp [flatE, encE]
  | y :: r, k + 1, x, h => by
    have ih := flatE_get r k x (by simpa using h)
    have e : flatE (y :: r) = .int .u32 (y.1.1 : Int) :: .int .i64 y.1.2 :: .int .i64 y.2 :: flatE r := by simp [flatE, encE]
    rw [e, show (k + 1) * 3 = k * 3 + 1 + 1 + 1 by omega, show k * 3 + 1 + 1 + 1 + 1 = (k * 3 + 1) + 1 + 1 + 1 by omega, show k * 3 + 1 + 1 + 1 + 2 = (k * 3 + 2) + 1 + 1 + 1 by omega]
    simpa using ih
theorem rdE_own {w : World} {B : Nat} {v : Value} {l : List En} (h : w.ownsRow B 51 3 v l.length (flatE l)) : RdE w v l := by
  rcases h.2 with ⟨rfl, hn⟩ | ⟨g, cap, cur, rfl, hB, hg, hnc, _, _, _⟩
  · obtain rfl := List.length_eq_zero_iff.1 hn
    exact rdE_nil w
  · refine ⟨some ⟨g, 0, none⟩, cap, rfl, fun k x hk => ⟨g, 0, rfl, (Array.getElem?_eq_some_iff.1 hg).1, ?_, ?_, ?_⟩⟩
    all_goals
      have hlt := (List.getElem?_eq_some_iff.1 hk).1
      rw [Nat.zero_add]
    · rw [h.cellAt (k * 3) (by omega)]; exact (flatE_get l k x hk).1
    · rw [h.cellAt (k * 3 + 1) (by omega)]; exact (flatE_get l k x hk).2.1
    · rw [h.cellAt (k * 3 + 2) (by omega)]; exact (flatE_get l k x hk).2.2

/-- a slice of entries whose cells lie in blocks from B on -/
def RdF (B : Nat) (w : World) (v : Value) (l : List En) : Prop :=
  ∃ ad cap, v = .slice ad l.length cap ∧ ∀ k x, l[k]? = some x → ∃ b off, ad = some ⟨b, off, none⟩ ∧ B ≤ b ∧ b < w.heap.size ∧ w.cell? ⟨b, off + k * 3, none⟩ = some (.int .u32 (x.1.1 : Int)) ∧ w.cell? ⟨b, off + k * 3 + 1, none⟩ = some (.int .i64 x.1.2) ∧ w.cell? ⟨b, off + k * 3 + 2, none⟩ = some (.int .i64 x.2)
theorem RdF.rd {B : Nat} {w : World} {v : Value} {l : List En} (h : RdF B w v l) : RdE w v l := by
  obtain ⟨ad, cap, rfl, hc⟩ := h
  exact ⟨ad, cap, rfl, fun k x hk => by obtain ⟨b, off, h1, _, h2⟩ := hc k x hk; exact ⟨b, off, h1, h2⟩⟩
theorem RdF.less {B B' : Nat} {w : World} {v : Value} {l : List En} (h : RdF B w v l) (hB : B' ≤ B) : RdF B' w v l := by
  obtain ⟨ad, cap, rfl, hc⟩ := h
  exact ⟨ad, cap, rfl, fun k x hk => by obtain ⟨b, off, h1, h3, h2⟩ := hc k x hk; exact ⟨b, off, h1, Nat.le_trans hB h3, h2⟩⟩
theorem RdF.kp {B : Nat} {S : List Nat} {w w' : World} {v : Value} {l : List En} (h : RdF B w v l) (k : Kp S w w') (hS : ∀ g ∈ S, g < B) : RdF B w' v l := by
  obtain ⟨ad, cap, rfl, hc⟩ := h
  refine ⟨ad, cap, rfl, fun i x hi => ?_⟩
  obtain ⟨b, off, h1, h3, h4, h5, h6, h7⟩ := hc i x hi
  have hn : b ∉ S := fun hm => by have := hS b hm; omega
  exact ⟨b, off, h1, h3, Nat.lt_of_lt_of_le h4 k.size, k.carry hn h5, k.carry hn h6, k.carry hn h7⟩
theorem RdF.below {B : Nat} {w w' : World} {v : Value} {l : List En} (h : RdF B w v l) (hb : Below w.heap.size w w') : RdF B w' v l := h.kp (Kp.of_below (S := []) hb) (fun g hg => by cases hg)
theorem rdF_nil (B : Nat) (w : World) : RdF B w (.slice none 0 0) [] := ⟨none, 0, rfl, fun k x h => by simp at h⟩
theorem rdF_own {w : World} {B : Nat} {v : Value} {l : List En} (h : w.ownsRow B 51 3 v l.length (flatE l)) : RdF B w v l := by
  have hr := rdE_own h
  rcases h.2 with ⟨rfl, hn⟩ | ⟨g, cap, cur, rfl, hB, hg, hnc, _, _, _⟩
  · obtain rfl := List.length_eq_zero_iff.1 hn
    exact rdF_nil B w
  · obtain ⟨ad, cap', he, hc⟩ := hr
    refine ⟨ad, cap', he, fun k x hk => ?_⟩
    obtain ⟨b, off, h1, h2⟩ := hc k x hk
    refine ⟨b, off, h1, ?_, h2⟩
    rw [h1] at he
    cases he
    exact hB

theorem lookup_any (t : Value) (E : List En) (gs : List Nat) (w : World) (b : Nat) (hb : b < 4294967296) (h : TrieO w t E gs) (hgs : ∀ g ∈ gs, g < w.heap.size) (hlen : E.length ≤ 1000) :
    Calls Try.prog 43 #[t, .int .u32 b] w fun en w' => en = .returned (.tuple #[entV (lastOf (E.filter (fun x => C x.1 (b, 32)))), .bool (!(E.filter (fun x => C x.1 (b, 32))).isEmpty)]) ∧ Below w.heap.size w w' := by
  have hpt : ∃ u, t = .pointer u := by
    rcases h with ⟨rfl, _⟩ | ⟨g0, root, T, gs0, rfl, _⟩
    · exact ⟨_, rfl⟩
    · exact ⟨_, rfl⟩
  obtain ⟨u, rfl⟩ := hpt
  have HN : Hid (∀ W, Below w.heap.size w W → Calls Try.prog 82 #[.pointer u, .agg #[.int .u32 b, .int .i64 32]] W fun en w' => en = .returned (.tuple #[entV (lastOf (E.filter (fun x => C x.1 (b, 32)))), .bool (!(E.filter (fun x => C x.1 (b, 32))).isEmpty)]) ∧ Below W.heap.size W w') :=
    fun W hW => nearest_any _ E gs W b hb 32 (by constructor <;> omega) (h.below hW) (fun g hg => Nat.lt_of_lt_of_le (hgs g hg) hW.size) hlen
  obtain ⟨⟨⟨xa, xn⟩, xv⟩, hx⟩ : ∃ x, lastOf (E.filter (fun x => C x.1 (b, 32))) = x := ⟨_, rfl⟩
  obtain ⟨z, hz⟩ : ∃ z, (!(E.filter (fun x => C x.1 (b, 32))).isEmpty) = z := ⟨_, rfl⟩
  rw [hx, hz] at HN ⊢
  unfold entV at HN ⊢
  clear h hgs hlen hx hz
  go_enter Try.func43, Try.ntmps43
  go_wp2_with (go_at_call 82; refine (HN.out _ (below_alloc _ _)).mono ?_; rintro e w1 ⟨rfl, hb1⟩; obtain ⟨q1, r1⟩ := bcell hb1; have B1 := Lib.hid hb1; clear hb1)
  exact bodyPost_ret (v := .tuple #[.agg #[.int .u32 xa, .int .i64 xn, .int .i64 xv], .bool z]) (by simp [results, Try.results43, go_sem, *]) rfl ⟨rfl, (((below_then (below_alloc _ _) B1.out).setCell (by simp) _).setCell (by simp) _).setCell (by simp) _⟩

/-- the value of a prefix -/
def getE (l : List En) (p : PP) : Int × Bool := match l.find? (fun x => decide (x.1 = p)) with
  | some x => (x.2, true)
  | none => (0, false)
theorem getE_mem {l : List En} {p : PP} {x : En} (ha : AscE l) (hx : x ∈ l) (e : x.1 = p) : getE l p = (x.2, true) := by
  unfold getE
  cases h : l.find? (fun x => decide (x.1 = p)) with
  | none => have := List.find?_eq_none.1 h x hx; simp [e] at this
  | some y =>
    have h1 := List.mem_of_find?_eq_some h
    have h2 := List.find?_some h
    have : y = x := asc_inj ha h1 hx (by rw [e]; simpa using h2)
    rw [this]
theorem getE_none {l : List En} {p : PP} (h : ∀ x ∈ l, x.1 ≠ p) : getE l p = (0, false) := by
  unfold getE
  rw [List.find?_eq_none.2 (fun x hx => by simpa using h x hx)]
theorem lastOf_mem {l : List En} (h : l.isEmpty = false) : lastOf l ∈ l := by
  cases l with
  | nil => simp at h
  | cons x r => unfold lastOf; rw [List.getLastD_cons, ← List.getLast_eq_getLastD (List.cons_ne_nil x r)]; exact List.getLast_mem _
theorem lastOf_max : ∀ {l : List En}, AscE l → ∀ x ∈ l, x = lastOf l ∨ ltP x.1 (lastOf l).1
  | [], _, x, hx => by cases hx
  | [y], _, x, hx => by simp at hx; left; rw [hx]; rfl
  | y :: z :: r, ha, x, hx => by
    have ha' := List.pairwise_cons.1 ha
    have e : lastOf (y :: z :: r) = lastOf (z :: r) := rfl
    rw [e]
    rcases List.mem_cons.1 hx with rfl | hx
    · right; exact ha'.1 _ (lastOf_mem rfl)
    · exact lastOf_max ha'.2 x hx
/-- what Get reads off the last entry above a prefix -/
theorem getE_last {E : List En} (ha : AscE E) {p : PP} (hV : ∀ x ∈ E, V x.1 = true) : getE E p = if (E.filter (fun x => C x.1 p)).isEmpty = false ∧ (lastOf (E.filter (fun x => C x.1 p))).1 = p then ((lastOf (E.filter (fun x => C x.1 p))).2, true) else (0, false) := by
  by_cases h : ∃ x ∈ E, x.1 = p
  · obtain ⟨x, hx, e⟩ := h
    have hf : x ∈ E.filter (fun x => C x.1 p) := by rw [List.mem_filter]; exact ⟨hx, by rw [e]; exact C_refl (e ▸ hV x hx)⟩
    have hne : (E.filter (fun x => C x.1 p)).isEmpty = false := by cases hh : E.filter (fun x => C x.1 p) with
      | nil => rw [hh] at hf; cases hf
      | cons _ _ => rfl
    have hl := lastOf_mem hne
    have hl' := List.mem_filter.1 hl
    have hlast : lastOf (E.filter (fun x => C x.1 p)) = x := by
      rcases lastOf_max (asc_filter _ ha) x hf with h1 | h1
      · exact h1.symm
      · have h2 : C (lastOf (E.filter (fun x => C x.1 p))).1 p = true := hl'.2
        rw [e] at h1
        have := C_le h2
        have h3 := (C_V h2).2.2.1
        unfold ltP at h1; omega
    rw [if_pos ⟨hne, by rw [hlast]; exact e⟩, hlast]
    exact getE_mem ha hx e
  · rw [getE_none (fun x hx e => h ⟨x, hx, e⟩), if_neg]
    rintro ⟨h1, h2⟩
    exact h ⟨_, (List.mem_filter.1 (lastOf_mem h1)).1, h2⟩
theorem TrieO.valid {w : World} {t : Value} {E : List En} {gs : List Nat} (h : TrieO w t E gs) : ∀ x ∈ E, PV x.1 := by
  rcases h with ⟨_, rfl, _⟩ | ⟨g0, root, T, gs0, rfl, rfl, hT, hl, hn, hw, rfl⟩
  · intro x hx; cases hx
  · clear hl hT hn
    intro x hx
    induction T with
    | nil => cases hx
    | node q v s l r ihl ihr =>
      rw [ents_node] at hx
      rcases List.mem_append.1 hx with hx | hx
      · cases s <;> simp at hx; rw [hx]; exact hw.1
      · rcases List.mem_append.1 hx with hx | hx
        · exact ihl hw.2.2.2.1 hx
        · exact ihr hw.2.2.2.2 hx
end Go.Proofs.Ytegponbmelgngaa
end
