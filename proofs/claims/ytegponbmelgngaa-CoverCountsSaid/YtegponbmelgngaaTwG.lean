/-
  The walk of the trie's visitAbove, with nearest's closure as the visitor.
-/
import Derived.Test.YtegponbmelgngaaTwF
import Derived.Deep.LoopGhost
namespace Go.Proofs.Ytegponbmelgngaa
open Go.RowKit
set_option linter.unusedSimpArgs false
set_option linter.unusedVariables false
set_option maxHeartbeats 4000000
set_option maxRecDepth 100000

theorem abvN_any (B : Nat) (P : List Nat) (L : List En) (T : Sh) (w : World) (g0 : Nat) (root : Value) (sz : Int) (gs : List Nat) (b : Nat) (hb : b < 4294967296) (m : Int) (hm : I64 m) (hI : NearI B P L w) (hT : w.heap[g0]? = some (.cells #[root, .int .i64 sz] 88 (0, 0))) (hg0 : g0 < B)
    (hl : Lies w T root gs) (hgs : ∀ g ∈ gs, g < B) (hw : WF T) (hlen : L.length + (ents T).length ≤ 1000) (hP : ∀ m ∈ P, m < w.heap.size ∧ B + 1 < m) :
    Calls Try.prog 115 #[.pointer (some ⟨g0, 0, none⟩), .agg #[.int .u32 b, .int .i64 m], .func (.func 116) #[] #[.pointer (some ⟨B, 0, none⟩), .pointer (some ⟨B + 1, 0, none⟩)]] w fun en w' => en = .returned (.tuple #[]) ∧ NearI B P (L ++ abv (b, m) T) w' ∧ Ch B P w w' := by
  have hBlt : B + 1 < w.heap.size := hI.lt
  have hcT : w.cell? ⟨g0, 0, none⟩ = some root := by simp [World.cell?, hT]
  have hg0lt := lt_of_block hT
  obtain ⟨u0, rfl⟩ := hl.ptr
  have hct : ∀ o, (w.alloc o).cell? ⟨g0, 0, none⟩ = some (.pointer u0) := fun o => carry (below_alloc _ _) hcT
  have B0 := Lib.hid (below_alloc w (.cells #[.int .u32 (b : Int), .int .i64 m] 28))
  have I0 : Hid (NearI B (w.heap.size :: P) L (w.alloc (.cells #[.int .u32 (b : Int), .int .i64 m] 28))) := (hI.more (Nat.le_refl _)).below B0.out
  have L0 := Lib.hid (hl.below B0.out)
  have HP : Hid (∀ W : World, w.heap.size + 1 ≤ W.heap.size → ∀ k ∈ w.heap.size :: P, k < W.heap.size ∧ B + 1 < k) := fun W hW k hk => by
    rcases List.mem_cons.1 hk with rfl | hk
    · exact ⟨by omega, hBlt⟩
    · exact ⟨by have := (hP k hk).1; omega, (hP k hk).2⟩
  have HG := Lib.hid hgs
  have HW := Lib.hid hw
  have HN := Lib.hid hlen
  clear hI hT hl hgs hw hlen hP hcT
  go_enter Try.func115, Try.ntmps115
  go_wp2
  go_loopg [6] T.sz (fun g s6 wr => ∃ (T' : Sh) (L' : List En) (gs' : List Nat), T'.sz ≤ g ∧ Lies wr T' s6 gs' ∧ (∀ k ∈ gs', k < B) ∧ WF T' ∧ NearI B (w.heap.size :: P) L' wr ∧ Ch B (w.heap.size :: P) (w.alloc (.cells #[.int .u32 (b : Int), .int .i64 m] 28)) wr ∧ L' ++ abv (b, m) T' = L ++ abv (b, m) T ∧ L'.length + (ents T').length ≤ 1000)
  case atStart => exact ⟨T, L, gs, Nat.le_refl _, L0.out, HG.out, HW.out, I0.out, Ch.refl _ _ _, rfl, HN.out⟩
  case round =>
    obtain ⟨T', L', gs', hg, hl, hgs, hw, hI, hCh, hEq, hlen⟩ := hrel
    have HI := Lib.hid hI
    have HE := Lib.hid hEq
    have HCh := Lib.hid hCh
    have hsz : w.heap.size + 1 ≤ wr.heap.size := by have := hCh.size; simpa using this
    have HSZ := Lib.hid hsz
    have HG' := Lib.hid hgs
    have HN' := Lib.hid hlen
    have cB0 : wr.cell? ⟨w.heap.size, 0, none⟩ = some (.int .u32 b) := hCh.carry (.inr (by simp)) (by simp)
    have cB1 : wr.cell? ⟨w.heap.size, 1, none⟩ = some (.int .i64 m) := hCh.carry (.inr (by simp)) (by simp)
    clear hI hEq hCh hgs hsz hlen hg0lt
    have fin : ∀ w1, Below wr.heap.size wr w1 → abv (b, m) T' = [] → NearI B P (L ++ abv (b, m) T) w1 ∧ Ch B P w w1 := fun w1 h1 h0 => by
      have e := HE.out
      rw [h0, List.append_nil] at e
      rw [← e]
      exact ⟨(HI.out.below h1).less, ((Ch.of_below B0.out).trans HCh.out.less).then h1⟩
    have FIN := Lib.hid fin
    clear fin
    cases T' with
    | nil =>
      obtain ⟨rfl, rfl⟩ := hl
      go_wp2_with (go_at_call 112; refine (covN_nil b m _).mono ?_; rintro e w1 ⟨rfl, hb1⟩; have X := Lib.hid (FIN.out w1 hb1 rfl); clear hb1)
      go_end0
      exact ⟨rfl, X.out⟩
    | node q x s l r =>
      obtain ⟨g, c, d, gl, gr, rfl, rfl, hn, hl, hr⟩ := hl
      obtain ⟨hq, hUl, hUr, wl, wr'⟩ := hw
      obtain ⟨u1, rfl⟩ := hl.ptr
      obtain ⟨u2, rfl⟩ := hr.ptr
      have hgB : g < B := HG'.out g (by simp)
      have HNo := Lib.hid hn
      have HLl := Lib.hid hl
      have HLr := Lib.hid hr
      have HWl := Lib.hid wl
      have HWr := Lib.hid wr'
      have HQ := Lib.hid hq
      have hJ := (V_iff _).1 hq.2
      have hqI : I64 q.2 := by have h1 := hJ.1; have h2 := hJ.2.1; constructor <;> omega
      have HC : Hid (∀ W, IsNode W g q x s (.pointer u1) (.pointer u2) → Calls Try.prog 112 #[.pointer (some ⟨g, 0, none⟩), .agg #[.int .u32 b, .int .i64 m]] W fun e w' => e = .returned (.bool (C q (b, m))) ∧ Below W.heap.size W w') :=
        fun W h => covN_any hq b hb m hm W h
      clear hn hl hr hUl hUr wl wr' hq hJ
      cases hc : C q (b, m)
      · have H0 := Lib.hid (show abv (b, m) (.node q x s l r) = [] by rw [abv, hc]; rfl)
        rw [hc] at HC
        clear hc
        go_wp2_with (go_at_call 112; refine (HC.out _ HNo.out).mono ?_; rintro e w1 ⟨rfl, hb1⟩; have X := Lib.hid (FIN.out w1 hb1 H0.out); clear hb1)
        go_end0
        exact ⟨rfl, X.out⟩
      · have ha2 := atZ_le b q.2
        rw [hc] at HC
        have HA : Hid (∀ k : Nat, atZ b q.2 = k → abv (b, m) (.node q x s l r) = (if s then [(q, x)] else []) ++ (if k = 0 then abv (b, m) l else abv (b, m) r)) := fun k hk => by rw [abv, hc, hk]; rfl
        have HEL : Hid ((ents (.node q x s l r)).length = (if s then 1 else 0) + ((ents l).length + (ents r).length)) := by unfold Hid; rw [ents_node, List.length_append, List.length_append]; cases s <;> rfl
        clear hc
        rcases (by omega : atZ b q.2 = 0 ∨ atZ b q.2 = 1) with h0 | h0
        all_goals
          have H0 := Lib.hid h0
          clear h0
          cases s
        all_goals
          have hz := HA.out _ H0.out
          simp only [Bool.false_eq_true, if_true, if_false, List.nil_append] at hz
          have HZ := Lib.hid hz
          clear hz
        · go_wp2_with (first
            | (go_at_call 112; refine (HC.out _ HNo.out).mono ?_; rintro e w1 ⟨rfl, hb1⟩
               have N1 := Lib.hid (HNo.out.below hb1)
               have B1 := Lib.hid hb1
               have k3 := N1.out.cells.2.2.2.1
               have k0 := N1.out.cells.1
               have k1 := N1.out.cells.2.1
               have k2 := N1.out.cells.2.2.1
               have c0 := carry hb1 cB0
               have c1 := carry hb1 cB1
               have I1 := Lib.hid (HI.out.below hb1)
               clear hb1)
            | (go_at_call 114; refine (toward_0 b hb m _ hqI N1.out H0.out).mono ?_; rintro e w3 ⟨rfl, hb3⟩
               have N3 := Lib.hid (N1.out.below hb3)
               have B3 := Lib.hid hb3
               have k4 := N3.out.cells.2.2.2.2.1
               clear hb3))
          go_roundg l.sz
          case measure => simp only [Sh.sz] at hg; omega
          case rel =>
            refine ⟨l, L', gl, Nat.le_refl _, (HLl.out.below B1.out).below B3.out, fun k hk => HG'.out k (by simp [hk]), HWl.out, I1.out.below B3.out, (HCh.out.then B1.out).then B3.out, ?_, ?_⟩
            · rw [← HE.out, HZ.out] <;> rfl
            · have h1 := HN'.out; have h2 := HEL.out; simp at h2; omega
        · go_wp2_with (first
            | (go_at_call 112; refine (HC.out _ HNo.out).mono ?_; rintro e w1 ⟨rfl, hb1⟩
               have N1 := Lib.hid (HNo.out.below hb1)
               have B1 := Lib.hid hb1
               have k3 := N1.out.cells.2.2.2.1
               have k0 := N1.out.cells.1
               have k1 := N1.out.cells.2.1
               have k2 := N1.out.cells.2.2.1
               have c0 := carry hb1 cB0
               have c1 := carry hb1 cB1
               have I1 := Lib.hid (HI.out.below hb1)
               clear hb1)
            | (go_at_call 116; refine (near_any B (w.heap.size :: P) L' (q, x) _ I1.out (by have := HN'.out; omega) (HP.out _ (Nat.le_trans HSZ.out B1.out.size))).mono ?_; rintro e w2 ⟨rfl, hi2, hch2⟩
               have I2 := Lib.hid hi2
               have C2 := Lib.hid hch2
               have N2 := Lib.hid (N1.out.ch hch2 hgB)
               have d0 : w2.cell? ⟨w.heap.size, 0, none⟩ = some (.int .u32 b) := hch2.carry (.inr (by simp)) c0
               have d1 : w2.cell? ⟨w.heap.size, 1, none⟩ = some (.int .i64 m) := hch2.carry (.inr (by simp)) c1
               clear hi2 hch2)
            | (go_at_call 114; refine (toward_0 b hb m _ hqI N2.out H0.out).mono ?_; rintro e w3 ⟨rfl, hb3⟩
               have N3 := Lib.hid (N2.out.below hb3)
               have B3 := Lib.hid hb3
               have k4 := N3.out.cells.2.2.2.2.1
               clear hb3))
          go_roundg l.sz
          case measure => simp only [Sh.sz] at hg; omega
          case rel =>
            refine ⟨l, L' ++ [(q, x)], gl, Nat.le_refl _, (HLl.out.below B1.out).ch C2.out (fun k hk => HG'.out k (by simp [hk])) |>.below B3.out, fun k hk => HG'.out k (by simp [hk]), HWl.out, I2.out.below B3.out, ((HCh.out.then B1.out).trans C2.out).then B3.out, ?_, ?_⟩
            · rw [List.append_assoc, ← HE.out, HZ.out] <;> rfl
            · have h1 := HN'.out; have h2 := HEL.out; rw [List.length_append]; simp at h2 ⊢; omega
        · go_wp2_with (first
            | (go_at_call 112; refine (HC.out _ HNo.out).mono ?_; rintro e w1 ⟨rfl, hb1⟩
               have N1 := Lib.hid (HNo.out.below hb1)
               have B1 := Lib.hid hb1
               have k3 := N1.out.cells.2.2.2.1
               have k0 := N1.out.cells.1
               have k1 := N1.out.cells.2.1
               have k2 := N1.out.cells.2.2.1
               have c0 := carry hb1 cB0
               have c1 := carry hb1 cB1
               have I1 := Lib.hid (HI.out.below hb1)
               clear hb1)
            | (go_at_call 114; refine (toward_1 b hb m _ hqI N1.out H0.out).mono ?_; rintro e w3 ⟨rfl, hb3⟩
               have N3 := Lib.hid (N1.out.below hb3)
               have B3 := Lib.hid hb3
               have k4 := N3.out.cells.2.2.2.2.2
               clear hb3))
          go_roundg r.sz
          case measure => simp only [Sh.sz] at hg; omega
          case rel =>
            refine ⟨r, L', gr, Nat.le_refl _, (HLr.out.below B1.out).below B3.out, fun k hk => HG'.out k (by simp [hk]), HWr.out, I1.out.below B3.out, (HCh.out.then B1.out).then B3.out, ?_, ?_⟩
            · rw [← HE.out, HZ.out] <;> rfl
            · have h1 := HN'.out; have h2 := HEL.out; simp at h2; omega
        · go_wp2_with (first
            | (go_at_call 112; refine (HC.out _ HNo.out).mono ?_; rintro e w1 ⟨rfl, hb1⟩
               have N1 := Lib.hid (HNo.out.below hb1)
               have B1 := Lib.hid hb1
               have k3 := N1.out.cells.2.2.2.1
               have k0 := N1.out.cells.1
               have k1 := N1.out.cells.2.1
               have k2 := N1.out.cells.2.2.1
               have c0 := carry hb1 cB0
               have c1 := carry hb1 cB1
               have I1 := Lib.hid (HI.out.below hb1)
               clear hb1)
            | (go_at_call 116; refine (near_any B (w.heap.size :: P) L' (q, x) _ I1.out (by have := HN'.out; omega) (HP.out _ (Nat.le_trans HSZ.out B1.out.size))).mono ?_; rintro e w2 ⟨rfl, hi2, hch2⟩
               have I2 := Lib.hid hi2
               have C2 := Lib.hid hch2
               have N2 := Lib.hid (N1.out.ch hch2 hgB)
               have d0 : w2.cell? ⟨w.heap.size, 0, none⟩ = some (.int .u32 b) := hch2.carry (.inr (by simp)) c0
               have d1 : w2.cell? ⟨w.heap.size, 1, none⟩ = some (.int .i64 m) := hch2.carry (.inr (by simp)) c1
               clear hi2 hch2)
            | (go_at_call 114; refine (toward_1 b hb m _ hqI N2.out H0.out).mono ?_; rintro e w3 ⟨rfl, hb3⟩
               have N3 := Lib.hid (N2.out.below hb3)
               have B3 := Lib.hid hb3
               have k4 := N3.out.cells.2.2.2.2.2
               clear hb3))
          go_roundg r.sz
          case measure => simp only [Sh.sz] at hg; omega
          case rel =>
            refine ⟨r, L' ++ [(q, x)], gr, Nat.le_refl _, (HLr.out.below B1.out).ch C2.out (fun k hk => HG'.out k (by simp [hk])) |>.below B3.out, fun k hk => HG'.out k (by simp [hk]), HWr.out, I2.out.below B3.out, ((HCh.out.then B1.out).trans C2.out).then B3.out, ?_, ?_⟩
            · rw [List.append_assoc, ← HE.out, HZ.out] <;> rfl
            · have h1 := HN'.out; have h2 := HEL.out; rw [List.length_append]; simp at h2 ⊢; omega

end Go.Proofs.Ytegponbmelgngaa
