/-
  The reference's trie in memory; the walks of its New, All, Len, Get, place.
-/
import Derived.Test.YtkelfjgjgjdinaaTwU
import Derived.Maps.AppendAt
import Derived.Laws.AppendOwnNone
namespace Go.Proofs.Ytkelfjgjgjdinaa
open Go.RowKit
set_option linter.unusedSimpArgs false
set_option linter.unusedVariables false
set_option maxHeartbeats 2000000
set_option maxRecDepth 100000

/-- the reference's trie: its pointer, its list's value, its list -/
structure RefR (w : World) (g : Nat) (v : Value) (L : List En) : Prop where
  blk : w.heap[g]? = some (.cells #[v] 101 (0, 0))
  row : w.ownsRow 0 65 3 v L.length (flatE L)
theorem RefR.below {w w' : World} {g : Nat} {v : Value} {L : List En} (h : RefR w g v L) (hb : Below w.heap.size w w') : RefR w' g v L := ⟨(hb.block g (lt_of_block h.blk)).trans h.blk, own_below h.row hb⟩
theorem RefR.kp {w w' : World} {g : Nat} {v : Value} {L : List En} {S : List Nat} (h : RefR w g v L) (hk : Kp S w w') (h1 : g ∉ S) (h2 : ∀ k ∈ S, v.ownBlock ≠ some k) : RefR w' g v L := ⟨(hk.block g (lt_of_block h.blk) h1).trans h.blk, own_kp h.row hk h2⟩
theorem RefR.cell {w : World} {g : Nat} {v : Value} {L : List En} (h : RefR w g v L) : w.cell? ⟨g, 0, none⟩ = some v := cell_of_one h.blk
theorem RefR.rd {w : World} {g : Nat} {v : Value} {L : List En} (h : RefR w g v L) : RdE w v L := rdE_own h.row
theorem row_form {w : World} {B : Nat} {v : Value} {L : List En} (h : w.ownsRow B 65 3 v L.length (flatE L)) :
    (v = .slice none 0 0 ∧ L = []) ∨ ∃ b cap, v = .slice (some ⟨b, 0, none⟩) L.length cap ∧ L.length ≤ cap ∧ b < w.heap.size ∧ ∀ j u, (flatE L)[j]? = some u → w.cell? ⟨b, j, none⟩ = some u := by
  have hh := h
  rcases h.2 with ⟨rfl, hn⟩ | ⟨g, cap, cur, rfl, hB, hg, hnc, _, _, _⟩
  · exact .inl ⟨rfl, List.length_eq_zero_iff.1 hn⟩
  · refine .inr ⟨g, cap, rfl, hnc, (Array.getElem?_eq_some_iff.1 hg).1, fun j u hj => ?_⟩
    have hlt := (List.getElem?_eq_some_iff.1 hj).1
    rw [hh.cellAt j (by have := flatE_len L; omega)]; exact hj
theorem one_flat {l : List En} : ∀ u ∈ flatE l, u.oneCell' = true := by
  intro u hu
  unfold flatE at hu
  obtain ⟨x, _, hx⟩ := List.mem_flatMap.1 hu
  simp [encE] at hx; rcases hx with rfl | rfl | rfl <;> rfl
theorem rnew_any (w : World) : Calls Try.prog 43 #[] w fun en w' => ∃ g, en = .returned (.pointer (some ⟨g, 0, none⟩)) ∧ RefR w' g (.slice none 0 0) [] ∧ w.heap.size ≤ g ∧ Below w.heap.size w w' := by
  go_enter Try.func43, Try.ntmps43
  go_wp2
  go_ret
  exact ⟨_, rfl, ⟨heap_alloc_new _ _, World.ownsRow_nil _ _ _ _⟩, by simp, below_alloc _ _⟩
theorem rall_any (g : Nat) (v : Value) (L : List En) (w : World) (h : RefR w g v L) (hl : L.length ≤ 1000) :
    Calls Try.prog 49 #[.pointer (some ⟨g, 0, none⟩)] w fun en w' => ∃ v', en = .returned v' ∧ RdE w' v' L ∧ Below w.heap.size w w' := by
  obtain ⟨i0, hi, hz0, hz1, hz2⟩ := info_parts info65
  have hc := h.cell
  rcases row_form h.row with ⟨rfl, rfl⟩ | ⟨b, cap, rfl, hcap, hb, hcs⟩
  · clear h
    go_enter Try.func49, Try.ntmps49
    go_wp2
    go_ret
    exact ⟨_, rfl, rdE_nil _, Below.refl _ _⟩
  · have HC : Hid (∀ j u, (flatE L)[j]? = some u → w.cell? ((⟨b, 0, none⟩ : Addr).add j) = some u) := fun j u hj => by
      have hadd : (⟨b, 0, none⟩ : Addr).add j = ⟨b, j, none⟩ := by unfold Addr.add; split <;> simp_all
      rw [hadd]; exact hcs j u hj
    clear h hcs
    go_enter Try.func49, Try.ntmps49
    go_wp2_with (at_builtin; refine wpList_append_own_at _ rfl (.tmp 6) (.tmp 10) 56 rfl w.heap.size 65 i0 (.agg #[.int .u32 0, .int .i64 0, .int .i64 0]) 3 24 Try.underlying56 hi hz0 hz1 hz2 rfl (by decide) (.slice none 0 0) 0 [] rfl (World.ownsRow_nil _ _ _ _) ⟨b, 0, none⟩ L.length cap (flatE L) rfl (flatE_len L) HC.out one_flat (by unfold maxLen; omega) (by omega) (Nat.le_refl _) ?_; intro v1 w1 hown hgr hnil hat; have R := Lib.hid (And.intro hown hgr); clear hown hgr hnil hat)
    go_ret
    have hr : w1.ownsRow w.heap.size 65 3 v1 L.length (flatE L) := by have := R.out.1; simpa using this
    exact ⟨v1, rfl, rdE_own hr, (Below.refl _ _).grown R.out.2 (Nat.le_refl _) (fun k hk => by simp [Value.ownBlock] at hk)⟩
theorem rlen_any (g : Nat) (v : Value) (L : List En) (w : World) (h : RefR w g v L) (hl : L.length ≤ 1000) :
    Calls Try.prog 46 #[.pointer (some ⟨g, 0, none⟩)] w fun en w' => en = .returned (.int .i64 (L.length : Nat)) ∧ Below w.heap.size w w' := by
  have HA := Lib.hid (rall_any g v L w h hl)
  clear h
  go_enter Try.func46, Try.ntmps46
  go_wp2_with (go_at_call 49; refine HA.out.mono ?_; rintro e w1 ⟨v1, rfl, hr, hb⟩; obtain ⟨ad, cap, rfl⟩ := rdE_slice hr; have B := Lib.hid hb; clear hr hb)
  go_ret
  exact ⟨rfl, B.out⟩
theorem rget_any (g : Nat) (v : Value) (L : List En) (w : World) (p : PP) (h : RefR w g v L) (hl : L.length ≤ 1000) :
    Calls Try.prog 83 #[.pointer (some ⟨g, 0, none⟩), .agg #[.int .u32 (p.1 : Nat), .int .i64 p.2]] w fun en w' => en = .returned (.tuple #[.int .i64 (getE L p).1, .bool (getE L p).2]) ∧ Below w.heap.size w w' := by
  obtain ⟨a, n⟩ := p
  obtain ⟨ad, cap, rfl, hcc⟩ := h.rd
  have HC := Lib.hid hcc
  have hc := fun o => carry (below_alloc w o) h.cell
  have B0 := Lib.hid (below_alloc w (.cells #[.int .u32 (a : Int), .int .i64 n] 28))
  clear h hcc
  go_enter Try.func83, Try.ntmps83
  go_wp2_with fail
  go_loopg [15] L.length (fun g s15 wr => ∃ k : Nat, k ≤ L.length ∧ L.length - k ≤ g ∧ s15 = .int .i64 k ∧ (∀ x ∈ L.take k, x.1 ≠ (a, n)) ∧ Below (w.heap.size + 1) (w.alloc (.cells #[.int .u32 (a : Int), .int .i64 n] 28)) wr)
  case atStart => exact ⟨0, by omega, by omega, rfl, fun x hx => by simp at hx, Below.refl _ _⟩
  case round =>
    obtain ⟨k, hk, hg, rfl, hno, hbw⟩ := hrel
    have HB := Lib.hid hbw
    have HN := Lib.hid hno
    have HBw : Hid (Below w.heap.size w wr) := B0.out.trans (hbw.mono (by omega))
    have b0 : wr.cell? ⟨w.heap.size, 0, none⟩ = some (.int .u32 a) := carry' hbw (by omega) (by simp)
    have b1 : wr.cell? ⟨w.heap.size, 1, none⟩ = some (.int .i64 n) := carry' hbw (by omega) (by simp)
    have bl0 : ∀ o, (wr.alloc o).cell? ⟨w.heap.size, 0, none⟩ = some (.int .u32 a) := fun o => carry (below_alloc _ _) b0
    have bl1 : ∀ o, (wr.alloc o).cell? ⟨w.heap.size, 1, none⟩ = some (.int .i64 n) := fun o => carry (below_alloc _ _) b1
    clear hbw hno
    by_cases hlt : k < L.length
    · obtain ⟨x, hx⟩ : ∃ x, L[k]? = some x := ⟨_, List.getElem?_eq_getElem hlt⟩
      obtain ⟨blk, off, rfl, hblk, hc0, hc1, hc2⟩ := HC.out k x hx
      have f0 := carry' HBw.out hblk hc0
      have f1 := carry' HBw.out hblk hc1
      have f2 := carry' HBw.out hblk hc2
      have HX := Lib.hid hx
      clear hc0 hc1 hc2 hx
      obtain ⟨⟨xa, xn⟩, xv⟩ := x
      dsimp only at f0 f1 f2
      by_cases h1 : xa = a
      · by_cases h2 : xn = n
        · subst h1 h2
          have HG : Hid (getE L (xa, xn) = (xv, true)) := by
            unfold Hid getE
            have : L.find? (fun x => decide (x.1 = (xa, xn))) = some ((xa, xn), xv) := by
              rw [List.find?_eq_some_iff_getElem]
              obtain ⟨hlt', he⟩ := List.getElem?_eq_some_iff.1 HX.out
              refine ⟨by simp, k, hlt', he, fun j hj => ?_⟩
              have := HN.out (L[j]) (List.mem_take_iff_getElem.2 ⟨j, by omega, rfl⟩)
              simpa using this
            rw [this]
          go_wp2
          go_ret2
          exact ⟨by rw [HG.out]; rfl, HBw.out.alloc HBw.out.size _⟩
        · have hd : (xn == n) = false := by simpa using h2
          subst h1
          have h2' := Lib.hid h2
          clear h2
          go_wp2
          go_roundg (L.length - (k + 1))
          case measure => omega
          case rel =>
            refine ⟨k + 1, by omega, Nat.le_refl _, by go_num, ?_, HB.out.alloc (by have := HB.out.size; simp at this; omega) _⟩
            rw [take_snoc HX.out]
            intro y hy
            rcases List.mem_append.1 hy with hy | hy
            · exact HN.out y hy
            · simp at hy; subst hy; intro e; exact h2'.out (congrArg Prod.snd e)
      · have hd : ((xa : Int) == (a : Int)) = false := by simp; omega
        have h1' := Lib.hid h1
        clear h1
        go_wp2
        go_roundg (L.length - (k + 1))
        case measure => omega
        case rel =>
          refine ⟨k + 1, by omega, Nat.le_refl _, by go_num, ?_, HB.out.alloc (by have := HB.out.size; simp at this; omega) _⟩
          rw [take_snoc HX.out]
          intro y hy
          rcases List.mem_append.1 hy with hy | hy
          · exact HN.out y hy
          · simp at hy; subst hy; intro e; exact h1'.out (congrArg Prod.fst e)
    · have hkl : k = L.length := by omega
      subst hkl
      have HG : Hid (getE L (a, n) = (0, false)) := getE_none (by have := HN.out; rwa [List.take_length] at this)
      go_wp2
      go_ret2
      exact ⟨by rw [HG.out]; rfl, HBw.out⟩
end Go.Proofs.Ytkelfjgjgjdinaa
