/-
  The walks of the reference's Sort and Same.
-/
import Derived.Test.YtbcgfgklajdelaaDoorWalkR
namespace Go.Proofs.YtbcgfgklajdelaaDoor
open Go.RowKit
set_option linter.unusedSimpArgs false
set_option linter.unusedVariables false
set_option maxHeartbeats 4000000
set_option maxRecDepth 100000

theorem sortR_succ {l : List PP} {k : Nat} {x : PP} (h : l[k]? = some x) : sortR (l.take (k + 1)) = insR (sortR (l.take k)) x := by
  unfold sortR
  have hlt := (List.getElem?_eq_some_iff.1 h).1
  rw [List.take_succ_eq_append_getElem hlt, List.foldl_append, (List.getElem?_eq_some_iff.1 h).2]
  rfl

theorem rsort_any (l : List PP) (v : Value) (w : World) (hl : l.length ≤ 1000) (hr : Rd w v l) :
    Calls Tryd.prog 40 #[v] w fun e w' => ∃ v', e = .returned v' ∧ Rd w' v' (sortR l) ∧ Below w.heap.size w w' := by
  obtain ⟨ad, cap, rfl, hc⟩ := hr
  have HC : Hid (∀ k x, l[k]? = some x → ∃ b off, ad = some ⟨b, off, none⟩ ∧ b < w.heap.size ∧ w.cell? ⟨b, off + k * 2, none⟩ = some (.int .u32 (x.1 : Int)) ∧ w.cell? ⟨b, off + k * 2 + 1, none⟩ = some (.int .i64 x.2)) := hc
  clear hc
  go_enter Tryd.func40, Tryd.ntmps40
  go_wp2
  go_loopg [3, 7] l.length (fun g s3 s7 wr => ∃ (k : Nat) (v : Value), k ≤ l.length ∧ l.length - k ≤ g ∧ v = s3 ∧ s7 = .int .i64 k ∧ Rd wr v (sortR (l.take k)) ∧ Below w.heap.size w wr)
  case atStart => exact ⟨0, _, by omega, by omega, rfl, rfl, rd_nil _, Below.refl _ _⟩
  case round =>
    obtain ⟨k, v, hk, hg, rfl, rfl, hrd, hbw⟩ := hrel
    have HR : Hid (Rd wr v (sortR (l.take k))) := hrd
    have HB : Hid (Below w.heap.size w wr) := hbw
    have HL : Hid ((sortR (l.take k)).length ≤ 1000) := by have := sortR_le l k; exact Nat.le_trans this (by omega)
    clear hrd hbw
    by_cases hlt : k < l.length
    · obtain ⟨x, hx⟩ : ∃ x, l[k]? = some x := ⟨_, List.getElem?_eq_getElem hlt⟩
      obtain ⟨blk, off, rfl, hblk, hc0, hc1⟩ := HC.out k x hx
      have HX : Hid (l[k]? = some x) := hx
      obtain ⟨a, n⟩ := x
      clear hx
      have f0 := (HB.out.cell (p := ⟨blk, off + k * 2, none⟩) hblk).trans hc0
      have f1 := (HB.out.cell (p := ⟨blk, off + k * 2 + 1, none⟩) hblk).trans hc1
      clear hc0 hc1
      go_wp2_with (go_at_call 58; refine (rinsert_any (sortR (l.take k)) a n v _ HL.out (HR.out.below (by first | exact Below.refl _ _ | exact (Below.refl _ _).drew))).mono ?_; rintro e w1 ⟨v1, rfl, hrd1, hb1⟩; have X := Lib.hid (And.intro hrd1 hb1); clear hrd1 hb1)
      go_roundg (l.length - (k + 1))
      case measure => omega
      case rel => exact ⟨k + 1, _, by omega, Nat.le_refl _, rfl, by go_num, by rw [sortR_succ HX.out]; exact X.out.1, HB.out.trans (X.out.2.mono HB.out.size)⟩
    · have hkl : k = l.length := by omega
      subst hkl
      go_wp2
      go_ret
      exact ⟨_, rfl, by have := HR.out; rwa [List.take_length] at this, HB.out⟩

theorem rsame_any (l : List PP) (v v' : Value) (w : World) (hl : l.length ≤ 1000) (hr : Rd w v l) (hr' : Rd w v' l) :
    Calls Tryd.prog 38 #[v, v'] w fun e w' => e = .returned (.bool true) ∧ Below w.heap.size w w' := by
  obtain ⟨ad, cap, rfl, hc⟩ := hr
  obtain ⟨ad', cap', rfl, hc'⟩ := hr'
  have HC : Hid (∀ k x, l[k]? = some x → ∃ b off, ad = some ⟨b, off, none⟩ ∧ b < w.heap.size ∧ w.cell? ⟨b, off + k * 2, none⟩ = some (.int .u32 (x.1 : Int)) ∧ w.cell? ⟨b, off + k * 2 + 1, none⟩ = some (.int .i64 x.2)) := hc
  have HC' : Hid (∀ k x, l[k]? = some x → ∃ b off, ad' = some ⟨b, off, none⟩ ∧ b < w.heap.size ∧ w.cell? ⟨b, off + k * 2, none⟩ = some (.int .u32 (x.1 : Int)) ∧ w.cell? ⟨b, off + k * 2 + 1, none⟩ = some (.int .i64 x.2)) := hc'
  clear hc hc'
  go_enter Tryd.func38, Tryd.ntmps38
  go_wp2
  go_loopg [13] l.length (fun g s13 wr => ∃ (k : Nat), k ≤ l.length ∧ l.length - k ≤ g ∧ s13 = .int .i64 k ∧ Below w.heap.size w wr)
  case atStart => exact ⟨0, by omega, by omega, rfl, Below.refl _ _⟩
  case round =>
    obtain ⟨k, hk, hg, rfl, hbw⟩ := hrel
    have HB : Hid (Below w.heap.size w wr) := hbw
    clear hbw
    by_cases hlt : k < l.length
    · obtain ⟨x, hx⟩ : ∃ x, l[k]? = some x := ⟨_, List.getElem?_eq_getElem hlt⟩
      obtain ⟨blk, off, rfl, hblk, hc0, hc1⟩ := HC.out k x hx
      obtain ⟨blk', off', rfl, hblk', hd0, hd1⟩ := HC'.out k x hx
      obtain ⟨a, n⟩ := x
      clear hx
      have f0 := (HB.out.cell (p := ⟨blk, off + k * 2, none⟩) hblk).trans hc0
      have f1 := (HB.out.cell (p := ⟨blk, off + k * 2 + 1, none⟩) hblk).trans hc1
      have k0 := (HB.out.cell (p := ⟨blk', off' + k * 2, none⟩) hblk').trans hd0
      have k1 := (HB.out.cell (p := ⟨blk', off' + k * 2 + 1, none⟩) hblk').trans hd1
      clear hc0 hc1 hd0 hd1
      go_wp2_with fail
      go_quiet (fail)
      all_goals go_wp2
      go_roundg (l.length - (k + 1))
      case measure => omega
      case rel => exact ⟨k + 1, by omega, Nat.le_refl _, by go_num, by first | exact HB.out | exact below_drewN HB.out _⟩
    · have hkl : k = l.length := by omega
      subst hkl
      go_wp2
      go_ret
      exact ⟨rfl, HB.out⟩
end Go.Proofs.YtbcgfgklajdelaaDoor
