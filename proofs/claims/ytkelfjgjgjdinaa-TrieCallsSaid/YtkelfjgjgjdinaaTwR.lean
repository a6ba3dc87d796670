/-
  The walk of the reference's SameEntries, and plain facts for TrieDrops.
-/
import Derived.Test.YtkelfjgjgjdinaaTwO
import Derived.Deep.LoopGhost
namespace Go.Proofs.Ytkelfjgjgjdinaa
open Go.RowKit
set_option linter.unusedSimpArgs false
set_option linter.unusedVariables false
set_option maxHeartbeats 2000000
set_option maxRecDepth 100000

theorem same_any (l : List En) (v v' : Value) (w : World) (hl : l.length ≤ 1000) (hr : RdE w v l) (hr' : RdE w v' l) :
    Calls Try.prog 47 #[v, v'] w fun e w' => e = .returned (.bool true) ∧ Below w.heap.size w w' := by
  obtain ⟨ad, cap, rfl, hc⟩ := hr
  obtain ⟨ad', cap', rfl, hc'⟩ := hr'
  have HC := Lib.hid hc
  have HC' := Lib.hid hc'
  clear hc hc'
  go_enter Try.func47, Try.ntmps47
  go_wp2
  go_loopg [14] l.length (fun g s13 wr => ∃ (k : Nat), k ≤ l.length ∧ l.length - k ≤ g ∧ s13 = .int .i64 k ∧ Below w.heap.size w wr)
  case atStart => exact ⟨0, by omega, by omega, rfl, Below.refl _ _⟩
  case round =>
    obtain ⟨k, hk, hg, rfl, hbw⟩ := hrel
    have HB : Hid (Below w.heap.size w wr) := hbw
    clear hbw
    by_cases hlt : k < l.length
    · obtain ⟨x, hx⟩ : ∃ x, l[k]? = some x := ⟨_, List.getElem?_eq_getElem hlt⟩
      obtain ⟨blk, off, rfl, hblk, hc0, hc1, hc2⟩ := HC.out k x hx
      obtain ⟨blk', off', rfl, hblk', hd0, hd1, hd2⟩ := HC'.out k x hx
      obtain ⟨⟨a, n⟩, y⟩ := x
      clear hx
      have f0 := carry' HB.out hblk hc0
      have f1 := carry' HB.out hblk hc1
      have f2 := carry' HB.out hblk hc2
      have k0 := carry' HB.out hblk' hd0
      have k1 := carry' HB.out hblk' hd1
      have k2 := carry' HB.out hblk' hd2
      have al0 : ∀ o, (wr.alloc o).cell? ⟨blk', off' + k * 3, none⟩ = _ := fun o => carry (below_alloc _ _) k0
      have al1 : ∀ o, (wr.alloc o).cell? ⟨blk', off' + k * 3 + 1, none⟩ = _ := fun o => carry (below_alloc _ _) k1
      have al2 : ∀ o, (wr.alloc o).cell? ⟨blk', off' + k * 3 + 2, none⟩ = _ := fun o => carry (below_alloc _ _) k2
      clear hc0 hc1 hc2 hd0 hd1 hd2
      go_wp2_with fail
      go_quiet (fail)
      all_goals go_wp2
      go_roundg (l.length - (k + 1))
      case measure => omega
      case rel => exact ⟨k + 1, by omega, Nat.le_refl _, by go_num, by first | exact below_drewN (HB.out.alloc HB.out.size _) _ | exact HB.out.alloc HB.out.size _⟩
    · have hkl : k = l.length := by omega
      subst hkl
      go_wp2
      go_ret
      exact ⟨rfl, HB.out⟩
theorem del_ins {l : List En} {e : En} (ha : AscE l) (h : hasE l e.1 = false) : delE (insE l e) e.1 = l :=
  asc_ext (asc_delE _ (asc_insE e ha)) ha fun x => by
    rw [mem_delE, mem_insE]
    constructor
    · rintro ⟨rfl | ⟨h1, _⟩, h2⟩
      · exact absurd rfl h2
      · exact h1
    · intro hx
      have := hasE_not.1 h x hx
      exact ⟨.inr ⟨hx, this⟩, this⟩
theorem has_ins (l : List En) (e : En) : hasE (insE l e) e.1 = true := hasE_iff.2 ⟨e, mem_insE.2 (.inl rfl), rfl⟩
theorem get_ins {l : List En} (e : En) (ha : AscE l) : getE (insE l e) e.1 = (e.2, true) := getE_mem (asc_insE e ha) (mem_insE.2 (.inl rfl)) rfl
/-- a slice of entries whose cells lie in blocks from B on, below B' -/
def RdG (B B' : Nat) (w : World) (v : Value) (l : List En) : Prop := B' ≤ w.heap.size ∧
  ∃ ad cap, v = .slice ad l.length cap ∧ ∀ k x, l[k]? = some x → ∃ b off, ad = some ⟨b, off, none⟩ ∧ (B ≤ b ∧ b < B') ∧ w.cell? ⟨b, off + k * 3, none⟩ = some (.int .u32 (x.1.1 : Int)) ∧ w.cell? ⟨b, off + k * 3 + 1, none⟩ = some (.int .i64 x.1.2) ∧ w.cell? ⟨b, off + k * 3 + 2, none⟩ = some (.int .i64 x.2)
theorem RdF.g {B : Nat} {w : World} {v : Value} {l : List En} (h : RdF B w v l) : RdG B w.heap.size w v l := by
  obtain ⟨ad, cap, rfl, hc⟩ := h
  exact ⟨Nat.le_refl _, ad, cap, rfl, fun k x hk => by obtain ⟨b, off, h1, h3, h4, h2⟩ := hc k x hk; exact ⟨b, off, h1, ⟨h3, h4⟩, h2⟩⟩
theorem RdG.rd {B B' : Nat} {w : World} {v : Value} {l : List En} (h : RdG B B' w v l) : RdE w v l := by
  obtain ⟨hs, ad, cap, rfl, hc⟩ := h
  exact ⟨ad, cap, rfl, fun k x hk => by obtain ⟨b, off, h1, h3, h2⟩ := hc k x hk; exact ⟨b, off, h1, by omega, h2⟩⟩
theorem RdG.kp {B B' : Nat} {S : List Nat} {w w' : World} {v : Value} {l : List En} (h : RdG B B' w v l) (k : Kp S w w') (hS : ∀ g ∈ S, g < B ∨ B' ≤ g) : RdG B B' w' v l := by
  obtain ⟨hs, ad, cap, rfl, hc⟩ := h
  refine ⟨Nat.le_trans hs k.size, ad, cap, rfl, fun i x hi => ?_⟩
  obtain ⟨b, off, h1, h3, h5, h6, h7⟩ := hc i x hi
  have hn : b ∉ S := fun hm => by have := hS b hm; omega
  exact ⟨b, off, h1, h3, k.carry hn h5, k.carry hn h6, k.carry hn h7⟩
theorem RdG.below {B B' : Nat} {w w' : World} {v : Value} {l : List En} (h : RdG B B' w v l) (hb : Below w.heap.size w w') : RdG B B' w' v l := h.kp (Kp.of_below (S := []) hb) (fun g hg => by cases hg)
end Go.Proofs.Ytkelfjgjgjdinaa
