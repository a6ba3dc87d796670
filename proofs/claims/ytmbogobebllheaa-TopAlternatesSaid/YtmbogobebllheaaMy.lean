/-
  The walks of large and node; what every alternate fulfils, in numbers. The walks of the reference's check and link. The walks of the reference's PSpace and QSpace. The walk of the reference's Remote.
-/
import Derived.Test.YtmbogobebllheaaMz
import Derived.Test.YtmbogobebllheaaMl
import Derived.Test.YtmbogobebllheaaMra
import Derived.OwnWalk
import Derived.BigQuiet
namespace Go.Proofs.Ytmbogobebllheaa
open Go.RowKit HM GM SP Go.Lib
set_option linter.unusedSimpArgs false
set_option linter.unusedVariables false
set_option maxHeartbeats 4000000
set_option maxRecDepth 100000
def lgF (R N : Int) (L : Nat) : Bool := decide (14 < R) || (decide (6 < N) || decide (80 < (L : Int)))
theorem large_any (R N : Int) (ad : Option Addr) (L cap : Nat) (w : World) :
    Calls Try.prog 24 #[.agg #[.int .i64 R, .int .i64 N, .slice ad L cap]] w fun e w' => e = .returned (.bool (lgF R N L)) ∧ Below w.heap.size w w' := by
  have HB := Lib.hid (below_alloc w (.cells #[.int .i64 R, .int .i64 N, .slice ad L cap] 27))
  unfold lgF
  by_cases h1 : 14 < R
  · rw [decide_eq_true h1]
    have k1 : decide (14 < R) = true := decide_eq_true h1
    go_enter Try.func24, Try.ntmps24
    go_wp2
    go_ret
    exact ⟨rfl, HB.out⟩
  · rw [decide_eq_false h1]
    have k1 : decide (14 < R) = false := decide_eq_false h1
    by_cases h2 : 6 < N
    · rw [decide_eq_true h2]
      have k2 : decide (6 < N) = true := decide_eq_true h2
      go_enter Try.func24, Try.ntmps24
      go_wp2
      go_ret
      exact ⟨rfl, HB.out⟩
    · rw [decide_eq_false h2]
      have k2 : decide (6 < N) = false := decide_eq_false h2
      go_enter Try.func24, Try.ntmps24
      go_wp2
      go_ret
      exact ⟨by simp, HB.out⟩
theorem lnode_any (r x : Nat) (s : Value) (w : World) (hx : x < r) (hr : r ≤ 128) :
    Calls Try.prog 38 #[.agg #[.int .i64 (r : Int), .int .i64 0, s], .int .i64 (x : Int)] w fun e w' => e = .returned (.bool true) ∧ Below w.heap.size w w' := by
  have HB := Lib.hid (below_alloc w (.cells #[.int .i64 (r : Int), .int .i64 0, s] 27))
  have x0 : (0 : Int) ≤ (x : Int) := by omega
  have x1 : (x : Int) < (r : Int) := by omega
  have x2 : (x : Int) < (r : Int) + 0 := by omega
  have r1 : (r : Int) + 0 = (r : Int) := by omega
  go_enter Try.func38, Try.ntmps38
  go_wp2
  go_ret
  exact ⟨rfl, HB.out⟩
/-- an alternate of a graph of r routers, in numbers -/
structure AlN (l : List E) (r root : Nat) (hops : List (List Int)) (a : Al) (d v p : Nat) : Prop where
  hd : a.dest = (d : Int) ∧ d < r
  hv : a.via = (v : Int) ∧ v < r
  hp : a.prim = (p : Int) ∧ p < r
  ne : v ≠ p
  vr : v ≠ root
  cost : (cstF (root : Int) (v : Int) l).2 = true
  down : a.down = decide (T l v d < T l root d)
  fin : 0 ≤ T l v d ∧ 0 ≤ T l root d
  is : IsAl l root d p a
  hop : Hop r l root d p
  mem : (p : Int) ∈ gL hops d
theorem al_num {l : List E} {r root : Nat} {t : Tre} (hv : Valid (r : Int) 0 l) (hroot : root < r) (ht : IsTre (r : Int) 0 l (root : Int) t) {a : Al} (ha : a ∈ allA l (root : Int) r t.hops) : ∃ d v p, AlN l r root t.hops a d v p := by
  obtain ⟨d, hd, hmem, his⟩ := allA_is ha
  obtain ⟨n, hn, _, htr⟩ := ht
  obtain rfl : n = r := by omega
  have hrow := htr.h d hd
  have hhop := (hrow.2 _).1 hmem
  have hpn := Hop.node' hv (s := (root : Int)) ⟨by omega, by omega⟩ hhop
  obtain ⟨c, hedge⟩ := his.edge
  have hed := edge hv hedge
  obtain ⟨p, hp⟩ : ∃ p : Nat, a.prim = (p : Int) := ⟨a.prim.toNat, by omega⟩
  obtain ⟨v, hvv⟩ : ∃ v : Nat, a.via = (v : Int) := ⟨a.via.toNat, by omega⟩
  have hfin1 := his.free.1
  have hfin2 : 0 ≤ T l (root : Int) (d : Int) := hhop.2.1
  refine ⟨d, v, p, ⟨his.dest, hd⟩, ⟨hvv, by omega⟩, ⟨hp, by omega⟩, ?_, ?_, ?_, ?_, ?_, by rw [← hp]; exact his, by rw [← hp]; exact hhop, by rw [← hp]; exact hmem⟩
  · intro e; subst e; exact his.ne (by rw [hvv, hp])
  · intro e; subst e; omega
  · have := (cstF_iff hv (a := (root : Int)) (b := (v : Int)) (c := c)).1 (by rw [← hvv]; exact hedge)
    exact this.1
  · have := his.down
    rw [hvv] at this hfin1
    rw [Bool.eq_iff_iff, this, decide_eq_true_iff]
    constructor
    · rintro ⟨_, h | h⟩
      · omega
      · exact h
    · intro h; exact ⟨hfin1, .inr h⟩
  · rw [hvv] at hfin1; exact ⟨hfin1, hfin2⟩
end Go.Proofs.Ytmbogobebllheaa
namespace Go.Proofs.Ytmbogobebllheaa
open Go.RowKit HM GM SP Go.Lib
set_option linter.unusedSimpArgs false
set_option linter.unusedVariables false
set_option maxHeartbeats 4000000
set_option maxRecDepth 100000
end Go.Proofs.Ytmbogobebllheaa
namespace Go.Proofs.Ytmbogobebllheaa
open Go.RowKit HM GM SP Go.Lib
set_option linter.unusedSimpArgs false
set_option linter.unusedVariables false
set_option maxHeartbeats 4000000
set_option maxRecDepth 100000
end Go.Proofs.Ytmbogobebllheaa
namespace Go.Proofs.Ytmbogobebllheaa
open Go.RowKit HM GM SP Go.Lib
set_option linter.unusedSimpArgs false
set_option linter.unusedVariables false
set_option maxHeartbeats 4000000
set_option maxRecDepth 100000
theorem rindexq_any (m : List Int) (v : Value) (y : Int) (w : World) (hv : RdI w v m) : Calls Try.prog 82 #[v, .int .i64 y] w fun e w' => ∃ i, e = .returned (.int .i64 i) ∧ IdxR m y i ∧ w' = w := by
  obtain ⟨ad, cap, rfl, h1, h2, hc⟩ := hv
  have HC := Lib.hid hc
  obtain ⟨L, hL⟩ : ∃ L, m.length = L := ⟨_, rfl⟩
  rw [hL] at h1 ⊢
  have HL := Lib.hid hL
  clear hc hL
  go_enter Try.func82, Try.ntmps82
  go_wp2_with fail
  have HS : Hid (w = w ∧ ∀ k z, k < 0 → m[k]? = some z → z ≠ y) := ⟨rfl, fun k z h => by omega⟩
  go_loopg [5, 6, 9] L (fun g s5 s6 s9 wr => ∃ k : Nat, k ≤ L ∧ L - k ≤ g ∧ s9 = .int .i64 (k : Int) ∧ (∃ q, q = s5) ∧ (∃ q, q = s6) ∧ Hid (wr = w ∧ ∀ j z, j < k → m[j]? = some z → z ≠ y))
  case atStart => exact ⟨0, by omega, by omega, rfl, ⟨_, rfl⟩, ⟨_, rfl⟩, HS⟩
  case round =>
    clear HS
    obtain ⟨k, hk, hkg, rfl, ⟨u5, rfl⟩, ⟨u6, rfl⟩, HS⟩ := hrel
    by_cases hlt : k < L
    · obtain ⟨z, hz⟩ : ∃ z, m[k]? = some z := ⟨_, List.getElem?_eq_getElem (by rw [HL.out]; exact hlt)⟩
      obtain ⟨b, off, rfl, hb, c⟩ := HC.out k z hz
      have c' : wr.cell? _ = _ := HS.out.1 ▸ c
      have HZ := Lib.hid hz
      have k0 : (0 : Int) ≤ (k : Int) := by omega
      have k1 : (k : Int) < (L : Int) := by omega
      clear c hz
      by_cases he : z = y
      · have HM : Hid (IdxR m y (k : Int)) := .inr ⟨by omega, by rw [← he]; exact List.mem_of_getElem? HZ.out⟩
        have HB := Lib.hid HS.out.1
        clear HS HZ
        subst he
        go_wp2
        go_ret
        exact ⟨_, rfl, HM.out, HB.out⟩
      · have he1 : (z == y) = false := by simpa using he
        have HN : Hid (wr = w ∧ ∀ j z, j < k + 1 → m[j]? = some z → z ≠ y) := ⟨HS.out.1, fun j z' hj hz' => by
          by_cases e : j = k
          · subst e; have := HZ.out; rw [hz'] at this; cases this; exact he
          · exact HS.out.2 j z' (by omega) hz'⟩
        clear HS
        go_wp2_with fail
        go_roundg (L - (k + 1))
        case measure => omega
        case rel => exact ⟨k + 1, by omega, Nat.le_refl _, by go_num, ⟨_, rfl⟩, ⟨_, rfl⟩, HN⟩
    · have k1 : decide ((k : Int) < (L : Int)) = false := decide_eq_false (by omega)
      have HM : Hid (IdxR m y (-1)) := .inl ⟨rfl, fun hm => by
        obtain ⟨j, hj⟩ := List.getElem?_of_mem hm
        exact HS.out.2 j y (by have := (List.getElem?_eq_some_iff.1 hj).1; have := HL.out; omega) hj rfl⟩
      have HB := Lib.hid HS.out.1
      clear HS
      go_wp2
      go_ret
      exact ⟨_, rfl, HM.out, HB.out⟩
theorem rhasq_any (m : List Int) (v : Value) (y : Int) (w : World) (hv : RdI w v m) : Calls Try.prog 40 #[v, .int .i64 y] w fun e w' => e = .returned (.bool (decide (y ∈ m))) ∧ w' = w := by
  have H := Lib.hid (rindexq_any m v y w hv)
  obtain ⟨ad, cap, rfl⟩ := hv.form
  generalize m.length = L at *
  clear hv
  go_enter Try.func40, Try.ntmps40
  go_wp2_with fail
  go_at_call 82
  refine H.out.mono ?_
  rintro e w1 ⟨i, rfl, hi, rfl⟩
  clear H
  have HD : Hid (decide (0 ≤ i) = decide (y ∈ m)) := by
    rcases hi with ⟨rfl, h⟩ | ⟨h1, h2⟩
    · show decide _ = decide _; rw [decide_eq_false h]; rfl
    · show decide _ = decide _; rw [decide_eq_true h1, decide_eq_true h2]
  clear hi
  go_wp2
  go_ret
  exact ⟨by rw [← HD.out]; rfl, rfl⟩
end Go.Proofs.Ytmbogobebllheaa
