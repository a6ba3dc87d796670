/-
  The library's sort of addresses: what a round of the quick sort calls, from place a to place b.
-/
import Derived.Test.YtaniiennfogjaaaDoorAgQp
import Derived.Test.YtaniiennfogjaaaDoorAgQh
import Derived.Test.YtaniiennfogjaaaDoorAgQb
namespace Go.Proofs.YtaniiennfogjaaaDoor
open Go.RowKit
set_option linter.unusedSimpArgs false
set_option linter.unusedVariables false
set_option maxHeartbeats 1500000
set_option maxRecDepth 100000

theorem SegS.then {B g cap L a b c d : Nat} {l0 l1 l2 : List Nat} {w w1 w2 : World} (h : SegS B g cap L a b l0 l1 w w1) (k : SegS B g cap L c d l1 l2 w1 w2) (hc : a ≤ c) (hd : d ≤ b) : SegS B g cap L a b l0 l2 w w2 :=
  ⟨h.1.trans (k.1.wide hc hd), k.2.1, h.2.2.trans k.2.2⟩
theorem break_cd (B g cap L c d : Nat) (l : List Nat) (w : World) (h : OwnA B w (.slice (some ⟨g, 0, none⟩) L cap) l) (hL : L = l.length) (hcd : c + 13 ≤ d) (hn : d ≤ L) (hbig : L ≤ 1000000) :
    Calls Tryd.prog 67 #[.slice (some ⟨g, 0, none⟩) L cap, .int .i64 (c : Int), .int .i64 (d : Int)] w fun e w' => e = .returned (.tuple #[]) ∧ ∃ l', SegS B g cap L c d l l' w w' := by
  obtain ⟨n, rfl⟩ : ∃ n, d = c + n := ⟨d - c, by omega⟩
  have := break_any B g cap L c n l w h hL (by omega) hn hbig
  rwa [show (c : Int) + (n : Int) = ((c + n : Nat) : Int) by omega] at this
theorem pivot_cd (B g cap L c d : Nat) (l : List Nat) (w : World) (h : OwnA B w (.slice (some ⟨g, 0, none⟩) L cap) l) (hL : L = l.length) (hcd : c + 13 ≤ d) (hn : d ≤ L) (hbig : L ≤ 1000000) :
    Calls Tryd.prog 68 #[.slice (some ⟨g, 0, none⟩) L cap, .int .i64 (c : Int), .int .i64 (d : Int)] w fun e w' => ∃ (p : Nat) (z : Int), e = .returned (.tuple #[.int .i64 (p : Int), .int .i64 z]) ∧ c ≤ p ∧ p < d ∧ (z = 0 ∨ z = 1 ∨ z = 2) ∧ OwnA B w' (.slice (some ⟨g, 0, none⟩) L cap) l ∧ Below B w w' := by
  obtain ⟨n, rfl⟩ : ∃ n, d = c + n := ⟨d - c, by omega⟩
  have := pivot_any B g cap L l w c n h hL hn (by omega) hbig
  rwa [show (c : Int) + (n : Int) = ((c + n : Nat) : Int) by omega] at this
theorem reverse_cd (B g cap L c d : Nat) (l : List Nat) (w : World) (h : OwnA B w (.slice (some ⟨g, 0, none⟩) L cap) l) (hL : L = l.length) (hcd : c < d) (hn : d ≤ L) (hbig : L ≤ 1000000) :
    Calls Tryd.prog 69 #[.slice (some ⟨g, 0, none⟩) L cap, .int .i64 (c : Int), .int .i64 (d : Int)] w fun e w' => e = .returned (.tuple #[]) ∧ ∃ l', SegS B g cap L c d l l' w w' := by
  obtain ⟨n, rfl⟩ : ∃ n, d = c + (n + 1) := ⟨d - c - 1, by omega⟩
  have := reverse_any B g cap L c n l w h hL hn hbig
  rwa [show (c : Int) + ((n : Int) + 1) = ((c + (n + 1) : Nat) : Int) by omega] at this
theorem parteq_cd (B g cap L c d q : Nat) (l : List Nat) (w : World) (h : OwnA B w (.slice (some ⟨g, 0, none⟩) L cap) l) (hL : L = l.length) (hq : c ≤ q ∧ q < d) (hn : d ≤ L) (hbig : L ≤ 1000000) :
    Calls Tryd.prog 72 #[.slice (some ⟨g, 0, none⟩) L cap, .int .i64 (c : Int), .int .i64 (d : Int), .int .i64 (q : Int)] w fun e w' => ∃ (i p : Nat) (l' : List Nat), e = .returned (.int .i64 (i : Int)) ∧ l[q]? = some p ∧ c < i ∧ i ≤ d ∧ EqI c d i (i - 1) p l' ∧ SegS B g cap L c d l l' w w' := by
  obtain ⟨n, rfl⟩ : ∃ n, d = c + (n + 1) := ⟨d - c - 1, by omega⟩
  have := parteq_any B g cap L c n q l w h hL hn hq hbig
  rwa [show (c : Int) + ((n : Int) + 1) = ((c + (n + 1) : Nat) : Int) by omega] at this
theorem part_cd (B g cap L c d q : Nat) (l : List Nat) (w : World) (h : OwnA B w (.slice (some ⟨g, 0, none⟩) L cap) l) (hL : L = l.length) (hq : c ≤ q ∧ q < d) (hn : d ≤ L) (hbig : L ≤ 1000000) :
    Calls Tryd.prog 73 #[.slice (some ⟨g, 0, none⟩) L cap, .int .i64 (c : Int), .int .i64 (d : Int), .int .i64 (q : Int)] w fun e w' => ∃ (j p : Nat) (z : Bool) (l' : List Nat), e = .returned (.tuple #[.int .i64 (j : Int), .bool z]) ∧ l[q]? = some p ∧ c ≤ j ∧ j < d ∧ PtD c d j p l' ∧ SegS B g cap L c d l l' w w' := by
  obtain ⟨n, rfl⟩ : ∃ n, d = c + (n + 1) := ⟨d - c - 1, by omega⟩
  have := part_any B g cap L c n q l w h hL hn hq hbig
  rwa [show (c : Int) + (n : Int) + 1 = ((c + (n + 1) : Nat) : Int) by omega] at this
/-- the quick sort on the way: [c, d) is to be sorted, [a, b) is what is left -/
def PdS (B g cap L c d a b : Nat) (l0 l : List Nat) (w W : World) : Prop := SegS B g cap L c d l0 l w W ∧ OrdS c d a b l
theorem PdS.seg {B g cap L c d a b : Nat} {l0 l l1 : List Nat} {w W W1 : World} (h : PdS B g cap L c d a b l0 l w W) (s : SegS B g cap L a b l l1 W W1) (ha : c ≤ a) (hb : b ≤ d) : PdS B g cap L c d a b l0 l1 w W1 :=
  ⟨h.1.then s ha hb, h.2.seg s.1 ha hb⟩
theorem PdS.lo {B g cap L c d a b : Nat} {l0 l : List Nat} {w W : World} (h : PdS B g cap L c d a b l0 l w W) (hl : LoS c d l0) (ha : c ≤ a) (hb : b ≤ d) : LoS a b l := h.2.lo (hl.seg h.1.1) ha hb
theorem PdS.done {B g cap L c d a b : Nat} {l0 l l1 : List Nat} {w W W1 : World} (h : PdS B g cap L c d a b l0 l w W) (s : SegS B g cap L a b l l1 W W1) (hs : SrtSeg a b l1) (ha : c ≤ a) (hb : b ≤ d) : SegS B g cap L c d l0 l1 w W1 ∧ SrtSeg c d l1 :=
  ⟨h.1.then s ha hb, (h.2.seg s.1 ha hb).done hs⟩
theorem PdS.drewN {B g cap L c d a b : Nat} {l0 l : List Nat} {w W : World} (h : PdS B g cap L c d a b l0 l w W) (q : Nat) : PdS B g cap L c d a b l0 l w (W.drewN q) := ⟨h.1.drewN q, h.2⟩
theorem PdS.below {B g cap L c d a b : Nat} {l0 l : List Nat} {w W W1 : World} (h : PdS B g cap L c d a b l0 l w W) (ho : OwnA B W1 (.slice (some ⟨g, 0, none⟩) L cap) l) (hb : Below B W W1) : PdS B g cap L c d a b l0 l w W1 := ⟨⟨h.1.1, ho, h.1.2.2.trans hb⟩, h.2⟩
theorem PdS.equal {B g cap L c d a b i p u : Nat} {l0 l : List Nat} {w W : World} (h : PdS B g cap L c d a b l0 l w W) (hl : LoS c d l0) (ha : c ≤ a) (hb : b ≤ d) (hi : a < i ∧ i ≤ b) (h0 : 0 < a) (hu : l[a - 1]? = some u) (hup : ¬ u < p) (e : EqI a b i (i - 1) p l) : PdS B g cap L c d i b l0 l w W :=
  ⟨h.1, h.2.equal (h.lo hl ha hb) ⟨by omega, hi.2⟩ h0 hu hup e.2.1 (fun k x h1 h2 hx => e.2.2 k x (by omega) h2 hx)⟩
theorem PdS.left {B g cap L c d a b j p : Nat} {l0 l l1 : List Nat} {w W W1 : World} (h : PdS B g cap L c d a b l0 l w W) (ha : c ≤ a) (hb : b ≤ d) (hj : a ≤ j ∧ j < b) (e : PtD a b j p l) (s : SegS B g cap L a j l l1 W W1) (hs : SrtSeg a j l1) : PdS B g cap L c d (j + 1) b l0 l1 w W1 :=
  ⟨h.1.then s ha (by omega), h.2.left ha hb hj e.1 e.2.1 e.2.2 s.1 hs⟩
theorem PdS.right {B g cap L c d a b j p : Nat} {l0 l l1 : List Nat} {w W W1 : World} (h : PdS B g cap L c d a b l0 l w W) (ha : c ≤ a) (hb : b ≤ d) (hj : a ≤ j ∧ j < b) (e : PtD a b j p l) (s : SegS B g cap L (j + 1) b l l1 W W1) (hs : SrtSeg (j + 1) b l1) : PdS B g cap L c d a j l0 l1 w W1 :=
  ⟨h.1.then s (by omega) hb, h.2.right ha hb hj e.1 e.2.1 e.2.2 s.1 hs⟩
end Go.Proofs.YtaniiennfogjaaaDoor
