/-
  Writing numbers: the closure that appends a number to a captured slice.
-/
import Derived.Test.YtenfcnappjekgaaLaB
import Derived.Deep.RegionLaw
namespace Go.Proofs.Ytenfcnappjekgaa
open Go.RowKit
set_option linter.unusedSimpArgs false
set_option linter.unusedVariables false
set_option maxHeartbeats 4000000
set_option maxRecDepth 100000

/-- blocks that hold neither bytes nor slices of bytes are as before -/
def Kt (w w' : World) : Prop := ∀ (j : Nat) (cs : Array Value) (t : TypeId) (fr : Nat × Nat), w.heap[j]? = some (.cells cs t fr) → t ≠ 5 → t ≠ 44 → w'.heap[j]? = some (.cells cs t fr)
theorem Kt.refl (w : World) : Kt w w := fun _ _ _ _ h _ _ => h
theorem Kt.trans {a b c : World} (h : Kt a b) (k : Kt b c) : Kt a c := fun j cs t fr e h1 h2 => k j cs t fr (h j cs t fr e h1 h2) h1 h2
theorem Kt.below {w w' : World} (h : Below w.heap.size w w') : Kt w w' := fun j cs t fr e _ _ => (h.block j (Array.getElem?_eq_some_iff.1 e).1).trans e
theorem own_type {w : World} {base s n g : Nat} {e : TypeId} {v : Value} {xs : List Value} (h : w.ownsRow base e s v n xs) (hg : v.ownBlock = some g) : ∃ cur, w.heap[g]? = some (.cells cur e (0, 0)) ∧ base ≤ g := by
  rcases h.2 with ⟨rfl, _⟩ | ⟨g', cap, cur, rfl, hb, hc, _⟩
  · cases hg
  · obtain rfl : g' = g := by simpa [Value.ownBlock] using hg
    exact ⟨cur, hc, hb⟩
theorem Kt.grown {w w1 : World} {base s n : Nat} {v : Value} {xs : List Value} (h : w.ownsRow base 5 s v n xs) (hg : w.grownBy w1 v.ownBlock) : Kt w w1 := fun j cs t fr e h1 _ => by
  refine (hg.block j (Array.getElem?_eq_some_iff.1 e).1 ?_).trans e
  intro hj
  obtain ⟨cur, hc, _⟩ := own_type h hj.symm
  rw [e] at hc
  injection hc with hc
  injection hc with _ h2 _
  exact h1 h2
theorem Kt.set {w : World} {B : Nat} {u : Value} {cs0 : Array Value} (h : w.heap[B]? = some (.cells cs0 44 (0, 0))) : Kt w (w.setCell ⟨B, 0, none⟩ u) := fun j cs t fr e _ h2 => by
  refine (Below.heap_setCell w ⟨B, 0, none⟩ u j ?_).trans e
  rintro rfl
  rw [e] at h
  injection h with h
  injection h with _ h3 _
  exact h2 h3
def PutI (w : World) (B : Nat) (l : List Nat) : Prop := ∃ v, Blk w B 44 #[v] ∧ w.ownsRow (B + 1) 5 1 v l.length (u8s l) ∧ Bytes l
theorem PutI.below {w w' : World} {B : Nat} {l : List Nat} (h : PutI w B l) (hb : Below w.heap.size w w') : PutI w' B l := by
  obtain ⟨v, h1, h2, h3⟩ := h
  exact ⟨v, h1.below hb h1.lt, own_below h2 hb, h3⟩
theorem PutI.lt {w : World} {B : Nat} {l : List Nat} (h : PutI w B l) : B < w.heap.size := h.choose_spec.1.lt
theorem below_undrew {B : Nat} {a w : World} (h : Below B a.drew w) : Below B a w := ⟨h.os, h.tape, h.output, h.size, h.block⟩
theorem own_slice {w : World} {base s n : Nat} {e : TypeId} {v : Value} {xs : List Value} (h : w.ownsRow base e s v n xs) : ∃ a m c, v = .slice a m c := by
  rcases h.2 with ⟨rfl, _⟩ | ⟨g, cap, cur, rfl, _⟩
  · exact ⟨_, _, _, rfl⟩
  · exact ⟨_, _, _, rfl⟩
theorem puts_any (l : List Nat) (n : Int) (x m B : Nat) (w : World) (hx : x < 18446744073709551616) (hm : (m : Int) = min (max n 0) 8) (hn : I64 n) (hl : l.length ≤ 1048576) (hp : PutI w B l) :
    Calls Try.prog 96 #[.int .i64 n, .int .u64 (x : Int), .pointer (some ⟨B, 0, none⟩)] w fun e w' => e = .returned (.tuple #[]) ∧ PutI w' B (l ++ lowB m x) ∧ Below B w w' ∧ Kt w w' := by
  obtain ⟨i0, hi, hz0, hz1, hz2⟩ := info_parts u8_info
  obtain ⟨v, hblk, hown, hbl⟩ := hp
  obtain ⟨va, vn, vc, rfl⟩ := own_slice hown
  have hlt := hblk.lt
  have k0 : w.cell? ⟨B, 0, none⟩ = some (.slice va vn vc) := by rw [hblk.cell 0]; rfl
  have f0 := hblk.frozen 0
  have HB := Lib.hid hblk
  have HO := Lib.hid hown
  have HM : Hid (m ≤ 8) := by unfold Hid; omega
  have HL : Hid (l.length + (([] : List Nat) ++ lowB m x).length ≤ 140737489403904) := by unfold Hid; have := HM.out; simp [lowB_len]; omega
  have HPUT : Hid (∀ W : World, Calls Try.prog 97 #[.slice none 0 0, .int .i64 n, .int .u64 (x : Int)] W fun e w' => ∃ v', e = .returned v' ∧ w'.ownsRow W.heap.size 5 1 v' ([] ++ lowB m x).length (u8s ([] ++ lowB m x)) ∧ Below W.heap.size W w') := fun W =>
    put_any [] _ n x m W hx hm hn (by simp) (rd_nil W)
  have HFIN : Hid (∀ (w1 : World) (v1 : Value) (w2 : World) (v2 : Value), Below w.heap.size w w1 → w2.ownsRow (B + 1) 5 1 v2 (l ++ ([] ++ lowB m x)).length (u8s (l ++ ([] ++ lowB m x))) → w1.grownBy w2 (Value.slice va vn vc).ownBlock →
      PutI (w2.setCell ⟨B, 0, none⟩ v2) B (l ++ lowB m x) ∧ Below B w (w2.setCell ⟨B, 0, none⟩ v2) ∧ Kt w (w2.setCell ⟨B, 0, none⟩ v2)) := fun w1 v1 w2 v2 hb1 ho2 hg => by
    have ho1 : w1.ownsRow (B + 1) 5 1 (.slice va vn vc) l.length (u8s l) := own_below hown hb1
    have hnb : some B ≠ (Value.slice va vn vc).ownBlock := fun e => by obtain ⟨_, _, h⟩ := own_type hown e.symm; omega
    have hB2 : w2.heap[B]? = some (.cells #[.slice va vn vc] 44 (0, 0)) := (hg.block B (Nat.lt_of_lt_of_le hlt hb1.size) hnb).trans ((hb1.block B hlt).trans hblk)
    have hblk2 : Blk w2 B 44 #[.slice va vn vc] := hB2
    refine ⟨⟨v2, by simpa using hblk2.set_ 0 v2, ?_, hbl.app (lowB_bytes m x)⟩, ?_, ?_⟩
    · have h := ho2
      simp only [List.nil_append] at h
      refine ⟨h.1, h.2.imp id ?_⟩
      rintro ⟨g, cap, cur, e1, e2, e3, e4⟩
      refine ⟨g, cap, cur, e1, e2, (Below.heap_setCell w2 ⟨B, 0, none⟩ v2 g (by show g ≠ B; omega)).trans e3, e4⟩
    · have h1 : Below B w w2 := (hb1.mono (Nat.le_of_lt hlt)).trans (Below.grown (Below.refl B w1) hg (by have := hb1.size; omega) (fun j hj => by
        have hj' : (Value.slice va vn vc).ownBlock = some j := by simpa using hj
        obtain ⟨_, _, h⟩ := own_type hown hj'
        omega))
      exact h1.trans (Below.setCell (Below.refl B w2) (by show B ≤ B; omega) v2)
    · exact ((Kt.below hb1).trans (Kt.grown ho1 hg)).trans (Kt.set hB2)
  have HCELL : Hid (∀ (w1 w2 : World) (x : Nat), Below w.heap.size w w1 → w1.grownBy w2 (Value.slice va vn vc).ownBlock → w2.cell? ⟨B, 0, none⟩ = some (.slice va vn vc) ∧ w2.frozen? ⟨B, 0, none⟩ = false) := fun w1 w2 _ hb1 hg => by
    have hnb : some B ≠ (Value.slice va vn vc).ownBlock := fun e => by obtain ⟨_, _, h⟩ := own_type hown e.symm; omega
    have hB2 : Blk w2 B 44 #[.slice va vn vc] := (hg.block B (Nat.lt_of_lt_of_le hlt hb1.size) hnb).trans ((hb1.block B hlt).trans hblk)
    exact ⟨by rw [hB2.cell 0]; rfl, hB2.frozen 0⟩
  clear hown hblk hm
  go_enter Try.func96, Try.ntmps96
  go_wp2_with fail
  go_region_law (first
    | (go_simp
       go_at_call 97
       refine (HPUT.out _).mono ?_
       rintro e w1 ⟨v1, rfl, hown1, hb1⟩
       have hb2 := below_undrew hb1
       have k1 : w1.cell? ⟨B, 0, none⟩ = some (.slice va vn vc) := (hb2.cell (p := ⟨B, 0, none⟩) hlt).trans k0
       have HR1 : Hid (Rd w1 v1 ([] ++ lowB m x)) := rd_own hown1 (Bytes.app (fun y hy => by cases hy) (lowB_bytes m x))
       have HB1 := Lib.hid hb2
       clear hown1 hb1 hb2)
    | (refine step_append_rd _ rfl (.tmp 5) (.tmp 8) 44 rfl (B + 1) 5 i0 Try.underlying44 hi hz0 hz1 hz2 (.slice va vn vc) l rfl (own_below HO.out HB1.out) _ ([] ++ lowB m x) rfl HR1.out HL.out (by have := HB1.out.size; omega) ?_
       intro v2 w2 ho2 hg2
       obtain ⟨a2, n2, c2, rfl⟩ := own_slice ho2
       have HF := Lib.hid (HFIN.out _ v1 _ _ HB1.out ho2 hg2)
       have HB2c := Lib.hid (HCELL.out _ _ 0 HB1.out hg2)
       have k2 : w2.cell? ⟨B, 0, none⟩ = some (.slice va vn vc) := HB2c.out.1
       have f2 : w2.frozen? ⟨B, 0, none⟩ = false := HB2c.out.2
       clear ho2 hg2))
  all_goals go_end0
  all_goals trace_state
  all_goals exact ⟨rfl, HF.out⟩
end Go.Proofs.Ytenfcnappjekgaa
