/-
  The walks of field's join and Put.
-/
import Derived.Test.YtenfcnappjekgaaWalkE
import Derived.Test.YtenfcnappjekgaaApp
namespace Go.Proofs.Ytenfcnappjekgaa
open Go.RowKit
set_option linter.unusedSimpArgs false
set_option linter.unusedVariables false
set_option maxHeartbeats 4000000
set_option maxRecDepth 100000

theorem join_any (ps : List (List Nat)) (v : Value) (w : World) (hlen : ps.flatten.length ≤ 140737489403904) (hn : ps.length ≤ 1000) (hr : RdS w v ps) :
    Calls Try.prog 110 #[v] w fun e w' => ∃ v', e = .returned v' ∧ w'.ownsRow w.heap.size 5 1 v' ps.flatten.length (u8s ps.flatten) ∧ Below w.heap.size w w' := by
  obtain ⟨i0, hi, hz0, hz1, hz2⟩ := info_parts u8_info
  have HR := Lib.hid hr
  have HF : Hid (∀ k, (ps.take k).flatten.length ≤ ps.flatten.length) := flat_le ps
  have HL := Lib.hid hlen
  obtain ⟨ad, cap, rfl, hc⟩ := hr
  have HC := Lib.hid hc
  clear hc hlen
  go_enter Try.func110, Try.ntmps110
  go_wp2
  go_loopg [3, 5, 8] ps.length (fun g s3 s5 s8 wr => ∃ (k : Nat) (v : Value), k ≤ ps.length ∧ ps.length - k ≤ g ∧ v = s3 ∧ s8 = .int .i64 k ∧ wr.ownsRow w.heap.size 5 1 v (ps.take k).flatten.length (u8s (ps.take k).flatten) ∧ Below w.heap.size w wr)
  case atStart => exact ⟨0, _, by omega, by omega, rfl, rfl, World.ownsRow_nil _ _ _ _, Below.refl _ _⟩
  case round =>
    obtain ⟨k, v, hk, hg, rfl, rfl, hown, hbel⟩ := hrel
    have HO := Lib.hid hown
    have HW := Lib.hid hbel
    clear hown hbel
    by_cases hlt : k < ps.length
    · obtain ⟨p, hp⟩ : ∃ p, ps[k]? = some p := ⟨_, List.getElem?_eq_getElem hlt⟩
      obtain ⟨blk, off, u, rfl, hblk, hc0, hru⟩ := HC.out k p hp
      have hcx : wr.cell? ⟨blk, off + k, none⟩ = some u := (HW.out.cell (p := ⟨blk, off + k, none⟩) hblk).trans hc0
      have HRU := Lib.hid (hru.below HW.out)
      have HP := Lib.hid (flat_take hp)
      have HB : Hid ((ps.take k).flatten.length + p.length ≤ 140737489403904) := by
        have h1 := HF.out (k + 1)
        rw [flat_take hp, List.length_append] at h1
        exact Nat.le_trans h1 HL.out
      have hz : w.heap.size ≤ wr.heap.size := HW.out.size
      clear hp hc0 hru
      go_wp2_with (at_builtin; refine wpList_append_rd _ rfl (.tmp 12) (.tmp 13) 44 rfl w.heap.size 5 i0 Try.underlying44 hi hz0 hz1 hz2 v (ps.take k).flatten rfl HO.out u p rfl HRU.out HB.out hz ?_; intro v1 w1 hown1 hg1; have HO1 := Lib.hid hown1; have HB1 := Lib.hid (below_grown HW.out HO.out hg1 hz); clear hown1 hg1)
      go_roundg (ps.length - (k + 1))
      case measure => omega
      case rel => exact ⟨k + 1, v1, by omega, Nat.le_refl _, rfl, by go_num, by rw [HP.out]; exact HO1.out, HB1.out⟩
    · have hkl : k = ps.length := by omega
      subst hkl
      go_wp2
      go_ret
      refine ⟨v, rfl, ?_, HW.out⟩
      have := HO.out
      rw [List.take_length] at this
      exact this

theorem Blk.rd {w : World} {g : Nat} {t : TypeId} {l : List Nat} (h : Blk w g t (u8s l).toArray) (hb : Bytes l) : Rd w (.slice (some ⟨g, 0, none⟩) l.length l.length) l :=
  ⟨_, _, rfl, Nat.le_refl _, hb, fun k x hk => ⟨g, 0, rfl, h.lt, by rw [Nat.zero_add, h.cell k]; simpa using u8s_get hk⟩⟩
theorem low_rd {w : World} {g m x : Nat} {t : TypeId} (h : Blk w g t (u8s (lowB m x)).toArray) : Rd w (.slice (some ⟨g, 0, none⟩) m m) (lowB m x) := by
  have := h.rd (lowB_bytes m x)
  rw [lowB_len] at this; exact this
theorem rds_two {w : World} {u v : Value} {p q : List Nat} (t : TypeId) (hu : Rd w u p) (hv : Rd w v q) : RdS (w.alloc (.cells #[u, v] t)) (.slice (some ⟨w.heap.size, 0, none⟩) 2 2) [p, q] := by
  have hb : Below w.heap.size w (w.alloc (.cells #[u, v] t)) := (Below.refl _ _).alloc (Nat.le_refl _) _
  refine ⟨_, 2, rfl, fun k r hk => ?_⟩
  match k, hk with
  | 0, hk => obtain rfl := Option.some.inj hk; exact ⟨_, 0, u, rfl, by simp, by simp, hu.below hb⟩
  | 1, hk => obtain rfl := Option.some.inj hk; exact ⟨_, 0, v, rfl, by simp, by simp, hv.below hb⟩
  | k + 2, hk => simp at hk
theorem put_any (l : List Nat) (v : Value) (n : Int) (x m : Nat) (w : World) (hx : x < 18446744073709551616) (hm : (m : Int) = min (max n 0) 8) (hn : I64 n) (hl : l.length ≤ 140737489403896) (hr : Rd w v l) :
    Calls Try.prog 97 #[v, .int .i64 n, .int .u64 x] w fun e w' => ∃ v', e = .returned v' ∧ w'.ownsRow w.heap.size 5 1 v' (l ++ lowB m x).length (u8s (l ++ lowB m x)) ∧ Below w.heap.size w w' := by
  have hlow := lowest_any n x m hx hm hn w
  have hm8 : m ≤ 8 := by omega
  have HR := Lib.hid hr
  have HJ : Hid (∀ (ps : List (List Nat)) (v : Value) (w : World), ps.flatten.length ≤ 140737489403904 → ps.length ≤ 1000 → RdS w v ps →
    Calls Try.prog 110 #[v] w fun e w' => ∃ v', e = .returned v' ∧ w'.ownsRow w.heap.size 5 1 v' ps.flatten.length (u8s ps.flatten) ∧ Below w.heap.size w w') := join_any
  have HLEN : Hid (([l, lowB m x] : List (List Nat)).flatten.length ≤ 140737489403904) := by
    unfold Hid; simp [lowB_len]; omega
  have HFL : Hid (([l, lowB m x] : List (List Nat)).flatten = l ++ lowB m x) := by unfold Hid; simp
  obtain ⟨ad, cap, rfl, _⟩ := hr
  clear hm
  go_enter Try.func97, Try.ntmps97
  go_wp2_with (first
    | (go_at_call 111; refine hlow.mono ?_; rintro e w1 ⟨rfl, hblk, hb1⟩; have HB1 := Lib.hid hb1; have X1 := Lib.hid (rds_two 44 (HR.out.below hb1) (low_rd hblk)); clear hblk hb1)
    | (go_at_call 110; refine (HJ.out _ _ _ HLEN.out (by simp) X1.out).mono ?_; rintro e w2 ⟨v2, rfl, hown, hb2⟩; have X2 := Lib.hid (And.intro hown hb2); clear hown hb2))
  go_ret
  refine ⟨v2, rfl, ?_, ?_⟩
  · have h := own_base X2.out.1 (Nat.le_trans HB1.out.size (by simp))
    rw [HFL.out] at h
    exact h
  · have hs := HB1.out.size
    exact ((HB1.out.alloc hs _).trans (X2.out.2.mono (by simp; omega)))
end Go.Proofs.Ytenfcnappjekgaa
