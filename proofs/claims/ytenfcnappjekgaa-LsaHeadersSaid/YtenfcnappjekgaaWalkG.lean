/-
  The walk of Fletcher.
-/
import Derived.Test.YtenfcnappjekgaaWalkF
import Derived.Test.YtenfcnappjekgaaWalkD
import Derived.Deep.RegionHeld3
import Derived.IntWalk
namespace Go.Proofs.Ytenfcnappjekgaa
open Go.RowKit
set_option linter.unusedSimpArgs false
set_option linter.unusedVariables false
set_option maxHeartbeats 4000000
set_option maxRecDepth 100000

theorem Rd.drewN {w : World} {v : Value} {l : List Nat} (h : Rd w v l) (n : Nat) : Rd (w.drewN n) v l := h.below (below_drewN (Below.refl _ _) n)
theorem rd_take {w : World} {ad : Option Addr} {l : List Nat} {cap : Nat} (h : Rd w (.slice ad l.length cap) l) (a : Nat) (ha : a ≤ l.length) : Rd w (.slice ad a cap) (l.take a) := by
  obtain ⟨ad', cap', e, hc, hb, hat⟩ := h
  injection e with e1 e2 e3
  subst e1 e3
  exact ⟨ad, cap, by rw [List.length_take, Nat.min_eq_left ha], by rw [List.length_take]; omega, hb.take a, hat.take a⟩
theorem rd_drop {w : World} {ad : Option Addr} {l : List Nat} {cap : Nat} (h : Rd w (.slice ad l.length cap) l) (a : Nat) : Rd w (.slice (if cap = a then ad else ad.map (·.add a)) (l.length - a) (cap - a)) (l.drop a) := by
  obtain ⟨ad', cap', e, hc, hb, hat⟩ := h
  injection e with e1 e2 e3
  subst e1 e3
  exact ⟨_, _, by rw [List.length_drop], by rw [List.length_drop]; omega, hb.drop a, hat.cut hc⟩

theorem rd_drop2 {w : World} {ad : Option Addr} {l : List Nat} {cap : Nat} (h : Rd w (.slice ad l.length cap) l) (a : Nat) :
    Rd w (.slice (if cap = a + 2 then ad else Option.map (fun x => { block := x.block, off := x.off + (a + 1 + 1) }) ad) (l.length - (a + 2)) (cap - (a + 2))) (l.drop (a + 2)) := by
  have := rd_drop h (a + 2)
  have e : (fun x : Addr => x.add (a + 2)) = (fun x : Addr => ({ block := x.block, off := x.off + (a + 1 + 1) } : Addr)) := by funext x; simp [Addr.add]
  rw [e] at this; exact this
theorem fletcher_no (l : List Nat) (v : Value) (n : Int) (w : World) (hn : I64 n) (hl : l.length ≤ 140737488355328) (hr : Rd w v l) (h : n < 0 ∨ (l.length : Int) - 1 ≤ n) :
    Calls Try.prog 85 #[v, .int .i64 n] w fun e w' => e = .returned (.tuple #[.int .i64 0, .bool false]) ∧ Below w.heap.size w w' := by
  obtain ⟨ad, cap, rfl, _⟩ := hr
  by_cases h0 : n < 0
  · go_enter Try.func85, Try.ntmps85
    go_wp2
    go_ret2
    exact ⟨rfl, Below.refl _ _⟩
  · have h1 : (l.length : Int) - 1 ≤ n := by omega
    clear h
    go_enter Try.func85, Try.ntmps85
    go_wp2
    go_ret2
    exact ⟨rfl, Below.refl _ _⟩
theorem fletcher_yes (l : List Nat) (v : Value) (a : Nat) (w : World) (hl : l.length ≤ 140737488355328) (hr : Rd w v l) (ha : a + 1 < l.length) :
    Calls Try.prog 85 #[v, .int .i64 a] w fun e w' => e = .returned (.tuple #[.int .i64 (flv l a), .bool true]) ∧ Below w.heap.size w w' := by
  obtain ⟨i0, hi, hz0, hz1, hz2⟩ := info_parts u8_info
  have HR := Lib.hid hr
  have hb := hr.bytes
  have hcap : ∃ ad cap, v = .slice ad l.length cap ∧ l.length ≤ cap := by obtain ⟨ad, cap, e, h, _⟩ := hr; exact ⟨ad, cap, e, h⟩
  obtain ⟨ad, cap, rfl, hcap⟩ := hcap
  clear hr
  have hc0 : ¬ (a : Int) < 0 := by omega
  have hc1 : ¬ (l.length : Int) - 1 ≤ (a : Int) := by omega
  go_enter Try.func85, Try.ntmps85
  go_wp2
  have q0 : (0 : Int) ≤ (a : Int) := by omega
  have q1 : (a : Int) ≤ (cap : Int) := by omega
  have q2 : (0 : Int) ≤ (a : Int) + 2 := by omega
  have q3 : (a : Int) + 2 ≤ (l.length : Int) := by omega
  have q4 : ((a : Int) + 2).toNat = a + 2 := by omega
  have q5 : IntKind.i64.wrap ((a : Int) + 2) = (a : Int) + 2 := IntWalk.i64_in _ (by omega)
  have HRT : Hid (Rd w.drew (.slice ad a cap) (l.take a)) := rd_take (HR.out.below (below_drew (Below.refl _ _))) a (by omega)
  by_cases hcc : cap = a + 2
  · have HRD : Hid (∀ W, Below w.heap.size w W → Rd W (.slice ad 0 0) (l.drop (a + 2))) := fun W hW => by
      have e : l.drop (a + 2) = [] := List.drop_eq_nil_of_le (by omega)
      rw [e]
      exact ⟨ad, 0, rfl, Nat.le_refl _, fun x h => by simp at h, at_nil _ _ _⟩
    subst hcc
    have q8 : (a : Int) ≤ (a : Int) + 2 := by omega
    have HL1 : Hid ((l.take a).length ≤ 140737489403896) := by unfold Hid; rw [List.length_take]; omega
    have HL2 : Hid ((l.take a ++ lowB 2 0).length + (l.drop (a + 2)).length ≤ 140737489403904) := by unfold Hid; rw [List.length_append, lowB_len, List.length_take, List.length_drop]; omega
    go_region_held3 (fun w' => Hid (Below w.heap.size w w')) (first | exact below_drewN (Below.refl _ _) 1 | go_keep)
      (first
        | (go_at_call 97; refine (put_any (l.take a) _ 2 0 2 _ (by omega) (by omega) (by omega) HL1.out HRT.out).mono ?_; rintro e w1 ⟨v1, rfl, hown, hb1⟩
           have hkk : Hid (Below w.heap.size w w1) := (below_drew (Below.refl _ _)).trans hb1
           have HO1 := Lib.hid hown
           clear hown hb1)
        | (refine step_append_rd _ rfl (.tmp 23) (.tmp 27) 44 rfl w.heap.size 5 i0 Try.underlying44 hi hz0 hz1 hz2 v1 (l.take a ++ lowB 2 0) (by rfl) HO1.out _ (l.drop (a + 2)) (by rfl) (HRD.out _ hkk.out) HL2.out (hkk.out.size) ?_
           intro v2 w2 hown2 hg2
           have hkk2 : Hid (Below w.heap.size w w2) := below_grown hkk.out HO1.out hg2 hkk.out.size
           have HO2 := Lib.hid hown2
           clear hown2 hg2))
    have HX : Hid (Rd w2 v2 (blank l a)) := by
      have h := rd_own HO2.out (((hb.take a).app (lowB_bytes 2 0)).app (hb.drop (a + 2)))
      have e : l.take a ++ lowB 2 0 ++ l.drop (a + 2) = blank l a := blank_eq l a ha
      rw [e] at h; exact h
    obtain ⟨s, t, HS, hs255, ht255⟩ : ∃ s t : Nat, Hid (s = fl1 (blank l a) ∧ t = fl2 (blank l a)) ∧ s < 255 ∧ t < 255 := ⟨_, _, ⟨rfl, rfl⟩, (fl_lt _).1, (fl_lt _).2⟩
    have hsum := sums_any (blank l a) v2 w2 (by rw [blank_len]; exact hl) HX.out
    unfold sumsV at hsum
    rw [← HS.out.1, ← HS.out.2] at hsum
    have HE : Hid (((l.length : Int) - 1 - a) % 255 = ((l.length - 1 - a) % 255 : Nat)) := by unfold Hid; omega
    have hq : (((l.length : Int) - 1 - a) % 255) < 255 := by omega
    have hq0 : 0 ≤ (((l.length : Int) - 1 - a) % 255) := by omega
    have hp0 : 0 ≤ ((l.length : Int) - 1 - a) % 255 * s := Int.mul_nonneg hq0 (by omega)
    have hp1 : ((l.length : Int) - 1 - a) % 255 * s ≤ 65025 := by
      have h1 : ((l.length : Int) - 1 - a) % 255 * s ≤ 255 * s := Int.mul_le_mul_of_nonneg_right (by omega) (by omega)
      omega
    have hx := res_spec (((l.length : Int) - 1 - a) % 255 * s - t) 255 (by omega)
    have hx1 := hx.1
    have hx2 := hx.2.1
    have hy := res_spec (-(s : Int) - res (((l.length : Int) - 1 - a) % 255 * s - t) 255) 255 (by omega)
    have hy1 := hy.1
    have hy2 := hy.2.1
    have HB2 := Lib.hid hkk2.out
    clear hq hq0 hx hy
    go_wp2_with (first
      | (go_at_call 102; refine hsum.mono ?_; rintro e w3 ⟨rfl, hb3⟩; have HB3 : Hid (Below w.heap.size w w3) := HB2.out.trans (hb3.mono HB2.out.size); clear hb3)
      | (go_at_call 103; ((with_reducible refine (residue_any _ _ (by omega) (by omega) _).mono ?_); rintro e w' ⟨rfl, rfl⟩)))
    go_ret2
    have hv : flv l a = 256 * res (((l.length : Int) - 1 - a) % 255 * s - t) 255 + res (-(s : Int) - res (((l.length : Int) - 1 - a) % 255 * s - t) 255) 255 := by
      rw [HE.out, HS.out.1, HS.out.2]; rfl
    rw [hv]
    refine ⟨rfl, ?_⟩
    exact HB3.out.alloc HB3.out.size _
  · have HRD : Hid (∀ W, Below w.heap.size w W → Rd W (.slice (Option.map (fun x => { block := x.block, off := x.off + (a + 1 + 1) }) ad) (l.length - (a + 2)) (cap - (a + 2))) (l.drop (a + 2))) := fun W hW => by have := rd_drop2 (HR.out.below hW) a; rw [if_neg hcc] at this; exact this
    have HL1 : Hid ((l.take a).length ≤ 140737489403896) := by unfold Hid; rw [List.length_take]; omega
    have HL2 : Hid ((l.take a ++ lowB 2 0).length + (l.drop (a + 2)).length ≤ 140737489403904) := by unfold Hid; rw [List.length_append, lowB_len, List.length_take, List.length_drop]; omega
    go_region_held3 (fun w' => Hid (Below w.heap.size w w')) (first | exact below_drewN (Below.refl _ _) 1 | go_keep)
      (first
        | (go_at_call 97; refine (put_any (l.take a) _ 2 0 2 _ (by omega) (by omega) (by omega) HL1.out HRT.out).mono ?_; rintro e w1 ⟨v1, rfl, hown, hb1⟩
           have hkk : Hid (Below w.heap.size w w1) := (below_drew (Below.refl _ _)).trans hb1
           have HO1 := Lib.hid hown
           clear hown hb1)
        | (refine step_append_rd _ rfl (.tmp 23) (.tmp 27) 44 rfl w.heap.size 5 i0 Try.underlying44 hi hz0 hz1 hz2 v1 (l.take a ++ lowB 2 0) (by rfl) HO1.out _ (l.drop (a + 2)) (by rfl) (HRD.out _ hkk.out) HL2.out (hkk.out.size) ?_
           intro v2 w2 hown2 hg2
           have hkk2 : Hid (Below w.heap.size w w2) := below_grown hkk.out HO1.out hg2 hkk.out.size
           have HO2 := Lib.hid hown2
           clear hown2 hg2))
    have HX : Hid (Rd w2 v2 (blank l a)) := by
      have h := rd_own HO2.out (((hb.take a).app (lowB_bytes 2 0)).app (hb.drop (a + 2)))
      have e : l.take a ++ lowB 2 0 ++ l.drop (a + 2) = blank l a := blank_eq l a ha
      rw [e] at h; exact h
    obtain ⟨s, t, HS, hs255, ht255⟩ : ∃ s t : Nat, Hid (s = fl1 (blank l a) ∧ t = fl2 (blank l a)) ∧ s < 255 ∧ t < 255 := ⟨_, _, ⟨rfl, rfl⟩, (fl_lt _).1, (fl_lt _).2⟩
    have hsum := sums_any (blank l a) v2 w2 (by rw [blank_len]; exact hl) HX.out
    unfold sumsV at hsum
    rw [← HS.out.1, ← HS.out.2] at hsum
    have HE : Hid (((l.length : Int) - 1 - a) % 255 = ((l.length - 1 - a) % 255 : Nat)) := by unfold Hid; omega
    have hq : (((l.length : Int) - 1 - a) % 255) < 255 := by omega
    have hq0 : 0 ≤ (((l.length : Int) - 1 - a) % 255) := by omega
    have hp0 : 0 ≤ ((l.length : Int) - 1 - a) % 255 * s := Int.mul_nonneg hq0 (by omega)
    have hp1 : ((l.length : Int) - 1 - a) % 255 * s ≤ 65025 := by
      have h1 : ((l.length : Int) - 1 - a) % 255 * s ≤ 255 * s := Int.mul_le_mul_of_nonneg_right (by omega) (by omega)
      omega
    have hx := res_spec (((l.length : Int) - 1 - a) % 255 * s - t) 255 (by omega)
    have hx1 := hx.1
    have hx2 := hx.2.1
    have hy := res_spec (-(s : Int) - res (((l.length : Int) - 1 - a) % 255 * s - t) 255) 255 (by omega)
    have hy1 := hy.1
    have hy2 := hy.2.1
    have HB2 := Lib.hid hkk2.out
    clear hq hq0 hx hy
    go_wp2_with (first
      | (go_at_call 102; refine hsum.mono ?_; rintro e w3 ⟨rfl, hb3⟩; have HB3 : Hid (Below w.heap.size w w3) := HB2.out.trans (hb3.mono HB2.out.size); clear hb3)
      | (go_at_call 103; ((with_reducible refine (residue_any _ _ (by omega) (by omega) _).mono ?_); rintro e w' ⟨rfl, rfl⟩)))
    go_ret2
    have hv : flv l a = 256 * res (((l.length : Int) - 1 - a) % 255 * s - t) 255 + res (-(s : Int) - res (((l.length : Int) - 1 - a) % 255 * s - t) 255) 255 := by
      rw [HE.out, HS.out.1, HS.out.2]; rfl
    rw [hv]
    refine ⟨rfl, ?_⟩
    exact HB3.out.alloc HB3.out.size _
end Go.Proofs.Ytenfcnappjekgaa
