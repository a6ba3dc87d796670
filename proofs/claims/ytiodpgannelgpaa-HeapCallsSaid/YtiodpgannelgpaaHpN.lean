/-
  The law on calls.
-/
import Derived.Test.YtiodpgannelgpaaHpL
namespace Go.Proofs.Ytiodpgannelgpaa
open Go.RowKit HM
set_option linter.unusedSimpArgs false
set_option linter.unusedVariables false
set_option maxHeartbeats 4000000
set_option maxRecDepth 100000

theorem calls_big (x0 : Int) (l : List Tri) (v : Value) (w : World) (hr : Rd3 w v l) (h : 200 < l.length) : Calls Try.prog 12 #[.int .i64 x0, v] w fun e w' => e = .returned (.bool true) ∧ Below w.heap.size w w' := by
  obtain ⟨ad, cap, rfl, h1, h2, hc⟩ := hr
  have h' : (200 : Int) < (l.length : Int) := by omega
  clear hc
  go_enter Try.func12, Try.ntmps12
  go_wp2_with (go_at_call 39; refine (awake_any _).mono ?_; rintro e w1 ⟨rfl, hb⟩; have B := Lib.hid hb; clear hb)
  go_ret
  exact ⟨rfl, B.out⟩
theorem calls_small (x0 : Int) (l : List Tri) (v : Value) (w : World) (hr : Rd3 w v l) (h : l.length ≤ 200) : Calls Try.prog 12 #[.int .i64 x0, v] w fun e w' => e = .returned (.bool true) ∧ Below w.heap.size w w' := by
  obtain ⟨ad, cap, rfl, h1, h2, hc⟩ := hr
  have HC := Lib.hid hc
  clear hc h1
  obtain ⟨L, hL⟩ : ∃ L, l.length = L := ⟨_, rfl⟩
  have HL := Lib.hid hL
  rw [hL] at h
  rw [hL]
  clear hL
  obtain ⟨n, hn⟩ : ∃ n : Nat, (n : Int) = min (max x0 0) 65536 := ⟨(min (max x0 0) 65536).toNat, by omega⟩
  have HN := Lib.hid hn
  clear hn
  go_enter Try.func12, Try.ntmps12
  go_wp2_with fail
  go_at_call 40
  refine (hw_new x0 n HN.out w w (Below.refl _ _)).mono ?_
  rintro e w1 ⟨hb, rfl, hh⟩
  have H0 := Lib.hid hh
  clear hh
  go_wp2_with fail
  go_at_call 41
  refine (rnew_any x0 w1).mono ?_
  rintro e w2 ⟨r, I, K, n', rfl, hn', hR, hlow, hb2⟩
  have HS : Hid (∃ ins keys, Duo w w2 hb r I K n ins keys [r, I, K]) := by
    obtain rfl : n' = n := by have := HN.out; omega
    obtain ⟨gs, a, b, c⟩ := H0.out
    have hs := c.size
    refine ⟨_, _, ⟨gs, a.below hb2, fun g hg => ⟨b g hg, fun hm => ?_⟩, below_then c hb2, hR.lt⟩, hR, fun g hg => hg, fun g hg => by have := hlow g hg; omega⟩
    have := a.lt g hg
    have := hlow g hm
    omega
  clear hR hlow hb2 hn' H0
  go_wp2_with fail
  go_loopg [21, 8] L (fun g s21 s8 wr => ∃ (k : Nat), k ≤ L ∧ L - k ≤ g ∧ s21 = .int .i64 (k : Int) ∧ (∃ v, v = s8) ∧ Hid (∃ ins keys, Duo w wr hb r I K n ins keys [r, I, K]))
  case atStart => exact ⟨0, by omega, by omega, rfl, ⟨_, rfl⟩, HS⟩
  case round =>
    clear HS
    obtain ⟨k, hk, hkg, rfl, ⟨v8, rfl⟩, HS⟩ := hrel
    by_cases hlt : k < L
    · obtain ⟨x, hx⟩ : ∃ x, l[k]? = some x := ⟨_, List.getElem?_eq_getElem (by have := HL.out; omega)⟩
      have hB : Below w.heap.size w wr := HS.out.elim fun ins h => h.elim fun keys h => h.z.b
      obtain ⟨b, off, rfl, hbl, c0, c1, c2⟩ := rd3_cell HC.out hB hx
      obtain ⟨kd, it, ky⟩ := x
      dsimp only at c0 c1 c2
      clear hx hB
      have k0 : (0 : Int) ≤ (k : Int) := by omega
      have k1 : (k : Int) < (L : Int) := by omega
      have HA : Hid (Calls Try.prog 42 #[.pointer (some ⟨hb, 0, none⟩), .pointer (some ⟨r, 0, none⟩), .agg #[.int .i64 kd, .int .i64 it, .int .i64 ky]] (wr.alloc (.cells #[.int .i64 kd, .int .i64 it, .int .i64 ky] 60)) (ActP w hb r I K n [r, I, K])) := by
        obtain ⟨ins, keys, h⟩ := HS.out
        exact act_any w _ hb r I K n ins keys [r, I, K] (h.below (below_alloc _ _)) (kd, it, ky)
      go_wp2_with fail
      go_at_call 42
      refine HA.out.mono ?_
      rintro e w3 ⟨rfl, ins, keys, hd⟩
      have HD := Lib.hid hd
      have HL1 := Lib.hid hd.z.size
      have HL2 := Lib.hid (rlen_any _ r I K n ins keys hd.e)
      clear hd HA
      go_wp2_with (first
        | (go_at_call 43; refine HL1.out.mono ?_; rintro e w4 ⟨rfl, rfl⟩)
        | (go_at_call 44; refine HL2.out.mono ?_; rintro e w4 ⟨rfl, rfl⟩))
      go_roundg (L - (k + 1))
      case measure => omega
      case rel => exact ⟨k + 1, by omega, Nat.le_refl _, by go_num, ⟨_, rfl⟩, ⟨_, _, HD.out⟩⟩
    · go_wp2_with (go_at_call 39; refine (awake_any _).mono ?_; rintro e w3 ⟨rfl, hb3⟩; have B3 := Lib.hid hb3; clear hb3)
      go_ret
      obtain ⟨ins, keys, h⟩ := HS.out
      exact ⟨rfl, below_then h.z.b B3.out⟩
theorem calls_walk (x0 : Int) (l : List Tri) (v : Value) (w : World) (hx0 : I64 x0) (hr : Rd3 w v l) (hf : FitT l) : Calls Try.prog 12 #[.int .i64 x0, v] w fun e w' => e = .returned (.bool true) ∧ Below w.heap.size w w' := by
  by_cases h : 200 < l.length
  · exact calls_big x0 l v w hr h
  · exact calls_small x0 l v w hr (by omega)
end Go.Proofs.Ytiodpgannelgpaa
