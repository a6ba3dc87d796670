/-
  The reference's encoding of a header; its Get; its header of bytes.
-/
import Derived.Test.YtenfcnappjekgaaLcA
import Derived.Test.YtenfcnappjekgaaLcB
namespace Go.Proofs.Ytenfcnappjekgaa
open Go.RowKit
set_option linter.unusedSimpArgs false
set_option linter.unusedVariables false
set_option maxHeartbeats 4000000
set_option maxRecDepth 100000

theorem rput_n {l : List Nat} {v : Value} {m x B : Nat} {n : Int} {w : World} (hn : (m : Int) = n) (hx : x < 18446744073709551616) (hm : 0 < m) (hm8 : m ≤ 8) (hl : l.length ≤ 1048576) (hB : B ≤ w.heap.size) (hown : w.ownsRow B 5 1 v l.length (u8s l)) :
    Calls Try.prog 63 #[v, .int .i64 n, .int .u64 (x : Int)] w fun e w' => ∃ v', e = .returned v' ∧ w'.ownsRow B 5 1 v' (l ++ lowB m x).length (u8s (l ++ lowB m x)) ∧ Below B w w' ∧ Kt w w' := hn ▸ rput_any l v m x B w hx hm hm8 hl hB hown
theorem rheader_any (h : HdN) (hh : HdNok h) (w : World) : Calls Try.prog 33 #[hdV h.z] w fun e w' => ∃ v, e = .returned v ∧ OwnB w w' v (hdB h) ∧ Below w.heap.size w w' := by
  have HBY := Lib.hid (hdB_bytes h)
  obtain ⟨ty, id, len, rt, seq, age, sum⟩ := h
  obtain ⟨o1, o2, o3, o4, o5, o6, o7⟩ := hh
  dsimp only at *
  have HX : Hid ((w.alloc (.cells #[.int .i64 (ty : Int), .int .u32 (id : Int), .int .i64 (len : Int), .int .u32 (rt : Int), .int .i64 (seq : Int), .int .i64 (age : Int), .int .i64 (sum : Int)] 24)).heap[w.heap.size]? = some (.cells #[.int .i64 (ty : Int), .int .u32 (id : Int), .int .i64 (len : Int), .int .u32 (rt : Int), .int .i64 (seq : Int), .int .i64 (age : Int), .int .i64 (sum : Int)] 24 (0, 0))) := heap_alloc_new w _
  have HP : Hid (Below w.heap.size w (w.alloc (.cells #[.int .i64 (ty : Int), .int .u32 (id : Int), .int .i64 (len : Int), .int .u32 (rt : Int), .int .i64 (seq : Int), .int .i64 (age : Int), .int .i64 (sum : Int)] 24)) ∧ Kt w (w.alloc (.cells #[.int .i64 (ty : Int), .int .u32 (id : Int), .int .i64 (len : Int), .int .u32 (rt : Int), .int .i64 (seq : Int), .int .i64 (age : Int), .int .i64 (sum : Int)] 24))) := ⟨below_alloc _ _, Kt.below (below_alloc _ _)⟩
  have HO : Hid ((w.alloc (.cells #[.int .i64 (ty : Int), .int .u32 (id : Int), .int .i64 (len : Int), .int .u32 (rt : Int), .int .i64 (seq : Int), .int .i64 (age : Int), .int .i64 (sum : Int)] 24)).ownsRow w.heap.size 5 1 (.slice none 0 0) ([] : List Nat).length (u8s ([] : List Nat))) := World.ownsRow_nil _ _ _ _
  dsimp only [HdN.z]
  go_enter Try.func33, Try.ntmps33
  go_wp2_with (first
    | (go_at_call 63; ((with_reducible refine (rput_n (m := 1) (B := w.heap.size) (by omega) (by omega) (by omega) (by omega) (by simp [lowB_len]) HP.out.1.size HO.out).mono ?_); rintro e w1 ⟨v1, rfl, o1, b1, t1⟩; have HO := Lib.hid o1; have HP := Lib.hid (And.intro (HP.out.1.trans b1) (HP.out.2.trans t1)); have HX := Lib.hid (t1 _ _ _ _ HX.out (by decide) (by decide)); clear o1 b1 t1; have k0 := cell_of HX.out (rfl : (#[.int .i64 (ty : Int), .int .u32 (id : Int), .int .i64 (len : Int), .int .u32 (rt : Int), .int .i64 (seq : Int), .int .i64 (age : Int), .int .i64 (sum : Int)] : Array Value)[0]? = some (.int .i64 (ty : Int))); have k1 := cell_of HX.out (rfl : (#[.int .i64 (ty : Int), .int .u32 (id : Int), .int .i64 (len : Int), .int .u32 (rt : Int), .int .i64 (seq : Int), .int .i64 (age : Int), .int .i64 (sum : Int)] : Array Value)[1]? = some (.int .u32 (id : Int))); have k2 := cell_of HX.out (rfl : (#[.int .i64 (ty : Int), .int .u32 (id : Int), .int .i64 (len : Int), .int .u32 (rt : Int), .int .i64 (seq : Int), .int .i64 (age : Int), .int .i64 (sum : Int)] : Array Value)[2]? = some (.int .i64 (len : Int))); have k3 := cell_of HX.out (rfl : (#[.int .i64 (ty : Int), .int .u32 (id : Int), .int .i64 (len : Int), .int .u32 (rt : Int), .int .i64 (seq : Int), .int .i64 (age : Int), .int .i64 (sum : Int)] : Array Value)[3]? = some (.int .u32 (rt : Int))); have k4 := cell_of HX.out (rfl : (#[.int .i64 (ty : Int), .int .u32 (id : Int), .int .i64 (len : Int), .int .u32 (rt : Int), .int .i64 (seq : Int), .int .i64 (age : Int), .int .i64 (sum : Int)] : Array Value)[4]? = some (.int .i64 (seq : Int))); have k5 := cell_of HX.out (rfl : (#[.int .i64 (ty : Int), .int .u32 (id : Int), .int .i64 (len : Int), .int .u32 (rt : Int), .int .i64 (seq : Int), .int .i64 (age : Int), .int .i64 (sum : Int)] : Array Value)[5]? = some (.int .i64 (age : Int))); have k6 := cell_of HX.out (rfl : (#[.int .i64 (ty : Int), .int .u32 (id : Int), .int .i64 (len : Int), .int .u32 (rt : Int), .int .i64 (seq : Int), .int .i64 (age : Int), .int .i64 (sum : Int)] : Array Value)[6]? = some (.int .i64 (sum : Int)))))
    | (go_at_call 63; ((with_reducible refine (rput_n (m := 2) (B := w.heap.size) (by omega) (by omega) (by omega) (by omega) (by simp [lowB_len]) HP.out.1.size HO.out).mono ?_); rintro e w1 ⟨v1, rfl, o1, b1, t1⟩; have HO := Lib.hid o1; have HP := Lib.hid (And.intro (HP.out.1.trans b1) (HP.out.2.trans t1)); have HX := Lib.hid (t1 _ _ _ _ HX.out (by decide) (by decide)); clear o1 b1 t1; have k0 := cell_of HX.out (rfl : (#[.int .i64 (ty : Int), .int .u32 (id : Int), .int .i64 (len : Int), .int .u32 (rt : Int), .int .i64 (seq : Int), .int .i64 (age : Int), .int .i64 (sum : Int)] : Array Value)[0]? = some (.int .i64 (ty : Int))); have k1 := cell_of HX.out (rfl : (#[.int .i64 (ty : Int), .int .u32 (id : Int), .int .i64 (len : Int), .int .u32 (rt : Int), .int .i64 (seq : Int), .int .i64 (age : Int), .int .i64 (sum : Int)] : Array Value)[1]? = some (.int .u32 (id : Int))); have k2 := cell_of HX.out (rfl : (#[.int .i64 (ty : Int), .int .u32 (id : Int), .int .i64 (len : Int), .int .u32 (rt : Int), .int .i64 (seq : Int), .int .i64 (age : Int), .int .i64 (sum : Int)] : Array Value)[2]? = some (.int .i64 (len : Int))); have k3 := cell_of HX.out (rfl : (#[.int .i64 (ty : Int), .int .u32 (id : Int), .int .i64 (len : Int), .int .u32 (rt : Int), .int .i64 (seq : Int), .int .i64 (age : Int), .int .i64 (sum : Int)] : Array Value)[3]? = some (.int .u32 (rt : Int))); have k4 := cell_of HX.out (rfl : (#[.int .i64 (ty : Int), .int .u32 (id : Int), .int .i64 (len : Int), .int .u32 (rt : Int), .int .i64 (seq : Int), .int .i64 (age : Int), .int .i64 (sum : Int)] : Array Value)[4]? = some (.int .i64 (seq : Int))); have k5 := cell_of HX.out (rfl : (#[.int .i64 (ty : Int), .int .u32 (id : Int), .int .i64 (len : Int), .int .u32 (rt : Int), .int .i64 (seq : Int), .int .i64 (age : Int), .int .i64 (sum : Int)] : Array Value)[5]? = some (.int .i64 (age : Int))); have k6 := cell_of HX.out (rfl : (#[.int .i64 (ty : Int), .int .u32 (id : Int), .int .i64 (len : Int), .int .u32 (rt : Int), .int .i64 (seq : Int), .int .i64 (age : Int), .int .i64 (sum : Int)] : Array Value)[6]? = some (.int .i64 (sum : Int)))))
    | (go_at_call 63; ((with_reducible refine (rput_n (m := 4) (B := w.heap.size) (by omega) (by omega) (by omega) (by omega) (by simp [lowB_len]) HP.out.1.size HO.out).mono ?_); rintro e w1 ⟨v1, rfl, o1, b1, t1⟩; have HO := Lib.hid o1; have HP := Lib.hid (And.intro (HP.out.1.trans b1) (HP.out.2.trans t1)); have HX := Lib.hid (t1 _ _ _ _ HX.out (by decide) (by decide)); clear o1 b1 t1; have k0 := cell_of HX.out (rfl : (#[.int .i64 (ty : Int), .int .u32 (id : Int), .int .i64 (len : Int), .int .u32 (rt : Int), .int .i64 (seq : Int), .int .i64 (age : Int), .int .i64 (sum : Int)] : Array Value)[0]? = some (.int .i64 (ty : Int))); have k1 := cell_of HX.out (rfl : (#[.int .i64 (ty : Int), .int .u32 (id : Int), .int .i64 (len : Int), .int .u32 (rt : Int), .int .i64 (seq : Int), .int .i64 (age : Int), .int .i64 (sum : Int)] : Array Value)[1]? = some (.int .u32 (id : Int))); have k2 := cell_of HX.out (rfl : (#[.int .i64 (ty : Int), .int .u32 (id : Int), .int .i64 (len : Int), .int .u32 (rt : Int), .int .i64 (seq : Int), .int .i64 (age : Int), .int .i64 (sum : Int)] : Array Value)[2]? = some (.int .i64 (len : Int))); have k3 := cell_of HX.out (rfl : (#[.int .i64 (ty : Int), .int .u32 (id : Int), .int .i64 (len : Int), .int .u32 (rt : Int), .int .i64 (seq : Int), .int .i64 (age : Int), .int .i64 (sum : Int)] : Array Value)[3]? = some (.int .u32 (rt : Int))); have k4 := cell_of HX.out (rfl : (#[.int .i64 (ty : Int), .int .u32 (id : Int), .int .i64 (len : Int), .int .u32 (rt : Int), .int .i64 (seq : Int), .int .i64 (age : Int), .int .i64 (sum : Int)] : Array Value)[4]? = some (.int .i64 (seq : Int))); have k5 := cell_of HX.out (rfl : (#[.int .i64 (ty : Int), .int .u32 (id : Int), .int .i64 (len : Int), .int .u32 (rt : Int), .int .i64 (seq : Int), .int .i64 (age : Int), .int .i64 (sum : Int)] : Array Value)[5]? = some (.int .i64 (age : Int))); have k6 := cell_of HX.out (rfl : (#[.int .i64 (ty : Int), .int .u32 (id : Int), .int .i64 (len : Int), .int .u32 (rt : Int), .int .i64 (seq : Int), .int .i64 (age : Int), .int .i64 (sum : Int)] : Array Value)[6]? = some (.int .i64 (sum : Int))))))
  go_ret
  exact ⟨_, rfl, ⟨by have := HO.out; simpa [hdB] using this, HBY.out⟩, HP.out.1⟩
theorem rget_any (l : List Nat) (v : Value) (a n : Nat) (w : World) (hl : l.length ≤ 140737489403904) (hr : Rd w v l) (hn : n ≤ 4) (ha : a + n ≤ l.length) :
    Calls Try.prog 68 #[v, .int .i64 (a : Int), .int .i64 (n : Int)] w fun e w' => e = .returned (.int .u64 (beV ((l.drop a).take n) : Nat)) ∧ w = w' := by
  obtain ⟨ad, cap, rfl, hcap, hby, hat⟩ := hr
  have HAT := Lib.hid hat
  have HBY := Lib.hid hby
  clear hat hby
  have HBV : Hid (∀ k, k ≤ n → beV ((l.drop a).take k) < 72057594037927936) := fun k hk => beV_lt7 _ ((HBY.out.drop a).take k) (by rw [List.length_take]; omega)
  have qn : IntKind.i64.wrap ((a : Int) + (n : Int)) = (a : Int) + (n : Int) := IntWalk.i64_in _ (by omega)
  go_enter Try.func68, Try.ntmps68
  go_wp2
  go_loopg [7, 8] (n + 1) (fun g s7 s8 wr => ∃ k : Nat, k ≤ n ∧ n - k ≤ g ∧ s8 = .int .i64 ((a : Int) + (k : Int)) ∧ s7 = .int .u64 (beV ((l.drop a).take k) : Nat) ∧ w = wr)
  case atStart => exact ⟨0, by omega, by omega, by simp, rfl, rfl⟩
  case round =>
    obtain ⟨k, hk, hg, rfl, rfl, rfl⟩ := hrel
    by_cases hlt : k < n
    · have hx : l[a + k]? = some l[a + k] := List.getElem?_eq_getElem (by omega)
      obtain ⟨x, hxx⟩ : ∃ x, l[a + k] = x := ⟨_, rfl⟩
      rw [hxx] at hx
      obtain ⟨blk, off, rfl, hblk, hc⟩ := HAT.out _ _ hx
      have hx256 := HBY.out.get hx
      have HS : Hid (beV ((l.drop a).take (k + 1)) = beV ((l.drop a).take k) * 256 + x) := by
        have : (l.drop a)[k]? = some x := by rw [List.getElem?_drop]; exact hx
        unfold Hid; rw [take_snoc this, beV_snoc]
      have hb := HBV.out k hk
      obtain ⟨X, hX⟩ : ∃ X, beV ((l.drop a).take k) = X := ⟨_, rfl⟩
      rw [hX] at hb HS ⊢
      have i0 : (0 : Int) ≤ (a : Int) + (k : Int) := by omega
      have i1 : (a : Int) + (k : Int) < (l.length : Int) := by omega
      have i2 : ((a : Int) + (k : Int)).toNat = a + k := by omega
      have i3 : (a : Int) + (k : Int) < (a : Int) + (n : Int) := by omega
      have i4 : IntKind.i64.wrap ((a : Int) + (k : Int) + 1) = (a : Int) + (k : Int) + 1 := IntWalk.i64_in _ (by omega)
      have hc' : w.cell? ⟨blk, off + (a + k), none⟩ = some (.int .u8 (x : Int)) := hc
      clear hx hxx hc hX
      go_wp2
      go_roundg (n - (k + 1))
      case measure => omega
      case rel => exact ⟨k + 1, by omega, Nat.le_refl _, by first | (congr 1; done) | (congr 1; push_cast; omega), by rw [HS.out]; push_cast; rfl, rfl⟩
    · have hkn : k = n := by omega
      subst hkn
      go_wp2
      go_ret
      exact ⟨rfl, rfl⟩
end Go.Proofs.Ytenfcnappjekgaa
