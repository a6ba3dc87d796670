/-
  The walks of the reference's With and Fletcher, and of sealed.
-/
import Derived.Test.YtenfcnappjekgaaWalkG
namespace Go.Proofs.Ytenfcnappjekgaa
open Go.RowKit
set_option linter.unusedSimpArgs false
set_option linter.unusedVariables false
set_option maxHeartbeats 4000000
set_option maxRecDepth 100000

theorem u8s_set (l : List Nat) (a x : Nat) : u8s (l.set a x) = (u8s l).set a (.int .u8 (x : Int)) := by unfold u8s; rw [List.map_set]
theorem own_set {w : World} {B g cap n a : Nat} {e : TypeId} {l : List Nat} (h : w.ownsRow B e 1 (.slice (some ⟨g, 0, none⟩) n cap) n (u8s l)) (x : Nat) : (w.setCell ⟨g, a, none⟩ (.int .u8 (x : Int))).ownsRow B e 1 (.slice (some ⟨g, 0, none⟩) n cap) n (u8s (l.set a x)) := by
  rw [u8s_set]; exact (h.stored a _).1

theorem app_new {w w1 : World} {e : TypeId} {v1 : Value} {l : List Nat} (hown : w1.ownsRow w.heap.size e 1 v1 (([] : List Nat) ++ l).length (u8s (([] : List Nat) ++ l)))
    (hg : (w.alloc (.cells #[] e)).grownBy w1 (Value.slice (some ⟨w.heap.size, 0, none⟩) 0 0).ownBlock) (hn : 0 < l.length) :
    ∃ g cp, v1 = .slice (some ⟨g, 0, none⟩) l.length cp ∧ w1.ownsRow w.heap.size e 1 (.slice (some ⟨g, 0, none⟩) l.length cp) l.length (u8s l) ∧ Below w.heap.size w w1 := by
  rw [List.nil_append] at hown
  obtain ⟨g, cp, rfl, _, _⟩ := hown.form hn
  refine ⟨g, cp, rfl, hown, ?_⟩
  exact ((Below.refl _ w).alloc (Nat.le_refl _) _).grown hg (by simp) (fun j hj => by simp [Value.ownBlock] at hj; omega)
theorem with_any (l : List Nat) (v : Value) (a x : Nat) (w : World) (hl : l.length ≤ 140737488355328) (hr : Rd w v l) (ha : a + 1 < l.length) (hx : x < 65536) :
    Calls Try.prog 108 #[v, .int .i64 a, .int .i64 x] w fun e w' => ∃ v', e = .returned v' ∧ w'.ownsRow w.heap.size 5 1 v' l.length (u8s (stow l a (x / 256) (x % 256))) ∧ Below w.heap.size w w' := by
  obtain ⟨i0, hi, hz0, hz1, hz2⟩ := info_parts u8_info
  have HR := Lib.hid hr
  obtain ⟨ad, cap, rfl, _⟩ := hr
  have HL : Hid (([] : List Nat).length + l.length ≤ 140737489403904) := by unfold Hid; simp; omega
  go_enter Try.func108, Try.ntmps108
  go_wp2_with (
    at_builtin
    refine wpList_append_rd _ rfl (.tmp 8) (.tmp 9) 44 rfl w.heap.size 5 i0 Try.underlying44 hi hz0 hz1 hz2 _ [] rfl (World.ownsRow_made w #[] 0 (Nat.le_refl _) (Nat.zero_le _) (by simp)) _ l rfl (HR.out.below ((Below.refl _ _).alloc (Nat.le_refl _) _)) HL.out (by simp) ?_
    intro v1 w1 hown1 hg1
    obtain ⟨g, cp, rfl, hown, hbel⟩ := app_new hown1 hg1 (by omega)
    have c0 := hown.cellAt a (by omega)
    have c1 := hown.cellAt (a + 1) (by omega)
    have f0 := hown.frozenAt a
    have f1 := hown.frozenAt (a + 1)
    rw [u8s_get (List.getElem?_eq_getElem (show a < l.length by omega))] at c0
    rw [u8s_get (List.getElem?_eq_getElem (show a + 1 < l.length by omega))] at c1
    have HO := Lib.hid (And.intro hown hbel)
    have HG : Hid (w.heap.size ≤ g) := (hown.lt g rfl).1
    clear hown hown1 hbel hg1)
  go_ret
  refine ⟨_, rfl, ?_, (HO.out.2.setCell (p := ⟨_, _, none⟩) HG.out _).setCell (p := ⟨_, _, none⟩) HG.out _⟩
  have h := own_set (a := a + 1) (own_set (a := a) HO.out.1 (x / 256)) (x % 256)
  rw [val_i (show ((x / 256 : Nat) : Int) = (x : Int) / 256 by omega), val_i (show ((x % 256 : Nat) : Int) = (x : Int) % 256 by omega)] at h
  exact h

theorem bool_test {n : Int} {b : Bool} (h : n = 0 ↔ b = true) : (n == 0) = b := by
  rw [Bool.eq_iff_iff]; simpa using h
theorem rfletcher_no (l : List Nat) (v : Value) (n : Int) (w : World) (hn : I64 n) (hl : l.length ≤ 140737488355328) (hr : Rd w v l) (h : n < 0 ∨ (l.length : Int) - 1 ≤ n) :
    Calls Try.prog 89 #[v, .int .i64 n] w fun e w' => e = .returned (.tuple #[.int .i64 0, .bool false]) ∧ Below w.heap.size w w' := by
  obtain ⟨ad, cap, rfl, _⟩ := hr
  by_cases h0 : n < 0
  · go_enter Try.func89, Try.ntmps89
    go_wp2
    go_ret2
    exact ⟨rfl, Below.refl _ _⟩
  · have h1 : (l.length : Int) - 1 ≤ n := by omega
    clear h
    go_enter Try.func89, Try.ntmps89
    go_wp2
    go_ret2
    exact ⟨rfl, Below.refl _ _⟩
theorem rfletcher_yes (l : List Nat) (v : Value) (a : Nat) (w : World) (hl : l.length ≤ 140737488355328) (hr : Rd w v l) (ha : a + 1 < l.length) :
    Calls Try.prog 89 #[v, .int .i64 a] w fun e w' => e = .returned (.tuple #[.int .i64 (flv l a), .bool true]) ∧ Below w.heap.size w w' := by
  have hW := with_any l v a 0 w hl hr ha (by omega)
  have HW : Hid (∀ w1 v1, w1.ownsRow w.heap.size 5 1 v1 l.length (u8s (stow l a 0 0)) → Calls Try.prog 107 #[v1] w1 fun e w' => e = .returned (.tuple #[.int .i64 (fl1 (blank l a) : Nat), .int .i64 (fl2 (blank l a) : Nat)]) ∧ w1 = w') := fun w1 v1 h => by
    have hb : Bytes (blank l a) := (hr.bytes.set a (by omega)).set (a + 1) (by omega)
    have hlen : (blank l a).length = l.length := blank_len l a
    exact rsums_any (blank l a) v1 w1 (by omega) (rd_own (by rw [hlen]; exact h) hb)
  obtain ⟨ad, cap, rfl, _⟩ := hr
  have hc0 : ¬ (a : Int) < 0 := by omega
  have hc1 : ¬ (l.length : Int) - 1 ≤ (a : Int) := by omega
  obtain ⟨s, hs, hs255⟩ : ∃ s : Nat, s = fl1 (blank l a) ∧ s < 255 := ⟨_, rfl, (fl_lt _).1⟩
  obtain ⟨t, ht, ht255⟩ : ∃ t : Nat, t = fl2 (blank l a) ∧ t < 255 := ⟨_, rfl, (fl_lt _).2⟩
  obtain ⟨A, hA, hA255⟩ : ∃ A : Nat, A = (l.length - 1 - a) % 255 ∧ A < 255 := ⟨_, rfl, Nat.mod_lt _ (by omega)⟩
  obtain ⟨u, hu⟩ : ∃ u : Nat, u = (A + 1) % 255 := ⟨_, rfl⟩
  have hu255 : u < 255 := by omega
  have e1 : ((l.length : Int) - a) % 255 = (u : Nat) := by omega
  have e2 : ((u : Int) + 254) % 255 = (A : Nat) := by omega
  obtain ⟨X, hX, hX1, hX2⟩ := flx_some A s t
  have HV : Hid (flv l a = 256 * (X : Int) + fly A s t) := by unfold Hid flv; rw [hX, hA, hs, ht]
  have HOK : Hid (∀ x : Nat, 1 ≤ x → x ≤ 255 → ((t + u * x + (u + 254) % 255 * (255 - (s + x) % 255)) % 255 = 0 ↔ (x : Int) = X)) := fun x h1 h2 => by rw [hX]; exact okx A s t u x hA255 hu h1 h2
  have HY : Hid (((255 - (s + X) % 255 : Nat) : Int) = fly A s t) := oky A s t X hX
  rw [← hs, ← ht] at HW
  clear hs ht hA hu hX
  go_enter Try.func89, Try.ntmps89
  go_wp2_with (first
    | (go_at_call 108; refine hW.mono ?_; rintro e w1 ⟨v1, rfl, hown, hb1⟩; have HO := Lib.hid hown; have HB := Lib.hid hb1; clear hown hb1)
    | (go_at_call 107; refine (HW.out _ _ HO.out).mono ?_; rintro e w' ⟨rfl, rfl⟩))
  go_loop [9, 10] (fun s9 s10 => ∃ x : Nat, 1 ≤ x ∧ x ≤ X ∧ s9 = .int .i64 x) (fun s9 s10 => 256 - (intOf s9).toNat)
  case atStart => exact ⟨1, by omega, by omega, rfl⟩
  case round =>
    obtain ⟨x, hx1, hx2, rfl⟩ := hrel
    have hok := HOK.out x hx1 (by omega)
    obtain ⟨y, hy⟩ : ∃ y : Nat, y = 255 - (s + x) % 255 := ⟨_, rfl⟩
    have hy1 : 255 - ((s : Int) + x) % 255 = (y : Nat) := by omega
    have hyb : y ≤ 255 := by omega
    have e3 : (u + 254) % 255 = A := by omega
    rw [e3, ← hy] at hok
    have hp0 : 0 ≤ (u : Int) * x := Int.mul_nonneg (by omega) (by omega)
    have hp1 : (u : Int) * x ≤ 65025 := by
      have h1 : (u : Int) * x ≤ 255 * x := Int.mul_le_mul_of_nonneg_right (by omega) (by omega)
      omega
    have hp2 : 0 ≤ (A : Int) * y := Int.mul_nonneg (by omega) (by omega)
    have hp3 : (A : Int) * y ≤ 65025 := by
      have h1 : (A : Int) * y ≤ 255 * y := Int.mul_le_mul_of_nonneg_right (by omega) (by omega)
      omega
    have hcast : ((t : Int) + u * x + A * y) % 255 = ((t + u * x + A * y) % 255 : Nat) := by push_cast; rfl
    by_cases hxX : x = X
    · have htest : (((t : Int) + u * x + A * y) % 255 == 0) = true := bool_test (by rw [hcast]; have := hok.2 (by omega); simp [this])
      have HYX : Hid ((y : Int) = fly A s t) := by unfold Hid; rw [← HY.out, hy, hxX]
      have HXX := Lib.hid hxX
      clear hok hcast hy e3 hxX
      go_wp2
      go_ret2
      refine ⟨?_, HB.out⟩
      rw [HV.out, ← HYX.out, ← HXX.out, show 256 * (x : Int) + y = x * 256 + y by omega]; rfl
    · have htest : (((t : Int) + u * x + A * y) % 255 == 0) = false := bool_test (by rw [hcast]; simp; intro h; exact hxX (by have := hok.1 (by omega); omega))
      clear hok hcast hy e3
      go_wp2
      go_round
      case rel => exact ⟨x + 1, by omega, by omega, by go_num⟩
      case measure => simp [intOf]; omega

/-- sealed -/
theorem flv_split (l : List Nat) (a : Nat) (h : a + 1 < l.length) : ∃ V : Nat, (V : Int) = flv l a ∧ V < 65536 ∧ val (stow l a (V / 256) (V % 256)) = true := by
  obtain ⟨x, hx, hx1, hx2⟩ := flx_some ((l.length - 1 - a) % 255) (fl1 (blank l a)) (fl2 (blank l a))
  obtain ⟨y, hy, hy1, hy2⟩ := fly_some ((l.length - 1 - a) % 255) (fl1 (blank l a)) (fl2 (blank l a))
  refine ⟨256 * x + y, by unfold flv; rw [← hx, ← hy]; push_cast; rfl, by omega, ?_⟩
  rw [show (256 * x + y) / 256 = x by omega, show (256 * x + y) % 256 = y by omega]
  exact stored l a x y h hx hy
/-- what sealed stores -/
def seal_ (l : List Nat) (a : Nat) : List Nat := stow l a ((flv l a).toNat / 256) ((flv l a).toNat % 256)
theorem seal_len (l : List Nat) (a : Nat) : (seal_ l a).length = l.length := stow_len _ _ _ _
theorem seal_val (l : List Nat) (a : Nat) (h : a + 1 < l.length) : val (seal_ l a) = true := by
  obtain ⟨V, hV, _, hv⟩ := flv_split l a h
  unfold seal_; rw [← hV]; exact hv
theorem seal_bytes {l : List Nat} (hb : Bytes l) (a : Nat) (h : a + 1 < l.length) : Bytes (seal_ l a) := by
  obtain ⟨V, hV, hlt, _⟩ := flv_split l a h
  unfold seal_; rw [← hV, Int.toNat_natCast]
  exact (hb.set a (by omega)).set (a + 1) (by omega)
end Go.Proofs.Ytenfcnappjekgaa
