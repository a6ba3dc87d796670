/-
  The queue and the reference's side by side: the law on calls.
-/
import Derived.Test.YtiodpgannelgpaaHpK
namespace Go.Proofs.Ytiodpgannelgpaa
open Go.RowKit HM
set_option linter.unusedSimpArgs false
set_option linter.unusedVariables false
set_option maxHeartbeats 4000000
set_option maxRecDepth 100000

theorem HeapR.exMin {w : World} {hb n : Nat} {ins : List Bool} {keys : List Int} {gs : List Nat} (h : HeapR w hb n ins keys gs) (h0 : cntB ins ≠ 0) : ∃ x, IsMin n ins keys x := by
  obtain ⟨vi, P, K, its, pl, h1, h2, h3, rfl, rfl, hn⟩ := h
  have e : its.length = cntB (nn pl) := h2.cnt.trans (cnt_nn pl)
  have hx := (h2.at' 0 (by omega)).1
  have hy := (h2.at' 0 (by omega)).2
  refine ⟨gN its 0, hx, by rw [nn_get (by rw [h2.len]; exact hx)]; simp; omega, fun y hy hb => ?_⟩
  rw [nn_get (by rw [h2.len]; exact hy)] at hb
  obtain ⟨p, hp, _, rfl⟩ := h2.lt_len hy (by simpa using hb)
  exact ok_min h3 p hp
theorem Hz.exMin {w0 W : World} {hb n : Nat} {ins : List Bool} {keys : List Int} {S : List Nat} (h : Hz w0 W hb n ins keys S) (h0 : cntB ins ≠ 0) : ∃ x, IsMin n ins keys x := h.elim fun gs h => h.1.exMin h0
/-- the other blocks were written -/
theorem Hz.kp {w0 W W' : World} {hb n : Nat} {ins : List Bool} {keys : List Int} {S T : List Nat} (h : Hz w0 W hb n ins keys S) (k : Kp T W W') (ht : ∀ t ∈ T, t ∈ S) (hl : ∀ t ∈ T, w0.heap.size ≤ t) : Hz w0 W' hb n ins keys S := by
  obtain ⟨gs, a, b, c, d⟩ := h
  exact ⟨gs, a.kp k (fun g hg hm => (b g hg).2 (ht g hm)), b, c.trans (k.below c.size hl), fun s hs => Nat.lt_of_lt_of_le (d s hs) k.size⟩
theorem RefR.kq {W W' : World} {r I K n : Nat} {ins : List Bool} {keys : List Int} {S : List Nat} (h : RefR W r I K n ins keys) (k : Kq S W W') (hs : ∀ g ∈ [r, I, K], g ∈ S) : RefR W' r I K n ins keys := h.congr fun g hg => k.2 g (hs g hg)
/-- both hold the same -/
structure Duo (w0 W : World) (hb r I K n : Nat) (ins : List Bool) (keys : List Int) (S : List Nat) : Prop where
  z : Hz w0 W hb n ins keys S
  e : RefR W r I K n ins keys
  sub : ∀ g ∈ [r, I, K], g ∈ S
  low : ∀ g ∈ [r, I, K], w0.heap.size ≤ g
section
variable {w0 W W' : World} {hb r I K n : Nat} {ins ins' : List Bool} {keys keys' : List Int} {S : List Nat}
theorem Duo.below (h : Duo w0 W hb r I K n ins keys S) (k : Below W.heap.size W W') : Duo w0 W' hb r I K n ins keys S := ⟨(h.z.below k).1, h.e.below k, h.sub, h.low⟩
theorem Duo.both (h : Duo w0 W hb r I K n ins keys S) {W1 : World} (hz : Hz w0 W1 hb n ins' keys' S) (k1 : Kq S W W1) : Hz w0 W1 hb n ins' keys' S ∧ RefR W1 r I K n ins keys := ⟨hz, h.e.kq k1 h.sub⟩
theorem Duo.then (h : Duo w0 W hb r I K n ins keys S) {W1 : World} (hz : Hz w0 W1 hb n ins' keys' S) (hr : RefR W' r I K n ins' keys') (k : Kp [r, I, K] W1 W') : Duo w0 W' hb r I K n ins' keys' S := ⟨hz.kp k h.sub h.low, hr, h.sub, h.low⟩
theorem Duo.less {S' : List Nat} (h : Duo w0 W hb r I K n ins keys S) (hs : ∀ s ∈ S', s ∈ S) (hs' : ∀ g ∈ [r, I, K], g ∈ S') : Duo w0 W hb r I K n ins keys S' := ⟨h.z.less hs, h.e, hs', h.low⟩
theorem Duo.more (h : Duo w0 W hb r I K n ins keys S) (o : Obj) {b : Nat} (hb' : b = W.heap.size) : Duo w0 (W.alloc o) hb r I K n ins keys (b :: S) := ⟨h.z.more o hb', h.e.below (below_alloc _ _), fun g hg => List.mem_cons_of_mem _ (h.sub g hg), h.low⟩
end
def ActP (w0 : World) (hb r I K n : Nat) (S : List Nat) (e : Ending) (w' : World) : Prop := e = .returned (.bool true) ∧ ∃ ins keys, Duo w0 w' hb r I K n ins keys S
def ent (x : Tri) : Value := .agg #[.int .i64 x.1, .int .i64 x.2.1, .int .i64 x.2.2]
theorem act0 (w0 W : World) (hb r I K n : Nat) (ins : List Bool) (keys : List Int) (S : List Nat) (h : Duo w0 W hb r I K n ins keys S) (it ky : Int) :
    Calls Try.prog 42 #[.pointer (some ⟨hb, 0, none⟩), .pointer (some ⟨r, 0, none⟩), .agg #[.int .i64 0, .int .i64 it, .int .i64 ky]] W (ActP w0 hb r I K n S) := by
  have h1 := h.below (below_alloc W (.cells #[.int .i64 0, .int .i64 it, .int .i64 ky] 60))
  by_cases h0 : cntB ins = 0
  · have HP := Lib.hid (h1.z.popNone h0)
    have HR := Lib.hid (rpop_none _ r I K n ins keys h1.e h0)
    have H1 := Lib.hid h1
    clear h h1 h0
    go_enter Try.func42, Try.ntmps42
    go_wp2_with (first
      | (go_at_call 46; refine HP.out.mono ?_; rintro e w1 ⟨rfl, rfl⟩)
      | (go_at_call 80; refine HR.out.mono ?_; rintro e w1 ⟨rfl, q, rfl⟩))
    go_ret
    exact ⟨rfl, _, _, H1.out.below (below_drewN (Below.refl _ _) q)⟩
  · obtain ⟨x, hx⟩ := h1.z.exMin h0
    have HP := Lib.hid (h1.z.pop hx)
    have HR : Hid (∀ W1, Hz w0 W1 hb n (ins.set x false) keys S → Kq S (W.alloc (.cells #[.int .i64 0, .int .i64 it, .int .i64 ky] 60)) W1 → Calls Try.prog 80 #[.pointer (some ⟨r, 0, none⟩)] W1 fun e w' => e = .returned (.tuple #[.int .i64 (x : Int), .int .i64 (gI keys x), .bool true]) ∧ Duo w0 w' hb r I K n (ins.set x false) keys S) := fun W1 z k =>
      (rpop_some W1 r I K n ins keys (h1.both z k).2 hx).mono fun e w' ⟨a, b, c⟩ => ⟨a, h1.then z b c⟩
    clear h h1 h0 hx
    generalize gI keys x = kk at *
    go_enter Try.func42, Try.ntmps42
    go_wp2_with (first
      | (go_at_call 46; refine HP.out.mono ?_; rintro e w1 ⟨rfl, z, k⟩; have Z := Lib.hid z; have KQ := Lib.hid k; clear z k)
      | (go_at_call 80; refine (HR.out _ Z.out KQ.out).mono ?_; rintro e w2 ⟨rfl, d⟩; have D := Lib.hid d; clear d))
    go_ret
    exact ⟨rfl, _, _, D.out⟩
theorem act1 (w0 W : World) (hb r I K n : Nat) (ins : List Bool) (keys : List Int) (S : List Nat) (h : Duo w0 W hb r I K n ins keys S) (it ky : Int) :
    Calls Try.prog 42 #[.pointer (some ⟨hb, 0, none⟩), .pointer (some ⟨r, 0, none⟩), .agg #[.int .i64 1, .int .i64 it, .int .i64 ky]] W (ActP w0 hb r I K n S) := by
  have h1 := h.below (below_alloc W (.cells #[.int .i64 1, .int .i64 it, .int .i64 ky] 60))
  by_cases h0 : cntB ins = 0
  · have HP := Lib.hid (h1.z.minNone h0)
    have HR := Lib.hid (rmin_none _ r I K n ins keys h1.e h0)
    have H1 := Lib.hid h1
    clear h h1 h0
    go_enter Try.func42, Try.ntmps42
    go_wp2_with (first
      | (go_at_call 49; refine HP.out.mono ?_; rintro e w1 ⟨rfl, rfl⟩)
      | (go_at_call 81; refine HR.out.mono ?_; rintro e w1 ⟨rfl, q, rfl⟩))
    go_ret
    exact ⟨rfl, _, _, H1.out.below (below_drewN (Below.refl _ _) q)⟩
  · obtain ⟨x, hx⟩ := h1.z.exMin h0
    have HP := Lib.hid (h1.z.min hx)
    have HR : Hid (∀ W1, Hz w0 W1 hb n ins keys S → Kq S (W.alloc (.cells #[.int .i64 1, .int .i64 it, .int .i64 ky] 60)) W1 → Calls Try.prog 81 #[.pointer (some ⟨r, 0, none⟩)] W1 fun e w' => e = .returned (.tuple #[.int .i64 (x : Int), .int .i64 (gI keys x), .bool true]) ∧ Duo w0 w' hb r I K n ins keys S) := fun W1 z k =>
      (rmin_some W1 r I K n ins keys (h1.both z k).2 hx).mono fun e w' ⟨a, q, b⟩ => ⟨a, by subst b; exact (Duo.below ⟨z, (h1.both z k).2, h1.sub, h1.low⟩ (below_drewN (Below.refl _ _) q))⟩
    clear h h1 h0 hx
    generalize gI keys x = kk at *
    go_enter Try.func42, Try.ntmps42
    go_wp2_with (first
      | (go_at_call 49; refine HP.out.mono ?_; rintro e w1 ⟨rfl, z, k⟩; have Z := Lib.hid z; have KQ := Lib.hid k; clear z k)
      | (go_at_call 81; refine (HR.out _ Z.out KQ.out).mono ?_; rintro e w2 ⟨rfl, d⟩; have D := Lib.hid d; clear d))
    go_ret
    exact ⟨rfl, _, _, D.out⟩
theorem act3 (w0 W : World) (hb r I K n : Nat) (ins : List Bool) (keys : List Int) (S : List Nat) (h : Duo w0 W hb r I K n ins keys S) (it ky : Int) :
    Calls Try.prog 42 #[.pointer (some ⟨hb, 0, none⟩), .pointer (some ⟨r, 0, none⟩), .agg #[.int .i64 3, .int .i64 it, .int .i64 ky]] W (ActP w0 hb r I K n S) := by
  have h1 := h.below (below_alloc W (.cells #[.int .i64 3, .int .i64 it, .int .i64 ky] 60))
  have hq : ∃ k b, KeyQ n ins keys it k b := by
    by_cases hi : 0 ≤ it ∧ it < n ∧ gB ins it.toNat = true
    · exact ⟨_, _, .inl ⟨hi.1, hi.2.1, hi.2.2, rfl, rfl⟩⟩
    · exact ⟨_, _, .inr ⟨hi, rfl, rfl⟩⟩
  obtain ⟨kk, bb, hq⟩ := hq
  have HP := Lib.hid (h1.z.keyC it hq)
  have HR : Hid (Calls Try.prog 83 #[.pointer (some ⟨r, 0, none⟩), .int .i64 it] (W.alloc (.cells #[.int .i64 3, .int .i64 it, .int .i64 ky] 60)) fun e w' => e = .returned (.tuple #[.int .i64 kk, .bool bb]) ∧ (W.alloc (.cells #[.int .i64 3, .int .i64 it, .int .i64 ky] 60)) = w') := by
    refine (rkey_any _ r I K n ins keys h1.e it).mono ?_
    rintro e w' ⟨k, b, rfl, a, c⟩
    obtain ⟨rfl, rfl⟩ := keyQ_unique a hq
    exact ⟨rfl, c⟩
  have H1 := Lib.hid h1
  clear h h1 hq
  go_enter Try.func42, Try.ntmps42
  go_wp2_with (first
    | (go_at_call 48; refine HP.out.mono ?_; rintro e w1 ⟨rfl, rfl⟩)
    | (go_at_call 83; refine HR.out.mono ?_; rintro e w1 ⟨rfl, rfl⟩))
  go_ret
  exact ⟨by simp, _, _, H1.out⟩
theorem act2 (w0 W : World) (hb r I K n : Nat) (ins : List Bool) (keys : List Int) (S : List Nat) (h : Duo w0 W hb r I K n ins keys S) (it ky : Int) :
    Calls Try.prog 42 #[.pointer (some ⟨hb, 0, none⟩), .pointer (some ⟨r, 0, none⟩), .agg #[.int .i64 2, .int .i64 it, .int .i64 ky]] W (ActP w0 hb r I K n S) := by
  have h1 := h.more (.cells #[.int .i64 2, .int .i64 it, .int .i64 ky] 60) rfl
  have BC : Hid (∀ W1, Kq (W.heap.size :: S) (W.alloc (.cells #[.int .i64 2, .int .i64 it, .int .i64 ky] 60)) W1 → W1.cell? ⟨W.heap.size, 1, none⟩ = some (.int .i64 it)) := fun W1 k => cell_of ((k.2 _ (by simp)).trans (heap_alloc_new _ _)) rfl
  have HC : W.heap.size ∉ [r, I, K] := fun hm => by have := h.e.lt _ hm; omega
  by_cases hi : 0 ≤ it ∧ it < n ∧ gB ins it.toNat = true
  · obtain ⟨x, rfl⟩ : ∃ x : Nat, it = x := ⟨it.toNat, by omega⟩
    have hx : x < n := by omega
    have hz : gB ins x = true := hi.2.2
    have HP : Hid (∀ W1, Below (W.alloc (.cells #[.int .i64 2, .int .i64 (x : Int), .int .i64 ky] 60)).heap.size (W.alloc (.cells #[.int .i64 2, .int .i64 (x : Int), .int .i64 ky] 60)) W1 → Calls Try.prog 47 #[.pointer (some ⟨hb, 0, none⟩), .int .i64 (x : Int)] W1 fun e w' => e = .returned (.bool true) ∧ Hz w0 w' hb n (ins.set x false) keys (W.heap.size :: S) ∧ Kq (W.heap.size :: S) (W.alloc (.cells #[.int .i64 2, .int .i64 (x : Int), .int .i64 ky] 60)) w') := fun W1 hW =>
      ((h1.z.below hW).1.drop x hx hz).mono fun e w' ⟨a, b, c⟩ => ⟨a, b, Nat.le_trans hW.size c.1, fun s hs => (c.2 s hs).trans ((h1.z.below hW).2.2 s hs)⟩
    have HR : Hid (∀ W1, Hz w0 W1 hb n (ins.set x false) keys (W.heap.size :: S) → Kq (W.heap.size :: S) (W.alloc (.cells #[.int .i64 2, .int .i64 (x : Int), .int .i64 ky] 60)) W1 → Calls Try.prog 82 #[.pointer (some ⟨r, 0, none⟩), .int .i64 (x : Int)] W1 fun e w' => e = .returned (.bool true) ∧ Duo w0 w' hb r I K n (ins.set x false) keys (W.heap.size :: S) ∧ w'.cell? ⟨W.heap.size, 1, none⟩ = some (.int .i64 (x : Int))) := fun W1 z k =>
      (rdrop_in W1 r I K n ins keys (h1.both z k).2 x hx hz).mono fun e w' ⟨a, b, c⟩ => ⟨a, h1.then z b c, c.carry (p := ⟨W.heap.size, 1, none⟩) HC (BC.out _ k)⟩
    have SUB := Lib.hid h.sub
    have c0 := BC.out _ (Kq.refl _ _)
    clear h h1 hi hz
    go_enter Try.func42, Try.ntmps42
    go_wp2_with fail
    generalize hWX : W.alloc (.cells #[.int .i64 2, .int .i64 (x : Int), .int .i64 ky] 60) = WX at *
    go_region_held3 (fun w' => w'.cell? ⟨W.heap.size, 1, none⟩ = some (.int .i64 (x : Int))) (first | assumption | exact BC.out _ (Kq.refl _ _) | exact cC)
      (first
        | (go_at_call 47; refine (HP.out _ (Below.refl _ _).drew).mono ?_; rintro e w2 ⟨rfl, z, k⟩; have cC := BC.out _ k; have Z := Lib.hid z; have KQ := Lib.hid k; clear z k)
        | (go_at_call 82; refine (HR.out _ Z.out KQ.out).mono ?_; rintro e w3 ⟨rfl, d, cC⟩; have D := Lib.hid d; clear d))
    all_goals (
      go_wp2
      go_ret
      exact ⟨rfl, _, _, D.out.less (fun s hs => List.mem_cons_of_mem _ hs) SUB.out⟩)
  · have HP : Hid (∀ W1, Below (W.alloc (.cells #[.int .i64 2, .int .i64 it, .int .i64 ky] 60)).heap.size (W.alloc (.cells #[.int .i64 2, .int .i64 it, .int .i64 ky] 60)) W1 → Calls Try.prog 47 #[.pointer (some ⟨hb, 0, none⟩), .int .i64 it] W1 fun e w' => e = .returned (.bool false) ∧ W1 = w') := fun W1 hW => (h1.z.below hW).1.dropOut it hi
    have HR : Hid (∀ W1, Below (W.alloc (.cells #[.int .i64 2, .int .i64 it, .int .i64 ky] 60)).heap.size (W.alloc (.cells #[.int .i64 2, .int .i64 it, .int .i64 ky] 60)) W1 → Calls Try.prog 82 #[.pointer (some ⟨r, 0, none⟩), .int .i64 it] W1 fun e w' => e = .returned (.bool false) ∧ W1 = w') := fun W1 hW => rdrop_out W1 r I K n ins keys (h1.e.below hW) it hi
    have H1 := Lib.hid (h.below (below_alloc W (.cells #[.int .i64 2, .int .i64 it, .int .i64 ky] 60)))
    have c0 := BC.out _ (Kq.refl _ _)
    clear h h1 hi
    go_enter Try.func42, Try.ntmps42
    go_wp2_with fail
    generalize hWX : W.alloc (.cells #[.int .i64 2, .int .i64 it, .int .i64 ky] 60) = WX at *
    go_quiet (first
      | (go_at_call 47; exact quiet_left (HP.out _ (below_drewN (Below.refl _ _) _)))
      | (go_at_call 82; exact quiet_left (HR.out _ (below_drewN (Below.refl _ _) _))))
    go_wp2
    go_ret
    exact ⟨rfl, _, _, H1.out.below (below_drewN (Below.refl _ _) _)⟩
theorem act4 (w0 W : World) (hb r I K n : Nat) (ins : List Bool) (keys : List Int) (S : List Nat) (h : Duo w0 W hb r I K n ins keys S) (kd it ky : Int) (hk0 : kd ≠ 0) (hk1 : kd ≠ 1) (hk2 : kd ≠ 2) (hk3 : kd ≠ 3) :
    Calls Try.prog 42 #[.pointer (some ⟨hb, 0, none⟩), .pointer (some ⟨r, 0, none⟩), .agg #[.int .i64 kd, .int .i64 it, .int .i64 ky]] W (ActP w0 hb r I K n S) := by
  have h1 := h.more (.cells #[.int .i64 kd, .int .i64 it, .int .i64 ky] 60) rfl
  have k0 : (kd == 0) = false := by simpa using hk0
  have k1 : (kd == 1) = false := by simpa using hk1
  have k2 : (kd == 2) = false := by simpa using hk2
  have k3 : (kd == 3) = false := by simpa using hk3
  have BC : Hid (∀ W1, Kq (W.heap.size :: S) (W.alloc (.cells #[.int .i64 kd, .int .i64 it, .int .i64 ky] 60)) W1 → W1.cell? ⟨W.heap.size, 1, none⟩ = some (.int .i64 it) ∧ W1.cell? ⟨W.heap.size, 2, none⟩ = some (.int .i64 ky)) := fun W1 k => ⟨cell_of ((k.2 _ (by simp)).trans (heap_alloc_new _ _)) rfl, cell_of ((k.2 _ (by simp)).trans (heap_alloc_new _ _)) rfl⟩
  have HC : W.heap.size ∉ [r, I, K] := fun hm => by have := h.e.lt _ hm; omega
  by_cases hi : 0 ≤ it ∧ it < n
  · obtain ⟨x, rfl⟩ : ∃ x : Nat, it = x := ⟨it.toNat, by omega⟩
    have hx : x < n := by omega
    have HP : Hid (∀ W1, Below (W.alloc (.cells #[.int .i64 kd, .int .i64 (x : Int), .int .i64 ky] 60)).heap.size (W.alloc (.cells #[.int .i64 kd, .int .i64 (x : Int), .int .i64 ky] 60)) W1 → Calls Try.prog 45 #[.pointer (some ⟨hb, 0, none⟩), .int .i64 (x : Int), .int .i64 ky] W1 fun e w' => e = .returned (.bool true) ∧ Hz w0 w' hb n (ins.set x true) (keys.set x ky) (W.heap.size :: S) ∧ Kq (W.heap.size :: S) (W.alloc (.cells #[.int .i64 kd, .int .i64 (x : Int), .int .i64 ky] 60)) w') := fun W1 hW =>
      ((h1.z.below hW).1.set x ky hx).mono fun e w' ⟨a, b, c⟩ => ⟨a, b, Nat.le_trans hW.size c.1, fun s hs => (c.2 s hs).trans ((h1.z.below hW).2.2 s hs)⟩
    have HR : Hid (∀ W1, Hz w0 W1 hb n (ins.set x true) (keys.set x ky) (W.heap.size :: S) → Kq (W.heap.size :: S) (W.alloc (.cells #[.int .i64 kd, .int .i64 (x : Int), .int .i64 ky] 60)) W1 → Calls Try.prog 84 #[.pointer (some ⟨r, 0, none⟩), .int .i64 (x : Int), .int .i64 ky] W1 fun e w' => e = .returned (.bool true) ∧ Duo w0 w' hb r I K n (ins.set x true) (keys.set x ky) (W.heap.size :: S) ∧ w'.cell? ⟨W.heap.size, 1, none⟩ = some (.int .i64 (x : Int)) ∧ w'.cell? ⟨W.heap.size, 2, none⟩ = some (.int .i64 ky)) := fun W1 z k =>
      (rset_in W1 r I K n ins keys (h1.both z k).2 x ky hx).mono fun e w' ⟨a, b, c⟩ => ⟨a, h1.then z b c, c.carry (p := ⟨W.heap.size, 1, none⟩) HC (BC.out _ k).1, c.carry (p := ⟨W.heap.size, 2, none⟩) HC (BC.out _ k).2⟩
    have SUB := Lib.hid h.sub
    have c0 := (BC.out _ (Kq.refl _ _)).1
    have c0' := (BC.out _ (Kq.refl _ _)).2
    clear h h1 hi hk0 hk1 hk2 hk3
    go_enter Try.func42, Try.ntmps42
    go_wp2_with fail
    generalize hWX : W.alloc (.cells #[.int .i64 kd, .int .i64 (x : Int), .int .i64 ky] 60) = WX at *
    go_region_held3 (fun w' => w'.cell? ⟨W.heap.size, 1, none⟩ = some (.int .i64 (x : Int)) ∧ w'.cell? ⟨W.heap.size, 2, none⟩ = some (.int .i64 ky)) (first | assumption | exact BC.out _ (Kq.refl _ _) | exact cC)
      (first
        | (go_at_call 45; refine (HP.out _ (Below.refl _ _).drew).mono ?_; rintro e w2 ⟨rfl, z, k⟩; have cC := BC.out _ k; have Z := Lib.hid z; have KQ := Lib.hid k; clear z k)
        | (go_at_call 84; refine (HR.out _ Z.out KQ.out).mono ?_; rintro e w3 ⟨rfl, d, cC⟩; have D := Lib.hid d; clear d))
    all_goals (
      go_wp2
      go_ret
      exact ⟨rfl, _, _, D.out.less (fun s hs => List.mem_cons_of_mem _ hs) SUB.out⟩)
  · have HP : Hid (∀ W1, Below (W.alloc (.cells #[.int .i64 kd, .int .i64 it, .int .i64 ky] 60)).heap.size (W.alloc (.cells #[.int .i64 kd, .int .i64 it, .int .i64 ky] 60)) W1 → Calls Try.prog 45 #[.pointer (some ⟨hb, 0, none⟩), .int .i64 it, .int .i64 ky] W1 fun e w' => e = .returned (.bool false) ∧ W1 = w') := fun W1 hW => (h1.z.below hW).1.setOut it ky hi
    have HR : Hid (∀ W1, Below (W.alloc (.cells #[.int .i64 kd, .int .i64 it, .int .i64 ky] 60)).heap.size (W.alloc (.cells #[.int .i64 kd, .int .i64 it, .int .i64 ky] 60)) W1 → Calls Try.prog 84 #[.pointer (some ⟨r, 0, none⟩), .int .i64 it, .int .i64 ky] W1 fun e w' => e = .returned (.bool false) ∧ W1 = w') := fun W1 hW => rset_out W1 r I K n ins keys (h1.e.below hW) it ky hi
    have H1 := Lib.hid (h.below (below_alloc W (.cells #[.int .i64 kd, .int .i64 it, .int .i64 ky] 60)))
    have c0 := (BC.out _ (Kq.refl _ _)).1
    have c0' := (BC.out _ (Kq.refl _ _)).2
    clear h h1 hi hk0 hk1 hk2 hk3
    go_enter Try.func42, Try.ntmps42
    go_wp2_with fail
    generalize hWX : W.alloc (.cells #[.int .i64 kd, .int .i64 it, .int .i64 ky] 60) = WX at *
    go_quiet (first
      | (go_at_call 45; exact quiet_left (HP.out _ (below_drewN (Below.refl _ _) _)))
      | (go_at_call 84; exact quiet_left (HR.out _ (below_drewN (Below.refl _ _) _))))
    go_wp2
    go_ret
    exact ⟨rfl, _, _, H1.out.below (below_drewN (Below.refl _ _) _)⟩
theorem act_any (w0 W : World) (hb r I K n : Nat) (ins : List Bool) (keys : List Int) (S : List Nat) (h : Duo w0 W hb r I K n ins keys S) (x : Tri) :
    Calls Try.prog 42 #[.pointer (some ⟨hb, 0, none⟩), .pointer (some ⟨r, 0, none⟩), .agg #[.int .i64 x.1, .int .i64 x.2.1, .int .i64 x.2.2]] W (ActP w0 hb r I K n S) := by
  obtain ⟨kd, it, ky⟩ := x
  by_cases h0 : kd = 0
  · subst h0; exact act0 w0 W hb r I K n ins keys S h it ky
  · by_cases h1 : kd = 1
    · subst h1; exact act1 w0 W hb r I K n ins keys S h it ky
    · by_cases h2 : kd = 2
      · subst h2; exact act2 w0 W hb r I K n ins keys S h it ky
      · by_cases h3 : kd = 3
        · subst h3; exact act3 w0 W hb r I K n ins keys S h it ky
        · exact act4 w0 W hb r I K n ins keys S h kd it ky h0 h1 h2 h3
end Go.Proofs.Ytiodpgannelgpaa
