/-
  The walks of the law's act: the calls that return entries.
-/
import Derived.Test.YtkelfjgjgjdinaaTxH
namespace Go.Proofs.Ytkelfjgjgjdinaa
open Go.RowKit
set_option linter.unusedSimpArgs false
set_option linter.unusedVariables false
set_option maxHeartbeats 2000000
set_option maxRecDepth 100000

theorem actE_other (k : Int) (p : PP) (x : Int) (E : List En) (h0 : k ≠ 0) (h1 : k ≠ 1) : actE k p x E = E := by unfold actE; rw [if_neg h0, if_neg h1]
theorem act5 (w0 : World) (gt gr : Nat) (E : List En) (h1 : List Nat) (rv : Value) (W : World) (k : Int) (a : Nat) (n x : Int) (h : Duo w0 gt gr E E h1 rv W) (hk : I64 k) (k0 : k ≠ 0) (k1 : k ≠ 1) (k2 : k ≠ 2) (k3 : k ≠ 3) (k4 : k ≠ 4) (ha : a < 4294967296) (hn : I64 n) (hE : E.length ≤ 300) :
    Calls Try.prog 44 #[.pointer (some ⟨gt, 0, none⟩), .pointer (some ⟨gr, 0, none⟩), .agg #[.int .i64 k, .int .u32 a, .int .i64 n, .int .i64 x]] W (ActPost w0 gt gr k (a, n) x E) := by
  have hpv : ∀ y ∈ E, PV y.1 := (TrieO.valid (.inr h.t))
  have HD := Lib.hid (h.below (below_alloc W (.cells #[.int .i64 k, .int .u32 (a : Int), .int .i64 n, .int .i64 x] 52)))
  have HE' : Hid (actE k (a, n) x E = E) := actE_other k (a, n) x E k0 k1
  obtain ⟨⟨⟨ya, yn⟩, yv⟩, hy⟩ : ∃ y, lastOf (E.filter (fun x => C x.1 (a, 32))) = y := ⟨_, rfl⟩
  obtain ⟨b, hb⟩ : ∃ b, (!(E.filter (fun x => C x.1 (a, 32))).isEmpty) = b := ⟨_, rfl⟩
  have HP : Hid (∀ W, TrieR W (.pointer (some ⟨gt, 0, none⟩)) E h1 → Calls Try.prog 53 #[.pointer (some ⟨gt, 0, none⟩), .int .u32 a] W fun en w' => en = .returned (.tuple #[.agg #[.int .u32 ya, .int .i64 yn, .int .i64 yv], .bool b]) ∧ Below W.heap.size W w') := fun W hT => by
    have := lookup_any _ E h1 W a ha (.inr hT) hT.lt (by omega)
    rw [hy, hb] at this
    exact this
  have HQ : Hid (∀ W, RefR W gr rv E → Calls Try.prog 86 #[.pointer (some ⟨gr, 0, none⟩), .int .u32 a] W fun en w' => en = .returned (.tuple #[.agg #[.int .u32 ya, .int .i64 yn, .int .i64 yv], .bool b]) ∧ Below W.heap.size W w') := fun W hT => by
    have := rlookup_any gr rv E W a ha hT hpv (by omega)
    rw [hy, hb] at this
    exact this
  have e0 : (k == 0) = false := beq_false_of_ne k0
  have e1 : (k == 1) = false := beq_false_of_ne k1
  have e2 : (k == 2) = false := beq_false_of_ne k2
  have e3 : (k == 3) = false := beq_false_of_ne k3
  have e4 : (k == 4) = false := beq_false_of_ne k4
  clear h hb hy hpv k0 k1 k2 k3 k4
  cases b
  all_goals
    go_enter Try.func44, Try.ntmps44
    go_wp2_with fail
    refine (HP.out _ HD.out.t).mono ?_
    rintro e w1 ⟨rfl, hb1⟩
    have D1 := Lib.hid (HD.out.below hb1)
    have c0 : w1.cell? ⟨W.heap.size, 1, none⟩ = some (.int .u32 a) := carry hb1 (by simp)
    have c1 : w1.cell? ⟨W.heap.size, 2, none⟩ = some (.int .i64 n) := carry hb1 (by simp)
    have a0 : ∀ o, (w1.alloc o).cell? ⟨W.heap.size, 1, none⟩ = some (.int .u32 a) := fun o => carry (below_alloc _ _) c0
    have a1 : ∀ o, (w1.alloc o).cell? ⟨W.heap.size, 2, none⟩ = some (.int .i64 n) := fun o => carry (below_alloc _ _) c1
    have D1a : Hid (∀ o, Duo w0 gt gr E E h1 rv (w1.alloc o)) := fun o => D1.out.below (below_alloc _ _)
    clear hb1
    go_wp2_with fail
    refine (HQ.out _ (D1a.out _).r).mono ?_
    rintro e w2 ⟨rfl, hb2⟩
    have D2 := Lib.hid ((D1a.out _).below hb2)
    have D2a : Hid (∀ o, Duo w0 gt gr E E h1 rv (w2.alloc o)) := fun o => D2.out.below (below_alloc _ _)
    have m0 : ∀ o, (w2.alloc o).cell? ⟨w1.heap.size, 0, none⟩ = some (.int .u32 ya) := fun o => carry (below_alloc _ _) (carry hb2 (by simp))
    have m1 : ∀ o, (w2.alloc o).cell? ⟨w1.heap.size, 1, none⟩ = some (.int .i64 yn) := fun o => carry (below_alloc _ _) (carry hb2 (by simp))
    have m2 : ∀ o, (w2.alloc o).cell? ⟨w1.heap.size, 2, none⟩ = some (.int .i64 yv) := fun o => carry (below_alloc _ _) (carry hb2 (by simp))
    clear hb2
    go_wp2
    go_ret
    exact ⟨rfl, h1, rv, by rw [HE'.out]; exact D2a.out _⟩
theorem act3 (w0 : World) (gt gr : Nat) (E : List En) (h1 : List Nat) (rv : Value) (W : World) (a : Nat) (n x : Int) (h : Duo w0 gt gr E E h1 rv W) (ha : a < 4294967296) (hn : I64 n) (hE : E.length ≤ 300) :
    Calls Try.prog 44 #[.pointer (some ⟨gt, 0, none⟩), .pointer (some ⟨gr, 0, none⟩), .agg #[.int .i64 3, .int .u32 a, .int .i64 n, .int .i64 x]] W (ActPost w0 gt gr 3 (a, n) x E) := by
  have hpv : ∀ y ∈ E, PV y.1 := (TrieO.valid (.inr h.t))
  have HD := Lib.hid (h.below (below_drewN (below_alloc W (.cells #[.int .i64 3, .int .u32 (a : Int), .int .i64 n, .int .i64 x] 52)) 1))
  have HE' : Hid (actE 3 (a, n) x E = E) := rfl
  obtain ⟨F, hF⟩ : ∃ F, E.filter (fun x => C x.1 (a, n)) = F := ⟨_, rfl⟩
  have hFl : F.length ≤ 300 := by have h2 := List.length_filter_le (fun x : En => C x.1 (a, n)) E; rw [hF] at h2; omega
  have HP : Hid (∀ W, TrieR W (.pointer (some ⟨gt, 0, none⟩)) E h1 → Calls Try.prog 54 #[.pointer (some ⟨gt, 0, none⟩), .agg #[.int .u32 a, .int .i64 n]] W fun en w' => ∃ v', en = .returned v' ∧ RdE w' v' F ∧ Below W.heap.size W w') := fun W hT => by
    refine (above_any _ E h1 W (a, n) ha hn (.inr hT) (by omega)).mono ?_
    rintro e w' ⟨v, rfl, hr, hb⟩
    rw [hF] at hr
    exact ⟨v, rfl, hr.rd, hb⟩
  have HQ : Hid (∀ W, RefR W gr rv E → Calls Try.prog 84 #[.pointer (some ⟨gr, 0, none⟩), .agg #[.int .u32 a, .int .i64 n]] W fun en w' => ∃ v', en = .returned v' ∧ RdE w' v' F ∧ Below W.heap.size W w') := fun W hT => by
    have := rabove_any gr rv E W (a, n) ha hn hT hpv (by omega)
    rw [hF] at this
    exact this
  have HS : Hid (∀ v v' W, RdE W v F → RdE W v' F → Calls Try.prog 47 #[v, v'] W fun e w' => e = .returned (.bool true) ∧ Below W.heap.size W w') := fun v v' W h2 h3 => same_any F v v' W (by omega) h2 h3
  clear h hpv hF
  go_enter Try.func44, Try.ntmps44
  go_wp2
  go_region_held3 (fun w' => w'.cell? ⟨W.heap.size, 1, none⟩ = some (.int .u32 a) ∧ w'.cell? ⟨W.heap.size, 2, none⟩ = some (.int .i64 n))
    (first | exact ⟨by simp, by simp⟩ | assumption)
    (first | (go_at_call 54; refine (HP.out _ HD.out.t).mono ?_; rintro e w1 ⟨v1, rfl, hr1, hb1⟩; have D1 := Lib.hid (HD.out.below hb1); have R1 := Lib.hid hr1; have hk1' := And.intro (carry (p := ⟨W.heap.size, 1, none⟩) (v := .int .u32 a) hb1 (by simp)) (carry (p := ⟨W.heap.size, 2, none⟩) (v := .int .i64 n) hb1 (by simp)); clear hb1 hr1) | (go_at_call 84; refine (HQ.out _ D1.out.r).mono ?_; rintro e w2 ⟨v2, rfl, hr2, hb2⟩; have D2 := Lib.hid (D1.out.below hb2); have R2 := Lib.hid hr2; have R1b := Lib.hid (R1.out.below hb2); have hk2' := And.intro (carry (p := ⟨W.heap.size, 1, none⟩) (v := .int .u32 a) hb2 hk1'.1) (carry (p := ⟨W.heap.size, 2, none⟩) (v := .int .i64 n) hb2 hk1'.2); clear hb2 hr2) | (go_at_call 47; refine (HS.out _ _ _ R1b.out R2.out).mono ?_; rintro e w3 ⟨rfl, hb3⟩; have D3 := Lib.hid (D2.out.below hb3); have hk3' := And.intro (carry (p := ⟨W.heap.size, 1, none⟩) (v := .int .u32 a) hb3 hk2'.1) (carry (p := ⟨W.heap.size, 2, none⟩) (v := .int .i64 n) hb3 hk2'.2); clear hb3))
  all_goals (
    go_wp2
    go_ret
    exact ⟨rfl, h1, rv, by rw [HE'.out]; exact D3.out⟩)
theorem act4 (w0 : World) (gt gr : Nat) (E : List En) (h1 : List Nat) (rv : Value) (W : World) (a : Nat) (n x : Int) (h : Duo w0 gt gr E E h1 rv W) (ha : a < 4294967296) (hn : I64 n) (hE : E.length ≤ 300) :
    Calls Try.prog 44 #[.pointer (some ⟨gt, 0, none⟩), .pointer (some ⟨gr, 0, none⟩), .agg #[.int .i64 4, .int .u32 a, .int .i64 n, .int .i64 x]] W (ActPost w0 gt gr 4 (a, n) x E) := by
  have hpv : ∀ y ∈ E, PV y.1 := (TrieO.valid (.inr h.t))
  have HD := Lib.hid (h.below (below_drewN (below_alloc W (.cells #[.int .i64 4, .int .u32 (a : Int), .int .i64 n, .int .i64 x] 52)) 1))
  have HE' : Hid (actE 4 (a, n) x E = E) := rfl
  obtain ⟨F, hF⟩ : ∃ F, E.filter (fun x => C (a, n) x.1) = F := ⟨_, rfl⟩
  have hFl : F.length ≤ 300 := by have h2 := List.length_filter_le (fun x : En => C (a, n) x.1) E; rw [hF] at h2; omega
  have HP : Hid (∀ W, TrieR W (.pointer (some ⟨gt, 0, none⟩)) E h1 → Calls Try.prog 59 #[.pointer (some ⟨gt, 0, none⟩), .agg #[.int .u32 a, .int .i64 n]] W fun en w' => ∃ v', en = .returned v' ∧ RdE w' v' F ∧ Below W.heap.size W w') := fun W hT => by
    refine (under_any _ E h1 W (a, n) ha hn (.inr hT) (by omega)).mono ?_
    rintro e w' ⟨v, rfl, hr, hb⟩
    rw [hF] at hr
    exact ⟨v, rfl, hr.rd, hb⟩
  have HQ : Hid (∀ W, RefR W gr rv E → Calls Try.prog 85 #[.pointer (some ⟨gr, 0, none⟩), .agg #[.int .u32 a, .int .i64 n]] W fun en w' => ∃ v', en = .returned v' ∧ RdE w' v' F ∧ Below W.heap.size W w') := fun W hT => by
    have := runder_any gr rv E W (a, n) ha hn hT hpv (by omega)
    rw [hF] at this
    exact this
  have HS : Hid (∀ v v' W, RdE W v F → RdE W v' F → Calls Try.prog 47 #[v, v'] W fun e w' => e = .returned (.bool true) ∧ Below W.heap.size W w') := fun v v' W h2 h3 => same_any F v v' W (by omega) h2 h3
  clear h hpv hF
  go_enter Try.func44, Try.ntmps44
  go_wp2
  go_region_held3 (fun w' => w'.cell? ⟨W.heap.size, 1, none⟩ = some (.int .u32 a) ∧ w'.cell? ⟨W.heap.size, 2, none⟩ = some (.int .i64 n))
    (first | exact ⟨by simp, by simp⟩ | assumption)
    (first | (go_at_call 59; refine (HP.out _ HD.out.t).mono ?_; rintro e w1 ⟨v1, rfl, hr1, hb1⟩; have D1 := Lib.hid (HD.out.below hb1); have R1 := Lib.hid hr1; have hk1' := And.intro (carry (p := ⟨W.heap.size, 1, none⟩) (v := .int .u32 a) hb1 (by simp)) (carry (p := ⟨W.heap.size, 2, none⟩) (v := .int .i64 n) hb1 (by simp)); clear hb1 hr1) | (go_at_call 85; refine (HQ.out _ D1.out.r).mono ?_; rintro e w2 ⟨v2, rfl, hr2, hb2⟩; have D2 := Lib.hid (D1.out.below hb2); have R2 := Lib.hid hr2; have R1b := Lib.hid (R1.out.below hb2); have hk2' := And.intro (carry (p := ⟨W.heap.size, 1, none⟩) (v := .int .u32 a) hb2 hk1'.1) (carry (p := ⟨W.heap.size, 2, none⟩) (v := .int .i64 n) hb2 hk1'.2); clear hb2 hr2) | (go_at_call 47; refine (HS.out _ _ _ R1b.out R2.out).mono ?_; rintro e w3 ⟨rfl, hb3⟩; have D3 := Lib.hid (D2.out.below hb3); have hk3' := And.intro (carry (p := ⟨W.heap.size, 1, none⟩) (v := .int .u32 a) hb3 hk2'.1) (carry (p := ⟨W.heap.size, 2, none⟩) (v := .int .i64 n) hb3 hk2'.2); clear hb3))
  all_goals (
    go_wp2
    go_ret
    exact ⟨rfl, h1, rv, by rw [HE'.out]; exact D3.out⟩)
end Go.Proofs.Ytkelfjgjgjdinaa
