/-
  The walks of the law's act: one call on the trie and on the reference.
-/
import Derived.Test.YtkelfjgjgjdinaaTxG
import Derived.Deep.RegionHeld3
namespace Go.Proofs.Ytkelfjgjgjdinaa
open Go.RowKit
set_option linter.unusedSimpArgs false
set_option linter.unusedVariables false
set_option maxHeartbeats 2000000
set_option maxRecDepth 100000

def actE (k : Int) (p : PP) (x : Int) (E : List En) : List En := if k = 0 then (if V p = true then insE E (p, x) else E) else if k = 1 then delE E p else E
def ActPost (w0 : World) (gt gr : Nat) (k : Int) (p : PP) (x : Int) (E : List En) : Ending → World → Prop := fun en w' =>
  en = .returned (.bool true) ∧ ∃ h1 rv, Duo w0 gt gr (actE k p x E) (actE k p x E) h1 rv w'
theorem act0 (w0 : World) (gt gr : Nat) (E : List En) (h1 : List Nat) (rv : Value) (W : World) (a : Nat) (n x : Int) (h : Duo w0 gt gr E E h1 rv W) (ha : a < 4294967296) (hn : I64 n) (hE : E.length ≤ 300) :
    Calls Try.prog 44 #[.pointer (some ⟨gt, 0, none⟩), .pointer (some ⟨gr, 0, none⟩), .agg #[.int .i64 0, .int .u32 a, .int .i64 n, .int .i64 x]] W (ActPost w0 gt gr 0 (a, n) x E) := by
  have hasc := h.t.asc
  have HD := Lib.hid (h.below (below_alloc W (.cells #[.int .i64 0, .int .u32 (a : Int), .int .i64 n, .int .i64 x] 52)))
  have hbox : W.heap.size ∉ h1 := fun hm => by have := h.t.lt _ hm; omega
  have HBx := Lib.hid hbox
  have hglt := Lib.hid (lt_of_block h.r.blk)
  clear h hbox
  cases hv : V (a, n)
  · have HE' : Hid (actE 0 (a, n) x E = E) := by unfold Hid actE; rw [if_pos rfl, hv, if_neg (by decide)]
    have HV := Lib.hid hv
    clear hv hasc
    go_enter Try.func44, Try.ntmps44
    go_wp2_with fail
    refine (tput_bad gt (a, n) ha hn x HV.out _).mono ?_
    rintro e w1 ⟨rfl, hb1⟩
    have D1 := Lib.hid (HD.out.below hb1)
    have c0 : w1.cell? ⟨W.heap.size, 1, none⟩ = some (.int .u32 a) := carry hb1 (by simp)
    have c1 : w1.cell? ⟨W.heap.size, 2, none⟩ = some (.int .i64 n) := carry hb1 (by simp)
    have c2 : w1.cell? ⟨W.heap.size, 3, none⟩ = some (.int .i64 x) := carry hb1 (by simp)
    clear hb1
    go_wp2_with fail
    refine (rput_bad gr (a, n) ha hn x HV.out _).mono ?_
    rintro e w2 ⟨rfl, hb2⟩
    have D2 := Lib.hid (D1.out.below hb2)
    clear hb2
    go_wp2
    go_ret
    exact ⟨rfl, h1, rv, by rw [HE'.out]; exact D2.out⟩
  · have HE' : Hid (actE 0 (a, n) x E = insE E ((a, n), x)) := by unfold Hid actE; rw [if_pos rfl, hv, if_pos rfl]
    have HP : Hid (∀ W, TrieR W (.pointer (some ⟨gt, 0, none⟩)) E h1 → Calls Try.prog 55 #[.pointer (some ⟨gt, 0, none⟩), .agg #[.int .u32 a, .int .i64 n], .int .i64 x] W fun en w' => ∃ gs', en = .returned (.tuple #[.bool (!hasE E (a, n)), .int .i64 0]) ∧ TrieR w' (.pointer (some ⟨gt, 0, none⟩)) (insE E ((a, n), x)) gs' ∧ (∀ k ∈ gs', k ∈ h1 ∨ W.heap.size ≤ k) ∧ Kp h1 W w') := fun W hT => tput_any _ E h1 W ((a, n), x) ⟨ha, hv⟩ hT (by omega)
    have HQ : Hid (∀ W, RefR W gr rv E → Calls Try.prog 81 #[.pointer (some ⟨gr, 0, none⟩), .agg #[.int .u32 a, .int .i64 n], .int .i64 x] W fun en w' => en = .returned (.tuple #[.bool (!hasE E (a, n)), .int .i64 0]) ∧ RefPost W gr rv (insE E ((a, n), x)) w') := fun W hT => rput_go gr rv E W a n x ⟨ha, hv⟩ hn hT hasc (by omega)
    obtain ⟨b, hb⟩ : ∃ b, (!hasE E (a, n)) = b := ⟨_, rfl⟩
    rw [hb] at HP HQ
    clear hv hasc hb
    cases b
    all_goals
      go_enter Try.func44, Try.ntmps44
      go_wp2_with fail
      refine (HP.out _ HD.out.t).mono ?_
      rintro e w1 ⟨gs1, rfl, hT1, hg1, hk1⟩
      have D1 := Lib.hid (HD.out.putT hT1 hg1 hk1)
      have c0 : w1.cell? ⟨W.heap.size, 1, none⟩ = some (.int .u32 a) := hk1.carry HBx.out (by simp)
      have c1 : w1.cell? ⟨W.heap.size, 2, none⟩ = some (.int .i64 n) := hk1.carry HBx.out (by simp)
      have c2 : w1.cell? ⟨W.heap.size, 3, none⟩ = some (.int .i64 x) := hk1.carry HBx.out (by simp)
      clear hT1 hg1 hk1
      go_wp2_with fail
      refine (HQ.out _ D1.out.r).mono ?_
      rintro e w2 ⟨rfl, hp2⟩
      have D2 := Lib.hid (D1.out.putR hp2)
      clear hp2
      go_wp2
      go_ret
      obtain ⟨rv2, d2⟩ := D2.out
      exact ⟨rfl, gs1, rv2, by rw [HE'.out]; exact d2⟩
theorem act1 (w0 : World) (gt gr : Nat) (E : List En) (h1 : List Nat) (rv : Value) (W : World) (a : Nat) (n x : Int) (h : Duo w0 gt gr E E h1 rv W) (ha : a < 4294967296) (hn : I64 n) (hE : E.length ≤ 300) :
    Calls Try.prog 44 #[.pointer (some ⟨gt, 0, none⟩), .pointer (some ⟨gr, 0, none⟩), .agg #[.int .i64 1, .int .u32 a, .int .i64 n, .int .i64 x]] W (ActPost w0 gt gr 1 (a, n) x E) := by
  have hasc := h.t.asc
  have HD := Lib.hid (h.below (below_drewN (below_alloc W (.cells #[.int .i64 1, .int .u32 (a : Int), .int .i64 n, .int .i64 x] 52)) 1))
  have hbox : W.heap.size ∉ h1 := fun hm => by have := h.t.lt _ hm; omega
  have HBx := Lib.hid hbox
  have hgr := lt_of_block h.r.blk
  have HNe : Hid (W.heap.size ∉ [gr]) := by unfold Hid; rw [List.mem_singleton]; omega
  have HE' : Hid (actE 1 (a, n) x E = delE E (a, n)) := rfl
  have HP : Hid (∀ W, TrieR W (.pointer (some ⟨gt, 0, none⟩)) E h1 → Calls Try.prog 58 #[.pointer (some ⟨gt, 0, none⟩), .agg #[.int .u32 a, .int .i64 n]] W fun en w' => ∃ gs', en = .returned (.bool (hasE E (a, n))) ∧ TrieR w' (.pointer (some ⟨gt, 0, none⟩)) (delE E (a, n)) gs' ∧ (∀ k ∈ gs', k ∈ h1 ∨ W.heap.size ≤ k) ∧ Kp h1 W w') := fun W hT => tdrop_any _ E h1 W (a, n) ha hn hT (by omega)
  have HQ : Hid (∀ W, RefR W gr rv E → Calls Try.prog 82 #[.pointer (some ⟨gr, 0, none⟩), .agg #[.int .u32 a, .int .i64 n]] W fun en w' => en = .returned (.bool (hasE E (a, n))) ∧ RefPost W gr rv (delE E (a, n)) w') := fun W hT => rdrop_any gr rv E W (a, n) hT hasc (by omega)
  obtain ⟨b, hb⟩ : ∃ b, hasE E (a, n) = b := ⟨_, rfl⟩
  rw [hb] at HP HQ
  clear h hbox hasc hb
  cases b
  all_goals
    go_enter Try.func44, Try.ntmps44
    go_wp2
    go_region_held3 (fun w' => w'.cell? ⟨W.heap.size, 1, none⟩ = some (.int .u32 a) ∧ w'.cell? ⟨W.heap.size, 2, none⟩ = some (.int .i64 n))
      (first | exact ⟨by simp, by simp⟩ | assumption)
      (first | (go_at_call 58; refine (HP.out _ HD.out.t).mono ?_; rintro e w1 ⟨gs1, rfl, hT1, hg1, hk1⟩; have D1 := Lib.hid (HD.out.putT hT1 hg1 hk1); have hk1' := And.intro (hk1.carry (p := ⟨W.heap.size, 1, none⟩) (v := .int .u32 a) HBx.out (by simp)) (hk1.carry (p := ⟨W.heap.size, 2, none⟩) (v := .int .i64 n) HBx.out (by simp)); clear hT1 hg1 hk1) | (go_at_call 82; refine (HQ.out _ D1.out.r).mono ?_; rintro e w2 ⟨rfl, hp2⟩; have D2 := Lib.hid (D1.out.putR hp2); have hk2' : w2.cell? ⟨W.heap.size, 1, none⟩ = some (.int .u32 a) ∧ w2.cell? ⟨W.heap.size, 2, none⟩ = some (.int .i64 n) := (by obtain ⟨_, _, _, hkk⟩ := hp2; exact ⟨hkk.carry HNe.out hk1'.1, hkk.carry HNe.out hk1'.2⟩); clear hp2))
    all_goals (
      clear hk1' hk2'
      go_wp2
      go_ret
      obtain ⟨rv2, d2⟩ := D2.out
      exact ⟨rfl, gs1, rv2, by rw [HE'.out]; exact d2⟩)
theorem act2 (w0 : World) (gt gr : Nat) (E : List En) (h1 : List Nat) (rv : Value) (W : World) (a : Nat) (n x : Int) (h : Duo w0 gt gr E E h1 rv W) (ha : a < 4294967296) (hn : I64 n) (hE : E.length ≤ 300) :
    Calls Try.prog 44 #[.pointer (some ⟨gt, 0, none⟩), .pointer (some ⟨gr, 0, none⟩), .agg #[.int .i64 2, .int .u32 a, .int .i64 n, .int .i64 x]] W (ActPost w0 gt gr 2 (a, n) x E) := by
  have HD := Lib.hid (h.below (below_alloc W (.cells #[.int .i64 2, .int .u32 (a : Int), .int .i64 n, .int .i64 x] 52)))
  have HE' : Hid (actE 2 (a, n) x E = E) := rfl
  have HP : Hid (∀ W, TrieR W (.pointer (some ⟨gt, 0, none⟩)) E h1 → Calls Try.prog 56 #[.pointer (some ⟨gt, 0, none⟩), .agg #[.int .u32 a, .int .i64 n]] W fun en w' => en = .returned (.tuple #[.int .i64 (getE E (a, n)).1, .bool (getE E (a, n)).2]) ∧ Below W.heap.size W w') := fun W hT => get_any _ E h1 W (a, n) ha hn (.inr hT) hT.lt (by omega)
  have HQ : Hid (∀ W, RefR W gr rv E → Calls Try.prog 83 #[.pointer (some ⟨gr, 0, none⟩), .agg #[.int .u32 a, .int .i64 n]] W fun en w' => en = .returned (.tuple #[.int .i64 (getE E (a, n)).1, .bool (getE E (a, n)).2]) ∧ Below W.heap.size W w') := fun W hT => rget_any gr rv E W (a, n) hT (by omega)
  obtain ⟨⟨y, b⟩, hb⟩ : ∃ b, getE E (a, n) = b := ⟨_, rfl⟩
  rw [hb] at HP HQ
  clear h hb
  cases b
  all_goals
    go_enter Try.func44, Try.ntmps44
    go_wp2_with fail
    refine (HP.out _ HD.out.t).mono ?_
    rintro e w1 ⟨rfl, hb1⟩
    have D1 := Lib.hid (HD.out.below hb1)
    have c0 : w1.cell? ⟨W.heap.size, 1, none⟩ = some (.int .u32 a) := carry hb1 (by simp)
    have c1 : w1.cell? ⟨W.heap.size, 2, none⟩ = some (.int .i64 n) := carry hb1 (by simp)
    clear hb1
    go_wp2_with fail
    refine (HQ.out _ D1.out.r).mono ?_
    rintro e w2 ⟨rfl, hb2⟩
    have D2 := Lib.hid (D1.out.below hb2)
    clear hb2
    go_wp2
    go_ret
    exact ⟨rfl, h1, rv, by rw [HE'.out]; exact D2.out⟩
end Go.Proofs.Ytkelfjgjgjdinaa
