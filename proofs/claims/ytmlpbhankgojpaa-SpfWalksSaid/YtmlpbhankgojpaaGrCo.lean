/-
  The walks of Cost, of the reference's Cost, SameInts.
-/
import Derived.Test.YtmlpbhankgojpaaGrFi
namespace Go.Proofs.Ytmlpbhankgojpaa
open Go.RowKit GM Go.Sort
set_option linter.unusedSimpArgs false
set_option linter.unusedVariables false
set_option maxHeartbeats 4000000
set_option maxRecDepth 100000
namespace GM
/-- the cost of the first edge between two nodes -/
def cstF (a b : Int) : List E → Int × Bool
  | [] => (0, false)
  | e :: r => if e.1 = a ∧ e.2.1 = b then (e.2.2, true) else cstF a b r
theorem cstF_none {a b : Int} : ∀ {l : List E}, (∀ y ∈ l, ¬ (y.1 = a ∧ y.2.1 = b)) → cstF a b l = (0, false)
  | [], _ => rfl
  | e :: r, h => by unfold cstF; rw [if_neg (h e (by simp))]; exact cstF_none (fun y hy => h y (List.mem_cons_of_mem _ hy))
theorem cstF_some {a b : Int} : ∀ {l : List E} {k : Nat} {e : E}, l[k]? = some e → (e.1 = a ∧ e.2.1 = b) → (∀ j f, l[j]? = some f → j < k → ¬ (f.1 = a ∧ f.2.1 = b)) → cstF a b l = (e.2.2, true)
  | [], k, e, h, _, _ => by simp at h
  | x :: r, 0, e, h, hm, _ => by simp at h; subst h; unfold cstF; rw [if_pos hm]
  | x :: r, k + 1, e, h, hm, hn => by
    unfold cstF
    rw [if_neg (hn 0 x rfl (by omega))]
    exact cstF_some (k := k) (by simpa using h) hm (fun j f hj hk => hn (j + 1) f (by simpa using hj) (by omega))
theorem cstF_find {a b q : Int} {l : List E} (h : FndP l a b q) : (q = -1 ∧ cstF a b l = (0, false)) ∨ ∃ (k : Nat) (e : E), q = (k : Int) ∧ l[k]? = some e ∧ cstF a b l = (e.2.2, true) := by
  rcases h with ⟨h1, h2⟩ | ⟨k, e, h1, h2, h3, h4⟩
  · exact .inl ⟨h1, cstF_none h2⟩
  · exact .inr ⟨k, e, h1, h2, cstF_some h2 h3 h4⟩
end GM
theorem rcost_any (R N a b : Int) (l : List E) (s : Value) (w : World) (hr : Rd3 w s l) :
    Calls Try.prog 25 #[.agg #[.int .i64 R, .int .i64 N, s], .int .i64 a, .int .i64 b] w fun e w' => e = .returned (.tuple #[.int .i64 (cstF a b l).1, .bool (cstF a b l).2]) ∧ Below w.heap.size w w' := by
  have HFD : Hid (∀ W, Below w.heap.size w W → Calls Try.prog 40 #[.agg #[.int .i64 R, .int .i64 N, s], .int .i64 a, .int .i64 b] W fun e w' => ∃ r, e = .returned (.int .i64 r) ∧ FndP l a b r ∧ Below W.heap.size W w') := fun W hW => find56_any R N a b l s W (hr.below hW)
  obtain ⟨ad, cap, rfl, hcap1, hcap2, hc⟩ := hr
  have HC := Lib.hid hc
  obtain ⟨L, hL⟩ : ∃ L, l.length = L := ⟨_, rfl⟩
  rw [hL] at hcap1 HFD ⊢
  have HL := Lib.hid hL
  clear hc hL
  go_enter Try.func25, Try.ntmps25
  go_wp2_with fail
  go_at_call 40
  refine (HFD.out _ (below_alloc _ _)).mono ?_
  rintro e w1 ⟨q, rfl, hf, hb1⟩
  have g2 : w1.cell? ⟨w.heap.size, 2, none⟩ = some (.slice ad L cap) := carry hb1 (by simp)
  have HB := Lib.hid (below_then (below_alloc _ _) hb1)
  have HF := Lib.hid (cstF_find hf)
  clear hf hb1
  rcases HF.out with ⟨rfl, hcs⟩ | ⟨k, e, rfl, hke, hcs⟩
  · have HCS := Lib.hid hcs
    clear hcs
    go_wp2
    go_ret2
    exact ⟨by rw [HCS.out]; rfl, HB.out⟩
  · have HCS := Lib.hid hcs
    obtain ⟨bl, off, rfl, hbl, c0, c1, c2⟩ := HC.out k e hke
    have d2 := carryB HB.out hbl c2
    have hkl : k < L := by have := (List.getElem?_eq_some_iff.1 hke).1; have := HL.out; omega
    obtain ⟨x, y, z⟩ := e
    dsimp only at d2 HCS
    have k0 : ¬ (k : Int) < 0 := by omega
    have k1 : (k : Int) < (L : Int) := by omega
    clear hcs c0 c1 c2 hke hbl
    go_wp2
    go_ret2
    exact ⟨by rw [HCS.out]; rfl, HB.out⟩
/-- equal lists of integers -/
theorem sameInts_any (m : List Int) (v u : Value) (w : World) (hv : RdI w v m) (hu : RdI w u m) : Calls Try.prog 18 #[v, u] w fun e w' => e = .returned (.bool true) ∧ Below w.heap.size w w' := by
  obtain ⟨va, vc, rfl, v1, v2, hvc⟩ := hv
  obtain ⟨ua, uc, rfl, u1, u2, huc⟩ := hu
  obtain ⟨L, hL⟩ : ∃ L, m.length = L := ⟨_, rfl⟩
  rw [hL] at v1 u1 ⊢
  have HL := Lib.hid hL
  have HV := Lib.hid hvc
  have HU := Lib.hid huc
  have hL2 : L ≤ 9223372036854775807 := by omega
  clear hL hvc huc
  have hee : ((L : Int) == (L : Int)) = true := by simp
  have hen : ((L : Int) != (L : Int)) = false := by simp
  go_enter Try.func18, Try.ntmps18
  go_wp2_with fail
  go_loopg [5] L (fun g s5 wr => ∃ k : Nat, k ≤ L ∧ L - k ≤ g ∧ s5 = .int .i64 (k : Int) ∧ Hid (Below w.heap.size w wr))
  case atStart => exact ⟨0, by omega, by omega, rfl, Below.refl _ _⟩
  case round =>
    obtain ⟨k, hk, hkg, rfl, HB⟩ := hrel
    by_cases hlt : k < L
    · obtain ⟨x, hx⟩ : ∃ y, m[k]? = some y := ⟨_, List.getElem?_eq_getElem (by have := HL.out; omega)⟩
      obtain ⟨b, o, rfl, hb, c⟩ := HV.out k x hx
      obtain ⟨b', o', rfl, hb', c'⟩ := HU.out k x hx
      have d := carryB HB.out hb c
      have d' := carryB HB.out hb' c'
      have k0 : (0 : Int) ≤ (k : Int) := by omega
      have k1 : (k : Int) < (L : Int) := by omega
      clear c c' hx
      go_wp2_with fail
      go_quiet (fail)
      go_wp2_with fail
      go_roundg (L - (k + 1))
      case measure => omega
      case rel => exact ⟨k + 1, by omega, Nat.le_refl _, by go_num, below_drewN HB.out _⟩
    · have k1 : decide ((k : Int) < (L : Int)) = false := decide_eq_false (by omega)
      go_wp2
      go_ret
      exact ⟨rfl, HB.out⟩
end Go.Proofs.Ytmlpbhankgojpaa
