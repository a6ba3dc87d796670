/-
  The walks of the reference's Find and Same.
-/
import Derived.Test.YtmlpbhankgojpaaGrE
namespace Go.Proofs.Ytmlpbhankgojpaa
open Go.RowKit GM Go.Sort
set_option linter.unusedSimpArgs false
set_option linter.unusedVariables false
set_option maxHeartbeats 4000000
set_option maxRecDepth 100000
namespace GM
/-- the first edge between two nodes -/
def FndP (l : List E) (a b r : Int) : Prop := (r = -1 ∧ ∀ y ∈ l, ¬ (y.1 = a ∧ y.2.1 = b)) ∨ ∃ (k : Nat) (e : E), r = (k : Int) ∧ l[k]? = some e ∧ (e.1 = a ∧ e.2.1 = b) ∧ ∀ j f, l[j]? = some f → j < k → ¬ (f.1 = a ∧ f.2.1 = b)
end GM
theorem find56_any (R N a b : Int) (l : List E) (s : Value) (w : World) (hr : Rd3 w s l) :
    Calls Try.prog 40 #[.agg #[.int .i64 R, .int .i64 N, s], .int .i64 a, .int .i64 b] w fun e w' => ∃ r, e = .returned (.int .i64 r) ∧ FndP l a b r ∧ Below w.heap.size w w' := by
  obtain ⟨ad, cap, rfl, hcap1, hcap2, hc⟩ := hr
  have HC := Lib.hid hc
  obtain ⟨L, hL⟩ : ∃ L, l.length = L := ⟨_, rfl⟩
  rw [hL] at hcap1 ⊢
  have HL := Lib.hid hL
  have hL2 : L ≤ 9223372036854775807 := by omega
  have HX : Hid ((w.alloc (.cells #[.int .i64 R, .int .i64 N, .slice ad L cap] 24)).heap[w.heap.size]? = some (.cells #[.int .i64 R, .int .i64 N, .slice ad L cap] 24 (0, 0))) := heap_alloc_new _ _
  have HB : Hid (Below w.heap.size w (w.alloc (.cells #[.int .i64 R, .int .i64 N, .slice ad L cap] 24))) := below_alloc _ _
  have H0 : Hid (∀ j f, l[j]? = some f → j < 0 → ¬ (f.1 = a ∧ f.2.1 = b)) := fun j f _ h => by omega
  clear hc hL
  go_enter Try.func40, Try.ntmps40
  go_wp2_with fail
  generalize w.alloc (.cells #[.int .i64 R, .int .i64 N, .slice ad L cap] 24) = W at *
  go_loopg [7] L (fun g s7 wr => ∃ k : Nat, k ≤ L ∧ L - k ≤ g ∧ s7 = .int .i64 (k : Int) ∧ Hid (∀ j f, l[j]? = some f → j < k → ¬ (f.1 = a ∧ f.2.1 = b)) ∧ W = wr)
  case atStart => exact ⟨0, by omega, by omega, rfl, H0, rfl⟩
  case round =>
    clear H0
    obtain ⟨k, hk, hkg, rfl, H0, rfl⟩ := hrel
    have g2 : W.cell? ⟨w.heap.size, 2, none⟩ = some (.slice ad L cap) := cell_of HX.out rfl
    by_cases hlt : k < L
    · obtain ⟨e, he⟩ : ∃ y, l[k]? = some y := ⟨_, List.getElem?_eq_getElem (by have := HL.out; omega)⟩
      obtain ⟨bl, off, rfl, hbl, c0, c1, c2⟩ := HC.out k e he
      have d0 := carryB HB.out hbl c0
      have d1 := carryB HB.out hbl c1
      have HE := Lib.hid he
      obtain ⟨x, y, z⟩ := e
      dsimp only at d0 d1
      have k1 : (k : Int) < (L : Int) := by omega
      clear c0 c1 c2 he
      have HNX : Hid (¬ (x = a ∧ y = b) → ∀ j f, l[j]? = some f → j < k + 1 → ¬ (f.1 = a ∧ f.2.1 = b)) := fun hn j f hj hjk => by
        rcases (by omega : j < k ∨ j = k) with h | h
        · exact H0.out j f hj h
        · subst h; rw [HE.out] at hj; cases hj; exact hn
      by_cases h1 : x = a
      · by_cases h2 : y = b
        · have HF : Hid (FndP l a b (k : Int)) := .inr ⟨k, _, rfl, HE.out, ⟨h1, h2⟩, H0.out⟩
          subst h1
          subst h2
          clear H0 HNX
          go_wp2
          go_ret
          exact ⟨_, rfl, HF.out, HB.out⟩
        · have HN : Hid (∀ j f, l[j]? = some f → j < k + 1 → ¬ (f.1 = a ∧ f.2.1 = b)) := HNX.out (fun h => h2 h.2)
          subst h1
          have e2 : (y == b) = false := by simpa using h2
          clear H0 HNX h2
          go_wp2_with fail
          go_roundg (L - (k + 1))
          case measure => omega
          case rel => exact ⟨k + 1, by omega, Nat.le_refl _, by go_num, HN, rfl⟩
      · have HN : Hid (∀ j f, l[j]? = some f → j < k + 1 → ¬ (f.1 = a ∧ f.2.1 = b)) := HNX.out (fun h => h1 h.1)
        have e2 : (x == a) = false := by simpa using h1
        clear H0 HNX h1
        go_wp2_with fail
        go_roundg (L - (k + 1))
        case measure => omega
        case rel => exact ⟨k + 1, by omega, Nat.le_refl _, by go_num, HN, rfl⟩
    · have k1 : decide ((k : Int) < (L : Int)) = false := decide_eq_false (by omega)
      have HF : Hid (FndP l a b (-1)) := .inl ⟨rfl, fun y hy => by
        obtain ⟨j, hj, e⟩ := List.getElem_of_mem hy
        exact H0.out j y (by rw [List.getElem?_eq_getElem hj, e]) (by have := HL.out; omega)⟩
      clear H0
      go_wp2
      go_ret
      exact ⟨_, rfl, HF.out, HB.out⟩
end Go.Proofs.Ytmlpbhankgojpaa
