/-
  The walks of the reference's IndexInt and HasInt.
-/
import Derived.Test.YthoonegckifiaaaDoorOpen
namespace Go.Proofs.YthoonegckifiaaaDoor
open Go.RowKit
set_option linter.unusedSimpArgs false
set_option linter.unusedVariables false
set_option maxHeartbeats 4000000
set_option maxRecDepth 100000

/-- a slice of ints that reads as these -/
def RdI (w : World) (v : Value) (ns : List Nat) : Prop :=
  ∃ ad cap, v = .slice ad ns.length cap ∧ ∀ (k x : Nat), ns[k]? = some x → ∃ b off, ad = some ⟨b, off, none⟩ ∧ b < w.heap.size ∧ w.cell? ⟨b, off + k, none⟩ = some (.int .i64 (x : Int))
def intsV (ns : List Nat) : List Value := ns.map fun (x : Nat) => .int .i64 (x : Int)
theorem intsV_snoc (ns : List Nat) (x : Nat) : intsV (ns ++ [x]) = intsV ns ++ [.int .i64 (x : Int)] := by simp [intsV]
theorem rdi_own {w : World} {B : Nat} {v : Value} {ns : List Nat} (h : w.ownsRow B 3 1 v ns.length (intsV ns)) : RdI w v ns := by
  rcases h.2 with ⟨rfl, hn⟩ | ⟨g, cap, cur, rfl, hB, hg, hnc, _, _, _⟩
  · have : ns = [] := List.length_eq_zero_iff.1 hn
    subst this
    exact ⟨none, 0, rfl, fun k t h => by simp at h⟩
  · refine ⟨some ⟨g, 0, none⟩, cap, rfl, fun k t hk => ⟨g, 0, rfl, (Array.getElem?_eq_some_iff.1 hg).1, ?_⟩⟩
    have hlt := (List.getElem?_eq_some_iff.1 hk).1
    rw [Nat.zero_add, h.cellAt k (by omega)]
    simp [intsV, hk]
theorem index_any (ns : List Nat) (v : Value) (c : Int) (w : World) (hl : ns.length ≤ 140737489403904) (hc : I64 c) (hu : RdI w v ns) :
    Calls Tryd.prog 37 #[v, .int .i64 c] w fun e w' => ∃ r : Int, e = .returned (.int .i64 r) ∧ (0 ≤ r ↔ ∃ x ∈ ns, (x : Int) = c) ∧ w = w' := by
  obtain ⟨ad, cap, rfl, hc⟩ := hu
  have HC := Lib.hid hc
  clear hc
  go_enter Tryd.func37, Tryd.ntmps37
  go_wp2
  go_loop [5, 6, 9] (fun _ _ i => ∃ k : Nat, k ≤ ns.length ∧ i = .int .i64 k ∧ Hid (∀ j x, j < k → ns[j]? = some x → (x : Int) ≠ c)) (fun _ _ i => ns.length - (intOf i).toNat)
  case atStart => exact ⟨0, Nat.zero_le _, rfl, fun j x h => absurd h (Nat.not_lt_zero _)⟩
  case round =>
    obtain ⟨k, hk, rfl, HN⟩ := hrel
    by_cases hlt : k < ns.length
    · obtain ⟨x, hx⟩ : ∃ x, ns[k]? = some x := ⟨_, List.getElem?_eq_getElem hlt⟩
      obtain ⟨blk, off, rfl, hblk, hc0⟩ := HC.out k x hx
      have HX := Lib.hid hx
      clear hx
      by_cases he : (x : Int) = c
      · have HM : Hid (∃ x ∈ ns, (x : Int) = c) := ⟨x, List.mem_of_getElem? HX.out, he⟩
        subst he
        go_wp2
        go_ret
        exact ⟨_, rfl, ⟨fun _ => HM.out, fun _ => by omega⟩, rfl⟩
      · have HN2 : Hid (∀ j x, j < k + 1 → ns[j]? = some x → (x : Int) ≠ c) := fun j y hj hy => by
          by_cases hjk : j < k
          · exact HN.out j y hjk hy
          · obtain rfl : j = k := by omega
            rw [HX.out] at hy
            obtain rfl := Option.some.inj hy
            exact he
        go_wp2
        go_round
        case rel => exact ⟨k + 1, by omega, by go_num, HN2.out⟩
        case measure => simp [intOf]; omega
    · have hkl : k = ns.length := by omega
      subst hkl
      have HM : Hid (¬ ∃ x ∈ ns, (x : Int) = c) := fun ⟨x, hx, he⟩ => by
        obtain ⟨j, hj⟩ := List.getElem?_of_mem hx
        exact HN.out j x (List.getElem?_eq_some_iff.1 hj).1 hj he
      go_wp2
      go_ret
      exact ⟨_, rfl, ⟨fun h => by omega, fun h => absurd h HM.out⟩, rfl⟩
theorem has_any (ns : List Nat) (v : Value) (c : Int) (b : Bool) (w : World) (hl : ns.length ≤ 140737489403904) (hc : I64 c) (hu : RdI w v ns) (hb : b = true ↔ ∃ x ∈ ns, (x : Int) = c) :
    Calls Tryd.prog 28 #[v, .int .i64 c] w fun e w' => e = .returned (.bool b) ∧ w = w' := by
  have HI : Hid (Calls Tryd.prog 37 #[v, .int .i64 c] w fun e w' => ∃ r : Int, e = .returned (.int .i64 r) ∧ (0 ≤ r ↔ b = true) ∧ w = w') :=
    (index_any ns v c w hl hc hu).mono fun e w' ⟨r, h1, h2, h3⟩ => ⟨r, h1, h2.trans hb.symm, h3⟩
  obtain ⟨ad, cap, rfl, _⟩ := hu
  clear hb
  cases b with
  | true =>
    go_enter Tryd.func28, Tryd.ntmps28
    go_wp2_with (go_at_call 37; refine HI.out.mono ?_; rintro e w' ⟨r, rfl, hr, rfl⟩; have hr2 : 0 ≤ r := hr.2 rfl; clear hr)
    go_ret
    exact ⟨rfl, rfl⟩
  | false =>
    go_enter Tryd.func28, Tryd.ntmps28
    go_wp2_with (go_at_call 37; refine HI.out.mono ?_; rintro e w' ⟨r, rfl, hr, rfl⟩; have hr2 : ¬ 0 ≤ r := (fun h => by have := hr.1 h; cases this); clear hr)
    go_ret
    exact ⟨ret_b (decide_eq_false (by omega)), rfl⟩
end Go.Proofs.YthoonegckifiaaaDoor
