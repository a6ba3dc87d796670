/-
  union of lists of communities.
-/
import Derived.Test.YtaniiennfogjaaaDoorCmI
namespace Go.Proofs.YtaniiennfogjaaaDoor
open Go.RowKit T
set_option linter.unusedSimpArgs false
set_option linter.unusedVariables false
set_option maxHeartbeats 1500000
set_option maxRecDepth 100000

theorem OwnA.two {B : Nat} {w : World} {v : Value} {l : List Nat} (h : OwnA B w v l) : (v = .slice none 0 0 ∧ l = []) ∨ ∃ g cap, v = .slice (some ⟨g, 0, none⟩) l.length cap := by
  rcases h.2.2 with ⟨h', hn⟩ | ⟨g, cap, cur, h', _⟩
  · exact .inl ⟨h', List.length_eq_zero_iff.1 hn⟩
  · exact .inr ⟨g, cap, h'⟩
/-- v reads as the ascending list of the members of fl, in a row of the call's own -/
def UnR (w : World) (fl : List Nat) (v : Value) (W : World) : Prop := ∃ s, InsS w v s W ∧ IsSet fl s ∧ s.length ≤ fl.length
theorem union_any (ls : List (List Nat)) (v : Value) (w : World) (hr : RdL w v ls) (hn : ls.length ≤ 100) (hl : ls.flatten.length ≤ 100000) :
    Calls Tryd.prog 37 #[v] w fun e w' => ∃ v', e = .returned v' ∧ UnR w ls.flatten v' w' := by
  have HCO := Lib.hid (concat_any ls v w hr hn (by omega))
  obtain ⟨ad, cap, rfl, _⟩ := hr
  generalize ls.length = L at *
  generalize ls.flatten = fl at *
  clear hn
  have HL := Lib.hid hl
  clear hl
  go_enter Tryd.func37, Tryd.ntmps37
  go_wp2_with fail
  go_at_call 51
  refine HCO.out.mono ?_
  rintro e w1 ⟨v1, rfl, hs⟩
  rcases hs.1.two with ⟨rfl, rfl⟩ | ⟨g, c1, rfl⟩
  · have H1 := Lib.hid hs.2
    clear hs
    go_wp2_with (first
      | (go_at_call 52; refine (sortA_nil _).mono ?_; rintro e w2 ⟨rfl, hb⟩; have H2 := Lib.hid (below_then H1.out hb); clear hb)
      | (go_at_call 53; refine (compactA_nil _).mono ?_; rintro e w3 ⟨rfl, hb⟩; have H3 := Lib.hid (below_then H2.out hb); clear hb))
    go_ret
    exact ⟨_, rfl, [], ⟨OwnA.nil _ _ H3.out.size, H3.out⟩, ⟨List.Pairwise.nil, fun x => Iff.rfl⟩, Nat.le_refl _⟩
  · have HS := Lib.hid hs
    clear hs
    obtain ⟨n, hn⟩ : ∃ n, fl.length = n := ⟨_, rfl⟩
    rw [hn] at HS ⊢
    have HN := Lib.hid hn
    clear hn
    go_wp2_with fail
    go_at_call 52
    refine (sortA_any w.heap.size g c1 n fl w1 HS.out.1 HN.out.symm (by rw [← HN.out]; exact HL.out)).mono ?_
    rintro e w2 ⟨rfl, l', hp, hs2, ho, hb⟩
    have HP : Hid (l'.length = n ∧ (∀ x, x ∈ l' ↔ x ∈ fl) ∧ l'.Pairwise (· ≤ ·) ∧ OwnA w.heap.size w2 (.slice (some ⟨g, 0, none⟩) n c1) l' ∧ Below w.heap.size w w2) := ⟨by rw [hp.length_eq, HN.out], fun x => hp.mem_iff, hs2, ho, HS.out.2.trans hb⟩
    clear hp hs2 ho hb HS
    go_wp2_with fail
    go_at_call 53
    refine (compactO_any w.heap.size g c1 n l' w2 HP.out.2.2.2.1 HP.out.1.symm (by rw [← HN.out]; exact HL.out) HP.out.2.2.1).mono ?_
    rintro e w3 ⟨v', s, rfl, ho, hset, hlen, hb⟩
    have HF : Hid (InsS w v' s w3 ∧ IsSet fl s ∧ s.length ≤ n) := ⟨⟨ho, HP.out.2.2.2.2.trans hb⟩, ⟨hset.1, fun x => (hset.2 x).trans (HP.out.2.1 x)⟩, hlen⟩
    clear ho hset hlen hb HP
    go_wp2
    go_ret
    exact ⟨_, rfl, s, HF.out.1, HF.out.2.1, by rw [HN.out]; exact HF.out.2.2⟩
end Go.Proofs.YtaniiennfogjaaaDoor
