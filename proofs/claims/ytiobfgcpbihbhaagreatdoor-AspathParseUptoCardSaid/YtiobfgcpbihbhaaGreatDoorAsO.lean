/-
  slices.Grow of nothing, slices.Concat at integers.
-/
import Derived.Test.YtiobfgcpbihbhaaGreatDoorAsN
import Derived.BigQuiet
namespace Go.Proofs.YtiobfgcpbihbhaaGreatDoor
open Go.RowKit P
set_option linter.unusedSimpArgs false
set_option linter.unusedVariables false
set_option maxHeartbeats 4000000
set_option maxRecDepth 100000
theorem grow0_any (n : Nat) (w : World) (hn : n ≤ 2000000) :
    Calls Tryz.prog 82 #[.slice none 0 0, .int .i64 (n : Int)] w fun e w' => ∃ v, e = .returned v ∧ InsI w v [] w' := by
  obtain ⟨i0, hi, hz0, hz1, hz2⟩ := infoE_parts info3
  have n0 : ¬ (n : Int) < 0 := by omega
  by_cases h0 : n = 0
  · subst h0
    go_enter Tryz.func82, Tryz.ntmps82
    go_wp2
    go_ret
    exact ⟨_, rfl, InsI.start w⟩
  · have n1 : (0 : Int) < (n : Int) := by omega
    have h := fun ty => Lib.run_append_nil_zeros (P := Tryz.prog) w 34 3 ty 3 i0 (.int .i64 0) .i64 .i64 Tryz.underlying34 Tryz.underlying3 hi hz0 n (by omega) (by omega) (by omega) (by rw [hz2]; omega)
    obtain ⟨G, hG⟩ : ∃ G, G = grownCap w n 0 3 := ⟨_, rfl⟩
    have hGm : G ≤ maxLen := by rw [hG]; exact grownCap_le_maxLen w n 0 3 (by unfold maxLen; omega)
    have hGn : n ≤ G := by rw [hG]; exact grownCap_ge w _ _ _
    rw [← hG] at h
    have hsz : (Builtin.zeroCells (Value.int .i64 0).cells n ++ Builtin.zeroCells (Value.int .i64 0).cells (G - n)).size = G * 1 := by
      simp [Builtin.zeroCells, Value.cells]; omega
    generalize Builtin.zeroCells (Value.int .i64 0).cells n ++ Builtin.zeroCells (Value.int .i64 0).cells (G - n) = Z at *
    have HI : Hid (InsI w (.slice (some ⟨w.heap.size, 0, none⟩) 0 G) [] (w.drew.alloc (.cells Z 3))) := by
      have hb : Below w.heap.size w (w.drew.alloc (.cells Z 3)) := (below_drewN (Below.refl _ w) 1).alloc (Nat.le_refl _) _
      exact ⟨⟨hb.size, World.ownsRow_made (base := w.heap.size) (e := 3) (size := 1) w.drew Z G (Nat.le_refl _) hGm hsz⟩, hb⟩
    have H := Lib.hid h
    clear h hG h0
    have g0 : (0 : Int) ≤ (G : Int) := by omega
    go_enter Tryz.func82, Tryz.ntmps82
    go_wp2_with (at_builtin; refine Lib.wpList_append_run _ rfl _ _ _ _ rfl _ _ rfl rfl _ _ (H.out _) ?_)
    go_ret
    exact ⟨_, rfl, HI.out⟩
/-- a slice of slices that reads as these lists -/
def RdL (w : World) (v : Value) (ls : List (List Int)) : Prop := ∃ ad cap, v = .slice ad ls.length cap ∧ ∀ (k : Nat) (l : List Int), ls[k]? = some l → ∃ b off u, ad = some ⟨b, off, none⟩ ∧ w.cell? ⟨b, off + k, none⟩ = some u ∧ RdI w u l
theorem RdL.below {w w' : World} {v : Value} {ls : List (List Int)} (h : RdL w v ls) (hb : Below w.heap.size w w') : RdL w' v ls := by
  obtain ⟨ad, cap, e, hc⟩ := h
  refine ⟨ad, cap, e, fun k l hk => ?_⟩
  obtain ⟨b, off, u, e1, e2, e3⟩ := hc k l hk
  exact ⟨b, off, u, e1, carry hb e2, e3.below hb⟩
theorem flatten_take {ls : List (List Int)} {k : Nat} {l : List Int} (h : ls[k]? = some l) : (ls.take (k + 1)).flatten = (ls.take k).flatten ++ l := by
  obtain ⟨hk, he⟩ := List.getElem?_eq_some_iff.1 h
  rw [List.take_succ_eq_append_getElem hk, he, List.flatten_append]; simp
theorem flatten_take_le (ls : List (List Int)) (k : Nat) : (ls.take k).flatten.length ≤ ls.flatten.length := by
  have h : ls = ls.take k ++ ls.drop k := (List.take_append_drop k ls).symm
  have : ls.flatten.length = (ls.take k).flatten.length + (ls.drop k).flatten.length := by
    conv => lhs; rw [h]
    rw [List.flatten_append, List.length_append]
  omega
theorem concat_any (ls : List (List Int)) (v : Value) (w : World) (hr : RdL w v ls) (hn : ls.length ≤ 100) (hl : ls.flatten.length ≤ 2000000) :
    Calls Tryz.prog 55 #[v] w fun e w' => ∃ v', e = .returned v' ∧ InsI w v' ls.flatten w' := by
  obtain ⟨ad, cap, rfl, hc⟩ := hr
  have HC := Lib.hid hc
  obtain ⟨L, hL⟩ : ∃ L, ls.length = L := ⟨_, rfl⟩
  rw [hL] at hn ⊢
  have HL := Lib.hid hL
  have HTL : Hid (∀ k, (ls.take k).flatten.length ≤ 2000000) := fun k => by have := flatten_take_le ls k; omega
  clear hc hL hl
  go_enter Tryz.func55, Tryz.ntmps55
  go_wp2_with fail
  go_loop [3, 5, 11] (fun s3 s5 s11 => ∃ (k n : Nat), k ≤ L ∧ n ≤ 2000000 ∧ s3 = .int .i64 (n : Int) ∧ (∃ q, q = s5) ∧ s11 = .int .i64 (k : Int) ∧ Hid (n = (ls.take k).flatten.length)) (fun _ _ s11 => L - (intOf s11).toNat)
  case atStart => exact ⟨0, 0, by omega, by omega, rfl, ⟨_, rfl⟩, rfl, by unfold Hid; simp⟩
  case round =>
    obtain ⟨k, n, hk, hn2, rfl, ⟨u5, rfl⟩, rfl, HN⟩ := hrel
    by_cases hlt : k < L
    · obtain ⟨l, hlk⟩ : ∃ l, ls[k]? = some l := ⟨_, List.getElem?_eq_getElem (by rw [HL.out]; exact hlt)⟩
      obtain ⟨b, off, u, rfl, hcell, hru⟩ := HC.out k l hlk
      obtain ⟨uad, ucap, rfl⟩ := hru.form
      have HF := Lib.hid (flatten_take hlk)
      have hle := HTL.out (k + 1)
      rw [HF.out, List.length_append] at hle
      have hnn := HN.out
      have k0 : (0 : Int) ≤ (k : Int) := by omega
      have k1 : (k : Int) < (L : Int) := by omega
      obtain ⟨m, hm⟩ : ∃ m, l.length = m := ⟨_, rfl⟩
      rw [hm] at hle hcell
      have hnm : n + m ≤ 2000000 := by omega
      have HN2 : Hid (n + m = (ls.take (k + 1)).flatten.length) := by unfold Hid; rw [HF.out, List.length_append, hm, hnn]
      have q1 : ¬ ((n : Int) + (m : Int)) < 0 := by omega
      clear hlk hru hle hnn hm HN
      go_wp2_with fail
      go_round
      case measure => simp [intOf]; omega
      case rel => exact ⟨k + 1, n + m, by omega, hnm, val_i (by omega), ⟨_, rfl⟩, by go_num, HN2⟩
    · have k1 : decide ((k : Int) < (L : Int)) = false := decide_eq_false (by omega)
      have hkl : k = L := by omega
      subst hkl
      have HLN : Hid (n ≤ 2000000) := hn2
      clear HN
      go_wp2_with fail
      go_at_call 82
      refine (grow0_any n _ hn2).mono ?_
      rintro e w1 ⟨v1, rfl, hs⟩
      have HS := Lib.hid hs
      have HI0 : Hid (InsI w v1 (ls.take 0).flatten w1) := by rw [List.take_zero]; exact hs
      clear hs
      go_wp2_with fail
      go_loopg [6, 8, 27] k (fun g s6 s8 s27 wr => ∃ j : Nat, j ≤ k ∧ k - j ≤ g ∧ (∃ q, q = s8) ∧ s27 = .int .i64 (j : Int) ∧ Hid (InsI w s6 (ls.take j).flatten wr))
      case atStart => exact ⟨0, by omega, by omega, ⟨_, rfl⟩, rfl, HI0⟩
      case round =>
        clear HI0 HS
        obtain ⟨j, hj, hjg, ⟨u8, rfl⟩, rfl, HI⟩ := hrel
        by_cases hlt2 : j < k
        · obtain ⟨l, hlk⟩ : ∃ l, ls[j]? = some l := ⟨_, List.getElem?_eq_getElem (by rw [HL.out]; exact hlt2)⟩
          obtain ⟨b, off, u, rfl, hcell, hru⟩ := HC.out j l hlk
          have c1 := carry HI.out.2 hcell
          have HRU := Lib.hid (hru.below HI.out.2)
          have HF := Lib.hid (flatten_take hlk)
          have hle := HTL.out (j + 1)
          rw [HF.out, List.length_append] at hle
          have j0 : (0 : Int) ≤ (j : Int) := by omega
          have j1 : (j : Int) < (k : Int) := by omega
          clear hcell hru hlk
          generalize hold : (List.take j ls).flatten = pre at *
          clear hold
          rename_i s6 _ _ _
          go_wp2_with (at_builtin; refine append_rdI rfl (.tmp 31) (.tmp 32) rfl w.heap.size HI.out.2.size _ pre rfl HI.out.1 _ l rfl HRU.out hle ?_; intro v2 w2 hown hb; have S2 : Hid (InsI w v2 (pre ++ l) w2) := ⟨hown, HI.out.2.trans hb⟩; clear hown hb)
          go_roundg (k - (j + 1))
          case measure => omega
          case rel => exact ⟨j + 1, by omega, Nat.le_refl _, ⟨_, rfl⟩, by go_num, by unfold Hid; rw [HF.out]; exact S2.out⟩
        · have j1 : decide ((j : Int) < (k : Int)) = false := decide_eq_false (by omega)
          have hjk : j = k := by omega
          subst hjk
          have HE : Hid ((ls.take j).flatten = ls.flatten) := by unfold Hid; rw [List.take_of_length_le (by rw [HL.out]; exact Nat.le_refl _)]
          go_wp2
          go_ret
          exact ⟨_, rfl, HE.out ▸ HI.out⟩
end Go.Proofs.YtiobfgcpbihbhaaGreatDoor
