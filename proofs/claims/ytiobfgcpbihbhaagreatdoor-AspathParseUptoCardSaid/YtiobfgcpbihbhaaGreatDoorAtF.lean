/-
  strings.Split at one byte; a slice of strings as memory reads; the walk of Words.
-/
import Derived.Test.YtiobfgcpbihbhaaGreatDoorAtE
namespace Go.Proofs.YtiobfgcpbihbhaaGreatDoor
open Go.RowKit Go.Lib Go.Shelf
set_option linter.unusedSimpArgs false
set_option linter.unusedVariables false
set_option maxHeartbeats 4000000
set_option maxRecDepth 100000
theorem indexB_one (x : ByteArray) (c : UInt8) : Lib.indexB x ⟨#[c]⟩ = Lib.indexByte x.data.toList c := Lib.index_one _ _
theorem countB_one (x : ByteArray) (c : UInt8) : Lib.countB x ⟨#[c]⟩ = Lib.countByte x.data.toList c := Lib.count_one c _
theorem split_any (s : ByteArray) (c : UInt8) (w : World) (hs : s.size < 4294967281) :
    Calls Tryz.prog 90 #[.string s, .string ⟨#[c]⟩] w fun e w' =>
      e = .returned (.slice (some ⟨w.heap.size, 0, none⟩) (Lib.countB s ⟨#[c]⟩ + 1) (Lib.countB s ⟨#[c]⟩ + 1)) ∧ w' = w.alloc (.cells ((Lib.splitB ⟨#[c]⟩ 0 (Lib.countB s ⟨#[c]⟩) s).map Value.string).toArray 9) := by
  have L := Tryz.lays146
  have h1 : 1 ≤ (⟨#[c]⟩ : ByteArray).size := Nat.le_refl 1
  have hle := Lib.countB_le ⟨#[c]⟩ h1 s.size s (Nat.le_refl _)
  have hlen := Lib.splitB_all ⟨#[c]⟩ h1 0 _ s rfl
  have cc := Any.strings_genSplit_core (P := Tryz.prog) (ρ := Tryz.lays146_ren) { L with } (by kernel_rfl) s ⟨#[c]⟩ 0 (-1) (Lib.countB s ⟨#[c]⟩ + 1) w hs h1 (Nat.zero_le _)
    (fun x cs hx => by have := Any.strings_Index_one (P := Tryz.prog) (ρ := Tryz.lays146_ren) { L with } x c (w.alloc (.cells cs (Tryz.lays146_ren.t 9))); rw [indexB_one]; exact this)
    (by have := Any.strings_Count_one (P := Tryz.prog) (ρ := Tryz.lays146_ren) { L with } s c w; rw [countB_one]; exact this)
    (by decide) (by decide) (by rw [if_pos (by decide)]; have : (⟨#[c]⟩ : ByteArray).size = 1 := rfl; omega)
  rw [Nat.add_sub_cancel, hlen] at cc
  have e2 : Lib.cellsOf (Lib.splitB ⟨#[c]⟩ 0 (Lib.countB s ⟨#[c]⟩) s) (Lib.countB s ⟨#[c]⟩ + 1) = ((Lib.splitB ⟨#[c]⟩ 0 (Lib.countB s ⟨#[c]⟩) s).map Value.string).toArray := by rw [← hlen]; exact Lib.cellsOf_full _
  rw [e2] at cc
  have c2 : Calls Tryz.prog 103 #[.string s, .string ⟨#[c]⟩, .int .i64 0, .int .i64 (-1)] w fun e w' =>
      e = .returned (.slice (some ⟨w.heap.size, 0, none⟩) (Lib.countB s ⟨#[c]⟩ + 1) (Lib.countB s ⟨#[c]⟩ + 1)) ∧ w' = w.alloc (.cells ((Lib.splitB ⟨#[c]⟩ 0 (Lib.countB s ⟨#[c]⟩) s).map Value.string).toArray 9) := cc
  go_enter Tryz.func90, Tryz.ntmps90
  go_wp2_with (go_at_call 103; refine c2.mono ?_; rintro e w' ⟨rfl, hw⟩; rw [hw])
  go_ret
  exact ⟨rfl, rfl⟩
end Go.Proofs.YtiobfgcpbihbhaaGreatDoor
namespace Go.Proofs.YtiobfgcpbihbhaaGreatDoor
open Go.RowKit
/-- a slice of strings that reads as these -/
def RdW (w : World) (v : Value) (ps : List (List UInt8)) : Prop :=
  ∃ ad cap, v = .slice ad ps.length cap ∧ ∀ (k : Nat) (p : List UInt8), ps[k]? = some p → ∃ b off, ad = some ⟨b, off, none⟩ ∧ b < w.heap.size ∧ w.cell? ⟨b, off + k, none⟩ = some (.string (bs p))
theorem RdW.below {w w' : World} {v : Value} {ps : List (List UInt8)} (h : RdW w v ps) (hb : Below w.heap.size w w') : RdW w' v ps := by
  obtain ⟨ad, cap, rfl, hc⟩ := h
  refine ⟨ad, cap, rfl, fun k t hk => ?_⟩
  obtain ⟨b, off, e, hlt, h0⟩ := hc k t hk
  exact ⟨b, off, e, Nat.lt_of_lt_of_le hlt hb.size, (hb.cell (p := ⟨b, off + k, none⟩) hlt).trans h0⟩
theorem rdw_nil (w : World) : RdW w (.slice none 0 0) [] := ⟨none, 0, rfl, fun k t h => by simp at h⟩
def strs (ps : List (List UInt8)) : List Value := ps.map fun p => .string (bs p)
theorem strs_len (ps : List (List UInt8)) : (strs ps).length = ps.length := by simp [strs]
theorem strs_get {ps : List (List UInt8)} {k : Nat} {p : List UInt8} (h : ps[k]? = some p) : (strs ps)[k]? = some (.string (bs p)) := by simp [strs, h]
theorem strs_snoc (ps : List (List UInt8)) (p : List UInt8) : strs (ps ++ [p]) = strs ps ++ [.string (bs p)] := by simp [strs]
theorem rdw_own {w : World} {B : Nat} {v : Value} {ps : List (List UInt8)} (h : w.ownsRow B 9 1 v ps.length (strs ps)) : RdW w v ps := by
  rcases h.2 with ⟨rfl, hn⟩ | ⟨g, cap, cur, rfl, hB, hg, hnc, _, _, _⟩
  · have : ps = [] := List.length_eq_zero_iff.1 hn
    subst this
    exact rdw_nil w
  · refine ⟨some ⟨g, 0, none⟩, cap, rfl, fun k t hk => ⟨g, 0, rfl, (Array.getElem?_eq_some_iff.1 hg).1, ?_⟩⟩
    have hlt := (List.getElem?_eq_some_iff.1 hk).1
    rw [Nat.zero_add, h.cellAt k (by omega)]
    exact strs_get hk
theorem bs_of (s : ByteArray) : s = bs s.data.toList := by apply ByteArray.ext; simp [bs]
theorem rdw_cells {w : World} {ss : List ByteArray} {n : Nat} {t : TypeId} (h : ss.length = n) : RdW (w.alloc (.cells (ss.map Value.string).toArray t)) (.slice (some ⟨w.heap.size, 0, none⟩) n n) (ss.map (·.data.toList)) := by
  refine ⟨some ⟨w.heap.size, 0, none⟩, n, by simp [h], fun k p hk => ⟨w.heap.size, 0, rfl, by simp, ?_⟩⟩
  rw [List.getElem?_map] at hk
  cases hs : ss[k]? with
  | none => rw [hs] at hk; cases hk
  | some s =>
    rw [hs] at hk
    obtain rfl := Option.some.inj hk
    rw [← bs_of]
    rw [Nat.zero_add]
    exact cell_of (heap_alloc_new _ _) (by simp [hs])
/-- what Words returns -/
def WordsPost (l : List UInt8) (w : World) (e : Ending) (w' : World) : Prop :=
  (T.words l = none ∧ e = .returned (.tuple #[.slice none 0 0, .int .i64 2]) ∨ ∃ ps v, T.words l = some ps ∧ e = .returned (.tuple #[v, .int .i64 0]) ∧ RdW w' v ps) ∧ Below w.heap.size w w'

theorem contains_no {l : List UInt8} (h : 10 ∉ l) : decide (0 ≤ Lib.indexByte l 10) = false := by rw [T.index_miss _ _ h]; rfl
theorem contains_yes {l : List UInt8} (h : 10 ∈ l) : decide (0 ≤ Lib.indexByte l 10) = true := by
  rcases T.split_word 10 l with ⟨_, _, h3⟩ | ⟨h1, h2⟩
  · exact absurd h h3
  · rw [h1, T.index_hit _ _ _ h2]; simp
theorem words_any (s : ByteArray) (w : World) (hs : s.size ≤ 1048576) :
    Calls Tryz.prog 63 #[.string s] w (WordsPost s.data.toList w) := by
  have hlen : s.data.toList.length = s.size := by simp
  have HSL := Lib.hid (str_list s)
  have hct : ∀ W, Calls Tryz.prog 89 #[.string s, .string ⟨#[10]⟩] W fun e w' => e = .returned (.bool (decide (0 ≤ Lib.indexByte s.data.toList 10))) ∧ w' = W := fun W => Tryz.strings_Contains_one s 10 W
  by_cases h0 : s.size = 0
  · have hnil : s.data.toList = [] := List.length_eq_zero_iff.1 (by rw [hlen]; exact h0)
    have HN : Hid (T.words s.data.toList = some []) := by unfold Hid; rw [hnil]; rfl
    have t2 : s.toList = [] := by rw [HSL.out]; exact hnil
    have t3 : s.toList.isEmpty = true := by rw [t2]; rfl
    clear hnil hct hlen
    go_enter Tryz.func63, Tryz.ntmps63
    go_wp2
    go_ret2
    exact ⟨.inr ⟨[], _, HN.out, rfl, rdw_nil _⟩, Below.refl _ _⟩
  · have hne : s.data.toList ≠ [] := by intro h; rw [h] at hlen; simp at hlen; omega
    have t2 : s.toList.isEmpty = false := by rw [HSL.out]; simpa using hne
    by_cases h10 : (10 : UInt8) ∈ s.data.toList
    · have HN : Hid (T.words s.data.toList = none) := by unfold Hid T.words; rw [if_neg hne, if_pos (.inl h10)]
      simp only [contains_yes h10] at hct
      have HCT := Lib.hid hct
      clear hne h10 hct hlen
      go_enter Tryz.func63, Tryz.ntmps63
      go_wp2_with (go_at_call 89; refine (HCT.out _).mono ?_; rintro e w' ⟨rfl, rfl⟩)
      go_ret2
      exact ⟨.inl ⟨HN.out, rfl⟩, Below.refl _ _⟩
    · simp only [contains_no h10] at hct
      have HCT := Lib.hid hct
      have hsp := split_any s 32 w (by omega)
      obtain ⟨ps, hps⟩ : ∃ ps, ps = T.parts 32 s.data.toList := ⟨_, rfl⟩
      have hlen2 := Lib.splitB_all ⟨#[32]⟩ (Nat.le_refl 1) 0 _ s rfl
      have hparts : (Lib.splitB ⟨#[32]⟩ 0 (Lib.countB s ⟨#[32]⟩) s).map (·.data.toList) = ps := by
        rw [Lib.splitB_data, hps]
        exact T.splitK_parts 32 _ _ (by rw [countB_one]; rfl)
      have hpl : ps.length = Lib.countB s ⟨#[32]⟩ + 1 := by rw [← hparts, List.length_map]; exact hlen2
      have hpb : ps.length ≤ 1048577 := by
        have h1 : s.data.toList.count 32 ≤ s.data.toList.length := List.count_le_length
        have h2 : Lib.countB s ⟨#[32]⟩ = s.data.toList.count 32 := countB_one s 32
        omega
      have hsp2 : Calls Tryz.prog 90 #[.string s, .string ⟨#[32]⟩] w fun e w' => e = .returned (.slice (some ⟨w.heap.size, 0, none⟩) ps.length ps.length) ∧ RdW w' (.slice (some ⟨w.heap.size, 0, none⟩) ps.length ps.length) ps ∧ Below w.heap.size w w' :=
        hsp.mono fun e w' ⟨he, hw⟩ => by
          subst hw
          refine ⟨by rw [he, hpl], ?_, (Below.refl _ _).alloc (Nat.le_refl _) _⟩
          have := rdw_cells (w := w) (t := 9) (n := ps.length) (hlen2.trans hpl.symm)
          rw [hparts] at this
          exact this
      have HNO : Hid ([] ∈ ps → T.words s.data.toList = none) := fun h => by unfold T.words; rw [if_neg hne, if_pos (.inr (hps ▸ h))]
      have HYES : Hid ([] ∉ ps → T.words s.data.toList = some ps) := fun h => by
        have hno : ¬ (10 ∈ s.data.toList ∨ [] ∈ T.parts 32 s.data.toList) := fun h1 => h1.elim h10 (fun h2 => h (hps ▸ h2))
        unfold T.words
        rw [if_neg hne, if_neg hno, ← hps]
      have HSP := Lib.hid hsp2
      clear hsp hsp2 hlen2 hparts hpl hps hne h10 hct hlen
      go_enter Tryz.func63, Tryz.ntmps63
      go_wp2_with (first
        | (go_at_call 89; refine (HCT.out _).mono ?_; rintro e w' ⟨rfl, rfl⟩)
        | (go_at_call 90; refine HSP.out.mono ?_; rintro e w1 ⟨rfl, hrd, hb⟩; have HRD := Lib.hid (And.intro hrd hb); clear hrd hb))
      go_loop [6, 15] (fun _ i => ∃ k : Nat, k ≤ ps.length ∧ i = .int .i64 k ∧ Hid (∀ j, j < k → ps[j]? ≠ some [])) (fun _ i => ps.length - (intOf i).toNat)
      case atStart => exact ⟨0, Nat.zero_le _, rfl, fun j hj => by omega⟩
      case round =>
        obtain ⟨k, hk, rfl, HP⟩ := hrel
        by_cases hlt : k < ps.length
        · obtain ⟨p, hp⟩ : ∃ p, ps[k]? = some p := ⟨_, List.getElem?_eq_getElem hlt⟩
          obtain ⟨ad', cap', e', hc'⟩ := HRD.out.1
          obtain ⟨blk, off, e2, hblk, hc⟩ := hc' k p hp
          injection e' with e1 e3 e4
          rw [← e1] at e2
          injection e2 with e2
          injection e2 with e5 e6
          subst e5 e6
          rw [Nat.zero_add] at hc
          have HPK := Lib.hid hp
          clear hc' hp
          (try clear e1)
          (try clear e3)
          (try clear e4)
          by_cases hpe : p = []
          · have HN := Lib.hid (HNO.out (List.mem_of_getElem? (hpe ▸ HPK.out)))
            have u2 : (bs p).toList = [] := by rw [str_list, bs_data]; exact hpe
            have u3 : (bs p).toList.isEmpty = true := by rw [u2]; rfl
            clear hpe
            go_wp2
            go_ret2
            exact ⟨.inl ⟨HN.out, rfl⟩, HRD.out.2⟩
          · have u3 : (bs p).toList.isEmpty = false := by rw [str_list, bs_data]; simpa using hpe
            have HPE := Lib.hid hpe
            clear hpe
            go_wp2
            go_round
            case rel => exact ⟨k + 1, by omega, by go_num, fun j hj => by
              by_cases hjk : j = k
              · subst hjk; rw [HPK.out]; intro h; exact HPE.out (Option.some.inj h)
              · exact HP.out j (by omega)⟩
            case measure => simp [intOf]; omega
        · have hkl : k = ps.length := by omega
          subst hkl
          have HN := Lib.hid (HYES.out (fun h => by
            obtain ⟨j, hj⟩ := List.getElem?_of_mem h
            exact HP.out j (List.getElem?_eq_some_iff.1 hj).1 hj))
          go_wp2
          go_ret2
          exact ⟨.inr ⟨ps, _, HN.out, rfl, HRD.out.1⟩, HRD.out.2⟩
end Go.Proofs.YtiobfgcpbihbhaaGreatDoor
