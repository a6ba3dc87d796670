/-
  The walks of extend, number, read.
-/
import Derived.Test.YtiobfgcpbihbhaaGreatDoorAtR
import Derived.BigQuiet
namespace Go.Proofs.YtiobfgcpbihbhaaGreatDoor
open Go.RowKit P
set_option linter.unusedSimpArgs false
set_option linter.unusedVariables false
set_option maxHeartbeats 2000000
set_option maxRecDepth 100000
theorem extend_any (B b : Nat) (k x : Int) (v : Value) (st : Rs) (w : World) (hr : RdrI B b v st w) (hp : st.1.length ≤ 1000000) (hns : ∀ s ∈ st.1, s.as.length ≤ 1000000) :
    Calls Tryz.prog 108 #[.pointer (some ⟨b, 0, none⟩), .int .i64 k, .int .i64 x] w fun e w' => e = .returned (.tuple #[]) ∧ Below B w w' ∧ ∃ v', RdrI B b v' (ext k x st.1, st.2) w' := by
  obtain ⟨p, en⟩ := st
  dsimp only at hp hns ⊢
  rcases List.eq_nil_or_concat p with h | ⟨p0, s, h⟩
  · exact ext_nilp B b k x v p en w hr hp h
  · rw [List.concat_eq_append] at h
    by_cases hk : s.k = k
    · by_cases h255 : s.as.length = 255
      · exact ext_full B b k x v p en w hr hp p0 s h hk h255
      · obtain ⟨sk, sa⟩ := s
        dsimp only at hk h255
        subst hk
        rw [h] at hr ⊢
        exact ext_in B b _ x v p0 sa en w hr (by rw [h] at hp; simp at hp; omega) (hns ⟨sk, sa⟩ (by rw [h]; simp)) h255
    · exact ext_kind B b k x v p en w hr hp p0 s h hk
theorem P.numR_eq (wd : List UInt8) (st : Rs) : numR wd st = if (T.number (Lib.trimSuffix (Lib.trimPrefix wd [40]) [41]) 4294967295).2 = 0 then some (ext (if (st.2 || Lib.hasPrefix wd [40]) = true then 3 else 2) (T.number (Lib.trimSuffix (Lib.trimPrefix wd [40]) [41]) 4294967295).1 st.1, decide ((if (st.2 || Lib.hasPrefix wd [40]) = true then (3 : Int) else 2) = 3) && !Lib.hasSuffix (Lib.trimPrefix wd [40]) [41]) else none := rfl
theorem cutpre (l : List UInt8) (e : UInt8) (w : World) :
    Calls Tryz.prog 107 #[.string (bs l), .string ⟨#[e]⟩] w fun en w' => en = .returned (.tuple #[.string (bs (Lib.trimPrefix l [e])), .bool (Lib.hasPrefix l [e])]) ∧ w' = w := by
  have := Tryz.strings_CutPrefix (bs l) ⟨#[e]⟩ w
  rw [bs_data] at this
  exact this
theorem trimp_le (l p : List UInt8) : (Lib.trimPrefix l p).length ≤ l.length := by
  unfold Lib.trimPrefix
  split
  · rw [List.length_drop]; omega
  · exact Nat.le_refl _
theorem trims_le (l p : List UInt8) : (Lib.trimSuffix l p).length ≤ l.length := by
  unfold Lib.trimSuffix
  split
  · rw [List.length_take]; omega
  · exact Nat.le_refl _
theorem num_step (B b : Nat) (wd : List UInt8) (v : Value) (st : Rs) (w : World) (hr : RdrI B b v st w) (hl : wd.length ≤ 1000000) (hp : st.1.length ≤ 1000000) (hns : ∀ s ∈ st.1, s.as.length ≤ 1000000) :
    Calls Tryz.prog 92 #[.pointer (some ⟨b, 0, none⟩), .string (bs wd)] w fun en w' => ∃ ok, en = .returned (.bool ok) ∧ Below B w w' ∧ SetP B b (numR wd st) ok w' := by
  have HEQ := Lib.hid (numR_eq wd st)
  have H1 := Lib.hid (cutpre wd 40 w)
  have hl1 := trimp_le wd [40]
  have H2 := Lib.hid (cutsuf (Lib.trimPrefix wd [40]) 41 w (by omega))
  have hl2 := trims_le (Lib.trimPrefix wd [40]) [41]
  have H3 : Hid (Calls Tryz.prog 106 #[.string (bs (Lib.trimSuffix (Lib.trimPrefix wd [40]) [41])), .int .i64 4294967295] w fun en w' => en = .returned (.tuple #[.int .i64 (T.number (Lib.trimSuffix (Lib.trimPrefix wd [40]) [41]) 4294967295).1, .int .i64 (T.number (Lib.trimSuffix (Lib.trimPrefix wd [40]) [41]) 4294967295).2]) ∧ w' = w) := by
    have := number_any (bs (Lib.trimSuffix (Lib.trimPrefix wd [40]) [41])) 4294967295 w (by rw [bs_size]; omega) (by constructor <;> omega)
    rw [bs_data] at this
    exact this.mono fun en w' ⟨h1, h2⟩ => ⟨h1, h2.symm⟩
  have HEXT : Hid (∀ k x, Calls Tryz.prog 108 #[.pointer (some ⟨b, 0, none⟩), .int .i64 k, .int .i64 x] w fun e w' => e = .returned (.tuple #[]) ∧ Below B w w' ∧ ∃ v', RdrI B b v' (ext k x st.1, st.2) w') := fun k x => extend_any B b k x v st w hr hp hns
  generalize numR wd st = NR at *
  generalize Lib.hasPrefix wd [40] = op at *
  generalize Lib.trimPrefix wd [40] = w1' at *
  generalize Lib.hasSuffix w1' [41] = cl at *
  generalize Lib.trimSuffix w1' [41] = w2' at *
  generalize (T.number w2' 4294967295).1 = nv at *
  generalize (T.number w2' 4294967295).2 = er at *
  obtain ⟨p, en⟩ := st
  dsimp only at HEQ HEXT hp hns
  have hc := hr.cells
  have d1 : w.cell? ⟨b, 1, none⟩ = some (.bool en) := hc.2.1
  have HB : Hid (B ≤ b) := hr.lo.1
  clear hr hl hl1 hl2 hp hns hc
  go_enter Tryz.func92, Tryz.ntmps92
  go_wp2_with fail
  go_at_call 107
  refine H1.out.mono ?_
  rintro e w1 ⟨rfl, rfl⟩
  clear H1
  go_wp2_with fail
  go_at_call 104
  refine H2.out.mono ?_
  rintro e w2 ⟨rfl, rfl⟩
  clear H2
  go_wp2_with fail
  go_at_call 106
  refine H3.out.mono ?_
  rintro e w3 ⟨rfl, rfl⟩
  clear H3
  by_cases he : er = 0
  · subst he
    have fin : ∀ (K : Int) (e' : Bool), Hid (NR = some (ext K nv p, e')) → Hid (∀ (v5 : Value) (w5 : World), RdrI B b v5 (ext K nv p, en) w5 → SetP B b NR true (w5.setCell ⟨b, 1, none⟩ (.bool e'))) := fun K e' hN v5 w5 h5 => by
      rw [hN.out]
      have h6 : (w5.setCell ⟨b, 1, none⟩ (.bool e')).heap[b]? = some (.cells #[v5, .bool e'] 70 (0, 0)) := by
        have := heap_set_eq (o := 1) (u := .bool e') h5.blk
        simpa using this
      exact ⟨rfl, v5, ⟨h5.lo.1, by simpa using h5.lo.2⟩, h6, h5.row.set⟩
    cases en with
    | true =>
      have HF := fin 3 (!cl) (by show _ = _; rw [HEQ.out]; simp)
      have HX := Lib.hid (HEXT.out 3 nv)
      clear fin HEXT HEQ
      go_wp2_with fail
      go_at_call 108
      refine HX.out.mono ?_
      rintro e w5 ⟨rfl, hb, v5, h5⟩
      have hc5 := h5.cells
      have q1 : w5.cell? ⟨b, 1, none⟩ = some (.bool true) := hc5.2.1
      have q2 : w5.frozen? ⟨b, 1, none⟩ = false := hc5.2.2.2
      have HZ := Lib.hid (HF.out v5 w5 h5)
      have HB5 := Lib.hid hb
      clear hb h5 hc5 HX HF d1
      go_wp2
      go_ret
      exact ⟨true, rfl, HB5.out.setCell HB.out _, HZ.out⟩
    | false =>
      cases op with
      | true =>
        have HF := fin 3 (!cl) (by show _ = _; rw [HEQ.out]; simp)
        have HX := Lib.hid (HEXT.out 3 nv)
        clear fin HEXT HEQ
        go_wp2_with fail
        go_at_call 108
        refine HX.out.mono ?_
        rintro e w5 ⟨rfl, hb, v5, h5⟩
        have hc5 := h5.cells
        have q1 : w5.cell? ⟨b, 1, none⟩ = some (.bool false) := hc5.2.1
        have q2 : w5.frozen? ⟨b, 1, none⟩ = false := hc5.2.2.2
        have HZ := Lib.hid (HF.out v5 w5 h5)
        have HB5 := Lib.hid hb
        clear hb h5 hc5 HX HF d1
        go_wp2
        go_ret
        exact ⟨true, rfl, HB5.out.setCell HB.out _, HZ.out⟩
      | false =>
        have HF := fin 2 false (by show _ = _; rw [HEQ.out]; simp)
        have HX := Lib.hid (HEXT.out 2 nv)
        clear fin HEXT HEQ
        go_wp2_with fail
        go_at_call 108
        refine HX.out.mono ?_
        rintro e w5 ⟨rfl, hb, v5, h5⟩
        have hc5 := h5.cells
        have q1 : w5.cell? ⟨b, 1, none⟩ = some (.bool false) := hc5.2.1
        have q2 : w5.frozen? ⟨b, 1, none⟩ = false := hc5.2.2.2
        have HZ := Lib.hid (HF.out v5 w5 h5)
        have HB5 := Lib.hid hb
        clear hb h5 hc5 HX HF d1
        go_wp2
        go_ret
        exact ⟨true, rfl, HB5.out.setCell HB.out _, HZ.out⟩
  · have e1 : (er != 0) = true := by simpa using he
    have HN : Hid (NR = none) := by show _ = _; rw [HEQ.out, if_neg he]
    clear HEQ HEXT he
    go_wp2
    go_ret
    exact ⟨false, rfl, Below.refl _ _, by rw [HN.out]; exact rfl⟩
theorem read_step (B b : Nat) (c : UInt8) (wd : List UInt8) (v : Value) (st : Rs) (w : World) (hr : RdrI B b v st w) (hl : wd.length ≤ 900000) (hp : st.1.length ≤ 1000000) (hns : ∀ s ∈ st.1, s.as.length ≤ 1000000) :
    Calls Tryz.prog 64 #[.pointer (some ⟨b, 0, none⟩), .string (bs (c :: wd))] w fun en w' => ∃ ok, en = .returned (.bool ok) ∧ Below B w w' ∧ SetP B b (readW (c :: wd) st) ok w' := by
  have HS1 := Lib.hid (set_any B b 1 c wd 125 v st w hr (by omega) hp)
  have HS4 := Lib.hid (set_any B b 4 c wd 93 v st w hr (by omega) hp)
  have HN := Lib.hid (num_step B b (c :: wd) v st w hr (by rw [List.length_cons]; omega) hp hns)
  have h0 : 0 < (bs (c :: wd)).size := by rw [bs_size]; simp
  have hc : ((bs (c :: wd))[0]'h0).toNat = c.toNat := rfl
  have HR1 : Hid (c = 123 → readW (c :: wd) st = setR 1 (c :: wd) 125 st) := fun h => by subst h; rfl
  have HR2 : Hid (c = 91 → readW (c :: wd) st = setR 4 (c :: wd) 93 st) := fun h => by subst h; rfl
  have HR3 : Hid (c ≠ 123 → c ≠ 91 → readW (c :: wd) st = numR (c :: wd) st) := fun h1 h2 => by
    unfold readW
    split
    · rename_i h; cases h; exact absurd rfl h1
    · rename_i h; cases h; exact absurd rfl h2
    · rfl
  generalize readW (c :: wd) st = RW at *
  obtain ⟨S, hS⟩ : ∃ S, bs (c :: wd) = S := ⟨_, rfl⟩
  clear hr hl hp hns
  have h02 : 0 < S.size := by rw [← hS]; exact h0
  have hc2 : (S[0]'h02).toNat = c.toNat := by subst hS; rfl
  rw [hS] at HS1 HS4 HN ⊢
  clear hS hc h0
  by_cases h1 : c = 123
  · have e1 : ((S[0].toNat : Int) == 123) = true := by rw [hc2, h1]; rfl
    have e1' : (S[0].toNat : Int) = 123 := by rw [hc2, h1]; rfl
    have HE := Lib.hid (HR1.out h1)
    clear HR1 HR2 HR3 HS4 HN h1 hc2
    go_enter Tryz.func64, Tryz.ntmps64
    go_wp2_with fail
    go_at_call 91
    refine HS1.out.mono ?_
    rintro e w1 ⟨ok, rfl, hb, hs⟩
    have HF : Hid (Below B w w1 ∧ SetP B b RW ok w1) := ⟨hb, by rw [HE.out]; exact hs⟩
    clear hb hs HS1
    go_wp2
    go_ret
    exact ⟨ok, rfl, HF.out.1, HF.out.2⟩
  · have n1 : c.toNat ≠ 123 := fun h => h1 (UInt8.toNat_inj.1 h)
    have e1 : ((S[0].toNat : Int) == 123) = false := by rw [hc2, beq_eq_false_iff_ne]; omega
    by_cases h2 : c = 91
    · have e2 : ((S[0].toNat : Int) == 91) = true := by rw [hc2, h2]; rfl
      have HE := Lib.hid (HR2.out h2)
      clear HR1 HR2 HR3 HS1 HN h1 h2 hc2 n1
      go_enter Tryz.func64, Tryz.ntmps64
      go_wp2_with fail
      go_at_call 91
      refine HS4.out.mono ?_
      rintro e w1 ⟨ok, rfl, hb, hs⟩
      have HF : Hid (Below B w w1 ∧ SetP B b RW ok w1) := ⟨hb, by rw [HE.out]; exact hs⟩
      clear hb hs HS4
      go_wp2
      go_ret
      exact ⟨ok, rfl, HF.out.1, HF.out.2⟩
    · have n2 : c.toNat ≠ 91 := fun h => h2 (UInt8.toNat_inj.1 h)
      have e2 : ((S[0].toNat : Int) == 91) = false := by rw [hc2, beq_eq_false_iff_ne]; omega
      have HE := Lib.hid (HR3.out h1 h2)
      clear HR1 HR2 HR3 HS1 HS4 h1 h2 hc2 n1 n2
      go_enter Tryz.func64, Tryz.ntmps64
      go_wp2_with fail
      go_at_call 92
      refine HN.out.mono ?_
      rintro e w1 ⟨ok, rfl, hb, hs⟩
      have HF : Hid (Below B w w1 ∧ SetP B b RW ok w1) := ⟨hb, by rw [HE.out]; exact hs⟩
      clear hb hs HN
      go_wp2
      go_ret
      exact ⟨ok, rfl, HF.out.1, HF.out.2⟩
end Go.Proofs.YtiobfgcpbihbhaaGreatDoor
