/-
  The walk of Parse.
-/
import Derived.Test.YtiobfgcpbihbhaaGreatDoorAtS
import Derived.Test.YtiobfgcpbihbhaaGreatDoorAtG
import Derived.BigQuiet
namespace Go.Proofs.YtiobfgcpbihbhaaGreatDoor
open Go.RowKit P
set_option linter.unusedSimpArgs false
set_option linter.unusedVariables false
set_option maxHeartbeats 1500000
set_option maxRecDepth 100000
/-- what Parse makes of what it has read -/
def P.closeR (l : List UInt8) : Option Rs → List Sg × Int
  | none => ([], 2)
  | some st => if chk st.1 = 0 ∧ P.text st.1 = l then (st.1, 0) else ([], 2)
/-- what Parse answers -/
def P.parseR (l : List UInt8) : List Sg × Int := match T.words l with
  | none => ([], 2)
  | some ws => closeR l (readAll ws ([], false))
theorem words_facts {l : List UInt8} {ws : List (List UInt8)} (h : T.words l = some ws) : ws.length ≤ l.length + 1 ∧ ∀ x ∈ ws, x ≠ [] ∧ x.length ≤ l.length := by
  unfold T.words at h
  by_cases h0 : l = []
  · rw [if_pos h0] at h
    cases h
    simp
  · rw [if_neg h0] at h
    by_cases h1 : 10 ∈ l ∨ [] ∈ T.parts 32 l
    · rw [if_pos h1] at h; cases h
    · rw [if_neg h1] at h
      cases h
      exact ⟨T.parts_len 32 l, fun x hx => ⟨fun e => h1 (.inr (e ▸ hx)), parts_mem_len 32 l x hx⟩⟩
theorem P.nums_len : ∀ {l : List (List UInt8)} {ns : List Int}, nums l = some ns → ns.length = l.length
  | [], ns, h => by simp [nums] at h; subst h; rfl
  | w :: r, ns, h => by
    unfold nums at h
    split at h
    · cases hr : nums r with
      | none => rw [hr] at h; cases h
      | some m => rw [hr] at h; cases h; simp [nums_len hr]
    · cases h
theorem P.ext_len (k x : Int) (p : List Sg) (m : Nat) (h : ∀ s ∈ p, s.as.length ≤ m) : (ext k x p).length ≤ p.length + 1 ∧ ∀ s ∈ ext k x p, s.as.length ≤ m + 1 := by
  rcases List.eq_nil_or_concat p with h0 | ⟨p0, t, h0⟩
  · subst h0
    rw [ext_nil]
    simp
  · rw [List.concat_eq_append] at h0
    subst h0
    rw [ext_snoc]
    split
    · refine ⟨by simp, fun s hs => ?_⟩
      rcases List.mem_append.1 hs with hs | hs
      · have := h s (by simp [hs]); omega
      · rw [List.mem_singleton.1 hs]
        have := h t (by simp)
        simp; omega
    · refine ⟨by simp, fun s hs => ?_⟩
      rcases List.mem_append.1 hs with hs | hs
      · have := h s hs; omega
      · rw [List.mem_singleton.1 hs]; simp
theorem P.read_len {w : List UInt8} {st st' : Rs} {m : Nat} (h : readW w st = some st') (hm : ∀ s ∈ st.1, s.as.length ≤ m) (hw : w.length + 1 ≤ m) : st'.1.length ≤ st.1.length + 1 ∧ ∀ s ∈ st'.1, s.as.length ≤ m + 1 := by
  have hset : ∀ k e, setR k w e st = some st' → st'.1.length ≤ st.1.length + 1 ∧ ∀ s ∈ st'.1, s.as.length ≤ m + 1 := fun k e h => by
    unfold setR at h
    cases hn : nums (T.parts 44 (Lib.trimSuffix (w.drop 1) [e])) with
    | none => rw [hn] at h; cases h
    | some ns =>
      rw [hn] at h
      simp only at h
      split at h
      · cases h
        have h1 := nums_len hn
        have h2 := T.parts_len 44 (Lib.trimSuffix (w.drop 1) [e])
        have h3 := trims_le (w.drop 1) [e]
        rw [List.length_drop] at h3
        refine ⟨by simp, fun s hs => ?_⟩
        rcases List.mem_append.1 hs with hs | hs
        · have := hm s hs; omega
        · rw [List.mem_singleton.1 hs]
          show ns.length ≤ m + 1
          omega
      · cases h
  unfold readW at h
  split at h
  · exact hset _ _ h
  · exact hset _ _ h
  · rw [numR_eq] at h
    split at h
    · cases h
      exact ext_len _ _ _ _ hm
    · cases h
theorem readAll_step {ws : List (List UInt8)} {k : Nat} {x : List UInt8} {st : Rs} (h : ws[k]? = some x) : readAll (ws.drop k) st = match readW x st with | none => none | some st' => readAll (ws.drop (k + 1)) st' := by
  obtain ⟨hk, he⟩ := List.getElem?_eq_some_iff.1 h
  rw [List.drop_eq_getElem_cons hk, he]
  rfl
theorem parse_any (l : List UInt8) (w : World) (hT : Tab w) (hl : l.length ≤ 300000) :
    Calls Tryz.prog 33 #[.string (bs l)] w fun e w' => ∃ v', e = .returned (.tuple #[v', .int .i64 (parseR l).2]) ∧ RdS w' v' (parseR l).1 ∧ Below w.heap.size w w' := by
  have HW : Hid (Calls Tryz.prog 63 #[.string (bs l)] w (WordsPost l w)) := by have := words_any (bs l) w (by rw [bs_size]; omega); rw [bs_data] at this; exact this
  have HPR : Hid (parseR l = match T.words l with | none => ([], 2) | some ws => closeR l (readAll ws ([], false))) := rfl
  generalize parseR l = PR at *
  obtain ⟨S, hS⟩ : ∃ S, bs l = S := ⟨_, rfl⟩
  rw [hS] at HW ⊢
  have HS := Lib.hid hS
  have HL := Lib.hid hl
  have HT := Lib.hid hT
  clear hT hl hS
  go_enter Tryz.func33, Tryz.ntmps33
  go_wp2_with fail
  go_at_call 63
  refine HW.out.mono ?_
  rintro e w1 ⟨⟨hno, rfl⟩ | ⟨ws, v1, hws, rfl, hrd⟩, hb⟩
  · have HQ : Hid (PR = ([], 2)) := by show _ = _; rw [HPR.out, hno]
    have HB := Lib.hid hb
    clear hno hb HW HPR
    go_wp2
    go_ret2
    exact ⟨_, by rw [HQ.out] <;> rfl, by rw [HQ.out]; exact rds_nil _, HB.out⟩
  · have HWF := Lib.hid (words_facts hws)
    obtain ⟨RA, hRA⟩ : ∃ RA, readAll ws ([], false) = RA := ⟨_, rfl⟩
    have HPR2 : Hid (PR = closeR l RA) := by show _ = _; rw [HPR.out, hws, ← hRA]
    have HB := Lib.hid hb
    obtain ⟨ad, cap, rfl, hc⟩ := hrd
    have HC := Lib.hid hc
    obtain ⟨N, hN⟩ : ∃ N, ws.length = N := ⟨_, rfl⟩
    have HN := Lib.hid hN
    have hNl : N ≤ 300001 := by rw [← hN]; have := HWF.out.1; have := HL.out; omega
    rw [hN]
    have HE0 : Hid (readAll (ws.drop 0) ([], false) = RA) := hRA
    have HR0 : Hid (RdrI w1.heap.size w1.heap.size (.slice none 0 0) ([], false) (w1.alloc (.cells #[.slice none 0 0, .bool false] 70))) := ⟨⟨Nat.le_refl _, by simp⟩, World.alloc_heap_new _ _, .inl ⟨rfl, rfl⟩⟩
    have HB0 : Hid (Below w1.heap.size w1 (w1.alloc (.cells #[.slice none 0 0, .bool false] 70))) := below_alloc _ _
    clear hc hws hb hN hRA HW HPR
    go_wp2_with fail
    go_loopg [8, 20] N (fun gg s8 s20 wr => ∃ (k : Nat) (st : Rs) (v : Value), k ≤ N ∧ N - k ≤ gg ∧ (∃ q, q = s8) ∧ s20 = .int .i64 (k : Int) ∧ Hid (readAll (ws.drop k) st = RA) ∧ Hid (st.1.length ≤ k ∧ ∀ s ∈ st.1, s.as.length ≤ l.length + 1 + k) ∧ Hid (RdrI w1.heap.size w1.heap.size v st wr) ∧ Hid (Below w1.heap.size w1 wr))
    case atStart => exact ⟨0, ([], false), _, by omega, by omega, ⟨_, rfl⟩, rfl, HE0, ⟨Nat.le_refl _, fun s hs => by simp at hs⟩, HR0, HB0⟩
    case round =>
      clear HE0 HR0 HB0
      obtain ⟨k, st, v, hk, hg, ⟨u8, rfl⟩, rfl, HE, HLN, HR, HBW⟩ := hrel
      by_cases hlt : k < N
      · obtain ⟨x, hx⟩ : ∃ x, ws[k]? = some x := ⟨_, List.getElem?_eq_getElem (by have := HN.out; omega)⟩
        have hxf := HWF.out.2 x (List.mem_of_getElem? hx)
        obtain ⟨bk, off, rfl, hbk, c0⟩ := HC.out k x hx
        have HRS := Lib.hid (readAll_step (st := st) hx)
        obtain ⟨c, wd, hcw⟩ : ∃ c wd, x = c :: wd := by
          cases x with
          | nil => exact absurd rfl hxf.1
          | cons c wd => exact ⟨c, wd, rfl⟩
        have hwl : wd.length + 1 ≤ l.length := by have := hxf.2; rw [hcw] at this; simpa using this
        have hkl := HL.out
        have HRD := Lib.hid (read_step w1.heap.size w1.heap.size c wd v st wr HR.out (by omega) (by have := HLN.out.1; omega) (fun s hs => by have := HLN.out.2 s hs; omega))
        have HSTEP : Hid (∀ st', readW x st = some st' → st'.1.length ≤ k + 1 ∧ ∀ s ∈ st'.1, s.as.length ≤ l.length + 1 + (k + 1)) := fun st' h => by
          have h1 := P.read_len h (m := l.length + 1 + k) HLN.out.2 (by rw [hcw]; simp; omega)
          have := HLN.out.1
          exact ⟨by omega, fun s hs => by have := h1.2 s hs; omega⟩
        rw [← hcw] at HRD
        have d0 : wr.cell? ⟨bk, off + k, none⟩ = some (.string (bs x)) := carry HBW.out c0
        have k0 : (0 : Int) ≤ (k : Int) := by omega
        have k1 : (k : Int) < (N : Int) := by omega
        generalize readW x st = RW at *
        clear hx hxf hcw hwl hkl c0 HR HLN
        go_wp2_with fail
        go_at_call 64
        refine HRD.out.mono ?_
        rintro e w5 ⟨ok, rfl, hb5, hs5⟩
        cases RW with
        | none =>
          obtain rfl : ok = false := hs5
          have HQ : Hid (PR = ([], 2)) := by
            have h1 := HE.out
            rw [HRS.out] at h1
            show _ = _
            rw [HPR2.out, ← h1]
            rfl
          have HF := Lib.hid (below_then HB.out (HBW.out.trans hb5))
          clear hb5 HRD HRS HE HPR2
          go_wp2
          go_ret2
          exact ⟨_, by rw [HQ.out] <;> rfl, by rw [HQ.out]; exact rds_nil _, HF.out⟩
        | some st' =>
          obtain ⟨rfl, v', hr'⟩ := hs5
          have HR' := Lib.hid hr'
          have HE' : Hid (readAll (ws.drop (k + 1)) st' = RA) := by show _ = _; rw [← HE.out, HRS.out]
          have HL' := Lib.hid (HSTEP.out st' rfl)
          have HF := Lib.hid (HBW.out.trans hb5)
          clear hb5 hr' HRD HRS HE HSTEP d0
          go_wp2_with fail
          go_roundg (N - (k + 1))
          case measure => omega
          case rel => exact ⟨k + 1, st', v', by omega, Nat.le_refl _, ⟨_, rfl⟩, by go_num, HE', HL', HR', HF⟩
      · have hkN : k = N := by omega
        subst hkN
        have k1 : decide ((k : Int) < (k : Int)) = false := decide_eq_false (by omega)
        have hRA : some st = RA := by
          have := HE.out
          rw [List.drop_eq_nil_of_le (by rw [HN.out]; exact Nat.le_refl _)] at this
          exact this
        have HQ : Hid (PR = if chk st.1 = 0 ∧ P.text st.1 = l then (st.1, 0) else ([], 2)) := by show _ = _; rw [HPR2.out, ← hRA]; rfl
        have hrd : RdS wr v st.1 := HR.out.row.rd (by have := HR.out.lo; omega)
        have HRD := Lib.hid hrd
        have HTX := Lib.hid (text_any st.1 v wr (tab_below HT.out (below_then HB.out HBW.out)) hrd)
        have b0 : wr.cell? ⟨w1.heap.size, 0, none⟩ = some v := HR.out.cells.1
        have HBZ := Lib.hid (below_then HB.out HBW.out)
        obtain ⟨vad, vcap, hvf⟩ := hrd.form
        obtain ⟨VL, hVL⟩ : ∃ VL, st.1.length = VL := ⟨_, rfl⟩
        rw [hVL] at hvf
        subst hvf
        clear hRA hrd HE HLN HR HPR2 HWF HC hVL
        obtain ⟨q, hq⟩ : ∃ q, chk st.1 = q := ⟨_, rfl⟩
        rw [hq] at HTX HQ
        by_cases hq0 : q = 0
        · subst hq0
          rw [if_pos rfl] at HTX
          obtain ⟨TX, hTX⟩ : ∃ TX, P.text st.1 = TX := ⟨_, rfl⟩
          rw [hTX] at HTX HQ
          by_cases htl : TX = l
          · have HQ2 : Hid (PR = (st.1, 0)) := by show _ = _; rw [HQ.out, if_pos ⟨rfl, htl⟩]
            have hse : bs TX = S := by rw [htl, HS.out]
            rw [hse] at HTX
            clear HQ htl hse hTX hq HS
            go_wp2_with fail
            go_at_call 31
            refine HTX.out.mono ?_
            rintro e w6 ⟨rfl, hb6⟩
            have HF := Lib.hid (below_then HBZ.out hb6)
            have b1 := carry hb6 b0
            have HRF := Lib.hid (HRD.out.below hb6)
            clear hb6 HTX
            go_wp2
            go_ret2
            exact ⟨_, by rw [HQ2.out] <;> rfl, by rw [HQ2.out]; exact HRF.out, HF.out⟩
          · have HQ2 : Hid (PR = ([], 2)) := by show _ = _; rw [HQ.out, if_neg (fun h => htl h.2)]
            have hse : bs TX ≠ S := fun h => htl (by
              have h1 := congrArg (fun x : ByteArray => x.data.toList) (h.trans HS.out.symm)
              simpa [bs] using h1)
            have hse2 : ((bs TX).toList == S.toList) = false := by
              rw [beq_eq_false_iff_ne, str_list, str_list]
              exact fun h => hse (ByteArray.ext (by simpa using h))
            clear HQ htl hTX hq HS hse
            go_wp2_with fail
            go_at_call 31
            refine HTX.out.mono ?_
            rintro e w6 ⟨rfl, hb6⟩
            have HF := Lib.hid (below_then HBZ.out hb6)
            have b1 := carry hb6 b0
            clear hb6 HTX
            go_wp2
            go_ret2
            exact ⟨_, by rw [HQ2.out] <;> rfl, by rw [HQ2.out]; exact rds_nil _, HF.out⟩
        · have e1 : (q != 0) = true := by simpa using hq0
          have HQ2 : Hid (PR = ([], 2)) := by show _ = _; rw [HQ.out, if_neg (fun h => hq0 h.1)]
          rw [if_neg hq0] at HTX
          clear HQ hq0 hq
          go_wp2_with fail
          go_at_call 31
          refine HTX.out.mono ?_
          rintro e w6 ⟨rfl, hb6⟩
          have HF := Lib.hid (below_then HBZ.out hb6)
          clear hb6 HTX
          go_wp2
          go_ret2
          exact ⟨_, by rw [HQ2.out] <;> rfl, by rw [HQ2.out]; exact rds_nil _, HF.out⟩
end Go.Proofs.YtiobfgcpbihbhaaGreatDoor
