/-
  The walk of the reference's ascending.
-/
import Derived.Test.YtaniiennfogjaaaDoorCmE
import Derived.Deep.DeepCutAuto
namespace Go.Proofs.YtaniiennfogjaaaDoor
open Go.RowKit T
set_option linter.unusedSimpArgs false
set_option linter.unusedVariables false
set_option maxHeartbeats 2000000
set_option maxRecDepth 100000

theorem ascending_any (l : List Nat) (v : Value) (w : World) (hr : Rd w v l) (hl : l.length ≤ 1000000) :
    Calls Tryd.prog 38 #[v] w fun e w' => ∃ v' s, e = .returned v' ∧ InsS w v' s w' ∧ IsSet l s := by
  obtain ⟨i0, hi, hz0, hz1, hz2⟩ := infoE_parts info27
  obtain ⟨ad, cap, rfl, ⟨h1, h1'⟩, h32, hc⟩ := hr
  have HC := Lib.hid hc
  obtain ⟨L, hL⟩ : ∃ L, l.length = L := ⟨_, rfl⟩
  rw [hL] at h1 hl ⊢
  have HL := Lib.hid hL
  have HS0 := Lib.hid (InsS.start w)
  have HI0 := Lib.hid (Sel.start l)
  clear hc hL h32
  go_enter Tryd.func38, Tryd.ntmps38
  go_wp2_with fail
  go_loopg [3, 4, 5, 7, 8, 9, 10, 11] (L + 1) (fun g s3 s4 s5 s7 s8 s9 s10 s11 wr => ∃ (o : List Nat), rem o l + 1 ≤ g ∧ (∃ q, q = s4) ∧ (∃ q, q = s5) ∧ (∃ q, q = s7) ∧ (∃ q, q = s8) ∧ (∃ q, q = s9) ∧ (∃ q, q = s10) ∧ (∃ q, q = s11) ∧ Hid (InsS w s3 o wr) ∧ Hid (Sel o l))
  case atStart => exact ⟨[], by have := rem_le [] l; have := HL.out; omega, ⟨_, rfl⟩, ⟨_, rfl⟩, ⟨_, rfl⟩, ⟨_, rfl⟩, ⟨_, rfl⟩, ⟨_, rfl⟩, ⟨_, rfl⟩, HS0, HI0⟩
  case round =>
    clear HS0 HI0
    obtain ⟨o, hg, ⟨u4, rfl⟩, ⟨u5, rfl⟩, ⟨u7, rfl⟩, ⟨u8, rfl⟩, ⟨u9, rfl⟩, ⟨u10, rfl⟩, ⟨u11, rfl⟩, HS, HI⟩ := hrel
    obtain ⟨W, hW⟩ : ∃ W, W = wr := ⟨_, rfl⟩
    rw [← hW] at HS ⊢
    clear hW
    have hol : o.length ≤ L := by rw [← HL.out]; exact asc_len HI.out.1 HI.out.2.1
    have HM0 := Lib.hid (MinC.start o l)
    have HCW : Hid (∀ (k x : Nat), l[k]? = some x → ∃ b off, ad = some ⟨b, off, none⟩ ∧ W.cell? ⟨b, off + k, none⟩ = some (.int .u32 (x : Int))) := fun k x hk => by
      obtain ⟨b, off, e, hlt, hcell⟩ := HC.out k x hk
      exact ⟨b, off, e, (HS.out.2.cell (p := ⟨b, off + k, none⟩) hlt).trans hcell⟩
    obtain ⟨oad, ocap, rfl, hoc, hog⟩ := HS.out.1.slice
    obtain ⟨n, hn⟩ : ∃ n, o.length = n := ⟨_, rfl⟩
    have HN := Lib.hid hn
    rw [hn] at hol hoc HS ⊢
    by_cases ho : o = []
    · have hn0 : n = 0 := by rw [← hn, ho]; rfl
      subst hn0
      have HCD : Hid (∀ x, Cand o x) := fun x => by rw [ho]; exact cand_nil x
      clear ho hn hog
      go_wp2_with fail
      go_loop [4, 5, 7, 10] (fun s4 s5 s7 s10 => ∃ (k : Nat) (f : Bool) (b : Nat), k ≤ L ∧ s4 = .bool f ∧ s5 = .int .u32 (b : Int) ∧ (∃ q, q = s7) ∧ s10 = .int .i64 (k : Int) ∧ Hid (MinC o l k f b)) (fun _ _ _ s10 => L - (intOf s10).toNat)
      case atStart => exact ⟨0, false, 0, by omega, rfl, rfl, ⟨_, rfl⟩, rfl, HM0⟩
      case round =>
        clear HM0
        obtain ⟨k, f, b, hk, rfl, rfl, ⟨v7, rfl⟩, rfl, HM⟩ := hrel
        by_cases hlt : k < L
        · obtain ⟨x, hx⟩ : ∃ x, l[k]? = some x := ⟨_, List.getElem?_eq_getElem (by rw [HL.out]; exact hlt)⟩
          obtain ⟨xb, xo, rfl, cx⟩ := HCW.out k x hx
          have HX := Lib.hid hx
          have k0 : (0 : Int) ≤ (k : Int) := by omega
          have k1 : (k : Int) < (L : Int) := by omega
          clear hx
          cases f with
          | false =>
            have HN2 := Lib.hid (HM.out.take HX.out (HCD.out x) (.inl rfl))
            clear HM HX
            go_wp2_with fail
            go_round
            case measure => simp [intOf]; omega
            case rel => exact ⟨k + 1, true, x, by omega, rfl, rfl, ⟨_, rfl⟩, by go_num, HN2⟩
          | true =>
            by_cases hxb : x < b
            · have g1 : decide (x < b) = true := decide_eq_true hxb
              have HN2 := Lib.hid (HM.out.take HX.out (HCD.out x) (.inr hxb))
              clear HM HX
              go_wp2_with fail
              go_round
              case measure => simp [intOf]; omega
              case rel => exact ⟨k + 1, true, x, by omega, rfl, rfl, ⟨_, rfl⟩, by go_num, HN2⟩
            · have g1 : decide (x < b) = false := decide_eq_false hxb
              have HN2 := Lib.hid (HM.out.skip HX.out (.inr ⟨rfl, by omega⟩))
              clear HM HX
              go_wp2_with fail
              go_round
              case measure => simp [intOf]; omega
              case rel => exact ⟨k + 1, true, b, by omega, rfl, rfl, ⟨_, rfl⟩, by go_num, HN2⟩
        · have k1 : decide ((k : Int) < (L : Int)) = false := decide_eq_false (by omega)
          have hkl : k = L := by omega
          subst hkl
          have HM2 : Hid (MinC o l l.length f b) := by unfold Hid; rw [HL.out]; exact HM.out
          clear HM
          cases f with
          | false =>
            have HF := Lib.hid (HI.out.done HM2.out)
            go_wp2_with fail
            go_ret
            exact ⟨_, rfl, _, HS.out, HF.out⟩
          | true =>
            have HF := Lib.hid (HI.out.step HM2.out)
            have hlen : o.length ≤ 1000000 := by have := HN.out; omega
            go_upto_region 13 with fail
            generalize hvv : Value.slice oad 0 ocap = vo at *
            clear hvv
            go_wp2_with (at_builtin; refine wpList_append_own _ rfl (.tmp 41) (.tmp 43) 22 rfl w.heap.size 27 i0 (.int .u32 0) 1 4 Tryd.underlying22 hi hz0 hz1 hz2 rfl (by decide) vo o.length (adV o) rfl (own_below HS.out.1.2 (below_alloc _ _)) ⟨W.heap.size, 0, none⟩ 1 1 [.int .u32 (b : Int)] rfl rfl (cellU_new _ _ _ rfl) (one_u32 _) (by unfold maxLen; omega) (by omega) (by have := HS.out.2.size; simp; omega) ?_; intro v1 w4 hown hgrow hnil; have S2 := Lib.hid (HS.out.push b _ hown hgrow); clear hown hgrow hnil)
            go_roundg (rem (o ++ [b]) l + 1)
            case measure => have := HF.out.2; omega
            case rel => exact ⟨o ++ [b], Nat.le_refl _, ⟨_, rfl⟩, ⟨_, rfl⟩, ⟨_, rfl⟩, ⟨_, rfl⟩, ⟨_, rfl⟩, ⟨_, rfl⟩, ⟨_, rfl⟩, S2, HF.out.1⟩
    · obtain ⟨o', z, hoz⟩ : ∃ o' z, o = o' ++ [z] := ⟨o.dropLast, o.getLast ho, (List.dropLast_concat_getLast ho).symm⟩
      obtain ⟨m, hm⟩ : ∃ m, n = m + 1 := ⟨o'.length, by rw [← hn, hoz]; simp⟩
      subst hm
      have hzm : o[m]? = some z := by
        have e : o'.length = m := by rw [hoz] at hn; simpa using hn
        rw [hoz, ← e]; simp
      obtain ⟨og, rfl⟩ := hog m z hzm
      have cz := HS.out.1.cell hzm HN.out.symm
      have HCD : Hid (∀ x, Cand o x ↔ z < x) := fun x => by
        have ha := HI.out.1
        rw [hoz] at ha ⊢
        exact cand_snoc ha
      have m0 : (0 : Int) ≤ (m : Int) := by omega
      have m1 : (m : Int) < ((m + 1 : Nat) : Int) := by omega
      have m2 : (m : Int) < (m : Int) + 1 := by omega
      have m3 : IntKind.i64.wrap (m : Int) = (m : Int) := IntWalk.i64_in _ (by constructor <;> omega)
      have m4 : ((m : Int) + 1 == 0) = false := by simp; omega
      have m5 : (((m + 1 : Nat) : Int) == 0) = false := by simp; omega
      clear ho hn hog hoz hzm
      go_wp2_with fail
      go_loop [4, 5, 7, 10] (fun s4 s5 s7 s10 => ∃ (k : Nat) (f : Bool) (b : Nat), k ≤ L ∧ s4 = .bool f ∧ s5 = .int .u32 (b : Int) ∧ (∃ q, q = s7) ∧ s10 = .int .i64 (k : Int) ∧ Hid (MinC o l k f b)) (fun _ _ _ s10 => L - (intOf s10).toNat)
      case atStart => exact ⟨0, false, 0, by omega, rfl, rfl, ⟨_, rfl⟩, rfl, HM0⟩
      case round =>
        clear HM0
        obtain ⟨k, f, b, hk, rfl, rfl, ⟨v7, rfl⟩, rfl, HM⟩ := hrel
        by_cases hlt : k < L
        · obtain ⟨x, hx⟩ : ∃ x, l[k]? = some x := ⟨_, List.getElem?_eq_getElem (by rw [HL.out]; exact hlt)⟩
          obtain ⟨xb, xo, rfl, cx⟩ := HCW.out k x hx
          have HX := Lib.hid hx
          have k0 : (0 : Int) ≤ (k : Int) := by omega
          have k1 : (k : Int) < (L : Int) := by omega
          clear hx
          by_cases hzx : z < x
          · have g0 : decide (z < x) = true := decide_eq_true hzx
            cases f with
            | false =>
              have HN2 := Lib.hid (HM.out.take HX.out ((HCD.out x).2 hzx) (.inl rfl))
              clear HM HX
              go_wp2_with fail
              go_round
              case measure => simp [intOf]; omega
              case rel => exact ⟨k + 1, true, x, by omega, rfl, rfl, ⟨_, rfl⟩, by go_num, HN2⟩
            | true =>
              by_cases hxb : x < b
              · have g1 : decide (x < b) = true := decide_eq_true hxb
                have HN2 := Lib.hid (HM.out.take HX.out ((HCD.out x).2 hzx) (.inr hxb))
                clear HM HX
                go_wp2_with fail
                go_round
                case measure => simp [intOf]; omega
                case rel => exact ⟨k + 1, true, x, by omega, rfl, rfl, ⟨_, rfl⟩, by go_num, HN2⟩
              · have g1 : decide (x < b) = false := decide_eq_false hxb
                have HN2 := Lib.hid (HM.out.skip HX.out (.inr ⟨rfl, by omega⟩))
                clear HM HX
                go_wp2_with fail
                go_round
                case measure => simp [intOf]; omega
                case rel => exact ⟨k + 1, true, b, by omega, rfl, rfl, ⟨_, rfl⟩, by go_num, HN2⟩
          · have g0 : decide (z < x) = false := decide_eq_false hzx
            have HN2 := Lib.hid (HM.out.skip HX.out (.inl fun h => hzx ((HCD.out x).1 h)))
            clear HM HX
            go_wp2_with fail
            go_round
            case measure => simp [intOf]; omega
            case rel => exact ⟨k + 1, f, b, by omega, rfl, rfl, ⟨_, rfl⟩, by go_num, HN2⟩
        · have k1 : decide ((k : Int) < (L : Int)) = false := decide_eq_false (by omega)
          have hkl : k = L := by omega
          subst hkl
          have HM2 : Hid (MinC o l l.length f b) := by unfold Hid; rw [HL.out]; exact HM.out
          clear HM
          cases f with
          | false =>
            have HF := Lib.hid (HI.out.done HM2.out)
            go_wp2_with fail
            go_ret
            exact ⟨_, rfl, _, HS.out, HF.out⟩
          | true =>
            have HF := Lib.hid (HI.out.step HM2.out)
            have hlen : o.length ≤ 1000000 := by have := HN.out; omega
            go_upto_region 13 with fail
            generalize hvv : Value.slice (some ⟨og, 0, none⟩) (m + 1) ocap = vo at *
            clear hvv
            go_wp2_with (at_builtin; refine wpList_append_own _ rfl (.tmp 41) (.tmp 43) 22 rfl w.heap.size 27 i0 (.int .u32 0) 1 4 Tryd.underlying22 hi hz0 hz1 hz2 rfl (by decide) vo o.length (adV o) rfl (own_below HS.out.1.2 (below_alloc _ _)) ⟨W.heap.size, 0, none⟩ 1 1 [.int .u32 (b : Int)] rfl rfl (cellU_new _ _ _ rfl) (one_u32 _) (by unfold maxLen; omega) (by omega) (by have := HS.out.2.size; simp; omega) ?_; intro v1 w4 hown hgrow hnil; have S2 := Lib.hid (HS.out.push b _ hown hgrow); clear hown hgrow hnil)
            go_roundg (rem (o ++ [b]) l + 1)
            case measure => have := HF.out.2; omega
            case rel => exact ⟨o ++ [b], Nat.le_refl _, ⟨_, rfl⟩, ⟨_, rfl⟩, ⟨_, rfl⟩, ⟨_, rfl⟩, ⟨_, rfl⟩, ⟨_, rfl⟩, ⟨_, rfl⟩, S2, HF.out.1⟩
end Go.Proofs.YtaniiennfogjaaaDoor
