/-
  The walk of settle: up, then down.
-/
import Derived.Test.YtmlpbhankgojpaaHpA
namespace Go.Proofs.Ytmlpbhankgojpaa
open Go.RowKit HM
set_option linter.unusedSimpArgs false
set_option linter.unusedVariables false
set_option maxHeartbeats 4000000
set_option maxRecDepth 100000

/-- what settle keeps from round to round -/
structure St (w : World) (hb I ci P K n L : Nat) (pl keys : List Int) (W : World) (its' : List Nat) (pl' : List Int) : Prop where
  len : its'.length = L
  hs : HS W hb (.slice (some ⟨I, 0, none⟩) L ci) P K n its' pl' keys
  wf : WF n its' pl'
  nn : ∀ x, x < n → (0 ≤ gI pl' x ↔ 0 ≤ gI pl x)
  kp : Kp [I, P] w W
theorem St.drewN {w : World} {hb I ci P K n L : Nat} {pl keys : List Int} {W : World} {its' : List Nat} {pl' : List Int} (h : St w hb I ci P K n L pl keys W its' pl') (q : Nat) : St w hb I ci P K n L pl keys (W.drewN q) its' pl' :=
  ⟨h.len, h.hs.drewN q, h.wf, h.nn, h.kp.drewN q⟩
theorem St.swap {w : World} {hb I ci P K n L : Nat} {pl keys : List Int} {W : World} {its' : List Nat} {pl' : List Int} (h : St w hb I ci P K n L pl keys W its' pl') (hn : n ≤ 65536) {a b : Nat} (ha : a < L) (hb' : b < L) :
    Calls Try.prog 76 #[.pointer (some ⟨hb, 0, none⟩), .int .i64 (a : Int), .int .i64 (b : Int)] W fun e w' => e = .returned (.tuple #[]) ∧ St w hb I ci P K n L pl keys w' (swapI its' a b) (swapP pl' (swapI its' a b) a b) := by
  obtain ⟨h1, h2, h3, h4, h5⟩ := h
  subst h1
  refine (swap_any W hb I ci P K n its' pl' keys h2 h3 hn a b ha hb').mono ?_
  rintro e w' ⟨rfl, k1, k2⟩
  have hs := h3.swap ha hb'
  exact ⟨rfl, swapI_len _ _ _, k1, hs.1, fun x hx => (hs.2 x hx).trans (h4 x hx), h5.trans k2 (fun g hg => .inl hg)⟩
theorem St.before {w : World} {hb I ci P K n L : Nat} {pl keys : List Int} {W : World} {its' : List Nat} {pl' : List Int} (h : St w hb I ci P K n L pl keys W its' pl') (hn : n ≤ 65536) {a b : Nat} (ha : a < L) (hb' : b < L) (q : Nat) :
    Calls Try.prog 60 #[.pointer (some ⟨hb, 0, none⟩), .int .i64 (gN its' a : Int), .int .i64 (gN its' b : Int)] (W.drewN q) fun e w' => e = .returned (.bool (ltB keys (gN its' a) (gN its' b))) ∧ ∃ q', w' = (W.drewN q).drewN q' :=
  before_any _ hb _ P K n its' pl' keys (h.hs.drewN q) hn _ _ (h.wf.at' a (by have := h.len; omega)).1 (h.wf.at' b (by have := h.len; omega)).1
theorem kids {c q : Nat} (h0 : 0 < q) (h : par q = c) : q = 2 * c + 1 ∨ q = 2 * c + 2 := by unfold par at h; omega
theorem par_kid (c : Nat) : par (2 * c + 1) = c ∧ par (2 * c + 2) = c := by unfold par; omega
/-- the least of c and of its kids before k -/
structure Fst (keys : List Int) (its : List Nat) (c k f : Nat) : Prop where
  fl : f < its.length
  fk : f = c ∨ (0 < f ∧ par f = c ∧ lt (gI keys) (gN its f) (gN its c))
  all : ∀ q, 0 < q → q < its.length → par q = c → q < k → ¬ lt (gI keys) (gN its q) (gN its f)
theorem fst_start {keys : List Int} {its : List Nat} {c : Nat} (h : c < its.length) : Fst keys its c (2 * c + 1) c := ⟨h, .inl rfl, fun q h0 _ h2 h3 => by have := kids h0 h2; omega⟩
theorem Fst.less {keys : List Int} {its : List Nat} {c k f : Nat} (h : Fst keys its c k f) (hk : k < its.length) (h1 : 2 * c + 1 ≤ k) (h2 : k ≤ 2 * c + 2) (hl : lt (gI keys) (gN its k) (gN its f)) : Fst keys its c (k + 1) k := by
  refine ⟨hk, .inr ⟨by omega, by unfold par; omega, ?_⟩, fun q h0 hq hp hqk => ?_⟩
  · rcases h.fk with rfl | h3
    · exact hl
    · have := h3.2.2
      revert hl this; unfold lt; omega
  · by_cases e : q = k
    · subst e; exact lt_irr
    · exact nlt_of_lt_nlt (h.all q h0 hq hp (by omega)) hl
theorem Fst.more {keys : List Int} {its : List Nat} {c k f : Nat} (h : Fst keys its c k f) (hl : ¬ lt (gI keys) (gN its k) (gN its f)) : Fst keys its c (k + 1) f :=
  ⟨h.fl, h.fk, fun q h0 hq hp hqk => by
    by_cases e : q = k
    · subst e; exact hl
    · exact h.all q h0 hq hp (by omega)⟩
theorem Fst.end {keys : List Int} {its : List Nat} {c k f : Nat} (h : Fst keys its c k f) (hk : 2 * c + 2 < k ∨ its.length ≤ k) : ∀ q, 0 < q → q < its.length → par q = c → ¬ lt (gI keys) (gN its q) (gN its f) := fun q h0 hq hp =>
  h.all q h0 hq hp (by have := kids h0 hp; omega)

/-- what settle leaves -/
def SetP (w : World) (hb I ci P K n L : Nat) (pl keys : List Int) (w' : World) : Prop := ∃ its' pl', St w hb I ci P K n L pl keys w' its' pl' ∧ OK (gI keys) its'
theorem SetP.mk {w : World} {hb I ci P K n L : Nat} {pl keys : List Int} {w' : World} {its' : List Nat} {pl' : List Int} (h : St w hb I ci P K n L pl keys w' its' pl') (k : OK (gI keys) its') : SetP w hb I ci P K n L pl keys w' := ⟨_, _, h, k⟩
set_option maxHeartbeats 8000000 in
theorem settle_any (w : World) (hb I ci P K n L : Nat) (its : List Nat) (pl keys : List Int) (h : St w hb I ci P K n L pl keys w its pl) (hn : n ≤ 65536) (c : Nat) (hc : c < L) (hu : Up (gI keys) its c) :
    Calls Try.prog 70 #[.pointer (some ⟨hb, 0, none⟩), .int .i64 (c : Int), .func (.func 60) #[.pointer (some ⟨hb, 0, none⟩)] #[]] w fun e w' => e = .returned (.tuple #[]) ∧ SetP w hb I ci P K n L pl keys w' := by
  have hLn : L ≤ n := by have := h.wf.le; have := h.len; omega
  have H0 : Hid (St w hb I ci P K n L pl keys w its pl ∧ Up (gI keys) its c) := ⟨h, hu⟩
  clear h hu
  go_enter Try.func70, Try.ntmps70
  go_wp2_with fail
  go_loopg [1, 6] c (fun g s1 s6 wr => ∃ (c : Nat) (its' : List Nat) (pl' : List Int), c < L ∧ c ≤ g ∧ s1 = .int .i64 (c : Int) ∧ (∃ v, v = s6) ∧ Hid (St w hb I ci P K n L pl keys wr its' pl' ∧ Up (gI keys) its' c))
  case atStart => exact ⟨c, its, pl, hc, Nat.le_refl _, rfl, ⟨_, rfl⟩, H0⟩
  case round =>
    clear H0 hc
    obtain ⟨c, its', pl', hcl, hcg, rfl, ⟨v6, rfl⟩, HR⟩ := hrel
    have hlen := HR.out.1.len
    by_cases h0 : c = 0
    · have HD : Hid (St w hb I ci P K n L pl keys wr its' pl' ∧ Down (gI keys) its' c) := ⟨HR.out.1, up_stop HR.out.2 (.inl h0)⟩
      clear HR hlen
      have h0' : ¬ 0 < c := by omega
      clear h0
      go_wp2_with fail
      go_loopg [1, 7, 8] (L - c) (fun g s1 s7 s8 wr => ∃ (c : Nat) (its' : List Nat) (pl' : List Int), c < L ∧ L - c ≤ g ∧ s1 = .int .i64 (c : Int) ∧ (∃ v, v = s7) ∧ (∃ v, v = s8) ∧ Hid (St w hb I ci P K n L pl keys wr its' pl' ∧ Down (gI keys) its' c))
      case atStart => exact ⟨c, its', pl', hcl, Nat.le_refl _, rfl, ⟨_, rfl⟩, ⟨_, rfl⟩, HD⟩
      case round =>
        clear HD
        rename_i cOld itsOld plOld
        obtain ⟨c, its', pl', hcl, hcg, rfl, ⟨v7, rfl⟩, ⟨v8, rfl⟩, HR⟩ := hrel
        have HD : Hid (Down (gI keys) its' c) := HR.out.2
        have HF : Hid (St w hb I ci P K n L pl keys wr its' pl' ∧ Fst keys its' c (2 * c + 1) c) := ⟨HR.out.1, fst_start (by have := HR.out.1.len; omega)⟩
        clear HR
        go_wp2_with fail
        go_loopg [7, 8] 2 (fun g s7 s8 wr => ∃ (f k : Nat), f < L ∧ 2 * c + 1 ≤ k ∧ k ≤ 2 * c + 3 ∧ 2 * c + 3 - k ≤ g ∧ s7 = .int .i64 (f : Int) ∧ s8 = .int .i64 (k : Int) ∧ Hid (St w hb I ci P K n L pl keys wr its' pl' ∧ Fst keys its' c k f))
        case atStart => exact ⟨c, 2 * c + 1, hcl, by omega, by omega, by omega, rfl, by go_num, HF⟩
        case round =>
          clear HF
          obtain ⟨f, k, hfl, hk1, hk2, hkg, rfl, rfl, HF⟩ := hrel
          have hlen := HF.out.1.len
          have f0 := HF.out.1.hs.f0
          by_cases hk3 : k ≤ 2 * c + 2
          · have hk3' : (k : Int) ≤ 2 * (c : Int) + 2 := by omega
            by_cases hkl : k < L
            · have cA := HF.out.1.hs.cellI hlen hkl
              have cB := HF.out.1.hs.cellI hlen hfl
              have HB := Lib.hid (HF.out.1.before hn hkl hfl)
              have i0 : (0 : Int) ≤ (k : Int) := by omega
              have i1 : (k : Int) < (L : Int) := by omega
              have i2 : (0 : Int) ≤ (f : Int) := by omega
              have i3 : (f : Int) < (L : Int) := by omega
              generalize hx : gN its' k = x at *
              generalize hy : gN its' f = y at *
              have HX := Lib.hid (And.intro hx hy)
              clear hx hy hlen
              cases hlt : ltB keys x y
              · have hT := Lib.hid hlt
                rw [hlt] at HB
                clear hlt
                go_wp2_with fail
                go_quiet ((go_at_call 60; exact Calls.quiet_of (HB.out _)))
                go_wp2_with fail
                go_roundg (2 * c + 3 - (k + 1))
                case measure => omega
                case rel => exact ⟨f, k + 1, hfl, by omega, by omega, Nat.le_refl _, rfl, by go_num, HF.out.1.drewN _, HF.out.2.more (by rw [HX.out.1, HX.out.2]; exact ltB_false.1 hT.out)⟩
              · have hT := Lib.hid hlt
                rw [hlt] at HB
                clear hlt
                go_wp2_with fail
                go_quiet ((go_at_call 60; exact Calls.quiet_of (HB.out _)))
                go_wp2_with fail
                go_roundg (2 * c + 3 - (k + 1))
                case measure => omega
                case rel => exact ⟨k, k + 1, hkl, by omega, by omega, Nat.le_refl _, rfl, by go_num, HF.out.1.drewN _, HF.out.2.less (by have := HF.out.1.len; omega) hk1 hk3 (by rw [HX.out.1, HX.out.2]; exact ltB_true.1 hT.out)⟩
            · have hkl' : decide (k < L) = false := decide_eq_false hkl
              clear hlen
              have HE : Hid (∀ q, 0 < q → q < its'.length → par q = c → ¬ lt (gI keys) (gN its' q) (gN its' f)) := HF.out.2.end (by have := HF.out.1.len; omega)
              by_cases hfc : f = c
              · subst hfc
                have HO : Hid (OK (gI keys) its') := down_stop HD.out HE.out
                go_wp2
                refine bodyPost_ret (results_none rfl _ _ _) rfl ?_
                exact ⟨rfl, SetP.mk HF.out.1 HO.out⟩
              · have hf1 : ¬ (f : Int) = (c : Int) := by omega
                have hf2 : ((f : Int) == (c : Int)) = false := by simpa using hf1
                have HS1 := Lib.hid (HF.out.1.swap hn hcl hfl)
                have HN : Hid (Down (gI keys) (swapI its' c f) f) := by
                  have h1 := HF.out.2.fk
                  rcases h1 with h1 | ⟨h1, h2, h3⟩
                  · exact absurd h1 hfc
                  · exact down_step HD.out h1 HF.out.2.fl h2 h3 HE.out
                have hcf : c < f := by
                  have h1 := HF.out.2.fk
                  rcases h1 with h1 | ⟨h1, h2, h3⟩
                  · exact absurd h1 hfc
                  · have := par_lt h1; omega
                go_wp2_with fail
                go_at_call 76
                refine HS1.out.mono ?_
                rintro e w2 ⟨rfl, h2⟩
                have H2 := Lib.hid h2
                clear h2 HS1
                go_wp2_with fail
                go_roundg (L - f)
                case measure => omega
                case rel => exact ⟨f, _, _, hfl, Nat.le_refl _, rfl, ⟨_, rfl⟩, ⟨_, rfl⟩, H2.out, HN.out⟩
          · have hk3' : ¬ (k : Int) ≤ 2 * (c : Int) + 2 := by omega
            have hk4 : decide ((k : Int) ≤ 2 * (c : Int) + 2) = false := decide_eq_false hk3'
            clear hlen
            have HE : Hid (∀ q, 0 < q → q < its'.length → par q = c → ¬ lt (gI keys) (gN its' q) (gN its' f)) := HF.out.2.end (by have := HF.out.1.len; omega)
            by_cases hfc : f = c
            · subst hfc
              have HO : Hid (OK (gI keys) its') := down_stop HD.out HE.out
              go_wp2
              refine bodyPost_ret (results_none rfl _ _ _) rfl ?_
              exact ⟨rfl, SetP.mk HF.out.1 HO.out⟩
            · have hf1 : ¬ (f : Int) = (c : Int) := by omega
              have hf2 : ((f : Int) == (c : Int)) = false := by simpa using hf1
              have HS1 := Lib.hid (HF.out.1.swap hn hcl hfl)
              have HN : Hid (Down (gI keys) (swapI its' c f) f) := by
                have h1 := HF.out.2.fk
                rcases h1 with h1 | ⟨h1, h2, h3⟩
                · exact absurd h1 hfc
                · exact down_step HD.out h1 HF.out.2.fl h2 h3 HE.out
              have hcf : c < f := by
                have h1 := HF.out.2.fk
                rcases h1 with h1 | ⟨h1, h2, h3⟩
                · exact absurd h1 hfc
                · have := par_lt h1; omega
              go_wp2_with fail
              go_at_call 76
              refine HS1.out.mono ?_
              rintro e w2 ⟨rfl, h2⟩
              have H2 := Lib.hid h2
              clear h2 HS1
              go_wp2_with fail
              go_roundg (L - f)
              case measure => omega
              case rel => exact ⟨f, _, _, hfl, Nat.le_refl _, rfl, ⟨_, rfl⟩, ⟨_, rfl⟩, H2.out, HN.out⟩
    · have hp := par_lt (show 0 < c by omega)
      have f0 := HR.out.1.hs.f0
      have cA := HR.out.1.hs.cellI hlen hcl
      have cB := HR.out.1.hs.cellI hlen (show par c < L by omega)
      have ep : ((c : Int) - 1) / 2 = (par c : Int) := by unfold par; omega
      have hB := HR.out.1.before hn hcl (show par c < L by omega)
      have HB := Lib.hid hB
      clear hB
      generalize hpar : par c = pc at *
      have HPc := Lib.hid hpar
      clear hpar
      have i0 : (0 : Int) ≤ (c : Int) := by omega
      have i1 : (c : Int) < (L : Int) := by omega
      have i2 : (0 : Int) ≤ (pc : Int) := by omega
      have i3 : (pc : Int) < (L : Int) := by omega
      generalize hx : gN its' c = x at *
      generalize hy : gN its' pc = y at *
      have HX := Lib.hid (And.intro hx hy)
      clear hx hy hlen
      cases hlt : ltB keys x y
      · have HT := Lib.hid hlt
        rw [hlt] at HB
        clear hlt
        go_wp2_with fail
        simp only [ep]
        clear ep
        go_quiet ((go_at_call 60; exact Calls.quiet_of (HB.out _)))
        have HD : Hid (St w hb I ci P K n L pl keys (wr.drewN nq) its' pl' ∧ Down (gI keys) its' c) := ⟨HR.out.1.drewN nq, up_stop HR.out.2 (.inr (by rw [HPc.out, HX.out.1, HX.out.2]; exact ltB_false.1 HT.out))⟩
        clear HR HB f0 cA cB i0 i1 i2 i3 HX HT HPc
        go_wp2_with fail
        simp only [show decide (0 < c) = true from decide_eq_true (by omega)]
        go_loopg [1, 7, 8] (L - c) (fun g s1 s7 s8 wr => ∃ (c : Nat) (its' : List Nat) (pl' : List Int), c < L ∧ L - c ≤ g ∧ s1 = .int .i64 (c : Int) ∧ (∃ v, v = s7) ∧ (∃ v, v = s8) ∧ Hid (St w hb I ci P K n L pl keys wr its' pl' ∧ Down (gI keys) its' c))
        case atStart => exact ⟨c, its', pl', hcl, Nat.le_refl _, rfl, ⟨_, rfl⟩, ⟨_, rfl⟩, HD⟩
        case round =>
          clear HD
          rename_i cOld itsOld plOld
          obtain ⟨c, its', pl', hcl, hcg, rfl, ⟨v7, rfl⟩, ⟨v8, rfl⟩, HR⟩ := hrel
          have HD : Hid (Down (gI keys) its' c) := HR.out.2
          have HF : Hid (St w hb I ci P K n L pl keys wr its' pl' ∧ Fst keys its' c (2 * c + 1) c) := ⟨HR.out.1, fst_start (by have := HR.out.1.len; omega)⟩
          clear HR
          go_wp2_with fail
          go_loopg [7, 8] 2 (fun g s7 s8 wr => ∃ (f k : Nat), f < L ∧ 2 * c + 1 ≤ k ∧ k ≤ 2 * c + 3 ∧ 2 * c + 3 - k ≤ g ∧ s7 = .int .i64 (f : Int) ∧ s8 = .int .i64 (k : Int) ∧ Hid (St w hb I ci P K n L pl keys wr its' pl' ∧ Fst keys its' c k f))
          case atStart => exact ⟨c, 2 * c + 1, hcl, by omega, by omega, by omega, rfl, by go_num, HF⟩
          case round =>
            clear HF
            obtain ⟨f, k, hfl, hk1, hk2, hkg, rfl, rfl, HF⟩ := hrel
            have hlen := HF.out.1.len
            have f0 := HF.out.1.hs.f0
            by_cases hk3 : k ≤ 2 * c + 2
            · have hk3' : (k : Int) ≤ 2 * (c : Int) + 2 := by omega
              by_cases hkl : k < L
              · have cA := HF.out.1.hs.cellI hlen hkl
                have cB := HF.out.1.hs.cellI hlen hfl
                have HB := Lib.hid (HF.out.1.before hn hkl hfl)
                have i0 : (0 : Int) ≤ (k : Int) := by omega
                have i1 : (k : Int) < (L : Int) := by omega
                have i2 : (0 : Int) ≤ (f : Int) := by omega
                have i3 : (f : Int) < (L : Int) := by omega
                generalize hx : gN its' k = x at *
                generalize hy : gN its' f = y at *
                have HX := Lib.hid (And.intro hx hy)
                clear hx hy hlen
                cases hlt : ltB keys x y
                · have hT := Lib.hid hlt
                  rw [hlt] at HB
                  clear hlt
                  go_wp2_with fail
                  go_quiet ((go_at_call 60; exact Calls.quiet_of (HB.out _)))
                  go_wp2_with fail
                  go_roundg (2 * c + 3 - (k + 1))
                  case measure => omega
                  case rel => exact ⟨f, k + 1, hfl, by omega, by omega, Nat.le_refl _, rfl, by go_num, HF.out.1.drewN _, HF.out.2.more (by rw [HX.out.1, HX.out.2]; exact ltB_false.1 hT.out)⟩
                · have hT := Lib.hid hlt
                  rw [hlt] at HB
                  clear hlt
                  go_wp2_with fail
                  go_quiet ((go_at_call 60; exact Calls.quiet_of (HB.out _)))
                  go_wp2_with fail
                  go_roundg (2 * c + 3 - (k + 1))
                  case measure => omega
                  case rel => exact ⟨k, k + 1, hkl, by omega, by omega, Nat.le_refl _, rfl, by go_num, HF.out.1.drewN _, HF.out.2.less (by have := HF.out.1.len; omega) hk1 hk3 (by rw [HX.out.1, HX.out.2]; exact ltB_true.1 hT.out)⟩
              · have hkl' : decide (k < L) = false := decide_eq_false hkl
                clear hlen
                have HE : Hid (∀ q, 0 < q → q < its'.length → par q = c → ¬ lt (gI keys) (gN its' q) (gN its' f)) := HF.out.2.end (by have := HF.out.1.len; omega)
                by_cases hfc : f = c
                · subst hfc
                  have HO : Hid (OK (gI keys) its') := down_stop HD.out HE.out
                  go_wp2
                  refine bodyPost_ret (results_none rfl _ _ _) rfl ?_
                  exact ⟨rfl, SetP.mk HF.out.1 HO.out⟩
                · have hf1 : ¬ (f : Int) = (c : Int) := by omega
                  have hf2 : ((f : Int) == (c : Int)) = false := by simpa using hf1
                  have HS1 := Lib.hid (HF.out.1.swap hn hcl hfl)
                  have HN : Hid (Down (gI keys) (swapI its' c f) f) := by
                    have h1 := HF.out.2.fk
                    rcases h1 with h1 | ⟨h1, h2, h3⟩
                    · exact absurd h1 hfc
                    · exact down_step HD.out h1 HF.out.2.fl h2 h3 HE.out
                  have hcf : c < f := by
                    have h1 := HF.out.2.fk
                    rcases h1 with h1 | ⟨h1, h2, h3⟩
                    · exact absurd h1 hfc
                    · have := par_lt h1; omega
                  go_wp2_with fail
                  go_at_call 76
                  refine HS1.out.mono ?_
                  rintro e w2 ⟨rfl, h2⟩
                  have H2 := Lib.hid h2
                  clear h2 HS1
                  go_wp2_with fail
                  go_roundg (L - f)
                  case measure => omega
                  case rel => exact ⟨f, _, _, hfl, Nat.le_refl _, rfl, ⟨_, rfl⟩, ⟨_, rfl⟩, H2.out, HN.out⟩
            · have hk3' : ¬ (k : Int) ≤ 2 * (c : Int) + 2 := by omega
              have hk4 : decide ((k : Int) ≤ 2 * (c : Int) + 2) = false := decide_eq_false hk3'
              clear hlen
              have HE : Hid (∀ q, 0 < q → q < its'.length → par q = c → ¬ lt (gI keys) (gN its' q) (gN its' f)) := HF.out.2.end (by have := HF.out.1.len; omega)
              by_cases hfc : f = c
              · subst hfc
                have HO : Hid (OK (gI keys) its') := down_stop HD.out HE.out
                go_wp2
                refine bodyPost_ret (results_none rfl _ _ _) rfl ?_
                exact ⟨rfl, SetP.mk HF.out.1 HO.out⟩
              · have hf1 : ¬ (f : Int) = (c : Int) := by omega
                have hf2 : ((f : Int) == (c : Int)) = false := by simpa using hf1
                have HS1 := Lib.hid (HF.out.1.swap hn hcl hfl)
                have HN : Hid (Down (gI keys) (swapI its' c f) f) := by
                  have h1 := HF.out.2.fk
                  rcases h1 with h1 | ⟨h1, h2, h3⟩
                  · exact absurd h1 hfc
                  · exact down_step HD.out h1 HF.out.2.fl h2 h3 HE.out
                have hcf : c < f := by
                  have h1 := HF.out.2.fk
                  rcases h1 with h1 | ⟨h1, h2, h3⟩
                  · exact absurd h1 hfc
                  · have := par_lt h1; omega
                go_wp2_with fail
                go_at_call 76
                refine HS1.out.mono ?_
                rintro e w2 ⟨rfl, h2⟩
                have H2 := Lib.hid h2
                clear h2 HS1
                go_wp2_with fail
                go_roundg (L - f)
                case measure => omega
                case rel => exact ⟨f, _, _, hfl, Nat.le_refl _, rfl, ⟨_, rfl⟩, ⟨_, rfl⟩, H2.out, HN.out⟩
      · have HT := Lib.hid hlt
        rw [hlt] at HB
        clear hlt
        go_wp2_with fail
        simp only [ep]
        clear ep
        go_quiet ((go_at_call 60; exact Calls.quiet_of (HB.out _)))
        have HS1 := Lib.hid ((HR.out.1.drewN nq).swap hn hcl (show pc < L by omega))
        go_wp2_with fail
        go_at_call 76
        refine HS1.out.mono ?_
        rintro e w2 ⟨rfl, h2⟩
        have HU : Hid (St w hb I ci P K n L pl keys w2 (swapI its' c pc) (swapP pl' (swapI its' c pc) c pc) ∧ Up (gI keys) (swapI its' c pc) pc) := ⟨h2, by
          have := up_step HR.out.2 (show 0 < c by omega) (by have := HR.out.1.len; omega) (by rw [HPc.out, HX.out.1, HX.out.2]; exact ltB_true.1 HT.out)
          rwa [HPc.out] at this⟩
        clear h2 HS1 HB
        go_wp2_with fail
        go_roundg pc
        case measure => omega
        case rel => exact ⟨pc, _, _, by omega, Nat.le_refl _, rfl, ⟨_, rfl⟩, HU⟩
end Go.Proofs.Ytmlpbhankgojpaa
