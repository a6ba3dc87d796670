/-
  The walk of symMerge at edges.
-/
import Derived.Test.YtmbogobebllheaaMv
import Derived.Deep.DeepCutAuto
namespace Go.Proofs.Ytmbogobebllheaa
open Go.RowKit GM Go.Sort Go.Lib
set_option linter.unusedSimpArgs false
set_option linter.unusedVariables false
set_option maxHeartbeats 4000000
set_option maxRecDepth 100000

theorem sym_split {u v : List E} (hu : SrtE u) (hv : SrtE v) (s e : Nat) (hs : s ≤ u.length) (he : e ≤ v.length) (h1 : ∀ x y, 0 < s → u[s - 1]? = some x → v[e]? = some y → bef y x = false) (h2 : ∀ x y, 0 < e → v[e - 1]? = some y → u[s]? = some x → bef y x = true) :
    (∀ x ∈ u.take s, ∀ y ∈ v.drop e, bef y x = false) ∧ (∀ y ∈ v.take e, ∀ x ∈ u.drop s, bef y x = true) := by
  constructor
  · intro x hx y hy
    obtain ⟨i, hi, ei⟩ := List.getElem_of_mem hx
    obtain ⟨j, hj, ej⟩ := List.getElem_of_mem hy
    rw [List.length_take] at hi
    rw [List.length_drop] at hj
    rw [List.getElem_take] at ei
    rw [List.getElem_drop] at ej
    have h := h1 _ _ (by omega) (List.getElem?_eq_getElem (show s - 1 < u.length by omega)) (List.getElem?_eq_getElem (show e < v.length by omega))
    have h3 : bef (u[s - 1]'(by omega)) x = false := by
      rcases (by omega : i = s - 1 ∨ i < s - 1) with g | g
      · subst g; rw [ei]; exact bef_irrefl x
      · have := List.pairwise_iff_getElem.1 hu i (s - 1) (by omega) (by omega) g; rwa [ei] at this
    have h4 : bef y (v[e]'(by omega)) = false := by
      rcases (by omega : j = 0 ∨ 0 < j) with g | g
      · subst g; simp only [Nat.add_zero] at ej; rw [ej]; exact bef_irrefl y
      · have := List.pairwise_iff_getElem.1 hv e (e + j) (by omega) (by omega) (by omega); rwa [ej] at this
    exact le_of h3 (le_of h h4)
  · intro y hy x hx
    obtain ⟨i, hi, ei⟩ := List.getElem_of_mem hx
    obtain ⟨j, hj, ej⟩ := List.getElem_of_mem hy
    rw [List.length_drop] at hi
    rw [List.length_take] at hj
    rw [List.getElem_drop] at ei
    rw [List.getElem_take] at ej
    have h := h2 _ _ (by omega) (List.getElem?_eq_getElem (show e - 1 < v.length by omega)) (List.getElem?_eq_getElem (show s < u.length by omega))
    have h3 : bef x (u[s]'(by omega)) = false := by
      rcases (by omega : i = 0 ∨ 0 < i) with g | g
      · subst g; simp only [Nat.add_zero] at ei; rw [ei]; exact bef_irrefl x
      · have := List.pairwise_iff_getElem.1 hu s (s + i) (by omega) (by omega) (by omega); rwa [ei] at this
    have h4 : bef (v[e - 1]'(by omega)) y = false := by
      rcases (by omega : j = e - 1 ∨ j < e - 1) with g | g
      · subst g; rw [ej]; exact bef_irrefl y
      · have := List.pairwise_iff_getElem.1 hv j (e - 1) (by omega) (by omega) g; rwa [ej] at this
    exact lt_le (le_lt h4 h) h3

theorem merge_gen (blk cap : Nat) (d0 : Array E) (w0 : World) (R : RowK encE 3 w0 blk 0 d0) (hsz : d0.size < 1152921504606846976)
    (A u v C : List E) (d : Array E) (w : World) (a m b : Nat) (hd : d.toList = A ++ (u ++ (v ++ C))) (hs : d.size = d0.size) (S : SW w0 blk d w) (ha : a = A.length) (hm : m = a + u.length) (hb : b = m + v.length) (hu : SrtE u) (hv : SrtE v) (hu1 : 1 < u.length) (hv1 : 1 < v.length)
    (IH : ∀ (A u v C : List E) (d : Array E) (w : World) (a' m' b' : Nat), b' - a' < b - a → d.toList = A ++ (u ++ (v ++ C)) → d.size = d0.size → SW w0 blk d w → a' = A.length → m' = a' + u.length → b' = m' + v.length → 0 < u.length → 0 < v.length → SrtE u → SrtE v →
      Calls Try.prog 161 #[.slice (some ⟨blk, 0, none⟩) d0.size cap, .int .i64 a', .int .i64 m', .int .i64 b', .func (.func 107) #[] #[]] w fun e w' => e = .returned (.tuple #[]) ∧ ∃ (d' : Array E) (z : List E), MergeP u v z ∧ d'.toList = A ++ (z ++ C) ∧ d'.size = d0.size ∧ SW w0 blk d' w') :
    Calls Try.prog 161 #[.slice (some ⟨blk, 0, none⟩) d0.size cap, .int .i64 a, .int .i64 m, .int .i64 b, .func (.func 107) #[] #[]] w fun e w' => e = .returned (.tuple #[]) ∧ ∃ (d' : Array E) (z : List E), MergeP u v z ∧ d'.toList = A ++ (z ++ C) ∧ d'.size = d0.size ∧ SW w0 blk d' w' := by
  have mixed := Try.sortE.mixed
  have hl := arr_len hd
  simp only [List.length_append] at hl
  have HIH := Lib.hid IH
  obtain ⟨mid, hmid⟩ : ∃ mid : Nat, mid = (a + b) / 2 := ⟨_, rfl⟩
  have HE : Hid (a = A.length ∧ m = a + u.length ∧ b = m + v.length ∧ d.toList = A ++ (u ++ (v ++ C)) ∧ d.size = d0.size ∧ SrtE u ∧ SrtE v ∧ mid = (a + b) / 2) := ⟨ha, hm, hb, hd, hs, hu, hv, hmid⟩
  have S0 : Hid (SW w0 blk d w) := S
  have hma : ((m : Int) - (a : Int) == 1) = false := by rw [beq_eq_false_iff_ne]; omega
  have hma' : ((m : Int) - (a : Int) != 1) = true := by rw [bne_iff_ne]; omega
  have hbm : ((b : Int) - (m : Int) == 1) = false := by rw [beq_eq_false_iff_ne]; omega
  have hbm' : ((b : Int) - (m : Int) != 1) = true := by rw [bne_iff_ne]; omega
  have hmidI : ((a : Int) + (b : Int)) / 2 = (mid : Int) := by omega
  have ham : a < m := by omega
  have hmb : m < b := by omega
  have hbd : b ≤ d0.size := by omega
  have hamid : a < mid := by omega
  have hmidb : mid < b := by omega
  have hmid2 : 2 * mid ≤ a + b := by omega
  have hmid3 : a + b ≤ 2 * mid + 1 := by omega
  clear S hd hs ha hm hb hu hv hl hu1 hv1 IH hmid
  go_enter Try.func161, Try.ntmps161
  go_upto_if 140 with (fail)
  go_cut [18, 19, 20, 21] (fun s18 s19 s20 s21 wx => s18 = .int .i64 mid ∧ s19 = .int .i64 ((mid : Int) + (m : Int)) ∧ ∃ (st r0 : Nat), s20 = .int .i64 st ∧ s21 = .int .i64 r0 ∧ a ≤ st ∧ st ≤ r0 ∧ r0 ≤ m ∧ r0 ≤ mid ∧ mid ≤ st + (b - m) ∧ (st = a ∨ mid = st + (b - m)) ∧ (r0 = m ∨ r0 = mid) ∧ Hid (SW w0 blk d wx))
  case first =>
    by_cases hc : mid < m
    · go_wp2
      go_meet
      case rel => exact ⟨by first | rfl | go_num, by first | rfl | go_num, mid + m - b, mid, by go_num, by first | rfl | go_num, by omega, by omega, by omega, by omega, by omega, .inr (by omega), .inr rfl, S0.out⟩
    · go_wp2
      go_meet
      case rel => exact ⟨by first | rfl | go_num, by first | rfl | go_num, a, m, rfl, rfl, by omega, by omega, by omega, by omega, by omega, .inl rfl, .inl rfl, S0.out⟩
  case rest =>
    as_aux_lemma =>
    obtain ⟨rfl, rfl, st, r0, rfl, rfl, b1, b2, b3, b4, b5, b6, b7, S1⟩ := hcut
    clear S0 hmidI hma hma' hbm hbm'
    obtain ⟨p, hp⟩ : ∃ p : Nat, p = mid + m - 1 := ⟨_, rfl⟩
    have ep : (mid : Int) + (m : Int) - 1 = (p : Int) := by omega
    have HP0 := Lib.hid hp
    clear hp
    go_wp2_with fail
    try simp only [ep]
    clear ep
    go_loopg [20, 21, 23] r0 (fun g s20 s21 s23 wr => ∃ (s r : Nat), s20 = .int .i64 s ∧ s21 = .int .i64 r ∧ (∃ v, v = s23) ∧ st ≤ s ∧ s ≤ r ∧ r ≤ r0 ∧ r - s ≤ g ∧
      Hid ((s = st ∨ ∃ x y, u[s - 1 - a]? = some x ∧ v[mid - s]? = some y ∧ bef y x = false) ∧ (r = r0 ∨ ∃ x y, u[r - a]? = some x ∧ v[mid - 1 - r]? = some y ∧ bef y x = true) ∧ SW w0 blk d wr))
    case atStart => exact ⟨st, r0, rfl, rfl, ⟨_, rfl⟩, Nat.le_refl _, b2, Nat.le_refl _, by omega, .inl rfl, .inl rfl, S1.out⟩
    case round =>
      clear S1
      obtain ⟨s, r, rfl, rfl, ⟨v23, rfl⟩, hs1, hs2, hs3, hg, HI⟩ := hrel
      by_cases hlt : s < r
      · as_aux_lemma =>
        go_wp2
        obtain ⟨c, hc⟩ : ∃ c : Nat, c = (s + r) / 2 := ⟨_, rfl⟩
        have ec : ((s : Int) + (r : Int)) / 2 = (c : Int) := by omega
        simp only [ec]
        have hsc : s ≤ c := by omega
        have hcr : c < r := by omega
        obtain ⟨q, hq⟩ : ∃ q : Nat, q = mid + m - 1 - c := ⟨_, rfl⟩
        have hp := HP0.out
        have eq1 : (p : Int) - (c : Int) = (q : Int) := by omega
        have eq6 : IntKind.i64.wrap (q : Int) = (q : Int) := IntWalk.i64_in _ (by omega)
        have hcl : c < d0.size := by omega
        have hql : q < d0.size := by omega
        clear ec hc hp
        obtain ⟨y, hy, hyv⟩ : ∃ y, d.toList[q]? = some y ∧ v[mid - 1 - c]? = some y := by
          obtain ⟨e1, e2, e3, e4, e5, e6⟩ := HE.out
          refine ⟨v[mid - 1 - c]'(by omega), ?_, List.getElem?_eq_getElem _⟩
          rw [e4, List.getElem?_append_right (by omega), List.getElem?_append_right (by omega), show q - A.length - u.length = mid - 1 - c by omega, List.getElem?_append_left (by omega)]
          exact List.getElem?_eq_getElem _
        obtain ⟨x, hx, hxv⟩ : ∃ x, d.toList[c]? = some x ∧ u[c - a]? = some x := by
          obtain ⟨e1, e2, e3, e4, e5, e6⟩ := HE.out
          refine ⟨u[c - a]'(by omega), ?_, List.getElem?_eq_getElem _⟩
          rw [e4, List.getElem?_append_right (by omega), show c - A.length = c - a by omega, List.getElem?_append_left (by omega)]
          exact List.getElem?_eq_getElem _
        have cy := fun n os => (sw_grown R HI.out.2.2 HE.out.2.2.2.2.1 hy n os).1
        have cy1 := fun n os => (sw_grown R HI.out.2.2 HE.out.2.2.2.2.1 hy n os).2.1
        have cy2 := fun n os => (sw_grown R HI.out.2.2 HE.out.2.2.2.2.1 hy n os).2.2
        have cx := fun n os => (sw_grown R HI.out.2.2 HE.out.2.2.2.2.1 hx n os).1
        have cx1 := fun n os => (sw_grown R HI.out.2.2 HE.out.2.2.2.2.1 hx n os).2.1
        have cx2 := fun n os => (sw_grown R HI.out.2.2 HE.out.2.2.2.2.1 hx n os).2.2
        have HN := Lib.hid (ordC_neg (a := y) (b := x))
        have HYV := Lib.hid (And.intro hxv hyv)
        have HQ := Lib.hid hq
        have HP : Hid (∀ W, Calls Try.prog 107 #[.agg #[.int .i64 y.1, .int .i64 y.2.1, .int .i64 y.2.2], .agg #[.int .i64 x.1, .int .i64 x.2.1, .int .i64 x.2.2]] W fun e w' => e = .returned (.int .i64 (ordC y x)) ∧ Gr W w') := fun W => order_any y x W
        generalize ordC y x = z at HN HP
        obtain ⟨x0, x1, x2⟩ := x
        obtain ⟨y0, y1, y2⟩ := y
        dsimp only at cx cx1 cx2 cy cy1 cy2 HP
        clear hx hy hyv hxv hq
        go_wp2_with fail
        go_quiet_grown (first | (go_at_call 107; refine Calls.grown_of (HP.out _)))
        have HI2 : Hid ((s = st ∨ ∃ x y, u[s - 1 - a]? = some x ∧ v[mid - s]? = some y ∧ bef y x = false) ∧ (r = r0 ∨ ∃ x y, u[r - a]? = some x ∧ v[mid - 1 - r]? = some y ∧ bef y x = true) ∧ SW w0 blk d (grow (wr.drewN nq) osq)) := ⟨HI.out.1, HI.out.2.1, HI.out.2.2.grown nq osq⟩
        clear cx cx1 cx2 cy cy1 cy2 HP HI
        generalize grow (wr.drewN nq) osq = wu2 at HI2 ⊢
        clear nq osq
        by_cases hneg : z < 0
        · have HL : Hid (bef (y0, y1, y2) (x0, x1, x2) = true) := HN.out.1 hneg
          have hn1 : decide (z < 0) = true := decide_eq_true hneg
          simp only [hn1, Bool.not_true]
          go_wp2_with fail
          go_roundg (c - s)
          case measure => omega
          case rel => exact ⟨s, c, rfl, rfl, ⟨_, rfl⟩, hs1, hsc, by omega, Nat.le_refl _, HI2.out.1, .inr ⟨_, _, HYV.out.1, HYV.out.2, HL.out⟩, HI2.out.2.2⟩
        · have HL : Hid (bef (y0, y1, y2) (x0, x1, x2) = false) := by
            show _ = _
            cases hb : bef (y0, y1, y2) (x0, x1, x2)
            · rfl
            · exact absurd (HN.out.2 hb) hneg
          have hneg' : decide (z < 0) = false := decide_eq_false hneg; simp only [hneg', Bool.not_false]
          go_wp2_with fail
          go_roundg (r - (c + 1))
          case measure => omega
          case rel => exact ⟨c + 1, r, by go_num, rfl, ⟨_, rfl⟩, by omega, by omega, hs3, Nat.le_refl _, .inr ⟨_, _, by rw [Nat.add_sub_cancel]; exact HYV.out.1, by rw [show mid - (c + 1) = mid - 1 - c by omega]; exact HYV.out.2, HL.out⟩, HI2.out.2.1, HI2.out.2.2⟩
      · as_aux_lemma =>
        obtain rfl : s = r := by omega
        obtain ⟨e, he⟩ : ∃ e : Nat, e = mid + m - s := ⟨_, rfl⟩
        have eE : (mid : Int) + (m : Int) - (s : Int) = (e : Int) := by omega
        have hme : m ≤ e := by omega
        have heb : e ≤ b := by omega
        have hsm : s ≤ m := by omega
        have hsmid : s ≤ mid := by omega
        have hmide : mid ≤ e := by omega
        have has : a ≤ s := by omega
        obtain ⟨u1, u2, v1, v2, HS⟩ : ∃ u1 u2 v1 v2 : List E, Hid (u = u1 ++ u2 ∧ v = v1 ++ v2 ∧ u1.length = s - a ∧ u2.length = m - s ∧ v1.length = mid - s ∧ v2.length = b - e ∧ (∀ x ∈ u1, ∀ y ∈ v2, bef y x = false) ∧ (∀ y ∈ v1, ∀ x ∈ u2, bef y x = true) ∧ e = mid + m - s) := by
          obtain ⟨e1, e2, e3, e4, e5, e6, e7, e8⟩ := HE.out
          have := sym_split e6 e7 (s - a) (mid - s) (by omega) (by omega) (fun x y h0 hx hy => by
            rcases HI.out.1 with h | ⟨x', y', hx', hy', hb⟩
            · rcases b6 with h6 | h6
              · omega
              · rw [List.getElem?_eq_none (by omega)] at hy; cases hy
            · rw [show s - a - 1 = s - 1 - a by omega, hx'] at hx
              rw [hy'] at hy
              cases hx; cases hy; exact hb) (fun x y h0 hy hx => by
            rcases HI.out.2.1 with h | ⟨x', y', hx', hy', hb⟩
            · rcases b7 with h7 | h7
              · rw [List.getElem?_eq_none (by omega)] at hx; cases hx
              · omega
            · rw [hx'] at hx
              rw [show mid - s - 1 = mid - 1 - s by omega, hy'] at hy
              cases hx; cases hy; exact hb)
          exact ⟨u.take (s - a), u.drop (s - a), v.take (mid - s), v.drop (mid - s), (List.take_append_drop _ _).symm, (List.take_append_drop _ _).symm, by rw [List.length_take]; omega, by rw [List.length_drop]; omega, by rw [List.length_take]; omega, by rw [List.length_drop]; omega, this.1, this.2, he⟩
        have HSW := Lib.hid HI.out.2.2
        have HR : Hid (∀ W, SW w0 blk d W → s < m → m < e → Calls Try.prog 181 #[.slice (some ⟨blk, 0, none⟩) d0.size cap, .int .i64 s, .int .i64 m, .int .i64 e, .func (.func 107) #[] #[]] W fun e w' => e = .returned (.tuple #[]) ∧ ∃ d' : Array E, d'.toList = (A ++ u1) ++ (v1 ++ (u2 ++ (v2 ++ C))) ∧ d'.size = d0.size ∧ SW w0 blk d' w') := fun W hW h1 h2 => by
          obtain ⟨e1, e2, e3, e4, e5, e6, e7, e8⟩ := HE.out
          obtain ⟨f1, f2, f3, f4, f5, f6, f7, f8, f9⟩ := HS.out
          exact rotate_any blk cap _ d0 w0 R (by omega) (A ++ u1) u2 v1 (v2 ++ C) d W s m e (by rw [e4, f1, f2]; simp) e5 hW (by rw [List.length_append]; omega) (by omega) (by omega) (by omega) (by omega)
        clear HI he
        obtain ⟨t1, Ht1⟩ : ∃ t1 : Bool, Hid (t1 = decide (s < m ∧ m < e)) := ⟨_, rfl⟩
        go_upto_region 39 with (fail)
        go_cut [185] (fun sb wx => sb = .bool t1 ∧ Hid (SW w0 blk d wx))
        case first =>
          by_cases hc1 : s < m
          · by_cases hc2 : m < e
            · obtain rfl : t1 = true := Ht1.out.trans (decide_eq_true ⟨hc1, hc2⟩)
              go_wp2
              go_meet
              case rel => exact ⟨rfl, HSW.out⟩
            · have hc2' : ¬ (m : Int) < (e : Int) := by omega
              obtain rfl : t1 = false := Ht1.out.trans (decide_eq_false fun h => hc2 h.2)
              go_wp2
              go_meet
              case rel => exact ⟨rfl, HSW.out⟩
          · have hc1' : ¬ (s : Int) < (m : Int) := by omega
            obtain rfl : t1 = false := Ht1.out.trans (decide_eq_false fun h => hc1 h.1)
            go_wp2
            go_meet
            case rel => exact ⟨rfl, HSW.out⟩
        case rest =>
          as_aux_lemma =>
          obtain ⟨rfl, HSW⟩ := hcut
          go_upto_if 185 with (fail)
          go_cut [] (fun wx => ∃ d1 : Array E, Hid (d1.toList = A ++ (u1 ++ (v1 ++ (u2 ++ (v2 ++ C)))) ∧ d1.size = d0.size ∧ SW w0 blk d1 wx))
          case first =>
            cases t1
            · clear HR
              go_wp2
              go_meet
              case rel =>
                obtain ⟨e1, e2, e3, e4, e5, e6, e7, e8⟩ := HE.out
                obtain ⟨f1, f2, f3, f4, f5, f6, f7, f8, f9⟩ := HS.out
                have hd := of_decide_eq_false Ht1.out.symm
                rcases (by omega : s = m ∨ e = m) with h | h
                · have h0 : u2 = [] := List.length_eq_zero_iff.1 (by omega)
                  exact ⟨d, by rw [e4, f1, f2, h0]; simp, e5, HSW.out⟩
                · have h0 : v1 = [] := List.length_eq_zero_iff.1 (by omega)
                  exact ⟨d, by rw [e4, f1, f2, h0]; simp, e5, HSW.out⟩
            · have HR1 := Lib.hid (HR.out _ HSW.out (of_decide_eq_true Ht1.out.symm).1 (of_decide_eq_true Ht1.out.symm).2)
              clear HR
              go_wp2_with (go_at_call 181; refine HR1.out.mono ?_; rintro en w' ⟨rfl, hx⟩; have HX := Lib.hid hx; clear hx)
              go_meet
              case rel => obtain ⟨d1, q1, q2, q3⟩ := HX.out; exact ⟨d1, by rw [q1]; simp, q2, q3⟩
          case rest =>
            as_aux_lemma =>
            clear HR HSW
            obtain ⟨d1, H1⟩ := hcut
            have HM : Hid (∀ W, SW w0 blk d1 W → a < s → s < mid → Calls Try.prog 161 #[.slice (some ⟨blk, 0, none⟩) d0.size cap, .int .i64 a, .int .i64 s, .int .i64 mid, .func (.func 107) #[] #[]] W fun e w' => e = .returned (.tuple #[]) ∧ ∃ (d2 : Array E) (z : List E), MergeP u1 v1 z ∧ d2.toList = A ++ (z ++ (u2 ++ (v2 ++ C))) ∧ d2.size = d0.size ∧ SW w0 blk d2 w') := fun W hW h1 h2 => by
              obtain ⟨e1, e2, e3, e4, e5, e6, e7, e8⟩ := HE.out
              obtain ⟨f1, f2, f3, f4, f5, f6, f7, f8, f9⟩ := HS.out
              rw [f1] at e6
              rw [f2] at e7
              exact HIH.out A u1 v1 (u2 ++ (v2 ++ C)) d1 W a s mid (by omega) H1.out.1 H1.out.2.1 hW e1 (by omega) (by omega) (by omega) (by omega) (List.pairwise_append.1 e6).1 (List.pairwise_append.1 e7).1
            obtain ⟨t2, Ht2⟩ : ∃ t2 : Bool, Hid (t2 = decide (a < s ∧ s < mid)) := ⟨_, rfl⟩
            go_upto_region 41 with (fail)
            go_cut [199] (fun sb wx => sb = .bool t2 ∧ Hid (SW w0 blk d1 wx))
            case first =>
              by_cases hc1 : a < s
              · by_cases hc2 : s < mid
                · obtain rfl : t2 = true := Ht2.out.trans (decide_eq_true ⟨hc1, hc2⟩)
                  go_wp2
                  go_meet
                  case rel => exact ⟨rfl, H1.out.2.2⟩
                · have hc2' : ¬ (s : Int) < (mid : Int) := by omega
                  obtain rfl : t2 = false := Ht2.out.trans (decide_eq_false fun h => hc2 h.2)
                  go_wp2
                  go_meet
                  case rel => exact ⟨rfl, H1.out.2.2⟩
              · have hc1' : ¬ (a : Int) < (s : Int) := by omega
                obtain rfl : t2 = false := Ht2.out.trans (decide_eq_false fun h => hc1 h.1)
                go_wp2
                go_meet
                case rel => exact ⟨rfl, H1.out.2.2⟩
            case rest =>
              as_aux_lemma =>
              obtain ⟨rfl, HSW⟩ := hcut
              go_upto_if 199 with (fail)
              go_cut [] (fun wx => ∃ (d2 : Array E) (z : List E), Hid (MergeP u1 v1 z ∧ d2.toList = A ++ (z ++ (u2 ++ (v2 ++ C))) ∧ d2.size = d0.size ∧ SW w0 blk d2 wx))
              case first =>
                cases t2
                · clear HM
                  go_wp2
                  go_meet
                  case rel =>
                    obtain ⟨e1, e2, e3, e4, e5, e6, e7, e8⟩ := HE.out
                    obtain ⟨f1, f2, f3, f4, f5, f6, f7, f8, f9⟩ := HS.out
                    have hd := of_decide_eq_false Ht2.out.symm
                    rw [f1] at e6
                    rw [f2] at e7
                    rcases (by omega : s = a ∨ s = mid) with h | h
                    · have h0 : u1 = [] := List.length_eq_zero_iff.1 (by omega)
                      exact ⟨d1, v1, by rw [h0]; exact MergeP.nil_left (List.pairwise_append.1 e7).1, by rw [H1.out.1, h0]; simp, H1.out.2.1, HSW.out⟩
                    · have h0 : v1 = [] := List.length_eq_zero_iff.1 (by omega)
                      exact ⟨d1, u1, by rw [h0]; exact MergeP.nil_right (List.pairwise_append.1 e6).1, by rw [H1.out.1, h0]; simp, H1.out.2.1, HSW.out⟩
                · have HM1 := Lib.hid (HM.out _ HSW.out (of_decide_eq_true Ht2.out.symm).1 (of_decide_eq_true Ht2.out.symm).2)
                  clear HM
                  go_wp2_with (go_at_call 161; refine HM1.out.mono ?_; rintro en w' ⟨rfl, hx⟩; have HX := Lib.hid hx; clear hx)
                  go_meet
                  case rel => exact HX.out
              case rest =>
                as_aux_lemma =>
                clear HM H1 HSW
                obtain ⟨d2, z, H2⟩ := hcut
                have HM : Hid (∀ W, SW w0 blk d2 W → mid < e → e < b → Calls Try.prog 161 #[.slice (some ⟨blk, 0, none⟩) d0.size cap, .int .i64 mid, .int .i64 e, .int .i64 b, .func (.func 107) #[] #[]] W fun e w' => e = .returned (.tuple #[]) ∧ ∃ (d3 : Array E) (z2 : List E), MergeP u2 v2 z2 ∧ d3.toList = (A ++ z) ++ (z2 ++ C) ∧ d3.size = d0.size ∧ SW w0 blk d3 w') := fun W hW h1 h2 => by
                  obtain ⟨e1, e2, e3, e4, e5, e6, e7, e8⟩ := HE.out
                  obtain ⟨f1, f2, f3, f4, f5, f6, f7, f8, f9⟩ := HS.out
                  rw [f1] at e6
                  rw [f2] at e7
                  have hz := H2.out.1.len
                  exact HIH.out (A ++ z) u2 v2 C d2 W mid e b (by omega) (by rw [H2.out.2.1]; simp) H2.out.2.2.1 hW (by rw [List.length_append]; omega) (by omega) (by omega) (by omega) (by omega) (List.pairwise_append.1 e6).2.1 (List.pairwise_append.1 e7).2.1
                have HEND : Hid (∀ (z2 : List E) (d3 : Array E) (W : World), MergeP u2 v2 z2 → d3.toList = (A ++ z) ++ (z2 ++ C) → d3.size = d0.size → SW w0 blk d3 W → ∃ (d' : Array E) (z : List E), MergeP u v z ∧ d'.toList = A ++ (z ++ C) ∧ d'.size = d0.size ∧ SW w0 blk d' W) := fun z2 d3 W h1 h2 h3 h4 => by
                  obtain ⟨e1, e2, e3, e4, e5, e6, e7, e8⟩ := HE.out
                  obtain ⟨f1, f2, f3, f4, f5, f6, f7, f8, f9⟩ := HS.out
                  refine ⟨d3, z ++ z2, ?_, by rw [h2]; simp, h3, h4⟩
                  rw [f1] at e6 ⊢
                  rw [f2] at e7 ⊢
                  exact MergeP.join e6 e7 f7 f8 H2.out.1 h1
                obtain ⟨t3, Ht3⟩ : ∃ t3 : Bool, Hid (t3 = decide (mid < e ∧ e < b)) := ⟨_, rfl⟩
                go_upto_region 43 with (fail)
                go_cut [213] (fun sb wx => sb = .bool t3 ∧ Hid (SW w0 blk d2 wx))
                case first =>
                  by_cases hc1 : mid < e
                  · by_cases hc2 : e < b
                    · obtain rfl : t3 = true := Ht3.out.trans (decide_eq_true ⟨hc1, hc2⟩)
                      go_wp2
                      go_meet
                      case rel => exact ⟨rfl, H2.out.2.2.2⟩
                    · have hc2' : ¬ (e : Int) < (b : Int) := by omega
                      obtain rfl : t3 = false := Ht3.out.trans (decide_eq_false fun h => hc2 h.2)
                      go_wp2
                      go_meet
                      case rel => exact ⟨rfl, H2.out.2.2.2⟩
                  · have hc1' : ¬ (mid : Int) < (e : Int) := by omega
                    obtain rfl : t3 = false := Ht3.out.trans (decide_eq_false fun h => hc1 h.1)
                    go_wp2
                    go_meet
                    case rel => exact ⟨rfl, H2.out.2.2.2⟩
                case rest =>
                  as_aux_lemma =>
                  obtain ⟨rfl, HSW⟩ := hcut
                  cases t3
                  · clear HM
                    go_wp2
                    go_end0
                    obtain ⟨e1, e2, e3, e4, e5, e6, e7, e8⟩ := HE.out
                    obtain ⟨f1, f2, f3, f4, f5, f6, f7, f8, f9⟩ := HS.out
                    have hd := of_decide_eq_false Ht3.out.symm
                    rw [f1] at e6
                    rw [f2] at e7
                    rcases (by omega : e = mid ∨ e = b) with h | h
                    · have h0 : u2 = [] := List.length_eq_zero_iff.1 (by omega)
                      exact ⟨rfl, HEND.out v2 d2 _ (by rw [h0]; exact MergeP.nil_left (List.pairwise_append.1 e7).2.1) (by rw [H2.out.2.1, h0]; simp) H2.out.2.2.1 HSW.out⟩
                    · have h0 : v2 = [] := List.length_eq_zero_iff.1 (by omega)
                      exact ⟨rfl, HEND.out u2 d2 _ (by rw [h0]; exact MergeP.nil_right (List.pairwise_append.1 e6).2.1) (by rw [H2.out.2.1, h0]; simp) H2.out.2.2.1 HSW.out⟩
                  · have HM1 := Lib.hid (HM.out _ HSW.out (of_decide_eq_true Ht3.out.symm).1 (of_decide_eq_true Ht3.out.symm).2)
                    clear HM
                    go_wp2_with (go_at_call 161; refine HM1.out.mono ?_; rintro en w' ⟨rfl, hx⟩; have HX := Lib.hid hx; clear hx)
                    go_end0
                    obtain ⟨d3, z2, q1, q2, q3, q4⟩ := HX.out
                    exact ⟨rfl, HEND.out z2 d3 _ q1 q2 q3 q4⟩

theorem gmerge_any (blk cap : Nat) (d0 : Array E) (w0 : World) (R : RowK encE 3 w0 blk 0 d0) (hsz : d0.size < 1152921504606846976) :
    ∀ (n : Nat) (A u v C : List E) (d : Array E) (w : World) (a m b : Nat), b - a < n → d.toList = A ++ (u ++ (v ++ C)) → d.size = d0.size → SW w0 blk d w → a = A.length → m = a + u.length → b = m + v.length → 0 < u.length → 0 < v.length → SrtE u → SrtE v →
      Calls Try.prog 161 #[.slice (some ⟨blk, 0, none⟩) d0.size cap, .int .i64 a, .int .i64 m, .int .i64 b, .func (.func 107) #[] #[]] w fun e w' => e = .returned (.tuple #[]) ∧ ∃ (d' : Array E) (z : List E), MergeP u v z ∧ d'.toList = A ++ (z ++ C) ∧ d'.size = d0.size ∧ SW w0 blk d' w'
  | 0, A, u, v, C, d, w, a, m, b, hn, hd, hs, S, ha, hm, hb, hu, hv, su, sv => absurd hn (Nat.not_lt_zero _)
  | n + 1, A, u, v, C, d, w, a, m, b, hn, hd, hs, S, ha, hm, hb, hu, hv, su, sv => by
    by_cases h1 : u.length = 1
    · obtain ⟨x, rfl⟩ := List.length_eq_one_iff.1 h1
      exact merge_left blk cap d0 w0 R (by omega) A v C x d w a m b hd hs S ha hm hb sv
    · by_cases h2 : v.length = 1
      · obtain ⟨x, rfl⟩ := List.length_eq_one_iff.1 h2
        exact merge_right blk cap d0 w0 R (by omega) A u C x d w a m b hd hs S ha hm hb su (by omega)
      · exact merge_gen blk cap d0 w0 R hsz A u v C d w a m b hd hs S ha hm hb su sv (by omega) (by omega) fun A' u' v' C' d' w' a' m' b' hlt hd' hs' S' ha' hm' hb' hu' hv' su' sv' =>
          gmerge_any blk cap d0 w0 R hsz n A' u' v' C' d' w' a' m' b' (by omega) hd' hs' S' ha' hm' hb' hu' hv' su' sv'
end Go.Proofs.Ytmbogobebllheaa
