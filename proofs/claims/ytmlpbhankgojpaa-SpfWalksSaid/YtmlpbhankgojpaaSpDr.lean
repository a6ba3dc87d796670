/-
  The walk of the reference's direct: is a node the first one behind the root?
-/
import Derived.Test.YtmlpbhankgojpaaSpDi
import Derived.Test.YtmlpbhankgojpaaSpRu
import Derived.Test.YtmlpbhankgojpaaGrCo
namespace Go.Proofs.Ytmlpbhankgojpaa
open Go.RowKit HM GM SP
set_option linter.unusedSimpArgs false
set_option linter.unusedVariables false
set_option maxHeartbeats 4000000
set_option maxRecDepth 100000
theorem cstF_mem {a b : Int} : ∀ {l : List E}, (cstF a b l).2 = true → (a, b, (cstF a b l).1) ∈ l
  | [], h => by simp [cstF] at h
  | (x, y, z) :: r, h => by
    unfold cstF at h ⊢
    split
    · rename_i he
      obtain ⟨rfl, rfl⟩ := he
      exact List.mem_cons_self
    · rename_i he
      rw [if_neg he] at h
      exact List.mem_cons_of_mem _ (cstF_mem h)
theorem cstF_no {a b : Int} : ∀ {l : List E}, (cstF a b l).2 = false → ∀ c, (a, b, c) ∉ l
  | [], _, c => by simp
  | (x, y, z) :: r, h, c => by
    unfold cstF at h
    split at h
    · cases h
    · rename_i he
      intro hm
      rcases List.mem_cons.1 hm with hm | hm
      · cases hm; exact he ⟨rfl, rfl⟩
      · exact cstF_no h c hm
theorem cstF_iff {R N : Int} {l : List E} (hv : Valid R N l) {a b c : Int} : (a, b, c) ∈ l ↔ ((cstF a b l).2 = true ∧ (cstF a b l).1 = c) := by
  constructor
  · intro h
    cases h2 : (cstF a b l).2 with
    | true => exact ⟨rfl, edge_one hv (cstF_mem h2) h⟩
    | false => exact absurd h (cstF_no h2 c)
  · rintro ⟨h1, rfl⟩; exact cstF_mem h1
theorem cstF_small {R N : Int} {l : List E} (hv : Valid R N l) (a b : Int) : 0 ≤ (cstF a b l).1 ∧ (cstF a b l).1 ≤ 65535 := by
  cases h2 : (cstF a b l).2 with
  | true => have := edge hv (cstF_mem h2); omega
  | false =>
    have : ∀ l : List E, (cstF a b l).2 = false → (cstF a b l).1 = 0 := by
      intro l
      induction l with
      | nil => intro _; rfl
      | cons e r ih =>
        intro h
        unfold cstF at h ⊢
        split
        · rename_i he; rw [if_pos he] at h; cases h
        · rename_i he; rw [if_neg he] at h; exact ih h
    rw [this l h2]; omega
/-- the same as First, but for what it says of the node itself -/
def FirstB (R : Int) (l : List E) (s v : Int) : Prop := (s, v, T l s v) ∈ l ∨ (v < R ∧ ∃ w, R ≤ w ∧ (s, w, T l s w) ∈ l ∧ T l s w = T l s v ∧ (w, v, 0) ∈ l)
/-- a table of distances that is there -/
structure DT (w : World) (l : List E) (n b o cap : Nat) : Prop where
  rows : ∀ k, k < n → ∃ g p c, w.cell? ⟨b, o + k, none⟩ = some (.slice (some ⟨g, p, none⟩) n c) ∧ g < w.heap.size ∧ n ≤ c ∧ ∀ j, j < n → w.cell? ⟨g, p + j, none⟩ = some (.int .i64 (T l (k : Int) (j : Int)))
  blk : b < w.heap.size
theorem DT.of {w : World} {l : List E} {n : Nat} {v : Value} {tab : List (List Int)} (h : RdR w v tab) (ht : Tb n tab) (hd : ∀ a b : Nat, a < n → b < n → at2 tab a b = T l a b) (h0 : 0 < n) : ∃ b o cap, v = .slice (some ⟨b, o, none⟩) n cap ∧ n ≤ cap ∧ DT w l n b o cap := by
  obtain ⟨ad, cap, rfl, h1, h2, hc⟩ := h
  obtain ⟨b, o, _, rfl, hb, _⟩ := hc 0 _ (gL_get (by rw [ht.len]; omega))
  refine ⟨b, o, cap, by rw [ht.len], by rw [← ht.len]; omega, fun k hk => ?_, hb⟩
  obtain ⟨b', o', u, e, _, c, hr⟩ := hc k _ (gL_get (by rw [ht.len]; omega))
  cases e
  obtain ⟨ad', cap', rfl, k1, k2, hc'⟩ := hr
  rw [ht.row k hk] at k1
  obtain ⟨g, p, rfl, hg, _⟩ := hc' 0 _ (gI_get (by rw [ht.row k hk]; omega))
  refine ⟨g, p, cap', by rw [c, ht.row k hk], hg, k1, fun j hj => ?_⟩
  obtain ⟨g', p', e, _, c'⟩ := hc' j _ (gI_get (by rw [ht.row k hk]; omega))
  cases e
  rw [c', ← hd k j hk hj]; rfl
theorem DT.below {w w' : World} {l : List E} {n b o cap : Nat} (h : DT w l n b o cap) (hb : Below w.heap.size w w') : DT w' l n b o cap :=
  ⟨fun k hk => by
    obtain ⟨g, p, c, c1, c2, c3, c4⟩ := h.rows k hk
    exact ⟨g, p, c, carry hb c1, Nat.lt_of_lt_of_le c2 hb.size, c3, fun j hj => carry hb (c4 j hj)⟩, Nat.lt_of_lt_of_le h.blk hb.size⟩
theorem direct_any (R N : Int) (l : List E) (s : Value) (n x v b o dcap : Nat) (w : World) (hv : Valid R N l) (hr : Rd3 w s l) (hn : (n : Int) = R + N) (hx : x < n) (hvn : v < n) (hd : DT w l n b o dcap) (hdc : n ≤ dcap) :
    Calls Try.prog 30 #[.agg #[.int .i64 R, .int .i64 N, s], .slice (some ⟨b, o, none⟩) n dcap, .int .i64 (x : Int), .int .i64 (v : Int)] w fun e w' => ∃ d : Bool, e = .returned (.bool d) ∧ (d = true ↔ FirstB R l (x : Int) (v : Int)) ∧ Below w.heap.size w w' := by
  have HCo : Hid (∀ a c W, Below w.heap.size w W → Calls Try.prog 25 #[.agg #[.int .i64 R, .int .i64 N, s], .int .i64 a, .int .i64 c] W fun e w' => e = .returned (.tuple #[.int .i64 (cstF a c l).1, .bool (cstF a c l).2]) ∧ Below W.heap.size W w') := fun a c W hW => rcost_any R N a c l s W (hr.below hW)
  have hR := hv.r; have hN := hv.n; have hS := hv.s
  have HV := Lib.hid (And.intro hv hn)
  have HD := Lib.hid hd
  obtain ⟨ad, cap, hform⟩ := rd3_slice hr
  obtain ⟨L, hL⟩ : ∃ L, l.length = L := ⟨_, rfl⟩
  rw [hL] at hform
  subst hform
  have hn8 : n ≤ 128 := by omega
  have hRn : R ≤ (n : Int) := by omega
  have x0 : (0 : Int) ≤ (x : Int) := by omega
  have x1 : (x : Int) < (n : Int) := by omega
  have v0 : (0 : Int) ≤ (v : Int) := by omega
  have v1 : (v : Int) < (n : Int) := by omega
  obtain ⟨r, rfl⟩ : ∃ r : Nat, R = (r : Int) := ⟨R.toNat, by omega⟩
  have hrn : r ≤ n := by omega
  clear hv hd hL hr hn
  have HB := Lib.hid (below_alloc w (.cells #[.int .i64 (r : Int), .int .i64 N, .slice ad L cap] 24))
  have bx : (w.alloc (.cells #[.int .i64 (r : Int), .int .i64 N, .slice ad L cap] 24)).heap[w.heap.size]? = some (.cells #[.int .i64 (r : Int), .int .i64 N, .slice ad L cap] 24 (0, 0)) := heap_alloc_new _ _
  have HBX := Lib.hid bx
  clear bx
  go_enter Try.func30, Try.ntmps30
  go_wp2_with fail
  generalize (w.alloc (.cells #[.int .i64 (r : Int), .int .i64 N, .slice ad L cap] 24)) = V at *
  have HC : Hid (∀ W, Below V.heap.size V W → W.cell? ⟨w.heap.size, 0, none⟩ = some (.int .i64 (r : Int)) ∧ W.cell? ⟨w.heap.size, 1, none⟩ = some (.int .i64 N) ∧ W.cell? ⟨w.heap.size, 2, none⟩ = some (.slice ad L cap)) := fun W hW => ⟨carry hW (cell_of HBX.out rfl), carry hW (cell_of HBX.out rfl), carry hW (cell_of HBX.out rfl)⟩
  go_at_call 25
  refine (HCo.out _ _ _ HB.out).mono ?_
  rintro e w1 ⟨rfl, hb1⟩
  have HB1 := Lib.hid hb1
  obtain ⟨c0, c1, c2⟩ := HC.out _ hb1
  obtain ⟨g, p, gc, f1, f2, f3, f4⟩ := (HD.out.below (below_then HB.out hb1)).rows x hx
  have f5 := f4 v hvn
  have HM : Hid ((cstF (x : Int) (v : Int) l).2 = true ∧ (cstF (x : Int) (v : Int) l).1 = T l x v ↔ ((x : Int), (v : Int), T l x v) ∈ l) := (cstF_iff HV.out.1).symm
  clear f4 hb1
  generalize hT : T l (x : Int) (v : Int) = tv at f5
  have HT := Lib.hid hT
  clear hT
  generalize (cstF (x : Int) (v : Int) l).1 = cc at *
  generalize (cstF (x : Int) (v : Int) l).2 = cb at *
  rw [HT.out] at HM
  by_cases hh : cb = true ∧ cc = tv
  · obtain ⟨rfl, rfl⟩ := hh
    go_wp2
    go_ret
    refine ⟨true, rfl, ⟨fun _ => .inl ?_, fun _ => rfl⟩, below_then HB.out HB1.out⟩
    rw [HT.out]; exact HM.out.1 (by constructor <;> first | rfl | trivial)
  · have HNO : Hid (((x : Int), (v : Int), T l x v) ∉ l) := fun h => by rw [HT.out] at h; exact hh (HM.out.2 h)
    clear HM
    have hcond : (cb && (cc == tv)) = false := by
      cases cb with
      | false => rfl
      | true => simp; intro e; exact hh ⟨rfl, e⟩
    by_cases hvr : r ≤ v
    · have q1 : (r : Int) ≤ (v : Int) := by omega
      have HNF : Hid (¬ FirstB (r : Int) l (x : Int) (v : Int)) := by
        rintro (h | ⟨h, _⟩)
        · exact HNO.out h
        · omega
      clear hcond
      cases cb with
      | false =>
        clear hh
        go_wp2
        go_ret
        exact ⟨false, rfl, ⟨(fun h => by cases h), fun h => absurd h HNF.out⟩, below_then HB.out HB1.out⟩
      | true =>
        have q2 : (cc == tv) = false := by simp; intro e; exact hh ⟨rfl, e⟩
        have q3 : ¬ cc = tv := fun e => hh ⟨rfl, e⟩
        clear hh
        go_wp2
        go_ret
        exact ⟨false, rfl, ⟨(fun h => by cases h), fun h => absurd h HNF.out⟩, below_then HB.out HB1.out⟩
    · have q1 : ¬ ((r : Int) ≤ (v : Int)) := by omega
      have hvR : v < r := by omega
      have HS : Hid (Below V.heap.size V w1 ∧ ∀ u : Nat, r ≤ u → u < r → ¬ (((x : Int), (u : Int), T l x u) ∈ l ∧ T l x u = T l x v ∧ ((u : Int), (v : Int), 0) ∈ l)) := ⟨HB1.out, fun u h1 h2 => by omega⟩
      cases cb with
      | false =>
        clear hh hcond
        go_wp2_with fail
        go_loopg [11, 12, 13, 14, 15] n (fun g s11 s12 s13 s14 s15 wr => ∃ j : Nat, r ≤ j ∧ j ≤ n ∧ n - j ≤ g ∧ s11 = .int .i64 (j : Int) ∧ (∃ u, u = s12) ∧ (∃ u, u = s13) ∧ (∃ u, u = s14) ∧ (∃ u, u = s15) ∧ Hid (Below V.heap.size V wr ∧ ∀ u : Nat, r ≤ u → u < j → ¬ (((x : Int), (u : Int), T l x u) ∈ l ∧ T l x u = T l x v ∧ ((u : Int), (v : Int), 0) ∈ l)))
        case atStart => exact ⟨r, Nat.le_refl _, hrn, by omega, rfl, ⟨_, rfl⟩, ⟨_, rfl⟩, ⟨_, rfl⟩, ⟨_, rfl⟩, HS⟩
        case round =>
          clear HS
          obtain ⟨j, hrj, hj, hjg, rfl, ⟨u12, rfl⟩, ⟨u13, rfl⟩, ⟨u14, rfl⟩, ⟨u15, rfl⟩, HSS⟩ := hrel
          by_cases hlt : j < n
          · have j0 : (0 : Int) ≤ (j : Int) := by omega
            have j1 : (j : Int) < (n : Int) := by omega
            obtain ⟨c0, c1, c2⟩ := HC.out _ HSS.out.1
            go_wp2_with fail
            go_at_call 25
            refine (HCo.out _ _ _ (below_then HB.out HSS.out.1)).mono ?_
            rintro e w2 ⟨rfl, hb2⟩
            have HB2 := Lib.hid (below_then HSS.out.1 hb2)
            clear c0 c1 c2 hb2
            obtain ⟨c0, c1, c2⟩ := HC.out _ HB2.out
            go_wp2_with fail
            go_at_call 25
            refine (HCo.out _ _ _ (below_then HB.out HB2.out)).mono ?_
            rintro e w3 ⟨rfl, hb3⟩
            have HB3 := Lib.hid (below_then HB2.out hb3)
            clear c0 c1 c2 hb3
            obtain ⟨g1, p1, gc1, k1, k2, k3, k4⟩ := (HD.out.below (below_then HB.out HB3.out)).rows x hx
            have k5 := k4 v hvn
            have k6 := k4 j hlt
            rw [HT.out] at k5
            have HM1 : Hid (((x : Int), (j : Int), T l x j) ∈ l ↔ ((cstF (x : Int) (j : Int) l).2 = true ∧ (cstF (x : Int) (j : Int) l).1 = T l x j)) := cstF_iff HV.out.1
            have HM2 : Hid (((j : Int), (v : Int), 0) ∈ l ↔ (cstF (j : Int) (v : Int) l).2 = true) := by
              constructor
              · intro h; exact ((cstF_iff HV.out.1).1 h).1
              · intro h
                have hm := cstF_mem h
                have := (edge HV.out.1 hm).2.2.2.2.2.2.2.2 (by omega)
                rw [this.1] at hm; exact hm
            clear k4
            generalize hT6 : T l (x : Int) (j : Int) = tj at k6
            have HT6 := Lib.hid hT6
            clear hT6
            rw [HT6.out] at HM1
            generalize (cstF (x : Int) (j : Int) l).1 = aj at *
            generalize (cstF (x : Int) (j : Int) l).2 = isb at *
            generalize (cstF (j : Int) (v : Int) l).2 = hab at *
            generalize (cstF (j : Int) (v : Int) l).1 = zj at *
            cases isb with
            | false =>
              have HNJ : Hid (¬ (((x : Int), (j : Int), T l x j) ∈ l ∧ T l x j = T l x v ∧ ((j : Int), (v : Int), 0) ∈ l)) := fun h => by have := HM1.out.1 (by rw [← HT6.out]; exact h.1); exact Bool.noConfusion this.1
              go_wp2_with fail
              go_roundg (n - (j + 1))
              case measure => omega
              case rel => exact ⟨j + 1, by omega, by omega, Nat.le_refl _, by go_num, ⟨_, rfl⟩, ⟨_, rfl⟩, ⟨_, rfl⟩, ⟨_, rfl⟩, HB3.out, fun u h1 h2 => by
                by_cases e : u = j
                · subst e; exact HNJ.out
                · exact HSS.out.2 u h1 (by omega)⟩
            | true =>
              cases hab with
              | false =>
                have HNJ : Hid (¬ (((x : Int), (j : Int), T l x j) ∈ l ∧ T l x j = T l x v ∧ ((j : Int), (v : Int), 0) ∈ l)) := fun h => by have := HM2.out.1 h.2.2; exact Bool.noConfusion this
                go_wp2_with fail
                go_roundg (n - (j + 1))
                case measure => omega
                case rel => exact ⟨j + 1, by omega, by omega, Nat.le_refl _, by go_num, ⟨_, rfl⟩, ⟨_, rfl⟩, ⟨_, rfl⟩, ⟨_, rfl⟩, HB3.out, fun u h1 h2 => by
                  by_cases e : u = j
                  · subst e; exact HNJ.out
                  · exact HSS.out.2 u h1 (by omega)⟩
              | true =>
                by_cases ha : aj = tj
                · by_cases hb : aj = tv
                  · have HYES : Hid (FirstB (r : Int) l (x : Int) (v : Int)) := .inr ⟨by omega, (j : Int), by omega, by rw [HT6.out]; exact HM1.out.2 ⟨rfl, ha⟩, by rw [HT6.out, HT.out, ← ha]; exact hb, HM2.out.2 rfl⟩
                    subst ha
                    subst hb
                    clear HM1 HM2
                    go_wp2
                    go_ret
                    exact ⟨true, rfl, ⟨fun _ => HYES.out, fun _ => rfl⟩, below_then HB.out HB3.out⟩
                  · have z1 : (aj == tv) = false := by simpa using hb
                    subst ha
                    have HNE : Hid (¬ aj = tv) := hb
                    have HNJ : Hid (¬ (((x : Int), (j : Int), T l x j) ∈ l ∧ T l x j = T l x v ∧ ((j : Int), (v : Int), 0) ∈ l)) := fun h => HNE.out (by have := h.2.1; rw [HT6.out, HT.out] at this; exact this)
                    go_wp2_with fail
                    go_roundg (n - (j + 1))
                    case measure => omega
                    case rel => exact ⟨j + 1, by omega, by omega, Nat.le_refl _, by go_num, ⟨_, rfl⟩, ⟨_, rfl⟩, ⟨_, rfl⟩, ⟨_, rfl⟩, HB3.out, fun u h1 h2 => by
                      by_cases e : u = j
                      · subst e; exact HNJ.out
                      · exact HSS.out.2 u h1 (by omega)⟩
                · have z1 : (aj == tj) = false := by simpa using ha
                  have HNE : Hid (¬ aj = tj) := ha
                  have HNJ : Hid (¬ (((x : Int), (j : Int), T l x j) ∈ l ∧ T l x j = T l x v ∧ ((j : Int), (v : Int), 0) ∈ l)) := fun h => by have := HM1.out.1 (by rw [← HT6.out]; exact h.1); exact HNE.out this.2
                  go_wp2_with fail
                  go_roundg (n - (j + 1))
                  case measure => omega
                  case rel => exact ⟨j + 1, by omega, by omega, Nat.le_refl _, by go_num, ⟨_, rfl⟩, ⟨_, rfl⟩, ⟨_, rfl⟩, ⟨_, rfl⟩, HB3.out, fun u h1 h2 => by
                    by_cases e : u = j
                    · subst e; exact HNJ.out
                    · exact HSS.out.2 u h1 (by omega)⟩
          · have k1 : decide ((j : Int) < (n : Int)) = false := decide_eq_false (by omega)
            have HNF : Hid (¬ FirstB (r : Int) l (x : Int) (v : Int)) := by
              rintro (h | ⟨_, u, h1, h2, h3, h4⟩)
              · exact HNO.out h
              · have hu := edge HV.out.1 h2
                have hnn := HV.out.2
                obtain ⟨u, rfl⟩ : ∃ u' : Nat, u = u' := ⟨u.toNat, by omega⟩
                exact HSS.out.2 u (by omega) (by omega) ⟨h2, h3, h4⟩
            go_wp2
            go_ret
            exact ⟨false, rfl, ⟨(fun h => by cases h), fun h => absurd h HNF.out⟩, below_then HB.out HSS.out.1⟩
      | true =>
        have q2 : (cc == tv) = false := by simp; intro e; exact hh ⟨rfl, e⟩
        have q3 : ¬ cc = tv := fun e => hh ⟨rfl, e⟩
        clear hh hcond
        go_wp2_with fail
        go_loopg [11, 12, 13, 14, 15] n (fun g s11 s12 s13 s14 s15 wr => ∃ j : Nat, r ≤ j ∧ j ≤ n ∧ n - j ≤ g ∧ s11 = .int .i64 (j : Int) ∧ (∃ u, u = s12) ∧ (∃ u, u = s13) ∧ (∃ u, u = s14) ∧ (∃ u, u = s15) ∧ Hid (Below V.heap.size V wr ∧ ∀ u : Nat, r ≤ u → u < j → ¬ (((x : Int), (u : Int), T l x u) ∈ l ∧ T l x u = T l x v ∧ ((u : Int), (v : Int), 0) ∈ l)))
        case atStart => exact ⟨r, Nat.le_refl _, hrn, by omega, rfl, ⟨_, rfl⟩, ⟨_, rfl⟩, ⟨_, rfl⟩, ⟨_, rfl⟩, HS⟩
        case round =>
          clear HS
          obtain ⟨j, hrj, hj, hjg, rfl, ⟨u12, rfl⟩, ⟨u13, rfl⟩, ⟨u14, rfl⟩, ⟨u15, rfl⟩, HSS⟩ := hrel
          by_cases hlt : j < n
          · have j0 : (0 : Int) ≤ (j : Int) := by omega
            have j1 : (j : Int) < (n : Int) := by omega
            obtain ⟨c0, c1, c2⟩ := HC.out _ HSS.out.1
            go_wp2_with fail
            go_at_call 25
            refine (HCo.out _ _ _ (below_then HB.out HSS.out.1)).mono ?_
            rintro e w2 ⟨rfl, hb2⟩
            have HB2 := Lib.hid (below_then HSS.out.1 hb2)
            clear c0 c1 c2 hb2
            obtain ⟨c0, c1, c2⟩ := HC.out _ HB2.out
            go_wp2_with fail
            go_at_call 25
            refine (HCo.out _ _ _ (below_then HB.out HB2.out)).mono ?_
            rintro e w3 ⟨rfl, hb3⟩
            have HB3 := Lib.hid (below_then HB2.out hb3)
            clear c0 c1 c2 hb3
            obtain ⟨g1, p1, gc1, k1, k2, k3, k4⟩ := (HD.out.below (below_then HB.out HB3.out)).rows x hx
            have k5 := k4 v hvn
            have k6 := k4 j hlt
            rw [HT.out] at k5
            have HM1 : Hid (((x : Int), (j : Int), T l x j) ∈ l ↔ ((cstF (x : Int) (j : Int) l).2 = true ∧ (cstF (x : Int) (j : Int) l).1 = T l x j)) := cstF_iff HV.out.1
            have HM2 : Hid (((j : Int), (v : Int), 0) ∈ l ↔ (cstF (j : Int) (v : Int) l).2 = true) := by
              constructor
              · intro h; exact ((cstF_iff HV.out.1).1 h).1
              · intro h
                have hm := cstF_mem h
                have := (edge HV.out.1 hm).2.2.2.2.2.2.2.2 (by omega)
                rw [this.1] at hm; exact hm
            clear k4
            generalize hT6 : T l (x : Int) (j : Int) = tj at k6
            have HT6 := Lib.hid hT6
            clear hT6
            rw [HT6.out] at HM1
            generalize (cstF (x : Int) (j : Int) l).1 = aj at *
            generalize (cstF (x : Int) (j : Int) l).2 = isb at *
            generalize (cstF (j : Int) (v : Int) l).2 = hab at *
            generalize (cstF (j : Int) (v : Int) l).1 = zj at *
            cases isb with
            | false =>
              have HNJ : Hid (¬ (((x : Int), (j : Int), T l x j) ∈ l ∧ T l x j = T l x v ∧ ((j : Int), (v : Int), 0) ∈ l)) := fun h => by have := HM1.out.1 (by rw [← HT6.out]; exact h.1); exact Bool.noConfusion this.1
              go_wp2_with fail
              go_roundg (n - (j + 1))
              case measure => omega
              case rel => exact ⟨j + 1, by omega, by omega, Nat.le_refl _, by go_num, ⟨_, rfl⟩, ⟨_, rfl⟩, ⟨_, rfl⟩, ⟨_, rfl⟩, HB3.out, fun u h1 h2 => by
                by_cases e : u = j
                · subst e; exact HNJ.out
                · exact HSS.out.2 u h1 (by omega)⟩
            | true =>
              cases hab with
              | false =>
                have HNJ : Hid (¬ (((x : Int), (j : Int), T l x j) ∈ l ∧ T l x j = T l x v ∧ ((j : Int), (v : Int), 0) ∈ l)) := fun h => by have := HM2.out.1 h.2.2; exact Bool.noConfusion this
                go_wp2_with fail
                go_roundg (n - (j + 1))
                case measure => omega
                case rel => exact ⟨j + 1, by omega, by omega, Nat.le_refl _, by go_num, ⟨_, rfl⟩, ⟨_, rfl⟩, ⟨_, rfl⟩, ⟨_, rfl⟩, HB3.out, fun u h1 h2 => by
                  by_cases e : u = j
                  · subst e; exact HNJ.out
                  · exact HSS.out.2 u h1 (by omega)⟩
              | true =>
                by_cases ha : aj = tj
                · by_cases hb : aj = tv
                  · have HYES : Hid (FirstB (r : Int) l (x : Int) (v : Int)) := .inr ⟨by omega, (j : Int), by omega, by rw [HT6.out]; exact HM1.out.2 ⟨rfl, ha⟩, by rw [HT6.out, HT.out, ← ha]; exact hb, HM2.out.2 rfl⟩
                    subst ha
                    subst hb
                    clear HM1 HM2
                    go_wp2
                    go_ret
                    exact ⟨true, rfl, ⟨fun _ => HYES.out, fun _ => rfl⟩, below_then HB.out HB3.out⟩
                  · have z1 : (aj == tv) = false := by simpa using hb
                    subst ha
                    have HNE : Hid (¬ aj = tv) := hb
                    have HNJ : Hid (¬ (((x : Int), (j : Int), T l x j) ∈ l ∧ T l x j = T l x v ∧ ((j : Int), (v : Int), 0) ∈ l)) := fun h => HNE.out (by have := h.2.1; rw [HT6.out, HT.out] at this; exact this)
                    go_wp2_with fail
                    go_roundg (n - (j + 1))
                    case measure => omega
                    case rel => exact ⟨j + 1, by omega, by omega, Nat.le_refl _, by go_num, ⟨_, rfl⟩, ⟨_, rfl⟩, ⟨_, rfl⟩, ⟨_, rfl⟩, HB3.out, fun u h1 h2 => by
                      by_cases e : u = j
                      · subst e; exact HNJ.out
                      · exact HSS.out.2 u h1 (by omega)⟩
                · have z1 : (aj == tj) = false := by simpa using ha
                  have HNE : Hid (¬ aj = tj) := ha
                  have HNJ : Hid (¬ (((x : Int), (j : Int), T l x j) ∈ l ∧ T l x j = T l x v ∧ ((j : Int), (v : Int), 0) ∈ l)) := fun h => by have := HM1.out.1 (by rw [← HT6.out]; exact h.1); exact HNE.out this.2
                  go_wp2_with fail
                  go_roundg (n - (j + 1))
                  case measure => omega
                  case rel => exact ⟨j + 1, by omega, by omega, Nat.le_refl _, by go_num, ⟨_, rfl⟩, ⟨_, rfl⟩, ⟨_, rfl⟩, ⟨_, rfl⟩, HB3.out, fun u h1 h2 => by
                    by_cases e : u = j
                    · subst e; exact HNJ.out
                    · exact HSS.out.2 u h1 (by omega)⟩
          · have k1 : decide ((j : Int) < (n : Int)) = false := decide_eq_false (by omega)
            have HNF : Hid (¬ FirstB (r : Int) l (x : Int) (v : Int)) := by
              rintro (h | ⟨_, u, h1, h2, h3, h4⟩)
              · exact HNO.out h
              · have hu := edge HV.out.1 h2
                have hnn := HV.out.2
                obtain ⟨u, rfl⟩ : ∃ u' : Nat, u = u' := ⟨u.toNat, by omega⟩
                exact HSS.out.2 u (by omega) (by omega) ⟨h2, h3, h4⟩
            go_wp2
            go_ret
            exact ⟨false, rfl, ⟨(fun h => by cases h), fun h => absurd h HNF.out⟩, below_then HB.out HSS.out.1⟩
end Go.Proofs.Ytmlpbhankgojpaa
