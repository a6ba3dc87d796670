/-
  The walk of alternate: the best alternate for a destination and a primary next hop. Rows of alternates in memory; the walk of All. The walk of All: the alternates of a root. The law's rings of four and of five routers. Equal lists of integers, of alternates. The law's examples.
-/
import Derived.Test.YtmbogobebllheaaMl
import Derived.Test.YtmbogobebllheaaMr
import Derived.Test.YtmbogobebllheaaMm
import Derived.BigQuiet
namespace Go.Proofs.Ytmbogobebllheaa
open Go.RowKit HM GM SP Go.Lib
set_option linter.unusedSimpArgs false
set_option linter.unusedVariables false
set_option maxHeartbeats 4000000
set_option maxRecDepth 100000
def alZ : Al := ⟨0, 0, 0, 0, false⟩
def bv (o : Option (Al × Int)) : Al × Int := o.getD (alZ, 0)
theorem set6 {w1 : World} {b : Nat} {a0 a1 a2 a3 a4 a5 : Value} {t : TypeId} (h : w1.heap[b]? = some (.cells #[a0, a1, a2, a3, a4, a5] t (0, 0))) (v0 v1 v2 v3 v4 v5 : Value) :
    ((((((w1.setCell ⟨b, 0, none⟩ v0).setCell ⟨b, 1, none⟩ v1).setCell ⟨b, 2, none⟩ v2).setCell ⟨b, 3, none⟩ v3).setCell ⟨b, 4, none⟩ v4).setCell ⟨b, 5, none⟩ v5).heap[b]? = some (.cells #[v0, v1, v2, v3, v4, v5] t (0, 0)) := by
  rw [heap_set_eq (heap_set_eq (heap_set_eq (heap_set_eq (heap_set_eq (heap_set_eq h)))))]; rfl
theorem set5 {w1 : World} {b : Nat} {a0 a1 a2 a3 a4 : Value} {t : TypeId} (h : w1.heap[b]? = some (.cells #[a0, a1, a2, a3, a4] t (0, 0))) (v0 v1 v2 v3 v4 : Value) :
    (((((w1.setCell ⟨b, 0, none⟩ v0).setCell ⟨b, 1, none⟩ v1).setCell ⟨b, 2, none⟩ v2).setCell ⟨b, 3, none⟩ v3).setCell ⟨b, 4, none⟩ v4).heap[b]? = some (.cells #[v0, v1, v2, v3, v4] t (0, 0)) := by
  rw [heap_set_eq (heap_set_eq (heap_set_eq (heap_set_eq (heap_set_eq h))))]; rfl
structure AtS (w W : World) (acc : Option (Al × Int)) : Prop where
  b : Below w.heap.size w W
  h0 : W.heap[w.heap.size]? = some (.cells #[.int .i64 0, .int .i64 0, .int .i64 0, .int .i64 0, .bool false] 47 (0, 0))
  h1 : W.heap[w.heap.size + 1]? = some (caO (bv acc))
theorem AtS.start (w : World) : AtS w ((w.alloc (.cells #[.int .i64 0, .int .i64 0, .int .i64 0, .int .i64 0, .bool false] 47)).alloc (.cells #[.int .i64 0, .int .i64 0, .int .i64 0, .int .i64 0, .bool false, .int .i64 0] 131)) none := by
  refine ⟨below_two _ _ _, ?_, ?_⟩
  · rw [Below.heap_alloc _ _ _ (by simp), heap_alloc_new]
  · exact heap_new1 _ _ (by simp)
theorem AtS.below {w W W1 : World} {acc : Option (Al × Int)} (h : AtS w W acc) (hb : Below W.heap.size W W1) : AtS w W1 acc :=
  ⟨below_then h.b hb, (hb.block _ (lt_block h.h0)).trans h.h0, (hb.block _ (lt_block h.h1)).trans h.h1⟩
theorem AtS.put {w W : World} {acc : Option (Al × Int)} (h : AtS w W acc) (c : Al × Int) :
    AtS w ((((((W.setCell ⟨w.heap.size + 1, 0, none⟩ (.int .i64 c.1.dest)).setCell ⟨w.heap.size + 1, 1, none⟩ (.int .i64 c.1.prim)).setCell ⟨w.heap.size + 1, 2, none⟩ (.int .i64 c.1.via)).setCell ⟨w.heap.size + 1, 3, none⟩ (.int .i64 c.1.kind)).setCell ⟨w.heap.size + 1, 4, none⟩ (.bool c.1.down)).setCell ⟨w.heap.size + 1, 5, none⟩ (.int .i64 c.2)) (some c) := by
  have hh : ∀ k, w.heap.size ≤ (Addr.mk (w.heap.size + 1) k none).block := fun k => Nat.le_succ _
  refine ⟨(((((h.b.setCell (hh 0) _).setCell (hh 1) _).setCell (hh 2) _).setCell (hh 3) _).setCell (hh 4) _).setCell (hh 5) _, ?_, set6 h.h1 _ _ _ _ _ _⟩
  rw [heap_set_ne (by omega), heap_set_ne (by omega), heap_set_ne (by omega), heap_set_ne (by omega), heap_set_ne (by omega), heap_set_ne (by omega)]
  exact h.h0
theorem stepA_skip {l : List E} {root d p : Int} {acc : Option (Al × Int)} {e : E} (h : e.2.1 = p ∨ ¬ Avoid l e.2.1 root d) : stepA l root d p acc e = acc := by unfold stepA; rw [if_pos h]
theorem stepA_new {l : List E} {root d p : Int} {e : E} (h : ¬ (e.2.1 = p ∨ ¬ Avoid l e.2.1 root d)) : stepA l root d p none e = some (weighA l root d p e) := by unfold stepA; rw [if_neg h]
theorem stepA_yes {l : List E} {root d p : Int} {b : Al × Int} {e : E} (h : ¬ (e.2.1 = p ∨ ¬ Avoid l e.2.1 root d)) (hb : betterA (weighA l root d p e) b = true) : stepA l root d p (some b) e = some (weighA l root d p e) := by unfold stepA; rw [if_neg h]; dsimp only; rw [if_pos hb]
theorem stepA_no {l : List E} {root d p : Int} {b : Al × Int} {e : E} (h : ¬ (e.2.1 = p ∨ ¬ Avoid l e.2.1 root d)) (hb : betterA (weighA l root d p e) b = false) : stepA l root d p (some b) e = some b := by unfold stepA; rw [if_neg h]; dsimp only; rw [hb]; rfl
theorem alt_any (vd ve : Value) (l es : List E) (r root d p : Nat) (w : World) (hrd : RdR w vd (gT (allRow l r) r r)) (hv : Valid (r : Int) 0 l) (hre : Rd3 w ve es) (hes : ∀ e ∈ es, e ∈ l ∧ e.1 = (root : Int)) (hroot : root < r) (hd : d < r) (hp : p < r) (hel : es.length ≤ 1024) :
    Calls Try.prog 69 #[vd, ve, .int .i64 (d : Int), .int .i64 (p : Int)] w fun e w' => e = .returned (.tuple #[alV (bv (bestA l root d p es)).1, .bool (bestA l root d p es).isSome]) ∧ Below w.heap.size w w' := by
  have hft := all_fitV hv
  have ht := all_ent l r
  have HLF : Hid (∀ (y : Nat) W, Below w.heap.size w W → Calls Try.prog 18 #[vd, .int .i64 (root : Int), .int .i64 (y : Int), .int .i64 (d : Int)] W fun e w' => e = .returned (.bool (avT (gT (allRow l r) r r) y root d)) ∧ Below W.heap.size W w') := fun y W hW => loopfree_any _ vd root y d W (hrd.below hW) hft
  have HAV : Hid (∀ y : Nat, y < r → (avT (gT (allRow l r) r r) y root d = true ↔ Avoid l y root d)) := fun y hy => avT_iff (n := r) ht ⟨by omega, by omega⟩ ⟨by omega, by omega⟩ ⟨by omega, by omega⟩
  have HWG : Hid (∀ (y : Nat) z W, Below w.heap.size w W → y < r → ((root : Int), (y : Int), z) ∈ l → Calls Try.prog 112 #[vd, .agg #[.int .i64 (root : Int), .int .i64 (y : Int), .int .i64 z], .int .i64 (d : Int), .int .i64 (p : Int)] W fun e w' => e = .returned (caV (weighA l root d p ((root : Int), (y : Int), z))) ∧ Below W.heap.size W w') := fun y z W hW hy hm => by
    have hed := edge hv hm
    exact weigh_any vd l r root y d p z W (hrd.below hW) hv hroot hy hd hp ⟨by omega, by omega⟩ trivial hm
  have HED : Hid (∀ e ∈ es, ∃ (y : Nat) (z : Int), e = ((root : Int), (y : Int), z) ∧ y < r ∧ ((root : Int), (y : Int), z) ∈ l) := fun e he => by
    obtain ⟨h1, h2⟩ := hes e he
    obtain ⟨a, b, c⟩ := e
    have hed := edge hv h1
    dsimp only at h2
    subst h2
    exact ⟨b.toNat, c, by simp; omega, by omega, by have : ((b.toNat : Nat) : Int) = b := by omega
                                                    rw [this]; exact h1⟩
  obtain ⟨va, vc, hvf⟩ := hrd.form
  subst hvf
  generalize (gT (allRow l r) r r).length = vn at *
  obtain ⟨ad, cap, rfl, hcap1, hcap2, hc⟩ := hre
  have HC := Lib.hid hc
  obtain ⟨L, hL⟩ : ∃ L, es.length = L := ⟨_, rfl⟩
  rw [hL] at hcap1 hel ⊢
  have HL := Lib.hid hL
  have HS0 := Lib.hid (AtS.start w)
  have HA0 : Hid (bestA l root d p (es.take 0) = none) := rfl
  have HP : Hid (p < r) := hp
  clear hc hL hrd hv hft ht hes
  go_enter Try.func69, Try.ntmps69
  go_wp2_with fail
  generalize ((w.alloc (.cells #[.int .i64 0, .int .i64 0, .int .i64 0, .int .i64 0, .bool false] 47)).alloc (.cells #[.int .i64 0, .int .i64 0, .int .i64 0, .int .i64 0, .bool false, .int .i64 0] 131)) = V at *
  go_loopg [11, 14, 15, 19] L (fun g s11 s14 s15 s19 wr => ∃ (k : Nat) (acc : Option (Al × Int)), k ≤ L ∧ L - k ≤ g ∧ s11 = .bool acc.isSome ∧ (∃ q, q = s14) ∧ (∃ q, q = s15) ∧ s19 = .int .i64 (k : Int) ∧ Hid (bestA l root d p (es.take k) = acc) ∧ Hid (AtS w wr acc))
  case atStart => exact ⟨0, none, by omega, by omega, rfl, ⟨_, rfl⟩, ⟨_, rfl⟩, rfl, HA0, HS0⟩
  case round =>
    clear HS0 HA0
    obtain ⟨k, acc, hk, hg, rfl, ⟨u14, rfl⟩, ⟨u15, rfl⟩, rfl, HA, HS⟩ := hrel
    by_cases hlt : k < L
    · obtain ⟨e, he⟩ : ∃ y, es[k]? = some y := ⟨_, List.getElem?_eq_getElem (by have := HL.out; omega)⟩
      obtain ⟨bl, off, rfl, hbl, c0, c1, c2⟩ := HC.out k e he
      have g0 := carryB HS.out.b hbl c0
      have g1 := carryB HS.out.b hbl c1
      have g2 := carryB HS.out.b hbl c2
      have hst : bestA l root d p (es.take (k + 1)) = stepA l root d p acc e := by rw [List.take_add_one, he]; exact (bestA_snoc l root d p _ e).trans (by rw [HA.out])
      have HST := Lib.hid hst
      obtain ⟨y, z, rfl, hy, hm⟩ := HED.out e (List.mem_of_getElem? he)
      have HM := Lib.hid hm
      dsimp only at g0 g1 g2
      have k0 : (0 : Int) ≤ (k : Int) := by omega
      have k1 : (k : Int) < (L : Int) := by omega
      have HS1 : Hid (AtS w (wr.alloc (.cells #[.int .i64 (root : Int), .int .i64 (y : Int), .int .i64 z] 72)) acc) := HS.out.below (below_alloc _ _)
      clear c0 c1 c2 he hbl hst hm HS HA
      by_cases hyp : y = p
      · subst hyp
        have HA2 : Hid (bestA l root d y (es.take (k + 1)) = acc) := by show _ = _; rw [HST.out]; exact stepA_skip (.inl rfl)
        clear HST
        go_wp2_with fail
        go_roundg (L - (k + 1))
        case measure => omega
        case rel => exact ⟨k + 1, acc, by omega, Nat.le_refl _, rfl, ⟨_, rfl⟩, ⟨_, rfl⟩, by go_num, HA2, HS1⟩
      · have q1 : ((y : Int) == (p : Int)) = false := by simp; omega
        go_wp2_with fail
        go_at_call 18
        refine (HLF.out y _ HS1.out.b).mono ?_
        rintro e w1 ⟨rfl, hb⟩
        have HS2 := Lib.hid (HS1.out.below hb)
        have HE1 := Lib.hid hb
        clear hb
        cases hav : avT (gT (allRow l r) r r) y root d
        · have HA2 : Hid (bestA l root d p (es.take (k + 1)) = acc) := by
            show _ = _; rw [HST.out]; exact stepA_skip (.inr (fun h => by have := (HAV.out y hy).2 h; rw [hav] at this; cases this))
          clear HST HE1 hav
          go_wp2_with fail
          go_roundg (L - (k + 1))
          case measure => omega
          case rel => exact ⟨k + 1, acc, by omega, Nat.le_refl _, rfl, ⟨_, rfl⟩, ⟨_, rfl⟩, by go_num, HA2, HS2⟩
        · have HNS : Hid (¬ ((y : Int) = (p : Int) ∨ ¬ Avoid l (y : Int) root d)) := fun h => h.elim (fun h => hyp (by omega)) (fun h => h ((HAV.out y hy).1 hav))
          clear hav
          have e0 : w1.cell? ⟨wr.heap.size, 0, none⟩ = some (.int .i64 (root : Int)) := carry HE1.out (cell_of (heap_alloc_new wr _) rfl)
          have e1 : w1.cell? ⟨wr.heap.size, 1, none⟩ = some (.int .i64 (y : Int)) := carry HE1.out (cell_of (heap_alloc_new wr _) rfl)
          have e2 : w1.cell? ⟨wr.heap.size, 2, none⟩ = some (.int .i64 z) := carry HE1.out (cell_of (heap_alloc_new wr _) rfl)
          go_wp2_with fail
          clear e0 e1 e2 HE1
          go_at_call 112
          refine (HWG.out y z _ HS2.out.b hy HM.out).mono ?_
          rintro e w2 ⟨rfl, hb⟩
          have HS3 := Lib.hid (HS2.out.below hb)
          obtain ⟨c, hcw⟩ : ∃ c, weighA l root d p ((root : Int), (y : Int), z) = c := ⟨_, rfl⟩
          rw [hcw]
          have HCW := Lib.hid hcw
          obtain ⟨⟨cd, cp, cvv, ck, cw⟩, cc⟩ := c
          have HS4 : Hid (AtS w (w2.alloc (caO (⟨cd, cp, cvv, ck, cw⟩, cc))) acc) := HS3.out.below (below_alloc _ _)
          have HC4 : Hid ((w2.alloc (caO (⟨cd, cp, cvv, ck, cw⟩, cc))).heap[w2.heap.size]? = some (caO (⟨cd, cp, cvv, ck, cw⟩, cc))) := heap_alloc_new _ _
          clear hb HS2 HS3 hcw
          unfold caV
          unfold caO at HS4 HC4
          dsimp only at HS4 HC4 ⊢
          cases acc with
          | none =>
            have HA2 : Hid (bestA l root d p (es.take (k + 1)) = some (⟨cd, cp, cvv, ck, cw⟩, cc)) := by show _ = _; rw [HST.out, stepA_new HNS.out, HCW.out]
            have HSN := Lib.hid (HS4.out.put (⟨cd, cp, cvv, ck, cw⟩, cc))
            dsimp only at HSN
            clear HST HNS HCW
            have s0 : (w2.alloc (.cells #[.int .i64 cd, .int .i64 cp, .int .i64 cvv, .int .i64 ck, .bool cw, .int .i64 cc] 131)).cell? ⟨w.heap.size + 1, 0, none⟩ = some (.int .i64 (bv none).1.dest) := cell_of HS4.out.h1 rfl
            have f0 : (w2.alloc (.cells #[.int .i64 cd, .int .i64 cp, .int .i64 cvv, .int .i64 ck, .bool cw, .int .i64 cc] 131)).frozen? ⟨w.heap.size + 1, 0, none⟩ = false := free_of HS4.out.h1 _
            have s1 : (w2.alloc (.cells #[.int .i64 cd, .int .i64 cp, .int .i64 cvv, .int .i64 ck, .bool cw, .int .i64 cc] 131)).cell? ⟨w.heap.size + 1, 1, none⟩ = some (.int .i64 (bv none).1.prim) := cell_of HS4.out.h1 rfl
            have f1 : (w2.alloc (.cells #[.int .i64 cd, .int .i64 cp, .int .i64 cvv, .int .i64 ck, .bool cw, .int .i64 cc] 131)).frozen? ⟨w.heap.size + 1, 1, none⟩ = false := free_of HS4.out.h1 _
            have s2 : (w2.alloc (.cells #[.int .i64 cd, .int .i64 cp, .int .i64 cvv, .int .i64 ck, .bool cw, .int .i64 cc] 131)).cell? ⟨w.heap.size + 1, 2, none⟩ = some (.int .i64 (bv none).1.via) := cell_of HS4.out.h1 rfl
            have f2 : (w2.alloc (.cells #[.int .i64 cd, .int .i64 cp, .int .i64 cvv, .int .i64 ck, .bool cw, .int .i64 cc] 131)).frozen? ⟨w.heap.size + 1, 2, none⟩ = false := free_of HS4.out.h1 _
            have s3 : (w2.alloc (.cells #[.int .i64 cd, .int .i64 cp, .int .i64 cvv, .int .i64 ck, .bool cw, .int .i64 cc] 131)).cell? ⟨w.heap.size + 1, 3, none⟩ = some (.int .i64 (bv none).1.kind) := cell_of HS4.out.h1 rfl
            have f3 : (w2.alloc (.cells #[.int .i64 cd, .int .i64 cp, .int .i64 cvv, .int .i64 ck, .bool cw, .int .i64 cc] 131)).frozen? ⟨w.heap.size + 1, 3, none⟩ = false := free_of HS4.out.h1 _
            have s4 : (w2.alloc (.cells #[.int .i64 cd, .int .i64 cp, .int .i64 cvv, .int .i64 ck, .bool cw, .int .i64 cc] 131)).cell? ⟨w.heap.size + 1, 4, none⟩ = some (.bool (bv none).1.down) := cell_of HS4.out.h1 rfl
            have f4 : (w2.alloc (.cells #[.int .i64 cd, .int .i64 cp, .int .i64 cvv, .int .i64 ck, .bool cw, .int .i64 cc] 131)).frozen? ⟨w.heap.size + 1, 4, none⟩ = false := free_of HS4.out.h1 _
            have s5 : (w2.alloc (.cells #[.int .i64 cd, .int .i64 cp, .int .i64 cvv, .int .i64 ck, .bool cw, .int .i64 cc] 131)).cell? ⟨w.heap.size + 1, 5, none⟩ = some (.int .i64 (bv none).2) := cell_of HS4.out.h1 rfl
            have f5 : (w2.alloc (.cells #[.int .i64 cd, .int .i64 cp, .int .i64 cvv, .int .i64 ck, .bool cw, .int .i64 cc] 131)).frozen? ⟨w.heap.size + 1, 5, none⟩ = false := free_of HS4.out.h1 _
            clear HS4 HC4
            have i0 : (none : Option (Al × Int)).isSome = false := rfl
            simp only [i0]
            go_wp2_with fail
            go_roundg (L - (k + 1))
            case measure => omega
            case rel => exact ⟨k + 1, some (⟨cd, cp, cvv, ck, cw⟩, cc), by omega, Nat.le_refl _, rfl, ⟨_, rfl⟩, ⟨_, rfl⟩, by go_num, HA2, HSN⟩
          | some b =>
            have HBT : Hid (∀ W, W.heap[w.heap.size + 1]? = some (caO b) → Calls Try.prog 111 #[caV (⟨cd, cp, cvv, ck, cw⟩, cc), .pointer (some ⟨w.heap.size + 1, 0, none⟩)] W fun e w' => e = .returned (.bool (betterA (⟨cd, cp, cvv, ck, cw⟩, cc) b)) ∧ Below W.heap.size W w') := fun W hW => better_any _ b _ W hW
            unfold caV at HBT
            dsimp only at HBT
            have i1 : (some b : Option (Al × Int)).isSome = true := rfl
            simp only [i1]
            go_wp2_with fail
            refine (HBT.out _ HS4.out.h1).mono ?_
            rintro e w3 ⟨rfl, hb⟩
            have HS5 := Lib.hid (HS4.out.below hb)
            have hc5 := (hb.block _ (lt_block HC4.out)).trans HC4.out
            have HC5 := Lib.hid hc5
            clear hb hc5 HS4 HC4 HBT
            cases hbt : betterA (⟨cd, cp, cvv, ck, cw⟩, cc) b
            · have HA2 : Hid (bestA l root d p (es.take (k + 1)) = some b) := by show _ = _; rw [HST.out]; exact stepA_no HNS.out (by rw [HCW.out]; exact hbt)
              clear HST HNS HCW hbt
              go_wp2_with fail
              go_roundg (L - (k + 1))
              case measure => omega
              case rel => exact ⟨k + 1, some b, by omega, Nat.le_refl _, rfl, ⟨_, rfl⟩, ⟨_, rfl⟩, by go_num, HA2, HS5⟩
            · have HA2 : Hid (bestA l root d p (es.take (k + 1)) = some (⟨cd, cp, cvv, ck, cw⟩, cc)) := by show _ = _; rw [HST.out, stepA_yes HNS.out (by rw [HCW.out]; exact hbt), HCW.out]
              have HSN := Lib.hid (HS5.out.put (⟨cd, cp, cvv, ck, cw⟩, cc))
              dsimp only at HSN
              clear HST HNS HCW hbt
              have s0 : w3.cell? ⟨w.heap.size + 1, 0, none⟩ = some (.int .i64 (bv (some b)).1.dest) := cell_of HS5.out.h1 rfl
              have f0 : w3.frozen? ⟨w.heap.size + 1, 0, none⟩ = false := free_of HS5.out.h1 _
              have s1 : w3.cell? ⟨w.heap.size + 1, 1, none⟩ = some (.int .i64 (bv (some b)).1.prim) := cell_of HS5.out.h1 rfl
              have f1 : w3.frozen? ⟨w.heap.size + 1, 1, none⟩ = false := free_of HS5.out.h1 _
              have s2 : w3.cell? ⟨w.heap.size + 1, 2, none⟩ = some (.int .i64 (bv (some b)).1.via) := cell_of HS5.out.h1 rfl
              have f2 : w3.frozen? ⟨w.heap.size + 1, 2, none⟩ = false := free_of HS5.out.h1 _
              have s3 : w3.cell? ⟨w.heap.size + 1, 3, none⟩ = some (.int .i64 (bv (some b)).1.kind) := cell_of HS5.out.h1 rfl
              have f3 : w3.frozen? ⟨w.heap.size + 1, 3, none⟩ = false := free_of HS5.out.h1 _
              have s4 : w3.cell? ⟨w.heap.size + 1, 4, none⟩ = some (.bool (bv (some b)).1.down) := cell_of HS5.out.h1 rfl
              have f4 : w3.frozen? ⟨w.heap.size + 1, 4, none⟩ = false := free_of HS5.out.h1 _
              have s5 : w3.cell? ⟨w.heap.size + 1, 5, none⟩ = some (.int .i64 (bv (some b)).2) := cell_of HS5.out.h1 rfl
              have f5 : w3.frozen? ⟨w.heap.size + 1, 5, none⟩ = false := free_of HS5.out.h1 _
              have t0 : w3.cell? ⟨w2.heap.size, 0, none⟩ = some (.int .i64 cd) := cell_of HC5.out rfl
              have t1 : w3.cell? ⟨w2.heap.size, 1, none⟩ = some (.int .i64 cp) := cell_of HC5.out rfl
              have t2 : w3.cell? ⟨w2.heap.size, 2, none⟩ = some (.int .i64 cvv) := cell_of HC5.out rfl
              have t3 : w3.cell? ⟨w2.heap.size, 3, none⟩ = some (.int .i64 ck) := cell_of HC5.out rfl
              have t4 : w3.cell? ⟨w2.heap.size, 4, none⟩ = some (.bool cw) := cell_of HC5.out rfl
              have t5 : w3.cell? ⟨w2.heap.size, 5, none⟩ = some (.int .i64 cc) := cell_of HC5.out rfl
              clear HS5 HC5
              go_wp2_with fail
              go_roundg (L - (k + 1))
              case measure => omega
              case rel => exact ⟨k + 1, some (⟨cd, cp, cvv, ck, cw⟩, cc), by omega, Nat.le_refl _, rfl, ⟨_, rfl⟩, ⟨_, rfl⟩, by go_num, HA2, HSN⟩
    · have k1 : decide ((k : Int) < (L : Int)) = false := decide_eq_false (by omega)
      have HF : Hid (bestA l root d p es = acc) := by
        have := HA.out
        rw [List.take_of_length_le (by have := HL.out; omega)] at this
        exact this
      obtain ⟨⟨⟨ad1, ap1, av1, ak1, aw1⟩, ac1⟩, hbv⟩ : ∃ x, bv acc = x := ⟨_, rfl⟩
      have h1 := HS.out.h1
      have h0 := HS.out.h0
      rw [hbv] at h1
      have HBV := Lib.hid hbv
      unfold caO at h1
      dsimp only at h1
      have hbel := HS.out.b
      have HEN := Lib.hid (And.intro hbel (And.intro h0 h1))
      have t0 : wr.cell? ⟨w.heap.size + 1, 0, none⟩ = some (.int .i64 ad1) := cell_of h1 rfl
      have t1 : wr.cell? ⟨w.heap.size + 1, 1, none⟩ = some (.int .i64 ap1) := cell_of h1 rfl
      have t2 : wr.cell? ⟨w.heap.size + 1, 2, none⟩ = some (.int .i64 av1) := cell_of h1 rfl
      have t3 : wr.cell? ⟨w.heap.size + 1, 3, none⟩ = some (.int .i64 ak1) := cell_of h1 rfl
      have t4 : wr.cell? ⟨w.heap.size + 1, 4, none⟩ = some (.bool aw1) := cell_of h1 rfl
      have s0 : wr.cell? ⟨w.heap.size, 0, none⟩ = some (.int .i64 0) := cell_of h0 rfl
      have f0 : wr.frozen? ⟨w.heap.size, 0, none⟩ = false := free_of h0 _
      have s1 : wr.cell? ⟨w.heap.size, 1, none⟩ = some (.int .i64 0) := cell_of h0 rfl
      have f1 : wr.frozen? ⟨w.heap.size, 1, none⟩ = false := free_of h0 _
      have s2 : wr.cell? ⟨w.heap.size, 2, none⟩ = some (.int .i64 0) := cell_of h0 rfl
      have f2 : wr.frozen? ⟨w.heap.size, 2, none⟩ = false := free_of h0 _
      have s3 : wr.cell? ⟨w.heap.size, 3, none⟩ = some (.int .i64 0) := cell_of h0 rfl
      have f3 : wr.frozen? ⟨w.heap.size, 3, none⟩ = false := free_of h0 _
      have s4 : wr.cell? ⟨w.heap.size, 4, none⟩ = some (.bool false) := cell_of h0 rfl
      have f4 : wr.frozen? ⟨w.heap.size, 4, none⟩ = false := free_of h0 _
      clear HS hbv h0 h1 hbel HA
      go_wp2_with fail
      have hh : ∀ k, w.heap.size ≤ (Addr.mk w.heap.size k none).block := fun k => Nat.le_refl _
      have HB5 := Lib.hid (((((HEN.out.1.setCell (hh 0) (.int .i64 ad1)).setCell (hh 1) (.int .i64 ap1)).setCell (hh 2) (.int .i64 av1)).setCell (hh 3) (.int .i64 ak1)).setCell (hh 4) (.bool aw1))
      have HX5 := Lib.hid (set5 HEN.out.2.1 (.int .i64 ad1) (.int .i64 ap1) (.int .i64 av1) (.int .i64 ak1) (.bool aw1))
      clear t0 t1 t2 t3 t4 s0 s1 s2 s3 s4 f0 f1 f2 f3 f4 HEN
      generalize (((((wr.setCell ⟨w.heap.size, 0, none⟩ (.int .i64 ad1)).setCell ⟨w.heap.size, 1, none⟩ (.int .i64 ap1)).setCell ⟨w.heap.size, 2, none⟩ (.int .i64 av1)).setCell ⟨w.heap.size, 3, none⟩ (.int .i64 ak1)).setCell ⟨w.heap.size, 4, none⟩ (.bool aw1)) = Wf at *
      have q0 : Wf.cell? ⟨w.heap.size, 0, none⟩ = some (.int .i64 ad1) := cell_of HX5.out rfl
      have q1 : Wf.cell? ⟨w.heap.size, 1, none⟩ = some (.int .i64 ap1) := cell_of HX5.out rfl
      have q2 : Wf.cell? ⟨w.heap.size, 2, none⟩ = some (.int .i64 av1) := cell_of HX5.out rfl
      have q3 : Wf.cell? ⟨w.heap.size, 3, none⟩ = some (.int .i64 ak1) := cell_of HX5.out rfl
      have q4 : Wf.cell? ⟨w.heap.size, 4, none⟩ = some (.bool aw1) := cell_of HX5.out rfl
      exact bodyPost_ret (v := .tuple #[.agg #[.int .i64 ad1, .int .i64 ap1, .int .i64 av1, .int .i64 ak1, .bool aw1], .bool acc.isSome]) (by simp [results, Try.results69, go_sem, q0, q1, q2, q3, q4]) rfl ⟨by rw [HF.out, HBV.out]; rfl, HB5.out⟩
end Go.Proofs.Ytmbogobebllheaa
namespace Go.Proofs.Ytmbogobebllheaa
open Go.RowKit HM GM SP Go.Lib
set_option linter.unusedSimpArgs false
set_option linter.unusedVariables false
set_option maxHeartbeats 4000000
set_option maxRecDepth 100000
def flatA (l : List Al) : List Value := l.flatMap alC
theorem alC_len (x : Al) : (alC x).length = 5 := rfl
theorem alC_one (x : Al) : ∀ v ∈ alC x, v.oneCell' = true := by
  intro v hv; simp [alC] at hv; rcases hv with rfl | rfl | rfl | rfl | rfl <;> rfl
theorem flatA_snoc (l : List Al) (x : Al) : flatA (l ++ [x]) = flatA l ++ alC x := by unfold flatA; simp
theorem flatA_get : ∀ (l : List Al) (k : Nat) (x : Al), l[k]? = some x → ∀ j u, (alC x)[j]? = some u → (flatA l)[k * 5 + j]? = some u
  | [], k, x, h => by simp at h
  | y :: r, 0, x, h => by
    simp at h; subst h
    intro j u hj
    have hl := (List.getElem?_eq_some_iff.1 hj).1
    unfold flatA
    rw [List.flatMap_cons, Nat.zero_mul, Nat.zero_add, List.getElem?_append_left hl]; exact hj
  | y :: r, k + 1, x, h => by
    intro j u hj
    have ih := flatA_get r k x (by simpa using h) j u hj
    have e : flatA (y :: r) = alC y ++ flatA r := by unfold flatA; rw [List.flatMap_cons]
    rw [e, List.getElem?_append_right (by rw [alC_len]; omega), alC_len, show (k + 1) * 5 + j - 5 = k * 5 + j by omega]
    exact ih
theorem info47 : (Try.prog.info? 47).map (fun i => (i.zero, i.size, i.bytes)) = some (some (.agg #[.int .i64 0, .int .i64 0, .int .i64 0, .int .i64 0, .bool false]), 5, 40) := by kernel_rfl
/-- a slice of alternates as memory reads -/
def RdA (w : World) (v : Value) (l : List Al) : Prop :=
  ∃ ad cap, v = .slice ad l.length cap ∧ l.length ≤ cap ∧ cap ≤ 9223372036854775807 ∧ ∀ k x, l[k]? = some x → ∃ b off, ad = some ⟨b, off, none⟩ ∧ b < w.heap.size ∧
    w.cell? ⟨b, off + k * 5, none⟩ = some (.int .i64 x.dest) ∧ w.cell? ⟨b, off + k * 5 + 1, none⟩ = some (.int .i64 x.prim) ∧ w.cell? ⟨b, off + k * 5 + 2, none⟩ = some (.int .i64 x.via) ∧ w.cell? ⟨b, off + k * 5 + 3, none⟩ = some (.int .i64 x.kind) ∧ w.cell? ⟨b, off + k * 5 + 4, none⟩ = some (.bool x.down)
theorem RdA.below {w w' : World} {v : Value} {l : List Al} (h : RdA w v l) (hb : Below w.heap.size w w') : RdA w' v l := by
  obtain ⟨ad, cap, rfl, h1, h2, hc⟩ := h
  refine ⟨ad, cap, rfl, h1, h2, fun k x hk => ?_⟩
  obtain ⟨b, off, e, hlt, c0, c1, c2, c3, c4⟩ := hc k x hk
  exact ⟨b, off, e, Nat.lt_of_lt_of_le hlt hb.size, carry hb c0, carry hb c1, carry hb c2, carry hb c3, carry hb c4⟩
theorem RdA.form {w : World} {v : Value} {l : List Al} (h : RdA w v l) : ∃ ad cap, v = .slice ad l.length cap := by obtain ⟨ad, cap, rfl, _⟩ := h; exact ⟨ad, cap, rfl⟩
theorem rdA_nil (w : World) : RdA w (.slice none 0 0) [] := ⟨none, 0, rfl, Nat.le_refl _, by omega, fun k x h => by simp at h⟩
theorem rdA_own {w : World} {B : Nat} {v : Value} {l : List Al} (h : w.ownsRow B 47 5 v l.length (flatA l)) : RdA w v l := by
  rcases h.2 with ⟨rfl, hn⟩ | ⟨g, cap, cur, rfl, hB, hg, hnc, hcm, _, _⟩
  · obtain rfl := List.length_eq_zero_iff.1 hn
    exact rdA_nil w
  · refine ⟨some ⟨g, 0, none⟩, cap, rfl, hnc, by unfold maxLen at hcm; omega, fun k x hk => ?_⟩
    have hlt := (List.getElem?_eq_some_iff.1 hk).1
    have key : ∀ j u, j < 5 → (alC x)[j]? = some u → w.cell? ⟨g, 0 + (k * 5 + j), none⟩ = some u := fun j u hj5 hj => by
      rw [Nat.zero_add, h.cellAt (k * 5 + j) (by omega)]; exact flatA_get l k x hk j u hj
    exact ⟨g, 0, rfl, (Array.getElem?_eq_some_iff.1 hg).1, key 0 _ (by omega) rfl, key 1 _ (by omega) rfl, key 2 _ (by omega) rfl, key 3 _ (by omega) rfl, key 4 _ (by omega) rfl⟩
theorem cellA_new (w : World) (a b c d e : Value) (t : TypeId) {g : Nat} (hb : g = w.heap.size) : ∀ j u, [a, b, c, d, e][j]? = some u → (w.alloc (.cells #[a, b, c, d, e] t)).cell? ((⟨g, 0, none⟩ : Addr).add j) = some u := by
  subst hb
  intro j u hj
  match j, hj with
  | 0, hj => simp at hj; subst hj; simp [Addr.add]
  | 1, hj => simp at hj; subst hj; simp [Addr.add]
  | 2, hj => simp at hj; subst hj; simp [Addr.add]
  | 3, hj => simp at hj; subst hj; simp [Addr.add]
  | 4, hj => simp at hj; subst hj; simp [Addr.add]
  | (j + 5), hj => simp at hj
/-- alternates in a row of the call's own -/
def AlS (w : World) (v : Value) (o : List Al) (W : World) : Prop := W.ownsRow w.heap.size 47 5 v o.length (flatA o) ∧ Below w.heap.size w W
theorem AlS.push {w W W2 : World} {v v' : Value} {o : List Al} (h : AlS w v o W) (y : Al) (ob : Obj) (hown : W2.ownsRow w.heap.size 47 5 v' (o.length + 1) (flatA o ++ alC y)) (hg : (W.alloc ob).grownBy W2 v.ownBlock) : AlS w v' (o ++ [y]) W2 :=
  ⟨by rw [flatA_snoc, List.length_append]; exact hown, (h.2.alloc h.2.size ob).grown hg (by have := h.2.size; simp; omega) (fun k hk => (row_lt h.1 hk).1)⟩
theorem AlS.below {w W W1 : World} {v : Value} {o : List Al} (h : AlS w v o W) (hb : Below W.heap.size W W1) : AlS w v o W1 := ⟨row_below h.1 hb, below_then h.2 hb⟩
end Go.Proofs.Ytmbogobebllheaa
namespace Go.Proofs.Ytmbogobebllheaa
open Go.RowKit HM GM SP Go.Lib
set_option linter.unusedSimpArgs false
set_option linter.unusedVariables false
set_option maxHeartbeats 4000000
set_option maxRecDepth 100000
/-- what All answers -/
def LaR (R N : Int) (l : List E) (root : Int) (al : List Al) (er : Int) : Prop :=
  (roE R N l ≠ 0 ∧ er = roE R N l ∧ al = []) ∨ (roE R N l = 0 ∧ ¬ (0 ≤ root ∧ root < R) ∧ er = 5 ∧ al = []) ∨ (roE R N l = 0 ∧ (0 ≤ root ∧ root < R) ∧ er = 0 ∧ ∃ t, IsTre R 0 l root t ∧ al = allA l root R.toNat t.hops)
theorem LaR.unique {R N : Int} {l : List E} {root er er' : Int} {a a' : List Al} (h : LaR R N l root a er) (k : LaR R N l root a' er') : a = a' ∧ er = er' := by
  rcases h with ⟨a1, a2, a3⟩ | ⟨a1, a2, a3, a4⟩ | ⟨a1, a2, a3, t, a4, a5⟩ <;> rcases k with ⟨b1, b2, b3⟩ | ⟨b1, b2, b3, b4⟩ | ⟨b1, b2, b3, u, b4, b5⟩
  · exact ⟨by rw [a3, b3], by rw [a2, b2]⟩
  · exact absurd b1 a1
  · exact absurd b1 a1
  · exact absurd a1 b1
  · exact ⟨by rw [a4, b4], by rw [a3, b3]⟩
  · exact absurd b2 a2
  · exact absurd a1 b1
  · exact absurd a2 b2
  · rw [a4.unique b4] at a5
    exact ⟨by rw [a5, b5], by rw [a3, b3]⟩
theorem roE_ok {R N : Int} {l : List E} (h : roE R N l = 0) : chk R N l = 0 ∧ N = 0 := by
  unfold roE at h
  by_cases h5 : chk R N l ≠ 0
  · rw [if_pos h5] at h; exact absurd h h5
  · rw [if_neg h5] at h
    have h7 : chk R N l = 0 := by omega
    have := (chk_iff.1 h7).n
    by_cases h6 : 0 < N
    · rw [if_pos h6] at h; omega
    · exact ⟨h7, by omega⟩
noncomputable def outA (l : List E) (root : Nat) (hops : List (List Int)) (d : Nat) : List Al := (List.range d).flatMap (fun d : Nat => altsOf l (root : Int) (d : Int) (gL hops d))
theorem outA_succ (l : List E) (root : Nat) (hops : List (List Int)) (d : Nat) : outA l root hops (d + 1) = outA l root hops d ++ altsOf l (root : Int) (d : Int) (gL hops d) := by
  unfold outA; rw [List.range_succ, List.flatMap_append]; simp
theorem hop_row {r : Nat} {l : List E} {root : Nat} {t : Tre} (hv : Valid (r : Int) 0 l) (h : IsTre (r : Int) 0 l (root : Int) t) (hr8 : r ≤ 128) (hroot : root < r) {d : Nat} (hd : d < r) : (gL t.hops d).length ≤ 128 ∧ ∀ (k : Nat) (x : Int), (gL t.hops d)[k]? = some x → ∃ p : Nat, x = (p : Int) ∧ p < r := by
  obtain ⟨n, hn, _, ht⟩ := h
  obtain rfl : n = r := by omega
  have hrow := ht.h d hd
  have hm : ∀ x ∈ gL t.hops d, 0 ≤ x ∧ x < (n : Int) := fun x hx => by
    have := Hop.node' hv (s := (root : Int)) ⟨by omega, by omega⟩ ((hrow.2 x).1 hx)
    omega
  refine ⟨Nat.le_trans (asc_len hrow.1 hm) hr8, fun k x hk => ?_⟩
  have := hm x (List.mem_of_getElem? hk)
  exact ⟨x.toNat, by omega, by omega⟩
theorem fm_snoc {row : List Int} {k : Nat} {x : Int} (hx : row[k]? = some x) (f : Int → Option Al) : (row.take (k + 1)).filterMap f = (row.take k).filterMap f ++ (f x).toList := by
  rw [List.take_add_one, hx, List.filterMap_append]
  cases h : f x <;> simp [h]
def LaQ (R N : Int) (l : List E) (root : Int) (w : World) (e : Ending) (w' : World) : Prop := ∃ al er v, e = .returned (.tuple #[v, .int .i64 er]) ∧ RdA w' v al ∧ LaR R N l root al er ∧ Below w.heap.size w w'
theorem la_e1 (R N : Int) (l : List E) (s : Value) (root : Int) (w : World) (hR : I64 R) (hN : I64 N) (hr : Rd3 w s l) (h : roE R N l ≠ 0) :
    Calls Try.prog 25 #[.agg #[.int .i64 R, .int .i64 N, s], .int .i64 root] w (LaQ R N l root w) := by
  have HRO : Hid (∀ W, Below w.heap.size w W → Calls Try.prog 66 #[.agg #[.int .i64 R, .int .i64 N, s]] W fun e w' => e = .returned (.int .i64 (roE R N l)) ∧ Below W.heap.size W w') := fun W hW => ro_any R N l s W hR hN (hr.below hW)
  have HRR : Hid (LaR R N l root [] (roE R N l)) := .inl ⟨h, rfl, rfl⟩
  obtain ⟨ad, cap, hform⟩ := rd3_slice hr
  obtain ⟨L, hL⟩ : ∃ L, l.length = L := ⟨_, rfl⟩
  rw [hL] at hform
  subst hform
  have HB0 := Lib.hid (below_alloc w (.cells #[.int .i64 R, .int .i64 N, .slice ad L cap] 27))
  have HX0 : Hid ((w.alloc (.cells #[.int .i64 R, .int .i64 N, .slice ad L cap] 27)).heap[w.heap.size]? = some (.cells #[.int .i64 R, .int .i64 N, .slice ad L cap] 27 (0, 0))) := heap_alloc_new _ _
  generalize roE R N l = c at *
  have hb0 : (c != 0) = true := by simpa using h
  clear hr hL h
  go_enter Try.func25, Try.ntmps25
  go_wp2_with fail
  go_at_call 66
  refine (HRO.out _ HB0.out).mono ?_
  rintro e w1 ⟨rfl, hb⟩
  have HB1 := Lib.hid (below_then HB0.out hb)
  clear hb HRO
  go_wp2
  go_ret2
  exact ⟨[], c, _, rfl, rdA_nil _, HRR.out, HB1.out⟩
theorem la_e2 (R N : Int) (l : List E) (s : Value) (root : Int) (w : World) (hR : I64 R) (hN : I64 N) (hr : Rd3 w s l) (h : roE R N l = 0) (h2 : ¬ (0 ≤ root ∧ root < R)) :
    Calls Try.prog 25 #[.agg #[.int .i64 R, .int .i64 N, s], .int .i64 root] w (LaQ R N l root w) := by
  have HRO : Hid (∀ W, Below w.heap.size w W → Calls Try.prog 66 #[.agg #[.int .i64 R, .int .i64 N, s]] W fun e w' => e = .returned (.int .i64 (roE R N l)) ∧ Below W.heap.size W w') := fun W hW => ro_any R N l s W hR hN (hr.below hW)
  have HRR : Hid (LaR R N l root [] 5) := .inr (.inl ⟨h, h2, rfl, rfl⟩)
  have HRun : Hid (∀ W, Below w.heap.size w W → Calls Try.prog 59 #[.agg #[.int .i64 R, .int .i64 N, s], .int .i64 root] W fun e w' => ∃ d1 d2 e1 e2 p1 p2, e = .returned (.tuple #[.agg #[.int .i64 0, .slice d1 0 d2, .slice e1 0 e2, .slice p1 0 p2], .int .i64 5]) ∧ Below W.heap.size W w') := fun W hW => by
    refine (run_any R N l s root W hR hN (hr.below hW)).mono ?_
    rintro e w' ⟨t, er, tv, rfl, ht, hq, hb⟩
    rcases hq with ⟨a, _⟩ | ⟨_, _, rfl, rfl⟩ | ⟨_, a, _⟩
    · exact absurd (roE_ok h).1 a
    · obtain ⟨d, e, p, rfl, ⟨d1, d2, rfl, _, _, d3⟩, ⟨e1, e2, rfl, _⟩, ⟨p1, p2, rfl, _⟩⟩ := ht
      exact ⟨d1, d2, e1, e2, p1, p2, rfl, hb⟩
    · exact absurd a h2
  obtain ⟨ad, cap, hform⟩ := rd3_slice hr
  obtain ⟨L, hL⟩ : ∃ L, l.length = L := ⟨_, rfl⟩
  rw [hL] at hform
  subst hform
  have HB0 := Lib.hid (below_alloc w (.cells #[.int .i64 R, .int .i64 N, .slice ad L cap] 27))
  have HX0 : Hid ((w.alloc (.cells #[.int .i64 R, .int .i64 N, .slice ad L cap] 27)).heap[w.heap.size]? = some (.cells #[.int .i64 R, .int .i64 N, .slice ad L cap] 27 (0, 0))) := heap_alloc_new _ _
  rw [h] at HRO
  clear hr hL h h2
  go_enter Try.func25, Try.ntmps25
  go_wp2_with fail
  go_at_call 66
  refine (HRO.out _ HB0.out).mono ?_
  rintro e w1 ⟨rfl, hb⟩
  have HB1 := Lib.hid (below_then HB0.out hb)
  have HX1 := Lib.hid ((hb.block _ (lt_block HX0.out)).trans HX0.out)
  have q0 : w1.cell? ⟨w.heap.size, 0, none⟩ = some (.int .i64 R) := (cell_of HX1.out rfl)
  have q1 : w1.cell? ⟨w.heap.size, 1, none⟩ = some (.int .i64 N) := (cell_of HX1.out rfl)
  have q2 : w1.cell? ⟨w.heap.size, 2, none⟩ = some (.slice ad L cap) := (cell_of HX1.out rfl)
  clear hb HRO HB0 HX0
  go_wp2_with fail
  go_at_call 59
  refine (HRun.out _ HB1.out).mono ?_
  rintro e w2 ⟨x1, x2, x3, x4, x5, x6, rfl, hb⟩
  have HB2 := Lib.hid (below_then (below_then HB1.out hb) (below_alloc w2 (.cells #[.int .i64 0, .slice x1 0 x2, .slice x3 0 x4, .slice x5 0 x6] 74)))
  clear hb HRun HB1 q0 q1 q2
  go_wp2
  go_ret2
  exact ⟨[], 5, _, rfl, rdA_nil _, HRR.out, HB2.out⟩
theorem la_ok (r root : Nat) (l : List E) (s : Value) (w : World) (hv : Valid (r : Int) 0 l) (hr : Rd3 w s l) (hroot : root < r) (hro : roE (r : Int) 0 l = 0) :
    Calls Try.prog 25 #[.agg #[.int .i64 (r : Int), .int .i64 0, s], .int .i64 (root : Int)] w fun e w' => ∃ v t, e = .returned (.tuple #[v, .int .i64 0]) ∧ RdA w' v (allA l (root : Int) r t.hops) ∧ IsTre (r : Int) 0 l (root : Int) t ∧ Below w.heap.size w w' := by
  have hS := hv.s
  have hI : I64 (r : Int) := by unfold I64; omega
  have hI0 : I64 (0 : Int) := by unfold I64; omega
  have HRO : Hid (∀ W, Below w.heap.size w W → Calls Try.prog 66 #[.agg #[.int .i64 (r : Int), .int .i64 0, s]] W fun e w' => e = .returned (.int .i64 0) ∧ Below W.heap.size W w') := fun W hW => by
    have := ro_any (r : Int) 0 l s W hI hI0 (hr.below hW)
    rwa [hro] at this
  have HRun : Hid (∀ W, Below w.heap.size w W → Calls Try.prog 59 #[.agg #[.int .i64 (r : Int), .int .i64 0, s], .int .i64 (root : Int)] W fun e w' => ∃ t tv, e = .returned (.tuple #[tv, .int .i64 0]) ∧ RdT w' tv t ∧ IsTre (r : Int) 0 l (root : Int) t ∧ Below W.heap.size W w') := fun W hW => by
    refine (run_any (r : Int) 0 l s (root : Int) W hI hI0 (hr.below hW)).mono ?_
    rintro e w' ⟨t, er, tv, rfl, ht, hq, hb⟩
    rcases hq with ⟨a, _⟩ | ⟨_, a, _⟩ | ⟨_, _, rfl, hi⟩
    · exact absurd (chk_iff.2 hv) a
    · exact absurd ⟨by omega, by omega⟩ a
    · exact ⟨t, tv, rfl, ht, hi, hb⟩
  have HAll : Hid (∀ W, Below w.heap.size w W → Calls Try.prog 67 #[.agg #[.int .i64 (r : Int), .int .i64 0, s]] W fun e w' => ∃ v, e = .returned (.tuple #[v, .int .i64 0]) ∧ RdR w' v (gT (allRow l r) r r) ∧ Below W.heap.size W w') := fun W hW => by
    refine (all_any (r : Int) 0 l s W hI hI0 (hr.below hW)).mono ?_
    rintro e w' ⟨rows, er, v, rfl, h1, h2, h3⟩
    rcases h2 with ⟨a1, _⟩ | ⟨_, rfl, q, a3, rfl⟩
    · exact absurd (chk_iff.2 hv) a1
    · obtain rfl : r = q := by omega
      exact ⟨v, rfl, h1, h3⟩
  have HLv : Hid (∀ W, Below w.heap.size w W → Calls Try.prog 68 #[.agg #[.int .i64 (r : Int), .int .i64 0, s], .int .i64 (root : Int)] W fun e w' => ∃ v, e = .returned v ∧ Rd3 w' v (outs l (root : Int)) ∧ Below W.heap.size W w') := fun W hW => leav_any (r : Int) 0 l s (root : Int) W hv.len (hr.below hW)
  have HV := Lib.hid hv
  have hr8 : r ≤ 128 := by omega
  obtain ⟨ad, cap, hform⟩ := rd3_slice hr
  obtain ⟨L, hL⟩ : ∃ L, l.length = L := ⟨_, rfl⟩
  rw [hL] at hform
  subst hform
  have HB0 := Lib.hid (below_alloc w (.cells #[.int .i64 (r : Int), .int .i64 0, .slice ad L cap] 27))
  have HX0 : Hid ((w.alloc (.cells #[.int .i64 (r : Int), .int .i64 0, .slice ad L cap] 27)).heap[w.heap.size]? = some (.cells #[.int .i64 (r : Int), .int .i64 0, .slice ad L cap] 27 (0, 0))) := heap_alloc_new _ _
  clear hr hL hv hS hI hI0 hro
  go_enter Try.func25, Try.ntmps25
  go_wp2_with fail
  go_at_call 66
  refine (HRO.out _ HB0.out).mono ?_
  rintro e w1 ⟨rfl, hb⟩
  have HB1 := Lib.hid (below_then HB0.out hb)
  have HX1 := Lib.hid ((hb.block _ (lt_block HX0.out)).trans HX0.out)
  have q0 : w1.cell? ⟨w.heap.size, 0, none⟩ = some (.int .i64 (r : Int)) := (cell_of HX1.out rfl)
  have q1 : w1.cell? ⟨w.heap.size, 1, none⟩ = some (.int .i64 0) := (cell_of HX1.out rfl)
  have q2 : w1.cell? ⟨w.heap.size, 2, none⟩ = some (.slice ad L cap) := (cell_of HX1.out rfl)
  clear hb HRO HB0 HX0
  go_wp2_with fail
  go_at_call 59
  refine (HRun.out _ HB1.out).mono ?_
  rintro e w2 ⟨t, tv, rfl, htr, hist, hb⟩
  have HB2 := Lib.hid (below_then HB1.out hb)
  have HX2 := Lib.hid ((hb.block _ (lt_block HX1.out)).trans HX1.out)
  have HIS := Lib.hid hist
  obtain ⟨vd0, vh, vp, rfl, hr1, hr2, hr3⟩ := htr
  obtain ⟨x1, x2, rfl⟩ := hr1.form
  have HH := Lib.hid hr2
  obtain ⟨x3, x4, hvh⟩ := hr2.form
  obtain ⟨x5, x6, rfl⟩ := hr3.form
  subst hvh
  have hhl : t.hops.length = r := by obtain ⟨n, h1, h2, h3⟩ := hist; have := h3.lh; omega
  rw [hhl] at HH
  have HHL := Lib.hid hhl
  generalize t.dist.length = n1 at *
  generalize t.pars.length = n3 at *
  generalize t.root = rt at *
  rw [hhl]
  clear hb HRun HB1 HX1 q0 q1 q2 hr1 hr2 hr3 hist hhl
  have q0 : ∀ ob, (w2.alloc ob).cell? ⟨w.heap.size, 0, none⟩ = some (.int .i64 (r : Int)) := fun ob => carry (below_alloc _ _) (cell_of HX2.out rfl)
  have q1 : ∀ ob, (w2.alloc ob).cell? ⟨w.heap.size, 1, none⟩ = some (.int .i64 0) := fun ob => carry (below_alloc _ _) (cell_of HX2.out rfl)
  have q2 : ∀ ob, (w2.alloc ob).cell? ⟨w.heap.size, 2, none⟩ = some (.slice ad L cap) := fun ob => carry (below_alloc _ _) (cell_of HX2.out rfl)
  go_wp2_with fail
  clear q0 q1 q2
  have HB3 := Lib.hid (below_then HB2.out (below_alloc w2 (.cells #[.int .i64 rt, .slice x1 n1 x2, .slice x3 r x4, .slice x5 n3 x6] 74)))
  have HT3 : Hid ((w2.alloc (.cells #[.int .i64 rt, .slice x1 n1 x2, .slice x3 r x4, .slice x5 n3 x6] 74)).heap[w2.heap.size]? = some (.cells #[.int .i64 rt, .slice x1 n1 x2, .slice x3 r x4, .slice x5 n3 x6] 74 (0, 0))) := heap_alloc_new _ _
  have HX3 : Hid ((w2.alloc (.cells #[.int .i64 rt, .slice x1 n1 x2, .slice x3 r x4, .slice x5 n3 x6] 74)).heap[w.heap.size]? = some (.cells #[.int .i64 (r : Int), .int .i64 0, .slice ad L cap] 27 (0, 0))) := (Below.heap_alloc _ _ _ (lt_block HX2.out)).trans HX2.out
  have HH3 := Lib.hid (HH.out.below (below_alloc w2 (.cells #[.int .i64 rt, .slice x1 n1 x2, .slice x3 r x4, .slice x5 n3 x6] 74)))
  clear HB2 HX2 HH
  generalize (w2.alloc (.cells #[.int .i64 rt, .slice x1 n1 x2, .slice x3 r x4, .slice x5 n3 x6] 74)) = w3 at *
  refine (HAll.out _ HB3.out).mono ?_
  rintro e w4 ⟨vd, rfl, hrd, hb⟩
  have HB4 := Lib.hid (below_then HB3.out hb)
  have HX4 := Lib.hid ((hb.block _ (lt_block HX3.out)).trans HX3.out)
  have HT4 := Lib.hid ((hb.block _ (lt_block HT3.out)).trans HT3.out)
  have HH4 := Lib.hid (HH3.out.below hb)
  have HD4 := Lib.hid hrd
  obtain ⟨y1, y2, hvd⟩ := hrd.form
  subst hvd
  clear hb hrd HB3 HX3 HT3 HH3 HAll
  have q0 : w4.cell? ⟨w.heap.size, 0, none⟩ = some (.int .i64 (r : Int)) := (cell_of HX4.out rfl)
  have q1 : w4.cell? ⟨w.heap.size, 1, none⟩ = some (.int .i64 0) := (cell_of HX4.out rfl)
  have q2 : w4.cell? ⟨w.heap.size, 2, none⟩ = some (.slice ad L cap) := (cell_of HX4.out rfl)
  go_wp2_with fail
  go_at_call 68
  refine (HLv.out _ HB4.out).mono ?_
  rintro e X ⟨ve, rfl, hre, hb⟩
  have HBX := Lib.hid (below_then HB4.out hb)
  have htx := (hb.block _ (lt_block HT4.out)).trans HT4.out
  have HH5 := Lib.hid (HH4.out.below hb)
  have HD5 := Lib.hid (HD4.out.below hb)
  have HE5 := Lib.hid hre
  have c2 : X.cell? ⟨w2.heap.size, 2, none⟩ = some (.slice x3 r x4) := cell_of htx rfl
  obtain ⟨z1, z2, hve⟩ := rd3_slice hre
  subst hve
  clear hb hre HB4 HX4 HT4 HH4 HD4 HLv htx q0 q1 q2
  generalize (gT (allRow l r) r r).length = vn at *
  generalize (outs l (root : Int)).length = en at *
  go_wp2_with fail
  clear c2
  obtain ⟨i0, hi, hz0, hz1, hz2⟩ := infoE_parts info47
  have HOUT : Hid (∀ d, d < r → outA l root t.hops (d + 1) = outA l root t.hops d ++ altsOf l (root : Int) (d : Int) (gL t.hops d)) := fun d _ => outA_succ l root t.hops d
  have HHOP : Hid (∀ d, d < r → (gL t.hops d).length ≤ 128 ∧ ∀ (k : Nat) (x : Int), (gL t.hops d)[k]? = some x → ∃ p : Nat, x = (p : Int) ∧ p < r) := fun d hd => hop_row (root := root) HV.out HIS.out hr8 hroot hd
  have HALT : Hid (∀ (d p : Nat) W, Below X.heap.size X W → d < r → p < r → Calls Try.prog 69 #[.slice y1 vn y2, .slice z1 en z2, .int .i64 (d : Int), .int .i64 (p : Int)] W fun e w' => e = .returned (.tuple #[alV (bv (bestA l (root : Int) d p (outs l (root : Int)))).1, .bool (bestA l (root : Int) d p (outs l (root : Int))).isSome]) ∧ Below W.heap.size W w') := fun d p W hW hd hp => alt_any _ _ l (outs l (root : Int)) r root d p W (HD5.out.below hW) HV.out (HE5.out.below hW) (fun e he => by
    unfold outs at he
    have := List.mem_filter.1 he
    exact ⟨this.1, of_decide_eq_true this.2⟩) hroot hd hp (Nat.le_trans (outs_len l _) HV.out.len)
  obtain ⟨xh, xc, hxe, hx1, hx2, hxr⟩ := HH5.out
  have hlr : t.hops.length = r := HHL.out
  rw [hlr] at hxe hx1
  cases hxe
  have HXR := Lib.hid hxr
  have HL0 : Hid (outA l root t.hops 0 = []) := rfl
  have HS0 : Hid (AlS X (.slice none 0 0) [] X) := ⟨World.ownsRow_nil _ _ _ _, Below.refl _ _⟩
  clear HD5 HE5 HH5 hxr hlr
  go_loopg [11, 12, 13, 15, 16, 17, 46, 53] r (fun g s11 s12 s13 s15 s16 s17 s46 s53 wr => ∃ (d : Nat) (v11 : Value) (al : List Al), d ≤ r ∧ r - d ≤ g ∧ v11 = s11 ∧ (∃ q, q = s12) ∧ (∃ q, q = s13) ∧ (∃ q, q = s15) ∧ (∃ q, q = s16) ∧ (∃ q, q = s17) ∧ s46 = .int .i64 (d : Int) ∧ (∃ q, q = s53) ∧ Hid (outA l root t.hops d = al) ∧ Hid (al.length ≤ d * 128) ∧ Hid (AlS X v11 al wr))
  case atStart => exact ⟨0, _, [], by omega, by omega, rfl, ⟨_, rfl⟩, ⟨_, rfl⟩, ⟨_, rfl⟩, ⟨_, rfl⟩, ⟨_, rfl⟩, rfl, ⟨_, rfl⟩, HL0, by show _ ≤ _; simp, HS0⟩
  case round =>
    clear HL0 HS0
    obtain ⟨d, v11, al, hd, hdg, rfl, ⟨u12, rfl⟩, ⟨u13, rfl⟩, ⟨u15, rfl⟩, ⟨u16, rfl⟩, ⟨u17, rfl⟩, rfl, ⟨u53, rfl⟩, HA, HLn, HS⟩ := hrel
    by_cases hdl : d < r
    · have d0 : (0 : Int) ≤ (d : Int) := by omega
      have d1 : (d : Int) < (r : Int) := by omega
      obtain ⟨row, hrow⟩ : ∃ row, gL t.hops d = row := ⟨_, rfl⟩
      have hget : t.hops[d]? = some row := by rw [← hrow]; exact gL_get (by have := HHL.out; omega)
      obtain ⟨xb, xo, xu, rfl, hxb, hxc, hxi⟩ := HXR.out d row hget
      obtain ⟨hm8, hrp⟩ := HHOP.out d hdl
      rw [hrow] at hm8 hrp
      have HRP := Lib.hid hrp
      have HOU : Hid (outA l root t.hops (d + 1) = al ++ altsOf l (root : Int) (d : Int) row) := by have := HOUT.out d hdl; rw [hrow, HA.out] at this; exact this
      obtain ⟨ra, rc, rfl, rc1, rc2, hrc⟩ := hxi
      obtain ⟨M, hM⟩ : ∃ M, row.length = M := ⟨_, rfl⟩
      rw [hM] at hm8 hxc rc1
      have HM := Lib.hid hM
      have HRC := Lib.hid hrc
      have e1 := carry HS.out.2 hxc
      have HA0 : Hid (al ++ ((row.take 0).filterMap (fun p => (bestA l (root : Int) (d : Int) p (outs l (root : Int))).map Prod.fst)) = al) := by show _ = _; simp
      have HLn0 : Hid (al.length ≤ d * 128 + 0) := HLn.out
      have HAL : Hid (∃ x, x = al) := ⟨_, rfl⟩
      clear hrow hget hxc hrp hM hrc HA HLn
      go_wp2_with fail
      clear e1
      go_loopg [11, 15, 16, 17, 53] M (fun g s11 s15 s16 s17 s53 wr => ∃ (k : Nat) (v11 : Value) (ak : List Al), k ≤ M ∧ M - k ≤ g ∧ v11 = s11 ∧ (∃ q, q = s15) ∧ (∃ q, q = s16) ∧ (∃ q, q = s17) ∧ s53 = .int .i64 (k : Int) ∧ Hid (al ++ ((row.take k).filterMap (fun p => (bestA l (root : Int) (d : Int) p (outs l (root : Int))).map Prod.fst)) = ak) ∧ Hid (ak.length ≤ d * 128 + k) ∧ Hid (AlS X v11 ak wr))
      case atStart => exact ⟨0, _, al, by omega, by omega, rfl, ⟨_, rfl⟩, ⟨_, rfl⟩, ⟨_, rfl⟩, rfl, HA0, HLn0, HS⟩
      case round =>
        clear HA0 HLn0 HS
        obtain ⟨k, v11, ak, hk, hkg, rfl, ⟨u15, rfl⟩, ⟨u16, rfl⟩, ⟨u17, rfl⟩, rfl, HA, HLn, HS⟩ := hrel
        by_cases hkl : k < M
        · have k0 : (0 : Int) ≤ (k : Int) := by omega
          have k1 : (k : Int) < (M : Int) := by omega
          obtain ⟨x, hx⟩ : ∃ x, row[k]? = some x := ⟨_, List.getElem?_eq_getElem (by have := HM.out; omega)⟩
          obtain ⟨p, rfl, hp⟩ := HRP.out k x hx
          obtain ⟨pb, po, rfl, hpb, hpc⟩ := HRC.out k _ hx
          have e2 := carry HS.out.2 hpc
          have hnx : al ++ ((row.take (k + 1)).filterMap (fun p => (bestA l (root : Int) (d : Int) p (outs l (root : Int))).map Prod.fst)) = ak ++ ((bestA l (root : Int) (d : Int) (p : Int) (outs l (root : Int))).map Prod.fst).toList := by
            rw [fm_snoc hx, ← HA.out, List.append_assoc]
          have HNX := Lib.hid hnx
          clear hx hpc hnx HA
          go_wp2_with fail
          clear e2
          go_at_call 69
          refine (HALT.out d p _ HS.out.2 hdl hp).mono ?_
          rintro e w6 ⟨rfl, hb⟩
          have HS1 := Lib.hid (HS.out.below hb)
          clear hb HS
          cases hbest : bestA l (root : Int) (d : Int) (p : Int) (outs l (root : Int)) with
          | none =>
            have HA2 : Hid (al ++ ((row.take (k + 1)).filterMap (fun p => (bestA l (root : Int) (d : Int) p (outs l (root : Int))).map Prod.fst)) = ak) := by have := HNX.out; rw [hbest] at this; show _ = _; simpa using this
            have HLn2 : Hid (ak.length ≤ d * 128 + (k + 1)) := Nat.le_succ_of_le HLn.out
            have HS2 : Hid (AlS X v11 ak (w6.alloc (.cells #[.int .i64 0, .int .i64 0, .int .i64 0, .int .i64 0, .bool false] 47))) := HS1.out.below (below_alloc _ _)
            have i0 : (none : Option (Al × Int)).isSome = false := rfl
            simp only [i0, bv, Option.getD_none, alV, alZ]
            clear HNX hbest
            go_wp2_with fail
            go_roundg (M - (k + 1))
            case measure => omega
            case rel => exact ⟨k + 1, _, ak, by omega, Nat.le_refl _, rfl, ⟨_, rfl⟩, ⟨_, rfl⟩, ⟨_, rfl⟩, by go_num, HA2, HLn2, HS2⟩
          | some b =>
            obtain ⟨⟨a1, a2, a3, a4, a5⟩, a6⟩ := b
            have HA2 : Hid (al ++ ((row.take (k + 1)).filterMap (fun p => (bestA l (root : Int) (d : Int) p (outs l (root : Int))).map Prod.fst)) = ak ++ [⟨a1, a2, a3, a4, a5⟩]) := by have := HNX.out; rw [hbest] at this; show _ = _; simpa using this
            have HLn2 : Hid ((ak ++ [(⟨a1, a2, a3, a4, a5⟩ : Al)]).length ≤ d * 128 + (k + 1)) := by have := HLn.out; show _ ≤ _; rw [List.length_append, List.length_singleton]; omega
            have HS2 : Hid (AlS X v11 ak (w6.alloc (.cells #[.int .i64 a1, .int .i64 a2, .int .i64 a3, .int .i64 a4, .bool a5] 47))) := HS1.out.below (below_alloc _ _)
            have i1 : (some ((⟨a1, a2, a3, a4, a5⟩ : Al), a6) : Option (Al × Int)).isSome = true := rfl
            simp only [i1, bv, Option.getD_some, alV]
            clear HNX hbest HS1
            go_wp2_with (at_builtin; refine wpList_append_own _ rfl (.tmp 66) (.tmp 68) 29 rfl X.heap.size 47 i0 (.agg #[.int .i64 0, .int .i64 0, .int .i64 0, .int .i64 0, .bool false]) 5 40 Try.underlying29 hi hz0 hz1 hz2 rfl (by decide) v11 ak.length (flatA ak) rfl (row_below HS2.out.1 (below_alloc _ _)) ⟨w6.heap.size + 1, 0, none⟩ 1 1 (alC ⟨a1, a2, a3, a4, a5⟩) rfl rfl (cellA_new _ _ _ _ _ _ _ (by simp)) (alC_one _) (by have := HLn.out; unfold maxLen; omega) (by have := HLn.out; omega) (by have := HS2.out.2.size; simp at this ⊢; omega) ?_; intro v1 w7 hown hgrow hnil; have S2 := Lib.hid (HS2.out.push ⟨a1, a2, a3, a4, a5⟩ _ hown hgrow); clear hown hgrow hnil)
            go_roundg (M - (k + 1))
            case measure => omega
            case rel => exact ⟨k + 1, _, _, by omega, Nat.le_refl _, rfl, ⟨_, rfl⟩, ⟨_, rfl⟩, ⟨_, rfl⟩, by go_num, HA2, HLn2, S2⟩
        · have k1 : decide ((k : Int) < (M : Int)) = false := decide_eq_false (by omega)
          have HA3 : Hid (outA l root t.hops (d + 1) = ak) := by
            have := HA.out
            rw [List.take_of_length_le (by have := HM.out; omega)] at this
            show _ = _
            rw [HOU.out]; exact this
          have HLn3 : Hid (ak.length ≤ (d + 1) * 128) := by have := HLn.out; show _ ≤ _; omega
          clear HA HLn
          go_wp2_with fail
          go_roundg (r - (d + 1))
          case measure => omega
          case rel => exact ⟨d + 1, _, ak, by omega, Nat.le_refl _, rfl, ⟨_, rfl⟩, ⟨_, rfl⟩, ⟨_, rfl⟩, ⟨_, rfl⟩, ⟨_, rfl⟩, by go_num, ⟨_, rfl⟩, HA3, HLn3, HS⟩
    · have k1 : decide ((d : Int) < (r : Int)) = false := decide_eq_false (by omega)
      have HIR : Hid (d = r) := by show _ = _; omega
      have HF : Hid (RdA wr v11 (allA l (root : Int) r t.hops)) := by
        have h1 := HA.out
        rw [HIR.out] at h1
        have h2 := rdA_own HS.out.1
        rw [← h1] at h2
        exact h2
      have HBF := Lib.hid (below_then HBX.out HS.out.2)
      clear HS HIR HA HLn
      go_wp2
      go_ret2
      exact ⟨_, t, rfl, HF.out, HIS.out, HBF.out⟩
theorem la_any (R N : Int) (l : List E) (s : Value) (root : Int) (w : World) (hR : I64 R) (hN : I64 N) (hr : Rd3 w s l) : Calls Try.prog 25 #[.agg #[.int .i64 R, .int .i64 N, s], .int .i64 root] w (LaQ R N l root w) := by
  by_cases h : roE R N l = 0
  · by_cases h2 : 0 ≤ root ∧ root < R
    · obtain ⟨h3, rfl⟩ := roE_ok h
      obtain ⟨r, rfl⟩ : ∃ r : Nat, R = (r : Int) := ⟨R.toNat, by omega⟩
      obtain ⟨x, rfl⟩ : ∃ x : Nat, root = (x : Int) := ⟨root.toNat, by omega⟩
      refine (la_ok r x l s w (chk_iff.1 h3) hr (by omega) h).mono ?_
      rintro e w' ⟨v, t, rfl, h4, h5, h6⟩
      exact ⟨_, 0, v, rfl, h4, .inr (.inr ⟨h, h2, rfl, t, h5, by rw [Int.toNat_natCast]⟩), h6⟩
    · exact la_e2 R N l s root w hR hN hr h h2
  · exact la_e1 R N l s root w hR hN hr h
end Go.Proofs.Ytmbogobebllheaa
namespace Go.Proofs.Ytmbogobebllheaa
open Go.RowKit HM GM SP Go.Lib
set_option linter.unusedSimpArgs false
set_option linter.unusedVariables false
set_option maxHeartbeats 4000000
set_option maxRecDepth 100000
def RgS (w : World) (n : Int) (v : Value) (o : List E) (W : World) : Prop :=
  OwnL (w.heap.size + 2) W v o ∧ Below w.heap.size w W ∧ W.heap[w.heap.size]? = some (.cells #[.int .i64 0, .int .i64 0, .slice none 0 0] 27 (0, 0)) ∧ W.heap[w.heap.size + 1]? = some (.cells #[.int .i64 n, .int .i64 0, v] 27 (0, 0))
theorem RgS.drewN {w W : World} {n : Int} {v : Value} {o : List E} (h : RgS w n v o W) (q : Nat) : RgS w n v o (W.drewN q) := ⟨h.1, below_drewN h.2.1 q, h.2.2.1, h.2.2.2⟩
theorem RgS.below {w W W1 : World} {n : Int} {v : Value} {o : List E} (h : RgS w n v o W) (hb : Below W.heap.size W W1) : RgS w n v o W1 :=
  ⟨row_below h.1 hb, below_then h.2.1 hb, (hb.block _ (lt_block h.2.2.1)).trans h.2.2.1, (hb.block _ (lt_block h.2.2.2)).trans h.2.2.2⟩
theorem RgS.grown {w W W1 : World} {n : Int} {v v' : Value} {o o' : List E} (h : RgS w n v o W) (hg : W.grownBy W1 v.ownBlock) (ho : OwnL (w.heap.size + 2) W1 v' o') : RgS w n v' o' (W1.setCell ⟨w.heap.size + 1, 2, none⟩ v') ∧ W1.frozen? ⟨w.heap.size + 1, 2, none⟩ = false ∧ W1.cell? ⟨w.heap.size + 1, 2, none⟩ = some v := by
  have hlt := lt_block h.2.2.2
  have hf : ∀ k, k < w.heap.size + 2 → W1.heap[k]? = W.heap[k]? := fun k hk => hg.block k (by omega) (fun e => by have := (row_lt h.1 e.symm).1; omega)
  have h2 := (hf (w.heap.size + 1) (by omega)).trans h.2.2.2
  refine ⟨⟨row_congr ho (fun g hg => heap_set_ne (by have := (row_lt ho hg).1; omega)), (h.2.1.grown hg h.2.1.size (fun k hk => by have := (row_lt h.1 hk).1; omega)).setCell (by show _ ≤ w.heap.size + 1; omega) _, (heap_set_ne (by omega)).trans ((hf _ (by omega)).trans h.2.2.1), ?_⟩, free_of h2 _, cell_of h2 rfl⟩
  rw [heap_set_eq h2]; rfl
theorem RgS.start (w : World) (n : Int) : RgS w n (.slice none 0 0) [] ((w.alloc (.cells #[.int .i64 0, .int .i64 0, .slice none 0 0] 27)).alloc (.cells #[.int .i64 n, .int .i64 0, .slice none 0 0] 27)) :=
  ⟨World.ownsRow_nil _ _ _ _, below_two _ _ _, (Below.heap_alloc _ _ _ (by simp)).trans (heap_alloc_new _ _), heap_new1 _ _ (by simp)⟩
theorem RgS.done {w W : World} {n : Int} {v : Value} {o : List E} (h : RgS w n v o W) (u0 u1 u2 : Value) :
    Rd3 (((W.setCell ⟨w.heap.size, 0, none⟩ u0).setCell ⟨w.heap.size, 1, none⟩ u1).setCell ⟨w.heap.size, 2, none⟩ u2) v o ∧ Below w.heap.size w (((W.setCell ⟨w.heap.size, 0, none⟩ u0).setCell ⟨w.heap.size, 1, none⟩ u1).setCell ⟨w.heap.size, 2, none⟩ u2) := by
  have hh : ∀ g : Nat, w.heap.size + 2 ≤ g → (((W.setCell ⟨w.heap.size, 0, none⟩ u0).setCell ⟨w.heap.size, 1, none⟩ u1).setCell ⟨w.heap.size, 2, none⟩ u2).heap[g]? = W.heap[g]? := fun g hg => by
    rw [heap_set_ne (by omega), heap_set_ne (by omega), heap_set_ne (by omega)]
  exact ⟨rd3_own (row_congr h.1 (fun g hg => hh g (row_lt h.1 hg).1)), ((h.2.1.setCell (Nat.le_refl _) _).setCell (Nat.le_refl _) _).setCell (Nat.le_refl _) _⟩
theorem cell6_new (w : World) (a b c d e f : Value) (t : TypeId) {g : Nat} (hb : g = w.heap.size) : ∀ j u, [a, b, c, d, e, f][j]? = some u → (w.alloc (.cells #[a, b, c, d, e, f] t)).cell? ((⟨g, 0, none⟩ : Addr).add j) = some u := by
  subst hb
  intro j u hj
  match j, hj with
  | 0, hj => simp at hj; subst hj; simp [Addr.add]
  | 1, hj => simp at hj; subst hj; simp [Addr.add]
  | 2, hj => simp at hj; subst hj; simp [Addr.add]
  | 3, hj => simp at hj; subst hj; simp [Addr.add]
  | 4, hj => simp at hj; subst hj; simp [Addr.add]
  | 5, hj => simp at hj; subst hj; simp [Addr.add]
  | (j + 6), hj => simp at hj
theorem OwnL.push2 {B : Nat} {W2 : World} {v' : Value} {o : List E} (y z : E) (hown : W2.ownsRow B 72 3 v' (o.length + 2) (flatE o ++ (encE y ++ encE z))) : OwnL B W2 v' (o ++ [y, z]) := by
  unfold OwnL
  rw [show o ++ [y, z] = o ++ [y] ++ [z] by simp, flatE_snoc, flatE_snoc, List.length_append, List.length_append, List.append_assoc]
  exact hown
theorem enc2_one (x y : E) : ∀ v ∈ encE x ++ encE y, v.oneCell' = true := fun v hv => (List.mem_append.1 hv).elim (encE_one x v) (encE_one y v)
theorem ring4_any (w : World) : Calls Try.prog 60 #[.int .i64 4] w fun e w' => ∃ s, e = .returned (.agg #[.int .i64 4, .int .i64 0, s]) ∧ Rd3 w' s ringL ∧ Below w.heap.size w w' := by
  obtain ⟨i0, hi, hz0, hz1, hz2⟩ := infoE_parts info72
  have HS0 := Lib.hid (RgS.start w 4)
  have HI0 : Hid (([] : List E) = (ringL : List E).take (2 * 0)) := rfl
  go_enter Try.func60, Try.ntmps60
  go_wp2_with fail
  generalize ((w.alloc (.cells #[.int .i64 0, .int .i64 0, .slice none 0 0] 27)).alloc (.cells #[.int .i64 4, .int .i64 0, .slice none 0 0] 27)) = V at *
  go_loopg [4, 5, 6] 4 (fun g s4 s5 s6 wr => ∃ (i : Nat) (iv : Int) (v : Value) (o : List E), i ≤ 4 ∧ iv = (i : Int) ∧ 4 - i ≤ g ∧ s4 = .int .i64 iv ∧ (∃ q, q = s5) ∧ (∃ q, q = s6) ∧ Hid (o = (ringL : List E).take (2 * i)) ∧ Hid (RgS w 4 v o wr))
  case atStart => exact ⟨0, 0, _, [], by omega, rfl, by omega, rfl, ⟨_, rfl⟩, ⟨_, rfl⟩, HI0, HS0⟩
  case round =>
    clear HS0 HI0
    obtain ⟨i, iv, v, o, hil, hiv, hg, rfl, ⟨u5, rfl⟩, ⟨u6, rfl⟩, HI, HS⟩ := hrel
    by_cases hlt : i < 4
    · have hcs : (i = 0 ∧ iv = 0) ∨ (i = 1 ∧ iv = 1) ∨ (i = 2 ∧ iv = 2) ∨ (i = 3 ∧ iv = 3) := by omega
      clear hiv hil hlt
      rcases hcs with ⟨rfl, rfl⟩ | ⟨rfl, rfl⟩ | ⟨rfl, rfl⟩ | ⟨rfl, rfl⟩
      · have HA2 : Hid (o ++ [(0, 1, 1), (0, 3, 1)] = (ringL : List E).take (2 * (0 + 1))) := by show _ = _; rw [HI.out]; rfl
        have hol : o.length = 0 := by rw [HI.out]; rfl
        obtain ⟨ad2, cap2, rfl⟩ := rd3_slice (rd3_own HS.out.1)
        have g2 : wr.cell? ⟨w.heap.size + 1, 2, none⟩ = some (.slice ad2 o.length cap2) := cell_of HS.out.2.2.2 rfl
        rw [hol] at g2
        have HSQ : Hid (∀ q, RgS w 4 (.slice ad2 0 cap2) o (wr.drewN q)) := fun q => by have := HS.out.drewN q; rw [hol] at this; exact this
        have g2q : ∀ q, (wr.drewN q).cell? ⟨w.heap.size + 1, 2, none⟩ = some (.slice ad2 0 cap2) := fun q => g2
        have HOL := Lib.hid hol
        have HOW : Hid (∀ q ob, ((wr.drewN q).alloc ob).ownsRow (w.heap.size + 2) 72 3 (.slice ad2 0 cap2) 0 (flatE o)) := fun q ob => by have h : OwnL _ _ _ _ := row_below (HSQ.out q).1 (below_alloc (wr.drewN q) ob); unfold OwnL at h; rw [hol] at h; exact h
        clear HI HS hol
        go_wp2_with fail
        go_quiet (fail)
        go_wp2_with (at_builtin; refine wpList_append_lies _ rfl (.tmp 25) (.tmp 36) 25 rfl (w.heap.size + 2) 72 i0 (.agg #[.int .i64 0, .int .i64 0, .int .i64 0]) 3 24 Try.underlying25 hi hz0 hz1 hz2 rfl (by decide) (.slice ad2 0 cap2) 0 (flatE o) rfl (HOW.out _ _) ⟨wr.heap.size, 0, none⟩ 2 2 (encE (0, 1, 1) ++ encE (0, 3, 1)) rfl rfl (cell6_new _ _ _ _ _ _ _ _ rfl) (enc2_one _ _) (by decide) (by unfold maxLen; omega) (by omega) (by have := lt_block (HSQ.out 0).2.2.2; simp at this ⊢; omega) (wr.heap.size + 1) (by simp) ?_; intro g5 cap5 w5 hown hgrow hat hlt5; have S5 := RgS.grown ((HSQ.out _).below (below_alloc _ _)) hgrow (OwnL.push2 (0, 1, 1) (0, 3, 1) (by rw [HOL.out]; exact hown)); have y5 : w5.frozen? ⟨w.heap.size + 1, 2, none⟩ = false := S5.2.1; have x5 : w5.cell? ⟨w.heap.size + 1, 2, none⟩ = some (.slice ad2 0 cap2) := S5.2.2; have HS5 := Lib.hid S5.1; clear hown hgrow hat S5)
        go_roundg (4 - (0 + 1))
        case measure => omega
        case rel => exact ⟨0 + 1, 1, _, _, by omega, rfl, Nat.le_refl _, rfl, ⟨_, rfl⟩, ⟨_, rfl⟩, HA2, HS5.out⟩
      · have HA2 : Hid (o ++ [(1, 0, 1), (1, 2, 1)] = (ringL : List E).take (2 * (1 + 1))) := by show _ = _; rw [HI.out]; rfl
        have hol : o.length = 2 := by rw [HI.out]; rfl
        obtain ⟨ad2, cap2, rfl⟩ := rd3_slice (rd3_own HS.out.1)
        have g2 : wr.cell? ⟨w.heap.size + 1, 2, none⟩ = some (.slice ad2 o.length cap2) := cell_of HS.out.2.2.2 rfl
        rw [hol] at g2
        have HSQ : Hid (∀ q, RgS w 4 (.slice ad2 2 cap2) o (wr.drewN q)) := fun q => by have := HS.out.drewN q; rw [hol] at this; exact this
        have g2q : ∀ q, (wr.drewN q).cell? ⟨w.heap.size + 1, 2, none⟩ = some (.slice ad2 2 cap2) := fun q => g2
        have HOL := Lib.hid hol
        have HOW : Hid (∀ q ob, ((wr.drewN q).alloc ob).ownsRow (w.heap.size + 2) 72 3 (.slice ad2 2 cap2) 2 (flatE o)) := fun q ob => by have h : OwnL _ _ _ _ := row_below (HSQ.out q).1 (below_alloc (wr.drewN q) ob); unfold OwnL at h; rw [hol] at h; exact h
        clear HI HS hol
        go_wp2_with fail
        go_quiet (fail)
        go_wp2_with (at_builtin; refine wpList_append_lies _ rfl (.tmp 25) (.tmp 36) 25 rfl (w.heap.size + 2) 72 i0 (.agg #[.int .i64 0, .int .i64 0, .int .i64 0]) 3 24 Try.underlying25 hi hz0 hz1 hz2 rfl (by decide) (.slice ad2 2 cap2) 2 (flatE o) rfl (HOW.out _ _) ⟨wr.heap.size, 0, none⟩ 2 2 (encE (1, 0, 1) ++ encE (1, 2, 1)) rfl rfl (cell6_new _ _ _ _ _ _ _ _ rfl) (enc2_one _ _) (by decide) (by unfold maxLen; omega) (by omega) (by have := lt_block (HSQ.out 0).2.2.2; simp at this ⊢; omega) (wr.heap.size + 1) (by simp) ?_; intro g5 cap5 w5 hown hgrow hat hlt5; have S5 := RgS.grown ((HSQ.out _).below (below_alloc _ _)) hgrow (OwnL.push2 (1, 0, 1) (1, 2, 1) (by rw [HOL.out]; exact hown)); have y5 : w5.frozen? ⟨w.heap.size + 1, 2, none⟩ = false := S5.2.1; have x5 : w5.cell? ⟨w.heap.size + 1, 2, none⟩ = some (.slice ad2 2 cap2) := S5.2.2; have HS5 := Lib.hid S5.1; clear hown hgrow hat S5)
        go_roundg (4 - (1 + 1))
        case measure => omega
        case rel => exact ⟨1 + 1, 2, _, _, by omega, rfl, Nat.le_refl _, rfl, ⟨_, rfl⟩, ⟨_, rfl⟩, HA2, HS5.out⟩
      · have HA2 : Hid (o ++ [(2, 1, 1), (2, 3, 1)] = (ringL : List E).take (2 * (2 + 1))) := by show _ = _; rw [HI.out]; rfl
        have hol : o.length = 4 := by rw [HI.out]; rfl
        obtain ⟨ad2, cap2, rfl⟩ := rd3_slice (rd3_own HS.out.1)
        have g2 : wr.cell? ⟨w.heap.size + 1, 2, none⟩ = some (.slice ad2 o.length cap2) := cell_of HS.out.2.2.2 rfl
        rw [hol] at g2
        have HSQ : Hid (∀ q, RgS w 4 (.slice ad2 4 cap2) o (wr.drewN q)) := fun q => by have := HS.out.drewN q; rw [hol] at this; exact this
        have g2q : ∀ q, (wr.drewN q).cell? ⟨w.heap.size + 1, 2, none⟩ = some (.slice ad2 4 cap2) := fun q => g2
        have HOL := Lib.hid hol
        have HOW : Hid (∀ q ob, ((wr.drewN q).alloc ob).ownsRow (w.heap.size + 2) 72 3 (.slice ad2 4 cap2) 4 (flatE o)) := fun q ob => by have h : OwnL _ _ _ _ := row_below (HSQ.out q).1 (below_alloc (wr.drewN q) ob); unfold OwnL at h; rw [hol] at h; exact h
        clear HI HS hol
        go_wp2_with fail
        go_quiet (fail)
        go_wp2_with (at_builtin; refine wpList_append_lies _ rfl (.tmp 25) (.tmp 36) 25 rfl (w.heap.size + 2) 72 i0 (.agg #[.int .i64 0, .int .i64 0, .int .i64 0]) 3 24 Try.underlying25 hi hz0 hz1 hz2 rfl (by decide) (.slice ad2 4 cap2) 4 (flatE o) rfl (HOW.out _ _) ⟨wr.heap.size, 0, none⟩ 2 2 (encE (2, 1, 1) ++ encE (2, 3, 1)) rfl rfl (cell6_new _ _ _ _ _ _ _ _ rfl) (enc2_one _ _) (by decide) (by unfold maxLen; omega) (by omega) (by have := lt_block (HSQ.out 0).2.2.2; simp at this ⊢; omega) (wr.heap.size + 1) (by simp) ?_; intro g5 cap5 w5 hown hgrow hat hlt5; have S5 := RgS.grown ((HSQ.out _).below (below_alloc _ _)) hgrow (OwnL.push2 (2, 1, 1) (2, 3, 1) (by rw [HOL.out]; exact hown)); have y5 : w5.frozen? ⟨w.heap.size + 1, 2, none⟩ = false := S5.2.1; have x5 : w5.cell? ⟨w.heap.size + 1, 2, none⟩ = some (.slice ad2 4 cap2) := S5.2.2; have HS5 := Lib.hid S5.1; clear hown hgrow hat S5)
        go_roundg (4 - (2 + 1))
        case measure => omega
        case rel => exact ⟨2 + 1, 3, _, _, by omega, rfl, Nat.le_refl _, rfl, ⟨_, rfl⟩, ⟨_, rfl⟩, HA2, HS5.out⟩
      · have HA2 : Hid (o ++ [(3, 0, 1), (3, 2, 1)] = (ringL : List E).take (2 * (3 + 1))) := by show _ = _; rw [HI.out]; rfl
        have hol : o.length = 6 := by rw [HI.out]; rfl
        obtain ⟨ad2, cap2, rfl⟩ := rd3_slice (rd3_own HS.out.1)
        have g2 : wr.cell? ⟨w.heap.size + 1, 2, none⟩ = some (.slice ad2 o.length cap2) := cell_of HS.out.2.2.2 rfl
        rw [hol] at g2
        have HSQ : Hid (∀ q, RgS w 4 (.slice ad2 6 cap2) o (wr.drewN q)) := fun q => by have := HS.out.drewN q; rw [hol] at this; exact this
        have g2q : ∀ q, (wr.drewN q).cell? ⟨w.heap.size + 1, 2, none⟩ = some (.slice ad2 6 cap2) := fun q => g2
        have HOL := Lib.hid hol
        have HOW : Hid (∀ q ob, ((wr.drewN q).alloc ob).ownsRow (w.heap.size + 2) 72 3 (.slice ad2 6 cap2) 6 (flatE o)) := fun q ob => by have h : OwnL _ _ _ _ := row_below (HSQ.out q).1 (below_alloc (wr.drewN q) ob); unfold OwnL at h; rw [hol] at h; exact h
        clear HI HS hol
        go_wp2_with fail
        go_quiet (fail)
        go_wp2_with (at_builtin; refine wpList_append_lies _ rfl (.tmp 25) (.tmp 36) 25 rfl (w.heap.size + 2) 72 i0 (.agg #[.int .i64 0, .int .i64 0, .int .i64 0]) 3 24 Try.underlying25 hi hz0 hz1 hz2 rfl (by decide) (.slice ad2 6 cap2) 6 (flatE o) rfl (HOW.out _ _) ⟨wr.heap.size, 0, none⟩ 2 2 (encE (3, 0, 1) ++ encE (3, 2, 1)) rfl rfl (cell6_new _ _ _ _ _ _ _ _ rfl) (enc2_one _ _) (by decide) (by unfold maxLen; omega) (by omega) (by have := lt_block (HSQ.out 0).2.2.2; simp at this ⊢; omega) (wr.heap.size + 1) (by simp) ?_; intro g5 cap5 w5 hown hgrow hat hlt5; have S5 := RgS.grown ((HSQ.out _).below (below_alloc _ _)) hgrow (OwnL.push2 (3, 0, 1) (3, 2, 1) (by rw [HOL.out]; exact hown)); have y5 : w5.frozen? ⟨w.heap.size + 1, 2, none⟩ = false := S5.2.1; have x5 : w5.cell? ⟨w.heap.size + 1, 2, none⟩ = some (.slice ad2 6 cap2) := S5.2.2; have HS5 := Lib.hid S5.1; clear hown hgrow hat S5)
        go_roundg (4 - (3 + 1))
        case measure => omega
        case rel => exact ⟨3 + 1, 4, _, _, by omega, rfl, Nat.le_refl _, rfl, ⟨_, rfl⟩, ⟨_, rfl⟩, HA2, HS5.out⟩
    · have hcs : iv = 4 := by omega
      subst hcs
      have HF : Hid (o = ringL) := by
        have := HI.out
        obtain rfl : i = 4 := by omega
        exact this
      obtain ⟨ad2, cap2, rfl⟩ := rd3_slice (rd3_own HS.out.1)
      have g0 : wr.cell? ⟨w.heap.size + 1, 0, none⟩ = some (.int .i64 4) := cell_of HS.out.2.2.2 rfl
      have g1 : wr.cell? ⟨w.heap.size + 1, 1, none⟩ = some (.int .i64 0) := cell_of HS.out.2.2.2 rfl
      have g2 : wr.cell? ⟨w.heap.size + 1, 2, none⟩ = some (.slice ad2 o.length cap2) := cell_of HS.out.2.2.2 rfl
      have z0 : wr.cell? ⟨w.heap.size, 0, none⟩ = some (.int .i64 0) := cell_of HS.out.2.2.1 rfl
      have z1 : wr.cell? ⟨w.heap.size, 1, none⟩ = some (.int .i64 0) := cell_of HS.out.2.2.1 rfl
      have z2 : wr.cell? ⟨w.heap.size, 2, none⟩ = some (.slice none 0 0) := cell_of HS.out.2.2.1 rfl
      have y0 : wr.frozen? ⟨w.heap.size, 0, none⟩ = false := free_of HS.out.2.2.1 _
      have y1 : wr.frozen? ⟨w.heap.size, 1, none⟩ = false := free_of HS.out.2.2.1 _
      have y2 : wr.frozen? ⟨w.heap.size, 2, none⟩ = false := free_of HS.out.2.2.1 _
      have RB := Lib.hid (RgS.done HS.out)
      clear HS hlt hil
      go_wp2
      (try simp only [Exit.inBlock, Exit.then])
      refine bodyPost_ret (v := .agg #[.int .i64 4, .int .i64 0, .slice ad2 o.length cap2]) (by rw [results_cell rfl]; go_simp) rfl ?_
      exact ⟨_, rfl, HF.out ▸ (RB.out _ _ _).1, (RB.out _ _ _).2⟩
theorem ring5_any (w : World) : Calls Try.prog 60 #[.int .i64 5] w fun e w' => ∃ s, e = .returned (.agg #[.int .i64 5, .int .i64 0, s]) ∧ Rd3 w' s ring5L ∧ Below w.heap.size w w' := by
  obtain ⟨i0, hi, hz0, hz1, hz2⟩ := infoE_parts info72
  have HS0 := Lib.hid (RgS.start w 5)
  have HI0 : Hid (([] : List E) = (ring5L : List E).take (2 * 0)) := rfl
  go_enter Try.func60, Try.ntmps60
  go_wp2_with fail
  generalize ((w.alloc (.cells #[.int .i64 0, .int .i64 0, .slice none 0 0] 27)).alloc (.cells #[.int .i64 5, .int .i64 0, .slice none 0 0] 27)) = V at *
  go_loopg [4, 5, 6] 5 (fun g s4 s5 s6 wr => ∃ (i : Nat) (iv : Int) (v : Value) (o : List E), i ≤ 5 ∧ iv = (i : Int) ∧ 5 - i ≤ g ∧ s4 = .int .i64 iv ∧ (∃ q, q = s5) ∧ (∃ q, q = s6) ∧ Hid (o = (ring5L : List E).take (2 * i)) ∧ Hid (RgS w 5 v o wr))
  case atStart => exact ⟨0, 0, _, [], by omega, rfl, by omega, rfl, ⟨_, rfl⟩, ⟨_, rfl⟩, HI0, HS0⟩
  case round =>
    clear HS0 HI0
    obtain ⟨i, iv, v, o, hil, hiv, hg, rfl, ⟨u5, rfl⟩, ⟨u6, rfl⟩, HI, HS⟩ := hrel
    by_cases hlt : i < 5
    · have hcs : (i = 0 ∧ iv = 0) ∨ (i = 1 ∧ iv = 1) ∨ (i = 2 ∧ iv = 2) ∨ (i = 3 ∧ iv = 3) ∨ (i = 4 ∧ iv = 4) := by omega
      clear hiv hil hlt
      rcases hcs with ⟨rfl, rfl⟩ | ⟨rfl, rfl⟩ | ⟨rfl, rfl⟩ | ⟨rfl, rfl⟩ | ⟨rfl, rfl⟩
      · have HA2 : Hid (o ++ [(0, 1, 1), (0, 4, 1)] = (ring5L : List E).take (2 * (0 + 1))) := by show _ = _; rw [HI.out]; rfl
        have hol : o.length = 0 := by rw [HI.out]; rfl
        obtain ⟨ad2, cap2, rfl⟩ := rd3_slice (rd3_own HS.out.1)
        have g2 : wr.cell? ⟨w.heap.size + 1, 2, none⟩ = some (.slice ad2 o.length cap2) := cell_of HS.out.2.2.2 rfl
        rw [hol] at g2
        have HSQ : Hid (∀ q, RgS w 5 (.slice ad2 0 cap2) o (wr.drewN q)) := fun q => by have := HS.out.drewN q; rw [hol] at this; exact this
        have g2q : ∀ q, (wr.drewN q).cell? ⟨w.heap.size + 1, 2, none⟩ = some (.slice ad2 0 cap2) := fun q => g2
        have HOL := Lib.hid hol
        have HOW : Hid (∀ q ob, ((wr.drewN q).alloc ob).ownsRow (w.heap.size + 2) 72 3 (.slice ad2 0 cap2) 0 (flatE o)) := fun q ob => by have h : OwnL _ _ _ _ := row_below (HSQ.out q).1 (below_alloc (wr.drewN q) ob); unfold OwnL at h; rw [hol] at h; exact h
        clear HI HS hol
        go_wp2_with fail
        go_quiet (fail)
        go_wp2_with (at_builtin; refine wpList_append_lies _ rfl (.tmp 25) (.tmp 36) 25 rfl (w.heap.size + 2) 72 i0 (.agg #[.int .i64 0, .int .i64 0, .int .i64 0]) 3 24 Try.underlying25 hi hz0 hz1 hz2 rfl (by decide) (.slice ad2 0 cap2) 0 (flatE o) rfl (HOW.out _ _) ⟨wr.heap.size, 0, none⟩ 2 2 (encE (0, 1, 1) ++ encE (0, 4, 1)) rfl rfl (cell6_new _ _ _ _ _ _ _ _ rfl) (enc2_one _ _) (by decide) (by unfold maxLen; omega) (by omega) (by have := lt_block (HSQ.out 0).2.2.2; simp at this ⊢; omega) (wr.heap.size + 1) (by simp) ?_; intro g5 cap5 w5 hown hgrow hat hlt5; have S5 := RgS.grown ((HSQ.out _).below (below_alloc _ _)) hgrow (OwnL.push2 (0, 1, 1) (0, 4, 1) (by rw [HOL.out]; exact hown)); have y5 : w5.frozen? ⟨w.heap.size + 1, 2, none⟩ = false := S5.2.1; have x5 : w5.cell? ⟨w.heap.size + 1, 2, none⟩ = some (.slice ad2 0 cap2) := S5.2.2; have HS5 := Lib.hid S5.1; clear hown hgrow hat S5)
        go_roundg (5 - (0 + 1))
        case measure => omega
        case rel => exact ⟨0 + 1, 1, _, _, by omega, rfl, Nat.le_refl _, rfl, ⟨_, rfl⟩, ⟨_, rfl⟩, HA2, HS5.out⟩
      · have HA2 : Hid (o ++ [(1, 0, 1), (1, 2, 1)] = (ring5L : List E).take (2 * (1 + 1))) := by show _ = _; rw [HI.out]; rfl
        have hol : o.length = 2 := by rw [HI.out]; rfl
        obtain ⟨ad2, cap2, rfl⟩ := rd3_slice (rd3_own HS.out.1)
        have g2 : wr.cell? ⟨w.heap.size + 1, 2, none⟩ = some (.slice ad2 o.length cap2) := cell_of HS.out.2.2.2 rfl
        rw [hol] at g2
        have HSQ : Hid (∀ q, RgS w 5 (.slice ad2 2 cap2) o (wr.drewN q)) := fun q => by have := HS.out.drewN q; rw [hol] at this; exact this
        have g2q : ∀ q, (wr.drewN q).cell? ⟨w.heap.size + 1, 2, none⟩ = some (.slice ad2 2 cap2) := fun q => g2
        have HOL := Lib.hid hol
        have HOW : Hid (∀ q ob, ((wr.drewN q).alloc ob).ownsRow (w.heap.size + 2) 72 3 (.slice ad2 2 cap2) 2 (flatE o)) := fun q ob => by have h : OwnL _ _ _ _ := row_below (HSQ.out q).1 (below_alloc (wr.drewN q) ob); unfold OwnL at h; rw [hol] at h; exact h
        clear HI HS hol
        go_wp2_with fail
        go_quiet (fail)
        go_wp2_with (at_builtin; refine wpList_append_lies _ rfl (.tmp 25) (.tmp 36) 25 rfl (w.heap.size + 2) 72 i0 (.agg #[.int .i64 0, .int .i64 0, .int .i64 0]) 3 24 Try.underlying25 hi hz0 hz1 hz2 rfl (by decide) (.slice ad2 2 cap2) 2 (flatE o) rfl (HOW.out _ _) ⟨wr.heap.size, 0, none⟩ 2 2 (encE (1, 0, 1) ++ encE (1, 2, 1)) rfl rfl (cell6_new _ _ _ _ _ _ _ _ rfl) (enc2_one _ _) (by decide) (by unfold maxLen; omega) (by omega) (by have := lt_block (HSQ.out 0).2.2.2; simp at this ⊢; omega) (wr.heap.size + 1) (by simp) ?_; intro g5 cap5 w5 hown hgrow hat hlt5; have S5 := RgS.grown ((HSQ.out _).below (below_alloc _ _)) hgrow (OwnL.push2 (1, 0, 1) (1, 2, 1) (by rw [HOL.out]; exact hown)); have y5 : w5.frozen? ⟨w.heap.size + 1, 2, none⟩ = false := S5.2.1; have x5 : w5.cell? ⟨w.heap.size + 1, 2, none⟩ = some (.slice ad2 2 cap2) := S5.2.2; have HS5 := Lib.hid S5.1; clear hown hgrow hat S5)
        go_roundg (5 - (1 + 1))
        case measure => omega
        case rel => exact ⟨1 + 1, 2, _, _, by omega, rfl, Nat.le_refl _, rfl, ⟨_, rfl⟩, ⟨_, rfl⟩, HA2, HS5.out⟩
      · have HA2 : Hid (o ++ [(2, 1, 1), (2, 3, 1)] = (ring5L : List E).take (2 * (2 + 1))) := by show _ = _; rw [HI.out]; rfl
        have hol : o.length = 4 := by rw [HI.out]; rfl
        obtain ⟨ad2, cap2, rfl⟩ := rd3_slice (rd3_own HS.out.1)
        have g2 : wr.cell? ⟨w.heap.size + 1, 2, none⟩ = some (.slice ad2 o.length cap2) := cell_of HS.out.2.2.2 rfl
        rw [hol] at g2
        have HSQ : Hid (∀ q, RgS w 5 (.slice ad2 4 cap2) o (wr.drewN q)) := fun q => by have := HS.out.drewN q; rw [hol] at this; exact this
        have g2q : ∀ q, (wr.drewN q).cell? ⟨w.heap.size + 1, 2, none⟩ = some (.slice ad2 4 cap2) := fun q => g2
        have HOL := Lib.hid hol
        have HOW : Hid (∀ q ob, ((wr.drewN q).alloc ob).ownsRow (w.heap.size + 2) 72 3 (.slice ad2 4 cap2) 4 (flatE o)) := fun q ob => by have h : OwnL _ _ _ _ := row_below (HSQ.out q).1 (below_alloc (wr.drewN q) ob); unfold OwnL at h; rw [hol] at h; exact h
        clear HI HS hol
        go_wp2_with fail
        go_quiet (fail)
        go_wp2_with (at_builtin; refine wpList_append_lies _ rfl (.tmp 25) (.tmp 36) 25 rfl (w.heap.size + 2) 72 i0 (.agg #[.int .i64 0, .int .i64 0, .int .i64 0]) 3 24 Try.underlying25 hi hz0 hz1 hz2 rfl (by decide) (.slice ad2 4 cap2) 4 (flatE o) rfl (HOW.out _ _) ⟨wr.heap.size, 0, none⟩ 2 2 (encE (2, 1, 1) ++ encE (2, 3, 1)) rfl rfl (cell6_new _ _ _ _ _ _ _ _ rfl) (enc2_one _ _) (by decide) (by unfold maxLen; omega) (by omega) (by have := lt_block (HSQ.out 0).2.2.2; simp at this ⊢; omega) (wr.heap.size + 1) (by simp) ?_; intro g5 cap5 w5 hown hgrow hat hlt5; have S5 := RgS.grown ((HSQ.out _).below (below_alloc _ _)) hgrow (OwnL.push2 (2, 1, 1) (2, 3, 1) (by rw [HOL.out]; exact hown)); have y5 : w5.frozen? ⟨w.heap.size + 1, 2, none⟩ = false := S5.2.1; have x5 : w5.cell? ⟨w.heap.size + 1, 2, none⟩ = some (.slice ad2 4 cap2) := S5.2.2; have HS5 := Lib.hid S5.1; clear hown hgrow hat S5)
        go_roundg (5 - (2 + 1))
        case measure => omega
        case rel => exact ⟨2 + 1, 3, _, _, by omega, rfl, Nat.le_refl _, rfl, ⟨_, rfl⟩, ⟨_, rfl⟩, HA2, HS5.out⟩
      · have HA2 : Hid (o ++ [(3, 2, 1), (3, 4, 1)] = (ring5L : List E).take (2 * (3 + 1))) := by show _ = _; rw [HI.out]; rfl
        have hol : o.length = 6 := by rw [HI.out]; rfl
        obtain ⟨ad2, cap2, rfl⟩ := rd3_slice (rd3_own HS.out.1)
        have g2 : wr.cell? ⟨w.heap.size + 1, 2, none⟩ = some (.slice ad2 o.length cap2) := cell_of HS.out.2.2.2 rfl
        rw [hol] at g2
        have HSQ : Hid (∀ q, RgS w 5 (.slice ad2 6 cap2) o (wr.drewN q)) := fun q => by have := HS.out.drewN q; rw [hol] at this; exact this
        have g2q : ∀ q, (wr.drewN q).cell? ⟨w.heap.size + 1, 2, none⟩ = some (.slice ad2 6 cap2) := fun q => g2
        have HOL := Lib.hid hol
        have HOW : Hid (∀ q ob, ((wr.drewN q).alloc ob).ownsRow (w.heap.size + 2) 72 3 (.slice ad2 6 cap2) 6 (flatE o)) := fun q ob => by have h : OwnL _ _ _ _ := row_below (HSQ.out q).1 (below_alloc (wr.drewN q) ob); unfold OwnL at h; rw [hol] at h; exact h
        clear HI HS hol
        go_wp2_with fail
        go_quiet (fail)
        go_wp2_with (at_builtin; refine wpList_append_lies _ rfl (.tmp 25) (.tmp 36) 25 rfl (w.heap.size + 2) 72 i0 (.agg #[.int .i64 0, .int .i64 0, .int .i64 0]) 3 24 Try.underlying25 hi hz0 hz1 hz2 rfl (by decide) (.slice ad2 6 cap2) 6 (flatE o) rfl (HOW.out _ _) ⟨wr.heap.size, 0, none⟩ 2 2 (encE (3, 2, 1) ++ encE (3, 4, 1)) rfl rfl (cell6_new _ _ _ _ _ _ _ _ rfl) (enc2_one _ _) (by decide) (by unfold maxLen; omega) (by omega) (by have := lt_block (HSQ.out 0).2.2.2; simp at this ⊢; omega) (wr.heap.size + 1) (by simp) ?_; intro g5 cap5 w5 hown hgrow hat hlt5; have S5 := RgS.grown ((HSQ.out _).below (below_alloc _ _)) hgrow (OwnL.push2 (3, 2, 1) (3, 4, 1) (by rw [HOL.out]; exact hown)); have y5 : w5.frozen? ⟨w.heap.size + 1, 2, none⟩ = false := S5.2.1; have x5 : w5.cell? ⟨w.heap.size + 1, 2, none⟩ = some (.slice ad2 6 cap2) := S5.2.2; have HS5 := Lib.hid S5.1; clear hown hgrow hat S5)
        go_roundg (5 - (3 + 1))
        case measure => omega
        case rel => exact ⟨3 + 1, 4, _, _, by omega, rfl, Nat.le_refl _, rfl, ⟨_, rfl⟩, ⟨_, rfl⟩, HA2, HS5.out⟩
      · have HA2 : Hid (o ++ [(4, 0, 1), (4, 3, 1)] = (ring5L : List E).take (2 * (4 + 1))) := by show _ = _; rw [HI.out]; rfl
        have hol : o.length = 8 := by rw [HI.out]; rfl
        obtain ⟨ad2, cap2, rfl⟩ := rd3_slice (rd3_own HS.out.1)
        have g2 : wr.cell? ⟨w.heap.size + 1, 2, none⟩ = some (.slice ad2 o.length cap2) := cell_of HS.out.2.2.2 rfl
        rw [hol] at g2
        have HSQ : Hid (∀ q, RgS w 5 (.slice ad2 8 cap2) o (wr.drewN q)) := fun q => by have := HS.out.drewN q; rw [hol] at this; exact this
        have g2q : ∀ q, (wr.drewN q).cell? ⟨w.heap.size + 1, 2, none⟩ = some (.slice ad2 8 cap2) := fun q => g2
        have HOL := Lib.hid hol
        have HOW : Hid (∀ q ob, ((wr.drewN q).alloc ob).ownsRow (w.heap.size + 2) 72 3 (.slice ad2 8 cap2) 8 (flatE o)) := fun q ob => by have h : OwnL _ _ _ _ := row_below (HSQ.out q).1 (below_alloc (wr.drewN q) ob); unfold OwnL at h; rw [hol] at h; exact h
        clear HI HS hol
        go_wp2_with fail
        go_quiet (fail)
        go_wp2_with (at_builtin; refine wpList_append_lies _ rfl (.tmp 25) (.tmp 36) 25 rfl (w.heap.size + 2) 72 i0 (.agg #[.int .i64 0, .int .i64 0, .int .i64 0]) 3 24 Try.underlying25 hi hz0 hz1 hz2 rfl (by decide) (.slice ad2 8 cap2) 8 (flatE o) rfl (HOW.out _ _) ⟨wr.heap.size, 0, none⟩ 2 2 (encE (4, 0, 1) ++ encE (4, 3, 1)) rfl rfl (cell6_new _ _ _ _ _ _ _ _ rfl) (enc2_one _ _) (by decide) (by unfold maxLen; omega) (by omega) (by have := lt_block (HSQ.out 0).2.2.2; simp at this ⊢; omega) (wr.heap.size + 1) (by simp) ?_; intro g5 cap5 w5 hown hgrow hat hlt5; have S5 := RgS.grown ((HSQ.out _).below (below_alloc _ _)) hgrow (OwnL.push2 (4, 0, 1) (4, 3, 1) (by rw [HOL.out]; exact hown)); have y5 : w5.frozen? ⟨w.heap.size + 1, 2, none⟩ = false := S5.2.1; have x5 : w5.cell? ⟨w.heap.size + 1, 2, none⟩ = some (.slice ad2 8 cap2) := S5.2.2; have HS5 := Lib.hid S5.1; clear hown hgrow hat S5)
        go_roundg (5 - (4 + 1))
        case measure => omega
        case rel => exact ⟨4 + 1, 5, _, _, by omega, rfl, Nat.le_refl _, rfl, ⟨_, rfl⟩, ⟨_, rfl⟩, HA2, HS5.out⟩
    · have hcs : iv = 5 := by omega
      subst hcs
      have HF : Hid (o = ring5L) := by
        have := HI.out
        obtain rfl : i = 5 := by omega
        exact this
      obtain ⟨ad2, cap2, rfl⟩ := rd3_slice (rd3_own HS.out.1)
      have g0 : wr.cell? ⟨w.heap.size + 1, 0, none⟩ = some (.int .i64 5) := cell_of HS.out.2.2.2 rfl
      have g1 : wr.cell? ⟨w.heap.size + 1, 1, none⟩ = some (.int .i64 0) := cell_of HS.out.2.2.2 rfl
      have g2 : wr.cell? ⟨w.heap.size + 1, 2, none⟩ = some (.slice ad2 o.length cap2) := cell_of HS.out.2.2.2 rfl
      have z0 : wr.cell? ⟨w.heap.size, 0, none⟩ = some (.int .i64 0) := cell_of HS.out.2.2.1 rfl
      have z1 : wr.cell? ⟨w.heap.size, 1, none⟩ = some (.int .i64 0) := cell_of HS.out.2.2.1 rfl
      have z2 : wr.cell? ⟨w.heap.size, 2, none⟩ = some (.slice none 0 0) := cell_of HS.out.2.2.1 rfl
      have y0 : wr.frozen? ⟨w.heap.size, 0, none⟩ = false := free_of HS.out.2.2.1 _
      have y1 : wr.frozen? ⟨w.heap.size, 1, none⟩ = false := free_of HS.out.2.2.1 _
      have y2 : wr.frozen? ⟨w.heap.size, 2, none⟩ = false := free_of HS.out.2.2.1 _
      have RB := Lib.hid (RgS.done HS.out)
      clear HS hlt hil
      go_wp2
      (try simp only [Exit.inBlock, Exit.then])
      refine bodyPost_ret (v := .agg #[.int .i64 5, .int .i64 0, .slice ad2 o.length cap2]) (by rw [results_cell rfl]; go_simp) rfl ?_
      exact ⟨_, rfl, HF.out ▸ (RB.out _ _ _).1, (RB.out _ _ _).2⟩
end Go.Proofs.Ytmbogobebllheaa
namespace Go.Proofs.Ytmbogobebllheaa
open Go.RowKit HM GM SP Go.Lib
set_option linter.unusedSimpArgs false
set_option linter.unusedVariables false
set_option maxHeartbeats 4000000
set_option maxRecDepth 100000
theorem same3_any (m : List Int) (v u : Value) (w : World) (hv : RdI w v m) (hu : RdI w u m) : Calls Try.prog 34 #[v, u] w fun e w' => e = .returned (.bool true) ∧ Below w.heap.size w w' := by
  obtain ⟨va, vc, rfl, v1, v2, hvc⟩ := hv
  obtain ⟨ua, uc, rfl, u1, u2, huc⟩ := hu
  obtain ⟨L, hL⟩ : ∃ L, m.length = L := ⟨_, rfl⟩
  rw [hL] at v1 u1 ⊢
  have HL := Lib.hid hL
  have HV := Lib.hid hvc
  have HU := Lib.hid huc
  have hL2 : L ≤ 9223372036854775807 := by omega
  clear hL hvc huc
  have hee : ((L : Int) == (L : Int)) = true := by simp
  have hen : ((L : Int) != (L : Int)) = false := by simp
  go_enter Try.func34, Try.ntmps34
  go_wp2_with fail
  have HB0 : Hid (Below w.heap.size w w) := Below.refl _ _
  go_loopg [5, 6, 14] L (fun g s5 s6 s14 wr => ∃ k : Nat, k ≤ L ∧ L - k ≤ g ∧ s14 = .int .i64 (k : Int) ∧ (∃ q, q = s5) ∧ (∃ q, q = s6) ∧ Hid (Below w.heap.size w wr))
  case atStart => exact ⟨0, by omega, by omega, rfl, ⟨_, rfl⟩, ⟨_, rfl⟩, HB0⟩
  case round =>
    clear HB0
    obtain ⟨k, hk, hkg, rfl, ⟨q5, rfl⟩, ⟨q6, rfl⟩, HB⟩ := hrel
    by_cases hlt : k < L
    · obtain ⟨x, hx⟩ : ∃ y, m[k]? = some y := ⟨_, List.getElem?_eq_getElem (by have := HL.out; omega)⟩
      obtain ⟨b, o, rfl, hb, c⟩ := HV.out k x hx
      obtain ⟨b', o', rfl, hb', c'⟩ := HU.out k x hx
      have d := carryB HB.out hb c
      have d' := carryB HB.out hb' c'
      have k0 : (0 : Int) ≤ (k : Int) := by omega
      have k1 : (k : Int) < (L : Int) := by omega
      clear c c' hx
      go_wp2_with fail
      go_roundg (L - (k + 1))
      case measure => omega
      case rel => exact ⟨k + 1, by omega, Nat.le_refl _, by go_num, ⟨_, rfl⟩, ⟨_, rfl⟩, HB⟩
    · have k1 : decide ((k : Int) < (L : Int)) = false := decide_eq_false (by omega)
      go_wp2
      go_ret
      exact ⟨rfl, HB.out⟩
theorem sameA_any (m : List Al) (v u : Value) (w : World) (hv : RdA w v m) (hu : RdA w u m) : Calls Try.prog 27 #[v, u] w fun e w' => e = .returned (.bool true) ∧ Below w.heap.size w w' := by
  obtain ⟨va, vc, rfl, v1, v2, hvc⟩ := hv
  obtain ⟨ua, uc, rfl, u1, u2, huc⟩ := hu
  obtain ⟨L, hL⟩ : ∃ L, m.length = L := ⟨_, rfl⟩
  rw [hL] at v1 u1 ⊢
  have HL := Lib.hid hL
  have HV := Lib.hid hvc
  have HU := Lib.hid huc
  have hL2 : L ≤ 9223372036854775807 := by omega
  clear hL hvc huc
  have hee : ((L : Int) == (L : Int)) = true := by simp
  have hen : ((L : Int) != (L : Int)) = false := by simp
  go_enter Try.func27, Try.ntmps27
  go_wp2_with fail
  have HB0 : Hid (Below w.heap.size w w) := Below.refl _ _
  go_loopg [5, 6, 14] L (fun g s5 s6 s14 wr => ∃ k : Nat, k ≤ L ∧ L - k ≤ g ∧ s14 = .int .i64 (k : Int) ∧ (∃ q, q = s5) ∧ (∃ q, q = s6) ∧ Hid (Below w.heap.size w wr))
  case atStart => exact ⟨0, by omega, by omega, rfl, ⟨_, rfl⟩, ⟨_, rfl⟩, HB0⟩
  case round =>
    clear HB0
    obtain ⟨k, hk, hkg, rfl, ⟨q5, rfl⟩, ⟨q6, rfl⟩, HB⟩ := hrel
    by_cases hlt : k < L
    · obtain ⟨x, hx⟩ : ∃ y, m[k]? = some y := ⟨_, List.getElem?_eq_getElem (by have := HL.out; omega)⟩
      obtain ⟨b, o, rfl, hb, c0, c1, c2, c3, c4⟩ := HV.out k x hx
      obtain ⟨b', o', rfl, hb', e0, e1, e2, e3, e4⟩ := HU.out k x hx
      obtain ⟨x0, x1, x2, x3, x4⟩ := x
      dsimp only at c0 c1 c2 c3 c4 e0 e1 e2 e3 e4
      have d0 := carryB HB.out hb c0
      have d1 := carryB HB.out hb c1
      have d2 := carryB HB.out hb c2
      have d3 := carryB HB.out hb c3
      have d4 := carryB HB.out hb c4
      have f0 := fun ob => carry (below_alloc wr ob) (carryB HB.out hb' e0)
      have f1 := fun ob => carry (below_alloc wr ob) (carryB HB.out hb' e1)
      have f2 := fun ob => carry (below_alloc wr ob) (carryB HB.out hb' e2)
      have f3 := fun ob => carry (below_alloc wr ob) (carryB HB.out hb' e3)
      have f4 := fun ob => carry (below_alloc wr ob) (carryB HB.out hb' e4)
      have k0 : (0 : Int) ≤ (k : Int) := by omega
      have k1 : (k : Int) < (L : Int) := by omega
      have HB2 : Hid (∀ ob q, Below w.heap.size w ((wr.alloc ob).drewN q)) := fun ob q => below_drewN (below_then HB.out (below_alloc wr ob)) q
      clear c0 c1 c2 c3 c4 e0 e1 e2 e3 e4 hx HB
      go_wp2_with fail
      go_quiet (fail)
      go_wp2_with fail
      go_roundg (L - (k + 1))
      case measure => omega
      case rel => exact ⟨k + 1, by omega, Nat.le_refl _, by go_num, ⟨_, rfl⟩, ⟨_, rfl⟩, HB2.out _ _⟩
    · have k1 : decide ((k : Int) < (L : Int)) = false := decide_eq_false (by omega)
      go_wp2
      go_ret
      exact ⟨rfl, HB.out⟩
end Go.Proofs.Ytmbogobebllheaa
namespace Go.Proofs.Ytmbogobebllheaa
open Go.RowKit HM GM SP Go.Lib
set_option linter.unusedSimpArgs false
set_option linter.unusedVariables false
set_option maxHeartbeats 4000000
set_option maxRecDepth 100000
theorem rdi_new (W : World) (l : List Int) (hl : l.length ≤ 1000) : RdI (W.alloc (.cells (ints l).toArray 3 (0, 0))) (.slice (some ⟨W.heap.size, 0, none⟩) l.length l.length) l := by
  refine ⟨_, _, rfl, Nat.le_refl _, by omega, fun k x hk => ⟨W.heap.size, 0, rfl, by simp, ?_⟩⟩
  refine cell_of (heap_new1 W _ rfl) ?_
  rw [Nat.zero_add, List.getElem?_toArray]
  exact ints_get hk
theorem la_ring4 (s : Value) (w : World) (hr : Rd3 w s ringL) : Calls Try.prog 25 #[.agg #[.int .i64 4, .int .i64 0, s], .int .i64 0] w fun e w' => ∃ v, e = .returned (.tuple #[v, .int .i64 0]) ∧ RdA w' v [⟨2, 1, 3, 2, true⟩, ⟨2, 3, 1, 2, true⟩] ∧ Below w.heap.size w w' := by
  refine (la_any 4 0 ringL s 0 w (by unfold I64; omega) (by unfold I64; omega) hr).mono ?_
  rintro e w' ⟨al, er, v, rfl, h1, h2, hb⟩
  have hc : roE 4 0 ringL = 0 := by decide
  rcases h2 with ⟨a, _⟩ | ⟨_, a, _⟩ | ⟨_, _, rfl, t, hi, rfl⟩
  · exact absurd hc a
  · exact absurd ⟨by omega, by omega⟩ a
  · have := hi.unique (u := ⟨0, [0, 1, 2, 1], [[], [1], [1, 3], [3]], [[], [0], [1, 3], [0]]⟩) ⟨4, rfl, rfl, ring_tree⟩
    subst this
    have e4 : (4 : Int).toNat = 4 := rfl
    rw [e4, ring4_all] at h1
    exact ⟨v, rfl, h1, hb⟩
theorem ring5_ps : psF 5 0 ring5L 0 1 = [0, 3, 4] := by
  unfold psF
  rw [if_pos (show lkE 5 0 ring5L 0 1 = 0 by decide), show lkC 5 0 ring5L 0 1 = 1 by decide]
  exact ring5_p
theorem ring5_qs : qsF 5 0 ring5L 0 1 = [1, 2, 3] := by
  unfold qsF
  rw [if_pos (show lkE 5 0 ring5L 0 1 = 0 by decide), show lkC 5 0 ring5L 0 1 = 1 by decide]
  exact ring5_q
theorem ring4_ps : psF 4 0 ringL 0 1 = [0, 3] := by
  unfold psF
  rw [if_pos (show lkE 4 0 ringL 0 1 = 0 by decide), show lkC 4 0 ringL 0 1 = 1 by decide]
  exact ring4_p
theorem ring4_qs : qsF 4 0 ringL 0 1 = [1, 2] := by
  unfold qsF
  rw [if_pos (show lkE 4 0 ringL 0 1 = 0 by decide), show lkC 4 0 ringL 0 1 = 1 by decide]
  exact ring4_q
theorem ps_ring5 (s : Value) (w : World) (hr : Rd3 w s ring5L) : Calls Try.prog 28 #[.agg #[.int .i64 5, .int .i64 0, s], .int .i64 0, .int .i64 1] w fun e w' => ∃ v, e = .returned (.tuple #[v, .int .i64 0]) ∧ RdI w' v [0, 3, 4] ∧ Below w.heap.size w w' := by
  have := psp_any 5 0 ring5L s 0 1 w (by unfold I64; omega) (by unfold I64; omega) hr
  rw [ring5_ps, show lkE 5 0 ring5L 0 1 = 0 by decide] at this
  exact this
theorem rm_ring5 (s : Value) (w : World) (hr : Rd3 w s ring5L) : Calls Try.prog 30 #[.agg #[.int .i64 5, .int .i64 0, s], .int .i64 0, .int .i64 1] w fun e w' => e = .returned (.tuple #[.int .i64 3, .bool true, .int .i64 0]) ∧ Below w.heap.size w w' := by
  have := rm_any 5 0 ring5L s 0 1 w (by unfold I64; omega) (by unfold I64; omega) hr
  unfold rmO at this
  rw [if_pos (show lkE 5 0 ring5L 0 1 = 0 by decide), ring5_ps, ring5_qs, ring5_r, show lkE 5 0 ring5L 0 1 = 0 by decide] at this
  exact this
theorem rm_ring4 (s : Value) (w : World) (hr : Rd3 w s ringL) : Calls Try.prog 30 #[.agg #[.int .i64 4, .int .i64 0, s], .int .i64 0, .int .i64 1] w fun e w' => e = .returned (.tuple #[.int .i64 0, .bool false, .int .i64 0]) ∧ Below w.heap.size w w' := by
  have := rm_any 4 0 ringL s 0 1 w (by unfold I64; omega) (by unfold I64; omega) hr
  unfold rmO at this
  rw [if_pos (show lkE 4 0 ringL 0 1 = 0 by decide), ring4_ps, ring4_qs, ring4_r, show lkE 4 0 ringL 0 1 = 0 by decide] at this
  exact this
theorem wantA {g : Nat} (W : World) (h : W.heap[g]? = some (.cells #[.int .i64 2, .int .i64 1, .int .i64 3, .int .i64 2, .bool true, .int .i64 2, .int .i64 3, .int .i64 1, .int .i64 2, .bool true] 47 (0, 0))) : RdA W (.slice (some ⟨g, 0, none⟩) 2 2) [⟨2, 1, 3, 2, true⟩, ⟨2, 3, 1, 2, true⟩] := by
  have hb := lt_block h
  refine ⟨_, _, rfl, by decide, by decide, fun k x hk => ?_⟩
  match k, hk with
  | 0, hk => cases hk; exact ⟨g, 0, rfl, hb, cell_of h rfl, cell_of h rfl, cell_of h rfl, cell_of h rfl, cell_of h rfl⟩
  | 1, hk => cases hk; exact ⟨g, 0, rfl, hb, cell_of h rfl, cell_of h rfl, cell_of h rfl, cell_of h rfl, cell_of h rfl⟩
  | k + 2, hk => simp at hk
theorem awake_any (w : World) : Calls Try.prog 17 #[] w fun e w' => e = .returned (.bool true) ∧ Below w.heap.size w w' := by
  go_enter Try.func17, Try.ntmps17
  go_wp2_with fail
  go_at_call 60
  refine (ring4_any _).mono ?_
  rintro e w1 ⟨s1, rfl, hr, hb⟩
  have HB1 := Lib.hid hb
  have HR := Lib.hid hr
  obtain ⟨x1, x2, hf⟩ := rd3_slice hr
  subst hf
  clear hb hr
  go_wp2_with fail
  go_at_call 25
  refine (la_ring4 _ _ HR.out).mono ?_
  rintro e w2 ⟨lv, rfl, hl, hb⟩
  have HB2 := Lib.hid (below_then HB1.out hb)
  have HL := Lib.hid hl
  obtain ⟨l1, l2, hf⟩ := hl.form
  subst hf
  clear hb hl HR HB1
  go_wp2_with fail
  go_at_call 60
  refine (ring5_any _).mono ?_
  rintro e w3 ⟨s3, rfl, hr, hb⟩
  have HB3 := Lib.hid (below_then HB2.out hb)
  have HL3 := Lib.hid (HL.out.below hb)
  have HR := Lib.hid hr
  obtain ⟨x3, x4, hf⟩ := rd3_slice hr
  subst hf
  clear hb hr HL HB2
  go_wp2_with fail
  go_at_call 28
  refine (ps_ring5 _ _ HR.out).mono ?_
  rintro e w4 ⟨pv, rfl, hp, hb⟩
  have HB4 := Lib.hid (below_then HB3.out hb)
  have HL4 := Lib.hid (HL3.out.below hb)
  have HP4 := Lib.hid hp
  obtain ⟨p1, p2, hf⟩ := hp.form
  subst hf
  clear hb hp HL3 HB3 HR
  go_wp2_with fail
  go_at_call 60
  refine (ring5_any _).mono ?_
  rintro e w5 ⟨s5, rfl, hr, hb⟩
  have HB5 := Lib.hid (below_then HB4.out hb)
  have HL5 := Lib.hid (HL4.out.below hb)
  have HP5 := Lib.hid (HP4.out.below hb)
  have HR := Lib.hid hr
  obtain ⟨x5, x6, hf⟩ := rd3_slice hr
  subst hf
  clear hb hr HL4 HB4 HP4
  go_wp2_with fail
  go_at_call 30
  refine (rm_ring5 _ _ HR.out).mono ?_
  rintro e w6 ⟨rfl, hb⟩
  have HB6 := Lib.hid (below_then HB5.out hb)
  have HL6 := Lib.hid (HL5.out.below hb)
  have HP6 := Lib.hid (HP5.out.below hb)
  clear hb HL5 HB5 HP5 HR
  go_wp2_with fail
  go_at_call 60
  refine (ring4_any _).mono ?_
  rintro e w7 ⟨s7, rfl, hr, hb⟩
  have HB7 := Lib.hid (below_then HB6.out hb)
  have HL7 := Lib.hid (HL6.out.below hb)
  have HP7 := Lib.hid (HP6.out.below hb)
  have HR := Lib.hid hr
  obtain ⟨x7, x8, hf⟩ := rd3_slice hr
  subst hf
  clear hb hr HL6 HB6 HP6
  go_wp2_with fail
  go_at_call 30
  refine (rm_ring4 _ _ HR.out).mono ?_
  rintro e w8 ⟨rfl, hb⟩
  have HB8 := Lib.hid (below_then (below_then HB7.out hb) (below_alloc w8 (.cells #[.int .i64 2, .int .i64 1, .int .i64 3, .int .i64 2, .bool true, .int .i64 2, .int .i64 3, .int .i64 1, .int .i64 2, .bool true] 47)))
  have HL8 := Lib.hid ((HL7.out.below hb).below (below_alloc w8 (.cells #[.int .i64 2, .int .i64 1, .int .i64 3, .int .i64 2, .bool true, .int .i64 2, .int .i64 3, .int .i64 1, .int .i64 2, .bool true] 47)))
  have HP8 := Lib.hid ((HP7.out.below hb).below (below_alloc w8 (.cells #[.int .i64 2, .int .i64 1, .int .i64 3, .int .i64 2, .bool true, .int .i64 2, .int .i64 3, .int .i64 1, .int .i64 2, .bool true] 47)))
  have HW8 : Hid (RdA (w8.alloc (.cells #[.int .i64 2, .int .i64 1, .int .i64 3, .int .i64 2, .bool true, .int .i64 2, .int .i64 3, .int .i64 1, .int .i64 2, .bool true] 47)) (.slice (some ⟨w8.heap.size, 0, none⟩) 2 2) [⟨2, 1, 3, 2, true⟩, ⟨2, 3, 1, 2, true⟩]) := wantA _ (heap_alloc_new _ _)
  clear hb HL7 HB7 HP7 HR
  go_wp2_with fail
  generalize (w8.alloc (.cells #[.int .i64 2, .int .i64 1, .int .i64 3, .int .i64 2, .bool true, .int .i64 2, .int .i64 3, .int .i64 1, .int .i64 2, .bool true] 47)) = V at *
  go_at_call 27
  refine (sameA_any _ _ _ _ HL8.out HW8.out).mono ?_
  rintro e w9 ⟨rfl, hb⟩
  have HB9 := Lib.hid (below_then HB8.out hb)
  have HP9 := Lib.hid ((HP8.out.below hb).below (below_alloc w9 (.cells (ints [0, 3, 4]).toArray 3 (0, 0))))
  have hnew := rdi_new w9 [0, 3, 4] (by decide)
  have HN9 := Lib.hid hnew
  clear hb HL8 HW8 HB8 HP8 hnew
  go_wp2_with fail
  go_at_call 34
  refine (same3_any [0, 3, 4] _ _ _ HP9.out HN9.out).mono ?_
  rintro e w10 ⟨rfl, hb⟩
  have HB10 := Lib.hid (below_then (below_then HB9.out (below_alloc w9 _)) hb)
  clear hb HP9 HN9 HB9
  go_wp2
  go_ret
  exact ⟨rfl, HB10.out⟩
end Go.Proofs.Ytmbogobebllheaa
