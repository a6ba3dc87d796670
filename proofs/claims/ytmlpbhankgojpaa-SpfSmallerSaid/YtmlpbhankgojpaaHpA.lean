/-
  The walks of the queue's order, of 'has' and of the exchange of two items.
-/
import Derived.Test.YtmlpbhankgojpaaHpMem
namespace Go.Proofs.Ytmlpbhankgojpaa
open Go.RowKit HM
set_option linter.unusedSimpArgs false
set_option linter.unusedVariables false
set_option maxHeartbeats 4000000
set_option maxRecDepth 100000

def ltB (keys : List Int) (a b : Nat) : Bool := decide (lt (gI keys) a b)
theorem ltB_true {keys : List Int} {a b : Nat} : ltB keys a b = true ↔ lt (gI keys) a b := by unfold ltB; simp
theorem ltB_false {keys : List Int} {a b : Nat} : ltB keys a b = false ↔ ¬ lt (gI keys) a b := by unfold ltB; simp
theorem ltB_eq {keys : List Int} {a b : Nat} (h : gI keys a = gI keys b) : ltB keys a b = decide (a < b) :=
  Bool.eq_iff_iff.2 (by rw [ltB_true, decide_eq_true_iff]; unfold lt; omega)
theorem ltB_ne {keys : List Int} {a b : Nat} (h : gI keys a ≠ gI keys b) : ltB keys a b = decide (gI keys a < gI keys b) := by
  exact Bool.eq_iff_iff.2 (by rw [ltB_true, decide_eq_true_iff]; unfold lt; omega)

theorem before_any (w : World) (hb : Nat) (vi : Value) (P K n : Nat) (its : List Nat) (pl keys : List Int) (h : HS w hb vi P K n its pl keys) (hn : n ≤ 65536) (a b : Nat) (ha : a < n) (hb' : b < n) :
    Calls Try.prog 60 #[.pointer (some ⟨hb, 0, none⟩), .int .i64 (a : Int), .int .i64 (b : Int)] w fun e w' => e = .returned (.bool (ltB keys a b)) ∧ ∃ q, w' = w.drewN q := by
  have c2 := h.f2
  have ca := h.ck ha
  have cb := h.ck hb'
  have a0 : (0 : Int) ≤ (a : Int) := by omega
  have a1 : (a : Int) < (n : Int) := by omega
  have b0 : (0 : Int) ≤ (b : Int) := by omega
  have b1 : (b : Int) < (n : Int) := by omega
  by_cases e : gI keys a = gI keys b
  · have L := Lib.hid (ltB_eq e)
    rw [e] at ca
    clear h e
    generalize gI keys b = y at ca cb
    go_enter Try.func60, Try.ntmps60
    go_wp2_with fail
    go_quiet (fail)
    go_wp2
    go_ret
    exact ⟨by rw [L.out]; rfl, ⟨_, rfl⟩⟩
  · have L := Lib.hid (ltB_ne e)
    have e1 : (gI keys a == gI keys b) = false := by simpa using e
    have e2 : (gI keys a != gI keys b) = true := by simpa using e
    clear h e
    generalize gI keys a = x at ca e1 e2 L
    generalize gI keys b = y at cb e1 e2 L
    go_enter Try.func60, Try.ntmps60
    go_wp2_with fail
    go_quiet (fail)
    go_wp2_with fail
    go_quiet (fail)
    go_wp2
    go_ret
    exact ⟨by rw [L.out]; rfl, ⟨_, World.drewN_drewN _ _ _⟩⟩

theorem has_lo (w : World) (hb : Nat) (i : Int) (hi : i < 0) : Calls Try.prog 69 #[.pointer (some ⟨hb, 0, none⟩), .int .i64 i] w fun e w' => e = .returned (.bool false) ∧ w = w' := by
  have h1 : decide (0 ≤ i) = false := decide_eq_false (by omega)
  go_enter Try.func69, Try.ntmps69
  go_wp2
  go_ret
  exact ⟨rfl, rfl⟩
theorem has_hi (w : World) (hb : Nat) (vi : Value) (P K n : Nat) (its : List Nat) (pl keys : List Int) (h : HS w hb vi P K n its pl keys) (i : Int) (hi : (n : Int) ≤ i) :
    Calls Try.prog 69 #[.pointer (some ⟨hb, 0, none⟩), .int .i64 i] w fun e w' => e = .returned (.bool false) ∧ w = w' := by
  have c1 := h.f1
  have h0 : 0 ≤ i := by omega
  have h1 : decide (i < (n : Int)) = false := decide_eq_false (by omega)
  clear h
  go_enter Try.func69, Try.ntmps69
  go_wp2
  go_ret
  exact ⟨rfl, rfl⟩
theorem has_in (w : World) (hb : Nat) (vi : Value) (P K n : Nat) (its : List Nat) (pl keys : List Int) (h : HS w hb vi P K n its pl keys) (x : Nat) (hx : x < n) :
    Calls Try.prog 69 #[.pointer (some ⟨hb, 0, none⟩), .int .i64 (x : Int)] w fun e w' => e = .returned (.bool (decide (0 ≤ gI pl x))) ∧ w = w' := by
  have c1 := h.f1
  have cp := h.cp hx
  have h0 : (0 : Int) ≤ (x : Int) := by omega
  have h1 : (x : Int) < (n : Int) := by omega
  clear h
  generalize gI pl x = y at cp ⊢
  go_enter Try.func69, Try.ntmps69
  go_wp2
  go_ret
  exact ⟨rfl, rfl⟩

theorem swap_any (w : World) (hb I ci P K n : Nat) (its : List Nat) (pl keys : List Int) (h : HS w hb (.slice (some ⟨I, 0, none⟩) its.length ci) P K n its pl keys) (hw : WF n its pl) (hn : n ≤ 65536) (a b : Nat) (ha : a < its.length) (hb' : b < its.length) :
    Calls Try.prog 76 #[.pointer (some ⟨hb, 0, none⟩), .int .i64 (a : Int), .int .i64 (b : Int)] w fun e w' => e = .returned (.tuple #[]) ∧
      HS w' hb (.slice (some ⟨I, 0, none⟩) its.length ci) P K n (swapI its a b) (swapP pl (swapI its a b) a b) keys ∧ Kp [I, P] w w' := by
  have hnb := h.ib
  have hnp := h.ip
  simp [Value.ownBlock] at hnb hnp
  obtain ⟨L, hL⟩ : ∃ L, its.length = L := ⟨_, rfl⟩
  have hle := hw.le
  rw [hL] at h ha hb' hle ⊢
  have gs := fun p => swapI_get (its := its) (a := a) (b := b) (by omega) (by omega) p
  have eA : gN (swapI its a b) a = gN its b := by rw [gs]; by_cases e : a = b; simp [e]; simp [e]
  have eB : gN (swapI its a b) b = gN its a := by rw [gs, if_pos rfl]
  have xA := (hw.at' a (by omega)).1
  have xB := (hw.at' b (by omega)).1
  have h1 := (h.setI hL a (gN its b)).setI (by simpa using hL) b (gN its a)
  have f0 := h.f0
  have f1 := h.f1
  have cA := h.cellI hL ha
  have cB := h.cellI hL hb'
  have zA := h.freeI hL a
  have zB := h.freeI hL b
  have a0 : (0 : Int) ≤ (a : Int) := by omega
  have a1 : (a : Int) < (L : Int) := by omega
  have b0 : (0 : Int) ≤ (b : Int) := by omega
  have b1 : (b : Int) < (L : Int) := by omega
  have hL' : (swapI its a b).length = L := by rw [swapI_len, hL]
  have cM := (h.setI hL a (gN its b)).cellI (by simpa using hL) hb'
  have zM := (h.setI hL a (gN its b)).freeI (by simpa using hL) b
  generalize gN (its.set a (gN its b)) b = m at cM
  have H := Lib.hid h
  have H1 : Hid (HS ((w.setCell ⟨I, a, none⟩ (.int .i64 (gN its b : Int))).setCell ⟨I, b, none⟩ (.int .i64 (gN its a : Int))) hb (.slice (some ⟨I, 0, none⟩) L ci) P K n (swapI its a b) pl keys) := h1
  have EA := Lib.hid eA
  have EB := Lib.hid eB
  have HL := Lib.hid hL'
  clear h h1 eA eB gs hw hL hL'
  generalize hI : swapI its a b = its' at *
  generalize gN its a = x at *
  generalize gN its b = y at *
  go_enter Try.func76, Try.ntmps76
  go_wp2_with fail
  go_region
  go_wp2_with fail
  have g1 := H1.out.drew
  have k1 : Kp [I, P] w ((w.setCell ⟨I, a, none⟩ (.int .i64 (y : Int))).setCell ⟨I, b, none⟩ (.int .i64 (x : Int))).drew := (((Kp.refl _ w).setCell (.inl (by simp))).setCell (.inl (by simp))).drew
  clear f0 f1 cA cB zA zB cM zM H H1
  generalize ((w.setCell ⟨I, a, none⟩ (.int .i64 (y : Int))).setCell ⟨I, b, none⟩ (.int .i64 (x : Int))).drew = wq at *
  have f0 := g1.f0
  have f1 := g1.f1
  have cA := g1.cellI HL.out ha
  have cB := g1.cellI HL.out hb'
  rw [EA.out] at cA
  rw [EB.out] at cB
  have cX := g1.cp xA
  have cY := g1.cp xB
  have zX := g1.fp x
  have zY := g1.fp y
  have g2 := (g1.setP y (a : Int)).setP x (b : Int)
  have cM := (g1.setP y (a : Int)).cp xA
  have zM := (g1.setP y (a : Int)).fp x
  generalize gI pl x = px at cX
  generalize gI pl y = py at cY
  generalize gI (pl.set y (a : Int)) x = pm at cM
  have x0 : (0 : Int) ≤ (x : Int) := by omega
  have x1 : (x : Int) < (n : Int) := by omega
  have y0 : (0 : Int) ≤ (y : Int) := by omega
  have y1 : (y : Int) < (n : Int) := by omega
  have G2 := Lib.hid g2
  have KK := Lib.hid k1
  clear g1 g2 k1
  go_region
  go_wp2
  go_end0
  refine ⟨rfl, ?_, ((KK.out.setCell (.inl (by simp))).setCell (.inl (by simp))).drew⟩
  have := G2.out.drew
  unfold swapP
  rw [EA.out, EB.out]
  exact this
end Go.Proofs.Ytmlpbhankgojpaa
