/-
  The walk of Trim.
-/
import Derived.Test.YtiiojkekcnmddaaDoorPlD
import Derived.Deep.RegionLaw
import Derived.BigQuiet
namespace Go.Proofs.YtiiojkekcnmddaaDoor
open Go.RowKit
set_option linter.unusedSimpArgs false
set_option linter.unusedVariables false
set_option maxHeartbeats 2000000
set_option maxRecDepth 100000

def keepU (kept : List Ru) (r : Ru) : Bool := (chkR r == 0) && !(kept.any (fun q => covR q r))
def trimL : List Ru → List Ru → List Ru
  | kept, [] => kept
  | kept, r :: rs => bif keepU kept r then trimL (kept ++ [r]) rs else trimL kept rs
def trimR (rs : List Ru) : List Ru := trimL [] rs
theorem heap_set_eq {w : World} {g o : Nat} {cs : Array Value} {t : TypeId} {u : Value} (h : w.heap[g]? = some (.cells cs t (0, 0))) :
    (w.setCell ⟨g, o, none⟩ u).heap[g]? = some (.cells (cs.setIfInBounds o u) t (0, 0)) := by
  have hlt := lt_block h
  have h' : w.heap[g] = .cells cs t (0, 0) := by simpa [Array.getElem?_eq_getElem hlt] using h
  show (w.heap.modify g _)[g]? = _
  rw [Array.getElem?_eq_getElem (by simpa using hlt), Array.getElem_modify_self, h']
  rfl
theorem heap_set_ne {w : World} {g k o : Nat} {u : Value} (h : k ≠ g) : (w.setCell ⟨g, o, none⟩ u).heap[k]? = w.heap[k]? := Below.heap_setCell _ _ _ _ (fun e => h e)
theorem free_of {w : World} {g : Nat} {cs : Array Value} {t : TypeId} (h : w.heap[g]? = some (.cells cs t (0, 0))) (o : Nat) : w.frozen? ⟨g, o, none⟩ = false := by simp [World.frozen?, h]
theorem rdU_one (w : World) (r : Ru) (hr : RuOk r) : RdU (w.alloc (ruC r)) (.slice (some ⟨w.heap.size, 0, none⟩) 1 1) [r] := by
  have hx := heap_alloc_new w (ruC r)
  refine ⟨_, _, rfl, ⟨Nat.le_refl _, by decide⟩, ?_, ?_⟩
  · intro y hy
    obtain rfl : y = r := by simpa using hy
    exact hr
  · intro k y hk
    have hk0 : k = 0 := by have := (List.getElem?_eq_some_iff.1 hk).1; simp at this; exact this
    subst hk0
    obtain rfl : r = y := by simpa using hk
    exact ⟨w.heap.size, 0, rfl, by simp, cell_of hx rfl, cell_of hx rfl, cell_of hx rfl, cell_of hx rfl, cell_of hx rfl⟩
theorem OwnU.base {B B' : Nat} {w : World} {v : Value} {l : List Ru} (h : OwnU B' w v l) (hB : B ≤ B') : OwnU B w v l :=
  ⟨⟨Nat.le_trans hB h.1.1, h.1.2⟩, h.2.1, h.2.2.imp id (fun ⟨g, cap, cur, a, b, c⟩ => ⟨g, cap, cur, a, Nat.le_trans hB b, c⟩)⟩
theorem OwnU.set {B : Nat} {w : World} {v u : Value} {l : List Ru} {g o : Nat} (h : OwnU B w v l) (hg : g < B) : OwnU B (w.setCell ⟨g, o, none⟩ u) v l :=
  ⟨⟨by simpa using h.1.1, h.1.2⟩, row_congr h.2 (fun k hk => heap_set_ne (by have := (row_lt h.2 hk).1; omega))⟩
/-- the box that holds the row of what was kept -/
def KeptU (b : Nat) (w : World) (v : Value) (l : List Ru) : Prop := w.heap[b]? = some (.cells #[v] 32 (0, 0)) ∧ OwnU (b + 1) w v l
theorem KeptU.below {b : Nat} {w w1 : World} {v : Value} {l : List Ru} (h : KeptU b w v l) (hb : Below w.heap.size w w1) : KeptU b w1 v l := ⟨(hb.block b (lt_block h.1)).trans h.1, h.2.below hb⟩
theorem own_form {B : Nat} {w : World} {v : Value} {l : List Ru} (h : OwnU B w v l) : ∃ ad n cap, v = .slice ad n cap := by
  obtain ⟨ad, cap, e⟩ := h.rd.form
  exact ⟨ad, _, cap, e⟩
theorem trim_any (rs : List Ru) (v : Value) (w : World) (hv : RdU w v rs) (hl : rs.length ≤ 100000) :
    Calls Tryd.prog 21 #[v] w fun e w' => ∃ v', e = .returned v' ∧ OwnU w.heap.size w' v' (trimR rs) ∧ Below w.heap.size w w' := by
  obtain ⟨ad, cap, rfl, ⟨h1, h1'⟩, hok, hc⟩ := hv
  have HC := Lib.hid hc
  have HOK := Lib.hid hok
  obtain ⟨L, hL⟩ : ∃ L, rs.length = L := ⟨_, rfl⟩
  rw [hL] at h1 hl ⊢
  have HL := Lib.hid hL
  obtain ⟨Z, hZ⟩ : ∃ Z, trimR rs = Z := ⟨_, rfl⟩
  rw [hZ]
  have HZ0 : Hid (trimL [] (rs.drop 0) = Z) := by unfold Hid; rw [List.drop_zero]; exact hZ
  have HK0 : Hid (KeptU w.heap.size (w.alloc (.cells #[.slice none 0 0] 32)) (.slice none 0 0) []) := ⟨heap_alloc_new _ _, OwnU.nil _ _ (by simp)⟩
  have HB0 := Lib.hid (below_alloc w (.cells #[.slice none 0 0] 32))
  clear hc hL hok hZ
  go_enter Tryd.func21, Tryd.ntmps21
  go_wp2_with fail
  go_loopg [6, 10] L (fun g s6 s10 wr => ∃ (k : Nat) (u : Value) (kept : List Ru), k ≤ L ∧ L - k ≤ g ∧ kept.length ≤ k ∧ s10 = .int .i64 (k : Int) ∧ (∃ q, q = s6) ∧ Hid (KeptU w.heap.size wr u kept) ∧ Hid (trimL kept (rs.drop k) = Z) ∧ Hid (Below w.heap.size w wr))
  case atStart => exact ⟨0, _, [], by omega, by omega, Nat.le_refl _, rfl, ⟨_, rfl⟩, HK0, HZ0, HB0⟩
  case round =>
    clear HK0 HZ0 HB0
    obtain ⟨k, u, kept, hk, hkg, hkl, rfl, ⟨u6, rfl⟩, HK, HZ, HW⟩ := hrel
    by_cases hlt : k < L
    · obtain ⟨z, hz⟩ : ∃ z, rs[k]? = some z := ⟨_, List.getElem?_eq_getElem (by rw [HL.out]; exact hlt)⟩
      obtain ⟨b, off, rfl, hb, e0, e1, e2, e3, e4⟩ := HC.out k z hz
      have c0 := carry HW.out e0
      have c1 := carry HW.out e1
      have c2 := carry HW.out e2
      have c3 := carry HW.out e3
      have c4 := carry HW.out e4
      have hzok := HOK.out z (List.mem_of_getElem? hz)
      have HD : Hid (rs.drop k = z :: rs.drop (k + 1)) := by
        unfold Hid
        obtain ⟨hkk, hze⟩ := List.getElem?_eq_some_iff.1 hz
        rw [List.drop_eq_getElem_cons hkk, hze]
      have HB1 : Hid (Below w.heap.size w (wr.alloc (ruC z))) := below_then HW.out (below_alloc _ _)
      have HK1 : Hid (KeptU w.heap.size (wr.alloc (ruC z)) u kept) := HK.out.below (below_alloc _ _)
      have HCL := Lib.hid (closure36_any z hzok kept u w.heap.size (wr.alloc (ruC z)) HK1.out.2.rd (cell_of HK1.out.1 rfl))
      have k0 : (0 : Int) ≤ (k : Int) := by omega
      have k1 : (k : Int) < (L : Int) := by omega
      have hws : w.heap.size < wr.heap.size := lt_block HK.out.1
      clear hz e0 e1 e2 e3 e4 hb
      cases hkp : keepU kept z with
      | true =>
        have HN : Hid (trimL (kept ++ [z]) (rs.drop (k + 1)) = Z) := by unfold Hid; rw [← HZ.out, HD.out, trimL, hkp]; rfl
        have e : ((chkR z == 0) && !(kept.any (fun q => covR q z))) = true := hkp
        rw [e] at HCL
        obtain ⟨pm, ⟨a, n⟩, mn, mx⟩ := z
        dsimp only at *
        clear HZ HD hkp e HK HW
        go_wp2_with fail
        refine HCL.out.mono ?_
        rintro e w1 ⟨rfl, hw1⟩
        have HB2 := Lib.hid (below_then HB1.out hw1)
        have HK2 := Lib.hid (HK1.out.below hw1)
        have hx := (hw1.block wr.heap.size (by simp)).trans (heap_alloc_new wr (ruC (pm, (a, n), mn, mx)))
        have x0 : w1.cell? ⟨wr.heap.size, 0, none⟩ = some (.bool pm) := cell_of hx rfl
        have x1 : w1.cell? ⟨wr.heap.size, 1, none⟩ = some (.int .u32 (a : Int)) := cell_of hx rfl
        have x2 : w1.cell? ⟨wr.heap.size, 2, none⟩ = some (.int .i64 n) := cell_of hx rfl
        have x3 : w1.cell? ⟨wr.heap.size, 3, none⟩ = some (.int .i64 mn) := cell_of hx rfl
        have x4 : w1.cell? ⟨wr.heap.size, 4, none⟩ = some (.int .i64 mx) := cell_of hx rfl
        have xb : w1.cell? ⟨w.heap.size, 0, none⟩ = some u := cell_of HK2.out.1 rfl
        have HB3 : Hid (Below w.heap.size w (w1.alloc (ruC (pm, (a, n), mn, mx)))) := below_then HB2.out (below_alloc _ _)
        have HK3 : Hid (KeptU w.heap.size (w1.alloc (ruC (pm, (a, n), mn, mx))) u kept) := HK2.out.below (below_alloc _ _)
        have HR3 := Lib.hid (rdU_one w1 (pm, (a, n), mn, mx) hzok)
        clear hx hw1
        go_wp2_with (at_builtin; refine append_rules rfl (.tmp 17) (.tmp 19) rfl (w.heap.size + 1) (lt_block HK3.out.1) u kept rfl HK3.out.2 (.slice (some ⟨w1.heap.size, 0, none⟩) 1 1) [(pm, (a, n), mn, mx)] rfl HR3.out (fun c e => by cases e) (by simp; omega) ?_; intro v2 w2 hown hgrow hbl; obtain ⟨ad2, n2, cap2, hf2⟩ := own_form hown; subst hf2; have HO2 := Lib.hid hown; have hblk := (hgrow.block w.heap.size (lt_block HK3.out.1) (fun e => by have := (row_lt HK3.out.2.2 e.symm).1; omega)).trans HK3.out.1; have HBK := Lib.hid hblk; have HBL := Lib.hid hbl; have q0 := cell_of hblk (rfl : (#[u] : Array Value)[0]? = some u); have q1 := free_of hblk 0; clear hown hgrow hbl hblk)
        have HB4 : Hid (Below w.heap.size w w2) := HB3.out.trans (HBL.out.mono (by omega))
        have HK4 : Hid (KeptU w.heap.size (w2.setCell ⟨w.heap.size, 0, none⟩ (.slice ad2 n2 cap2)) (.slice ad2 n2 cap2) (kept ++ [(pm, (a, n), mn, mx)])) := ⟨heap_set_eq HBK.out, HO2.out.set (by omega)⟩
        have HB5 : Hid (Below w.heap.size w (w2.setCell ⟨w.heap.size, 0, none⟩ (.slice ad2 n2 cap2))) := HB4.out.setCell (by simp) _
        go_roundg (L - (k + 1))
        case measure => omega
        case rel => exact ⟨k + 1, _, kept ++ [(pm, (a, n), mn, mx)], by omega, Nat.le_refl _, by simp; omega, by go_num, ⟨_, rfl⟩, HK4, HN, HB5⟩
      | false =>
        have HN : Hid (trimL kept (rs.drop (k + 1)) = Z) := by unfold Hid; rw [← HZ.out, HD.out, trimL, hkp]; rfl
        have e : ((chkR z == 0) && !(kept.any (fun q => covR q z))) = false := hkp
        rw [e] at HCL
        obtain ⟨pm, ⟨a, n⟩, mn, mx⟩ := z
        dsimp only at *
        clear HZ HD hkp e HK HW
        go_wp2_with fail
        refine HCL.out.mono ?_
        rintro e w1 ⟨rfl, hw1⟩
        have HB2 := Lib.hid (below_then HB1.out hw1)
        have HK2 := Lib.hid (HK1.out.below hw1)
        clear hw1
        go_wp2_with fail
        go_roundg (L - (k + 1))
        case measure => omega
        case rel => exact ⟨k + 1, u, kept, by omega, Nat.le_refl _, by omega, by go_num, ⟨_, rfl⟩, HK2, HN, HB2⟩
    · have k1 : decide ((k : Int) < (L : Int)) = false := decide_eq_false (by omega)
      have hkL : k = L := by omega
      have HZ2 : Hid (kept = Z) := by
        unfold Hid; rw [← HZ.out, List.drop_eq_nil_of_le (by rw [HL.out]; omega)]; rfl
      have q0 := cell_of HK.out.1 (rfl : (#[u] : Array Value)[0]? = some u)
      have HO : Hid (OwnU w.heap.size wr u Z) := HZ2.out ▸ HK.out.2.base (by omega)
      clear HZ
      go_wp2
      go_ret
      exact ⟨_, rfl, HO.out, HW.out⟩
end Go.Proofs.YtiiojkekcnmddaaDoor
