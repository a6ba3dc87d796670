/-
  EncodeHeader.
-/
import Derived.Test.YtenfcnappjekgaaLaT
namespace Go.Proofs.Ytenfcnappjekgaa
open Go.RowKit
set_option linter.unusedSimpArgs false
set_option linter.unusedVariables false
set_option maxHeartbeats 4000000
set_option maxRecDepth 100000

theorem hdr_range {h : Hd} (h0 : hdrC h = 0) : 1 ≤ h.ty ∧ h.ty ≤ 5 ∧ h.rt ≠ 0 ∧ 1 ≤ h.seq ∧ h.seq ≤ 2147483647 ∧ 0 ≤ h.age ∧ h.age ≤ 3600 ∧ 0 ≤ h.sum ∧ h.sum ≤ 65535 ∧ 0 ≤ h.len ∧ h.len ≤ 32 := by
  by_cases c1 : h.ty < 1
  · exfalso; unfold hdrC at h0; simp [c1] at h0
  by_cases c2 : 5 < h.ty
  · exfalso; unfold hdrC at h0; simp [c1, c2] at h0
  by_cases c3 : h.rt = 0
  · exfalso; unfold hdrC at h0; simp [c1, c2, c3] at h0
  by_cases c4 : h.seq < 1
  · exfalso; unfold hdrC at h0; simp [c1, c2, c3, c4] at h0
  by_cases c5 : 2147483647 < h.seq
  · exfalso; unfold hdrC at h0; simp [c1, c2, c3, c4, c5] at h0
  by_cases c6 : h.age < 0
  · exfalso; unfold hdrC at h0; simp [c1, c2, c3, c4, c5, c6] at h0
  by_cases c7 : 3600 < h.age
  · exfalso; unfold hdrC at h0; simp [c1, c2, c3, c4, c5, c6, c7] at h0
  by_cases c8 : h.sum < 0
  · exfalso; unfold hdrC at h0; simp [c1, c2, c3, c4, c5, c6, c7, c8] at h0
  by_cases c9 : 65535 < h.sum
  · exfalso; unfold hdrC at h0; simp [c1, c2, c3, c4, c5, c6, c7, c8, c9] at h0
  by_cases c10 : h.len < 0
  · exfalso; unfold hdrC at h0; simp [c1, c2, c3, c4, c5, c6, c7, c8, c9, c10] at h0
  by_cases c11 : longest h < h.len
  · exfalso; unfold hdrC at h0; simp [c1, c2, c3, c4, c5, c6, c7, c8, c9, c10, c11] at h0
  have : longest h ≤ 32 := by unfold longest; split <;> omega
  exact ⟨by omega, by omega, c3, by omega, by omega, by omega, by omega, by omega, by omega, by omega, by omega⟩
def toN (h : Hd) : HdN := ⟨h.ty.toNat, h.id, h.len.toNat, h.rt, h.seq.toNat, h.age.toNat, h.sum.toNat⟩
theorem toN_z {h : Hd} (h0 : hdrC h = 0) : (toN h).z = h := by
  obtain ⟨a1, a2, a3, a4, a5, a6, a7, a8, a9, a10, a11⟩ := hdr_range h0
  obtain ⟨ty, id, len, rt, seq, age, sum⟩ := h
  dsimp only at a1 a2 a3 a4 a5 a6 a7 a8 a9 a10 a11
  show (⟨((ty.toNat : Nat) : Int), id, ((len.toNat : Nat) : Int), rt, ((seq.toNat : Nat) : Int), ((age.toNat : Nat) : Int), ((sum.toNat : Nat) : Int)⟩ : Hd) = ⟨ty, id, len, rt, seq, age, sum⟩
  rw [show ((ty.toNat : Nat) : Int) = ty by omega, show ((len.toNat : Nat) : Int) = len by omega, show ((seq.toNat : Nat) : Int) = seq by omega, show ((age.toNat : Nat) : Int) = age by omega, show ((sum.toNat : Nat) : Int) = sum by omega]
theorem toN_ok {h : Hd} (hh : HdOk h) (h0 : hdrC h = 0) : HdNok (toN h) := by
  obtain ⟨a1, a2, a3, a4, a5, a6, a7, a8, a9, a10, a11⟩ := hdr_range h0
  exact ⟨by show h.ty.toNat < _; omega, hh.id, by show h.len.toNat < _; omega, hh.rt, by show h.seq.toNat < _; omega, by show h.age.toNat < _; omega, by show h.sum.toNat < _; omega⟩
theorem f71_any (h : HdN) (hh : HdNok h) (g B : Nat) (W : World) (hx : W.heap[g]? = some (hdC h.z)) (hp : PutI W B []) :
    Calls Try.prog 71 #[putV B, .pointer (some ⟨g, 0, none⟩)] W fun e w' => e = .returned (.tuple #[]) ∧ PutI w' B (hdB h) ∧ Pu B W w' := by
  have k0 := cell_of hx (rfl : (#[Value.int .i64 h.z.ty, .int .u32 (h.z.id : Int), .int .i64 h.z.len, .int .u32 (h.z.rt : Int), .int .i64 h.z.seq, .int .i64 h.z.age, .int .i64 h.z.sum] : Array Value)[0]? = some (.int .i64 h.z.ty))
  have k1 := cell_of hx (rfl : (#[Value.int .i64 h.z.ty, .int .u32 (h.z.id : Int), .int .i64 h.z.len, .int .u32 (h.z.rt : Int), .int .i64 h.z.seq, .int .i64 h.z.age, .int .i64 h.z.sum] : Array Value)[1]? = some (.int .u32 (h.z.id : Int)))
  have k2 := cell_of hx (rfl : (#[Value.int .i64 h.z.ty, .int .u32 (h.z.id : Int), .int .i64 h.z.len, .int .u32 (h.z.rt : Int), .int .i64 h.z.seq, .int .i64 h.z.age, .int .i64 h.z.sum] : Array Value)[2]? = some (.int .i64 h.z.len))
  have k3 := cell_of hx (rfl : (#[Value.int .i64 h.z.ty, .int .u32 (h.z.id : Int), .int .i64 h.z.len, .int .u32 (h.z.rt : Int), .int .i64 h.z.seq, .int .i64 h.z.age, .int .i64 h.z.sum] : Array Value)[3]? = some (.int .u32 (h.z.rt : Int)))
  have k4 := cell_of hx (rfl : (#[Value.int .i64 h.z.ty, .int .u32 (h.z.id : Int), .int .i64 h.z.len, .int .u32 (h.z.rt : Int), .int .i64 h.z.seq, .int .i64 h.z.age, .int .i64 h.z.sum] : Array Value)[4]? = some (.int .i64 h.z.seq))
  have k5 := cell_of hx (rfl : (#[Value.int .i64 h.z.ty, .int .u32 (h.z.id : Int), .int .i64 h.z.len, .int .u32 (h.z.rt : Int), .int .i64 h.z.seq, .int .i64 h.z.age, .int .i64 h.z.sum] : Array Value)[5]? = some (.int .i64 h.z.age))
  have k6 := cell_of hx (rfl : (#[Value.int .i64 h.z.ty, .int .u32 (h.z.id : Int), .int .i64 h.z.len, .int .u32 (h.z.rt : Int), .int .i64 h.z.seq, .int .i64 h.z.age, .int .i64 h.z.sum] : Array Value)[6]? = some (.int .i64 h.z.sum))
  have HB := Lib.hid (header_any h hh B [] W hp (by simp))
  clear hx hp
  go_enter Try.func71, Try.ntmps71
  go_wp2_with (go_at_call 72; refine HB.out.mono ?_; rintro e w1 ⟨rfl, h1, h2⟩; have P1 := Lib.hid (And.intro h1 h2); clear h1 h2)
  go_end0
  exact ⟨rfl, P1.out.1, P1.out.2⟩
theorem encHeader_any (h : Hd) (hh : HdOk h) (w : World) : Calls Try.prog 31 #[hdV h] w fun e w' => EncP w (hdrC h) (hdB (toN h)) e w' := by
  have hx0 : (w.alloc (hdC h)).heap[w.heap.size]? = some (hdC h) := heap_alloc_new w _
  have HX := Lib.hid hx0
  have B0 := Lib.hid (below_alloc w (hdC h))
  have H1 := Lib.hid (hdr_any h hh)
  have HBY := Lib.hid (hdB_bytes (toN h))
  have HW : Hid (hdrC h = 0 → ∀ W, W.heap[w.heap.size]? = some (hdC h) → Calls Try.prog 70 #[.func (.func 71) #[] #[.pointer (some ⟨w.heap.size, 0, none⟩)]] W fun e w' => ∃ v, e = .returned v ∧ OwnB W w' v (hdB (toN h)) ∧ Below W.heap.size W w') := fun h0 W hW =>
    written_head w.heap.size (hdB (toN h)) W (fun W' B hp hbel hle => f71_any (toN h) (toN_ok hh h0) w.heap.size B W' (by rw [toN_z h0]; exact (hbel.block _ (Array.getElem?_eq_some_iff.1 hW).1).trans hW) hp)
  obtain ⟨c, hc⟩ : ∃ c, hdrC h = c := ⟨_, rfl⟩
  rw [hc] at H1 HW ⊢
  clear hx0 hc hh
  generalize hdB (toN h) = E at *
  go_enter Try.func31, Try.ntmps31
  go_wp2_with fail
  go_at_call 40
  refine (H1.out _).mono ?_
  rintro e w1 ⟨rfl, h1⟩
  have HB1 := Lib.hid (below_then B0.out h1)
  have HX1 : Hid (w1.heap[w.heap.size]? = some (hdC h)) := (h1.block _ (by simp)).trans HX.out
  clear h1
  by_cases h0 : c = 0
  · have HW2 := Lib.hid (HW.out h0 w1 HX1.out)
    subst h0
    go_wp2_with fail
    go_at_call 70
    refine HW2.out.mono ?_
    rintro e w2 ⟨v, rfl, ho, h2⟩
    have HO : Hid (OwnB w w2 v E) := ho.base HB1.out.size
    have HB2 := Lib.hid (below_then HB1.out h2)
    clear ho h2
    go_wp2
    refine bodyPost_ret (results_tmp2 rfl _ _ _) rfl ?_
    exact EncP.good rfl HO.out HB2.out
  · have c0 : (c != 0) = true := by simpa using h0
    go_wp2
    refine bodyPost_ret (results_tmp2 rfl _ _ _) rfl ?_
    exact EncP.bad rfl h0 HB1.out
end Go.Proofs.Ytenfcnappjekgaa
