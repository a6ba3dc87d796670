/-
  How a slice of bytes is opened.
-/
import Derived.Test.YtenfcnappjekgaaFrL
namespace Go.Proofs.Ytenfcnappjekgaa
set_option maxRecDepth 100000
set_option linter.unusedSimpArgs false
set_option linter.unusedVariables false
open Go.ChangeShapes Go.WideShapes Go.ChangeAt Go.RowKit
section
variable {H : Type} {enc : TypeId × Value → H} {w : World}
theorem open_bytes {r : Reach} {b0 : Nat} {spare : Nat → Bool} {v : Value} {d : DataW H} {p : List MemPlace}
    (hv : Value.okWide Try.prog w r b0 44 v) (h : DataW.Trod enc Try.prog w 0 spare true 44 v d p) : ∃ l, Rd w v l ∧ (l = [] ∨ ∃ es sp, d = .slice es sp ∧ es.length = l.length) := by
  obtain ⟨a0, len, cap, rfl⟩ := okWide_slice Try.underlying44 hv
  obtain ⟨fuel, hf⟩ := h
  rcases open_ints Try.underlying44 Try.underlying5 cells5 hf with ⟨hcs, _⟩ | ⟨a, len', cap', zs, hcs, hb, hl, hm, hlen, hx, hc, hw⟩
  · simp [Value.cells] at hcs
    obtain ⟨rfl, rfl, rfl⟩ := hcs
    exact ⟨[], rd_nil w, .inl rfl⟩
  · simp [Value.cells] at hcs
    obtain ⟨rfl, rfl, rfl⟩ := hcs
    have hle : len ≤ zs.length := by rw [hlen]; split <;> omega
    have hlt : ((zs.take len).map Int.toNat).length = len := by simp; omega
    have hd : d = .slice (lits .u8 (zs.take len)) (lits .u8 (zs.drop len)) := (Prod.mk.inj hx).1
    refine ⟨(zs.take len).map Int.toNat, ⟨some a, cap, by rw [hlt], by omega, ?_, ?_⟩, .inr ⟨_, _, hd, ?_⟩⟩
    · intro x hx'
      obtain ⟨z, hz, rfl⟩ := List.mem_map.1 hx'
      have := bounds_u8 (hw z (List.mem_of_mem_take hz)); omega
    · intro k x hk
      have hkl : k < len := by have := (List.getElem?_eq_some_iff.1 hk).1; omega
      have hcell := hc k (by omega)
      have hsp : a.spot = none := by have := World.cell?_spot (hc 0 (by omega)); simpa [Addr.add] using this
      obtain ⟨b, off, spot⟩ := a
      obtain rfl : spot = none := hsp
      rw [Addr.add_lit] at hcell
      refine ⟨b, off, rfl, World.block_lt_of_cell? _ _ hcell, ?_⟩
      rw [hcell]
      have hz : zs.getD k 0 ∈ zs := by
        have e : zs.getD k 0 = zs[k]'(by omega) := by simp [List.getD]; rw [List.getElem?_eq_getElem (by omega)]; rfl
        rw [e]; exact List.getElem_mem _
      have hb := bounds_u8 (hw _ hz)
      rw [List.getElem?_map, List.getElem?_take, if_pos hkl] at hk
      have e : zs[k]? = some (zs.getD k 0) := by rw [List.getElem?_eq_getElem (by omega : k < zs.length)]; simp [List.getD]; rw [List.getElem?_eq_getElem (by omega)]; rfl
      rw [e] at hk
      simp at hk
      rw [← hk]
      simp only [Option.some.injEq]
      congr 1
      simp at hb ⊢
      omega
    · rw [hlt]; simp [lits]; omega
theorem bytes_len {ts : List TypeId} {ds : List (DataW H)} {j : Nat} {d : DataW H} {l : List Nat} (hsz : (DataW.weightsEach Try.prog ts ds).all (· ≤ reachBytes) = true) (ht : ts[j]? = some 44) (hd : ds[j]? = some d)
    (h : l = [] ∨ ∃ es sp, d = .slice es sp ∧ es.length = l.length) : l.length ≤ 140737488351232 := by
  rcases h with rfl | ⟨es, sp, rfl, he⟩
  · simp
  · have := sized_slice hsz ht hd Try.underlying44
    rw [bytes5] at this
    unfold reachBytes at this
    omega
end
end Go.Proofs.Ytenfcnappjekgaa
