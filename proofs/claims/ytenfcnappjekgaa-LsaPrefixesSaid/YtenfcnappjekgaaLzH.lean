/-
  SameBody: the program and the reference.
-/
import Derived.Test.YtenfcnappjekgaaLzC
import Derived.Test.YtenfcnappjekgaaLzD
import Derived.Test.YtenfcnappjekgaaLzE
import Derived.Test.YtenfcnappjekgaaLzF
import Derived.Test.YtenfcnappjekgaaLzG
namespace Go.Proofs.Ytenfcnappjekgaa
open Go.RowKit
set_option linter.unusedSimpArgs false
set_option linter.unusedVariables false
set_option maxHeartbeats 8000000
set_option maxRecDepth 100000


def keyE (a b : Hd) : Bool := (a.ty == b.ty) && (((a.id : Int) == (b.id : Int)) && ((a.len == b.len) && ((a.rt : Int) == (b.rt : Int))))
theorem keyE_true {a b : Hd} (h : keyE a b = true) : a.ty = b.ty ∧ (a.id : Int) = (b.id : Int) ∧ a.len = b.len ∧ (a.rt : Int) = (b.rt : Int) := by
  unfold keyE at h
  simpa only [Bool.and_eq_true, beq_iff_eq] using h
theorem keyE_false {a b : Hd} (h : keyE a b = false) : a.ty = b.ty → (a.id : Int) = (b.id : Int) → a.len = b.len → ¬ (a.rt : Int) = (b.rt : Int) := by
  intro p1 p2 p3 p4
  unfold keyE at h
  rw [p1, p2, p3, p4] at h
  simp at h
def sameB (x y : Ls) : Bool := keyE x.h y.h && ((x.bo == y.bo) && ((x.bd == y.bd) && (eqL x.ls y.ls && (eqW x.ats y.ats && ((x.co == y.co) && ((x.se == y.se) && (((x.fw : Int) == (y.fw : Int)) && (x.ta == y.ta))))))))

theorem same_any (x y : Ls) (v u : Value) (w : World) (hv : RdA w v x) (hu : RdA w u y) : Calls Try.prog 36 #[v, u] w fun e w' => e = .returned (.bool (sameB x y)) ∧ Below w.heap.size w w' := by
  obtain ⟨aL, cL, aA, cA, rfl, h1, h2⟩ := hv
  obtain ⟨aL', cL', aA', cA', rfl, g1, g2⟩ := hu
  cases hK : keyE x.h y.h
  · have hz : sameB x y = false := by unfold sameB; simp [hK]
    rw [hz]; exact sb0 x y _ _ _ _ _ _ _ _ w  (keyE_false hK)
  cases hbo : (x.bo == y.bo)
  · have hz : sameB x y = false := by unfold sameB; simp [hK, hbo]
    rw [hz]; exact sb1 x y _ _ _ _ _ _ _ _ w (keyE_true hK) hbo
  cases hbd : (x.bd == y.bd)
  · have hz : sameB x y = false := by unfold sameB; simp [hK, hbo, hbd]
    rw [hz]; exact sb2 x y _ _ _ _ _ _ _ _ w (keyE_true hK) hbo hbd
  cases hL : eqL x.ls y.ls
  · have hz : sameB x y = false := by unfold sameB; simp [hK, hbo, hbd, hL]
    rw [hz]; exact sb3 x y _ _ _ _ _ _ _ _ w (keyE_true hK) hbo hbd (fun W hW => hL ▸ eql_any _ _ _ _ W (h1.below hW) (g1.below hW))
  cases hA : eqW x.ats y.ats
  · have hz : sameB x y = false := by unfold sameB; simp [hK, hbo, hbd, hL, hA]
    rw [hz]; exact sb4 x y _ _ _ _ _ _ _ _ w (keyE_true hK) hbo hbd (fun W hW => hL ▸ eql_any _ _ _ _ W (h1.below hW) (g1.below hW)) (fun W hW => hA ▸ eqw_any _ _ _ _ W (h2.below hW) (g2.below hW))
  cases hco : (x.co == y.co)
  · have hz : sameB x y = false := by unfold sameB; simp [hK, hbo, hbd, hL, hA, hco]
    rw [hz]; exact sb5 x y _ _ _ _ _ _ _ _ w (keyE_true hK) hbo hbd (fun W hW => hL ▸ eql_any _ _ _ _ W (h1.below hW) (g1.below hW)) (fun W hW => hA ▸ eqw_any _ _ _ _ W (h2.below hW) (g2.below hW)) hco
  cases hse : (x.se == y.se)
  · have hz : sameB x y = false := by unfold sameB; simp [hK, hbo, hbd, hL, hA, hco, hse]
    rw [hz]; exact sb6 x y _ _ _ _ _ _ _ _ w (keyE_true hK) hbo hbd (fun W hW => hL ▸ eql_any _ _ _ _ W (h1.below hW) (g1.below hW)) (fun W hW => hA ▸ eqw_any _ _ _ _ W (h2.below hW) (g2.below hW)) hco hse
  cases hfw : ((x.fw : Int) == (y.fw : Int))
  · have hz : sameB x y = false := by unfold sameB; simp [hK, hbo, hbd, hL, hA, hco, hse, hfw]
    rw [hz]; exact sb7 x y _ _ _ _ _ _ _ _ w (keyE_true hK) hbo hbd (fun W hW => hL ▸ eql_any _ _ _ _ W (h1.below hW) (g1.below hW)) (fun W hW => hA ▸ eqw_any _ _ _ _ W (h2.below hW) (g2.below hW)) hco hse hfw
  cases hta : (x.ta == y.ta)
  · have hz : sameB x y = false := by unfold sameB; simp [hK, hbo, hbd, hL, hA, hco, hse, hfw, hta]
    rw [hz]; exact sb8 x y _ _ _ _ _ _ _ _ w (keyE_true hK) hbo hbd (fun W hW => hL ▸ eql_any _ _ _ _ W (h1.below hW) (g1.below hW)) (fun W hW => hA ▸ eqw_any _ _ _ _ W (h2.below hW) (g2.below hW)) hco hse hfw hta
  have hz : sameB x y = true := by unfold sameB; simp [hK, hbo, hbd, hL, hA, hco, hse, hfw, hta]
  rw [hz]; exact sb9 x y _ _ _ _ _ _ _ _ w (keyE_true hK) hbo hbd (fun W hW => hL ▸ eql_any _ _ _ _ W (h1.below hW) (g1.below hW)) (fun W hW => hA ▸ eqw_any _ _ _ _ W (h2.below hW) (g2.below hW)) hco hse hfw hta

theorem eqL_len {l m : List Lk} (h : ¬ l.length = m.length) : eqL l m = false := by unfold eqL; rw [if_neg h]
theorem eqW_len {l m : List Nat} (h : ¬ l.length = m.length) : eqW l m = false := by unfold eqW; rw [if_neg h]
theorem rsame_any (x y : Ls) (v u : Value) (w : World) (hv : RdA w v x) (hu : RdA w u y) : Calls Try.prog 37 #[v, u] w fun e w' => e = .returned (.bool (sameB x y)) ∧ Below w.heap.size w w' := by
  obtain ⟨aL, cL, aA, cA, rfl, h1, h2⟩ := hv
  obtain ⟨aL', cL', aA', cA', rfl, g1, g2⟩ := hu
  cases hK : keyE x.h y.h
  · have hz : sameB x y = false := by unfold sameB; simp [hK]
    rw [hz]; exact rb0 x y _ _ _ _ _ _ _ _ w  (keyE_false hK)
  cases hbo : (x.bo == y.bo)
  · have hz : sameB x y = false := by unfold sameB; simp [hK, hbo]
    rw [hz]; exact rb1 x y _ _ _ _ _ _ _ _ w (keyE_true hK) (by simp [bne, hbo])
  cases hbd : (x.bd == y.bd)
  · have hz : sameB x y = false := by unfold sameB; simp [hK, hbo, hbd]
    rw [hz]; exact rb2 x y _ _ _ _ _ _ _ _ w (keyE_true hK) (by simp [bne, hbo]) (by simp [bne, hbd])
  cases hco : (x.co == y.co)
  · have hz : sameB x y = false := by unfold sameB; simp [hK, hbo, hbd, hco]
    rw [hz]; exact rb3 x y _ _ _ _ _ _ _ _ w (keyE_true hK) (by simp [bne, hbo]) (by simp [bne, hbd]) (by simp [bne, hco])
  cases hse : (x.se == y.se)
  · have hz : sameB x y = false := by unfold sameB; simp [hK, hbo, hbd, hco, hse]
    rw [hz]; exact rb4 x y _ _ _ _ _ _ _ _ w (keyE_true hK) (by simp [bne, hbo]) (by simp [bne, hbd]) (by simp [bne, hco]) (by simp [bne, hse])
  cases hfw : ((x.fw : Int) == (y.fw : Int))
  · have hz : sameB x y = false := by unfold sameB; simp [hK, hbo, hbd, hco, hse, hfw]
    rw [hz]; exact rb5 x y _ _ _ _ _ _ _ _ w (keyE_true hK) (by simp [bne, hbo]) (by simp [bne, hbd]) (by simp [bne, hco]) (by simp [bne, hse]) (by simp [bne, hfw])
  cases hta : (x.ta == y.ta)
  · have hz : sameB x y = false := by unfold sameB; simp [hK, hbo, hbd, hco, hse, hfw, hta]
    rw [hz]; exact rb6 x y _ _ _ _ _ _ _ _ w (keyE_true hK) (by simp [bne, hbo]) (by simp [bne, hbd]) (by simp [bne, hco]) (by simp [bne, hse]) (by simp [bne, hfw]) (by simp [bne, hta])
  by_cases hl : x.ls.length = y.ls.length
  · have hl2 : ((x.ls.length : Int) != (y.ls.length : Int)) = false := by rw [hl]; simp
    by_cases ha : x.ats.length = y.ats.length
    · have ha2 : ((x.ats.length : Int) != (y.ats.length : Int)) = false := by rw [ha]; simp
      have hz : sameB x y = (eqL x.ls y.ls && eqW x.ats y.ats) := by unfold sameB; simp [hK, hbo, hbd, hco, hse, hfw, hta]
      rw [hz]; exact rb9 x y _ _ _ _ _ _ _ _ w h1 g1 h2 g2 hl ha (keyE_true hK) (by simp [bne, hbo]) (by simp [bne, hbd]) (by simp [bne, hco]) (by simp [bne, hse]) (by simp [bne, hfw]) (by simp [bne, hta]) hl2 ha2
    · have ha2 : ((x.ats.length : Int) != (y.ats.length : Int)) = true := by rw [bne_iff_ne]; omega
      have hz : sameB x y = false := by unfold sameB; simp [eqW_len ha]
      rw [hz]; exact rb8 x y _ _ _ _ _ _ _ _ w (keyE_true hK) (by simp [bne, hbo]) (by simp [bne, hbd]) (by simp [bne, hco]) (by simp [bne, hse]) (by simp [bne, hfw]) (by simp [bne, hta]) hl2 ha2
  · have hl2 : ((x.ls.length : Int) != (y.ls.length : Int)) = true := by rw [bne_iff_ne]; omega
    have hz : sameB x y = false := by unfold sameB; simp [eqL_len hl]
    rw [hz]; exact rb7 x y _ _ _ _ _ _ _ _ w (keyE_true hK) (by simp [bne, hbo]) (by simp [bne, hbd]) (by simp [bne, hco]) (by simp [bne, hse]) (by simp [bne, hfw]) (by simp [bne, hta]) hl2
theorem orL_zeros {f : Nat → Int} {n : Nat} (h : ∀ k, k < n → f k = 0) : orL ((List.range n).map f) = 0 := by
  rw [orL_skip _ n (by
    intro x hx
    obtain ⟨k, hk, rfl⟩ := List.mem_map.1 (List.mem_of_mem_take hx)
    exact h k (List.mem_range.1 hk)), List.drop_eq_nil_of_le (by simp)]
  rfl
theorem sameB_self (x : Ls) : sameB x x = true := by
  have e1 : eqL x.ls x.ls = true := by
    unfold eqL; rw [if_pos rfl, orL_zeros (fun k hk => ?_)]; · rfl
    unfold difL
    rw [List.getElem?_eq_getElem hk]
    simp [sameL]
  have e2 : eqW x.ats x.ats = true := by
    unfold eqW; rw [if_pos rfl, orL_zeros (fun k hk => ?_)]; · rfl
    unfold difW
    rw [List.getElem?_eq_getElem hk]
    simp [sameW]
  unfold sameB keyE
  simp [e1, e2]
end Go.Proofs.Ytenfcnappjekgaa
