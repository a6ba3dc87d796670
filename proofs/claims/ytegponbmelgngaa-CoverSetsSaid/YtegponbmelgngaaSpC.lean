/-
  The walks of slices.Clone at prefixes and of Sort.
-/
import Derived.Test.YtegponbmelgngaaSpB
import Derived.Test.YtegponbmelgngaaSortLay
import Derived.Sort.OwnSorted
namespace Go.Proofs.Ytegponbmelgngaa
open Go.RowKit Go.Sort Go.Lib
set_option linter.unusedSimpArgs false
set_option linter.unusedVariables false
set_option maxHeartbeats 4000000
set_option maxRecDepth 100000

theorem flat_cells (l : List PP) (w : World) (A : Addr) (h : ∀ k x, l[k]? = some x → w.cell? (A.add (k * 2)) = some (.int .u32 (x.1 : Int)) ∧ w.cell? (A.add (k * 2 + 1)) = some (.int .i64 x.2)) :
    ∀ j u, (flat l)[j]? = some u → w.cell? (A.add j) = some u := by
  intro j u hu
  have hj : j < l.length * 2 := by have := (List.getElem?_eq_some_iff.1 hu).1; rwa [flat_len] at this
  have hk : j / 2 < l.length := by omega
  have hx : l[j / 2]? = some l[j / 2] := List.getElem?_eq_getElem hk
  have f := flat_get l (j / 2) _ hx
  have c := h (j / 2) _ hx
  rcases (by omega : j % 2 = 0 ∨ j % 2 = 1) with e | e
  · have ej : j = j / 2 * 2 := by omega
    rw [ej] at hu ⊢
    rw [f.1] at hu
    rw [← hu]; exact c.1
  · have ej : j = j / 2 * 2 + 1 := by omega
    rw [ej] at hu ⊢
    rw [f.2] at hu
    rw [← hu]; exact c.2
theorem flat_one (l : List PP) : ∀ u ∈ flat l, u.oneCell' = true := by
  intro u hu
  obtain ⟨x, _, hx⟩ := List.mem_flatMap.1 hu
  exact encP_one x u hx

/-- slices.Clone -/
theorem clone_any (l : List PP) (v : Value) (w : World) (hl : l.length ≤ 4294967296) (hr : Rd w v l) :
    Calls Try.prog 131 #[v] w fun e w' => ∃ v', e = .returned v' ∧ w'.ownsRow w.heap.size 28 2 v' l.length (flat l) ∧ Below w.heap.size w w' := by
  obtain ⟨i0, hi, hz0, hz1, hz2⟩ := infoP_parts info28
  obtain ⟨ad, cap, rfl, hc⟩ := hr
  have q48 : ∀ (w : World) (a : Option Addr) (n c n' c' : Nat), (binOp .eql 22 (.slice a n c) (.slice none n' c')).run Try.prog w = .ok (.bool a.isNone) w := fun w a n c n' c' => Lib.run_eql_slice_nil w _ _ a n c n' c' Try.underlying22
  cases ad with
  | none =>
    have hl0 : l = [] := by
      cases l with
      | nil => rfl
      | cons x r => obtain ⟨b, off, h, _⟩ := hc 0 x rfl; cases h
    subst hl0
    clear hc
    go_enter Try.func131, Try.ntmps131
    go_wp2
    go_ret
    exact ⟨_, rfl, World.ownsRow_nil _ _ _ _, Below.refl _ _⟩
  | some A =>
    have hcs : ∀ j u, (flat l)[j]? = some u → w.cell? (A.add j) = some u := flat_cells l w A fun k x hk => by
      obtain ⟨b, off, h, _, h0, h1⟩ := hc k x hk
      obtain rfl := Option.some.inj h
      exact ⟨by rw [Addr.add_lit]; exact h0, by rw [Addr.add_lit, ← Nat.add_assoc]; exact h1⟩
    have HC := Lib.hid hcs
    clear hc hcs
    go_enter Try.func131, Try.ntmps131
    go_wp2_with (at_builtin; refine wpList_append_own _ rfl _ _ 22 rfl w.heap.size 28 i0 (.agg #[.int .u32 0, .int .i64 0]) 2 16 Try.underlying22 hi hz0 hz1 hz2 rfl (by decide) _ _ _ rfl (World.ownsRow_made w #[] 0 (Nat.le_refl _) (Nat.zero_le _) (by simp)) A l.length cap (flat l) rfl (flat_len l) (fun j u hj => Lib.cell?_alloc_some _ (HC.out j u hj)) (flat_one l) (by unfold maxLen; omega) (by omega) (by simp) ?_; intro v' w1 hown hgrow hnil)
    go_ret
    refine ⟨v', rfl, by simpa using hown, ((Below.refl _ w).alloc (Nat.le_refl _) _).grown hgrow (by simp) (by intro k hk; cases hk; exact Nat.le_refl _)⟩

theorem holds_own {w : World} {B g cap : Nat} {l : List PP} (h : w.ownsRow B 28 2 (.slice (some ⟨g, 0, none⟩) l.length cap) l.length (flat l)) : HoldsK encP 2 w g 0 l.toArray := by
  unfold HoldsK
  rw [flatK_flat]
  intro j hj
  have hj' : j < l.length * 2 := by simpa [flat_len] using hj
  rw [Nat.zero_add]
  refine ⟨?_, h.frozenAt j⟩
  rw [h.cellAt j hj']
  simp [flat_len, hj']

def cfP (x y : PP) : Int := cmpP x.1 x.2 y.1 y.2
theorem lt_cfP (x y : PP) : ltOf cfP x y = decide (ltP x y) := by
  unfold ltOf cfP
  rcases ltP_or x y with h | h | h
  · rw [cmpP_of_lt h]; simp [h]
  · subst h; rw [cmpP_self]; simp [ltP_irrefl]
  · rw [cmpP_of_gt h]
    have : ¬ ltP x y := fun g => ltP_irrefl _ (ltP_trans g h)
    simp [this]
theorem swoP : SWO (ltOf cfP) where
  irrefl x := by rw [lt_cfP]; simp [ltP_irrefl]
  trans x y z h1 h2 := by rw [lt_cfP] at *; simp at *; exact ltP_trans h1 h2
  ntrans x y z h1 h2 := by
    rw [lt_cfP] at *
    simp at *
    unfold ltP at *
    omega
theorem compare_lays (x y : PP) (W : World) : Calls Try.prog 84 #[.agg #[.int .u32 (x.1 : Int), .int .i64 x.2], .agg #[.int .u32 (y.1 : Int), .int .i64 y.2]] W fun e w' => e = .returned (.int .i64 (cfP x y)) ∧ ∃ q os', w' = grow (W.drewN q) os' := by
  obtain ⟨a, n⟩ := x
  obtain ⟨b, m⟩ := y
  rcases (by omega : a < b ∨ b < a ∨ a = b) with h | h | h
  · have H := Lib.hid (cmpP_lt (n := n) (m := m) h)
    have e1 : cmpI (a : Int) (b : Int) = -1 := cmpI_lt (by omega)
    go_enter Try.func84, Try.ntmps84
    go_wp2_with (go_at_call 117; refine (cmpA_any _ _ _).mono ?_; rintro e w' ⟨rfl, rfl⟩)
    go_ret
    exact ⟨ret_i H.out.symm, 0, _, by rw [alloc_eq_grow, alloc_eq_grow, grow_grow]; rfl⟩
  · have H := Lib.hid (cmpP_gt (n := n) (m := m) h)
    have e1 : cmpI (a : Int) (b : Int) = 1 := cmpI_gt (by omega)
    go_enter Try.func84, Try.ntmps84
    go_wp2_with (go_at_call 117; refine (cmpA_any _ _ _).mono ?_; rintro e w' ⟨rfl, rfl⟩)
    go_ret
    exact ⟨ret_i H.out.symm, 0, _, by rw [alloc_eq_grow, alloc_eq_grow, grow_grow]; rfl⟩
  · subst h
    have H := Lib.hid (cmpP_eq a n m)
    have e1 : cmpI (a : Int) (a : Int) = 0 := cmpI_eq _
    go_enter Try.func84, Try.ntmps84
    go_wp2_with (first | (go_at_call 117; refine (cmpA_any _ _ _).mono ?_; rintro e w' ⟨rfl, rfl⟩) | (go_at_call 118; refine (cmpL_any _ _ _).mono ?_; rintro e w' ⟨rfl, rfl⟩))
    go_ret
    exact ⟨ret_i H.out.symm, 0, _, by rw [alloc_eq_grow, alloc_eq_grow, grow_grow]; rfl⟩
theorem cmpLaysP (blk off size : Nat) (w : World) : CmpLays Try.prog 84 #[] encP 2 cfP blk off size w := fun _ _ _ _ x y => compare_lays x y _
theorem below_sorted {w : World} {g n : Nat} {os : Array Obj} (F : Array Value) : w.grownBy (grow (putRow id (Sort.ahead w n) g 0 F) os) (some g) := by
  refine ⟨rfl, rfl, rfl, by simp, fun k hk hne => ?_⟩
  rw [heap_grow_old _ _ (by simpa using hk)]
  have : g ≠ k := fun e => hne (by rw [e])
  simp [putRow, mapBlock, Sort.ahead, Array.getElem?_modify, this]

/-- slices.SortFunc by Compare, at a row of the call's own -/
theorem sortFunc_any (l : List PP) (g cap : Nat) (w : World) (hl : l.length ≤ 4294967296) (hH : HoldsK encP 2 w g 0 l.toArray) (hg : g < w.heap.size) :
    Calls Try.prog 132 #[.slice (some ⟨g, 0, none⟩) l.length cap, .func (.func 84) #[] #[]] w fun e w' => e = .returned (.tuple #[]) ∧ ∃ d' : Array PP, d'.size = l.length ∧ compactUpTo d' d'.size = sortR l ∧ HoldsK encP 2 w' g 0 d' ∧ w.grownBy w' (some g) := by
  have eg : ∀ args w, (callFunc 84 args).run Try.prog w = .ok (.enter 84 args) w := enters_of Try.func84 (by kernel_rfl) rfl
  have hcon := AnyQ.slices_SortFunc Try.sortP 2 Try.isAgg28 Try.sizeOf28 encP encP_len encP_one cfP swoP 84 #[] g 0 cap l.toArray w eg (cmpLaysP g 0 _ w) hH hg (by simp; omega)
  refine hcon.mono ?_
  rintro e w' ⟨rfl, d', n, os, hp, hs, rfl⟩
  have hsz : d'.size = l.length := by simpa using hp.1
  refine ⟨rfl, d', hsz, ?_, holdsK_sortWorldK_c encP 2 w g 0 l.toArray d' n os hH hg (by simpa using hsz), below_sorted _⟩
  have := compact_sortR l.toArray d' (fun i j hij hj hlt => by
    have h := hs i j (Nat.zero_le _) hij (by simpa [hsz] using hj)
    rw [lt_cfP] at h
    simp at h
    exact h hlt) (by
    have h3 := hp.2.2
    have e1 : d'.extract 0 l.toArray.size = d' := by rw [show l.toArray.size = d'.size by simp [hsz]]; simp
    have e2 : l.toArray.extract 0 l.toArray.size = l.toArray := by simp
    rw [e1, e2] at h3
    exact h3)
  simpa using this
end Go.Proofs.Ytegponbmelgngaa
