/-
  The contract of the library's sort by a comparison, laid at this program's numbers.
  The walks of slices.Clone at prefixes and of Sort.
  The walk of Sort.
-/
import Derived.Shelf.SlSortCmp.WholeK
import Derived.Test.YtegponbmelgngaaProg
import Derived.Test.YtegponbmelgngaaMgSa
import Derived.Sort.OwnSorted
import Derived.LoopN
section
namespace Go.Proofs
open Go.Shelf
def Try.sortP_ren : Go.Shelf.Ren := ⟨fun | 6 => 132 | 15 => 142 | 14 => 148 | 28 => 158 | 29 => 159 | 20 => 161 | 21 => 162 | 22 => 163 | 23 => 164 | 24 => 165 | 25 => 166 | 26 => 167 | 27 => 168 | 46 => 174 | 47 => 170 | 48 => 171 | 49 => 175 | 50 => 176 | 57 => 178 | n => n, fun | 22 => 22 | 24 => 28 | 25 => 93 | 3 => 3 | 39 => 84 | 0 => 0 | 53 => 25 | 55 => 33 | 4 => 4 | 46 => 160 | 45 => 159 | 50 => 140 | 5 => 5 | 9 => 9 | 66 => 172 | 70 => 176 | 76 => 180 | 77 => 181 | n => n, fun | n => n⟩
theorem Try.sortP : Go.Proofs.SlLaysF0.n6 Try.prog Try.sortP_ren := {
  mixed := by kernel_rfl
  f6 := ⟨Try.f132.name, by decide, Try.func132.trans (congrArg some (by kernel_rfl))⟩
  f14 := ⟨Try.f148.name, by decide, Try.func148.trans (congrArg some (by kernel_rfl))⟩
  f15 := Try.func142.trans (congrArg some (by kernel_rfl))
  f20 := ⟨Try.f161.name, by decide, Try.func161.trans (congrArg some (by kernel_rfl))⟩
  f21 := ⟨Try.f162.name, by decide, Try.func162.trans (congrArg some (by kernel_rfl))⟩
  f22 := ⟨Try.f163.name, by decide, Try.func163.trans (congrArg some (by kernel_rfl))⟩
  f23 := ⟨Try.f164.name, by decide, Try.func164.trans (congrArg some (by kernel_rfl))⟩
  f24 := ⟨Try.f165.name, by decide, Try.func165.trans (congrArg some (by kernel_rfl))⟩
  f25 := ⟨Try.f166.name, by decide, Try.func166.trans (congrArg some (by kernel_rfl))⟩
  f26 := ⟨Try.f167.name, by decide, Try.func167.trans (congrArg some (by kernel_rfl))⟩
  f27 := ⟨Try.f168.name, by decide, Try.func168.trans (congrArg some (by kernel_rfl))⟩
  f28 := Try.func158.trans (congrArg some (by kernel_rfl))
  f29 := Try.func159.trans (congrArg some (by kernel_rfl))
  f46 := ⟨Try.f174.name, by decide, Try.func174.trans (congrArg some (by kernel_rfl))⟩
  f47 := Try.func170.trans (congrArg some (by kernel_rfl))
  f48 := Try.func171.trans (congrArg some (by kernel_rfl))
  f49 := ⟨Try.f175.name, by decide, Try.func175.trans (congrArg some (by kernel_rfl))⟩
  f50 := ⟨Try.f176.name, by decide, Try.func176.trans (congrArg some (by kernel_rfl))⟩
  f57 := ⟨Try.f178.name, by decide, Try.func178.trans (congrArg some (by kernel_rfl))⟩
  t0 := Try.underlying0
  a0 := Try.isAgg0
  z0 := Try.sizeOf0
  v0 := Try.zeroValue0
  t3 := Try.underlying3
  a3 := Try.isAgg3
  z3 := Try.sizeOf3
  v3 := Try.zeroValue3
  t4 := Try.underlying4
  a4 := Try.isAgg4
  z4 := Try.sizeOf4
  v4 := Try.zeroValue4
  t5 := Try.underlying5
  a5 := Try.isAgg5
  z5 := Try.sizeOf5
  v5 := Try.zeroValue5
  t9 := Try.underlying9
  a9 := Try.isAgg9
  z9 := Try.sizeOf9
  v9 := Try.zeroValue9
  t22 := Try.underlying22
  a22 := Try.isAgg22
  z22 := Try.sizeOf22
  v22 := Try.zeroValue22
  t25 := Try.underlying93
  a25 := Try.isAgg93
  z25 := Try.sizeOf93
  v25 := Try.zeroValue93
  t39 := Try.underlying84
  a39 := Try.isAgg84
  z39 := Try.sizeOf84
  v39 := Try.zeroValue84
  t45 := Try.underlying159
  a45 := Try.isAgg159
  z45 := Try.sizeOf159
  v45 := Try.zeroValue159
  t46 := Try.underlying160
  a46 := Try.isAgg160
  z46 := Try.sizeOf160
  v46 := Try.zeroValue160
  t50 := Try.underlying140
  a50 := Try.isAgg140
  z50 := Try.sizeOf140
  v50 := Try.zeroValue140
  t53 := Try.underlying25
  a53 := Try.isAgg25
  z53 := Try.sizeOf25
  v53 := Try.zeroValue25
  t55 := Try.underlying33
  a55 := Try.isAgg33
  z55 := Try.sizeOf33
  v55 := Try.zeroValue33
  t66 := Try.underlying172
  a66 := Try.isAgg172
  z66 := Try.sizeOf172
  v66 := Try.zeroValue172
  t70 := Try.underlying176
  a70 := Try.isAgg176
  z70 := Try.sizeOf176
  v70 := Try.zeroValue176
  t76 := Try.underlying180
  a76 := Try.isAgg180
  z76 := Try.sizeOf180
  v76 := Try.zeroValue180
  t77 := Try.underlying181
  a77 := Try.isAgg181
  z77 := Try.sizeOf181
  v77 := Try.zeroValue181 }
end Go.Proofs
end

section
namespace Go.Proofs.Ytegponbmelgngaa
open Go.RowKit Go.Sort Go.Lib
set_option linter.unusedSimpArgs false
set_option linter.unusedVariables false
set_option maxHeartbeats 4000000
set_option maxRecDepth 100000

theorem flat_cells (l : List PP) (w : World) (A : Addr) (h : ∀ k x, l[k]? = some x → w.cell? (A.add (k * 2)) = some (.int .u32 (x.1 : Int)) ∧ w.cell? (A.add (k * 2 + 1)) = some (.int .i64 x.2)) :
    ∀ j u, (flat l)[j]? = some u → w.cell? (A.add j) = some u := by
  intro j u hu
  have hj : j < l.length * 2 := by have := (List.getElem?_eq_some_iff.1 hu).1; rwa [flat_len] at this
  have hk : j / 2 < l.length := by omega
  have hx : l[j / 2]? = some l[j / 2] := List.getElem?_eq_getElem hk
  have f := flat_get l (j / 2) _ hx
  have c := h (j / 2) _ hx
  rcases (by omega : j % 2 = 0 ∨ j % 2 = 1) with e | e
  · have ej : j = j / 2 * 2 := by omega
    rw [ej] at hu ⊢
    rw [f.1] at hu
    rw [← hu]; exact c.1
  · have ej : j = j / 2 * 2 + 1 := by omega
    rw [ej] at hu ⊢
    rw [f.2] at hu
    rw [← hu]; exact c.2
theorem flat_one (l : List PP) : ∀ u ∈ flat l, u.oneCell' = true := by
  intro u hu
  obtain ⟨x, _, hx⟩ := List.mem_flatMap.1 hu
  exact encP_one x u hx

/-- slices.Clone -/
theorem clone_any (l : List PP) (v : Value) (w : World) (hl : l.length ≤ 4294967296) (hr : Rd w v l) :
    Calls Try.prog 131 #[v] w fun e w' => ∃ v', e = .returned v' ∧ w'.ownsRow w.heap.size 28 2 v' l.length (flat l) ∧ Below w.heap.size w w' := by
  obtain ⟨i0, hi, hz0, hz1, hz2⟩ := infoP_parts info28
  obtain ⟨ad, cap, rfl, hc⟩ := hr
  have q48 : ∀ (w : World) (a : Option Addr) (n c n' c' : Nat), (binOp .eql 22 (.slice a n c) (.slice none n' c')).run Try.prog w = .ok (.bool a.isNone) w := fun w a n c n' c' => Lib.run_eql_slice_nil w _ _ a n c n' c' Try.underlying22
  cases ad with
  | none =>
    have hl0 : l = [] := by
      cases l with
      | nil => rfl
      | cons x r => obtain ⟨b, off, h, _⟩ := hc 0 x rfl; cases h
    subst hl0
    clear hc
    go_enter Try.func131, Try.ntmps131
    go_wp2
    go_ret
    exact ⟨_, rfl, World.ownsRow_nil _ _ _ _, Below.refl _ _⟩
  | some A =>
    have hcs : ∀ j u, (flat l)[j]? = some u → w.cell? (A.add j) = some u := flat_cells l w A fun k x hk => by
      obtain ⟨b, off, h, _, h0, h1⟩ := hc k x hk
      obtain rfl := Option.some.inj h
      exact ⟨by rw [Addr.add_lit]; exact h0, by rw [Addr.add_lit, ← Nat.add_assoc]; exact h1⟩
    have HC := Lib.hid hcs
    clear hc hcs
    go_enter Try.func131, Try.ntmps131
    go_wp2_with (at_builtin; refine wpList_append_own _ rfl _ _ 22 rfl w.heap.size 28 i0 (.agg #[.int .u32 0, .int .i64 0]) 2 16 Try.underlying22 hi hz0 hz1 hz2 rfl (by decide) _ _ _ rfl (World.ownsRow_made w #[] 0 (Nat.le_refl _) (Nat.zero_le _) (by simp)) A l.length cap (flat l) rfl (flat_len l) (fun j u hj => Lib.cell?_alloc_some _ (HC.out j u hj)) (flat_one l) (by unfold maxLen; omega) (by omega) (by simp) ?_; intro v' w1 hown hgrow hnil)
    go_ret
    refine ⟨v', rfl, by simpa using hown, ((Below.refl _ w).alloc (Nat.le_refl _) _).grown hgrow (by simp) (by intro k hk; cases hk; exact Nat.le_refl _)⟩

theorem holds_own {w : World} {B g cap : Nat} {l : List PP} (h : w.ownsRow B 28 2 (.slice (some ⟨g, 0, none⟩) l.length cap) l.length (flat l)) : HoldsK encP 2 w g 0 l.toArray := by
  unfold HoldsK
  rw [flatK_flat]
  intro j hj
  have hj' : j < l.length * 2 := by simpa [flat_len] using hj
  rw [Nat.zero_add]
  refine ⟨?_, h.frozenAt j⟩
  rw [h.cellAt j hj']
  simp [flat_len, hj']

def cfP (x y : PP) : Int := cmpP x.1 x.2 y.1 y.2
theorem lt_cfP (x y : PP) : ltOf cfP x y = decide (ltP x y) := by
  unfold ltOf cfP
  rcases ltP_or x y with h | h | h
  · rw [cmpP_of_lt h]; simp [h]
  · subst h; rw [cmpP_self]; simp [ltP_irrefl]
  · rw [cmpP_of_gt h]
    have : ¬ ltP x y := fun g => ltP_irrefl _ (ltP_trans g h)
    simp [this]
theorem swoP : SWO (ltOf cfP) where
  irrefl x := by rw [lt_cfP]; simp [ltP_irrefl]
  trans x y z h1 h2 := by rw [lt_cfP] at *; simp at *; exact ltP_trans h1 h2
  ntrans x y z h1 h2 := by
    rw [lt_cfP] at *
    simp at *
    unfold ltP at *
    omega
theorem compare_lays (x y : PP) (W : World) : Calls Try.prog 84 #[.agg #[.int .u32 (x.1 : Int), .int .i64 x.2], .agg #[.int .u32 (y.1 : Int), .int .i64 y.2]] W fun e w' => e = .returned (.int .i64 (cfP x y)) ∧ ∃ q os', w' = grow (W.drewN q) os' := by
  obtain ⟨a, n⟩ := x
  obtain ⟨b, m⟩ := y
  rcases (by omega : a < b ∨ b < a ∨ a = b) with h | h | h
  · have H := Lib.hid (cmpP_lt (n := n) (m := m) h)
    have e1 : cmpI (a : Int) (b : Int) = -1 := cmpI_lt (by omega)
    go_enter Try.func84, Try.ntmps84
    go_wp2_with (go_at_call 117; refine (cmpA_any _ _ _).mono ?_; rintro e w' ⟨rfl, rfl⟩)
    go_ret
    exact ⟨ret_i H.out.symm, 0, _, by rw [alloc_eq_grow, alloc_eq_grow, grow_grow]; rfl⟩
  · have H := Lib.hid (cmpP_gt (n := n) (m := m) h)
    have e1 : cmpI (a : Int) (b : Int) = 1 := cmpI_gt (by omega)
    go_enter Try.func84, Try.ntmps84
    go_wp2_with (go_at_call 117; refine (cmpA_any _ _ _).mono ?_; rintro e w' ⟨rfl, rfl⟩)
    go_ret
    exact ⟨ret_i H.out.symm, 0, _, by rw [alloc_eq_grow, alloc_eq_grow, grow_grow]; rfl⟩
  · subst h
    have H := Lib.hid (cmpP_eq a n m)
    have e1 : cmpI (a : Int) (a : Int) = 0 := cmpI_eq _
    go_enter Try.func84, Try.ntmps84
    go_wp2_with (first | (go_at_call 117; refine (cmpA_any _ _ _).mono ?_; rintro e w' ⟨rfl, rfl⟩) | (go_at_call 118; refine (cmpL_any _ _ _).mono ?_; rintro e w' ⟨rfl, rfl⟩))
    go_ret
    exact ⟨ret_i H.out.symm, 0, _, by rw [alloc_eq_grow, alloc_eq_grow, grow_grow]; rfl⟩
theorem cmpLaysP (blk off size : Nat) (w : World) : CmpLays Try.prog 84 #[] encP 2 cfP blk off size w := fun _ _ _ _ x y => compare_lays x y _
theorem below_sorted {w : World} {g n : Nat} {os : Array Obj} (F : Array Value) : w.grownBy (grow (putRow id (Sort.ahead w n) g 0 F) os) (some g) := by
  refine ⟨rfl, rfl, rfl, by simp, fun k hk hne => ?_⟩
  rw [heap_grow_old _ _ (by simpa using hk)]
  have : g ≠ k := fun e => hne (by rw [e])
  simp [putRow, mapBlock, Sort.ahead, Array.getElem?_modify, this]

/-- slices.SortFunc by Compare, at a row of the call's own -/
theorem sortFunc_any (l : List PP) (g cap : Nat) (w : World) (hl : l.length ≤ 4294967296) (hH : HoldsK encP 2 w g 0 l.toArray) (hg : g < w.heap.size) :
    Calls Try.prog 132 #[.slice (some ⟨g, 0, none⟩) l.length cap, .func (.func 84) #[] #[]] w fun e w' => e = .returned (.tuple #[]) ∧ ∃ d' : Array PP, d'.size = l.length ∧ compactUpTo d' d'.size = sortR l ∧ HoldsK encP 2 w' g 0 d' ∧ w.grownBy w' (some g) := by
  have eg : ∀ args w, (callFunc 84 args).run Try.prog w = .ok (.enter 84 args) w := enters_of Try.func84 (by kernel_rfl) rfl
  have hcon := AnyQ.slices_SortFunc Try.sortP 2 Try.isAgg28 Try.sizeOf28 encP encP_len encP_one cfP swoP 84 #[] g 0 cap l.toArray w eg (cmpLaysP g 0 _ w) hH hg (by simp; omega)
  refine hcon.mono ?_
  rintro e w' ⟨rfl, d', n, os, hp, hs, rfl⟩
  have hsz : d'.size = l.length := by simpa using hp.1
  refine ⟨rfl, d', hsz, ?_, holdsK_sortWorldK_c encP 2 w g 0 l.toArray d' n os hH hg (by simpa using hsz), below_sorted _⟩
  have := compact_sortR l.toArray d' (fun i j hij hj hlt => by
    have h := hs i j (Nat.zero_le _) hij (by simpa [hsz] using hj)
    rw [lt_cfP] at h
    simp at h
    exact h hlt) (by
    have h3 := hp.2.2
    have e1 : d'.extract 0 l.toArray.size = d' := by rw [show l.toArray.size = d'.size by simp [hsz]]; simp
    have e2 : l.toArray.extract 0 l.toArray.size = l.toArray := by simp
    rw [e1, e2] at h3
    exact h3)
  simpa using this
end Go.Proofs.Ytegponbmelgngaa
end

section
namespace Go.Proofs.Ytegponbmelgngaa
open Go.RowKit Go.Sort Go.Lib
set_option linter.unusedSimpArgs false
set_option linter.unusedVariables false
set_option maxHeartbeats 4000000
set_option maxRecDepth 100000

theorem insertion_none (cap : Nat) (fv : Value) (w : World) :
    Calls Try.prog 161 #[.slice none 0 cap, .int .i64 0, .int .i64 0, fv] w fun e w' => e = .returned (.tuple #[]) ∧ w' = w := by
  go_enter Try.func161, Try.ntmps161
  go_wp2
  refine wp_loop_rounds 1 ?_
  rw [rounds_succ]
  go_wp2
  go_end0
  exact ⟨rfl, rfl⟩
theorem pdq_none (cap : Nat) (lim : Int) (fv : Value) (w : World) :
    Calls Try.prog 148 #[.slice none 0 cap, .int .i64 0, .int .i64 0, .int .i64 lim, fv] w fun e w' => e = .returned (.tuple #[]) ∧ w' = w := by
  have hi := fun W => insertion_none cap fv W
  go_enter Try.func148, Try.ntmps148
  go_wp2
  refine wp_loop_rounds 1 ?_
  rw [rounds_succ]
  go_wp2_with (go_at_call 161; refine (hi _).mono ?_; rintro e w' ⟨rfl, rfl⟩)
  (try simp only [Exit.inBlock, Exit.then]); refine bodyPost_ret (results_none rfl _ _ _) rfl ?_
  exact ⟨rfl, rfl⟩
theorem sortFunc_none (fv : Value) (w : World) :
    Calls Try.prog 132 #[.slice none 0 0, fv] w fun e w' => e = .returned (.tuple #[]) ∧ w' = w := by
  have hp := fun lim W => pdq_none 0 lim fv W
  have hl : ∀ W, Calls Try.prog 142 #[.int .u64 0] W fun e w' => e = .returned (.int .i64 (Lib.bitLen 0 : Nat)) ∧ w' = W := fun W =>
    Any.bits_Len (SlLaysF0.n15.bits (P := Try.prog) (ρ := Try.sortP_ren) { Try.sortP with }) 0 W (by omega) (by omega)
  go_enter Try.func132, Try.ntmps132
  go_wp2_with (first | (go_at_call 142; refine (hl _).mono ?_; rintro e w' ⟨rfl, rfl⟩) | (go_at_call 148; refine (hp _ _).mono ?_; rintro e w' ⟨rfl, rfl⟩))
  go_end0
  exact ⟨rfl, rfl⟩
theorem compact_none (w : World) : Calls Try.prog 133 #[.slice none 0 0] w fun e w' => e = .returned (.slice none 0 0) ∧ w' = w := by
  go_enter Try.func133, Try.ntmps133
  go_wp2
  go_ret
  exact ⟨rfl, rfl⟩

/-- a slice over a row of the call's own: nil, or a block from B on that may be written -/
def OwnS (B : Nat) (w : World) (v : Value) (l : List PP) : Prop := (v = .slice none 0 0 ∧ l = []) ∨ ∃ g, B ≤ g ∧ OwnAt g 0 w v l
theorem OwnAt.cells {blk off : Nat} {w : World} {v : Value} {l : List PP} (h : OwnAt blk off w v l) : ∀ i x, l[i]? = some x → w.cell? ⟨blk, off + i * 2, none⟩ = some (.int .u32 (x.1 : Int)) ∧ w.cell? ⟨blk, off + i * 2 + 1, none⟩ = some (.int .i64 x.2) := by
  obtain ⟨cap, rfl, hc, hh, hb⟩ := h
  intro i x hx
  have hi := (List.getElem?_eq_some_iff.1 hx).1
  have hk := hk_cells (a := x.1) (n := x.2) hh (i := i) (by simpa using hi) (by have := (List.getElem?_eq_some_iff.1 hx).2; simp [hi, this])
  exact ⟨hk.1, hk.2.1⟩
theorem OwnAt.rd {blk off : Nat} {w : World} {v : Value} {l : List PP} (h : OwnAt blk off w v l) : Rd w v l := by
  have hc := h.cells
  obtain ⟨cap, rfl, _, _, hb⟩ := h
  exact ⟨some ⟨blk, off, none⟩, cap, rfl, fun i x hx => ⟨blk, off, rfl, hb, hc i x hx⟩⟩
theorem OwnS.rd {B : Nat} {w : World} {v : Value} {l : List PP} (h : OwnS B w v l) : Rd w v l := by
  rcases h with ⟨rfl, rfl⟩ | ⟨g, _, h⟩
  · exact rd_nil _
  · exact h.rd

theorem sort_any (l : List PP) (v : Value) (w : World) (hl : l.length ≤ 4294967296) (hr : Rd w v l) :
    Calls Try.prog 98 #[v] w fun e w' => ∃ v', e = .returned v' ∧ OwnS w.heap.size w' v' (sortR l) ∧ Below w.heap.size w w' := by
  have hc := clone_any l v w hl hr
  have HF : Hid (∀ (l : List PP) (g cap : Nat) (w : World), l.length ≤ 4294967296 → HoldsK encP 2 w g 0 l.toArray → g < w.heap.size →
    Calls Try.prog 132 #[.slice (some ⟨g, 0, none⟩) l.length cap, .func (.func 84) #[] #[]] w fun e w' => e = .returned (.tuple #[]) ∧ ∃ d' : Array PP, d'.size = l.length ∧ compactUpTo d' d'.size = sortR l ∧ HoldsK encP 2 w' g 0 d' ∧ w.grownBy w' (some g)) := sortFunc_any
  clear hr
  go_enter Try.func98, Try.ntmps98
  go_wp2_with (go_at_call 131; refine hc.mono ?_; rintro e w1 ⟨v1, rfl, hown, hb⟩; have HO := Lib.hid (And.intro hown hb); clear hown hb)
  have hown := HO.out.1
  rcases hown.2 with ⟨rfl, hn⟩ | ⟨g, cap, cur, rfl, hB, hg, hnc, hcm, hcs, htk⟩
  · have hl0 : l = [] := List.length_eq_zero_iff.1 hn
    subst hl0
    go_wp2_with (first | (go_at_call 132; refine (sortFunc_none _ _).mono ?_; rintro e w2 ⟨rfl, rfl⟩) | (go_at_call 133; refine (compact_none _).mono ?_; rintro e w3 ⟨rfl, rfl⟩))
    go_ret
    exact ⟨_, rfl, .inl ⟨rfl, rfl⟩, HO.out.2⟩
  · have hg1 : g < w1.heap.size := (Array.getElem?_eq_some_iff.1 hg).1
    have hs := HF.out l g cap w1 hl (holds_own hown) hg1
    have HG := Lib.hid (And.intro hB (And.intro hg1 hnc))
    clear hown hg hcs htk hB hg1 hnc hcm
    go_wp2_with (first
      | (go_at_call 132; refine hs.mono ?_; rintro e w2 ⟨rfl, d', hd, hcp, hH2, hgr⟩
         have hc2 := compact_any g 0 cap d' w2 hH2 (by omega) (by have := HG.out.2.2; omega) (Nat.lt_of_lt_of_le HG.out.2.1 hgr.size)
         rw [hd] at hc2
         have HX := Lib.hid (And.intro hcp hgr)
         clear hs hcp hH2 hgr)
      | (go_at_call 133; refine hc2.mono ?_; rintro e w3 ⟨v3, rfl, hrd, hb3⟩; have HR := Lib.hid (And.intro hrd hb3); clear hrd hb3))
    go_ret
    refine ⟨_, rfl, ?_, ?_⟩
    · have h1 := HX.out.1
      rw [hd] at h1
      rw [← h1]; exact .inr ⟨g, HG.out.1, HR.out.1⟩
    · have b1 := HO.out.2
      have b2 : Below w.heap.size w w2 := b1.grown HX.out.2 b1.size (fun k hk => by cases hk; exact HG.out.1)
      exact b2.trans (HR.out.2.mono HG.out.1)
end Go.Proofs.Ytegponbmelgngaa
end
