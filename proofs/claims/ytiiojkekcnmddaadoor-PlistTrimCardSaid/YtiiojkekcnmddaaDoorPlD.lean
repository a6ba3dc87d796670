/-
  Rows of rules of the call's own; appending; the closure of Trim and ContainsFunc.
-/
import Derived.Test.YtiiojkekcnmddaaDoorPlC
import Derived.Laws.AppendOwnNone
import Derived.BigQuiet
namespace Go.Proofs.YtiiojkekcnmddaaDoor
open Go.RowKit
set_option linter.unusedSimpArgs false
set_option linter.unusedVariables false
set_option maxHeartbeats 2000000
set_option maxRecDepth 100000

theorem infoE_parts {t : TypeId} {z : Value} {a b : Nat} (h : (Tryd.prog.info? t).map (fun i => (i.zero, i.size, i.bytes)) = some (some z, a, b)) : ∃ i, Tryd.prog.info? t = some i ∧ i.zero = some z ∧ i.size = a ∧ i.bytes = b := by
  cases hi : Tryd.prog.info? t with
  | none => rw [hi] at h; cases h
  | some i =>
    rw [hi] at h
    simp only [Option.map_some, Option.some.injEq, Prod.mk.injEq] at h
    exact ⟨i, rfl, h.1, h.2.1, h.2.2⟩
theorem info27 : (Tryd.prog.info? 27).map (fun i => (i.zero, i.size, i.bytes)) = some (some (.agg #[.bool false, .int .u32 0, .int .i64 0, .int .i64 0, .int .i64 0]), 5, 40) := by kernel_rfl
def encU (r : Ru) : List Value := [.bool r.1, .int .u32 (r.2.1.1 : Int), .int .i64 r.2.1.2, .int .i64 r.2.2.1, .int .i64 r.2.2.2]
def flatU (l : List Ru) : List Value := l.flatMap encU
theorem flatU_len (l : List Ru) : (flatU l).length = l.length * 5 := by
  induction l with
  | nil => rfl
  | cons x r ih => unfold flatU at *; rw [List.flatMap_cons, List.length_append, ih, List.length_cons, encU]; simp; omega
theorem flatU_app (l m : List Ru) : flatU (l ++ m) = flatU l ++ flatU m := by unfold flatU; simp
theorem flatU_cons (y : Ru) (r : List Ru) : flatU (y :: r) = encU y ++ flatU r := by simp [flatU]
theorem flatU_get : ∀ (l : List Ru) (k i : Nat) (x : Ru), l[k]? = some x → i < 5 → (flatU l)[k * 5 + i]? = (encU x)[i]?
  | [], k, i, x, h, _ => by simp at h
  | y :: r, 0, i, x, h, hi => by
    obtain rfl : y = x := by simpa using h
    rw [flatU_cons, Nat.zero_mul, Nat.zero_add, List.getElem?_append_left (by simp [encU]; omega)]
  | y :: r, k + 1, i, x, h, hi => by
    have ih := flatU_get r k i x (by simpa using h) hi
    rw [flatU_cons, List.getElem?_append_right (by simp [encU]; omega)]
    rw [← ih]
    congr 1
    simp [encU]; omega
theorem flatU_at : ∀ (l : List Ru) (j : Nat) (u : Value), (flatU l)[j]? = some u → ∃ k i x, j = k * 5 + i ∧ i < 5 ∧ l[k]? = some x ∧ (encU x)[i]? = some u := by
  intro l j u h
  have hj := (List.getElem?_eq_some_iff.1 h).1
  rw [flatU_len] at hj
  have hk : j / 5 < l.length := by omega
  refine ⟨j / 5, j % 5, l[j / 5], by omega, Nat.mod_lt _ (by omega), List.getElem?_eq_getElem hk, ?_⟩
  rw [← flatU_get l (j / 5) (j % 5) _ (List.getElem?_eq_getElem hk) (Nat.mod_lt _ (by omega)), ← h]
  congr 1; omega
theorem flatU_one (l : List Ru) : ∀ u ∈ flatU l, u.oneCell' = true := by
  intro u hu
  obtain ⟨x, _, hx⟩ := List.mem_flatMap.1 hu
  simp [encU] at hx
  rcases hx with rfl | rfl | rfl | rfl | rfl <;> rfl
theorem lt_block {w : World} {g : Nat} {o : Obj} (h : w.heap[g]? = some o) : g < w.heap.size := (Array.getElem?_eq_some_iff.1 h).1
theorem row_lt {w : World} {B e k n : Nat} {v : Value} {xs : List Value} (h : w.ownsRow B e k v n xs) {g : Nat} (hg : v.ownBlock = some g) : B ≤ g ∧ g < w.heap.size := by
  rcases h.2 with ⟨rfl, _⟩ | ⟨g', cap, cur, rfl, hb, hc, _⟩
  · simp [Value.ownBlock] at hg
  · simp [Value.ownBlock] at hg; subst hg; exact ⟨hb, lt_block hc⟩
theorem row_congr {w w1 : World} {B e k n : Nat} {v : Value} {xs : List Value} (h : w.ownsRow B e k v n xs) (hb : ∀ g, v.ownBlock = some g → w1.heap[g]? = w.heap[g]?) : w1.ownsRow B e k v n xs :=
  ⟨h.1, h.2.imp id (fun ⟨g, cap, cur, a, b, c, d⟩ => ⟨g, cap, cur, a, b, (hb g (by rw [a]; rfl)).trans c, d⟩)⟩
theorem row_below {w w1 : World} {B e k n : Nat} {v : Value} {xs : List Value} (h : w.ownsRow B e k v n xs) (hb : Below w.heap.size w w1) : w1.ownsRow B e k v n xs := row_congr h (fun g hg => hb.block g (row_lt h hg).2)
/-- a row of rules of the call's own -/
def OwnU (B : Nat) (w : World) (v : Value) (l : List Ru) : Prop := (B ≤ w.heap.size ∧ ∀ r ∈ l, RuOk r) ∧ w.ownsRow B 27 5 v l.length (flatU l)
theorem OwnU.below {B : Nat} {w w1 : World} {v : Value} {l : List Ru} (h : OwnU B w v l) (hb : Below w.heap.size w w1) : OwnU B w1 v l := ⟨⟨Nat.le_trans h.1.1 hb.size, h.1.2⟩, row_below h.2 hb⟩
theorem OwnU.nil (B : Nat) (w : World) (h : B ≤ w.heap.size) : OwnU B w (.slice none 0 0) [] := ⟨⟨h, fun r hr => by cases hr⟩, World.ownsRow_nil _ _ _ _⟩
theorem OwnU.rd {B : Nat} {w : World} {v : Value} {l : List Ru} (h : OwnU B w v l) : RdU w v l := by
  obtain ⟨⟨_, hok⟩, ho⟩ := h
  rcases ho.2 with ⟨rfl, hn⟩ | ⟨g, cap, cur, rfl, hB, hg, hnc, hml, _, _⟩
  · obtain rfl := List.length_eq_zero_iff.1 hn
    exact rdU_nil w
  · refine ⟨some ⟨g, 0, none⟩, cap, rfl, ⟨hnc, by unfold maxLen at hml; omega⟩, hok, fun k x hk => ⟨g, 0, rfl, lt_block hg, ?_⟩⟩
    have hlt := (List.getElem?_eq_some_iff.1 hk).1
    refine ⟨?_, ?_, ?_, ?_, ?_⟩
    · rw [Nat.zero_add, ho.cellAt (k * 5) (by omega)]; exact flatU_get l k 0 x hk (by omega)
    · rw [Nat.zero_add, ho.cellAt (k * 5 + 1) (by omega)]; exact flatU_get l k 1 x hk (by omega)
    · rw [Nat.zero_add, ho.cellAt (k * 5 + 2) (by omega)]; exact flatU_get l k 2 x hk (by omega)
    · rw [Nat.zero_add, ho.cellAt (k * 5 + 3) (by omega)]; exact flatU_get l k 3 x hk (by omega)
    · rw [Nat.zero_add, ho.cellAt (k * 5 + 4) (by omega)]; exact flatU_get l k 4 x hk (by omega)
theorem run_append_owned_zero {P : Program} {w : World} (base : Nat) (t ty e : TypeId) (i : TypeInfo) (size : Nat) (ht : P.underlying t = some (.slice e)) (hi : P.info? e = some i)
    (v : Value) (n : Nat) (xs : List Value) (hown : w.ownsRow base e size v n xs) (A : Addr) (c : Nat) :
    (Builtin.append_ #[t, t] ty #[v, .slice (some A) 0 c]).run P w = .ok v w := by
  rcases hown.2 with ⟨rfl, rfl⟩ | ⟨g, cap, cur, rfl, _, _, hnc, _⟩
  · simp [Builtin.append_, run_underlying ht, sizeOf, typeInfo, hi, Builtin.lenOf, Builtin.firstCells, loadCells, loadCellsFrom]
  · simp [Builtin.append_, run_underlying ht, sizeOf, typeInfo, hi, Builtin.lenOf, Builtin.firstCells, hnc, storeCells, loadCells, loadCellsFrom]
theorem wpList_append_own_zero {P : Program} {w : World} {ops : Array Oper} {rest : List Oper} {o : Oper} {a : Act} {Q : Exit → Act → World → Prop} (hgd : o.guard = none) (s x : Operand) (t : TypeId)
    (ho : o.op = .call { callee := .builtin .append, args := #[s, x], argTypes := #[t, t] })
    (base : Nat) (e : TypeId) (i : TypeInfo) (size : Nat) (ht : P.underlying t = some (.slice e)) (hi : P.info? e = some i)
    (v : Value) (n : Nat) (xs : List Value) (hs : a.eval s = v) (hown : w.ownsRow base e size v n xs) (A : Addr) (c : Nat) (hx : a.eval x = .slice (some A) 0 c)
    (h : wpList P ops Q rest (a.put o.dst v) w) : wpList P ops Q (o :: rest) a w := by
  refine wpList_plain hgd fun K hK => ?_
  have hrun := run_append_owned_zero (P := P) (w := w) base t o.type e i size ht hi v n xs hown A c
  unfold Oper.wp
  simp [execOp, ho, resolve, invoke, builtin, hs, hx, hrun, Result.andThen]
  exact hK _ _ h
theorem append_rules {w : World} {ops : Array Oper} {rest : List Oper} {o : Oper} {a : Act} {Q : Exit → Act → World → Prop} (hgd : o.guard = none) (s x : Operand)
    (ho : o.op = .call { callee := .builtin .append, args := #[s, x], argTypes := #[32, 32] }) (B : Nat) (hB : B ≤ w.heap.size)
    (v : Value) (p : List Ru) (hs : a.eval s = v) (hown : OwnU B w v p) (vx : Value) (r : List Ru) (hx : a.eval x = vx) (hr : RdU w vx r) (hnil : ∀ c, vx = .slice none 0 c → c = 0) (hlen : p.length + r.length ≤ 2000000)
    (h : ∀ v' w', OwnU B w' v' (p ++ r) → w.grownBy w' v.ownBlock → Below B w w' → wpList Tryd.prog ops Q rest (a.put o.dst v') w') : wpList Tryd.prog ops Q (o :: rest) a w := by
  obtain ⟨i0, hi, hz0, hz1, hz2⟩ := infoE_parts info27
  obtain ⟨ad, cap, e, ⟨hcap, h63⟩, hok, hc⟩ := id hr
  subst e
  have hoks : ∀ y ∈ p ++ r, RuOk y := fun y hy => (List.mem_append.1 hy).elim (hown.1.2 y) (hok y)
  by_cases h0 : r = []
  · subst h0
    rw [List.append_nil] at h
    cases ad with
    | none =>
      have hc0 : cap = 0 := hnil cap rfl
      subst hc0
      exact wpList_append_own_none hgd s x 32 ho B 27 i0 5 Tryd.underlying32 hi v p.length (flatU p) hs hown.2 hx (h v w hown ⟨rfl, rfl, rfl, Nat.le_refl _, fun _ _ _ => rfl⟩ (Below.refl _ _))
    | some A =>
      exact wpList_append_own_zero hgd s x 32 ho B 27 i0 5 Tryd.underlying32 hi v p.length (flatU p) hs hown.2 A cap hx (h v w hown ⟨rfl, rfl, rfl, Nat.le_refl _, fun _ _ _ => rfl⟩ (Below.refl _ _))
  · obtain ⟨y, hy⟩ : ∃ y, r[0]? = some y := ⟨_, List.getElem?_eq_getElem (List.length_pos_iff.2 h0)⟩
    obtain ⟨b, off, rfl, hb, _⟩ := hc 0 y hy
    have hpos : 0 < r.length := List.length_pos_iff.2 h0
    have hcell : ∀ j u, (flatU r)[j]? = some u → w.cell? ((⟨b, off, none⟩ : Addr).add j) = some u := fun j u hj => by
      obtain ⟨k, i, z, rfl, hi5, hk, hu⟩ := flatU_at r j u hj
      obtain ⟨b', off', e, _, c0, c1, c2, c3, c4⟩ := hc k z hk
      cases e
      rw [Addr.add_lit]
      match i, hi5, hu with
      | 0, _, hu => simp [encU] at hu; subst hu; exact c0
      | 1, _, hu => simp [encU] at hu; subst hu; exact c1
      | 2, _, hu => simp [encU] at hu; subst hu; exact c2
      | 3, _, hu => simp [encU] at hu; subst hu; exact c3
      | 4, _, hu => simp [encU] at hu; subst hu; exact c4
    refine wpList_append_lies _ hgd s x 32 ho B 27 i0 (.agg #[.bool false, .int .u32 0, .int .i64 0, .int .i64 0, .int .i64 0]) 5 40 Tryd.underlying32 hi hz0 hz1 hz2 rfl (by decide) v p.length (flatU p) hs hown.2 ⟨b, off, none⟩ r.length cap (flatU r) hx (by rw [flatU_len]) hcell (flatU_one r) (by omega) (by unfold maxLen; omega) (by omega) hB w.heap.size rfl fun g' cap' w' h1 h2 h3 h4 => ?_
    have hbl : Below B w w' := (Below.refl _ w).grown h2 hB (fun k hk => (row_lt hown.2 hk).1)
    refine h _ _ ⟨⟨Nat.le_trans hB hbl.size, hoks⟩, ?_⟩ h2 hbl
    rw [flatU_app, List.length_append]; exact h1
theorem closure36_any (r : Ru) (hr : RuOk r) (kept : List Ru) (v : Value) (b : Nat) (w : World) (hv : RdU w v kept) (hc : w.cell? ⟨b, 0, none⟩ = some v) :
    Calls Tryd.prog 36 #[ruV r, .pointer (some ⟨b, 0, none⟩)] w fun e w' => e = .returned (.bool ((chkR r == 0) && !(kept.any (fun q => covR q r)))) ∧ Below w.heap.size w w' := by
  have HK := Lib.hid (check_any r hr)
  have HF : Hid (∀ W, Below w.heap.size w W → W.cell? ⟨w.heap.size, 0, none⟩ = some (.bool r.1) → W.cell? ⟨w.heap.size, 1, none⟩ = some (.int .u32 (r.2.1.1 : Int)) → W.cell? ⟨w.heap.size, 2, none⟩ = some (.int .i64 r.2.1.2) → W.cell? ⟨w.heap.size, 3, none⟩ = some (.int .i64 r.2.2.1) → W.cell? ⟨w.heap.size, 4, none⟩ = some (.int .i64 r.2.2.2) →
      Calls Tryd.prog 37 #[v, .func (.func 38) #[] #[.pointer (some ⟨w.heap.size, 0, none⟩)]] W fun e w' => e = .returned (.bool (kept.any (fun q => covR q r))) ∧ Below W.heap.size W w') := by
    intro W hW c0 c1 c2 c3 c4
    have H := Lib.hid (indexf38_any kept v (.pointer (some ⟨w.heap.size, 0, none⟩)) (fun q => covR q r) W (hv.below hW) (fun W2 q hq hW2 => closure38_any q r hq hr w.heap.size W2 (carry hW2 c0) (carry hW2 c1) (carry hW2 c2) (carry hW2 c3) (carry hW2 c4)))
    obtain ⟨ad, cap, rfl⟩ := hv.form
    clear hW c0 c1 c2 c3 c4 hv hc HK
    go_enter Tryd.func37, Tryd.ntmps37
    go_wp2_with fail
    go_at_call 27
    refine H.out.mono ?_
    rintro e w1 ⟨i, rfl, hi, hb⟩
    have hd := Lib.hid (idx_any hi)
    clear hi
    go_wp2
    go_ret
    exact ⟨by rw [← hd.out] <;> rfl, hb⟩
  obtain ⟨z, hz⟩ : ∃ z, kept.any (fun q => covR q r) = z := ⟨_, rfl⟩
  obtain ⟨c, hcc⟩ : ∃ c, chkR r = c := ⟨_, rfl⟩
  rw [hz] at HF ⊢
  rw [hcc] at HK ⊢
  have hb := below_alloc w (ruC r)
  have c5 := carry hb hc
  obtain ⟨pm, ⟨a, n⟩, mn, mx⟩ := r
  obtain ⟨ad, cap, rfl⟩ := hv.form
  dsimp only at *
  clear hz hcc hv hb
  cases d0 : (c == 0)
  · go_enter Tryd.func36, Tryd.ntmps36
    go_wp2_with fail
    go_at_call 10
    refine (HK.out _).mono ?_
    rintro e w1 ⟨rfl, h1⟩
    go_wp2_with fail
    go_ret
    exact ⟨rfl, below_then (below_alloc _ _) h1⟩
  · go_enter Tryd.func36, Tryd.ntmps36
    go_wp2_with fail
    go_at_call 10
    refine (HK.out _).mono ?_
    rintro e w1 ⟨rfl, h1⟩
    have B1 := below_then (below_alloc w _) h1
    have c6 := carry h1 c5
    obtain ⟨hc1, hf1⟩ := bcell h1
    have k0 : w1.cell? ⟨w.heap.size, 0, none⟩ = some (.bool pm) := by rw [hc1 _ _ (by simp)]; go_simp
    have k1 : w1.cell? ⟨w.heap.size, 1, none⟩ = some (.int .u32 a) := by rw [hc1 _ _ (by simp)]; go_simp
    have k2 : w1.cell? ⟨w.heap.size, 2, none⟩ = some (.int .i64 n) := by rw [hc1 _ _ (by simp)]; go_simp
    have k3 : w1.cell? ⟨w.heap.size, 3, none⟩ = some (.int .i64 mn) := by rw [hc1 _ _ (by simp)]; go_simp
    have k4 : w1.cell? ⟨w.heap.size, 4, none⟩ = some (.int .i64 mx) := by rw [hc1 _ _ (by simp)]; go_simp
    go_wp2_with fail
    go_at_call 37
    refine (HF.out _ B1 k0 k1 k2 k3 k4).mono ?_
    rintro e w2 ⟨rfl, h2⟩
    go_wp2_with fail
    go_ret
    exact ⟨rfl, below_then B1 h2⟩
end Go.Proofs.YtiiojkekcnmddaaDoor
