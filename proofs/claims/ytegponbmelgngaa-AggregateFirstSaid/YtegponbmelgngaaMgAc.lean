/-
  The least table as entries; regions of a table of entries.
  Sets of numbers as the program has them: maps from int to bool whose values are all true.
  The contracts of maps.Copy, maps.Clone, maps.Keys and slices.Collect, laid at this program's numbers.
  The walks of maps.Copy and maps.Clone at sets, and of aggregate.shared.
-/
import Derived.Test.YtegponbmelgngaaMgAb
import Derived.Maps.OwnSet
import Derived.Maps.RangeWalk
import Derived.Maps.Ext
import Derived.Shelf.SlMaps.Copy
import Derived.Shelf.SlMaps.Clone
import Derived.Shelf.SlIterI.Collect
import Derived.Test.YtegponbmelgngaaProg
section
namespace Go.Proofs.Ytegponbmelgngaa
set_option linter.unusedSimpArgs false
set_option linter.unusedVariables false

def unBe (x : AG.Be) : En := (pfx x.1, x.2)
theorem toBe_unBe {x : AG.Be} (h : x.1.2 ≤ 32) : toBe (unBe x) = x := by
  show (blk (pfx x.1), x.2) = x
  rw [blk_pfx h]
theorem unBe_toBe {e : En} (h : V e.1 = true) : unBe (toBe e) = e := by
  show (pfx (blk e.1), e.2) = e
  rw [pfx_blk h]
theorem map_un {A K : Nat} {t : List AG.Be} (hK : K ≤ 32) (h : AG.Frag A K t) : (t.map unBe).map toBe = t := by
  rw [List.map_map]
  conv => rhs; rw [← List.map_id t]
  exact List.map_congr_left fun x hx => toBe_unBe (Nat.le_trans (h.size x hx) hK)
theorem frag_tab {t : List AG.Be} (h : AG.Frag 0 32 t) (hv : ∀ e ∈ t, -1 ≤ e.2) (hl : t.length ≤ 2000) : TabE (t.map unBe) := by
  refine ⟨by rw [List.length_map]; exact hl, fun e he => ?_, ?_⟩
  · obtain ⟨x, hx, rfl⟩ := List.mem_map.1 he
    exact ⟨V_pfx (h.size x hx) (h.al x hx), hv x hx⟩
  · show List.Pairwise _ _
    rw [List.pairwise_map]
    refine h.asc.imp_of_mem fun {x y} hx hy hxy => ?_
    have e1 := V_pfx (h.size x hx) (h.al x hx)
    have e2 := V_pfx (h.size y hy) (h.al y hy)
    refine (ltB_blk e1 e2).1 ?_
    rw [blk_pfx (h.size x hx), blk_pfx (h.size y hy)]
    exact hxy
theorem frag_fit {t : List AG.Be} (h : AG.Frag 0 32 t) (hv : ∀ e ∈ t, I64 e.2) : FitE (t.map unBe) := fun e he => by
  obtain ⟨x, hx, rfl⟩ := List.mem_map.1 he
  have h1 := h.wi x hx
  have h2 := CM.pow_pos' x.1.2
  have h3 := h.size x hx
  refine ⟨?_, ?_, hv x hx⟩
  · show x.1.1 < 4294967296
    omega
  · show I64 ((32 - x.1.2 : Nat) : Int)
    unfold I64; omega
/-- the least table -/
def minE (l : List En) : List En := (AG.minimal (l.map toBe)).map unBe
theorem minE_be {l : List En} (h : TabE l) (hf : FitE l) : (minE l).map toBe = AG.minimal (l.map toBe) := map_un (Nat.le_refl 32) (AG.minimal_frag (h.frag fun e he => (hf e he).1))
theorem minE_len {l : List En} (h : TabE l) (hf : FitE l) : (minE l).length ≤ l.length := by
  have := AG.minimal_le (h.frag fun e he => (hf e he).1)
  unfold minE
  rw [List.length_map]
  rwa [List.length_map] at this
theorem minE_tab {l : List En} (h : TabE l) (hf : FitE l) : TabE (minE l) := by
  have hF := h.frag fun e he => (hf e he).1
  refine frag_tab (AG.minimal_frag hF) (AG.minimal_val hF fun e he => ?_) ?_
  · obtain ⟨x, hx, rfl⟩ := List.mem_map.1 he
    exact (h.val x hx).2
  · have := AG.minimal_le hF
    rw [List.length_map] at this
    have := h.len
    omega
theorem minE_fit {l : List En} (h : TabE l) (hf : FitE l) : FitE (minE l) := by
  have hF := h.frag fun e he => (hf e he).1
  refine frag_fit (AG.minimal_frag hF) fun e he => ?_
  rcases (AG.made 32 0 _ (-1) (Nat.zero_mod _) hF).vals _ e he with h1 | ⟨x, hx, h1⟩
  · rw [h1]; unfold I64; omega
  · obtain ⟨y, hy, rfl⟩ := List.mem_map.1 hx
    rw [← h1]; exact (hf y hy).2.2
theorem minE_look {l : List En} (h : TabE l) (hf : FitE l) (y : Nat) (hy : y < 4294967296) : lkE y (-1) (minE l) = lkE y (-1) l := by
  have hF := h.frag fun e he => (hf e he).1
  rw [lkE_lk y (minE l) _ (fun e he => ((minE_tab h hf).val e he).1), lkE_lk y l _ (fun e he => (h.val e he).1), minE_be h hf]
  exact AG.minimal_agree hF y (Nat.zero_le _) (by omega)
/-- no table with the same lookups has fewer entries -/
theorem minE_least {l s : List En} (h : TabE l) (hf : FitE l) (hs : TabE s) (fs : FitE s) (hg : ∀ y, y < 4294967296 → lkE y (-1) s = lkE y (-1) l) : (minE l).length ≤ s.length := by
  have := AG.minimal_least (h.frag fun e he => (hf e he).1) (hs.frag fun e he => (fs e he).1) (fun y _ hy => by
    rw [← lkE_lk y s _ (fun e he => (hs.val e he).1), ← lkE_lk y l _ (fun e he => (h.val e he).1)]
    exact hg y (by omega))
  unfold minE
  rw [List.length_map]
  rwa [List.length_map] at this
theorem minE_same {l s : List En} (h : TabE l) (hf : FitE l) (hs : TabE s) (fs : FitE s) (hg : ∀ y, y < 4294967296 → lkE y (-1) s = lkE y (-1) l) : (minE l).length = (minE s).length := by
  have := AG.minimal_same (h.frag fun e he => (hf e he).1) (hs.frag fun e he => (fs e he).1) (fun y _ hy => by
    rw [← lkE_lk y s _ (fun e he => (hs.val e he).1), ← lkE_lk y l _ (fun e he => (h.val e he).1)]
    exact hg y (by omega))
  unfold minE
  rw [List.length_map, List.length_map]
  exact this
/-- the values of a region's best -/
def AG.RT.ok : AG.RT → Prop
  | .leaf A K b => A % 2 ^ K = 0 ∧ K ≤ 32 ∧ A + 2 ^ K ≤ 4294967296 ∧ I64 b
  | .node A K b l r => A % 2 ^ K = 0 ∧ K ≤ 32 ∧ A + 2 ^ K ≤ 4294967296 ∧ b ≠ [] ∧ (∀ x ∈ b, I64 x) ∧ l.ok ∧ r.ok
end Go.Proofs.Ytegponbmelgngaa
end

section
namespace Go.Proofs.Ytegponbmelgngaa
open Go.RowKit Go.Maps
set_option linter.unusedSimpArgs false
set_option linter.unusedVariables false
set_option maxRecDepth 100000

/-- a key -/
abbrev kI (x : Int) : Lit := .int .i64 x
theorem kI_wf {x : Int} (h : I64 x) : (kI x).wf = true := WalkArith.wf_i64 (by unfold I64 at h; omega)
theorem kI_key {x : Int} (h : I64 x) : keyOf Try.prog 3 (.int .i64 x) = some (kI x) := Maps.keyOf_int_mk Try.underlying3 (kI_wf h)
theorem kI_is {x : Int} (h : I64 x) : WideAt.IsKeyLit (kI x) := (Maps.int_keyed Try.underlying3).key (kI_key h)
theorem kI_keyed : Maps.Keyed Try.prog 3 := Maps.int_keyed Try.underlying3
/-- the value of every entry -/
abbrev dT : DataW Unit := .lit (.bool true)
abbrev dF : DataW Unit := .lit (.bool false)
theorem el_true : plainElem (H := Unit) Try.prog 4 (.bool true) = some (dT, []) := plainElem_bool Try.underlying4 true
/-- the datum of a set -/
def SetD (D : DataW Unit) (l : List Int) : Prop := (∀ k, Maps.has D k = true ↔ ∃ x ∈ l, k = kI x) ∧ (∀ k z, Maps.has D k = true → D.atKey k z = dT) ∧ ∀ x ∈ l, I64 x
theorem setD_nil : SetD (.map []) [] := ⟨fun k => ⟨(fun h => by cases h), (fun ⟨x, h, _⟩ => by cases h)⟩, (fun k z h => by cases h), (fun x h => by cases h)⟩
theorem SetD.congr {D : DataW Unit} {l m : List Int} (h : SetD D l) (e : ∀ x, x ∈ l ↔ x ∈ m) : SetD D m := ⟨fun k => by rw [h.1 k]; exact ⟨fun ⟨x, hx, g⟩ => ⟨x, (e x).1 hx, g⟩, fun ⟨x, hx, g⟩ => ⟨x, (e x).2 hx, g⟩⟩, h.2.1, fun x hx => h.2.2 x ((e x).2 hx)⟩
theorem kI_inj {x y : Int} (h : kI x = kI y) : x = y := by cases h; rfl
theorem SetD.has {D : DataW Unit} {l : List Int} (h : SetD D l) (x : Int) : Maps.has D (kI x) = decide (x ∈ l) := by
  rw [Bool.eq_iff_iff, h.1, decide_eq_true_iff]
  exact ⟨fun ⟨y, hy, e⟩ => by rw [kI_inj e]; exact hy, fun hx => ⟨x, hx, rfl⟩⟩
theorem SetD.put {D : DataW Unit} {l : List Int} (h : SetD D l) (hm : Maps.IsMap D) {x : Int} (hx : I64 x) : SetD (D.put (kI x) dT) (x :: l) := by
  refine ⟨fun k => ?_, fun k z hk => ?_, fun y hy => ?_⟩
  · by_cases e : k = kI x
    · subst e
      rw [Maps.has_put_same hm (kI_is hx)]
      exact ⟨fun _ => ⟨x, by simp, rfl⟩, fun _ => rfl⟩
    · rw [Maps.has_put_other e, h.1 k]
      constructor
      · rintro ⟨y, hy, g⟩; exact ⟨y, List.mem_cons_of_mem _ hy, g⟩
      · rintro ⟨y, hy, g⟩
        rcases List.mem_cons.1 hy with rfl | hy
        · exact absurd g e
        · exact ⟨y, hy, g⟩
  · by_cases e : k = kI x
    · subst e; rw [Maps.atKey_put_same hm (kI_is hx)]
    · rw [Maps.has_put_other e] at hk
      rw [Maps.atKey_put_other e, h.2.1 k z hk]
  · rcases List.mem_cons.1 hy with rfl | hy
    · exact hx
    · exact h.2.2 y hy
theorem SetD.size0 {D : DataW Unit} {l : List Int} (h : SetD D l) (hm : Maps.Canon D) : Maps.size D = 0 ↔ l = [] := by
  obtain ⟨es, rfl, h1, h2⟩ := hm
  rw [Maps.size_eq]
  constructor
  · intro e
    have e0 : es = [] := List.length_eq_zero_iff.1 e
    subst e0
    cases l with
    | nil => rfl
    | cons x r => have := (h.1 (kI x)).2 ⟨x, by simp, rfl⟩; cases this
  · intro e
    subst e
    cases es with
    | nil => rfl
    | cons p r =>
      have hp : Maps.has (.map (p :: r)) p.1 = true := by
        rw [Maps.has_eq]; exact List.any_eq_true.2 ⟨p, by simp, WideAt.sameKey_self (h2 p (by simp))⟩
      obtain ⟨x, hx, _⟩ := (h.1 p.1).1 hp
      cases hx
/-- block b is a set of the numbers of l, of at most N entries -/
def SetM (w : World) (b N : Nat) (l : List Int) : Prop := ∃ D : DataW Unit, w.ownsMap Try.prog 3 (plainElem Try.prog 4) b N D ∧ SetD D l
theorem SetM.lt {w : World} {b N : Nat} {l : List Int} (h : SetM w b N l) : b < w.heap.size := by obtain ⟨D, h, _⟩ := h; exact h.lt
theorem SetM.kept {w w' : World} {b N : Nat} {l : List Int} {row : Option Nat} (h : SetM w b N l) (hg : w.grownBy w' row) (hne : some b ≠ row) : SetM w' b N l := by
  obtain ⟨D, h, g⟩ := h; exact ⟨D, h.kept hg hne, g⟩
theorem SetM.mono {w : World} {b N N' : Nat} {l : List Int} (h : SetM w b N l) (hn : N ≤ N') : SetM w b N' l := by
  obtain ⟨D, h, g⟩ := h; exact ⟨D, h.mono hn, g⟩
theorem SetM.congr {w : World} {b N : Nat} {l m : List Int} (h : SetM w b N l) (e : ∀ x, x ∈ l ↔ x ∈ m) : SetM w b N m := by
  obtain ⟨D, h, g⟩ := h; exact ⟨D, h, g.congr e⟩
theorem SetM.at {w w' : World} {b N : Nat} {l : List Int} (h : SetM w b N l) (hb : w'.heap[b]? = w.heap[b]?) : SetM w' b N l := by
  obtain ⟨D, ⟨es, clock, h1, h2⟩, g⟩ := h; exact ⟨D, ⟨es, clock, hb.trans h1, h2⟩, g⟩
theorem SetM.below {w w' : World} {b N : Nat} {l : List Int} (h : SetM w b N l) (hb : Below w.heap.size w w') : SetM w' b N l := h.at (hb.block b h.lt)
theorem setM_made (w : World) : SetM (w.alloc (.map #[] 0)) w.heap.size 0 [] := ⟨_, World.ownsMap_made _ _ _ _, setD_nil⟩
theorem plainElem_bool_inv {v : Value} {z : DataW Unit × List MemPlace} (h : plainElem Try.prog 4 v = some z) : ∃ a, v = .bool a ∧ z = (.lit (.bool a), []) := by
  unfold plainElem at h
  rw [Try.underlying4] at h
  cases v <;> simp at h
  exact ⟨_, rfl, h.symm⟩
section
variable {w : World} {ops : Array Oper} {rest : List Oper} {o : Oper} {a : Act} {Q : Exit → Act → World → Prop}
/-- 'm[x]' -/
theorem SetM.look {t b N : Nat} {l : List Int} (h : SetM w b N l) (ht : Try.prog.underlying t = some (.map 3 4)) {x : Int} (hx : I64 x) : (Instr.lookup t (.map (some b)) (.int .i64 x) false).run Try.prog w = .ok (.bool (decide (x ∈ l))) w := by
  obtain ⟨D, h, h1, h2, h3⟩ := h
  obtain ⟨v, ps, hrun, hv⟩ := h.lookup (z := .bool false) (zd := dF) (zp := []) kI_keyed ht (by kernel_rfl) (plainElem_bool Try.underlying4 false) (kI_key hx)
  obtain ⟨c, rfl, hc⟩ := plainElem_bool_inv hv
  rw [hrun]
  have hcc : D.atKey (kI x) dF = .lit (.bool c) := (Prod.mk.inj hc).1
  have : c = decide (x ∈ l) := by
    rw [← SetD.has ⟨h1, h2, h3⟩ x]
    cases hh : Maps.has D (kI x)
    · rw [Maps.atKey_of_not_has hh] at hcc; exact (Lit.bool.inj (DataW.lit.inj hcc)).symm
    · rw [h2 _ _ hh] at hcc; exact (Lit.bool.inj (DataW.lit.inj hcc)).symm
  rw [this]
theorem wp_look (hg : o.guard = none) (m x : Operand) (t : Nat) (hop : o.op = Op.lookup t m x false) (ht : Try.prog.underlying t = some (.map 3 4)) (b N : Nat) (l : List Int) (hm : a.eval m = .map (some b)) (h : SetM w b N l) (y : Int) (hx : a.eval x = .int .i64 y) (hy : I64 y)
    (hK : wpList Try.prog ops Q rest (a.put o.dst (.bool (decide (y ∈ l)))) w) : wpList Try.prog ops Q (o :: rest) a w := by
  refine wpList_plain hg fun K' hK' => ?_
  unfold Oper.wp
  simp [execOp, hop, hm, hx, h.look ht hy, Result.andThen]
  exact hK' _ _ hK
/-- 'm[x] = true' -/
theorem wp_putS (hg : o.guard = none) (m x v : Operand) (t : Nat) (hop : o.op = Op.mapUpdate t m x v) (ht : Try.prog.underlying t = some (.map 3 4)) (b N : Nat) (l : List Int) (hm : a.eval m = .map (some b)) (h : SetM w b N l) (hN : N < maxLen) (y : Int) (hx : a.eval x = .int .i64 y) (hv : a.eval v = .bool true) (hy : I64 y)
    (hK : ∀ w', SetM w' b (N + 1) (y :: l) → w.grownBy w' (some b) → wpList Try.prog ops Q rest (a.put o.dst undef) w') : wpList Try.prog ops Q (o :: rest) a w := by
  obtain ⟨D, h, g⟩ := h
  exact wpList_mapUpdate_own w hg m x v t hop 3 4 kI_keyed ht (plainElem Try.prog 4) b N D hm h hN _ _ (kI y) hx hv (kI_key hy) dT [] el_true fun w' h1 h2 => hK w' ⟨_, h1, g.put h.isMap hy⟩ h2
/-- 'len(m)' -/
theorem wp_lenS (hg : o.guard = none) (m : Operand) (t : Nat) (hop : o.op = Op.call { callee := Callee.builtin Builtin.len, args := #[m], argTypes := #[t] }) (ht : Try.prog.underlying t = some (.map 3 4)) (b N : Nat) (l : List Int) (hm : a.eval m = .map (some b)) (h : SetM w b N l)
    (hK : ∀ n : Nat, (n = 0 ↔ l = []) → n ≤ N → wpList Try.prog ops Q rest (a.put o.dst (.int .i64 (n : Int))) w) : wpList Try.prog ops Q (o :: rest) a w := by
  obtain ⟨D, h, g⟩ := h
  exact wpList_len_own w hg m t hop 3 4 ht (plainElem Try.prog 4) b N D hm h (hK _ (g.size0 (h.canon kI_keyed)) h.size_le)
/-- the step of 'range m' -/
theorem wp_nextS (hg : o.guard = none) (it : Operand) (hop : o.op = Op.next it false) (b r N : Nat) (D : DataW Unit) (l : List Int) (left : Lit → Bool) (cnt : Nat) (hit : a.eval it = .pointer (some ⟨r, 0, none⟩)) (h : w.ranges Try.prog 3 (plainElem Try.prog 4) b r N D left cnt) (gD : SetD D l)
    (hDone : cnt = 0 → (∀ kl, left kl = false) → wpList Try.prog ops Q rest (a.put o.dst (.tuple #[.bool false])) w)
    (hMore : ∀ (x : Int) (w' : World) (cnt' : Nat), Hid (I64 x ∧ x ∈ l ∧ left (kI x) = true ∧ w'.ranges Try.prog 3 (plainElem Try.prog 4) b r N D (fun z => left z && !z.sameKey (kI x)) cnt' ∧ cnt' < cnt ∧ w.grownBy w' (some r) ∧ w'.heap.size = w.heap.size) →
      (Instr.entry (.pointer (some ⟨r, 0, none⟩))).run Try.prog w' = .ok (.tuple #[.int .i64 x, .bool true]) w' → wpList Try.prog ops Q rest (a.put o.dst (.tuple #[.bool true, .int .i64 x, .bool true])) w') : wpList Try.prog ops Q (o :: rest) a w := by
  refine wpList_next_ranges w hg it hop 3 kI_keyed (plainElem Try.prog 4) (Value.int .i64) Value.bool (fun key kl hkey => by obtain ⟨x, rfl, _⟩ := Maps.keyOf_int_inv Try.underlying3 hkey; exact ⟨x, rfl⟩) (fun v y hv => by obtain ⟨c, rfl, _⟩ := plainElem_bool_inv hv; exact ⟨c, rfl⟩) b r N D left cnt hit h hDone ?_
  intro x c kl y w' cnt' hkey hlx hv hat hrg hlt hgr hsz hen
  obtain ⟨x', ex, rfl, hwx⟩ := Maps.keyOf_int_inv Try.underlying3 hkey
  obtain rfl : x = x' := by injection ex
  obtain ⟨x2, hx2, e2⟩ := (gD.1 _).1 (Maps.has_true_of_atKey hat)
  obtain rfl : x = x2 := kI_inj e2
  obtain ⟨c', ec, rfl⟩ := plainElem_bool_inv hv
  obtain rfl : c = c' := by injection ec
  have hcc := (hat dF).symm.trans (gD.2.1 _ dF (Maps.has_true_of_atKey hat))
  obtain rfl : c = true := Lit.bool.inj (DataW.lit.inj hcc)
  exact hMore x w' cnt' ⟨gD.2.2 x hx2, hx2, hlx, hrg, hlt, hgr, hsz⟩ hen
/-- an entry of a map that is written out -/
theorem wp_insS (hg : o.guard = none) (m x v : Operand) (t : Nat) (hop : o.op = Op.insert t m x v) (ht : Try.prog.underlying t = some (.map 3 4)) (b N : Nat) (l : List Int) (hm : a.eval m = .map (some b)) (h : SetM w b N l) (hN : N < maxLen) (y : Int) (hx : a.eval x = .int .i64 y) (hv : a.eval v = .bool true) (hy : I64 y)
    (hK : ∀ w', SetM w' b (N + 1) (y :: l) → w.grownBy w' (some b) → wpList Try.prog ops Q rest (a.put o.dst undef) w') : wpList Try.prog ops Q (o :: rest) a w := by
  obtain ⟨D, h, g⟩ := h
  refine wpList_plain hg fun K' hK' => ?_
  obtain ⟨w', hrun, r1, r2⟩ := h.update kI_keyed ht hN (kI_key hy) el_true
  unfold Oper.wp
  simp [execOp, hop, hm, hx, hv, hrun, Result.andThen]
  exact hK' _ _ (hK w' ⟨_, r1, g.put h.isMap hy⟩ r2)
end
end Go.Proofs.Ytegponbmelgngaa
end

section
namespace Go.Proofs
open Go.Shelf
def Try.mapCopy_ren : Go.Shelf.Ren := ⟨fun | 5 => 145 | n => n, fun | 23 => 136 | 24 => 136 | 26 => 3 | 27 => 4 | 0 => 0 | 4 => 4 | n => n, fun | n => n⟩
theorem Try.mapCopy : Go.Proofs.SlLaysX.n5 Try.prog Try.mapCopy_ren := {
  mixed := by kernel_rfl
  f5 := ⟨Try.f145.name, by decide, Try.func145.trans (congrArg some (by kernel_rfl))⟩
  t0 := Try.underlying0
  a0 := Try.isAgg0
  z0 := Try.sizeOf0
  v0 := Try.zeroValue0
  t4 := Try.underlying4
  a4 := Try.isAgg4
  z4 := Try.sizeOf4
  v4 := Try.zeroValue4
  t23 := Try.underlying136
  a23 := Try.isAgg136
  z23 := Try.sizeOf136
  v23 := Try.zeroValue136
  t24 := Try.underlying136
  a24 := Try.isAgg136
  z24 := Try.sizeOf136
  v24 := Try.zeroValue136
  a26 := Try.isAgg3
  z26 := Try.sizeOf3
  a27 := Try.isAgg4
  z27 := Try.sizeOf4 }
def Try.mapClone_ren : Go.Shelf.Ren := ⟨fun | 5 => 144 | 7 => 160 | n => n, fun | 23 => 136 | 25 => 3 | 3 => 4 | 4 => 4 | 20 => 20 | n => n, fun | n => n⟩
theorem Try.mapClone : Go.Proofs.SlLaysW.n5 Try.prog Try.mapClone_ren := {
  mixed := by kernel_rfl
  f5 := ⟨Try.f144.name, by decide, Try.func144.trans (congrArg some (by kernel_rfl))⟩
  f7 := Try.func160.trans (congrArg some (by kernel_rfl))
  t4 := Try.underlying4
  a4 := Try.isAgg4
  z4 := Try.sizeOf4
  v4 := Try.zeroValue4
  t20 := Try.underlying20
  a20 := Try.isAgg20
  z20 := Try.sizeOf20
  v20 := Try.zeroValue20
  t23 := Try.underlying136
  a23 := Try.isAgg136
  z23 := Try.sizeOf136
  v23 := Try.zeroValue136 }
def Try.mapKeys_ren : Go.Shelf.Ren := ⟨fun | 7 => 130 | 10 => 147 | n => n, fun | 23 => 136 | 26 => 3 | 3 => 4 | 28 => 147 | 0 => 0 | 27 => 146 | 33 => 109 | 4 => 4 | n => n, fun | n => n⟩
theorem Try.mapKeys : Go.Proofs.SlLaysZI.n7 Try.prog Try.mapKeys_ren := {
  mixed := by kernel_rfl
  f7 := ⟨Try.f130.name, by decide, Try.func130.trans (congrArg some (by kernel_rfl))⟩
  f10 := ⟨Try.f147.name, by decide, Try.func147.trans (congrArg some (by kernel_rfl))⟩
  t0 := Try.underlying0
  a0 := Try.isAgg0
  z0 := Try.sizeOf0
  v0 := Try.zeroValue0
  t4 := Try.underlying4
  a4 := Try.isAgg4
  z4 := Try.sizeOf4
  v4 := Try.zeroValue4
  t23 := Try.underlying136
  a23 := Try.isAgg136
  z23 := Try.sizeOf136
  v23 := Try.zeroValue136
  t26 := Try.underlying3
  a26 := Try.isAgg3
  z26 := Try.sizeOf3
  v26 := Try.zeroValue3
  t27 := Try.underlying146
  a27 := Try.isAgg146
  z27 := Try.sizeOf146
  v27 := Try.zeroValue146
  t28 := Try.underlying147
  a28 := Try.isAgg147
  z28 := Try.sizeOf147
  v28 := Try.zeroValue147
  t33 := Try.underlying109
  a33 := Try.isAgg109
  z33 := Try.sizeOf109
  v33 := Try.zeroValue109 }
def Try.mapKeysIt_ren : Go.Shelf.Ren := ⟨fun | 10 => 147 | n => n, fun | 33 => 109 | 23 => 136 | 0 => 0 | 4 => 4 | 26 => 3 | 3 => 4 | n => n, fun | n => n⟩
theorem Try.mapKeysIt : Go.Proofs.SlLaysZI.n10 Try.prog Try.mapKeysIt_ren := {
  mixed := by kernel_rfl
  f10 := ⟨Try.f147.name, by decide, Try.func147.trans (congrArg some (by kernel_rfl))⟩
  t0 := Try.underlying0
  a0 := Try.isAgg0
  z0 := Try.sizeOf0
  v0 := Try.zeroValue0
  t4 := Try.underlying4
  a4 := Try.isAgg4
  z4 := Try.sizeOf4
  v4 := Try.zeroValue4
  t23 := Try.underlying136
  a23 := Try.isAgg136
  z23 := Try.sizeOf136
  v23 := Try.zeroValue136
  t26 := Try.underlying3
  a26 := Try.isAgg3
  z26 := Try.sizeOf3
  v26 := Try.zeroValue3
  t33 := Try.underlying109
  a33 := Try.isAgg109
  z33 := Try.sizeOf109
  v33 := Try.zeroValue109 }
def Try.sliceCollect_ren : Go.Shelf.Ren := ⟨fun | 8 => 129 | 11 => 146 | n => n, fun | 26 => 3 | 28 => 147 | 24 => 133 | 0 => 0 | 33 => 109 | 4 => 4 | n => n, fun | n => n⟩
theorem Try.sliceCollect : Go.Proofs.SlLaysZI.n8 Try.prog Try.sliceCollect_ren := {
  mixed := by kernel_rfl
  f8 := ⟨Try.f129.name, by decide, Try.func129.trans (congrArg some (by kernel_rfl))⟩
  f11 := ⟨Try.f146.name, by decide, Try.func146.trans (congrArg some (by kernel_rfl))⟩
  t0 := Try.underlying0
  a0 := Try.isAgg0
  z0 := Try.sizeOf0
  v0 := Try.zeroValue0
  t24 := Try.underlying133
  a24 := Try.isAgg133
  z24 := Try.sizeOf133
  v24 := Try.zeroValue133
  t26 := Try.underlying3
  a26 := Try.isAgg3
  z26 := Try.sizeOf3
  v26 := Try.zeroValue3
  t28 := Try.underlying147
  a28 := Try.isAgg147
  z28 := Try.sizeOf147
  v28 := Try.zeroValue147
  i26 := by kernel_rfl }
end Go.Proofs
end

section
namespace Go.Proofs.Ytegponbmelgngaa
open Go.RowKit Go.Maps
set_option linter.unusedSimpArgs false
set_option linter.unusedVariables false
set_option maxHeartbeats 1500000
set_option maxRecDepth 100000

theorem setD_merge {Dd Ds : DataW Unit} {ld ls : List Int} (hd : SetD Dd ld) (hs : SetD Ds ls) (md : Maps.IsMap Dd) {es : List (Lit × DataW Unit)} (he : Ds = .map es) (hp : es.Pairwise (fun p q => p.1 ≠ q.1)) (hk : ∀ p ∈ es, WideAt.IsKeyLit p.1) : SetD (Lib.mergeD Dd Ds) (ld ++ ls) := by
  subst he
  have hhas : ∀ k, Maps.has (Lib.mergeD Dd (.map es)) k = (Maps.has Dd k || Maps.has (.map es) k) := fun k => Maps.has_foldPut k es Dd md hk
  refine ⟨fun k => ?_, fun k z h => ?_, fun x hx => (List.mem_append.1 hx).elim (hd.2.2 x) (hs.2.2 x)⟩
  · rw [hhas, Bool.or_eq_true, hd.1, hs.1]
    constructor
    · rintro (⟨x, hx, e⟩ | ⟨x, hx, e⟩)
      · exact ⟨x, List.mem_append_left _ hx, e⟩
      · exact ⟨x, List.mem_append_right _ hx, e⟩
    · rintro ⟨x, hx, e⟩
      rcases List.mem_append.1 hx with h | h
      · exact .inl ⟨x, h, e⟩
      · exact .inr ⟨x, h, e⟩
  · have e1 := Maps.atKey_foldPut k z es Dd md hk hp
    have e2 : Lib.mergeD Dd (.map es) = es.foldl (fun D p => D.put p.1 p.2) Dd := rfl
    rw [e2, e1]
    cases hf : es.find? (fun p => p.1.sameKey k) with
    | none =>
      have h0 : Maps.has (DataW.map es) k = false := by
        rw [Maps.has_eq]
        exact List.any_eq_false.2 (fun p hp => by simpa using List.find?_eq_none.1 hf p hp)
      rw [hhas, h0, Bool.or_false] at h
      exact hd.2.1 k z h
    | some p =>
      have h1 : Maps.has (DataW.map es) k = true := by
        rw [Maps.has_eq]
        exact List.any_eq_true.2 ⟨p, List.mem_of_find?_eq_some hf, List.find?_some (p := fun (q : Lit × DataW Unit) => q.1.sameKey k) hf⟩
      have h2 : (DataW.map es).atKey k z = p.2 := by simp [DataW.atKey, hf]
      exact h2.symm.trans (hs.2.1 k z h1)
theorem copyM_any (bd Nd : Nat) (ld : List Int) (bs Ns : Nat) (ls : List Int) (w : World) (hd : SetM w bd Nd ld) (hs : SetM w bs Ns ls) (hne : bd ≠ bs) (hN : Nd + Ns ≤ 140737488355328) :
    Calls Try.prog 145 #[.map (some bd), .map (some bs)] w fun e w' => e = .returned (.tuple #[]) ∧ SetM w' bd (Nd + Ns) (ld ++ ls) ∧ w.grownBy w' (some bd) := by
  obtain ⟨Dd, od, gd⟩ := hd
  obtain ⟨Ds, os, gs⟩ := hs
  have hsz := os.size_le
  refine (AnyX.maps_Copy Try.mapCopy kI_keyed (plainElem Try.prog 4) bd bs Nd Ns Dd Ds w od os hne (by unfold maxLen; omega)).mono ?_
  rintro e w' ⟨he, h1, _, h3⟩
  obtain ⟨es, hes, hp, hk⟩ := os.entries kI_keyed
  exact ⟨he, ⟨_, h1.mono (by omega), setD_merge gd gs od.isMap hes hp hk⟩, h3⟩
theorem cloneM_any (b N : Nat) (l : List Int) (w : World) (h : SetM w b N l) :
    Calls Try.prog 144 #[.map (some b)] w fun e w' => e = .returned (.map (some w.heap.size)) ∧ SetM w' w.heap.size N l ∧ Below w.heap.size w w' := by
  obtain ⟨D, o, g⟩ := h
  refine (AnyW.maps_Clone_owns Try.mapClone 3 (plainElem Try.prog 4) b N D w o).mono ?_
  rintro e w' ⟨he, h1, _, h3⟩
  exact ⟨he, ⟨_, h1, g⟩, h3⟩
theorem shared_any (ba Na : Nat) (la : List Int) (bb Nb : Nat) (lb : List Int) (w : World) (ha : SetM w ba Na la) (hb : SetM w bb Nb lb) (hN : Na + Nb ≤ 140737488355328) :
    Calls Try.prog 127 #[.map (some ba), .map (some bb)] w fun e w' => ∃ g, e = .returned (.map (some g)) ∧ w.heap.size ≤ g ∧ SetM w' g (Na + Nb) (AG.shared la lb) ∧ Below w.heap.size w w' := by
  have HA := Lib.hid ha
  have HB := Lib.hid hb
  obtain ⟨D, od, gd⟩ := ha
  have hmm := @run_makeMap Try.prog
  have hsz := od.size_le
  have hba := od.lt
  have hbb := hb.lt
  have HOD := Lib.hid od
  have HGD := Lib.hid gd
  clear od gd hb
  go_enter Try.func127, Try.ntmps127
  go_wp2_with (first
    | (at_range; refine wpList_range_own _ rfl _ 136 rfl 3 4 kI_keyed Try.underlying136 (plainElem Try.prog 4) ba Na D rfl (HOD.out.alloc _) ?_; intro w0 hrg0 hg0 hs0)
    | go_in)
  go_frame
  have HS0 : Hid (Below w.heap.size w w0 ∧ SetM w0 w.heap.size 0 []) := ⟨((Below.refl _ w).alloc (Nat.le_refl _) _).grown hg0 (by simp) (fun k e => by cases e), (setM_made w).kept hg0 (by simp)⟩
  have HR0 := Lib.hid hrg0
  clear hrg0 hg0 hmm
  rw [World.size_alloc] at HR0 ⊢
  go_loopg [6] Na (fun g s6 wr => ∃ (left : Lit → Bool) (cnt : Nat) (lo : List Int), (∃ u, u = s6) ∧ cnt ≤ g ∧ cnt ≤ Maps.size D ∧ Hid (Below w.heap.size w wr ∧ wr.ranges Try.prog 3 (plainElem Try.prog 4) ba (w.heap.size + 1) Na D left cnt ∧ SetM wr w.heap.size (Maps.size D - cnt) lo ∧ ∀ x, x ∈ lo ↔ x ∈ la ∧ x ∈ lb ∧ left (kI x) = false))
  case atStart => exact ⟨_, _, [], ⟨_, rfl⟩, by omega, Nat.le_refl _, HS0.out.1, HR0.out, HS0.out.2.mono (by omega), fun x => ⟨(fun h => by cases h), fun ⟨h1, _, h3⟩ => by rw [HGD.out.has x, decide_eq_false_iff_not] at h3; exact absurd h1 h3⟩⟩
  case round =>
    clear HS0 HR0
    obtain ⟨left, cnt, lo, ⟨u6, rfl⟩, hg, hcs, HI⟩ := hrel
    have hrg := HI.out.2.1
    go_wp2_with (first
      | (at_next; refine wp_nextS rfl _ rfl ba (w.heap.size + 1) Na D la left cnt rfl hrg HGD.out ?_ ?_)
      | go_in)
    · intro hc0 hl0
      clear hrg
      have HO : Hid (Below w.heap.size w wr ∧ SetM wr w.heap.size Na lo ∧ ∀ x, x ∈ lo ↔ x ∈ la ∧ x ∈ lb) := ⟨HI.out.1, HI.out.2.2.1.mono (by omega), fun x => by rw [HI.out.2.2.2 x, hl0]; simp⟩
      clear HI hl0 hc0 hg hcs
      by_cases hlo : lo = []
      · have HLO := Lib.hid hlo
        have HE : Hid (∀ x, x ∈ la ++ lb ↔ x ∈ AG.shared la lb) := fun x => by
          rw [AG.shared_either (fun ⟨y, h1, h2⟩ => by
            have := (HO.out.2.2 y).2 ⟨h1, h2⟩
            rw [hlo] at this; cases this), List.mem_append]
        clear hlo
        go_wp2_with (first
          | (at_len; refine wp_lenS rfl _ _ rfl Try.underlying136 w.heap.size Na lo rfl HO.out.2.1 ?_; intro n hn0 hnN; obtain rfl : n = 0 := hn0.2 HLO.out; clear hn0 hnN)
          | (go_at_call 144; refine (cloneM_any ba Na la _ (HA.out.below HO.out.1)).mono ?_; rintro en w2 ⟨rfl, h1, hb⟩; have H2 : Hid (SetM w2 wr.heap.size Na la ∧ Below w.heap.size w w2 ∧ SetM w2 bb Nb lb) := ⟨h1, below_then HO.out.1 hb, HB.out.below (below_then HO.out.1 hb)⟩; clear h1 hb)
          | (go_at_call 145; refine (copyM_any wr.heap.size Na la bb Nb lb _ H2.out.1 H2.out.2.2 (by have := HO.out.1.size; omega) (by omega)).mono ?_; rintro en w3 ⟨rfl, h1, hg⟩; have H3 : Hid (SetM w3 wr.heap.size (Na + Nb) (la ++ lb) ∧ Below w.heap.size w w3) := ⟨h1, H2.out.2.1.grown hg H2.out.2.1.size (fun k e => by cases e; exact HO.out.1.size)⟩; clear h1 hg))
        go_ret
        exact ⟨_, rfl, HO.out.1.size, H3.out.1.congr HE.out, H3.out.2⟩
      · have HLO := Lib.hid hlo
        clear hlo
        go_wp2_with (at_len; refine wp_lenS rfl _ _ rfl Try.underlying136 w.heap.size Na lo rfl HO.out.2.1 ?_; intro n hn0 hnN; have hp0 : 0 < n := Nat.pos_of_ne_zero (fun e => HLO.out (hn0.1 e)); have hp2 : (0 : Int) < (n : Int) := (by omega); have hp : decide ((n : Int) > 0) = true := decide_eq_true hp2; clear hn0 hnN)
        go_ret
        refine ⟨_, rfl, Nat.le_refl _, (HO.out.2.1.mono (by omega)).congr fun x => ?_, HO.out.1⟩
        cases lo with
        | nil => exact absurd rfl HLO.out
        | cons y r =>
          have hy := (HO.out.2.2 y).1 (by simp)
          rw [HO.out.2.2 x, AG.shared_both ⟨y, hy⟩]
    · intro x w1 cnt1 HX hen
      obtain ⟨hx, hxl, hlx, hrg1, hlt, hg1, hs1⟩ := HX.out
      have HX1 := Lib.hid hx
      have HB1 : Hid (Below w.heap.size w w1) := HI.out.1.grown hg1 HI.out.1.size (fun k e => by cases e; exact Nat.le_succ _)
      have HS1 : Hid (SetM w1 w.heap.size (Maps.size D - cnt) lo ∧ Maps.size D - cnt < maxLen) := ⟨HI.out.2.2.1.kept hg1 (by simp), by unfold maxLen; omega⟩
      have HK : Hid (∀ y, (left (kI y) && !(kI y).sameKey (kI x)) = false ↔ left (kI y) = false ∨ y = x) := fun y => by
        rw [Bool.and_eq_false_iff]
        refine or_congr Iff.rfl ?_
        rw [Bool.not_eq_false']
        exact ⟨fun h => kI_inj (WideAt.sameKey_eq h), fun h => by rw [h]; exact WideAt.sameKey_self (kI_is hx)⟩
      have HR1 := Lib.hid hrg1
      have HHB : Hid (SetM w1 bb Nb lb) := HB.out.below HB1.out
      have HIN : Hid (x ∈ la) := hxl
      clear hrg hx hxl hlx hrg1 hg1 hs1 HX
      by_cases hxb : x ∈ lb
      · have hd : decide (x ∈ lb) = true := decide_eq_true hxb
        have HXB := Lib.hid hxb
        clear hxb
        go_wp2_with (first
          | (at_lookup; refine wp_look rfl _ _ 136 rfl Try.underlying136 bb Nb lb rfl HHB.out x rfl HX1.out ?_; rw [hd])
          | (at_mapUpdate; refine wp_putS rfl _ _ _ 136 rfl Try.underlying136 w.heap.size _ lo rfl HS1.out.1 HS1.out.2 x rfl rfl HX1.out ?_; intro w2 h2 hg2; have HP : Hid (SetM w2 w.heap.size (Maps.size D - cnt + 1) (x :: lo) ∧ Below w.heap.size w w2 ∧ w2.ranges Try.prog 3 (plainElem Try.prog 4) ba (w.heap.size + 1) Na D (fun z => left z && !z.sameKey (kI x)) cnt1) := ⟨h2, HB1.out.grown hg2 HB1.out.size (fun k e => by cases e; exact Nat.le_refl _), HR1.out.kept hg2 (by simp; omega) (by simp)⟩; clear h2 hg2; go_frame)
          | go_in)
        go_roundg cnt1
        case measure => omega
        case rel => exact ⟨_, cnt1, x :: lo, ⟨_, rfl⟩, Nat.le_refl _, by omega, HP.out.2.1, HP.out.2.2, HP.out.1.mono (by omega), fun y => by
          rw [HK.out y, List.mem_cons, HI.out.2.2.2 y]
          constructor
          · rintro (rfl | ⟨h1, h2, h3⟩)
            · exact ⟨HIN.out, HXB.out, .inr rfl⟩
            · exact ⟨h1, h2, .inl h3⟩
          · rintro ⟨h1, h2, h3 | h3⟩
            · exact .inr ⟨h1, h2, h3⟩
            · exact .inl h3⟩
      · have hd : decide (x ∈ lb) = false := decide_eq_false hxb
        have HXB := Lib.hid hxb
        clear hxb
        go_wp2_with (first
          | (at_lookup; refine wp_look rfl _ _ 136 rfl Try.underlying136 bb Nb lb rfl HHB.out x rfl HX1.out ?_; rw [hd])
          | go_in)
        go_roundg cnt1
        case measure => omega
        case rel => exact ⟨_, cnt1, lo, ⟨_, rfl⟩, Nat.le_refl _, by omega, HB1.out, HR1.out, HS1.out.1.mono (by omega), fun y => by
          rw [HK.out y, HI.out.2.2.2 y]
          constructor
          · rintro ⟨h1, h2, h3⟩; exact ⟨h1, h2, .inl h3⟩
          · rintro ⟨h1, h2, h3 | h3⟩
            · exact ⟨h1, h2, h3⟩
            · rw [h3] at h2; exact absurd h2 HXB.out⟩
end Go.Proofs.Ytegponbmelgngaa
end
