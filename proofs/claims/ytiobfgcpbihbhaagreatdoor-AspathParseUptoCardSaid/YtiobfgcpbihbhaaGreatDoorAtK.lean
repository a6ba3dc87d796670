/-
  The walk of the reader's set.
-/
import Derived.Test.YtiobfgcpbihbhaaGreatDoorAtI
import Derived.Test.YtiobfgcpbihbhaaGreatDoorAtJ
import Derived.Deep.RegionHeld3
import Derived.Deep.RegionLaw
import Derived.BigQuiet
namespace Go.Proofs.YtiobfgcpbihbhaaGreatDoor
open Go.RowKit Go.Shelf P
attribute [local go_sem] Oper.semAt_some
set_option linter.unusedSimpArgs false
set_option linter.unusedVariables false
set_option maxHeartbeats 1500000
set_option maxRecDepth 100000
theorem bs_mk (l : List UInt8) : (⟨l.toArray⟩ : ByteArray) = bs l := rfl
theorem cutsuf (l : List UInt8) (e : UInt8) (w : World) (hl : l.length ≤ 140737488355328) :
    Calls Tryz.prog 104 #[.string (bs l), .string ⟨#[e]⟩] w fun en w' => en = .returned (.tuple #[.string (bs (Lib.trimSuffix l [e])), .bool (Lib.hasSuffix l [e])]) ∧ w' = w := by
  have := Tryz.strings_CutSuffix (bs l) ⟨#[e]⟩ w (by rw [bs_size]; omega)
  rw [bs_data] at this
  exact this
theorem parts_mem_len (c : UInt8) : ∀ (l : List UInt8), ∀ x ∈ T.parts c l, x.length ≤ l.length
  | [], x, hx => by simp [T.parts] at hx; subst hx; simp
  | y :: r, x, hx => by
    have ih := parts_mem_len c r
    simp only [T.parts] at hx
    split at hx
    · rcases List.mem_cons.1 hx with e | e
      · subst e; simp
      · have := ih x e; rw [List.length_cons]; omega
    · split at hx
      · simp at hx; subst hx; simp
      · rename_i p ps hp
        rcases List.mem_cons.1 hx with e | e
        · subst e
          have := ih p (by rw [hp]; simp)
          rw [List.length_cons, List.length_cons]; omega
        · have := ih x (by rw [hp]; simp [e])
          rw [List.length_cons]; omega
/-- what the loop of 'set' keeps -/
def SetI (w : World) (kd : Int) (pre : List (List UInt8)) (W : World) : Prop := ∃ ns u, nums pre = some ns ∧ ns.length ≤ pre.length ∧ W.heap[w.heap.size]? = some (.cells #[.bool false] 4 (0, 0)) ∧ W.heap[w.heap.size + 1]? = some (.cells #[.int .i64 kd, u] 46 (0, 0)) ∧ OwnI (w.heap.size + 5) W u ns ∧ Below w.heap.size w W
def SetX (w : World) (c : Code) (pre : List (List UInt8)) (W : World) : Prop := c = .ret ∧ (∃ x ∈ pre, (T.number x 4294967295).2 ≠ 0) ∧ W.heap[w.heap.size]? = some (.cells #[.bool false] 4 (0, 0)) ∧ Below w.heap.size w W
theorem OwnI.cellsB {B : Nat} {w : World} {v : Value} {l : List Int} (h : OwnI B w v l) {j : Nat} (hj : v.ownBlock = some j) : ∃ cs t f, w.heap[j]? = some (.cells cs t f) := by
  rcases h.2.2 with ⟨e, _⟩ | ⟨g, cap, cur, e, _, hg, _⟩
  · rw [e] at hj; cases hj
  · rw [e] at hj; cases hj; exact ⟨_, _, _, hg⟩
theorem heap_put_cells {W : World} {l k : Nat} {o o' : Obj} {cs : Array Value} {t : TypeId} {f : Nat × Nat} (hl : W.heap[l]? = some o) (ho : o.isCells = false) (hk : W.heap[k]? = some (.cells cs t f)) : (W.putObj l o').heap[k]? = W.heap[k]? :=
  World.putObj_heap_other fun e => by subst e; rw [hl] at hk; cases hk; cases ho
theorem SetI.putObj {w : World} {kd : Int} {pre : List (List UInt8)} {W : World} {l : Nat} {o o' : Obj} (h : SetI w kd pre W) (hw : w.heap.size ≤ l) (hl : W.heap[l]? = some o) (ho : o.isCells = false) : SetI w kd pre (W.putObj l o') := by
  obtain ⟨ns, u, h1, h2, h3, h4, h5, h6⟩ := h
  refine ⟨ns, u, h1, h2, (heap_put_cells hl ho h3).trans h3, (heap_put_cells hl ho h4).trans h4, ⟨by simpa using h5.1, row_congr h5.2 fun j hj => ?_⟩, h6.grown (grownBy_putObj' _ _ _) h6.size (fun k e => by cases e; exact hw)⟩
  obtain ⟨cs, t, f, hc⟩ := h5.cellsB hj
  exact heap_put_cells hl ho hc
theorem SetX.putObj {w : World} {c : Code} {pre : List (List UInt8)} {W : World} {l : Nat} {o o' : Obj} (h : SetX w c pre W) (hw : w.heap.size ≤ l) (hl : W.heap[l]? = some o) (ho : o.isCells = false) : SetX w c pre (W.putObj l o') := by
  obtain ⟨h1, h2, h3, h6⟩ := h
  exact ⟨h1, h2, (heap_put_cells hl ho h3).trans h3, h6.grown (grownBy_putObj' _ _ _) h6.size (fun k e => by cases e; exact hw)⟩
theorem SetI.box {w : World} {kd : Int} {pre : List (List UInt8)} {W : World} {v : Value} (h : SetI w kd pre W) : SetI w kd pre (W.setCell ⟨w.heap.size + 2, 0, none⟩ v) := by
  obtain ⟨ns, u, h1, h2, h3, h4, h5, h6⟩ := h
  refine ⟨ns, u, h1, h2, (heap_set_ne (show w.heap.size ≠ w.heap.size + 2 by omega)).trans h3, (heap_set_ne (show w.heap.size + 1 ≠ w.heap.size + 2 by omega)).trans h4, ⟨by simpa using h5.1, row_congr h5.2 fun j hj => heap_set_ne ?_⟩, h6.setCell (show w.heap.size ≤ w.heap.size + 2 by omega) _⟩
  have := (h5.lt j hj).1
  omega
theorem SetI.alloc {w : World} {kd : Int} {pre : List (List UInt8)} {W : World} (o : Obj) (h : SetI w kd pre W) : SetI w kd pre (W.alloc o) := by
  obtain ⟨ns, u, h1, h2, h3, h4, h5, h6⟩ := h
  exact ⟨ns, u, h1, h2, (Below.heap_alloc _ _ _ (lt_block h3)).trans h3, (Below.heap_alloc _ _ _ (lt_block h4)).trans h4, h5.below (below_alloc _ _), below_then h6 (below_alloc _ _)⟩
theorem append_intIn {F : Fence} {n : Nat} {w : World} {ops : Array Oper} {rest : List Oper} {o : Oper} {a : Act} {Q : Exit → Act → World → Prop} (hgd : o.guard = none) (s x : Operand)
    (ho : o.op = .call { callee := .builtin .append, args := #[s, x], argTypes := #[34, 34] }) (B : Nat) (hB : B ≤ w.heap.size)
    (v : Value) (l : List Int) (hs : a.eval s = v) (hown : OwnI B w v l) (c : Nat) (y : Int) (hx : a.eval x = .slice (some ⟨c, 0, none⟩) 1 1) (hc : w.cell? ⟨c, 0, none⟩ = some (.int .i64 y)) (hlen : l.length ≤ 2000000)
    (h : ∀ v' w', OwnI B w' v' (l ++ [y]) → Below B w w' → KeepsOthers w w' → w.grownBy w' v.ownBlock → wpListIn F n Tryz.prog ops Q rest (a.put o.dst v') w') : wpListIn F n Tryz.prog ops Q (o :: rest) a w := by
  obtain ⟨i0, hi, hz0, hz1, hz2⟩ := infoE_parts info3
  refine wpListIn_append_own _ hgd s x 34 ho B 3 i0 (.int .i64 0) 1 8 Tryz.underlying34 hi hz0 hz1 hz2 rfl (by decide) v l.length (ints l) hs hown.2 ⟨c, 0, none⟩ 1 1 (ints [y]) hx rfl (fun j u hj => ?_) (ints_one [y]) (by unfold maxLen; omega) (by omega) hB fun v' w' h1 h2 _ => h v' w' ⟨?_, ?_⟩ ?_ ?_ h2
  · match j, hj with
    | 0, hj => simp [ints] at hj; subst hj; rw [Addr.add_lit]; exact hc
    | j + 1, hj => simp [ints] at hj
  · exact Nat.le_trans hB h2.size
  · rw [ints_app, List.length_append]; exact h1
  · exact (Below.refl _ w).grown h2 hB (fun k hk => (hown.lt k hk).1)
  · exact KeepsOthers.of_grownBy h2 fun j o hj ho => by
      obtain ⟨cs, t, f, hc⟩ := hown.cellsB hj
      rw [hc] at ho; cases ho; rfl
/-- what a step of the reader answers and leaves -/
def SetP (B b : Nat) (r : Option Rs) (ok : Bool) (w' : World) : Prop := match r with
  | none => ok = false
  | some st' => ok = true ∧ ∃ v', RdrI B b v' st' w'
theorem set_any (B b : Nat) (kd : Int) (c0 : UInt8) (wd : List UInt8) (e : UInt8) (v : Value) (st : Rs) (w : World) (hr : RdrI B b v st w) (hl : wd.length ≤ 1000000) (hp : st.1.length ≤ 1000000) :
    Calls Tryz.prog 91 #[.pointer (some ⟨b, 0, none⟩), .int .i64 kd, .string (bs (c0 :: wd)), .string ⟨#[e]⟩] w fun en w' => ∃ ok, en = .returned (.bool ok) ∧ Below B w w' ∧ SetP B b (setR kd (c0 :: wd) e st) ok w' := by
  have HCS := Lib.hid (cutsuf wd e (w.alloc (.cells #[.bool false] 4)) (by omega))
  have hx : (bs (c0 :: wd)).extract 1 (bs (c0 :: wd)).size = bs wd := by rw [ext_drop]; rfl
  have hsz : (bs (c0 :: wd)).size = wd.length + 1 := by rw [bs_size]; rfl
  have HSR : Hid (setR kd (c0 :: wd) e st = match nums (T.parts 44 (Lib.trimSuffix wd [e])) with | none => none | some l => if Lib.hasSuffix wd [e] then some (st.1 ++ [⟨kd, l⟩], st.2) else none) := rfl
  generalize setR kd (c0 :: wd) e st = SR at *
  have HIL : Hid ((Lib.trimSuffix wd [e]).length ≤ 1000000) := by
    show _ ≤ _
    unfold Lib.trimSuffix
    split
    · rw [List.length_take]; omega
    · exact hl
  generalize Lib.trimSuffix wd [e] = inn at *
  generalize Lib.hasSuffix wd [e] = cl at *
  obtain ⟨S, hS⟩ : ∃ S, bs (c0 :: wd) = S := ⟨_, rfl⟩
  rw [hS] at hx hsz ⊢
  have hs1 : (1 : Int) ≤ (S.size : Int) := by omega
  have HR := Lib.hid hr
  have HP := Lib.hid hp
  have HL := Lib.hid hl
  clear hr hp hl hS hsz
  refine (callsIn_wide (n := 4)).1 ?_
  refine callsIn_of_wp_marks Tryz.func91 rfl trivial ?_ rfl
  simp only [Tryz.ntmps91, List.size_toArray, List.length_cons, List.length_nil, Nat.reduceAdd, Nat.reduceSub, Array.replicate_succ, Array.replicate_zero, List.push_toArray, List.append_toArray, List.nil_append, List.cons_append]
  refine wpIn_wide.2 ?_
  go_wp2_with fail
  go_at_call 104
  refine HCS.out.mono ?_
  rintro en w1 ⟨rfl, rfl⟩
  clear HCS
  go_wp2_with fail
  have HXF : Hid (Below w.heap.size w ((w.alloc (.cells #[.bool false] 4)).alloc (.cells #[.int .i64 kd, .slice none 0 0] 46)) ∧ ((w.alloc (.cells #[.bool false] 4)).alloc (.cells #[.int .i64 kd, .slice none 0 0] 46)).heap.size = w.heap.size + 2 ∧ ((w.alloc (.cells #[.bool false] 4)).alloc (.cells #[.int .i64 kd, .slice none 0 0] 46)).heap[w.heap.size]? = some (.cells #[.bool false] 4 (0, 0)) ∧ ((w.alloc (.cells #[.bool false] 4)).alloc (.cells #[.int .i64 kd, .slice none 0 0] 46)).heap[w.heap.size + 1]? = some (.cells #[.int .i64 kd, .slice none 0 0] 46 (0, 0))) := by
    refine ⟨below_then (below_alloc _ _) (below_alloc _ _), by simp, (Below.heap_alloc _ _ _ (by simp)).trans (World.alloc_heap_new w _), ?_⟩
    have := World.alloc_heap_new (w.alloc (.cells #[.bool false] 4)) (.cells #[.int .i64 kd, .slice none 0 0] 46)
    rwa [World.size_alloc] at this
  have HSP := Lib.hid (splitseq inn 44 ((w.alloc (.cells #[.bool false] 4)).alloc (.cells #[.int .i64 kd, .slice none 0 0] 46)))
  generalize ((w.alloc (.cells #[.bool false] 4)).alloc (.cells #[.int .i64 kd, .slice none 0 0] 46)) = X at *
  have hXs := HXF.out.2.1
  rw [hXs] at HSP
  go_at_call 105
  refine HSP.out.mono ?_
  rintro en w2 ⟨rfl, rfl⟩
  clear HSP
  have HY : Hid (Below X.heap.size X (((X.alloc (.cells #[.string (bs inn)] 9)).alloc (.cells #[.string ⟨#[44]⟩] 9)).alloc (.cells #[.int .i64 0] 3)) ∧ (((X.alloc (.cells #[.string (bs inn)] 9)).alloc (.cells #[.string ⟨#[44]⟩] 9)).alloc (.cells #[.int .i64 0] 3)).heap.size = w.heap.size + 5 ∧ Bx (w.heap.size + 2) 44 inn (((X.alloc (.cells #[.string (bs inn)] 9)).alloc (.cells #[.string ⟨#[44]⟩] 9)).alloc (.cells #[.int .i64 0] 3))) := by
    have g0 : (((X.alloc (.cells #[.string (bs inn)] 9)).alloc (.cells #[.string ⟨#[44]⟩] 9)).alloc (.cells #[.int .i64 0] 3)).heap[w.heap.size + 2]? = some (.cells #[.string (bs inn)] 9 (0, 0)) := by
      rw [← hXs]
      exact (Below.heap_alloc _ _ _ (by simp; omega)).trans ((Below.heap_alloc _ _ _ (by simp)).trans (World.alloc_heap_new X _))
    have g1 : (((X.alloc (.cells #[.string (bs inn)] 9)).alloc (.cells #[.string ⟨#[44]⟩] 9)).alloc (.cells #[.int .i64 0] 3)).heap[w.heap.size + 2 + 1]? = some (.cells #[.string ⟨#[44]⟩] 9 (0, 0)) := by
      rw [← hXs]
      refine (Below.heap_alloc _ _ _ (by simp)).trans ?_
      have := World.alloc_heap_new (X.alloc (.cells #[.string (bs inn)] 9)) (.cells #[.string ⟨#[44]⟩] 9)
      rwa [World.size_alloc] at this
    have g2 : (((X.alloc (.cells #[.string (bs inn)] 9)).alloc (.cells #[.string ⟨#[44]⟩] 9)).alloc (.cells #[.int .i64 0] 3)).heap[w.heap.size + 2 + 2]? = some (.cells #[.int .i64 0] 3 (0, 0)) := by
      rw [← hXs]
      have := World.alloc_heap_new ((X.alloc (.cells #[.string (bs inn)] 9)).alloc (.cells #[.string ⟨#[44]⟩] 9)) (.cells #[.int .i64 0] 3)
      rwa [World.size_alloc, World.size_alloc] at this
    exact ⟨below_then (below_alloc _ _) (below_then (below_alloc _ _) (below_alloc _ _)), by simp; omega, ⟨cell_of g0 rfl, cell_of g1 rfl, cell_of g2 rfl, free_of g0 _⟩⟩
  generalize (((X.alloc (.cells #[.string (bs inn)] 9)).alloc (.cells #[.string ⟨#[44]⟩] 9)).alloc (.cells #[.int .i64 0] 3)) = Y at *
  go_wp2_with fail
  have HNB : Hid (∀ (x : List UInt8) (W : World), x.length ≤ 1000000 → Calls Tryz.prog 106 #[.string (bs x), .int .i64 4294967295] W fun en w' => en = .returned (.tuple #[.int .i64 (T.number x 4294967295).1, .int .i64 (T.number x 4294967295).2]) ∧ w' = W) := fun x W hx => by
    have := number_any (bs x) 4294967295 W (by rw [bs_size]; omega) (by constructor <;> omega)
    rw [bs_data] at this
    exact this.mono fun en w' ⟨h1, h2⟩ => ⟨h1, h2.symm⟩
  have hYs := HY.out.2.1
  have HYB := Lib.hid (below_then HXF.out.1 HY.out.1)
  refine (wpIn_wide (n := 4)).1 ?_
  refine range_box (F := Fence.wide) (n := 4) rfl (by decide) (gf := 145) (lb := #[.pointer (some ⟨w.heap.size + 2 + 1, 0, none⟩), .pointer (some ⟨w.heap.size + 2, 0, none⟩), .pointer (some ⟨w.heap.size + 2 + 2, 0, none⟩)]) rfl trivial (enters_of Tryz.func145 (by kernel_rfl) rfl)
    (encs := fun x : List UInt8 => #[.string (bs x)]) (fun _ => rfl) (w.heap.size + 2) (by omega) (fun xs => xs = T.parts 44 inn) (fun pre => pre <+: T.parts 44 inn) (fun pre => pre <+: T.parts 44 inn)
    (fun l J Jx W hk hJs hY hJ0 => iter_any 44 inn (by have := HIL.out; omega) 3 l (w.heap.size + 2) (by decide) J Jx W hJs hY (HY.out.2.2.keep hk) hJ0)
    (SetI w kd) (SetX w)
    (fun s W l o o' h hw hl ho => SetI.putObj h (by omega) hl ho) (fun c s W l o o' h hw hl ho => SetX.putObj h (by omega) hl ho) (fun s W v h => h.box) (fun s W o h => h.alloc o)
    ⟨[], .slice none 0 0, rfl, Nat.le_refl _, (HY.out.1.block _ (by omega)).trans HXF.out.2.2.1, (HY.out.1.block _ (by omega)).trans HXF.out.2.2.2, OwnI.nil _ _ (by omega), HYB.out⟩
    (fun x => { tmps := #[.pointer (some ⟨b, 0, none⟩), .int .i64 kd, .string S, .string ⟨#[e]⟩, undef, undef, undef, undef, .pointer (some ⟨w.heap.size, 0, none⟩), .string (bs inn), .bool cl, .pointer (some ⟨w.heap.size + 1, 0, none⟩), .string (bs x), undef, undef, .tuple #[.string (bs inn), .bool cl], .string S, .string (bs wd), .string ⟨#[e]⟩, .tuple #[.string (bs inn), .bool cl], .string (bs inn), .bool cl, .int .i64 kd, .agg #[.int .i64 kd, .slice none 0 0], .string (bs inn), .func (.func 145) #[] #[.pointer (some ⟨w.heap.size + 2 + 1, 0, none⟩), .pointer (some ⟨w.heap.size + 2, 0, none⟩), .pointer (some ⟨w.heap.size + 2 + 2, 0, none⟩)], .string (bs x), undef, undef, undef, undef, undef, undef, undef, undef, undef, undef, undef, undef, undef, undef, undef, undef, undef, undef, undef, undef, undef, undef, undef, undef], defers := [] }) ?assign ?body ?done ?stop
  case assign =>
    intro l x W K hK
    gi_wp2
    exact hK
  case body =>
    rintro l pre x W ⟨ns, u, h1, h2, h3, h4, h5, h6⟩ hpre
    have hxl : x.length ≤ 1000000 := by
      obtain ⟨t, ht⟩ := hpre
      have : x ∈ T.parts 44 inn := by rw [← ht]; simp
      have := parts_mem_len 44 inn x this
      have := HIL.out
      omega
    have hpl : pre.length ≤ 1000001 := by
      obtain ⟨t, ht⟩ := hpre
      have h1 := T.parts_len 44 inn
      rw [← ht] at h1
      simp at h1
      have := HIL.out
      omega
    have HN := Lib.hid (HNB.out x W hxl)
    have HSN := Lib.hid (fun h0 => nums_snoc (x := x) h1 h0)
    have HBAD : Hid ((T.number x 4294967295).2 ≠ 0 → ∃ y ∈ pre ++ [x], (T.number y 4294967295).2 ≠ 0) := fun h => ⟨x, by simp, h⟩
    generalize (T.number x 4294967295).1 = nv at *
    generalize (T.number x 4294967295).2 = er at *
    have H3 := Lib.hid h3
    have H4 := Lib.hid h4
    have H5 := Lib.hid h5
    have H6 := Lib.hid h6
    have b0 : W.cell? ⟨w.heap.size, 0, none⟩ = some (.bool false) := cell_of h3 rfl
    have b1 : W.frozen? ⟨w.heap.size, 0, none⟩ = false := free_of h3 _
    have c1 : W.cell? ⟨w.heap.size + 1, 1, none⟩ = some u := cell_of h4 rfl
    have c2 : W.frozen? ⟨w.heap.size + 1, 1, none⟩ = false := free_of h4 _
    have hnl : ns.length ≤ 2000000 := by omega
    have HNL : Hid (ns.length + 1 ≤ (pre ++ [x]).length) := by show _ ≤ _; simp; omega
    have hWs : w.heap.size + 5 ≤ W.heap.size := h5.1
    clear h1 h2 h3 h4 h5 h6 hpre hxl hpl HNB
    gi_wp2
    refine ⟨trivial, ?_⟩
    refine (CallsIn.inRound l (callsIn_wide.2 HN.out)).mono ?_
    rintro en W1 ⟨rfl, rfl⟩
    by_cases he : er = 0
    · subst he
      have HS2 := Lib.hid (HSN.out rfl)
      have A1 : Hid (w.heap.size + 5 ≤ (W1.alloc (.cells #[.int .i64 nv] 3)).heap.size) := by show _ ≤ _; simp; omega
      have A2 : Hid (OwnI (w.heap.size + 5) (W1.alloc (.cells #[.int .i64 nv] 3)) u ns) := H5.out.below (below_alloc _ _)
      have A3 : Hid ((W1.alloc (.cells #[.int .i64 nv] 3)).cell? ⟨W1.heap.size, 0, none⟩ = some (.int .i64 nv)) := cell_of (heap_alloc_new _ _) rfl
      have A4 : Hid (Below (w.heap.size + 5) W1 (W1.alloc (.cells #[.int .i64 nv] 3))) := (below_alloc W1 _).mono hWs
      have A5 : Hid (KeepsOthers W1 (W1.alloc (.cells #[.int .i64 nv] 3))) := KeepsOthers.alloc _ _
      clear HSN HBAD HN
      gi_wp2_with (gi_at_builtin; refine append_intIn rfl (.tmp 35) (.tmp 37) rfl (w.heap.size + 5) A1.out u ns rfl A2.out W1.heap.size nv rfl A3.out hnl ?_; intro v' W2 hown hb hko hgr; have B1 := Lib.hid hown; have B2 : Hid (Below (w.heap.size + 5) W1 W2) := A4.out.trans hb; have B3 : Hid (KeepsOthers W1 W2) := A5.out.trans hko; have b4 : W2.cell? ⟨w.heap.size + 1, 1, none⟩ = some u := (B2.out.cell (p := ⟨w.heap.size + 1, 1, none⟩) (show w.heap.size + 1 < w.heap.size + 5 by omega)).trans c1; have b5 : W2.frozen? ⟨w.heap.size + 1, 1, none⟩ = false := (B2.out.frozen (p := ⟨w.heap.size + 1, 1, none⟩) (show w.heap.size + 1 < w.heap.size + 5 by omega)).trans c2; obtain ⟨va, vc, hvf⟩ := hown.rd.form; rw [show (ns ++ [nv]).length = ns.length + 1 by simp] at hvf; subst hvf; clear hown hb hko hgr)
      have k4 : W2.heap[w.heap.size + 1]? = some (.cells #[.int .i64 kd, u] 46 (0, 0)) := (B2.out.block _ (by omega)).trans H4.out
      have k5 := heap_set_eq (o := 1) (u := .slice va (ns.length + 1) vc) k4
      refine ⟨B3.out.trans (KeepsOthers.setCell _ _ _), fun k hk => (heap_set_ne (by omega)).trans (B2.out.block k (by omega)), ns ++ [nv], _, HS2.out, by have := HNL.out; simp at this ⊢; omega, (heap_set_ne (show w.heap.size ≠ w.heap.size + 1 by omega)).trans ((B2.out.block _ (by omega)).trans H3.out), by simpa using k5, ⟨by have := B1.out.1; simpa using this, row_congr B1.out.2 fun j hj => heap_set_ne (by have := (B1.out.lt j hj).1; omega)⟩, (H6.out.trans (B2.out.mono (by omega))).setCell (show w.heap.size ≤ w.heap.size + 1 by omega) _⟩
    · have e1 : (er != 0) = true := by simpa using he
      have HX := Lib.hid (HBAD.out he)
      clear HSN HBAD HN he
      gi_wp2
      have k3 := heap_set_eq (o := 0) (u := .bool false) H3.out
      exact ⟨KeepsOthers.setCell _ _ _, rfl, HX.out, by simpa using k3, H6.out.setCell (Nat.le_refl _) _⟩
  case done =>
    rintro D xs W rfl ⟨ns, u, h1, h2, h3, h4, h5, h6⟩ hK hD
    obtain ⟨p, en⟩ := st
    dsimp only at HP HSR
    obtain ⟨N, hN⟩ : ∃ N, p.length = N := ⟨_, rfl⟩
    obtain ⟨q, HQ, HOWN⟩ : ∃ q, Hid ((v = .slice none 0 0 ∧ q = [] ∧ p = []) ∨ ∃ g cap, v = .slice (some ⟨g, 0, none⟩) p.length cap ∧ B ≤ g ∧ g < w.heap.size ∧ g ≠ b ∧ NumsR B g b w q p) ∧ Hid (w.ownsRow B 46 2 v p.length (flatQ q)) := by
      rcases HR.out.row with ⟨e1, e2⟩ | ⟨g, cap, q, e, ho, hg, hn⟩
      · exact ⟨[], .inl ⟨e1, rfl, e2⟩, by dsimp only at e2; rw [e1, e2]; exact World.ownsRow_nil _ _ _ _⟩
      · obtain ⟨l1, l2⟩ := ownsRow_lt (e ▸ ho)
        exact ⟨q, .inr ⟨g, cap, e, l1, l2, hg, hn⟩, ho⟩
    have HB0 := Lib.hid HR.out.lo
    have HROW := Lib.hid HR.out.row
    have HBK := Lib.hid HR.out.blk
    dsimp only at HROW HBK
    have HSR2 : Hid (SR = if cl then some (p ++ [⟨kd, ns⟩], en) else none) := by show _ = _; rw [HSR.out, h1]
    have HBW : Hid (Below w.heap.size w W) := h6
    have kb : W.heap[b]? = some (.cells #[v, .bool en] 70 (0, 0)) := (h6.block b HB0.out.2).trans HBK.out
    obtain ⟨ua, uc, hf⟩ := h5.rd.form
    subst hf
    obtain ⟨U, hU⟩ : ∃ U, ns.length = U := ⟨_, rfl⟩
    rw [hU] at h4 h5
    have HS : Hid (∀ (W' : World), W'.heap[b]? = W.heap[b]? → W'.heap[w.heap.size + 1]? = W.heap[w.heap.size + 1]? → W'.cell? ⟨b, 0, none⟩ = some v ∧ W'.frozen? ⟨b, 0, none⟩ = false ∧ W'.cell? ⟨w.heap.size + 1, 0, none⟩ = some (.int .i64 kd) ∧ W'.cell? ⟨w.heap.size + 1, 1, none⟩ = some (.slice ua U uc)) := fun W' e1 e2 => by
      rw [kb] at e1
      rw [h4] at e2
      exact ⟨cell_of e1 rfl, free_of e1 _, cell_of e2 rfl, cell_of e2 rfl⟩
    have hbW : b < W.heap.size := lt_block kb
    have hcW : w.heap.size + 1 < W.heap.size := lt_block h4
    obtain ⟨i0, hi, hz0, hz1, hz2⟩ := infoE_parts info46
    have hWw := HBW.out.size
    have HBa : Hid (Below w.heap.size w (W.drew.alloc (.cells #[.int .i64 kd, .slice ua U uc] 46))) := below_then HBW.out ((Below.refl _ W).drew.alloc (Nat.le_refl _) _)
    have hS0 := HS.out W rfl rfl
    have hSd := HS.out W.drew rfl rfl
    have hSa := HS.out (W.drew.alloc (.cells #[.int .i64 kd, .slice ua U uc] 46)) (Below.heap_alloc _ _ _ hbW) (Below.heap_alloc _ _ _ hcW)
    have HOW : Hid ((W.drew.alloc (.cells #[.int .i64 kd, .slice ua U uc] 46)).ownsRow B 46 2 v N (flatQ q)) := by rw [hN] at HOWN; exact row_below HOWN.out HBa.out
    have HCE : Hid (∀ j x, [Value.int .i64 kd, .slice ua U uc][j]? = some x → (W.drew.alloc (.cells #[.int .i64 kd, .slice ua U uc] 46)).cell? ((⟨W.heap.size, 0, none⟩ : Addr).add j) = some x) := fun j x hj => by
      have hnew : (W.drew.alloc (.cells #[.int .i64 kd, .slice ua U uc] 46)).heap[W.heap.size]? = some (.cells #[.int .i64 kd, .slice ua U uc] 46 (0, 0)) := World.alloc_heap_new W.drew _
      match j, hj with
      | 0, hj => simp at hj; subst hj; rw [Addr.add_lit]; exact cell_of hnew rfl
      | 1, hj => simp at hj; subst hj; rw [Addr.add_lit]; exact cell_of hnew rfl
      | j + 2, hj => simp at hj
    have HON : Hid (∀ x ∈ [Value.int .i64 kd, .slice ua U uc], x.oneCell' = true) := fun x hx => by
      simp at hx
      rcases hx with rfl | rfl <;> rfl
    have hpN : p.length ≤ 1000000 := HP.out
    have HMX : Hid (N + 1 ≤ maxLen) := by show _ ≤ _; unfold maxLen; omega
    have HBY : Hid ((N + 1) * 32 ≤ 140737488355328) := by show _ ≤ _; omega
    have HBB : Hid (B ≤ (W.drew.alloc (.cells #[.int .i64 kd, .slice ua U uc] 46)).heap.size) := by show _ ≤ _; have := HB0.out; have := HBa.out.size; omega
    have HPU : Hid (∀ (w12 : World) (g' cap' : Nat), w12.ownsRow B 46 2 (.slice (some ⟨g', 0, none⟩) (N + 1) cap') (N + 1) (flatQ q ++ [.int .i64 kd, .slice ua U uc]) → (W.drew.alloc (.cells #[.int .i64 kd, .slice ua U uc] 46)).grownBy w12 v.ownBlock → (v.ownBlock = some g' ∨ g' = (W.drew.alloc (.cells #[.int .i64 kd, .slice ua U uc] 46)).heap.size) →
        RowR B b (.slice (some ⟨g', 0, none⟩) (N + 1) cap') (p ++ [⟨kd, ns⟩]) w12 ∧ w12.heap[b]? = W.heap[b]? ∧ w12.heap[w.heap.size + 1]? = W.heap[w.heap.size + 1]? ∧ w12.heap[w.heap.size]? = W.heap[w.heap.size]? ∧ Below B w w12 ∧ (∀ (k : Nat) (o : Obj), W.heap[k]? = some o → o.isCells = false → w12.heap[k]? = some o)) := fun w12 g' cap' a1 a2 a3 => by
      have hou : OwnI (w.heap.size + 5) (W.drew.alloc (.cells #[.int .i64 kd, .slice ua U uc] 46)) (.slice ua U uc) ns := h5.below ((Below.refl _ W).drew.alloc (Nat.le_refl _) _)
      have hvb : ∀ k, v.ownBlock = some k → k < w.heap.size ∧ B ≤ k ∧ k ≠ b := fun k hk => by
        rcases HQ.out with ⟨e, _⟩ | ⟨g, cap, e, hBg, hg, hgb, _⟩
        · rw [e] at hk; cases hk
        · rw [e] at hk; cases hk; exact ⟨hg, hBg, hgb⟩
      have hold : ∀ k, k < W.heap.size → v.ownBlock ≠ some k → w12.heap[k]? = W.heap[k]? := fun k hk hne => by
        have h1 : (W.drew.alloc (.cells #[.int .i64 kd, .slice ua U uc] 46)).heap[k]? = W.heap[k]? := Below.heap_alloc W.drew _ k hk
        rw [← h1]
        exact a2.block k (by simp; omega) (fun e => hne e.symm)
      refine ⟨by subst hN; exact RowR.push (w0 := w) HROW.out HQ.out HB0.out.2 (by have := HB0.out; omega) HBa.out (by omega) hou a1 a2 a3, hold b hbW (fun e => (hvb b e).2.2 rfl), hold _ hcW (fun e => by have := (hvb _ e).1; omega), hold _ (by omega) (fun e => by have := (hvb _ e).1; omega), ?_, fun k o hk ho => ?_⟩
      · exact (HBa.out.mono (by have := HB0.out; omega)).grown a2 (by have := HB0.out; have := HBa.out.size; omega) (fun k e => (hvb k e).2.1)
      · rw [← hk]
        refine hold k (lt_block hk) (fun e => ?_)
        have hlt := (hvb k e).1
        have := (HBW.out.block k hlt)
        rcases HQ.out with ⟨e2, _⟩ | ⟨g, cap, e2, _⟩
        · rw [e2] at e; cases e
        · rcases HOWN.out.2 with ⟨e3, _⟩ | ⟨g3, cap3, cur, e3, _, hg3, _⟩
          · rw [e2] at e3; cases e3
          · rw [e3] at e; cases e
            rw [hk, hg3] at this
            cases this
            cases ho
    have hx0 : W.cell? ⟨w.heap.size, 0, none⟩ = some (.bool false) := cell_of h3 rfl
    have H3 := Lib.hid h3
    have HK := Lib.hid hK
    have HD := Lib.hid hD
    have HBn : Hid (b ≠ w.heap.size ∧ b ≠ w.heap.size + 1) := by have := HB0.out.2; constructor <;> omega
    clear h1 h2 h3 h5 h6 HSR HQ HOWN HROW HR hK hD hN
    go_wp2_with fail
    have y0 := hS0.1
    have y1 := hS0.2.1
    have y2 := hS0.2.2.1
    have y3 := hS0.2.2.2
    have ya0 := hSa.1
    have ya1 := hSa.2.1
    refine wp_region_noPanic ?_
    go_region_law ((refine step_append_lies _ (by rfl) (.tmp 44) (.tmp 46) 22 (by rfl) B 46 i0 (.agg #[.int .i64 0, .slice none 0 0]) 2 32 Tryz.underlying22 hi hz0 hz1 hz2 rfl (by decide) v N (flatQ q) (by rfl) HOW.out ⟨W.heap.size, 0, none⟩ 1 1 [.int .i64 kd, .slice ua U uc] (by rfl) rfl HCE.out HON.out (by decide) HMX.out HBY.out HBB.out _ rfl ?_; intro g' cap' w12 a1 a2 a3 a4; have HPP := Lib.hid (HPU.out w12 g' cap' a1 a2 a3); have q12 := (HS.out w12 HPP.out.2.1 HPP.out.2.2.1).1; have q13 := (HS.out w12 HPP.out.2.1 HPP.out.2.2.1).2.1; clear a1 a2 a3 a4))
    all_goals refine NoPanic.normal ?_
    all_goals (
      obtain ⟨V', hV'⟩ : ∃ V', Value.slice (some ⟨g', 0, none⟩) (N + 1) cap' = V' := ⟨_, rfl⟩
      rw [hV'] at HPP
      have hp2 : w12.heap[w.heap.size]? = some (.cells #[.bool false] 4 (0, 0)) := HPP.out.2.2.2.1.trans H3.out
      have hp3 : (w12.setCell ⟨b, 0, none⟩ V').heap[w.heap.size]? = some (.cells #[.bool false] 4 (0, 0)) := (heap_set_ne HBn.out.1.symm).trans hp2
      have t0 : (w12.setCell ⟨b, 0, none⟩ V').cell? ⟨w.heap.size, 0, none⟩ = some (.bool false) := cell_of hp3 rfl
      have t1 : (w12.setCell ⟨b, 0, none⟩ V').frozen? ⟨w.heap.size, 0, none⟩ = false := free_of hp3 _
      have hD12 : w12.heap[D]? = some (.deferred (some [])) := HPP.out.2.2.2.2.2 D _ HK.out rfl
      have hbk : (w12.setCell ⟨b, 0, none⟩ V').heap[b]? = some (.cells #[V', .bool en] 70 (0, 0)) := by
        have := heap_set_eq (o := 0) (u := V') (HPP.out.2.1.trans kb)
        simpa using this
      have hDb : D ≠ b ∧ D ≠ w.heap.size := by have := HD.out; have := hYs; have := HB0.out.2; constructor <;> omega
      have HFin : Hid (∀ x, (((w12.setCell ⟨b, 0, none⟩ V').setCell ⟨w.heap.size, 0, none⟩ (.bool x)).heap[D]? = some (.deferred (some []))) ∧
          (((w12.setCell ⟨b, 0, none⟩ V').setCell ⟨w.heap.size, 0, none⟩ (.bool x)).putObj D (.deferred none)).cell? ⟨w.heap.size, 0, none⟩ = some (.bool x) ∧
          Below B w (((w12.setCell ⟨b, 0, none⟩ V').setCell ⟨w.heap.size, 0, none⟩ (.bool x)).putObj D (.deferred none)) ∧
          RdrI B b V' (p ++ [⟨kd, ns⟩], en) (((w12.setCell ⟨b, 0, none⟩ V').setCell ⟨w.heap.size, 0, none⟩ (.bool x)).putObj D (.deferred none))) := fun x => by
        obtain ⟨Z, hZ⟩ : ∃ Z, (w12.setCell ⟨b, 0, none⟩ V').setCell ⟨w.heap.size, 0, none⟩ (.bool x) = Z := ⟨_, rfl⟩
        have hz1 : Z.heap[D]? = some (.deferred (some [])) := by rw [← hZ]; exact (heap_set_ne hDb.2).trans ((heap_set_ne hDb.1).trans hD12)
        have hz2 : Z.heap[w.heap.size]? = some (.cells #[.bool x] 4 (0, 0)) := by
          have := heap_set_eq (o := 0) (u := .bool x) hp3
          rw [hZ] at this
          simpa using this
        have hz3 : Z.heap[b]? = some (.cells #[V', .bool en] 70 (0, 0)) := by rw [← hZ]; exact (heap_set_ne HBn.out.1).trans hbk
        have hzz : Below B w Z := by rw [← hZ]; exact (HPP.out.2.2.2.2.1.setCell HB0.out.1 _).setCell (show B ≤ w.heap.size by have := HB0.out; omega) _
        rw [hZ]
        refine ⟨hz1, cell_of ((heap_put_cells hz1 rfl hz2).trans hz2) rfl, hzz.grown (grownBy_putObj' _ _ _) (by have := HB0.out; have := hzz.size; omega) (fun k e => by cases e; have := HD.out; have := HB0.out; have := hYs; omega), ⟨HB0.out.1, by have := hzz.size; have := lt_block hz3; simpa using this⟩, (heap_put_cells hz1 rfl hz3).trans hz3, ?_⟩
        refine (HPP.out.1.set (o := 0) (u := V')).move (j := w.heap.size) ⟨⟨_, hp3⟩, by rw [← hZ]; simp, fun k cs t f hk hne => ?_⟩
        have h1 : Z.heap[k]? = (w12.setCell ⟨b, 0, none⟩ V').heap[k]? := by rw [← hZ]; exact heap_set_ne hne
        exact (heap_put_cells hz1 rfl (h1.trans hk)).trans h1
      rw [hV']
      clear HPP hp2 hp3 hD12 hbk hDb y0 y1 y2 y3 ya0 ya1 hS0 hSd hSa HOW HCE HPU kb h4 hV' q12 q13
      go_wp2
      refine ⟨by simp, .inl ⟨_, _, rfl, run_takeDeferred (HFin.out cl).1, ?_⟩⟩
      have hc5 := (HFin.out cl).2.1
      refine ⟨.bool cl, ?_, ?_⟩
      · simp [results, Tryz.f91, go_sem, hc5]
      · refine ⟨cl, rfl, (HFin.out cl).2.2.1, ?_⟩
        rw [HSR2.out]
        cases cl with
        | false => exact rfl
        | true => exact ⟨rfl, V', (HFin.out true).2.2.2⟩)
  case stop =>
    rintro D c pre W hSp ⟨rfl, ⟨x, hx, hbad⟩, h3, h6⟩ hK hD
    have HF : Hid (SR = none) := by
      obtain ⟨t, ht⟩ := hSp
      have : x ∈ T.parts 44 inn := by rw [← ht]; simp [hx]
      show _ = _
      rw [HSR.out, nums_bad this hbad]
    have hc5 : (W.putObj D (.deferred none)).cell? ⟨w.heap.size, 0, none⟩ = some (.bool false) := cell_of ((heap_put_cells hK rfl h3).trans h3) rfl
    have HZ : Hid (Below B w (W.putObj D (.deferred none))) := (h6.grown (grownBy_putObj' _ _ _) h6.size (fun k e => by cases e; omega)).mono (by have := HR.out.lo; omega)
    clear hx hbad h3 h6
    gi_wp2
    refine ⟨by simp, .inl ⟨_, _, rfl, run_takeDeferred hK, ?_⟩⟩
    refine ⟨.bool false, ?_, ?_⟩
    · simp [results, Tryz.f91, go_sem, hc5]
    · exact ⟨false, rfl, HZ.out, by rw [HF.out]; exact rfl⟩
end Go.Proofs.YtiobfgcpbihbhaaGreatDoor
