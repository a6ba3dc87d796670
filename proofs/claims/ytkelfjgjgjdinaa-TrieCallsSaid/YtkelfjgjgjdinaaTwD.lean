/-
  The walk of the trie's drop.
-/
import Derived.Test.YtkelfjgjgjdinaaTwC
namespace Go.Proofs.Ytkelfjgjgjdinaa
open Go.RowKit
set_option linter.unusedSimpArgs false
set_option linter.unusedVariables false
set_option maxHeartbeats 4000000
set_option maxRecDepth 100000

def DropPost (w : World) (T : Sh) (p : PP) (gs : List Nat) : Ending → World → Prop := fun en w' => ∃ v' gs', en = .returned (.tuple #[v', .bool (dropS T p).2]) ∧ Lies w' (dropS T p).1 v' gs' ∧ gs'.Nodup ∧ (∀ k ∈ gs', k ∈ gs ∨ w.heap.size ≤ k) ∧ Kp gs w w'

theorem drop_nil (b : Nat) (m : Int) (w : World) :
    Calls Try.prog 93 #[.pointer none, .agg #[.int .u32 b, .int .i64 m]] w (DropPost w .nil (b, m) []) := by
  go_enter Try.func93, Try.ntmps93
  go_wp2_with (go_at_call 111; refine (covN_nil b m _).mono ?_; rintro e w1 ⟨rfl, hb1⟩; have B1 := Lib.hid hb1; clear hb1)
  go_ret2
  exact ⟨_, [], rfl, ⟨rfl, rfl⟩, List.nodup_nil, fun k hk => (by cases hk), Kp.of_below (below_then (below_alloc _ _) B1.out)⟩
theorem drop_out {g : Nat} {q : PP} {x : Int} {s : Bool} {c d : Value} {l r : Sh} {gl gr : List Nat} (p : PP) (hq : PV q) (hb : p.1 < 4294967296) (hm : I64 p.2) (w : World) (hnode : IsNode w g q x s c d) (hl : Lies w l c gl) (hr : Lies w r d gr) (nd : (g :: (gl ++ gr)).Nodup) (hc : C q p = false) :
    Calls Try.prog 93 #[.pointer (some ⟨g, 0, none⟩), .agg #[.int .u32 (p.1 : Nat), .int .i64 p.2]] w (DropPost w (.node q x s l r) p (g :: (gl ++ gr))) := by
  have HF : Hid (dropS (.node q x s l r) p = (.node q x s l r, false)) := by unfold Hid; rw [dropS, hc, if_neg (by decide)]
  have HL : Hid (Lies w (.node q x s l r) (.pointer (some ⟨g, 0, none⟩)) (g :: (gl ++ gr))) := ⟨g, c, d, gl, gr, rfl, rfl, hnode, hl, hr⟩
  obtain ⟨b, m⟩ := p
  have hn1 := Lib.hid (hnode.below (below_alloc w (.cells #[.int .u32 (b : Int), .int .i64 m] 28)))
  have HC : Hid (∀ W, IsNode W g q x s c d → Calls Try.prog 111 #[.pointer (some ⟨g, 0, none⟩), .agg #[.int .u32 b, .int .i64 m]] W fun e w' => e = .returned (.bool false) ∧ Below W.heap.size W w') :=
    fun W h => (covN_any hq b hb m hm W h).mono fun _ _ k => ⟨by rw [k.1, hc], k.2⟩
  have HND := Lib.hid nd
  clear hnode hl hr nd hc hq
  go_enter Try.func93, Try.ntmps93
  go_wp2_with (go_at_call 111; refine (HC.out _ hn1.out).mono ?_; rintro e w1 ⟨rfl, hb1⟩; have B1 := Lib.hid hb1; clear hb1)
  go_ret2
  have hb := below_then (below_alloc _ _) B1.out
  exact ⟨_, _, by rw [HF.out]; rfl, by rw [HF.out]; exact HL.out.below hb, HND.out, fun k hk => .inl hk, Kp.of_below hb⟩
theorem drop_hit {g : Nat} {p : PP} {x : Int} {s : Bool} {c d : Value} {l r : Sh} {gl gr : List Nat} (hp : PV p) (w : World) (hnode : IsNode w g p x s c d) (hl : Lies w l c gl) (hr : Lies w r d gr) (nd : (g :: (gl ++ gr)).Nodup) :
    Calls Try.prog 93 #[.pointer (some ⟨g, 0, none⟩), .agg #[.int .u32 (p.1 : Nat), .int .i64 p.2]] w (DropPost w (.node p x s l r) p (g :: (gl ++ gr))) := by
  have HF : Hid (dropS (.node p x s l r) p = (need (.node p 0 false l r), s)) := by unfold Hid; rw [dropS, C_refl hp.2, if_pos rfl, if_pos rfl]
  obtain ⟨u1, rfl⟩ := hl.ptr
  obtain ⟨u2, rfl⟩ := hr.ptr
  have hI := (V_iff _).1 hp.2
  have hc := C_refl hp.2
  obtain ⟨b, m⟩ := p
  have hb : b < 4294967296 := hp.1
  have hm : I64 m := by have h1 := hI.1; have h2 := hI.2.1; dsimp only at h1 h2; constructor <;> omega
  have B0 := Lib.hid (below_alloc w (.cells #[.int .u32 (b : Int), .int .i64 m] 28))
  have hn1 := Lib.hid (hnode.below B0.out)
  have HC : Hid (∀ W, IsNode W g (b, m) x s (.pointer u1) (.pointer u2) → Calls Try.prog 111 #[.pointer (some ⟨g, 0, none⟩), .agg #[.int .u32 b, .int .i64 m]] W fun e w' => e = .returned (.bool true) ∧ Below W.heap.size W w') :=
    fun W h => (covN_any hp b hb m hm W h).mono fun _ _ k => ⟨by rw [k.1, hc], k.2⟩
  have HND := Lib.hid nd
  have HL := Lib.hid hl
  have HR := Lib.hid hr
  clear hnode hl hr nd hc hp hI
  go_enter Try.func93, Try.ntmps93
  go_wp2_with (first
    | (go_at_call 111; refine (HC.out _ hn1.out).mono ?_; rintro e w1 ⟨rfl, hb1⟩
       have N1 := Lib.hid (hn1.out.below hb1)
       have B1 : Hid (Below w.heap.size w w1) := below_then B0.out hb1
       have c0 : w1.cell? ⟨w.heap.size, 0, none⟩ = some (.int .u32 b) := carry hb1 (by simp)
       have c1 : w1.cell? ⟨w.heap.size, 1, none⟩ = some (.int .i64 m) := carry hb1 (by simp)
       obtain ⟨k0, k1, k2, k3, k4, k5⟩ := N1.out.cells
       have hfree := N1.out.free
       clear hb1))
  go_quiet (fail)
  go_wp2_with fail
  have N5 := Lib.hid (((N1.out.drewN nq).set2 (x' := 0)).set3 (s' := false))
  have K5 : Hid (Kp [g] w (((w1.drewN nq).setCell ⟨g, 2, none⟩ (.int .i64 0)).setCell ⟨g, 3, none⟩ (.bool false))) := (((Kp.of_below B1.out).drewN nq).setCell (.inl (by simp))).setCell (.inl (by simp))
  have L5 := Lib.hid (show _ from (⟨g, _, _, gl, gr, rfl, rfl, N5.out, HL.out.kp K5.out (fun k hk hm => (nd_parts HND.out).1 (by simp at hm; exact hm ▸ hk)), HR.out.kp K5.out (fun k hk hm => (nd_parts HND.out).2.1 (by simp at hm; exact hm ▸ hk))⟩ : Lies (((w1.drewN nq).setCell ⟨g, 2, none⟩ (.int .i64 0)).setCell ⟨g, 3, none⟩ (.bool false)) (.node (b, m) 0 false l r) (.pointer (some ⟨g, 0, none⟩)) (g :: (gl ++ gr))))
  go_at_call 114
  refine (need_any _ L5.out).mono ?_
  rintro e w6 ⟨v', gs', rfl, hl6, hs6, hb6⟩
  obtain ⟨u6, rfl⟩ := hl6.ptr
  have X := Lib.hid (And.intro hl6 (And.intro hs6 hb6))
  clear hl6 hs6 hb6
  go_wp2
  go_ret2
  obtain ⟨x1, x2, x3⟩ := X.out
  refine ⟨_, gs', by rw [HF.out]; rfl, by rw [HF.out]; exact x1, x2.nodup HND.out, fun k hk => .inl (x2.subset hk), ((K5.out.mono (fun k hk => by simp at hk; simp [hk])).then x3)⟩

theorem drop_down0 {g : Nat} {q : PP} {x : Int} {s : Bool} {c d : Value} {l r : Sh} {gl gr : List Nat} (p : PP) (hq : PV q) (hb : p.1 < 4294967296) (hm : I64 p.2) (w : World) (hnode : IsNode w g q x s c d) (hl : Lies w l c gl) (hr : Lies w r d gr) (nd : (g :: (gl ++ gr)).Nodup)
    (hne : q ≠ p) (hc : C q p = true) (h0 : atZ p.1 q.2 = 0)
    (ih : ∀ W, Lies W l c gl → Calls Try.prog 93 #[c, .agg #[.int .u32 (p.1 : Nat), .int .i64 p.2]] W (DropPost W l p gl)) :
    Calls Try.prog 93 #[.pointer (some ⟨g, 0, none⟩), .agg #[.int .u32 (p.1 : Nat), .int .i64 p.2]] w (DropPost w (.node q x s l r) p (g :: (gl ++ gr))) := by
  have HF : Hid (dropS (.node q x s l r) p = (need (.node q x s (dropS l p).1 r), (dropS l p).2)) := by
    unfold Hid; rw [dropS, hc, if_pos rfl, if_neg hne, h0]; rfl
  obtain ⟨u1, rfl⟩ := hl.ptr
  obtain ⟨u2, rfl⟩ := hr.ptr
  obtain ⟨b, m⟩ := p
  obtain ⟨a, n⟩ := q
  have hlt := hnode.lt
  have hJ := (V_iff _).1 hq.2
  have hn : I64 n := by have h1 := hJ.1; have h2 := hJ.2.1; dsimp only at h1 h2; constructor <;> omega
  have hs := C_strict hc hne
  dsimp only at hs hb hm
  have hd : (n == m) = false := by simp; omega
  have B0 := Lib.hid (below_alloc w (.cells #[.int .u32 (b : Int), .int .i64 m] 28))
  have H := Lib.hid (hnode.below B0.out)
  have HL := Lib.hid hl
  have HR := Lib.hid hr
  have HND := Lib.hid nd
  have HI := Lib.hid ih
  have HAt := Lib.hid h0
  have HC : Hid (∀ W, IsNode W g (a, n) x s (.pointer u1) (.pointer u2) → Calls Try.prog 111 #[.pointer (some ⟨g, 0, none⟩), .agg #[.int .u32 b, .int .i64 m]] W fun e w' => e = .returned (.bool true) ∧ Below W.heap.size W w') :=
    fun W h => (covN_any hq b hb m hm W h).mono fun _ _ k => ⟨by rw [k.1, hc], k.2⟩
  have hgG : g ∉ gl := (nd_parts nd).1
  have hwG : w.heap.size ∉ gl := fun h => by have := HL.out.lt _ h; omega
  have HGG := Lib.hid hgG
  have HWG := Lib.hid hwG
  clear hnode hq hne hc hJ hl hr nd ih h0 hgG hwG
  go_enter Try.func93, Try.ntmps93
  go_wp2_with (first
    | (go_at_call 111; refine (HC.out _ H.out).mono ?_; rintro e w1 ⟨rfl, hb1⟩
       have N1 := Lib.hid (H.out.below hb1)
       have B1 : Hid (Below w.heap.size w w1) := below_then B0.out hb1
       have c0 : w1.cell? ⟨w.heap.size, 0, none⟩ = some (.int .u32 b) := carry hb1 (by simp)
       have c1 : w1.cell? ⟨w.heap.size, 1, none⟩ = some (.int .i64 m) := carry hb1 (by simp)
       obtain ⟨k0, k1, k2, k3, k4, k5⟩ := N1.out.cells
       clear hb1))
  go_quiet (fail)
  clear k0 k1 k2 k3 k4 k5
  go_wp2_with (first
    | (go_at_call 112; refine (toward_0 b hb m _ hn (N1.out.drewN _) HAt.out).mono ?_; rintro e w2 ⟨rfl, hb2⟩
       have N2 := Lib.hid ((N1.out.drewN nq).below hb2)
       have B2 : Hid (Below w.heap.size w w2) := below_then (below_drewN B1.out nq) hb2
       have e0 : w2.cell? ⟨w.heap.size, 0, none⟩ = some (.int .u32 b) := carry hb2 c0
       have e1 : w2.cell? ⟨w.heap.size, 1, none⟩ = some (.int .i64 m) := carry hb2 c1
       have e2 : w2.cell? ⟨g, 4, none⟩ = some (.pointer u1) := N2.out.cells.2.2.2.2.1
       clear hb2))
  go_region_held3 (fun w' => w'.cell? ⟨w.heap.size, 0, none⟩ = some (.int .u32 b) ∧ w'.cell? ⟨w.heap.size, 1, none⟩ = some (.int .i64 m) ∧ w'.cell? ⟨g, 4, none⟩ = some (.pointer u1))
    (first | exact ⟨e0, e1, e2⟩ | assumption)
    (first | (go_at_call 93; refine (HI.out _ (by exact (HL.out.below B2.out).drew)).mono ?_; rintro e w3 ⟨v', gs', rfl, hl', hnd', hsub', hkp⟩; have hk3 := hkp.undrew; have X : Hid (Lies w3 (dropS l (b, m)).1 v' gs' ∧ gs'.Nodup ∧ (∀ k ∈ gs', k ∈ gl ∨ w2.heap.size ≤ k) ∧ Kp gl w2 w3) := ⟨hl', hnd', hsub', hk3⟩; have hk : w3.cell? ⟨w.heap.size, 0, none⟩ = some (.int .u32 b) ∧ w3.cell? ⟨w.heap.size, 1, none⟩ = some (.int .i64 m) ∧ w3.cell? ⟨g, 4, none⟩ = some (.pointer u1) := ⟨hk3.carry HWG.out e0, hk3.carry HWG.out e1, hk3.carry HGG.out e2⟩; have hfree := (N2.out.kp hk3 HGG.out).free 4; obtain ⟨u', rfl⟩ := hl'.ptr; clear hl' hnd' hsub' hkp hk3))
  all_goals (
    obtain ⟨d0, d1, d2⟩ := hk
    go_wp2_with fail
    obtain ⟨gs2, y1, y2, y3, y4⟩ := down0 B2.out N2.out (HR.out.below B2.out) HND.out X.out.1 X.out.2.1 X.out.2.2.1 X.out.2.2.2
    have Y := Lib.hid (And.intro y1 (And.intro y2 (And.intro y3 y4)))
    clear y1 y2 y3 y4
    go_at_call 114
    refine (need_any _ Y.out.1).mono ?_
    rintro e w6 ⟨v6, gs6, rfl, hl6, hs6, hb6⟩
    obtain ⟨u6, rfl⟩ := hl6.ptr
    have Z := Lib.hid (And.intro hl6 (And.intro hs6 hb6))
    clear hl6 hs6 hb6
    go_wp2
    go_ret2
    obtain ⟨z1, z2, z3⟩ := Z.out
    obtain ⟨_, y2, y3, y4⟩ := Y.out
    exact ⟨_, gs6, by rw [HF.out]; rfl, by rw [HF.out]; exact z1, z2.nodup y2, fun k hk => y3 k (z2.subset hk), y4.then z3⟩)

theorem drop_down1 {g : Nat} {q : PP} {x : Int} {s : Bool} {c d : Value} {l r : Sh} {gl gr : List Nat} (p : PP) (hq : PV q) (hb : p.1 < 4294967296) (hm : I64 p.2) (w : World) (hnode : IsNode w g q x s c d) (hl : Lies w l c gl) (hr : Lies w r d gr) (nd : (g :: (gl ++ gr)).Nodup)
    (hne : q ≠ p) (hc : C q p = true) (h0 : atZ p.1 q.2 = 1)
    (ih : ∀ W, Lies W r d gr → Calls Try.prog 93 #[d, .agg #[.int .u32 (p.1 : Nat), .int .i64 p.2]] W (DropPost W r p gr)) :
    Calls Try.prog 93 #[.pointer (some ⟨g, 0, none⟩), .agg #[.int .u32 (p.1 : Nat), .int .i64 p.2]] w (DropPost w (.node q x s l r) p (g :: (gl ++ gr))) := by
  have HF : Hid (dropS (.node q x s l r) p = (need (.node q x s l (dropS r p).1), (dropS r p).2)) := by
    unfold Hid; rw [dropS, hc, if_pos rfl, if_neg hne, h0]; rfl
  obtain ⟨u1, rfl⟩ := hl.ptr
  obtain ⟨u2, rfl⟩ := hr.ptr
  obtain ⟨b, m⟩ := p
  obtain ⟨a, n⟩ := q
  have hlt := hnode.lt
  have hJ := (V_iff _).1 hq.2
  have hn : I64 n := by have h1 := hJ.1; have h2 := hJ.2.1; dsimp only at h1 h2; constructor <;> omega
  have hs := C_strict hc hne
  dsimp only at hs hb hm
  have hd : (n == m) = false := by simp; omega
  have B0 := Lib.hid (below_alloc w (.cells #[.int .u32 (b : Int), .int .i64 m] 28))
  have H := Lib.hid (hnode.below B0.out)
  have HL := Lib.hid hl
  have HR := Lib.hid hr
  have HND := Lib.hid nd
  have HI := Lib.hid ih
  have HAt := Lib.hid h0
  have HC : Hid (∀ W, IsNode W g (a, n) x s (.pointer u1) (.pointer u2) → Calls Try.prog 111 #[.pointer (some ⟨g, 0, none⟩), .agg #[.int .u32 b, .int .i64 m]] W fun e w' => e = .returned (.bool true) ∧ Below W.heap.size W w') :=
    fun W h => (covN_any hq b hb m hm W h).mono fun _ _ k => ⟨by rw [k.1, hc], k.2⟩
  have hgG : g ∉ gr := (nd_parts nd).2.1
  have hwG : w.heap.size ∉ gr := fun h => by have := HR.out.lt _ h; omega
  have HGG := Lib.hid hgG
  have HWG := Lib.hid hwG
  clear hnode hq hne hc hJ hl hr nd ih h0 hgG hwG
  go_enter Try.func93, Try.ntmps93
  go_wp2_with (first
    | (go_at_call 111; refine (HC.out _ H.out).mono ?_; rintro e w1 ⟨rfl, hb1⟩
       have N1 := Lib.hid (H.out.below hb1)
       have B1 : Hid (Below w.heap.size w w1) := below_then B0.out hb1
       have c0 : w1.cell? ⟨w.heap.size, 0, none⟩ = some (.int .u32 b) := carry hb1 (by simp)
       have c1 : w1.cell? ⟨w.heap.size, 1, none⟩ = some (.int .i64 m) := carry hb1 (by simp)
       obtain ⟨k0, k1, k2, k3, k4, k5⟩ := N1.out.cells
       clear hb1))
  go_quiet (fail)
  clear k0 k1 k2 k3 k4 k5
  go_wp2_with (first
    | (go_at_call 112; refine (toward_1 b hb m _ hn (N1.out.drewN _) HAt.out).mono ?_; rintro e w2 ⟨rfl, hb2⟩
       have N2 := Lib.hid ((N1.out.drewN nq).below hb2)
       have B2 : Hid (Below w.heap.size w w2) := below_then (below_drewN B1.out nq) hb2
       have e0 : w2.cell? ⟨w.heap.size, 0, none⟩ = some (.int .u32 b) := carry hb2 c0
       have e1 : w2.cell? ⟨w.heap.size, 1, none⟩ = some (.int .i64 m) := carry hb2 c1
       have e2 : w2.cell? ⟨g, 5, none⟩ = some (.pointer u2) := N2.out.cells.2.2.2.2.2
       clear hb2))
  go_region_held3 (fun w' => w'.cell? ⟨w.heap.size, 0, none⟩ = some (.int .u32 b) ∧ w'.cell? ⟨w.heap.size, 1, none⟩ = some (.int .i64 m) ∧ w'.cell? ⟨g, 5, none⟩ = some (.pointer u2))
    (first | exact ⟨e0, e1, e2⟩ | assumption)
    (first | (go_at_call 93; refine (HI.out _ (by exact (HR.out.below B2.out).drew)).mono ?_; rintro e w3 ⟨v', gs', rfl, hl', hnd', hsub', hkp⟩; have hk3 := hkp.undrew; have X : Hid (Lies w3 (dropS r (b, m)).1 v' gs' ∧ gs'.Nodup ∧ (∀ k ∈ gs', k ∈ gr ∨ w2.heap.size ≤ k) ∧ Kp gr w2 w3) := ⟨hl', hnd', hsub', hk3⟩; have hk : w3.cell? ⟨w.heap.size, 0, none⟩ = some (.int .u32 b) ∧ w3.cell? ⟨w.heap.size, 1, none⟩ = some (.int .i64 m) ∧ w3.cell? ⟨g, 5, none⟩ = some (.pointer u2) := ⟨hk3.carry HWG.out e0, hk3.carry HWG.out e1, hk3.carry HGG.out e2⟩; have hfree := (N2.out.kp hk3 HGG.out).free 5; obtain ⟨u', rfl⟩ := hl'.ptr; clear hl' hnd' hsub' hkp hk3))
  all_goals (
    obtain ⟨d0, d1, d2⟩ := hk
    go_wp2_with fail
    obtain ⟨gs2, y1, y2, y3, y4⟩ := down1 B2.out N2.out (HL.out.below B2.out) HND.out X.out.1 X.out.2.1 X.out.2.2.1 X.out.2.2.2
    have Y := Lib.hid (And.intro y1 (And.intro y2 (And.intro y3 y4)))
    clear y1 y2 y3 y4
    go_at_call 114
    refine (need_any _ Y.out.1).mono ?_
    rintro e w6 ⟨v6, gs6, rfl, hl6, hs6, hb6⟩
    obtain ⟨u6, rfl⟩ := hl6.ptr
    have Z := Lib.hid (And.intro hl6 (And.intro hs6 hb6))
    clear hl6 hs6 hb6
    go_wp2
    go_ret2
    obtain ⟨z1, z2, z3⟩ := Z.out
    obtain ⟨_, y2, y3, y4⟩ := Y.out
    exact ⟨_, gs6, by rw [HF.out]; rfl, by rw [HF.out]; exact z1, z2.nodup y2, fun k hk => y3 k (z2.subset hk), y4.then z3⟩)

theorem drop_any : ∀ (T : Sh) (w : World) (v : Value) (gs : List Nat) (p : PP), WF T → p.1 < 4294967296 → I64 p.2 → Lies w T v gs → gs.Nodup →
    Calls Try.prog 93 #[v, .agg #[.int .u32 (p.1 : Nat), .int .i64 p.2]] w (DropPost w T p gs)
  | .nil, w, v, gs, p, _, _, _, hl, _ => by
    obtain ⟨rfl, rfl⟩ := hl
    exact drop_nil p.1 p.2 w
  | .node q x s l r, w, v, gs, p, hw, hb, hm, hlies, nd => by
    obtain ⟨g, c, d, gl, gr, rfl, rfl, hn, hl, hr⟩ := hlies
    obtain ⟨n1, n2, n3, n4, n5⟩ := nd_parts nd
    cases hc : C q p
    · exact drop_out p hw.1 hb hm w hn hl hr nd hc
    · by_cases hqp : q = p
      · subst hqp; exact drop_hit hw.1 w hn hl hr nd
      · have a2 := atZ_le p.1 q.2
        by_cases h0 : atZ p.1 q.2 = 0
        · exact drop_down0 p hw.1 hb hm w hn hl hr nd hqp hc h0 (fun W h => drop_any l W c gl p hw.2.2.2.1 hb hm h n3)
        · exact drop_down1 p hw.1 hb hm w hn hl hr nd hqp hc (by omega) (fun W h => drop_any r W d gr p hw.2.2.2.2 hb hm h n4)
end Go.Proofs.Ytkelfjgjgjdinaa
