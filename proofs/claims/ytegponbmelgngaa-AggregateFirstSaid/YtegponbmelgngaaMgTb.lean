/-
  The walk of the trie's put: at nil, at a node with the entry's own prefix.
  The visitors of the trie's walks: the collector's add, the closure of nearest.
  The walk of the trie's visitAbove, with the collector as the visitor.
-/
import Derived.Test.YtegponbmelgngaaMgTa
import Derived.Deep.RegionHeld3
import Derived.Deep.AppendLies
import Derived.Deep.RegionLaw
import Derived.Deep.LoopGhost
section
namespace Go.Proofs.Ytegponbmelgngaa
open Go.RowKit
set_option linter.unusedSimpArgs false
set_option linter.unusedVariables false
set_option maxHeartbeats 4000000
set_option maxRecDepth 100000

theorem put_nil (a : Nat) (n x : Int) (w : World) :
    Calls Try.prog 81 #[.pointer none, .agg #[.int .u32 a, .int .i64 n, .int .i64 x]] w fun e w' => ∃ f, e = .returned (.tuple #[.pointer (some ⟨f, 0, none⟩), .bool true]) ∧ w.heap.size ≤ f ∧ IsNode w' f (a, n) x true (.pointer none) (.pointer none) ∧ Below w.heap.size w w' := by
  go_enter Try.func81, Try.ntmps81
  go_wp2
  go_ret2
  exact ⟨_, rfl, by simp, isNode_new (a, n) x true _ _ (by simp), below2 _ _ _⟩
theorem put_hit {g : Nat} {a : Nat} {n x : Int} {s : Bool} {u1 u2 : Option Addr} (y : Int) (w : World) (h : IsNode w g (a, n) x s (.pointer u1) (.pointer u2)) :
    Calls Try.prog 81 #[.pointer (some ⟨g, 0, none⟩), .agg #[.int .u32 a, .int .i64 n, .int .i64 y]] w fun e w' => e = .returned (.tuple #[.pointer (some ⟨g, 0, none⟩), .bool (!s)]) ∧ IsNode w' g (a, n) y true (.pointer u1) (.pointer u2) ∧ Kp [g] w w' := by
  have hlt := h.lt
  have hn1 := h.below (below_alloc w (.cells #[.int .u32 (a : Int), .int .i64 n, .int .i64 y] 51))
  obtain ⟨h0, h1, h2, h3, h4, h5⟩ := hn1.cells
  have f0 := hn1.free
  have H := Lib.hid hn1
  clear h hn1
  go_enter Try.func81, Try.ntmps81
  go_wp2
  go_quiet (fail)
  go_wp2
  go_ret2
  exact ⟨rfl, (((IsNode.set0 (IsNode.drewN H.out _)).set1).set2).set3, ((((((Kp.of_below (below_alloc _ _)).drewN _).setCell (.inl (by simp))).setCell (.inl (by simp))).setCell (.inl (by simp))).setCell (.inl (by simp)))⟩
def PutPost (w : World) (T : Sh) (e : En) (gs : List Nat) : Ending → World → Prop := fun en w' => ∃ v' gs', en = .returned (.tuple #[v', .bool (putS T e).2]) ∧ Lies w' (putS T e).1 v' gs' ∧ gs'.Nodup ∧ (∀ k ∈ gs', k ∈ gs ∨ w.heap.size ≤ k) ∧ Kp gs w w'

theorem put_down0 {g : Nat} {p : PP} {x : Int} {s : Bool} {c d : Value} {l r : Sh} {gl gr : List Nat} (e : En) (hp : PV p) (he : PV e.1) (w : World) (hnode : IsNode w g p x s c d) (hl : Lies w l c gl) (hr : Lies w r d gr) (nd : (g :: (gl ++ gr)).Nodup)
    (hne : p ≠ e.1) (hc : C p e.1 = true) (h0 : atZ e.1.1 p.2 = 0)
    (ih : ∀ W, Lies W l c gl → Calls Try.prog 81 #[c, .agg #[.int .u32 e.1.1, .int .i64 e.1.2, .int .i64 e.2]] W (PutPost W l e gl)) :
    Calls Try.prog 81 #[.pointer (some ⟨g, 0, none⟩), .agg #[.int .u32 e.1.1, .int .i64 e.1.2, .int .i64 e.2]] w (PutPost w (.node p x s l r) e (g :: (gl ++ gr))) := by
  have HF : Hid (putS (.node p x s l r) e = (.node p x s (putS l e).1 r, (putS l e).2)) := by
    unfold Hid; rw [putS, if_neg hne, hc, if_pos rfl, h0]; rfl
  obtain ⟨u1, rfl⟩ := hl.ptr
  obtain ⟨u2, rfl⟩ := hr.ptr
  obtain ⟨⟨b, m⟩, y⟩ := e
  obtain ⟨a, n⟩ := p
  have hlt := hnode.lt
  have hb : b < 4294967296 := he.1
  have hI := (V_iff _).1 he.2
  have hm : I64 m := by have h1 := hI.1; have h2 := hI.2.1; dsimp only at h1 h2; constructor <;> omega
  have hJ := (V_iff _).1 hp.2
  have hn : I64 n := by have h1 := hJ.1; have h2 := hJ.2.1; dsimp only at h1 h2; constructor <;> omega
  have hs := C_strict hc hne
  dsimp only at hs
  have hd : (n == m) = false := by simp; omega
  have B0 := Lib.hid (below_alloc w (.cells #[.int .u32 (b : Int), .int .i64 m, .int .i64 y] 51))
  have hn1 := hnode.below B0.out
  have HL := Lib.hid hl
  have HR := Lib.hid hr
  have HND := Lib.hid nd
  have HI := Lib.hid ih
  have HAt := Lib.hid h0
  obtain ⟨k0, k1, k2, k3, k4, k5⟩ := hn1.cells
  have H := Lib.hid hn1
  have HC : Hid (∀ W, IsNode W g (a, n) x s (.pointer u1) (.pointer u2) → Calls Try.prog 112 #[.pointer (some ⟨g, 0, none⟩), .agg #[.int .u32 b, .int .i64 m]] W fun e w' => e = .returned (.bool true) ∧ Below W.heap.size W w') :=
    fun W h => (covN_any hp b hb m hm W h).mono fun _ _ k => ⟨by rw [k.1, hc], k.2⟩
  have hgG : g ∉ gl := (nd_parts nd).1
  have hwG : w.heap.size ∉ gl := fun h => by have := HL.out.lt _ h; omega
  have HGG := Lib.hid hgG
  have HWG := Lib.hid hwG
  clear hnode hn1 hp he hne hc hI hJ hl hr nd ih h0 hgG hwG
  go_enter Try.func81, Try.ntmps81
  go_wp2
  go_quiet (fail)
  go_wp2_with (first
    | (go_at_call 112; refine (HC.out _ (H.out.drewN _)).mono ?_; rintro e w1 ⟨rfl, hb1⟩; obtain ⟨q1, r1⟩ := bcell hb1; have B1 := Lib.hid hb1; clear hb1)
    | (go_at_call 114; refine (toward_0 b hb m _ hn ((H.out.drewN _).below B1.out) HAt.out).mono ?_; rintro e w2 ⟨rfl, hb2⟩
       have N2 := Lib.hid (((H.out.drewN nq).below B1.out).below hb2)
       have B2 : Hid (Below w.heap.size w w2) := below_then (below_then (below_drewN B0.out nq) B1.out) hb2
       have c0 : w2.cell? ⟨w.heap.size, 0, none⟩ = some (.int .u32 b) := carry hb2 (carry B1.out (by simp))
       have c1 : w2.cell? ⟨w.heap.size, 1, none⟩ = some (.int .i64 m) := carry hb2 (carry B1.out (by simp))
       have c2 : w2.cell? ⟨w.heap.size, 2, none⟩ = some (.int .i64 y) := carry hb2 (carry B1.out (by simp))
       have c3 : w2.cell? ⟨g, 4, none⟩ = some (.pointer u1) := N2.out.cells.2.2.2.2.1
       clear hb2 q1 r1))
  clear k0 k1 k2 k3 k4 k5
  go_region_held3 (fun w' => w'.cell? ⟨w.heap.size, 0, none⟩ = some (.int .u32 b) ∧ w'.cell? ⟨w.heap.size, 1, none⟩ = some (.int .i64 m) ∧ w'.cell? ⟨w.heap.size, 2, none⟩ = some (.int .i64 y) ∧ w'.cell? ⟨g, 4, none⟩ = some (.pointer u1))
    (first | exact ⟨c0, c1, c2, c3⟩ | assumption)
    (first | (go_at_call 81; refine (HI.out _ (by exact (HL.out.below B2.out).drew)).mono ?_; rintro e w3 ⟨v', gs', rfl, hl', hnd', hsub', hkp⟩; have hk3 := hkp.undrew; have X : Hid (Lies w3 (putS l ((b, m), y)).1 v' gs' ∧ gs'.Nodup ∧ (∀ k ∈ gs', k ∈ gl ∨ w2.heap.size ≤ k) ∧ Kp gl w2 w3) := ⟨hl', hnd', hsub', hk3⟩; have hk : w3.cell? ⟨w.heap.size, 0, none⟩ = some (.int .u32 b) ∧ w3.cell? ⟨w.heap.size, 1, none⟩ = some (.int .i64 m) ∧ w3.cell? ⟨w.heap.size, 2, none⟩ = some (.int .i64 y) ∧ w3.cell? ⟨g, 4, none⟩ = some (.pointer u1) := ⟨hk3.carry HWG.out c0, hk3.carry HWG.out c1, hk3.carry HWG.out c2, hk3.carry HGG.out c3⟩; have hfree := (N2.out.kp hk3 HGG.out).free 4; obtain ⟨u', rfl⟩ := hl'.ptr; clear hl' hnd' hsub' hkp hk3))
  all_goals (
    obtain ⟨d0, d1, d2, d3⟩ := hk
    go_wp2
    go_ret2
    obtain ⟨x1, x2, x3, x4⟩ := X.out
    obtain ⟨gs2, y1, y2, y3, y4⟩ := down0 B2.out N2.out (HR.out.below B2.out) HND.out x1 x2 x3 x4
    exact ⟨_, gs2, by rw [HF.out]; rfl, by rw [HF.out]; exact y1, y2, y3, y4⟩)

theorem put_down1 {g : Nat} {p : PP} {x : Int} {s : Bool} {c d : Value} {l r : Sh} {gl gr : List Nat} (e : En) (hp : PV p) (he : PV e.1) (w : World) (hnode : IsNode w g p x s c d) (hl : Lies w l c gl) (hr : Lies w r d gr) (nd : (g :: (gl ++ gr)).Nodup)
    (hne : p ≠ e.1) (hc : C p e.1 = true) (h0 : atZ e.1.1 p.2 = 1)
    (ih : ∀ W, Lies W r d gr → Calls Try.prog 81 #[d, .agg #[.int .u32 e.1.1, .int .i64 e.1.2, .int .i64 e.2]] W (PutPost W r e gr)) :
    Calls Try.prog 81 #[.pointer (some ⟨g, 0, none⟩), .agg #[.int .u32 e.1.1, .int .i64 e.1.2, .int .i64 e.2]] w (PutPost w (.node p x s l r) e (g :: (gl ++ gr))) := by
  have HF : Hid (putS (.node p x s l r) e = (.node p x s l (putS r e).1, (putS r e).2)) := by
    unfold Hid; rw [putS, if_neg hne, hc, if_pos rfl, h0]; rfl
  obtain ⟨u1, rfl⟩ := hl.ptr
  obtain ⟨u2, rfl⟩ := hr.ptr
  obtain ⟨⟨b, m⟩, y⟩ := e
  obtain ⟨a, n⟩ := p
  have hlt := hnode.lt
  have hb : b < 4294967296 := he.1
  have hI := (V_iff _).1 he.2
  have hm : I64 m := by have h1 := hI.1; have h2 := hI.2.1; dsimp only at h1 h2; constructor <;> omega
  have hJ := (V_iff _).1 hp.2
  have hn : I64 n := by have h1 := hJ.1; have h2 := hJ.2.1; dsimp only at h1 h2; constructor <;> omega
  have hs := C_strict hc hne
  dsimp only at hs
  have hd : (n == m) = false := by simp; omega
  have B0 := Lib.hid (below_alloc w (.cells #[.int .u32 (b : Int), .int .i64 m, .int .i64 y] 51))
  have hn1 := hnode.below B0.out
  have HL := Lib.hid hl
  have HR := Lib.hid hr
  have HND := Lib.hid nd
  have HI := Lib.hid ih
  have HAt := Lib.hid h0
  obtain ⟨k0, k1, k2, k3, k4, k5⟩ := hn1.cells
  have H := Lib.hid hn1
  have HC : Hid (∀ W, IsNode W g (a, n) x s (.pointer u1) (.pointer u2) → Calls Try.prog 112 #[.pointer (some ⟨g, 0, none⟩), .agg #[.int .u32 b, .int .i64 m]] W fun e w' => e = .returned (.bool true) ∧ Below W.heap.size W w') :=
    fun W h => (covN_any hp b hb m hm W h).mono fun _ _ k => ⟨by rw [k.1, hc], k.2⟩
  have hgG : g ∉ gr := (nd_parts nd).2.1
  have hwG : w.heap.size ∉ gr := fun h => by have := HR.out.lt _ h; omega
  have HGG := Lib.hid hgG
  have HWG := Lib.hid hwG
  clear hnode hn1 hp he hne hc hI hJ hl hr nd ih h0 hgG hwG
  go_enter Try.func81, Try.ntmps81
  go_wp2
  go_quiet (fail)
  go_wp2_with (first
    | (go_at_call 112; refine (HC.out _ (H.out.drewN _)).mono ?_; rintro e w1 ⟨rfl, hb1⟩; obtain ⟨q1, r1⟩ := bcell hb1; have B1 := Lib.hid hb1; clear hb1)
    | (go_at_call 114; refine (toward_1 b hb m _ hn ((H.out.drewN _).below B1.out) HAt.out).mono ?_; rintro e w2 ⟨rfl, hb2⟩
       have N2 := Lib.hid (((H.out.drewN nq).below B1.out).below hb2)
       have B2 : Hid (Below w.heap.size w w2) := below_then (below_then (below_drewN B0.out nq) B1.out) hb2
       have c0 : w2.cell? ⟨w.heap.size, 0, none⟩ = some (.int .u32 b) := carry hb2 (carry B1.out (by simp))
       have c1 : w2.cell? ⟨w.heap.size, 1, none⟩ = some (.int .i64 m) := carry hb2 (carry B1.out (by simp))
       have c2 : w2.cell? ⟨w.heap.size, 2, none⟩ = some (.int .i64 y) := carry hb2 (carry B1.out (by simp))
       have c3 : w2.cell? ⟨g, 5, none⟩ = some (.pointer u2) := N2.out.cells.2.2.2.2.2
       clear hb2 q1 r1))
  clear k0 k1 k2 k3 k4 k5
  go_region_held3 (fun w' => w'.cell? ⟨w.heap.size, 0, none⟩ = some (.int .u32 b) ∧ w'.cell? ⟨w.heap.size, 1, none⟩ = some (.int .i64 m) ∧ w'.cell? ⟨w.heap.size, 2, none⟩ = some (.int .i64 y) ∧ w'.cell? ⟨g, 5, none⟩ = some (.pointer u2))
    (first | exact ⟨c0, c1, c2, c3⟩ | assumption)
    (first | (go_at_call 81; refine (HI.out _ (by exact (HR.out.below B2.out).drew)).mono ?_; rintro e w3 ⟨v', gs', rfl, hl', hnd', hsub', hkp⟩; have hk3 := hkp.undrew; have X : Hid (Lies w3 (putS r ((b, m), y)).1 v' gs' ∧ gs'.Nodup ∧ (∀ k ∈ gs', k ∈ gr ∨ w2.heap.size ≤ k) ∧ Kp gr w2 w3) := ⟨hl', hnd', hsub', hk3⟩; have hk : w3.cell? ⟨w.heap.size, 0, none⟩ = some (.int .u32 b) ∧ w3.cell? ⟨w.heap.size, 1, none⟩ = some (.int .i64 m) ∧ w3.cell? ⟨w.heap.size, 2, none⟩ = some (.int .i64 y) ∧ w3.cell? ⟨g, 5, none⟩ = some (.pointer u2) := ⟨hk3.carry HWG.out c0, hk3.carry HWG.out c1, hk3.carry HWG.out c2, hk3.carry HGG.out c3⟩; have hfree := (N2.out.kp hk3 HGG.out).free 5; obtain ⟨u', rfl⟩ := hl'.ptr; clear hl' hnd' hsub' hkp hk3))
  all_goals (
    obtain ⟨d0, d1, d2, d3⟩ := hk
    go_wp2
    go_ret2
    obtain ⟨x1, x2, x3, x4⟩ := X.out
    obtain ⟨gs2, y1, y2, y3, y4⟩ := down1 B2.out N2.out (HL.out.below B2.out) HND.out x1 x2 x3 x4
    exact ⟨_, gs2, by rw [HF.out]; rfl, by rw [HF.out]; exact y1, y2, y3, y4⟩)

theorem put_fork {g : Nat} {p : PP} {x : Int} {s : Bool} {c d : Value} {l r : Sh} {gl gr : List Nat} (e : En) (hp : PV p) (he : PV e.1) (w : World) (hnode : IsNode w g p x s c d) (hl : Lies w l c gl) (hr : Lies w r d gr) (nd : (g :: (gl ++ gr)).Nodup)
    (hne : p ≠ e.1) (hc : C p e.1 = false)
    (ih : ∀ W f, w.heap.size ≤ f → Below w.heap.size w W → Lies W (forkT (.node p x s l r) e.1 p) (.pointer (some ⟨f, 0, none⟩)) (f :: (g :: (gl ++ gr))) → Calls Try.prog 81 #[.pointer (some ⟨f, 0, none⟩), .agg #[.int .u32 e.1.1, .int .i64 e.1.2, .int .i64 e.2]] W (PutPost W (forkT (.node p x s l r) e.1 p) e (f :: (g :: (gl ++ gr))))) :
    Calls Try.prog 81 #[.pointer (some ⟨g, 0, none⟩), .agg #[.int .u32 e.1.1, .int .i64 e.1.2, .int .i64 e.2]] w (PutPost w (.node p x s l r) e (g :: (gl ++ gr))) := by
  have HF := Lib.hid (putS_fork (v := x) (s := s) (l := l) (r := r) he hp hne hc)
  obtain ⟨u1, rfl⟩ := hl.ptr
  obtain ⟨u2, rfl⟩ := hr.ptr
  have HL : Hid (∀ W, Below w.heap.size w W → Lies W (.node p x s l r) (.pointer (some ⟨g, 0, none⟩)) (g :: (gl ++ gr))) := fun W h => ⟨g, _, _, gl, gr, rfl, rfl, hnode.below h, hl.below h, hr.below h⟩
  obtain ⟨⟨b, m⟩, y⟩ := e
  obtain ⟨a, n⟩ := p
  have hlt := hnode.lt
  have hb : b < 4294967296 := he.1
  have hI := (V_iff _).1 he.2
  have hm : I64 m := by have h1 := hI.1; have h2 := hI.2.1; dsimp only at h1 h2; constructor <;> omega
  have hJ := (V_iff _).1 hp.2
  have hn : I64 n := by have h1 := hJ.1; have h2 := hJ.2.1; dsimp only at h1 h2; constructor <;> omega
  have B0 := Lib.hid (below_alloc w (.cells #[.int .u32 (b : Int), .int .i64 m, .int .i64 y] 51))
  have hn1 := hnode.below B0.out
  have HND := Lib.hid nd
  have HI := Lib.hid ih
  obtain ⟨k0, k1, k2, k3, k4, k5⟩ := hn1.cells
  have H := Lib.hid hn1
  have HC : Hid (∀ W, IsNode W g (a, n) x s (.pointer u1) (.pointer u2) → Calls Try.prog 112 #[.pointer (some ⟨g, 0, none⟩), .agg #[.int .u32 b, .int .i64 m]] W fun e w' => e = .returned (.bool false) ∧ Below W.heap.size W w') :=
    fun W h => (covN_any hp b hb m hm W h).mono fun _ _ k => ⟨by rw [k.1, hc], k.2⟩
  have HB : Hid (∀ W, IsNode W g (a, n) x s (.pointer u1) (.pointer u2) → Calls Try.prog 113 #[.pointer (some ⟨g, 0, none⟩), .agg #[.int .u32 b, .int .i64 m]] W _) :=
    fun W h => below_any (b, m) he hp hc W h
  have hor : a ≠ b ∨ (a = b ∧ n ≠ m) := by
    by_cases h : a = b
    · exact .inr ⟨h, fun h2 => hne (Prod.ext h h2)⟩
    · exact .inl h
  clear hnode hn1 hp he hne hc hI hJ hl hr nd ih
  rcases hor with hor | ⟨hab, hor⟩
  case' inl => have hd : ((a : Int) == (b : Int)) = false := by simp; omega
  case' inr => (have hd : (n == m) = false := by simpa using hor); (have hd0 : ((a : Int) == (b : Int)) = true := by simp; omega); clear hab
  all_goals
    clear hor
    go_enter Try.func81, Try.ntmps81
    go_wp2
    go_quiet (fail)
    go_wp2_with (first
      | (go_at_call 112; refine (HC.out _ (H.out.drewN _)).mono ?_; rintro e w2 ⟨rfl, hb2⟩
         have N2 := Lib.hid ((H.out.drewN nq).below hb2)
         have B2 : Hid (Below w.heap.size w w2) := below_then (below_drewN B0.out nq) hb2
         have c0 := carry hb2 (show ((w.alloc (.cells #[.int .u32 (b : Int), .int .i64 m, .int .i64 y] 51)).drewN nq).cell? ⟨w.heap.size, 0, none⟩ = some (.int .u32 (b : Int)) by simp)
         have c1 := carry hb2 (show ((w.alloc (.cells #[.int .u32 (b : Int), .int .i64 m, .int .i64 y] 51)).drewN nq).cell? ⟨w.heap.size, 1, none⟩ = some (.int .i64 m) by simp)
         have c2 := carry hb2 (show ((w.alloc (.cells #[.int .u32 (b : Int), .int .i64 m, .int .i64 y] 51)).drewN nq).cell? ⟨w.heap.size, 2, none⟩ = some (.int .i64 y) by simp)
         clear hb2))
    clear k0 k1 k2 k3 k4 k5
    have hsz2 : w.heap.size + 1 ≤ w2.heap.size := by have := B2.out.size; have := World.block_lt_of_cell? _ _ c0; exact this
    have HS2 := Lib.hid hsz2
    clear hsz2
    go_region_held3 (fun w' => w'.cell? ⟨w.heap.size, 0, none⟩ = some (.int .u32 (b : Int)) ∧ w'.cell? ⟨w.heap.size, 1, none⟩ = some (.int .i64 m) ∧ w'.cell? ⟨w.heap.size, 2, none⟩ = some (.int .i64 y))
      (first | exact ⟨c0, c1, c2⟩ | assumption)
      (first | (go_at_call 113; refine (HB.out _ N2.out.drew).mono ?_; rintro e w3 ⟨f, rfl, hf, hnf, hb3⟩; have B3 : Hid (Below w2.heap.size w2 w3) := ⟨hb3.os, hb3.tape, hb3.output, hb3.size, hb3.block⟩; have F3 : Hid (w2.heap.size ≤ f) := hf; have L3 := Lib.hid (fork_lies hnf (HL.out w3 (below_then B2.out B3.out))); have hk := And.intro (carry B3.out c0) (And.intro (carry B3.out c1) (carry B3.out c2)); clear hf hnf hb3) | (go_at_call 81; refine (HI.out w3 f (Nat.le_trans (by have := HS2.out; omega) F3.out) (below_then B2.out B3.out) L3.out).mono ?_; rintro e w4 ⟨v', gs', rfl, hl', hnd', hsub', hkp⟩; have X := Lib.hid (And.intro hl' (And.intro hnd' (And.intro hsub' hkp))); have hnot : w.heap.size ∉ f :: (g :: (gl ++ gr)) := not_mem_fork (Nat.lt_of_lt_of_le HS2.out F3.out) (HL.out w (Below.refl _ _)).lt; have hk4 := And.intro (hkp.carry hnot hk.1) (And.intro (hkp.carry hnot hk.2.1) (hkp.carry hnot hk.2.2)); obtain ⟨u', rfl⟩ := hl'.ptr; clear hl' hnd' hsub' hkp))
    all_goals (
      go_wp2
      go_ret2
      obtain ⟨x1, x2, x3, x4⟩ := X.out
      have z1 := F3.out
      have z2 := HS2.out
      have z3 := B3.out.size
      refine ⟨_, _, by rw [HF.out]; rfl, by rw [HF.out]; exact x1, x2, fun k hk => ?_, (Kp.of_below (below_then B2.out B3.out)).trans x4 (fun k hk => ?_)⟩
      · rcases x3 k hk with h | h
        · rcases List.mem_cons.1 h with h | h
          · exact .inr (by omega)
          · exact .inl h
        · exact .inr (by omega)
      · rcases List.mem_cons.1 hk with h | h
        · exact .inr (by omega)
        · exact .inl h)
theorem hit_lies {w w' : World} {g : Nat} {p : PP} {x : Int} {c d : Value} {l r : Sh} {gl gr : List Nat} (h2 : IsNode w' g p x true c d) (h3 : Kp [g] w w') (hl : Lies w l c gl) (hr : Lies w r d gr) (nd : (g :: (gl ++ gr)).Nodup) :
    Lies w' (.node p x true l r) (.pointer (some ⟨g, 0, none⟩)) (g :: (gl ++ gr)) ∧ Kp (g :: (gl ++ gr)) w w' := by
  obtain ⟨n1, n2, n3, n4, n5⟩ := nd_parts nd
  refine ⟨⟨g, c, d, gl, gr, rfl, rfl, h2, hl.kp h3 ?_, hr.kp h3 ?_⟩, h3.mono ?_⟩
  · intro k hk hm; simp at hm; exact n1 (hm ▸ hk)
  · intro k hk hm; simp at hm; exact n2 (hm ▸ hk)
  · intro k hk; simp at hk; simp [hk]
theorem put_any : ∀ (T : Sh) (w : World) (v : Value) (gs : List Nat) (e : En), WF T → PV e.1 → Lies w T v gs → gs.Nodup →
    Calls Try.prog 81 #[v, .agg #[.int .u32 e.1.1, .int .i64 e.1.2, .int .i64 e.2]] w (PutPost w T e gs)
  | .nil, w, v, gs, e, _, _, hl, _ => by
    obtain ⟨rfl, rfl⟩ := hl
    exact (put_nil e.1.1 e.1.2 e.2 w).mono fun en w' ⟨f, he, hf, hn, hb⟩ =>
      ⟨_, [f], he, ⟨f, _, _, [], [], rfl, rfl, hn, ⟨rfl, rfl⟩, ⟨rfl, rfl⟩⟩, by simp, fun k hk => .inr (by simp at hk; omega), Kp.of_below hb⟩
  | .node p x s l r, w, v, gs, e, hw, he, hlies, nd => by
    obtain ⟨g, c, d, gl, gr, rfl, rfl, hn, hl, hr⟩ := hlies
    by_cases hpe : p = e.1
    · subst hpe
      obtain ⟨u1, rfl⟩ := hl.ptr
      obtain ⟨u2, rfl⟩ := hr.ptr
      have hF : putS (.node e.1 x s l r) e = (.node e.1 e.2 true l r, !s) := by rw [putS, if_pos rfl]
      refine (put_hit (g := g) (a := e.1.1) (n := e.1.2) e.2 w hn).mono fun en w' ⟨h1, h2, h3⟩ => ?_
      obtain ⟨y1, y2⟩ := hit_lies h2 h3 hl hr nd
      exact ⟨_, _, by rw [hF]; exact h1, by rw [hF]; exact y1, nd, fun k hk => .inl hk, y2⟩
    · cases hc : C p e.1
      · refine put_fork e hw.1 he w hn hl hr nd hpe hc fun W f hf hW hL => ?_
        obtain ⟨s1, s2, s3, s4, s5, s6⟩ := shr_spec he hw.1 hc
        have hlt := Lies.lt (w := w) (T := .node p x s l r) (v := .pointer (some ⟨g, 0, none⟩)) (gs := g :: (gl ++ gr)) ⟨g, c, d, gl, gr, rfl, rfl, hn, hl, hr⟩
        have nd2 : (f :: (g :: (gl ++ gr))).Nodup := List.nodup_cons.2 ⟨fun h => by have := hlt f h; omega, nd⟩
        by_cases hse : shr e.1 p = e.1
        · have hF : putS (forkT (.node p x s l r) e.1 p) e = (.node (shr e.1 p) e.2 true (if atZ p.1 (shr e.1 p).2 = 0 then .node p x s l r else .nil) (if atZ p.1 (shr e.1 p).2 = 0 then .nil else .node p x s l r), true) := by unfold forkT; rw [putS, if_pos hse]; rfl
          obtain ⟨f', c', d', fl, fr, e1, e2, hfn, hfl, hfr⟩ := hL
          obtain rfl : f = f' := by cases e1; rfl
          have e2' : g :: (gl ++ gr) = fl ++ fr := (List.cons.inj e2).2
          obtain ⟨u1, rfl⟩ := hfl.ptr
          obtain ⟨u2, rfl⟩ := hfr.ptr
          rw [e2] at nd2
          rw [hse] at hfn
          refine (put_hit (g := f) (a := e.1.1) (n := e.1.2) e.2 W hfn).mono fun en w' ⟨h1, h2, h3⟩ => ?_
          obtain ⟨y1, y2⟩ := hit_lies h2 h3 hfl hfr nd2
          unfold PutPost; rw [hF, hse, e2]; rw [hse] at y1
          exact ⟨_, _, h1, y1, nd2, fun k hk => .inl hk, y2⟩
        · obtain ⟨s7, s8⟩ := s5 hse
          have a1 := atZ_le p.1 (shr e.1 p).2
          have a2 := atZ_le e.1.1 (shr e.1 p).2
          obtain ⟨f', c', d', fl, fr, e1, e2, hfn, hfl, hfr⟩ := hL
          obtain rfl : f = f' := by cases e1; rfl
          have nil_put : ∀ W' v', Lies W' .nil v' [] → Calls Try.prog 81 #[v', .agg #[.int .u32 e.1.1, .int .i64 e.1.2, .int .i64 e.2]] W' (PutPost W' .nil e []) := fun W' v' h => by
            obtain ⟨rfl, _⟩ := h
            exact (put_nil e.1.1 e.1.2 e.2 W').mono fun en w' ⟨f, he, hf, hn, hb⟩ =>
              ⟨_, [f], he, ⟨f, _, _, [], [], rfl, rfl, hn, ⟨rfl, rfl⟩, ⟨rfl, rfl⟩⟩, by simp, fun k hk => .inr (by simp at hk; omega), Kp.of_below hb⟩
          by_cases h0 : atZ e.1.1 (shr e.1 p).2 = 0
          · have hz : ¬ atZ p.1 (shr e.1 p).2 = 0 := by omega
            rw [if_neg hz] at hfl hfr
            have := hfl.2
            subst this
            rw [e2] at nd2 ⊢
            have := put_down0 e s1 he W hfn hfl hfr nd2 hse s2 h0 (fun W' h => nil_put W' _ h)
            unfold forkT; rw [if_neg hz, if_neg hz]; exact this
          · have hz : atZ p.1 (shr e.1 p).2 = 0 := by omega
            rw [if_pos hz] at hfl hfr
            have := hfr.2
            subst this
            rw [e2] at nd2 ⊢
            have := put_down1 e s1 he W hfn hfl hfr nd2 hse s2 (by omega) (fun W' h => nil_put W' _ h)
            unfold forkT; rw [if_pos hz, if_pos hz]; exact this
      · obtain ⟨n1, n2, n3, n4, n5⟩ := nd_parts nd
        have a2 := atZ_le e.1.1 p.2
        by_cases h0 : atZ e.1.1 p.2 = 0
        · exact put_down0 e hw.1 he w hn hl hr nd hpe hc h0 (fun W h => put_any l W c gl e hw.2.2.2.1 he h n3)
        · exact put_down1 e hw.1 he w hn hl hr nd hpe hc (by omega) (fun W h => put_any r W d gr e hw.2.2.2.2 he h n4)
end Go.Proofs.Ytegponbmelgngaa
end

section
namespace Go.Proofs.Ytegponbmelgngaa
open Go.RowKit
set_option linter.unusedSimpArgs false
set_option linter.unusedVariables false
set_option maxHeartbeats 4000000
set_option maxRecDepth 100000

/-- an entry's three cells -/
def encE (x : En) : List Value := [.int .u32 (x.1.1 : Int), .int .i64 x.1.2, .int .i64 x.2]
def flatE (l : List En) : List Value := l.flatMap encE
theorem flatE_len (l : List En) : (flatE l).length = l.length * 3 := by
  induction l with
  | nil => rfl
  | cons x r ih => unfold flatE at *; rw [List.flatMap_cons, List.length_append, ih, List.length_cons, encE]; simp; omega
theorem flatE_snoc (l : List En) (x : En) : flatE (l ++ [x]) = flatE l ++ encE x := by unfold flatE; simp
theorem flatE_app (l m : List En) : flatE (l ++ m) = flatE l ++ flatE m := by unfold flatE; simp
theorem info51 : (Try.prog.info? 51).map (fun i => (i.zero, i.size, i.bytes)) = some (some (.agg #[.int .u32 0, .int .i64 0, .int .i64 0]), 3, 24) := by kernel_rfl
theorem info_parts {t : TypeId} {z : Value} {a b : Nat} (h : (Try.prog.info? t).map (fun i => (i.zero, i.size, i.bytes)) = some (some z, a, b)) : ∃ i, Try.prog.info? t = some i ∧ i.zero = some z ∧ i.size = a ∧ i.bytes = b := by
  cases hi : Try.prog.info? t with
  | none => rw [hi] at h; cases h
  | some i => rw [hi] at h; simp at h; exact ⟨i, rfl, h.1, h.2.1, h.2.2⟩
theorem cell_three_new (w : World) (x y z : Value) (t : TypeId) : ∀ j u, [x, y, z][j]? = some u → (w.alloc (.cells #[x, y, z] t)).cell? ((⟨w.heap.size, 0, none⟩ : Addr).add j) = some u := by
  intro j u hj
  match j, hj with
  | 0, hj => simp at hj; subst hj; simp [Addr.add]
  | 1, hj => simp at hj; subst hj; simp [Addr.add]
  | 2, hj => simp at hj; subst hj; simp [Addr.add]
  | (j + 3), hj => simp at hj
theorem one_three (a : Nat) (n x : Int) : ∀ u ∈ [Value.int .u32 (a : Int), .int .i64 n, .int .i64 x], u.oneCell' = true := by
  intro u hu; simp at hu; rcases hu with rfl | rfl | rfl <;> rfl

theorem cell_three_at (w : World) (x y z : Value) (t : TypeId) {b : Nat} (hb : b = w.heap.size) : ∀ j u, [x, y, z][j]? = some u → (w.alloc (.cells #[x, y, z] t)).cell? ((⟨b, 0, none⟩ : Addr).add j) = some u := by
  subst hb; exact cell_three_new w x y z t
theorem own_below {w w1 : World} {B n e k : Nat} {v : Value} {xs : List Value} (h : w.ownsRow B e k v n xs) (hb : Below w.heap.size w w1) : w1.ownsRow B e k v n xs :=
  ⟨h.1, h.2.imp id (fun ⟨g, cap, cur, a, b, c, d⟩ => ⟨g, cap, cur, a, b, (hb.block g (Array.getElem?_eq_some_iff.1 c).1).trans c, d⟩)⟩

/-- a collector at block B that holds L, its row away from the blocks P -/
def ColI (B : Nat) (P : List Nat) (L : List En) (W : World) : Prop := ∃ v, W.heap[B]? = some (.cells #[v] 9105 (0, 0)) ∧ W.ownsRow (B + 1) 51 3 v L.length (flatE L) ∧ ∀ m ∈ P, v.ownBlock ≠ some m
/-- what a visitor whose blocks begin at B leaves alone -/
structure Ch (B : Nat) (P : List Nat) (w w' : World) : Prop where
  os : w'.os = w.os
  tape : w'.tape = w.tape
  output : w'.output = w.output
  size : w.heap.size ≤ w'.heap.size
  block : ∀ k, k < w.heap.size → (k < B ∨ k ∈ P) → w'.heap[k]? = w.heap[k]?
theorem Ch.refl (B : Nat) (P : List Nat) (w : World) : Ch B P w w := ⟨rfl, rfl, rfl, Nat.le_refl _, fun _ _ _ => rfl⟩
theorem Ch.of_below {B : Nat} {P : List Nat} {w w' : World} (h : Below w.heap.size w w') : Ch B P w w' := ⟨h.os, h.tape, h.output, h.size, fun k hk _ => h.block k hk⟩
theorem Ch.trans {B : Nat} {P : List Nat} {a b c : World} (h : Ch B P a b) (k : Ch B P b c) : Ch B P a c :=
  ⟨k.os.trans h.os, k.tape.trans h.tape, k.output.trans h.output, Nat.le_trans h.size k.size, fun i hi hp => (k.block i (Nat.lt_of_lt_of_le hi h.size) hp).trans (h.block i hi hp)⟩
theorem Ch.then {B : Nat} {P : List Nat} {a b c : World} (h : Ch B P a b) (k : Below b.heap.size b c) : Ch B P a c := h.trans (Ch.of_below k)
theorem Ch.less {B m : Nat} {P : List Nat} {a b : World} (h : Ch B (m :: P) a b) : Ch B P a b := ⟨h.os, h.tape, h.output, h.size, fun k hk hp => h.block k hk (hp.imp id (fun h => List.mem_cons_of_mem _ h))⟩
theorem Ch.carry {B : Nat} {P : List Nat} {a b : World} (h : Ch B P a b) {p : Addr} {v : Value} (hp : p.block < B ∨ p.block ∈ P) (hc : a.cell? p = some v) : b.cell? p = some v := by
  rw [← hc]; exact World.cell?_of_block (h.block _ (World.block_lt_of_cell? _ _ hc) hp)
theorem Ch.below {B B' : Nat} {P : List Nat} {a b : World} (h : Ch B P a b) (hB : B' ≤ B) (hs : B' ≤ a.heap.size) : Below B' a b := ⟨h.os, h.tape, h.output, h.size, fun k hk => h.block k (by omega) (.inl (by omega))⟩
theorem Lies.ch {B : Nat} {P : List Nat} {w w' : World} {T : Sh} {v : Value} {gs : List Nat} (h : Lies w T v gs) (k : Ch B P w w') (hb : ∀ g ∈ gs, g < B) : Lies w' T v gs := h.congr fun g hg => k.block g (h.lt g hg) (.inl (hb g hg))
theorem IsNode.ch {B : Nat} {P : List Nat} {w w' : World} {g : Nat} {p : PP} {x : Int} {s : Bool} {c d : Value} (h : IsNode w g p x s c d) (k : Ch B P w w') (hb : g < B) : IsNode w' g p x s c d := h.congr (k.block g h.lt (.inl hb))

theorem own_lt {w : World} {B n e k : Nat} {v : Value} {xs : List Value} (h : w.ownsRow B e k v n xs) {g : Nat} (hg : v.ownBlock = some g) : B ≤ g ∧ g < w.heap.size := by
  rcases h.2 with ⟨rfl, _⟩ | ⟨g', cap, cur, rfl, hb, hc, _⟩
  · simp [Value.ownBlock] at hg
  · simp [Value.ownBlock] at hg; subst hg; exact ⟨hb, (Array.getElem?_eq_some_iff.1 hc).1⟩
theorem ColI.below {B : Nat} {P : List Nat} {L : List En} {W W1 : World} (h : ColI B P L W) (hb : Below W.heap.size W W1) : ColI B P L W1 := by
  obtain ⟨v, h1, h2, h3⟩ := h
  exact ⟨v, (hb.block B (lt_of_block h1)).trans h1, own_below h2 hb, h3⟩
theorem ColI.more {B m : Nat} {P : List Nat} {L : List En} {W : World} (h : ColI B P L W) (hm : W.heap.size ≤ m) : ColI B (m :: P) L W := by
  obtain ⟨v, h1, h2, h3⟩ := h
  refine ⟨v, h1, h2, fun k hk e => ?_⟩
  rcases List.mem_cons.1 hk with rfl | hk
  · have := (own_lt h2 e).2; omega
  · exact h3 k hk e
theorem ColI.less {B m : Nat} {P : List Nat} {L : List En} {W : World} (h : ColI B (m :: P) L W) : ColI B P L W := by
  obtain ⟨v, h1, h2, h3⟩ := h
  exact ⟨v, h1, h2, fun k hk => h3 k (List.mem_cons_of_mem _ hk)⟩
theorem ColI.lt {B : Nat} {P : List Nat} {L : List En} {W : World} (h : ColI B P L W) : B < W.heap.size := by obtain ⟨v, h1, _⟩ := h; exact lt_of_block h1

/-- the variables of nearest: the last entry, whether there is one -/
def NearI (B : Nat) (P : List Nat) (L : List En) (W : World) : Prop :=
  W.heap[B]? = some (.cells #[.int .u32 ((L.getLastD ((0, 0), 0)).1.1 : Int), .int .i64 (L.getLastD ((0, 0), 0)).1.2, .int .i64 (L.getLastD ((0, 0), 0)).2] 51 (0, 0)) ∧ W.heap[B + 1]? = some (.cells #[.bool (!L.isEmpty)] 4 (0, 0))
theorem NearI.below {B : Nat} {P : List Nat} {L : List En} {W W1 : World} (h : NearI B P L W) (hb : Below W.heap.size W W1) : NearI B P L W1 :=
  ⟨(hb.block B (lt_of_block h.1)).trans h.1, (hb.block (B + 1) (lt_of_block h.2)).trans h.2⟩
theorem NearI.more {B m : Nat} {P : List Nat} {L : List En} {W : World} (h : NearI B P L W) (hm : W.heap.size ≤ m) : NearI B (m :: P) L W := h
theorem NearI.less {B m : Nat} {P : List Nat} {L : List En} {W : World} (h : NearI B (m :: P) L W) : NearI B P L W := h
theorem NearI.lt {B : Nat} {P : List Nat} {L : List En} {W : World} (h : NearI B P L W) : B + 1 < W.heap.size := lt_of_block h.2
theorem near_any (B : Nat) (P : List Nat) (L : List En) (e : En) (w : World) (h : NearI B P L w) (hlen : L.length ≤ 1000) (hP : ∀ m ∈ P, m < w.heap.size ∧ B + 1 < m) :
    Calls Try.prog 116 #[.agg #[.int .u32 (e.1.1 : Nat), .int .i64 e.1.2, .int .i64 e.2], .pointer (some ⟨B, 0, none⟩), .pointer (some ⟨B + 1, 0, none⟩)] w fun en w' => en = .returned (.tuple #[]) ∧ NearI B P (L ++ [e]) w' ∧ Ch B P w w' := by
  obtain ⟨hB, hC⟩ := h
  obtain ⟨⟨a, n⟩, x⟩ := e
  have hBlt := lt_of_block hB
  have hClt := lt_of_block hC
  have c0 : ∃ u, w.cell? ⟨B, 0, none⟩ = some u := ⟨_, by simp only [World.cell?, hB]; rfl⟩
  have c1 : ∃ u, w.cell? ⟨B, 1, none⟩ = some u := ⟨_, by simp only [World.cell?, hB]; rfl⟩
  have c2 : ∃ u, w.cell? ⟨B, 2, none⟩ = some u := ⟨_, by simp only [World.cell?, hB]; rfl⟩
  have f0 : ∀ o, w.frozen? ⟨B, o, none⟩ = false := fun o => by simp [World.frozen?, hB]
  have c3 := cell_of_one hC
  have f3 := free_of_one hC
  obtain ⟨u0, c0⟩ := c0
  obtain ⟨u1, c1⟩ := c1
  obtain ⟨u2, c2⟩ := c2
  have HB := Lib.hid hB
  have HC := Lib.hid hC
  have HP := Lib.hid hP
  clear hB hC hP
  go_enter Try.func116, Try.ntmps116
  go_wp2
  go_end0
  have ne : B + 1 ≠ B := by omega
  refine ⟨rfl, ⟨?_, ?_⟩, ?_⟩
  · rw [List.getLastD_concat, Below.heap_alloc _ _ _ (by simpa using hBlt), heap_set_ne (by omega), heap_set_eq (heap_set_eq (heap_set_eq HB.out))]; rfl
  · rw [Below.heap_alloc _ _ _ (by simpa using hClt), heap_set_eq ((heap_set_ne ne).trans ((heap_set_ne ne).trans ((heap_set_ne ne).trans HC.out)))]; simp
  · refine ⟨rfl, rfl, rfl, by simp, fun k hk hp => ?_⟩
    have hkB : k ≠ B ∧ k ≠ B + 1 := by
      rcases hp with h | h
      · omega
      · have := (HP.out k h).2; omega
    rw [Below.heap_alloc _ _ _ (by simpa using hk), heap_set_ne hkB.2, heap_set_ne hkB.1, heap_set_ne hkB.1, heap_set_ne hkB.1]
end Go.Proofs.Ytegponbmelgngaa
end

section
namespace Go.Proofs.Ytegponbmelgngaa
open Go.RowKit
set_option linter.unusedSimpArgs false
set_option linter.unusedVariables false
set_option maxHeartbeats 4000000
set_option maxRecDepth 100000
def Sh.sz : Sh → Nat
  | .nil => 0
  | .node _ _ _ l r => l.sz + r.sz + 1

end Go.Proofs.Ytegponbmelgngaa
end
