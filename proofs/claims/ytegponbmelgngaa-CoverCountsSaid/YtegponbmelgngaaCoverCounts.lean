/-
  Proved: for any two lists of prefixes the law CoverCounts of the document answers true and leaves its arguments as they were; no conditions.
-/
import Derived.Test.YtegponbmelgngaaFrame
import Derived.Test.YtegponbmelgngaaCvM
import Derived.Test.YtegponbmelgngaaCvS2
section
namespace Go.Proofs.Ytegponbmelgngaa
open Go.RowKit
set_option linter.unusedSimpArgs false
set_option linter.unusedVariables false
set_option maxHeartbeats 4000000
set_option maxRecDepth 100000

/-- the parent of a valid prefix, if there is one -/
def pr (p : PP) : PP × Bool := if 1 ≤ p.2 then ((M.keepN p.1 (M.lowN (p.2 - 1) 32), p.2 - 1), true) else ((0, 0), false)
theorem rpar_any (p : PP) (hp : V p = true) (ha : p.1 < 4294967296) (W : World) :
    Calls Try.prog 78 #[.agg #[.int .u32 (p.1 : Int), .int .i64 p.2]] W fun e w' => e = .returned (.tuple #[.agg #[.int .u32 ((pr p).1.1 : Int), .int .i64 (pr p).1.2], .bool (pr p).2]) ∧ Below W.heap.size W w' := by
  obtain ⟨a, n⟩ := p
  have hv := (V_iff _).1 hp
  unfold pr
  by_cases h : 1 ≤ n
  · rw [if_pos h]; exact rparent_yes a ha n (V_I64 hp) W hp h
  · rw [if_neg h]; exact rparent_no a ha n (V_I64 hp) W (.inr (by dsimp only at hv; omega))
def parB (q p : PP) : Bool := (pr p).2 && ((pr q).2 && decide ((pr p).1 = (pr q).1))
/-- an element stands rightly behind another one -/
def apart (q p : PP) : Prop := C q p = false ∧ C p q = false ∧ parB q p = false
def okAt (l : List PP) (i : Nat) (p : PP) : Prop := V p = true ∧ (∀ q, 0 < i → l[i - 1]? = some q → q.1 < p.1) ∧ ∀ j q, j < i → l[j]? = some q → apart q p
def okTo (l : List PP) (k : Nat) : Prop := ∀ i p, i < k → l[i]? = some p → okAt l i p
def nrmOK (l : List PP) : Prop := okTo l l.length
theorem okTo_succ {l : List PP} {k : Nat} {p : PP} (h : okTo l k) (hp : l[k]? = some p) (ho : okAt l k p) : okTo l (k + 1) := fun i q hi hq => by
  rcases (by omega : i < k ∨ i = k) with h1 | rfl
  · exact h i q h1 hq
  · rw [hp] at hq; cases hq; exact ho
theorem nrmOK_at {l : List PP} {k : Nat} {p : PP} (h : nrmOK l) (hp : l[k]? = some p) : okAt l k p := h k p (List.getElem?_eq_some_iff.1 hp).1 hp
theorem kpn {w W W1 : World} {p0 p1 p2 : Addr} {c0 c1 c2 : Value} (h : W.cell? p0 = some c0 ∧ W.cell? p1 = some c1 ∧ W.cell? p2 = some c2 ∧ Below w.heap.size w W) (hb : Below W.heap.size W W1) :
    W1.cell? p0 = some c0 ∧ W1.cell? p1 = some c1 ∧ W1.cell? p2 = some c2 ∧ Below w.heap.size w W1 :=
  ⟨carry hb h.1, carry hb h.2.1, carry hb h.2.2.1, below_then h.2.2.2 hb⟩
theorem kpn2 {w W W1 : World} {p0 p1 : Addr} {c0 c1 : Value} (h : W.cell? p0 = some c0 ∧ W.cell? p1 = some c1 ∧ Below w.heap.size w W) (hb : Below W.heap.size W W1) :
    W1.cell? p0 = some c0 ∧ W1.cell? p1 = some c1 ∧ Below w.heap.size w W1 :=
  ⟨carry hb h.1, carry hb h.2.1, below_then h.2.2 hb⟩
def NrPost (l : List PP) (w : World) : Ending → World → Prop := fun e w' => ∃ z : Bool, e = .returned (.bool z) ∧ (z = true ↔ nrmOK l) ∧ Below w.heap.size w w'
theorem rnormal_any (l : List PP) (v : Value) (w : World) (hl : Big l) (hf : FitL l) (hr : Rd w v l) (hcap : CapOK v) : Calls Try.prog 37 #[v] w (NrPost l w) := by
  unfold Big at hl
  obtain ⟨ad, cap, rfl, hc⟩ := hr
  have hNc := hcap _ _ _ rfl
  clear hcap
  have HC := Lib.hid hc
  have HF := Lib.hid hf
  obtain ⟨N, hN⟩ : ∃ N, N = l.length := ⟨_, rfl⟩
  have HN := Lib.hid hN
  rw [← hN] at hl hNc ⊢
  clear hc hf hN
  go_enter Try.func37, Try.ntmps37
  go_wp2
  go_loopg [13, 3, 4, 6, 7, 8, 9, 10, 40] N (fun g s13 s3 s4 s6 s7 s8 s9 s10 s40 wr => ∃ k : Nat, k ≤ N ∧ N - k ≤ g ∧ s13 = .int .i64 k ∧ Hid (Below w.heap.size w wr ∧ okTo l k))
  case atStart => exact ⟨0, by omega, by omega, rfl, Below.refl _ _, fun i p hi => by omega⟩
  case round =>
    obtain ⟨k, hk, hg, rfl, HB⟩ := hrel
    by_cases hlt : k < N
    · obtain ⟨x, hx⟩ : ∃ x, l[k]? = some x := ⟨_, List.getElem?_eq_getElem (by rw [← HN.out]; exact hlt)⟩
      obtain ⟨blk, off, rfl, hblk, hc0, hc1⟩ := HC.out k x hx
      have f0 := carryB HB.out.1 hblk hc0
      have f1 := carryB HB.out.1 hblk hc1
      have HX := Lib.hid hx
      have hfx := HF.out x (List.mem_of_getElem? hx)
      obtain ⟨a, n⟩ := x
      have HFX := Lib.hid hfx
      have HV : Hid (∀ W, Calls Try.prog 39 #[.agg #[.int .u32 (a : Int), .int .i64 n]] W fun e w' => e = .returned (.bool (V (a, n))) ∧ Below W.heap.size W w') := fun W => rvalid_any a hfx.1 n hfx.2 W
      clear hc0 hc1 hx hfx
      dsimp only at f0 f1
      have hkc : k ≤ cap := by omega
      go_wp2_with fail
      have g0 : (wr.alloc (.cells #[.int .u32 (a : Int), .int .i64 n] 28)).cell? ⟨wr.heap.size, 0, none⟩ = some (.int .u32 (a : Int)) := by simp
      have g1 : (wr.alloc (.cells #[.int .u32 (a : Int), .int .i64 n] 28)).cell? ⟨wr.heap.size, 1, none⟩ = some (.int .i64 n) := by simp
      have BA := Lib.hid (below_then HB.out.1 (below_alloc wr (.cells #[.int .u32 (a : Int), .int .i64 n] 28)))
      have hqa : wr.heap.size < (wr.alloc (.cells #[.int .u32 (a : Int), .int .i64 n] 28)).heap.size := by simp
      obtain ⟨q4, hq4⟩ : ∃ q4, wr.heap.size = q4 := ⟨_, rfl⟩
      have hwq : w.heap.size ≤ q4 := by rw [← hq4]; exact HB.out.1.size
      have OKk := Lib.hid HB.out.2
      rw [hq4] at g0 g1 hqa ⊢
      clear hq4 f0 f1 HB
      generalize wr.alloc (.cells #[.int .u32 (a : Int), .int .i64 n] 28) = wa at *
      cases hv : V (a, n)
      · have HNo : Hid (¬ nrmOK l) := fun h => by have := (nrmOK_at h HX.out).1; rw [hv] at this; cases this
        rw [hv] at HV
        clear hv
        refine wp_region_held_drew (S := fun W => W.cell? ⟨q4, 0, none⟩ = some (.int .u32 (a : Int)) ∧ W.cell? ⟨q4, 1, none⟩ = some (.int .i64 n) ∧ Below w.heap.size w W) (by kernel_rfl) ⟨g0, g1, BA.out.drew⟩ (fun hS0 => ?_)
        refine wpAnyH_take (i := 0) (oi := ⟨some 18, _, _, _, _, _⟩) (v := .agg #[.int .u32 (a : Int), .int .i64 n]) rfl (by kernel_rfl) (by kernel_rfl) (by kernel_rfl) (fun _ _ _ h => h) (Or.inl ⟨by rfl, by intro w' hw'; (try dsimp only at hw'); go_simp⟩) hS0 ?_
        simp only [Act.put, List.setIfInBounds_toArray, List.set_cons_zero, List.set_cons_succ]
        refine wpAnyH_ready (rs := [1]) (by kernel_rfl) (by simp) ?_
        refine AllReadyH.cons rfl (fun K hK => ?_) AllReadyH.nil
        go_simp
        go_at_call 39
        refine (HV.out _).mono ?_
        rintro e w3 ⟨rfl, hb⟩
        have hS1 := kpn2 hS0 hb
        go_wp2_with fail
        refine hK.out _ _ hS1 (fun _ => ?_)
        clear hK K
        (try simp only [Act.put, List.setIfInBounds_toArray, List.set_cons_zero, List.set_cons_succ])
        refine wpAnyH_take (i := 2) (oi := ⟨some 20, _, _, _, _, _⟩) (v := .bool true) rfl (by kernel_rfl) (by kernel_rfl) (by kernel_rfl) (fun _ _ _ h => h) (Or.inl ⟨by rfl, by intro w' hw'; (try dsimp only at hw'); go_simp⟩) hS1 ?_
        simp only [Act.put, List.setIfInBounds_toArray, List.set_cons_zero, List.set_cons_succ]
        refine wpAnyH_take (i := 3) (oi := ⟨some 21, _, _, _, _, _⟩) (v := .bool true) rfl (by kernel_rfl) (by kernel_rfl) (by kernel_rfl) (fun _ _ _ h => h) (Or.inl ⟨by rfl, by intro w' hw'; (try dsimp only at hw'); go_simp⟩) hS1 ?_
        simp only [Act.put, List.setIfInBounds_toArray, List.set_cons_zero, List.set_cons_succ]
        refine wpAnyH_take (i := 4) (oi := ⟨some 22, _, _, _, _, _⟩) (v := undef) rfl (by kernel_rfl) (by kernel_rfl) (by kernel_rfl) (fun _ _ _ h => h) (Or.inr ⟨by rfl, rfl⟩) hS1 ?_
        (try simp only [Act.put, List.setIfInBounds_toArray, List.set_cons_zero, List.set_cons_succ])
        refine wpAnyH_take (i := 5) (oi := ⟨some 23, _, _, _, _, _⟩) (v := undef) rfl (by kernel_rfl) (by kernel_rfl) (by kernel_rfl) (fun _ _ _ h => h) (Or.inr ⟨by rfl, rfl⟩) hS1 ?_
        (try simp only [Act.put, List.setIfInBounds_toArray, List.set_cons_zero, List.set_cons_succ])
        refine wpAnyH_take (i := 6) (oi := ⟨some 24, _, _, _, _, _⟩) (v := undef) rfl (by kernel_rfl) (by kernel_rfl) (by kernel_rfl) (fun _ _ _ h => h) (Or.inr ⟨by rfl, rfl⟩) hS1 ?_
        (try simp only [Act.put, List.setIfInBounds_toArray, List.set_cons_zero, List.set_cons_succ])
        refine wpAnyH_take (i := 7) (oi := ⟨some 25, _, _, _, _, _⟩) (v := undef) rfl (by kernel_rfl) (by kernel_rfl) (by kernel_rfl) (fun _ _ _ h => h) (Or.inr ⟨by rfl, rfl⟩) hS1 ?_
        (try simp only [Act.put, List.setIfInBounds_toArray, List.set_cons_zero, List.set_cons_succ])
        refine wpAnyH_take (i := 8) (oi := ⟨some 26, _, _, _, _, _⟩) (v := undef) rfl (by kernel_rfl) (by kernel_rfl) (by kernel_rfl) (fun _ _ _ h => h) (Or.inr ⟨by rfl, rfl⟩) hS1 ?_
        (try simp only [Act.put, List.setIfInBounds_toArray, List.set_cons_zero, List.set_cons_succ])
        refine wpAnyH_take (i := 9) (oi := ⟨some 27, _, _, _, _, _⟩) (v := undef) rfl (by kernel_rfl) (by kernel_rfl) (by kernel_rfl) (fun _ _ _ h => h) (Or.inr ⟨by rfl, rfl⟩) hS1 ?_
        (try simp only [Act.put, List.setIfInBounds_toArray, List.set_cons_zero, List.set_cons_succ])
        refine wpAnyH_take (i := 10) (oi := ⟨some 28, _, _, _, _, _⟩) (v := undef) rfl (by kernel_rfl) (by kernel_rfl) (by kernel_rfl) (fun _ _ _ h => h) (Or.inr ⟨by rfl, rfl⟩) hS1 ?_
        (try simp only [Act.put, List.setIfInBounds_toArray, List.set_cons_zero, List.set_cons_succ])
        refine wpAnyH_take (i := 11) (oi := ⟨some 29, _, _, _, _, _⟩) (v := undef) rfl (by kernel_rfl) (by kernel_rfl) (by kernel_rfl) (fun _ _ _ h => h) (Or.inr ⟨by rfl, rfl⟩) hS1 ?_
        (try simp only [Act.put, List.setIfInBounds_toArray, List.set_cons_zero, List.set_cons_succ])
        refine wpAnyH_take (i := 12) (oi := ⟨some 30, _, _, _, _, _⟩) (v := undef) rfl (by kernel_rfl) (by kernel_rfl) (by kernel_rfl) (fun _ _ _ h => h) (Or.inr ⟨by rfl, rfl⟩) hS1 ?_
        (try simp only [Act.put, List.setIfInBounds_toArray, List.set_cons_zero, List.set_cons_succ])
        refine wpAnyH_take (i := 13) (oi := ⟨some 31, _, _, _, _, _⟩) (v := undef) rfl (by kernel_rfl) (by kernel_rfl) (by kernel_rfl) (fun _ _ _ h => h) (Or.inr ⟨by rfl, rfl⟩) hS1 ?_
        (try simp only [Act.put, List.setIfInBounds_toArray, List.set_cons_zero, List.set_cons_succ])
        refine wpAnyH_take (i := 14) (oi := ⟨some 32, _, _, _, _, _⟩) (v := undef) rfl (by kernel_rfl) (by kernel_rfl) (by kernel_rfl) (fun _ _ _ h => h) (Or.inr ⟨by rfl, rfl⟩) hS1 ?_
        (try simp only [Act.put, List.setIfInBounds_toArray, List.set_cons_zero, List.set_cons_succ])
        refine wpAnyH_take (i := 15) (oi := ⟨some 33, _, _, _, _, _⟩) (v := undef) rfl (by kernel_rfl) (by kernel_rfl) (by kernel_rfl) (fun _ _ _ h => h) (Or.inr ⟨by rfl, rfl⟩) hS1 ?_
        (try simp only [Act.put, List.setIfInBounds_toArray, List.set_cons_zero, List.set_cons_succ])
        refine wpAnyH_take (i := 16) (oi := ⟨some 34, _, _, _, _, _⟩) (v := undef) rfl (by kernel_rfl) (by kernel_rfl) (by kernel_rfl) (fun _ _ _ h => h) (Or.inr ⟨by rfl, rfl⟩) hS1 ?_
        (try simp only [Act.put, List.setIfInBounds_toArray, List.set_cons_zero, List.set_cons_succ])
        refine wpAnyH_take (i := 17) (oi := ⟨some 35, _, _, _, _, _⟩) (v := .bool true) rfl (by kernel_rfl) (by kernel_rfl) (by kernel_rfl) (fun _ _ _ h => h) (Or.inl ⟨by rfl, by intro w' hw'; (try dsimp only at hw'); go_simp⟩) hS1 ?_
        simp only [Act.put, List.setIfInBounds_toArray, List.set_cons_zero, List.set_cons_succ]
        refine wpAnyH_done (by kernel_rfl) ?_ _
        go_wp2
        go_ret
        exact ⟨false, rfl, ⟨(fun h => by cases h), fun h => absurd h HNo.out⟩, hS1.2.2⟩
      · have HVx := Lib.hid hv
        rw [hv] at HV
        clear hv
        rcases Nat.eq_zero_or_pos k with rfl | hkp
        · have hlo : Hid (∀ q, 0 < 0 → l[0 - 1]? = some q → q.1 < a) := fun q h => absurd h (by omega)
          refine wp_region_held_drew (S := fun W => W.cell? ⟨q4, 0, none⟩ = some (.int .u32 (a : Int)) ∧ W.cell? ⟨q4, 1, none⟩ = some (.int .i64 n) ∧ Below w.heap.size w W) (by kernel_rfl) ⟨g0, g1, BA.out.drew⟩ (fun hS0 => ?_)
          refine wpAnyH_take (i := 0) (oi := ⟨some 18, _, _, _, _, _⟩) (v := .agg #[.int .u32 (a : Int), .int .i64 n]) rfl (by kernel_rfl) (by kernel_rfl) (by kernel_rfl) (fun _ _ _ h => h) (Or.inl ⟨by rfl, by intro w' hw'; (try dsimp only at hw'); go_simp⟩) hS0 ?_
          simp only [Act.put, List.setIfInBounds_toArray, List.set_cons_zero, List.set_cons_succ]
          refine wpAnyH_ready (rs := [1]) (by kernel_rfl) (by simp) ?_
          refine AllReadyH.cons rfl (fun K hK => ?_) AllReadyH.nil
          go_simp
          go_at_call 39
          refine (HV.out _).mono ?_
          rintro e w3 ⟨rfl, hb⟩
          have hS1 := kpn2 hS0 hb
          go_wp2_with fail
          refine hK.out _ _ hS1 (fun _ => ?_)
          clear hK K
          (try simp only [Act.put, List.setIfInBounds_toArray, List.set_cons_zero, List.set_cons_succ])
          refine wpAnyH_take (i := 2) (oi := ⟨some 20, _, _, _, _, _⟩) (v := .bool false) rfl (by kernel_rfl) (by kernel_rfl) (by kernel_rfl) (fun _ _ _ h => h) (Or.inl ⟨by rfl, by intro w' hw'; (try dsimp only at hw'); go_simp⟩) hS1 ?_
          simp only [Act.put, List.setIfInBounds_toArray, List.set_cons_zero, List.set_cons_succ]
          refine wpAnyH_take (i := 3) (oi := ⟨some 21, _, _, _, _, _⟩) (v := .bool false) rfl (by kernel_rfl) (by kernel_rfl) (by kernel_rfl) (fun _ _ _ h => h) (Or.inl ⟨by rfl, by intro w' hw'; (try dsimp only at hw'); go_simp⟩) hS1 ?_
          simp only [Act.put, List.setIfInBounds_toArray, List.set_cons_zero, List.set_cons_succ]
          refine wpAnyH_take (i := 4) (oi := ⟨some 22, _, _, _, _, _⟩) (v := .int .i64 0) rfl (by kernel_rfl) (by kernel_rfl) (by kernel_rfl) (fun _ _ _ h => h) (Or.inl ⟨by rfl, by intro w' hw'; (try dsimp only at hw'); go_simp⟩) hS1 ?_
          simp only [Act.put, List.setIfInBounds_toArray, List.set_cons_zero, List.set_cons_succ]
          refine wpAnyH_take (i := 5) (oi := ⟨some 23, _, _, _, _, _⟩) (v := .bool false) rfl (by kernel_rfl) (by kernel_rfl) (by kernel_rfl) (fun _ _ _ h => h) (Or.inl ⟨by rfl, by intro w' hw'; (try dsimp only at hw'); go_simp⟩) hS1 ?_
          simp only [Act.put, List.setIfInBounds_toArray, List.set_cons_zero, List.set_cons_succ]
          refine wpAnyH_take (i := 6) (oi := ⟨some 24, _, _, _, _, _⟩) (v := .bool false) rfl (by kernel_rfl) (by kernel_rfl) (by kernel_rfl) (fun _ _ _ h => h) (Or.inl ⟨by rfl, by intro w' hw'; (try dsimp only at hw'); go_simp⟩) hS1 ?_
          simp only [Act.put, List.setIfInBounds_toArray, List.set_cons_zero, List.set_cons_succ]
          refine wpAnyH_take (i := 7) (oi := ⟨some 25, _, _, _, _, _⟩) (v := undef) rfl (by kernel_rfl) (by kernel_rfl) (by kernel_rfl) (fun _ _ _ h => h) (Or.inr ⟨by rfl, rfl⟩) hS1 ?_
          (try simp only [Act.put, List.setIfInBounds_toArray, List.set_cons_zero, List.set_cons_succ])
          refine wpAnyH_take (i := 8) (oi := ⟨some 26, _, _, _, _, _⟩) (v := undef) rfl (by kernel_rfl) (by kernel_rfl) (by kernel_rfl) (fun _ _ _ h => h) (Or.inr ⟨by rfl, rfl⟩) hS1 ?_
          (try simp only [Act.put, List.setIfInBounds_toArray, List.set_cons_zero, List.set_cons_succ])
          refine wpAnyH_take (i := 9) (oi := ⟨some 27, _, _, _, _, _⟩) (v := undef) rfl (by kernel_rfl) (by kernel_rfl) (by kernel_rfl) (fun _ _ _ h => h) (Or.inr ⟨by rfl, rfl⟩) hS1 ?_
          (try simp only [Act.put, List.setIfInBounds_toArray, List.set_cons_zero, List.set_cons_succ])
          refine wpAnyH_take (i := 10) (oi := ⟨some 28, _, _, _, _, _⟩) (v := undef) rfl (by kernel_rfl) (by kernel_rfl) (by kernel_rfl) (fun _ _ _ h => h) (Or.inr ⟨by rfl, rfl⟩) hS1 ?_
          (try simp only [Act.put, List.setIfInBounds_toArray, List.set_cons_zero, List.set_cons_succ])
          refine wpAnyH_take (i := 11) (oi := ⟨some 29, _, _, _, _, _⟩) (v := undef) rfl (by kernel_rfl) (by kernel_rfl) (by kernel_rfl) (fun _ _ _ h => h) (Or.inr ⟨by rfl, rfl⟩) hS1 ?_
          (try simp only [Act.put, List.setIfInBounds_toArray, List.set_cons_zero, List.set_cons_succ])
          refine wpAnyH_take (i := 12) (oi := ⟨some 30, _, _, _, _, _⟩) (v := undef) rfl (by kernel_rfl) (by kernel_rfl) (by kernel_rfl) (fun _ _ _ h => h) (Or.inr ⟨by rfl, rfl⟩) hS1 ?_
          (try simp only [Act.put, List.setIfInBounds_toArray, List.set_cons_zero, List.set_cons_succ])
          refine wpAnyH_take (i := 13) (oi := ⟨some 31, _, _, _, _, _⟩) (v := undef) rfl (by kernel_rfl) (by kernel_rfl) (by kernel_rfl) (fun _ _ _ h => h) (Or.inr ⟨by rfl, rfl⟩) hS1 ?_
          (try simp only [Act.put, List.setIfInBounds_toArray, List.set_cons_zero, List.set_cons_succ])
          refine wpAnyH_take (i := 14) (oi := ⟨some 32, _, _, _, _, _⟩) (v := undef) rfl (by kernel_rfl) (by kernel_rfl) (by kernel_rfl) (fun _ _ _ h => h) (Or.inr ⟨by rfl, rfl⟩) hS1 ?_
          (try simp only [Act.put, List.setIfInBounds_toArray, List.set_cons_zero, List.set_cons_succ])
          refine wpAnyH_take (i := 15) (oi := ⟨some 33, _, _, _, _, _⟩) (v := undef) rfl (by kernel_rfl) (by kernel_rfl) (by kernel_rfl) (fun _ _ _ h => h) (Or.inr ⟨by rfl, rfl⟩) hS1 ?_
          (try simp only [Act.put, List.setIfInBounds_toArray, List.set_cons_zero, List.set_cons_succ])
          refine wpAnyH_take (i := 16) (oi := ⟨some 34, _, _, _, _, _⟩) (v := .bool false) rfl (by kernel_rfl) (by kernel_rfl) (by kernel_rfl) (fun _ _ _ h => h) (Or.inl ⟨by rfl, by intro w' hw'; (try dsimp only at hw'); go_simp⟩) hS1 ?_
          simp only [Act.put, List.setIfInBounds_toArray, List.set_cons_zero, List.set_cons_succ]
          refine wpAnyH_take (i := 17) (oi := ⟨some 35, _, _, _, _, _⟩) (v := .bool false) rfl (by kernel_rfl) (by kernel_rfl) (by kernel_rfl) (fun _ _ _ h => h) (Or.inl ⟨by rfl, by intro w' hw'; (try dsimp only at hw'); go_simp⟩) hS1 ?_
          simp only [Act.put, List.setIfInBounds_toArray, List.set_cons_zero, List.set_cons_succ]
          refine wpAnyH_done (by kernel_rfl) ?_ _
          have BW : Hid (Below w.heap.size w w3) := hS1.2.2
          have HOK : Hid (okTo l (0 + 1)) := okTo_succ OKk.out HX.out ⟨HVx.out, hlo.out, fun j q h => by omega⟩
          go_wp2_with fail
          refine wp_loop_rounds 1 ?_
          rw [rounds_succ]
          go_wp2_with fail
          go_roundg (N - (0 + 1))
          case measure => omega
          case rel => exact ⟨0 + 1, by omega, Nat.le_refl _, by go_num, BW.out, HOK.out⟩
        · obtain ⟨⟨za, zn⟩, hz⟩ : ∃ z, l[k - 1]? = some z := ⟨_, List.getElem?_eq_getElem (by rw [← HN.out]; omega)⟩
          obtain ⟨b', o', he', hb', d0, d1⟩ := HC.out (k - 1) _ hz
          cases he'
          have e0 := carryB BA.out hb' d0
          dsimp only at e0
          have HZ := Lib.hid hz
          have wk : IntKind.i64.wrap ((k : Int) - 1) = (k : Int) - 1 := IntWalk.i64_in _ (by constructor <;> omega)
          have wk0 : ((k : Int) - 1).toNat = k - 1 := by omega
          have wk1 : 0 ≤ (k : Int) - 1 := by omega
          have wk2 : (k : Int) - 1 < (N : Int) := by omega
          have wk4 : ¬ (k : Int) < 1 := by omega
          have wk5 : ¬ k < 1 := by omega
          have wk3 : ((k : Int) - 1) = ((k - 1 : Nat) : Int) := by omega
          clear hz d0 d1
          by_cases hza : a ≤ za
          · have HNo : Hid (¬ nrmOK l) := fun h => by have := (nrmOK_at h HX.out).2.1 _ hkp HZ.out; dsimp only at this; omega
            clear wk3
            refine wp_region_held_drew (S := fun W => W.cell? ⟨q4, 0, none⟩ = some (.int .u32 (a : Int)) ∧ W.cell? ⟨q4, 1, none⟩ = some (.int .i64 n) ∧ W.cell? ⟨blk, off + (k - 1) * 2, none⟩ = some (.int .u32 (za : Int)) ∧ Below w.heap.size w W) (by kernel_rfl) ⟨g0, g1, e0, BA.out.drew⟩ (fun hS0 => ?_)
            refine wpAnyH_take (i := 0) (oi := ⟨some 18, _, _, _, _, _⟩) (v := .agg #[.int .u32 (a : Int), .int .i64 n]) rfl (by kernel_rfl) (by kernel_rfl) (by kernel_rfl) (fun _ _ _ h => h) (Or.inl ⟨by rfl, by intro w' hw'; (try dsimp only at hw'); go_simp⟩) hS0 ?_
            simp only [Act.put, List.setIfInBounds_toArray, List.set_cons_zero, List.set_cons_succ]
            refine wpAnyH_ready (rs := [1]) (by kernel_rfl) (by simp) ?_
            refine AllReadyH.cons rfl (fun K hK => ?_) AllReadyH.nil
            go_simp
            go_at_call 39
            refine (HV.out _).mono ?_
            rintro e w3 ⟨rfl, hb⟩
            have hS1 := kpn hS0 hb
            go_wp2_with fail
            refine hK.out _ _ hS1 (fun _ => ?_)
            clear hK K
            (try simp only [Act.put, List.setIfInBounds_toArray, List.set_cons_zero, List.set_cons_succ])
            refine wpAnyH_take (i := 2) (oi := ⟨some 20, _, _, _, _, _⟩) (v := .bool false) rfl (by kernel_rfl) (by kernel_rfl) (by kernel_rfl) (fun _ _ _ h => h) (Or.inl ⟨by rfl, by intro w' hw'; (try dsimp only at hw'); go_simp⟩) hS1 ?_
            simp only [Act.put, List.setIfInBounds_toArray, List.set_cons_zero, List.set_cons_succ]
            refine wpAnyH_take (i := 3) (oi := ⟨some 21, _, _, _, _, _⟩) (v := .bool false) rfl (by kernel_rfl) (by kernel_rfl) (by kernel_rfl) (fun _ _ _ h => h) (Or.inl ⟨by rfl, by intro w' hw'; (try dsimp only at hw'); go_simp⟩) hS1 ?_
            simp only [Act.put, List.setIfInBounds_toArray, List.set_cons_zero, List.set_cons_succ]
            refine wpAnyH_take (i := 4) (oi := ⟨some 22, _, _, _, _, _⟩) (v := .int .i64 (k : Int)) rfl (by kernel_rfl) (by kernel_rfl) (by kernel_rfl) (fun _ _ _ h => h) (Or.inl ⟨by rfl, by intro w' hw'; (try dsimp only at hw'); go_simp⟩) hS1 ?_
            simp only [Act.put, List.setIfInBounds_toArray, List.set_cons_zero, List.set_cons_succ]
            refine wpAnyH_take (i := 5) (oi := ⟨some 23, _, _, _, _, _⟩) (v := .bool true) rfl (by kernel_rfl) (by kernel_rfl) (by kernel_rfl) (fun _ _ _ h => h) (Or.inl ⟨by rfl, by intro w' hw'; (try dsimp only at hw'); go_simp⟩) hS1 ?_
            simp only [Act.put, List.setIfInBounds_toArray, List.set_cons_zero, List.set_cons_succ]
            refine wpAnyH_take (i := 6) (oi := ⟨some 24, _, _, _, _, _⟩) (v := .bool true) rfl (by kernel_rfl) (by kernel_rfl) (by kernel_rfl) (fun _ _ _ h => h) (Or.inl ⟨by rfl, by intro w' hw'; (try dsimp only at hw'); go_simp⟩) hS1 ?_
            simp only [Act.put, List.setIfInBounds_toArray, List.set_cons_zero, List.set_cons_succ]
            refine wpAnyH_take (i := 7) (oi := ⟨some 25, _, _, _, _, _⟩) (v := .slice (some ⟨blk, off, none⟩) N cap) rfl (by kernel_rfl) (by kernel_rfl) (by kernel_rfl) (fun _ _ _ h => h) (Or.inl ⟨by rfl, by intro w' hw'; (try dsimp only at hw'); go_simp⟩) hS1 ?_
            simp only [Act.put, List.setIfInBounds_toArray, List.set_cons_zero, List.set_cons_succ]
            refine wpAnyH_take (i := 8) (oi := ⟨some 26, _, _, _, _, _⟩) (v := .int .i64 (k : Int)) rfl (by kernel_rfl) (by kernel_rfl) (by kernel_rfl) (fun _ _ _ h => h) (Or.inl ⟨by rfl, by intro w' hw'; (try dsimp only at hw'); go_simp⟩) hS1 ?_
            simp only [Act.put, List.setIfInBounds_toArray, List.set_cons_zero, List.set_cons_succ]
            refine wpAnyH_take (i := 9) (oi := ⟨some 27, _, _, _, _, _⟩) (v := .int .i64 ((k : Int) - 1)) rfl (by kernel_rfl) (by kernel_rfl) (by kernel_rfl) (fun _ _ _ h => h) (Or.inl ⟨by rfl, by intro w' hw'; (try dsimp only at hw'); go_simp⟩) hS1 ?_
            simp only [Act.put, List.setIfInBounds_toArray, List.set_cons_zero, List.set_cons_succ]
            refine wpAnyH_take (i := 10) (oi := ⟨some 28, _, _, _, _, _⟩) (v := .pointer (some ⟨blk, off + (k - 1) * 2, none⟩)) rfl (by kernel_rfl) (by kernel_rfl) (by kernel_rfl) (fun _ _ _ h => h) (Or.inl ⟨by rfl, by intro w' hw'; (try dsimp only at hw'); go_simp⟩) hS1 ?_
            simp only [Act.put, List.setIfInBounds_toArray, List.set_cons_zero, List.set_cons_succ]
            refine wpAnyH_take (i := 11) (oi := ⟨some 29, _, _, _, _, _⟩) (v := .pointer (some ⟨blk, off + (k - 1) * 2, none⟩)) rfl (by kernel_rfl) (by kernel_rfl) (by kernel_rfl) (fun _ _ _ h => h) (Or.inl ⟨by rfl, by intro w' hw'; (try dsimp only at hw'); go_simp⟩) hS1 ?_
            simp only [Act.put, List.setIfInBounds_toArray, List.set_cons_zero, List.set_cons_succ]
            refine wpAnyH_take (i := 12) (oi := ⟨some 30, _, _, _, _, _⟩) (v := .int .u32 (za : Int)) rfl (by kernel_rfl) (by kernel_rfl) (by kernel_rfl) (fun _ _ _ h => h) (Or.inl ⟨by rfl, by intro w' hw'; (try dsimp only at hw'); go_simp⟩) hS1 ?_
            simp only [Act.put, List.setIfInBounds_toArray, List.set_cons_zero, List.set_cons_succ]
            refine wpAnyH_take (i := 13) (oi := ⟨some 31, _, _, _, _, _⟩) (v := .pointer (some ⟨q4, 0, none⟩)) rfl (by kernel_rfl) (by kernel_rfl) (by kernel_rfl) (fun _ _ _ h => h) (Or.inl ⟨by rfl, by intro w' hw'; (try dsimp only at hw'); go_simp⟩) hS1 ?_
            simp only [Act.put, List.setIfInBounds_toArray, List.set_cons_zero, List.set_cons_succ]
            refine wpAnyH_take (i := 14) (oi := ⟨some 32, _, _, _, _, _⟩) (v := .int .u32 (a : Int)) rfl (by kernel_rfl) (by kernel_rfl) (by kernel_rfl) (fun _ _ _ h => h) (Or.inl ⟨by rfl, by intro w' hw'; (try dsimp only at hw'); go_simp⟩) hS1 ?_
            simp only [Act.put, List.setIfInBounds_toArray, List.set_cons_zero, List.set_cons_succ]
            refine wpAnyH_take (i := 15) (oi := ⟨some 33, _, _, _, _, _⟩) (v := .bool true) rfl (by kernel_rfl) (by kernel_rfl) (by kernel_rfl) (fun _ _ _ h => h) (Or.inl ⟨by rfl, by intro w' hw'; (try dsimp only at hw'); go_simp⟩) hS1 ?_
            simp only [Act.put, List.setIfInBounds_toArray, List.set_cons_zero, List.set_cons_succ]
            refine wpAnyH_take (i := 16) (oi := ⟨some 34, _, _, _, _, _⟩) (v := .bool true) rfl (by kernel_rfl) (by kernel_rfl) (by kernel_rfl) (fun _ _ _ h => h) (Or.inl ⟨by rfl, by intro w' hw'; (try dsimp only at hw'); go_simp⟩) hS1 ?_
            simp only [Act.put, List.setIfInBounds_toArray, List.set_cons_zero, List.set_cons_succ]
            refine wpAnyH_take (i := 17) (oi := ⟨some 35, _, _, _, _, _⟩) (v := .bool true) rfl (by kernel_rfl) (by kernel_rfl) (by kernel_rfl) (fun _ _ _ h => h) (Or.inl ⟨by rfl, by intro w' hw'; (try dsimp only at hw'); go_simp⟩) hS1 ?_
            simp only [Act.put, List.setIfInBounds_toArray, List.set_cons_zero, List.set_cons_succ]
            refine wpAnyH_done (by kernel_rfl) ?_ _
            go_wp2
            go_ret
            exact ⟨false, rfl, ⟨(fun h => by cases h), fun h => absurd h HNo.out⟩, hS1.2.2.2⟩
          · have hlo : Hid (∀ q, 0 < k → l[k - 1]? = some q → q.1 < a) := fun q _ hq => by rw [HZ.out] at hq; cases hq; dsimp only; omega
            have hd : decide (a ≤ za) = false := by simpa using hza
            clear wk3
            refine wp_region_held_drew (S := fun W => W.cell? ⟨q4, 0, none⟩ = some (.int .u32 (a : Int)) ∧ W.cell? ⟨q4, 1, none⟩ = some (.int .i64 n) ∧ W.cell? ⟨blk, off + (k - 1) * 2, none⟩ = some (.int .u32 (za : Int)) ∧ Below w.heap.size w W) (by kernel_rfl) ⟨g0, g1, e0, BA.out.drew⟩ (fun hS0 => ?_)
            refine wpAnyH_take (i := 0) (oi := ⟨some 18, _, _, _, _, _⟩) (v := .agg #[.int .u32 (a : Int), .int .i64 n]) rfl (by kernel_rfl) (by kernel_rfl) (by kernel_rfl) (fun _ _ _ h => h) (Or.inl ⟨by rfl, by intro w' hw'; (try dsimp only at hw'); go_simp⟩) hS0 ?_
            simp only [Act.put, List.setIfInBounds_toArray, List.set_cons_zero, List.set_cons_succ]
            refine wpAnyH_ready (rs := [1]) (by kernel_rfl) (by simp) ?_
            refine AllReadyH.cons rfl (fun K hK => ?_) AllReadyH.nil
            go_simp
            go_at_call 39
            refine (HV.out _).mono ?_
            rintro e w3 ⟨rfl, hb⟩
            have hS1 := kpn hS0 hb
            go_wp2_with fail
            refine hK.out _ _ hS1 (fun _ => ?_)
            clear hK K
            (try simp only [Act.put, List.setIfInBounds_toArray, List.set_cons_zero, List.set_cons_succ])
            refine wpAnyH_take (i := 2) (oi := ⟨some 20, _, _, _, _, _⟩) (v := .bool false) rfl (by kernel_rfl) (by kernel_rfl) (by kernel_rfl) (fun _ _ _ h => h) (Or.inl ⟨by rfl, by intro w' hw'; (try dsimp only at hw'); go_simp⟩) hS1 ?_
            simp only [Act.put, List.setIfInBounds_toArray, List.set_cons_zero, List.set_cons_succ]
            refine wpAnyH_take (i := 3) (oi := ⟨some 21, _, _, _, _, _⟩) (v := .bool false) rfl (by kernel_rfl) (by kernel_rfl) (by kernel_rfl) (fun _ _ _ h => h) (Or.inl ⟨by rfl, by intro w' hw'; (try dsimp only at hw'); go_simp⟩) hS1 ?_
            simp only [Act.put, List.setIfInBounds_toArray, List.set_cons_zero, List.set_cons_succ]
            refine wpAnyH_take (i := 4) (oi := ⟨some 22, _, _, _, _, _⟩) (v := .int .i64 (k : Int)) rfl (by kernel_rfl) (by kernel_rfl) (by kernel_rfl) (fun _ _ _ h => h) (Or.inl ⟨by rfl, by intro w' hw'; (try dsimp only at hw'); go_simp⟩) hS1 ?_
            simp only [Act.put, List.setIfInBounds_toArray, List.set_cons_zero, List.set_cons_succ]
            refine wpAnyH_take (i := 5) (oi := ⟨some 23, _, _, _, _, _⟩) (v := .bool true) rfl (by kernel_rfl) (by kernel_rfl) (by kernel_rfl) (fun _ _ _ h => h) (Or.inl ⟨by rfl, by intro w' hw'; (try dsimp only at hw'); go_simp⟩) hS1 ?_
            simp only [Act.put, List.setIfInBounds_toArray, List.set_cons_zero, List.set_cons_succ]
            refine wpAnyH_take (i := 6) (oi := ⟨some 24, _, _, _, _, _⟩) (v := .bool true) rfl (by kernel_rfl) (by kernel_rfl) (by kernel_rfl) (fun _ _ _ h => h) (Or.inl ⟨by rfl, by intro w' hw'; (try dsimp only at hw'); go_simp⟩) hS1 ?_
            simp only [Act.put, List.setIfInBounds_toArray, List.set_cons_zero, List.set_cons_succ]
            refine wpAnyH_take (i := 7) (oi := ⟨some 25, _, _, _, _, _⟩) (v := .slice (some ⟨blk, off, none⟩) N cap) rfl (by kernel_rfl) (by kernel_rfl) (by kernel_rfl) (fun _ _ _ h => h) (Or.inl ⟨by rfl, by intro w' hw'; (try dsimp only at hw'); go_simp⟩) hS1 ?_
            simp only [Act.put, List.setIfInBounds_toArray, List.set_cons_zero, List.set_cons_succ]
            refine wpAnyH_take (i := 8) (oi := ⟨some 26, _, _, _, _, _⟩) (v := .int .i64 (k : Int)) rfl (by kernel_rfl) (by kernel_rfl) (by kernel_rfl) (fun _ _ _ h => h) (Or.inl ⟨by rfl, by intro w' hw'; (try dsimp only at hw'); go_simp⟩) hS1 ?_
            simp only [Act.put, List.setIfInBounds_toArray, List.set_cons_zero, List.set_cons_succ]
            refine wpAnyH_take (i := 9) (oi := ⟨some 27, _, _, _, _, _⟩) (v := .int .i64 ((k : Int) - 1)) rfl (by kernel_rfl) (by kernel_rfl) (by kernel_rfl) (fun _ _ _ h => h) (Or.inl ⟨by rfl, by intro w' hw'; (try dsimp only at hw'); go_simp⟩) hS1 ?_
            simp only [Act.put, List.setIfInBounds_toArray, List.set_cons_zero, List.set_cons_succ]
            refine wpAnyH_take (i := 10) (oi := ⟨some 28, _, _, _, _, _⟩) (v := .pointer (some ⟨blk, off + (k - 1) * 2, none⟩)) rfl (by kernel_rfl) (by kernel_rfl) (by kernel_rfl) (fun _ _ _ h => h) (Or.inl ⟨by rfl, by intro w' hw'; (try dsimp only at hw'); go_simp⟩) hS1 ?_
            simp only [Act.put, List.setIfInBounds_toArray, List.set_cons_zero, List.set_cons_succ]
            refine wpAnyH_take (i := 11) (oi := ⟨some 29, _, _, _, _, _⟩) (v := .pointer (some ⟨blk, off + (k - 1) * 2, none⟩)) rfl (by kernel_rfl) (by kernel_rfl) (by kernel_rfl) (fun _ _ _ h => h) (Or.inl ⟨by rfl, by intro w' hw'; (try dsimp only at hw'); go_simp⟩) hS1 ?_
            simp only [Act.put, List.setIfInBounds_toArray, List.set_cons_zero, List.set_cons_succ]
            refine wpAnyH_take (i := 12) (oi := ⟨some 30, _, _, _, _, _⟩) (v := .int .u32 (za : Int)) rfl (by kernel_rfl) (by kernel_rfl) (by kernel_rfl) (fun _ _ _ h => h) (Or.inl ⟨by rfl, by intro w' hw'; (try dsimp only at hw'); go_simp⟩) hS1 ?_
            simp only [Act.put, List.setIfInBounds_toArray, List.set_cons_zero, List.set_cons_succ]
            refine wpAnyH_take (i := 13) (oi := ⟨some 31, _, _, _, _, _⟩) (v := .pointer (some ⟨q4, 0, none⟩)) rfl (by kernel_rfl) (by kernel_rfl) (by kernel_rfl) (fun _ _ _ h => h) (Or.inl ⟨by rfl, by intro w' hw'; (try dsimp only at hw'); go_simp⟩) hS1 ?_
            simp only [Act.put, List.setIfInBounds_toArray, List.set_cons_zero, List.set_cons_succ]
            refine wpAnyH_take (i := 14) (oi := ⟨some 32, _, _, _, _, _⟩) (v := .int .u32 (a : Int)) rfl (by kernel_rfl) (by kernel_rfl) (by kernel_rfl) (fun _ _ _ h => h) (Or.inl ⟨by rfl, by intro w' hw'; (try dsimp only at hw'); go_simp⟩) hS1 ?_
            simp only [Act.put, List.setIfInBounds_toArray, List.set_cons_zero, List.set_cons_succ]
            refine wpAnyH_take (i := 15) (oi := ⟨some 33, _, _, _, _, _⟩) (v := .bool false) rfl (by kernel_rfl) (by kernel_rfl) (by kernel_rfl) (fun _ _ _ h => h) (Or.inl ⟨by rfl, by intro w' hw'; (try dsimp only at hw'); go_simp⟩) hS1 ?_
            simp only [Act.put, List.setIfInBounds_toArray, List.set_cons_zero, List.set_cons_succ]
            refine wpAnyH_take (i := 16) (oi := ⟨some 34, _, _, _, _, _⟩) (v := .bool false) rfl (by kernel_rfl) (by kernel_rfl) (by kernel_rfl) (fun _ _ _ h => h) (Or.inl ⟨by rfl, by intro w' hw'; (try dsimp only at hw'); go_simp⟩) hS1 ?_
            simp only [Act.put, List.setIfInBounds_toArray, List.set_cons_zero, List.set_cons_succ]
            refine wpAnyH_take (i := 17) (oi := ⟨some 35, _, _, _, _, _⟩) (v := .bool false) rfl (by kernel_rfl) (by kernel_rfl) (by kernel_rfl) (fun _ _ _ h => h) (Or.inl ⟨by rfl, by intro w' hw'; (try dsimp only at hw'); go_simp⟩) hS1 ?_
            simp only [Act.put, List.setIfInBounds_toArray, List.set_cons_zero, List.set_cons_succ]
            refine wpAnyH_done (by kernel_rfl) ?_ _
            have c0 := hS1.1
            have c1 := hS1.2.1
            have BW : Hid (Below w.heap.size w w3) := hS1.2.2.2
            clear hS1 hS0
            clear g0 g1 hqa BA
            have hq3 := World.block_lt_of_cell? _ _ c0
            dsimp only at hq3
            go_wp2_with fail
            go_loopg [40, 6, 7, 8, 9, 10] k (fun g s40 s6 s7 s8 s9 s10 wj => ∃ j : Nat, j ≤ k ∧ k - j ≤ g ∧ s40 = .int .i64 j ∧ Hid (Below w3.heap.size w3 wj ∧ ∀ (j' : Nat) (q : PP), j' < j → l[j']? = some q → apart q (a, n)))
            case atStart => exact ⟨0, by omega, by omega, rfl, Below.refl _ _, fun j' q h => by omega⟩
            case round =>
              obtain ⟨j, hj, hgj, rfl, HJ⟩ := hrel
              by_cases hjk : j < k
              · obtain ⟨y, hy⟩ : ∃ y, l[j]? = some y := ⟨_, List.getElem?_eq_getElem (by rw [← HN.out]; omega)⟩
                obtain ⟨b2, o2, he2, hb2, d0, d1⟩ := HC.out j _ hy
                cases he2
                have x0 := carry HJ.out.1 (carryB BW.out hb2 d0)
                have x1 := carry HJ.out.1 (carryB BW.out hb2 d1)
                have p0 := carry HJ.out.1 c0
                have p1 := carry HJ.out.1 c1
                have HY := Lib.hid hy
                have hfy := HF.out y (List.mem_of_getElem? hy)
                have hvy := (OKk.out j y hjk hy).1
                obtain ⟨ya, yn⟩ := y
                have HC1 : Hid (∀ W, Calls Try.prog 40 #[.agg #[.int .u32 (ya : Int), .int .i64 yn], .agg #[.int .u32 (a : Int), .int .i64 n]] W fun e w' => e = .returned (.bool (C (ya, yn) (a, n))) ∧ Below W.heap.size W w') := fun W => rcovers_any ya hfy.1 yn hfy.2 a HFX.out.1 n HFX.out.2 W
                have HC2 : Hid (∀ W, Calls Try.prog 40 #[.agg #[.int .u32 (a : Int), .int .i64 n], .agg #[.int .u32 (ya : Int), .int .i64 yn]] W fun e w' => e = .returned (.bool (C (a, n) (ya, yn))) ∧ Below W.heap.size W w') := fun W => rcovers_any a HFX.out.1 n HFX.out.2 ya hfy.1 yn hfy.2 W
                have HP1 : Hid (∀ W, Calls Try.prog 78 #[.agg #[.int .u32 (a : Int), .int .i64 n]] W fun e w' => e = .returned (.tuple #[.agg #[.int .u32 ((pr (a, n)).1.1 : Int), .int .i64 (pr (a, n)).1.2], .bool (pr (a, n)).2]) ∧ Below W.heap.size W w') := fun W => rpar_any (a, n) HVx.out HFX.out.1 W
                have HP2 : Hid (∀ W, Calls Try.prog 78 #[.agg #[.int .u32 (ya : Int), .int .i64 yn]] W fun e w' => e = .returned (.tuple #[.agg #[.int .u32 ((pr (ya, yn)).1.1 : Int), .int .i64 (pr (ya, yn)).1.2], .bool (pr (ya, yn)).2]) ∧ Below W.heap.size W w') := fun W => rpar_any (ya, yn) hvy hfy.1 W
                have HAP : Hid (nrmOK l → apart (ya, yn) (a, n)) := fun h => (nrmOK_at h HX.out).2.2 j _ hjk HY.out
                have BB : Hid (Below w.heap.size w wr) := BW.out.trans (HJ.out.1.mono BW.out.size)
                have hqr : q4 < wr.heap.size := Nat.lt_of_lt_of_le hq3 HJ.out.1.size
                clear d0 d1 hy hfy hvy
                dsimp only at x0 x1
                cases h1 : C (ya, yn) (a, n)
                · have H1 := Lib.hid h1
                  rw [h1] at HC1
                  clear h1
                  go_wp2_with fail
                  go_at_call 40
                  refine (HC1.out _).mono ?_
                  rintro e w5 ⟨rfl, hb⟩
                  have B5 := Lib.hid (below_then (below_alloc _ _) hb)
                  have z0 := carry hb (p := ⟨wr.heap.size, 0, none⟩) (v := .int .u32 (ya : Int)) (by simp)
                  have z1 := carry hb (p := ⟨wr.heap.size, 1, none⟩) (v := .int .i64 yn) (by simp)
                  have p0 := carry B5.out p0
                  have p1 := carry B5.out p1
                  clear hb
                  cases h2 : C (a, n) (ya, yn)
                  · have H2 := Lib.hid h2
                    rw [h2] at HC2
                    clear h2
                    go_wp2_with fail
                    go_at_call 40
                    refine (HC2.out _).mono ?_
                    rintro e w6 ⟨rfl, hb⟩
                    have B6 := Lib.hid (below_then B5.out hb)
                    have z0 := carry hb z0
                    have z1 := carry hb z1
                    have p0 := carry hb p0
                    have p1 := carry hb p1
                    clear hb
                    obtain ⟨⟨⟨ua, un⟩, uz⟩, hpu⟩ : ∃ u, pr (a, n) = u := ⟨_, rfl⟩
                    obtain ⟨⟨⟨da, dn⟩, dz⟩, hpd⟩ : ∃ d, pr (ya, yn) = d := ⟨_, rfl⟩
                    rw [hpu] at HP1
                    rw [hpd] at HP2
                    dsimp only at HP1 HP2
                    have HPB : Hid (parB (ya, yn) (a, n) = (uz && (dz && decide ((ua, un) = (da, dn))))) := by show _ = _; unfold parB; rw [hpu, hpd]
                    clear hpu hpd
                    go_wp2_with fail
                    go_at_call 78
                    refine (HP1.out _).mono ?_
                    rintro e w7 ⟨rfl, hb⟩
                    have B7 := Lib.hid (below_then B6.out hb)
                    have z0 := carry hb z0
                    have z1 := carry hb z1
                    clear hb p0 p1
                    have z0 := carry (below_alloc w7 (.cells #[.int .u32 (ua : Int), .int .i64 un] 28)) z0
                    have z1 := carry (below_alloc w7 (.cells #[.int .u32 (ua : Int), .int .i64 un] 28)) z1
                    go_wp2_with fail
                    go_at_call 78
                    refine (HP2.out _).mono ?_
                    rintro e w8 ⟨rfl, hb⟩
                    have B8 := Lib.hid (below_then (below_then B7.out (below_alloc _ _)) hb)
                    have u0 := carry hb (p := ⟨w7.heap.size, 0, none⟩) (v := .int .u32 (ua : Int)) (by simp)
                    have u1 := carry hb (p := ⟨w7.heap.size, 1, none⟩) (v := .int .i64 un) (by simp)
                    have u0a := fun o => carry (below_alloc w8 o) u0
                    have u1a := fun o => carry (below_alloc w8 o) u1
                    clear hb z0 z1
                    have hz8 := Lib.hid (below_then B8.out (below_alloc w8 (.cells #[.int .u32 (da : Int), .int .i64 dn] 28)))
                    have KEEP : Hid (parB (ya, yn) (a, n) = false → ∀ j' q, j' < j + 1 → l[j']? = some q → apart q (a, n)) := fun hpb j' q h1 h2 => by
                      rcases (by omega : j' < j ∨ j' = j) with h3 | rfl
                      · exact HJ.out.2 j' q h3 h2
                      · rw [HY.out] at h2; cases h2; exact ⟨H1.out, H2.out, hpb⟩
                    cases uz
                    · have hpb : Hid (parB (ya, yn) (a, n) = false) := by show _ = _; rw [HPB.out]; rfl
                      go_wp2_with fail
                      go_roundg (k - (j + 1))
                      case measure => omega
                      case rel => exact ⟨j + 1, by omega, Nat.le_refl _, by go_num, HJ.out.1.trans (hz8.out.mono HJ.out.1.size), KEEP.out hpb.out⟩
                    · cases dz
                      · have hpb : Hid (parB (ya, yn) (a, n) = false) := by show _ = _; rw [HPB.out]; rfl
                        go_wp2_with fail
                        go_roundg (k - (j + 1))
                        case measure => omega
                        case rel => exact ⟨j + 1, by omega, Nat.le_refl _, by go_num, HJ.out.1.trans (hz8.out.mono HJ.out.1.size), KEEP.out hpb.out⟩
                      · by_cases heq : (ua, un) = (da, dn)
                        · have HNo : Hid (¬ nrmOK l) := fun h => by
                            have := (HAP.out h).2.2
                            rw [HPB.out, decide_eq_true heq] at this; cases this
                          obtain ⟨rfl, rfl⟩ := Prod.mk.inj heq
                          clear heq
                          go_wp2_with fail
                          go_ret
                          exact ⟨false, rfl, ⟨(fun h => by cases h), fun h => absurd h HNo.out⟩, BB.out.trans (hz8.out.mono BB.out.size)⟩
                        · have hpb : Hid (parB (ya, yn) (a, n) = false) := by show _ = _; rw [HPB.out, decide_eq_false heq]; rfl
                          have hpn := pp_ne heq
                          clear heq
                          rcases hpn with h | ⟨rfl, h⟩
                          all_goals
                            go_wp2_with fail
                            go_roundg (k - (j + 1))
                            case measure => omega
                            case rel => exact ⟨j + 1, by omega, Nat.le_refl _, by go_num, HJ.out.1.trans (hz8.out.mono HJ.out.1.size), KEEP.out hpb.out⟩
                  · have HNo : Hid (¬ nrmOK l) := fun h => by have := (HAP.out h).2.1; rw [h2] at this; cases this
                    rw [h2] at HC2
                    clear h2
                    go_wp2_with (go_at_call 40; refine (HC2.out _).mono ?_; rintro e w6 ⟨rfl, hb⟩; have B6 := Lib.hid (below_then B5.out hb); clear hb)
                    go_ret
                    exact ⟨false, rfl, ⟨(fun h => by cases h), fun h => absurd h HNo.out⟩, BB.out.trans (B6.out.mono BB.out.size)⟩
                · have HNo : Hid (¬ nrmOK l) := fun h => by have := (HAP.out h).1; rw [h1] at this; cases this
                  rw [h1] at HC1
                  clear h1
                  go_wp2_with (go_at_call 40; refine (HC1.out _).mono ?_; rintro e w5 ⟨rfl, hb⟩; have B5 := Lib.hid (below_then (below_alloc _ _) hb); clear hb)
                  go_ret
                  exact ⟨false, rfl, ⟨(fun h => by cases h), fun h => absurd h HNo.out⟩, BB.out.trans (B5.out.mono BB.out.size)⟩
              · have hjk' : j = k := by omega
                subst hjk'
                have HOK : Hid (okTo l (j + 1)) := okTo_succ OKk.out HX.out ⟨HVx.out, hlo.out, HJ.out.2⟩
                go_wp2_with fail
                go_roundg (N - (j + 1))
                case measure => omega
                case rel => exact ⟨j + 1, by omega, Nat.le_refl _, by go_num, BW.out.trans (HJ.out.1.mono BW.out.size), HOK.out⟩
    · have hkl : k = N := by omega
      subst hkl
      have hok : Hid (nrmOK l) := by have := HB.out.2; rw [HN.out] at this; exact this
      go_wp2
      go_ret
      exact ⟨true, rfl, ⟨fun _ => hok.out, fun _ => rfl⟩, HB.out.1⟩
end Go.Proofs.Ytegponbmelgngaa
end
section
namespace Go.Proofs.Ytegponbmelgngaa
set_option linter.unusedSimpArgs false
set_option linter.unusedVariables false
set_option maxHeartbeats 1000000

theorem keep_blk (v k : Nat) (hk : k < 32) : M.keepN v (31 - k) = v / 2 ^ (k + 1) * 2 ^ (k + 1) := by
  unfold M.keepN; rw [show 32 - (31 - k) = k + 1 by omega]
/-- the parent of a block as a prefix -/
theorem pr_pfx {x : Nat × Nat} (hx : x.2 < 32) : pr (pfx x) = ((x.1 / 2 ^ (x.2 + 1) * 2 ^ (x.2 + 1), ((31 - x.2 : Nat) : Int)), true) := by
  unfold pr pfx
  dsimp only
  rw [if_pos (by omega), show ((32 - x.2 : Nat) : Int) - 1 = ((31 - x.2 : Nat) : Int) by omega, low_in (by omega) (by omega), Int.toNat_natCast, keep_blk _ _ hx]
theorem pr_top {x : Nat × Nat} (hx : x.2 = 32) : (pr (pfx x)).2 = false := by
  unfold pr pfx
  dsimp only
  rw [if_neg (by omega)]
theorem parB_pfx {x y : Nat × Nat} (hx : x.2 ≤ 32) (hy : y.2 ≤ 32) : parB (pfx y) (pfx x) = true ↔ x.2 < 32 ∧ x.2 = y.2 ∧ x.1 / 2 ^ (x.2 + 1) * 2 ^ (x.2 + 1) = y.1 / 2 ^ (y.2 + 1) * 2 ^ (y.2 + 1) := by
  unfold parB
  by_cases h1 : x.2 < 32
  · by_cases h2 : y.2 < 32
    · rw [pr_pfx h1, pr_pfx h2]
      simp only [Bool.true_and, decide_eq_true_eq, Prod.mk.injEq]
      constructor
      · rintro ⟨e1, e2⟩; exact ⟨h1, by omega, e1⟩
      · rintro ⟨_, e1, e2⟩; exact ⟨e2, by omega⟩
    · rw [pr_top (x := y) (by omega)]
      simp
      omega
  · rw [pr_top (x := x) (by omega)]
    simp
    omega
theorem nrm_ok {S : Nat → Bool} {B : List (Nat × Nat)} (h : CM.Nrm S B) : nrmOK (B.map pfx) := by
  intro i p hi hp
  rw [List.getElem?_map] at hp
  obtain ⟨x, hx, rfl⟩ := Option.map_eq_some_iff.1 hp
  have hxm := List.mem_of_getElem? hx
  have hx32 := h.le x hxm
  have hlt : ∀ j y, j < i → B[j]? = some y → y.1 + 2 ^ y.2 ≤ x.1 := fun j y hj hy => by
    obtain ⟨hi', rfl⟩ := List.getElem?_eq_some_iff.1 hx
    obtain ⟨hj', rfl⟩ := List.getElem?_eq_some_iff.1 hy
    exact List.pairwise_iff_getElem.1 h.asc j i hj' hi' hj
  refine ⟨V_pfx hx32 (h.al x hxm), fun q h0 hq => ?_, fun j q hj hq => ?_⟩
  · rw [List.getElem?_map] at hq
    obtain ⟨y, hy, rfl⟩ := Option.map_eq_some_iff.1 hq
    have := hlt _ y (by omega) hy
    have := CM.pow_pos' y.2
    show y.1 < x.1
    omega
  · rw [List.getElem?_map] at hq
    obtain ⟨y, hy, rfl⟩ := Option.map_eq_some_iff.1 hq
    have hym := List.mem_of_getElem? hy
    have hy32 := h.le y hym
    have hl := hlt j y hj hy
    have hpy := CM.pow_pos' y.2
    have hpx := CM.pow_pos' x.2
    have hcon : ∀ {a b : Nat × Nat}, a.2 ≤ 32 → a.1 % 2 ^ a.2 = 0 → C (pfx a) (pfx b) = true → a.1 ≤ b.1 ∧ b.1 < a.1 + 2 ^ a.2 := fun {a b} ha1 ha2 hc => by
      have hv := C_V hc
      have hb : con (pfx a).1 (pfx a).2 (pfx b).1 = true := by
        have : cov (pfx a).1 (pfx a).2 (pfx b).1 (pfx b).2 = true := hc
        rwa [cov_in hv.2.1 hv.2.2.1] at this
      have := (con_in hv.1 _).1 hb
      have e : 32 - (pfx a).2.toNat = a.2 := congrArg Prod.snd (blk_pfx ha1)
      rw [e] at this
      exact this
    refine ⟨Bool.eq_false_iff.2 fun hc => ?_, Bool.eq_false_iff.2 fun hc => ?_, Bool.eq_false_iff.2 fun hc => ?_⟩
    · have := (hcon hy32 (h.al y hym) hc).2; omega
    · have := (hcon hx32 (h.al x hxm) hc).1; omega
    · obtain ⟨h1, h2, h3⟩ := (parB_pfx hx32 hy32).1 hc
      rw [← h2] at h3 hl hpy
      have bx := CM.in_base x.1 (x.2 + 1)
      have by' := CM.in_base y.1 (x.2 + 1)
      have ab := CM.base_al x.1 (x.2 + 1)
      rw [← h3] at by'
      have e2 : 2 ^ (x.2 + 1) = 2 ^ x.2 + 2 ^ x.2 := by rw [Nat.pow_succ]; omega
      have n1 := CM.nest (x := x.1) ab (h.al x hxm) (by omega) bx.1 bx.2 (Nat.le_refl _) (by omega)
      refine h.mx x hxm h1 fun z z1 z2 => ?_
      generalize x.1 / 2 ^ (x.2 + 1) * 2 ^ (x.2 + 1) = b at *
      by_cases hz : z < b + 2 ^ x.2
      · exact h.fl y hym z (by omega) (by rw [← h2]; omega)
      · exact h.fl x hxm z (by omega) (by omega)
theorem ok_asc {l : List PP} (h : nrmOK l) : ∀ (i j : Nat) (p q : PP), i < j → l[i]? = some p → l[j]? = some q → p.1 < q.1 := by
  intro i j
  induction j with
  | zero => intro p q hij; omega
  | succ j ih =>
    intro p q hij hp hq
    obtain ⟨r, hr⟩ : ∃ r, l[j]? = some r := ⟨_, List.getElem?_eq_getElem (by have := (List.getElem?_eq_some_iff.1 hq).1; omega)⟩
    have h1 := (nrmOK_at h hq).2.1 r (by omega) hr
    rcases (by omega : i < j ∨ i = j) with h2 | rfl
    · exact Nat.lt_trans (ih p r h2 hp hr) h1
    · rw [hp] at hr; cases hr; exact h1
theorem ok_def {l : List PP} (h : nrmOK l) : CM.Def (l.map blk) := by
  have hv : ∀ p ∈ l, V p = true := fun p hp => by obtain ⟨i, hi, rfl⟩ := List.mem_iff_getElem.1 hp; exact (nrmOK_at h (List.getElem?_eq_getElem hi)).1
  refine ⟨?_, ?_, ?_, ?_, ?_⟩
  · rw [List.pairwise_map, List.pairwise_iff_getElem]
    intro i j hi hj hij
    exact ok_asc h i j _ _ hij (List.getElem?_eq_getElem hi) (List.getElem?_eq_getElem hj)
  · intro x hx; obtain ⟨p, hp, rfl⟩ := List.mem_map.1 hx; exact blk_al (hv p hp)
  · intro x hx; obtain ⟨p, hp, rfl⟩ := List.mem_map.1 hx; exact blk_le p
  · intro x hx y hy z h1 h2
    obtain ⟨p, hp, rfl⟩ := List.mem_map.1 hx
    obtain ⟨q, hq, rfl⟩ := List.mem_map.1 hy
    obtain ⟨i, hi, rfl⟩ := List.mem_iff_getElem.1 hp
    obtain ⟨j, hj, rfl⟩ := List.mem_iff_getElem.1 hq
    have key : ∀ {a b : Nat} (ha : a < l.length) (hb : b < l.length), a < b → ¬ (CM.inB (blk l[a]) z ∧ CM.inB (blk l[b]) z) := fun {a b} ha hb hab hz => by
      obtain ⟨c1, c2, _⟩ := (nrmOK_at h (List.getElem?_eq_getElem hb)).2.2 a _ hab (List.getElem?_eq_getElem ha)
      rcases Nat.le_total (blk l[b]).2 (blk l[a]).2 with hle | hle
      · have := CM.nest (blk_al (hv _ (List.getElem_mem ha))) (blk_al (hv _ (List.getElem_mem hb))) hle hz.1.1 hz.1.2 hz.2.1 hz.2.2
        rw [C_of_block (hv _ (List.getElem_mem ha)) (hv _ (List.getElem_mem hb)) this.1 this.2] at c1; cases c1
      · have := CM.nest (blk_al (hv _ (List.getElem_mem hb))) (blk_al (hv _ (List.getElem_mem ha))) hle hz.2.1 hz.2.2 hz.1.1 hz.1.2
        rw [C_of_block (hv _ (List.getElem_mem hb)) (hv _ (List.getElem_mem ha)) this.1 this.2] at c2; cases c2
    rcases Nat.lt_trichotomy i j with hij | rfl | hij
    · exact absurd ⟨h1, h2⟩ (key hi hj hij)
    · rfl
    · exact absurd ⟨h2, h1⟩ (key hj hi hij)
  · intro x hx y hy hk e1 e2 e3
    obtain ⟨p, hp, rfl⟩ := List.mem_map.1 hx
    obtain ⟨q, hq, rfl⟩ := List.mem_map.1 hy
    obtain ⟨i, hi, rfl⟩ := List.mem_iff_getElem.1 hp
    obtain ⟨j, hj, rfl⟩ := List.mem_iff_getElem.1 hq
    have hpp := CM.pow_pos' (blk l[i]).2
    have hij : i < j := by
      rcases Nat.lt_trichotomy i j with h1 | rfl | h1
      · exact h1
      · exfalso; omega
      · have := ok_asc h j i _ _ h1 (List.getElem?_eq_getElem hj) (List.getElem?_eq_getElem hi)
        have : (blk l[j]).1 < (blk l[i]).1 := this
        omega
    obtain ⟨_, _, c3⟩ := (nrmOK_at h (List.getElem?_eq_getElem hj)).2.2 i _ hij (List.getElem?_eq_getElem hi)
    have := (parB_pfx (x := blk l[j]) (y := blk l[i]) (blk_le _) (blk_le _)).2 ⟨by omega, e1.symm, ?_⟩
    · rw [pfx_blk (hv _ (List.getElem_mem hi)), pfx_blk (hv _ (List.getElem_mem hj))] at this
      rw [this] at c3; cases c3
    · rw [← e1, e2]
      generalize (blk l[i]).1 = a at *
      generalize (blk l[i]).2 = k at *
      have hpk := CM.pow_pos' k
      have e4 : 2 ^ (k + 1) = 2 ^ k + 2 ^ k := by rw [Nat.pow_succ]; omega
      have b1 := CM.base_of (x := a) e3 (Nat.le_refl _) (by omega)
      have b2 := CM.base_of (x := a + 2 ^ k) e3 (by omega) (by omega)
      rw [b1, b2]
theorem ok_eq {l : List PP} (h : nrmOK l) {B : List (Nat × Nat)} (hB : CM.Nrm (mem l) B) : l = B.map pfx := by
  have hv : ∀ p ∈ l, V p = true := fun p hp => by obtain ⟨i, hi, rfl⟩ := List.mem_iff_getElem.1 hp; exact (nrmOK_at h (List.getElem?_eq_getElem hi)).1
  have hn := (ok_def h).nrm
  have e : CM.setOf (l.map blk) = mem l := funext fun y => by
    rw [Bool.eq_iff_iff, CM.setOf_iff, mem_iff]
    constructor
    · rintro ⟨x, hx, hy⟩; obtain ⟨p, hp, rfl⟩ := List.mem_map.1 hx; exact ⟨p, hp, hv p hp, hy⟩
    · rintro ⟨p, hp, _, hy⟩; exact ⟨blk p, List.mem_map.2 ⟨p, hp, rfl⟩, hy⟩
  rw [e] at hn
  rw [hB.unique hn, List.map_map]
  conv => lhs; rw [← List.map_id l]
  exact List.map_congr_left fun p hp => (pfx_blk (hv p hp)).symm
theorem ok_ns {l : List PP} (h : nrmOK l) : ∃ B, CM.Nrm (mem l) B ∧ l = B.map pfx := by
  have hv : ∀ p ∈ l, V p = true := fun p hp => by obtain ⟨i, hi, rfl⟩ := List.mem_iff_getElem.1 hp; exact (nrmOK_at h (List.getElem?_eq_getElem hi)).1
  have hn := (ok_def h).nrm
  have e : CM.setOf (l.map blk) = mem l := funext fun y => by
    rw [Bool.eq_iff_iff, CM.setOf_iff, mem_iff]
    constructor
    · rintro ⟨x, hx, hy⟩; obtain ⟨p, hp, rfl⟩ := List.mem_map.1 hx; exact ⟨p, hp, hv p hp, hy⟩
    · rintro ⟨p, hp, _, hy⟩; exact ⟨blk p, List.mem_map.2 ⟨p, hp, rfl⟩, hy⟩
  rw [e] at hn
  exact ⟨_, hn, ok_eq h hn⟩
theorem ok_iff {l : List PP} {B : List (Nat × Nat)} (hB : CM.Nrm (mem l) B) : nrmOK l ↔ l = B.map pfx :=
  ⟨fun h => ok_eq h hB, fun h => by rw [h]; exact nrm_ok hB⟩
end Go.Proofs.Ytegponbmelgngaa
end
section
namespace Go.Proofs.Ytegponbmelgngaa
open Go.RowKit
set_option linter.unusedSimpArgs false
set_option linter.unusedVariables false
set_option maxHeartbeats 4000000
set_option maxRecDepth 100000

/-- a value that reads as the normal list of a set -/
def NS (S : Nat → Bool) (w : World) (v : Value) : Prop := ∃ B, CM.Nrm S B ∧ Rd w v (B.map pfx)
theorem NS.below {S : Nat → Bool} {w w' : World} {v : Value} (h : NS S w v) (hb : Below w.heap.size w w') : NS S w' v := by
  obtain ⟨B, hB, hr⟩ := h; exact ⟨B, hB, hr.below hb⟩
theorem NS.of {S T : Nat → Bool} {w : World} {v : Value} (h : NS S w v) (e : ∀ y, S y = T y) : NS T w v := by
  have : S = T := funext e
  exact this ▸ h
theorem ns_big {S : Nat → Bool} {B : List (Nat × Nat)} (h : CM.Nrm S B) (hS : ∀ y, S y = true → y < 4294967296) : Big (B.map pfx) := by
  unfold Big; rw [List.length_map]; exact nrm_len h hS
theorem ns_fit {S : Nat → Bool} {B : List (Nat × Nat)} (h : CM.Nrm S B) (hS : ∀ y, S y = true → y < 4294967296) : FitL (B.map pfx) := fun p hp => ⟨fit_pfx h hS p hp, V_I64 (valid_pfx h p hp)⟩
theorem ns_normal {S : Nat → Bool} {v : Value} {w : World} (hS : ∀ y, S y = true → y < 4294967296) (h : NS S w v) (hc : CapOK v) :
    Calls Try.prog 37 #[v] w fun e w' => e = .returned (.bool true) ∧ Below w.heap.size w w' := by
  obtain ⟨B, hB, hr⟩ := h
  refine (rnormal_any (B.map pfx) v w (ns_big hB hS) (ns_fit hB hS) hr hc).mono ?_
  rintro e w' ⟨z, rfl, hz, hb⟩
  rw [hz.2 (nrm_ok hB)]
  exact ⟨rfl, hb⟩
def num (S : Nat → Bool) : Nat := CM.cnt S 4294967296
theorem ns_count {S : Nat → Bool} {v : Value} {w : World} (hS : ∀ y, S y = true → y < 4294967296) (h : NS S w v) :
    Calls Try.prog 25 #[v] w fun e w' => e = .returned (.int .u64 (num S : Nat)) ∧ Below w.heap.size w w' := by
  obtain ⟨B, hB, hr⟩ := h
  refine (count_any (B.map pfx) v w (ns_big hB hS) (ns_fit hB hS) hr).mono ?_
  unfold many num
  rw [mem_pfx hB]
  exact fun e w' h => h
theorem ns_union {S T U : Nat → Bool} {v v' : Value} {w : World} (hS : ∀ y, S y = true → y < 4294967296) (hT : ∀ y, T y = true → y < 4294967296) (e : ∀ y, (S y || T y) = U y) (h : NS S w v) (h' : NS T w v') :
    Calls Try.prog 27 #[v, v'] w fun e w' => ∃ z, e = .returned z ∧ NS U w' z ∧ Below w.heap.size w w' := by
  obtain ⟨B, hB, hr⟩ := h
  obtain ⟨B', hB', hr'⟩ := h'
  refine (union_any _ _ v v' w (ns_big hB hS) (ns_big hB' hT) (ns_fit hB hS) (ns_fit hB' hT) hr hr').mono ?_
  rintro _ w' ⟨z, C, rfl, hC, hz, hb⟩
  rw [mem_pfx hB, mem_pfx hB'] at hC
  exact ⟨z, rfl, NS.of ⟨C, hC, hz⟩ e, hb⟩
theorem nrm_none {B : List (Nat × Nat)} (h : CM.Nrm (fun _ => false) B) : B = [] := by
  cases B with
  | nil => rfl
  | cons x l =>
    have := h.fl x (by simp) x.1 (Nat.le_refl _) (by have := CM.pow_pos' x.2; omega)
    cases this
theorem ns_inter {S T : Nat → Bool} {v v' : Value} {w : World} (hS : ∀ y, S y = true → y < 4294967296) (hT : ∀ y, T y = true → y < 4294967296) (e : ∀ y, (S y && T y) = false) (h : NS S w v) (h' : NS T w v') :
    Calls Try.prog 29 #[v, v'] w fun e w' => ∃ ad cap, e = .returned (.slice ad 0 cap) ∧ Below w.heap.size w w' := by
  obtain ⟨B, hB, hr⟩ := h
  obtain ⟨B', hB', hr'⟩ := h'
  refine (inter_any _ _ v v' w (ns_big hB hS) (ns_big hB' hT) (ns_fit hB hS) (ns_fit hB' hT) hr hr').mono ?_
  rintro _ w' ⟨z, C, rfl, hC, hz, hb⟩
  rw [mem_pfx hB, mem_pfx hB', show (fun y => (S y && T y)) = fun _ => false from funext e] at hC
  rw [nrm_none hC] at hz
  obtain ⟨ad, cap, rfl⟩ := rdP_slice hz
  exact ⟨ad, cap, rfl, hb⟩
theorem ns_same {S : Nat → Bool} {v v' : Value} {w : World} (hS : ∀ y, S y = true → y < 4294967296) (h : NS S w v) (h' : NS S w v') :
    Calls Try.prog 20 #[v, v'] w fun e w' => e = .returned (.bool true) ∧ Below w.heap.size w w' := by
  obtain ⟨B, hB, hr⟩ := h
  obtain ⟨B', hB', hr'⟩ := h'
  have := sameP_any (B.map pfx) (B'.map pfx) v v' w (ns_big hB hS) hr hr'
  rwa [decide_eq_true (nrm_same hB hB' fun y => rfl)] at this
theorem counts_big (a b : List PP) (v1 v2 : Value) (w : World) (h : 60 < a.length ∨ 60 < b.length) (hr1 : Rd w v1 a) (hr2 : Rd w v2 b) :
    Calls Try.prog 7 #[v1, v2] w fun e w' => e = .returned (.bool true) ∧ Below w.heap.size w w' := by
  obtain ⟨ad, cap, rfl⟩ := rdP_slice hr1
  obtain ⟨ad', cap', rfl⟩ := rdP_slice hr2
  have HL := Lib.hid (large_yes ad ad' a.length b.length cap cap' h w)
  clear hr1 hr2 h
  go_enter Try.func7, Try.ntmps7
  go_wp2_with (first
    | (go_at_call 16; refine HL.out.mono ?_; rintro e w1 ⟨rfl, rfl⟩)
    | (go_at_call 17; refine (awake5_any _).mono ?_; rintro e w1 ⟨rfl, hb⟩; have B := Lib.hid hb; clear hb))
  go_ret
  exact ⟨rfl, B.out⟩

theorem counts_true (A S U I D : Nat → Bool) (v1 v2 : Value) (w : World) (cu ci ca cb cd : Nat)
    (hA : ∀ y, A y = true → y < 4294967296) (hU : ∀ y, U y = true → y < 4294967296) (hI : ∀ y, I y = true → y < 4294967296) (hD : ∀ y, D y = true → y < 4294967296)
    (eU : ∀ y, (D y || I y) = A y) (eI : ∀ y, (D y && I y) = false)
    (nU : num U = cu) (nI : num I = ci) (nD : num D = cd) (e1 : cu + ci = ca + cb) (e2 : cd + ci = ca) (lu : cu ≤ 4294967296) (li : ci ≤ 4294967296) (la : ca ≤ 4294967296) (lb : cb ≤ 4294967296) (ld : cd ≤ 4294967296)
    (HLg : Hid (Calls Try.prog 16 #[v1, v2] w fun e w' => e = .returned (.bool false) ∧ w = w'))
    (HU : Hid (∀ W, Below w.heap.size w W → Calls Try.prog 27 #[v1, v2] W fun e w' => ∃ v, e = .returned v ∧ NS U w' v ∧ CapOK v ∧ Below W.heap.size W w'))
    (HI : Hid (∀ W, Below w.heap.size w W → Calls Try.prog 29 #[v1, v2] W fun e w' => ∃ v, e = .returned v ∧ NS I w' v ∧ CapOK v ∧ Below W.heap.size W w'))
    (HD : Hid (∀ W, Below w.heap.size w W → Calls Try.prog 31 #[v1, v2] W fun e w' => ∃ v, e = .returned v ∧ NS D w' v ∧ CapOK v ∧ Below W.heap.size W w'))
    (HIs : Hid (∀ W, Below w.heap.size w W → Calls Try.prog 23 #[v1] W fun e w' => e = .returned (.bool true) ∧ Below W.heap.size W w'))
    (HNa : Hid (∀ W, Below w.heap.size w W → Calls Try.prog 37 #[v1] W fun e w' => e = .returned (.bool true) ∧ Below W.heap.size W w'))
    (HNm : Hid (∀ W, Below w.heap.size w W → Calls Try.prog 21 #[v1] W fun e w' => ∃ v, e = .returned v ∧ NS A w' v ∧ Below W.heap.size W w'))
    (HRa : Hid (∀ W, Below w.heap.size w W → NS A W v1))
    (HCa : Hid (∀ W, Below w.heap.size w W → Calls Try.prog 25 #[v1] W fun e w' => e = .returned (.int .u64 (ca : Nat)) ∧ Below W.heap.size W w'))
    (HCb : Hid (∀ W, Below w.heap.size w W → Calls Try.prog 25 #[v2] W fun e w' => e = .returned (.int .u64 (cb : Nat)) ∧ Below W.heap.size W w')) :
    Calls Try.prog 7 #[v1, v2] w fun e w' => e = .returned (.bool true) ∧ Below w.heap.size w w' := by
  have HA := Lib.hid hA
  have AW : Hid (∀ W, Calls Try.prog 17 #[] W fun e w' => e = .returned (.bool true) ∧ Below W.heap.size W w') := fun W => awake5_any W
  have SU : Hid (∀ W v, NS U W v → CapOK v → Calls Try.prog 37 #[v] W fun e w' => e = .returned (.bool true) ∧ Below W.heap.size W w') := fun W v h hc => ns_normal hU h hc
  have SI : Hid (∀ W v, NS I W v → CapOK v → Calls Try.prog 37 #[v] W fun e w' => e = .returned (.bool true) ∧ Below W.heap.size W w') := fun W v h hc => ns_normal hI h hc
  have SD : Hid (∀ W v, NS D W v → CapOK v → Calls Try.prog 37 #[v] W fun e w' => e = .returned (.bool true) ∧ Below W.heap.size W w') := fun W v h hc => ns_normal hD h hc
  have CU : Hid (∀ W v, NS U W v → Calls Try.prog 25 #[v] W fun e w' => e = .returned (.int .u64 (cu : Nat)) ∧ Below W.heap.size W w') := fun W v h => by have := ns_count hU h; rwa [nU] at this
  have CI : Hid (∀ W v, NS I W v → Calls Try.prog 25 #[v] W fun e w' => e = .returned (.int .u64 (ci : Nat)) ∧ Below W.heap.size W w') := fun W v h => by have := ns_count hI h; rwa [nI] at this
  have CD : Hid (∀ W v, NS D W v → Calls Try.prog 25 #[v] W fun e w' => e = .returned (.int .u64 (cd : Nat)) ∧ Below W.heap.size W w') := fun W v h => by have := ns_count hD h; rwa [nD] at this
  have JU : Hid (∀ W v v', NS D W v → NS I W v' → Calls Try.prog 27 #[v, v'] W fun e w' => ∃ z, e = .returned z ∧ NS A w' z ∧ Below W.heap.size W w') := fun W v v' h h' => ns_union hD hI eU h h'
  have JI : Hid (∀ W v v', NS D W v → NS I W v' → Calls Try.prog 29 #[v, v'] W fun e w' => ∃ ad cap, e = .returned (.slice ad 0 cap) ∧ Below W.heap.size W w') := fun W v v' h h' => ns_inter hD hI eI h h'
  have SM : Hid (∀ W v v', NS A W v → NS A W v' → Calls Try.prog 20 #[v, v'] W fun e w' => e = .returned (.bool true) ∧ Below W.heap.size W w') := fun W v v' h h' => ns_same hA h h'
  clear hA hU hI hD eU eI nU nI nD
  go_enter Try.func7, Try.ntmps7
  go_wp2_with fail
  go_at_call 16
  refine HLg.out.mono ?_
  rintro e w1 ⟨rfl, rfl⟩
  go_wp2_with fail
  go_at_call 27
  refine (HU.out _ (Below.refl _ _)).mono ?_
  rintro e w2 ⟨vu, rfl, hn, hcp, hb⟩
  have B2 := Lib.hid (hb)
  have Pu := Lib.hid hn
  have Qu := Lib.hid hcp
  clear hb hn hcp
  go_wp2_with fail
  go_at_call 29
  refine (HI.out _ B2.out).mono ?_
  rintro e w3 ⟨vi, rfl, hn, hcp, hb⟩
  have B3 := Lib.hid (below_then B2.out hb)
  have Pi := Lib.hid hn
  have Qi := Lib.hid hcp
  have Pu := Lib.hid (Pu.out.below hb)
  clear hb hn hcp
  go_wp2_with fail
  go_at_call 31
  refine (HD.out _ B3.out).mono ?_
  rintro e w4 ⟨vd, rfl, hn, hcp, hb⟩
  have B4 := Lib.hid (below_then B3.out hb)
  have Pd := Lib.hid hn
  have Qd := Lib.hid hcp
  have Pu := Lib.hid (Pu.out.below hb)
  have Pi := Lib.hid (Pi.out.below hb)
  clear hb hn hcp
  go_wp2_with fail
  go_at_call 37
  refine (SU.out _ _ Pu.out Qu.out).mono ?_
  rintro e w5 ⟨rfl, hb⟩
  have B5 := Lib.hid (below_then B4.out hb)
  have Pu := Lib.hid (Pu.out.below hb)
  have Pi := Lib.hid (Pi.out.below hb)
  have Pd := Lib.hid (Pd.out.below hb)
  clear hb
  go_wp2_with fail
  go_at_call 37
  refine (SI.out _ _ Pi.out Qi.out).mono ?_
  rintro e w6 ⟨rfl, hb⟩
  have B6 := Lib.hid (below_then B5.out hb)
  have Pu := Lib.hid (Pu.out.below hb)
  have Pi := Lib.hid (Pi.out.below hb)
  have Pd := Lib.hid (Pd.out.below hb)
  clear hb
  go_wp2_with fail
  go_at_call 37
  refine (SD.out _ _ Pd.out Qd.out).mono ?_
  rintro e w7 ⟨rfl, hb⟩
  have B7 := Lib.hid (below_then B6.out hb)
  have Pu := Lib.hid (Pu.out.below hb)
  have Pi := Lib.hid (Pi.out.below hb)
  have Pd := Lib.hid (Pd.out.below hb)
  clear hb
  go_wp2_with fail
  go_at_call 23
  refine (HIs.out _ B7.out).mono ?_
  rintro e w8 ⟨rfl, hb⟩
  have B8 := Lib.hid (below_then B7.out hb)
  have Pu := Lib.hid (Pu.out.below hb)
  have Pi := Lib.hid (Pi.out.below hb)
  have Pd := Lib.hid (Pd.out.below hb)
  clear hb
  go_wp2_with fail
  go_at_call 37
  refine (HNa.out _ B8.out).mono ?_
  rintro e w9 ⟨rfl, hb⟩
  have B9 := Lib.hid (below_then B8.out hb)
  have Pu := Lib.hid (Pu.out.below hb)
  have Pi := Lib.hid (Pi.out.below hb)
  have Pd := Lib.hid (Pd.out.below hb)
  clear hb
  go_wp2_with fail
  go_at_call 37
  refine (HNa.out _ B9.out).mono ?_
  rintro e w10 ⟨rfl, hb⟩
  have B10 := Lib.hid (below_then B9.out hb)
  have Pu := Lib.hid (Pu.out.below hb)
  have Pi := Lib.hid (Pi.out.below hb)
  have Pd := Lib.hid (Pd.out.below hb)
  clear hb
  go_wp2_with fail
  go_at_call 21
  refine (HNm.out _ B10.out).mono ?_
  rintro e w11 ⟨vn, rfl, hn, hb⟩
  have B11 := Lib.hid (below_then B10.out hb)
  have Pn := Lib.hid hn
  have Pu := Lib.hid (Pu.out.below hb)
  have Pi := Lib.hid (Pi.out.below hb)
  have Pd := Lib.hid (Pd.out.below hb)
  clear hb hn
  go_wp2_with fail
  go_at_call 20
  refine (SM.out _ _ _ Pn.out (HRa.out _ B11.out)).mono ?_
  rintro e w12 ⟨rfl, hb⟩
  have B12 := Lib.hid (below_then B11.out hb)
  have Pu := Lib.hid (Pu.out.below hb)
  have Pi := Lib.hid (Pi.out.below hb)
  have Pd := Lib.hid (Pd.out.below hb)
  clear hb
  go_wp2_with fail
  go_at_call 25
  refine (CU.out _ _ Pu.out).mono ?_
  rintro e w13 ⟨rfl, hb⟩
  have B13 := Lib.hid (below_then B12.out hb)
  have Pu := Lib.hid (Pu.out.below hb)
  have Pi := Lib.hid (Pi.out.below hb)
  have Pd := Lib.hid (Pd.out.below hb)
  clear hb
  go_wp2_with fail
  go_at_call 25
  refine (CI.out _ _ Pi.out).mono ?_
  rintro e w14 ⟨rfl, hb⟩
  have B14 := Lib.hid (below_then B13.out hb)
  have Pu := Lib.hid (Pu.out.below hb)
  have Pi := Lib.hid (Pi.out.below hb)
  have Pd := Lib.hid (Pd.out.below hb)
  clear hb
  go_wp2_with fail
  go_at_call 25
  refine (HCa.out _ B14.out).mono ?_
  rintro e w15 ⟨rfl, hb⟩
  have B15 := Lib.hid (below_then B14.out hb)
  have Pu := Lib.hid (Pu.out.below hb)
  have Pi := Lib.hid (Pi.out.below hb)
  have Pd := Lib.hid (Pd.out.below hb)
  clear hb
  go_wp2_with fail
  go_at_call 25
  refine (HCb.out _ B15.out).mono ?_
  rintro e w16 ⟨rfl, hb⟩
  have B16 := Lib.hid (below_then B15.out hb)
  have Pu := Lib.hid (Pu.out.below hb)
  have Pi := Lib.hid (Pi.out.below hb)
  have Pd := Lib.hid (Pd.out.below hb)
  clear hb
  --MARK
  go_wp2_with fail
  go_at_call 25
  refine (CD.out _ _ Pd.out).mono ?_
  rintro e w17 ⟨rfl, hb⟩
  have B17 := Lib.hid (below_then B16.out hb)
  have Pu := Lib.hid (Pu.out.below hb)
  have Pi := Lib.hid (Pi.out.below hb)
  have Pd := Lib.hid (Pd.out.below hb)
  clear hb
  go_wp2_with fail
  go_at_call 25
  refine (CI.out _ _ Pi.out).mono ?_
  rintro e w18 ⟨rfl, hb⟩
  have B18 := Lib.hid (below_then B17.out hb)
  have Pu := Lib.hid (Pu.out.below hb)
  have Pi := Lib.hid (Pi.out.below hb)
  have Pd := Lib.hid (Pd.out.below hb)
  clear hb
  go_wp2_with fail
  go_at_call 25
  refine (HCa.out _ B18.out).mono ?_
  rintro e w19 ⟨rfl, hb⟩
  have B19 := Lib.hid (below_then B18.out hb)
  have Pu := Lib.hid (Pu.out.below hb)
  have Pi := Lib.hid (Pi.out.below hb)
  have Pd := Lib.hid (Pd.out.below hb)
  clear hb
  go_wp2_with fail
  go_at_call 17
  refine (AW.out _).mono ?_
  rintro e w20 ⟨rfl, hb⟩
  have B20 := Lib.hid (below_then B19.out hb)
  have Pu := Lib.hid (Pu.out.below hb)
  have Pi := Lib.hid (Pi.out.below hb)
  have Pd := Lib.hid (Pd.out.below hb)
  clear hb
  go_wp2_with fail
  go_at_call 27
  refine (JU.out _ _ _ Pd.out Pi.out).mono ?_
  rintro e w21 ⟨vj, rfl, hn, hb⟩
  have B21 := Lib.hid (below_then B20.out hb)
  have Pj := Lib.hid hn
  have Pu := Lib.hid (Pu.out.below hb)
  have Pi := Lib.hid (Pi.out.below hb)
  have Pd := Lib.hid (Pd.out.below hb)
  clear hb hn
  go_wp2_with fail
  go_at_call 21
  refine (HNm.out _ B21.out).mono ?_
  rintro e w22 ⟨vm, rfl, hn, hb⟩
  have B22 := Lib.hid (below_then B21.out hb)
  have Pm := Lib.hid hn
  have Pu := Lib.hid (Pu.out.below hb)
  have Pi := Lib.hid (Pi.out.below hb)
  have Pd := Lib.hid (Pd.out.below hb)
  have Pj := Lib.hid (Pj.out.below hb)
  clear hb hn
  go_wp2_with fail
  go_at_call 20
  refine (SM.out _ _ _ Pj.out Pm.out).mono ?_
  rintro e w23 ⟨rfl, hb⟩
  have B23 := Lib.hid (below_then B22.out hb)
  have Pu := Lib.hid (Pu.out.below hb)
  have Pi := Lib.hid (Pi.out.below hb)
  have Pd := Lib.hid (Pd.out.below hb)
  have Pj := Lib.hid (Pj.out.below hb)
  have Pm := Lib.hid (Pm.out.below hb)
  clear hb
  go_wp2_with fail
  go_at_call 29
  refine (JI.out _ _ _ Pd.out Pi.out).mono ?_
  rintro e w24 ⟨adx, capx, rfl, hb⟩
  have B24 := Lib.hid (below_then B23.out hb)
  clear hb
  go_wp2_with fail
  go_ret
  exact ⟨rfl, B24.out⟩

theorem counts_false (A S U I D : Nat → Bool) (v1 v2 : Value) (w : World) (cu ci ca cb cd : Nat)
    (hA : ∀ y, A y = true → y < 4294967296) (hU : ∀ y, U y = true → y < 4294967296) (hI : ∀ y, I y = true → y < 4294967296) (hD : ∀ y, D y = true → y < 4294967296)
    (eU : ∀ y, (D y || I y) = A y) (eI : ∀ y, (D y && I y) = false)
    (nU : num U = cu) (nI : num I = ci) (nD : num D = cd) (e1 : cu + ci = ca + cb) (e2 : cd + ci = ca) (lu : cu ≤ 4294967296) (li : ci ≤ 4294967296) (la : ca ≤ 4294967296) (lb : cb ≤ 4294967296) (ld : cd ≤ 4294967296)
    (HLg : Hid (Calls Try.prog 16 #[v1, v2] w fun e w' => e = .returned (.bool false) ∧ w = w'))
    (HU : Hid (∀ W, Below w.heap.size w W → Calls Try.prog 27 #[v1, v2] W fun e w' => ∃ v, e = .returned v ∧ NS U w' v ∧ CapOK v ∧ Below W.heap.size W w'))
    (HI : Hid (∀ W, Below w.heap.size w W → Calls Try.prog 29 #[v1, v2] W fun e w' => ∃ v, e = .returned v ∧ NS I w' v ∧ CapOK v ∧ Below W.heap.size W w'))
    (HD : Hid (∀ W, Below w.heap.size w W → Calls Try.prog 31 #[v1, v2] W fun e w' => ∃ v, e = .returned v ∧ NS D w' v ∧ CapOK v ∧ Below W.heap.size W w'))
    (HIs : Hid (∀ W, Below w.heap.size w W → Calls Try.prog 23 #[v1] W fun e w' => e = .returned (.bool false) ∧ Below W.heap.size W w'))
    (HNa : Hid (∀ W, Below w.heap.size w W → Calls Try.prog 37 #[v1] W fun e w' => e = .returned (.bool false) ∧ Below W.heap.size W w'))
    (HNm : Hid (∀ W, Below w.heap.size w W → Calls Try.prog 21 #[v1] W fun e w' => ∃ v, e = .returned v ∧ NS A w' v ∧ Below W.heap.size W w'))
    (HRa : Hid (∀ W, Below w.heap.size w W → True))
    (HCa : Hid (∀ W, Below w.heap.size w W → Calls Try.prog 25 #[v1] W fun e w' => e = .returned (.int .u64 (ca : Nat)) ∧ Below W.heap.size W w'))
    (HCb : Hid (∀ W, Below w.heap.size w W → Calls Try.prog 25 #[v2] W fun e w' => e = .returned (.int .u64 (cb : Nat)) ∧ Below W.heap.size W w')) :
    Calls Try.prog 7 #[v1, v2] w fun e w' => e = .returned (.bool true) ∧ Below w.heap.size w w' := by
  have HA := Lib.hid hA
  have AW : Hid (∀ W, Calls Try.prog 17 #[] W fun e w' => e = .returned (.bool true) ∧ Below W.heap.size W w') := fun W => awake5_any W
  have SU : Hid (∀ W v, NS U W v → CapOK v → Calls Try.prog 37 #[v] W fun e w' => e = .returned (.bool true) ∧ Below W.heap.size W w') := fun W v h hc => ns_normal hU h hc
  have SI : Hid (∀ W v, NS I W v → CapOK v → Calls Try.prog 37 #[v] W fun e w' => e = .returned (.bool true) ∧ Below W.heap.size W w') := fun W v h hc => ns_normal hI h hc
  have SD : Hid (∀ W v, NS D W v → CapOK v → Calls Try.prog 37 #[v] W fun e w' => e = .returned (.bool true) ∧ Below W.heap.size W w') := fun W v h hc => ns_normal hD h hc
  have CU : Hid (∀ W v, NS U W v → Calls Try.prog 25 #[v] W fun e w' => e = .returned (.int .u64 (cu : Nat)) ∧ Below W.heap.size W w') := fun W v h => by have := ns_count hU h; rwa [nU] at this
  have CI : Hid (∀ W v, NS I W v → Calls Try.prog 25 #[v] W fun e w' => e = .returned (.int .u64 (ci : Nat)) ∧ Below W.heap.size W w') := fun W v h => by have := ns_count hI h; rwa [nI] at this
  have CD : Hid (∀ W v, NS D W v → Calls Try.prog 25 #[v] W fun e w' => e = .returned (.int .u64 (cd : Nat)) ∧ Below W.heap.size W w') := fun W v h => by have := ns_count hD h; rwa [nD] at this
  have JU : Hid (∀ W v v', NS D W v → NS I W v' → Calls Try.prog 27 #[v, v'] W fun e w' => ∃ z, e = .returned z ∧ NS A w' z ∧ Below W.heap.size W w') := fun W v v' h h' => ns_union hD hI eU h h'
  have JI : Hid (∀ W v v', NS D W v → NS I W v' → Calls Try.prog 29 #[v, v'] W fun e w' => ∃ ad cap, e = .returned (.slice ad 0 cap) ∧ Below W.heap.size W w') := fun W v v' h h' => ns_inter hD hI eI h h'
  have SM : Hid (∀ W v v', NS A W v → NS A W v' → Calls Try.prog 20 #[v, v'] W fun e w' => e = .returned (.bool true) ∧ Below W.heap.size W w') := fun W v v' h h' => ns_same hA h h'
  clear hA hU hI hD eU eI nU nI nD
  go_enter Try.func7, Try.ntmps7
  go_wp2_with fail
  go_at_call 16
  refine HLg.out.mono ?_
  rintro e w1 ⟨rfl, rfl⟩
  go_wp2_with fail
  go_at_call 27
  refine (HU.out _ (Below.refl _ _)).mono ?_
  rintro e w2 ⟨vu, rfl, hn, hcp, hb⟩
  have B2 := Lib.hid (hb)
  have Pu := Lib.hid hn
  have Qu := Lib.hid hcp
  clear hb hn hcp
  go_wp2_with fail
  go_at_call 29
  refine (HI.out _ B2.out).mono ?_
  rintro e w3 ⟨vi, rfl, hn, hcp, hb⟩
  have B3 := Lib.hid (below_then B2.out hb)
  have Pi := Lib.hid hn
  have Qi := Lib.hid hcp
  have Pu := Lib.hid (Pu.out.below hb)
  clear hb hn hcp
  go_wp2_with fail
  go_at_call 31
  refine (HD.out _ B3.out).mono ?_
  rintro e w4 ⟨vd, rfl, hn, hcp, hb⟩
  have B4 := Lib.hid (below_then B3.out hb)
  have Pd := Lib.hid hn
  have Qd := Lib.hid hcp
  have Pu := Lib.hid (Pu.out.below hb)
  have Pi := Lib.hid (Pi.out.below hb)
  clear hb hn hcp
  go_wp2_with fail
  go_at_call 37
  refine (SU.out _ _ Pu.out Qu.out).mono ?_
  rintro e w5 ⟨rfl, hb⟩
  have B5 := Lib.hid (below_then B4.out hb)
  have Pu := Lib.hid (Pu.out.below hb)
  have Pi := Lib.hid (Pi.out.below hb)
  have Pd := Lib.hid (Pd.out.below hb)
  clear hb
  go_wp2_with fail
  go_at_call 37
  refine (SI.out _ _ Pi.out Qi.out).mono ?_
  rintro e w6 ⟨rfl, hb⟩
  have B6 := Lib.hid (below_then B5.out hb)
  have Pu := Lib.hid (Pu.out.below hb)
  have Pi := Lib.hid (Pi.out.below hb)
  have Pd := Lib.hid (Pd.out.below hb)
  clear hb
  go_wp2_with fail
  go_at_call 37
  refine (SD.out _ _ Pd.out Qd.out).mono ?_
  rintro e w7 ⟨rfl, hb⟩
  have B7 := Lib.hid (below_then B6.out hb)
  have Pu := Lib.hid (Pu.out.below hb)
  have Pi := Lib.hid (Pi.out.below hb)
  have Pd := Lib.hid (Pd.out.below hb)
  clear hb
  go_wp2_with fail
  go_at_call 23
  refine (HIs.out _ B7.out).mono ?_
  rintro e w8 ⟨rfl, hb⟩
  have B8 := Lib.hid (below_then B7.out hb)
  have Pu := Lib.hid (Pu.out.below hb)
  have Pi := Lib.hid (Pi.out.below hb)
  have Pd := Lib.hid (Pd.out.below hb)
  clear hb
  go_wp2_with fail
  go_at_call 37
  refine (HNa.out _ B8.out).mono ?_
  rintro e w9 ⟨rfl, hb⟩
  have B9 := Lib.hid (below_then B8.out hb)
  have Pu := Lib.hid (Pu.out.below hb)
  have Pi := Lib.hid (Pi.out.below hb)
  have Pd := Lib.hid (Pd.out.below hb)
  clear hb
  go_wp2_with fail
  go_at_call 37
  refine (HNa.out _ B9.out).mono ?_
  rintro e w10 ⟨rfl, hb⟩
  have B10 := Lib.hid (below_then B9.out hb)
  have Pu := Lib.hid (Pu.out.below hb)
  have Pi := Lib.hid (Pi.out.below hb)
  have Pd := Lib.hid (Pd.out.below hb)
  clear hb
  go_wp2_with fail
  go_at_call 25
  refine (CU.out _ _ Pu.out).mono ?_
  rintro e w11 ⟨rfl, hb⟩
  have B11 := Lib.hid (below_then B10.out hb)
  have Pu := Lib.hid (Pu.out.below hb)
  have Pi := Lib.hid (Pi.out.below hb)
  have Pd := Lib.hid (Pd.out.below hb)
  clear hb
  go_wp2_with fail
  go_at_call 25
  refine (CI.out _ _ Pi.out).mono ?_
  rintro e w12 ⟨rfl, hb⟩
  have B12 := Lib.hid (below_then B11.out hb)
  have Pu := Lib.hid (Pu.out.below hb)
  have Pi := Lib.hid (Pi.out.below hb)
  have Pd := Lib.hid (Pd.out.below hb)
  clear hb
  go_wp2_with fail
  go_at_call 25
  refine (HCa.out _ B12.out).mono ?_
  rintro e w13 ⟨rfl, hb⟩
  have B13 := Lib.hid (below_then B12.out hb)
  have Pu := Lib.hid (Pu.out.below hb)
  have Pi := Lib.hid (Pi.out.below hb)
  have Pd := Lib.hid (Pd.out.below hb)
  clear hb
  go_wp2_with fail
  go_at_call 25
  refine (HCb.out _ B13.out).mono ?_
  rintro e w14 ⟨rfl, hb⟩
  have B14 := Lib.hid (below_then B13.out hb)
  have Pu := Lib.hid (Pu.out.below hb)
  have Pi := Lib.hid (Pi.out.below hb)
  have Pd := Lib.hid (Pd.out.below hb)
  clear hb
  --MARK
  go_wp2_with fail
  go_at_call 25
  refine (CD.out _ _ Pd.out).mono ?_
  rintro e w15 ⟨rfl, hb⟩
  have B15 := Lib.hid (below_then B14.out hb)
  have Pu := Lib.hid (Pu.out.below hb)
  have Pi := Lib.hid (Pi.out.below hb)
  have Pd := Lib.hid (Pd.out.below hb)
  clear hb
  go_wp2_with fail
  go_at_call 25
  refine (CI.out _ _ Pi.out).mono ?_
  rintro e w16 ⟨rfl, hb⟩
  have B16 := Lib.hid (below_then B15.out hb)
  have Pu := Lib.hid (Pu.out.below hb)
  have Pi := Lib.hid (Pi.out.below hb)
  have Pd := Lib.hid (Pd.out.below hb)
  clear hb
  go_wp2_with fail
  go_at_call 25
  refine (HCa.out _ B16.out).mono ?_
  rintro e w17 ⟨rfl, hb⟩
  have B17 := Lib.hid (below_then B16.out hb)
  have Pu := Lib.hid (Pu.out.below hb)
  have Pi := Lib.hid (Pi.out.below hb)
  have Pd := Lib.hid (Pd.out.below hb)
  clear hb
  go_wp2_with fail
  go_at_call 17
  refine (AW.out _).mono ?_
  rintro e w18 ⟨rfl, hb⟩
  have B18 := Lib.hid (below_then B17.out hb)
  have Pu := Lib.hid (Pu.out.below hb)
  have Pi := Lib.hid (Pi.out.below hb)
  have Pd := Lib.hid (Pd.out.below hb)
  clear hb
  go_wp2_with fail
  go_at_call 27
  refine (JU.out _ _ _ Pd.out Pi.out).mono ?_
  rintro e w19 ⟨vj, rfl, hn, hb⟩
  have B19 := Lib.hid (below_then B18.out hb)
  have Pj := Lib.hid hn
  have Pu := Lib.hid (Pu.out.below hb)
  have Pi := Lib.hid (Pi.out.below hb)
  have Pd := Lib.hid (Pd.out.below hb)
  clear hb hn
  go_wp2_with fail
  go_at_call 21
  refine (HNm.out _ B19.out).mono ?_
  rintro e w20 ⟨vm, rfl, hn, hb⟩
  have B20 := Lib.hid (below_then B19.out hb)
  have Pm := Lib.hid hn
  have Pu := Lib.hid (Pu.out.below hb)
  have Pi := Lib.hid (Pi.out.below hb)
  have Pd := Lib.hid (Pd.out.below hb)
  have Pj := Lib.hid (Pj.out.below hb)
  clear hb hn
  go_wp2_with fail
  go_at_call 20
  refine (SM.out _ _ _ Pj.out Pm.out).mono ?_
  rintro e w21 ⟨rfl, hb⟩
  have B21 := Lib.hid (below_then B20.out hb)
  have Pu := Lib.hid (Pu.out.below hb)
  have Pi := Lib.hid (Pi.out.below hb)
  have Pd := Lib.hid (Pd.out.below hb)
  have Pj := Lib.hid (Pj.out.below hb)
  have Pm := Lib.hid (Pm.out.below hb)
  clear hb
  go_wp2_with fail
  go_at_call 29
  refine (JI.out _ _ _ Pd.out Pi.out).mono ?_
  rintro e w22 ⟨adx, capx, rfl, hb⟩
  have B22 := Lib.hid (below_then B21.out hb)
  clear hb
  go_wp2_with fail
  go_ret
  exact ⟨rfl, B22.out⟩

theorem counts_small (a b : List PP) (v1 v2 : Value) (w : World) (ha : a.length ≤ 60) (hb : b.length ≤ 60) (fa : FitL a) (fb : FitL b) (hr1 : Rd w v1 a) (hr2 : Rd w v2 b) (hc : CapOK v1) :
    Calls Try.prog 7 #[v1, v2] w fun e w' => e = .returned (.bool true) ∧ Below w.heap.size w w' := by
  have mla := mem_lt (l := a) (fun p hp => (fa p hp).1)
  have mlb := mem_lt (l := b) (fun p hp => (fb p hp).1)
  have HLg : Hid (Calls Try.prog 16 #[v1, v2] w fun e w' => e = .returned (.bool false) ∧ w = w') := by
    obtain ⟨ad, cap, rfl⟩ := rdP_slice hr1
    obtain ⟨ad', cap', rfl⟩ := rdP_slice hr2
    exact large_no ad ad' a.length b.length cap cap' ha hb w
  have HU : Hid (∀ W, Below w.heap.size w W → Calls Try.prog 27 #[v1, v2] W fun e w' => ∃ v, e = .returned v ∧ NS (fun y => (mem a y || mem b y)) w' v ∧ CapOK v ∧ Below W.heap.size W w') := fun W hW => by
    refine (unionC_any a b v1 v2 W (big60 ha) (big60 hb) fa fb (hr1.below hW) (hr2.below hW)).mono ?_
    rintro e w' ⟨v, B, rfl, hN, hr, hb, hc⟩
    exact ⟨v, rfl, ⟨B, hN, hr⟩, hc, hb⟩
  have HI : Hid (∀ W, Below w.heap.size w W → Calls Try.prog 29 #[v1, v2] W fun e w' => ∃ v, e = .returned v ∧ NS (fun y => (mem a y && mem b y)) w' v ∧ CapOK v ∧ Below W.heap.size W w') := fun W hW => by
    refine (interC_any a b v1 v2 W (big60 ha) (big60 hb) fa fb (hr1.below hW) (hr2.below hW)).mono ?_
    rintro e w' ⟨v, B, rfl, hN, hr, hb, hc⟩
    exact ⟨v, rfl, ⟨B, hN, hr⟩, hc, hb⟩
  have HD : Hid (∀ W, Below w.heap.size w W → Calls Try.prog 31 #[v1, v2] W fun e w' => ∃ v, e = .returned v ∧ NS (fun y => (mem a y && !mem b y)) w' v ∧ CapOK v ∧ Below W.heap.size W w') := fun W hW => by
    refine (subtC_any a b v1 v2 W (big60 ha) (big60 hb) fa fb (hr1.below hW) (hr2.below hW)).mono ?_
    rintro e w' ⟨v, B, rfl, hN, hr, hb, hc⟩
    exact ⟨v, rfl, ⟨B, hN, hr⟩, hc, hb⟩
  have HNm : Hid (∀ W, Below w.heap.size w W → Calls Try.prog 21 #[v1] W fun e w' => ∃ v, e = .returned v ∧ NS (mem a) w' v ∧ Below W.heap.size W w') := fun W hW => by
    refine (normal_any a v1 W (big60 ha) fa (hr1.below hW)).mono ?_
    rintro e w' ⟨v, B, rfl, hN, hr, hb⟩
    exact ⟨v, rfl, ⟨B, hN, hr⟩, hb⟩
  have HCa : Hid (∀ W, Below w.heap.size w W → Calls Try.prog 25 #[v1] W fun e w' => e = .returned (.int .u64 (many a : Nat)) ∧ Below W.heap.size W w') := fun W hW => count_any a v1 W (big60 ha) fa (hr1.below hW)
  have HCb : Hid (∀ W, Below w.heap.size w W → Calls Try.prog 25 #[v2] W fun e w' => e = .returned (.int .u64 (many b : Nat)) ∧ Below W.heap.size W w') := fun W hW => count_any b v2 W (big60 hb) fb (hr2.below hW)
  have HNa : ∀ W, Below w.heap.size w W → Calls Try.prog 37 #[v1] W fun e w' => ∃ z : Bool, e = .returned (.bool z) ∧ (z = true ↔ nrmOK a) ∧ Below W.heap.size W w' := fun W hW => rnormal_any a v1 W (big60 ha) fa (hr1.below hW) hc
  have HIs : ∀ W, Below w.heap.size w W → Calls Try.prog 23 #[v1] W fun e w' => ∃ z : Bool, e = .returned (.bool z) ∧ (z = true ↔ nrmOK a) ∧ Below W.heap.size W w' := fun W hW => by
    refine (is_any a v1 W (big60 ha) fa (hr1.below hW)).mono ?_
    rintro e w' ⟨B, rfl, hN, hb⟩
    exact ⟨_, rfl, by rw [decide_eq_true_iff, ok_iff hN], hb⟩
  have pin : ∀ {f : Nat} {z : Bool}, (z = true ↔ nrmOK a) → (∀ W, Below w.heap.size w W → Calls Try.prog f #[v1] W fun e w' => ∃ z : Bool, e = .returned (.bool z) ∧ (z = true ↔ nrmOK a) ∧ Below W.heap.size W w') →
      Hid (∀ W, Below w.heap.size w W → Calls Try.prog f #[v1] W fun e w' => e = .returned (.bool z) ∧ Below W.heap.size W w') := fun {f z} hz H W hW => by
    refine (H W hW).mono ?_
    rintro e w' ⟨y, rfl, hy, hb⟩
    have : y = z := Bool.eq_iff_iff.2 (hy.trans hz.symm)
    exact ⟨by rw [this], hb⟩
  have hU : ∀ y, (mem a y || mem b y) = true → y < 4294967296 := fun y hy => by rw [Bool.or_eq_true] at hy; exact hy.elim (mla y) (mlb y)
  have hI : ∀ y, (mem a y && mem b y) = true → y < 4294967296 := fun y hy => by rw [Bool.and_eq_true] at hy; exact mla y hy.1
  have hD : ∀ y, (mem a y && !mem b y) = true → y < 4294967296 := fun y hy => by rw [Bool.and_eq_true] at hy; exact mla y hy.1
  have eU : ∀ y, ((mem a y && !mem b y) || (mem a y && mem b y)) = mem a y := fun y => by cases mem a y <;> cases mem b y <;> rfl
  have eI : ∀ y, ((mem a y && !mem b y) && (mem a y && mem b y)) = false := fun y => by cases mem a y <;> cases mem b y <;> rfl
  by_cases h : nrmOK a
  · obtain ⟨B, hB, e⟩ := ok_ns h
    exact counts_true (mem a) (mem b) _ _ _ v1 v2 w _ _ _ _ _ mla hU hI hD eU eI rfl rfl rfl (CM.cnt_or_and _ _ _) (CM.cnt_sub_and _ _ _) (CM.cnt_le _ _) (CM.cnt_le _ _) (CM.cnt_le _ _) (CM.cnt_le _ _) (CM.cnt_le _ _)
      HLg HU HI HD (pin (by simp [h]) HIs) (pin (by simp [h]) HNa) HNm (fun W hW => ⟨B, hB, e ▸ hr1.below hW⟩) HCa HCb
  · exact counts_false (mem a) (mem b) _ _ _ v1 v2 w _ _ _ _ _ mla hU hI hD eU eI rfl rfl rfl (CM.cnt_or_and _ _ _) (CM.cnt_sub_and _ _ _) (CM.cnt_le _ _) (CM.cnt_le _ _) (CM.cnt_le _ _) (CM.cnt_le _ _) (CM.cnt_le _ _)
      HLg HU HI HD (pin (by simp [h]) HIs) (pin (by simp [h]) HNa) HNm (fun W hW => trivial) HCa HCb
end Go.Proofs.Ytegponbmelgngaa
end
namespace Go.Proofs.Ytegponbmelgngaa.coverCounts
open Go.ChangeShapes Go.WideShapes Go.ChangeAt Go.RowKit
set_option linter.unusedSimpArgs false
set_option linter.unusedVariables false
set_option maxHeartbeats 4000000
set_option maxRecDepth 100000

theorem open_cap {H : Type} {enc : TypeId × Value → H} {w : World} {r : Reach} {b0 base : Nat} {spare : Nat → Bool} {held : Bool} {v : Value} {d : DataW H} {p : List MemPlace}
    (hv : Value.okWide Try.prog w r b0 22 v) (h : DataW.Trod enc Try.prog w base spare held 22 v d p) : CapOK v := by
  obtain ⟨a0, len, cap, rfl⟩ := okWide_slice Try.underlying22 hv
  obtain ⟨fuel, hf⟩ := h
  intro ad n c e
  cases e
  rcases Deep.open_slice Try.underlying22 hf with ⟨hcs, _⟩ | ⟨a, len', cap', m, n, D, Pl, hcs, _, hl, hm, hmm, _, hi⟩
  · simp [Value.cells] at hcs
    omega
  · simp [Value.cells] at hcs
    obtain ⟨rfl, rfl, rfl⟩ := hcs
    exact hl
theorem walk (l0 : List PP) (v0 : Value) (l1 : List PP) (v1 : Value) (w : World) (hr0 : Rd w v0 l0) (hf0 : FitL l0) (hr1 : Rd w v1 l1) (hf1 : FitL l1) (hc : CapOK v0) :
    Calls Try.prog 7 #[v0, v1] w fun e w' => e = .returned (.bool true) ∧ Below w.heap.size w w' := by
  by_cases h : 60 < l0.length ∨ 60 < l1.length
  · exact counts_big l0 l1 v0 v1 w h hr0 hr1
  · exact counts_small l0 l1 v0 v1 w (by omega) (by omega) hf0 hf1 hr0 hr1 hc

theorem contract (H : Type) (enc : TypeId × Value → H) (W : World) (base : Nat) (args : Array Value) (ds gs : List (DataW H)) (before : List MemPlace)
    (hval : ∀ (j : Nat) t v, Try.f7.params[j]? = some t → args[j]? = some v → Value.okWide Try.prog W .any base t v)
    (hW : DataW.Whole enc Try.prog Try.f7.params.toList Rows.coverCountsSpec.vars false W args.toList ds gs before)
    (hsz : (DataW.weightsEach Try.prog (Try.f7.params.toList ++ Rows.coverCountsSpec.plain.varTypes Try.prog) (ds ++ gs)).all (· ≤ reachBytes) = true) :
    Calls Try.prog 7 args W fun e W' => ∃ v, e = .returned v ∧ Rows.coverCountsSpec.post enc Try.prog Try.f7 false true false false W args v W' := by
  have hW' := hW
  obtain ⟨p, q, hA0, hV, rfl, hfz, hnd⟩ := hW
  have hA : DataW.TrodAll enc Try.prog W 0 (fun _ => true) true Try.f7.params.toList args.toList ds p := hA0
  rw [Try.params7] at hA hval hsz
  have HB : ∀ W', Below W.heap.size W W' → DataW.TrodAll enc Try.prog W' 0 (fun b => decide (b < W.heap.size)) true Try.f7.params.toList args.toList ds p := fun W' hb => by
    rw [Try.params7]
    refine trodAll_below hb (fun t ht => ?_) hA (fun x hx => hW'.lt x (by simp [hx]))
    revert t ht
    intro t ht
    simp at ht
    subst ht; exact ⟨by kernel_rfl, of_decide_eq_true (by kernel_rfl)⟩
  obtain ⟨v0, vs0, d0, ds0, p0, q0, hargs, rfl, rfl, h0, r0⟩ := trodAll_cons hA
  obtain ⟨v1, vs1, d1, ds1, p1, q1, rfl, rfl, rfl, h1, r1⟩ := trodAll_cons r0
  obtain ⟨rfl, rfl, rfl⟩ := trodAll_nil r1
  obtain rfl : args = #[v0, v1] := by cases args; simp_all
  obtain ⟨rfl, rfl⟩ := trodVars_none hV
  have hcp := open_cap (hval 0 22 v0 rfl rfl) h0
  obtain ⟨l0, hr0, hf0⟩ := open_rd (hval 0 22 v0 rfl rfl) h0
  obtain ⟨l1, hr1, hf1⟩ := open_rd (hval 1 22 v1 rfl rfl) h1
  clear hA0
  simp only [List.append_nil] at hW' HB
  refine (walk l0 v0 l1 v1 W hr0 hf0 hr1 hf1 hcp).mono fun e W' ⟨he, hb⟩ => ?_
  subst he
  exact ⟨_, rfl, _, _, _, [], _, [], hW', (trodAll_cons_mk (shut_bool Try.underlying4 _) trodAll_mk0), HB W' hb, rfl, hb.frame _, fun h => by cases h⟩
theorem lifted (os : Os) (started : os.Started) (H : Type) (enc : TypeId × Value → H) :
    ReturnsInHanded {} Try.checked os 7 .any (Rows.coverCountsSpec.pre6 enc Try.prog Try.f7 Rows.coverCountsRow.domain false) (Rows.coverCountsSpec.post enc Try.prog Try.f7 false true false false) := by
  refine returnsInHanded_of_change_sized (C := Try.checked) own started (by kernel_rfl) Try.func7
    (ChangeSpec.witness6 (enc := enc) (C := Try.checked) false ⟨#[], #[.slice none 0 0, .slice none 0 0], []⟩ 8 (by kernel_rfl) (by kernel_rfl) (by kernel_rfl) (by kernel_rfl)) ?_
  intro W base args ds gs before hval hW _ hsz _
  exact contract H enc W base args ds gs before hval hW hsz
theorem over : Rows.coverCountsRow.holds Try.pinned (OpenSpec.ofChange Rows.coverCountsSpec) :=
  OpenClaim.holds_of_wide 7 Try.f7 rfl rfl rfl rfl rfl rfl rfl ⟨rfl, rfl, rfl, rfl, rfl⟩ rfl rfl rfl rfl rfl (by kernel_rfl) Try.func7 (by kernel_rfl)
    (of_decide_eq_true (by kernel_rfl)) (by unfold Func.isWrapper; first | (rw [if_pos (by decide +kernel)]; kernel_rfl) | (rw [if_neg (by decide +kernel)]; exact ⟨rfl, rfl⟩))
    (fun os started H enc _ => lifted os started H enc)
theorem proved : Rows.CoverCountsSaid :=
  over
#print axioms proved
end Go.Proofs.Ytegponbmelgngaa.coverCounts
