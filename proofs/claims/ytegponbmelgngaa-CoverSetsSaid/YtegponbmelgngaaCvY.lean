/-
  The walk of the reference's spans, as far as merging.
-/
import Derived.Test.YtegponbmelgngaaCvX
namespace Go.Proofs.Ytegponbmelgngaa
open Go.RowKit
set_option linter.unusedSimpArgs false
set_option linter.unusedVariables false
set_option maxHeartbeats 4000000
set_option maxRecDepth 100000

theorem con_not {p : PP} (h : V p = false) (y : Nat) : con p.1 p.2 y = false := by
  refine Bool.eq_false_iff.2 fun hc => ?_
  have := (mem_iff [p] y).1 (by unfold mem; simp [hc])
  obtain ⟨q, hq, hv, _⟩ := this
  rw [List.mem_singleton] at hq; subst hq
  rw [h] at hv; cases hv
theorem mem_snocY (l : List PP) (p : PP) (y : Nat) : mem (l ++ [p]) y = (mem l y || con p.1 p.2 y) := by unfold mem; rw [List.any_append]; simp
/-- what spans has gathered -/
structure Sps (l : List PP) (k : Nat) (O : List (Nat × Nat)) : Prop where
  set : ∀ z, ivs O z = mem (l.take k) z
  hi : ∀ y ∈ O, y.2 ≤ 4294967296
  cnt : O.length ≤ k
theorem sps_start (l : List PP) : Sps l 0 [] := ⟨fun z => by simp [ivs, mem], fun y hy => (by cases hy), Nat.le_refl _⟩
theorem sps_skip {l : List PP} {k : Nat} {p : PP} {O : List (Nat × Nat)} (h : Sps l k O) (hp : l[k]? = some p) (hv : V p = false) : Sps l (k + 1) O :=
  ⟨fun z => by rw [h.set z, take_snocP hp, mem_snocY, con_not hv]; simp, h.hi, by have := h.cnt; omega⟩
theorem sps_more {l : List PP} {k : Nat} {p : PP} {O : List (Nat × Nat)} (h : Sps l k O) (hp : l[k]? = some p) (hv : V p = true) (hlt : p.1 < 4294967296) : Sps l (k + 1) (O ++ [(p.1, p.1 + 2 ^ (32 - p.2.toNat))]) :=
  ⟨fun z => by
    rw [ivs_append, ivs_one, h.set z, take_snocP hp, mem_snocY]
    congr 1
    rw [Bool.eq_iff_iff, con_in hv]
    simp only [Bool.and_eq_true, decide_eq_true_iff],
   fun u hu => by
    rcases List.mem_append.1 hu with hu | hu
    · exact h.hi u hu
    · rw [List.mem_singleton] at hu; subst hu
      exact block_top hlt hv,
   by have := h.cnt; simp; omega⟩
theorem spans_any (HM : MergedC) (l : List PP) (v : Value) (w : World) (hl : Big l) (hf : FitL l) (hr : Rd w v l) :
    Calls Try.prog 63 #[v] w fun e w' => ∃ v' O, e = .returned v' ∧ CM.Sep (mem l) O ∧ (∀ x ∈ O, x.2 ≤ 4294967296) ∧ O.length ≤ l.length ∧ RdQ w' v' O ∧ Below w.heap.size w w' := by
  obtain ⟨i0, hi, hz0, hz1, hz2⟩ := infoP_parts info74
  unfold Big at hl
  obtain ⟨ad, cap, rfl, hc⟩ := hr
  have HC := Lib.hid hc
  have HF := Lib.hid hf
  have HMM := Lib.hid HM
  clear hc hf HM
  go_enter Try.func63, Try.ntmps63
  go_wp2
  go_loopg [8, 3] l.length (fun g s8 s3 wr => ∃ (k : Nat) (O : List (Nat × Nat)) (v3 : Value), k ≤ l.length ∧ l.length - k ≤ g ∧ s8 = .int .i64 k ∧ v3 = s3 ∧ Hid (Below w.heap.size w wr ∧ wr.ownsRow w.heap.size 74 2 v3 O.length (flatQ O) ∧ Sps l k O))
  case atStart => exact ⟨0, [], _, by omega, by omega, rfl, rfl, Below.refl _ _, World.ownsRow_nil _ _ _ _, sps_start _⟩
  case round =>
    obtain ⟨k, O, v3, hk, hg, rfl, rfl, HB⟩ := hrel
    by_cases hlt : k < l.length
    · obtain ⟨x, hx⟩ : ∃ x, l[k]? = some x := ⟨_, List.getElem?_eq_getElem hlt⟩
      obtain ⟨blk', off', rfl, hblk, hc0, hc1⟩ := HC.out k x hx
      have f0 := carryB HB.out.1 hblk hc0
      have f1 := carryB HB.out.1 hblk hc1
      have HX := Lib.hid hx
      have hm := List.mem_of_getElem? hx
      have hfx := HF.out x hm
      have hws := HB.out.1.size
      have hcn := HB.out.2.2.cnt
      obtain ⟨adv, capv, hvf⟩ := rdQ_slice (rdQ_own HB.out.2.1)
      subst hvf
      obtain ⟨a, n⟩ := x
      have HV : Hid (∀ W, Calls Try.prog 39 #[.agg #[.int .u32 (a : Int), .int .i64 n]] W fun e w' => e = .returned (.bool (V (a, n))) ∧ Below W.heap.size W w') := fun W => rvalid_any a hfx.1 n hfx.2 W
      dsimp only at f0 f1 hfx
      have R0 := Lib.hid HB.out.2.1
      have D0 := Lib.hid HB.out.1
      have SP := Lib.hid HB.out.2.2
      clear hc0 hc1 hx hm HB
      cases hv : V (a, n)
      · have S1 := Lib.hid (sps_skip SP.out HX.out hv)
        rw [hv] at HV
        clear hv
        go_wp2_with fail
        go_at_call 39
        refine (HV.out _).mono ?_
        rintro e w5 ⟨rfl, hb⟩
        have D5 := Lib.hid (below_then (D0.out.alloc hws (.cells #[.int .u32 (a : Int), .int .i64 n] 28)) (hb))
        have R5 := Lib.hid (ownP_below (ownP_below R0.out (below_alloc wr (.cells #[.int .u32 (a : Int), .int .i64 n] 28))) hb)
        clear hb
        go_wp2_with fail
        go_roundg (l.length - (k + 1))
        case measure => omega
        case rel => exact ⟨k + 1, O, _, by omega, Nat.le_refl _, by rw [Int.natCast_add]; rfl, rfl, D5.out, R5.out, S1.out⟩
      · have S1 := Lib.hid (sps_more SP.out HX.out hv hfx.1)
        have hvi := (V_iff _).1 hv
        have hv0 : 0 ≤ n := hvi.1
        have hv1 : n ≤ 32 := hvi.2.1
        have htop : a + 2 ^ (32 - n.toNat) ≤ 4294967296 := block_top hfx.1 hv
        rw [hv] at HV
        clear hv hvi
        obtain ⟨m, rfl⟩ := Int.eq_ofNat_of_zero_le hv0
        rw [Int.toNat_natCast] at htop
        dsimp only at S1
        rw [Int.toNat_natCast] at S1
        obtain ⟨Q, hQ⟩ : ∃ Q, Q = 2 ^ (32 - m) := ⟨_, rfl⟩
        have hQ2 : ((2 : Int) ^ (32 - m)) = (Q : Int) := by rw [hQ]; simp
        rw [← hQ] at htop S1
        have hQw : IntKind.u64.wrap (Q : Int) = (Q : Int) := IntWalk.u64_in _ (by constructor <;> omega)
        have hcw : IntKind.u64.wrap ((a : Int) + (Q : Int)) = (a : Int) + (Q : Int) := IntWalk.u64_in _ (by constructor <;> omega)
        have haw : IntKind.u64.wrap (a : Int) = (a : Int) := IntWalk.u64_in _ (by constructor <;> omega)
        have wt2 : IntKind.i64.wrap (32 - (m : Int)) = 32 - (m : Int) := IntWalk.i64_in _ (by constructor <;> omega)
        clear hQ
        go_wp2_with fail
        go_at_call 39
        refine (HV.out _).mono ?_
        rintro e w5 ⟨rfl, hb⟩
        have D5 := Lib.hid (below_then (D0.out.alloc hws (.cells #[.int .u32 (a : Int), .int .i64 (m : Int)] 28)) (hb))
        have R5 := Lib.hid (ownP_below (ownP_below R0.out (below_alloc wr (.cells #[.int .u32 (a : Int), .int .i64 (m : Int)] 28))) hb)
        obtain ⟨hc5, hf5⟩ := bcell hb
        have p0 : w5.cell? ⟨wr.heap.size, 0, none⟩ = some (.int .u32 (a : Int)) := by rw [hc5 _ _ (by simp)]; simp
        have p1 : w5.cell? ⟨wr.heap.size, 1, none⟩ = some (.int .i64 (m : Int)) := by rw [hc5 _ _ (by simp)]; simp
        have p0a := fun o => carry (below_alloc w5 o) p0
        have p1a := fun o => carry (below_alloc w5 o) p1
        have h5s := D5.out.size
        clear hb hc5 hf5
        go_wp2_with fail
        go_region_law (first | (refine step_append_lies _ rfl (.tmp 14) (.tmp 27) 71 rfl w.heap.size 74 i0 (.agg #[.int .u64 0, .int .u64 0]) 2 16 Try.underlying71 hi hz0 hz1 hz2 rfl (by decide) (.slice adv O.length capv) O.length (flatQ O) rfl (ownP_below R5.out (below_alloc w5 (.cells #[.int .u64 (a : Int), .int .u64 ((a + Q : Nat) : Int)] 74)).drew) ⟨w5.heap.size, 0, none⟩ 1 1 [.int .u64 (a : Int), .int .u64 ((a + Q : Nat) : Int)] rfl rfl (cellP_two_new _ _ _ _ (by simp)) (one_twoQ _ _) (by decide) (by unfold maxLen; omega) (by omega) (by simp; omega) (w5.heap.size + 1) (by simp) ?_; intro g2 cp2 w9 hown9 hgrow9 hat9 hlt9; have G := Lib.hid (And.intro hown9 (And.intro hgrow9 hat9)); clear hown9 hgrow9 hat9))
        all_goals (
          go_wp2
          go_roundg (l.length - (k + 1))
          case measure => omega
          case rel =>
            obtain ⟨r1, r2, r3⟩ := G.out
            refine ⟨k + 1, O ++ [(a, a + Q)], _, by omega, Nat.le_refl _, by rw [Int.natCast_add]; rfl, rfl, ?_, ?_, S1.out⟩
            · exact Below.grown (D5.out.trans ((below_alloc w5 (.cells #[.int .u64 (a : Int), .int .u64 ((a + Q : Nat) : Int)] 74)).drew.mono h5s)) r2 (by simp; omega) (fun j hj => (ownP_lt R5.out hj).1)
            · rw [flatQ_snoc, List.length_append]; exact r1)
    · obtain rfl : k = l.length := by omega
      have hcn := HB.out.2.2.cnt
      have HFi : Hid (Calls Try.prog 104 #[v3] wr fun e w' => ∃ v' O, e = .returned v' ∧ CM.Sep (mem l) O ∧ (∀ x ∈ O, x.2 ≤ 4294967296) ∧ O.length ≤ l.length ∧ RdQ w' v' O ∧ Below wr.heap.size wr w') := by
        refine (HMM.out O v3 wr HB.out.2.2.hi (by omega) (rdQ_own HB.out.2.1)).mono ?_
        rintro e w' ⟨v', O', rfl, h1, h2, h3, h4, h5⟩
        refine ⟨v', O', rfl, ?_, h2, by omega, h4, h5⟩
        have e : ivs O = mem l := funext fun y => by rw [HB.out.2.2.set y, List.take_length]
        rwa [e] at h1
      have D0 := Lib.hid HB.out.1
      clear HB
      go_wp2_with (go_at_call 104; refine HFi.out.mono ?_; rintro e w1 ⟨v', O', rfl, h1, h2, h3, h4, h5⟩; have K := Lib.hid (And.intro h1 (And.intro h2 (And.intro h3 (And.intro h4 (below_then D0.out h5))))); clear h1 h2 h3 h4 h5)
      go_ret
      exact ⟨_, O', rfl, K.out.1, K.out.2.1, K.out.2.2.1, K.out.2.2.2.1, K.out.2.2.2.2⟩
end Go.Proofs.Ytegponbmelgngaa
