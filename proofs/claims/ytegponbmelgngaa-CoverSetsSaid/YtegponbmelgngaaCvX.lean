/-
  The walk of the reference's both, as far as merging.
-/
import Derived.Test.YtegponbmelgngaaCvW
namespace Go.Proofs.Ytegponbmelgngaa
open Go.RowKit
set_option linter.unusedSimpArgs false
set_option linter.unusedVariables false
set_option maxHeartbeats 4000000
set_option maxRecDepth 100000

/-- what merging is to do -/
def MergedC : Prop := ∀ (l : List (Nat × Nat)) (v : Value) (W : World), (∀ x ∈ l, x.2 ≤ 4294967296) → l.length ≤ 4294967296 → RdQ W v l →
    Calls Try.prog 104 #[v] W fun e w' => ∃ v' O, e = .returned v' ∧ CM.Sep (ivs l) O ∧ (∀ x ∈ O, x.2 ≤ 4294967296) ∧ O.length ≤ l.length ∧ RdQ w' v' O ∧ Below W.heap.size W w'
def meetQ (x y : Nat × Nat) : Nat × Nat := (max x.1 y.1, min x.2 y.2)
theorem meet_in (x y : Nat × Nat) (z : Nat) : (decide ((meetQ x y).1 ≤ z) && decide (z < (meetQ x y).2)) = ((decide (x.1 ≤ z) && decide (z < x.2)) && (decide (y.1 ≤ z) && decide (z < y.2))) := by
  unfold meetQ
  rw [Bool.eq_iff_iff]
  simp only [Bool.and_eq_true, decide_eq_true_iff]
  omega
def inQ (x : Nat × Nat) (z : Nat) : Bool := decide (x.1 ≤ z) && decide (z < x.2)
/-- what both has gathered: all before k, and x with those before j -/
structure Met (a b : List (Nat × Nat)) (k j : Nat) (x : Nat × Nat) (O : List (Nat × Nat)) : Prop where
  set : ∀ z, ivs O z = ((ivs (a.take k) z && ivs b z) || (inQ x z && ivs (b.take j) z))
  hi : ∀ y ∈ O, y.2 ≤ 4294967296
  cnt : O.length ≤ k * b.length + j
theorem met_start (a b : List (Nat × Nat)) (x : Nat × Nat) : Met a b 0 0 x [] := ⟨fun z => by simp [ivs], fun y hy => (by cases hy), Nat.zero_le _⟩
theorem met_other {a b : List (Nat × Nat)} {k : Nat} {x x' : Nat × Nat} {O : List (Nat × Nat)} (h : Met a b k 0 x O) : Met a b k 0 x' O :=
  ⟨fun z => by rw [h.set z]; simp [ivs], h.hi, h.cnt⟩
theorem met_next {a b : List (Nat × Nat)} {k : Nat} {x : Nat × Nat} {O : List (Nat × Nat)} (h : Met a b k b.length x O) (hx : a[k]? = some x) : Met a b (k + 1) 0 x O :=
  ⟨fun z => by
    rw [h.set z, take_snocW hx, ivs_append, ivs_one, List.take_length]
    unfold inQ
    cases ivs (a.take k) z <;> cases ivs b z <;> cases decide (x.1 ≤ z) <;> cases decide (z < x.2) <;> simp [ivs], h.hi, by have := h.cnt; rw [Nat.succ_mul]; omega⟩
theorem met_more {a b : List (Nat × Nat)} {k j : Nat} {x y : Nat × Nat} {O : List (Nat × Nat)} (h : Met a b k j x O) (hy : b[j]? = some y) (hx : x.2 ≤ 4294967296) : Met a b k (j + 1) x (O ++ [meetQ x y]) :=
  ⟨fun z => by
    rw [ivs_append, ivs_one, h.set z, take_snocW hy, ivs_append, ivs_one, meet_in]
    unfold inQ
    cases ivs (a.take k) z <;> cases ivs b z <;> cases decide (x.1 ≤ z) <;> cases decide (z < x.2) <;> cases ivs (b.take j) z <;> cases decide (y.1 ≤ z) <;> cases decide (z < y.2) <;> rfl,
   fun u hu => by
    rcases List.mem_append.1 hu with hu | hu
    · exact h.hi u hu
    · rw [List.mem_singleton] at hu; subst hu; unfold meetQ; dsimp only; omega, by have := h.cnt; simp; omega⟩
theorem met_skip {a b : List (Nat × Nat)} {k j : Nat} {x y : Nat × Nat} {O : List (Nat × Nat)} (h : Met a b k j x O) (hy : b[j]? = some y) (hn : ¬ (meetQ x y).1 < (meetQ x y).2) : Met a b k (j + 1) x O :=
  ⟨fun z => by
    have e : (decide ((meetQ x y).1 ≤ z) && decide (z < (meetQ x y).2)) = false := by
      rw [Bool.eq_false_iff]; simp only [ne_eq, Bool.and_eq_true, decide_eq_true_iff]; omega
    rw [meet_in] at e
    rw [h.set z, take_snocW hy, ivs_append, ivs_one]
    unfold inQ
    revert e
    cases ivs (a.take k) z <;> cases ivs b z <;> cases decide (x.1 ≤ z) <;> cases decide (z < x.2) <;> cases ivs (b.take j) z <;> cases decide (y.1 ≤ z) <;> cases decide (z < y.2) <;> simp,
   h.hi, by have := h.cnt; omega⟩
theorem both_any (HM : MergedC) (S T : Nat → Bool) (a b : List (Nat × Nat)) (v1 v2 : Value) (w : World) (hS : CM.Sep S a) (hT : CM.Sep T b) (hha : ∀ x ∈ a, x.2 ≤ 4294967296) (hl1 : a.length ≤ 1000) (hl2 : b.length ≤ 1000) (hr1 : RdQ w v1 a) (hr2 : RdQ w v2 b) :
    Calls Try.prog 69 #[v1, v2] w fun e w' => ∃ v' O, e = .returned v' ∧ CM.Sep (fun y => S y && T y) O ∧ (∀ x ∈ O, x.2 ≤ 4294967296) ∧ RdQ w' v' O ∧ Below w.heap.size w w' := by
  obtain ⟨i0, hi, hz0, hz1, hz2⟩ := infoP_parts info74
  obtain ⟨ad, cap, rfl, hc⟩ := hr1
  obtain ⟨ad', cap', rfl, hc'⟩ := hr2
  have HC := Lib.hid hc
  have HC' := Lib.hid hc'
  have HS := Lib.hid (And.intro hS hT)
  have HH := Lib.hid hha
  have HMM := Lib.hid HM
  have hmul : ∀ k, k ≤ a.length → k * b.length ≤ 1000000 := fun k hk => Nat.le_trans (Nat.mul_le_mul (Nat.le_trans hk hl1) hl2) (by omega)
  have HMul := Lib.hid hmul
  clear hc hc' hS hT hha HM hmul
  go_enter Try.func69, Try.ntmps69
  go_wp2
  go_loopg [13, 5] a.length (fun g s13 s5 wr => ∃ (k : Nat) (O : List (Nat × Nat)) (v5 : Value), k ≤ a.length ∧ a.length - k ≤ g ∧ s13 = .int .i64 k ∧ v5 = s5 ∧ Hid (Below w.heap.size w wr ∧ wr.ownsRow w.heap.size 74 2 v5 O.length (flatQ O) ∧ Met a b k 0 (0, 0) O))
  case atStart => exact ⟨0, [], _, by omega, by omega, rfl, rfl, Below.refl _ _, World.ownsRow_nil _ _ _ _, met_start _ _ _⟩
  case round =>
    obtain ⟨k, O, v5, hk, hg, rfl, rfl, HB⟩ := hrel
    by_cases hlt : k < a.length
    · obtain ⟨x, hx⟩ : ∃ x, a[k]? = some x := ⟨_, List.getElem?_eq_getElem hlt⟩
      obtain ⟨blk', off', rfl, hblk, hc0, hc1⟩ := HC.out k x hx
      have f0 := carryB HB.out.1 hblk hc0
      have f1 := carryB HB.out.1 hblk hc1
      have HX := Lib.hid hx
      have hm := List.mem_of_getElem? hx
      have hxh := HH.out x hm
      have hxn := HS.out.1.ne x hm
      have hws := HB.out.1.size
      have hmk := HMul.out k hk
      obtain ⟨xa, xb⟩ := x
      dsimp only at f0 f1 hxh hxn
      have MT := Lib.hid (met_other (x' := (xa, xb)) HB.out.2.2)
      have R0 := Lib.hid HB.out.2.1
      have D0 := Lib.hid HB.out.1
      clear hc0 hc1 hx hm HB
      have R1 := Lib.hid (ownP_below R0.out (below_alloc wr (.cells #[.int .u64 (xa : Int), .int .u64 (xb : Int)] 74)))
      have D1 := Lib.hid (D0.out.alloc hws (.cells #[.int .u64 (xa : Int), .int .u64 (xb : Int)] 74))
      have NE1 : Hid (v5.ownBlock ≠ some wr.heap.size) := fun e => by have := (ownP_lt R0.out e).2; omega
      have g0 : (wr.alloc (.cells #[.int .u64 (xa : Int), .int .u64 (xb : Int)] 74)).heap[wr.heap.size]? = some (.cells #[.int .u64 (xa : Int), .int .u64 (xb : Int)] 74 (0, 0)) := heap_alloc_new _ _
      go_wp2_with fail
      obtain ⟨q, hq⟩ : ∃ q, wr.heap.size = q := ⟨_, rfl⟩
      rw [hq] at g0 NE1 hws ⊢
      generalize wr.alloc (.cells #[.int .u64 (xa : Int), .int .u64 (xb : Int)] 74) = wa at *
      clear hq f0 f1 R0 D0
      go_loopg [19, 5] b.length (fun g s19 s5 wi => ∃ (j : Nat) (O' : List (Nat × Nat)) (v' : Value), j ≤ b.length ∧ b.length - j ≤ g ∧ s19 = .int .i64 j ∧ v' = s5 ∧ wi.heap[q]? = some (.cells #[.int .u64 (xa : Int), .int .u64 (xb : Int)] 74 (0, 0)) ∧ Hid (Below w.heap.size w wi ∧ wi.ownsRow w.heap.size 74 2 v' O'.length (flatQ O') ∧ Met a b k j (xa, xb) O' ∧ v'.ownBlock ≠ some q))
      case atStart => exact ⟨0, O, v5, by omega, by omega, rfl, rfl, g0, D1.out, R1.out, MT.out, NE1.out⟩
      case round =>
        obtain ⟨j, O', v', hj, hgj, rfl, rfl, gb, HI⟩ := hrel
        obtain ⟨adv, capv, hvf⟩ := rdQ_slice (rdQ_own HI.out.2.1)
        subst hvf
        by_cases hjl : j < b.length
        · obtain ⟨y, hy⟩ : ∃ y, b[j]? = some y := ⟨_, List.getElem?_eq_getElem hjl⟩
          obtain ⟨blk2, off2, rfl, hblk2, hd0, hd1⟩ := HC'.out j y hy
          have e0 := carryB HI.out.1 hblk2 hd0
          have e1 := carryB HI.out.1 hblk2 hd1
          have b0 : wr.cell? ⟨q, 0, none⟩ = some (.int .u64 (xa : Int)) := by simp [World.cell?, gb]
          have b1 : wr.cell? ⟨q, 1, none⟩ = some (.int .u64 (xb : Int)) := by simp [World.cell?, gb]
          have HY := Lib.hid hy
          have GB := Lib.hid gb
          have R2 := Lib.hid HI.out.2.1
          have D2 := Lib.hid HI.out.1
          have MT2 := Lib.hid HI.out.2.2.1
          have NE2 := Lib.hid HI.out.2.2.2
          have hcn := MT2.out.cnt
          obtain ⟨ya, yb⟩ := y
          dsimp only at e0 e1
          clear hd0 hd1 hy gb HI
          have hwi := D2.out.size
          have b0' := carry (below_alloc wr (.cells #[.int .u64 (ya : Int), .int .u64 (yb : Int)] 74)) b0
          have b1' := carry (below_alloc wr (.cells #[.int .u64 (ya : Int), .int .u64 (yb : Int)] 74)) b1
          obtain ⟨M, hM⟩ : ∃ M, M = max xa ya := ⟨_, rfl⟩
          obtain ⟨N, hN⟩ : ∃ N, N = min xb yb := ⟨_, rfl⟩
          have hmx : max (xa : Int) (ya : Int) = (M : Int) := by omega
          have hmn : min (xb : Int) (yb : Int) = (N : Int) := by omega
          have ME : Hid (meetQ (xa, xb) (ya, yb) = (M, N)) := by rw [hM, hN]; rfl
          clear hM hN
          have GB1 := Lib.hid (((below_alloc wr (.cells #[.int .u64 (ya : Int), .int .u64 (yb : Int)] 74)).block q (lt_of_block GB.out)).trans GB.out)
          have hqw := lt_of_block GB.out
          by_cases hMN : M < N
          · have MT3 := Lib.hid (met_more MT2.out HY.out hxh)
            rw [ME.out] at MT3
            have R3 := Lib.hid (ownP_below (ownP_below R2.out (below_alloc wr (.cells #[.int .u64 (ya : Int), .int .u64 (yb : Int)] 74))) (below_alloc _ (.cells #[.int .u64 (M : Int), .int .u64 (N : Int)] 74)))
            go_wp2_with (at_builtin; go_loud (refine wpList_append_lies _ rfl (.tmp 39) (.tmp 41) 71 rfl w.heap.size 74 i0 (.agg #[.int .u64 0, .int .u64 0]) 2 16 Try.underlying71 hi hz0 hz1 hz2 rfl (by decide) (.slice adv O'.length capv) O'.length (flatQ O') rfl (ownP_below R3.out (below_alloc _ _)) ⟨wr.heap.size + 1 + 1, 0, none⟩ 1 1 [.int .u64 (M : Int), .int .u64 (N : Int)] rfl rfl (cellP_two_new _ _ _ _ (by simp)) (one_twoQ _ _) (by decide) (by unfold maxLen; omega) (by omega) (by simp; omega) (wr.heap.size + 1 + 1 + 1) (by simp) ?_; intro g cp w4 hown4 hgrow4 hat4 hlt4; have G := Lib.hid (And.intro hown4 (And.intro hgrow4 hat4)); clear hown4 hgrow4 hat4))
            go_roundg (b.length - (j + 1))
            case measure => omega
            case rel =>
              obtain ⟨r1, r2, r3⟩ := G.out
              have hgq : g ≠ q := by
                rintro rfl
                rcases r3 with r3 | r3
                · exact NE2.out r3
                · omega
              refine ⟨j + 1, O' ++ [(M, N)], _, by omega, Nat.le_refl _, by rw [Int.natCast_add]; rfl, rfl, ?_, ?_, ?_, MT3.out, ?_⟩
              · refine (r2.block q (by simp; omega) (fun e => NE2.out e.symm)).trans ((Below.heap_alloc _ _ _ (by simp; omega)).trans ((Below.heap_alloc _ _ _ (by simp; omega)).trans GB1.out))
              · exact Below.grown (((D2.out.alloc hwi _).alloc (by simp; omega) _).alloc (by simp; omega) _) r2 (by simp; omega) (fun i hi => (ownP_lt R2.out hi).1)
              · rw [flatQ_snoc, List.length_append]; exact r1
              · simp [Value.ownBlock]; exact hgq
          · have MT3 := Lib.hid (met_skip MT2.out HY.out (by rw [ME.out]; exact hMN))
            go_wp2
            go_roundg (b.length - (j + 1))
            case measure => omega
            case rel =>
              refine ⟨j + 1, O', _, by omega, Nat.le_refl _, by rw [Int.natCast_add]; rfl, rfl, ?_, ?_, ?_, MT3.out, NE2.out⟩
              · exact (Below.heap_alloc _ _ _ (by simp; omega)).trans GB1.out
              · exact (D2.out.alloc hwi _).alloc (by simp; omega) _
              · exact ownP_below (ownP_below R2.out (below_alloc _ _)) (below_alloc _ _)
        · obtain rfl : j = b.length := by omega
          have MN := Lib.hid (met_other (x' := (0, 0)) (met_next HI.out.2.2.1 HX.out))
          have R3 := Lib.hid HI.out.2.1
          have D3 := Lib.hid HI.out.1
          clear HI gb
          go_wp2_with fail
          go_roundg (a.length - (k + 1))
          case measure => omega
          case rel => exact ⟨k + 1, O', _, by omega, Nat.le_refl _, by rw [Int.natCast_add]; rfl, rfl, D3.out, R3.out, MN.out⟩
    · obtain rfl : k = a.length := by omega
      have hcn := HB.out.2.2.cnt
      have hm0 := HMul.out a.length (Nat.le_refl _)
      have HF : Hid (Calls Try.prog 104 #[v5] wr fun e w' => ∃ v' O, e = .returned v' ∧ CM.Sep (fun y => S y && T y) O ∧ (∀ x ∈ O, x.2 ≤ 4294967296) ∧ RdQ w' v' O ∧ Below wr.heap.size wr w') := by
        refine (HMM.out O v5 wr HB.out.2.2.hi (by omega) (rdQ_own HB.out.2.1)).mono ?_
        rintro e w' ⟨v', O', rfl, h1, h2, h3, h4, h5⟩
        refine ⟨v', O', rfl, ?_, h2, h4, h5⟩
        have e : ivs O = fun y => S y && T y := funext fun y => by
          rw [HB.out.2.2.set y, List.take_length, Sep.ivs_eq HS.out.1, Sep.ivs_eq HS.out.2]; simp [ivs]
        rwa [e] at h1
      have D0 := Lib.hid HB.out.1
      clear HB
      go_wp2_with (go_at_call 104; refine HF.out.mono ?_; rintro e w1 ⟨v', O', rfl, h1, h2, h3, h4⟩; have K := Lib.hid (And.intro h1 (And.intro h2 (And.intro h3 (below_then D0.out h4)))); clear h1 h2 h3 h4)
      go_ret
      exact ⟨_, O', rfl, K.out.1, K.out.2.1, K.out.2.2.1, K.out.2.2.2⟩
end Go.Proofs.Ytegponbmelgngaa
