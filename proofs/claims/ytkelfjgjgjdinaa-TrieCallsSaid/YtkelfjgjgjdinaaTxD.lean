/-
  The walk of the reference's Put.
-/
import Derived.Test.YtkelfjgjgjdinaaTxC
namespace Go.Proofs.Ytkelfjgjgjdinaa
open Go.RowKit
set_option linter.unusedSimpArgs false
set_option linter.unusedVariables false
set_option maxHeartbeats 2000000
set_option maxRecDepth 100000

theorem ins_parts {L : List En} (ha : AscE L) (e : En) : (delE L e.1).take (plc (delE L e.1) e.1) ++ e :: (delE L e.1).drop (plc (delE L e.1) e.1) = insE L e := by
  have ha2 := asc_delE e.1 ha
  rw [take_plc ha2, drop_plc ha2]
  have h1 : insE L e = insE (delE L e.1) e := asc_ext (asc_insE e ha) (asc_insE e ha2) fun x => by
    rw [mem_insE, mem_insE, mem_delE]
    constructor
    · rintro (h | ⟨h, h2⟩)
      · exact .inl h
      · exact .inr ⟨⟨h, h2⟩, h2⟩
    · rintro (h | ⟨⟨h, _⟩, h2⟩)
      · exact .inl h
      · exact .inr ⟨h, h2⟩
  rw [h1]
  unfold insE
  congr 2
  refine List.filter_congr fun x hx => ?_
  have hn := (mem_delE.1 hx).2
  rcases ltP_or x.1 e.1 with h | h | h
  · simp [h, show ¬ ltP e.1 x.1 from fun h2 => ltP_asymm h h2]
  · exact absurd h hn
  · simp [h, show ¬ ltP x.1 e.1 from fun h2 => ltP_asymm h h2]
theorem rdrop_any (g : Nat) (v : Value) (L : List En) (w : World) (p : PP) (h : RefR w g v L) (ha : AscE L) (hl : L.length ≤ 1000) :
    Calls Try.prog 82 #[.pointer (some ⟨g, 0, none⟩), .agg #[.int .u32 (p.1 : Nat), .int .i64 p.2]] w fun en w' => en = .returned (.bool (hasE L p)) ∧ RefPost w g v (delE L p) w' := by
  cases hh : hasE L p
  · rw [del_none (hasE_not.1 hh)]
    exact (rdrop_no g v L w p h hl hh).mono fun en w' ⟨h1, h2⟩ => ⟨h1, v, h.below h2, fun b hb => .inl hb, Kp.of_below h2⟩
  · exact rdrop_yes g v L w p h ha hl hh
theorem RefPost.trans {w w1 w2 : World} {g : Nat} {v v1 : Value} {L2 : List En} (h1 : ∀ b, v1.ownBlock = some b → v.ownBlock = some b ∨ w.heap.size ≤ b) (k1 : Kp [g] w w1) (h2 : RefPost w1 g v1 L2 w2) : RefPost w g v L2 w2 := by
  obtain ⟨v2, r2, o2, k2⟩ := h2
  refine ⟨v2, r2, fun b hb => ?_, k1.trans k2 (fun k hk => .inl hk)⟩
  rcases o2 b hb with h | h
  · exact h1 b h
  · exact .inr (Nat.le_trans k1.size h)
theorem rput_bad (g : Nat) (p : PP) (hb : p.1 < 4294967296) (hm : I64 p.2) (x : Int) (hv : V p = false) (w : World) :
    Calls Try.prog 81 #[.pointer (some ⟨g, 0, none⟩), .agg #[.int .u32 (p.1 : Nat), .int .i64 p.2], .int .i64 x] w fun en w' => en = .returned (.tuple #[.bool false, .int .i64 1]) ∧ Below w.heap.size w w' := by
  obtain ⟨a, n⟩ := p
  have HV : Hid (∀ W, Calls Try.prog 39 #[.agg #[.int .u32 a, .int .i64 n]] W fun e w' => e = .returned (.bool false) ∧ Below W.heap.size W w') := fun W => (rvalid_any a hb n hm W).mono fun _ _ k => ⟨by rw [k.1]; exact ret_b hv, k.2⟩
  clear hv
  go_enter Try.func81, Try.ntmps81
  go_wp2_with (go_at_call 39; refine (HV.out _).mono ?_; rintro e w1 ⟨rfl, hb1⟩; have B1 := Lib.hid hb1; clear hb1)
  go_ret2
  exact ⟨rfl, below_then (below_alloc _ _) B1.out⟩
/-- the world ahead of place: the list L2 without the prefix -/
theorem rput_go (g : Nat) (v : Value) (L : List En) (w : World) (a : Nat) (n x : Int) (hpv : PV (a, n)) (hn : I64 n) (h : RefR w g v L) (ha : AscE L) (hl : L.length ≤ 900) :
    Calls Try.prog 81 #[.pointer (some ⟨g, 0, none⟩), .agg #[.int .u32 a, .int .i64 n], .int .i64 x] w fun en w' => en = .returned (.tuple #[.bool (!hasE L (a, n)), .int .i64 0]) ∧ RefPost w g v (insE L ((a, n), x)) w' := by
  obtain ⟨i0, hi, hz0, hz1, hz2⟩ := info_parts info65
  have HV : Hid (∀ W, Calls Try.prog 39 #[.agg #[.int .u32 a, .int .i64 n]] W fun e w' => e = .returned (.bool true) ∧ Below W.heap.size W w') := fun W => (rvalid_any a hpv.1 n hn W).mono fun _ _ k => ⟨by rw [k.1]; exact ret_b hpv.2, k.2⟩
  have HG : Hid (∀ W, RefR W g v L → Calls Try.prog 83 #[.pointer (some ⟨g, 0, none⟩), .agg #[.int .u32 a, .int .i64 n]] W fun en w' => en = .returned (.tuple #[.int .i64 (getE L (a, n)).1, .bool (hasE L (a, n))]) ∧ Below W.heap.size W w') := fun W hW => by
    refine (rget_any g v L W (a, n) hW (by omega)).mono fun en w' ⟨h1, h2⟩ => ⟨?_, h2⟩
    rw [h1]
    have : (getE L (a, n)).2 = hasE L (a, n) := by
      cases hh : hasE L (a, n)
      · rw [getE_none (hasE_not.1 hh)]
      · obtain ⟨y, hy, e⟩ := hasE_iff.1 hh
        rw [getE_mem ha hy e]
    rw [this]
  have HDr : Hid (∀ W, RefR W g v L → Calls Try.prog 82 #[.pointer (some ⟨g, 0, none⟩), .agg #[.int .u32 a, .int .i64 n]] W fun en w' => en = .returned (.bool (hasE L (a, n))) ∧ RefPost W g v (delE L (a, n)) w') := fun W hW => rdrop_any g v L W (a, n) hW ha (by omega)
  have HI := Lib.hid (ins_parts ha ((a, n), x))
  have hl2 : (delE L (a, n)).length ≤ 900 := by have := delE_len ha (a, n); omega
  obtain ⟨L2, hL2⟩ : ∃ L2, delE L (a, n) = L2 := ⟨_, rfl⟩
  obtain ⟨b0, hb0⟩ : ∃ b0, hasE L (a, n) = b0 := ⟨_, rfl⟩
  rw [show (((a, n), x) : En).1 = (a, n) from rfl, hL2] at HI
  rw [hL2] at HDr hl2
  rw [hb0] at HG HDr ⊢
  have hpl := plc_le L2 (a, n)
  obtain ⟨i, hpi⟩ : ∃ i, plc L2 (a, n) = i := ⟨_, rfl⟩
  have HPl : Hid (∀ W v2, RefR W g v2 L2 → Calls Try.prog 109 #[.pointer (some ⟨g, 0, none⟩), .agg #[.int .u32 a, .int .i64 n]] W fun en w' => en = .returned (.int .i64 (i : Nat)) ∧ Below W.heap.size W w') := fun W v2 hW => hpi ▸ place_any g v2 L2 W (a, n) hW (by omega)
  rw [hpi] at HI hpl
  have HR := Lib.hid h
  have hT : (flatE (L2.take i)).length = i * 3 := by rw [flatE_len, List.length_take]; congr 1; omega
  have hD : (flatE (L2.drop i)).length = (L2.length - i) * 3 := by rw [flatE_len, List.length_drop]
  have HT := Lib.hid hT
  have HDl := Lib.hid hD
  clear h ha hl hL2 hb0 hpi hT hD hpv
  have q1 : (0 : Int) ≤ (i : Int) := by omega
  go_enter Try.func81, Try.ntmps81
  go_wp2_with fail
  refine (HV.out _).mono ?_
  rintro e w1 ⟨rfl, hb1⟩
  have R1 := Lib.hid ((HR.out.below (below_alloc _ _)).below hb1)
  have B1 := Lib.hid (below_then (below_alloc _ _) hb1)
  have c0 : w1.cell? ⟨w.heap.size, 0, none⟩ = some (.int .u32 a) := carry hb1 (by simp)
  have c1 : w1.cell? ⟨w.heap.size, 1, none⟩ = some (.int .i64 n) := carry hb1 (by simp)
  clear hb1
  go_wp2_with fail
  refine (HG.out _ R1.out).mono ?_
  rintro e w2 ⟨rfl, hb2⟩
  have R2 := Lib.hid (R1.out.below hb2)
  have B2 := Lib.hid (below_then B1.out hb2)
  have d0 := carry hb2 c0
  have d1 := carry hb2 c1
  have hgw : g ≠ w.heap.size := by have := lt_of_block HR.out.blk; omega
  clear hb2 c0 c1
  go_wp2_with fail
  refine (HDr.out _ R2.out).mono ?_
  rintro e w3 ⟨rfl, v2, hr3, ho3, hk3⟩
  have R3 := Lib.hid hr3
  have O3 := Lib.hid (And.intro ho3 hk3)
  have e0 := hk3.carry (by simp; exact fun h => hgw h.symm) d0
  have e1 := hk3.carry (by simp; exact fun h => hgw h.symm) d1
  clear hr3 ho3 hk3 d0 d1
  have PRE : Hid (∀ L' wz, RefPost w3 g v2 L' wz → RefPost w g v L' wz) := fun L' wz hz => RefPost.trans (fun b hb => by
      rcases O3.out.1 b hb with h | h
      · exact .inl h
      · exact .inr (Nat.le_trans B2.out.size h)) ((Kp.of_below B2.out).trans O3.out.2 (fun k hk => .inl hk)) hz
  go_wp2_with fail
  refine (HPl.out _ v2 R3.out).mono ?_
  rintro e w4 ⟨rfl, hb4⟩
  have R4 := Lib.hid (R3.out.below hb4)
  have B4 := Lib.hid hb4
  have f0 := carry hb4 e0
  have f1 := carry hb4 e1
  have k0 := R4.out.cell
  have hglt := lt_of_block R4.out.blk
  have hB4 : w3.heap.size ≤ w4.heap.size := hb4.size
  clear hb4 e0 e1
  rcases row_form R4.out.row with ⟨rfl, rfl⟩ | ⟨b, cap, rfl, hcap, hbl, hcs⟩
  · obtain rfl : i = 0 := by simpa using hpl
    have BX : Hid (Below w4.heap.size w4 w4) := Below.refl _ _
    have N0 : Hid (w4.ownsRow w4.heap.size 65 3 (.slice none 0 0) 0 []) := World.ownsRow_nil _ _ _ _
    have l3 : ∀ o, (w4.alloc o).cell? ⟨g, 0, none⟩ = some (.slice none 0 0) := fun o => carry (below_alloc _ _) k0
    go_wp2_with (first
      | (at_builtin; refine wpList_append_own_at _ rfl (.tmp 37) (.tmp 41) 56 rfl w4.heap.size 65 i0 (.agg #[.int .u32 0, .int .i64 0, .int .i64 0]) 3 24 Try.underlying56 hi hz0 hz1 hz2 rfl (by decide) (.slice none 0 0) (0) ([]) rfl (own_below N0.out (below_alloc _ _)) ⟨w4.heap.size, 0, none⟩ 1 1 [.int .u32 (a : Int), .int .i64 n, .int .i64 x] rfl rfl (cell_three_at _ _ _ _ _ rfl) (one_three _ _ _) (by unfold maxLen; omega) (by omega) (Nat.le_trans BX.out.size (below_alloc _ _).size) ?_; intro v6 w6 hown hgr hnil hat
         obtain ⟨ad6, n6, cp6, rfl⟩ := own_slice hown
         have Y6 := Lib.hid (And.intro hown (And.intro hgr hat))
         have B6 : Hid (Below w4.heap.size w4 w6) := (BX.out.alloc BX.out.size _).grown hgr (Nat.le_trans BX.out.size (below_alloc _ _).size) (fun k hk => by first | exact (own_lt N0.out hk).1 | simp [Value.ownBlock] at hk)
         have K6 : Hid (RefR w6 g (.slice none 0 0) []) := R4.out.below B6.out
         have m0 := K6.out.cell
         clear hown hgr hnil hat)
      | (at_builtin; refine wpList_append_own_none rfl (.tmp 43) (.tmp 49) 56 rfl w4.heap.size 65 i0 3 Try.underlying56 hi (.slice ad6 n6 cp6) (0 + 1) ([] ++ [.int .u32 (a : Int), .int .i64 n, .int .i64 x]) rfl Y6.out.1 rfl ?_
         have pf := free_of_one K6.out.blk))
    have Z7 := Y6
    have B7 := B6
    have K7 := K6
    go_ret2
    refine ⟨rfl, PRE.out _ _ ⟨.slice ad6 n6 cp6, ⟨one_setCell K7.out.blk, ?_⟩, ?_, ?_⟩⟩
    · have h1 := Z7.out.1
      have hne : (Value.slice ad6 n6 cp6).ownBlock ≠ some g := fun e => by have := (own_lt h1 e).1; omega
      have h2 := ownsRow_setCell_other h1 (a := ⟨g, 0, none⟩) hne (.slice ad6 n6 cp6)
      rw [← HI.out]
      have e : (([] : List En).take 0 ++ ((a, n), x) :: ([] : List En).drop 0).length = 0 + 1 := by rw [List.length_append, List.length_cons, List.length_take, List.length_drop]; simp
      have e2 : flatE (([] : List En).take 0 ++ ((a, n), x) :: ([] : List En).drop 0) = [] ++ [.int .u32 (a : Int), .int .i64 n, .int .i64 x] := by rfl
      rw [e, e2]
      exact ⟨h2.1, h2.2.imp id (fun ⟨g', cap', cur, r1, r2, r3⟩ => ⟨g', cap', cur, r1, Nat.zero_le _, r3⟩)⟩
    · intro b' hb'
      exact .inr (Nat.le_trans hB4 (own_lt Z7.out.1 hb').1)
    · exact (Kp.of_below (B4.out.trans (B7.out.mono hB4))).setCell (.inl (by simp))
  · have HCS : Hid (∀ (W : World), Below w4.heap.size w4 W → ∀ (j : Nat) (u : Value), (flatE L2)[j]? = some u → W.cell? ⟨b, j, none⟩ = some u) := fun W hW j u hj => carry' hW hbl (hcs j u hj)
    clear hcs
    have q2 : i ≤ cap := by omega
    by_cases hce : cap = i
    · subst hce
      have HLe : Hid (L2.length = cap) := by unfold Hid; omega
      have HNw : Hid (∀ (W : World), Below w4.heap.size w4 W → ∀ (j : Nat) (u : Value), ([] : List Value)[j]? = some u → W.cell? ((⟨b, 0, none⟩ : Addr).add j) = some u) := fun W _ j u hj => by simp at hj
      have HD0 : Hid (L2.drop cap = []) := by unfold Hid; exact List.drop_of_length_le (by have := HLe.out; omega)
      have q5 : L2.length - cap = 0 := by omega
      have q6 : (L2.length : Int) - (cap : Int) = 0 := by have := HLe.out; omega
      go_wp2_with (first
        | (at_builtin; refine wpList_append_own_at _ rfl (.tmp 29) (.tmp 35) 56 rfl w4.heap.size 65 i0 (.agg #[.int .u32 0, .int .i64 0, .int .i64 0]) 3 24 Try.underlying56 hi hz0 hz1 hz2 rfl (by decide) (.slice none 0 0) 0 [] rfl (World.ownsRow_nil _ _ _ _) ⟨b, 0, none⟩ cap (cap) (flatE (L2.take cap)) rfl HT.out (fun j u hj => by rw [add_at, Nat.zero_add]; exact HCS.out _ (Below.refl _ _) j u (flat_take L2 cap (by omega) j u hj)) one_flat (by unfold maxLen; omega) (by omega) (Nat.le_refl _) ?_; intro v5 w5 hown hgr hnil hat
           have Y5 := Lib.hid (And.intro hown (And.intro hgr hat))
           have BX : Hid (Below w4.heap.size w4 w5) := (Below.refl _ _).grown hgr (Nat.le_refl _) (fun k hk => by simp [Value.ownBlock] at hk)
           have l0 := carry' BX.out (World.block_lt_of_cell? _ _ f0) f0
           have l1 := carry' BX.out (World.block_lt_of_cell? _ _ f1) f1
           have K5 : Hid (RefR w5 g (.slice (some ⟨b, 0, none⟩) L2.length cap) L2) := R4.out.below BX.out
           have l2 := K5.out.cell
           have l3 : ∀ o, (w5.alloc o).cell? ⟨g, 0, none⟩ = _ := fun o => carry (below_alloc _ _) l2
           clear hown hgr hnil hat)
        | (at_builtin; refine wpList_append_own_at _ rfl (.tmp 37) (.tmp 41) 56 rfl w4.heap.size 65 i0 (.agg #[.int .u32 0, .int .i64 0, .int .i64 0]) 3 24 Try.underlying56 hi hz0 hz1 hz2 rfl (by decide) v5 (0 + cap) ([] ++ flatE (L2.take cap)) rfl (own_below Y5.out.1 (below_alloc _ _)) ⟨w5.heap.size, 0, none⟩ 1 1 [.int .u32 (a : Int), .int .i64 n, .int .i64 x] rfl rfl (cell_three_at _ _ _ _ _ rfl) (one_three _ _ _) (by unfold maxLen; omega) (by omega) (Nat.le_trans BX.out.size (below_alloc _ _).size) ?_; intro v6 w6 hown hgr hnil hat
           obtain ⟨ad6, n6, cp6, rfl⟩ := own_slice hown
           have Y6 := Lib.hid (And.intro hown (And.intro hgr hat))
           have B6 : Hid (Below w4.heap.size w4 w6) := (BX.out.alloc BX.out.size _).grown hgr (Nat.le_trans BX.out.size (below_alloc _ _).size) (fun k hk => by first | exact (own_lt Y5.out.1 hk).1 | simp [Value.ownBlock] at hk)
           have K6 : Hid (RefR w6 g (.slice (some ⟨b, 0, none⟩) L2.length cap) L2) := R4.out.below B6.out
           have m0 := K6.out.cell
           clear hown hgr hnil hat)
        | (at_builtin; refine wpList_append_own_at _ rfl (.tmp 43) (.tmp 49) 56 rfl w4.heap.size 65 i0 (.agg #[.int .u32 0, .int .i64 0, .int .i64 0]) 3 24 Try.underlying56 hi hz0 hz1 hz2 rfl (by decide) (.slice ad6 n6 cp6) (0 + cap + 1) ([] ++ flatE (L2.take cap) ++ [.int .u32 (a : Int), .int .i64 n, .int .i64 x]) rfl Y6.out.1 ⟨b, 0, none⟩ 0 0 [] rfl rfl (fun j u hj => HNw.out w6 B6.out j u hj) (by intro u hu; cases hu) (by unfold maxLen; omega) (by omega) B6.out.size ?_; intro v7 w7 hown hgr hnil hat
           obtain ⟨ad7, n7, cp7, rfl⟩ := own_slice hown
           have Z7 := Lib.hid (And.intro hown (And.intro hgr hat))
           have B7 : Hid (Below w4.heap.size w4 w7) := B6.out.grown hgr B6.out.size (fun k hk => (own_lt Y6.out.1 hk).1)
           have K7 : Hid (RefR w7 g (.slice (some ⟨b, 0, none⟩) L2.length cap) L2) := R4.out.below B7.out
           have p0 := K7.out.cell
           have pf := free_of_one K7.out.blk
           clear hown hgr hnil hat))
      go_ret2
      refine ⟨rfl, PRE.out _ _ ⟨.slice ad7 n7 cp7, ⟨one_setCell K7.out.blk, ?_⟩, ?_, ?_⟩⟩
      · have h1 := Z7.out.1
        have hne : (Value.slice ad7 n7 cp7).ownBlock ≠ some g := fun e => by have := (own_lt h1 e).1; omega
        have h2 := ownsRow_setCell_other h1 (a := ⟨g, 0, none⟩) hne (.slice ad7 n7 cp7)
        rw [← HI.out]
        have e : (L2.take cap ++ ((a, n), x) :: L2.drop cap).length = 0 + cap + 1 + 0 := by rw [List.length_append, List.length_cons, List.length_take, List.length_drop]; omega
        have e2 : flatE (L2.take cap ++ ((a, n), x) :: L2.drop cap) = [] ++ flatE (L2.take cap) ++ [.int .u32 (a : Int), .int .i64 n, .int .i64 x] ++ [] := by rw [HD0.out, flatE_app]; simp [flatE, encE]
        rw [e, e2]
        exact ⟨h2.1, h2.2.imp id (fun ⟨g', cap', cur, r1, r2, r3⟩ => ⟨g', cap', cur, r1, Nat.zero_le _, r3⟩)⟩
      · intro b' hb'
        exact .inr (Nat.le_trans hB4 (own_lt Z7.out.1 hb').1)
      · exact (Kp.of_below (B4.out.trans (B7.out.mono hB4))).setCell (.inl (by simp))
    · have HNw : Hid (∀ (W : World), Below w4.heap.size w4 W → ∀ (j : Nat) (u : Value), (flatE (L2.drop i))[j]? = some u → W.cell? ((⟨b, i * 3, none⟩ : Addr).add j) = some u) := fun W hW j u hj => by
        rw [add_at]; exact HCS.out W hW _ u (flat_drop L2 i (by omega) j u hj)
      go_wp2_with (first
        | (at_builtin; refine wpList_append_own_at _ rfl (.tmp 29) (.tmp 35) 56 rfl w4.heap.size 65 i0 (.agg #[.int .u32 0, .int .i64 0, .int .i64 0]) 3 24 Try.underlying56 hi hz0 hz1 hz2 rfl (by decide) (.slice none 0 0) 0 [] rfl (World.ownsRow_nil _ _ _ _) ⟨b, 0, none⟩ i (cap) (flatE (L2.take i)) rfl HT.out (fun j u hj => by rw [add_at, Nat.zero_add]; exact HCS.out _ (Below.refl _ _) j u (flat_take L2 i (by omega) j u hj)) one_flat (by unfold maxLen; omega) (by omega) (Nat.le_refl _) ?_; intro v5 w5 hown hgr hnil hat
           have Y5 := Lib.hid (And.intro hown (And.intro hgr hat))
           have BX : Hid (Below w4.heap.size w4 w5) := (Below.refl _ _).grown hgr (Nat.le_refl _) (fun k hk => by simp [Value.ownBlock] at hk)
           have l0 := carry' BX.out (World.block_lt_of_cell? _ _ f0) f0
           have l1 := carry' BX.out (World.block_lt_of_cell? _ _ f1) f1
           have K5 : Hid (RefR w5 g (.slice (some ⟨b, 0, none⟩) L2.length cap) L2) := R4.out.below BX.out
           have l2 := K5.out.cell
           have l3 : ∀ o, (w5.alloc o).cell? ⟨g, 0, none⟩ = _ := fun o => carry (below_alloc _ _) l2
           clear hown hgr hnil hat)
        | (at_builtin; refine wpList_append_own_at _ rfl (.tmp 37) (.tmp 41) 56 rfl w4.heap.size 65 i0 (.agg #[.int .u32 0, .int .i64 0, .int .i64 0]) 3 24 Try.underlying56 hi hz0 hz1 hz2 rfl (by decide) v5 (0 + i) ([] ++ flatE (L2.take i)) rfl (own_below Y5.out.1 (below_alloc _ _)) ⟨w5.heap.size, 0, none⟩ 1 1 [.int .u32 (a : Int), .int .i64 n, .int .i64 x] rfl rfl (cell_three_at _ _ _ _ _ rfl) (one_three _ _ _) (by unfold maxLen; omega) (by omega) (Nat.le_trans BX.out.size (below_alloc _ _).size) ?_; intro v6 w6 hown hgr hnil hat
           obtain ⟨ad6, n6, cp6, rfl⟩ := own_slice hown
           have Y6 := Lib.hid (And.intro hown (And.intro hgr hat))
           have B6 : Hid (Below w4.heap.size w4 w6) := (BX.out.alloc BX.out.size _).grown hgr (Nat.le_trans BX.out.size (below_alloc _ _).size) (fun k hk => by first | exact (own_lt Y5.out.1 hk).1 | simp [Value.ownBlock] at hk)
           have K6 : Hid (RefR w6 g (.slice (some ⟨b, 0, none⟩) L2.length cap) L2) := R4.out.below B6.out
           have m0 := K6.out.cell
           clear hown hgr hnil hat)
        | (at_builtin; refine wpList_append_own_at _ rfl (.tmp 43) (.tmp 49) 56 rfl w4.heap.size 65 i0 (.agg #[.int .u32 0, .int .i64 0, .int .i64 0]) 3 24 Try.underlying56 hi hz0 hz1 hz2 rfl (by decide) (.slice ad6 n6 cp6) (0 + i + 1) ([] ++ flatE (L2.take i) ++ [.int .u32 (a : Int), .int .i64 n, .int .i64 x]) rfl Y6.out.1 ⟨b, i * 3, none⟩ (L2.length - i) (cap - i) (flatE (L2.drop i)) rfl HDl.out (fun j u hj => HNw.out w6 B6.out j u hj) one_flat (by unfold maxLen; omega) (by omega) B6.out.size ?_; intro v7 w7 hown hgr hnil hat
           obtain ⟨ad7, n7, cp7, rfl⟩ := own_slice hown
           have Z7 := Lib.hid (And.intro hown (And.intro hgr hat))
           have B7 : Hid (Below w4.heap.size w4 w7) := B6.out.grown hgr B6.out.size (fun k hk => (own_lt Y6.out.1 hk).1)
           have K7 : Hid (RefR w7 g (.slice (some ⟨b, 0, none⟩) L2.length cap) L2) := R4.out.below B7.out
           have p0 := K7.out.cell
           have pf := free_of_one K7.out.blk
           clear hown hgr hnil hat))
      go_ret2
      refine ⟨rfl, PRE.out _ _ ⟨.slice ad7 n7 cp7, ⟨one_setCell K7.out.blk, ?_⟩, ?_, ?_⟩⟩
      · have h1 := Z7.out.1
        have hne : (Value.slice ad7 n7 cp7).ownBlock ≠ some g := fun e => by have := (own_lt h1 e).1; omega
        have h2 := ownsRow_setCell_other h1 (a := ⟨g, 0, none⟩) hne (.slice ad7 n7 cp7)
        rw [← HI.out]
        have e : (L2.take i ++ ((a, n), x) :: L2.drop i).length = 0 + i + 1 + (L2.length - i) := by rw [List.length_append, List.length_cons, List.length_take, List.length_drop]; omega
        have e2 : flatE (L2.take i ++ ((a, n), x) :: L2.drop i) = [] ++ flatE (L2.take i) ++ [.int .u32 (a : Int), .int .i64 n, .int .i64 x] ++ flatE (L2.drop i) := by rw [flatE_app]; simp [flatE, encE]
        rw [e, e2]
        exact ⟨h2.1, h2.2.imp id (fun ⟨g', cap', cur, r1, r2, r3⟩ => ⟨g', cap', cur, r1, Nat.zero_le _, r3⟩)⟩
      · intro b' hb'
        exact .inr (Nat.le_trans hB4 (own_lt Z7.out.1 hb').1)
      · exact (Kp.of_below (B4.out.trans (B7.out.mono hB4))).setCell (.inl (by simp))
end Go.Proofs.Ytkelfjgjgjdinaa
