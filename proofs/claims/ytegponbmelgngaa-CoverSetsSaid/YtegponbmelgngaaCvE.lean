/-
  The walk of combine's closure.
-/
import Derived.Test.YtegponbmelgngaaCvD
namespace Go.Proofs.Ytegponbmelgngaa
open Go.RowKit
set_option linter.unusedSimpArgs false
set_option linter.unusedVariables false
set_option maxHeartbeats 4000000
set_option maxRecDepth 100000

theorem comb67_leaf (S Sa Sb : Nat → Bool) (hS : ∀ y, S y = ((Sa y) || (Sb y))) (kb r vb k A : Nat) (n : Int) (la lb : List PP) (va vb' : Value) (L : List PP) (K : Nat → Prop) (w : World) (hn : n = ((32 - k : Nat) : Int)) (hk : k ≤ 32) (ha : A % 2 ^ k = 0) (htop : A + 2 ^ k ≤ 4294967296)
    (ga : GL Sa A k la) (gb : GL Sb A k lb) (ra : RdK K w va la) (rb : RdK K w vb' lb) (kkb : K kb) (ck : w.cell? ⟨kb, 0, none⟩ = some (.func (.func 67) #[] #[])) (hR : ResI r K L w) (hL : L.length ≤ A)
    (ua : uniB la (pfx (A, k)) = true) (ub : uniB lb (pfx (A, k)) = true) :
    Calls Try.prog 105 #[.agg #[.int .u32 (A : Int), .int .i64 n], va, vb', .pointer (some ⟨kb, 0, none⟩), .pointer (some ⟨r, 0, none⟩), .pointer (some ⟨vb, 0, none⟩)] w (VisPost S k A r K L w) := by
  obtain ⟨i0, hi, hz0, hz1, hz2⟩ := infoP_parts info28
  have hp := CM.pow_pos' k
  have hpf : pfx (A, k) = (A, n) := by unfold pfx; rw [hn]
  have hI : I64 n := by constructor <;> omega
  have hA : A < 4294967296 := by omega
  have HUa : Hid (∀ W, Below w.heap.size w W → Calls Try.prog 106 #[va, .agg #[.int .u32 (A : Int), .int .i64 n]] W fun e w' => e = .returned (.bool true) ∧ Below W.heap.size W w') := fun W hW => by
    have := uni_any la va (A, n) ⟨hA, hI⟩ ga.val W (ra.rd.below hW); rwa [← hpf, ua, hpf] at this
  have HUb : Hid (∀ W, Below w.heap.size w W → Calls Try.prog 106 #[vb', .agg #[.int .u32 (A : Int), .int .i64 n]] W fun e w' => e = .returned (.bool true) ∧ Below W.heap.size W w') := fun W hW => by
    have := uni_any lb vb' (A, n) ⟨hA, hI⟩ gb.val W (rb.rd.below hW); rwa [← hpf, ub, hpf] at this
  have ca : (la.length = 0 ∧ ∀ y, A ≤ y → y < A + 2 ^ k → Sa y = false) ∨ (0 < la.length ∧ ∀ y, A ≤ y → y < A + 2 ^ k → Sa y = true) := by
    rcases ga.uni hk ha with ⟨_, ⟨h, g⟩ | ⟨h, g⟩⟩ | ⟨h, _⟩
    · exact .inl ⟨by rw [h]; rfl, g⟩
    · exact .inr ⟨List.length_pos_iff.2 h, g⟩
    · rw [ua] at h; cases h
  have cb : (lb.length = 0 ∧ ∀ y, A ≤ y → y < A + 2 ^ k → Sb y = false) ∨ (0 < lb.length ∧ ∀ y, A ≤ y → y < A + 2 ^ k → Sb y = true) := by
    rcases gb.uni hk ha with ⟨_, ⟨h, g⟩ | ⟨h, g⟩⟩ | ⟨h, _⟩
    · exact .inl ⟨by rw [h]; rfl, g⟩
    · exact .inr ⟨List.length_pos_iff.2 h, g⟩
    · rw [ub] at h; cases h
  have hla := ga.len
  have hlb := gb.len
  obtain ⟨ad, cap, rfl, _, _⟩ := ra
  obtain ⟨ad', cap', rfl, _, _⟩ := rb
  obtain ⟨v, hV⟩ := hR
  have hkb : kb < w.heap.size := hV.klt kb kkb
  have hbr : r < w.heap.size := lt_of_block hV.box
  have HV := Lib.hid hV
  obtain ⟨xa, hxa⟩ : ∃ xa : Bool, ((xa = false ∧ la.length = 0) ∨ (xa = true ∧ 0 < la.length)) ∧ ∀ y, A ≤ y → y < A + 2 ^ k → Sa y = xa := by
    rcases ca with ⟨h, g⟩ | ⟨h, g⟩
    · exact ⟨false, .inl ⟨rfl, h⟩, g⟩
    · exact ⟨true, .inr ⟨rfl, h⟩, g⟩
  obtain ⟨xb, hxb⟩ : ∃ xb : Bool, ((xb = false ∧ lb.length = 0) ∨ (xb = true ∧ 0 < lb.length)) ∧ ∀ y, A ≤ y → y < A + 2 ^ k → Sb y = xb := by
    rcases cb with ⟨h, g⟩ | ⟨h, g⟩
    · exact ⟨false, .inl ⟨rfl, h⟩, g⟩
    · exact ⟨true, .inr ⟨rfl, h⟩, g⟩
  have hSz : ∀ y, A ≤ y → y < A + 2 ^ k → S y = (xa || xb) := fun y h1 h2 => by rw [hS, hxa.2 y h1 h2, hxb.2 y h1 h2]
  have F1 : Hid ((xa || xb) = true → ∀ (w1 w2 : World) (g cap : Nat), Below w.heap.size w w1 → w2.ownsRow 0 28 2 (.slice (some ⟨g, 0, none⟩) (L.length + 1) cap) (L.length + 1) (flat L ++ [.int .u32 (A : Int), .int .i64 n]) → w1.grownBy w2 v.ownBlock → (v.ownBlock = some g ∨ w1.heap.size ≤ g) →
      VisPost S k A r K L w (.returned (.tuple #[])) (w2.setCell ⟨r, 0, none⟩ (.slice (some ⟨g, 0, none⟩) (L.length + 1) cap))) := fun hz w1 w2 g cap hb g1 g2 g3 => by
    refine vis_whole ha (fun y y1 y2 => by rw [hSz y y1 y2]; exact hz) HV.out hb ?_ g2 g3
    rw [show encP (pfx (A, k)) = [.int .u32 (A : Int), .int .i64 n] by rw [hpf]; rfl]; exact g1
  have F0 : Hid ((xa || xb) = false → ∀ w1, Below w.heap.size w w1 → VisPost S k A r K L w (.returned (.tuple #[])) w1) := fun hz w1 hb => vis_none (fun y h1 h2 => by rw [hSz y h1 h2]; exact hz) ⟨v, HV.out⟩ hb
  obtain ⟨hxa, _⟩ := hxa
  obtain ⟨hxb, _⟩ := hxb
  generalize la.length = na at *
  generalize lb.length = nb at *
  clear hSz hS ga gb hn hpf hp htop ha hk ua ub ca cb hV
  rcases hxa with ⟨rfl, rfl⟩ | ⟨rfl, hna⟩ <;> rcases hxb with ⟨rfl, rfl⟩ | ⟨rfl, hnb⟩
  all_goals
    simp only [Bool.or_false, Bool.or_true, Bool.and_false, Bool.and_true, Bool.not_false, Bool.not_true, forall_const, Bool.true_eq_false, Bool.false_eq_true, false_implies, Bool.or_self, Bool.and_self] at F0 F1
    go_enter Try.func105, Try.ntmps105
    go_wp2_with fail
    go_at_call 106
    refine (HUa.out _ (below_alloc _ _)).mono ?_
    rintro e w1 ⟨rfl, hb⟩
    have B1 := Lib.hid (below_then (below_alloc _ _) hb)
    have k1 := carry B1.out ck
    obtain ⟨hc1, hf1⟩ := bcell hb
    have hzw : w.heap.size < w1.heap.size := by have := hb.size; simp at this; omega
    clear hb
    go_wp2_with fail
    go_at_call 106
    refine (HUb.out _ B1.out).mono ?_
    rintro e w2 ⟨rfl, hb⟩
    have B2 := Lib.hid (below_then B1.out hb)
    have k2 := carry hb k1
    obtain ⟨hc2, hf2⟩ := bcell hb
    clear hb
    have hV2 := HV.out.below B2.out
    have c3 := hV2.cell.1
    have c4 := hV2.cell.2
    have RW := Lib.hid hV2.row
    have RB := Lib.hid hV2.box
    have hbr1 := lt_of_block hV2.box
    clear hV2
    go_wp2_with fail
    go_at_call 67
    refine (keepU_any _ _ _).mono ?_
    rintro e w3 ⟨rfl, rfl⟩
    simp only [Bool.or_false, Bool.or_true, Bool.and_false, Bool.and_true, Bool.not_false, Bool.not_true, Bool.or_self, Bool.and_self]
    go_wp2_with (at_builtin; refine wpList_append_lies _ rfl (.tmp 33) (.tmp 35) 22 rfl 0 28 i0 (.agg #[.int .u32 0, .int .i64 0]) 2 16 Try.underlying22 hi hz0 hz1 hz2 rfl (by decide) v L.length (flat L) rfl (ownP_below RW.out (below_alloc _ _)) ⟨w2.heap.size, 0, none⟩ 1 1 [.int .u32 (A : Int), .int .i64 n] rfl rfl (cellP_two_new _ _ _ _ rfl) (one_two _ _) (by decide) (by unfold maxLen; omega) (by omega) (Nat.zero_le _) (w2.heap.size + 1) (by simp) ?_; intro g cp w4 hown4 hgrow4 hat4 hlt4; have G := Lib.hid (And.intro hown4 (And.intro hgrow4 hat4)); have hz4 := (hgrow4.block r (by simp; omega) (fun e => HV.out.ne e.symm)).trans ((Below.heap_alloc _ _ _ hbr1).trans RB.out); have f4 := free_of_one hz4; have f5 := cell_of_one hz4; clear hz4 hown4 hgrow4 hat4)
    (try simp only [Exit.inBlock, Exit.then]); refine bodyPost_ret (results_none rfl _ _ _) rfl ?_
    first
      | exact F0.out _ B2.out
      | exact F1.out _ _ _ _ (below_then B2.out (below_alloc _ _)) G.out.1 G.out.2.1 (G.out.2.2.imp id (fun h => by rw [h]; simp))
theorem comb68_leaf (S Sa Sb : Nat → Bool) (hS : ∀ y, S y = ((Sa y) && (Sb y))) (kb r vb k A : Nat) (n : Int) (la lb : List PP) (va vb' : Value) (L : List PP) (K : Nat → Prop) (w : World) (hn : n = ((32 - k : Nat) : Int)) (hk : k ≤ 32) (ha : A % 2 ^ k = 0) (htop : A + 2 ^ k ≤ 4294967296)
    (ga : GL Sa A k la) (gb : GL Sb A k lb) (ra : RdK K w va la) (rb : RdK K w vb' lb) (kkb : K kb) (ck : w.cell? ⟨kb, 0, none⟩ = some (.func (.func 68) #[] #[])) (hR : ResI r K L w) (hL : L.length ≤ A)
    (ua : uniB la (pfx (A, k)) = true) (ub : uniB lb (pfx (A, k)) = true) :
    Calls Try.prog 105 #[.agg #[.int .u32 (A : Int), .int .i64 n], va, vb', .pointer (some ⟨kb, 0, none⟩), .pointer (some ⟨r, 0, none⟩), .pointer (some ⟨vb, 0, none⟩)] w (VisPost S k A r K L w) := by
  obtain ⟨i0, hi, hz0, hz1, hz2⟩ := infoP_parts info28
  have hp := CM.pow_pos' k
  have hpf : pfx (A, k) = (A, n) := by unfold pfx; rw [hn]
  have hI : I64 n := by constructor <;> omega
  have hA : A < 4294967296 := by omega
  have HUa : Hid (∀ W, Below w.heap.size w W → Calls Try.prog 106 #[va, .agg #[.int .u32 (A : Int), .int .i64 n]] W fun e w' => e = .returned (.bool true) ∧ Below W.heap.size W w') := fun W hW => by
    have := uni_any la va (A, n) ⟨hA, hI⟩ ga.val W (ra.rd.below hW); rwa [← hpf, ua, hpf] at this
  have HUb : Hid (∀ W, Below w.heap.size w W → Calls Try.prog 106 #[vb', .agg #[.int .u32 (A : Int), .int .i64 n]] W fun e w' => e = .returned (.bool true) ∧ Below W.heap.size W w') := fun W hW => by
    have := uni_any lb vb' (A, n) ⟨hA, hI⟩ gb.val W (rb.rd.below hW); rwa [← hpf, ub, hpf] at this
  have ca : (la.length = 0 ∧ ∀ y, A ≤ y → y < A + 2 ^ k → Sa y = false) ∨ (0 < la.length ∧ ∀ y, A ≤ y → y < A + 2 ^ k → Sa y = true) := by
    rcases ga.uni hk ha with ⟨_, ⟨h, g⟩ | ⟨h, g⟩⟩ | ⟨h, _⟩
    · exact .inl ⟨by rw [h]; rfl, g⟩
    · exact .inr ⟨List.length_pos_iff.2 h, g⟩
    · rw [ua] at h; cases h
  have cb : (lb.length = 0 ∧ ∀ y, A ≤ y → y < A + 2 ^ k → Sb y = false) ∨ (0 < lb.length ∧ ∀ y, A ≤ y → y < A + 2 ^ k → Sb y = true) := by
    rcases gb.uni hk ha with ⟨_, ⟨h, g⟩ | ⟨h, g⟩⟩ | ⟨h, _⟩
    · exact .inl ⟨by rw [h]; rfl, g⟩
    · exact .inr ⟨List.length_pos_iff.2 h, g⟩
    · rw [ub] at h; cases h
  have hla := ga.len
  have hlb := gb.len
  obtain ⟨ad, cap, rfl, _, _⟩ := ra
  obtain ⟨ad', cap', rfl, _, _⟩ := rb
  obtain ⟨v, hV⟩ := hR
  have hkb : kb < w.heap.size := hV.klt kb kkb
  have hbr : r < w.heap.size := lt_of_block hV.box
  have HV := Lib.hid hV
  obtain ⟨xa, hxa⟩ : ∃ xa : Bool, ((xa = false ∧ la.length = 0) ∨ (xa = true ∧ 0 < la.length)) ∧ ∀ y, A ≤ y → y < A + 2 ^ k → Sa y = xa := by
    rcases ca with ⟨h, g⟩ | ⟨h, g⟩
    · exact ⟨false, .inl ⟨rfl, h⟩, g⟩
    · exact ⟨true, .inr ⟨rfl, h⟩, g⟩
  obtain ⟨xb, hxb⟩ : ∃ xb : Bool, ((xb = false ∧ lb.length = 0) ∨ (xb = true ∧ 0 < lb.length)) ∧ ∀ y, A ≤ y → y < A + 2 ^ k → Sb y = xb := by
    rcases cb with ⟨h, g⟩ | ⟨h, g⟩
    · exact ⟨false, .inl ⟨rfl, h⟩, g⟩
    · exact ⟨true, .inr ⟨rfl, h⟩, g⟩
  have hSz : ∀ y, A ≤ y → y < A + 2 ^ k → S y = (xa && xb) := fun y h1 h2 => by rw [hS, hxa.2 y h1 h2, hxb.2 y h1 h2]
  have F1 : Hid ((xa && xb) = true → ∀ (w1 w2 : World) (g cap : Nat), Below w.heap.size w w1 → w2.ownsRow 0 28 2 (.slice (some ⟨g, 0, none⟩) (L.length + 1) cap) (L.length + 1) (flat L ++ [.int .u32 (A : Int), .int .i64 n]) → w1.grownBy w2 v.ownBlock → (v.ownBlock = some g ∨ w1.heap.size ≤ g) →
      VisPost S k A r K L w (.returned (.tuple #[])) (w2.setCell ⟨r, 0, none⟩ (.slice (some ⟨g, 0, none⟩) (L.length + 1) cap))) := fun hz w1 w2 g cap hb g1 g2 g3 => by
    refine vis_whole ha (fun y y1 y2 => by rw [hSz y y1 y2]; exact hz) HV.out hb ?_ g2 g3
    rw [show encP (pfx (A, k)) = [.int .u32 (A : Int), .int .i64 n] by rw [hpf]; rfl]; exact g1
  have F0 : Hid ((xa && xb) = false → ∀ w1, Below w.heap.size w w1 → VisPost S k A r K L w (.returned (.tuple #[])) w1) := fun hz w1 hb => vis_none (fun y h1 h2 => by rw [hSz y h1 h2]; exact hz) ⟨v, HV.out⟩ hb
  obtain ⟨hxa, _⟩ := hxa
  obtain ⟨hxb, _⟩ := hxb
  generalize la.length = na at *
  generalize lb.length = nb at *
  clear hSz hS ga gb hn hpf hp htop ha hk ua ub ca cb hV
  rcases hxa with ⟨rfl, rfl⟩ | ⟨rfl, hna⟩ <;> rcases hxb with ⟨rfl, rfl⟩ | ⟨rfl, hnb⟩
  all_goals
    simp only [Bool.or_false, Bool.or_true, Bool.and_false, Bool.and_true, Bool.not_false, Bool.not_true, forall_const, Bool.true_eq_false, Bool.false_eq_true, false_implies, Bool.or_self, Bool.and_self] at F0 F1
    go_enter Try.func105, Try.ntmps105
    go_wp2_with fail
    go_at_call 106
    refine (HUa.out _ (below_alloc _ _)).mono ?_
    rintro e w1 ⟨rfl, hb⟩
    have B1 := Lib.hid (below_then (below_alloc _ _) hb)
    have k1 := carry B1.out ck
    obtain ⟨hc1, hf1⟩ := bcell hb
    have hzw : w.heap.size < w1.heap.size := by have := hb.size; simp at this; omega
    clear hb
    go_wp2_with fail
    go_at_call 106
    refine (HUb.out _ B1.out).mono ?_
    rintro e w2 ⟨rfl, hb⟩
    have B2 := Lib.hid (below_then B1.out hb)
    have k2 := carry hb k1
    obtain ⟨hc2, hf2⟩ := bcell hb
    clear hb
    have hV2 := HV.out.below B2.out
    have c3 := hV2.cell.1
    have c4 := hV2.cell.2
    have RW := Lib.hid hV2.row
    have RB := Lib.hid hV2.box
    have hbr1 := lt_of_block hV2.box
    clear hV2
    go_wp2_with fail
    go_at_call 68
    refine (keepI_any _ _ _).mono ?_
    rintro e w3 ⟨rfl, rfl⟩
    simp only [Bool.or_false, Bool.or_true, Bool.and_false, Bool.and_true, Bool.not_false, Bool.not_true, Bool.or_self, Bool.and_self]
    go_wp2_with (at_builtin; refine wpList_append_lies _ rfl (.tmp 33) (.tmp 35) 22 rfl 0 28 i0 (.agg #[.int .u32 0, .int .i64 0]) 2 16 Try.underlying22 hi hz0 hz1 hz2 rfl (by decide) v L.length (flat L) rfl (ownP_below RW.out (below_alloc _ _)) ⟨w2.heap.size, 0, none⟩ 1 1 [.int .u32 (A : Int), .int .i64 n] rfl rfl (cellP_two_new _ _ _ _ rfl) (one_two _ _) (by decide) (by unfold maxLen; omega) (by omega) (Nat.zero_le _) (w2.heap.size + 1) (by simp) ?_; intro g cp w4 hown4 hgrow4 hat4 hlt4; have G := Lib.hid (And.intro hown4 (And.intro hgrow4 hat4)); have hz4 := (hgrow4.block r (by simp; omega) (fun e => HV.out.ne e.symm)).trans ((Below.heap_alloc _ _ _ hbr1).trans RB.out); have f4 := free_of_one hz4; have f5 := cell_of_one hz4; clear hz4 hown4 hgrow4 hat4)
    (try simp only [Exit.inBlock, Exit.then]); refine bodyPost_ret (results_none rfl _ _ _) rfl ?_
    first
      | exact F0.out _ B2.out
      | exact F1.out _ _ _ _ (below_then B2.out (below_alloc _ _)) G.out.1 G.out.2.1 (G.out.2.2.imp id (fun h => by rw [h]; simp))
theorem comb70_leaf (S Sa Sb : Nat → Bool) (hS : ∀ y, S y = ((Sa y) && !(Sb y))) (kb r vb k A : Nat) (n : Int) (la lb : List PP) (va vb' : Value) (L : List PP) (K : Nat → Prop) (w : World) (hn : n = ((32 - k : Nat) : Int)) (hk : k ≤ 32) (ha : A % 2 ^ k = 0) (htop : A + 2 ^ k ≤ 4294967296)
    (ga : GL Sa A k la) (gb : GL Sb A k lb) (ra : RdK K w va la) (rb : RdK K w vb' lb) (kkb : K kb) (ck : w.cell? ⟨kb, 0, none⟩ = some (.func (.func 70) #[] #[])) (hR : ResI r K L w) (hL : L.length ≤ A)
    (ua : uniB la (pfx (A, k)) = true) (ub : uniB lb (pfx (A, k)) = true) :
    Calls Try.prog 105 #[.agg #[.int .u32 (A : Int), .int .i64 n], va, vb', .pointer (some ⟨kb, 0, none⟩), .pointer (some ⟨r, 0, none⟩), .pointer (some ⟨vb, 0, none⟩)] w (VisPost S k A r K L w) := by
  obtain ⟨i0, hi, hz0, hz1, hz2⟩ := infoP_parts info28
  have hp := CM.pow_pos' k
  have hpf : pfx (A, k) = (A, n) := by unfold pfx; rw [hn]
  have hI : I64 n := by constructor <;> omega
  have hA : A < 4294967296 := by omega
  have HUa : Hid (∀ W, Below w.heap.size w W → Calls Try.prog 106 #[va, .agg #[.int .u32 (A : Int), .int .i64 n]] W fun e w' => e = .returned (.bool true) ∧ Below W.heap.size W w') := fun W hW => by
    have := uni_any la va (A, n) ⟨hA, hI⟩ ga.val W (ra.rd.below hW); rwa [← hpf, ua, hpf] at this
  have HUb : Hid (∀ W, Below w.heap.size w W → Calls Try.prog 106 #[vb', .agg #[.int .u32 (A : Int), .int .i64 n]] W fun e w' => e = .returned (.bool true) ∧ Below W.heap.size W w') := fun W hW => by
    have := uni_any lb vb' (A, n) ⟨hA, hI⟩ gb.val W (rb.rd.below hW); rwa [← hpf, ub, hpf] at this
  have ca : (la.length = 0 ∧ ∀ y, A ≤ y → y < A + 2 ^ k → Sa y = false) ∨ (0 < la.length ∧ ∀ y, A ≤ y → y < A + 2 ^ k → Sa y = true) := by
    rcases ga.uni hk ha with ⟨_, ⟨h, g⟩ | ⟨h, g⟩⟩ | ⟨h, _⟩
    · exact .inl ⟨by rw [h]; rfl, g⟩
    · exact .inr ⟨List.length_pos_iff.2 h, g⟩
    · rw [ua] at h; cases h
  have cb : (lb.length = 0 ∧ ∀ y, A ≤ y → y < A + 2 ^ k → Sb y = false) ∨ (0 < lb.length ∧ ∀ y, A ≤ y → y < A + 2 ^ k → Sb y = true) := by
    rcases gb.uni hk ha with ⟨_, ⟨h, g⟩ | ⟨h, g⟩⟩ | ⟨h, _⟩
    · exact .inl ⟨by rw [h]; rfl, g⟩
    · exact .inr ⟨List.length_pos_iff.2 h, g⟩
    · rw [ub] at h; cases h
  have hla := ga.len
  have hlb := gb.len
  obtain ⟨ad, cap, rfl, _, _⟩ := ra
  obtain ⟨ad', cap', rfl, _, _⟩ := rb
  obtain ⟨v, hV⟩ := hR
  have hkb : kb < w.heap.size := hV.klt kb kkb
  have hbr : r < w.heap.size := lt_of_block hV.box
  have HV := Lib.hid hV
  obtain ⟨xa, hxa⟩ : ∃ xa : Bool, ((xa = false ∧ la.length = 0) ∨ (xa = true ∧ 0 < la.length)) ∧ ∀ y, A ≤ y → y < A + 2 ^ k → Sa y = xa := by
    rcases ca with ⟨h, g⟩ | ⟨h, g⟩
    · exact ⟨false, .inl ⟨rfl, h⟩, g⟩
    · exact ⟨true, .inr ⟨rfl, h⟩, g⟩
  obtain ⟨xb, hxb⟩ : ∃ xb : Bool, ((xb = false ∧ lb.length = 0) ∨ (xb = true ∧ 0 < lb.length)) ∧ ∀ y, A ≤ y → y < A + 2 ^ k → Sb y = xb := by
    rcases cb with ⟨h, g⟩ | ⟨h, g⟩
    · exact ⟨false, .inl ⟨rfl, h⟩, g⟩
    · exact ⟨true, .inr ⟨rfl, h⟩, g⟩
  have hSz : ∀ y, A ≤ y → y < A + 2 ^ k → S y = (xa && !xb) := fun y h1 h2 => by rw [hS, hxa.2 y h1 h2, hxb.2 y h1 h2]
  have F1 : Hid ((xa && !xb) = true → ∀ (w1 w2 : World) (g cap : Nat), Below w.heap.size w w1 → w2.ownsRow 0 28 2 (.slice (some ⟨g, 0, none⟩) (L.length + 1) cap) (L.length + 1) (flat L ++ [.int .u32 (A : Int), .int .i64 n]) → w1.grownBy w2 v.ownBlock → (v.ownBlock = some g ∨ w1.heap.size ≤ g) →
      VisPost S k A r K L w (.returned (.tuple #[])) (w2.setCell ⟨r, 0, none⟩ (.slice (some ⟨g, 0, none⟩) (L.length + 1) cap))) := fun hz w1 w2 g cap hb g1 g2 g3 => by
    refine vis_whole ha (fun y y1 y2 => by rw [hSz y y1 y2]; exact hz) HV.out hb ?_ g2 g3
    rw [show encP (pfx (A, k)) = [.int .u32 (A : Int), .int .i64 n] by rw [hpf]; rfl]; exact g1
  have F0 : Hid ((xa && !xb) = false → ∀ w1, Below w.heap.size w w1 → VisPost S k A r K L w (.returned (.tuple #[])) w1) := fun hz w1 hb => vis_none (fun y h1 h2 => by rw [hSz y h1 h2]; exact hz) ⟨v, HV.out⟩ hb
  obtain ⟨hxa, _⟩ := hxa
  obtain ⟨hxb, _⟩ := hxb
  generalize la.length = na at *
  generalize lb.length = nb at *
  clear hSz hS ga gb hn hpf hp htop ha hk ua ub ca cb hV
  rcases hxa with ⟨rfl, rfl⟩ | ⟨rfl, hna⟩ <;> rcases hxb with ⟨rfl, rfl⟩ | ⟨rfl, hnb⟩
  all_goals
    simp only [Bool.or_false, Bool.or_true, Bool.and_false, Bool.and_true, Bool.not_false, Bool.not_true, forall_const, Bool.true_eq_false, Bool.false_eq_true, false_implies, Bool.or_self, Bool.and_self] at F0 F1
    go_enter Try.func105, Try.ntmps105
    go_wp2_with fail
    go_at_call 106
    refine (HUa.out _ (below_alloc _ _)).mono ?_
    rintro e w1 ⟨rfl, hb⟩
    have B1 := Lib.hid (below_then (below_alloc _ _) hb)
    have k1 := carry B1.out ck
    obtain ⟨hc1, hf1⟩ := bcell hb
    have hzw : w.heap.size < w1.heap.size := by have := hb.size; simp at this; omega
    clear hb
    go_wp2_with fail
    go_at_call 106
    refine (HUb.out _ B1.out).mono ?_
    rintro e w2 ⟨rfl, hb⟩
    have B2 := Lib.hid (below_then B1.out hb)
    have k2 := carry hb k1
    obtain ⟨hc2, hf2⟩ := bcell hb
    clear hb
    have hV2 := HV.out.below B2.out
    have c3 := hV2.cell.1
    have c4 := hV2.cell.2
    have RW := Lib.hid hV2.row
    have RB := Lib.hid hV2.box
    have hbr1 := lt_of_block hV2.box
    clear hV2
    go_wp2_with fail
    go_at_call 70
    refine (keepS_any _ _ _).mono ?_
    rintro e w3 ⟨rfl, rfl⟩
    simp only [Bool.or_false, Bool.or_true, Bool.and_false, Bool.and_true, Bool.not_false, Bool.not_true, Bool.or_self, Bool.and_self]
    go_wp2_with (at_builtin; refine wpList_append_lies _ rfl (.tmp 33) (.tmp 35) 22 rfl 0 28 i0 (.agg #[.int .u32 0, .int .i64 0]) 2 16 Try.underlying22 hi hz0 hz1 hz2 rfl (by decide) v L.length (flat L) rfl (ownP_below RW.out (below_alloc _ _)) ⟨w2.heap.size, 0, none⟩ 1 1 [.int .u32 (A : Int), .int .i64 n] rfl rfl (cellP_two_new _ _ _ _ rfl) (one_two _ _) (by decide) (by unfold maxLen; omega) (by omega) (Nat.zero_le _) (w2.heap.size + 1) (by simp) ?_; intro g cp w4 hown4 hgrow4 hat4 hlt4; have G := Lib.hid (And.intro hown4 (And.intro hgrow4 hat4)); have hz4 := (hgrow4.block r (by simp; omega) (fun e => HV.out.ne e.symm)).trans ((Below.heap_alloc _ _ _ hbr1).trans RB.out); have f4 := free_of_one hz4; have f5 := cell_of_one hz4; clear hz4 hown4 hgrow4 hat4)
    (try simp only [Exit.inBlock, Exit.then]); refine bodyPost_ret (results_none rfl _ _ _) rfl ?_
    first
      | exact F0.out _ B2.out
      | exact F1.out _ _ _ _ (below_then B2.out (below_alloc _ _)) G.out.1 G.out.2.1 (G.out.2.2.imp id (fun h => by rw [h]; simp))
end Go.Proofs.Ytegponbmelgngaa
