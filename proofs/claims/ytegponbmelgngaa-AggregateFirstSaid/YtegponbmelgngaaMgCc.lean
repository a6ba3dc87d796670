/-
  The walk of combine's closure.
  What combine's closure leaves behind where a list parts.
  The walk of combine's closure where the first list parts.
-/
import Derived.Test.YtegponbmelgngaaMgCb
import Derived.Deep.RegionLaw
section
namespace Go.Proofs.Ytegponbmelgngaa
open Go.RowKit
set_option linter.unusedSimpArgs false
set_option linter.unusedVariables false
set_option maxHeartbeats 4000000
set_option maxRecDepth 100000

theorem comb67_leaf (S Sa Sb : Nat → Bool) (hS : ∀ y, S y = ((Sa y) || (Sb y))) (kb r vb k A : Nat) (n : Int) (la lb : List PP) (va vb' : Value) (L : List PP) (K : Nat → Prop) (w : World) (hn : n = ((32 - k : Nat) : Int)) (hk : k ≤ 32) (ha : A % 2 ^ k = 0) (htop : A + 2 ^ k ≤ 4294967296)
    (ga : GL Sa A k la) (gb : GL Sb A k lb) (ra : RdK K w va la) (rb : RdK K w vb' lb) (kkb : K kb) (ck : w.cell? ⟨kb, 0, none⟩ = some (.func (.func 67) #[] #[])) (hR : ResI r K L w) (hL : L.length ≤ A)
    (ua : uniB la (pfx (A, k)) = true) (ub : uniB lb (pfx (A, k)) = true) :
    Calls Try.prog 105 #[.agg #[.int .u32 (A : Int), .int .i64 n], va, vb', .pointer (some ⟨kb, 0, none⟩), .pointer (some ⟨r, 0, none⟩), .pointer (some ⟨vb, 0, none⟩)] w (VisPost S k A r K L w) := by
  obtain ⟨i0, hi, hz0, hz1, hz2⟩ := infoP_parts info28
  have hp := CM.pow_pos' k
  have hpf : pfx (A, k) = (A, n) := by unfold pfx; rw [hn]
  have hI : I64 n := by constructor <;> omega
  have hA : A < 4294967296 := by omega
  have HUa : Hid (∀ W, Below w.heap.size w W → Calls Try.prog 106 #[va, .agg #[.int .u32 (A : Int), .int .i64 n]] W fun e w' => e = .returned (.bool true) ∧ Below W.heap.size W w') := fun W hW => by
    have := uni_any la va (A, n) ⟨hA, hI⟩ ga.val W (ra.rd.below hW); rwa [← hpf, ua, hpf] at this
  have HUb : Hid (∀ W, Below w.heap.size w W → Calls Try.prog 106 #[vb', .agg #[.int .u32 (A : Int), .int .i64 n]] W fun e w' => e = .returned (.bool true) ∧ Below W.heap.size W w') := fun W hW => by
    have := uni_any lb vb' (A, n) ⟨hA, hI⟩ gb.val W (rb.rd.below hW); rwa [← hpf, ub, hpf] at this
  have ca : (la.length = 0 ∧ ∀ y, A ≤ y → y < A + 2 ^ k → Sa y = false) ∨ (0 < la.length ∧ ∀ y, A ≤ y → y < A + 2 ^ k → Sa y = true) := by
    rcases ga.uni hk ha with ⟨_, ⟨h, g⟩ | ⟨h, g⟩⟩ | ⟨h, _⟩
    · exact .inl ⟨by rw [h]; rfl, g⟩
    · exact .inr ⟨List.length_pos_iff.2 h, g⟩
    · rw [ua] at h; cases h
  have cb : (lb.length = 0 ∧ ∀ y, A ≤ y → y < A + 2 ^ k → Sb y = false) ∨ (0 < lb.length ∧ ∀ y, A ≤ y → y < A + 2 ^ k → Sb y = true) := by
    rcases gb.uni hk ha with ⟨_, ⟨h, g⟩ | ⟨h, g⟩⟩ | ⟨h, _⟩
    · exact .inl ⟨by rw [h]; rfl, g⟩
    · exact .inr ⟨List.length_pos_iff.2 h, g⟩
    · rw [ub] at h; cases h
  have hla := ga.len
  have hlb := gb.len
  obtain ⟨ad, cap, rfl, _, _⟩ := ra
  obtain ⟨ad', cap', rfl, _, _⟩ := rb
  obtain ⟨v, hV⟩ := hR
  have hkb : kb < w.heap.size := hV.klt kb kkb
  have hbr : r < w.heap.size := lt_of_block hV.box
  have HV := Lib.hid hV
  obtain ⟨xa, hxa⟩ : ∃ xa : Bool, ((xa = false ∧ la.length = 0) ∨ (xa = true ∧ 0 < la.length)) ∧ ∀ y, A ≤ y → y < A + 2 ^ k → Sa y = xa := by
    rcases ca with ⟨h, g⟩ | ⟨h, g⟩
    · exact ⟨false, .inl ⟨rfl, h⟩, g⟩
    · exact ⟨true, .inr ⟨rfl, h⟩, g⟩
  obtain ⟨xb, hxb⟩ : ∃ xb : Bool, ((xb = false ∧ lb.length = 0) ∨ (xb = true ∧ 0 < lb.length)) ∧ ∀ y, A ≤ y → y < A + 2 ^ k → Sb y = xb := by
    rcases cb with ⟨h, g⟩ | ⟨h, g⟩
    · exact ⟨false, .inl ⟨rfl, h⟩, g⟩
    · exact ⟨true, .inr ⟨rfl, h⟩, g⟩
  have hSz : ∀ y, A ≤ y → y < A + 2 ^ k → S y = (xa || xb) := fun y h1 h2 => by rw [hS, hxa.2 y h1 h2, hxb.2 y h1 h2]
  have F1 : Hid ((xa || xb) = true → ∀ (w1 w2 : World) (g cap : Nat), Below w.heap.size w w1 → w2.ownsRow 0 28 2 (.slice (some ⟨g, 0, none⟩) (L.length + 1) cap) (L.length + 1) (flat L ++ [.int .u32 (A : Int), .int .i64 n]) → w1.grownBy w2 v.ownBlock → (v.ownBlock = some g ∨ w1.heap.size ≤ g) →
      VisPost S k A r K L w (.returned (.tuple #[])) (w2.setCell ⟨r, 0, none⟩ (.slice (some ⟨g, 0, none⟩) (L.length + 1) cap))) := fun hz w1 w2 g cap hb g1 g2 g3 => by
    refine vis_whole ha (fun y y1 y2 => by rw [hSz y y1 y2]; exact hz) HV.out hb ?_ g2 g3
    rw [show encP (pfx (A, k)) = [.int .u32 (A : Int), .int .i64 n] by rw [hpf]; rfl]; exact g1
  have F0 : Hid ((xa || xb) = false → ∀ w1, Below w.heap.size w w1 → VisPost S k A r K L w (.returned (.tuple #[])) w1) := fun hz w1 hb => vis_none (fun y h1 h2 => by rw [hSz y h1 h2]; exact hz) ⟨v, HV.out⟩ hb
  obtain ⟨hxa, _⟩ := hxa
  obtain ⟨hxb, _⟩ := hxb
  generalize la.length = na at *
  generalize lb.length = nb at *
  clear hSz hS ga gb hn hpf hp htop ha hk ua ub ca cb hV
  rcases hxa with ⟨rfl, rfl⟩ | ⟨rfl, hna⟩ <;> rcases hxb with ⟨rfl, rfl⟩ | ⟨rfl, hnb⟩
  all_goals
    simp only [Bool.or_false, Bool.or_true, Bool.and_false, Bool.and_true, Bool.not_false, Bool.not_true, forall_const, Bool.true_eq_false, Bool.false_eq_true, false_implies, Bool.or_self, Bool.and_self] at F0 F1
    go_enter Try.func105, Try.ntmps105
    go_wp2_with fail
    go_at_call 106
    refine (HUa.out _ (below_alloc _ _)).mono ?_
    rintro e w1 ⟨rfl, hb⟩
    have B1 := Lib.hid (below_then (below_alloc _ _) hb)
    have k1 := carry B1.out ck
    obtain ⟨hc1, hf1⟩ := bcell hb
    have hzw : w.heap.size < w1.heap.size := by have := hb.size; simp at this; omega
    clear hb
    go_wp2_with fail
    go_at_call 106
    refine (HUb.out _ B1.out).mono ?_
    rintro e w2 ⟨rfl, hb⟩
    have B2 := Lib.hid (below_then B1.out hb)
    have k2 := carry hb k1
    obtain ⟨hc2, hf2⟩ := bcell hb
    clear hb
    have hV2 := HV.out.below B2.out
    have c3 := hV2.cell.1
    have c4 := hV2.cell.2
    have RW := Lib.hid hV2.row
    have RB := Lib.hid hV2.box
    have hbr1 := lt_of_block hV2.box
    clear hV2
    go_wp2_with fail
    go_at_call 67
    refine (keepU_any _ _ _).mono ?_
    rintro e w3 ⟨rfl, rfl⟩
    simp only [Bool.or_false, Bool.or_true, Bool.and_false, Bool.and_true, Bool.not_false, Bool.not_true, Bool.or_self, Bool.and_self]
    go_wp2_with (at_builtin; refine wpList_append_lies _ rfl (.tmp 33) (.tmp 35) 22 rfl 0 28 i0 (.agg #[.int .u32 0, .int .i64 0]) 2 16 Try.underlying22 hi hz0 hz1 hz2 rfl (by decide) v L.length (flat L) rfl (ownP_below RW.out (below_alloc _ _)) ⟨w2.heap.size, 0, none⟩ 1 1 [.int .u32 (A : Int), .int .i64 n] rfl rfl (cellP_two_new _ _ _ _ rfl) (one_two _ _) (by decide) (by unfold maxLen; omega) (by omega) (Nat.zero_le _) (w2.heap.size + 1) (by simp) ?_; intro g cp w4 hown4 hgrow4 hat4 hlt4; have G := Lib.hid (And.intro hown4 (And.intro hgrow4 hat4)); have hz4 := (hgrow4.block r (by simp; omega) (fun e => HV.out.ne e.symm)).trans ((Below.heap_alloc _ _ _ hbr1).trans RB.out); have f4 := free_of_one hz4; have f5 := cell_of_one hz4; clear hz4 hown4 hgrow4 hat4)
    (try simp only [Exit.inBlock, Exit.then]); refine bodyPost_ret (results_none rfl _ _ _) rfl ?_
    first
      | exact F0.out _ B2.out
      | exact F1.out _ _ _ _ (below_then B2.out (below_alloc _ _)) G.out.1 G.out.2.1 (G.out.2.2.imp id (fun h => by rw [h]; simp))
theorem comb68_leaf (S Sa Sb : Nat → Bool) (hS : ∀ y, S y = ((Sa y) && (Sb y))) (kb r vb k A : Nat) (n : Int) (la lb : List PP) (va vb' : Value) (L : List PP) (K : Nat → Prop) (w : World) (hn : n = ((32 - k : Nat) : Int)) (hk : k ≤ 32) (ha : A % 2 ^ k = 0) (htop : A + 2 ^ k ≤ 4294967296)
    (ga : GL Sa A k la) (gb : GL Sb A k lb) (ra : RdK K w va la) (rb : RdK K w vb' lb) (kkb : K kb) (ck : w.cell? ⟨kb, 0, none⟩ = some (.func (.func 68) #[] #[])) (hR : ResI r K L w) (hL : L.length ≤ A)
    (ua : uniB la (pfx (A, k)) = true) (ub : uniB lb (pfx (A, k)) = true) :
    Calls Try.prog 105 #[.agg #[.int .u32 (A : Int), .int .i64 n], va, vb', .pointer (some ⟨kb, 0, none⟩), .pointer (some ⟨r, 0, none⟩), .pointer (some ⟨vb, 0, none⟩)] w (VisPost S k A r K L w) := by
  obtain ⟨i0, hi, hz0, hz1, hz2⟩ := infoP_parts info28
  have hp := CM.pow_pos' k
  have hpf : pfx (A, k) = (A, n) := by unfold pfx; rw [hn]
  have hI : I64 n := by constructor <;> omega
  have hA : A < 4294967296 := by omega
  have HUa : Hid (∀ W, Below w.heap.size w W → Calls Try.prog 106 #[va, .agg #[.int .u32 (A : Int), .int .i64 n]] W fun e w' => e = .returned (.bool true) ∧ Below W.heap.size W w') := fun W hW => by
    have := uni_any la va (A, n) ⟨hA, hI⟩ ga.val W (ra.rd.below hW); rwa [← hpf, ua, hpf] at this
  have HUb : Hid (∀ W, Below w.heap.size w W → Calls Try.prog 106 #[vb', .agg #[.int .u32 (A : Int), .int .i64 n]] W fun e w' => e = .returned (.bool true) ∧ Below W.heap.size W w') := fun W hW => by
    have := uni_any lb vb' (A, n) ⟨hA, hI⟩ gb.val W (rb.rd.below hW); rwa [← hpf, ub, hpf] at this
  have ca : (la.length = 0 ∧ ∀ y, A ≤ y → y < A + 2 ^ k → Sa y = false) ∨ (0 < la.length ∧ ∀ y, A ≤ y → y < A + 2 ^ k → Sa y = true) := by
    rcases ga.uni hk ha with ⟨_, ⟨h, g⟩ | ⟨h, g⟩⟩ | ⟨h, _⟩
    · exact .inl ⟨by rw [h]; rfl, g⟩
    · exact .inr ⟨List.length_pos_iff.2 h, g⟩
    · rw [ua] at h; cases h
  have cb : (lb.length = 0 ∧ ∀ y, A ≤ y → y < A + 2 ^ k → Sb y = false) ∨ (0 < lb.length ∧ ∀ y, A ≤ y → y < A + 2 ^ k → Sb y = true) := by
    rcases gb.uni hk ha with ⟨_, ⟨h, g⟩ | ⟨h, g⟩⟩ | ⟨h, _⟩
    · exact .inl ⟨by rw [h]; rfl, g⟩
    · exact .inr ⟨List.length_pos_iff.2 h, g⟩
    · rw [ub] at h; cases h
  have hla := ga.len
  have hlb := gb.len
  obtain ⟨ad, cap, rfl, _, _⟩ := ra
  obtain ⟨ad', cap', rfl, _, _⟩ := rb
  obtain ⟨v, hV⟩ := hR
  have hkb : kb < w.heap.size := hV.klt kb kkb
  have hbr : r < w.heap.size := lt_of_block hV.box
  have HV := Lib.hid hV
  obtain ⟨xa, hxa⟩ : ∃ xa : Bool, ((xa = false ∧ la.length = 0) ∨ (xa = true ∧ 0 < la.length)) ∧ ∀ y, A ≤ y → y < A + 2 ^ k → Sa y = xa := by
    rcases ca with ⟨h, g⟩ | ⟨h, g⟩
    · exact ⟨false, .inl ⟨rfl, h⟩, g⟩
    · exact ⟨true, .inr ⟨rfl, h⟩, g⟩
  obtain ⟨xb, hxb⟩ : ∃ xb : Bool, ((xb = false ∧ lb.length = 0) ∨ (xb = true ∧ 0 < lb.length)) ∧ ∀ y, A ≤ y → y < A + 2 ^ k → Sb y = xb := by
    rcases cb with ⟨h, g⟩ | ⟨h, g⟩
    · exact ⟨false, .inl ⟨rfl, h⟩, g⟩
    · exact ⟨true, .inr ⟨rfl, h⟩, g⟩
  have hSz : ∀ y, A ≤ y → y < A + 2 ^ k → S y = (xa && xb) := fun y h1 h2 => by rw [hS, hxa.2 y h1 h2, hxb.2 y h1 h2]
  have F1 : Hid ((xa && xb) = true → ∀ (w1 w2 : World) (g cap : Nat), Below w.heap.size w w1 → w2.ownsRow 0 28 2 (.slice (some ⟨g, 0, none⟩) (L.length + 1) cap) (L.length + 1) (flat L ++ [.int .u32 (A : Int), .int .i64 n]) → w1.grownBy w2 v.ownBlock → (v.ownBlock = some g ∨ w1.heap.size ≤ g) →
      VisPost S k A r K L w (.returned (.tuple #[])) (w2.setCell ⟨r, 0, none⟩ (.slice (some ⟨g, 0, none⟩) (L.length + 1) cap))) := fun hz w1 w2 g cap hb g1 g2 g3 => by
    refine vis_whole ha (fun y y1 y2 => by rw [hSz y y1 y2]; exact hz) HV.out hb ?_ g2 g3
    rw [show encP (pfx (A, k)) = [.int .u32 (A : Int), .int .i64 n] by rw [hpf]; rfl]; exact g1
  have F0 : Hid ((xa && xb) = false → ∀ w1, Below w.heap.size w w1 → VisPost S k A r K L w (.returned (.tuple #[])) w1) := fun hz w1 hb => vis_none (fun y h1 h2 => by rw [hSz y h1 h2]; exact hz) ⟨v, HV.out⟩ hb
  obtain ⟨hxa, _⟩ := hxa
  obtain ⟨hxb, _⟩ := hxb
  generalize la.length = na at *
  generalize lb.length = nb at *
  clear hSz hS ga gb hn hpf hp htop ha hk ua ub ca cb hV
  rcases hxa with ⟨rfl, rfl⟩ | ⟨rfl, hna⟩ <;> rcases hxb with ⟨rfl, rfl⟩ | ⟨rfl, hnb⟩
  all_goals
    simp only [Bool.or_false, Bool.or_true, Bool.and_false, Bool.and_true, Bool.not_false, Bool.not_true, forall_const, Bool.true_eq_false, Bool.false_eq_true, false_implies, Bool.or_self, Bool.and_self] at F0 F1
    go_enter Try.func105, Try.ntmps105
    go_wp2_with fail
    go_at_call 106
    refine (HUa.out _ (below_alloc _ _)).mono ?_
    rintro e w1 ⟨rfl, hb⟩
    have B1 := Lib.hid (below_then (below_alloc _ _) hb)
    have k1 := carry B1.out ck
    obtain ⟨hc1, hf1⟩ := bcell hb
    have hzw : w.heap.size < w1.heap.size := by have := hb.size; simp at this; omega
    clear hb
    go_wp2_with fail
    go_at_call 106
    refine (HUb.out _ B1.out).mono ?_
    rintro e w2 ⟨rfl, hb⟩
    have B2 := Lib.hid (below_then B1.out hb)
    have k2 := carry hb k1
    obtain ⟨hc2, hf2⟩ := bcell hb
    clear hb
    have hV2 := HV.out.below B2.out
    have c3 := hV2.cell.1
    have c4 := hV2.cell.2
    have RW := Lib.hid hV2.row
    have RB := Lib.hid hV2.box
    have hbr1 := lt_of_block hV2.box
    clear hV2
    go_wp2_with fail
    go_at_call 68
    refine (keepI_any _ _ _).mono ?_
    rintro e w3 ⟨rfl, rfl⟩
    simp only [Bool.or_false, Bool.or_true, Bool.and_false, Bool.and_true, Bool.not_false, Bool.not_true, Bool.or_self, Bool.and_self]
    go_wp2_with (at_builtin; refine wpList_append_lies _ rfl (.tmp 33) (.tmp 35) 22 rfl 0 28 i0 (.agg #[.int .u32 0, .int .i64 0]) 2 16 Try.underlying22 hi hz0 hz1 hz2 rfl (by decide) v L.length (flat L) rfl (ownP_below RW.out (below_alloc _ _)) ⟨w2.heap.size, 0, none⟩ 1 1 [.int .u32 (A : Int), .int .i64 n] rfl rfl (cellP_two_new _ _ _ _ rfl) (one_two _ _) (by decide) (by unfold maxLen; omega) (by omega) (Nat.zero_le _) (w2.heap.size + 1) (by simp) ?_; intro g cp w4 hown4 hgrow4 hat4 hlt4; have G := Lib.hid (And.intro hown4 (And.intro hgrow4 hat4)); have hz4 := (hgrow4.block r (by simp; omega) (fun e => HV.out.ne e.symm)).trans ((Below.heap_alloc _ _ _ hbr1).trans RB.out); have f4 := free_of_one hz4; have f5 := cell_of_one hz4; clear hz4 hown4 hgrow4 hat4)
    (try simp only [Exit.inBlock, Exit.then]); refine bodyPost_ret (results_none rfl _ _ _) rfl ?_
    first
      | exact F0.out _ B2.out
      | exact F1.out _ _ _ _ (below_then B2.out (below_alloc _ _)) G.out.1 G.out.2.1 (G.out.2.2.imp id (fun h => by rw [h]; simp))
theorem comb70_leaf (S Sa Sb : Nat → Bool) (hS : ∀ y, S y = ((Sa y) && !(Sb y))) (kb r vb k A : Nat) (n : Int) (la lb : List PP) (va vb' : Value) (L : List PP) (K : Nat → Prop) (w : World) (hn : n = ((32 - k : Nat) : Int)) (hk : k ≤ 32) (ha : A % 2 ^ k = 0) (htop : A + 2 ^ k ≤ 4294967296)
    (ga : GL Sa A k la) (gb : GL Sb A k lb) (ra : RdK K w va la) (rb : RdK K w vb' lb) (kkb : K kb) (ck : w.cell? ⟨kb, 0, none⟩ = some (.func (.func 70) #[] #[])) (hR : ResI r K L w) (hL : L.length ≤ A)
    (ua : uniB la (pfx (A, k)) = true) (ub : uniB lb (pfx (A, k)) = true) :
    Calls Try.prog 105 #[.agg #[.int .u32 (A : Int), .int .i64 n], va, vb', .pointer (some ⟨kb, 0, none⟩), .pointer (some ⟨r, 0, none⟩), .pointer (some ⟨vb, 0, none⟩)] w (VisPost S k A r K L w) := by
  obtain ⟨i0, hi, hz0, hz1, hz2⟩ := infoP_parts info28
  have hp := CM.pow_pos' k
  have hpf : pfx (A, k) = (A, n) := by unfold pfx; rw [hn]
  have hI : I64 n := by constructor <;> omega
  have hA : A < 4294967296 := by omega
  have HUa : Hid (∀ W, Below w.heap.size w W → Calls Try.prog 106 #[va, .agg #[.int .u32 (A : Int), .int .i64 n]] W fun e w' => e = .returned (.bool true) ∧ Below W.heap.size W w') := fun W hW => by
    have := uni_any la va (A, n) ⟨hA, hI⟩ ga.val W (ra.rd.below hW); rwa [← hpf, ua, hpf] at this
  have HUb : Hid (∀ W, Below w.heap.size w W → Calls Try.prog 106 #[vb', .agg #[.int .u32 (A : Int), .int .i64 n]] W fun e w' => e = .returned (.bool true) ∧ Below W.heap.size W w') := fun W hW => by
    have := uni_any lb vb' (A, n) ⟨hA, hI⟩ gb.val W (rb.rd.below hW); rwa [← hpf, ub, hpf] at this
  have ca : (la.length = 0 ∧ ∀ y, A ≤ y → y < A + 2 ^ k → Sa y = false) ∨ (0 < la.length ∧ ∀ y, A ≤ y → y < A + 2 ^ k → Sa y = true) := by
    rcases ga.uni hk ha with ⟨_, ⟨h, g⟩ | ⟨h, g⟩⟩ | ⟨h, _⟩
    · exact .inl ⟨by rw [h]; rfl, g⟩
    · exact .inr ⟨List.length_pos_iff.2 h, g⟩
    · rw [ua] at h; cases h
  have cb : (lb.length = 0 ∧ ∀ y, A ≤ y → y < A + 2 ^ k → Sb y = false) ∨ (0 < lb.length ∧ ∀ y, A ≤ y → y < A + 2 ^ k → Sb y = true) := by
    rcases gb.uni hk ha with ⟨_, ⟨h, g⟩ | ⟨h, g⟩⟩ | ⟨h, _⟩
    · exact .inl ⟨by rw [h]; rfl, g⟩
    · exact .inr ⟨List.length_pos_iff.2 h, g⟩
    · rw [ub] at h; cases h
  have hla := ga.len
  have hlb := gb.len
  obtain ⟨ad, cap, rfl, _, _⟩ := ra
  obtain ⟨ad', cap', rfl, _, _⟩ := rb
  obtain ⟨v, hV⟩ := hR
  have hkb : kb < w.heap.size := hV.klt kb kkb
  have hbr : r < w.heap.size := lt_of_block hV.box
  have HV := Lib.hid hV
  obtain ⟨xa, hxa⟩ : ∃ xa : Bool, ((xa = false ∧ la.length = 0) ∨ (xa = true ∧ 0 < la.length)) ∧ ∀ y, A ≤ y → y < A + 2 ^ k → Sa y = xa := by
    rcases ca with ⟨h, g⟩ | ⟨h, g⟩
    · exact ⟨false, .inl ⟨rfl, h⟩, g⟩
    · exact ⟨true, .inr ⟨rfl, h⟩, g⟩
  obtain ⟨xb, hxb⟩ : ∃ xb : Bool, ((xb = false ∧ lb.length = 0) ∨ (xb = true ∧ 0 < lb.length)) ∧ ∀ y, A ≤ y → y < A + 2 ^ k → Sb y = xb := by
    rcases cb with ⟨h, g⟩ | ⟨h, g⟩
    · exact ⟨false, .inl ⟨rfl, h⟩, g⟩
    · exact ⟨true, .inr ⟨rfl, h⟩, g⟩
  have hSz : ∀ y, A ≤ y → y < A + 2 ^ k → S y = (xa && !xb) := fun y h1 h2 => by rw [hS, hxa.2 y h1 h2, hxb.2 y h1 h2]
  have F1 : Hid ((xa && !xb) = true → ∀ (w1 w2 : World) (g cap : Nat), Below w.heap.size w w1 → w2.ownsRow 0 28 2 (.slice (some ⟨g, 0, none⟩) (L.length + 1) cap) (L.length + 1) (flat L ++ [.int .u32 (A : Int), .int .i64 n]) → w1.grownBy w2 v.ownBlock → (v.ownBlock = some g ∨ w1.heap.size ≤ g) →
      VisPost S k A r K L w (.returned (.tuple #[])) (w2.setCell ⟨r, 0, none⟩ (.slice (some ⟨g, 0, none⟩) (L.length + 1) cap))) := fun hz w1 w2 g cap hb g1 g2 g3 => by
    refine vis_whole ha (fun y y1 y2 => by rw [hSz y y1 y2]; exact hz) HV.out hb ?_ g2 g3
    rw [show encP (pfx (A, k)) = [.int .u32 (A : Int), .int .i64 n] by rw [hpf]; rfl]; exact g1
  have F0 : Hid ((xa && !xb) = false → ∀ w1, Below w.heap.size w w1 → VisPost S k A r K L w (.returned (.tuple #[])) w1) := fun hz w1 hb => vis_none (fun y h1 h2 => by rw [hSz y h1 h2]; exact hz) ⟨v, HV.out⟩ hb
  obtain ⟨hxa, _⟩ := hxa
  obtain ⟨hxb, _⟩ := hxb
  generalize la.length = na at *
  generalize lb.length = nb at *
  clear hSz hS ga gb hn hpf hp htop ha hk ua ub ca cb hV
  rcases hxa with ⟨rfl, rfl⟩ | ⟨rfl, hna⟩ <;> rcases hxb with ⟨rfl, rfl⟩ | ⟨rfl, hnb⟩
  all_goals
    simp only [Bool.or_false, Bool.or_true, Bool.and_false, Bool.and_true, Bool.not_false, Bool.not_true, forall_const, Bool.true_eq_false, Bool.false_eq_true, false_implies, Bool.or_self, Bool.and_self] at F0 F1
    go_enter Try.func105, Try.ntmps105
    go_wp2_with fail
    go_at_call 106
    refine (HUa.out _ (below_alloc _ _)).mono ?_
    rintro e w1 ⟨rfl, hb⟩
    have B1 := Lib.hid (below_then (below_alloc _ _) hb)
    have k1 := carry B1.out ck
    obtain ⟨hc1, hf1⟩ := bcell hb
    have hzw : w.heap.size < w1.heap.size := by have := hb.size; simp at this; omega
    clear hb
    go_wp2_with fail
    go_at_call 106
    refine (HUb.out _ B1.out).mono ?_
    rintro e w2 ⟨rfl, hb⟩
    have B2 := Lib.hid (below_then B1.out hb)
    have k2 := carry hb k1
    obtain ⟨hc2, hf2⟩ := bcell hb
    clear hb
    have hV2 := HV.out.below B2.out
    have c3 := hV2.cell.1
    have c4 := hV2.cell.2
    have RW := Lib.hid hV2.row
    have RB := Lib.hid hV2.box
    have hbr1 := lt_of_block hV2.box
    clear hV2
    go_wp2_with fail
    go_at_call 70
    refine (keepS_any _ _ _).mono ?_
    rintro e w3 ⟨rfl, rfl⟩
    simp only [Bool.or_false, Bool.or_true, Bool.and_false, Bool.and_true, Bool.not_false, Bool.not_true, Bool.or_self, Bool.and_self]
    go_wp2_with (at_builtin; refine wpList_append_lies _ rfl (.tmp 33) (.tmp 35) 22 rfl 0 28 i0 (.agg #[.int .u32 0, .int .i64 0]) 2 16 Try.underlying22 hi hz0 hz1 hz2 rfl (by decide) v L.length (flat L) rfl (ownP_below RW.out (below_alloc _ _)) ⟨w2.heap.size, 0, none⟩ 1 1 [.int .u32 (A : Int), .int .i64 n] rfl rfl (cellP_two_new _ _ _ _ rfl) (one_two _ _) (by decide) (by unfold maxLen; omega) (by omega) (Nat.zero_le _) (w2.heap.size + 1) (by simp) ?_; intro g cp w4 hown4 hgrow4 hat4 hlt4; have G := Lib.hid (And.intro hown4 (And.intro hgrow4 hat4)); have hz4 := (hgrow4.block r (by simp; omega) (fun e => HV.out.ne e.symm)).trans ((Below.heap_alloc _ _ _ hbr1).trans RB.out); have f4 := free_of_one hz4; have f5 := cell_of_one hz4; clear hz4 hown4 hgrow4 hat4)
    (try simp only [Exit.inBlock, Exit.then]); refine bodyPost_ret (results_none rfl _ _ _) rfl ?_
    first
      | exact F0.out _ B2.out
      | exact F1.out _ _ _ _ (below_then B2.out (below_alloc _ _)) G.out.1 G.out.2.1 (G.out.2.2.imp id (fun h => by rw [h]; simp))
end Go.Proofs.Ytegponbmelgngaa
end

section
namespace Go.Proofs.Ytegponbmelgngaa
open Go.RowKit
set_option linter.unusedSimpArgs false
set_option linter.unusedVariables false
set_option maxHeartbeats 4000000
set_option maxRecDepth 100000

/-- what the closure does at a block of 2^k addresses -/
def CombV (S Sa Sb : Nat → Bool) (kf kb r vb k : Nat) : Prop := ∀ (A : Nat) (n : Int) (la lb : List PP) (va vb' : Value) (L : List PP) (K : Nat → Prop) (w : World), n = ((32 - k : Nat) : Int) → k ≤ 32 → A % 2 ^ k = 0 → A + 2 ^ k ≤ 4294967296 →
    GL Sa A k la → GL Sb A k lb → RdK K w va la → RdK K w vb' lb → K kb → K vb → w.cell? ⟨kb, 0, none⟩ = some (.func (.func kf) #[] #[]) →
    w.cell? ⟨vb, 0, none⟩ = some (.func (.func 105) #[] #[.pointer (some ⟨kb, 0, none⟩), .pointer (some ⟨r, 0, none⟩), .pointer (some ⟨vb, 0, none⟩)]) →
    ResI r K L w → L.length ≤ A → (∀ x ∈ L, (blk x).1 + 2 ^ (blk x).2 ≤ A) →
    Calls Try.prog 105 #[.agg #[.int .u32 (A : Int), .int .i64 n], va, vb', .pointer (some ⟨kb, 0, none⟩), .pointer (some ⟨r, 0, none⟩), .pointer (some ⟨vb, 0, none⟩)] w (VisPost S k A r K L w)
theorem vis_merge {S : Nat → Bool} {k A r : Nat} {K : Nat → Prop} {L : List PP} {v : Value} {w w5 w6 w7 : World} {g cap : Nat} {X : List PP} (ha : A % 2 ^ (k + 1) = 0) (hl : CM.NrmB S k A [(A, k)]) (hm : CM.NrmB S k (A + 2 ^ k) [(A + 2 ^ k, k)])
    (hR : ResV r K X v w5) (h1 : w7.ownsRow 0 28 2 (.slice (some ⟨g, 0, none⟩) (L.length + 1) cap) (L.length + 1) (flat L ++ encP (pfx (A, k + 1)))) (hb : Below w5.heap.size w5 w6) (h2 : w6.grownBy w7 v.ownBlock) (h3 : v.ownBlock = some g ∨ w6.heap.size ≤ g) (hK : KC K w w5) (hlt : ∀ k, K k → k < w.heap.size) :
    VisPost S (k + 1) A r K L w (.returned (.tuple #[])) (w7.setCell ⟨r, 0, none⟩ (.slice (some ⟨g, 0, none⟩) (L.length + 1) cap)) := by
  have hj := CM.NrmB.join ha hl hm
  rw [if_pos ⟨rfl, rfl⟩] at hj
  have e : (L ++ [pfx (A, k + 1)]).length = L.length + 1 := by simp
  have := (hR.below hb).push (L' := L ++ [pfx (A, k + 1)]) (w2 := w7) (g := g) (cap := cap) (by rw [e, flat_snoc]; exact h1) h2 h3
  rw [e] at this
  exact ⟨rfl, [(A, k + 1)], hj, this.1, hK.trans ((KC.of_below hb hR.klt).trans this.2)⟩
theorem vis_join2 {S : Nat → Bool} {k A r : Nat} {K : Nat → Prop} {L : List PP} {w : World} {l m : List (Nat × Nat)} {w' : World} (ha : A % 2 ^ (k + 1) = 0) (hl : CM.NrmB S k A l) (hm : CM.NrmB S k (A + 2 ^ k) m)
    (hno : ¬ (l = [(A, k)] ∧ m = [(A + 2 ^ k, k)])) (hR : ResI r K (L ++ l.map pfx ++ m.map pfx) w') (hK : KC K w w') : VisPost S (k + 1) A r K L w (.returned (.tuple #[])) w' := by
  have hj := CM.NrmB.join ha hl hm
  rw [if_neg hno] at hj
  exact ⟨rfl, _, hj, by rw [List.map_append, ← List.append_assoc]; exact hR, hK⟩
end Go.Proofs.Ytegponbmelgngaa
end

section
namespace Go.Proofs.Ytegponbmelgngaa
open Go.RowKit
set_option linter.unusedSimpArgs false
set_option linter.unusedVariables false
set_option maxHeartbeats 4000000
set_option maxRecDepth 100000
theorem comb_partA (S Sa Sb : Nat → Bool) (kf kb r vb k A : Nat) (n : Int) (la lb : List PP) (va vb' : Value) (L : List PP) (K : Nat → Prop) (w : World) (hn : n = ((32 - (k + 1) : Nat) : Int)) (hk : k + 1 ≤ 32) (ha : A % 2 ^ (k + 1) = 0) (htop : A + 2 ^ (k + 1) ≤ 4294967296)
    (ga : GL Sa A (k + 1) la) (gb : GL Sb A (k + 1) lb) (ra : RdK K w va la) (rb : RdK K w vb' lb) (kkb : K kb) (kvb : K vb) (ck : w.cell? ⟨kb, 0, none⟩ = some (.func (.func kf) #[] #[]))
    (cv : w.cell? ⟨vb, 0, none⟩ = some (.func (.func 105) #[] #[.pointer (some ⟨kb, 0, none⟩), .pointer (some ⟨r, 0, none⟩), .pointer (some ⟨vb, 0, none⟩)])) (hR : ResI r K L w) (hL : L.length ≤ A) (hLe : ∀ x ∈ L, (blk x).1 + 2 ^ (blk x).2 ≤ A)
    (ua : uniB la (pfx (A, k + 1)) = false) (ih : CombV S Sa Sb kf kb r vb k) :
    Calls Try.prog 105 #[.agg #[.int .u32 (A : Int), .int .i64 n], va, vb', .pointer (some ⟨kb, 0, none⟩), .pointer (some ⟨r, 0, none⟩), .pointer (some ⟨vb, 0, none⟩)] w (VisPost S (k + 1) A r K L w) := by
  obtain ⟨i0, hi, hz0, hz1, hz2⟩ := infoP_parts info28
  obtain ⟨hI, hn0, hn1, hnk, hv, -⟩ := blk_facts hn hk ha
  have hp := CM.pow_pos' k
  have e2 : 2 ^ (k + 1) = 2 ^ k + 2 ^ k := by rw [Nat.pow_succ]; omega
  have hpf : pfx (A, k + 1) = (A, n) := by unfold pfx; rw [hn]
  have hA : A < 4294967296 := by omega
  have hn31 : n ≤ 31 := by omega
  have hn' : Hid (n + 1 = ((32 - k : Nat) : Int)) := by show n + 1 = _; omega
  have HUa : Hid (∀ W, Below w.heap.size w W → Calls Try.prog 106 #[va, .agg #[.int .u32 (A : Int), .int .i64 n]] W fun e w' => e = .returned (.bool false) ∧ Below W.heap.size W w') := fun W hW => by
    have := uni_any la va (A, n) ⟨hA, hI⟩ ga.val W (ra.rd.below hW); rwa [← hpf, ua, hpf] at this
  have hmid : midN A n = A + 2 ^ k := by rw [mid_eq hv hn31, show 31 - n.toNat = k by omega]
  have HH : Hid (∀ W, Calls Try.prog 73 #[.agg #[.int .u32 (A : Int), .int .i64 n]] W fun e w' => e = .returned (.tuple #[.agg #[.int .u32 (A : Int), .int .i64 (n + 1)], .agg #[.int .u32 ((A + 2 ^ k : Nat) : Int), .int .i64 (n + 1)], .bool true]) ∧ Below W.heap.size W w') := fun W => by
    have := halves_yes A (by omega) n hI W hv hn0 hn31; rw [hmid] at this; exact this
  have HSa : Hid (∀ W, Below w.heap.size w W → Calls Try.prog 107 #[va, .agg #[.int .u32 (A : Int), .int .i64 n], .agg #[.int .u32 ((A + 2 ^ k : Nat) : Int), .int .i64 (n + 1)]] W (SplPost Sa K A k W)) := fun W hW => spl_any Sa K A k la va W hk ha htop ga (ra.below hW) n hn
  have HSb : Hid (∀ W, Below w.heap.size w W → Calls Try.prog 107 #[vb', .agg #[.int .u32 (A : Int), .int .i64 n], .agg #[.int .u32 ((A + 2 ^ k : Nat) : Int), .int .i64 (n + 1)]] W (SplPost Sb K A k W)) := fun W hW => spl_any Sb K A k lb vb' W hk ha htop gb (rb.below hW) n hn
  have ha1 : Hid (A % 2 ^ k = 0) := CM.mod_of_le (Nat.le_succ k) ha
  obtain ⟨M, hM⟩ : ∃ M, M = A + 2 ^ k := ⟨_, rfl⟩
  have HM := Lib.hid hM
  have ha2 : Hid (M % 2 ^ k = 0) := by show _ = _; rw [hM, Nat.add_mod_right]; exact ha1.out
  rw [← hM] at HH HSa HSb
  have HI := Lib.hid ih
  have HR := Lib.hid hR
  have htop1 : Hid (A + 2 ^ k ≤ 4294967296) := by show _ ≤ _; omega
  have htop2 : Hid (M + 2 ^ k ≤ 4294967296) := by show _ ≤ _; omega
  have HA := Lib.hid ha
  have hkk : Hid (k ≤ 32) := by show _ ≤ _; omega
  have KB := Lib.hid kkb
  have KV := Lib.hid kvb
  have HLe := Lib.hid hLe
  have HPF := Lib.hid hpf
  have HP1 : Hid (pfx (A, k) = (A, n + 1)) := by show _ = _; unfold pfx; rw [hn'.out]
  have HP2 : Hid (pfx (M, k) = (M, n + 1)) := by show _ = _; unfold pfx; rw [hn'.out]
  have hMb : M < 4294967296 := by omega
  have hAM : A ≤ M := by omega
  have HMk : Hid (M + 2 ^ k ≤ A + 2 ^ (k + 1)) := by show _ ≤ _; omega
  obtain ⟨ad, cap, rfl, _, _⟩ := ra
  obtain ⟨ad', cap', rfl, _, _⟩ := rb
  have hbr : kb < w.heap.size := hR.klt kb kkb
  have hbv : vb < w.heap.size := hR.klt vb kvb
  generalize la.length = na at *
  generalize lb.length = nb at *
  clear hM hmid hp ha hn hnk htop e2 ih hR hpf ua ga gb hLe
  go_enter Try.func105, Try.ntmps105
  go_wp2_with fail
  go_at_call 106
  refine (HUa.out _ (below_alloc _ _)).mono ?_
  rintro e w1 ⟨rfl, hb⟩
  have B1 := Lib.hid (below_then (below_alloc _ _) hb)
  obtain ⟨hc1, hf1⟩ := bcell hb
  have hzw : w.heap.size < w1.heap.size := by have := hb.size; simp at this; omega
  clear hb
  go_wp2_with fail
  go_at_call 73
  refine (HH.out _).mono ?_
  rintro e w2 ⟨rfl, hb⟩
  have B2 := Lib.hid (below_then B1.out hb)
  obtain ⟨hc2, hf2⟩ := bcell hb
  have hz2 : w.heap.size < w2.heap.size := by have := hb.size; omega
  clear hb
  go_wp2_with fail
  have hb3 := below_then (below_then B2.out (below_alloc w2 (.cells #[.int .u32 (A : Int), .int .i64 (n + 1)] 28))) (below_alloc _ (.cells #[.int .u32 (M : Int), .int .i64 (n + 1)] 28))
  have p0 : ((w2.alloc (.cells #[.int .u32 (A : Int), .int .i64 (n + 1)] 28)).alloc (.cells #[.int .u32 (M : Int), .int .i64 (n + 1)] 28)).cell? ⟨w.heap.size, 0, none⟩ = some (.int .u32 (A : Int)) := carry (below_alloc _ _) (carry (below_alloc _ _) (by rw [hc2 _ _ hzw, hc1 _ _ (by simp)]; simp))
  have p1 : ((w2.alloc (.cells #[.int .u32 (A : Int), .int .i64 (n + 1)] 28)).alloc (.cells #[.int .u32 (M : Int), .int .i64 (n + 1)] 28)).cell? ⟨w.heap.size, 1, none⟩ = some (.int .i64 n) := carry (below_alloc _ _) (carry (below_alloc _ _) (by rw [hc2 _ _ hzw, hc1 _ _ (by simp)]; simp))
  have l0 : ((w2.alloc (.cells #[.int .u32 (A : Int), .int .i64 (n + 1)] 28)).alloc (.cells #[.int .u32 (M : Int), .int .i64 (n + 1)] 28)).cell? ⟨w2.heap.size, 0, none⟩ = some (.int .u32 (A : Int)) := carry (below_alloc _ _) (by simp)
  have l1 : ((w2.alloc (.cells #[.int .u32 (A : Int), .int .i64 (n + 1)] 28)).alloc (.cells #[.int .u32 (M : Int), .int .i64 (n + 1)] 28)).cell? ⟨w2.heap.size, 1, none⟩ = some (.int .i64 (n + 1)) := carry (below_alloc _ _) (by simp)
  have h0 : ((w2.alloc (.cells #[.int .u32 (A : Int), .int .i64 (n + 1)] 28)).alloc (.cells #[.int .u32 (M : Int), .int .i64 (n + 1)] 28)).cell? ⟨w2.heap.size + 1, 0, none⟩ = some (.int .u32 (M : Int)) := by simp
  have h1 : ((w2.alloc (.cells #[.int .u32 (A : Int), .int .i64 (n + 1)] 28)).alloc (.cells #[.int .u32 (M : Int), .int .i64 (n + 1)] 28)).cell? ⟨w2.heap.size + 1, 1, none⟩ = some (.int .i64 (n + 1)) := by simp
  have hz3 : w2.heap.size + 1 < ((w2.alloc (.cells #[.int .u32 (A : Int), .int .i64 (n + 1)] 28)).alloc (.cells #[.int .u32 (M : Int), .int .i64 (n + 1)] 28)).heap.size := by simp
  revert hb3 p0 p1 l0 l1 h0 h1 hz3
  generalize ((w2.alloc (.cells #[.int .u32 (A : Int), .int .i64 (n + 1)] 28)).alloc (.cells #[.int .u32 (M : Int), .int .i64 (n + 1)] 28)) = w3
  intro hb3 p0 p1 l0 l1 h0 h1 hz3
  obtain ⟨q, hq⟩ : ∃ q, w2.heap.size = q := ⟨_, rfl⟩
  rw [hq] at l0 l1 h0 h1 hz3 hz2 ⊢
  have hqw : w.heap.size < q := hz2
  clear hq hc1 hf1 hc2 hf2 hzw hz2
  have B3 := Lib.hid hb3
  clear hb3
  go_at_call 107
  refine (HSa.out _ B3.out).mono ?_
  rintro e w4 ⟨va1, va2, la1, la2, rfl, ra1, ra2, ga1, ga2, hb⟩
  have B4 := Lib.hid (below_then B3.out hb)
  have p0 := carry hb p0
  have p1 := carry hb p1
  have l0 := carry hb l0
  have l1 := carry hb l1
  have h0 := carry hb h0
  have h1 := carry hb h1
  have hz4 : q + 1 < w4.heap.size := by have := hb.size; omega
  have GA := Lib.hid (And.intro ra1 (And.intro ra2 (And.intro ga1 ga2)))
  clear hb ra1 ra2 ga1 ga2
  go_wp2_with fail
  go_at_call 107
  refine (HSb.out _ B4.out).mono ?_
  rintro e w5 ⟨vb1, vb2, lb1, lb2, rfl, rb1, rb2, gb1, gb2, hb⟩
  have B5 := Lib.hid (below_then B4.out hb)
  have p0 := carry hb p0
  have p1 := carry hb p1
  have l0 := carry hb l0
  have l1 := carry hb l1
  have h0 := carry hb h0
  have h1 := carry hb h1
  have hz5 : q + 1 < w5.heap.size := by have := hb.size; omega
  have GB := Lib.hid (And.intro (GA.out.1.below hb) (And.intro (GA.out.2.1.below hb) (And.intro rb1 (And.intro rb2 (And.intro gb1 gb2)))))
  have ck5 := carry B5.out ck
  have cv5 := carry B5.out cv
  have KK : Hid (∀ b, K b → More K w.heap.size w5.heap.size b) := fun b hb => .inl hb
  have KN : Hid (∀ b, w.heap.size ≤ b → b < w5.heap.size → More K w.heap.size w5.heap.size b) := fun b h1 h2 => .inr ⟨h1, h2⟩
  clear hb rb1 rb2 gb1 gb2 ck cv hz4 hz3
  go_wp2_with fail
  refine (HI.out A (n + 1) la1 lb1 va1 vb1 L _ w5 hn'.out hkk.out ha1.out htop1.out GA.out.2.2.1 GB.out.2.2.2.2.1 (GB.out.1.mono KK.out) (GB.out.2.2.1.mono KK.out) (KK.out _ KB.out) (KK.out _ KV.out) ck5 cv5 (HR.out.more B5.out) hL HLe.out).mono ?_
  rintro e w6 ⟨rfl, l, hl, hR6, hK6⟩
  have ck6 := hK6.carry (KK.out _ KB.out) ck5
  have cv6 := hK6.carry (KK.out _ KV.out) cv5
  have p0 := hK6.carry (KN.out w.heap.size (Nat.le_refl _) (by omega)) p0
  have p1 := hK6.carry (KN.out w.heap.size (Nat.le_refl _) (by omega)) p1
  have l0 := hK6.carry (KN.out q (by omega) (by omega)) l0
  have l1 := hK6.carry (KN.out q (by omega) (by omega)) l1
  have h0 := hK6.carry (KN.out (q + 1) (by omega) (by omega)) h0
  have h1 := hK6.carry (KN.out (q + 1) (by omega) (by omega)) h1
  have R6 := Lib.hid hR6
  have K6 := Lib.hid hK6
  have LB := Lib.hid hl
  have hL6 : Hid ((L ++ l.map pfx).length ≤ M) := by have := nrmB_len hl; have := HM.out; show _ ≤ _; rw [List.length_append, List.length_map]; omega
  have hE6 : Hid (∀ x ∈ L ++ l.map pfx, (blk x).1 + 2 ^ (blk x).2 ≤ M) := fun x hx => by
    rcases List.mem_append.1 hx with hx | hx
    · exact Nat.le_trans (HLe.out x hx) hAM
    · rw [HM.out]
      obtain ⟨y, hy, rfl⟩ := List.mem_map.1 hx
      rw [blk_pfx (Nat.le_trans (LB.out.le y hy) hkk.out)]
      exact (LB.out.wi y hy).2
  clear hR6 hK6 hl ck5 cv5
  go_wp2_with fail
  refine (HI.out M (n + 1) la2 lb2 va2 vb2 _ _ w6 hn'.out hkk.out ha2.out htop2.out (by have := GA.out.2.2.2; rwa [← HM.out] at this) (by have := GB.out.2.2.2.2.2; rwa [← HM.out] at this) ((GB.out.2.1.mono KK.out).kc K6.out) ((GB.out.2.2.2.1.mono KK.out).kc K6.out) (KK.out _ KB.out) (KK.out _ KV.out) ck6 cv6 R6.out hL6.out hE6.out).mono ?_
  rintro e w7 ⟨rfl, m, hm, ⟨v, hV7⟩, hK7⟩
  have p0 := hK7.carry (KN.out w.heap.size (Nat.le_refl _) (by omega)) p0
  have p1 := hK7.carry (KN.out w.heap.size (Nat.le_refl _) (by omega)) p1
  have l0 := hK7.carry (KN.out q (by omega) (by omega)) l0
  have l1 := hK7.carry (KN.out q (by omega) (by omega)) l1
  have h0 := hK7.carry (KN.out (q + 1) (by omega) (by omega)) h0
  have h1 := hK7.carry (KN.out (q + 1) (by omega) (by omega)) h1
  have MB := Lib.hid hm
  have V7 := Lib.hid hV7
  have K7 : Hid (KC K w w7) := (KC.of_below B5.out HR.out.klt).trans ((K6.out.trans hK7).mono KK.out)
  have hXl : (L ++ l.map pfx ++ m.map pfx).length ≤ 4294967296 := by
    have := nrmB_len hm; have := hL6.out; have := htop2.out; rw [List.length_append, List.length_map]; omega
  have cr := hV7.cell.1
  have fr := hV7.cell.2
  have hform := hV7.form
  have hrd := rd_own hV7.row
  clear hK7 hm hV7 ck6 cv6 hqw hz5
  have FJ : Hid (¬ (l = [(A, k)] ∧ m = [(M, k)]) → ∀ w8, Below w7.heap.size w7 w8 → VisPost S (k + 1) A r K L w (.returned (.tuple #[])) w8) := fun hno w8 hb8 => by
    have hm := MB.out
    rw [HM.out] at hm hno
    exact vis_join2 HA.out LB.out hm hno ((ResI.below ⟨v, V7.out⟩ hb8).less KK.out) (K7.out.trans (KC.of_below hb8 (fun b hb => Nat.lt_of_lt_of_le (HR.out.klt b hb) K7.out.size)))
  have FT : Hid (∀ N, N = (L ++ l.map pfx ++ m.map pfx).length → 2 ≤ N → (L ++ l.map pfx ++ m.map pfx)[N - 2]? = some (A, n + 1) → (L ++ l.map pfx ++ m.map pfx)[N - 1]? = some (M, n + 1) → l = [(A, k)] ∧ m = [(M, k)]) := fun N hN h2 g0 g1 => by
    have hm := MB.out
    have hp2 := HP2.out
    rw [HM.out] at hm hp2 g1 ⊢
    exact tail_halves LB.out hm hkk.out HLe.out hN h2 (by rw [HP1.out]; exact g0) (by rw [hp2]; exact g1)
  obtain ⟨X, hX⟩ : ∃ X, X = L ++ l.map pfx ++ m.map pfx := ⟨_, rfl⟩
  have HX := Lib.hid hX
  rw [← hX] at hXl hform hrd FT V7
  rcases hform with ⟨rfl, hnil⟩ | ⟨g, cp, rfl, hcp, hg⟩
  · have hno : Hid (¬ (l = [(A, k)] ∧ m = [(M, k)])) := by
      rintro ⟨rfl, rfl⟩
      rw [hX] at hnil; simp at hnil
    clear hX hnil hrd
    go_wp2_with fail
    go_quiet (fail)
    go_wp2
    go_end0
    exact FJ.out hno.out _ (below_drewN (Below.refl _ _) _)
  · obtain ⟨N, hN⟩ : ∃ N, N = X.length := ⟨_, rfl⟩
    have HN := Lib.hid hN
    rw [← hN] at hXl hcp cr V7 hrd
    by_cases hlt : N < 2
    · have hno : Hid (¬ (l = [(A, k)] ∧ m = [(M, k)])) := by
        rintro ⟨rfl, rfl⟩
        rw [hN, hX] at hlt; simp at hlt; omega
      clear hX hN hrd
      rcases (show N = 0 ∨ N = 1 by omega) with rfl | rfl
      all_goals
        go_wp2_with fail
        go_quiet (fail)
        go_wp2
        go_end0
        exact FJ.out hno.out _ (below_drewN (Below.refl _ _) _)
    · obtain ⟨t, ht⟩ : ∃ t, N = t + 2 := ⟨N - 2, by omega⟩
      have et : (N : Int) - 2 = (t : Int) := by omega
      obtain ⟨⟨ya, yn⟩, hy⟩ : ∃ y, X[t]? = some y := ⟨_, List.getElem?_eq_getElem (by omega)⟩
      obtain ⟨⟨za, zn⟩, hz⟩ : ∃ z, X[t + 1]? = some z := ⟨_, List.getElem?_eq_getElem (by omega)⟩
      obtain ⟨ad7, cp7, he7, hc7⟩ := hrd
      simp only [Value.slice.injEq] at he7
      obtain ⟨rfl, -, -⟩ := he7
      obtain ⟨b7, o7, he8, _, y0, y1⟩ := hc7 t _ hy
      cases he8
      obtain ⟨b8, o8, he9, _, z0, z1⟩ := hc7 (t + 1) _ hz
      cases he9
      have ET := Lib.hid et
      have HY := Lib.hid hy
      have HZ := Lib.hid hz
      have HT := Lib.hid ht
      clear hX hN hc7 hy hz et ht
      dsimp only at y0 y1 z0 z1
      simp only [Nat.zero_add] at y0 y1 z0 z1
      have hNt : t + 1 < N := by have := HT.out; omega
      go_wp2_with fail
      simp only [ET.out]
      have wt : IntKind.i64.wrap ((t : Int) + 1) = (t : Int) + 1 := IntWalk.i64_in _ (by constructor <;> omega)
      have wt0 : 0 ≤ (t : Int) + 1 := by omega
      have wt1 : ((t : Int) + 1).toNat = t + 1 := by omega
      have wt2 : (t : Int) + 1 < (N : Int) := by omega
      have htN : t < N := by omega
      by_cases e1 : (ya, yn) = (A, n + 1)
      · obtain ⟨rfl, rfl⟩ := Prod.mk.inj e1
        clear e1
        by_cases e2 : (za, zn) = (M, n + 1)
        · obtain ⟨rfl, rfl⟩ := Prod.mk.inj e2
          clear e2
          have hbo := FT.out N HN.out (by omega) (by rw [show N - 2 = t by have := HT.out; omega]; exact HY.out) (by rw [show N - 1 = t + 1 by have := HT.out; omega]; exact HZ.out)
          have HBO := Lib.hid hbo
          clear hbo
          go_quiet (fail)
          go_wp2
          obtain ⟨rfl, rfl⟩ := HBO.out
          have hLt : L.length = t := by have g1 := HN.out; have g2 := HT.out; rw [HX.out] at g1; simp at g1; omega
          have ROW : Hid (w7.ownsRow 0 28 2 (.slice (some ⟨g, 0, none⟩) t cp) t (flat L)) := by
            have hr := V7.out.row
            have e : flat X = (flat L ++ encP (pfx (ya, k))) ++ encP (pfx (za, k)) := by rw [HX.out, ← flat_snoc, ← flat_snoc]; rfl
            rw [e, ← HN.out, HT.out] at hr
            exact ownsRow_pop (by rw [flat_len, hLt]) (ownsRow_pop (n := t + 1) (by rw [List.length_append, flat_len, hLt]; show t * 2 + 2 = (t + 1) * 2; omega) hr)
          have hcp2 : t ≤ cp := by omega
          have hb8 : Below w7.heap.size w7 (w7.drewN nq) := below_drewN (Below.refl _ _) _
          generalize w7.drewN nq = w8 at *
          have cr := carry hb8 cr
          have p0 := carry hb8 p0
          have p1 := carry hb8 p1
          have cra := fun o => carry (below_alloc w8 o) cr
          have p0a := fun o => carry (below_alloc w8 o) p0
          have p1a := fun o => carry (below_alloc w8 o) p1
          have ROW8 := Lib.hid (ownP_below ROW.out hb8)
          have BOX8 := Lib.hid ((hb8.block r (lt_of_block V7.out.box)).trans V7.out.box)
          have B8 := Lib.hid hb8
          have hbr8 : r < w8.heap.size := Nat.lt_of_lt_of_le (lt_of_block V7.out.box) hb8.size
          have hLt' := Lib.hid hLt
          clear hb8 hLt l0 l1 h0 h1 y0 y1 z0 z1 fr
          go_region_law (first | (refine step_append_lies _ rfl (.tmp 91) (.tmp 93) 22 rfl 0 28 i0 (.agg #[.int .u32 0, .int .i64 0]) 2 16 Try.underlying22 hi hz0 hz1 hz2 rfl (by decide) (.slice (some ⟨g, 0, none⟩) t cp) t (flat L) rfl (ownP_below ROW8.out (below_alloc w8 (.cells #[.int .u32 (ya : Int), .int .i64 n] 28)).drew) ⟨w8.heap.size, 0, none⟩ 1 1 [.int .u32 (ya : Int), .int .i64 n] rfl rfl (cellP_two_new _ _ _ _ (by simp)) (one_two _ _) (by decide) (by unfold maxLen; omega) (by omega) (Nat.zero_le _) (w8.heap.size + 1) (by simp) ?_; intro g2 cp2 w9 hown9 hgrow9 hat9 hlt9; have G := Lib.hid (And.intro hown9 (And.intro hgrow9 hat9)); have hz9 := (hgrow9.block r (by simp; omega) (fun e => V7.out.ne e.symm)).trans ((Below.heap_alloc w8 (.cells #[.int .u32 (ya : Int), .int .i64 n] 28) r hbr8).trans BOX8.out); have f9 := free_of_one hz9; have c9 := cell_of_one hz9; clear hz9 hown9 hgrow9 hat9))
          all_goals (
            go_wp2
            go_end0
            obtain ⟨x1, x2, x3⟩ := G.out
            have hLt := hLt'.out
            subst hLt
            have hm := MB.out
            rw [HM.out] at hm
            refine vis_merge HA.out LB.out hm (V7.out.less KK.out) ?_ ((B8.out.trans ((below_alloc w8 (.cells #[.int .u32 (ya : Int), .int .i64 n] 28)).drew.mono B8.out.size))) x2 ?_ K7.out HR.out.klt
            · rw [HPF.out]; exact x1
            · exact x3.imp id (fun h => by rw [h]; simp))
        · have hno : Hid (¬ (l = [(ya, k)] ∧ m = [(M, k)])) := by
            rintro ⟨rfl, rfl⟩
            have h1 := HZ.out
            have h2 : X = (L ++ [pfx (ya, k)]) ++ [pfx (M, k)] := HX.out
            rw [h2, List.getElem?_append_right (by have g1 := HN.out; have g2 := HT.out; rw [h2] at g1; simp at g1; simp; omega)] at h1
            have h3 : t + 1 - (L ++ [pfx (ya, k)]).length = 0 := by have g1 := HN.out; have g2 := HT.out; rw [h2] at g1; simp at g1; simp; omega
            rw [h3, HP2.out] at h1
            simp at h1
            exact e2 (Prod.ext h1.1.symm h1.2.symm)
          have hpn := pp_ne e2
          clear e2
          rcases hpn with h | ⟨rfl, h⟩
          all_goals
            go_quiet (fail)
            go_wp2
            go_end0
            exact FJ.out hno.out _ (below_drewN (Below.refl _ _) _)
      · have hno : Hid (¬ (l = [(A, k)] ∧ m = [(M, k)])) := by
          rintro ⟨rfl, rfl⟩
          have h1 := HY.out
          have h2 : X = L ++ [pfx (A, k), pfx (M, k)] := by rw [HX.out]; simp
          rw [h2, List.getElem?_append_right (by have g1 := HN.out; have g2 := HT.out; rw [h2] at g1; simp at g1; omega)] at h1
          have h3 : t - L.length = 0 := by have g1 := HN.out; have g2 := HT.out; rw [h2] at g1; simp at g1; omega
          rw [h3, HP1.out] at h1
          simp at h1
          exact e1 (Prod.ext h1.1.symm h1.2.symm)
        have hpn := pp_ne e1
        clear e1
        rcases hpn with h | ⟨rfl, h⟩
        all_goals
          go_quiet (fail)
          go_wp2
          go_end0
          exact FJ.out hno.out _ (below_drewN (Below.refl _ _) _)
end Go.Proofs.Ytegponbmelgngaa
end
