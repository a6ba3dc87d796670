/-
  The walk of cover.Range and of its closure.
  What combine's closure knows of its lists; its calls of uniform and split.
-/
import Derived.Test.YtegponbmelgngaaMgSc
import Derived.Test.YtegponbmelgngaaMgWb
import Derived.Laws.EntriesVeiled
import Derived.Test.YtegponbmelgngaaMgCa
import Derived.WalkSmall
section
namespace Go.Proofs.Ytegponbmelgngaa
open Go.RowKit
set_option linter.unusedSimpArgs false
set_option linter.unusedVariables false
set_option maxHeartbeats 4000000
set_option maxRecDepth 100000

/-- what the closure of Range leaves behind -/
def VisPost (S : Nat → Bool) (k A r : Nat) (K : Nat → Prop) (L : List PP) (w : World) : Ending → World → Prop := fun e w' =>
  e = .returned (.tuple #[]) ∧ ∃ B, CM.NrmB S k A B ∧ ResI r K (L ++ B.map pfx) w' ∧ KC K w w'
theorem vis_none {S : Nat → Bool} {k A r : Nat} {K : Nat → Prop} {L : List PP} {w w1 : World} (h : ∀ y, A ≤ y → y < A + 2 ^ k → S y = false) (hR : ResI r K L w) (hb : Below w.heap.size w w1) :
    VisPost S k A r K L w (.returned (.tuple #[])) w1 :=
  ⟨rfl, [], .none h, by rw [List.map_nil, List.append_nil]; exact hR.below hb, KC.of_below hb hR.klt⟩
theorem vis_whole {S : Nat → Bool} {k A r : Nat} {K : Nat → Prop} {L : List PP} {v : Value} {w w1 w2 : World} {g cap : Nat} (ha : A % 2 ^ k = 0) (h : CM.full S A k) (hR : ResV r K L v w) (hb : Below w.heap.size w w1)
    (h1 : w2.ownsRow 0 28 2 (.slice (some ⟨g, 0, none⟩) (L.length + 1) cap) (L.length + 1) (flat L ++ encP (pfx (A, k)))) (h2 : w1.grownBy w2 v.ownBlock) (h3 : v.ownBlock = some g ∨ w1.heap.size ≤ g) :
    VisPost S k A r K L w (.returned (.tuple #[])) (w2.setCell ⟨r, 0, none⟩ (.slice (some ⟨g, 0, none⟩) (L.length + 1) cap)) := by
  have e : (L ++ [pfx (A, k)]).length = L.length + 1 := by simp
  have := (hR.below hb).push (L' := L ++ [pfx (A, k)]) (w2 := w2) (g := g) (cap := cap) (by rw [e, flat_snoc]; exact h1) h2 h3
  rw [e] at this
  exact ⟨rfl, [(A, k)], .whole ha h, this.1, (KC.of_below hb hR.klt).trans this.2⟩
theorem vis_join {S : Nat → Bool} {k A r : Nat} {K : Nat → Prop} {L : List PP} {w : World} {l m : List (Nat × Nat)} {w' : World} (ha : A % 2 ^ (k + 1) = 0) (hl : CM.NrmB S k A l) (hm : CM.NrmB S k (A + 2 ^ k) m)
    (hn : ¬ CM.full S A (k + 1)) (hR : ResI r K (L ++ l.map pfx ++ m.map pfx) w') (hK : KC K w w') : VisPost S (k + 1) A r K L w (.returned (.tuple #[])) w' := by
  have hj := CM.NrmB.join ha hl hm
  have hno : ¬ (l = [(A, k)] ∧ m = [(A + 2 ^ k, k)]) := by
    rintro ⟨rfl, rfl⟩
    refine hn fun x h1 h2 => ?_
    have e2 : 2 ^ (k + 1) = 2 ^ k + 2 ^ k := by rw [Nat.pow_succ]; omega
    by_cases hx : x < A + 2 ^ k
    · exact hl.fl (A, k) (by simp) x h1 hx
    · exact hm.fl (A + 2 ^ k, k) (by simp) x (by dsimp only; omega) (by dsimp only; omega)
  rw [if_neg hno] at hj
  exact ⟨rfl, _, hj, by rw [List.map_append, ← List.append_assoc]; exact hR, hK⟩

/-- what is known of a prefix as a block -/
theorem blk_facts {k A : Nat} {n : Int} (hn : n = ((32 - k : Nat) : Int)) (hk : k ≤ 32) (ha : A % 2 ^ k = 0) : I64 n ∧ 0 ≤ n ∧ n ≤ 32 ∧ 32 - n.toNat = k ∧ vld A n = true ∧ lastN A n = A + 2 ^ k - 1 := by
  have e : 32 - n.toNat = k := by omega
  have hv : vld A n = true := (V_al A n).2 ⟨by omega, by omega, by rw [e]; exact ha⟩
  exact ⟨by constructor <;> omega, by omega, by omega, e, hv, by rw [last_eq hv, e]⟩
theorem rangeV_out (f l bf bl r vb : Nat) (hf : f < 4294967296) (hl : l < 4294967296) (k A : Nat) (n : Int) (L : List PP) (K : Nat → Prop) (w : World) (hn : n = ((32 - k : Nat) : Int)) (hk : k ≤ 32) (ha : A % 2 ^ k = 0) (htop : A + 2 ^ k ≤ 4294967296) (kf : K bf) (kl : K bl) (kv : K vb) (cf : w.cell? ⟨bf, 0, none⟩ = some (.int .u32 (f : Int))) (cl : w.cell? ⟨bl, 0, none⟩ = some (.int .u32 (l : Int))) (hR : ResI r K L w) (hout : A + 2 ^ k ≤ f ∨ l < A) :
    Calls Try.prog 72 #[.agg #[.int .u32 (A : Int), .int .i64 n], .pointer (some ⟨bf, 0, none⟩), .pointer (some ⟨bl, 0, none⟩), .pointer (some ⟨r, 0, none⟩), .pointer (some ⟨vb, 0, none⟩)] w (VisPost (rngS f l) k A r K L w) := by
  obtain ⟨hI, hn0, hn1, hnk, hv, hlast⟩ := blk_facts hn hk ha
  have hp := CM.pow_pos' k
  have F : Hid (∀ w1, Below w.heap.size w w1 → VisPost (rngS f l) k A r K L w (.returned (.tuple #[])) w1) := fun w1 hb => vis_none (fun y h1 h2 => Bool.eq_false_iff.2 fun e => by have := (rngS_iff _ _ _).1 e; omega) hR hb
  have hbl : bl < w.heap.size := hR.klt bl kl
  have hbf : bf < w.heap.size := hR.klt bf kf
  have HL : Hid (∀ W, Calls Try.prog 60 #[.agg #[.int .u32 (A : Int), .int .i64 n]] W fun e w' => e = .returned (.int .u32 ((A + 2 ^ k - 1 : Nat) : Int)) ∧ Below W.heap.size W w') := fun W => by have := last_yes A (by omega) n hI W hv; rw [hlast] at this; exact this
  obtain ⟨E, hE⟩ : ∃ E, E = A + 2 ^ k - 1 := ⟨_, rfl⟩
  rw [← hE] at HL
  have hout' : E < f ∨ l < A := by omega
  have hEA : A ≤ E := by omega
  clear hE hout hlast hnk hp ha htop hn hR
  by_cases h1 : E < f
  · go_enter Try.func72, Try.ntmps72
    go_wp2_with (go_at_call 60; refine (HL.out _).mono ?_; rintro e w1 ⟨rfl, hb⟩; have B1 := Lib.hid (below_then (below_alloc _ _) hb); have c1 := carry B1.out cf; have c2 := carry B1.out cl; obtain ⟨hc1, hf1⟩ := bcell hb; clear hb)
    go_end0
    exact F.out _ B1.out
  · have h2 : l < A := by omega
    go_enter Try.func72, Try.ntmps72
    go_wp2_with (go_at_call 60; refine (HL.out _).mono ?_; rintro e w1 ⟨rfl, hb⟩; have B1 := Lib.hid (below_then (below_alloc _ _) hb); have c1 := carry B1.out cf; have c2 := carry B1.out cl; obtain ⟨hc1, hf1⟩ := bcell hb; clear hb)
    go_end0
    exact F.out _ B1.out
theorem rangeV_in (f l bf bl r vb : Nat) (hf : f < 4294967296) (hl : l < 4294967296) (k A : Nat) (n : Int) (L : List PP) (K : Nat → Prop) (w : World) (hn : n = ((32 - k : Nat) : Int)) (hk : k ≤ 32) (ha : A % 2 ^ k = 0) (htop : A + 2 ^ k ≤ 4294967296) (kf : K bf) (kl : K bl) (kv : K vb) (cf : w.cell? ⟨bf, 0, none⟩ = some (.int .u32 (f : Int))) (cl : w.cell? ⟨bl, 0, none⟩ = some (.int .u32 (l : Int))) (hR : ResI r K L w) (hL : L.length ≤ A) (h1 : f ≤ A) (h2 : A + 2 ^ k ≤ l + 1) :
    Calls Try.prog 72 #[.agg #[.int .u32 (A : Int), .int .i64 n], .pointer (some ⟨bf, 0, none⟩), .pointer (some ⟨bl, 0, none⟩), .pointer (some ⟨r, 0, none⟩), .pointer (some ⟨vb, 0, none⟩)] w (VisPost (rngS f l) k A r K L w) := by
  obtain ⟨i0, hi, hz0, hz1, hz2⟩ := infoP_parts info28
  obtain ⟨hI, hn0, hn1, hnk, hv, hlast⟩ := blk_facts hn hk ha
  have hp := CM.pow_pos' k
  obtain ⟨v, hV⟩ := hR
  have hbl : bl < w.heap.size := hV.klt bl kl
  have hbf : bf < w.heap.size := hV.klt bf kf
  have hbr : r < w.heap.size := lt_of_block hV.box
  have HV := Lib.hid hV
  have HL : Hid (∀ W, Calls Try.prog 60 #[.agg #[.int .u32 (A : Int), .int .i64 n]] W fun e w' => e = .returned (.int .u32 ((A + 2 ^ k - 1 : Nat) : Int)) ∧ Below W.heap.size W w') := fun W => by have := last_yes A (by omega) n hI W hv; rw [hlast] at this; exact this
  have F : Hid (∀ (w1 w2 : World) (g cap : Nat), Below w.heap.size w w1 → w2.ownsRow 0 28 2 (.slice (some ⟨g, 0, none⟩) (L.length + 1) cap) (L.length + 1) (flat L ++ [.int .u32 (A : Int), .int .i64 n]) → w1.grownBy w2 v.ownBlock → (v.ownBlock = some g ∨ w1.heap.size ≤ g) →
      VisPost (rngS f l) k A r K L w (.returned (.tuple #[])) (w2.setCell ⟨r, 0, none⟩ (.slice (some ⟨g, 0, none⟩) (L.length + 1) cap))) := fun w1 w2 g cap hb g1 g2 g3 => by
    refine vis_whole ha (fun y y1 y2 => (rngS_iff _ _ _).2 ⟨by omega, by omega⟩) HV.out hb ?_ g2 g3
    rw [show encP (pfx (A, k)) = [.int .u32 (A : Int), .int .i64 n] by unfold encP pfx; rw [hn]]; exact g1
  obtain ⟨E, hE⟩ : ∃ E, E = A + 2 ^ k - 1 := ⟨_, rfl⟩
  rw [← hE] at HL
  have hEl : E ≤ l := by omega
  have hEA : A ≤ E := by omega
  have hA : A < 4294967296 := by omega
  clear hE h2 hlast hnk hp ha htop hn hV
  have hd1 : ¬ E < f := by omega
  have hd2 : ¬ l < A := by omega
  go_enter Try.func72, Try.ntmps72
  go_wp2_with (first
    | (go_at_call 60; refine (HL.out _).mono ?_; rintro e w1 ⟨rfl, hb⟩; have B1 := Lib.hid (below_then (below_alloc _ _) hb); have c1 := carry B1.out cf; have c2 := carry B1.out cl; have hV1 := HV.out.below B1.out; have c3 := hV1.cell.1; have c4 := hV1.cell.2; have RW := Lib.hid hV1.row; have RB := Lib.hid hV1.box; have hbr1 := lt_of_block hV1.box; obtain ⟨hc1, hf1⟩ := bcell hb; clear hb hV1)
    | (at_builtin; refine wpList_append_lies _ rfl (.tmp 30) (.tmp 32) 22 rfl 0 28 i0 (.agg #[.int .u32 0, .int .i64 0]) 2 16 Try.underlying22 hi hz0 hz1 hz2 rfl (by decide) v L.length (flat L) rfl (ownP_below RW.out (below_alloc _ _)) ⟨w1.heap.size, 0, none⟩ 1 1 [.int .u32 (A : Int), .int .i64 n] rfl rfl (cellP_two_new _ _ _ _ rfl) (one_two _ _) (by decide) (by unfold maxLen; omega) (by omega) (Nat.zero_le _) (w1.heap.size + 1) (by simp) ?_; intro g cp w4 hown4 hgrow4 hat4 hlt4; have G := Lib.hid (And.intro hown4 (And.intro hgrow4 hat4)); have hz4 := (hgrow4.block r (by simp; omega) (fun e => HV.out.ne e.symm)).trans ((Below.heap_alloc _ _ _ hbr1).trans RB.out); have f4 := free_of_one hz4; have f5 := cell_of_one hz4; clear hz4; clear hown4 hgrow4 hat4))
  (try simp only [Exit.inBlock, Exit.then]); refine bodyPost_ret (results_none rfl _ _ _) rfl ?_
  exact F.out _ _ _ _ (below_then B1.out (below_alloc _ _)) G.out.1 G.out.2.1 (G.out.2.2.imp id (fun h => by rw [h]; simp))
/-- what the closure does at a block of 2^k addresses -/
def RangeV (f l bf bl r vb k : Nat) : Prop := ∀ (A : Nat) (n : Int) (L : List PP) (K : Nat → Prop) (w : World), n = ((32 - k : Nat) : Int) → k ≤ 32 → A % 2 ^ k = 0 → A + 2 ^ k ≤ 4294967296 →
    K bf → K bl → K vb → w.cell? ⟨bf, 0, none⟩ = some (.int .u32 (f : Int)) → w.cell? ⟨bl, 0, none⟩ = some (.int .u32 (l : Int)) →
    w.cell? ⟨vb, 0, none⟩ = some (.func (.func 72) #[] #[.pointer (some ⟨bf, 0, none⟩), .pointer (some ⟨bl, 0, none⟩), .pointer (some ⟨r, 0, none⟩), .pointer (some ⟨vb, 0, none⟩)]) →
    ResI r K L w → L.length ≤ A →
    Calls Try.prog 72 #[.agg #[.int .u32 (A : Int), .int .i64 n], .pointer (some ⟨bf, 0, none⟩), .pointer (some ⟨bl, 0, none⟩), .pointer (some ⟨r, 0, none⟩), .pointer (some ⟨vb, 0, none⟩)] w (VisPost (rngS f l) k A r K L w)
theorem rangeV_part (f l bf bl r vb : Nat) (hf : f < 4294967296) (hl : l < 4294967296) (k A : Nat) (n : Int) (L : List PP) (K : Nat → Prop) (w : World) (hn : n = ((32 - (k + 1) : Nat) : Int)) (hk : k + 1 ≤ 32) (ha : A % 2 ^ (k + 1) = 0) (htop : A + 2 ^ (k + 1) ≤ 4294967296) (kf : K bf) (kl : K bl) (kv : K vb) (cf : w.cell? ⟨bf, 0, none⟩ = some (.int .u32 (f : Int))) (cl : w.cell? ⟨bl, 0, none⟩ = some (.int .u32 (l : Int)))
    (cv : w.cell? ⟨vb, 0, none⟩ = some (.func (.func 72) #[] #[.pointer (some ⟨bf, 0, none⟩), .pointer (some ⟨bl, 0, none⟩), .pointer (some ⟨r, 0, none⟩), .pointer (some ⟨vb, 0, none⟩)])) (hR : ResI r K L w) (hL : L.length ≤ A) (hin : ¬ (A + 2 ^ (k + 1) ≤ f ∨ l < A)) (hpart : ¬ (f ≤ A ∧ A + 2 ^ (k + 1) ≤ l + 1)) (ih : RangeV f l bf bl r vb k) :
    Calls Try.prog 72 #[.agg #[.int .u32 (A : Int), .int .i64 n], .pointer (some ⟨bf, 0, none⟩), .pointer (some ⟨bl, 0, none⟩), .pointer (some ⟨r, 0, none⟩), .pointer (some ⟨vb, 0, none⟩)] w (VisPost (rngS f l) (k + 1) A r K L w) := by
  obtain ⟨hI, hn0, hn1, hnk, hv, hlast⟩ := blk_facts hn hk ha
  have hp := CM.pow_pos' k
  have e2 : 2 ^ (k + 1) = 2 ^ k + 2 ^ k := by rw [Nat.pow_succ]; omega
  have hbl : bl < w.heap.size := hR.klt bl kl
  have hbf : bf < w.heap.size := hR.klt bf kf
  have hbv : vb < w.heap.size := hR.klt vb kv
  have hn31 : n ≤ 31 := by omega
  have HL : Hid (∀ W, Calls Try.prog 60 #[.agg #[.int .u32 (A : Int), .int .i64 n]] W fun e w' => e = .returned (.int .u32 ((A + 2 ^ (k + 1) - 1 : Nat) : Int)) ∧ Below W.heap.size W w') := fun W => by have := last_yes A (by omega) n hI W hv; rw [hlast] at this; exact this
  have hmid : midN A n = A + 2 ^ k := by rw [mid_eq hv hn31, show 31 - n.toNat = k by omega]
  have HH : Hid (∀ W, Calls Try.prog 73 #[.agg #[.int .u32 (A : Int), .int .i64 n]] W fun e w' => e = .returned (.tuple #[.agg #[.int .u32 (A : Int), .int .i64 (n + 1)], .agg #[.int .u32 ((A + 2 ^ k : Nat) : Int), .int .i64 (n + 1)], .bool true]) ∧ Below W.heap.size W w') := fun W => by
    have := halves_yes A (by omega) n hI W hv hn0 hn31; rw [hmid] at this; exact this
  have hn' : Hid (n + 1 = ((32 - k : Nat) : Int)) := by show n + 1 = _; omega
  have ha1 : Hid (A % 2 ^ k = 0) := CM.mod_of_le (Nat.le_succ k) ha
  have ha2 : Hid ((A + 2 ^ k) % 2 ^ k = 0) := by show _ = _; rw [Nat.add_mod_right]; exact ha1.out
  have hnf : Hid (¬ CM.full (rngS f l) A (k + 1)) := fun hfu => by
    have g1 := (rngS_iff _ _ _).1 (hfu A (Nat.le_refl _) (by omega))
    have g2 := (rngS_iff _ _ _).1 (hfu (A + 2 ^ (k + 1) - 1) (by omega) (by omega))
    omega
  obtain ⟨E, hE⟩ : ∃ E, E = A + 2 ^ (k + 1) - 1 := ⟨_, rfl⟩
  rw [← hE] at HL
  obtain ⟨M, hM⟩ : ∃ M, M = A + 2 ^ k := ⟨_, rfl⟩
  have HM := Lib.hid hM
  rw [← hM] at HH ha2
  have HI := Lib.hid ih
  have HR := Lib.hid hR
  have hA : A < 4294967296 := by omega
  have htop1 : Hid (A + 2 ^ k ≤ 4294967296) := by show _ ≤ _; omega
  have htop2 : Hid (M + 2 ^ k ≤ 4294967296) := by show _ ≤ _; omega
  have hd1 : ¬ E < f := by omega
  have hd2 : ¬ l < A := by omega
  have HA := Lib.hid ha
  have hkk : Hid (k ≤ 32) := by show _ ≤ _; omega
  have KF := Lib.hid kf
  have KL := Lib.hid kl
  have KV := Lib.hid kv
  by_cases h1 : f ≤ A
  · have hd3 : ¬ E ≤ l := by omega
    clear hE hM hmid hin hpart hp ha hn hlast hnk htop e2 ih hR
    go_enter Try.func72, Try.ntmps72
    go_wp2_with (first
      | (go_at_call 60; refine (HL.out _).mono ?_; rintro e w1 ⟨rfl, hb⟩; have B1 := Lib.hid (below_then (below_alloc _ _) hb); have c1 := carry B1.out cf; have c2 := carry B1.out cl; have c3 := carry B1.out cv; obtain ⟨hc1, hf1⟩ := bcell hb; have hz1 : w.heap.size < w1.heap.size := (by have := hb.size; simp at this; omega); clear hb)
      | (go_at_call 73; refine (HH.out _).mono ?_; rintro e w2 ⟨rfl, hb⟩; have B2 := Lib.hid (below_then B1.out hb); have d1 := carry hb c1; have d2 := carry hb c2; have d3 : ∀ o1 o2, ((w2.alloc o1).alloc o2).cell? ⟨vb, 0, none⟩ = _ := (fun o1 o2 => carry (below_alloc _ _) (carry (below_alloc _ _) (carry hb c3))); have BH := (fun o1 o2 => below_then (below_then B2.out (below_alloc w2 o1)) (below_alloc (w2.alloc o1) o2)); obtain ⟨hc2, hf2⟩ := bcell hb; have hz2 : w.heap.size < w2.heap.size := (by have := hb.size; omega); clear hb))
    have hb3 := BH (.cells #[.int .u32 (A : Int), .int .i64 (n + 1)] 28) (.cells #[.int .u32 (M : Int), .int .i64 (n + 1)] 28)
    have g0 : ((w2.alloc (.cells #[.int .u32 (A : Int), .int .i64 (n + 1)] 28)).alloc (.cells #[.int .u32 (M : Int), .int .i64 (n + 1)] 28)).cell? ⟨w2.heap.size + 1, 0, none⟩ = some (.int .u32 (M : Int)) := by simp
    have g1 : ((w2.alloc (.cells #[.int .u32 (A : Int), .int .i64 (n + 1)] 28)).alloc (.cells #[.int .u32 (M : Int), .int .i64 (n + 1)] 28)).cell? ⟨w2.heap.size + 1, 1, none⟩ = some (.int .i64 (n + 1)) := by simp
    have hz3 : w2.heap.size + 1 < ((w2.alloc (.cells #[.int .u32 (A : Int), .int .i64 (n + 1)] 28)).alloc (.cells #[.int .u32 (M : Int), .int .i64 (n + 1)] 28)).heap.size := by simp
    revert hb3 g0 g1 hz3
    generalize ((w2.alloc (.cells #[.int .u32 (A : Int), .int .i64 (n + 1)] 28)).alloc (.cells #[.int .u32 (M : Int), .int .i64 (n + 1)] 28)) = w3
    intro hb3 g0 g1 hz3
    have KK : Hid (∀ b, K b → More K w.heap.size w3.heap.size b) := fun b hb => .inl hb
    have KN : Hid (More K w.heap.size w3.heap.size (w2.heap.size + 1)) := .inr ⟨by omega, hz3⟩
    have B3 := Lib.hid hb3
    have cf3 := carry hb3 cf
    have cl3 := carry hb3 cl
    have cv3 := carry hb3 cv
    clear d3 BH c1 c2 c3 d1 d2 hc1 hf1 hc2 hf2 cf cl cv
    refine (HI.out A (n + 1) L _ w3 hn'.out hkk.out ha1.out htop1.out (KK.out _ KF.out) (KK.out _ KL.out) (KK.out _ KV.out) cf3 cl3 cv3 (HR.out.more B3.out) hL).mono ?_
    rintro e w4 ⟨rfl, lB, hlB, hR4, hK4⟩
    have cf4 := hK4.carry (KK.out _ KF.out) cf3
    have cl4 := hK4.carry (KK.out _ KL.out) cl3
    have cv4 := hK4.carry (KK.out _ KV.out) cv3
    have g4 := hK4.carry KN.out g0
    have g5 := hK4.carry KN.out g1
    have R4 := Lib.hid hR4
    have K4 := Lib.hid hK4
    have LB := Lib.hid hlB
    have hL4 : Hid ((L ++ lB.map pfx).length ≤ M) := by have := nrmB_len hlB; have := HM.out; show _ ≤ _; rw [List.length_append, List.length_map]; omega
    clear hb3 cf3 cl3 cv3 g0 g1 hR4 hK4 hlB
    go_wp2_with fail
    refine (HI.out M (n + 1) _ _ w4 hn'.out hkk.out ha2.out htop2.out (KK.out _ KF.out) (KK.out _ KL.out) (KK.out _ KV.out) cf4 cl4 cv4 R4.out hL4.out).mono ?_
    rintro e w5 ⟨rfl, mB, hmB, hR5, hK5⟩
    have P5 : Hid (VisPost (rngS f l) (k + 1) A r K L w (.returned (.tuple #[])) w5) := by
      rw [HM.out] at hmB
      exact vis_join HA.out LB.out hmB hnf.out (hR5.less KK.out) ((KC.of_below B3.out HR.out.klt).trans ((K4.out.trans hK5).mono KK.out))
    clear hmB hR5 hK5
    go_wp2_with fail
    go_end0
    exact P5.out
  · clear hE hM hmid hin hpart hp ha hn hlast hnk htop e2 ih hR
    go_enter Try.func72, Try.ntmps72
    go_wp2_with (first
      | (go_at_call 60; refine (HL.out _).mono ?_; rintro e w1 ⟨rfl, hb⟩; have B1 := Lib.hid (below_then (below_alloc _ _) hb); have c1 := carry B1.out cf; have c2 := carry B1.out cl; have c3 := carry B1.out cv; obtain ⟨hc1, hf1⟩ := bcell hb; have hz1 : w.heap.size < w1.heap.size := (by have := hb.size; simp at this; omega); clear hb)
      | (go_at_call 73; refine (HH.out _).mono ?_; rintro e w2 ⟨rfl, hb⟩; have B2 := Lib.hid (below_then B1.out hb); have d1 := carry hb c1; have d2 := carry hb c2; have d3 : ∀ o1 o2, ((w2.alloc o1).alloc o2).cell? ⟨vb, 0, none⟩ = _ := (fun o1 o2 => carry (below_alloc _ _) (carry (below_alloc _ _) (carry hb c3))); have BH := (fun o1 o2 => below_then (below_then B2.out (below_alloc w2 o1)) (below_alloc (w2.alloc o1) o2)); obtain ⟨hc2, hf2⟩ := bcell hb; have hz2 : w.heap.size < w2.heap.size := (by have := hb.size; omega); clear hb))
    have hb3 := BH (.cells #[.int .u32 (A : Int), .int .i64 (n + 1)] 28) (.cells #[.int .u32 (M : Int), .int .i64 (n + 1)] 28)
    have g0 : ((w2.alloc (.cells #[.int .u32 (A : Int), .int .i64 (n + 1)] 28)).alloc (.cells #[.int .u32 (M : Int), .int .i64 (n + 1)] 28)).cell? ⟨w2.heap.size + 1, 0, none⟩ = some (.int .u32 (M : Int)) := by simp
    have g1 : ((w2.alloc (.cells #[.int .u32 (A : Int), .int .i64 (n + 1)] 28)).alloc (.cells #[.int .u32 (M : Int), .int .i64 (n + 1)] 28)).cell? ⟨w2.heap.size + 1, 1, none⟩ = some (.int .i64 (n + 1)) := by simp
    have hz3 : w2.heap.size + 1 < ((w2.alloc (.cells #[.int .u32 (A : Int), .int .i64 (n + 1)] 28)).alloc (.cells #[.int .u32 (M : Int), .int .i64 (n + 1)] 28)).heap.size := by simp
    revert hb3 g0 g1 hz3
    generalize ((w2.alloc (.cells #[.int .u32 (A : Int), .int .i64 (n + 1)] 28)).alloc (.cells #[.int .u32 (M : Int), .int .i64 (n + 1)] 28)) = w3
    intro hb3 g0 g1 hz3
    have KK : Hid (∀ b, K b → More K w.heap.size w3.heap.size b) := fun b hb => .inl hb
    have KN : Hid (More K w.heap.size w3.heap.size (w2.heap.size + 1)) := .inr ⟨by omega, hz3⟩
    have B3 := Lib.hid hb3
    have cf3 := carry hb3 cf
    have cl3 := carry hb3 cl
    have cv3 := carry hb3 cv
    clear d3 BH c1 c2 c3 d1 d2 hc1 hf1 hc2 hf2 cf cl cv
    refine (HI.out A (n + 1) L _ w3 hn'.out hkk.out ha1.out htop1.out (KK.out _ KF.out) (KK.out _ KL.out) (KK.out _ KV.out) cf3 cl3 cv3 (HR.out.more B3.out) hL).mono ?_
    rintro e w4 ⟨rfl, lB, hlB, hR4, hK4⟩
    have cf4 := hK4.carry (KK.out _ KF.out) cf3
    have cl4 := hK4.carry (KK.out _ KL.out) cl3
    have cv4 := hK4.carry (KK.out _ KV.out) cv3
    have g4 := hK4.carry KN.out g0
    have g5 := hK4.carry KN.out g1
    have R4 := Lib.hid hR4
    have K4 := Lib.hid hK4
    have LB := Lib.hid hlB
    have hL4 : Hid ((L ++ lB.map pfx).length ≤ M) := by have := nrmB_len hlB; have := HM.out; show _ ≤ _; rw [List.length_append, List.length_map]; omega
    clear hb3 cf3 cl3 cv3 g0 g1 hR4 hK4 hlB
    go_wp2_with fail
    refine (HI.out M (n + 1) _ _ w4 hn'.out hkk.out ha2.out htop2.out (KK.out _ KF.out) (KK.out _ KL.out) (KK.out _ KV.out) cf4 cl4 cv4 R4.out hL4.out).mono ?_
    rintro e w5 ⟨rfl, mB, hmB, hR5, hK5⟩
    have P5 : Hid (VisPost (rngS f l) (k + 1) A r K L w (.returned (.tuple #[])) w5) := by
      rw [HM.out] at hmB
      exact vis_join HA.out LB.out hmB hnf.out (hR5.less KK.out) ((KC.of_below B3.out HR.out.klt).trans ((K4.out.trans hK5).mono KK.out))
    clear hmB hR5 hK5
    go_wp2_with fail
    go_end0
    exact P5.out
theorem rangeV_all (f l bf bl r vb : Nat) (hf : f < 4294967296) (hl : l < 4294967296) (hfl : f ≤ l) : ∀ k, RangeV f l bf bl r vb k := by
  intro k
  induction k with
  | zero =>
    intro A n L K w hn hk ha htop kf kl kv cf cl cv hR hL
    by_cases h1 : A + 2 ^ 0 ≤ f ∨ l < A
    · exact rangeV_out f l bf bl r vb hf hl 0 A n L K w hn hk ha htop kf kl kv cf cl hR h1
    · exact rangeV_in f l bf bl r vb hf hl 0 A n L K w hn hk ha htop kf kl kv cf cl hR hL (by simp at h1; omega) (by simp at h1 ⊢; omega)
  | succ k ih =>
    intro A n L K w hn hk ha htop kf kl kv cf cl cv hR hL
    by_cases h1 : A + 2 ^ (k + 1) ≤ f ∨ l < A
    · exact rangeV_out f l bf bl r vb hf hl (k + 1) A n L K w hn hk ha htop kf kl kv cf cl hR h1
    · by_cases h2 : f ≤ A ∧ A + 2 ^ (k + 1) ≤ l + 1
      · exact rangeV_in f l bf bl r vb hf hl (k + 1) A n L K w hn hk ha htop kf kl kv cf cl hR hL h2.1 h2.2
      · exact rangeV_part f l bf bl r vb hf hl k A n L K w hn hk ha htop kf kl kv cf cl cv hR hL h1 h2 ih
theorem rngS_lt {f l : Nat} (hl : l < 4294967296) : ∀ y, rngS f l y = true → y < 4294967296 := fun y hy => by have := (rngS_iff _ _ _).1 hy; omega
theorem range_bad (f l : Nat) (hf : f < 4294967296) (hl : l < 4294967296) (w : World) (h : l < f) :
    Calls Try.prog 33 #[.int .u32 (f : Int), .int .u32 (l : Int)] w fun e w' => e = .returned (.tuple #[.slice none 0 0, .int .i64 16]) ∧ Below w.heap.size w w' := by
  go_enter Try.func33, Try.ntmps33
  go_wp2
  go_ret2
  exact ⟨rfl, by first | exact ((((Below.refl _ _).alloc (Nat.le_refl _) _).alloc (by simp) _)) | skip⟩
theorem range_any (f l : Nat) (hf : f < 4294967296) (hl : l < 4294967296) (w : World) (h : f ≤ l) :
    Calls Try.prog 33 #[.int .u32 (f : Int), .int .u32 (l : Int)] w fun e w' => ∃ v B, e = .returned (.tuple #[v, .int .i64 0]) ∧ CM.Nrm (rngS f l) B ∧ Rd w' v (B.map pfx) ∧ Below w.heap.size w w' := by
  have HV := Lib.hid (rangeV_all f l w.heap.size (w.heap.size + 1) (w.heap.size + 1 + 1) (w.heap.size + 1 + 1 + 1) hf hl h)
  have hd : ¬ l < f := by omega
  go_enter Try.func33, Try.ntmps33
  go_wp2_with fail
  obtain ⟨W, hW⟩ : ∃ W, W = ((((w.alloc (.cells #[.int .u32 (f : Int)] 26)).alloc (.cells #[.int .u32 (l : Int)] 26)).alloc (.cells #[.slice none 0 0] 22)).alloc
          (.cells #[.func (.func 72) #[] #[.pointer (some ⟨w.heap.size, 0, none⟩), .pointer (some ⟨w.heap.size + 1, 0, none⟩), .pointer (some ⟨w.heap.size + 1 + 1, 0, none⟩), .pointer (some ⟨w.heap.size + 1 + 1 + 1, 0, none⟩)]] 80)) := ⟨_, rfl⟩
  rw [← hW]
  have hb : Below w.heap.size w W := by rw [hW]; exact ((((Below.refl _ _).alloc (Nat.le_refl _) _).alloc (by simp) _).alloc (by simp; omega) _).alloc (by simp; omega) _
  have hz : W.heap.size = w.heap.size + 4 := by rw [hW]; simp
  have c0 : W.cell? ⟨w.heap.size, 0, none⟩ = some (.int .u32 (f : Int)) := by rw [hW]; exact carry (below_alloc _ _) (carry (below_alloc _ _) (carry (below_alloc _ _) (cell_of_one (heap_alloc_new w _))))
  have c1 : W.cell? ⟨w.heap.size + 1, 0, none⟩ = some (.int .u32 (l : Int)) := by rw [hW]; exact carry (below_alloc _ _) (carry (below_alloc _ _) (cell_of_one (by have := heap_alloc_new (w.alloc (.cells #[.int .u32 (f : Int)] 26)) (.cells #[.int .u32 (l : Int)] 26); simpa using this)))
  have c3 : W.cell? ⟨w.heap.size + 1 + 1 + 1, 0, none⟩ = some (.func (.func 72) #[] #[.pointer (some ⟨w.heap.size, 0, none⟩), .pointer (some ⟨w.heap.size + 1, 0, none⟩), .pointer (some ⟨w.heap.size + 1 + 1, 0, none⟩), .pointer (some ⟨w.heap.size + 1 + 1 + 1, 0, none⟩)]) := by
    rw [hW]
    refine cell_of_one (t := 80) ?_
    have := heap_alloc_new (((w.alloc (.cells #[.int .u32 (f : Int)] 26)).alloc (.cells #[.int .u32 (l : Int)] 26)).alloc (.cells #[.slice none 0 0] 22)) (.cells #[.func (.func 72) #[] #[.pointer (some ⟨w.heap.size, 0, none⟩), .pointer (some ⟨w.heap.size + 1, 0, none⟩), .pointer (some ⟨w.heap.size + 1 + 1, 0, none⟩), .pointer (some ⟨w.heap.size + 1 + 1 + 1, 0, none⟩)]] 80)
    simpa using this
  have c2 : W.heap[w.heap.size + 1 + 1]? = some (.cells #[.slice none 0 0] 22 (0, 0)) := by
    rw [hW, Below.heap_alloc _ _ _ (by simp)]
    have := heap_alloc_new ((w.alloc (.cells #[.int .u32 (f : Int)] 26)).alloc (.cells #[.int .u32 (l : Int)] 26)) (.cells #[.slice none 0 0] 22)
    simpa using this
  clear hW
  have hR : ResI (w.heap.size + 1 + 1) (fun k => k < W.heap.size ∧ k ≠ w.heap.size + 1 + 1) [] W := resI_start c2 (fun h => h.2 rfl) (fun k hk => hk.1)
  refine (HV.out 32 0 0 [] (fun k => k < W.heap.size ∧ k ≠ w.heap.size + 1 + 1) W rfl (by omega) (by simp) (by simp) ⟨by omega, by omega⟩ ⟨by omega, by omega⟩ ⟨by omega, by omega⟩ c0 c1 c3 hR (Nat.le_refl _)).mono ?_
  rintro e w1 ⟨rfl, B, hB, hR1, hK1⟩
  have b1 := Lib.hid (hb.trans (hK1.below (B := w.heap.size) (fun k hk => ⟨by omega, by omega⟩)))
  obtain ⟨v, hv, hrd⟩ := hR1.rd
  have HRD := Lib.hid hrd
  have HB := Lib.hid hB
  clear hR hR1 hK1 hb c0 c1 c2 c3 hrd hB
  go_wp2
  go_ret2
  exact ⟨v, B, rfl, HB.out.root (rngS_lt hl), HRD.out, b1.out⟩
end Go.Proofs.Ytegponbmelgngaa
end

section
namespace Go.Proofs.Ytegponbmelgngaa
open Go.RowKit
set_option linter.unusedSimpArgs false
set_option linter.unusedVariables false
set_option maxHeartbeats 4000000
set_option maxRecDepth 100000

/-- an ascending list of valid prefixes, as it is known at a block -/
structure GL (S : Nat → Bool) (A k : Nat) (l : List PP) : Prop where
  len : l.length ≤ 4294967296
  val : ∀ x ∈ l, x.1 < 4294967296 ∧ V x = true
  asc : l.Pairwise ltP
  inv : CM.Inv S (l.map blk) A k
theorem V_I64 {x : PP} (h : V x = true) : I64 x.2 := by have := (V_iff x).1 h; constructor <;> omega
def uniB (l : List PP) (p : PP) : Bool := match l with
  | [] => true
  | x :: _ => C x p
theorem uni_any (l : List PP) (v : Value) (p : PP) (hp : p.1 < 4294967296 ∧ I64 p.2) (hv : ∀ x ∈ l, x.1 < 4294967296 ∧ V x = true) (W : World) (hr : Rd W v l) :
    Calls Try.prog 106 #[v, .agg #[.int .u32 (p.1 : Int), .int .i64 p.2]] W fun e w' => e = .returned (.bool (uniB l p)) ∧ Below W.heap.size W w' := by
  cases l with
  | nil => obtain ⟨ad, cap, rfl, _⟩ := hr; exact uniform_nil ad cap p W
  | cons x r => exact uniform_cons x r v p W hr ⟨(hv x (by simp)).1, V_I64 (hv x (by simp)).2⟩ hp
theorem C_of_block {p q : PP} (hp : V p = true) (hq : V q = true) (h1 : (blk p).1 ≤ (blk q).1) (h2 : (blk q).1 + 2 ^ (blk q).2 ≤ (blk p).1 + 2 ^ (blk p).2) : C p q = true := by
  have i := (V_iff p).1 hp
  have j := (V_iff q).1 hq
  have hpp := CM.pow_pos' (blk q).2
  have hle : (blk q).2 ≤ (blk p).2 := Nat.le_of_not_lt fun hlt => by
    have := CM.pow_le' (show (blk p).2 + 1 ≤ (blk q).2 by omega)
    have e : 2 ^ ((blk p).2 + 1) = 2 ^ (blk p).2 + 2 ^ (blk p).2 := by rw [Nat.pow_succ]; omega
    have := CM.pow_pos' (blk p).2
    omega
  have hlen : p.2 ≤ q.2 := by unfold blk at hle; dsimp only at hle; omega
  show cov p.1 p.2 q.1 q.2 = true
  rw [cov_in hq hlen]
  exact (con_in hp q.1).2 ⟨h1, by show q.1 < p.1 + 2 ^ (blk p).2; show (blk q).1 < (blk p).1 + 2 ^ (blk p).2; omega⟩
theorem C_blk {p q : PP} (h : C p q = true) : (blk q).2 ≤ (blk p).2 := by
  have := C_V h
  unfold blk; dsimp only; omega
theorem GL.uni {S : Nat → Bool} {A k : Nat} {l : List PP} (h : GL S A k l) (hk : k ≤ 32) (ha : A % 2 ^ k = 0) : (uniB l (pfx (A, k)) = true ∧ ((l = [] ∧ ∀ y, A ≤ y → y < A + 2 ^ k → S y = false) ∨ (l ≠ [] ∧ CM.full S A k))) ∨ (uniB l (pfx (A, k)) = false ∧ l ≠ [] ∧ CM.Lies S (l.map blk) A k ∧ ∀ x ∈ l.map blk, x.2 < k) := by
  cases h.inv with
  | none he hs =>
    obtain rfl := List.map_eq_nil_iff.1 he
    exact .inl ⟨rfl, .inl ⟨rfl, hs⟩⟩
  | whole x r he hx h1 h2 hs =>
    cases l with
    | nil => cases he
    | cons p q =>
      simp at he
      obtain ⟨rfl, _⟩ := he
      refine .inl ⟨C_of_block (h.val p (by simp)).2 (V_pfx hk ha) ?_ ?_, .inr ⟨by simp, hs⟩⟩
      · rw [blk_pfx (x := (A, k)) hk]; exact h1
      · rw [blk_pfx (x := (A, k)) hk]; exact h2
  | parts hne hl hk' =>
    cases l with
    | nil => exact absurd rfl hne
    | cons p q =>
      refine .inr ⟨?_, by simp, hl, hk'⟩
      show C p (pfx (A, k)) = false
      refine Bool.eq_false_iff.2 fun hc => ?_
      have := C_blk hc
      rw [blk_pfx (x := (A, k)) hk] at this
      have := hk' (blk p) (by simp)
      omega
/-- what split hands back -/
theorem RdK.below {K : Nat → Prop} {w W : World} {v : Value} {l : List PP} (hr : RdK K w v l) (hW : Below w.heap.size w W) : RdK K W v l := by
  obtain ⟨ad, cap, rfl, hcap, hc⟩ := hr
  exact ⟨ad, cap, rfl, hcap, fun i x hx => by obtain ⟨b, off, e, hK, h0, h1⟩ := hc i x hx; exact ⟨b, off, e, hK, carry hW h0, carry hW h1⟩⟩
def SplPost (S : Nat → Bool) (K : Nat → Prop) (A k : Nat) (W : World) : Ending → World → Prop := fun e w' => ∃ v1 v2 l1 l2, e = .returned (.tuple #[v1, v2]) ∧ RdK K w' v1 l1 ∧ RdK K w' v2 l2 ∧ GL S A k l1 ∧ GL S (A + 2 ^ k) k l2 ∧ Below W.heap.size W w'
theorem spl_any (S : Nat → Bool) (K : Nat → Prop) (A k : Nat) (l : List PP) (v : Value) (W : World) (hk : k + 1 ≤ 32) (ha : A % 2 ^ (k + 1) = 0) (htop : A + 2 ^ (k + 1) ≤ 4294967296) (h : GL S A (k + 1) l) (hrW : RdK K W v l) (n : Int) (hn : n = ((32 - (k + 1) : Nat) : Int)) :
    Calls Try.prog 107 #[v, .agg #[.int .u32 (A : Int), .int .i64 n], .agg #[.int .u32 ((A + 2 ^ k : Nat) : Int), .int .i64 (n + 1)]] W (SplPost S K A k W) := by
  have hp := CM.pow_pos' k
  have e2 : 2 ^ (k + 1) = 2 ^ k + 2 ^ k := by rw [Nat.pow_succ]; omega
  have hpf : pfx (A, k + 1) = (A, n) := by unfold pfx; rw [hn]
  have hpf2 : pfx (A + 2 ^ k, k) = (A + 2 ^ k, n + 1) := by unfold pfx; refine Prod.ext rfl ?_; dsimp only; omega
  have hI : I64 n := by constructor <;> omega
  have hU : ∀ W', Below W.heap.size W W' → Calls Try.prog 106 #[v, .agg #[.int .u32 (A : Int), .int .i64 n]] W' fun e w' => e = .returned (.bool (uniB l (pfx (A, k + 1)))) ∧ Below W'.heap.size W' w' := fun W' hW' => by
    rw [hpf]; exact uni_any l v (A, n) ⟨by show A < _; omega, hI⟩ h.val W' (hrW.rd.below hW')
  rcases h.uni hk ha with ⟨hu, hcase⟩ | ⟨hu, hne, hl, hsm⟩
  · rw [hu] at hU
    refine (split_true v (A, n) (A + 2 ^ k, n + 1) W hU).mono ?_
    rintro e w' ⟨rfl, hb⟩
    have hlow := h.inv.low (by
      cases l with
      | nil => exact .inl rfl
      | cons p q =>
        refine .inr ⟨blk p, q.map blk, rfl, ?_⟩
        have := C_blk (show C p (pfx (A, k + 1)) = true from hu)
        rwa [blk_pfx (x := (A, k + 1)) hk] at this)
    exact ⟨v, v, l, l, rfl, hrW.below hb, hrW.below hb, ⟨h.len, h.val, h.asc, hlow.1⟩, ⟨h.len, h.val, h.asc, hlow.2⟩, hb⟩
  · rw [hu] at hU
    refine (split_false K l v (A, n) (A + 2 ^ k, n + 1) W h.len h.asc hrW hne hU).mono ?_
    rintro e w' ⟨v1, v2, i, rfl, hr1, hr2, hI, hb⟩
    have hap : l.map blk = (l.take i).map blk ++ (l.drop i).map blk := by rw [← List.map_append, List.take_append_drop]
    have hsp := CM.Lies.split (l := (l.take i).map blk) (m := (l.drop i).map blk) ha (by rw [← hap]; exact hl) (by rw [← hap]; exact hsm)
      (fun x hx => by
        obtain ⟨p, hp, rfl⟩ := List.mem_map.1 hx
        have := (ltB_blk (h.val p (List.mem_of_mem_take hp)).2 (V_pfx (x := (A + 2 ^ k, k)) (by dsimp only; omega) (by dsimp only; rw [Nat.add_mod_right]; exact CM.mod_of_le (Nat.le_succ k) ha))).2 (by rw [hpf2]; exact hI.2.2.1 p hp)
        rwa [blk_pfx (x := (A + 2 ^ k, k)) (by dsimp only; omega)] at this)
      (fun x hx hlt => by
        obtain ⟨p, hp, rfl⟩ := List.mem_map.1 hx
        refine hI.2.2.2 p hp ?_
        rw [← hpf2]
        refine (ltB_blk (h.val p (List.mem_of_mem_drop hp)).2 (V_pfx (x := (A + 2 ^ k, k)) (by dsimp only; omega) (by dsimp only; rw [Nat.add_mod_right]; exact CM.mod_of_le (Nat.le_succ k) ha))).1 ?_
        rw [blk_pfx (x := (A + 2 ^ k, k)) (by dsimp only; omega)]; exact hlt)
    have hl1 := List.length_take_le i l
    exact ⟨v1, v2, _, _, rfl, hr1.below hb, hr2.below hb,
      ⟨by have := h.len; have := hI.2.1; rw [List.length_take]; omega, fun x hx => h.val x (List.mem_of_mem_take hx), h.asc.sublist (List.take_sublist _ _), hsp.1⟩,
      ⟨by have := h.len; rw [List.length_drop]; omega, fun x hx => h.val x (List.mem_of_mem_drop hx), h.asc.sublist (List.drop_sublist _ _), hsp.2⟩, hb⟩
/-- the last two of the result are the halves if and only if each half's list is that half -/
theorem tail_halves {S : Nat → Bool} {A k : Nat} {L : List PP} {l m : List (Nat × Nat)} (hl : CM.NrmB S k A l) (hm : CM.NrmB S k (A + 2 ^ k) m) (hk : k ≤ 32) (hL : ∀ x ∈ L, (blk x).1 + 2 ^ (blk x).2 ≤ A) {N : Nat} (hN : N = (L ++ l.map pfx ++ m.map pfx).length) (h2 : 2 ≤ N)
    (h0 : (L ++ l.map pfx ++ m.map pfx)[N - 2]? = some (pfx (A, k))) (h1 : (L ++ l.map pfx ++ m.map pfx)[N - 1]? = some (pfx (A + 2 ^ k, k))) : l = [(A, k)] ∧ m = [(A + 2 ^ k, k)] := by
  have hp := CM.pow_pos' k
  have bl : blk (pfx (A, k)) = (A, k) := blk_pfx hk
  have bh : blk (pfx (A + 2 ^ k, k)) = (A + 2 ^ k, k) := blk_pfx hk
  have hX : (L ++ l.map pfx ++ m.map pfx).getLast? = some (pfx (A + 2 ^ k, k)) := by rw [List.getLast?_eq_getElem?, ← hN]; exact h1
  have hm1 : m = [(A + 2 ^ k, k)] := by
    rcases List.eq_nil_or_concat m with rfl | ⟨m', z, rfl⟩
    · exfalso
      have hmem := List.mem_of_getElem? h1
      simp only [List.map_nil, List.append_nil] at hmem
      rcases List.mem_append.1 hmem with hx | hx
      · have := hL _ hx; rw [bh] at this; dsimp only at this; omega
      · obtain ⟨y, hy, he⟩ := List.mem_map.1 hx
        have hwi := hl.wi y hy
        have := congrArg blk he
        rw [blk_pfx (Nat.le_trans (hl.le y hy) hk), bh] at this
        rw [this] at hwi; dsimp only at hwi; omega
    · rw [List.concat_eq_append] at *
      rw [List.map_append, ← List.append_assoc, List.map_cons, List.map_nil, List.getLast?_concat] at hX
      have hz := congrArg blk (Option.some.inj hX)
      have hzm : z ∈ m' ++ [z] := by simp
      rw [blk_pfx (Nat.le_trans (hm.le z hzm) hk), bh] at hz
      exact hm.single hzm (by rw [hz])
  refine ⟨?_, hm1⟩
  subst hm1
  have hN2 : N = (L ++ l.map pfx).length + 1 := by rw [hN]; simp; omega
  have hY : (L ++ l.map pfx).getLast? = some (pfx (A, k)) := by
    have e := h0
    rw [List.getElem?_append_left (show N - 2 < (L ++ l.map pfx).length by omega)] at e
    rw [List.getLast?_eq_getElem?, ← e, hN2]
    rfl
  rcases List.eq_nil_or_concat l with rfl | ⟨l', z, rfl⟩
  · exfalso
    simp only [List.map_nil, List.append_nil] at hY
    have := hL _ (List.mem_of_getLast? hY)
    rw [bl] at this; dsimp only at this; omega
  · rw [List.concat_eq_append] at *
    rw [List.map_append, ← List.append_assoc, List.map_cons, List.map_nil, List.getLast?_concat] at hY
    have hz := congrArg blk (Option.some.inj hY)
    have hzm : z ∈ l' ++ [z] := by simp
    rw [blk_pfx (Nat.le_trans (hl.le z hzm) hk), bl] at hz
    exact hl.single hzm (by rw [hz])
end Go.Proofs.Ytegponbmelgngaa
end
