/-
  The reference's merging as mathematics; the walk of what lies outside of intervals.
  The walk of the reference's both, as far as merging.
-/
import Derived.Test.YtegponbmelgngaaMgCi
section
namespace Go.Proofs.Ytegponbmelgngaa
open Go.RowKit
set_option linter.unusedSimpArgs false
set_option linter.unusedVariables false
set_option maxHeartbeats 4000000
set_option maxRecDepth 100000

/-- the set that intervals in any order make up -/
def ivs (l : List (Nat × Nat)) (y : Nat) : Bool := l.any fun x => decide (x.1 ≤ y) && decide (y < x.2)
theorem ivs_iff (l : List (Nat × Nat)) (y : Nat) : ivs l y = true ↔ ∃ x ∈ l, x.1 ≤ y ∧ y < x.2 := by
  unfold ivs; simp
theorem ivs_append (l m : List (Nat × Nat)) (y : Nat) : ivs (l ++ m) y = (ivs l y || ivs m y) := by unfold ivs; rw [List.any_append]
theorem ivs_one (x : Nat × Nat) (y : Nat) : ivs [x] y = (decide (x.1 ≤ y) && decide (y < x.2)) := by unfold ivs; simp
theorem Sep.ivs_eq {S : Nat → Bool} {l : List (Nat × Nat)} (h : CM.Sep S l) : S = ivs l := funext fun y => Bool.eq_iff_iff.2 ((h.mem y).trans (ivs_iff l y).symm)
/-- where the merging is: out is apart and ascending, all that is left begins at or behind all beginnings of out -/
structure MInv (T : Nat → Bool) (R O : List (Nat × Nat)) : Prop where
  sep : CM.Sep (ivs O) O
  lo : ∀ x ∈ O, ∀ r ∈ R, x.1 ≤ r.1
  set : ∀ y, T y = (ivs O y || ivs R y)
  hi : ∀ x ∈ O, x.2 ≤ 4294967296
  hr : ∀ x ∈ R, x.2 ≤ 4294967296
theorem sep_nil : CM.Sep (ivs []) [] := ⟨List.Pairwise.nil, fun x hx => (by cases hx), fun y => by rw [ivs_iff]⟩
theorem MInv.start {l : List (Nat × Nat)} (h : ∀ x ∈ l, x.2 ≤ 4294967296) : MInv (ivs l) l [] :=
  ⟨sep_nil, fun x hx => (by cases hx), fun y => by simp [ivs], fun x hx => (by cases hx), h⟩
theorem MInv.done {T : Nat → Bool} {O : List (Nat × Nat)} (h : MInv T [] O) : CM.Sep T O := by
  have e : T = ivs O := funext fun y => by rw [h.set y]; simp [ivs]
  exact e ▸ h.sep
theorem mstep_hi {l : List (Nat × Nat)} {s : Nat × Nat} {N : Nat} (h : ∀ x ∈ l, x.2 ≤ N) (hs : s.2 ≤ N) : ∀ x ∈ CM.mstep l s, x.2 ≤ N := by
  unfold CM.mstep
  rcases List.eq_nil_or_concat l with rfl | ⟨i, t, rfl⟩
  · simp only [List.getLast?_nil]
    split
    · intro x hx; rw [List.mem_singleton] at hx; subst hx; exact hs
    · intro x hx; cases hx
  · rw [List.concat_eq_append] at h ⊢
    rw [List.getLast?_concat, List.dropLast_concat]
    have ht := h t (by simp)
    dsimp only
    split
    · intro x hx
      rcases List.mem_append.1 hx with hx | hx
      · exact h x (by simp [hx])
      · rw [List.mem_singleton] at hx; subst hx; dsimp only; omega
    · split
      · intro x hx
        rcases List.mem_append.1 hx with hx | hx
        · exact h x hx
        · rw [List.mem_singleton] at hx; subst hx; exact hs
      · exact h
/-- the least beginning is taken, what is left over is the list without it -/
theorem MInv.step {T : Nat → Bool} {R O : List (Nat × Nat)} (h : MInv T R O) {b : Nat} {s : Nat × Nat} (hb : R[b]? = some s) (hmin : ∀ r ∈ R, s.1 ≤ r.1) : MInv T (R.take b ++ R.drop (b + 1)) (CM.mstep O s) := by
  have hs := List.mem_of_getElem? hb
  have hO := h.sep.step (s := s) fun x hx => h.lo x hx s hs
  have e := Sep.ivs_eq hO
  have hR : R = R.take b ++ (s :: R.drop (b + 1)) := by rw [← drop_cons hb, List.take_append_drop]
  have hsub : ∀ r, r ∈ R.take b ++ R.drop (b + 1) → r ∈ R := fun r hr => by
    rcases List.mem_append.1 hr with hr | hr
    · exact List.mem_of_mem_take hr
    · exact List.mem_of_mem_drop hr
  refine ⟨e ▸ hO, fun x hx r hr => ?_, fun y => ?_, mstep_hi h.hi (h.hr s hs), fun x hx => h.hr x (hsub x hx)⟩
  · have h1 := CM.mstep_lo (s := s) (fun x hx => h.lo x hx s hs) x hx
    have := hmin r (hsub r hr)
    omega
  · rw [h.set y, ← e]
    conv => lhs; rw [hR]
    rw [ivs_append, ivs_append, show s :: R.drop (b + 1) = [s] ++ R.drop (b + 1) from rfl, ivs_append, ivs_one]
    dsimp only
    cases ivs O y <;> cases ivs (R.take b) y <;> cases ivs (R.drop (b + 1)) y <;> cases decide (s.1 ≤ y) <;> cases decide (y < s.2) <;> rfl
/-- the least beginning up to k -/
def Least (l : List (Nat × Nat)) (k b : Nat) : Prop := ∃ s, l[b]? = some s ∧ ∀ r ∈ l.take k, s.1 ≤ r.1
theorem take_snocW {l : List (Nat × Nat)} {k : Nat} {x : Nat × Nat} (h : l[k]? = some x) : l.take (k + 1) = l.take k ++ [x] := by
  rw [List.take_add_one, h]; rfl
theorem least_start {l : List (Nat × Nat)} (h : 0 < l.length) : Least l 0 0 := ⟨_, List.getElem?_eq_getElem h, fun r hr => (by simp at hr)⟩
theorem least_new {l : List (Nat × Nat)} {k b : Nat} {x s : Nat × Nat} (h : Least l k b) (hx : l[k]? = some x) (hs : l[b]? = some s) (hlt : x.1 < s.1) : Least l (k + 1) k := by
  obtain ⟨s', h1, h2⟩ := h
  rw [hs] at h1; cases h1
  refine ⟨x, hx, fun r hr => ?_⟩
  rw [take_snocW hx] at hr
  rcases List.mem_append.1 hr with hr | hr
  · have := h2 r hr; omega
  · rw [List.mem_singleton] at hr; subst hr; exact Nat.le_refl _
theorem least_old {l : List (Nat × Nat)} {k b : Nat} {x s : Nat × Nat} (h : Least l k b) (hx : l[k]? = some x) (hs : l[b]? = some s) (hge : ¬ x.1 < s.1) : Least l (k + 1) b := by
  obtain ⟨s', h1, h2⟩ := h
  rw [hs] at h1; cases h1
  refine ⟨s, hs, fun r hr => ?_⟩
  rw [take_snocW hx] at hr
  rcases List.mem_append.1 hr with hr | hr
  · exact h2 r hr
  · rw [List.mem_singleton] at hr; subst hr; omega
/-- the intervals outside -/
structure Gaps (S : Nat → Bool) (l : List (Nat × Nat)) (k lo : Nat) (O : List (Nat × Nat)) : Prop where
  sep : CM.Sep (fun y => decide (y < lo) && !S y) O
  hi : ∀ x ∈ O, x.2 < lo
  ge : ∀ x ∈ l.drop k, lo ≤ x.1
  rest : ∀ y, lo ≤ y → S y = true → ∃ x ∈ l.drop k, x.1 ≤ y ∧ y < x.2
  first : k = 0 → O = []
  cnt : O.length ≤ k
theorem gaps_start {S : Nat → Bool} {l : List (Nat × Nat)} (h : CM.Sep S l) : Gaps S l 0 0 [] :=
  ⟨⟨List.Pairwise.nil, fun x hx => (by cases hx), fun y => by simp⟩, fun x hx => (by cases hx), fun _ _ => Nat.zero_le _, fun y _ hy => (h.mem y).1 hy, fun _ => rfl, Nat.le_refl _⟩
theorem sep_snoc {S T : Nat → Bool} {O : List (Nat × Nat)} {a b : Nat} (h : CM.Sep S O) (h1 : ∀ x ∈ O, x.2 < a) (hab : a < b) (e : ∀ y, T y = true ↔ S y = true ∨ (a ≤ y ∧ y < b)) : CM.Sep T (O ++ [(a, b)]) := by
  refine ⟨?_, ?_, ?_⟩
  · rw [List.pairwise_append]
    refine ⟨h.asc, List.pairwise_singleton _ _, fun x hx y hy => ?_⟩
    rw [List.mem_singleton] at hy; subst hy; exact h1 x hx
  · intro x hx
    rcases List.mem_append.1 hx with hx | hx
    · exact h.ne x hx
    · rw [List.mem_singleton] at hx; subst hx; exact hab
  · intro y
    rw [e, h.mem]
    constructor
    · rintro (⟨x, hx, g⟩ | g)
      · exact ⟨x, by simp [hx], g⟩
      · exact ⟨(a, b), by simp, g⟩
    · rintro ⟨x, hx, g⟩
      rcases List.mem_append.1 hx with hx | hx
      · exact .inl ⟨x, hx, g⟩
      · rw [List.mem_singleton] at hx; subst hx; exact .inr g
theorem gaps_rest {S : Nat → Bool} {l : List (Nat × Nat)} (h : CM.Sep S l) {k lo : Nat} {O : List (Nat × Nat)} {x : Nat × Nat} (hG : Gaps S l k lo O) (hx : l[k]? = some x) :
    x.1 < x.2 ∧ lo ≤ x.1 ∧ (∀ y, lo ≤ y → y < x.1 → S y = false) ∧ (∀ y, x.1 ≤ y → y < x.2 → S y = true) ∧ (∀ z ∈ l.drop (k + 1), x.2 < z.1) ∧ ∀ y, x.2 ≤ y → S y = true → ∃ z ∈ l.drop (k + 1), z.1 ≤ y ∧ y < z.2 := by
  have e := drop_cons hx
  have hm := List.mem_of_getElem? hx
  have hp : (x :: l.drop (k + 1)).Pairwise (fun x y => x.2 < y.1) := e ▸ h.asc.sublist (List.drop_sublist k l)
  obtain ⟨p1, p2⟩ := List.pairwise_cons.1 hp
  have hne := h.ne x hm
  have hlo := hG.ge x (by rw [e]; simp)
  refine ⟨hne, hlo, fun y h1 h2 => Bool.eq_false_iff.2 fun hy => ?_, fun y h1 h2 => (h.mem y).2 ⟨x, hm, h1, h2⟩, p1, fun y h1 hy => ?_⟩
  · obtain ⟨z, hz, g1, g2⟩ := hG.rest y h1 hy
    rw [e] at hz
    rcases List.mem_cons.1 hz with rfl | hz
    · omega
    · have := p1 z hz; omega
  · obtain ⟨z, hz, g1, g2⟩ := hG.rest y (by omega) hy
    rw [e] at hz
    rcases List.mem_cons.1 hz with rfl | hz
    · omega
    · exact ⟨z, hz, g1, g2⟩
theorem gaps_set {S : Nat → Bool} {lo a b : Nat} (h1 : lo ≤ a) (h2 : ∀ y, lo ≤ y → y < a → S y = false) (h3 : ∀ y, a ≤ y → y < b → S y = true) (hab : a ≤ b) (y : Nat) :
    (decide (y < b) && !S y) = true ↔ (decide (y < lo) && !S y) = true ∨ (lo ≤ y ∧ y < a) := by
  simp only [Bool.and_eq_true, decide_eq_true_iff, Bool.not_eq_true']
  constructor
  · rintro ⟨g1, g2⟩
    by_cases c : y < lo
    · exact .inl ⟨c, g2⟩
    · refine .inr ⟨by omega, Nat.lt_of_not_le fun hle => ?_⟩
      have := h3 y hle g1; rw [g2] at this; cases this
  · rintro (⟨g1, g2⟩ | ⟨g1, g2⟩)
    · exact ⟨by omega, g2⟩
    · exact ⟨by omega, h2 y g1 g2⟩
theorem gaps_more {S : Nat → Bool} {l : List (Nat × Nat)} (h : CM.Sep S l) {k lo : Nat} {O : List (Nat × Nat)} {x : Nat × Nat} (hG : Gaps S l k lo O) (hx : l[k]? = some x) (hlt : lo < x.1) : Gaps S l (k + 1) x.2 (O ++ [(lo, x.1)]) := by
  obtain ⟨a, b, c, d, e, f⟩ := gaps_rest h hG hx
  refine ⟨sep_snoc hG.sep hG.hi hlt (gaps_set b c d (by omega)), fun z hz => ?_, fun z hz => Nat.le_of_lt (e z hz), f, fun h => by omega, by have := hG.cnt; simp; omega⟩
  rcases List.mem_append.1 hz with hz | hz
  · have := hG.hi z hz; omega
  · rw [List.mem_singleton] at hz; subst hz; exact a
theorem gaps_skip {S : Nat → Bool} {l : List (Nat × Nat)} (h : CM.Sep S l) {k lo : Nat} {O : List (Nat × Nat)} {x : Nat × Nat} (hG : Gaps S l k lo O) (hx : l[k]? = some x) (hge : ¬ lo < x.1) : Gaps S l (k + 1) x.2 O := by
  obtain ⟨a, b, c, d, e, f⟩ := gaps_rest h hG hx
  refine ⟨⟨hG.sep.asc, hG.sep.ne, fun y => ?_⟩, fun z hz => by have := hG.hi z hz; omega, fun z hz => Nat.le_of_lt (e z hz), f, fun h => by omega, by have := hG.cnt; omega⟩
  rw [gaps_set b c d (by omega) y, ← hG.sep.mem y]
  constructor
  · rintro (g | g)
    · exact g
    · omega
  · exact .inl
theorem gaps_done {S : Nat → Bool} {l : List (Nat × Nat)} {lo : Nat} {O : List (Nat × Nat)} (hG : Gaps S l l.length lo O) (hlt : lo < 4294967296) : CM.Sep (fun y => decide (y < 4294967296) && !S y) (O ++ [(lo, 4294967296)]) := by
  refine sep_snoc hG.sep hG.hi hlt fun y => ?_
  have hf : lo ≤ y → S y = false := fun hy => Bool.eq_false_iff.2 fun hs => by
    obtain ⟨z, hz, _⟩ := hG.rest y hy hs
    rw [List.drop_length] at hz; cases hz
  exact gaps_set (Nat.le_of_lt hlt) (fun y h1 _ => Bool.eq_false_iff.2 fun hs => by
    obtain ⟨z, hz, _⟩ := hG.rest y h1 hs
    rw [List.drop_length] at hz; cases hz) (fun y h1 h2 => by omega) (Nat.le_refl _) y
theorem rdQ_slice {w : World} {v : Value} {l : List (Nat × Nat)} (h : RdQ w v l) : ∃ ad cap, v = .slice ad l.length cap := by
  obtain ⟨ad, cap, e, _⟩ := h; exact ⟨ad, cap, e⟩
theorem encQ_top (a : Nat) : encQ (a, 4294967296) = [.int .u64 (a : Int), .int .u64 4294967296] := by simp [encQ]
theorem one_top (a : Nat) : ∀ u ∈ [Value.int .u64 (a : Int), .int .u64 4294967296], u.oneCell' = true := by
  intro u hu; simp at hu; rcases hu with rfl | rfl <;> rfl
theorem one_topQ (a : Nat) (t : Int) : ∀ u ∈ [Value.int .u64 (a : Int), .int .u64 t], u.oneCell' = true := by
  intro u hu; simp at hu; rcases hu with rfl | rfl <;> rfl
theorem outside_any (S : Nat → Bool) (l : List (Nat × Nat)) (v : Value) (w : World) (hS : CM.Sep S l) (hhi : ∀ x ∈ l, x.2 ≤ 4294967296) (hl : l.length ≤ 4294967296) (hr : RdQ w v l) :
    Calls Try.prog 71 #[v] w fun e w' => ∃ v' O, e = .returned v' ∧ CM.Sep (fun y => decide (y < 4294967296) && !S y) O ∧ (∀ x ∈ O, x.2 ≤ 4294967296) ∧ O.length ≤ l.length + 1 ∧ RdQ w' v' O ∧ Below w.heap.size w w' := by
  obtain ⟨i0, hi, hz0, hz1, hz2⟩ := infoP_parts info74
  obtain ⟨ad, cap, rfl, hc⟩ := hr
  have HC := Lib.hid hc
  have HS := Lib.hid hS
  have HH := Lib.hid hhi
  clear hc hS hhi
  go_enter Try.func71, Try.ntmps71
  go_wp2
  go_loopg [9, 3, 4] l.length (fun g s9 s3 s4 wr => ∃ (k lo : Nat) (O : List (Nat × Nat)) (v3 : Value), k ≤ l.length ∧ l.length - k ≤ g ∧ s9 = .int .i64 k ∧ v3 = s3 ∧ s4 = .int .u64 lo ∧ lo ≤ 4294967296 ∧ Hid (Below w.heap.size w wr ∧ wr.ownsRow w.heap.size 74 2 v3 O.length (flatQ O) ∧ Gaps S l k lo O))
  case atStart => exact ⟨0, 0, [], _, by omega, by omega, rfl, rfl, rfl, by omega, Below.refl _ _, World.ownsRow_nil _ _ _ _, gaps_start HS.out⟩
  case round =>
    obtain ⟨k, lo, O, v3, hk, hg, rfl, rfl, rfl, hlo, HB⟩ := hrel
    obtain ⟨adv, capv, hvf⟩ := rdQ_slice (rdQ_own HB.out.2.1)
    subst hvf
    have hOl := HB.out.2.2.cnt
    have hws := HB.out.1.size
    by_cases hlt : k < l.length
    · obtain ⟨x, hx⟩ : ∃ x, l[k]? = some x := ⟨_, List.getElem?_eq_getElem hlt⟩
      obtain ⟨blk', off', rfl, hblk, hc0, hc1⟩ := HC.out k x hx
      have f0 := carryB HB.out.1 hblk hc0
      have f1 := carryB HB.out.1 hblk hc1
      have HX := Lib.hid hx
      have hm := List.mem_of_getElem? hx
      have hxn := HS.out.ne x hm
      have hxh := HH.out x hm
      have R0 := Lib.hid HB.out.2.1
      have G0 := Lib.hid HB.out.2.2
      have D0 := Lib.hid HB.out.1
      obtain ⟨a, hiw⟩ := x
      dsimp only at f0 f1 hxn hxh
      clear hc0 hc1 hx hm HB
      by_cases hla : lo < a
      · have GM := Lib.hid (gaps_more HS.out G0.out HX.out hla)
        dsimp only at GM
        have R1 := Lib.hid (ownP_below R0.out (below_alloc wr (.cells #[.int .u64 (a : Int), .int .u64 (hiw : Int)] 74)))
        have NE : Hid ((Value.slice adv O.length capv).ownBlock ≠ some wr.heap.size) := fun e => by have := (ownP_lt R0.out e).2; omega
        have g0 : Hid ((wr.alloc (.cells #[.int .u64 (a : Int), .int .u64 (hiw : Int)] 74)).heap[wr.heap.size]? = some (.cells #[.int .u64 (a : Int), .int .u64 (hiw : Int)] 74 (0, 0))) := heap_alloc_new _ _
        have hzz : (wr.alloc (.cells #[.int .u64 (a : Int), .int .u64 (hiw : Int)] 74)).heap.size = wr.heap.size + 1 := by simp
        go_wp2_with (at_builtin; refine wpList_append_lies _ rfl (.tmp 17) (.tmp 22) 71 rfl w.heap.size 74 i0 (.agg #[.int .u64 0, .int .u64 0]) 2 16 Try.underlying71 hi hz0 hz1 hz2 rfl (by decide) (.slice adv O.length capv) O.length (flatQ O) rfl (ownP_below R1.out (below_alloc _ _)) ⟨wr.heap.size + 1, 0, none⟩ 1 1 [.int .u64 (lo : Int), .int .u64 (a : Int)] rfl rfl (cellP_two_new _ _ _ _ (by simp)) (one_twoQ _ _) (by decide) (by unfold maxLen; omega) (by omega) (by simp; omega) (wr.heap.size + 1 + 1) (by simp) ?_; intro g cp w4 hown4 hgrow4 hat4 hlt4; have G := Lib.hid (And.intro hown4 (And.intro hgrow4 hat4)); have hz4 := (hgrow4.block wr.heap.size (by simp; omega) (fun e => NE.out e.symm)).trans ((Below.heap_alloc _ _ _ (by simp)).trans g0.out); have c1 : w4.cell? ⟨wr.heap.size, 1, none⟩ = some (.int .u64 (hiw : Int)) := (by simp [World.cell?, hz4]); clear hown4 hgrow4 hat4 hz4)
        go_roundg (l.length - (k + 1))
        case measure => omega
        case rel =>
          obtain ⟨r1, r2, r3⟩ := G.out
          refine ⟨k + 1, hiw, O ++ [(lo, a)], _, by omega, Nat.le_refl _, by rw [Int.natCast_add]; rfl, rfl, rfl, hxh, ?_, ?_, GM.out⟩
          · exact Below.grown ((D0.out.alloc hws _).alloc (by simp; omega) _) r2 (by simp; omega) (fun j hj => (ownP_lt R0.out hj).1)
          · rw [flatQ_snoc, List.length_append]; exact r1
      · have GM := Lib.hid (gaps_skip HS.out G0.out HX.out hla)
        dsimp only at GM
        go_wp2
        go_roundg (l.length - (k + 1))
        case measure => omega
        case rel =>
          exact ⟨k + 1, hiw, O, _, by omega, Nat.le_refl _, by rw [Int.natCast_add]; rfl, rfl, rfl, hxh, D0.out.alloc hws _, ownP_below R0.out (below_alloc _ _), GM.out⟩
    · obtain rfl : k = l.length := by omega
      have GD := Lib.hid HB.out.2.2
      have R0 := Lib.hid HB.out.2.1
      have D0 := Lib.hid HB.out.1
      clear HB
      by_cases hll : lo < 4294967296
      · have hd : decide ((lo : Int) < 4294967296) = true := decide_eq_true (by omega)
        have HL := Lib.hid hl
        have HO := Lib.hid hlo
        have HI := Lib.hid hll
        have HK := Lib.hid hOl
        clear hl hlo hll hOl hlt hk hg
        obtain ⟨TOP, hTOP⟩ : ∃ T : Int, T = 4294967296 := ⟨_, rfl⟩
        go_upto_region 11 with (fail)
        rw [← hTOP]
        clear hd
        have HT := Lib.hid hTOP
        clear hTOP
        go_wp2_with (at_builtin; go_loud (refine wpList_append_lies _ rfl (.tmp 29) (.tmp 32) 71 rfl w.heap.size 74 i0 (.agg #[.int .u64 0, .int .u64 0]) 2 16 Try.underlying71 hi hz0 hz1 hz2 rfl (by decide) (.slice adv O.length capv) O.length (flatQ O) rfl (ownP_below R0.out (below_alloc _ _)) ⟨wr.heap.size, 0, none⟩ 1 1 [.int .u64 (lo : Int), .int .u64 TOP] rfl rfl (cellP_two_new _ _ _ _ (by simp)) (one_topQ lo TOP) (by decide) (by have := HL.out; have := HK.out; unfold maxLen; omega) (by have h1 := HL.out; have h2 := HK.out; omega) (by simp; omega) (wr.heap.size + 1) (by simp) ?_; intro g cp w4 hown4 hgrow4 hat4 hlt4; have G := Lib.hid (And.intro hown4 (And.intro hgrow4 hat4)); clear hown4 hgrow4 hat4))
        go_ret
        obtain ⟨r1, r2, r3⟩ := G.out
        have hTOP := HT.out
        subst hTOP
        have hl := HL.out
        have hlo := HO.out
        have hOl := HK.out
        refine ⟨_, O ++ [(lo, 4294967296)], rfl, gaps_done GD.out HI.out, fun x hx => ?_, by simp; omega, rdQ_own (B := w.heap.size) ?_, Below.grown (D0.out.alloc hws _) r2 (by simp; omega) (fun j hj => (ownP_lt R0.out hj).1)⟩
        · rcases List.mem_append.1 hx with hx | hx
          · have := GD.out.hi x hx; omega
          · rw [List.mem_singleton] at hx; subst hx; exact Nat.le_refl _
        · rw [flatQ_snoc, List.length_append, encQ_top]; exact r1
      · have hlo2 : 4294967296 ≤ lo := by omega
        have GE : Hid (CM.Sep (fun y => decide (y < 4294967296) && !S y) O) := by
          have e : lo = 4294967296 := by omega
          have := GD.out.sep
          rwa [e] at this
        have hd : decide ((lo : Int) < 4294967296) = false := decide_eq_false (by omega)
        have HL := Lib.hid hl
        have HO := Lib.hid hlo
        have HI := Lib.hid hll
        have HK := Lib.hid hOl
        clear hl hlo hll hOl hlt hk hg hlo2
        go_wp2
        go_ret
        exact ⟨_, O, rfl, GE.out, fun x hx => by have := GD.out.hi x hx; have := HO.out; omega, by have := HK.out; omega, rdQ_own R0.out, D0.out⟩
end Go.Proofs.Ytegponbmelgngaa
end

section
namespace Go.Proofs.Ytegponbmelgngaa
open Go.RowKit
set_option linter.unusedSimpArgs false
set_option linter.unusedVariables false
set_option maxHeartbeats 4000000
set_option maxRecDepth 100000

/-- what merging is to do -/
def MergedC : Prop := ∀ (l : List (Nat × Nat)) (v : Value) (W : World), (∀ x ∈ l, x.2 ≤ 4294967296) → l.length ≤ 4294967296 → RdQ W v l →
    Calls Try.prog 104 #[v] W fun e w' => ∃ v' O, e = .returned v' ∧ CM.Sep (ivs l) O ∧ (∀ x ∈ O, x.2 ≤ 4294967296) ∧ O.length ≤ l.length ∧ RdQ w' v' O ∧ Below W.heap.size W w'
def meetQ (x y : Nat × Nat) : Nat × Nat := (max x.1 y.1, min x.2 y.2)
theorem meet_in (x y : Nat × Nat) (z : Nat) : (decide ((meetQ x y).1 ≤ z) && decide (z < (meetQ x y).2)) = ((decide (x.1 ≤ z) && decide (z < x.2)) && (decide (y.1 ≤ z) && decide (z < y.2))) := by
  unfold meetQ
  rw [Bool.eq_iff_iff]
  simp only [Bool.and_eq_true, decide_eq_true_iff]
  omega
def inQ (x : Nat × Nat) (z : Nat) : Bool := decide (x.1 ≤ z) && decide (z < x.2)
/-- what both has gathered: all before k, and x with those before j -/
structure Met (a b : List (Nat × Nat)) (k j : Nat) (x : Nat × Nat) (O : List (Nat × Nat)) : Prop where
  set : ∀ z, ivs O z = ((ivs (a.take k) z && ivs b z) || (inQ x z && ivs (b.take j) z))
  hi : ∀ y ∈ O, y.2 ≤ 4294967296
  cnt : O.length ≤ k * b.length + j
theorem met_start (a b : List (Nat × Nat)) (x : Nat × Nat) : Met a b 0 0 x [] := ⟨fun z => by simp [ivs], fun y hy => (by cases hy), Nat.zero_le _⟩
theorem met_other {a b : List (Nat × Nat)} {k : Nat} {x x' : Nat × Nat} {O : List (Nat × Nat)} (h : Met a b k 0 x O) : Met a b k 0 x' O :=
  ⟨fun z => by rw [h.set z]; simp [ivs], h.hi, h.cnt⟩
theorem met_next {a b : List (Nat × Nat)} {k : Nat} {x : Nat × Nat} {O : List (Nat × Nat)} (h : Met a b k b.length x O) (hx : a[k]? = some x) : Met a b (k + 1) 0 x O :=
  ⟨fun z => by
    rw [h.set z, take_snocW hx, ivs_append, ivs_one, List.take_length]
    unfold inQ
    cases ivs (a.take k) z <;> cases ivs b z <;> cases decide (x.1 ≤ z) <;> cases decide (z < x.2) <;> simp [ivs], h.hi, by have := h.cnt; rw [Nat.succ_mul]; omega⟩
theorem met_more {a b : List (Nat × Nat)} {k j : Nat} {x y : Nat × Nat} {O : List (Nat × Nat)} (h : Met a b k j x O) (hy : b[j]? = some y) (hx : x.2 ≤ 4294967296) : Met a b k (j + 1) x (O ++ [meetQ x y]) :=
  ⟨fun z => by
    rw [ivs_append, ivs_one, h.set z, take_snocW hy, ivs_append, ivs_one, meet_in]
    unfold inQ
    cases ivs (a.take k) z <;> cases ivs b z <;> cases decide (x.1 ≤ z) <;> cases decide (z < x.2) <;> cases ivs (b.take j) z <;> cases decide (y.1 ≤ z) <;> cases decide (z < y.2) <;> rfl,
   fun u hu => by
    rcases List.mem_append.1 hu with hu | hu
    · exact h.hi u hu
    · rw [List.mem_singleton] at hu; subst hu; unfold meetQ; dsimp only; omega, by have := h.cnt; simp; omega⟩
theorem met_skip {a b : List (Nat × Nat)} {k j : Nat} {x y : Nat × Nat} {O : List (Nat × Nat)} (h : Met a b k j x O) (hy : b[j]? = some y) (hn : ¬ (meetQ x y).1 < (meetQ x y).2) : Met a b k (j + 1) x O :=
  ⟨fun z => by
    have e : (decide ((meetQ x y).1 ≤ z) && decide (z < (meetQ x y).2)) = false := by
      rw [Bool.eq_false_iff]; simp only [ne_eq, Bool.and_eq_true, decide_eq_true_iff]; omega
    rw [meet_in] at e
    rw [h.set z, take_snocW hy, ivs_append, ivs_one]
    unfold inQ
    revert e
    cases ivs (a.take k) z <;> cases ivs b z <;> cases decide (x.1 ≤ z) <;> cases decide (z < x.2) <;> cases ivs (b.take j) z <;> cases decide (y.1 ≤ z) <;> cases decide (z < y.2) <;> simp,
   h.hi, by have := h.cnt; omega⟩
theorem both_any (HM : MergedC) (S T : Nat → Bool) (a b : List (Nat × Nat)) (v1 v2 : Value) (w : World) (hS : CM.Sep S a) (hT : CM.Sep T b) (hha : ∀ x ∈ a, x.2 ≤ 4294967296) (hl1 : a.length ≤ 1000) (hl2 : b.length ≤ 1000) (hr1 : RdQ w v1 a) (hr2 : RdQ w v2 b) :
    Calls Try.prog 69 #[v1, v2] w fun e w' => ∃ v' O, e = .returned v' ∧ CM.Sep (fun y => S y && T y) O ∧ (∀ x ∈ O, x.2 ≤ 4294967296) ∧ RdQ w' v' O ∧ Below w.heap.size w w' := by
  obtain ⟨i0, hi, hz0, hz1, hz2⟩ := infoP_parts info74
  obtain ⟨ad, cap, rfl, hc⟩ := hr1
  obtain ⟨ad', cap', rfl, hc'⟩ := hr2
  have HC := Lib.hid hc
  have HC' := Lib.hid hc'
  have HS := Lib.hid (And.intro hS hT)
  have HH := Lib.hid hha
  have HMM := Lib.hid HM
  have hmul : ∀ k, k ≤ a.length → k * b.length ≤ 1000000 := fun k hk => Nat.le_trans (Nat.mul_le_mul (Nat.le_trans hk hl1) hl2) (by omega)
  have HMul := Lib.hid hmul
  clear hc hc' hS hT hha HM hmul
  go_enter Try.func69, Try.ntmps69
  go_wp2
  go_loopg [13, 5] a.length (fun g s13 s5 wr => ∃ (k : Nat) (O : List (Nat × Nat)) (v5 : Value), k ≤ a.length ∧ a.length - k ≤ g ∧ s13 = .int .i64 k ∧ v5 = s5 ∧ Hid (Below w.heap.size w wr ∧ wr.ownsRow w.heap.size 74 2 v5 O.length (flatQ O) ∧ Met a b k 0 (0, 0) O))
  case atStart => exact ⟨0, [], _, by omega, by omega, rfl, rfl, Below.refl _ _, World.ownsRow_nil _ _ _ _, met_start _ _ _⟩
  case round =>
    obtain ⟨k, O, v5, hk, hg, rfl, rfl, HB⟩ := hrel
    by_cases hlt : k < a.length
    · obtain ⟨x, hx⟩ : ∃ x, a[k]? = some x := ⟨_, List.getElem?_eq_getElem hlt⟩
      obtain ⟨blk', off', rfl, hblk, hc0, hc1⟩ := HC.out k x hx
      have f0 := carryB HB.out.1 hblk hc0
      have f1 := carryB HB.out.1 hblk hc1
      have HX := Lib.hid hx
      have hm := List.mem_of_getElem? hx
      have hxh := HH.out x hm
      have hxn := HS.out.1.ne x hm
      have hws := HB.out.1.size
      have hmk := HMul.out k hk
      obtain ⟨xa, xb⟩ := x
      dsimp only at f0 f1 hxh hxn
      have MT := Lib.hid (met_other (x' := (xa, xb)) HB.out.2.2)
      have R0 := Lib.hid HB.out.2.1
      have D0 := Lib.hid HB.out.1
      clear hc0 hc1 hx hm HB
      have R1 := Lib.hid (ownP_below R0.out (below_alloc wr (.cells #[.int .u64 (xa : Int), .int .u64 (xb : Int)] 74)))
      have D1 := Lib.hid (D0.out.alloc hws (.cells #[.int .u64 (xa : Int), .int .u64 (xb : Int)] 74))
      have NE1 : Hid (v5.ownBlock ≠ some wr.heap.size) := fun e => by have := (ownP_lt R0.out e).2; omega
      have g0 : (wr.alloc (.cells #[.int .u64 (xa : Int), .int .u64 (xb : Int)] 74)).heap[wr.heap.size]? = some (.cells #[.int .u64 (xa : Int), .int .u64 (xb : Int)] 74 (0, 0)) := heap_alloc_new _ _
      go_wp2_with fail
      obtain ⟨q, hq⟩ : ∃ q, wr.heap.size = q := ⟨_, rfl⟩
      rw [hq] at g0 NE1 hws ⊢
      generalize wr.alloc (.cells #[.int .u64 (xa : Int), .int .u64 (xb : Int)] 74) = wa at *
      clear hq f0 f1 R0 D0
      go_loopg [19, 5] b.length (fun g s19 s5 wi => ∃ (j : Nat) (O' : List (Nat × Nat)) (v' : Value), j ≤ b.length ∧ b.length - j ≤ g ∧ s19 = .int .i64 j ∧ v' = s5 ∧ wi.heap[q]? = some (.cells #[.int .u64 (xa : Int), .int .u64 (xb : Int)] 74 (0, 0)) ∧ Hid (Below w.heap.size w wi ∧ wi.ownsRow w.heap.size 74 2 v' O'.length (flatQ O') ∧ Met a b k j (xa, xb) O' ∧ v'.ownBlock ≠ some q))
      case atStart => exact ⟨0, O, v5, by omega, by omega, rfl, rfl, g0, D1.out, R1.out, MT.out, NE1.out⟩
      case round =>
        obtain ⟨j, O', v', hj, hgj, rfl, rfl, gb, HI⟩ := hrel
        obtain ⟨adv, capv, hvf⟩ := rdQ_slice (rdQ_own HI.out.2.1)
        subst hvf
        by_cases hjl : j < b.length
        · obtain ⟨y, hy⟩ : ∃ y, b[j]? = some y := ⟨_, List.getElem?_eq_getElem hjl⟩
          obtain ⟨blk2, off2, rfl, hblk2, hd0, hd1⟩ := HC'.out j y hy
          have e0 := carryB HI.out.1 hblk2 hd0
          have e1 := carryB HI.out.1 hblk2 hd1
          have b0 : wr.cell? ⟨q, 0, none⟩ = some (.int .u64 (xa : Int)) := by simp [World.cell?, gb]
          have b1 : wr.cell? ⟨q, 1, none⟩ = some (.int .u64 (xb : Int)) := by simp [World.cell?, gb]
          have HY := Lib.hid hy
          have GB := Lib.hid gb
          have R2 := Lib.hid HI.out.2.1
          have D2 := Lib.hid HI.out.1
          have MT2 := Lib.hid HI.out.2.2.1
          have NE2 := Lib.hid HI.out.2.2.2
          have hcn := MT2.out.cnt
          obtain ⟨ya, yb⟩ := y
          dsimp only at e0 e1
          clear hd0 hd1 hy gb HI
          have hwi := D2.out.size
          have b0' := carry (below_alloc wr (.cells #[.int .u64 (ya : Int), .int .u64 (yb : Int)] 74)) b0
          have b1' := carry (below_alloc wr (.cells #[.int .u64 (ya : Int), .int .u64 (yb : Int)] 74)) b1
          obtain ⟨M, hM⟩ : ∃ M, M = max xa ya := ⟨_, rfl⟩
          obtain ⟨N, hN⟩ : ∃ N, N = min xb yb := ⟨_, rfl⟩
          have hmx : max (xa : Int) (ya : Int) = (M : Int) := by omega
          have hmn : min (xb : Int) (yb : Int) = (N : Int) := by omega
          have ME : Hid (meetQ (xa, xb) (ya, yb) = (M, N)) := by rw [hM, hN]; rfl
          clear hM hN
          have GB1 := Lib.hid (((below_alloc wr (.cells #[.int .u64 (ya : Int), .int .u64 (yb : Int)] 74)).block q (lt_of_block GB.out)).trans GB.out)
          have hqw := lt_of_block GB.out
          by_cases hMN : M < N
          · have MT3 := Lib.hid (met_more MT2.out HY.out hxh)
            rw [ME.out] at MT3
            have R3 := Lib.hid (ownP_below (ownP_below R2.out (below_alloc wr (.cells #[.int .u64 (ya : Int), .int .u64 (yb : Int)] 74))) (below_alloc _ (.cells #[.int .u64 (M : Int), .int .u64 (N : Int)] 74)))
            go_wp2_with (at_builtin; go_loud (refine wpList_append_lies _ rfl (.tmp 39) (.tmp 41) 71 rfl w.heap.size 74 i0 (.agg #[.int .u64 0, .int .u64 0]) 2 16 Try.underlying71 hi hz0 hz1 hz2 rfl (by decide) (.slice adv O'.length capv) O'.length (flatQ O') rfl (ownP_below R3.out (below_alloc _ _)) ⟨wr.heap.size + 1 + 1, 0, none⟩ 1 1 [.int .u64 (M : Int), .int .u64 (N : Int)] rfl rfl (cellP_two_new _ _ _ _ (by simp)) (one_twoQ _ _) (by decide) (by unfold maxLen; omega) (by omega) (by simp; omega) (wr.heap.size + 1 + 1 + 1) (by simp) ?_; intro g cp w4 hown4 hgrow4 hat4 hlt4; have G := Lib.hid (And.intro hown4 (And.intro hgrow4 hat4)); clear hown4 hgrow4 hat4))
            go_roundg (b.length - (j + 1))
            case measure => omega
            case rel =>
              obtain ⟨r1, r2, r3⟩ := G.out
              have hgq : g ≠ q := by
                rintro rfl
                rcases r3 with r3 | r3
                · exact NE2.out r3
                · omega
              refine ⟨j + 1, O' ++ [(M, N)], _, by omega, Nat.le_refl _, by rw [Int.natCast_add]; rfl, rfl, ?_, ?_, ?_, MT3.out, ?_⟩
              · refine (r2.block q (by simp; omega) (fun e => NE2.out e.symm)).trans ((Below.heap_alloc _ _ _ (by simp; omega)).trans ((Below.heap_alloc _ _ _ (by simp; omega)).trans GB1.out))
              · exact Below.grown (((D2.out.alloc hwi _).alloc (by simp; omega) _).alloc (by simp; omega) _) r2 (by simp; omega) (fun i hi => (ownP_lt R2.out hi).1)
              · rw [flatQ_snoc, List.length_append]; exact r1
              · simp [Value.ownBlock]; exact hgq
          · have MT3 := Lib.hid (met_skip MT2.out HY.out (by rw [ME.out]; exact hMN))
            go_wp2
            go_roundg (b.length - (j + 1))
            case measure => omega
            case rel =>
              refine ⟨j + 1, O', _, by omega, Nat.le_refl _, by rw [Int.natCast_add]; rfl, rfl, ?_, ?_, ?_, MT3.out, NE2.out⟩
              · exact (Below.heap_alloc _ _ _ (by simp; omega)).trans GB1.out
              · exact (D2.out.alloc hwi _).alloc (by simp; omega) _
              · exact ownP_below (ownP_below R2.out (below_alloc _ _)) (below_alloc _ _)
        · obtain rfl : j = b.length := by omega
          have MN := Lib.hid (met_other (x' := (0, 0)) (met_next HI.out.2.2.1 HX.out))
          have R3 := Lib.hid HI.out.2.1
          have D3 := Lib.hid HI.out.1
          clear HI gb
          go_wp2_with fail
          go_roundg (a.length - (k + 1))
          case measure => omega
          case rel => exact ⟨k + 1, O', _, by omega, Nat.le_refl _, by rw [Int.natCast_add]; rfl, rfl, D3.out, R3.out, MN.out⟩
    · obtain rfl : k = a.length := by omega
      have hcn := HB.out.2.2.cnt
      have hm0 := HMul.out a.length (Nat.le_refl _)
      have HF : Hid (Calls Try.prog 104 #[v5] wr fun e w' => ∃ v' O, e = .returned v' ∧ CM.Sep (fun y => S y && T y) O ∧ (∀ x ∈ O, x.2 ≤ 4294967296) ∧ RdQ w' v' O ∧ Below wr.heap.size wr w') := by
        refine (HMM.out O v5 wr HB.out.2.2.hi (by omega) (rdQ_own HB.out.2.1)).mono ?_
        rintro e w' ⟨v', O', rfl, h1, h2, h3, h4, h5⟩
        refine ⟨v', O', rfl, ?_, h2, h4, h5⟩
        have e : ivs O = fun y => S y && T y := funext fun y => by
          rw [HB.out.2.2.set y, List.take_length, Sep.ivs_eq HS.out.1, Sep.ivs_eq HS.out.2]; simp [ivs]
        rwa [e] at h1
      have D0 := Lib.hid HB.out.1
      clear HB
      go_wp2_with (go_at_call 104; refine HF.out.mono ?_; rintro e w1 ⟨v', O', rfl, h1, h2, h3, h4⟩; have K := Lib.hid (And.intro h1 (And.intro h2 (And.intro h3 (below_then D0.out h4)))); clear h1 h2 h3 h4)
      go_ret
      exact ⟨_, O', rfl, K.out.1, K.out.2.1, K.out.2.2.1, K.out.2.2.2⟩
end Go.Proofs.Ytegponbmelgngaa
end
