/-
  Slices of intervals as memory reads; the walks of the reference's prefixes and Range, and of the law on ranges.
-/
import Derived.Test.YtegponbmelgngaaMgCf
section
namespace Go.Proofs.Ytegponbmelgngaa
open Go.RowKit
set_option linter.unusedSimpArgs false
set_option linter.unusedVariables false
set_option maxHeartbeats 4000000
set_option maxRecDepth 100000

/-- an interval's two cells -/
def encQ (x : Nat × Nat) : List Value := [.int .u64 (x.1 : Int), .int .u64 (x.2 : Int)]
def flatQ (l : List (Nat × Nat)) : List Value := l.flatMap encQ
theorem flatQ_len (l : List (Nat × Nat)) : (flatQ l).length = l.length * 2 := by
  induction l with
  | nil => rfl
  | cons x r ih => unfold flatQ at *; rw [List.flatMap_cons, List.length_append, ih, List.length_cons, encQ]; simp; omega
theorem flatQ_snoc (l : List (Nat × Nat)) (x : Nat × Nat) : flatQ (l ++ [x]) = flatQ l ++ encQ x := by unfold flatQ; simp
theorem flatQ_get : ∀ (l : List (Nat × Nat)) (k : Nat) (x : Nat × Nat), l[k]? = some x → (flatQ l)[k * 2]? = some (.int .u64 (x.1 : Int)) ∧ (flatQ l)[k * 2 + 1]? = some (.int .u64 (x.2 : Int))
  | [], k, x, h => by simp at h
  | y :: r, 0, x, h => by simp at h; subst h; simp [flatQ, encQ]
  | y :: r, k + 1, x, h => by
    have ih := flatQ_get r k x (by simpa using h)
    have e : flatQ (y :: r) = .int .u64 (y.1 : Int) :: .int .u64 (y.2 : Int) :: flatQ r := by simp [flatQ, encQ]
    rw [e, show (k + 1) * 2 = k * 2 + 1 + 1 by omega, show k * 2 + 1 + 1 + 1 = (k * 2 + 1) + 1 + 1 by omega]
    simpa using ih

/-- a slice of intervals as the memory reads -/
def RdQ (w : World) (v : Value) (l : List (Nat × Nat)) : Prop :=
  ∃ ad cap, v = .slice ad l.length cap ∧ ∀ k x, l[k]? = some x → ∃ b off, ad = some ⟨b, off, none⟩ ∧ b < w.heap.size ∧ w.cell? ⟨b, off + k * 2, none⟩ = some (.int .u64 (x.1 : Int)) ∧ w.cell? ⟨b, off + k * 2 + 1, none⟩ = some (.int .u64 (x.2 : Int))
theorem RdQ.below {w w' : World} {v : Value} {l : List (Nat × Nat)} (h : RdQ w v l) (hb : Below w.heap.size w w') : RdQ w' v l := by
  obtain ⟨ad, cap, rfl, hc⟩ := h
  refine ⟨ad, cap, rfl, fun k x hk => ?_⟩
  obtain ⟨b, off, e, hlt, h0, h1⟩ := hc k x hk
  exact ⟨b, off, e, Nat.lt_of_lt_of_le hlt hb.size, by rw [hb.cell hlt]; exact h0, by rw [hb.cell hlt]; exact h1⟩
theorem rdQ_nil (w : World) : RdQ w (.slice none 0 0) [] := ⟨none, 0, rfl, fun k x h => by simp at h⟩
theorem rdQ_own {w : World} {B : Nat} {v : Value} {l : List (Nat × Nat)} (h : w.ownsRow B 74 2 v l.length (flatQ l)) : RdQ w v l := by
  rcases h.2 with ⟨rfl, hn⟩ | ⟨g, cap, cur, rfl, hB, hg, hnc, _, _, _⟩
  · obtain rfl := List.length_eq_zero_iff.1 hn
    exact rdQ_nil w
  · refine ⟨some ⟨g, 0, none⟩, cap, rfl, fun k x hk => ⟨g, 0, rfl, (Array.getElem?_eq_some_iff.1 hg).1, ?_, ?_⟩⟩
    · have hlt := (List.getElem?_eq_some_iff.1 hk).1
      rw [Nat.zero_add, h.cellAt (k * 2) (by omega)]; exact (flatQ_get l k x hk).1
    · have hlt := (List.getElem?_eq_some_iff.1 hk).1
      rw [Nat.zero_add, h.cellAt (k * 2 + 1) (by omega)]; exact (flatQ_get l k x hk).2
theorem one_twoQ (a b : Nat) : ∀ u ∈ [Value.int .u64 (a : Int), .int .u64 (b : Int)], u.oneCell' = true := by
  intro u hu; simp at hu; rcases hu with rfl | rfl <;> rfl
theorem info74 : (Try.prog.info? 74).map (fun i => (i.zero, i.size, i.bytes)) = some (some (.agg #[.int .u64 0, .int .u64 0]), 2, 16) := by kernel_rfl

/-- what is left over of the intervals -/
structure Left (S : Nat → Bool) (l : List (Nat × Nat)) (k lo : Nat) (B : List (Nat × Nat)) : Prop where
  part : CM.Part S B lo
  ge : ∀ x ∈ l.drop k, lo ≤ x.1
  rest : ∀ y, lo ≤ y → S y = true → ∃ x ∈ l.drop k, x.1 ≤ y ∧ y < x.2
theorem part_len {S : Nat → Bool} {B : List (Nat × Nat)} {lo : Nat} (h : CM.Part S B lo) : B.length ≤ lo := by
  have := asc_len h.asc h.bel 0 (fun _ _ => Nat.zero_le _) (Nat.zero_le _)
  omega
theorem left_start {S : Nat → Bool} {l : List (Nat × Nat)} (h : CM.Sep S l) : Left S l 0 0 [] :=
  ⟨.zero S, fun _ _ => Nat.zero_le _, fun y _ hy => (h.mem y).1 hy⟩
theorem drop_cons {l : List (Nat × Nat)} {k : Nat} {x : Nat × Nat} (hx : l[k]? = some x) : l.drop k = x :: l.drop (k + 1) := by
  obtain ⟨hh, he⟩ := List.getElem?_eq_some_iff.1 hx
  rw [List.drop_eq_getElem_cons hh, he]
theorem left_at {S : Nat → Bool} {l : List (Nat × Nat)} (h : CM.Sep S l) {k lo : Nat} {B : List (Nat × Nat)} {x : Nat × Nat} (hL : Left S l k lo B) (hx : l[k]? = some x) :
    CM.Part S B x.1 ∧ (∀ y, x.1 ≤ y → y < x.2 → S y = true) ∧ S x.2 = false ∧ ∀ B', CM.Part S B' x.2 → Left S l (k + 1) x.2 B' := by
  have e := drop_cons hx
  have hm := List.mem_of_getElem? hx
  have hp : (x :: l.drop (k + 1)).Pairwise (fun x y => x.2 < y.1) := e ▸ h.asc.sublist (List.drop_sublist k l)
  obtain ⟨p1, p2⟩ := List.pairwise_cons.1 hp
  have hne := h.ne x hm
  have hlo := hL.ge x (by rw [e]; simp)
  refine ⟨hL.part.skip hlo fun y h1 h2 => ?_, fun y h1 h2 => (h.mem y).2 ⟨x, hm, h1, h2⟩, ?_, fun B' hB' => ⟨hB', fun z hz => Nat.le_of_lt (p1 z hz), fun y h1 hy => ?_⟩⟩
  · refine Bool.eq_false_iff.2 fun hy => ?_
    obtain ⟨z, hz, g1, g2⟩ := hL.rest y h1 hy
    rw [e] at hz
    rcases List.mem_cons.1 hz with rfl | hz
    · omega
    · have := p1 z hz; omega
  · refine Bool.eq_false_iff.2 fun hy => ?_
    obtain ⟨z, hz, g1, g2⟩ := hL.rest x.2 (by omega) hy
    rw [e] at hz
    rcases List.mem_cons.1 hz with rfl | hz
    · omega
    · have := p1 z hz; omega
  · obtain ⟨z, hz, g1, g2⟩ := hL.rest y (by omega) hy
    rw [e] at hz
    rcases List.mem_cons.1 hz with rfl | hz
    · omega
    · exact ⟨z, hz, g1, g2⟩
theorem left_done {S : Nat → Bool} {l : List (Nat × Nat)} {lo : Nat} {B : List (Nat × Nat)} (hL : Left S l l.length lo B) : CM.Nrm S B :=
  hL.part.done fun y hy => Bool.eq_false_iff.2 fun h => by
    obtain ⟨z, hz, _⟩ := hL.rest y hy h
    rw [List.drop_length] at hz; cases hz
theorem pow33 {k : Nat} (h : k ≤ 33) : 2 ^ k ≤ 8589934592 := by
  have := Nat.pow_le_pow_right (n := 2) (by omega) h; simpa using this
theorem shl_nat (k : Nat) (h : k ≤ 33) (d : Int) (hd : d.toNat = k) : ((2 : Int) ^ d.toNat % 18446744073709551616) = ((2 ^ k : Nat) : Int) := by
  have hp := pow33 h
  rw [hd]
  have h2 : ((2 ^ k : Nat) : Int) = (2 : Int) ^ k := by simp
  rw [← h2]; clear h2; generalize 2 ^ k = p at hp ⊢; omega
theorem shl_wrap (k : Nat) (h : k ≤ 33) : IntKind.u64.wrap ((2 : Int) ^ k) = ((2 ^ k : Nat) : Int) := by
  have hp := pow33 h
  have h2 : ((2 ^ k : Nat) : Int) = (2 : Int) ^ k := by simp
  rw [← h2]; clear h2; generalize 2 ^ k = p at hp ⊢
  exact IntWalk.u64_in _ (by constructor <;> omega)
theorem rpref_any (S : Nat → Bool) (l : List (Nat × Nat)) (v : Value) (w : World) (hS : CM.Sep S l) (hhi : ∀ x ∈ l, x.2 ≤ 4294967296) (hl : l.length ≤ 4294967296) (hr : RdQ w v l) :
    Calls Try.prog 64 #[v] w fun e w' => ∃ v' B, e = .returned v' ∧ CM.Nrm S B ∧ Rd w' v' (B.map pfx) ∧ Below w.heap.size w w' := by
  obtain ⟨i0, hi, hz0, hz1, hz2⟩ := infoP_parts info28
  obtain ⟨ad, cap, rfl, hc⟩ := hr
  have HC := Lib.hid hc
  have HS := Lib.hid hS
  have HH := Lib.hid hhi
  clear hc hS hhi
  go_enter Try.func64, Try.ntmps64
  go_wp2
  go_loopg [9, 3, 5, 6] l.length (fun g s9 s3 s5 s6 wr => ∃ (k lo : Nat) (B : List (Nat × Nat)) (v3 : Value), k ≤ l.length ∧ l.length - k ≤ g ∧ s9 = .int .i64 k ∧ v3 = s3 ∧ lo ≤ 4294967296 ∧ Hid (Below w.heap.size w wr ∧ wr.ownsRow w.heap.size 28 2 v3 B.length (flat (B.map pfx)) ∧ Left S l k lo B))
  case atStart => exact ⟨0, 0, [], _, by omega, by omega, rfl, rfl, by omega, Below.refl _ _, World.ownsRow_nil _ _ _ _, left_start HS.out⟩
  case round =>
    obtain ⟨k, lo, B, v3, hk, hg, rfl, rfl, hlo, HB⟩ := hrel
    by_cases hlt : k < l.length
    · obtain ⟨x, hx⟩ : ∃ x, l[k]? = some x := ⟨_, List.getElem?_eq_getElem hlt⟩
      obtain ⟨blk', off', rfl, hblk, hc0, hc1⟩ := HC.out k x hx
      have f0 := carryB HB.out.1 hblk hc0
      have f1 := carryB HB.out.1 hblk hc1
      have HX := Lib.hid hx
      have hm := List.mem_of_getElem? hx
      have hxn := HS.out.ne x hm
      have hxh := HH.out x hm
      have LA := Lib.hid (left_at HS.out HB.out.2.2 hx)
      obtain ⟨a, hiw⟩ := x
      dsimp only at f0 f1 hxn hxh LA
      clear hc0 hc1 hx hm
      go_wp2_with fail
      have hbz := HB.out.1.size
      have g0 : (wr.alloc (.cells #[.int .u64 (a : Int), .int .u64 (hiw : Int)] 74)).heap[wr.heap.size]? = some (.cells #[.int .u64 (a : Int), .int .u64 (hiw : Int)] 74 (0, 0)) := heap_alloc_new _ _
      have R1 := Lib.hid (ownP_below HB.out.2.1 (below_alloc wr (.cells #[.int .u64 (a : Int), .int .u64 (hiw : Int)] 74)))
      have B1 := Lib.hid (HB.out.1.alloc hbz (.cells #[.int .u64 (a : Int), .int .u64 (hiw : Int)] 74))
      obtain ⟨q, hq⟩ : ∃ q, wr.heap.size = q := ⟨_, rfl⟩
      have hsz1 : (wr.alloc (.cells #[.int .u64 (a : Int), .int .u64 (hiw : Int)] 74)).heap.size = q + 1 := by simp [hq]
      have hlo1 := Lib.hid (part_len HB.out.2.2.part)
      rw [hq] at g0 hbz ⊢
      have NE1 : Hid (v3.ownBlock ≠ some q) := fun e => by have := (ownP_lt HB.out.2.1 e).2; omega
      generalize wr.alloc (.cells #[.int .u64 (a : Int), .int .u64 (hiw : Int)] 74) = wa at *
      clear hq f0 f1
      go_loopg [3, 6] (hiw - a) (fun g s3 s6 wi => ∃ (cur : Nat) (B' : List (Nat × Nat)) (v' : Value), v' = s3 ∧ a ≤ cur ∧ cur ≤ hiw ∧ hiw - cur ≤ g ∧ wi.heap[q]? = some (.cells #[.int .u64 (cur : Int), .int .u64 (hiw : Int)] 74 (0, 0)) ∧ Hid (Below w.heap.size w wi ∧ wi.ownsRow w.heap.size 28 2 v' B'.length (flat (B'.map pfx)) ∧ CM.Part S B' cur ∧ v'.ownBlock ≠ some q))
      case atStart => exact ⟨a, B, v3, rfl, Nat.le_refl _, by omega, Nat.le_refl _, g0, B1.out, R1.out, LA.out.1, NE1.out⟩
      case round =>
        obtain ⟨cur, B', v', rfl, hac, hch, hgi, gb, HI⟩ := hrel
        obtain ⟨adv, capv, hvf⟩ := rdP_slice (rd_own (l := B'.map pfx) (by have := HI.out.2.1; rwa [List.length_map]))
        rw [List.length_map] at hvf
        subst hvf
        have b0 : wr.cell? ⟨q, 0, none⟩ = some (.int .u64 (cur : Int)) := by simp [World.cell?, gb]
        have b1 : wr.cell? ⟨q, 1, none⟩ = some (.int .u64 (hiw : Int)) := by simp [World.cell?, gb]
        have GB := Lib.hid gb
        clear gb
        by_cases hcl : cur < hiw
        · have hca : cur < 4294967296 := by omega
          have BI : Hid (∀ W, Below wr.heap.size wr W → Below w.heap.size w W ∧ W.ownsRow w.heap.size 28 2 (.slice adv B'.length capv) B'.length (flat (B'.map pfx)) ∧ W.heap[q]? = some (.cells #[.int .u64 (cur : Int), .int .u64 (hiw : Int)] 74 (0, 0))) := fun W hW =>
            ⟨below_then HI.out.1 hW, ownP_below HI.out.2.1 hW, (hW.block q (lt_of_block GB.out)).trans GB.out⟩
          have HP := Lib.hid HI.out.2.2.1
          have hBl := part_len HI.out.2.2.1
          have NE := Lib.hid HI.out.2.2.2
          clear HI GB
          go_wp2_with fail
          go_loopg [6] 33 (fun g s6 wj => ∃ (n : Nat), s6 = .int .i64 n ∧ n ≤ 32 ∧ n ≤ g ∧ Hid (cur % 2 ^ (32 - n) = 0 ∧ cur + 2 ^ (32 - n) ≤ hiw ∧ Below wr.heap.size wr wj))
          case atStart => exact ⟨32, rfl, Nat.le_refl _, by omega, by show cur % 1 = 0; omega, by show cur + 1 ≤ hiw; omega, Below.refl _ _⟩
          case round =>
            obtain ⟨n, rfl, hn32, hng, HJ⟩ := hrel
            have gb := (BI.out _ HJ.out.2.2).2.2
            have b0 : wr.cell? ⟨q, 0, none⟩ = some (.int .u64 (cur : Int)) := by simp [World.cell?, gb]
            have b1 : wr.cell? ⟨q, 1, none⟩ = some (.int .u64 (hiw : Int)) := by simp [World.cell?, gb]
            clear gb
            by_cases hn0 : n = 0
            · subst hn0
              go_wp2_with fail
              go_quiet (fail)
              have hGr : Hid (CM.Grown cur hiw (32 - 0)) := ⟨HJ.out.1, HJ.out.2.1, by omega, fun h => absurd h (by omega)⟩
              have hbq : Below wr.heap.size wr (wr.drewN nq) := below_drewN (Below.refl _ _) _
              generalize wr.drewN nq = w3 at *
              obtain ⟨x1, x2, x3⟩ := BI.out _ (below_then HJ.out.2.2 hbq)
              have b0 : w3.cell? ⟨q, 0, none⟩ = some (.int .u64 (cur : Int)) := by simp [World.cell?, x3]
              have b1 : w3.cell? ⟨q, 1, none⟩ = some (.int .u64 (hiw : Int)) := by simp [World.cell?, x3]
              have hq3 := lt_of_block x3
              have hws := x1.size
              have X1 := Lib.hid x1
              have X2 := Lib.hid x2
              have X3 := Lib.hid x3
              clear x1 x2 x3 hbq
              obtain ⟨Q, hQ⟩ : ∃ Q, Q = 2 ^ (32 - 0) := ⟨_, rfl⟩
              have HQ := Lib.hid hQ
              have hQ33 := pow33 (k := 32 - 0) (by omega)
              have hQp := CM.pow_pos' (32 - 0)
              have hQ2 : ((2 : Int) ^ (32 - 0)) = (Q : Int) := by rw [hQ]; simp
              have hGle : cur + Q ≤ hiw := by rw [hQ]; exact hGr.out.2.1
              rw [← hQ] at hQ33 hQp
              have hQw : IntKind.u64.wrap (Q : Int) = (Q : Int) := IntWalk.u64_in _ (by constructor <;> omega)
              clear hQ
              go_wp2_with (at_builtin; refine wpList_append_lies _ rfl (.tmp 42) (.tmp 48) 22 rfl w.heap.size 28 i0 (.agg #[.int .u32 0, .int .i64 0]) 2 16 Try.underlying22 hi hz0 hz1 hz2 rfl (by decide) (.slice adv B'.length capv) B'.length (flat (B'.map pfx)) rfl (ownP_below X2.out (below_alloc _ _)) ⟨w3.heap.size, 0, none⟩ 1 1 [.int .u32 (cur : Int), .int .i64 0] rfl rfl (cellP_two_new _ _ _ _ rfl) (one_two _ _) (by decide) (by unfold maxLen; omega) (by omega) (by simp; omega) (w3.heap.size + 1) (by simp) ?_; intro g cp w4 hown4 hgrow4 hat4 hlt4; have G := Lib.hid (And.intro hown4 (And.intro hgrow4 hat4)); have hz4 := (hgrow4.block q (by simp; omega) (fun e => NE.out e.symm)).trans ((Below.heap_alloc _ _ _ hq3).trans X3.out); have Z4 := Lib.hid hz4; have c0 : w4.cell? ⟨q, 0, none⟩ = some (.int .u64 (cur : Int)) := (by simp [World.cell?, hz4]); have c1 : w4.cell? ⟨q, 1, none⟩ = some (.int .u64 (hiw : Int)) := (by simp [World.cell?, hz4]); have c2 : w4.frozen? ⟨q, 0, none⟩ = false := (by simp [World.frozen?, hz4]); clear hown4 hgrow4 hat4 hz4)
              have wt2 : IntKind.i64.wrap (32 - 0) = 32 - 0 := IntWalk.i64_in _ (by constructor <;> omega)
              have hcw : IntKind.u64.wrap ((cur : Int) + (Q : Int)) = (cur : Int) + (Q : Int) := IntWalk.u64_in _ (by constructor <;> omega)
              go_wp2_with fail
              go_region
              go_wp2
              go_roundg (hiw - (cur + Q))
              case measure => omega
              case rel =>
                obtain ⟨r1, r2, r3⟩ := G.out
                have hgq : g ≠ q := by
                  rintro rfl
                  rcases r3 with r3 | r3
                  · exact NE.out r3
                  · omega
                have hpx : pfx (cur, 32 - 0) = (cur, 0) := by unfold pfx; refine Prod.ext rfl ?_; dsimp only; omega
                have hPs := HP.out.step hGr.out (fun y y1 y2 => LA.out.2.1 y (by omega) y2) LA.out.2.2.1 hxh
                refine ⟨cur + Q, B' ++ [(cur, 32 - 0)], _, rfl, by omega, by omega, Nat.le_refl _, ?_, ?_, ?_, ?_, ?_⟩
                · refine Eq.trans (b := (w4.setCell ⟨q, 0, none⟩ (.int .u64 ((cur : Int) + (Q : Int)))).heap[q]?) rfl ((heap_set_eq (o := 0) (u := .int .u64 ((cur : Int) + (Q : Int))) Z4.out).trans ?_)
                  rw [Int.natCast_add]; rfl
                · exact ((Below.grown (X1.out.alloc hws _) r2 (by simp; omega) (fun j hj => (ownP_lt X2.out hj).1)).setCell hbz _).drew
                · have r4 := ownsRow_setCell_other (a := ⟨q, 0, none⟩) r1 (show (Value.slice (some ⟨g, 0, none⟩) (B'.length + 1) cp).ownBlock ≠ some q by simp [Value.ownBlock]; exact hgq) (.int .u64 ((cur : Int) + (Q : Int)))
                  rw [List.map_append, List.map_cons, List.map_nil, flat_snoc, hpx, List.length_append]
                  exact r4
                · rw [HQ.out]; exact hPs
                · simp [Value.ownBlock]; exact hgq
            · have hnp : 0 < n := by omega
              have hp33 := pow33 (k := 33 - n) (by omega)
              have hsh : IntKind.u64.wrap ((2 : Int) ^ (33 - n)) = ((2 ^ (33 - n) : Nat) : Int) := shl_wrap (33 - n) (by omega)
              have hpp := CM.pow_pos' (33 - n)
              obtain ⟨P, hP⟩ : ∃ P, P = 2 ^ (33 - n) := ⟨_, rfl⟩
              have hP2 : ((2 : Int) ^ (33 - n)) = (P : Int) := by rw [hP]; simp
              have HP0 := Lib.hid hP
              have hPw : IntKind.u64.wrap (P : Int) = (P : Int) := IntWalk.u64_in _ (by constructor <;> omega)
              have hPz : ((P : Int) == 0) = false := by simp; omega
              have hPn : ¬ P = 0 := by omega
              have hPb : (P == 0) = false := by simp; omega
              have hrem : ((cur : Int)).tmod (P : Int) = ((cur % P : Nat) : Int) := rfl
              clear hsh
              rw [← hP] at hp33 hpp
              clear hP
              have wt : IntKind.i64.wrap (33 - (n : Int)) = 33 - (n : Int) := IntWalk.i64_in _ (by constructor <;> omega)
              have hcp : cur + P ≤ 18446744073709551615 := by omega
              by_cases hm : cur % P = 0
              · by_cases hle : cur + P ≤ hiw
                · go_wp2_with fail
                  go_quiet (fail)
                  go_wp2
                  go_roundg (n - 1)
                  case measure => omega
                  case rel =>
                    refine ⟨n - 1, by rw [show ((n : Int) - 1) = ((n - 1 : Nat) : Int) by omega], by omega, Nat.le_refl _, ?_, ?_, below_then HJ.out.2.2 (below_drewN (Below.refl _ _) _)⟩
                    · rw [show 32 - (n - 1) = 33 - n by omega, ← HP0.out]; exact hm
                    · rw [show 32 - (n - 1) = 33 - n by omega, ← HP0.out]; exact hle
                · go_wp2_with fail
                  go_quiet (fail)
                  have hGr : Hid (CM.Grown cur hiw (32 - n)) := ⟨HJ.out.1, HJ.out.2.1, by omega, fun h h2 => hle (by rw [HP0.out]; have := h2.2; rwa [show 32 - n + 1 = 33 - n by omega] at this)⟩
                  have hbq : Below wr.heap.size wr (wr.drewN nq) := below_drewN (Below.refl _ _) _
                  generalize wr.drewN nq = w3 at *
                  obtain ⟨x1, x2, x3⟩ := BI.out _ (below_then HJ.out.2.2 hbq)
                  have b0 : w3.cell? ⟨q, 0, none⟩ = some (.int .u64 (cur : Int)) := by simp [World.cell?, x3]
                  have b1 : w3.cell? ⟨q, 1, none⟩ = some (.int .u64 (hiw : Int)) := by simp [World.cell?, x3]
                  have hq3 := lt_of_block x3
                  have hws := x1.size
                  have X1 := Lib.hid x1
                  have X2 := Lib.hid x2
                  have X3 := Lib.hid x3
                  clear x1 x2 x3 hbq
                  obtain ⟨Q, hQ⟩ : ∃ Q, Q = 2 ^ (32 - n) := ⟨_, rfl⟩
                  have HQ := Lib.hid hQ
                  have hQ33 := pow33 (k := 32 - n) (by omega)
                  have hQp := CM.pow_pos' (32 - n)
                  have hQ2 : ((2 : Int) ^ (32 - n)) = (Q : Int) := by rw [hQ]; simp
                  have hGle : cur + Q ≤ hiw := by rw [hQ]; exact hGr.out.2.1
                  rw [← hQ] at hQ33 hQp
                  have hQw : IntKind.u64.wrap (Q : Int) = (Q : Int) := IntWalk.u64_in _ (by constructor <;> omega)
                  clear hQ
                  go_wp2_with (at_builtin; refine wpList_append_lies _ rfl (.tmp 42) (.tmp 48) 22 rfl w.heap.size 28 i0 (.agg #[.int .u32 0, .int .i64 0]) 2 16 Try.underlying22 hi hz0 hz1 hz2 rfl (by decide) (.slice adv B'.length capv) B'.length (flat (B'.map pfx)) rfl (ownP_below X2.out (below_alloc _ _)) ⟨w3.heap.size, 0, none⟩ 1 1 [.int .u32 (cur : Int), .int .i64 (n : Int)] rfl rfl (cellP_two_new _ _ _ _ rfl) (one_two _ _) (by decide) (by unfold maxLen; omega) (by omega) (by simp; omega) (w3.heap.size + 1) (by simp) ?_; intro g cp w4 hown4 hgrow4 hat4 hlt4; have G := Lib.hid (And.intro hown4 (And.intro hgrow4 hat4)); have hz4 := (hgrow4.block q (by simp; omega) (fun e => NE.out e.symm)).trans ((Below.heap_alloc _ _ _ hq3).trans X3.out); have Z4 := Lib.hid hz4; have c0 : w4.cell? ⟨q, 0, none⟩ = some (.int .u64 (cur : Int)) := (by simp [World.cell?, hz4]); have c1 : w4.cell? ⟨q, 1, none⟩ = some (.int .u64 (hiw : Int)) := (by simp [World.cell?, hz4]); have c2 : w4.frozen? ⟨q, 0, none⟩ = false := (by simp [World.frozen?, hz4]); clear hown4 hgrow4 hat4 hz4)
                  have wt2 : IntKind.i64.wrap (32 - (n : Int)) = 32 - (n : Int) := IntWalk.i64_in _ (by constructor <;> omega)
                  have hcw : IntKind.u64.wrap ((cur : Int) + (Q : Int)) = (cur : Int) + (Q : Int) := IntWalk.u64_in _ (by constructor <;> omega)
                  go_wp2_with fail
                  go_region
                  go_wp2
                  go_roundg (hiw - (cur + Q))
                  case measure => omega
                  case rel =>
                    obtain ⟨r1, r2, r3⟩ := G.out
                    have hgq : g ≠ q := by
                      rintro rfl
                      rcases r3 with r3 | r3
                      · exact NE.out r3
                      · omega
                    have hpx : pfx (cur, 32 - n) = (cur, (n : Int)) := by unfold pfx; refine Prod.ext rfl ?_; dsimp only; omega
                    have hPs := HP.out.step hGr.out (fun y y1 y2 => LA.out.2.1 y (by omega) y2) LA.out.2.2.1 hxh
                    refine ⟨cur + Q, B' ++ [(cur, 32 - n)], _, rfl, by omega, by omega, Nat.le_refl _, ?_, ?_, ?_, ?_, ?_⟩
                    · refine Eq.trans (b := (w4.setCell ⟨q, 0, none⟩ (.int .u64 ((cur : Int) + (Q : Int)))).heap[q]?) rfl ((heap_set_eq (o := 0) (u := .int .u64 ((cur : Int) + (Q : Int))) Z4.out).trans ?_)
                      rw [Int.natCast_add]; rfl
                    · exact ((Below.grown (X1.out.alloc hws _) r2 (by simp; omega) (fun j hj => (ownP_lt X2.out hj).1)).setCell hbz _).drew
                    · have r4 := ownsRow_setCell_other (a := ⟨q, 0, none⟩) r1 (show (Value.slice (some ⟨g, 0, none⟩) (B'.length + 1) cp).ownBlock ≠ some q by simp [Value.ownBlock]; exact hgq) (.int .u64 ((cur : Int) + (Q : Int)))
                      rw [List.map_append, List.map_cons, List.map_nil, flat_snoc, hpx, List.length_append]
                      exact r4
                    · rw [HQ.out]; exact hPs
                    · simp [Value.ownBlock]; exact hgq
              · have hm1 : (cur % P == 0) = false := by rw [beq_eq_false_iff_ne]; exact hm
                have hm2 : (((cur : Int) % (P : Int)) == 0) = false := by
                  have e : ((cur : Int) % (P : Int)) = ((cur % P : Nat) : Int) := rfl
                  rw [e, beq_eq_false_iff_ne]; omega
                have hm3 : ((((cur % P : Nat) : Int)) == 0) = false := hm2
                go_wp2_with fail
                go_quiet (fail)
                have hGr : Hid (CM.Grown cur hiw (32 - n)) := ⟨HJ.out.1, HJ.out.2.1, by omega, fun h h2 => hm (by rw [HP0.out]; have := h2.1; rwa [show 32 - n + 1 = 33 - n by omega] at this)⟩
                have hbq : Below wr.heap.size wr (wr.drewN nq) := below_drewN (Below.refl _ _) _
                generalize wr.drewN nq = w3 at *
                obtain ⟨x1, x2, x3⟩ := BI.out _ (below_then HJ.out.2.2 hbq)
                have b0 : w3.cell? ⟨q, 0, none⟩ = some (.int .u64 (cur : Int)) := by simp [World.cell?, x3]
                have b1 : w3.cell? ⟨q, 1, none⟩ = some (.int .u64 (hiw : Int)) := by simp [World.cell?, x3]
                have hq3 := lt_of_block x3
                have hws := x1.size
                have X1 := Lib.hid x1
                have X2 := Lib.hid x2
                have X3 := Lib.hid x3
                clear x1 x2 x3 hbq
                obtain ⟨Q, hQ⟩ : ∃ Q, Q = 2 ^ (32 - n) := ⟨_, rfl⟩
                have HQ := Lib.hid hQ
                have hQ33 := pow33 (k := 32 - n) (by omega)
                have hQp := CM.pow_pos' (32 - n)
                have hQ2 : ((2 : Int) ^ (32 - n)) = (Q : Int) := by rw [hQ]; simp
                have hGle : cur + Q ≤ hiw := by rw [hQ]; exact hGr.out.2.1
                rw [← hQ] at hQ33 hQp
                have hQw : IntKind.u64.wrap (Q : Int) = (Q : Int) := IntWalk.u64_in _ (by constructor <;> omega)
                clear hQ
                go_wp2_with (at_builtin; refine wpList_append_lies _ rfl (.tmp 42) (.tmp 48) 22 rfl w.heap.size 28 i0 (.agg #[.int .u32 0, .int .i64 0]) 2 16 Try.underlying22 hi hz0 hz1 hz2 rfl (by decide) (.slice adv B'.length capv) B'.length (flat (B'.map pfx)) rfl (ownP_below X2.out (below_alloc _ _)) ⟨w3.heap.size, 0, none⟩ 1 1 [.int .u32 (cur : Int), .int .i64 (n : Int)] rfl rfl (cellP_two_new _ _ _ _ rfl) (one_two _ _) (by decide) (by unfold maxLen; omega) (by omega) (by simp; omega) (w3.heap.size + 1) (by simp) ?_; intro g cp w4 hown4 hgrow4 hat4 hlt4; have G := Lib.hid (And.intro hown4 (And.intro hgrow4 hat4)); have hz4 := (hgrow4.block q (by simp; omega) (fun e => NE.out e.symm)).trans ((Below.heap_alloc _ _ _ hq3).trans X3.out); have Z4 := Lib.hid hz4; have c0 : w4.cell? ⟨q, 0, none⟩ = some (.int .u64 (cur : Int)) := (by simp [World.cell?, hz4]); have c1 : w4.cell? ⟨q, 1, none⟩ = some (.int .u64 (hiw : Int)) := (by simp [World.cell?, hz4]); have c2 : w4.frozen? ⟨q, 0, none⟩ = false := (by simp [World.frozen?, hz4]); clear hown4 hgrow4 hat4 hz4)
                have wt2 : IntKind.i64.wrap (32 - (n : Int)) = 32 - (n : Int) := IntWalk.i64_in _ (by constructor <;> omega)
                have hcw : IntKind.u64.wrap ((cur : Int) + (Q : Int)) = (cur : Int) + (Q : Int) := IntWalk.u64_in _ (by constructor <;> omega)
                go_wp2_with fail
                go_region
                go_wp2
                go_roundg (hiw - (cur + Q))
                case measure => omega
                case rel =>
                  obtain ⟨r1, r2, r3⟩ := G.out
                  have hgq : g ≠ q := by
                    rintro rfl
                    rcases r3 with r3 | r3
                    · exact NE.out r3
                    · omega
                  have hpx : pfx (cur, 32 - n) = (cur, (n : Int)) := by unfold pfx; refine Prod.ext rfl ?_; dsimp only; omega
                  have hPs := HP.out.step hGr.out (fun y y1 y2 => LA.out.2.1 y (by omega) y2) LA.out.2.2.1 hxh
                  refine ⟨cur + Q, B' ++ [(cur, 32 - n)], _, rfl, by omega, by omega, Nat.le_refl _, ?_, ?_, ?_, ?_, ?_⟩
                  · refine Eq.trans (b := (w4.setCell ⟨q, 0, none⟩ (.int .u64 ((cur : Int) + (Q : Int)))).heap[q]?) rfl ((heap_set_eq (o := 0) (u := .int .u64 ((cur : Int) + (Q : Int))) Z4.out).trans ?_)
                    rw [Int.natCast_add]; rfl
                  · exact ((Below.grown (X1.out.alloc hws _) r2 (by simp; omega) (fun j hj => (ownP_lt X2.out hj).1)).setCell hbz _).drew
                  · have r4 := ownsRow_setCell_other (a := ⟨q, 0, none⟩) r1 (show (Value.slice (some ⟨g, 0, none⟩) (B'.length + 1) cp).ownBlock ≠ some q by simp [Value.ownBlock]; exact hgq) (.int .u64 ((cur : Int) + (Q : Int)))
                    rw [List.map_append, List.map_cons, List.map_nil, flat_snoc, hpx, List.length_append]
                    exact r4
                  · rw [HQ.out]; exact hPs
                  · simp [Value.ownBlock]; exact hgq
        · have hce : cur = hiw := by omega
          subst hce
          have hLn := LA.out.2.2.2 B' HI.out.2.2.1
          have HLn := Lib.hid hLn
          clear hLn
          go_wp2_with fail
          go_roundg (l.length - (k + 1))
          case measure => omega
          case rel => exact ⟨k + 1, cur, B', _, by omega, Nat.le_refl _, by go_num, rfl, hxh, HI.out.1, HI.out.2.1, HLn.out⟩
    · have hkl : k = l.length := by omega
      subst hkl
      have HN := Lib.hid (left_done HB.out.2.2)
      have HR : Hid (Rd wr v3 (B.map pfx)) := rd_own (by have := HB.out.2.1; rwa [List.length_map])
      go_wp2
      go_ret
      exact ⟨_, B, rfl, HN.out, HR.out, HB.out.1⟩

theorem rdQ_new (W : World) (cs : Array Value) (l : List (Nat × Nat)) {b : Nat} (hb : b = W.heap.size) (h : cs.toList = flatQ l) (n : Nat) (hn : n = l.length) : RdQ (W.alloc (.cells cs 74)) (.slice (some ⟨b, 0, none⟩) n n) l := by
  subst hb hn
  refine ⟨_, _, rfl, fun k x hk => ⟨W.heap.size, 0, rfl, by simp, ?_, ?_⟩⟩
  · have g := World.news_of_block (heap_alloc_new W (.cells cs 74)) (k * 2) _ (by rw [h]; exact (flatQ_get l k x hk).1)
    rwa [Addr.add_lit] at g
  · have g := World.news_of_block (heap_alloc_new W (.cells cs 74)) (k * 2 + 1) _ (by rw [h]; exact (flatQ_get l k x hk).2)
    rwa [Addr.add_lit] at g
theorem sep_one {f l : Nat} (h : f ≤ l) : CM.Sep (rngS f l) [(f, l + 1)] := by
  refine ⟨List.pairwise_singleton _ _, fun x hx => ?_, fun y => ?_⟩
  · rw [List.mem_singleton] at hx; subst hx; dsimp only; omega
  · rw [rngS_iff]; simp; omega
theorem rrange_bad (f l : Nat) (hf : f < 4294967296) (hl : l < 4294967296) (w : World) (h : l < f) :
    Calls Try.prog 34 #[.int .u32 (f : Int), .int .u32 (l : Int)] w fun e w' => e = .returned (.tuple #[.slice none 0 0, .int .i64 16]) ∧ Below w.heap.size w w' := by
  go_enter Try.func34, Try.ntmps34
  go_wp2
  go_ret2
  exact ⟨rfl, Below.refl _ _⟩
theorem rrange_any (f l : Nat) (hf : f < 4294967296) (hl : l < 4294967296) (w : World) (h : f ≤ l) :
    Calls Try.prog 34 #[.int .u32 (f : Int), .int .u32 (l : Int)] w fun e w' => ∃ v B, e = .returned (.tuple #[v, .int .i64 0]) ∧ CM.Nrm (rngS f l) B ∧ Rd w' v (B.map pfx) ∧ Below w.heap.size w w' := by
  have hd : ¬ l < f := by omega
  have HP : Hid (∀ W v, RdQ W v [(f, l + 1)] → Calls Try.prog 64 #[v] W fun e w' => ∃ v' B, e = .returned v' ∧ CM.Nrm (rngS f l) B ∧ Rd w' v' (B.map pfx) ∧ Below W.heap.size W w') := fun W v hr =>
    rpref_any (rngS f l) [(f, l + 1)] v W (sep_one h) (fun x hx => by rw [List.mem_singleton] at hx; subst hx; dsimp only; omega) (by simp) hr
  go_enter Try.func34, Try.ntmps34
  go_wp2_with fail
  go_at_call 64
  refine (HP.out _ _ (rdQ_new w _ [(f, l + 1)] rfl (by simp [flatQ, encQ]) 1 rfl)).mono ?_
  rintro e w1 ⟨v', B, rfl, hN, hr, hb⟩
  have HN := Lib.hid (And.intro hN (And.intro hr (below_then (below_alloc _ _) hb)))
  clear hN hr hb
  go_wp2
  go_ret2
  exact ⟨v', B, rfl, HN.out⟩
theorem crange_bad (f l : Nat) (hf : f < 4294967296) (hl : l < 4294967296) (w : World) (h : l < f) :
    Calls Try.prog 5 #[.int .u32 (f : Int), .int .u32 (l : Int)] w fun e w' => e = .returned (.bool true) ∧ Below w.heap.size w w' := by
  have HA : Hid (∀ W, Calls Try.prog 33 #[.int .u32 (f : Int), .int .u32 (l : Int)] W fun e w' => e = .returned (.tuple #[.slice none 0 0, .int .i64 16]) ∧ Below W.heap.size W w') := fun W => range_bad f l hf hl W h
  have HB : Hid (∀ W, Calls Try.prog 34 #[.int .u32 (f : Int), .int .u32 (l : Int)] W fun e w' => e = .returned (.tuple #[.slice none 0 0, .int .i64 16]) ∧ Below W.heap.size W w') := fun W => rrange_bad f l hf hl W h
  have AW : Hid (∀ W, Calls Try.prog 17 #[] W fun e w' => e = .returned (.bool true) ∧ Below W.heap.size W w') := fun W => awake5_any W
  have HS : Hid (∀ W, Calls Try.prog 20 #[.slice none 0 0, .slice none 0 0] W fun e w' => e = .returned (.bool true) ∧ Below W.heap.size W w') := fun W => (sameP_any [] [] _ _ W (by simp [Big]) (rd_nil W) (rd_nil W)).mono fun e w' h => ⟨by rw [h.1]; simp, h.2⟩
  clear h
  go_enter Try.func5, Try.ntmps5
  go_wp2_with (first
    | (go_at_call 33; refine (HA.out _).mono ?_; rintro e w1 ⟨rfl, hb⟩; have B1 := Lib.hid hb; clear hb)
    | (go_at_call 34; refine (HB.out _).mono ?_; rintro e w2 ⟨rfl, hb⟩; have B2 := Lib.hid (below_then B1.out hb); clear hb)
    | (go_at_call 17; refine (AW.out _).mono ?_; rintro e w3 ⟨rfl, hb⟩; have B3 := Lib.hid (below_then B2.out hb); clear hb)
    | (go_at_call 20; refine (HS.out _).mono ?_; rintro e w4 ⟨rfl, hb⟩; have B4 := Lib.hid (below_then B3.out hb); clear hb))
  go_ret
  exact ⟨rfl, B4.out⟩
theorem crange_good (f l : Nat) (hf : f < 4294967296) (hl : l < 4294967296) (w : World) (h : f ≤ l) :
    Calls Try.prog 5 #[.int .u32 (f : Int), .int .u32 (l : Int)] w fun e w' => e = .returned (.bool true) ∧ Below w.heap.size w w' := by
  have HA : Hid (∀ W, Calls Try.prog 33 #[.int .u32 (f : Int), .int .u32 (l : Int)] W fun e w' => ∃ v B, e = .returned (.tuple #[v, .int .i64 0]) ∧ CM.Nrm (rngS f l) B ∧ Rd w' v (B.map pfx) ∧ Below W.heap.size W w') := fun W => range_any f l hf hl W h
  have HB : Hid (∀ W, Calls Try.prog 34 #[.int .u32 (f : Int), .int .u32 (l : Int)] W fun e w' => ∃ v B, e = .returned (.tuple #[v, .int .i64 0]) ∧ CM.Nrm (rngS f l) B ∧ Rd w' v (B.map pfx) ∧ Below W.heap.size W w') := fun W => rrange_any f l hf hl W h
  have AW : Hid (∀ W, Calls Try.prog 17 #[] W fun e w' => e = .returned (.bool true) ∧ Below W.heap.size W w') := fun W => awake5_any W
  go_enter Try.func5, Try.ntmps5
  go_wp2_with fail
  go_at_call 33
  refine (HA.out _).mono ?_
  rintro e w1 ⟨v1, B1, rfl, hN1, hr1, hb⟩
  have D1 := Lib.hid hb
  have h62 := CM.range_len hN1 (f := f) (h := l + 1) (by omega) (fun y => (rngS_iff f l y).trans (by omega))
  have R1 := Lib.hid (And.intro hN1 hr1)
  clear hb hN1 hr1
  go_wp2_with fail
  go_at_call 34
  refine (HB.out _).mono ?_
  rintro e w2 ⟨v2, B2, rfl, hN2, hr2, hb⟩
  have D2 := Lib.hid (below_then D1.out hb)
  have hBB : B2 = B1 := hN2.unique R1.out.1
  subst hBB
  have R2 := Lib.hid (And.intro (R1.out.2.below hb) hr2)
  clear hb hN2 hr2
  go_wp2_with fail
  go_at_call 17
  refine (AW.out _).mono ?_
  rintro e w3 ⟨rfl, hb⟩
  have D3 := Lib.hid (below_then D2.out hb)
  have R3 := Lib.hid (And.intro (R2.out.1.below hb) (R2.out.2.below hb))
  clear hb
  have HS : Hid (Calls Try.prog 20 #[v1, v2] w3 fun e w' => e = .returned (.bool true) ∧ Below w3.heap.size w3 w') := (sameP_any (B2.map pfx) (B2.map pfx) _ _ w3 (by unfold Big; rw [List.length_map]; omega) R3.out.1 R3.out.2).mono fun e w' h => ⟨by rw [h.1]; simp, h.2⟩
  obtain ⟨ad1, cap1, hv1⟩ := rdP_slice R3.out.1
  rw [List.length_map] at hv1
  generalize B2.length = N at *
  subst hv1
  clear h
  go_wp2_with (go_at_call 20; refine HS.out.mono ?_; rintro e w4 ⟨rfl, hb⟩; have D4 := Lib.hid (below_then D3.out hb); clear hb)
  go_ret
  exact ⟨ret_b (by simp; omega), D4.out⟩
end Go.Proofs.Ytegponbmelgngaa
end
