/-
  Plain facts for the law that lays the prefixes of a range into a trie; two lists of examples.
  The examples' answer.
  The walk of the law on members.
-/
import Derived.Test.YtegponbmelgngaaMgSc
import Derived.Test.YtegponbmelgngaaMgCe
section
namespace Go.Proofs.Ytegponbmelgngaa
set_option linter.unusedSimpArgs false
set_option linter.unusedVariables false

theorem nrm_list {S : Nat → Bool} {l : List (Nat × Nat)} (h : CM.Def l) (hS : ∀ y, S y = CM.setOf l y) : CM.Nrm S l := by
  have := h.nrm
  rwa [show CM.setOf l = S from (funext hS).symm] at this
theorem ex_range : CM.Nrm (rngS 167772161 167772166) [(167772161, 0), (167772162, 1), (167772164, 1), (167772166, 0)] := by
  refine nrm_list ⟨by decide, by decide, by decide, ?_, by decide⟩ fun y => ?_
  · intro x hx y hy z h1 h2
    simp only [List.mem_cons, List.not_mem_nil, or_false] at hx hy
    unfold CM.inB at h1 h2
    rcases hx with rfl | rfl | rfl | rfl <;> rcases hy with rfl | rfl | rfl | rfl <;> first | rfl | (exfalso; simp at h1 h2; omega)
  · rw [Bool.eq_iff_iff, rngS_iff, CM.setOf_iff]
    unfold CM.inB
    simp
    omega
def rowE (l : List PP) : List En := l.zipIdx.map (fun x => (x.1, (x.2 : Int)))
theorem rowE_len (l : List PP) : (rowE l).length = l.length := by unfold rowE; simp
theorem rowE_get (l : List PP) (k : Nat) : (rowE l)[k]? = l[k]?.map (fun p => (p, (k : Int))) := by
  unfold rowE; rw [List.getElem?_map, List.getElem?_zipIdx]; cases l[k]? <;> simp
theorem rowE_snoc {l : List PP} {k : Nat} {x : PP} (h : l[k]? = some x) : rowE (l.take (k + 1)) = rowE (l.take k) ++ [(x, (k : Int))] := by
  have hlt := (List.getElem?_eq_some_iff.1 h).1
  have e : (l.take k).length = k := by simp; omega
  rw [List.take_succ_eq_append_getElem hlt, (List.getElem?_eq_some_iff.1 h).2]
  unfold rowE
  rw [List.zipIdx_append]
  simp [e]
theorem rowE_mem {l : List PP} {e : En} (h : e ∈ rowE l) : ∃ k : Nat, e.2 = (k : Int) ∧ l[k]? = some e.1 := by
  obtain ⟨k, hk, rfl⟩ := List.mem_iff_getElem.1 h
  have := rowE_get l k
  rw [List.getElem?_eq_getElem hk] at this
  cases hl : l[k]? with
  | none => rw [hl] at this; cases this
  | some p => rw [hl] at this; simp at this; exact ⟨k, by rw [this], by rw [this]; exact hl⟩
theorem rowE_of {l : List PP} {k : Nat} {p : PP} (h : l[k]? = some p) : (p, (k : Int)) ∈ rowE l := by
  have := rowE_get l k
  rw [h] at this
  exact List.mem_of_getElem? this
theorem rowE_asc {l : List PP} (h : l.Pairwise ltP) : AscE (rowE l) := by
  refine List.pairwise_iff_getElem.2 fun i j hi hj hij => ?_
  have a := rowE_get l i
  have b := rowE_get l j
  rw [rowE_len] at hi hj
  rw [List.getElem?_eq_getElem (by rw [rowE_len]; exact hi), List.getElem?_eq_getElem hi] at a
  rw [List.getElem?_eq_getElem (by rw [rowE_len]; exact hj), List.getElem?_eq_getElem hj] at b
  simp at a b
  rw [a, b]
  exact List.pairwise_iff_getElem.1 h i j hi hj hij
theorem ins_last {E : List En} {e : En} (h : AscE (E ++ [e])) : insE E e = E ++ [e] := by
  have hlt : ∀ x ∈ E, ltP x.1 e.1 := fun x hx => (List.pairwise_append.1 h).2.2 x hx e (by simp)
  unfold insE
  rw [List.filter_eq_self.2 (fun x hx => by simp [hlt x hx]), List.filter_eq_nil_iff.2 (fun x hx => by simpa using fun g => ltP_asymm (hlt x hx) g)]
theorem asc_pfx {S : Nat → Bool} {B : List (Nat × Nat)} (h : CM.Nrm S B) : (B.map pfx).Pairwise ltP := by
  rw [List.pairwise_map]
  refine h.asc.imp fun {x y} hxy => ?_
  have := CM.pow_pos' x.2
  left
  show x.1 < y.1
  omega
theorem valid_pfx {S : Nat → Bool} {B : List (Nat × Nat)} (h : CM.Nrm S B) : ∀ p ∈ B.map pfx, V p = true := by
  intro p hp
  obtain ⟨x, hx, rfl⟩ := List.mem_map.1 hp
  exact V_pfx (h.le x hx) (h.al x hx)
theorem vld32 (a : Nat) : vld a 32 = true := by
  unfold vld; simp; rw [low_in (by decide) (by decide)]; exact M.keepN_all a
theorem C_con32 {p : PP} (a : Nat) (h : V p = true) : C p (a, 32) = con p.1 p.2 a := by
  have i := (V_iff p).1 h
  unfold C; exact cov_in (vld32 a) i.2.1
/-- the entries of the range's trie above an address -/
theorem row_upon {S : Nat → Bool} {B : List (Nat × Nat)} (h : CM.Nrm S B) (a : Nat) : (!((rowE (B.map pfx)).filter (fun x => C x.1 (a, 32))).isEmpty) = S a := by
  rw [← mem_pfx h, Bool.eq_iff_iff]
  constructor
  · intro hn
    obtain ⟨e, he⟩ : ∃ e, e ∈ (rowE (B.map pfx)).filter (fun x => C x.1 (a, 32)) := by
      cases hl : (rowE (B.map pfx)).filter (fun x => C x.1 (a, 32)) with
      | nil => rw [hl] at hn; cases hn
      | cons e r => exact ⟨e, by simp⟩
    obtain ⟨he1, he2⟩ := List.mem_filter.1 he
    obtain ⟨k, _, hk⟩ := rowE_mem he1
    have hm := List.mem_of_getElem? hk
    unfold mem
    rw [List.any_eq_true]
    exact ⟨e.1, hm, by rw [← C_con32 a (valid_pfx h _ hm)]; exact he2⟩
  · intro hm
    unfold mem at hm
    rw [List.any_eq_true] at hm
    obtain ⟨p, hp, hc⟩ := hm
    obtain ⟨k, hk, he⟩ := List.mem_iff_getElem.1 hp
    have hk' : (B.map pfx)[k]? = some p := by rw [List.getElem?_eq_getElem hk, he]
    have : (p, (k : Int)) ∈ (rowE (B.map pfx)).filter (fun x => C x.1 (a, 32)) := List.mem_filter.2 ⟨rowE_of hk', by rw [C_con32 a (valid_pfx h _ hp)]; exact hc⟩
    cases hl : (rowE (B.map pfx)).filter (fun x => C x.1 (a, 32)) with
    | nil => rw [hl] at this; cases this
    | cons e r => rfl
end Go.Proofs.Ytegponbmelgngaa
end

section
namespace Go.Proofs.Ytegponbmelgngaa
open Go.RowKit
set_option linter.unusedSimpArgs false
set_option linter.unusedVariables false
set_option maxHeartbeats 4000000
set_option maxRecDepth 100000

/-- lists of one, two, three, four prefixes in a block of their own -/
theorem rd_new (W : World) (cs : Array Value) (l : List PP) {b : Nat} (hb : b = W.heap.size) (h : cs.toList = flat l) (n : Nat) (hn : n = l.length) : Rd (W.alloc (.cells cs 28)) (.slice (some ⟨b, 0, none⟩) n n) l := by
  subst hb hn
  refine ⟨_, _, rfl, fun k x hk => ⟨W.heap.size, 0, rfl, by simp, ?_, ?_⟩⟩
  · have g := World.news_of_block (heap_alloc_new W (.cells cs 28)) (k * 2) _ (by rw [h]; exact (flat_get l k x hk).1)
    rwa [Addr.add_lit] at g
  · have g := World.news_of_block (heap_alloc_new W (.cells cs 28)) (k * 2 + 1) _ (by rw [h]; exact (flat_get l k x hk).2)
    rwa [Addr.add_lit] at g
theorem ex_normal : CM.Nrm (mem [(167772416, 24), (167772160, 24), (167772167, 32)]) [(167772160, 9)] := by
  refine nrm_list ⟨by decide, by decide, by decide, ?_, by decide⟩ fun y => ?_
  · intro x hx y hy z h1 h2
    simp only [List.mem_cons, List.not_mem_nil, or_false] at hx hy
    rcases hx with rfl; rcases hy with rfl; rfl
  · rw [Bool.eq_iff_iff, mem_iff, CM.setOf_iff]
    unfold CM.inB blk
    have v1 : V (167772416, 24) = true := by decide
    have v2 : V (167772160, 24) = true := by decide
    have v3 : V (167772167, 32) = true := by decide
    simp [v1, v2, v3]
    omega
theorem ex_subt : CM.Nrm (fun y => (mem [(167772160, 30)] y && !mem [(167772161, 32)] y)) [(167772160, 0), (167772162, 1)] := by
  refine nrm_list ⟨by decide, by decide, by decide, ?_, by decide⟩ fun y => ?_
  · intro x hx y hy z h1 h2
    simp only [List.mem_cons, List.not_mem_nil, or_false] at hx hy
    unfold CM.inB at h1 h2
    rcases hx with rfl | rfl <;> rcases hy with rfl | rfl <;> first | rfl | (exfalso; simp at h1 h2; omega)
  · have v1 : V (167772160, 30) = true := by decide
    have v2 : V (167772161, 32) = true := by decide
    have e1 : mem [(167772160, 30)] y = decide (167772160 ≤ y ∧ y < 167772164) := by
      rw [Bool.eq_iff_iff, mem_iff]; unfold CM.inB blk; simp [v1]
    have e2 : mem [(167772161, 32)] y = decide (167772161 ≤ y ∧ y < 167772162) := by
      rw [Bool.eq_iff_iff, mem_iff]; unfold CM.inB blk; simp [v2]
    rw [e1, e2, Bool.eq_iff_iff, CM.setOf_iff]
    unfold CM.inB
    simp
    omega
theorem ex_sum {lo hi : Nat} (h : Ends [(167772160, 24), (167772928, 24)] lo hi) : sumP lo hi = (167772160, 22) := by
  have v1 : V (167772160, 24) = true := by decide
  have v2 : V (167772928, 24) = true := by decide
  have e : ∀ y, mem [(167772160, 24), (167772928, 24)] y = true ↔ (167772160 ≤ y ∧ y < 167772416) ∨ (167772928 ≤ y ∧ y < 167773184) := fun y => by
    rw [mem_iff]; unfold CM.inB blk; simp [v1, v2]
  obtain ⟨h1, h2, h3⟩ := h
  rw [e] at h1 h2
  have g1 := h3 167772160 ((e _).2 (by omega))
  have g2 := h3 167773183 ((e _).2 (by omega))
  obtain rfl : lo = 167772160 := by omega
  obtain rfl : hi = 167773183 := by omega
  decide
theorem fit3 {l : List PP} (h : ∀ x ∈ l, x.1 < 4294967296 ∧ -9223372036854775808 ≤ x.2 ∧ x.2 ≤ 9223372036854775807) : FitL l := h
theorem awake5_any (w : World) : Calls Try.prog 17 #[] w fun e w' => e = .returned (.bool true) ∧ Below w.heap.size w w' := by
  have HN : Hid (∀ W v1, Rd W v1 [(167772416, 24), (167772160, 24), (167772167, 32)] → Calls Try.prog 21 #[v1] W fun e w' => ∃ v, e = .returned v ∧ Rd w' v [(167772160, 23)] ∧ Below W.heap.size W w') := fun W v1 h => by
    refine (normal_any _ v1 W (by simp [Big]) (fit3 (by decide)) h).mono ?_
    rintro e w' ⟨v, B, rfl, hB, hr, hb⟩
    rw [hB.unique ex_normal] at hr
    exact ⟨v, rfl, hr, hb⟩
  have HR : Hid (∀ W, Calls Try.prog 33 #[.int .u32 167772161, .int .u32 167772166] W fun e w' => ∃ v, e = .returned (.tuple #[v, .int .i64 0]) ∧ Rd w' v [(167772161, 32), (167772162, 31), (167772164, 31), (167772166, 32)] ∧ Below W.heap.size W w') := fun W => by
    refine (range_any 167772161 167772166 (by decide) (by decide) W (by decide)).mono ?_
    rintro e w' ⟨v, B, rfl, hB, hr, hb⟩
    rw [hB.unique ex_range] at hr
    exact ⟨v, rfl, hr, hb⟩
  have HS : Hid (∀ W v1, Rd W v1 [(167772160, 24), (167772928, 24)] → Calls Try.prog 18 #[v1] W fun e w' => e = .returned (.tuple #[.agg #[.int .u32 167772160, .int .i64 22], .bool true]) ∧ Below W.heap.size W w') := fun W v1 h => by
    have hne : ascd [(167772160, 24), (167772928, 24)] ≠ [] := fun he => by
      have := (ascd_mem [(167772160, 24), (167772928, 24)] (167772160, 24)).2 ⟨by simp, by decide⟩
      rw [he] at this; cases this
    refine (summary_some _ v1 W (by simp [Big]) (fit3 (by decide)) h hne).mono ?_
    rintro e w' ⟨lo, hi, rfl, hE, hb⟩
    rw [ex_sum hE]
    exact ⟨rfl, hb⟩
  have HD : Hid (∀ W v1 v2, Rd W v1 [(167772160, 30)] → Rd W v2 [(167772161, 32)] → Calls Try.prog 31 #[v1, v2] W fun e w' => ∃ ad cap, e = .returned (.slice ad 2 cap) ∧ Below W.heap.size W w') := fun W v1 v2 h1 h2 => by
    refine (subt_any _ _ v1 v2 W (by simp [Big]) (by simp [Big]) (fit3 (by decide)) (fit3 (by decide)) h1 h2).mono ?_
    rintro e w' ⟨v, B, rfl, hB, hr, hb⟩
    rw [hB.unique ex_subt] at hr
    obtain ⟨ad, cap, rfl⟩ := rdP_slice hr
    exact ⟨ad, cap, rfl, hb⟩
  have HE : Hid (∀ W v1 v2 l, Big l → Rd W v1 l → Rd W v2 l → Calls Try.prog 20 #[v1, v2] W fun e w' => e = .returned (.bool true) ∧ Below W.heap.size W w') := fun W v1 v2 l hl h1 h2 => by
    refine (sameP_any l l v1 v2 W hl h1 h2).mono ?_
    rintro e w' ⟨rfl, hb⟩
    exact ⟨by simp, hb⟩
  go_enter Try.func17, Try.ntmps17
  go_wp2_with fail
  refine (HN.out _ _ (rd_new w _ _ rfl (by simp [flat, encP]) 3 rfl)).mono ?_
  rintro e w1 ⟨v1, rfl, hr, hb⟩
  have B1 := Lib.hid (below_then (below_alloc _ _) hb)
  have R1 := Lib.hid hr
  clear hr hb
  go_wp2_with fail
  refine (HR.out _).mono ?_
  rintro e w2 ⟨v2, rfl, hr, hb⟩
  have B2 := Lib.hid (below_then B1.out hb)
  have R2 := Lib.hid (And.intro (R1.out.below hb) hr)
  clear hr hb
  go_wp2_with fail
  refine (HS.out _ _ (rd_new w2 _ _ rfl (by simp [flat, encP]) 2 rfl)).mono ?_
  rintro e w3 ⟨rfl, hb⟩
  have B3 := Lib.hid (below_then B2.out (below_then (below_alloc _ _) hb))
  have R3 := Lib.hid (And.intro (R2.out.1.below (below_then (below_alloc _ _) hb)) (R2.out.2.below (below_then (below_alloc _ _) hb)))
  clear hb
  go_wp2_with fail
  have B3a := Lib.hid (below_alloc w3 (.cells #[.int .u32 167772160, .int .i64 22] 28))
  have q0 : (w3.alloc (.cells #[.int .u32 167772160, .int .i64 22] 28)).cell? ⟨w3.heap.size, 0, none⟩ = some (.int .u32 167772160) := by simp
  have q1 : (w3.alloc (.cells #[.int .u32 167772160, .int .i64 22] 28)).cell? ⟨w3.heap.size, 1, none⟩ = some (.int .i64 22) := by simp
  have hz4 : (w3.alloc (.cells #[.int .u32 167772160, .int .i64 22] 28)).heap.size = w3.heap.size + 1 := by simp
  have R4 := Lib.hid (And.intro (R3.out.1.below B3a.out) (R3.out.2.below B3a.out))
  have B4 := Lib.hid (below_then B3.out B3a.out)
  obtain ⟨q, hq⟩ : ∃ q, w3.heap.size = q := ⟨_, rfl⟩
  rw [hq] at q0 q1 hz4 ⊢
  clear B3a
  generalize w3.alloc (.cells #[.int .u32 167772160, .int .i64 22] 28) = w4 at *
  have hq4 : q < w4.heap.size := by omega
  clear hq R3 B3 R2
  refine (HD.out _ _ _ ((rd_new w4 #[.int .u32 167772160, .int .i64 30] [(167772160, 30)] (b := q + 1) hz4.symm (by simp [flat, encP]) 1 rfl).below (below_alloc _ _)) (rd_new (w4.alloc (.cells #[.int .u32 167772160, .int .i64 30] 28)) #[.int .u32 167772161, .int .i64 32] [(167772161, 32)] (b := q + 1 + 1) (by simp; omega) (by simp [flat, encP]) 1 rfl)).mono ?_
  rintro e w5 ⟨ad5, cap5, rfl, hb⟩
  have hb5 := below_then (below_then (below_alloc _ _) (below_alloc _ _)) hb
  have B5 := Lib.hid (below_then B4.out hb5)
  have R5 := Lib.hid (And.intro (R4.out.1.below hb5) (R4.out.2.below hb5))
  have q0 := carry hb5 q0
  have q1 := carry hb5 q1
  clear hb hb5 R4 hq4 hz4
  go_wp2_with fail
  refine (HE.out _ _ _ _ (by simp [Big]) (R5.out.1.below (below_alloc _ _)) (rd_new w5 #[.int .u32 167772160, .int .i64 23] [(167772160, 23)] rfl (by simp [flat, encP]) 1 rfl)).mono ?_
  rintro e w6 ⟨rfl, hb⟩
  have hb6 := below_then (below_alloc _ _) hb
  have B6 := Lib.hid (below_then B5.out hb6)
  have R6 := Lib.hid (R5.out.2.below hb6)
  have q0 := carry hb6 q0
  have q1 := carry hb6 q1
  clear hb hb6
  go_wp2_with fail
  refine (HE.out _ _ _ _ (by simp [Big]) (R6.out.below (below_alloc _ _)) (rd_new w6 #[.int .u32 167772161, .int .i64 32, .int .u32 167772162, .int .i64 31, .int .u32 167772164, .int .i64 31, .int .u32 167772166, .int .i64 32] _ rfl (by simp [flat, encP]) 4 rfl)).mono ?_
  rintro e w7 ⟨rfl, hb⟩
  have hb7 := below_then (below_alloc _ _) hb
  have B7 := Lib.hid (below_then B6.out hb7)
  have q0 := carry hb7 q0
  have q1 := carry hb7 q1
  clear hb hb7
  go_wp2
  go_ret
  exact ⟨rfl, B7.out⟩
end Go.Proofs.Ytegponbmelgngaa
end

section
namespace Go.Proofs.Ytegponbmelgngaa
open Go.RowKit
set_option linter.unusedSimpArgs false
set_option linter.unusedVariables false
set_option maxHeartbeats 4000000
set_option maxRecDepth 100000

theorem large_yes (ad ad' : Option Addr) (n m cap cap' : Nat) (h : 60 < n ∨ 60 < m) (w : World) : Calls Try.prog 16 #[.slice ad n cap, .slice ad' m cap'] w fun e w' => e = .returned (.bool true) ∧ w = w' := by
  by_cases h1 : 60 < n
  · go_enter Try.func16, Try.ntmps16
    go_wp2
    go_ret
    exact ⟨rfl, rfl⟩
  · have h2 : 60 < m := by omega
    clear h
    go_enter Try.func16, Try.ntmps16
    go_wp2
    go_ret
    exact ⟨ret_b (by simp; omega), rfl⟩
theorem large_no (ad ad' : Option Addr) (n m cap cap' : Nat) (h1 : n ≤ 60) (h2 : m ≤ 60) (w : World) : Calls Try.prog 16 #[.slice ad n cap, .slice ad' m cap'] w fun e w' => e = .returned (.bool false) ∧ w = w' := by
  go_enter Try.func16, Try.ntmps16
  go_wp2
  go_ret
  exact ⟨ret_b (by simp; omega), rfl⟩
theorem rhas_any (l : List PP) (v : Value) (y : Nat) (hy : y < 4294967296) (w : World) (hl : Big l) (hf : FitL l) (hr : Rd w v l) :
    Calls Try.prog 36 #[v, .int .u32 (y : Int)] w fun e w' => e = .returned (.bool (mem l y)) ∧ Below w.heap.size w w' := by
  unfold Big at hl
  obtain ⟨ad, cap, rfl, hc⟩ := hr
  have HC := Lib.hid hc
  have HF := Lib.hid hf
  clear hc hf
  go_enter Try.func36, Try.ntmps36
  go_wp2
  go_loopg [9, 6] l.length (fun g s9 s6 wr => ∃ k : Nat, k ≤ l.length ∧ l.length - k ≤ g ∧ s9 = .int .i64 k ∧ Hid (Below w.heap.size w wr ∧ ∀ x ∈ l.take k, con x.1 x.2 y = false))
  case atStart => exact ⟨0, by omega, by omega, rfl, Below.refl _ _, by simp⟩
  case round =>
    obtain ⟨k, hk, hg, rfl, HB⟩ := hrel
    by_cases hlt : k < l.length
    · obtain ⟨x, hx⟩ : ∃ x, l[k]? = some x := ⟨_, List.getElem?_eq_getElem hlt⟩
      obtain ⟨blk, off, rfl, hblk, hc0, hc1⟩ := HC.out k x hx
      have f0 := carryB HB.out.1 hblk hc0
      have f1 := carryB HB.out.1 hblk hc1
      have HX := Lib.hid hx
      have hfx := HF.out x (List.mem_of_getElem? hx)
      obtain ⟨a, n⟩ := x
      have HV : Hid (∀ W, Calls Try.prog 77 #[.agg #[.int .u32 (a : Int), .int .i64 n], .int .u32 (y : Int)] W fun e w' => e = .returned (.bool (con a n y)) ∧ Below W.heap.size W w') := fun W => rcontains_any a hfx.1 n hfx.2 y hy W
      clear hc0 hc1 hx hfx
      dsimp only at f0 f1
      cases h : con a n y
      · have HH := Lib.hid h
        rw [h] at HV
        clear h
        go_wp2_with (go_at_call 77; refine (HV.out _).mono ?_; rintro e w1 ⟨rfl, hb⟩; have B := Lib.hid (below_then (HB.out.1.alloc HB.out.1.size _) hb); clear hb)
        go_roundg (l.length - (k + 1))
        case measure => omega
        case rel =>
          refine ⟨k + 1, by omega, Nat.le_refl _, by go_num, B.out, ?_⟩
          rw [take_snocP HX.out]
          intro y hy
          rcases List.mem_append.1 hy with hy | hy
          · exact HB.out.2 y hy
          · rw [List.mem_singleton] at hy; subst hy; exact HH.out
      · have HM : Hid (mem l y = true) := by show _ = _; unfold mem; rw [List.any_eq_true]; exact ⟨(a, n), List.mem_of_getElem? HX.out, h⟩
        rw [h] at HV
        clear h
        go_wp2_with (go_at_call 77; refine (HV.out _).mono ?_; rintro e w1 ⟨rfl, hb⟩; have B := Lib.hid (below_then (HB.out.1.alloc HB.out.1.size _) hb); clear hb)
        go_ret
        exact ⟨ret_b HM.out.symm, B.out⟩
    · have hkl : k = l.length := by omega
      subst hkl
      have HM : Hid (mem l y = false) := by
        show _ = _; unfold mem; rw [List.any_eq_false]
        intro x hx
        have := HB.out.2 x (by rw [List.take_length]; exact hx)
        rw [this]; simp
      go_wp2
      go_ret
      exact ⟨ret_b HM.out.symm, HB.out.1⟩
theorem big60 {l : List PP} (h : l.length ≤ 60) : Big l := by unfold Big; omega
theorem members_big (a b : List PP) (v1 v2 : Value) (x : Nat) (w : World) (h : 60 < a.length ∨ 60 < b.length) (hr1 : Rd w v1 a) (hr2 : Rd w v2 b) :
    Calls Try.prog 6 #[v1, v2, .int .u32 (x : Int)] w fun e w' => e = .returned (.bool true) ∧ Below w.heap.size w w' := by
  obtain ⟨ad, cap, rfl⟩ := rdP_slice hr1
  obtain ⟨ad', cap', rfl⟩ := rdP_slice hr2
  have HL := Lib.hid (large_yes ad ad' a.length b.length cap cap' h w)
  clear hr1 hr2 h
  go_enter Try.func6, Try.ntmps6
  go_wp2_with (first
    | (go_at_call 16; refine HL.out.mono ?_; rintro e w1 ⟨rfl, rfl⟩)
    | (go_at_call 17; refine (awake5_any _).mono ?_; rintro e w1 ⟨rfl, hb⟩; have B := Lib.hid hb; clear hb))
  go_ret
  exact ⟨rfl, B.out⟩
theorem members_small (a b : List PP) (v1 v2 : Value) (x : Nat) (w : World) (ha : a.length ≤ 60) (hb : b.length ≤ 60) (fa : FitL a) (fb : FitL b) (hx : x < 4294967296) (hr1 : Rd w v1 a) (hr2 : Rd w v2 b) :
    Calls Try.prog 6 #[v1, v2, .int .u32 (x : Int)] w fun e w' => e = .returned (.bool true) ∧ Below w.heap.size w w' := by
  have HA : Hid (∀ W, Below w.heap.size w W → Calls Try.prog 35 #[v1, .int .u32 (x : Int)] W fun e w' => e = .returned (.bool (mem a x)) ∧ Below W.heap.size W w') := fun W hW => has_any a v1 x hx W (big60 ha) fa (hr1.below hW)
  have HB : Hid (∀ W, Below w.heap.size w W → Calls Try.prog 35 #[v2, .int .u32 (x : Int)] W fun e w' => e = .returned (.bool (mem b x)) ∧ Below W.heap.size W w') := fun W hW => has_any b v2 x hx W (big60 hb) fb (hr2.below hW)
  have HRA : Hid (∀ W, Below w.heap.size w W → Calls Try.prog 36 #[v1, .int .u32 (x : Int)] W fun e w' => e = .returned (.bool (mem a x)) ∧ Below W.heap.size W w') := fun W hW => rhas_any a v1 x hx W (big60 ha) fa (hr1.below hW)
  have AW : Hid (∀ W, Calls Try.prog 17 #[] W fun e w' => e = .returned (.bool true) ∧ Below W.heap.size W w') := fun W => awake5_any W
  have HH : ∀ {S : Nat → Bool} {B : List (Nat × Nat)} {v : Value} {W : World}, CM.Nrm S B → (∀ y, S y = true → y < 4294967296) → Rd W v (B.map pfx) → Calls Try.prog 35 #[v, .int .u32 (x : Int)] W fun e w' => e = .returned (.bool (S x)) ∧ Below W.heap.size W w' := fun {S B v W} hN hS hr => by
    have := has_any (B.map pfx) v x hx W (by unfold Big; rw [List.length_map]; exact nrm_len hN hS) (fun p hp => ⟨fit_pfx hN hS p hp, V_I64 (valid_pfx hN p hp)⟩) hr
    rwa [mem_pfx hN] at this
  have mla := mem_lt (l := a) (fun p hp => (fa p hp).1)
  have mlb := mem_lt (l := b) (fun p hp => (fb p hp).1)
  have HN : Hid (∀ W, Below w.heap.size w W → Calls Try.prog 21 #[v1] W fun e w' => ∃ v, e = .returned v ∧ (∀ W', Below w'.heap.size w' W' → Calls Try.prog 35 #[v, .int .u32 (x : Int)] W' fun e w'' => e = .returned (.bool (mem a x)) ∧ Below W'.heap.size W' w'') ∧ Below W.heap.size W w') := fun W hW => by
    refine (normal_any a v1 W (big60 ha) fa (hr1.below hW)).mono ?_
    rintro e w' ⟨v, B, rfl, hN, hr, hb⟩
    exact ⟨v, rfl, fun W' h' => HH hN mla (hr.below h'), hb⟩
  have HU : Hid (∀ W, Below w.heap.size w W → Calls Try.prog 27 #[v1, v2] W fun e w' => ∃ v, e = .returned v ∧ (∀ W', Below w'.heap.size w' W' → Calls Try.prog 35 #[v, .int .u32 (x : Int)] W' fun e w'' => e = .returned (.bool (mem a x || mem b x)) ∧ Below W'.heap.size W' w'') ∧ Below W.heap.size W w') := fun W hW => by
    refine (union_any a b v1 v2 W (big60 ha) (big60 hb) fa fb (hr1.below hW) (hr2.below hW)).mono ?_
    rintro e w' ⟨v, B, rfl, hN, hr, hb⟩
    exact ⟨v, rfl, fun W' h' => HH hN (fun y hy => by rw [Bool.or_eq_true] at hy; exact hy.elim (mla y) (mlb y)) (hr.below h'), hb⟩
  have HI : Hid (∀ W, Below w.heap.size w W → Calls Try.prog 29 #[v1, v2] W fun e w' => ∃ v, e = .returned v ∧ (∀ W', Below w'.heap.size w' W' → Calls Try.prog 35 #[v, .int .u32 (x : Int)] W' fun e w'' => e = .returned (.bool (mem a x && mem b x)) ∧ Below W'.heap.size W' w'') ∧ Below W.heap.size W w') := fun W hW => by
    refine (inter_any a b v1 v2 W (big60 ha) (big60 hb) fa fb (hr1.below hW) (hr2.below hW)).mono ?_
    rintro e w' ⟨v, B, rfl, hN, hr, hb⟩
    exact ⟨v, rfl, fun W' h' => HH hN (fun y hy => by rw [Bool.and_eq_true] at hy; exact mla y hy.1) (hr.below h'), hb⟩
  have HD : Hid (∀ W, Below w.heap.size w W → Calls Try.prog 31 #[v1, v2] W fun e w' => ∃ v, e = .returned v ∧ (∀ W', Below w'.heap.size w' W' → Calls Try.prog 35 #[v, .int .u32 (x : Int)] W' fun e w'' => e = .returned (.bool (mem a x && !mem b x)) ∧ Below W'.heap.size W' w'') ∧ Below W.heap.size W w') := fun W hW => by
    refine (subt_any a b v1 v2 W (big60 ha) (big60 hb) fa fb (hr1.below hW) (hr2.below hW)).mono ?_
    rintro e w' ⟨v, B, rfl, hN, hr, hb⟩
    exact ⟨v, rfl, fun W' h' => HH hN (fun y hy => by rw [Bool.and_eq_true] at hy; exact mla y hy.1) (hr.below h'), hb⟩
  have HLg : Hid (Calls Try.prog 16 #[v1, v2] w fun e w' => e = .returned (.bool false) ∧ w = w') := by
    obtain ⟨ad, cap, rfl⟩ := rdP_slice hr1
    obtain ⟨ad', cap', rfl⟩ := rdP_slice hr2
    exact large_no ad ad' a.length b.length cap cap' ha hb w
  clear hr1 hr2 fa fb ha hb HH mla mlb
  generalize mem a x = p at *
  generalize mem b x = q at *
  cases p <;> cases q
  all_goals
    simp only [Bool.or_false, Bool.or_true, Bool.and_false, Bool.and_true, Bool.not_false, Bool.not_true, Bool.or_self, Bool.and_self] at HU HI HD
    go_enter Try.func6, Try.ntmps6
    go_wp2_with fail
    go_at_call 16
    refine HLg.out.mono ?_
    rintro e w1 ⟨rfl, rfl⟩
    go_wp2_with fail
    go_at_call 35
    refine (HA.out _ (Below.refl _ _)).mono ?_
    rintro e w2 ⟨rfl, hb⟩
    have B2 := Lib.hid hb
    clear hb
    go_wp2_with fail
    go_at_call 35
    refine (HB.out _ B2.out).mono ?_
    rintro e w3 ⟨rfl, hb⟩
    have B3 := Lib.hid (below_then B2.out hb)
    clear hb
    go_wp2_with fail
    go_at_call 36
    refine (HRA.out _ B3.out).mono ?_
    rintro e w4 ⟨rfl, hb⟩
    have B4 := Lib.hid (below_then B3.out hb)
    clear hb
    go_wp2_with fail
    go_at_call 21
    refine (HN.out _ B4.out).mono ?_
    rintro e w5 ⟨n5, rfl, h5, hb⟩
    have H5 := Lib.hid (h5 _ (Below.refl _ _))
    have B5 := Lib.hid (below_then B4.out hb)
    clear hb h5
    go_wp2_with fail
    go_at_call 35
    refine H5.out.mono ?_
    rintro e w6 ⟨rfl, hb⟩
    have B6 := Lib.hid (below_then B5.out hb)
    clear hb
    go_wp2_with fail
    go_at_call 17
    refine (AW.out _).mono ?_
    rintro e w7 ⟨rfl, hb⟩
    have B7 := Lib.hid (below_then B6.out hb)
    clear hb
    go_wp2_with fail
    go_at_call 27
    refine (HU.out _ B7.out).mono ?_
    rintro e w8 ⟨n8, rfl, h8, hb⟩
    have H8 := Lib.hid (h8 _ (Below.refl _ _))
    have B8 := Lib.hid (below_then B7.out hb)
    clear hb h8
    go_wp2_with fail
    go_at_call 35
    refine H8.out.mono ?_
    rintro e w9 ⟨rfl, hb⟩
    have B9 := Lib.hid (below_then B8.out hb)
    clear hb
    go_wp2_with fail
    go_at_call 29
    refine (HI.out _ B9.out).mono ?_
    rintro e w10 ⟨n10, rfl, h10, hb⟩
    have H10 := Lib.hid (h10 _ (Below.refl _ _))
    have B10 := Lib.hid (below_then B9.out hb)
    clear hb h10
    go_wp2_with fail
    go_at_call 35
    refine H10.out.mono ?_
    rintro e w11 ⟨rfl, hb⟩
    have B11 := Lib.hid (below_then B10.out hb)
    clear hb
    go_wp2_with fail
    go_at_call 31
    refine (HD.out _ B11.out).mono ?_
    rintro e w12 ⟨n12, rfl, h12, hb⟩
    have H12 := Lib.hid (h12 _ (Below.refl _ _))
    have B12 := Lib.hid (below_then B11.out hb)
    clear hb h12
    go_wp2_with fail
    go_at_call 35
    refine H12.out.mono ?_
    rintro e w13 ⟨rfl, hb⟩
    have B13 := Lib.hid (below_then B12.out hb)
    clear hb
    go_wp2
    go_ret
    exact ⟨rfl, B13.out⟩
end Go.Proofs.Ytegponbmelgngaa
end
