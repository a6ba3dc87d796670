/-
  The walk of the reader's extend, the other cases.
-/
import Derived.Test.YtiobfgcpbihbhaaGreatDoorAtP
import Derived.BigQuiet
namespace Go.Proofs.YtiobfgcpbihbhaaGreatDoor
open Go.RowKit P
set_option linter.unusedSimpArgs false
set_option linter.unusedVariables false
set_option maxHeartbeats 2000000
set_option maxRecDepth 100000
theorem ext_kind (B b : Nat) (k x : Int) (v : Value) (p : List Sg) (en : Bool) (w : World) (hr : RdrI B b v (p, en) w) (hp : p.length ≤ 1000000) (p0 : List Sg) (s : Sg) (hs : p = p0 ++ [s]) (hk : s.k ≠ k) :
    Calls Tryz.prog 108 #[.pointer (some ⟨b, 0, none⟩), .int .i64 k, .int .i64 x] w fun e w' => e = .returned (.tuple #[]) ∧ Below B w w' ∧ ∃ v', RdrI B b v' (ext k x p, en) w' := by
  have HEX : Hid (ext k x p = p ++ [⟨k, ([] : List Int) ++ [x]⟩]) := by show _ = _; rw [hs, ext_snoc, if_neg (fun h => hk h.1)]; simp
  generalize ext k x p = EX at *
  have HLO : Hid (B ≤ b) := hr.lo.1
  have HLO2 : Hid (b < w.heap.size) := hr.lo.2
  have hrr := hr.row
  have hrb := hr.blk
  dsimp only at hrr hrb
  obtain ⟨q, HQ, HOWN⟩ := hrr.parts
  have HROW0 := Lib.hid hrr
  have HBK0 := Lib.hid hrb
  obtain ⟨N, hN⟩ : ∃ N, p.length = N := ⟨_, rfl⟩
  have HNN := Lib.hid hN
  have C3 : Hid (w.cell? ⟨b, 0, none⟩ = some v) := cell_of hrb rfl
  obtain ⟨vad, vcap, hvf⟩ := (hrr.rd (by have := HLO.out; have := HLO2.out; omega)).form
  rw [hN] at hvf hp
  have d3 := C3.out
  have k1 : IntKind.i64.wrap ((N : Int) - 1) = (N : Int) - 1 := IntWalk.i64_in _ (by omega)
  have k2 : IntKind.i64.wrap ((N : Int) - 1 + 1) = (N : Int) := by rw [IntWalk.i64_in _ (by omega)]; omega
  obtain ⟨g, cap, hve, ho, hgb, hn⟩ : ∃ g cap, v = .slice (some ⟨g, 0, none⟩) N cap ∧ (∃ q, w.ownsRow B 46 2 v N (flatQ q) ∧ Prs g w q p) ∧ g ≠ b ∧ True := by
    rcases id hrr with ⟨_, e⟩ | ⟨g, cap, q, e, ho, hgb, hn⟩
    · rw [hs] at e; simp at e
    · rw [hN] at e ho
      exact ⟨g, cap, e, ⟨q, ho, hn.prs⟩, hgb, trivial⟩
  obtain ⟨q1, ho1, hn1⟩ := ho
  obtain ⟨M, hM⟩ : ∃ M, p0.length = M := ⟨_, rfl⟩
  have hNM : N = M + 1 := by rw [← hN, hs]; simp [hM]
  have hpm : p[M]? = some s := by rw [hs, ← hM]; simp
  obtain ⟨u, hqm, hru⟩ := hn1.2 M s hpm
  obtain ⟨ua, uc, hf⟩ := hru.rd.form
  subst hf
  obtain ⟨U, hU⟩ : ∃ U, s.as.length = U := ⟨_, rfl⟩
  rw [hU] at hqm 
  obtain ⟨f1, f2⟩ := flatQ_get hqm
  have hfl : (flatQ q1).length = N * 2 := by rw [flatQ_len, hn1.1, hN]
  subst hve
  have d0 : w.cell? ⟨g, M * 2, none⟩ = some (.int .i64 s.k) := by rw [ho1.cellAt (M * 2) (by omega)]; exact f1
  have d1 : w.cell? ⟨g, M * 2 + 1, none⟩ = some (.slice ua U uc) := by rw [ho1.cellAt (M * 2 + 1) (by omega)]; exact f2
  have k3 : decide ((N : Int) - 1 < 0) = false := decide_eq_false (by omega)
  have p2 : (0 : Int) ≤ (N : Int) - 1 := by omega
  have p3 : (N : Int) - 1 < (N : Int) := by omega
  have p5 : ((N : Int) - 1).toNat = M := by omega
  have p6 : (1 : Int) ≤ (N : Int) := by omega
  obtain ⟨sk, hsk⟩ : ∃ sk, s.k = sk := ⟨_, rfl⟩
  rw [hsk] at d0 hk
  have HI1 : Hid (RdI (w.alloc (.cells #[.int .i64 k] 3)) (.slice (some ⟨w.heap.size, 0, none⟩) 1 1) [k]) := rdi_at _ [k] 3 _ rfl _ rfl _ rfl (by simp)
  have HDE : Hid (decide (sk ∈ [k]) = false) := by show _ = _; simpa using hk
  clear hr hrr hrb hN ho1 hn1 hn hpm hqm hru f1 f2 hfl hM hNM hU hsk hs hgb hvf hk
  go_enter Tryz.func108, Tryz.ntmps108
  go_wp2_with fail
  go_at_call 44
  refine (isOf_any sk (.slice ua U uc) _ [k] _ HI1.out rfl).mono ?_
  rintro e w1 ⟨rfl, hb⟩
  rw [HDE.out]
  have HB1 := Lib.hid (below_then (below_alloc w _) hb)
  have t1 := carry HB1.out d1
  have t0 := carry HB1.out d0
  have t3' := carry HB1.out d3
  clear hb d0 d1 d3 HI1
  go_upto_region 2 with fail
  clear t0 t1 t3' p2 p3 p5 p6 
  obtain ⟨v, hv⟩ : ∃ v, Value.slice (some ⟨g, 0, none⟩) N cap = v := ⟨_, rfl⟩
  rw [hv] at HQ HOWN HROW0 HBK0 C3
  (try rw [hv])
  have HWS := Lib.hid HB1.out.size
  have HBa : Hid (Below w.heap.size w (w1.alloc (.cells #[.int .i64 k, .slice none 0 0] 46))) := below_then HB1.out (below_alloc _ _)
  have t3 := carry HB1.out C3.out
  have kb1 : Hid (w1.heap[b]? = some (.cells #[v, .bool en] 70 (0, 0))) := (HB1.out.block b HLO2.out).trans HBK0.out
  have HOW2 : Hid ((w1.alloc (.cells #[.int .i64 k, .slice none 0 0] 46)).ownsRow B 46 2 v N (flatQ q)) := by have := HOWN.out; rw [HNN.out] at this; exact row_below this HBa.out
  have HCE2 : Hid (∀ j y, [Value.int .i64 k, .slice none 0 0][j]? = some y → (w1.alloc (.cells #[.int .i64 k, .slice none 0 0] 46)).cell? ((⟨w1.heap.size, 0, none⟩ : Addr).add j) = some y) := fun j y hj => by
    match j, hj with
    | 0, hj => simp at hj; subst hj; rw [Addr.add_lit]; exact cell_of (World.alloc_heap_new w1 _) rfl
    | 1, hj => simp at hj; subst hj; rw [Addr.add_lit]; exact cell_of (World.alloc_heap_new w1 _) rfl
    | j + 2, hj => simp at hj
  have HON2 : Hid (∀ y ∈ [Value.int .i64 k, .slice none 0 0], y.oneCell' = true) := fun y hy => by
    simp at hy
    rcases hy with rfl | rfl <;> rfl
  have HMX2 : Hid (N + 1 ≤ maxLen) := by show _ ≤ _; unfold maxLen; omega
  have HBY2 : Hid ((N + 1) * 32 ≤ 140737488355328) := by show _ ≤ _; omega
  have HBB2 : Hid (B ≤ (w1.alloc (.cells #[.int .i64 k, .slice none 0 0] 46)).heap.size) := by show _ ≤ _; have := HLO.out; have := HLO2.out; have := HBa.out.size; omega
  have HPS : Hid (∀ (w12 : World) (g' cap' : Nat), w12.ownsRow B 46 2 (.slice (some ⟨g', 0, none⟩) (N + 1) cap') (N + 1) (flatQ q ++ [.int .i64 k, .slice none 0 0]) → (w1.alloc (.cells #[.int .i64 k, .slice none 0 0] 46)).grownBy w12 v.ownBlock → (v.ownBlock = some g' ∨ g' = (w1.alloc (.cells #[.int .i64 k, .slice none 0 0] 46)).heap.size) →
      RowR B b (.slice (some ⟨g', 0, none⟩) (N + 1) cap') (p ++ [⟨k, []⟩]) w12 ∧ w12.heap[b]? = w1.heap[b]? ∧ Below B w w12) := fun w12 g' cap' a1 a2 a3 => by
    have hvb : ∀ k, v.ownBlock = some k → k < w.heap.size ∧ B ≤ k ∧ k ≠ b := fun k hk => by
      rcases HQ.out with ⟨e, _⟩ | ⟨g, cap, e, hBg, hg, hgb, _⟩
      · rw [e] at hk; cases hk
      · rw [e] at hk; cases hk; exact ⟨hg, hBg, hgb⟩
    have hn := HNN.out
    have hou : OwnI w.heap.size (w1.alloc (.cells #[.int .i64 k, .slice none 0 0] 46)) (.slice none 0 0) [] := OwnI.nil _ _ HBa.out.size
    refine ⟨by subst hn; exact RowR.push (w0 := w) HROW0.out HQ.out HLO2.out (by have := HLO.out; have := HLO2.out; omega) HBa.out (Nat.le_refl _) hou a1 a2 a3, ?_, ?_⟩
    · have h1 : (w1.alloc (.cells #[.int .i64 k, .slice none 0 0] 46)).heap[b]? = w1.heap[b]? := Below.heap_alloc w1 _ b (lt_block kb1.out)
      rw [← h1]
      exact a2.block b (by have := lt_block kb1.out; simp; omega) (fun e => (hvb b e.symm).2.2 rfl)
    · exact (HBa.out.mono (by have := HLO.out; have := HLO2.out; omega)).grown a2 HBB2.out (fun k e => (hvb k e).2.1)
  obtain ⟨j0, hj, hj0, hj1, hj2⟩ := infoE_parts info46
  clear HOWN HWS
  go_wp2_with (at_builtin; refine wpList_append_lies _ rfl (.tmp 44) (.tmp 47) 22 rfl B 46 j0 (.agg #[.int .i64 0, .slice none 0 0]) 2 32 Tryz.underlying22 hj hj0 hj1 hj2 rfl (by decide) v N (flatQ q) rfl HOW2.out ⟨w1.heap.size, 0, none⟩ 1 1 [.int .i64 k, .slice none 0 0] rfl rfl HCE2.out HON2.out (by decide) HMX2.out HBY2.out HBB2.out _ rfl ?_; intro g1 cap1 w3 b1 b2 b3 b4; have HP3 := Lib.hid (HPS.out w3 g1 cap1 b1 b2 b3); have q3 : w3.cell? ⟨b, 0, none⟩ = some v := cell_of (HP3.out.2.1.trans kb1.out) rfl; have q4 : w3.frozen? ⟨b, 0, none⟩ = false := free_of (HP3.out.2.1.trans kb1.out) _; clear b1 b2 b3 b4)
  obtain ⟨V1, hV1⟩ : ∃ V1, Value.slice (some ⟨g1, 0, none⟩) (N + 1) cap1 = V1 := ⟨_, rfl⟩
  have HR3 := HP3.out.1
  rw [hV1] at HR3
  obtain ⟨X, hX⟩ : ∃ X, w3.setCell ⟨b, 0, none⟩ V1 = X := ⟨_, rfl⟩
  have HROW : Hid (RowR B b V1 (p ++ [⟨k, []⟩]) X) := by rw [← hX]; exact HR3.set
  have HBK : Hid (X.heap[b]? = some (.cells #[V1, .bool en] 70 (0, 0))) := by
    have := heap_set_eq (o := 0) (u := V1) (HP3.out.2.1.trans kb1.out)
    rw [hX] at this
    show X.heap[b]? = _
    simpa using this
  have HBW : Hid (Below B w X) := by rw [← hX]; exact HP3.out.2.2.setCell HLO.out _
  (try rw [hV1])
  (try rw [hX])
  clear HR3 HP3 q3 q4 HPS HOW2 HCE2 HON2 HMX2 HBY2 HBB2 HBa kb1 t3 hj hj0 hj1 hj2 hV1 hX HQ HROW0 HBK0 C3 HB1 k3
  -- the number behind the last segment
  have hrow := HROW.out
  obtain ⟨g, cap, q, hve, ho, hgb, hn⟩ : ∃ g cap q, V1 = .slice (some ⟨g, 0, none⟩) (p.length + 1) cap ∧ X.ownsRow B 46 2 V1 (p.length + 1) (flatQ q) ∧ g ≠ b ∧ NumsR B g b X q (p ++ [⟨k, ([] : List Int)⟩]) := by
    rcases hrow with ⟨_, e⟩ | ⟨g, cap, q, e, ho, hgb, hn⟩
    · simp at e
    · have el : (p ++ [(⟨k, ([] : List Int)⟩ : Sg)]).length = p.length + 1 := by simp
      rw [el] at e ho
      exact ⟨g, cap, q, e, ho, hgb, hn⟩
  obtain ⟨m, hm⟩ : ∃ m, p.length = m := ⟨_, rfl⟩
  rw [hm] at hve ho
  have hpm : (p ++ [(⟨k, ([] : List Int)⟩ : Sg)])[m]? = some ⟨k, ([] : List Int)⟩ := by rw [← hm]; simp
  obtain ⟨u, hqm, hru⟩ := hn.prs.2 m _ hpm
  obtain ⟨hl1, hl2⟩ := hn.last ⟨k, ([] : List Int)⟩ u (by simp [hm]) (by simp [hm]; exact hqm)
  dsimp only at hl1 hqm
  obtain ⟨ua, uc, hf⟩ := hl1.rd.form
  subst hf
  obtain ⟨U, hU⟩ : ∃ U, ([] : List Int).length = U := ⟨_, rfl⟩
  rw [hU] at hqm hl1 hl2
  subst hve
  obtain ⟨f1, f2⟩ := flatQ_get hqm
  have hfl : (flatQ q).length = (m + 1) * 2 := by rw [flatQ_len, hn.prs.1]; simp [hm]
  have d1 : X.cell? ⟨g, m * 2 + 1, none⟩ = some (.slice ua U uc) := by rw [ho.cellAt (m * 2 + 1) (by omega)]; exact f2
  have d2 : X.frozen? ⟨g, m * 2 + 1, none⟩ = false := ownsRow_free ho _
  have d3 : X.cell? ⟨b, 0, none⟩ = some (.slice (some ⟨g, 0, none⟩) (m + 1) cap) := cell_of HBK.out rfl
  have hgl := ownsRow_lt ho
  have hbl : b < X.heap.size := lt_block HBK.out
  have a0 : (X.drew.alloc (.cells #[.int .i64 x] 3)).cell? ⟨b, 0, none⟩ = some (.slice (some ⟨g, 0, none⟩) (m + 1) cap) := (World.cell?_of_block (Below.heap_alloc X.drew _ b hbl)).trans d3
  have a1 : (X.drew.alloc (.cells #[.int .i64 x] 3)).cell? ⟨g, m * 2 + 1, none⟩ = some (.slice ua U uc) := (World.cell?_of_block (Below.heap_alloc X.drew _ g hgl.2)).trans d1
  have HOW : Hid ((X.drew.alloc (.cells #[.int .i64 x] 3)).ownsRow B 3 1 (.slice ua U uc) U (ints ([] : List Int))) := by
    have := hl1.below ((Below.refl _ X).drew.alloc (Nat.le_refl _) (.cells #[.int .i64 x] 3))
    rw [← hU]; rw [← hU] at this; exact this.2
  have HCE : Hid (∀ j y, [Value.int .i64 x][j]? = some y → (X.drew.alloc (.cells #[.int .i64 x] 3)).cell? ((⟨X.heap.size, 0, none⟩ : Addr).add j) = some y) := fun j y hj => by
    match j, hj with
    | 0, hj => simp at hj; subst hj; rw [Addr.add_lit]; exact cell_of (World.alloc_heap_new X.drew _) rfl
    | j + 1, hj => simp at hj
  have HON : Hid (∀ y ∈ [Value.int .i64 x], y.oneCell' = true) := fun y hy => by simp at hy; subst hy; rfl
  have hUl : U ≤ 2000000 := by rw [← hU]; exact (by simp)
  have HMX : Hid (U + 1 ≤ maxLen) := by show _ ≤ _; unfold maxLen; omega
  have HBY : Hid ((U + 1) * 8 ≤ 140737488355328) := by show _ ≤ _; omega
  have HBB : Hid (B ≤ (X.drew.alloc (.cells #[.int .i64 x] 3)).heap.size) := by show _ ≤ _; simp; omega
  have HPU : Hid (∀ (w12 : World) (g' cap' : Nat), w12.ownsRow B 3 1 (.slice (some ⟨g', 0, none⟩) (U + 1) cap') (U + 1) (ints ([] : List Int) ++ [.int .i64 x]) → (X.drew.alloc (.cells #[.int .i64 x] 3)).grownBy w12 (Value.slice ua U uc).ownBlock → ((Value.slice ua U uc).ownBlock = some g' ∨ g' = (X.drew.alloc (.cells #[.int .i64 x] 3)).heap.size) →
      RdrI B b (.slice (some ⟨g, 0, none⟩) (m + 1) cap) (p ++ [⟨k, ([] : List Int) ++ [x]⟩], en) (w12.setCell ⟨g, m * 2 + 1, none⟩ (.slice (some ⟨g', 0, none⟩) (U + 1) cap')) ∧ Below B w (w12.setCell ⟨g, m * 2 + 1, none⟩ (.slice (some ⟨g', 0, none⟩) (U + 1) cap')) ∧ w12.cell? ⟨b, 0, none⟩ = some (.slice (some ⟨g, 0, none⟩) (m + 1) cap) ∧ w12.cell? ⟨g, m * 2 + 1, none⟩ = some (.slice ua U uc) ∧ w12.frozen? ⟨g, m * 2 + 1, none⟩ = false) := fun w12 g' cap' b1 b2 b3 => by
    have hw2 : Below X.heap.size X (X.drew.alloc (.cells #[.int .i64 x] 3)) := (Below.refl _ X).drew.alloc (Nat.le_refl _) _
    have hnb : ∀ j, (Value.slice ua U uc).ownBlock = some j → j ≠ g ∧ j ≠ b := fun j hj => ⟨(hl2 j hj).1, (hl2 j hj).2.1⟩
    have hlt : ∀ j, (Value.slice ua U uc).ownBlock = some j → B ≤ j := fun j hj => by rw [← hU] at hj hl1; exact (hl1.lt j hj).1
    have keepb : w12.heap[b]? = X.heap[b]? := (b2.block b (by simp; omega) (fun e => (hnb b e.symm).2 rfl)).trans (hw2.block b hbl)
    have keepg : w12.heap[g]? = X.heap[g]? := (b2.block g (by simp; omega) (fun e => (hnb g e.symm).1 rfl)).trans (hw2.block g hgl.2)
    have hou : OwnI B w12 (.slice (some ⟨g', 0, none⟩) (U + 1) cap') (([] : List Int) ++ [x]) := ⟨by have := b2.size; simp at this; omega, by rw [ints_app, List.length_append, hU]; exact b1⟩
    have hbw : Below B w w12 := (HBW.out.trans (hw2.mono (by omega))).grown b2 (by simp; omega) (fun j e => hlt j e)
    refine ⟨⟨⟨HLO.out, by have := b2.size; simp at this ⊢; omega⟩, (heap_set_ne (fun e => hgb e.symm)).trans (keepb.trans HBK.out), RowR.more hm hgb ho hn hqm hbl hw2 hou b2 (fun h hh => by cases hh; exact b3)⟩, hbw.setCell hgl.1 _, (World.cell?_of_block keepb).trans d3, (World.cell?_of_block keepg).trans d1, ?_⟩
    have : w12.frozen? ⟨g, m * 2 + 1, none⟩ = X.frozen? ⟨g, m * 2 + 1, none⟩ := by simp only [World.frozen?, keepg]
    rw [this]; exact d2
  have k0 : (0 : Int) ≤ (m : Int) := by omega
  have k1 : (m : Int) < (m : Int) + 1 := by omega
  have k2 : (m : Int) < ((m + 1 : Nat) : Int) := by omega
  obtain ⟨i0, hi, hz0, hz1, hz2⟩ := infoE_parts info3
  clear hrow ho hn hl1 hl2 hqm hru f1 f2 hpm HROW hfl 
  have hNm : N = m := by rw [← HNN.out, hm]
  subst hNm
  go_region_law ((refine step_append_lies _ (by rfl) (.tmp 65) (.tmp 67) 34 (by rfl) B 3 i0 (.int .i64 0) 1 8 Tryz.underlying34 hi hz0 hz1 hz2 rfl (by decide) (.slice ua U uc) U (ints ([] : List Int)) (by rfl) HOW.out ⟨X.heap.size, 0, none⟩ 1 1 [.int .i64 x] (by rfl) rfl HCE.out HON.out (by decide) HMX.out HBY.out HBB.out _ rfl ?_; intro g' cap' w12 b1 b2 b3 b4; have HPP := Lib.hid (HPU.out w12 g' cap' b1 b2 b3); have q12 := HPP.out.2.2.1; have q13 := HPP.out.2.2.2.1; have q14 := HPP.out.2.2.2.2; clear b1 b2 b3 b4))
  all_goals (
    go_wp2
    go_end0
    exact ⟨rfl, HPP.out.2.1, _, by rw [HEX.out]; exact HPP.out.1⟩)
end Go.Proofs.YtiobfgcpbihbhaaGreatDoor
