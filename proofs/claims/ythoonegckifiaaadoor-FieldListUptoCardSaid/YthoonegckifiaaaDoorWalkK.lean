/-
  The walk of the reference's TLVs.
-/
import Derived.Test.YthoonegckifiaaaDoorWalkJ
import Derived.Deep.RegionLaw
namespace Go.Proofs.YthoonegckifiaaaDoor
open Go.RowKit
set_option linter.unusedSimpArgs false
set_option linter.unusedVariables false
set_option maxHeartbeats 4000000
set_option maxRecDepth 100000

theorem own_far {w : World} {B s n : Nat} {e : TypeId} {v : Value} {xs : List Value} (h : w.ownsRow B e s v n xs) {p : Addr} (hp : p.block < B) (u : Value) : (w.setCell p u).ownsRow B e s v n xs :=
  ⟨h.1, h.2.imp id (fun ⟨g, cap, cur, a, b, c, d⟩ => ⟨g, cap, cur, a, b, (Below.heap_setCell w p u g (by omega)).trans c, d⟩)⟩
theorem ref_app {wr w2 : World} {k : Int} {v2 : Value} {p : List Nat} (hown : w2.ownsRow (wr.heap.size + 1) 5 1 v2 (([] : List Nat) ++ p).length (u8s (([] : List Nat) ++ p)))
    (hg : (wr.alloc (.cells #[.int .i64 k, .slice none 0 0] 36)).drew.grownBy w2 (Value.slice none 0 0).ownBlock) (hb : Bytes p) : w2.ownsRow (wr.heap.size + 1) 5 1 v2 p.length (u8s p) ∧ Blk w2 wr.heap.size 36 #[.int .i64 k, .slice none 0 0] ∧ Below wr.heap.size wr w2 := by
  rw [List.nil_append] at hown
  have h0 : Blk (wr.alloc (.cells #[.int .i64 k, .slice none 0 0] 36)) wr.heap.size 36 #[.int .i64 k, .slice none 0 0] := Blk.new _ _ _
  have h1 : Below (wr.alloc (.cells #[.int .i64 k, .slice none 0 0] 36)).drew.heap.size (wr.alloc (.cells #[.int .i64 k, .slice none 0 0] 36)).drew w2 := (Below.refl _ _).grown hg (Nat.le_refl _) (fun j hj => by cases hj)
  exact ⟨hown, h0.drew.below h1 (by simp), (below_drew ((Below.refl wr.heap.size wr).alloc (Nat.le_refl _) _)).trans (h1.mono (by simp))⟩
theorem rtlvs_any (l : List Nat) (v : Value) (w : World) (hl : l.length ≤ 1048576) (hr : Rd w v l) :
    Calls Tryd.prog 23 #[v] w (TlvPost l w) := by
  obtain ⟨i0, hi, hz0, hz1, hz2⟩ := info_parts tlv_info
  obtain ⟨i5, hi5, hz50, hz51, hz52⟩ := info_parts u8_info
  have HR := Lib.hid hr
  have HBY := Lib.hid hr.bytes
  have hcap : ∃ ad cap, v = .slice ad l.length cap ∧ l.length ≤ cap ∧ At w w.heap.size ad l := by obtain ⟨ad, cap, e, h, _, h2⟩ := hr; exact ⟨ad, cap, e, h, h2⟩
  obtain ⟨ad, cap, rfl, hcap, hat⟩ := hcap
  have HAT := Lib.hid hat
  have HG2 : Hid (∀ (a : Nat) (W : World), Below w.heap.size w W → a + 3 ≤ l.length → Calls Tryd.prog 11 #[.slice ad l.length cap, .int .i64 ((a : Int) + 1), .int .i64 2] W fun e w' => e = .returned (.tuple #[.int .u64 (beV ((l.drop (a + 1)).take 2) : Nat), .bool true]) ∧ W = w') :=
    fun a W hW ha => rget_yes l _ (a + 1) 2 W (by omega) (HR.out.below hW) (by omega) (by omega)
  have HGN : Hid (∀ (a : Nat) (W : World), Below w.heap.size w W → a ≤ l.length → l.length < a + 3 → Calls Tryd.prog 11 #[.slice ad l.length cap, .int .i64 ((a : Int) + 1), .int .i64 2] W fun e w' => e = .returned (.tuple #[.int .u64 0, .bool false]) ∧ W = w') :=
    fun a W hW h1 ha => rget_no l _ ((a : Int) + 1) 2 W (by omega) (HR.out.below hW) (by omega) (by omega) (by omega)
  clear hr hat
  go_enter Tryd.func23, Tryd.ntmps23
  go_wp2
  go_loopg [4, 5, 6, 7, 8] l.length (fun g s4 s5 _ _ _ wr => ∃ (a : Nat) (v : Value) (us : List (Int × Value)) (ts : List (Nat × List Nat)), a ≤ l.length ∧ l.length - a ≤ g ∧ v = s4 ∧ s5 = .int .i64 a ∧ us.length ≤ a ∧ wr.ownsRow w.heap.size 36 2 v us.length (flatT us) ∧ Fit wr us (ts.map toI) ∧ Hid (tlvs l = (tlvs (l.drop a)).map (ts ++ ·)) ∧ Below w.heap.size w wr)
  case atStart => exact ⟨0, _, [], [], by omega, by omega, rfl, rfl, Nat.le_refl _, World.ownsRow_nil _ _ _ _, fit_nil _, by simp [Hid], Below.refl _ _⟩
  case round =>
    obtain ⟨a, v, us, ts, ha, hg, rfl, rfl, hus, hown, hfit, HT, hbel⟩ := hrel
    have HO := Lib.hid hown
    have HF := Lib.hid hfit
    have HW := Lib.hid hbel
    have HUS := Lib.hid hus
    clear hown hfit hbel hus
    by_cases hlt : a < l.length
    · by_cases h3 : a + 3 ≤ l.length
      · obtain ⟨k, sz, hk, hsz, hk1, hs1, hk2, hst⟩ := tlv_step l a HBY.out h3
        have HST := Lib.hid hst
        have HC2 : Hid (∀ (W : World), Below w.heap.size w W → Calls Tryd.prog 11 #[.slice ad l.length cap, .int .i64 ((a : Int) + 1), .int .i64 2] W fun e w' => e = .returned (.tuple #[.int .u64 sz, .bool true]) ∧ W = w') := fun W hW => hs1 ▸ HG2.out a W hW h3
        have HK2 := Lib.hid hk2
        clear hst hk1 hs1 hk2
        by_cases he : l.length < a + 3 + sz
        · have HN : Hid (tlvs l = none) := by unfold Hid; rw [HT.out, HST.out, if_pos he]; rfl
          go_wp2_with (go_at_call 11; ((with_reducible refine (HC2.out _ HW.out).mono ?_); rintro e w' ⟨rfl, rfl⟩))
          go_ret2
          exact ⟨.inl ⟨HN.out, rfl⟩, HW.out⟩
        · have HN : Hid (tlvs l = (tlvs (l.drop (a + 3 + sz))).map ((ts ++ [(k, (l.drop (a + 3)).take sz)]) ++ ·)) := by
            unfold Hid
            rw [HT.out, HST.out, if_neg he]
            cases tlvs (l.drop (a + 3 + sz)) <;> simp
          obtain ⟨blk, off, rfl, hblk, hc0⟩ := HAT.out a k HK2.out
          have hcx : wr.cell? ⟨blk, off + a, none⟩ = some (.int .u8 (k : Int)) := (HW.out.cell (p := ⟨blk, off + a, none⟩) hblk).trans hc0
          have hne : ¬ blk = wr.heap.size := by have := HW.out.size; omega
          obtain ⟨p, hp⟩ : ∃ p, p = (l.drop (a + 3)).take sz := ⟨_, rfl⟩
          have HP := Lib.hid hp
          clear hp
          have HPB : Hid (Bytes p) := by unfold Hid; rw [HP.out]; exact (HBY.out.drop _).take _
          by_cases hcc : cap = a + 3
          · have HRP : Hid (∀ W, Below w.heap.size w W → Rd W (.slice (some ⟨blk, off, none⟩) 0 0) p) := fun W hW => by
              have e : p = [] := by rw [HP.out, List.drop_of_length_le (by omega)]; simp
              rw [e]; exact rd_empty _ _ _
            have hsz0 : sz = 0 := by omega
            subst hsz0
            subst hcc
            go_wp2_with (go_at_call 11; ((with_reducible refine (HC2.out _ HW.out).mono ?_); rintro e w' ⟨rfl, rfl⟩))
            have q1 : (0 : Int) ≤ (a : Int) + 3 := by omega
            have q2 : (a : Int) + 3 ≤ (a : Int) + 3 := by omega
            have q4 : ((a : Int) + 3).toNat = a + 3 := by omega
            have q6 : IntKind.i64.wrap ((a : Int) + 3) = (a : Int) + 3 := IntWalk.i64_in _ (by omega)
            have q7 : IntKind.i64.wrap ((a : Int) + 3 + 0) = (a : Int) + 3 := by rw [Int.add_zero]; exact q6
            have q8 : IntKind.i64.wrap 0 = 0 := IntWalk.i64_in _ (by omega)
            have q9 : a + 3 - (a + 3) = 0 := by omega
            have HAL : Hid (([] : List Nat).length + p.length ≤ 140737489403904) := by unfold Hid; rw [HP.out]; simp
            have HB0 := Lib.hid ((Below.refl wr.heap.size wr).alloc (Nat.le_refl _) (.cells #[.int .i64 (k : Int), .slice none 0 0] 36))
            have HBK : Hid (Blk (wr.alloc (.cells #[.int .i64 (k : Int), .slice none 0 0] 36)) wr.heap.size 36 #[.int .i64 (k : Int), .slice none 0 0]) := Blk.new _ _ _
            have HRW : Hid (Rd (wr.alloc (.cells #[.int .i64 (k : Int), .slice none 0 0] 36)).drew (.slice (some ⟨blk, off, none⟩) 0 0) p) := HRP.out _ (below_drew (HW.out.trans (HB0.out.mono HW.out.size)))
            go_region_law (
              refine step_append_rd _ rfl (.tmp 39) (.tmp 48) 22 rfl (wr.heap.size + 1) 5 i5 Tryd.underlying22 hi5 hz50 hz51 hz52 (.slice none 0 0) [] (by rfl) (World.ownsRow_nil _ _ _ _) _ p (by rfl) HRW.out HAL.out (by simp) ?_
              intro v2 w2 hown2 hg2
              have X2 := Lib.hid (ref_app hown2 hg2 HPB.out)
              have c0 := X2.out.2.1.cell 0
              have c1 := X2.out.2.1.cell 1
              have f1 := X2.out.2.1.frozen 1
              simp at c0 c1
              obtain ⟨A, c2, rfl, _⟩ := rd_own X2.out.1 HPB.out
              clear hown2 hg2)
            have X3 : Hid (Own5 (w2.setCell ⟨wr.heap.size, 1, none⟩ (.slice A p.length c2)) (.slice A p.length c2) p ∧ Below wr.heap.size wr (w2.setCell ⟨wr.heap.size, 1, none⟩ (.slice A p.length c2))) :=
              ⟨⟨_, own_far X2.out.1 (p := ⟨_, _, none⟩) (Nat.lt_succ_self _) _, HPB.out⟩, X2.out.2.2.setCell (p := ⟨_, _, none⟩) (Nat.le_refl _) _⟩
            go_wp2_with (
              at_builtin
              refine wpList_append_own _ rfl (.tmp 51) (.tmp 53) 39 rfl w.heap.size 36 i0 (.agg #[.int .i64 0, .slice none 0 0]) 2 32 Tryd.underlying39 hi hz0 hz1 hz2 rfl (by decide) v us.length (flatT us) rfl ((own_below HO.out X3.out.2).alloc _) ⟨w2.heap.size, 0, none⟩ 1 1 [.int .i64 k, .slice A p.length c2] rfl rfl (by have := cell_two_new (w2.setCell ⟨wr.heap.size, 1, none⟩ (.slice A p.length c2)) (.int .i64 k) (.slice A p.length c2) 36; simpa using this) (one_tlv _ _ _ _) (by have := HUS.out; unfold maxLen; omega) (by have := HUS.out; omega) (by have := HW.out.size; have := X3.out.2.size; simp at this ⊢; omega) ?_
              intro v3 w3 hown3 hg3 hnil3
              have hbw := below_grown (B := w.heap.size) ((HW.out.trans (X3.out.2.mono HW.out.size)).alloc (by have := HW.out.size; have := X3.out.2.size; omega) _) ((own_below HO.out X3.out.2).alloc _) hg3 (by have := HW.out.size; have := X3.out.2.size; simp at this ⊢; omega)
              have X4 : Hid (w3.ownsRow w.heap.size 36 2 v3 (us ++ [((k : Int), Value.slice A p.length c2)]).length (flatT (us ++ [((k : Int), Value.slice A p.length c2)])) ∧ Fit w3 (us ++ [((k : Int), Value.slice A p.length c2)]) ((ts ++ [(k, p)]).map toI) ∧ Below w.heap.size w w3) := by
                refine ⟨by rw [flatT_snoc, List.length_append]; exact hown3, ?_, hbw⟩
                rw [List.map_append]
                have ha := (Below.refl (w2.setCell ⟨wr.heap.size, 1, none⟩ (.slice A p.length c2)).heap.size (w2.setCell ⟨wr.heap.size, 1, none⟩ (.slice A p.length c2))).alloc (Nat.le_refl _) (.cells #[.int .i64 (k : Int), .slice A p.length c2] 36)
                exact (((HF.out.below X3.out.2).below ha).grown ((own_below HO.out X3.out.2).alloc _) hg3).snoc ((X3.out.1.below ha).grown ((own_below HO.out X3.out.2).alloc _) hg3)
              clear hown3 hbw hg3 hnil3)
            go_roundg (l.length - (a + 3 + 0))
            case measure => omega
            case rel => exact ⟨a + 3 + 0, v3, _, ts ++ [(k, p)], by omega, Nat.le_refl _, rfl, by go_num, by have := HUS.out; simp; omega, X4.out.1, X4.out.2.1, by unfold Hid; rw [HP.out]; exact HN.out, X4.out.2.2⟩
          · have HRP : Hid (∀ W, Below w.heap.size w W → Rd W (.slice (some ⟨blk, off + (a + 3), none⟩) sz (cap - (a + 3))) p) := fun W hW => by rw [HP.out]; exact rd_mid (HR.out.below hW) (a + 3) sz (by omega)
            go_wp2_with (go_at_call 11; ((with_reducible refine (HC2.out _ HW.out).mono ?_); rintro e w' ⟨rfl, rfl⟩))
            have q1 : (0 : Int) ≤ (a : Int) + 3 := by omega
            have q2 : (a : Int) + 3 ≤ (a : Int) + 3 + sz := by omega
            have q3 : (a : Int) + 3 + sz ≤ (cap : Int) := by omega
            have q4 : ((a : Int) + 3).toNat = a + 3 := by omega
            have q5 : ((a : Int) + 3 + sz).toNat = a + 3 + sz := by omega
            have q6 : IntKind.i64.wrap ((a : Int) + 3) = (a : Int) + 3 := IntWalk.i64_in _ (by omega)
            have q7 : IntKind.i64.wrap ((a : Int) + 3 + sz) = (a : Int) + 3 + sz := IntWalk.i64_in _ (by omega)
            have q8 : IntKind.i64.wrap (sz : Int) = (sz : Int) := IntWalk.i64_in _ (by omega)
            have q9 : a + 3 + sz - (a + 3) = sz := by omega
            have HAL : Hid (([] : List Nat).length + p.length ≤ 140737489403904) := by unfold Hid; rw [HP.out]; simp; omega
            have HB0 := Lib.hid ((Below.refl wr.heap.size wr).alloc (Nat.le_refl _) (.cells #[.int .i64 (k : Int), .slice none 0 0] 36))
            have HBK : Hid (Blk (wr.alloc (.cells #[.int .i64 (k : Int), .slice none 0 0] 36)) wr.heap.size 36 #[.int .i64 (k : Int), .slice none 0 0]) := Blk.new _ _ _
            have HRW : Hid (Rd (wr.alloc (.cells #[.int .i64 (k : Int), .slice none 0 0] 36)).drew (.slice (some ⟨blk, off + (a + 3), none⟩) sz (cap - (a + 3))) p) := HRP.out _ (below_drew (HW.out.trans (HB0.out.mono HW.out.size)))
            go_region_law (
              refine step_append_rd _ rfl (.tmp 39) (.tmp 48) 22 rfl (wr.heap.size + 1) 5 i5 Tryd.underlying22 hi5 hz50 hz51 hz52 (.slice none 0 0) [] (by rfl) (World.ownsRow_nil _ _ _ _) _ p (by rfl) HRW.out HAL.out (by simp) ?_
              intro v2 w2 hown2 hg2
              have X2 := Lib.hid (ref_app hown2 hg2 HPB.out)
              have c0 := X2.out.2.1.cell 0
              have c1 := X2.out.2.1.cell 1
              have f1 := X2.out.2.1.frozen 1
              simp at c0 c1
              obtain ⟨A, c2, rfl, _⟩ := rd_own X2.out.1 HPB.out
              clear hown2 hg2)
            have X3 : Hid (Own5 (w2.setCell ⟨wr.heap.size, 1, none⟩ (.slice A p.length c2)) (.slice A p.length c2) p ∧ Below wr.heap.size wr (w2.setCell ⟨wr.heap.size, 1, none⟩ (.slice A p.length c2))) :=
              ⟨⟨_, own_far X2.out.1 (p := ⟨_, _, none⟩) (Nat.lt_succ_self _) _, HPB.out⟩, X2.out.2.2.setCell (p := ⟨_, _, none⟩) (Nat.le_refl _) _⟩
            go_wp2_with (
              at_builtin
              refine wpList_append_own _ rfl (.tmp 51) (.tmp 53) 39 rfl w.heap.size 36 i0 (.agg #[.int .i64 0, .slice none 0 0]) 2 32 Tryd.underlying39 hi hz0 hz1 hz2 rfl (by decide) v us.length (flatT us) rfl ((own_below HO.out X3.out.2).alloc _) ⟨w2.heap.size, 0, none⟩ 1 1 [.int .i64 k, .slice A p.length c2] rfl rfl (by have := cell_two_new (w2.setCell ⟨wr.heap.size, 1, none⟩ (.slice A p.length c2)) (.int .i64 k) (.slice A p.length c2) 36; simpa using this) (one_tlv _ _ _ _) (by have := HUS.out; unfold maxLen; omega) (by have := HUS.out; omega) (by have := HW.out.size; have := X3.out.2.size; simp at this ⊢; omega) ?_
              intro v3 w3 hown3 hg3 hnil3
              have hbw := below_grown (B := w.heap.size) ((HW.out.trans (X3.out.2.mono HW.out.size)).alloc (by have := HW.out.size; have := X3.out.2.size; omega) _) ((own_below HO.out X3.out.2).alloc _) hg3 (by have := HW.out.size; have := X3.out.2.size; simp at this ⊢; omega)
              have X4 : Hid (w3.ownsRow w.heap.size 36 2 v3 (us ++ [((k : Int), Value.slice A p.length c2)]).length (flatT (us ++ [((k : Int), Value.slice A p.length c2)])) ∧ Fit w3 (us ++ [((k : Int), Value.slice A p.length c2)]) ((ts ++ [(k, p)]).map toI) ∧ Below w.heap.size w w3) := by
                refine ⟨by rw [flatT_snoc, List.length_append]; exact hown3, ?_, hbw⟩
                rw [List.map_append]
                have ha := (Below.refl (w2.setCell ⟨wr.heap.size, 1, none⟩ (.slice A p.length c2)).heap.size (w2.setCell ⟨wr.heap.size, 1, none⟩ (.slice A p.length c2))).alloc (Nat.le_refl _) (.cells #[.int .i64 (k : Int), .slice A p.length c2] 36)
                exact (((HF.out.below X3.out.2).below ha).grown ((own_below HO.out X3.out.2).alloc _) hg3).snoc ((X3.out.1.below ha).grown ((own_below HO.out X3.out.2).alloc _) hg3)
              clear hown3 hbw hg3 hnil3)
            go_roundg (l.length - (a + 3 + sz))
            case measure => omega
            case rel => exact ⟨a + 3 + sz, v3, _, ts ++ [(k, p)], by omega, Nat.le_refl _, rfl, by go_num, by have := HUS.out; simp; omega, X4.out.1, X4.out.2.1, by unfold Hid; rw [HP.out]; exact HN.out, X4.out.2.2⟩
      · have HN : Hid (tlvs l = none) := by
          unfold Hid
          rw [HT.out]
          have : tlvs (l.drop a) = none := by
            match h : l.drop a, (show (l.drop a).length = l.length - a by simp) with
            | [], h' => simp at h'; omega
            | [_], _ => rfl
            | [_, _], _ => rfl
            | _ :: _ :: _ :: _, h' => simp at h'; omega
          rw [this]; rfl
        go_wp2_with (go_at_call 11; ((with_reducible refine (HGN.out a _ HW.out (by omega) (by omega)).mono ?_); rintro e w' ⟨rfl, rfl⟩))
        go_ret2
        exact ⟨.inl ⟨HN.out, rfl⟩, HW.out⟩
    · have hal : a = l.length := by omega
      subst hal
      have HN : Hid (tlvs l = some ts) := by unfold Hid; rw [HT.out, List.drop_length]; simp [tlvs_nil]
      go_wp2
      go_ret2
      exact ⟨.inr ⟨ts, v, HN.out, rfl, rdt_own HO.out HF.out⟩, HW.out⟩
end Go.Proofs.YthoonegckifiaaaDoor
