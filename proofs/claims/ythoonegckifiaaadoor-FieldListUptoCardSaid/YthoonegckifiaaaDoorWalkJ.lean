/-
  A slice of typed fields as memory reads; the walk of TLVs.
-/
import Derived.Test.YthoonegckifiaaaDoorWalkI
namespace Go.Proofs.YthoonegckifiaaaDoor
open Go.RowKit
set_option linter.unusedSimpArgs false
set_option linter.unusedVariables false
set_option maxHeartbeats 4000000
set_option maxRecDepth 100000

abbrev TV := Int × List Nat
/-- a slice of fields that reads as these -/
def RdT (w : World) (v : Value) (ts : List TV) : Prop :=
  ∃ ad cap, v = .slice ad ts.length cap ∧ ∀ (k : Nat) (t : TV), ts[k]? = some t → ∃ b off u, ad = some ⟨b, off, none⟩ ∧ b < w.heap.size ∧ w.cell? ⟨b, off + k * 2, none⟩ = some (.int .i64 t.1) ∧ w.cell? ⟨b, off + k * 2 + 1, none⟩ = some u ∧ Rd w u t.2
theorem RdT.below {w w' : World} {v : Value} {ts : List TV} (h : RdT w v ts) (hb : Below w.heap.size w w') : RdT w' v ts := by
  obtain ⟨ad, cap, rfl, hc⟩ := h
  refine ⟨ad, cap, rfl, fun k t hk => ?_⟩
  obtain ⟨b, off, u, e, hlt, h0, h1, h2⟩ := hc k t hk
  exact ⟨b, off, u, e, Nat.lt_of_lt_of_le hlt hb.size, (hb.cell (p := ⟨b, off + k * 2, none⟩) hlt).trans h0, (hb.cell (p := ⟨b, off + k * 2 + 1, none⟩) hlt).trans h1, h2.below hb⟩
theorem rdt_nil (w : World) : RdT w (.slice none 0 0) [] := ⟨none, 0, rfl, fun k t h => by simp at h⟩
def flatT (us : List (Int × Value)) : List Value := us.flatMap fun u => [.int .i64 u.1, u.2]
theorem flatT_len (us : List (Int × Value)) : (flatT us).length = us.length * 2 := by
  induction us with
  | nil => rfl
  | cons x r ih => unfold flatT at *; rw [List.flatMap_cons, List.length_append, ih, List.length_cons]; simp; omega
theorem flatT_snoc (us : List (Int × Value)) (k : Int) (u : Value) : flatT (us ++ [(k, u)]) = flatT us ++ [.int .i64 k, u] := by unfold flatT; simp
theorem flatT_get : ∀ (us : List (Int × Value)) (k : Nat) (u : Int × Value), us[k]? = some u → (flatT us)[k * 2]? = some (.int .i64 u.1) ∧ (flatT us)[k * 2 + 1]? = some u.2
  | [], k, x, h => by simp at h
  | y :: r, 0, x, h => by simp at h; subst h; simp [flatT]
  | y :: r, k + 1, x, h => by
    have ih := flatT_get r k x (by simpa using h)
    have e : flatT (y :: r) = .int .i64 y.1 :: y.2 :: flatT r := by simp [flatT]
    rw [e, show (k + 1) * 2 = k * 2 + 1 + 1 by omega, show k * 2 + 1 + 1 + 1 = (k * 2 + 1) + 1 + 1 by omega]
    simpa using ih
/-- a row of bytes of the call's own -/
def Own5 (w : World) (u : Value) (l : List Nat) : Prop := ∃ B, w.ownsRow B 5 1 u l.length (u8s l) ∧ Bytes l
theorem Own5.rd {w : World} {u : Value} {l : List Nat} (h : Own5 w u l) : Rd w u l := by obtain ⟨B, h1, h2⟩ := h; exact rd_own h1 h2
theorem Own5.below {w w' : World} {u : Value} {l : List Nat} (h : Own5 w u l) (hb : Below w.heap.size w w') : Own5 w' u l := by obtain ⟨B, h1, h2⟩ := h; exact ⟨B, own_below h1 hb, h2⟩
theorem own_ne {w : World} {B C s t n m : Nat} {e f : TypeId} {u v : Value} {xs ys : List Value} (hu : w.ownsRow B e s u n xs) (hv : w.ownsRow C f t v m ys) (hne : e ≠ f) : u.ownBlock = none ∨ u.ownBlock ≠ v.ownBlock := by
  rcases hu.2 with ⟨rfl, _⟩ | ⟨g, cap, cur, rfl, _, hg, _⟩
  · exact .inl rfl
  · right
    rcases hv.2 with ⟨rfl, _⟩ | ⟨g', cap', cur', rfl, _, hg', _⟩
    · simp [Value.ownBlock]
    · intro he
      have : g = g' := by simpa [Value.ownBlock] using he
      subst this
      rw [hg] at hg'
      injection hg' with hg'
      injection hg' with _ ht
      exact hne ht
/-- the elements read as these fields -/
def Fit (w : World) (us : List (Int × Value)) (ts : List TV) : Prop := us.length = ts.length ∧ ∀ (k : Nat) (u : Int × Value) (t : TV), us[k]? = some u → ts[k]? = some t → u.1 = t.1 ∧ Own5 w u.2 t.2
theorem Fit.below {w w' : World} {us : List (Int × Value)} {ts : List TV} (h : Fit w us ts) (hb : Below w.heap.size w w') : Fit w' us ts := ⟨h.1, fun k u t a b => ⟨(h.2 k u t a b).1, (h.2 k u t a b).2.below hb⟩⟩
theorem fit_nil (w : World) : Fit w [] [] := ⟨rfl, fun k u t h => by simp at h⟩
theorem Fit.snoc {w : World} {us : List (Int × Value)} {ts : List TV} (h : Fit w us ts) {k : Int} {u : Value} {l : List Nat} (hu : Own5 w u l) : Fit w (us ++ [(k, u)]) (ts ++ [(k, l)]) := by
  refine ⟨by simp [h.1], fun i a b ha hb => ?_⟩
  by_cases hi : i < us.length
  · rw [List.getElem?_append_left hi] at ha
    rw [List.getElem?_append_left (by rw [← h.1]; exact hi)] at hb
    exact h.2 i a b ha hb
  · rw [List.getElem?_append_right (by omega)] at ha
    rw [List.getElem?_append_right (by rw [← h.1]; omega), ← h.1] at hb
    by_cases h0 : i - us.length = 0
    · rw [h0] at ha hb
      obtain rfl := Option.some.inj ha
      obtain rfl := Option.some.inj hb
      exact ⟨rfl, hu⟩
    · rw [List.getElem?_eq_none (by simp; omega)] at ha; cases ha
theorem Fit.grown {w w' : World} {us : List (Int × Value)} {ts : List TV} (h : Fit w us ts) {B s n : Nat} {v : Value} {xs : List Value} (hv : w.ownsRow B 36 s v n xs) (hg : w.grownBy w' v.ownBlock) : Fit w' us ts :=
  ⟨h.1, fun k u t a b => by
    obtain ⟨e, C, h1, h2⟩ := h.2 k u t a b
    exact ⟨e, C, h1.kept hg (own_ne h1 hv (by decide)), h2⟩⟩
theorem Own5.grown {w w' : World} {u : Value} {l : List Nat} (h : Own5 w u l) {B s n : Nat} {v : Value} {xs : List Value} (hv : w.ownsRow B 36 s v n xs) (hg : w.grownBy w' v.ownBlock) : Own5 w' u l := by
  obtain ⟨C, h1, h2⟩ := h
  exact ⟨C, h1.kept hg (own_ne h1 hv (by decide)), h2⟩
theorem rdt_own {w : World} {B : Nat} {v : Value} {us : List (Int × Value)} {ts : List TV} (h : w.ownsRow B 36 2 v us.length (flatT us)) (hf : Fit w us ts) : RdT w v ts := by
  have hk := h.2
  rcases hk with ⟨rfl, hn⟩ | ⟨g, cap, cur, rfl, hB, hg, hnc, _, _, _⟩
  · have : ts = [] := List.length_eq_zero_iff.1 (by rw [← hf.1]; exact hn)
    subst this
    exact rdt_nil w
  · refine ⟨some ⟨g, 0, none⟩, cap, by rw [hf.1], fun k t hk => ?_⟩
    have hlt : k < us.length := by rw [hf.1]; exact (List.getElem?_eq_some_iff.1 hk).1
    obtain ⟨u, hu⟩ : ∃ u, us[k]? = some u := ⟨_, List.getElem?_eq_getElem hlt⟩
    obtain ⟨e1, e2⟩ := hf.2 k u t hu hk
    have g2 := flatT_get us k u hu
    refine ⟨g, 0, u.2, rfl, (Array.getElem?_eq_some_iff.1 hg).1, ?_, ?_, e2.rd⟩
    · rw [Nat.zero_add, h.cellAt (k * 2) (by omega), g2.1, e1]
    · rw [Nat.zero_add, h.cellAt (k * 2 + 1) (by omega), g2.2]
theorem tlv_info : (Tryd.prog.info? 36).map (fun i => (i.zero, i.size, i.bytes)) = some (some (.agg #[.int .i64 0, .slice none 0 0]), 2, 32) := by kernel_rfl
theorem cell_two_new (w : World) (x y : Value) (t : TypeId) : ∀ j u, [x, y][j]? = some u → (w.alloc (.cells #[x, y] t)).cell? ((⟨w.heap.size, 0, none⟩ : Addr).add j) = some u := by
  intro j u hj
  match j, hj with
  | 0, hj => simp at hj; subst hj; simp [Addr.add]
  | 1, hj => simp at hj; subst hj; simp [Addr.add]
  | (j + 2), hj => simp at hj
theorem one_tlv (n : Int) (a : Option Addr) (l c : Nat) : ∀ u ∈ [Value.int .i64 n, .slice a l c], u.oneCell' = true := by
  intro u hu; simp at hu; rcases hu with rfl | rfl <;> rfl
def toI (t : Nat × List Nat) : TV := ((t.1 : Int), t.2)

theorem rds_one {w : World} {u : Value} {p : List Nat} (t : TypeId) (hu : Rd w u p) : RdS (w.alloc (.cells #[u] t)) (.slice (some ⟨w.heap.size, 0, none⟩) 1 1) [p] := by
  have hb : Below w.heap.size w (w.alloc (.cells #[u] t)) := (Below.refl _ _).alloc (Nat.le_refl _) _
  refine ⟨_, 1, rfl, fun k r hk => ?_⟩
  match k, hk with
  | 0, hk => obtain rfl := Option.some.inj hk; exact ⟨_, 0, u, rfl, by simp, by simp, hu.below hb⟩
  | k + 1, hk => simp at hk

/-- what TLVs returns for bytes that are no sequence of fields, and for one -/
def TlvPost (b : List Nat) (w : World) (e : Ending) (w' : World) : Prop :=
  (tlvs b = none ∧ e = .returned (.tuple #[.slice none 0 0, .int .i64 3]) ∨ ∃ ts v, tlvs b = some ts ∧ e = .returned (.tuple #[v, .int .i64 0]) ∧ RdT w' v (ts.map toI)) ∧ Below w.heap.size w w'

theorem rd_mid {w : World} {blk off : Nat} {l : List Nat} {cap : Nat} (h : Rd w (.slice (some ⟨blk, off, none⟩) l.length cap) l) (a n : Nat) (ha : a + n ≤ l.length) :
    Rd w (.slice (some ⟨blk, off + a, none⟩) n (cap - a)) ((l.drop a).take n) := by
  obtain ⟨ad', cap', e, hc, hb, hat⟩ := h
  injection e with e1 e2 e3
  subst e1 e3
  refine ⟨_, _, by rw [List.length_take, List.length_drop, Nat.min_eq_left (by omega)], by rw [List.length_take, List.length_drop]; omega, (hb.drop a).take n, fun k x hk => ?_⟩
  have hkn : k < n := by have := (List.getElem?_eq_some_iff.1 hk).1; rw [List.length_take] at this; omega
  rw [List.getElem?_take, if_pos hkn, List.getElem?_drop] at hk
  obtain ⟨b', o', e, hlt, hcell⟩ := hat _ _ hk
  injection e with e; injection e with e1 e2; subst e1 e2
  exact ⟨blk, off + a, rfl, hlt, by rw [Nat.add_assoc]; exact hcell⟩
theorem rd_empty (w : World) (ad : Option Addr) (c : Nat) : Rd w (.slice ad 0 c) [] := ⟨ad, c, rfl, Nat.zero_le _, fun x h => by simp at h, at_nil _ _ _⟩
theorem tlv_step (l : List Nat) (a : Nat) (hb : Bytes l) (h : a + 3 ≤ l.length) : ∃ k sz, k < 256 ∧ sz < 65536 ∧ beV ((l.drop a).take 1) = k ∧ beV ((l.drop (a + 1)).take 2) = sz ∧ l[a]? = some k ∧
    tlvs (l.drop a) = if l.length < a + 3 + sz then none else (tlvs (l.drop (a + 3 + sz))).map ((k, (l.drop (a + 3)).take sz) :: ·) := by
  have e0 : l.drop a = l[a] :: l[a + 1] :: l[a + 2] :: l.drop (a + 3) := by
    rw [List.drop_eq_getElem_cons (show a < l.length by omega), List.drop_eq_getElem_cons (show a + 1 < l.length by omega), List.drop_eq_getElem_cons (show a + 2 < l.length by omega)]
  have e1 : l.drop (a + 1) = l[a + 1] :: l[a + 2] :: l.drop (a + 3) := by
    rw [List.drop_eq_getElem_cons (show a + 1 < l.length by omega), List.drop_eq_getElem_cons (show a + 2 < l.length by omega)]
  have b0 := hb _ (List.getElem_mem (show a < l.length by omega))
  have b1 := hb _ (List.getElem_mem (show a + 1 < l.length by omega))
  have b2 := hb _ (List.getElem_mem (show a + 2 < l.length by omega))
  refine ⟨l[a], 256 * l[a + 1] + l[a + 2], b0, by omega, by rw [e0]; show 0 * 256 + l[a] = l[a]; omega, by rw [e1]; show (0 * 256 + l[a + 1]) * 256 + l[a + 2] = _; omega, List.getElem?_eq_getElem (show a < l.length by omega), ?_⟩
  rw [e0, tlvs_cons, List.length_drop, List.drop_drop]
  by_cases hc : l.length < a + 3 + (256 * l[a + 1] + l[a + 2])
  · rw [if_pos hc, if_pos (by omega)]
  · rw [if_neg hc, if_neg (by omega)]
theorem tlvs_any (l : List Nat) (v : Value) (w : World) (hl : l.length ≤ 1048576) (hr : Rd w v l) :
    Calls Tryd.prog 22 #[v] w (TlvPost l w) := by
  obtain ⟨i0, hi, hz0, hz1, hz2⟩ := info_parts tlv_info
  have HR := Lib.hid hr
  have HBY := Lib.hid hr.bytes
  have hcap : ∃ ad cap, v = .slice ad l.length cap ∧ l.length ≤ cap ∧ At w w.heap.size ad l := by obtain ⟨ad, cap, e, h, _, h2⟩ := hr; exact ⟨ad, cap, e, h, h2⟩
  obtain ⟨ad, cap, rfl, hcap, hat⟩ := hcap
  have HAT := Lib.hid hat
  have HJ : Hid (∀ (ps : List (List Nat)) (v : Value) (w : World), ps.flatten.length ≤ 140737489403904 → ps.length ≤ 1000 → RdS w v ps →
    Calls Tryd.prog 30 #[v] w fun e w' => ∃ v', e = .returned v' ∧ w'.ownsRow w.heap.size 5 1 v' ps.flatten.length (u8s ps.flatten) ∧ Below w.heap.size w w') := join_any
  have HG1 : Hid (∀ (a : Nat) (W : World), Below w.heap.size w W → a + 1 ≤ l.length → Calls Tryd.prog 10 #[.slice ad l.length cap, .int .i64 a, .int .i64 1] W fun e w' => e = .returned (.tuple #[.int .u64 (beV ((l.drop a).take 1) : Nat), .bool true]) ∧ W = w') :=
    fun a W hW ha => get_yes l _ a 1 W (by omega) (HR.out.below hW) (by omega) ha
  have HG2 : Hid (∀ (a : Nat) (W : World), Below w.heap.size w W → a + 3 ≤ l.length → Calls Tryd.prog 10 #[.slice ad l.length cap, .int .i64 ((a : Int) + 1), .int .i64 2] W fun e w' => e = .returned (.tuple #[.int .u64 (beV ((l.drop (a + 1)).take 2) : Nat), .bool true]) ∧ W = w') :=
    fun a W hW ha => get_yes l _ (a + 1) 2 W (by omega) (HR.out.below hW) (by omega) (by omega)
  have HGN : Hid (∀ (a : Nat) (W : World), Below w.heap.size w W → a ≤ l.length → l.length < a + 3 → Calls Tryd.prog 10 #[.slice ad l.length cap, .int .i64 ((a : Int) + 1), .int .i64 2] W fun e w' => e = .returned (.tuple #[.int .u64 0, .bool false]) ∧ W = w') :=
    fun a W hW h1 ha => get_no l _ ((a : Int) + 1) 2 W (by omega) (HR.out.below hW) (by omega) (by omega) (by omega)
  clear hr hat
  go_enter Tryd.func22, Tryd.ntmps22
  go_wp2
  go_loopg [4, 5, 6, 7, 8, 9, 10, 11] l.length (fun g s4 s5 _ _ _ _ _ _ wr => ∃ (a : Nat) (v : Value) (us : List (Int × Value)) (ts : List (Nat × List Nat)), a ≤ l.length ∧ l.length - a ≤ g ∧ v = s4 ∧ s5 = .int .i64 a ∧ us.length ≤ a ∧ wr.ownsRow w.heap.size 36 2 v us.length (flatT us) ∧ Fit wr us (ts.map toI) ∧ Hid (tlvs l = (tlvs (l.drop a)).map (ts ++ ·)) ∧ Below w.heap.size w wr)
  case atStart => exact ⟨0, _, [], [], by omega, by omega, rfl, rfl, Nat.le_refl _, World.ownsRow_nil _ _ _ _, fit_nil _, by simp [Hid], Below.refl _ _⟩
  case round =>
    obtain ⟨a, v, us, ts, ha, hg, rfl, rfl, hus, hown, hfit, HT, hbel⟩ := hrel
    have HO := Lib.hid hown
    have HF := Lib.hid hfit
    have HW := Lib.hid hbel
    have HUS := Lib.hid hus
    clear hown hfit hbel hus
    by_cases hlt : a < l.length
    · by_cases h3 : a + 3 ≤ l.length
      · obtain ⟨k, sz, hk, hsz, hk1, hs1, hk2, hst⟩ := tlv_step l a HBY.out h3
        have HST := Lib.hid hst
        have HC1 : Hid (∀ (W : World), Below w.heap.size w W → Calls Tryd.prog 10 #[.slice ad l.length cap, .int .i64 a, .int .i64 1] W fun e w' => e = .returned (.tuple #[.int .u64 k, .bool true]) ∧ W = w') := fun W hW => hk1 ▸ HG1.out a W hW (by omega)
        have HC2 : Hid (∀ (W : World), Below w.heap.size w W → Calls Tryd.prog 10 #[.slice ad l.length cap, .int .i64 ((a : Int) + 1), .int .i64 2] W fun e w' => e = .returned (.tuple #[.int .u64 sz, .bool true]) ∧ W = w') := fun W hW => hs1 ▸ HG2.out a W hW h3
        clear hst hk1 hs1 hk2
        by_cases he : l.length < a + 3 + sz
        · have HN : Hid (tlvs l = none) := by unfold Hid; rw [HT.out, HST.out, if_pos he]; rfl
          go_wp2_with (first
            | (go_at_call 10; ((with_reducible refine (HC1.out _ HW.out).mono ?_); rintro e w' ⟨rfl, rfl⟩))
            | (go_at_call 10; ((with_reducible refine (HC2.out _ HW.out).mono ?_); rintro e w' ⟨rfl, rfl⟩)))
          go_ret2
          exact ⟨.inl ⟨HN.out, rfl⟩, HW.out⟩
        · have HN : Hid (tlvs l = (tlvs (l.drop (a + 3 + sz))).map ((ts ++ [(k, (l.drop (a + 3)).take sz)]) ++ ·)) := by
            unfold Hid
            rw [HT.out, HST.out, if_neg he]
            cases tlvs (l.drop (a + 3 + sz)) <;> simp
          obtain ⟨blk, off, rfl, hblk, _⟩ := HAT.out a _ (List.getElem?_eq_getElem hlt)
          obtain ⟨p, hp⟩ : ∃ p, p = (l.drop (a + 3)).take sz := ⟨_, rfl⟩
          have HP := Lib.hid hp
          clear hp
          have HPF : Hid (([p] : List (List Nat)).flatten = p) := by unfold Hid; simp
          have HPB : Hid (Bytes p) := by unfold Hid; rw [HP.out]; exact (HBY.out.drop _).take _
          have HJL : Hid (([p] : List (List Nat)).flatten.length ≤ 140737489403904) := by unfold Hid; rw [HPF.out, HP.out, List.length_take]; omega
          by_cases hcc : cap = a + 3
          · have HRP : Hid (∀ W, Below w.heap.size w W → Rd W (.slice (some ⟨blk, off, none⟩) 0 0) p) := fun W hW => by
              have e : p = [] := by rw [HP.out, List.drop_of_length_le (by omega)]; simp
              rw [e]; exact rd_empty _ _ _
            have hsz0 : sz = 0 := by omega
            subst hsz0
            subst hcc
            go_wp2_with (first
              | (go_at_call 10; ((with_reducible refine (HC1.out _ HW.out).mono ?_); rintro e w' ⟨rfl, rfl⟩))
              | (go_at_call 10; ((with_reducible refine (HC2.out _ HW.out).mono ?_); rintro e w' ⟨rfl, rfl⟩))
              | (go_at_call 30
                 refine (HJ.out [p] _ _ HJL.out (by simp) (rds_one 22 (HRP.out _ HW.out))).mono ?_
                 rintro e w2 ⟨v2, rfl, hown2, hb2⟩
                 have hb3 : Below wr.heap.size wr w2 := ((Below.refl _ wr).alloc (Nat.le_refl _) _).trans (hb2.mono (by simp))
                 rw [HPF.out] at hown2
                 have hrd := rd_own hown2 HPB.out
                 have X2 : Hid (Own5 w2 v2 p ∧ Below wr.heap.size wr w2) := ⟨⟨_, hown2, HPB.out⟩, hb3⟩
                 obtain ⟨A, c2, rfl, _⟩ := hrd
                 clear hown2 hb2 hb3)
              | (at_builtin
                 refine wpList_append_own _ rfl (.tmp 43) (.tmp 53) 39 rfl w.heap.size 36 i0 (.agg #[.int .i64 0, .slice none 0 0]) 2 32 Tryd.underlying39 hi hz0 hz1 hz2 rfl (by decide) v us.length (flatT us) rfl ((own_below HO.out X2.out.2).alloc _) ⟨w2.heap.size, 0, none⟩ 1 1 [.int .i64 k, .slice A p.length c2] rfl rfl (cell_two_new _ _ _ _) (one_tlv _ _ _ _) (by have := HUS.out; unfold maxLen; omega) (by have := HUS.out; omega) (by have := HW.out.size; have := X2.out.2.size; simp; omega) ?_
                 intro v3 w3 hown3 hg3 hnil3
                 have hbw := below_grown (B := w.heap.size) ((HW.out.trans (X2.out.2.mono HW.out.size)).alloc (by have := HW.out.size; have := X2.out.2.size; omega) _) ((own_below HO.out X2.out.2).alloc _) hg3 (by have := HW.out.size; have := X2.out.2.size; simp; omega)
                 have X3 : Hid (w3.ownsRow w.heap.size 36 2 v3 (us ++ [((k : Int), Value.slice A p.length c2)]).length (flatT (us ++ [((k : Int), Value.slice A p.length c2)])) ∧ Fit w3 (us ++ [((k : Int), Value.slice A p.length c2)]) ((ts ++ [(k, p)]).map toI) ∧ Below w.heap.size w w3) := by
                   refine ⟨by rw [flatT_snoc, List.length_append]; exact hown3, ?_, hbw⟩
                   rw [List.map_append]
                   have ha := (Below.refl w2.heap.size w2).alloc (Nat.le_refl _) (.cells #[.int .i64 (k : Int), .slice A p.length c2] 36)
                   exact (((HF.out.below X2.out.2).below ha).grown ((own_below HO.out X2.out.2).alloc _) hg3).snoc ((X2.out.1.below ha).grown ((own_below HO.out X2.out.2).alloc _) hg3)
                 clear hown3 hbw hg3 hnil3))
            go_roundg (l.length - (a + 3 + 0))
            case measure => omega
            case rel => exact ⟨a + 3 + 0, v3, _, ts ++ [(k, p)], by omega, Nat.le_refl _, rfl, by go_num, by have := HUS.out; simp; omega, X3.out.1, X3.out.2.1, by unfold Hid; rw [HP.out]; exact HN.out, X3.out.2.2⟩
          · have HRP : Hid (∀ W, Below w.heap.size w W → Rd W (.slice (some ⟨blk, off + (a + 3), none⟩) sz (cap - (a + 3))) p) := fun W hW => by rw [HP.out]; exact rd_mid (HR.out.below hW) (a + 3) sz (by omega)
            go_wp2_with (first
              | (go_at_call 10; ((with_reducible refine (HC1.out _ HW.out).mono ?_); rintro e w' ⟨rfl, rfl⟩))
              | (go_at_call 10; ((with_reducible refine (HC2.out _ HW.out).mono ?_); rintro e w' ⟨rfl, rfl⟩))
              | (go_at_call 30
                 refine (HJ.out [p] _ _ HJL.out (by simp) (rds_one 22 (HRP.out _ HW.out))).mono ?_
                 rintro e w2 ⟨v2, rfl, hown2, hb2⟩
                 have hb3 : Below wr.heap.size wr w2 := ((Below.refl _ wr).alloc (Nat.le_refl _) _).trans (hb2.mono (by simp))
                 rw [HPF.out] at hown2
                 have hrd := rd_own hown2 HPB.out
                 have X2 : Hid (Own5 w2 v2 p ∧ Below wr.heap.size wr w2) := ⟨⟨_, hown2, HPB.out⟩, hb3⟩
                 obtain ⟨A, c2, rfl, _⟩ := hrd
                 clear hown2 hb2 hb3)
              | (at_builtin
                 refine wpList_append_own _ rfl (.tmp 43) (.tmp 53) 39 rfl w.heap.size 36 i0 (.agg #[.int .i64 0, .slice none 0 0]) 2 32 Tryd.underlying39 hi hz0 hz1 hz2 rfl (by decide) v us.length (flatT us) rfl ((own_below HO.out X2.out.2).alloc _) ⟨w2.heap.size, 0, none⟩ 1 1 [.int .i64 k, .slice A p.length c2] rfl rfl (cell_two_new _ _ _ _) (one_tlv _ _ _ _) (by have := HUS.out; unfold maxLen; omega) (by have := HUS.out; omega) (by have := HW.out.size; have := X2.out.2.size; simp; omega) ?_
                 intro v3 w3 hown3 hg3 hnil3
                 have hbw := below_grown (B := w.heap.size) ((HW.out.trans (X2.out.2.mono HW.out.size)).alloc (by have := HW.out.size; have := X2.out.2.size; omega) _) ((own_below HO.out X2.out.2).alloc _) hg3 (by have := HW.out.size; have := X2.out.2.size; simp; omega)
                 have X3 : Hid (w3.ownsRow w.heap.size 36 2 v3 (us ++ [((k : Int), Value.slice A p.length c2)]).length (flatT (us ++ [((k : Int), Value.slice A p.length c2)])) ∧ Fit w3 (us ++ [((k : Int), Value.slice A p.length c2)]) ((ts ++ [(k, p)]).map toI) ∧ Below w.heap.size w w3) := by
                   refine ⟨by rw [flatT_snoc, List.length_append]; exact hown3, ?_, hbw⟩
                   rw [List.map_append]
                   have ha := (Below.refl w2.heap.size w2).alloc (Nat.le_refl _) (.cells #[.int .i64 (k : Int), .slice A p.length c2] 36)
                   exact (((HF.out.below X2.out.2).below ha).grown ((own_below HO.out X2.out.2).alloc _) hg3).snoc ((X2.out.1.below ha).grown ((own_below HO.out X2.out.2).alloc _) hg3)
                 clear hown3 hbw hg3 hnil3))
            go_roundg (l.length - (a + 3 + sz))
            case measure => omega
            case rel => exact ⟨a + 3 + sz, v3, _, ts ++ [(k, p)], by omega, Nat.le_refl _, rfl, by go_num, by have := HUS.out; simp; omega, X3.out.1, X3.out.2.1, by unfold Hid; rw [HP.out]; exact HN.out, X3.out.2.2⟩
      · have HN : Hid (tlvs l = none) := by
          unfold Hid
          rw [HT.out]
          have : tlvs (l.drop a) = none := by
            match h : l.drop a, (show (l.drop a).length = l.length - a by simp) with
            | [], h' => simp at h'; omega
            | [_], _ => rfl
            | [_, _], _ => rfl
            | _ :: _ :: _ :: _, h' => simp at h'; omega
          rw [this]; rfl
        go_wp2_with (first
          | (go_at_call 10; ((with_reducible refine (HG1.out a _ HW.out (by omega)).mono ?_); rintro e w' ⟨rfl, rfl⟩))
          | (go_at_call 10; ((with_reducible refine (HGN.out a _ HW.out (by omega) (by omega)).mono ?_); rintro e w' ⟨rfl, rfl⟩)))
        go_ret2
        exact ⟨.inl ⟨HN.out, rfl⟩, HW.out⟩
    · have hal : a = l.length := by omega
      subst hal
      have HN : Hid (tlvs l = some ts) := by unfold Hid; rw [HT.out, List.drop_length]; simp [tlvs_nil]
      go_wp2
      go_ret2
      exact ⟨.inr ⟨ts, v, HN.out, rfl, rdt_own HO.out HF.out⟩, HW.out⟩
end Go.Proofs.YthoonegckifiaaaDoor
