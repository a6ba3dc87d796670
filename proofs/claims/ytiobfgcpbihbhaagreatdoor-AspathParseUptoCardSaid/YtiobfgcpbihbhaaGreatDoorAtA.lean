/-
  slices.DeleteFunc at segments; the walk of Strip.
-/
import Derived.Test.YtiobfgcpbihbhaaGreatDoorAsJ
import Derived.BigQuiet
namespace Go.Proofs.YtiobfgcpbihbhaaGreatDoor
open Go.RowKit P
set_option linter.unusedSimpArgs false
set_option linter.unusedVariables false
set_option maxHeartbeats 4000000
set_option maxRecDepth 100000
theorem indexs50_any (p : List Sg) (v : Value) (q : Sg → Bool) (w : World) (hv : RdS w v p) (hp : ∀ (s : Sg) (u : Value) (W : World), Below w.heap.size w W → RdI W u s.as → Calls Tryz.prog 50 #[.agg #[.int .i64 s.k, u]] W fun e w' => e = .returned (.bool (q s)) ∧ Below W.heap.size W w') :
    Calls Tryz.prog 42 #[v, .func (.func 50) #[] #[]] w fun e w' => ∃ i, e = .returned (.int .i64 i) ∧ IdxP p q i ∧ Below w.heap.size w w' := by
  obtain ⟨ad, cap, rfl, h1, h2, hc⟩ := hv
  have HC := Lib.hid hc
  obtain ⟨n, hn⟩ : ∃ n, p.length = n := ⟨_, rfl⟩
  rw [hn] at h1 ⊢
  have HN := Lib.hid hn
  have HP := Lib.hid hp
  have HS0 : Hid (∀ k z, k < 0 → p[k]? = some z → q z = false) := fun k z h => by omega
  have HB0 : Hid (Below w.heap.size w w) := Below.refl _ _
  clear hc hn hp
  go_enter Tryz.func42, Tryz.ntmps42
  go_wp2_with fail
  go_loopg [5, 8] n (fun g s5 s8 wr => ∃ k : Nat, k ≤ n ∧ n - k ≤ g ∧ s8 = .int .i64 (k : Int) ∧ (∃ q, q = s5) ∧ Hid (∀ j z, j < k → p[j]? = some z → q z = false) ∧ Hid (Below w.heap.size w wr))
  case atStart => exact ⟨0, by omega, by omega, rfl, ⟨_, rfl⟩, HS0, HB0⟩
  case round =>
    clear HS0 HB0
    obtain ⟨k, hk, hkg, rfl, ⟨u5, rfl⟩, HS, HB⟩ := hrel
    by_cases hlt : k < n
    · obtain ⟨s, hs⟩ : ∃ s, p[k]? = some s := ⟨_, List.getElem?_eq_getElem (by have := HN.out; omega)⟩
      have HZ := Lib.hid hs
      obtain ⟨b, off, u, rfl, hb, c0, c1, hu⟩ := HC.out k s hs
      have d0 := carry HB.out c0
      have d1 := carry HB.out c1
      have HPZ := Lib.hid (HP.out s u wr HB.out (hu.below HB.out))
      obtain ⟨uad, ucap, hf⟩ := hu.form
      have k0 : (0 : Int) ≤ (k : Int) := by omega
      have k1 : (k : Int) < (n : Int) := by omega
      subst hf
      clear hs c0 c1 hu
      cases hq : q s with
      | true =>
        have HM : Hid (IdxP p q (k : Int)) := .inr ⟨k, s, rfl, HZ.out, hq, HS.out⟩
        rw [hq] at HPZ
        clear HS HZ hq
        go_wp2_with fail
        refine HPZ.out.mono ?_
        rintro e w1 ⟨rfl, hbb⟩
        have HB1 := Lib.hid (below_then HB.out hbb)
        clear hbb
        go_wp2
        go_ret
        exact ⟨_, rfl, HM.out, HB1.out⟩
      | false =>
        have HN' : Hid (∀ j z, j < k + 1 → p[j]? = some z → q z = false) := fun j z' hj hz' => by
          by_cases e : j = k
          · subst e; have := HZ.out; rw [hz'] at this; cases this; exact hq
          · exact HS.out j z' (by omega) hz'
        rw [hq] at HPZ
        clear HS HZ hq
        go_wp2_with fail
        refine HPZ.out.mono ?_
        rintro e w1 ⟨rfl, hbb⟩
        have HB1 := Lib.hid (below_then HB.out hbb)
        clear hbb
        go_wp2_with fail
        go_roundg (n - (k + 1))
        case measure => omega
        case rel => exact ⟨k + 1, by omega, Nat.le_refl _, by go_num, ⟨_, rfl⟩, HN', HB1⟩
    · have k1 : decide ((k : Int) < (n : Int)) = false := decide_eq_false (by omega)
      have HM : Hid (IdxP p q (-1)) := .inl ⟨rfl, fun x hm => by
        obtain ⟨j, hj⟩ := List.getElem?_of_mem hm
        exact HS.out j x (by have := (List.getElem?_eq_some_iff.1 hj).1; have := HN.out; omega) hj⟩
      clear HS
      go_wp2
      go_ret
      exact ⟨_, rfl, HM.out, HB.out⟩
/-- the first segments that are kept, by a test -/
def CellS (g : Nat) (w : World) (k : Nat) (s : Sg) : Prop := ∃ u, w.cell? ⟨g, k * 2, none⟩ = some (.int .i64 s.k) ∧ w.cell? ⟨g, k * 2 + 1, none⟩ = some u ∧ RdN g w u s.as
theorem CellS.below {g k : Nat} {w w' : World} {s : Sg} (h : CellS g w k s) (hb : Below w.heap.size w w') : CellS g w' k s := by
  obtain ⟨u, a, b, c⟩ := h
  exact ⟨u, carry hb a, carry hb b, c.below hb⟩
theorem cell_ne {w : World} {g o o' : Nat} {u : Value} (h : o ≠ o') : (w.setCell ⟨g, o, none⟩ u).cell? ⟨g, o', none⟩ = w.cell? ⟨g, o', none⟩ := World.cell?_setCells_out g [u] o w ⟨g, o', none⟩ (fun _ _ => by simp; omega)
theorem CellS.put {g m : Nat} {w : World} {s : Sg} {u : Value} (hu : RdN g w u s.as) (h0 : (w.cell? ⟨g, m * 2, none⟩).isSome = true) (h1 : (w.cell? ⟨g, m * 2 + 1, none⟩).isSome = true) : CellS g ((w.setCell ⟨g, m * 2, none⟩ (.int .i64 s.k)).setCell ⟨g, m * 2 + 1, none⟩ u) m s := by
  refine ⟨u, ?_, ?_, hu.set.set⟩
  · rw [cell_ne (by omega)]
    exact World.cell?_setCell_same' _ _ _ h0
  · refine World.cell?_setCell_same' _ _ _ ?_
    rw [cell_ne (by omega)]
    exact h1
theorem CellS.other {g m k : Nat} {w : World} {s : Sg} {a b : Value} (h : CellS g w k s) (hk : k ≠ m) : CellS g ((w.setCell ⟨g, m * 2, none⟩ a).setCell ⟨g, m * 2 + 1, none⟩ b) k s := by
  obtain ⟨u, c0, c1, c⟩ := h
  refine ⟨u, ?_, ?_, c.set.set⟩
  · rw [cell_ne (by omega), cell_ne (by omega)]
    exact c0
  · rw [cell_ne (by omega), cell_ne (by omega)]
    exact c1
theorem RdN.setCells {g : Nat} : ∀ (vs : List Value) (o : Nat) {w : World} {v : Value} {l : List Int}, RdN g w v l → RdN g (w.setCells g o vs) v l
  | [], o, w, v, l, h => h
  | u :: r, o, w, v, l, h => RdN.setCells r (o + 1) (h.set (u := u) (o := o))
theorem CellS.sets {g o k : Nat} {w : World} {s : Sg} (vs : List Value) (h : CellS g w k s) (hk : k * 2 + 1 < o) : CellS g (w.setCells g o vs) k s := by
  obtain ⟨u, c0, c1, c⟩ := h
  exact ⟨u, (World.cell?_setCells_out g vs o w ⟨g, k * 2, none⟩ (fun _ _ => .inl (by show k * 2 < o; omega))).trans c0, (World.cell?_setCells_out g vs o w ⟨g, k * 2 + 1, none⟩ (fun _ _ => .inl hk)).trans c1, c.setCells vs o⟩
theorem setCells_below {B : Nat} {w : World} {blk : Nat} (hB : B ≤ blk) : ∀ (vs : List Value) (s : Nat) (W : World), Below B w W → Below B w (W.setCells blk s vs)
  | [], _, _, h => h
  | v :: r, s, W, h => setCells_below hB r (s + 1) _ (h.setCell hB v)
/-- 'clear(s)' of n > 0 elements of two cells each -/
theorem clear_two {P : Program} (w : World) (t e : TypeId) (a b : Value) (ht : P.underlying t = some (.slice e)) (hv : ∀ w, (zeroValue e).run P w = .ok (.agg #[a, b]) w) (ha : a.oneCell' = true) (hb : b.oneCell' = true) (blk o n cap : Nat) (hn : 0 < n)
    (hc : ∀ j, j < n * 2 → (w.cell? ⟨blk, o + j, none⟩).isSome = true) (hf : ∀ j, j < n * 2 → w.frozen? ⟨blk, o + j, none⟩ = false) :
    ∃ vs : List Value, vs.length = n * 2 ∧ ∀ ty, (Builtin.clear_ #[t] ty #[.slice (some ⟨blk, o, none⟩) n cap]).run P w = .ok (.tuple #[]) (w.setCells blk o vs) := by
  refine ⟨(Builtin.zeroCells #[a, b] n).toList, by simp [Builtin.zeroCells], fun ty => ?_⟩
  have hl : (Builtin.zeroCells #[a, b] n).toList.length = n * 2 := by simp [Builtin.zeroCells]
  have hst := run_storeCells_cells (P := P) blk o (Builtin.zeroCells #[a, b] n).toList 0 w (by simpa [hl] using hc) (by simpa [hl] using hf) (by
    intro v hv'
    simp [Builtin.zeroCells] at hv'
    obtain ⟨j, hj, rfl⟩ := hv'
    have : j % 2 = 0 ∨ j % 2 = 1 := by omega
    rcases this with h | h <;> simp [h, ha, hb])
  simp only [Nat.add_zero] at hst
  obtain ⟨m, rfl⟩ : ∃ m, n = m + 1 := ⟨n - 1, by omega⟩
  simp [Builtin.clear_, run_underlying ht, hv, Value.cells, hst]
theorem P.strip_snoc {p : List Sg} {k : Nat} {s : Sg} (h : p[k]? = some s) : strip (p.take (k + 1)) = strip (p.take k) ++ (if isConf s.k then [] else [s]) := by
  rw [List.take_add_one, h]
  unfold strip
  rw [List.filter_append]
  cases hc : isConf s.k <;> simp [hc]
theorem P.strip_none {p : List Sg} (h : ∀ x ∈ p, isConf x.k = false) : strip p = p := List.filter_eq_self.2 fun x hx => by rw [h x hx]; rfl
/-- what the walk of DeleteFunc keeps: read on to j, written on to m -/
structure DelI (B g n : Nat) (p : List Sg) (w0 w : World) (j m : Nat) : Prop where
  low : ∀ k s, (strip (p.take j))[k]? = some s → CellS g w k s
  len : (strip (p.take j)).length = m
  high : ∀ k s, j ≤ k → p[k]? = some s → CellS g w k s
  room : ∀ o, o < n * 2 → (w.cell? ⟨g, o, none⟩).isSome = true ∧ w.frozen? ⟨g, o, none⟩ = false
  below : Below B w0 w
  lt : B ≤ g ∧ g < w.heap.size
theorem DelI.next {B g n j m : Nat} {p : List Sg} {w0 w : World} (h : DelI B g n p w0 w j m) {w' : World} (hb : Below w.heap.size w w') : DelI B g n p w0 w' j m :=
  ⟨fun k s hk => (h.low k s hk).below hb, h.len, fun k s hj hk => (h.high k s hj hk).below hb, fun o ho => by
    obtain ⟨a, b⟩ := h.room o ho
    exact ⟨by rw [hb.cell (p := ⟨g, o, none⟩) h.lt.2]; exact a, (hb.frozen (p := ⟨g, o, none⟩) h.lt.2).trans b⟩, h.below.trans (hb.mono (Nat.le_trans h.lt.1 (Nat.le_of_lt h.lt.2))), h.lt.1, Nat.lt_of_lt_of_le h.lt.2 hb.size⟩
theorem DelI.skip {B g n j m : Nat} {p : List Sg} {w0 w : World} (h : DelI B g n p w0 w j m) {s : Sg} (hs : p[j]? = some s) (hc : isConf s.k = true) : DelI B g n p w0 w (j + 1) m :=
  ⟨fun k t hk => h.low k t (by rw [strip_snoc hs, hc] at hk; simpa using hk), by rw [strip_snoc hs, hc]; simpa using h.len, fun k t hj hk => h.high k t (by omega) hk, h.room, h.below, h.lt⟩
theorem DelI.keep {B g n j m : Nat} {p : List Sg} {w0 w : World} (h : DelI B g n p w0 w j m) (hn : p.length = n) {s : Sg} (hs : p[j]? = some s) (hc : isConf s.k = false) {u : Value} (hu : RdN g w u s.as) (hm : m < j) : DelI B g n p w0 ((w.setCell ⟨g, m * 2, none⟩ (.int .i64 s.k)).setCell ⟨g, m * 2 + 1, none⟩ u) (j + 1) (m + 1) := by
  have hjn := (List.getElem?_eq_some_iff.1 hs).1
  have e : strip (p.take (j + 1)) = strip (p.take j) ++ [s] := by rw [strip_snoc hs, hc]; rfl
  refine ⟨fun k t hk => ?_, by rw [e, List.length_append, h.len]; rfl, fun k t hj hk => (h.high k t (by omega) hk).other (by omega), fun o ho => ?_, (h.below.setCell h.lt.1 _).setCell h.lt.1 _, h.lt.1, by simpa using h.lt.2⟩
  · rw [e] at hk
    by_cases hkm : k < m
    · rw [List.getElem?_append_left (by rw [h.len]; exact hkm)] at hk
      exact (h.low k t hk).other (by omega)
    · have hk2 := (List.getElem?_eq_some_iff.1 hk).1
      rw [List.length_append, h.len, List.length_singleton] at hk2
      have ek : k = m := by omega
      subst ek
      rw [List.getElem?_append_right (by rw [h.len]; exact Nat.le_refl _), h.len, Nat.sub_self] at hk
      cases hk
      exact CellS.put hu (h.room _ (by omega)).1 (h.room _ (by omega)).1
  · obtain ⟨a, b⟩ := h.room o ho
    refine ⟨?_, by simpa using b⟩
    by_cases e1 : o = m * 2 + 1
    · subst e1
      rw [World.cell?_setCell_same' _ _ _ (by rw [cell_ne (by omega)]; exact a)]; rfl
    · rw [cell_ne (by omega)]
      by_cases e2 : o = m * 2
      · subst e2
        rw [World.cell?_setCell_same' _ _ _ a]; rfl
      · rw [cell_ne (by omega)]; exact a
theorem DelI.start {B g n cap k : Nat} {p : List Sg} {q : List (Int × Value)} {w : World} (ho : w.ownsRow B 46 2 (.slice (some ⟨g, 0, none⟩) n cap) n (flatQ q)) (hp : Prs g w q p) (hn : p.length = n) {s : Sg} (hs : p[k]? = some s) (hc : isConf s.k = true) (hno : ∀ j y, j < k → p[j]? = some y → isConf y.k = false) (hB : B ≤ w.heap.size) : DelI B g n p w w (k + 1) k := by
  have hkn := (List.getElem?_eq_some_iff.1 hs).1
  have e : strip (p.take (k + 1)) = p.take k := by
    rw [strip_snoc hs, hc, strip_none (fun x hx => by
      obtain ⟨j, hj⟩ := List.getElem?_of_mem hx
      have hjl := (List.getElem?_eq_some_iff.1 hj).1
      rw [List.length_take] at hjl
      rw [List.getElem?_take_of_lt (by omega)] at hj
      exact hno j x (by omega) hj)]
    simp
  have hcell : ∀ k s, p[k]? = some s → CellS g w k s := fun k s hk => by
    obtain ⟨u, hu, hr⟩ := hp.2 k s hk
    obtain ⟨f1, f2⟩ := flatQ_get hu
    have hkl := (List.getElem?_eq_some_iff.1 hk).1
    exact ⟨u, by rw [ho.cellAt (k * 2) (by omega)]; exact f1, by rw [ho.cellAt (k * 2 + 1) (by omega)]; exact f2, hr⟩
  refine ⟨fun j t hj => ?_, by rw [e, List.length_take]; omega, fun j t _ hj => hcell j t hj, fun o h => ⟨?_, ownsRow_free ho o⟩, Below.refl _ _, ownsRow_lt ho⟩
  · rw [e] at hj
    have hjl := (List.getElem?_eq_some_iff.1 hj).1
    rw [List.length_take] at hjl
    rw [List.getElem?_take_of_lt (by omega)] at hj
    exact hcell j t hj
  · rw [ho.cellAt o (by omega), List.getElem?_eq_getElem (by rw [flatQ_len, hp.1]; omega)]; rfl
theorem RdS.of_cells {g n cap : Nat} {w : World} {p : List Sg} (hn : n = p.length) (h1 : n ≤ cap) (h2 : cap ≤ 9223372036854775807) (hg : g < w.heap.size) (h : ∀ k s, p[k]? = some s → CellS g w k s) : RdS w (.slice (some ⟨g, 0, none⟩) n cap) p := by
  subst hn
  refine ⟨_, _, rfl, h1, ⟨h2, fun e => by cases e⟩, fun k s hk => ?_⟩
  obtain ⟨u, a, b, c⟩ := h k s hk
  exact ⟨g, 0, u, rfl, hg, by rw [Nat.zero_add]; exact a, by rw [Nat.zero_add]; exact b, c.rd⟩
theorem del_any (B : Nat) (p : List Sg) (v : Value) (w : World) (hl : p.length ≤ 2000000) (hv : OwnP B w v p) :
    Calls Tryz.prog 48 #[v, .func (.func 50) #[] #[]] w fun e w' => ∃ v', e = .returned v' ∧ RdS w' v' (strip p) ∧ Below B w w' := by
  have HI := Lib.hid (indexs50_any p v (fun s => isConf s.k) w hv.rd (fun s u W hW hu => cl50_any s u W hu))
  have HR := Lib.hid hv.rd
  have hB := hv.1
  rcases hv.2 with ⟨rfl, rfl⟩ | ⟨g, cap, q, rfl, ho, hp⟩
  · clear hv
    go_enter Tryz.func48, Tryz.ntmps48
    go_wp2_with fail
    go_at_call 42
    refine HI.out.mono ?_
    rintro e w1 ⟨i, rfl, hi, hb⟩
    obtain rfl : i = -1 := by
      rcases hi with ⟨h, _⟩ | ⟨k, x, _, h1, _⟩
      · exact h
      · simp at h1
    go_wp2
    go_ret
    exact ⟨_, rfl, rds_nil _, hb.mono hB⟩
  · obtain ⟨n, hn⟩ : ∃ n, p.length = n := ⟨_, rfl⟩
    rw [hn] at ho HI HR hl ⊢
    have HN := Lib.hid hn
    have HO := Lib.hid ho
    have HP := Lib.hid hp
    have hcap : n ≤ cap ∧ cap ≤ 9223372036854775807 := by
      obtain ⟨ad, c, e, h1, h2, _⟩ := HR.out
      cases e
      rw [hn] at h1
      exact ⟨h1, h2.1⟩
    clear hv ho hp hn
    go_enter Tryz.func48, Tryz.ntmps48
    go_wp2_with fail
    go_at_call 42
    refine HI.out.mono ?_
    rintro e w1 ⟨i, rfl, hi, hb⟩
    have HB := Lib.hid hb
    clear HI hb
    rcases hi with ⟨rfl, hno⟩ | ⟨k, s, rfl, hk, hq, hbef⟩
    · have HE : Hid (strip p = p) := strip_none hno
      clear hno
      go_wp2
      go_ret
      exact ⟨_, rfl, by rw [HE.out]; exact HR.out.below HB.out, HB.out.mono hB⟩
    · have HD : Hid (DelI B g n p w w1 (k + 1) k) := (DelI.start HO.out HP.out HN.out hk hq hbef hB).next HB.out
      have hkn : k < n := by rw [← HN.out]; exact (List.getElem?_eq_some_iff.1 hk).1
      have hd : ((k : Int) == -1) = false := by rw [beq_eq_false_iff_ne]; omega
      clear hk hq hbef HB HO HP HR
      go_wp2_with fail
      go_loopg [5, 6, 7] n (fun gg s5 s6 s7 wr => ∃ (j m : Nat), m < j ∧ j ≤ n ∧ n - j ≤ gg ∧ s5 = .int .i64 (m : Int) ∧ s6 = .int .i64 (j : Int) ∧ (∃ u, u = s7) ∧ Hid (DelI B g n p w wr j m))
      case atStart => exact ⟨k + 1, k, by omega, by omega, by omega, rfl, by go_num, ⟨_, rfl⟩, HD⟩
      case round =>
        clear HD hd hkn
        obtain ⟨j, m, hmj, hj, hg, rfl, rfl, ⟨u7, rfl⟩, HD⟩ := hrel
        have m0 : (0 : Int) ≤ (m : Int) := by omega
        have m1 : (m : Int) < (n : Int) := by omega
        have m2 : (m : Int) < (cap : Int) := by omega
        by_cases hlt : j < n
        · obtain ⟨s, hs⟩ : ∃ s, p[j]? = some s := ⟨_, List.getElem?_eq_getElem (by have := HN.out; omega)⟩
          have HSK := Lib.hid hs
          obtain ⟨u, c0, c1, hu⟩ := HD.out.high j s (Nat.le_refl _) hs
          have j0 : (0 : Int) ≤ (j : Int) := by omega
          have j1 : (j : Int) < (n : Int) := by omega
          obtain ⟨uad, ucap, hf⟩ := hu.rd.form
          have HU : Hid (∀ W, Below wr.heap.size wr W → RdN g W u s.as) := fun W hW => hu.below hW
          have HCL := Lib.hid (fun (W : World) (hW : Below wr.heap.size wr W) => cl50_any s u W (HU.out W hW).rd)
          subst hf
          generalize s.as.length = L at *
          have hgl := HD.out.lt.2
          clear hu hs
          cases hq : isConf s.k with
          | true =>
            have HD2 : Hid (∀ W, Below wr.heap.size wr W → DelI B g n p w W (j + 1) m) := fun W hW => (HD.out.next hW).skip HSK.out hq
            rw [hq] at HCL
            clear HD hq HSK HU
            go_wp2_with fail
            refine (HCL.out _ (below_alloc _ _)).mono ?_
            rintro e w2 ⟨rfl, hb⟩
            have HB2 := Lib.hid (below_then (below_alloc _ _) hb)
            clear hb
            go_wp2_with fail
            go_roundg (n - (j + 1))
            case measure => omega
            case rel => exact ⟨j + 1, m, by omega, by omega, Nat.le_refl _, rfl, by go_num, ⟨_, rfl⟩, HD2.out _ HB2.out⟩
          | false =>
            obtain ⟨a0, a1⟩ := HD.out.room (m * 2) (by omega)
            obtain ⟨b0, b1⟩ := HD.out.room (m * 2 + 1) (by omega)
            obtain ⟨x0, hx0⟩ := Option.isSome_iff_exists.1 a0
            obtain ⟨x1, hx1⟩ := Option.isSome_iff_exists.1 b0
            rw [hq] at HCL
            have HSQ := Lib.hid hq
            clear hq a0 b0
            go_wp2_with fail
            refine (HCL.out _ (below_alloc _ _)).mono ?_
            rintro e w2 ⟨rfl, hb⟩
            have HB2 := Lib.hid (below_then (below_alloc _ _) hb)
            have y0 := carry HB2.out hx0
            have y1 := carry HB2.out hx1
            have z0 := (HB2.out.frozen (p := ⟨g, m * 2, none⟩) hgl).trans a1
            have z1 := (HB2.out.frozen (p := ⟨g, m * 2 + 1, none⟩) hgl).trans b1
            have t0 := carry hb (p := ⟨wr.heap.size, 0, none⟩) (v := .int .i64 s.k) (by simp)
            have t1 := carry hb (p := ⟨wr.heap.size, 1, none⟩) (v := .slice uad L ucap) (by simp)
            have HD2 : Hid (DelI B g n p w ((w2.setCell ⟨g, m * 2, none⟩ (.int .i64 s.k)).setCell ⟨g, m * 2 + 1, none⟩ (.slice uad L ucap)) (j + 1) (m + 1)) := (HD.out.next HB2.out).keep HN.out HSK.out HSQ.out (HU.out _ HB2.out) hmj
            clear hb HD HSK HU HCL hx0 hx1 a1 b1 c0 c1
            go_wp2_with fail
            go_roundg (n - (j + 1))
            case measure => omega
            case rel => exact ⟨j + 1, m + 1, by omega, by omega, Nat.le_refl _, by go_num, by go_num, ⟨_, rfl⟩, HD2⟩
        · have hjn : j = n := by omega
          subst hjn
          have k1 : decide ((j : Int) < (j : Int)) = false := decide_eq_false (by omega)
          obtain ⟨vs, hvl, hcl⟩ := clear_two (P := Tryz.prog) wr 22 46 (.int .i64 0) (.slice none 0 0) Tryz.underlying22 Tryz.zeroValue46 rfl rfl g (m * 2) (j - m) (cap - m) (by omega)
            (fun i hi => (HD.out.room (m * 2 + i) (by omega)).1) (fun i hi => (HD.out.room (m * 2 + i) (by omega)).2)
          have HF : Hid (RdS (wr.setCells g (m * 2) vs) (.slice (some ⟨g, 0, none⟩) m cap) (strip p) ∧ Below B w (wr.setCells g (m * 2) vs)) := by
            have e : p.take j = p := List.take_of_length_le (by rw [HN.out]; exact Nat.le_refl _)
            have hlen := HD.out.len
            rw [e] at hlen
            refine ⟨RdS.of_cells hlen.symm (by omega) hcap.2 (by have := (setCells_below (B := B) (w := wr) HD.out.lt.1 vs (m * 2) wr (Below.refl _ _)).size; exact Nat.lt_of_lt_of_le HD.out.lt.2 this) (fun k s hk => ?_), setCells_below HD.out.lt.1 vs _ wr HD.out.below⟩
            have hkl := (List.getElem?_eq_some_iff.1 hk).1
            exact (HD.out.low k s (by rw [e]; exact hk)).sets vs (by omega)
          have k3 : (m : Int) ≤ (j : Int) := by omega
          have k4 : (j : Int) ≤ (cap : Int) := by omega
          have k5 : (m : Int) ≤ (cap : Int) := by omega
          have k8 : 0 < cap - m := by omega
          have k9 : ¬ (cap : Int) = (m : Int) := by omega
          clear HD hvl
          go_wp2
          go_ret
          exact ⟨_, rfl, HF.out.1, HF.out.2⟩
theorem strip_any (p : List Sg) (v : Value) (w : World) (hl : p.length ≤ 2000000) (hf : (flat p).length ≤ 2000000) (hr : RdS w v p) :
    Calls Tryz.prog 24 #[v] w fun e w' => ∃ v', e = .returned v' ∧ RdS w' v' (strip p) ∧ Below w.heap.size w w' := by
  have H := Lib.hid (dup_any p v w hl hf hr)
  obtain ⟨ad, cap, rfl⟩ := hr.form
  have HL := Lib.hid hl
  clear hr hf hl
  go_enter Tryz.func24, Tryz.ntmps24
  go_wp2_with fail
  go_at_call 49
  refine H.out.mono ?_
  rintro e w1 ⟨v1, rfl, ho, hb⟩
  have HB := Lib.hid hb
  have HD := Lib.hid (del_any _ p v1 w1 HL.out ho.own)
  clear ho hb H
  go_wp2_with fail
  go_at_call 48
  refine HD.out.mono ?_
  rintro e w2 ⟨v2, rfl, hr, hb⟩
  have HF : Hid (RdS w2 v2 (strip p) ∧ Below w.heap.size w w2) := ⟨hr, HB.out.trans hb⟩
  clear hr hb
  go_wp2
  go_ret
  exact ⟨_, rfl, HF.out.1, HF.out.2⟩
end Go.Proofs.YtiobfgcpbihbhaaGreatDoor
