/-
  The walk of onward: for each node on a shortest path to a node those that can follow it.
-/
import Derived.Test.YtmlpbhankgojpaaSpOs
namespace Go.Proofs.Ytmlpbhankgojpaa
open Go.RowKit Go.Maps Go.ChangeShapes HM GM SP
set_option linter.unusedSimpArgs false
set_option linter.unusedVariables false
set_option maxHeartbeats 4000000
set_option maxRecDepth 100000

def OnQ (l : List E) (root z : Int) (next : Int → List Int) : Prop := ∀ u v, v ∈ next u ↔ On l root z v ∧ Par l root v u
theorem len_filter (a : Int) : ∀ (q : List Int), q.Nodup → q.length ≤ (q.filter (fun v => decide (v ≠ a))).length + 1
  | [], _ => by simp
  | x :: r, h => by
    obtain ⟨h1, h2⟩ := List.nodup_cons.1 h
    by_cases e : x = a
    · subst e
      have hf : r.filter (fun v => decide (v ≠ x)) = r := List.filter_eq_self.2 fun y hy => decide_eq_true (fun e => h1 (e ▸ hy))
      rw [List.filter_cons_of_neg (by simp), hf]; simp
    · rw [List.filter_cons_of_pos (by simpa using e)]
      have := len_filter a r h2
      simp only [List.length_cons]; omega
theorem nodup_len : ∀ (n : Nat) (q : List Int), q.Nodup → (∀ v ∈ q, 0 ≤ v ∧ v < (n : Int)) → q.length ≤ n
  | 0, q, _, hb => by
    cases q with
    | nil => simp
    | cons x r => have := hb x (by simp); omega
  | n + 1, q, h, hb => by
    have h1 := len_filter (n : Int) q h
    have h2 := nodup_len n (q.filter (fun v => decide (v ≠ (n : Int)))) (List.Pairwise.filter _ h) fun v hv => by
      obtain ⟨a, b⟩ := List.mem_filter.1 hv
      have := hb v a
      have : v ≠ (n : Int) := of_decide_eq_true b
      omega
    omega
theorem on_len {R N : Int} {l : List E} (hv : Valid R N l) {n : Nat} (hn : (n : Int) = R + N) {root z : Int} (hs : 0 ≤ root ∧ root < R) {q : List Int} (hnd : q.Nodup) (hon : ∀ v ∈ q, On l root z v) : q.length ≤ n :=
  nodup_len n q hnd fun v h => by have hN := hv.n; have := (hon v h).node hv (by omega); omega
theorem onward_any (R N : Int) (l : List E) (root z : Int) (n : Nat) (t : Tre) (tv : Value) (w : World) (hv : Valid R N l) (hn : (n : Int) = R + N) (hs : 0 ≤ root ∧ root < R) (hT : Tree R N l root n t.dist t.hops t.pars) (hr : RdT w tv t) (hz : 0 ≤ z ∧ z < (n : Int)) (hd : 0 ≤ T l root z) :
    Calls Try.prog 35 #[tv, .int .i64 z] w fun e w' => ∃ B m g next, e = .returned (.map (some B)) ∧ w.heap.size ≤ B ∧ OnQ l root z next ∧ MG w' B m next g ∧ m ≤ 40000 ∧ Below w.heap.size w w' := by
  obtain ⟨d, h, p, rfl, r1, r2, r3⟩ := hr
  obtain ⟨x1, q1, rfl⟩ := r1.form
  obtain ⟨x2, q2, rfl⟩ := r2.form
  obtain ⟨pa, pc, rfl, p1, p2, hpc⟩ := r3
  have hpl : t.pars.length = n := hT.lp
  rw [hpl] at p1 ⊢
  have HP := Lib.hid hpc
  have HT := Lib.hid hT
  have HV := Lib.hid (And.intro hv (And.intro hn hs))
  have hR := hv.r; have hN := hv.n; have hS := hv.s
  have HZ := Lib.hid (And.intro hz hd)
  have hnb : n ≤ 128 := by omega
  have hmm := @run_makeMap Try.prog
  generalize t.root = tr0
  generalize t.dist.length = n1
  generalize t.hops.length = n2
  clear hpc hT hv hn hs hz hd r1 r2 hpl
  go_enter Try.func35, Try.ntmps35
  go_wp2_with fail
  have HOB : Hid (OS w (.cells #[.int .i64 tr0, .slice x1 n1 q1, .slice x2 n2 q2, .slice pa n pc] 28 (0, 0)) 0 (w.heap.size + 1 + 1) 0 1 (fun _ => []) [z] (((w.alloc (.cells #[.int .i64 tr0, .slice x1 n1 q1, .slice x2 n2 q2, .slice pa n pc] 28 (0, 0))).alloc (.map #[] 0)).alloc (.cells #[.int .i64 z] 3 (0, 0)))) := by
    refine ⟨⟨.map [], ?_, nxD_nil, ?_⟩, ⟨by simp, by simp, by decide, ⟨[.int .i64 z], ?_, rfl, rfl⟩⟩, ?_, ?_⟩
    · rw [show w.heap.size + 1 = (w.alloc (.cells #[.int .i64 tr0, .slice x1 n1 q1, .slice x2 n2 q2, .slice pa n pc] 28 (0, 0))).heap.size by simp]
      exact (World.ownsGroups_made (w.alloc (.cells #[.int .i64 tr0, .slice x1 n1 q1, .slice x2 n2 q2, .slice pa n pc] 28 (0, 0))) Try.prog 3 3 .i64).kept (World.grownBy_alloc _ _ none) (by simp) (fun es clock hb x hx => by cases h : x.val.ownBlock <;> simp)
    · rw [show w.heap.size + 1 = (w.alloc (.cells #[.int .i64 tr0, .slice x1 n1 q1, .slice x2 n2 q2, .slice pa n pc] 28 (0, 0))).heap.size by simp]
      exact (World.Shuns_made (w.alloc (.cells #[.int .i64 tr0, .slice x1 n1 q1, .slice x2 n2 q2, .slice pa n pc] 28 (0, 0))) _).kept (World.grownBy_alloc _ _ none) (by simp) (by simp)
    · exact heap_new1 _ _ (by simp)
    · exact below_then (below_then (below_alloc _ _) (below_alloc _ _)) (below_alloc _ _)
    · exact heap_up (heap_up (heap_new1 _ _ rfl))
  have HN0 : Hid (Nx l root z [z] 0 (fun _ => [])) := Nx.start HV.out.1 HZ.out.2
  go_loopg [6] n (fun gg s6 wr => ∃ (q : List Int) (k m g off cap c cap2 : Nat) (next : Int → List Int) (ad : Option Addr), k ≤ q.length ∧ n - k ≤ gg ∧ s6 = .slice ad c cap2 ∧ c = q.length - k ∧ (0 < c → ad = some ⟨g, off, none⟩ ∧ cap2 = cap) ∧ m ≤ k * 128 ∧ q.length ≤ n ∧ Hid (Nx l root z q k next) ∧ Hid (OS w (.cells #[.int .i64 tr0, .slice x1 n1 q1, .slice x2 n2 q2, .slice pa n pc] 28 (0, 0)) m g off cap next (q.drop k) wr))
  case atStart => exact ⟨[z], 0, 0, _, 0, 1, 1, 1, _, _, by simp, by omega, rfl, by simp, fun _ => ⟨rfl, rfl⟩, by omega, by simp; have := HZ.out; omega, HN0, HOB⟩
  case round =>
    clear HN0 HOB
    obtain ⟨q, k, m, g, off, cap, c, cap2, next, ad, hk, hkg, rfl, hc, had, hm, hqn, HN, HO⟩ := hrel
    by_cases h0 : 0 < c
    · obtain ⟨rfl, rfl⟩ := had h0
      clear had
      have HC := Lib.hid hc
      clear hc
      obtain ⟨x, hx⟩ : ∃ x, q[k]? = some x := ⟨_, List.getElem?_eq_getElem (by have := HC.out; omega)⟩
      have hdk : q.drop k = x :: q.drop (k + 1) := by
        rw [List.drop_eq_getElem_cons (by have := HC.out; omega)]
        have := (List.getElem?_eq_some_iff.1 hx).2
        rw [this]
      have hxn := (HN.out.on x (List.mem_of_getElem? hx)).node HV.out.1 (by have := HV.out; have := HV.out.1.n; omega)
      obtain ⟨y, rfl⟩ : ∃ y : Nat, x = (y : Int) := ⟨x.toNat, by omega⟩
      have hy : y < n := by have := HV.out; omega
      have cw : wr.cell? ⟨g, off, none⟩ = some (.int .i64 (y : Int)) := by have := HO.out.wk.cell (j := 0) (x := (y : Int)) (by rw [hdk]; rfl); simpa using this
      obtain ⟨pb, po, u, rfl, hpb, cu, ru⟩ := HP.out y (gL t.pars y) (gL_get (by have := HT.out.lp; omega))
      have HRI : Hid (RowI (Par l root (y : Int)) (gL t.pars y)) := HT.out.p y hy
      have cp := carryB HO.out.bel hpb cu
      have b3 : wr.cell? ⟨w.heap.size, 3, none⟩ = some (.slice (some ⟨pb, po, none⟩) n pc) := cell_of HO.out.bx rfl
      have HX := Lib.hid (And.intro hx hdk)
      have y0 : (0 : Int) ≤ (y : Int) := by omega
      have y1 : (y : Int) < (n : Int) := by omega
      have c0 : (0 : Int) < (c : Int) := by omega
      obtain ⟨ra, rc, rfl, r1, r2, hrc⟩ := ru
      obtain ⟨P, hP⟩ : ∃ P, (gL t.pars y).length = P := ⟨_, rfl⟩
      rw [hP] at cp r1
      have HRC := Lib.hid hrc
      have HPL := Lib.hid hP
      clear hx hdk hxn cu hrc hP
      go_wp2_with fail
      have HPB : Hid (P ≤ 128) := by
        show P ≤ 128
        rw [← HPL.out]
        have hps := HRI.out
        refine Nat.le_trans (nodup_len n _ (hps.1.imp (fun h => by omega)) fun v hm => ?_) hnb
        have := ((HN.out.on _ (List.mem_of_getElem? HX.out.1)).back HV.out.1 ((hps.2 v).1 hm)).node HV.out.1 (by have := HV.out; have := HV.out.1.n; omega)
        have := HV.out; omega
      have HI0 : Hid (c = q.length - k ∧ k < q.length ∧ m ≤ k * 128 + 0) := ⟨HC.out, by have := HC.out; omega, by omega⟩
      have HJ0 : Hid (Nj l root z (y : Int) (gL t.pars y) 0 q k next) := HN.out.go HX.out.1 _
      have hyi : I64 (y : Int) := by unfold I64; omega
      obtain ⟨i0, hi, hz0, hz1, hz2⟩ := info_parts info3
      have hny : decide (n ≤ y) = false := by simp; omega
      (simp only [hny, Bool.or_false])
      clear hny
      go_loopg [6, 36] P (fun gg s6 s36 wr => ∃ (q : List Int) (j m g off cap c : Nat) (next : Int → List Int), j ≤ P ∧ P - j ≤ gg ∧ s6 = .slice (some ⟨g, off, none⟩) c cap ∧ s36 = .int .i64 (j : Int) ∧ Hid (c = q.length - k ∧ k < q.length ∧ m ≤ k * 128 + j) ∧ Hid (Nj l root z (y : Int) (gL t.pars y) j q k next) ∧ Hid (OS w (.cells #[.int .i64 tr0, .slice x1 n1 q1, .slice x2 n2 q2, .slice (some ⟨pb, po, none⟩) n pc] 28 (0, 0)) m g off cap next (q.drop k) wr))
      case atStart => exact ⟨q, 0, m, g, off, _, c, next, by omega, by omega, rfl, rfl, HI0, HJ0, HO⟩
      case round =>
        clear HI0 HJ0 HO cw cp b3 HN HX HC c0
        obtain ⟨q, j, m, g, off, cap, c, next, hj, hjg, rfl, rfl, HI, HJ, HO⟩ := hrel
        by_cases hlt : j < P
        · obtain ⟨p, hpx⟩ : ∃ p, (gL t.pars y)[j]? = some p := ⟨_, List.getElem?_eq_getElem (by have := HPL.out; omega)⟩
          obtain ⟨rb, ro, rfl, hrb, cr⟩ := HRC.out j p hpx
          have cr' := carryB HO.out.bel hrb cr
          have hpn := ((HJ.out.on _ (List.mem_of_getElem? HJ.out.kv)).back HV.out.1 ((HRI.out.2 p).1 (List.mem_of_getElem? hpx))).node HV.out.1 (by have := HV.out; have := HV.out.1.n; omega)
          have hp : I64 p := by unfold I64; have := HV.out; omega
          have j1 : (j : Int) < (P : Int) := by omega
          obtain ⟨D, hD, hN, hS⟩ := HO.out.mg
          have hm2 : m ≤ 32768 := by have := HI.out; have := HPB.out; have : k * 128 ≤ 128 * 128 := Nat.mul_le_mul_right _ (by omega); omega
          have HQL : Hid ((q.drop k).length = c) := by show _ = _; rw [List.length_drop]; have := HI.out; omega
          have HPX := Lib.hid hpx
          have tok1 : True := trivial
          have tok2 : True := trivial
          have tokA : True := trivial
          have tokB : True := trivial
          clear hpx cr hrb hpn
          by_cases hnx : next p = []
          · by_cases hroom : c < cap
            · have HI8 : Hid (c + 1 = (q ++ [p]).length - k ∧ k < (q ++ [p]).length ∧ m + 1 ≤ k * 128 + (j + 1)) := by
                show _ ∧ _ ∧ _
                have := HI.out
                rw [List.length_append, List.length_singleton]; omega
              have HJ8 : Hid (Nj l root z (y : Int) (gL t.pars y) (j + 1) (q ++ [p]) k (fun u => if u = p then next p ++ [(y : Int)] else next u)) := by
                have := HJ.out.step HV.out.1 HRI.out HPX.out
                rw [if_pos hnx] at this; exact this
              have hdr : (q ++ [p]).drop k = q.drop k ++ [p] := List.drop_append_of_le_length (by have := HI.out; omega)
              have HO2 : Hid (OS w (.cells #[.int .i64 tr0, .slice x1 n1 q1, .slice x2 n2 q2, .slice (some ⟨pb, po, none⟩) n pc] 28 (0, 0)) m g off cap next ((q ++ [p]).drop k) ((wr.alloc (.cells #[.int .i64 p] 3 (0, 0))).setCells g (off + c) [.int .i64 p])) := by
                have h := (HO.out.alloc (.cells #[.int .i64 p] 3 (0, 0))).room (by rw [HQL.out]; exact hroom) p
                rw [HQL.out, ← hdr] at h; exact h
              have hsp : Hid (∀ i, i < [Value.int .i64 p].length → ((wr.alloc (.cells #[.int .i64 p] 3 (0, 0))).cell? ⟨g, off + c + i, none⟩).isSome = true) := fun i hi1 => by
                obtain ⟨xs, x1, x2, x3⟩ := (HO.out.alloc _).wk.row
                simp at hi1; subst hi1
                rw [x1.cell]; simp; omega
              have hfz : Hid (∀ i, i < [Value.int .i64 p].length → (wr.alloc (.cells #[.int .i64 p] 3 (0, 0))).frozen? ⟨g, off + c + i, none⟩ = false) := fun i hi1 => by
                obtain ⟨xs, x1, x2, x3⟩ := (HO.out.alloc (.cells #[.int .i64 p] 3 (0, 0))).wk.row
                exact free_of x1 _
              go_wp2_with (first
                | (at_lookup; have _t := tok1; refine wpList_lookup_groups_shuns _ rfl _ _ 56 rfl 3 25 3 .i64 kI_keyed Try.underlying56 (zero25 _) (w.heap.size + 1 + 1) (w.heap.size + 1) m D rfl hD (by unfold maxLen; omega) _ _ rfl (kI_key hp) ?_; intro u zs hat hoi hzl hback hsu; have hzs := hN.look hp hat hoi; rw [hnx] at hzs; subst hzs; obtain ⟨ad1, cap1, hu1, hq1⟩ := own_form hoi.1; (simp only [List.length_nil] at hu1); subst hu1
                   clear tok1 hat hoi hzl hback hsu hq1)
                | (at_builtin; have _t := tokB; refine wpList_append_room1 _ rfl _ _ 25 25 rfl 3 (.int .i64 0) 8 Try.underlying25 info3 g off c cap rfl _ rfl 1 [.int .i64 p] (Src.ofSlice _ Try.underlying25 ⟨wr.heap.size, 0, none⟩ 1 1 [.int .i64 p] rfl (cell_one_new _ _ _ rfl) (ints_oneCell .i64 [p])) (by omega) (fun i hi1 => hsp.out i hi1) (fun i hi1 => hfz.out i hi1) ?_
                   generalize ((wr.alloc (.cells #[.int .i64 p] 3 (0, 0))).setCells g (off + c) [.int .i64 p]) = w5 at *
                   obtain ⟨D2, hD2, hN2, hS2⟩ := HO2.out.mg
                   clear tokB)
                | (at_lookup; have _t := tok2; refine wpList_lookup_groups_shuns _ rfl _ _ 56 rfl 3 25 3 .i64 kI_keyed Try.underlying56 (zero25 _) (w.heap.size + 1 + 1) (w.heap.size + 1) m D2 rfl hD2 (by unfold maxLen; omega) _ _ rfl (kI_key hp) ?_; intro u zs hat hoi hzl hback hsu; have hzs := hN2.look hp hat hoi; subst hzs; clear tok2)
                | (at_builtin; have _t := tokA; refine wpList_append_own_at _ rfl _ _ 25 rfl (w.heap.size + 1 + 1) 3 i0 (.int .i64 0) 1 8 Try.underlying25 hi hz0 hz1 hz2 rfl (by decide) _ _ _ rfl (hoi.1.alloc _) ⟨w5.heap.size, 0, none⟩ 1 1 [.int .i64 (y : Int)] rfl rfl (cell_one_new _ _ _ rfl) (ints_oneCell .i64 [(y : Int)]) (by unfold maxLen; omega) (by omega) (by have := HO2.out.bel.size; have := HO2.out.mg.lt; simp; omega) ?_; intro v' w7 hown' hgrow hnil hloc
                   have hall := (World.grownBy_alloc w5 (.cells #[.int .i64 (y : Int)] 3 (0, 0)) u.ownBlock).trans hgrow
                   have hoi' := hoi.appended hown' (kI_wf hyi)
                   have hloc' : v'.ownBlock = u.ownBlock ∨ ∃ g, v'.ownBlock = some g ∧ w5.heap.size ≤ g := hloc.imp id (fun h => ⟨_, h, by simp⟩)
                   have hnog : ∀ b, v'.ownBlock = some b → ¬ (b = g) := fun b hb => by
                     have hgl := HO2.out.wk.lt
                     rcases hloc' with h | ⟨b', h, hl⟩
                     · exact hsu _ hS2 b (h.symm.trans hb)
                     · rw [hb] at h; injection h with h; omega
                   clear tokA)
                | (at_mapUpdate; refine wpList_mapUpdate_back_shuns _ rfl _ _ _ 56 rfl kI_keyed Try.underlying56 (kI_key hp) hD2 (by unfold maxLen; omega) hoi hS2 hnog hback rfl rfl rfl hall hoi' (by simp; omega) hloc' ?_; intro w8 hown8 hgrow8 hsh8)
                | go_in)
              have HO8 := Lib.hid (HO2.out.stored hall (fun b hb => ⟨(own_block_lo hoi.1 hb).1, hsu _ hS2 b hb⟩) hgrow8 (mg_put hN2 hp hoi' hown8 hsh8))
              clear hown8 hgrow8 hsh8 hall hoi' hloc' hnog hback hsu hat hoi hown' hgrow hloc
              go_roundg (P - (j + 1))
              case measure => omega
              case rel => exact ⟨q ++ [p], j + 1, m + 1, g, off, cap, c + 1, _, by omega, Nat.le_refl _, rfl, by go_num, HI8, HJ8, HO8⟩
            · have HI8 : Hid (c + 1 = (q ++ [p]).length - k ∧ k < (q ++ [p]).length ∧ m + 1 ≤ k * 128 + (j + 1)) := by
                show _ ∧ _ ∧ _
                have := HI.out
                rw [List.length_append, List.length_singleton]; omega
              have HJ8 : Hid (Nj l root z (y : Int) (gL t.pars y) (j + 1) (q ++ [p]) k (fun u => if u = p then next p ++ [(y : Int)] else next u)) := by
                have := HJ.out.step HV.out.1 HRI.out HPX.out
                rw [if_pos hnx] at this; exact this
              have hdr : (q ++ [p]).drop k = q.drop k ++ [p] := List.drop_append_of_le_length (by have := HI.out; omega)
              have hcl : Hid (∀ (i : Nat) (u : Value), (ints (q.drop k))[i]? = some u → (wr.alloc (.cells #[.int .i64 p] 3 (0, 0))).cell? ((⟨g, off, none⟩ : Addr).add i) = some u) := fun i u hiu => by
                have hil := (List.getElem?_eq_some_iff.1 hiu).1
                rw [ints_len] at hil
                have := (HO.out.alloc (.cells #[.int .i64 p] 3 (0, 0))).wk.cell (List.getElem?_eq_getElem hil)
                rw [ints_get (List.getElem?_eq_getElem hil)] at hiu
                cases hiu
                rw [Addr.add_lit]; exact this
              have HCB : Hid (c ≤ 128) := by
                have := HI.out; have := on_len HV.out.1 HV.out.2.1 HV.out.2.2 HJ.out.nd HJ.out.on
                show c ≤ 128
                omega
              go_wp2_with (first
                | (at_lookup; have _t := tok1; refine wpList_lookup_groups_shuns _ rfl _ _ 56 rfl 3 25 3 .i64 kI_keyed Try.underlying56 (zero25 _) (w.heap.size + 1 + 1) (w.heap.size + 1) m D rfl hD (by unfold maxLen; omega) _ _ rfl (kI_key hp) ?_; intro u zs hat hoi hzl hback hsu; have hzs := hN.look hp hat hoi; rw [hnx] at hzs; subst hzs; obtain ⟨ad1, cap1, hu1, hq1⟩ := own_form hoi.1; (simp only [List.length_nil] at hu1); subst hu1
                   clear tok1 hat hoi hzl hback hsu hq1)
                | (at_builtin; have _t := tokB; refine wpList_append_grows _ rfl _ _ 25 rfl 3 i0 (.int .i64 0) 1 8 Try.underlying25 hi hz0 hz1 hz2 rfl (by decide) (some ⟨g, off, none⟩) c cap (ints (q.drop k)) rfl (by simp) (by rw [ints_len, HQL.out]; omega) (fun b hb i u hiu => by cases hb; exact hcl.out i u hiu) ⟨wr.heap.size, 0, none⟩ 1 1 [.int .i64 p] rfl rfl (cell_one_new _ _ _ rfl) (ints_oneCell .i64 [p]) (by omega) (by have := HCB.out; unfold maxLen; omega) (by have := HCB.out; omega) ?_; intro v5 w5 hown5 hg5
                   obtain ⟨g2, cap2, rfl, hn5, hO5⟩ := (HO.out.alloc (.cells #[.int .i64 p] 3 (0, 0))).grows (x := p) hg5 (by rw [ints_app]; exact hown5) (by omega)
                   rw [← hdr] at hO5
                   have HO2 := Lib.hid hO5
                   obtain ⟨D2, hD2, hN2, hS2⟩ := HO2.out.mg
                   clear tokB hown5 hg5 hn5 hO5)
                | (at_lookup; have _t := tok2; refine wpList_lookup_groups_shuns _ rfl _ _ 56 rfl 3 25 3 .i64 kI_keyed Try.underlying56 (zero25 _) (w.heap.size + 1 + 1) (w.heap.size + 1) m D2 rfl hD2 (by unfold maxLen; omega) _ _ rfl (kI_key hp) ?_; intro u zs hat hoi hzl hback hsu; have hzs := hN2.look hp hat hoi; subst hzs; clear tok2)
                | (at_builtin; have _t := tokA; refine wpList_append_own_at _ rfl _ _ 25 rfl (w.heap.size + 1 + 1) 3 i0 (.int .i64 0) 1 8 Try.underlying25 hi hz0 hz1 hz2 rfl (by decide) _ _ _ rfl (hoi.1.alloc _) ⟨w5.heap.size, 0, none⟩ 1 1 [.int .i64 (y : Int)] rfl rfl (cell_one_new _ _ _ rfl) (ints_oneCell .i64 [(y : Int)]) (by unfold maxLen; omega) (by omega) (by have := HO2.out.bel.size; have := HO2.out.mg.lt; simp; omega) ?_; intro v' w7 hown' hgrow hnil hloc
                   have hall := (World.grownBy_alloc w5 (.cells #[.int .i64 (y : Int)] 3 (0, 0)) u.ownBlock).trans hgrow
                   have hoi' := hoi.appended hown' (kI_wf hyi)
                   have hloc' : v'.ownBlock = u.ownBlock ∨ ∃ g, v'.ownBlock = some g ∧ w5.heap.size ≤ g := hloc.imp id (fun h => ⟨_, h, by simp⟩)
                   have hnog : ∀ b, v'.ownBlock = some b → ¬ (b = g2) := fun b hb => by
                     have hgl := HO2.out.wk.lt
                     rcases hloc' with h | ⟨b', h, hl⟩
                     · exact hsu _ hS2 b (h.symm.trans hb)
                     · rw [hb] at h; injection h with h; omega
                   clear tokA)
                | (at_mapUpdate; refine wpList_mapUpdate_back_shuns _ rfl _ _ _ 56 rfl kI_keyed Try.underlying56 (kI_key hp) hD2 (by unfold maxLen; omega) hoi hS2 hnog hback rfl rfl rfl hall hoi' (by simp; omega) hloc' ?_; intro w8 hown8 hgrow8 hsh8)
                | go_in)
              have HO8 := Lib.hid (HO2.out.stored hall (fun b hb => ⟨(own_block_lo hoi.1 hb).1, hsu _ hS2 b hb⟩) hgrow8 (mg_put hN2 hp hoi' hown8 hsh8))
              clear hown8 hgrow8 hsh8 hall hoi' hloc' hnog hback hsu hat hoi hown' hgrow hloc
              go_roundg (P - (j + 1))
              case measure => omega
              case rel => exact ⟨q ++ [p], j + 1, m + 1, g2, 0, cap2, c + 1, _, by omega, Nat.le_refl _, rfl, by go_num, HI8, HJ8, HO8⟩
          · have hnl : 0 < (next p).length := List.length_pos_iff.2 hnx
            have HI8 : Hid (c = q.length - k ∧ k < q.length ∧ m + 1 ≤ k * 128 + (j + 1)) := ⟨HI.out.1, HI.out.2.1, by have := HI.out; omega⟩
            have HJ8 : Hid (Nj l root z (y : Int) (gL t.pars y) (j + 1) q k (fun u => if u = p then next p ++ [(y : Int)] else next u)) := by
              have := HJ.out.step HV.out.1 HRI.out HPX.out
              rw [if_neg hnx] at this; exact this
            go_wp2_with (first
              | (at_lookup; have _t := tok1; refine wpList_lookup_groups_shuns _ rfl _ _ 56 rfl 3 25 3 .i64 kI_keyed Try.underlying56 (zero25 _) (w.heap.size + 1 + 1) (w.heap.size + 1) m D rfl hD (by unfold maxLen; omega) _ _ rfl (kI_key hp) ?_; intro u zs hat hoi hzl hback hsu; have hzs := hN.look hp hat hoi; rw [← hzs] at hnl; obtain ⟨ad1, cap1, hu1, hq1⟩ := own_form hoi.1; obtain ⟨L1, hL1⟩ : ∃ L1, zs.length = L1 := ⟨_, rfl⟩; rw [hL1] at hu1 hnl; subst hu1; have hnz : ((L1 : Int) == 0) = false := by rw [beq_eq_false_iff_ne]; omega
                 clear tok1 hat hoi hzl hback hsu hq1 hL1 hzs)
              | (at_lookup; have _t := tok2; refine wpList_lookup_groups_shuns _ rfl _ _ 56 rfl 3 25 3 .i64 kI_keyed Try.underlying56 (zero25 _) (w.heap.size + 1 + 1) (w.heap.size + 1) m D rfl hD (by unfold maxLen; omega) _ _ rfl (kI_key hp) ?_; intro u zs hat hoi hzl hback hsu; have hzs := hN.look hp hat hoi; subst hzs; clear tok2)
              | (at_builtin; have _t := tokA; refine wpList_append_own_at _ rfl _ _ 25 rfl (w.heap.size + 1 + 1) 3 i0 (.int .i64 0) 1 8 Try.underlying25 hi hz0 hz1 hz2 rfl (by decide) _ _ _ rfl (hoi.1.alloc _) ⟨wr.heap.size, 0, none⟩ 1 1 [.int .i64 (y : Int)] rfl rfl (cell_one_new _ _ _ rfl) (ints_oneCell .i64 [(y : Int)]) (by unfold maxLen; omega) (by omega) (by have := HO.out.bel.size; have := HO.out.mg.lt; simp; omega) ?_; intro v' w7 hown' hgrow hnil hloc
                 have hall := (World.grownBy_alloc wr (.cells #[.int .i64 (y : Int)] 3 (0, 0)) u.ownBlock).trans hgrow
                 have hoi' := hoi.appended hown' (kI_wf hyi)
                 have hloc' : v'.ownBlock = u.ownBlock ∨ ∃ g, v'.ownBlock = some g ∧ wr.heap.size ≤ g := hloc.imp id (fun h => ⟨_, h, by simp⟩)
                 have hnog : ∀ b, v'.ownBlock = some b → ¬ (b = g) := fun b hb => by
                   have hgl := HO.out.wk.lt
                   rcases hloc' with h | ⟨b', h, hl⟩
                   · exact hsu _ hS b (h.symm.trans hb)
                   · rw [hb] at h; injection h with h; omega
                 clear tokA)
              | (at_mapUpdate; refine wpList_mapUpdate_back_shuns _ rfl _ _ _ 56 rfl kI_keyed Try.underlying56 (kI_key hp) hD (by unfold maxLen; omega) hoi hS hnog hback rfl rfl rfl hall hoi' (by simp; omega) hloc' ?_; intro w8 hown8 hgrow8 hsh8)
              | go_in)
            have HO8 := Lib.hid (HO.out.stored hall (fun b hb => ⟨(own_block_lo hoi.1 hb).1, hsu _ hS b hb⟩) hgrow8 (mg_put hN hp hoi' hown8 hsh8))
            clear hown8 hgrow8 hsh8 hall hoi' hloc' hnog hback hsu hat hoi hown' hgrow hloc
            go_roundg (P - (j + 1))
            case measure => omega
            case rel => exact ⟨q, j + 1, m + 1, g, off, cap, c, _, by omega, Nat.le_refl _, rfl, by go_num, HI8, HJ8, HO8⟩
        · obtain rfl : j = P := by omega
          have hpl := HPL.out
          have HX2 : Hid (Nx l root z q (k + 1) next) := by
            have h := HJ.out
            rw [← hpl] at h
            exact h.last HRI.out
          have HQ2 : Hid (q.length ≤ n) := on_len HV.out.1 HV.out.2.1 HV.out.2.2 HJ.out.nd HJ.out.on
          have HO2 : Hid (OS w (.cells #[.int .i64 tr0, .slice x1 n1 q1, .slice x2 n2 q2, .slice (some ⟨pb, po, none⟩) n pc] 28 (0, 0)) m g (off + 1) (cap - 1) next (q.drop (k + 1)) wr) := by
            have h := HO.out
            have hk := HI.out
            rw [List.drop_eq_getElem_cons (by omega)] at h
            exact h.tail
          have hcl := HO.out.wk.len
          rw [List.length_drop] at hcl
          have hc1 : 1 ≤ c := by have := HI.out; omega
          have hc2 : 1 ≤ cap := by have := HI.out; omega
          have hc3 : c ≤ cap := by have := HI.out; omega
          clear hpl hcl
          by_cases hcap : cap = 1
          · obtain rfl := hcap
            obtain rfl : c = 1 := by omega
            go_wp2_with fail
            go_roundg (n - (k + 1))
            case measure => have h1 := HI.out; have h2 := HQ2.out; change q.length ≤ n at h2; omega
            case rel => exact ⟨q, k + 1, m, g, off + 1, 1 - 1, 0, 0, next, _, by have := HI.out; omega, Nat.le_refl _, rfl, by have := HI.out; omega, fun h => by omega, by have := HI.out; have := HPB.out; omega, HQ2.out, HX2, HO2⟩
          · go_wp2_with fail
            go_roundg (n - (k + 1))
            case measure => have h1 := HI.out; have h2 := HQ2.out; change q.length ≤ n at h2; omega
            case rel => exact ⟨q, k + 1, m, g, off + 1, cap - 1, c - 1, cap - 1, next, some ⟨g, off + 1, none⟩, by have := HI.out; omega, Nat.le_refl _, by first | rfl | go_num, by have := HI.out; omega, fun h => ⟨rfl, rfl⟩, by have := HI.out; have := HPB.out; omega, HQ2.out, HX2, HO2⟩
    · obtain rfl : c = 0 := by omega
      have HF := Lib.hid (show k = q.length by omega)
      clear had h0 hc
      go_wp2
      go_ret
      exact ⟨_, m, g, next, rfl, by omega, fun u v => by have := HN.out; rw [HF.out] at this; exact this.all HV.out.1 u v, HO.out.mg, by have : k * 128 ≤ 128 * 128 := Nat.mul_le_mul_right _ (by omega); omega, HO.out.bel⟩
end Go.Proofs.Ytmlpbhankgojpaa
