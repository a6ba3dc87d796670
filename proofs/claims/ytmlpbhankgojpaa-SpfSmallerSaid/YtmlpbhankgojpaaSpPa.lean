/-
  The walk of Path.
-/
import Derived.Test.YtmlpbhankgojpaaSpPm
namespace Go.Proofs.Ytmlpbhankgojpaa
open Go.RowKit Go.Maps Go.ChangeShapes HM GM SP
set_option linter.unusedSimpArgs false
set_option linter.unusedVariables false
set_option maxHeartbeats 4000000
set_option maxRecDepth 100000
theorem path_way (R N : Int) (l : List E) (root : Int) (z : Nat) (n : Nat) (t : Tre) (tv : Value) (w : World) (hv : Valid R N l) (hn : (n : Int) = R + N) (hs : 0 ≤ root ∧ root < R) (hT : Tree R N l root n t.dist t.hops t.pars) (hroot : t.root = root) (hr : RdT w tv t) (hz : z < n) (hd : 0 ≤ T l root (z : Int)) :
    Calls Try.prog 19 #[tv, .int .i64 (z : Int)] w fun e w' => ∃ v p, e = .returned v ∧ SP.Way l root (z : Int) p (z : Int) ∧ w'.ownsRow w.heap.size 3 1 v p.length (ints p) ∧ Below w.heap.size w w' := by
  have HON : Hid (∀ W, Below w.heap.size w W → Calls Try.prog 35 #[tv, .int .i64 (z : Int)] W fun e w' => ∃ B m g next, e = .returned (.map (some B)) ∧ W.heap.size ≤ B ∧ OnQ l root (z : Int) next ∧ MG w' B m next g ∧ m ≤ 40000 ∧ Below W.heap.size W w') := fun W hW => onward_any R N l root (z : Int) n t tv W hv hn hs hT (hr.below hW) ⟨by omega, by omega⟩ hd
  have hzd : t.dist[z]? = some (T l root (z : Int)) := by
    have h := hT.d z hz
    have h2 := hT.ld
    unfold gI at h
    rw [List.getElem?_eq_getElem (by omega)] at h ⊢
    simpa using h
  obtain ⟨d, h, p, rfl, r1, r2, r3⟩ := hr
  obtain ⟨x1, q1, rfl, r11, r12, hx1⟩ := r1
  obtain ⟨x2, q2, rfl⟩ := r2.form
  obtain ⟨pa, pc, rfl, p1, p2, hpc⟩ := r3
  obtain ⟨db, dof, rfl, hdb, cd⟩ := hx1 z _ hzd
  have hdl : t.dist.length = n := hT.ld
  rw [hdl] at HON r11 ⊢
  rw [hroot] at HON ⊢
  generalize t.hops.length = n2 at *
  generalize t.pars.length = n3 at *
  have HV := Lib.hid (And.intro hv (And.intro hn hs))
  have hR := hv.r; have hN := hv.n; have hS := hv.s
  have hnb : n ≤ 128 := by omega
  have HD := Lib.hid hd
  obtain ⟨tz, htz⟩ : ∃ tz, T l root (z : Int) = tz := ⟨_, rfl⟩
  rw [htz] at cd hd
  have ca := fun o => carry (below_alloc w o) cd
  have z0 : (0 : Int) ≤ (z : Int) := by omega
  have z1 : (z : Int) < (n : Int) := by omega
  clear hv hn hs hT hpc hx1 r2 hzd cd htz
  go_enter Try.func19, Try.ntmps19
  go_wp2_with fail
  have e1 : decide ((z : Int) < 0) = false := by simp
  have e2 : decide (n ≤ z) = false := by simp; omega
  have e3 : decide (tz < 0) = false := by simp; omega
  simp only [e1, e2, e3, Bool.or_false]
  clear e1 e2 e3
  refine (HON.out _ (below_alloc _ _)).mono ?_
  rintro e w1 ⟨B, m, g, next, rfl, lB, hOQ, hMG, hm, hb1⟩
  clear HON ca
  have HPM : Hid (PM w1 w1 B m (fun _ => True) next) := PM.start hMG
  have HOQ := Lib.hid hOQ
  have HB1 := Lib.hid (below_then (below_alloc _ _) hb1)
  have o1 := (hb1.block _ (by simp)).trans (heap_new1 w (.cells #[.int .i64 root, .slice (some ⟨db, dof, none⟩) n q1, .slice x2 n2 q2, .slice pa n3 pc] 28 (0, 0)) rfl)
  have hBlt := hMG.lt
  have c0 : w1.cell? ⟨w.heap.size, 0, none⟩ = some (.int .i64 root) := cell_of o1 rfl
  have c1 := fun o => carry (below_alloc w1 o) c0
  simp at lB
  clear hMG hOQ hb1
  go_wp2_with fail
  have HPT : Hid ((w1.alloc (.cells #[.int .i64 root] 3 (0, 0))).ownsRow w1.heap.size 3 1 (.slice (some ⟨w1.heap.size, 0, none⟩) 1 1) 1 (ints [root])) := by
    refine ⟨rfl, .inr ⟨w1.heap.size, 1, _, rfl, Nat.le_refl _, heap_new1 _ _ rfl, Nat.le_refl _, by decide, rfl, rfl⟩⟩
  have HKP : Hid (Kp [B] w1 (w1.alloc (.cells #[.int .i64 root] 3 (0, 0)))) := (Kp.refl _ _).alloc _
  have HPM1 : Hid (PM w1 (w1.alloc (.cells #[.int .i64 root] 3 (0, 0))) B m (fun x => tr R root (T l root root) ≤ tr R x (T l root x)) next) := by
    obtain ⟨D, h1, h2⟩ := HPM.out.kept (World.grownBy_alloc w1 (.cells #[.int .i64 root] 3 (0, 0)) none) (by simp)
    exact ⟨D, h1, fun p hp _ => h2 p hp trivial⟩
  have HW1 : Hid (SP.Way l root (z : Int) [root] root) := .one
  clear HPM c0 c1
  obtain ⟨i0, hi, hz0, hz1, hz2⟩ := info_parts info3
  go_loopg [6, 7] ((tr R (z : Int) (T l root (z : Int)) - tr R root (T l root root)).toNat) (fun gg s6 s7 wr => ∃ (u : Int) (p : List Int), (tr R (z : Int) (T l root (z : Int)) - tr R u (T l root u)).toNat ≤ gg ∧ s7 = .int .i64 u ∧ Hid (wr.ownsRow w1.heap.size 3 1 s6 p.length (ints p)) ∧ Hid (SP.Way l root (z : Int) p u) ∧ Hid (PM w1 wr B m (fun x => tr R u (T l root u) ≤ tr R x (T l root x)) next) ∧ Hid (Kp [B] w1 wr))
  case atStart => exact ⟨root, [root], Nat.le_refl _, rfl, HPT, HW1, HPM1, HKP⟩
  case round =>
    clear HPT HW1 HPM1 HKP
    obtain ⟨u, p, hgg, rfl, HPT, HW, HPM, HKP⟩ := hrel
    by_cases huz : u = (z : Int)
    · subst huz
      go_wp2
      go_ret
      exact ⟨_, p, rfl, HW.out, own_lower HPT.out HB1.out.size, HB1.out.trans (HKP.out.below HB1.out.size (fun b hb => by simp at hb; omega))⟩
    · have hon := HW.out.on HV.out.1 HD.out
      have hne := next_ne HV.out.1 ⟨HV.out.2.2.1, by have := HV.out; omega⟩ HOQ.out hon huz
      have hnx := nxt_min HOQ.out hne
      have hub := hon.node HV.out.1 ⟨HV.out.2.2.1, by have := HV.out; omega⟩
      have hui : I64 u := by unfold I64; omega
      obtain ⟨D, hD, hat⟩ := HPM.out
      have hat1 := hat u hui (Int.le_refl _)
      have hlt : 0 < (next u).length := List.length_pos_iff.2 hne
      have hnb2 : (u != (z : Int)) = true := by simpa using huz
      obtain ⟨L, hL⟩ : ∃ L, (next u).length = L := ⟨_, rfl⟩
      rw [hL] at hlt
      have hnz : ((L : Int) == 0) = false := by rw [beq_eq_false_iff_ne]; omega
      have HL := Lib.hid hL
      clear hL
      have HW2 : Hid (SP.Way l root (z : Int) (p ++ [Lib.minOf (next u)]) (Lib.minOf (next u))) := .more HW.out huz hnx
      have htu := (hnx.turn HV.out.1)
      have HTU := Lib.hid htu
      have hgg2 : (tr R (z : Int) (T l root (z : Int)) - tr R (Lib.minOf (next u)) (T l root (Lib.minOf (next u)))).toNat < gk := by omega
      have HML := Lib.hid (way_len HV.out.1 HV.out.2.1 HV.out.2.2 HD.out HW.out)
      have hvi : I64 (Lib.minOf (next u)) := by
        have := (hnx.1.1).node HV.out.1 ⟨HV.out.2.2.1, by have := HV.out; omega⟩
        unfold I64; omega
      clear htu hnx hub hon hne
      obtain ⟨x, hx⟩ : ∃ x, Lib.minOf (next u) = x := ⟨_, rfl⟩
      have HX := Lib.hid hx
      rw [hx] at HW2 HTU hgg2 hvi
      clear hx
      go_wp2_with (first
        | (at_lookup; refine wpl_look rfl _ _ rfl Try.underlying56 rfl hD rfl hui hat1 ?_; intro v hoi; have hLm : (next u).length ≤ 9223372036854775807 := (by obtain ⟨_, _, _, b1, b2, _⟩ := rdi_own hoi.1; omega); obtain ⟨ad, vc, hv1, hq⟩ := own_form hoi.1; rw [HL.out] at hv1 hq hLm; obtain ⟨hb, rfl⟩ := hq hlt; subst hv1; clear hq)
        | (at_delete; refine wpList_delete_own _ rfl _ _ 56 3 rfl 25 kI_keyed Try.underlying56 _ B m D rfl hD _ _ rfl (kI_key hui) ?_; intro w2 hD2 hT2
           obtain ⟨HK2, HMC, HP2⟩ := pm_step HKP.out hT2 hoi HPT.out hBlt
           have HPM2 : Hid (PM w1 w2 B m (fun y => tr R x (T l root x) ≤ tr R y (T l root y)) next) := pm_del hD2 hat fun y hy => ⟨by have := HTU.out.1; omega, fun e => by subst e; have := HTU.out.1; omega⟩
           clear hD2 hT2 hoi hD hat)
        | (go_at_call 36; refine (Try.slices_Min_int hb 0 L vc (next u) w2 hlt (by rw [HL.out]; exact Nat.le_refl _) hLm HMC.out).mono ?_; rintro e w3 ⟨rfl, rfl⟩
           rw [List.take_of_length_le (by rw [HL.out]; exact Nat.le_refl _), HX.out])
        | (at_builtin; refine wpList_append_own_at _ rfl _ _ 25 rfl w1.heap.size 3 i0 (.int .i64 0) 1 8 Try.underlying25 hi hz0 hz1 hz2 rfl (by decide) _ _ _ rfl (HP2.out.alloc _) ⟨w3.heap.size, 0, none⟩ 1 1 [.int .i64 x] rfl rfl (cell_one_new _ _ _ rfl) (ints_oneCell .i64 [x]) (by have := HML.out; unfold maxLen; omega) (by have := HML.out; omega) (by have := HK2.out.size; simp; omega) ?_; intro v' w7 hown' hgrow hnil hloc)
        | go_in)
      have hall := (World.grownBy_alloc w3 (.cells #[.int .i64 x] 3 (0, 0)) u6.ownBlock).trans hgrow
      have HPT3 : Hid (w7.ownsRow w1.heap.size 3 1 v' (p ++ [x]).length (ints (p ++ [x]))) := by
        rw [List.length_append, ints_app]; exact hown'
      have HPM3 : Hid (PM w1 w7 B m (fun y => tr R x (T l root x) ≤ tr R y (T l root y)) next) := HPM2.out.kept hall (fun e => by have := own_block_lo HP2.out e.symm; omega)
      have HK3 : Hid (Kp [B] w1 w7) := HK2.out.grown hall (fun b hb => .inr (own_block_lo HP2.out hb).1)
      clear hall hown' hgrow hnil hloc
      go_roundg ((tr R (z : Int) (T l root (z : Int)) - tr R x (T l root x)).toNat)
      case measure => exact hgg2
      case rel => exact ⟨x, p ++ [x], Nat.le_refl _, rfl, HPT3, HW2, HPM3, HK3⟩
theorem path_none (R N : Int) (l : List E) (root z : Int) (n : Nat) (t : Tre) (tv : Value) (w : World) (hv : Valid R N l) (hn : (n : Int) = R + N) (hs : 0 ≤ root ∧ root < R) (hT : Tree R N l root n t.dist t.hops t.pars) (hr : RdT w tv t) (hz : ¬ (0 ≤ z ∧ z < (n : Int) ∧ 0 ≤ T l root z)) :
    Calls Try.prog 19 #[tv, .int .i64 z] w fun e w' => e = .returned (.slice none 0 0) ∧ Below w.heap.size w w' := by
  have hld : t.dist.length = n := hT.ld
  have hzd : ∀ y : Nat, y < n → t.dist[y]? = some (T l root (y : Int)) := fun y hy => by
    have h := hT.d y hy
    unfold gI at h
    rw [List.getElem?_eq_getElem (by omega)] at h ⊢
    simpa using h
  obtain ⟨d, h, p, rfl, r1, r2, r3⟩ := hr
  obtain ⟨x1, q1, rfl, r11, r12, hx1⟩ := r1
  obtain ⟨x2, q2, rfl⟩ := r2.form
  obtain ⟨pa, pc, rfl, p1, p2, hpc⟩ := r3
  rw [hld] at r11 ⊢
  have hR := hv.r; have hN := hv.n; have hS := hv.s
  have hnb : n ≤ 128 := by omega
  have HB := Lib.hid (below_alloc w (.cells #[.int .i64 t.root, .slice x1 n q1, .slice x2 t.hops.length q2, .slice pa t.pars.length pc] 28 (0, 0)))
  by_cases z0 : z < 0
  · clear hT hpc hx1 r2 hzd hv hz
    go_enter Try.func19, Try.ntmps19
    go_wp2
    go_ret
    exact ⟨rfl, HB.out⟩
  · by_cases z1 : (n : Int) ≤ z
    · clear hT hpc hx1 r2 hzd hv hz hn hld
      have z2 : ¬ z < (n : Int) := by omega
      go_enter Try.func19, Try.ntmps19
      go_wp2
      go_ret
      exact ⟨rfl, HB.out⟩
    · obtain ⟨y, rfl⟩ : ∃ y : Nat, z = (y : Int) := ⟨z.toNat, by omega⟩
      have hy : y < n := by omega
      obtain ⟨db, dof, rfl, hdb, cd⟩ := hx1 y _ (hzd y hy)
      have hd : T l root (y : Int) < 0 := by omega
      obtain ⟨tz, htz⟩ : ∃ tz, T l root (y : Int) = tz := ⟨_, rfl⟩
      rw [htz] at cd hd
      have ca := fun o => carry (below_alloc w o) cd
      have y1 : (y : Int) < (n : Int) := by omega
      clear hT hpc hx1 r2 hzd hv hz hn hld htz z0 z1
      have y0 : (0 : Int) ≤ (y : Int) := by omega
      go_enter Try.func19, Try.ntmps19
      go_wp2
      go_ret
      exact ⟨rfl, HB.out⟩
/-- what Path answers -/
def PaR (l : List E) (root z : Int) (n : Nat) (p : List Int) : Prop :=
  ((0 ≤ z ∧ z < (n : Int) ∧ 0 ≤ T l root z) ∧ SP.Way l root z p z) ∨ (¬ (0 ≤ z ∧ z < (n : Int) ∧ 0 ≤ T l root z) ∧ p = [])
theorem PaR.unique {R N : Int} {l : List E} (hv : Valid R N l) {root z : Int} {n : Nat} {p q : List Int} (h : PaR l root z n p) (k : PaR l root z n q) : p = q := by
  rcases h with ⟨a, h⟩ | ⟨a, h⟩ <;> rcases k with ⟨b, k⟩ | ⟨b, k⟩
  · exact h.unique k
  · exact absurd a b
  · exact absurd b a
  · rw [h, k]
theorem path_any (R N : Int) (l : List E) (root z : Int) (n : Nat) (t : Tre) (tv : Value) (w : World) (hv : Valid R N l) (hn : (n : Int) = R + N) (hs : 0 ≤ root ∧ root < R) (hT : Tree R N l root n t.dist t.hops t.pars) (hroot : t.root = root) (hr : RdT w tv t) :
    Calls Try.prog 19 #[tv, .int .i64 z] w fun e w' => ∃ v p, e = .returned v ∧ PaR l root z n p ∧ w'.ownsRow w.heap.size 3 1 v p.length (ints p) ∧ Below w.heap.size w w' := by
  by_cases h : 0 ≤ z ∧ z < (n : Int) ∧ 0 ≤ T l root z
  · obtain ⟨y, rfl⟩ : ∃ y : Nat, z = (y : Int) := ⟨z.toNat, by omega⟩
    refine (path_way R N l root y n t tv w hv hn hs hT hroot hr (by omega) h.2.2).mono ?_
    rintro e w' ⟨v, p, e1, e2, e3, e4⟩
    exact ⟨v, p, e1, .inl ⟨h, e2⟩, e3, e4⟩
  · refine (path_none R N l root z n t tv w hv hn hs hT hr h).mono ?_
    rintro e w' ⟨e1, e2⟩
    exact ⟨_, [], e1, .inr ⟨h, rfl⟩, World.ownsRow_nil _ _ _ _, e2⟩
end Go.Proofs.Ytmlpbhankgojpaa
