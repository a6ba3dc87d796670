/-
  Rows of numbers of the call's own; the walks of both Flat, Size, Large.
-/
import Derived.Test.YtiobfgcpbihbhaaGreatDoorAsE
import Derived.Lib.AppendZeros
import Derived.Laws.AppendOwnNone
namespace Go.Proofs.YtiobfgcpbihbhaaGreatDoor
open Go.RowKit P
set_option linter.unusedSimpArgs false
set_option linter.unusedVariables false
set_option maxHeartbeats 4000000
set_option maxRecDepth 100000
theorem infoE_parts {t : TypeId} {z : Value} {a b : Nat} (h : (Tryz.prog.info? t).map (fun i => (i.zero, i.size, i.bytes)) = some (some z, a, b)) : ∃ i, Tryz.prog.info? t = some i ∧ i.zero = some z ∧ i.size = a ∧ i.bytes = b := by
  cases hi : Tryz.prog.info? t with
  | none => rw [hi] at h; cases h
  | some i =>
    rw [hi] at h
    simp only [Option.map_some, Option.some.injEq, Prod.mk.injEq] at h
    exact ⟨i, rfl, h.1, h.2.1, h.2.2⟩
theorem info3 : (Tryz.prog.info? 3).map (fun i => (i.zero, i.size, i.bytes)) = some (some (.int .i64 0), 1, 8) := by kernel_rfl
theorem ints_app (l m : List Int) : ints (l ++ m) = ints l ++ ints m := by simp [ints]
theorem ints_one (l : List Int) : ∀ u ∈ ints l, u.oneCell' = true := by
  intro u hu
  obtain ⟨x, _, rfl⟩ := List.mem_map.1 hu
  rfl
def OwnI (B : Nat) (w : World) (v : Value) (l : List Int) : Prop := B ≤ w.heap.size ∧ w.ownsRow B 3 1 v l.length (ints l)
theorem OwnI.below {B : Nat} {w w1 : World} {v : Value} {l : List Int} (h : OwnI B w v l) (hb : Below w.heap.size w w1) : OwnI B w1 v l := ⟨Nat.le_trans h.1 hb.size, row_below h.2 hb⟩
theorem OwnI.nil (B : Nat) (w : World) (h : B ≤ w.heap.size) : OwnI B w (.slice none 0 0) [] := ⟨h, World.ownsRow_nil _ _ _ _⟩
theorem OwnI.rd {B : Nat} {w : World} {v : Value} {l : List Int} (h : OwnI B w v l) : RdI w v l := rdi_own h.2
theorem OwnI.lt {B : Nat} {w : World} {v : Value} {l : List Int} (h : OwnI B w v l) : ∀ k, v.ownBlock = some k → B ≤ k ∧ k < w.heap.size := fun k hk => row_lt h.2 hk
/-- a row of the call's own, nothing older changed -/
def InsI (w : World) (v : Value) (o : List Int) (W : World) : Prop := OwnI w.heap.size W v o ∧ Below w.heap.size w W
theorem InsI.below {w W W2 : World} {v : Value} {o : List Int} (h : InsI w v o W) (hb : Below W.heap.size W W2) : InsI w v o W2 := ⟨h.1.below hb, h.2.trans (hb.mono h.2.size)⟩
theorem InsI.start (w : World) : InsI w (.slice none 0 0) [] w := ⟨OwnI.nil _ _ (Nat.le_refl _), Below.refl _ _⟩
theorem append_rdI {w : World} {ops : Array Oper} {rest : List Oper} {o : Oper} {a : Act} {Q : Exit → Act → World → Prop} (hgd : o.guard = none) (s x : Operand)
    (ho : o.op = .call { callee := .builtin .append, args := #[s, x], argTypes := #[34, 34] }) (B : Nat) (hB : B ≤ w.heap.size)
    (v : Value) (l : List Int) (hs : a.eval s = v) (hown : OwnI B w v l) (vx : Value) (m : List Int) (hx : a.eval x = vx) (hr : RdI w vx m) (hlen : l.length + m.length ≤ 2000000)
    (h : ∀ v' w', OwnI B w' v' (l ++ m) → Below B w w' → wpList Tryz.prog ops Q rest (a.put o.dst v') w') : wpList Tryz.prog ops Q (o :: rest) a w := by
  obtain ⟨i0, hi, hz0, hz1, hz2⟩ := infoE_parts info3
  obtain ⟨ad, cap, e, hcap, ⟨h63, hnil⟩, hc⟩ := id hr
  subst e
  cases ad with
  | none =>
    have h0 : m = [] := by
      cases m with
      | nil => rfl
      | cons y r => obtain ⟨b, off, e, _⟩ := hc 0 y rfl; cases e
    subst h0
    have hcap : cap = 0 := hnil rfl
    subst hcap
    refine wpList_append_own_none hgd s x 34 ho B 3 i0 1 Tryz.underlying34 hi v l.length (ints l) hs hown.2 hx (h v w ?_ (Below.refl _ _))
    rw [List.append_nil]; exact hown
  | some A =>
    have hsp : ∀ j u, (ints m)[j]? = some u → w.cell? (A.add j) = some u := fun j u hj => by
      unfold ints at hj
      rw [List.getElem?_map] at hj
      cases hx : m[j]? with
      | none => rw [hx] at hj; cases hj
      | some y =>
        rw [hx] at hj
        obtain rfl := Option.some.inj hj
        obtain ⟨b, off, e, _, hcell⟩ := hc j y hx
        injection e with e
        subst e
        rw [Addr.add_lit]; exact hcell
    refine wpList_append_own _ hgd s x 34 ho B 3 i0 (.int .i64 0) 1 8 Tryz.underlying34 hi hz0 hz1 hz2 rfl (by decide) v l.length (ints l) hs hown.2 A m.length cap (ints m) hx (by simp [ints]) hsp (ints_one m) (by unfold maxLen; omega) (by omega) hB fun v' w' h1 h2 _ => h v' w' ?_ ?_
    · have hb := (Below.refl _ w).grown h2 hB (fun k hk => (hown.lt k hk).1)
      refine ⟨Nat.le_trans hB hb.size, ?_⟩
      rw [ints_app, List.length_append]; exact h1
    · exact (Below.refl _ w).grown h2 hB (fun k hk => (hown.lt k hk).1)
theorem flat_any (p : List Sg) (v : Value) (w : World) (hv : RdS w v p) (hl : (flat p).length ≤ 2000000) : Calls Tryz.prog 27 #[v] w fun e w' => ∃ v', e = .returned v' ∧ InsI w v' (flat p) w' := by
  obtain ⟨ad, cap, rfl, h1, h2, hc⟩ := hv
  have HC := Lib.hid hc
  obtain ⟨n, hn⟩ : ∃ n, p.length = n := ⟨_, rfl⟩
  rw [hn] at h1 ⊢
  have HN := Lib.hid hn
  have HS0 : Hid (InsI w (.slice none 0 0) (flat (p.take 0)) w) := InsI.start w
  have HTL : Hid (∀ k, (flat (p.take k)).length ≤ 2000000) := fun k => Nat.le_trans (flat_take_le p k) hl
  clear hc hn hl
  go_enter Tryz.func27, Tryz.ntmps27
  go_wp2_with fail
  go_loopg [3, 5, 8] n (fun g s3 s5 s8 wr => ∃ k : Nat, k ≤ n ∧ n - k ≤ g ∧ (∃ q, q = s5) ∧ s8 = .int .i64 (k : Int) ∧ Hid (InsI w s3 (flat (p.take k)) wr))
  case atStart => exact ⟨0, by omega, by omega, ⟨_, rfl⟩, rfl, HS0⟩
  case round =>
    clear HS0
    obtain ⟨k, hk, hkg, ⟨u5, rfl⟩, rfl, HS⟩ := hrel
    by_cases hlt : k < n
    · obtain ⟨s, hs⟩ : ∃ s, p[k]? = some s := ⟨_, List.getElem?_eq_getElem (by have := HN.out; omega)⟩
      have HFT := Lib.hid (flat_take hs)
      have hle := HTL.out (k + 1)
      rw [HFT.out, List.length_append] at hle
      obtain ⟨b, off, u, rfl, hb, c0, c1, hu⟩ := HC.out k s hs
      have d0 := carry HS.out.2 c0
      have d1 := carry HS.out.2 c1
      have HU : Hid (∀ W, Below w.heap.size w W → RdI W u s.as) := fun W hW => hu.below hW
      obtain ⟨uad, ucap, hf⟩ := hu.form
      have k0 : (0 : Int) ≤ (k : Int) := by omega
      have k1 : (k : Int) < (n : Int) := by omega
      subst hf
      generalize hpre : flat (p.take k) = pre at *
      obtain ⟨ns, hns⟩ : ∃ ns, s.as = ns := ⟨_, rfl⟩
      rw [hns] at HFT HU hle d1
      obtain ⟨L, hL⟩ : ∃ L, ns.length = L := ⟨_, rfl⟩
      rw [hL] at HU d1
      have HA : Hid (InsI w _ pre (wr.alloc (.cells #[.int .i64 s.k, .slice uad L ucap] 46))) := HS.out.below (below_alloc _ _)
      have HUA := Lib.hid (HU.out _ HA.out.2)
      clear hs c0 c1 hu HU HS hpre hns hL
      go_wp2_with (at_builtin; refine append_rdI rfl (.tmp 12) (.tmp 14) rfl w.heap.size HA.out.2.size _ pre rfl HA.out.1 _ ns rfl HUA.out hle ?_; intro v2 w2 hown hb; have S2 : Hid (InsI w v2 (pre ++ ns) w2) := ⟨hown, HA.out.2.trans hb⟩; clear hown hb)
      go_roundg (n - (k + 1))
      case measure => omega
      case rel => exact ⟨k + 1, by omega, Nat.le_refl _, ⟨_, rfl⟩, by go_num, by unfold Hid; rw [HFT.out]; exact S2.out⟩
    · have k1 : decide ((k : Int) < (n : Int)) = false := decide_eq_false (by omega)
      have HE : Hid (flat (p.take k) = flat p) := by unfold Hid; rw [List.take_of_length_le (by rw [HN.out]; omega)]
      go_wp2
      go_ret
      exact ⟨_, rfl, HE.out ▸ HS.out⟩
theorem rflat_any (p : List Sg) (v : Value) (w : World) (hv : RdS w v p) (hl : (flat p).length ≤ 2000000) : Calls Tryz.prog 28 #[v] w fun e w' => ∃ v', e = .returned v' ∧ InsI w v' (flat p) w' := by
  obtain ⟨ad, cap, rfl, h1, h2, hc⟩ := hv
  have HC := Lib.hid hc
  obtain ⟨n, hn⟩ : ∃ n, p.length = n := ⟨_, rfl⟩
  rw [hn] at h1 ⊢
  have HN := Lib.hid hn
  have HS0 : Hid (InsI w (.slice none 0 0) (flat (p.take 0)) w) := InsI.start w
  have HTL : Hid (∀ k, (flat (p.take k)).length ≤ 2000000) := fun k => Nat.le_trans (flat_take_le p k) hl
  clear hc hn hl
  go_enter Tryz.func28, Tryz.ntmps28
  go_wp2_with fail
  go_loopg [3, 5, 8] n (fun g s3 s5 s8 wr => ∃ k : Nat, k ≤ n ∧ n - k ≤ g ∧ (∃ q, q = s5) ∧ s8 = .int .i64 (k : Int) ∧ Hid (InsI w s3 (flat (p.take k)) wr))
  case atStart => exact ⟨0, by omega, by omega, ⟨_, rfl⟩, rfl, HS0⟩
  case round =>
    clear HS0
    obtain ⟨k, hk, hkg, ⟨u5, rfl⟩, rfl, HS⟩ := hrel
    by_cases hlt : k < n
    · obtain ⟨s, hs⟩ : ∃ s, p[k]? = some s := ⟨_, List.getElem?_eq_getElem (by have := HN.out; omega)⟩
      have HFT := Lib.hid (flat_take hs)
      have hle := HTL.out (k + 1)
      rw [HFT.out, List.length_append] at hle
      obtain ⟨b, off, u, rfl, hb, c0, c1, hu⟩ := HC.out k s hs
      have d0 := carry HS.out.2 c0
      have d1 := carry HS.out.2 c1
      have HU : Hid (∀ W, Below w.heap.size w W → RdI W u s.as) := fun W hW => hu.below hW
      obtain ⟨uad, ucap, hf⟩ := hu.form
      have k0 : (0 : Int) ≤ (k : Int) := by omega
      have k1 : (k : Int) < (n : Int) := by omega
      subst hf
      generalize hpre : flat (p.take k) = pre at *
      obtain ⟨ns, hns⟩ : ∃ ns, s.as = ns := ⟨_, rfl⟩
      rw [hns] at HFT HU hle d1
      obtain ⟨L, hL⟩ : ∃ L, ns.length = L := ⟨_, rfl⟩
      rw [hL] at HU d1
      have HA : Hid (InsI w _ pre (wr.alloc (.cells #[.int .i64 s.k, .slice uad L ucap] 46))) := HS.out.below (below_alloc _ _)
      have HUA := Lib.hid (HU.out _ HA.out.2)
      clear hs c0 c1 hu HU HS hpre hns hL
      go_wp2_with (at_builtin; refine append_rdI rfl (.tmp 12) (.tmp 14) rfl w.heap.size HA.out.2.size _ pre rfl HA.out.1 _ ns rfl HUA.out hle ?_; intro v2 w2 hown hb; have S2 : Hid (InsI w v2 (pre ++ ns) w2) := ⟨hown, HA.out.2.trans hb⟩; clear hown hb)
      go_roundg (n - (k + 1))
      case measure => omega
      case rel => exact ⟨k + 1, by omega, Nat.le_refl _, ⟨_, rfl⟩, by go_num, by unfold Hid; rw [HFT.out]; exact S2.out⟩
    · have k1 : decide ((k : Int) < (n : Int)) = false := decide_eq_false (by omega)
      have HE : Hid (flat (p.take k) = flat p) := by unfold Hid; rw [List.take_of_length_le (by rw [HN.out]; omega)]
      go_wp2
      go_ret
      exact ⟨_, rfl, HE.out ▸ HS.out⟩
def sz (p : List Sg) : Nat := p.length + (flat p).length
theorem size_any (p : List Sg) (v : Value) (w : World) (hv : RdS w v p) (hl : (flat p).length ≤ 2000000) (hp : p.length ≤ 2000000) : Calls Tryz.prog 38 #[v] w fun e w' => e = .returned (.int .i64 (sz p : Int)) ∧ Below w.heap.size w w' := by
  have H := Lib.hid (rflat_any p v w hv hl)
  obtain ⟨ad, cap, rfl⟩ := hv.form
  have HZ : Hid (sz p = p.length + (flat p).length) := rfl
  generalize sz p = z at *
  generalize flat p = l at *
  generalize p.length = n at *
  clear hv
  go_enter Tryz.func38, Tryz.ntmps38
  go_wp2_with fail
  go_at_call 28
  refine H.out.mono ?_
  rintro e w1 ⟨v1, rfl, hi⟩
  obtain ⟨a1, c1, rfl⟩ := hi.1.rd.form
  have HB := Lib.hid hi.2
  have e1 : IntKind.i64.wrap ((n : Int) + (l.length : Int)) = (n : Int) + (l.length : Int) := IntWalk.i64_in _ (by omega)
  clear hi H
  go_wp2
  go_ret
  exact ⟨by rw [HZ.out]; first | rfl | (congr 2; omega) | (simp; omega), HB.out⟩
theorem large_any (p : List Sg) (v : Value) (w : World) (hv : RdS w v p) (hl : (flat p).length ≤ 2000000) (hp : p.length ≤ 2000000) : Calls Tryz.prog 11 #[v] w fun e w' => e = .returned (.bool (decide (3000 < sz p))) ∧ Below w.heap.size w w' := by
  have H := Lib.hid (size_any p v w hv hl hp)
  obtain ⟨ad, cap, rfl⟩ := hv.form
  generalize p.length = n at *
  obtain ⟨z, hz⟩ : ∃ z, sz p = z := ⟨_, rfl⟩
  rw [hz] at H ⊢
  clear hv hz
  by_cases h : 3000 < z
  · rw [decide_eq_true h]
    have k1 : decide ((3000 : Int) < (z : Int)) = true := decide_eq_true (by omega)
    go_enter Tryz.func11, Tryz.ntmps11
    go_wp2_with fail
    go_at_call 38
    refine H.out.mono ?_
    rintro e w1 ⟨rfl, hb⟩
    have HB := Lib.hid hb
    clear hb H
    go_wp2
    go_ret
    exact ⟨rfl, HB.out⟩
  · rw [decide_eq_false h]
    have k1 : decide ((3000 : Int) < (z : Int)) = false := decide_eq_false (by omega)
    go_enter Tryz.func11, Tryz.ntmps11
    go_wp2_with fail
    go_at_call 38
    refine H.out.mono ?_
    rintro e w1 ⟨rfl, hb⟩
    have HB := Lib.hid hb
    clear hb H
    go_wp2
    go_ret
    exact ⟨rfl, HB.out⟩
end Go.Proofs.YtiobfgcpbihbhaaGreatDoor
