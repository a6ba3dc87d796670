/-
  slices.Clone at segments, duplicate.
-/
import Derived.Test.YtiobfgcpbihbhaaGreatDoorAsI
import Derived.BigQuiet
namespace Go.Proofs.YtiobfgcpbihbhaaGreatDoor
open Go.RowKit P
set_option linter.unusedSimpArgs false
set_option linter.unusedVariables false
set_option maxHeartbeats 4000000
set_option maxRecDepth 100000
theorem clones_any (p : List Sg) (v : Value) (w : World) (hl : p.length ≤ 2000000) (hr : RdS w v p) :
    Calls Tryz.prog 80 #[v] w fun e w' => ∃ v', e = .returned v' ∧ OwnP w.heap.size w' v' p ∧ Below w.heap.size w w' := by
  obtain ⟨i0, hi, hz0, hz1, hz2⟩ := infoE_parts info46
  have q48 : ∀ (w : World) (a : Option Addr) (n c n' c' : Nat), (binOp .eql 22 (.slice a n c) (.slice none n' c')).run Tryz.prog w = .ok (.bool a.isNone) w := fun w a n c n' c' => Lib.run_eql_slice_nil w _ _ a n c n' c' Tryz.underlying22
  rcases hr.prs with ⟨rfl, rfl⟩ | ⟨A, cap, q, rfl, hp, hcs⟩
  · go_enter Tryz.func80, Tryz.ntmps80
    go_wp2
    go_ret
    exact ⟨_, rfl, ⟨Nat.le_refl _, .inl ⟨rfl, rfl⟩⟩, Below.refl _ _⟩
  · have HC := Lib.hid hcs
    have HP := Lib.hid hp
    have hql : q.length = p.length := (hp _ (Nat.le_refl _)).1
    have hqo := (hp _ (Nat.le_refl _)).one
    have hfl : (flatQ q).length = p.length * 2 := by rw [flatQ_len, hql]
    clear hcs hp hr
    go_enter Tryz.func80, Tryz.ntmps80
    go_wp2_with (at_builtin; refine wpList_append_own _ rfl _ _ 22 rfl w.heap.size 46 i0 (.agg #[.int .i64 0, .slice none 0 0]) 2 32 Tryz.underlying22 hi hz0 hz1 hz2 rfl (by decide) _ _ _ rfl (World.ownsRow_made w #[] 0 (Nat.le_refl _) (Nat.zero_le _) (by simp)) A p.length cap (flatQ q) rfl hfl (fun j u hj => Lib.cell?_alloc_some _ (HC.out j u hj)) hqo (by unfold maxLen; omega) (by omega) (by simp) ?_; intro v' w1 hown hgrow hnil)
    go_ret
    have hb : Below w.heap.size w w1 := ((Below.refl _ w).alloc (Nat.le_refl _) _).grown hgrow (by simp) (by intro k hk; cases hk; exact Nat.le_refl _)
    have ho : w1.ownsRow w.heap.size 46 2 v' p.length (flatQ q) := by simpa using hown
    refine ⟨v', rfl, ⟨hb.size, ?_⟩, hb⟩
    rcases ho.2 with ⟨rfl, hn⟩ | ⟨g, cap', cur, rfl, hB, _⟩
    · exact .inl ⟨rfl, List.length_eq_zero_iff.1 hn⟩
    · exact .inr ⟨g, cap', q, rfl, ho, (HP.out g hB).below hb⟩
theorem OwnP.put {B g cap : Nat} {w : World} {p : List Sg} {q : List (Int × Value)} (ho : w.ownsRow B 46 2 (.slice (some ⟨g, 0, none⟩) p.length cap) p.length (flatQ q)) (hp : Prs g w q p) {k : Nat} {s : Sg} (hk : p[k]? = some s) {u : Value} (hu : RdN g w u s.as) :
    (w.setCell ⟨g, k * 2 + 1, none⟩ u).ownsRow B 46 2 (.slice (some ⟨g, 0, none⟩) p.length cap) p.length (flatQ (q.set k (s.k, u))) ∧ Prs g (w.setCell ⟨g, k * 2 + 1, none⟩ u) (q.set k (s.k, u)) p := by
  obtain ⟨u', hq, _⟩ := hp.2 k s hk
  have h := (ho.stored (k * 2 + 1) u).1
  rw [flatQ_set q k _ u hq] at h
  exact ⟨h, hp.set hk hu u⟩
theorem ownsRow_free {B e sz g n cap : Nat} {w : World} {xs : List Value} (h : w.ownsRow B e sz (.slice (some ⟨g, 0, none⟩) n cap) n xs) (o : Nat) : w.frozen? ⟨g, o, none⟩ = false := by
  rcases h.2 with ⟨h0, _⟩ | ⟨g', cap', cur, e, _, hg, _⟩
  · cases h0
  · cases e; exact free_of hg _
theorem ownsRow_lt {B e sz g n cap : Nat} {w : World} {xs : List Value} (h : w.ownsRow B e sz (.slice (some ⟨g, 0, none⟩) n cap) n xs) : B ≤ g ∧ g < w.heap.size := row_lt h rfl
theorem RdN.set2 {g h o : Nat} {w : World} {v u : Value} {l : List Int} (hh : RdN h w v l) (hg : RdN g w v l) : RdN h (w.setCell ⟨g, o, none⟩ u) v l := by
  obtain ⟨ad, cap, e, h1, h2, hc⟩ := hh
  obtain ⟨ad', cap', e', _, _, hc'⟩ := hg
  rw [e] at e'
  injection e' with e1 e2 e3
  subst e1
  refine ⟨ad, cap, e, h1, h2, fun k x hk => ?_⟩
  obtain ⟨b, off, a1, a2, a3, a4⟩ := hc k x hk
  obtain ⟨b', off', a1', _, a3', _⟩ := hc' k x hk
  rw [a1] at a1'
  cases a1'
  exact ⟨b, off, a1, by simpa [World.setCell] using a2, a3, by rw [← a4]; exact World.cell?_of_block (heap_set_ne a3')⟩
/-- the numbers of the first segments lie in no block before B -/
def Frs (B : Nat) (w : World) (q : List (Int × Value)) (p : List Sg) (n : Nat) : Prop := ∀ (k : Nat) (s : Sg), k < n → p[k]? = some s → ∃ u, q[k]? = some (s.k, u) ∧ ∀ h, h < B → RdN h w u s.as
theorem Frs.below {B n : Nat} {w w1 : World} {q : List (Int × Value)} {p : List Sg} (h : Frs B w q p n) (hb : Below w.heap.size w w1) : Frs B w1 q p n := fun k s hk hs => by
  obtain ⟨u, a, b⟩ := h k s hk hs
  exact ⟨u, a, fun h hh => (b h hh).below hb⟩
theorem Frs.put {B g n o : Nat} {w : World} {q : List (Int × Value)} {p : List Sg} (h : Frs B w q p n) (hp : Prs g w q p) {s : Sg} (hs : p[n]? = some s) {u : Value} (hu : RdN g w u s.as) (hf : ∀ h, h < B → RdN h w u s.as) (c : Value) : Frs B (w.setCell ⟨g, o, none⟩ c) (q.set n (s.k, u)) p (n + 1) := fun k t hk ht => by
  by_cases e : k = n
  · subst e
    rw [hs] at ht
    cases ht
    exact ⟨u, by rw [List.getElem?_set_self]; rw [hp.1]; exact (List.getElem?_eq_some_iff.1 hs).1, fun h hh => (hf h hh).set2 hu⟩
  · obtain ⟨u', a, b⟩ := h k t (by omega) ht
    obtain ⟨u2, a2, b2⟩ := hp.2 k t ht
    rw [a] at a2
    cases a2
    exact ⟨u', by rw [List.getElem?_set_ne (fun h => e h.symm)]; exact a, fun h hh => (b h hh).set2 b2⟩
/-- a path in a row of the call's own, with numbers of the call's own -/
def OwnF (B : Nat) (w : World) (v : Value) (p : List Sg) : Prop := B ≤ w.heap.size ∧ ((v = .slice none 0 0 ∧ p = []) ∨ ∃ g cap q, v = .slice (some ⟨g, 0, none⟩) p.length cap ∧ w.ownsRow B 46 2 v p.length (flatQ q) ∧ Prs g w q p ∧ Frs B w q p p.length)
theorem OwnF.own {B : Nat} {w : World} {v : Value} {p : List Sg} (h : OwnF B w v p) : OwnP B w v p := ⟨h.1, h.2.imp id fun ⟨g, cap, q, a, b, c, _⟩ => ⟨g, cap, q, a, b, c⟩⟩
theorem flat_all_le {p : List Sg} (h : (flat p).length ≤ 2000000) : ∀ (k : Nat) (s : Sg), p[k]? = some s → s.as.length ≤ 2000000 := fun k s hk => Nat.le_trans (as_le hk) h
theorem dup_any (p : List Sg) (v : Value) (w : World) (hl : p.length ≤ 2000000) (hf : (flat p).length ≤ 2000000) (hr : RdS w v p) :
    Calls Tryz.prog 49 #[v] w fun e w' => ∃ v', e = .returned v' ∧ OwnF w.heap.size w' v' p ∧ Below w.heap.size w w' := by
  have H := Lib.hid (clones_any p v w hl hr)
  have HLE := Lib.hid (flat_all_le hf)
  obtain ⟨ad, cap, rfl⟩ := hr.form
  obtain ⟨n, hn⟩ : ∃ n, p.length = n := ⟨_, rfl⟩
  rw [hn] at H hl ⊢
  have HN := Lib.hid hn
  clear hr hf hn
  go_enter Tryz.func49, Tryz.ntmps49
  go_wp2_with fail
  go_at_call 80
  refine H.out.mono ?_
  rintro e w1 ⟨v1, rfl, ⟨hsz, ho⟩, hb⟩
  clear H
  rcases ho with ⟨rfl, hp⟩ | ⟨g, cap1, q0, rfl, ho, hpr⟩
  · have HP := Lib.hid hp
    have HB := Lib.hid hb
    have hs := Lib.hid hsz
    clear hp hb hsz
    go_wp2_with fail
    refine wp_loop_rounds 1 ?_
    rw [rounds_succ]
    go_wp2
    go_ret
    exact ⟨.slice none 0 0, rfl, ⟨hs.out, .inl ⟨rfl, HP.out⟩⟩, HB.out⟩
  · have hgl := ownsRow_lt ho
    rw [HN.out] at ho ⊢
    have HS0 : Hid (w1.ownsRow w.heap.size 46 2 (.slice (some ⟨g, 0, none⟩) n cap1) n (flatQ q0) ∧ Prs g w1 q0 p ∧ Below w.heap.size w w1) := ⟨ho, hpr, hb⟩
    have HF0 : Hid (Frs w.heap.size w1 q0 p 0) := fun k s h => by omega
    have hgw : w.heap.size ≤ g := hgl.1
    clear ho hpr hb hsz hgl
    go_wp2_with fail
    go_loopg [4, 5, 10] n (fun gg s4 s5 s10 wr => ∃ (k : Nat) (q : List (Int × Value)), k ≤ n ∧ n - k ≤ gg ∧ (∃ q, q = s4) ∧ (∃ q, q = s5) ∧ s10 = .int .i64 (k : Int) ∧ Hid (wr.ownsRow w.heap.size 46 2 (.slice (some ⟨g, 0, none⟩) n cap1) n (flatQ q) ∧ Prs g wr q p ∧ Below w.heap.size w wr) ∧ Hid (Frs w.heap.size wr q p k))
    case atStart => exact ⟨0, q0, by omega, by omega, ⟨_, rfl⟩, ⟨_, rfl⟩, rfl, HS0, HF0⟩
    case round =>
      clear HS0 HF0
      obtain ⟨k, q, hk, hkg, ⟨u4, rfl⟩, ⟨u5, rfl⟩, rfl, HS, HF⟩ := hrel
      by_cases hlt : k < n
      · obtain ⟨s, hs⟩ : ∃ s, p[k]? = some s := ⟨_, List.getElem?_eq_getElem (by have := HN.out; omega)⟩
        have HSK := Lib.hid hs
        obtain ⟨u, hu, hru⟩ := HS.out.2.1.2 k s hs
        obtain ⟨f1, f2⟩ := flatQ_get hu
        have d0 : wr.cell? ⟨g, k * 2, none⟩ = some (.int .i64 s.k) := by rw [HS.out.1.cellAt (k * 2) (by omega)]; exact f1
        have d1 : wr.cell? ⟨g, k * 2 + 1, none⟩ = some u := by rw [HS.out.1.cellAt (k * 2 + 1) (by omega)]; exact f2
        have k0 : (0 : Int) ≤ (k : Int) := by omega
        have k1 : (k : Int) < (n : Int) := by omega
        have hsl := HLE.out k s hs
        have HRU := Lib.hid hru
        obtain ⟨uad, ucap, hf⟩ := hru.rd.form
        subst hf
        have HCL : Hid (∀ W, Below wr.heap.size wr W → Calls Tryz.prog 81 #[.slice uad s.as.length ucap] W fun e w' => ∃ v', e = .returned v' ∧ InsI W v' s.as w') := fun W hW => clonei_any s.as _ W hsl ((HRU.out.below hW).rd)
        generalize s.as.length = L at *
        have HSA : Hid (∀ o, (wr.alloc o).ownsRow w.heap.size 46 2 (.slice (some ⟨g, 0, none⟩) n cap1) n (flatQ q) ∧ Prs g (wr.alloc o) q p ∧ Below w.heap.size w (wr.alloc o)) := fun o => ⟨row_below HS.out.1 (below_alloc _ o), HS.out.2.1.below (below_alloc _ o), below_then HS.out.2.2 (below_alloc _ o)⟩
        clear hs hu hru f1 f2 HS hsl
        go_wp2_with fail
        go_at_call 81
        refine (HCL.out _ (below_alloc _ _)).mono ?_
        rintro e w2 ⟨v2, rfl, hi⟩
        have hA := HSA.out (.cells #[.int .i64 s.k, .slice uad L ucap] 46)
        have hgs : g < (wr.alloc (.cells #[.int .i64 s.k, .slice uad L ucap] 46)).heap.size := (ownsRow_lt hA.1).2
        have hrow : w2.ownsRow w.heap.size 46 2 (.slice (some ⟨g, 0, none⟩) n cap1) n (flatQ q) := row_below hA.1 hi.2
        have y0 : w2.frozen? ⟨g, k * 2 + 1, none⟩ = false := ownsRow_free hrow _
        have hpr2 : Prs g w2 q p := hA.2.1.below hi.2
        have hput := OwnP.put (HN.out ▸ hrow) hpr2 HSK.out (hi.1.away hgs)
        have HB2 : Hid (Below w.heap.size w (w2.setCell ⟨g, k * 2 + 1, none⟩ v2)) := (below_then hA.2.2 hi.2).setCell hgw _
        obtain ⟨vad, vcap, hvf⟩ := hi.1.rd.form
        have e1 : w2.cell? ⟨g, k * 2 + 1, none⟩ = some (.slice uad L ucap) := by
          refine carry hi.2 (carry (below_alloc _ _) d1)
        have HF2 : Hid (Frs w.heap.size (w2.setCell ⟨g, k * 2 + 1, none⟩ v2) (q.set k (s.k, v2)) p (k + 1)) := ((HF.out.below (below_alloc wr (.cells #[.int .i64 s.k, .slice uad L ucap] 46))).below hi.2).put hpr2 HSK.out (hi.1.away hgs) (fun h hh => hi.1.away (by have := hgs; omega)) v2
        rw [HN.out] at hput
        have HPUT := Lib.hid hput
        subst hvf
        generalize s.as.length = L2 at *
        clear hA hgs hrow hpr2 hput hi HCL HSA d0 d1 HRU
        go_wp2_with fail
        go_roundg (n - (k + 1))
        case measure => omega
        case rel => exact ⟨k + 1, _, by omega, Nat.le_refl _, ⟨_, rfl⟩, ⟨_, rfl⟩, by go_num, ⟨HPUT.out.1, HPUT.out.2, HB2.out⟩, HF2⟩
      · have k1 : decide ((k : Int) < (n : Int)) = false := decide_eq_false (by omega)
        go_wp2
        go_ret
        have h1 := HS.out.1
        exact ⟨.slice (some ⟨g, 0, none⟩) n cap1, rfl, ⟨HS.out.2.2.size, .inr ⟨g, cap1, q, by rw [HN.out], by rw [HN.out]; exact h1, HS.out.2.1, by have := HF.out; rw [show k = n by omega, ← HN.out] at this; exact this⟩⟩, HS.out.2.2⟩
end Go.Proofs.YtiobfgcpbihbhaaGreatDoor
