/-
  The walks of put and drop, and the queue as a value.
-/
import Derived.Test.YtmlpbhankgojpaaHpB
namespace Go.Proofs.Ytmlpbhankgojpaa
open Go.RowKit HM
set_option linter.unusedSimpArgs false
set_option linter.unusedVariables false
set_option maxHeartbeats 4000000
set_option maxRecDepth 100000

/-- which items are in the tree -/
def nn (pl : List Int) : List Bool := pl.map (fun v => decide (0 ≤ v))
theorem gB_ext {l m : List Bool} (hl : l.length = m.length) (h : ∀ p, p < l.length → gB l p = gB m p) : l = m := by
  apply List.ext_getElem? ; intro p
  by_cases hp : p < l.length
  · rw [gB_get hp, gB_get (by omega), h p hp]
  · rw [List.getElem?_eq_none (by omega), List.getElem?_eq_none (by omega)]
theorem nn_len (pl : List Int) : (nn pl).length = pl.length := by simp [nn]
theorem nn_get {pl : List Int} {x : Nat} (h : x < pl.length) : gB (nn pl) x = decide (0 ≤ gI pl x) := by
  unfold gB nn; rw [List.getElem?_map, gI_get h]; rfl
theorem nn_eq {n : Nat} {p q : List Int} (hp : p.length = n) (hq : q.length = n) (h : ∀ x, x < n → (0 ≤ gI p x ↔ 0 ≤ gI q x)) : nn p = nn q :=
  gB_ext (by rw [nn_len, nn_len, hp, hq]) fun x hx => by
    rw [nn_len] at hx
    rw [nn_get hx, nn_get (by omega)]; exact Bool.eq_iff_iff.2 (by simpa using h x (by omega))
theorem nn_set {n : Nat} {p q : List Int} {b : Bool} {y : Nat} (hp : p.length = n) (hq : q.length = n) (hy : y < n) (h : ∀ x, x < n → (0 ≤ gI p x ↔ if x = y then b = true else 0 ≤ gI q x)) : nn p = (nn q).set y b :=
  gB_ext (by rw [nn_len, List.length_set, nn_len, hp, hq]) fun x hx => by
    rw [nn_len] at hx
    rw [nn_get hx, gB_set (by rw [nn_len]; omega)]
    have := h x (by omega)
    by_cases e : x = y
    · rw [if_pos e] at this ⊢; exact Bool.eq_iff_iff.2 (by simpa using this)
    · rw [if_neg e] at this ⊢; rw [nn_get (by omega)]; exact Bool.eq_iff_iff.2 (by simpa using this)

/-- a queue in memory: its box at hb, which items are in it, the keys, the blocks -/
def HeapR (w : World) (hb n : Nat) (ins : List Bool) (keys : List Int) (gs : List Nat) : Prop :=
  ∃ vi P K its pl, HS w hb vi P K n its pl keys ∧ WF n its pl ∧ OK (gI keys) its ∧ ins = nn pl ∧ gs = hb :: P :: K :: vblk vi ∧ n ≤ 65536
/-- behind a call that changes the queue -/
def Put (w : World) (hb n : Nat) (ins : List Bool) (keys : List Int) (gs : List Nat) (w' : World) : Prop :=
  ∃ gs', HeapR w' hb n ins keys gs' ∧ (∀ k ∈ gs', k ∈ gs ∨ w.heap.size ≤ k) ∧ Kp gs w w'
theorem HeapR.lt {w : World} {hb n : Nat} {ins : List Bool} {keys : List Int} {gs : List Nat} (h : HeapR w hb n ins keys gs) : ∀ g ∈ gs, g < w.heap.size := by
  obtain ⟨vi, P, K, its, pl, h1, _, _, _, rfl, _⟩ := h
  exact h1.lt
theorem HeapR.congr {w w' : World} {hb n : Nat} {ins : List Bool} {keys : List Int} {gs : List Nat} (h : HeapR w hb n ins keys gs) (hk : ∀ g ∈ gs, w'.heap[g]? = w.heap[g]?) : HeapR w' hb n ins keys gs := by
  obtain ⟨vi, P, K, its, pl, h1, h2, h3, h4, rfl, h5⟩ := h
  exact ⟨vi, P, K, its, pl, h1.congr hk, h2, h3, h4, rfl, h5⟩
theorem HeapR.below {w w' : World} {hb n : Nat} {ins : List Bool} {keys : List Int} {gs : List Nat} (h : HeapR w hb n ins keys gs) (k : Below w.heap.size w w') : HeapR w' hb n ins keys gs := h.congr fun g hg => k.block g (h.lt g hg)
theorem HeapR.kp {S : List Nat} {w w' : World} {hb n : Nat} {ins : List Bool} {keys : List Int} {gs : List Nat} (h : HeapR w hb n ins keys gs) (k : Kp S w w') (hn : ∀ g ∈ gs, g ∉ S) : HeapR w' hb n ins keys gs := h.congr fun g hg => k.block g (h.lt g hg) (hn g hg)
theorem HS.slice {w : World} {hb P K n : Nat} {vi : Value} {its : List Nat} {pl keys : List Int} (h : HS w hb vi P K n its pl keys) : ∃ ad ci, vi = .slice ad its.length ci := by
  rcases h.ri.2 with ⟨rfl, hn⟩ | ⟨g, cap, cur, rfl, _⟩
  · exact ⟨none, 0, by rw [hn]⟩
  · exact ⟨_, cap, rfl⟩
theorem info3 : (Try.prog.info? 3).map (fun i => (i.zero, i.size, i.bytes)) = some (some (.int .i64 0), 1, 8) := by kernel_rfl
theorem info_parts {t : TypeId} {z : Value} {a b : Nat} (h : (Try.prog.info? t).map (fun i => (i.zero, i.size, i.bytes)) = some (some z, a, b)) : ∃ i, Try.prog.info? t = some i ∧ i.zero = some z ∧ i.size = a ∧ i.bytes = b := by
  cases hi : Try.prog.info? t with
  | none => rw [hi] at h; cases h
  | some i => rw [hi] at h; simp at h; exact ⟨i, rfl, h.1, h.2.1, h.2.2⟩
theorem one_int (x : Int) : ∀ u ∈ [Value.int .i64 x], u.oneCell' = true := by intro u hu; simp at hu; subst hu; rfl
theorem cell_one_new (w : World) (x : Value) (t : TypeId) {b : Nat} (hb : b = w.heap.size) : ∀ j u, [x][j]? = some u → (w.alloc (.cells #[x] t)).cell? ((⟨b, 0, none⟩ : Addr).add j) = some u := by
  subst hb
  intro j u hj
  match j, hj with
  | 0, hj => simp at hj; subst hj; simp [Addr.add]
  | (j + 1), hj => simp at hj

/-- put where the item is in the tree -/
theorem put_old (w : World) (hb P K n : Nat) (vi : Value) (its : List Nat) (pl keys : List Int) (k : Nat → Int) (h : HS w hb vi P K n its pl keys) (hw : WF n its pl) (ho : OK k its) (hn : n ≤ 65536) (x : Nat) (hx : x < n) (hk : ∀ y, y ≠ x → gI keys y = k y) (hin : 0 ≤ gI pl x) :
    Calls Try.prog 59 #[.pointer (some ⟨hb, 0, none⟩), .int .i64 (x : Int), .func (.func 60) #[.pointer (some ⟨hb, 0, none⟩)] #[]] w fun e w' => e = .returned (.tuple #[]) ∧ Put w hb n ((nn pl).set x true) keys (hb :: P :: K :: vblk vi) w' := by
  obtain ⟨p, hp, ep, eg⟩ := hw.lt_len hx hin
  obtain ⟨I, ci, rfl, hci, _⟩ := h.form (by omega)
  have HH : Hid (Calls Try.prog 69 #[.pointer (some ⟨hb, 0, none⟩), .int .i64 (x : Int)] w fun e w' => e = .returned (.bool true) ∧ w = w') := by
    have := has_in w hb _ P K n its pl keys h x hx
    rwa [decide_eq_true hin] at this
  have f1 := h.f1
  have cp := h.cp hx
  rw [ep] at cp
  have HS1 := Lib.hid (settle_any w hb I ci P K n its.length its pl keys ⟨rfl, h, hw, fun _ _ => Iff.rfl, Kp.refl _ _⟩ hn p hp (up_set hw ho hp (by rw [eg]; exact hk)))
  have hle := hw.le
  have x0 : (0 : Int) ≤ (x : Int) := by omega
  have x1 : (x : Int) < (n : Int) := by omega
  have E : Hid (pl.length = n ∧ 0 ≤ gI pl x) := ⟨hw.len, hin⟩
  clear h hw ho hk hin eg ep
  go_enter Try.func59, Try.ntmps59
  go_wp2_with fail
  go_at_call 69
  refine HH.out.mono ?_
  rintro e w1 ⟨rfl, rfl⟩
  go_wp2_with fail
  go_at_call 70
  refine HS1.out.mono ?_
  rintro e w2 ⟨rfl, h2⟩
  have H2 := Lib.hid h2
  clear h2 HS1
  go_wp2
  go_end0
  obtain ⟨its', pl', h1, h2⟩ := H2.out
  have hl := E.out.1
  have hi := E.out.2
  refine ⟨rfl, _, ⟨_, P, K, its', pl', h1.len ▸ h1.hs, h1.wf, h2, ?_, rfl, hn⟩, fun k hk => .inl hk, h1.kp.mono (by intro g hg; simp [vblk, Value.ownBlock] at hg ⊢; rcases hg with rfl | rfl <;> simp)⟩
  refine (nn_set h1.wf.len hl hx (fun y hy => ?_)).symm
  rw [h1.nn y hy]
  by_cases e : y = x
  · subst e; simp [hi]
  · simp [e]
/-- behind an append to the items -/
theorem HS.appended {w w1 : World} {hb P K n L ci g cap x : Nat} {ad : Option Addr} {its : List Nat} {pl keys : List Int} (h : HS w hb (.slice ad L ci) P K n its pl keys) (hL : its.length = L) {o : Obj}
    (hown : w1.ownsRow 0 3 1 (.slice (some ⟨g, 0, none⟩) (L + 1) cap) (L + 1) (nats its ++ [.int .i64 (x : Int)])) (hgrow : (w.alloc o).grownBy w1 (Value.slice ad L ci).ownBlock) (hat : (Value.slice ad L ci).ownBlock = some g ∨ g = w.heap.size + 1) :
    HS (w1.setCell ⟨hb, 0, none⟩ (.slice (some ⟨g, 0, none⟩) (L + 1) cap)) hb (.slice (some ⟨g, 0, none⟩) (L + 1) cap) P K n (its ++ [x]) pl keys ∧ w1.cell? ⟨hb, 0, none⟩ = some (.slice ad L ci) ∧ w1.frozen? ⟨hb, 0, none⟩ = false ∧
      w1.cell? ⟨hb, 1, none⟩ = some (.slice (some ⟨P, 0, none⟩) n n) ∧ (∀ y, y < n → w1.cell? ⟨P, y, none⟩ = some (.int .i64 (gI pl y))) := by
  have hlt := h.lt
  have bk : ∀ k, k < w.heap.size → (Value.slice ad L ci).ownBlock ≠ some k → w1.heap[k]? = w.heap[k]? := fun k hk hn => (hgrow.block k (by simp; omega) (fun e => hn e.symm)).trans (Below.heap_alloc _ _ _ hk)
  have b1 := bk hb (hlt hb (by simp)) h.ib
  have b2 := bk P (hlt P (by simp)) h.ip
  have b3 := bk K (hlt K (by simp)) h.ik
  have g1 : g ≠ hb := by
    rintro rfl
    rcases hat with h1 | h1
    · exact h.ib h1
    · have := hlt g (by simp); omega
  have g2 : g ≠ P := by
    rintro rfl
    rcases hat with h1 | h1
    · exact h.ip h1
    · have := hlt g (by simp); omega
  have g3 : g ≠ K := by
    rintro rfl
    rcases hat with h1 | h1
    · exact h.ik h1
    · have := hlt g (by simp); omega
  have hr : w1.ownsRow 0 3 1 (.slice (some ⟨g, 0, none⟩) (L + 1) cap) (its ++ [x]).length (nats (its ++ [x])) := by
    have e : (its ++ [x]).length = L + 1 := by simp [hL]
    rw [e]; simpa [nats] using hown
  have B : w1.heap[hb]? = some (.cells #[.slice ad L ci, .slice (some ⟨P, 0, none⟩) n n, .slice (some ⟨K, 0, none⟩) n n] 80 (0, 0)) := b1.trans h.box
  have RP := row_congr (w' := w1) h.rp (fun g hg => by simp [Value.ownBlock] at hg; subst hg; exact b2)
  have RK := row_congr (w' := w1) h.rk (fun g hg => by simp [Value.ownBlock] at hg; subst hg; exact b3)
  refine ⟨⟨heap_set_eq B, row_congr hr (fun g' hg => heap_set_ne (by simp [Value.ownBlock] at hg; subst hg; exact g1)), row_congr RP (fun g hg => heap_set_ne (by simp [Value.ownBlock] at hg; subst hg; exact fun e => h.bp e.symm)),
    row_congr RK (fun g hg => heap_set_ne (by simp [Value.ownBlock] at hg; subst hg; exact fun e => h.bk e.symm)), by simp [Value.ownBlock]; exact g1, by simp [Value.ownBlock]; exact g2, by simp [Value.ownBlock]; exact g3, h.bp, h.bk, h.pk⟩, cell_of B rfl, free_of B 0, cell_of B rfl, fun y hy => ?_⟩
  rw [RP.cellAt y (by omega)]; exact ints_get (gI_get (by rw [h.lenp]; exact hy))
/-- put where it is not -/
theorem put_new (w : World) (hb P K n : Nat) (vi : Value) (its : List Nat) (pl keys : List Int) (k : Nat → Int) (h : HS w hb vi P K n its pl keys) (hw : WF n its pl) (ho : OK k its) (hn : n ≤ 65536) (x : Nat) (hx : x < n) (hk : ∀ y, y ≠ x → gI keys y = k y) (hin : ¬ 0 ≤ gI pl x) :
    Calls Try.prog 59 #[.pointer (some ⟨hb, 0, none⟩), .int .i64 (x : Int), .func (.func 60) #[.pointer (some ⟨hb, 0, none⟩)] #[]] w fun e w' => e = .returned (.tuple #[]) ∧ Put w hb n ((nn pl).set x true) keys (hb :: P :: K :: vblk vi) w' := by
  have hm1 : gI pl x = -1 := by
    rcases hw.off x hx with e | ⟨p, _, e, _⟩
    · exact e
    · omega
  obtain ⟨ad, ci, rfl⟩ := h.slice
  have HH : Hid (Calls Try.prog 69 #[.pointer (some ⟨hb, 0, none⟩), .int .i64 (x : Int)] w fun e w' => e = .returned (.bool false) ∧ w = w') := by
    have := has_in w hb _ P K n its pl keys h x hx
    rwa [decide_eq_false hin] at this
  have hle := hw.le
  obtain ⟨hw2, hn2⟩ := hw.app hx hm1
  have hu := up_app hw ho hx hm1 hk
  obtain ⟨L, hL⟩ : ∃ L, its.length = L := ⟨_, rfl⟩
  have g1 := h.setP x (its.length : Int)
  have f0 := h.f0
  have f1 := h.f1
  have cp := h.cp hx
  have zp := h.fp x
  have x0 : (0 : Int) ≤ (x : Int) := by omega
  have x1 : (x : Int) < (n : Int) := by omega
  have K1 : Hid (Kp (hb :: P :: K :: vblk (.slice ad its.length ci)) w (w.setCell ⟨P, x, none⟩ (.int .i64 (its.length : Int)))) := (Kp.refl _ w).setCell (.inl (by simp))
  have hlt := h.lt
  have E : Hid (pl.length = n ∧ gI pl x = -1 ∧ its.length = L ∧ WF n (its ++ [x]) (pl.set x (its.length : Int)) ∧ (∀ y, y < n → (0 ≤ gI (pl.set x (its.length : Int)) y ↔ (y = x ∨ 0 ≤ gI pl y))) ∧ Up (gI keys) (its ++ [x]) its.length ∧ (∀ g ∈ hb :: P :: K :: vblk (.slice ad its.length ci), g < w.heap.size)) := ⟨hw.len, hm1, hL, hw2, hn2, hu, hlt⟩
  rw [hL] at g1 f0 hle K1
  have hbl : hb < w.heap.size := hlt hb (by simp)
  have G1 := Lib.hid g1
  clear h hw ho hk hin hm1 hw2 hn2 hu hlt g1 hL
  generalize gI pl x = px at cp
  obtain ⟨i0, hi, hz0, hz1, hz2⟩ := info_parts info3
  go_enter Try.func59, Try.ntmps59
  go_wp2_with fail
  go_at_call 69
  refine HH.out.mono ?_
  rintro e w1 ⟨rfl, rfl⟩
  go_wp2_with fail
  go_region
  have g1 := G1.out.drew
  have K2 : Hid (Kp (hb :: P :: K :: vblk (.slice ad L ci)) w (w.setCell ⟨P, x, none⟩ (.int .i64 (L : Int))).drew) := K1.out.drew
  clear G1 K1 HH f0 f1 cp zp
  have hsz : w.heap.size = (w.setCell ⟨P, x, none⟩ (.int .i64 (L : Int))).drew.heap.size := by simp
  generalize (w.setCell ⟨P, x, none⟩ (.int .i64 (L : Int))).drew = wq at *
  have f0 := g1.f0
  have zb := g1.fb 0
  have ROW := Lib.hid g1.ri
  have G1 := Lib.hid g1
  have SZ := Lib.hid hsz
  clear g1 hsz
  go_wp2_with (at_builtin; go_loud (refine wpList_append_lies _ rfl (.tmp 25) (.tmp 27) 25 rfl 0 3 i0 (.int .i64 0) 1 8 Try.underlying25 hi hz0 hz1 hz2 rfl (by decide) (.slice ad L ci) L (nats its) rfl (by have := ROW.out; rw [E.out.2.2.1] at this; exact this.alloc _) ⟨wq.heap.size, 0, none⟩ 1 1 [.int .i64 (x : Int)] rfl rfl (cell_one_new _ _ _ rfl) (one_int _) (by decide) (by unfold maxLen; omega) (by omega) (by omega) (wq.heap.size + 1) (by simp) ?_; intro g cap w1 hown hgrow hat hlt
                                    obtain ⟨q1, q2, q3, q4, q5⟩ := G1.out.appended E.out.2.2.1 hown hgrow hat
                                    have q6 : w1.cell? ⟨P, x, none⟩ = some (.int .i64 (L : Int)) := by
                                      rw [q5 x hx, gI_set (by have := E.out.1; omega), if_pos rfl]
                                    have hbp := G1.out.bp
                                    have hpb := Ne.symm hbp
                                    have Q := Lib.hid q1
                                    have KG := Lib.hid ((K2.out.alloc (.cells #[Value.int .i64 (x : Int)] 3)).grown hgrow (fun k hk => .inl (by simp [mem_vblk, hk])))
                                    have HA := Lib.hid (And.intro hat hlt)
                                    clear q1 q5 hown hgrow hat hlt))
  have h0 := E.out
  obtain ⟨e1, e2, e3, e4, e5, e6, e7⟩ := h0
  rw [e3] at e4 e5 e6
  have eL : (its ++ [x]).length = L + 1 := by simp [e3]
  have KS : Kp (hb :: P :: K :: vblk (.slice ad L ci)) w (w1.setCell ⟨hb, 0, none⟩ (.slice (some ⟨g, 0, none⟩) (L + 1) cap)) := KG.out.setCell (.inl (by simp))
  have HS1 := Lib.hid (settle_any (w1.setCell ⟨hb, 0, none⟩ (.slice (some ⟨g, 0, none⟩) (L + 1) cap)) hb g cap P K n (L + 1) (its ++ [x]) (pl.set x (L : Int)) keys ⟨eL, Q.out, e4, fun _ _ => Iff.rfl, Kp.refl _ _⟩ hn L (by omega) e6)
  have HK := Lib.hid (And.intro e5 KS)
  clear e1 e2 e3 e4 e5 e6 e7 eL KS
  refine HS1.out.mono ?_
  rintro e w2 ⟨rfl, h2⟩
  have H2 := Lib.hid h2
  clear h2 HS1
  go_wp2
  go_end0
  obtain ⟨its', pl', h1, h2⟩ := H2.out
  obtain ⟨e1, e2, e3, _⟩ := E.out
  obtain ⟨e5, KS⟩ := HK.out
  rw [e3]
  have hg : g ∈ hb :: P :: K :: vblk (.slice ad L ci) ∨ w.heap.size ≤ g := by
    rcases HA.out.1 with h3 | h3
    · exact .inl (by simp [mem_vblk, h3])
    · have := SZ.out; exact .inr (by omega)
  refine ⟨rfl, _, ⟨_, P, K, its', pl', h1.hs, h1.wf, h2, ?_, rfl, hn⟩, fun k hk => ?_, KS.trans h1.kp (fun k hk => ?_)⟩
  · refine (nn_set h1.wf.len e1 hx (fun y hy => ?_)).symm
    rw [h1.nn y hy, e5 y hy]
    by_cases e : y = x
    · subst e; simp
    · simp [e]
  · simp [vblk, Value.ownBlock] at hk
    rcases hk with rfl | rfl | rfl | rfl
    · exact .inl (by simp)
    · exact .inl (by simp)
    · exact .inl (by simp)
    · exact hg
  · simp at hk
    rcases hk with rfl | rfl
    · exact hg
    · exact .inl (by simp)
theorem put_any (w : World) (hb P K n : Nat) (vi : Value) (its : List Nat) (pl keys : List Int) (k : Nat → Int) (h : HS w hb vi P K n its pl keys) (hw : WF n its pl) (ho : OK k its) (hn : n ≤ 65536) (x : Nat) (hx : x < n) (hk : ∀ y, y ≠ x → gI keys y = k y) :
    Calls Try.prog 59 #[.pointer (some ⟨hb, 0, none⟩), .int .i64 (x : Int), .func (.func 60) #[.pointer (some ⟨hb, 0, none⟩)] #[]] w fun e w' => e = .returned (.tuple #[]) ∧ Put w hb n ((nn pl).set x true) keys (hb :: P :: K :: vblk vi) w' := by
  by_cases e : 0 ≤ gI pl x
  · exact put_old w hb P K n vi its pl keys k h hw ho hn x hx hk e
  · exact put_new w hb P K n vi its pl keys k h hw ho hn x hx hk e

/-- drop where the item is in the tree -/
theorem drop_any (w : World) (hb P K n : Nat) (vi : Value) (its : List Nat) (pl keys : List Int) (h : HS w hb vi P K n its pl keys) (hw : WF n its pl) (ho : OK (gI keys) its) (hn : n ≤ 65536) (x : Nat) (hx : x < n) (hin : 0 ≤ gI pl x) :
    Calls Try.prog 72 #[.pointer (some ⟨hb, 0, none⟩), .int .i64 (x : Int), .func (.func 60) #[.pointer (some ⟨hb, 0, none⟩)] #[]] w fun e w' => e = .returned (.tuple #[]) ∧ Put w hb n ((nn pl).set x false) keys (hb :: P :: K :: vblk vi) w' := by
  obtain ⟨p, hp, ep, eg⟩ := hw.lt_len hx hin
  obtain ⟨m, hm⟩ : ∃ m, its.length = m + 1 := ⟨its.length - 1, by omega⟩
  obtain ⟨I, ci, rfl, hci, _⟩ := h.form (by omega)
  have f0 := h.f0
  have f1 := h.f1
  have cp := h.cp hx
  rw [ep] at cp
  have hle := hw.le
  have x0 : (0 : Int) ≤ (x : Int) := by omega
  have x1 : (x : Int) < (n : Int) := by omega
  have HW : Hid (∀ q, Calls Try.prog 76 #[.pointer (some ⟨hb, 0, none⟩), .int .i64 (p : Int), .int .i64 (m : Int)] (w.drewN q) fun e w' => e = .returned (.tuple #[]) ∧
      HS w' hb (.slice (some ⟨I, 0, none⟩) its.length ci) P K n (swapI its p m) (swapP pl (swapI its p m) p m) keys ∧ Kp [I, P] (w.drewN q) w') := fun q => swap_any _ hb I ci P K n its pl keys (h.drewN q) hw hn p m hp (by omega)
  obtain ⟨w1f, w1m⟩ := hw.drop hm hp
  rw [eg] at w1f w1m
  rw [hm] at f0 HW
  have E : Hid (pl.length = n ∧ WF n ((swapI its p m).take m) ((swapP pl (swapI its p m) p m).set x (-1)) ∧ (∀ y, y < n → (0 ≤ gI ((swapP pl (swapI its p m) p m).set x (-1)) y ↔ (y ≠ x ∧ 0 ≤ gI pl y))) ∧ (p < m → Up (gI keys) ((swapI its p m).take m) p) ∧ (p = m → OK (gI keys) ((swapI its p m).take m)) ∧ (swapI its p m).length = m + 1) :=
    ⟨hw.len, w1f, w1m, fun h => up_drop ho hm h, fun h => by subst h; exact ok_drop ho hm, by rw [swapI_len, hm]⟩
  have hpm : p ≤ m := by omega
  have hci' : (m : Int) ≤ (ci : Int) := by omega
  have hm0 : (0 : Int) ≤ (m : Int) := by omega
  have hmc : m ≤ ci := by omega
  rw [hm] at hle
  clear h hw ho hin ep eg w1f w1m hm hp hci
  generalize swapI its p m = it1 at *
  generalize swapP pl it1 p m = pl1 at *
  go_enter Try.func72, Try.ntmps72
  go_wp2_with fail
  go_quiet (fail)
  go_wp2_with fail
  go_at_call 76
  refine (HW.out nq).mono ?_
  rintro e w1 ⟨rfl, h1, k1⟩
  have b0 := h1.f0
  have bz := h1.fb 0
  have b1 := h1.f1
  have bx := h1.cp hx
  have zx := h1.fp x
  have hbp := h1.bp
  have hpb := Ne.symm hbp
  have H1 := Lib.hid h1
  have K1 : Hid (Kp [I, P] w w1) := k1.undrewN
  clear h1 k1 HW f0 f1 cp
  generalize gI pl1 x = px at bx
  have G : Hid (HS ((w1.setCell ⟨hb, 0, none⟩ (.slice (some ⟨I, 0, none⟩) m ci)).setCell ⟨P, x, none⟩ (.int .i64 (-1))) hb (.slice (some ⟨I, 0, none⟩) m ci) P K n (it1.take m) (pl1.set x (-1)) keys) := by
    have hs := H1.out
    have hib := hs.ib; have hip := hs.ip; have hik := hs.ik
    exact (hs.setB (hs.pop E.out.2.2.2.2.2 rfl) hib hip hik).setP x (-1)
  have KK : Hid (Kp (hb :: P :: K :: vblk (.slice (some ⟨I, 0, none⟩) its.length ci)) w ((w1.setCell ⟨hb, 0, none⟩ (.slice (some ⟨I, 0, none⟩) m ci)).setCell ⟨P, x, none⟩ (.int .i64 (-1)))) :=
    ((K1.out.mono (by intro g hg; simp [vblk, Value.ownBlock] at hg ⊢; rcases hg with rfl | rfl <;> simp)).setCell (.inl (by simp))).setCell (.inl (by simp))
  by_cases hlt : p < m
  · have HS1 := Lib.hid (settle_any _ hb I ci P K n m (it1.take m) (pl1.set x (-1)) keys ⟨by have := E.out.2.2.2.2.2; simp; omega, G.out, E.out.2.1, fun _ _ => Iff.rfl, Kp.refl _ _⟩ hn p hlt (E.out.2.2.2.1 hlt))
    go_wp2_with fail
    go_at_call 70
    refine HS1.out.mono ?_
    rintro e w2 ⟨rfl, h2⟩
    have H2 := Lib.hid h2
    clear h2 HS1
    go_wp2
    go_end0
    obtain ⟨its', pl', h1, h2⟩ := H2.out
    obtain ⟨e1, e2, e3, _⟩ := E.out
    refine ⟨rfl, _, ⟨_, P, K, its', pl', h1.len ▸ h1.hs, h1.wf, h2, ?_, rfl, hn⟩, fun k hk => .inl ?_, KK.out.trans h1.kp (fun k hk => .inl ?_)⟩
    · refine (nn_set h1.wf.len e1 hx (fun y hy => ?_)).symm
      rw [h1.nn y hy, e3 y hy]
      by_cases e : y = x
      · subst e; simp
      · simp [e]
    · simp [vblk, Value.ownBlock] at hk ⊢; exact hk
    · simp [vblk, Value.ownBlock] at hk ⊢; rcases hk with rfl | rfl <;> simp
  · have hpe : Hid (p = m) := by show p = m; omega
    go_wp2
    go_end0
    obtain ⟨e1, e2, e3, _, e5, e6⟩ := E.out
    have hl : (it1.take m).length = m := by simp; omega
    refine ⟨rfl, _, ⟨_, P, K, it1.take m, pl1.set x (-1), G.out, e2, e5 hpe.out, ?_, rfl, hn⟩, fun k hk => .inl ?_, KK.out⟩
    · refine (nn_set e2.len e1 hx (fun y hy => ?_)).symm
      rw [e3 y hy]
      by_cases e : y = x
      · subst e; simp
      · simp [e]
    · simp [vblk, Value.ownBlock] at hk ⊢; exact hk
end Go.Proofs.Ytmlpbhankgojpaa
