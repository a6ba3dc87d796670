/-
  The walk of search's closure: the first hops of a node are passed on to one that follows it. The memory of a search: the tree's rows, the queue, and the blocks that no step changes. What the loops of a search keep, as mathematics. The walk of search. The walk of Run.
-/
import Derived.Test.YtmbogobebllheaaMq
import Derived.Test.YtmbogobebllheaaMg
import Derived.Deep.DeepCutAuto
import Derived.Test.YtmbogobebllheaaMh
import Derived.WalkMore
import Derived.Deep.LoopGhost
namespace Go.Proofs.Ytmbogobebllheaa
open Go.RowKit HM GM SP
set_option linter.unusedSimpArgs false
set_option linter.unusedVariables false
set_option maxHeartbeats 4000000
set_option maxRecDepth 100000

/-- the box of a tree: where its rows lie -/
def Box (w : World) (tb : Nat) (root : Int) (D H P n : Nat) : Prop := w.heap[tb]? = some (.cells #[.int .i64 root, .slice (some ⟨D, 0, none⟩) n n, .slice (some ⟨H, 0, none⟩) n n, .slice (some ⟨P, 0, none⟩) n n] 74 (0, 0))
theorem Box.c0 {w : World} {tb D H P n : Nat} {root : Int} (h : Box w tb root D H P n) : w.cell? ⟨tb, 0, none⟩ = some (.int .i64 root) := cell_of h rfl
theorem Box.c1 {w : World} {tb D H P n : Nat} {root : Int} (h : Box w tb root D H P n) : w.cell? ⟨tb, 1, none⟩ = some (.slice (some ⟨D, 0, none⟩) n n) := cell_of h rfl
theorem Box.c2 {w : World} {tb D H P n : Nat} {root : Int} (h : Box w tb root D H P n) : w.cell? ⟨tb, 2, none⟩ = some (.slice (some ⟨H, 0, none⟩) n n) := cell_of h rfl
theorem Box.c3 {w : World} {tb D H P n : Nat} {root : Int} (h : Box w tb root D H P n) : w.cell? ⟨tb, 3, none⟩ = some (.slice (some ⟨P, 0, none⟩) n n) := cell_of h rfl
theorem Box.kp {S : List Nat} {w w' : World} {tb D H P n : Nat} {root : Int} (h : Box w tb root D H P n) (k : Kp S w w') (hn : tb ∉ S) : Box w' tb root D H P n := (k.block tb (lt_block h) hn).trans h
/-- one more hop of a node -/
def MgQ (w : World) (D H P n v : Nat) (dist : List Int) (hv pv : List Value) (hops pars : List (List Int)) (Q : Int → Prop) (w' : World) : Prop :=
  ∃ x r, TR w' D H P n dist (hv.set v x) pv (hops.set v r) pars ∧ RowI Q r ∧ (∀ g, x.ownBlock = some g → (gVl hv v).ownBlock = some g ∨ w.heap.size ≤ g) ∧ Kp (H :: vblk (gVl hv v)) w w'
theorem own_form {w : World} {B e k n : Nat} {v : Value} {xs : List Value} (h : w.ownsRow B e k v n xs) : ∃ ad cap, v = .slice ad n cap ∧ (0 < n → ∃ g, ad = some ⟨g, 0, none⟩) := by
  rcases h.2 with ⟨rfl, rfl⟩ | ⟨g, cap, cur, rfl, _⟩
  · exact ⟨none, 0, rfl, fun h => by omega⟩
  · exact ⟨_, cap, rfl, fun _ => ⟨g, rfl⟩⟩
theorem MgQ.ins {w w1 : World} {D H P n v : Nat} {dist : List Int} {hv pv : List Value} {hops pars : List (List Int)} {Q' : Int → Prop} {xv xv' : Value} {r r' : List Int} (hvn : v < n)
    (hT : TR w1 D H P n dist (hv.set v xv) pv (hops.set v r) pars) (hlv : v < hv.length) (hlo : v < hops.length) (hb : ∀ g, xv.ownBlock = some g → (gVl hv v).ownBlock = some g ∨ w.heap.size ≤ g) (hk : Kp (H :: vblk (gVl hv v)) w w1)
    {w2 : World} (hr : RowI Q' r') (ho : w2.ownsRow 0 3 1 xv' r'.length (ints r')) (hk2 : Kp (vblk xv) w1 w2) (hb2 : ∀ g, xv'.ownBlock = some g → xv.ownBlock = some g ∨ w1.heap.size ≤ g) :
    TR (w2.setCell ⟨H, v, none⟩ xv') D H P n dist (hv.set v xv') pv (hops.set v r') pars ∧ (∀ g, xv'.ownBlock = some g → (gVl hv v).ownBlock = some g ∨ w.heap.size ≤ g) ∧ Kp (H :: vblk (gVl hv v)) w (w2.setCell ⟨H, v, none⟩ xv') := by
  have e1 : gVl (hv.set v xv) v = xv := by rw [gVl_set hlv, if_pos rfl]
  have h1 := hT.putH hvn (x := xv') (r := r') (by rw [e1]; exact hk2) ho (by rw [e1]; exact hb2)
  rw [List.set_set, List.set_set] at h1
  refine ⟨h1, fun g hg => ?_, ?_⟩
  · rcases hb2 g hg with h2 | h2
    · exact hb g h2
    · exact .inr (Nat.le_trans hk.size h2)
  · refine (hk.trans hk2 fun g hg => ?_).setCell (.inl (by simp))
    rcases hb g (mem_vblk.1 hg) with h2 | h2
    · exact .inl (by simp [mem_vblk, h2])
    · exact .inr h2
/-- what the closure has put in after k hops -/
def MgK (R s : Int) (x v : Nat) (hops : List (List Int)) (k : Nat) : Int → Prop := fun y => (y ∈ gL hops v ∨ ((x : Int) = s ∧ y = (v : Int))) ∨ ∃ h, h ∈ (gL hops x).take k ∧ y = if R ≤ h then (v : Int) else h
theorem MgK.end_ {R s : Int} {x v : Nat} {hops : List (List Int)} (y : Int) : MgK R s x v hops (gL hops x).length y ↔ (y ∈ gL hops v ∨ Con R s x v y (fun k => k ∈ gL hops x)) := by
  unfold MgK Con
  rw [List.take_length, or_assoc]
theorem MgK.step {R s : Int} {x v k : Nat} {hops : List (List Int)} {h : Int} (hk : (gL hops x)[k]? = some h) (y : Int) : MgK R s x v hops (k + 1) y ↔ (MgK R s x v hops k y ∨ y = if R ≤ h then (v : Int) else h) := by
  unfold MgK
  have e : (gL hops x).take (k + 1) = (gL hops x).take k ++ [h] := by rw [List.take_add_one, hk]; rfl
  rw [e]
  generalize (y ∈ gL hops v ∨ (x : Int) = s ∧ y = (v : Int)) = A
  constructor
  · rintro (h1 | ⟨z, h1, h2⟩)
    · exact .inl (.inl h1)
    · rcases List.mem_append.1 h1 with h1 | h1
      · exact .inl (.inr ⟨z, h1, h2⟩)
      · simp at h1; subst h1; exact .inr h2
  · rintro ((h1 | ⟨z, h1, h2⟩) | h1)
    · exact .inl h1
    · exact .inr ⟨z, by simp [h1], h2⟩
    · exact .inr ⟨h, by simp, h1⟩
theorem mg_free {S : List Nat} {w w1 : World} {H v : Nat} {u : Value} (h : Kp S w w1) (hn : H ∉ S) (hc : w.cell? ⟨H, v, none⟩ = some u) (hz : w.frozen? ⟨H, v, none⟩ = false) : w1.frozen? ⟨H, v, none⟩ = false := by
  have := h.block H (World.block_lt_of_cell? _ _ hc) hn
  unfold World.frozen? at hz ⊢
  rw [this]; exact hz
/-- the loop's relation -/
def MgL (w : World) (D H P n : Nat) (dist : List Int) (hv pv : List Value) (hops pars : List (List Int)) (R s : Int) (x v k : Nat) (wr : World) : Prop := ∃ xv r,
  TR wr D H P n dist (hv.set v xv) pv (hops.set v r) pars ∧ RowI (MgK R s x v hops k) r ∧ (∀ g, xv.ownBlock = some g → (gVl hv v).ownBlock = some g ∨ w.heap.size ≤ g) ∧ Kp (H :: vblk (gVl hv v)) w wr
theorem set_self {α : Type} {l : List α} {k : Nat} {x : α} (h : l[k]? = some x) : l.set k x = l := by
  apply List.ext_getElem?
  intro i
  rw [List.getElem?_set]
  by_cases e : k = i
  · subst e
    rw [if_pos rfl, if_pos (List.getElem?_eq_some_iff.1 h).1, h]
  · rw [if_neg e]
theorem merge_root (w : World) (tb rb gb D H P n : Nat) (s R : Int) (x v : Nat) (dist : List Int) (hv pv : List Value) (hops pars : List (List Int)) (hn : n ≤ 128)
    (hbox : Box w tb s D H P n) (hrt : w.cell? ⟨rb, 0, none⟩ = some (.int .i64 s)) (hgr : w.cell? ⟨gb, 0, none⟩ = some (.int .i64 R)) (hT : TR w D H P n dist hv pv hops pars) (hx : x < n) (hvn : v < n) (hne : x ≠ v)
    (hnt : tb ∉ trB D H P hv pv) (hnr : rb ∉ trB D H P hv pv) (hng : gb ∉ trB D H P hv pv)
    (bx : ∀ y ∈ gL hops x, 0 ≤ y ∧ y < (n : Int)) (bv : ∀ y ∈ gL hops v, 0 ≤ y ∧ y < (n : Int)) (av : (gL hops v).Pairwise (· < ·)) (ax : (gL hops x).Pairwise (· < ·)) (hs : (x : Int) = s) :
    Calls Try.prog 140 #[.int .i64 (x : Int), .int .i64 (v : Int), .pointer (some ⟨rb, 0, none⟩), .pointer (some ⟨tb, 0, none⟩), .pointer (some ⟨gb, 0, none⟩)] w fun e w' => e = .returned (.tuple #[]) ∧
      MgL w D H P n dist hv pv hops pars R s x v (gL hops x).length w' := by
  have hlv : v < hv.length := by rw [hT.lhv]; exact hvn
  have hlo : v < hops.length := by rw [hT.lh]; exact hvn
  obtain ⟨ad, cap, hform, hne0⟩ := own_form (hT.hh.row x (by rw [hT.lh]; exact hx))
  have c2 := hbox.c2
  have cH := hT.ch hx
  rw [hform] at cH
  obtain ⟨L, hL⟩ : ∃ L, (gL hops x).length = L := ⟨_, rfl⟩
  have hL128 : L ≤ 128 := by have := asc_len ax bx; omega
  rw [hL] at cH hne0 hform ⊢
  have HT := Lib.hid hT
  have HB := Lib.hid hbox
  have HF := Lib.hid (And.intro hform (And.intro hL hne0))
  have HX := Lib.hid (And.intro bx (And.intro bv av))
  have HN := Lib.hid (And.intro hnt (And.intro hnr hng))
  have x0 : (0 : Int) ≤ (x : Int) := by omega
  have x1 : (x : Int) < (n : Int) := by omega
  have hbe : ((x : Int) == s) = true := by simpa using hs
  have nt : ∀ b, b ∉ trB D H P hv pv → b ∉ (H :: vblk (gVl hv v)) := fun b hb hm => hb (by
    rcases List.mem_cons.1 hm with h1 | h1
    · simp [trB, h1]
    · simp [trB, vblk_rblk hlv h1])
  have cHv := hT.ch hvn
  have eH0 := cHv
  have zH := hT.fh v
  have htH : tb ≠ H := fun e => hnt (by simp [trB, e])
  have hHx : H ∉ vblk (gVl hv v) := fun hm => (hT.xh H (vblk_rblk hlv hm)).2.1 rfl
  have htx : tb ∉ vblk (gVl hv v) := fun hm => nt _ hnt (by simp [hm])
  have hrl : (gL hops v).length ≤ n := asc_len av bv
  have HI : Hid (Calls Try.prog 141 #[gVl hv v, .int .i64 (v : Int)] w.drew (InsR w.drew (gVl hv v) (gL hops v) (v : Int))) := insert_any w.drew _ _ _ (row_congr (hT.hh.row v hlo) fun _ _ => rfl) av (by omega)
  have hset : ∀ (W : World) (u : Value), W.cell? ⟨tb, 2, none⟩ = some (.slice (some ⟨H, 0, none⟩) n n) → (W.setCell ⟨H, v, none⟩ u).cell? ⟨tb, 2, none⟩ = some (.slice (some ⟨H, 0, none⟩) n n) := fun W u h => by rw [World.cell?_setCell_far _ _ _ _ (Ne.symm htH)]; exact h
  have v0 : (0 : Int) ≤ (v : Int) := by omega
  have v1 : (v : Int) < (n : Int) := by omega
  have H2 := Lib.hid (And.intro hHx htx)
  have NT := Lib.hid nt
  have HS := Lib.hid hs
  clear hT hbox hform hL bx bv av hnt hnr hng hne0 hHx htx hrl nt hs
  go_enter Try.func140, Try.ntmps140
  go_upto_region 1 with (fail)
  refine wp_region_held_drew (S := (fun W => W.cell? ⟨tb, 2, none⟩ = some (.slice (some ⟨H, 0, none⟩) n n))) (by kernel_rfl) c2 (fun hS0 => ?_)
  refine wpAnyH_take (i := 0) (oi := ⟨some 12, _, _, _, _, _⟩) (v := .pointer (some ⟨tb, 2, none⟩)) rfl (by kernel_rfl) (by kernel_rfl) (by kernel_rfl) (fun _ _ _ h => h) (Or.inl ⟨by rfl, by intro w' hw'; (try dsimp only at hw'); go_simp⟩) hS0 ?_
  simp only [Act.put, List.setIfInBounds_toArray, List.set_cons_zero, List.set_cons_succ]
  refine wpAnyH_take (i := 1) (oi := ⟨some 13, _, _, _, _, _⟩) (v := .slice (some ⟨H, 0, none⟩) n n) rfl (by kernel_rfl) (by kernel_rfl) (by kernel_rfl) (fun _ _ _ h => h) (Or.inl ⟨by rfl, by intro w' hw'; (try dsimp only at hw'); go_simp⟩) hS0 ?_
  simp only [Act.put, List.setIfInBounds_toArray, List.set_cons_zero, List.set_cons_succ]
  refine wpAnyH_take (i := 2) (oi := ⟨some 14, _, _, _, _, _⟩) (v := .int .i64 (v : Int)) rfl (by kernel_rfl) (by kernel_rfl) (by kernel_rfl) (fun _ _ _ h => h) (Or.inl ⟨by rfl, by intro w' hw'; (try dsimp only at hw'); go_simp⟩) hS0 ?_
  simp only [Act.put, List.setIfInBounds_toArray, List.set_cons_zero, List.set_cons_succ]
  refine wpAnyH_take (i := 3) (oi := ⟨some 15, _, _, _, _, _⟩) (v := .pointer (some ⟨tb, 2, none⟩)) rfl (by kernel_rfl) (by kernel_rfl) (by kernel_rfl) (fun _ _ _ h => h) (Or.inl ⟨by rfl, by intro w' hw'; (try dsimp only at hw'); go_simp⟩) hS0 ?_
  simp only [Act.put, List.setIfInBounds_toArray, List.set_cons_zero, List.set_cons_succ]
  refine wpAnyH_take (i := 4) (oi := ⟨some 16, _, _, _, _, _⟩) (v := .slice (some ⟨H, 0, none⟩) n n) rfl (by kernel_rfl) (by kernel_rfl) (by kernel_rfl) (fun _ _ _ h => h) (Or.inl ⟨by rfl, by intro w' hw'; (try dsimp only at hw'); go_simp⟩) hS0 ?_
  simp only [Act.put, List.setIfInBounds_toArray, List.set_cons_zero, List.set_cons_succ]
  refine wpAnyH_take (i := 5) (oi := ⟨some 17, _, _, _, _, _⟩) (v := .int .i64 (v : Int)) rfl (by kernel_rfl) (by kernel_rfl) (by kernel_rfl) (fun _ _ _ h => h) (Or.inl ⟨by rfl, by intro w' hw'; (try dsimp only at hw'); go_simp⟩) hS0 ?_
  simp only [Act.put, List.setIfInBounds_toArray, List.set_cons_zero, List.set_cons_succ]
  refine wpAnyH_take (i := 6) (oi := ⟨some 18, _, _, _, _, _⟩) (v := .pointer (some ⟨H, v, none⟩)) rfl (by kernel_rfl) (by kernel_rfl) (by kernel_rfl) (fun _ _ _ h => h) (Or.inl ⟨by rfl, by intro w' hw'; (try dsimp only at hw'); go_simp⟩) hS0 ?_
  simp only [Act.put, List.setIfInBounds_toArray, List.set_cons_zero, List.set_cons_succ]
  refine wpAnyH_take (i := 8) (oi := ⟨some 20, _, _, _, _, _⟩) (v := .int .i64 (v : Int)) rfl (by kernel_rfl) (by kernel_rfl) (by kernel_rfl) (fun _ _ _ h => h) (Or.inl ⟨by rfl, by intro w' hw'; (try dsimp only at hw'); go_simp⟩) hS0 ?_
  simp only [Act.put, List.setIfInBounds_toArray, List.set_cons_zero, List.set_cons_succ]
  refine wpAnyH_ready (rs := [7]) (by kernel_rfl) (by simp) ?_
  refine AllReadyH.cons rfl (fun K hK => ?_) AllReadyH.nil
  go_simp
  (try go_wp2_with fail)
  refine hK.out _ _ hS0 (fun _ => ?_)
  clear hK K
  (try simp only [Act.put, List.setIfInBounds_toArray, List.set_cons_zero, List.set_cons_succ])
  refine wpAnyH_ready (rs := [9]) (by kernel_rfl) (by simp) ?_
  refine AllReadyH.cons rfl (fun K hK => ?_) AllReadyH.nil
  go_simp
  go_at_call 141
  refine (HI.out).mono ?_
  rintro e w1 ⟨r', hr', v', rfl, h1, h2, h3⟩
  have e2 := h2.undrew.carry (p := ⟨tb, 2, none⟩) H2.out.2 c2
  have eH := h2.undrew.carry (p := ⟨H, v, none⟩) H2.out.1 cHv
  have zH1 : w1.frozen? ⟨H, v, none⟩ = false := mg_free h2.undrew H2.out.1 eH0 zH
  obtain ⟨ad', cap', rfl, -⟩ := own_form h1
  have HQ := Lib.hid (And.intro hr' (And.intro h1 (And.intro h2.undrew h3)))
  clear hr' h1 h2 h3
  (try go_wp2_with fail)
  refine hK.out _ _ e2 (fun _ => ?_)
  clear hK K
  (try simp only [Act.put, List.setIfInBounds_toArray, List.set_cons_zero, List.set_cons_succ])
  refine wpAnyH_take (i := 10) (oi := ⟨some 22, _, _, _, _, _⟩) (v := .pointer (some ⟨H, v, none⟩)) rfl (by kernel_rfl) (by kernel_rfl) (by kernel_rfl) (fun _ _ _ h => h) (Or.inl ⟨by rfl, by intro w' hw'; (try dsimp only at hw'); go_simp⟩) e2 ?_
  simp only [Act.put, List.setIfInBounds_toArray, List.set_cons_zero, List.set_cons_succ]
  refine wpAnyH_ready (rs := [11]) (by kernel_rfl) (by simp) ?_
  refine AllReadyH.cons rfl (fun K hK => ?_) AllReadyH.nil
  go_simp
  (try go_wp2_with fail)
  refine hK.out _ _ (hset _ _ e2) (fun _ => ?_)
  clear hK K
  (try simp only [Act.put, List.setIfInBounds_toArray, List.set_cons_zero, List.set_cons_succ])
  refine wpAnyH_done (by kernel_rfl) ?_ _
  have M0 : Hid (MgL w D H P n dist hv pv hops pars R s x v 0 (w1.setCell ⟨H, v, none⟩ (.slice ad' r'.length cap'))) := by
    obtain ⟨q1, q2, q3, q4⟩ := HQ.out
    obtain ⟨a1, a2, a3⟩ := MgQ.ins (xv := gVl hv v) (r := gL hops v) hvn (by rw [set_self (gVl_get hlv), set_self (gL_get hlo)]; exact HT.out) hlv hlo (fun g hg => .inl hg) (Kp.refl _ w) q1 q2 q3 q4
    refine ⟨_, r', a1, q1.congr fun y => ?_, a2, a3⟩
    unfold MgK; simp [HS.out]
  have hk0 : Kp (H :: vblk (gVl hv v)) w (w1.setCell ⟨H, v, none⟩ (.slice ad' r'.length cap')) := by obtain ⟨_, _, _, _, _, h⟩ := M0.out; exact h
  have c2' := (HB.out.kp hk0 (NT.out _ HN.out.1)).c2
  have cH' : (w1.setCell ⟨H, v, none⟩ (.slice ad' r'.length cap')).cell? ⟨H, x, none⟩ = some (.slice ad L cap) := by
    obtain ⟨xv, r, hT, _⟩ := M0.out
    have := hT.ch hx
    rw [gVl_set hlv, if_neg hne, HF.out.1] at this; exact this
  clear c2 cH cHv eH0 zH e2 eH zH1 HQ H2 HI hset v0 v1 htH HS hk0 NT
  generalize w1.setCell ⟨H, v, none⟩ (.slice ad' r'.length cap') = W at *
  go_wp2_with fail
  go_loopg [29, 8] L (fun g s29 s8 wr => ∃ k : Nat, k ≤ L ∧ L - k ≤ g ∧ s29 = .int .i64 (k : Int) ∧ (∃ u, u = s8) ∧ Hid (MgL w D H P n dist hv pv hops pars R s x v k wr))
  case atStart => exact ⟨0, by omega, by omega, rfl, ⟨_, rfl⟩, M0⟩
  case round =>
    clear M0
    obtain ⟨k, hk, hkg, rfl, ⟨u8, rfl⟩, HR⟩ := hrel
    by_cases hlt : k < L
    · obtain ⟨xv, r, hT, hr, hb, hkp⟩ := HR.out
      obtain ⟨hform, hL, hne0⟩ := HF.out
      obtain ⟨g0, rfl⟩ := hne0 (by omega)
      obtain ⟨h, hh⟩ : ∃ h, (gL hops x)[k]? = some h := ⟨_, List.getElem?_eq_getElem (by omega)⟩
      have hrx := hT.hh.row x (by rw [List.length_set]; rw [HT.out.lh]; exact hx)
      rw [gVl_set hlv, gL_set hlo, if_neg hne, if_neg hne, hform, hL] at hrx
      have ck := hrx.cellAt k (by omega)
      rw [ints_get hh] at ck
      have hrv := hT.hh.row v (by rw [List.length_set]; exact hlo)
      rw [gVl_set hlv, gL_set hlo, if_pos rfl, if_pos rfl] at hrv
      have cHv := hT.ch hvn
      rw [gVl_set hlv, if_pos rfl] at cHv
      have zH := hT.fh v
      have nt : ∀ b, b ∉ trB D H P hv pv → b ∉ (H :: vblk (gVl hv v)) := fun b hb hm => hb (by
        rcases List.mem_cons.1 hm with h1 | h1
        · simp [trB, h1]
        · simp [trB, vblk_rblk hlv h1])
      have d2 := (HB.out.kp hkp (nt _ HN.out.1)).c2
      have dg := hkp.carry (p := ⟨gb, 0, none⟩) (nt _ HN.out.2.2) hgr
      have eH0 := cHv
      have htH : tb ≠ H := fun e => HN.out.1 (by simp [trB, e])
      have hHx : H ∉ vblk xv := fun hm => by
        rcases hb H (mem_vblk.1 hm) with h1 | h1
        · exact (HT.out.xh H (vblk_rblk hlv (mem_vblk.2 h1))).2.1 rfl
        · have := (row_lt HT.out.rh rfl).2; dsimp only at this; omega
      have htx : tb ∉ vblk xv := fun hm => by
        rcases hb tb (mem_vblk.1 hm) with h1 | h1
        · exact nt _ HN.out.1 (by simp [mem_vblk, h1])
        · have := lt_block HB.out; omega
      have hzb : ∀ z, (z = if R ≤ h then (v : Int) else h) → RowI (fun y => y ∈ r ∨ y = z) = RowI (MgK R s x v hops (k + 1)) := fun z hz => by
        congr 1; funext y; exact propext ((or_congr (hr.2 y) (by rw [hz])).trans (MgK.step hh y).symm)
      have hrl : r.length ≤ n := asc_len hr.1 fun y hy => by
        have hm := (hr.2 y).1 hy
        unfold MgK at hm
        rcases hm with (h1 | ⟨_, h1⟩) | ⟨z, h1, h2⟩
        · exact HX.out.2.1 y h1
        · omega
        · have := HX.out.1 z (List.mem_of_mem_take h1)
          rw [h2]; split <;> omega
      have HI : Hid (∀ z, Calls Try.prog 141 #[xv, .int .i64 z] wr.drew (InsR wr.drew xv r z)) := fun z => insert_any wr.drew xv r z (row_congr hrv fun _ _ => rfl) hr.1 (by omega)
      have hset : ∀ (W : World) (u : Value), W.cell? ⟨tb, 2, none⟩ = some (.slice (some ⟨H, 0, none⟩) n n) → (W.setCell ⟨H, v, none⟩ u).cell? ⟨tb, 2, none⟩ = some (.slice (some ⟨H, 0, none⟩) n n) := fun W u h => by rw [World.cell?_setCell_far _ _ _ _ (Ne.symm htH)]; exact h
      have HE := Lib.hid (And.intro hT (And.intro hb (And.intro hkp hzb)))
      have v0 : (0 : Int) ≤ (v : Int) := by omega
      have v1 : (v : Int) < (n : Int) := by omega
      have k0 : (0 : Int) ≤ (k : Int) := by omega
      have k1 : (k : Int) < (L : Int) := by omega
      have H2 := Lib.hid (And.intro hHx htx)
      clear hT hr hb hkp hrx hrv hzb hrl hHx htx hform hL hne0 hh nt
      by_cases hRh : R ≤ h
      · have ez : Hid ((v : Int) = if R ≤ h then (v : Int) else h) := by show _ = _; rw [if_pos hRh]
        have eR : decide (h ≥ R) = true := decide_eq_true hRh
        have eR2 : decide (R ≤ h) = true := decide_eq_true hRh
        go_upto_region 7 with (fail)
        refine wp_region_held_drew (S := (fun W => W.cell? ⟨tb, 2, none⟩ = some (.slice (some ⟨H, 0, none⟩) n n))) (by kernel_rfl) d2 (fun hS0 => ?_)
        refine wpAnyH_take (i := 0) (oi := ⟨some 38, _, _, _, _, _⟩) (v := .pointer (some ⟨tb, 2, none⟩)) rfl (by kernel_rfl) (by kernel_rfl) (by kernel_rfl) (fun _ _ _ h => h) (Or.inl ⟨by rfl, by intro w' hw'; (try dsimp only at hw'); go_simp⟩) hS0 ?_
        simp only [Act.put, List.setIfInBounds_toArray, List.set_cons_zero, List.set_cons_succ]
        refine wpAnyH_take (i := 1) (oi := ⟨some 39, _, _, _, _, _⟩) (v := .slice (some ⟨H, 0, none⟩) n n) rfl (by kernel_rfl) (by kernel_rfl) (by kernel_rfl) (fun _ _ _ h => h) (Or.inl ⟨by rfl, by intro w' hw'; (try dsimp only at hw'); go_simp⟩) hS0 ?_
        simp only [Act.put, List.setIfInBounds_toArray, List.set_cons_zero, List.set_cons_succ]
        refine wpAnyH_take (i := 2) (oi := ⟨some 40, _, _, _, _, _⟩) (v := .int .i64 (v : Int)) rfl (by kernel_rfl) (by kernel_rfl) (by kernel_rfl) (fun _ _ _ h => h) (Or.inl ⟨by rfl, by intro w' hw'; (try dsimp only at hw'); go_simp⟩) hS0 ?_
        simp only [Act.put, List.setIfInBounds_toArray, List.set_cons_zero, List.set_cons_succ]
        refine wpAnyH_take (i := 3) (oi := ⟨some 41, _, _, _, _, _⟩) (v := .pointer (some ⟨tb, 2, none⟩)) rfl (by kernel_rfl) (by kernel_rfl) (by kernel_rfl) (fun _ _ _ h => h) (Or.inl ⟨by rfl, by intro w' hw'; (try dsimp only at hw'); go_simp⟩) hS0 ?_
        simp only [Act.put, List.setIfInBounds_toArray, List.set_cons_zero, List.set_cons_succ]
        refine wpAnyH_take (i := 4) (oi := ⟨some 42, _, _, _, _, _⟩) (v := .slice (some ⟨H, 0, none⟩) n n) rfl (by kernel_rfl) (by kernel_rfl) (by kernel_rfl) (fun _ _ _ h => h) (Or.inl ⟨by rfl, by intro w' hw'; (try dsimp only at hw'); go_simp⟩) hS0 ?_
        simp only [Act.put, List.setIfInBounds_toArray, List.set_cons_zero, List.set_cons_succ]
        refine wpAnyH_take (i := 5) (oi := ⟨some 43, _, _, _, _, _⟩) (v := .int .i64 (v : Int)) rfl (by kernel_rfl) (by kernel_rfl) (by kernel_rfl) (fun _ _ _ h => h) (Or.inl ⟨by rfl, by intro w' hw'; (try dsimp only at hw'); go_simp⟩) hS0 ?_
        simp only [Act.put, List.setIfInBounds_toArray, List.set_cons_zero, List.set_cons_succ]
        refine wpAnyH_take (i := 6) (oi := ⟨some 44, _, _, _, _, _⟩) (v := .pointer (some ⟨H, v, none⟩)) rfl (by kernel_rfl) (by kernel_rfl) (by kernel_rfl) (fun _ _ _ h => h) (Or.inl ⟨by rfl, by intro w' hw'; (try dsimp only at hw'); go_simp⟩) hS0 ?_
        simp only [Act.put, List.setIfInBounds_toArray, List.set_cons_zero, List.set_cons_succ]
        refine wpAnyH_take (i := 8) (oi := ⟨some 46, _, _, _, _, _⟩) (v := .int .i64 (v : Int)) rfl (by kernel_rfl) (by kernel_rfl) (by kernel_rfl) (fun _ _ _ h => h) (Or.inl ⟨by rfl, by intro w' hw'; (try dsimp only at hw'); go_simp⟩) hS0 ?_
        simp only [Act.put, List.setIfInBounds_toArray, List.set_cons_zero, List.set_cons_succ]
        refine wpAnyH_ready (rs := [7]) (by kernel_rfl) (by simp) ?_
        refine AllReadyH.cons rfl (fun K hK => ?_) AllReadyH.nil
        go_simp
        (try go_wp2_with fail)
        refine hK.out _ _ hS0 (fun _ => ?_)
        clear hK K
        (try simp only [Act.put, List.setIfInBounds_toArray, List.set_cons_zero, List.set_cons_succ])
        refine wpAnyH_ready (rs := [9]) (by kernel_rfl) (by simp) ?_
        refine AllReadyH.cons rfl (fun K hK => ?_) AllReadyH.nil
        go_simp
        go_at_call 141
        refine (HI.out (v : Int)).mono ?_
        rintro e w1 ⟨r', hr', v', rfl, h1, h2, h3⟩
        have e2 := h2.undrew.carry (p := ⟨tb, 2, none⟩) H2.out.2 d2
        have eH := h2.undrew.carry (p := ⟨H, v, none⟩) H2.out.1 cHv
        have zH1 : w1.frozen? ⟨H, v, none⟩ = false := mg_free h2.undrew H2.out.1 eH0 zH
        obtain ⟨ad', cap', rfl, -⟩ := own_form h1
        have HQ := Lib.hid (And.intro hr' (And.intro h1 (And.intro h2.undrew h3)))
        clear hr' h1 h2 h3
        (try go_wp2_with fail)
        refine hK.out _ _ e2 (fun _ => ?_)
        clear hK K
        (try simp only [Act.put, List.setIfInBounds_toArray, List.set_cons_zero, List.set_cons_succ])
        refine wpAnyH_take (i := 10) (oi := ⟨some 48, _, _, _, _, _⟩) (v := .pointer (some ⟨H, v, none⟩)) rfl (by kernel_rfl) (by kernel_rfl) (by kernel_rfl) (fun _ _ _ h => h) (Or.inl ⟨by rfl, by intro w' hw'; (try dsimp only at hw'); go_simp⟩) e2 ?_
        simp only [Act.put, List.setIfInBounds_toArray, List.set_cons_zero, List.set_cons_succ]
        refine wpAnyH_ready (rs := [11]) (by kernel_rfl) (by simp) ?_
        refine AllReadyH.cons rfl (fun K hK => ?_) AllReadyH.nil
        go_simp
        (try go_wp2_with fail)
        refine hK.out _ _ (hset _ _ e2) (fun _ => ?_)
        clear hK K
        (try simp only [Act.put, List.setIfInBounds_toArray, List.set_cons_zero, List.set_cons_succ])
        refine wpAnyH_done (by kernel_rfl) ?_ _
        go_wp2_with fail
        go_roundg (L - (k + 1))
        case measure => omega
        case rel =>
          obtain ⟨q1, q2, q3, q4⟩ := HQ.out
          obtain ⟨t1, t2, t3, t4⟩ := HE.out
          obtain ⟨a1, a2, a3⟩ := MgQ.ins hvn t1 hlv hlo t2 t3 q1 q2 q3 q4
          refine ⟨k + 1, by omega, Nat.le_refl _, by go_num, ⟨_, rfl⟩, _, r', a1, ?_, a2, a3⟩
          rw [← t4 _ ez.out]; exact q1
      · have ez : Hid (h = if R ≤ h then (v : Int) else h) := by show _ = _; rw [if_neg hRh]
        have eR : decide (h ≥ R) = false := decide_eq_false hRh
        have eR2 : decide (R ≤ h) = false := decide_eq_false hRh
        go_upto_region 7 with (fail)
        refine wp_region_held_drew (S := (fun W => W.cell? ⟨tb, 2, none⟩ = some (.slice (some ⟨H, 0, none⟩) n n))) (by kernel_rfl) d2 (fun hS0 => ?_)
        refine wpAnyH_take (i := 0) (oi := ⟨some 38, _, _, _, _, _⟩) (v := .pointer (some ⟨tb, 2, none⟩)) rfl (by kernel_rfl) (by kernel_rfl) (by kernel_rfl) (fun _ _ _ h => h) (Or.inl ⟨by rfl, by intro w' hw'; (try dsimp only at hw'); go_simp⟩) hS0 ?_
        simp only [Act.put, List.setIfInBounds_toArray, List.set_cons_zero, List.set_cons_succ]
        refine wpAnyH_take (i := 1) (oi := ⟨some 39, _, _, _, _, _⟩) (v := .slice (some ⟨H, 0, none⟩) n n) rfl (by kernel_rfl) (by kernel_rfl) (by kernel_rfl) (fun _ _ _ h => h) (Or.inl ⟨by rfl, by intro w' hw'; (try dsimp only at hw'); go_simp⟩) hS0 ?_
        simp only [Act.put, List.setIfInBounds_toArray, List.set_cons_zero, List.set_cons_succ]
        refine wpAnyH_take (i := 2) (oi := ⟨some 40, _, _, _, _, _⟩) (v := .int .i64 (v : Int)) rfl (by kernel_rfl) (by kernel_rfl) (by kernel_rfl) (fun _ _ _ h => h) (Or.inl ⟨by rfl, by intro w' hw'; (try dsimp only at hw'); go_simp⟩) hS0 ?_
        simp only [Act.put, List.setIfInBounds_toArray, List.set_cons_zero, List.set_cons_succ]
        refine wpAnyH_take (i := 3) (oi := ⟨some 41, _, _, _, _, _⟩) (v := .pointer (some ⟨tb, 2, none⟩)) rfl (by kernel_rfl) (by kernel_rfl) (by kernel_rfl) (fun _ _ _ h => h) (Or.inl ⟨by rfl, by intro w' hw'; (try dsimp only at hw'); go_simp⟩) hS0 ?_
        simp only [Act.put, List.setIfInBounds_toArray, List.set_cons_zero, List.set_cons_succ]
        refine wpAnyH_take (i := 4) (oi := ⟨some 42, _, _, _, _, _⟩) (v := .slice (some ⟨H, 0, none⟩) n n) rfl (by kernel_rfl) (by kernel_rfl) (by kernel_rfl) (fun _ _ _ h => h) (Or.inl ⟨by rfl, by intro w' hw'; (try dsimp only at hw'); go_simp⟩) hS0 ?_
        simp only [Act.put, List.setIfInBounds_toArray, List.set_cons_zero, List.set_cons_succ]
        refine wpAnyH_take (i := 5) (oi := ⟨some 43, _, _, _, _, _⟩) (v := .int .i64 (v : Int)) rfl (by kernel_rfl) (by kernel_rfl) (by kernel_rfl) (fun _ _ _ h => h) (Or.inl ⟨by rfl, by intro w' hw'; (try dsimp only at hw'); go_simp⟩) hS0 ?_
        simp only [Act.put, List.setIfInBounds_toArray, List.set_cons_zero, List.set_cons_succ]
        refine wpAnyH_take (i := 6) (oi := ⟨some 44, _, _, _, _, _⟩) (v := .pointer (some ⟨H, v, none⟩)) rfl (by kernel_rfl) (by kernel_rfl) (by kernel_rfl) (fun _ _ _ h => h) (Or.inl ⟨by rfl, by intro w' hw'; (try dsimp only at hw'); go_simp⟩) hS0 ?_
        simp only [Act.put, List.setIfInBounds_toArray, List.set_cons_zero, List.set_cons_succ]
        refine wpAnyH_take (i := 8) (oi := ⟨some 46, _, _, _, _, _⟩) (v := .int .i64 h) rfl (by kernel_rfl) (by kernel_rfl) (by kernel_rfl) (fun _ _ _ h => h) (Or.inl ⟨by rfl, by intro w' hw'; (try dsimp only at hw'); go_simp⟩) hS0 ?_
        simp only [Act.put, List.setIfInBounds_toArray, List.set_cons_zero, List.set_cons_succ]
        refine wpAnyH_ready (rs := [7]) (by kernel_rfl) (by simp) ?_
        refine AllReadyH.cons rfl (fun K hK => ?_) AllReadyH.nil
        go_simp
        (try go_wp2_with fail)
        refine hK.out _ _ hS0 (fun _ => ?_)
        clear hK K
        (try simp only [Act.put, List.setIfInBounds_toArray, List.set_cons_zero, List.set_cons_succ])
        refine wpAnyH_ready (rs := [9]) (by kernel_rfl) (by simp) ?_
        refine AllReadyH.cons rfl (fun K hK => ?_) AllReadyH.nil
        go_simp
        go_at_call 141
        refine (HI.out h).mono ?_
        rintro e w1 ⟨r', hr', v', rfl, h1, h2, h3⟩
        have e2 := h2.undrew.carry (p := ⟨tb, 2, none⟩) H2.out.2 d2
        have eH := h2.undrew.carry (p := ⟨H, v, none⟩) H2.out.1 cHv
        have zH1 : w1.frozen? ⟨H, v, none⟩ = false := mg_free h2.undrew H2.out.1 eH0 zH
        obtain ⟨ad', cap', rfl, -⟩ := own_form h1
        have HQ := Lib.hid (And.intro hr' (And.intro h1 (And.intro h2.undrew h3)))
        clear hr' h1 h2 h3
        (try go_wp2_with fail)
        refine hK.out _ _ e2 (fun _ => ?_)
        clear hK K
        (try simp only [Act.put, List.setIfInBounds_toArray, List.set_cons_zero, List.set_cons_succ])
        refine wpAnyH_take (i := 10) (oi := ⟨some 48, _, _, _, _, _⟩) (v := .pointer (some ⟨H, v, none⟩)) rfl (by kernel_rfl) (by kernel_rfl) (by kernel_rfl) (fun _ _ _ h => h) (Or.inl ⟨by rfl, by intro w' hw'; (try dsimp only at hw'); go_simp⟩) e2 ?_
        simp only [Act.put, List.setIfInBounds_toArray, List.set_cons_zero, List.set_cons_succ]
        refine wpAnyH_ready (rs := [11]) (by kernel_rfl) (by simp) ?_
        refine AllReadyH.cons rfl (fun K hK => ?_) AllReadyH.nil
        go_simp
        (try go_wp2_with fail)
        refine hK.out _ _ (hset _ _ e2) (fun _ => ?_)
        clear hK K
        (try simp only [Act.put, List.setIfInBounds_toArray, List.set_cons_zero, List.set_cons_succ])
        refine wpAnyH_done (by kernel_rfl) ?_ _
        go_wp2_with fail
        go_roundg (L - (k + 1))
        case measure => omega
        case rel =>
          obtain ⟨q1, q2, q3, q4⟩ := HQ.out
          obtain ⟨t1, t2, t3, t4⟩ := HE.out
          obtain ⟨a1, a2, a3⟩ := MgQ.ins hvn t1 hlv hlo t2 t3 q1 q2 q3 q4
          refine ⟨k + 1, by omega, Nat.le_refl _, by go_num, ⟨_, rfl⟩, _, r', a1, ?_, a2, a3⟩
          rw [← t4 _ ez.out]; exact q1
    · have hkL : Hid (k = L) := by show _ = _; omega
      have k1 : decide ((k : Int) < (L : Int)) = false := decide_eq_false (by omega)
      go_wp2_with fail
      refine bodyPost_end (results_none rfl _ _ _) rfl ?_
      refine ⟨rfl, ?_⟩
      have := HR.out
      rw [hkL.out] at this
      exact this
theorem merge_other (w : World) (tb rb gb D H P n : Nat) (s R : Int) (x v : Nat) (dist : List Int) (hv pv : List Value) (hops pars : List (List Int)) (hn : n ≤ 128)
    (hbox : Box w tb s D H P n) (hrt : w.cell? ⟨rb, 0, none⟩ = some (.int .i64 s)) (hgr : w.cell? ⟨gb, 0, none⟩ = some (.int .i64 R)) (hT : TR w D H P n dist hv pv hops pars) (hx : x < n) (hvn : v < n) (hne : x ≠ v)
    (hnt : tb ∉ trB D H P hv pv) (hnr : rb ∉ trB D H P hv pv) (hng : gb ∉ trB D H P hv pv)
    (bx : ∀ y ∈ gL hops x, 0 ≤ y ∧ y < (n : Int)) (bv : ∀ y ∈ gL hops v, 0 ≤ y ∧ y < (n : Int)) (av : (gL hops v).Pairwise (· < ·)) (ax : (gL hops x).Pairwise (· < ·)) (hs : (x : Int) ≠ s) :
    Calls Try.prog 140 #[.int .i64 (x : Int), .int .i64 (v : Int), .pointer (some ⟨rb, 0, none⟩), .pointer (some ⟨tb, 0, none⟩), .pointer (some ⟨gb, 0, none⟩)] w fun e w' => e = .returned (.tuple #[]) ∧
      MgL w D H P n dist hv pv hops pars R s x v (gL hops x).length w' := by
  have hlv : v < hv.length := by rw [hT.lhv]; exact hvn
  have hlo : v < hops.length := by rw [hT.lh]; exact hvn
  have M0 : Hid (MgL w D H P n dist hv pv hops pars R s x v 0 w) := by
    refine ⟨gVl hv v, gL hops v, ?_, ⟨av, fun y => ?_⟩, fun g hg => .inl hg, Kp.refl _ _⟩
    · rw [set_self (gVl_get hlv), set_self (gL_get hlo)]; exact hT
    · unfold MgK; simp [hs]
  obtain ⟨ad, cap, hform, hne0⟩ := own_form (hT.hh.row x (by rw [hT.lh]; exact hx))
  have c2 := hbox.c2
  have cH := hT.ch hx
  rw [hform] at cH
  obtain ⟨L, hL⟩ : ∃ L, (gL hops x).length = L := ⟨_, rfl⟩
  have hL128 : L ≤ 128 := by have := asc_len ax bx; omega
  rw [hL] at cH hne0 hform ⊢
  have HT := Lib.hid hT
  have HB := Lib.hid hbox
  have HF := Lib.hid (And.intro hform (And.intro hL hne0))
  have HX := Lib.hid (And.intro bx (And.intro bv av))
  have HN := Lib.hid (And.intro hnt (And.intro hnr hng))
  have x0 : (0 : Int) ≤ (x : Int) := by omega
  have x1 : (x : Int) < (n : Int) := by omega
  have hbe : ((x : Int) == s) = false := by simpa using hs
  clear hT hbox hform hL bx bv av hnt hnr hng hne0
  go_enter Try.func140, Try.ntmps140
  go_wp2_with fail
  go_loopg [29, 8] L (fun g s29 s8 wr => ∃ k : Nat, k ≤ L ∧ L - k ≤ g ∧ s29 = .int .i64 (k : Int) ∧ (∃ u, u = s8) ∧ Hid (MgL w D H P n dist hv pv hops pars R s x v k wr))
  case atStart => exact ⟨0, by omega, by omega, rfl, ⟨_, rfl⟩, M0⟩
  case round =>
    clear M0
    obtain ⟨k, hk, hkg, rfl, ⟨u8, rfl⟩, HR⟩ := hrel
    by_cases hlt : k < L
    · obtain ⟨xv, r, hT, hr, hb, hkp⟩ := HR.out
      obtain ⟨hform, hL, hne0⟩ := HF.out
      obtain ⟨g0, rfl⟩ := hne0 (by omega)
      obtain ⟨h, hh⟩ : ∃ h, (gL hops x)[k]? = some h := ⟨_, List.getElem?_eq_getElem (by omega)⟩
      have hrx := hT.hh.row x (by rw [List.length_set]; rw [HT.out.lh]; exact hx)
      rw [gVl_set hlv, gL_set hlo, if_neg hne, if_neg hne, hform, hL] at hrx
      have ck := hrx.cellAt k (by omega)
      rw [ints_get hh] at ck
      have hrv := hT.hh.row v (by rw [List.length_set]; exact hlo)
      rw [gVl_set hlv, gL_set hlo, if_pos rfl, if_pos rfl] at hrv
      have cHv := hT.ch hvn
      rw [gVl_set hlv, if_pos rfl] at cHv
      have zH := hT.fh v
      have nt : ∀ b, b ∉ trB D H P hv pv → b ∉ (H :: vblk (gVl hv v)) := fun b hb hm => hb (by
        rcases List.mem_cons.1 hm with h1 | h1
        · simp [trB, h1]
        · simp [trB, vblk_rblk hlv h1])
      have d2 := (HB.out.kp hkp (nt _ HN.out.1)).c2
      have dg := hkp.carry (p := ⟨gb, 0, none⟩) (nt _ HN.out.2.2) hgr
      have eH0 := cHv
      have htH : tb ≠ H := fun e => HN.out.1 (by simp [trB, e])
      have hHx : H ∉ vblk xv := fun hm => by
        rcases hb H (mem_vblk.1 hm) with h1 | h1
        · exact (HT.out.xh H (vblk_rblk hlv (mem_vblk.2 h1))).2.1 rfl
        · have := (row_lt HT.out.rh rfl).2; dsimp only at this; omega
      have htx : tb ∉ vblk xv := fun hm => by
        rcases hb tb (mem_vblk.1 hm) with h1 | h1
        · exact nt _ HN.out.1 (by simp [mem_vblk, h1])
        · have := lt_block HB.out; omega
      have hzb : ∀ z, (z = if R ≤ h then (v : Int) else h) → RowI (fun y => y ∈ r ∨ y = z) = RowI (MgK R s x v hops (k + 1)) := fun z hz => by
        congr 1; funext y; exact propext ((or_congr (hr.2 y) (by rw [hz])).trans (MgK.step hh y).symm)
      have hrl : r.length ≤ n := asc_len hr.1 fun y hy => by
        have hm := (hr.2 y).1 hy
        unfold MgK at hm
        rcases hm with (h1 | ⟨_, h1⟩) | ⟨z, h1, h2⟩
        · exact HX.out.2.1 y h1
        · omega
        · have := HX.out.1 z (List.mem_of_mem_take h1)
          rw [h2]; split <;> omega
      have HI : Hid (∀ z, Calls Try.prog 141 #[xv, .int .i64 z] wr.drew (InsR wr.drew xv r z)) := fun z => insert_any wr.drew xv r z (row_congr hrv fun _ _ => rfl) hr.1 (by omega)
      have hset : ∀ (W : World) (u : Value), W.cell? ⟨tb, 2, none⟩ = some (.slice (some ⟨H, 0, none⟩) n n) → (W.setCell ⟨H, v, none⟩ u).cell? ⟨tb, 2, none⟩ = some (.slice (some ⟨H, 0, none⟩) n n) := fun W u h => by rw [World.cell?_setCell_far _ _ _ _ (Ne.symm htH)]; exact h
      have HE := Lib.hid (And.intro hT (And.intro hb (And.intro hkp hzb)))
      have v0 : (0 : Int) ≤ (v : Int) := by omega
      have v1 : (v : Int) < (n : Int) := by omega
      have k0 : (0 : Int) ≤ (k : Int) := by omega
      have k1 : (k : Int) < (L : Int) := by omega
      have H2 := Lib.hid (And.intro hHx htx)
      clear hT hr hb hkp hrx hrv hzb hrl hHx htx hform hL hne0 hh nt
      by_cases hRh : R ≤ h
      · have ez : Hid ((v : Int) = if R ≤ h then (v : Int) else h) := by show _ = _; rw [if_pos hRh]
        have eR : decide (h ≥ R) = true := decide_eq_true hRh
        have eR2 : decide (R ≤ h) = true := decide_eq_true hRh
        go_upto_region 7 with (fail)
        refine wp_region_held_drew (S := (fun W => W.cell? ⟨tb, 2, none⟩ = some (.slice (some ⟨H, 0, none⟩) n n))) (by kernel_rfl) d2 (fun hS0 => ?_)
        refine wpAnyH_take (i := 0) (oi := ⟨some 38, _, _, _, _, _⟩) (v := .pointer (some ⟨tb, 2, none⟩)) rfl (by kernel_rfl) (by kernel_rfl) (by kernel_rfl) (fun _ _ _ h => h) (Or.inl ⟨by rfl, by intro w' hw'; (try dsimp only at hw'); go_simp⟩) hS0 ?_
        simp only [Act.put, List.setIfInBounds_toArray, List.set_cons_zero, List.set_cons_succ]
        refine wpAnyH_take (i := 1) (oi := ⟨some 39, _, _, _, _, _⟩) (v := .slice (some ⟨H, 0, none⟩) n n) rfl (by kernel_rfl) (by kernel_rfl) (by kernel_rfl) (fun _ _ _ h => h) (Or.inl ⟨by rfl, by intro w' hw'; (try dsimp only at hw'); go_simp⟩) hS0 ?_
        simp only [Act.put, List.setIfInBounds_toArray, List.set_cons_zero, List.set_cons_succ]
        refine wpAnyH_take (i := 2) (oi := ⟨some 40, _, _, _, _, _⟩) (v := .int .i64 (v : Int)) rfl (by kernel_rfl) (by kernel_rfl) (by kernel_rfl) (fun _ _ _ h => h) (Or.inl ⟨by rfl, by intro w' hw'; (try dsimp only at hw'); go_simp⟩) hS0 ?_
        simp only [Act.put, List.setIfInBounds_toArray, List.set_cons_zero, List.set_cons_succ]
        refine wpAnyH_take (i := 3) (oi := ⟨some 41, _, _, _, _, _⟩) (v := .pointer (some ⟨tb, 2, none⟩)) rfl (by kernel_rfl) (by kernel_rfl) (by kernel_rfl) (fun _ _ _ h => h) (Or.inl ⟨by rfl, by intro w' hw'; (try dsimp only at hw'); go_simp⟩) hS0 ?_
        simp only [Act.put, List.setIfInBounds_toArray, List.set_cons_zero, List.set_cons_succ]
        refine wpAnyH_take (i := 4) (oi := ⟨some 42, _, _, _, _, _⟩) (v := .slice (some ⟨H, 0, none⟩) n n) rfl (by kernel_rfl) (by kernel_rfl) (by kernel_rfl) (fun _ _ _ h => h) (Or.inl ⟨by rfl, by intro w' hw'; (try dsimp only at hw'); go_simp⟩) hS0 ?_
        simp only [Act.put, List.setIfInBounds_toArray, List.set_cons_zero, List.set_cons_succ]
        refine wpAnyH_take (i := 5) (oi := ⟨some 43, _, _, _, _, _⟩) (v := .int .i64 (v : Int)) rfl (by kernel_rfl) (by kernel_rfl) (by kernel_rfl) (fun _ _ _ h => h) (Or.inl ⟨by rfl, by intro w' hw'; (try dsimp only at hw'); go_simp⟩) hS0 ?_
        simp only [Act.put, List.setIfInBounds_toArray, List.set_cons_zero, List.set_cons_succ]
        refine wpAnyH_take (i := 6) (oi := ⟨some 44, _, _, _, _, _⟩) (v := .pointer (some ⟨H, v, none⟩)) rfl (by kernel_rfl) (by kernel_rfl) (by kernel_rfl) (fun _ _ _ h => h) (Or.inl ⟨by rfl, by intro w' hw'; (try dsimp only at hw'); go_simp⟩) hS0 ?_
        simp only [Act.put, List.setIfInBounds_toArray, List.set_cons_zero, List.set_cons_succ]
        refine wpAnyH_take (i := 8) (oi := ⟨some 46, _, _, _, _, _⟩) (v := .int .i64 (v : Int)) rfl (by kernel_rfl) (by kernel_rfl) (by kernel_rfl) (fun _ _ _ h => h) (Or.inl ⟨by rfl, by intro w' hw'; (try dsimp only at hw'); go_simp⟩) hS0 ?_
        simp only [Act.put, List.setIfInBounds_toArray, List.set_cons_zero, List.set_cons_succ]
        refine wpAnyH_ready (rs := [7]) (by kernel_rfl) (by simp) ?_
        refine AllReadyH.cons rfl (fun K hK => ?_) AllReadyH.nil
        go_simp
        (try go_wp2_with fail)
        refine hK.out _ _ hS0 (fun _ => ?_)
        clear hK K
        (try simp only [Act.put, List.setIfInBounds_toArray, List.set_cons_zero, List.set_cons_succ])
        refine wpAnyH_ready (rs := [9]) (by kernel_rfl) (by simp) ?_
        refine AllReadyH.cons rfl (fun K hK => ?_) AllReadyH.nil
        go_simp
        go_at_call 141
        refine (HI.out (v : Int)).mono ?_
        rintro e w1 ⟨r', hr', v', rfl, h1, h2, h3⟩
        have e2 := h2.undrew.carry (p := ⟨tb, 2, none⟩) H2.out.2 d2
        have eH := h2.undrew.carry (p := ⟨H, v, none⟩) H2.out.1 cHv
        have zH1 : w1.frozen? ⟨H, v, none⟩ = false := mg_free h2.undrew H2.out.1 eH0 zH
        obtain ⟨ad', cap', rfl, -⟩ := own_form h1
        have HQ := Lib.hid (And.intro hr' (And.intro h1 (And.intro h2.undrew h3)))
        clear hr' h1 h2 h3
        (try go_wp2_with fail)
        refine hK.out _ _ e2 (fun _ => ?_)
        clear hK K
        (try simp only [Act.put, List.setIfInBounds_toArray, List.set_cons_zero, List.set_cons_succ])
        refine wpAnyH_take (i := 10) (oi := ⟨some 48, _, _, _, _, _⟩) (v := .pointer (some ⟨H, v, none⟩)) rfl (by kernel_rfl) (by kernel_rfl) (by kernel_rfl) (fun _ _ _ h => h) (Or.inl ⟨by rfl, by intro w' hw'; (try dsimp only at hw'); go_simp⟩) e2 ?_
        simp only [Act.put, List.setIfInBounds_toArray, List.set_cons_zero, List.set_cons_succ]
        refine wpAnyH_ready (rs := [11]) (by kernel_rfl) (by simp) ?_
        refine AllReadyH.cons rfl (fun K hK => ?_) AllReadyH.nil
        go_simp
        (try go_wp2_with fail)
        refine hK.out _ _ (hset _ _ e2) (fun _ => ?_)
        clear hK K
        (try simp only [Act.put, List.setIfInBounds_toArray, List.set_cons_zero, List.set_cons_succ])
        refine wpAnyH_done (by kernel_rfl) ?_ _
        go_wp2_with fail
        go_roundg (L - (k + 1))
        case measure => omega
        case rel =>
          obtain ⟨q1, q2, q3, q4⟩ := HQ.out
          obtain ⟨t1, t2, t3, t4⟩ := HE.out
          obtain ⟨a1, a2, a3⟩ := MgQ.ins hvn t1 hlv hlo t2 t3 q1 q2 q3 q4
          refine ⟨k + 1, by omega, Nat.le_refl _, by go_num, ⟨_, rfl⟩, _, r', a1, ?_, a2, a3⟩
          rw [← t4 _ ez.out]; exact q1
      · have ez : Hid (h = if R ≤ h then (v : Int) else h) := by show _ = _; rw [if_neg hRh]
        have eR : decide (h ≥ R) = false := decide_eq_false hRh
        have eR2 : decide (R ≤ h) = false := decide_eq_false hRh
        go_upto_region 7 with (fail)
        refine wp_region_held_drew (S := (fun W => W.cell? ⟨tb, 2, none⟩ = some (.slice (some ⟨H, 0, none⟩) n n))) (by kernel_rfl) d2 (fun hS0 => ?_)
        refine wpAnyH_take (i := 0) (oi := ⟨some 38, _, _, _, _, _⟩) (v := .pointer (some ⟨tb, 2, none⟩)) rfl (by kernel_rfl) (by kernel_rfl) (by kernel_rfl) (fun _ _ _ h => h) (Or.inl ⟨by rfl, by intro w' hw'; (try dsimp only at hw'); go_simp⟩) hS0 ?_
        simp only [Act.put, List.setIfInBounds_toArray, List.set_cons_zero, List.set_cons_succ]
        refine wpAnyH_take (i := 1) (oi := ⟨some 39, _, _, _, _, _⟩) (v := .slice (some ⟨H, 0, none⟩) n n) rfl (by kernel_rfl) (by kernel_rfl) (by kernel_rfl) (fun _ _ _ h => h) (Or.inl ⟨by rfl, by intro w' hw'; (try dsimp only at hw'); go_simp⟩) hS0 ?_
        simp only [Act.put, List.setIfInBounds_toArray, List.set_cons_zero, List.set_cons_succ]
        refine wpAnyH_take (i := 2) (oi := ⟨some 40, _, _, _, _, _⟩) (v := .int .i64 (v : Int)) rfl (by kernel_rfl) (by kernel_rfl) (by kernel_rfl) (fun _ _ _ h => h) (Or.inl ⟨by rfl, by intro w' hw'; (try dsimp only at hw'); go_simp⟩) hS0 ?_
        simp only [Act.put, List.setIfInBounds_toArray, List.set_cons_zero, List.set_cons_succ]
        refine wpAnyH_take (i := 3) (oi := ⟨some 41, _, _, _, _, _⟩) (v := .pointer (some ⟨tb, 2, none⟩)) rfl (by kernel_rfl) (by kernel_rfl) (by kernel_rfl) (fun _ _ _ h => h) (Or.inl ⟨by rfl, by intro w' hw'; (try dsimp only at hw'); go_simp⟩) hS0 ?_
        simp only [Act.put, List.setIfInBounds_toArray, List.set_cons_zero, List.set_cons_succ]
        refine wpAnyH_take (i := 4) (oi := ⟨some 42, _, _, _, _, _⟩) (v := .slice (some ⟨H, 0, none⟩) n n) rfl (by kernel_rfl) (by kernel_rfl) (by kernel_rfl) (fun _ _ _ h => h) (Or.inl ⟨by rfl, by intro w' hw'; (try dsimp only at hw'); go_simp⟩) hS0 ?_
        simp only [Act.put, List.setIfInBounds_toArray, List.set_cons_zero, List.set_cons_succ]
        refine wpAnyH_take (i := 5) (oi := ⟨some 43, _, _, _, _, _⟩) (v := .int .i64 (v : Int)) rfl (by kernel_rfl) (by kernel_rfl) (by kernel_rfl) (fun _ _ _ h => h) (Or.inl ⟨by rfl, by intro w' hw'; (try dsimp only at hw'); go_simp⟩) hS0 ?_
        simp only [Act.put, List.setIfInBounds_toArray, List.set_cons_zero, List.set_cons_succ]
        refine wpAnyH_take (i := 6) (oi := ⟨some 44, _, _, _, _, _⟩) (v := .pointer (some ⟨H, v, none⟩)) rfl (by kernel_rfl) (by kernel_rfl) (by kernel_rfl) (fun _ _ _ h => h) (Or.inl ⟨by rfl, by intro w' hw'; (try dsimp only at hw'); go_simp⟩) hS0 ?_
        simp only [Act.put, List.setIfInBounds_toArray, List.set_cons_zero, List.set_cons_succ]
        refine wpAnyH_take (i := 8) (oi := ⟨some 46, _, _, _, _, _⟩) (v := .int .i64 h) rfl (by kernel_rfl) (by kernel_rfl) (by kernel_rfl) (fun _ _ _ h => h) (Or.inl ⟨by rfl, by intro w' hw'; (try dsimp only at hw'); go_simp⟩) hS0 ?_
        simp only [Act.put, List.setIfInBounds_toArray, List.set_cons_zero, List.set_cons_succ]
        refine wpAnyH_ready (rs := [7]) (by kernel_rfl) (by simp) ?_
        refine AllReadyH.cons rfl (fun K hK => ?_) AllReadyH.nil
        go_simp
        (try go_wp2_with fail)
        refine hK.out _ _ hS0 (fun _ => ?_)
        clear hK K
        (try simp only [Act.put, List.setIfInBounds_toArray, List.set_cons_zero, List.set_cons_succ])
        refine wpAnyH_ready (rs := [9]) (by kernel_rfl) (by simp) ?_
        refine AllReadyH.cons rfl (fun K hK => ?_) AllReadyH.nil
        go_simp
        go_at_call 141
        refine (HI.out h).mono ?_
        rintro e w1 ⟨r', hr', v', rfl, h1, h2, h3⟩
        have e2 := h2.undrew.carry (p := ⟨tb, 2, none⟩) H2.out.2 d2
        have eH := h2.undrew.carry (p := ⟨H, v, none⟩) H2.out.1 cHv
        have zH1 : w1.frozen? ⟨H, v, none⟩ = false := mg_free h2.undrew H2.out.1 eH0 zH
        obtain ⟨ad', cap', rfl, -⟩ := own_form h1
        have HQ := Lib.hid (And.intro hr' (And.intro h1 (And.intro h2.undrew h3)))
        clear hr' h1 h2 h3
        (try go_wp2_with fail)
        refine hK.out _ _ e2 (fun _ => ?_)
        clear hK K
        (try simp only [Act.put, List.setIfInBounds_toArray, List.set_cons_zero, List.set_cons_succ])
        refine wpAnyH_take (i := 10) (oi := ⟨some 48, _, _, _, _, _⟩) (v := .pointer (some ⟨H, v, none⟩)) rfl (by kernel_rfl) (by kernel_rfl) (by kernel_rfl) (fun _ _ _ h => h) (Or.inl ⟨by rfl, by intro w' hw'; (try dsimp only at hw'); go_simp⟩) e2 ?_
        simp only [Act.put, List.setIfInBounds_toArray, List.set_cons_zero, List.set_cons_succ]
        refine wpAnyH_ready (rs := [11]) (by kernel_rfl) (by simp) ?_
        refine AllReadyH.cons rfl (fun K hK => ?_) AllReadyH.nil
        go_simp
        (try go_wp2_with fail)
        refine hK.out _ _ (hset _ _ e2) (fun _ => ?_)
        clear hK K
        (try simp only [Act.put, List.setIfInBounds_toArray, List.set_cons_zero, List.set_cons_succ])
        refine wpAnyH_done (by kernel_rfl) ?_ _
        go_wp2_with fail
        go_roundg (L - (k + 1))
        case measure => omega
        case rel =>
          obtain ⟨q1, q2, q3, q4⟩ := HQ.out
          obtain ⟨t1, t2, t3, t4⟩ := HE.out
          obtain ⟨a1, a2, a3⟩ := MgQ.ins hvn t1 hlv hlo t2 t3 q1 q2 q3 q4
          refine ⟨k + 1, by omega, Nat.le_refl _, by go_num, ⟨_, rfl⟩, _, r', a1, ?_, a2, a3⟩
          rw [← t4 _ ez.out]; exact q1
    · have hkL : Hid (k = L) := by show _ = _; omega
      have k1 : decide ((k : Int) < (L : Int)) = false := decide_eq_false (by omega)
      go_wp2_with fail
      refine bodyPost_end (results_none rfl _ _ _) rfl ?_
      refine ⟨rfl, ?_⟩
      have := HR.out
      rw [hkL.out] at this
      exact this
theorem merge_any (w : World) (tb rb gb D H P n : Nat) (s R : Int) (x v : Nat) (dist : List Int) (hv pv : List Value) (hops pars : List (List Int)) (hn : n ≤ 128)
    (hbox : Box w tb s D H P n) (hrt : w.cell? ⟨rb, 0, none⟩ = some (.int .i64 s)) (hgr : w.cell? ⟨gb, 0, none⟩ = some (.int .i64 R)) (hT : TR w D H P n dist hv pv hops pars) (hx : x < n) (hvn : v < n) (hne : x ≠ v)
    (hnt : tb ∉ trB D H P hv pv) (hnr : rb ∉ trB D H P hv pv) (hng : gb ∉ trB D H P hv pv)
    (bx : ∀ y ∈ gL hops x, 0 ≤ y ∧ y < (n : Int)) (bv : ∀ y ∈ gL hops v, 0 ≤ y ∧ y < (n : Int)) (av : (gL hops v).Pairwise (· < ·)) (ax : (gL hops x).Pairwise (· < ·)) :
    Calls Try.prog 140 #[.int .i64 (x : Int), .int .i64 (v : Int), .pointer (some ⟨rb, 0, none⟩), .pointer (some ⟨tb, 0, none⟩), .pointer (some ⟨gb, 0, none⟩)] w fun e w' => e = .returned (.tuple #[]) ∧
      MgL w D H P n dist hv pv hops pars R s x v (gL hops x).length w' := by
  by_cases hs : (x : Int) = s
  · exact merge_root w tb rb gb D H P n s R x v dist hv pv hops pars hn hbox hrt hgr hT hx hvn hne hnt hnr hng bx bv av ax hs
  · exact merge_other w tb rb gb D H P n s R x v dist hv pv hops pars hn hbox hrt hgr hT hx hvn hne hnt hnr hng bx bv av ax hs
end Go.Proofs.Ytmbogobebllheaa
namespace Go.Proofs.Ytmbogobebllheaa
open Go.RowKit HM GM SP
set_option linter.unusedSimpArgs false
set_option linter.unusedVariables false
set_option maxHeartbeats 4000000
set_option maxRecDepth 100000

/-- a block that is none of those that are changed -/
def Fx (w : World) (Bk : List Nat) (c : Nat) (o : Obj) : Prop := w.heap[c]? = some o ∧ c ∉ Bk
theorem Fx.move {w w' : World} {Bk Bk' : List Nat} {c : Nat} {o : Obj} (h : Fx w Bk c o) (hk : Kp Bk w w') (hb : ∀ g ∈ Bk', g ∈ Bk ∨ w.heap.size ≤ g) : Fx w' Bk' c o :=
  ⟨(hk.block c (lt_block h.1) h.2).trans h.1, fun hm => (hb c hm).elim h.2 fun h1 => by have := lt_block h.1; omega⟩
def bkS (D H P : Nat) (hv pv : List Value) (gs : List Nat) : List Nat := trB D H P hv pv ++ gs
/-- the state of a search in memory -/
structure SS (w0 w : World) (cs : List (Nat × Obj)) (D H P qb n : Nat) (dist : List Int) (hv pv : List Value) (hops pars : List (List Int)) (ins : List Bool) (keys : List Int) (gs : List Nat) : Prop where
  tr : TR w D H P n dist hv pv hops pars
  hq : HeapR w qb n ins keys gs
  dj : ∀ g ∈ gs, g ∉ trB D H P hv pv
  lo : ∀ g ∈ bkS D H P hv pv gs, w0.heap.size ≤ g
  b : Below w0.heap.size w0 w
  fx : ∀ c ∈ cs, Fx w (bkS D H P hv pv gs) c.1 c.2
section
variable {w0 w w' : World} {cs : List (Nat × Obj)} {D H P qb n : Nat} {dist dist' : List Int} {hv pv hv' pv' : List Value} {hops pars hops' pars' : List (List Int)} {ins ins' : List Bool} {keys keys' : List Int} {gs gs' : List Nat}
theorem SS.lt (h : SS w0 w cs D H P qb n dist hv pv hops pars ins keys gs) : ∀ g ∈ bkS D H P hv pv gs, g < w.heap.size := fun g hg => by
  rcases List.mem_append.1 hg with h1 | h1
  · exact h.tr.lt g h1
  · exact h.hq.lt g h1
theorem SS.move (h : SS w0 w cs D H P qb n dist hv pv hops pars ins keys gs) (ht : TR w' D H P n dist' hv' pv' hops' pars') (hq : HeapR w' qb n ins' keys' gs') (dj : ∀ g ∈ gs', g ∉ trB D H P hv' pv') (hk : Kp (bkS D H P hv pv gs) w w')
    (hb : ∀ g ∈ bkS D H P hv' pv' gs', g ∈ bkS D H P hv pv gs ∨ w.heap.size ≤ g) : SS w0 w' cs D H P qb n dist' hv' pv' hops' pars' ins' keys' gs' :=
  ⟨ht, hq, dj, fun g hg => (hb g hg).elim (h.lo g) fun h1 => Nat.le_trans h.b.size h1, h.b.trans (hk.below h.b.size h.lo), fun c hc => (h.fx c hc).move hk hb⟩
theorem SS.grow (h : SS w0 w cs D H P qb n dist hv pv hops pars ins keys gs) (hb : Below w.heap.size w w') : SS w0 w' cs D H P qb n dist hv pv hops pars ins keys gs :=
  h.move (h.tr.below hb) (h.hq.below hb) h.dj (Kp.of_below hb) fun g hg => .inl hg
theorem SS.add (h : SS w0 w cs D H P qb n dist hv pv hops pars ins keys gs) {c : Nat} {o : Obj} (hc : Fx w (bkS D H P hv pv gs) c o) : SS w0 w ((c, o) :: cs) D H P qb n dist hv pv hops pars ins keys gs :=
  ⟨h.tr, h.hq, h.dj, h.lo, h.b, fun x hx => by
    rcases List.mem_cons.1 hx with rfl | hx
    · exact hc
    · exact h.fx x hx⟩
theorem SS.drop {x : Nat × Obj} (h : SS w0 w (x :: cs) D H P qb n dist hv pv hops pars ins keys gs) : SS w0 w cs D H P qb n dist hv pv hops pars ins keys gs :=
  ⟨h.tr, h.hq, h.dj, h.lo, h.b, fun c hc => h.fx c (by simp [hc])⟩
/-- a new block -/
theorem SS.alloc (h : SS w0 w cs D H P qb n dist hv pv hops pars ins keys gs) (o : Obj) : SS w0 (w.alloc o) ((w.heap.size, o) :: cs) D H P qb n dist hv pv hops pars ins keys gs :=
  (h.grow (below_alloc w o)).add ⟨heap_alloc_new w o, fun hm => by have := h.lt _ hm; omega⟩
/-- a call that changes the queue -/
theorem SS.put (h : SS w0 w cs D H P qb n dist hv pv hops pars ins keys gs) (hp : Put w qb n ins' keys' gs w') : ∃ gs', SS w0 w' cs D H P qb n dist hv pv hops pars ins' keys' gs' := by
  obtain ⟨gs', h1, h2, h3⟩ := hp
  have hdj : ∀ g ∈ gs', g ∉ trB D H P hv pv := fun g hg ht => by
    rcases h2 g hg with h4 | h4
    · exact h.dj g h4 ht
    · have := h.tr.lt g ht; omega
  refine ⟨gs', h.move (h.tr.kp h3 fun g hg hm => h.dj g hm hg) h1 hdj (h3.mono fun g hg => by simp [bkS, hg]) fun g hg => ?_⟩
  rcases List.mem_append.1 hg with h4 | h4
  · exact .inl (by simp [bkS, h4])
  · rcases h2 g h4 with h5 | h5
    · exact .inl (by simp [bkS, h5])
    · exact .inr h5
/-- another tree, beside the same queue -/
theorem SS.tree (h : SS w0 w cs D H P qb n dist hv pv hops pars ins keys gs) (ht : TR w' D H P n dist' hv' pv' hops' pars') (hk : Kp (trB D H P hv pv) w w') (hb : ∀ g ∈ trB D H P hv' pv', g ∈ trB D H P hv pv ∨ w.heap.size ≤ g) :
    SS w0 w' cs D H P qb n dist' hv' pv' hops' pars' ins keys gs := by
  refine h.move ht (h.hq.kp hk fun g hg hm => h.dj g hg hm) (fun g hg hm => ?_) (hk.mono fun g hg => by simp [bkS, hg]) fun g hg => ?_
  · rcases hb g hm with h1 | h1
    · exact h.dj g hg h1
    · have := h.hq.lt g hg; omega
  · rcases List.mem_append.1 hg with h4 | h4
    · rcases hb g h4 with h5 | h5
      · exact .inl (by simp [bkS, h5])
      · exact .inr h5
    · exact .inl (by simp [bkS, h4])
/-- the rows of a node begin anew -/
theorem SS.anew (h : SS w0 w cs D H P qb n dist hv pv hops pars ins keys gs) {v : Nat} (hvn : v < n) (d : Int) :
    SS w0 (((w.setCell ⟨D, v, none⟩ (.int .i64 d)).setCell ⟨H, v, none⟩ (.slice none 0 0)).setCell ⟨P, v, none⟩ (.slice none 0 0)) cs D H P qb n (dist.set v d) (hv.set v (.slice none 0 0)) (pv.set v (.slice none 0 0)) (hops.set v []) (pars.set v []) ins keys gs := by
  have h1 := h.tr.setD v d
  have h2 := h1.putH hvn (x := .slice none 0 0) (r := []) (Kp.refl _ _) (World.ownsRow_nil _ _ _ _) (fun g hg => by cases hg)
  have h2b := h1.putHB hvn (x := .slice none 0 0) (fun g hg => by cases hg)
  have h2k := h1.putHK hvn (x := .slice none 0 0) (Kp.refl _ _)
  have h3 := h2.putP hvn (x := .slice none 0 0) (r := []) (Kp.refl _ _) (World.ownsRow_nil _ _ _ _) (fun g hg => by cases hg)
  have h3b := h2.putPB hvn (x := .slice none 0 0) (fun g hg => by cases hg)
  have h3k := h2.putPK hvn (x := .slice none 0 0) (Kp.refl _ _)
  have hs1 : ((w.setCell ⟨D, v, none⟩ (.int .i64 d)).setCell ⟨H, v, none⟩ (.slice none 0 0)).heap.size = w.heap.size := by simp
  have hs0 : (w.setCell ⟨D, v, none⟩ (.int .i64 d)).heap.size = w.heap.size := by simp
  refine h.tree h3 ?_ fun g hg => ?_
  · have k0 : Kp (trB D H P hv pv) w (w.setCell ⟨D, v, none⟩ (.int .i64 d)) := (Kp.refl _ w).setCell (.inl (by simp [trB]))
    exact (k0.trans h2k fun g hg => .inl hg).trans h3k fun g hg => by rcases h2b g hg with h4 | h4; exact .inl h4; exact .inr (by rw [hs0] at h4; exact h4)
  · rcases h3b g hg with h4 | h4
    · rcases h2b g h4 with h5 | h5
      · exact .inl h5
      · exact .inr (by rw [hs0] at h5; exact h5)
    · exact .inr (by rw [hs1] at h4; exact h4)
/-- another row of parents -/
theorem SS.par (h : SS w0 w cs D H P qb n dist hv pv hops pars ins keys gs) {v : Nat} (hvn : v < n) {x : Value} {r : List Int} {w1 : World} (hk : Kp (vblk (gVl pv v)) w w1) (hr : w1.ownsRow 0 3 1 x r.length (ints r)) (hb : ∀ g, x.ownBlock = some g → (gVl pv v).ownBlock = some g ∨ w.heap.size ≤ g) :
    SS w0 (w1.setCell ⟨P, v, none⟩ x) cs D H P qb n dist hv (pv.set v x) hops (pars.set v r) ins keys gs :=
  h.tree (h.tr.putP hvn hk hr hb) (h.tr.putPK hvn hk) (h.tr.putPB hvn hb)
/-- behind the closure -/
theorem SS.hop (h : SS w0 w cs D H P qb n dist hv pv hops pars ins keys gs) {v : Nat} (hvn : v < n) {x : Value} {r : List Int} (ht : TR w' D H P n dist (hv.set v x) pv (hops.set v r) pars) (hb : ∀ g, x.ownBlock = some g → (gVl hv v).ownBlock = some g ∨ w.heap.size ≤ g) (hk : Kp (H :: vblk (gVl hv v)) w w') :
    SS w0 w' cs D H P qb n dist (hv.set v x) pv (hops.set v r) pars ins keys gs :=
  h.tree ht (hk.mono fun g hg => by
    rcases List.mem_cons.1 hg with h1 | h1
    · simp [trB, h1]
    · simp [trB, vblk_rblk (by rw [h.tr.lhv]; exact hvn) h1]) (h.tr.putHB hvn hb)
end
end Go.Proofs.Ytmbogobebllheaa
namespace Go.Proofs.Ytmbogobebllheaa
open HM GM SP Classical
set_option linter.unusedVariables false
set_option linter.unusedSimpArgs false

noncomputable def nS (S : Int → Prop) (v : Nat) : Bool := if S (v : Int) then false else true
theorem nS_iff {S : Int → Prop} {v : Nat} : nS S v = true ↔ ¬ S (v : Int) := by unfold nS; split <;> simp [*]
noncomputable def unS (n : Nat) (S : Int → Prop) : Nat := (List.range n).countP (nS S)
theorem unS_le (n : Nat) (S : Int → Prop) : unS n S ≤ n := by
  have := List.countP_le_length (p := nS S) (l := List.range n)
  rw [List.length_range] at this; exact this
theorem unS_add {n y : Nat} {S : Int → Prop} (hy : y < n) (hS : ¬ S (y : Int)) : unS n (fun v => S v ∨ v = (y : Int)) + 1 ≤ unS n S := by
  have key : ∀ l : List Nat, l.countP (nS (fun v => S v ∨ v = (y : Int))) ≤ l.countP (nS S) ∧ (y ∈ l → l.countP (nS (fun v => S v ∨ v = (y : Int))) + 1 ≤ l.countP (nS S)) := by
    intro l
    induction l with
    | nil => exact ⟨Nat.le_refl _, fun h => by cases h⟩
    | cons a l ih =>
      by_cases ha : a = y
      · subst ha
        rw [List.countP_cons_of_neg (by rw [nS_iff]; simp), List.countP_cons_of_pos (nS_iff.2 hS)]
        exact ⟨by omega, fun _ => by omega⟩
      · have hya : y ∈ a :: l → y ∈ l := fun h => (List.mem_cons.1 h).elim (fun e => absurd e.symm ha) id
        have hai : (a : Int) ≠ (y : Int) := by omega
        by_cases hSa : S (a : Int)
        · rw [List.countP_cons_of_neg (by rw [nS_iff]; simp [hSa]), List.countP_cons_of_neg (by rw [nS_iff]; simp [hSa])]
          exact ⟨ih.1, fun h => ih.2 (hya h)⟩
        · rw [List.countP_cons_of_pos (nS_iff.2 (by simp [hSa, hai])), List.countP_cons_of_pos (nS_iff.2 hSa)]
          exact ⟨by omega, fun h => by have := ih.2 (hya h); omega⟩
  exact (key (List.range n)).2 (List.mem_range.2 hy)
section
variable {R N : Int} {l : List E} {x n : Nat}
/-- between two nodes -/
def OutR (R N : Int) (l : List E) (x n g : Nat) (dist : List Int) (hops pars : List (List Int)) (ins : List Bool) (keys : List Int) : Prop :=
  (dist.length = n ∧ (∀ v, v < n → gI dist v ≤ 65535 * ((n : Int) + 1 - g)) ∧ g ≤ n + 1) ∧ ((dist = (List.replicate n (-1)).set x 0 ∧ hops = List.replicate n [] ∧ pars = List.replicate n [] ∧ ins = (List.replicate n false).set x true ∧ keys = (List.replicate n 0).set x 0 ∧ n + 1 ≤ g) ∨
  ∃ S X, Bt R N l (x : Int) n dist hops pars ins keys S X ∧ unS n S ≤ g)
/-- y is followed, k edges are done -/
def InR (R N : Int) (l : List E) (x n y k : Nat) (B : Int) (m : Nat) (dist : List Int) (hops pars : List (List Int)) (ins : List Bool) (keys : List Int) : Prop :=
  ∃ S X, At R N l (x : Int) n y k dist hops pars ins keys S X ∧ unS n S ≤ m ∧ (∀ v, v < n → gI dist v ≤ B) ∧ gI dist y ≤ B - 65535
theorem OutR.start (hx : x < n) : OutR R N l x n (n + 1) ((List.replicate n (-1)).set x 0) (List.replicate n []) (List.replicate n []) ((List.replicate n false).set x true) ((List.replicate n 0).set x 0) := by
  refine ⟨⟨by simp, fun v hv => ?_, Nat.le_refl _⟩, .inl ⟨rfl, rfl, rfl, rfl, rfl, Nat.le_refl _⟩⟩
  rw [gI_set (by simpa using hx)]
  split
  · omega
  · have : gI (List.replicate n (-1)) v = -1 := by unfold gI; simp [hv]
    omega
variable {dist : List Int} {hops pars : List (List Int)} {ins : List Bool} {keys : List Int} {g : Nat}
theorem OutR.pop (hv : Valid R N l) (hs : (x : Int) < R) (hn : (n : Int) = R + N) (h : OutR R N l x n g dist hops pars ins keys) {y : Nat} (hm : IsMin n ins keys y) :
    0 < g ∧ InR R N l x n y 0 (65535 * ((n : Int) + 1 - ((g - 1 : Nat) : Int))) (g - 1) dist hops pars (ins.set y false) keys := by
  have hN := hv.n
  have hxn : x < n := by omega
  obtain ⟨⟨hl, hb, hg⟩, h⟩ := h
  obtain ⟨m1, m2, m3⟩ := hm
  rcases h with ⟨rfl, rfl, rfl, rfl, rfl, h6⟩ | ⟨S, X, h1, h2⟩
  · have hyx : y = x := by
      rw [gB_set (by simpa using hxn)] at m2
      by_cases e : y = x
      · exact e
      · rw [if_neg e] at m2
        have : gB (List.replicate n false) y = false := by unfold gB; simp [m1]
        rw [this] at m2; cases m2
    subst hyx
    have e1 : ((List.replicate n false).set y true).set y false = List.replicate n false := by
      rw [List.set_set]
      apply List.ext_getElem?
      intro i
      rw [List.getElem?_set]
      by_cases e : y = i
      · subst e; simp [m1]
      · simp [e]
    have hr := At.root hv ⟨by omega, hs⟩ hn (x := y) rfl
    refine ⟨by omega, _, _, by rw [e1]; exact hr, ?_, fun v hvn => ?_, ?_⟩
    · exact Nat.le_trans (unS_le _ _) (by omega)
    · have := hb v hvn; omega
    · have := hb y m1; omega
  · have hp := Bt.pop hv ⟨by omega, hs⟩ hn h1 m1 m2 m3
    have hnS : ¬ S (y : Int) := ((h1.qu.i y m1).1 m2).1
    have hu := unS_add m1 hnS
    refine ⟨by omega, _, _, hp, by omega, fun v hvn => ?_, ?_⟩
    · have := hb v hvn; omega
    · have := hb y m1; omega
theorem OutR.tree (hv : Valid R N l) (hs : (x : Int) < R) (hn : (n : Int) = R + N) (h : OutR R N l x n g dist hops pars ins keys) (h0 : cntB ins = 0) : Tree R N l (x : Int) n dist hops pars := by
  have hN := hv.n
  have hxn : x < n := by omega
  rcases h.2 with ⟨rfl, rfl, rfl, rfl, rfl, h6⟩ | ⟨S, X, h1, h2⟩
  · have := cntB_zero h0 x
    rw [gB_set (by simpa using hxn), if_pos rfl] at this; cases this
  · exact Bt.end_ hv ⟨by omega, hs⟩ hn h1 fun v _ => cntB_zero h0 v
variable {y k m : Nat} {B : Int}
theorem InR.done (h : InR R N l x n y (outs l (y : Int)).length (65535 * ((n : Int) + 1 - ((g : Nat) : Int))) g dist hops pars ins keys) (hg : g ≤ n + 1) : OutR R N l x n g dist hops pars ins keys := by
  obtain ⟨S, X, h1, h2, h3, _⟩ := h
  exact ⟨⟨h1.sr.ld, h3, hg⟩, .inr ⟨S, X, h1.done, h2⟩⟩
/-- what an edge meets, for the walk -/
theorem InR.facts (hv : Valid R N l) (hs : (x : Int) < R) (hn : (n : Int) = R + N) (h : InR R N l x n y k B m dist hops pars ins keys) {e : E} (he : (outs l (y : Int))[k]? = some e) :
    ∃ v : Nat, ∃ c : Int, e = ((y : Int), (v : Int), c) ∧ v < n ∧ y ≠ v ∧ y < n ∧ 0 ≤ c ∧ c ≤ 65535 ∧ 0 ≤ gI dist y ∧ gI dist y ≤ B - 65535 ∧
      ((∀ z ∈ gL hops y, 0 ≤ z ∧ z < (n : Int)) ∧ (∀ z ∈ gL hops v, 0 ≤ z ∧ z < (n : Int)) ∧ (gL hops v).Pairwise (· < ·) ∧ (gL hops y).Pairwise (· < ·)) ∧ ((∀ z ∈ gL pars v, 0 ≤ z ∧ z < (n : Int)) ∧ (gL pars v).Pairwise (· < ·)) ∧ -1 ≤ gI dist v := by
  obtain ⟨S, X, h1, h2, h3, h4⟩ := h
  have hN := hv.n
  have hm := outs_get he
  obtain ⟨a, b, c⟩ := e
  have ha : a = (y : Int) := hm.2
  subst ha
  have hed := edge hv hm.1
  obtain ⟨v, rfl⟩ : ∃ v : Nat, b = v := ⟨b.toNat, by omega⟩
  obtain ⟨f1, f2, f3, f4, f5, f6, f7, f8⟩ := At.facts hv hn h1 he
  have hx0 : 0 ≤ (x : Int) ∧ (x : Int) < R := ⟨by omega, hs⟩
  refine ⟨v, c, rfl, f2, fun e => f3 e.symm, h1.xn, f4, f5, f7, h4, ⟨fun z hz => ?_, fun z hz => ?_, (h1.sr.hh v f2).1, h1.hx.1⟩, ⟨fun z hz => ?_, (h1.sr.hp v f2).1⟩, ?_⟩
  · have := Hop.node' hv hx0 ((h1.hx.2 z).1 hz); omega
  · have := HX.node hv hx0 h1.sr.inv (((h1.sr.hh v f2).2 z).1 hz); omega
  · have := PX.node hv h1.sr.inv (((h1.sr.hp v f2).2 z).1 hz); omega
  · by_cases e : (v : Int) = (x : Int)
    · have := h1.sr.inv.root.2
      rw [← e] at this
      have e2 : dO dist (v : Int) = gI dist v := dO_nat _ _
      omega
    · rcases h1.sr.inv.best (v : Int) (by omega) (by omega) e with ⟨h5, _⟩ | ⟨⟨z, h5, h6, h7⟩, _⟩
      · rw [dO_nat] at h5; omega
      · rw [dO_nat] at h7
        obtain ⟨h8, h9⟩ := h1.sr.inv.sub z h5
        have := (h1.sr.inv.set _ h9).2.2
        have := edge hv (u := z.1) (v := z.2.1) (c := z.2.2) h8
        omega
theorem InR.skip (hv : Valid R N l) (hn : (n : Int) = R + N) (h : InR R N l x n y k B m dist hops pars ins keys) {v : Nat} {c : Int} (he : (outs l (y : Int))[k]? = some ((y : Int), (v : Int), c)) (h0 : 0 ≤ gI dist v) (hlt : gI dist v < gI dist y + c) : InR R N l x n y (k + 1) B m dist hops pars ins keys := by
  obtain ⟨S, X, h1, h2, h3, h4⟩ := h
  exact ⟨S, _, At.skip hv hn h1 he h0 hlt, h2, h3, h4⟩
theorem InR.same (hv : Valid R N l) (hn : (n : Int) = R + N) (h : InR R N l x n y k B m dist hops pars ins keys) {v : Nat} {c : Int} (he : (outs l (y : Int))[k]? = some ((y : Int), (v : Int), c)) (hd : gI dist v = gI dist y + c) {rp rh : List Int}
    (hp : RowI (fun z => z ∈ gL pars v ∨ z = (y : Int)) rp) (hh : RowI (fun z => z ∈ gL hops v ∨ Con R (x : Int) y v z (fun k => k ∈ gL hops y)) rh) : InR R N l x n y (k + 1) B m dist (hops.set v rh) (pars.set v rp) ins keys := by
  obtain ⟨S, X, h1, h2, h3, h4⟩ := h
  exact ⟨S, _, At.same hv hn h1 he hd hp hh, h2, h3, h4⟩
theorem InR.less (hv : Valid R N l) (hs : (x : Int) < R) (hn : (n : Int) = R + N) (h : InR R N l x n y k B m dist hops pars ins keys) {v : Nat} {c : Int} (he : (outs l (y : Int))[k]? = some ((y : Int), (v : Int), c)) (hd : gI dist v < 0 ∨ gI dist y + c < gI dist v) {rp rh : List Int}
    (hp : RowI (fun z => z ∈ ([] : List Int) ∨ z = (y : Int)) rp) (hh : RowI (fun z => z ∈ ([] : List Int) ∨ Con R (x : Int) y v z (fun k => k ∈ gL hops y)) rh) :
    InR R N l x n y (k + 1) B m (dist.set v (gI dist y + c)) (hops.set v rh) (pars.set v rp) (ins.set v true) (keys.set v (tr R (v : Int) (gI dist y + c))) := by
  obtain ⟨S, X, h1, h2, h3, h4⟩ := h
  obtain ⟨f1, f2, f3, f4, f5, f6, f7, f8⟩ := At.facts hv hn h1 he
  have hvd : v < dist.length := by rw [h1.sr.ld]; exact f2
  refine ⟨S, _, At.less hv ⟨by omega, hs⟩ hn h1 he hd hp hh, h2, fun u hu => ?_, ?_⟩
  · rw [gI_set hvd]; split
    · omega
    · exact h3 u hu
  · rw [gI_set hvd, if_neg (Ne.symm f3)]; exact h4
theorem InR.less' (hv : Valid R N l) (hs : (x : Int) < R) (hn : (n : Int) = R + N) (h : InR R N l x n y k B m dist hops pars ins keys) {v : Nat} {c dy dv : Int} (he : (outs l (y : Int))[k]? = some ((y : Int), (v : Int), c)) (hdy : gI dist y = dy) (hdv : gI dist v = dv) (hd : dv < 0 ∨ dy + c < dv) {rp rh : List Int}
    (hp : RowI (fun z => z ∈ gL (pars.set v []) v ∨ z = (y : Int)) rp) (hh : RowI (fun z => z ∈ gL (hops.set v []) v ∨ Con R (x : Int) y v z (fun k => k ∈ gL (hops.set v []) y)) rh) :
    InR R N l x n y (k + 1) B m (dist.set v (dy + c)) ((hops.set v []).set v rh) ((pars.set v []).set v rp) (ins.set v true) (keys.set v (tr R (v : Int) (dy + c))) := by
  subst hdy hdv
  obtain ⟨S, X, h1, h2, h3, h4⟩ := h
  obtain ⟨f1, f2, f3, f4, f5, f6, f7, f8⟩ := At.facts hv hn h1 he
  have e1 : gL (pars.set v []) v = [] := by rw [gL_set (by rw [h1.sr.lp]; exact f2), if_pos rfl]
  have e2 : gL (hops.set v []) v = [] := by rw [gL_set (by rw [h1.sr.lh]; exact f2), if_pos rfl]
  have e3 : gL (hops.set v []) y = gL hops y := by rw [gL_set (by rw [h1.sr.lh]; exact f2), if_neg (fun e => f3 e.symm)]
  rw [e1] at hp
  rw [e2, e3] at hh
  rw [List.set_set, List.set_set]
  exact InR.less hv hs hn ⟨S, X, h1, h2, h3, h4⟩ he hd hp hh
end
end Go.Proofs.Ytmbogobebllheaa
namespace Go.Proofs.Ytmbogobebllheaa
open Go.RowKit HM GM SP
set_option linter.unusedSimpArgs false
set_option linter.unusedVariables false
set_option maxHeartbeats 4000000
set_option maxRecDepth 100000

def SeQ (R N : Int) (l : List E) (x n : Nat) (w : World) (e : Ending) (w' : World) : Prop := ∃ D H P dist hv pv hops pars, e = .returned (treeV (x : Int) D H P n) ∧ TR w' D H P n dist hv pv hops pars ∧ Tree R N l (x : Int) n dist hops pars ∧ (∀ g ∈ trB D H P hv pv, w.heap.size ≤ g) ∧ Below w.heap.size w w'
def ogr (R N : Int) (s : Value) : Obj := .cells #[.int .i64 R, .int .i64 N, s] 27
def oroot (x : Nat) : Obj := .cells #[.int .i64 (x : Int)] 3
def otree (x D H P n : Nat) : Obj := .cells #[.int .i64 (x : Int), .slice (some ⟨D, 0, none⟩) n n, .slice (some ⟨H, 0, none⟩) n n, .slice (some ⟨P, 0, none⟩) n n] 74
theorem trB_nil {D H P n m g : Nat} (h : g ∈ trB D H P (List.replicate n (.slice none 0 0)) (List.replicate m (.slice none 0 0))) : g = D ∨ g = H ∨ g = P := by
  have bN : ∀ n g, g ∉ rblk (List.replicate n (Value.slice none 0 0)) := fun n g hg => by
    obtain ⟨v, _, h2⟩ := mem_rblk.1 hg
    have e : gVl (List.replicate n (Value.slice none 0 0)) v = .slice none 0 0 := by unfold gVl; rw [List.getElem?_replicate]; split <;> rfl
    rw [e] at h2; cases h2
  simp only [trB, List.mem_cons, List.mem_append] at h
  rcases h with h | h | h | h | h
  · exact .inl h
  · exact .inr (.inl h)
  · exact .inr (.inr h)
  · exact absurd h (bN _ _)
  · exact absurd h (bN _ _)
/-- the blocks that no step changes: the graph's box, the root's, the result's, the tree's, the row of edges -/
def csS (R N : Int) (ad : Option Addr) (L cap x D H P n g0 tb EB : Nat) (cE : Array Value) : List (Nat × Obj) := [(g0, ogr R N (.slice ad L cap)), (g0 + 1, oroot x), (g0 + 1 + 1, box0), (tb, otree x D H P n), (EB, .cells cE 25)]
theorem search_any (R N : Int) (l : List E) (s : Value) (n x : Nat) (w : World) (hv : Valid R N l) (hr : Rd3 w s l) (hn : (n : Int) = R + N) (hx : (x : Int) < R) :
    Calls Try.prog 109 #[.agg #[.int .i64 R, .int .i64 N, s], .int .i64 (x : Int)] w (SeQ R N l x n w) := by
  obtain ⟨ad, cap, rfl⟩ : ∃ ad cap, s = .slice ad l.length cap := by obtain ⟨ad, cap, rfl, _⟩ := hr; exact ⟨ad, cap, rfl⟩
  obtain ⟨L, hL⟩ : ∃ L, l.length = L := ⟨_, rfl⟩
  rw [hL] at hr ⊢
  have hR := hv.r; have hN := hv.n; have hS := hv.s
  have hxn : x < n := by omega
  have HST : Hid (∀ W, Calls Try.prog 139 #[.agg #[.int .i64 R, .int .i64 N, .slice ad L cap], .int .i64 (x : Int)] W (StQ W (x : Int) x n)) := fun W => start_any R N _ x n W hR hN hS hn hxn
  have HLE : Hid (∀ W, Below w.heap.size w W → Calls Try.prog 142 #[.agg #[.int .i64 R, .int .i64 N, .slice ad L cap]] W (LeaQ n l w W)) := fun W hb => leaving_any R N l _ n w W hv hr (hr.below hb) hn
  have HNW : Hid (∀ W, Calls Try.prog 143 #[.int .i64 (n : Int)] W (NewP (n : Int) W)) := fun W => new_any _ W
  have HV := Lib.hid (And.intro hv (And.intro hn hx))
  have hnb : n ≤ 128 := by omega
  clear hr hv hL hn
  go_enter Try.func109, Try.ntmps109
  go_wp2_with fail
  have o1 : (((w.alloc (ogr R N (.slice ad L cap))).alloc (oroot x)).alloc box0).heap[w.heap.size]? = some (ogr R N (.slice ad L cap)) := heap_up (heap_up (heap_new1 _ _ rfl))
  have o2 : (((w.alloc (ogr R N (.slice ad L cap))).alloc (oroot x)).alloc box0).heap[w.heap.size + 1]? = some (oroot x) := heap_up (heap_new1 _ _ (by simp))
  have o3 : (((w.alloc (ogr R N (.slice ad L cap))).alloc (oroot x)).alloc box0).heap[w.heap.size + 1 + 1]? = some box0 := heap_new1 _ _ (by simp)
  have hbw := below_then (below_then (below_alloc w (ogr R N (.slice ad L cap))) (below_alloc _ (oroot x))) (below_alloc _ box0)
  have hs3 : (((w.alloc (ogr R N (.slice ad L cap))).alloc (oroot x)).alloc box0).heap.size = w.heap.size + 3 := by simp
  change Code.wp Try.prog _ _ _ (((w.alloc (ogr R N (.slice ad L cap))).alloc (oroot x)).alloc box0)
  generalize ((w.alloc (ogr R N (.slice ad L cap))).alloc (oroot x)).alloc box0 = W3 at *
  have c0 : W3.cell? ⟨w.heap.size, 0, none⟩ = some (.int .i64 R) := cell_of o1 rfl
  have c1 : W3.cell? ⟨w.heap.size, 1, none⟩ = some (.int .i64 N) := cell_of o1 rfl
  have c2 : W3.cell? ⟨w.heap.size, 2, none⟩ = some (.slice ad L cap) := cell_of o1 rfl
  have cr : W3.cell? ⟨w.heap.size + 1, 0, none⟩ = some (.int .i64 (x : Int)) := cell_of o2 rfl
  go_wp2_with fail
  go_step3
  go_wp2_with fail
  go_at_call 139
  refine (HST.out _).mono ?_
  rintro e w1 ⟨D, H, P, rfl, ⟨lD, lH, lP⟩, ht, hb1⟩
  have hsz : w.heap.size + 3 ≤ w1.heap.size := by have := hb1.size; omega
  have p1 := (hb1.block _ (lt_block o1)).trans o1
  have p2 := (hb1.block _ (lt_block o2)).trans o2
  have p3 := (hb1.block _ (lt_block o3)).trans o3
  have hbw1 := below_then hbw hb1
  have HT := Lib.hid (And.intro ht (And.intro lD (And.intro lH lP)))
  clear o1 o2 o3 hbw hb1 ht c0 c1 c2 cr lD lH lP
  have c0 : ∀ o, (w1.alloc o).cell? ⟨w.heap.size, 0, none⟩ = some (.int .i64 R) := fun o => carry (below_alloc _ _) (cell_of p1 rfl)
  have c1 : ∀ o, (w1.alloc o).cell? ⟨w.heap.size, 1, none⟩ = some (.int .i64 N) := fun o => carry (below_alloc _ _) (cell_of p1 rfl)
  have c2 : ∀ o, (w1.alloc o).cell? ⟨w.heap.size, 2, none⟩ = some (.slice ad L cap) := fun o => carry (below_alloc _ _) (cell_of p1 rfl)
  unfold treeV
  go_wp2_with fail
  go_at_call 142
  refine (HLE.out _ (below_then hbw1 (below_alloc _ _))).mono ?_
  rintro e w5 ⟨EB, vals, rfl, lEB, oEB, hE, hb5⟩
  simp only [World.alloc, Array.size_push] at lEB
  have hb15 : Below w1.heap.size w1 w5 := below_then (below_alloc _ _) hb5
  have q1 := (hb15.block _ (lt_block p1)).trans p1
  have q2 := (hb15.block _ (lt_block p2)).trans p2
  have q3 := (hb15.block _ (lt_block p3)).trans p3
  have q4 : w5.heap[w1.heap.size]? = some (otree x D H P n) := (hb5.block _ (by simp)).trans (heap_new1 _ _ rfl)
  have hbw5 := below_then hbw1 hb15
  have HT5 := Lib.hid (HT.out.1.below hb15)
  have hs15 := hb15.size
  obtain ⟨cE, oE⟩ : ∃ cE, w5.heap[EB]? = some (.cells cE 25 (0, 0)) := by
    rcases oEB.2 with ⟨h', _⟩ | ⟨g', cap', cur, h', _, hg', _⟩
    · cases h'
    · injection h' with e1; injection e1 with e1; injection e1 with e1; subst e1; exact ⟨cur, hg'⟩
  have HEB : Hid (∀ u, u < n → ∃ v, cE[u]? = some v ∧ Rd3 w v (outs l (u : Int))) := fun u hu => by
    obtain ⟨v, h1, h2⟩ := hE u hu
    refine ⟨v, ?_, h2⟩
    have := oEB.cellAt u (by omega)
    rw [h1] at this
    simpa [World.cell?, oE] using this
  have lE5 := lt_block oE
  have lt5 := lt_block q4
  clear oEB hE hb5 hb15 p1 p2 p3 hbw1 c0 c1 c2
  have d1 : w5.cell? ⟨w1.heap.size, 1, none⟩ = some (.slice (some ⟨D, 0, none⟩) n n) := cell_of q4 rfl
  go_wp2_with fail
  go_at_call 143
  refine (HNW.out _).mono ?_
  rintro e w6 ⟨qb, n', gs, rfl, hn', hq, lq, hb6⟩
  obtain rfl : n = n' := by omega
  have t1 := (hb6.block _ (lt_block q1)).trans q1
  have t2 := (hb6.block _ (lt_block q2)).trans q2
  have t3 := (hb6.block _ (lt_block q3)).trans q3
  have t4 := (hb6.block _ (lt_block q4)).trans q4
  have tE := (hb6.block _ (lt_block oE)).trans oE
  have hbw6 := below_then hbw5 hb6
  have HT6 := Lib.hid (HT5.out.below hb6)
  have hs56 := hb6.size
  have HQ := Lib.hid (And.intro hq lq)
  have dr : w6.cell? ⟨w.heap.size + 1, 0, none⟩ = some (.int .i64 (x : Int)) := cell_of t2 rfl
  clear q1 q2 q3 q4 oE hbw5 HT5 hb6 hq lq hn' d1
  go_wp2_with fail
  have HSS : Hid (SS w w6 (csS R N ad L cap x D H P n w.heap.size w1.heap.size EB cE) D H P qb n ((List.replicate n (-1)).set x 0) (List.replicate n (.slice none 0 0)) (List.replicate n (.slice none 0 0)) (List.replicate n []) (List.replicate n []) (List.replicate n false) (List.replicate n 0) gs) := by
    obtain ⟨hq, lq⟩ := HQ.out
    obtain ⟨_, lD, lH, lP⟩ := HT.out
    have l1 := HT.out.1.lt D (by simp [trB])
    have l2 := HT.out.1.lt H (by simp [trB])
    have l3 := HT.out.1.lt P (by simp [trB])
    have lE := lt_block tE
    have hmem : ∀ g, g ∈ bkS D H P (List.replicate n (.slice none 0 0)) (List.replicate n (.slice none 0 0)) gs → (g = D ∨ g = H ∨ g = P) ∨ w5.heap.size ≤ g := fun g hg => by
      rcases List.mem_append.1 hg with h | h
      · exact .inl (trB_nil h)
      · exact .inr (lq g h)
    refine ⟨HT6.out, hq, fun g hg ht => ?_, fun g hg => ?_, hbw6, fun c hc => ?_⟩
    · have := lq g hg
      rcases trB_nil ht with e | e | e <;> omega
    · rcases hmem g hg with (e | e | e) | e <;> omega
    · simp only [csS, List.mem_cons, List.mem_nil_iff, or_false] at hc
      rcases hc with rfl | rfl | rfl | rfl | rfl
      · exact ⟨t1, fun hm => by rcases hmem _ hm with (e | e | e) | e <;> omega⟩
      · exact ⟨t2, fun hm => by rcases hmem _ hm with (e | e | e) | e <;> omega⟩
      · exact ⟨t3, fun hm => by rcases hmem _ hm with (e | e | e) | e <;> omega⟩
      · exact ⟨t4, fun hm => by rcases hmem _ hm with (e | e | e) | e <;> omega⟩
      · exact ⟨tE, fun hm => by rcases hmem _ hm with (e | e | e) | e <;> omega⟩
  clear lE5 lt5 lEB t1 t2 t3 t4 tE hbw6 HT6 HT hs15 hs56 dr hsz hs3
  go_at_call 144
  refine (set_in w6 qb n _ _ gs HQ.out.1 x 0 hxn).mono ?_
  rintro e w7 ⟨rfl, hp⟩
  obtain ⟨gs7, h7⟩ := HSS.out.put hp
  have HS7 := Lib.hid h7
  clear HSS hp h7 HQ
  go_wp2_with fail
  go_step3
  go_wp2_with fail
  have HOUT : Hid (OutR R N l x n (n + 1) ((List.replicate n (-1)).set x 0) (List.replicate n []) (List.replicate n []) ((List.replicate n false).set x true) ((List.replicate n 0).set x 0)) := OutR.start hxn
  go_loopg [9] (n + 1) (fun g s9 wr => (∃ u, u = s9) ∧ ∃ dist hv pv hops pars ins keys gs, Hid (SS w wr (csS R N ad L cap x D H P n w.heap.size w1.heap.size EB cE) D H P qb n dist hv pv hops pars ins keys gs) ∧ Hid (OutR R N l x n g dist hops pars ins keys))
  case atStart => exact ⟨⟨_, rfl⟩, _, _, _, _, _, _, _, _, HS7, HOUT⟩
  case round =>
    clear HS7 HOUT
    obtain ⟨⟨u9, rfl⟩, dist, hv, pv, hops, pars, ins, keys, gs, HS, HO⟩ := hrel
    by_cases h0 : cntB ins = 0
    · have HM := Lib.hid (pop_none wr qb n ins keys gs HS.out.hq h0)
      have HTR := Lib.hid (OutR.tree HV.out.1 HV.out.2.2 HV.out.2.1 HO.out h0)
      have fT := (HS.out.fx (w1.heap.size, otree x D H P n) (by simp [csS])).1
      have fO := HS.out.fx (w.heap.size + 1 + 1, box0) (by simp [csS])
      have t0 : wr.cell? ⟨w1.heap.size, 0, none⟩ = some (.int .i64 (x : Int)) := cell_of fT rfl
      have t1 : wr.cell? ⟨w1.heap.size, 1, none⟩ = some (.slice (some ⟨D, 0, none⟩) n n) := cell_of fT rfl
      have t2 : wr.cell? ⟨w1.heap.size, 2, none⟩ = some (.slice (some ⟨H, 0, none⟩) n n) := cell_of fT rfl
      have t3 : wr.cell? ⟨w1.heap.size, 3, none⟩ = some (.slice (some ⟨P, 0, none⟩) n n) := cell_of fT rfl
      have r0 : wr.cell? ⟨w.heap.size + 1 + 1, 0, none⟩ = some (.int .i64 0) := cell_of fO.1 rfl
      have r1 : wr.cell? ⟨w.heap.size + 1 + 1, 1, none⟩ = some (.slice none 0 0) := cell_of fO.1 rfl
      have r2 : wr.cell? ⟨w.heap.size + 1 + 1, 2, none⟩ = some (.slice none 0 0) := cell_of fO.1 rfl
      have r3 : wr.cell? ⟨w.heap.size + 1 + 1, 3, none⟩ = some (.slice none 0 0) := cell_of fO.1 rfl
      have rz := free_of fO.1
      have HFO := Lib.hid fO
      clear h0 HO fT fO
      go_wp2_with fail
      go_at_call 145
      refine HM.out.mono ?_
      rintro e w8 ⟨rfl, h8⟩
      subst h8
      go_wp2_with fail
      have HF : Hid (TR ((((wr.setCell ⟨w.heap.size + 1 + 1, 0, none⟩ (.int .i64 (x : Int))).setCell ⟨w.heap.size + 1 + 1, 1, none⟩ (.slice (some ⟨D, 0, none⟩) n n)).setCell ⟨w.heap.size + 1 + 1, 2, none⟩ (.slice (some ⟨H, 0, none⟩) n n)).setCell ⟨w.heap.size + 1 + 1, 3, none⟩ (.slice (some ⟨P, 0, none⟩) n n)) D H P n dist hv pv hops pars ∧ Below w.heap.size w ((((wr.setCell ⟨w.heap.size + 1 + 1, 0, none⟩ (.int .i64 (x : Int))).setCell ⟨w.heap.size + 1 + 1, 1, none⟩ (.slice (some ⟨D, 0, none⟩) n n)).setCell ⟨w.heap.size + 1 + 1, 2, none⟩ (.slice (some ⟨H, 0, none⟩) n n)).setCell ⟨w.heap.size + 1 + 1, 3, none⟩ (.slice (some ⟨P, 0, none⟩) n n)) ∧ ((((wr.setCell ⟨w.heap.size + 1 + 1, 0, none⟩ (.int .i64 (x : Int))).setCell ⟨w.heap.size + 1 + 1, 1, none⟩ (.slice (some ⟨D, 0, none⟩) n n)).setCell ⟨w.heap.size + 1 + 1, 2, none⟩ (.slice (some ⟨H, 0, none⟩) n n)).setCell ⟨w.heap.size + 1 + 1, 3, none⟩ (.slice (some ⟨P, 0, none⟩) n n)).heap[w.heap.size + 1 + 1]? = some (otree x D H P n)) := by
        have nl : w.heap.size ≤ w.heap.size + 1 + 1 := by omega
        refine ⟨HS.out.tr.congr fun g hg => ?_, (((HS.out.b.setCell nl _).setCell nl _).setCell nl _).setCell nl _, ?_⟩
        · have hg1 : g ≠ w.heap.size + 1 + 1 := fun e => HFO.out.2 (by rw [← e]; simp [bkS, hg])
          rw [heap_set_ne hg1, heap_set_ne hg1, heap_set_ne hg1, heap_set_ne hg1]
        · rw [heap_set_eq (heap_set_eq (heap_set_eq (heap_set_eq HFO.out.1)))]
          rfl
      have HLO : Hid (∀ g ∈ trB D H P hv pv, w.heap.size ≤ g) := fun g hg => HS.out.lo g (by simp [bkS, hg])
      clear t0 t1 t2 t3 r0 r1 r2 r3 rz HFO HS HM
      generalize (((wr.setCell ⟨w.heap.size + 1 + 1, 0, none⟩ (.int .i64 (x : Int))).setCell ⟨w.heap.size + 1 + 1, 1, none⟩ (.slice (some ⟨D, 0, none⟩) n n)).setCell ⟨w.heap.size + 1 + 1, 2, none⟩ (.slice (some ⟨H, 0, none⟩) n n)).setCell ⟨w.heap.size + 1 + 1, 3, none⟩ (.slice (some ⟨P, 0, none⟩) n n) = Wf at *
      have q0 : Wf.cell? ⟨w.heap.size + 1 + 1, 0, none⟩ = some (.int .i64 (x : Int)) := cell_of HF.out.2.2 rfl
      have q1 : Wf.cell? ⟨w.heap.size + 1 + 1, 1, none⟩ = some (.slice (some ⟨D, 0, none⟩) n n) := cell_of HF.out.2.2 rfl
      have q2 : Wf.cell? ⟨w.heap.size + 1 + 1, 2, none⟩ = some (.slice (some ⟨H, 0, none⟩) n n) := cell_of HF.out.2.2 rfl
      have q3 : Wf.cell? ⟨w.heap.size + 1 + 1, 3, none⟩ = some (.slice (some ⟨P, 0, none⟩) n n) := cell_of HF.out.2.2 rfl
      (try rw [Exit.noGoto_ret])
      exact bodyPost_ret (v := treeV (x : Int) D H P n) (by simp [treeV, results, Try.results109, go_sem, q0, q1, q2, q3]) rfl ⟨D, H, P, dist, hv, pv, hops, pars, rfl, HF.out.1, HTR.out, HLO.out, HF.out.2.1⟩
    · have HM := Lib.hid (pop_some wr qb n ins keys gs HS.out.hq h0)
      clear h0
      go_wp2_with fail
      go_at_call 145
      refine HM.out.mono ?_
      rintro e w8 ⟨y, rfl, hmin, hput⟩
      obtain ⟨gs8, h8⟩ := HS.out.put hput
      obtain ⟨hg0, hin⟩ := OutR.pop HV.out.1 HV.out.2.2 HV.out.2.1 HO.out hmin
      have hyn : y < n := hmin.1
      have hGn : gk ≤ n + 1 := HO.out.1.2.2
      obtain ⟨v40, hcE, hRd⟩ := HEB.out y hyn
      have cE8 : w8.cell? ⟨EB, y, none⟩ = some v40 := cell_of (h8.fx (EB, .cells cE 25) (by simp [csS])).1 hcE
      obtain ⟨ad40, cap40, rfl, hc1, hc2, hce⟩ := hRd
      have HS8 := Lib.hid h8
      have HIN := Lib.hid hin
      have HCE := Lib.hid (And.intro hc1 (And.intro hc2 hce))
      obtain ⟨K, hK⟩ : ∃ K, (outs l (y : Int)).length = K := ⟨_, rfl⟩
      rw [hK] at cE8
      have HK := Lib.hid hK
      have y0 : (0 : Int) ≤ (y : Int) := by omega
      have y1 : (y : Int) < (n : Int) := by omega
      have hK10 : K ≤ 1024 := by rw [← hK]; exact Nat.le_trans (outs_len _ _) HV.out.1.len
      generalize gI keys y = ky
      clear HS HO HM hmin hput h8 hin hcE hc1 hc2 hce hK
      obtain ⟨G, hG⟩ : ∃ G, G = gk := ⟨_, rfl⟩
      rw [← hG] at hg0 HIN hGn
      have HG := Lib.hid hG
      clear hG
      go_wp2_with fail
      go_loopg [42] K (fun g s42 wq => ∃ k : Nat, k ≤ K ∧ K - k ≤ g ∧ s42 = .int .i64 (k : Int) ∧ ∃ dist hv pv hops pars ins keys gs, Hid (SS w wq (csS R N ad L cap x D H P n w.heap.size w1.heap.size EB cE) D H P qb n dist hv pv hops pars ins keys gs) ∧ Hid (InR R N l x n y k (65535 * ((n : Int) + 1 - ((G - 1 : Nat) : Int))) (G - 1) dist hops pars ins keys))
      case atStart => exact ⟨0, by omega, by omega, rfl, _, _, _, _, _, _, _, _, HS8, HIN⟩
      case round =>
        clear HS8 HIN cE8
        obtain ⟨k, hk, hkg, rfl, dist, hv, pv, hops, pars, ins, keys, gs, HS, HI⟩ := hrel
        by_cases hlt : k < K
        · obtain ⟨e, he⟩ : ∃ e, (outs l (y : Int))[k]? = some e := ⟨_, List.getElem?_eq_getElem (by have := HK.out; omega)⟩
          obtain ⟨b, off, rfl, hb, c0, c1, c2⟩ := HCE.out.2.2 k e he
          obtain ⟨v, c, rfl, hvn, hyv, _, hcc0, hcc1, hd0, hd1, hrows, hprow, hv1⟩ := InR.facts HV.out.1 HV.out.2.2 HV.out.2.1 HI.out he
          have d0 := carryB HS.out.b hb c0
          have d1 := carryB HS.out.b hb c1
          have d2 := carryB HS.out.b hb c2
          dsimp only at d0 d1 d2
          have HRO := Lib.hid (And.intro hrows hprow)
          have HE := Lib.hid he
          have k1 : (k : Int) < (K : Int) := by omega
          have v0 : (0 : Int) ≤ (v : Int) := by omega
          have v1 : (v : Int) < (n : Int) := by omega
          have hd2 : gI dist y ≤ 65535 * 130 := by omega
          clear c0 c1 c2 he hrows hprow
          go_upto_region 11 with (fail)
          have HSA := Lib.hid (HS.out.alloc (.cells #[.int .i64 (y : Int), .int .i64 (v : Int), .int .i64 c] 72))
          generalize hWa : wr.alloc (.cells #[.int .i64 (y : Int), .int .i64 (v : Int), .int .i64 c] 72) = Wa at *
          generalize wr.heap.size = eb at *
          have fE := (HSA.out.fx (eb, .cells #[.int .i64 (y : Int), .int .i64 (v : Int), .int .i64 c] 72) (by simp)).1
          have fT := (HSA.out.fx (w1.heap.size, otree x D H P n) (by simp [csS])).1
          have e1 : Wa.cell? ⟨eb, 1, none⟩ = some (.int .i64 (v : Int)) := cell_of fE rfl
          have e2 : Wa.cell? ⟨eb, 2, none⟩ = some (.int .i64 c) := cell_of fE rfl
          have t1 : Wa.cell? ⟨w1.heap.size, 1, none⟩ = some (.slice (some ⟨D, 0, none⟩) n n) := cell_of fT rfl
          have cDy := HSA.out.tr.cd hyn
          have cDv := HSA.out.tr.cd hvn
          clear fE fT d0 d1 d2 hWa HS
          generalize hdy : gI dist y = dy at *
          generalize hdv : gI dist v = dv at *
          have HD := Lib.hid (And.intro hdy hdv)
          clear hdy hdv
          go_quiet (fail)
          have HSB := Lib.hid (HSA.out.grow (below_drewN (Below.refl _ Wa) nq))
          clear HSA e1 e2 t1 cDy cDv
          generalize Wa.drewN nq = Wb at *
          by_cases a1 : 0 ≤ dv
          · by_cases a2 : dv < dy + c
            · have HN : Hid (InR R N l x n y (k + 1) (65535 * ((n : Int) + 1 - ((G - 1 : Nat) : Int))) (G - 1) dist hops pars ins keys) := InR.skip HV.out.1 HV.out.2.1 HI.out HE.out (by rw [HD.out.2]; exact a1) (by rw [HD.out.1, HD.out.2]; exact a2)
              go_wp2_with fail
              go_roundg (K - (k + 1))
              case measure => omega
              case rel => exact ⟨k + 1, by omega, Nat.le_refl _, by go_num, _, _, _, _, _, _, _, _, Lib.hid HSB.out.drop, HN⟩
            · by_cases a3 : dv = dy + c
              · have b3 : (dv != dy + c) = false := by simpa using a3
                have HA3 := Lib.hid a3.symm
                have HT := HSB
                clear a3 HSB
                have fE := HT.out.fx (eb, Obj.cells #[.int .i64 (y : Int), .int .i64 (v : Int), .int .i64 c] 72) (by simp)
                have fT := HT.out.fx (w1.heap.size, otree x D H P n) (by simp [csS])
                have e1 : Wb.cell? ⟨eb, 1, none⟩ = some (.int .i64 (v : Int)) := cell_of fE.1 rfl
                have t3 : Wb.cell? ⟨w1.heap.size, 3, none⟩ = some (.slice (some ⟨P, 0, none⟩) n n) := cell_of fT.1 rfl
                have cPv := HT.out.tr.cp hvn
                have zP := HT.out.tr.fp v
                have hrow : Wb.drew.ownsRow 0 3 1 (gVl pv v) (gL pars v).length (ints (gL pars v)) := row_congr (HT.out.tr.pp.row v (by rw [HT.out.tr.lp]; exact hvn)) fun _ _ => rfl
                have hpp : (gL pars v).Pairwise (· < ·) ∧ (gL pars v).length ≤ n := ⟨HRO.out.2.2, asc_len HRO.out.2.2 HRO.out.2.1⟩
                have HI16 := Lib.hid (insert_any Wb.drew (gVl pv v) (gL pars v) (y : Int) hrow hpp.1 (by omega))
                have hvp : v < (pv : List Value).length := by rw [HT.out.tr.lpv]; exact hvn
                have hPx : P ∉ vblk (gVl pv v) := fun hm => (HT.out.tr.xp P (vblk_rblk hvp hm)).2.2 rfl
                have hTx : w1.heap.size ∉ vblk (gVl pv v) := fun hm => fT.2 (by simp [bkS, trB, vblk_rblk hvp hm])
                have hEx : eb ∉ vblk (gVl pv v) := fun hm => fE.2 (by simp [bkS, trB, vblk_rblk hvp hm])
                have hPT : P ≠ w1.heap.size := fun e => fT.2 (by simp [bkS, trB, ← e])
                have hPE : P ≠ eb := fun e => fE.2 (by simp [bkS, trB, ← e])
                have H16 := Lib.hid (And.intro hPx (And.intro hTx hEx))
                have hset : ∀ (W : World) (u : Value), (W.cell? ⟨w1.heap.size, 3, none⟩ = some (.slice (some ⟨P, 0, none⟩) n n) ∧ W.cell? ⟨eb, 1, none⟩ = some (.int .i64 (v : Int))) → ((W.setCell ⟨P, v, none⟩ u).cell? ⟨w1.heap.size, 3, none⟩ = some (.slice (some ⟨P, 0, none⟩) n n) ∧ (W.setCell ⟨P, v, none⟩ u).cell? ⟨eb, 1, none⟩ = some (.int .i64 (v : Int))) := fun W u h => ⟨by rw [World.cell?_setCell_far _ _ _ _ hPT]; exact h.1, by rw [World.cell?_setCell_far _ _ _ _ hPE]; exact h.2⟩
                have cPv0 := cPv
                clear hrow hpp hPx hTx hEx hPT hPE fE fT
                go_upto_region 16 with (fail)
                refine wp_region_held_drew (S := (fun W => W.cell? ⟨w1.heap.size, 3, none⟩ = some (.slice (some ⟨P, 0, none⟩) n n) ∧ W.cell? ⟨eb, 1, none⟩ = some (.int .i64 (v : Int)))) (by kernel_rfl) ⟨t3, e1⟩ (fun hS0 => ?_)
                refine wpAnyH_take (i := 0) (oi := ⟨some 95, _, _, _, _, _⟩) (v := .pointer (some ⟨w1.heap.size, 3, none⟩)) rfl (by kernel_rfl) (by kernel_rfl) (by kernel_rfl) (fun _ _ _ h => h) (Or.inl ⟨by rfl, by intro w' hw'; obtain ⟨q0, q1⟩ := hw'; go_simp⟩) hS0 ?_
                simp only [Act.put, List.setIfInBounds_toArray, List.set_cons_zero, List.set_cons_succ]
                refine wpAnyH_take (i := 1) (oi := ⟨some 96, _, _, _, _, _⟩) (v := .slice (some ⟨P, 0, none⟩) n n) rfl (by kernel_rfl) (by kernel_rfl) (by kernel_rfl) (fun _ _ _ h => h) (Or.inl ⟨by rfl, by intro w' hw'; obtain ⟨q0, q1⟩ := hw'; go_simp⟩) hS0 ?_
                simp only [Act.put, List.setIfInBounds_toArray, List.set_cons_zero, List.set_cons_succ]
                refine wpAnyH_take (i := 2) (oi := ⟨some 97, _, _, _, _, _⟩) (v := .pointer (some ⟨eb, 1, none⟩)) rfl (by kernel_rfl) (by kernel_rfl) (by kernel_rfl) (fun _ _ _ h => h) (Or.inl ⟨by rfl, by intro w' hw'; obtain ⟨q0, q1⟩ := hw'; go_simp⟩) hS0 ?_
                simp only [Act.put, List.setIfInBounds_toArray, List.set_cons_zero, List.set_cons_succ]
                refine wpAnyH_take (i := 3) (oi := ⟨some 98, _, _, _, _, _⟩) (v := .int .i64 (v : Int)) rfl (by kernel_rfl) (by kernel_rfl) (by kernel_rfl) (fun _ _ _ h => h) (Or.inl ⟨by rfl, by intro w' hw'; obtain ⟨q0, q1⟩ := hw'; go_simp⟩) hS0 ?_
                simp only [Act.put, List.setIfInBounds_toArray, List.set_cons_zero, List.set_cons_succ]
                refine wpAnyH_take (i := 4) (oi := ⟨some 99, _, _, _, _, _⟩) (v := .pointer (some ⟨w1.heap.size, 3, none⟩)) rfl (by kernel_rfl) (by kernel_rfl) (by kernel_rfl) (fun _ _ _ h => h) (Or.inl ⟨by rfl, by intro w' hw'; obtain ⟨q0, q1⟩ := hw'; go_simp⟩) hS0 ?_
                simp only [Act.put, List.setIfInBounds_toArray, List.set_cons_zero, List.set_cons_succ]
                refine wpAnyH_take (i := 5) (oi := ⟨some 100, _, _, _, _, _⟩) (v := .slice (some ⟨P, 0, none⟩) n n) rfl (by kernel_rfl) (by kernel_rfl) (by kernel_rfl) (fun _ _ _ h => h) (Or.inl ⟨by rfl, by intro w' hw'; obtain ⟨q0, q1⟩ := hw'; go_simp⟩) hS0 ?_
                simp only [Act.put, List.setIfInBounds_toArray, List.set_cons_zero, List.set_cons_succ]
                refine wpAnyH_take (i := 6) (oi := ⟨some 101, _, _, _, _, _⟩) (v := .pointer (some ⟨eb, 1, none⟩)) rfl (by kernel_rfl) (by kernel_rfl) (by kernel_rfl) (fun _ _ _ h => h) (Or.inl ⟨by rfl, by intro w' hw'; obtain ⟨q0, q1⟩ := hw'; go_simp⟩) hS0 ?_
                simp only [Act.put, List.setIfInBounds_toArray, List.set_cons_zero, List.set_cons_succ]
                refine wpAnyH_take (i := 7) (oi := ⟨some 102, _, _, _, _, _⟩) (v := .int .i64 (v : Int)) rfl (by kernel_rfl) (by kernel_rfl) (by kernel_rfl) (fun _ _ _ h => h) (Or.inl ⟨by rfl, by intro w' hw'; obtain ⟨q0, q1⟩ := hw'; go_simp⟩) hS0 ?_
                simp only [Act.put, List.setIfInBounds_toArray, List.set_cons_zero, List.set_cons_succ]
                refine wpAnyH_take (i := 8) (oi := ⟨some 103, _, _, _, _, _⟩) (v := .pointer (some ⟨P, v, none⟩)) rfl (by kernel_rfl) (by kernel_rfl) (by kernel_rfl) (fun _ _ _ h => h) (Or.inl ⟨by rfl, by intro w' hw'; obtain ⟨q0, q1⟩ := hw'; go_simp⟩) hS0 ?_
                simp only [Act.put, List.setIfInBounds_toArray, List.set_cons_zero, List.set_cons_succ]
                refine wpAnyH_take (i := 10) (oi := ⟨some 105, _, _, _, _, _⟩) (v := .int .i64 (y : Int)) rfl (by kernel_rfl) (by kernel_rfl) (by kernel_rfl) (fun _ _ _ h => h) (Or.inl ⟨by rfl, by intro w' hw'; obtain ⟨q0, q1⟩ := hw'; go_simp⟩) hS0 ?_
                simp only [Act.put, List.setIfInBounds_toArray, List.set_cons_zero, List.set_cons_succ]
                refine wpAnyH_ready (rs := [9]) (by kernel_rfl) (by simp) ?_
                refine AllReadyH.cons rfl (fun K hK => ?_) AllReadyH.nil
                go_simp
                (try go_wp2_with fail)
                refine hK.out _ _ hS0 (fun _ => ?_)
                clear hK K
                (try simp only [Act.put, List.setIfInBounds_toArray, List.set_cons_zero, List.set_cons_succ])
                refine wpAnyH_ready (rs := [11]) (by kernel_rfl) (by simp) ?_
                refine AllReadyH.cons rfl (fun K hK => ?_) AllReadyH.nil
                go_simp
                go_at_call 141
                refine HI16.out.mono ?_
                rintro e wi ⟨r', hr', v', rfl, h1, h2, h3⟩
                have g1 := h2.undrew.carry (p := ⟨w1.heap.size, 3, none⟩) H16.out.2.1 t3
                have g2 := h2.undrew.carry (p := ⟨eb, 1, none⟩) H16.out.2.2 e1
                have gS := And.intro g1 g2
                have eP := h2.undrew.carry (p := ⟨P, v, none⟩) H16.out.1 cPv
                have zP1 : wi.frozen? ⟨P, v, none⟩ = false := mg_free h2.undrew H16.out.1 cPv0 zP
                obtain ⟨ad', cap', rfl, -⟩ := own_form h1
                have HQ := Lib.hid (And.intro hr' (And.intro h1 (And.intro h2.undrew h3)))
                clear hr' h1 h2 h3 g1 g2
                (try go_wp2_with fail)
                refine hK.out _ _ gS (fun _ => ?_)
                clear hK K
                (try simp only [Act.put, List.setIfInBounds_toArray, List.set_cons_zero, List.set_cons_succ])
                refine wpAnyH_take (i := 12) (oi := ⟨some 107, _, _, _, _, _⟩) (v := .pointer (some ⟨P, v, none⟩)) rfl (by kernel_rfl) (by kernel_rfl) (by kernel_rfl) (fun _ _ _ h => h) (Or.inl ⟨by rfl, by intro w' hw'; obtain ⟨q0, q1⟩ := hw'; go_simp⟩) gS ?_
                simp only [Act.put, List.setIfInBounds_toArray, List.set_cons_zero, List.set_cons_succ]
                refine wpAnyH_ready (rs := [13]) (by kernel_rfl) (by simp) ?_
                refine AllReadyH.cons rfl (fun K hK => ?_) AllReadyH.nil
                go_simp
                (try go_wp2_with fail)
                refine hK.out _ _ (hset _ _ gS) (fun _ => ?_)
                clear hK K
                (try simp only [Act.put, List.setIfInBounds_toArray, List.set_cons_zero, List.set_cons_succ])
                refine wpAnyH_done (by kernel_rfl) ?_ _
                have HT2 : Hid (SS w (wi.setCell ⟨P, v, none⟩ (.slice ad' r'.length cap')) ((eb, Obj.cells #[.int .i64 (y : Int), .int .i64 (v : Int), .int .i64 c] 72) :: (csS R N ad L cap x D H P n w.heap.size w1.heap.size EB cE)) D H P qb n dist hv (pv.set v (.slice ad' r'.length cap')) hops (pars.set v r') ins keys gs) := by
                  obtain ⟨_, q2, q3, q4⟩ := HQ.out
                  exact HT.out.par hvn q3 q2 q4
                have HR16 := Lib.hid HQ.out.1
                clear HT HI16 H16 HQ eP zP1 zP cPv cPv0 gS e1 t3 hset hvp
                generalize wi.setCell ⟨P, v, none⟩ (.slice ad' r'.length cap') = W2 at *
                generalize Value.slice ad' r'.length cap' = pnew at *
                have fE := HT2.out.fx (eb, Obj.cells #[.int .i64 (y : Int), .int .i64 (v : Int), .int .i64 c] 72) (by simp)
                have fG := HT2.out.fx (w.heap.size, ogr R N (.slice ad L cap)) (by simp [csS])
                have fR := HT2.out.fx (w.heap.size + 1, oroot x) (by simp [csS])
                have fT := HT2.out.fx (w1.heap.size, otree x D H P n) (by simp [csS])
                have e1 : W2.cell? ⟨eb, 1, none⟩ = some (.int .i64 (v : Int)) := cell_of fE.1 rfl
                have HMG := Lib.hid (merge_any W2 w1.heap.size (w.heap.size + 1) w.heap.size D H P n (x : Int) R y v _ _ _ _ _ hnb fT.1 (cell_of fR.1 rfl) (cell_of fG.1 rfl) HT2.out.tr hyn hvn hyv (fun hm => fT.2 (List.mem_append.2 (.inl hm))) (fun hm => fR.2 (List.mem_append.2 (.inl hm))) (fun hm => fG.2 (List.mem_append.2 (.inl hm))) HRO.out.1.1 HRO.out.1.2.1 HRO.out.1.2.2.1 HRO.out.1.2.2.2)
                clear fE fG fR fT
                go_wp2_with fail
                go_at_call 140
                refine HMG.out.mono ?_
                rintro e w3 ⟨rfl, xv, rh, ht3, hr3, hb3, hk3⟩
                have HT3 := Lib.hid ((HT2.out.hop hvn ht3 hb3 hk3).drop)
                have HR3 := Lib.hid (hr3.congr fun z => MgK.end_ z)
                clear HT2 HMG ht3 hr3 hb3 hk3 e1
                go_wp2_with fail
                go_roundg (K - (k + 1))
                case measure => omega
                case rel =>
                  refine ⟨k + 1, hlt, Nat.le_refl _, val_i (by omega), _, _, _, _, _, _, _, _, HT3, ?_⟩
                  exact InR.same HV.out.1 HV.out.2.1 HI.out HE.out (by rw [HD.out.1, HD.out.2]; exact HA3.out.symm) HR16.out HR3.out
              · have b3 : (dv != dy + c) = true := by simpa using a3
                have a4 : dv < 0 ∨ dy + c < dv := .inr (by omega)
                clear a3
                go_upto_region 14 with (fail)
                have fE := HSB.out.fx (eb, Obj.cells #[.int .i64 (y : Int), .int .i64 (v : Int), .int .i64 c] 72) (by simp)
                have fT := HSB.out.fx (w1.heap.size, otree x D H P n) (by simp [csS])
                have e1 : Wb.cell? ⟨eb, 1, none⟩ = some (.int .i64 (v : Int)) := cell_of fE.1 rfl
                have t1 : Wb.cell? ⟨w1.heap.size, 1, none⟩ = some (.slice (some ⟨D, 0, none⟩) n n) := cell_of fT.1 rfl
                have t2 : Wb.cell? ⟨w1.heap.size, 2, none⟩ = some (.slice (some ⟨H, 0, none⟩) n n) := cell_of fT.1 rfl
                have t3 : Wb.cell? ⟨w1.heap.size, 3, none⟩ = some (.slice (some ⟨P, 0, none⟩) n n) := cell_of fT.1 rfl
                have cDv := HSB.out.tr.cd hvn
                have cHv := HSB.out.tr.ch hvn
                have cPv := HSB.out.tr.cp hvn
                have zD := HSB.out.tr.fd v
                have zH := HSB.out.tr.fh v
                have zP := HSB.out.tr.fp v
                have nDH := HSB.out.tr.dh
                have nDP := HSB.out.tr.dp
                have nHP := HSB.out.tr.hp
                have nDT : D ≠ w1.heap.size := fun e => fT.2 (by simp [bkS, trB, ← e])
                have nHT : H ≠ w1.heap.size := fun e => fT.2 (by simp [bkS, trB, ← e])
                have nPT : P ≠ w1.heap.size := fun e => fT.2 (by simp [bkS, trB, ← e])
                have nDE : D ≠ eb := fun e => fE.2 (by simp [bkS, trB, ← e])
                have nHE : H ≠ eb := fun e => fE.2 (by simp [bkS, trB, ← e])
                have nPE : P ≠ eb := fun e => fE.2 (by simp [bkS, trB, ← e])
                clear fE fT
                generalize gVl hv v = hvv at cHv
                generalize gVl pv v = pvv at cPv
                generalize gI dist v = dvv at cDv
                have cHv1 : ∀ u, (Wb.setCell ⟨D, v, none⟩ u).cell? ⟨H, v, none⟩ = some hvv := fun u => by rw [World.cell?_setCell_far _ _ _ _ nDH]; exact cHv
                have cPv1 : ∀ u u', ((Wb.setCell ⟨D, v, none⟩ u).setCell ⟨H, v, none⟩ u').cell? ⟨P, v, none⟩ = some pvv := fun u u' => by rw [World.cell?_setCell_far _ _ _ _ nHP, World.cell?_setCell_far _ _ _ _ nDP]; exact cPv
                have zH1 : ∀ u, (Wb.setCell ⟨D, v, none⟩ u).frozen? ⟨H, v, none⟩ = false := fun u => by rw [World.frozen?_setCell]; exact zH
                have zP1 : ∀ u u', ((Wb.setCell ⟨D, v, none⟩ u).setCell ⟨H, v, none⟩ u').frozen? ⟨P, v, none⟩ = false := fun u u' => by rw [World.frozen?_setCell, World.frozen?_setCell]; exact zP
                have hset : ∀ (W : World) (g : Nat) (u : Value), g ≠ w1.heap.size → g ≠ eb → (W.cell? ⟨w1.heap.size, 1, none⟩ = some (.slice (some ⟨D, 0, none⟩) n n) ∧ W.cell? ⟨w1.heap.size, 2, none⟩ = some (.slice (some ⟨H, 0, none⟩) n n) ∧ W.cell? ⟨w1.heap.size, 3, none⟩ = some (.slice (some ⟨P, 0, none⟩) n n) ∧ W.cell? ⟨eb, 1, none⟩ = some (.int .i64 (v : Int))) →
                    ((W.setCell ⟨g, v, none⟩ u).cell? ⟨w1.heap.size, 1, none⟩ = some (.slice (some ⟨D, 0, none⟩) n n) ∧ (W.setCell ⟨g, v, none⟩ u).cell? ⟨w1.heap.size, 2, none⟩ = some (.slice (some ⟨H, 0, none⟩) n n) ∧ (W.setCell ⟨g, v, none⟩ u).cell? ⟨w1.heap.size, 3, none⟩ = some (.slice (some ⟨P, 0, none⟩) n n) ∧ (W.setCell ⟨g, v, none⟩ u).cell? ⟨eb, 1, none⟩ = some (.int .i64 (v : Int))) :=
                  fun W g u n1 n2 h => ⟨by rw [World.cell?_setCell_far _ _ _ _ n1]; exact h.1, by rw [World.cell?_setCell_far _ _ _ _ n1]; exact h.2.1, by rw [World.cell?_setCell_far _ _ _ _ n1]; exact h.2.2.1, by rw [World.cell?_setCell_far _ _ _ _ n2]; exact h.2.2.2⟩
                have gS := And.intro t1 (And.intro t2 (And.intro t3 e1))
                refine wp_region_held_drew (S := (fun W => W.cell? ⟨w1.heap.size, 1, none⟩ = some (.slice (some ⟨D, 0, none⟩) n n) ∧ W.cell? ⟨w1.heap.size, 2, none⟩ = some (.slice (some ⟨H, 0, none⟩) n n) ∧ W.cell? ⟨w1.heap.size, 3, none⟩ = some (.slice (some ⟨P, 0, none⟩) n n) ∧ W.cell? ⟨eb, 1, none⟩ = some (.int .i64 (v : Int)))) (by kernel_rfl) gS (fun hS0 => ?_)
                refine wpAnyH_take (i := 0) (oi := ⟨some 70, _, _, _, _, _⟩) (v := .pointer (some ⟨w1.heap.size, 1, none⟩)) rfl (by kernel_rfl) (by kernel_rfl) (by kernel_rfl) (fun _ _ _ h => h) (Or.inl ⟨by rfl, by intro w' hw'; obtain ⟨q0, q1, q2, q3⟩ := hw'; go_simp⟩) hS0 ?_
                simp only [Act.put, List.setIfInBounds_toArray, List.set_cons_zero, List.set_cons_succ]
                refine wpAnyH_take (i := 1) (oi := ⟨some 71, _, _, _, _, _⟩) (v := .slice (some ⟨D, 0, none⟩) n n) rfl (by kernel_rfl) (by kernel_rfl) (by kernel_rfl) (fun _ _ _ h => h) (Or.inl ⟨by rfl, by intro w' hw'; obtain ⟨q0, q1, q2, q3⟩ := hw'; go_simp⟩) hS0 ?_
                simp only [Act.put, List.setIfInBounds_toArray, List.set_cons_zero, List.set_cons_succ]
                refine wpAnyH_take (i := 2) (oi := ⟨some 72, _, _, _, _, _⟩) (v := .pointer (some ⟨eb, 1, none⟩)) rfl (by kernel_rfl) (by kernel_rfl) (by kernel_rfl) (fun _ _ _ h => h) (Or.inl ⟨by rfl, by intro w' hw'; obtain ⟨q0, q1, q2, q3⟩ := hw'; go_simp⟩) hS0 ?_
                simp only [Act.put, List.setIfInBounds_toArray, List.set_cons_zero, List.set_cons_succ]
                refine wpAnyH_take (i := 3) (oi := ⟨some 73, _, _, _, _, _⟩) (v := .int .i64 (v : Int)) rfl (by kernel_rfl) (by kernel_rfl) (by kernel_rfl) (fun _ _ _ h => h) (Or.inl ⟨by rfl, by intro w' hw'; obtain ⟨q0, q1, q2, q3⟩ := hw'; go_simp⟩) hS0 ?_
                simp only [Act.put, List.setIfInBounds_toArray, List.set_cons_zero, List.set_cons_succ]
                refine wpAnyH_take (i := 4) (oi := ⟨some 74, _, _, _, _, _⟩) (v := .pointer (some ⟨w1.heap.size, 2, none⟩)) rfl (by kernel_rfl) (by kernel_rfl) (by kernel_rfl) (fun _ _ _ h => h) (Or.inl ⟨by rfl, by intro w' hw'; obtain ⟨q0, q1, q2, q3⟩ := hw'; go_simp⟩) hS0 ?_
                simp only [Act.put, List.setIfInBounds_toArray, List.set_cons_zero, List.set_cons_succ]
                refine wpAnyH_take (i := 5) (oi := ⟨some 75, _, _, _, _, _⟩) (v := .slice (some ⟨H, 0, none⟩) n n) rfl (by kernel_rfl) (by kernel_rfl) (by kernel_rfl) (fun _ _ _ h => h) (Or.inl ⟨by rfl, by intro w' hw'; obtain ⟨q0, q1, q2, q3⟩ := hw'; go_simp⟩) hS0 ?_
                simp only [Act.put, List.setIfInBounds_toArray, List.set_cons_zero, List.set_cons_succ]
                refine wpAnyH_take (i := 6) (oi := ⟨some 76, _, _, _, _, _⟩) (v := .pointer (some ⟨eb, 1, none⟩)) rfl (by kernel_rfl) (by kernel_rfl) (by kernel_rfl) (fun _ _ _ h => h) (Or.inl ⟨by rfl, by intro w' hw'; obtain ⟨q0, q1, q2, q3⟩ := hw'; go_simp⟩) hS0 ?_
                simp only [Act.put, List.setIfInBounds_toArray, List.set_cons_zero, List.set_cons_succ]
                refine wpAnyH_take (i := 7) (oi := ⟨some 77, _, _, _, _, _⟩) (v := .int .i64 (v : Int)) rfl (by kernel_rfl) (by kernel_rfl) (by kernel_rfl) (fun _ _ _ h => h) (Or.inl ⟨by rfl, by intro w' hw'; obtain ⟨q0, q1, q2, q3⟩ := hw'; go_simp⟩) hS0 ?_
                simp only [Act.put, List.setIfInBounds_toArray, List.set_cons_zero, List.set_cons_succ]
                refine wpAnyH_take (i := 8) (oi := ⟨some 78, _, _, _, _, _⟩) (v := .pointer (some ⟨w1.heap.size, 3, none⟩)) rfl (by kernel_rfl) (by kernel_rfl) (by kernel_rfl) (fun _ _ _ h => h) (Or.inl ⟨by rfl, by intro w' hw'; obtain ⟨q0, q1, q2, q3⟩ := hw'; go_simp⟩) hS0 ?_
                simp only [Act.put, List.setIfInBounds_toArray, List.set_cons_zero, List.set_cons_succ]
                refine wpAnyH_take (i := 9) (oi := ⟨some 79, _, _, _, _, _⟩) (v := .slice (some ⟨P, 0, none⟩) n n) rfl (by kernel_rfl) (by kernel_rfl) (by kernel_rfl) (fun _ _ _ h => h) (Or.inl ⟨by rfl, by intro w' hw'; obtain ⟨q0, q1, q2, q3⟩ := hw'; go_simp⟩) hS0 ?_
                simp only [Act.put, List.setIfInBounds_toArray, List.set_cons_zero, List.set_cons_succ]
                refine wpAnyH_take (i := 10) (oi := ⟨some 80, _, _, _, _, _⟩) (v := .pointer (some ⟨eb, 1, none⟩)) rfl (by kernel_rfl) (by kernel_rfl) (by kernel_rfl) (fun _ _ _ h => h) (Or.inl ⟨by rfl, by intro w' hw'; obtain ⟨q0, q1, q2, q3⟩ := hw'; go_simp⟩) hS0 ?_
                simp only [Act.put, List.setIfInBounds_toArray, List.set_cons_zero, List.set_cons_succ]
                refine wpAnyH_take (i := 11) (oi := ⟨some 81, _, _, _, _, _⟩) (v := .int .i64 (v : Int)) rfl (by kernel_rfl) (by kernel_rfl) (by kernel_rfl) (fun _ _ _ h => h) (Or.inl ⟨by rfl, by intro w' hw'; obtain ⟨q0, q1, q2, q3⟩ := hw'; go_simp⟩) hS0 ?_
                simp only [Act.put, List.setIfInBounds_toArray, List.set_cons_zero, List.set_cons_succ]
                refine wpAnyH_take (i := 12) (oi := ⟨some 82, _, _, _, _, _⟩) (v := .int .i64 (dy + c)) rfl (by kernel_rfl) (by kernel_rfl) (by kernel_rfl) (fun _ _ _ h => h) (Or.inl ⟨by rfl, by intro w' hw'; obtain ⟨q0, q1, q2, q3⟩ := hw'; go_simp⟩) hS0 ?_
                simp only [Act.put, List.setIfInBounds_toArray, List.set_cons_zero, List.set_cons_succ]
                refine wpAnyH_take (i := 13) (oi := ⟨some 83, _, _, _, _, _⟩) (v := .pointer (some ⟨D, v, none⟩)) rfl (by kernel_rfl) (by kernel_rfl) (by kernel_rfl) (fun _ _ _ h => h) (Or.inl ⟨by rfl, by intro w' hw'; obtain ⟨q0, q1, q2, q3⟩ := hw'; go_simp⟩) hS0 ?_
                simp only [Act.put, List.setIfInBounds_toArray, List.set_cons_zero, List.set_cons_succ]
                refine wpAnyH_ready (rs := [14]) (by kernel_rfl) (by simp) ?_
                refine AllReadyH.cons rfl (fun K hK => ?_) AllReadyH.nil
                go_simp
                (try go_wp2_with fail)
                refine hK.out _ _ (hset _ D _ nDT nDE gS) (fun _ => ?_)
                clear hK K
                (try simp only [Act.put, List.setIfInBounds_toArray, List.set_cons_zero, List.set_cons_succ])
                refine wpAnyH_take (i := 15) (oi := ⟨some 84, _, _, _, _, _⟩) (v := .pointer (some ⟨H, v, none⟩)) rfl (by kernel_rfl) (by kernel_rfl) (by kernel_rfl) (fun _ _ _ h => h) (Or.inl ⟨by rfl, by intro w' hw'; obtain ⟨q0, q1, q2, q3⟩ := hw'; go_simp⟩) (hset _ D _ nDT nDE gS) ?_
                simp only [Act.put, List.setIfInBounds_toArray, List.set_cons_zero, List.set_cons_succ]
                refine wpAnyH_ready (rs := [16]) (by kernel_rfl) (by simp) ?_
                refine AllReadyH.cons rfl (fun K hK => ?_) AllReadyH.nil
                go_simp
                (try go_wp2_with fail)
                refine hK.out _ _ (hset _ H _ nHT nHE (hset _ D _ nDT nDE gS)) (fun _ => ?_)
                clear hK K
                (try simp only [Act.put, List.setIfInBounds_toArray, List.set_cons_zero, List.set_cons_succ])
                refine wpAnyH_take (i := 17) (oi := ⟨some 85, _, _, _, _, _⟩) (v := .pointer (some ⟨P, v, none⟩)) rfl (by kernel_rfl) (by kernel_rfl) (by kernel_rfl) (fun _ _ _ h => h) (Or.inl ⟨by rfl, by intro w' hw'; obtain ⟨q0, q1, q2, q3⟩ := hw'; go_simp⟩) (hset _ H _ nHT nHE (hset _ D _ nDT nDE gS)) ?_
                simp only [Act.put, List.setIfInBounds_toArray, List.set_cons_zero, List.set_cons_succ]
                refine wpAnyH_ready (rs := [18]) (by kernel_rfl) (by simp) ?_
                refine AllReadyH.cons rfl (fun K hK => ?_) AllReadyH.nil
                go_simp
                (try go_wp2_with fail)
                refine hK.out _ _ (hset _ P _ nPT nPE (hset _ H _ nHT nHE (hset _ D _ nDT nDE gS))) (fun _ => ?_)
                clear hK K
                (try simp only [Act.put, List.setIfInBounds_toArray, List.set_cons_zero, List.set_cons_succ])
                refine wpAnyH_done (by kernel_rfl) ?_ _
                have HT0 : Hid (SS w ((((Wb.setCell ⟨D, v, none⟩ (.int .i64 (dy + c))).setCell ⟨H, v, none⟩ (.slice none 0 0)).setCell ⟨P, v, none⟩ (.slice none 0 0)).drew) ((eb, Obj.cells #[.int .i64 (y : Int), .int .i64 (v : Int), .int .i64 c] 72) :: (csS R N ad L cap x D H P n w.heap.size w1.heap.size EB cE)) D H P qb n (dist.set v (dy + c)) (hv.set v (.slice none 0 0)) (pv.set v (.slice none 0 0)) (hops.set v []) (pars.set v []) ins keys gs) :=
                  (HSB.out.anew hvn (dy + c)).grow (Below.refl _ _).drew
                clear HSB cDv cHv cPv zD zH zP nDH nDP nHP nDT nHT nPT nDE nHE nPE e1 t1 t2 t3 cHv1 cPv1 zH1 zP1 hset gS
                generalize ((((Wb.setCell ⟨D, v, none⟩ (.int .i64 (dy + c))).setCell ⟨H, v, none⟩ (.slice none 0 0)).setCell ⟨P, v, none⟩ (.slice none 0 0)).drew) = W0 at *
                have fE := HT0.out.fx (eb, Obj.cells #[.int .i64 (y : Int), .int .i64 (v : Int), .int .i64 c] 72) (by simp)
                have fG := HT0.out.fx (w.heap.size, ogr R N (.slice ad L cap)) (by simp [csS])
                have e1 : W0.cell? ⟨eb, 1, none⟩ = some (.int .i64 (v : Int)) := cell_of fE.1 rfl
                have g0 : W0.cell? ⟨w.heap.size, 0, none⟩ = some (.int .i64 R) := cell_of fG.1 rfl
                have g1 : W0.cell? ⟨w.heap.size, 1, none⟩ = some (.int .i64 N) := cell_of fG.1 rfl
                have g2 : W0.cell? ⟨w.heap.size, 2, none⟩ = some (.slice ad L cap) := cell_of fG.1 rfl
                have HTU : Hid (∀ W, Calls Try.prog 146 #[.agg #[.int .i64 R, .int .i64 N, .slice ad L cap], .int .i64 (v : Int), .int .i64 (dy + c)] W fun e w' => e = .returned (.int .i64 (tr R (v : Int) (dy + c))) ∧ Below W.heap.size W w') := fun W => turn_any R N _ (v : Int) (dy + c) W ⟨hR, by omega⟩ ⟨by omega, by omega⟩
                clear fE fG
                go_upto_region 15 with (fail)
                refine wp_region_held_drew (S := (fun W => W.cell? ⟨eb, 1, none⟩ = some (.int .i64 (v : Int)) ∧ W.cell? ⟨w.heap.size, 0, none⟩ = some (.int .i64 R) ∧ W.cell? ⟨w.heap.size, 1, none⟩ = some (.int .i64 N) ∧ W.cell? ⟨w.heap.size, 2, none⟩ = some (.slice ad L cap))) (by kernel_rfl) ⟨e1, g0, g1, g2⟩ (fun hS0 => ?_)
                refine wpAnyH_take (i := 0) (oi := ⟨some 86, _, _, _, _, _⟩) (v := .pointer (some ⟨qb, 0, none⟩)) rfl (by kernel_rfl) (by kernel_rfl) (by kernel_rfl) (fun _ _ _ h => h) (Or.inl ⟨by rfl, by intro w' hw'; obtain ⟨q0, q1, q2, q3⟩ := hw'; go_simp⟩) hS0 ?_
                simp only [Act.put, List.setIfInBounds_toArray, List.set_cons_zero, List.set_cons_succ]
                refine wpAnyH_take (i := 1) (oi := ⟨some 87, _, _, _, _, _⟩) (v := .pointer (some ⟨eb, 1, none⟩)) rfl (by kernel_rfl) (by kernel_rfl) (by kernel_rfl) (fun _ _ _ h => h) (Or.inl ⟨by rfl, by intro w' hw'; obtain ⟨q0, q1, q2, q3⟩ := hw'; go_simp⟩) hS0 ?_
                simp only [Act.put, List.setIfInBounds_toArray, List.set_cons_zero, List.set_cons_succ]
                refine wpAnyH_take (i := 2) (oi := ⟨some 88, _, _, _, _, _⟩) (v := .int .i64 (v : Int)) rfl (by kernel_rfl) (by kernel_rfl) (by kernel_rfl) (fun _ _ _ h => h) (Or.inl ⟨by rfl, by intro w' hw'; obtain ⟨q0, q1, q2, q3⟩ := hw'; go_simp⟩) hS0 ?_
                simp only [Act.put, List.setIfInBounds_toArray, List.set_cons_zero, List.set_cons_succ]
                refine wpAnyH_take (i := 3) (oi := ⟨some 89, _, _, _, _, _⟩) (v := .agg #[.int .i64 R, .int .i64 N, .slice ad L cap]) rfl (by kernel_rfl) (by kernel_rfl) (by kernel_rfl) (fun _ _ _ h => h) (Or.inl ⟨by rfl, by intro w' hw'; obtain ⟨q0, q1, q2, q3⟩ := hw'; go_simp⟩) hS0 ?_
                simp only [Act.put, List.setIfInBounds_toArray, List.set_cons_zero, List.set_cons_succ]
                refine wpAnyH_take (i := 4) (oi := ⟨some 90, _, _, _, _, _⟩) (v := .pointer (some ⟨eb, 1, none⟩)) rfl (by kernel_rfl) (by kernel_rfl) (by kernel_rfl) (fun _ _ _ h => h) (Or.inl ⟨by rfl, by intro w' hw'; obtain ⟨q0, q1, q2, q3⟩ := hw'; go_simp⟩) hS0 ?_
                simp only [Act.put, List.setIfInBounds_toArray, List.set_cons_zero, List.set_cons_succ]
                refine wpAnyH_take (i := 5) (oi := ⟨some 91, _, _, _, _, _⟩) (v := .int .i64 (v : Int)) rfl (by kernel_rfl) (by kernel_rfl) (by kernel_rfl) (fun _ _ _ h => h) (Or.inl ⟨by rfl, by intro w' hw'; obtain ⟨q0, q1, q2, q3⟩ := hw'; go_simp⟩) hS0 ?_
                simp only [Act.put, List.setIfInBounds_toArray, List.set_cons_zero, List.set_cons_succ]
                refine wpAnyH_take (i := 6) (oi := ⟨some 92, _, _, _, _, _⟩) (v := .int .i64 (dy + c)) rfl (by kernel_rfl) (by kernel_rfl) (by kernel_rfl) (fun _ _ _ h => h) (Or.inl ⟨by rfl, by intro w' hw'; obtain ⟨q0, q1, q2, q3⟩ := hw'; go_simp⟩) hS0 ?_
                simp only [Act.put, List.setIfInBounds_toArray, List.set_cons_zero, List.set_cons_succ]
                refine wpAnyH_ready (rs := [7]) (by kernel_rfl) (by simp) ?_
                refine AllReadyH.cons rfl (fun K hK => ?_) AllReadyH.nil
                go_simp
                go_at_call 146
                refine (HTU.out _).mono ?_
                rintro e wt ⟨rfl, hbt⟩
                have hbt' : Below W0.heap.size W0 wt := ⟨hbt.os, hbt.tape, hbt.output, hbt.size, hbt.block⟩
                have HST15 := Lib.hid (HT0.out.grow hbt')
                have gS1 := And.intro (carry hbt' e1) (And.intro (carry hbt' g0) (And.intro (carry hbt' g1) (carry hbt' g2)))
                clear hbt hbt'
                (try go_wp2_with fail)
                refine hK.out _ _ gS1 (fun _ => ?_)
                clear hK K
                (try simp only [Act.put, List.setIfInBounds_toArray, List.set_cons_zero, List.set_cons_succ])
                refine wpAnyH_ready (rs := [8]) (by kernel_rfl) (by simp) ?_
                refine AllReadyH.cons rfl (fun K hK => ?_) AllReadyH.nil
                go_simp
                go_at_call 144
                refine (set_in wt qb n _ _ _ HST15.out.hq v (tr R (v : Int) (dy + c)) hvn).mono ?_
                rintro e ws ⟨rfl, hput⟩
                obtain ⟨gs2, h15⟩ := HST15.out.put hput
                have gS2 : (fun W => W.cell? ⟨eb, 1, none⟩ = some (.int .i64 (v : Int)) ∧ W.cell? ⟨w.heap.size, 0, none⟩ = some (.int .i64 R) ∧ W.cell? ⟨w.heap.size, 1, none⟩ = some (.int .i64 N) ∧ W.cell? ⟨w.heap.size, 2, none⟩ = some (.slice ad L cap)) ws := ⟨cell_of (h15.fx (eb, Obj.cells #[.int .i64 (y : Int), .int .i64 (v : Int), .int .i64 c] 72) (by simp)).1 rfl, cell_of (h15.fx (w.heap.size, ogr R N (.slice ad L cap)) (by simp [csS])).1 rfl, cell_of (h15.fx (w.heap.size, ogr R N (.slice ad L cap)) (by simp [csS])).1 rfl, cell_of (h15.fx (w.heap.size, ogr R N (.slice ad L cap)) (by simp [csS])).1 rfl⟩
                (try go_wp2_with fail)
                refine hK.out _ _ gS2 (fun _ => ?_)
                clear hK K
                (try simp only [Act.put, List.setIfInBounds_toArray, List.set_cons_zero, List.set_cons_succ])
                refine wpAnyH_done (by kernel_rfl) ?_ _
                have HT := Lib.hid h15
                clear HT0 HTU HST15 h15 hput e1 g0 g1 g2 gS1 gS2
                have hp0 : gL (pars.set v []) v = [] := by rw [gL_set (by have := HT.out.tr.lp; rw [List.length_set] at this; omega), if_pos rfl]
                have hh0 : gL (hops.set v []) v = [] := by rw [gL_set (by have := HT.out.tr.lh; rw [List.length_set] at this; omega), if_pos rfl]
                have hh1 : gL (hops.set v []) y = gL hops y := by rw [gL_set (by have := HT.out.tr.lh; rw [List.length_set] at this; omega), if_neg hyv]
                have HH0 := Lib.hid (And.intro hp0 (And.intro hh0 hh1))
                clear hp0 hh0 hh1
                have fE := HT.out.fx (eb, Obj.cells #[.int .i64 (y : Int), .int .i64 (v : Int), .int .i64 c] 72) (by simp)
                have fT := HT.out.fx (w1.heap.size, otree x D H P n) (by simp [csS])
                have e1 : ws.cell? ⟨eb, 1, none⟩ = some (.int .i64 (v : Int)) := cell_of fE.1 rfl
                have t3 : ws.cell? ⟨w1.heap.size, 3, none⟩ = some (.slice (some ⟨P, 0, none⟩) n n) := cell_of fT.1 rfl
                have cPv := HT.out.tr.cp hvn
                have zP := HT.out.tr.fp v
                have hrow : ws.drew.ownsRow 0 3 1 (gVl (pv.set v (.slice none 0 0)) v) (gL (pars.set v []) v).length (ints (gL (pars.set v []) v)) := row_congr (HT.out.tr.pp.row v (by rw [HT.out.tr.lp]; exact hvn)) fun _ _ => rfl
                have hpp : (gL (pars.set v []) v).Pairwise (· < ·) ∧ (gL (pars.set v []) v).length ≤ n := (by rw [HH0.out.1]; exact ⟨List.Pairwise.nil, Nat.zero_le _⟩)
                have HI16 := Lib.hid (insert_any ws.drew (gVl (pv.set v (.slice none 0 0)) v) (gL (pars.set v []) v) (y : Int) hrow hpp.1 (by omega))
                have hvp : v < ((pv.set v (.slice none 0 0)) : List Value).length := by rw [HT.out.tr.lpv]; exact hvn
                have hPx : P ∉ vblk (gVl (pv.set v (.slice none 0 0)) v) := fun hm => (HT.out.tr.xp P (vblk_rblk hvp hm)).2.2 rfl
                have hTx : w1.heap.size ∉ vblk (gVl (pv.set v (.slice none 0 0)) v) := fun hm => fT.2 (by simp [bkS, trB, vblk_rblk hvp hm])
                have hEx : eb ∉ vblk (gVl (pv.set v (.slice none 0 0)) v) := fun hm => fE.2 (by simp [bkS, trB, vblk_rblk hvp hm])
                have hPT : P ≠ w1.heap.size := fun e => fT.2 (by simp [bkS, trB, ← e])
                have hPE : P ≠ eb := fun e => fE.2 (by simp [bkS, trB, ← e])
                have H16 := Lib.hid (And.intro hPx (And.intro hTx hEx))
                have hset : ∀ (W : World) (u : Value), (W.cell? ⟨w1.heap.size, 3, none⟩ = some (.slice (some ⟨P, 0, none⟩) n n) ∧ W.cell? ⟨eb, 1, none⟩ = some (.int .i64 (v : Int))) → ((W.setCell ⟨P, v, none⟩ u).cell? ⟨w1.heap.size, 3, none⟩ = some (.slice (some ⟨P, 0, none⟩) n n) ∧ (W.setCell ⟨P, v, none⟩ u).cell? ⟨eb, 1, none⟩ = some (.int .i64 (v : Int))) := fun W u h => ⟨by rw [World.cell?_setCell_far _ _ _ _ hPT]; exact h.1, by rw [World.cell?_setCell_far _ _ _ _ hPE]; exact h.2⟩
                have cPv0 := cPv
                clear hrow hpp hPx hTx hEx hPT hPE fE fT
                go_upto_region 16 with (fail)
                refine wp_region_held_drew (S := (fun W => W.cell? ⟨w1.heap.size, 3, none⟩ = some (.slice (some ⟨P, 0, none⟩) n n) ∧ W.cell? ⟨eb, 1, none⟩ = some (.int .i64 (v : Int)))) (by kernel_rfl) ⟨t3, e1⟩ (fun hS0 => ?_)
                refine wpAnyH_take (i := 0) (oi := ⟨some 95, _, _, _, _, _⟩) (v := .pointer (some ⟨w1.heap.size, 3, none⟩)) rfl (by kernel_rfl) (by kernel_rfl) (by kernel_rfl) (fun _ _ _ h => h) (Or.inl ⟨by rfl, by intro w' hw'; obtain ⟨q0, q1⟩ := hw'; go_simp⟩) hS0 ?_
                simp only [Act.put, List.setIfInBounds_toArray, List.set_cons_zero, List.set_cons_succ]
                refine wpAnyH_take (i := 1) (oi := ⟨some 96, _, _, _, _, _⟩) (v := .slice (some ⟨P, 0, none⟩) n n) rfl (by kernel_rfl) (by kernel_rfl) (by kernel_rfl) (fun _ _ _ h => h) (Or.inl ⟨by rfl, by intro w' hw'; obtain ⟨q0, q1⟩ := hw'; go_simp⟩) hS0 ?_
                simp only [Act.put, List.setIfInBounds_toArray, List.set_cons_zero, List.set_cons_succ]
                refine wpAnyH_take (i := 2) (oi := ⟨some 97, _, _, _, _, _⟩) (v := .pointer (some ⟨eb, 1, none⟩)) rfl (by kernel_rfl) (by kernel_rfl) (by kernel_rfl) (fun _ _ _ h => h) (Or.inl ⟨by rfl, by intro w' hw'; obtain ⟨q0, q1⟩ := hw'; go_simp⟩) hS0 ?_
                simp only [Act.put, List.setIfInBounds_toArray, List.set_cons_zero, List.set_cons_succ]
                refine wpAnyH_take (i := 3) (oi := ⟨some 98, _, _, _, _, _⟩) (v := .int .i64 (v : Int)) rfl (by kernel_rfl) (by kernel_rfl) (by kernel_rfl) (fun _ _ _ h => h) (Or.inl ⟨by rfl, by intro w' hw'; obtain ⟨q0, q1⟩ := hw'; go_simp⟩) hS0 ?_
                simp only [Act.put, List.setIfInBounds_toArray, List.set_cons_zero, List.set_cons_succ]
                refine wpAnyH_take (i := 4) (oi := ⟨some 99, _, _, _, _, _⟩) (v := .pointer (some ⟨w1.heap.size, 3, none⟩)) rfl (by kernel_rfl) (by kernel_rfl) (by kernel_rfl) (fun _ _ _ h => h) (Or.inl ⟨by rfl, by intro w' hw'; obtain ⟨q0, q1⟩ := hw'; go_simp⟩) hS0 ?_
                simp only [Act.put, List.setIfInBounds_toArray, List.set_cons_zero, List.set_cons_succ]
                refine wpAnyH_take (i := 5) (oi := ⟨some 100, _, _, _, _, _⟩) (v := .slice (some ⟨P, 0, none⟩) n n) rfl (by kernel_rfl) (by kernel_rfl) (by kernel_rfl) (fun _ _ _ h => h) (Or.inl ⟨by rfl, by intro w' hw'; obtain ⟨q0, q1⟩ := hw'; go_simp⟩) hS0 ?_
                simp only [Act.put, List.setIfInBounds_toArray, List.set_cons_zero, List.set_cons_succ]
                refine wpAnyH_take (i := 6) (oi := ⟨some 101, _, _, _, _, _⟩) (v := .pointer (some ⟨eb, 1, none⟩)) rfl (by kernel_rfl) (by kernel_rfl) (by kernel_rfl) (fun _ _ _ h => h) (Or.inl ⟨by rfl, by intro w' hw'; obtain ⟨q0, q1⟩ := hw'; go_simp⟩) hS0 ?_
                simp only [Act.put, List.setIfInBounds_toArray, List.set_cons_zero, List.set_cons_succ]
                refine wpAnyH_take (i := 7) (oi := ⟨some 102, _, _, _, _, _⟩) (v := .int .i64 (v : Int)) rfl (by kernel_rfl) (by kernel_rfl) (by kernel_rfl) (fun _ _ _ h => h) (Or.inl ⟨by rfl, by intro w' hw'; obtain ⟨q0, q1⟩ := hw'; go_simp⟩) hS0 ?_
                simp only [Act.put, List.setIfInBounds_toArray, List.set_cons_zero, List.set_cons_succ]
                refine wpAnyH_take (i := 8) (oi := ⟨some 103, _, _, _, _, _⟩) (v := .pointer (some ⟨P, v, none⟩)) rfl (by kernel_rfl) (by kernel_rfl) (by kernel_rfl) (fun _ _ _ h => h) (Or.inl ⟨by rfl, by intro w' hw'; obtain ⟨q0, q1⟩ := hw'; go_simp⟩) hS0 ?_
                simp only [Act.put, List.setIfInBounds_toArray, List.set_cons_zero, List.set_cons_succ]
                refine wpAnyH_take (i := 10) (oi := ⟨some 105, _, _, _, _, _⟩) (v := .int .i64 (y : Int)) rfl (by kernel_rfl) (by kernel_rfl) (by kernel_rfl) (fun _ _ _ h => h) (Or.inl ⟨by rfl, by intro w' hw'; obtain ⟨q0, q1⟩ := hw'; go_simp⟩) hS0 ?_
                simp only [Act.put, List.setIfInBounds_toArray, List.set_cons_zero, List.set_cons_succ]
                refine wpAnyH_ready (rs := [9]) (by kernel_rfl) (by simp) ?_
                refine AllReadyH.cons rfl (fun K hK => ?_) AllReadyH.nil
                go_simp
                (try go_wp2_with fail)
                refine hK.out _ _ hS0 (fun _ => ?_)
                clear hK K
                (try simp only [Act.put, List.setIfInBounds_toArray, List.set_cons_zero, List.set_cons_succ])
                refine wpAnyH_ready (rs := [11]) (by kernel_rfl) (by simp) ?_
                refine AllReadyH.cons rfl (fun K hK => ?_) AllReadyH.nil
                go_simp
                go_at_call 141
                refine HI16.out.mono ?_
                rintro e wi ⟨r', hr', v', rfl, h1, h2, h3⟩
                have g1 := h2.undrew.carry (p := ⟨w1.heap.size, 3, none⟩) H16.out.2.1 t3
                have g2 := h2.undrew.carry (p := ⟨eb, 1, none⟩) H16.out.2.2 e1
                have gS := And.intro g1 g2
                have eP := h2.undrew.carry (p := ⟨P, v, none⟩) H16.out.1 cPv
                have zP1 : wi.frozen? ⟨P, v, none⟩ = false := mg_free h2.undrew H16.out.1 cPv0 zP
                obtain ⟨ad', cap', rfl, -⟩ := own_form h1
                have HQ := Lib.hid (And.intro hr' (And.intro h1 (And.intro h2.undrew h3)))
                clear hr' h1 h2 h3 g1 g2
                (try go_wp2_with fail)
                refine hK.out _ _ gS (fun _ => ?_)
                clear hK K
                (try simp only [Act.put, List.setIfInBounds_toArray, List.set_cons_zero, List.set_cons_succ])
                refine wpAnyH_take (i := 12) (oi := ⟨some 107, _, _, _, _, _⟩) (v := .pointer (some ⟨P, v, none⟩)) rfl (by kernel_rfl) (by kernel_rfl) (by kernel_rfl) (fun _ _ _ h => h) (Or.inl ⟨by rfl, by intro w' hw'; obtain ⟨q0, q1⟩ := hw'; go_simp⟩) gS ?_
                simp only [Act.put, List.setIfInBounds_toArray, List.set_cons_zero, List.set_cons_succ]
                refine wpAnyH_ready (rs := [13]) (by kernel_rfl) (by simp) ?_
                refine AllReadyH.cons rfl (fun K hK => ?_) AllReadyH.nil
                go_simp
                (try go_wp2_with fail)
                refine hK.out _ _ (hset _ _ gS) (fun _ => ?_)
                clear hK K
                (try simp only [Act.put, List.setIfInBounds_toArray, List.set_cons_zero, List.set_cons_succ])
                refine wpAnyH_done (by kernel_rfl) ?_ _
                have HT2 : Hid (SS w (wi.setCell ⟨P, v, none⟩ (.slice ad' r'.length cap')) ((eb, Obj.cells #[.int .i64 (y : Int), .int .i64 (v : Int), .int .i64 c] 72) :: (csS R N ad L cap x D H P n w.heap.size w1.heap.size EB cE)) D H P qb n (dist.set v (dy + c)) (hv.set v (.slice none 0 0)) ((pv.set v (.slice none 0 0)).set v (.slice ad' r'.length cap')) (hops.set v []) ((pars.set v []).set v r') (ins.set v true) (keys.set v (tr R (v : Int) (dy + c))) gs2) := by
                  obtain ⟨_, q2, q3, q4⟩ := HQ.out
                  exact HT.out.par hvn q3 q2 q4
                have HR16 := Lib.hid HQ.out.1
                clear HT HI16 H16 HQ eP zP1 zP cPv cPv0 gS e1 t3 hset hvp
                generalize wi.setCell ⟨P, v, none⟩ (.slice ad' r'.length cap') = W2 at *
                generalize Value.slice ad' r'.length cap' = pnew at *
                have fE := HT2.out.fx (eb, Obj.cells #[.int .i64 (y : Int), .int .i64 (v : Int), .int .i64 c] 72) (by simp)
                have fG := HT2.out.fx (w.heap.size, ogr R N (.slice ad L cap)) (by simp [csS])
                have fR := HT2.out.fx (w.heap.size + 1, oroot x) (by simp [csS])
                have fT := HT2.out.fx (w1.heap.size, otree x D H P n) (by simp [csS])
                have e1 : W2.cell? ⟨eb, 1, none⟩ = some (.int .i64 (v : Int)) := cell_of fE.1 rfl
                have HMG := Lib.hid (merge_any W2 w1.heap.size (w.heap.size + 1) w.heap.size D H P n (x : Int) R y v _ _ _ _ _ hnb fT.1 (cell_of fR.1 rfl) (cell_of fG.1 rfl) HT2.out.tr hyn hvn hyv (fun hm => fT.2 (List.mem_append.2 (.inl hm))) (fun hm => fR.2 (List.mem_append.2 (.inl hm))) (fun hm => fG.2 (List.mem_append.2 (.inl hm))) (by rw [HH0.out.2.2]; exact HRO.out.1.1) (by rw [HH0.out.2.1]; intro z hz; cases hz) (by rw [HH0.out.2.1]; exact List.Pairwise.nil) (by rw [HH0.out.2.2]; exact HRO.out.1.2.2.2))
                clear fE fG fR fT
                go_wp2_with fail
                go_at_call 140
                refine HMG.out.mono ?_
                rintro e w3 ⟨rfl, xv, rh, ht3, hr3, hb3, hk3⟩
                have HT3 := Lib.hid ((HT2.out.hop hvn ht3 hb3 hk3).drop)
                have HR3 := Lib.hid (hr3.congr fun z => MgK.end_ z)
                clear HT2 HMG ht3 hr3 hb3 hk3 e1
                go_wp2_with fail
                go_roundg (K - (k + 1))
                case measure => omega
                case rel =>
                  refine ⟨k + 1, hlt, Nat.le_refl _, val_i (by omega), _, _, _, _, _, _, _, _, HT3, ?_⟩
                  exact InR.less' HV.out.1 HV.out.2.2 HV.out.2.1 HI.out HE.out HD.out.1 HD.out.2 a4 HR16.out HR3.out
          · have a3 : ¬ dv = dy + c := by omega
            have b3 : (dv != dy + c) = true := by simpa using a3
            have a4 : dv < 0 ∨ dy + c < dv := .inl (by omega)
            clear a3
            go_upto_region 14 with (fail)
            have fE := HSB.out.fx (eb, Obj.cells #[.int .i64 (y : Int), .int .i64 (v : Int), .int .i64 c] 72) (by simp)
            have fT := HSB.out.fx (w1.heap.size, otree x D H P n) (by simp [csS])
            have e1 : Wb.cell? ⟨eb, 1, none⟩ = some (.int .i64 (v : Int)) := cell_of fE.1 rfl
            have t1 : Wb.cell? ⟨w1.heap.size, 1, none⟩ = some (.slice (some ⟨D, 0, none⟩) n n) := cell_of fT.1 rfl
            have t2 : Wb.cell? ⟨w1.heap.size, 2, none⟩ = some (.slice (some ⟨H, 0, none⟩) n n) := cell_of fT.1 rfl
            have t3 : Wb.cell? ⟨w1.heap.size, 3, none⟩ = some (.slice (some ⟨P, 0, none⟩) n n) := cell_of fT.1 rfl
            have cDv := HSB.out.tr.cd hvn
            have cHv := HSB.out.tr.ch hvn
            have cPv := HSB.out.tr.cp hvn
            have zD := HSB.out.tr.fd v
            have zH := HSB.out.tr.fh v
            have zP := HSB.out.tr.fp v
            have nDH := HSB.out.tr.dh
            have nDP := HSB.out.tr.dp
            have nHP := HSB.out.tr.hp
            have nDT : D ≠ w1.heap.size := fun e => fT.2 (by simp [bkS, trB, ← e])
            have nHT : H ≠ w1.heap.size := fun e => fT.2 (by simp [bkS, trB, ← e])
            have nPT : P ≠ w1.heap.size := fun e => fT.2 (by simp [bkS, trB, ← e])
            have nDE : D ≠ eb := fun e => fE.2 (by simp [bkS, trB, ← e])
            have nHE : H ≠ eb := fun e => fE.2 (by simp [bkS, trB, ← e])
            have nPE : P ≠ eb := fun e => fE.2 (by simp [bkS, trB, ← e])
            clear fE fT
            generalize gVl hv v = hvv at cHv
            generalize gVl pv v = pvv at cPv
            generalize gI dist v = dvv at cDv
            have cHv1 : ∀ u, (Wb.setCell ⟨D, v, none⟩ u).cell? ⟨H, v, none⟩ = some hvv := fun u => by rw [World.cell?_setCell_far _ _ _ _ nDH]; exact cHv
            have cPv1 : ∀ u u', ((Wb.setCell ⟨D, v, none⟩ u).setCell ⟨H, v, none⟩ u').cell? ⟨P, v, none⟩ = some pvv := fun u u' => by rw [World.cell?_setCell_far _ _ _ _ nHP, World.cell?_setCell_far _ _ _ _ nDP]; exact cPv
            have zH1 : ∀ u, (Wb.setCell ⟨D, v, none⟩ u).frozen? ⟨H, v, none⟩ = false := fun u => by rw [World.frozen?_setCell]; exact zH
            have zP1 : ∀ u u', ((Wb.setCell ⟨D, v, none⟩ u).setCell ⟨H, v, none⟩ u').frozen? ⟨P, v, none⟩ = false := fun u u' => by rw [World.frozen?_setCell, World.frozen?_setCell]; exact zP
            have hset : ∀ (W : World) (g : Nat) (u : Value), g ≠ w1.heap.size → g ≠ eb → (W.cell? ⟨w1.heap.size, 1, none⟩ = some (.slice (some ⟨D, 0, none⟩) n n) ∧ W.cell? ⟨w1.heap.size, 2, none⟩ = some (.slice (some ⟨H, 0, none⟩) n n) ∧ W.cell? ⟨w1.heap.size, 3, none⟩ = some (.slice (some ⟨P, 0, none⟩) n n) ∧ W.cell? ⟨eb, 1, none⟩ = some (.int .i64 (v : Int))) →
                ((W.setCell ⟨g, v, none⟩ u).cell? ⟨w1.heap.size, 1, none⟩ = some (.slice (some ⟨D, 0, none⟩) n n) ∧ (W.setCell ⟨g, v, none⟩ u).cell? ⟨w1.heap.size, 2, none⟩ = some (.slice (some ⟨H, 0, none⟩) n n) ∧ (W.setCell ⟨g, v, none⟩ u).cell? ⟨w1.heap.size, 3, none⟩ = some (.slice (some ⟨P, 0, none⟩) n n) ∧ (W.setCell ⟨g, v, none⟩ u).cell? ⟨eb, 1, none⟩ = some (.int .i64 (v : Int))) :=
              fun W g u n1 n2 h => ⟨by rw [World.cell?_setCell_far _ _ _ _ n1]; exact h.1, by rw [World.cell?_setCell_far _ _ _ _ n1]; exact h.2.1, by rw [World.cell?_setCell_far _ _ _ _ n1]; exact h.2.2.1, by rw [World.cell?_setCell_far _ _ _ _ n2]; exact h.2.2.2⟩
            have gS := And.intro t1 (And.intro t2 (And.intro t3 e1))
            refine wp_region_held_drew (S := (fun W => W.cell? ⟨w1.heap.size, 1, none⟩ = some (.slice (some ⟨D, 0, none⟩) n n) ∧ W.cell? ⟨w1.heap.size, 2, none⟩ = some (.slice (some ⟨H, 0, none⟩) n n) ∧ W.cell? ⟨w1.heap.size, 3, none⟩ = some (.slice (some ⟨P, 0, none⟩) n n) ∧ W.cell? ⟨eb, 1, none⟩ = some (.int .i64 (v : Int)))) (by kernel_rfl) gS (fun hS0 => ?_)
            refine wpAnyH_take (i := 0) (oi := ⟨some 70, _, _, _, _, _⟩) (v := .pointer (some ⟨w1.heap.size, 1, none⟩)) rfl (by kernel_rfl) (by kernel_rfl) (by kernel_rfl) (fun _ _ _ h => h) (Or.inl ⟨by rfl, by intro w' hw'; obtain ⟨q0, q1, q2, q3⟩ := hw'; go_simp⟩) hS0 ?_
            simp only [Act.put, List.setIfInBounds_toArray, List.set_cons_zero, List.set_cons_succ]
            refine wpAnyH_take (i := 1) (oi := ⟨some 71, _, _, _, _, _⟩) (v := .slice (some ⟨D, 0, none⟩) n n) rfl (by kernel_rfl) (by kernel_rfl) (by kernel_rfl) (fun _ _ _ h => h) (Or.inl ⟨by rfl, by intro w' hw'; obtain ⟨q0, q1, q2, q3⟩ := hw'; go_simp⟩) hS0 ?_
            simp only [Act.put, List.setIfInBounds_toArray, List.set_cons_zero, List.set_cons_succ]
            refine wpAnyH_take (i := 2) (oi := ⟨some 72, _, _, _, _, _⟩) (v := .pointer (some ⟨eb, 1, none⟩)) rfl (by kernel_rfl) (by kernel_rfl) (by kernel_rfl) (fun _ _ _ h => h) (Or.inl ⟨by rfl, by intro w' hw'; obtain ⟨q0, q1, q2, q3⟩ := hw'; go_simp⟩) hS0 ?_
            simp only [Act.put, List.setIfInBounds_toArray, List.set_cons_zero, List.set_cons_succ]
            refine wpAnyH_take (i := 3) (oi := ⟨some 73, _, _, _, _, _⟩) (v := .int .i64 (v : Int)) rfl (by kernel_rfl) (by kernel_rfl) (by kernel_rfl) (fun _ _ _ h => h) (Or.inl ⟨by rfl, by intro w' hw'; obtain ⟨q0, q1, q2, q3⟩ := hw'; go_simp⟩) hS0 ?_
            simp only [Act.put, List.setIfInBounds_toArray, List.set_cons_zero, List.set_cons_succ]
            refine wpAnyH_take (i := 4) (oi := ⟨some 74, _, _, _, _, _⟩) (v := .pointer (some ⟨w1.heap.size, 2, none⟩)) rfl (by kernel_rfl) (by kernel_rfl) (by kernel_rfl) (fun _ _ _ h => h) (Or.inl ⟨by rfl, by intro w' hw'; obtain ⟨q0, q1, q2, q3⟩ := hw'; go_simp⟩) hS0 ?_
            simp only [Act.put, List.setIfInBounds_toArray, List.set_cons_zero, List.set_cons_succ]
            refine wpAnyH_take (i := 5) (oi := ⟨some 75, _, _, _, _, _⟩) (v := .slice (some ⟨H, 0, none⟩) n n) rfl (by kernel_rfl) (by kernel_rfl) (by kernel_rfl) (fun _ _ _ h => h) (Or.inl ⟨by rfl, by intro w' hw'; obtain ⟨q0, q1, q2, q3⟩ := hw'; go_simp⟩) hS0 ?_
            simp only [Act.put, List.setIfInBounds_toArray, List.set_cons_zero, List.set_cons_succ]
            refine wpAnyH_take (i := 6) (oi := ⟨some 76, _, _, _, _, _⟩) (v := .pointer (some ⟨eb, 1, none⟩)) rfl (by kernel_rfl) (by kernel_rfl) (by kernel_rfl) (fun _ _ _ h => h) (Or.inl ⟨by rfl, by intro w' hw'; obtain ⟨q0, q1, q2, q3⟩ := hw'; go_simp⟩) hS0 ?_
            simp only [Act.put, List.setIfInBounds_toArray, List.set_cons_zero, List.set_cons_succ]
            refine wpAnyH_take (i := 7) (oi := ⟨some 77, _, _, _, _, _⟩) (v := .int .i64 (v : Int)) rfl (by kernel_rfl) (by kernel_rfl) (by kernel_rfl) (fun _ _ _ h => h) (Or.inl ⟨by rfl, by intro w' hw'; obtain ⟨q0, q1, q2, q3⟩ := hw'; go_simp⟩) hS0 ?_
            simp only [Act.put, List.setIfInBounds_toArray, List.set_cons_zero, List.set_cons_succ]
            refine wpAnyH_take (i := 8) (oi := ⟨some 78, _, _, _, _, _⟩) (v := .pointer (some ⟨w1.heap.size, 3, none⟩)) rfl (by kernel_rfl) (by kernel_rfl) (by kernel_rfl) (fun _ _ _ h => h) (Or.inl ⟨by rfl, by intro w' hw'; obtain ⟨q0, q1, q2, q3⟩ := hw'; go_simp⟩) hS0 ?_
            simp only [Act.put, List.setIfInBounds_toArray, List.set_cons_zero, List.set_cons_succ]
            refine wpAnyH_take (i := 9) (oi := ⟨some 79, _, _, _, _, _⟩) (v := .slice (some ⟨P, 0, none⟩) n n) rfl (by kernel_rfl) (by kernel_rfl) (by kernel_rfl) (fun _ _ _ h => h) (Or.inl ⟨by rfl, by intro w' hw'; obtain ⟨q0, q1, q2, q3⟩ := hw'; go_simp⟩) hS0 ?_
            simp only [Act.put, List.setIfInBounds_toArray, List.set_cons_zero, List.set_cons_succ]
            refine wpAnyH_take (i := 10) (oi := ⟨some 80, _, _, _, _, _⟩) (v := .pointer (some ⟨eb, 1, none⟩)) rfl (by kernel_rfl) (by kernel_rfl) (by kernel_rfl) (fun _ _ _ h => h) (Or.inl ⟨by rfl, by intro w' hw'; obtain ⟨q0, q1, q2, q3⟩ := hw'; go_simp⟩) hS0 ?_
            simp only [Act.put, List.setIfInBounds_toArray, List.set_cons_zero, List.set_cons_succ]
            refine wpAnyH_take (i := 11) (oi := ⟨some 81, _, _, _, _, _⟩) (v := .int .i64 (v : Int)) rfl (by kernel_rfl) (by kernel_rfl) (by kernel_rfl) (fun _ _ _ h => h) (Or.inl ⟨by rfl, by intro w' hw'; obtain ⟨q0, q1, q2, q3⟩ := hw'; go_simp⟩) hS0 ?_
            simp only [Act.put, List.setIfInBounds_toArray, List.set_cons_zero, List.set_cons_succ]
            refine wpAnyH_take (i := 12) (oi := ⟨some 82, _, _, _, _, _⟩) (v := .int .i64 (dy + c)) rfl (by kernel_rfl) (by kernel_rfl) (by kernel_rfl) (fun _ _ _ h => h) (Or.inl ⟨by rfl, by intro w' hw'; obtain ⟨q0, q1, q2, q3⟩ := hw'; go_simp⟩) hS0 ?_
            simp only [Act.put, List.setIfInBounds_toArray, List.set_cons_zero, List.set_cons_succ]
            refine wpAnyH_take (i := 13) (oi := ⟨some 83, _, _, _, _, _⟩) (v := .pointer (some ⟨D, v, none⟩)) rfl (by kernel_rfl) (by kernel_rfl) (by kernel_rfl) (fun _ _ _ h => h) (Or.inl ⟨by rfl, by intro w' hw'; obtain ⟨q0, q1, q2, q3⟩ := hw'; go_simp⟩) hS0 ?_
            simp only [Act.put, List.setIfInBounds_toArray, List.set_cons_zero, List.set_cons_succ]
            refine wpAnyH_ready (rs := [14]) (by kernel_rfl) (by simp) ?_
            refine AllReadyH.cons rfl (fun K hK => ?_) AllReadyH.nil
            go_simp
            (try go_wp2_with fail)
            refine hK.out _ _ (hset _ D _ nDT nDE gS) (fun _ => ?_)
            clear hK K
            (try simp only [Act.put, List.setIfInBounds_toArray, List.set_cons_zero, List.set_cons_succ])
            refine wpAnyH_take (i := 15) (oi := ⟨some 84, _, _, _, _, _⟩) (v := .pointer (some ⟨H, v, none⟩)) rfl (by kernel_rfl) (by kernel_rfl) (by kernel_rfl) (fun _ _ _ h => h) (Or.inl ⟨by rfl, by intro w' hw'; obtain ⟨q0, q1, q2, q3⟩ := hw'; go_simp⟩) (hset _ D _ nDT nDE gS) ?_
            simp only [Act.put, List.setIfInBounds_toArray, List.set_cons_zero, List.set_cons_succ]
            refine wpAnyH_ready (rs := [16]) (by kernel_rfl) (by simp) ?_
            refine AllReadyH.cons rfl (fun K hK => ?_) AllReadyH.nil
            go_simp
            (try go_wp2_with fail)
            refine hK.out _ _ (hset _ H _ nHT nHE (hset _ D _ nDT nDE gS)) (fun _ => ?_)
            clear hK K
            (try simp only [Act.put, List.setIfInBounds_toArray, List.set_cons_zero, List.set_cons_succ])
            refine wpAnyH_take (i := 17) (oi := ⟨some 85, _, _, _, _, _⟩) (v := .pointer (some ⟨P, v, none⟩)) rfl (by kernel_rfl) (by kernel_rfl) (by kernel_rfl) (fun _ _ _ h => h) (Or.inl ⟨by rfl, by intro w' hw'; obtain ⟨q0, q1, q2, q3⟩ := hw'; go_simp⟩) (hset _ H _ nHT nHE (hset _ D _ nDT nDE gS)) ?_
            simp only [Act.put, List.setIfInBounds_toArray, List.set_cons_zero, List.set_cons_succ]
            refine wpAnyH_ready (rs := [18]) (by kernel_rfl) (by simp) ?_
            refine AllReadyH.cons rfl (fun K hK => ?_) AllReadyH.nil
            go_simp
            (try go_wp2_with fail)
            refine hK.out _ _ (hset _ P _ nPT nPE (hset _ H _ nHT nHE (hset _ D _ nDT nDE gS))) (fun _ => ?_)
            clear hK K
            (try simp only [Act.put, List.setIfInBounds_toArray, List.set_cons_zero, List.set_cons_succ])
            refine wpAnyH_done (by kernel_rfl) ?_ _
            have HT0 : Hid (SS w ((((Wb.setCell ⟨D, v, none⟩ (.int .i64 (dy + c))).setCell ⟨H, v, none⟩ (.slice none 0 0)).setCell ⟨P, v, none⟩ (.slice none 0 0)).drew) ((eb, Obj.cells #[.int .i64 (y : Int), .int .i64 (v : Int), .int .i64 c] 72) :: (csS R N ad L cap x D H P n w.heap.size w1.heap.size EB cE)) D H P qb n (dist.set v (dy + c)) (hv.set v (.slice none 0 0)) (pv.set v (.slice none 0 0)) (hops.set v []) (pars.set v []) ins keys gs) :=
              (HSB.out.anew hvn (dy + c)).grow (Below.refl _ _).drew
            clear HSB cDv cHv cPv zD zH zP nDH nDP nHP nDT nHT nPT nDE nHE nPE e1 t1 t2 t3 cHv1 cPv1 zH1 zP1 hset gS
            generalize ((((Wb.setCell ⟨D, v, none⟩ (.int .i64 (dy + c))).setCell ⟨H, v, none⟩ (.slice none 0 0)).setCell ⟨P, v, none⟩ (.slice none 0 0)).drew) = W0 at *
            have fE := HT0.out.fx (eb, Obj.cells #[.int .i64 (y : Int), .int .i64 (v : Int), .int .i64 c] 72) (by simp)
            have fG := HT0.out.fx (w.heap.size, ogr R N (.slice ad L cap)) (by simp [csS])
            have e1 : W0.cell? ⟨eb, 1, none⟩ = some (.int .i64 (v : Int)) := cell_of fE.1 rfl
            have g0 : W0.cell? ⟨w.heap.size, 0, none⟩ = some (.int .i64 R) := cell_of fG.1 rfl
            have g1 : W0.cell? ⟨w.heap.size, 1, none⟩ = some (.int .i64 N) := cell_of fG.1 rfl
            have g2 : W0.cell? ⟨w.heap.size, 2, none⟩ = some (.slice ad L cap) := cell_of fG.1 rfl
            have HTU : Hid (∀ W, Calls Try.prog 146 #[.agg #[.int .i64 R, .int .i64 N, .slice ad L cap], .int .i64 (v : Int), .int .i64 (dy + c)] W fun e w' => e = .returned (.int .i64 (tr R (v : Int) (dy + c))) ∧ Below W.heap.size W w') := fun W => turn_any R N _ (v : Int) (dy + c) W ⟨hR, by omega⟩ ⟨by omega, by omega⟩
            clear fE fG
            go_upto_region 15 with (fail)
            refine wp_region_held_drew (S := (fun W => W.cell? ⟨eb, 1, none⟩ = some (.int .i64 (v : Int)) ∧ W.cell? ⟨w.heap.size, 0, none⟩ = some (.int .i64 R) ∧ W.cell? ⟨w.heap.size, 1, none⟩ = some (.int .i64 N) ∧ W.cell? ⟨w.heap.size, 2, none⟩ = some (.slice ad L cap))) (by kernel_rfl) ⟨e1, g0, g1, g2⟩ (fun hS0 => ?_)
            refine wpAnyH_take (i := 0) (oi := ⟨some 86, _, _, _, _, _⟩) (v := .pointer (some ⟨qb, 0, none⟩)) rfl (by kernel_rfl) (by kernel_rfl) (by kernel_rfl) (fun _ _ _ h => h) (Or.inl ⟨by rfl, by intro w' hw'; obtain ⟨q0, q1, q2, q3⟩ := hw'; go_simp⟩) hS0 ?_
            simp only [Act.put, List.setIfInBounds_toArray, List.set_cons_zero, List.set_cons_succ]
            refine wpAnyH_take (i := 1) (oi := ⟨some 87, _, _, _, _, _⟩) (v := .pointer (some ⟨eb, 1, none⟩)) rfl (by kernel_rfl) (by kernel_rfl) (by kernel_rfl) (fun _ _ _ h => h) (Or.inl ⟨by rfl, by intro w' hw'; obtain ⟨q0, q1, q2, q3⟩ := hw'; go_simp⟩) hS0 ?_
            simp only [Act.put, List.setIfInBounds_toArray, List.set_cons_zero, List.set_cons_succ]
            refine wpAnyH_take (i := 2) (oi := ⟨some 88, _, _, _, _, _⟩) (v := .int .i64 (v : Int)) rfl (by kernel_rfl) (by kernel_rfl) (by kernel_rfl) (fun _ _ _ h => h) (Or.inl ⟨by rfl, by intro w' hw'; obtain ⟨q0, q1, q2, q3⟩ := hw'; go_simp⟩) hS0 ?_
            simp only [Act.put, List.setIfInBounds_toArray, List.set_cons_zero, List.set_cons_succ]
            refine wpAnyH_take (i := 3) (oi := ⟨some 89, _, _, _, _, _⟩) (v := .agg #[.int .i64 R, .int .i64 N, .slice ad L cap]) rfl (by kernel_rfl) (by kernel_rfl) (by kernel_rfl) (fun _ _ _ h => h) (Or.inl ⟨by rfl, by intro w' hw'; obtain ⟨q0, q1, q2, q3⟩ := hw'; go_simp⟩) hS0 ?_
            simp only [Act.put, List.setIfInBounds_toArray, List.set_cons_zero, List.set_cons_succ]
            refine wpAnyH_take (i := 4) (oi := ⟨some 90, _, _, _, _, _⟩) (v := .pointer (some ⟨eb, 1, none⟩)) rfl (by kernel_rfl) (by kernel_rfl) (by kernel_rfl) (fun _ _ _ h => h) (Or.inl ⟨by rfl, by intro w' hw'; obtain ⟨q0, q1, q2, q3⟩ := hw'; go_simp⟩) hS0 ?_
            simp only [Act.put, List.setIfInBounds_toArray, List.set_cons_zero, List.set_cons_succ]
            refine wpAnyH_take (i := 5) (oi := ⟨some 91, _, _, _, _, _⟩) (v := .int .i64 (v : Int)) rfl (by kernel_rfl) (by kernel_rfl) (by kernel_rfl) (fun _ _ _ h => h) (Or.inl ⟨by rfl, by intro w' hw'; obtain ⟨q0, q1, q2, q3⟩ := hw'; go_simp⟩) hS0 ?_
            simp only [Act.put, List.setIfInBounds_toArray, List.set_cons_zero, List.set_cons_succ]
            refine wpAnyH_take (i := 6) (oi := ⟨some 92, _, _, _, _, _⟩) (v := .int .i64 (dy + c)) rfl (by kernel_rfl) (by kernel_rfl) (by kernel_rfl) (fun _ _ _ h => h) (Or.inl ⟨by rfl, by intro w' hw'; obtain ⟨q0, q1, q2, q3⟩ := hw'; go_simp⟩) hS0 ?_
            simp only [Act.put, List.setIfInBounds_toArray, List.set_cons_zero, List.set_cons_succ]
            refine wpAnyH_ready (rs := [7]) (by kernel_rfl) (by simp) ?_
            refine AllReadyH.cons rfl (fun K hK => ?_) AllReadyH.nil
            go_simp
            go_at_call 146
            refine (HTU.out _).mono ?_
            rintro e wt ⟨rfl, hbt⟩
            have hbt' : Below W0.heap.size W0 wt := ⟨hbt.os, hbt.tape, hbt.output, hbt.size, hbt.block⟩
            have HST15 := Lib.hid (HT0.out.grow hbt')
            have gS1 := And.intro (carry hbt' e1) (And.intro (carry hbt' g0) (And.intro (carry hbt' g1) (carry hbt' g2)))
            clear hbt hbt'
            (try go_wp2_with fail)
            refine hK.out _ _ gS1 (fun _ => ?_)
            clear hK K
            (try simp only [Act.put, List.setIfInBounds_toArray, List.set_cons_zero, List.set_cons_succ])
            refine wpAnyH_ready (rs := [8]) (by kernel_rfl) (by simp) ?_
            refine AllReadyH.cons rfl (fun K hK => ?_) AllReadyH.nil
            go_simp
            go_at_call 144
            refine (set_in wt qb n _ _ _ HST15.out.hq v (tr R (v : Int) (dy + c)) hvn).mono ?_
            rintro e ws ⟨rfl, hput⟩
            obtain ⟨gs2, h15⟩ := HST15.out.put hput
            have gS2 : (fun W => W.cell? ⟨eb, 1, none⟩ = some (.int .i64 (v : Int)) ∧ W.cell? ⟨w.heap.size, 0, none⟩ = some (.int .i64 R) ∧ W.cell? ⟨w.heap.size, 1, none⟩ = some (.int .i64 N) ∧ W.cell? ⟨w.heap.size, 2, none⟩ = some (.slice ad L cap)) ws := ⟨cell_of (h15.fx (eb, Obj.cells #[.int .i64 (y : Int), .int .i64 (v : Int), .int .i64 c] 72) (by simp)).1 rfl, cell_of (h15.fx (w.heap.size, ogr R N (.slice ad L cap)) (by simp [csS])).1 rfl, cell_of (h15.fx (w.heap.size, ogr R N (.slice ad L cap)) (by simp [csS])).1 rfl, cell_of (h15.fx (w.heap.size, ogr R N (.slice ad L cap)) (by simp [csS])).1 rfl⟩
            (try go_wp2_with fail)
            refine hK.out _ _ gS2 (fun _ => ?_)
            clear hK K
            (try simp only [Act.put, List.setIfInBounds_toArray, List.set_cons_zero, List.set_cons_succ])
            refine wpAnyH_done (by kernel_rfl) ?_ _
            have HT := Lib.hid h15
            clear HT0 HTU HST15 h15 hput e1 g0 g1 g2 gS1 gS2
            have hp0 : gL (pars.set v []) v = [] := by rw [gL_set (by have := HT.out.tr.lp; rw [List.length_set] at this; omega), if_pos rfl]
            have hh0 : gL (hops.set v []) v = [] := by rw [gL_set (by have := HT.out.tr.lh; rw [List.length_set] at this; omega), if_pos rfl]
            have hh1 : gL (hops.set v []) y = gL hops y := by rw [gL_set (by have := HT.out.tr.lh; rw [List.length_set] at this; omega), if_neg hyv]
            have HH0 := Lib.hid (And.intro hp0 (And.intro hh0 hh1))
            clear hp0 hh0 hh1
            have fE := HT.out.fx (eb, Obj.cells #[.int .i64 (y : Int), .int .i64 (v : Int), .int .i64 c] 72) (by simp)
            have fT := HT.out.fx (w1.heap.size, otree x D H P n) (by simp [csS])
            have e1 : ws.cell? ⟨eb, 1, none⟩ = some (.int .i64 (v : Int)) := cell_of fE.1 rfl
            have t3 : ws.cell? ⟨w1.heap.size, 3, none⟩ = some (.slice (some ⟨P, 0, none⟩) n n) := cell_of fT.1 rfl
            have cPv := HT.out.tr.cp hvn
            have zP := HT.out.tr.fp v
            have hrow : ws.drew.ownsRow 0 3 1 (gVl (pv.set v (.slice none 0 0)) v) (gL (pars.set v []) v).length (ints (gL (pars.set v []) v)) := row_congr (HT.out.tr.pp.row v (by rw [HT.out.tr.lp]; exact hvn)) fun _ _ => rfl
            have hpp : (gL (pars.set v []) v).Pairwise (· < ·) ∧ (gL (pars.set v []) v).length ≤ n := (by rw [HH0.out.1]; exact ⟨List.Pairwise.nil, Nat.zero_le _⟩)
            have HI16 := Lib.hid (insert_any ws.drew (gVl (pv.set v (.slice none 0 0)) v) (gL (pars.set v []) v) (y : Int) hrow hpp.1 (by omega))
            have hvp : v < ((pv.set v (.slice none 0 0)) : List Value).length := by rw [HT.out.tr.lpv]; exact hvn
            have hPx : P ∉ vblk (gVl (pv.set v (.slice none 0 0)) v) := fun hm => (HT.out.tr.xp P (vblk_rblk hvp hm)).2.2 rfl
            have hTx : w1.heap.size ∉ vblk (gVl (pv.set v (.slice none 0 0)) v) := fun hm => fT.2 (by simp [bkS, trB, vblk_rblk hvp hm])
            have hEx : eb ∉ vblk (gVl (pv.set v (.slice none 0 0)) v) := fun hm => fE.2 (by simp [bkS, trB, vblk_rblk hvp hm])
            have hPT : P ≠ w1.heap.size := fun e => fT.2 (by simp [bkS, trB, ← e])
            have hPE : P ≠ eb := fun e => fE.2 (by simp [bkS, trB, ← e])
            have H16 := Lib.hid (And.intro hPx (And.intro hTx hEx))
            have hset : ∀ (W : World) (u : Value), (W.cell? ⟨w1.heap.size, 3, none⟩ = some (.slice (some ⟨P, 0, none⟩) n n) ∧ W.cell? ⟨eb, 1, none⟩ = some (.int .i64 (v : Int))) → ((W.setCell ⟨P, v, none⟩ u).cell? ⟨w1.heap.size, 3, none⟩ = some (.slice (some ⟨P, 0, none⟩) n n) ∧ (W.setCell ⟨P, v, none⟩ u).cell? ⟨eb, 1, none⟩ = some (.int .i64 (v : Int))) := fun W u h => ⟨by rw [World.cell?_setCell_far _ _ _ _ hPT]; exact h.1, by rw [World.cell?_setCell_far _ _ _ _ hPE]; exact h.2⟩
            have cPv0 := cPv
            clear hrow hpp hPx hTx hEx hPT hPE fE fT
            go_upto_region 16 with (fail)
            refine wp_region_held_drew (S := (fun W => W.cell? ⟨w1.heap.size, 3, none⟩ = some (.slice (some ⟨P, 0, none⟩) n n) ∧ W.cell? ⟨eb, 1, none⟩ = some (.int .i64 (v : Int)))) (by kernel_rfl) ⟨t3, e1⟩ (fun hS0 => ?_)
            refine wpAnyH_take (i := 0) (oi := ⟨some 95, _, _, _, _, _⟩) (v := .pointer (some ⟨w1.heap.size, 3, none⟩)) rfl (by kernel_rfl) (by kernel_rfl) (by kernel_rfl) (fun _ _ _ h => h) (Or.inl ⟨by rfl, by intro w' hw'; obtain ⟨q0, q1⟩ := hw'; go_simp⟩) hS0 ?_
            simp only [Act.put, List.setIfInBounds_toArray, List.set_cons_zero, List.set_cons_succ]
            refine wpAnyH_take (i := 1) (oi := ⟨some 96, _, _, _, _, _⟩) (v := .slice (some ⟨P, 0, none⟩) n n) rfl (by kernel_rfl) (by kernel_rfl) (by kernel_rfl) (fun _ _ _ h => h) (Or.inl ⟨by rfl, by intro w' hw'; obtain ⟨q0, q1⟩ := hw'; go_simp⟩) hS0 ?_
            simp only [Act.put, List.setIfInBounds_toArray, List.set_cons_zero, List.set_cons_succ]
            refine wpAnyH_take (i := 2) (oi := ⟨some 97, _, _, _, _, _⟩) (v := .pointer (some ⟨eb, 1, none⟩)) rfl (by kernel_rfl) (by kernel_rfl) (by kernel_rfl) (fun _ _ _ h => h) (Or.inl ⟨by rfl, by intro w' hw'; obtain ⟨q0, q1⟩ := hw'; go_simp⟩) hS0 ?_
            simp only [Act.put, List.setIfInBounds_toArray, List.set_cons_zero, List.set_cons_succ]
            refine wpAnyH_take (i := 3) (oi := ⟨some 98, _, _, _, _, _⟩) (v := .int .i64 (v : Int)) rfl (by kernel_rfl) (by kernel_rfl) (by kernel_rfl) (fun _ _ _ h => h) (Or.inl ⟨by rfl, by intro w' hw'; obtain ⟨q0, q1⟩ := hw'; go_simp⟩) hS0 ?_
            simp only [Act.put, List.setIfInBounds_toArray, List.set_cons_zero, List.set_cons_succ]
            refine wpAnyH_take (i := 4) (oi := ⟨some 99, _, _, _, _, _⟩) (v := .pointer (some ⟨w1.heap.size, 3, none⟩)) rfl (by kernel_rfl) (by kernel_rfl) (by kernel_rfl) (fun _ _ _ h => h) (Or.inl ⟨by rfl, by intro w' hw'; obtain ⟨q0, q1⟩ := hw'; go_simp⟩) hS0 ?_
            simp only [Act.put, List.setIfInBounds_toArray, List.set_cons_zero, List.set_cons_succ]
            refine wpAnyH_take (i := 5) (oi := ⟨some 100, _, _, _, _, _⟩) (v := .slice (some ⟨P, 0, none⟩) n n) rfl (by kernel_rfl) (by kernel_rfl) (by kernel_rfl) (fun _ _ _ h => h) (Or.inl ⟨by rfl, by intro w' hw'; obtain ⟨q0, q1⟩ := hw'; go_simp⟩) hS0 ?_
            simp only [Act.put, List.setIfInBounds_toArray, List.set_cons_zero, List.set_cons_succ]
            refine wpAnyH_take (i := 6) (oi := ⟨some 101, _, _, _, _, _⟩) (v := .pointer (some ⟨eb, 1, none⟩)) rfl (by kernel_rfl) (by kernel_rfl) (by kernel_rfl) (fun _ _ _ h => h) (Or.inl ⟨by rfl, by intro w' hw'; obtain ⟨q0, q1⟩ := hw'; go_simp⟩) hS0 ?_
            simp only [Act.put, List.setIfInBounds_toArray, List.set_cons_zero, List.set_cons_succ]
            refine wpAnyH_take (i := 7) (oi := ⟨some 102, _, _, _, _, _⟩) (v := .int .i64 (v : Int)) rfl (by kernel_rfl) (by kernel_rfl) (by kernel_rfl) (fun _ _ _ h => h) (Or.inl ⟨by rfl, by intro w' hw'; obtain ⟨q0, q1⟩ := hw'; go_simp⟩) hS0 ?_
            simp only [Act.put, List.setIfInBounds_toArray, List.set_cons_zero, List.set_cons_succ]
            refine wpAnyH_take (i := 8) (oi := ⟨some 103, _, _, _, _, _⟩) (v := .pointer (some ⟨P, v, none⟩)) rfl (by kernel_rfl) (by kernel_rfl) (by kernel_rfl) (fun _ _ _ h => h) (Or.inl ⟨by rfl, by intro w' hw'; obtain ⟨q0, q1⟩ := hw'; go_simp⟩) hS0 ?_
            simp only [Act.put, List.setIfInBounds_toArray, List.set_cons_zero, List.set_cons_succ]
            refine wpAnyH_take (i := 10) (oi := ⟨some 105, _, _, _, _, _⟩) (v := .int .i64 (y : Int)) rfl (by kernel_rfl) (by kernel_rfl) (by kernel_rfl) (fun _ _ _ h => h) (Or.inl ⟨by rfl, by intro w' hw'; obtain ⟨q0, q1⟩ := hw'; go_simp⟩) hS0 ?_
            simp only [Act.put, List.setIfInBounds_toArray, List.set_cons_zero, List.set_cons_succ]
            refine wpAnyH_ready (rs := [9]) (by kernel_rfl) (by simp) ?_
            refine AllReadyH.cons rfl (fun K hK => ?_) AllReadyH.nil
            go_simp
            (try go_wp2_with fail)
            refine hK.out _ _ hS0 (fun _ => ?_)
            clear hK K
            (try simp only [Act.put, List.setIfInBounds_toArray, List.set_cons_zero, List.set_cons_succ])
            refine wpAnyH_ready (rs := [11]) (by kernel_rfl) (by simp) ?_
            refine AllReadyH.cons rfl (fun K hK => ?_) AllReadyH.nil
            go_simp
            go_at_call 141
            refine HI16.out.mono ?_
            rintro e wi ⟨r', hr', v', rfl, h1, h2, h3⟩
            have g1 := h2.undrew.carry (p := ⟨w1.heap.size, 3, none⟩) H16.out.2.1 t3
            have g2 := h2.undrew.carry (p := ⟨eb, 1, none⟩) H16.out.2.2 e1
            have gS := And.intro g1 g2
            have eP := h2.undrew.carry (p := ⟨P, v, none⟩) H16.out.1 cPv
            have zP1 : wi.frozen? ⟨P, v, none⟩ = false := mg_free h2.undrew H16.out.1 cPv0 zP
            obtain ⟨ad', cap', rfl, -⟩ := own_form h1
            have HQ := Lib.hid (And.intro hr' (And.intro h1 (And.intro h2.undrew h3)))
            clear hr' h1 h2 h3 g1 g2
            (try go_wp2_with fail)
            refine hK.out _ _ gS (fun _ => ?_)
            clear hK K
            (try simp only [Act.put, List.setIfInBounds_toArray, List.set_cons_zero, List.set_cons_succ])
            refine wpAnyH_take (i := 12) (oi := ⟨some 107, _, _, _, _, _⟩) (v := .pointer (some ⟨P, v, none⟩)) rfl (by kernel_rfl) (by kernel_rfl) (by kernel_rfl) (fun _ _ _ h => h) (Or.inl ⟨by rfl, by intro w' hw'; obtain ⟨q0, q1⟩ := hw'; go_simp⟩) gS ?_
            simp only [Act.put, List.setIfInBounds_toArray, List.set_cons_zero, List.set_cons_succ]
            refine wpAnyH_ready (rs := [13]) (by kernel_rfl) (by simp) ?_
            refine AllReadyH.cons rfl (fun K hK => ?_) AllReadyH.nil
            go_simp
            (try go_wp2_with fail)
            refine hK.out _ _ (hset _ _ gS) (fun _ => ?_)
            clear hK K
            (try simp only [Act.put, List.setIfInBounds_toArray, List.set_cons_zero, List.set_cons_succ])
            refine wpAnyH_done (by kernel_rfl) ?_ _
            have HT2 : Hid (SS w (wi.setCell ⟨P, v, none⟩ (.slice ad' r'.length cap')) ((eb, Obj.cells #[.int .i64 (y : Int), .int .i64 (v : Int), .int .i64 c] 72) :: (csS R N ad L cap x D H P n w.heap.size w1.heap.size EB cE)) D H P qb n (dist.set v (dy + c)) (hv.set v (.slice none 0 0)) ((pv.set v (.slice none 0 0)).set v (.slice ad' r'.length cap')) (hops.set v []) ((pars.set v []).set v r') (ins.set v true) (keys.set v (tr R (v : Int) (dy + c))) gs2) := by
              obtain ⟨_, q2, q3, q4⟩ := HQ.out
              exact HT.out.par hvn q3 q2 q4
            have HR16 := Lib.hid HQ.out.1
            clear HT HI16 H16 HQ eP zP1 zP cPv cPv0 gS e1 t3 hset hvp
            generalize wi.setCell ⟨P, v, none⟩ (.slice ad' r'.length cap') = W2 at *
            generalize Value.slice ad' r'.length cap' = pnew at *
            have fE := HT2.out.fx (eb, Obj.cells #[.int .i64 (y : Int), .int .i64 (v : Int), .int .i64 c] 72) (by simp)
            have fG := HT2.out.fx (w.heap.size, ogr R N (.slice ad L cap)) (by simp [csS])
            have fR := HT2.out.fx (w.heap.size + 1, oroot x) (by simp [csS])
            have fT := HT2.out.fx (w1.heap.size, otree x D H P n) (by simp [csS])
            have e1 : W2.cell? ⟨eb, 1, none⟩ = some (.int .i64 (v : Int)) := cell_of fE.1 rfl
            have HMG := Lib.hid (merge_any W2 w1.heap.size (w.heap.size + 1) w.heap.size D H P n (x : Int) R y v _ _ _ _ _ hnb fT.1 (cell_of fR.1 rfl) (cell_of fG.1 rfl) HT2.out.tr hyn hvn hyv (fun hm => fT.2 (List.mem_append.2 (.inl hm))) (fun hm => fR.2 (List.mem_append.2 (.inl hm))) (fun hm => fG.2 (List.mem_append.2 (.inl hm))) (by rw [HH0.out.2.2]; exact HRO.out.1.1) (by rw [HH0.out.2.1]; intro z hz; cases hz) (by rw [HH0.out.2.1]; exact List.Pairwise.nil) (by rw [HH0.out.2.2]; exact HRO.out.1.2.2.2))
            clear fE fG fR fT
            go_wp2_with fail
            go_at_call 140
            refine HMG.out.mono ?_
            rintro e w3 ⟨rfl, xv, rh, ht3, hr3, hb3, hk3⟩
            have HT3 := Lib.hid ((HT2.out.hop hvn ht3 hb3 hk3).drop)
            have HR3 := Lib.hid (hr3.congr fun z => MgK.end_ z)
            clear HT2 HMG ht3 hr3 hb3 hk3 e1
            go_wp2_with fail
            go_roundg (K - (k + 1))
            case measure => omega
            case rel =>
              refine ⟨k + 1, hlt, Nat.le_refl _, val_i (by omega), _, _, _, _, _, _, _, _, HT3, ?_⟩
              exact InR.less' HV.out.1 HV.out.2.2 HV.out.2.1 HI.out HE.out HD.out.1 HD.out.2 a4 HR16.out HR3.out
        · have hkK : k = K := by omega
          subst hkK
          have k1 : decide ((k : Int) < (k : Int)) = false := decide_eq_false (by omega)
          have HO : Hid (OutR R N l x n (G - 1) dist hops pars ins keys) := by
            have h := HI.out
            rw [← HK.out] at h
            exact h.done (by omega)
          clear HI
          go_wp2_with fail
          go_roundg (G - 1)
          case measure => have := HG.out; omega
          case rel => exact ⟨⟨_, rfl⟩, _, _, _, _, _, _, _, _, HS, HO⟩
end Go.Proofs.Ytmbogobebllheaa
namespace Go.Proofs.Ytmbogobebllheaa
open Go.RowKit HM GM SP
set_option linter.unusedSimpArgs false
set_option linter.unusedVariables false
set_option maxHeartbeats 4000000
set_option maxRecDepth 100000

theorem rdi_own {w : World} {B : Nat} {v : Value} {r : List Int} (h : w.ownsRow B 3 1 v r.length (ints r)) : RdI w v r := by
  rcases h.2 with ⟨rfl, hn⟩ | ⟨g, cap, cur, rfl, _, hg, h1, h2, _⟩
  · have : r = [] := List.length_eq_zero_iff.1 hn
    subst this; exact rdI_nil w
  · refine ⟨_, cap, rfl, h1, by unfold maxLen at h2; omega, fun k x hk => ⟨g, 0, rfl, lt_block hg, ?_⟩⟩
    have hkl := (List.getElem?_eq_some_iff.1 hk).1
    rw [Nat.zero_add, h.cellAt k (by omega)]
    exact ints_get hk
theorem rdr_own {w : World} {B : Nat} {H n : Nat} {vs : List Value} {rows : List (List Int)} (h : w.ownsRow B 35 1 (.slice (some ⟨H, 0, none⟩) n n) n vs) (hr : RS w vs rows) (hn : n ≤ 65536) : RdR w (.slice (some ⟨H, 0, none⟩) n n) rows := by
  have hl : vs.length = n := by have := h.1; omega
  have hl2 : rows.length = n := by rw [← hr.len]; exact hl
  refine ⟨some ⟨H, 0, none⟩, n, by rw [hl2], by omega, by omega, fun k r hk => ?_⟩
  have hkl := (List.getElem?_eq_some_iff.1 hk).1
  have hkn : k < n := by omega
  refine ⟨H, 0, gVl vs k, rfl, (row_lt h rfl).2, ?_, ?_⟩
  · rw [Nat.zero_add, h.cellAt k (by omega)]; exact gVl_get (by omega)
  · have := hr.row k hkl
    have e : gL rows k = r := by unfold gL; rw [hk]; rfl
    rw [e] at this
    exact rdi_own this
theorem TR.rdt {w : World} {D H P n : Nat} {dist : List Int} {hv pv : List Value} {hops pars : List (List Int)} (h : TR w D H P n dist hv pv hops pars) (hn : n ≤ 65536) (root : Int) : RdT w (treeV root D H P n) ⟨root, dist, hops, pars⟩ := by
  refine ⟨_, _, _, rfl, ?_, rdr_own h.rh h.hh hn, rdr_own h.rp h.pp hn⟩
  have := h.rd
  have e : dist.length = n := h.ld
  rw [← e] at this ⊢
  exact rdi_own this
def zeroT : Tre := ⟨0, [], [], []⟩
def zeroV : Value := .agg #[.int .i64 0, .slice none 0 0, .slice none 0 0, .slice none 0 0]
theorem rdt_zero (w : World) : RdT w zeroV zeroT := ⟨_, _, _, rfl, rdI_nil w, ⟨none, 0, rfl, Nat.le_refl _, by omega, fun k r h => by simp [zeroT] at h⟩, ⟨none, 0, rfl, Nat.le_refl _, by omega, fun k r h => by simp [zeroT] at h⟩⟩
/-- the tree of a root -/
def IsTre (R N : Int) (l : List E) (root : Int) (t : Tre) : Prop := ∃ n : Nat, (n : Int) = R + N ∧ t.root = root ∧ Tree R N l root n t.dist t.hops t.pars
theorem IsTre.unique {R N : Int} {l : List E} {root : Int} {t u : Tre} (h : IsTre R N l root t) (k : IsTre R N l root u) : t = u := by
  obtain ⟨n, e1, e2, e3⟩ := h
  obtain ⟨m, f1, f2, f3⟩ := k
  obtain rfl : n = m := by omega
  obtain ⟨g1, g2, g3⟩ := e3.unique f3
  obtain ⟨a1, a2, a3, a4⟩ := t
  obtain ⟨b1, b2, b3, b4⟩ := u
  dsimp only at *
  subst e2 f2 g1 g2 g3; rfl
/-- what Run answers -/
def RunR (R N : Int) (l : List E) (root : Int) (t : Tre) (er : Int) : Prop :=
  (chk R N l ≠ 0 ∧ er = chk R N l ∧ t = zeroT) ∨ (chk R N l = 0 ∧ ¬ (0 ≤ root ∧ root < R) ∧ er = 5 ∧ t = zeroT) ∨ (chk R N l = 0 ∧ (0 ≤ root ∧ root < R) ∧ er = 0 ∧ IsTre R N l root t)
theorem RunR.unique {R N : Int} {l : List E} {root er er' : Int} {t t' : Tre} (h : RunR R N l root t er) (k : RunR R N l root t' er') : t = t' ∧ er = er' := by
  rcases h with ⟨a1, a2, a3⟩ | ⟨a1, a2, a3, a4⟩ | ⟨a1, a2, a3, a4⟩ <;> rcases k with ⟨b1, b2, b3⟩ | ⟨b1, b2, b3, b4⟩ | ⟨b1, b2, b3, b4⟩
  · exact ⟨by rw [a3, b3], by rw [a2, b2]⟩
  · exact absurd b1 a1
  · exact absurd b1 a1
  · exact absurd a1 b1
  · exact ⟨by rw [a4, b4], by rw [a3, b3]⟩
  · exact absurd b2 a2
  · exact absurd a1 b1
  · exact absurd a2 b2
  · exact ⟨a4.unique b4, by rw [a3, b3]⟩
def RunQ (R N : Int) (l : List E) (root : Int) (w : World) (e : Ending) (w' : World) : Prop := ∃ t er tv, e = .returned (.tuple #[tv, .int .i64 er]) ∧ RdT w' tv t ∧ RunR R N l root t er ∧ Below w.heap.size w w'
theorem box_kept2 {W w1 : World} {b : Nat} (hb : Below W.heap.size W w1) (h : W.heap[b]? = some box0) :
    w1.cell? ⟨b, 0, none⟩ = some (.int .i64 0) ∧ w1.cell? ⟨b, 1, none⟩ = some (.slice none 0 0) ∧ w1.cell? ⟨b, 2, none⟩ = some (.slice none 0 0) ∧ w1.cell? ⟨b, 3, none⟩ = some (.slice none 0 0) ∧ ∀ o, w1.frozen? ⟨b, o, none⟩ = false := by
  have h' := (hb.block b (lt_block h)).trans h
  exact ⟨cell_of h' rfl, cell_of h' rfl, cell_of h' rfl, cell_of h' rfl, free_of h'⟩
theorem set4 {w1 : World} {b : Nat} {a0 a1 a2 a3 : Value} (h : w1.heap[b]? = some (.cells #[a0, a1, a2, a3] 74 (0, 0))) (v0 v1 v2 v3 : Value) :
    ((((w1.setCell ⟨b, 0, none⟩ v0).setCell ⟨b, 1, none⟩ v1).setCell ⟨b, 2, none⟩ v2).setCell ⟨b, 3, none⟩ v3).heap[b]? = some (.cells #[v0, v1, v2, v3] 74 (0, 0)) := by
  rw [heap_set_eq (heap_set_eq (heap_set_eq (heap_set_eq h)))]; rfl
theorem set4_below {w w1 : World} {b : Nat} (hb : Below w.heap.size w w1) (hl : w.heap.size ≤ b) (v0 v1 v2 v3 : Value) : Below w.heap.size w ((((w1.setCell ⟨b, 0, none⟩ v0).setCell ⟨b, 1, none⟩ v1).setCell ⟨b, 2, none⟩ v2).setCell ⟨b, 3, none⟩ v3) :=
  (((hb.setCell hl _).setCell hl _).setCell hl _).setCell hl _
theorem run_err (R N : Int) (l : List E) (s : Value) (root : Int) (w : World) (hR : I64 R) (hN : I64 N) (hr : Rd3 w s l) (hc : chk R N l ≠ 0) :
    Calls Try.prog 59 #[.agg #[.int .i64 R, .int .i64 N, s], .int .i64 root] w (RunQ R N l root w) := by
  have HCK : Hid (∀ W, Below w.heap.size w W → Calls Try.prog 57 #[.agg #[.int .i64 R, .int .i64 N, s]] W fun e w' => e = .returned (.int .i64 (chk R N l)) ∧ Below W.heap.size W w') := fun W hW => check_any R N s l W hR hN (hr.below hW)
  have HRR : Hid (RunR R N l root zeroT (chk R N l)) := .inl ⟨hc, rfl, rfl⟩
  obtain ⟨ad, cap, hform⟩ := rd3_slice hr
  obtain ⟨L, hL⟩ : ∃ L, l.length = L := ⟨_, rfl⟩
  rw [hL] at hform
  subst hform
  have hb : (chk R N l != 0) = true := by simpa using hc
  generalize chk R N l = c at *
  clear hr hL hc
  go_enter Try.func59, Try.ntmps59
  go_wp2_with fail
  have o2 := heap_new1 (w.alloc (.cells #[.int .i64 R, .int .i64 N, .slice ad L cap] 27)) box0 (b := w.heap.size + 1) (by simp)
  have HB := Lib.hid (below_then (below_alloc w (.cells #[.int .i64 R, .int .i64 N, .slice ad L cap] 27)) (below_alloc _ box0))
  go_at_call 57
  refine (HCK.out _ HB.out).mono ?_
  rintro e w1 ⟨rfl, hb1⟩
  have HB1 := Lib.hid (below_then HB.out hb1)
  have HO := Lib.hid ((hb1.block _ (lt_block o2)).trans o2)
  obtain ⟨r0, r1, r2, r3, rz⟩ := box_kept2 hb1 o2
  clear hb1 o2 HB
  go_wp2_with fail
  have HF := Lib.hid (And.intro (set4 HO.out (.int .i64 0) (.slice none 0 0) (.slice none 0 0) (.slice none 0 0)) (set4_below HB1.out (Nat.le_succ _) (.int .i64 0) (.slice none 0 0) (.slice none 0 0) (.slice none 0 0)))
  clear r0 r1 r2 r3 rz
  generalize ((((w1.setCell ⟨w.heap.size + 1, 0, none⟩ (.int .i64 0)).setCell ⟨w.heap.size + 1, 1, none⟩ (.slice none 0 0)).setCell ⟨w.heap.size + 1, 2, none⟩ (.slice none 0 0)).setCell ⟨w.heap.size + 1, 3, none⟩ (.slice none 0 0)) = Wf at *
  have q0 : Wf.cell? ⟨w.heap.size + 1, 0, none⟩ = some (.int .i64 0) := cell_of HF.out.1 rfl
  have q1 : Wf.cell? ⟨w.heap.size + 1, 1, none⟩ = some (.slice none 0 0) := cell_of HF.out.1 rfl
  have q2 : Wf.cell? ⟨w.heap.size + 1, 2, none⟩ = some (.slice none 0 0) := cell_of HF.out.1 rfl
  have q3 : Wf.cell? ⟨w.heap.size + 1, 3, none⟩ = some (.slice none 0 0) := cell_of HF.out.1 rfl
  exact bodyPost_ret (v := .tuple #[.agg #[.int .i64 0, .slice none 0 0, .slice none 0 0, .slice none 0 0], .int .i64 c]) (by simp [results, Try.results59, go_sem, q0, q1, q2, q3]) rfl ⟨_, _, _, rfl, rdt_zero Wf, HRR.out, HF.out.2⟩
theorem run_range (R N : Int) (l : List E) (s : Value) (root : Int) (w : World) (hR : I64 R) (hN : I64 N) (hr : Rd3 w s l) (hc : chk R N l = 0) (hro : ¬ (0 ≤ root ∧ root < R)) :
    Calls Try.prog 59 #[.agg #[.int .i64 R, .int .i64 N, s], .int .i64 root] w (RunQ R N l root w) := by
  have HCK : Hid (∀ W, Below w.heap.size w W → Calls Try.prog 57 #[.agg #[.int .i64 R, .int .i64 N, s]] W fun e w' => e = .returned (.int .i64 (chk R N l)) ∧ Below W.heap.size W w') := fun W hW => check_any R N s l W hR hN (hr.below hW)
  have HRR : Hid (RunR R N l root zeroT 5) := .inr (.inl ⟨hc, hro, rfl, rfl⟩)
  obtain ⟨ad, cap, hform⟩ := rd3_slice hr
  obtain ⟨L, hL⟩ : ∃ L, l.length = L := ⟨_, rfl⟩
  rw [hL] at hform
  subst hform
  rw [hc] at HCK
  clear hr hL hc
  go_enter Try.func59, Try.ntmps59
  go_wp2_with fail
  have o2 := heap_new1 (w.alloc (.cells #[.int .i64 R, .int .i64 N, .slice ad L cap] 27)) box0 (b := w.heap.size + 1) (by simp)
  have HB := Lib.hid (below_then (below_alloc w (.cells #[.int .i64 R, .int .i64 N, .slice ad L cap] 27)) (below_alloc _ box0))
  go_at_call 57
  refine (HCK.out _ HB.out).mono ?_
  rintro e w1 ⟨rfl, hb1⟩
  have HB1 := Lib.hid (below_then HB.out hb1)
  have HO := Lib.hid ((hb1.block _ (lt_block o2)).trans o2)
  obtain ⟨r0, r1, r2, r3, rz⟩ := box_kept2 hb1 o2
  have hg1 := (hb1.block _ (by simp; omega)).trans (heap_up (o := box0) (heap_new1 w (.cells #[.int .i64 R, .int .i64 N, .slice ad L cap] 27) (b := w.heap.size) rfl))
  have g0 : w1.cell? ⟨w.heap.size, 0, none⟩ = some (.int .i64 R) := cell_of hg1 rfl
  clear hb1 o2 HB hg1
  by_cases hneg : root < 0
  · clear hro
    go_wp2_with fail
    have HF := Lib.hid (And.intro (set4 HO.out (.int .i64 0) (.slice none 0 0) (.slice none 0 0) (.slice none 0 0)) (set4_below HB1.out (Nat.le_succ _) (.int .i64 0) (.slice none 0 0) (.slice none 0 0) (.slice none 0 0)))
    clear r0 r1 r2 r3 rz
    generalize ((((w1.setCell ⟨w.heap.size + 1, 0, none⟩ (.int .i64 0)).setCell ⟨w.heap.size + 1, 1, none⟩ (.slice none 0 0)).setCell ⟨w.heap.size + 1, 2, none⟩ (.slice none 0 0)).setCell ⟨w.heap.size + 1, 3, none⟩ (.slice none 0 0)) = Wf at *
    have q0 : Wf.cell? ⟨w.heap.size + 1, 0, none⟩ = some (.int .i64 0) := cell_of HF.out.1 rfl
    have q1 : Wf.cell? ⟨w.heap.size + 1, 1, none⟩ = some (.slice none 0 0) := cell_of HF.out.1 rfl
    have q2 : Wf.cell? ⟨w.heap.size + 1, 2, none⟩ = some (.slice none 0 0) := cell_of HF.out.1 rfl
    have q3 : Wf.cell? ⟨w.heap.size + 1, 3, none⟩ = some (.slice none 0 0) := cell_of HF.out.1 rfl
    exact bodyPost_ret (v := .tuple #[.agg #[.int .i64 0, .slice none 0 0, .slice none 0 0, .slice none 0 0], .int .i64 5]) (by simp [results, Try.results59, go_sem, q0, q1, q2, q3]) rfl ⟨_, _, _, rfl, rdt_zero Wf, HRR.out, HF.out.2⟩
  · have h2 : R ≤ root := by omega
    clear hro
    go_wp2_with fail
    have HF := Lib.hid (And.intro (set4 HO.out (.int .i64 0) (.slice none 0 0) (.slice none 0 0) (.slice none 0 0)) (set4_below HB1.out (Nat.le_succ _) (.int .i64 0) (.slice none 0 0) (.slice none 0 0) (.slice none 0 0)))
    clear r0 r1 r2 r3 rz
    generalize ((((w1.setCell ⟨w.heap.size + 1, 0, none⟩ (.int .i64 0)).setCell ⟨w.heap.size + 1, 1, none⟩ (.slice none 0 0)).setCell ⟨w.heap.size + 1, 2, none⟩ (.slice none 0 0)).setCell ⟨w.heap.size + 1, 3, none⟩ (.slice none 0 0)) = Wf at *
    have q0 : Wf.cell? ⟨w.heap.size + 1, 0, none⟩ = some (.int .i64 0) := cell_of HF.out.1 rfl
    have q1 : Wf.cell? ⟨w.heap.size + 1, 1, none⟩ = some (.slice none 0 0) := cell_of HF.out.1 rfl
    have q2 : Wf.cell? ⟨w.heap.size + 1, 2, none⟩ = some (.slice none 0 0) := cell_of HF.out.1 rfl
    have q3 : Wf.cell? ⟨w.heap.size + 1, 3, none⟩ = some (.slice none 0 0) := cell_of HF.out.1 rfl
    exact bodyPost_ret (v := .tuple #[.agg #[.int .i64 0, .slice none 0 0, .slice none 0 0, .slice none 0 0], .int .i64 5]) (by simp [results, Try.results59, go_sem, q0, q1, q2, q3]) rfl ⟨_, _, _, rfl, rdt_zero Wf, HRR.out, HF.out.2⟩
theorem run_ok (R N : Int) (l : List E) (s : Value) (root : Int) (w : World) (hR : I64 R) (hN : I64 N) (hr : Rd3 w s l) (hc : chk R N l = 0) (hro : 0 ≤ root ∧ root < R) :
    Calls Try.prog 59 #[.agg #[.int .i64 R, .int .i64 N, s], .int .i64 root] w (RunQ R N l root w) := by
  have HCK : Hid (∀ W, Below w.heap.size w W → Calls Try.prog 57 #[.agg #[.int .i64 R, .int .i64 N, s]] W fun e w' => e = .returned (.int .i64 (chk R N l)) ∧ Below W.heap.size W w') := fun W hW => check_any R N s l W hR hN (hr.below hW)
  obtain ⟨x, rfl⟩ : ∃ x : Nat, root = x := ⟨root.toNat, by omega⟩
  have hv := chk_iff.1 hc
  have h1 := hv.r; have h2 := hv.n; have h3 := hv.s
  obtain ⟨n, hn⟩ : ∃ n : Nat, (n : Int) = R + N := ⟨(R + N).toNat, by omega⟩
  have hnb : n ≤ 128 := by omega
  have HSE : Hid (∀ W, Below w.heap.size w W → Calls Try.prog 109 #[.agg #[.int .i64 R, .int .i64 N, s], .int .i64 (x : Int)] W (SeQ R N l x n W)) := fun W hW => search_any R N l s n x W hv (hr.below hW) hn hro.2
  have HRO := Lib.hid (And.intro hc (And.intro hro hn))
  obtain ⟨ad, cap, hform⟩ := rd3_slice hr
  obtain ⟨L, hL⟩ : ∃ L, l.length = L := ⟨_, rfl⟩
  rw [hL] at hform
  subst hform
  rw [hc] at HCK
  have n1 : ¬ (x : Int) < 0 := by omega
  have n2 : ¬ R ≤ (x : Int) := by omega
  clear hr hL hc hv hn h1 h2 h3 hro
  go_enter Try.func59, Try.ntmps59
  go_wp2_with fail
  have o2 := heap_new1 (w.alloc (.cells #[.int .i64 R, .int .i64 N, .slice ad L cap] 27)) box0 (b := w.heap.size + 1) (by simp)
  have HB := Lib.hid (below_then (below_alloc w (.cells #[.int .i64 R, .int .i64 N, .slice ad L cap] 27)) (below_alloc _ box0))
  go_at_call 57
  refine (HCK.out _ HB.out).mono ?_
  rintro e w1 ⟨rfl, hb1⟩
  have HB1 := Lib.hid (below_then HB.out hb1)
  have HO := Lib.hid ((hb1.block _ (lt_block o2)).trans o2)
  obtain ⟨r0, r1, r2, r3, rz⟩ := box_kept2 hb1 o2
  have hg1 := (hb1.block _ (by simp; omega)).trans (heap_up (o := box0) (heap_new1 w (.cells #[.int .i64 R, .int .i64 N, .slice ad L cap] 27) (b := w.heap.size) rfl))
  have g0 : w1.cell? ⟨w.heap.size, 0, none⟩ = some (.int .i64 R) := cell_of hg1 rfl
  have g1 : w1.cell? ⟨w.heap.size, 1, none⟩ = some (.int .i64 N) := cell_of hg1 rfl
  have g2 : w1.cell? ⟨w.heap.size, 2, none⟩ = some (.slice ad L cap) := cell_of hg1 rfl
  clear hb1 o2 HB hg1 r0 r1 r2 r3 rz
  go_wp2_with fail
  go_at_call 109
  refine (HSE.out _ HB1.out).mono ?_
  rintro e w2 ⟨D, H, P, dist, hv, pv, hops, pars, rfl, ht, hT, hlo, hb2⟩
  have HB2 := Lib.hid (below_then HB1.out hb2)
  have HO2 := Lib.hid ((hb2.block _ (lt_block HO.out)).trans HO.out)
  have HLT := Lib.hid (lt_block HO.out)
  obtain ⟨r0, r1, r2, r3, rz⟩ := box_kept2 hb2 HO.out
  have HTR := Lib.hid (And.intro ht (And.intro hT hlo))
  clear ht hT hlo hb2
  unfold treeV
  go_wp2_with fail
  have HF := Lib.hid (And.intro (set4 HO2.out (.int .i64 (x : Int)) (.slice (some ⟨D, 0, none⟩) n n) (.slice (some ⟨H, 0, none⟩) n n) (.slice (some ⟨P, 0, none⟩) n n)) (set4_below HB2.out (Nat.le_succ _) (.int .i64 (x : Int)) (.slice (some ⟨D, 0, none⟩) n n) (.slice (some ⟨H, 0, none⟩) n n) (.slice (some ⟨P, 0, none⟩) n n)))
  have HRD := Lib.hid (TR.rdt (HTR.out.1.congr (w' := (((w2.setCell ⟨w.heap.size + 1, 0, none⟩ (.int .i64 (x : Int))).setCell ⟨w.heap.size + 1, 1, none⟩ (.slice (some ⟨D, 0, none⟩) n n)).setCell ⟨w.heap.size + 1, 2, none⟩ (.slice (some ⟨H, 0, none⟩) n n)).setCell ⟨w.heap.size + 1, 3, none⟩ (.slice (some ⟨P, 0, none⟩) n n)) fun g hg => by
    have h1 := HTR.out.2.2 g hg
    have hne : g ≠ w.heap.size + 1 := by have := HLT.out; omega
    rw [heap_set_ne hne, heap_set_ne hne, heap_set_ne hne, heap_set_ne hne]) (by omega) (x : Int))
  clear r0 r1 r2 r3 rz
  generalize ((((w2.setCell ⟨w.heap.size + 1, 0, none⟩ (.int .i64 (x : Int))).setCell ⟨w.heap.size + 1, 1, none⟩ (.slice (some ⟨D, 0, none⟩) n n)).setCell ⟨w.heap.size + 1, 2, none⟩ (.slice (some ⟨H, 0, none⟩) n n)).setCell ⟨w.heap.size + 1, 3, none⟩ (.slice (some ⟨P, 0, none⟩) n n)) = Wf at *
  have q0 : Wf.cell? ⟨w.heap.size + 1, 0, none⟩ = some (.int .i64 (x : Int)) := cell_of HF.out.1 rfl
  have q1 : Wf.cell? ⟨w.heap.size + 1, 1, none⟩ = some (.slice (some ⟨D, 0, none⟩) n n) := cell_of HF.out.1 rfl
  have q2 : Wf.cell? ⟨w.heap.size + 1, 2, none⟩ = some (.slice (some ⟨H, 0, none⟩) n n) := cell_of HF.out.1 rfl
  have q3 : Wf.cell? ⟨w.heap.size + 1, 3, none⟩ = some (.slice (some ⟨P, 0, none⟩) n n) := cell_of HF.out.1 rfl
  exact bodyPost_ret (v := .tuple #[.agg #[.int .i64 (x : Int), .slice (some ⟨D, 0, none⟩) n n, .slice (some ⟨H, 0, none⟩) n n, .slice (some ⟨P, 0, none⟩) n n], .int .i64 0]) (by simp [results, Try.results59, go_sem, q0, q1, q2, q3]) rfl ⟨_, _, _, rfl, HRD.out, .inr (.inr ⟨HRO.out.1, HRO.out.2.1, rfl, n, HRO.out.2.2, rfl, HTR.out.2.1⟩), HF.out.2⟩
theorem run_any (R N : Int) (l : List E) (s : Value) (root : Int) (w : World) (hR : I64 R) (hN : I64 N) (hr : Rd3 w s l) :
    Calls Try.prog 59 #[.agg #[.int .i64 R, .int .i64 N, s], .int .i64 root] w (RunQ R N l root w) := by
  by_cases hc : chk R N l = 0
  · by_cases hro : 0 ≤ root ∧ root < R
    · exact run_ok R N l s root w hR hN hr hc hro
    · exact run_range R N l s root w hR hN hr hc hro
  · exact run_err R N l s root w hR hN hr hc
end Go.Proofs.Ytmbogobebllheaa
