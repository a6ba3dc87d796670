/-
  The walk of search's closure: the first hops of a node are passed on to one that follows it.
-/
import Derived.Test.YtmlpbhankgojpaaSpIns
import Derived.Test.YtmlpbhankgojpaaGrA
import Derived.Deep.DeepCutAuto
namespace Go.Proofs.Ytmlpbhankgojpaa
open Go.RowKit HM GM SP
set_option linter.unusedSimpArgs false
set_option linter.unusedVariables false
set_option maxHeartbeats 4000000
set_option maxRecDepth 100000

/-- the box of a tree: where its rows lie -/
def Box (w : World) (tb : Nat) (root : Int) (D H P n : Nat) : Prop := w.heap[tb]? = some (.cells #[.int .i64 root, .slice (some ⟨D, 0, none⟩) n n, .slice (some ⟨H, 0, none⟩) n n, .slice (some ⟨P, 0, none⟩) n n] 28 (0, 0))
theorem Box.c0 {w : World} {tb D H P n : Nat} {root : Int} (h : Box w tb root D H P n) : w.cell? ⟨tb, 0, none⟩ = some (.int .i64 root) := cell_of h rfl
theorem Box.c1 {w : World} {tb D H P n : Nat} {root : Int} (h : Box w tb root D H P n) : w.cell? ⟨tb, 1, none⟩ = some (.slice (some ⟨D, 0, none⟩) n n) := cell_of h rfl
theorem Box.c2 {w : World} {tb D H P n : Nat} {root : Int} (h : Box w tb root D H P n) : w.cell? ⟨tb, 2, none⟩ = some (.slice (some ⟨H, 0, none⟩) n n) := cell_of h rfl
theorem Box.c3 {w : World} {tb D H P n : Nat} {root : Int} (h : Box w tb root D H P n) : w.cell? ⟨tb, 3, none⟩ = some (.slice (some ⟨P, 0, none⟩) n n) := cell_of h rfl
theorem Box.kp {S : List Nat} {w w' : World} {tb D H P n : Nat} {root : Int} (h : Box w tb root D H P n) (k : Kp S w w') (hn : tb ∉ S) : Box w' tb root D H P n := (k.block tb (lt_block h) hn).trans h
/-- one more hop of a node -/
def MgQ (w : World) (D H P n v : Nat) (dist : List Int) (hv pv : List Value) (hops pars : List (List Int)) (Q : Int → Prop) (w' : World) : Prop :=
  ∃ x r, TR w' D H P n dist (hv.set v x) pv (hops.set v r) pars ∧ RowI Q r ∧ (∀ g, x.ownBlock = some g → (gVl hv v).ownBlock = some g ∨ w.heap.size ≤ g) ∧ Kp (H :: vblk (gVl hv v)) w w'
theorem own_form {w : World} {B e k n : Nat} {v : Value} {xs : List Value} (h : w.ownsRow B e k v n xs) : ∃ ad cap, v = .slice ad n cap ∧ (0 < n → ∃ g, ad = some ⟨g, 0, none⟩) := by
  rcases h.2 with ⟨rfl, rfl⟩ | ⟨g, cap, cur, rfl, _⟩
  · exact ⟨none, 0, rfl, fun h => by omega⟩
  · exact ⟨_, cap, rfl, fun _ => ⟨g, rfl⟩⟩
theorem MgQ.ins {w w1 : World} {D H P n v : Nat} {dist : List Int} {hv pv : List Value} {hops pars : List (List Int)} {Q' : Int → Prop} {xv xv' : Value} {r r' : List Int} (hvn : v < n)
    (hT : TR w1 D H P n dist (hv.set v xv) pv (hops.set v r) pars) (hlv : v < hv.length) (hlo : v < hops.length) (hb : ∀ g, xv.ownBlock = some g → (gVl hv v).ownBlock = some g ∨ w.heap.size ≤ g) (hk : Kp (H :: vblk (gVl hv v)) w w1)
    {w2 : World} (hr : RowI Q' r') (ho : w2.ownsRow 0 3 1 xv' r'.length (ints r')) (hk2 : Kp (vblk xv) w1 w2) (hb2 : ∀ g, xv'.ownBlock = some g → xv.ownBlock = some g ∨ w1.heap.size ≤ g) :
    TR (w2.setCell ⟨H, v, none⟩ xv') D H P n dist (hv.set v xv') pv (hops.set v r') pars ∧ (∀ g, xv'.ownBlock = some g → (gVl hv v).ownBlock = some g ∨ w.heap.size ≤ g) ∧ Kp (H :: vblk (gVl hv v)) w (w2.setCell ⟨H, v, none⟩ xv') := by
  have e1 : gVl (hv.set v xv) v = xv := by rw [gVl_set hlv, if_pos rfl]
  have h1 := hT.putH hvn (x := xv') (r := r') (by rw [e1]; exact hk2) ho (by rw [e1]; exact hb2)
  rw [List.set_set, List.set_set] at h1
  refine ⟨h1, fun g hg => ?_, ?_⟩
  · rcases hb2 g hg with h2 | h2
    · exact hb g h2
    · exact .inr (Nat.le_trans hk.size h2)
  · refine (hk.trans hk2 fun g hg => ?_).setCell (.inl (by simp))
    rcases hb g (mem_vblk.1 hg) with h2 | h2
    · exact .inl (by simp [mem_vblk, h2])
    · exact .inr h2
/-- what the closure has put in after k hops -/
def MgK (R s : Int) (x v : Nat) (hops : List (List Int)) (k : Nat) : Int → Prop := fun y => (y ∈ gL hops v ∨ ((x : Int) = s ∧ y = (v : Int))) ∨ ∃ h, h ∈ (gL hops x).take k ∧ y = if R ≤ h then (v : Int) else h
theorem MgK.end_ {R s : Int} {x v : Nat} {hops : List (List Int)} (y : Int) : MgK R s x v hops (gL hops x).length y ↔ (y ∈ gL hops v ∨ Con R s x v y (fun k => k ∈ gL hops x)) := by
  unfold MgK Con
  rw [List.take_length, or_assoc]
theorem MgK.step {R s : Int} {x v k : Nat} {hops : List (List Int)} {h : Int} (hk : (gL hops x)[k]? = some h) (y : Int) : MgK R s x v hops (k + 1) y ↔ (MgK R s x v hops k y ∨ y = if R ≤ h then (v : Int) else h) := by
  unfold MgK
  have e : (gL hops x).take (k + 1) = (gL hops x).take k ++ [h] := by rw [List.take_add_one, hk]; rfl
  rw [e]
  generalize (y ∈ gL hops v ∨ (x : Int) = s ∧ y = (v : Int)) = A
  constructor
  · rintro (h1 | ⟨z, h1, h2⟩)
    · exact .inl (.inl h1)
    · rcases List.mem_append.1 h1 with h1 | h1
      · exact .inl (.inr ⟨z, h1, h2⟩)
      · simp at h1; subst h1; exact .inr h2
  · rintro ((h1 | ⟨z, h1, h2⟩) | h1)
    · exact .inl h1
    · exact .inr ⟨z, by simp [h1], h2⟩
    · exact .inr ⟨h, by simp, h1⟩
theorem mg_free {S : List Nat} {w w1 : World} {H v : Nat} {u : Value} (h : Kp S w w1) (hn : H ∉ S) (hc : w.cell? ⟨H, v, none⟩ = some u) (hz : w.frozen? ⟨H, v, none⟩ = false) : w1.frozen? ⟨H, v, none⟩ = false := by
  have := h.block H (World.block_lt_of_cell? _ _ hc) hn
  unfold World.frozen? at hz ⊢
  rw [this]; exact hz
/-- the loop's relation -/
def MgL (w : World) (D H P n : Nat) (dist : List Int) (hv pv : List Value) (hops pars : List (List Int)) (R s : Int) (x v k : Nat) (wr : World) : Prop := ∃ xv r,
  TR wr D H P n dist (hv.set v xv) pv (hops.set v r) pars ∧ RowI (MgK R s x v hops k) r ∧ (∀ g, xv.ownBlock = some g → (gVl hv v).ownBlock = some g ∨ w.heap.size ≤ g) ∧ Kp (H :: vblk (gVl hv v)) w wr
theorem set_self {α : Type} {l : List α} {k : Nat} {x : α} (h : l[k]? = some x) : l.set k x = l := by
  apply List.ext_getElem?
  intro i
  rw [List.getElem?_set]
  by_cases e : k = i
  · subst e
    rw [if_pos rfl, if_pos (List.getElem?_eq_some_iff.1 h).1, h]
  · rw [if_neg e]
theorem merge_root (w : World) (tb rb gb D H P n : Nat) (s R : Int) (x v : Nat) (dist : List Int) (hv pv : List Value) (hops pars : List (List Int)) (hn : n ≤ 128)
    (hbox : Box w tb s D H P n) (hrt : w.cell? ⟨rb, 0, none⟩ = some (.int .i64 s)) (hgr : w.cell? ⟨gb, 0, none⟩ = some (.int .i64 R)) (hT : TR w D H P n dist hv pv hops pars) (hx : x < n) (hvn : v < n) (hne : x ≠ v)
    (hnt : tb ∉ trB D H P hv pv) (hnr : rb ∉ trB D H P hv pv) (hng : gb ∉ trB D H P hv pv)
    (bx : ∀ y ∈ gL hops x, 0 ≤ y ∧ y < (n : Int)) (bv : ∀ y ∈ gL hops v, 0 ≤ y ∧ y < (n : Int)) (av : (gL hops v).Pairwise (· < ·)) (ax : (gL hops x).Pairwise (· < ·)) (hs : (x : Int) = s) :
    Calls Try.prog 44 #[.int .i64 (x : Int), .int .i64 (v : Int), .pointer (some ⟨rb, 0, none⟩), .pointer (some ⟨tb, 0, none⟩), .pointer (some ⟨gb, 0, none⟩)] w fun e w' => e = .returned (.tuple #[]) ∧
      MgL w D H P n dist hv pv hops pars R s x v (gL hops x).length w' := by
  have hlv : v < hv.length := by rw [hT.lhv]; exact hvn
  have hlo : v < hops.length := by rw [hT.lh]; exact hvn
  obtain ⟨ad, cap, hform, hne0⟩ := own_form (hT.hh.row x (by rw [hT.lh]; exact hx))
  have c2 := hbox.c2
  have cH := hT.ch hx
  rw [hform] at cH
  obtain ⟨L, hL⟩ : ∃ L, (gL hops x).length = L := ⟨_, rfl⟩
  have hL128 : L ≤ 128 := by have := asc_len ax bx; omega
  rw [hL] at cH hne0 hform ⊢
  have HT := Lib.hid hT
  have HB := Lib.hid hbox
  have HF := Lib.hid (And.intro hform (And.intro hL hne0))
  have HX := Lib.hid (And.intro bx (And.intro bv av))
  have HN := Lib.hid (And.intro hnt (And.intro hnr hng))
  have x0 : (0 : Int) ≤ (x : Int) := by omega
  have x1 : (x : Int) < (n : Int) := by omega
  have hbe : ((x : Int) == s) = true := by simpa using hs
  have nt : ∀ b, b ∉ trB D H P hv pv → b ∉ (H :: vblk (gVl hv v)) := fun b hb hm => hb (by
    rcases List.mem_cons.1 hm with h1 | h1
    · simp [trB, h1]
    · simp [trB, vblk_rblk hlv h1])
  have cHv := hT.ch hvn
  have eH0 := cHv
  have zH := hT.fh v
  have htH : tb ≠ H := fun e => hnt (by simp [trB, e])
  have hHx : H ∉ vblk (gVl hv v) := fun hm => (hT.xh H (vblk_rblk hlv hm)).2.1 rfl
  have htx : tb ∉ vblk (gVl hv v) := fun hm => nt _ hnt (by simp [hm])
  have hrl : (gL hops v).length ≤ n := asc_len av bv
  have HI : Hid (Calls Try.prog 45 #[gVl hv v, .int .i64 (v : Int)] w.drew (InsR w.drew (gVl hv v) (gL hops v) (v : Int))) := insert_any w.drew _ _ _ (row_congr (hT.hh.row v hlo) fun _ _ => rfl) av (by omega)
  have hset : ∀ (W : World) (u : Value), W.cell? ⟨tb, 2, none⟩ = some (.slice (some ⟨H, 0, none⟩) n n) → (W.setCell ⟨H, v, none⟩ u).cell? ⟨tb, 2, none⟩ = some (.slice (some ⟨H, 0, none⟩) n n) := fun W u h => by rw [World.cell?_setCell_far _ _ _ _ (Ne.symm htH)]; exact h
  have v0 : (0 : Int) ≤ (v : Int) := by omega
  have v1 : (v : Int) < (n : Int) := by omega
  have H2 := Lib.hid (And.intro hHx htx)
  have NT := Lib.hid nt
  have HS := Lib.hid hs
  clear hT hbox hform hL bx bv av hnt hnr hng hne0 hHx htx hrl nt hs
  go_enter Try.func44, Try.ntmps44
  go_upto_region 1 with (fail)
  refine wp_region_held_drew (S := (fun W => W.cell? ⟨tb, 2, none⟩ = some (.slice (some ⟨H, 0, none⟩) n n))) (by kernel_rfl) c2 (fun hS0 => ?_)
  refine wpAnyH_take (i := 0) (oi := ⟨some 12, _, _, _, _, _⟩) (v := .pointer (some ⟨tb, 2, none⟩)) rfl (by kernel_rfl) (by kernel_rfl) (by kernel_rfl) (fun _ _ _ h => h) (Or.inl ⟨by rfl, by intro w' hw'; (try dsimp only at hw'); go_simp⟩) hS0 ?_
  simp only [Act.put, List.setIfInBounds_toArray, List.set_cons_zero, List.set_cons_succ]
  refine wpAnyH_take (i := 1) (oi := ⟨some 13, _, _, _, _, _⟩) (v := .slice (some ⟨H, 0, none⟩) n n) rfl (by kernel_rfl) (by kernel_rfl) (by kernel_rfl) (fun _ _ _ h => h) (Or.inl ⟨by rfl, by intro w' hw'; (try dsimp only at hw'); go_simp⟩) hS0 ?_
  simp only [Act.put, List.setIfInBounds_toArray, List.set_cons_zero, List.set_cons_succ]
  refine wpAnyH_take (i := 2) (oi := ⟨some 14, _, _, _, _, _⟩) (v := .int .i64 (v : Int)) rfl (by kernel_rfl) (by kernel_rfl) (by kernel_rfl) (fun _ _ _ h => h) (Or.inl ⟨by rfl, by intro w' hw'; (try dsimp only at hw'); go_simp⟩) hS0 ?_
  simp only [Act.put, List.setIfInBounds_toArray, List.set_cons_zero, List.set_cons_succ]
  refine wpAnyH_take (i := 3) (oi := ⟨some 15, _, _, _, _, _⟩) (v := .pointer (some ⟨tb, 2, none⟩)) rfl (by kernel_rfl) (by kernel_rfl) (by kernel_rfl) (fun _ _ _ h => h) (Or.inl ⟨by rfl, by intro w' hw'; (try dsimp only at hw'); go_simp⟩) hS0 ?_
  simp only [Act.put, List.setIfInBounds_toArray, List.set_cons_zero, List.set_cons_succ]
  refine wpAnyH_take (i := 4) (oi := ⟨some 16, _, _, _, _, _⟩) (v := .slice (some ⟨H, 0, none⟩) n n) rfl (by kernel_rfl) (by kernel_rfl) (by kernel_rfl) (fun _ _ _ h => h) (Or.inl ⟨by rfl, by intro w' hw'; (try dsimp only at hw'); go_simp⟩) hS0 ?_
  simp only [Act.put, List.setIfInBounds_toArray, List.set_cons_zero, List.set_cons_succ]
  refine wpAnyH_take (i := 5) (oi := ⟨some 17, _, _, _, _, _⟩) (v := .int .i64 (v : Int)) rfl (by kernel_rfl) (by kernel_rfl) (by kernel_rfl) (fun _ _ _ h => h) (Or.inl ⟨by rfl, by intro w' hw'; (try dsimp only at hw'); go_simp⟩) hS0 ?_
  simp only [Act.put, List.setIfInBounds_toArray, List.set_cons_zero, List.set_cons_succ]
  refine wpAnyH_take (i := 6) (oi := ⟨some 18, _, _, _, _, _⟩) (v := .pointer (some ⟨H, v, none⟩)) rfl (by kernel_rfl) (by kernel_rfl) (by kernel_rfl) (fun _ _ _ h => h) (Or.inl ⟨by rfl, by intro w' hw'; (try dsimp only at hw'); go_simp⟩) hS0 ?_
  simp only [Act.put, List.setIfInBounds_toArray, List.set_cons_zero, List.set_cons_succ]
  refine wpAnyH_take (i := 8) (oi := ⟨some 20, _, _, _, _, _⟩) (v := .int .i64 (v : Int)) rfl (by kernel_rfl) (by kernel_rfl) (by kernel_rfl) (fun _ _ _ h => h) (Or.inl ⟨by rfl, by intro w' hw'; (try dsimp only at hw'); go_simp⟩) hS0 ?_
  simp only [Act.put, List.setIfInBounds_toArray, List.set_cons_zero, List.set_cons_succ]
  refine wpAnyH_ready (rs := [7]) (by kernel_rfl) (by simp) ?_
  refine AllReadyH.cons rfl (fun K hK => ?_) AllReadyH.nil
  go_simp
  (try go_wp2_with fail)
  refine hK.out _ _ hS0 (fun _ => ?_)
  clear hK K
  (try simp only [Act.put, List.setIfInBounds_toArray, List.set_cons_zero, List.set_cons_succ])
  refine wpAnyH_ready (rs := [9]) (by kernel_rfl) (by simp) ?_
  refine AllReadyH.cons rfl (fun K hK => ?_) AllReadyH.nil
  go_simp
  go_at_call 45
  refine (HI.out).mono ?_
  rintro e w1 ⟨r', hr', v', rfl, h1, h2, h3⟩
  have e2 := h2.undrew.carry (p := ⟨tb, 2, none⟩) H2.out.2 c2
  have eH := h2.undrew.carry (p := ⟨H, v, none⟩) H2.out.1 cHv
  have zH1 : w1.frozen? ⟨H, v, none⟩ = false := mg_free h2.undrew H2.out.1 eH0 zH
  obtain ⟨ad', cap', rfl, -⟩ := own_form h1
  have HQ := Lib.hid (And.intro hr' (And.intro h1 (And.intro h2.undrew h3)))
  clear hr' h1 h2 h3
  (try go_wp2_with fail)
  refine hK.out _ _ e2 (fun _ => ?_)
  clear hK K
  (try simp only [Act.put, List.setIfInBounds_toArray, List.set_cons_zero, List.set_cons_succ])
  refine wpAnyH_take (i := 10) (oi := ⟨some 22, _, _, _, _, _⟩) (v := .pointer (some ⟨H, v, none⟩)) rfl (by kernel_rfl) (by kernel_rfl) (by kernel_rfl) (fun _ _ _ h => h) (Or.inl ⟨by rfl, by intro w' hw'; (try dsimp only at hw'); go_simp⟩) e2 ?_
  simp only [Act.put, List.setIfInBounds_toArray, List.set_cons_zero, List.set_cons_succ]
  refine wpAnyH_ready (rs := [11]) (by kernel_rfl) (by simp) ?_
  refine AllReadyH.cons rfl (fun K hK => ?_) AllReadyH.nil
  go_simp
  (try go_wp2_with fail)
  refine hK.out _ _ (hset _ _ e2) (fun _ => ?_)
  clear hK K
  (try simp only [Act.put, List.setIfInBounds_toArray, List.set_cons_zero, List.set_cons_succ])
  refine wpAnyH_done (by kernel_rfl) ?_ _
  have M0 : Hid (MgL w D H P n dist hv pv hops pars R s x v 0 (w1.setCell ⟨H, v, none⟩ (.slice ad' r'.length cap'))) := by
    obtain ⟨q1, q2, q3, q4⟩ := HQ.out
    obtain ⟨a1, a2, a3⟩ := MgQ.ins (xv := gVl hv v) (r := gL hops v) hvn (by rw [set_self (gVl_get hlv), set_self (gL_get hlo)]; exact HT.out) hlv hlo (fun g hg => .inl hg) (Kp.refl _ w) q1 q2 q3 q4
    refine ⟨_, r', a1, q1.congr fun y => ?_, a2, a3⟩
    unfold MgK; simp [HS.out]
  have hk0 : Kp (H :: vblk (gVl hv v)) w (w1.setCell ⟨H, v, none⟩ (.slice ad' r'.length cap')) := by obtain ⟨_, _, _, _, _, h⟩ := M0.out; exact h
  have c2' := (HB.out.kp hk0 (NT.out _ HN.out.1)).c2
  have cH' : (w1.setCell ⟨H, v, none⟩ (.slice ad' r'.length cap')).cell? ⟨H, x, none⟩ = some (.slice ad L cap) := by
    obtain ⟨xv, r, hT, _⟩ := M0.out
    have := hT.ch hx
    rw [gVl_set hlv, if_neg hne, HF.out.1] at this; exact this
  clear c2 cH cHv eH0 zH e2 eH zH1 HQ H2 HI hset v0 v1 htH HS hk0 NT
  generalize w1.setCell ⟨H, v, none⟩ (.slice ad' r'.length cap') = W at *
  go_wp2_with fail
  go_loopg [29, 8] L (fun g s29 s8 wr => ∃ k : Nat, k ≤ L ∧ L - k ≤ g ∧ s29 = .int .i64 (k : Int) ∧ (∃ u, u = s8) ∧ Hid (MgL w D H P n dist hv pv hops pars R s x v k wr))
  case atStart => exact ⟨0, by omega, by omega, rfl, ⟨_, rfl⟩, M0⟩
  case round =>
    clear M0
    obtain ⟨k, hk, hkg, rfl, ⟨u8, rfl⟩, HR⟩ := hrel
    by_cases hlt : k < L
    · obtain ⟨xv, r, hT, hr, hb, hkp⟩ := HR.out
      obtain ⟨hform, hL, hne0⟩ := HF.out
      obtain ⟨g0, rfl⟩ := hne0 (by omega)
      obtain ⟨h, hh⟩ : ∃ h, (gL hops x)[k]? = some h := ⟨_, List.getElem?_eq_getElem (by omega)⟩
      have hrx := hT.hh.row x (by rw [List.length_set]; rw [HT.out.lh]; exact hx)
      rw [gVl_set hlv, gL_set hlo, if_neg hne, if_neg hne, hform, hL] at hrx
      have ck := hrx.cellAt k (by omega)
      rw [ints_get hh] at ck
      have hrv := hT.hh.row v (by rw [List.length_set]; exact hlo)
      rw [gVl_set hlv, gL_set hlo, if_pos rfl, if_pos rfl] at hrv
      have cHv := hT.ch hvn
      rw [gVl_set hlv, if_pos rfl] at cHv
      have zH := hT.fh v
      have nt : ∀ b, b ∉ trB D H P hv pv → b ∉ (H :: vblk (gVl hv v)) := fun b hb hm => hb (by
        rcases List.mem_cons.1 hm with h1 | h1
        · simp [trB, h1]
        · simp [trB, vblk_rblk hlv h1])
      have d2 := (HB.out.kp hkp (nt _ HN.out.1)).c2
      have dg := hkp.carry (p := ⟨gb, 0, none⟩) (nt _ HN.out.2.2) hgr
      have eH0 := cHv
      have htH : tb ≠ H := fun e => HN.out.1 (by simp [trB, e])
      have hHx : H ∉ vblk xv := fun hm => by
        rcases hb H (mem_vblk.1 hm) with h1 | h1
        · exact (HT.out.xh H (vblk_rblk hlv (mem_vblk.2 h1))).2.1 rfl
        · have := (row_lt HT.out.rh rfl).2; dsimp only at this; omega
      have htx : tb ∉ vblk xv := fun hm => by
        rcases hb tb (mem_vblk.1 hm) with h1 | h1
        · exact nt _ HN.out.1 (by simp [mem_vblk, h1])
        · have := lt_block HB.out; omega
      have hzb : ∀ z, (z = if R ≤ h then (v : Int) else h) → RowI (fun y => y ∈ r ∨ y = z) = RowI (MgK R s x v hops (k + 1)) := fun z hz => by
        congr 1; funext y; exact propext ((or_congr (hr.2 y) (by rw [hz])).trans (MgK.step hh y).symm)
      have hrl : r.length ≤ n := asc_len hr.1 fun y hy => by
        have hm := (hr.2 y).1 hy
        unfold MgK at hm
        rcases hm with (h1 | ⟨_, h1⟩) | ⟨z, h1, h2⟩
        · exact HX.out.2.1 y h1
        · omega
        · have := HX.out.1 z (List.mem_of_mem_take h1)
          rw [h2]; split <;> omega
      have HI : Hid (∀ z, Calls Try.prog 45 #[xv, .int .i64 z] wr.drew (InsR wr.drew xv r z)) := fun z => insert_any wr.drew xv r z (row_congr hrv fun _ _ => rfl) hr.1 (by omega)
      have hset : ∀ (W : World) (u : Value), W.cell? ⟨tb, 2, none⟩ = some (.slice (some ⟨H, 0, none⟩) n n) → (W.setCell ⟨H, v, none⟩ u).cell? ⟨tb, 2, none⟩ = some (.slice (some ⟨H, 0, none⟩) n n) := fun W u h => by rw [World.cell?_setCell_far _ _ _ _ (Ne.symm htH)]; exact h
      have HE := Lib.hid (And.intro hT (And.intro hb (And.intro hkp hzb)))
      have v0 : (0 : Int) ≤ (v : Int) := by omega
      have v1 : (v : Int) < (n : Int) := by omega
      have k0 : (0 : Int) ≤ (k : Int) := by omega
      have k1 : (k : Int) < (L : Int) := by omega
      have H2 := Lib.hid (And.intro hHx htx)
      clear hT hr hb hkp hrx hrv hzb hrl hHx htx hform hL hne0 hh nt
      by_cases hRh : R ≤ h
      · have ez : Hid ((v : Int) = if R ≤ h then (v : Int) else h) := by show _ = _; rw [if_pos hRh]
        have eR : decide (h ≥ R) = true := decide_eq_true hRh
        have eR2 : decide (R ≤ h) = true := decide_eq_true hRh
        go_upto_region 7 with (fail)
        refine wp_region_held_drew (S := (fun W => W.cell? ⟨tb, 2, none⟩ = some (.slice (some ⟨H, 0, none⟩) n n))) (by kernel_rfl) d2 (fun hS0 => ?_)
        refine wpAnyH_take (i := 0) (oi := ⟨some 38, _, _, _, _, _⟩) (v := .pointer (some ⟨tb, 2, none⟩)) rfl (by kernel_rfl) (by kernel_rfl) (by kernel_rfl) (fun _ _ _ h => h) (Or.inl ⟨by rfl, by intro w' hw'; (try dsimp only at hw'); go_simp⟩) hS0 ?_
        simp only [Act.put, List.setIfInBounds_toArray, List.set_cons_zero, List.set_cons_succ]
        refine wpAnyH_take (i := 1) (oi := ⟨some 39, _, _, _, _, _⟩) (v := .slice (some ⟨H, 0, none⟩) n n) rfl (by kernel_rfl) (by kernel_rfl) (by kernel_rfl) (fun _ _ _ h => h) (Or.inl ⟨by rfl, by intro w' hw'; (try dsimp only at hw'); go_simp⟩) hS0 ?_
        simp only [Act.put, List.setIfInBounds_toArray, List.set_cons_zero, List.set_cons_succ]
        refine wpAnyH_take (i := 2) (oi := ⟨some 40, _, _, _, _, _⟩) (v := .int .i64 (v : Int)) rfl (by kernel_rfl) (by kernel_rfl) (by kernel_rfl) (fun _ _ _ h => h) (Or.inl ⟨by rfl, by intro w' hw'; (try dsimp only at hw'); go_simp⟩) hS0 ?_
        simp only [Act.put, List.setIfInBounds_toArray, List.set_cons_zero, List.set_cons_succ]
        refine wpAnyH_take (i := 3) (oi := ⟨some 41, _, _, _, _, _⟩) (v := .pointer (some ⟨tb, 2, none⟩)) rfl (by kernel_rfl) (by kernel_rfl) (by kernel_rfl) (fun _ _ _ h => h) (Or.inl ⟨by rfl, by intro w' hw'; (try dsimp only at hw'); go_simp⟩) hS0 ?_
        simp only [Act.put, List.setIfInBounds_toArray, List.set_cons_zero, List.set_cons_succ]
        refine wpAnyH_take (i := 4) (oi := ⟨some 42, _, _, _, _, _⟩) (v := .slice (some ⟨H, 0, none⟩) n n) rfl (by kernel_rfl) (by kernel_rfl) (by kernel_rfl) (fun _ _ _ h => h) (Or.inl ⟨by rfl, by intro w' hw'; (try dsimp only at hw'); go_simp⟩) hS0 ?_
        simp only [Act.put, List.setIfInBounds_toArray, List.set_cons_zero, List.set_cons_succ]
        refine wpAnyH_take (i := 5) (oi := ⟨some 43, _, _, _, _, _⟩) (v := .int .i64 (v : Int)) rfl (by kernel_rfl) (by kernel_rfl) (by kernel_rfl) (fun _ _ _ h => h) (Or.inl ⟨by rfl, by intro w' hw'; (try dsimp only at hw'); go_simp⟩) hS0 ?_
        simp only [Act.put, List.setIfInBounds_toArray, List.set_cons_zero, List.set_cons_succ]
        refine wpAnyH_take (i := 6) (oi := ⟨some 44, _, _, _, _, _⟩) (v := .pointer (some ⟨H, v, none⟩)) rfl (by kernel_rfl) (by kernel_rfl) (by kernel_rfl) (fun _ _ _ h => h) (Or.inl ⟨by rfl, by intro w' hw'; (try dsimp only at hw'); go_simp⟩) hS0 ?_
        simp only [Act.put, List.setIfInBounds_toArray, List.set_cons_zero, List.set_cons_succ]
        refine wpAnyH_take (i := 8) (oi := ⟨some 46, _, _, _, _, _⟩) (v := .int .i64 (v : Int)) rfl (by kernel_rfl) (by kernel_rfl) (by kernel_rfl) (fun _ _ _ h => h) (Or.inl ⟨by rfl, by intro w' hw'; (try dsimp only at hw'); go_simp⟩) hS0 ?_
        simp only [Act.put, List.setIfInBounds_toArray, List.set_cons_zero, List.set_cons_succ]
        refine wpAnyH_ready (rs := [7]) (by kernel_rfl) (by simp) ?_
        refine AllReadyH.cons rfl (fun K hK => ?_) AllReadyH.nil
        go_simp
        (try go_wp2_with fail)
        refine hK.out _ _ hS0 (fun _ => ?_)
        clear hK K
        (try simp only [Act.put, List.setIfInBounds_toArray, List.set_cons_zero, List.set_cons_succ])
        refine wpAnyH_ready (rs := [9]) (by kernel_rfl) (by simp) ?_
        refine AllReadyH.cons rfl (fun K hK => ?_) AllReadyH.nil
        go_simp
        go_at_call 45
        refine (HI.out (v : Int)).mono ?_
        rintro e w1 ⟨r', hr', v', rfl, h1, h2, h3⟩
        have e2 := h2.undrew.carry (p := ⟨tb, 2, none⟩) H2.out.2 d2
        have eH := h2.undrew.carry (p := ⟨H, v, none⟩) H2.out.1 cHv
        have zH1 : w1.frozen? ⟨H, v, none⟩ = false := mg_free h2.undrew H2.out.1 eH0 zH
        obtain ⟨ad', cap', rfl, -⟩ := own_form h1
        have HQ := Lib.hid (And.intro hr' (And.intro h1 (And.intro h2.undrew h3)))
        clear hr' h1 h2 h3
        (try go_wp2_with fail)
        refine hK.out _ _ e2 (fun _ => ?_)
        clear hK K
        (try simp only [Act.put, List.setIfInBounds_toArray, List.set_cons_zero, List.set_cons_succ])
        refine wpAnyH_take (i := 10) (oi := ⟨some 48, _, _, _, _, _⟩) (v := .pointer (some ⟨H, v, none⟩)) rfl (by kernel_rfl) (by kernel_rfl) (by kernel_rfl) (fun _ _ _ h => h) (Or.inl ⟨by rfl, by intro w' hw'; (try dsimp only at hw'); go_simp⟩) e2 ?_
        simp only [Act.put, List.setIfInBounds_toArray, List.set_cons_zero, List.set_cons_succ]
        refine wpAnyH_ready (rs := [11]) (by kernel_rfl) (by simp) ?_
        refine AllReadyH.cons rfl (fun K hK => ?_) AllReadyH.nil
        go_simp
        (try go_wp2_with fail)
        refine hK.out _ _ (hset _ _ e2) (fun _ => ?_)
        clear hK K
        (try simp only [Act.put, List.setIfInBounds_toArray, List.set_cons_zero, List.set_cons_succ])
        refine wpAnyH_done (by kernel_rfl) ?_ _
        go_wp2_with fail
        go_roundg (L - (k + 1))
        case measure => omega
        case rel =>
          obtain ⟨q1, q2, q3, q4⟩ := HQ.out
          obtain ⟨t1, t2, t3, t4⟩ := HE.out
          obtain ⟨a1, a2, a3⟩ := MgQ.ins hvn t1 hlv hlo t2 t3 q1 q2 q3 q4
          refine ⟨k + 1, by omega, Nat.le_refl _, by go_num, ⟨_, rfl⟩, _, r', a1, ?_, a2, a3⟩
          rw [← t4 _ ez.out]; exact q1
      · have ez : Hid (h = if R ≤ h then (v : Int) else h) := by show _ = _; rw [if_neg hRh]
        have eR : decide (h ≥ R) = false := decide_eq_false hRh
        have eR2 : decide (R ≤ h) = false := decide_eq_false hRh
        go_upto_region 7 with (fail)
        refine wp_region_held_drew (S := (fun W => W.cell? ⟨tb, 2, none⟩ = some (.slice (some ⟨H, 0, none⟩) n n))) (by kernel_rfl) d2 (fun hS0 => ?_)
        refine wpAnyH_take (i := 0) (oi := ⟨some 38, _, _, _, _, _⟩) (v := .pointer (some ⟨tb, 2, none⟩)) rfl (by kernel_rfl) (by kernel_rfl) (by kernel_rfl) (fun _ _ _ h => h) (Or.inl ⟨by rfl, by intro w' hw'; (try dsimp only at hw'); go_simp⟩) hS0 ?_
        simp only [Act.put, List.setIfInBounds_toArray, List.set_cons_zero, List.set_cons_succ]
        refine wpAnyH_take (i := 1) (oi := ⟨some 39, _, _, _, _, _⟩) (v := .slice (some ⟨H, 0, none⟩) n n) rfl (by kernel_rfl) (by kernel_rfl) (by kernel_rfl) (fun _ _ _ h => h) (Or.inl ⟨by rfl, by intro w' hw'; (try dsimp only at hw'); go_simp⟩) hS0 ?_
        simp only [Act.put, List.setIfInBounds_toArray, List.set_cons_zero, List.set_cons_succ]
        refine wpAnyH_take (i := 2) (oi := ⟨some 40, _, _, _, _, _⟩) (v := .int .i64 (v : Int)) rfl (by kernel_rfl) (by kernel_rfl) (by kernel_rfl) (fun _ _ _ h => h) (Or.inl ⟨by rfl, by intro w' hw'; (try dsimp only at hw'); go_simp⟩) hS0 ?_
        simp only [Act.put, List.setIfInBounds_toArray, List.set_cons_zero, List.set_cons_succ]
        refine wpAnyH_take (i := 3) (oi := ⟨some 41, _, _, _, _, _⟩) (v := .pointer (some ⟨tb, 2, none⟩)) rfl (by kernel_rfl) (by kernel_rfl) (by kernel_rfl) (fun _ _ _ h => h) (Or.inl ⟨by rfl, by intro w' hw'; (try dsimp only at hw'); go_simp⟩) hS0 ?_
        simp only [Act.put, List.setIfInBounds_toArray, List.set_cons_zero, List.set_cons_succ]
        refine wpAnyH_take (i := 4) (oi := ⟨some 42, _, _, _, _, _⟩) (v := .slice (some ⟨H, 0, none⟩) n n) rfl (by kernel_rfl) (by kernel_rfl) (by kernel_rfl) (fun _ _ _ h => h) (Or.inl ⟨by rfl, by intro w' hw'; (try dsimp only at hw'); go_simp⟩) hS0 ?_
        simp only [Act.put, List.setIfInBounds_toArray, List.set_cons_zero, List.set_cons_succ]
        refine wpAnyH_take (i := 5) (oi := ⟨some 43, _, _, _, _, _⟩) (v := .int .i64 (v : Int)) rfl (by kernel_rfl) (by kernel_rfl) (by kernel_rfl) (fun _ _ _ h => h) (Or.inl ⟨by rfl, by intro w' hw'; (try dsimp only at hw'); go_simp⟩) hS0 ?_
        simp only [Act.put, List.setIfInBounds_toArray, List.set_cons_zero, List.set_cons_succ]
        refine wpAnyH_take (i := 6) (oi := ⟨some 44, _, _, _, _, _⟩) (v := .pointer (some ⟨H, v, none⟩)) rfl (by kernel_rfl) (by kernel_rfl) (by kernel_rfl) (fun _ _ _ h => h) (Or.inl ⟨by rfl, by intro w' hw'; (try dsimp only at hw'); go_simp⟩) hS0 ?_
        simp only [Act.put, List.setIfInBounds_toArray, List.set_cons_zero, List.set_cons_succ]
        refine wpAnyH_take (i := 8) (oi := ⟨some 46, _, _, _, _, _⟩) (v := .int .i64 h) rfl (by kernel_rfl) (by kernel_rfl) (by kernel_rfl) (fun _ _ _ h => h) (Or.inl ⟨by rfl, by intro w' hw'; (try dsimp only at hw'); go_simp⟩) hS0 ?_
        simp only [Act.put, List.setIfInBounds_toArray, List.set_cons_zero, List.set_cons_succ]
        refine wpAnyH_ready (rs := [7]) (by kernel_rfl) (by simp) ?_
        refine AllReadyH.cons rfl (fun K hK => ?_) AllReadyH.nil
        go_simp
        (try go_wp2_with fail)
        refine hK.out _ _ hS0 (fun _ => ?_)
        clear hK K
        (try simp only [Act.put, List.setIfInBounds_toArray, List.set_cons_zero, List.set_cons_succ])
        refine wpAnyH_ready (rs := [9]) (by kernel_rfl) (by simp) ?_
        refine AllReadyH.cons rfl (fun K hK => ?_) AllReadyH.nil
        go_simp
        go_at_call 45
        refine (HI.out h).mono ?_
        rintro e w1 ⟨r', hr', v', rfl, h1, h2, h3⟩
        have e2 := h2.undrew.carry (p := ⟨tb, 2, none⟩) H2.out.2 d2
        have eH := h2.undrew.carry (p := ⟨H, v, none⟩) H2.out.1 cHv
        have zH1 : w1.frozen? ⟨H, v, none⟩ = false := mg_free h2.undrew H2.out.1 eH0 zH
        obtain ⟨ad', cap', rfl, -⟩ := own_form h1
        have HQ := Lib.hid (And.intro hr' (And.intro h1 (And.intro h2.undrew h3)))
        clear hr' h1 h2 h3
        (try go_wp2_with fail)
        refine hK.out _ _ e2 (fun _ => ?_)
        clear hK K
        (try simp only [Act.put, List.setIfInBounds_toArray, List.set_cons_zero, List.set_cons_succ])
        refine wpAnyH_take (i := 10) (oi := ⟨some 48, _, _, _, _, _⟩) (v := .pointer (some ⟨H, v, none⟩)) rfl (by kernel_rfl) (by kernel_rfl) (by kernel_rfl) (fun _ _ _ h => h) (Or.inl ⟨by rfl, by intro w' hw'; (try dsimp only at hw'); go_simp⟩) e2 ?_
        simp only [Act.put, List.setIfInBounds_toArray, List.set_cons_zero, List.set_cons_succ]
        refine wpAnyH_ready (rs := [11]) (by kernel_rfl) (by simp) ?_
        refine AllReadyH.cons rfl (fun K hK => ?_) AllReadyH.nil
        go_simp
        (try go_wp2_with fail)
        refine hK.out _ _ (hset _ _ e2) (fun _ => ?_)
        clear hK K
        (try simp only [Act.put, List.setIfInBounds_toArray, List.set_cons_zero, List.set_cons_succ])
        refine wpAnyH_done (by kernel_rfl) ?_ _
        go_wp2_with fail
        go_roundg (L - (k + 1))
        case measure => omega
        case rel =>
          obtain ⟨q1, q2, q3, q4⟩ := HQ.out
          obtain ⟨t1, t2, t3, t4⟩ := HE.out
          obtain ⟨a1, a2, a3⟩ := MgQ.ins hvn t1 hlv hlo t2 t3 q1 q2 q3 q4
          refine ⟨k + 1, by omega, Nat.le_refl _, by go_num, ⟨_, rfl⟩, _, r', a1, ?_, a2, a3⟩
          rw [← t4 _ ez.out]; exact q1
    · have hkL : Hid (k = L) := by show _ = _; omega
      have k1 : decide ((k : Int) < (L : Int)) = false := decide_eq_false (by omega)
      go_wp2_with fail
      refine bodyPost_end (results_none rfl _ _ _) rfl ?_
      refine ⟨rfl, ?_⟩
      have := HR.out
      rw [hkL.out] at this
      exact this
theorem merge_other (w : World) (tb rb gb D H P n : Nat) (s R : Int) (x v : Nat) (dist : List Int) (hv pv : List Value) (hops pars : List (List Int)) (hn : n ≤ 128)
    (hbox : Box w tb s D H P n) (hrt : w.cell? ⟨rb, 0, none⟩ = some (.int .i64 s)) (hgr : w.cell? ⟨gb, 0, none⟩ = some (.int .i64 R)) (hT : TR w D H P n dist hv pv hops pars) (hx : x < n) (hvn : v < n) (hne : x ≠ v)
    (hnt : tb ∉ trB D H P hv pv) (hnr : rb ∉ trB D H P hv pv) (hng : gb ∉ trB D H P hv pv)
    (bx : ∀ y ∈ gL hops x, 0 ≤ y ∧ y < (n : Int)) (bv : ∀ y ∈ gL hops v, 0 ≤ y ∧ y < (n : Int)) (av : (gL hops v).Pairwise (· < ·)) (ax : (gL hops x).Pairwise (· < ·)) (hs : (x : Int) ≠ s) :
    Calls Try.prog 44 #[.int .i64 (x : Int), .int .i64 (v : Int), .pointer (some ⟨rb, 0, none⟩), .pointer (some ⟨tb, 0, none⟩), .pointer (some ⟨gb, 0, none⟩)] w fun e w' => e = .returned (.tuple #[]) ∧
      MgL w D H P n dist hv pv hops pars R s x v (gL hops x).length w' := by
  have hlv : v < hv.length := by rw [hT.lhv]; exact hvn
  have hlo : v < hops.length := by rw [hT.lh]; exact hvn
  have M0 : Hid (MgL w D H P n dist hv pv hops pars R s x v 0 w) := by
    refine ⟨gVl hv v, gL hops v, ?_, ⟨av, fun y => ?_⟩, fun g hg => .inl hg, Kp.refl _ _⟩
    · rw [set_self (gVl_get hlv), set_self (gL_get hlo)]; exact hT
    · unfold MgK; simp [hs]
  obtain ⟨ad, cap, hform, hne0⟩ := own_form (hT.hh.row x (by rw [hT.lh]; exact hx))
  have c2 := hbox.c2
  have cH := hT.ch hx
  rw [hform] at cH
  obtain ⟨L, hL⟩ : ∃ L, (gL hops x).length = L := ⟨_, rfl⟩
  have hL128 : L ≤ 128 := by have := asc_len ax bx; omega
  rw [hL] at cH hne0 hform ⊢
  have HT := Lib.hid hT
  have HB := Lib.hid hbox
  have HF := Lib.hid (And.intro hform (And.intro hL hne0))
  have HX := Lib.hid (And.intro bx (And.intro bv av))
  have HN := Lib.hid (And.intro hnt (And.intro hnr hng))
  have x0 : (0 : Int) ≤ (x : Int) := by omega
  have x1 : (x : Int) < (n : Int) := by omega
  have hbe : ((x : Int) == s) = false := by simpa using hs
  clear hT hbox hform hL bx bv av hnt hnr hng hne0
  go_enter Try.func44, Try.ntmps44
  go_wp2_with fail
  go_loopg [29, 8] L (fun g s29 s8 wr => ∃ k : Nat, k ≤ L ∧ L - k ≤ g ∧ s29 = .int .i64 (k : Int) ∧ (∃ u, u = s8) ∧ Hid (MgL w D H P n dist hv pv hops pars R s x v k wr))
  case atStart => exact ⟨0, by omega, by omega, rfl, ⟨_, rfl⟩, M0⟩
  case round =>
    clear M0
    obtain ⟨k, hk, hkg, rfl, ⟨u8, rfl⟩, HR⟩ := hrel
    by_cases hlt : k < L
    · obtain ⟨xv, r, hT, hr, hb, hkp⟩ := HR.out
      obtain ⟨hform, hL, hne0⟩ := HF.out
      obtain ⟨g0, rfl⟩ := hne0 (by omega)
      obtain ⟨h, hh⟩ : ∃ h, (gL hops x)[k]? = some h := ⟨_, List.getElem?_eq_getElem (by omega)⟩
      have hrx := hT.hh.row x (by rw [List.length_set]; rw [HT.out.lh]; exact hx)
      rw [gVl_set hlv, gL_set hlo, if_neg hne, if_neg hne, hform, hL] at hrx
      have ck := hrx.cellAt k (by omega)
      rw [ints_get hh] at ck
      have hrv := hT.hh.row v (by rw [List.length_set]; exact hlo)
      rw [gVl_set hlv, gL_set hlo, if_pos rfl, if_pos rfl] at hrv
      have cHv := hT.ch hvn
      rw [gVl_set hlv, if_pos rfl] at cHv
      have zH := hT.fh v
      have nt : ∀ b, b ∉ trB D H P hv pv → b ∉ (H :: vblk (gVl hv v)) := fun b hb hm => hb (by
        rcases List.mem_cons.1 hm with h1 | h1
        · simp [trB, h1]
        · simp [trB, vblk_rblk hlv h1])
      have d2 := (HB.out.kp hkp (nt _ HN.out.1)).c2
      have dg := hkp.carry (p := ⟨gb, 0, none⟩) (nt _ HN.out.2.2) hgr
      have eH0 := cHv
      have htH : tb ≠ H := fun e => HN.out.1 (by simp [trB, e])
      have hHx : H ∉ vblk xv := fun hm => by
        rcases hb H (mem_vblk.1 hm) with h1 | h1
        · exact (HT.out.xh H (vblk_rblk hlv (mem_vblk.2 h1))).2.1 rfl
        · have := (row_lt HT.out.rh rfl).2; dsimp only at this; omega
      have htx : tb ∉ vblk xv := fun hm => by
        rcases hb tb (mem_vblk.1 hm) with h1 | h1
        · exact nt _ HN.out.1 (by simp [mem_vblk, h1])
        · have := lt_block HB.out; omega
      have hzb : ∀ z, (z = if R ≤ h then (v : Int) else h) → RowI (fun y => y ∈ r ∨ y = z) = RowI (MgK R s x v hops (k + 1)) := fun z hz => by
        congr 1; funext y; exact propext ((or_congr (hr.2 y) (by rw [hz])).trans (MgK.step hh y).symm)
      have hrl : r.length ≤ n := asc_len hr.1 fun y hy => by
        have hm := (hr.2 y).1 hy
        unfold MgK at hm
        rcases hm with (h1 | ⟨_, h1⟩) | ⟨z, h1, h2⟩
        · exact HX.out.2.1 y h1
        · omega
        · have := HX.out.1 z (List.mem_of_mem_take h1)
          rw [h2]; split <;> omega
      have HI : Hid (∀ z, Calls Try.prog 45 #[xv, .int .i64 z] wr.drew (InsR wr.drew xv r z)) := fun z => insert_any wr.drew xv r z (row_congr hrv fun _ _ => rfl) hr.1 (by omega)
      have hset : ∀ (W : World) (u : Value), W.cell? ⟨tb, 2, none⟩ = some (.slice (some ⟨H, 0, none⟩) n n) → (W.setCell ⟨H, v, none⟩ u).cell? ⟨tb, 2, none⟩ = some (.slice (some ⟨H, 0, none⟩) n n) := fun W u h => by rw [World.cell?_setCell_far _ _ _ _ (Ne.symm htH)]; exact h
      have HE := Lib.hid (And.intro hT (And.intro hb (And.intro hkp hzb)))
      have v0 : (0 : Int) ≤ (v : Int) := by omega
      have v1 : (v : Int) < (n : Int) := by omega
      have k0 : (0 : Int) ≤ (k : Int) := by omega
      have k1 : (k : Int) < (L : Int) := by omega
      have H2 := Lib.hid (And.intro hHx htx)
      clear hT hr hb hkp hrx hrv hzb hrl hHx htx hform hL hne0 hh nt
      by_cases hRh : R ≤ h
      · have ez : Hid ((v : Int) = if R ≤ h then (v : Int) else h) := by show _ = _; rw [if_pos hRh]
        have eR : decide (h ≥ R) = true := decide_eq_true hRh
        have eR2 : decide (R ≤ h) = true := decide_eq_true hRh
        go_upto_region 7 with (fail)
        refine wp_region_held_drew (S := (fun W => W.cell? ⟨tb, 2, none⟩ = some (.slice (some ⟨H, 0, none⟩) n n))) (by kernel_rfl) d2 (fun hS0 => ?_)
        refine wpAnyH_take (i := 0) (oi := ⟨some 38, _, _, _, _, _⟩) (v := .pointer (some ⟨tb, 2, none⟩)) rfl (by kernel_rfl) (by kernel_rfl) (by kernel_rfl) (fun _ _ _ h => h) (Or.inl ⟨by rfl, by intro w' hw'; (try dsimp only at hw'); go_simp⟩) hS0 ?_
        simp only [Act.put, List.setIfInBounds_toArray, List.set_cons_zero, List.set_cons_succ]
        refine wpAnyH_take (i := 1) (oi := ⟨some 39, _, _, _, _, _⟩) (v := .slice (some ⟨H, 0, none⟩) n n) rfl (by kernel_rfl) (by kernel_rfl) (by kernel_rfl) (fun _ _ _ h => h) (Or.inl ⟨by rfl, by intro w' hw'; (try dsimp only at hw'); go_simp⟩) hS0 ?_
        simp only [Act.put, List.setIfInBounds_toArray, List.set_cons_zero, List.set_cons_succ]
        refine wpAnyH_take (i := 2) (oi := ⟨some 40, _, _, _, _, _⟩) (v := .int .i64 (v : Int)) rfl (by kernel_rfl) (by kernel_rfl) (by kernel_rfl) (fun _ _ _ h => h) (Or.inl ⟨by rfl, by intro w' hw'; (try dsimp only at hw'); go_simp⟩) hS0 ?_
        simp only [Act.put, List.setIfInBounds_toArray, List.set_cons_zero, List.set_cons_succ]
        refine wpAnyH_take (i := 3) (oi := ⟨some 41, _, _, _, _, _⟩) (v := .pointer (some ⟨tb, 2, none⟩)) rfl (by kernel_rfl) (by kernel_rfl) (by kernel_rfl) (fun _ _ _ h => h) (Or.inl ⟨by rfl, by intro w' hw'; (try dsimp only at hw'); go_simp⟩) hS0 ?_
        simp only [Act.put, List.setIfInBounds_toArray, List.set_cons_zero, List.set_cons_succ]
        refine wpAnyH_take (i := 4) (oi := ⟨some 42, _, _, _, _, _⟩) (v := .slice (some ⟨H, 0, none⟩) n n) rfl (by kernel_rfl) (by kernel_rfl) (by kernel_rfl) (fun _ _ _ h => h) (Or.inl ⟨by rfl, by intro w' hw'; (try dsimp only at hw'); go_simp⟩) hS0 ?_
        simp only [Act.put, List.setIfInBounds_toArray, List.set_cons_zero, List.set_cons_succ]
        refine wpAnyH_take (i := 5) (oi := ⟨some 43, _, _, _, _, _⟩) (v := .int .i64 (v : Int)) rfl (by kernel_rfl) (by kernel_rfl) (by kernel_rfl) (fun _ _ _ h => h) (Or.inl ⟨by rfl, by intro w' hw'; (try dsimp only at hw'); go_simp⟩) hS0 ?_
        simp only [Act.put, List.setIfInBounds_toArray, List.set_cons_zero, List.set_cons_succ]
        refine wpAnyH_take (i := 6) (oi := ⟨some 44, _, _, _, _, _⟩) (v := .pointer (some ⟨H, v, none⟩)) rfl (by kernel_rfl) (by kernel_rfl) (by kernel_rfl) (fun _ _ _ h => h) (Or.inl ⟨by rfl, by intro w' hw'; (try dsimp only at hw'); go_simp⟩) hS0 ?_
        simp only [Act.put, List.setIfInBounds_toArray, List.set_cons_zero, List.set_cons_succ]
        refine wpAnyH_take (i := 8) (oi := ⟨some 46, _, _, _, _, _⟩) (v := .int .i64 (v : Int)) rfl (by kernel_rfl) (by kernel_rfl) (by kernel_rfl) (fun _ _ _ h => h) (Or.inl ⟨by rfl, by intro w' hw'; (try dsimp only at hw'); go_simp⟩) hS0 ?_
        simp only [Act.put, List.setIfInBounds_toArray, List.set_cons_zero, List.set_cons_succ]
        refine wpAnyH_ready (rs := [7]) (by kernel_rfl) (by simp) ?_
        refine AllReadyH.cons rfl (fun K hK => ?_) AllReadyH.nil
        go_simp
        (try go_wp2_with fail)
        refine hK.out _ _ hS0 (fun _ => ?_)
        clear hK K
        (try simp only [Act.put, List.setIfInBounds_toArray, List.set_cons_zero, List.set_cons_succ])
        refine wpAnyH_ready (rs := [9]) (by kernel_rfl) (by simp) ?_
        refine AllReadyH.cons rfl (fun K hK => ?_) AllReadyH.nil
        go_simp
        go_at_call 45
        refine (HI.out (v : Int)).mono ?_
        rintro e w1 ⟨r', hr', v', rfl, h1, h2, h3⟩
        have e2 := h2.undrew.carry (p := ⟨tb, 2, none⟩) H2.out.2 d2
        have eH := h2.undrew.carry (p := ⟨H, v, none⟩) H2.out.1 cHv
        have zH1 : w1.frozen? ⟨H, v, none⟩ = false := mg_free h2.undrew H2.out.1 eH0 zH
        obtain ⟨ad', cap', rfl, -⟩ := own_form h1
        have HQ := Lib.hid (And.intro hr' (And.intro h1 (And.intro h2.undrew h3)))
        clear hr' h1 h2 h3
        (try go_wp2_with fail)
        refine hK.out _ _ e2 (fun _ => ?_)
        clear hK K
        (try simp only [Act.put, List.setIfInBounds_toArray, List.set_cons_zero, List.set_cons_succ])
        refine wpAnyH_take (i := 10) (oi := ⟨some 48, _, _, _, _, _⟩) (v := .pointer (some ⟨H, v, none⟩)) rfl (by kernel_rfl) (by kernel_rfl) (by kernel_rfl) (fun _ _ _ h => h) (Or.inl ⟨by rfl, by intro w' hw'; (try dsimp only at hw'); go_simp⟩) e2 ?_
        simp only [Act.put, List.setIfInBounds_toArray, List.set_cons_zero, List.set_cons_succ]
        refine wpAnyH_ready (rs := [11]) (by kernel_rfl) (by simp) ?_
        refine AllReadyH.cons rfl (fun K hK => ?_) AllReadyH.nil
        go_simp
        (try go_wp2_with fail)
        refine hK.out _ _ (hset _ _ e2) (fun _ => ?_)
        clear hK K
        (try simp only [Act.put, List.setIfInBounds_toArray, List.set_cons_zero, List.set_cons_succ])
        refine wpAnyH_done (by kernel_rfl) ?_ _
        go_wp2_with fail
        go_roundg (L - (k + 1))
        case measure => omega
        case rel =>
          obtain ⟨q1, q2, q3, q4⟩ := HQ.out
          obtain ⟨t1, t2, t3, t4⟩ := HE.out
          obtain ⟨a1, a2, a3⟩ := MgQ.ins hvn t1 hlv hlo t2 t3 q1 q2 q3 q4
          refine ⟨k + 1, by omega, Nat.le_refl _, by go_num, ⟨_, rfl⟩, _, r', a1, ?_, a2, a3⟩
          rw [← t4 _ ez.out]; exact q1
      · have ez : Hid (h = if R ≤ h then (v : Int) else h) := by show _ = _; rw [if_neg hRh]
        have eR : decide (h ≥ R) = false := decide_eq_false hRh
        have eR2 : decide (R ≤ h) = false := decide_eq_false hRh
        go_upto_region 7 with (fail)
        refine wp_region_held_drew (S := (fun W => W.cell? ⟨tb, 2, none⟩ = some (.slice (some ⟨H, 0, none⟩) n n))) (by kernel_rfl) d2 (fun hS0 => ?_)
        refine wpAnyH_take (i := 0) (oi := ⟨some 38, _, _, _, _, _⟩) (v := .pointer (some ⟨tb, 2, none⟩)) rfl (by kernel_rfl) (by kernel_rfl) (by kernel_rfl) (fun _ _ _ h => h) (Or.inl ⟨by rfl, by intro w' hw'; (try dsimp only at hw'); go_simp⟩) hS0 ?_
        simp only [Act.put, List.setIfInBounds_toArray, List.set_cons_zero, List.set_cons_succ]
        refine wpAnyH_take (i := 1) (oi := ⟨some 39, _, _, _, _, _⟩) (v := .slice (some ⟨H, 0, none⟩) n n) rfl (by kernel_rfl) (by kernel_rfl) (by kernel_rfl) (fun _ _ _ h => h) (Or.inl ⟨by rfl, by intro w' hw'; (try dsimp only at hw'); go_simp⟩) hS0 ?_
        simp only [Act.put, List.setIfInBounds_toArray, List.set_cons_zero, List.set_cons_succ]
        refine wpAnyH_take (i := 2) (oi := ⟨some 40, _, _, _, _, _⟩) (v := .int .i64 (v : Int)) rfl (by kernel_rfl) (by kernel_rfl) (by kernel_rfl) (fun _ _ _ h => h) (Or.inl ⟨by rfl, by intro w' hw'; (try dsimp only at hw'); go_simp⟩) hS0 ?_
        simp only [Act.put, List.setIfInBounds_toArray, List.set_cons_zero, List.set_cons_succ]
        refine wpAnyH_take (i := 3) (oi := ⟨some 41, _, _, _, _, _⟩) (v := .pointer (some ⟨tb, 2, none⟩)) rfl (by kernel_rfl) (by kernel_rfl) (by kernel_rfl) (fun _ _ _ h => h) (Or.inl ⟨by rfl, by intro w' hw'; (try dsimp only at hw'); go_simp⟩) hS0 ?_
        simp only [Act.put, List.setIfInBounds_toArray, List.set_cons_zero, List.set_cons_succ]
        refine wpAnyH_take (i := 4) (oi := ⟨some 42, _, _, _, _, _⟩) (v := .slice (some ⟨H, 0, none⟩) n n) rfl (by kernel_rfl) (by kernel_rfl) (by kernel_rfl) (fun _ _ _ h => h) (Or.inl ⟨by rfl, by intro w' hw'; (try dsimp only at hw'); go_simp⟩) hS0 ?_
        simp only [Act.put, List.setIfInBounds_toArray, List.set_cons_zero, List.set_cons_succ]
        refine wpAnyH_take (i := 5) (oi := ⟨some 43, _, _, _, _, _⟩) (v := .int .i64 (v : Int)) rfl (by kernel_rfl) (by kernel_rfl) (by kernel_rfl) (fun _ _ _ h => h) (Or.inl ⟨by rfl, by intro w' hw'; (try dsimp only at hw'); go_simp⟩) hS0 ?_
        simp only [Act.put, List.setIfInBounds_toArray, List.set_cons_zero, List.set_cons_succ]
        refine wpAnyH_take (i := 6) (oi := ⟨some 44, _, _, _, _, _⟩) (v := .pointer (some ⟨H, v, none⟩)) rfl (by kernel_rfl) (by kernel_rfl) (by kernel_rfl) (fun _ _ _ h => h) (Or.inl ⟨by rfl, by intro w' hw'; (try dsimp only at hw'); go_simp⟩) hS0 ?_
        simp only [Act.put, List.setIfInBounds_toArray, List.set_cons_zero, List.set_cons_succ]
        refine wpAnyH_take (i := 8) (oi := ⟨some 46, _, _, _, _, _⟩) (v := .int .i64 h) rfl (by kernel_rfl) (by kernel_rfl) (by kernel_rfl) (fun _ _ _ h => h) (Or.inl ⟨by rfl, by intro w' hw'; (try dsimp only at hw'); go_simp⟩) hS0 ?_
        simp only [Act.put, List.setIfInBounds_toArray, List.set_cons_zero, List.set_cons_succ]
        refine wpAnyH_ready (rs := [7]) (by kernel_rfl) (by simp) ?_
        refine AllReadyH.cons rfl (fun K hK => ?_) AllReadyH.nil
        go_simp
        (try go_wp2_with fail)
        refine hK.out _ _ hS0 (fun _ => ?_)
        clear hK K
        (try simp only [Act.put, List.setIfInBounds_toArray, List.set_cons_zero, List.set_cons_succ])
        refine wpAnyH_ready (rs := [9]) (by kernel_rfl) (by simp) ?_
        refine AllReadyH.cons rfl (fun K hK => ?_) AllReadyH.nil
        go_simp
        go_at_call 45
        refine (HI.out h).mono ?_
        rintro e w1 ⟨r', hr', v', rfl, h1, h2, h3⟩
        have e2 := h2.undrew.carry (p := ⟨tb, 2, none⟩) H2.out.2 d2
        have eH := h2.undrew.carry (p := ⟨H, v, none⟩) H2.out.1 cHv
        have zH1 : w1.frozen? ⟨H, v, none⟩ = false := mg_free h2.undrew H2.out.1 eH0 zH
        obtain ⟨ad', cap', rfl, -⟩ := own_form h1
        have HQ := Lib.hid (And.intro hr' (And.intro h1 (And.intro h2.undrew h3)))
        clear hr' h1 h2 h3
        (try go_wp2_with fail)
        refine hK.out _ _ e2 (fun _ => ?_)
        clear hK K
        (try simp only [Act.put, List.setIfInBounds_toArray, List.set_cons_zero, List.set_cons_succ])
        refine wpAnyH_take (i := 10) (oi := ⟨some 48, _, _, _, _, _⟩) (v := .pointer (some ⟨H, v, none⟩)) rfl (by kernel_rfl) (by kernel_rfl) (by kernel_rfl) (fun _ _ _ h => h) (Or.inl ⟨by rfl, by intro w' hw'; (try dsimp only at hw'); go_simp⟩) e2 ?_
        simp only [Act.put, List.setIfInBounds_toArray, List.set_cons_zero, List.set_cons_succ]
        refine wpAnyH_ready (rs := [11]) (by kernel_rfl) (by simp) ?_
        refine AllReadyH.cons rfl (fun K hK => ?_) AllReadyH.nil
        go_simp
        (try go_wp2_with fail)
        refine hK.out _ _ (hset _ _ e2) (fun _ => ?_)
        clear hK K
        (try simp only [Act.put, List.setIfInBounds_toArray, List.set_cons_zero, List.set_cons_succ])
        refine wpAnyH_done (by kernel_rfl) ?_ _
        go_wp2_with fail
        go_roundg (L - (k + 1))
        case measure => omega
        case rel =>
          obtain ⟨q1, q2, q3, q4⟩ := HQ.out
          obtain ⟨t1, t2, t3, t4⟩ := HE.out
          obtain ⟨a1, a2, a3⟩ := MgQ.ins hvn t1 hlv hlo t2 t3 q1 q2 q3 q4
          refine ⟨k + 1, by omega, Nat.le_refl _, by go_num, ⟨_, rfl⟩, _, r', a1, ?_, a2, a3⟩
          rw [← t4 _ ez.out]; exact q1
    · have hkL : Hid (k = L) := by show _ = _; omega
      have k1 : decide ((k : Int) < (L : Int)) = false := decide_eq_false (by omega)
      go_wp2_with fail
      refine bodyPost_end (results_none rfl _ _ _) rfl ?_
      refine ⟨rfl, ?_⟩
      have := HR.out
      rw [hkL.out] at this
      exact this
theorem merge_any (w : World) (tb rb gb D H P n : Nat) (s R : Int) (x v : Nat) (dist : List Int) (hv pv : List Value) (hops pars : List (List Int)) (hn : n ≤ 128)
    (hbox : Box w tb s D H P n) (hrt : w.cell? ⟨rb, 0, none⟩ = some (.int .i64 s)) (hgr : w.cell? ⟨gb, 0, none⟩ = some (.int .i64 R)) (hT : TR w D H P n dist hv pv hops pars) (hx : x < n) (hvn : v < n) (hne : x ≠ v)
    (hnt : tb ∉ trB D H P hv pv) (hnr : rb ∉ trB D H P hv pv) (hng : gb ∉ trB D H P hv pv)
    (bx : ∀ y ∈ gL hops x, 0 ≤ y ∧ y < (n : Int)) (bv : ∀ y ∈ gL hops v, 0 ≤ y ∧ y < (n : Int)) (av : (gL hops v).Pairwise (· < ·)) (ax : (gL hops x).Pairwise (· < ·)) :
    Calls Try.prog 44 #[.int .i64 (x : Int), .int .i64 (v : Int), .pointer (some ⟨rb, 0, none⟩), .pointer (some ⟨tb, 0, none⟩), .pointer (some ⟨gb, 0, none⟩)] w fun e w' => e = .returned (.tuple #[]) ∧
      MgL w D H P n dist hv pv hops pars R s x v (gL hops x).length w' := by
  by_cases hs : (x : Int) = s
  · exact merge_root w tb rb gb D H P n s R x v dist hv pv hops pars hn hbox hrt hgr hT hx hvn hne hnt hnr hng bx bv av ax hs
  · exact merge_other w tb rb gb D H P n s R x v dist hv pv hops pars hn hbox hrt hgr hT hx hvn hne hnt hnr hng bx bv av ax hs
end Go.Proofs.Ytmlpbhankgojpaa
