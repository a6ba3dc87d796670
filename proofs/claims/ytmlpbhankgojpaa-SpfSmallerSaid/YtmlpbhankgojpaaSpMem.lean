/-
  Rows of integers that stand in a row, in memory; the rows of a tree of shortest paths while it grows.
-/
import Derived.Test.YtmlpbhankgojpaaHpE
import Derived.Test.YtmlpbhankgojpaaSpI
namespace Go.Proofs.Ytmlpbhankgojpaa
open Go.RowKit HM SP
set_option linter.unusedSimpArgs false
set_option linter.unusedVariables false
set_option maxHeartbeats 4000000
set_option maxRecDepth 100000

def gVl (vs : List Value) (v : Nat) : Value := vs[v]?.getD (.slice none 0 0)
theorem gVl_get {vs : List Value} {p : Nat} (h : p < vs.length) : vs[p]? = some (gVl vs p) := by unfold gVl; simp [h]
theorem gVl_set {vs : List Value} {q p : Nat} {x : Value} (hq : q < vs.length) : gVl (vs.set q x) p = if p = q then x else gVl vs p := by
  unfold gVl; rw [List.getElem?_set]
  by_cases h : q = p
  · subst h; simp [hq]
  · rw [if_neg h, if_neg (fun e => h e.symm)]
def rblk (vs : List Value) : List Nat := vs.flatMap vblk
theorem mem_rblk {vs : List Value} {g : Nat} : g ∈ rblk vs ↔ ∃ v, v < vs.length ∧ (gVl vs v).ownBlock = some g := by
  unfold rblk
  rw [List.mem_flatMap]
  constructor
  · rintro ⟨x, h1, h2⟩
    obtain ⟨v, hv⟩ := List.getElem?_of_mem h1
    have hl := (List.getElem?_eq_some_iff.1 hv).1
    refine ⟨v, hl, ?_⟩
    rw [gVl_get hl] at hv; cases hv
    exact mem_vblk.1 h2
  · rintro ⟨v, h1, h2⟩
    exact ⟨gVl vs v, List.mem_of_getElem? (gVl_get h1), mem_vblk.2 h2⟩
/-- values of rows: each its own row of integers, no two in one block -/
structure RS (w : World) (vs : List Value) (rows : List (List Int)) : Prop where
  len : vs.length = rows.length
  row : ∀ v, v < rows.length → w.ownsRow 0 3 1 (gVl vs v) (gL rows v).length (ints (gL rows v))
  dis : ∀ u v g, u < rows.length → v < rows.length → (gVl vs u).ownBlock = some g → (gVl vs v).ownBlock = some g → u = v
section
variable {w w' : World} {vs : List Value} {rows : List (List Int)}
theorem RS.congr (h : RS w vs rows) (hk : ∀ g ∈ rblk vs, w'.heap[g]? = w.heap[g]?) : RS w' vs rows :=
  ⟨h.len, fun v hv => row_congr (h.row v hv) fun g hg => hk g (mem_rblk.2 ⟨v, by rw [h.len]; exact hv, hg⟩), h.dis⟩
theorem RS.lt (h : RS w vs rows) : ∀ g ∈ rblk vs, g < w.heap.size := fun g hg => by
  obtain ⟨v, h1, h2⟩ := mem_rblk.1 hg
  exact (row_lt (h.row v (by rw [← h.len]; exact h1)) h2).2
theorem RS.nils (w : World) (n : Nat) : RS w (List.replicate n (.slice none 0 0)) (List.replicate n []) := by
  have e : ∀ v, gVl (List.replicate n (.slice none 0 0)) v = .slice none 0 0 := fun v => by
    unfold gVl; rw [List.getElem?_replicate]; split <;> rfl
  have e2 : ∀ v, gL (List.replicate n ([] : List Int)) v = [] := fun v => by
    unfold gL; rw [List.getElem?_replicate]; split <;> rfl
  refine ⟨by simp, fun v hv => ?_, fun u v g _ _ h1 _ => ?_⟩
  · rw [e, e2]; exact World.ownsRow_nil _ _ _ _
  · rw [e] at h1; cases h1
theorem RS.put (h : RS w vs rows) {v : Nat} (hv : v < rows.length) {x : Value} {r : List Int} (hk : Kp (vblk (gVl vs v)) w w') (hr : w'.ownsRow 0 3 1 x r.length (ints r)) (hb : ∀ g, x.ownBlock = some g → (gVl vs v).ownBlock = some g ∨ w.heap.size ≤ g) : RS w' (vs.set v x) (rows.set v r) := by
  have hvl : v < vs.length := by rw [h.len]; exact hv
  refine ⟨by simp [h.len], fun u hu => ?_, fun u1 u2 g h1 h2 h3 h4 => ?_⟩
  · rw [List.length_set] at hu
    rw [gVl_set hvl, gL_set hv]
    by_cases e : u = v
    · rw [if_pos e, if_pos e]; exact hr
    · rw [if_neg e, if_neg e]
      exact row_kp (h.row u hu) hk fun g hg hm => e (h.dis u v g hu hv hg (mem_vblk.1 hm))
  · rw [List.length_set] at h1 h2
    rw [gVl_set hvl] at h3 h4
    have key : ∀ u, u < rows.length → u ≠ v → (gVl vs u).ownBlock = some g → x.ownBlock = some g → False := fun u hu hne hg hx => by
      rcases hb g hx with h5 | h5
      · exact hne (h.dis u v g hu hv hg h5)
      · have := (row_lt (h.row u hu) hg).2; omega
    by_cases e1 : u1 = v
    · by_cases e2 : u2 = v
      · rw [e1, e2]
      · rw [if_pos e1] at h3; rw [if_neg e2] at h4
        exact (key u2 h2 e2 h4 h3).elim
    · by_cases e2 : u2 = v
      · rw [if_neg e1] at h3; rw [if_pos e2] at h4
        exact (key u1 h1 e1 h3 h4).elim
      · rw [if_neg e1] at h3; rw [if_neg e2] at h4
        exact h.dis u1 u2 g h1 h2 h3 h4
theorem rblk_set {v : Nat} (hv : v < vs.length) {x : Value} {g : Nat} (hg : g ∈ rblk (vs.set v x)) : x.ownBlock = some g ∨ g ∈ rblk vs := by
  obtain ⟨u, h1, h2⟩ := mem_rblk.1 hg
  rw [List.length_set] at h1
  rw [gVl_set hv] at h2
  by_cases e : u = v
  · rw [if_pos e] at h2; exact .inl h2
  · rw [if_neg e] at h2; exact .inr (mem_rblk.2 ⟨u, h1, h2⟩)
theorem vblk_rblk {v : Nat} (hv : v < vs.length) {g : Nat} (hg : g ∈ vblk (gVl vs v)) : g ∈ rblk vs := mem_rblk.2 ⟨v, hv, mem_vblk.1 hg⟩
end
/-- the rows of a tree -/
structure TR (w : World) (D H P n : Nat) (dist : List Int) (hv pv : List Value) (hops pars : List (List Int)) : Prop where
  rd : w.ownsRow 0 3 1 (.slice (some ⟨D, 0, none⟩) n n) n (ints dist)
  rh : w.ownsRow 0 25 1 (.slice (some ⟨H, 0, none⟩) n n) n hv
  rp : w.ownsRow 0 25 1 (.slice (some ⟨P, 0, none⟩) n n) n pv
  hh : RS w hv hops
  pp : RS w pv pars
  dh : D ≠ H
  dp : D ≠ P
  hp : H ≠ P
  xh : ∀ g ∈ rblk hv, g ≠ D ∧ g ≠ H ∧ g ≠ P
  xp : ∀ g ∈ rblk pv, g ≠ D ∧ g ≠ H ∧ g ≠ P
  x : ∀ g ∈ rblk hv, g ∉ rblk pv
def trB (D H P : Nat) (hv pv : List Value) : List Nat := D :: H :: P :: (rblk hv ++ rblk pv)
section
variable {w w' : World} {D H P n : Nat} {dist : List Int} {hv pv : List Value} {hops pars : List (List Int)}
theorem TR.swap (h : TR w D H P n dist hv pv hops pars) : TR w D P H n dist pv hv pars hops :=
  ⟨h.rd, h.rp, h.rh, h.pp, h.hh, h.dp, h.dh, Ne.symm h.hp, fun g hg => ⟨(h.xp g hg).1, (h.xp g hg).2.2, (h.xp g hg).2.1⟩, fun g hg => ⟨(h.xh g hg).1, (h.xh g hg).2.2, (h.xh g hg).2.1⟩, fun g h1 h2 => h.x g h2 h1⟩
theorem TR.ld (h : TR w D H P n dist hv pv hops pars) : dist.length = n := by have := h.rd.1; rw [ints_len] at this; omega
theorem TR.lhv (h : TR w D H P n dist hv pv hops pars) : hv.length = n := by have := h.rh.1; omega
theorem TR.lh (h : TR w D H P n dist hv pv hops pars) : hops.length = n := by rw [← h.hh.len]; exact h.lhv
theorem TR.lp (h : TR w D H P n dist hv pv hops pars) : pars.length = n := h.swap.lh
theorem TR.lpv (h : TR w D H P n dist hv pv hops pars) : pv.length = n := h.swap.lhv
theorem TR.congr (h : TR w D H P n dist hv pv hops pars) (hk : ∀ g ∈ trB D H P hv pv, w'.heap[g]? = w.heap[g]?) : TR w' D H P n dist hv pv hops pars :=
  ⟨row_congr h.rd fun g hg => hk g (by simp [Value.ownBlock] at hg; simp [trB, hg]), row_congr h.rh fun g hg => hk g (by simp [Value.ownBlock] at hg; simp [trB, hg]), row_congr h.rp fun g hg => hk g (by simp [Value.ownBlock] at hg; simp [trB, hg]),
    h.hh.congr fun g hg => hk g (by simp [trB, hg]), h.pp.congr fun g hg => hk g (by simp [trB, hg]), h.dh, h.dp, h.hp, h.xh, h.xp, h.x⟩
theorem TR.lt (h : TR w D H P n dist hv pv hops pars) : ∀ g ∈ trB D H P hv pv, g < w.heap.size := fun g hg => by
  simp only [trB, List.mem_cons, List.mem_append] at hg
  rcases hg with rfl | rfl | rfl | hg | hg
  · exact (row_lt h.rd rfl).2
  · exact (row_lt h.rh rfl).2
  · exact (row_lt h.rp rfl).2
  · exact h.hh.lt g hg
  · exact h.pp.lt g hg
theorem TR.below (h : TR w D H P n dist hv pv hops pars) (k : Below w.heap.size w w') : TR w' D H P n dist hv pv hops pars := h.congr fun g hg => k.block g (h.lt g hg)
theorem TR.kp {S : List Nat} (h : TR w D H P n dist hv pv hops pars) (k : Kp S w w') (hn : ∀ g ∈ trB D H P hv pv, g ∉ S) : TR w' D H P n dist hv pv hops pars := h.congr fun g hg => k.block g (h.lt g hg) (hn g hg)
theorem TR.cd (h : TR w D H P n dist hv pv hops pars) {v : Nat} (hvn : v < n) : w.cell? ⟨D, v, none⟩ = some (.int .i64 (gI dist v)) := by
  rw [h.rd.cellAt v (by omega)]; exact ints_get (gI_get (by rw [h.ld]; exact hvn))
theorem TR.ch (h : TR w D H P n dist hv pv hops pars) {v : Nat} (hvn : v < n) : w.cell? ⟨H, v, none⟩ = some (gVl hv v) := by
  rw [h.rh.cellAt v (by omega)]; exact gVl_get (by rw [h.lhv]; exact hvn)
theorem TR.cp (h : TR w D H P n dist hv pv hops pars) {v : Nat} (hvn : v < n) : w.cell? ⟨P, v, none⟩ = some (gVl pv v) := h.swap.ch hvn
theorem TR.fd (h : TR w D H P n dist hv pv hops pars) (o : Nat) : w.frozen? ⟨D, o, none⟩ = false := h.rd.frozenAt o
theorem TR.fh (h : TR w D H P n dist hv pv hops pars) (o : Nat) : w.frozen? ⟨H, o, none⟩ = false := h.rh.frozenAt o
theorem TR.fp (h : TR w D H P n dist hv pv hops pars) (o : Nat) : w.frozen? ⟨P, o, none⟩ = false := h.rp.frozenAt o
theorem TR.setD (h : TR w D H P n dist hv pv hops pars) (v : Nat) (d : Int) : TR (w.setCell ⟨D, v, none⟩ (.int .i64 d)) D H P n (dist.set v d) hv pv hops pars := by
  have hs := (h.rd.stored v (.int .i64 d)).1
  rw [ints_set] at hs
  exact ⟨hs, row_congr h.rh fun g hg => heap_set_ne (by simp [Value.ownBlock] at hg; subst hg; exact Ne.symm h.dh), row_congr h.rp fun g hg => heap_set_ne (by simp [Value.ownBlock] at hg; subst hg; exact Ne.symm h.dp),
    h.hh.congr fun g hg => heap_set_ne (h.xh g hg).1, h.pp.congr fun g hg => heap_set_ne (h.xp g hg).1, h.dh, h.dp, h.hp, h.xh, h.xp, h.x⟩
/-- another row of hops -/
theorem TR.putH (h : TR w D H P n dist hv pv hops pars) {v : Nat} (hvn : v < n) {x : Value} {r : List Int} (hk : Kp (vblk (gVl hv v)) w w') (hr : w'.ownsRow 0 3 1 x r.length (ints r)) (hb : ∀ g, x.ownBlock = some g → (gVl hv v).ownBlock = some g ∨ w.heap.size ≤ g) :
    TR (w'.setCell ⟨H, v, none⟩ x) D H P n dist (hv.set v x) pv (hops.set v r) pars := by
  have hvl : v < hv.length := by rw [h.lhv]; exact hvn
  have hvo : v < hops.length := by rw [h.lh]; exact hvn
  have hin : ∀ g, g ∈ vblk (gVl hv v) → g ≠ D ∧ g ≠ H ∧ g ≠ P := fun g hg => h.xh g (vblk_rblk hvl hg)
  have lD := (row_lt h.rd rfl).2
  have lH := (row_lt h.rh rfl).2
  have lP := (row_lt h.rp rfl).2
  dsimp only at lD lH lP
  have hx : ∀ g ∈ rblk (hv.set v x), (g ≠ D ∧ g ≠ H ∧ g ≠ P) ∧ g ∉ rblk pv := fun g hg => by
    rcases rblk_set hvl hg with h1 | h1
    · rcases hb g h1 with h2 | h2
      · have := vblk_rblk hvl (mem_vblk.2 h2)
        exact ⟨h.xh g this, h.x g this⟩
      · exact ⟨⟨by omega, by omega, by omega⟩, fun hp => by have := h.pp.lt g hp; omega⟩
    · exact ⟨h.xh g h1, h.x g h1⟩
  have hbx : ∀ g, x.ownBlock = some g → g ≠ H := fun g hg => (hx g (mem_rblk.2 ⟨v, by rw [List.length_set]; exact hvl, by rw [gVl_set hvl, if_pos rfl]; exact hg⟩)).1.2.1
  have k1 : ∀ g, g < w.heap.size → g ∉ vblk (gVl hv v) → g ≠ H → (w'.setCell ⟨H, v, none⟩ x).heap[g]? = w.heap[g]? := fun g h1 h2 h3 => (heap_set_ne h3).trans (hk.block g h1 h2)
  have rs := h.hh.put hvo hk hr hb
  have hH := row_kp h.rh hk (fun g hg => by simp [Value.ownBlock] at hg; subst hg; exact fun hm => (hin _ hm).2.1 rfl)
  exact ⟨row_congr h.rd fun g hg => by simp [Value.ownBlock] at hg; subst hg; exact k1 _ lD (fun hm => (hin _ hm).1 rfl) h.dh,
    (hH.stored v x).1,
    row_congr h.rp fun g hg => by simp [Value.ownBlock] at hg; subst hg; exact k1 _ lP (fun hm => (hin _ hm).2.2 rfl) (Ne.symm h.hp),
    rs.congr fun g hg => heap_set_ne (hx g hg).1.2.1,
    h.pp.congr fun g hg => k1 g (h.pp.lt g hg) (fun hm => h.x g (vblk_rblk hvl hm) hg) (h.xp g hg).2.1,
    h.dh, h.dp, h.hp, fun g hg => (hx g hg).1, h.xp, fun g hg => (hx g hg).2⟩
theorem TR.putHB (h : TR w D H P n dist hv pv hops pars) {v : Nat} (hvn : v < n) {x : Value} (hb : ∀ g, x.ownBlock = some g → (gVl hv v).ownBlock = some g ∨ w.heap.size ≤ g) : ∀ g ∈ trB D H P (hv.set v x) pv, g ∈ trB D H P hv pv ∨ w.heap.size ≤ g := fun g hg => by
  have hvl : v < hv.length := by rw [h.lhv]; exact hvn
  simp only [trB, List.mem_cons, List.mem_append] at hg ⊢
  rcases hg with rfl | rfl | rfl | hg | hg
  · simp
  · simp
  · simp
  · rcases rblk_set hvl hg with h1 | h1
    · rcases hb g h1 with h2 | h2
      · have := vblk_rblk hvl (mem_vblk.2 h2); simp [this]
      · exact .inr h2
    · simp [h1]
  · simp [hg]
theorem TR.putHK (h : TR w D H P n dist hv pv hops pars) {v : Nat} (hvn : v < n) {x : Value} (hk : Kp (vblk (gVl hv v)) w w') : Kp (trB D H P hv pv) w (w'.setCell ⟨H, v, none⟩ x) := by
  have hvl : v < hv.length := by rw [h.lhv]; exact hvn
  exact (hk.mono fun g hg => by simp [trB, vblk_rblk hvl hg]).setCell (.inl (by simp [trB]))
theorem trB_swap {g : Nat} : g ∈ trB D P H pv hv ↔ g ∈ trB D H P hv pv := by
  simp only [trB, List.mem_cons, List.mem_append]; constructor <;> (intro h; rcases h with h | h | h | h | h <;> simp [h])
theorem TR.putP (h : TR w D H P n dist hv pv hops pars) {v : Nat} (hvn : v < n) {x : Value} {r : List Int} (hk : Kp (vblk (gVl pv v)) w w') (hr : w'.ownsRow 0 3 1 x r.length (ints r)) (hb : ∀ g, x.ownBlock = some g → (gVl pv v).ownBlock = some g ∨ w.heap.size ≤ g) :
    TR (w'.setCell ⟨P, v, none⟩ x) D H P n dist hv (pv.set v x) hops (pars.set v r) := (h.swap.putH hvn hk hr hb).swap
theorem TR.putPB (h : TR w D H P n dist hv pv hops pars) {v : Nat} (hvn : v < n) {x : Value} (hb : ∀ g, x.ownBlock = some g → (gVl pv v).ownBlock = some g ∨ w.heap.size ≤ g) : ∀ g ∈ trB D H P hv (pv.set v x), g ∈ trB D H P hv pv ∨ w.heap.size ≤ g := fun g hg => by
  have := h.swap.putHB hvn hb g (trB_swap.2 hg)
  rwa [trB_swap] at this
theorem TR.putPK (h : TR w D H P n dist hv pv hops pars) {v : Nat} (hvn : v < n) {x : Value} (hk : Kp (vblk (gVl pv v)) w w') : Kp (trB D H P hv pv) w (w'.setCell ⟨P, v, none⟩ x) := (h.swap.putHK hvn hk).mono fun g hg => trB_swap.1 hg
theorem TR.drewN (h : TR w D H P n dist hv pv hops pars) (q : Nat) : TR (w.drewN q) D H P n dist hv pv hops pars := h.congr fun _ _ => rfl
end
end Go.Proofs.Ytmlpbhankgojpaa
