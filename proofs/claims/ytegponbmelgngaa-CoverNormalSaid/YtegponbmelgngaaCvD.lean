/-
  What combine's closure knows of its lists; its calls of uniform and split.
-/
import Derived.Test.YtegponbmelgngaaCvC
import Derived.Test.YtegponbmelgngaaCvA
import Derived.WalkSmall
namespace Go.Proofs.Ytegponbmelgngaa
open Go.RowKit
set_option linter.unusedSimpArgs false
set_option linter.unusedVariables false
set_option maxHeartbeats 4000000
set_option maxRecDepth 100000

/-- an ascending list of valid prefixes, as it is known at a block -/
structure GL (S : Nat → Bool) (A k : Nat) (l : List PP) : Prop where
  len : l.length ≤ 4294967296
  val : ∀ x ∈ l, x.1 < 4294967296 ∧ V x = true
  asc : l.Pairwise ltP
  inv : CM.Inv S (l.map blk) A k
theorem V_I64 {x : PP} (h : V x = true) : I64 x.2 := by have := (V_iff x).1 h; constructor <;> omega
def uniB (l : List PP) (p : PP) : Bool := match l with
  | [] => true
  | x :: _ => C x p
theorem uni_any (l : List PP) (v : Value) (p : PP) (hp : p.1 < 4294967296 ∧ I64 p.2) (hv : ∀ x ∈ l, x.1 < 4294967296 ∧ V x = true) (W : World) (hr : Rd W v l) :
    Calls Try.prog 106 #[v, .agg #[.int .u32 (p.1 : Int), .int .i64 p.2]] W fun e w' => e = .returned (.bool (uniB l p)) ∧ Below W.heap.size W w' := by
  cases l with
  | nil => obtain ⟨ad, cap, rfl, _⟩ := hr; exact uniform_nil ad cap p W
  | cons x r => exact uniform_cons x r v p W hr ⟨(hv x (by simp)).1, V_I64 (hv x (by simp)).2⟩ hp
theorem C_of_block {p q : PP} (hp : V p = true) (hq : V q = true) (h1 : (blk p).1 ≤ (blk q).1) (h2 : (blk q).1 + 2 ^ (blk q).2 ≤ (blk p).1 + 2 ^ (blk p).2) : C p q = true := by
  have i := (V_iff p).1 hp
  have j := (V_iff q).1 hq
  have hpp := CM.pow_pos' (blk q).2
  have hle : (blk q).2 ≤ (blk p).2 := Nat.le_of_not_lt fun hlt => by
    have := CM.pow_le' (show (blk p).2 + 1 ≤ (blk q).2 by omega)
    have e : 2 ^ ((blk p).2 + 1) = 2 ^ (blk p).2 + 2 ^ (blk p).2 := by rw [Nat.pow_succ]; omega
    have := CM.pow_pos' (blk p).2
    omega
  have hlen : p.2 ≤ q.2 := by unfold blk at hle; dsimp only at hle; omega
  show cov p.1 p.2 q.1 q.2 = true
  rw [cov_in hq hlen]
  exact (con_in hp q.1).2 ⟨h1, by show q.1 < p.1 + 2 ^ (blk p).2; show (blk q).1 < (blk p).1 + 2 ^ (blk p).2; omega⟩
theorem C_blk {p q : PP} (h : C p q = true) : (blk q).2 ≤ (blk p).2 := by
  have := C_V h
  unfold blk; dsimp only; omega
theorem GL.uni {S : Nat → Bool} {A k : Nat} {l : List PP} (h : GL S A k l) (hk : k ≤ 32) (ha : A % 2 ^ k = 0) : (uniB l (pfx (A, k)) = true ∧ ((l = [] ∧ ∀ y, A ≤ y → y < A + 2 ^ k → S y = false) ∨ (l ≠ [] ∧ CM.full S A k))) ∨ (uniB l (pfx (A, k)) = false ∧ l ≠ [] ∧ CM.Lies S (l.map blk) A k ∧ ∀ x ∈ l.map blk, x.2 < k) := by
  cases h.inv with
  | none he hs =>
    obtain rfl := List.map_eq_nil_iff.1 he
    exact .inl ⟨rfl, .inl ⟨rfl, hs⟩⟩
  | whole x r he hx h1 h2 hs =>
    cases l with
    | nil => cases he
    | cons p q =>
      simp at he
      obtain ⟨rfl, _⟩ := he
      refine .inl ⟨C_of_block (h.val p (by simp)).2 (V_pfx hk ha) ?_ ?_, .inr ⟨by simp, hs⟩⟩
      · rw [blk_pfx (x := (A, k)) hk]; exact h1
      · rw [blk_pfx (x := (A, k)) hk]; exact h2
  | parts hne hl hk' =>
    cases l with
    | nil => exact absurd rfl hne
    | cons p q =>
      refine .inr ⟨?_, by simp, hl, hk'⟩
      show C p (pfx (A, k)) = false
      refine Bool.eq_false_iff.2 fun hc => ?_
      have := C_blk hc
      rw [blk_pfx (x := (A, k)) hk] at this
      have := hk' (blk p) (by simp)
      omega
/-- what split hands back -/
theorem RdK.below {K : Nat → Prop} {w W : World} {v : Value} {l : List PP} (hr : RdK K w v l) (hW : Below w.heap.size w W) : RdK K W v l := by
  obtain ⟨ad, cap, rfl, hcap, hc⟩ := hr
  exact ⟨ad, cap, rfl, hcap, fun i x hx => by obtain ⟨b, off, e, hK, h0, h1⟩ := hc i x hx; exact ⟨b, off, e, hK, carry hW h0, carry hW h1⟩⟩
def SplPost (S : Nat → Bool) (K : Nat → Prop) (A k : Nat) (W : World) : Ending → World → Prop := fun e w' => ∃ v1 v2 l1 l2, e = .returned (.tuple #[v1, v2]) ∧ RdK K w' v1 l1 ∧ RdK K w' v2 l2 ∧ GL S A k l1 ∧ GL S (A + 2 ^ k) k l2 ∧ Below W.heap.size W w'
theorem spl_any (S : Nat → Bool) (K : Nat → Prop) (A k : Nat) (l : List PP) (v : Value) (W : World) (hk : k + 1 ≤ 32) (ha : A % 2 ^ (k + 1) = 0) (htop : A + 2 ^ (k + 1) ≤ 4294967296) (h : GL S A (k + 1) l) (hrW : RdK K W v l) (n : Int) (hn : n = ((32 - (k + 1) : Nat) : Int)) :
    Calls Try.prog 107 #[v, .agg #[.int .u32 (A : Int), .int .i64 n], .agg #[.int .u32 ((A + 2 ^ k : Nat) : Int), .int .i64 (n + 1)]] W (SplPost S K A k W) := by
  have hp := CM.pow_pos' k
  have e2 : 2 ^ (k + 1) = 2 ^ k + 2 ^ k := by rw [Nat.pow_succ]; omega
  have hpf : pfx (A, k + 1) = (A, n) := by unfold pfx; rw [hn]
  have hpf2 : pfx (A + 2 ^ k, k) = (A + 2 ^ k, n + 1) := by unfold pfx; refine Prod.ext rfl ?_; dsimp only; omega
  have hI : I64 n := by constructor <;> omega
  have hU : ∀ W', Below W.heap.size W W' → Calls Try.prog 106 #[v, .agg #[.int .u32 (A : Int), .int .i64 n]] W' fun e w' => e = .returned (.bool (uniB l (pfx (A, k + 1)))) ∧ Below W'.heap.size W' w' := fun W' hW' => by
    rw [hpf]; exact uni_any l v (A, n) ⟨by show A < _; omega, hI⟩ h.val W' (hrW.rd.below hW')
  rcases h.uni hk ha with ⟨hu, hcase⟩ | ⟨hu, hne, hl, hsm⟩
  · rw [hu] at hU
    refine (split_true v (A, n) (A + 2 ^ k, n + 1) W hU).mono ?_
    rintro e w' ⟨rfl, hb⟩
    have hlow := h.inv.low (by
      cases l with
      | nil => exact .inl rfl
      | cons p q =>
        refine .inr ⟨blk p, q.map blk, rfl, ?_⟩
        have := C_blk (show C p (pfx (A, k + 1)) = true from hu)
        rwa [blk_pfx (x := (A, k + 1)) hk] at this)
    exact ⟨v, v, l, l, rfl, hrW.below hb, hrW.below hb, ⟨h.len, h.val, h.asc, hlow.1⟩, ⟨h.len, h.val, h.asc, hlow.2⟩, hb⟩
  · rw [hu] at hU
    refine (split_false K l v (A, n) (A + 2 ^ k, n + 1) W h.len h.asc hrW hne hU).mono ?_
    rintro e w' ⟨v1, v2, i, rfl, hr1, hr2, hI, hb⟩
    have hap : l.map blk = (l.take i).map blk ++ (l.drop i).map blk := by rw [← List.map_append, List.take_append_drop]
    have hsp := CM.Lies.split (l := (l.take i).map blk) (m := (l.drop i).map blk) ha (by rw [← hap]; exact hl) (by rw [← hap]; exact hsm)
      (fun x hx => by
        obtain ⟨p, hp, rfl⟩ := List.mem_map.1 hx
        have := (ltB_blk (h.val p (List.mem_of_mem_take hp)).2 (V_pfx (x := (A + 2 ^ k, k)) (by dsimp only; omega) (by dsimp only; rw [Nat.add_mod_right]; exact CM.mod_of_le (Nat.le_succ k) ha))).2 (by rw [hpf2]; exact hI.2.2.1 p hp)
        rwa [blk_pfx (x := (A + 2 ^ k, k)) (by dsimp only; omega)] at this)
      (fun x hx hlt => by
        obtain ⟨p, hp, rfl⟩ := List.mem_map.1 hx
        refine hI.2.2.2 p hp ?_
        rw [← hpf2]
        refine (ltB_blk (h.val p (List.mem_of_mem_drop hp)).2 (V_pfx (x := (A + 2 ^ k, k)) (by dsimp only; omega) (by dsimp only; rw [Nat.add_mod_right]; exact CM.mod_of_le (Nat.le_succ k) ha))).1 ?_
        rw [blk_pfx (x := (A + 2 ^ k, k)) (by dsimp only; omega)]; exact hlt)
    have hl1 := List.length_take_le i l
    exact ⟨v1, v2, _, _, rfl, hr1.below hb, hr2.below hb,
      ⟨by have := h.len; have := hI.2.1; rw [List.length_take]; omega, fun x hx => h.val x (List.mem_of_mem_take hx), h.asc.sublist (List.take_sublist _ _), hsp.1⟩,
      ⟨by have := h.len; rw [List.length_drop]; omega, fun x hx => h.val x (List.mem_of_mem_drop hx), h.asc.sublist (List.drop_sublist _ _), hsp.2⟩, hb⟩
/-- the last two of the result are the halves if and only if each half's list is that half -/
theorem tail_halves {S : Nat → Bool} {A k : Nat} {L : List PP} {l m : List (Nat × Nat)} (hl : CM.NrmB S k A l) (hm : CM.NrmB S k (A + 2 ^ k) m) (hk : k ≤ 32) (hL : ∀ x ∈ L, (blk x).1 + 2 ^ (blk x).2 ≤ A) {N : Nat} (hN : N = (L ++ l.map pfx ++ m.map pfx).length) (h2 : 2 ≤ N)
    (h0 : (L ++ l.map pfx ++ m.map pfx)[N - 2]? = some (pfx (A, k))) (h1 : (L ++ l.map pfx ++ m.map pfx)[N - 1]? = some (pfx (A + 2 ^ k, k))) : l = [(A, k)] ∧ m = [(A + 2 ^ k, k)] := by
  have hp := CM.pow_pos' k
  have bl : blk (pfx (A, k)) = (A, k) := blk_pfx hk
  have bh : blk (pfx (A + 2 ^ k, k)) = (A + 2 ^ k, k) := blk_pfx hk
  have hX : (L ++ l.map pfx ++ m.map pfx).getLast? = some (pfx (A + 2 ^ k, k)) := by rw [List.getLast?_eq_getElem?, ← hN]; exact h1
  have hm1 : m = [(A + 2 ^ k, k)] := by
    rcases List.eq_nil_or_concat m with rfl | ⟨m', z, rfl⟩
    · exfalso
      have hmem := List.mem_of_getElem? h1
      simp only [List.map_nil, List.append_nil] at hmem
      rcases List.mem_append.1 hmem with hx | hx
      · have := hL _ hx; rw [bh] at this; dsimp only at this; omega
      · obtain ⟨y, hy, he⟩ := List.mem_map.1 hx
        have hwi := hl.wi y hy
        have := congrArg blk he
        rw [blk_pfx (Nat.le_trans (hl.le y hy) hk), bh] at this
        rw [this] at hwi; dsimp only at hwi; omega
    · rw [List.concat_eq_append] at *
      rw [List.map_append, ← List.append_assoc, List.map_cons, List.map_nil, List.getLast?_concat] at hX
      have hz := congrArg blk (Option.some.inj hX)
      have hzm : z ∈ m' ++ [z] := by simp
      rw [blk_pfx (Nat.le_trans (hm.le z hzm) hk), bh] at hz
      exact hm.single hzm (by rw [hz])
  refine ⟨?_, hm1⟩
  subst hm1
  have hN2 : N = (L ++ l.map pfx).length + 1 := by rw [hN]; simp; omega
  have hY : (L ++ l.map pfx).getLast? = some (pfx (A, k)) := by
    have e := h0
    rw [List.getElem?_append_left (show N - 2 < (L ++ l.map pfx).length by omega)] at e
    rw [List.getLast?_eq_getElem?, ← e, hN2]
    rfl
  rcases List.eq_nil_or_concat l with rfl | ⟨l', z, rfl⟩
  · exfalso
    simp only [List.map_nil, List.append_nil] at hY
    have := hL _ (List.mem_of_getLast? hY)
    rw [bl] at this; dsimp only at this; omega
  · rw [List.concat_eq_append] at *
    rw [List.map_append, ← List.append_assoc, List.map_cons, List.map_nil, List.getLast?_concat] at hY
    have hz := congrArg blk (Option.some.inj hY)
    have hzm : z ∈ l' ++ [z] := by simp
    rw [blk_pfx (Nat.le_trans (hl.le z hzm) hk), bl] at hz
    exact hl.single hzm (by rw [hz])
end Go.Proofs.Ytegponbmelgngaa
