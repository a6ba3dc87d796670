/-
  The walk of aggregate.newRegion.
  The walks of maps.Keys, slices.Collect and slices.Min at sets.
  The walk of region.entries.
-/
import Derived.Test.YtegponbmelgngaaMgAd
import Derived.LoopN
section
namespace Go.Proofs.Ytegponbmelgngaa
open Go.RowKit
set_option linter.unusedSimpArgs false
set_option linter.unusedVariables false
set_option maxHeartbeats 1500000
set_option maxRecDepth 100000

/-- what newRegion answers -/
def NewR (K : Nat) : Prop := ∀ (n A : Nat) (ad : Option Addr) (N cap : Nat) (r : List En) (x : Int) (w : World), n + K = 32 → A % 2 ^ K = 0 → A + 2 ^ K ≤ 4294967296 → UnE w A K ad N cap r → I64 x →
  Calls Try.prog 95 #[.agg #[.int .u32 (A : Int), .int .i64 (n : Int)], .slice ad N cap, .int .i64 x] w fun e w' => ∃ g, e = .returned (.pointer (some ⟨g, 0, none⟩)) ∧ RegM w' (AG.reg K A (r.map toBe) x) g ∧ Below w.heap.size w w'
/-- the state behind the block's own entry -/
def Mid (w : World) (K A n : Nat) (R : AG.RT) (ad : Option Addr) (N cap : Nat) (r : List En) (x : Int) (W : World) : Prop :=
  Below w.heap.size w W ∧ W.heap[w.heap.size]? = some (.cells #[.int .u32 (A : Int), .int .i64 (n : Int)] 28 (0, 0)) ∧ UnE W A K ad N cap r ∧ (∀ e ∈ r.map toBe, e.1.2 < K) ∧ I64 x ∧ R = regB K A (r.map toBe) x
theorem root_no {r : List En} {A K n : Nat} (hn : n + K = 32) (hv : ∀ e ∈ r, V e.1 = true) (h : ¬ ∃ y q, r = ((A, (n : Int)), y) :: q) : AG.root A K (r.map toBe) = (none, r.map toBe) := by
  cases r with
  | nil => rfl
  | cons e q =>
    show (if (toBe e).1 = (A, K) then _ else _) = _
    refine if_neg fun g => h ⟨e.2, q, ?_⟩
    have e1 : e.1 = pfx (A, K) := by rw [← g]; exact (pfx_blk (hv e (by simp))).symm
    have e2 : pfx (A, K) = (A, (n : Int)) := by
      show (A, ((32 - K : Nat) : Int)) = _
      rw [show 32 - K = n by omega]
    rw [← e2, ← e1]
theorem root_yes {q : List En} {A K n : Nat} {y : Int} (hn : n + K = 32) : AG.root A K ((((A, (n : Int)), y) :: q).map toBe) = (some y, q.map toBe) := by
  have e1 : toBe ((A, (n : Int)), y) = ((A, K), y) := by
    show ((A, 32 - (n : Int).toNat), y) = _
    rw [show 32 - (n : Int).toNat = K by omega]
  rw [List.map_cons, e1]
  exact AG.root_cons A K y _
theorem mid_no {w W : World} {K A n : Nat} {ad : Option Addr} {N cap : Nat} {r : List En} {x : Int} {R : AG.RT} (hn : n + K = 32) (hu : UnE w A K ad N cap r) (hx : I64 x) (hR : R = AG.reg K A (r.map toBe) x) (hb : Below w.heap.size w W) (hc : W.heap[w.heap.size]? = some (.cells #[.int .u32 (A : Int), .int .i64 (n : Int)] 28 (0, 0)))
    (h : ¬ ∃ y q, r = ((A, (n : Int)), y) :: q) : Mid w K A n R ad N cap r x W := by
  have hr := root_no hn hu.val h
  have h1 := (AG.root_frag hu.frag).2.1
  rw [hr] at h1
  refine ⟨hb, hc, hu.below hb, h1, hx, ?_⟩
  rw [hR, reg_B, hr]; rfl
theorem mid_yes {w W : World} {K A n : Nat} {p : Addr} {N cap : Nat} {q : List En} {x y : Int} {R : AG.RT} (hn : n + K = 32) (hu : UnE w A K (some p) N cap (((A, (n : Int)), y) :: q)) (hR : R = AG.reg K A ((((A, (n : Int)), y) :: q).map toBe) x) (hb : Below w.heap.size w W) (hc : W.heap[w.heap.size]? = some (.cells #[.int .u32 (A : Int), .int .i64 (n : Int)] 28 (0, 0))) :
    (cap = 1 → ∀ ad', Mid w K A n R ad' 0 0 q y W) ∧ Mid w K A n R (some (p.add (1 * 3))) (N - 1) (cap - 1) q y W := by
  have hr := root_yes (q := q) (y := y) hn (A := A)
  have h1 := AG.root_frag hu.frag
  rw [hr] at h1
  have hy : I64 y := (hu.fit ((A, (n : Int)), y) (by simp)).2.2
  have hRR : R = regB K A (q.map toBe) y := by rw [hR, reg_B, hr]; rfl
  have hN := hu.len
  have hle := hu.le
  rw [List.length_cons] at hN
  have hd : (((A, (n : Int)), y) :: q).drop 1 = q := rfl
  refine ⟨fun e ad' => ⟨hb, hc, ?_, h1.2.1, hy, hRR⟩, hb, hc, ?_, h1.2.1, hy, hRR⟩
  · have := (hu.below hb).none (ad' := ad') (A' := A) (K' := K) (i := 1) (by omega) (by rw [hd]; exact h1.1)
    rwa [hd] at this
  · have := (hu.below hb).high (A' := A) (K' := K) (i := 1) (by omega) (by rw [hd]; exact h1.1)
    rwa [hd] at this
theorem node_A {wc w8 : World} {rl rr : AG.RT} {gl gr gm A n K : Nat} {b : List Int} (hl : RegM wc rl gl) (hr : RegM wc rr gr) (hb : Below wc.heap.size wc w8) (hm : SetM w8 gm (2 ^ K) b) (hk : K ≤ 32) (hn : 32 - K = n) :
    RegM ((w8.alloc (.cells #[.pointer (some ⟨gl, 0, none⟩), .pointer (some ⟨gr, 0, none⟩)] 104)).alloc (.cells #[.int .u32 (A : Int), .int .i64 (n : Int), .map (some gm), .slice (some ⟨w8.heap.size, 0, none⟩) 2 2] 139)) (.node A K b rl rr) (w8.heap.size + 1) := by
  have B1 := below_alloc w8 (.cells #[.pointer (some ⟨gl, 0, none⟩), .pointer (some ⟨gr, 0, none⟩)] 104)
  have B2 := below_alloc (w8.alloc (.cells #[.pointer (some ⟨gl, 0, none⟩), .pointer (some ⟨gr, 0, none⟩)] 104)) (.cells #[.int .u32 (A : Int), .int .i64 (n : Int), .map (some gm), .slice (some ⟨w8.heap.size, 0, none⟩) 2 2] 139)
  refine ⟨hk, gm, w8.heap.size, gl, gr, ?_, (hm.below B1).below B2, ?_, RegM.below B2 (RegM.below B1 (RegM.below hb hl)), RegM.below B2 (RegM.below B1 (RegM.below hb hr))⟩
  · rw [hn]
    have := heap_alloc_new (w8.alloc (.cells #[.pointer (some ⟨gl, 0, none⟩), .pointer (some ⟨gr, 0, none⟩)] 104)) (.cells #[.int .u32 (A : Int), .int .i64 (n : Int), .map (some gm), .slice (some ⟨w8.heap.size, 0, none⟩) 2 2] 139)
    rwa [World.size_alloc] at this
  · exact (B2.block _ (by simp)).trans (heap_alloc_new _ _)
theorem node_B {wc w8 : World} {rl rr : AG.RT} {gl gr gm A n K : Nat} {b : List Int} (hl : RegM wc rl gl) (hr : RegM wc rr gr) (hb : Below (wc.alloc (.cells #[.pointer (some ⟨gl, 0, none⟩), .pointer (some ⟨gr, 0, none⟩)] 104)).heap.size (wc.alloc (.cells #[.pointer (some ⟨gl, 0, none⟩), .pointer (some ⟨gr, 0, none⟩)] 104)) w8) (hm : SetM w8 gm (2 ^ K) b) (hk : K ≤ 32) (hn : 32 - K = n) :
    RegM (w8.alloc (.cells #[.int .u32 (A : Int), .int .i64 (n : Int), .map (some gm), .slice (some ⟨wc.heap.size, 0, none⟩) 2 2] 139)) (.node A K b rl rr) w8.heap.size := by
  have B1 := below_alloc wc (.cells #[.pointer (some ⟨gl, 0, none⟩), .pointer (some ⟨gr, 0, none⟩)] 104)
  have B2 := below_alloc w8 (.cells #[.int .u32 (A : Int), .int .i64 (n : Int), .map (some gm), .slice (some ⟨wc.heap.size, 0, none⟩) 2 2] 139)
  have h1 : w8.heap[wc.heap.size]? = some (.cells #[.pointer (some ⟨gl, 0, none⟩), .pointer (some ⟨gr, 0, none⟩)] 104 (0, 0)) := (hb.block _ (by simp)).trans (heap_alloc_new _ _)
  refine ⟨hk, gm, wc.heap.size, gl, gr, ?_, hm.below B2, (B2.block _ (ltO h1)).trans h1, RegM.below B2 (RegM.below hb (RegM.below B1 hl)), RegM.below B2 (RegM.below hb (RegM.below B1 hr))⟩
  rw [hn]
  exact heap_alloc_new _ _
theorem below_undrew {B : Nat} {a w : World} (h : Below B a.drew w) : Below B a w := ⟨h.os, h.tape, h.output, h.size, h.block⟩
theorem newRegion_step (K : Nat) (IH : ∀ K', K = K' + 1 → NewR K') : NewR K := by
  intro n A ad N cap r x w hn ha htop hu hx
  have HU := Lib.hid hu
  have HIH := Lib.hid IH
  have HX := Lib.hid hx
  have HAR : Hid (n + K = 32 ∧ A % 2 ^ K = 0 ∧ A + 2 ^ K ≤ 4294967296) := ⟨hn, ha, htop⟩
  obtain ⟨R, hR⟩ : ∃ R, R = AG.reg K A (r.map toBe) x := ⟨_, rfl⟩
  have HB1 : Hid (Below w.heap.size w (w.alloc (.cells #[.int .u32 (A : Int), .int .i64 (n : Int)] 28)) ∧ (w.alloc (.cells #[.int .u32 (A : Int), .int .i64 (n : Int)] 28)).heap[w.heap.size]? = some (.cells #[.int .u32 (A : Int), .int .i64 (n : Int)] 28 (0, 0))) := ⟨below_alloc _ _, heap_alloc_new _ _⟩
  rw [← hR]
  have HRR := Lib.hid hR
  clear IH hx hR ha htop
  have hN := hu.len
  have hcap := hu.le
  have hbig := hu.big
  clear hu
  go_enter Try.func95, Try.ntmps95
  go_wp2_with fail
  go_cut [24] (fun sb wx => ∃ tb : Bool, sb = .bool tb ∧ Hid (Below w.heap.size w wx ∧ wx.heap[w.heap.size]? = some (.cells #[.int .u32 (A : Int), .int .i64 (n : Int)] 28 (0, 0)) ∧ (tb = true ↔ ∃ y q, r = ((A, (n : Int)), y) :: q)))
  case first =>
    cases r with
    | nil =>
      have h0 : N = 0 := hN
      clear hN hbig hcap
      subst h0
      have hd : decide ((0 : Int) > 0) = false := by decide
      go_quiet (fail)
      go_wp2
      go_meet
      case rel => exact ⟨false, rfl, below_drewN HB1.out.1 _, HB1.out.2, ⟨(fun h => by cases h), (fun ⟨y, q, h⟩ => by cases h)⟩⟩
    | cons e q =>
      obtain ⟨b, off, hbb, hbl, c0, c1, c2⟩ : ∃ b off, ad = some ⟨b, off, none⟩ ∧ b < w.heap.size ∧ w.cell? ⟨b, off + 0 * 3, none⟩ = some (.int .u32 (e.1.1 : Int)) ∧ w.cell? ⟨b, off + 0 * 3 + 1, none⟩ = some (.int .i64 e.1.2) ∧ w.cell? ⟨b, off + 0 * 3 + 2, none⟩ = some (.int .i64 e.2) := by
        obtain ⟨ad', cap', e1, hc⟩ := HU.out.rd
        cases e1
        exact hc 0 e rfl
      subst hbb
      have f0 := carryE HB1.out.1 hbl c0
      have f1 := carryE HB1.out.1 hbl c1
      rw [Nat.zero_mul, Nat.add_zero] at f0 f1
      have hpos : 0 < N := by rw [hN]; simp
      have hd : decide ((N : Int) > 0) = true := decide_eq_true (by omega)
      have g0 := cellO HB1.out.2 (o := 0) rfl
      have g1 := cellO HB1.out.2 (o := 1) rfl
      obtain ⟨⟨a', n'⟩, y⟩ := e
      dsimp only at f0 f1
      clear c0 c1 c2 hbl hN
      generalize w.alloc (.cells #[.int .u32 (A : Int), .int .i64 (n : Int)] 28) = w1 at *
      by_cases ha : a' = A
      · subst ha
        by_cases hnn : n' = (n : Int)
        · subst hnn
          go_quiet (fail)
          go_wp2
          go_meet
          case rel => exact ⟨true, rfl, below_drewN HB1.out.1 _, HB1.out.2, ⟨(fun h => ⟨y, q, rfl⟩), (fun _ => rfl)⟩⟩
        · have k2 : decide (n' = (n : Int)) = false := decide_eq_false hnn
          go_quiet (fail)
          go_wp2
          go_meet
          case rel => exact ⟨false, rfl, below_drewN HB1.out.1 _, HB1.out.2, ⟨(fun h => by cases h), (fun ⟨y', q', h⟩ => by cases h; exact absurd rfl hnn)⟩⟩
      · have k1 : ¬ (a' : Int) = (A : Int) := by omega
        have k2 : decide ((a' : Int) = (A : Int)) = false := decide_eq_false k1
        go_quiet (fail)
        go_wp2
        go_meet
        case rel => exact ⟨false, rfl, below_drewN HB1.out.1 _, HB1.out.2, ⟨(fun h => by cases h), (fun ⟨y', q', h⟩ => by cases h; exact absurd rfl ha)⟩⟩
  case rest =>
    as_aux_lemma =>
    obtain ⟨tb, rfl, HT⟩ := hcut
    clear HB1
    go_upto_if 24 with (fail)
    go_cut [1, 2] (fun s1 s2 wx => ∃ (ad' : Option Addr) (N' cap' : Nat) (r' : List En) (x' : Int), s1 = .slice ad' N' cap' ∧ s2 = .int .i64 x' ∧ Hid (Mid w K A n R ad' N' cap' r' x' wx))
    case first =>
      cases tb with
      | false =>
        have HM : Hid (Mid w K A n R ad N cap r x wc) := mid_no HAR.out.1 HU.out HX.out HRR.out HT.out.1 HT.out.2.1 (fun h => by have := HT.out.2.2.2 h; cases this)
        clear HIH hN hcap hbig hn
        go_wp2
        go_meet
        case rel => exact ⟨ad, N, cap, r, x, rfl, rfl, HM⟩
      | true =>
        obtain ⟨y, q, rfl⟩ := HT.out.2.2.1 rfl
        obtain ⟨b, off, hbb, hbl, c0, c1, c2⟩ : ∃ b off, ad = some ⟨b, off, none⟩ ∧ b < w.heap.size ∧ w.cell? ⟨b, off + 0 * 3, none⟩ = some (.int .u32 (A : Int)) ∧ w.cell? ⟨b, off + 0 * 3 + 1, none⟩ = some (.int .i64 (n : Int)) ∧ w.cell? ⟨b, off + 0 * 3 + 2, none⟩ = some (.int .i64 y) := by
          obtain ⟨ad', cap', e1, hc⟩ := HU.out.rd
          cases e1
          exact hc 0 _ rfl
        subst hbb
        have f2 := carryE HT.out.1 hbl c2
        rw [Nat.zero_mul, Nat.add_zero] at f2
        have hpos : 0 < N := by rw [hN]; simp
        have HM : Hid (∀ k, (cap = 1 → ∀ ad', Mid w K A n R ad' 0 0 q y (wc.drewN k)) ∧ Mid w K A n R (some ((⟨b, off, none⟩ : Addr).add (1 * 3))) (N - 1) (cap - 1) q y (wc.drewN k)) := fun k => mid_yes HAR.out.1 HU.out HRR.out (below_drewN HT.out.1 k) HT.out.2.1
        clear HIH c0 c1 c2 hbl hN HT HRR HU hn
        by_cases hc1 : cap = 1
        · subst hc1
          go_wp2_with fail
          go_quiet (fail)
          go_wp2
          go_meet
          case rel => exact ⟨_, _, _, q, y, rfl, rfl, (HM.out _).1 trivial _⟩
        · have hc2 : ¬ 1 = cap := fun e => hc1 e.symm
          go_wp2_with fail
          go_quiet (fail)
          go_wp2
          go_meet
          case rel => exact ⟨_, _, _, q, y, rfl, rfl, (HM.out _).2⟩
    case rest =>
      as_aux_lemma =>
      obtain ⟨ad', N', cap', r', x', rfl, rfl, HM⟩ := hcut
      clear HT HU HRR hN hcap hbig HX hn
      have g0 := cellO HM.out.2.1 (o := 0) rfl
      have g1 := cellO HM.out.2.1 (o := 1) rfl
      have hlen := HM.out.2.2.1.len
      by_cases hr : r' = []
      · subst hr
        obtain rfl : N' = 0 := hlen
        have HR : Hid (R = .leaf A K x' ∧ I64 x') := ⟨by rw [HM.out.2.2.2.2.2]; exact regB_nil K A x', HM.out.2.2.2.2.1⟩
        have HB : Hid (Below w.heap.size w wc) := HM.out.1
        clear HM HIH
        have hmm := @run_makeMap Try.prog
        have H1K := CM.pow_pos' K
        have HARK := HAR.out.1
        go_wp2_with (refine wp_insS rfl _ _ _ 136 rfl Try.underlying136 wc.heap.size 0 [] rfl (setM_made wc) (by decide) x' rfl rfl HR.out.2 ?_; intro w1 h1 hg1; have H1 : Hid (SetM w1 wc.heap.size (2 ^ K) [x'] ∧ Below w.heap.size w w1) := ⟨h1.mono (by omega), (HB.out.alloc HB.out.size _).grown hg1 (by have := HB.out.size; simp; omega) (fun k e => by cases e; exact HB.out.size)⟩; clear h1 hg1)
        go_ret
        refine ⟨w1.heap.size, rfl, ?_, H1.out.2.alloc H1.out.2.size _⟩
        rw [HR.out.1]
        refine ⟨by omega, wc.heap.size, ?_, H1.out.1.below (below_alloc _ _)⟩
        rw [show 32 - K = n by omega]
        exact heap_alloc_new _ _
      · obtain ⟨K', rfl⟩ : ∃ K', K = K' + 1 := by
          cases r' with
          | nil => exact absurd rfl hr
          | cons e q =>
            have := HM.out.2.2.2.1 (toBe e) (by simp)
            exact ⟨K - 1, by omega⟩
        have hne : ¬ r'.map toBe = [] := by simpa using hr
        obtain ⟨M, hM⟩ : ∃ M, M = A + 2 ^ K' := ⟨_, rfl⟩
        have hnn : n + (K' + 1) = 32 := HAR.out.1
        have hp2 : 2 ^ (K' + 1) = 2 ^ K' + 2 ^ K' := by rw [Nat.pow_succ]; omega
        have htop : M + 2 ^ K' ≤ 4294967296 := by have := HAR.out.2.2; omega
        have hvld : vld A (n : Int) = true := (V_al A (n : Int)).2 ⟨by omega, by omega, by rw [show 32 - (n : Int).toNat = K' + 1 by omega]; exact HAR.out.2.1⟩
        have hpos' := CM.pow_pos' K'
        have HH : Hid (∀ W, Calls Try.prog 73 #[.agg #[.int .u32 (A : Int), .int .i64 (n : Int)]] W fun e w' => e = .returned (.tuple #[.agg #[.int .u32 (A : Int), .int .i64 ((n : Int) + 1)], .agg #[.int .u32 (M : Int), .int .i64 ((n : Int) + 1)], .bool true]) ∧ Below W.heap.size W w') := fun W => by
          have h1 := halves_yes A (by omega) (n : Int) (by unfold I64; omega) W hvld (by omega) (by omega)
          rw [mid_eq hvld (by omega), show 31 - (n : Int).toNat = K' by omega, ← hM] at h1
          exact h1
        have HBS : Hid (∀ W, Below wc.heap.size wc W → Calls Try.prog 125 #[.slice ad' N' cap', .agg #[.int .u32 (M : Int), .int .i64 ((n : Int) + 1)], .func (.func 126) #[] #[]] W fun e w' => ∃ (i : Nat) (z : Bool), e = .returned (.tuple #[.int .i64 (i : Int), .bool z]) ∧ BsInv (M, ((n + 1 : Nat) : Int)) (r'.map (·.1)) i i ∧ Below W.heap.size W w') := fun W hW =>
          bsearchE_any r' (.slice ad' N' cap') (M, ((n + 1 : Nat) : Int)) W (by have := HM.out.2.2.1.big; omega) HM.out.2.2.1.asc (HM.out.2.2.1.rd.below hW)
        have HPT : Hid (∀ i, BsInv (M, ((n + 1 : Nat) : Int)) (r'.map (·.1)) i i → i ≤ N' ∧ AG.lowT M (r'.map toBe) = (r'.take i).map toBe ∧ AG.highT M (r'.map toBe) = (r'.drop i).map toBe ∧ AG.Frag A K' ((r'.take i).map toBe) ∧ AG.Frag M K' ((r'.drop i).map toBe)) := fun i hi => by
          rw [hM] at hi ⊢
          exact HM.out.2.2.1.parts HM.out.2.2.2.1 hnn HAR.out.2.1 hi
        have hl0 : ((N' : Int) == 0) = false := by
          have : 0 < N' := by rw [hlen]; exact List.length_pos_iff.2 hr
          simp; omega
        have HAR2 : Hid ((n + 1) + K' = 32 ∧ A % 2 ^ K' = 0 ∧ A + 2 ^ K' ≤ 4294967296 ∧ M % 2 ^ K' = 0 ∧ M + 2 ^ K' ≤ 4294967296) := ⟨by omega, CM.mod_of_le (Nat.le_succ K') HAR.out.2.1, by omega, by rw [hM]; exact AG.high_al HAR.out.2.1, htop⟩
        have HMM := Lib.hid hM
        have HNE := Lib.hid hne
        obtain ⟨b, off, rfl⟩ : ∃ b off, ad' = some ⟨b, off, none⟩ := by
          cases r' with
          | nil => exact absurd rfl hr
          | cons e q =>
            obtain ⟨ad2, cap2, e1, hc⟩ := HM.out.2.2.1.rd
            cases e1
            obtain ⟨b, off, e2, _⟩ := hc 0 e rfl
            exact ⟨b, off, e2⟩
        have hle := HM.out.2.2.1.le
        clear hr hM hne hlen hp2 htop hvld hpos' hnn
        go_wp2_with (first
          | (go_at_call 73; refine (HH.out _).mono ?_; rintro en w1 ⟨rfl, hb⟩; have HB1 := Lib.hid hb; clear hb)
          | fail)
        have HB2 : Hid (Below wc.heap.size wc ((w1.alloc (Obj.cells #[Value.int IntKind.u32 (A : Int), Value.int IntKind.i64 ((n : Int) + 1)] 28)).alloc (Obj.cells #[Value.int IntKind.u32 (M : Int), Value.int IntKind.i64 ((n : Int) + 1)] 28)) ∧ w.heap.size ≤ wc.heap.size) := ⟨(HB1.out.alloc HB1.out.size _).alloc (by have := HB1.out.size; simp; omega) _, HM.out.1.size⟩
        refine (HBS.out _ HB2.out.1).mono ?_
        rintro en w3 ⟨i, z, rfl, hI, hb⟩
        have HP := Lib.hid (HPT.out i hI)
        have hiN := HP.out.1
        have k70 : w3.cell? ⟨w1.heap.size, 0, none⟩ = some (.int .u32 (A : Int)) := carry hb (by simp)
        have k71 : w3.cell? ⟨w1.heap.size, 1, none⟩ = some (.int .i64 ((n : Int) + 1)) := carry hb (by simp)
        have k80 : w3.cell? ⟨w1.heap.size + 1, 0, none⟩ = some (.int .u32 (M : Int)) := carry hb (by simp)
        have k81 : w3.cell? ⟨w1.heap.size + 1, 1, none⟩ = some (.int .i64 ((n : Int) + 1)) := carry hb (by simp)
        have HB3 : Hid (Below wc.heap.size wc w3) := HB2.out.1.trans (hb.mono (by have := HB1.out.size; simp; omega))
        clear hb hI HB1 HB2 g0 g1
        obtain ⟨B7, hB7⟩ : ∃ B7, w1.heap.size = B7 := ⟨_, rfl⟩
        rw [hB7] at k70 k71 k80 k81 ⊢
        clear hB7
        have HL : Hid (∀ W, (W.cell? ⟨B7, 0, none⟩ = some (.int .u32 (A : Int)) ∧ W.cell? ⟨B7, 1, none⟩ = some (.int .i64 ((n : Int) + 1)) ∧ W.cell? ⟨B7 + 1, 0, none⟩ = some (.int .u32 (M : Int)) ∧ W.cell? ⟨B7 + 1, 1, none⟩ = some (.int .i64 ((n : Int) + 1)) ∧ Below wc.heap.size wc W) → Calls Try.prog 95 #[.agg #[.int .u32 (A : Int), .int .i64 ((n : Int) + 1)], .slice (some ⟨b, off, none⟩) i cap', .int .i64 x'] W fun e w' => ∃ g, e = .returned (.pointer (some ⟨g, 0, none⟩)) ∧ RegM w' (AG.reg K' A ((r'.take i).map toBe) x') g ∧ Below W.heap.size W w') := fun W hW =>
          HIH.out K' rfl (n + 1) A _ i cap' (r'.take i) x' W HAR2.out.1 HAR2.out.2.1 HAR2.out.2.2.1 ((HM.out.2.2.1.below hW.2.2.2.2).low HP.out.1 HP.out.2.2.2.1) HM.out.2.2.2.2.1
        have HK : Hid (∀ {W W1 : World}, (W.cell? ⟨B7, 0, none⟩ = some (.int .u32 (A : Int)) ∧ W.cell? ⟨B7, 1, none⟩ = some (.int .i64 ((n : Int) + 1)) ∧ W.cell? ⟨B7 + 1, 0, none⟩ = some (.int .u32 (M : Int)) ∧ W.cell? ⟨B7 + 1, 1, none⟩ = some (.int .i64 ((n : Int) + 1)) ∧ Below wc.heap.size wc W) → Below W.heap.size W W1 →
            W1.cell? ⟨B7, 0, none⟩ = some (.int .u32 (A : Int)) ∧ W1.cell? ⟨B7, 1, none⟩ = some (.int .i64 ((n : Int) + 1)) ∧ W1.cell? ⟨B7 + 1, 0, none⟩ = some (.int .u32 (M : Int)) ∧ W1.cell? ⟨B7 + 1, 1, none⟩ = some (.int .i64 ((n : Int) + 1)) ∧ Below wc.heap.size wc W1) := fun {W W1} h hb => ⟨carry hb h.1, carry hb h.2.1, carry hb h.2.2.1, carry hb h.2.2.2.1, below_then h.2.2.2.2 hb⟩
        have hi0 : (0 : Int) ≤ (i : Int) := by omega
        have hi1 : (i : Int) ≤ (N' : Int) := by omega
        have hi2 : (i : Int) ≤ (cap' : Int) := by omega
        have hi3 : (N' : Int) ≤ (cap' : Int) := by omega
        have hi4 : i ≤ cap' := by omega
        clear HBS HPT HH
        go_wp2_with fail
        go_cut [12, 13] (fun s12 s13 wx => ∃ gl gr : Nat, s12 = .pointer (some ⟨gl, 0, none⟩) ∧ s13 = .pointer (some ⟨gr, 0, none⟩) ∧ Hid (RegM wx (AG.reg K' A ((r'.take i).map toBe) x') gl ∧ RegM wx (AG.reg K' M ((r'.drop i).map toBe) x') gr ∧ Below wc.heap.size wc wx))
        case first =>
          by_cases hic : i = cap'
          · have HH2 : Hid (∀ W, (W.cell? ⟨B7, 0, none⟩ = some (.int .u32 (A : Int)) ∧ W.cell? ⟨B7, 1, none⟩ = some (.int .i64 ((n : Int) + 1)) ∧ W.cell? ⟨B7 + 1, 0, none⟩ = some (.int .u32 (M : Int)) ∧ W.cell? ⟨B7 + 1, 1, none⟩ = some (.int .i64 ((n : Int) + 1)) ∧ Below wc.heap.size wc W) → Calls Try.prog 95 #[.agg #[.int .u32 (M : Int), .int .i64 ((n : Int) + 1)], .slice (some ⟨b, off, none⟩) 0 0, .int .i64 x'] W fun e w' => ∃ g, e = .returned (.pointer (some ⟨g, 0, none⟩)) ∧ RegM w' (AG.reg K' M ((r'.drop i).map toBe) x') g ∧ Below W.heap.size W w') := fun W hW => HIH.out K' rfl (n + 1) M _ 0 0 (r'.drop i) x' W HAR2.out.1 HAR2.out.2.2.2.1 HAR2.out.2.2.2.2 ((HM.out.2.2.1.below hW.2.2.2.2).none (by omega) HP.out.2.2.2.2) HM.out.2.2.2.2.1
            clear HIH
            have HIC := Lib.hid hic
            subst hic
            go_region_held3 (fun W => W.cell? ⟨B7, 0, none⟩ = some (.int .u32 (A : Int)) ∧ W.cell? ⟨B7, 1, none⟩ = some (.int .i64 ((n : Int) + 1)) ∧ W.cell? ⟨B7 + 1, 0, none⟩ = some (.int .u32 (M : Int)) ∧ W.cell? ⟨B7 + 1, 1, none⟩ = some (.int .i64 ((n : Int) + 1)) ∧ Below wc.heap.size wc W)
              (first | exact ⟨k70, k71, k80, k81, HB3.out.drew⟩ | assumption)
              (first
                | (go_at_call 95; (with_reducible refine (HL.out _ ‹_›).mono ?_); rintro en w6 ⟨gl, rfl, h1, hb⟩; have hk6 := HK.out ‹_› hb; (try have G2 := Lib.hid (G2.out.below hb)); have G1 := Lib.hid h1; clear hb h1)
                | (go_at_call 95; (with_reducible refine (HH2.out _ ‹_›).mono ?_); rintro en w6 ⟨gr, rfl, h1, hb⟩; have hk6 := HK.out ‹_› hb; (try have G1 := Lib.hid (G1.out.below hb)); have G2 := Lib.hid h1; clear hb h1))
            go_wp2
            go_meet
            case rel => exact ⟨gl, gr, rfl, rfl, G1.out, G2.out, hk6.2.2.2.2⟩
          · have hic2 : ¬ cap' = i := fun e => hic e.symm
            have HH2 : Hid (∀ W, (W.cell? ⟨B7, 0, none⟩ = some (.int .u32 (A : Int)) ∧ W.cell? ⟨B7, 1, none⟩ = some (.int .i64 ((n : Int) + 1)) ∧ W.cell? ⟨B7 + 1, 0, none⟩ = some (.int .u32 (M : Int)) ∧ W.cell? ⟨B7 + 1, 1, none⟩ = some (.int .i64 ((n : Int) + 1)) ∧ Below wc.heap.size wc W) → Calls Try.prog 95 #[.agg #[.int .u32 (M : Int), .int .i64 ((n : Int) + 1)], .slice (some ⟨b, off + i * 3, none⟩) (N' - i) (cap' - i), .int .i64 x'] W fun e w' => ∃ g, e = .returned (.pointer (some ⟨g, 0, none⟩)) ∧ RegM w' (AG.reg K' M ((r'.drop i).map toBe) x') g ∧ Below W.heap.size W w') := fun W hW => HIH.out K' rfl (n + 1) M _ (N' - i) (cap' - i) (r'.drop i) x' W HAR2.out.1 HAR2.out.2.2.2.1 HAR2.out.2.2.2.2 (by have h := (HM.out.2.2.1.below hW.2.2.2.2).high HP.out.1 HP.out.2.2.2.2; rw [Addr.add_lit] at h; exact h) HM.out.2.2.2.2.1
            clear HIH
            go_region_held3 (fun W => W.cell? ⟨B7, 0, none⟩ = some (.int .u32 (A : Int)) ∧ W.cell? ⟨B7, 1, none⟩ = some (.int .i64 ((n : Int) + 1)) ∧ W.cell? ⟨B7 + 1, 0, none⟩ = some (.int .u32 (M : Int)) ∧ W.cell? ⟨B7 + 1, 1, none⟩ = some (.int .i64 ((n : Int) + 1)) ∧ Below wc.heap.size wc W)
              (first | exact ⟨k70, k71, k80, k81, HB3.out.drew⟩ | assumption)
              (first
                | (go_at_call 95; (with_reducible refine (HL.out _ ‹_›).mono ?_); rintro en w6 ⟨gl, rfl, h1, hb⟩; have hk6 := HK.out ‹_› hb; (try have G2 := Lib.hid (G2.out.below hb)); have G1 := Lib.hid h1; clear hb h1)
                | (go_at_call 95; (with_reducible refine (HH2.out _ ‹_›).mono ?_); rintro en w6 ⟨gr, rfl, h1, hb⟩; have hk6 := HK.out ‹_› hb; (try have G1 := Lib.hid (G1.out.below hb)); have G2 := Lib.hid h1; clear hb h1))
            go_wp2
            go_meet
            case rel => exact ⟨gl, gr, rfl, rfl, G1.out, G2.out, hk6.2.2.2.2⟩
        case rest =>
          as_aux_lemma =>
          obtain ⟨gl, gr, rfl, rfl, HG⟩ := hcut
          have HB : Hid (Below w.heap.size w wc) := below_then HM.out.1 HG.out.2.2
          have hbox : wc.heap[w.heap.size]? = some (.cells #[.int .u32 (A : Int), .int .i64 (n : Int)] 28 (0, 0)) := (HG.out.2.2.block _ (ltO HM.out.2.1)).trans HM.out.2.1
          obtain ⟨bl, sl1, hK1, hc1, hs1⟩ := HG.out.1.best
          obtain ⟨br, sl2, hK2, hc2, hs2⟩ := HG.out.2.1.best
          have k0 := cellO hbox (o := 0) rfl
          have k1 := cellO hbox (o := 1) rfl
          have k2 : wc.cell? ⟨gl, 2, none⟩ = some (.map (some bl)) := cellO hc1 rfl
          have k3 : wc.cell? ⟨gr, 2, none⟩ = some (.map (some br)) := cellO hc2 rfl
          rw [reg_kk] at hK1 hs1 hK2 hs2
          obtain ⟨rl, hrl⟩ : ∃ rl, AG.reg K' A ((r'.take i).map toBe) x' = rl := ⟨_, rfl⟩
          obtain ⟨rr, hrr⟩ : ∃ rr, AG.reg K' M ((r'.drop i).map toBe) x' = rr := ⟨_, rfl⟩
          have HR : Hid (R = .node A (K' + 1) (AG.shared rl.best rr.best) rl rr) := by
            show _ = _
            rw [HM.out.2.2.2.2.2, regB_cons K' A _ x' HNE.out, ← HMM.out, HP.out.2.1, HP.out.2.2.1, hrl, hrr]
          rw [hrl] at HG hs1
          rw [hrr] at HG hs2
          have hk32 : K' + 1 ≤ 32 := by have := HAR.out.1; omega
          have hn32 : 32 - (K' + 1) = n := by have := HAR.out.1; omega
          have hk2 : 2 ^ (K' + 1) = 2 ^ K' + 2 ^ K' := by rw [Nat.pow_succ]; omega
          have h32 : 2 ^ K' ≤ 4294967296 := pow32_le hK1
          have HSH : Hid (∀ W, (W.cell? ⟨w.heap.size, 0, none⟩ = some (.int .u32 (A : Int)) ∧ W.cell? ⟨w.heap.size, 1, none⟩ = some (.int .i64 (n : Int)) ∧ W.cell? ⟨gl, 2, none⟩ = some (.map (some bl)) ∧ W.cell? ⟨gr, 2, none⟩ = some (.map (some br)) ∧ Below wc.heap.size wc W) → Calls Try.prog 127 #[.map (some bl), .map (some br)] W fun e w' => ∃ g, e = .returned (.map (some g)) ∧ SetM w' g (2 ^ (K' + 1)) (AG.shared rl.best rr.best) ∧ Below W.heap.size W w') := fun W hW =>
            (shared_any bl (2 ^ K') rl.best br (2 ^ K') rr.best W (hs1.below hW.2.2.2.2) (hs2.below hW.2.2.2.2) (by omega)).mono (by rintro en w' ⟨g, e, _, h2, h3⟩; exact ⟨g, e, h2.mono (by omega), h3⟩)
          have HK2 : Hid (∀ {W W1 : World}, (W.cell? ⟨w.heap.size, 0, none⟩ = some (.int .u32 (A : Int)) ∧ W.cell? ⟨w.heap.size, 1, none⟩ = some (.int .i64 (n : Int)) ∧ W.cell? ⟨gl, 2, none⟩ = some (.map (some bl)) ∧ W.cell? ⟨gr, 2, none⟩ = some (.map (some br)) ∧ Below wc.heap.size wc W) → Below W.heap.size W W1 → W1.cell? ⟨w.heap.size, 0, none⟩ = some (.int .u32 (A : Int)) ∧ W1.cell? ⟨w.heap.size, 1, none⟩ = some (.int .i64 (n : Int)) ∧ W1.cell? ⟨gl, 2, none⟩ = some (.map (some bl)) ∧ W1.cell? ⟨gr, 2, none⟩ = some (.map (some br)) ∧ Below wc.heap.size wc W1) := fun {W W1} h hb => ⟨carry hb h.1, carry hb h.2.1, carry hb h.2.2.1, carry hb h.2.2.2.1, below_then h.2.2.2.2 hb⟩
          clear HM HP HMM HNE HB3 HL HK HAR2 hK1 hK2 hs1 hs2 hc1 hc2 hbox hrl hrr k70 k71 k80 k81 hi0 hi1 hi2 hi3 hi4 hiN hl0 hle HIH h32 hk2
          have HFN := Lib.hid (And.intro hk32 hn32)
          clear hk32 hn32
          go_wp2_with fail
          go_region_held3 (fun W => W.cell? ⟨w.heap.size, 0, none⟩ = some (.int .u32 (A : Int)) ∧ W.cell? ⟨w.heap.size, 1, none⟩ = some (.int .i64 (n : Int)) ∧ W.cell? ⟨gl, 2, none⟩ = some (.map (some bl)) ∧ W.cell? ⟨gr, 2, none⟩ = some (.map (some br)) ∧ Below wc.heap.size wc W)
            (first | exact ⟨k0, k1, k2, k3, (Below.refl _ wc).drew⟩ | assumption | exact HK2.out ‹_› (below_alloc _ _))
            (first
              | (go_at_call 127; (with_reducible refine (HSH.out _ ‹_›).mono ?_); rintro en w8 ⟨gm, rfl, h1, hb⟩; have hk8 := HK2.out ‹_› hb; have HC := Lib.hid (And.intro h1 hb); clear hb h1))
          · go_wp2
            go_ret
            have hb8 := below_undrew HC.out.2
            refine ⟨_, rfl, ?_, below_then (below_then HB.out hb8) ((below_alloc _ _).trans ((below_alloc _ _).mono (by simp)))⟩
            rw [HR.out]
            exact node_A HG.out.1 HG.out.2.1 hb8 HC.out.1 HFN.out.1 HFN.out.2
          · go_wp2
            go_ret
            have hb8 := below_undrew HC.out.2
            refine ⟨_, rfl, ?_, below_then (below_then HB.out (below_then (below_alloc _ _) hb8)) (below_alloc _ _)⟩
            rw [HR.out]
            exact node_B HG.out.1 HG.out.2.1 hb8 HC.out.1 HFN.out.1 HFN.out.2
end Go.Proofs.Ytegponbmelgngaa
end

section
namespace Go.Proofs.Ytegponbmelgngaa
open Go.RowKit Go.Maps
set_option linter.unusedSimpArgs false
set_option linter.unusedVariables false
set_option maxHeartbeats 1500000
set_option maxRecDepth 100000

theorem newRegion_any : ∀ K, NewR K
  | 0 => newRegion_step 0 (fun K' h => by omega)
  | K + 1 => newRegion_step (K + 1) (fun K' h => by
    obtain rfl : K = K' := by omega
    exact newRegion_any K)
theorem setD_keys {D : DataW Unit} {l : List Int} (g : SetD D l) {es : List (Lit × DataW Unit)} (he : D = .map es) (hk : ∀ p ∈ es, WideAt.IsKeyLit p.1) (x : Int) : x ∈ intKeys D ↔ x ∈ l := by
  subst he
  show x ∈ es.map (fun p => Go.intOf p.1) ↔ _
  rw [List.mem_map]
  constructor
  · rintro ⟨p, hp, rfl⟩
    have hp2 : Maps.has (.map es) p.1 = true := by
      rw [Maps.has_eq]; exact List.any_eq_true.2 ⟨p, hp, WideAt.sameKey_self (hk p hp)⟩
    obtain ⟨y, hy, e⟩ := (g.1 _).1 hp2
    rw [e]; exact hy
  · intro hx
    have h1 := (g.1 (kI x)).2 ⟨x, hx, rfl⟩
    rw [Maps.has_eq] at h1
    obtain ⟨p, hp, hs⟩ := List.any_eq_true.1 h1
    exact ⟨p, hp, by rw [WideAt.sameKey_eq hs]; rfl⟩
theorem keys_any (b : Nat) (w : World) :
    Calls Try.prog 130 #[.map (some b)] w fun e w' => e = .returned (.func (.func 147) #[] #[.pointer (some ⟨w.heap.size, 0, none⟩)]) ∧ w' = w.alloc (.cells #[.map (some b)] 136) :=
  callsIn_wide.1 (AnyZI.keys_in Try.mapKeys Fence.wide 1 trivial rfl (some b) w)
theorem collect_any (b N Bm : Nat) (l : List Int) (w : World) (h : SetM w b N l) (hN : N ≤ 4294967296) (hm : w.heap[Bm]? = some (.cells #[.map (some b)] 136 (0, 0))) :
    Calls Try.prog 129 #[.func (.func 147) #[] #[.pointer (some ⟨Bm, 0, none⟩)]] w fun e w' => ∃ (v : Value) (ss : List Int), e = .returned v ∧ (∀ x, x ∈ ss ↔ x ∈ l) ∧ ss.length ≤ 4294967296 ∧ w'.ownsRow w.heap.size 3 1 v ss.length (ss.map encZ) ∧ Below w.heap.size w w' := by
  obtain ⟨D, o, g⟩ := h
  have hsz := o.size_le
  obtain ⟨es, hes, _, hk⟩ := o.entries kI_keyed
  have hseq := AnyZI.keys_gives Try.mapKeysIt Fence.wide 3 trivial rfl (by decide) Bm b N D (R := plainElem Try.prog 4) w (ltO hm) (cellO hm rfl) o
  have := callsIn_wide.1 (AnyZI.collect_in Try.sliceCollect Fence.wide 5 trivial trivial rfl (by decide) 147 #[.pointer (some ⟨Bm, 0, none⟩)] trivial (Try.mapKeysIt.f10.enters rfl) (fun ss => ss.Perm (intKeys D)) (Maps.size D) (by unfold maxLen; omega) (by omega) w hseq)
  refine this.mono ?_
  rintro e w' ⟨v, ss, he, hS, hrow, _, hb⟩
  refine ⟨v, ss, he, fun x => (hS.mem_iff).trans (setD_keys g hes hk x), ?_, hrow, hb⟩
  rw [hS.length_eq, hes]
  show (es.map _).length ≤ _
  rw [List.length_map]
  have : Maps.size D = es.length := by rw [hes]; rfl
  omega
theorem min_any (B cap g n : Nat) (ss : List Int) (w : World) (h : w.ownsRow B 3 1 (.slice (some ⟨g, 0, none⟩) n cap) ss.length (ss.map encZ)) (hn : n = ss.length) (hpos : 0 < n) (hbig : n ≤ 4294967296) :
    Calls Try.prog 128 #[.slice (some ⟨g, 0, none⟩) n cap] w fun e w' => ∃ m, e = .returned (.int .i64 m) ∧ m ∈ ss ∧ (∀ y ∈ ss, m ≤ y) ∧ Below w.heap.size w w' := by
  have HC : Hid (∀ k x, ss[k]? = some x → w.cell? ⟨g, k, none⟩ = some (.int .i64 x)) := fun k x hk => by
    subst hn
    have h1 := h.cellAt k (by have := (List.getElem?_eq_some_iff.1 hk).1; omega)
    rw [h1, List.getElem?_map, hk]; rfl
  obtain ⟨x0, hx0⟩ : ∃ x, ss[0]? = some x := ⟨_, List.getElem?_eq_getElem (by omega)⟩
  have k0 := HC.out 0 x0 hx0
  have HN := Lib.hid hn
  have HX0 := Lib.hid hx0
  have hd : decide ((n : Int) < 1) = false := decide_eq_false (by omega)
  have hd2 : ¬ (n : Int) < 1 := by omega
  clear h hn hx0
  go_enter Try.func128, Try.ntmps128
  go_wp2_with fail
  go_loopg [3, 4] n (fun gg s3 s4 wr => ∃ (k : Nat) (m : Int), s3 = .int .i64 m ∧ s4 = .int .i64 (k : Int) ∧ 1 ≤ k ∧ k ≤ n ∧ n - k ≤ gg ∧ Hid (m ∈ ss ∧ (∀ y ∈ ss.take k, m ≤ y)) ∧ wr = w)
  case atStart =>
    refine ⟨1, x0, rfl, rfl, Nat.le_refl _, hpos, by omega, ⟨List.mem_of_getElem? HX0.out, fun y hy => ?_⟩, rfl⟩
    cases ss with
    | nil => cases hy
    | cons a r =>
      have : x0 = a := by have := HX0.out; simpa using this.symm
      simp at hy; omega
  case round =>
    obtain ⟨k, m, rfl, rfl, hk1, hk2, hg, HI, rfl⟩ := hrel
    by_cases hlt : k < n
    · obtain ⟨x, hx⟩ : ∃ x, ss[k]? = some x := ⟨_, List.getElem?_eq_getElem (by have := HN.out; omega)⟩
      have kk := HC.out k x hx
      have HX := Lib.hid hx
      clear hx
      go_wp2_with fail
      go_roundg (n - (k + 1))
      case measure => omega
      case rel =>
        refine ⟨k + 1, min m x, rfl, by go_num, by omega, by omega, Nat.le_refl _, ⟨?_, fun y hy => ?_⟩, rfl⟩
        · rcases Int.le_total m x with h | h
          · rw [Int.min_eq_left h]; exact HI.out.1
          · rw [Int.min_eq_right h]; exact List.mem_of_getElem? HX.out
        · rw [List.take_add_one, HX.out] at hy
          rcases List.mem_append.1 hy with hy | hy
          · have := HI.out.2 y hy
            exact Int.le_trans (Int.min_le_left _ _) this
          · simp at hy; rw [hy]; exact Int.min_le_right _ _
    · have k1 : decide ((k : Int) < (n : Int)) = false := decide_eq_false (by omega)
      have HF : Hid (∀ y ∈ ss, m ≤ y) := fun y hy => HI.out.2 y (by rw [List.take_of_length_le (by have := HN.out; omega)]; exact hy)
      go_wp2
      go_ret
      exact ⟨m, rfl, HI.out.1, HF.out, Below.refl _ _⟩
end Go.Proofs.Ytegponbmelgngaa
end

section
namespace Go.Proofs.Ytegponbmelgngaa
open Go.RowKit
set_option linter.unusedSimpArgs false
set_option linter.unusedVariables false
set_option maxHeartbeats 1500000
set_option maxRecDepth 100000

theorem shared_ne {a b : List Int} (h : a ≠ []) : AG.shared a b ≠ [] := by
  unfold AG.shared
  split
  · intro e; exact h (List.append_eq_nil_iff.1 e).1
  · rename_i g; exact g
/-- every best has a value -/
def OKR : AG.RT → Prop
  | .leaf _ _ _ => True
  | .node _ _ b l r => b ≠ [] ∧ OKR l ∧ OKR r
theorem OKR.ne {r : AG.RT} (h : OKR r) : r.best ≠ [] := by
  cases r with
  | leaf A K b => simp [AG.RT.best]
  | node A K b l r => exact h.1
theorem okR_reg : ∀ (K A : Nat) (t : List AG.Be) (v : Int), OKR (AG.reg K A t v)
  | 0, A, t, v => trivial
  | K + 1, A, t, v => by
    unfold AG.reg
    split
    · trivial
    · exact ⟨shared_ne (okR_reg K A _ _).ne, okR_reg K A _ _, okR_reg K _ _ _⟩
/-- the entries that are made below a region's own -/
def kids : AG.RT → Int → List AG.Be
  | .leaf _ _ _, _ => []
  | .node _ _ _ l r, v => AG.out l v ++ AG.out r v
theorem minV_one (b : Int) : AG.minV [b] = b := by
  have := AG.minV_mem (b := [b]) (by simp)
  simpa using this
theorem out_in {r : AG.RT} {v : Int} (h : v ∈ r.best) : AG.out r v = kids r v := by
  cases r with
  | leaf A K b => have : v = b := by simpa [AG.RT.best] using h
                  unfold AG.out; rw [if_pos this]; rfl
  | node A K b l r => unfold AG.out; rw [if_pos (show v ∈ b from h)]; rfl
theorem out_not {r : AG.RT} {v : Int} (h : v ∉ r.best) : AG.out r v = ((RT_aa r, RT_kk r), AG.minV r.best) :: kids r (AG.minV r.best) := by
  cases r with
  | leaf A K b =>
    have : ¬ v = b := by simpa [AG.RT.best] using h
    unfold AG.out; rw [if_neg this]
    show _ = ((A, K), AG.minV [b]) :: []
    rw [minV_one]
  | node A K b l r => unfold AG.out; rw [if_neg (show ¬ v ∈ b from h)]; rfl
/-- entries of a region -/
def outE (r : AG.RT) (v : Int) : List En := (AG.out r v).map unBe
theorem minV_is {b : List Int} {m : Int} {ss : List Int} (hb : b ≠ []) (hs : ∀ x, x ∈ ss ↔ x ∈ b) (h1 : m ∈ ss) (h2 : ∀ y ∈ ss, m ≤ y) : m = AG.minV b := by
  have h3 := AG.minV_mem hb
  have h4 := (AG.minV_spec hb).2 m ((hs m).1 h1)
  have h5 := h2 _ ((hs _).2 h3)
  omega
/-- what entries answers -/
def EntP (r : AG.RT) : Prop := ∀ (w0 : World) (g : Nat) (v : Value) (t : List En) (x : Int) (w : World), RegM w0 r g → Below w0.heap.size w0 w → w.ownsRow w0.heap.size 51 3 v t.length (flatE t) → I64 x → t.length + (AG.out r x).length ≤ 4000 →
  Calls Try.prog 96 #[.pointer (some ⟨g, 0, none⟩), v, .int .i64 x] w fun e w' => ∃ v', e = .returned v' ∧ w'.ownsRow w0.heap.size 51 3 v' (t ++ outE r x).length (flatE (t ++ outE r x)) ∧ Below w0.heap.size w0 w'
theorem entries_step (r : AG.RT) (hok : OKR r) (IH : ∀ A K b l q, r = .node A K b l q → EntP l ∧ EntP q) : EntP r := by
  intro w0 g v t x w hr hb hv hx hlen
  obtain ⟨i0, hi, hz0, hz1, hz2⟩ := info_parts info51
  have HR := Lib.hid hr
  have HIH := Lib.hid IH
  have HX := Lib.hid hx
  have HL := Lib.hid hlen
  obtain ⟨bm, sl, hk, hc, hs⟩ := hr.best
  have HB := Lib.hid hb
  have HV := Lib.hid hv
  have HS : Hid (∀ W, Below w0.heap.size w0 W → SetM W bm (2 ^ RT_kk r) r.best) := fun W hW => hs.below hW
  have HC : Hid (∀ W, Below w0.heap.size w0 W → W.heap[g]? = some (.cells #[.int .u32 (RT_aa r : Nat), .int .i64 ((32 - RT_kk r : Nat) : Int), .map (some bm), sl] 139 (0, 0))) := fun W hW => (hW.block g (ltO hc)).trans hc
  have h32 : 2 ^ RT_kk r ≤ 4294967296 := pow32_le hk
  have k2 := cellO (HC.out w hb) (o := 2) rfl
  have k3 := cellO (HC.out w hb) (o := 3) rfl
  have HNE := Lib.hid hok.ne
  obtain ⟨q, hq⟩ : ∃ q, decide (x ∈ r.best) = q := ⟨_, rfl⟩
  have HQ := Lib.hid hq
  clear hr hb hv IH hlen hc hs hk hx hq
  go_enter Try.func96, Try.ntmps96
  go_upto_if 15 with (first | (at_lookup; refine wp_look rfl _ _ 136 rfl Try.underlying136 bm _ r.best rfl (HS.out _ HB.out) x rfl HX.out ?_; rw [HQ.out]) | fail)
  go_cut [1, 2] (fun s1 s2 wx => ∃ (v1 : Value) (t1 : List En) (x1 : Int), v1 = s1 ∧ s2 = .int .i64 x1 ∧ Hid (Below w0.heap.size w0 wx ∧ wx.ownsRow w0.heap.size 51 3 v1 t1.length (flatE t1) ∧ I64 x1 ∧ t ++ outE r x = t1 ++ (kids r x1).map unBe))
  case first =>
    cases q with
    | true =>
      have HE : Hid (t ++ outE r x = t ++ (kids r x).map unBe) := by
        show _ = _
        unfold outE
        rw [out_in (of_decide_eq_true HQ.out)]
      clear HIH
      go_wp2
      go_meet
      case rel => exact ⟨v, t, x, rfl, rfl, HB.out, HV.out, HX.out, HE.out⟩
    | false =>
      have HNI : Hid (x ∉ r.best) := of_decide_eq_false HQ.out
      have hlt : t.length + 1 ≤ 4000 := by
        have := HL.out
        rw [out_not HNI.out, List.length_cons] at this
        omega
      clear HIH
      go_wp2_with (first
        | (go_at_call 130; refine (keys_any bm _).mono ?_; rintro en w1 ⟨rfl, rfl⟩; have H1 : Hid (Below w0.heap.size w0 (w.alloc (.cells #[.map (some bm)] 136)) ∧ (w.alloc (.cells #[.map (some bm)] 136)).ownsRow w0.heap.size 51 3 v t.length (flatE t)) := ⟨HB.out.alloc HB.out.size _, own_below HV.out (below_alloc _ _)⟩)
        | (go_at_call 129; refine (collect_any bm _ w.heap.size r.best _ (HS.out _ H1.out.1) h32 (heap_alloc_new _ _)).mono ?_; rintro en w2 ⟨v2, ss, rfl, hss, hsl, hrow, hb⟩
           obtain ⟨g2, cap2, rfl, hpos⟩ : ∃ g2 cap2, v2 = .slice (some ⟨g2, 0, none⟩) ss.length cap2 ∧ 0 < ss.length := (by
             have hne : ss ≠ [] := fun e => HNE.out (List.eq_nil_iff_forall_not_mem.2 fun y hy => by have := (hss y).2 hy; rw [e] at this; cases this)
             have hp := List.length_pos_iff.2 hne
             rcases hrow.2 with ⟨_, h0⟩ | ⟨g2, cap2, cur, h2, _⟩
             · omega
             · exact ⟨g2, cap2, h2, hp⟩)
           have H2 : Hid (Below w0.heap.size w0 w2 ∧ w2.ownsRow w0.heap.size 51 3 v t.length (flatE t) ∧ (∀ y, y ∈ ss ↔ y ∈ r.best) ∧ w2.ownsRow (w.alloc (.cells #[.map (some bm)] 136)).heap.size 3 1 (.slice (some ⟨g2, 0, none⟩) ss.length cap2) ss.length (ss.map encZ)) := ⟨below_then H1.out.1 hb, own_below H1.out.2 hb, hss, hrow⟩
           clear hb hss hrow)
        | (go_at_call 128; refine (min_any _ cap2 g2 _ ss _ H2.out.2.2.2 rfl hpos hsl).mono ?_; rintro en w3 ⟨m, rfl, hm1, hm2, hb⟩
           have H3 : Hid (Below w0.heap.size w0 w3 ∧ w3.ownsRow w0.heap.size 51 3 v t.length (flatE t) ∧ m = AG.minV r.best ∧ I64 m) := ⟨below_then H2.out.1 hb, own_below H2.out.2.1 hb, minV_is HNE.out H2.out.2.2.1 hm1 hm2, (HS.out _ H2.out.1).choose_spec.2.2.2 m ((H2.out.2.2.1 m).1 hm1)⟩
           have e0 := cellO (HC.out w3 H3.out.1) (o := 0) rfl
           have e1 := cellO (HC.out w3 H3.out.1) (o := 1) rfl
           have hws := H3.out.1.size
           clear hb hm1 hm2 hpos hsl)
        | (at_builtin; refine wpList_append_own _ rfl (.tmp 23) (.tmp 30) 56 rfl w0.heap.size 51 i0 (.agg #[.int .u32 0, .int .i64 0, .int .i64 0]) 3 24 Try.underlying56 hi hz0 hz1 hz2 rfl (by decide) v t.length (flatE t) rfl (own_below H3.out.2.1 (below_alloc _ _)) ⟨w3.heap.size, 0, none⟩ 1 1 [.int .u32 (RT_aa r : Nat), .int .i64 ((32 - RT_kk r : Nat) : Int), .int .i64 m] rfl rfl (cell_three_at _ _ _ _ _ rfl) (one_three _ _ _) (by unfold maxLen; omega) (by omega) (by simp; omega) ?_; intro v1 w4 hown hgrow hnil
           have S2 : Hid (Below w0.heap.size w0 w4 ∧ w4.ownsRow w0.heap.size 51 3 v1 (t ++ [((RT_aa r, ((32 - RT_kk r : Nat) : Int)), m)]).length (flatE (t ++ [((RT_aa r, ((32 - RT_kk r : Nat) : Int)), m)]))) := ⟨(H3.out.1.alloc hws _).grown hgrow (by simp; omega) (fun q hq => (own_lt H3.out.2.1 hq).1), by rw [flatE_snoc, List.length_append]; exact hown⟩; clear hown hgrow hnil))
      go_meet
      case rel =>
        refine ⟨v1, _, m, rfl, rfl, S2.out.1, S2.out.2, H3.out.2.2.2, ?_⟩
        unfold outE
        rw [out_not HNI.out, H3.out.2.2.1, List.append_assoc]
        rfl
  case rest =>
    as_aux_lemma =>
    obtain ⟨v1, t1, x1, rfl, rfl, HT⟩ := hcut
    clear HB HV HS HC k2 k3 HNE HQ HX
    have HLN : Hid (t1.length + (kids r x1).length ≤ 4000) := by
      have h1 := congrArg List.length HT.out.2.2.2
      rw [List.length_append, List.length_append, List.length_map] at h1
      unfold outE at h1
      rw [List.length_map] at h1
      have := HL.out
      show _ ≤ _
      omega
    cases r with
    | leaf A K b =>
      obtain ⟨hk, bm2, hc, hs⟩ := HR.out
      have k3 : wc.cell? ⟨g, 3, none⟩ = some (.slice none 0 0) := cellO ((HT.out.1.block g (ltO hc)).trans hc) rfl
      have HE : Hid (t ++ outE (.leaf A K b) x = t1) := by
        show _ = _
        rw [HT.out.2.2.2]
        show t1 ++ [] = t1
        rw [List.append_nil]
      clear hc hs hk HIH HR
      go_wp2_with fail
      refine wp_loop_rounds 1 ?_
      rw [rounds_succ]
      go_wp2
      go_ret
      exact ⟨v1, rfl, by rw [HE.out]; exact HT.out.2.1, HT.out.1⟩
    | node A K b l q =>
      obtain ⟨hk, bm2, hb, gl, gr, hc, hs, hh, hl, hr⟩ := HR.out
      obtain ⟨IL, IQ⟩ := HIH.out A K b l q rfl
      have hc2 := (HT.out.1.block g (ltO hc)).trans hc
      have hh2 := (HT.out.1.block hb (ltO hh)).trans hh
      have k3 : wc.cell? ⟨g, 3, none⟩ = some (.slice (some ⟨hb, 0, none⟩) 2 2) := cellO hc2 rfl
      have p0 : wc.cell? ⟨hb, 0, none⟩ = some (.pointer (some ⟨gl, 0, none⟩)) := cellO hh2 rfl
      have hln := HLN.out
      have hkk : kids (.node A K b l q) x1 = AG.out l x1 ++ AG.out q x1 := rfl
      rw [hkk, List.length_append] at hln
      have HC1 := Lib.hid (IL w0 gl v1 t1 x1 wc hl HT.out.1 HT.out.2.1 HT.out.2.2.1 (by omega))
      have HC2 : Hid (∀ v2 W, Below w0.heap.size w0 W → W.ownsRow w0.heap.size 51 3 v2 (t1 ++ outE l x1).length (flatE (t1 ++ outE l x1)) → W.cell? ⟨hb, 1, none⟩ = some (.pointer (some ⟨gr, 0, none⟩)) ∧ Calls Try.prog 96 #[.pointer (some ⟨gr, 0, none⟩), v2, .int .i64 x1] W fun e w' => ∃ v', e = .returned v' ∧ w'.ownsRow w0.heap.size 51 3 v' ((t1 ++ outE l x1) ++ outE q x1).length (flatE ((t1 ++ outE l x1) ++ outE q x1)) ∧ Below w0.heap.size w0 w') := fun v2 W hW hv2 =>
        ⟨cellO ((hW.block hb (ltO hh)).trans hh) rfl, IQ w0 gr v2 _ x1 W hr hW hv2 HT.out.2.2.1 (by rw [List.length_append]; unfold outE; rw [List.length_map]; omega)⟩
      have HE : Hid (t ++ outE (.node A K b l q) x = (t1 ++ outE l x1) ++ outE q x1) := by
        show _ = _
        rw [HT.out.2.2.2, hkk, List.map_append, List.append_assoc]
        rfl
      clear hc hs hk hh hl hr hc2 hh2 hln hkk IL IQ HIH HR HLN HL
      go_wp2_with fail
      refine wp_loop_rounds 3 ?_
      rw [rounds_succ]
      go_wp2_with fail
      refine HC1.out.mono ?_
      rintro en w2 ⟨v2, rfl, hv2, hb2⟩
      obtain ⟨p1, hcall⟩ := HC2.out v2 w2 hb2 hv2
      have HCC := Lib.hid hcall
      clear hcall hv2 hb2 HC1 HC2
      go_wp2_with fail
      rw [rounds_succ]
      go_wp2_with (go_at_call 96; refine HCC.out.mono ?_; rintro en w3 ⟨v3, rfl, hv3, hb3⟩; have HF := Lib.hid (And.intro hv3 hb3); clear hv3 hb3)
      rw [rounds_succ]
      go_wp2
      go_ret
      exact ⟨v3, rfl, by rw [HE.out]; exact HF.out.1, HF.out.2⟩
theorem entries_any : ∀ (r : AG.RT), OKR r → EntP r
  | .leaf A K b, h => entries_step _ h (fun A K b l q e => by cases e)
  | .node A K b l q, h => entries_step _ h (fun A' K' b' l' q' e => by
    injection e with e1 e2 e3 e4 e5
    subst e4 e5
    exact ⟨entries_any l h.2.1, entries_any q h.2.2⟩)
end Go.Proofs.Ytegponbmelgngaa
end
