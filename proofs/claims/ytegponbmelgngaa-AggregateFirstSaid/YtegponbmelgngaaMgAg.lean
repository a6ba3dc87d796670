/-
  The walk of the reference's above: the value of the longest other entry that covers an entry.
  The reference's above and hidden as mathematics.
-/
import Derived.Test.YtegponbmelgngaaMgAf
section
namespace Go.Proofs.Ytegponbmelgngaa
open Go.RowKit
set_option linter.unusedSimpArgs false
set_option linter.unusedVariables false
set_option maxHeartbeats 1500000
set_option maxRecDepth 100000

/-- does an entry have another prefix than q, which covers q? -/
def upC (q : PP) (e : En) : Bool := !decide (e.1 = q) && C e.1 q
/-- the value and the length of the longest of them -/
def upV (q : PP) (l : List En) : Int × Int := l.foldl (fun acc e => if upC q e = true ∧ acc.2 < e.1.2 then (e.2, e.1.2) else acc) (-1, -1)
theorem upV_snoc (q : PP) (l : List En) (e : En) : upV q (l ++ [e]) = if upC q e = true ∧ (upV q l).2 < e.1.2 then (e.2, e.1.2) else upV q l := by unfold upV; rw [List.foldl_append]; rfl
theorem upV_yes {l : List En} {k : Nat} {q : PP} {e : En} (h : l[k]? = some e) (h1 : upC q e = true) (h2 : (upV q (l.take k)).2 < e.1.2) : upV q (l.take (k + 1)) = (e.2, e.1.2) := by rw [take_snocN h, upV_snoc, if_pos ⟨h1, h2⟩]
theorem upV_no {l : List En} {k : Nat} {q : PP} {e : En} (h : l[k]? = some e) (h1 : ¬ (upC q e = true ∧ (upV q (l.take k)).2 < e.1.2)) : upV q (l.take (k + 1)) = upV q (l.take k) := by rw [take_snocN h, upV_snoc, if_neg h1]
theorem rabove_any (l : List En) (v : Value) (x : En) (w : World) (hlen : l.length ≤ 2000) (hr : RdE w v l) (hf : FitE l) (hx : x.1.1 < 4294967296) (hxn : I64 x.1.2) (hv : V x.1 = true) :
    Calls Try.prog 94 #[v, .agg #[.int .u32 (x.1.1 : Int), .int .i64 x.1.2, .int .i64 x.2]] w fun e w' => e = .returned (.int .i64 (upV x.1 l).1) ∧ Below w.heap.size w w' := by
  obtain ⟨ad, cap, rfl, hc⟩ := hr
  have HR := Lib.hid hc
  have HF := Lib.hid hf
  obtain ⟨L, hL⟩ : ∃ L, l.length = L := ⟨_, rfl⟩
  rw [hL] at hlen ⊢
  have HL := Lib.hid hL
  obtain ⟨⟨xa, xn⟩, xv⟩ := x
  have HX : Hid (xa < 4294967296 ∧ I64 xn) := ⟨hx, hxn⟩
  clear hc hf hL hx hxn
  go_enter Try.func94, Try.ntmps94
  go_wp2_with fail
  generalize hW0 : w.alloc (.cells #[.int .u32 (xa : Int), .int .i64 xn, .int .i64 xv] 51) = w0
  have HB0 : Hid (Below w.heap.size w w0 ∧ w0.heap[w.heap.size]? = some (.cells #[.int .u32 (xa : Int), .int .i64 xn, .int .i64 xv] 51 (0, 0))) := ⟨by rw [← hW0]; exact below_alloc _ _, by rw [← hW0]; exact heap_alloc_new _ _⟩
  go_loopg [5, 6, 8, 11] L (fun g s5 s6 s8 s11 wr => ∃ (k : Nat) (z m : Int), s5 = .int .i64 z ∧ s6 = .int .i64 m ∧ (∃ u, u = s8) ∧ s11 = .int .i64 (k : Int) ∧ k ≤ L ∧ L - k ≤ g ∧ Hid (Below w0.heap.size w0 wr ∧ (z, m) = upV (xa, xn) (l.take k)))
  case atStart => exact ⟨0, -1, -1, rfl, rfl, ⟨_, rfl⟩, rfl, by omega, by omega, Below.refl _ _, rfl⟩
  case round =>
    obtain ⟨k, z, m, rfl, rfl, ⟨u8, rfl⟩, rfl, hk, hg, HS⟩ := hrel
    by_cases hlt : k < L
    · obtain ⟨e, he⟩ : ∃ x, l[k]? = some x := ⟨_, List.getElem?_eq_getElem (by have := HL.out; omega)⟩
      obtain ⟨b, off, rfl, hbl, c0, c1, c2⟩ := HR.out k e he
      have HBr := Lib.hid (below_then HB0.out.1 HS.out.1)
      have d0 := carryE HBr.out hbl c0
      have d1 := carryE HBr.out hbl c1
      have d2 := carryE HBr.out hbl c2
      have hxr : wr.heap[w.heap.size]? = some (.cells #[.int .u32 (xa : Int), .int .i64 xn, .int .i64 xv] 51 (0, 0)) := (HS.out.1.block _ (ltO HB0.out.2)).trans HB0.out.2
      have x0 : wr.cell? ⟨w.heap.size, 0, none⟩ = some (.int .u32 (xa : Int)) := cellO hxr rfl
      have x1 : wr.cell? ⟨w.heap.size, 1, none⟩ = some (.int .i64 xn) := cellO hxr rfl
      have hz := ltO hxr
      have hfe := HF.out e (List.mem_of_getElem? he)
      have HCO : Hid (∀ W, Calls Try.prog 40 #[.agg #[.int .u32 (e.1.1 : Int), .int .i64 e.1.2], .agg #[.int .u32 (xa : Int), .int .i64 xn]] W fun en w' => en = .returned (.bool (C e.1 (xa, xn))) ∧ Below W.heap.size W w') := fun W => rcovers_any e.1.1 hfe.1 e.1.2 hfe.2.1 xa HX.out.1 xn HX.out.2 W
      have HUP : Hid (upC (xa, xn) e = (!decide (e.1 = (xa, xn)) && C e.1 (xa, xn))) := rfl
      have HY : Hid (upC (xa, xn) e = true → m < e.1.2 → (e.2, e.1.2) = upV (xa, xn) (l.take (k + 1))) := fun h1 h2 => by
        rw [upV_yes he h1 (by rw [← HS.out.2]; exact h2)]
      have HN : Hid (¬ (upC (xa, xn) e = true ∧ m < e.1.2) → (z, m) = upV (xa, xn) (l.take (k + 1))) := fun h1 => by
        rw [upV_no he (by rw [← HS.out.2]; exact h1)]; exact HS.out.2
      obtain ⟨⟨y, n⟩, val⟩ := e
      dsimp only at d0 d1 d2 HCO HUP HY HN
      have HB2 := Lib.hid (below_then HS.out.1 (below_alloc wr (.cells #[.int .u32 (y : Int), .int .i64 n, .int .i64 val] 51)))
      have HNX : Hid (∀ W, Below w0.heap.size w0 W → ¬ (upC (xa, xn) ((y, n), val) = true ∧ m < n) → Below w0.heap.size w0 W ∧ (z, m) = upV (xa, xn) (l.take (k + 1))) := fun W hW h => ⟨hW, HN.out h⟩
      clear c0 c1 c2 he hxr HN hfe
      by_cases heq : (y, n) = (xa, xn)
      · have HN2 := Lib.hid (HNX.out _ HB2.out (fun h => by rw [HUP.out, decide_eq_true heq] at h; cases h.1))
        clear HNX HY HUP HCO
        cases heq
        go_wp2_with fail
        go_roundg (L - (k + 1))
        case measure => omega
        case rel => exact ⟨k + 1, z, m, rfl, rfl, ⟨_, rfl⟩, by go_num, by omega, Nat.le_refl _, HN2.out⟩
      · have HUN : Hid (upC (xa, xn) ((y, n), val) = C (y, n) (xa, xn)) := by show _ = _; rw [HUP.out, decide_eq_false heq]; rfl
        clear HUP
        by_cases hyx : y = xa
        · cases hyx
          have f1 : ¬ n = xn := fun g => heq (by rw [g])
          have f2 : decide (n = xn) = false := decide_eq_false f1
          clear heq
          by_cases hmn : m < n
          · cases hcc : C (xa, n) (xa, xn)
            · rw [hcc] at HCO
              have HN2 := Lib.hid (fun W hW => HNX.out W hW (fun h => by rw [HUN.out, hcc] at h; cases h.1))
              clear HNX HY HUN hcc
              go_wp2_with (go_at_call 40; refine (HCO.out _).mono ?_; rintro en w2 ⟨rfl, hb⟩; have HB3 := Lib.hid (below_then HB2.out hb); clear hb)
              all_goals (
                go_roundg (L - (k + 1))
                case measure => omega
                case rel => exact ⟨k + 1, z, m, rfl, rfl, ⟨_, rfl⟩, by go_num, by omega, Nat.le_refl _, HN2.out _ HB3.out⟩)
            · have HY2 := Lib.hid (HY.out (by rw [HUN.out, hcc]) hmn)
              rw [hcc] at HCO
              clear HNX HY HUN hcc
              go_wp2_with (go_at_call 40; refine (HCO.out _).mono ?_; rintro en w2 ⟨rfl, hb⟩; have HB3 := Lib.hid (below_then HB2.out hb); have e1 := carry hb (p := ⟨wr.heap.size, 1, none⟩) (v := .int .i64 n) (by simp); have e2 := carry hb (p := ⟨wr.heap.size, 2, none⟩) (v := .int .i64 val) (by simp); clear hb)
              all_goals (
                go_quiet (fail)
                go_wp2_with fail
                go_roundg (L - (k + 1))
                case measure => omega
                case rel => exact ⟨k + 1, val, n, rfl, rfl, ⟨_, rfl⟩, by go_num, by omega, Nat.le_refl _, below_drewN HB3.out _, HY2.out⟩)
          · have hmn' : decide (m < n) = false := decide_eq_false hmn
            have HN2 := Lib.hid (HNX.out _ HB2.out (fun h => hmn h.2))
            clear HNX HY HUN HCO
            go_wp2_with fail
            all_goals (
              go_roundg (L - (k + 1))
              case measure => omega
              case rel => exact ⟨k + 1, z, m, rfl, rfl, ⟨_, rfl⟩, by go_num, by omega, Nat.le_refl _, HN2.out⟩)
        · have f1 : ¬ (y : Int) = (xa : Int) := by omega
          have f2 : decide ((y : Int) = (xa : Int)) = false := decide_eq_false f1
          clear heq
          by_cases hmn : m < n
          · cases hcc : C (y, n) (xa, xn)
            · rw [hcc] at HCO
              have HN2 := Lib.hid (fun W hW => HNX.out W hW (fun h => by rw [HUN.out, hcc] at h; cases h.1))
              clear HNX HY HUN hcc
              go_wp2_with (go_at_call 40; refine (HCO.out _).mono ?_; rintro en w2 ⟨rfl, hb⟩; have HB3 := Lib.hid (below_then HB2.out hb); clear hb)
              all_goals (
                go_roundg (L - (k + 1))
                case measure => omega
                case rel => exact ⟨k + 1, z, m, rfl, rfl, ⟨_, rfl⟩, by go_num, by omega, Nat.le_refl _, HN2.out _ HB3.out⟩)
            · have HY2 := Lib.hid (HY.out (by rw [HUN.out, hcc]) hmn)
              rw [hcc] at HCO
              clear HNX HY HUN hcc
              go_wp2_with (go_at_call 40; refine (HCO.out _).mono ?_; rintro en w2 ⟨rfl, hb⟩; have HB3 := Lib.hid (below_then HB2.out hb); have e1 := carry hb (p := ⟨wr.heap.size, 1, none⟩) (v := .int .i64 n) (by simp); have e2 := carry hb (p := ⟨wr.heap.size, 2, none⟩) (v := .int .i64 val) (by simp); clear hb)
              all_goals (
                go_quiet (fail)
                go_wp2_with fail
                go_roundg (L - (k + 1))
                case measure => omega
                case rel => exact ⟨k + 1, val, n, rfl, rfl, ⟨_, rfl⟩, by go_num, by omega, Nat.le_refl _, below_drewN HB3.out _, HY2.out⟩)
          · have hmn' : decide (m < n) = false := decide_eq_false hmn
            have HN2 := Lib.hid (HNX.out _ HB2.out (fun h => hmn h.2))
            clear HNX HY HUN HCO
            go_wp2_with fail
            all_goals (
              go_roundg (L - (k + 1))
              case measure => omega
              case rel => exact ⟨k + 1, z, m, rfl, rfl, ⟨_, rfl⟩, by go_num, by omega, Nat.le_refl _, HN2.out⟩)
    · have k1 : decide ((k : Int) < (L : Int)) = false := decide_eq_false (by omega)
      have HR2 : Hid ((upV (xa, xn) l).1 = z) := by
        show _ = _
        have h1 := HS.out.2
        rw [List.take_of_length_le (by have := HL.out; omega)] at h1
        rw [← h1]
      go_wp2
      go_ret
      exact ⟨by rw [HR2.out]; rfl, below_then HB0.out.1 HS.out.1⟩
end Go.Proofs.Ytegponbmelgngaa
end

section
namespace Go.Proofs.Ytegponbmelgngaa
set_option linter.unusedSimpArgs false
set_option linter.unusedVariables false

theorem upC_iff {q : PP} {e : En} : upC q e = true ↔ e.1 ≠ q ∧ C e.1 q = true := by unfold upC; simp
/-- the longest of the entries above -/
theorem upV_spec (q : PP) (l : List En) (hv : ∀ e ∈ l, 0 ≤ e.1.2) : (upV q l = (-1, -1) ∧ ∀ e ∈ l, upC q e = false) ∨ ∃ e ∈ l, upC q e = true ∧ upV q l = (e.2, e.1.2) ∧ ∀ f ∈ l, upC q f = true → f.1.2 ≤ e.1.2 := by
  have aux : ∀ n, n ≤ l.length → (upV q (l.take n) = (-1, -1) ∧ ∀ e ∈ l.take n, upC q e = false) ∨ ∃ e ∈ l.take n, upC q e = true ∧ upV q (l.take n) = (e.2, e.1.2) ∧ ∀ f ∈ l.take n, upC q f = true → f.1.2 ≤ e.1.2 := by
    intro n
    induction n with
    | zero => intro _; exact .inl ⟨rfl, fun e h => by simp at h⟩
    | succ n ih =>
      intro hn
      obtain ⟨e, he⟩ : ∃ e, l[n]? = some e := ⟨_, List.getElem?_eq_getElem (by omega)⟩
      have h0 := hv e (List.mem_of_getElem? he)
      rw [take_snocN he, upV_snoc]
      rcases ih (by omega) with ⟨h1, h2⟩ | ⟨f, h1, h2, h3, h4⟩
      · by_cases hc : upC q e = true
        · rw [if_pos ⟨hc, by rw [h1]; show (-1 : Int) < _; omega⟩]
          refine .inr ⟨e, by simp, hc, rfl, fun g hg hgc => ?_⟩
          rcases List.mem_append.1 hg with hg | hg
          · rw [h2 g hg] at hgc; cases hgc
          · rw [List.mem_singleton.1 hg]; exact Int.le_refl _
        · rw [if_neg (fun h => hc h.1)]
          refine .inl ⟨h1, fun g hg => ?_⟩
          rcases List.mem_append.1 hg with hg | hg
          · exact h2 g hg
          · rw [List.mem_singleton.1 hg]; simpa using hc
      · by_cases hc : upC q e = true ∧ (upV q (l.take n)).2 < e.1.2
        · rw [if_pos hc]
          have hlt := hc.2
          rw [h3] at hlt
          dsimp only at hlt
          refine .inr ⟨e, by simp, hc.1, rfl, fun g hg hgc => ?_⟩
          rcases List.mem_append.1 hg with hg | hg
          · have := h4 g hg hgc; omega
          · rw [List.mem_singleton.1 hg]; exact Int.le_refl _
        · rw [if_neg hc]
          refine .inr ⟨f, List.mem_append_left _ h1, h2, h3, fun g hg hgc => ?_⟩
          rcases List.mem_append.1 hg with hg | hg
          · exact h4 g hg hgc
          · rw [List.mem_singleton.1 hg] at hgc ⊢
            rw [h3] at hc
            dsimp only at hc
            exact Int.not_lt.1 (fun h => hc ⟨hgc, h⟩)
  have := aux l.length (Nat.le_refl _)
  rwa [List.take_length] at this
/-- an entry of a table stands at one place -/
theorem TabE.place {l : List En} (ht : TabE l) {i j : Nat} {x y : En} (hx : l[i]? = some x) (hy : l[j]? = some y) (h : x.1 = y.1) : i = j := by
  obtain ⟨hi, ex⟩ := List.getElem?_eq_some_iff.1 hx
  obtain ⟨hj, ey⟩ := List.getElem?_eq_some_iff.1 hy
  rcases Nat.lt_trichotomy i j with g | g | g
  · have := List.pairwise_iff_getElem.1 ht.asc i j hi hj g
    rw [ex, ey, h] at this
    unfold ltP at this; omega
  · exact g
  · have := List.pairwise_iff_getElem.1 ht.asc j i hj hi g
    rw [ex, ey, h] at this
    unfold ltP at this; omega
/-- it is the value above -/
theorem upV_abv {l : List En} (ht : TabE l) {i : Nat} {x : En} (hx : l[i]? = some x) : (upV x.1 l).1 = AG.abv (l.map toBe) i := by
  have hxm := List.mem_of_getElem? hx
  have hvx := (ht.val x hxm).1
  have hbx := blE_some hx
  have hcv : ∀ e ∈ l, (C e.1 x.1 = true ↔ AG.cv (blk e.1) (blk x.1)) := fun e he => cov_cv (ht.val e he).1 hvx
  have hup : ∀ (m : Nat) (e : En), l[m]? = some e → (upC x.1 e = true ↔ m < i ∧ AG.cv (blk e.1) (blk x.1)) := fun m e he => by
    rw [upC_iff, hcv e (List.mem_of_getElem? he)]
    constructor
    · rintro ⟨h1, h2⟩
      have hmi : m ≠ i := fun g => by subst g; rw [hx] at he; cases he; exact h1 rfl
      exact ⟨ht.ascB.behind (blE_some he) hbx (fun g => hmi g.symm) h2, h2⟩
    · rintro ⟨h1, h2⟩
      refine ⟨fun g => ?_, h2⟩
      have := ht.place he hx g
      omega
  rcases upV_spec x.1 l (fun e he => ((V_iff _).1 (ht.val e he).1).1) with ⟨h1, h2⟩ | ⟨e, he, hc, h3, h4⟩
  · rw [h1]
    rw [AG.abv_none]
    rw [← blE_bls]
    intro k u v hk hu hv hcvk
    rw [hbx] at hv
    cases hv
    obtain ⟨e, he⟩ : ∃ e, l[k]? = some e := ⟨_, List.getElem?_eq_getElem (by have := (List.getElem?_eq_some_iff.1 hu).1; rw [blE_len] at this; exact this)⟩
    rw [blE_some he] at hu
    cases hu
    have := h2 e (List.mem_of_getElem? he)
    rw [(hup k e he).2 ⟨hk, hcvk⟩] at this
    cases this
  · obtain ⟨m, hm⟩ := List.getElem?_of_mem he
    obtain ⟨hmi, hcm⟩ := (hup m e hm).1 hc
    rcases AG.par_or (blE l) i with ⟨j, hj⟩ | hno
    · obtain ⟨f, hf⟩ : ∃ f, l[j]? = some f := ⟨_, List.getElem?_eq_getElem (by have := hj.lt; have := (List.getElem?_eq_some_iff.1 hx).1; omega)⟩
      have hfc : AG.cv (blk f.1) (blk x.1) := by
        obtain ⟨u, v, hu, hv, h⟩ := hj.cov
        rw [blE_some hf] at hu; rw [hbx] at hv
        cases hu; cases hv; exact h
      have hmj : m = j := by
        rcases Nat.lt_trichotomy m j with g | g | g
        · exfalso
          have hle := h4 f (List.mem_of_getElem? hf) ((hup j f hf).2 ⟨hj.lt, hfc⟩)
          have hpx := CM.pow_pos' (blk x.1).2
          have hin : ∀ p : PP, V p = true → AG.cv (blk p) (blk x.1) → con p.1 p.2 (blk x.1).1 = true := fun p hp h => (con_in hp _).2 (by
            obtain ⟨g1, g2⟩ := h
            have g1' : p.1 ≤ (blk x.1).1 := g1
            have g2' : (blk x.1).1 + 2 ^ (blk x.1).2 ≤ p.1 + 2 ^ (32 - p.2.toNat) := g2
            exact ⟨g1', by omega⟩)
          have hlt : ltP e.1 f.1 := by
            obtain ⟨h1, e1⟩ := List.getElem?_eq_some_iff.1 hm
            obtain ⟨h2, e2⟩ := List.getElem?_eq_some_iff.1 hf
            have := List.pairwise_iff_getElem.1 ht.asc m j h1 h2 g
            rwa [e1, e2] at this
          have := con_shorter (hin e.1 (ht.val e he).1 hcm) (hin f.1 (ht.val f (List.mem_of_getElem? hf)).1 hfc) hlt
          omega
        · exact g
        · exact absurd hcm (hj.last m _ _ g hmi (blE_some hm) hbx)
      subst hmj
      rw [hm] at hf
      cases hf
      rw [blE_bls] at hj
      rw [AG.abv_par hj (e := toBe e) (by rw [List.getElem?_map, hm]; rfl), h3]; rfl
    · exact absurd hcm (hno m _ _ hmi (blE_some hm) hbx)
/-- is the entry's prefix another one, which q covers? -/
def dnC (q : PP) (e : En) : Bool := !decide (e.1 = q) && C q e.1
def kidP (q : PP) (l : List En) : List PP := (l.filter (dnC q)).map (·.1)
theorem kidP_snoc (q : PP) (l : List En) (e : En) : kidP q (l ++ [e]) = kidP q l ++ if dnC q e = true then [e.1] else [] := by
  unfold kidP
  rw [List.filter_append, List.map_append]
  congr 1
  by_cases h : dnC q e = true
  · simp [h]
  · simp [h]
theorem kidP_yes {q : PP} {l : List En} {k : Nat} {e : En} (he : l[k]? = some e) (h : dnC q e = true) : kidP q (l.take (k + 1)) = kidP q (l.take k) ++ [e.1] := by rw [take_snocN he, kidP_snoc, if_pos h]
theorem kidP_no {q : PP} {l : List En} {k : Nat} {e : En} (he : l[k]? = some e) (h : dnC q e = false) : kidP q (l.take (k + 1)) = kidP q (l.take k) := by rw [take_snocN he, kidP_snoc, if_neg (by rw [h]; simp), List.append_nil]
/-- an empty normal list is that of the empty set -/
theorem nrm_nil_iff {S : Nat → Bool} {B : List (Nat × Nat)} (h : CM.Nrm S B) : B = [] ↔ ∀ y, S y = false := by
  constructor
  · rintro rfl y
    refine Bool.eq_false_iff.2 fun e => ?_
    obtain ⟨x, hx, _⟩ := h.all y e
    cases hx
  · intro hS
    cases B with
    | nil => rfl
    | cons x r =>
      have := h.fl x (by simp) x.1 (Nat.le_refl _) (by have := CM.pow_pos' x.2; omega)
      rw [hS] at this; cases this
/-- nothing is left of q without the smaller prefixes: it is hidden -/
theorem hidden_set {l : List En} (ht : TabE l) {x : En} (hx : x ∈ l) : (∀ y, (mem [x.1] y && !mem (kidP x.1 l) y) = false) ↔ AG.HidE (l.map toBe) (toBe x) := by
  have hvx := (ht.val x hx).1
  have hk : ∀ y, mem (kidP x.1 l) y = true ↔ ∃ e ∈ l, e.1 ≠ x.1 ∧ AG.cv (blk x.1) (blk e.1) ∧ CM.inB (blk e.1) y := fun y => by
    rw [mem_iff]
    constructor
    · rintro ⟨p, hp, hv, hin⟩
      obtain ⟨e, he, rfl⟩ := List.mem_map.1 hp
      obtain ⟨he1, he2⟩ := List.mem_filter.1 he
      unfold dnC at he2
      rw [Bool.and_eq_true] at he2
      exact ⟨e, he1, by simpa using he2.1, (cov_cv hvx (ht.val e he1).1).1 he2.2, hin⟩
    · rintro ⟨e, he, h1, h2, h3⟩
      refine ⟨e.1, List.mem_map.2 ⟨e, List.mem_filter.2 ⟨he, ?_⟩, rfl⟩, (ht.val e he).1, h3⟩
      unfold dnC
      rw [Bool.and_eq_true]
      exact ⟨by simpa using h1, (cov_cv hvx (ht.val e he).1).2 h2⟩
  have hm : ∀ y, mem [x.1] y = true ↔ CM.inB (blk x.1) y := fun y => by
    rw [mem_iff]
    exact ⟨fun ⟨p, hp, _, h⟩ => by rw [List.mem_singleton.1 hp] at h; exact h, fun h => ⟨x.1, by simp, hvx, h⟩⟩
  unfold AG.HidE
  constructor
  · intro h a h1 h2
    have := h a
    rw [(hm a).2 ⟨h1, h2⟩, Bool.true_and, Bool.not_eq_false'] at this
    obtain ⟨e, he, g1, g2, g3⟩ := (hk a).1 this
    refine ⟨toBe e, List.mem_map.2 ⟨e, he, rfl⟩, fun g => g1 ?_, g2, g3⟩
    rw [← pfx_blk (ht.val e he).1, ← pfx_blk hvx]
    exact congrArg pfx g
  · intro h y
    cases hy : mem [x.1] y
    · rfl
    · have hin := (hm y).1 hy
      obtain ⟨z, hz, g1, g2, g3⟩ := h y hin.1 hin.2
      obtain ⟨e, he, rfl⟩ := List.mem_map.1 hz
      rw [(hk y).2 ⟨e, he, fun g => g1 (by show blk e.1 = blk x.1; rw [g]), g2, g3⟩]; rfl
end Go.Proofs.Ytegponbmelgngaa
end
