/-
  The walk of the law over a list of acts.
-/
import Derived.Test.YtkelfjgjgjdinaaTxI
namespace Go.Proofs.Ytkelfjgjgjdinaa
open Go.RowKit
set_option linter.unusedSimpArgs false
set_option linter.unusedVariables false
set_option maxHeartbeats 2000000
set_option maxRecDepth 100000

theorem act_any (w0 : World) (gt gr : Nat) (E : List En) (h1 : List Nat) (rv : Value) (W : World) (k : Int) (a : Nat) (n x : Int) (h : Duo w0 gt gr E E h1 rv W) (hk : I64 k) (ha : a < 4294967296) (hn : I64 n) (hE : E.length ≤ 300) :
    Calls Try.prog 44 #[.pointer (some ⟨gt, 0, none⟩), .pointer (some ⟨gr, 0, none⟩), .agg #[.int .i64 k, .int .u32 a, .int .i64 n, .int .i64 x]] W (ActPost w0 gt gr k (a, n) x E) := by
  by_cases k0 : k = 0
  · subst k0; exact act0 w0 gt gr E h1 rv W a n x h ha hn hE
  by_cases k1 : k = 1
  · subst k1; exact act1 w0 gt gr E h1 rv W a n x h ha hn hE
  by_cases k2 : k = 2
  · subst k2; exact act2 w0 gt gr E h1 rv W a n x h ha hn hE
  by_cases k3 : k = 3
  · subst k3; exact act3 w0 gt gr E h1 rv W a n x h ha hn hE
  by_cases k4 : k = 4
  · subst k4; exact act4 w0 gt gr E h1 rv W a n x h ha hn hE
  exact act5 w0 gt gr E h1 rv W k a n x h hk k0 k1 k2 k3 k4 ha hn hE
theorem actE_len (k : Int) (p : PP) (x : Int) (E : List En) (h : AscE E) : (actE k p x E).length ≤ E.length + 1 := by
  unfold actE
  split
  · split
    · have := insE_len h (p, x)
      split at this <;> omega
    · omega
  · split
    · have := delE_len h p
      omega
    · omega
/-- a slice of acts -/
def RdT (w : World) (v : Value) (l : List (Int × PP × Int)) : Prop :=
  ∃ ad cap, v = .slice ad l.length cap ∧ ∀ k x, l[k]? = some x → ∃ b off, ad = some ⟨b, off, none⟩ ∧ b < w.heap.size ∧ w.cell? ⟨b, off + k * 4, none⟩ = some (.int .i64 x.1) ∧ w.cell? ⟨b, off + k * 4 + 1, none⟩ = some (.int .u32 (x.2.1.1 : Int)) ∧ w.cell? ⟨b, off + k * 4 + 2, none⟩ = some (.int .i64 x.2.1.2) ∧ w.cell? ⟨b, off + k * 4 + 3, none⟩ = some (.int .i64 x.2.2)
def FitT (l : List (Int × PP × Int)) : Prop := ∀ x ∈ l, I64 x.1 ∧ x.2.1.1 < 4294967296 ∧ I64 x.2.1.2
theorem tcalls_walk (l : List (Int × PP × Int)) (v : Value) (w : World) (hr : RdT w v l) (hf : FitT l) :
    Calls Try.prog 9 #[v] w fun e w' => e = .returned (.bool true) ∧ Below w.heap.size w w' := by
  obtain ⟨ad, cap, rfl, hcc⟩ := hr
  by_cases hl : 120 < l.length
  · go_enter Try.func9, Try.ntmps9
    go_wp2_with (go_at_call 41; refine (awake6_any _).mono ?_; rintro e w1 ⟨rfl, hb⟩)
    go_ret
    exact ⟨rfl, hb⟩
  · have HC := Lib.hid hcc
    have HF := Lib.hid hf
    clear hcc hf
    go_enter Try.func9, Try.ntmps9
    go_wp2_with fail
    refine (new_any _).mono ?_
    rintro e w1 ⟨t, gs, rfl, hT, hg, hb1⟩
    obtain ⟨gt, rfl, -⟩ := hT.ptr
    have T1 := Lib.hid hT
    have G1 := Lib.hid hg
    have B1 := Lib.hid hb1
    clear hT hg hb1
    go_wp2_with fail
    refine (rnew_any _).mono ?_
    rintro e w2 ⟨gr, rfl, hR, hg, hb2⟩
    have D0 : Hid (Duo w gt gr [] [] gs (.slice none 0 0) w2) := ⟨T1.out.below hb2, hR, fun hm => (by have := T1.out.lt _ hm; omega), fun g _ e => (by cases e), G1.out, Nat.le_trans B1.out.size hg, below_then B1.out hb2⟩
    clear hR hg hb2
    go_wp2_with fail
    go_loopg [17] l.length (fun g s17 wr => ∃ (k : Nat) (E : List En) (h1 : List Nat) (rv : Value), k ≤ l.length ∧ l.length - k ≤ g ∧ s17 = .int .i64 k ∧ E.length ≤ k ∧ Duo w gt gr E E h1 rv wr)
    case atStart => exact ⟨0, [], gs, _, by omega, by omega, rfl, Nat.le_refl _, D0.out⟩
    case round =>
      obtain ⟨k, E, h1, rv, hk, hg, rfl, hE, hd⟩ := hrel
      have HD := Lib.hid hd
      have HE := Lib.hid hE
      have HB := Lib.hid hd.bel
      clear hd hE
      by_cases hlt : k < l.length
      · obtain ⟨x, hx⟩ : ∃ x, l[k]? = some x := ⟨_, List.getElem?_eq_getElem hlt⟩
        obtain ⟨blk, off, rfl, hblk, hc0, hc1, hc2, hc3⟩ := HC.out k x hx
        have hfx := HF.out x (List.mem_of_getElem? hx)
        have f0 := carry' HB.out hblk hc0
        have f1 := carry' HB.out hblk hc1
        have f2 := carry' HB.out hblk hc2
        have f3 := carry' HB.out hblk hc3
        clear hc0 hc1 hc2 hc3 hx
        obtain ⟨kd, ⟨a, n⟩, y⟩ := x
        obtain ⟨hfk, hfa, hfn⟩ := hfx
        dsimp only at hfk hfa hfn f0 f1 f2 f3
        have HA : Hid (∀ o, Calls Try.prog 44 #[.pointer (some ⟨gt, 0, none⟩), .pointer (some ⟨gr, 0, none⟩), .agg #[.int .i64 kd, .int .u32 a, .int .i64 n, .int .i64 y]] (wr.alloc o) (ActPost w gt gr kd (a, n) y E)) := fun o => act_any w gt gr E h1 rv _ kd a n y (HD.out.below (below_alloc _ _)) hfk hfa hfn (by have := HE.out; omega)
        have HA2 := Lib.hid (actE_len kd (a, n) y E HD.out.t.asc)
        obtain ⟨E', hE'⟩ : ∃ E', actE kd (a, n) y E = E' := ⟨_, rfl⟩
        unfold ActPost at HA
        rw [hE'] at HA HA2
        clear hE' hfk hfa hfn
        go_wp2_with fail
        refine (HA.out _).mono ?_
        rintro e w3 ⟨rfl, h3, rv3, hd3⟩
        have D3 := Lib.hid hd3
        clear hd3
        go_wp2_with fail
        refine (len_any _ E' h3 _ (.inr D3.out.t)).mono ?_
        rintro e w4 ⟨rfl, rfl⟩
        go_wp2_with fail
        refine (rlen_any gr rv3 E' _ D3.out.r (by have := HE.out; have := HA2.out; omega)).mono ?_
        rintro e w5 ⟨rfl, hb5⟩
        have D5 := Lib.hid (D3.out.below hb5)
        clear hb5
        go_wp2
        go_roundg (l.length - (k + 1))
        case measure => omega
        case rel => exact ⟨k + 1, E', h3, rv3, by omega, Nat.le_refl _, by go_num, by have := HE.out; have := HA2.out; omega, D5.out⟩
      · have hkl : k = l.length := by omega
        subst hkl
        clear hlt
        have hE300 : E.length ≤ 300 := by have := HE.out; omega
        have HE3 := Lib.hid hE300
        clear hE300
        go_wp2_with fail
        refine (awake6_any _).mono ?_
        rintro e w3 ⟨rfl, hb3⟩
        have D3 := Lib.hid (HD.out.below hb3)
        clear hb3
        go_wp2_with fail
        refine (all_any _ E h1 _ (.inr D3.out.t) (by have := HE3.out; omega)).mono ?_
        rintro e w4 ⟨v4, rfl, hr4, hb4⟩
        have Q4 := Lib.hid hr4.rd
        have D4 := Lib.hid (D3.out.below hb4)
        obtain ⟨ad4, cp4, rfl⟩ := rdE_slice hr4.rd
        clear hr4 hb4
        go_wp2_with fail
        refine (rall_any gr rv E _ D4.out.r (by have := HE3.out; omega)).mono ?_
        rintro e w5 ⟨v5, rfl, hr5, hb5⟩
        have P5 := Lib.hid (Q4.out.below hb5)
        have Q5 := Lib.hid hr5
        have D5 := Lib.hid (D4.out.below hb5)
        obtain ⟨ad5, cp5, rfl⟩ := rdE_slice hr5
        clear hr5 hb5
        go_wp2_with fail
        refine (same_any E _ _ _ (by have := HE3.out; omega) P5.out Q5.out).mono ?_
        rintro e w6 ⟨rfl, hb6⟩
        have D6 := Lib.hid (D5.out.below hb6)
        clear hb6
        go_wp2
        go_ret
        exact ⟨rfl, D6.out.bel⟩
end Go.Proofs.Ytkelfjgjgjdinaa
