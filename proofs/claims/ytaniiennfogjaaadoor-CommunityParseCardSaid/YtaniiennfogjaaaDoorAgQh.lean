/-
  The library's sort of addresses: siftDown, heapSort.
-/
import Derived.Test.YtaniiennfogjaaaDoorAgQi
import Derived.Deep.DeepCutAuto
import Derived.Deep.CutBlock
namespace Go.Proofs.YtaniiennfogjaaaDoor
open Go.RowKit
set_option linter.unusedSimpArgs false
set_option linter.unusedVariables false
set_option maxHeartbeats 1500000
set_option maxRecDepth 100000

/-- the greater one of the places below r -/
def BigC (a n r c v : Nat) (l : List Nat) : Prop := (c = 2 * r + 1 ∨ c = 2 * r + 2) ∧ c < n ∧ l[a + c]? = some v ∧ ∀ s z, (s = 2 * r + 1 ∨ s = 2 * r + 2) → s < n → l[a + s]? = some z → z ≤ v
theorem sift_any (B g cap L a lo n : Nat) (l : List Nat) (w : World) (h : OwnA B w (.slice (some ⟨g, 0, none⟩) L cap) l) (hL : L = l.length) (hlon : lo ≤ n) (hn : a + n ≤ L) (hbig : L ≤ 1000000) (hh : HeapS a (lo + 1) n l) :
    Calls Tryd.prog 82 #[.slice (some ⟨g, 0, none⟩) L cap, .int .i64 (lo : Int), .int .i64 (n : Int), .int .i64 (a : Int)] w fun e w' => e = .returned (.tuple #[]) ∧ ∃ l', SegS B g cap L a (a + n) l l' w w' ∧ HeapS a lo n l' := by
  have H : Hid (OwnA B w (.slice (some ⟨g, 0, none⟩) L cap) l ∧ SiftI a lo n lo l) := ⟨h, hh.sift⟩
  have HL := Lib.hid hL
  clear h hL hh
  go_enter Tryd.func82, Tryd.ntmps82
  go_wp2_with fail
  go_loopg [8] (n - lo) (fun gk s8 wr => ∃ (r : Nat) (l1 : List Nat), s8 = .int .i64 (r : Int) ∧ lo ≤ r ∧ r ≤ n ∧ n - r ≤ gk ∧ Hid (SegS B g cap L a (a + n) l l1 w wr ∧ SiftI a lo n r l1))
  case atStart => exact ⟨lo, l, rfl, Nat.le_refl _, hlon, Nat.le_refl _, ⟨SegP.refl _ _ _, H.out.1, Below.refl _ _⟩, H.out.2⟩
  case round =>
    clear H
    obtain ⟨r, l1, rfl, hlr, hrn, hgk, HI⟩ := hrel
    have hlen : l1.length = L := by have := HI.out.1.1.len; have := HL.out; omega
    have HLN := Lib.hid hlen
    by_cases h0 : n ≤ 2 * r + 1
    · have k1 : (n : Int) ≤ 2 * (r : Int) + 1 := by omega
      have HD : Hid (HeapS a lo n l1) := HI.out.2.done (fun c x y hc hcn _ _ => by omega)
      clear hlen
      go_wp2_with fail
      go_end0
      exact ⟨rfl, l1, HI.out.1, HD.out⟩
    · have k1 : ¬ (n : Int) ≤ 2 * (r : Int) + 1 := by omega
      obtain ⟨u, hu⟩ : ∃ x, l1[a + r]? = some x := ⟨_, List.getElem?_eq_getElem (by omega)⟩
      obtain ⟨v1, hv1⟩ : ∃ x, l1[a + (2 * r + 1)]? = some x := ⟨_, List.getElem?_eq_getElem (by omega)⟩
      have cv1 := HI.out.1.2.1.cell hv1 HLN.out.symm
      have HU := Lib.hid (And.intro hu hv1)
      clear hu hv1 hlen
      go_upto_region 3 with fail
      go_cut [36] from 11 (fun s36 wc => ∃ q : Bool, s36 = .bool q ∧ Hid (SegS B g cap L a (a + n) l l1 w wc ∧ ∃ v, BigC a n r (if q then 2 * r + 2 else 2 * r + 1) v l1))
      case first =>
        have b0 : (0 : Int) ≤ (a : Int) + (2 * (r : Int) + 1) := by omega
        have b1 : (a : Int) + (2 * (r : Int) + 1) < (L : Int) := by omega
        by_cases h2 : 2 * r + 2 < n
        · have k2 : 2 * (r : Int) + 1 + 1 < (n : Int) := by omega
          have k3 : decide (2 * (r : Int) + 1 + 1 < (n : Int)) = true := decide_eq_true k2
          obtain ⟨v2, hv2⟩ : ∃ x, l1[a + (2 * r + 1) + 1]? = some x := ⟨_, List.getElem?_eq_getElem (by have := HLN.out; omega)⟩
          have cv2 := HI.out.1.2.1.cell hv2 HLN.out.symm
          have HV2 := Lib.hid hv2
          have b2 : (a : Int) + (2 * (r : Int) + 1) + 1 < (L : Int) := by omega
          have HLS : Hid (∀ W, Calls Tryd.prog 71 #[.int .u32 (v1 : Int), .int .u32 (v2 : Int)] W fun e w' => e = .returned (.bool (decide (v1 < v2))) ∧ W = w') := fun W => less_any v1 v2 W
          have HB : Hid (∃ v, BigC a n r (if decide (v1 < v2) then 2 * r + 2 else 2 * r + 1) v l1) := by
            have hw2 : l1[a + (2 * r + 2)]? = some v2 := HV2.out
            by_cases hlt : v1 < v2
            · rw [decide_eq_true hlt]
              refine ⟨v2, .inr rfl, h2, hw2, fun s z hs hsn hz => ?_⟩
              rcases hs with rfl | rfl
              · rw [HU.out.2] at hz; cases hz; omega
              · rw [hw2] at hz; cases hz; omega
            · rw [decide_eq_false hlt]
              refine ⟨v1, .inl rfl, by show 2 * r + 1 < n; omega, HU.out.2, fun s z hs hsn hz => ?_⟩
              rcases hs with rfl | rfl
              · rw [HU.out.2] at hz; cases hz; omega
              · rw [hw2] at hz; cases hz; omega
          clear hv2
          obtain ⟨q, hq⟩ : ∃ q, decide (v1 < v2) = q := ⟨_, rfl⟩
          rw [hq] at HLS HB
          clear hq
          go_quiet ((go_at_call 71; exact Calls.quiet_of_same ((HLS.out _).mono fun _ _ h => ⟨h.1, h.2.symm⟩)))
          go_wp2_with fail
          go_meet
          case rel => exact ⟨q, rfl, HI.out.1.drewN _, HB.out⟩
        · have k3 : decide (2 * (r : Int) + 1 + 1 < (n : Int)) = false := decide_eq_false (by omega)
          have HB : Hid (∃ v, BigC a n r (if false then 2 * r + 2 else 2 * r + 1) v l1) := by
            refine ⟨v1, .inl rfl, by show 2 * r + 1 < n; omega, HU.out.2, fun s z hs hsn hz => ?_⟩
            rcases hs with rfl | rfl
            · rw [HU.out.2] at hz; cases hz; omega
            · omega
          go_quiet (fail)
          go_wp2_with fail
          go_meet
          case rel => exact ⟨false, rfl, HI.out.1.drewN _, HB.out⟩
      case rest =>
        obtain ⟨q, rfl, HC⟩ := hcut
        go_upto_if 36 with fail
        go_cut [9] from 11 (fun s9 wx => ∃ c v : Nat, s9 = .int .i64 (c : Int) ∧ Hid (SegS B g cap L a (a + n) l l1 w wx ∧ BigC a n r c v l1))
        case first =>
          cases q
          · obtain ⟨v, hv⟩ := HC.out.2
            go_wp2_with fail
            go_meet
            case rel => exact ⟨2 * r + 1, v, by go_num, HC.out.1, hv⟩
          · obtain ⟨v, hv⟩ := HC.out.2
            go_wp2_with fail
            go_meet
            case rel => exact ⟨2 * r + 2, v, by go_num, HC.out.1, hv⟩
        case rest =>
          clear HC cv1
          obtain ⟨c, v, rfl, HC⟩ := hcut
          have cu := HC.out.1.2.1.cell HU.out.1 HLN.out.symm
          have cv := HC.out.1.2.1.cell HC.out.2.2.2.1 HLN.out.symm
          have hcn := HC.out.2.2.1
          have hcr : c ≠ r := by have := HC.out.2.1; omega
          have hcr2 : r < c := by have := HC.out.2.1; omega
          have b0 : (0 : Int) ≤ (a : Int) + (r : Int) := by omega
          have b1 : (a : Int) + (r : Int) < (L : Int) := by omega
          have b2 : (0 : Int) ≤ (a : Int) + (c : Int) := by omega
          have b3 : (a : Int) + (c : Int) < (L : Int) := by omega
          have HLS : Hid (∀ W, Calls Tryd.prog 71 #[.int .u32 (u : Int), .int .u32 (v : Int)] W fun e w' => e = .returned (.bool (decide (u < v))) ∧ W = w') := fun W => less_any u v W
          by_cases huv : u < v
          · rw [decide_eq_true huv] at HLS
            have HSW : Hid (∀ k, SegS B g cap L a (a + n) l ((l1.set (a + r) v).set (a + c) u) w (((wc.drewN k).setCell ⟨g, a + r, none⟩ (.int .u32 (v : Int))).setCell ⟨g, a + c, none⟩ (.int .u32 (u : Int)))) := fun k => HC.out.1.swap HL.out ⟨by omega, by omega⟩ ⟨by omega, by omega⟩ HU.out.1 HC.out.2.2.2.1 k
            have HST : Hid (SiftI a lo n c ((l1.set (a + r) v).set (a + c) u)) := HI.out.2.step hlr HC.out.2.1 hcn HU.out.1 HC.out.2.2.2.1 huv HC.out.2.2.2.2
            have y0 := HC.out.1.2.1.free (a + r)
            have y1 := HC.out.1.2.1.free (a + c)
            have hne : ¬ a + r = a + c := by omega
            clear huv
            go_wp2_with fail
            go_quiet ((go_at_call 71; exact Calls.quiet_of_same ((HLS.out _).mono fun _ _ h => ⟨h.1, h.2.symm⟩)))
            go_wp2_with fail
            go_region
            all_goals (
              go_wp2_with fail
              go_roundg (n - c)
              case measure => omega
              case rel => exact ⟨c, _, rfl, by omega, by omega, Nat.le_refl _, HSW.out _, HST.out⟩)
          · rw [decide_eq_false huv] at HLS
            have HD : Hid (HeapS a lo n l1) := HI.out.2.done (fun s x y hs hsn hx hy => by
              rw [HU.out.1] at hx; cases hx
              have := HC.out.2.2.2.2 s y hs hsn hy; omega)
            clear huv
            go_wp2_with fail
            go_quiet ((go_at_call 71; exact Calls.quiet_of_same ((HLS.out _).mono fun _ _ h => ⟨h.1, h.2.symm⟩)))
            go_wp2_with fail
            (try simp only [Exit.inBlock, Exit.then])
            refine bodyPost_ret (results_none rfl _ _ _) rfl ?_
            exact ⟨rfl, l1, HC.out.1.drewN _, HD.out⟩
theorem heap_any (B g cap L a n : Nat) (l : List Nat) (w : World) (h : OwnA B w (.slice (some ⟨g, 0, none⟩) L cap) l) (hL : L = l.length) (hn : a + (n + 1) ≤ L) (hbig : L ≤ 1000000) :
    Calls Tryd.prog 66 #[.slice (some ⟨g, 0, none⟩) L cap, .int .i64 (a : Int), .int .i64 ((a : Int) + ((n : Int) + 1))] w fun e w' => e = .returned (.tuple #[]) ∧ ∃ l', SegS B g cap L a (a + (n + 1)) l l' w w' ∧ SrtSeg a (a + (n + 1)) l' := by
  have H := Lib.hid h
  have HL := Lib.hid hL
  obtain ⟨q, hq⟩ : ∃ q, n / 2 = q := ⟨_, rfl⟩
  have hq2 : n ≤ 2 * q + 1 := by omega
  have hq3 : 2 * q ≤ n := by omega
  have hqi : ((n : Int)).tdiv 2 = (q : Int) := by rw [← hq]; exact rfl
  have hqd : (n : Int) / 2 = (q : Int) := by omega
  have e0 : (a : Int) + ((n : Int) + 1) - (a : Int) = (n : Int) + 1 := by omega
  have HSF : Hid (∀ (l1 : List Nat) W lo, SegS B g cap L a (a + (n + 1)) l l1 w W → lo ≤ n + 1 → HeapS a (lo + 1) (n + 1) l1 → Calls Tryd.prog 82 #[.slice (some ⟨g, 0, none⟩) L cap, .int .i64 (lo : Int), .int .i64 ((n : Int) + 1), .int .i64 (a : Int)] W fun e w' => e = .returned (.tuple #[]) ∧ ∃ l', SegS B g cap L a (a + (n + 1)) l1 l' W w' ∧ HeapS a lo (n + 1) l') := fun l1 W lo hs hlo hh => sift_any B g cap L a lo (n + 1) l1 W hs.2.1 (by have := hs.1.len; omega) hlo hn hbig hh
  have HSP : Hid (∀ (l1 : List Nat) W m, SegS B g cap L a (a + (n + 1)) l l1 w W → m ≤ n + 1 → HeapS a (0 + 1) m l1 → Calls Tryd.prog 82 #[.slice (some ⟨g, 0, none⟩) L cap, .int .i64 0, .int .i64 (m : Int), .int .i64 (a : Int)] W fun e w' => e = .returned (.tuple #[]) ∧ ∃ l', SegS B g cap L a (a + m) l1 l' W w' ∧ HeapS a 0 m l') := fun l1 W m hs hm hh => sift_any B g cap L a 0 m l1 W hs.2.1 (by have := hs.1.len; omega) (Nat.zero_le _) (by omega) hbig hh
  clear h hL hq
  go_enter Tryd.func66, Tryd.ntmps66
  go_wp2_with fail
  go_loopg [9] (q + 1) (fun gk s9 wr => ∃ (k : Nat) (l1 : List Nat), ((k = 0 ∧ s9 = .int .i64 (-1)) ∨ (∃ m : Nat, k = m + 1 ∧ s9 = .int .i64 (m : Int))) ∧ k ≤ q + 1 ∧ k ≤ gk ∧ Hid (SegS B g cap L a (a + (n + 1)) l l1 w wr ∧ HeapS a k (n + 1) l1))
  case atStart => exact ⟨q + 1, l, .inr ⟨q, rfl, rfl⟩, Nat.le_refl _, Nat.le_refl _, ⟨SegP.refl _ _ _, H.out, Below.refl _ _⟩, HeapS.start _ _ _ _ (by omega)⟩
  case round =>
    clear H
    obtain ⟨k, l1, hk, hkq, hgk, HI⟩ := hrel
    rcases hk with ⟨rfl, rfl⟩ | ⟨m, rfl, rfl⟩
    · go_wp2_with fail
      go_loopg [10] (n + 1) (fun gk s10 wr => ∃ (k : Nat) (l1 : List Nat), ((k = 0 ∧ s10 = .int .i64 (-1)) ∨ (∃ m : Nat, k = m + 1 ∧ s10 = .int .i64 (m : Int))) ∧ k ≤ n + 1 ∧ k ≤ gk ∧ Hid (SegS B g cap L a (a + (n + 1)) l l1 w wr ∧ PopI a (n + 1) k l1))
      case atStart => exact ⟨n + 1, l1, .inr ⟨n, rfl, rfl⟩, Nat.le_refl _, Nat.le_refl _, HI.out.1, PopI.start HI.out.2⟩
      case round =>
        clear HI
        obtain ⟨k, l1, hk, hkq, hgk, HI⟩ := hrel
        rcases hk with ⟨rfl, rfl⟩ | ⟨m, rfl, rfl⟩
        · go_wp2_with fail
          go_end0
          exact ⟨rfl, l1, HI.out.1, HI.out.2.srt⟩
        · have hlen : l1.length = L := by have := HI.out.1.1.len; have := HL.out; omega
          have HLN := Lib.hid hlen
          obtain ⟨u, hu⟩ : ∃ x, l1[a]? = some x := ⟨_, List.getElem?_eq_getElem (by omega)⟩
          obtain ⟨v, hv⟩ : ∃ x, l1[a + m]? = some x := ⟨_, List.getElem?_eq_getElem (by omega)⟩
          have cu := HI.out.1.2.1.cell hu hlen.symm
          have cv := HI.out.1.2.1.cell hv hlen.symm
          have y0 := HI.out.1.2.1.free a
          have y1 := HI.out.1.2.1.free (a + m)
          have HSW : Hid (∀ k, SegS B g cap L a (a + (n + 1)) l ((l1.set a v).set (a + m) u) w (((wr.drewN k).setCell ⟨g, a, none⟩ (.int .u32 (v : Int))).setCell ⟨g, a + m, none⟩ (.int .u32 (u : Int)))) := fun k => HI.out.1.swap HL.out ⟨by omega, by omega⟩ ⟨by omega, by omega⟩ hu hv k
          have HHS : Hid (HeapS a (0 + 1) m ((l1.set a v).set (a + m) u)) := HI.out.2.1.swapped hu hv
          have HNX : Hid (∀ l2, SegP a (a + m) ((l1.set a v).set (a + m) u) l2 → HeapS a 0 m l2 → PopI a (n + 1) m l2) := fun l2 s hh => HI.out.2.next (by omega) (by omega) hu hv s hh
          generalize (l1.set a v).set (a + m) u = l2 at HSW HHS HNX
          have b0 : (0 : Int) ≤ (a : Int) := by omega
          have b1 : (a : Int) < (L : Int) := by omega
          have b2 : (0 : Int) ≤ (a : Int) + (m : Int) := by omega
          have b3 : (a : Int) + (m : Int) < (L : Int) := by omega
          clear hlen
          by_cases hm0 : m = 0
          · subst hm0
            obtain rfl : u = v := by rw [Nat.add_zero, hu] at hv; exact Option.some.inj hv
            clear hu hv
            go_wp2_with fail
            go_region
            all_goals (
              have HC := Lib.hid (HSP.out l2 _ 0 (HSW.out 1) (by omega) HHS.out)
              go_wp2_with (go_at_call 82; refine HC.out.mono ?_; rintro en w1 ⟨rfl, h1⟩; have HF := Lib.hid h1; clear h1)
              obtain ⟨l3, h2, h3⟩ := HF.out
              go_roundg 0
              case measure => omega
              case rel => exact ⟨0, l3, .inl ⟨rfl, by go_num⟩, by omega, Nat.le_refl _, ⟨(HSW.out 1).1.trans (h2.1.wide (Nat.le_refl _) (by omega)), h2.2.1, (HSW.out 1).2.2.trans h2.2.2⟩, HNX.out l3 h2.1 h3⟩)
          · have hne : ¬ a = a + m := by omega
            clear hu hv
            go_wp2_with fail
            go_region
            all_goals (
              have HC := Lib.hid (HSP.out l2 _ m (HSW.out 1) (by omega) HHS.out)
              go_wp2_with (go_at_call 82; refine HC.out.mono ?_; rintro en w1 ⟨rfl, h1⟩; have HF := Lib.hid h1; clear h1)
              obtain ⟨l3, h2, h3⟩ := HF.out
              go_roundg m
              case measure => omega
              case rel => exact ⟨m, l3, .inr ⟨m - 1, by omega, by congr 1; omega⟩, by omega, Nat.le_refl _, ⟨(HSW.out 1).1.trans (h2.1.wide (Nat.le_refl _) (by omega)), h2.2.1, (HSW.out 1).2.2.trans h2.2.2⟩, HNX.out l3 h2.1 h3⟩)
    · have HC := Lib.hid (HSF.out l1 _ m HI.out.1 (by omega) HI.out.2)
      have hm0 : (0 : Int) ≤ (m : Int) := by omega
      go_wp2_with (go_at_call 82; refine HC.out.mono ?_; rintro en w1 ⟨rfl, h1⟩; have HF := Lib.hid h1; clear h1)
      obtain ⟨l3, h2, h3⟩ := HF.out
      go_roundg m
      case measure => omega
      case rel =>
        refine ⟨m, l3, ?_, by omega, Nat.le_refl _, ⟨HI.out.1.1.trans h2.1, h2.2.1, HI.out.1.2.2.trans h2.2.2⟩, h3⟩
        cases m with
        | zero => exact .inl ⟨rfl, by go_num⟩
        | succ k => exact .inr ⟨k, rfl, by congr 1; omega⟩
theorem heap_cd (B g cap L c d : Nat) (l : List Nat) (w : World) (h : OwnA B w (.slice (some ⟨g, 0, none⟩) L cap) l) (hL : L = l.length) (hcd : c < d) (hn : d ≤ L) (hbig : L ≤ 1000000) :
    Calls Tryd.prog 66 #[.slice (some ⟨g, 0, none⟩) L cap, .int .i64 (c : Int), .int .i64 (d : Int)] w fun e w' => e = .returned (.tuple #[]) ∧ ∃ l', SegS B g cap L c d l l' w w' ∧ SrtSeg c d l' := by
  obtain ⟨n, rfl⟩ : ∃ n, d = c + (n + 1) := ⟨d - c - 1, by omega⟩
  have := heap_any B g cap L c n l w h hL (by omega) hbig
  rwa [show (c : Int) + ((n : Int) + 1) = ((c + (n + 1) : Nat) : Int) by omega] at this
end Go.Proofs.YtaniiennfogjaaaDoor
