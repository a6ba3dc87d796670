/-
  The law on sorting.
-/
import Derived.Test.YtiodpgannelgpaaHpG
namespace Go.Proofs.Ytiodpgannelgpaa
open Go.RowKit HM
set_option linter.unusedSimpArgs false
set_option linter.unusedVariables false
set_option maxHeartbeats 4000000
set_option maxRecDepth 100000

theorem cnt_all {ins : List Bool} (h : ∀ x, x < ins.length → gB ins x = true) : cntB ins = ins.length := by
  unfold cntB
  refine List.countP_eq_length.2 (fun b hb => ?_)
  obtain ⟨x, hx⟩ := List.getElem?_of_mem hb
  have hl := (List.getElem?_eq_some_iff.1 hx).1
  have := h x hl
  unfold gB at this; rw [hx] at this; exact this
theorem cnt_off {ins : List Bool} {x : Nat} (h : gB ins x = true) : cntB (ins.set x false) + 1 = cntB ins := by
  have hx : x < ins.length := by
    rcases Nat.lt_or_ge x ins.length with h1 | h1
    · exact h1
    · unfold gB at h; rw [List.getElem?_eq_none h1] at h; cases h
  unfold cntB
  rw [List.countP_set hx]
  have e : ins[x] = true := by unfold gB at h; rw [List.getElem?_eq_getElem hx] at h; exact h
  have : 0 < ins.countP (fun b => b) := List.countP_pos_iff.2 ⟨ins[x], List.getElem_mem hx, e⟩
  rw [e]; simp; omega
theorem rdI_cell {w W : World} {ad : Option Addr} {cap : Nat} {l : List Int} (h : ∀ k x, l[k]? = some x → ∃ b off, ad = some ⟨b, off, none⟩ ∧ b < w.heap.size ∧ w.cell? ⟨b, off + k, none⟩ = some (.int .i64 x)) (hb : Below w.heap.size w W) {k : Nat} (hk : k < l.length) :
    ∃ b off, ad = some ⟨b, off, none⟩ ∧ W.cell? ⟨b, off + k, none⟩ = some (.int .i64 (gI l k)) := by
  obtain ⟨b, off, e, hlt, hc⟩ := h k _ (gI_get hk)
  exact ⟨b, off, e, (hb.cell (p := ⟨b, off + k, none⟩) hlt).trans hc⟩
/-- the keys that were set -/
structure Sets (w W : World) (hb : Nat) (l : List Int) (k : Nat) (ins : List Bool) (keys : List Int) : Prop where
  h : Hw w W hb l.length ins keys
  i : ∀ x, x < l.length → gB ins x = decide (x < k)
  v : ∀ x, x < k → gI keys x = gI l x
/-- the items that are left come behind the last one -/
structure Lefts (w W : World) (hb : Nat) (l : List Int) (m : Nat) (ins : List Bool) (keys : List Int) (last least : Int) : Prop where
  h : Hw w W hb l.length ins keys
  c : cntB ins = m
  v : ∀ x, x < l.length → gI keys x = gI l x
  o : last = -1 ∨ (0 ≤ last ∧ ∀ x, x < l.length → gB ins x = true → least < gI l x ∨ (least = gI l x ∧ last < x))
theorem Lefts.min {w W : World} {hb : Nat} {l : List Int} {m : Nat} {ins : List Bool} {keys : List Int} {last least : Int} (h : Lefts w W hb l m ins keys last least) {x : Nat} (hx : IsMin l.length ins keys x) {W' : World} (h' : Hw w W' hb l.length (ins.set x false) keys) {m' : Nat} (hm : m = m' + 1) :
    Lefts w W' hb l m' (ins.set x false) keys (x : Int) (gI l x) := by
  refine ⟨h', by have := cnt_off hx.2.1; have := h.c; omega, h.v, .inr ⟨by omega, fun y hy hb => ?_⟩⟩
  have hl := h.h.len.1
  rw [gB_set (by have := hx.1; omega)] at hb
  by_cases e : y = x
  · rw [if_pos e] at hb; cases hb
  · rw [if_neg e] at hb
    have := hx.2.2 y hy hb
    have h1 := h.v y hy
    have h2 := h.v x hx.1
    unfold lt at this
    rw [h1, h2] at this
    omega
theorem sorts_big (l : List Int) (v : Value) (w : World) (hr : RdI w v l) (h : 300 < l.length) : Calls Try.prog 13 #[v] w fun e w' => e = .returned (.bool true) ∧ Below w.heap.size w w' := by
  obtain ⟨ad, cap, rfl, h1, h2, hc⟩ := hr
  have h' : (300 : Int) < (l.length : Int) := by omega
  clear hc
  go_enter Try.func13, Try.ntmps13
  go_wp2_with (go_at_call 39; refine (awake_any _).mono ?_; rintro e w1 ⟨rfl, hb⟩; have B := Lib.hid hb; clear hb)
  go_ret
  exact ⟨rfl, B.out⟩
theorem sorts_small (l : List Int) (v : Value) (w : World) (hr : RdI w v l) (h : l.length ≤ 300) : Calls Try.prog 13 #[v] w fun e w' => e = .returned (.bool true) ∧ Below w.heap.size w w' := by
  obtain ⟨ad, cap, rfl, h1, h2, hc⟩ := hr
  have HC := Lib.hid hc
  clear hc h1
  obtain ⟨L, hL⟩ : ∃ L, l.length = L := ⟨_, rfl⟩
  have HL := Lib.hid hL
  rw [hL] at h
  rw [hL]
  clear hL
  go_enter Try.func13, Try.ntmps13
  go_wp2_with fail
  go_at_call 40
  refine (hw_new (L : Int) L (by omega) w w (Below.refl _ _)).mono ?_
  rintro e w1 ⟨hb, rfl, hh⟩
  have HS : Hid (Sets w w1 hb l 0 (List.replicate L false) (List.replicate L 0)) := ⟨HL.out ▸ hh, fun x hx => by unfold gB; rw [List.getElem?_replicate]; split <;> rfl, fun x hx => by omega⟩
  clear hh
  go_wp2_with fail
  go_loopg [26, 4, 5] L (fun g s26 s4 s5 wr => ∃ (k : Nat) (ins : List Bool) (keys : List Int), k ≤ L ∧ L - k ≤ g ∧ s26 = .int .i64 (k : Int) ∧ (∃ v, v = s4) ∧ (∃ v, v = s5) ∧ Hid (Sets w wr hb l k ins keys))
  case atStart => exact ⟨0, _, _, by omega, by omega, rfl, ⟨_, rfl⟩, ⟨_, rfl⟩, HS⟩
  case round =>
    clear HS
    obtain ⟨k, ins, keys, hk, hkg, rfl, ⟨v4, rfl⟩, ⟨v5, rfl⟩, HS⟩ := hrel
    by_cases hlt : k < L
    · obtain ⟨b, off, rfl, c0⟩ := rdI_cell (cap := cap) HC.out HS.out.h.b (k := k) (by have := HL.out; omega)
      have HSet : Hid (Calls Try.prog 45 #[.pointer (some ⟨hb, 0, none⟩), .int .i64 (k : Int), .int .i64 (gI l k)] wr fun e w' => e = .returned (.bool true) ∧ Sets w w' hb l (k + 1) (ins.set k true) (keys.set k (gI l k))) := by
        have hl := HL.out
        refine (HS.out.h.set k (gI l k) (by omega)).mono fun e w' ⟨a, b⟩ => ⟨a, b, fun x hx => ?_, fun x hx => ?_⟩
        · rw [gB_set (by rw [HS.out.h.len.1]; omega)]
          by_cases e : x = k
          · rw [if_pos e]; simp [e]
          · rw [if_neg e, HS.out.i x hx]; exact decide_eq_decide.2 (by omega)
        · rw [gI_set (by rw [HS.out.h.len.2.1]; omega)]
          by_cases e : x = k
          · rw [if_pos e, e]
          · rw [if_neg e]; exact HS.out.v x (by omega)
      generalize hx : gI l k = kx at *
      have k0 : (0 : Int) ≤ (k : Int) := by omega
      have k1 : (k : Int) < (L : Int) := by omega
      have HX := Lib.hid hx
      clear hx
      go_wp2_with (go_at_call 45; refine HSet.out.mono ?_; rintro e w2 ⟨rfl, hh⟩; have H2 := Lib.hid hh; clear hh)
      go_roundg (L - (k + 1))
      case measure => omega
      case rel => exact ⟨k + 1, _, _, by omega, Nat.le_refl _, by go_num, ⟨_, rfl⟩, ⟨_, rfl⟩, H2⟩
    · have HF : Hid (Lefts w wr hb l L ins keys (-1) 0) := by
        have hl := HL.out
        have hkl : k = L := by omega
        refine ⟨HS.out.h, ?_, fun x hx => HS.out.v x (by omega), .inl rfl⟩
        have := cnt_all (ins := ins) (fun x hx => by rw [HS.out.h.len.1] at hx; rw [HS.out.i x hx]; exact decide_eq_true (by omega))
        rw [this, HS.out.h.len.1, hl]
      clear HS hkg
      go_wp2_with fail
      go_loopg [6, 7, 8, 9, 10, 11] L (fun g s6 s7 s8 s9 s10 s11 wr => ∃ (m : Nat) (ins : List Bool) (keys : List Int) (last least : Int), m ≤ L ∧ m ≤ g ∧ s8 = .int .i64 (m : Int) ∧ s6 = .int .i64 last ∧ s7 = .int .i64 least ∧ (∃ v, v = s9) ∧ (∃ v, v = s10) ∧ (∃ v, v = s11) ∧ Hid (Lefts w wr hb l m ins keys last least))
      case atStart => exact ⟨L, _, _, -1, 0, Nat.le_refl _, Nat.le_refl _, rfl, rfl, rfl, ⟨_, rfl⟩, ⟨_, rfl⟩, ⟨_, rfl⟩, HF⟩
      case round =>
        clear HF hlt hk
        obtain ⟨m, ins, keys, last, least, hmL, hmg, rfl, rfl, rfl, ⟨v9, rfl⟩, ⟨v10, rfl⟩, ⟨v11, rfl⟩, HF⟩ := hrel
        by_cases hm : m = 0
        · have HN := Lib.hid (HF.out.h.popNone (by rw [HF.out.c]; exact hm))
          have hm' : ¬ 0 < m := by omega
          clear hm
          go_wp2_with (first
            | (go_at_call 46; refine HN.out.mono ?_; rintro e w2 ⟨rfl, rfl⟩)
            | (go_at_call 39; refine (awake_any _).mono ?_; rintro e w3 ⟨rfl, hb3⟩; have B3 := Lib.hid hb3; clear hb3))
          go_ret
          exact ⟨rfl, below_then HF.out.h.b B3.out⟩
        · obtain ⟨m', rfl⟩ : ∃ m', m = m' + 1 := ⟨m - 1, by omega⟩
          have HP := Lib.hid (HF.out.h.pop (by rw [HF.out.c]; omega))
          clear hm
          go_wp2_with fail
          go_at_call 46
          refine HP.out.mono ?_
          rintro e w2 ⟨x, rfl, hmin, hh⟩
          have H2 : Hid (Lefts w w2 hb l m' (ins.set x false) keys (x : Int) (gI l x)) := HF.out.min hmin hh rfl
          have hkx : gI keys x = gI l x := HF.out.v x hmin.1
          rw [hkx]
          have hxl := hmin.1
          rw [HL.out] at hxl
          obtain ⟨b, off, rfl, c0⟩ := rdI_cell (cap := cap) HC.out H2.out.h.b (k := x) (by have := HL.out; omega)
          have HLen : Hid (Calls Try.prog 43 #[.pointer (some ⟨hb, 0, none⟩)] w2 fun e w' => e = .returned (.int .i64 (m' : Int)) ∧ w2 = w') := by
            have := H2.out.h.size; rwa [H2.out.c] at this
          have HO : Hid (last = -1 ∨ (0 ≤ last ∧ (least < gI l x ∨ (least = gI l x ∧ last < x)))) := by
            rcases HF.out.o with h3 | ⟨h3, h4⟩
            · exact .inl h3
            · exact .inr ⟨h3, h4 x (by rw [HL.out]; exact hxl) hmin.2.1⟩
          clear hmin hh hkx HP
          have x0 : (0 : Int) ≤ (x : Int) := by omega
          have x0' : ¬ (x : Int) < 0 := by omega
          have x1 : (x : Int) < (L : Int) := by omega
          have x1' : ¬ L ≤ x := by omega
          generalize hkx : gI l x = kx at *
          have HX := Lib.hid hkx
          clear hkx
          rcases HO.out with h5 | ⟨h5, h6⟩
          · have h7 : decide (0 ≤ last) = false := decide_eq_false (by omega)
            clear h5
            go_wp2_with (go_at_call 43; refine HLen.out.mono ?_; rintro e w3 ⟨rfl, rfl⟩)
            go_roundg m'
            case measure => omega
            case rel => exact ⟨m', _, _, _, _, by omega, Nat.le_refl _, by go_num, rfl, rfl, ⟨_, rfl⟩, ⟨_, rfl⟩, ⟨_, rfl⟩, H2⟩
          · by_cases h7 : kx = least
            · have h8 : ¬ (x : Int) ≤ last := by omega
              have h9 : ¬ kx < least := by omega
              have h10 : decide (kx < least) = false := decide_eq_false h9
              have h11 : (kx == least) = true := by simpa using h7
              have h12 : decide ((x : Int) ≤ last) = false := decide_eq_false h8
              clear h6 h7
              go_wp2_with (go_at_call 43; refine HLen.out.mono ?_; rintro e w3 ⟨rfl, rfl⟩)
              go_roundg m'
              case measure => omega
              case rel => exact ⟨m', _, _, _, _, by omega, Nat.le_refl _, by go_num, rfl, rfl, ⟨_, rfl⟩, ⟨_, rfl⟩, ⟨_, rfl⟩, H2⟩
            · have h9 : ¬ kx < least := by omega
              have h10 : decide (kx < least) = false := decide_eq_false h9
              have h11 : (kx == least) = false := by simpa using h7
              clear h6
              go_wp2_with (go_at_call 43; refine HLen.out.mono ?_; rintro e w3 ⟨rfl, rfl⟩)
              go_roundg m'
              case measure => omega
              case rel => exact ⟨m', _, _, _, _, by omega, Nat.le_refl _, by go_num, rfl, rfl, ⟨_, rfl⟩, ⟨_, rfl⟩, ⟨_, rfl⟩, H2⟩
theorem sorts_walk (l : List Int) (v : Value) (w : World) (hr : RdI w v l) (hf : ∀ x ∈ l, I64 x) : Calls Try.prog 13 #[v] w fun e w' => e = .returned (.bool true) ∧ Below w.heap.size w w' := by
  by_cases h : 300 < l.length
  · exact sorts_big l v w hr h
  · exact sorts_small l v w hr (by omega)
end Go.Proofs.Ytiodpgannelgpaa
