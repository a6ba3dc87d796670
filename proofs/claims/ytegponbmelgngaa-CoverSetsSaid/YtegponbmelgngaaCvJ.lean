/-
  The walks of Is, Has and Count.
-/
import Derived.Test.YtegponbmelgngaaCvI
namespace Go.Proofs.Ytegponbmelgngaa
open Go.RowKit
set_option linter.unusedSimpArgs false
set_option linter.unusedVariables false
set_option maxHeartbeats 4000000
set_option maxRecDepth 100000

theorem is_any (a : List PP) (v1 : Value) (w : World) (ha : Big a) (fa : FitL a) (hr1 : Rd w v1 a) :
    Calls Try.prog 23 #[v1] w fun e w' => ∃ B, e = .returned (.bool (decide (a = B.map pfx))) ∧ CM.Nrm (mem a) B ∧ Below w.heap.size w w' := by
  have H := Lib.hid (normal_any a v1 w ha fa hr1)
  have HE : Hid (∀ W v2 m, Below w.heap.size w W → Rd W v2 m → Calls Try.prog 65 #[v1, v2] W fun e w' => e = .returned (.bool (decide (a = m))) ∧ Below W.heap.size W w') := fun W v2 m hW h2 => equalP_any a m v1 v2 W ha (hr1.below hW) h2
  clear hr1
  go_enter Try.func23, Try.ntmps23
  go_wp2_with (first
    | (go_at_call 21; refine H.out.mono ?_; rintro e w1 ⟨v, B, rfl, hN, hr, hb⟩; have HN := Lib.hid hN; have B1 := Lib.hid hb; have E1 := Lib.hid (HE.out w1 v _ hb hr); clear hN hr hb)
    | (go_at_call 65; refine E1.out.mono ?_; rintro e w2 ⟨rfl, hb⟩; have B2 := Lib.hid (below_then B1.out hb); clear hb))
  go_ret
  exact ⟨B, rfl, HN.out, B2.out⟩
theorem has1_any (x : PP) (y bx : Nat) (hx : x.1 < 4294967296 ∧ I64 x.2) (hy : y < 4294967296) (w : World) (hc : w.cell? ⟨bx, 0, none⟩ = some (.int .u32 (y : Int))) :
    Calls Try.prog 75 #[.agg #[.int .u32 (x.1 : Int), .int .i64 x.2], .pointer (some ⟨bx, 0, none⟩)] w fun e w' => e = .returned (.bool (con x.1 x.2 y)) ∧ Below w.heap.size w w' := by
  obtain ⟨a, n⟩ := x
  have HC : Hid (∀ W, Calls Try.prog 76 #[.agg #[.int .u32 (a : Int), .int .i64 n], .int .u32 (y : Int)] W fun e w' => e = .returned (.bool (con a n y)) ∧ Below W.heap.size W w') := fun W => contains_any a hx.1 n hx.2 y hy W
  have hbx := World.block_lt_of_cell? _ _ hc
  have hca : ∀ o, (w.alloc o).cell? ⟨bx, 0, none⟩ = some (.int .u32 (y : Int)) := fun o => carry (below_alloc _ _) hc
  dsimp only
  generalize con a n y = z at HC ⊢
  go_enter Try.func75, Try.ntmps75
  go_wp2_with (go_at_call 76; refine (HC.out _).mono ?_; rintro e w1 ⟨rfl, hb⟩; have B := Lib.hid (below_then (below_alloc _ _) hb); clear hb)
  go_ret
  exact ⟨rfl, B.out⟩
theorem index75_any (l : List PP) (v : Value) (y bx : Nat) (hy : y < 4294967296) (w : World) (hl : l.length ≤ 4294967296) (hf : ∀ x ∈ l, x.1 < 4294967296 ∧ I64 x.2) (hr : Rd w v l) (hcy : w.cell? ⟨bx, 0, none⟩ = some (.int .u32 (y : Int))) :
    Calls Try.prog 108 #[v, .func (.func 75) #[] #[.pointer (some ⟨bx, 0, none⟩)]] w (IdxPost (fun x => con x.1 x.2 y) l w) := by
  obtain ⟨ad, cap, rfl, hc⟩ := hr
  have HC := Lib.hid hc
  have HF := Lib.hid hf
  have HY := Lib.hid hcy
  clear hc hf hcy
  go_enter Try.func108, Try.ntmps108
  go_wp2
  go_loopg [8, 5] l.length (fun g s8 s5 wr => ∃ k : Nat, k ≤ l.length ∧ l.length - k ≤ g ∧ s8 = .int .i64 k ∧ Hid (Below w.heap.size w wr ∧ ∀ x ∈ l.take k, con x.1 x.2 y = false))
  case atStart => exact ⟨0, by omega, by omega, rfl, Below.refl _ _, by simp⟩
  case round =>
    obtain ⟨k, hk, hg, rfl, HB⟩ := hrel
    by_cases hlt : k < l.length
    · obtain ⟨x, hx⟩ : ∃ x, l[k]? = some x := ⟨_, List.getElem?_eq_getElem hlt⟩
      obtain ⟨blk, off, rfl, hblk, hc0, hc1⟩ := HC.out k x hx
      have f0 := carryB HB.out.1 hblk hc0
      have f1 := carryB HB.out.1 hblk hc1
      have HX := Lib.hid hx
      have hfx := HF.out x (List.mem_of_getElem? hx)
      have HV := Lib.hid (has1_any x y bx hfx hy wr (carry HB.out.1 HY.out))
      clear hc0 hc1 hx hfx
      obtain ⟨a, n⟩ := x
      dsimp only at f0 f1
      cases h : con a n y
      · have HH := Lib.hid h
        have HV' : Hid (Calls Try.prog 75 #[.agg #[.int .u32 (a : Int), .int .i64 n], .pointer (some ⟨bx, 0, none⟩)] wr fun e w' => e = .returned (.bool false) ∧ Below wr.heap.size wr w') := by have := HV.out; dsimp only at this; rwa [h] at this
        clear h HV
        go_wp2_with (go_at_call 75; refine HV'.out.mono ?_; rintro e w1 ⟨rfl, hb⟩; have B := Lib.hid (below_then HB.out.1 hb); clear hb)
        go_roundg (l.length - (k + 1))
        case measure => omega
        case rel =>
          refine ⟨k + 1, by omega, Nat.le_refl _, by go_num, B.out, ?_⟩
          rw [take_snocP HX.out]
          intro y hy
          rcases List.mem_append.1 hy with hy | hy
          · exact HB.out.2 y hy
          · rw [List.mem_singleton] at hy; subst hy; exact HH.out
      · have HH := Lib.hid h
        have HV' : Hid (Calls Try.prog 75 #[.agg #[.int .u32 (a : Int), .int .i64 n], .pointer (some ⟨bx, 0, none⟩)] wr fun e w' => e = .returned (.bool true) ∧ Below wr.heap.size wr w') := by have := HV.out; dsimp only at this; rwa [h] at this
        clear h HV
        go_wp2_with (go_at_call 75; refine HV'.out.mono ?_; rintro e w1 ⟨rfl, hb⟩; have B := Lib.hid (below_then HB.out.1 hb); clear hb)
        go_ret
        exact ⟨B.out, .inl ⟨k, hlt, rfl, ⟨_, HX.out, HH.out⟩, HB.out.2⟩⟩
    · have hkl : k = l.length := by omega
      subst hkl
      go_wp2
      go_ret
      have := HB.out.2
      rw [List.take_length] at this
      exact ⟨HB.out.1, .inr ⟨rfl, this⟩⟩
theorem has_any (l : List PP) (v : Value) (y : Nat) (hy : y < 4294967296) (w : World) (hl : Big l) (hf : FitL l) (hr : Rd w v l) :
    Calls Try.prog 35 #[v, .int .u32 (y : Int)] w fun e w' => e = .returned (.bool (mem l y)) ∧ Below w.heap.size w w' := by
  have HC : Hid (∀ W bx, Below w.heap.size w W → W.cell? ⟨bx, 0, none⟩ = some (.int .u32 (y : Int)) → Calls Try.prog 74 #[v, .func (.func 75) #[] #[.pointer (some ⟨bx, 0, none⟩)]] W fun e w' => e = .returned (.bool (mem l y)) ∧ Below W.heap.size W w') := fun W bx hW hc => by
    have HI := Lib.hid (index75_any l v y bx hy W hl hf (hr.below hW) hc)
    clear hr
    go_enter Try.func74, Try.ntmps74
    go_wp2_with fail
    go_at_call 108
    refine HI.out.mono ?_
    rintro e w1 ⟨hb, ⟨k, hk, rfl, ⟨x, hx, hq⟩, _⟩ | ⟨rfl, hno⟩⟩
    · have HM : Hid (mem l y = true) := by show _ = _; unfold mem; rw [List.any_eq_true]; exact ⟨x, List.mem_of_getElem? hx, hq⟩
      have B := Lib.hid hb
      clear hb hx hq
      go_wp2
      go_ret
      exact ⟨ret_b HM.out.symm, B.out⟩
    · have HM : Hid (mem l y = false) := by show _ = _; unfold mem; rw [List.any_eq_false]; intro x hx; have := hno x hx; dsimp only at this; rw [this]; simp
      have B := Lib.hid hb
      clear hb hno
      go_wp2
      go_ret
      exact ⟨ret_b HM.out.symm, B.out⟩
  go_enter Try.func35, Try.ntmps35
  go_wp2_with (go_at_call 74; refine (HC.out _ _ (below_alloc _ _) (by simp)).mono ?_; rintro e w1 ⟨rfl, hb⟩; have B := Lib.hid (below_then (below_alloc _ _) hb); clear hb)
  go_ret
  exact ⟨rfl, B.out⟩
end Go.Proofs.Ytegponbmelgngaa
