/-
  The walks of PutTLV and the reference's PutTLV.
-/
import Derived.Test.YthoonegckifiaaaDoorWalkB
import Derived.Deep.RegionHeld3
namespace Go.Proofs.YthoonegckifiaaaDoor
open Go.RowKit
set_option linter.unusedSimpArgs false
set_option linter.unusedVariables false
set_option maxHeartbeats 4000000
set_option maxRecDepth 100000

theorem low_one (k : Nat) (h : k < 256) : lowB 1 k = [k] := by simp [lowB, List.range_succ]; omega
theorem low_two (n : Nat) (h : n < 65536) : lowB 2 n = [n / 256, n % 256] := by simp [lowB, List.range_succ]; omega
theorem enc_eq (k : Nat) (l : List Nat) (hk : k < 256) (hl : l.length < 65536) : encT (k, l) = lowB 1 k ++ (lowB 2 l.length ++ l) := by rw [low_one k hk, low_two _ hl]; rfl
theorem enc_bytes {k : Nat} {l : List Nat} (hk : k < 256) (hl : l.length < 65536) (hb : Bytes l) : Bytes (encT (k, l)) := by
  rw [enc_eq k l hk hl]; exact Bytes.app (lowB_bytes 1 k) (Bytes.app (lowB_bytes 2 _) hb)
theorem rds_four {w : World} {u0 u1 u2 u3 : Value} {p0 p1 p2 p3 : List Nat} (t : TypeId) (h0 : Rd w u0 p0) (h1 : Rd w u1 p1) (h2 : Rd w u2 p2) (h3 : Rd w u3 p3) :
    RdS (w.alloc (.cells #[u0, u1, u2, u3] t)) (.slice (some ⟨w.heap.size, 0, none⟩) 4 4) [p0, p1, p2, p3] := by
  have hb : Below w.heap.size w (w.alloc (.cells #[u0, u1, u2, u3] t)) := (Below.refl _ _).alloc (Nat.le_refl _) _
  refine ⟨_, 4, rfl, fun k r hk => ?_⟩
  match k, hk with
  | 0, hk => obtain rfl := Option.some.inj hk; exact ⟨_, 0, u0, rfl, by simp, by simp, h0.below hb⟩
  | 1, hk => obtain rfl := Option.some.inj hk; exact ⟨_, 0, u1, rfl, by simp, by simp, h1.below hb⟩
  | 2, hk => obtain rfl := Option.some.inj hk; exact ⟨_, 0, u2, rfl, by simp, by simp, h2.below hb⟩
  | 3, hk => obtain rfl := Option.some.inj hk; exact ⟨_, 0, u3, rfl, by simp, by simp, h3.below hb⟩
  | k + 4, hk => simp at hk

theorem puttlv_kind (lb : List Nat) (vb : Value) (kind : Int) (lv : List Nat) (vv : Value) (w : World) (hk : I64 kind) (hb : Rd w vb lb) (hv : Rd w vv lv) (h : kind < 0 ∨ 255 < kind) :
    Calls Tryd.prog 20 #[vb, .agg #[.int .i64 kind, vv]] w fun e w' => e = .returned (.tuple #[.slice none 0 0, .int .i64 5]) ∧ Below w.heap.size w w' := by
  obtain ⟨ad, cap, rfl, _⟩ := hb
  obtain ⟨ad2, cap2, rfl, _⟩ := hv
  rcases h with h | h
  · go_enter Tryd.func20, Tryd.ntmps20
    go_wp2
    go_ret2
    exact ⟨rfl, (Below.refl _ _).alloc (Nat.le_refl _) _⟩
  · have h0 : ¬ kind < 0 := by omega
    go_enter Tryd.func20, Tryd.ntmps20
    go_wp2
    go_ret2
    exact ⟨rfl, (Below.refl _ _).alloc (Nat.le_refl _) _⟩
theorem puttlv_long (lb : List Nat) (vb : Value) (k : Nat) (lv : List Nat) (vv : Value) (w : World) (hk : k < 256) (hb : Rd w vb lb) (hv : Rd w vv lv) (h : 65535 < lv.length) (hl : lv.length ≤ 140737488355328) :
    Calls Tryd.prog 20 #[vb, .agg #[.int .i64 k, vv]] w fun e w' => e = .returned (.tuple #[.slice none 0 0, .int .i64 4]) ∧ Below w.heap.size w w' := by
  obtain ⟨ad, cap, rfl, _⟩ := hb
  obtain ⟨ad2, cap2, rfl, _⟩ := hv
  have h0 : ¬ (k : Int) < 0 := by omega
  have h1 : ¬ 255 < (k : Int) := by omega
  go_enter Tryd.func20, Tryd.ntmps20
  go_wp2
  go_ret2
  exact ⟨rfl, (Below.refl _ _).alloc (Nat.le_refl _) _⟩
theorem puttlv_yes (lb : List Nat) (vb : Value) (k : Nat) (lv : List Nat) (vv : Value) (w : World) (hk : k < 256) (hb : Rd w vb lb) (hv : Rd w vv lv) (h : lv.length ≤ 65535) (hl : lb.length ≤ 140737489300000) :
    Calls Tryd.prog 20 #[vb, .agg #[.int .i64 k, vv]] w fun e w' => ∃ v', e = .returned (.tuple #[v', .int .i64 0]) ∧ w'.ownsRow w.heap.size 5 1 v' (lb ++ encT (k, lv)).length (u8s (lb ++ encT (k, lv))) ∧ Below w.heap.size w w' := by
  have HB := Lib.hid hb
  have HV := Lib.hid hv
  obtain ⟨ad, cap, rfl, _⟩ := hb
  obtain ⟨ad2, cap2, rfl, _⟩ := hv
  have h0 : ¬ (k : Int) < 0 := by omega
  have h1 : ¬ 255 < (k : Int) := by omega
  have h2 : ¬ 65535 < (lv.length : Int) := by omega
  have HFL : Hid (([lb, lowB 1 k, lowB 2 lv.length, lv] : List (List Nat)).flatten = lb ++ encT (k, lv)) := by unfold Hid; rw [enc_eq k lv hk (by omega)]; simp
  have HLEN : Hid (([lb, lowB 1 k, lowB 2 lv.length, lv] : List (List Nat)).flatten.length ≤ 140737489403904) := by unfold Hid; simp [lowB_len]; omega
  have HJ : Hid (∀ (ps : List (List Nat)) (v : Value) (w : World), ps.flatten.length ≤ 140737489403904 → ps.length ≤ 1000 → RdS w v ps →
    Calls Tryd.prog 30 #[v] w fun e w' => ∃ v', e = .returned v' ∧ w'.ownsRow w.heap.size 5 1 v' ps.flatten.length (u8s ps.flatten) ∧ Below w.heap.size w w') := join_any
  go_enter Tryd.func20, Tryd.ntmps20
  go_wp2
  have q1 : IntKind.u64.wrap (k : Int) = (k : Int) := IntWalk.u64_in _ (by omega)
  have q2 : IntKind.u64.wrap (lv.length : Int) = (lv.length : Int) := IntWalk.u64_in _ (by omega)
  have HK : Hid (k < 18446744073709551616 ∧ lv.length < 18446744073709551616) := ⟨by omega, by omega⟩
  have HS : Hid (∀ W W1 : World, (W.cell? ⟨w.heap.size, 0, none⟩ = some (.int .i64 k) ∧ W.cell? ⟨w.heap.size, 1, none⟩ = some (.slice ad2 lv.length cap2) ∧ Hid (Below w.heap.size w W ∧ w.heap.size < W.heap.size)) → Below W.heap.size W W1 →
      (W1.cell? ⟨w.heap.size, 0, none⟩ = some (.int .i64 k) ∧ W1.cell? ⟨w.heap.size, 1, none⟩ = some (.slice ad2 lv.length cap2) ∧ Hid (Below w.heap.size w W1 ∧ w.heap.size < W1.heap.size))) := by
    rintro W W1 ⟨h0, h1, h2⟩ hb
    exact ⟨(hb.cell (p := ⟨w.heap.size, 0, none⟩) h2.out.2).trans h0, (hb.cell (p := ⟨w.heap.size, 1, none⟩) h2.out.2).trans h1, h2.out.1.trans (hb.mono h2.out.1.size), Nat.lt_of_lt_of_le h2.out.2 hb.size⟩
  go_region_held3 (fun w' => w'.cell? ⟨w.heap.size, 0, none⟩ = some (.int .i64 k) ∧ w'.cell? ⟨w.heap.size, 1, none⟩ = some (.slice ad2 lv.length cap2) ∧ Hid (Below w.heap.size w w' ∧ w.heap.size < w'.heap.size))
    (first | exact ⟨by simp, by simp, below_drew ((Below.refl _ _).alloc (Nat.le_refl _) _), by simp⟩ | go_keep)
    (first
      | (go_at_call 31; ((with_reducible refine (lowest_any 1 k 1 HK.out.1 (by omega) (by omega) _).mono ?_); rintro e w1 ⟨rfl, hblk1, hb1⟩; have hkk := HS.out _ _ ‹_› hb1; have X1 := Lib.hid (low_rd hblk1); clear hb1 hblk1))
      | (go_at_call 31; ((with_reducible refine (lowest_any 2 lv.length 2 HK.out.2 (by omega) (by omega) _).mono ?_); rintro e w2 ⟨rfl, hblk2, hb2⟩; have hkk2 := HS.out _ _ ‹_› hb2; have X2 := Lib.hid (And.intro (X1.out.below hb2) (low_rd hblk2)); clear hb2 hblk2)))
  obtain ⟨g0, g1, hI⟩ := hkk2
  have X3 : Hid (RdS (w2.alloc (.cells #[.slice ad lb.length cap, .slice (some ⟨w.heap.size + 1, 0, none⟩) 1 1, .slice (some ⟨w1.heap.size, 0, none⟩) 2 2, .slice ad2 lv.length cap2] 22)) (.slice (some ⟨w2.heap.size, 0, none⟩) 4 4) [lb, lowB 1 k, lowB 2 lv.length, lv]) := by
    have h := X2.out
    have e : ∀ o, ((w.alloc o).drew).heap.size = w.heap.size + 1 := fun o => by simp
    rw [e] at h
    exact rds_four 22 (HB.out.below hI.out.1) h.1 h.2 (HV.out.below hI.out.1)
  go_wp2_with (go_at_call 30; refine (HJ.out _ _ _ HLEN.out (by simp) X3.out).mono ?_; rintro e w3 ⟨v3, rfl, hown, hb3⟩; have X4 := Lib.hid (And.intro hown hb3); clear hown hb3)
  go_ret2
  refine ⟨v3, rfl, ?_, ?_⟩
  · have h := own_base X4.out.1 (Nat.le_trans hI.out.1.size (by simp))
    rw [HFL.out] at h
    exact h
  · have hs := hI.out.1.size
    exact ((hI.out.1.alloc hs _).trans (X4.out.2.mono (by simp; omega)))

/-- the reference's PutTLV -/
theorem rputtlv_kind (lb : List Nat) (vb : Value) (kind : Int) (lv : List Nat) (vv : Value) (w : World) (hk : I64 kind) (hb : Rd w vb lb) (hv : Rd w vv lv) (h : kind < 0 ∨ 255 < kind) :
    Calls Tryd.prog 21 #[vb, .agg #[.int .i64 kind, vv]] w fun e w' => e = .returned (.tuple #[.slice none 0 0, .int .i64 5]) ∧ Below w.heap.size w w' := by
  obtain ⟨ad, cap, rfl, _⟩ := hb
  obtain ⟨ad2, cap2, rfl, _⟩ := hv
  rcases h with h | h
  · go_enter Tryd.func21, Tryd.ntmps21
    go_wp2
    go_ret2
    exact ⟨rfl, (Below.refl _ _).alloc (Nat.le_refl _) _⟩
  · have h0 : ¬ kind < 0 := by omega
    go_enter Tryd.func21, Tryd.ntmps21
    go_wp2
    go_ret2
    exact ⟨rfl, (Below.refl _ _).alloc (Nat.le_refl _) _⟩
theorem rputtlv_long (lb : List Nat) (vb : Value) (k : Nat) (lv : List Nat) (vv : Value) (w : World) (hk : k < 256) (hb : Rd w vb lb) (hv : Rd w vv lv) (h : 65535 < lv.length) (hl : lv.length ≤ 140737488355328) :
    Calls Tryd.prog 21 #[vb, .agg #[.int .i64 k, vv]] w fun e w' => e = .returned (.tuple #[.slice none 0 0, .int .i64 4]) ∧ Below w.heap.size w w' := by
  obtain ⟨ad, cap, rfl, _⟩ := hb
  obtain ⟨ad2, cap2, rfl, _⟩ := hv
  have h0 : ¬ (k : Int) < 0 := by omega
  have h1 : ¬ 255 < (k : Int) := by omega
  go_enter Tryd.func21, Tryd.ntmps21
  go_wp2
  go_ret2
  exact ⟨rfl, (Below.refl _ _).alloc (Nat.le_refl _) _⟩
theorem rputtlv_yes (lb : List Nat) (vb : Value) (k : Nat) (lv : List Nat) (vv : Value) (w : World) (hk : k < 256) (hb : Rd w vb lb) (hv : Rd w vv lv) (h : lv.length ≤ 65535) (hl : lb.length ≤ 140737489300000) :
    Calls Tryd.prog 21 #[vb, .agg #[.int .i64 k, vv]] w fun e w' => ∃ v', e = .returned (.tuple #[v', .int .i64 0]) ∧ w'.ownsRow w.heap.size 5 1 v' (lb ++ encT (k, lv)).length (u8s (lb ++ encT (k, lv))) ∧ Below w.heap.size w w' := by
  obtain ⟨i0, hi, hz0, hz1, hz2⟩ := info_parts u8_info
  have HB := Lib.hid hb
  have HV := Lib.hid hv
  have HBB := Lib.hid (And.intro hb.bytes hv.bytes)
  obtain ⟨ad, cap, rfl, _⟩ := hb
  obtain ⟨ad2, cap2, rfl, _⟩ := hv
  have h0 : ¬ (k : Int) < 0 := by omega
  have h1 : ¬ 255 < (k : Int) := by omega
  have h2 : ¬ 65535 < (lv.length : Int) := by omega
  have HFL : Hid (lb ++ lowB 1 k ++ lowB 2 lv.length ++ lv = lb ++ encT (k, lv)) := by unfold Hid; rw [enc_eq k lv hk (by omega)]; simp
  have HLEN : Hid ((lb ++ lowB 1 k ++ lowB 2 lv.length).length + lv.length ≤ 140737489403904) := by unfold Hid; simp [lowB_len]; omega
  have HL1 : Hid (lb.length ≤ 140737489403896) := by unfold Hid; omega
  have HL2 : Hid ((lb ++ lowB 1 k).length ≤ 140737489403896) := by unfold Hid; simp [lowB_len]; omega
  have q1 : IntKind.u64.wrap (k : Int) = (k : Int) := IntWalk.u64_in _ (by omega)
  have q2 : IntKind.u64.wrap (lv.length : Int) = (lv.length : Int) := IntWalk.u64_in _ (by omega)
  have HK : Hid (k < 18446744073709551616 ∧ lv.length < 18446744073709551616) := ⟨by omega, by omega⟩
  have HS : Hid (∀ W W1 : World, (W.cell? ⟨w.heap.size, 0, none⟩ = some (.int .i64 k) ∧ W.cell? ⟨w.heap.size, 1, none⟩ = some (.slice ad2 lv.length cap2) ∧ Hid (Below w.heap.size w W ∧ w.heap.size < W.heap.size)) → Below W.heap.size W W1 →
      (W1.cell? ⟨w.heap.size, 0, none⟩ = some (.int .i64 k) ∧ W1.cell? ⟨w.heap.size, 1, none⟩ = some (.slice ad2 lv.length cap2) ∧ Hid (Below w.heap.size w W1 ∧ w.heap.size < W1.heap.size))) := by
    rintro W W1 ⟨h0, h1, h2⟩ hb
    exact ⟨(hb.cell (p := ⟨w.heap.size, 0, none⟩) h2.out.2).trans h0, (hb.cell (p := ⟨w.heap.size, 1, none⟩) h2.out.2).trans h1, h2.out.1.trans (hb.mono h2.out.1.size), Nat.lt_of_lt_of_le h2.out.2 hb.size⟩
  go_enter Tryd.func21, Tryd.ntmps21
  go_wp2
  go_region_held3 (fun w' => w'.cell? ⟨w.heap.size, 0, none⟩ = some (.int .i64 k) ∧ w'.cell? ⟨w.heap.size, 1, none⟩ = some (.slice ad2 lv.length cap2) ∧ Hid (Below w.heap.size w w' ∧ w.heap.size < w'.heap.size))
    (first | exact ⟨by simp, by simp, below_drew ((Below.refl _ _).alloc (Nat.le_refl _) _), by simp⟩ | go_keep)
    (first
      | (go_at_call 15; ((with_reducible refine (rput_any lb _ 1 k 1 _ HK.out.1 (by omega) (by omega) HL1.out (HB.out.below (below_drew ((Below.refl _ _).alloc (Nat.le_refl _) _)))).mono ?_); rintro e w1 ⟨v1, rfl, hown1, hb1⟩; have hkk := HS.out _ _ ‹_› hb1; have X1 := Lib.hid (rd_own hown1 (HBB.out.1.app (lowB_bytes 1 k))); clear hb1 hown1))
      | (go_at_call 15; ((with_reducible refine (rput_any (lb ++ lowB 1 k) _ 2 lv.length 2 _ HK.out.2 (by omega) (by omega) HL2.out X1.out).mono ?_); rintro e w2 ⟨v2, rfl, hown2, hb2⟩; have hkk2 := HS.out _ _ ‹_› hb2; have X2 := Lib.hid (own_base hown2 (show w.heap.size ≤ _ from hkk.2.2.out.1.size)); clear hb2 hown2)))
  obtain ⟨g0, g1, hI⟩ := hkk2
  have hz : w.heap.size ≤ w2.heap.size := hI.out.1.size
  go_wp2_with (at_builtin; refine wpList_append_rd _ rfl (.tmp 29) (.tmp 31) 22 rfl w.heap.size 5 i0 Tryd.underlying22 hi hz0 hz1 hz2 v2 (lb ++ lowB 1 k ++ lowB 2 lv.length) rfl X2.out _ lv rfl (HV.out.below hI.out.1) HLEN.out hz ?_; intro v3 w3 hown3 hg3; have X3 := Lib.hid (And.intro hown3 (below_grown hI.out.1 X2.out hg3 hz)); clear hown3 hg3)
  go_ret2
  refine ⟨v3, rfl, ?_, X3.out.2⟩
  have h := X3.out.1
  rw [HFL.out] at h
  exact h
end Go.Proofs.YthoonegckifiaaaDoor
