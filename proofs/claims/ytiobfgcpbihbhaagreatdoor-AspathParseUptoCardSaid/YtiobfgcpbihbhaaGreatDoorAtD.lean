/-
  Rows of strings; the walk of text.
-/
import Derived.Test.YtiobfgcpbihbhaaGreatDoorAtF
import Derived.Test.YtiobfgcpbihbhaaGreatDoorAtM
import Derived.Test.YtiobfgcpbihbhaaGreatDoorAsF
import Derived.Deep.AppendLies
import Derived.BigQuiet
namespace Go.Proofs.YtiobfgcpbihbhaaGreatDoor
open Go.RowKit P
set_option linter.unusedSimpArgs false
set_option linter.unusedVariables false
set_option maxHeartbeats 4000000
set_option maxRecDepth 100000
theorem info9 : (Tryz.prog.info? 9).map (fun i => (i.zero, i.size, i.bytes)) = some (some (.string ⟨#[]⟩), 1, 16) := by kernel_rfl
/-- a row of strings of the call's own -/
def OwnW (B : Nat) (w : World) (v : Value) (ps : List (List UInt8)) : Prop := B ≤ w.heap.size ∧ w.ownsRow B 9 1 v ps.length (strs ps)
theorem OwnW.nil (B : Nat) (w : World) (h : B ≤ w.heap.size) : OwnW B w (.slice none 0 0) [] := ⟨h, World.ownsRow_nil _ _ _ _⟩
theorem OwnW.below {B : Nat} {w w1 : World} {v : Value} {l : List (List UInt8)} (h : OwnW B w v l) (hb : Below w.heap.size w w1) : OwnW B w1 v l := ⟨Nat.le_trans h.1 hb.size, row_below h.2 hb⟩
theorem OwnW.form {B : Nat} {w : World} {v : Value} {l : List (List UInt8)} (h : OwnW B w v l) (hn : l ≠ []) : ∃ g cap, v = .slice (some ⟨g, 0, none⟩) l.length cap ∧ l.length ≤ cap ∧ g < w.heap.size := by
  rcases h.2.2 with ⟨rfl, h0⟩ | ⟨g, cap, cur, rfl, hB, hg, hnc, _⟩
  · exact absurd (List.length_eq_zero_iff.1 h0) hn
  · exact ⟨g, cap, rfl, hnc, lt_block hg⟩
theorem OwnW.cell {B g cap n : Nat} {w : World} {l : List (List UInt8)} (h : OwnW B w (.slice (some ⟨g, 0, none⟩) n cap) l) {k : Nat} {p : List UInt8} (hk : l[k]? = some p) : w.cell? ⟨g, k, none⟩ = some (.string (bs p)) := by
  have hlt := (List.getElem?_eq_some_iff.1 hk).1
  obtain ⟨h1, h2⟩ := h
  have hn : n = l.length := by
    rcases h2.2 with ⟨h0, _⟩ | ⟨g', cap', cur, e, _⟩
    · cases h0
    · cases e; rfl
  subst hn
  rw [h2.cellAt k (by omega)]
  exact strs_get hk
theorem strs_one (p : List UInt8) : ∀ u ∈ strs [p], u.oneCell' = true := by
  intro u hu
  simp [strs] at hu
  subst hu; rfl
theorem append_str {w : World} {ops : Array Oper} {rest : List Oper} {o : Oper} {a : Act} {Q : Exit → Act → World → Prop} (hgd : o.guard = none) (s x : Operand)
    (ho : o.op = .call { callee := .builtin .append, args := #[s, x], argTypes := #[63, 63] }) (B : Nat) (hB : B ≤ w.heap.size)
    (v : Value) (ps : List (List UInt8)) (hs : a.eval s = v) (hown : OwnW B w v ps) (c : Nat) (y : List UInt8) (hx : a.eval x = .slice (some ⟨c, 0, none⟩) 1 1) (hc : w.cell? ⟨c, 0, none⟩ = some (.string (bs y))) (hlen : ps.length ≤ 2000000)
    (h : ∀ v' w', OwnW B w' v' (ps ++ [y]) → Below B w w' → wpList Tryz.prog ops Q rest (a.put o.dst v') w') : wpList Tryz.prog ops Q (o :: rest) a w := by
  obtain ⟨i0, hi, hz0, hz1, hz2⟩ := infoE_parts info9
  refine wpList_append_own _ hgd s x 63 ho B 9 i0 (.string ⟨#[]⟩) 1 16 Tryz.underlying63 hi hz0 hz1 hz2 rfl (by decide) v ps.length (strs ps) hs hown.2 ⟨c, 0, none⟩ 1 1 (strs [y]) hx rfl (fun j u hj => ?_) (strs_one y) (by unfold maxLen; omega) (by omega) hB fun v' w' h1 h2 _ => h v' w' ?_ ?_
  · match j, hj with
    | 0, hj => simp [strs] at hj; subst hj; rw [Addr.add_lit]; exact hc
    | j + 1, hj => simp [strs] at hj
  · have hb := (Below.refl _ w).grown h2 hB (fun k hk => (row_lt hown.2 hk).1)
    refine ⟨Nat.le_trans hB hb.size, ?_⟩
    have e : strs (ps ++ [y]) = strs ps ++ strs [y] := by simp [strs]
    rw [e, List.length_append]; exact h1
  · exact (Below.refl _ w).grown h2 hB (fun k hk => (row_lt hown.2 hk).1)
theorem lens_le {m : Nat} : ∀ (ps : List (List UInt8)), (∀ p ∈ ps, p.length ≤ m) → Lib.lens ps ≤ m * ps.length
  | [], _ => by simp [Lib.lens]
  | p :: ps, h => by
    have h1 := h p (by simp)
    have h2 := lens_le ps (fun q hq => h q (by simp [hq]))
    have e : Lib.lens (p :: ps) = p.length + Lib.lens ps := by simp [Lib.lens]
    rw [e, List.length_cons, Nat.mul_add]
    omega
theorem join_le {m : Nat} (ps : List (List UInt8)) (c : UInt8) (h : ∀ p ∈ ps, p.length ≤ m) : (Lib.join ps [c]).length ≤ (m + 1) * ps.length := by
  cases ps with
  | nil => simp [Lib.join_nil]
  | cons p r =>
    have := lens_le (p :: r) h
    rw [Lib.join_length, Nat.add_mul, Nat.one_mul]
    simp only [List.length_cons, List.length_nil] at this ⊢
    omega
theorem itoa_len {n : Int} (h : I64 n) : (Lib.itoa n).length ≤ 21 := by
  unfold Lib.itoa
  split
  · have := dec_size20 19 n.natAbs (by have := h.1; omega)
    rw [List.length_cons]; omega
  · have := dec_size20 19 n.toNat (by have := h.2; omega)
    omega
theorem join_any (B : Nat) (ps : List (List UInt8)) (v : Value) (c : UInt8) (w : World) (hv : OwnW B w v ps) (hne : ps ≠ []) (hn : ps.length ≤ 2000000) (hl : (Lib.join ps [c]).length ≤ 140737488355328) :
    Calls Tryz.prog 60 #[v, .string ⟨#[c]⟩] w fun e w' => e = .returned (.string (bs (Lib.join ps [c]))) ∧ Below w.heap.size w w' := by
  obtain ⟨g, cap, rfl, hc, hg⟩ := hv.form hne
  have e1 : (ps.map bs).map (·.data.toList) = ps := by
    rw [List.map_map]
    conv => rhs; rw [← List.map_id ps]
    exact List.map_congr_left fun p _ => bs_data p
  have := Tryz.strings_Join g 0 cap (ps.map bs) ⟨#[c]⟩ w (fun j x hj => by
    rw [List.getElem?_map] at hj
    cases hp : ps[j]? with
    | none => rw [hp] at hj; cases hj
    | some p =>
      rw [hp] at hj
      cases hj
      rw [Nat.zero_add]
      exact hv.cell hp) hg (by rw [List.length_map]; omega) (by rw [List.length_map]; exact hc) (by rw [e1]; exact hl)
  rw [e1, List.length_map] at this
  exact this
theorem word_any (k : Int) (l : List Int) (v : Value) (w : World) (hT : Tab w) (hv : RdI w v l) (hne : l ≠ []) (hl : l.length ≤ 1000000) (hi : ∀ x ∈ l, I64 x) :
    Calls Tryz.prog 59 #[.int .i64 k, v] w fun e w' => e = .returned (.string (bs (P.word k l))) ∧ Below w.heap.size w w' := by
  have HW : Hid (P.word k l = if k = 1 then 123 :: (Lib.join (decs l) [44] ++ [125]) else if k = 4 then 91 :: (Lib.join (decs l) [44] ++ [93]) else if k = 3 then 40 :: (Lib.join (decs l) [32] ++ [41]) else Lib.join (decs l) [32]) := rfl
  have HJ : Hid (∀ c, (Lib.join (decs l) [c]).length ≤ 22000000) := fun c => by
    have := join_le (m := 21) (decs l) c (fun p hp => by
      unfold decs at hp
      obtain ⟨x, hx, rfl⟩ := List.mem_map.1 hp
      exact itoa_len (hi x hx))
    have e : (decs l).length = l.length := by simp [decs]
    omega
  have HNE : Hid (decs l ≠ []) := fun e => hne (List.map_eq_nil_iff.1 e)
  generalize P.word k l = W at *
  obtain ⟨ad, cap, rfl, h1, h2, hc⟩ := hv
  have HC := Lib.hid hc
  obtain ⟨n, hn⟩ : ∃ n, l.length = n := ⟨_, rfl⟩
  rw [hn] at h1 hl ⊢
  have HN := Lib.hid hn
  have HI := Lib.hid hi
  have HT := Lib.hid hT
  have HS0 : Hid (OwnW w.heap.size w (.slice none 0 0) (decs (l.take 0))) := OwnW.nil _ _ (Nat.le_refl _)
  have HB0 : Hid (Below w.heap.size w w) := Below.refl _ _
  clear hc hn hi hT hne
  go_enter Tryz.func59, Tryz.ntmps59
  go_wp2_with fail
  go_loopg [5, 7, 10] n (fun g s5 s7 s10 wr => ∃ (k : Nat) (v5 : Value), k ≤ n ∧ n - k ≤ g ∧ v5 = s5 ∧ (∃ q, q = s7) ∧ s10 = .int .i64 (k : Int) ∧ Hid (OwnW w.heap.size wr v5 (decs (l.take k))) ∧ Hid (Below w.heap.size w wr))
  case atStart => exact ⟨0, _, by omega, by omega, rfl, ⟨_, rfl⟩, rfl, HS0, HB0⟩
  case round =>
    clear HS0 HB0
    obtain ⟨j, v5, hj, hjg, rfl, ⟨u7, rfl⟩, rfl, HS, HB⟩ := hrel
    by_cases hlt : j < n
    · obtain ⟨x, hx⟩ : ∃ x, l[j]? = some x := ⟨_, List.getElem?_eq_getElem (by have := HN.out; omega)⟩
      have HD : Hid (decs (l.take (j + 1)) = decs (l.take j) ++ [Lib.itoa x]) := by show _ = _; unfold decs; rw [List.take_add_one, hx]; simp
      have hIx := HI.out x (List.mem_of_getElem? hx)
      obtain ⟨b, off, rfl, hb, c0⟩ := HC.out j x hx
      have d0 := carry HB.out c0
      have HDC := Lib.hid (decimal_any x wr hIx (tab_below HT.out HB.out))
      have hle : (decs (l.take j)).length ≤ 2000000 := by have := HN.out; simp [decs]; omega
      have k0 : (0 : Int) ≤ (j : Int) := by omega
      have k1 : (j : Int) < (n : Int) := by omega
      clear hx hIx c0 hb
      generalize hpre : decs (l.take j) = pre at *
      generalize Lib.itoa x = y at *
      clear hpre
      go_wp2_with fail
      go_at_call 84
      refine HDC.out.mono ?_
      rintro e w1 ⟨rfl, hb⟩
      have hbx := below_then hb (below_alloc w1 (.cells #[.string (bs y)] 9))
      have HX : Hid (OwnW w.heap.size (w1.alloc (.cells #[.string (bs y)] 9)) v5 pre) := HS.out.below hbx
      have HX2 : Hid (Below w.heap.size w (w1.alloc (.cells #[.string (bs y)] 9))) := below_then HB.out hbx
      have HX3 : Hid ((w1.alloc (.cells #[.string (bs y)] 9)).cell? ⟨w1.heap.size, 0, none⟩ = some (.string (bs y))) := cell_of (heap_alloc_new _ _) rfl
      have HX4 : Hid (w.heap.size ≤ (w1.alloc (.cells #[.string (bs y)] 9)).heap.size) := HX2.out.size
      clear hb hbx HS HB HDC
      go_wp2_with (at_builtin; refine append_str rfl (.tmp 14) (.tmp 17) rfl w.heap.size HX4.out v5 pre rfl HX.out w1.heap.size y rfl HX3.out hle ?_; intro v2 w2 hown hb; have S2 := Lib.hid hown; have B2 : Hid (Below w.heap.size w w2) := HX2.out.trans hb; clear hown hb)
      go_roundg (n - (j + 1))
      case measure => omega
      case rel => exact ⟨j + 1, _, by omega, Nat.le_refl _, rfl, ⟨_, rfl⟩, by go_num, by unfold Hid; rw [HD.out]; exact S2.out, B2⟩
    · have k1 : decide ((j : Int) < (n : Int)) = false := decide_eq_false (by omega)
      have HE : Hid (decs (l.take j) = decs l) := by unfold Hid; rw [List.take_of_length_le (by rw [HN.out]; omega)]
      have HO : Hid (OwnW w.heap.size wr v5 (decs l)) := HE.out ▸ HS.out
      have hdl : (decs l).length ≤ 2000000 := by have := HN.out; simp [decs]; omega
      have HJN : Hid (∀ c, Calls Tryz.prog 60 #[v5, .string ⟨#[c]⟩] wr fun e w' => e = .returned (.string (bs (Lib.join (decs l) [c]))) ∧ Below wr.heap.size wr w') := fun c => join_any _ _ _ c wr HO.out HNE.out hdl (by have := HJ.out c; omega)
      obtain ⟨J44, hJ44⟩ : ∃ J, Lib.join (decs l) [44] = J := ⟨_, rfl⟩
      obtain ⟨J32, hJ32⟩ : ∃ J, Lib.join (decs l) [32] = J := ⟨_, rfl⟩
      have HA := Lib.hid (HJN.out 44)
      have HB2 := Lib.hid (HJN.out 32)
      have s44 := HJ.out 44
      have s32 := HJ.out 32
      rw [hJ44] at HA HW s44
      rw [hJ32] at HB2 HW s32
      clear hJ44 hJ32 HJN HO HS HJ hdl HE
      by_cases k1 : k = 1
      · subst k1
        have HQ : Hid (W = 123 :: (J44 ++ [125])) := by show _ = _; rw [HW.out]; rfl
        have HS3 : Hid ((⟨#[123]⟩ : ByteArray) ++ bs J44 ++ (⟨#[125]⟩ : ByteArray) = bs (123 :: (J44 ++ [125]))) := by
          show _ = _
          rw [show (⟨#[123]⟩ : ByteArray) = bs [123] from rfl, show (⟨#[125]⟩ : ByteArray) = bs [125] from rfl, bs_app, bs_app]; simp
        have z1 : ¬ 9223372036854775807 < 1 + (bs J44).size := by rw [bs_size]; omega
        have z2 : ¬ 9223372036854775807 < ((⟨#[123]⟩ : ByteArray) ++ bs J44).size + 1 := by rw [show (⟨#[123]⟩ : ByteArray) = bs [123] from rfl, bs_app, bs_size]; simp; omega
        have z3 : ¬ 9223372036854775807 < 1 + (bs J44).size + 1 := by rw [bs_size]; omega
        clear HW s44 s32 HB2
        go_wp2_with fail
        go_at_call 60
        refine HA.out.mono ?_
        rintro e w2 ⟨rfl, hb⟩
        have HF := Lib.hid (below_then HB.out hb)
        clear hb HA
        go_wp2
        go_ret
        exact ⟨by rw [HQ.out, ← HS3.out]; rfl, HF.out⟩
      · by_cases k2 : k = 4
        · subst k2
          have HQ : Hid (W = 91 :: (J44 ++ [93])) := by show _ = _; rw [HW.out]; rfl
          have HS3 : Hid ((⟨#[91]⟩ : ByteArray) ++ bs J44 ++ (⟨#[93]⟩ : ByteArray) = bs (91 :: (J44 ++ [93]))) := by
            show _ = _
            rw [show (⟨#[91]⟩ : ByteArray) = bs [91] from rfl, show (⟨#[93]⟩ : ByteArray) = bs [93] from rfl, bs_app, bs_app]; simp
          have z1 : ¬ 9223372036854775807 < 1 + (bs J44).size := by rw [bs_size]; omega
          have z2 : ¬ 9223372036854775807 < ((⟨#[91]⟩ : ByteArray) ++ bs J44).size + 1 := by rw [show (⟨#[91]⟩ : ByteArray) = bs [91] from rfl, bs_app, bs_size]; simp; omega
          have z3 : ¬ 9223372036854775807 < 1 + (bs J44).size + 1 := by rw [bs_size]; omega
          clear HW s44 s32 HB2 k1
          go_wp2_with fail
          go_at_call 60
          refine HA.out.mono ?_
          rintro e w2 ⟨rfl, hb⟩
          have HF := Lib.hid (below_then HB.out hb)
          clear hb HA
          go_wp2
          go_ret
          exact ⟨by rw [HQ.out, ← HS3.out]; rfl, HF.out⟩
        · by_cases k3 : k = 3
          · subst k3
            have HQ : Hid (W = 40 :: (J32 ++ [41])) := by show _ = _; rw [HW.out]; rfl
            have HS3 : Hid ((⟨#[40]⟩ : ByteArray) ++ bs J32 ++ (⟨#[41]⟩ : ByteArray) = bs (40 :: (J32 ++ [41]))) := by
              show _ = _
              rw [show (⟨#[40]⟩ : ByteArray) = bs [40] from rfl, show (⟨#[41]⟩ : ByteArray) = bs [41] from rfl, bs_app, bs_app]; simp
            have z1 : ¬ 9223372036854775807 < 1 + (bs J32).size := by rw [bs_size]; omega
            have z2 : ¬ 9223372036854775807 < ((⟨#[40]⟩ : ByteArray) ++ bs J32).size + 1 := by rw [show (⟨#[40]⟩ : ByteArray) = bs [40] from rfl, bs_app, bs_size]; simp; omega
            have z3 : ¬ 9223372036854775807 < 1 + (bs J32).size + 1 := by rw [bs_size]; omega
            clear HW s44 s32 HA k1 k2
            go_wp2_with fail
            go_at_call 60
            refine HB2.out.mono ?_
            rintro e w2 ⟨rfl, hb⟩
            have HF := Lib.hid (below_then HB.out hb)
            clear hb HB2
            go_wp2
            go_ret
            exact ⟨by rw [HQ.out, ← HS3.out]; rfl, HF.out⟩
          · have HQ : Hid (W = J32) := by show _ = _; rw [HW.out, if_neg k1, if_neg k2, if_neg k3]
            have n1 : (k == 1) = false := by simpa using k1
            have n2 : (k == 4) = false := by simpa using k2
            have n3 : (k == 3) = false := by simpa using k3
            clear HW s44 s32 HA k1 k2 k3
            go_wp2_with fail
            go_at_call 60
            refine HB2.out.mono ?_
            rintro e w2 ⟨rfl, hb⟩
            have HF := Lib.hid (below_then HB.out hb)
            clear hb HB2
            go_wp2
            go_ret
            exact ⟨by rw [HQ.out] <;> rfl, HF.out⟩
end Go.Proofs.YtiobfgcpbihbhaaGreatDoor
