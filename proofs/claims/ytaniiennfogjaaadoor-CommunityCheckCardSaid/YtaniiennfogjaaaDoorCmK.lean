/-
  The walks of Add and Join, of the reference's Add, Drop and Join.
-/
import Derived.Test.YtaniiennfogjaaaDoorCmJ
import Derived.Deep.DeepCutAuto
namespace Go.Proofs.YtaniiennfogjaaaDoor
open Go.RowKit T
set_option linter.unusedSimpArgs false
set_option linter.unusedVariables false
set_option maxHeartbeats 1500000
set_option maxRecDepth 100000

theorem rdl_one (W : World) (u : Value) (l : List Nat) (h : Rd W u l) (n : NilV u) : RdL (W.alloc (.cells #[u] 22)) (.slice (some ⟨W.heap.size, 0, none⟩) 1 1) [l] :=
  ⟨_, _, rfl, fun k x hk => by
    have hk0 : k = 0 := by have := (List.getElem?_eq_some_iff.1 hk).1; simpa using this
    subst hk0
    obtain rfl : l = x := by simpa using hk
    exact ⟨W.heap.size, 0, u, rfl, cell_of (heap_alloc_new _ _) rfl, h.below (below_alloc _ _), n⟩⟩
theorem rdl_two (W : World) (u1 u2 : Value) (l1 l2 : List Nat) (h1 : Rd W u1 l1) (n1 : NilV u1) (h2 : Rd W u2 l2) (n2 : NilV u2) : RdL (W.alloc (.cells #[u1, u2] 22)) (.slice (some ⟨W.heap.size, 0, none⟩) 2 2) [l1, l2] :=
  ⟨_, _, rfl, fun k x hk => by
    match k, hk with
    | 0, hk =>
      obtain rfl : l1 = x := by simpa using hk
      exact ⟨W.heap.size, 0, u1, rfl, cell_of (heap_alloc_new _ _) rfl, h1.below (below_alloc _ _), n1⟩
    | 1, hk =>
      obtain rfl : l2 = x := by simpa using hk
      exact ⟨W.heap.size, 0, u2, rfl, cell_of (heap_alloc_new _ _) rfl, h2.below (below_alloc _ _), n2⟩
    | k + 2, hk => simp at hk⟩
theorem rd_lit (W : World) (c : Nat) (hc : c < 4294967296) : Rd (W.alloc (.cells #[.int .u32 (c : Int)] 27)) (.slice (some ⟨W.heap.size, 0, none⟩) 1 1) [c] :=
  ⟨_, _, rfl, ⟨Nat.le_refl _, by omega⟩, fun x hx => by rw [List.mem_singleton.1 hx]; exact hc, fun k x hk => by
    have hk0 : k = 0 := by have := (List.getElem?_eq_some_iff.1 hk).1; simpa using this
    subst hk0
    obtain rfl : c = x := by simpa using hk
    exact ⟨W.heap.size, 0, rfl, lt_block (heap_alloc_new _ _), cell_of (heap_alloc_new _ _) rfl⟩⟩
theorem nilV_some (a : Addr) (n c : Nat) : NilV (.slice (some a) n c) := fun n' c' e => by cases e
/-- v reads as a list with a property, nothing older changed -/
def RS (w : World) (P : List Nat → Prop) (v : Value) (W : World) : Prop := ∃ t, Rd W v t ∧ NilV v ∧ P t ∧ Below w.heap.size w W
def AddP (l : List Nat) (c : Nat) (t : List Nat) : Prop := ∃ s, IsSet l s ∧ (if 255 ≤ s.length then t = s else IsSet (l ++ [c]) t)
def DropP (l : List Nat) (c : Nat) (t : List Nat) : Prop := ∃ s, IsSet l s ∧ t = s.filter (fun x => decide (x ≠ c))
def JoinP (a b : List Nat) (t : List Nat) : Prop := ∃ s, IsSet (a ++ b) s ∧ t = s.take 255
theorem AddP.unique {l t t' : List Nat} {c : Nat} (h : AddP l c t) (h' : AddP l c t') : t = t' := by
  obtain ⟨s, h1, h2⟩ := h
  obtain ⟨s', g1, g2⟩ := h'
  obtain rfl : s = s' := h1.unique g1 (fun x => Iff.rfl)
  split at h2
  · rename_i hl; rw [if_pos hl] at g2; rw [h2, g2]
  · rename_i hl; rw [if_neg hl] at g2; exact h2.unique g2 (fun x => Iff.rfl)
theorem DropP.unique {l t t' : List Nat} {c : Nat} (h : DropP l c t) (h' : DropP l c t') : t = t' := by
  obtain ⟨s, h1, h2⟩ := h
  obtain ⟨s', g1, g2⟩ := h'
  obtain rfl : s = s' := h1.unique g1 (fun x => Iff.rfl)
  rw [h2, g2]
theorem JoinP.unique {a b t t' : List Nat} (h : JoinP a b t) (h' : JoinP a b t') : t = t' := by
  obtain ⟨s, h1, h2⟩ := h
  obtain ⟨s', g1, g2⟩ := h'
  obtain rfl : s = s' := h1.unique g1 (fun x => Iff.rfl)
  rw [h2, g2]
theorem T.IsSet.w32 {l s : List Nat} (h : IsSet l s) (hl : W32 l) : W32 s := fun x hx => hl x ((h.2 x).1 hx)
theorem set_snoc {l s t : List Nat} {c : Nat} (h : IsSet l s) (ht : IsSet (s ++ [c]) t) : IsSet (l ++ [c]) t := ⟨ht.1, fun x => by
  rw [ht.2]
  simp only [List.mem_append]
  rw [h.2]⟩
theorem set_same {s t : List Nat} {c : Nat} (ha : Asc s) (ht : IsSet (s ++ [c]) t) (hc : c ∈ s) : t = s := ht.1.unique ha (fun x => by
  rw [ht.2]
  simp only [List.mem_append, List.mem_singleton]
  exact ⟨fun h => h.elim id (fun e => e ▸ hc), .inl⟩)
theorem UnR.rs {w W : World} {fl : List Nat} {v : Value} (h : UnR w fl v W) (hf : W32 fl) : RS w (fun s => IsSet fl s ∧ s.length ≤ fl.length) v W := by
  obtain ⟨s, h1, h2, h3⟩ := h
  exact ⟨s, h1.1.rd (h2.w32 hf), h1.1.nilV, ⟨h2, h3⟩, h1.2⟩
theorem add_any (l : List Nat) (v : Value) (c : Nat) (w : World) (hv : Rd w v l) (hn : NilV v) (hc : c < 4294967296) (hl : l.length ≤ 10000) :
    Calls Tryd.prog 19 #[v, .int .u32 (c : Int)] w fun e w' => ∃ v', e = .returned v' ∧ RS w (AddP l c) v' w' := by
  have H1 : Hid (Calls Tryd.prog 37 #[.slice (some ⟨w.heap.size, 0, none⟩) 1 1] (w.alloc (.cells #[v] 22)) fun e w' => ∃ v', e = .returned v' ∧ UnR (w.alloc (.cells #[v] 22)) l v' w') := by
    have := union_any [l] _ _ (rdl_one w v l hv hn) (by simp) (by simp; omega)
    have e : [l].flatten = l := by simp
    rw [e] at this; exact this
  have HB0 : Hid (Below w.heap.size w (w.alloc (.cells #[v] 22))) := below_alloc _ _
  have H32 := Lib.hid hv.w32
  obtain ⟨ad, cap, rfl⟩ := hv.form
  have HL := Lib.hid hl
  clear hv hn hl
  go_enter Tryd.func19, Tryd.ntmps19
  go_wp2_with fail
  go_at_call 37
  refine H1.out.mono ?_
  rintro e w1 ⟨v1, rfl, hu⟩
  obtain ⟨s, hr, hnil, ⟨hset, hlen⟩, hb⟩ := hu.rs H32.out
  have HB1 := Lib.hid (below_then HB0.out hb)
  have HR := Lib.hid hr
  have HN := Lib.hid hnil
  have HS := Lib.hid hset
  obtain ⟨ad1, c1, rfl⟩ := hr.form
  obtain ⟨n, hn⟩ : ∃ n, s.length = n := ⟨_, rfl⟩
  rw [hn] at HR HN ⊢
  have HSN := Lib.hid hn
  clear hu hr hnil hset hlen hb hn H1
  by_cases h255 : 255 ≤ n
  · have g1 : (255 : Int) ≤ (n : Int) := by omega
    have HP : Hid (AddP l c s) := ⟨s, HS.out, by rw [if_pos (by rw [HSN.out]; exact h255)]⟩
    go_wp2
    go_ret
    exact ⟨_, rfl, s, HR.out, HN.out, HP.out, HB1.out⟩
  · have g1 : ¬ (255 : Int) ≤ (n : Int) := by omega
    have hb2 : Below w1.heap.size w1 (w1.alloc (.cells #[.int .u32 (c : Int)] 27)) := below_alloc _ _
    have H2 : Hid (Calls Tryd.prog 37 #[.slice (some ⟨w1.heap.size + 1, 0, none⟩) 2 2] ((w1.alloc (.cells #[.int .u32 (c : Int)] 27)).alloc (.cells #[.slice ad1 n c1, .slice (some ⟨w1.heap.size, 0, none⟩) 1 1] 22)) fun e w' => ∃ v', e = .returned v' ∧ UnR ((w1.alloc (.cells #[.int .u32 (c : Int)] 27)).alloc (.cells #[.slice ad1 n c1, .slice (some ⟨w1.heap.size, 0, none⟩) 1 1] 22)) (s ++ [c]) v' w') := by
      have := union_any [s, [c]] _ _ (rdl_two (w1.alloc (.cells #[.int .u32 (c : Int)] 27)) _ _ s [c] (HR.out.below hb2) HN.out (rd_lit w1 c hc) (nilV_some _ _ _)) (by simp) (by simp; have := HSN.out; omega)
      have e : [s, [c]].flatten = s ++ [c] := by simp
      rw [e] at this
      have e2 : (w1.alloc (.cells #[.int .u32 (c : Int)] 27)).heap.size = w1.heap.size + 1 := by simp
      rw [e2] at this
      exact this
    have HB2 : Hid (Below w.heap.size w ((w1.alloc (.cells #[.int .u32 (c : Int)] 27)).alloc (.cells #[.slice ad1 n c1, .slice (some ⟨w1.heap.size, 0, none⟩) 1 1] 22))) := below_then (below_then HB1.out (below_alloc _ _)) (below_alloc _ _)
    have HW : Hid (W32 (s ++ [c])) := (HS.out.w32 H32.out).app (fun x hx => by rw [List.mem_singleton.1 hx]; exact hc)
    clear hb2 HB0 HR
    go_wp2_with fail
    go_at_call 37
    refine H2.out.mono ?_
    rintro e w2 ⟨v2, rfl, hu⟩
    obtain ⟨t, hr, hnil, ⟨hset, hlen⟩, hb⟩ := hu.rs HW.out
    have HP : Hid (RS w (AddP l c) v2 w2) := ⟨t, hr, hnil, ⟨s, HS.out, by rw [if_neg (by rw [HSN.out]; exact h255)]; exact set_snoc HS.out hset⟩, below_then HB2.out hb⟩
    clear hu hr hnil hset hlen hb
    go_wp2
    go_ret
    exact ⟨_, rfl, HP.out⟩
end Go.Proofs.YtaniiennfogjaaaDoor
