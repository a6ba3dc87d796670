/-
  The trie's methods: Put, Drop, and Of.
-/
import Derived.Test.YtegponbmelgngaaTwJ
namespace Go.Proofs.Ytegponbmelgngaa
open Go.RowKit
set_option linter.unusedSimpArgs false
set_option linter.unusedVariables false
set_option maxHeartbeats 4000000
set_option maxRecDepth 100000

theorem tput_nil (a : Nat) (n x : Int) (w : World) :
    Calls Try.prog 42 #[.pointer none, .agg #[.int .u32 a, .int .i64 n], .int .i64 x] w fun en w' => en = .returned (.tuple #[.bool false, .int .i64 0]) ∧ Below w.heap.size w w' := by
  go_enter Try.func42, Try.ntmps42
  go_wp2
  go_ret2
  exact ⟨rfl, below_alloc _ _⟩
theorem tput_bad (g : Nat) (p : PP) (hb : p.1 < 4294967296) (hm : I64 p.2) (x : Int) (hv : V p = false) (w : World) :
    Calls Try.prog 42 #[.pointer (some ⟨g, 0, none⟩), .agg #[.int .u32 (p.1 : Nat), .int .i64 p.2], .int .i64 x] w fun en w' => en = .returned (.tuple #[.bool false, .int .i64 1]) ∧ Below w.heap.size w w' := by
  obtain ⟨a, n⟩ := p
  have HV : Hid (∀ W, Calls Try.prog 80 #[.agg #[.int .u32 a, .int .i64 n]] W fun e w' => e = .returned (.bool false) ∧ Below W.heap.size W w') := fun W => (valid_any a hb n hm W).mono fun _ _ k => ⟨by rw [k.1]; exact ret_b hv, k.2⟩
  clear hv
  go_enter Try.func42, Try.ntmps42
  go_wp2_with (go_at_call 80; refine (HV.out _).mono ?_; rintro e w1 ⟨rfl, hb1⟩; have B1 := Lib.hid hb1; clear hb1)
  go_ret2
  exact ⟨rfl, below_then (below_alloc _ _) B1.out⟩
theorem two_free {w : World} {g : Nat} {a b : Value} {t : TypeId} (h : w.heap[g]? = some (.cells #[a, b] t (0, 0))) : ∀ o, w.frozen? ⟨g, o, none⟩ = false := fun o => by simp [World.frozen?, h]
theorem two_snd {w : World} {g : Nat} {a b : Value} {t : TypeId} (h : w.heap[g]? = some (.cells #[a, b] t (0, 0))) : w.cell? ⟨g, 1, none⟩ = some b := by simp [World.cell?, h]
theorem two_set0 {w : World} {g : Nat} {a b u : Value} {t : TypeId} (h : w.heap[g]? = some (.cells #[a, b] t (0, 0))) : (w.setCell ⟨g, 0, none⟩ u).heap[g]? = some (.cells #[u, b] t (0, 0)) := by rw [heap_set_eq h]; rfl
theorem two_set1 {w : World} {g : Nat} {a b u : Value} {t : TypeId} (h : w.heap[g]? = some (.cells #[a, b] t (0, 0))) : (w.setCell ⟨g, 1, none⟩ u).heap[g]? = some (.cells #[a, u] t (0, 0)) := by rw [heap_set_eq h]; rfl
theorem tput_new (t : Value) (E : List En) (gs : List Nat) (w : World) (e : En) (he : PV e.1) (h : TrieR w t E gs) (hlen : E.length ≤ 1000) (hhas : hasE E e.1 = false) :
    Calls Try.prog 42 #[t, .agg #[.int .u32 (e.1.1 : Nat), .int .i64 e.1.2], .int .i64 e.2] w fun en w' => ∃ gs', en = .returned (.tuple #[.bool (!hasE E e.1), .int .i64 0]) ∧ TrieR w' t (insE E e) gs' ∧ (∀ k ∈ gs', k ∈ gs ∨ w.heap.size ≤ k) ∧ Kp gs w w' := by
  have hlt := h.lt
  obtain ⟨g0, root, T, gs0, rfl, rfl, hT, hl, nd, hw, rfl⟩ := h
  have ha := ents_asc hw
  have hlen2 := insE_len ha e
  have HE := Lib.hid (putS_ents hw he)
  have hs : (putS T e).2 = true := by rw [(putS_mem hw he).2, hhas]; rfl
  have HH := Lib.hid hhas
  have HWF := Lib.hid (putS_wf hw he)
  obtain ⟨u0, rfl⟩ := hl.ptr
  have hI := (V_iff _).1 he.2
  obtain ⟨⟨a, n⟩, x⟩ := e
  have hm : I64 n := by have h1 := hI.1; have h2 := hI.2.1; dsimp only at h1 h2; constructor <;> omega
  have HV : Hid (∀ W, Calls Try.prog 80 #[.agg #[.int .u32 a, .int .i64 n]] W fun e w' => e = .returned (.bool true) ∧ Below W.heap.size W w') := fun W => (valid_any a he.1 n hm W).mono fun _ _ k => ⟨by rw [k.1]; exact ret_b he.2, k.2⟩
  obtain ⟨n1, n2⟩ := List.nodup_cons.1 nd
  have hg0 := hlt g0 (by simp)
  have hbox : w.heap.size ∉ gs0 := fun hm => by have := hlt _ (List.mem_cons_of_mem _ hm); omega
  have HP : Hid (∀ W, Below w.heap.size w W → Calls Try.prog 81 #[.pointer u0, .agg #[.int .u32 a, .int .i64 n, .int .i64 x]] W fun en w' => ∃ v' gs', en = .returned (.tuple #[v', .bool true]) ∧ Lies w' (putS T ((a, n), x)).1 v' gs' ∧ gs'.Nodup ∧ (∀ k ∈ gs', k ∈ gs0 ∨ W.heap.size ≤ k) ∧ Kp gs0 W w') :=
    fun W hW => (put_any T W _ gs0 ((a, n), x) hw he (hl.below hW) n2).mono fun en w' ⟨v', gs', h1, r⟩ => ⟨v', gs', by rw [h1, hs], r⟩
  have HT := Lib.hid hT
  have H1 := Lib.hid n1
  have HB := Lib.hid hbox
  have HND := Lib.hid nd
  have HL := Lib.hid hlt
  have H2 := Lib.hid hlen2
  have HLen := Lib.hid hlen
  obtain ⟨N, hN⟩ : ∃ N, (ents T).length = N := ⟨_, rfl⟩
  have hN' : N ≤ 1000 := by omega
  have HN := Lib.hid hN
  rw [hN] at HT
  clear hT hl nd hw he ha hlen2 hI n1 n2 hbox hlt hlen hN hs hhas
  go_enter Try.func42, Try.ntmps42
  go_wp2_with (go_at_call 80; refine (HV.out _).mono ?_; rintro e w1 ⟨rfl, hb1⟩
               have B1 : Hid (Below w.heap.size w w1) := below_then (below_alloc _ _) hb1
               have c0 : w1.cell? ⟨w.heap.size, 0, none⟩ = some (.int .u32 a) := carry hb1 (by simp)
               have c1 : w1.cell? ⟨w.heap.size, 1, none⟩ = some (.int .i64 n) := carry hb1 (by simp)
               have T1 : Hid (w1.heap[g0]? = some (.cells #[.pointer u0, .int .i64 (N : Nat)] 88 (0, 0))) := (B1.out.block g0 hg0).trans HT.out
               have t0 : w1.cell? ⟨g0, 0, none⟩ = some (.pointer u0) := by have := T1.out; simp [World.cell?, this]
               clear hb1)
  go_region_held3 (fun w' => w'.cell? ⟨g0, 0, none⟩ = some (.pointer u0) ∧ w'.cell? ⟨w.heap.size, 0, none⟩ = some (.int .u32 a) ∧ w'.cell? ⟨w.heap.size, 1, none⟩ = some (.int .i64 n))
    (first | exact ⟨t0, c0, c1⟩ | assumption)
    (first | (go_at_call 81; refine (HP.out _ (below_drewN B1.out 1)).mono ?_; rintro e w2 ⟨v', gs', rfl, hl', hnd', hsub', hkp⟩; have hk3 := hkp.undrew; have hk := And.intro (hk3.carry (p := ⟨g0, 0, none⟩) H1.out t0) (And.intro (hk3.carry (p := ⟨w.heap.size, 0, none⟩) HB.out c0) (hk3.carry (p := ⟨w.heap.size, 1, none⟩) HB.out c1)); have T2 : Hid (w2.heap[g0]? = some (.cells #[.pointer u0, .int .i64 (N : Nat)] 88 (0, 0))) := (hk3.block g0 (lt_of_block T1.out) H1.out).trans T1.out; have tf := two_free T2.out; have t1 := two_snd T2.out; have X : Hid (Lies w2 (putS T ((a, n), x)).1 v' gs' ∧ gs'.Nodup ∧ (∀ k ∈ gs', k ∈ gs0 ∨ w1.heap.size ≤ k) ∧ Kp gs0 w1 w2) := ⟨hl', hnd', hsub', hk3⟩; obtain ⟨u', rfl⟩ := hl'.ptr; clear hl' hnd' hsub' hkp hk3))
  all_goals (
    obtain ⟨d0, d1, d2⟩ := hk
    go_wp2
    go_ret2
    obtain ⟨x1, x2, x3, x4⟩ := X.out
    have hg0' : g0 ∉ gs' := fun hm => by
      rcases x3 g0 hm with h1 | h1
      · exact H1.out h1
      · have := lt_of_block T1.out; omega
    have hln := H2.out
    have hB1 := B1.out.size
    have hNN := HN.out
    rw [HH.out] at hln
    simp only [Bool.false_eq_true, if_true, if_false] at hln
    refine ⟨g0 :: gs', by rw [HH.out]; rfl, ⟨g0, .pointer u', (putS T ((a, n), x)).1, gs', rfl, rfl, ?_, ?_, List.nodup_cons.2 ⟨hg0', x2⟩, HWF.out, HE.out⟩, ?_, ?_⟩
    · rw [HE.out, hln, hNN]; exact two_set1 (two_set0 T2.out)
    · exact (x1.setCell hg0').setCell hg0'
    · intro k hk
      rcases List.mem_cons.1 hk with rfl | hk
      · exact .inl (by simp)
      · rcases x3 k hk with h1 | h1
        · exact .inl (by simp [h1])
        · exact .inr (by omega)
    · exact ((((Kp.of_below B1.out).trans x4 (fun k hk => .inl (by simp [hk]))).setCell (.inl (by simp))).setCell (.inl (by simp))))
theorem tput_old (t : Value) (E : List En) (gs : List Nat) (w : World) (e : En) (he : PV e.1) (h : TrieR w t E gs) (hlen : E.length ≤ 1000) (hhas : hasE E e.1 = true) :
    Calls Try.prog 42 #[t, .agg #[.int .u32 (e.1.1 : Nat), .int .i64 e.1.2], .int .i64 e.2] w fun en w' => ∃ gs', en = .returned (.tuple #[.bool (!hasE E e.1), .int .i64 0]) ∧ TrieR w' t (insE E e) gs' ∧ (∀ k ∈ gs', k ∈ gs ∨ w.heap.size ≤ k) ∧ Kp gs w w' := by
  have hlt := h.lt
  obtain ⟨g0, root, T, gs0, rfl, rfl, hT, hl, nd, hw, rfl⟩ := h
  have ha := ents_asc hw
  have hlen2 := insE_len ha e
  have HE := Lib.hid (putS_ents hw he)
  have hs : (putS T e).2 = false := by rw [(putS_mem hw he).2, hhas]; rfl
  have HH := Lib.hid hhas
  have HWF := Lib.hid (putS_wf hw he)
  obtain ⟨u0, rfl⟩ := hl.ptr
  have hI := (V_iff _).1 he.2
  obtain ⟨⟨a, n⟩, x⟩ := e
  have hm : I64 n := by have h1 := hI.1; have h2 := hI.2.1; dsimp only at h1 h2; constructor <;> omega
  have HV : Hid (∀ W, Calls Try.prog 80 #[.agg #[.int .u32 a, .int .i64 n]] W fun e w' => e = .returned (.bool true) ∧ Below W.heap.size W w') := fun W => (valid_any a he.1 n hm W).mono fun _ _ k => ⟨by rw [k.1]; exact ret_b he.2, k.2⟩
  obtain ⟨n1, n2⟩ := List.nodup_cons.1 nd
  have hg0 := hlt g0 (by simp)
  have hbox : w.heap.size ∉ gs0 := fun hm => by have := hlt _ (List.mem_cons_of_mem _ hm); omega
  have HP : Hid (∀ W, Below w.heap.size w W → Calls Try.prog 81 #[.pointer u0, .agg #[.int .u32 a, .int .i64 n, .int .i64 x]] W fun en w' => ∃ v' gs', en = .returned (.tuple #[v', .bool false]) ∧ Lies w' (putS T ((a, n), x)).1 v' gs' ∧ gs'.Nodup ∧ (∀ k ∈ gs', k ∈ gs0 ∨ W.heap.size ≤ k) ∧ Kp gs0 W w') :=
    fun W hW => (put_any T W _ gs0 ((a, n), x) hw he (hl.below hW) n2).mono fun en w' ⟨v', gs', h1, r⟩ => ⟨v', gs', by rw [h1, hs], r⟩
  have HT := Lib.hid hT
  have H1 := Lib.hid n1
  have HB := Lib.hid hbox
  have HND := Lib.hid nd
  have HL := Lib.hid hlt
  have H2 := Lib.hid hlen2
  have HLen := Lib.hid hlen
  obtain ⟨N, hN⟩ : ∃ N, (ents T).length = N := ⟨_, rfl⟩
  have hN' : N ≤ 1000 := by omega
  have HN := Lib.hid hN
  rw [hN] at HT
  clear hT hl nd hw he ha hlen2 hI n1 n2 hbox hlt hlen hN hs hhas
  go_enter Try.func42, Try.ntmps42
  go_wp2_with (go_at_call 80; refine (HV.out _).mono ?_; rintro e w1 ⟨rfl, hb1⟩
               have B1 : Hid (Below w.heap.size w w1) := below_then (below_alloc _ _) hb1
               have c0 : w1.cell? ⟨w.heap.size, 0, none⟩ = some (.int .u32 a) := carry hb1 (by simp)
               have c1 : w1.cell? ⟨w.heap.size, 1, none⟩ = some (.int .i64 n) := carry hb1 (by simp)
               have T1 : Hid (w1.heap[g0]? = some (.cells #[.pointer u0, .int .i64 (N : Nat)] 88 (0, 0))) := (B1.out.block g0 hg0).trans HT.out
               have t0 : w1.cell? ⟨g0, 0, none⟩ = some (.pointer u0) := by have := T1.out; simp [World.cell?, this]
               clear hb1)
  go_region_held3 (fun w' => w'.cell? ⟨g0, 0, none⟩ = some (.pointer u0) ∧ w'.cell? ⟨w.heap.size, 0, none⟩ = some (.int .u32 a) ∧ w'.cell? ⟨w.heap.size, 1, none⟩ = some (.int .i64 n))
    (first | exact ⟨t0, c0, c1⟩ | assumption)
    (first | (go_at_call 81; refine (HP.out _ (below_drewN B1.out 1)).mono ?_; rintro e w2 ⟨v', gs', rfl, hl', hnd', hsub', hkp⟩; have hk3 := hkp.undrew; have hk := And.intro (hk3.carry (p := ⟨g0, 0, none⟩) H1.out t0) (And.intro (hk3.carry (p := ⟨w.heap.size, 0, none⟩) HB.out c0) (hk3.carry (p := ⟨w.heap.size, 1, none⟩) HB.out c1)); have T2 : Hid (w2.heap[g0]? = some (.cells #[.pointer u0, .int .i64 (N : Nat)] 88 (0, 0))) := (hk3.block g0 (lt_of_block T1.out) H1.out).trans T1.out; have tf := two_free T2.out; have t1 := two_snd T2.out; have X : Hid (Lies w2 (putS T ((a, n), x)).1 v' gs' ∧ gs'.Nodup ∧ (∀ k ∈ gs', k ∈ gs0 ∨ w1.heap.size ≤ k) ∧ Kp gs0 w1 w2) := ⟨hl', hnd', hsub', hk3⟩; obtain ⟨u', rfl⟩ := hl'.ptr; clear hl' hnd' hsub' hkp hk3))
  all_goals (
    obtain ⟨d0, d1, d2⟩ := hk
    go_wp2
    go_ret2
    obtain ⟨x1, x2, x3, x4⟩ := X.out
    have hg0' : g0 ∉ gs' := fun hm => by
      rcases x3 g0 hm with h1 | h1
      · exact H1.out h1
      · have := lt_of_block T1.out; omega
    have hln := H2.out
    have hB1 := B1.out.size
    have hNN := HN.out
    rw [HH.out] at hln
    simp only [Bool.false_eq_true, if_true, if_false] at hln
    refine ⟨g0 :: gs', by rw [HH.out]; rfl, ⟨g0, .pointer u', (putS T ((a, n), x)).1, gs', rfl, rfl, ?_, ?_, List.nodup_cons.2 ⟨hg0', x2⟩, HWF.out, HE.out⟩, ?_, ?_⟩
    · rw [HE.out, hln, hNN]; exact two_set0 T2.out
    · exact x1.setCell hg0'
    · intro k hk
      rcases List.mem_cons.1 hk with rfl | hk
      · exact .inl (by simp)
      · rcases x3 k hk with h1 | h1
        · exact .inl (by simp [h1])
        · exact .inr (by omega)
    · exact (((Kp.of_below B1.out).trans x4 (fun k hk => .inl (by simp [hk]))).setCell (.inl (by simp))))
theorem tput_any (t : Value) (E : List En) (gs : List Nat) (w : World) (e : En) (he : PV e.1) (h : TrieR w t E gs) (hlen : E.length ≤ 1000) :
    Calls Try.prog 42 #[t, .agg #[.int .u32 (e.1.1 : Nat), .int .i64 e.1.2], .int .i64 e.2] w fun en w' => ∃ gs', en = .returned (.tuple #[.bool (!hasE E e.1), .int .i64 0]) ∧ TrieR w' t (insE E e) gs' ∧ (∀ k ∈ gs', k ∈ gs ∨ w.heap.size ≤ k) ∧ Kp gs w w' := by
  cases hh : hasE E e.1
  · exact hh ▸ tput_new t E gs w e he h hlen hh
  · exact hh ▸ tput_old t E gs w e he h hlen hh
end Go.Proofs.Ytegponbmelgngaa
