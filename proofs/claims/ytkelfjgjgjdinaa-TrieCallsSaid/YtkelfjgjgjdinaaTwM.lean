/-
  The trie's methods: Drop, and Of.
-/
import Derived.Test.YtkelfjgjgjdinaaTwL
namespace Go.Proofs.Ytkelfjgjgjdinaa
open Go.RowKit
set_option linter.unusedSimpArgs false
set_option linter.unusedVariables false
set_option maxHeartbeats 4000000
set_option maxRecDepth 100000

theorem tdrop_hit (t : Value) (E : List En) (gs : List Nat) (w : World) (e : PP) (hb : e.1 < 4294967296) (hm : I64 e.2) (h : TrieR w t E gs) (hlen : E.length ≤ 1000) (hhas : hasE E e = true) :
    Calls Try.prog 58 #[t, .agg #[.int .u32 (e.1 : Nat), .int .i64 e.2]] w fun en w' => ∃ gs', en = .returned (.bool (hasE E e)) ∧ TrieR w' t (delE E e) gs' ∧ (∀ k ∈ gs', k ∈ gs ∨ w.heap.size ≤ k) ∧ Kp gs w w' := by
  have hlt := h.lt
  obtain ⟨g0, root, T, gs0, rfl, rfl, hT, hl, nd, hw, rfl⟩ := h
  have ha := ents_asc hw
  have hlen2 := delE_len ha e
  have HE := Lib.hid (dropS_ents e hw).1
  have hs : (dropS T e).2 = true := by rw [(dropS_ents e hw).2, hhas]
  have HH := Lib.hid hhas
  have HWF := Lib.hid (dropS_wf e hw)
  obtain ⟨u0, rfl⟩ := hl.ptr
  obtain ⟨a, n⟩ := e
  obtain ⟨n1, n2⟩ := List.nodup_cons.1 nd
  have hg0 := hlt g0 (by simp)
  have hbox : w.heap.size ∉ gs0 := fun hm => by have := hlt _ (List.mem_cons_of_mem _ hm); omega
  have HP : Hid (∀ W, Below w.heap.size w W → Calls Try.prog 93 #[.pointer u0, .agg #[.int .u32 a, .int .i64 n]] W fun en w' => ∃ v' gs', en = .returned (.tuple #[v', .bool true]) ∧ Lies w' (dropS T (a, n)).1 v' gs' ∧ gs'.Nodup ∧ (∀ k ∈ gs', k ∈ gs0 ∨ W.heap.size ≤ k) ∧ Kp gs0 W w') :=
    fun W hW => (drop_any T W _ gs0 (a, n) hw hb hm (hl.below hW) n2).mono fun en w' ⟨v', gs', h1, r⟩ => ⟨v', gs', by rw [h1, hs], r⟩
  have HT := Lib.hid hT
  have H1 := Lib.hid n1
  have HB := Lib.hid hbox
  have HND := Lib.hid nd
  have HL := Lib.hid hlt
  have H2 := Lib.hid hlen2
  have HLen := Lib.hid hlen
  obtain ⟨N, hN⟩ : ∃ N, (ents T).length = N := ⟨_, rfl⟩
  have hN' : N ≤ 1000 := by omega
  have HN := Lib.hid hN
  rw [hN] at HT
  clear hT hl nd hw ha hlen2 n1 n2 hbox hlt hlen hN hs hhas
  have B1 := Lib.hid (below_alloc w (.cells #[.int .u32 (a : Int), .int .i64 n] 28))
  have T1 : Hid ((w.alloc (.cells #[.int .u32 (a : Int), .int .i64 n] 28)).heap[g0]? = some (.cells #[.pointer u0, .int .i64 (N : Nat)] 99 (0, 0))) := (B1.out.block g0 hg0).trans HT.out
  have t0 : (w.alloc (.cells #[.int .u32 (a : Int), .int .i64 n] 28)).cell? ⟨g0, 0, none⟩ = some (.pointer u0) := by have := T1.out; simp [World.cell?, this]
  go_enter Try.func58, Try.ntmps58
  go_wp2
  go_region_held3 (fun w' => w'.cell? ⟨g0, 0, none⟩ = some (.pointer u0) ∧ w'.cell? ⟨w.heap.size, 0, none⟩ = some (.int .u32 a) ∧ w'.cell? ⟨w.heap.size, 1, none⟩ = some (.int .i64 n))
    (first | exact ⟨t0, by simp, by simp⟩ | assumption)
    (first | (go_at_call 93; refine (HP.out _ (below_drewN B1.out 1)).mono ?_; rintro e w2 ⟨v', gs', rfl, hl', hnd', hsub', hkp⟩; have hk3 := hkp.undrew; have hk := And.intro (hk3.carry (p := ⟨g0, 0, none⟩) H1.out t0) (And.intro (hk3.carry (p := ⟨w.heap.size, 0, none⟩) (v := .int .u32 a) HB.out (by simp)) (hk3.carry (p := ⟨w.heap.size, 1, none⟩) (v := .int .i64 n) HB.out (by simp))); have T2 : Hid (w2.heap[g0]? = some (.cells #[.pointer u0, .int .i64 (N : Nat)] 99 (0, 0))) := (hk3.block g0 (lt_of_block T1.out) H1.out).trans T1.out; have tf := two_free T2.out; have t1 := two_snd T2.out; have X : Hid (Lies w2 (dropS T (a, n)).1 v' gs' ∧ gs'.Nodup ∧ (∀ k ∈ gs', k ∈ gs0 ∨ (w.alloc (.cells #[.int .u32 (a : Int), .int .i64 n] 28)).heap.size ≤ k) ∧ Kp gs0 (w.alloc (.cells #[.int .u32 (a : Int), .int .i64 n] 28)) w2) := ⟨hl', hnd', hsub', hk3⟩; obtain ⟨u', rfl⟩ := hl'.ptr; clear hl' hnd' hsub' hkp hk3))
  all_goals (
    obtain ⟨d0, d1, d2⟩ := hk
    go_wp2
    go_ret
    obtain ⟨x1, x2, x3, x4⟩ := X.out
    have hg0' : g0 ∉ gs' := fun hm => by
      rcases x3 g0 hm with h1 | h1
      · exact H1.out h1
      · have := lt_of_block T1.out; omega
    have hln := H2.out
    have hB1 := B1.out.size
    have hNN := HN.out
    rw [HH.out] at hln
    simp only [Bool.false_eq_true, if_true, if_false] at hln
    refine ⟨g0 :: gs', by rw [HH.out]; rfl, ⟨g0, .pointer u', (dropS T (a, n)).1, gs', rfl, rfl, ?_, ?_, List.nodup_cons.2 ⟨hg0', x2⟩, HWF.out, HE.out⟩, ?_, ?_⟩
    · rw [HE.out, show (delE (ents T) (a, n)).length = N - 1 by omega]; have hN1 : 1 ≤ N := by omega
      rw [show ((N - 1 : Nat) : Int) = (N : Int) - 1 by omega]; exact two_set1 (two_set0 T2.out)
    · exact (x1.setCell hg0').setCell hg0'
    · intro k hk
      rcases List.mem_cons.1 hk with rfl | hk
      · exact .inl (by simp)
      · rcases x3 k hk with h1 | h1
        · exact .inl (by simp [h1])
        · exact .inr (by omega)
    · exact ((((Kp.of_below B1.out).trans x4 (fun k hk => .inl (by simp [hk]))).setCell (.inl (by simp))).setCell (.inl (by simp))))
theorem tdrop_miss (t : Value) (E : List En) (gs : List Nat) (w : World) (e : PP) (hb : e.1 < 4294967296) (hm : I64 e.2) (h : TrieR w t E gs) (hlen : E.length ≤ 1000) (hhas : hasE E e = false) :
    Calls Try.prog 58 #[t, .agg #[.int .u32 (e.1 : Nat), .int .i64 e.2]] w fun en w' => ∃ gs', en = .returned (.bool (hasE E e)) ∧ TrieR w' t (delE E e) gs' ∧ (∀ k ∈ gs', k ∈ gs ∨ w.heap.size ≤ k) ∧ Kp gs w w' := by
  have hlt := h.lt
  obtain ⟨g0, root, T, gs0, rfl, rfl, hT, hl, nd, hw, rfl⟩ := h
  have ha := ents_asc hw
  have hlen2 := delE_len ha e
  have HE := Lib.hid (dropS_ents e hw).1
  have hs : (dropS T e).2 = false := by rw [(dropS_ents e hw).2, hhas]
  have HH := Lib.hid hhas
  have HWF := Lib.hid (dropS_wf e hw)
  obtain ⟨u0, rfl⟩ := hl.ptr
  obtain ⟨a, n⟩ := e
  obtain ⟨n1, n2⟩ := List.nodup_cons.1 nd
  have hg0 := hlt g0 (by simp)
  have hbox : w.heap.size ∉ gs0 := fun hm => by have := hlt _ (List.mem_cons_of_mem _ hm); omega
  have HP : Hid (∀ W, Below w.heap.size w W → Calls Try.prog 93 #[.pointer u0, .agg #[.int .u32 a, .int .i64 n]] W fun en w' => ∃ v' gs', en = .returned (.tuple #[v', .bool false]) ∧ Lies w' (dropS T (a, n)).1 v' gs' ∧ gs'.Nodup ∧ (∀ k ∈ gs', k ∈ gs0 ∨ W.heap.size ≤ k) ∧ Kp gs0 W w') :=
    fun W hW => (drop_any T W _ gs0 (a, n) hw hb hm (hl.below hW) n2).mono fun en w' ⟨v', gs', h1, r⟩ => ⟨v', gs', by rw [h1, hs], r⟩
  have HT := Lib.hid hT
  have H1 := Lib.hid n1
  have HB := Lib.hid hbox
  have HND := Lib.hid nd
  have HL := Lib.hid hlt
  have H2 := Lib.hid hlen2
  have HLen := Lib.hid hlen
  obtain ⟨N, hN⟩ : ∃ N, (ents T).length = N := ⟨_, rfl⟩
  have hN' : N ≤ 1000 := by omega
  have HN := Lib.hid hN
  rw [hN] at HT
  clear hT hl nd hw ha hlen2 n1 n2 hbox hlt hlen hN hs hhas
  have B1 := Lib.hid (below_alloc w (.cells #[.int .u32 (a : Int), .int .i64 n] 28))
  have T1 : Hid ((w.alloc (.cells #[.int .u32 (a : Int), .int .i64 n] 28)).heap[g0]? = some (.cells #[.pointer u0, .int .i64 (N : Nat)] 99 (0, 0))) := (B1.out.block g0 hg0).trans HT.out
  have t0 : (w.alloc (.cells #[.int .u32 (a : Int), .int .i64 n] 28)).cell? ⟨g0, 0, none⟩ = some (.pointer u0) := by have := T1.out; simp [World.cell?, this]
  go_enter Try.func58, Try.ntmps58
  go_wp2
  go_region_held3 (fun w' => w'.cell? ⟨g0, 0, none⟩ = some (.pointer u0) ∧ w'.cell? ⟨w.heap.size, 0, none⟩ = some (.int .u32 a) ∧ w'.cell? ⟨w.heap.size, 1, none⟩ = some (.int .i64 n))
    (first | exact ⟨t0, by simp, by simp⟩ | assumption)
    (first | (go_at_call 93; refine (HP.out _ (below_drewN B1.out 1)).mono ?_; rintro e w2 ⟨v', gs', rfl, hl', hnd', hsub', hkp⟩; have hk3 := hkp.undrew; have hk := And.intro (hk3.carry (p := ⟨g0, 0, none⟩) H1.out t0) (And.intro (hk3.carry (p := ⟨w.heap.size, 0, none⟩) (v := .int .u32 a) HB.out (by simp)) (hk3.carry (p := ⟨w.heap.size, 1, none⟩) (v := .int .i64 n) HB.out (by simp))); have T2 : Hid (w2.heap[g0]? = some (.cells #[.pointer u0, .int .i64 (N : Nat)] 99 (0, 0))) := (hk3.block g0 (lt_of_block T1.out) H1.out).trans T1.out; have tf := two_free T2.out; have t1 := two_snd T2.out; have X : Hid (Lies w2 (dropS T (a, n)).1 v' gs' ∧ gs'.Nodup ∧ (∀ k ∈ gs', k ∈ gs0 ∨ (w.alloc (.cells #[.int .u32 (a : Int), .int .i64 n] 28)).heap.size ≤ k) ∧ Kp gs0 (w.alloc (.cells #[.int .u32 (a : Int), .int .i64 n] 28)) w2) := ⟨hl', hnd', hsub', hk3⟩; obtain ⟨u', rfl⟩ := hl'.ptr; clear hl' hnd' hsub' hkp hk3))
  all_goals (
    obtain ⟨d0, d1, d2⟩ := hk
    go_wp2
    go_ret
    obtain ⟨x1, x2, x3, x4⟩ := X.out
    have hg0' : g0 ∉ gs' := fun hm => by
      rcases x3 g0 hm with h1 | h1
      · exact H1.out h1
      · have := lt_of_block T1.out; omega
    have hln := H2.out
    have hB1 := B1.out.size
    have hNN := HN.out
    rw [HH.out] at hln
    simp only [Bool.false_eq_true, if_true, if_false] at hln
    refine ⟨g0 :: gs', by rw [HH.out]; rfl, ⟨g0, .pointer u', (dropS T (a, n)).1, gs', rfl, rfl, ?_, ?_, List.nodup_cons.2 ⟨hg0', x2⟩, HWF.out, HE.out⟩, ?_, ?_⟩
    · rw [HE.out, show (delE (ents T) (a, n)).length = N by omega]; exact two_set0 T2.out
    · exact x1.setCell hg0'
    · intro k hk
      rcases List.mem_cons.1 hk with rfl | hk
      · exact .inl (by simp)
      · rcases x3 k hk with h1 | h1
        · exact .inl (by simp [h1])
        · exact .inr (by omega)
    · exact (((Kp.of_below B1.out).trans x4 (fun k hk => .inl (by simp [hk]))).setCell (.inl (by simp))))
theorem tdrop_any (t : Value) (E : List En) (gs : List Nat) (w : World) (e : PP) (hb : e.1 < 4294967296) (hm : I64 e.2) (h : TrieR w t E gs) (hlen : E.length ≤ 1000) :
    Calls Try.prog 58 #[t, .agg #[.int .u32 (e.1 : Nat), .int .i64 e.2]] w fun en w' => ∃ gs', en = .returned (.bool (hasE E e)) ∧ TrieR w' t (delE E e) gs' ∧ (∀ k ∈ gs', k ∈ gs ∨ w.heap.size ≤ k) ∧ Kp gs w w' := by
  cases hh : hasE E e
  · exact hh ▸ tdrop_miss t E gs w e hb hm h hlen hh
  · exact hh ▸ tdrop_hit t E gs w e hb hm h hlen hh
theorem tdrop_nil (b : Nat) (m : Int) (w : World) : Calls Try.prog 58 #[.pointer none, .agg #[.int .u32 b, .int .i64 m]] w fun en w' => en = .returned (.bool false) ∧ Below w.heap.size w w' := by
  go_enter Try.func58, Try.ntmps58
  go_wp2
  go_ret
  exact ⟨rfl, below_alloc _ _⟩
end Go.Proofs.Ytkelfjgjgjdinaa
