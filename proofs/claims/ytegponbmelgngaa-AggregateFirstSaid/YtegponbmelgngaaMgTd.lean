/-
  The trie's methods: Put, Drop, and Of.
  The walk of trie.Of, and the examples' answer.
  Plain facts on the longest prefix: the last of the entries above an address is the best one of the list.
-/
import Derived.Test.YtegponbmelgngaaMgTc
section
namespace Go.Proofs.Ytegponbmelgngaa
open Go.RowKit
set_option linter.unusedSimpArgs false
set_option linter.unusedVariables false
set_option maxHeartbeats 4000000
set_option maxRecDepth 100000

theorem tput_nil (a : Nat) (n x : Int) (w : World) :
    Calls Try.prog 42 #[.pointer none, .agg #[.int .u32 a, .int .i64 n], .int .i64 x] w fun en w' => en = .returned (.tuple #[.bool false, .int .i64 0]) ∧ Below w.heap.size w w' := by
  go_enter Try.func42, Try.ntmps42
  go_wp2
  go_ret2
  exact ⟨rfl, below_alloc _ _⟩
theorem tput_bad (g : Nat) (p : PP) (hb : p.1 < 4294967296) (hm : I64 p.2) (x : Int) (hv : V p = false) (w : World) :
    Calls Try.prog 42 #[.pointer (some ⟨g, 0, none⟩), .agg #[.int .u32 (p.1 : Nat), .int .i64 p.2], .int .i64 x] w fun en w' => en = .returned (.tuple #[.bool false, .int .i64 1]) ∧ Below w.heap.size w w' := by
  obtain ⟨a, n⟩ := p
  have HV : Hid (∀ W, Calls Try.prog 80 #[.agg #[.int .u32 a, .int .i64 n]] W fun e w' => e = .returned (.bool false) ∧ Below W.heap.size W w') := fun W => (valid_any a hb n hm W).mono fun _ _ k => ⟨by rw [k.1]; exact ret_b hv, k.2⟩
  clear hv
  go_enter Try.func42, Try.ntmps42
  go_wp2_with (go_at_call 80; refine (HV.out _).mono ?_; rintro e w1 ⟨rfl, hb1⟩; have B1 := Lib.hid hb1; clear hb1)
  go_ret2
  exact ⟨rfl, below_then (below_alloc _ _) B1.out⟩
theorem two_free {w : World} {g : Nat} {a b : Value} {t : TypeId} (h : w.heap[g]? = some (.cells #[a, b] t (0, 0))) : ∀ o, w.frozen? ⟨g, o, none⟩ = false := fun o => by simp [World.frozen?, h]
theorem two_snd {w : World} {g : Nat} {a b : Value} {t : TypeId} (h : w.heap[g]? = some (.cells #[a, b] t (0, 0))) : w.cell? ⟨g, 1, none⟩ = some b := by simp [World.cell?, h]
theorem two_set0 {w : World} {g : Nat} {a b u : Value} {t : TypeId} (h : w.heap[g]? = some (.cells #[a, b] t (0, 0))) : (w.setCell ⟨g, 0, none⟩ u).heap[g]? = some (.cells #[u, b] t (0, 0)) := by rw [heap_set_eq h]; rfl
theorem two_set1 {w : World} {g : Nat} {a b u : Value} {t : TypeId} (h : w.heap[g]? = some (.cells #[a, b] t (0, 0))) : (w.setCell ⟨g, 1, none⟩ u).heap[g]? = some (.cells #[a, u] t (0, 0)) := by rw [heap_set_eq h]; rfl
theorem tput_new (t : Value) (E : List En) (gs : List Nat) (w : World) (e : En) (he : PV e.1) (h : TrieR w t E gs) (hlen : E.length ≤ 1000) (hhas : hasE E e.1 = false) :
    Calls Try.prog 42 #[t, .agg #[.int .u32 (e.1.1 : Nat), .int .i64 e.1.2], .int .i64 e.2] w fun en w' => ∃ gs', en = .returned (.tuple #[.bool (!hasE E e.1), .int .i64 0]) ∧ TrieR w' t (insE E e) gs' ∧ (∀ k ∈ gs', k ∈ gs ∨ w.heap.size ≤ k) ∧ Kp gs w w' := by
  have hlt := h.lt
  obtain ⟨g0, root, T, gs0, rfl, rfl, hT, hl, nd, hw, rfl⟩ := h
  have ha := ents_asc hw
  have hlen2 := insE_len ha e
  have HE := Lib.hid (putS_ents hw he)
  have hs : (putS T e).2 = true := by rw [(putS_mem hw he).2, hhas]; rfl
  have HH := Lib.hid hhas
  have HWF := Lib.hid (putS_wf hw he)
  obtain ⟨u0, rfl⟩ := hl.ptr
  have hI := (V_iff _).1 he.2
  obtain ⟨⟨a, n⟩, x⟩ := e
  have hm : I64 n := by have h1 := hI.1; have h2 := hI.2.1; dsimp only at h1 h2; constructor <;> omega
  have HV : Hid (∀ W, Calls Try.prog 80 #[.agg #[.int .u32 a, .int .i64 n]] W fun e w' => e = .returned (.bool true) ∧ Below W.heap.size W w') := fun W => (valid_any a he.1 n hm W).mono fun _ _ k => ⟨by rw [k.1]; exact ret_b he.2, k.2⟩
  obtain ⟨n1, n2⟩ := List.nodup_cons.1 nd
  have hg0 := hlt g0 (by simp)
  have hbox : w.heap.size ∉ gs0 := fun hm => by have := hlt _ (List.mem_cons_of_mem _ hm); omega
  have HP : Hid (∀ W, Below w.heap.size w W → Calls Try.prog 81 #[.pointer u0, .agg #[.int .u32 a, .int .i64 n, .int .i64 x]] W fun en w' => ∃ v' gs', en = .returned (.tuple #[v', .bool true]) ∧ Lies w' (putS T ((a, n), x)).1 v' gs' ∧ gs'.Nodup ∧ (∀ k ∈ gs', k ∈ gs0 ∨ W.heap.size ≤ k) ∧ Kp gs0 W w') :=
    fun W hW => (put_any T W _ gs0 ((a, n), x) hw he (hl.below hW) n2).mono fun en w' ⟨v', gs', h1, r⟩ => ⟨v', gs', by rw [h1, hs], r⟩
  have HT := Lib.hid hT
  have H1 := Lib.hid n1
  have HB := Lib.hid hbox
  have HND := Lib.hid nd
  have HL := Lib.hid hlt
  have H2 := Lib.hid hlen2
  have HLen := Lib.hid hlen
  obtain ⟨N, hN⟩ : ∃ N, (ents T).length = N := ⟨_, rfl⟩
  have hN' : N ≤ 1000 := by omega
  have HN := Lib.hid hN
  rw [hN] at HT
  clear hT hl nd hw he ha hlen2 hI n1 n2 hbox hlt hlen hN hs hhas
  go_enter Try.func42, Try.ntmps42
  go_wp2_with (go_at_call 80; refine (HV.out _).mono ?_; rintro e w1 ⟨rfl, hb1⟩
               have B1 : Hid (Below w.heap.size w w1) := below_then (below_alloc _ _) hb1
               have c0 : w1.cell? ⟨w.heap.size, 0, none⟩ = some (.int .u32 a) := carry hb1 (by simp)
               have c1 : w1.cell? ⟨w.heap.size, 1, none⟩ = some (.int .i64 n) := carry hb1 (by simp)
               have T1 : Hid (w1.heap[g0]? = some (.cells #[.pointer u0, .int .i64 (N : Nat)] 88 (0, 0))) := (B1.out.block g0 hg0).trans HT.out
               have t0 : w1.cell? ⟨g0, 0, none⟩ = some (.pointer u0) := by have := T1.out; simp [World.cell?, this]
               clear hb1)
  go_region_held3 (fun w' => w'.cell? ⟨g0, 0, none⟩ = some (.pointer u0) ∧ w'.cell? ⟨w.heap.size, 0, none⟩ = some (.int .u32 a) ∧ w'.cell? ⟨w.heap.size, 1, none⟩ = some (.int .i64 n))
    (first | exact ⟨t0, c0, c1⟩ | assumption)
    (first | (go_at_call 81; refine (HP.out _ (below_drewN B1.out 1)).mono ?_; rintro e w2 ⟨v', gs', rfl, hl', hnd', hsub', hkp⟩; have hk3 := hkp.undrew; have hk := And.intro (hk3.carry (p := ⟨g0, 0, none⟩) H1.out t0) (And.intro (hk3.carry (p := ⟨w.heap.size, 0, none⟩) HB.out c0) (hk3.carry (p := ⟨w.heap.size, 1, none⟩) HB.out c1)); have T2 : Hid (w2.heap[g0]? = some (.cells #[.pointer u0, .int .i64 (N : Nat)] 88 (0, 0))) := (hk3.block g0 (lt_of_block T1.out) H1.out).trans T1.out; have tf := two_free T2.out; have t1 := two_snd T2.out; have X : Hid (Lies w2 (putS T ((a, n), x)).1 v' gs' ∧ gs'.Nodup ∧ (∀ k ∈ gs', k ∈ gs0 ∨ w1.heap.size ≤ k) ∧ Kp gs0 w1 w2) := ⟨hl', hnd', hsub', hk3⟩; obtain ⟨u', rfl⟩ := hl'.ptr; clear hl' hnd' hsub' hkp hk3))
  all_goals (
    obtain ⟨d0, d1, d2⟩ := hk
    go_wp2
    go_ret2
    obtain ⟨x1, x2, x3, x4⟩ := X.out
    have hg0' : g0 ∉ gs' := fun hm => by
      rcases x3 g0 hm with h1 | h1
      · exact H1.out h1
      · have := lt_of_block T1.out; omega
    have hln := H2.out
    have hB1 := B1.out.size
    have hNN := HN.out
    rw [HH.out] at hln
    simp only [Bool.false_eq_true, if_true, if_false] at hln
    refine ⟨g0 :: gs', by rw [HH.out]; rfl, ⟨g0, .pointer u', (putS T ((a, n), x)).1, gs', rfl, rfl, ?_, ?_, List.nodup_cons.2 ⟨hg0', x2⟩, HWF.out, HE.out⟩, ?_, ?_⟩
    · rw [HE.out, hln, hNN]; exact two_set1 (two_set0 T2.out)
    · exact (x1.setCell hg0').setCell hg0'
    · intro k hk
      rcases List.mem_cons.1 hk with rfl | hk
      · exact .inl (by simp)
      · rcases x3 k hk with h1 | h1
        · exact .inl (by simp [h1])
        · exact .inr (by omega)
    · exact ((((Kp.of_below B1.out).trans x4 (fun k hk => .inl (by simp [hk]))).setCell (.inl (by simp))).setCell (.inl (by simp))))
theorem tput_old (t : Value) (E : List En) (gs : List Nat) (w : World) (e : En) (he : PV e.1) (h : TrieR w t E gs) (hlen : E.length ≤ 1000) (hhas : hasE E e.1 = true) :
    Calls Try.prog 42 #[t, .agg #[.int .u32 (e.1.1 : Nat), .int .i64 e.1.2], .int .i64 e.2] w fun en w' => ∃ gs', en = .returned (.tuple #[.bool (!hasE E e.1), .int .i64 0]) ∧ TrieR w' t (insE E e) gs' ∧ (∀ k ∈ gs', k ∈ gs ∨ w.heap.size ≤ k) ∧ Kp gs w w' := by
  have hlt := h.lt
  obtain ⟨g0, root, T, gs0, rfl, rfl, hT, hl, nd, hw, rfl⟩ := h
  have ha := ents_asc hw
  have hlen2 := insE_len ha e
  have HE := Lib.hid (putS_ents hw he)
  have hs : (putS T e).2 = false := by rw [(putS_mem hw he).2, hhas]; rfl
  have HH := Lib.hid hhas
  have HWF := Lib.hid (putS_wf hw he)
  obtain ⟨u0, rfl⟩ := hl.ptr
  have hI := (V_iff _).1 he.2
  obtain ⟨⟨a, n⟩, x⟩ := e
  have hm : I64 n := by have h1 := hI.1; have h2 := hI.2.1; dsimp only at h1 h2; constructor <;> omega
  have HV : Hid (∀ W, Calls Try.prog 80 #[.agg #[.int .u32 a, .int .i64 n]] W fun e w' => e = .returned (.bool true) ∧ Below W.heap.size W w') := fun W => (valid_any a he.1 n hm W).mono fun _ _ k => ⟨by rw [k.1]; exact ret_b he.2, k.2⟩
  obtain ⟨n1, n2⟩ := List.nodup_cons.1 nd
  have hg0 := hlt g0 (by simp)
  have hbox : w.heap.size ∉ gs0 := fun hm => by have := hlt _ (List.mem_cons_of_mem _ hm); omega
  have HP : Hid (∀ W, Below w.heap.size w W → Calls Try.prog 81 #[.pointer u0, .agg #[.int .u32 a, .int .i64 n, .int .i64 x]] W fun en w' => ∃ v' gs', en = .returned (.tuple #[v', .bool false]) ∧ Lies w' (putS T ((a, n), x)).1 v' gs' ∧ gs'.Nodup ∧ (∀ k ∈ gs', k ∈ gs0 ∨ W.heap.size ≤ k) ∧ Kp gs0 W w') :=
    fun W hW => (put_any T W _ gs0 ((a, n), x) hw he (hl.below hW) n2).mono fun en w' ⟨v', gs', h1, r⟩ => ⟨v', gs', by rw [h1, hs], r⟩
  have HT := Lib.hid hT
  have H1 := Lib.hid n1
  have HB := Lib.hid hbox
  have HND := Lib.hid nd
  have HL := Lib.hid hlt
  have H2 := Lib.hid hlen2
  have HLen := Lib.hid hlen
  obtain ⟨N, hN⟩ : ∃ N, (ents T).length = N := ⟨_, rfl⟩
  have hN' : N ≤ 1000 := by omega
  have HN := Lib.hid hN
  rw [hN] at HT
  clear hT hl nd hw he ha hlen2 hI n1 n2 hbox hlt hlen hN hs hhas
  go_enter Try.func42, Try.ntmps42
  go_wp2_with (go_at_call 80; refine (HV.out _).mono ?_; rintro e w1 ⟨rfl, hb1⟩
               have B1 : Hid (Below w.heap.size w w1) := below_then (below_alloc _ _) hb1
               have c0 : w1.cell? ⟨w.heap.size, 0, none⟩ = some (.int .u32 a) := carry hb1 (by simp)
               have c1 : w1.cell? ⟨w.heap.size, 1, none⟩ = some (.int .i64 n) := carry hb1 (by simp)
               have T1 : Hid (w1.heap[g0]? = some (.cells #[.pointer u0, .int .i64 (N : Nat)] 88 (0, 0))) := (B1.out.block g0 hg0).trans HT.out
               have t0 : w1.cell? ⟨g0, 0, none⟩ = some (.pointer u0) := by have := T1.out; simp [World.cell?, this]
               clear hb1)
  go_region_held3 (fun w' => w'.cell? ⟨g0, 0, none⟩ = some (.pointer u0) ∧ w'.cell? ⟨w.heap.size, 0, none⟩ = some (.int .u32 a) ∧ w'.cell? ⟨w.heap.size, 1, none⟩ = some (.int .i64 n))
    (first | exact ⟨t0, c0, c1⟩ | assumption)
    (first | (go_at_call 81; refine (HP.out _ (below_drewN B1.out 1)).mono ?_; rintro e w2 ⟨v', gs', rfl, hl', hnd', hsub', hkp⟩; have hk3 := hkp.undrew; have hk := And.intro (hk3.carry (p := ⟨g0, 0, none⟩) H1.out t0) (And.intro (hk3.carry (p := ⟨w.heap.size, 0, none⟩) HB.out c0) (hk3.carry (p := ⟨w.heap.size, 1, none⟩) HB.out c1)); have T2 : Hid (w2.heap[g0]? = some (.cells #[.pointer u0, .int .i64 (N : Nat)] 88 (0, 0))) := (hk3.block g0 (lt_of_block T1.out) H1.out).trans T1.out; have tf := two_free T2.out; have t1 := two_snd T2.out; have X : Hid (Lies w2 (putS T ((a, n), x)).1 v' gs' ∧ gs'.Nodup ∧ (∀ k ∈ gs', k ∈ gs0 ∨ w1.heap.size ≤ k) ∧ Kp gs0 w1 w2) := ⟨hl', hnd', hsub', hk3⟩; obtain ⟨u', rfl⟩ := hl'.ptr; clear hl' hnd' hsub' hkp hk3))
  all_goals (
    obtain ⟨d0, d1, d2⟩ := hk
    go_wp2
    go_ret2
    obtain ⟨x1, x2, x3, x4⟩ := X.out
    have hg0' : g0 ∉ gs' := fun hm => by
      rcases x3 g0 hm with h1 | h1
      · exact H1.out h1
      · have := lt_of_block T1.out; omega
    have hln := H2.out
    have hB1 := B1.out.size
    have hNN := HN.out
    rw [HH.out] at hln
    simp only [Bool.false_eq_true, if_true, if_false] at hln
    refine ⟨g0 :: gs', by rw [HH.out]; rfl, ⟨g0, .pointer u', (putS T ((a, n), x)).1, gs', rfl, rfl, ?_, ?_, List.nodup_cons.2 ⟨hg0', x2⟩, HWF.out, HE.out⟩, ?_, ?_⟩
    · rw [HE.out, hln, hNN]; exact two_set0 T2.out
    · exact x1.setCell hg0'
    · intro k hk
      rcases List.mem_cons.1 hk with rfl | hk
      · exact .inl (by simp)
      · rcases x3 k hk with h1 | h1
        · exact .inl (by simp [h1])
        · exact .inr (by omega)
    · exact (((Kp.of_below B1.out).trans x4 (fun k hk => .inl (by simp [hk]))).setCell (.inl (by simp))))
theorem tput_any (t : Value) (E : List En) (gs : List Nat) (w : World) (e : En) (he : PV e.1) (h : TrieR w t E gs) (hlen : E.length ≤ 1000) :
    Calls Try.prog 42 #[t, .agg #[.int .u32 (e.1.1 : Nat), .int .i64 e.1.2], .int .i64 e.2] w fun en w' => ∃ gs', en = .returned (.tuple #[.bool (!hasE E e.1), .int .i64 0]) ∧ TrieR w' t (insE E e) gs' ∧ (∀ k ∈ gs', k ∈ gs ∨ w.heap.size ≤ k) ∧ Kp gs w w' := by
  cases hh : hasE E e.1
  · exact hh ▸ tput_new t E gs w e he h hlen hh
  · exact hh ▸ tput_old t E gs w e he h hlen hh
end Go.Proofs.Ytegponbmelgngaa
end

section
namespace Go.Proofs.Ytegponbmelgngaa
open Go.RowKit
set_option linter.unusedSimpArgs false
set_option linter.unusedVariables false
set_option maxHeartbeats 4000000
set_option maxRecDepth 100000

def foldE (l : List En) : List En := l.foldl insE []
theorem foldE_snoc (l : List En) (x : En) : foldE (l ++ [x]) = insE (foldE l) x := by unfold foldE; rw [List.foldl_append]; rfl
theorem foldE_asc (l : List En) : AscE (foldE l) := by
  unfold foldE
  suffices h : ∀ (l out : List En), AscE out → AscE (l.foldl insE out) from h l [] List.Pairwise.nil
  intro l
  induction l with
  | nil => exact fun out h => h
  | cons x r ih => exact fun out h => ih _ (asc_insE x h)
theorem foldE_len : ∀ (l out : List En), AscE out → (l.foldl insE out).length ≤ out.length + l.length
  | [], out, _ => Nat.le_refl _
  | x :: r, out, h => by
    have h1 := foldE_len r (insE out x) (asc_insE x h)
    have h2 := insE_len h x
    rw [List.foldl_cons, List.length_cons]
    split at h2 <;> omega
theorem foldE_take_len (l : List En) (k : Nat) : (foldE (l.take k)).length ≤ k := by
  have := foldE_len (l.take k) [] List.Pairwise.nil
  have h2 := List.length_take_le k l
  simp at this; unfold foldE; omega
theorem take_snoc {l : List En} {k : Nat} {x : En} (h : l[k]? = some x) : l.take (k + 1) = l.take k ++ [x] := by
  have hlt := (List.getElem?_eq_some_iff.1 h).1
  rw [List.take_succ_eq_append_getElem hlt, (List.getElem?_eq_some_iff.1 h).2]
def allV (l : List En) : Bool := l.all (fun x => V x.1)
def OfPost (w : World) (l : List En) : Ending → World → Prop := fun en w' =>
  if allV l = true then ∃ t gs, en = .returned (.tuple #[t, .int .i64 0]) ∧ TrieR w' t (foldE l) gs ∧ (∀ g ∈ gs, w.heap.size ≤ g) ∧ Below w.heap.size w w'
  else en = .returned (.tuple #[.pointer none, .int .i64 1]) ∧ Below w.heap.size w w'
/-- entries whose numbers fit -/
def Fit (l : List En) : Prop := ∀ x ∈ l, x.1.1 < 4294967296 ∧ I64 x.1.2
theorem carry' {B : Nat} {W w1 : World} {b o : Nat} {v : Value} (hb : Below B W w1) (hlt : b < B) (h : W.cell? ⟨b, o, none⟩ = some v) : w1.cell? ⟨b, o, none⟩ = some v := (hb.cell (p := ⟨b, o, none⟩) hlt).trans h
theorem of_any (l : List En) (v : Value) (w : World) (hl : l.length ≤ 900) (hf : Fit l) (hr : RdE w v l) :
    Calls Try.prog 87 #[v] w (OfPost w l) := by
  obtain ⟨ad, cap, rfl, hc⟩ := hr
  have HC : Hid (∀ k x, l[k]? = some x → ∃ b off, ad = some ⟨b, off, none⟩ ∧ b < w.heap.size ∧ w.cell? ⟨b, off + k * 3, none⟩ = some (.int .u32 (x.1.1 : Int)) ∧ w.cell? ⟨b, off + k * 3 + 1, none⟩ = some (.int .i64 x.1.2) ∧ w.cell? ⟨b, off + k * 3 + 2, none⟩ = some (.int .i64 x.2)) := hc
  have HF := Lib.hid hf
  clear hc hf
  go_enter Try.func87, Try.ntmps87
  go_wp2_with (go_at_call 41; refine (new_any _).mono ?_; rintro e w0 ⟨t, gs0, rfl, hT0, hgs0, hb0⟩; have T0 := Lib.hid hT0; have G0 := Lib.hid hgs0; have B0 := Lib.hid hb0; obtain ⟨gt, rfl, -⟩ := hT0.ptr; clear hT0 hgs0 hb0)
  go_loopg [12] l.length (fun g s12 wr => ∃ (k : Nat) (gs : List Nat), k ≤ l.length ∧ l.length - k ≤ g ∧ s12 = .int .i64 k ∧ allV (l.take k) = true ∧ TrieR wr (.pointer (some ⟨gt, 0, none⟩)) (foldE (l.take k)) gs ∧ (∀ g ∈ gs, w.heap.size ≤ g) ∧ Below w.heap.size w wr)
  case atStart => exact ⟨0, gs0, by omega, by omega, rfl, rfl, T0.out, G0.out, B0.out⟩
  case round =>
    obtain ⟨k, gs, hk, hg, rfl, hV, hT, hgs, hbw⟩ := hrel
    have HT := Lib.hid hT
    have HG := Lib.hid hgs
    have HB := Lib.hid hbw
    have HV := Lib.hid hV
    have HL := Lib.hid (foldE_take_len l k)
    clear hT hgs hbw hV
    by_cases hlt : k < l.length
    · obtain ⟨x, hx⟩ : ∃ x, l[k]? = some x := ⟨_, List.getElem?_eq_getElem hlt⟩
      obtain ⟨blk, off, rfl, hblk, hc0, hc1, hc2⟩ := HC.out k x hx
      have HX := Lib.hid hx
      have hfx := HF.out x (List.mem_of_getElem? hx)
      have f0 := carry' HB.out hblk hc0
      have f1 := carry' HB.out hblk hc1
      have f2 := carry' HB.out hblk hc2
      have HM : Hid (allV l = true → V x.1 = true) := fun h => List.all_eq_true.1 h x (List.mem_of_getElem? hx)
      clear hc0 hc1 hc2 hx
      obtain ⟨⟨a, n⟩, y⟩ := x
      obtain ⟨hfa, hfn⟩ := hfx
      dsimp only at hfa hfn f0 f1 f2
      cases hv : V (a, n)
      · have HVF := Lib.hid hv
        clear hv
        go_wp2_with (go_at_call 42; refine (tput_bad gt (a, n) hfa hfn y HVF.out _).mono ?_; rintro e w1 ⟨rfl, hb1⟩; have B1 := Lib.hid hb1; clear hb1)
        go_ret2
        have hno : ¬ allV l = true := fun h => by have := HM.out h; rw [HVF.out] at this; cases this
        unfold OfPost
        rw [if_neg hno]
        exact ⟨rfl, below_then (below_then HB.out (below_alloc _ _)) B1.out⟩
      · have HVF := Lib.hid hv
        clear hv
        go_wp2_with (go_at_call 42; refine (tput_any _ (foldE (l.take k)) gs _ ((a, n), y) ⟨hfa, HVF.out⟩ (HT.out.below (below_alloc _ _)) (by have := HL.out; omega)).mono ?_; rintro e w1 ⟨gs1, rfl, hT1, hg1, hk1⟩; have T1 := Lib.hid hT1; have G1 := Lib.hid hg1; have K1 := Lib.hid hk1; clear hT1 hg1 hk1)
        go_roundg (l.length - (k + 1))
        case measure => omega
        case rel =>
          refine ⟨k + 1, gs1, by omega, Nat.le_refl _, by go_num, ?_, ?_, ?_, ?_⟩
          · rw [take_snoc HX.out]; unfold allV; rw [List.all_append]; have := HV.out; unfold allV at this; rw [this]; simp; exact HVF.out
          · rw [take_snoc HX.out, foldE_snoc]; exact T1.out
          · intro g hg
            have hs := HB.out.size
            rcases G1.out g hg with h | h
            · exact HG.out g h
            · simp at h; omega
          · exact (HB.out.alloc HB.out.size _).trans (K1.out.below (by have := HB.out.size; simp; omega) HG.out)
    · have hkl : k = l.length := by omega
      subst hkl
      go_wp2
      go_ret2
      have hv := HV.out
      have ht := HT.out
      rw [List.take_length] at hv ht
      unfold OfPost
      rw [if_pos hv]
      exact ⟨_, gs, rfl, ht, HG.out, HB.out⟩
theorem of_yes (l : List En) (v : Value) (w : World) (hl : l.length ≤ 900) (hf : Fit l) (hr : RdE w v l) (hv : allV l = true) :
    Calls Try.prog 87 #[v] w fun en w' => ∃ t gs, en = .returned (.tuple #[t, .int .i64 0]) ∧ TrieR w' t (foldE l) gs ∧ (∀ g ∈ gs, w.heap.size ≤ g) ∧ Below w.heap.size w w' :=
  (of_any l v w hl hf hr).mono fun en w' h => by unfold OfPost at h; rw [if_pos hv] at h; exact h
theorem of_no (l : List En) (v : Value) (w : World) (hl : l.length ≤ 900) (hf : Fit l) (hr : RdE w v l) (hv : allV l = false) :
    Calls Try.prog 87 #[v] w fun en w' => en = .returned (.tuple #[.pointer none, .int .i64 1]) ∧ Below w.heap.size w w' :=
  (of_any l v w hl hf hr).mono fun en w' h => by unfold OfPost at h; rw [if_neg (by rw [hv]; decide)] at h; exact h
end Go.Proofs.Ytegponbmelgngaa
end

section
namespace Go.Proofs.Ytegponbmelgngaa
set_option linter.unusedSimpArgs false
set_option linter.unusedVariables false

theorem vld_32 (a : Nat) : vld a 32 = true := by
  unfold vld; simp; rw [low_in (by decide) (by decide)]; exact M.keepN_all a
theorem C_con {p : PP} (a : Nat) (h : V p = true) : C p (a, 32) = con p.1 p.2 a := by
  have i := (V_iff p).1 h
  unfold C; exact cov_in (vld_32 a) i.2.1
theorem filter_ins_no {l : List En} {x : En} {f : PP → Bool} (h : f x.1 = false) (ha : AscE l) : (insE l x).filter (fun y => f y.1) = l.filter (fun y => f y.1) := by
  refine asc_ext (asc_filter _ (asc_insE x ha)) (asc_filter _ ha) fun y => ?_
  rw [List.mem_filter, List.mem_filter, mem_insE]
  constructor
  · rintro ⟨rfl | ⟨h1, h2⟩, h3⟩
    · rw [h] at h3; cases h3
    · exact ⟨h1, h3⟩
  · rintro ⟨h1, h3⟩
    exact ⟨.inr ⟨h1, fun e => by rw [e, h] at h3; cases h3⟩, h3⟩
theorem filter_ins_yes {l : List En} {x : En} {f : PP → Bool} (h : f x.1 = true) (ha : AscE l) : (insE l x).filter (fun y => f y.1) = insE (l.filter (fun y => f y.1)) x := by
  refine asc_ext (asc_filter _ (asc_insE x ha)) (asc_insE x (asc_filter _ ha)) fun y => ?_
  rw [List.mem_filter, mem_insE, mem_insE, List.mem_filter]
  constructor
  · rintro ⟨rfl | ⟨h1, h2⟩, h3⟩
    · exact .inl rfl
    · exact .inr ⟨⟨h1, h3⟩, h2⟩
  · rintro (rfl | ⟨⟨h1, h3⟩, h2⟩)
    · exact ⟨.inl rfl, h⟩
    · exact ⟨.inr ⟨h1, h2⟩, h3⟩
theorem last_of {l : List En} (ha : AscE l) {x : En} (hx : x ∈ l) (hm : ∀ y ∈ l, y = x ∨ ltP y.1 x.1) : lastOf l = x := by
  rcases lastOf_max ha x hx with h | h
  · exact h.symm
  · have hne : l.isEmpty = false := by cases l; cases hx; rfl
    rcases hm _ (lastOf_mem hne) with h2 | h2
    · exact h2
    · exact absurd (ltP_trans h h2) (ltP_irrefl _)
def stepB (a : Nat) (s : En × Bool) (x : En) : En × Bool := if con x.1.1 x.1.2 a = true ∧ (s.2 = false ∨ s.1.1.2 ≤ x.1.2) then (x, true) else s
def bestOf (a : Nat) (l : List En) : En × Bool := l.foldl (stepB a) (((0, 0), 0), false)
theorem bestOf_snoc (a : Nat) (l : List En) (x : En) : bestOf a (l ++ [x]) = stepB a (bestOf a l) x := by unfold bestOf; rw [List.foldl_append]; rfl
def upon (a : Nat) (l : List En) : List En := (foldE l).filter (fun x => C x.1 (a, 32))
theorem foldE_mem_V {l : List En} (h : allV l = true) : ∀ x ∈ foldE l, V x.1 = true := by
  have key : ∀ (l out : List En), (∀ x ∈ l, V x.1 = true) → (∀ x ∈ out, V x.1 = true) → ∀ x ∈ l.foldl insE out, V x.1 = true := by
    intro l
    induction l with
    | nil => exact fun out _ h => h
    | cons y r ih => exact fun out h1 h2 => ih _ (fun x hx => h1 x (by simp [hx])) (fun x hx => by
        rcases mem_insE.1 hx with rfl | ⟨hx, _⟩
        · exact h1 x (by simp)
        · exact h2 x hx)
  exact key l [] (fun x hx => List.all_eq_true.1 h x hx) (fun x hx => by cases hx)
theorem bestOf_step {a : Nat} {l : List En} {x : En} (hV : allV (l ++ [x]) = true) (ih : bestOf a l = (lastOf (upon a l), !(upon a l).isEmpty)) : bestOf a (l ++ [x]) = (lastOf (upon a (l ++ [x])), !(upon a (l ++ [x])).isEmpty) := by
  have hx : V x.1 = true := List.all_eq_true.1 hV x (by simp)
  have hl : allV l = true := List.all_eq_true.2 fun y hy => List.all_eq_true.1 hV y (by simp [hy])
  have ha := foldE_asc l
  have hF : AscE (upon a l) := asc_filter _ ha
  rw [bestOf_snoc, ih]
  unfold stepB
  have hcc := C_con a hx
  cases hc : con x.1.1 x.1.2 a
  · rw [if_neg (by simp)]
    have : upon a (l ++ [x]) = upon a l := by unfold upon; rw [foldE_snoc]; exact filter_ins_no (f := fun p => C p (a, 32)) (by rw [hcc, hc]) ha
    rw [this]
  · have e : upon a (l ++ [x]) = insE (upon a l) x := by unfold upon; rw [foldE_snoc]; exact filter_ins_yes (f := fun p => C p (a, 32)) (by rw [hcc, hc]) ha
    have hne : (upon a (l ++ [x])).isEmpty = false := by
      rw [e]; unfold insE; cases (upon a l).filter (fun y => decide (ltP y.1 x.1)) <;> rfl
    have hxm : x ∈ upon a (l ++ [x]) := by rw [e]; exact mem_insE.2 (.inl rfl)
    have hasc : AscE (upon a (l ++ [x])) := by rw [e]; exact asc_insE x hF
    have hCx : C x.1 (a, 32) = true := by rw [hcc, hc]
    cases hemp : (upon a l).isEmpty
    · have hb := lastOf_mem hemp
      have hbC : C (lastOf (upon a l)).1 (a, 32) = true := (List.mem_filter.1 hb).2
      by_cases hlen : (lastOf (upon a l)).1.2 ≤ x.1.2
      · rw [if_pos ⟨rfl, .inr hlen⟩, hne]
        have hcov : C (lastOf (upon a l)).1 x.1 = true := by
          rcases C_nest hbC hCx with h | h
          · exact h
          · have := (C_V h).2.2.1
            rw [C_len h (by omega)]; exact C_refl ((C_V h).2.1)
        have : lastOf (upon a (l ++ [x])) = x := last_of hasc hxm fun y hy => by
          rw [e] at hy
          rcases mem_insE.1 hy with rfl | ⟨hy, hny⟩
          · exact .inl rfl
          · right
            have h1 : y.1 = (lastOf (upon a l)).1 ∨ ltP y.1 (lastOf (upon a l)).1 := (lastOf_max hF y hy).imp (congrArg Prod.fst) id
            have h2 : (lastOf (upon a l)).1 = x.1 ∨ ltP (lastOf (upon a l)).1 x.1 := by
              by_cases hh : (lastOf (upon a l)).1 = x.1
              · exact .inl hh
              · exact .inr (C_lt hcov (C_strict hcov hh))
            rcases h1 with h1 | h1 <;> rcases h2 with h2 | h2
            · exact absurd (h1.trans h2) hny
            · rw [h1]; exact h2
            · rw [← h2]; exact h1
            · exact ltP_trans h1 h2
        rw [this]; rfl
      · rw [if_neg (by rintro ⟨_, h | h⟩; cases h; exact hlen h), hne]
        have hcov : C x.1 (lastOf (upon a l)).1 = true := by
          rcases C_nest hbC hCx with h | h
          · have := (C_V h).2.2.1; omega
          · exact h
        have hlt : ltP x.1 (lastOf (upon a l)).1 := C_lt hcov (by omega)
        have : lastOf (upon a (l ++ [x])) = lastOf (upon a l) := last_of hasc (by rw [e]; exact mem_insE.2 (.inr ⟨hb, fun h => ltP_ne hlt h.symm⟩)) fun y hy => by
          rw [e] at hy
          rcases mem_insE.1 hy with rfl | ⟨hy, _⟩
          · exact .inr hlt
          · exact lastOf_max hF y hy
        rw [this]
    · rw [if_pos ⟨rfl, .inl rfl⟩, hne]
      have hnil : upon a l = [] := List.isEmpty_iff.1 hemp
      have : lastOf (upon a (l ++ [x])) = x := by rw [e, hnil]; rfl
      rw [this]; rfl
theorem bestOf_eq (a : Nat) (l : List En) : ∀ k, allV (l.take k) = true → bestOf a (l.take k) = (lastOf (upon a (l.take k)), !(upon a (l.take k)).isEmpty)
  | 0, _ => rfl
  | k + 1, h => by
    cases hx : l[k]? with
    | none =>
      have hle := List.getElem?_eq_none_iff.1 hx
      rw [List.take_of_length_le (by omega)] at h ⊢
      have := bestOf_eq a l k (by rw [List.take_of_length_le hle]; exact h)
      rwa [List.take_of_length_le hle] at this
    | some x =>
      rw [take_snoc hx] at h ⊢
      exact bestOf_step h (bestOf_eq a l k (List.all_eq_true.2 fun y hy => List.all_eq_true.1 h y (by simp [hy])))
end Go.Proofs.Ytegponbmelgngaa
end
