/-
  The queue's methods: Len, Key, Min, Set, Drop, Pop.
-/
import Derived.Test.YtmlpbhankgojpaaHpD
namespace Go.Proofs.Ytmlpbhankgojpaa
open Go.RowKit HM
set_option linter.unusedSimpArgs false
set_option linter.unusedVariables false
set_option maxHeartbeats 4000000
set_option maxRecDepth 100000

def cntB (ins : List Bool) : Nat := ins.countP (fun b => b)
theorem cnt_nn (pl : List Int) : HM.cnt pl = cntB (nn pl) := by unfold HM.cnt cntB nn; rw [List.countP_map]; rfl
def IsMin (n : Nat) (ins : List Bool) (keys : List Int) (x : Nat) : Prop := x < n ∧ gB ins x = true ∧ ∀ y, y < n → gB ins y = true → ¬ lt (gI keys) y x
theorem isMin_unique {n : Nat} {ins : List Bool} {keys : List Int} {x y : Nat} (h : IsMin n ins keys x) (k : IsMin n ins keys y) : x = y := by
  rcases lt_tri (gI keys) x y with e | e | e
  · exact absurd e (k.2.2 x h.1 h.2.1)
  · exact e
  · exact absurd e (h.2.2 y k.1 k.2.1)
theorem HeapR.len {w : World} {hb n : Nat} {ins : List Bool} {keys : List Int} {gs : List Nat} (h : HeapR w hb n ins keys gs) : ins.length = n ∧ keys.length = n ∧ n ≤ 65536 := by
  obtain ⟨vi, P, K, its, pl, h1, h2, _, rfl, _, h5⟩ := h
  exact ⟨by rw [nn_len]; exact h2.len, h1.lenk, h5⟩
theorem cntB_pos {ins : List Bool} (h : 0 < cntB ins) : ∃ x, x < ins.length ∧ gB ins x = true := by
  unfold cntB at h
  obtain ⟨b, hb, hp⟩ := List.countP_pos_iff.1 h
  obtain ⟨x, hx⟩ := List.getElem?_of_mem hb
  exact ⟨x, (List.getElem?_eq_some_iff.1 hx).1, by unfold gB; rw [hx]; exact hp⟩
theorem cntB_zero {ins : List Bool} (h : cntB ins = 0) (x : Nat) : gB ins x = false := by
  unfold cntB at h
  rw [List.countP_eq_zero] at h
  unfold gB
  cases e : ins[x]? with
  | none => rfl
  | some b => have := h b (List.mem_of_getElem? e); simpa using this
theorem len_any (w : World) (hb n : Nat) (ins : List Bool) (keys : List Int) (gs : List Nat) (h : HeapR w hb n ins keys gs) :
    Calls Try.prog 71 #[.pointer (some ⟨hb, 0, none⟩)] w fun e w' => e = .returned (.int .i64 (cntB ins : Int)) ∧ w = w' := by
  obtain ⟨vi, P, K, its, pl, h1, h2, h3, rfl, rfl, hn⟩ := h
  obtain ⟨ad, ci, rfl⟩ := h1.slice
  have f0 := h1.f0
  have e : its.length = cntB (nn pl) := h2.cnt.trans (cnt_nn pl)
  rw [e] at f0
  generalize cntB (nn pl) = c at *
  clear h1 h2 h3 e
  go_enter Try.func71, Try.ntmps71
  go_wp2
  go_ret
  exact ⟨rfl, rfl⟩
def KeyQ (n : Nat) (ins : List Bool) (keys : List Int) (i : Int) (k : Int) (b : Bool) : Prop := (0 ≤ i ∧ i < n ∧ gB ins i.toNat = true ∧ k = gI keys i.toNat ∧ b = true) ∨ (¬ (0 ≤ i ∧ i < n ∧ gB ins i.toNat = true) ∧ k = 0 ∧ b = false)
theorem keyQ_unique {n : Nat} {ins : List Bool} {keys : List Int} {i k k' : Int} {b b' : Bool} (h : KeyQ n ins keys i k b) (h' : KeyQ n ins keys i k' b') : k = k' ∧ b = b' := by
  rcases h with ⟨a1, a2, a3, rfl, rfl⟩ | ⟨a1, rfl, rfl⟩
  · rcases h' with ⟨b1, b2, b3, rfl, rfl⟩ | ⟨b1, rfl, rfl⟩
    · exact ⟨rfl, rfl⟩
    · exact absurd ⟨a1, a2, a3⟩ b1
  · rcases h' with ⟨b1, b2, b3, rfl, rfl⟩ | ⟨b1, rfl, rfl⟩
    · exact absurd ⟨b1, b2, b3⟩ a1
    · exact ⟨rfl, rfl⟩
/-- what has says of whatever number -/
theorem has_any (w : World) (hb P K n : Nat) (vi : Value) (its : List Nat) (pl keys : List Int) (h1 : HS w hb vi P K n its pl keys) (i : Int) :
    Calls Try.prog 69 #[.pointer (some ⟨hb, 0, none⟩), .int .i64 i] w fun e w' => ∃ b : Bool, e = .returned (.bool b) ∧ (b = true ↔ (0 ≤ i ∧ i < n ∧ gB (nn pl) i.toNat = true)) ∧ w = w' := by
  by_cases h : i < 0
  · exact (has_lo w hb i h).mono fun e w' ⟨a, b⟩ => ⟨false, a, by simp; omega, b⟩
  · by_cases h' : (n : Int) ≤ i
    · exact (has_hi w hb _ P K n its pl keys h1 i h').mono fun e w' ⟨a, b⟩ => ⟨false, a, by simp; omega, b⟩
    · obtain ⟨x, rfl⟩ : ∃ x : Nat, i = x := ⟨i.toNat, by omega⟩
      have hx : x < n := by omega
      refine (has_in w hb _ P K n its pl keys h1 x hx).mono fun e w' ⟨a, b⟩ => ⟨_, a, ?_, b⟩
      have hl := h1.lenp
      rw [Int.toNat_natCast, nn_get (by omega)]
      constructor
      · intro h; exact ⟨by omega, by omega, h⟩
      · exact fun h => h.2.2
theorem min_none (w : World) (hb n : Nat) (ins : List Bool) (keys : List Int) (gs : List Nat) (h : HeapR w hb n ins keys gs) (h0 : cntB ins = 0) :
    Calls Try.prog 61 #[.pointer (some ⟨hb, 0, none⟩)] w fun e w' => e = .returned (.tuple #[.int .i64 0, .int .i64 0, .bool false]) ∧ w = w' := by
  have HL : Hid (Calls Try.prog 71 #[.pointer (some ⟨hb, 0, none⟩)] w fun e w' => e = .returned (.int .i64 0) ∧ w = w') := by
    have := len_any w hb n ins keys gs h
    rwa [h0] at this
  clear h h0
  go_enter Try.func61, Try.ntmps61
  go_wp2_with (go_at_call 71; refine HL.out.mono ?_; rintro e w1 ⟨rfl, rfl⟩)
  go_ret3
  exact ⟨rfl, rfl⟩
theorem min_some (w : World) (hb n : Nat) (ins : List Bool) (keys : List Int) (gs : List Nat) (h : HeapR w hb n ins keys gs) (h0 : cntB ins ≠ 0) :
    Calls Try.prog 61 #[.pointer (some ⟨hb, 0, none⟩)] w fun e w' => ∃ x : Nat, e = .returned (.tuple #[.int .i64 (x : Int), .int .i64 (gI keys x), .bool true]) ∧ IsMin n ins keys x ∧ ∃ q, w' = w.drewN q := by
  have HL := Lib.hid (len_any w hb n ins keys gs h)
  obtain ⟨vi, P, K, its, pl, h1, h2, h3, rfl, rfl, hn⟩ := h
  have e : its.length = cntB (nn pl) := h2.cnt.trans (cnt_nn pl)
  obtain ⟨I, ci, rfl, hci, _⟩ := h1.form (by omega)
  obtain ⟨L, hL⟩ : ∃ L, its.length = L + 1 := ⟨its.length - 1, by omega⟩
  rw [← e, hL] at HL
  have f0 := h1.f0
  rw [hL] at f0
  have c0 := h1.cellI rfl (x := 0) (by omega)
  have hx := (h2.at' 0 (by omega)).1
  have hy := (h2.at' 0 (by omega)).2
  have f2 := h1.f2
  have ck := h1.ck hx
  have HM : Hid (IsMin n (nn pl) keys (gN its 0)) := by
    refine ⟨hx, by rw [nn_get (by rw [h2.len]; exact hx)]; simp; omega, fun y hy hb => ?_⟩
    rw [nn_get (by rw [h2.len]; exact hy)] at hb
    obtain ⟨p, hp, _, rfl⟩ := h2.lt_len hy (by simpa using hb)
    exact ok_min h3 p hp
  have hle := h2.le
  have L0 : (0 : Int) < (L : Int) + 1 := by omega
  clear h1 h2 h3 e hy h0 hL hci
  generalize hX : gN its 0 = x at *
  clear hX
  have x0 : (0 : Int) ≤ (x : Int) := by omega
  have x1 : (x : Int) < (n : Int) := by omega
  generalize hk : gI keys x = k at *
  have HK := Lib.hid hk
  clear hk
  go_enter Try.func61, Try.ntmps61
  go_wp2_with (go_at_call 71; refine HL.out.mono ?_; rintro e w1 ⟨rfl, rfl⟩)
  go_quiet (fail)
  go_wp2
  go_ret3
  exact ⟨x, by rw [HK.out]; rfl, HM.out, ⟨_, rfl⟩⟩
theorem set_out (w : World) (hb n : Nat) (ins : List Bool) (keys : List Int) (gs : List Nat) (h : HeapR w hb n ins keys gs) (i k : Int) (hi : ¬ (0 ≤ i ∧ i < n)) :
    Calls Try.prog 48 #[.pointer (some ⟨hb, 0, none⟩), .int .i64 i, .int .i64 k] w fun e w' => e = .returned (.bool false) ∧ w = w' := by
  obtain ⟨vi, P, K, its, pl, h1, h2, h3, rfl, rfl, hn⟩ := h
  have f2 := h1.f2
  clear h1 h2 h3
  by_cases h : i < 0
  · clear hi
    go_enter Try.func48, Try.ntmps48
    go_wp2
    go_ret
    exact ⟨rfl, rfl⟩
  · have h' : (n : Int) ≤ i := by omega
    have hd : decide (i < 0) = false := decide_eq_false h
    clear hi
    go_enter Try.func48, Try.ntmps48
    go_wp2
    go_ret
    exact ⟨rfl, rfl⟩
theorem set_in (w : World) (hb n : Nat) (ins : List Bool) (keys : List Int) (gs : List Nat) (h : HeapR w hb n ins keys gs) (x : Nat) (k : Int) (hx : x < n) :
    Calls Try.prog 48 #[.pointer (some ⟨hb, 0, none⟩), .int .i64 (x : Int), .int .i64 k] w fun e w' => e = .returned (.bool true) ∧ Put w hb n (ins.set x true) (keys.set x k) gs w' := by
  obtain ⟨vi, P, K, its, pl, h1, h2, h3, rfl, rfl, hn⟩ := h
  have f2 := h1.f2
  have ck := h1.ck hx
  have zk := h1.fk x
  have hlk := h1.lenk
  have hs := h1.setK x k
  have HP : Hid (Calls Try.prog 59 #[.pointer (some ⟨hb, 0, none⟩), .int .i64 (x : Int), .func (.func 60) #[.pointer (some ⟨hb, 0, none⟩)] #[]] (w.setCell ⟨K, x, none⟩ (.int .i64 k)) fun e w' => e = .returned (.tuple #[]) ∧ Put (w.setCell ⟨K, x, none⟩ (.int .i64 k)) hb n ((nn pl).set x true) (keys.set x k) (hb :: P :: K :: vblk vi) w') :=
    put_any _ hb P K n vi its pl (keys.set x k) (gI keys) hs h2 h3 hn x hx (fun y hy => by rw [gI_set (by omega), if_neg hy])
  have x0 : (0 : Int) ≤ (x : Int) := by omega
  have x0' : ¬ (x : Int) < 0 := by omega
  have x1 : (x : Int) < (n : Int) := by omega
  have x1' : ¬ (n : Int) ≤ (x : Int) := by omega
  have xd : decide ((x : Int) < 0) = false := decide_eq_false x0'
  have xe : decide (n ≤ x) = false := decide_eq_false (by omega)
  clear h1 h2 h3 hs hlk
  generalize gI keys x = ko at ck
  go_enter Try.func48, Try.ntmps48
  go_wp2_with (go_at_call 59; refine HP.out.mono ?_; rintro e w1 ⟨rfl, hp⟩; have H := Lib.hid hp; clear hp)
  go_ret
  obtain ⟨gs', p1, p2, p3⟩ := H.out
  exact ⟨rfl, gs', p1, fun k hk => by simpa using p2 k hk, ((Kp.refl _ w).setCell (.inl (by simp))).trans p3 (fun g hg => .inl hg)⟩
theorem drop_out (w : World) (hb n : Nat) (ins : List Bool) (keys : List Int) (gs : List Nat) (h : HeapR w hb n ins keys gs) (i : Int) (hi : ¬ (0 ≤ i ∧ i < n ∧ gB ins i.toNat = true)) :
    Calls Try.prog 62 #[.pointer (some ⟨hb, 0, none⟩), .int .i64 i] w fun e w' => e = .returned (.bool false) ∧ w = w' := by
  obtain ⟨vi, P, K, its, pl, h1, h2, h3, rfl, rfl, hn⟩ := h
  have HH := Lib.hid (has_any w hb P K n vi its pl keys h1 i)
  have HH2 : Hid (Calls Try.prog 69 #[.pointer (some ⟨hb, 0, none⟩), .int .i64 i] w fun e w' => e = .returned (.bool false) ∧ w = w') := HH.out.mono fun e w' ⟨b, a, c, d⟩ => ⟨by rw [a, show b = false by cases b; rfl; exact absurd (c.1 rfl) hi], d⟩
  clear h1 h2 h3 HH hi
  go_enter Try.func62, Try.ntmps62
  go_wp2_with (go_at_call 69; refine HH2.out.mono ?_; rintro e w1 ⟨rfl, rfl⟩)
  go_ret
  exact ⟨rfl, rfl⟩
theorem drop_in (w : World) (hb n : Nat) (ins : List Bool) (keys : List Int) (gs : List Nat) (h : HeapR w hb n ins keys gs) (x : Nat) (hx : x < n) (hi : gB ins x = true) :
    Calls Try.prog 62 #[.pointer (some ⟨hb, 0, none⟩), .int .i64 (x : Int)] w fun e w' => e = .returned (.bool true) ∧ Put w hb n (ins.set x false) keys gs w' := by
  obtain ⟨vi, P, K, its, pl, h1, h2, h3, rfl, rfl, hn⟩ := h
  have hp : 0 ≤ gI pl x := by rw [nn_get (by rw [h2.len]; exact hx)] at hi; simpa using hi
  have HH2 : Hid (Calls Try.prog 69 #[.pointer (some ⟨hb, 0, none⟩), .int .i64 (x : Int)] w fun e w' => e = .returned (.bool true) ∧ w = w') := by
    have := has_in w hb _ P K n its pl keys h1 x hx
    rwa [decide_eq_true hp] at this
  have HD := Lib.hid (drop_any w hb P K n vi its pl keys h1 h2 h3 hn x hx hp)
  clear h1 h2 h3 hi hp
  go_enter Try.func62, Try.ntmps62
  go_wp2_with (first
    | (go_at_call 69; refine HH2.out.mono ?_; rintro e w1 ⟨rfl, rfl⟩)
    | (go_at_call 72; refine HD.out.mono ?_; rintro e w1 ⟨rfl, hp⟩; have H := Lib.hid hp; clear hp))
  go_ret
  exact ⟨rfl, H.out⟩
theorem pop_none (w : World) (hb n : Nat) (ins : List Bool) (keys : List Int) (gs : List Nat) (h : HeapR w hb n ins keys gs) (h0 : cntB ins = 0) :
    Calls Try.prog 49 #[.pointer (some ⟨hb, 0, none⟩)] w fun e w' => e = .returned (.tuple #[.int .i64 0, .int .i64 0, .bool false]) ∧ w = w' := by
  have HM := Lib.hid (min_none w hb n ins keys gs h h0)
  clear h h0
  go_enter Try.func49, Try.ntmps49
  go_wp2_with (go_at_call 61; refine HM.out.mono ?_; rintro e w1 ⟨rfl, rfl⟩)
  go_ret3
  exact ⟨rfl, rfl⟩
def PopQ (w : World) (hb n : Nat) (ins : List Bool) (keys : List Int) (gs : List Nat) (e : Ending) (w' : World) : Prop := ∃ x : Nat, e = .returned (.tuple #[.int .i64 (x : Int), .int .i64 (gI keys x), .bool true]) ∧ IsMin n ins keys x ∧ Put w hb n (ins.set x false) keys gs w'
theorem Put.undrewN {w : World} {hb n : Nat} {ins : List Bool} {keys : List Int} {gs : List Nat} {w' : World} {q : Nat} (h : Put (w.drewN q) hb n ins keys gs w') : Put w hb n ins keys gs w' := by
  obtain ⟨gs', a, b, c⟩ := h
  exact ⟨gs', a, b, c.undrewN⟩
theorem pop_some (w : World) (hb n : Nat) (ins : List Bool) (keys : List Int) (gs : List Nat) (h : HeapR w hb n ins keys gs) (h0 : cntB ins ≠ 0) :
    Calls Try.prog 49 #[.pointer (some ⟨hb, 0, none⟩)] w (PopQ w hb n ins keys gs) := by
  have HM := Lib.hid (min_some w hb n ins keys gs h h0)
  have HD : Hid (∀ q x, IsMin n ins keys x → Calls Try.prog 62 #[.pointer (some ⟨hb, 0, none⟩), .int .i64 (x : Int)] (w.drewN q) fun e w' => e = .returned (.bool true) ∧ Put w hb n (ins.set x false) keys gs w') := fun q x hx =>
    (drop_in (w.drewN q) hb n ins keys gs (h.congr fun _ _ => rfl) x hx.1 hx.2.1).mono fun e w' ⟨a, b⟩ => ⟨a, b.undrewN⟩
  clear h h0
  go_enter Try.func49, Try.ntmps49
  go_wp2_with fail
  go_at_call 61
  refine HM.out.mono ?_
  rintro e w1 ⟨x, rfl, hm, q, rfl⟩
  have HX := Lib.hid hm
  have HD2 := Lib.hid (HD.out q x hm)
  clear hm HM HD
  generalize hk : gI keys x = k
  have HK := Lib.hid hk
  clear hk
  go_wp2_with (go_at_call 62; refine HD2.out.mono ?_; rintro e w1 ⟨rfl, hp⟩; have H := Lib.hid hp; clear hp)
  go_ret3
  exact ⟨x, by rw [HK.out]; rfl, HX.out, H.out⟩
end Go.Proofs.Ytmlpbhankgojpaa
