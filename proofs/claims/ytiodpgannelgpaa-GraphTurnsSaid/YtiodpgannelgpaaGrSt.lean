/-
  The walks of the library's stable sort at edges.
-/
import Derived.Test.YtiodpgannelgpaaGrCk
import Derived.Test.YtiodpgannelgpaaGrSg
import Derived.Test.YtiodpgannelgpaaGrT
namespace Go.Proofs.Ytiodpgannelgpaa
open Go.RowKit GM Go.Sort Go.Lib
set_option linter.unusedSimpArgs false
set_option linter.unusedVariables false
set_option maxHeartbeats 1500000
set_option maxRecDepth 100000

theorem cmpLaysO (blk off size : Nat) (w : World) : CmpLays Try.prog 51 #[] encE 3 ordC blk off size w := fun _ _ _ _ x y => order_any x y _
theorem insertion_any (blk cap : Nat) (d0 : Array E) (w0 : World) (R : RowK encE 3 w0 blk 0 d0) (hsz : d0.size < 1152921504606846976)
    (A u C : List E) (d : Array E) (W : World) (a b : Nat) (hd : d.toList = A ++ (u ++ C)) (hs : d.size = d0.size) (S : SW w0 blk d W) (ha : a = A.length) (hb : b = a + u.length) :
    Calls Try.prog 114 #[.slice (some ⟨blk, 0, none⟩) d0.size cap, .int .i64 a, .int .i64 b, .func (.func 51) #[] #[]] W fun e w' => e = .returned (.tuple #[]) ∧ ∃ (d' : Array E) (z : List E), d'.toList = A ++ (z ++ C) ∧ SrtE z ∧ Stb u z ∧ z.length = u.length ∧ d'.size = d0.size ∧ SW w0 blk d' w' := by
  have hl := arr_len hd
  simp only [List.length_append] at hl
  have eg : ∀ args w, (callFunc 51 args).run Try.prog w = .ok (.enter 51 args) w := enters_of Try.func51 (by kernel_rfl) rfl
  have h := AnyQ.insertionSortCmpFunc (P := Try.prog) (ρ := Try.sortE_ren) { Try.sortE with } 3 Try.isAgg52 Try.sizeOf52 encE encE_len encE_one ordC 51 #[] blk 0 cap a b d W eg (cmpLaysO blk 0 _ W) (S.holds R.hblk R.hH hs) (S.lt R.hblk) (by omega) (by omega) (by omega)
  rw [hs] at h
  refine h.mono ?_
  rintro e w' ⟨rfl, n, os, rfl⟩
  rw [ltOf_ordC]
  obtain ⟨z, z1, z2, z3, z4, z5⟩ := insertion_list hd ha hb
  exact ⟨rfl, _, z, z1, z2, z3, z4, z5.trans hs, S.on R.hblk _ _ _ z5⟩
theorem stable_any (blk cap : Nat) (d0 : Array E) (w0 : World) (R : RowK encE 3 w0 blk 0 d0) (hsz : d0.size < 1152921504606846976) :
    Calls Try.prog 93 #[.slice (some ⟨blk, 0, none⟩) d0.size cap, .int .i64 d0.size, .func (.func 51) #[] #[]] w0 fun e w' => e = .returned (.tuple #[]) ∧ ∃ d' : Array E, SrtE d'.toList ∧ Stb d0.toList d'.toList ∧ d'.size = d0.size ∧ SW w0 blk d' w' := by
  have HIN := Lib.hid (insertion_any blk cap d0 w0 R hsz)
  have HMG := Lib.hid (merge_any blk cap d0 w0 R hsz)
  have S0 : Hid (SW w0 blk d0 w0) := SWK.start R.hH
  obtain ⟨l0, hl0⟩ : ∃ l0, l0 = d0.toList := ⟨_, rfl⟩
  rw [← hl0]
  obtain ⟨n, hn⟩ : ∃ n, n = d0.size := ⟨_, rfl⟩
  rw [← hn] at HIN HMG hsz ⊢
  have HL0 : Hid (d0.toList = l0 ∧ d0.size = n ∧ l0.length = n) := ⟨hl0.symm, hn.symm, by rw [hl0, hn]; simp⟩
  clear hl0 hn R
  go_enter Try.func93, Try.ntmps93
  go_wp2_with fail
  go_loopg [7, 8] n (fun g s7 s8 wr => ∃ (a b : Nat) (A B : List E) (d : Array E), s7 = .int .i64 a ∧ s8 = .int .i64 b ∧ b ≤ a + 20 ∧ a + 20 ≤ b ∧ a ≤ n ∧ n - a ≤ g ∧ Hid (d.toList = A ++ B ∧ d.size = n ∧ A.length = a ∧ A.length + B.length = n ∧ PreC 20 A ∧ Stb l0 d.toList ∧ SW w0 blk d wr))
  case atStart => exact ⟨0, 20, [], l0, d0, rfl, rfl, by omega, by omega, by omega, by omega, by rw [HL0.out.1]; rfl, HL0.out.2.1, rfl, by rw [HL0.out.2.2]; simp, PreC.nil _, by rw [HL0.out.1]; exact Stb.refl _, S0.out⟩
  case round =>
    clear S0 HL0
    obtain ⟨a, b, A, B, d, rfl, rfl, hb, hb', ha, hg, HI⟩ := hrel
    by_cases hle : b ≤ n
    · have HC : Hid (Calls Try.prog 114 #[.slice (some ⟨blk, 0, none⟩) n cap, .int .i64 a, .int .i64 b, .func (.func 51) #[] #[]] wr fun e w' => e = .returned (.tuple #[]) ∧ ∃ (d' : Array E) (A' B' : List E), d'.toList = A' ++ B' ∧ d'.size = n ∧ A'.length = b ∧ A'.length + B'.length = n ∧ PreC 20 A' ∧ Stb l0 d'.toList ∧ SW w0 blk d' w') := by
        obtain ⟨q1, q2, q3, q4, q5, q6, q7⟩ := HI.out
        have htl : (B.take 20).length = 20 := by rw [List.length_take]; omega
        refine (HIN.out A (B.take 20) (B.drop 20) d wr a b (by rw [List.take_append_drop]; exact q1) q2 q7 q3.symm (by omega)).mono ?_
        rintro e w' ⟨rfl, d', z, r1, r2, r3, r4, r5, r6⟩
        refine ⟨rfl, d', A ++ z, B.drop 20, by rw [r1]; simp, r5, by rw [List.length_append]; omega, by rw [List.length_append, List.length_drop]; omega, q5.snoc r2 (by omega), ?_, r6⟩
        refine q6.trans ?_
        rw [q1, r1]
        have := (Stb.refl A).app (r3.app (Stb.refl (B.drop 20)))
        rwa [List.take_append_drop] at this
      clear HI
      go_wp2_with (go_at_call 114; refine HC.out.mono ?_; rintro e w1 ⟨rfl, hx⟩; have HX := Lib.hid hx; clear hx)
      go_roundg (n - b)
      case measure => omega
      case rel =>
        obtain ⟨d', A', B', r⟩ := HX.out
        exact ⟨b, b + 20, A', B', d', rfl, by go_num, by omega, by omega, hle, Nat.le_refl _, r⟩
    · have HC : Hid (Calls Try.prog 114 #[.slice (some ⟨blk, 0, none⟩) n cap, .int .i64 a, .int .i64 n, .func (.func 51) #[] #[]] wr fun e w' => e = .returned (.tuple #[]) ∧ ∃ d' : Array E, Chunks 20 d'.toList ∧ d'.size = n ∧ Stb l0 d'.toList ∧ SW w0 blk d' w') := by
        obtain ⟨q1, q2, q3, q4, q5, q6, q7⟩ := HI.out
        refine (HIN.out A B [] d wr a n (by rw [List.append_nil]; exact q1) q2 q7 q3.symm (by omega)).mono ?_
        rintro e w' ⟨rfl, d', z, r1, r2, r3, r4, r5, r6⟩
        rw [List.append_nil] at r1
        refine ⟨rfl, d', ?_, r5, ?_, r6⟩
        · rw [r1]; exact q5 z (.last z r2 (by omega))
        · refine q6.trans ?_
          rw [q1, r1]
          exact (Stb.refl A).app r3
      clear HI
      go_wp2_with (go_at_call 114; refine HC.out.mono ?_; rintro e w1 ⟨rfl, hx⟩; have HX := Lib.hid hx; clear hx)
      go_loopg [6, 7, 8, 9] n (fun g s6 s7 s8 s9 wr => ∃ (bs : Nat) (d : Array E), s6 = .int .i64 bs ∧ (∃ v, v = s7) ∧ (∃ v, v = s8) ∧ (∃ v, v = s9) ∧ 0 < bs ∧ bs ≤ 2 * n + 20 ∧ n - bs ≤ g ∧ Hid (Chunks bs d.toList ∧ d.size = n ∧ Stb l0 d.toList ∧ SW w0 blk d wr))
      case atStart =>
        obtain ⟨d', r⟩ := HX.out
        exact ⟨20, d', rfl, ⟨_, rfl⟩, ⟨_, rfl⟩, ⟨_, rfl⟩, by omega, by omega, by omega, r⟩
      case round =>
        clear HX HC
        obtain ⟨bs, d, rfl, ⟨v7, rfl⟩, ⟨v8, rfl⟩, ⟨v9, rfl⟩, hbs, hbs2, hg2, HD⟩ := hrel
        by_cases hlt : bs < n
        · go_wp2_with fail
          go_loopg [7, 8] n (fun g s7 s8 wr => ∃ (a b : Nat) (A B : List E) (d : Array E), s7 = .int .i64 a ∧ s8 = .int .i64 b ∧ b ≤ a + 2 * bs ∧ a + 2 * bs ≤ b ∧ a ≤ n ∧ n - a ≤ g ∧ Hid (d.toList = A ++ B ∧ d.size = n ∧ A.length = a ∧ A.length + B.length = n ∧ PreC (2 * bs) A ∧ Chunks bs B ∧ Stb l0 d.toList ∧ SW w0 blk d wr))
          case atStart =>
            obtain ⟨q1, q2, q3, q4⟩ := HD.out
            exact ⟨0, 2 * bs, [], d.toList, d, rfl, by go_num, by omega, by omega, by omega, by omega, rfl, q2, rfl, by simp [q2], PreC.nil _, q1, q3, q4⟩
          case round =>
            clear HD
            obtain ⟨a, b, A, B, d, rfl, rfl, hb2, hb2', ha2, hg3, HI⟩ := hrel
            by_cases hle2 : b ≤ n
            · have HC : Hid (∀ im : Int, im = (a : Int) + (bs : Int) → Calls Try.prog 115 #[.slice (some ⟨blk, 0, none⟩) n cap, .int .i64 a, .int .i64 im, .int .i64 b, .func (.func 51) #[] #[]] wr fun e w' => e = .returned (.tuple #[]) ∧ ∃ (d' : Array E) (A' B' : List E), d'.toList = A' ++ B' ∧ d'.size = n ∧ A'.length = b ∧ A'.length + B'.length = n ∧ PreC (2 * bs) A' ∧ Chunks bs B' ∧ Stb l0 d'.toList ∧ SW w0 blk d' w') := fun im him => by
                obtain ⟨q1, q2, q3, q4, q5, q6, q7, q8⟩ := HI.out
                obtain ⟨u, v, r, rfl, hu, hv, su, sv, hr⟩ := q6.two hbs (by omega)
                simp only [List.length_append] at q4
                obtain rfl : im = ((a + bs : Nat) : Int) := by omega
                refine (HMG.out (b - a + 1) A u v r d wr a (a + bs) b (by omega) q1 q2 q8 q3.symm (by omega) (by omega) (by omega) (by omega) su sv).mono ?_
                rintro e w' ⟨rfl, d', z, r1, r2, r3, r4⟩
                have hz := r1.len
                refine ⟨rfl, d', A ++ z, r, by rw [r2]; simp, r3, by rw [List.length_append]; omega, by rw [List.length_append]; omega, q5.snoc r1.srt (by omega), hr, ?_, r4⟩
                refine q7.trans ?_
                rw [q1, r2]
                exact r1.stb3
              clear HI
              go_wp2_with (go_at_call 115; refine (HC.out _ (by go_num)).mono ?_; rintro e w1 ⟨rfl, hx⟩; have HX := Lib.hid hx; clear hx)
              go_roundg (n - b)
              case measure => omega
              case rel =>
                obtain ⟨d', A', B', r⟩ := HX.out
                exact ⟨b, b + 2 * bs, A', B', d', rfl, by go_num, by omega, by omega, hle2, Nat.le_refl _, r⟩
            · by_cases hm : a + bs < n
              · have HC : Hid (∀ im : Int, im = (a : Int) + (bs : Int) → Calls Try.prog 115 #[.slice (some ⟨blk, 0, none⟩) n cap, .int .i64 a, .int .i64 im, .int .i64 n, .func (.func 51) #[] #[]] wr fun e w' => e = .returned (.tuple #[]) ∧ ∃ d' : Array E, Chunks (2 * bs) d'.toList ∧ d'.size = n ∧ Stb l0 d'.toList ∧ SW w0 blk d' w') := fun im him => by
                  obtain ⟨q1, q2, q3, q4, q5, q6, q7, q8⟩ := HI.out
                  obtain ⟨u, v, rfl, hu, hv, su, sv⟩ := q6.more hbs (by omega) (by omega)
                  simp only [List.length_append] at q4
                  obtain rfl : im = ((a + bs : Nat) : Int) := by omega
                  refine (HMG.out (n - a + 1) A u v [] d wr a (a + bs) n (by omega) (by rw [q1]; simp) q2 q8 q3.symm (by omega) (by omega) (by omega) (by omega) su sv).mono ?_
                  rintro e w' ⟨rfl, d', z, r1, r2, r3, r4⟩
                  have hz := r1.len
                  refine ⟨rfl, d', ?_, r3, ?_, r4⟩
                  · rw [r2, List.append_nil]; exact q5 z (.last z r1.srt (by omega))
                  · refine q7.trans ?_
                    have := r1.stb3 (A := A) (C := [])
                    rw [q1, r2]
                    simpa using this
                clear HI
                go_wp2_with (go_at_call 115; refine (HC.out _ (by go_num)).mono ?_; rintro e w1 ⟨rfl, hx⟩; have HX := Lib.hid hx; clear hx)
                go_roundg (n - 2 * bs)
                case measure => omega
                case rel =>
                  obtain ⟨d', r⟩ := HX.out
                  exact ⟨2 * bs, d', by go_num, ⟨_, rfl⟩, ⟨_, rfl⟩, ⟨_, rfl⟩, by omega, by omega, Nat.le_refl _, r⟩
              · have HC : Hid (Chunks (2 * bs) d.toList ∧ d.size = n ∧ Stb l0 d.toList ∧ SW w0 blk d wr) := by
                  obtain ⟨q1, q2, q3, q4, q5, q6, q7, q8⟩ := HI.out
                  exact ⟨by rw [q1]; exact q5 B (.last B (q6.one (by omega)) (by omega)), q2, q7, q8⟩
                clear HI
                go_wp2_with fail
                go_roundg (n - 2 * bs)
                case measure => omega
                case rel => exact ⟨2 * bs, d, by go_num, ⟨_, rfl⟩, ⟨_, rfl⟩, ⟨_, rfl⟩, by omega, by omega, Nat.le_refl _, HC.out⟩
        · go_wp2_with fail
          go_end0
          obtain ⟨q1, q2, q3, q4⟩ := HD.out
          exact ⟨rfl, d, q1.one (by simp [q2]; omega), q3, q2, q4⟩
/-- slices.SortStableFunc by order, at a row of the call's own -/
theorem sortStable_any (l : List E) (g cap : Nat) (w : World) (hl : Fits l) (hH : HoldsK encE 3 w g 0 l.toArray) (hg : g < w.heap.size) :
    Calls Try.prog 66 #[.slice (some ⟨g, 0, none⟩) l.length cap, .func (.func 51) #[] #[]] w fun e w' => e = .returned (.tuple #[]) ∧ ∃ d' : Array E, SrtE d'.toList ∧ Stb l d'.toList ∧ d'.size = l.length ∧ HoldsK encE 3 w' g 0 d' ∧ w.grownBy w' (some g) := by
  unfold Fits at hl
  have HS : Hid (Calls Try.prog 93 #[.slice (some ⟨g, 0, none⟩) l.length cap, .int .i64 l.length, .func (.func 51) #[] #[]] w fun e w' => e = .returned (.tuple #[]) ∧ ∃ d' : Array E, SrtE d'.toList ∧ Stb l d'.toList ∧ d'.size = l.length ∧ HoldsK encE 3 w' g 0 d' ∧ w.grownBy w' (some g)) := by
    have := stable_any g cap l.toArray w ⟨encE_len, encE_one, hH, hg⟩ (by simp; omega)
    simp only [List.size_toArray] at this
    refine this.mono ?_
    rintro e w' ⟨rfl, d', h1, h2, h3, h4⟩
    refine ⟨rfl, d', h1, h2, h3, h4.holds hg hH (by simpa using h3), ?_⟩
    obtain ⟨n, os, rfl⟩ := h4
    exact below_sorted _
  clear hH hg hl
  go_enter Try.func66, Try.ntmps66
  go_wp2_with (go_at_call 93; refine HS.out.mono ?_; rintro e w1 ⟨rfl, hx⟩; have HX := Lib.hid hx; clear hx)
  go_end0
  exact ⟨rfl, HX.out⟩
theorem stable_none (fv : Value) (w : World) : Calls Try.prog 93 #[.slice none 0 0, .int .i64 0, fv] w fun e w' => e = .returned (.tuple #[]) ∧ w' = w := by
  have hi := fun W => insertion_none 0 fv W
  go_enter Try.func93, Try.ntmps93
  go_wp2_with fail
  refine wp_loop_rounds 1 ?_
  rw [rounds_succ]
  go_wp2_with (go_at_call 114; refine (hi _).mono ?_; rintro e w' ⟨rfl, rfl⟩)
  refine wp_loop_rounds 1 ?_
  rw [rounds_succ]
  go_wp2
  go_end0
  exact ⟨rfl, rfl⟩
theorem sortStable_none (fv : Value) (w : World) : Calls Try.prog 66 #[.slice none 0 0, fv] w fun e w' => e = .returned (.tuple #[]) ∧ w' = w := by
  have hi := fun W => stable_none fv W
  go_enter Try.func66, Try.ntmps66
  go_wp2_with (go_at_call 93; refine (hi _).mono ?_; rintro e w' ⟨rfl, rfl⟩)
  go_end0
  exact ⟨rfl, rfl⟩
end Go.Proofs.Ytiodpgannelgpaa
