/-
  Stable sorting as mathematics: runs of one length, how they grow; the library's insertion sort is stable. The walks of the library's stable sort at edges. The walk of graph.Reverse. The walk of graph.Cost; a graph that is turned round or cut is valid (carried over from the seat of layer 9). The walks of the reference's Ints and Next.
-/
import Derived.Test.YtmbogobebllheaaMv
import Derived.Test.YtmbogobebllheaaMx
import Derived.Test.YtmbogobebllheaaMr
import Derived.Test.YtmbogobebllheaaMg
import Derived.Test.YtmbogobebllheaaMh
namespace Go.Proofs.Ytmbogobebllheaa
open Go.RowKit GM Go.Sort Go.Lib
set_option linter.unusedSimpArgs false
set_option linter.unusedVariables false
set_option maxHeartbeats 4000000
set_option maxRecDepth 100000

/-- a list cut into ordered runs of k, the last one of at most k -/
inductive Chunks (k : Nat) : List E → Prop
  | last (l : List E) : SrtE l → l.length ≤ k → Chunks k l
  | cons (u l : List E) : SrtE u → u.length = k → Chunks k l → Chunks k (u ++ l)
theorem Chunks.two {k : Nat} {l : List E} (hk : 0 < k) (h : Chunks k l) (h2 : 2 * k ≤ l.length) : ∃ u v r, l = u ++ (v ++ r) ∧ u.length = k ∧ v.length = k ∧ SrtE u ∧ SrtE v ∧ Chunks k r := by
  cases h with
  | last _ h1 h3 => omega
  | cons u l' h1 h3 h4 =>
    rw [List.length_append] at h2
    cases h4 with
    | last _ h5 h6 => exact ⟨u, l', [], by simp, h3, by omega, h1, h5, .last [] List.Pairwise.nil (by simp)⟩
    | cons v r h5 h6 h7 => exact ⟨u, v, r, rfl, h3, h6, h1, h5, h7⟩
theorem Chunks.more {k : Nat} {l : List E} (hk : 0 < k) (h : Chunks k l) (h2 : l.length < 2 * k) (h3 : k < l.length) : ∃ u v, l = u ++ v ∧ u.length = k ∧ 0 < v.length ∧ SrtE u ∧ SrtE v := by
  cases h with
  | last _ h1 h3 => omega
  | cons u l' h1 h4 h5 =>
    rw [List.length_append] at h2 h3
    cases h5 with
    | last _ h5 h6 => exact ⟨u, l', rfl, h4, by omega, h1, h5⟩
    | cons v r h5 h6 h7 => rw [List.length_append] at h2; omega
theorem Chunks.one {k : Nat} {l : List E} (h : Chunks k l) (h2 : l.length ≤ k) : SrtE l := by
  cases h with
  | last _ h1 h3 => exact h1
  | cons u l' h1 h4 h5 =>
    rw [List.length_append] at h2
    have : l' = [] := List.length_eq_zero_iff.1 (by omega)
    subst this
    rw [List.append_nil]; exact h1
/-- what stands ahead of runs of k -/
def PreC (k : Nat) (A : List E) : Prop := ∀ T, Chunks k T → Chunks k (A ++ T)
theorem PreC.nil (k : Nat) : PreC k [] := fun _ h => h
theorem PreC.snoc {k : Nat} {A z : List E} (h : PreC k A) (h1 : SrtE z) (h2 : z.length = k) : PreC k (A ++ z) := fun T hT => by
  rw [List.append_assoc]; exact h _ (.cons z T h1 h2 hT)
theorem GM.MergeP.stb3 {A u v z C : List E} (h : MergeP u v z) : Stb (A ++ (u ++ (v ++ C))) (A ++ (z ++ C)) := by
  have := (Stb.refl A).app (h.stb.app (Stb.refl C))
  simpa [List.append_assoc] using this

/-- one exchange of neighbors out of order is stable -/
theorem swp_stb {d : Array E} {j : Nat} (hj : j + 1 < d.size) (h : bef d[j + 1]! d[j]! = true) : Stb d.toList (swp d (j + 1) j).toList := by
  have e1 : d[j]! = d.toList[j]'(by simp; omega) := by rw [getElem!_pos d j (by omega)]; simp
  have e2 : d[j + 1]! = d.toList[j + 1]'(by simpa using hj) := by rw [getElem!_pos d (j + 1) hj]; simp
  have hl : d.toList = d.toList.take j ++ d[j]! :: ([] ++ d[j + 1]! :: d.toList.drop (j + 2)) := by
    conv => lhs; rw [← List.take_append_drop j d.toList]
    rw [List.drop_eq_getElem_cons (by simp; omega), List.drop_eq_getElem_cons (by simpa using hj), ← e1, ← e2]
    rfl
  have hlen : (d.toList.take j).length = j := by rw [List.length_take]; simp; omega
  have hs := swp_list' (j := j + 1) hl hlen.symm (by rw [hlen]; simp)
  rw [hs]
  conv => lhs; rw [hl]
  refine (Stb.refl _).app ?_
  have : Stb ([d[j]!] ++ [d[j + 1]!]) ([d[j + 1]!] ++ [d[j]!]) := Stb.swap fun x hx y hy => by
    rw [List.mem_singleton] at hx hy
    subst hx hy
    have := bef_not_same h
    omega
  simpa using this.app (Stb.refl (d.toList.drop (j + 2)))
theorem insInner_stb (a : Nat) : ∀ (j : Nat) (d : Array E), j < d.size → Stb d.toList (insInner bef a j d).toList ∧ (insInner bef a j d).size = d.size
  | 0, d, _ => by unfold insInner; exact ⟨Stb.refl _, rfl⟩
  | j + 1, d, hj => by
    unfold insInner
    split
    · rename_i hc
      simp only [Bool.and_eq_true, decide_eq_true_eq] at hc
      have := insInner_stb a j (swp d (j + 1) j) (by rw [size_swp]; omega)
      exact ⟨(swp_stb hj hc.2).trans this.1, by rw [this.2, size_swp]⟩
    · exact ⟨Stb.refl _, rfl⟩
theorem insOuter_stb (a b : Nat) : ∀ (n i : Nat) (d : Array E), b - i = n → b ≤ d.size → Stb d.toList (insOuter bef a b i d).toList ∧ (insOuter bef a b i d).size = d.size
  | 0, i, d, h, hb => by rw [insOuter, if_neg (by omega)]; exact ⟨Stb.refl _, rfl⟩
  | n + 1, i, d, h, hb => by
    rw [insOuter, if_pos (by omega)]
    have h1 := insInner_stb a i d (by omega)
    have h2 := insOuter_stb a b n (i + 1) (insInner bef a i d) (by omega) (by omega)
    exact ⟨h1.1.trans h2.1, h2.2.trans h1.2⟩
theorem ltOf_ordC : ltOf ordC = bef := by
  funext a b
  unfold ltOf
  cases h : bef a b
  · rw [decide_eq_false]; rw [ordC_neg, h]; simp
  · rw [decide_eq_true]; rw [ordC_neg, h]
theorem bef_swo : SWO (bef : E → E → Bool) where
  irrefl x := bef_irrefl x
  trans x y z h1 h2 := bef_trans h1 h2
  ntrans x y z h1 h2 := le_of h2 h1
/-- the library's insertion sort of a part -/
theorem insertion_list {A u C : List E} {d : Array E} {a b : Nat} (hd : d.toList = A ++ (u ++ C)) (ha : a = A.length) (hb : b = a + u.length) :
    ∃ z : List E, (insertionSort bef d a b).toList = A ++ (z ++ C) ∧ SrtE z ∧ Stb u z ∧ z.length = u.length ∧ (insertionSort bef d a b).size = d.size := by
  have hl := arr_len hd
  simp only [List.length_append] at hl
  have h1 := insertionSort_holds (lt := bef) bef_swo d a b (by omega) (by omega)
  have h2 := insOuter_stb a b (b - (a + 1)) (a + 1) d rfl (by omega)
  generalize he : insertionSort bef d a b = d' at *
  have he' : insOuter bef a b (a + 1) d = d' := he
  rw [he'] at h2
  obtain ⟨⟨p1, p2, p3⟩, q⟩ := h1
  have hl' : d'.toList.length = d.toList.length := by simp [p1]
  have hget : ∀ i, i < d.size → (i < a ∨ b ≤ i) → d'.toList[i]? = d.toList[i]? := fun i hi hc => by
    have := p2 i hc
    rw [getElem!_pos d' i (by omega), getElem!_pos d i hi] at this
    rw [List.getElem?_eq_getElem (by simp; omega), List.getElem?_eq_getElem (by simpa using hi)]
    simpa using this
  have hA : d'.toList.take a = A := by
    apply List.ext_getElem?
    intro i
    rw [List.getElem?_take]
    split
    · rename_i hi
      rw [hget i (by omega) (.inl hi), hd, List.getElem?_append_left (by omega)]
    · rw [List.getElem?_eq_none (by omega)]
  have hC : d'.toList.drop b = C := by
    apply List.ext_getElem?
    intro i
    rw [List.getElem?_drop]
    by_cases hi : b + i < d.size
    · rw [hget (b + i) hi (.inr (by omega)), hd, List.getElem?_append_right (by omega), List.getElem?_append_right (by omega)]
      congr 1; omega
    · rw [List.getElem?_eq_none (by simp; omega), List.getElem?_eq_none (by omega)]
  have hall : d'.toList = A ++ ((d'.toList.drop a).take (b - a) ++ C) := by
    conv => lhs; rw [← List.take_append_drop a d'.toList, hA, ← List.take_append_drop (b - a) (d'.toList.drop a), List.drop_drop, show a + (b - a) = b by omega, hC]
  have hzl : ((d'.toList.drop a).take (b - a)).length = u.length := by simp; omega
  refine ⟨_, hall, ?_, ?_, hzl, p1⟩
  · refine List.pairwise_iff_getElem.2 fun i j hi hj hij => ?_
    have := q (a + i) (a + j) (by omega) (by omega) (by omega)
    rw [getElem!_pos d' (a + i) (by omega), getElem!_pos d' (a + j) (by omega)] at this
    simpa using this
  · intro c
    have := h2.1 c
    rw [hall, hd] at this
    simp only [List.filter_append] at this
    exact List.append_cancel_right (List.append_cancel_left this)
end Go.Proofs.Ytmbogobebllheaa
namespace Go.Proofs.Ytmbogobebllheaa
open Go.RowKit GM Go.Sort Go.Lib
set_option linter.unusedSimpArgs false
set_option linter.unusedVariables false
set_option maxHeartbeats 1500000
set_option maxRecDepth 100000

theorem cmpLaysO (blk off size : Nat) (w : World) : CmpLays Try.prog 107 #[] encE 3 ordC blk off size w := fun _ _ _ _ x y => order_any x y _
theorem insertion_any (blk cap : Nat) (d0 : Array E) (w0 : World) (R : RowK encE 3 w0 blk 0 d0) (hsz : d0.size < 1152921504606846976)
    (A u C : List E) (d : Array E) (W : World) (a b : Nat) (hd : d.toList = A ++ (u ++ C)) (hs : d.size = d0.size) (S : SW w0 blk d W) (ha : a = A.length) (hb : b = a + u.length) :
    Calls Try.prog 160 #[.slice (some ⟨blk, 0, none⟩) d0.size cap, .int .i64 a, .int .i64 b, .func (.func 107) #[] #[]] W fun e w' => e = .returned (.tuple #[]) ∧ ∃ (d' : Array E) (z : List E), d'.toList = A ++ (z ++ C) ∧ SrtE z ∧ Stb u z ∧ z.length = u.length ∧ d'.size = d0.size ∧ SW w0 blk d' w' := by
  have hl := arr_len hd
  simp only [List.length_append] at hl
  have eg : ∀ args w, (callFunc 107 args).run Try.prog w = .ok (.enter 107 args) w := enters_of Try.func107 (by kernel_rfl) rfl
  have h := AnyQ.insertionSortCmpFunc (P := Try.prog) (ρ := Try.sortE_ren) { Try.sortE with } 3 Try.isAgg72 Try.sizeOf72 encE encE_len encE_one ordC 107 #[] blk 0 cap a b d W eg (cmpLaysO blk 0 _ W) (S.holds R.hblk R.hH hs) (S.lt R.hblk) (by omega) (by omega) (by omega)
  rw [hs] at h
  refine h.mono ?_
  rintro e w' ⟨rfl, n, os, rfl⟩
  rw [ltOf_ordC]
  obtain ⟨z, z1, z2, z3, z4, z5⟩ := insertion_list hd ha hb
  exact ⟨rfl, _, z, z1, z2, z3, z4, z5.trans hs, S.on R.hblk _ _ _ z5⟩
theorem stable_any (blk cap : Nat) (d0 : Array E) (w0 : World) (R : RowK encE 3 w0 blk 0 d0) (hsz : d0.size < 1152921504606846976) :
    Calls Try.prog 147 #[.slice (some ⟨blk, 0, none⟩) d0.size cap, .int .i64 d0.size, .func (.func 107) #[] #[]] w0 fun e w' => e = .returned (.tuple #[]) ∧ ∃ d' : Array E, SrtE d'.toList ∧ Stb d0.toList d'.toList ∧ d'.size = d0.size ∧ SW w0 blk d' w' := by
  have HIN := Lib.hid (insertion_any blk cap d0 w0 R hsz)
  have HMG := Lib.hid (gmerge_any blk cap d0 w0 R hsz)
  have S0 : Hid (SW w0 blk d0 w0) := SWK.start R.hH
  obtain ⟨l0, hl0⟩ : ∃ l0, l0 = d0.toList := ⟨_, rfl⟩
  rw [← hl0]
  obtain ⟨n, hn⟩ : ∃ n, n = d0.size := ⟨_, rfl⟩
  rw [← hn] at HIN HMG hsz ⊢
  have HL0 : Hid (d0.toList = l0 ∧ d0.size = n ∧ l0.length = n) := ⟨hl0.symm, hn.symm, by rw [hl0, hn]; simp⟩
  clear hl0 hn R
  go_enter Try.func147, Try.ntmps147
  go_wp2_with fail
  go_loopg [7, 8] n (fun g s7 s8 wr => ∃ (a b : Nat) (A B : List E) (d : Array E), s7 = .int .i64 a ∧ s8 = .int .i64 b ∧ b ≤ a + 20 ∧ a + 20 ≤ b ∧ a ≤ n ∧ n - a ≤ g ∧ Hid (d.toList = A ++ B ∧ d.size = n ∧ A.length = a ∧ A.length + B.length = n ∧ PreC 20 A ∧ Stb l0 d.toList ∧ SW w0 blk d wr))
  case atStart => exact ⟨0, 20, [], l0, d0, rfl, rfl, by omega, by omega, by omega, by omega, by rw [HL0.out.1]; rfl, HL0.out.2.1, rfl, by rw [HL0.out.2.2]; simp, PreC.nil _, by rw [HL0.out.1]; exact Stb.refl _, S0.out⟩
  case round =>
    clear S0 HL0
    obtain ⟨a, b, A, B, d, rfl, rfl, hb, hb', ha, hg, HI⟩ := hrel
    by_cases hle : b ≤ n
    · have HC : Hid (Calls Try.prog 160 #[.slice (some ⟨blk, 0, none⟩) n cap, .int .i64 a, .int .i64 b, .func (.func 107) #[] #[]] wr fun e w' => e = .returned (.tuple #[]) ∧ ∃ (d' : Array E) (A' B' : List E), d'.toList = A' ++ B' ∧ d'.size = n ∧ A'.length = b ∧ A'.length + B'.length = n ∧ PreC 20 A' ∧ Stb l0 d'.toList ∧ SW w0 blk d' w') := by
        obtain ⟨q1, q2, q3, q4, q5, q6, q7⟩ := HI.out
        have htl : (B.take 20).length = 20 := by rw [List.length_take]; omega
        refine (HIN.out A (B.take 20) (B.drop 20) d wr a b (by rw [List.take_append_drop]; exact q1) q2 q7 q3.symm (by omega)).mono ?_
        rintro e w' ⟨rfl, d', z, r1, r2, r3, r4, r5, r6⟩
        refine ⟨rfl, d', A ++ z, B.drop 20, by rw [r1]; simp, r5, by rw [List.length_append]; omega, by rw [List.length_append, List.length_drop]; omega, q5.snoc r2 (by omega), ?_, r6⟩
        refine q6.trans ?_
        rw [q1, r1]
        have := (Stb.refl A).app (r3.app (Stb.refl (B.drop 20)))
        rwa [List.take_append_drop] at this
      clear HI
      go_wp2_with (go_at_call 160; refine HC.out.mono ?_; rintro e w1 ⟨rfl, hx⟩; have HX := Lib.hid hx; clear hx)
      go_roundg (n - b)
      case measure => omega
      case rel =>
        obtain ⟨d', A', B', r⟩ := HX.out
        exact ⟨b, b + 20, A', B', d', rfl, by go_num, by omega, by omega, hle, Nat.le_refl _, r⟩
    · have HC : Hid (Calls Try.prog 160 #[.slice (some ⟨blk, 0, none⟩) n cap, .int .i64 a, .int .i64 n, .func (.func 107) #[] #[]] wr fun e w' => e = .returned (.tuple #[]) ∧ ∃ d' : Array E, Chunks 20 d'.toList ∧ d'.size = n ∧ Stb l0 d'.toList ∧ SW w0 blk d' w') := by
        obtain ⟨q1, q2, q3, q4, q5, q6, q7⟩ := HI.out
        refine (HIN.out A B [] d wr a n (by rw [List.append_nil]; exact q1) q2 q7 q3.symm (by omega)).mono ?_
        rintro e w' ⟨rfl, d', z, r1, r2, r3, r4, r5, r6⟩
        rw [List.append_nil] at r1
        refine ⟨rfl, d', ?_, r5, ?_, r6⟩
        · rw [r1]; exact q5 z (.last z r2 (by omega))
        · refine q6.trans ?_
          rw [q1, r1]
          exact (Stb.refl A).app r3
      clear HI
      go_wp2_with (go_at_call 160; refine HC.out.mono ?_; rintro e w1 ⟨rfl, hx⟩; have HX := Lib.hid hx; clear hx)
      go_loopg [6, 7, 8, 9] n (fun g s6 s7 s8 s9 wr => ∃ (bs : Nat) (d : Array E), s6 = .int .i64 bs ∧ (∃ v, v = s7) ∧ (∃ v, v = s8) ∧ (∃ v, v = s9) ∧ 0 < bs ∧ bs ≤ 2 * n + 20 ∧ n - bs ≤ g ∧ Hid (Chunks bs d.toList ∧ d.size = n ∧ Stb l0 d.toList ∧ SW w0 blk d wr))
      case atStart =>
        obtain ⟨d', r⟩ := HX.out
        exact ⟨20, d', rfl, ⟨_, rfl⟩, ⟨_, rfl⟩, ⟨_, rfl⟩, by omega, by omega, by omega, r⟩
      case round =>
        clear HX HC
        obtain ⟨bs, d, rfl, ⟨v7, rfl⟩, ⟨v8, rfl⟩, ⟨v9, rfl⟩, hbs, hbs2, hg2, HD⟩ := hrel
        by_cases hlt : bs < n
        · go_wp2_with fail
          go_loopg [7, 8] n (fun g s7 s8 wr => ∃ (a b : Nat) (A B : List E) (d : Array E), s7 = .int .i64 a ∧ s8 = .int .i64 b ∧ b ≤ a + 2 * bs ∧ a + 2 * bs ≤ b ∧ a ≤ n ∧ n - a ≤ g ∧ Hid (d.toList = A ++ B ∧ d.size = n ∧ A.length = a ∧ A.length + B.length = n ∧ PreC (2 * bs) A ∧ Chunks bs B ∧ Stb l0 d.toList ∧ SW w0 blk d wr))
          case atStart =>
            obtain ⟨q1, q2, q3, q4⟩ := HD.out
            exact ⟨0, 2 * bs, [], d.toList, d, rfl, by go_num, by omega, by omega, by omega, by omega, rfl, q2, rfl, by simp [q2], PreC.nil _, q1, q3, q4⟩
          case round =>
            clear HD
            obtain ⟨a, b, A, B, d, rfl, rfl, hb2, hb2', ha2, hg3, HI⟩ := hrel
            by_cases hle2 : b ≤ n
            · have HC : Hid (∀ im : Int, im = (a : Int) + (bs : Int) → Calls Try.prog 161 #[.slice (some ⟨blk, 0, none⟩) n cap, .int .i64 a, .int .i64 im, .int .i64 b, .func (.func 107) #[] #[]] wr fun e w' => e = .returned (.tuple #[]) ∧ ∃ (d' : Array E) (A' B' : List E), d'.toList = A' ++ B' ∧ d'.size = n ∧ A'.length = b ∧ A'.length + B'.length = n ∧ PreC (2 * bs) A' ∧ Chunks bs B' ∧ Stb l0 d'.toList ∧ SW w0 blk d' w') := fun im him => by
                obtain ⟨q1, q2, q3, q4, q5, q6, q7, q8⟩ := HI.out
                obtain ⟨u, v, r, rfl, hu, hv, su, sv, hr⟩ := q6.two hbs (by omega)
                simp only [List.length_append] at q4
                obtain rfl : im = ((a + bs : Nat) : Int) := by omega
                refine (HMG.out (b - a + 1) A u v r d wr a (a + bs) b (by omega) q1 q2 q8 q3.symm (by omega) (by omega) (by omega) (by omega) su sv).mono ?_
                rintro e w' ⟨rfl, d', z, r1, r2, r3, r4⟩
                have hz := r1.len
                refine ⟨rfl, d', A ++ z, r, by rw [r2]; simp, r3, by rw [List.length_append]; omega, by rw [List.length_append]; omega, q5.snoc r1.srt (by omega), hr, ?_, r4⟩
                refine q7.trans ?_
                rw [q1, r2]
                exact r1.stb3
              clear HI
              go_wp2_with (go_at_call 161; refine (HC.out _ (by go_num)).mono ?_; rintro e w1 ⟨rfl, hx⟩; have HX := Lib.hid hx; clear hx)
              go_roundg (n - b)
              case measure => omega
              case rel =>
                obtain ⟨d', A', B', r⟩ := HX.out
                exact ⟨b, b + 2 * bs, A', B', d', rfl, by go_num, by omega, by omega, hle2, Nat.le_refl _, r⟩
            · by_cases hm : a + bs < n
              · have HC : Hid (∀ im : Int, im = (a : Int) + (bs : Int) → Calls Try.prog 161 #[.slice (some ⟨blk, 0, none⟩) n cap, .int .i64 a, .int .i64 im, .int .i64 n, .func (.func 107) #[] #[]] wr fun e w' => e = .returned (.tuple #[]) ∧ ∃ d' : Array E, Chunks (2 * bs) d'.toList ∧ d'.size = n ∧ Stb l0 d'.toList ∧ SW w0 blk d' w') := fun im him => by
                  obtain ⟨q1, q2, q3, q4, q5, q6, q7, q8⟩ := HI.out
                  obtain ⟨u, v, rfl, hu, hv, su, sv⟩ := q6.more hbs (by omega) (by omega)
                  simp only [List.length_append] at q4
                  obtain rfl : im = ((a + bs : Nat) : Int) := by omega
                  refine (HMG.out (n - a + 1) A u v [] d wr a (a + bs) n (by omega) (by rw [q1]; simp) q2 q8 q3.symm (by omega) (by omega) (by omega) (by omega) su sv).mono ?_
                  rintro e w' ⟨rfl, d', z, r1, r2, r3, r4⟩
                  have hz := r1.len
                  refine ⟨rfl, d', ?_, r3, ?_, r4⟩
                  · rw [r2, List.append_nil]; exact q5 z (.last z r1.srt (by omega))
                  · refine q7.trans ?_
                    have := r1.stb3 (A := A) (C := [])
                    rw [q1, r2]
                    simpa using this
                clear HI
                go_wp2_with (go_at_call 161; refine (HC.out _ (by go_num)).mono ?_; rintro e w1 ⟨rfl, hx⟩; have HX := Lib.hid hx; clear hx)
                go_roundg (n - 2 * bs)
                case measure => omega
                case rel =>
                  obtain ⟨d', r⟩ := HX.out
                  exact ⟨2 * bs, d', by go_num, ⟨_, rfl⟩, ⟨_, rfl⟩, ⟨_, rfl⟩, by omega, by omega, Nat.le_refl _, r⟩
              · have HC : Hid (Chunks (2 * bs) d.toList ∧ d.size = n ∧ Stb l0 d.toList ∧ SW w0 blk d wr) := by
                  obtain ⟨q1, q2, q3, q4, q5, q6, q7, q8⟩ := HI.out
                  exact ⟨by rw [q1]; exact q5 B (.last B (q6.one (by omega)) (by omega)), q2, q7, q8⟩
                clear HI
                go_wp2_with fail
                go_roundg (n - 2 * bs)
                case measure => omega
                case rel => exact ⟨2 * bs, d, by go_num, ⟨_, rfl⟩, ⟨_, rfl⟩, ⟨_, rfl⟩, by omega, by omega, Nat.le_refl _, HC.out⟩
        · go_wp2_with fail
          go_end0
          obtain ⟨q1, q2, q3, q4⟩ := HD.out
          exact ⟨rfl, d, q1.one (by simp [q2]; omega), q3, q2, q4⟩
/-- slices.SortStableFunc by order, at a row of the call's own -/
theorem sortStable_any (l : List E) (g cap : Nat) (w : World) (hl : Fits l) (hH : HoldsK encE 3 w g 0 l.toArray) (hg : g < w.heap.size) :
    Calls Try.prog 116 #[.slice (some ⟨g, 0, none⟩) l.length cap, .func (.func 107) #[] #[]] w fun e w' => e = .returned (.tuple #[]) ∧ ∃ d' : Array E, SrtE d'.toList ∧ Stb l d'.toList ∧ d'.size = l.length ∧ HoldsK encE 3 w' g 0 d' ∧ w.grownBy w' (some g) := by
  unfold Fits at hl
  have HS : Hid (Calls Try.prog 147 #[.slice (some ⟨g, 0, none⟩) l.length cap, .int .i64 l.length, .func (.func 107) #[] #[]] w fun e w' => e = .returned (.tuple #[]) ∧ ∃ d' : Array E, SrtE d'.toList ∧ Stb l d'.toList ∧ d'.size = l.length ∧ HoldsK encE 3 w' g 0 d' ∧ w.grownBy w' (some g)) := by
    have := stable_any g cap l.toArray w ⟨encE_len, encE_one, hH, hg⟩ (by simp; omega)
    simp only [List.size_toArray] at this
    refine this.mono ?_
    rintro e w' ⟨rfl, d', h1, h2, h3, h4⟩
    refine ⟨rfl, d', h1, h2, h3, h4.holds hg hH (by simpa using h3), ?_⟩
    obtain ⟨n, os, rfl⟩ := h4
    exact below_sorted _
  clear hH hg hl
  go_enter Try.func116, Try.ntmps116
  go_wp2_with (go_at_call 147; refine HS.out.mono ?_; rintro e w1 ⟨rfl, hx⟩; have HX := Lib.hid hx; clear hx)
  go_end0
  exact ⟨rfl, HX.out⟩
theorem stable_none (fv : Value) (w : World) : Calls Try.prog 147 #[.slice none 0 0, .int .i64 0, fv] w fun e w' => e = .returned (.tuple #[]) ∧ w' = w := by
  have hi := fun W => insertion_none 0 fv W
  go_enter Try.func147, Try.ntmps147
  go_wp2_with fail
  refine wp_loop_rounds 1 ?_
  rw [rounds_succ]
  go_wp2_with (go_at_call 160; refine (hi _).mono ?_; rintro e w' ⟨rfl, rfl⟩)
  refine wp_loop_rounds 1 ?_
  rw [rounds_succ]
  go_wp2
  go_end0
  exact ⟨rfl, rfl⟩
theorem sortStable_none (fv : Value) (w : World) : Calls Try.prog 116 #[.slice none 0 0, fv] w fun e w' => e = .returned (.tuple #[]) ∧ w' = w := by
  have hi := fun W => stable_none fv W
  go_enter Try.func116, Try.ntmps116
  go_wp2_with (go_at_call 147; refine (hi _).mono ?_; rintro e w' ⟨rfl, rfl⟩)
  go_end0
  exact ⟨rfl, rfl⟩
end Go.Proofs.Ytmbogobebllheaa
namespace Go.Proofs.Ytmbogobebllheaa
open Go.RowKit GM Go.Sort Go.Lib
set_option linter.unusedSimpArgs false
set_option linter.unusedVariables false
set_option maxHeartbeats 1500000
set_option maxRecDepth 100000

theorem turn_list {l : List E} {k : Nat} {e : E} {d : Array E} (he : l[k]? = some e) (hd : d.toList = (l.take k).map flp ++ l.drop k) : (d.setIfInBounds k (flp e)).toList = (l.take (k + 1)).map flp ++ l.drop (k + 1) := by
  obtain ⟨hk, hx⟩ := List.getElem?_eq_some_iff.1 he
  have hl : ((l.take k).map flp).length = k := by rw [List.length_map, List.length_take]; omega
  rw [Array.toList_setIfInBounds, hd, List.set_append_right _ _ (by omega), hl, Nat.sub_self, List.drop_eq_getElem_cons hk, List.set_cons_zero, List.take_add_one, he]
  simp
theorem turn_get {l : List E} {k : Nat} {e : E} {d : Array E} (he : l[k]? = some e) (hd : d.toList = (l.take k).map flp ++ l.drop k) : d[k]! = e := by
  obtain ⟨hk, hx⟩ := List.getElem?_eq_some_iff.1 he
  have hl : ((l.take k).map flp).length = k := by rw [List.length_map, List.length_take]; omega
  have h1 : d.toList[k]? = some e := by rw [hd, List.getElem?_append_right (by omega), hl, Nat.sub_self, List.getElem?_drop]; simpa using he
  obtain ⟨h2, h3⟩ := List.getElem?_eq_some_iff.1 h1
  rw [getElem!_pos d k (by simpa using h2)]
  simpa using h3
theorem rev_any (R N : Int) (l : List E) (v : Value) (w : World) (hl : Fits l) (hr : Rd3 w v l) :
    Calls Try.prog 75 #[.agg #[.int .i64 R, .int .i64 N, v]] w fun e w' => ∃ s o, e = .returned (.agg #[.int .i64 R, .int .i64 N, s]) ∧ OwnS w.heap.size w' s o ∧ (SrtE o ∧ Stb (l.map flp) o) ∧ Below w.heap.size w w' := by
  have HCL : Hid (∀ W, Below w.heap.size w W → Calls Try.prog 115 #[v] W fun e w' => ∃ v', e = .returned v' ∧ w'.ownsRow W.heap.size 72 3 v' l.length (flatE l) ∧ Below W.heap.size W w') := fun W hb => clone_any l v W hl (hr.below hb)
  have HLN := Lib.hid hl
  obtain ⟨ad, cap0, rfl⟩ := rd3_slice hr
  obtain ⟨L, hL⟩ : ∃ L, l.length = L := ⟨_, rfl⟩
  rw [hL] at HCL ⊢
  have HL := Lib.hid hL
  have hLb : L ≤ 5864062014634 := by unfold Fits at hl; omega
  clear hr hl hL
  go_enter Try.func75, Try.ntmps75
  go_wp2_with fail
  go_at_call 115
  refine (HCL.out _ (below_two _ _ _)).mono ?_
  rintro e w0 ⟨v1, rfl, hown, hb⟩
  have HO := Lib.hid (And.intro hown hb)
  clear hb
  have hz1 : w.heap.size + 2 ≤ w0.heap.size := by have := HO.out.2.size; simpa using this
  have B1 : Hid (Below w.heap.size w w0) := below_then (below_two _ _ _) HO.out.2
  have X1 : Hid (w0.heap[w.heap.size]? = some (.cells #[.int .i64 R, .int .i64 N, .slice ad L cap0] 27 (0, 0)) ∧ w0.heap[w.heap.size + 1]? = some (.cells #[.int .i64 0, .int .i64 0, .slice none 0 0] 27 (0, 0))) :=
    ⟨(HO.out.2.block _ (by simp; omega)).trans (heap_up (heap_at rfl)), (HO.out.2.block _ (by simp)).trans (heap_at (by simp))⟩
  have z3 : w0.frozen? ⟨w.heap.size, 2, none⟩ = false := free_of X1.out.1 _
  have z4 : w0.cell? ⟨w.heap.size, 2, none⟩ = some (.slice ad L cap0) := cell_of X1.out.1 rfl
  rcases hown.2 with ⟨rfl, hn⟩ | ⟨g, cap, cur, rfl, hB, hg, hnc, hcm, hcs, htk⟩
  · have hl0 : l = [] := List.length_eq_zero_iff.1 (by have := HL.out; omega)
    obtain ⟨w2, hw2⟩ : ∃ w2, w2 = w0.setCell ⟨w.heap.size, 2, none⟩ (.slice none 0 0) := ⟨_, rfl⟩
    have O2 : Hid (OwnS (w.heap.size + 2) w2 (.slice none 0 0) []) := .inl ⟨rfl, rfl⟩
    have B2 : Hid (Below w.heap.size w w2) := by show Below _ _ _; rw [hw2]; exact B1.out.setCell (Nat.le_refl _) _
    have X2 : Hid (w2.heap[w.heap.size]? = some (.cells #[.int .i64 R, .int .i64 N, .slice none 0 0] 27 (0, 0)) ∧ w2.heap[w.heap.size + 1]? = some (.cells #[.int .i64 0, .int .i64 0, .slice none 0 0] 27 (0, 0))) := by
      show _ ∧ _
      rw [hw2]
      exact ⟨by rw [heap_set_eq X1.out.1]; rfl, (heap_set_ne (by omega)).trans X1.out.2⟩
    have z5 : w2.cell? ⟨w.heap.size, 2, none⟩ = some (.slice none 0 0) := cell_of X2.out.1 rfl
    have HS : Hid (SrtE ([] : List E) ∧ Stb (l.map flp) []) := by
      show _ ∧ _
      rw [hl0]
      exact ⟨List.Pairwise.nil, Stb.refl _⟩
    clear hown hn hl0
    go_upto_region 2 with (fail)
    rw [← hw2]
    clear hw2 X1 B1 HO z3 z4
    go_wp2_with fail
    refine wp_loop_rounds 1 ?_
    rw [rounds_succ]
    go_wp2_with fail
    go_at_call 116
    refine (sortStable_none _ _).mono ?_
    rintro e w3 ⟨rfl, hw3⟩
    rw [hw3]
    clear hw3 w3
    have z0 : w2.cell? ⟨w.heap.size, 0, none⟩ = some (.int .i64 R) := cell_of X2.out.1 rfl
    have z1 : w2.cell? ⟨w.heap.size, 1, none⟩ = some (.int .i64 N) := cell_of X2.out.1 rfl
    have z2 : w2.cell? ⟨w.heap.size, 2, none⟩ = some (.slice none 0 0) := cell_of X2.out.1 rfl
    have y0 : w2.cell? ⟨w.heap.size + 1, 0, none⟩ = some (.int .i64 0) := cell_of X2.out.2 rfl
    have y1 : w2.cell? ⟨w.heap.size + 1, 1, none⟩ = some (.int .i64 0) := cell_of X2.out.2 rfl
    have y2 : w2.cell? ⟨w.heap.size + 1, 2, none⟩ = some (.slice none 0 0) := cell_of X2.out.2 rfl
    have y3 : w2.frozen? ⟨w.heap.size + 1, 0, none⟩ = false := free_of X2.out.2 _
    have y4 : w2.frozen? ⟨w.heap.size + 1, 1, none⟩ = false := free_of X2.out.2 _
    have y5 : w2.frozen? ⟨w.heap.size + 1, 2, none⟩ = false := free_of X2.out.2 _
    have HEND : Hid (∀ u1 u2 u3, OwnS w.heap.size (((w2.setCell ⟨w.heap.size + 1, 0, none⟩ u1).setCell ⟨w.heap.size + 1, 1, none⟩ u2).setCell ⟨w.heap.size + 1, 2, none⟩ u3) (.slice none 0 0) [] ∧
        Below w.heap.size w (((w2.setCell ⟨w.heap.size + 1, 0, none⟩ u1).setCell ⟨w.heap.size + 1, 1, none⟩ u2).setCell ⟨w.heap.size + 1, 2, none⟩ u3)) := fun u1 u2 u3 =>
      ⟨(((O2.out.setCell (by omega)).setCell (by omega)).setCell (by omega)).mono (by omega), ((B2.out.setCell (Nat.le_succ _) _).setCell (Nat.le_succ _) _).setCell (Nat.le_succ _) _⟩
    go_wp2
    (try simp only [Exit.inBlock, Exit.then])
    refine bodyPost_ret (v := .agg #[.int .i64 R, .int .i64 N, .slice none 0 0]) (by rw [results_cell_one rfl]; go_simp) rfl ?_
    exact ⟨_, [], rfl, (HEND.out _ _ _).1, HS.out, (HEND.out _ _ _).2⟩
  · have hg1 : g < w0.heap.size := lt_block hg
    have hgz : w.heap.size + 2 ≤ g := by simpa using hB
    obtain ⟨w1, hw1⟩ : ∃ w1, w1 = w0.setCell ⟨w.heap.size, 2, none⟩ (.slice (some ⟨g, 0, none⟩) L cap) := ⟨_, rfl⟩
    have HG : Hid (HoldsK encE 3 w1 g 0 l.toArray ∧ Below w.heap.size w w1 ∧ g < w1.heap.size ∧ cap ≤ 9223372036854775807 ∧ L ≤ cap) := by
      have hown2 := hown
      rw [← HL.out] at hown2
      have hh := holdsE_own hown2
      refine ⟨fun j hj => ?_, by rw [hw1]; exact B1.out.setCell (Nat.le_refl _) _, by rw [hw1]; simpa using hg1, by unfold maxLen at hcm; omega, hnc⟩
      have hb : w1.heap[g]? = w0.heap[g]? := by rw [hw1]; exact heap_set_ne (by omega)
      exact ⟨(World.cell?_of_block hb).trans (hh j hj).1, by have := (hh j hj).2; simpa [World.frozen?, hb] using this⟩
    have X2 : Hid (w1.heap[w.heap.size]? = some (.cells #[.int .i64 R, .int .i64 N, .slice (some ⟨g, 0, none⟩) L cap] 27 (0, 0)) ∧ w1.heap[w.heap.size + 1]? = some (.cells #[.int .i64 0, .int .i64 0, .slice none 0 0] 27 (0, 0))) := by
      show _ ∧ _
      rw [hw1]
      exact ⟨by rw [heap_set_eq X1.out.1]; rfl, (heap_set_ne (by omega)).trans X1.out.2⟩
    have z5 : w1.cell? ⟨w.heap.size, 2, none⟩ = some (.slice (some ⟨g, 0, none⟩) L cap) := cell_of X2.out.1 rfl
    clear hown hg hcs htk hB hnc hcm hg1
    go_upto_region 2 with (fail)
    rw [← hw1]
    clear hw1 X1 B1 HO z3 z4 hz1
    go_wp2_with fail
    go_loopg [3, 4, 12] L (fun g9 s3 s4 s12 wr => ∃ (k : Nat) (dk : Array E), (∃ u, u = s3) ∧ (∃ u, u = s4) ∧ s12 = .int .i64 (k : Int) ∧ k ≤ L ∧ L - k ≤ g9 ∧ dk.size = L ∧ Hid (HoldsK encE 3 wr g 0 dk ∧ dk.toList = (l.take k).map flp ++ l.drop k ∧ Below (w.heap.size + 2) w1 wr ∧ g < wr.heap.size))
    case atStart => exact ⟨0, l.toArray, ⟨_, rfl⟩, ⟨_, rfl⟩, rfl, by omega, by omega, by simpa using HL.out, HG.out.1, by simp, Below.refl _ _, HG.out.2.2.1⟩
    case round =>
      obtain ⟨k, dk, ⟨u3, rfl⟩, ⟨u4, rfl⟩, rfl, hk, hg9, hds, HI⟩ := hrel
      have X3 : Hid (wr.heap[w.heap.size]? = some (.cells #[.int .i64 R, .int .i64 N, .slice (some ⟨g, 0, none⟩) L cap] 27 (0, 0)) ∧ wr.heap[w.heap.size + 1]? = some (.cells #[.int .i64 0, .int .i64 0, .slice none 0 0] 27 (0, 0))) := ⟨(HI.out.2.2.1.block _ (by omega)).trans X2.out.1, (HI.out.2.2.1.block _ (by omega)).trans X2.out.2⟩
      have z6 : wr.cell? ⟨w.heap.size, 2, none⟩ = some (.slice (some ⟨g, 0, none⟩) L cap) := cell_of X3.out.1 rfl
      have hgr := HI.out.2.2.2
      by_cases hlt : k < L
      · obtain ⟨e, he⟩ : ∃ y, l[k]? = some y := ⟨_, List.getElem?_eq_getElem (by have := HL.out; omega)⟩
        have hdk := turn_get he HI.out.2.1
        have HT := Lib.hid (turn_list he HI.out.2.1)
        obtain ⟨x, y, z⟩ := e
        obtain ⟨⟨c0, c1, c2⟩, f0, f1, f2⟩ := he_cells HI.out.1 (show k < dk.size by omega) hdk
        simp only [Nat.zero_add] at c0 c1 c2 f0 f1 f2
        have HEND : Hid (∀ W, Below wr.heap.size wr W → HoldsK encE 3 (((W.setCell ⟨g, k * 3, none⟩ (.int .i64 y)).setCell ⟨g, k * 3 + 1, none⟩ (.int .i64 x)).setCell ⟨g, k * 3 + 2, none⟩ (.int .i64 z)) g 0 (dk.setIfInBounds k (flp (x, y, z))) ∧ Below (w.heap.size + 2) w1 (((W.setCell ⟨g, k * 3, none⟩ (.int .i64 y)).setCell ⟨g, k * 3 + 1, none⟩ (.int .i64 x)).setCell ⟨g, k * 3 + 2, none⟩ (.int .i64 z)) ∧ g < (((W.setCell ⟨g, k * 3, none⟩ (.int .i64 y)).setCell ⟨g, k * 3 + 1, none⟩ (.int .i64 x)).setCell ⟨g, k * 3 + 2, none⟩ (.int .i64 z)).heap.size) := fun W hW => by
          have hs := holdsE_store (W := W) (holdsE_below HI.out.1 hW hgr) (i := k) (by omega) (flp (x, y, z))
          rw [Nat.zero_add] at hs
          have hb := HI.out.2.2.1.trans (hW.mono (show w.heap.size + 2 ≤ wr.heap.size by omega))
          exact ⟨hs, ((hb.setCell hgz _).setCell hgz _).setCell hgz _, by have := hW.size; simp; omega⟩
        have z6a := fun o => carry (below_alloc wr o) z6
        have hwz : w.heap.size < wr.heap.size := by omega
        clear he hdk
        go_wp2_with fail
        go_roundg (L - (k + 1))
        case measure => omega
        case rel =>
          have := HEND.out _ (Below.refl _ wr)
          exact ⟨k + 1, dk.setIfInBounds k (flp (x, y, z)), ⟨_, rfl⟩, ⟨_, rfl⟩, by go_num, by omega, Nat.le_refl _, by simpa using hds, holdsE_below this.1 (below_alloc _ _) this.2.2, HT.out, this.2.1.trans ((below_alloc _ _).mono (by simp; omega)), by have := this.2.2; simp at this ⊢; omega⟩
      · have hkl : k = L := by omega
        have HD : Hid (Calls Try.prog 116 #[.slice (some ⟨g, 0, none⟩) L cap, .func (.func 107) #[] #[]] wr fun e w' => e = .returned (.tuple #[]) ∧ ∃ o : List E, SrtE o ∧ Stb (l.map flp) o ∧ OwnS (w.heap.size + 2) w' (.slice (some ⟨g, 0, none⟩) L cap) o ∧ wr.grownBy w' (some g)) := by
          have hdl : dk.toList = l.map flp := by
            rw [HI.out.2.1, hkl, ← HL.out, List.take_length, List.drop_length, List.append_nil]
          have hda : dk = (l.map flp).toArray := by rw [← hdl]
          have hh := HI.out.1
          rw [hda] at hh
          have := sortStable_any (l.map flp) g cap wr (by unfold Fits; rw [List.length_map]; have := HL.out; omega) hh hgr
          rw [List.length_map, HL.out] at this
          refine this.mono ?_
          rintro e w' ⟨rfl, d', h1, h2, h3, h4, h5⟩
          refine ⟨rfl, d'.toList, h1, h2, .inr ⟨g, hgz, cap, by simp [h3], by simp [h3]; exact HG.out.2.2.2.2, HG.out.2.2.2.1, by simpa using h4, Nat.lt_of_lt_of_le hgr h5.size⟩, h5⟩
        clear hkl
        go_wp2_with fail
        go_at_call 116
        refine HD.out.mono ?_
        rintro e w2 ⟨rfl, o, hs1, hs2, ho2, hgr2⟩
        have HS : Hid (SrtE o ∧ Stb (l.map flp) o) := ⟨hs1, hs2⟩
        have O2 : Hid (OwnS (w.heap.size + 2) w2 (.slice (some ⟨g, 0, none⟩) L cap) o) := ho2
        have B2 : Hid (Below w.heap.size w w2) := (HG.out.2.1.trans (HI.out.2.2.1.mono (by omega))).grown hgr2 (by omega) (fun j hj => by cases hj; omega)
        have X2 : Hid (w2.heap[w.heap.size]? = some (.cells #[.int .i64 R, .int .i64 N, .slice (some ⟨g, 0, none⟩) L cap] 27 (0, 0)) ∧ w2.heap[w.heap.size + 1]? = some (.cells #[.int .i64 0, .int .i64 0, .slice none 0 0] 27 (0, 0))) := ⟨(hgr2.block _ (by omega) (fun e => by cases e; omega)).trans X3.out.1, (hgr2.block _ (by omega) (fun e => by cases e; omega)).trans X3.out.2⟩
        clear HD HI hs1 hs2 ho2 hgr2 X3 z6
        have z0 : w2.cell? ⟨w.heap.size, 0, none⟩ = some (.int .i64 R) := cell_of X2.out.1 rfl
        have z1 : w2.cell? ⟨w.heap.size, 1, none⟩ = some (.int .i64 N) := cell_of X2.out.1 rfl
        have z2 : w2.cell? ⟨w.heap.size, 2, none⟩ = some (.slice (some ⟨g, 0, none⟩) L cap) := cell_of X2.out.1 rfl
        have y0 : w2.cell? ⟨w.heap.size + 1, 0, none⟩ = some (.int .i64 0) := cell_of X2.out.2 rfl
        have y1 : w2.cell? ⟨w.heap.size + 1, 1, none⟩ = some (.int .i64 0) := cell_of X2.out.2 rfl
        have y2 : w2.cell? ⟨w.heap.size + 1, 2, none⟩ = some (.slice none 0 0) := cell_of X2.out.2 rfl
        have y3 : w2.frozen? ⟨w.heap.size + 1, 0, none⟩ = false := free_of X2.out.2 _
        have y4 : w2.frozen? ⟨w.heap.size + 1, 1, none⟩ = false := free_of X2.out.2 _
        have y5 : w2.frozen? ⟨w.heap.size + 1, 2, none⟩ = false := free_of X2.out.2 _
        have HEND : Hid (∀ u1 u2 u3, OwnS w.heap.size (((w2.setCell ⟨w.heap.size + 1, 0, none⟩ u1).setCell ⟨w.heap.size + 1, 1, none⟩ u2).setCell ⟨w.heap.size + 1, 2, none⟩ u3) (.slice (some ⟨g, 0, none⟩) L cap) o ∧
            Below w.heap.size w (((w2.setCell ⟨w.heap.size + 1, 0, none⟩ u1).setCell ⟨w.heap.size + 1, 1, none⟩ u2).setCell ⟨w.heap.size + 1, 2, none⟩ u3)) := fun u1 u2 u3 =>
          ⟨(((O2.out.setCell (by omega)).setCell (by omega)).setCell (by omega)).mono (by omega), ((B2.out.setCell (Nat.le_succ _) _).setCell (Nat.le_succ _) _).setCell (Nat.le_succ _) _⟩
        go_wp2
        (try simp only [Exit.inBlock, Exit.then])
        refine bodyPost_ret (v := .agg #[.int .i64 R, .int .i64 N, .slice (some ⟨g, 0, none⟩) L cap]) (by rw [results_cell_one rfl]; go_simp) rfl ?_
        exact ⟨_, o, rfl, (HEND.out _ _ _).1, HS.out, (HEND.out _ _ _).2⟩
end Go.Proofs.Ytmbogobebllheaa
namespace Go.Proofs.Ytmbogobebllheaa
open Go.RowKit GM Go.Sort Go.Lib
set_option linter.unusedSimpArgs false
set_option linter.unusedVariables false
set_option maxHeartbeats 4000000
set_option maxRecDepth 100000
theorem leads_any (e : E) (a b : Int) (w : World) : Calls Try.prog 138 #[.agg #[.int .i64 e.1, .int .i64 e.2.1, .int .i64 e.2.2], .int .i64 a, .int .i64 b] w fun en w' => en = .returned (.bool (ldB e a b)) ∧ Gr w w' := by
  obtain ⟨x, y, z⟩ := e
  dsimp only
  by_cases h1 : x = a
  · subst h1
    by_cases h2 : y = b
    · subst h2
      have H : Hid (ldB (x, y, z) x y = true) := decide_eq_true ⟨rfl, rfl⟩
      go_enter Try.func138, Try.ntmps138
      go_wp2
      go_ret
      exact ⟨by rw [H.out]; rfl, (Gr.refl w).alloc _⟩
    · have H : Hid (ldB (x, y, z) x b = false) := decide_eq_false (fun h => h2 h.2)
      go_enter Try.func138, Try.ntmps138
      go_wp2
      go_ret
      exact ⟨by rw [H.out]; rfl, (Gr.refl w).alloc _⟩
  · have H : Hid (ldB (x, y, z) a b = false) := decide_eq_false (fun h => h1 h.1)
    go_enter Try.func138, Try.ntmps138
    go_wp2
    go_ret
    exact ⟨by rw [H.out]; rfl, (Gr.refl w).alloc _⟩
theorem cost_any (R N a b : Int) (l : List E) (s : Value) (w : World) (hr : Rd3 w s l) :
    Calls Try.prog 114 #[.agg #[.int .i64 R, .int .i64 N, s], .int .i64 a, .int .i64 b] w fun e w' => e = .returned (.tuple #[.int .i64 (cstF a b l).1, .bool (cstF a b l).2]) ∧ Below w.heap.size w w' := by
  obtain ⟨ad, cap, rfl, hcap1, hcap2, hc⟩ := hr
  have HC := Lib.hid hc
  obtain ⟨L, hL⟩ : ∃ L, l.length = L := ⟨_, rfl⟩
  rw [hL] at hcap1 ⊢
  have HL := Lib.hid hL
  have hL2 : L ≤ 9223372036854775807 := by omega
  have HB : Hid (Below w.heap.size w (w.alloc (.cells #[.int .i64 R, .int .i64 N, .slice ad L cap] 27))) := below_alloc _ _
  have H0 : Hid (∀ j f, l[j]? = some f → j < 0 → ¬ (f.1 = a ∧ f.2.1 = b)) := fun j f _ h => by omega
  have HLD : Hid (∀ e W, Calls Try.prog 138 #[.agg #[.int .i64 e.1, .int .i64 e.2.1, .int .i64 e.2.2], .int .i64 a, .int .i64 b] W fun en w' => en = .returned (.bool (ldB e a b)) ∧ Gr W w') := fun e W => leads_any e a b W
  clear hc hL
  go_enter Try.func114, Try.ntmps114
  go_wp2_with fail
  go_loopg [13, 9] L (fun g s13 s9 wr => ∃ k : Nat, k ≤ L ∧ L - k ≤ g ∧ s13 = .int .i64 (k : Int) ∧ (∃ v, v = s9) ∧ Hid (∀ j f, l[j]? = some f → j < k → ¬ (f.1 = a ∧ f.2.1 = b)) ∧ Hid (Below w.heap.size w wr))
  case atStart => exact ⟨0, by omega, by omega, rfl, ⟨_, rfl⟩, H0, HB⟩
  case round =>
    clear H0 HB
    obtain ⟨k, hk, hkg, rfl, ⟨v9, rfl⟩, H0, HB⟩ := hrel
    by_cases hlt : k < L
    · obtain ⟨e, he⟩ : ∃ y, l[k]? = some y := ⟨_, List.getElem?_eq_getElem (by have := HL.out; omega)⟩
      obtain ⟨bl, off, rfl, hbl, c0, c1, c2⟩ := HC.out k e he
      have d0 := carryB HB.out hbl c0
      have d1 := carryB HB.out hbl c1
      have d2 := carryB HB.out hbl c2
      have HE := Lib.hid he
      have HLe : Hid (∀ W, Calls Try.prog 138 #[.agg #[.int .i64 e.1, .int .i64 e.2.1, .int .i64 e.2.2], .int .i64 a, .int .i64 b] W fun en w' => en = .returned (.bool (ldB e a b)) ∧ Gr W w') := fun W => HLD.out e W
      have k1 : (k : Int) < (L : Int) := by omega
      have HNX : Hid (¬ (e.1 = a ∧ e.2.1 = b) → ∀ j f, l[j]? = some f → j < k + 1 → ¬ (f.1 = a ∧ f.2.1 = b)) := fun hn j f hj hjk => by
        rcases (by omega : j < k ∨ j = k) with h | h
        · exact H0.out j f hj h
        · subst h; rw [HE.out] at hj; cases hj; exact hn
      clear c0 c1 c2 he
      by_cases hm : e.1 = a ∧ e.2.1 = b
      · have hld : ldB e a b = true := decide_eq_true hm
        rw [hld] at HLe
        have HF : Hid (cstF a b l = (e.2.2, true)) := cstF_some HE.out hm H0.out
        obtain ⟨x, y, z⟩ := e
        dsimp only at d0 d1 d2 HLe HF
        clear hm hld HNX H0
        go_wp2_with fail
        go_at_call 138
        refine (HLe.out _).mono ?_
        rintro en w3 ⟨rfl, hg⟩
        have c2 : w3.cell? ⟨wr.heap.size, 2, none⟩ = some (.int .i64 z) := carry hg.below (by simp)
        have HB3 : Hid (Below w.heap.size w w3) := below_then (below_then HB.out (below_alloc _ _)) hg.below
        clear hg
        go_wp2
        go_ret2
        exact ⟨by rw [HF.out]; rfl, HB3.out⟩
      · have hld : ldB e a b = false := decide_eq_false hm
        rw [hld] at HLe
        have HN : Hid (∀ j f, l[j]? = some f → j < k + 1 → ¬ (f.1 = a ∧ f.2.1 = b)) := HNX.out hm
        obtain ⟨x, y, z⟩ := e
        dsimp only at d0 d1 d2 HLe
        clear hm hld HNX H0
        go_wp2_with fail
        go_at_call 138
        refine (HLe.out _).mono ?_
        rintro en w3 ⟨rfl, hg⟩
        have HB3 : Hid (Below w.heap.size w w3) := below_then (below_then HB.out (below_alloc _ _)) hg.below
        clear hg
        go_wp2_with fail
        go_roundg (L - (k + 1))
        case measure => omega
        case rel => exact ⟨k + 1, by omega, Nat.le_refl _, by go_num, ⟨_, rfl⟩, HN, HB3⟩
    · have k1 : decide ((k : Int) < (L : Int)) = false := decide_eq_false (by omega)
      have HF : Hid (cstF a b l = (0, false)) := cstF_none fun y hy => by
        obtain ⟨j, hj, e⟩ := List.getElem_of_mem hy
        exact H0.out j y (by rw [List.getElem?_eq_getElem hj, e]) (by have := HL.out; omega)
      clear H0
      go_wp2
      go_ret2
      exact ⟨by rw [HF.out]; rfl, HB.out⟩
namespace GM
theorem stb_len {l m : List E} (h : Stb l m) : l.length = m.length := by
  have : l.Perm m := by
    rw [List.perm_iff_count]
    intro x
    have h1 := h x
    have hc : ∀ (k : List E), (k.filter (sm x)).count x = k.count x := fun k => List.count_filter (sm_iff.2 ⟨rfl, rfl⟩)
    rw [← hc l, ← hc m, h1]
  exact this.length_eq
theorem srt_asc {l o : List E} (hd : l.Pairwise (fun a b => ¬ (a.1 = b.1 ∧ a.2.1 = b.2.1))) (hs : SrtE o) (h : Stb l o) : o.Pairwise (fun a b => bef a b = true) := by
  have hno : ∀ c : E, (o.filter (sm c)).length ≤ 1 := fun c => by
    rw [h c]
    have hp := hd.sublist (List.filter_sublist (p := sm c))
    match hf : l.filter (sm c) with
    | [] => simp
    | [x] => simp
    | x :: y :: r =>
      rw [hf] at hp
      have hx := sm_iff.1 (List.mem_filter.1 (hf ▸ List.mem_cons_self : x ∈ l.filter (sm c))).2
      have hy := sm_iff.1 (List.mem_filter.1 (hf ▸ (List.mem_cons_of_mem x List.mem_cons_self) : y ∈ l.filter (sm c))).2
      have := (List.pairwise_cons.1 hp).1 y List.mem_cons_self
      exact absurd ⟨by omega, by omega⟩ this
  refine List.pairwise_iff_getElem.2 fun i j hi hj hij => ?_
  have h1 := List.pairwise_iff_getElem.1 hs i j hi hj hij
  refine bef_conn h1 fun hsm => ?_
  have hsub : [o[i], o[j]].Sublist o := by
    have e : o = o.take i ++ o[i] :: o.drop (i + 1) := by rw [← List.drop_eq_getElem_cons hi, List.take_append_drop]
    have hm : o[j] ∈ o.drop (i + 1) := by
      have : (o.drop (i + 1))[j - (i + 1)]? = some o[j] := by rw [List.getElem?_drop, show i + 1 + (j - (i + 1)) = j by omega]; exact List.getElem?_eq_getElem hj
      exact List.mem_of_getElem? this
    conv => rhs; rw [e]
    exact ((List.singleton_sublist.2 hm).cons_cons o[i]).trans (List.sublist_append_right _ _)
  have h2 := (hsub.filter (sm o[i])).length_le
  have hii : sm o[i] o[i] = true := sm_iff.2 ⟨rfl, rfl⟩
  have hij2 : sm o[i] o[j] = true := sm_iff.2 ⟨hsm.1, hsm.2⟩
  rw [List.filter_cons, if_pos hii, List.filter_cons, if_pos hij2] at h2
  have := hno o[i]
  simp at h2
  omega
theorem valid_rev {R : Int} {l o : List E} (h : Valid R 0 l) (hs : SrtE o ∧ Stb (l.map flp) o) : Valid R 0 o := by
  have hlen := stb_len hs.2
  rw [List.length_map] at hlen
  refine ⟨h.r, h.n, h.s, by have := h.len; omega, fun e he => ?_, srt_asc (l := l.map flp) ?_ hs.1 hs.2⟩
  · obtain ⟨x, hx, rfl⟩ := List.mem_map.1 (hs.2.mem.1 he)
    have := alw_cases.1 (h.al x hx)
    refine alw_cases.2 ⟨this.2.1, this.1, fun e => this.2.2.1 e.symm, fun e => this.2.2.2.1 ⟨e.2, e.1⟩, ?_⟩
    have hc := this.2.2.2.2
    unfold costOK at hc ⊢
    have h1 : ¬ R ≤ x.1 := by omega
    have h2 : ¬ R ≤ (flp x).1 := by show ¬ R ≤ x.2.1; omega
    rw [if_neg h1] at hc
    rw [if_neg h2]
    exact hc
  · rw [List.pairwise_map]
    exact h.asc.imp fun {a b} hab he => by
      rw [bef_iff] at hab
      have h1 : a.2.1 = b.2.1 := he.1
      have h2 : a.1 = b.1 := he.2
      omega
end GM
end Go.Proofs.Ytmbogobebllheaa
namespace Go.Proofs.Ytmbogobebllheaa
open Go.RowKit GM Go.Sort
set_option linter.unusedSimpArgs false
set_option linter.unusedVariables false
set_option maxHeartbeats 4000000
set_option maxRecDepth 100000
namespace GM
/-- strictly ascending -/
abbrev SAsc (l : List Int) : Prop := l.Pairwise (· < ·)
def insI (n : Int) : List Int → List Int
  | [] => [n]
  | y :: r => if n ≤ y then n :: (y :: r).filter (fun x => decide (x ≠ n)) else y :: insI n r
theorem insI_len {n : Int} : ∀ {l : List Int}, (insI n l).length ≤ l.length + 1
  | [] => by simp [insI]
  | z :: r => by
    unfold insI
    split
    · have := List.length_filter_le (fun x => decide (x ≠ n)) (z :: r)
      simp only [List.length_cons] at *
      omega
    · have := insI_len (n := n) (l := r)
      simp only [List.length_cons]; omega
/-- in the midst of inserting -/
def InsP (n : Int) (l : List Int) (i : Nat) (d : Bool) (out : List Int) : Prop := if d = true then insI n l = out ++ (l.drop i).filter (fun x => decide (x ≠ n)) else out = l.take i ∧ insI n l = l.take i ++ insI n (l.drop i)
theorem InsP.start {n : Int} {l : List Int} : InsP n l 0 false [] := by unfold InsP; simp
theorem InsP.on {n y : Int} {l : List Int} {i : Nat} {out : List Int} (h : InsP n l i true out) (hy : l[i]? = some y) (hn : y ≠ n) : InsP n l (i + 1) true (out ++ [y]) := by
  unfold InsP at *
  simp only [if_true] at *
  obtain ⟨hk, he⟩ := List.getElem?_eq_some_iff.1 hy
  rw [h, List.append_assoc, List.drop_eq_getElem_cons hk, he, List.filter_cons, if_pos (decide_eq_true hn)]; rfl
theorem InsP.here {n y : Int} {l : List Int} {i : Nat} {out : List Int} (h : InsP n l i false out) (hy : l[i]? = some y) (hb : n ≤ y) : InsP n l i true (out ++ [n]) := by
  unfold InsP at *
  simp only [Bool.false_eq_true, if_false, if_true] at *
  obtain ⟨hk, he⟩ := List.getElem?_eq_some_iff.1 hy
  rw [h.2, List.drop_eq_getElem_cons hk, he, insI, if_pos hb, h.1]; simp
theorem InsP.len {n : Int} {l : List Int} {i : Nat} {d : Bool} {out : List Int} (h : InsP n l i d out) (hi : i ≤ l.length) : out.length ≤ l.length + 1 := by
  unfold InsP at h
  split at h
  · have h1 := congrArg List.length h
    have h2 := insI_len (n := n) (l := l)
    rw [List.length_append] at h1
    omega
  · rw [h.1, List.length_take]; omega
end GM
/-- a row of integers of the call's own, from block B on -/
abbrev OwnI (B : Nat) (W : World) (v : Value) (o : List Int) : Prop := W.ownsRow B 3 1 v o.length (ints o)
theorem OwnI.push {B : Nat} {W2 : World} {v' : Value} {o : List Int} (y : Int) (hown : W2.ownsRow B 3 1 v' (o.length + 1) (ints o ++ [.int .i64 y])) : OwnI B W2 v' (o ++ [y]) := by
  have e : ints (o ++ [y]) = ints o ++ [.int .i64 y] := by simp [ints]
  unfold OwnI
  rw [e, List.length_append]
  exact hown
theorem rdI_own {B : Nat} {W : World} {v : Value} {o : List Int} (h : OwnI B W v o) : RdI W v o := by
  rcases h.2 with ⟨rfl, hn⟩ | ⟨g, cap, cur, rfl, hB, hg, hnc, hcm, _, _⟩
  · obtain rfl := List.length_eq_zero_iff.1 hn
    exact rdI_nil W
  · refine ⟨some ⟨g, 0, none⟩, cap, rfl, hnc, by unfold maxLen at hcm; omega, fun k x hk => ⟨g, 0, rfl, lt_block hg, ?_⟩⟩
    have hlt := (List.getElem?_eq_some_iff.1 hk).1
    rw [Nat.zero_add, h.cellAt k (by omega)]; exact ints_get hk
theorem cellI_new (w : World) (x : Value) (t : TypeId) {b : Nat} (hb : b = w.heap.size) : ∀ j u, [x][j]? = some u → (w.alloc (.cells #[x] t)).cell? ((⟨b, 0, none⟩ : Addr).add j) = some u := by
  subst hb
  intro j u hj
  match j, hj with
  | 0, hj => simp at hj; subst hj; simp [Addr.add]
  | (j + 1), hj => simp at hj
/-- o in a row of the call's own, nothing older changed -/
def InsS (w : World) (v : Value) (o : List Int) (W : World) : Prop := OwnI w.heap.size W v o ∧ Below w.heap.size w W
theorem InsS.push {w W W2 : World} {v v' : Value} {o : List Int} (h : InsS w v o W) (y : Int) (ob : Obj) (hown : W2.ownsRow w.heap.size 3 1 v' (o.length + 1) (ints o ++ [.int .i64 y])) (hg : (W.alloc ob).grownBy W2 v.ownBlock) : InsS w v' (o ++ [y]) W2 :=
  ⟨OwnI.push y hown, (h.2.alloc h.2.size ob).grown hg (by have := h.2.size; simp; omega) (fun k hk => (row_lt h.1 hk).1)⟩
namespace GM
/-- r: the nodes to which edges of a node lead, ascending -/
def NextOf (l : List E) (a : Int) (r : List Int) : Prop := SAsc r ∧ ∀ x, x ∈ r ↔ ∃ e ∈ l, e.1 = a ∧ e.2.1 = x
theorem NextOf.nil {a : Int} : NextOf [] a [] := ⟨List.Pairwise.nil, fun x => by simp⟩
theorem NextOf.no {l : List E} {a : Int} {r : List Int} {e : E} (h : NextOf l a r) (he : e.1 ≠ a) : NextOf (l ++ [e]) a r := by
  refine ⟨h.1, fun x => ?_⟩
  rw [h.2]
  simp only [List.mem_append, List.mem_singleton]
  constructor
  · rintro ⟨f, h1, h2⟩; exact ⟨f, .inl h1, h2⟩
  · rintro ⟨f, h1 | rfl, h2, h3⟩
    · exact ⟨f, h1, h2, h3⟩
    · exact absurd h2 he
end GM
end Go.Proofs.Ytmbogobebllheaa
