/-
  The walk of trie.Of, and the examples' answer.
-/
import Derived.Test.YtegponbmelgngaaTwL
namespace Go.Proofs.Ytegponbmelgngaa
open Go.RowKit
set_option linter.unusedSimpArgs false
set_option linter.unusedVariables false
set_option maxHeartbeats 4000000
set_option maxRecDepth 100000

def foldE (l : List En) : List En := l.foldl insE []
theorem foldE_snoc (l : List En) (x : En) : foldE (l ++ [x]) = insE (foldE l) x := by unfold foldE; rw [List.foldl_append]; rfl
theorem foldE_asc (l : List En) : AscE (foldE l) := by
  unfold foldE
  suffices h : ∀ (l out : List En), AscE out → AscE (l.foldl insE out) from h l [] List.Pairwise.nil
  intro l
  induction l with
  | nil => exact fun out h => h
  | cons x r ih => exact fun out h => ih _ (asc_insE x h)
theorem foldE_len : ∀ (l out : List En), AscE out → (l.foldl insE out).length ≤ out.length + l.length
  | [], out, _ => Nat.le_refl _
  | x :: r, out, h => by
    have h1 := foldE_len r (insE out x) (asc_insE x h)
    have h2 := insE_len h x
    rw [List.foldl_cons, List.length_cons]
    split at h2 <;> omega
theorem foldE_take_len (l : List En) (k : Nat) : (foldE (l.take k)).length ≤ k := by
  have := foldE_len (l.take k) [] List.Pairwise.nil
  have h2 := List.length_take_le k l
  simp at this; unfold foldE; omega
theorem take_snoc {l : List En} {k : Nat} {x : En} (h : l[k]? = some x) : l.take (k + 1) = l.take k ++ [x] := by
  have hlt := (List.getElem?_eq_some_iff.1 h).1
  rw [List.take_succ_eq_append_getElem hlt, (List.getElem?_eq_some_iff.1 h).2]
def allV (l : List En) : Bool := l.all (fun x => V x.1)
def OfPost (w : World) (l : List En) : Ending → World → Prop := fun en w' =>
  if allV l = true then ∃ t gs, en = .returned (.tuple #[t, .int .i64 0]) ∧ TrieR w' t (foldE l) gs ∧ (∀ g ∈ gs, w.heap.size ≤ g) ∧ Below w.heap.size w w'
  else en = .returned (.tuple #[.pointer none, .int .i64 1]) ∧ Below w.heap.size w w'
/-- entries whose numbers fit -/
def Fit (l : List En) : Prop := ∀ x ∈ l, x.1.1 < 4294967296 ∧ I64 x.1.2
theorem carry' {B : Nat} {W w1 : World} {b o : Nat} {v : Value} (hb : Below B W w1) (hlt : b < B) (h : W.cell? ⟨b, o, none⟩ = some v) : w1.cell? ⟨b, o, none⟩ = some v := (hb.cell (p := ⟨b, o, none⟩) hlt).trans h
theorem of_any (l : List En) (v : Value) (w : World) (hl : l.length ≤ 900) (hf : Fit l) (hr : RdE w v l) :
    Calls Try.prog 87 #[v] w (OfPost w l) := by
  obtain ⟨ad, cap, rfl, hc⟩ := hr
  have HC : Hid (∀ k x, l[k]? = some x → ∃ b off, ad = some ⟨b, off, none⟩ ∧ b < w.heap.size ∧ w.cell? ⟨b, off + k * 3, none⟩ = some (.int .u32 (x.1.1 : Int)) ∧ w.cell? ⟨b, off + k * 3 + 1, none⟩ = some (.int .i64 x.1.2) ∧ w.cell? ⟨b, off + k * 3 + 2, none⟩ = some (.int .i64 x.2)) := hc
  have HF := Lib.hid hf
  clear hc hf
  go_enter Try.func87, Try.ntmps87
  go_wp2_with (go_at_call 41; refine (new_any _).mono ?_; rintro e w0 ⟨t, gs0, rfl, hT0, hgs0, hb0⟩; have T0 := Lib.hid hT0; have G0 := Lib.hid hgs0; have B0 := Lib.hid hb0; obtain ⟨gt, rfl, -⟩ := hT0.ptr; clear hT0 hgs0 hb0)
  go_loopg [12] l.length (fun g s12 wr => ∃ (k : Nat) (gs : List Nat), k ≤ l.length ∧ l.length - k ≤ g ∧ s12 = .int .i64 k ∧ allV (l.take k) = true ∧ TrieR wr (.pointer (some ⟨gt, 0, none⟩)) (foldE (l.take k)) gs ∧ (∀ g ∈ gs, w.heap.size ≤ g) ∧ Below w.heap.size w wr)
  case atStart => exact ⟨0, gs0, by omega, by omega, rfl, rfl, T0.out, G0.out, B0.out⟩
  case round =>
    obtain ⟨k, gs, hk, hg, rfl, hV, hT, hgs, hbw⟩ := hrel
    have HT := Lib.hid hT
    have HG := Lib.hid hgs
    have HB := Lib.hid hbw
    have HV := Lib.hid hV
    have HL := Lib.hid (foldE_take_len l k)
    clear hT hgs hbw hV
    by_cases hlt : k < l.length
    · obtain ⟨x, hx⟩ : ∃ x, l[k]? = some x := ⟨_, List.getElem?_eq_getElem hlt⟩
      obtain ⟨blk, off, rfl, hblk, hc0, hc1, hc2⟩ := HC.out k x hx
      have HX := Lib.hid hx
      have hfx := HF.out x (List.mem_of_getElem? hx)
      have f0 := carry' HB.out hblk hc0
      have f1 := carry' HB.out hblk hc1
      have f2 := carry' HB.out hblk hc2
      have HM : Hid (allV l = true → V x.1 = true) := fun h => List.all_eq_true.1 h x (List.mem_of_getElem? hx)
      clear hc0 hc1 hc2 hx
      obtain ⟨⟨a, n⟩, y⟩ := x
      obtain ⟨hfa, hfn⟩ := hfx
      dsimp only at hfa hfn f0 f1 f2
      cases hv : V (a, n)
      · have HVF := Lib.hid hv
        clear hv
        go_wp2_with (go_at_call 42; refine (tput_bad gt (a, n) hfa hfn y HVF.out _).mono ?_; rintro e w1 ⟨rfl, hb1⟩; have B1 := Lib.hid hb1; clear hb1)
        go_ret2
        have hno : ¬ allV l = true := fun h => by have := HM.out h; rw [HVF.out] at this; cases this
        unfold OfPost
        rw [if_neg hno]
        exact ⟨rfl, below_then (below_then HB.out (below_alloc _ _)) B1.out⟩
      · have HVF := Lib.hid hv
        clear hv
        go_wp2_with (go_at_call 42; refine (tput_any _ (foldE (l.take k)) gs _ ((a, n), y) ⟨hfa, HVF.out⟩ (HT.out.below (below_alloc _ _)) (by have := HL.out; omega)).mono ?_; rintro e w1 ⟨gs1, rfl, hT1, hg1, hk1⟩; have T1 := Lib.hid hT1; have G1 := Lib.hid hg1; have K1 := Lib.hid hk1; clear hT1 hg1 hk1)
        go_roundg (l.length - (k + 1))
        case measure => omega
        case rel =>
          refine ⟨k + 1, gs1, by omega, Nat.le_refl _, by go_num, ?_, ?_, ?_, ?_⟩
          · rw [take_snoc HX.out]; unfold allV; rw [List.all_append]; have := HV.out; unfold allV at this; rw [this]; simp; exact HVF.out
          · rw [take_snoc HX.out, foldE_snoc]; exact T1.out
          · intro g hg
            have hs := HB.out.size
            rcases G1.out g hg with h | h
            · exact HG.out g h
            · simp at h; omega
          · exact (HB.out.alloc HB.out.size _).trans (K1.out.below (by have := HB.out.size; simp; omega) HG.out)
    · have hkl : k = l.length := by omega
      subst hkl
      go_wp2
      go_ret2
      have hv := HV.out
      have ht := HT.out
      rw [List.take_length] at hv ht
      unfold OfPost
      rw [if_pos hv]
      exact ⟨_, gs, rfl, ht, HG.out, HB.out⟩
theorem of_yes (l : List En) (v : Value) (w : World) (hl : l.length ≤ 900) (hf : Fit l) (hr : RdE w v l) (hv : allV l = true) :
    Calls Try.prog 87 #[v] w fun en w' => ∃ t gs, en = .returned (.tuple #[t, .int .i64 0]) ∧ TrieR w' t (foldE l) gs ∧ (∀ g ∈ gs, w.heap.size ≤ g) ∧ Below w.heap.size w w' :=
  (of_any l v w hl hf hr).mono fun en w' h => by unfold OfPost at h; rw [if_pos hv] at h; exact h
theorem of_no (l : List En) (v : Value) (w : World) (hl : l.length ≤ 900) (hf : Fit l) (hr : RdE w v l) (hv : allV l = false) :
    Calls Try.prog 87 #[v] w fun en w' => en = .returned (.tuple #[.pointer none, .int .i64 1]) ∧ Below w.heap.size w w' :=
  (of_any l v w hl hf hr).mono fun en w' h => by unfold OfPost at h; rw [if_neg (by rw [hv]; decide)] at h; exact h
end Go.Proofs.Ytegponbmelgngaa
