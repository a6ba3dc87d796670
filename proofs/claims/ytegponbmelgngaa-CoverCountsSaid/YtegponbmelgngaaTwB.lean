/-
  The walk of the trie's below: a fork over a node that does not cover a prefix.
-/
import Derived.Test.YtegponbmelgngaaTwA
import Derived.Deep.DeepCutAuto
namespace Go.Proofs.Ytegponbmelgngaa
open Go.RowKit
set_option linter.unusedSimpArgs false
set_option linter.unusedVariables false
set_option maxHeartbeats 8000000
set_option maxRecDepth 100000

theorem below_any {g : Nat} {o : PP} {x : Int} {s : Bool} {c d : Value} (p : PP) (hp : PV p) (ho : PV o) (hc : C o p = false) (w : World) (h : IsNode w g o x s c d) :
    Calls Try.prog 113 #[.pointer (some ⟨g, 0, none⟩), .agg #[.int .u32 (p.1 : Nat), .int .i64 p.2]] w fun e w' => ∃ f, e = .returned (.pointer (some ⟨f, 0, none⟩)) ∧ w.heap.size ≤ f ∧
      IsNode w' f (shr p o) 0 false (kid0 (atZ o.1 (shr p o).2) (.pointer (some ⟨g, 0, none⟩))) (kid1 (atZ o.1 (shr p o).2) (.pointer (some ⟨g, 0, none⟩))) ∧ Below w.heap.size w w' := by
  have hcell := h.cells
  have hlt := h.lt
  obtain ⟨h0, h1, -, -, -, -⟩ := hcell
  have hI := (V_iff _).1 hp.2
  obtain ⟨b, m⟩ := p
  obtain ⟨a, n⟩ := o
  have hb : b < 4294967296 := hp.1
  have ha : a < 4294967296 := ho.1
  have hm0 : 0 ≤ m := hI.1
  have hm1 : m ≤ 32 := hI.2.1
  have hcl := M.comN_le b a
  have H := Lib.hid (And.intro h (And.intro hp (And.intro ho (And.intro hc hI))))
  clear h hp ho hc hI
  obtain ⟨⟨sa, sn⟩, hsh⟩ : ∃ q : PP, shr (b, m) (a, n) = q := ⟨_, rfl⟩
  have HS : Hid (sn = min m (M.comN b a : Nat)) := (congrArg Prod.snd hsh).symm
  have HM : Hid (∀ k, k = sn → ∀ W, Calls Try.prog 61 #[.int .u32 b, .int .i64 k] W fun e w' => e = .returned (.tuple #[.agg #[.int .u32 sa, .int .i64 sn], .int .i64 0]) ∧ Below W.heap.size W w') :=
    fun k hk W => by
      have h1 : sa = (shr (b, m) (a, n)).1 := (congrArg Prod.fst hsh).symm
      have h2 : sn = (shr (b, m) (a, n)).2 := (congrArg Prod.snd hsh).symm
      rw [hk, h1, h2]; exact make_yes b hb _ (by unfold shr; dsimp only; omega) (by unfold shr; dsimp only; omega) W
  have HSH := Lib.hid hsh
  clear hsh
  have hIs : I64 sn := by have := HS.out; constructor <;> omega
  have hz := atZ_le a sn
  go_enter Try.func113, Try.ntmps113
  go_upto_region 2 with fail
  go_cut [6, 7] (fun s6 s7 wx => ∃ f : Nat, s6 = .pointer (some ⟨f, 0, none⟩) ∧ s7 = .int .i64 0 ∧ wx.cell? ⟨f, 0, none⟩ = some (.int .u32 sa) ∧ wx.cell? ⟨f, 1, none⟩ = some (.int .i64 sn) ∧ wx.cell? ⟨w.heap.size, 0, none⟩ = some (.int .u32 b) ∧ wx.cell? ⟨w.heap.size, 1, none⟩ = some (.int .i64 m) ∧ wx.cell? ⟨w.heap.size + 1, 0, none⟩ = some (.int .u32 a) ∧ wx.cell? ⟨w.heap.size + 1, 1, none⟩ = some (.int .i64 n) ∧ Own w 2 wx)
  case first =>
    rcases (by omega : m ≤ (M.comN b a : Nat) ∨ (M.comN b a : Nat) < m) with hle | hle
    all_goals
      go_region_held3 (fun w' => w'.cell? ⟨w.heap.size, 0, none⟩ = some (.int .u32 b) ∧ w'.cell? ⟨w.heap.size, 1, none⟩ = some (.int .i64 m) ∧ w'.cell? ⟨w.heap.size + 1, 0, none⟩ = some (.int .u32 a) ∧ w'.cell? ⟨w.heap.size + 1, 1, none⟩ = some (.int .i64 n) ∧ Own w 2 w')
      (first | exact k4_start _ _ _ _ _ _ _ | exact k4_below ‹_› (below_alloc _ _) | (refine k4_set (k4_set ‹_› ?_ ?_ ?_ ?_ ?_) ?_ ?_ ?_ ?_ ?_ <;> (dsimp only; omega)) | go_keep)
      (first | (go_at_call 62; refine (com_any _ _ (by omega) (by omega) _).mono ?_; rintro e w1 ⟨rfl, rfl⟩) | (go_at_call 61; refine (HM.out _ (by have := HS.out; omega) _).mono ?_; rintro e w1 ⟨rfl, hb⟩; have hk := k4_below ‹_› hb; have hsz := hk.2.2.2.2.2; obtain ⟨hc1, hf1⟩ := bcell hb))
    all_goals (obtain ⟨k0, k1, k2, k3, k4⟩ := ‹_ ∧ _ ∧ _ ∧ _ ∧ Own _ _ _›)
    all_goals (go_wp2_with fail; go_meet; refine ⟨_, rfl, rfl, ?_, ?_, k0, k1, k2, k3, k4⟩)
    all_goals (first | (simp; done) | (simp [*]; done) | go_simp)
  case rest =>
    obtain ⟨f, rfl, rfl, j0, j1, k0, k1, k2, k3, k4⟩ := hcut
    have hsz := k4.2
    have KO := Lib.hid k4
    clear k4
    have al2 : ∀ o, (wc.alloc o).cell? ⟨w.heap.size + 1, 0, none⟩ = some (.int .u32 a) := fun o => carry (below_alloc _ _) k2
    have al3 : ∀ o, (wc.alloc o).cell? ⟨w.heap.size + 1, 1, none⟩ = some (.int .i64 n) := fun o => carry (below_alloc _ _) k3
    go_wp2_with (go_at_call 114; refine (toward_any (x := 0) (s := false) (c := .pointer none) (d := .pointer none) (p := (sa, sn)) a ha n _ hIs (isNode_new (sa, sn) 0 false _ _ (by simp))).mono ?_; rintro e w3 ⟨rfl, hb3⟩
                 have hN := (isNode_new (w := wc) (f := wc.heap.size) (sa, sn) 0 false (.pointer none) (.pointer none) rfl).below hb3
                 have hN3 := Lib.hid hN
                 have hkid := hN.kid2 hz
                 have hfree := hN.free (4 + atZ a sn)
                 have hO3 := Lib.hid ((KO.out.alloc _).then hb3)
                 clear hN hb3)
    go_ret
    refine ⟨_, rfl, by omega, ?_, hO3.out.1.setCell (by dsimp only; omega) _⟩
    rw [HSH.out]
    exact hN3.out.setK hz
end Go.Proofs.Ytegponbmelgngaa
