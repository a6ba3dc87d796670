/-
  slices.Grow of nothing and slices.Concat of lists of communities.
-/
import Derived.Test.YtaniiennfogjaaaDoorCmE
import Derived.Test.YtaniiennfogjaaaDoorCmF
import Derived.Lib.AppendZeros
import Derived.Laws.AppendOwnNone
namespace Go.Proofs.YtaniiennfogjaaaDoor
open Go.RowKit T
set_option linter.unusedSimpArgs false
set_option linter.unusedVariables false
set_option maxHeartbeats 1500000
set_option maxRecDepth 100000

/-- a nil slice has no capacity -/
def NilV (v : Value) : Prop := ∀ n c, v = .slice none n c → c = 0
theorem OwnA.nilV {B : Nat} {w : World} {v : Value} {l : List Nat} (h : OwnA B w v l) : NilV v := fun n c e => by
  rcases h.2.2 with ⟨h', _⟩ | ⟨g, cap, cur, h', _⟩
  · rw [e] at h'; injection h'
  · rw [e] at h'; cases h'
theorem append_rd {w : World} {ops : Array Oper} {rest : List Oper} {o : Oper} {a : Act} {Q : Exit → Act → World → Prop} (hgd : o.guard = none) (s x : Operand)
    (ho : o.op = .call { callee := .builtin .append, args := #[s, x], argTypes := #[22, 22] }) (B : Nat) (hB : B ≤ w.heap.size)
    (v : Value) (l : List Nat) (hs : a.eval s = v) (hown : OwnA B w v l) (vx : Value) (m : List Nat) (hx : a.eval x = vx) (hr : Rd w vx m) (hn : NilV vx) (hlen : l.length + m.length ≤ 1000000)
    (h : ∀ v' w', OwnA B w' v' (l ++ m) → Below B w w' → wpList Tryd.prog ops Q rest (a.put o.dst v') w') : wpList Tryd.prog ops Q (o :: rest) a w := by
  obtain ⟨i0, hi, hz0, hz1, hz2⟩ := infoE_parts info27
  obtain ⟨ad, cap, e, hcap, h32, hc⟩ := id hr
  subst e
  cases ad with
  | none =>
    have h0 : m = [] := by
      cases m with
      | nil => rfl
      | cons y r => obtain ⟨b, off, e, _⟩ := hc 0 y rfl; cases e
    subst h0
    have hcap : cap = 0 := hn _ _ rfl
    subst hcap
    refine wpList_append_own_none hgd s x 22 ho B 27 i0 1 Tryd.underlying22 hi v l.length (adV l) hs hown.2 hx (h v w ?_ (Below.refl _ _))
    rw [List.append_nil]; exact hown
  | some A =>
    have hsp : ∀ j u, (adV m)[j]? = some u → w.cell? (A.add j) = some u := fun j u hj => by
      unfold adV at hj
      rw [List.getElem?_map] at hj
      cases hx : m[j]? with
      | none => rw [hx] at hj; cases hj
      | some y =>
        rw [hx] at hj
        obtain rfl := Option.some.inj hj
        obtain ⟨b, off, e, _, hcell⟩ := hc j y hx
        injection e with e
        subst e
        rw [Addr.add_lit]; exact hcell
    refine wpList_append_own _ hgd s x 22 ho B 27 i0 (.int .u32 0) 1 4 Tryd.underlying22 hi hz0 hz1 hz2 rfl (by decide) v l.length (adV l) hs hown.2 A m.length cap (adV m) hx (by simp [adV]) hsp (adV_one m) (by unfold maxLen; omega) (by omega) hB fun v' w' h1 h2 _ => h v' w' ?_ ?_
    · have hb := (Below.refl _ w).grown h2 hB (fun k hk => (hown.lt k hk).1)
      refine ⟨Nat.le_trans hB hb.size, ?_⟩
      rw [adV_app, List.length_append]; exact h1
    · exact (Below.refl _ w).grown h2 hB (fun k hk => (hown.lt k hk).1)
theorem grow0_any (n : Nat) (w : World) (hn : n ≤ 1000000) :
    Calls Tryd.prog 57 #[.slice none 0 0, .int .i64 (n : Int)] w fun e w' => ∃ v, e = .returned v ∧ InsS w v [] w' := by
  obtain ⟨i0, hi, hz0, hz1, hz2⟩ := infoE_parts info27
  have n0 : ¬ (n : Int) < 0 := by omega
  by_cases h0 : n = 0
  · subst h0
    go_enter Tryd.func57, Tryd.ntmps57
    go_wp2
    go_ret
    exact ⟨_, rfl, InsS.start w⟩
  · have n1 : (0 : Int) < (n : Int) := by omega
    have h := fun ty => Lib.run_append_nil_zeros (P := Tryd.prog) w 22 3 ty 27 i0 (.int .u32 0) .i64 .i64 Tryd.underlying22 Tryd.underlying3 hi hz0 n (by omega) (by omega) (by omega) (by rw [hz2]; omega)
    obtain ⟨G, hG⟩ : ∃ G, G = grownCap w n 0 27 := ⟨_, rfl⟩
    have hGm : G ≤ maxLen := by rw [hG]; exact grownCap_le_maxLen w n 0 27 (by unfold maxLen; omega)
    have hGn : n ≤ G := by rw [hG]; exact grownCap_ge w _ _ _
    rw [← hG] at h
    have hsz : (Builtin.zeroCells (Value.int .u32 0).cells n ++ Builtin.zeroCells (Value.int .u32 0).cells (G - n)).size = G * 1 := by
      simp [Builtin.zeroCells, Value.cells]; omega
    generalize Builtin.zeroCells (Value.int .u32 0).cells n ++ Builtin.zeroCells (Value.int .u32 0).cells (G - n) = Z at *
    have HI : Hid (InsS w (.slice (some ⟨w.heap.size, 0, none⟩) 0 G) [] (w.drew.alloc (.cells Z 27))) := by
      have hb : Below w.heap.size w (w.drew.alloc (.cells Z 27)) := (below_drewN (Below.refl _ w) 1).alloc (Nat.le_refl _) _
      exact ⟨⟨hb.size, World.ownsRow_made (base := w.heap.size) (e := 27) (size := 1) w.drew Z G (Nat.le_refl _) hGm hsz⟩, hb⟩
    have H := Lib.hid h
    clear h hG h0
    have g0 : (0 : Int) ≤ (G : Int) := by omega
    go_enter Tryd.func57, Tryd.ntmps57
    go_wp2_with (at_builtin; refine Lib.wpList_append_run _ rfl _ _ _ _ rfl _ _ rfl rfl _ _ (H.out _) ?_)
    go_ret
    exact ⟨_, rfl, HI.out⟩
end Go.Proofs.YtaniiennfogjaaaDoor
