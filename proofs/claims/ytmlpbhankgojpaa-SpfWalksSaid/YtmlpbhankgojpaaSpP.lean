/-
  Shortest paths as mathematics: parents and first hops while a search goes on.
-/
import Derived.Test.YtmlpbhankgojpaaSpM
namespace Go.Proofs.Ytmlpbhankgojpaa.SP
open GM Classical
set_option linter.unusedVariables false
set_option linter.unusedSimpArgs false

/-- parents by the edges that were followed -/
def PX (l : List E) (s : Int) (X : E → Prop) (D : Int → Int) (v u : Int) : Prop := ∃ c, X (u, v, c) ∧ T l s u + c = D v
/-- first hops by the edges that were followed -/
def HX (R : Int) (l : List E) (s : Int) (X : E → Prop) (D : Int → Int) (v h : Int) : Prop := ∃ u c, X (u, v, c) ∧ T l s u + c = D v ∧ Con R s u v h (Hop R l s u)
def Par (l : List E) (s v u : Int) : Prop := ∃ c, (u, v, c) ∈ l ∧ 0 ≤ T l s u ∧ T l s u + c = T l s v
section
variable {R N : Int} {l : List E} {s : Int} {X : E → Prop} {D : Int → Int} {x v c : Int}
theorem PX.skip (hlt : D v < T l s x + c) (y u : Int) : PX l s (fun e => X e ∨ e = (x, v, c)) D y u ↔ PX l s X D y u := by
  constructor
  · rintro ⟨k, h1 | h1, h2⟩
    · exact ⟨k, h1, h2⟩
    · cases h1; omega
  · rintro ⟨k, h1, h2⟩; exact ⟨k, .inl h1, h2⟩
theorem HX.skip (hlt : D v < T l s x + c) (y h : Int) : HX R l s (fun e => X e ∨ e = (x, v, c)) D y h ↔ HX R l s X D y h := by
  constructor
  · rintro ⟨u, k, h1 | h1, h2⟩
    · exact ⟨u, k, h1, h2⟩
    · cases h1; have := h2.1; omega
  · rintro ⟨u, k, h1, h2⟩; exact ⟨u, k, .inl h1, h2⟩
theorem PX.same (hd : D v = T l s x + c) (y u : Int) : PX l s (fun e => X e ∨ e = (x, v, c)) D y u ↔ PX l s X D y u ∨ (y = v ∧ u = x) := by
  constructor
  · rintro ⟨k, h1 | h1, h2⟩
    · exact .inl ⟨k, h1, h2⟩
    · cases h1; exact .inr ⟨rfl, rfl⟩
  · rintro (⟨k, h1, h2⟩ | ⟨rfl, rfl⟩)
    · exact ⟨k, .inl h1, h2⟩
    · exact ⟨c, .inr rfl, hd.symm⟩
theorem HX.same (hd : D v = T l s x + c) (y h : Int) : HX R l s (fun e => X e ∨ e = (x, v, c)) D y h ↔ HX R l s X D y h ∨ (y = v ∧ Con R s x v h (Hop R l s x)) := by
  constructor
  · rintro ⟨u, k, h1 | h1, h2⟩
    · exact .inl ⟨u, k, h1, h2⟩
    · cases h1; exact .inr ⟨rfl, h2.2⟩
  · rintro (⟨u, k, h1, h2⟩ | ⟨rfl, h2⟩)
    · exact ⟨u, k, .inl h1, h2⟩
    · exact ⟨x, c, .inr rfl, hd.symm, h2⟩
theorem PX.less (hb : ∀ e, X e → e.2.1 = v → T l s x + c < T l s e.1 + e.2.2) (y u : Int) : PX l s (fun e => X e ∨ e = (x, v, c)) (nd D v (T l s x + c)) y u ↔ if y = v then u = x else PX l s X D y u := by
  unfold PX nd
  by_cases e : y = v
  · subst e
    rw [if_pos rfl, if_pos rfl]
    constructor
    · rintro ⟨k, h1 | h1, h2⟩
      · have := hb _ h1 rfl; dsimp only at this; omega
      · cases h1; rfl
    · rintro rfl; exact ⟨c, .inr rfl, rfl⟩
  · rw [if_neg e, if_neg e]
    constructor
    · rintro ⟨k, h1 | h1, h2⟩
      · exact ⟨k, h1, h2⟩
      · cases h1; exact absurd rfl e
    · rintro ⟨k, h1, h2⟩; exact ⟨k, .inl h1, h2⟩
theorem HX.less (hb : ∀ e, X e → e.2.1 = v → T l s x + c < T l s e.1 + e.2.2) (y h : Int) : HX R l s (fun e => X e ∨ e = (x, v, c)) (nd D v (T l s x + c)) y h ↔ if y = v then Con R s x v h (Hop R l s x) else HX R l s X D y h := by
  unfold HX nd
  by_cases e : y = v
  · subst e
    rw [if_pos rfl, if_pos rfl]
    constructor
    · rintro ⟨u, k, h1 | h1, h2⟩
      · have := hb _ h1 rfl; dsimp only at this; omega
      · cases h1; exact h2.2
    · intro hc; exact ⟨x, c, .inr rfl, rfl, hc⟩
  · rw [if_neg e, if_neg e]
    constructor
    · rintro ⟨u, k, h1 | h1, h2⟩
      · exact ⟨u, k, h1, h2⟩
      · cases h1; exact absurd rfl e
    · rintro ⟨u, k, h1, h2⟩; exact ⟨u, k, .inl h1, h2⟩
/-- before a shorter edge, every edge to that node was longer -/
theorem Inv.before (hv : Valid R N l) {S : Int → Prop} (h : Inv R N l s S X D) (hx : S x) (he : (x, v, c) ∈ l) (hvs : v ≠ s) (hd : D v < 0 ∨ T l s x + c < D v) : ∀ e, X e → e.2.1 = v → T l s x + c < T l s e.1 + e.2.2 := fun e hX hev => by
  have hed := edge hv he
  have hTx := (h.set x hx).2.2
  rcases h.best v hed.2.2.1 hed.2.2.2.1 hvs with ⟨h1, h2⟩ | ⟨⟨z, h2, h3, h4⟩, h5⟩
  · exact absurd hev (h2 e hX)
  · have h6 := h5 e hX hev
    have : 0 ≤ D v := by
      obtain ⟨h16, h17⟩ := h.sub z h2
      have := (h.set _ h17).2.2
      have := edge hv (u := z.1) (v := z.2.1) (c := z.2.2) h16
      omega
    omega
/-- at a node that is settled parents and hops are what they must be -/
theorem Inv.par (hv : Valid R N l) {S : Int → Prop} (h : Inv R N l s S X D) (hf : Full l S X) {x : Int} (hD : D x = T l s x) (hp : ∀ u c, (u, x, c) ∈ l → 0 ≤ T l s u → T l s u + c = T l s x → S u) (u : Int) : PX l s X D x u ↔ Par l s x u := by
  constructor
  · rintro ⟨c, h1, h2⟩
    obtain ⟨h3, h4⟩ := h.sub _ h1
    exact ⟨c, h3, (h.set _ h4).2.2, by rw [h2, hD]⟩
  · rintro ⟨c, h1, h2, h3⟩
    exact ⟨c, hf _ h1 (hp u c h1 h2 h3), by rw [h3, hD]⟩
theorem Inv.hop (hv : Valid R N l) (hs : s < R) {S : Int → Prop} (h : Inv R N l s S X D) (hf : Full l S X) {x : Int} (hxs : x ≠ s) (hT : 0 ≤ T l s x) (hD : D x = T l s x) (hp : ∀ u c, (u, x, c) ∈ l → 0 ≤ T l s u → T l s u + c = T l s x → S u) (k : Int) : HX R l s X D x k ↔ Hop R l s x k := by
  rw [hop_rec hv hs hxs hT]
  constructor
  · rintro ⟨u, c, h1, h2, h3⟩
    obtain ⟨h4, h5⟩ := h.sub _ h1
    exact ⟨u, c, h4, (h.set _ h5).2.2, by rw [h2, hD], h3⟩
  · rintro ⟨u, c, h1, h2, h3, h4⟩
    exact ⟨u, c, hf _ h1 (hp u c h1 h2 h3), by rw [h3, hD], h4⟩
end
/-- settled nodes keep their parents and hops -/
theorem Par.self {R N : Int} {l : List E} (hv : Valid R N l) {s : Int} (u : Int) (hs : s < R) : ¬ Par l s s u := by
  rintro ⟨c, h1, h2, h3⟩
  rw [T_self hv] at h3
  have := edge hv h1
  have hc : c = 0 := by omega
  have hu : T l s u = 0 := by omega
  have huR : R ≤ u := by
    refine Int.not_lt.1 fun h => ?_
    have := this.2.2.2.2.2.2.2.1 h; omega
  have hw := (T_way hv h2).1
  rw [hu] at hw
  have h4 := tr_way hv hw 0
  unfold tr at h4
  rw [if_pos hs, if_neg (by omega)] at h4
  omega
end Go.Proofs.Ytmlpbhankgojpaa.SP
