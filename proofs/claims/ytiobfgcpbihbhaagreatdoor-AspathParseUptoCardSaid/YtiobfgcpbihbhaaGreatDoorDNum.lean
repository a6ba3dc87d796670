/-
  Plain facts of canonical numbers with a greatest value.
-/
import Derived.Test.YtiobfgcpbihbhaaGreatDoorDText
set_option linter.unusedSimpArgs false
namespace Go.Proofs.YtiobfgcpbihbhaaGreatDoor.T
open Go.Lib

/-- reading digits as long as the number is not greater than most -/
def numF (most : Int) : Nat → List UInt8 → Option Nat
  | n, [] => some n
  | n, c :: r => if ((c.toNat - 48 : Nat) : Int) > most ∨ (n : Int) > (most - (c.toNat - 48 : Nat)) / 10 then none else numF most (10 * n + (c.toNat - 48)) r
theorem valF_ge (l : List UInt8) : ∀ n, n ≤ l.foldl valF n := by
  induction l with
  | nil => intro n; exact Nat.le_refl _
  | cons c r ih => intro n; have := ih (valF n c); simp only [List.foldl_cons]; unfold valF at this ⊢; omega
theorem numF_val (most : Int) (l : List UInt8) : ∀ n : Nat, (n : Int) ≤ most ∨ l ≠ [] → numF most n l = if ((l.foldl valF n : Nat) : Int) ≤ most then some (l.foldl valF n) else none := by
  induction l with
  | nil => intro n h; simp at h; simp [numF, h]
  | cons c r ih =>
    intro n _
    rw [show (c :: r).foldl valF n = r.foldl valF (valF n c) from rfl]
    simp only [numF]
    have hge := valF_ge r (valF n c)
    by_cases h : ((c.toNat - 48 : Nat) : Int) > most ∨ (n : Int) > (most - (c.toNat - 48 : Nat)) / 10
    · rw [if_pos h, if_neg]
      unfold valF at hge ⊢
      omega
    · rw [if_neg h]
      have := ih (10 * n + (c.toNat - 48)) (.inl (by omega))
      rw [this]; rfl
/-- what a canonical number is -/
def canS (l : List UInt8) : Bool := l.all isD && (l == [48] || (l.head?.isSome && l.head? != some 48))
theorem canS_iff (l : List UInt8) : canS l = true ↔ Dig l ∧ (l = [48] ∨ (l ≠ [] ∧ l.head? ≠ some 48)) := by
  unfold canS
  rw [dig_all]
  cases l with
  | nil => simp
  | cons c r => simp
/-- Number's two results -/
def number (l : List UInt8) (most : Int) : Int × Int :=
  if canS l = false then (0, 2) else match numF most 0 l with
    | none => (0, 5)
    | some n => (n, 0)
theorem canS_ne {l : List UInt8} (h : canS l = true) : l ≠ [] := by rintro rfl; simp [canS] at h
theorem dec_can (n : Nat) : canS (decDigits n) = true := by
  rw [canS_iff]
  obtain ⟨h1, h2, h3⟩ := dec_facts n
  refine ⟨h1, ?_⟩
  by_cases h0 : n = 0
  · subst h0; left; rw [decDigits, dif_pos (by omega)]; rfl
  · right
    refine ⟨by rintro h; rw [h] at h3; simp at h3, ?_⟩
    by_cases h10 : n < 10
    · rw [decDigits, dif_pos h10]
      simp only [List.head?_cons]
      intro h
      have := congrArg UInt8.toNat (Option.some.inj h)
      rw [dec_digit h10] at this
      simp at this; omega
    · exact dec_head n (by omega)
theorem number_dec (n : Nat) : number (decDigits n) n = ((n : Int), 0) := by
  unfold number
  rw [dec_can n, if_neg (by simp), numF_val _ _ _ (.inr (canS_ne (dec_can n)))]
  have : (decDigits n).foldl valF 0 = n := (dec_facts n).2.1
  rw [this, if_pos (Int.le_refl _)]
theorem number_back {l : List UInt8} {most : Int} (h : (number l most).2 = 0) : ∃ n : Nat, (number l most).1 = n ∧ decDigits n = l := by
  unfold number at h ⊢
  by_cases hc : canS l = false
  · rw [if_pos hc] at h; simp at h
  · rw [if_neg hc] at h ⊢
    have hc' : canS l = true := by simpa using hc
    rw [numF_val _ _ _ (.inr (canS_ne hc'))] at h ⊢
    split at h
    · simp at h
    · rename_i n hn
      refine ⟨n, rfl, ?_⟩
      split at hn
      · obtain rfl := Option.some.inj hn
        obtain ⟨h1, h2⟩ := (canS_iff l).1 hc'
        have hl : 1 ≤ l.length := by have := canS_ne hc'; cases l <;> simp_all
        refine dec_of_dig l.length l rfl hl h1 ?_
        rintro ⟨ha, hb⟩
        rcases h2 with rfl | h2
        · simp at ha
        · exact h2.2 hb
      · cases hn
/-- the reference's decimal text -/
theorem dec_step (n : Nat) (h : ¬ n < 10) : decDigits n = decDigits (n / 10) ++ [UInt8.ofNat (48 + n % 10)] := by rw [decDigits, dif_neg h]
theorem dec_one (n : Nat) (h : n < 10) : decDigits n = [UInt8.ofNat (48 + n)] := by rw [decDigits, dif_pos h]
end Go.Proofs.YtiobfgcpbihbhaaGreatDoor.T
