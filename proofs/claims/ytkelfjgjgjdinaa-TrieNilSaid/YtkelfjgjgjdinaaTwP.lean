/-
  The walk of the law TrieNil.
-/
import Derived.Test.YtkelfjgjgjdinaaTwO
namespace Go.Proofs.Ytkelfjgjgjdinaa
open Go.RowKit
set_option linter.unusedSimpArgs false
set_option linter.unusedVariables false
set_option maxHeartbeats 2000000
set_option maxRecDepth 100000

theorem trieO_nil (w : World) : TrieO w (.pointer none) [] [] := .inl ⟨rfl, rfl, rfl⟩
theorem k2_keep {w W W1 : World} {p0 p1 : Addr} {c0 c1 : Value} (h : W.cell? p0 = some c0 ∧ W.cell? p1 = some c1 ∧ Own w 1 W) (hb : Below W.heap.size W W1) : W1.cell? p0 = some c0 ∧ W1.cell? p1 = some c1 ∧ Own w 1 W1 :=
  ⟨carry hb h.1, carry hb h.2.1, h.2.2.then hb⟩
theorem rd_len0 {w : World} {v : Value} (h : RdE w v []) : ∃ ad cap, v = .slice ad 0 cap := rdE_slice h
theorem nil_walk (a : Nat) (ha : a < 4294967296) (n : Int) (hn : I64 n) (x : Int) (w : World) :
    Calls Try.prog 14 #[.agg #[.int .u32 a, .int .i64 n], .int .i64 x] w fun e w' => e = .returned (.bool true) ∧ Below w.heap.size w w' := by
  have G : Hid (∀ W, Calls Try.prog 56 #[.pointer none, .agg #[.int .u32 a, .int .i64 n]] W fun en w' => en = .returned (.tuple #[.int .i64 0, .bool false]) ∧ Below W.heap.size W w') := fun W => get_any _ [] [] W (a, n) ha hn (trieO_nil W) (by simp) (by simp)
  have L : Hid (∀ W, Calls Try.prog 53 #[.pointer none, .int .u32 a] W fun en w' => en = .returned (.tuple #[.agg #[.int .u32 0, .int .i64 0, .int .i64 0], .bool false]) ∧ Below W.heap.size W w') := fun W => lookup_any _ [] [] W a ha (trieO_nil W) (by simp) (by simp)
  have A : Hid (∀ W, Calls Try.prog 54 #[.pointer none, .agg #[.int .u32 a, .int .i64 n]] W fun en w' => ∃ ad cap, en = .returned (.slice ad 0 cap) ∧ Below W.heap.size W w') := fun W => (above_any _ [] [] W (a, n) ha hn (trieO_nil W) (by simp)).mono fun en w' ⟨v, h1, h2, h3⟩ => by obtain ⟨ad, cap, rfl⟩ := rd_len0 h2.rd; exact ⟨ad, cap, h1, h3⟩
  have U : Hid (∀ W, Calls Try.prog 59 #[.pointer none, .agg #[.int .u32 a, .int .i64 n]] W fun en w' => ∃ ad cap, en = .returned (.slice ad 0 cap) ∧ Below W.heap.size W w') := fun W => (under_any _ [] [] W (a, n) ha hn (trieO_nil W) (by simp)).mono fun en w' ⟨v, h1, h2, h3⟩ => by obtain ⟨ad, cap, rfl⟩ := rd_len0 h2.rd; exact ⟨ad, cap, h1, h3⟩
  have Al : Hid (∀ W, Calls Try.prog 48 #[.pointer none] W fun en w' => ∃ ad cap, en = .returned (.slice ad 0 cap) ∧ Below W.heap.size W w') := fun W => (all_any _ [] [] W (trieO_nil W) (by simp)).mono fun en w' ⟨v, h1, h2, h3⟩ => by obtain ⟨ad, cap, rfl⟩ := rd_len0 h2.rd; exact ⟨ad, cap, h1, h3⟩
  have N : Hid (∀ W, Calls Try.prog 45 #[.pointer none] W fun en w' => en = .returned (.int .i64 0) ∧ Below W.heap.size W w') := fun W => (len_any _ [] [] W (trieO_nil W)).mono fun en w' ⟨h1, h2⟩ => ⟨h1, h2 ▸ Below.refl _ _⟩
  go_enter Try.func14, Try.ntmps14
  go_wp2_with fail
  refine (tput_nil a n x _).mono ?_
  rintro e w1 ⟨rfl, hb⟩
  have B1 := Lib.hid (below_then (below_alloc _ _) hb)
  have c0 : w1.cell? ⟨w.heap.size, 0, none⟩ = some (.int .u32 a) := carry hb (by simp)
  have c1 : w1.cell? ⟨w.heap.size, 1, none⟩ = some (.int .i64 n) := carry hb (by simp)
  clear hb
  go_wp2_with fail
  refine (G.out _).mono ?_
  rintro e w2 ⟨rfl, hb⟩
  have B2 := Lib.hid (below_then B1.out hb)
  have d0 := carry hb c0
  have d1 := carry hb c1
  clear hb c0 c1
  go_wp2_with fail
  refine (L.out _).mono ?_
  rintro e w3 ⟨rfl, hb⟩
  have B3 := Lib.hid (below_then B2.out hb)
  have e0 := carry hb d0
  have e1 := carry hb d1
  clear hb d0 d1
  go_wp2_with fail
  have f0 := carry (below_alloc w3 (.cells #[.int .u32 0, .int .i64 0, .int .i64 0] 65)) e0
  have f1 := carry (below_alloc w3 (.cells #[.int .u32 0, .int .i64 0, .int .i64 0] 65)) e1
  have hO : Own w 1 (w3.alloc (.cells #[.int .u32 0, .int .i64 0, .int .i64 0] 65)) := ⟨below_then B3.out (below_alloc _ _), by have := World.block_lt_of_cell? _ _ f0; exact this⟩
  have HO := Lib.hid hO
  clear hO
  go_region_held3 (fun w' => w'.cell? ⟨w.heap.size, 0, none⟩ = some (.int .u32 a) ∧ w'.cell? ⟨w.heap.size, 1, none⟩ = some (.int .i64 n) ∧ Own w 1 w')
    (first | exact ⟨f0, f1, HO.out.drewN 1⟩ | assumption)
    (first | (go_at_call 41; refine (awake6_any _).mono ?_; rintro e w4 ⟨rfl, hb⟩; have hk4 := k2_keep ‹_› hb; clear hb) | (go_at_call 58; refine (tdrop_nil a n _).mono ?_; rintro e w5 ⟨rfl, hb⟩; have hk5 := k2_keep ‹_› hb; clear hb) | (go_at_call 54; refine (A.out _).mono ?_; rintro e w6 ⟨ad6, cap6, rfl, hb⟩; have hk6 := k2_keep ‹_› hb; clear hb) | (go_at_call 59; refine (U.out _).mono ?_; rintro e w7 ⟨ad7, cap7, rfl, hb⟩; have hk7 := k2_keep ‹_› hb; clear hb) | (go_at_call 48; refine (Al.out _).mono ?_; rintro e w8 ⟨ad8, cap8, rfl, hb⟩; have hk8 := k2_keep ‹_› hb; clear hb) | (go_at_call 45; refine (N.out _).mono ?_; rintro e w9 ⟨rfl, hb⟩; have hk9 := k2_keep ‹_› hb; clear hb))
  all_goals go_wp2
  all_goals go_ret
  all_goals exact ⟨rfl, hk9.2.2.1⟩
end Go.Proofs.Ytkelfjgjgjdinaa
