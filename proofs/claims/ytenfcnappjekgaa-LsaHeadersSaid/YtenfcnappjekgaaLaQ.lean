/-
  Writing a header.
-/
import Derived.Test.YtenfcnappjekgaaLaP
namespace Go.Proofs.Ytenfcnappjekgaa
open Go.RowKit
set_option linter.unusedSimpArgs false
set_option linter.unusedVariables false
set_option maxHeartbeats 4000000
set_option maxRecDepth 100000

/-- what existed below B, and what is not a row of bytes, is as before -/
def Pu (B : Nat) (w w' : World) : Prop := Below B w w' ∧ Kt w w'
theorem Pu.refl (B : Nat) (w : World) : Pu B w w := ⟨Below.refl _ _, Kt.refl _⟩
theorem Pu.trans {B : Nat} {a b c : World} (h : Pu B a b) (k : Pu B b c) : Pu B a c := ⟨h.1.trans k.1, h.2.trans k.2⟩
theorem Pu.alloc {B : Nat} {a : World} (hB : B ≤ a.heap.size) (o : Obj) : Pu B a (a.alloc o) := ⟨(below_alloc a o).mono hB, Kt.below (below_alloc a o)⟩
theorem Pu.of_below {B : Nat} {a b : World} (hB : B ≤ a.heap.size) (h : Below a.heap.size a b) : Pu B a b := ⟨h.mono hB, Kt.below h⟩
/-- a header that can be written: no number is negative -/
structure HdN where
  ty : Nat
  id : Nat
  len : Nat
  rt : Nat
  seq : Nat
  age : Nat
  sum : Nat
structure HdNok (h : HdN) : Prop where
  ty : h.ty < 9223372036854775808
  id : h.id < 4294967296
  len : h.len < 9223372036854775808
  rt : h.rt < 4294967296
  seq : h.seq < 9223372036854775808
  age : h.age < 9223372036854775808
  sum : h.sum < 9223372036854775808
def HdN.z (h : HdN) : Hd := ⟨h.ty, h.id, h.len, h.rt, h.seq, h.age, h.sum⟩
def hdB (h : HdN) : List Nat := lowB 2 h.age ++ lowB 1 h.ty ++ lowB 1 h.len ++ lowB 4 h.id ++ lowB 4 h.rt ++ lowB 4 h.seq ++ lowB 2 h.sum
theorem hdB_len (h : HdN) : (hdB h).length = 18 := by simp [hdB, lowB_len]
theorem lowBB (n x : Nat) : Bytes (lowB n x) := lowB_bytes n x
theorem hdB_bytes (h : HdN) : Bytes (hdB h) := ((((((lowBB _ _).app (lowBB _ _)).app (lowBB _ _)).app (lowBB _ _)).app (lowBB _ _)).app (lowBB _ _)).app (lowBB _ _)
abbrev putV (B : Nat) : Value := .func (.func 96) #[] #[.pointer (some ⟨B, 0, none⟩)]
theorem one_put {n : Int} {x m B : Nat} {l : List Nat} {a w : World} (hp : PutI w B l) (hl : l.length ≤ 1048576) (hP : Pu B a w) (hx : x < 18446744073709551616) (hm : (m : Int) = min (max n 0) 8) (hn : I64 n) :
    Calls Try.prog 96 #[.int .i64 n, .int .u64 (x : Int), .pointer (some ⟨B, 0, none⟩)] w fun e w' => e = .returned (.tuple #[]) ∧ (PutI w' B (l ++ lowB m x) ∧ Pu B a w' ∧ Kt w w') :=
  (puts_any l n x m B w hx hm hn hl hp).mono fun e w' ⟨h1, h2, h3, h4⟩ => ⟨h1, h2, hP.trans ⟨h3, h4⟩, h4⟩
theorem header_any (h : HdN) (hh : HdNok h) (B : Nat) (l : List Nat) (w : World) (hp : PutI w B l) (hl : l.length ≤ 1048000) :
    Calls Try.prog 72 #[putV B, hdV h.z] w fun e w' => e = .returned (.tuple #[]) ∧ PutI w' B (l ++ hdB h) ∧ Pu B w w' := by
  obtain ⟨ty, id, len, rt, seq, age, sum⟩ := h
  obtain ⟨o1, o2, o3, o4, o5, o6, o7⟩ := hh
  dsimp only at *
  have HX : Hid ((w.alloc (.cells #[.int .i64 (ty : Int), .int .u32 (id : Int), .int .i64 (len : Int), .int .u32 (rt : Int), .int .i64 (seq : Int), .int .i64 (age : Int), .int .i64 (sum : Int)] 24)).heap[w.heap.size]? = some (.cells #[.int .i64 (ty : Int), .int .u32 (id : Int), .int .i64 (len : Int), .int .u32 (rt : Int), .int .i64 (seq : Int), .int .i64 (age : Int), .int .i64 (sum : Int)] 24 (0, 0))) := heap_alloc_new w _
  have PX : Hid (PutI (w.alloc (.cells #[.int .i64 (ty : Int), .int .u32 (id : Int), .int .i64 (len : Int), .int .u32 (rt : Int), .int .i64 (seq : Int), .int .i64 (age : Int), .int .i64 (sum : Int)] 24)) B l ∧ Pu B w (w.alloc (.cells #[.int .i64 (ty : Int), .int .u32 (id : Int), .int .i64 (len : Int), .int .u32 (rt : Int), .int .i64 (seq : Int), .int .i64 (age : Int), .int .i64 (sum : Int)] 24))) := ⟨hp.below (below_alloc _ _), Pu.alloc (Nat.le_of_lt hp.lt) _⟩
  have LL := Lib.hid hl
  clear hp hl
  dsimp only [HdN.z]
  go_enter Try.func72, Try.ntmps72
  go_wp2_with (first
    | (go_at_call 96; ((with_reducible refine (one_put (m := 1) PX.out.1 (by have := LL.out; simp [lowB_len]; omega) PX.out.2 (by omega) (by omega) (by omega)).mono ?_); rintro e w1 ⟨rfl, h1, h2, h3⟩; have PX := Lib.hid (And.intro h1 h2); have HX := Lib.hid (h3 _ _ _ _ HX.out (by decide) (by decide)); clear h1 h2 h3; have k0 := cell_of HX.out (rfl : (#[.int .i64 (ty : Int), .int .u32 (id : Int), .int .i64 (len : Int), .int .u32 (rt : Int), .int .i64 (seq : Int), .int .i64 (age : Int), .int .i64 (sum : Int)] : Array Value)[0]? = some (.int .i64 (ty : Int))); have k1 := cell_of HX.out (rfl : (#[.int .i64 (ty : Int), .int .u32 (id : Int), .int .i64 (len : Int), .int .u32 (rt : Int), .int .i64 (seq : Int), .int .i64 (age : Int), .int .i64 (sum : Int)] : Array Value)[1]? = some (.int .u32 (id : Int))); have k2 := cell_of HX.out (rfl : (#[.int .i64 (ty : Int), .int .u32 (id : Int), .int .i64 (len : Int), .int .u32 (rt : Int), .int .i64 (seq : Int), .int .i64 (age : Int), .int .i64 (sum : Int)] : Array Value)[2]? = some (.int .i64 (len : Int))); have k3 := cell_of HX.out (rfl : (#[.int .i64 (ty : Int), .int .u32 (id : Int), .int .i64 (len : Int), .int .u32 (rt : Int), .int .i64 (seq : Int), .int .i64 (age : Int), .int .i64 (sum : Int)] : Array Value)[3]? = some (.int .u32 (rt : Int))); have k4 := cell_of HX.out (rfl : (#[.int .i64 (ty : Int), .int .u32 (id : Int), .int .i64 (len : Int), .int .u32 (rt : Int), .int .i64 (seq : Int), .int .i64 (age : Int), .int .i64 (sum : Int)] : Array Value)[4]? = some (.int .i64 (seq : Int))); have k5 := cell_of HX.out (rfl : (#[.int .i64 (ty : Int), .int .u32 (id : Int), .int .i64 (len : Int), .int .u32 (rt : Int), .int .i64 (seq : Int), .int .i64 (age : Int), .int .i64 (sum : Int)] : Array Value)[5]? = some (.int .i64 (age : Int))); have k6 := cell_of HX.out (rfl : (#[.int .i64 (ty : Int), .int .u32 (id : Int), .int .i64 (len : Int), .int .u32 (rt : Int), .int .i64 (seq : Int), .int .i64 (age : Int), .int .i64 (sum : Int)] : Array Value)[6]? = some (.int .i64 (sum : Int)))))
    | (go_at_call 96; ((with_reducible refine (one_put (m := 2) PX.out.1 (by have := LL.out; simp [lowB_len]; omega) PX.out.2 (by omega) (by omega) (by omega)).mono ?_); rintro e w1 ⟨rfl, h1, h2, h3⟩; have PX := Lib.hid (And.intro h1 h2); have HX := Lib.hid (h3 _ _ _ _ HX.out (by decide) (by decide)); clear h1 h2 h3; have k0 := cell_of HX.out (rfl : (#[.int .i64 (ty : Int), .int .u32 (id : Int), .int .i64 (len : Int), .int .u32 (rt : Int), .int .i64 (seq : Int), .int .i64 (age : Int), .int .i64 (sum : Int)] : Array Value)[0]? = some (.int .i64 (ty : Int))); have k1 := cell_of HX.out (rfl : (#[.int .i64 (ty : Int), .int .u32 (id : Int), .int .i64 (len : Int), .int .u32 (rt : Int), .int .i64 (seq : Int), .int .i64 (age : Int), .int .i64 (sum : Int)] : Array Value)[1]? = some (.int .u32 (id : Int))); have k2 := cell_of HX.out (rfl : (#[.int .i64 (ty : Int), .int .u32 (id : Int), .int .i64 (len : Int), .int .u32 (rt : Int), .int .i64 (seq : Int), .int .i64 (age : Int), .int .i64 (sum : Int)] : Array Value)[2]? = some (.int .i64 (len : Int))); have k3 := cell_of HX.out (rfl : (#[.int .i64 (ty : Int), .int .u32 (id : Int), .int .i64 (len : Int), .int .u32 (rt : Int), .int .i64 (seq : Int), .int .i64 (age : Int), .int .i64 (sum : Int)] : Array Value)[3]? = some (.int .u32 (rt : Int))); have k4 := cell_of HX.out (rfl : (#[.int .i64 (ty : Int), .int .u32 (id : Int), .int .i64 (len : Int), .int .u32 (rt : Int), .int .i64 (seq : Int), .int .i64 (age : Int), .int .i64 (sum : Int)] : Array Value)[4]? = some (.int .i64 (seq : Int))); have k5 := cell_of HX.out (rfl : (#[.int .i64 (ty : Int), .int .u32 (id : Int), .int .i64 (len : Int), .int .u32 (rt : Int), .int .i64 (seq : Int), .int .i64 (age : Int), .int .i64 (sum : Int)] : Array Value)[5]? = some (.int .i64 (age : Int))); have k6 := cell_of HX.out (rfl : (#[.int .i64 (ty : Int), .int .u32 (id : Int), .int .i64 (len : Int), .int .u32 (rt : Int), .int .i64 (seq : Int), .int .i64 (age : Int), .int .i64 (sum : Int)] : Array Value)[6]? = some (.int .i64 (sum : Int)))))
    | (go_at_call 96; ((with_reducible refine (one_put (m := 4) PX.out.1 (by have := LL.out; simp [lowB_len]; omega) PX.out.2 (by omega) (by omega) (by omega)).mono ?_); rintro e w1 ⟨rfl, h1, h2, h3⟩; have PX := Lib.hid (And.intro h1 h2); have HX := Lib.hid (h3 _ _ _ _ HX.out (by decide) (by decide)); clear h1 h2 h3; have k0 := cell_of HX.out (rfl : (#[.int .i64 (ty : Int), .int .u32 (id : Int), .int .i64 (len : Int), .int .u32 (rt : Int), .int .i64 (seq : Int), .int .i64 (age : Int), .int .i64 (sum : Int)] : Array Value)[0]? = some (.int .i64 (ty : Int))); have k1 := cell_of HX.out (rfl : (#[.int .i64 (ty : Int), .int .u32 (id : Int), .int .i64 (len : Int), .int .u32 (rt : Int), .int .i64 (seq : Int), .int .i64 (age : Int), .int .i64 (sum : Int)] : Array Value)[1]? = some (.int .u32 (id : Int))); have k2 := cell_of HX.out (rfl : (#[.int .i64 (ty : Int), .int .u32 (id : Int), .int .i64 (len : Int), .int .u32 (rt : Int), .int .i64 (seq : Int), .int .i64 (age : Int), .int .i64 (sum : Int)] : Array Value)[2]? = some (.int .i64 (len : Int))); have k3 := cell_of HX.out (rfl : (#[.int .i64 (ty : Int), .int .u32 (id : Int), .int .i64 (len : Int), .int .u32 (rt : Int), .int .i64 (seq : Int), .int .i64 (age : Int), .int .i64 (sum : Int)] : Array Value)[3]? = some (.int .u32 (rt : Int))); have k4 := cell_of HX.out (rfl : (#[.int .i64 (ty : Int), .int .u32 (id : Int), .int .i64 (len : Int), .int .u32 (rt : Int), .int .i64 (seq : Int), .int .i64 (age : Int), .int .i64 (sum : Int)] : Array Value)[4]? = some (.int .i64 (seq : Int))); have k5 := cell_of HX.out (rfl : (#[.int .i64 (ty : Int), .int .u32 (id : Int), .int .i64 (len : Int), .int .u32 (rt : Int), .int .i64 (seq : Int), .int .i64 (age : Int), .int .i64 (sum : Int)] : Array Value)[5]? = some (.int .i64 (age : Int))); have k6 := cell_of HX.out (rfl : (#[.int .i64 (ty : Int), .int .u32 (id : Int), .int .i64 (len : Int), .int .u32 (rt : Int), .int .i64 (seq : Int), .int .i64 (age : Int), .int .i64 (sum : Int)] : Array Value)[6]? = some (.int .i64 (sum : Int))))))
  go_end0
  exact ⟨rfl, by have := PX.out.1; simpa [hdB, List.append_assoc] using this, PX.out.2⟩
end Go.Proofs.Ytenfcnappjekgaa
