/-
  The examples of the chapter, in numbers.
-/
import Derived.Test.YtiiojkekcnmddaaDoorPlI
import Derived.Test.YtiiojkekcnmddaaDoorPlM
namespace Go.Proofs.YtiiojkekcnmddaaDoor
open Go.RowKit
set_option linter.unusedSimpArgs false
set_option linter.unusedVariables false
set_option maxHeartbeats 2000000
set_option maxRecDepth 100000

def exS1 : List UInt8 := [112, 101, 114, 109, 105, 116, 32, 49, 48, 46, 48, 46, 48, 46, 48, 47, 56, 32, 49, 54, 45, 50, 52]
def exS2 : List UInt8 := [112, 101, 114, 109, 105, 116, 32, 49, 48, 46, 48, 46, 48, 46, 48, 47, 56, 32, 56, 45, 56]
def exR1 : Ru := (true, (167772160, 8), 16, 24)
def exR2 : Ru := (true, (167772160, 8), 8, 8)
def exAll : Ru := (true, (0, 0), 0, 32)
theorem dd1 {n : Nat} (h : n < 10) : Lib.decDigits n = [UInt8.ofNat (48 + n)] := Lib.decDigits_one h
theorem dd2 {n : Nat} (h1 : ¬ n < 10) (h : n < 100) : Lib.decDigits n = [UInt8.ofNat (48 + n / 10), UInt8.ofNat (48 + n % 10)] := Lib.decDigits_two h1 h
theorem ex_cand1 : candR exS1 = exR1 := by decide +kernel
theorem ex_cand2 : candR exS2 = exR2 := by decide +kernel
theorem ex_chk1 : chkR exR1 = 0 := by decide +kernel
theorem ex_chk2 : chkR exR2 = 0 := by decide +kernel
theorem ex_txt1 : rtxtL exR1 = exS1 := by
  unfold rtxtL exR1 rngT textT addrT
  simp only [if_neg (show ¬ ((16 : Int) = 8 ∧ (24 : Int) = 8) by omega)]
  rw [show (16 : Int).toNat = 16 from rfl, show (24 : Int).toNat = 24 from rfl, show (8 : Int).toNat = 8 from rfl, dd2 (n := 16) (by omega) (by omega), dd2 (n := 24) (by omega) (by omega), dd1 (n := 8) (by omega)]
  rw [show 167772160 / 16777216 = 10 from rfl, show 167772160 / 65536 % 256 = 0 from rfl, dd2 (n := 10) (by omega) (by omega), dd1 (n := 0) (by omega)]
  rfl
theorem ex_txt2 : rtxtL exR2 ≠ exS2 := by
  unfold rtxtL exR2 rngT textT addrT
  simp only [if_pos (show ((8 : Int) = 8 ∧ (8 : Int) = 8) from ⟨rfl, rfl⟩)]
  rw [show (8 : Int).toNat = 8 from rfl, dd1 (n := 8) (by omega)]
  rw [show 167772160 / 16777216 = 10 from rfl, show 167772160 / 65536 % 256 = 0 from rfl, dd2 (n := 10) (by omega) (by omega), dd1 (n := 0) (by omega)]
  decide
theorem ex_par1 : parR exS1 = some exR1 := by
  unfold parR
  rw [ex_cand1, if_pos ⟨ex_chk1, ex_txt1⟩]
theorem ex_par2 : parR exS2 = none := by
  unfold parR
  rw [ex_cand2, if_neg (fun h => ex_txt2 h.2)]
theorem ex_tx1 : txV exR1 = .tuple #[.string (bs exS1), .int .i64 0] := by
  unfold txV
  rw [if_pos ex_chk1, ex_chk1, ex_txt1]
theorem ex_c5 : chkR (false, (0, 0), 33, 33) = 5 := by decide +kernel
theorem ex_c1 : chkR (false, (0, 33), 0, 0) = 1 := by decide +kernel
theorem ex_m1 : matR exR1 (167837696, 16) = true := by decide +kernel
theorem ex_m2 : matR exR1 (167772160, 8) = false := by decide +kernel
theorem ex_p1 : permB [exR1] (167837696, 16) = true := by decide +kernel
theorem ex_p2 : permB [] (167837696, 16) = false := rfl
theorem ex_t1 : (trimR [exAll, exR1]).length = 1 := by decide +kernel
theorem ex_t2 : (trimR [exR1, exAll]).length = 2 := by decide +kernel
theorem ex_ok1 : RuOk exR1 := ⟨by decide, by constructor <;> decide, by constructor <;> decide, by constructor <;> decide⟩
theorem ex_okA : RuOk exAll := ⟨by decide, by constructor <;> decide, by constructor <;> decide, by constructor <;> decide⟩
end Go.Proofs.YtiiojkekcnmddaaDoor
