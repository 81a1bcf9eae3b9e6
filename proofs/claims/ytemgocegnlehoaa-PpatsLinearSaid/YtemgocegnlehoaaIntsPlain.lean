/- Plain facts on numbers that wrap and on digits: no program in sight. -/
import Derived.Test.YtemgocegnlehoaaRows
import Derived.WalkKit
import Derived.WalkSmall
import Derived.IntWalk
import Derived.Below
import Derived.Lib.ItoaNum
namespace Go.Proofs.Ytemgocegnlehoaa
open Go.RowKit

def Says (b : Bool) (w : World) (e : Ending) (w' : World) : Prop := e = .returned (.bool b) ∧ Below w.heap.size w w'

def isDig (c : UInt8) : Bool := decide (48 ≤ c.toNat) && decide (c.toNat ≤ 57)

/-- the number of a row of digits -/
def numVal : List UInt8 → Nat
  | l => l.foldl (fun n c => 10 * n + (c.toNat - 48)) 0
theorem numVal_snoc (l : List UInt8) (c : UInt8) : numVal (l ++ [c]) = 10 * numVal l + (c.toNat - 48) := by simp [numVal]

/-- what a text is read as: the number, and the error -/
def readN (l : List UInt8) : Int := if l = [] ∨ ¬ l.all isDig = true then 0 else if numVal l ≤ 9223372036854775807 then (numVal l : Int) else 0
def readE (l : List UInt8) : Int := if l = [] ∨ ¬ l.all isDig = true then 5 else if numVal l ≤ 9223372036854775807 then 0 else 4

theorem take_snoc (l : List UInt8) (k : Nat) (h : k < l.length) : l.take (k + 1) = l.take k ++ [l[k]] := List.take_succ_eq_append_getElem h
theorem numVal_mono (l : List UInt8) (r : List UInt8) : numVal l ≤ numVal (l ++ r) := by
  induction r generalizing l with
  | nil => simp
  | cons c r ih =>
    have := ih (l ++ [c])
    rw [numVal_snoc, List.append_assoc] at this
    simp only [List.cons_append, List.nil_append] at this
    omega
theorem numVal_take_le (l : List UInt8) (k : Nat) : numVal (l.take k) ≤ numVal l := by
  have := numVal_mono (l.take k) (l.drop k)
  rwa [List.take_append_drop] at this

theorem readE_bad {l : List UInt8} (h : l = [] ∨ ¬ l.all isDig = true) : readE l = 5 ∧ readN l = 0 := by unfold readE readN; rw [if_pos h, if_pos h]; exact ⟨rfl, rfl⟩
theorem not_bad {l : List UInt8} (h0 : ¬ l = []) (h : l.all isDig = true) : ¬ (l = [] ∨ ¬ l.all isDig = true) := fun hb => hb.elim h0 fun hb => hb h
theorem readE_ok {l : List UInt8} (h0 : ¬ l = []) (h : l.all isDig = true) (hn : numVal l ≤ 9223372036854775807) : readE l = 0 ∧ readN l = numVal l := by
  unfold readE readN; simp only [if_neg (not_bad h0 h), if_pos hn, and_self]
theorem readE_big {l : List UInt8} (h0 : ¬ l = []) (h : l.all isDig = true) (hn : ¬ numVal l ≤ 9223372036854775807) : readE l = 4 ∧ readN l = 0 := by
  unfold readE readN; simp only [if_neg (not_bad h0 h), if_neg hn, and_self]
theorem all_take_snoc {l : List UInt8} {k : Nat} (h : k < l.length) (ha : (l.take k).all isDig = true) (hc : isDig l[k] = true) : (l.take (k + 1)).all isDig = true := by
  rw [take_snoc l k h, List.all_append, ha]; simp [hc]
theorem not_all {l : List UInt8} {k : Nat} (h : k < l.length) (hc : isDig l[k] = false) : ¬ l.all isDig = true := by
  intro ha
  rw [List.all_eq_true] at ha
  have := ha _ (List.getElem_mem h)
  rw [hc] at this; cases this
theorem all_at {l : List UInt8} {k : Nat} (h : k < l.length) (ha : l.all isDig = true) : isDig l[k] = true := List.all_eq_true.1 ha _ (List.getElem_mem h)

/-- the digits of a number are read as it -/
theorem dec_ok (u : Nat) : ¬ Lib.decDigits u = [] ∧ (Lib.decDigits u).all isDig = true ∧ numVal (Lib.decDigits u) = u := by
  induction u using Nat.strongRecOn with
  | _ u ih =>
    by_cases h : u < 10
    · rw [Lib.decDigits_one h]
      refine ⟨by simp, ?_, ?_⟩
      · simp [isDig]; omega
      · simp [numVal]; omega
    · rw [Lib.decDigits, dif_neg h]
      obtain ⟨h1, h2, h3⟩ := ih (u / 10) (by omega)
      have e : (UInt8.ofNat (48 + u % 10)).toNat = 48 + u % 10 := UInt8.toNat_ofNat_of_lt' (by show 48 + u % 10 < 256; omega)
      refine ⟨by simp, ?_, ?_⟩
      · rw [List.all_append, h2]; simp [isDig]; omega
      · rw [numVal_snoc, h3, e]; omega

theorem wrap_u (x : Int) : wrap64 (IntKind.u64.wrap x) = wrap64 x := by
  rw [IntKind.wrap_u64]; unfold wrap64; omega
theorem wrap_wrap (x : Int) : wrap64 (wrap64 x) = wrap64 x := by unfold wrap64; omega
theorem wrap_i64_eq (x : Int) : IntKind.i64.wrap x = wrap64 x := IntWalk.i64_left x
end Go.Proofs.Ytemgocegnlehoaa
