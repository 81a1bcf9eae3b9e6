/- The contracts of package ints, but for its texts, and of the document's own numbers. -/
import Derived.Test.YtobmpipifdielaaIntsPlain
import Derived.WalkSpells
import Derived.WalkLawsBesides
import Derived.WalkMore
import Derived.ScopeJumps
import Derived.Lib.Strings
namespace Go.Proofs.Ytobmpipifdielaa
open Go.RowKit

def IsInt (a : Int) : Prop := -9223372036854775808 ≤ a ∧ a ≤ 9223372036854775807
def One (a : Int) (w : World) (e : Ending) (w' : World) : Prop := e = .returned (.int .i64 a) ∧ w = w'
def IntBool (a : Int) (b : Bool) (w : World) (e : Ending) (w' : World) : Prop := e = .returned (.tuple #[.int .i64 a, .bool b]) ∧ w = w'
def TwoInts (a b : Int) (w : World) (e : Ending) (w' : World) : Prop := e = .returned (.tuple #[.int .i64 a, .int .i64 b]) ∧ w = w'

/-- the quotient, and what is left -/
def quoOf (a b : Int) : Int := if b = 0 then 0 else wrap64 (a.tdiv b)
def remOf (a b : Int) : Int := if b = 0 then 0 else a.tmod b

theorem natAbs_neg (a : Int) (ha : IsInt a) (h0 : a < 0) : IntKind.u64.wrap (-IntKind.u64.wrap a) = a.natAbs := by
  unfold IsInt at ha
  rw [IntKind.wrap_u64, IntKind.wrap_u64]; omega
theorem natAbs_pos (a : Int) (ha : IsInt a) (h0 : ¬ a < 0) : IntKind.u64.wrap a = a.natAbs := by
  unfold IsInt at ha
  rw [IntKind.wrap_u64]; omega
theorem natAbs_le (a : Int) (ha : IsInt a) : a.natAbs ≤ 9223372036854775808 := by unfold IsInt at ha; omega

theorem ret_u64 {a b : Int} (h : a = b) : Ending.returned (.int .u64 a) = .returned (.int .u64 b) := by rw [h]
end Go.Proofs.Ytobmpipifdielaa
