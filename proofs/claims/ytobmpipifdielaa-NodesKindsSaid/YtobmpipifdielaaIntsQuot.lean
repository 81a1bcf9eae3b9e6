/- The contracts of the document's own quotient and rest: they answer as package ints does. -/
import Derived.Test.YtobmpipifdielaaIntsBase
namespace Go.Proofs.Ytobmpipifdielaa
open Go.RowKit

theorem wrap_of (t : Int) : ∃ k, wrap64 t = t + 18446744073709551616 * k := ⟨-((t + 9223372036854775808) / 18446744073709551616), by unfold wrap64; omega⟩
theorem wrap_mul (b t : Int) : wrap64 (b * wrap64 t) = wrap64 (b * t) := by
  obtain ⟨k, hk⟩ := wrap_of t
  rw [hk, Int.mul_add, Int.mul_left_comm]
  generalize b * t = u
  generalize b * k = j
  unfold wrap64; omega
theorem wrap_neg (t : Int) : wrap64 (-wrap64 t) = wrap64 (-t) := by unfold wrap64; omega
theorem wrap_sub (a t : Int) : wrap64 (a - wrap64 t) = wrap64 (a - t) := by unfold wrap64; omega
theorem wrap_add (a t : Int) : wrap64 (wrap64 t + a) = wrap64 (t + a) := by unfold wrap64; omega

theorem abs_cases (a : Int) : (a < 0 ∧ a = -(a.natAbs : Int)) ∨ (¬ a < 0 ∧ a = (a.natAbs : Int)) := by omega
theorem tdiv_same (a b : Int) (h : (a < 0 ↔ b < 0)) : a.tdiv b = ((a.natAbs / b.natAbs : Nat) : Int) := by
  rcases abs_cases a with ⟨ha, ea⟩ | ⟨ha, ea⟩ <;> rcases abs_cases b with ⟨hb, eb⟩ | ⟨hb, eb⟩
  · conv => lhs; rw [ea, eb]
    rw [Int.neg_tdiv, Int.tdiv_neg, Int.neg_neg]; rfl
  · exact absurd (h.1 ha) hb
  · exact absurd (h.2 hb) ha
  · conv => lhs; rw [ea, eb]
    rfl
theorem tdiv_other (a b : Int) (h : ¬ (a < 0 ↔ b < 0)) : a.tdiv b = -((a.natAbs / b.natAbs : Nat) : Int) := by
  rcases abs_cases a with ⟨ha, ea⟩ | ⟨ha, ea⟩ <;> rcases abs_cases b with ⟨hb, eb⟩ | ⟨hb, eb⟩
  · exact absurd ⟨fun _ => hb, fun _ => ha⟩ h
  · conv => lhs; rw [ea, eb]
    rw [Int.neg_tdiv]; rfl
  · conv => lhs; rw [ea, eb]
    rw [Int.tdiv_neg]; rfl
  · exact absurd ⟨fun h => absurd h ha, fun h => absurd h hb⟩ h

theorem ret_ib {a b : Int} {c d : Bool} (h : a = b) (h' : c = d) : Ending.returned (.tuple #[.int .i64 a, .bool c]) = .returned (.tuple #[.int .i64 b, .bool d]) := by rw [h, h']

theorem quo_int (a b : Int) : IsInt (quoOf a b) := by unfold quoOf IsInt; split <;> (try unfold wrap64) <;> omega
theorem tmod_int (a b : Int) (ha : IsInt a) : IsInt (a.tmod b) := by
  unfold IsInt at *
  rcases abs_cases a with ⟨h, ea⟩ | ⟨h, ea⟩
  · have h1 : (a.natAbs : Int).tmod b = ((a.natAbs % b.natAbs : Nat) : Int) := by
      rcases abs_cases b with ⟨hb, eb⟩ | ⟨hb, eb⟩
      · conv => lhs; rw [eb]
        rw [Int.tmod_neg]; rfl
      · conv => lhs; rw [eb]
        rfl
    have h2 : a.tmod b = -((a.natAbs % b.natAbs : Nat) : Int) := by
      conv => lhs; rw [ea]
      rw [Int.neg_tmod, h1]
    have := Nat.mod_le a.natAbs b.natAbs
    omega
  · have h1 : a.tmod b = ((a.natAbs % b.natAbs : Nat) : Int) := by
      rcases abs_cases b with ⟨hb, eb⟩ | ⟨hb, eb⟩
      · conv => lhs; rw [ea, eb]
        rw [Int.tmod_neg]; rfl
      · conv => lhs; rw [ea, eb]
        rfl
    have := Nat.mod_le a.natAbs b.natAbs
    omega
theorem rem_eq (a b : Int) (ha : IsInt a) (h : ¬ b = 0) : wrap64 (a - wrap64 (b * quoOf a b)) = remOf a b := by
  unfold quoOf remOf
  rw [if_neg h, if_neg h, wrap_mul, wrap_sub]
  have : a - b * a.tdiv b = a.tmod b := by have := Int.mul_tdiv_add_tmod a b; omega
  rw [this]
  exact IntWalk.wrap64_in _ (tmod_int a b ha)

end Go.Proofs.Ytobmpipifdielaa
