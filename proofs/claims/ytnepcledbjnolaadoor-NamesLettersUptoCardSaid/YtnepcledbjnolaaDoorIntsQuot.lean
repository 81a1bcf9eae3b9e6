/- The contracts of the document's own quotient and rest: they answer as package ints does. -/
import Derived.Test.YtnepcledbjnolaaDoorIntsBase
namespace Go.Proofs.YtnepcledbjnolaaDoor
open Go.RowKit

theorem wrap_of (t : Int) : ∃ k, wrap64 t = t + 18446744073709551616 * k := ⟨-((t + 9223372036854775808) / 18446744073709551616), by unfold wrap64; omega⟩
theorem wrap_mul (b t : Int) : wrap64 (b * wrap64 t) = wrap64 (b * t) := by
  obtain ⟨k, hk⟩ := wrap_of t
  rw [hk, Int.mul_add, Int.mul_left_comm]
  generalize b * t = u
  generalize b * k = j
  unfold wrap64; omega
theorem wrap_neg (t : Int) : wrap64 (-wrap64 t) = wrap64 (-t) := by unfold wrap64; omega
theorem wrap_sub (a t : Int) : wrap64 (a - wrap64 t) = wrap64 (a - t) := by unfold wrap64; omega
theorem wrap_add (a t : Int) : wrap64 (wrap64 t + a) = wrap64 (t + a) := by unfold wrap64; omega

theorem abs_cases (a : Int) : (a < 0 ∧ a = -(a.natAbs : Int)) ∨ (¬ a < 0 ∧ a = (a.natAbs : Int)) := by omega
theorem tdiv_same (a b : Int) (h : (a < 0 ↔ b < 0)) : a.tdiv b = ((a.natAbs / b.natAbs : Nat) : Int) := by
  rcases abs_cases a with ⟨ha, ea⟩ | ⟨ha, ea⟩ <;> rcases abs_cases b with ⟨hb, eb⟩ | ⟨hb, eb⟩
  · conv => lhs; rw [ea, eb]
    rw [Int.neg_tdiv, Int.tdiv_neg, Int.neg_neg]; rfl
  · exact absurd (h.1 ha) hb
  · exact absurd (h.2 hb) ha
  · conv => lhs; rw [ea, eb]
    rfl
theorem tdiv_other (a b : Int) (h : ¬ (a < 0 ↔ b < 0)) : a.tdiv b = -((a.natAbs / b.natAbs : Nat) : Int) := by
  rcases abs_cases a with ⟨ha, ea⟩ | ⟨ha, ea⟩ <;> rcases abs_cases b with ⟨hb, eb⟩ | ⟨hb, eb⟩
  · exact absurd ⟨fun _ => hb, fun _ => ha⟩ h
  · conv => lhs; rw [ea, eb]
    rw [Int.neg_tdiv]; rfl
  · conv => lhs; rw [ea, eb]
    rw [Int.tdiv_neg]; rfl
  · exact absurd ⟨fun h => absurd h ha, fun h => absurd h hb⟩ h

theorem ret_ib {a b : Int} {c d : Bool} (h : a = b) (h' : c = d) : Ending.returned (.tuple #[.int .i64 a, .bool c]) = .returned (.tuple #[.int .i64 b, .bool d]) := by rw [h, h']

theorem refquot_zero (a : Int) (w : World) : Calls Tryd.prog 15 #[.int .i64 a, .int .i64 0] w (IntBool 0 false w) := by
  go_enter Tryd.func15, Tryd.ntmps15
  go_wp2
  go_ret2
  exact ⟨rfl, rfl⟩

set_option maxHeartbeats 400000 in
theorem refquot_same (a b : Int) (w : World) (ha : IsInt a) (hb : IsInt b) (h : ¬ b = 0) (hs : (!(decide (a < 0) == decide (b < 0))) = false) : Calls Tryd.prog 15 #[.int .i64 a, .int .i64 b] w (IntBool (quoOf a b) true w) := by
  have hq : wrap64 (IntKind.u64.wrap ((a.natAbs : Int) / (b.natAbs : Int))) = quoOf a b := by
    unfold quoOf; rw [if_neg h, wrap_u, tdiv_same a b (by simpa using hs)]; rfl
  have h0 : (b == 0) = false := by simpa using h
  have H1 := fun w => size_any a w ha
  have H2 := fun w => size_any b w hb
  have hbn : 1 ≤ b.natAbs := by omega
  have l1 := natAbs_le a ha
  have l2 := natAbs_le b hb
  generalize a.natAbs = x at *
  generalize b.natAbs = y at *
  generalize quoOf a b = q at *
  have hy0 : ¬ (y : Int) = 0 := by omega
  have HQ : Hid (wrap64 (IntKind.u64.wrap ((x : Int) / (y : Int))) = q) := hq
  clear hq
  go_enter Tryd.func15, Tryd.ntmps15
  go_wp2_with (first | (go_at_call 33; refine (H1 _).mono ?_; rintro e w' ⟨rfl, rfl⟩; clear H1) | (go_at_call 33; refine (H2 _).mono ?_; rintro e w' ⟨rfl, rfl⟩; clear H2))
  go_ret2
  exact ⟨ret_ib HQ.out rfl, rfl⟩

set_option maxHeartbeats 400000 in
theorem refquot_other (a b : Int) (w : World) (ha : IsInt a) (hb : IsInt b) (h : ¬ b = 0) (hs : (!(decide (a < 0) == decide (b < 0))) = true) : Calls Tryd.prog 15 #[.int .i64 a, .int .i64 b] w (IntBool (quoOf a b) true w) := by
  have hq : wrap64 (-wrap64 (IntKind.u64.wrap ((a.natAbs : Int) / (b.natAbs : Int)))) = quoOf a b := by
    unfold quoOf; rw [if_neg h, wrap_u, wrap_neg, tdiv_other a b (by simpa using hs)]; rfl
  have h0 : (b == 0) = false := by simpa using h
  have H1 := fun w => size_any a w ha
  have H2 := fun w => size_any b w hb
  have hbn : 1 ≤ b.natAbs := by omega
  have l1 := natAbs_le a ha
  have l2 := natAbs_le b hb
  generalize a.natAbs = x at *
  generalize b.natAbs = y at *
  generalize quoOf a b = q at *
  have hy0 : ¬ (y : Int) = 0 := by omega
  have HQ : Hid (wrap64 (-wrap64 (IntKind.u64.wrap ((x : Int) / (y : Int)))) = q) := hq
  clear hq
  go_enter Tryd.func15, Tryd.ntmps15
  go_wp2_with (first | (go_at_call 33; refine (H1 _).mono ?_; rintro e w' ⟨rfl, rfl⟩; clear H1) | (go_at_call 33; refine (H2 _).mono ?_; rintro e w' ⟨rfl, rfl⟩; clear H2))
  go_ret2
  exact ⟨ret_ib HQ.out rfl, rfl⟩

theorem refquot_any (a b : Int) (w : World) (ha : IsInt a) (hb : IsInt b) : Calls Tryd.prog 15 #[.int .i64 a, .int .i64 b] w (IntBool (quoOf a b) (decide (b ≠ 0)) w) := by
  by_cases h : b = 0
  · subst h; exact refquot_zero a w
  · rw [show decide (b ≠ 0) = true by simp [h]]
    cases hs : (!(decide (a < 0) == decide (b < 0))) with
    | false => exact refquot_same a b w ha hb h hs
    | true => exact refquot_other a b w ha hb h hs

theorem quo_int (a b : Int) : IsInt (quoOf a b) := by unfold quoOf IsInt; split <;> (try unfold wrap64) <;> omega
theorem tmod_int (a b : Int) (ha : IsInt a) : IsInt (a.tmod b) := by
  unfold IsInt at *
  rcases abs_cases a with ⟨h, ea⟩ | ⟨h, ea⟩
  · have h1 : (a.natAbs : Int).tmod b = ((a.natAbs % b.natAbs : Nat) : Int) := by
      rcases abs_cases b with ⟨hb, eb⟩ | ⟨hb, eb⟩
      · conv => lhs; rw [eb]
        rw [Int.tmod_neg]; rfl
      · conv => lhs; rw [eb]
        rfl
    have h2 : a.tmod b = -((a.natAbs % b.natAbs : Nat) : Int) := by
      conv => lhs; rw [ea]
      rw [Int.neg_tmod, h1]
    have := Nat.mod_le a.natAbs b.natAbs
    omega
  · have h1 : a.tmod b = ((a.natAbs % b.natAbs : Nat) : Int) := by
      rcases abs_cases b with ⟨hb, eb⟩ | ⟨hb, eb⟩
      · conv => lhs; rw [ea, eb]
        rw [Int.tmod_neg]; rfl
      · conv => lhs; rw [ea, eb]
        rfl
    have := Nat.mod_le a.natAbs b.natAbs
    omega
theorem rem_eq (a b : Int) (ha : IsInt a) (h : ¬ b = 0) : wrap64 (a - wrap64 (b * quoOf a b)) = remOf a b := by
  unfold quoOf remOf
  rw [if_neg h, if_neg h, wrap_mul, wrap_sub]
  have : a - b * a.tdiv b = a.tmod b := by have := Int.mul_tdiv_add_tmod a b; omega
  rw [this]
  exact IntWalk.wrap64_in _ (tmod_int a b ha)

set_option maxHeartbeats 400000 in
theorem refrem_any (a b : Int) (w : World) (ha : IsInt a) (hb : IsInt b) : Calls Tryd.prog 17 #[.int .i64 a, .int .i64 b] w (IntBool (remOf a b) (decide (b ≠ 0)) w) := by
  have H := refquot_any a b w ha hb
  by_cases h : b = 0
  · subst h
    go_enter Tryd.func17, Tryd.ntmps17
    go_wp2_with (go_at_call 15; refine H.mono ?_; rintro e w' ⟨rfl, rfl⟩)
    go_ret2
    exact ⟨rfl, rfl⟩
  · have HR : Hid (wrap64 (a - wrap64 (b * quoOf a b)) = remOf a b) := rem_eq a b ha h
    rw [show decide (b ≠ 0) = true by simp [h]] at H ⊢
    generalize remOf a b = r at *
    generalize quoOf a b = q at *
    go_enter Tryd.func17, Tryd.ntmps17
    go_wp2_with (go_at_call 15; refine H.mono ?_; rintro e w' ⟨rfl, rfl⟩)
    go_ret2
    exact ⟨ret_ib HR.out rfl, rfl⟩
end Go.Proofs.YtnepcledbjnolaaDoor
