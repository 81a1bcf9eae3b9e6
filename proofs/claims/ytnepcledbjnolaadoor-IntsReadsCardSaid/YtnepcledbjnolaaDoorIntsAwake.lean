/- The contract of envoylaw02.awake: it answers true. -/
import Derived.Test.YtnepcledbjnolaaDoorIntsText
namespace Go.Proofs.YtnepcledbjnolaaDoor
open Go.RowKit

theorem c_quot (w : World) : Calls Tryd.prog 14 #[.int .i64 (-7), .int .i64 2] w (IntBool (-3) true w) := by
  have h := quot_any (-7) 2 w
  rwa [show quoOf (-7) 2 = -3 by unfold quoOf; rw [if_neg (by decide)]; exact IntWalk.wrap64_in _ (by decide), show decide ((2 : Int) ≠ 0) = true by decide] at h
theorem c_rem (w : World) : Calls Tryd.prog 16 #[.int .i64 (-7), .int .i64 2] w (IntBool (-1) true w) := by
  have h := rem_any (-7) 2 w
  rwa [show remOf (-7) 2 = -1 by decide, show decide ((2 : Int) ≠ 0) = true by decide] at h
theorem c_quot0 (w : World) : Calls Tryd.prog 14 #[.int .i64 1, .int .i64 0] w (IntBool 0 false w) := by
  have h := quot_any 1 0 w
  rwa [show quoOf 1 0 = 0 by decide, show decide ((0 : Int) ≠ 0) = false by decide] at h
theorem c_read1 (w : World) : Calls Tryd.prog 18 #[.string ⟨#[48, 48, 52, 50]⟩] w (TwoInts 42 0 w) := by
  have h := read_any ⟨#[48, 48, 52, 50]⟩ w (by decide)
  rwa [show readN (⟨#[48, 48, 52, 50]⟩ : ByteArray).data.toList = 42 by decide, show readE (⟨#[48, 48, 52, 50]⟩ : ByteArray).data.toList = 0 by decide] at h
theorem c_read2 (w : World) : Calls Tryd.prog 18 #[.string ⟨#[57, 50, 50, 51, 51, 55, 50, 48, 51, 54, 56, 53, 52, 55, 55, 53, 56, 48, 56]⟩] w (TwoInts 0 4 w) := by
  have h := read_any ⟨#[57, 50, 50, 51, 51, 55, 50, 48, 51, 54, 56, 53, 52, 55, 55, 53, 56, 48, 56]⟩ w (by decide)
  rwa [show readN (⟨#[57, 50, 50, 51, 51, 55, 50, 48, 51, 54, 56, 53, 52, 55, 55, 53, 56, 48, 56]⟩ : ByteArray).data.toList = 0 by decide +kernel, show readE (⟨#[57, 50, 50, 51, 51, 55, 50, 48, 51, 54, 56, 53, 52, 55, 55, 53, 56, 48, 56]⟩ : ByteArray).data.toList = 4 by decide +kernel] at h
theorem c_read3 (w : World) : Calls Tryd.prog 18 #[.string ⟨#[52, 120]⟩] w (TwoInts 0 5 w) := by
  have h := read_any ⟨#[52, 120]⟩ w (by decide)
  rwa [show readN (⟨#[52, 120]⟩ : ByteArray).data.toList = 0 by decide, show readE (⟨#[52, 120]⟩ : ByteArray).data.toList = 5 by decide] at h
theorem c_text (B : Nat) (w : World) (ht : Tab B w) : Calls Tryd.prog 20 #[.int .i64 (-42)] w (Str ⟨#[45, 52, 50]⟩ w) := by
  have h := text_any (-42) (by unfold IsInt; omega) B w ht
  have e : textOf (-42) = ⟨#[45, 52, 50]⟩ := by
    unfold textOf Lib.itoa
    rw [if_pos (by decide), show ((-42 : Int)).natAbs = 42 from rfl, Lib.decDigits_two (by decide) (by decide)]
    rfl
  rwa [e] at h
theorem c_add (w : World) : Calls Tryd.prog 10 #[.int .i64 2, .int .i64 3] w (One 5 w) := by
  have h := add_any 2 3 w
  rwa [show wrap64 (2 + 3) = 5 from IntWalk.wrap64_in _ (by decide)] at h
theorem c_sub (w : World) : Calls Tryd.prog 11 #[.int .i64 2, .int .i64 3] w (One (-1) w) := by
  have h := sub_any 2 3 w
  rwa [show wrap64 (2 - 3) = -1 from IntWalk.wrap64_in _ (by decide)] at h
theorem c_mul (w : World) : Calls Tryd.prog 12 #[.int .i64 2, .int .i64 3] w (One 6 w) := by
  have h := mul_any 2 3 w
  rwa [show wrap64 (2 * 3) = 6 from IntWalk.wrap64_in _ (by decide)] at h

set_option maxHeartbeats 1600000 in
theorem awake_true (B : Nat) (w : World) (ht : Tab B w) : Calls Tryd.prog 13 #[] w (Says true w) := by
  have HT := c_text B w ht
  clear ht
  go_enter Tryd.func13, Tryd.ntmps13
  go_wp2_with fail
  refine (c_quot _).mono ?_; rintro e w' ⟨rfl, rfl⟩
  go_wp2_with fail
  refine (c_rem _).mono ?_; rintro e w' ⟨rfl, rfl⟩
  go_wp2_with fail
  refine (c_quot0 _).mono ?_; rintro e w' ⟨rfl, rfl⟩
  go_wp2_with fail
  refine (c_read1 _).mono ?_; rintro e w' ⟨rfl, rfl⟩
  go_wp2_with fail
  refine (c_read2 _).mono ?_; rintro e w' ⟨rfl, rfl⟩
  go_wp2_with fail
  refine (c_read3 _).mono ?_; rintro e w' ⟨rfl, rfl⟩
  go_wp2_with fail
  refine HT.mono ?_; rintro e w1 ⟨rfl, hB1⟩
  clear HT
  go_wp2_with fail
  refine (c_add _).mono ?_; rintro e w' ⟨rfl, rfl⟩
  go_wp2_with fail
  refine (c_sub _).mono ?_; rintro e w' ⟨rfl, rfl⟩
  go_wp2_with fail
  refine (c_mul _).mono ?_; rintro e w' ⟨rfl, rfl⟩
  go_wp2
  go_ret
  exact ⟨rfl, hB1⟩
end Go.Proofs.YtnepcledbjnolaaDoor
