/- The contract of envoylaw03.awake: it answers true. -/
import Derived.Test.YtnepcledbjnolabDoorNamesFresh
import Derived.Test.YtnepcledbjnolabDoorNamesNumber2
namespace Go.Proofs.YtnepcledbjnolabDoor
open Go.RowKit

theorem letter27 : letterL 27 = [98, 49] := by
  unfold letterL Lib.itoa
  rw [if_neg (by decide), if_neg (by decide), if_neg (by decide), show ((27 : Int) / 26).toNat = 1 by decide, Lib.decDigits_one (by decide)]
  rfl
theorem text_small (n : Nat) (h : n < 10) : textOf (n : Int) = ⟨#[UInt8.ofNat (48 + n)]⟩ := by
  unfold textOf Lib.itoa
  rw [if_neg (by omega), show ((n : Int)).toNat = n by omega, Lib.decDigits_one h]
theorem a_letter (B : Nat) (w : World) (hBw : B ≤ w.heap.size) (ht : Tab B w) : Calls Tryd.prog 6 #[.int .i64 27] w (Str ⟨#[98, 49]⟩ w) := by
  have h := letter_any 27 (by unfold IsInt; omega) B w hBw ht
  rwa [show letterOf 27 = ⟨#[98, 49]⟩ by unfold letterOf; rw [letter27]] at h
def Num1 (a : Int) (w : World) (e : Ending) (w' : World) : Prop := e = .returned (.int .i64 a) ∧ Below w.heap.size w w'
theorem a_number (B : Nat) (w : World) (hBw : B ≤ w.heap.size) (ht : Tab B w) (hE : Errs B w) : Calls Tryd.prog 8 #[.string ⟨#[98, 49]⟩] w (Num1 27 w) := by
  have h := number_any ⟨#[98, 49]⟩ (by decide) B w hBw ht hE
  rwa [show numOf (⟨#[98, 49]⟩ : ByteArray).data.toList = 27 from numOf_yes (by decide) (by decide) letter27] at h
theorem a_var1 (w : World) : Calls Tryd.prog 9 #[.string ⟨#[120, 39]⟩] w (RunsTo true w) := by
  have h := var_any ⟨#[120, 39]⟩ w (by decide)
  rwa [show varB (⟨#[120, 39]⟩ : ByteArray).data.toList = true by decide] at h
theorem a_var2 (w : World) : Calls Tryd.prog 9 #[.string ⟨#[108, 101, 116]⟩] w (RunsTo false w) := by
  have h := var_any ⟨#[108, 101, 116]⟩ w (by decide)
  rwa [show varB (⟨#[108, 101, 116]⟩ : ByteArray).data.toList = false by decide] at h
theorem a_var3 (w : World) : Calls Tryd.prog 9 #[.string ⟨#[95]⟩] w (RunsTo false w) := by
  have h := var_any ⟨#[95]⟩ w (by decide)
  rwa [show varB (⟨#[95]⟩ : ByteArray).data.toList = false by decide] at h
theorem a_var4 (w : World) : Calls Tryd.prog 9 #[.string ⟨#[95, 97]⟩] w (RunsTo true w) := by
  have h := var_any ⟨#[95, 97]⟩ w (by decide)
  rwa [show varB (⟨#[95, 97]⟩ : ByteArray).data.toList = true by decide] at h
theorem a_con1 (w : World) : Calls Tryd.prog 13 #[.string ⟨#[65, 98, 49]⟩] w (OneBool true w) := by
  have h := con_any ⟨#[65, 98, 49]⟩ w (by decide)
  rwa [show conB (⟨#[65, 98, 49]⟩ : ByteArray).data.toList = true by decide] at h
theorem a_con2 (w : World) : Calls Tryd.prog 13 #[.string ⟨#[97]⟩] w (OneBool false w) := by
  have h := con_any ⟨#[97]⟩ w (by decide)
  rwa [show conB (⟨#[97]⟩ : ByteArray).data.toList = false by decide] at h
theorem a_res (w : World) : Calls Tryd.prog 14 #[.string ⟨#[111, 102]⟩] w (RunsTo true w) := by
  have h := reserved_any ⟨#[111, 102]⟩ w (by decide)
  rwa [show resB (⟨#[111, 102]⟩ : ByteArray).data.toList = true by decide] at h
theorem a_tries : Tries [⟨#[120]⟩, ⟨#[120, 49]⟩] ⟨#[120]⟩ 2 ∧ cand ⟨#[120]⟩ 2 = ⟨#[120, 50]⟩ := by
  have h0 : cand ⟨#[120]⟩ 0 = ⟨#[120]⟩ := rfl
  have h1 : cand ⟨#[120]⟩ 1 = ⟨#[120, 49]⟩ := by rw [cand_succ, show ((0 : Nat) : Int) + 1 = ((1 : Nat) : Int) from rfl, text_small 1 (by decide)]; rfl
  have h2 : cand ⟨#[120]⟩ 2 = ⟨#[120, 50]⟩ := by rw [cand_succ, show ((1 : Nat) : Int) + 1 = ((2 : Nat) : Int) from rfl, text_small 2 (by decide)]; rfl
  refine ⟨⟨?_, ?_⟩, h2⟩
  · rw [h2]; intro h; simp at h
  · intro i hi
    match i, hi with
    | 0, _ => rw [h0]; simp
    | 1, _ => rw [h1]; simp

theorem a_fresh (b : Nat) (B : Nat) (w : World) (hBw : B ≤ w.heap.size) (ht : Tab B w) (hb : b < w.heap.size) (h0 : w.cell? ⟨b, 0, none⟩ = some (.string ⟨#[120]⟩)) (h1 : w.cell? ⟨b, 1, none⟩ = some (.string ⟨#[120, 49]⟩)) :
    Calls Tryd.prog 10 #[.slice (some ⟨b, 0, none⟩) 2 2, .string ⟨#[120]⟩] w (Str ⟨#[120, 50]⟩ w) := by
  have h := fresh_any b 0 2 2 [⟨#[120]⟩, ⟨#[120, 49]⟩] ⟨#[120]⟩ 2 B w hBw ht rfl (by decide) hb (fun j hj => by
    match j, hj with
    | 0, _ => exact h0
    | 1, _ => exact h1) (fun s hs => by
    simp at hs
    rcases hs with rfl | rfl <;> decide) (by decide) a_tries.1 (by decide)
  rwa [a_tries.2] at h

set_option maxHeartbeats 1600000 in
theorem awake3_true (B : Nat) (w : World) (hBw : B ≤ w.heap.size) (ht : Tab B w) (hE : Errs B w) : Calls Tryd.prog 7 #[] w (Says true w) := by
  have H1 := a_letter B w hBw ht
  have H2 := fun w' (hb : Below w.heap.size w w') => a_number B w' (Nat.le_trans hBw hb.size) (ht.later (hb.mono hBw)) (hE.later (hb.mono hBw))
  have H3 := fun w' (hb : Below w.heap.size w w') b => a_fresh b B w' (Nat.le_trans hBw hb.size) (ht.later (hb.mono hBw))
  clear ht hE
  go_enter Tryd.func7, Tryd.ntmps7
  go_wp2_with fail
  refine H1.mono ?_; rintro e w1 ⟨rfl, hB1⟩
  go_wp2_with fail
  refine (H2 _ hB1).mono ?_; rintro e w2 ⟨rfl, hB2⟩
  have hB2 := hB1.trans (hB2.mono hB1.size)
  go_wp2_with fail
  refine (a_var1 _).mono ?_; rintro e w3 ⟨rfl, hB3⟩
  have hB3 := hB2.trans (hB3.mono hB2.size)
  go_wp2_with fail
  refine (a_var2 _).mono ?_; rintro e w4 ⟨rfl, hB4⟩
  have hB4 := hB3.trans (hB4.mono hB3.size)
  go_wp2_with fail
  refine (a_var3 _).mono ?_; rintro e w5 ⟨rfl, hB5⟩
  have hB5 := hB4.trans (hB5.mono hB4.size)
  go_wp2_with fail
  refine (a_var4 _).mono ?_; rintro e w6 ⟨rfl, hB6⟩
  have hB6 := hB5.trans (hB6.mono hB5.size)
  go_wp2_with fail
  refine (a_con1 _).mono ?_; rintro e w7 ⟨rfl, rfl⟩
  go_wp2_with fail
  refine (a_con2 _).mono ?_; rintro e w7 ⟨rfl, rfl⟩
  go_wp2_with fail
  refine (a_res _).mono ?_; rintro e w7 ⟨rfl, hB7⟩
  have hB7 := hB6.trans (hB7.mono hB6.size)
  go_wp2_with fail
  refine (H3 _ (hB7.alloc hB7.size _) _ (by simp) (by rw [World.cell?_alloc_at _ _ _ _ rfl]; rfl) (by rw [World.cell?_alloc_at _ _ _ _ rfl]; rfl)).mono ?_; rintro e w8 ⟨rfl, hB8⟩
  have hB8 := (hB7.alloc hB7.size _).trans (hB8.mono (hB7.alloc hB7.size _).size)
  go_wp2
  go_ret
  exact ⟨rfl, hB8⟩
end Go.Proofs.YtnepcledbjnolabDoor
