/- The laws NamesKinds and NamesLetters answer true. -/
import Derived.Test.YtnepcledbjnolaaDoorNamesAwake
namespace Go.Proofs.YtnepcledbjnolaaDoor
open Go.RowKit

set_option maxHeartbeats 1600000 in
theorem walk_NamesKinds (s : ByteArray) (B : Nat) (w : World) (hs : s.size ≤ maxLen) (hBw : B ≤ w.heap.size) (ht : Tab B w) (hE : Errs B w) : Calls Tryd.prog 8 #[.string s] w (Says true w) := by
  have H1 := fun w => var_any s w hs
  have H2 := fun w => refvar_any s w hs
  have H3 := fun w => con_any s w hs
  have H4 := fun w => refcon_any s w hs
  have H5 := fun w => reserved_any s w hs
  have H6 := fun w => refreserved_any s w
  have H7 := fun w' (hb : Below w.heap.size w w') => awake3_true B w' (Nat.le_trans hBw hb.size) (ht.later (hb.mono hBw)) (hE.later (hb.mono hBw))
  clear ht hE
  generalize varB s.data.toList = b1 at *
  generalize conB s.data.toList = b2 at *
  generalize resB s.data.toList = b3 at *
  go_enter Tryd.func8, Tryd.ntmps8
  go_wp2_with fail
  refine (H1 _).mono ?_; rintro e w1 ⟨rfl, hB1⟩
  go_wp2_with fail
  refine (H2 _).mono ?_; rintro e w2 ⟨rfl, rfl⟩
  go_wp2_with fail
  refine (H3 _).mono ?_; rintro e w2 ⟨rfl, rfl⟩
  go_wp2_with fail
  refine (H4 _).mono ?_; rintro e w2 ⟨rfl, rfl⟩
  go_wp2_with fail
  refine (H5 _).mono ?_; rintro e w2 ⟨rfl, hB2⟩
  have hB2 := hB1.trans (hB2.mono hB1.size)
  go_wp2_with fail
  refine (H6 _).mono ?_; rintro e w3 ⟨rfl, rfl⟩
  go_wp2_with fail
  refine (H7 _ hB2).mono ?_; rintro e w3 ⟨rfl, hB3⟩
  have hB3 := hB2.trans (hB3.mono hB2.size)
  go_wp2
  go_ret
  exact ⟨rfl, hB3⟩

set_option maxHeartbeats 1600000 in
theorem walk_NamesLetters (n : Int) (s : ByteArray) (B : Nat) (w : World) (hn : IsInt n) (hs : s.size ≤ 281474976710656) (hBw : B ≤ w.heap.size) (ht : Tab B w) (hE : Errs B w) : Calls Tryd.prog 9 #[.int .i64 n, .string s] w (Says true w) := by
  have H1 := letter_any n hn B w hBw ht
  have H2 := fun w => refletter_any n hn w
  have H3 := fun w' (hb : Below w.heap.size w w') => number_any s hs B w' (Nat.le_trans hBw hb.size) (ht.later (hb.mono hBw)) (hE.later (hb.mono hBw))
  have H4 := fun w => refnumber_any s hs w
  have H7 := fun w' (hb : Below w.heap.size w w') => awake3_true B w' (Nat.le_trans hBw hb.size) (ht.later (hb.mono hBw)) (hE.later (hb.mono hBw))
  clear ht hE
  generalize letterOf n = u at *
  generalize numOf s.data.toList = x at *
  go_enter Tryd.func9, Tryd.ntmps9
  go_wp2_with fail
  refine H1.mono ?_; rintro e w1 ⟨rfl, hB1⟩
  go_wp2_with fail
  refine (H2 _).mono ?_; rintro e w2 ⟨rfl, hB2⟩
  have hB2 := hB1.trans (hB2.mono hB1.size)
  go_wp2_with fail
  refine (H3 _ hB2).mono ?_; rintro e w3 ⟨rfl, hB3⟩
  have hB3 := hB2.trans (hB3.mono hB2.size)
  go_wp2_with fail
  refine (H4 _).mono ?_; rintro e w4 ⟨rfl, hB4⟩
  have hB4 := hB3.trans (hB4.mono hB3.size)
  go_wp2_with fail
  refine (H7 _ hB4).mono ?_; rintro e w5 ⟨rfl, hB5⟩
  have hB5 := hB4.trans (hB5.mono hB4.size)
  go_wp2
  go_ret
  exact ⟨rfl, hB5⟩
end Go.Proofs.YtnepcledbjnolaaDoor
