/- The contracts of spans.Mark and of the document's own Mark. -/
import Derived.Test.YtnepcledbjnolaaSpansOffset
namespace Go.Proofs.Ytnepcledbjnolaa
open Go.RowKit

set_option maxHeartbeats 800000 in
theorem mark_bad (s : ByteArray) (at' : Int) (w : World) (h : at' < 0 ∨ (s.size : Int) < at') :
    Calls Try.prog 16 #[.string s, .int .i64 at'] w (StrInt ⟨#[]⟩ 1 w) := by
  have HH : Hid (at' < 0 ∨ (s.size : Int) < at') := h
  clear h
  go_enter Try.func16, Try.ntmps16
  go_wp2_with (go_at_call 14; refine (place_bad s at' _ HH.out).mono ?_; rintro e w' ⟨rfl, hB⟩)
  go_ret2
  exact ⟨rfl, hB⟩
set_option maxHeartbeats 800000 in
theorem refmark_bad (s : ByteArray) (at' : Int) (w : World) (h : at' < 0 ∨ (s.size : Int) < at') :
    Calls Try.prog 17 #[.string s, .int .i64 at'] w (StrInt ⟨#[]⟩ 1 w) := by
  have HH : Hid (at' < 0 ∨ (s.size : Int) < at') := h
  clear h
  go_enter Try.func17, Try.ntmps17
  go_wp2_with (go_at_call 15; refine (refplace_bad s at' _ HH.out).mono ?_; rintro e w' ⟨rfl, hB⟩)
  go_ret2
  exact ⟨rfl, hB⟩

theorem Ln_length_mono (l : List UInt8) (j k : Nat) (h : j ≤ k) : (Ln l j).length ≤ (Ln l k).length := by
  obtain ⟨r, hr, _⟩ := Ln_prefix l j k h
  rw [hr, List.length_append]; omega

/-- a line, and below it a mark behind so many spaces -/
def markOf (u : ByteArray) (q : Nat) : ByteArray := ⟨(u.data.toList ++ 10 :: (List.replicate q 32 ++ [94])).toArray⟩
theorem repeat_one (c : UInt8) (q : Nat) : Lib.repeatL [c] q = List.replicate q c := by
  induction q with
  | zero => rfl
  | succ q ih => simp [Lib.repeatL, ih, List.replicate_succ]
theorem ret_str {a b : ByteArray} {c d : Int} (h1 : a.data.toList = b.data.toList) (h2 : c = d) : Ending.returned (.tuple #[.string a, .int .i64 c]) = .returned (.tuple #[.string b, .int .i64 d]) := by
  obtain rfl : a = b := by cases a; cases b; simp_all
  rw [h2]

set_option maxHeartbeats 800000 in
theorem mark_ok (s : ByteArray) (k : Nat) (w : World) (hs : s.size ≤ 1048576) (h : k ≤ s.size) :
    Calls Try.prog 16 #[.string s, .int .i64 k] w (StrInt (markOf (lineOf s ((Ln s.data.toList k).length - 1)) (colOf s.data.toList k - 1)) 0 w) := by
  have hlk := Ln_len s.data.toList k
  have hmn := Ln_length_mono s.data.toList k s.size h
  have HP := place_ok s k w hs h
  have hc := col_le s.data.toList k
  obtain ⟨q, hq⟩ : ∃ q, colOf s.data.toList k = q + 1 := ⟨colOf s.data.toList k - 1, by omega⟩
  rw [hq] at HP hc
  rw [show ((q + 1 : Nat) : Int) = (q : Int) + 1 by omega] at HP
  obtain ⟨p, hp⟩ : ∃ p, (Ln s.data.toList k).length = p + 1 := ⟨(Ln s.data.toList k).length - 1, by omega⟩
  rw [hp] at HP hlk hmn
  rw [hp, hq, Nat.add_sub_cancel, Nat.add_sub_cancel]
  rw [show ((p + 1 : Nat) : Int) = (p : Int) + 1 by omega] at HP
  have HL := fun w' => line_ok s p w' hs (by omega)
  have hu : (lineOf s p).size ≤ 1048576 := by
    obtain ⟨h1, h2, -, -⟩ := endOf_ok s.data.toList s.size p (by omega)
    rw [size_lineOf s p (by omega)]; unfold lenOf; omega
  generalize lineOf s p = u at *
  have HRP : ∀ w', Calls Try.prog 22 #[.string ⟨#[32]⟩, .int .i64 q] w' fun e w'' => e = .returned (.string ⟨(Lib.repeatL [32] q).toArray⟩) ∧ Below w'.heap.size w' w'' := fun w' => Any.strings_Repeat Try.lays105 Try.Builder_Extra_105 ⟨#[32]⟩ q w' (by omega) (by show 1 * q ≤ _; omega)
  have hr : (Lib.repeatL [32] q).length = q := by rw [repeat_one]; simp
  have HQ : Hid (Lib.repeatL [32] q = List.replicate q 32) := repeat_one 32 q
  generalize Lib.repeatL [32] q = r at *
  clear hp hmn hq
  go_enter Try.func16, Try.ntmps16
  go_wp2_with (first | (go_at_call 14; refine HP.mono ?_; rintro e w1 ⟨rfl, hB⟩) | (go_at_call 8; refine (HL _).mono ?_; rintro e w2 ⟨rfl, hB2⟩) | (go_at_call 22; refine (HRP _).mono ?_; rintro e w3 ⟨rfl, hB3⟩))
  go_ret2
  refine ⟨ret_str ?_ rfl, hB.trans ((hB2.mono hB.size).trans (hB3.mono (Nat.le_trans hB.size hB2.size)))⟩
  rw [HQ.out]
  simp [markOf]

set_option maxHeartbeats 800000 in
theorem refmark_ok (s : ByteArray) (k : Nat) (w : World) (hs : s.size ≤ 1048576) (h : k ≤ s.size) :
    Calls Try.prog 17 #[.string s, .int .i64 k] w (StrInt (markOf (lineOf s ((Ln s.data.toList k).length - 1)) (colOf s.data.toList k - 1)) 0 w) := by
  have hlk := Ln_len s.data.toList k
  have hmn := Ln_length_mono s.data.toList k s.size h
  have HP := refplace_ok s k w hs h
  have hc := col_le s.data.toList k
  obtain ⟨q, hq⟩ : ∃ q, colOf s.data.toList k = q + 1 := ⟨colOf s.data.toList k - 1, by omega⟩
  rw [hq] at HP hc
  rw [show ((q + 1 : Nat) : Int) = (q : Int) + 1 by omega] at HP
  obtain ⟨p, hp⟩ : ∃ p, (Ln s.data.toList k).length = p + 1 := ⟨(Ln s.data.toList k).length - 1, by omega⟩
  rw [hp] at HP hlk hmn
  rw [hp, hq, Nat.add_sub_cancel, Nat.add_sub_cancel]
  rw [show ((p + 1 : Nat) : Int) = (p : Int) + 1 by omega] at HP
  have HL := fun w' => refline_ok s p w' hs (by omega)
  have hu : (lineOf s p).size ≤ 1048576 := by
    obtain ⟨h1, h2, -, -⟩ := endOf_ok s.data.toList s.size p (by omega)
    rw [size_lineOf s p (by omega)]; unfold lenOf; omega
  generalize lineOf s p = u at *
  clear hp hmn hq
  go_enter Try.func17, Try.ntmps17
  go_wp2_with (first | (go_at_call 15; refine HP.mono ?_; rintro e w1 ⟨rfl, hB⟩) | (go_at_call 9; refine (HL _).mono ?_; rintro e w2 ⟨rfl, hB2⟩))
  have HB : Hid (Below w.heap.size w w2) := hB.trans (hB2.mono hB.size)
  clear HP HL hB hB2
  go_loop [9, 11] (fun t i => ∃ (j : Nat) (v : ByteArray), j ≤ q ∧ i = .int .i64 ((j : Int) + 1) ∧ t = .string v ∧ v.data.toList = u.data.toList ++ 10 :: List.replicate j 32) (fun _ i => q + 1 - (intOf i).toNat)
  case atStart => exact ⟨0, _, Nat.zero_le _, rfl, rfl, by simp⟩
  case round =>
    obtain ⟨j, v, hj, rfl, rfl, hv⟩ := hrel
    have hvs : v.size ≤ 2097154 := by
      have e1 : v.size = v.data.toList.length := Lib.size_eq v
      have e2 : u.size = u.data.toList.length := Lib.size_eq u
      rw [hv, List.length_append, List.length_cons, List.length_replicate] at e1
      omega
    have HV : Hid (v.data.toList = u.data.toList ++ 10 :: List.replicate j 32) := hv
    clear hv
    by_cases hlt : j < q
    · go_wp2
      go_round
      case rel => exact ⟨j + 1, _, by omega, by go_num, rfl, by simp [HV.out, List.replicate_succ']⟩
      case measure => simp [intOf]; omega
    · have hjq : j = q := by omega
      subst hjq
      go_wp2
      go_ret2
      refine ⟨ret_str ?_ rfl, HB.out⟩
      simp [markOf, HV.out]
end Go.Proofs.Ytnepcledbjnolaa
