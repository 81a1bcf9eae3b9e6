/- The walks of the laws of layer 2. -/
import Derived.Test.YtnepcledbjnolaaDoorIntsAwake
import Derived.ShutString
namespace Go.Proofs.YtnepcledbjnolaaDoor
open Go.RowKit

theorem uwrap_of (t : Int) : ∃ k, IntKind.u64.wrap t = t + 18446744073709551616 * k := ⟨-(t / 18446744073709551616), by rw [IntKind.wrap_u64]; omega⟩
theorem sum_same (a b : Int) : wrap64 (IntKind.u64.wrap (IntKind.u64.wrap a + IntKind.u64.wrap b)) = wrap64 (a + b) := by
  obtain ⟨i, hi⟩ := uwrap_of a
  obtain ⟨j, hj⟩ := uwrap_of b
  rw [wrap_u, hi, hj]; unfold wrap64; omega
theorem diff_same (a b : Int) : wrap64 (IntKind.u64.wrap (IntKind.u64.wrap a - IntKind.u64.wrap b)) = wrap64 (a - b) := by
  obtain ⟨i, hi⟩ := uwrap_of a
  obtain ⟨j, hj⟩ := uwrap_of b
  rw [wrap_u, hi, hj]; unfold wrap64; omega
theorem prod_same (a b : Int) : wrap64 (IntKind.u64.wrap (IntKind.u64.wrap a * IntKind.u64.wrap b)) = wrap64 (a * b) := by
  obtain ⟨i, hi⟩ := uwrap_of a
  obtain ⟨j, hj⟩ := uwrap_of b
  rw [wrap_u, hi, hj]
  have : (a + 18446744073709551616 * i) * (b + 18446744073709551616 * j) = a * b + 18446744073709551616 * (a * j + i * b + 18446744073709551616 * i * j) := by
    simp only [Int.add_mul, Int.mul_add, Int.mul_assoc, Int.mul_left_comm, Int.mul_comm]; omega
  rw [this]
  generalize a * b = u
  generalize a * j + i * b + 18446744073709551616 * i * j = v
  unfold wrap64; omega

set_option maxHeartbeats 1600000 in
theorem walk_IntsSums (a b : Int) (B : Nat) (w : World) (ht : Tab B w) : Calls Tryd.prog 3 #[.int .i64 a, .int .i64 b] w (Says true w) := by
  have H1 := fun w => add_any a b w
  have H2 := fun w => sub_any a b w
  have H3 := fun w => mul_any a b w
  have e1 := sum_same a b
  have e2 := diff_same a b
  have e3 := prod_same a b
  generalize wrap64 (a + b) = x at *
  generalize wrap64 (a - b) = y at *
  generalize wrap64 (a * b) = z at *
  have H4 := awake_true B w ht
  clear ht
  go_enter Tryd.func3, Tryd.ntmps3
  go_wp2_with fail
  refine (H1 _).mono ?_; rintro e w' ⟨rfl, rfl⟩
  clear H1
  go_wp2_with fail
  refine (H2 _).mono ?_; rintro e w' ⟨rfl, rfl⟩
  clear H2
  go_wp2_with fail
  refine (H3 _).mono ?_; rintro e w' ⟨rfl, rfl⟩
  clear H3
  go_wp2_with fail
  refine H4.mono ?_; rintro e w1 ⟨rfl, hB⟩
  go_wp2
  go_ret
  exact ⟨rfl, hB⟩

set_option maxHeartbeats 1600000 in
theorem walk_IntsQuots (a b : Int) (B : Nat) (w : World) (ha : IsInt a) (hb : IsInt b) (ht : Tab B w) : Calls Tryd.prog 4 #[.int .i64 a, .int .i64 b] w (Says true w) := by
  have H1 := fun w => quot_any a b w
  have H2 := fun w => refquot_any a b w ha hb
  have H3 := fun w => rem_any a b w
  have H4 := fun w => refrem_any a b w ha hb
  generalize quoOf a b = q at *
  generalize remOf a b = r at *
  generalize decide (b ≠ 0) = t at *
  have H5 := awake_true B w ht
  clear ht ha hb
  go_enter Tryd.func4, Tryd.ntmps4
  go_wp2_with fail
  refine (H1 _).mono ?_; rintro e w' ⟨rfl, rfl⟩
  clear H1
  go_wp2_with fail
  refine (H2 _).mono ?_; rintro e w' ⟨rfl, rfl⟩
  clear H2
  go_wp2_with fail
  refine (H3 _).mono ?_; rintro e w' ⟨rfl, rfl⟩
  clear H3
  go_wp2_with fail
  refine (H4 _).mono ?_; rintro e w' ⟨rfl, rfl⟩
  clear H4
  go_wp2_with fail
  refine H5.mono ?_; rintro e w1 ⟨rfl, hB⟩
  go_wp2
  go_ret
  exact ⟨rfl, hB⟩

theorem Tab.on {B : Nat} {w w' : World} (h : Tab B w) (hB : B ≤ w.heap.size) (hb : Below w.heap.size w w') : Tab B w' ∧ B ≤ w'.heap.size := ⟨h.later (hb.mono hB), Nat.le_trans hB hb.size⟩

set_option maxHeartbeats 1600000 in
theorem walk_IntsReads (s : ByteArray) (n : Int) (B : Nat) (w : World) (hs : s.size ≤ maxLen) (hn : IsInt n) (hBw : B ≤ w.heap.size) (ht : Tab B w) : Calls Tryd.prog 5 #[.string s, .int .i64 n] w (Says true w) := by
  have H1 := fun w => read_any s w hs
  have H2 := fun w => refread_any s w hs
  have H3 := text_any n hn B w ht
  have H4 := fun w => reftext_any n hn w
  have HT : Hid (Tab B w) := ht
  generalize readN s.data.toList = x at *
  generalize readE s.data.toList = y at *
  generalize textOf n = t at *
  clear ht
  go_enter Tryd.func5, Tryd.ntmps5
  go_wp2_with fail
  refine (H1 _).mono ?_; rintro e w' ⟨rfl, rfl⟩
  clear H1
  go_wp2_with fail
  refine (H2 _).mono ?_; rintro e w' ⟨rfl, rfl⟩
  clear H2
  go_wp2_with fail
  refine H3.mono ?_; rintro e w1 ⟨rfl, hB1⟩
  clear H3
  go_wp2_with fail
  refine (H4 _).mono ?_; rintro e w2 ⟨rfl, hB2⟩
  clear H4
  have hB12 := hB1.trans (hB2.mono hB1.size)
  have H5 := awake_true B w2 (HT.out.on hBw hB12).1
  go_wp2_with fail
  refine H5.mono ?_; rintro e w3 ⟨rfl, hB3⟩
  go_wp2
  go_ret
  exact ⟨rfl, hB12.trans (hB3.mono hB12.size)⟩

theorem text_size (n : Int) (hn : IsInt n) : (textOf n).size ≤ maxLen := by
  have hle := natAbs_le n hn
  have h2 := nDigits_le 19 n.natAbs (by omega) (by omega)
  have h1 := Lib.decDigits_length n.natAbs
  have e : (textOf n).size = (Lib.itoa n).length := size_of_list _
  rw [e]
  unfold maxLen Lib.itoa
  split
  · simp only [List.length_cons]; omega
  · rw [show n.toNat = n.natAbs by omega]; omega
theorem back_neg (n : Int) (h : n < 0) : readN (textOf n).data.toList = 0 ∧ readE (textOf n).data.toList = 5 := by
  have e : (textOf n).data.toList = 45 :: Lib.decDigits n.natAbs := by
    show Lib.itoa n = _; unfold Lib.itoa; rw [if_pos h]
  obtain ⟨a, b⟩ := readE_bad (l := (textOf n).data.toList) (.inr (by rw [e]; simp [isDig]))
  exact ⟨b, a⟩
theorem back_pos (n : Int) (hn : IsInt n) (h : ¬ n < 0) : readN (textOf n).data.toList = n ∧ readE (textOf n).data.toList = 0 := by
  have e : (textOf n).data.toList = Lib.decDigits n.toNat := by
    show Lib.itoa n = _; unfold Lib.itoa; rw [if_neg h]
  unfold IsInt at hn
  obtain ⟨h1, h2, h3⟩ := dec_ok n.toNat
  obtain ⟨a, b⟩ := readE_ok (l := (textOf n).data.toList) (by rw [e]; exact h1) (by rw [e]; exact h2) (by rw [e, h3]; omega)
  exact ⟨by rw [b, e, h3]; omega, a⟩

set_option maxHeartbeats 1600000 in
theorem walk_IntsBack (n : Int) (B : Nat) (w : World) (hn : IsInt n) (hBw : B ≤ w.heap.size) (ht : Tab B w) : Calls Tryd.prog 6 #[.int .i64 n] w (Says true w) := by
  have H1 := text_any n hn B w ht
  have H2 := fun w => read_any (textOf n) w (text_size n hn)
  have HT : Hid (Tab B w) := ht
  clear ht
  by_cases h : n < 0
  · obtain ⟨e1, e2⟩ := back_neg n h
    rw [e1, e2] at H2
    clear e1 e2
    generalize textOf n = t at *
    go_enter Tryd.func6, Tryd.ntmps6
    go_wp2_with fail
    refine H1.mono ?_; rintro e w1 ⟨rfl, hB1⟩
    clear H1
    go_wp2_with fail
    refine (H2 _).mono ?_; rintro e w' ⟨rfl, rfl⟩
    clear H2
    have H5 := awake_true B w1 (HT.out.on hBw hB1).1
    go_wp2_with fail
    refine H5.mono ?_; rintro e w3 ⟨rfl, hB3⟩
    go_wp2
    go_ret
    exact ⟨rfl, hB1.trans (hB3.mono hB1.size)⟩
  · obtain ⟨e1, e2⟩ := back_pos n hn h
    rw [e1, e2] at H2
    clear e1 e2
    generalize textOf n = t at *
    go_enter Tryd.func6, Tryd.ntmps6
    go_wp2_with fail
    refine H1.mono ?_; rintro e w1 ⟨rfl, hB1⟩
    clear H1
    go_wp2_with fail
    refine (H2 _).mono ?_; rintro e w' ⟨rfl, rfl⟩
    clear H2
    have H5 := awake_true B w1 (HT.out.on hBw hB1).1
    go_wp2_with fail
    refine H5.mono ?_; rintro e w3 ⟨rfl, hB3⟩
    go_wp2
    go_ret
    exact ⟨rfl, hB1.trans (hB3.mono hB1.size)⟩

theorem tmod_lt (a b : Int) (h : ¬ b = 0) : (a.tmod b).natAbs < b.natAbs := by
  have : (a.tmod b).natAbs = a.natAbs % b.natAbs := Int.natAbs_tmod a b
  rw [this]; exact Nat.mod_lt _ (by omega)
theorem tmod_sign (a b : Int) : (0 < a.tmod b → ¬ a < 0) ∧ (a.tmod b < 0 → a < 0) := by
  refine ⟨fun h ha => ?_, fun h => ?_⟩
  · have : (-a).tmod b = -(a.tmod b) := Int.neg_tmod a b
    have h2 : 0 ≤ (-a).tmod b := Int.tmod_nonneg b (by omega)
    omega
  · by_cases ha : a < 0
    · exact ha
    · have h2 : 0 ≤ a.tmod b := Int.tmod_nonneg b (by omega)
      omega

set_option maxHeartbeats 3000000 in
theorem walk_IntsDivides (a b : Int) (B : Nat) (w : World) (ha : IsInt a) (hb : IsInt b) (ht : Tab B w) : Calls Tryd.prog 7 #[.int .i64 a, .int .i64 b] w (Says true w) := by
  have H1 := fun w => quot_any a b w
  have H2 := fun w => rem_any a b w
  have H5 := awake_true B w ht
  clear ht
  by_cases h : b = 0
  · subst h
    rw [show quoOf a 0 = 0 from if_pos rfl, show decide ((0 : Int) ≠ 0) = false from rfl] at H1
    rw [show remOf a 0 = 0 from if_pos rfl, show decide ((0 : Int) ≠ 0) = false from rfl] at H2
    go_enter Tryd.func7, Tryd.ntmps7
    go_wp2_with fail
    refine (H1 _).mono ?_; rintro e w' ⟨rfl, rfl⟩
    clear H1
    go_wp2_with fail
    refine (H2 _).mono ?_; rintro e w' ⟨rfl, rfl⟩
    clear H2
    go_wp2_with fail
    refine H5.mono ?_; rintro e w3 ⟨rfl, hB3⟩
    go_wp2
    go_ret
    exact ⟨rfl, hB3⟩
  · have hr := tmod_lt a b h
    obtain ⟨s1, s2⟩ := tmod_sign a b
    have hsum : wrap64 (wrap64 (b * quoOf a b) + a.tmod b) = a := by
      have e := rem_eq a b ha h
      have e2 : remOf a b = a.tmod b := if_neg h
      rw [wrap_sub, e2] at e
      rw [wrap_add, ← e]
      unfold IsInt at ha
      generalize b * quoOf a b = u
      unfold wrap64; omega
    have H3 := fun w => mul_any b (quoOf a b) w
    have H4 := fun w => add_any (wrap64 (b * quoOf a b)) (a.tmod b) w
    rw [hsum] at H4
    rw [show remOf a b = a.tmod b from if_neg h, show decide (b ≠ 0) = true by simp [h]] at H2
    rw [show decide (b ≠ 0) = true by simp [h]] at H1
    have hb0 : (b == 0) = false := by simpa using h
    generalize wrap64 (b * quoOf a b) = m at *
    generalize quoOf a b = q at *
    generalize a.tmod b = r at *
    unfold IsInt at ha hb
    clear hsum
    have aa : (a == a) = true := by simp
    rcases Int.lt_trichotomy r 0 with hr0 | hr0 | hr0
    · have e0 : (r == 0) = false := by rw [beq_eq_false_iff_ne]; omega
      have n0 : ¬ (0 : Int) < r := by omega
      have ha0 : a < 0 := s2 hr0
      clear s1 s2
      by_cases hbp : 0 < b
      · have hlt : -r < b := by omega
        have hbn : ¬ b < 0 := by omega
        clear hr h
        go_enter Tryd.func7, Tryd.ntmps7
        go_wp2_with (first | (go_at_call 14; refine (H1 _).mono ?_; rintro e w' ⟨rfl, rfl⟩) | (go_at_call 16; refine (H2 _).mono ?_; rintro e w' ⟨rfl, rfl⟩) | (go_at_call 12; refine (H3 _).mono ?_; rintro e w' ⟨rfl, rfl⟩) | (go_at_call 10; refine (H4 _).mono ?_; rintro e w' ⟨rfl, rfl⟩) | (go_at_call 13; refine H5.mono ?_; rintro e w3 ⟨rfl, hB3⟩))
        go_ret
        exact ⟨rfl, hB3⟩
      · have hbn : b < 0 := by omega
        have hlt : b < r := by omega
        clear hr h
        go_enter Tryd.func7, Tryd.ntmps7
        go_wp2_with (first | (go_at_call 14; refine (H1 _).mono ?_; rintro e w' ⟨rfl, rfl⟩) | (go_at_call 16; refine (H2 _).mono ?_; rintro e w' ⟨rfl, rfl⟩) | (go_at_call 12; refine (H3 _).mono ?_; rintro e w' ⟨rfl, rfl⟩) | (go_at_call 10; refine (H4 _).mono ?_; rintro e w' ⟨rfl, rfl⟩) | (go_at_call 13; refine H5.mono ?_; rintro e w3 ⟨rfl, hB3⟩))
        go_ret
        exact ⟨rfl, hB3⟩
    · subst hr0
      clear s1 s2 hr
      have h00 : ((0 : Int) == 0) = true := rfl
      go_enter Tryd.func7, Tryd.ntmps7
      go_wp2_with (first | (go_at_call 14; refine (H1 _).mono ?_; rintro e w' ⟨rfl, rfl⟩) | (go_at_call 16; refine (H2 _).mono ?_; rintro e w' ⟨rfl, rfl⟩) | (go_at_call 12; refine (H3 _).mono ?_; rintro e w' ⟨rfl, rfl⟩) | (go_at_call 10; refine (H4 _).mono ?_; rintro e w' ⟨rfl, rfl⟩) | (go_at_call 13; refine H5.mono ?_; rintro e w3 ⟨rfl, hB3⟩))
      go_ret
      exact ⟨rfl, hB3⟩
    · have e0 : (r == 0) = false := by rw [beq_eq_false_iff_ne]; omega
      have n0 : ¬ r < 0 := by omega
      have ha0 : ¬ a < 0 := s1 hr0
      clear s1 s2
      by_cases hbp : 0 < b
      · have hlt : r < b := by omega
        have hbn : ¬ b < 0 := by omega
        clear hr h
        go_enter Tryd.func7, Tryd.ntmps7
        go_wp2_with (first | (go_at_call 14; refine (H1 _).mono ?_; rintro e w' ⟨rfl, rfl⟩) | (go_at_call 16; refine (H2 _).mono ?_; rintro e w' ⟨rfl, rfl⟩) | (go_at_call 12; refine (H3 _).mono ?_; rintro e w' ⟨rfl, rfl⟩) | (go_at_call 10; refine (H4 _).mono ?_; rintro e w' ⟨rfl, rfl⟩) | (go_at_call 13; refine H5.mono ?_; rintro e w3 ⟨rfl, hB3⟩))
        go_ret
        exact ⟨rfl, hB3⟩
      · have hbn : b < 0 := by omega
        have hlt : b < -r := by omega
        clear hr h
        go_enter Tryd.func7, Tryd.ntmps7
        go_wp2_with (first | (go_at_call 14; refine (H1 _).mono ?_; rintro e w' ⟨rfl, rfl⟩) | (go_at_call 16; refine (H2 _).mono ?_; rintro e w' ⟨rfl, rfl⟩) | (go_at_call 12; refine (H3 _).mono ?_; rintro e w' ⟨rfl, rfl⟩) | (go_at_call 10; refine (H4 _).mono ?_; rintro e w' ⟨rfl, rfl⟩) | (go_at_call 13; refine H5.mono ?_; rintro e w3 ⟨rfl, hB3⟩))
        go_ret
        exact ⟨rfl, hB3⟩
end Go.Proofs.YtnepcledbjnolaaDoor
