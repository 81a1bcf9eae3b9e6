/- The laws NamesApart and NamesBack answer true. -/
import Derived.Test.YtnepcledbjnolabDoorNamesAwake
namespace Go.Proofs.YtnepcledbjnolabDoor
open Go.RowKit

theorem small_not_great {c : UInt8} (h : smallB c = true) : greatB c = false := by
  unfold smallB at h
  unfold greatB
  simp at h ⊢
  omega
theorem words_small : words.all (fun l => match l with | [] => false | c :: r => !greatB c && !r.isEmpty && (match r with | [] => false | d :: _ => !isDig d)) = true := by decide
theorem res_word {l : List UInt8} (h : resB l = true) : ∃ c d r, l = c :: d :: r ∧ greatB c = false ∧ isDig d = false := by
  unfold resB at h
  rw [List.contains_iff_mem] at h
  have := List.all_eq_true.1 words_small l h
  match l, this with
  | c :: d :: r, h2 => simp at h2; exact ⟨c, d, r, rfl, h2.1, h2.2⟩
theorem kinds_apart (l : List UInt8) : (varB l = true ∧ conB l = false ∧ resB l = false) ∨ (varB l = false ∧ conB l = true ∧ resB l = false) ∨ (varB l = false ∧ conB l = false) := by
  cases hv : varB l with
  | true =>
    left
    unfold varB at hv
    match l, hv with
    | c :: r, hv =>
      simp at hv
      refine ⟨rfl, ?_, hv.2⟩
      unfold conB
      simp [small_not_great hv.1.1.2]
  | false =>
    right
    cases hc : conB l with
    | false => right; exact ⟨rfl, rfl⟩
    | true =>
      left
      refine ⟨rfl, rfl, ?_⟩
      cases hr : resB l with
      | false => rfl
      | true =>
        obtain ⟨c, d, r, rfl, hg, _⟩ := res_word hr
        unfold conB at hc
        simp [hg] at hc

set_option maxHeartbeats 1600000 in
theorem walk_NamesApart (s : ByteArray) (B : Nat) (w : World) (hs : s.size ≤ maxLen) (hBw : B ≤ w.heap.size) (ht : Tab B w) (hE : Errs B w) : Calls Tryd.prog 5 #[.string s] w (Says true w) := by
  have H1 := fun w => var_any s w hs
  have H3 := fun w => con_any s w hs
  have H5 := fun w => reserved_any s w hs
  have H7 := fun w' (hb : Below w.heap.size w w') => awake3_true B w' (Nat.le_trans hBw hb.size) (ht.later (hb.mono hBw)) (hE.later (hb.mono hBw))
  have hk := kinds_apart s.data.toList
  clear ht hE
  generalize varB s.data.toList = b1 at *
  generalize conB s.data.toList = b2 at *
  generalize resB s.data.toList = b3 at *
  rcases hk with ⟨rfl, rfl, rfl⟩ | ⟨rfl, rfl, rfl⟩ | ⟨rfl, rfl⟩
  · go_enter Tryd.func5, Tryd.ntmps5
    go_wp2_with fail
    refine (H1 _).mono ?_; rintro e w1 ⟨rfl, hB1⟩
    go_wp2_with fail
    refine (H3 _).mono ?_; rintro e w2 ⟨rfl, rfl⟩
    go_wp2_with fail
    refine (H5 _).mono ?_; rintro e w2 ⟨rfl, hB2⟩
    have hB2 := hB1.trans (hB2.mono hB1.size)
    go_wp2_with fail
    refine (H7 _ hB2).mono ?_; rintro e w3 ⟨rfl, hB3⟩
    have hB3 := hB2.trans (hB3.mono hB2.size)
    go_wp2
    go_ret
    exact ⟨rfl, hB3⟩
  · go_enter Tryd.func5, Tryd.ntmps5
    go_wp2_with fail
    refine (H1 _).mono ?_; rintro e w1 ⟨rfl, hB1⟩
    go_wp2_with fail
    refine (H5 _).mono ?_; rintro e w2 ⟨rfl, hB2⟩
    have hB2 := hB1.trans (hB2.mono hB1.size)
    go_wp2_with fail
    refine (H7 _ hB2).mono ?_; rintro e w3 ⟨rfl, hB3⟩
    have hB3 := hB2.trans (hB3.mono hB2.size)
    go_wp2
    go_ret
    exact ⟨rfl, hB3⟩
  · cases b3 with
    | false =>
      go_enter Tryd.func5, Tryd.ntmps5
      go_wp2_with fail
      refine (H1 _).mono ?_; rintro e w1 ⟨rfl, hB1⟩
      go_wp2_with fail
      refine (H5 _).mono ?_; rintro e w2 ⟨rfl, hB2⟩
      have hB2 := hB1.trans (hB2.mono hB1.size)
      go_wp2_with fail
      refine (H7 _ hB2).mono ?_; rintro e w3 ⟨rfl, hB3⟩
      have hB3 := hB2.trans (hB3.mono hB2.size)
      go_wp2
      go_ret
      exact ⟨rfl, hB3⟩
    | true =>
      go_enter Tryd.func5, Tryd.ntmps5
      go_wp2_with fail
      refine (H1 _).mono ?_; rintro e w1 ⟨rfl, hB1⟩
      go_wp2_with fail
      refine (H5 _).mono ?_; rintro e w2 ⟨rfl, hB2⟩
      have hB2 := hB1.trans (hB2.mono hB1.size)
      go_wp2_with fail
      refine (H1 _).mono ?_; rintro e w3 ⟨rfl, hB3⟩
      have hB3 := hB2.trans (hB3.mono hB2.size)
      go_wp2_with fail
      refine (H3 _).mono ?_; rintro e w4 ⟨rfl, rfl⟩
      go_wp2_with fail
      refine (H7 _ hB3).mono ?_; rintro e w4 ⟨rfl, hB4⟩
      have hB4 := hB3.trans (hB4.mono hB3.size)
      go_wp2
      go_ret
      exact ⟨rfl, hB4⟩

/-- a letter may be a name -/
theorem letter_var {n : Int} (h0 : 0 ≤ n) (h1 : n ≤ 4611686018427387904) : varB (letterL n) = true := by
  obtain ⟨c, r, hc, h2, h3⟩ := letter_cons h0
  have hsm : smallB c = true := by unfold smallB; simp; omega
  have hrest : r.all isDig = true ∧ (∀ d q, r = d :: q → isDig d = true) := by
    unfold letterL at hc
    rw [if_neg (by omega)] at hc
    by_cases h26 : n < 26
    · rw [if_pos h26] at hc
      injection hc with _ hr
      subst hr
      exact ⟨rfl, fun d q h => by cases h⟩
    · rw [if_neg h26] at hc
      injection hc with _ hr
      have hd : r.all isDig = true := by
        rw [← hr]; unfold Lib.itoa; rw [if_neg (by omega)]; exact (dec_ok _).2.1
      refine ⟨hd, fun d q h => ?_⟩
      subst h
      simp at hd
      exact hd.1
  rw [hc]
  unfold varB
  have hon : restOnB (c :: r) = true := by
    unfold restOnB
    simp only [List.drop_succ_cons, List.drop_zero]
    rw [List.all_eq_true]
    intro d hd
    unfold onB
    rw [List.all_eq_true.1 hrest.1 d hd]; simp
  have hres : resB (c :: r) = false := by
    cases hr : resB (c :: r) with
    | false => rfl
    | true =>
      obtain ⟨c', d, q, he, _, hdg⟩ := res_word hr
      injection he with _ he
      have := hrest.2 d q he
      rw [this] at hdg; cases hdg
  have hund : (c :: r == [95]) = false := by
    rw [beq_eq_false_iff_ne]
    intro h
    injection h with h _
    rw [h] at h2
    revert h2; decide
  simp [hsm, hon, hres, hund]
theorem letter_size {n : Int} (h0 : 0 ≤ n) (h1 : n ≤ 4611686018427387904) : (letterOf n).size ≤ 21 := by
  have h := itoa_size (n / 26) (by omega) (by omega)
  rw [Lib.size_eq] at h ⊢
  unfold letterOf letterL
  rw [if_neg (by omega)]
  simp at h
  split <;> simp
  omega

set_option maxHeartbeats 1600000 in
theorem walk_NamesBack (n m : Int) (B : Nat) (w : World) (hn : IsInt n) (hm : IsInt m) (hBw : B ≤ w.heap.size) (ht : Tab B w) (hE : Errs B w) : Calls Tryd.prog 3 #[.int .i64 n, .int .i64 m] w (Says true w) := by
  have HL := fun (n : Int) (hn : IsInt n) w' (hb : Below w.heap.size w w') => letter_any n hn B w' (Nat.le_trans hBw hb.size) (ht.later (hb.mono hBw))
  have H7 := fun w' (hb : Below w.heap.size w w') => awake3_true B w' (Nat.le_trans hBw hb.size) (ht.later (hb.mono hBw)) (hE.later (hb.mono hBw))
  by_cases hin : 0 ≤ n ∧ 0 ≤ m ∧ n ≤ 4611686018427387904 ∧ m ≤ 4611686018427387904
  · obtain ⟨h1, h2, h3, h4⟩ := hin
    have HN := fun w' (hb : Below w.heap.size w w') => number_any (letterOf n) (by have := letter_size h1 h3; omega) B w' (Nat.le_trans hBw hb.size) (ht.later (hb.mono hBw)) (hE.later (hb.mono hBw))
    have HV := fun w => var_any (letterOf n) w (by have := letter_size h1 h3; unfold maxLen; omega)
    have e1 : numOf (letterOf n).data.toList = n := numOf_yes h1 h3 rfl
    have e2 : varB (letterOf n).data.toList = true := letter_var h1 h3
    have e3 : ((letterOf n).toList == (letterOf m).toList) = (n == m) := by
      rw [Lib.toList_data, Lib.toList_data, Bool.eq_iff_iff, beq_iff_eq, beq_iff_eq]
      exact ⟨fun h => letter_inj h1 h3 h2 h4 h, fun h => by rw [h]⟩
    rw [e1] at HN
    rw [e2] at HV
    have HA := HL n hn
    have HB := HL m hm
    clear HL ht hE e1 e2
    generalize letterOf n = u at *
    generalize letterOf m = v at *
    go_enter Tryd.func3, Tryd.ntmps3
    go_wp2_with fail
    refine (HA _ (Below.refl _ _)).mono ?_; rintro e w1 ⟨rfl, hB1⟩
    go_wp2_with fail
    refine (HB _ hB1).mono ?_; rintro e w2 ⟨rfl, hB2⟩
    have hB2 := hB1.trans (hB2.mono hB1.size)
    go_wp2_with fail
    refine (HN _ hB2).mono ?_; rintro e w3 ⟨rfl, hB3⟩
    have hB3 := hB2.trans (hB3.mono hB2.size)
    go_wp2_with fail
    refine (HV _).mono ?_; rintro e w4 ⟨rfl, hB4⟩
    have hB4 := hB3.trans (hB4.mono hB3.size)
    go_wp2_with fail
    refine (H7 _ hB4).mono ?_; rintro e w5 ⟨rfl, hB5⟩
    have hB5 := hB4.trans (hB5.mono hB4.size)
    go_wp2
    go_ret
    exact ⟨rfl, hB5⟩
  · by_cases hneg : n < 0
    · have HA := HL n hn
      rw [letter_neg hneg] at HA
      clear HL ht hE hin
      go_enter Tryd.func3, Tryd.ntmps3
      go_wp2_with fail
      refine (HA _ (Below.refl _ _)).mono ?_; rintro e w1 ⟨rfl, hB1⟩
      go_wp2_with fail
      refine (H7 _ hB1).mono ?_; rintro e w5 ⟨rfl, hB5⟩
      have hB5 := hB1.trans (hB5.mono hB1.size)
      go_wp2
      go_ret
      exact ⟨rfl, hB5⟩
    · have hcase : m < 0 ∨ (¬ m < 0 ∧ 4611686018427387904 < n) ∨ (¬ m < 0 ∧ ¬ 4611686018427387904 < n ∧ 4611686018427387904 < m) := by omega
      clear HL ht hE hin
      rcases hcase with h | ⟨h, h'⟩ | ⟨h, h', h''⟩ <;>
      · go_enter Tryd.func3, Tryd.ntmps3
        go_wp2_with fail
        refine (H7 _ (Below.refl _ _)).mono ?_; rintro e w5 ⟨rfl, hB5⟩
        go_wp2
        go_ret
        exact ⟨rfl, hB5⟩
end Go.Proofs.YtnepcledbjnolabDoor
