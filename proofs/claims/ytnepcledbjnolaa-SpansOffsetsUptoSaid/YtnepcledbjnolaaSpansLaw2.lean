/- The walks of the laws SpansPlaces, SpansOffsets and SpansBack. -/
import Derived.Test.YtnepcledbjnolaaSpansLaw1
namespace Go.Proofs.Ytnepcledbjnolaa
open Go.RowKit

theorem place_cases (s : ByteArray) (at' : Int) : (at' < 0 ∨ (s.size : Int) < at') ∨ ∃ k : Nat, k ≤ s.size ∧ at' = (k : Int) := by
  by_cases h : at' < 0 ∨ (s.size : Int) < at'
  · exact .inl h
  · exact .inr ⟨at'.toNat, by omega, by omega⟩

theorem both_places (s : ByteArray) (at' : Int) (hs : s.size ≤ 1048576) : ∃ (a b e : Int) (t : ByteArray) (g : Int),
    (∀ w, Calls Try.prog 14 #[.string s, .int .i64 at'] w (Three a b e w)) ∧ (∀ w, Calls Try.prog 15 #[.string s, .int .i64 at'] w (Three a b e w)) ∧
    (∀ w, Calls Try.prog 16 #[.string s, .int .i64 at'] w (StrInt t g w)) ∧ ∀ w, Calls Try.prog 17 #[.string s, .int .i64 at'] w (StrInt t g w) := by
  rcases place_cases s at' with h | ⟨k, hk, rfl⟩
  · exact ⟨_, _, _, _, _, fun w => place_bad s at' w h, fun w => refplace_bad s at' w h, fun w => mark_bad s at' w h, fun w => refmark_bad s at' w h⟩
  · exact ⟨_, _, _, _, _, fun w => place_ok s k w hs hk, fun w => refplace_ok s k w hs hk, fun w => mark_ok s k w hs hk, fun w => refmark_ok s k w hs hk⟩

set_option maxHeartbeats 1600000 in
theorem walk_SpansPlaces (s : ByteArray) (at' : Int) (w : World) (hs : s.size ≤ 1048576) : Calls Try.prog 4 #[.string s, .int .i64 at'] w (Says true w) := by
  obtain ⟨a, b, e0, t, g, H1, H2, H3, H4⟩ := both_places s at' hs
  go_enter Try.func4, Try.ntmps4
  go_wp2_with fail
  refine (H1 _).mono ?_; rintro e w1 ⟨rfl, hB1⟩
  go_wp2_with fail
  refine (H2 _).mono ?_; rintro e w2 ⟨rfl, hB2⟩
  go_wp2_with fail
  refine (H3 _).mono ?_; rintro e w3 ⟨rfl, hB3⟩
  go_wp2_with fail
  refine (H4 _).mono ?_; rintro e w4 ⟨rfl, hB4⟩
  go_wp2_with fail
  refine (awake_true _).mono ?_; rintro e w5 ⟨rfl, hB5⟩
  go_wp2
  go_ret
  have := hB1.size; have := hB2.size; have := hB3.size; have := hB4.size
  exact ⟨rfl, hB1.trans ((hB2.mono (by omega)).trans ((hB3.mono (by omega)).trans ((hB4.mono (by omega)).trans (hB5.mono (by omega)))))⟩

theorem both_offsets (s : ByteArray) (line col : Int) (hs : s.size ≤ 1048576) (hc : col ≤ 9223372036854775807) : ∃ (a e : Int),
    (∀ w, Calls Try.prog 18 #[.string s, .int .i64 line, .int .i64 col] w (Two a e w)) ∧ ∀ w, Calls Try.prog 19 #[.string s, .int .i64 line, .int .i64 col] w (Two a e w) := by
  rcases line_cases s line with h | ⟨i, hi, rfl⟩
  · exact ⟨_, _, fun w => offset_badline s line col w hs h, fun w => refoffset_badline s line col w hs h⟩
  · by_cases h : col < 1 ∨ (lenOf s i : Int) + 1 < col
    · exact ⟨_, _, fun w => offset_badcol s i col w hs hi h hc, fun w => refoffset_badcol s i col w hs hi h⟩
    · obtain ⟨c, hc', rfl⟩ : ∃ c : Nat, c ≤ lenOf s i ∧ col = (c : Int) + 1 := ⟨(col - 1).toNat, by omega, by omega⟩
      exact ⟨_, _, fun w => offset_ok s i c w hs hi hc', fun w => refoffset_ok s i c w hs hi hc'⟩

set_option maxHeartbeats 1600000 in
theorem walk_SpansOffsets (s : ByteArray) (line col : Int) (w : World) (hs : s.size ≤ 1048576) (hc : col ≤ 9223372036854775807) : Calls Try.prog 5 #[.string s, .int .i64 line, .int .i64 col] w (Says true w) := by
  obtain ⟨a, e0, H1, H2⟩ := both_offsets s line col hs hc
  clear hc
  go_enter Try.func5, Try.ntmps5
  go_wp2_with fail
  refine (H1 _).mono ?_; rintro e w1 ⟨rfl, hB1⟩
  go_wp2_with fail
  refine (H2 _).mono ?_; rintro e w2 ⟨rfl, hB2⟩
  go_wp2_with fail
  refine (awake_true _).mono ?_; rintro e w3 ⟨rfl, hB3⟩
  go_wp2
  go_ret
  have := hB1.size; have := hB2.size
  exact ⟨rfl, hB1.trans ((hB2.mono (by omega)).trans (hB3.mono (by omega)))⟩

/-- a byte's line and column lead to that byte -/
theorem back_byte (l : List UInt8) (n k : Nat) (h : k ≤ n) : (Ln l k).length - 1 < (Ln l n).length ∧ colOf l k - 1 ≤ endOf l n ((Ln l k).length - 1) - (Ln l n).getD ((Ln l k).length - 1) 0 ∧
    (Ln l n).getD ((Ln l k).length - 1) 0 + (colOf l k - 1) = k := by
  have hl := Ln_len l k
  obtain ⟨r, hr, hx⟩ := Ln_prefix l k n h
  have hlast := Ln_last l k n h ((Ln l k).length - 1) (by omega)
  have hle := Ln_getD_le l k ((Ln l k).length - 1) (by omega)
  have hlen : (Ln l n).length = (Ln l k).length + r.length := by rw [hr, List.length_append]
  have hcol : colOf l k - 1 = k - (Ln l k).getD ((Ln l k).length - 1) 0 := by unfold colOf; omega
  have hend : k ≤ endOf l n ((Ln l k).length - 1) := by
    unfold endOf
    split
    · exact h
    · have hr0 : 0 < r.length := by omega
      have : (Ln l n).getD ((Ln l k).length - 1 + 1) 0 = r.getD 0 0 := by
        rw [hr]
        simp only [List.getD_eq_getElem?_getD]
        rw [List.getElem?_append_right (by omega), show (Ln l k).length - 1 + 1 - (Ln l k).length = 0 by omega]
      rw [this]
      have := hx (r.getD 0 0) (by rw [List.getD_eq_getElem?_getD, List.getElem?_eq_getElem hr0]; exact List.getElem_mem hr0)
      omega
  exact ⟨by omega, by omega, by omega⟩

/-- the first byte of a line stands in that line, in column 1 -/
theorem back_line (l : List UInt8) (n i : Nat) (hi : i < (Ln l n).length) : (Ln l ((Ln l n).getD i 0)).length = i + 1 ∧ colOf l ((Ln l n).getD i 0) = 1 := by
  have hk := Ln_getD_le l n i hi
  obtain ⟨k, hkd⟩ : ∃ k, (Ln l n).getD i 0 = k := ⟨_, rfl⟩
  rw [hkd] at hk ⊢
  obtain ⟨r, hr, hx⟩ := Ln_prefix l k n hk
  have hlen : (Ln l n).length = (Ln l k).length + r.length := by rw [hr, List.length_append]
  have h1 : i < (Ln l k).length := by
    by_cases h : i < (Ln l k).length
    · exact h
    · exfalso
      have e : (Ln l n).getD i 0 = r.getD (i - (Ln l k).length) 0 := by
        rw [hr]; simp only [List.getD_eq_getElem?_getD]; rw [List.getElem?_append_right (by omega)]
      have hlt : i - (Ln l k).length < r.length := by omega
      have := hx (r.getD (i - (Ln l k).length) 0) (by rw [List.getD_eq_getElem?_getD, List.getElem?_eq_getElem hlt]; exact List.getElem_mem hlt)
      omega
  have h2 : (Ln l k).length = i + 1 := by
    by_cases h : i + 1 < (Ln l k).length
    · exfalso
      have e := Ln_last l k n hk (i + 1) h
      have := ((Ln_ok l n).1 i (by omega)).1
      have := Ln_getD_le l k (i + 1) h
      omega
    · omega
  refine ⟨h2, ?_⟩
  unfold colOf
  have := Ln_last l k n hk i h1
  rw [h2, Nat.add_sub_cancel]; omega

/-- what SpansBack's first part comes to -/
theorem back1 (s : ByteArray) (at' : Int) (hs : s.size ≤ 1048576) :
    (∃ a b e : Int, (e == 0) = false ∧ ∀ w, Calls Try.prog 14 #[.string s, .int .i64 at'] w (Three a b e w)) ∨
    ∃ a b : Int, (∀ w, Calls Try.prog 14 #[.string s, .int .i64 at'] w (Three a b 0 w)) ∧ ∀ w, Calls Try.prog 18 #[.string s, .int .i64 a, .int .i64 b] w (Two at' 0 w) := by
  rcases place_cases s at' with h | ⟨k, hk, rfl⟩
  · exact .inl ⟨0, 0, 1, rfl, fun w => place_bad s at' w h⟩
  · have hl := Ln_len s.data.toList k
    have hc := col_le s.data.toList k
    obtain ⟨h1, h2, h3⟩ := back_byte s.data.toList s.size k hk
    refine .inr ⟨_, _, fun w => place_ok s k w hs hk, fun w => ?_⟩
    have H := offset_ok s ((Ln s.data.toList k).length - 1) (colOf s.data.toList k - 1) w hs h1 h2
    rw [h3] at H
    rwa [show (((Ln s.data.toList k).length - 1 : Nat) : Int) + 1 = ((Ln s.data.toList k).length : Int) by omega, show ((colOf s.data.toList k - 1 : Nat) : Int) + 1 = (colOf s.data.toList k : Int) by omega] at H

theorem back2 (s : ByteArray) (line : Int) (hs : s.size ≤ 1048576) :
    (∃ e : Int, (e != 0) = true ∧ ∀ w, Calls Try.prog 18 #[.string s, .int .i64 line, .int .i64 1] w (Two 0 e w)) ∨
    ∃ k : Int, (∀ w, Calls Try.prog 18 #[.string s, .int .i64 line, .int .i64 1] w (Two k 0 w)) ∧ ∀ w, Calls Try.prog 14 #[.string s, .int .i64 k] w (Three line 1 0 w) := by
  rcases line_cases s line with h | ⟨i, hi, rfl⟩
  · exact .inl ⟨1, rfl, fun w => offset_badline s line 1 w hs h⟩
  · obtain ⟨h1, h2⟩ := back_line s.data.toList s.size i hi
    refine .inr ⟨_, fun w => offset_ok s i 0 w hs hi (Nat.zero_le _), fun w => ?_⟩
    have H := place_ok s ((Ln s.data.toList s.size).getD i 0) w hs (Ln_getD_le _ _ _ hi)
    rw [h1, h2] at H
    exact H

set_option maxHeartbeats 1600000 in
theorem walk_SpansBack (s : ByteArray) (at' line : Int) (w : World) (hs : s.size ≤ 1048576) : Calls Try.prog 6 #[.string s, .int .i64 at', .int .i64 line] w (Says true w) := by
  rcases back1 s at' hs with ⟨a, b, e0, he, H1⟩ | ⟨a, b, H1, H2⟩ <;> rcases back2 s line hs with ⟨e1, he1, H3⟩ | ⟨k, H3, H4⟩
  · go_enter Try.func6, Try.ntmps6
    go_wp2_with fail
    refine (H1 _).mono ?_; rintro e w1 ⟨rfl, hB1⟩
    go_wp2_with fail
    refine (H3 _).mono ?_; rintro e w2 ⟨rfl, hB2⟩
    go_wp2_with fail
    refine (awake_true _).mono ?_; rintro e w3 ⟨rfl, hB3⟩
    go_wp2
    go_ret
    have := hB1.size; have := hB2.size
    exact ⟨rfl, hB1.trans ((hB2.mono (by omega)).trans (hB3.mono (by omega)))⟩
  · go_enter Try.func6, Try.ntmps6
    go_wp2_with fail
    refine (H1 _).mono ?_; rintro e w1 ⟨rfl, hB1⟩
    go_wp2_with fail
    refine (H3 _).mono ?_; rintro e w2 ⟨rfl, hB2⟩
    go_wp2_with fail
    refine (H4 _).mono ?_; rintro e w3 ⟨rfl, hB3⟩
    go_wp2_with fail
    refine (awake_true _).mono ?_; rintro e w4 ⟨rfl, hB4⟩
    go_wp2
    go_ret
    have := hB1.size; have := hB2.size; have := hB3.size
    exact ⟨rfl, hB1.trans ((hB2.mono (by omega)).trans ((hB3.mono (by omega)).trans (hB4.mono (by omega))))⟩
  · go_enter Try.func6, Try.ntmps6
    go_wp2_with fail
    refine (H1 _).mono ?_; rintro e w1 ⟨rfl, hB1⟩
    go_wp2_with fail
    refine (H2 _).mono ?_; rintro e w2 ⟨rfl, hB2⟩
    go_wp2_with fail
    refine (H3 _).mono ?_; rintro e w3 ⟨rfl, hB3⟩
    go_wp2_with fail
    refine (awake_true _).mono ?_; rintro e w4 ⟨rfl, hB4⟩
    go_wp2
    go_ret
    have := hB1.size; have := hB2.size; have := hB3.size
    exact ⟨rfl, hB1.trans ((hB2.mono (by omega)).trans ((hB3.mono (by omega)).trans (hB4.mono (by omega))))⟩
  · go_enter Try.func6, Try.ntmps6
    go_wp2_with fail
    refine (H1 _).mono ?_; rintro e w1 ⟨rfl, hB1⟩
    go_wp2_with fail
    refine (H2 _).mono ?_; rintro e w2 ⟨rfl, hB2⟩
    go_wp2_with fail
    refine (H3 _).mono ?_; rintro e w3 ⟨rfl, hB3⟩
    go_wp2_with fail
    refine (H4 _).mono ?_; rintro e w4 ⟨rfl, hB4⟩
    go_wp2_with fail
    refine (awake_true _).mono ?_; rintro e w5 ⟨rfl, hB5⟩
    go_wp2
    go_ret
    have := hB1.size; have := hB2.size; have := hB3.size; have := hB4.size
    exact ⟨rfl, hB1.trans ((hB2.mono (by omega)).trans ((hB3.mono (by omega)).trans ((hB4.mono (by omega)).trans (hB5.mono (by omega)))))⟩
end Go.Proofs.Ytnepcledbjnolaa
