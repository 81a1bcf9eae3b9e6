/- The walks of the laws SpansLines, SpansPlaces, SpansOffsets. -/
import Derived.Test.YtnepcledbjnolaaSpansAwake
namespace Go.Proofs.Ytnepcledbjnolaa
open Go.RowKit

theorem line_cases (s : ByteArray) (line : Int) : (line < 1 ∨ ((Ln s.data.toList s.size).length : Int) < line) ∨ ∃ i : Nat, i < (Ln s.data.toList s.size).length ∧ line = (i : Int) + 1 := by
  by_cases h : line < 1 ∨ ((Ln s.data.toList s.size).length : Int) < line
  · exact .inl h
  · exact .inr ⟨(line - 1).toNat, by omega, by omega⟩

theorem both_lines (s : ByteArray) (line : Int) (hs : s.size ≤ 1048576) : ∃ (t : ByteArray) (e : Int), (∀ w, Calls Try.prog 8 #[.string s, .int .i64 line] w (StrInt t e w)) ∧ ∀ w, Calls Try.prog 9 #[.string s, .int .i64 line] w (StrInt t e w) := by
  rcases line_cases s line with h | ⟨i, hi, rfl⟩
  · exact ⟨_, _, fun w => line_bad s line w hs h, fun w => refline_bad s line w hs h⟩
  · exact ⟨_, _, fun w => line_ok s i w hs hi, fun w => refline_ok s i w hs hi⟩

/-- two rows of the same ints: Ints says true -/
theorem ints_true {xs : List Int} {b1 b2 c1 c2 n : Nat} {w : World} (hn : xs.length = n) (hm : n ≤ maxLen) (h1 : ∀ i, i < xs.length → w.cell? ⟨b1, i, none⟩ = some (.int .i64 (xs.getD i 0))) (h2 : ∀ i, i < xs.length → w.cell? ⟨b2, i, none⟩ = some (.int .i64 (xs.getD i 0))) :
    Calls Try.prog 10 #[.slice (some ⟨b1, 0, none⟩) n c1, .slice (some ⟨b2, 0, none⟩) n c2] w (Says true w) :=
  (ints_same (some ⟨b1, 0, none⟩) (some ⟨b2, 0, none⟩) n c1 c2 xs xs w hn hn hm (.inr ⟨b1, 0, rfl, fun i hi => by rw [Nat.zero_add]; exact h1 i hi⟩) (.inr ⟨b2, 0, rfl, fun i hi => by rw [Nat.zero_add]; exact h2 i hi⟩)).mono
    fun e w' ⟨he, q, hw⟩ => ⟨by rw [he]; simp, by rw [hw]; exact below_drewN (Below.refl _ _) _⟩

set_option maxHeartbeats 1600000 in
theorem walk_SpansLines (s : ByteArray) (line : Int) (w : World) (hs : s.size ≤ 1048576) : Calls Try.prog 3 #[.string s, .int .i64 line] w (Says true w) := by
  obtain ⟨t, e0, HL1, HL2⟩ := both_lines s line hs
  have hm : (Lk s.data.toList s.size).length ≤ maxLen := by have := (Lk_len s.data.toList s.size).2; unfold maxLen; omega
  have H1 := fun w => spans_lines s w hs
  have H2 := fun w => ref_lines s w hs
  generalize Lk s.data.toList s.size = xs at *
  obtain ⟨n, hn⟩ : ∃ n, xs.length = n := ⟨_, rfl⟩
  have HN : Hid (xs.length = n) := hn
  rw [hn] at hm
  clear hn
  go_enter Try.func3, Try.ntmps3
  go_wp2_with fail
  refine (HL1 _).mono ?_; rintro e w1 ⟨rfl, hB1⟩
  go_wp2_with fail
  refine (HL2 _).mono ?_; rintro e w2 ⟨rfl, hB2⟩
  go_wp2_with fail
  refine (H1 _).mono ?_; rintro e w3 ⟨b, cap, rfl, hb1, hb2, hc, hB3⟩
  have HC : Hid (∀ i, i < xs.length → w3.cell? ⟨b, i, none⟩ = some (.int .i64 (xs.getD i 0))) := hc
  clear hc
  rw [HN.out]
  go_wp2_with fail
  refine (H2 _).mono ?_; rintro e w4 ⟨b', cap', rfl, hb1', hb2', hc', hB4⟩
  have HI := ints_true (c1 := cap) (c2 := cap') HN.out hm (fun i hi => (hB4.cell hb2).trans (HC.out i hi)) hc'
  clear hc'
  rw [HN.out]
  go_wp2_with fail
  refine HI.mono ?_; rintro e w5 ⟨rfl, hB5⟩
  clear HI
  go_wp2_with fail
  refine (awake_true _).mono ?_; rintro e w6 ⟨rfl, hB6⟩
  go_wp2
  go_ret
  have := hB1.size; have := hB2.size; have := hB3.size; have := hB4.size; have := hB5.size
  exact ⟨rfl, hB1.trans ((hB2.mono (by omega)).trans ((hB3.mono (by omega)).trans ((hB4.mono (by omega)).trans ((hB5.mono (by omega)).trans (hB6.mono (by omega))))))⟩
end Go.Proofs.Ytnepcledbjnolaa
