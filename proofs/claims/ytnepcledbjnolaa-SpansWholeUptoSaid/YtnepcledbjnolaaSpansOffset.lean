/- The contracts of spans.Offset and of the document's own Offset. -/
import Derived.Test.YtnepcledbjnolaaSpansPlace
namespace Go.Proofs.Ytnepcledbjnolaa
open Go.RowKit

theorem ret_two {a b c d : Int} (h1 : a = c) (h2 : b = d) : Ending.returned (.tuple #[.int .i64 a, .int .i64 b]) = .returned (.tuple #[.int .i64 c, .int .i64 d]) := by rw [h1, h2]

def Two (a b : Int) (w : World) (e : Ending) (w' : World) : Prop := e = .returned (.tuple #[.int .i64 a, .int .i64 b]) ∧ Below w.heap.size w w'

set_option maxHeartbeats 800000 in
theorem offset_badline (s : ByteArray) (line col : Int) (w : World) (hs : s.size ≤ 1048576) (h : line < 1 ∨ ((Ln s.data.toList s.size).length : Int) < line) :
    Calls Try.prog 18 #[.string s, .int .i64 line, .int .i64 col] w (Two 0 1 w) := by
  have HH : Hid (line < 1 ∨ ((Ln s.data.toList s.size).length : Int) < line) := h
  clear h
  go_enter Try.func18, Try.ntmps18
  go_wp2_with (go_at_call 20; refine (bounds_bad s line _ hs HH.out).mono ?_; rintro e w' ⟨rfl, hB⟩)
  go_ret2
  exact ⟨rfl, hB⟩

/-- how many bytes the line i has -/
def lenOf (s : ByteArray) (i : Nat) : Nat := endOf s.data.toList s.size i - (Ln s.data.toList s.size).getD i 0
theorem size_lineOf (s : ByteArray) (i : Nat) (h : i < (Ln s.data.toList s.size).length) : (lineOf s i).size = lenOf s i := by
  obtain ⟨h1, h2, -, -⟩ := endOf_ok s.data.toList s.size i h
  unfold lineOf lenOf
  rw [ByteArray.size_extract]; omega

set_option maxHeartbeats 800000 in
theorem offset_badcol (s : ByteArray) (i : Nat) (col : Int) (w : World) (hs : s.size ≤ 1048576) (hi : i < (Ln s.data.toList s.size).length) (h : col < 1 ∨ (lenOf s i : Int) + 1 < col) (hc : col ≤ 9223372036854775807) :
    Calls Try.prog 18 #[.string s, .int .i64 ((i : Int) + 1), .int .i64 col] w (Two 0 1 w) := by
  obtain ⟨h1, h2, -, -⟩ := endOf_ok s.data.toList s.size i hi
  have HB := bounds_ok s i w hs hi
  unfold lenOf at h
  generalize (Ln s.data.toList s.size).getD i 0 = x at *
  generalize endOf s.data.toList s.size i = y at *
  rcases h with h | h
  · go_enter Try.func18, Try.ntmps18
    go_wp2_with (go_at_call 20; refine HB.mono ?_; rintro e w' ⟨rfl, hB⟩)
    go_ret2
    exact ⟨rfl, hB⟩
  · have hlt : ¬ col < 1 := by omega
    have hgt : (y : Int) - (x : Int) < col - 1 := by omega
    clear h
    go_enter Try.func18, Try.ntmps18
    go_wp2_with (go_at_call 20; refine HB.mono ?_; rintro e w' ⟨rfl, hB⟩)
    go_ret2
    exact ⟨rfl, hB⟩

set_option maxHeartbeats 800000 in
theorem offset_ok (s : ByteArray) (i c : Nat) (w : World) (hs : s.size ≤ 1048576) (hi : i < (Ln s.data.toList s.size).length) (h : c ≤ lenOf s i) :
    Calls Try.prog 18 #[.string s, .int .i64 ((i : Int) + 1), .int .i64 ((c : Int) + 1)] w (Two ((Ln s.data.toList s.size).getD i 0 + c : Nat) 0 w) := by
  obtain ⟨h1, h2, -, -⟩ := endOf_ok s.data.toList s.size i hi
  have HB := bounds_ok s i w hs hi
  unfold lenOf at h
  generalize (Ln s.data.toList s.size).getD i 0 = x at *
  generalize endOf s.data.toList s.size i = y at *
  have hgt : ¬ (y : Int) - (x : Int) < (c : Int) := by omega
  clear h
  go_enter Try.func18, Try.ntmps18
  go_wp2_with (go_at_call 20; refine HB.mono ?_; rintro e w' ⟨rfl, hB⟩)
  go_ret2
  exact ⟨ret_two (by omega) rfl, hB⟩

set_option maxHeartbeats 800000 in
theorem refoffset_badline (s : ByteArray) (line col : Int) (w : World) (hs : s.size ≤ 1048576) (h : line < 1 ∨ ((Ln s.data.toList s.size).length : Int) < line) :
    Calls Try.prog 19 #[.string s, .int .i64 line, .int .i64 col] w (Two 0 1 w) := by
  have HH : Hid (line < 1 ∨ ((Ln s.data.toList s.size).length : Int) < line) := h
  clear h
  go_enter Try.func19, Try.ntmps19
  go_wp2_with (go_at_call 9; refine (refline_bad s line _ hs HH.out).mono ?_; rintro e w' ⟨rfl, hB⟩)
  go_ret2
  exact ⟨rfl, hB⟩

set_option maxHeartbeats 800000 in
theorem refoffset_badcol (s : ByteArray) (i : Nat) (col : Int) (w : World) (hs : s.size ≤ 1048576) (hi : i < (Ln s.data.toList s.size).length) (h : col < 1 ∨ (lenOf s i : Int) + 1 < col) :
    Calls Try.prog 19 #[.string s, .int .i64 ((i : Int) + 1), .int .i64 col] w (Two 0 1 w) := by
  have HB := refline_ok s i w hs hi
  have hsz := size_lineOf s i hi
  have hle : lenOf s i ≤ 1048576 := by obtain ⟨h1, h2, -, -⟩ := endOf_ok s.data.toList s.size i hi; unfold lenOf; omega
  generalize lineOf s i = t at *
  generalize lenOf s i = z at *
  obtain rfl := hsz
  rcases h with h | h
  · go_enter Try.func19, Try.ntmps19
    go_wp2_with (go_at_call 9; refine HB.mono ?_; rintro e w' ⟨rfl, hB⟩)
    go_ret2
    exact ⟨rfl, hB⟩
  · have hlt : ¬ col < 1 := by omega
    go_enter Try.func19, Try.ntmps19
    go_wp2_with (go_at_call 9; refine HB.mono ?_; rintro e w' ⟨rfl, hB⟩)
    go_ret2
    exact ⟨rfl, hB⟩

set_option maxHeartbeats 800000 in
theorem refoffset_ok (s : ByteArray) (i c : Nat) (w : World) (hs : s.size ≤ 1048576) (hi : i < (Ln s.data.toList s.size).length) (h : c ≤ lenOf s i) :
    Calls Try.prog 19 #[.string s, .int .i64 ((i : Int) + 1), .int .i64 ((c : Int) + 1)] w (Two ((Ln s.data.toList s.size).getD i 0 + c : Nat) 0 w) := by
  have HB := refline_ok s i w hs hi
  have hsz := size_lineOf s i hi
  have hle : lenOf s i ≤ 1048576 := by obtain ⟨h1, h2, -, -⟩ := endOf_ok s.data.toList s.size i hi; unfold lenOf; omega
  have hxb := Ln_getD_le s.data.toList s.size i hi
  obtain ⟨n, hn⟩ : ∃ n, (Lk s.data.toList s.size).length = n := ⟨_, rfl⟩
  have hin : i < n := by rw [← hn, Lk_length]; exact hi
  have hnb : n ≤ 1048577 := by have := (Lk_len s.data.toList s.size).2; omega
  obtain ⟨x, hx⟩ : ∃ x, (Ln s.data.toList s.size).getD i 0 = x := ⟨_, rfl⟩
  rw [hx] at hxb
  rw [hx]
  have HX : Hid ((Ln s.data.toList s.size).getD i 0 = x) := hx
  have HN : Hid ((Lk s.data.toList s.size).length = n) := hn
  clear hx hn hi
  generalize lineOf s i = t at *
  generalize lenOf s i = z at *
  obtain rfl := hsz
  have hii : (i : Int) < (n : Int) := by omega
  go_enter Try.func19, Try.ntmps19
  go_wp2_with (go_at_call 9; refine HB.mono ?_; rintro e w' ⟨rfl, hB⟩)
  refine (ref_lines s _ hs).mono ?_
  rintro e w2 ⟨b, cap, rfl, hb1, hb2, hcc, hB2⟩
  rw [HN.out] at hcc ⊢
  have hci := hcc i (by omega)
  rw [Lk_getD, HX.out] at hci
  clear hcc
  go_wp2
  go_ret2
  exact ⟨ret_two (by omega) rfl, hB.trans (hB2.mono hB.size)⟩
end Go.Proofs.Ytnepcledbjnolaa
