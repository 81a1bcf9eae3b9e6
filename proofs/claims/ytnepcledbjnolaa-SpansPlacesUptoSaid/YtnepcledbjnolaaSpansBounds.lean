/- The contracts of spans.bounds, spans.Line, and the document's own Line and Place. -/
import Derived.Test.YtnepcledbjnolaaSpansLines
import Derived.WalkKit
import Derived.WalkSpells
import Derived.Below
import Derived.WalkSmall
import Derived.BigQuiet
import Derived.Deep.QuietTactic
namespace Go.Proofs.Ytnepcledbjnolaa
open Go.RowKit

def Three (a b c : Int) (w : World) (e : Ending) (w' : World) : Prop := e = .returned (.tuple #[.int .i64 a, .int .i64 b, .int .i64 c]) ∧ Below w.heap.size w w'

set_option maxHeartbeats 800000 in
theorem bounds_bad (s : ByteArray) (line : Int) (w : World) (hs : s.size ≤ 1048576) (h : line < 1 ∨ ((Ln s.data.toList s.size).length : Int) < line) :
    Calls Try.prog 20 #[.string s, .int .i64 line] w (Three 0 0 1 w) := by
  rcases h with h | h
  · go_enter Try.func20, Try.ntmps20
    go_wp2_with (go_at_call 11; refine (spans_lines s _ hs).mono ?_; rintro e w' ⟨b, cap, rfl, hb1, hb2, hc, hB⟩)
    go_ret3
    exact ⟨rfl, hB⟩
  · have hlt : ¬ line < 1 := by have := (Ln_len s.data.toList s.size).1; omega
    have hgt : (((Lk s.data.toList s.size).length : Nat) : Int) < line := by rw [Lk_length]; exact h
    clear h
    go_enter Try.func20, Try.ntmps20
    go_wp2_with (go_at_call 11; refine (spans_lines s _ hs).mono ?_; rintro e w' ⟨b, cap, rfl, hb1, hb2, hc, hB⟩)
    go_ret3
    exact ⟨rfl, hB⟩

set_option maxHeartbeats 800000 in
theorem bounds_ok (s : ByteArray) (i : Nat) (w : World) (hs : s.size ≤ 1048576) (h : i < (Ln s.data.toList s.size).length) :
    Calls Try.prog 20 #[.string s, .int .i64 ((i : Int) + 1)] w (Three ((Ln s.data.toList s.size).getD i 0) (endOf s.data.toList s.size i) 0 w) := by
  have hl := Ln_len s.data.toList s.size
  obtain ⟨n, hn⟩ : ∃ n, (Lk s.data.toList s.size).length = n := ⟨_, rfl⟩
  have hn' : (Ln s.data.toList s.size).length = n := by rw [← hn, Lk_length]
  obtain ⟨x, hx⟩ : ∃ x, (Ln s.data.toList s.size).getD i 0 = x := ⟨_, rfl⟩
  rw [hx]
  by_cases hlast : i + 1 = n
  · rw [show endOf s.data.toList s.size i = s.size by unfold endOf; rw [if_pos (by omega)]]
    have hne : (((i : Int) + 1) == (n : Int)) = true := by rw [beq_iff_eq]; omega
    have HX : Hid ((Ln s.data.toList s.size).getD i 0 = x) := hx
    have HN : Hid ((Lk s.data.toList s.size).length = n) := hn
    have hnb : n ≤ 1048577 := by omega
    clear hx hn hn' hl h
    go_enter Try.func20, Try.ntmps20
    go_wp2_with fail
    refine (spans_lines s _ hs).mono ?_
    rintro e w' ⟨b, cap, rfl, hb1, hb2, hc, hB⟩
    rw [HN.out] at hc ⊢
    have hci := hc i (by omega)
    rw [Lk_getD, HX.out] at hci
    have hii : (i : Int) < (n : Int) := by omega
    clear hc
    go_wp2
    go_ret3
    exact ⟨rfl, hB⟩
  · obtain ⟨y, hy⟩ : ∃ y, (Ln s.data.toList s.size).getD (i + 1) 0 = y := ⟨_, rfl⟩
    have hyb := Ln_getD_le s.data.toList s.size (i + 1) (by omega)
    have hy1 := ((Ln_ok s.data.toList s.size).1 i (by omega)).1
    rw [hy] at hyb hy1
    rw [show (endOf s.data.toList s.size i : Int) = (y : Int) - 1 by unfold endOf; rw [if_neg (by omega), hy]; omega]
    have hne : (((i : Int) + 1) == (n : Int)) = false := by rw [beq_eq_false_iff_ne]; omega
    have HX : Hid ((Ln s.data.toList s.size).getD i 0 = x) := hx
    have HY : Hid ((Ln s.data.toList s.size).getD (i + 1) 0 = y) := hy
    have HN : Hid ((Lk s.data.toList s.size).length = n) := hn
    have hnb : n ≤ 1048577 := by omega
    have hjj : (i : Int) + 1 < (n : Int) := by omega
    clear hx hn hn' hl h hy hy1
    go_enter Try.func20, Try.ntmps20
    go_wp2_with fail
    refine (spans_lines s _ hs).mono ?_
    rintro e w' ⟨b, cap, rfl, hb1, hb2, hc, hB⟩
    rw [HN.out] at hc ⊢
    have hci := hc i (by omega)
    have hcj := hc (i + 1) (by omega)
    rw [Lk_getD, HX.out] at hci
    rw [Lk_getD, HY.out] at hcj
    have hii : (i : Int) < (n : Int) := by omega
    clear hc
    go_wp2
    go_quiet (fail)
    go_wp2
    go_ret3
    exact ⟨rfl, below_drewN hB _⟩

/-- the bytes of the line i -/
def lineOf (s : ByteArray) (i : Nat) : ByteArray := s.extract ((Ln s.data.toList s.size).getD i 0) (endOf s.data.toList s.size i)

def StrInt (t : ByteArray) (a : Int) (w : World) (e : Ending) (w' : World) : Prop := e = .returned (.tuple #[.string t, .int .i64 a]) ∧ Below w.heap.size w w'

set_option maxHeartbeats 800000 in
theorem line_bad (s : ByteArray) (line : Int) (w : World) (hs : s.size ≤ 1048576) (h : line < 1 ∨ ((Ln s.data.toList s.size).length : Int) < line) :
    Calls Try.prog 8 #[.string s, .int .i64 line] w (StrInt ⟨#[]⟩ 1 w) := by
  have HH : Hid (line < 1 ∨ ((Ln s.data.toList s.size).length : Int) < line) := h
  clear h
  go_enter Try.func8, Try.ntmps8
  go_wp2_with (go_at_call 20; refine (bounds_bad s line _ hs HH.out).mono ?_; rintro e w' ⟨rfl, hB⟩)
  go_ret2
  exact ⟨rfl, hB⟩

set_option maxHeartbeats 800000 in
theorem line_ok (s : ByteArray) (i : Nat) (w : World) (hs : s.size ≤ 1048576) (h : i < (Ln s.data.toList s.size).length) :
    Calls Try.prog 8 #[.string s, .int .i64 ((i : Int) + 1)] w (StrInt (lineOf s i) 0 w) := by
  obtain ⟨h1, h2, -, -⟩ := endOf_ok s.data.toList s.size i h
  unfold lineOf
  have HB := bounds_ok s i w hs h
  generalize (Ln s.data.toList s.size).getD i 0 = x at *
  generalize endOf s.data.toList s.size i = y at *
  go_enter Try.func8, Try.ntmps8
  go_wp2_with (go_at_call 20; refine HB.mono ?_; rintro e w' ⟨rfl, hB⟩)
  go_ret2
  exact ⟨rfl, hB⟩

set_option maxHeartbeats 800000 in
theorem refline_bad (s : ByteArray) (line : Int) (w : World) (hs : s.size ≤ 1048576) (h : line < 1 ∨ ((Ln s.data.toList s.size).length : Int) < line) :
    Calls Try.prog 9 #[.string s, .int .i64 line] w (StrInt ⟨#[]⟩ 1 w) := by
  rcases h with h | h
  · go_enter Try.func9, Try.ntmps9
    go_wp2_with (go_at_call 12; refine (ref_lines s _ hs).mono ?_; rintro e w' ⟨b, cap, rfl, hb1, hb2, hc, hB⟩)
    go_ret2
    exact ⟨rfl, hB⟩
  · have hlt : ¬ line < 1 := by have := (Ln_len s.data.toList s.size).1; omega
    have hgt : (((Lk s.data.toList s.size).length : Nat) : Int) < line := by rw [Lk_length]; exact h
    clear h
    go_enter Try.func9, Try.ntmps9
    go_wp2_with (go_at_call 12; refine (ref_lines s _ hs).mono ?_; rintro e w' ⟨b, cap, rfl, hb1, hb2, hc, hB⟩)
    go_ret2
    exact ⟨rfl, hB⟩

theorem getD_byte (s : ByteArray) (k : Nat) (h : k < s.size) : s.data.toList.getD k 0 = s[k] := by
  rw [List.getD_eq_getElem?_getD, List.getElem?_eq_getElem (by simpa using h)]; rfl
theorem byte_ne {c : UInt8} (h : ¬ c = 10) : ((c.toNat : Int) == 10) = false := by
  rw [beq_eq_false_iff_ne]; intro h'
  exact h (UInt8.toNat_inj.1 (by show c.toNat = 10; omega))

set_option maxHeartbeats 800000 in
theorem refline_ok (s : ByteArray) (i : Nat) (w : World) (hs : s.size ≤ 1048576) (h : i < (Ln s.data.toList s.size).length) :
    Calls Try.prog 9 #[.string s, .int .i64 ((i : Int) + 1)] w (StrInt (lineOf s i) 0 w) := by
  have hl := Ln_len s.data.toList s.size
  obtain ⟨n, hn⟩ : ∃ n, (Lk s.data.toList s.size).length = n := ⟨_, rfl⟩
  have hn' : (Ln s.data.toList s.size).length = n := by rw [← hn, Lk_length]
  obtain ⟨h1, h2, h3, h4⟩ := endOf_ok s.data.toList s.size i h
  obtain ⟨x, hx⟩ : ∃ x, (Ln s.data.toList s.size).getD i 0 = x := ⟨_, rfl⟩
  obtain ⟨y, hy⟩ : ∃ y, endOf s.data.toList s.size i = y := ⟨_, rfl⟩
  unfold lineOf
  rw [hx] at h1 h4
  rw [hy] at h1 h2 h3 h4
  rw [hx, hy]
  have HX : Hid ((Ln s.data.toList s.size).getD i 0 = x) := hx
  have HN : Hid ((Lk s.data.toList s.size).length = n) := hn
  have H3 : Hid (y = s.size ∨ s.data.toList.getD y 0 = 10) := h3
  have H4 : Hid (∀ j, x ≤ j → j < y → ¬ s.data.toList.getD j 0 = 10) := h4
  have hin : i < n := by omega
  have hnb : n ≤ 1048577 := by omega
  clear hx hy hn hn' hl h3 h4 h
  go_enter Try.func9, Try.ntmps9
  go_wp2_with fail
  refine (ref_lines s _ hs).mono ?_
  rintro e w' ⟨b, cap, rfl, hb1, hb2, hc, hB⟩
  rw [HN.out] at hc ⊢
  have hci := hc i (by omega)
  rw [Lk_getD, HX.out] at hci
  have hii : (i : Int) < (n : Int) := by omega
  clear hc
  go_wp2
  go_loop [8] (fun t => ∃ j : Nat, x ≤ j ∧ j ≤ y ∧ t = .int .i64 j) (fun t => y - (intOf t).toNat)
  case atStart => exact ⟨x, Nat.le_refl _, h1, rfl⟩
  case round =>
    obtain ⟨j, hj1, hj2, rfl⟩ := hrel
    by_cases hlt : j < y
    · have hjs : j < s.size := by omega
      have hne : ((s[j].toNat : Int) != 10) = true := by
        have := byte_ne (c := s[j]) (by rw [← getD_byte s j hjs]; exact H4.out j hj1 hlt)
        rw [bne, this]; rfl
      go_wp2
      go_round
      case rel => exact ⟨j + 1, by omega, by omega, by go_num⟩
      case measure => simp [intOf]; omega
    · have hjy : j = y := by omega
      subst hjy
      by_cases hjs : j < s.size
      · have hne : ((s[j].toNat : Int) != 10) = false := by
          have h10 : s[j] = 10 := by rw [← getD_byte s j hjs]; exact H3.out.resolve_left (by omega)
          rw [h10]; rfl
        go_wp2
        go_ret2
        exact ⟨rfl, hB⟩
      · go_wp2
        go_ret2
        exact ⟨rfl, hB⟩

set_option maxHeartbeats 800000 in
theorem refplace_bad (s : ByteArray) (at' : Int) (w : World) (h : at' < 0 ∨ (s.size : Int) < at') :
    Calls Try.prog 15 #[.string s, .int .i64 at'] w (Three 0 0 1 w) := by
  rcases h with h | h
  · go_enter Try.func15, Try.ntmps15
    go_wp2
    go_ret3
    exact ⟨rfl, Below.refl _ _⟩
  · have hlt : ¬ at' < 0 := by omega
    go_enter Try.func15, Try.ntmps15
    go_wp2
    go_ret3
    exact ⟨rfl, Below.refl _ _⟩

set_option maxHeartbeats 800000 in
theorem refplace_ok (s : ByteArray) (k : Nat) (w : World) (hs : s.size ≤ 1048576) (h : k ≤ s.size) :
    Calls Try.prog 15 #[.string s, .int .i64 k] w (Three (Ln s.data.toList k).length (colOf s.data.toList k) 0 w) := by
  go_enter Try.func15, Try.ntmps15
  go_wp2
  go_loop [7, 8, 9] (fun a b t => ∃ j : Nat, j ≤ k ∧ t = .int .i64 j ∧ a = .int .i64 (Ln s.data.toList j).length ∧ b = .int .i64 (colOf s.data.toList j)) (fun _ _ t => k - (intOf t).toNat)
  case atStart => exact ⟨0, Nat.zero_le _, rfl, rfl, by rw [col_zero]; rfl⟩
  case round =>
    obtain ⟨j, hj, rfl, rfl, rfl⟩ := hrel
    have hl := Ln_len s.data.toList j
    have hc := col_le s.data.toList j
    by_cases hlt : j < k
    · have hjs : j < s.size := by omega
      by_cases h10 : s.data.toList.getD j 0 = 10
      · have HL : Hid ((Ln s.data.toList (j + 1)).length = (Ln s.data.toList j).length + 1) := by show _ = _; rw [Ln_hit h10]; simp
        have HC : Hid (colOf s.data.toList (j + 1) = 1) := col_hit h10
        have hne : ((s[j].toNat : Int) == 10) = true := by rw [getD_byte s j hjs] at h10; rw [h10]; rfl
        clear h10
        go_wp2
        go_round
        case rel => exact ⟨j + 1, by omega, by go_num, by rw [HL.out]; go_num, by rw [HC.out]; rfl⟩
        case measure => simp [intOf]; omega
      · have HL : Hid ((Ln s.data.toList (j + 1)).length = (Ln s.data.toList j).length) := by show _ = _; rw [Ln_miss h10]
        have HC : Hid (colOf s.data.toList (j + 1) = colOf s.data.toList j + 1) := col_miss h10
        have hne : ((s[j].toNat : Int) == 10) = false := byte_ne (by rw [← getD_byte s j hjs]; exact h10)
        clear h10
        go_wp2
        go_round
        case rel => exact ⟨j + 1, by omega, by go_num, by rw [HL.out], by rw [HC.out]; go_num⟩
        case measure => simp [intOf]; omega
    · have hjk : j = k := by omega
      subst hjk
      go_wp2
      go_ret3
      exact ⟨rfl, Below.refl _ _⟩
end Go.Proofs.Ytnepcledbjnolaa
