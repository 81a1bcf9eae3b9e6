/- The walks of the laws LexerLexes, LexerFails, LexerBack. -/
import Derived.Test.YtbcgaficnlfilaaLexAwake
namespace Go.Proofs.Ytbcgaficnlfilaa
open Go.RowKit

theorem TkAt.of0 {w : World} {g j : Nat} {t : Tk} (h : TkAt w g 0 j t) : w.cell? ⟨g, j * 4, none⟩ = some (.int .i64 t.kind) ∧ w.cell? ⟨g, j * 4 + 1, none⟩ = some (.int .i64 t.pos) ∧ w.cell? ⟨g, j * 4 + 2, none⟩ = some (.int .i64 t.num) ∧ w.cell? ⟨g, j * 4 + 3, none⟩ = some (.string ⟨t.text.toArray⟩) := by
  unfold TkAt at h; rwa [Nat.zero_add] at h
theorem lexR_len (s : ByteArray) {r : List Tk} (h : lexAll s = .ok r) : r.length ≤ s.size := by
  rw [lexAll_lexR] at h
  have := (lexR_short _ _ _ _ h).2
  rwa [← Lib.size_eq] at this

set_option maxHeartbeats 1600000 in
theorem walk_LexerLexes (s : ByteArray) (w : World) : Calls Try.prog 3 #[.string s] w (RunsTo true w) := by
  by_cases hbig : 20000 < s.size
  · have hbig' : (20000 : Int) < s.size := by omega
    go_enter Try.func3, Try.ntmps3
    go_wp2_with fail
    refine (awake_any _).mono ?_; rintro e w1 ⟨rfl, hB1⟩
    go_wp2
    go_ret
    exact ⟨rfl, hB1⟩
  · have hbig' : (s.size : Int) ≤ 20000 := by omega
    have H1 := fun w => lex_any s (by omega) w
    have H2 := fun w => reflex_any s w (by omega)
    cases hl : lexAll s with
    | error kx =>
      obtain ⟨k, x⟩ := kx
      have H1 := fun w => (H1 w).mono fun e w' h => lexis_err hl h
      have H2 := fun w => (H2 w).mono fun e w' h => lexis_err hl h
      clear hl
      go_enter Try.func3, Try.ntmps3
      go_wp2_with fail
      refine (H1 _).mono ?_; rintro e w1 ⟨rfl, hB1⟩
      go_wp2_with fail
      refine (H2 _).mono ?_; rintro e w2 ⟨rfl, hB2⟩
      go_wp2_with fail
      refine (just_none _).mono ?_; rintro e w3 ⟨rfl, hB3⟩
      go_wp2_with fail
      refine (awake_any _).mono ?_; rintro e w4 ⟨rfl, hB4⟩
      go_wp2
      go_ret
      have := hB1.size; have := hB2.size; have := hB3.size
      exact ⟨rfl, hB1.trans ((hB2.mono (by omega)).trans ((hB3.mono (by omega)).trans (hB4.mono (by omega))))⟩
    | ok r =>
      have hlen := lexR_len s hl
      have H1 := fun w => (H1 w).mono fun e w' h => lexis_ok hl h
      have H2 := fun w => (H2 w).mono fun e w' h => lexis_ok hl h
      have HJ := fun g1 c1 g2 c2 w (l1 : g1 < w.heap.size) (l2 : g2 < w.heap.size) h1 h2 => just_same g1 c1 g2 c2 (r.length + 1) (r ++ [endTk s]) w (by simp) (by omega) l1 l2 h1 h2
      clear hl hlen
      go_enter Try.func3, Try.ntmps3
      go_wp2_with fail
      refine (H1 _).mono ?_; rintro e w1 ⟨g1, c1, rfl, _, l1, t1, hB1⟩
      have HT : Hid (∀ j (hj : j < (r ++ [endTk s]).length), TkAt w1 g1 0 j (r ++ [endTk s])[j]) := t1
      clear t1
      go_wp2_with fail
      refine (H2 _).mono ?_; rintro e w2 ⟨g2, c2, rfl, _, l2, t2, hB2⟩
      have HJ := HJ g1 c1 g2 c2 w2 (Nat.lt_of_lt_of_le l1 hB2.size) l2 (fun j hj => ((HT.out j hj).below hB2 l1).of0) (fun j hj => (t2 j hj).of0)
      clear t2
      go_wp2_with fail
      refine HJ.mono ?_; rintro e w3 ⟨rfl, hB3⟩
      clear HJ
      go_wp2_with fail
      refine (awake_any _).mono ?_; rintro e w4 ⟨rfl, hB4⟩
      go_wp2
      go_ret
      have := hB1.size; have := hB2.size; have := hB3.size
      exact ⟨rfl, hB1.trans ((hB2.mono (by omega)).trans ((hB3.mono (by omega)).trans (hB4.mono (by omega))))⟩

/-- a part of a text -/
theorem part_lexAll (s : ByteArray) (a b : Nat) (hb : b ≤ s.size) : lexAll (s.extract a b) = lexR (s.size + 1) ((s.data.toList.drop a).take (b - a)) 0 := by
  have h1 : (s.extract a b).data.toList = (s.data.toList.drop a).take (b - a) := by
    rw [ByteArray.data_extract, Array.toList_extract]
  have h2 : (s.extract a b).size ≤ s.size := by
    rw [Lib.size_eq, h1, List.length_take, List.length_drop, ← Lib.size_eq]; omega
  rw [lexAll_lexR, h1]
  refine lexR_fuel _ _ _ _ ?_ ?_
  · rw [Lib.size_eq, h1]; omega
  · rw [← h1, ← Lib.size_eq]; omega

set_option maxHeartbeats 1600000 in
theorem walk_LexerFails (s : ByteArray) (w : World) : Calls Try.prog 7 #[.string s] w (RunsTo true w) := by
  by_cases hbig : 5000 < s.size
  · have hbig' : (5000 : Int) < s.size := by omega
    go_enter Try.func7, Try.ntmps7
    go_wp2_with fail
    refine (awake_any _).mono ?_; rintro e w1 ⟨rfl, hB1⟩
    go_wp2
    go_ret
    exact ⟨rfl, hB1⟩
  · have hbig' : (s.size : Int) ≤ 5000 := by omega
    have H1 := fun w => lex_any s (by omega) w
    cases hl : lexAll s with
    | ok r =>
      have H1 := fun w => (H1 w).mono fun e w' h => lexis_ok hl h
      clear hl
      go_enter Try.func7, Try.ntmps7
      go_wp2_with fail
      refine (H1 _).mono ?_; rintro e w1 ⟨g1, c1, rfl, _, l1, t1, hB1⟩
      clear t1
      go_wp2_with fail
      refine (awake_any _).mono ?_; rintro e w4 ⟨rfl, hB4⟩
      go_wp2
      go_ret
      exact ⟨rfl, hB1.trans (hB4.mono hB1.size)⟩
    | error kx =>
      obtain ⟨k, x⟩ := kx
      have H1 := fun w => (H1 w).mono fun e w' h => lexis_err hl h
      rw [lexAll_lexR] at hl
      obtain ⟨_, f2, ⟨r, f3⟩, f4, f5⟩ := lexR_fails (s.size + 1) s.data.toList 0 k x (by rw [← Lib.size_eq]; omega) hl
      rw [Nat.zero_add, ← Lib.size_eq] at f2
      rw [Nat.sub_zero] at f3 f4 f5
      have q1 : lexAll (s.extract 0 k) = .ok r := by rw [part_lexAll s 0 k (by omega)]; exact f3
      have q2 : lexAll (s.extract k s.size) = .error (0, x) := by
        have e : (s.data.toList.drop k).take (s.size - k) = s.data.toList.drop k := by rw [List.take_of_length_le]; rw [List.length_drop, ← Lib.size_eq]; omega
        rw [part_lexAll s k s.size (Nat.le_refl _), e, lexR, f4, List.drop_zero, f5, if_neg]
        intro h
        have := congrArg List.length h
        rw [List.length_drop, ← Lib.size_eq] at this
        simp at this; omega
      have hz1 : (s.extract 0 k).size ≤ 1048576 := by rw [ByteArray.size_extract]; omega
      have hz2 : (s.extract k s.size).size ≤ 1048576 := by rw [ByteArray.size_extract]; omega
      have H2 := fun w => (lex_any (s.extract 0 k) hz1 w).mono fun e w' h => lexis_ok q1 h
      have H3 := fun w => (lex_any (s.extract k s.size) hz2 w).mono fun e w' h => lexis_err q2 h
      have hx := word_err f5
      have hxb : (x == 0) = false := by rw [beq_eq_false_iff_ne]; exact hx
      have hk : (k : Int) < s.size := by omega
      clear hl f3 f4 f5 q1 q2 hz1 hz2 hx
      go_enter Try.func7, Try.ntmps7
      go_wp2_with fail
      refine (H1 _).mono ?_; rintro e w1 ⟨rfl, hB1⟩
      go_wp2_with fail
      refine (H2 _).mono ?_; rintro e w2 ⟨g2, c2, rfl, _, _, t2, hB2⟩
      clear t2
      go_wp2_with fail
      refine (H3 _).mono ?_; rintro e w3 ⟨rfl, hB3⟩
      go_wp2_with fail
      refine (awake_any _).mono ?_; rintro e w4 ⟨rfl, hB4⟩
      go_wp2
      go_ret
      have := hB1.size; have := hB2.size; have := hB3.size
      exact ⟨rfl, hB1.trans ((hB2.mono (by omega)).trans ((hB3.mono (by omega)).trans (hB4.mono (by omega))))⟩
end Go.Proofs.Ytbcgaficnlfilaa
