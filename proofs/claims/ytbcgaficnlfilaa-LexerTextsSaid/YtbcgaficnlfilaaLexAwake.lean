/- awake of layer 4: the document's own examples. -/
import Derived.Test.YtbcgaficnlfilaaLexLex
import Derived.Test.YtbcgaficnlfilaaLexText2
import Derived.Test.YtbcgaficnlfilaaLexEdges
import Derived.Test.YtbcgaficnlfilaaLexList
namespace Go.Proofs.Ytbcgaficnlfilaa
open Go.RowKit

def ex1 : ByteArray := ⟨#[120, 45, 62, 49]⟩
def ex2 : ByteArray := ⟨#[97, 32, 63, 32, 98]⟩
def ex3 : ByteArray := ⟨#[97, 32, 45, 45, 32, 98, 10, 99]⟩
def ex4 : ByteArray := ⟨#[57, 57, 57, 57, 57, 57, 57, 57, 57, 57, 57, 57, 57, 57, 57, 57, 57, 57, 57, 57]⟩
def row1 : List Tk := [⟨1, 0, 0, [120]⟩, ⟨5, 1, 0, [45, 62]⟩, ⟨3, 3, 1, [49]⟩]
def row3 : List Tk := [⟨1, 0, 0, [97]⟩, ⟨1, 7, 0, [99]⟩]
theorem lex1 : lexAll ex1 = .ok row1 := by kernel_rfl
theorem lex2 : lexAll ex2 = .error (2, 3) := by kernel_rfl
theorem lex3 : lexAll ex3 = .ok row3 := by kernel_rfl
theorem lex4 : lexAll ex4 = .error (0, 4) := by kernel_rfl

/-- what Lex answers of a text that is read: a row at a block of its own -/
theorem lexis_ok {s : ByteArray} {r : List Tk} (h : lexAll s = .ok r) {w : World} {e : Ending} {w' : World} (hL : LexIs s w e w') :
    ∃ g cap, e = .returned (.tuple #[.slice (some ⟨g, 0, none⟩) (r.length + 1) cap, .int .i64 0, .int .i64 0]) ∧ w.heap.size ≤ g ∧ g < w'.heap.size ∧ (∀ j (hj : j < (r ++ [endTk s]).length), TkAt w' g 0 j (r ++ [endTk s])[j]) ∧ Below w.heap.size w w' := by
  unfold LexIs at hL
  rw [h] at hL
  obtain ⟨v, he, hrow, hB⟩ := hL
  have hlen : (r ++ [endTk s]).length = r.length + 1 := by simp
  rw [← hlen] at hrow
  rcases row_cells hrow with ⟨_, h0⟩ | ⟨g, cap, rfl, h1, h2, h3⟩
  · simp at h0
  · refine ⟨g, cap, by rw [he, hlen], h1, h2, fun j hj => ?_, hB⟩
    unfold TkAt
    rw [Nat.zero_add]
    exact h3 j hj
theorem lexis_err {s : ByteArray} {k : Nat} {x : Int} (h : lexAll s = .error (k, x)) {w : World} {e : Ending} {w' : World} (hL : LexIs s w e w') :
    e = .returned (.tuple #[.slice none 0 0, .int .i64 (k : Int), .int .i64 x]) ∧ Below w.heap.size w w' := by
  unfold LexIs at hL; rw [h] at hL; exact hL

set_option maxHeartbeats 8000000 in
theorem awake_any (w : World) : Calls Try.prog 8 #[] w (RunsTo true w) := by
  have H1 := fun w => (lex_any ex1 (by decide) w).mono (R' := fun e w' => ∃ g cap, e = .returned (.tuple #[.slice (some ⟨g, 0, none⟩) 4 cap, .int .i64 0, .int .i64 0]) ∧ w.heap.size ≤ g ∧ g < w'.heap.size ∧ (∀ j (hj : j < (row1 ++ [endTk ex1]).length), TkAt w' g 0 j (row1 ++ [endTk ex1])[j]) ∧ Below w.heap.size w w') fun e w' h => lexis_ok lex1 h
  have H2 := fun w => (lex_any ex2 (by decide) w).mono fun e w' h => lexis_err lex2 h
  have H3 := fun w => (lex_any ex3 (by decide) w).mono (R' := fun e w' => ∃ g cap, e = .returned (.tuple #[.slice (some ⟨g, 0, none⟩) 3 cap, .int .i64 0, .int .i64 0]) ∧ Below w.heap.size w w') fun e w' h => by obtain ⟨g, cap, e1, _, _, _, e2⟩ := lexis_ok lex3 h; exact ⟨g, cap, e1, e2⟩
  have H4 := fun w => (lex_any ex4 (by decide) w).mono fun e w' h => lexis_err lex4 h
  go_enter Try.func8, Try.ntmps8
  go_wp2_with fail
  refine (H1 _).mono ?_; rintro e w1 ⟨g, cap, rfl, hg1, hg2, hc, hB1⟩
  go_wp2_with fail
  refine (H2 _).mono ?_; rintro e w2 ⟨rfl, hB2⟩
  go_wp2_with fail
  refine (H3 _).mono ?_; rintro e w3 ⟨g3, cap3, rfl, hB3⟩
  go_wp2_with fail
  refine (H4 _).mono ?_; rintro e w4 ⟨rfl, hB4⟩
  have hB := hB2.trans ((hB3.mono hB2.size).trans (hB4.mono (Nat.le_trans hB2.size hB3.size)))
  have hc := fun j hj => (hc j hj).below hB hg2
  clear H1 H2 H3 H4
  have hg4 : g < w4.heap.size := Nat.lt_of_lt_of_le hg2 hB.size
  have HT := (text_row g 0 cap 4 2 (row1 ++ [endTk ex1]) w4 rfl hg4 (by decide) hc (by decide)).mono (R' := fun e w' => e = .returned (.string ⟨#[120, 32, 45, 62, 32, 49]⟩) ∧ Below w4.heap.size w4 w') fun e w' h => h
  have HS := fun w5 (hb : Below w4.heap.size w4 w5) => (same_any g 0 cap g 0 cap 4 (row1 ++ [endTk ex1]) (row1 ++ [endTk ex1]) w5 rfl rfl (by decide) (Nat.lt_of_lt_of_le hg4 hb.size) (Nat.lt_of_lt_of_le hg4 hb.size) (fun j hj => (hc j hj).below hb hg4) (fun j hj => (hc j hj).below hb hg4)).mono (R' := RunsTo true w5) fun e w' h => h
  obtain ⟨a0, a1, a2, a3⟩ : TkAt w4 g 0 1 ⟨5, 1, 0, [45, 62]⟩ := hc 1 (by decide)
  obtain ⟨b0, b1, b2, b3⟩ : TkAt w4 g 0 2 ⟨3, 3, 1, [49]⟩ := hc 2 (by decide)
  obtain ⟨c0, c1, c2, c3⟩ : TkAt w4 g 0 3 ⟨0, 4, 0, []⟩ := hc 3 (by decide)
  clear c0 c2 c3 hc
  simp only [Nat.zero_add, Nat.one_mul, Nat.reduceMul, Nat.reduceAdd] at a0 a1 a2 a3 b0 b1 b2 b3 c1
  go_wp2_with fail
  refine HT.mono ?_; rintro e w5 ⟨rfl, hB5⟩
  go_wp2_with fail
  refine (HS w5 hB5).mono ?_; rintro e w6 ⟨rfl, hB6⟩
  go_wp2
  go_ret
  have := hB.size; have := hB1.size; have := hB5.size
  exact ⟨rfl, hB1.trans ((hB.mono (by omega)).trans ((hB5.mono (by omega)).trans (hB6.mono (by omega))))⟩
end Go.Proofs.Ytbcgaficnlfilaa
