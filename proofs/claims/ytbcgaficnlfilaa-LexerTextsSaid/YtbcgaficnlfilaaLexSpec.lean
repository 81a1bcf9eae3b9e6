/- A text's words as a plain function, and facts on them. -/
import Derived.Test.YtbcgaficnlfilaaLexWord3
namespace Go.Proofs.Ytbcgaficnlfilaa
open Go.RowKit

/-- a word with its place -/
structure Tk where
  kind : Int
  pos : Int
  num : Int
  text : List UInt8
def Tk.cells (t : Tk) : List Value := [.int .i64 t.kind, .int .i64 t.pos, .int .i64 t.num, .string ⟨t.text.toArray⟩]
def cellsL (l : List Tk) : List Value := l.flatMap Tk.cells
theorem cellsL_snoc (l : List Tk) (t : Tk) : cellsL (l ++ [t]) = cellsL l ++ t.cells := by simp [cellsL]
theorem cellsL_length (l : List Tk) : (cellsL l).length = l.length * 4 := by
  induction l with
  | nil => rfl
  | cons t r ih => simp only [cellsL, List.flatMap_cons, List.length_append, List.length_cons] at ih ⊢; rw [ih]; simp [Tk.cells]; omega

/-- the words from a place on, but for the end; or the place of the first byte that begins none, and the error -/
def lexF (s : ByteArray) : Nat → Nat → Except (Nat × Int) (List Tk)
  | 0, _ => .ok []
  | f + 1, k =>
    if s.size ≤ k then .ok []
    else match wordL (s.data.toList.drop k) with
      | .error x => .error (k, x)
      | .ok d => match lexF s f (skipAt s (k + d.text.length)) with
        | .error e => .error e
        | .ok r => .ok (⟨d.kind, k, d.num, d.text⟩ :: r)
def comb (acc : List Tk) : Except (Nat × Int) (List Tk) → Except (Nat × Int) (List Tk)
  | .error e => .error e
  | .ok r => .ok (acc ++ r)

theorem mark_prefix (l : List UInt8) : markL l <+: l := by
  unfold markL
  cases h : marks.find? (·.isPrefixOf l) with
  | none => exact List.nil_prefix
  | some m =>
    have := List.find?_some h
    exact List.isPrefixOf_iff_prefix.1 this
theorem word_len {l : List UInt8} {d : Wd} (h : wordL l = .ok d) : 0 < d.text.length ∧ d.text.length ≤ l.length := by
  have hw : ∀ (p : UInt8 → Bool) (c : UInt8) (r : List UInt8), p c = true → 0 < ((c :: r).takeWhile p).length ∧ ((c :: r).takeWhile p).length ≤ (c :: r).length := fun p c r hp => by
    refine ⟨by rw [List.takeWhile_cons, hp]; simp, ?_⟩
    exact (List.takeWhile_prefix p).length_le
  match l, h with
  | c :: r, h =>
    unfold wordL at h; dsimp only at h
    by_cases h1 : isDig c = true
    · rw [if_pos h1] at h
      split at h
      · injection h with h; subst h; exact hw _ c r h1
      · cases h
    · rw [if_neg h1] at h
      by_cases h2 : smallB c = true ∨ greatB c = true
      · rw [if_pos h2] at h
        injection h with h; subst h
        exact hw _ c r (by unfold onB; rcases h2 with h2 | h2 <;> simp [h2])
      · rw [if_neg h2] at h
        split at h
        · cases h
        · rename_i hm
          injection h with h; subst h
          exact ⟨List.length_pos_iff.2 hm, (mark_prefix _).length_le⟩
theorem word_at (s : ByteArray) (k : Nat) (hk : k < s.size) {d : Wd} (h : wordL (s.data.toList.drop k) = .ok d) : 0 < d.text.length ∧ k + d.text.length ≤ s.size := by
  have := word_len h
  rw [List.length_drop, ← Lib.size_eq] at this
  omega
theorem skipAt_ge (s : ByteArray) (k : Nat) : k ≤ skipAt s k := by unfold skipAt; omega

/-- one word on -/
theorem lex_word (s : ByteArray) (f k : Nat) (hk : k < s.size) {d : Wd} (h : wordL (s.data.toList.drop k) = .ok d) (acc : List Tk) :
    comb acc (lexF s (f + 1) k) = comb (acc ++ [⟨d.kind, k, d.num, d.text⟩]) (lexF s f (skipAt s (k + d.text.length))) := by
  rw [lexF, if_neg (by omega), h]
  simp only
  cases lexF s f (skipAt s (k + d.text.length)) with
  | error e => rfl
  | ok r => simp [comb]
theorem lex_err (s : ByteArray) (f k : Nat) (hk : k < s.size) {x : Int} (h : wordL (s.data.toList.drop k) = .error x) (acc : List Tk) : comb acc (lexF s (f + 1) k) = .error (k, x) := by
  rw [lexF, if_neg (by omega), h]; rfl
theorem lex_end (s : ByteArray) (f k : Nat) (hk : s.size ≤ k) (acc : List Tk) : comb acc (lexF s f k) = .ok acc := by
  cases f with
  | zero => simp [lexF, comb]
  | succ f => rw [lexF, if_pos hk]; simp [comb]
/-- all of a text: the words, with the end, the place, the error -/
def lexAll (s : ByteArray) : Except (Nat × Int) (List Tk) := lexF s (s.size + 1) (skipAt s 0)
end Go.Proofs.Ytbcgaficnlfilaa
