/- Where types fail; which names are types. -/
import Derived.Test.YtlammclbnihopaaPtyText
namespace Go.Proofs.Ytlammclbnihopaa.N7
open Go.RowKit N5 N6

theorem tok_mem {xs : List Tk} (h : endL xs < xs.length) (d : Cu) (hw : d.ws = xs.take (endL xs)) (he : d.ep = xs[endL xs].pos) (k : Nat) : ∃ t ∈ xs, (d.tok k).pos = t.pos := by
  unfold Cu.tok
  rw [hw]
  by_cases hk : k < (xs.take (endL xs)).length
  · rw [List.getD_eq_getElem?_getD, List.getElem?_eq_getElem hk]
    exact ⟨_, List.mem_of_mem_take (List.getElem_mem hk), rfl⟩
  · rw [List.getD_eq_getElem?_getD, List.getElem?_eq_none (by omega)]
    exact ⟨_, List.getElem_mem h, he⟩
theorem end_lt (r : List Tk) (s : ByteArray) : endL (r ++ [N4.endTk s]) < (r ++ [N4.endTk s]).length := by
  have hle := endL_le (r ++ [N4.endTk s])
  refine Nat.lt_of_le_of_ne hle fun e => ?_
  have hl : (r ++ [N4.endTk s]).length = r.length + 1 := by simp
  have := endL_ahead (r ++ [N4.endTk s]) r.length (by omega) (by omega)
  rw [List.getElem_append_right (Nat.le_refl _)] at this
  simp at this
  exact this rfl
theorem newCu_of (r : List Tk) (s : ByteArray) : (newCu (r ++ [N4.endTk s])).ws = (r ++ [N4.endTk s]).take (endL (r ++ [N4.endTk s])) ∧ (newCu (r ++ [N4.endTk s])).ep = ((r ++ [N4.endTk s])[endL (r ++ [N4.endTk s])]'(end_lt r s)).pos := by
  refine ⟨rfl, ?_⟩
  show (if h : endL (r ++ [N4.endTk s]) < (r ++ [N4.endTk s]).length then _ else _) = _
  rw [dif_pos (end_lt r s)]
/-- the three answers of a text that is read -/
theorem readL_zero {rd : Cu → Out Nd} {s : ByteArray} (h : (readL rd s).2.2 = 0) : (readL rd s).2.1 = 0 := by
  unfold readL at h ⊢
  cases hl : N4.lexAll s with
  | error kx => rw [hl] at h; exact absurd h (lexAll_err hl)
  | ok r =>
    rw [hl] at h
    dsimp only at h ⊢
    split
    · rename_i h1
      rw [if_pos h1] at h
      split
      · rfl
      · rename_i h2
        rw [if_neg h2] at h
        cases h
    · rename_i h1
      rw [if_neg h1] at h
      exact absurd h h1
theorem done_posd {d : Cu} (h : Posd d) : ∃ k, d.doneP = (d.tok k).pos := by
  unfold Cu.doneP
  by_cases he : d.err = 0
  · rw [if_pos he]; exact ⟨_, rfl⟩
  · rw [if_neg he]; exact h he
theorem fails_at {s : ByteArray} {r : List Tk} (hl : N4.lexAll s = .ok r) (h : (typeL s).2.2 = 5) : ∃ t ∈ r ++ [N4.endTk s], (typeL s).2.1 = t.pos := by
  unfold typeL readL at h ⊢
  rw [hl] at h ⊢
  dsimp only at h ⊢
  split
  · rename_i h1
    rw [if_pos h1] at h
    split
    · rename_i h2
      rw [if_pos h2] at h
      cases h
    · rename_i h2
      rw [if_neg h2] at h
      cases h
  · have hr := pair_whole 200 (newCu (r ++ [N4.endTk s])) (by omega)
    have hf := hr.fine
    rw [← hr.cur] at hf
    obtain ⟨k, hk⟩ := done_posd (hf.posd (fun k => absurd rfl k))
    dsimp only
    rw [hk]
    obtain ⟨e1, e2⟩ := newCu_of r s
    exact tok_mem (end_lt r s) _ (hf.ws.trans e1) (hf.ep.trans e2) k
end Go.Proofs.Ytlammclbnihopaa.N7
