/- Which words are names; names as types. -/
import Derived.Test.YtlammclbnihopaaPtyFacts
namespace Go.Proofs.Ytlammclbnihopaa.N7
open Go.RowKit N5 N6

theorem small_dig {c : UInt8} (h : smallB c = true) : isDig c = false := by
  unfold smallB at h; unfold isDig
  simp only [Bool.or_eq_true, decide_eq_true_eq] at h
  simp only [Bool.and_eq_false_iff, decide_eq_false_iff_not]
  omega
theorem great_dig {c : UInt8} (h : greatB c = true) : isDig c = false := by
  unfold greatB at h; unfold isDig
  simp only [decide_eq_true_eq] at h
  simp only [Bool.and_eq_false_iff, decide_eq_false_iff_not]
  omega
theorem small_great {c : UInt8} (h : smallB c = true) : greatB c = false := by
  unfold smallB at h; unfold greatB
  simp only [Bool.or_eq_true, decide_eq_true_eq] at h
  simp only [decide_eq_false_iff_not]
  omega
theorem take_all {l : List UInt8} (h : l.all onB = true) : l.takeWhile onB = l := by
  induction l with
  | nil => rfl
  | cons c r ih =>
    simp only [List.all_cons, Bool.and_eq_true] at h
    rw [List.takeWhile_cons, if_pos h.1, ih h.2]
theorem res_small {c : UInt8} {r : List UInt8} (h : resB (c :: r) = true) : smallB c = true := by
  unfold resB at h
  have hm : c :: r ∈ words := List.contains_iff_mem.1 h
  have hall : ∀ l ∈ words, ∀ c r, l = c :: r → smallB c = true := by
    have : words.all (fun l => match l with | [] => true | c :: _ => smallB c) = true := by kernel_rfl
    intro l hl c r e
    have := List.all_eq_true.1 this l hl
    rw [e] at this
    exact this
  exact hall _ hm c r rfl
theorem word_var {l : List UInt8} (h : varB l = true) : N4.wordL l = .ok ⟨1, 0, l⟩ := by
  match l, h with
  | c :: r, h =>
    unfold varB at h
    dsimp only at h
    simp only [Bool.and_eq_true, Bool.not_eq_true'] at h
    obtain ⟨⟨⟨h1, h2⟩, h3⟩, h4⟩ := h
    have hall : (c :: r).all onB = true := by
      have e : allOnB (c :: r) = true := by rw [allOn_small h2]; exact h3
      exact e
    unfold N4.wordL
    dsimp only
    rw [if_neg (by rw [small_dig h2]; decide), if_pos (.inl h2), take_all hall]
    have hk : N4.nameKind (c :: r) = 1 := by
      unfold N4.nameKind
      rw [if_neg (by intro e; rw [e] at h1; simp at h1), if_neg (by rw [h4]; decide), if_neg (by unfold conB; dsimp only; rw [small_great h2]; simp)]
    rw [hk]
theorem word_con {l : List UInt8} (h : conB l = true) : N4.wordL l = .ok ⟨2, 0, l⟩ := by
  match l, h with
  | c :: r, h =>
    have hc := h
    unfold conB at h
    dsimp only at h
    simp only [Bool.and_eq_true] at h
    obtain ⟨h2, h3⟩ := h
    have hall : (c :: r).all onB = true := by
      have e : allOnB (c :: r) = true := by rw [allOn_great h2]; exact h3
      exact e
    have hs : ¬ smallB c = true := fun q => by rw [small_great q] at h2; cases h2
    unfold N4.wordL
    dsimp only
    rw [if_neg (by rw [great_dig h2]; decide), if_pos (.inr h2), take_all hall]
    have hk : N4.nameKind (c :: r) = 2 := by
      unfold N4.nameKind
      rw [if_neg (by intro e; injection e with e _; rw [e] at h2; revert h2; decide), if_neg (fun q => hs (res_small q)), if_pos hc]
    rw [hk]
/-- what a word's kind says of its text -/
theorem good_kind {t : Tk} (h : N4.Good t) : (t.kind = 1 → varB t.text = true) ∧ (t.kind = 2 → conB t.text = true) := by
  obtain ⟨k, p, n, l⟩ := t
  unfold N4.Good at h
  dsimp only at h ⊢
  match l, h with
  | c :: r, h =>
    unfold N4.wordL at h
    dsimp only at h
    split at h
    · split at h
      · injection h with h; injection h with h1; subst h1; exact ⟨fun q => absurd q (by decide), fun q => absurd q (by decide)⟩
      · cases h
    · split at h
      · rename_i hd hsg
        injection h with h
        injection h with h1 h2 h3
        have hk := h1
        rw [h3] at hk
        have hall : (c :: r).all onB = true := by
          rw [← h3]
          exact List.all_takeWhile
        unfold N4.nameKind at hk
        split at hk
        · subst hk; exact ⟨fun q => absurd q (by decide), fun q => absurd q (by decide)⟩
        · rename_i hu
          split at hk
          · subst hk; exact ⟨fun q => absurd q (by decide), fun q => absurd q (by decide)⟩
          · rename_i hr
            split at hk
            · rename_i hc
              subst hk
              exact ⟨fun q => absurd q (by decide), fun _ => hc⟩
            · rename_i hc
              subst hk
              refine ⟨fun _ => ?_, fun q => absurd q (by decide)⟩
              have hs : smallB c = true := by
                rcases hsg with h | h
                · exact h
                · exfalso
                  refine hc ?_
                  unfold conB
                  dsimp only
                  rw [h, ← allOn_great (r := r) h]
                  exact hall
              unfold varB
              dsimp only
              have e3 : restOnB (c :: r) = true := by rw [← allOn_small hs]; exact hall
              simp [hs, e3, hr]
              exact Classical.or_iff_not_imp_left.2 fun q e => hu (by rw [Classical.not_not.1 q, e])
      · split at h
        · cases h
        · injection h with h; injection h with h1; subst h1; exact ⟨fun q => absurd q (by decide), fun q => absurd q (by decide)⟩
theorem lex_one {s : ByteArray} {d : N4.Wd} (h : N4.wordL s.data.toList = .ok d) (ht : d.text = s.data.toList) : N4.lexAll s = .ok [⟨d.kind, 0, d.num, s.data.toList⟩] := by
  have h0 := N4.word_noskip h ht []
  rw [List.append_nil] at h0
  have hne : s.data.toList ≠ [] := fun e => by rw [e] at h; cases h
  rw [N4.lexAll_lexR]
  show N4.lexR (s.size + 1) _ 0 = _
  rw [N4.lexR]
  rw [h0, List.drop_zero, if_neg hne, h]
  dsimp only
  rw [ht, List.drop_length]
  have e : ∀ f k, N4.lexR f [] k = .ok [] := fun f k => by cases f <;> rfl
  rw [e]
  rfl
theorem type_name {s : ByteArray} (h : varB s.data.toList = true ∨ conB s.data.toList = true) : (typeL s).2.2 = 0 := by
  unfold typeL readL
  rcases h with h | h
  · rw [lex_one (word_var h) rfl]
    rfl
  · rw [lex_one (word_con h) rfl]
    rfl
end Go.Proofs.Ytlammclbnihopaa.N7
