/- Facts on a text's words: what is cut behind a word, what stands between two, a word with a space behind it. -/
import Derived.Test.YtbcgaficnlfilaaLexRef
namespace Go.Proofs.Ytbcgaficnlfilaa
open Go.RowKit

/-- cut behind what is skipped, as much is skipped -/
theorem skip_take : ∀ (l : List UInt8) (m : Bool) (n : Nat), skipL m l ≤ n → skipL m (l.take n) = skipL m l := by
  intro l
  induction l with
  | nil => intro m n _; simp
  | cons c r ih =>
    intro m n h
    cases m with
    | true =>
      rw [skipL] at h
      obtain ⟨k, rfl⟩ : ∃ k, n = k + 1 := ⟨n - 1, by omega⟩
      rw [List.take_succ_cons, skipL, skipL, ih _ k (by omega)]
    | false =>
      rw [skipL] at h
      by_cases h1 : whiteB c = true
      · rw [if_pos h1] at h
        obtain ⟨k, rfl⟩ : ∃ k, n = k + 1 := ⟨n - 1, by omega⟩
        rw [List.take_succ_cons, skipL, skipL, if_pos h1, if_pos h1, ih _ k (by omega)]
      · rw [if_neg h1] at h
        by_cases h2 : c.toNat = 45 ∧ r.head?.map (·.toNat) = some 45
        · rw [if_pos h2] at h
          obtain ⟨k, rfl⟩ : ∃ k, n = k + 1 := ⟨n - 1, by omega⟩
          have hk := ih true k (by omega)
          cases r with
          | nil => simp at h2
          | cons b r' =>
            have : 0 < skipL true (b :: r') := by rw [skipL]; omega
            obtain ⟨j, rfl⟩ : ∃ j, k = j + 1 := ⟨k - 1, by omega⟩
            rw [List.take_succ_cons, skipL, skipL, if_neg h1, if_neg h1, if_pos h2, if_pos (by simpa using h2), hk]
        · have e0 : skipL false (c :: r) = 0 := by rw [skipL, if_neg h1, if_neg h2]
          rw [e0]
          cases n with
          | zero => simp [skipL]
          | succ k =>
            rw [List.take_succ_cons, skipL, if_neg h1, if_neg]
            rintro ⟨h3, h4⟩
            refine h2 ⟨h3, ?_⟩
            cases r with
            | nil => simp at h4
            | cons b r' =>
              cases k with
              | zero => simp at h4
              | succ j => simpa using h4
/-- behind what is skipped nothing is skipped -/
theorem skip_idem : ∀ (l : List UInt8) (m : Bool), skipL false (l.drop (skipL m l)) = 0 := by
  intro l
  induction l with
  | nil => intro m; simp [skipL]
  | cons c r ih =>
    intro m
    cases m with
    | true => rw [skipL, Nat.add_comm, List.drop_succ_cons]; exact ih _
    | false =>
      rw [skipL]
      split
      · rw [Nat.add_comm, List.drop_succ_cons]; exact ih _
      · rename_i h1
        split
        · rw [Nat.add_comm, List.drop_succ_cons]; exact ih _
        · rename_i h2
          rw [List.drop_zero, skipL, if_neg h1, if_neg h2]

theorem takeWhile_take (p : UInt8 → Bool) : ∀ (l : List UInt8) (n : Nat), (l.takeWhile p).length ≤ n → (l.take n).takeWhile p = l.takeWhile p := by
  intro l
  induction l with
  | nil => intro n _; simp
  | cons c r ih =>
    intro n h
    rw [List.takeWhile_cons] at h
    by_cases hc : p c = true
    · rw [if_pos hc] at h
      obtain ⟨k, rfl⟩ : ∃ k, n = k + 1 := ⟨n - 1, by simp at h; omega⟩
      rw [List.take_succ_cons, List.takeWhile_cons, List.takeWhile_cons, if_pos hc, if_pos hc, ih k (by simp at h; omega)]
    · cases n with
      | zero => rw [List.take_zero, List.takeWhile_nil, List.takeWhile_cons, if_neg hc]
      | succ k => rw [List.take_succ_cons, List.takeWhile_cons, List.takeWhile_cons, if_neg hc, if_neg hc]
theorem find_sub {p q : List UInt8 → Bool} (hpq : ∀ x, q x = true → p x = true) : ∀ (l : List (List UInt8)) (t : List UInt8), l.find? p = some t → q t = true → l.find? q = some t := by
  intro l
  induction l with
  | nil => intro t h _; cases h
  | cons a r ih =>
    intro t h ht
    rw [List.find?_cons] at h ⊢
    by_cases ha : p a = true
    · rw [ha] at h; injection h with h; subst h; rw [ht]
    · have hq : q a = false := by cases hq : q a with | false => rfl | true => exact absurd (hpq a hq) ha
      rw [hq]
      rw [Bool.not_eq_true] at ha
      rw [ha] at h
      exact ih t h ht
theorem mark_find {l : List UInt8} (h : markL l ≠ []) : marks.find? (·.isPrefixOf l) = some (markL l) := by
  unfold markL at h ⊢
  cases hf : marks.find? (·.isPrefixOf l) with
  | none => rw [hf] at h; exact absurd rfl h
  | some t => rfl
theorem mark_take {l : List UInt8} {n : Nat} (h : markL l ≠ []) (hn : (markL l).length ≤ n) : markL (l.take n) = markL l := by
  have h1 := mark_find h
  have h2 : marks.find? (·.isPrefixOf (l.take n)) = some (markL l) := by
    refine find_sub (fun x hx => ?_) marks _ h1 ?_
    · exact List.isPrefixOf_iff_prefix.2 ((List.isPrefixOf_iff_prefix.1 hx).trans (List.take_prefix _ _))
    · exact List.isPrefixOf_iff_prefix.2 (List.prefix_take_iff.2 ⟨mark_prefix l, hn⟩)
  show (marks.find? (·.isPrefixOf (l.take n))).getD [] = _
  rw [h2]; rfl
/-- a word is read where the text is cut behind it -/
theorem word_take {l : List UInt8} {d : Wd} {n : Nat} (h : wordL l = .ok d) (hn : d.text.length ≤ n) : wordL (l.take n) = .ok d := by
  have hp := (word_len h).1
  match l, h with
  | c :: r, h =>
    obtain ⟨k, rfl⟩ : ∃ k, n = k + 1 := ⟨n - 1, by omega⟩
    have e : (c :: r).take (k + 1) = c :: r.take k := rfl
    rw [e, wordL]
    rw [wordL] at h
    by_cases h1 : isDig c = true
    · rw [if_pos h1] at h ⊢
      split at h
      · rename_i h2
        injection h with h; subst h
        rw [← e, takeWhile_take isDig (c :: r) (k + 1) hn, if_pos h2]
      · cases h
    · rw [if_neg h1] at h ⊢
      by_cases h2 : smallB c = true ∨ greatB c = true
      · rw [if_pos h2] at h ⊢
        injection h with h; subst h
        rw [← e, takeWhile_take onB (c :: r) (k + 1) hn]
      · rw [if_neg h2] at h ⊢
        split at h
        · cases h
        · rename_i hm
          injection h with h; subst h
          rw [← e, mark_take hm hn, if_neg hm]
theorem word_prefix {l : List UInt8} {d : Wd} (h : wordL l = .ok d) : d.text <+: l := by
  match l, h with
  | c :: r, h =>
    rw [wordL] at h
    split at h
    · split at h
      · injection h with h; subst h; exact List.takeWhile_prefix _
      · cases h
    · split at h
      · injection h with h; subst h; exact List.takeWhile_prefix _
      · split at h
        · cases h
        · injection h with h; subst h; exact mark_prefix _
/-- a word alone -/
theorem word_alone {l : List UInt8} {d : Wd} (h : wordL l = .ok d) : wordL d.text = .ok d := by
  have := word_take h (Nat.le_refl _)
  rwa [← List.prefix_iff_eq_take.1 (word_prefix h)] at this
theorem takeWhile_sp {p : UInt8 → Bool} (hp : p 32 = false) (rest : List UInt8) : ∀ (t : List UInt8), t.takeWhile p = t → (t ++ 32 :: rest).takeWhile p = t := by
  intro t
  induction t with
  | nil => intro _; simp [hp]
  | cons c r ih =>
    intro h
    rw [List.takeWhile_cons] at h
    by_cases hc : p c = true
    · rw [if_pos hc] at h
      rw [List.cons_append, List.takeWhile_cons, if_pos hc, ih (by injection h)]
    · rw [if_neg hc] at h; cases h
theorem mark_mem {l : List UInt8} (h : markL l ≠ []) : markL l ∈ marks := List.mem_of_find?_eq_some (mark_find h)
theorem mark_sp {t : List UInt8} (h : t ∈ marks) (rest : List UInt8) : markL (t ++ 32 :: rest) = t := by
  simp only [marks, List.mem_cons, List.not_mem_nil, or_false] at h
  rcases h with rfl | rfl | rfl | rfl | rfl | rfl | rfl | rfl | rfl | rfl | rfl | rfl <;> rfl
theorem mark_noskip {t : List UInt8} (h : t ∈ marks) (rest : List UInt8) : skipL false (t ++ rest) = 0 := by
  simp only [marks, List.mem_cons, List.not_mem_nil, or_false] at h
  rcases h with rfl | rfl | rfl | rfl | rfl | rfl | rfl | rfl | rfl | rfl | rfl | rfl <;> rfl
/-- a word with a space behind it -/
theorem word_sp {t : List UInt8} {d : Wd} (h : wordL t = .ok d) (ht : d.text = t) (rest : List UInt8) : wordL (t ++ 32 :: rest) = .ok d := by
  match t, h with
  | c :: r, h =>
    have e : (c :: r) ++ 32 :: rest = c :: (r ++ 32 :: rest) := rfl
    rw [e, wordL]
    rw [wordL] at h
    by_cases h1 : isDig c = true
    · rw [if_pos h1] at h ⊢
      split at h
      · rename_i h2
        injection h with h; subst h
        change (c :: r).takeWhile isDig = c :: r at ht
        rw [ht] at h2
        rw [← e, takeWhile_sp (by decide) rest _ ht, if_pos h2, ht]
      · cases h
    · rw [if_neg h1] at h ⊢
      by_cases h2 : smallB c = true ∨ greatB c = true
      · rw [if_pos h2] at h ⊢
        injection h with h; subst h
        change (c :: r).takeWhile onB = c :: r at ht
        rw [← e, takeWhile_sp (by decide) rest _ ht, ht]
      · rw [if_neg h2] at h ⊢
        split at h
        · cases h
        · rename_i hm
          injection h with h; subst h
          have hm2 := mark_mem hm
          rw [show markL (c :: r) = c :: r from ht] at hm2 ⊢
          rw [← e, mark_sp hm2, if_neg (by simp)]
/-- no word begins with what is skipped -/
theorem word_noskip {t : List UInt8} {d : Wd} (h : wordL t = .ok d) (ht : d.text = t) (rest : List UInt8) : skipL false (t ++ rest) = 0 := by
  match t, h with
  | c :: r, h =>
    rw [wordL] at h
    have hgo : ∀ c : UInt8, (isDig c = true ∨ smallB c = true ∨ greatB c = true) → whiteB c = false ∧ c.toNat ≠ 45 := fun c hc => by
      unfold isDig smallB greatB at hc
      unfold whiteB
      simp at hc ⊢
      omega
    by_cases h1 : isDig c = true ∨ smallB c = true ∨ greatB c = true
    · obtain ⟨h2, h3⟩ := hgo c h1
      rw [List.cons_append, skipL, h2, if_neg (by simp), if_neg (fun h => h3 h.1)]
    · rw [if_neg (fun h => h1 (.inl h)), if_neg (fun h => h1 (.inr h))] at h
      split at h
      · cases h
      · rename_i hm
        injection h with h; subst h
        have hm2 := mark_mem hm
        rw [show markL (c :: r) = c :: r from ht] at hm2
        exact mark_noskip hm2 rest
end Go.Proofs.Ytbcgaficnlfilaa
