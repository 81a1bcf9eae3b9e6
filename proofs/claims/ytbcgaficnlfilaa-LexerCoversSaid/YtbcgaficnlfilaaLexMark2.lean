/- The contract of the document's own mark. -/
import Derived.Test.YtbcgaficnlfilaaLexMark
import Derived.Test.YtbcgaficnlfilaaLexSkip2
namespace Go.Proofs.Ytbcgaficnlfilaa
open Go.RowKit

theorem mark_two {l : List UInt8} (h : l.take 2 = [45, 62] ∨ l.take 2 = [61, 62] ∨ l.take 2 = [58, 58]) : markL l = l.take 2 := by
  match l, h with
  | [], h => simp at h
  | [_], h => simp at h
  | c :: d :: q, h =>
    simp at h
    rcases h with ⟨rfl, rfl⟩ | ⟨rfl, rfl⟩ | ⟨rfl, rfl⟩ <;> simp [markL, marks, List.isPrefixOf]
theorem mark_is40 {r : List UInt8} (h : ¬ (40 :: r).take 2 = [61, 62]) : markL (40 :: r) = [40] := by
  cases r with
  | nil => simp [markL, marks, List.isPrefixOf]
  | cons d q =>
    have hd : ((62 : UInt8) == d) = false ∨ ¬ (40 : UInt8) = 61 := by
      by_cases e : (40 : UInt8) = 61
      · left
        rw [beq_eq_false_iff_ne]
        intro hh
        apply h
        rw [e, ← hh]; rfl
      · exact .inr e
    rcases hd with hd | hd
    · simp [markL, marks, List.isPrefixOf, hd]
    · first | exact absurd rfl hd | simp [markL, marks, List.isPrefixOf]
theorem mark_is41 {r : List UInt8} (h : ¬ (41 :: r).take 2 = [61, 62]) : markL (41 :: r) = [41] := by
  cases r with
  | nil => simp [markL, marks, List.isPrefixOf]
  | cons d q =>
    have hd : ((62 : UInt8) == d) = false ∨ ¬ (41 : UInt8) = 61 := by
      by_cases e : (41 : UInt8) = 61
      · left
        rw [beq_eq_false_iff_ne]
        intro hh
        apply h
        rw [e, ← hh]; rfl
      · exact .inr e
    rcases hd with hd | hd
    · simp [markL, marks, List.isPrefixOf, hd]
    · first | exact absurd rfl hd | simp [markL, marks, List.isPrefixOf]
theorem mark_is123 {r : List UInt8} (h : ¬ (123 :: r).take 2 = [61, 62]) : markL (123 :: r) = [123] := by
  cases r with
  | nil => simp [markL, marks, List.isPrefixOf]
  | cons d q =>
    have hd : ((62 : UInt8) == d) = false ∨ ¬ (123 : UInt8) = 61 := by
      by_cases e : (123 : UInt8) = 61
      · left
        rw [beq_eq_false_iff_ne]
        intro hh
        apply h
        rw [e, ← hh]; rfl
      · exact .inr e
    rcases hd with hd | hd
    · simp [markL, marks, List.isPrefixOf, hd]
    · first | exact absurd rfl hd | simp [markL, marks, List.isPrefixOf]
theorem mark_is125 {r : List UInt8} (h : ¬ (125 :: r).take 2 = [61, 62]) : markL (125 :: r) = [125] := by
  cases r with
  | nil => simp [markL, marks, List.isPrefixOf]
  | cons d q =>
    have hd : ((62 : UInt8) == d) = false ∨ ¬ (125 : UInt8) = 61 := by
      by_cases e : (125 : UInt8) = 61
      · left
        rw [beq_eq_false_iff_ne]
        intro hh
        apply h
        rw [e, ← hh]; rfl
      · exact .inr e
    rcases hd with hd | hd
    · simp [markL, marks, List.isPrefixOf, hd]
    · first | exact absurd rfl hd | simp [markL, marks, List.isPrefixOf]
theorem mark_is59 {r : List UInt8} (h : ¬ (59 :: r).take 2 = [61, 62]) : markL (59 :: r) = [59] := by
  cases r with
  | nil => simp [markL, marks, List.isPrefixOf]
  | cons d q =>
    have hd : ((62 : UInt8) == d) = false ∨ ¬ (59 : UInt8) = 61 := by
      by_cases e : (59 : UInt8) = 61
      · left
        rw [beq_eq_false_iff_ne]
        intro hh
        apply h
        rw [e, ← hh]; rfl
      · exact .inr e
    rcases hd with hd | hd
    · simp [markL, marks, List.isPrefixOf, hd]
    · first | exact absurd rfl hd | simp [markL, marks, List.isPrefixOf]
theorem mark_is44 {r : List UInt8} (h : ¬ (44 :: r).take 2 = [61, 62]) : markL (44 :: r) = [44] := by
  cases r with
  | nil => simp [markL, marks, List.isPrefixOf]
  | cons d q =>
    have hd : ((62 : UInt8) == d) = false ∨ ¬ (44 : UInt8) = 61 := by
      by_cases e : (44 : UInt8) = 61
      · left
        rw [beq_eq_false_iff_ne]
        intro hh
        apply h
        rw [e, ← hh]; rfl
      · exact .inr e
    rcases hd with hd | hd
    · simp [markL, marks, List.isPrefixOf, hd]
    · first | exact absurd rfl hd | simp [markL, marks, List.isPrefixOf]
theorem mark_is61 {r : List UInt8} (h : ¬ (61 :: r).take 2 = [61, 62]) : markL (61 :: r) = [61] := by
  cases r with
  | nil => simp [markL, marks, List.isPrefixOf]
  | cons d q =>
    have hd : ((62 : UInt8) == d) = false ∨ ¬ (61 : UInt8) = 61 := by
      by_cases e : (61 : UInt8) = 61
      · left
        rw [beq_eq_false_iff_ne]
        intro hh
        apply h
        rw [e, ← hh]; rfl
      · exact .inr e
    rcases hd with hd | hd
    · simp [markL, marks, List.isPrefixOf, hd]
    · first | exact absurd rfl hd | simp [markL, marks, List.isPrefixOf]
theorem mark_is124 {r : List UInt8} (h : ¬ (124 :: r).take 2 = [61, 62]) : markL (124 :: r) = [124] := by
  cases r with
  | nil => simp [markL, marks, List.isPrefixOf]
  | cons d q =>
    have hd : ((62 : UInt8) == d) = false ∨ ¬ (124 : UInt8) = 61 := by
      by_cases e : (124 : UInt8) = 61
      · left
        rw [beq_eq_false_iff_ne]
        intro hh
        apply h
        rw [e, ← hh]; rfl
      · exact .inr e
    rcases hd with hd | hd
    · simp [markL, marks, List.isPrefixOf, hd]
    · first | exact absurd rfl hd | simp [markL, marks, List.isPrefixOf]
theorem mark_is92 {r : List UInt8} (h : ¬ (92 :: r).take 2 = [61, 62]) : markL (92 :: r) = [92] := by
  cases r with
  | nil => simp [markL, marks, List.isPrefixOf]
  | cons d q =>
    have hd : ((62 : UInt8) == d) = false ∨ ¬ (92 : UInt8) = 61 := by
      by_cases e : (92 : UInt8) = 61
      · left
        rw [beq_eq_false_iff_ne]
        intro hh
        apply h
        rw [e, ← hh]; rfl
      · exact .inr e
    rcases hd with hd | hd
    · simp [markL, marks, List.isPrefixOf, hd]
    · first | exact absurd rfl hd | simp [markL, marks, List.isPrefixOf]
theorem mark_not {c : UInt8} {r : List UInt8} (h1 : ¬ (c :: r).take 2 = [45, 62]) (h2 : ¬ (c :: r).take 2 = [61, 62]) (h3 : ¬ (c :: r).take 2 = [58, 58])
    (hs : c ≠ 40 ∧ c ≠ 41 ∧ c ≠ 123 ∧ c ≠ 125 ∧ c ≠ 59 ∧ c ≠ 44 ∧ c ≠ 61 ∧ c ≠ 124 ∧ c ≠ 92) : markL (c :: r) = [] := by
  obtain ⟨g1, g2, g3, g4, g5, g6, g7, g8, g9⟩ := hs
  have e : ∀ k : UInt8, c ≠ k → (k == c) = false := fun k h => by rw [beq_eq_false_iff_ne]; exact fun h' => h h'.symm
  refine mark_none fun j hj => ?_
  have two : ∀ a b : UInt8, ¬ (c :: r).take 2 = [a, b] → [a, b].isPrefixOf (c :: r) = false := fun a b h => by
    rw [Bool.eq_false_iff]
    intro hp
    apply h
    cases r with
    | nil => simp [List.isPrefixOf] at hp
    | cons d q => simp [List.isPrefixOf] at hp; rw [← hp.1, ← hp.2]; rfl
  match j, hj with
  | 0, _ => exact two _ _ h1
  | 1, _ => exact two _ _ h2
  | 2, _ => exact two _ _ h3
  | 3, _ => simp [marks, List.isPrefixOf, e _ g1]
  | 4, _ => simp [marks, List.isPrefixOf, e _ g2]
  | 5, _ => simp [marks, List.isPrefixOf, e _ g3]
  | 6, _ => simp [marks, List.isPrefixOf, e _ g4]
  | 7, _ => simp [marks, List.isPrefixOf, e _ g5]
  | 8, _ => simp [marks, List.isPrefixOf, e _ g6]
  | 9, _ => simp [marks, List.isPrefixOf, e _ g7]
  | 10, _ => simp [marks, List.isPrefixOf, e _ g8]
  | 11, _ => simp [marks, List.isPrefixOf, e _ g9]
theorem single_cases (c : UInt8) : (c = 40 ∧ ((c.toNat : Int) == 40) = true) ∨
    (c = 41 ∧ ((c.toNat : Int) == 40) = false ∧ ((c.toNat : Int) == 41) = true) ∨
    (c = 123 ∧ ((c.toNat : Int) == 40) = false ∧ ((c.toNat : Int) == 41) = false ∧ ((c.toNat : Int) == 123) = true) ∨
    (c = 125 ∧ ((c.toNat : Int) == 40) = false ∧ ((c.toNat : Int) == 41) = false ∧ ((c.toNat : Int) == 123) = false ∧ ((c.toNat : Int) == 125) = true) ∨
    (c = 59 ∧ ((c.toNat : Int) == 40) = false ∧ ((c.toNat : Int) == 41) = false ∧ ((c.toNat : Int) == 123) = false ∧ ((c.toNat : Int) == 125) = false ∧ ((c.toNat : Int) == 59) = true) ∨
    (c = 44 ∧ ((c.toNat : Int) == 40) = false ∧ ((c.toNat : Int) == 41) = false ∧ ((c.toNat : Int) == 123) = false ∧ ((c.toNat : Int) == 125) = false ∧ ((c.toNat : Int) == 59) = false ∧ ((c.toNat : Int) == 44) = true) ∨
    (c = 61 ∧ ((c.toNat : Int) == 40) = false ∧ ((c.toNat : Int) == 41) = false ∧ ((c.toNat : Int) == 123) = false ∧ ((c.toNat : Int) == 125) = false ∧ ((c.toNat : Int) == 59) = false ∧ ((c.toNat : Int) == 44) = false ∧ ((c.toNat : Int) == 61) = true) ∨
    (c = 124 ∧ ((c.toNat : Int) == 40) = false ∧ ((c.toNat : Int) == 41) = false ∧ ((c.toNat : Int) == 123) = false ∧ ((c.toNat : Int) == 125) = false ∧ ((c.toNat : Int) == 59) = false ∧ ((c.toNat : Int) == 44) = false ∧ ((c.toNat : Int) == 61) = false ∧ ((c.toNat : Int) == 124) = true) ∨
    (c = 92 ∧ ((c.toNat : Int) == 40) = false ∧ ((c.toNat : Int) == 41) = false ∧ ((c.toNat : Int) == 123) = false ∧ ((c.toNat : Int) == 125) = false ∧ ((c.toNat : Int) == 59) = false ∧ ((c.toNat : Int) == 44) = false ∧ ((c.toNat : Int) == 61) = false ∧ ((c.toNat : Int) == 124) = false ∧ ((c.toNat : Int) == 92) = true) ∨
    ((c ≠ 40 ∧ c ≠ 41 ∧ c ≠ 123 ∧ c ≠ 125 ∧ c ≠ 59 ∧ c ≠ 44 ∧ c ≠ 61 ∧ c ≠ 124 ∧ c ≠ 92) ∧ ((c.toNat : Int) == 40) = false ∧ ((c.toNat : Int) == 41) = false ∧ ((c.toNat : Int) == 123) = false ∧ ((c.toNat : Int) == 125) = false ∧ ((c.toNat : Int) == 59) = false ∧ ((c.toNat : Int) == 44) = false ∧ ((c.toNat : Int) == 61) = false ∧ ((c.toNat : Int) == 124) = false ∧ ((c.toNat : Int) == 92) = false) := by
  have e : ∀ k : Nat, k < 256 → ((c.toNat : Int) == (k : Int)) = decide (c = UInt8.ofNat k) := fun k hk => by
    rw [byte_int, Bool.eq_iff_iff, decide_eq_true_iff, decide_eq_true_iff]
    exact ⟨fun h => UInt8.toNat_inj.1 (by rw [h, UInt8.toNat_ofNat_of_lt' (by show k < 256; exact hk)]), fun h => by rw [h, UInt8.toNat_ofNat_of_lt' (by show k < 256; exact hk)]⟩
  have e40 : ((c.toNat : Int) == 40) = decide (c = 40) := e 40 (by decide)
  have e41 : ((c.toNat : Int) == 41) = decide (c = 41) := e 41 (by decide)
  have e123 : ((c.toNat : Int) == 123) = decide (c = 123) := e 123 (by decide)
  have e125 : ((c.toNat : Int) == 125) = decide (c = 125) := e 125 (by decide)
  have e59 : ((c.toNat : Int) == 59) = decide (c = 59) := e 59 (by decide)
  have e44 : ((c.toNat : Int) == 44) = decide (c = 44) := e 44 (by decide)
  have e61 : ((c.toNat : Int) == 61) = decide (c = 61) := e 61 (by decide)
  have e124 : ((c.toNat : Int) == 124) = decide (c = 124) := e 124 (by decide)
  have e92 : ((c.toNat : Int) == 92) = decide (c = 92) := e 92 (by decide)
  rw [e40, e41, e123, e125, e59, e44, e61, e124, e92]
  by_cases h40 : c = 40
  · exact .inl ⟨h40, decide_eq_true h40⟩
  by_cases h41 : c = 41
  · exact .inr (.inl ⟨h41, decide_eq_false h40, decide_eq_true h41⟩)
  by_cases h123 : c = 123
  · exact .inr (.inr (.inl ⟨h123, decide_eq_false h40, decide_eq_false h41, decide_eq_true h123⟩))
  by_cases h125 : c = 125
  · exact .inr (.inr (.inr (.inl ⟨h125, decide_eq_false h40, decide_eq_false h41, decide_eq_false h123, decide_eq_true h125⟩)))
  by_cases h59 : c = 59
  · exact .inr (.inr (.inr (.inr (.inl ⟨h59, decide_eq_false h40, decide_eq_false h41, decide_eq_false h123, decide_eq_false h125, decide_eq_true h59⟩))))
  by_cases h44 : c = 44
  · exact .inr (.inr (.inr (.inr (.inr (.inl ⟨h44, decide_eq_false h40, decide_eq_false h41, decide_eq_false h123, decide_eq_false h125, decide_eq_false h59, decide_eq_true h44⟩)))))
  by_cases h61 : c = 61
  · exact .inr (.inr (.inr (.inr (.inr (.inr (.inl ⟨h61, decide_eq_false h40, decide_eq_false h41, decide_eq_false h123, decide_eq_false h125, decide_eq_false h59, decide_eq_false h44, decide_eq_true h61⟩))))))
  by_cases h124 : c = 124
  · exact .inr (.inr (.inr (.inr (.inr (.inr (.inr (.inl ⟨h124, decide_eq_false h40, decide_eq_false h41, decide_eq_false h123, decide_eq_false h125, decide_eq_false h59, decide_eq_false h44, decide_eq_false h61, decide_eq_true h124⟩)))))))
  by_cases h92 : c = 92
  · exact .inr (.inr (.inr (.inr (.inr (.inr (.inr (.inr (.inl ⟨h92, decide_eq_false h40, decide_eq_false h41, decide_eq_false h123, decide_eq_false h125, decide_eq_false h59, decide_eq_false h44, decide_eq_false h61, decide_eq_false h124, decide_eq_true h92⟩))))))))
  exact .inr (.inr (.inr (.inr (.inr (.inr (.inr (.inr (.inr (⟨⟨h40, h41, h123, h125, h59, h44, h61, h124, h92⟩, decide_eq_false h40, decide_eq_false h41, decide_eq_false h123, decide_eq_false h125, decide_eq_false h59, decide_eq_false h44, decide_eq_false h61, decide_eq_false h124, decide_eq_false h92⟩)))))))))

theorem byte_same2 {a b : ByteArray} (h : a.data.toList = b.data.toList) : a = b := by cases a; cases b; simp_all
theorem take_list (s : ByteArray) (k : Nat) : (s.extract 0 k).data.toList = s.data.toList.take k := by
  rw [ByteArray.data_extract, Array.toList_extract, List.extract_eq_take_drop]; simp

/-- what the two tests say of the mark -/
theorem mark_tail (s : ByteArray) (h0 : 0 < s.size) (n1 : ¬ s.data.toList.take 2 = [45, 62]) (n2 : ¬ s.data.toList.take 2 = [61, 62]) (n3 : ¬ s.data.toList.take 2 = [58, 58]) :
    ((⟨(markL s.data.toList).toArray⟩ : ByteArray) = s.extract 0 1 ∧ ((s[0].toNat : Int) == 40) = true) ∨
    ((⟨(markL s.data.toList).toArray⟩ : ByteArray) = s.extract 0 1 ∧ ((s[0].toNat : Int) == 40) = false ∧ ((s[0].toNat : Int) == 41) = true) ∨
    ((⟨(markL s.data.toList).toArray⟩ : ByteArray) = s.extract 0 1 ∧ ((s[0].toNat : Int) == 40) = false ∧ ((s[0].toNat : Int) == 41) = false ∧ ((s[0].toNat : Int) == 123) = true) ∨
    ((⟨(markL s.data.toList).toArray⟩ : ByteArray) = s.extract 0 1 ∧ ((s[0].toNat : Int) == 40) = false ∧ ((s[0].toNat : Int) == 41) = false ∧ ((s[0].toNat : Int) == 123) = false ∧ ((s[0].toNat : Int) == 125) = true) ∨
    ((⟨(markL s.data.toList).toArray⟩ : ByteArray) = s.extract 0 1 ∧ ((s[0].toNat : Int) == 40) = false ∧ ((s[0].toNat : Int) == 41) = false ∧ ((s[0].toNat : Int) == 123) = false ∧ ((s[0].toNat : Int) == 125) = false ∧ ((s[0].toNat : Int) == 59) = true) ∨
    ((⟨(markL s.data.toList).toArray⟩ : ByteArray) = s.extract 0 1 ∧ ((s[0].toNat : Int) == 40) = false ∧ ((s[0].toNat : Int) == 41) = false ∧ ((s[0].toNat : Int) == 123) = false ∧ ((s[0].toNat : Int) == 125) = false ∧ ((s[0].toNat : Int) == 59) = false ∧ ((s[0].toNat : Int) == 44) = true) ∨
    ((⟨(markL s.data.toList).toArray⟩ : ByteArray) = s.extract 0 1 ∧ ((s[0].toNat : Int) == 40) = false ∧ ((s[0].toNat : Int) == 41) = false ∧ ((s[0].toNat : Int) == 123) = false ∧ ((s[0].toNat : Int) == 125) = false ∧ ((s[0].toNat : Int) == 59) = false ∧ ((s[0].toNat : Int) == 44) = false ∧ ((s[0].toNat : Int) == 61) = true) ∨
    ((⟨(markL s.data.toList).toArray⟩ : ByteArray) = s.extract 0 1 ∧ ((s[0].toNat : Int) == 40) = false ∧ ((s[0].toNat : Int) == 41) = false ∧ ((s[0].toNat : Int) == 123) = false ∧ ((s[0].toNat : Int) == 125) = false ∧ ((s[0].toNat : Int) == 59) = false ∧ ((s[0].toNat : Int) == 44) = false ∧ ((s[0].toNat : Int) == 61) = false ∧ ((s[0].toNat : Int) == 124) = true) ∨
    ((⟨(markL s.data.toList).toArray⟩ : ByteArray) = s.extract 0 1 ∧ ((s[0].toNat : Int) == 40) = false ∧ ((s[0].toNat : Int) == 41) = false ∧ ((s[0].toNat : Int) == 123) = false ∧ ((s[0].toNat : Int) == 125) = false ∧ ((s[0].toNat : Int) == 59) = false ∧ ((s[0].toNat : Int) == 44) = false ∧ ((s[0].toNat : Int) == 61) = false ∧ ((s[0].toNat : Int) == 124) = false ∧ ((s[0].toNat : Int) == 92) = true) ∨
    (markL s.data.toList = [] ∧ ((s[0].toNat : Int) == 40) = false ∧ ((s[0].toNat : Int) == 41) = false ∧ ((s[0].toNat : Int) == 123) = false ∧ ((s[0].toNat : Int) == 125) = false ∧ ((s[0].toNat : Int) == 59) = false ∧ ((s[0].toNat : Int) == 44) = false ∧ ((s[0].toNat : Int) == 61) = false ∧ ((s[0].toNat : Int) == 124) = false ∧ ((s[0].toNat : Int) == 92) = false) := by
  have hcons := drop_cons s 0 h0
  rw [List.drop_zero] at hcons
  have hone : (s.extract 0 1).data.toList = [s[0]] := by rw [take_list s 1, hcons]; rfl
  rw [hcons] at n1 n2 n3 ⊢
  generalize s.data.toList.drop 1 = r at *
  have hb : ∀ l : List UInt8, l = [s[0]] → (⟨l.toArray⟩ : ByteArray) = s.extract 0 1 := fun l h => byte_same2 (by rw [hone, ← h])
  rcases single_cases s[0] with ⟨e, h⟩ | ⟨e, h⟩ | ⟨e, h⟩ | ⟨e, h⟩ | ⟨e, h⟩ | ⟨e, h⟩ | ⟨e, h⟩ | ⟨e, h⟩ | ⟨e, h⟩ | ⟨e, h⟩
  · exact .inl ⟨hb _ (by rw [e] at n2 ⊢; exact mark_is40 n2), h⟩
  · exact .inr (.inl ⟨hb _ (by rw [e] at n2 ⊢; exact mark_is41 n2), h⟩)
  · exact .inr (.inr (.inl ⟨hb _ (by rw [e] at n2 ⊢; exact mark_is123 n2), h⟩))
  · exact .inr (.inr (.inr (.inl ⟨hb _ (by rw [e] at n2 ⊢; exact mark_is125 n2), h⟩)))
  · exact .inr (.inr (.inr (.inr (.inl ⟨hb _ (by rw [e] at n2 ⊢; exact mark_is59 n2), h⟩))))
  · exact .inr (.inr (.inr (.inr (.inr (.inl ⟨hb _ (by rw [e] at n2 ⊢; exact mark_is44 n2), h⟩)))))
  · exact .inr (.inr (.inr (.inr (.inr (.inr (.inl ⟨hb _ (by rw [e] at n2 ⊢; exact mark_is61 n2), h⟩))))))
  · exact .inr (.inr (.inr (.inr (.inr (.inr (.inr (.inl ⟨hb _ (by rw [e] at n2 ⊢; exact mark_is124 n2), h⟩)))))))
  · exact .inr (.inr (.inr (.inr (.inr (.inr (.inr (.inr (.inl ⟨hb _ (by rw [e] at n2 ⊢; exact mark_is92 n2), h⟩))))))))
  · exact .inr (.inr (.inr (.inr (.inr (.inr (.inr (.inr (.inr (⟨mark_not n1 n2 n3 e, h⟩)))))))))

set_option maxHeartbeats 4000000 in
theorem refmark_any (s : ByteArray) (w : World) (h0 : 0 < s.size) : Calls Try.prog 29 #[.string s] w (StrIs (markL s.data.toList) w) := by
  have h0' : (0 : Int) < s.size := by omega
  have HB : ∀ t : ByteArray, ∀ l : List UInt8, t.data.toList = l → ∀ v : List UInt8, ((t.toList == v) = true ∧ l = v) ∨ ((t.toList == v) = false ∧ ¬ l = v) := fun t l ht v => by
    rw [Lib.toList_data, ht]
    by_cases h : l = v
    · exact .inl ⟨by simp [h], h⟩
    · exact .inr ⟨by rw [beq_eq_false_iff_ne]; exact h, h⟩
  have ht := take_list s 2
  have HT : Hid ((s.extract 0 2).data.toList = s.data.toList.take 2) := ht
  have hmt := mark_tail s h0
  by_cases hz : (2 : Int) ≤ s.size
  · rcases HB _ _ ht [45, 62] with ⟨b1, c1⟩ | ⟨b1, c1⟩
    · have HR : Hid ((⟨(markL s.data.toList).toArray⟩ : ByteArray) = s.extract 0 2) := byte_same2 (by rw [HT.out]; exact mark_two (.inl c1))
      clear ht c1 HB hmt
      go_enter Try.func29, Try.ntmps29
      go_wp2_with fail
      go_ret
      exact ⟨by rw [HR.out]; rfl, Below.refl _ _⟩
    · rcases HB _ _ ht [61, 62] with ⟨b2, c2⟩ | ⟨b2, c2⟩
      · have HR : Hid ((⟨(markL s.data.toList).toArray⟩ : ByteArray) = s.extract 0 2) := byte_same2 (by rw [HT.out]; exact mark_two (.inr (.inl c2)))
        clear ht c1 c2 HB hmt
        go_enter Try.func29, Try.ntmps29
        go_wp2_with fail
        go_ret
        exact ⟨by rw [HR.out]; rfl, Below.refl _ _⟩
      · rcases HB _ _ ht [58, 58] with ⟨b3, c3⟩ | ⟨b3, c3⟩
        · have HR : Hid ((⟨(markL s.data.toList).toArray⟩ : ByteArray) = s.extract 0 2) := byte_same2 (by rw [HT.out]; exact mark_two (.inr (.inr c3)))
          clear ht c1 c2 c3 HB hmt
          go_enter Try.func29, Try.ntmps29
          go_wp2_with fail
          go_ret
          exact ⟨by rw [HR.out]; rfl, Below.refl _ _⟩
        · have hmt := hmt c1 c2 c3
          clear ht c1 c2 c3 HB
          rcases hmt with ⟨hR, g0⟩ | ⟨hR, g0, g1⟩ | ⟨hR, g0, g1, g2⟩ | ⟨hR, g0, g1, g2, g3⟩ | ⟨hR, g0, g1, g2, g3, g4⟩ | ⟨hR, g0, g1, g2, g3, g4, g5⟩ | ⟨hR, g0, g1, g2, g3, g4, g5, g6⟩ | ⟨hR, g0, g1, g2, g3, g4, g5, g6, g7⟩ | ⟨hR, g0, g1, g2, g3, g4, g5, g6, g7, g8⟩ | ⟨hR, g0, g1, g2, g3, g4, g5, g6, g7, g8⟩
          iterate 9
            · have HR : Hid ((⟨(markL s.data.toList).toArray⟩ : ByteArray) = s.extract 0 1) := hR
              clear hR
              go_enter Try.func29, Try.ntmps29
              go_wp2_with fail
              go_ret
              exact ⟨by rw [HR.out]; rfl, Below.refl _ _⟩
          · have HR : Hid (markL s.data.toList = []) := hR
            clear hR
            go_enter Try.func29, Try.ntmps29
            go_wp2_with fail
            go_ret
            exact ⟨by rw [HR.out]; rfl, Below.refl _ _⟩
  · have hl : (s.data.toList.take 2).length < 2 := by rw [List.length_take, ← Lib.size_eq]; omega
    have hne : ∀ a b : UInt8, ¬ s.data.toList.take 2 = [a, b] := fun a b h => by rw [h] at hl; simp at hl
    have hmt := hmt (hne _ _) (hne _ _) (hne _ _)
    clear ht HB hl hne
    rcases hmt with ⟨hR, g0⟩ | ⟨hR, g0, g1⟩ | ⟨hR, g0, g1, g2⟩ | ⟨hR, g0, g1, g2, g3⟩ | ⟨hR, g0, g1, g2, g3, g4⟩ | ⟨hR, g0, g1, g2, g3, g4, g5⟩ | ⟨hR, g0, g1, g2, g3, g4, g5, g6⟩ | ⟨hR, g0, g1, g2, g3, g4, g5, g6, g7⟩ | ⟨hR, g0, g1, g2, g3, g4, g5, g6, g7, g8⟩ | ⟨hR, g0, g1, g2, g3, g4, g5, g6, g7, g8⟩
    iterate 9
      · have HR : Hid ((⟨(markL s.data.toList).toArray⟩ : ByteArray) = s.extract 0 1) := hR
        clear hR
        go_enter Try.func29, Try.ntmps29
        go_wp2_with fail
        go_ret
        exact ⟨by rw [HR.out]; rfl, Below.refl _ _⟩
    · have HR : Hid (markL s.data.toList = []) := hR
      clear hR
      go_enter Try.func29, Try.ntmps29
      go_wp2_with fail
      go_ret
      exact ⟨by rw [HR.out]; rfl, Below.refl _ _⟩
end Go.Proofs.Ytbcgaficnlfilaa
