/- Plain facts on the lines of a text: no program in sight. -/
import Derived.Test.YtnepcledbjnolaaRows
import Derived.WalkKit
namespace Go.Proofs.Ytnepcledbjnolaa
open Go.RowKit

/-- the bytes at which the lines of the first k bytes begin -/
def Ln (l : List UInt8) : Nat → List Nat
  | 0 => [0]
  | k + 1 => if l.getD k 0 = 10 then Ln l k ++ [k + 1] else Ln l k

def Lk (l : List UInt8) (k : Nat) : List Int := (Ln l k).map Int.ofNat

theorem Ln_hit {l : List UInt8} {k : Nat} (h : l.getD k 0 = 10) : Ln l (k + 1) = Ln l k ++ [k + 1] := by simp only [Ln, h, if_true]
theorem Ln_miss {l : List UInt8} {k : Nat} (h : ¬ l.getD k 0 = 10) : Ln l (k + 1) = Ln l k := by simp only [Ln, h, if_false]
theorem Lk_hit {l : List UInt8} {k : Nat} (h : l.getD k 0 = 10) : Lk l (k + 1) = Lk l k ++ [(k : Int) + 1] := by simp [Lk, Ln_hit h]
theorem Lk_miss {l : List UInt8} {k : Nat} (h : ¬ l.getD k 0 = 10) : Lk l (k + 1) = Lk l k := by simp [Lk, Ln_miss h]
theorem Ln_len (l : List UInt8) (k : Nat) : 1 ≤ (Ln l k).length ∧ (Ln l k).length ≤ k + 1 := by
  induction k with
  | zero => simp [Ln]
  | succ k ih => unfold Ln; split <;> (try simp only [List.length_append, List.length_cons, List.length_nil]) <;> omega
theorem Lk_length (l : List UInt8) (k : Nat) : (Lk l k).length = (Ln l k).length := by simp [Lk]
theorem Lk_len (l : List UInt8) (k : Nat) : 1 ≤ (Lk l k).length ∧ (Lk l k).length ≤ k + 1 := by rw [Lk_length]; exact Ln_len l k
theorem Lk_getD (l : List UInt8) (k i : Nat) : (Lk l k).getD i 0 = ((Ln l k).getD i 0 : Int) := by
  simp only [Lk, List.getD_eq_getElem?_getD, List.getElem?_map]
  cases (Ln l k)[i]? <;> simp

/-- the lines of the first k bytes go on as those of the first j -/
theorem Ln_prefix (l : List UInt8) (j k : Nat) (h : j ≤ k) : ∃ r, Ln l k = Ln l j ++ r ∧ ∀ x ∈ r, j < x := by
  induction k with
  | zero => obtain rfl : j = 0 := by omega
            exact ⟨[], by simp, by simp⟩
  | succ k ih =>
    by_cases hj : j = k + 1
    · subst hj; exact ⟨[], by simp, by simp⟩
    · obtain ⟨r, hr, hx⟩ := ih (by omega)
      by_cases hc : l.getD k 0 = 10
      · refine ⟨r ++ [k + 1], by rw [Ln_hit hc, hr, List.append_assoc], fun x hm => ?_⟩
        rcases List.mem_append.1 hm with hm | hm
        · exact hx x hm
        · simp at hm; omega
      · exact ⟨r, by rw [Ln_miss hc, hr], hx⟩
theorem Ln_le (l : List UInt8) (k : Nat) : ∀ x ∈ Ln l k, x ≤ k := by
  induction k with
  | zero => simp [Ln]
  | succ k ih =>
    intro x hx
    by_cases hc : l.getD k 0 = 10
    · rw [Ln_hit hc] at hx
      rcases List.mem_append.1 hx with hm | hm
      · have := ih x hm; omega
      · simp at hm; omega
    · rw [Ln_miss hc] at hx; have := ih x hx; omega
theorem Ln_getD_le (l : List UInt8) (k i : Nat) (hi : i < (Ln l k).length) : (Ln l k).getD i 0 ≤ k := by
  rw [List.getD_eq_getElem?_getD, List.getElem?_eq_getElem hi]; exact Ln_le l k _ (List.getElem_mem hi)

/-- where the line i of the first k bytes ends -/
def endOf (l : List UInt8) (k i : Nat) : Nat := if i + 1 = (Ln l k).length then k else (Ln l k).getD (i + 1) 0 - 1

/-- what the lines of the first k bytes are: between a line's beginning and its end stands no byte 10, and one stands at its end, but for the last -/
theorem Ln_ok (l : List UInt8) (k : Nat) :
    (∀ i, i + 1 < (Ln l k).length → (Ln l k).getD i 0 < (Ln l k).getD (i + 1) 0 ∧ l.getD ((Ln l k).getD (i + 1) 0 - 1) 0 = 10 ∧ ∀ j, (Ln l k).getD i 0 ≤ j → j + 1 < (Ln l k).getD (i + 1) 0 → ¬ l.getD j 0 = 10) ∧
    ∀ j, (Ln l k).getD ((Ln l k).length - 1) 0 ≤ j → j < k → ¬ l.getD j 0 = 10 := by
  induction k with
  | zero => simp [Ln]
  | succ k ih =>
    obtain ⟨h1, h2⟩ := ih
    have hl := Ln_len l k
    by_cases hc : l.getD k 0 = 10
    · rw [Ln_hit hc]
      refine ⟨fun i hi => ?_, fun j hj hk => ?_⟩
      · simp only [List.length_append, List.length_cons, List.length_nil] at hi
        have e0 : (Ln l k ++ [k + 1]).getD i 0 = (Ln l k).getD i 0 := by
          simp only [List.getD_eq_getElem?_getD]; rw [List.getElem?_append_left (by omega)]
        by_cases hi2 : i + 1 < (Ln l k).length
        · have e1 : (Ln l k ++ [k + 1]).getD (i + 1) 0 = (Ln l k).getD (i + 1) 0 := by
            simp only [List.getD_eq_getElem?_getD]; rw [List.getElem?_append_left hi2]
          rw [e0, e1]; exact h1 i hi2
        · have hi3 : i + 1 = (Ln l k).length := by omega
          have e1 : (Ln l k ++ [k + 1]).getD (i + 1) 0 = k + 1 := by
            simp only [List.getD_eq_getElem?_getD]; rw [List.getElem?_append_right (by omega)]; simp [hi3]
          have e2 : i = (Ln l k).length - 1 := by omega
          rw [e0, e1]
          refine ⟨?_, by simpa using hc, fun j hj hk => ?_⟩
          · have := Ln_getD_le l k i (by omega); omega
          · exact h2 j (by rw [← e2]; exact hj) (by omega)
      · exfalso
        have e1 : (Ln l k ++ [k + 1]).getD ((Ln l k ++ [k + 1]).length - 1) 0 = k + 1 := by
          simp [List.getD_eq_getElem?_getD]
        omega
    · rw [Ln_miss hc]
      refine ⟨h1, fun j hj hk => ?_⟩
      by_cases hjk : j = k
      · subst hjk; exact hc
      · exact h2 j hj (by omega)

theorem endOf_ok (l : List UInt8) (k i : Nat) (hi : i < (Ln l k).length) :
    (Ln l k).getD i 0 ≤ endOf l k i ∧ endOf l k i ≤ k ∧ (endOf l k i = k ∨ l.getD (endOf l k i) 0 = 10) ∧ ∀ j, (Ln l k).getD i 0 ≤ j → j < endOf l k i → ¬ l.getD j 0 = 10 := by
  obtain ⟨h1, h2⟩ := Ln_ok l k
  have hle := Ln_getD_le l k
  unfold endOf
  by_cases h : i + 1 = (Ln l k).length
  · rw [if_pos h]
    have e : i = (Ln l k).length - 1 := by omega
    exact ⟨hle i hi, Nat.le_refl _, .inl rfl, fun j a b => h2 j (by rw [← e]; exact a) b⟩
  · rw [if_neg h]
    obtain ⟨a, b, c⟩ := h1 i (by omega)
    have := hle (i + 1) (by omega)
    exact ⟨by omega, by omega, .inr b, fun j x y => c j x (by omega)⟩

/-- how many of the lines of the whole begin at j or ahead: those of the first j bytes -/
theorem Ln_count (l : List UInt8) (j k : Nat) (h : j ≤ k) : (Ln l k).countP (fun x => decide (x < j + 1)) = (Ln l j).length := by
  obtain ⟨r, hr, hx⟩ := Ln_prefix l j k h
  rw [hr, List.countP_append]
  have e1 : (Ln l j).countP (fun x => decide (x < j + 1)) = (Ln l j).length := by
    rw [List.countP_eq_length]; intro x hm; have := Ln_le l j x hm; simp; omega
  have e2 : r.countP (fun x => decide (x < j + 1)) = 0 := by
    rw [List.countP_eq_zero]; intro x hm; have := hx x hm; simp; omega
  omega
theorem Ln_last (l : List UInt8) (j k : Nat) (h : j ≤ k) (i : Nat) (hi : i < (Ln l j).length) : (Ln l k).getD i 0 = (Ln l j).getD i 0 := by
  obtain ⟨r, hr, hx⟩ := Ln_prefix l j k h
  simp only [hr, List.getD_eq_getElem?_getD]; rw [List.getElem?_append_left hi]
theorem Ln_sorted (l : List UInt8) (k : Nat) : (Ln l k).Pairwise (· < ·) := by
  induction k with
  | zero => simp [Ln]
  | succ k ih =>
    by_cases hc : l.getD k 0 = 10
    · rw [Ln_hit hc]
      refine List.pairwise_append.2 ⟨ih, by simp, fun a ha b hb => ?_⟩
      have := Ln_le l k a ha; simp at hb; omega
    · rw [Ln_miss hc]; exact ih

/-- the column of the byte j -/
def colOf (l : List UInt8) (j : Nat) : Nat := j - (Ln l j).getD ((Ln l j).length - 1) 0 + 1
theorem col_zero (l : List UInt8) : colOf l 0 = 1 := by simp [colOf, Ln]
theorem col_hit {l : List UInt8} {k : Nat} (h : l.getD k 0 = 10) : colOf l (k + 1) = 1 := by
  unfold colOf; rw [Ln_hit h]; simp [List.getD_eq_getElem?_getD]
theorem col_miss {l : List UInt8} {k : Nat} (h : ¬ l.getD k 0 = 10) : colOf l (k + 1) = colOf l k + 1 := by
  have hl := Ln_len l k
  have := Ln_getD_le l k ((Ln l k).length - 1) (by omega)
  unfold colOf; rw [Ln_miss h]; omega
theorem col_le (l : List UInt8) (k : Nat) : 1 ≤ colOf l k ∧ colOf l k ≤ k + 1 := by unfold colOf; omega

/-- what a call that makes a row of ints answers: a slice of its own, that reads as xs; nothing that was there has changed -/
def GotInts (xs : List Int) (w : World) (e : Ending) (w' : World) : Prop :=
  ∃ b cap, e = .returned (.slice (some ⟨b, 0, none⟩) xs.length cap) ∧ w.heap.size ≤ b ∧ b < w'.heap.size ∧ (∀ i, i < xs.length → w'.cell? ⟨b, i, none⟩ = some (.int .i64 (xs.getD i 0))) ∧ Below w.heap.size w w'
end Go.Proofs.Ytnepcledbjnolaa
