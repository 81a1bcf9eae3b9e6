/- Masks: which bits a number has, one by one from the lowest. -/
import Derived.Lib.TrailingZeros
import Derived.Laws.BitsAllLaws
import Derived.Laws.Bits64b
import Derived.Test.YtbkiamecdangpaaDoorGraPlain
set_option linter.unusedVariables false
set_option linter.unusedSimpArgs false
namespace Go.Proofs.YtbkiamecdangpaaDoor.N13

/-- the bits that a mask has, rising -/
def bitsP (w : Nat) : List Nat := (List.range 64).filter w.testBit
theorem mem_bits {w x : Nat} : x ∈ bitsP w ↔ x < 64 ∧ w.testBit x = true := by
  unfold bitsP
  rw [List.mem_filter, List.mem_range]
theorem bits_rising (w : Nat) : (bitsP w).Pairwise (· < ·) := List.Pairwise.filter _ (range_rising 64)
theorem bits_zero : bitsP 0 = [] := by
  unfold bitsP
  rw [List.filter_eq_nil_iff]
  intro x _
  simp

theorem ctz_lt (w : Nat) (h : w < 18446744073709551616) (h0 : w ≠ 0) : Lib.ctz 64 w < 64 := by
  unfold Lib.ctz
  rw [if_neg h0]
  obtain ⟨m, -, hk⟩ := Lib.ctzFrom_spec 64 w (by omega) h
  exact hk
theorem ctz_bits (w : Nat) (h : w < 18446744073709551616) (h0 : w ≠ 0) : ∀ i, (w &&& (w - 1)).testBit i = (w.testBit i && !(i == Lib.ctz 64 w)) ∧ (i < Lib.ctz 64 w → w.testBit i = false) ∧ (i = Lib.ctz 64 w → w.testBit i = true) := by
  have hk : Lib.ctz 64 w = Lib.ctzFrom 64 w := by unfold Lib.ctz; rw [if_neg h0]
  rw [hk]
  obtain ⟨m, hm, -⟩ := Lib.ctzFrom_spec 64 w (by omega) h
  generalize Lib.ctzFrom 64 w = k at hm
  have hp : 0 < 2 ^ k := Nat.two_pow_pos k
  have h1 : w = 2 ^ k * (2 * m + 1) + 0 := by omega
  have h2 : w - 1 = 2 ^ k * (2 * m) + (2 ^ k - 1) := by rw [hm, Nat.mul_add]; omega
  have t1 : ∀ i, w.testBit i = if i < k then false else (2 * m + 1).testBit (i - k) := fun i => by
    rw [h1, Nat.testBit_two_pow_mul_add _ hp]; simp
  have t2 : ∀ i, (w - 1).testBit i = if i < k then (2 ^ k - 1).testBit i else (2 * m).testBit (i - k) := fun i => by
    rw [h2, Nat.testBit_two_pow_mul_add _ (by omega)]
  intro i
  refine ⟨?_, fun hi => by rw [t1, if_pos hi], fun hi => by rw [t1, if_neg (by omega), hi]; simp⟩
  rw [Nat.testBit_and, t1, t2]
  by_cases hi : i < k
  · rw [if_pos hi]; simp
  · rw [if_neg hi, if_neg hi]
    by_cases e : i = k
    · subst e; simp
    · obtain ⟨j, hj⟩ : ∃ j, i - k = j + 1 := ⟨i - k - 1, by omega⟩
      have hne : (i == k) = false := by simpa using e
      have d1 : (2 * m + 1) / 2 = m := by omega
      have d2 : (2 * m) / 2 = m := by omega
      rw [hj, Nat.testBit_succ, Nat.testBit_succ, d1, d2, hne]; simp
theorem pred_lt (w : Nat) (h : w < 18446744073709551616) : w &&& (w - 1) < 18446744073709551616 := Nat.lt_of_le_of_lt Nat.and_le_left h
theorem pred_fewer (w : Nat) (h0 : w ≠ 0) : w &&& (w - 1) < w := Nat.lt_of_le_of_lt Nat.and_le_right (by omega)
theorem bits_cons (w : Nat) (h : w < 18446744073709551616) (h0 : w ≠ 0) : bitsP w = Lib.ctz 64 w :: bitsP (w &&& (w - 1)) := by
  have H := ctz_bits w h h0
  have hk := ctz_lt w h h0
  refine rising_ext (bits_rising w) ?_ fun x => ?_
  · rw [List.pairwise_cons]
    refine ⟨fun x hx => ?_, bits_rising _⟩
    rw [mem_bits, (H x).1, Bool.and_eq_true] at hx
    have h1 := (H x).2.1
    have hne : x ≠ Lib.ctz 64 w := by simpa using hx.2.2
    rcases Nat.lt_or_ge x (Lib.ctz 64 w) with q | q
    · rw [h1 q] at hx; cases hx.2.1
    · omega
  · rw [List.mem_cons, mem_bits, mem_bits, (H x).1, Bool.and_eq_true, Bool.not_eq_true', beq_eq_false_iff_ne]
    constructor
    · rintro ⟨h1, h2⟩
      by_cases e : x = Lib.ctz 64 w
      · exact .inl e
      · exact .inr ⟨h1, h2, e⟩
    · rintro (e | ⟨h1, h2, -⟩)
      · exact ⟨by omega, (H x).2.2 e⟩
      · exact ⟨h1, h2⟩
/-- the walk's own operations on masks -/
theorem and_pred (w : Nat) (h : w < 18446744073709551616) (h0 : w ≠ 0) : bits .and .u64 (w : Int) ((w : Int) - 1) = ((w &&& (w - 1) : Nat) : Int) := by
  have e : (w : Int) - 1 = ((w - 1 : Nat) : Int) := by omega
  rw [e, u64_and_nat w (w - 1) h (by omega)]

theorem bit_lt {w k n : Nat} (h : ∀ i, n ≤ i → w.testBit i = false) (hk : w.testBit k = true) : k < n := by
  rcases Nat.lt_or_ge k n with q | q
  · exact q
  · rw [h k q] at hk; cases hk
/-- one more bit -/
theorem or_bit (w k i : Nat) : (w ||| 2 ^ k).testBit i = (w.testBit i || i == k) := by
  rw [Nat.testBit_or, Nat.testBit_two_pow]
  congr 1
  by_cases e : i = k
  · subst e; simp
  · have e' : k ≠ i := fun q => e q.symm
    simp [e, e']
/-- a bit, as the program asks for it -/
theorem bit_asked (w k : Nat) : w / 2 ^ k % 2 = (if w.testBit k then 1 else 0) := by
  rw [Nat.testBit_eq_decide_div_mod_eq]
  have : w / 2 ^ k % 2 < 2 := Nat.mod_lt _ (by decide)
  by_cases h : w / 2 ^ k % 2 = 1
  · simp [h]
  · have : w / 2 ^ k % 2 = 0 := by omega
    simp [this]
end Go.Proofs.YtbkiamecdangpaaDoor.N13
