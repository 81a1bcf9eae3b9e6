/- The number of a letter: plain facts. -/
import Derived.Test.YtnepcledbjnolabDoorNamesAtoi
namespace Go.Proofs.YtnepcledbjnolabDoor
open Go.RowKit

theorem letter_byte (n : Int) : (UInt8.ofNat (97 + n.toNat % 26)).toNat = 97 + n.toNat % 26 := UInt8.toNat_ofNat_of_lt' (by show _ < 256; omega)
theorem itoa_ne (k : Int) : Lib.itoa k ≠ [] := by
  unfold Lib.itoa
  split
  · simp
  · exact (dec_ok _).1
/-- what a letter with more behind it says of its number -/
theorem letter_split {m : Int} {c : UInt8} {r : List UInt8} (h0 : 0 ≤ m) (hm : m ≤ 4611686018427387904) (h : letterL m = c :: r) (hr : ¬ r = []) :
    26 ≤ m ∧ m = (c.toNat : Int) - 97 + m / 26 * 26 ∧ 97 ≤ c.toNat ∧ c.toNat ≤ 122 ∧ Lib.atoiAll r = .ok (m / 26) ∧ readE r = 0 ∧ readN r = m / 26 := by
  unfold letterL at h
  rw [if_neg (by omega)] at h
  by_cases h26 : m < 26
  · rw [if_pos h26] at h
    injection h with _ h2
    exact absurd h2.symm hr
  · rw [if_neg h26] at h
    injection h with h1 h2
    have hb := letter_byte m
    rw [h1] at hb
    subst h2
    have h3 := read_itoa (m / 26) (by omega) (by omega)
    exact ⟨by omega, by omega, by omega, by omega, atoi_itoa _ (by omega) (by omega), h3.1, h3.2⟩
theorem letter_single {m : Int} {c : UInt8} (h0 : 0 ≤ m) (h : letterL m = [c]) : m < 26 ∧ m = (c.toNat : Int) - 97 ∧ 97 ≤ c.toNat ∧ c.toNat ≤ 122 := by
  unfold letterL at h
  rw [if_neg (by omega)] at h
  by_cases h26 : m < 26
  · rw [if_pos h26] at h
    injection h with h1
    have hb := letter_byte m
    rw [h1] at hb
    omega
  · rw [if_neg h26] at h
    injection h with _ h2
    exact absurd h2 (itoa_ne _)
theorem letter_of_byte {c : UInt8} (h1 : 97 ≤ c.toNat) (h2 : c.toNat ≤ 122) : letterL ((c.toNat : Int) - 97) = [c] := by
  unfold letterL
  rw [if_neg (by omega), if_pos (by omega)]
  congr 1
  apply UInt8.toNat_inj.1
  rw [letter_byte]; omega
theorem letter_cons {m : Int} (h0 : 0 ≤ m) : ∃ c r, letterL m = c :: r ∧ 97 ≤ c.toNat ∧ c.toNat ≤ 122 := by
  have hb := letter_byte m
  unfold letterL
  rw [if_neg (by omega)]
  split <;> exact ⟨_, _, rfl, by omega, by omega⟩
theorem letter_inj {n m : Int} (hn : 0 ≤ n) (hn' : n ≤ 4611686018427387904) (hm : 0 ≤ m) (hm' : m ≤ 4611686018427387904) (h : letterL n = letterL m) : n = m := by
  obtain ⟨c, r, hc, _, _⟩ := letter_cons hn
  rw [hc] at h
  by_cases hr : r = []
  · subst hr
    have h1 := letter_single hn hc
    have h2 := letter_single hm h.symm
    omega
  · obtain ⟨a1, a2, _, _, a3, _, _⟩ := letter_split hn hn' hc hr
    obtain ⟨b1, b2, _, _, b3, _, _⟩ := letter_split hm hm' h.symm hr
    rw [a3] at b3
    injection b3 with b3
    rw [a2, b2, b3]

open Classical in
/-- the number whose letter a text is; -1 without one -/
noncomputable def numOf (l : List UInt8) : Int := if h : ∃ n : Int, 0 ≤ n ∧ n ≤ 4611686018427387904 ∧ letterL n = l then Classical.choose h else -1
theorem numOf_yes {l : List UInt8} {n : Int} (h0 : 0 ≤ n) (h1 : n ≤ 4611686018427387904) (h : letterL n = l) : numOf l = n := by
  have hx : ∃ n : Int, 0 ≤ n ∧ n ≤ 4611686018427387904 ∧ letterL n = l := ⟨n, h0, h1, h⟩
  unfold numOf
  rw [dif_pos hx]
  obtain ⟨a, b, c⟩ := Classical.choose_spec hx
  exact letter_inj a b h0 h1 (c.trans h.symm)
theorem numOf_no {l : List UInt8} (h : ∀ n : Int, 0 ≤ n → n ≤ 4611686018427387904 → letterL n = l → False) : numOf l = -1 := by
  unfold numOf
  rw [dif_neg]
  rintro ⟨n, a, b, c⟩
  exact h n a b c
theorem numOf_empty : numOf [] = -1 := numOf_no fun n h0 _ h => by
  obtain ⟨c, r, hc, _⟩ := letter_cons h0
  rw [hc] at h; cases h
theorem numOf_head {c : UInt8} {r : List UInt8} (hc : c.toNat < 97 ∨ 122 < c.toNat) : numOf (c :: r) = -1 := numOf_no fun n h0 _ h => by
  obtain ⟨d, q, hd, h1, h2⟩ := letter_cons h0
  rw [hd] at h
  injection h with h3
  subst h3
  omega
theorem numOf_one {c : UInt8} (h1 : 97 ≤ c.toNat) (h2 : c.toNat ≤ 122) : numOf [c] = (c.toNat : Int) - 97 := numOf_yes (by omega) (by omega) (letter_of_byte h1 h2)
end Go.Proofs.YtnepcledbjnolabDoor
