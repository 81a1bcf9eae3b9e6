/- The walk of the law LexerTexts. -/
import Derived.Test.YtbcgaficnlfilaaLexLaws
namespace Go.Proofs.Ytbcgaficnlfilaa
open Go.RowKit

/-- a slice of words that came in: where its cells lie, or it is empty -/
def RowAt (w : World) (v : Value) (xs : List Tk) : Prop :=
  ∃ (a : Option Addr) (cap : Nat), v = .slice a xs.length cap ∧ (xs = [] ∨ ∃ g o, a = some ⟨g, o, none⟩ ∧ g < w.heap.size ∧ ∀ j (hj : j < xs.length), TkAt w g o j xs[j])
theorem RowAt.below {w w' : World} {v : Value} {xs : List Tk} (h : RowAt w v xs) (hB : Below w.heap.size w w') : RowAt w' v xs := by
  obtain ⟨a, cap, h1, h2 | ⟨g, o, h3, h4, h5⟩⟩ := h
  · exact ⟨a, cap, h1, .inl h2⟩
  · exact ⟨a, cap, h1, .inr ⟨g, o, h3, Nat.lt_of_lt_of_le h4 hB.size, fun j hj => (h5 j hj).below hB h4⟩⟩

set_option maxHeartbeats 1600000 in
theorem text_none (a : Option Addr) (c : Nat) (w : World) : Calls Try.prog 12 #[.slice a 0 c] w fun e w' => e = .returned (.string ⟨#[]⟩) ∧ Below w.heap.size w w' := by
  have HJ := join_row w.heap.size (.slice none 0 0) [] w (World.ownsRow_nil _ _ _ _) (by decide) (by decide)
  go_enter Try.func12, Try.ntmps12
  go_wp2_with fail
  refine wp_loop_rounds 1 ?_
  rw [rounds_succ]
  go_wp2_with fail
  refine HJ.mono ?_; rintro e w2 ⟨rfl, hB2⟩
  go_wp2
  go_ret
  exact ⟨rfl, hB2⟩
theorem reftext_none (a : Option Addr) (c : Nat) (w : World) : Calls Try.prog 13 #[.slice a 0 c] w fun e w' => e = .returned (.string ⟨#[]⟩) ∧ w = w' := by
  go_enter Try.func13, Try.ntmps13
  go_wp2_with fail
  refine wp_loop_rounds 1 ?_
  rw [rounds_succ]
  go_wp2
  try rw [Exit.noGoto_ret]
  go_ret
  exact ⟨rfl, rfl⟩
theorem text_at {v : Value} {xs : List Tk} {w : World} (h : RowAt w v xs) (hn : xs.length ≤ 200) (hs : ∀ t ∈ xs, t.text.length ≤ 1000) :
    Calls Try.prog 12 #[v] w fun e w' => e = .returned (.string ⟨(joinT (aheadL xs)).toArray⟩) ∧ Below w.heap.size w w' := by
  obtain ⟨a, cap, rfl, rfl | ⟨g, o, rfl, h4, h5⟩⟩ := h
  · exact text_none a cap w
  · exact text_row g o cap xs.length 1000 xs w rfl h4 (by have := Nat.mul_le_mul_right 1001 hn; omega) h5 (fun j hj => hs _ (List.getElem_mem hj))
theorem reftext_at {v : Value} {xs : List Tk} {w : World} (h : RowAt w v xs) (hn : xs.length ≤ 200) (hs : ∀ t ∈ xs, t.text.length ≤ 1000) :
    Calls Try.prog 13 #[v] w fun e w' => e = .returned (.string ⟨(joinT (aheadL xs)).toArray⟩) ∧ w = w' := by
  obtain ⟨a, cap, rfl, rfl | ⟨g, o, rfl, h4, h5⟩⟩ := h
  · exact reftext_none a cap w
  · exact reftext_row g o cap xs.length 1000 xs w rfl (by have := Nat.mul_le_mul_right 1001 hn; omega) h5 (fun j hj => hs _ (List.getElem_mem hj))
theorem sameL_len : ∀ (xs ys : List Tk), xs.length ≠ ys.length → sameL xs ys = false
  | [], [], h => absurd rfl h
  | [], _ :: _, _ => rfl
  | _ :: _, [], _ => rfl
  | x :: r, y :: q, h => by rw [sameL, sameL_len r q (by simpa using h), Bool.and_false]
theorem same_at {v u : Value} {xs ys : List Tk} {w : World} (h : RowAt w v xs) (k : RowAt w u ys) (hn : xs.length ≤ 200) : Calls Try.prog 14 #[v, u] w (RunsTo (sameL xs ys) w) := by
  obtain ⟨a, cap, rfl, h2⟩ := h
  obtain ⟨b, cap', rfl, k2⟩ := k
  by_cases hl : xs.length = ys.length
  · rcases h2 with rfl | ⟨g, o, rfl, h4, h5⟩
    · obtain rfl : ys = [] := List.length_eq_zero_iff.1 hl.symm
      exact same_none a b cap cap' w
    · rcases k2 with rfl | ⟨g', o', rfl, k4, k5⟩
      · obtain rfl : xs = [] := List.length_eq_zero_iff.1 hl
        exact same_none _ b cap cap' w
      · rw [← hl]
        exact same_any g o cap g' o' cap' xs.length xs ys w rfl hl (by omega) h4 k4 h5 k5
  · rw [sameL_len xs ys hl]
    exact same_len a b _ _ cap cap' w hl
theorem refsame_at {v u : Value} {xs ys : List Tk} {w : World} (h : RowAt w v xs) (k : RowAt w u ys) (hn : xs.length ≤ 200) : Calls Try.prog 15 #[v, u] w (RunsTo (sameL xs ys) w) := by
  obtain ⟨a, cap, rfl, h2⟩ := h
  obtain ⟨b, cap', rfl, k2⟩ := k
  by_cases hl : xs.length = ys.length
  · rcases h2 with rfl | ⟨g, o, rfl, h4, h5⟩
    · obtain rfl : ys = [] := List.length_eq_zero_iff.1 hl.symm
      exact refsame_none a b cap cap' w
    · rcases k2 with rfl | ⟨g', o', rfl, k4, k5⟩
      · obtain rfl : xs = [] := List.length_eq_zero_iff.1 hl
        exact refsame_none _ b cap cap' w
      · rw [← hl]
        exact refsame_any g o cap g' o' cap' xs.length xs ys w rfl hl (by omega) h4 k4 h5 k5
  · rw [sameL_len xs ys hl]
    exact refsame_len a b _ _ cap cap' w hl

set_option maxHeartbeats 4000000 in
theorem walk_LexerTexts (v u : Value) (xs ys : List Tk) (w : World) (h1 : RowAt w v xs) (h2 : RowAt w u ys) : Calls Try.prog 4 #[v, u] w (RunsTo true w) := by
  have K1 : Hid (RowAt w v xs) := h1
  have K2 : Hid (RowAt w u ys) := h2
  obtain ⟨a, ca, rfl, ha⟩ := h1
  obtain ⟨b, cb, rfl, hb⟩ := h2
  have HA : Hid (xs = [] ∨ ∃ g o, a = some ⟨g, o, none⟩ ∧ g < w.heap.size ∧ ∀ j (hj : j < xs.length), TkAt w g o j xs[j]) := ha
  clear ha hb
  obtain ⟨n, hn⟩ : ∃ n, n = xs.length := ⟨_, rfl⟩
  obtain ⟨m, hm⟩ : ∃ m, m = ys.length := ⟨_, rfl⟩
  have HN : Hid (n = xs.length) := hn
  have HM : Hid (m = ys.length) := hm
  rw [← hn] at K1 ⊢
  rw [← hm] at K2 ⊢
  clear hn hm
  by_cases hbig : 200 < n ∨ 200 < m
  · go_enter Try.func4, Try.ntmps4
    have hd : decide ((200 : Int) < n) = true ∨ (decide ((200 : Int) < n) = false ∧ decide ((200 : Int) < m) = true) := by
      by_cases h : 200 < n
      · exact .inl (by simp; omega)
      · exact .inr ⟨by simp; omega, by simp; omega⟩
    rcases hd with hd | ⟨hd, hd'⟩
    all_goals (
      go_wp2_with fail
      refine (awake_any _).mono ?_; rintro e w1 ⟨rfl, hB1⟩
      go_wp2
      go_ret
      exact ⟨rfl, hB1⟩)
  · have q1 : n ≤ 200 := by omega
    have q2 : m ≤ 200 := by omega
    have q3 : decide ((200 : Int) < n) = false := by simp; omega
    have q4 : decide ((200 : Int) < m) = false := by simp; omega
    clear hbig
    go_enter Try.func4, Try.ntmps4
    go_wp2_with fail
    go_loopw [5] (fun i wr => ∃ k : Nat, k ≤ n ∧ i = .int .i64 (k : Int) ∧ w = wr ∧ Hid (∀ j (hj : j < xs.length), j < k → xs[j].text.length ≤ 1000)) (fun i _ => n - (intOf i).toNat)
    case atStart => exact ⟨0, Nat.zero_le _, rfl, by first | rfl | trivial, fun j _ h => absurd h (Nat.not_lt_zero _)⟩
    case round =>
      obtain ⟨k, hk, rfl, rfl, HK⟩ := hrel
      by_cases hkn : k < n
      · have hkn' : (k : Int) < n := by omega
        have hkX : k < xs.length := by rw [← HN.out]; exact hkn
        obtain ⟨g, o, rfl, hg, hc⟩ : ∃ g o, a = some ⟨g, o, none⟩ ∧ g < w.heap.size ∧ ∀ j (hj : j < xs.length), TkAt w g o j xs[j] := by
          rcases HA.out with h | h
          · rw [h] at hkX; simp at hkX
          · exact h
        obtain ⟨_, _, _, a3⟩ := hc k hkX
        have htl : xs[k].text.length = (⟨xs[k].text.toArray⟩ : ByteArray).size := by rw [Lib.size_eq]
        by_cases hlen : (⟨xs[k].text.toArray⟩ : ByteArray).size ≤ 1000
        · have HK2 : Hid (∀ j (hj : j < xs.length), j < k + 1 → xs[j].text.length ≤ 1000) := fun j hj h => by
            rcases Nat.lt_or_ge j k with h' | h'
            · exact HK.out j hj h'
            · obtain rfl : j = k := by omega
              omega
          generalize (⟨xs[k].text.toArray⟩ : ByteArray) = t at *
          have hlen' : (t.size : Int) ≤ 1000 := by omega
          clear htl hc
          go_wp2_with fail
          go_roundw
          case rel => exact ⟨k + 1, by omega, by go_num, by first | rfl | trivial, HK2⟩
          case measure => simp [intOf]; omega
        · generalize (⟨xs[k].text.toArray⟩ : ByteArray) = t at *
          have hlen' : (1000 : Int) < t.size := by omega
          clear htl hc
          go_wp2_with fail
          refine (awake_any _).mono ?_; rintro e w1 ⟨rfl, hB1⟩
          go_wp2
          go_ret
          exact ⟨rfl, hB1⟩
      · obtain rfl : k = n := by omega
        have hall : ∀ t ∈ xs, t.text.length ≤ 1000 := fun t ht => by
          obtain ⟨j, hj, rfl⟩ := List.mem_iff_getElem.1 ht
          exact HK.out j hj (by rw [HN.out]; exact hj)
        have HT1 := text_at K1.out (by rw [← HN.out]; exact q1) hall
        have HT2 := fun w1 (hB : Below w.heap.size w w1) => reftext_at (K1.out.below hB) (by rw [← HN.out]; exact q1) hall
        have HS1 := fun w1 (hB : Below w.heap.size w w1) => same_at (K1.out.below hB) (K2.out.below hB) (by rw [← HN.out]; exact q1)
        have HS2 := fun w1 (hB : Below w.heap.size w w1) => refsame_at (K1.out.below hB) (K2.out.below hB) (by rw [← HN.out]; exact q1)
        generalize sameL xs ys = sb at *
        obtain ⟨t, ht⟩ : ∃ t : ByteArray, t = ⟨(joinT (aheadL xs)).toArray⟩ := ⟨_, rfl⟩
        rw [← ht] at HT1 HT2
        clear hall ht
        go_wp2_with fail
        refine HT1.mono ?_; rintro e w1 ⟨rfl, hB1⟩
        clear HT1
        go_wp2_with fail
        refine (HT2 w1 hB1).mono ?_; rintro e w2 ⟨rfl, rfl⟩
        clear HT2
        go_wp2_with fail
        refine (HS1 w1 hB1).mono ?_; rintro e w3 ⟨rfl, hB3⟩
        clear HS1
        have hB3 := hB1.trans (hB3.mono hB1.size)
        go_wp2_with fail
        refine (HS2 w3 hB3).mono ?_; rintro e w4 ⟨rfl, hB4⟩
        clear HS2
        have hB4 := hB3.trans (hB4.mono hB3.size)
        go_wp2_with fail
        refine (awake_any _).mono ?_; rintro e w5 ⟨rfl, hB5⟩
        go_wp2
        go_ret
        exact ⟨rfl, hB4.trans (hB5.mono hB4.size)⟩
end Go.Proofs.Ytbcgaficnlfilaa
