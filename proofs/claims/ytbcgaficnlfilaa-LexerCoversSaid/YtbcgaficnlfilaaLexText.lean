/- The contract of the document's own Text. -/
import Derived.Test.YtbcgaficnlfilaaLexEdges
import Derived.Lib.Join
namespace Go.Proofs.Ytbcgaficnlfilaa
open Go.RowKit

/-- the words ahead of the end, and their text -/
def aheadL (xs : List Tk) : List Tk := xs.takeWhile (fun t => !decide (t.kind = 0))
def joinT (xs : List Tk) : List UInt8 := Lib.join (xs.map (·.text)) [32]
theorem joinT_snoc (xs : List Tk) (t : Tk) : joinT (xs ++ [t]) = if xs = [] then t.text else joinT xs ++ 32 :: t.text := by
  unfold joinT
  cases xs with
  | nil => simp [Lib.join_one]
  | cons x r =>
    rw [if_neg (by simp), List.cons_append, List.map_cons, List.map_cons, Lib.join_cons, Lib.join_cons]
    simp [Lib.joinTail]
theorem whileT_end {p : Tk → Bool} : ∀ (l : List Tk) (n : Nat), (l.take n).all p = true → (∀ h : n < l.length, p l[n] = false) → l.takeWhile p = l.take n
  | [], n, _, _ => by simp
  | c :: r, 0, _, h => by
    have := h (by simp)
    simp at this
    simp [this]
  | c :: r, n + 1, ha, h => by
    simp at ha
    rw [List.take_succ_cons, List.takeWhile_cons, ha.1]
    simp only [if_true]
    rw [whileT_end r n (by simpa using ha.2) (fun hn => by have := h (by simpa using hn); simpa using this)]

set_option maxHeartbeats 4000000 in
theorem reftext_row (g o c n M : Nat) (xs : List Tk) (w : World) (hn : n = xs.length) (hM : n * (M + 1) ≤ 1000000000) (h1 : ∀ j (hj : j < xs.length), TkAt w g o j xs[j]) (hs : ∀ j (hj : j < xs.length), xs[j].text.length ≤ M) :
    Calls Try.prog 13 #[.slice (some ⟨g, o, none⟩) n c] w fun e w' => e = .returned (.string ⟨(joinT (aheadL xs)).toArray⟩) ∧ w = w' := by
  have HN : Hid (n = xs.length) := hn
  have H1 : Hid (∀ j (hj : j < xs.length), TkAt w g o j xs[j]) := h1
  have HS : Hid (∀ j (hj : j < xs.length), xs[j].text.length ≤ M) := hs
  have hn9 : n ≤ 1000000000 := Nat.le_trans (Nat.le_mul_of_pos_right n (by omega)) hM
  clear hn h1 hs
  go_enter Try.func13, Try.ntmps13
  go_wp2_with fail
  go_loop [3, 4] (fun v i => ∃ (k : Nat) (u : ByteArray), k ≤ n ∧ v = .string u ∧ i = .int .i64 (k : Int) ∧ Hid (u.data.toList = joinT (xs.take k)) ∧ u.size ≤ k * (M + 1) ∧ Hid ((xs.take k).all (fun t => !decide (t.kind = 0)) = true)) (fun _ i => n - (intOf i).toNat)
  case atStart => exact ⟨0, _, Nat.zero_le _, rfl, rfl, (by rfl : _ = joinT (xs.take 0)), Nat.zero_le _, (by rfl : (xs.take 0).all _ = true)⟩
  case round =>
    obtain ⟨k, u, hk, rfl, rfl, HU, hu, HA⟩ := hrel
    have hkM : k * (M + 1) ≤ n * (M + 1) := Nat.mul_le_mul_right _ hk
    by_cases hlt : k < n
    · have hlt' : (k : Int) < n := by omega
      have hkl : k < xs.length := by rw [← HN.out]; exact hlt
      obtain ⟨a0, a1, a2, a3⟩ := H1.out k hkl
      have hts := HS.out k hkl
      have hk1 : (k + 1) * (M + 1) ≤ n * (M + 1) := Nat.mul_le_mul_right _ hlt
      have hk2 : (k + 1) * (M + 1) = k * (M + 1) + M + 1 := by rw [Nat.add_mul]; omega
      by_cases hz : xs[k].kind = 0
      · have hw : aheadL xs = xs.take k := whileT_end _ k HA.out (fun h => by simp [hz])
        have HR : Hid ((⟨(joinT (aheadL xs)).toArray⟩ : ByteArray) = u) := byte_same2 (by rw [HU.out, hw])
        have hzb : (xs[k].kind != 0) = false := by rw [hz]; rfl
        clear hw hz
        generalize xs[k].kind = x0 at *
        go_wp2_with fail
        go_ret
        exact ⟨by rw [HR.out]; rfl, rfl⟩
      · have hzb : (xs[k].kind != 0) = true := by rw [bne_iff_ne]; exact hz
        have htk : xs.take (k + 1) = xs.take k ++ [xs[k]] := List.take_succ_eq_append_getElem hkl
        have HA2 : Hid ((xs.take (k + 1)).all (fun t => !decide (t.kind = 0)) = true) := by
          show _ = _
          rw [htk, List.all_append, HA.out]; simp [hz]
        have HJ : Hid (joinT (xs.take (k + 1)) = if xs.take k = [] then xs[k].text else joinT (xs.take k) ++ 32 :: xs[k].text) := by show _ = _; rw [htk, joinT_snoc]
        obtain ⟨t, ht⟩ : ∃ t : ByteArray, t = ⟨xs[k].text.toArray⟩ := ⟨_, rfl⟩
        have HT : Hid (t.data.toList = xs[k].text) := by show _ = _; rw [ht]
        have htz : t.size ≤ M := by rw [Lib.size_eq, HT.out]; exact hts
        rw [← ht] at a3
        by_cases h0 : k = 0
        · subst h0
          have HU2 : Hid ((u ++ t).data.toList = joinT (xs.take 1)) := by
            have hue : u.data.toList = [] := HU.out
            show _ = _
            rw [HJ.out, if_pos (by simp), ByteArray.data_append, Array.toList_append, hue, HT.out]; rfl
          rw [Nat.zero_mul, Nat.add_zero] at a0 a3
          clear hz htk ht hts
          generalize xs[0].kind = x0 at *
          go_wp2_with fail
          go_round
          case rel => exact ⟨1, _, by omega, rfl, by go_num, HU2, by rw [ByteArray.size_append]; omega, HA2⟩
          case measure => simp [intOf]; omega
        · have h0' : (0 : Int) < (k : Int) := by omega
          have hne : ¬ xs.take k = [] := fun h => by
            have hl : (xs.take k).length = k := by rw [List.length_take]; omega
            rw [h] at hl; simp at hl; exact h0 hl.symm
          have HU2 : Hid ((u ++ ⟨#[32]⟩ ++ t).data.toList = joinT (xs.take (k + 1))) := by
            show _ = _
            rw [HJ.out, if_neg hne, ByteArray.data_append, Array.toList_append, ByteArray.data_append, Array.toList_append, HU.out, HT.out]; simp
          clear hz htk ht hts hne
          generalize xs[k].kind = x0 at *
          go_wp2_with fail
          go_round
          case rel => exact ⟨k + 1, _, by omega, rfl, by go_num, HU2, by rw [ByteArray.size_append, ByteArray.size_append]; show u.size + 1 + t.size ≤ _; omega, HA2⟩
          case measure => simp [intOf]; omega
    · obtain rfl : k = n := by omega
      have hw : aheadL xs = xs.take k := whileT_end _ k HA.out (fun h => by rw [HN.out] at h; omega)
      have HR : Hid ((⟨(joinT (aheadL xs)).toArray⟩ : ByteArray) = u) := byte_same2 (by rw [HU.out, hw])
      clear hw
      go_wp2_with fail
      go_ret
      exact ⟨by rw [HR.out]; rfl, rfl⟩
end Go.Proofs.Ytbcgaficnlfilaa
