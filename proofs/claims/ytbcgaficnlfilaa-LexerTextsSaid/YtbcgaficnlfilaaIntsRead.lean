/- The contracts of ints.Read and of the document's own Read. -/
import Derived.Test.YtbcgaficnlfilaaIntsQuot
namespace Go.Proofs.Ytbcgaficnlfilaa
open Go.RowKit

theorem getB (s : ByteArray) (k : Nat) (h : k < s.size) : s.data.toList[k]'(by rw [← Lib.size_eq]; exact h) = s[k] := rfl
theorem ret_ii {a b c d : Int} (h1 : a = c) (h2 : b = d) : Ending.returned (.tuple #[.int .i64 a, .int .i64 b]) = .returned (.tuple #[.int .i64 c, .int .i64 d]) := by rw [h1, h2]
theorem int_eq {a b : Int} (h : a = b) : Value.int .i64 a = .int .i64 b := by rw [h]
theorem dig_of {c : UInt8} (h : isDig c = true) : (48 : Int) ≤ c.toNat ∧ (c.toNat : Int) ≤ 57 := by simp [isDig] at h; omega
theorem dig_not {c : UInt8} (h : isDig c = false) : (c.toNat : Int) < 48 ∨ (¬ (c.toNat : Int) < 48 ∧ (57 : Int) < c.toNat) := by
  simp [isDig] at h; omega

set_option maxHeartbeats 1000000 in
theorem refread_any (s : ByteArray) (w : World) (hs : s.size ≤ maxLen) : Calls Try.prog 24 #[.string s] w (TwoInts (readN s.data.toList) (readE s.data.toList) w) := by
  unfold maxLen at hs
  by_cases h0 : s.data.toList = []
  · obtain ⟨he, hn⟩ := readE_bad (l := s.data.toList) (.inl h0)
    rw [he, hn]
    have hE : s.toList.isEmpty = true := by rw [Lib.toList_data, h0]; rfl
    clear h0 he hn
    go_enter Try.func24, Try.ntmps24
    go_wp2
    go_ret2
    exact ⟨rfl, rfl⟩
  · have hE : s.toList.isEmpty = false := by rw [Lib.toList_data]; simpa using h0
    have H0 : Hid (¬ s.data.toList = []) := h0
    have hsz : 0 < s.size := by
      rw [Lib.size_eq]; exact List.length_pos_iff.2 h0
    clear h0
    go_enter Try.func24, Try.ntmps24
    go_wp2
    go_loop [4] (fun i => ∃ k : Nat, k ≤ s.size ∧ i = .int .i64 k ∧ (s.data.toList.take k).all isDig = true) (fun i => s.size - (intOf i).toNat)
    case atStart => exact ⟨0, Nat.zero_le _, rfl, rfl⟩
    case round =>
      obtain ⟨k, hk, rfl, hall⟩ := hrel
      have HA : Hid ((s.data.toList.take k).all isDig = true) := hall
      clear hall
      by_cases hlt : k < s.size
      · have hkl : k < s.data.toList.length := by rw [← Lib.size_eq]; exact hlt
        have hg := getB s k hlt
        cases hd : isDig s[k] with
        | true =>
          have HN : Hid ((s.data.toList.take (k + 1)).all isDig = true) := all_take_snoc hkl HA.out (by rw [hg]; exact hd)
          obtain ⟨d1, d2⟩ := dig_of hd
          have d1' : ¬ (s[k].toNat : Int) < 48 := by omega
          have d2' : ¬ (57 : Int) < s[k].toNat := by omega
          clear hd hg
          go_wp2
          go_round
          case rel => exact ⟨k + 1, by omega, by go_num, HN.out⟩
          case measure => simp [intOf]; omega
        | false =>
          obtain ⟨he, hn⟩ := readE_bad (l := s.data.toList) (.inr (not_all hkl (by rw [hg]; exact hd)))
          have HE : Hid (readN s.data.toList = 0 ∧ readE s.data.toList = 5) := ⟨hn, he⟩
          rcases dig_not hd with d1 | ⟨d1, d2⟩
          · clear hd hg he hn
            go_wp2
            go_ret2
            exact ⟨ret_ii HE.out.1.symm HE.out.2.symm, rfl⟩
          · clear hd hg he hn
            go_wp2
            go_ret2
            exact ⟨ret_ii HE.out.1.symm HE.out.2.symm, rfl⟩
      · have hks : k = s.size := by omega
        have hall : s.data.toList.all isDig = true := by
          have := HA.out; rwa [List.take_of_length_le (by rw [← Lib.size_eq]; omega)] at this
        have HALL : Hid (s.data.toList.all isDig = true) := hall
        clear hall HA
        subst hks
        go_wp2
        go_loop [5, 6] (fun n i => ∃ k : Nat, k ≤ s.size ∧ i = .int .i64 k ∧ n = .int .i64 (numVal (s.data.toList.take k)) ∧ numVal (s.data.toList.take k) ≤ 9223372036854775807) (fun _ i => s.size - (intOf i).toNat)
        case atStart => exact ⟨0, Nat.zero_le _, rfl, rfl, by simp [numVal]⟩
        case round =>
          obtain ⟨k, hk, rfl, rfl, hv⟩ := hrel
          by_cases hlt : k < s.size
          · have hkl : k < s.data.toList.length := by rw [← Lib.size_eq]; exact hlt
            have hg := getB s k hlt
            obtain ⟨d1, d2⟩ := dig_of (by rw [← hg]; exact all_at hkl HALL.out : isDig s[k] = true)
            have HV : Hid (numVal (s.data.toList.take (k + 1)) = 10 * numVal (s.data.toList.take k) + (s[k].toNat - 48)) := by
              show _ = _; rw [take_snoc _ _ hkl, numVal_snoc, hg]
            have HT := numVal_take_le s.data.toList (k + 1)
            rw [HV.out] at HT
            clear hg
            have HTH : Hid (10 * numVal (s.data.toList.take k) + (s[k].toNat - 48) ≤ numVal s.data.toList) := HT
            clear HT
            obtain ⟨v, hvv⟩ : ∃ v, numVal (s.data.toList.take k) = v := ⟨_, rfl⟩
            have HVV : Hid (numVal (s.data.toList.take k) = v) := hvv
            rw [hvv] at hv ⊢
            clear hvv
            by_cases hbig : (9223372036854775807 - ((s[k].toNat : Int) - 48)) / 10 < (v : Int)
            · have HE : Hid (readE s.data.toList = 4 ∧ readN s.data.toList = 0) := readE_big H0.out HALL.out (by have := HTH.out; rw [HVV.out] at this; omega)
              go_wp2
              go_ret2
              exact ⟨ret_ii HE.out.2.symm HE.out.1.symm, rfl⟩
            · have hnew : 10 * v + (s[k].toNat - 48) ≤ 9223372036854775807 := by omega
              go_wp2
              go_round
              case rel => exact ⟨k + 1, by omega, by go_num, int_eq (by rw [HV.out, HVV.out]; omega), by rw [HV.out, HVV.out]; exact hnew⟩
              case measure => simp [intOf]; omega
          · have hks : k = s.size := by omega
            have htake : s.data.toList.take k = s.data.toList := List.take_of_length_le (by rw [← Lib.size_eq]; omega)
            rw [htake] at hv ⊢
            have HE : Hid (readE s.data.toList = 0 ∧ readN s.data.toList = numVal s.data.toList) := readE_ok H0.out HALL.out hv
            clear htake
            subst hks
            go_wp2
            go_ret2
            exact ⟨ret_ii HE.out.2.symm HE.out.1.symm, rfl⟩
end Go.Proofs.Ytbcgaficnlfilaa
