/- The contract of the document's own skip. -/
import Derived.Test.YtbcgaficnlfilaaLexSkip
import Derived.Deep.LoopGhost
namespace Go.Proofs.Ytbcgaficnlfilaa
open Go.RowKit

theorem byte_int (c : UInt8) (k : Nat) : ((c.toNat : Int) == (k : Int)) = decide (c.toNat = k) := by rw [Bool.eq_iff_iff]; simp; omega
theorem dash_cases (s : ByteArray) (k : Nat) (h : k < s.size) :
    (Lib.hasPrefix (s.data.toList.drop k) [45, 45] = true ∧ ((s[k].toNat : Int) == 45) = true ∧ ∃ h1 : k + 1 < s.size, ((s[k + 1].toNat : Int) == 45) = true) ∨
    (Lib.hasPrefix (s.data.toList.drop k) [45, 45] = false ∧ (((s[k].toNat : Int) == 45) = false ∨ (((s[k].toNat : Int) == 45) = true ∧ ¬ k + 1 < s.size) ∨ (((s[k].toNat : Int) == 45) = true ∧ ∃ h1 : k + 1 < s.size, ((s[k + 1].toNat : Int) == 45) = false))) := by
  have e : ∀ c : UInt8, ((c.toNat : Int) == 45) = (c == 45) := fun c => by
    rw [show ((c.toNat : Int) == 45) = decide (c.toNat = 45) from byte_int c 45, Bool.eq_iff_iff, beq_iff_eq, decide_eq_true_iff]
    exact ⟨fun h => UInt8.toNat_inj.1 h, fun h => by rw [h]; rfl⟩
  rw [drop_cons s k h]
  simp only [e]
  unfold Lib.hasPrefix
  by_cases h1 : k + 1 < s.size
  · rw [drop_cons s (k + 1) h1]
    cases ha : (s[k] == 45) <;> cases hb : (s[k + 1] == 45)
    · right
      refine ⟨?_, .inl rfl⟩
      rw [beq_eq_false_iff_ne] at ha
      simp [List.isPrefixOf]; exact fun h => absurd h.symm ha
    · right
      refine ⟨?_, .inl rfl⟩
      rw [beq_eq_false_iff_ne] at ha
      simp [List.isPrefixOf]; exact fun h => absurd h.symm ha
    · right
      refine ⟨?_, .inr (.inr ⟨rfl, h1, hb⟩)⟩
      rw [beq_eq_false_iff_ne] at hb
      simp [List.isPrefixOf]; exact fun _ h => absurd h.symm hb
    · left
      rw [beq_iff_eq] at ha hb
      exact ⟨by simp [List.isPrefixOf, ha, hb], rfl, h1, by rw [hb]; rfl⟩
  · right
    have hn : s.data.toList.drop (k + 1) = [] := List.drop_of_length_le (by rw [← Lib.size_eq]; omega)
    rw [hn]
    refine ⟨by simp [List.isPrefixOf], ?_⟩
    cases ha : (s[k] == 45)
    · exact .inl rfl
    · exact .inr (.inl ⟨rfl, h1⟩)

theorem skip_true_start {l : List UInt8} (h : Lib.hasPrefix l [45, 45] = true) : skipL true l = skipL false l := by
  unfold Lib.hasPrefix at h
  match l, h with
  | [_], h => simp [List.isPrefixOf] at h
  | c :: d :: r, h =>
    simp at h
    obtain ⟨rfl, rfl⟩ := h
    conv => lhs; rw [skipL]
    conv => rhs; rw [skipL, if_neg (by decide), if_pos (by simp)]
    rfl
theorem skip_true_ten {c : UInt8} {r : List UInt8} (h : c.toNat = 10) : skipL true (c :: r) = skipL false (c :: r) := by
  rw [skipL, skipL, if_pos (by unfold whiteB; simp [h])]; simp [h]
theorem skip_true_other {c : UInt8} {r : List UInt8} (h : ¬ c.toNat = 10) : skipL true (c :: r) = 1 + skipL true r := by
  rw [skipL]; simp [h]

set_option maxHeartbeats 2000000 in
theorem refskip_any (s : ByteArray) (k0 : Nat) (w : World) (hs : s.size ≤ 9223372036854775806) (hk0 : k0 ≤ s.size) : Calls Try.prog 17 #[.string s, .int .i64 k0] w (One (skipAt s k0 : Nat) w) := by
  obtain ⟨N, hN⟩ : ∃ N, skipAt s k0 = N := ⟨_, rfl⟩
  rw [hN]
  have HN : Hid (skipAt s k0 = N) := hN
  clear hN
  go_enter Try.func17, Try.ntmps17
  go_wp2_with fail
  go_loopg [1] (s.size - k0) (fun g i wx => ∃ k : Nat, k + g = s.size ∧ i = .int .i64 k ∧ Hid (skipAt s k = N) ∧ w = wx)
  case atStart => exact ⟨k0, by omega, rfl, HN, rfl⟩
  case round =>
    obtain ⟨k, hkg, rfl, HK, rfl⟩ := hrel
    clear HN
    cases gk with
    | zero =>
      obtain rfl : k = s.size := by omega
      have HS : Hid (s.size = N) := by show _ = N; rw [← HK.out, skipAt_end]
      go_wp2_with fail
      try rw [Exit.noGoto_ret]
      go_ret
      exact ⟨by rw [← HS.out]; rfl, rfl⟩
    | succ g =>
      have hlt : k < s.size := by omega
      have hlt' : (k : Int) < s.size := by omega
      have hd := drop_cons s k hlt
      have hst := @skip_stop s[k] (s.data.toList.drop (k + 1))
      rcases white_cases s[k] with ⟨ho, h | ⟨h1, h2⟩ | ⟨h1, h2, h3⟩ | ⟨h1, h2, h3, h4⟩⟩ | ⟨ho, h1, h2, h3, h4⟩
      iterate 4
        · have HS : Hid (skipAt s (k + 1) = N) := by
            show skipAt s (k + 1) = N
            rw [← HK.out]; unfold skipAt; rw [hd, skip_white ho]; omega
          clear hd hst ho
          go_wp2_with fail
          go_roundg g
          case measure => omega
          case rel => exact ⟨k + 1, by omega, by go_num, HS, rfl⟩
      · rcases dash_cases s k hlt with ⟨hp, d1, hk1, d2⟩ | ⟨hp, hcase⟩
        · have HT : Hid (k + skipL true (s.data.toList.drop k) = N) := by
            show _ = N
            rw [skip_true_start hp]; exact HK.out
          have hk1' : (k : Int) + 1 < s.size := by omega
          have H10 : Hid (((s[k].toNat : Int) == 10) = false) := h2
          clear hd hst ho hp
          go_wp2_with fail
          go_loopg [1] (g + 1) (fun g2 i wy => ∃ k2 : Nat, k2 + g2 = s.size ∧ k ≤ k2 ∧ i = .int .i64 k2 ∧ Hid (k2 + skipL true (s.data.toList.drop k2) = N) ∧ w = wy)
          case atStart => exact ⟨k, by omega, Nat.le_refl _, rfl, HT, rfl⟩
          case round =>
            clear HK HT h1 h2 h3 h4 d1 d2
            obtain ⟨k2, hkg2, hkk, rfl, HT, rfl⟩ := hrel
            cases gk with
            | zero =>
              obtain rfl : k2 = s.size := by omega
              have HS : Hid (skipAt s s.size = N) := by
                show _ = N
                rw [skipAt_end, ← HT.out, List.drop_of_length_le (by rw [← Lib.size_eq]; exact Nat.le_refl _)]; rfl
              go_wp2_with fail
              go_roundg 0
              case measure => omega
              case rel => exact ⟨s.size, by omega, by go_num, HS, rfl⟩
            | succ g2 =>
              have hlt2 : k2 < s.size := by omega
              have hlt2' : (k2 : Int) < s.size := by omega
              have hd2 := drop_cons s k2 hlt2
              by_cases hten : s[k2].toNat = 10
              · have HS : Hid (skipAt s k2 = N) := by
                  show _ = N
                  rw [← HT.out]; unfold skipAt; rw [hd2, skip_true_ten hten]
                have hne : ((s[k2].toNat : Int) != 10) = false := by rw [hten]; rfl
                have hkk2 : k < k2 := by
                  rcases Nat.lt_or_ge k k2 with h | h
                  · exact h
                  · obtain rfl : k = k2 := by omega
                    have := H10.out
                    rw [hten] at this; cases this
                clear hd2 hten
                go_wp2_with fail
                go_roundg (g2 + 1)
                case measure => omega
                case rel => exact ⟨k2, by omega, by go_num, HS, rfl⟩
              · have HS : Hid (k2 + 1 + skipL true (s.data.toList.drop (k2 + 1)) = N) := by
                  show _ = N
                  rw [← HT.out, hd2, skip_true_other hten]; omega
                have hne : ((s[k2].toNat : Int) != 10) = true := by rw [bne_iff_ne]; omega
                clear hd2 hten
                go_wp2_with fail
                go_roundg g2
                case measure => omega
                case rel => exact ⟨k2 + 1, by omega, by omega, by go_num, HS, rfl⟩
        · have HS : Hid (k = N) := by
            show k = N
            rw [← HK.out]; unfold skipAt; rw [hd] at hp ⊢; rw [hst ho hp]; omega
          rcases hcase with d1 | ⟨d1, hk1⟩ | ⟨d1, hk1, d2⟩
          · clear hd hst hp ho
            go_wp2_with fail
            try rw [Exit.noGoto_ret]
            go_ret
            exact ⟨by rw [← HS.out]; rfl, rfl⟩
          · have hk1' : ¬ (k : Int) + 1 < s.size := by omega
            clear hd hst hp ho
            go_wp2_with fail
            try rw [Exit.noGoto_ret]
            go_ret
            exact ⟨by rw [← HS.out]; rfl, rfl⟩
          · have hk1' : (k : Int) + 1 < s.size := by omega
            clear hd hst hp ho
            go_wp2_with fail
            try rw [Exit.noGoto_ret]
            go_ret
            exact ⟨by rw [← HS.out]; rfl, rfl⟩
end Go.Proofs.Ytbcgaficnlfilaa
