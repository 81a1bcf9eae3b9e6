/- The contract of lexer.skip. -/
import Derived.Test.YtbcgaficnlfilaaLexPlain
import Derived.Test.YtbcgaficnlfilaaShelf
namespace Go.Proofs.Ytbcgaficnlfilaa
open Go.RowKit

theorem ten_iff (c : UInt8) : (c == 10) = decide (c.toNat = 10) := by
  rw [Bool.eq_iff_iff, beq_iff_eq, decide_eq_true_iff]
  exact ⟨fun h => by rw [h]; rfl, fun h => UInt8.toNat_inj.1 h⟩
theorem skip_in (l : List UInt8) : (Lib.indexByte l 10 < 0 → skipL true l = l.length) ∧ (0 ≤ Lib.indexByte l 10 → skipL true l = (Lib.indexByte l 10).toNat + skipL false (l.drop (Lib.indexByte l 10).toNat) ∧ (Lib.indexByte l 10).toNat < l.length) := by
  induction l with
  | nil => exact ⟨fun _ => rfl, fun h => by simp [Lib.indexByte] at h⟩
  | cons c r ih =>
    have hge := Lib.indexByte_ge r 10
    unfold Lib.indexByte
    rw [ten_iff]
    by_cases hc : c.toNat = 10
    · simp only [hc, decide_true, if_true]
      refine ⟨fun h => absurd h (by decide), fun _ => ⟨?_, by simp⟩⟩
      show skipL true (c :: r) = 0 + skipL false (c :: r)
      rw [skipL, skipL, if_pos (by unfold whiteB; simp [hc])]
      simp [hc]
    · simp only [hc, decide_false, if_false, Bool.false_eq_true]
      by_cases hi : Lib.indexByte r 10 = -1
      · simp only [hi, beq_self_eq_true, if_true]
        refine ⟨fun _ => ?_, fun h => absurd h (by decide)⟩
        rw [skipL]
        simp only [hc, decide_false, Bool.not_false]
        rw [ih.1 (by omega), List.length_cons]; omega
      · have hb : (Lib.indexByte r 10 == -1) = false := by simp [hi]
        simp only [hb, if_false, Bool.false_eq_true]
        refine ⟨fun h => by omega, fun _ => ?_⟩
        obtain ⟨h1, h2⟩ := ih.2 (by omega)
        rw [skipL]
        simp only [hc, decide_false, Bool.not_false]
        have e : (Lib.indexByte r 10 + 1).toNat = (Lib.indexByte r 10).toNat + 1 := by omega
        rw [e, List.drop_succ_cons, h1, List.length_cons]
        omega
theorem skip_remark {l : List UInt8} (h : Lib.hasPrefix l [45, 45] = true) :
    (Lib.indexByte l 10 < 0 → skipL false l = l.length) ∧ (0 ≤ Lib.indexByte l 10 → skipL false l = (Lib.indexByte l 10).toNat + skipL false (l.drop (Lib.indexByte l 10).toNat) ∧ (Lib.indexByte l 10).toNat < l.length ∧ 0 < Lib.indexByte l 10) := by
  unfold Lib.hasPrefix at h
  match l, h with
  | [_], h => simp [List.isPrefixOf] at h
  | c :: d :: r, h =>
    simp at h
    obtain ⟨rfl, rfl⟩ := h
    have hi := skip_in (45 :: r)
    have hge := Lib.indexByte_ge (45 :: r) 10
    have hs : skipL false (45 :: 45 :: r) = 1 + skipL true (45 :: r) := by
      conv => lhs; rw [skipL, if_neg (by decide), if_pos (by simp)]
    have hx : Lib.indexByte (45 :: 45 :: r) 10 = if Lib.indexByte (45 :: r) 10 == -1 then -1 else Lib.indexByte (45 :: r) 10 + 1 := by
      rw [Lib.indexByte, if_neg (by decide)]
    rw [hs, hx]
    generalize Lib.indexByte (45 :: r) 10 = i at *
    by_cases hm : i = -1
    · simp only [hm, beq_self_eq_true, if_true]
      refine ⟨fun _ => ?_, fun h => absurd h (by decide)⟩
      rw [hi.1 (by omega)]; simp only [List.length_cons]; omega
    · have hb : (i == -1) = false := by simp [hm]
      simp only [hb, if_false, Bool.false_eq_true]
      refine ⟨fun h => by omega, fun _ => ?_⟩
      obtain ⟨h1, h2⟩ := hi.2 (by omega)
      have e : (i + 1).toNat = i.toNat + 1 := by omega
      rw [e, List.drop_succ_cons, h1]
      simp only [List.length_cons] at h2 ⊢
      exact ⟨by omega, by omega, by omega⟩
theorem skip_stop {c : UInt8} {r : List UInt8} (hw : whiteB c = false) (h : Lib.hasPrefix (c :: r) [45, 45] = false) : skipL false (c :: r) = 0 := by
  rw [skipL, if_neg (by rw [hw]; decide), if_neg]
  rintro ⟨h1, h2⟩
  cases r with
  | nil => cases h2
  | cons d q =>
    simp at h2
    unfold Lib.hasPrefix at h
    have e1 : c = 45 := UInt8.toNat_inj.1 h1
    have e2 : d = 45 := UInt8.toNat_inj.1 h2
    subst e1; subst e2
    simp at h
theorem skip_white {c : UInt8} {r : List UInt8} (hw : whiteB c = true) : skipL false (c :: r) = 1 + skipL false r := by rw [skipL, if_pos hw]
theorem white_cases (c : UInt8) : (whiteB c = true ∧ (((c.toNat : Int) == 9) = true ∨ (((c.toNat : Int) == 9) = false ∧ ((c.toNat : Int) == 10) = true) ∨ (((c.toNat : Int) == 9) = false ∧ ((c.toNat : Int) == 10) = false ∧ ((c.toNat : Int) == 13) = true) ∨
    (((c.toNat : Int) == 9) = false ∧ ((c.toNat : Int) == 10) = false ∧ ((c.toNat : Int) == 13) = false ∧ ((c.toNat : Int) == 32) = true))) ∨
    (whiteB c = false ∧ ((c.toNat : Int) == 9) = false ∧ ((c.toNat : Int) == 10) = false ∧ ((c.toNat : Int) == 13) = false ∧ ((c.toNat : Int) == 32) = false) := by
  have e : ∀ k : Nat, ((c.toNat : Int) == (k : Int)) = decide (c.toNat = k) := fun k => by rw [Bool.eq_iff_iff]; simp; omega
  have e9 : ((c.toNat : Int) == 9) = decide (c.toNat = 9) := e 9
  have e10 : ((c.toNat : Int) == 10) = decide (c.toNat = 10) := e 10
  have e13 : ((c.toNat : Int) == 13) = decide (c.toNat = 13) := e 13
  have e32 : ((c.toNat : Int) == 32) = decide (c.toNat = 32) := e 32
  rw [e9, e10, e13, e32]
  unfold whiteB
  cases decide (c.toNat = 9) <;> cases decide (c.toNat = 10) <;> cases decide (c.toNat = 13) <;> cases decide (c.toNat = 32) <;> simp

theorem drop_list (s : ByteArray) (k : Nat) : (s.extract k s.size).data.toList = s.data.toList.drop k := by
  rw [ByteArray.data_extract, Array.toList_extract, List.extract_eq_take_drop]
  apply List.take_of_length_le
  rw [List.length_drop, Lib.size_eq]
  exact Nat.le_refl _
theorem drop_cons (s : ByteArray) (k : Nat) (h : k < s.size) : s.data.toList.drop k = s[k] :: s.data.toList.drop (k + 1) := by
  rw [← getB s k h]; exact List.drop_eq_getElem_cons (by rw [← Lib.size_eq]; exact h)

def skipAt (s : ByteArray) (k : Nat) : Nat := k + skipL false (s.data.toList.drop k)
theorem skipAt_le (s : ByteArray) (k : Nat) (h : k ≤ s.size) : skipAt s k ≤ s.size := by
  unfold skipAt
  have := skipL_le (s.data.toList.drop k) false
  rw [List.length_drop, ← Lib.size_eq] at this
  omega
theorem skipAt_end (s : ByteArray) : skipAt s s.size = s.size := by
  unfold skipAt
  rw [List.drop_of_length_le (by rw [← Lib.size_eq]; exact Nat.le_refl _)]; rfl

set_option maxHeartbeats 2000000 in
theorem skip_any (s : ByteArray) (k0 : Nat) (w : World) (hs : s.size ≤ maxLen) (hk0 : k0 ≤ s.size) : Calls Try.prog 21 #[.string s, .int .i64 k0] w (One (skipAt s k0 : Nat) w) := by
  unfold maxLen at hs
  obtain ⟨N, hN⟩ : ∃ N, skipAt s k0 = N := ⟨_, rfl⟩
  rw [hN]
  have HN : Hid (skipAt s k0 = N) := hN
  clear hN
  have HP := fun (k : Nat) w => Any.strings_HasPrefix Try.lays99 (s.extract k s.size) ⟨#[45, 45]⟩ w
  have HI := fun (k : Nat) w => Any.strings_IndexByte Try.lays137 (s.extract k s.size) 10 w
  go_enter Try.func21, Try.ntmps21
  go_wp2_with fail
  go_loop [1] (fun i => ∃ k : Nat, k ≤ s.size ∧ i = .int .i64 k ∧ Hid (skipAt s k = N)) (fun i => s.size - (intOf i).toNat)
  case atStart => exact ⟨k0, hk0, rfl, HN⟩
  case round =>
    obtain ⟨k, hk, rfl, HK⟩ := hrel
    clear HN
    by_cases hlt : k < s.size
    · have hd := drop_cons s k hlt
      have HP := HP k
      have HI := HI k
      rw [drop_list] at HP HI
      have hst := @skip_stop s[k] (s.data.toList.drop (k + 1))
      have hrm := @skip_remark (s.data.toList.drop k)
      have hlen : (s.data.toList.drop k).length = s.size - k := by rw [List.length_drop, ← Lib.size_eq]
      rcases white_cases s[k] with ⟨ho, h | ⟨h1, h2⟩ | ⟨h1, h2, h3⟩ | ⟨h1, h2, h3, h4⟩⟩ | ⟨ho, h1, h2, h3, h4⟩
      iterate 4
        · have HS : Hid (skipAt s (k + 1) = N) := by
            show skipAt s (k + 1) = N
            rw [← HK.out]; unfold skipAt; rw [hd, skip_white ho]; omega
          clear hd HP HI hst hrm ho hlen
          go_wp2_with fail
          go_round
          case rel => exact ⟨k + 1, by omega, by go_num, HS⟩
          case measure => simp [intOf]; omega
      · cases hp : Lib.hasPrefix (s.data.toList.drop k) (⟨#[45, 45]⟩ : ByteArray).data.toList with
        | false =>
          have HS : Hid (k = N) := by
            show k = N
            rw [← HK.out]; unfold skipAt; rw [hd] at hp ⊢; rw [hst ho hp]; omega
          rw [hp] at HP
          clear hd HI hst hrm hp hlen ho
          go_wp2_with fail
          refine (HP _).mono ?_; rintro e w' ⟨rfl, rfl⟩
          go_wp2_with fail
          go_ret
          exact ⟨by rw [← HS.out]; rfl, rfl⟩
        | true =>
          obtain ⟨r1, r2⟩ := hrm hp
          rw [hlen] at r1 r2
          have hge := Lib.indexByte_ge (s.data.toList.drop k) 10
          rw [hp] at HP
          have HA : Hid (∀ i : Nat, skipL false (s.data.toList.drop k) = i + skipL false ((s.data.toList.drop k).drop i) → skipAt s (k + i) = N) := by
            intro i hi
            rw [← HK.out]; unfold skipAt
            rw [List.drop_drop] at hi
            omega
          have HZ : Hid (skipL false (s.data.toList.drop k) = s.size - k → s.size = N) := by
            intro hi
            rw [← HK.out]; unfold skipAt; omega
          change ∀ w, Calls _ _ _ w (fun e w' => e = .returned (.int .i64 (Lib.indexByte (s.data.toList.drop k) 10)) ∧ w' = w) at HI
          generalize Lib.indexByte (s.data.toList.drop k) 10 = i at *
          by_cases hi : i < 0
          · have HS : Hid (s.size = N) := HZ.out (r1 hi)
            clear hd hst hrm hp hlen ho r1 r2 HA HZ
            go_wp2_with fail
            refine (HP _).mono ?_; rintro e w' ⟨rfl, rfl⟩
            go_wp2_with fail
            refine (HI _).mono ?_; rintro e w' ⟨rfl, rfl⟩
            go_wp2_with fail
            go_ret
            exact ⟨by rw [← HS.out]; rfl, rfl⟩
          · obtain ⟨r3, r4, r5⟩ := r2 (by omega)
            have HS : Hid (skipAt s (k + i.toNat) = N) := HA.out _ r3
            obtain ⟨j, rfl⟩ : ∃ j : Nat, i = (j : Int) := ⟨i.toNat, by omega⟩
            have r4' : j < s.size - k := by simpa using r4
            have r5' : 0 < j := by omega
            simp only [Int.toNat_natCast] at HS
            clear hd hst hrm hp hlen ho r1 r2 r3 r4 r5 HA HZ hge
            go_wp2_with fail
            refine (HP _).mono ?_; rintro e w' ⟨rfl, rfl⟩
            go_wp2_with fail
            refine (HI _).mono ?_; rintro e w' ⟨rfl, rfl⟩
            go_wp2_with fail
            go_round
            case rel => exact ⟨k + j, by omega, by go_num, HS⟩
            case measure => simp [intOf]; omega
    · obtain rfl : k = s.size := by omega
      have HS : Hid (s.size = N) := by show _ = N; rw [← HK.out, skipAt_end]
      go_wp2_with fail
      go_ret
      exact ⟨by rw [← HS.out]; rfl, rfl⟩
end Go.Proofs.Ytbcgaficnlfilaa
