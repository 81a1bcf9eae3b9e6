/- The contracts of the kinds of bytes of package names and of the document. -/
import Derived.Test.YtobmpipifdielaaIntsRead2
namespace Go.Proofs.Ytobmpipifdielaa
open Go.RowKit

def smallB (c : UInt8) : Bool := decide (97 ≤ c.toNat ∧ c.toNat ≤ 122) || decide (c.toNat = 95)
def greatB (c : UInt8) : Bool := decide (65 ≤ c.toNat ∧ c.toNat ≤ 90)
def onB (c : UInt8) : Bool := smallB c || greatB c || isDig c || decide (c.toNat = 39)
def OneBool (b : Bool) (w : World) (e : Ending) (w' : World) : Prop := e = .returned (.bool b) ∧ w = w'

theorem small_cases (c : UInt8) : (smallB c = true ∧ (((97 : Int) ≤ c.toNat ∧ ¬ (122 : Int) < c.toNat ∧ (c.toNat : Int) ≤ 122) ∨ (¬ (97 : Int) ≤ c.toNat ∧ ((c.toNat : Int) == 95) = true))) ∨
    (smallB c = false ∧ ((c.toNat : Int) == 95) = false ∧ (¬ (97 : Int) ≤ c.toNat ∨ ((97 : Int) ≤ c.toNat ∧ ¬ (c.toNat : Int) ≤ 122))) := by
  unfold smallB
  by_cases h1 : 97 ≤ c.toNat ∧ c.toNat ≤ 122
  · left; refine ⟨by simp [h1], .inl ⟨by omega, by omega, by omega⟩⟩
  · by_cases h2 : c.toNat = 95
    · left; refine ⟨by simp [h2], .inr ⟨by omega, by rw [h2]; rfl⟩⟩
    · right; refine ⟨by simp [h1, h2], by rw [beq_eq_false_iff_ne]; omega, by omega⟩

theorem small_any (c : UInt8) (w : World) : Calls Try.prog 73 #[.int .u8 (c.toNat : Int)] w (OneBool (smallB c) w) := by
  have hc := c.toNat_lt
  rcases small_cases c with ⟨e, h | h⟩ | ⟨e, h0, h | h⟩ <;> rw [e] <;> clear e <;> generalize c.toNat = x at * <;>
  · go_enter Try.func73, Try.ntmps73
    go_wp2
    go_ret
    exact ⟨rfl, rfl⟩
theorem refsmall_any (c : UInt8) (w : World) : Calls Try.prog 65 #[.int .u8 (c.toNat : Int)] w (OneBool (smallB c) w) := by
  have hc := c.toNat_lt
  rcases small_cases c with ⟨e, h | h⟩ | ⟨e, h0, h | h⟩ <;> rw [e] <;> clear e <;> generalize c.toNat = x at * <;>
  · go_enter Try.func65, Try.ntmps65
    go_wp2
    go_ret
    exact ⟨rfl, rfl⟩

theorem great_cases (c : UInt8) : (greatB c = true ∧ (65 : Int) ≤ c.toNat ∧ (c.toNat : Int) ≤ 90) ∨ (greatB c = false ∧ (¬ (65 : Int) ≤ c.toNat ∨ ((65 : Int) ≤ c.toNat ∧ ¬ (c.toNat : Int) ≤ 90))) := by
  unfold greatB
  by_cases h1 : 65 ≤ c.toNat ∧ c.toNat ≤ 90
  · left; exact ⟨by simp [h1], by omega, by omega⟩
  · right; exact ⟨by simp [h1], by omega⟩
theorem great_any (c : UInt8) (w : World) : Calls Try.prog 63 #[.int .u8 (c.toNat : Int)] w (OneBool (greatB c) w) := by
  have hc := c.toNat_lt
  rcases great_cases c with ⟨e, h⟩ | ⟨e, h | h⟩ <;> rw [e] <;> clear e <;> generalize c.toNat = x at * <;>
  · go_enter Try.func63, Try.ntmps63
    go_wp2
    go_ret
    exact ⟨rfl, rfl⟩
theorem refgreat_any (c : UInt8) (w : World) : Calls Try.prog 68 #[.int .u8 (c.toNat : Int)] w (OneBool (greatB c) w) := by
  have hc := c.toNat_lt
  rcases great_cases c with ⟨e, h⟩ | ⟨e, h | h⟩ <;> rw [e] <;> clear e <;> generalize c.toNat = x at * <;>
  · go_enter Try.func68, Try.ntmps68
    go_wp2
    go_ret
    exact ⟨rfl, rfl⟩
theorem digit_cases (c : UInt8) : (isDig c = true ∧ (48 : Int) ≤ c.toNat ∧ (c.toNat : Int) ≤ 57) ∨ (isDig c = false ∧ (¬ (48 : Int) ≤ c.toNat ∨ ((48 : Int) ≤ c.toNat ∧ ¬ (c.toNat : Int) ≤ 57))) := by
  cases h : isDig c with
  | true => left; have := dig_of h; exact ⟨rfl, this.1, this.2⟩
  | false => right; have := dig_not h; exact ⟨rfl, by omega⟩
theorem refdigit_any (c : UInt8) (w : World) : Calls Try.prog 77 #[.int .u8 (c.toNat : Int)] w (OneBool (isDig c) w) := by
  have hc := c.toNat_lt
  rcases digit_cases c with ⟨e, h⟩ | ⟨e, h | h⟩ <;> rw [e] <;> clear e <;> generalize c.toNat = x at * <;>
  · go_enter Try.func77, Try.ntmps77
    go_wp2
    go_ret
    exact ⟨rfl, rfl⟩

theorem quote_test (c : UInt8) : ((c.toNat : Int) == 39) = decide (c.toNat = 39) := by
  rw [Bool.eq_iff_iff]; simp; omega
theorem refon_any (c : UInt8) (w : World) : Calls Try.prog 75 #[.int .u8 (c.toNat : Int)] w (OneBool (onB c) w) := by
  have H1 := fun w => refsmall_any c w
  have H2 := fun w => refgreat_any c w
  have H3 := fun w => refdigit_any c w
  have hq := quote_test c
  unfold onB
  generalize smallB c = s at *
  generalize greatB c = g at *
  generalize isDig c = d at *
  generalize decide (c.toNat = 39) = q at *
  cases s <;> cases g <;> cases d <;> cases q <;>
  · go_enter Try.func75, Try.ntmps75
    go_wp2_with (first | (go_at_call 65; refine (H1 _).mono ?_; rintro e w' ⟨rfl, rfl⟩) | (go_at_call 68; refine (H2 _).mono ?_; rintro e w' ⟨rfl, rfl⟩) | (go_at_call 77; refine (H3 _).mono ?_; rintro e w' ⟨rfl, rfl⟩))
    go_ret
    exact ⟨rfl, rfl⟩

/-- may all bytes go on? -/
def allOnB (l : List UInt8) : Bool := l.all onB
def restOnB (l : List UInt8) : Bool := (l.drop 1).all onB

theorem any_take {l : List UInt8} {k : Nat} {p : UInt8 → Bool} (h : k < l.length) (ha : (l.take k).all p = true) (hc : p l[k] = true) : (l.take (k + 1)).all p = true := by
  rw [take_snoc l k h, List.all_append, ha]; simp [hc]
theorem not_allp {l : List UInt8} {k : Nat} {p : UInt8 → Bool} (h : k < l.length) (hc : p l[k] = false) : l.all p = false := by
  rw [List.all_eq_false]; exact ⟨_, List.getElem_mem h, by simp [hc]⟩

theorem on_cases (c : UInt8) : (onB c = true ∧ (smallB c = true ∨ (smallB c = false ∧ greatB c = true) ∨ (smallB c = false ∧ greatB c = false ∧ ¬ (c.toNat : Int) < 48 ∧ ¬ (57 : Int) < c.toNat) ∨
      (smallB c = false ∧ greatB c = false ∧ ((c.toNat : Int) < 48 ∧ ((c.toNat : Int) != 39) = false)))) ∨
    (onB c = false ∧ smallB c = false ∧ greatB c = false ∧ ((c.toNat : Int) != 39) = true ∧ ((c.toNat : Int) < 48 ∨ (¬ (c.toNat : Int) < 48 ∧ (57 : Int) < c.toNat))) := by
  unfold onB
  cases hs : smallB c with
  | true => left; exact ⟨by simp, .inl rfl⟩
  | false =>
    cases hg : greatB c with
    | true => left; exact ⟨by simp, .inr (.inl ⟨rfl, rfl⟩)⟩
    | false =>
      rcases digit_cases c with ⟨e, h⟩ | ⟨e, h⟩
      · left; exact ⟨by simp [e], .inr (.inr (.inl ⟨rfl, rfl, by omega, by omega⟩))⟩
      · by_cases hq : c.toNat = 39
        · left; exact ⟨by simp [hq], .inr (.inr (.inr ⟨rfl, rfl, by omega, by rw [hq]; rfl⟩))⟩
        · right; exact ⟨by simp [e, hq], rfl, rfl, by rw [bne_iff_ne]; omega, by omega⟩

set_option maxHeartbeats 1000000 in
theorem allgoon_any (s : ByteArray) (w : World) (hs : s.size ≤ maxLen) : Calls Try.prog 64 #[.string s] w (OneBool (allOnB s.data.toList) w) := by
  unfold maxLen at hs
  go_enter Try.func64, Try.ntmps64
  go_wp2_with fail
  go_loop [7] (fun i => ∃ k : Nat, k ≤ s.size ∧ i = .int .i64 k ∧ (s.data.toList.take k).all onB = true) (fun i => s.size - (intOf i).toNat)
  case atStart => exact ⟨0, Nat.zero_le _, rfl, rfl⟩
  case round =>
    obtain ⟨k, hk, rfl, hall⟩ := hrel
    have HA : Hid ((s.data.toList.take k).all onB = true) := hall
    clear hall
    by_cases hlt : k < s.size
    · have hkl : k < s.data.toList.length := by rw [← Lib.size_eq]; exact hlt
      have hg := getB s k hlt
      have H1 := fun w => small_any s[k] w
      have H2 := fun w => great_any s[k] w
      rcases on_cases s[k] with ⟨ho, h | ⟨h1, h2⟩ | ⟨h1, h2, h3, h4⟩ | ⟨h1, h2, h3, h4⟩⟩ | ⟨ho, h1, h2, h3, h4 | ⟨h4, h5⟩⟩
      · have HN : Hid ((s.data.toList.take (k + 1)).all onB = true) := any_take hkl HA.out (by rw [hg]; exact ho)
        rw [h] at H1
        clear hg ho h H2
        go_wp2_with (first | (go_at_call 73; refine (H1 _).mono ?_; rintro e w' ⟨rfl, rfl⟩) )
        go_round
        case rel => exact ⟨k + 1, by omega, by go_num, HN.out⟩
        case measure => simp [intOf]; omega
      · have HN : Hid ((s.data.toList.take (k + 1)).all onB = true) := any_take hkl HA.out (by rw [hg]; exact ho)
        rw [h1] at H1
        rw [h2] at H2
        clear hg ho h1 h2
        go_wp2_with (first | (go_at_call 73; refine (H1 _).mono ?_; rintro e w' ⟨rfl, rfl⟩) | (go_at_call 63; refine (H2 _).mono ?_; rintro e w' ⟨rfl, rfl⟩))
        go_round
        case rel => exact ⟨k + 1, by omega, by go_num, HN.out⟩
        case measure => simp [intOf]; omega
      · have HN : Hid ((s.data.toList.take (k + 1)).all onB = true) := any_take hkl HA.out (by rw [hg]; exact ho)
        rw [h1] at H1
        rw [h2] at H2
        clear hg ho h1 h2
        go_wp2_with (first | (go_at_call 73; refine (H1 _).mono ?_; rintro e w' ⟨rfl, rfl⟩) | (go_at_call 63; refine (H2 _).mono ?_; rintro e w' ⟨rfl, rfl⟩))
        go_round
        case rel => exact ⟨k + 1, by omega, by go_num, HN.out⟩
        case measure => simp [intOf]; omega
      · have HN : Hid ((s.data.toList.take (k + 1)).all onB = true) := any_take hkl HA.out (by rw [hg]; exact ho)
        rw [h1] at H1
        rw [h2] at H2
        clear hg ho h1 h2
        go_wp2_with (first | (go_at_call 73; refine (H1 _).mono ?_; rintro e w' ⟨rfl, rfl⟩) | (go_at_call 63; refine (H2 _).mono ?_; rintro e w' ⟨rfl, rfl⟩))
        go_round
        case rel => exact ⟨k + 1, by omega, by go_num, HN.out⟩
        case measure => simp [intOf]; omega
      all_goals
        have HN : Hid (allOnB s.data.toList = false) := not_allp hkl (by rw [hg]; exact ho)
        rw [h1] at H1
        rw [h2] at H2
        clear hg ho h1 h2
        go_wp2_with (first | (go_at_call 73; refine (H1 _).mono ?_; rintro e w' ⟨rfl, rfl⟩) | (go_at_call 63; refine (H2 _).mono ?_; rintro e w' ⟨rfl, rfl⟩))
        go_ret
        exact ⟨by rw [HN.out]; rfl, rfl⟩
    · have hks : k = s.size := by omega
      have hall : s.data.toList.all onB = true := by
        have := HA.out; rwa [List.take_of_length_le (by rw [← Lib.size_eq]; omega)] at this
      subst hks
      have HN : Hid (allOnB s.data.toList = true) := hall
      clear hall HA
      go_wp2_with fail
      go_ret
      exact ⟨by rw [HN.out]; rfl, rfl⟩

set_option maxHeartbeats 1000000 in
theorem refonall_any (s : ByteArray) (w : World) (hs : s.size ≤ maxLen) : Calls Try.prog 66 #[.string s] w (OneBool (restOnB s.data.toList) w) := by
  unfold maxLen at hs
  go_enter Try.func66, Try.ntmps66
  go_wp2_with fail
  go_loop [3] (fun i => ∃ k : Nat, (k ≤ s.size ∨ k = 1) ∧ 1 ≤ k ∧ i = .int .i64 k ∧ ((s.data.toList.take k).drop 1).all onB = true) (fun i => s.size - (intOf i).toNat)
  case atStart => exact ⟨1, .inr rfl, Nat.le_refl _, rfl, by cases s.data.toList <;> simp⟩
  case round =>
    obtain ⟨k, hk, hk1, rfl, hall⟩ := hrel
    have HA : Hid (((s.data.toList.take k).drop 1).all onB = true) := hall
    clear hall
    by_cases hlt : k < s.size
    · have hkl : k < s.data.toList.length := by rw [← Lib.size_eq]; exact hlt
      have hg := getB s k hlt
      have H1 := fun w => refon_any s[k] w
      cases ho : onB s[k] with
      | true =>
        have HN : Hid (((s.data.toList.take (k + 1)).drop 1).all onB = true) := by
          show _ = true
          rw [take_snoc _ k hkl, List.drop_append_of_le_length (by rw [List.length_take]; omega), List.all_append, HA.out]; simp [hg, ho]
        rw [ho] at H1
        clear hg ho
        go_wp2_with (go_at_call 75; refine (H1 _).mono ?_; rintro e w' ⟨rfl, rfl⟩)
        go_round
        case rel => exact ⟨k + 1, by omega, by omega, by go_num, HN.out⟩
        case measure => simp [intOf]; omega
      | false =>
        have HN : Hid (restOnB s.data.toList = false) := by
          show List.all _ _ = false
          rw [List.all_eq_false]
          refine ⟨s.data.toList[k], ?_, by rw [hg, ho]; simp⟩
          rw [List.mem_drop_iff_getElem]
          exact ⟨k - 1, by omega, by congr 1; omega⟩
        rw [ho] at H1
        clear hg ho
        go_wp2_with (go_at_call 75; refine (H1 _).mono ?_; rintro e w' ⟨rfl, rfl⟩)
        go_ret
        exact ⟨by rw [HN.out]; rfl, rfl⟩
    · have HN : Hid (restOnB s.data.toList = true) := by
        have := HA.out
        show List.all _ _ = true
        rwa [List.take_of_length_le (by rw [← Lib.size_eq]; omega)] at this
      clear HA
      go_wp2_with fail
      go_ret
      exact ⟨by rw [HN.out]; rfl, rfl⟩
end Go.Proofs.Ytobmpipifdielaa
