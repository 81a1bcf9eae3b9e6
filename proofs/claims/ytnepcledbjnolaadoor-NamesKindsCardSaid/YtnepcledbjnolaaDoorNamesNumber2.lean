/- The contract of the document's own Number. -/
import Derived.Test.YtnepcledbjnolaaDoorNamesNumber
namespace Go.Proofs.YtnepcledbjnolaaDoor
open Go.RowKit

set_option maxHeartbeats 1000000 in
theorem refnumber_any (s : ByteArray) (hs : s.size ≤ 281474976710656) (w : World) : Calls Tryd.prog 32 #[.string s] w (fun e w' => e = .returned (.int .i64 (numOf s.data.toList)) ∧ Below w.heap.size w w') := by
  rcases empty_or s with rfl | ⟨h0, r, hr, hN⟩
  · rw [show (⟨#[]⟩ : ByteArray).data.toList = [] from rfl, numOf_empty]
    go_enter Tryd.func32, Tryd.ntmps32
    go_wp2
    go_ret
    exact ⟨rfl, Below.refl _ _⟩
  · have hb := (s[0]).toNat_lt
    by_cases hc : s[0].toNat < 97
    · have HR : Hid (numOf s.data.toList = -1) := by show _ = _; rw [hr]; exact numOf_head (.inl hc)
      have hc' : (s[0].toNat : Int) < 97 := by omega
      clear hr
      go_enter Tryd.func32, Tryd.ntmps32
      go_wp2
      go_ret
      exact ⟨by rw [HR.out]; rfl, Below.refl _ _⟩
    · by_cases hc2 : 122 < s[0].toNat
      · have HR : Hid (numOf s.data.toList = -1) := by show _ = _; rw [hr]; exact numOf_head (.inr hc2)
        have hc' : ¬ (s[0].toNat : Int) < 97 := by omega
        have hc2' : (122 : Int) < (s[0].toNat : Int) := by omega
        clear hr
        go_enter Tryd.func32, Tryd.ntmps32
        go_wp2
        go_ret
        exact ⟨by rw [HR.out]; rfl, Below.refl _ _⟩
      · have hc' : ¬ (s[0].toNat : Int) < 97 := by omega
        have hc2' : ¬ (122 : Int) < (s[0].toNat : Int) := by omega
        have hsz : s.size = r.length + 1 := by rw [Lib.size_eq, hr]; rfl
        by_cases h1 : r = []
        · have hl : ¬ (1 : Int) < s.size := by rw [hsz, h1]; decide
          have HS : Hid (s.data.toList = [s[0]]) := by show _ = _; rw [hr, h1]
          have hc3 : (97 : Int) ≤ s[0].toNat := by omega
          have hc4 : (s[0].toNat : Int) ≤ 122 := by omega
          obtain ⟨x, hx⟩ : ∃ x : Int, (s[0].toNat : Int) - 97 = x := ⟨_, rfl⟩
          have HR : Hid (numOf s.data.toList = x) := by show _ = _; rw [HS.out, ← hx]; exact numOf_one (by omega) (by omega)
          have hu : letterOf x = s := byte_same (by rw [HS.out, ← hx]; exact letter_of_byte (by omega) (by omega))
          have hx1 : 0 ≤ x := by omega
          have hx2 : x ≤ 25 := by omega
          have HL := fun w' => refletter_any x (by unfold IsInt; omega) w'
          rw [hu] at HL
          have hne : (s.toList == s.toList) = true := by simp
          clear hr hsz h1 hc hc2 hu
          go_enter Tryd.func32, Tryd.ntmps32
          go_wp2_with fail
          refine (HL _).mono ?_; rintro e w2 ⟨rfl, hB3⟩
          go_wp2_with fail
          go_ret
          exact ⟨by rw [HR.out]; rfl, hB3⟩
        · have hl : ((s.size : Int) == 1) = false := by
            rw [beq_eq_false_iff_ne]; have := List.length_pos_iff.2 h1; omega
          have HT : Hid ((s.extract 1 s.size).data.toList = r) := tail_list hr
          have hts : (s.extract 1 s.size).size ≤ 281474976710656 := by rw [Lib.size_eq, HT.out]; omega
          have HR : Hid (s.data.toList = s[0] :: r) := hr
          have H1 : Hid (¬ r = []) := h1
          have hc3 : (97 : Int) ≤ s[0].toNat := by omega
          have hc4 : (s[0].toNat : Int) ≤ 122 := by omega
          clear hr hsz h1 hc hc2
          have HC := fun w => refread_any (s.extract 1 s.size) w (by unfold maxLen; omega)
          rw [HT.out] at HC
          have hln : ¬ (s.size : Int) = 1 := by rw [beq_eq_false_iff_ne] at hl; exact hl
          have hl1 : (1 : Int) < s.size := by have := h0; omega
          have HR1 : Hid (∀ n : Int, 0 ≤ n → n ≤ 4611686018427387904 → letterL n = s.data.toList → readE r = 0 ∧ readN r = n / 26 ∧ n = (s[0].toNat : Int) - 97 + n / 26 * 26) := fun n a b h => by
            obtain ⟨x1, x2, x3, x4, x5, x6, x7⟩ := letter_split a b (h.trans HR.out) H1.out
            exact ⟨x6, x7, x2⟩
          have HR2 : Hid (readE r = 0 → 0 ≤ readN r) := fun h => by
            unfold readN
            split
            · omega
            · split <;> omega
          have HR3 : Hid (readN r ≤ 9223372036854775807) := by
            show _ ≤ _
            unfold readN
            split
            · omega
            · split <;> omega
          generalize readE r = e at *
          generalize readN r = v at *
          by_cases he : e = 0
          · have hv0 := HR2.out he
            subst he
            by_cases hv2 : 177372539170284150 < v
            · have HN : Hid (numOf s.data.toList = -1) := numOf_no fun n a b h => by
                have := HR1.out n a b h
                omega
              go_enter Tryd.func32, Tryd.ntmps32
              go_wp2_with fail
              refine (HC _).mono ?_; rintro e w' ⟨rfl, rfl⟩
              go_wp2
              go_ret
              exact ⟨by rw [HN.out]; rfl, Below.refl _ _⟩
            · obtain ⟨x, hx⟩ : ∃ x : Int, (26 : Int) * v + ((s[0].toNat : Int) - 97) = x := ⟨_, rfl⟩
              have hx1 : 0 ≤ x := by omega
              have hx2 : x ≤ 4611686018427387904 + 25 := by omega
              have HX : Hid (∀ n : Int, 0 ≤ n → n ≤ 4611686018427387904 → letterL n = s.data.toList → n = x) := fun n a b h => by
                have := HR1.out n a b h
                omega
              by_cases hbig : 4611686018427387904 < x
              · have HN : Hid (numOf s.data.toList = -1) := numOf_no fun n a b h => by
                  have := HX.out n a b h
                  omega
                go_enter Tryd.func32, Tryd.ntmps32
                go_wp2_with fail
                refine (HC _).mono ?_; rintro e w' ⟨rfl, rfl⟩
                go_wp2_with fail
                go_ret
                exact ⟨by rw [HN.out]; rfl, Below.refl _ _⟩
              · have HL := fun w' => refletter_any x (by unfold IsInt; omega) w'
                go_enter Tryd.func32, Tryd.ntmps32
                go_wp2_with fail
                refine (HC _).mono ?_; rintro e w' ⟨rfl, rfl⟩
                go_wp2_with fail
                refine (HL _).mono ?_; rintro e w2 ⟨rfl, hB3⟩
                by_cases hu : letterOf x = s
                · have HN : Hid (numOf s.data.toList = x) := numOf_yes hx1 (by omega) (by rw [← hu]; rfl)
                  have hne : ((letterOf x).toList == s.toList) = true := by rw [hu]; simp
                  generalize letterOf x = u at *
                  clear HL HC HX hu hx
                  go_wp2_with fail
                  go_ret
                  exact ⟨by rw [HN.out]; rfl, hB3⟩
                · have HN : Hid (numOf s.data.toList = -1) := numOf_no fun n a b h => by
                    have := HX.out n a b h
                    subst this
                    exact hu (byte_same (by rw [← h]; rfl))
                  have hne : ((letterOf x).toList == s.toList) = false := by
                    rw [Lib.toList_data, Lib.toList_data, beq_eq_false_iff_ne]
                    exact fun h => hu (byte_same h)
                  generalize letterOf x = u at *
                  clear HL HC HX
                  go_wp2_with fail
                  go_ret
                  exact ⟨by rw [HN.out]; rfl, hB3⟩
          · have hn : (e == 0) = false := by simp [he]
            have HN : Hid (numOf s.data.toList = -1) := numOf_no fun n a b h => he (HR1.out n a b h).1
            have HQ : Hid (¬ e = 0) := he
            clear he
            go_enter Tryd.func32, Tryd.ntmps32
            go_wp2_with fail
            refine (HC _).mono ?_; rintro e w' ⟨rfl, rfl⟩
            go_wp2
            go_ret
            exact ⟨by rw [HN.out]; rfl, Below.refl _ _⟩
end Go.Proofs.YtnepcledbjnolaaDoor
