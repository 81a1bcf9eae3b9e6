/- The contracts of names.Number and of the document's own. -/
import Derived.Test.YtnepcledbjnolabDoorNamesNum
namespace Go.Proofs.YtnepcledbjnolabDoor
open Go.RowKit

theorem tail_list {s : ByteArray} {c : UInt8} {r : List UInt8} (h : s.data.toList = c :: r) : (s.extract 1 s.size).data.toList = r := by
  rw [ByteArray.data_extract, Array.toList_extract, h, List.extract_eq_take_drop]
  have : s.size = r.length + 1 := by rw [Lib.size_eq, h]; rfl
  simp [this]

set_option maxHeartbeats 1000000 in
theorem number_any (s : ByteArray) (hs : s.size ≤ 281474976710656) (B : Nat) (w : World) (hBw : B ≤ w.heap.size) (ht : Tab B w) (hE : Errs B w) : Calls Tryd.prog 8 #[.string s] w (fun e w' => e = .returned (.int .i64 (numOf s.data.toList)) ∧ Below w.heap.size w w') := by
  rcases empty_or s with rfl | ⟨h0, r, hr, hN⟩
  · rw [show (⟨#[]⟩ : ByteArray).data.toList = [] from rfl, numOf_empty]
    go_enter Tryd.func8, Tryd.ntmps8
    go_wp2
    go_ret
    exact ⟨rfl, Below.refl _ _⟩
  · have hb := (s[0]).toNat_lt
    by_cases hc : s[0].toNat < 97
    · have HR : Hid (numOf s.data.toList = -1) := by show _ = _; rw [hr]; exact numOf_head (.inl hc)
      have hc' : (s[0].toNat : Int) < 97 := by omega
      clear hr
      go_enter Tryd.func8, Tryd.ntmps8
      go_wp2
      go_ret
      exact ⟨by rw [HR.out]; rfl, Below.refl _ _⟩
    · by_cases hc2 : 122 < s[0].toNat
      · have HR : Hid (numOf s.data.toList = -1) := by show _ = _; rw [hr]; exact numOf_head (.inr hc2)
        have hc' : ¬ (s[0].toNat : Int) < 97 := by omega
        have hc2' : (122 : Int) < (s[0].toNat : Int) := by omega
        clear hr
        go_enter Tryd.func8, Tryd.ntmps8
        go_wp2
        go_ret
        exact ⟨by rw [HR.out]; rfl, Below.refl _ _⟩
      · have hc' : ¬ (s[0].toNat : Int) < 97 := by omega
        have hc2' : ¬ (122 : Int) < (s[0].toNat : Int) := by omega
        have hsz : s.size = r.length + 1 := by rw [Lib.size_eq, hr]; rfl
        by_cases h1 : r = []
        · have HR : Hid (numOf s.data.toList = (s[0].toNat : Int) - 97) := by show _ = _; rw [hr, h1]; exact numOf_one (by omega) (by omega)
          have hl : ((s.size : Int) == 1) = true := by rw [hsz, h1]; rfl
          have hsz1 : s.size = 1 := by rw [hsz, h1]; rfl
          clear hr hsz h1
          go_enter Tryd.func8, Tryd.ntmps8
          go_wp2
          go_ret
          exact ⟨by rw [HR.out]; rfl, Below.refl _ _⟩
        · have hl : ((s.size : Int) == 1) = false := by
            rw [beq_eq_false_iff_ne]; have := List.length_pos_iff.2 h1; omega
          have HT : Hid ((s.extract 1 s.size).data.toList = r) := tail_list hr
          have hts : (s.extract 1 s.size).size ≤ 281474976710656 := by rw [Lib.size_eq, HT.out]; omega
          have HR : Hid (s.data.toList = s[0] :: r) := hr
          have H1 : Hid (¬ r = []) := h1
          have hc3 : (97 : Int) ≤ s[0].toNat := by omega
          have hc4 : (s[0].toNat : Int) ≤ 122 := by omega
          clear hr hsz h1 hc hc2
          have HC := fun v (hv : Lib.atoiAll (s.extract 1 s.size).data.toList = .ok v) w => atoi_ok (s.extract 1 s.size) hts v hv w
          have HB := fun (hv : ∀ v, Lib.atoiAll (s.extract 1 s.size).data.toList ≠ .ok v) w hE => atoi_bad (s.extract 1 s.size) hts hv B w hE
          rw [HT.out] at HC HB
          cases hA : Lib.atoiAll r with
          | ok v =>
            have HC := fun w => HC v hA w
            have HA : Hid (Lib.atoiAll r = .ok v) := hA
            clear hA HB
            by_cases hv1 : v < 1
            · have HN : Hid (numOf s.data.toList = -1) := numOf_no fun n a b h => by
                obtain ⟨x1, x2, x3, x4, x5, x6, x7⟩ := letter_split a b (h.trans HR.out) H1.out
                have := HA.out.symm.trans x5
                injection this with this
                omega
              go_enter Tryd.func8, Tryd.ntmps8
              go_wp2_with fail
              refine (HC _).mono ?_; rintro e w' ⟨rfl, hB1⟩
              go_wp2
              go_ret
              exact ⟨by rw [HN.out]; rfl, hB1⟩
            · by_cases hv2 : 177372539170284150 < v
              · have HN : Hid (numOf s.data.toList = -1) := numOf_no fun n a b h => by
                  obtain ⟨x1, x2, x3, x4, x5, x6, x7⟩ := letter_split a b (h.trans HR.out) H1.out
                  have := HA.out.symm.trans x5
                  injection this with this
                  omega
                go_enter Tryd.func8, Tryd.ntmps8
                go_wp2_with fail
                refine (HC _).mono ?_; rintro e w' ⟨rfl, hB1⟩
                go_wp2
                go_ret
                exact ⟨by rw [HN.out]; rfl, hB1⟩
              · obtain ⟨x, hx⟩ : ∃ x, (s[0].toNat : Int) - 97 + v * 26 = x := ⟨_, rfl⟩
                have hx1 : 0 ≤ x := by omega
                have hx2 : x ≤ 4611686018427387904 + 25 := by omega
                have HX : Hid (∀ n : Int, 0 ≤ n → n ≤ 4611686018427387904 → letterL n = s.data.toList → n = x) := fun n a b h => by
                  obtain ⟨x1, x2, x3, x4, x5, x6, x7⟩ := letter_split a b (h.trans HR.out) H1.out
                  have := HA.out.symm.trans x5
                  injection this with this
                  omega
                by_cases hbig : 4611686018427387904 < x
                · have HN : Hid (numOf s.data.toList = -1) := numOf_no fun n a b h => by
                    have := HX.out n a b h
                    omega
                  go_enter Tryd.func8, Tryd.ntmps8
                  go_wp2_with fail
                  refine (HC _).mono ?_; rintro e w' ⟨rfl, hB1⟩
                  go_wp2_with fail
                  go_ret
                  exact ⟨by rw [HN.out]; rfl, hB1⟩
                · have HL := fun w' (hb : Below w.heap.size w w') => letter_any x (by unfold IsInt; omega) B w' (Nat.le_trans hBw hb.size) (ht.later (hb.mono hBw))
                  go_enter Tryd.func8, Tryd.ntmps8
                  go_wp2_with fail
                  refine (HC _).mono ?_; rintro e w' ⟨rfl, hB1⟩
                  go_wp2_with fail
                  refine (HL _ hB1).mono ?_; rintro e w2 ⟨rfl, hB2⟩
                  have hB3 : Below w.heap.size w w2 := hB1.trans (hB2.mono hB1.size)
                  by_cases hu : letterOf x = s
                  · have HN : Hid (numOf s.data.toList = x) := numOf_yes hx1 (by omega) (by rw [← hu]; rfl)
                    have hne : ((letterOf x).toList == s.toList) = true := by rw [hu]; simp
                    generalize letterOf x = u at *
                    clear HL HC HX
                    go_wp2_with fail
                    go_ret
                    exact ⟨by rw [HN.out]; rfl, hB3⟩
                  · have HN : Hid (numOf s.data.toList = -1) := numOf_no fun n a b h => by
                      have := HX.out n a b h
                      subst this
                      exact hu (byte_same (by rw [← h]; rfl))
                    have hne : ((letterOf x).toList == s.toList) = false := by
                      rw [Lib.toList_data, Lib.toList_data, beq_eq_false_iff_ne]
                      exact fun h => hu (byte_same h)
                    generalize letterOf x = u at *
                    clear HL HC HX
                    go_wp2_with fail
                    go_ret
                    exact ⟨by rw [HN.out]; rfl, hB3⟩
          | «syntax» => 
            have HN : Hid (numOf s.data.toList = -1) := numOf_no fun n a b h => by
                obtain ⟨x1, x2, x3, x4, x5, x6, x7⟩ := letter_split a b (h.trans HR.out) H1.out
                rw [hA] at x5; cases x5
            have HB := fun w hE => HB (fun v h => by rw [hA] at h; cases h) w hE
            clear hA HC
            go_enter Tryd.func8, Tryd.ntmps8
            go_wp2_with fail
            refine (HB _ hE).mono ?_; rintro e w' ⟨_, _, _, rfl, hB1⟩
            go_wp2
            go_ret
            exact ⟨by rw [HN.out]; rfl, hB1⟩
          | range => 
            have HN : Hid (numOf s.data.toList = -1) := numOf_no fun n a b h => by
                obtain ⟨x1, x2, x3, x4, x5, x6, x7⟩ := letter_split a b (h.trans HR.out) H1.out
                rw [hA] at x5; cases x5
            have HB := fun w hE => HB (fun v h => by rw [hA] at h; cases h) w hE
            clear hA HC
            go_enter Tryd.func8, Tryd.ntmps8
            go_wp2_with fail
            refine (HB _ hE).mono ?_; rintro e w' ⟨_, _, _, rfl, hB1⟩
            go_wp2
            go_ret
            exact ⟨by rw [HN.out]; rfl, hB1⟩
end Go.Proofs.YtnepcledbjnolabDoor
