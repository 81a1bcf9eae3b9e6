/- The walk of the law SpansWhole. -/
import Derived.Test.YtnepcledbjnolaaSpansLaw2
namespace Go.Proofs.Ytnepcledbjnolaa
open Go.RowKit

theorem whole_step (l : List UInt8) (n i : Nat) (hi : i + 1 < (Ln l n).length) (hn : n = l.length) :
    l.take (endOf l n i) ++ 10 :: ((l.take (endOf l n (i + 1))).drop ((Ln l n).getD (i + 1) 0)) = l.take (endOf l n (i + 1)) := by
  obtain ⟨h1, h2, h3⟩ := (Ln_ok l n).1 i hi
  obtain ⟨a1, a2, -, -⟩ := endOf_ok l n (i + 1) hi
  have he : endOf l n i = (Ln l n).getD (i + 1) 0 - 1 := by unfold endOf; rw [if_neg (by omega)]
  obtain ⟨p, hp⟩ : ∃ p, (Ln l n).getD (i + 1) 0 = p + 1 := ⟨(Ln l n).getD (i + 1) 0 - 1, by omega⟩
  rw [he, hp]
  rw [hp] at h2 a1
  rw [Nat.add_sub_cancel] at h2 ⊢
  generalize endOf l n (i + 1) = q at *
  have hpl : p < (l.take q).length := by rw [List.length_take]; omega
  have e1 : l.take p = (l.take q).take p := by rw [List.take_take, Nat.min_eq_left (by omega)]
  have e2 : (l.take q)[p] = 10 := by
    rw [List.getElem_take]
    rw [List.getD_eq_getElem?_getD, List.getElem?_eq_getElem (by omega)] at h2
    simpa using h2
  rw [e1, ← e2, List.getElem_cons_drop, List.take_append_drop]

theorem whole_first (l : List UInt8) (n : Nat) : (l.take (endOf l n 0)).drop ((Ln l n).getD 0 0) = l.take (endOf l n 0) := by
  have : (Ln l n).getD 0 0 = 0 := by
    rw [Ln_last l 0 n (Nat.zero_le _) 0 (by simp [Ln])]; simp [Ln]
  rw [this]; rfl

theorem lineOf_list (s : ByteArray) (i : Nat) : (lineOf s i).data.toList = (s.data.toList.take (endOf s.data.toList s.size i)).drop ((Ln s.data.toList s.size).getD i 0) := by
  unfold lineOf
  rw [ByteArray.data_extract]
  simp [List.drop_take]

/-- what is put together of the first j lines -/
def soFar (l : List UInt8) (n : Nat) : Nat → List UInt8
  | 0 => []
  | j + 1 => l.take (endOf l n j)
theorem soFar_le (l : List UInt8) (n j : Nat) : (soFar l n j).length ≤ l.length := by
  cases j with
  | zero => simp [soFar]
  | succ j => simp [soFar, List.length_take]; omega

theorem eq_str {a b : ByteArray} (h : a.data.toList = b.data.toList) : a = b := by cases a; cases b; simp_all

set_option maxHeartbeats 1600000 in
theorem walk_SpansWhole (s : ByteArray) (w : World) (hs : s.size ≤ 1048576) : Calls Try.prog 7 #[.string s] w (Says true w) := by
  obtain ⟨n, hn⟩ : ∃ n, (Lk s.data.toList s.size).length = n := ⟨_, rfl⟩
  have hnb : 1 ≤ n ∧ n ≤ 1048577 := by have := Lk_len s.data.toList s.size; omega
  have hn' : (Ln s.data.toList s.size).length = n := by rw [← hn, Lk_length]
  have HN : Hid ((Lk s.data.toList s.size).length = n) := hn
  have HN' : Hid ((Ln s.data.toList s.size).length = n) := hn'
  clear hn hn'
  by_cases hbig : 3000 < n
  · have hb : (3000 : Int) < (n : Int) := by omega
    go_enter Try.func7, Try.ntmps7
    go_wp2_with fail
    refine (spans_lines s _ hs).mono ?_; rintro e w1 ⟨b, cap, rfl, hb1, hb2, hc, hB1⟩
    clear hc
    rw [HN.out]
    go_wp2_with fail
    refine (awake_true _).mono ?_; rintro e w2 ⟨rfl, hB2⟩
    go_wp2
    go_ret
    exact ⟨rfl, hB1.trans (hB2.mono hB1.size)⟩
  · have hb : ¬ (3000 : Int) < (n : Int) := by omega
    go_enter Try.func7, Try.ntmps7
    go_wp2_with fail
    refine (spans_lines s _ hs).mono ?_; rintro e w1 ⟨b, cap, rfl, hb1, hb2, hc, hB1⟩
    clear hc
    rw [HN.out]
    go_wp2_with fail
    go_loopw [4, 5] (fun t i wr => ∃ (j : Nat) (v : ByteArray), j ≤ n ∧ i = .int .i64 j ∧ t = .string v ∧ v.data.toList = soFar s.data.toList s.size j ∧ Below w.heap.size w wr) (fun _ i _ => n - (intOf i).toNat)
    case atStart => exact ⟨0, _, Nat.zero_le _, rfl, rfl, rfl, hB1⟩
    case round =>
      obtain ⟨j, v, hj, rfl, rfl, hv, hBr⟩ := hrel
      have hvs : v.size ≤ 1048576 := by rw [Lib.size_eq v, hv]; have := soFar_le s.data.toList s.size j; have := Lib.size_eq s; omega
      by_cases hlt : j < n
      · have HL := line_ok s j wr hs (by rw [HN'.out]; exact hlt)
        have hu : (lineOf s j).size ≤ 1048576 := by
          obtain ⟨h1, h2, -, -⟩ := endOf_ok s.data.toList s.size j (by rw [HN'.out]; exact hlt)
          rw [size_lineOf s j (by rw [HN'.out]; exact hlt)]; unfold lenOf; omega
        have HU : Hid ((lineOf s j).data.toList = (s.data.toList.take (endOf s.data.toList s.size j)).drop ((Ln s.data.toList s.size).getD j 0)) := lineOf_list s j
        generalize lineOf s j = u at *
        have HV : Hid (v.data.toList = soFar s.data.toList s.size j) := hv
        clear hv
        by_cases hj0 : j = 0
        · subst hj0
          go_wp2_with (go_at_call 8; refine HL.mono ?_; rintro e w2 ⟨rfl, hB2⟩)
          have HB : Below w.heap.size w w2 := hBr.trans (hB2.mono hBr.size)
          clear hB2
          go_roundw
          case rel =>
            refine ⟨1, _, by omega, by go_num, rfl, ?_, HB⟩
            have e1 := whole_first s.data.toList s.size
            have e2 : v.data.toList = [] := HV.out
            show (v ++ u).data.toList = s.data.toList.take (endOf s.data.toList s.size 0)
            simp only [ByteArray.data_append, Array.toList_append, e2, HU.out, List.nil_append]
            exact e1
          case measure => simp [intOf]; omega
        · have hp : (0 : Int) < (j : Int) := by omega
          go_wp2_with (go_at_call 8; refine HL.mono ?_; rintro e w2 ⟨rfl, hB2⟩)
          have HB : Below w.heap.size w w2 := hBr.trans (hB2.mono hBr.size)
          clear hB2
          go_roundw
          case rel =>
            refine ⟨j + 1, _, by omega, by go_num, rfl, ?_, HB⟩
            obtain ⟨i, rfl⟩ : ∃ i, j = i + 1 := ⟨j - 1, by omega⟩
            have e1 := whole_step s.data.toList s.size i (by rw [HN'.out]; exact hlt) (Lib.size_eq s)
            have e2 : v.data.toList = s.data.toList.take (endOf s.data.toList s.size i) := HV.out
            show (v ++ ⟨#[10]⟩ ++ u).data.toList = s.data.toList.take (endOf s.data.toList s.size (i + 1))
            simp only [ByteArray.data_append, Array.toList_append, e2, HU.out]
            refine Eq.trans ?_ e1
            simp
          case measure => simp [intOf]; omega
      · have hjn : j = n := by omega
        subst hjn
        have hvs' : v = s := by
          apply eq_str
          obtain ⟨i, rfl⟩ : ∃ i, j = i + 1 := ⟨j - 1, by omega⟩
          rw [hv]
          show s.data.toList.take (endOf s.data.toList s.size i) = _
          unfold endOf
          rw [if_pos (by rw [HN'.out]), List.take_of_length_le (by rw [← Lib.size_eq s]; exact Nat.le_refl _)]
        obtain rfl := hvs'
        clear hv
        have hp : (0 : Int) < (j : Int) := by omega
        go_wp2_with (go_at_call 13; refine (awake_true _).mono ?_; rintro e w2 ⟨rfl, hB2⟩)
        go_ret
        exact ⟨rfl, hBr.trans (hB2.mono hBr.size)⟩
end Go.Proofs.Ytnepcledbjnolaa
