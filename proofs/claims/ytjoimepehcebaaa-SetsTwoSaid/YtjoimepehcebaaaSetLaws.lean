/- The laws SetsNone, SetsTwo, SetsLaws answer true. -/
import Derived.Test.YtjoimepehcebaaaSetAwake
namespace Go.Proofs.Ytjoimepehcebaaa
open Go.RowKit Go.Maps

theorem len_zero (xs : List Tx) : ((xs.length : Int) == 0) = decide (xs = []) := by
  cases xs with
  | nil => rfl
  | cons x t => rw [decide_eq_false (by simp), beq_eq_false_iff_ne]; simp; omega
set_option maxRecDepth 100000 in
set_option maxHeartbeats 4000000 in
theorem walk_SetsNone {w : World} {v : Value} {xs : List Tx} (h : RowAt w.heap.size w encS v xs) (hb : bigs xs) (x : ByteArray) :
    Calls Try.prog 6 #[v, .string x] w (SaysW true w) := by
  have H := Lib.hid h
  obtain ⟨p, cap, rfl, -, -⟩ := h
  have HA := awake_any
  by_cases hbig : 200 < xs.length
  · have hbig' : (200 : Int) < (xs.length : Int) := by omega
    generalize xs.length = len at *
    go_enter Try.func6, Try.ntmps6
    go_wp2_with fail
    refine (HA _).mono ?_; rintro e w1 ⟨rfl, hB⟩
    go_wp2
    go_ret
    exact ⟨rfl, hB⟩
  · have hbig' : ¬ (200 : Int) < (xs.length : Int) := by omega
    have HN := new_any w _ xs H.out hb (by omega)
    have hol := ofT_len xs
    have hz := len_zero (ofT xs)
    generalize xs.length = len at *
    generalize ofT xs = ys at *
    have hle : len ≤ 200 := by omega
    have hZ : Hid _ := hz
    clear hz hbig hb
    go_enter Try.func6, Try.ntmps6
    go_wp2_with fail
    refine HN.mono ?_; rintro e w1 ⟨t, tm, rfl, ht, ht1, ht2, hB1⟩
    clear HN
    go_wp2_with fail
    refine (add_nil _ _).mono ?_; rintro e w2 ⟨rfl, hB⟩
    have ht := ht.below hB
    have hB2 := hB1.trans (hB.mono hB1.size)
    clear hB hB1
    go_wp2_with fail
    refine (has_nil _ _).mono ?_; rintro e w3 ⟨rfl, hB⟩
    have ht := ht.below hB
    have hB3 := hB2.trans (hB.mono hB2.size)
    clear hB hB2
    go_wp2_with fail
    refine (remove_nil _ _).mono ?_; rintro e w4 ⟨rfl, hB⟩
    have ht := ht.below hB
    have hB4 := hB3.trans (hB.mono hB3.size)
    clear hB hB3
    go_wp2_with fail
    refine (list_nil _).mono ?_; rintro e w5 ⟨rfl, rfl⟩
    go_wp2_with fail
    refine (len_nil _).mono ?_; rintro e w5 ⟨rfl, rfl⟩
    go_wp2_with fail
    refine (union_none ht (by omega)).mono ?_; rintro e w5 ⟨u, um, rfl, hu, -, -, hB⟩
    have ht := ht.below hB
    have hB5 := hB4.trans (hB.mono hB4.size)
    clear hB hB4
    go_wp2_with fail
    refine (list_any hu (by omega)).mono ?_; rintro e w6 ⟨v6, rfl, hr6, hB⟩
    have ht := ht.below hB
    have hB6 := hB5.trans (hB.mono hB5.size)
    clear hB hB5 hu
    go_wp2_with fail
    refine (list_any ht (by omega)).mono ?_; rintro e w7 ⟨v7, rfl, hr7, hB⟩
    have ht := ht.below hB
    have hr6 := hr6.later hB
    have hB7 := hB6.trans (hB.mono hB6.size)
    clear hB hB6
    have HT := texts_any hr6 hr7 (by omega) (by omega)
    rw [decide_eq_true rfl] at HT
    clear hr6 hr7
    go_wp2_with fail
    refine HT.mono ?_; rintro e w8 ⟨rfl, hB⟩
    have ht := ht.below hB
    have hB8 := hB7.trans (hB.mono hB7.size)
    clear hB hB7 HT
    go_wp2_with fail
    refine (minus_nil ht (by omega)).mono ?_; rintro e w9 ⟨u', um', rfl, hu, -, -, hB⟩
    have ht := ht.below hB
    have hB9 := hB8.trans (hB.mono hB8.size)
    clear hB hB8
    go_wp2_with fail
    refine (list_any hu (by omega)).mono ?_; rintro e wa ⟨v8, rfl, hr6, hB⟩
    have ht := ht.below hB
    have hBa := hB9.trans (hB.mono hB9.size)
    clear hB hB9 hu
    go_wp2_with fail
    refine (list_any ht (by omega)).mono ?_; rintro e wb ⟨v9, rfl, hr7, hB⟩
    have ht := ht.below hB
    have hr6 := hr6.later hB
    have hBb := hBa.trans (hB.mono hBa.size)
    clear hB hBa
    have HT := texts_any hr6 hr7 (by omega) (by omega)
    rw [decide_eq_true rfl] at HT
    clear hr6 hr7
    go_wp2_with fail
    refine HT.mono ?_; rintro e wc ⟨rfl, hB⟩
    have ht := ht.below hB
    have hBc := hBb.trans (hB.mono hBb.size)
    clear hB hBb HT
    have HW := within_of (minus_none wc (.pointer (some ⟨t, 0, none⟩)))
    rw [decide_eq_true rfl] at HW
    go_wp2_with fail
    refine HW.mono ?_; rintro e wd ⟨rfl, hB⟩
    have ht := ht.below hB
    have hBd := hBc.trans (hB.mono hBc.size)
    clear hB hBc HW
    have HW := within_of (minus_nil ht (by omega))
    rw [← hZ.out] at HW
    go_wp2_with fail
    refine HW.mono ?_; rintro e we ⟨rfl, hB⟩
    have ht := ht.below hB
    have hBe := hBd.trans (hB.mono hBd.size)
    clear hB hBd HW
    go_wp2_with fail
    refine (len_any ht).mono ?_; rintro e wf ⟨rfl, rfl⟩
    go_wp2_with fail
    refine (HA _).mono ?_; rintro e wf ⟨rfl, hB⟩
    go_wp2
    go_ret
    exact ⟨rfl, hBe.trans (hB.mono hBe.size)⟩
end Go.Proofs.Ytjoimepehcebaaa
