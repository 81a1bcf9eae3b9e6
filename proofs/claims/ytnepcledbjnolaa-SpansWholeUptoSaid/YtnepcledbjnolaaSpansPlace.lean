/- The contracts of spans.Place, spans.Offset, spans.Mark, and the document's own Offset and Mark. -/
import Derived.Test.YtnepcledbjnolaaSpansBounds
import Derived.Test.YtnepcledbjnolaaShelf
namespace Go.Proofs.Ytnepcledbjnolaa
open Go.RowKit

theorem count_cast (l : List Nat) (k : Nat) : (l.map Int.ofNat).countP (fun y => !decide ((k : Int) + 1 ≤ y)) = l.countP (fun x => decide (x < k + 1)) := by
  rw [List.countP_map]
  congr 1
  funext x
  simp only [Function.comp]
  rw [Bool.eq_iff_iff]
  simp
  omega

theorem search_lines (b cap n : Nat) (s : ByteArray) (k : Nat) (w : World) (hs : s.size ≤ 1048576) (hk : k ≤ s.size) (hn : (Lk s.data.toList s.size).length = n) (hb : b < w.heap.size)
    (hc : ∀ i, i < n → w.cell? ⟨b, i, none⟩ = some (.int .i64 ((Lk s.data.toList s.size).getD i 0))) :
    Calls Try.prog 21 #[.slice (some ⟨b, 0, none⟩) n cap, .int .i64 ((k : Int) + 1)] w fun e w' => e = .returned (.int .i64 (Ln s.data.toList k).length) ∧ Below w.heap.size w w' := by
  have hl := Lk_len s.data.toList s.size
  have H := Any.sort_SearchInts Try.layO14 b 0 cap (Lk s.data.toList s.size).toArray ((k : Int) + 1) w
    (fun i hi => by
      have hi' : i < (Lk s.data.toList s.size).length := by simpa using hi
      rw [Nat.zero_add, hc i (by omega)]
      rw [getElem!_pos (Lk s.data.toList s.size).toArray i hi, List.getD_eq_getElem?_getD, List.getElem?_eq_getElem hi']
      simp)
    hb (by simp; omega)
    (fun i j hij hj h => by
      have hj' : j < (Lk s.data.toList s.size).length := by simpa using hj
      have hs := Ln_sorted s.data.toList s.size
      rw [getElem!_pos (Lk s.data.toList s.size).toArray i (by simp; omega)] at h
      rw [getElem!_pos (Lk s.data.toList s.size).toArray j hj]
      simp only [List.getElem_toArray, decide_eq_true_eq, Lk, List.getElem_map] at h ⊢
      rcases Nat.lt_or_eq_of_le hij with hlt | heq
      · have := List.pairwise_iff_getElem.1 hs i j (by rw [Lk_length] at hj'; omega) (by rw [Lk_length] at hj'; omega) hlt
        simp only [Int.ofNat_eq_natCast] at h ⊢
        omega
      · subst heq; exact h)
  have e : (Lk s.data.toList s.size).toArray.toList.countP (fun y => !decide ((k : Int) + 1 ≤ y)) = (Ln s.data.toList k).length := by
    show ((Ln s.data.toList s.size).map Int.ofNat).countP _ = _
    rw [count_cast, Ln_count _ _ _ hk]
  rw [e] at H
  have hn' : (Lk s.data.toList s.size).toArray.size = n := by simpa using hn
  rw [hn'] at H
  exact H

set_option maxHeartbeats 800000 in
theorem place_bad (s : ByteArray) (at' : Int) (w : World) (h : at' < 0 ∨ (s.size : Int) < at') :
    Calls Try.prog 14 #[.string s, .int .i64 at'] w (Three 0 0 1 w) := by
  rcases h with h | h
  · go_enter Try.func14, Try.ntmps14
    go_wp2
    go_ret3
    exact ⟨rfl, Below.refl _ _⟩
  · have hlt : ¬ at' < 0 := by omega
    go_enter Try.func14, Try.ntmps14
    go_wp2
    go_ret3
    exact ⟨rfl, Below.refl _ _⟩

set_option maxHeartbeats 800000 in
theorem place_ok (s : ByteArray) (k : Nat) (w : World) (hs : s.size ≤ 1048576) (h : k ≤ s.size) :
    Calls Try.prog 14 #[.string s, .int .i64 k] w (Three (Ln s.data.toList k).length (colOf s.data.toList k) 0 w) := by
  have hlk := Ln_len s.data.toList k
  obtain ⟨m, hm⟩ : ∃ m, (Ln s.data.toList k).length = m := ⟨_, rfl⟩
  obtain ⟨n, hn⟩ : ∃ n, (Lk s.data.toList s.size).length = n := ⟨_, rfl⟩
  have hmn : m ≤ n := by
    obtain ⟨r, hr, _⟩ := Ln_prefix s.data.toList k s.size h
    rw [← hn, ← hm, Lk_length, hr, List.length_append]; omega
  obtain ⟨x, hx⟩ : ∃ x, (Ln s.data.toList k).getD (m - 1) 0 = x := ⟨_, rfl⟩
  have hxk : x ≤ k := by rw [← hx]; exact Ln_getD_le _ _ _ (by omega)
  have hcol : (colOf s.data.toList k : Int) = (k : Int) - (x : Int) + 1 := by unfold colOf; rw [hm, hx]; omega
  have hxl : (Ln s.data.toList s.size).getD (m - 1) 0 = x := by rw [Ln_last _ k _ h _ (by omega), hx]
  rw [hcol, hm]
  have HX : Hid ((Ln s.data.toList s.size).getD (m - 1) 0 = x) := hxl
  have HN : Hid ((Lk s.data.toList s.size).length = n) := hn
  have HM : Hid ((Ln s.data.toList k).length = m) := hm
  rw [hm] at hlk
  have hnb : n ≤ 1048577 := by have := (Lk_len s.data.toList s.size).2; omega
  obtain ⟨p, rfl⟩ : ∃ p, m = p + 1 := ⟨m - 1, by omega⟩
  have hpn : (p : Int) < (n : Int) := by omega
  have hp1 : ((p + 1 : Nat) : Int) = (p : Int) + 1 := by omega
  have HP : Hid (((p + 1 : Nat) : Int) = (p : Int) + 1) := hp1
  rw [hp1]
  clear hm hn hx hcol hxl hp1
  go_enter Try.func14, Try.ntmps14
  go_wp2_with fail
  refine (spans_lines s _ hs).mono ?_
  rintro e w1 ⟨b, cap, rfl, hb1, hb2, hc, hB⟩
  rw [HN.out] at hc ⊢
  have hci := hc p (by omega)
  rw [Lk_getD, show p = p + 1 - 1 from rfl, HX.out] at hci
  have HC : Hid (∀ i, i < n → w1.cell? ⟨b, i, none⟩ = some (.int .i64 ((Lk s.data.toList s.size).getD i 0))) := hc
  clear hc
  go_wp2_with fail
  refine (search_lines b cap n s k w1 hs h HN.out hb2 HC.out).mono ?_
  rintro e w2 ⟨rfl, hB2⟩
  have hcj : w2.cell? ⟨b, p, none⟩ = some (.int .i64 x) := (hB2.cell hb2).trans hci
  rw [HM.out, HP.out]
  clear hci
  go_wp2
  go_quiet (fail)
  go_wp2
  go_ret3
  exact ⟨rfl, below_drewN (hB.trans (hB2.mono hB.size)) _⟩
end Go.Proofs.Ytnepcledbjnolaa
