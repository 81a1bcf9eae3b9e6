/- The document's own sets: Find, Add, Remove, Of, Minus; Texts and Has of the layers ahead. -/
import Derived.Test.YtjoimepehcebaaaSetMinus
import Derived.Lib.Strings
import Derived.Deep.QuietTactic
import Derived.BigQuiet
namespace Go.Proofs.Ytjoimepehcebaaa
open Go.RowKit Go.Maps

theorem text_less (x y : Tx) : Op.bytesLess (⟨x.toArray⟩ : ByteArray).toList (⟨y.toArray⟩ : ByteArray).toList = decide (x < y) := by
  rw [bytesLess_eq, Lib.toList_data, Lib.toList_data]
theorem less_eq (x y : Tx) : Op.bytesLess x y = decide (x < y) := bytesLess_eq x y
theorem text_same (x y : Tx) : ((⟨x.toArray⟩ : ByteArray).toList == (⟨y.toArray⟩ : ByteArray).toList) = decide (x = y) := by
  rw [Lib.toList_data, Lib.toList_data, Bool.eq_iff_iff, beq_iff_eq, decide_eq_true_eq]
/-- two results -/
def Two (x y : Value) (w : World) (e : Ending) (w' : World) : Prop := e = .returned (.tuple #[x, y]) ∧ Below w.heap.size w w'
set_option maxHeartbeats 1600000 in
theorem find_any {B : Nat} {w : World} {v : Value} {xs : List Tx} (h : RowAt B w encS v xs) (hl : xs.length ≤ 1000000000) (x : Tx) :
    Calls Try.prog 23 #[v, .string ⟨x.toArray⟩] w (Two (.int .i64 (pos x xs : Int)) (.bool (there x xs)) w) := by
  have H := Lib.hid h
  obtain ⟨p, cap, rfl, -, -⟩ := h
  generalize hn : xs.length = len at *
  have HN := Lib.hid hn
  have hpl := pos_le x xs
  have HP := Lib.hid hpl
  clear hn hpl
  go_enter Try.func23, Try.ntmps23
  go_wp2_with fail
  go_loop [6] (fun i => ∃ k : Nat, k ≤ len ∧ k ≤ pos x xs ∧ i = .int .i64 k) (fun i => len - (intOf i).toNat)
  case atStart => exact ⟨0, Nat.zero_le _, Nat.zero_le _, rfl⟩
  case round =>
    obtain ⟨k, hk, hkp, rfl⟩ := hrel
    by_cases hlt : k < len
    · have hlx : k < xs.length := by rw [HN.out]; exact hlt
      obtain ⟨g, o, rfl, hg, -, hc⟩ := row_string (H.out) k hlx
      by_cases hlp : k < pos x xs
      · have hb := less_eq xs[k] x
        rw [decide_eq_true (pos_lt x xs k hlp)] at hb
        have HK : Hid (k + 1 ≤ pos x xs) := hlp
        clear hlp hkp
        generalize xs[k] = y at *
        go_wp2
        go_round
        case rel => exact ⟨k + 1, by omega, HK.out, by go_num⟩
        case measure => simp [intOf]; omega
      · have HE : Hid (k = pos x xs) := by show k = pos x xs; omega
        have hb := less_eq xs[k] x
        have hge : ¬ xs[k] < x := by
          have := pos_ge x xs (by rw [← HE.out]; exact hlx)
          have e := HE.out
          have e2 : xs[k] = xs[pos x xs]'(by rw [← e]; exact hlx) := by congr 1
          rw [e2]; exact this
        rw [decide_eq_false hge] at hb
        have hs : (xs[k] == x) = decide (xs[k] = x) := by rw [Bool.eq_iff_iff, beq_iff_eq, decide_eq_true_eq]
        have HT : Hid (there x xs = decide (xs[k] = x)) := by
          show there x xs = _
          unfold there
          rw [← HE.out, List.getElem?_eq_getElem hlx]
          simp
        clear hge hlp hkp
        generalize decide (xs[k] = x) = t at *
        generalize xs[k] = y at *
        go_wp2_with fail
        go_quiet (fail)
        go_wp2
        go_ret2
        exact ⟨by rw [HT.out, ← HE.out]; rfl, below_drewN _ _ _⟩
    · obtain rfl : k = len := by omega
      have HE : Hid (pos x xs = k) := by show pos x xs = k; have := HP.out; have := HN.out; omega
      have HT : Hid (there x xs = false) := by
        show there x xs = false
        unfold there
        rw [HE.out, List.getElem?_eq_none (by rw [HN.out]; exact Nat.le_refl _)]
        simp
      clear hkp
      have hdk : decide ((k : Int) < (k : Int)) = false := by simp
      go_wp2_with fail
      go_quiet (fail)
      go_wp2
      go_ret2
      exact ⟨by rw [HT.out, HE.out]; rfl, below_drewN _ _ _⟩
end Go.Proofs.Ytjoimepehcebaaa
