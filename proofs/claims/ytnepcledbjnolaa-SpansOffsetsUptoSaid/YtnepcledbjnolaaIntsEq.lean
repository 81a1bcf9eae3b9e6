/- The contract of envoyref01.Ints, which compares two slices of ints, over this seat's program. -/
import Derived.Test.YtnepcledbjnolaaRows
import Derived.WalkKit
import Derived.Below
import Derived.BigQuiet
import Derived.Deep.QuietTactic
namespace Go.Proofs.Ytnepcledbjnolaa
open Go.RowKit

/-- the slice `v` reads, in world `w`, as the ints `xs` -/
def IntsAt (w : World) (a : Option Addr) (xs : List Int) : Prop :=
  xs = [] ∨ ∃ b off, a = some ⟨b, off, none⟩ ∧ ∀ i, i < xs.length → w.cell? ⟨b, off + i, none⟩ = some (.int .i64 (xs.getD i 0))

set_option maxHeartbeats 400000 in
theorem ints_lens (a1 a2 : Option Addr) (n1 n2 c1 c2 : Nat) (w : World) (h : n1 ≠ n2) :
    Calls Try.prog 10 #[.slice a1 n1 c1, .slice a2 n2 c2] w fun e w' => e = .returned (.bool false) ∧ w' = w := by
  have hn : ((n1 : Int) != (n2 : Int)) = true := by rw [bne_iff_ne]; omega
  go_enter Try.func10, Try.ntmps10
  go_wp2
  go_ret
  exact ⟨rfl, rfl⟩

set_option maxHeartbeats 1000000 in
theorem ints_same (a1 a2 : Option Addr) (n c1 c2 : Nat) (xs ys : List Int) (w : World) (hx : xs.length = n) (hy : ys.length = n) (hm : n ≤ maxLen)
    (h1 : IntsAt w a1 xs) (h2 : IntsAt w a2 ys) :
    Calls Try.prog 10 #[.slice a1 n c1, .slice a2 n c2] w fun e w' => e = .returned (.bool (decide (xs = ys))) ∧ ∃ k, w' = w.drewN k := by
  unfold maxLen at hm
  have hne : ((n : Int) != (n : Int)) = false := by simp
  go_enter Try.func10, Try.ntmps10
  go_wp2
  go_loopw [5] (fun i wr => ∃ k : Nat, k ≤ n ∧ i = .int .i64 k ∧ xs.take k = ys.take k ∧ ∃ q, wr = w.drewN q) (fun i _ => n - (intOf i).toNat)
  case atStart => exact ⟨0, Nat.zero_le _, rfl, by simp, 0, rfl⟩
  case round =>
    obtain ⟨k, hk, rfl, htk, q, rfl⟩ := hrel
    by_cases hlt : k < n
    · have hxk : xs ≠ [] := by intro h; subst h; simp at hx; omega
      have hyk : ys ≠ [] := by intro h; subst h; simp at hy; omega
      obtain ⟨b1, o1, rfl, hc1⟩ := h1.resolve_left hxk
      obtain ⟨b2, o2, rfl, hc2⟩ := h2.resolve_left hyk
      obtain ⟨x, hxv⟩ : ∃ x, xs.getD k 0 = x := ⟨_, rfl⟩
      obtain ⟨y, hyv⟩ : ∃ y, ys.getD k 0 = y := ⟨_, rfl⟩
      have e1 : w.cell? ⟨b1, o1 + k, none⟩ = some (.int .i64 x) := by rw [← hxv]; exact hc1 k (by omega)
      have e2 : w.cell? ⟨b2, o2 + k, none⟩ = some (.int .i64 y) := by rw [← hyv]; exact hc2 k (by omega)
      have hlt' : (k : Int) < (n : Int) := by omega
      have HX : Hid (xs.getD k 0 = x) := hxv
      have HY : Hid (ys.getD k 0 = y) := hyv
      clear hc1 hc2 hxv hyv h1 h2 hxk hyk
      by_cases he : x = y
      · have hb : (x != y) = false := by simp [he]
        have HT : Hid (xs.take (k + 1) = ys.take (k + 1)) := by
          show xs.take (k + 1) = ys.take (k + 1)
          have a := HX.out
          have b := HY.out
          rw [List.take_succ_eq_append_getElem (by omega), List.take_succ_eq_append_getElem (by omega), htk]
          rw [List.getD_eq_getElem?_getD, List.getElem?_eq_getElem (by omega)] at a b
          simp only [Option.getD_some] at a b
          rw [a, b, he]
        clear he htk
        go_wp2
        go_quiet (fail)
        go_wp2
        go_roundw
        case rel => exact ⟨k + 1, by omega, by go_num, HT.out, _, rfl⟩
        case measure => simp [intOf]; omega
      · have hb : (x != y) = true := by simp [he]
        have hne : xs ≠ ys := fun h => he (by rw [← HX.out, ← HY.out, h])
        have HD : Hid (decide (xs = ys) = false) := by show _ = false; simp [hne]
        clear he htk hne
        go_wp2
        go_quiet (fail)
        go_wp2
        go_ret
        exact ⟨by rw [HD.out]; rfl, _, World.drewN_drewN _ _ _⟩
    · have hkn : k = n := by omega
      subst hkn
      have hxy : xs = ys := by rw [← List.take_of_length_le (Nat.le_of_eq hx), ← List.take_of_length_le (Nat.le_of_eq hy)]; exact htk
      clear htk
      go_wp2
      go_ret
      exact ⟨by simp [hxy], _, rfl⟩
end Go.Proofs.Ytnepcledbjnolaa
