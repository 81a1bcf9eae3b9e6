/- Texts of layer 1 and Has of layer 3, once more: rows of texts, one by one. -/
import Derived.Test.YtemgocegnlehoaaNodeA
import Derived.Deep.QuietTactic
import Derived.Deep.RegionHeld3
namespace Go.Proofs.Ytemgocegnlehoaa.N6
open Go.RowKit

abbrev Tx := List UInt8
def encS (x : Tx) : List Value := [.string ⟨x.toArray⟩]
theorem encS_len (x : Tx) : (encS x).length = 1 := rfl
theorem row_string {B : Nat} {w : World} {p : Option Addr} {n cap : Nat} {xs : List Tx} (h : RowAt B w encS (.slice p n cap) xs) (i : Nat) (hi : i < xs.length) :
    ∃ g o, p = some ⟨g, o, none⟩ ∧ g < B ∧ g < w.heap.size ∧ w.cell? ⟨g, o + i, none⟩ = some (.string ⟨(xs[i]).toArray⟩) := RowAt.cell1 (f := fun x : Tx => .string ⟨x.toArray⟩) h i hi
theorem eq_text (x y : Tx) : (x == y) = decide (x = y) := by rw [Bool.eq_iff_iff, beq_iff_eq, decide_eq_true_eq]
theorem not_all_eq {xs ys : List Tx} {k : Nat} (hx : k < xs.length) (hy : k < ys.length) (h : xs[k] ≠ ys[k]) : xs ≠ ys := fun e => by subst e; exact h rfl
theorem take_eq_snoc {xs ys : List Tx} {k : Nat} (hx : k < xs.length) (hy : k < ys.length) (h : xs.take k = ys.take k) (e : xs[k] = ys[k]) : xs.take (k + 1) = ys.take (k + 1) := by
  rw [List.take_succ_eq_append_getElem hx, List.take_succ_eq_append_getElem hy, h, e]
set_option maxHeartbeats 1600000 in
theorem texts_any {w : World} {v u : Value} {xs ys : List Tx} (h : RowAt w.heap.size w encS v xs) (hu : RowAt w.heap.size w encS u ys) (hl : xs.length ≤ 1000000000000) (hl2 : ys.length ≤ 1000000000000) :
    Calls Try.prog 14 #[v, u] w (SaysIs (decide (xs = ys)) w) := by
  have H := Lib.hid h
  have HU := Lib.hid hu
  obtain ⟨p, cap, rfl, -, -⟩ := h
  obtain ⟨p2, cap2, rfl, -, -⟩ := hu
  by_cases hne : xs.length = ys.length
  · have hd : (((xs.length : Int) == (ys.length : Int))) = true := by rw [beq_iff_eq, hne]
    have HN := Lib.hid hne
    have HD := Lib.hid hd
    rw [← hne] at HU ⊢
    generalize hn : xs.length = len at *
    have HX := Lib.hid hn
    clear hn hne hd HD hl2
    go_enter Try.func14, Try.ntmps14
    go_wp2_with fail
    go_loopw [5] (fun i wr => ∃ k : Nat, k ≤ len ∧ i = .int .i64 k ∧ Hid (xs.take k = ys.take k) ∧ Below w.heap.size w wr) (fun i _ => len - (intOf i).toNat)
    case atStart => exact ⟨0, Nat.zero_le _, rfl, (by rfl : xs.take 0 = ys.take 0), Below.refl _ _⟩
    case round =>
      obtain ⟨k, hk, rfl, HE, hB⟩ := hrel
      by_cases hlt : k < len
      · have hlx : k < xs.length := by rw [HX.out]; exact hlt
        have hly : k < ys.length := by rw [← HN.out]; exact hlt
        obtain ⟨g, o, rfl, hg, -, hc⟩ := row_string (H.out) k hlx
        obtain ⟨g2, o2, rfl, hg2, -, hc2⟩ := row_string (HU.out) k hly
        have hc := (hB.cell (p := ⟨g, o + k, none⟩) hg).trans hc
        have hc2 := (hB.cell (p := ⟨g2, o2 + k, none⟩) hg2).trans hc2
        by_cases he : xs[k] = ys[k]
        · have HS : Hid (xs.take (k + 1) = ys.take (k + 1)) := take_eq_snoc hlx hly HE.out he
          rw [← he] at hc2
          have hb : (xs[k] == xs[k]) = true := by simp
          clear he
          generalize xs[k] = x at *
          go_wp2_with fail
          go_quiet (fail)
          go_wp2
          go_roundw
          case rel => exact ⟨k + 1, by omega, by go_num, HS, hB.trans (below_drewN _ _ _)⟩
          case measure => simp [intOf]; omega
        · have hb : (xs[k] == ys[k]) = false := by rw [beq_eq_false_iff_ne]; exact he
          have hdn : decide (xs = ys) = false := decide_eq_false (not_all_eq hlx hly he)
          have HDN := Lib.hid hdn
          clear he hdn
          generalize xs[k] = x at *
          generalize ys[k] = y at *
          go_wp2_with fail
          go_quiet (fail)
          go_wp2
          go_ret
          exact ⟨by rw [HDN.out]; rfl, hB.trans (below_drewN _ _ _)⟩
      · obtain rfl : k = len := by omega
        have hall : xs = ys := by
          have := HE.out
          rwa [List.take_of_length_le (by rw [HX.out]; exact Nat.le_refl _), List.take_of_length_le (by rw [← HN.out]; exact Nat.le_refl _)] at this
        have HDN : Hid (decide (xs = ys) = true) := decide_eq_true hall
        clear hall
        go_wp2
        go_ret
        exact ⟨by rw [HDN.out]; rfl, hB⟩
  · have hd : decide (xs = ys) = false := decide_eq_false (fun e => hne (by rw [e]))
    have hi : ((xs.length : Int) == (ys.length : Int)) = false := by rw [beq_eq_false_iff_ne]; omega
    rw [hd]
    generalize xs.length = n at *
    generalize ys.length = m at *
    clear H HU hne hd
    go_enter Try.func14, Try.ntmps14
    go_wp2
    go_ret
    exact ⟨rfl, Below.refl _ _⟩
theorem take_not {xs : List Tx} {s : Tx} {k : Nat} (hx : k < xs.length) (h : s ∉ xs.take k) (e : xs[k] ≠ s) : s ∉ xs.take (k + 1) := by
  rw [List.take_succ_eq_append_getElem hx, List.mem_append, List.mem_singleton]
  rintro (h' | h')
  · exact h h'
  · exact e h'.symm
set_option maxHeartbeats 1600000 in
theorem hasrow_any {B : Nat} {w : World} {v : Value} {xs : List Tx} (h : RowAt B w encS v xs) (hl : xs.length ≤ 1000000000000) (s : Tx) :
    Calls Try.prog 12 #[v, .string ⟨s.toArray⟩] w (fun e w' => e = .returned (.bool (decide (s ∈ xs))) ∧ w = w') := by
  have H := Lib.hid h
  obtain ⟨p, cap, rfl, -, -⟩ := h
  generalize hn : xs.length = len at *
  have HX := Lib.hid hn
  clear hn
  go_enter Try.func12, Try.ntmps12
  go_wp2_with fail
  go_loop [5] (fun i => ∃ k : Nat, k ≤ len ∧ i = .int .i64 k ∧ Hid (s ∉ xs.take k)) (fun i => len - (intOf i).toNat)
  case atStart => exact ⟨0, Nat.zero_le _, rfl, (by simp : s ∉ xs.take 0)⟩
  case round =>
    obtain ⟨k, hk, rfl, HE⟩ := hrel
    by_cases hlt : k < len
    · have hlx : k < xs.length := by rw [HX.out]; exact hlt
      obtain ⟨g, o, rfl, hg, -, hc⟩ := row_string (H.out) k hlx
      by_cases he : xs[k] = s
      · have hb : (xs[k] == s) = true := by rw [he]; simp
        have HD : Hid (decide (s ∈ xs) = true) := decide_eq_true (by rw [← he]; exact List.getElem_mem hlx)
        clear he
        generalize xs[k] = x at *
        go_wp2
        go_ret
        exact ⟨by rw [HD.out]; rfl, rfl⟩
      · have hb : (xs[k] == s) = false := by rw [beq_eq_false_iff_ne]; exact he
        have HS : Hid (s ∉ xs.take (k + 1)) := take_not hlx HE.out he
        clear he
        generalize xs[k] = x at *
        go_wp2
        go_round
        case rel => exact ⟨k + 1, by omega, by go_num, HS⟩
        case measure => simp [intOf]; omega
    · obtain rfl : k = len := by omega
      have HD : Hid (decide (s ∈ xs) = false) := by
        have := HE.out
        rw [List.take_of_length_le (by rw [HX.out]; exact Nat.le_refl _)] at this
        exact decide_eq_false this
      go_wp2
      go_ret
      exact ⟨by rw [HD.out]; rfl, rfl⟩
end Go.Proofs.Ytemgocegnlehoaa.N6
