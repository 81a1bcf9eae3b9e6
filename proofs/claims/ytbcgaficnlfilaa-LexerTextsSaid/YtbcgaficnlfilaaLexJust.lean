/- The contract of the document's own Just on two rows of the same words. -/
import Derived.Test.YtbcgaficnlfilaaLexRef
import Derived.BigQuiet
import Derived.Deep.QuietTactic
import Derived.Deep.LoopGhost
namespace Go.Proofs.Ytbcgaficnlfilaa
open Go.RowKit

/-- a row of words, as a value: where its cells lie -/
theorem row_cells {w : World} {base : Nat} {e : TypeId} {v : Value} {xs : List Tk} (h : w.ownsRow base e 4 v xs.length (cellsL xs)) :
    (v = .slice none 0 0 ∧ xs = []) ∨ ∃ g cap, v = .slice (some ⟨g, 0, none⟩) xs.length cap ∧ base ≤ g ∧ g < w.heap.size ∧ ∀ j (hj : j < xs.length),
      w.cell? ⟨g, j * 4, none⟩ = some (.int .i64 xs[j].kind) ∧ w.cell? ⟨g, j * 4 + 1, none⟩ = some (.int .i64 xs[j].pos) ∧ w.cell? ⟨g, j * 4 + 2, none⟩ = some (.int .i64 xs[j].num) ∧ w.cell? ⟨g, j * 4 + 3, none⟩ = some (.string ⟨xs[j].text.toArray⟩) := by
  rcases h.2 with ⟨rfl, hn⟩ | ⟨g, cap, cur, rfl, hb, hg, hle, hm, hcs, htake⟩
  · exact .inl ⟨rfl, List.length_eq_zero_iff.1 hn⟩
  · right
    refine ⟨g, cap, rfl, hb, ?_, fun j hj => ?_⟩
    · rcases Nat.lt_or_ge g w.heap.size with h' | h'
      · exact h'
      · simp [Array.getElem?_eq_none h'] at hg
    · have hget : ∀ i, i < 4 → w.cell? ⟨g, j * 4 + i, none⟩ = (xs[j].cells)[i]? := fun i hi => by
        have h1 : w.cell? ⟨g, j * 4 + i, none⟩ = cur[j * 4 + i]? := by simp [World.cell?, hg]
        have h2 : cur[j * 4 + i]? = (cellsL xs)[j * 4 + i]? := by
          rw [← htake, List.getElem?_take_of_lt (by omega), Array.getElem?_toList]
        have h3 : ∀ (l : List Tk) (j : Nat) (hj : j < l.length), (cellsL l)[j * 4 + i]? = (l[j].cells)[i]? := by
          intro l
          induction l with
          | nil => intro j hj; simp at hj
          | cons t r ih =>
            intro j hj
            have hlen : t.cells.length = 4 := rfl
            show (t.cells ++ cellsL r)[j * 4 + i]? = _
            cases j with
            | zero =>
              rw [List.getElem?_append_left (by rw [hlen]; omega)]; simp
            | succ j =>
              rw [List.getElem?_append_right (by rw [hlen]; omega), hlen, show (j + 1) * 4 + i - 4 = j * 4 + i by omega, ih j (by simpa using hj)]
              rfl
        rw [h1, h2, h3 xs j hj]
      exact ⟨hget 0 (by omega), hget 1 (by omega), hget 2 (by omega), hget 3 (by omega)⟩

set_option maxHeartbeats 4000000 in
theorem just_none (w : World) : Calls Try.prog 11 #[.slice none 0 0, .slice none 0 0] w (RunsTo true w) := by
  go_enter Try.func11, Try.ntmps11
  go_wp2_with fail
  go_loopg [5] 0 (fun g i wx => i = .int .i64 0 ∧ Below w.heap.size w wx)
  case atStart => exact ⟨rfl, Below.refl _ _⟩
  case round =>
    obtain ⟨rfl, hB⟩ := hrel
    go_wp2_with fail
    try rw [Exit.noGoto_ret]
    go_ret
    exact ⟨rfl, hB⟩

set_option maxHeartbeats 4000000 in
theorem just_same (g1 c1 g2 c2 n : Nat) (xs : List Tk) (w : World) (hn : n = xs.length) (hn9 : n ≤ 1000000000) (l1 : g1 < w.heap.size) (l2 : g2 < w.heap.size)
    (h1 : ∀ j (hj : j < xs.length), w.cell? ⟨g1, j * 4, none⟩ = some (.int .i64 xs[j].kind) ∧ w.cell? ⟨g1, j * 4 + 1, none⟩ = some (.int .i64 xs[j].pos) ∧ w.cell? ⟨g1, j * 4 + 2, none⟩ = some (.int .i64 xs[j].num) ∧ w.cell? ⟨g1, j * 4 + 3, none⟩ = some (.string ⟨xs[j].text.toArray⟩))
    (h2 : ∀ j (hj : j < xs.length), w.cell? ⟨g2, j * 4, none⟩ = some (.int .i64 xs[j].kind) ∧ w.cell? ⟨g2, j * 4 + 1, none⟩ = some (.int .i64 xs[j].pos) ∧ w.cell? ⟨g2, j * 4 + 2, none⟩ = some (.int .i64 xs[j].num) ∧ w.cell? ⟨g2, j * 4 + 3, none⟩ = some (.string ⟨xs[j].text.toArray⟩)) :
    Calls Try.prog 11 #[.slice (some ⟨g1, 0, none⟩) n c1, .slice (some ⟨g2, 0, none⟩) n c2] w (RunsTo true w) := by
  have HN : Hid (n = xs.length) := hn
  have H1 : Hid (∀ j (hj : j < xs.length), w.cell? ⟨g1, j * 4, none⟩ = some (.int .i64 xs[j].kind) ∧ w.cell? ⟨g1, j * 4 + 1, none⟩ = some (.int .i64 xs[j].pos) ∧ w.cell? ⟨g1, j * 4 + 2, none⟩ = some (.int .i64 xs[j].num) ∧ w.cell? ⟨g1, j * 4 + 3, none⟩ = some (.string ⟨xs[j].text.toArray⟩)) := h1
  have H2 : Hid (∀ j (hj : j < xs.length), w.cell? ⟨g2, j * 4, none⟩ = some (.int .i64 xs[j].kind) ∧ w.cell? ⟨g2, j * 4 + 1, none⟩ = some (.int .i64 xs[j].pos) ∧ w.cell? ⟨g2, j * 4 + 2, none⟩ = some (.int .i64 xs[j].num) ∧ w.cell? ⟨g2, j * 4 + 3, none⟩ = some (.string ⟨xs[j].text.toArray⟩)) := h2
  clear hn h1 h2
  go_enter Try.func11, Try.ntmps11
  go_wp2_with fail
  go_loopg [5] n (fun g i wx => ∃ k : Nat, k + g = n ∧ i = .int .i64 (k : Int) ∧ Below w.heap.size w wx)
  case atStart => exact ⟨0, by omega, rfl, Below.refl _ _⟩
  case round =>
    obtain ⟨k, hkg, rfl, hB⟩ := hrel
    cases gk with
    | zero =>
      obtain rfl : k = n := by omega
      go_wp2_with fail
      try rw [Exit.noGoto_ret]
      go_ret
      exact ⟨rfl, hB⟩
    | succ g =>
      have hlt : k < n := by omega
      have hlt' : (k : Int) < n := by omega
      have hkl : k < xs.length := by rw [← HN.out]; exact hlt
      obtain ⟨a0, a1, a2, a3⟩ := H1.out k hkl
      obtain ⟨b0, b1, b2, b3⟩ := H2.out k hkl
      have a0 := (hB.cell (p := ⟨g1, k * 4, none⟩) l1).trans a0
      have a1 := (hB.cell (p := ⟨g1, k * 4 + 1, none⟩) l1).trans a1
      have a2 := (hB.cell (p := ⟨g1, k * 4 + 2, none⟩) l1).trans a2
      have a3 := (hB.cell (p := ⟨g1, k * 4 + 3, none⟩) l1).trans a3
      have b0 := (hB.cell (p := ⟨g2, k * 4, none⟩) l2).trans b0
      have b1 := (hB.cell (p := ⟨g2, k * 4 + 1, none⟩) l2).trans b1
      have b2 := (hB.cell (p := ⟨g2, k * 4 + 2, none⟩) l2).trans b2
      have b3 := (hB.cell (p := ⟨g2, k * 4 + 3, none⟩) l2).trans b3
      generalize xs[k].kind = x0 at *
      generalize xs[k].pos = x1 at *
      generalize xs[k].num = x2 at *
      generalize (⟨xs[k].text.toArray⟩ : ByteArray) = x3 at *
      clear hkl
      go_wp2_with fail
      go_quiet (fail)
      go_wp2_with fail
      go_roundg g
      case measure => omega
      case rel => exact ⟨k + 1, by omega, by go_num, below_drewN hB _⟩
end Go.Proofs.Ytbcgaficnlfilaa
