/- Whether vertices and edges may be: Check, on both sides; few. -/
import Derived.Test.YtbkiamecdangpaaDoorGraMarks
import Derived.Test.YtbkiamecdangpaaDoorRow
set_option linter.unusedVariables false
set_option linter.unusedSimpArgs false
namespace Go.Proofs.YtbkiamecdangpaaDoor.N13
open Go.RowKit

def encE (e : Ed) : List Value := [.int .i64 e.1, .int .i64 e.2]
/-- a slice of edges that came in -/
def EdAt (w : World) (v : Value) (E : List Ed) : Prop := RowAt w.heap.size w encE v E
section
variable {w w' : World} {v : Value} {E : List Ed} {n : Int}
theorem EdAt.later (h : EdAt w v E) (hB : Below w.heap.size w w') : EdAt w' v E := RowAt.later h hB
theorem EdAt.slice (h : EdAt w v E) : ∃ p cap, v = .slice p E.length cap := by obtain ⟨p, cap, h, _⟩ := h; exact ⟨p, cap, h⟩
theorem EdAt.at {p : Option Addr} {l cap : Nat} (h : EdAt w (.slice p l cap) E) {k : Nat} (hk : k < E.length) :
    ∃ g o, p = some ⟨g, o, none⟩ ∧ g < w.heap.size ∧ w.cell? ⟨g, o + k * 2, none⟩ = some (.int .i64 E[k].1) ∧ w.cell? ⟨g, o + k * 2 + 1, none⟩ = some (.int .i64 E[k].2) := by
  obtain ⟨g, o, cap', e, -, hg, hg', hc⟩ := RowAt.at h (by omega)
  injection e with e1 e2 e3
  have f0 := flat_at (enc := encE) (k := 2) (fun _ => rfl) E k hk 0 (by omega)
  have f1 := flat_at (enc := encE) (k := 2) (fun _ => rfl) E k hk 1 (by omega)
  exact ⟨g, o, e1, hg, hc _ _ f0, by have := hc _ _ f1; rw [← Nat.add_assoc] at this; exact this⟩
def edOk (n : Int) (e : Ed) : Bool := decide (0 ≤ e.1 ∧ e.1 < n ∧ 0 ≤ e.2 ∧ e.2 < n)
def okP (n : Int) (E : List Ed) : Bool := decide (0 ≤ n ∧ n ≤ 1000) && E.all (edOk n)
def chkP (n : Int) (E : List Ed) : Int := if okP n E = true then 0 else 1
theorem chk_bad {k : Nat} (hk : k < E.length) (h : edOk n E[k] = false) : chkP n E = 1 := by
  unfold chkP okP
  have : E.all (edOk n) = false := by
    rw [List.all_eq_false]
    exact ⟨E[k], List.getElem_mem hk, by rw [h]; decide⟩
  rw [this, Bool.and_false]; rfl
theorem chk_range (h : ¬ (0 ≤ n ∧ n ≤ 1000)) : chkP n E = 1 := by
  unfold chkP okP
  rw [decide_eq_false h, Bool.false_and]; rfl
theorem chk_ok (hn : 0 ≤ n ∧ n ≤ 1000) (h : ∀ k (hk : k < E.length), edOk n E[k] = true) : chkP n E = 0 := by
  unfold chkP okP
  have : E.all (edOk n) = true := by
    rw [List.all_eq_true]
    intro x hx
    obtain ⟨k, hk, rfl⟩ := List.getElem_of_mem hx
    exact h k hk
  rw [this, decide_eq_true hn]; rfl

set_option maxRecDepth 100000 in
set_option maxHeartbeats 4000000 in
theorem check_any (h : EdAt w v E) (hl : E.length ≤ 150) : Calls Tryd.prog 13 #[.int .i64 n, v] w (fun e w' => e = .returned (.int .i64 (chkP n E)) ∧ Below w.heap.size w w') := by
  have HH := Lib.hid h
  obtain ⟨p, cap, rfl⟩ := h.slice
  clear h
  by_cases h0 : n < 0
  · have HC := Lib.hid (chk_range (n := n) (E := E) (by omega))
    go_enter Tryd.func13, Tryd.ntmps13
    go_wp2
    go_ret
    exact ⟨by rw [HC.out]; rfl, Below.refl _ _⟩
  by_cases h1 : 1000 < n
  · have HC := Lib.hid (chk_range (n := n) (E := E) (by omega))
    go_enter Tryd.func13, Tryd.ntmps13
    go_wp2
    go_ret
    exact ⟨by rw [HC.out]; rfl, Below.refl _ _⟩
  have hn : 0 ≤ n ∧ n ≤ 1000 := by omega
  have HN := Lib.hid hn
  go_enter Tryd.func13, Tryd.ntmps13
  go_wp2
  go_loopw [15] (fun i wr => ∃ k : Nat, k ≤ E.length ∧ i = .int .i64 k ∧ Below w.heap.size w wr ∧ Hid (∀ j (hj : j < E.length), j < k → edOk n E[j] = true)) (fun i _ => E.length - (intOf i).toNat)
  case atStart => exact ⟨0, Nat.zero_le _, rfl, Below.refl _ _, Lib.hid fun j _ hj => absurd hj (Nat.not_lt_zero _)⟩
  case round =>
    obtain ⟨k, hk, rfl, hB, HI⟩ := hrel
    by_cases hlt : k < E.length
    · obtain ⟨g, o, rfl, hg, c0, c1⟩ := (HH.out.later hB).at hlt
      have HB := @chk_bad E n k hlt
      have HI2 : edOk n E[k] = true → ∀ j (hj : j < E.length), j < k + 1 → edOk n E[j] = true := fun hk j hj hjk => by
        by_cases e : j = k
        · subst e; exact hk
        · exact HI.out j hj (by omega)
      unfold edOk at HB HI2
      generalize E[k] = ed at c0 c1 HB HI2
      obtain ⟨a, b⟩ := ed
      dsimp only at c0 c1 HB HI2
      have HB' : ¬ (0 ≤ a ∧ a < n ∧ 0 ≤ b ∧ b < n) → chkP n E = 1 := fun q => HB (decide_eq_false q)
      by_cases t1 : a < 0
      ·
        have HC := Lib.hid (HB' (by omega))
        clear HB HB' HI HI2
        go_wp2
        go_ret
        exact ⟨by rw [HC.out]; rfl, hB.alloc hB.size _⟩
      by_cases t2 : n ≤ a
      ·
        have HC := Lib.hid (HB' (by omega))
        clear HB HB' HI HI2
        go_wp2
        go_ret
        exact ⟨by rw [HC.out]; rfl, hB.alloc hB.size _⟩
      by_cases t3 : b < 0
      ·
        have HC := Lib.hid (HB' (by omega))
        clear HB HB' HI HI2
        go_wp2
        go_ret
        exact ⟨by rw [HC.out]; rfl, hB.alloc hB.size _⟩
      by_cases t4 : n ≤ b
      ·
        have HC := Lib.hid (HB' (by omega))
        clear HB HB' HI HI2
        go_wp2
        go_ret
        exact ⟨by rw [HC.out]; rfl, hB.alloc hB.size _⟩
      have HI3 := Lib.hid (HI2 (decide_eq_true (by omega)))
      clear HB HB' HI HI2
      go_wp2
      go_roundw
      case rel => exact ⟨k + 1, by omega, by go_num, hB.alloc hB.size _, HI3⟩
      case measure => simp [intOf]; omega
    · have HC := Lib.hid (chk_ok HN.out fun j hj => HI.out j hj (by omega))
      have hlt' : ¬ (k : Int) < (E.length : Int) := by omega
      clear HI
      go_wp2
      go_ret
      exact ⟨by rw [HC.out]; rfl, hB⟩


set_option maxRecDepth 100000 in
set_option maxHeartbeats 4000000 in
theorem refcheck_any (h : EdAt w v E) (hl : E.length ≤ 150) : Calls Tryd.prog 14 #[.int .i64 n, v] w (fun e w' => e = .returned (.int .i64 (chkP n E)) ∧ Below w.heap.size w w') := by
  have HH := Lib.hid h
  obtain ⟨p, cap, rfl⟩ := h.slice
  clear h
  by_cases h0 : n < 0
  · have HC := Lib.hid (chk_range (n := n) (E := E) (by omega))
    go_enter Tryd.func14, Tryd.ntmps14
    go_wp2
    go_ret
    exact ⟨by rw [HC.out]; rfl, Below.refl _ _⟩
  by_cases h1 : 1000 < n
  · have HC := Lib.hid (chk_range (n := n) (E := E) (by omega))
    go_enter Tryd.func14, Tryd.ntmps14
    go_wp2
    go_ret
    exact ⟨by rw [HC.out]; rfl, Below.refl _ _⟩
  have hn : 0 ≤ n ∧ n ≤ 1000 := by omega
  have HN := Lib.hid hn
  go_enter Tryd.func14, Tryd.ntmps14
  go_wp2
  go_loopw [5] (fun i wr => ∃ k : Nat, k ≤ E.length ∧ i = .int .i64 k ∧ Below w.heap.size w wr ∧ Hid (∀ j (hj : j < E.length), j < k → edOk n E[j] = true)) (fun i _ => E.length - (intOf i).toNat)
  case atStart => exact ⟨0, Nat.zero_le _, rfl, Below.refl _ _, Lib.hid fun j _ hj => absurd hj (Nat.not_lt_zero _)⟩
  case round =>
    obtain ⟨k, hk, rfl, hB, HI⟩ := hrel
    by_cases hlt : k < E.length
    · obtain ⟨g, o, rfl, hg, c0, c1⟩ := (HH.out.later hB).at hlt
      have HB := @chk_bad E n k hlt
      have HI2 : edOk n E[k] = true → ∀ j (hj : j < E.length), j < k + 1 → edOk n E[j] = true := fun hk j hj hjk => by
        by_cases e : j = k
        · subst e; exact hk
        · exact HI.out j hj (by omega)
      unfold edOk at HB HI2
      generalize E[k] = ed at c0 c1 HB HI2
      obtain ⟨a, b⟩ := ed
      dsimp only at c0 c1 HB HI2
      have HB' : ¬ (0 ≤ a ∧ a < n ∧ 0 ≤ b ∧ b < n) → chkP n E = 1 := fun q => HB (decide_eq_false q)
      by_cases t1 : a < 0
      ·
        have HC := Lib.hid (HB' (by omega))
        clear HB HB' HI HI2
        go_wp2
        go_ret
        exact ⟨by rw [HC.out]; rfl, hB.alloc hB.size _⟩
      by_cases t2 : n ≤ a
      ·
        have HC := Lib.hid (HB' (by omega))
        clear HB HB' HI HI2
        go_wp2
        go_ret
        exact ⟨by rw [HC.out]; rfl, hB.alloc hB.size _⟩
      by_cases t3 : b < 0
      ·
        have HC := Lib.hid (HB' (by omega))
        clear HB HB' HI HI2
        go_wp2
        go_ret
        exact ⟨by rw [HC.out]; rfl, hB.alloc hB.size _⟩
      by_cases t4 : n ≤ b
      ·
        have HC := Lib.hid (HB' (by omega))
        clear HB HB' HI HI2
        go_wp2
        go_ret
        exact ⟨by rw [HC.out]; rfl, hB.alloc hB.size _⟩
      have HI3 := Lib.hid (HI2 (decide_eq_true (by omega)))
      clear HB HB' HI HI2
      go_wp2
      go_roundw
      case rel => exact ⟨k + 1, by omega, by go_num, hB.alloc hB.size _, HI3⟩
      case measure => simp [intOf]; omega
    · have HC := Lib.hid (chk_ok HN.out fun j hj => HI.out j hj (by omega))
      have hlt' : ¬ (k : Int) < (E.length : Int) := by omega
      clear HI
      go_wp2
      go_ret
      exact ⟨by rw [HC.out]; rfl, hB⟩
end
end Go.Proofs.YtbkiamecdangpaaDoor.N13
