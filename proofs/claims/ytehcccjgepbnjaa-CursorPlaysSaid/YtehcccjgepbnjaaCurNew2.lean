/- The contract of cursor.New. -/
import Derived.Test.YtehcccjgepbnjaaCurNew
namespace Go.Proofs.Ytehcccjgepbnjaa
open Go.RowKit
attribute [local go_sem] fld0 fld1

def newCu (xs : List Tk) : Cu := ⟨xs.take (endL xs), if h : endL xs < xs.length then xs[endL xs].pos else 0, 0, 0, 0, 0⟩
abbrev curC (v : Value) (ep at' nest pos err : Int) : Array Value := #[v, .int .i64 0, .int .i64 ep, .int .i64 0, .string ⟨#[]⟩, .int .i64 at', .int .i64 nest, .int .i64 pos, .int .i64 err]
theorem ahead_kinds (xs : List Tk) : ∀ t ∈ xs.take (endL xs), t.kind ≠ 0 := fun t ht => by
  obtain ⟨j, hj, rfl⟩ := List.mem_iff_getElem.1 ht
  rw [List.getElem_take]
  rw [List.length_take] at hj
  exact endL_ahead xs j (by omega) (by omega)
def MadeIs (c : Cu) (w : World) (e : Ending) (w' : World) : Prop := ∃ v, e = .returned (.pointer (some ⟨w.heap.size, 0, none⟩)) ∧ CurAt w' w.heap.size v c ∧ Below w.heap.size w w' ∧ ∀ g o n cap, v = .slice (some ⟨g, o, none⟩) n cap → w.heap.size < g
set_option maxHeartbeats 3200000 in
theorem new_any (v : Value) (xs : List Tk) (w : World) (h : ArgRow w v xs) (hn : xs.length ≤ 1000) : Calls Try.prog 9 #[v] w (MadeIs (newCu xs) w) := by
  have hBa := (Below.refl _ w).alloc (Nat.le_refl _) (.cells (curC (.slice none 0 0) 0 0 0 0 0) 61)
  have HF := find_any v xs _ (h.below hBa) hn
  have hle := endL_le xs
  have fin : ∀ (ep : Int) (w2 w3 : World) (v' : Value), (newCu xs).ep = ep → w2.heap[w.heap.size]? = some (.cells (curC (.slice none 0 0) ep 0 0 0 0) 61 (0, 0)) → Below w.heap.size w w2 →
      Below w2.heap.size w2 w3 → RowAt w3 w.heap.size v' (xs.take (endL xs)) → CurAt (w3.setCell ⟨w.heap.size, 0, none⟩ v') w.heap.size v' (newCu xs) ∧ Below w.heap.size w (w3.setCell ⟨w.heap.size, 0, none⟩ v') ∧ w3.cell? ⟨w.heap.size, 0, none⟩ = some (.slice none 0 0) ∧ w3.frozen? ⟨w.heap.size, 0, none⟩ = false := fun ep w2 w3 v' hep e1 h2 h3 hr => by
    have hlt : w.heap.size < w2.heap.size := (Array.getElem?_eq_some_iff.1 e1).1
    have e2 := (h3.block _ hlt).trans e1
    refine ⟨⟨?_, hr.kept (grownBy_set w3 w.heap.size 0 v'), Nat.zero_le _, ?_, ahead_kinds xs, Nat.zero_le _⟩, ?_, by simp [World.cell?, e2], by simp [World.frozen?, e2]⟩
    · rw [hep]
      exact heap_set (i := 0) e2 v'
    · show (xs.take (endL xs)).length ≤ 1000
      rw [List.length_take]; omega
    · refine Below.setCell (p := ⟨w.heap.size, 0, none⟩) ?_ (Nat.le_refl _) _
      exact h2.trans (h3.mono (Nat.le_of_lt hlt))
  have blk : ∀ w2, Below (w.alloc (.cells (curC (.slice none 0 0) 0 0 0 0 0) 61)).heap.size (w.alloc (.cells (curC (.slice none 0 0) 0 0 0 0 0) 61)) w2 → w2.heap[w.heap.size]? = some (.cells (curC (.slice none 0 0) 0 0 0 0 0) 61 (0, 0)) := fun w2 h2 => (h2.block _ (by simp)).trans (World.alloc_heap_new w _)
  by_cases hf : endL xs < xs.length
  · obtain ⟨k, hk⟩ : ∃ k, k = endL xs := ⟨_, rfl⟩
    have hep : (newCu xs).ep = xs[endL xs].pos := by show (if h : endL xs < xs.length then _ else _) = _; rw [dif_pos hf]
    have hFI : Hid ((if endL xs < xs.length then (endL xs : Int) else -1) = k) := by show _ = _; rw [if_pos hf, hk]
    obtain ⟨g, o, cap, n, rfl, hnc, hkn, hg, hc⟩ : ∃ g o cap n, v = .slice (some ⟨g, o, none⟩) n cap ∧ n ≤ cap ∧ k < n ∧ g < w.heap.size ∧ ∀ j (hj : j < xs.length), TkAt w g o j xs[j] := by
      rcases h with ⟨_, rfl⟩ | ⟨a, cap, rfl, hcap, h2 | ⟨g, o, rfl, h4, h5⟩⟩
      · simp at hf
      · rw [h2] at hf; simp at hf
      · exact ⟨g, o, cap, _, rfl, hcap, by omega, h4, h5⟩
    have htl : (xs.take (endL xs)).length = k := by rw [List.length_take]; omega
    have HC := fun w2 (hb : Below w.heap.size w w2) (hl : w.heap.size < w2.heap.size) => clone_any (.slice (some ⟨g, o, none⟩) k cap) (xs.take (endL xs)) w2 w.heap.size hl (.inr ⟨_, cap, by rw [htl], by rw [htl]; omega, .inr ⟨g, o, rfl, Nat.lt_of_lt_of_le hg hb.size, fun j hj => by
      rw [List.getElem_take]
      exact (hc j (by rw [List.length_take] at hj; omega)).kept (grownBy_below hb none) (by simp)⟩⟩) (by rw [htl]; omega)
    obtain ⟨-, a1, -, -⟩ := hc (endL xs) hf
    generalize xs[endL xs].pos = ep at *
    rw [← hk] at a1
    unfold FoundIs at HF
    rw [hFI.out] at HF
    have hn9 : n ≤ 1000 ∨ True := .inr trivial
    clear h hc hk htl hle hn hf hn9
    go_enter Try.func9, Try.ntmps9
    go_wp2_with fail
    refine HF.mono ?_; rintro e w2 ⟨rfl, hB2⟩
    have hb2 := hBa.trans (hB2.mono hBa.size)
    have e2 := blk w2 hB2
    have hl2 := (Array.getElem?_eq_some_iff.1 e2).1
    have d2 : w2.cell? ⟨w.heap.size, 2, none⟩ = some (.int .i64 0) := by simp [World.cell?, e2]
    have f2 : w2.frozen? ⟨w.heap.size, 2, none⟩ = false := by simp [World.frozen?, e2]
    have a2 := (hb2.cell (p := ⟨g, o + k * 4 + 1, none⟩) hg).trans a1
    have b3 : Below w.heap.size w (w2.setCell ⟨w.heap.size, 2, none⟩ (.int .i64 ep)) := hb2.setCell (p := ⟨w.heap.size, 2, none⟩) (Nat.le_refl _) _
    have HC := HC _ b3 (by simp; exact hl2)
    have e3 : (w2.setCell ⟨w.heap.size, 2, none⟩ (.int .i64 ep)).heap[w.heap.size]? = some (.cells (curC (.slice none 0 0) ep 0 0 0 0) 61 (0, 0)) := heap_set (i := 2) e2 (.int .i64 ep)
    have fin := fin ep (w2.setCell ⟨w.heap.size, 2, none⟩ (.int .i64 ep))
    clear HF a1 e2
    go_wp2_with fail
    refine HC.mono ?_; rintro e w3 ⟨v', rfl, hr, hB3, hfar⟩
    obtain ⟨k1, k2, d0, f0⟩ := fin w3 v' hep e3 b3 hB3 hr
    obtain ⟨a', cap', hv', -⟩ := hr
    subst hv'
    generalize (xs.take (endL xs)).length = ln at *
    go_wp2_with fail
    go_ret
    exact ⟨_, rfl, k1, k2, fun g o n cap h => by have h1 := hfar g o n cap h; have h2 : (w2.setCell ⟨w.heap.size, 2, none⟩ (.int .i64 ep)).heap.size = w2.heap.size := by simp
                                                 omega⟩
  · have hep : (newCu xs).ep = 0 := by show (if h : endL xs < xs.length then _ else _) = _; rw [dif_neg hf]
    have hFI : Hid ((if endL xs < xs.length then (endL xs : Int) else -1) = -1) := by show _ = _; rw [if_neg hf]
    have htk : xs.take (endL xs) = xs := List.take_of_length_le (by omega)
    have HC := fun w2 (hb : Below w.heap.size w w2) (hl : w.heap.size < w2.heap.size) => clone_any v xs w2 w.heap.size hl (h.below hb) hn
    rw [htk] at fin
    obtain ⟨a, cap, n, rfl, hN, hnn⟩ : ∃ a cap n, v = .slice a n cap ∧ n ≤ cap ∧ (a = none → n = 0 ∧ cap = 0) := by
      rcases h with ⟨rfl, _⟩ | ⟨a, cap, rfl, hc, _⟩
      · exact ⟨none, 0, 0, rfl, Nat.le_refl _, fun _ => ⟨rfl, rfl⟩⟩
      · exact ⟨some a, cap, _, rfl, hc, fun h => by cases h⟩
    unfold FoundIs at HF
    rw [hFI.out] at HF
    clear h hle hn hf htk hFI
    go_enter Try.func9, Try.ntmps9
    go_wp2_with fail
    refine HF.mono ?_; rintro e w2 ⟨rfl, hB2⟩
    have hb2 := hBa.trans (hB2.mono hBa.size)
    have e2 := blk w2 hB2
    have HC := HC _ hb2 (Array.getElem?_eq_some_iff.1 e2).1
    have fin := fin 0 w2
    clear HF
    go_wp2_with fail
    refine HC.mono ?_; rintro e w3 ⟨v', rfl, hr, hB3, hfar⟩
    obtain ⟨k1, k2, d0, f0⟩ := fin w3 v' hep e2 hb2 hB3 hr
    obtain ⟨a', cap', hv', -⟩ := hr
    subst hv'
    go_wp2_with fail
    go_ret
    exact ⟨_, rfl, k1, k2, fun g o n cap h => by have h1 := hfar g o n cap h; have h2 := (Array.getElem?_eq_some_iff.1 e2).1; omega⟩
end Go.Proofs.Ytehcccjgepbnjaa
