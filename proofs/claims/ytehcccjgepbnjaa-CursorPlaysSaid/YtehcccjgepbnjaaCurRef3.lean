/- The contracts of the document's own cursor: Fail, Leave, Enter, Done. -/
import Derived.Test.YtehcccjgepbnjaaCurRef2
namespace Go.Proofs.Ytehcccjgepbnjaa
open Go.RowKit
attribute [local go_sem] fld0 fld1

theorem two_blocks {w w9 : World} {xs ys : Array Value} {t0 t1 : TypeId} {n : Nat} (h9 : Below n ((w.alloc (.cells xs t0)).alloc (.cells ys t1)) w9) (hn : w.heap.size + 1 < n) : w9.heap[w.heap.size]? = some (.cells xs t0 (0, 0)) ∧ w9.heap[w.heap.size + 1]? = some (.cells ys t1 (0, 0)) := by
  refine ⟨(h9.block _ (by omega)).trans ?_, (h9.block _ hn).trans ?_⟩
  · exact (Below.heap_alloc _ _ _ (by simp)).trans (World.alloc_heap_new w _)
  · have := World.alloc_heap_new (w.alloc (.cells xs t0)) (.cells ys t1)
    rwa [World.size_alloc] at this
theorem cells8 {w : World} {b0 : Nat} {t0 : TypeId} {x0 x1 x2 x3 x4 x5 x6 x7 : Value} (h0 : w.heap[b0]? = some (.cells #[x0, x1, x2, x3, x4, x5, x6, x7] t0 (0, 0))) :
    (w.cell? ⟨b0, 0, none⟩ = some x0 ∧ w.cell? ⟨b0, 1, none⟩ = some x1 ∧ w.cell? ⟨b0, 2, none⟩ = some x2 ∧ w.cell? ⟨b0, 3, none⟩ = some x3 ∧ w.cell? ⟨b0, 4, none⟩ = some x4 ∧ w.cell? ⟨b0, 5, none⟩ = some x5 ∧ w.cell? ⟨b0, 6, none⟩ = some x6 ∧ w.cell? ⟨b0, 7, none⟩ = some x7) ∧
    (w.frozen? ⟨b0, 0, none⟩ = false ∧ w.frozen? ⟨b0, 1, none⟩ = false ∧ w.frozen? ⟨b0, 2, none⟩ = false ∧ w.frozen? ⟨b0, 3, none⟩ = false ∧ w.frozen? ⟨b0, 4, none⟩ = false ∧ w.frozen? ⟨b0, 5, none⟩ = false ∧ w.frozen? ⟨b0, 6, none⟩ = false ∧ w.frozen? ⟨b0, 7, none⟩ = false) := by
  refine ⟨⟨?_, ?_, ?_, ?_, ?_, ?_, ?_, ?_⟩, ⟨?_, ?_, ?_, ?_, ?_, ?_, ?_, ?_⟩⟩ <;> simp [World.cell?, World.frozen?, h0]

set_option maxHeartbeats 1600000 in
theorem reffail_any {n : Nat} {w : World} {x : Value} {c : Cu} (h : RefIs n w x c) (hn : n ≤ w.heap.size) (k : Int) : Calls Try.prog 27 #[x, .int .i64 k] w (RefOne n (c.fail k) w) := by
  obtain ⟨a, ln, cap, rfl, hr, -⟩ := h.shape
  clear h
  have hBa : Below w.heap.size w ((w.alloc (refO (.slice a ln cap) c)).alloc refZ) := ((Below.refl _ w).alloc (Nat.le_refl _) _).alloc (by simp) _
  have HP := refpeek_any (n := n) (w := (w.alloc (refO (.slice a ln cap) c)).alloc refZ) (c := c) ⟨_, rfl, hr.out.below (hBa.mono hn)⟩ (by simp; omega)
  by_cases he : c.err = 0
  · have hb : (c.err != 0) = false := by rw [he]; rfl
    have hpk : c.peek = c.tok c.at' := by unfold Cu.peek; rw [if_pos he]
    have hv : (c.tok c.at').val = .agg #[.int .i64 (c.tok c.at').kind, .int .i64 (c.tok c.at').pos, .int .i64 (c.tok c.at').num, .string ⟨(c.tok c.at').text.toArray⟩] := rfl
    rw [hpk, hv] at HP
    have hR : Hid (c.fail k = { c with pos := (c.tok c.at').pos, err := if k = 0 then 1 else k }) := by show _ = _; unfold Cu.fail; rw [if_pos he]
    generalize c.tok c.at' = t at *
    clear he hpk hv
    have hcase : ∃ k', Hid ((if k = 0 then 1 else k) = k') ∧ (((k == 0) = true ∧ k' = 1) ∨ ((k == 0) = false ∧ k' = k)) := by
      by_cases h0 : k = 0
      · exact ⟨1, by show _ = _; rw [if_pos h0], .inl ⟨by rw [h0]; rfl, rfl⟩⟩
      · exact ⟨k, by show _ = _; rw [if_neg h0], .inr ⟨by rw [beq_eq_false_iff_ne]; exact h0, rfl⟩⟩
    obtain ⟨k', hk', hcase⟩ := hcase
    rcases hcase with ⟨hkb, rfl⟩ | ⟨hkb, rfl⟩
    all_goals (
      go_enter Try.func27, Try.ntmps27
      go_wp2_with fail
      refine HP.mono ?_; rintro e w2 ⟨rfl, hB2⟩
      clear HP
      obtain ⟨o1, o2⟩ := two_blocks hB2 (by simp)
      obtain ⟨⟨x0, x1, x2, x3, x4, x5, x6, x7⟩, ⟨-, -, -, -, -, -, f6, f7⟩⟩ := cells8 o1
      obtain ⟨⟨y0, y1, y2, y3, y4, y5, y6, y7⟩, ⟨g0, g1, g2, g3, g4, g5, g6, g7⟩⟩ := cells8 o2
      have hfin := hBa.trans (hB2.mono hBa.size)
      clear o1 o2 hB2
      go_wp2_with fail
      refine bodyPost_ret (v := .agg (refC (.slice a ln cap) c.ep c.nest _ t.pos)) (by simp [results, Try.results27, go_sem, y0, y1, y2, y3, y4, y5, y6, y7]; rfl) rfl ?_
      refine and_self_imp (P := Below w.heap.size w _) ?_ fun hF => ⟨_, rfl, ?_, hF⟩
      · repeat refine Below.setCell ?_ (by dsimp only; omega) _
        exact hfin
      · rw [hR.out, hk'.out]
        exact ⟨_, rfl, hr.out.below (hF.mono hn)⟩)
  · have hb : (c.err != 0) = true := by rw [bne_iff_ne]; exact he
    have hR : Hid (c.fail k = c) := by show _ = _; unfold Cu.fail; rw [if_neg he]
    clear he HP
    go_enter Try.func27, Try.ntmps27
    go_wp2_with fail
    refine bodyPost_ret (v := .agg (refC (.slice a ln cap) c.ep c.nest c.err c.pos)) (by simp [results, Try.results27, go_sem]) rfl ?_
    refine and_self_imp (P := Below w.heap.size w _) ?_ fun hF => ⟨_, rfl, ?_, hF⟩
    · exact ((Below.refl _ w).alloc (Nat.le_refl _) _).alloc (by simp) _
    · rw [hR.out]
      exact ⟨_, rfl, hr.out.below (hF.mono hn)⟩
end Go.Proofs.Ytehcccjgepbnjaa
