/- The contracts of the document's own cursor: Leave, Enter, Done, Take, Want. -/
import Derived.Test.YtehcccjgepbnjaaCurRef3
namespace Go.Proofs.Ytehcccjgepbnjaa
open Go.RowKit
attribute [local go_sem] fld0 fld1

set_option maxHeartbeats 1600000 in
theorem refleave_any {n : Nat} {w : World} {x : Value} {c : Cu} (h : RefIs n w x c) (hn : n ≤ w.heap.size) (hok : CuOk c) : Calls Try.prog 26 #[x] w (RefOne n c.leave w) := by
  obtain ⟨a, ln, cap, rfl, hr, -⟩ := h.shape
  have hdeep := hok.deep
  clear h hok
  have hcase : (((c.err == 0) = false ∨ ((c.err == 0) = true ∧ decide (0 < c.nest) = false)) ∧ Hid (c.leave = c)) ∨ ((c.err == 0) = true ∧ decide (0 < c.nest) = true ∧ 0 < c.nest ∧ Hid (c.leave = { c with nest := c.nest - 1 })) := by
    by_cases he : c.err = 0
    · by_cases hl : 0 < c.nest
      · exact .inr ⟨by rw [he]; rfl, by simp [hl], hl, by show _ = _; unfold Cu.leave; rw [if_pos he]⟩
      · refine .inl ⟨.inr ⟨by rw [he]; rfl, by simp; omega⟩, ?_⟩
        show _ = _
        have h0 : c.nest = 0 := by omega
        unfold Cu.leave; rw [if_pos he, h0]
        show ({ c with nest := 0 } : Cu) = c
        rw [← h0]
    · exact .inl ⟨.inl (by rw [beq_eq_false_iff_ne]; exact he), by show _ = _; unfold Cu.leave; rw [if_neg he]⟩
  rcases hcase with ⟨hb, hR⟩ | ⟨hb, hb2, hl, hR⟩
  · rcases hb with hb | ⟨hb, hb2⟩
    all_goals (
      go_enter Try.func26, Try.ntmps26
      go_wp2_with fail
      refine bodyPost_ret (v := .agg (refC (.slice a ln cap) c.ep c.nest c.err c.pos)) (by simp [results, Try.results26, go_sem]) rfl ?_
      refine and_self_imp (P := Below w.heap.size w _) ?_ fun hF => ⟨_, rfl, ?_, hF⟩
      · exact ((Below.refl _ w).alloc (Nat.le_refl _) _).alloc (by simp) _
      · rw [hR.out]
        exact ⟨_, rfl, hr.out.below (hF.mono hn)⟩)
  · have hc1 : ((c.nest : Int) - 1) = ((c.nest - 1 : Nat) : Int) := by omega
    go_enter Try.func26, Try.ntmps26
    go_wp2_with fail
    refine bodyPost_ret (v := .agg (refC (.slice a ln cap) c.ep ((c.nest - 1 : Nat) : Int) c.err c.pos)) (by simp [results, Try.results26, go_sem]) rfl ?_
    refine and_self_imp (P := Below w.heap.size w _) ?_ fun hF => ⟨_, rfl, ?_, hF⟩
    · exact ((Below.refl _ w).alloc (Nat.le_refl _) _).alloc (by simp) _
    · rw [hR.out]
      exact ⟨_, rfl, hr.out.below (hF.mono hn)⟩

set_option maxHeartbeats 1600000 in
theorem refdone_any {n : Nat} {w : World} {x : Value} {c : Cu} (h : RefIs n w x c) (hn : n ≤ w.heap.size) (hok : CuOk c) : Calls Try.prog 30 #[x] w (DoneIs c.doneP c.doneE w) := by
  obtain ⟨a, ln, cap, rfl, hr, hln⟩ := h.shape
  clear h
  have hBa : Below w.heap.size w (w.alloc (refO (.slice a ln cap) c)) := (Below.refl _ w).alloc (Nat.le_refl _) _
  by_cases he : c.err = 0
  · have hb : (c.err != 0) = false := by rw [he]; rfl
    by_cases hl : c.at' < c.ws.length
    · have hP : Hid (c.doneP = (c.tok c.at').pos) := by show _ = _; unfold Cu.doneP; rw [if_pos he]
      have ht : c.tok c.at' = c.ws[c.at'] := by unfold Cu.tok; rw [List.getD_eq_getElem?_getD, List.getElem?_eq_getElem hl]; rfl
      have hE : Hid (c.doneE = 5) := by show _ = _; unfold Cu.doneE; rw [if_pos he, ht, if_neg (hok.kinds _ (List.getElem_mem hl))]
      have hlen : (c.ws.drop c.at').length = c.ws.length - c.at' := List.length_drop
      obtain ⟨k, rfl⟩ : ∃ k, ln = k + 1 := ⟨ln - 1, by have := hln.out; omega⟩
      obtain ⟨g, o, rfl, hg, hc⟩ : ∃ g o, a = some ⟨g, o, none⟩ ∧ g < n ∧ TkAt w g o 0 (c.ws[c.at']) := by
        obtain ⟨a', cap', h1, _, h2⟩ := hr.out
        rcases h2 with h2 | ⟨g, o, h3, h4, h5⟩
        · rw [h2] at hln; have := hln.out; simp at this
        · injection h1 with h1
          refine ⟨g, o, by rw [h1, h3], h4, ?_⟩
          have := h5 0 (by omega)
          rwa [List.getElem_drop] at this
      obtain ⟨-, a1, -, -⟩ := hc
      rw [Nat.zero_mul, Nat.add_zero] at a1
      rw [ht] at hP
      have b1 := (hBa.cell (p := ⟨g, o + 1, none⟩) (Nat.lt_of_lt_of_le hg hn)).trans a1
      have hk1 : decide (0 < k + 1) = true := by simp
      generalize c.ws[c.at'].pos = p at *
      clear he hl ht hr hln a1 hlen hok
      go_enter Try.func30, Try.ntmps30
      go_wp2_with fail
      refine bodyPost_ret (v := .tuple #[.int .i64 p, .int .i64 5]) (by simp [results, Try.results30, go_sem]) rfl ⟨by rw [hP.out, hE.out], hBa⟩
    · have hP : Hid (c.doneP = c.ep) := by show _ = _; unfold Cu.doneP; rw [if_pos he, tok_end (by omega)]
      have hE : Hid (c.doneE = 0) := by show _ = _; unfold Cu.doneE; rw [if_pos he, tok_end (by omega)]; rfl
      obtain rfl : ln = 0 := by have := hln.out; rw [List.length_drop] at this; omega
      clear he hl hr hln hok
      go_enter Try.func30, Try.ntmps30
      go_wp2_with fail
      refine bodyPost_ret (v := .tuple #[.int .i64 c.ep, .int .i64 0]) (by simp [results, Try.results30, go_sem]) rfl ⟨by rw [hP.out, hE.out], hBa⟩
  · have hb : (c.err != 0) = true := by rw [bne_iff_ne]; exact he
    have hP : Hid (c.doneP = c.pos) := by show _ = _; unfold Cu.doneP; rw [if_neg he]
    have hE : Hid (c.doneE = c.err) := by show _ = _; unfold Cu.doneE; rw [if_neg he]
    clear he hr hln hok
    go_enter Try.func30, Try.ntmps30
    go_wp2_with fail
    go_quiet (fail)
    go_wp2_with fail
    refine bodyPost_ret (v := .tuple #[.int .i64 c.pos, .int .i64 c.err]) (by simp [results, Try.results30, go_sem]) rfl ⟨by rw [hP.out, hE.out], below_drewN hBa _⟩
end Go.Proofs.Ytehcccjgepbnjaa
