/- The contracts of a cursor's functions that only read. -/
import Derived.Test.YtehcccjgepbnjaaCurPlain
namespace Go.Proofs.Ytehcccjgepbnjaa
open Go.RowKit

theorem fld0 (a b c : Int) (d : ByteArray) (w : World) : (Instr.field 29 (.agg #[.int .i64 a, .int .i64 b, .int .i64 c, .string d]) 0).run Try.prog w = .ok (.int .i64 a) w := by kernel_rfl
theorem fld1 (a b c : Int) (d : ByteArray) (w : World) : (Instr.field 29 (.agg #[.int .i64 a, .int .i64 b, .int .i64 c, .string d]) 1).run Try.prog w = .ok (.int .i64 b) w := by kernel_rfl
set_option maxHeartbeats 1600000 in
theorem failed_none (w : World) : Calls Try.prog 36 #[.pointer none] w fun e w' => e = .returned (.bool true) ∧ w = w' := by
  go_enter Try.func36, Try.ntmps36
  go_wp2
  go_ret
  exact ⟨rfl, rfl⟩
set_option maxHeartbeats 1600000 in
theorem failed_any {w : World} {B : Nat} {v : Value} {c : Cu} (h : CurAt w B v c) : Calls Try.prog 36 #[.pointer (some ⟨B, 0, none⟩)] w fun e w' => e = .returned (.bool (c.err != 0)) ∧ w = w' := by
  obtain ⟨⟨c0, c1, c2, c3, c4, c5, c6, c7, c8⟩, _⟩ := h.all
  go_enter Try.func36, Try.ntmps36
  go_wp2
  go_ret
  exact ⟨rfl, rfl⟩
/-- the cells of the word at a place -/
theorem tok_cells {w : World} {B : Nat} {v : Value} {c : Cu} (h : CurAt w B v c) (hk : c.at' < c.ws.length) : ∃ g o cap, v = .slice (some ⟨g, o, none⟩) c.ws.length cap ∧ g < w.heap.size ∧ TkAt w g o c.at' (c.tok c.at') := by
  obtain ⟨a, cap, rfl, _, hr⟩ := h.row
  rcases hr with h0 | ⟨g, o, rfl, hg, _, hc⟩
  · rw [h0] at hk; simp at hk
  · refine ⟨g, o, cap, rfl, hg, ?_⟩
    have := hc c.at' hk
    unfold Cu.tok
    rw [List.getD_eq_getElem?_getD, List.getElem?_eq_getElem hk]; exact this
theorem tok_end {c : Cu} (h : c.ws.length ≤ c.at') : c.tok c.at' = ⟨0, c.ep, 0, []⟩ := by
  unfold Cu.tok
  rw [List.getD_eq_getElem?_getD, List.getElem?_eq_none h]; rfl
abbrev zeroC : Obj := .cells #[.int .i64 0, .int .i64 0, .int .i64 0, .string ⟨#[]⟩] 29
set_option maxHeartbeats 1600000 in
theorem word_any {w : World} {B : Nat} {v : Value} {c : Cu} (h : CurAt w B v c) : Calls Try.prog 38 #[.pointer (some ⟨B, 0, none⟩), .int .i64 (c.at' : Int)] w fun e w' => e = .returned (c.tok c.at').val ∧ Below w.heap.size w w' := by
  have hlt := h.lt
  have hle := h.le
  have hBa := (Below.refl _ w).alloc (Nat.le_refl _) zeroC
  have hal := h.below hBa
  obtain ⟨⟨c0, c1, c2, c3, c4, -, -, -, -⟩, -⟩ := hal.all
  by_cases hkl : c.ws.length ≤ c.at'
  · obtain ⟨a, cap, rfl, -, -⟩ := h.row
    have ht := tok_end hkl
    clear hal
    go_enter Try.func38, Try.ntmps38
    go_wp2
    refine bodyPost_ret (v := .agg #[.int .i64 0, .int .i64 c.ep, .int .i64 0, .string ⟨#[]⟩]) (by simp [results, Try.results38, go_sem]) rfl ⟨by rw [ht]; rfl, ?_⟩
    exact (Below.refl _ w).alloc (Nat.le_refl _) _
  · have hkl' : c.at' < c.ws.length := by omega
    obtain ⟨g, o, cap, rfl, hg, t0⟩ := tok_cells h hkl'
    obtain ⟨t0, t1, t2, t3⟩ := t0.kept (grownBy_below hBa none) (by simp)
    have hv : Hid ((c.tok c.at').val = .agg #[.int .i64 (c.tok c.at').kind, .int .i64 (c.tok c.at').pos, .int .i64 (c.tok c.at').num, .string ⟨(c.tok c.at').text.toArray⟩]) := by show _ = _; rfl
    generalize c.tok c.at' = tk at *
    clear hal c1 c2 c3 c4
    go_enter Try.func38, Try.ntmps38
    go_wp2
    refine bodyPost_ret (v := .agg #[.int .i64 tk.kind, .int .i64 tk.pos, .int .i64 tk.num, .string ⟨tk.text.toArray⟩]) (by simp [results, Try.results38, go_sem]) rfl ⟨by rw [hv.out], ?_⟩
    exact (Below.refl _ w).alloc (Nat.le_refl _) _
def Cu.peek (c : Cu) : Tk := if c.err = 0 then c.tok c.at' else zeroT
set_option maxHeartbeats 1600000 in
theorem peek_any {w : World} {B : Nat} {v : Value} {c : Cu} (h : CurAt w B v c) : Calls Try.prog 31 #[.pointer (some ⟨B, 0, none⟩)] w fun e w' => e = .returned c.peek.val ∧ Below w.heap.size w w' := by
  have hlt := h.lt
  have hBa := (Below.refl _ w).alloc (Nat.le_refl _) zeroC
  have hal := h.below hBa
  obtain ⟨⟨-, -, -, -, -, c5, -, -, -⟩, -⟩ := hal.all
  have HF := failed_any hal
  have HW := word_any hal
  have hpv : Hid (c.peek.val = if c.err = 0 then (c.tok c.at').val else zeroT.val) := by show _ = _; unfold Cu.peek; split <;> rfl
  have htv : Hid ((c.tok c.at').val = .agg #[.int .i64 (c.tok c.at').kind, .int .i64 (c.tok c.at').pos, .int .i64 (c.tok c.at').num, .string ⟨(c.tok c.at').text.toArray⟩]) := rfl
  rw [htv.out] at HW hpv
  generalize c.tok c.at' = tk at *
  clear hal htv
  go_enter Try.func31, Try.ntmps31
  by_cases he : c.err = 0
  · have hb : (c.err != 0) = false := by rw [he]; rfl
    rw [hb] at HF
    go_wp2_with fail
    refine HF.mono ?_; rintro e w1 ⟨rfl, rfl⟩
    go_wp2_with fail
    refine HW.mono ?_; rintro e w2 ⟨rfl, hB2⟩
    have hB := hBa.trans (hB2.mono hBa.size)
    obtain ⟨d0, d1, d2, d3, f0, f1, f2, f3⟩ := below_one hB2
    go_wp2_with fail
    refine bodyPost_ret (v := .agg #[.int .i64 tk.kind, .int .i64 tk.pos, .int .i64 tk.num, .string ⟨tk.text.toArray⟩]) (by simp [results, Try.results31, go_sem, d0, d1, d2, d3]) rfl ⟨by rw [hpv.out, if_pos he], ?_⟩
    repeat refine Below.setCell ?_ (by simp) _
    exact hB
  · have hb : (c.err != 0) = true := by rw [bne_iff_ne]; exact he
    rw [hb] at HF
    go_wp2_with fail
    refine HF.mono ?_; rintro e w1 ⟨rfl, rfl⟩
    go_wp2_with fail
    refine bodyPost_ret (v := zeroT.val) (by simp [results, Try.results31, go_sem, zeroT, Tk.val]) rfl ⟨by rw [hpv.out, if_neg he], ?_⟩
    exact (Below.refl _ w).alloc (Nat.le_refl _) _
end Go.Proofs.Ytehcccjgepbnjaa
