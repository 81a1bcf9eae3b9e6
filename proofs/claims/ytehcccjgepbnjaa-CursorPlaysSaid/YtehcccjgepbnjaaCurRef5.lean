/- The contracts of the document's own cursor: Enter, Take, Want. -/
import Derived.Test.YtehcccjgepbnjaaCurRef4
namespace Go.Proofs.Ytehcccjgepbnjaa
open Go.RowKit
attribute [local go_sem] fld0 fld1

set_option maxHeartbeats 1600000 in
theorem refenter_any {n : Nat} {w : World} {x : Value} {c : Cu} (h : RefIs n w x c) (hn : n ≤ w.heap.size) (hok : CuOk c) : Calls Try.prog 23 #[x] w (RefTo n c.enter (.bool c.enters) w) := by
  obtain ⟨a, ln, cap, rfl, hr, -⟩ := h.shape
  have hdeep := hok.deep
  clear h hok
  have hBa : Below w.heap.size w ((w.alloc (refO (.slice a ln cap) c)).alloc refZ) := ((Below.refl _ w).alloc (Nat.le_refl _) _).alloc (by simp) _
  by_cases he : c.err = 0
  · have hb : (c.err != 0) = false := by rw [he]; rfl
    by_cases hf : 200 ≤ c.nest
    · have hd : decide ((200 : Int) ≤ c.nest) = true := by simp; omega
      have hR : Hid (c.enter = c.fail 2) := enter_full c he hf
      have hE : Hid (c.enters = false) := enters_full c hf
      have HF := reffail_any (n := n) (w := (w.alloc (refO (.slice a ln cap) c)).alloc refZ) (c := c) ⟨_, rfl, hr.out.below (hBa.mono hn)⟩ (by simp; omega) 2
      clear he hf
      go_enter Try.func23, Try.ntmps23
      go_wp2_with fail
      refine HF.mono ?_; rintro e w2 ⟨x', rfl, hx, hB2⟩
      clear HF
      obtain ⟨a', ln', cap', rfl, hr', -⟩ := hx.shape
      obtain ⟨o1, o2⟩ := two_blocks hB2 (by simp)
      obtain ⟨⟨y0, y1, y2, y3, y4, y5, y6, y7⟩, ⟨g0, g1, g2, g3, g4, g5, g6, g7⟩⟩ := cells8 o2
      have hfin := hBa.trans (hB2.mono hBa.size)
      clear o1 o2 hB2 hx
      go_wp2_with fail
      refine bodyPost_ret (v := .tuple #[.agg (refC (.slice a' ln' cap') (c.fail 2).ep (c.fail 2).nest (c.fail 2).err (c.fail 2).pos), .bool false]) (by simp [results, Try.results23, go_sem, y0, y1, y2, y3, y4, y5, y6, y7]) rfl ?_
      rw [hR.out, hE.out]
      have hB3 : Below w2.heap.size w2 w2 := Below.refl _ _
      refine and_self_imp (P := Below n w2 _) ?_ fun hG => and_self_imp (P := Below w.heap.size w _) ?_ fun hF => ⟨_, rfl, ⟨_, rfl, hr'.out.below hG⟩, hF⟩
      · repeat refine Below.setCell ?_ (by dsimp only; omega) _
        exact Below.refl _ _
      · repeat refine Below.setCell ?_ (by dsimp only; omega) _
        exact hfin
    · have hd : decide ((200 : Int) ≤ c.nest) = false := by simp; omega
      have hR : Hid (c.enter = { c with nest := c.nest + 1 }) := by show _ = _; unfold Cu.enter; rw [if_pos he, if_neg hf]
      have hE : Hid (c.enters = true) := by show _ = _; unfold Cu.enters; simp [he]; omega
      have hf' : c.nest < 200 := by omega
      clear he hf
      go_enter Try.func23, Try.ntmps23
      go_wp2_with fail
      refine bodyPost_ret (v := .tuple #[.agg (refC (.slice a ln cap) c.ep ((c.nest + 1 : Nat) : Int) c.err c.pos), .bool true]) (by simp [results, Try.results23, go_sem]) rfl ?_
      rw [hR.out, hE.out]
      refine and_self_imp (P := Below w.heap.size w _) ?_ fun hF => ⟨_, rfl, ⟨_, rfl, hr.out.below (hF.mono hn)⟩, hF⟩
      exact ((Below.refl _ w).alloc (Nat.le_refl _) _).alloc (by simp) _
  · have hb : (c.err != 0) = true := by rw [bne_iff_ne]; exact he
    have hR : Hid (c.enter = c) := by show _ = _; unfold Cu.enter; rw [if_neg he]
    have hE : Hid (c.enters = false) := by show _ = _; unfold Cu.enters; simp [he]
    clear he
    go_enter Try.func23, Try.ntmps23
    go_wp2_with fail
    refine bodyPost_ret (v := .tuple #[.agg (refC (.slice a ln cap) c.ep c.nest c.err c.pos), .bool false]) (by simp [results, Try.results23, go_sem]) rfl ?_
    rw [hR.out, hE.out]
    refine and_self_imp (P := Below w.heap.size w _) ?_ fun hF => ⟨_, rfl, ⟨_, rfl, hr.out.below (hF.mono hn)⟩, hF⟩
    exact ((Below.refl _ w).alloc (Nat.le_refl _) _).alloc (by simp) _

set_option maxHeartbeats 1600000 in
theorem reftake_any {n : Nat} {w : World} {x : Value} {c : Cu} (h : RefIs n w x c) (hn : n ≤ w.heap.size) (y : ByteArray) : Calls Try.prog 15 #[x, .string y] w (RefTo n (c.take y.data.toList) (.bool (c.is y.data.toList)) w) := by
  obtain ⟨a, ln, cap, rfl, hr, -⟩ := h.shape
  clear h
  have hBa : Below w.heap.size w ((w.alloc (refO (.slice a ln cap) c)).alloc refZ) := ((Below.refl _ w).alloc (Nat.le_refl _) _).alloc (by simp) _
  have HI := refis_any (n := n) (w := (w.alloc (refO (.slice a ln cap) c)).alloc refZ) (c := c) ⟨_, rfl, hr.out.below (hBa.mono hn)⟩ (by simp; omega) y
  cases hi : c.is y.data.toList with
  | false =>
    have hR : Hid (c.take y.data.toList = c) := by show _ = _; unfold Cu.take; rw [hi]; rfl
    rw [hi] at HI
    clear hi
    go_enter Try.func15, Try.ntmps15
    go_wp2_with fail
    refine HI.mono ?_; rintro e w2 ⟨rfl, hB2⟩
    obtain ⟨o1, o2⟩ := two_blocks hB2 (by simp)
    obtain ⟨⟨x0, x1, x2, x3, x4, x5, x6, x7⟩, -⟩ := cells8 o1
    obtain ⟨⟨y0, y1, y2, y3, y4, y5, y6, y7⟩, ⟨g0, g1, g2, g3, g4, g5, g6, g7⟩⟩ := cells8 o2
    have hfin := hBa.trans (hB2.mono hBa.size)
    clear o1 o2 hB2 HI
    go_wp2_with fail
    refine bodyPost_ret (v := .tuple #[.agg (refC (.slice a ln cap) c.ep c.nest c.err c.pos), .bool false]) (by simp [results, Try.results15, go_sem, y0, y1, y2, y3, y4, y5, y6, y7]) rfl ?_
    rw [hR.out]
    refine and_self_imp (P := Below w.heap.size w _) ?_ fun hF => ⟨_, rfl, ⟨_, rfl, hr.out.below (hF.mono hn)⟩, hF⟩
    repeat refine Below.setCell ?_ (by dsimp only; omega) _
    exact hfin
  | true =>
    have hR : Hid (c.take y.data.toList = c.adv) := by show _ = _; unfold Cu.take Cu.adv; rw [hi, if_pos (is_kind hi)]; rfl
    rw [hi] at HI
    clear hi
    go_enter Try.func15, Try.ntmps15
    go_wp2_with fail
    refine HI.mono ?_; rintro e w2 ⟨rfl, hB2⟩
    have hfin := hBa.trans (hB2.mono hBa.size)
    have HN := refnext_any (n := n) (w := w2) (c := c) ⟨_, rfl, hr.out.below (hfin.mono hn)⟩ (Nat.le_trans hn hfin.size)
    obtain ⟨o1, o2⟩ := two_blocks hB2 (by simp)
    obtain ⟨⟨x0, x1, x2, x3, x4, x5, x6, x7⟩, -⟩ := cells8 o1
    clear o1 o2 HI
    have hv : c.peek.val = .agg #[.int .i64 c.peek.kind, .int .i64 c.peek.pos, .int .i64 c.peek.num, .string ⟨c.peek.text.toArray⟩] := rfl
    rw [hv] at HN
    generalize c.peek = t at *
    generalize c.adv = c' at *
    clear hv
    go_wp2_with fail
    refine HN.mono ?_; rintro e w3 ⟨x', rfl, hx, hB3⟩
    have hB23 := hB2.trans (hB3.mono hB2.size)
    obtain ⟨a', ln', cap', rfl, hr', -⟩ := hx.shape
    have hB4 := (hB23.alloc hB23.size (.cells (refC (.slice a' ln' cap') c'.ep c'.nest c'.err c'.pos) 31)).alloc (by have := hB23.size; simp at this ⊢; omega) (.cells #[.int .i64 t.kind, .int .i64 t.pos, .int .i64 t.num, .string ⟨t.text.toArray⟩] 29)
    have hB34 : Below w3.heap.size w3 ((w3.alloc (.cells (refC (.slice a' ln' cap') c'.ep c'.nest c'.err c'.pos) 31)).alloc (.cells #[.int .i64 t.kind, .int .i64 t.pos, .int .i64 t.num, .string ⟨t.text.toArray⟩] 29)) := ((Below.refl _ w3).alloc (Nat.le_refl _) _).alloc (by simp) _
    obtain ⟨-, o2⟩ := two_blocks hB4 (by simp)
    obtain ⟨⟨y0, y1, y2, y3, y4, y5, y6, y7⟩, ⟨g0, g1, g2, g3, g4, g5, g6, g7⟩⟩ := cells8 o2
    obtain ⟨o3, -⟩ := two_blocks (w := w3) (n := w3.heap.size + 2) (Below.refl _ ((w3.alloc (.cells (refC (.slice a' ln' cap') c'.ep c'.nest c'.err c'.pos) 31)).alloc (.cells #[.int .i64 t.kind, .int .i64 t.pos, .int .i64 t.num, .string ⟨t.text.toArray⟩] 29))) (by omega)
    obtain ⟨⟨u0, u1, u2, u3, u4, u5, u6, u7⟩, -⟩ := cells8 o3
    have hfin2 := hBa.trans (hB4.mono hBa.size)
    have hn4 : n ≤ w3.heap.size := by have := hB23.size; simp at this; omega
    have hl3 : w.heap.size + 1 < w3.heap.size := by have := hB23.size; simp at this; omega
    clear o2 o3 x0 x1 x2 x3 x4 x5 x6 x7 HN hB4 hB23 hB2 hB3 hfin hx
    go_wp2_with fail
    refine bodyPost_ret (v := .tuple #[.agg (refC (.slice a' ln' cap') c'.ep c'.nest c'.err c'.pos), .bool true]) (by simp [results, Try.results15, go_sem, y0, y1, y2, y3, y4, y5, y6, y7]) rfl ?_
    rw [hR.out]
    refine and_self_imp (P := Below n w3 _) ?_ fun hG => and_self_imp (P := Below w.heap.size w _) ?_ fun hF => ⟨_, rfl, ⟨_, rfl, hr'.out.below hG⟩, hF⟩
    · repeat refine Below.setCell ?_ (by dsimp only; omega) _
      exact hB34.mono hn4
    · repeat refine Below.setCell ?_ (by dsimp only; omega) _
      exact hfin2
end Go.Proofs.Ytehcccjgepbnjaa
