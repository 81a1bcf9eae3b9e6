/- The contracts of the document's own cursor: Want, Kind. -/
import Derived.Test.YtehcccjgepbnjaaCurRef5
namespace Go.Proofs.Ytehcccjgepbnjaa
open Go.RowKit
attribute [local go_sem] fld0 fld1

set_option maxHeartbeats 1600000 in
theorem refwant_any {n : Nat} {w : World} {x : Value} {c : Cu} (h : RefIs n w x c) (hn : n ≤ w.heap.size) (y : ByteArray) : Calls Try.prog 17 #[x, .string y] w (RefTo n (c.want y.data.toList) (.bool (c.is y.data.toList)) w) := by
  obtain ⟨a, ln, cap, rfl, hr, -⟩ := h.shape
  clear h
  have hBa : Below w.heap.size w ((w.alloc (refO (.slice a ln cap) c)).alloc refZ) := ((Below.refl _ w).alloc (Nat.le_refl _) _).alloc (by simp) _
  have HT := reftake_any (n := n) (w := (w.alloc (refO (.slice a ln cap) c)).alloc refZ) (c := c) ⟨_, rfl, hr.out.below (hBa.mono hn)⟩ (by simp; omega) y
  cases hi : c.is y.data.toList with
  | false =>
    have hR : Hid (c.want y.data.toList = c.fail 5) := by show _ = _; unfold Cu.want; rw [hi]; rfl
    rw [hi] at HT
    clear hi
    generalize c.take y.data.toList = c' at *
    go_enter Try.func17, Try.ntmps17
    go_wp2_with fail
    refine HT.mono ?_; rintro e w2 ⟨x', rfl, hx, hB2⟩
    obtain ⟨a', ln', cap', rfl, -, -⟩ := hx.shape
    have hB4 := hB2.alloc hB2.size (.cells (refC (.slice a' ln' cap') c'.ep c'.nest c'.err c'.pos) 31)
    have hfin := hBa.trans (hB4.mono hBa.size)
    have HF := reffail_any (n := n) (w := w2.alloc (.cells (refC (.slice a' ln' cap') c'.ep c'.nest c'.err c'.pos) 31)) (c := c) ⟨_, rfl, hr.out.below (hfin.mono hn)⟩ (Nat.le_trans hn hfin.size) 5
    obtain ⟨o1, o2⟩ := two_blocks hB4 (by simp)
    obtain ⟨⟨x0, x1, x2, x3, x4, x5, x6, x7⟩, -⟩ := cells8 o1
    clear o1 o2 HT hx
    go_wp2_with fail
    refine HF.mono ?_; rintro e w3 ⟨x'', rfl, hx, hB3⟩
    obtain ⟨a3, ln3, cap3, rfl, hr3, -⟩ := hx.shape
    generalize c.fail 5 = cf at *
    obtain ⟨-, o2⟩ := two_blocks (hB4.trans (hB3.mono hB4.size)) (by simp)
    obtain ⟨⟨y0, y1, y2, y3, y4, y5, y6, y7⟩, ⟨g0, g1, g2, g3, g4, g5, g6, g7⟩⟩ := cells8 o2
    have hfin3 := hfin.trans (hB3.mono hfin.size)
    clear o2 HF hx x0 x1 x2 x3 x4 x5 x6 x7 hB2 hB3 hB4
    go_wp2_with fail
    refine bodyPost_ret (v := .tuple #[.agg (refC (.slice a3 ln3 cap3) cf.ep cf.nest cf.err cf.pos), .bool false]) (by simp [results, Try.results17, go_sem, y0, y1, y2, y3, y4, y5, y6, y7]) rfl ?_
    rw [hR.out]
    refine and_self_imp (P := Below n w3 _) ?_ fun hG => and_self_imp (P := Below w.heap.size w _) ?_ fun hF => ⟨_, rfl, ⟨_, rfl, hr3.out.below hG⟩, hF⟩
    · repeat refine Below.setCell ?_ (by dsimp only; omega) _
      exact Below.refl _ _
    · repeat refine Below.setCell ?_ (by dsimp only; omega) _
      exact hfin3
  | true =>
    have hR : Hid (c.want y.data.toList = c.take y.data.toList) := by show _ = _; unfold Cu.want; rw [hi]; rfl
    rw [hi] at HT
    clear hi
    generalize c.take y.data.toList = c' at *
    go_enter Try.func17, Try.ntmps17
    go_wp2_with fail
    refine HT.mono ?_; rintro e w2 ⟨x', rfl, hx, hB2⟩
    obtain ⟨a', ln', cap', rfl, hr', -⟩ := hx.shape
    have hB4 := hB2.alloc hB2.size (.cells (refC (.slice a' ln' cap') c'.ep c'.nest c'.err c'.pos) 31)
    have hB24 : Below w2.heap.size w2 (w2.alloc (.cells (refC (.slice a' ln' cap') c'.ep c'.nest c'.err c'.pos) 31)) := (Below.refl _ w2).alloc (Nat.le_refl _) _
    have hfin := hBa.trans (hB4.mono hBa.size)
    obtain ⟨-, o2⟩ := two_blocks hB4 (by simp)
    obtain ⟨⟨y0, y1, y2, y3, y4, y5, y6, y7⟩, ⟨g0, g1, g2, g3, g4, g5, g6, g7⟩⟩ := cells8 o2
    obtain ⟨⟨u0, u1, u2, u3, u4, u5, u6, u7⟩, -⟩ := cells8 (World.alloc_heap_new w2 (.cells (refC (.slice a' ln' cap') c'.ep c'.nest c'.err c'.pos) 31))
    have hn2 : n ≤ w2.heap.size := by have := hB2.size; simp at this; omega
    clear o2 HT hx hB2 hB4
    go_wp2_with fail
    refine bodyPost_ret (v := .tuple #[.agg (refC (.slice a' ln' cap') c'.ep c'.nest c'.err c'.pos), .bool true]) (by simp [results, Try.results17, go_sem, y0, y1, y2, y3, y4, y5, y6, y7]) rfl ?_
    rw [hR.out]
    refine and_self_imp (P := Below n w2 _) ?_ fun hG => and_self_imp (P := Below w.heap.size w _) ?_ fun hF => ⟨_, rfl, ⟨_, rfl, hr'.out.below hG⟩, hF⟩
    · repeat refine Below.setCell ?_ (by dsimp only; omega) _
      exact hB24.mono hn2
    · repeat refine Below.setCell ?_ (by dsimp only; omega) _
      exact hfin

theorem three_blocks {w w9 : World} {xs ys zs : Array Value} {t0 t1 t2 : TypeId} {n : Nat} (h9 : Below n (((w.alloc (.cells xs t0)).alloc (.cells ys t1)).alloc (.cells zs t2)) w9) (hn : w.heap.size + 1 + 1 < n) : w9.heap[w.heap.size]? = some (.cells xs t0 (0, 0)) ∧ w9.heap[w.heap.size + 1]? = some (.cells ys t1 (0, 0)) ∧ w9.heap[w.heap.size + 1 + 1]? = some (.cells zs t2 (0, 0)) := by
  refine ⟨(h9.block _ (by omega)).trans ?_, (h9.block _ (by omega)).trans ?_, (h9.block _ hn).trans ?_⟩
  · exact ((Below.heap_alloc _ _ _ (by simp; omega)).trans (Below.heap_alloc _ _ _ (by simp))).trans (World.alloc_heap_new w _)
  · refine (Below.heap_alloc _ _ _ (by simp)).trans ?_
    have := World.alloc_heap_new (w.alloc (.cells xs t0)) (.cells ys t1)
    rwa [World.size_alloc] at this
  · have := World.alloc_heap_new ((w.alloc (.cells xs t0)).alloc (.cells ys t1)) (.cells zs t2)
    rwa [World.size_alloc, World.size_alloc] at this
set_option maxHeartbeats 3200000 in
theorem refkind_any {n : Nat} {w : World} {x : Value} {c : Cu} (h : RefIs n w x c) (hn : n ≤ w.heap.size) (k : Int) : Calls Try.prog 19 #[x, .int .i64 k] w fun e w' => ∃ x', e = .returned (.tuple #[x', (c.kindT k).val, .bool (c.kindOk k)]) ∧ RefIs n w' x' (c.kind k) ∧ Below w.heap.size w w' := by
  obtain ⟨a, ln, cap, rfl, hr, -⟩ := h.shape
  clear h
  have hBa : Below w.heap.size w (((w.alloc (refO (.slice a ln cap) c)).alloc refZ).alloc zeroC) := (((Below.refl _ w).alloc (Nat.le_refl _) _).alloc (by simp) _).alloc (by simp; omega) _
  have HP := refpeek_any (n := n) (w := ((w.alloc (refO (.slice a ln cap) c)).alloc refZ).alloc zeroC) (c := c) ⟨_, rfl, hr.out.below (hBa.mono hn)⟩ (by simp; omega)
  have HFl := fun w2 (hb : Below w.heap.size w w2) => reffail_any (n := n) (w := w2) (c := c) ⟨_, rfl, hr.out.below (hb.mono hn)⟩ (Nat.le_trans hn hb.size) 5
  have HNx := fun w2 (hb : Below w.heap.size w w2) => refnext_any (n := n) (w := w2) (c := c) ⟨_, rfl, hr.out.below (hb.mono hn)⟩ (Nat.le_trans hn hb.size)
  have hpk : ∀ h0 : c.err = 0, c.peek = c.tok c.at' := fun h0 => by unfold Cu.peek; rw [if_pos h0]
  have hv : c.peek.val = .agg #[.int .i64 c.peek.kind, .int .i64 c.peek.pos, .int .i64 c.peek.num, .string ⟨c.peek.text.toArray⟩] := rfl
  rw [hv] at HP HNx
  have hcase : ((c.err != 0) = true ∧ Hid (c.kind k = c.fail 5 ∧ c.kindT k = zeroT ∧ c.kindOk k = false)) ∨ ((c.err != 0) = false ∧ (c.peek.kind != k) = true ∧ Hid (c.kind k = c.fail 5 ∧ c.kindT k = zeroT ∧ c.kindOk k = false)) ∨ ((c.err != 0) = false ∧ (c.peek.kind != k) = false ∧ Hid (c.kind k = c.adv ∧ c.kindT k = c.peek ∧ c.kindOk k = true)) := by
    by_cases he : c.err = 0
    · have hp := hpk he
      by_cases hk : (c.tok c.at').kind = k
      · exact .inr (.inr ⟨by rw [he]; rfl, by rw [hp, hk]; simp, by unfold Cu.kind; rw [if_pos he, if_pos hk], by unfold Cu.kindT; rw [if_pos ⟨he, hk⟩, hp], by unfold Cu.kindOk; simp [he, hk]⟩)
      · exact .inr (.inl ⟨by rw [he]; rfl, by rw [hp, bne_iff_ne]; exact hk, by unfold Cu.kind; rw [if_pos he, if_neg hk], by unfold Cu.kindT; rw [if_neg (fun q => hk q.2)], by unfold Cu.kindOk; simp [hk]⟩)
    · exact .inl ⟨by rw [bne_iff_ne]; exact he, by unfold Cu.kind Cu.fail; rw [if_neg he, if_neg he], by unfold Cu.kindT; rw [if_neg (fun q => he q.1)], by unfold Cu.kindOk; simp [he]⟩
  clear hpk hv
  generalize c.peek = t at *
  generalize c.fail 5 = cf at *
  generalize c.adv = ca at *
  rcases hcase with ⟨hb, hR⟩ | ⟨hb, hb2, hR⟩ | ⟨hb, hb2, hR⟩
  · clear HNx HP
    have HF := HFl _ hBa
    go_enter Try.func19, Try.ntmps19
    go_wp2_with fail
    refine HF.mono ?_; rintro e w3 ⟨x'', rfl, hx, hB3⟩
    obtain ⟨a3, ln3, cap3, rfl, hr3, -⟩ := hx.shape
    obtain ⟨-, o2, o3⟩ := three_blocks hB3 (by simp)
    obtain ⟨⟨y0, y1, y2, y3, y4, y5, y6, y7⟩, ⟨z0, z1, z2, z3⟩⟩ := (cells20 o2 o2 o3).2
    obtain ⟨⟨g0, g1, g2, g3, g4, g5, g6, g7⟩, ⟨f0, f1, f2, f3⟩⟩ := frozen12 o2 o3
    have hfin3 := hBa.trans (hB3.mono hBa.size)
    clear o2 o3 HF HFl hx hB3
    go_wp2_with fail
    refine bodyPost_ret (v := .tuple #[.agg (refC (.slice a3 ln3 cap3) cf.ep cf.nest cf.err cf.pos), .agg #[.int .i64 0, .int .i64 0, .int .i64 0, .string ⟨#[]⟩], .bool false]) (by simp [results, Try.results19, go_sem, y0, y1, y2, y3, y4, y5, y6, y7, z0, z1, z2, z3]) rfl ?_
    rw [hR.out.1, hR.out.2.1, hR.out.2.2]
    refine and_self_imp (P := Below n w3 _) ?_ fun hG => and_self_imp (P := Below w.heap.size w _) ?_ fun hF => ⟨_, rfl, ⟨_, rfl, hr3.out.below hG⟩, hF⟩
    · repeat refine Below.setCell ?_ (by dsimp only; omega) _
      exact Below.refl _ _
    · repeat refine Below.setCell ?_ (by dsimp only; omega) _
      exact hfin3
  · clear HNx
    go_enter Try.func19, Try.ntmps19
    go_wp2_with fail
    refine HP.mono ?_; rintro e w2 ⟨rfl, hB2⟩
    have hfin2 := hBa.trans (hB2.mono hBa.size)
    have HF := HFl w2 hfin2
    obtain ⟨o1, o2, o3⟩ := three_blocks hB2 (by simp)
    obtain ⟨⟨x0, x1, x2, x3, x4, x5, x6, x7⟩, -⟩ := cells8 o1
    clear o1 o2 o3 HP HFl
    go_wp2_with fail
    refine HF.mono ?_; rintro e w3 ⟨x'', rfl, hx, hB3⟩
    obtain ⟨a3, ln3, cap3, rfl, hr3, -⟩ := hx.shape
    obtain ⟨-, o2, o3⟩ := three_blocks (hB2.trans (hB3.mono hB2.size)) (by simp)
    clear x0 x1 x2 x3 x4 x5 x6 x7
    obtain ⟨⟨y0, y1, y2, y3, y4, y5, y6, y7⟩, ⟨z0, z1, z2, z3⟩⟩ := (cells20 o2 o2 o3).2
    obtain ⟨⟨g0, g1, g2, g3, g4, g5, g6, g7⟩, ⟨f0, f1, f2, f3⟩⟩ := frozen12 o2 o3
    have hfin3 := hfin2.trans (hB3.mono hfin2.size)
    clear o2 o3 HF hx hB3 hB2
    go_wp2_with fail
    refine bodyPost_ret (v := .tuple #[.agg (refC (.slice a3 ln3 cap3) cf.ep cf.nest cf.err cf.pos), .agg #[.int .i64 0, .int .i64 0, .int .i64 0, .string ⟨#[]⟩], .bool false]) (by simp [results, Try.results19, go_sem, y0, y1, y2, y3, y4, y5, y6, y7, z0, z1, z2, z3]) rfl ?_
    rw [hR.out.1, hR.out.2.1, hR.out.2.2]
    refine and_self_imp (P := Below n w3 _) ?_ fun hG => and_self_imp (P := Below w.heap.size w _) ?_ fun hF => ⟨_, rfl, ⟨_, rfl, hr3.out.below hG⟩, hF⟩
    · repeat refine Below.setCell ?_ (by dsimp only; omega) _
      exact Below.refl _ _
    · repeat refine Below.setCell ?_ (by dsimp only; omega) _
      exact hfin3
  · clear HFl
    go_enter Try.func19, Try.ntmps19
    go_wp2_with fail
    refine HP.mono ?_; rintro e w2 ⟨rfl, hB2⟩
    have hfin2 := hBa.trans (hB2.mono hBa.size)
    have HF := HNx w2 hfin2
    obtain ⟨o1, o2, o3⟩ := three_blocks hB2 (by simp)
    obtain ⟨⟨x0, x1, x2, x3, x4, x5, x6, x7⟩, -⟩ := cells8 o1
    clear o1 o2 o3 HP HNx
    go_wp2_with fail
    refine HF.mono ?_; rintro e w3 ⟨x'', rfl, hx, hB3⟩
    obtain ⟨a3, ln3, cap3, rfl, hr3, -⟩ := hx.shape
    have hB23 := hB2.trans (hB3.mono hB2.size)
    have hB4 := (hB23.alloc hB23.size (.cells (refC (.slice a3 ln3 cap3) ca.ep ca.nest ca.err ca.pos) 31)).alloc (by have := hB23.size; simp at this ⊢; omega) (.cells #[.int .i64 t.kind, .int .i64 t.pos, .int .i64 t.num, .string ⟨t.text.toArray⟩] 29)
    obtain ⟨-, o2, o3⟩ := three_blocks hB4 (by simp)
    clear x0 x1 x2 x3 x4 x5 x6 x7
    obtain ⟨⟨y0, y1, y2, y3, y4, y5, y6, y7⟩, ⟨z0, z1, z2, z3⟩⟩ := (cells20 o2 o2 o3).2
    obtain ⟨⟨g0, g1, g2, g3, g4, g5, g6, g7⟩, ⟨f0, f1, f2, f3⟩⟩ := frozen12 o2 o3
    obtain ⟨p1, p2⟩ := two_blocks (w := w3) (n := w3.heap.size + 2) (Below.refl _ ((w3.alloc (.cells (refC (.slice a3 ln3 cap3) ca.ep ca.nest ca.err ca.pos) 31)).alloc (.cells #[.int .i64 t.kind, .int .i64 t.pos, .int .i64 t.num, .string ⟨t.text.toArray⟩] 29))) (by omega)
    obtain ⟨⟨u0, u1, u2, u3, u4, u5, u6, u7⟩, -⟩ := cells8 p1
    obtain ⟨v0, v1, v2, v3⟩ := (cells20 p1 p1 p2).2.2
    have hfin3 := hBa.trans (hB4.mono hBa.size)
    have hB34 : Below w3.heap.size w3 ((w3.alloc (.cells (refC (.slice a3 ln3 cap3) ca.ep ca.nest ca.err ca.pos) 31)).alloc (.cells #[.int .i64 t.kind, .int .i64 t.pos, .int .i64 t.num, .string ⟨t.text.toArray⟩] 29)) := ((Below.refl _ w3).alloc (Nat.le_refl _) _).alloc (by simp) _
    have hn4 : n ≤ w3.heap.size := by have := hB23.size; simp at this; omega
    have hT : w.heap.size + 1 + 1 < w3.heap.size := by have := hB23.size; simp at this; omega
    clear o2 o3 p1 p2 HF hx hB3 hB2 hB23 hB4
    go_wp2_with fail
    generalize ((w3.alloc (.cells (refC (.slice a3 ln3 cap3) ca.ep ca.nest ca.err ca.pos) 31)).alloc (.cells #[.int .i64 t.kind, .int .i64 t.pos, .int .i64 t.num, .string ⟨t.text.toArray⟩] 29)) = W at *
    generalize hTT : w3.heap.size = T at *
    have n1 : T ≠ w.heap.size + 1 := by omega
    have n2 : T ≠ w.heap.size + 1 + 1 := by omega
    have n3 : w.heap.size + 1 ≠ T := by omega
    have n4 : w.heap.size + 1 + 1 ≠ T := by omega
    have n5 : T + 1 ≠ w.heap.size + 1 := by omega
    have n6 : T + 1 ≠ w.heap.size + 1 + 1 := by omega
    have n7 : w.heap.size + 1 ≠ T + 1 := by omega
    have n8 : w.heap.size + 1 + 1 ≠ T + 1 := by omega
    go_region
    all_goals (
      go_wp2_with fail
      refine bodyPost_ret (v := .tuple #[.agg (refC (.slice a3 ln3 cap3) ca.ep ca.nest ca.err ca.pos), .agg #[.int .i64 t.kind, .int .i64 t.pos, .int .i64 t.num, .string ⟨t.text.toArray⟩], .bool true]) (by simp [results, Try.results19, go_sem, y0, y1, y2, y3, y4, y5, y6, y7, z0, z1, z2, z3]) rfl ?_
      rw [hR.out.1, hR.out.2.1, hR.out.2.2]
      refine and_self_imp (P := Below n w3 _) ?_ fun hG => and_self_imp (P := Below w.heap.size w _) ?_ fun hF => ⟨_, rfl, ⟨_, rfl, hr3.out.below hG⟩, hF⟩
      · refine Below.drew ?_
        repeat refine Below.setCell ?_ (by dsimp only; omega) _
        exact hB34.mono hn4
      · refine Below.drew ?_
        repeat refine Below.setCell ?_ (by dsimp only; omega) _
        exact hfin3)
end Go.Proofs.Ytehcccjgepbnjaa
