/- The law NodesCounts of layer 6, walked. -/
import Derived.Test.YtobmpipifdielaaNodeAwakeA
import Derived.Test.YtobmpipifdielaaNodeRead
namespace Go.Proofs.Ytobmpipifdielaa
open Go.RowKit

set_option maxRecDepth 100000 in
set_option maxHeartbeats 8000000 in
theorem walk_NodesCounts {c : NC} {t : Nd} {w : World} (h : TreeAt w c t) (hs : t.short) : Calls Try.prog 3 #[c.val] w (SaysIs true w) := by
  obtain ⟨W1, hW1, hb, hB, hz⟩ := box_of w c
  have HF := few_any (h.later hB)
  have h1 := h.later hB
  obtain ⟨k, ps, n, txt, kp, kl, kc⟩ := c
  have HW1 := Lib.hid hW1
  have HB := Lib.hid hB
  have HBX := Lib.hid hb
  have HZ := Lib.hid hz
  have HT := Lib.hid h1
  have HS := Lib.hid hs
  clear hW1 hB hb hz h1 hs h
  obtain ⟨x0, x1, x2, x3, x4⟩ := HBX.out
  dsimp only at x0 x1 x2 x3 x4
  dsimp only [NC.val] at HF ⊢
  go_enter Try.func3, Try.ntmps3
  go_upto_region 1 with fail
  rw [← HW1.out]
  clear HW1
  by_cases hf : t.size ≤ 3000
  case neg =>
    rw [if_neg hf] at HF
    go_wp2_with fail
    refine HF.mono ?_; rintro e W2 ⟨rfl, hC⟩
    have HA := awake_any W2
    go_wp2_with fail
    refine HA.mono ?_; rintro e W3 ⟨rfl, hC3⟩
    go_wp2_with fail
    go_ret
    exact ⟨rfl, HB.out.trans ((hC.trans (hC3.mono hC.size)).mono (by rw [HZ.out]; omega))⟩
  case pos =>
    rw [if_pos hf] at HF
    have ht : Nd.Fit t := ⟨by omega, HS.out⟩
    clear hf
    go_wp2_with fail
    refine HF.mono ?_; rintro e V ⟨rfl, hC⟩
    have HBX := Lib.hid (HBX.out.same (hC.block w.heap.size (by rw [HZ.out]; omega)))
    have HT := Lib.hid (HT.out.later hC)
    have HVB := Lib.hid (HB.out.trans (hC.mono (by rw [HZ.out]; omega)))
    have HVS : Hid (w.heap.size < V.heap.size) := by show _ < _; have := hC.size; rw [HZ.out] at this; omega
    clear HF hC x0 x1 x2 x3 x4
    go_upto_region 3 with fail
    have HPa : ∀ wx, Below V.heap.size V wx → Calls Try.prog 9 #[.agg #[.int .i64 k, .int .i64 ps, .int .i64 n, .string ⟨txt.toArray⟩, .slice kp kl kc]] wx fun e w' => e = .returned (.int .i64 (t.size : Int)) ∧ Below V.heap.size V w' := fun wx hB => by
      have HC := size_any (HT.out.later hB) ht.size
      refine HC.mono ?_
      rintro e w' ⟨rfl, hC⟩
      exact ⟨rfl, hB.trans (hC.mono hB.size)⟩
    have HPb : ∀ wx, Below V.heap.size V wx → Calls Try.prog 10 #[.agg #[.int .i64 k, .int .i64 ps, .int .i64 n, .string ⟨txt.toArray⟩, .slice kp kl kc]] wx fun e w' => e = .returned (.int .i64 (t.size : Int)) ∧ Below V.heap.size V w' := fun wx hB => by
      have HC := refsize_any t _ _ wx (HT.out.later hB) ht.size
      refine HC.mono ?_
      rintro e w' ⟨rfl, hC⟩
      exact ⟨rfl, hB.trans (hC.mono hB.size)⟩
    have HPc : ∀ wx, Below V.heap.size V wx → Calls Try.prog 11 #[.agg #[.int .i64 k, .int .i64 ps, .int .i64 n, .string ⟨txt.toArray⟩, .slice kp kl kc]] wx fun e w' => e = .returned (.int .i64 (t.depth : Int)) ∧ Below V.heap.size V w' := fun wx hB => by
      have HC := depth_any (HT.out.later hB) ht.size
      refine HC.mono ?_
      rintro e w' ⟨rfl, hC⟩
      exact ⟨rfl, hB.trans (hC.mono hB.size)⟩
    have HPd : ∀ wx, Below V.heap.size V wx → Calls Try.prog 12 #[.agg #[.int .i64 k, .int .i64 ps, .int .i64 n, .string ⟨txt.toArray⟩, .slice kp kl kc]] wx fun e w' => e = .returned (.int .i64 (t.depth : Int)) ∧ Below V.heap.size V w' := fun wx hB => by
      have HC := refdepth_any t _ _ wx (HT.out.later hB) ht.size
      refine HC.mono ?_
      rintro e w' ⟨rfl, hC⟩
      exact ⟨rfl, hB.trans (hC.mono hB.size)⟩
    have HPw : ∀ wx, Below V.heap.size V wx → Calls Try.prog 8 #[] wx fun e w' => e = .returned (.bool true) ∧ Below V.heap.size V w' := fun wx hB => by
      have HC := awake_any wx
      refine HC.mono ?_
      rintro e w' ⟨rfl, hC⟩
      exact ⟨rfl, hB.trans (hC.mono hB.size)⟩
    have KEEP : Hid (∀ wx, Below V.heap.size V wx → Below V.heap.size V wx ∧ wx.cell? ⟨w.heap.size, 0, none⟩ = some (.int .i64 k) ∧ wx.cell? ⟨w.heap.size, 1, none⟩ = some (.int .i64 ps) ∧ wx.cell? ⟨w.heap.size, 2, none⟩ = some (.int .i64 n) ∧ wx.cell? ⟨w.heap.size, 3, none⟩ = some (.string ⟨txt.toArray⟩) ∧ wx.cell? ⟨w.heap.size, 4, none⟩ = some (.slice kp kl kc)) := fun wx hB => by
      obtain ⟨x0, x1, x2, x3, x4⟩ := HBX.out.same (hB.block w.heap.size HVS.out)
      exact ⟨hB, x0, x1, x2, x3, x4⟩
    go_region_held3 (fun wx => Below V.heap.size V wx ∧ wx.cell? ⟨w.heap.size, 0, none⟩ = some (.int .i64 k) ∧ wx.cell? ⟨w.heap.size, 1, none⟩ = some (.int .i64 ps) ∧ wx.cell? ⟨w.heap.size, 2, none⟩ = some (.int .i64 n) ∧ wx.cell? ⟨w.heap.size, 3, none⟩ = some (.string ⟨txt.toArray⟩) ∧ wx.cell? ⟨w.heap.size, 4, none⟩ = some (.slice kp kl kc))
      (first | exact KEEP.out _ (Below.refl _ V) | exact KEEP.out _ ((Below.refl _ V).drew) | exact KEEP.out _ hacc)
      (first
      | (go_at_call 9; refine (HPa _ ?_).mono ?_; (first | exact hacc | exact (Below.refl _ V).drew | exact Below.refl _ V); rintro e w6 ⟨rfl, hacc⟩)
      | (go_at_call 10; refine (HPb _ ?_).mono ?_; (first | exact hacc | exact (Below.refl _ V).drew | exact Below.refl _ V); rintro e w6 ⟨rfl, hacc⟩)
      | (go_at_call 11; refine (HPc _ ?_).mono ?_; (first | exact hacc | exact (Below.refl _ V).drew | exact Below.refl _ V); rintro e w6 ⟨rfl, hacc⟩)
      | (go_at_call 12; refine (HPd _ ?_).mono ?_; (first | exact hacc | exact (Below.refl _ V).drew | exact Below.refl _ V); rintro e w6 ⟨rfl, hacc⟩)
      | (go_at_call 8; refine (HPw _ ?_).mono ?_; (first | exact hacc | exact (Below.refl _ V).drew | exact Below.refl _ V); rintro e w6 ⟨rfl, hacc⟩))
    go_wp2_with fail
    go_ret
    exact ⟨by simp, HVB.out.trans (hacc.mono (Nat.le_of_lt HVS.out))⟩
end Go.Proofs.Ytobmpipifdielaa
