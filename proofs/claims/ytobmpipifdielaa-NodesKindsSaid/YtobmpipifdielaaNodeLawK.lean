/- The law NodesKinds of layer 6, walked. -/
import Derived.Test.YtobmpipifdielaaNodeAwakeA
import Derived.Test.YtobmpipifdielaaNodeRead
import Derived.Test.YtobmpipifdielaaNodeRefE
namespace Go.Proofs.Ytobmpipifdielaa
open Go.RowKit

set_option maxRecDepth 100000 in
set_option maxHeartbeats 8000000 in
theorem walk_NodesKinds {c : NC} {t : Nd} {w : World} (h : TreeAt w c t) (hs : t.short) : Calls Try.prog 5 #[c.val] w (SaysIs true w) := by
  obtain ⟨W1, hW1, hb, hB, hz⟩ := box_of w c
  have HF := few_any (h.later hB)
  have h1 := h.later hB
  obtain ⟨k, ps, n, txt, kp, kl, kc⟩ := c
  have HW1 := Lib.hid hW1
  have HB := Lib.hid hB
  have HBX := Lib.hid hb
  have HZ := Lib.hid hz
  have HT := Lib.hid h1
  have HS := Lib.hid hs
  clear hW1 hB hb hz h1 hs h
  obtain ⟨x0, x1, x2, x3, x4⟩ := HBX.out
  dsimp only at x0 x1 x2 x3 x4
  dsimp only [NC.val] at HF ⊢
  go_enter Try.func5, Try.ntmps5
  go_upto_region 1 with fail
  rw [← HW1.out]
  clear HW1
  by_cases hf : t.size ≤ 3000
  case neg =>
    rw [if_neg hf] at HF
    go_wp2_with fail
    refine HF.mono ?_; rintro e W2 ⟨rfl, hC⟩
    have HA := awake_any W2
    go_wp2_with fail
    refine HA.mono ?_; rintro e W3 ⟨rfl, hC3⟩
    go_wp2_with fail
    go_ret
    exact ⟨rfl, HB.out.trans ((hC.trans (hC3.mono hC.size)).mono (by rw [HZ.out]; omega))⟩
  case pos =>
    rw [if_pos hf] at HF
    have ht : Nd.Fit t := ⟨by omega, HS.out⟩
    clear hf
    go_wp2_with fail
    refine HF.mono ?_; rintro e V ⟨rfl, hC⟩
    have HBX := Lib.hid (HBX.out.same (hC.block w.heap.size (by rw [HZ.out]; omega)))
    have HT := Lib.hid (HT.out.later hC)
    have HVB := Lib.hid (HB.out.trans (hC.mono (by rw [HZ.out]; omega)))
    have HVS : Hid (w.heap.size < V.heap.size) := by show _ < _; have := hC.size; rw [HZ.out] at this; omega
    clear HF hC x0 x1 x2 x3 x4
    go_upto_region 3 with fail
    have HPa0 : ∀ wx, Below V.heap.size V wx → Calls Try.prog 18 #[.agg #[.int .i64 k, .int .i64 ps, .int .i64 n, .string ⟨txt.toArray⟩, .slice kp kl kc]] wx fun e w' => e = .returned (.bool t.isTyp) ∧ Below V.heap.size V w' := fun wx hB => by
      have HC := type_any t ht _ wx (HT.out.later hB)
      refine HC.mono ?_
      rintro e w' ⟨rfl, hC⟩
      exact ⟨rfl, hB.trans (hC.mono hB.size)⟩
    have HPb0 : ∀ wx, Below V.heap.size V wx → Calls Try.prog 19 #[.agg #[.int .i64 k, .int .i64 ps, .int .i64 n, .string ⟨txt.toArray⟩, .slice kp kl kc]] wx fun e w' => e = .returned (.bool t.isTyp) ∧ Below V.heap.size V w' := fun wx hB => by
      have HC := rtype_any t ht _ wx (HT.out.later hB)
      refine HC.mono ?_
      rintro e w' ⟨rfl, hC⟩
      exact ⟨rfl, hB.trans (hC.mono hB.size)⟩
    have HPa1 : ∀ wx, Below V.heap.size V wx → Calls Try.prog 20 #[.agg #[.int .i64 k, .int .i64 ps, .int .i64 n, .string ⟨txt.toArray⟩, .slice kp kl kc]] wx fun e w' => e = .returned (.bool t.isPat) ∧ Below V.heap.size V w' := fun wx hB => by
      have HC := pat_any t ht _ wx (HT.out.later hB)
      refine HC.mono ?_
      rintro e w' ⟨rfl, hC⟩
      exact ⟨rfl, hB.trans (hC.mono hB.size)⟩
    have HPb1 : ∀ wx, Below V.heap.size V wx → Calls Try.prog 21 #[.agg #[.int .i64 k, .int .i64 ps, .int .i64 n, .string ⟨txt.toArray⟩, .slice kp kl kc]] wx fun e w' => e = .returned (.bool t.isPat) ∧ Below V.heap.size V w' := fun wx hB => by
      have HC := rpat_any t ht _ wx (HT.out.later hB)
      refine HC.mono ?_
      rintro e w' ⟨rfl, hC⟩
      exact ⟨rfl, hB.trans (hC.mono hB.size)⟩
    have HPa2 : ∀ wx, Below V.heap.size V wx → Calls Try.prog 22 #[.agg #[.int .i64 k, .int .i64 ps, .int .i64 n, .string ⟨txt.toArray⟩, .slice kp kl kc]] wx fun e w' => e = .returned (.bool t.isExp) ∧ Below V.heap.size V w' := fun wx hB => by
      have HC := exp_any t ht _ wx (HT.out.later hB)
      refine HC.mono ?_
      rintro e w' ⟨rfl, hC⟩
      exact ⟨rfl, hB.trans (hC.mono hB.size)⟩
    have HPb2 : ∀ wx, Below V.heap.size V wx → Calls Try.prog 23 #[.agg #[.int .i64 k, .int .i64 ps, .int .i64 n, .string ⟨txt.toArray⟩, .slice kp kl kc]] wx fun e w' => e = .returned (.bool t.isExp) ∧ Below V.heap.size V w' := fun wx hB => by
      have HC := rexp_any t ht _ wx (HT.out.later hB)
      refine HC.mono ?_
      rintro e w' ⟨rfl, hC⟩
      exact ⟨rfl, hB.trans (hC.mono hB.size)⟩
    have HPa3 : ∀ wx, Below V.heap.size V wx → Calls Try.prog 24 #[.agg #[.int .i64 k, .int .i64 ps, .int .i64 n, .string ⟨txt.toArray⟩, .slice kp kl kc]] wx fun e w' => e = .returned (.bool t.isDcl) ∧ Below V.heap.size V w' := fun wx hB => by
      have HC := decl_any t ht _ wx (HT.out.later hB)
      refine HC.mono ?_
      rintro e w' ⟨rfl, hC⟩
      exact ⟨rfl, hB.trans (hC.mono hB.size)⟩
    have HPb3 : ∀ wx, Below V.heap.size V wx → Calls Try.prog 25 #[.agg #[.int .i64 k, .int .i64 ps, .int .i64 n, .string ⟨txt.toArray⟩, .slice kp kl kc]] wx fun e w' => e = .returned (.bool t.isDcl) ∧ Below V.heap.size V w' := fun wx hB => by
      have HC := rdecl_any t ht _ wx (HT.out.later hB)
      refine HC.mono ?_
      rintro e w' ⟨rfl, hC⟩
      exact ⟨rfl, hB.trans (hC.mono hB.size)⟩
    have HPw : ∀ wx, Below V.heap.size V wx → Calls Try.prog 8 #[] wx fun e w' => e = .returned (.bool true) ∧ Below V.heap.size V w' := fun wx hB => by
      have HC := awake_any wx
      refine HC.mono ?_
      rintro e w' ⟨rfl, hC⟩
      exact ⟨rfl, hB.trans (hC.mono hB.size)⟩
    generalize t.isTyp = b1 at *
    generalize t.isPat = b2 at *
    generalize t.isExp = b3 at *
    generalize t.isDcl = b4 at *
    have KEEP : Hid (∀ wx, Below V.heap.size V wx → Below V.heap.size V wx ∧ wx.cell? ⟨w.heap.size, 0, none⟩ = some (.int .i64 k) ∧ wx.cell? ⟨w.heap.size, 1, none⟩ = some (.int .i64 ps) ∧ wx.cell? ⟨w.heap.size, 2, none⟩ = some (.int .i64 n) ∧ wx.cell? ⟨w.heap.size, 3, none⟩ = some (.string ⟨txt.toArray⟩) ∧ wx.cell? ⟨w.heap.size, 4, none⟩ = some (.slice kp kl kc)) := fun wx hB => by
      obtain ⟨x0, x1, x2, x3, x4⟩ := HBX.out.same (hB.block w.heap.size HVS.out)
      exact ⟨hB, x0, x1, x2, x3, x4⟩
    go_region_held3 (fun wx => Below V.heap.size V wx ∧ wx.cell? ⟨w.heap.size, 0, none⟩ = some (.int .i64 k) ∧ wx.cell? ⟨w.heap.size, 1, none⟩ = some (.int .i64 ps) ∧ wx.cell? ⟨w.heap.size, 2, none⟩ = some (.int .i64 n) ∧ wx.cell? ⟨w.heap.size, 3, none⟩ = some (.string ⟨txt.toArray⟩) ∧ wx.cell? ⟨w.heap.size, 4, none⟩ = some (.slice kp kl kc))
      (first | exact KEEP.out _ (Below.refl _ V) | exact KEEP.out _ ((Below.refl _ V).drew) | exact KEEP.out _ hacc)
      (first
      | (go_at_call 18; refine (HPa0 _ ?_).mono ?_; (first | exact hacc | exact (Below.refl _ V).drew | exact Below.refl _ V); rintro e w6 ⟨rfl, hacc⟩)
      | (go_at_call 19; refine (HPb0 _ ?_).mono ?_; (first | exact hacc | exact (Below.refl _ V).drew | exact Below.refl _ V); rintro e w6 ⟨rfl, hacc⟩)
      | (go_at_call 20; refine (HPa1 _ ?_).mono ?_; (first | exact hacc | exact (Below.refl _ V).drew | exact Below.refl _ V); rintro e w6 ⟨rfl, hacc⟩)
      | (go_at_call 21; refine (HPb1 _ ?_).mono ?_; (first | exact hacc | exact (Below.refl _ V).drew | exact Below.refl _ V); rintro e w6 ⟨rfl, hacc⟩)
      | (go_at_call 22; refine (HPa2 _ ?_).mono ?_; (first | exact hacc | exact (Below.refl _ V).drew | exact Below.refl _ V); rintro e w6 ⟨rfl, hacc⟩)
      | (go_at_call 23; refine (HPb2 _ ?_).mono ?_; (first | exact hacc | exact (Below.refl _ V).drew | exact Below.refl _ V); rintro e w6 ⟨rfl, hacc⟩)
      | (go_at_call 24; refine (HPa3 _ ?_).mono ?_; (first | exact hacc | exact (Below.refl _ V).drew | exact Below.refl _ V); rintro e w6 ⟨rfl, hacc⟩)
      | (go_at_call 25; refine (HPb3 _ ?_).mono ?_; (first | exact hacc | exact (Below.refl _ V).drew | exact Below.refl _ V); rintro e w6 ⟨rfl, hacc⟩)
      | (go_at_call 8; refine (HPw _ ?_).mono ?_; (first | exact hacc | exact (Below.refl _ V).drew | exact Below.refl _ V); rintro e w6 ⟨rfl, hacc⟩))
    go_wp2_with fail
    go_ret
    exact ⟨by simp, HVB.out.trans (hacc.mono (Nat.le_of_lt HVS.out))⟩
end Go.Proofs.Ytobmpipifdielaa
