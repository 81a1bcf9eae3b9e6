/- The law NodesSame of layer 6, walked. -/
import Derived.Test.YtobmpipifdielaaNodeAwakeA
import Derived.Test.YtobmpipifdielaaNodeStrip
import Derived.Test.YtobmpipifdielaaNodeRead
namespace Go.Proofs.Ytobmpipifdielaa
open Go.RowKit

/-- two trees lie there, of which q says b -/
def Two (q : Nd → Nd → Bool) (w : World) (gk gp gn : Int) (gt : List UInt8) (gq : Option Addr) (gl gc : Nat) (zk zp zn : Int) (zt : List UInt8) (zq : Option Addr) (zl zc : Nat) (b : Bool) : Prop := ∃ t u, TreeAt w ⟨gk, gp, gn, gt, gq, gl, gc⟩ t ∧ TreeAt w ⟨zk, zp, zn, zt, zq, zl, zc⟩ u ∧ t.size ≤ 1000000 ∧ q t u = b
theorem strip_size (t : Nd) : t.strip.size = t.size := by
  induction t using Nd.by_size with
  | h t ih =>
    have hl : ∀ l : List Nd, (∀ k ∈ l, k.strip.size = k.size) → Nd.sizes (Nd.strips l) = Nd.sizes l := fun l => by
      induction l with
      | nil => intro _; rfl
      | cons k ks ih2 =>
        intro h
        show k.strip.size + Nd.sizes (Nd.strips ks) = k.size + Nd.sizes ks
        rw [h k List.mem_cons_self, ih2 fun x hx => h x (List.mem_cons_of_mem _ hx)]
    rw [Nd.strip_eq, Nd.size_eq, Nd.size_eq t]
    show Nd.sizes (Nd.strips t.kids) + 1 = _
    rw [hl t.kids fun k hk => ih k (Nd.kid_lt hk)]
set_option maxRecDepth 100000 in
set_option maxHeartbeats 8000000 in
theorem walk_NodesSame {c d : NC} {t u : Nd} {w : World} (h : TreeAt w c t) (hs : t.short) (g : TreeAt w d u) (gs : u.short) : Calls Try.prog 4 #[c.val, d.val] w (SaysIs true w) := by
  obtain ⟨W1, hW1, hz, hb, hb', hB⟩ := two_boxes w c d
  have HF := few_any (h.later hB)
  have HG := fun wx (hx : Below W1.heap.size W1 wx) => few_any ((g.later hB).later hx)
  have h1 := h.later hB
  have g1 := g.later hB
  obtain ⟨k, ps, n, txt, kp, kl, kc⟩ := c
  obtain ⟨k', ps', n', txt', kp', kl', kc'⟩ := d
  have HW1 := Lib.hid hW1
  have HB := Lib.hid hB
  have HBX := Lib.hid hb
  have HBY := Lib.hid hb'
  have HZ : Hid (W1.heap.size = w.heap.size + 2) := hz
  have HT := Lib.hid h1
  have HU := Lib.hid g1
  clear hW1 hB hb hb' hz h1 g1 hs gs h g
  obtain ⟨x0, x1, x2, x3, x4⟩ := HBX.out
  obtain ⟨y0, y1, y2, y3, y4⟩ := HBY.out
  dsimp only at x0 x1 x2 x3 x4 y0 y1 y2 y3 y4
  dsimp only [NC.val] at HF HG ⊢
  go_enter Try.func4, Try.ntmps4
  go_upto_region 1 with fail
  rw [← HW1.out]
  clear HW1
  by_cases hf : t.size ≤ 3000
  case neg =>
    rw [if_neg hf] at HF
    go_wp2_with fail
    refine HF.mono ?_; rintro e W2 ⟨rfl, hC⟩
    have HA := awake_any W2
    go_wp2_with fail
    refine HA.mono ?_; rintro e W3 ⟨rfl, hC3⟩
    go_wp2_with fail
    go_ret
    exact ⟨rfl, HB.out.trans ((hC.trans (hC3.mono hC.size)).mono (by rw [HZ.out]; omega))⟩
  case pos =>
    rw [if_pos hf] at HF
    go_wp2_with fail
    refine HF.mono ?_; rintro e W2 ⟨rfl, hC⟩
    have HG2 := HG W2 hC
    clear HG x0 x1 x2 x3 x4 y0 y1 y2 y3 y4
    obtain ⟨x0, x1, x2, x3, x4⟩ := HBX.out.same (hC.block w.heap.size (by rw [HZ.out]; omega))
    obtain ⟨y0, y1, y2, y3, y4⟩ := HBY.out.same (hC.block (w.heap.size + 1) (by rw [HZ.out]; omega))
    dsimp only at x0 x1 x2 x3 x4 y0 y1 y2 y3 y4
    have HC := Lib.hid hC
    clear hC HF
    by_cases hg : u.size ≤ 3000
    case neg =>
      rw [if_neg hg] at HG2
      go_wp2_with fail
      refine HG2.mono ?_; rintro e W3 ⟨rfl, hC2⟩
      have HA := awake_any W3
      go_wp2_with fail
      refine HA.mono ?_; rintro e W4 ⟨rfl, hC3⟩
      go_wp2_with fail
      go_ret
      have hC := HC.out.trans ((hC2.trans (hC3.mono hC2.size)).mono HC.out.size)
      exact ⟨rfl, HB.out.trans (hC.mono (by rw [HZ.out]; omega))⟩
    case pos =>
    rw [if_pos hg] at HG2
    have hts : t.size ≤ 1000000 := by omega
    have hus : u.size ≤ 1000000 := by omega
    clear hf hg
    go_wp2_with fail
    refine HG2.mono ?_; rintro e W3 ⟨rfl, hC2⟩
    have hC := HC.out.trans (hC2.mono HC.out.size)
    have HSX := strip_any t _ _ W3 (HT.out.later hC) hts
    clear HC hC2 HG2 x0 x1 x2 x3 x4 y0 y1 y2 y3 y4
    obtain ⟨x0, x1, x2, x3, x4⟩ := HBX.out.same (hC.block w.heap.size (by rw [HZ.out]; omega))
    obtain ⟨y0, y1, y2, y3, y4⟩ := HBY.out.same (hC.block (w.heap.size + 1) (by rw [HZ.out]; omega))
    dsimp only at x0 x1 x2 x3 x4 y0 y1 y2 y3 y4
    dsimp only [NC.val] at HSX
    go_wp2_with fail
    refine HSX.mono ?_; rintro e W4 ⟨⟨dk, dp, dn, dt, dq, dl, dc⟩, rfl, hd, hC2⟩
    have hd := hd.mono (S' := fun _ => True) fun _ _ _ => trivial
    have hC := hC.trans (hC2.mono hC.size)
    dsimp only [NC.val]
    clear HSX hC2 x0 x1 x2 x3 x4 y0 y1 y2 y3 y4
    go_upto_region 4 with fail
    obtain ⟨V, hV, hbd, hBd, hzd⟩ := box_of W4 ⟨dk, dp, dn, dt, dq, dl, dc⟩
    dsimp only at hV
    rw [← hV]
    have hC := hC.trans (hBd.mono hC.size)
    have HB4 : Hid (W4.heap.size < V.heap.size) := by show _ < _; omega
    have HBD := Lib.hid hbd
    have HBX := Lib.hid (HBX.out.same (hC.block w.heap.size (by rw [HZ.out]; omega)))
    have HBY := Lib.hid (HBY.out.same (hC.block (w.heap.size + 1) (by rw [HZ.out]; omega)))
    have HT := Lib.hid (HT.out.later hC)
    have HU := Lib.hid (HU.out.later hC)
    have HD := Lib.hid (hd.later hBd)
    have HVB := Lib.hid (HB.out.trans (hC.mono (by rw [HZ.out]; omega)))
    have HVS : Hid (w.heap.size + 1 < V.heap.size) := by show _ < _; have := hC.size; rw [HZ.out] at this; omega
    clear hC hV hbd hBd hzd hd
    have HPs : ∀ (gk gp gn : Int) (gt : List UInt8) (gq : Option Addr) (gl gc : Nat) (zk zp zn : Int) (zt : List UInt8) (zq : Option Addr) (zl zc : Nat) (b : Bool) (wx : World), Below V.heap.size V wx → Two Nd.same wx gk gp gn gt gq gl gc zk zp zn zt zq zl zc b → Calls Try.prog 14 #[.agg #[.int .i64 gk, .int .i64 gp, .int .i64 gn, .string ⟨gt.toArray⟩, .slice gq gl gc], .agg #[.int .i64 zk, .int .i64 zp, .int .i64 zn, .string ⟨zt.toArray⟩, .slice zq zl zc]] wx fun e w' => e = .returned (.bool b) ∧ Below V.heap.size V w' := fun gk gp gn gt gq gl gc zk zp zn zt zq zl zc b wx hB ⟨t, u, h1, h2, h3, h4⟩ => by
      have HC := same_any t _ _ u _ _ wx h1 h2 h3
      rw [h4] at HC
      refine HC.mono ?_
      rintro e w' ⟨rfl, hC⟩
      exact ⟨rfl, hB.trans (hC.mono hB.size)⟩
    have HPr : ∀ (gk gp gn : Int) (gt : List UInt8) (gq : Option Addr) (gl gc : Nat) (zk zp zn : Int) (zt : List UInt8) (zq : Option Addr) (zl zc : Nat) (b : Bool) (wx : World), Below V.heap.size V wx → Two Nd.same wx gk gp gn gt gq gl gc zk zp zn zt zq zl zc b → Calls Try.prog 15 #[.agg #[.int .i64 gk, .int .i64 gp, .int .i64 gn, .string ⟨gt.toArray⟩, .slice gq gl gc], .agg #[.int .i64 zk, .int .i64 zp, .int .i64 zn, .string ⟨zt.toArray⟩, .slice zq zl zc]] wx fun e w' => e = .returned (.bool b) ∧ Below V.heap.size V w' := fun gk gp gn gt gq gl gc zk zp zn zt zq zl zc b wx hB ⟨t, u, h1, h2, h3, h4⟩ => by
      have HC := refsame_any t _ _ u _ _ wx h1 h2 h3
      rw [h4] at HC
      refine HC.mono ?_
      rintro e w' ⟨rfl, hC⟩
      exact ⟨rfl, hB.trans (hC.mono hB.size)⟩
    have HPj : ∀ (gk gp gn : Int) (gt : List UInt8) (gq : Option Addr) (gl gc : Nat) (zk zp zn : Int) (zt : List UInt8) (zq : Option Addr) (zl zc : Nat) (b : Bool) (wx : World), Below V.heap.size V wx → Two Nd.just wx gk gp gn gt gq gl gc zk zp zn zt zq zl zc b → Calls Try.prog 16 #[.agg #[.int .i64 gk, .int .i64 gp, .int .i64 gn, .string ⟨gt.toArray⟩, .slice gq gl gc], .agg #[.int .i64 zk, .int .i64 zp, .int .i64 zn, .string ⟨zt.toArray⟩, .slice zq zl zc]] wx fun e w' => e = .returned (.bool b) ∧ Below V.heap.size V w' := fun gk gp gn gt gq gl gc zk zp zn zt zq zl zc b wx hB ⟨t, u, h1, h2, h3, h4⟩ => by
      have HC := just_any t _ _ u _ _ wx h1 h2 h3
      rw [h4] at HC
      refine HC.mono ?_
      rintro e w' ⟨rfl, hC⟩
      exact ⟨rfl, hB.trans (hC.mono hB.size)⟩
    have HPw : ∀ wx, Below V.heap.size V wx → Calls Try.prog 8 #[] wx fun e w' => e = .returned (.bool true) ∧ Below V.heap.size V w' := fun wx hB => by
      have HC := awake_any wx
      refine HC.mono ?_
      rintro e w' ⟨rfl, hC⟩
      exact ⟨rfl, hB.trans (hC.mono hB.size)⟩
    have HPt : ∀ wx, Below V.heap.size V wx → Calls Try.prog 17 #[.agg #[.int .i64 k, .int .i64 ps, .int .i64 n, .string ⟨txt.toArray⟩, .slice kp kl kc]] wx fun e w' => ∃ (rk rp rn : Int) (rt : List UInt8) (rq : Option Addr) (rl rc : Nat), e = .returned (.agg #[.int .i64 rk, .int .i64 rp, .int .i64 rn, .string ⟨rt.toArray⟩, .slice rq rl rc]) ∧ Two Nd.just w' dk dp dn dt dq dl dc rk rp rn rt rq rl rc true ∧ Below V.heap.size V w' := fun wx hB => by
      have HC := refstrip_any t _ _ wx (HT.out.later hB) hts
      refine HC.mono ?_
      rintro e w' ⟨⟨rk, rp, rn, rt, rq, rl, rc⟩, rfl, hd, hC⟩
      have hd := hd.mono (S' := fun _ => True) fun _ _ _ => trivial
      have hC := hB.trans (hC.mono hB.size)
      exact ⟨rk, rp, rn, rt, rq, rl, rc, rfl, ⟨_, _, HD.out.later hC, hd, by rw [strip_size]; exact hts, Nd.just_self _⟩, hC⟩
    obtain ⟨b, hb⟩ : ∃ b, Nd.same t u = b := ⟨_, rfl⟩
    have A1 : ∀ wx, Below V.heap.size V wx → Two Nd.same wx k ps n txt kp kl kc k' ps' n' txt' kp' kl' kc' b := fun wx hB => ⟨t, u, HT.out.later hB, HU.out.later hB, hts, hb⟩
    have A2 : ∀ wx, Below V.heap.size V wx → Two Nd.same wx k ps n txt kp kl kc dk dp dn dt dq dl dc true := fun wx hB => ⟨t, _, HT.out.later hB, HD.out.later hB, hts, (Nd.same_strip t).1⟩
    have A3 : ∀ wx, Below V.heap.size V wx → Two Nd.same wx dk dp dn dt dq dl dc k ps n txt kp kl kc true := fun wx hB => ⟨_, t, HD.out.later hB, HT.out.later hB, by rw [strip_size]; exact hts, (Nd.same_strip t).2⟩
    clear hb
    have KEEP : Hid (∀ wx, Below V.heap.size V wx → Below V.heap.size V wx ∧ wx.cell? ⟨w.heap.size, 0, none⟩ = some (.int .i64 k) ∧ wx.cell? ⟨w.heap.size, 1, none⟩ = some (.int .i64 ps) ∧ wx.cell? ⟨w.heap.size, 2, none⟩ = some (.int .i64 n) ∧ wx.cell? ⟨w.heap.size, 3, none⟩ = some (.string ⟨txt.toArray⟩) ∧ wx.cell? ⟨w.heap.size, 4, none⟩ = some (.slice kp kl kc) ∧ wx.cell? ⟨w.heap.size + 1, 0, none⟩ = some (.int .i64 k') ∧ wx.cell? ⟨w.heap.size + 1, 1, none⟩ = some (.int .i64 ps') ∧ wx.cell? ⟨w.heap.size + 1, 2, none⟩ = some (.int .i64 n') ∧ wx.cell? ⟨w.heap.size + 1, 3, none⟩ = some (.string ⟨txt'.toArray⟩) ∧ wx.cell? ⟨w.heap.size + 1, 4, none⟩ = some (.slice kp' kl' kc') ∧ wx.cell? ⟨W4.heap.size, 0, none⟩ = some (.int .i64 dk) ∧ wx.cell? ⟨W4.heap.size, 1, none⟩ = some (.int .i64 dp) ∧ wx.cell? ⟨W4.heap.size, 2, none⟩ = some (.int .i64 dn) ∧ wx.cell? ⟨W4.heap.size, 3, none⟩ = some (.string ⟨dt.toArray⟩) ∧ wx.cell? ⟨W4.heap.size, 4, none⟩ = some (.slice dq dl dc)) := fun wx hB => by
      obtain ⟨x0, x1, x2, x3, x4⟩ := HBX.out.same (hB.block w.heap.size (by have := HVS.out; omega))
      obtain ⟨y0, y1, y2, y3, y4⟩ := HBY.out.same (hB.block (w.heap.size + 1) HVS.out)
      obtain ⟨d0, d1, d2, d3, d4⟩ := HBD.out.same (hB.block W4.heap.size HB4.out)
      exact ⟨hB, x0, x1, x2, x3, x4, y0, y1, y2, y3, y4, d0, d1, d2, d3, d4⟩
    go_region_held3 (fun wx => Below V.heap.size V wx ∧ wx.cell? ⟨w.heap.size, 0, none⟩ = some (.int .i64 k) ∧ wx.cell? ⟨w.heap.size, 1, none⟩ = some (.int .i64 ps) ∧ wx.cell? ⟨w.heap.size, 2, none⟩ = some (.int .i64 n) ∧ wx.cell? ⟨w.heap.size, 3, none⟩ = some (.string ⟨txt.toArray⟩) ∧ wx.cell? ⟨w.heap.size, 4, none⟩ = some (.slice kp kl kc) ∧ wx.cell? ⟨w.heap.size + 1, 0, none⟩ = some (.int .i64 k') ∧ wx.cell? ⟨w.heap.size + 1, 1, none⟩ = some (.int .i64 ps') ∧ wx.cell? ⟨w.heap.size + 1, 2, none⟩ = some (.int .i64 n') ∧ wx.cell? ⟨w.heap.size + 1, 3, none⟩ = some (.string ⟨txt'.toArray⟩) ∧ wx.cell? ⟨w.heap.size + 1, 4, none⟩ = some (.slice kp' kl' kc') ∧ wx.cell? ⟨W4.heap.size, 0, none⟩ = some (.int .i64 dk) ∧ wx.cell? ⟨W4.heap.size, 1, none⟩ = some (.int .i64 dp) ∧ wx.cell? ⟨W4.heap.size, 2, none⟩ = some (.int .i64 dn) ∧ wx.cell? ⟨W4.heap.size, 3, none⟩ = some (.string ⟨dt.toArray⟩) ∧ wx.cell? ⟨W4.heap.size, 4, none⟩ = some (.slice dq dl dc))
      (first | exact KEEP.out _ (Below.refl _ V) | exact KEEP.out _ ((Below.refl _ V).drew) | exact KEEP.out _ hacc)
      (first
      | (go_at_call 14; (first | refine (HPs _ _ _ _ _ _ _ _ _ _ _ _ _ _ _ _ hacc (by first | exact A1 _ hacc | exact A2 _ hacc | exact A3 _ hacc)).mono ?_ | refine (HPs _ _ _ _ _ _ _ _ _ _ _ _ _ _ _ _ ((Below.refl _ V).drew) (by first | exact A1 _ ((Below.refl _ V).drew) | exact A2 _ ((Below.refl _ V).drew) | exact A3 _ ((Below.refl _ V).drew))).mono ?_ | refine (HPs _ _ _ _ _ _ _ _ _ _ _ _ _ _ _ _ (Below.refl _ V) (by first | exact A1 _ (Below.refl _ V) | exact A2 _ (Below.refl _ V) | exact A3 _ (Below.refl _ V))).mono ?_); rintro e w6 ⟨rfl, hacc⟩)
      | (go_at_call 15; (first | refine (HPr _ _ _ _ _ _ _ _ _ _ _ _ _ _ _ _ hacc (by first | exact A1 _ hacc)).mono ?_ | refine (HPr _ _ _ _ _ _ _ _ _ _ _ _ _ _ _ _ ((Below.refl _ V).drew) (by first | exact A1 _ ((Below.refl _ V).drew))).mono ?_ | refine (HPr _ _ _ _ _ _ _ _ _ _ _ _ _ _ _ _ (Below.refl _ V) (by first | exact A1 _ (Below.refl _ V))).mono ?_); rintro e w6 ⟨rfl, hacc⟩)
      | (go_at_call 16; (first | refine (HPj _ _ _ _ _ _ _ _ _ _ _ _ _ _ _ _ hacc (by first | exact hd)).mono ?_ | refine (HPj _ _ _ _ _ _ _ _ _ _ _ _ _ _ _ _ ((Below.refl _ V).drew) (by first | exact hd)).mono ?_ | refine (HPj _ _ _ _ _ _ _ _ _ _ _ _ _ _ _ _ (Below.refl _ V) (by first | exact hd)).mono ?_); rintro e w6 ⟨rfl, hacc⟩)
      | (go_at_call 8; refine (HPw _ ?_).mono ?_; (first | exact hacc | exact (Below.refl _ V).drew | exact Below.refl _ V); rintro e w6 ⟨rfl, hacc⟩)
      | (go_at_call 17; refine (HPt _ ?_).mono ?_; (first | exact hacc | exact (Below.refl _ V).drew | exact Below.refl _ V); rintro e w6 ⟨rk, rp, rn, rt, rq, rl, rc, rfl, hd, hacc⟩))
    go_wp2_with fail
    go_ret
    exact ⟨by simp, HVB.out.trans (hacc.mono (by have := HVS.out; omega))⟩
end Go.Proofs.Ytobmpipifdielaa
