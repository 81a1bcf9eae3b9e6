/- The law PtypesParts: the other two. -/
import Derived.Test.YtlammclbnihopaaPtyPartsA
namespace Go.Proofs.Ytlammclbnihopaa.N7
open Go.RowKit N5 N6
attribute [local go_sem] fld0 fld1

set_option maxRecDepth 100000 in
set_option maxHeartbeats 4000000 in
theorem walk_parts2 {w : World} {v : Value} {xs : List Tk} (what : Int) (hr : ArgRow w v xs) (hl : xs.length ≤ 500) (hm : (IntKind.u64.wrap what).tmod 4 = 2) : Calls Try.prog 5 #[v, .int .i64 what] w (SaysIs true w) := by
  have hw0 := wrow_of hr
  obtain ⟨a0, ln0, cap0, rfl, hln⟩ : ∃ a ln cap, v = .slice a ln cap ∧ ln = xs.length := by rcases hr with ⟨rfl, rfl⟩ | ⟨a, cap, rfl, _⟩; exact ⟨_, _, _, rfl, rfl⟩; exact ⟨_, _, _, rfl, rfl⟩
  have hs' : ¬ (500 : Int) < (ln0 : Int) := by omega
  have hs2 : decide ((500 : Int) < (ln0 : Int)) = false := by simp [hs']
  have HN := new_any _ xs w hr (by omega)
  obtain ⟨n, hnn⟩ : ∃ n, n = w.heap.size := ⟨_, rfl⟩
  have hn : n ≤ w.heap.size := by omega
  rw [← hnn] at hw0
  obtain ⟨c0, hc0⟩ : ∃ c0, c0 = newCu xs := ⟨_, rfl⟩
  have HO0 : Hid (CuOk c0) := by show CuOk _; rw [hc0]; exact ok_new _ (by omega)
  have HN0 : Hid (c0.nest = 0) := by show _ = _; rw [hc0]; rfl
  have HN2 : ∀ W, Below n w W → n ≤ W.heap.size → _ := fun W hB hnw => refnew_any n _ xs W (hw0.below hB) hnw (by omega)
  rw [← hc0] at HN HN2
  have HNN := Lib.hid hnn
  clear hr hl hc0 hw0 hln
  have HREL := Lib.hid (rel_at c0 HN0.out)
  go_enter Try.func5, Try.ntmps5
  go_wp2_with fail
  refine HN.mono ?_; rintro e W1 ⟨v1, rfl, hcur, hB1, -⟩
  have HCu := At7.of hcur
  have hs1 : w.heap.size + 1 ≤ W1.heap.size := hcur.lt
  have HN3 := HN2 W1 (hB1.mono hn) (by omega)
  clear HN HN2 hcur
  go_wp2_with fail
  refine HN3.mono ?_; rintro e W2 ⟨x, rfl, hx, hB⟩
  obtain ⟨a1, ln1, cap1, rfl, hRq, -⟩ := hx.shape
  have Rq1 := hRq.out
  clear HN3 hx hRq
  replace HCu := HCu.below hB
  have hs3 := hB.size
  have hB3 := hB1.trans (hB.mono hB1.size)
  clear hB hB1
  go_upto_region 4 with fail
  obtain ⟨W4, hW4⟩ : ∃ x, x = W2.alloc (.cells (refC (.slice a1 ln1 cap1) c0.ep (c0.nest : Int) c0.err c0.pos) 39) := ⟨_, rfl⟩
  rw [← hW4]
  have hB : Below W2.heap.size W2 W4 := by rw [hW4]; exact (Below.refl _ _).alloc (Nat.le_refl _) _
  have KN : Blk W4 W2.heap.size (refC (.slice a1 ln1 cap1) c0.ep (c0.nest : Int) c0.err c0.pos) 39 := by rw [hW4]; exact Blk.new W2 _ _
  have hz4 : W2.heap.size + 1 ≤ W4.heap.size := by rw [hW4]; simp
  clear hW4
  replace HCu := HCu.below hB
  replace Rq1 := Rq1.below (hB.mono (Nat.le_trans hn hB3.size))
  have hs5 := hB.size
  have hB5 := hB3.trans (hB.mono hB3.size)
  clear hB hB3
  have Kx := KN
  clear KN
  go_upto_region 7 with fail
  obtain ⟨W6, hV⟩ : ∃ x, x = (W4.alloc (.cells #[.int .i64 0, .int .i64 0, .int .i64 0, .string ⟨#[]⟩, .slice none 0 0] 25)).alloc (.cells #[.int .i64 0, .int .i64 0, .int .i64 0, .string ⟨#[]⟩, .slice none 0 0] 25) := ⟨_, rfl⟩
  rw [← hV]
  have hB : Below W4.heap.size W4 W6 := by rw [hV]; exact ((Below.refl _ _).alloc (Nat.le_refl _) _).alloc (by simp) _
  have KA : Blk W6 (W4.heap.size) #[.int .i64 0, .int .i64 0, .int .i64 0, .string ⟨#[]⟩, .slice none 0 0] 25 := by rw [hV]; exact (Blk.new W4 _ _).later ((Below.refl _ _).alloc (Nat.le_refl _) _)
  have KB : Blk W6 (W4.heap.size + 1) #[.int .i64 0, .int .i64 0, .int .i64 0, .string ⟨#[]⟩, .slice none 0 0] 25 := by rw [hV]; have h0 := Blk.new (W4.alloc (.cells #[.int .i64 0, .int .i64 0, .int .i64 0, .string ⟨#[]⟩, .slice none 0 0] 25)) #[.int .i64 0, .int .i64 0, .int .i64 0, .string ⟨#[]⟩, .slice none 0 0] 25; simp only [World.size_alloc] at h0; exact h0
  have hz6 : W4.heap.size + 1 + 1 ≤ W6.heap.size := by rw [hV]; simp
  clear hV
  replace HCu := HCu.below hB
  replace Kx := Kx.later hB
  replace Rq1 := Rq1.below (hB.mono (Nat.le_trans hn hB5.size))
  have hs7 := hB.size
  have hB7 := hB5.trans (hB.mono hB5.size)
  clear hB hB5
  have Km1 := KA
  have Km2 := KB
  clear KA KB
  have HA := at_any HCu.cur
  have HSZ := size_at c0
  rcases HREL.out.cases with ⟨he, e2⟩ | ⟨he, e2⟩
  ·
    obtain ⟨⟨c1, tr⟩, hc1⟩ : ∃ q, q = atR 200 c0 := ⟨_, rfl⟩
    rw [← hc1] at he e2
    dsimp only at he e2
    have HF1 := HREL.out.fine
    rw [← hc1] at HF1
    dsimp only at HF1
    have HO1 := Lib.hid (HF1.ok HO0.out)
    have HE := Lib.hid he
    have hz0 := HSZ _ _ e2
    have HZ : Hid (tr.size ≤ 1000000) := by
      have k3 := HO1.out.le
      have k4 := HO1.out.few
      show _ ≤ _
      omega
    clear hz0
    rw [e2] at HA
    clear e2 he HF1 HSZ
    obtain ⟨⟨x0, x1, x2, x3, x4, x5, x6, x7⟩, xf0, xf1, xf2, xf3, xf4, xf5, xf6, xf7⟩ := cells8 Kx
    obtain ⟨⟨m10, m11, m12, m13, m14⟩, m1f0, m1f1, m1f2, m1f3, m1f4⟩ := cells5 Km1
    obtain ⟨⟨m20, m21, m22, m23, m24⟩, m2f0, m2f1, m2f2, m2f3, m2f4⟩ := cells5 Km2
    go_wp2_with fail
    refine HA.mono ?_; rintro e W8 ⟨d, rfl, hA7, hT⟩
    clear HA
    dsimp only at hA7 hT
    clear x0 x1 x2 x3 x4 x5 x6 x7 xf0 xf1 xf2 xf3 xf4 xf5 xf6 xf7 m10 m11 m12 m13 m14 m1f0 m1f1 m1f2 m1f3 m1f4 m20 m21 m22 m23 m24 m2f0 m2f1 m2f2 m2f3 m2f4
    have hg := hA7.grown
    replace HCu := HCu.trans hA7
    clear hA7
    replace Kx := Kx.kept hg (fun e => by injection e; omega)
    replace Km1 := Km1.kept hg (fun e => by injection e; omega)
    replace Km2 := Km2.kept hg (fun e => by injection e; omega)
    have hB := below_grown hg (Nat.le_refl w.heap.size) (by omega)
    replace Rq1 := Rq1.below (hB.mono hn)
    have hs9 := hg.size
    have hB9 := hB7.trans hB
    clear hB hg hB7
    obtain ⟨dk, dp, dn, dt, dq, dl, dc⟩ := d
    unfold NC.val
    have Td := hT.mono (S' := fun q => W6.heap.size ≤ q) fun q hq _ => hq
    clear hT
    obtain ⟨⟨x0, x1, x2, x3, x4, x5, x6, x7⟩, xf0, xf1, xf2, xf3, xf4, xf5, xf6, xf7⟩ := cells8 Kx
    obtain ⟨⟨m10, m11, m12, m13, m14⟩, m1f0, m1f1, m1f2, m1f3, m1f4⟩ := cells5 Km1
    obtain ⟨⟨m20, m21, m22, m23, m24⟩, m2f0, m2f1, m2f2, m2f3, m2f4⟩ := cells5 Km2
    obtain ⟨W10, hW10, KN, hP⟩ := n_put (z := zN) Km1 ⟨dk, dp, dn, dt, dq, dl, dc⟩
    replace HCu := HCu.putb (by omega) hP
    replace Kx := hP.blk Kx (by omega)
    replace Km2 := hP.blk Km2 (by omega)
    replace Td := hP.node Td (by omega)
    replace Rq1 := hP.row Rq1 (by omega)
    have hs11 := hP.size
    have hB11 := hP.below _ _ (by omega) hB9
    clear hP hB9
    dsimp only [zN] at hW10 KN
    replace Km1 := KN
    clear KN
    go_upto_region 16 with fail
    rw [← hW10]
    clear hW10 x0 x1 x2 x3 x4 x5 x6 x7 xf0 xf1 xf2 xf3 xf4 xf5 xf6 xf7 m10 m11 m12 m13 m14 m1f0 m1f1 m1f2 m1f3 m1f4 m20 m21 m22 m23 m24 m2f0 m2f1 m2f2 m2f3 m2f4
    have HR := refat_at n c0 _ _ HN0.out HO0.out (RefIs.mk Rq1) (Nat.le_trans hn hB11.size)
    rw [← hc1] at HR
    obtain ⟨⟨x0, x1, x2, x3, x4, x5, x6, x7⟩, xf0, xf1, xf2, xf3, xf4, xf5, xf6, xf7⟩ := cells8 Kx
    obtain ⟨⟨m10, m11, m12, m13, m14⟩, m1f0, m1f1, m1f2, m1f3, m1f4⟩ := cells5 Km1
    obtain ⟨⟨m20, m21, m22, m23, m24⟩, m2f0, m2f1, m2f2, m2f3, m2f4⟩ := cells5 Km2
    go_wp2_with fail
    refine HR.mono ?_; rintro e W12 ⟨x', g, rfl, hx, hd, hB⟩
    clear HR
    obtain ⟨a12, ln12, cap12, rfl, hRq, -⟩ := hx.shape
    have Rq12 := hRq.out
    clear hx hRq
    dsimp only at hd Rq12 ⊢
    clear x0 x1 x2 x3 x4 x5 x6 x7 xf0 xf1 xf2 xf3 xf4 xf5 xf6 xf7 m10 m11 m12 m13 m14 m1f0 m1f1 m1f2 m1f3 m1f4 m20 m21 m22 m23 m24 m2f0 m2f1 m2f2 m2f3 m2f4
    replace HCu := HCu.below hB
    replace Kx := Kx.later hB
    replace Km1 := Km1.later hB
    replace Km2 := Km2.later hB
    replace Td := Td.keeps (w' := W12) ⟨hB.size, fun k hk hkl => hB.block k hkl⟩
    replace Rq1 := Rq1.below (hB.mono (Nat.le_trans hn hB11.size))
    have hs13 := hB.size
    have hB13 := hB11.trans (hB.mono hB11.size)
    clear hB hB11
    obtain ⟨gk, gp, gn, gt, gq, gl, gc⟩ := g
    unfold NC.val
    have Tg := hd.mono (S' := fun q => W6.heap.size ≤ q) fun q hq _ => by omega
    clear hd
    obtain ⟨⟨x0, x1, x2, x3, x4, x5, x6, x7⟩, xf0, xf1, xf2, xf3, xf4, xf5, xf6, xf7⟩ := cells8 Kx
    obtain ⟨⟨m10, m11, m12, m13, m14⟩, m1f0, m1f1, m1f2, m1f3, m1f4⟩ := cells5 Km1
    obtain ⟨⟨m20, m21, m22, m23, m24⟩, m2f0, m2f1, m2f2, m2f3, m2f4⟩ := cells5 Km2
    obtain ⟨W14, hW14, KN, hP⟩ := c_put Kx (.slice a12 ln12 cap12) c1.ep (c1.nest : Int) c1.err c1.pos
    replace HCu := HCu.putb (by omega) hP
    replace Km1 := hP.blk Km1 (by omega)
    replace Km2 := hP.blk Km2 (by omega)
    replace Td := hP.node Td (by omega)
    replace Tg := hP.node Tg (by omega)
    replace Rq12 := hP.row Rq12 (by omega)
    have hs15 := hP.size
    have hB15 := hP.below _ _ (by omega) hB13
    clear hP hB13
    replace Kx := KN
    clear KN
    obtain ⟨W16, hW16, KN, hP⟩ := n_put (z := zN) Km2 ⟨gk, gp, gn, gt, gq, gl, gc⟩
    replace HCu := HCu.putb (by omega) hP
    replace Kx := hP.blk Kx (by omega)
    replace Km1 := hP.blk Km1 (by omega)
    replace Td := hP.node Td (by omega)
    replace Tg := hP.node Tg (by omega)
    replace Rq12 := hP.row Rq12 (by omega)
    have hs17 := hP.size
    have hB17 := hP.below _ _ (by omega) hB15
    clear hP hB15
    dsimp only [zN] at hW16 KN
    replace Km2 := KN
    clear KN
    go_upto_region 20 with fail
    rw [← hW14, ← hW16]
    clear hW14 hW16 x0 x1 x2 x3 x4 x5 x6 x7 xf0 xf1 xf2 xf3 xf4 xf5 xf6 xf7 m10 m11 m12 m13 m14 m1f0 m1f1 m1f2 m1f3 m1f4 m20 m21 m22 m23 m24 m2f0 m2f1 m2f2 m2f3 m2f4
    obtain ⟨pD, hpD⟩ : ∃ q, q = c1.doneP := ⟨_, rfl⟩
    obtain ⟨eD, heD⟩ : ∃ q, q = c1.doneE := ⟨_, rfl⟩
    have HD := done_any HCu.cur
    rw [← hpD, ← heD] at HD
    obtain ⟨⟨x0, x1, x2, x3, x4, x5, x6, x7⟩, xf0, xf1, xf2, xf3, xf4, xf5, xf6, xf7⟩ := cells8 Kx
    obtain ⟨⟨m10, m11, m12, m13, m14⟩, m1f0, m1f1, m1f2, m1f3, m1f4⟩ := cells5 Km1
    obtain ⟨⟨m20, m21, m22, m23, m24⟩, m2f0, m2f1, m2f2, m2f3, m2f4⟩ := cells5 Km2
    go_wp2_with fail
    refine HD.mono ?_; rintro e W18 ⟨rfl, hB⟩
    clear HD
    clear x0 x1 x2 x3 x4 x5 x6 x7 xf0 xf1 xf2 xf3 xf4 xf5 xf6 xf7 m10 m11 m12 m13 m14 m1f0 m1f1 m1f2 m1f3 m1f4 m20 m21 m22 m23 m24 m2f0 m2f1 m2f2 m2f3 m2f4
    replace HCu := HCu.below hB
    replace Kx := Kx.later hB
    replace Km1 := Km1.later hB
    replace Km2 := Km2.later hB
    replace Td := Td.keeps (w' := W18) ⟨hB.size, fun k hk hkl => hB.block k hkl⟩
    replace Tg := Tg.keeps (w' := W18) ⟨hB.size, fun k hk hkl => hB.block k hkl⟩
    replace Rq12 := Rq12.below (hB.mono (Nat.le_trans hn hB17.size))
    have hs19 := hB.size
    have hB19 := hB17.trans (hB.mono hB17.size)
    clear hB hB17
    have HD := refdone_any (RefIs.mk Rq12) (Nat.le_trans hn hB19.size) HO1.out
    rw [← hpD, ← heD] at HD
    clear hpD heD
    obtain ⟨⟨x0, x1, x2, x3, x4, x5, x6, x7⟩, xf0, xf1, xf2, xf3, xf4, xf5, xf6, xf7⟩ := cells8 Kx
    obtain ⟨⟨m10, m11, m12, m13, m14⟩, m1f0, m1f1, m1f2, m1f3, m1f4⟩ := cells5 Km1
    obtain ⟨⟨m20, m21, m22, m23, m24⟩, m2f0, m2f1, m2f2, m2f3, m2f4⟩ := cells5 Km2
    go_wp2_with fail
    refine HD.mono ?_; rintro e W20 ⟨rfl, hB⟩
    clear HD
    clear x0 x1 x2 x3 x4 x5 x6 x7 xf0 xf1 xf2 xf3 xf4 xf5 xf6 xf7 m10 m11 m12 m13 m14 m1f0 m1f1 m1f2 m1f3 m1f4 m20 m21 m22 m23 m24 m2f0 m2f1 m2f2 m2f3 m2f4
    replace HCu := HCu.below hB
    replace Kx := Kx.later hB
    replace Km1 := Km1.later hB
    replace Km2 := Km2.later hB
    replace Td := Td.keeps (w' := W20) ⟨hB.size, fun k hk hkl => hB.block k hkl⟩
    replace Tg := Tg.keeps (w' := W20) ⟨hB.size, fun k hk hkl => hB.block k hkl⟩
    replace Rq12 := Rq12.below (hB.mono (Nat.le_trans hn hB19.size))
    have hs21 := hB.size
    have hB21 := hB19.trans (hB.mono hB19.size)
    clear hB hB19
    have hbe : (c1.err == 0) = true := by rw [HE.out]; rfl
    obtain ⟨⟨tk, tp, tn, tt⟩, hT⟩ : ∃ t, t = c1.peek := ⟨_, rfl⟩
    have HP1 : ∀ wx, Below W20.heap.size W20 wx → Calls Try.prog 26 #[.pointer (some ⟨w.heap.size, 0, none⟩)] wx fun e w' => e = .returned (.agg #[.int .i64 tk, .int .i64 tp, .int .i64 tn, .string ⟨tt.toArray⟩]) ∧ Below W20.heap.size W20 w' := fun wx hb => by
      have := peek_any (HCu.cur.below hb)
      rw [← hT] at this
      exact this.mono fun e w' h => ⟨h.1, hb.trans (h.2.mono hb.size)⟩
    have HP2 : ∀ wx, Below W20.heap.size W20 wx → Calls Try.prog 27 #[.agg (refC (.slice a12 ln12 cap12) c1.ep (c1.nest : Int) c1.err c1.pos)] wx fun e w' => e = .returned (.agg #[.int .i64 tk, .int .i64 tp, .int .i64 tn, .string ⟨tt.toArray⟩]) ∧ Below W20.heap.size W20 w' := fun wx hb => by
      have := refpeek_l (RefIs.mk (Rq12.below (hb.mono (by omega)))) (Nat.le_trans (by omega) hb.size)
      rw [← hT] at this
      exact this.mono fun e w' h => ⟨h.1, hb.trans (h.2.mono hb.size)⟩
    have KEEP : Hid (∀ wx, Below W20.heap.size W20 wx → Below W20.heap.size W20 wx ∧ wx.cell? ⟨W2.heap.size, 0, none⟩ = some ((.slice a12 ln12 cap12)) ∧ wx.cell? ⟨W2.heap.size, 1, none⟩ = some (.int .i64 0) ∧ wx.cell? ⟨W2.heap.size, 2, none⟩ = some (.int .i64 c1.ep) ∧ wx.cell? ⟨W2.heap.size, 3, none⟩ = some (.int .i64 0) ∧ wx.cell? ⟨W2.heap.size, 4, none⟩ = some (.string ⟨#[]⟩) ∧ wx.cell? ⟨W2.heap.size, 5, none⟩ = some (.int .i64 (c1.nest : Int)) ∧ wx.cell? ⟨W2.heap.size, 6, none⟩ = some (.int .i64 c1.err) ∧ wx.cell? ⟨W2.heap.size, 7, none⟩ = some (.int .i64 c1.pos)) := fun wx hb => by
      obtain ⟨⟨x0, x1, x2, x3, x4, x5, x6, x7⟩, -⟩ := cells8 (Kx.later hb)
      exact ⟨hb, x0, x1, x2, x3, x4, x5, x6, x7⟩
    obtain ⟨⟨x0, x1, x2, x3, x4, x5, x6, x7⟩, -⟩ := cells8 Kx
    clear hT
    go_upto_region 22 with fail
    go_region_held3 (fun wx => Below W20.heap.size W20 wx ∧ wx.cell? ⟨W2.heap.size, 0, none⟩ = some ((.slice a12 ln12 cap12)) ∧ wx.cell? ⟨W2.heap.size, 1, none⟩ = some (.int .i64 0) ∧ wx.cell? ⟨W2.heap.size, 2, none⟩ = some (.int .i64 c1.ep) ∧ wx.cell? ⟨W2.heap.size, 3, none⟩ = some (.int .i64 0) ∧ wx.cell? ⟨W2.heap.size, 4, none⟩ = some (.string ⟨#[]⟩) ∧ wx.cell? ⟨W2.heap.size, 5, none⟩ = some (.int .i64 (c1.nest : Int)) ∧ wx.cell? ⟨W2.heap.size, 6, none⟩ = some (.int .i64 c1.err) ∧ wx.cell? ⟨W2.heap.size, 7, none⟩ = some (.int .i64 c1.pos))
      (first | exact KEEP.out _ ((Below.refl _ _).drew) | exact KEEP.out _ hacc)
      (first
      | (go_at_call 26; refine (HP1 _ ?_).mono ?_; (first | exact hacc | exact (Below.refl _ _).drew); rintro e w5 ⟨rfl, hacc⟩)
      | (go_at_call 27; refine (HP2 _ ?_).mono ?_; (first | exact hacc | exact (Below.refl _ _).drew); rintro e w6 ⟨rfl, hacc⟩))
    have hB := hacc
    clear hacc HP1 HP2 KEEP x0 x1 x2 x3 x4 x5 x6 x7
    replace HCu := HCu.below hB
    replace Kx := Kx.later hB
    replace Km1 := Km1.later hB
    replace Km2 := Km2.later hB
    replace Td := Td.keeps (w' := w6) ⟨hB.size, fun k hk hkl => hB.block k hkl⟩
    replace Tg := Tg.keeps (w' := w6) ⟨hB.size, fun k hk hkl => hB.block k hkl⟩
    replace Rq12 := Rq12.below (hB.mono (Nat.le_trans hn hB21.size))
    have hs22 := hB.size
    have hB22 := hB21.trans (hB.mono hB21.size)
    clear hB hB21
    have HA := fun W => awake_any W
    have HJ : Hid (∀ a b wx, ((a = .agg #[.int .i64 dk, .int .i64 dp, .int .i64 dn, .string ⟨dt.toArray⟩, .slice dq dl dc] ∧ b = .agg #[.int .i64 gk, .int .i64 gp, .int .i64 gn, .string ⟨gt.toArray⟩, .slice gq gl gc]) ∨ (a = .agg #[.int .i64 0, .int .i64 0, .int .i64 0, .string ⟨#[]⟩, .slice none 0 0] ∧ b = .agg #[.int .i64 0, .int .i64 0, .int .i64 0, .string ⟨#[]⟩, .slice none 0 0])) → Below w6.heap.size w6 wx → Calls Try.prog 11 #[a, b] wx (fun e w' => e = .returned (.bool true) ∧ Below w6.heap.size w6 w')) := fun a b wx hab hb => by
      rcases hab with ⟨rfl, rfl⟩ | ⟨rfl, rfl⟩
      · have := (just_any tr _ _ tr _ _ wx (Td.later hb) (Tg.later hb) HZ.out)
        rw [Nd.just_self] at this
        exact this.mono fun e w' h => ⟨h.1, hb.trans (h.2.mono hb.size)⟩
      · have := (just_any zNd (fun _ => False) (fun _ => False) zNd zN zN wx (leaf_in (fun _ => False) _ 0 0 0 []) (leaf_in (fun _ => False) _ 0 0 0 []) (by decide))
        rw [Nd.just_self] at this
        exact this.mono fun e w' h => ⟨h.1, hb.trans (h.2.mono hb.size)⟩
    obtain ⟨⟨m0, m1, m2, m3, m4⟩, -⟩ := cells5 Km1
    obtain ⟨⟨p0, p1, p2, p3, p4⟩, -⟩ := cells5 Km2
    have hacc := Below.refl w6.heap.size w6
    go_wp2_with (first
      | (go_at_call 11; refine (HJ.out _ _ _ (by first | exact .inl ⟨rfl, rfl⟩ | exact .inr ⟨rfl, rfl⟩) hacc).mono ?_; rintro e w7 ⟨rfl, hacc⟩)
      | (go_at_call 8; refine (HA _).mono ?_; rintro e w8 ⟨rfl, hB8⟩; have hacc := hacc.trans (hB8.mono hacc.size)))
    go_ret
    exact ⟨rfl, hB22.trans (hacc.mono hB22.size)⟩
  ·
    obtain ⟨⟨c1, tr⟩, hc1⟩ : ∃ q, q = atR 200 c0 := ⟨_, rfl⟩
    rw [← hc1] at he e2
    dsimp only at he e2
    have HF1 := HREL.out.fine
    rw [← hc1] at HF1
    dsimp only at HF1
    have HO1 := Lib.hid (HF1.ok HO0.out)
    have HE := Lib.hid he
    rw [e2] at HA
    clear e2 he HF1 HSZ
    obtain ⟨⟨x0, x1, x2, x3, x4, x5, x6, x7⟩, xf0, xf1, xf2, xf3, xf4, xf5, xf6, xf7⟩ := cells8 Kx
    obtain ⟨⟨m10, m11, m12, m13, m14⟩, m1f0, m1f1, m1f2, m1f3, m1f4⟩ := cells5 Km1
    obtain ⟨⟨m20, m21, m22, m23, m24⟩, m2f0, m2f1, m2f2, m2f3, m2f4⟩ := cells5 Km2
    go_wp2_with fail
    refine HA.mono ?_; rintro e W23 ⟨d, rfl, hA7, hT⟩
    clear HA
    dsimp only at hA7 hT
    clear x0 x1 x2 x3 x4 x5 x6 x7 xf0 xf1 xf2 xf3 xf4 xf5 xf6 xf7 m10 m11 m12 m13 m14 m1f0 m1f1 m1f2 m1f3 m1f4 m20 m21 m22 m23 m24 m2f0 m2f1 m2f2 m2f3 m2f4
    have hg := hA7.grown
    replace HCu := HCu.trans hA7
    clear hA7
    replace Kx := Kx.kept hg (fun e => by injection e; omega)
    replace Km1 := Km1.kept hg (fun e => by injection e; omega)
    replace Km2 := Km2.kept hg (fun e => by injection e; omega)
    have hB := below_grown hg (Nat.le_refl w.heap.size) (by omega)
    replace Rq1 := Rq1.below (hB.mono hn)
    have hs24 := hg.size
    have hB24 := hB7.trans hB
    clear hB hg hB7
    obtain rfl : d = zN := hT
    unfold NC.val zN
    dsimp only
    obtain ⟨⟨x0, x1, x2, x3, x4, x5, x6, x7⟩, xf0, xf1, xf2, xf3, xf4, xf5, xf6, xf7⟩ := cells8 Kx
    obtain ⟨⟨m10, m11, m12, m13, m14⟩, m1f0, m1f1, m1f2, m1f3, m1f4⟩ := cells5 Km1
    obtain ⟨⟨m20, m21, m22, m23, m24⟩, m2f0, m2f1, m2f2, m2f3, m2f4⟩ := cells5 Km2
    obtain ⟨W25, hW25, KN, hP⟩ := n_put (z := zN) Km1 zN
    replace HCu := HCu.putb (by omega) hP
    replace Kx := hP.blk Kx (by omega)
    replace Km2 := hP.blk Km2 (by omega)
    replace Rq1 := hP.row Rq1 (by omega)
    have hs26 := hP.size
    have hB26 := hP.below _ _ (by omega) hB24
    clear hP hB24
    dsimp only [zN] at hW25 KN
    replace Km1 := KN
    clear KN
    go_upto_region 16 with fail
    rw [← hW25]
    clear hW25 x0 x1 x2 x3 x4 x5 x6 x7 xf0 xf1 xf2 xf3 xf4 xf5 xf6 xf7 m10 m11 m12 m13 m14 m1f0 m1f1 m1f2 m1f3 m1f4 m20 m21 m22 m23 m24 m2f0 m2f1 m2f2 m2f3 m2f4
    have HR := refat_at n c0 _ _ HN0.out HO0.out (RefIs.mk Rq1) (Nat.le_trans hn hB26.size)
    rw [← hc1] at HR
    obtain ⟨⟨x0, x1, x2, x3, x4, x5, x6, x7⟩, xf0, xf1, xf2, xf3, xf4, xf5, xf6, xf7⟩ := cells8 Kx
    obtain ⟨⟨m10, m11, m12, m13, m14⟩, m1f0, m1f1, m1f2, m1f3, m1f4⟩ := cells5 Km1
    obtain ⟨⟨m20, m21, m22, m23, m24⟩, m2f0, m2f1, m2f2, m2f3, m2f4⟩ := cells5 Km2
    go_wp2_with fail
    refine HR.mono ?_; rintro e W27 ⟨x', g, rfl, hx, hd, hB⟩
    clear HR
    obtain ⟨a27, ln27, cap27, rfl, hRq, -⟩ := hx.shape
    have Rq27 := hRq.out
    clear hx hRq
    dsimp only at hd Rq27 ⊢
    clear x0 x1 x2 x3 x4 x5 x6 x7 xf0 xf1 xf2 xf3 xf4 xf5 xf6 xf7 m10 m11 m12 m13 m14 m1f0 m1f1 m1f2 m1f3 m1f4 m20 m21 m22 m23 m24 m2f0 m2f1 m2f2 m2f3 m2f4
    replace HCu := HCu.below hB
    replace Kx := Kx.later hB
    replace Km1 := Km1.later hB
    replace Km2 := Km2.later hB
    replace Rq1 := Rq1.below (hB.mono (Nat.le_trans hn hB26.size))
    have hs28 := hB.size
    have hB28 := hB26.trans (hB.mono hB26.size)
    clear hB hB26
    obtain ⟨gk, gp, gn, gt, gq, gl, gc⟩ := g
    unfold NC.val
    have Tg := hd.mono (S' := fun q => W6.heap.size ≤ q) fun q hq _ => by omega
    clear hd
    clear Tg
    obtain ⟨⟨x0, x1, x2, x3, x4, x5, x6, x7⟩, xf0, xf1, xf2, xf3, xf4, xf5, xf6, xf7⟩ := cells8 Kx
    obtain ⟨⟨m10, m11, m12, m13, m14⟩, m1f0, m1f1, m1f2, m1f3, m1f4⟩ := cells5 Km1
    obtain ⟨⟨m20, m21, m22, m23, m24⟩, m2f0, m2f1, m2f2, m2f3, m2f4⟩ := cells5 Km2
    obtain ⟨W29, hW29, KN, hP⟩ := c_put Kx (.slice a27 ln27 cap27) c1.ep (c1.nest : Int) c1.err c1.pos
    replace HCu := HCu.putb (by omega) hP
    replace Km1 := hP.blk Km1 (by omega)
    replace Km2 := hP.blk Km2 (by omega)
    replace Rq27 := hP.row Rq27 (by omega)
    have hs30 := hP.size
    have hB30 := hP.below _ _ (by omega) hB28
    clear hP hB28
    replace Kx := KN
    clear KN
    obtain ⟨W31, hW31, KN, hP⟩ := n_put (z := zN) Km2 ⟨gk, gp, gn, gt, gq, gl, gc⟩
    replace HCu := HCu.putb (by omega) hP
    replace Kx := hP.blk Kx (by omega)
    replace Km1 := hP.blk Km1 (by omega)
    replace Rq27 := hP.row Rq27 (by omega)
    have hs32 := hP.size
    have hB32 := hP.below _ _ (by omega) hB30
    clear hP hB30
    dsimp only [zN] at hW31 KN
    replace Km2 := KN
    clear KN
    go_upto_region 20 with fail
    rw [← hW29, ← hW31]
    clear hW29 hW31 x0 x1 x2 x3 x4 x5 x6 x7 xf0 xf1 xf2 xf3 xf4 xf5 xf6 xf7 m10 m11 m12 m13 m14 m1f0 m1f1 m1f2 m1f3 m1f4 m20 m21 m22 m23 m24 m2f0 m2f1 m2f2 m2f3 m2f4
    obtain ⟨pD, hpD⟩ : ∃ q, q = c1.doneP := ⟨_, rfl⟩
    obtain ⟨eD, heD⟩ : ∃ q, q = c1.doneE := ⟨_, rfl⟩
    have HD := done_any HCu.cur
    rw [← hpD, ← heD] at HD
    obtain ⟨⟨x0, x1, x2, x3, x4, x5, x6, x7⟩, xf0, xf1, xf2, xf3, xf4, xf5, xf6, xf7⟩ := cells8 Kx
    obtain ⟨⟨m10, m11, m12, m13, m14⟩, m1f0, m1f1, m1f2, m1f3, m1f4⟩ := cells5 Km1
    obtain ⟨⟨m20, m21, m22, m23, m24⟩, m2f0, m2f1, m2f2, m2f3, m2f4⟩ := cells5 Km2
    go_wp2_with fail
    refine HD.mono ?_; rintro e W33 ⟨rfl, hB⟩
    clear HD
    clear x0 x1 x2 x3 x4 x5 x6 x7 xf0 xf1 xf2 xf3 xf4 xf5 xf6 xf7 m10 m11 m12 m13 m14 m1f0 m1f1 m1f2 m1f3 m1f4 m20 m21 m22 m23 m24 m2f0 m2f1 m2f2 m2f3 m2f4
    replace HCu := HCu.below hB
    replace Kx := Kx.later hB
    replace Km1 := Km1.later hB
    replace Km2 := Km2.later hB
    replace Rq27 := Rq27.below (hB.mono (Nat.le_trans hn hB32.size))
    have hs34 := hB.size
    have hB34 := hB32.trans (hB.mono hB32.size)
    clear hB hB32
    have HD := refdone_any (RefIs.mk Rq27) (Nat.le_trans hn hB34.size) HO1.out
    rw [← hpD, ← heD] at HD
    clear hpD heD
    obtain ⟨⟨x0, x1, x2, x3, x4, x5, x6, x7⟩, xf0, xf1, xf2, xf3, xf4, xf5, xf6, xf7⟩ := cells8 Kx
    obtain ⟨⟨m10, m11, m12, m13, m14⟩, m1f0, m1f1, m1f2, m1f3, m1f4⟩ := cells5 Km1
    obtain ⟨⟨m20, m21, m22, m23, m24⟩, m2f0, m2f1, m2f2, m2f3, m2f4⟩ := cells5 Km2
    go_wp2_with fail
    refine HD.mono ?_; rintro e W35 ⟨rfl, hB⟩
    clear HD
    clear x0 x1 x2 x3 x4 x5 x6 x7 xf0 xf1 xf2 xf3 xf4 xf5 xf6 xf7 m10 m11 m12 m13 m14 m1f0 m1f1 m1f2 m1f3 m1f4 m20 m21 m22 m23 m24 m2f0 m2f1 m2f2 m2f3 m2f4
    replace HCu := HCu.below hB
    replace Kx := Kx.later hB
    replace Km1 := Km1.later hB
    replace Km2 := Km2.later hB
    replace Rq27 := Rq27.below (hB.mono (Nat.le_trans hn hB34.size))
    have hs36 := hB.size
    have hB36 := hB34.trans (hB.mono hB34.size)
    clear hB hB34
    have hbe : (c1.err == 0) = false := by rw [beq_eq_false_iff_ne]; exact HE.out
    obtain ⟨⟨tk, tp, tn, tt⟩, hT⟩ : ∃ t, t = c1.peek := ⟨_, rfl⟩
    have HP1 : ∀ wx, Below W35.heap.size W35 wx → Calls Try.prog 26 #[.pointer (some ⟨w.heap.size, 0, none⟩)] wx fun e w' => e = .returned (.agg #[.int .i64 tk, .int .i64 tp, .int .i64 tn, .string ⟨tt.toArray⟩]) ∧ Below W35.heap.size W35 w' := fun wx hb => by
      have := peek_any (HCu.cur.below hb)
      rw [← hT] at this
      exact this.mono fun e w' h => ⟨h.1, hb.trans (h.2.mono hb.size)⟩
    have HP2 : ∀ wx, Below W35.heap.size W35 wx → Calls Try.prog 27 #[.agg (refC (.slice a27 ln27 cap27) c1.ep (c1.nest : Int) c1.err c1.pos)] wx fun e w' => e = .returned (.agg #[.int .i64 tk, .int .i64 tp, .int .i64 tn, .string ⟨tt.toArray⟩]) ∧ Below W35.heap.size W35 w' := fun wx hb => by
      have := refpeek_l (RefIs.mk (Rq27.below (hb.mono (by omega)))) (Nat.le_trans (by omega) hb.size)
      rw [← hT] at this
      exact this.mono fun e w' h => ⟨h.1, hb.trans (h.2.mono hb.size)⟩
    have KEEP : Hid (∀ wx, Below W35.heap.size W35 wx → Below W35.heap.size W35 wx ∧ wx.cell? ⟨W2.heap.size, 0, none⟩ = some ((.slice a27 ln27 cap27)) ∧ wx.cell? ⟨W2.heap.size, 1, none⟩ = some (.int .i64 0) ∧ wx.cell? ⟨W2.heap.size, 2, none⟩ = some (.int .i64 c1.ep) ∧ wx.cell? ⟨W2.heap.size, 3, none⟩ = some (.int .i64 0) ∧ wx.cell? ⟨W2.heap.size, 4, none⟩ = some (.string ⟨#[]⟩) ∧ wx.cell? ⟨W2.heap.size, 5, none⟩ = some (.int .i64 (c1.nest : Int)) ∧ wx.cell? ⟨W2.heap.size, 6, none⟩ = some (.int .i64 c1.err) ∧ wx.cell? ⟨W2.heap.size, 7, none⟩ = some (.int .i64 c1.pos)) := fun wx hb => by
      obtain ⟨⟨x0, x1, x2, x3, x4, x5, x6, x7⟩, -⟩ := cells8 (Kx.later hb)
      exact ⟨hb, x0, x1, x2, x3, x4, x5, x6, x7⟩
    obtain ⟨⟨x0, x1, x2, x3, x4, x5, x6, x7⟩, -⟩ := cells8 Kx
    clear hT
    go_upto_region 22 with fail
    go_region_held3 (fun wx => Below W35.heap.size W35 wx ∧ wx.cell? ⟨W2.heap.size, 0, none⟩ = some ((.slice a27 ln27 cap27)) ∧ wx.cell? ⟨W2.heap.size, 1, none⟩ = some (.int .i64 0) ∧ wx.cell? ⟨W2.heap.size, 2, none⟩ = some (.int .i64 c1.ep) ∧ wx.cell? ⟨W2.heap.size, 3, none⟩ = some (.int .i64 0) ∧ wx.cell? ⟨W2.heap.size, 4, none⟩ = some (.string ⟨#[]⟩) ∧ wx.cell? ⟨W2.heap.size, 5, none⟩ = some (.int .i64 (c1.nest : Int)) ∧ wx.cell? ⟨W2.heap.size, 6, none⟩ = some (.int .i64 c1.err) ∧ wx.cell? ⟨W2.heap.size, 7, none⟩ = some (.int .i64 c1.pos))
      (first | exact KEEP.out _ ((Below.refl _ _).drew) | exact KEEP.out _ hacc)
      (first
      | (go_at_call 26; refine (HP1 _ ?_).mono ?_; (first | exact hacc | exact (Below.refl _ _).drew); rintro e w5 ⟨rfl, hacc⟩)
      | (go_at_call 27; refine (HP2 _ ?_).mono ?_; (first | exact hacc | exact (Below.refl _ _).drew); rintro e w6 ⟨rfl, hacc⟩))
    have hB := hacc
    clear hacc HP1 HP2 KEEP x0 x1 x2 x3 x4 x5 x6 x7
    replace HCu := HCu.below hB
    replace Kx := Kx.later hB
    replace Km1 := Km1.later hB
    replace Km2 := Km2.later hB
    replace Rq27 := Rq27.below (hB.mono (Nat.le_trans hn hB36.size))
    have hs37 := hB.size
    have hB37 := hB36.trans (hB.mono hB36.size)
    clear hB hB36
    have HA := fun W => awake_any W
    have HJ : Hid (∀ wx, Below w6.heap.size w6 wx → Calls Try.prog 11 #[.agg #[.int .i64 0, .int .i64 0, .int .i64 0, .string ⟨#[]⟩, .slice none 0 0], .agg #[.int .i64 0, .int .i64 0, .int .i64 0, .string ⟨#[]⟩, .slice none 0 0]] wx (fun e w' => e = .returned (.bool true) ∧ Below w6.heap.size w6 w')) := fun wx hb => by
      have := just_any zNd (fun _ => False) (fun _ => False) zNd zN zN wx (leaf_in (fun _ => False) _ 0 0 0 []) (leaf_in (fun _ => False) _ 0 0 0 []) (by decide)
      rw [Nd.just_self] at this
      exact this.mono fun e w' h => ⟨h.1, hb.trans (h.2.mono hb.size)⟩
    obtain ⟨⟨m0, m1, m2, m3, m4⟩, -⟩ := cells5 Km1
    have hacc := Below.refl w6.heap.size w6
    go_wp2_with (first
      | (go_at_call 11; refine (HJ.out _ hacc).mono ?_; rintro e w7 ⟨rfl, hacc⟩)
      | (go_at_call 8; refine (HA _).mono ?_; rintro e w8 ⟨rfl, hB8⟩; have hacc := hacc.trans (hB8.mono hacc.size)))
    go_ret
    exact ⟨rfl, hB37.trans (hacc.mono hB37.size)⟩
set_option maxRecDepth 100000 in
set_option maxHeartbeats 4000000 in
theorem walk_parts3 {w : World} {v : Value} {xs : List Tk} (what : Int) (hr : ArgRow w v xs) (hl : xs.length ≤ 500) (hm : (IntKind.u64.wrap what).tmod 4 = 3) : Calls Try.prog 5 #[v, .int .i64 what] w (SaysIs true w) := by
  have hw0 := wrow_of hr
  obtain ⟨a0, ln0, cap0, rfl, hln⟩ : ∃ a ln cap, v = .slice a ln cap ∧ ln = xs.length := by rcases hr with ⟨rfl, rfl⟩ | ⟨a, cap, rfl, _⟩; exact ⟨_, _, _, rfl, rfl⟩; exact ⟨_, _, _, rfl, rfl⟩
  have hs' : ¬ (500 : Int) < (ln0 : Int) := by omega
  have hs2 : decide ((500 : Int) < (ln0 : Int)) = false := by simp [hs']
  have HN := new_any _ xs w hr (by omega)
  obtain ⟨n, hnn⟩ : ∃ n, n = w.heap.size := ⟨_, rfl⟩
  have hn : n ≤ w.heap.size := by omega
  rw [← hnn] at hw0
  obtain ⟨c0, hc0⟩ : ∃ c0, c0 = newCu xs := ⟨_, rfl⟩
  have HO0 : Hid (CuOk c0) := by show CuOk _; rw [hc0]; exact ok_new _ (by omega)
  have HN0 : Hid (c0.nest = 0) := by show _ = _; rw [hc0]; rfl
  have HN2 : ∀ W, Below n w W → n ≤ W.heap.size → _ := fun W hB hnw => refnew_any n _ xs W (hw0.below hB) hnw (by omega)
  rw [← hc0] at HN HN2
  have HNN := Lib.hid hnn
  clear hr hl hc0 hw0 hln
  have HREL := Lib.hid (rel_qual c0 HN0.out)
  go_enter Try.func5, Try.ntmps5
  go_wp2_with fail
  refine HN.mono ?_; rintro e W1 ⟨v1, rfl, hcur, hB1, -⟩
  have HCu := At7.of hcur
  have hs1 : w.heap.size + 1 ≤ W1.heap.size := hcur.lt
  have HN3 := HN2 W1 (hB1.mono hn) (by omega)
  clear HN HN2 hcur
  go_wp2_with fail
  refine HN3.mono ?_; rintro e W2 ⟨x, rfl, hx, hB⟩
  obtain ⟨a1, ln1, cap1, rfl, hRq, -⟩ := hx.shape
  have Rq1 := hRq.out
  clear HN3 hx hRq
  replace HCu := HCu.below hB
  have hs3 := hB.size
  have hB3 := hB1.trans (hB.mono hB1.size)
  clear hB hB1
  go_upto_region 4 with fail
  obtain ⟨W4, hW4⟩ : ∃ x, x = W2.alloc (.cells (refC (.slice a1 ln1 cap1) c0.ep (c0.nest : Int) c0.err c0.pos) 39) := ⟨_, rfl⟩
  rw [← hW4]
  have hB : Below W2.heap.size W2 W4 := by rw [hW4]; exact (Below.refl _ _).alloc (Nat.le_refl _) _
  have KN : Blk W4 W2.heap.size (refC (.slice a1 ln1 cap1) c0.ep (c0.nest : Int) c0.err c0.pos) 39 := by rw [hW4]; exact Blk.new W2 _ _
  have hz4 : W2.heap.size + 1 ≤ W4.heap.size := by rw [hW4]; simp
  clear hW4
  replace HCu := HCu.below hB
  replace Rq1 := Rq1.below (hB.mono (Nat.le_trans hn hB3.size))
  have hs5 := hB.size
  have hB5 := hB3.trans (hB.mono hB3.size)
  clear hB hB3
  have Kx := KN
  clear KN
  go_upto_region 7 with fail
  obtain ⟨W6, hV⟩ : ∃ x, x = (W4.alloc (.cells #[.int .i64 0, .int .i64 0, .int .i64 0, .string ⟨#[]⟩, .slice none 0 0] 25)).alloc (.cells #[.int .i64 0, .int .i64 0, .int .i64 0, .string ⟨#[]⟩, .slice none 0 0] 25) := ⟨_, rfl⟩
  rw [← hV]
  have hB : Below W4.heap.size W4 W6 := by rw [hV]; exact ((Below.refl _ _).alloc (Nat.le_refl _) _).alloc (by simp) _
  have KA : Blk W6 (W4.heap.size) #[.int .i64 0, .int .i64 0, .int .i64 0, .string ⟨#[]⟩, .slice none 0 0] 25 := by rw [hV]; exact (Blk.new W4 _ _).later ((Below.refl _ _).alloc (Nat.le_refl _) _)
  have KB : Blk W6 (W4.heap.size + 1) #[.int .i64 0, .int .i64 0, .int .i64 0, .string ⟨#[]⟩, .slice none 0 0] 25 := by rw [hV]; have h0 := Blk.new (W4.alloc (.cells #[.int .i64 0, .int .i64 0, .int .i64 0, .string ⟨#[]⟩, .slice none 0 0] 25)) #[.int .i64 0, .int .i64 0, .int .i64 0, .string ⟨#[]⟩, .slice none 0 0] 25; simp only [World.size_alloc] at h0; exact h0
  have hz6 : W4.heap.size + 1 + 1 ≤ W6.heap.size := by rw [hV]; simp
  clear hV
  replace HCu := HCu.below hB
  replace Kx := Kx.later hB
  replace Rq1 := Rq1.below (hB.mono (Nat.le_trans hn hB5.size))
  have hs7 := hB.size
  have hB7 := hB5.trans (hB.mono hB5.size)
  clear hB hB5
  have Km1 := KA
  have Km2 := KB
  clear KA KB
  have HA := qualat_any HCu.cur
  have HSZ := size_qual c0
  rcases HREL.out.cases with ⟨he, e2⟩ | ⟨he, e2⟩
  ·
    obtain ⟨⟨c1, tr⟩, hc1⟩ : ∃ q, q = qualR (atR 200) c0 := ⟨_, rfl⟩
    rw [← hc1] at he e2
    dsimp only at he e2
    have HF1 := HREL.out.fine
    rw [← hc1] at HF1
    dsimp only at HF1
    have HO1 := Lib.hid (HF1.ok HO0.out)
    have HE := Lib.hid he
    have hz0 := HSZ _ _ e2
    have HZ : Hid (tr.size ≤ 1000000) := by
      have k3 := HO1.out.le
      have k4 := HO1.out.few
      show _ ≤ _
      omega
    clear hz0
    rw [e2] at HA
    clear e2 he HF1 HSZ
    obtain ⟨⟨x0, x1, x2, x3, x4, x5, x6, x7⟩, xf0, xf1, xf2, xf3, xf4, xf5, xf6, xf7⟩ := cells8 Kx
    obtain ⟨⟨m10, m11, m12, m13, m14⟩, m1f0, m1f1, m1f2, m1f3, m1f4⟩ := cells5 Km1
    obtain ⟨⟨m20, m21, m22, m23, m24⟩, m2f0, m2f1, m2f2, m2f3, m2f4⟩ := cells5 Km2
    go_wp2_with fail
    refine HA.mono ?_; rintro e W8 ⟨d, rfl, hA7, hT⟩
    clear HA
    dsimp only at hA7 hT
    clear x0 x1 x2 x3 x4 x5 x6 x7 xf0 xf1 xf2 xf3 xf4 xf5 xf6 xf7 m10 m11 m12 m13 m14 m1f0 m1f1 m1f2 m1f3 m1f4 m20 m21 m22 m23 m24 m2f0 m2f1 m2f2 m2f3 m2f4
    have hg := hA7.grown
    replace HCu := HCu.trans hA7
    clear hA7
    replace Kx := Kx.kept hg (fun e => by injection e; omega)
    replace Km1 := Km1.kept hg (fun e => by injection e; omega)
    replace Km2 := Km2.kept hg (fun e => by injection e; omega)
    have hB := below_grown hg (Nat.le_refl w.heap.size) (by omega)
    replace Rq1 := Rq1.below (hB.mono hn)
    have hs9 := hg.size
    have hB9 := hB7.trans hB
    clear hB hg hB7
    obtain ⟨dk, dp, dn, dt, dq, dl, dc⟩ := d
    unfold NC.val
    have Td := hT.mono (S' := fun q => W6.heap.size ≤ q) fun q hq _ => hq
    clear hT
    obtain ⟨⟨x0, x1, x2, x3, x4, x5, x6, x7⟩, xf0, xf1, xf2, xf3, xf4, xf5, xf6, xf7⟩ := cells8 Kx
    obtain ⟨⟨m10, m11, m12, m13, m14⟩, m1f0, m1f1, m1f2, m1f3, m1f4⟩ := cells5 Km1
    obtain ⟨⟨m20, m21, m22, m23, m24⟩, m2f0, m2f1, m2f2, m2f3, m2f4⟩ := cells5 Km2
    obtain ⟨W10, hW10, KN, hP⟩ := n_put (z := zN) Km1 ⟨dk, dp, dn, dt, dq, dl, dc⟩
    replace HCu := HCu.putb (by omega) hP
    replace Kx := hP.blk Kx (by omega)
    replace Km2 := hP.blk Km2 (by omega)
    replace Td := hP.node Td (by omega)
    replace Rq1 := hP.row Rq1 (by omega)
    have hs11 := hP.size
    have hB11 := hP.below _ _ (by omega) hB9
    clear hP hB9
    dsimp only [zN] at hW10 KN
    replace Km1 := KN
    clear KN
    go_upto_region 19 with fail
    rw [← hW10]
    clear hW10 x0 x1 x2 x3 x4 x5 x6 x7 xf0 xf1 xf2 xf3 xf4 xf5 xf6 xf7 m10 m11 m12 m13 m14 m1f0 m1f1 m1f2 m1f3 m1f4 m20 m21 m22 m23 m24 m2f0 m2f1 m2f2 m2f3 m2f4
    have HR := refqual_at2 n c0 _ _ HN0.out HO0.out (RefIs.mk Rq1) (Nat.le_trans hn hB11.size)
    rw [← hc1] at HR
    obtain ⟨⟨x0, x1, x2, x3, x4, x5, x6, x7⟩, xf0, xf1, xf2, xf3, xf4, xf5, xf6, xf7⟩ := cells8 Kx
    obtain ⟨⟨m10, m11, m12, m13, m14⟩, m1f0, m1f1, m1f2, m1f3, m1f4⟩ := cells5 Km1
    obtain ⟨⟨m20, m21, m22, m23, m24⟩, m2f0, m2f1, m2f2, m2f3, m2f4⟩ := cells5 Km2
    go_wp2_with fail
    refine HR.mono ?_; rintro e W12 ⟨x', g, rfl, hx, hd, hB⟩
    clear HR
    obtain ⟨a12, ln12, cap12, rfl, hRq, -⟩ := hx.shape
    have Rq12 := hRq.out
    clear hx hRq
    dsimp only at hd Rq12 ⊢
    clear x0 x1 x2 x3 x4 x5 x6 x7 xf0 xf1 xf2 xf3 xf4 xf5 xf6 xf7 m10 m11 m12 m13 m14 m1f0 m1f1 m1f2 m1f3 m1f4 m20 m21 m22 m23 m24 m2f0 m2f1 m2f2 m2f3 m2f4
    replace HCu := HCu.below hB
    replace Kx := Kx.later hB
    replace Km1 := Km1.later hB
    replace Km2 := Km2.later hB
    replace Td := Td.keeps (w' := W12) ⟨hB.size, fun k hk hkl => hB.block k hkl⟩
    replace Rq1 := Rq1.below (hB.mono (Nat.le_trans hn hB11.size))
    have hs13 := hB.size
    have hB13 := hB11.trans (hB.mono hB11.size)
    clear hB hB11
    obtain ⟨gk, gp, gn, gt, gq, gl, gc⟩ := g
    unfold NC.val
    have Tg := hd.mono (S' := fun q => W6.heap.size ≤ q) fun q hq _ => by omega
    clear hd
    obtain ⟨⟨x0, x1, x2, x3, x4, x5, x6, x7⟩, xf0, xf1, xf2, xf3, xf4, xf5, xf6, xf7⟩ := cells8 Kx
    obtain ⟨⟨m10, m11, m12, m13, m14⟩, m1f0, m1f1, m1f2, m1f3, m1f4⟩ := cells5 Km1
    obtain ⟨⟨m20, m21, m22, m23, m24⟩, m2f0, m2f1, m2f2, m2f3, m2f4⟩ := cells5 Km2
    obtain ⟨W14, hW14, KN, hP⟩ := c_put Kx (.slice a12 ln12 cap12) c1.ep (c1.nest : Int) c1.err c1.pos
    replace HCu := HCu.putb (by omega) hP
    replace Km1 := hP.blk Km1 (by omega)
    replace Km2 := hP.blk Km2 (by omega)
    replace Td := hP.node Td (by omega)
    replace Tg := hP.node Tg (by omega)
    replace Rq12 := hP.row Rq12 (by omega)
    have hs15 := hP.size
    have hB15 := hP.below _ _ (by omega) hB13
    clear hP hB13
    replace Kx := KN
    clear KN
    obtain ⟨W16, hW16, KN, hP⟩ := n_put (z := zN) Km2 ⟨gk, gp, gn, gt, gq, gl, gc⟩
    replace HCu := HCu.putb (by omega) hP
    replace Kx := hP.blk Kx (by omega)
    replace Km1 := hP.blk Km1 (by omega)
    replace Td := hP.node Td (by omega)
    replace Tg := hP.node Tg (by omega)
    replace Rq12 := hP.row Rq12 (by omega)
    have hs17 := hP.size
    have hB17 := hP.below _ _ (by omega) hB15
    clear hP hB15
    dsimp only [zN] at hW16 KN
    replace Km2 := KN
    clear KN
    go_upto_region 20 with fail
    rw [← hW14, ← hW16]
    clear hW14 hW16 x0 x1 x2 x3 x4 x5 x6 x7 xf0 xf1 xf2 xf3 xf4 xf5 xf6 xf7 m10 m11 m12 m13 m14 m1f0 m1f1 m1f2 m1f3 m1f4 m20 m21 m22 m23 m24 m2f0 m2f1 m2f2 m2f3 m2f4
    obtain ⟨pD, hpD⟩ : ∃ q, q = c1.doneP := ⟨_, rfl⟩
    obtain ⟨eD, heD⟩ : ∃ q, q = c1.doneE := ⟨_, rfl⟩
    have HD := done_any HCu.cur
    rw [← hpD, ← heD] at HD
    obtain ⟨⟨x0, x1, x2, x3, x4, x5, x6, x7⟩, xf0, xf1, xf2, xf3, xf4, xf5, xf6, xf7⟩ := cells8 Kx
    obtain ⟨⟨m10, m11, m12, m13, m14⟩, m1f0, m1f1, m1f2, m1f3, m1f4⟩ := cells5 Km1
    obtain ⟨⟨m20, m21, m22, m23, m24⟩, m2f0, m2f1, m2f2, m2f3, m2f4⟩ := cells5 Km2
    go_wp2_with fail
    refine HD.mono ?_; rintro e W18 ⟨rfl, hB⟩
    clear HD
    clear x0 x1 x2 x3 x4 x5 x6 x7 xf0 xf1 xf2 xf3 xf4 xf5 xf6 xf7 m10 m11 m12 m13 m14 m1f0 m1f1 m1f2 m1f3 m1f4 m20 m21 m22 m23 m24 m2f0 m2f1 m2f2 m2f3 m2f4
    replace HCu := HCu.below hB
    replace Kx := Kx.later hB
    replace Km1 := Km1.later hB
    replace Km2 := Km2.later hB
    replace Td := Td.keeps (w' := W18) ⟨hB.size, fun k hk hkl => hB.block k hkl⟩
    replace Tg := Tg.keeps (w' := W18) ⟨hB.size, fun k hk hkl => hB.block k hkl⟩
    replace Rq12 := Rq12.below (hB.mono (Nat.le_trans hn hB17.size))
    have hs19 := hB.size
    have hB19 := hB17.trans (hB.mono hB17.size)
    clear hB hB17
    have HD := refdone_any (RefIs.mk Rq12) (Nat.le_trans hn hB19.size) HO1.out
    rw [← hpD, ← heD] at HD
    clear hpD heD
    obtain ⟨⟨x0, x1, x2, x3, x4, x5, x6, x7⟩, xf0, xf1, xf2, xf3, xf4, xf5, xf6, xf7⟩ := cells8 Kx
    obtain ⟨⟨m10, m11, m12, m13, m14⟩, m1f0, m1f1, m1f2, m1f3, m1f4⟩ := cells5 Km1
    obtain ⟨⟨m20, m21, m22, m23, m24⟩, m2f0, m2f1, m2f2, m2f3, m2f4⟩ := cells5 Km2
    go_wp2_with fail
    refine HD.mono ?_; rintro e W20 ⟨rfl, hB⟩
    clear HD
    clear x0 x1 x2 x3 x4 x5 x6 x7 xf0 xf1 xf2 xf3 xf4 xf5 xf6 xf7 m10 m11 m12 m13 m14 m1f0 m1f1 m1f2 m1f3 m1f4 m20 m21 m22 m23 m24 m2f0 m2f1 m2f2 m2f3 m2f4
    replace HCu := HCu.below hB
    replace Kx := Kx.later hB
    replace Km1 := Km1.later hB
    replace Km2 := Km2.later hB
    replace Td := Td.keeps (w' := W20) ⟨hB.size, fun k hk hkl => hB.block k hkl⟩
    replace Tg := Tg.keeps (w' := W20) ⟨hB.size, fun k hk hkl => hB.block k hkl⟩
    replace Rq12 := Rq12.below (hB.mono (Nat.le_trans hn hB19.size))
    have hs21 := hB.size
    have hB21 := hB19.trans (hB.mono hB19.size)
    clear hB hB19
    have hbe : (c1.err == 0) = true := by rw [HE.out]; rfl
    obtain ⟨⟨tk, tp, tn, tt⟩, hT⟩ : ∃ t, t = c1.peek := ⟨_, rfl⟩
    have HP1 : ∀ wx, Below W20.heap.size W20 wx → Calls Try.prog 26 #[.pointer (some ⟨w.heap.size, 0, none⟩)] wx fun e w' => e = .returned (.agg #[.int .i64 tk, .int .i64 tp, .int .i64 tn, .string ⟨tt.toArray⟩]) ∧ Below W20.heap.size W20 w' := fun wx hb => by
      have := peek_any (HCu.cur.below hb)
      rw [← hT] at this
      exact this.mono fun e w' h => ⟨h.1, hb.trans (h.2.mono hb.size)⟩
    have HP2 : ∀ wx, Below W20.heap.size W20 wx → Calls Try.prog 27 #[.agg (refC (.slice a12 ln12 cap12) c1.ep (c1.nest : Int) c1.err c1.pos)] wx fun e w' => e = .returned (.agg #[.int .i64 tk, .int .i64 tp, .int .i64 tn, .string ⟨tt.toArray⟩]) ∧ Below W20.heap.size W20 w' := fun wx hb => by
      have := refpeek_l (RefIs.mk (Rq12.below (hb.mono (by omega)))) (Nat.le_trans (by omega) hb.size)
      rw [← hT] at this
      exact this.mono fun e w' h => ⟨h.1, hb.trans (h.2.mono hb.size)⟩
    have KEEP : Hid (∀ wx, Below W20.heap.size W20 wx → Below W20.heap.size W20 wx ∧ wx.cell? ⟨W2.heap.size, 0, none⟩ = some ((.slice a12 ln12 cap12)) ∧ wx.cell? ⟨W2.heap.size, 1, none⟩ = some (.int .i64 0) ∧ wx.cell? ⟨W2.heap.size, 2, none⟩ = some (.int .i64 c1.ep) ∧ wx.cell? ⟨W2.heap.size, 3, none⟩ = some (.int .i64 0) ∧ wx.cell? ⟨W2.heap.size, 4, none⟩ = some (.string ⟨#[]⟩) ∧ wx.cell? ⟨W2.heap.size, 5, none⟩ = some (.int .i64 (c1.nest : Int)) ∧ wx.cell? ⟨W2.heap.size, 6, none⟩ = some (.int .i64 c1.err) ∧ wx.cell? ⟨W2.heap.size, 7, none⟩ = some (.int .i64 c1.pos)) := fun wx hb => by
      obtain ⟨⟨x0, x1, x2, x3, x4, x5, x6, x7⟩, -⟩ := cells8 (Kx.later hb)
      exact ⟨hb, x0, x1, x2, x3, x4, x5, x6, x7⟩
    obtain ⟨⟨x0, x1, x2, x3, x4, x5, x6, x7⟩, -⟩ := cells8 Kx
    clear hT
    go_upto_region 22 with fail
    go_region_held3 (fun wx => Below W20.heap.size W20 wx ∧ wx.cell? ⟨W2.heap.size, 0, none⟩ = some ((.slice a12 ln12 cap12)) ∧ wx.cell? ⟨W2.heap.size, 1, none⟩ = some (.int .i64 0) ∧ wx.cell? ⟨W2.heap.size, 2, none⟩ = some (.int .i64 c1.ep) ∧ wx.cell? ⟨W2.heap.size, 3, none⟩ = some (.int .i64 0) ∧ wx.cell? ⟨W2.heap.size, 4, none⟩ = some (.string ⟨#[]⟩) ∧ wx.cell? ⟨W2.heap.size, 5, none⟩ = some (.int .i64 (c1.nest : Int)) ∧ wx.cell? ⟨W2.heap.size, 6, none⟩ = some (.int .i64 c1.err) ∧ wx.cell? ⟨W2.heap.size, 7, none⟩ = some (.int .i64 c1.pos))
      (first | exact KEEP.out _ ((Below.refl _ _).drew) | exact KEEP.out _ hacc)
      (first
      | (go_at_call 26; refine (HP1 _ ?_).mono ?_; (first | exact hacc | exact (Below.refl _ _).drew); rintro e w5 ⟨rfl, hacc⟩)
      | (go_at_call 27; refine (HP2 _ ?_).mono ?_; (first | exact hacc | exact (Below.refl _ _).drew); rintro e w6 ⟨rfl, hacc⟩))
    have hB := hacc
    clear hacc HP1 HP2 KEEP x0 x1 x2 x3 x4 x5 x6 x7
    replace HCu := HCu.below hB
    replace Kx := Kx.later hB
    replace Km1 := Km1.later hB
    replace Km2 := Km2.later hB
    replace Td := Td.keeps (w' := w6) ⟨hB.size, fun k hk hkl => hB.block k hkl⟩
    replace Tg := Tg.keeps (w' := w6) ⟨hB.size, fun k hk hkl => hB.block k hkl⟩
    replace Rq12 := Rq12.below (hB.mono (Nat.le_trans hn hB21.size))
    have hs22 := hB.size
    have hB22 := hB21.trans (hB.mono hB21.size)
    clear hB hB21
    have HA := fun W => awake_any W
    have HJ : Hid (∀ a b wx, ((a = .agg #[.int .i64 dk, .int .i64 dp, .int .i64 dn, .string ⟨dt.toArray⟩, .slice dq dl dc] ∧ b = .agg #[.int .i64 gk, .int .i64 gp, .int .i64 gn, .string ⟨gt.toArray⟩, .slice gq gl gc]) ∨ (a = .agg #[.int .i64 0, .int .i64 0, .int .i64 0, .string ⟨#[]⟩, .slice none 0 0] ∧ b = .agg #[.int .i64 0, .int .i64 0, .int .i64 0, .string ⟨#[]⟩, .slice none 0 0])) → Below w6.heap.size w6 wx → Calls Try.prog 11 #[a, b] wx (fun e w' => e = .returned (.bool true) ∧ Below w6.heap.size w6 w')) := fun a b wx hab hb => by
      rcases hab with ⟨rfl, rfl⟩ | ⟨rfl, rfl⟩
      · have := (just_any tr _ _ tr _ _ wx (Td.later hb) (Tg.later hb) HZ.out)
        rw [Nd.just_self] at this
        exact this.mono fun e w' h => ⟨h.1, hb.trans (h.2.mono hb.size)⟩
      · have := (just_any zNd (fun _ => False) (fun _ => False) zNd zN zN wx (leaf_in (fun _ => False) _ 0 0 0 []) (leaf_in (fun _ => False) _ 0 0 0 []) (by decide))
        rw [Nd.just_self] at this
        exact this.mono fun e w' h => ⟨h.1, hb.trans (h.2.mono hb.size)⟩
    obtain ⟨⟨m0, m1, m2, m3, m4⟩, -⟩ := cells5 Km1
    obtain ⟨⟨p0, p1, p2, p3, p4⟩, -⟩ := cells5 Km2
    have hacc := Below.refl w6.heap.size w6
    go_wp2_with (first
      | (go_at_call 11; refine (HJ.out _ _ _ (by first | exact .inl ⟨rfl, rfl⟩ | exact .inr ⟨rfl, rfl⟩) hacc).mono ?_; rintro e w7 ⟨rfl, hacc⟩)
      | (go_at_call 8; refine (HA _).mono ?_; rintro e w8 ⟨rfl, hB8⟩; have hacc := hacc.trans (hB8.mono hacc.size)))
    go_ret
    exact ⟨rfl, hB22.trans (hacc.mono hB22.size)⟩
  ·
    obtain ⟨⟨c1, tr⟩, hc1⟩ : ∃ q, q = qualR (atR 200) c0 := ⟨_, rfl⟩
    rw [← hc1] at he e2
    dsimp only at he e2
    have HF1 := HREL.out.fine
    rw [← hc1] at HF1
    dsimp only at HF1
    have HO1 := Lib.hid (HF1.ok HO0.out)
    have HE := Lib.hid he
    rw [e2] at HA
    clear e2 he HF1 HSZ
    obtain ⟨⟨x0, x1, x2, x3, x4, x5, x6, x7⟩, xf0, xf1, xf2, xf3, xf4, xf5, xf6, xf7⟩ := cells8 Kx
    obtain ⟨⟨m10, m11, m12, m13, m14⟩, m1f0, m1f1, m1f2, m1f3, m1f4⟩ := cells5 Km1
    obtain ⟨⟨m20, m21, m22, m23, m24⟩, m2f0, m2f1, m2f2, m2f3, m2f4⟩ := cells5 Km2
    go_wp2_with fail
    refine HA.mono ?_; rintro e W23 ⟨d, rfl, hA7, hT⟩
    clear HA
    dsimp only at hA7 hT
    clear x0 x1 x2 x3 x4 x5 x6 x7 xf0 xf1 xf2 xf3 xf4 xf5 xf6 xf7 m10 m11 m12 m13 m14 m1f0 m1f1 m1f2 m1f3 m1f4 m20 m21 m22 m23 m24 m2f0 m2f1 m2f2 m2f3 m2f4
    have hg := hA7.grown
    replace HCu := HCu.trans hA7
    clear hA7
    replace Kx := Kx.kept hg (fun e => by injection e; omega)
    replace Km1 := Km1.kept hg (fun e => by injection e; omega)
    replace Km2 := Km2.kept hg (fun e => by injection e; omega)
    have hB := below_grown hg (Nat.le_refl w.heap.size) (by omega)
    replace Rq1 := Rq1.below (hB.mono hn)
    have hs24 := hg.size
    have hB24 := hB7.trans hB
    clear hB hg hB7
    obtain rfl : d = zN := hT
    unfold NC.val zN
    dsimp only
    obtain ⟨⟨x0, x1, x2, x3, x4, x5, x6, x7⟩, xf0, xf1, xf2, xf3, xf4, xf5, xf6, xf7⟩ := cells8 Kx
    obtain ⟨⟨m10, m11, m12, m13, m14⟩, m1f0, m1f1, m1f2, m1f3, m1f4⟩ := cells5 Km1
    obtain ⟨⟨m20, m21, m22, m23, m24⟩, m2f0, m2f1, m2f2, m2f3, m2f4⟩ := cells5 Km2
    obtain ⟨W25, hW25, KN, hP⟩ := n_put (z := zN) Km1 zN
    replace HCu := HCu.putb (by omega) hP
    replace Kx := hP.blk Kx (by omega)
    replace Km2 := hP.blk Km2 (by omega)
    replace Rq1 := hP.row Rq1 (by omega)
    have hs26 := hP.size
    have hB26 := hP.below _ _ (by omega) hB24
    clear hP hB24
    dsimp only [zN] at hW25 KN
    replace Km1 := KN
    clear KN
    go_upto_region 19 with fail
    rw [← hW25]
    clear hW25 x0 x1 x2 x3 x4 x5 x6 x7 xf0 xf1 xf2 xf3 xf4 xf5 xf6 xf7 m10 m11 m12 m13 m14 m1f0 m1f1 m1f2 m1f3 m1f4 m20 m21 m22 m23 m24 m2f0 m2f1 m2f2 m2f3 m2f4
    have HR := refqual_at2 n c0 _ _ HN0.out HO0.out (RefIs.mk Rq1) (Nat.le_trans hn hB26.size)
    rw [← hc1] at HR
    obtain ⟨⟨x0, x1, x2, x3, x4, x5, x6, x7⟩, xf0, xf1, xf2, xf3, xf4, xf5, xf6, xf7⟩ := cells8 Kx
    obtain ⟨⟨m10, m11, m12, m13, m14⟩, m1f0, m1f1, m1f2, m1f3, m1f4⟩ := cells5 Km1
    obtain ⟨⟨m20, m21, m22, m23, m24⟩, m2f0, m2f1, m2f2, m2f3, m2f4⟩ := cells5 Km2
    go_wp2_with fail
    refine HR.mono ?_; rintro e W27 ⟨x', g, rfl, hx, hd, hB⟩
    clear HR
    obtain ⟨a27, ln27, cap27, rfl, hRq, -⟩ := hx.shape
    have Rq27 := hRq.out
    clear hx hRq
    dsimp only at hd Rq27 ⊢
    clear x0 x1 x2 x3 x4 x5 x6 x7 xf0 xf1 xf2 xf3 xf4 xf5 xf6 xf7 m10 m11 m12 m13 m14 m1f0 m1f1 m1f2 m1f3 m1f4 m20 m21 m22 m23 m24 m2f0 m2f1 m2f2 m2f3 m2f4
    replace HCu := HCu.below hB
    replace Kx := Kx.later hB
    replace Km1 := Km1.later hB
    replace Km2 := Km2.later hB
    replace Rq1 := Rq1.below (hB.mono (Nat.le_trans hn hB26.size))
    have hs28 := hB.size
    have hB28 := hB26.trans (hB.mono hB26.size)
    clear hB hB26
    obtain ⟨gk, gp, gn, gt, gq, gl, gc⟩ := g
    unfold NC.val
    have Tg := hd.mono (S' := fun q => W6.heap.size ≤ q) fun q hq _ => by omega
    clear hd
    clear Tg
    obtain ⟨⟨x0, x1, x2, x3, x4, x5, x6, x7⟩, xf0, xf1, xf2, xf3, xf4, xf5, xf6, xf7⟩ := cells8 Kx
    obtain ⟨⟨m10, m11, m12, m13, m14⟩, m1f0, m1f1, m1f2, m1f3, m1f4⟩ := cells5 Km1
    obtain ⟨⟨m20, m21, m22, m23, m24⟩, m2f0, m2f1, m2f2, m2f3, m2f4⟩ := cells5 Km2
    obtain ⟨W29, hW29, KN, hP⟩ := c_put Kx (.slice a27 ln27 cap27) c1.ep (c1.nest : Int) c1.err c1.pos
    replace HCu := HCu.putb (by omega) hP
    replace Km1 := hP.blk Km1 (by omega)
    replace Km2 := hP.blk Km2 (by omega)
    replace Rq27 := hP.row Rq27 (by omega)
    have hs30 := hP.size
    have hB30 := hP.below _ _ (by omega) hB28
    clear hP hB28
    replace Kx := KN
    clear KN
    obtain ⟨W31, hW31, KN, hP⟩ := n_put (z := zN) Km2 ⟨gk, gp, gn, gt, gq, gl, gc⟩
    replace HCu := HCu.putb (by omega) hP
    replace Kx := hP.blk Kx (by omega)
    replace Km1 := hP.blk Km1 (by omega)
    replace Rq27 := hP.row Rq27 (by omega)
    have hs32 := hP.size
    have hB32 := hP.below _ _ (by omega) hB30
    clear hP hB30
    dsimp only [zN] at hW31 KN
    replace Km2 := KN
    clear KN
    go_upto_region 20 with fail
    rw [← hW29, ← hW31]
    clear hW29 hW31 x0 x1 x2 x3 x4 x5 x6 x7 xf0 xf1 xf2 xf3 xf4 xf5 xf6 xf7 m10 m11 m12 m13 m14 m1f0 m1f1 m1f2 m1f3 m1f4 m20 m21 m22 m23 m24 m2f0 m2f1 m2f2 m2f3 m2f4
    obtain ⟨pD, hpD⟩ : ∃ q, q = c1.doneP := ⟨_, rfl⟩
    obtain ⟨eD, heD⟩ : ∃ q, q = c1.doneE := ⟨_, rfl⟩
    have HD := done_any HCu.cur
    rw [← hpD, ← heD] at HD
    obtain ⟨⟨x0, x1, x2, x3, x4, x5, x6, x7⟩, xf0, xf1, xf2, xf3, xf4, xf5, xf6, xf7⟩ := cells8 Kx
    obtain ⟨⟨m10, m11, m12, m13, m14⟩, m1f0, m1f1, m1f2, m1f3, m1f4⟩ := cells5 Km1
    obtain ⟨⟨m20, m21, m22, m23, m24⟩, m2f0, m2f1, m2f2, m2f3, m2f4⟩ := cells5 Km2
    go_wp2_with fail
    refine HD.mono ?_; rintro e W33 ⟨rfl, hB⟩
    clear HD
    clear x0 x1 x2 x3 x4 x5 x6 x7 xf0 xf1 xf2 xf3 xf4 xf5 xf6 xf7 m10 m11 m12 m13 m14 m1f0 m1f1 m1f2 m1f3 m1f4 m20 m21 m22 m23 m24 m2f0 m2f1 m2f2 m2f3 m2f4
    replace HCu := HCu.below hB
    replace Kx := Kx.later hB
    replace Km1 := Km1.later hB
    replace Km2 := Km2.later hB
    replace Rq27 := Rq27.below (hB.mono (Nat.le_trans hn hB32.size))
    have hs34 := hB.size
    have hB34 := hB32.trans (hB.mono hB32.size)
    clear hB hB32
    have HD := refdone_any (RefIs.mk Rq27) (Nat.le_trans hn hB34.size) HO1.out
    rw [← hpD, ← heD] at HD
    clear hpD heD
    obtain ⟨⟨x0, x1, x2, x3, x4, x5, x6, x7⟩, xf0, xf1, xf2, xf3, xf4, xf5, xf6, xf7⟩ := cells8 Kx
    obtain ⟨⟨m10, m11, m12, m13, m14⟩, m1f0, m1f1, m1f2, m1f3, m1f4⟩ := cells5 Km1
    obtain ⟨⟨m20, m21, m22, m23, m24⟩, m2f0, m2f1, m2f2, m2f3, m2f4⟩ := cells5 Km2
    go_wp2_with fail
    refine HD.mono ?_; rintro e W35 ⟨rfl, hB⟩
    clear HD
    clear x0 x1 x2 x3 x4 x5 x6 x7 xf0 xf1 xf2 xf3 xf4 xf5 xf6 xf7 m10 m11 m12 m13 m14 m1f0 m1f1 m1f2 m1f3 m1f4 m20 m21 m22 m23 m24 m2f0 m2f1 m2f2 m2f3 m2f4
    replace HCu := HCu.below hB
    replace Kx := Kx.later hB
    replace Km1 := Km1.later hB
    replace Km2 := Km2.later hB
    replace Rq27 := Rq27.below (hB.mono (Nat.le_trans hn hB34.size))
    have hs36 := hB.size
    have hB36 := hB34.trans (hB.mono hB34.size)
    clear hB hB34
    have hbe : (c1.err == 0) = false := by rw [beq_eq_false_iff_ne]; exact HE.out
    obtain ⟨⟨tk, tp, tn, tt⟩, hT⟩ : ∃ t, t = c1.peek := ⟨_, rfl⟩
    have HP1 : ∀ wx, Below W35.heap.size W35 wx → Calls Try.prog 26 #[.pointer (some ⟨w.heap.size, 0, none⟩)] wx fun e w' => e = .returned (.agg #[.int .i64 tk, .int .i64 tp, .int .i64 tn, .string ⟨tt.toArray⟩]) ∧ Below W35.heap.size W35 w' := fun wx hb => by
      have := peek_any (HCu.cur.below hb)
      rw [← hT] at this
      exact this.mono fun e w' h => ⟨h.1, hb.trans (h.2.mono hb.size)⟩
    have HP2 : ∀ wx, Below W35.heap.size W35 wx → Calls Try.prog 27 #[.agg (refC (.slice a27 ln27 cap27) c1.ep (c1.nest : Int) c1.err c1.pos)] wx fun e w' => e = .returned (.agg #[.int .i64 tk, .int .i64 tp, .int .i64 tn, .string ⟨tt.toArray⟩]) ∧ Below W35.heap.size W35 w' := fun wx hb => by
      have := refpeek_l (RefIs.mk (Rq27.below (hb.mono (by omega)))) (Nat.le_trans (by omega) hb.size)
      rw [← hT] at this
      exact this.mono fun e w' h => ⟨h.1, hb.trans (h.2.mono hb.size)⟩
    have KEEP : Hid (∀ wx, Below W35.heap.size W35 wx → Below W35.heap.size W35 wx ∧ wx.cell? ⟨W2.heap.size, 0, none⟩ = some ((.slice a27 ln27 cap27)) ∧ wx.cell? ⟨W2.heap.size, 1, none⟩ = some (.int .i64 0) ∧ wx.cell? ⟨W2.heap.size, 2, none⟩ = some (.int .i64 c1.ep) ∧ wx.cell? ⟨W2.heap.size, 3, none⟩ = some (.int .i64 0) ∧ wx.cell? ⟨W2.heap.size, 4, none⟩ = some (.string ⟨#[]⟩) ∧ wx.cell? ⟨W2.heap.size, 5, none⟩ = some (.int .i64 (c1.nest : Int)) ∧ wx.cell? ⟨W2.heap.size, 6, none⟩ = some (.int .i64 c1.err) ∧ wx.cell? ⟨W2.heap.size, 7, none⟩ = some (.int .i64 c1.pos)) := fun wx hb => by
      obtain ⟨⟨x0, x1, x2, x3, x4, x5, x6, x7⟩, -⟩ := cells8 (Kx.later hb)
      exact ⟨hb, x0, x1, x2, x3, x4, x5, x6, x7⟩
    obtain ⟨⟨x0, x1, x2, x3, x4, x5, x6, x7⟩, -⟩ := cells8 Kx
    clear hT
    go_upto_region 22 with fail
    go_region_held3 (fun wx => Below W35.heap.size W35 wx ∧ wx.cell? ⟨W2.heap.size, 0, none⟩ = some ((.slice a27 ln27 cap27)) ∧ wx.cell? ⟨W2.heap.size, 1, none⟩ = some (.int .i64 0) ∧ wx.cell? ⟨W2.heap.size, 2, none⟩ = some (.int .i64 c1.ep) ∧ wx.cell? ⟨W2.heap.size, 3, none⟩ = some (.int .i64 0) ∧ wx.cell? ⟨W2.heap.size, 4, none⟩ = some (.string ⟨#[]⟩) ∧ wx.cell? ⟨W2.heap.size, 5, none⟩ = some (.int .i64 (c1.nest : Int)) ∧ wx.cell? ⟨W2.heap.size, 6, none⟩ = some (.int .i64 c1.err) ∧ wx.cell? ⟨W2.heap.size, 7, none⟩ = some (.int .i64 c1.pos))
      (first | exact KEEP.out _ ((Below.refl _ _).drew) | exact KEEP.out _ hacc)
      (first
      | (go_at_call 26; refine (HP1 _ ?_).mono ?_; (first | exact hacc | exact (Below.refl _ _).drew); rintro e w5 ⟨rfl, hacc⟩)
      | (go_at_call 27; refine (HP2 _ ?_).mono ?_; (first | exact hacc | exact (Below.refl _ _).drew); rintro e w6 ⟨rfl, hacc⟩))
    have hB := hacc
    clear hacc HP1 HP2 KEEP x0 x1 x2 x3 x4 x5 x6 x7
    replace HCu := HCu.below hB
    replace Kx := Kx.later hB
    replace Km1 := Km1.later hB
    replace Km2 := Km2.later hB
    replace Rq27 := Rq27.below (hB.mono (Nat.le_trans hn hB36.size))
    have hs37 := hB.size
    have hB37 := hB36.trans (hB.mono hB36.size)
    clear hB hB36
    have HA := fun W => awake_any W
    have HJ : Hid (∀ wx, Below w6.heap.size w6 wx → Calls Try.prog 11 #[.agg #[.int .i64 0, .int .i64 0, .int .i64 0, .string ⟨#[]⟩, .slice none 0 0], .agg #[.int .i64 0, .int .i64 0, .int .i64 0, .string ⟨#[]⟩, .slice none 0 0]] wx (fun e w' => e = .returned (.bool true) ∧ Below w6.heap.size w6 w')) := fun wx hb => by
      have := just_any zNd (fun _ => False) (fun _ => False) zNd zN zN wx (leaf_in (fun _ => False) _ 0 0 0 []) (leaf_in (fun _ => False) _ 0 0 0 []) (by decide)
      rw [Nd.just_self] at this
      exact this.mono fun e w' h => ⟨h.1, hb.trans (h.2.mono hb.size)⟩
    obtain ⟨⟨m0, m1, m2, m3, m4⟩, -⟩ := cells5 Km1
    have hacc := Below.refl w6.heap.size w6
    go_wp2_with (first
      | (go_at_call 11; refine (HJ.out _ hacc).mono ?_; rintro e w7 ⟨rfl, hacc⟩)
      | (go_at_call 8; refine (HA _).mono ?_; rintro e w8 ⟨rfl, hB8⟩; have hacc := hacc.trans (hB8.mono hacc.size)))
    go_ret
    exact ⟨rfl, hB37.trans (hacc.mono hB37.size)⟩
end Go.Proofs.Ytlammclbnihopaa.N7
