/- The document's readers: predicates. -/
import Derived.Test.YtlammclbnihopaaPtyRefB
namespace Go.Proofs.Ytlammclbnihopaa.N7
open Go.RowKit N5 N6

attribute [local go_sem] fld0 fld1
theorem one_node {S : Nat → Prop} {W : World} {g : Nat} {d : NC} {t : Nd} (h : Blk W g #[.int .i64 d.kind, .int .i64 d.pos, .int .i64 d.num, .string ⟨d.text.toArray⟩, .slice d.kp d.kl d.kc] 25) (hg : S g)
    (hd : NodeAt S W d t) (kd ps nm : Int) (tx : List UInt8) : NodeAt S W ⟨kd, ps, nm, tx, some ⟨g, 0, none⟩, 1, 1⟩ (.mk kd ps nm tx [t]) := by
  refine .mk _ _ [d] rfl rfl rfl rfl rfl ⟨_, _, rfl, Nat.le_refl _, .inr ⟨g, 0, rfl, hg, h.lt, fun j u hj => ?_⟩⟩ fun i a b => ?_
  · rw [h.cell, Nat.zero_add]
    simpa [encN] using hj
  · match i, a with
    | 0, _ => exact hd
theorem t_put {b : Nat} {W : World} {ty : TypeId} {y0 y1 y2 y3 : Value} (hz : Blk W b #[y0, y1, y2, y3] ty) (x0 x1 x2 x3 : Value) :
    ∃ W7, W7 = ((((W.setCell ⟨b, 0, none⟩ x0).setCell ⟨b, 1, none⟩ x1).setCell ⟨b, 2, none⟩ x2).setCell ⟨b, 3, none⟩ x3) ∧ Blk W7 b #[x0, x1, x2, x3] ty ∧ Put b W W7 :=
  ⟨_, rfl, (((hz.set 0 _).set 1 _).set 2 _).set 3 _, (((Put.one _ _ _ _).trans (Put.one _ _ _ _)).trans (Put.one _ _ _ _)).trans (Put.one _ _ _ _)⟩
theorem refkind_l {n : Nat} {w : World} {x : Value} {c : Cu} (h : RefIs n w x c) (hn : n ≤ w.heap.size) (k : Int) : Calls Try.prog 76 #[x, .int .i64 k] w fun e w' => ∃ x', e = .returned (.tuple #[x', .agg #[.int .i64 (c.kindT k).kind, .int .i64 (c.kindT k).pos, .int .i64 (c.kindT k).num, .string ⟨(c.kindT k).text.toArray⟩], .bool (c.kindOk k)]) ∧ RefIs n w' x' (c.kind k) ∧ Below w.heap.size w w' := refkind_any h hn k
set_option maxRecDepth 100000 in
set_option maxHeartbeats 4000000 in
theorem refpred_any {wr : Cu → Cu × Nd} {n k : Nat} {w : World} {x : Value} {c : Cu} (h : RefIs n w x c) (hn : n ≤ w.heap.size) (hok : CuOk c) (hf : ∀ c, 200 ≤ c.nest + k ∨ c.err ≠ 0 → Fine c (wr c).1) (hwh : (c.kind 2).err = 0 → ∀ (c : Cu) (W : World) (x : Value), 200 ≤ c.nest + k ∨ c.err ≠ 0 → CuOk c → RefIs n W x c → n ≤ W.heap.size → Calls Try.prog 21 #[x] W (RefRead n (wr c) W)) (hk : 200 ≤ (c.kind 2).nest + (k + 1) ∨ (c.kind 2).err ≠ 0) : Calls Try.prog 49 #[x] w (RefRead n (predR wr c) w) := by
  have HWH := Lib.hid hwh
  have HK := Lib.hid hk
  have HOK := Lib.hid hok
  have HF := Lib.hid hf
  clear hwh hk hok hf
  obtain ⟨a, ln, cap, rfl, hr, -⟩ := h.shape
  clear h
  obtain ⟨W1, hW1⟩ : ∃ W1, W1 = (((w.alloc (.cells (refC (.slice a ln cap) c.ep (c.nest : Int) c.err c.pos) 39)).alloc (.cells (refC (.slice none 0 0) 0 0 0 0) 39)).alloc (.cells #[.int .i64 0, .int .i64 0, .int .i64 0, .string ⟨#[]⟩, .slice none 0 0] 25)) := ⟨_, rfl⟩
  have hsz : w.heap.size + 1 + 1 + 1 ≤ W1.heap.size := by rw [hW1]; simp
  have Kp : Blk W1 (w.heap.size) (refC (.slice a ln cap) c.ep (c.nest : Int) c.err c.pos) 39 := by rw [hW1]; have h0 := Blk.new w (refC (.slice a ln cap) c.ep (c.nest : Int) c.err c.pos) 39; (try simp only [World.size_alloc] at h0); exact ((h0.later ((Below.refl _ _).alloc (Nat.le_refl _) _)).later ((Below.refl _ _).alloc (Nat.le_refl _) _))
  have Krc : Blk W1 (w.heap.size + 1) (refC (.slice none 0 0) 0 0 0 0) 39 := by rw [hW1]; have h0 := Blk.new (w.alloc (.cells (refC (.slice a ln cap) c.ep (c.nest : Int) c.err c.pos) 39)) (refC (.slice none 0 0) 0 0 0 0) 39; (try simp only [World.size_alloc] at h0); exact (h0.later ((Below.refl _ _).alloc (Nat.le_refl _) _))
  have Krn : Blk W1 (w.heap.size + 1 + 1) #[.int .i64 0, .int .i64 0, .int .i64 0, .string ⟨#[]⟩, .slice none 0 0] 25 := by rw [hW1]; have h0 := Blk.new ((w.alloc (.cells (refC (.slice a ln cap) c.ep (c.nest : Int) c.err c.pos) 39)).alloc (.cells (refC (.slice none 0 0) 0 0 0 0) 39)) #[.int .i64 0, .int .i64 0, .int .i64 0, .string ⟨#[]⟩, .slice none 0 0] 25; (try simp only [World.size_alloc] at h0); exact h0
  have hB1 : Below w.heap.size w W1 := by rw [hW1]; exact ((((Below.refl _ w).alloc (by simp; try omega) _).alloc (by simp; try omega) _).alloc (by simp; try omega) _)
  have Rc : WRow n W1 (.slice a ln cap) (c.ws.drop c.at') := hr.out.below (hB1.mono hn)
  have HW1 := Lib.hid hW1
  clear hW1 hr
  go_enter Try.func49, Try.ntmps49
  go_upto_region 1 with fail
  rw [← HW1.out]
  clear HW1
  obtain ⟨⟨tk, tp, tn, tt⟩, hT⟩ : ∃ t, t = c.kindT 2 := ⟨_, rfl⟩
  obtain ⟨tb, hTB⟩ : ∃ b, b = c.kindOk 2 := ⟨_, rfl⟩
  have HC := refkind_l (RefIs.mk Rc) (Nat.le_trans hn hB1.size) 2
  obtain ⟨c2, hE⟩ : ∃ q, q = c.kind 2 := ⟨_, rfl⟩
  rw [← hE] at HC
  rw [← hT] at HC
  rw [← hTB] at HC
  have E2 := Lib.hid hE
  clear hE
  obtain ⟨⟨p0, p1, p2, p3, p4, p5, p6, p7⟩, pf0, pf1, pf2, pf3, pf4, pf5, pf6, pf7⟩ := cells8 Kp
  obtain ⟨⟨rc0, rc1, rc2, rc3, rc4, rc5, rc6, rc7⟩, rcf0, rcf1, rcf2, rcf3, rcf4, rcf5, rcf6, rcf7⟩ := cells8 Krc
  obtain ⟨⟨rn0, rn1, rn2, rn3, rn4⟩, rnf0, rnf1, rnf2, rnf3, rnf4⟩ := cells5 Krn
  go_wp2_with fail
  refine HC.mono ?_; rintro e W2 ⟨x', rfl, hx, hB⟩
  clear HC
  obtain ⟨a2, ln2, cap2, rfl, hRq, -⟩ := hx.shape
  have Rq2 := hRq.out
  clear hx hRq
  clear p0 p1 p2 p3 p4 p5 p6 p7 pf0 pf1 pf2 pf3 pf4 pf5 pf6 pf7 rc0 rc1 rc2 rc3 rc4 rc5 rc6 rc7 rcf0 rcf1 rcf2 rcf3 rcf4 rcf5 rcf6 rcf7 rn0 rn1 rn2 rn3 rn4 rnf0 rnf1 rnf2 rnf3 rnf4
  replace Kp := Kp.later hB
  replace Krc := Krc.later hB
  replace Krn := Krn.later hB
  replace Rc := Rc.below (hB.mono (Nat.le_trans hn hB1.size))
  have hs3 := hB.size
  have hB3 := hB1.trans (hB.mono hB1.size)
  clear hB hB1
  have HT := Lib.hid hT
  clear hT hTB
  have HO1 : Hid (CuOk c2) := by show CuOk _; rw [E2.out]; exact (fine_kind c 2).ok HOK.out
  rw [← E2.out] at HWH HK
  have HQ : Hid (predR wr c = ((atomR wr c2).1, .mk 3 tp 0 tt [(atomR wr c2).2])) := by show _ = _; unfold predR; rw [← HT.out, ← E2.out]
  obtain ⟨W4, hV⟩ : ∃ x, x = W2.alloc (.cells #[.int .i64 0, .int .i64 0, .int .i64 0, .string ⟨#[]⟩] 37) := ⟨_, rfl⟩
  have hB : Below W2.heap.size W2 W4 := by rw [hV]; exact (Below.refl _ _).alloc (Nat.le_refl _) _
  have KN0 : Blk W4 W2.heap.size #[.int .i64 0, .int .i64 0, .int .i64 0, .string ⟨#[]⟩] 37 := by rw [hV]; exact Blk.new W2 _ _
  have hz4 : W2.heap.size + 1 ≤ W4.heap.size := by rw [hV]; simp
  have HV := Lib.hid hV
  clear hV
  replace Kp := Kp.later hB
  replace Krc := Krc.later hB
  replace Krn := Krn.later hB
  replace Rc := Rc.below (hB.mono (Nat.le_trans hn hB3.size))
  replace Rq2 := Rq2.below (hB.mono (Nat.le_trans hn hB3.size))
  have hs5 := hB.size
  have hB5 := hB3.trans (hB.mono hB3.size)
  clear hB hB3
  have Kt := KN0
  clear KN0
  have nt : W2.heap.size ≠ w.heap.size := by omega
  have ot : w.heap.size ≠ W2.heap.size := by omega
  obtain ⟨⟨p0, p1, p2, p3, p4, p5, p6, p7⟩, pf0, pf1, pf2, pf3, pf4, pf5, pf6, pf7⟩ := cells8 Kp
  obtain ⟨t0, t1, t2, t3⟩ := cells4 Kt
  have tf0 := Kt.frozen 0
  have tf1 := Kt.frozen 1
  have tf2 := Kt.frozen 2
  have tf3 := Kt.frozen 3
  rw [HV.out] at p0 p1 p2 p3 p4 p5 p6 p7 pf0 pf1 pf2 pf3 pf4 pf5 pf6 pf7 t0 t1 t2 t3 tf0 tf1 tf2 tf3
  obtain ⟨W6, hW6, KN, hP⟩ := c_put Kp (.slice a2 ln2 cap2) c2.ep (c2.nest : Int) c2.err c2.pos
  replace Krc := hP.blk Krc (by omega)
  replace Krn := hP.blk Krn (by omega)
  replace Kt := hP.blk Kt (by omega)
  replace Rc := hP.row Rc (by omega)
  replace Rq2 := hP.row Rq2 (by omega)
  have hs7 := hP.size
  have hB7 := hP.below _ _ (by omega) hB5
  clear hP hB5
  replace Kp := KN
  clear KN
  obtain ⟨W97, hW97, KN, hP⟩ := t_put Kt (.int .i64 tk) (.int .i64 tp) (.int .i64 tn) (.string ⟨tt.toArray⟩)
  replace Kp := hP.blk Kp (by omega)
  replace Krc := hP.blk Krc (by omega)
  replace Krn := hP.blk Krn (by omega)
  replace Rc := hP.row Rc (by omega)
  replace Rq2 := hP.row Rq2 (by omega)
  have hs8 := hP.size
  have hB8 := hP.below _ _ (by omega) hB7
  clear hP hB7
  replace Kt := KN
  clear KN
  go_upto_region 2 with fail
  rw [← HV.out, ← hW6, ← hW97]
  clear HV hW6 hW97 p0 p1 p2 p3 p4 p5 p6 p7 pf0 pf1 pf2 pf3 pf4 pf5 pf6 pf7 t0 t1 t2 t3 tf0 tf1 tf2 tf3
  have HC := refatom_any (RefIs.mk Rq2) (Nat.le_trans hn hB8.size) HO1.out HF.out HWH.out HK.out
  obtain ⟨c9, hE⟩ : ∃ q, q = (atomR wr c2).1 := ⟨_, rfl⟩
  have E9 := Lib.hid hE
  clear hE
  obtain ⟨⟨p0, p1, p2, p3, p4, p5, p6, p7⟩, pf0, pf1, pf2, pf3, pf4, pf5, pf6, pf7⟩ := cells8 Kp
  obtain ⟨⟨rc0, rc1, rc2, rc3, rc4, rc5, rc6, rc7⟩, rcf0, rcf1, rcf2, rcf3, rcf4, rcf5, rcf6, rcf7⟩ := cells8 Krc
  obtain ⟨⟨rn0, rn1, rn2, rn3, rn4⟩, rnf0, rnf1, rnf2, rnf3, rnf4⟩ := cells5 Krn
  obtain ⟨t0, t1, t2, t3⟩ := cells4 Kt
  go_wp2_with fail
  refine HC.mono ?_; rintro e W9 ⟨x', d, rfl, hx, hd, hB⟩
  clear HC
  rw [← E9.out] at hx
  obtain ⟨a9, ln9, cap9, rfl, hRq, -⟩ := hx.shape
  have Rq9 := hRq.out
  clear hx hRq
  clear p0 p1 p2 p3 p4 p5 p6 p7 pf0 pf1 pf2 pf3 pf4 pf5 pf6 pf7 rc0 rc1 rc2 rc3 rc4 rc5 rc6 rc7 rcf0 rcf1 rcf2 rcf3 rcf4 rcf5 rcf6 rcf7 rn0 rn1 rn2 rn3 rn4 rnf0 rnf1 rnf2 rnf3 rnf4 t0 t1 t2 t3
  replace Kp := Kp.later hB
  replace Krc := Krc.later hB
  replace Krn := Krn.later hB
  replace Kt := Kt.later hB
  replace Rc := Rc.below (hB.mono (Nat.le_trans hn hB8.size))
  replace Rq2 := Rq2.below (hB.mono (Nat.le_trans hn hB8.size))
  have hs10 := hB.size
  have hB10 := hB8.trans (hB.mono hB8.size)
  clear hB hB8
  rw [← E9.out] at HQ
  obtain ⟨dk, dp, dn, dt, dq, dl, dc⟩ := d
  unfold NC.val
  have Td := hd.mono (S' := (fun q => w.heap.size + 1 + 1 + 1 ≤ q ∧ q ≠ W2.heap.size)) fun q hq hl => ⟨by omega, by omega⟩
  clear hd
  replace Td := Td.mono (S' := (fun q => w.heap.size + 1 + 1 + 1 ≤ q ∧ q ≠ W2.heap.size ∧ q ≠ W9.heap.size)) fun q hq hl => ⟨by omega, by omega, by omega⟩
  obtain ⟨W11, hW11⟩ : ∃ x, x = W9.alloc (.cells #[.int .i64 0, .int .i64 0, .int .i64 0, .string ⟨#[]⟩, .slice none 0 0] 25) := ⟨_, rfl⟩
  have hB : Below W9.heap.size W9 W11 := by rw [hW11]; exact (Below.refl _ _).alloc (Nat.le_refl _) _
  have KN : Blk W11 W9.heap.size #[.int .i64 0, .int .i64 0, .int .i64 0, .string ⟨#[]⟩, .slice none 0 0] 25 := by rw [hW11]; exact Blk.new W9 _ _
  have hA11 := hB
  have hz11 : W9.heap.size + 1 ≤ W11.heap.size := by rw [hW11]; simp
  replace Kp := Kp.later hB
  replace Krc := Krc.later hB
  replace Krn := Krn.later hB
  replace Kt := Kt.later hB
  replace Rc := Rc.below (hB.mono (Nat.le_trans hn hB10.size))
  replace Rq2 := Rq2.below (hB.mono (Nat.le_trans hn hB10.size))
  replace Rq9 := Rq9.below (hB.mono (Nat.le_trans hn hB10.size))
  have hs12 := hB.size
  have hB12 := hB10.trans (hB.mono hB10.size)
  clear hB hB10
  have Km := KN
  clear KN
  have HV := Lib.hid hW11
  clear hW11
  have np : W9.heap.size ≠ w.heap.size := by omega
  have op : w.heap.size ≠ W9.heap.size := by omega
  have nrc : W9.heap.size ≠ w.heap.size + 1 := by omega
  have orc : w.heap.size + 1 ≠ W9.heap.size := by omega
  have nrn : W9.heap.size ≠ w.heap.size + 1 + 1 := by omega
  have orn : w.heap.size + 1 + 1 ≠ W9.heap.size := by omega
  have nt : W9.heap.size ≠ W2.heap.size := by omega
  have ot : W2.heap.size ≠ W9.heap.size := by omega
  obtain ⟨⟨p0, p1, p2, p3, p4, p5, p6, p7⟩, pf0, pf1, pf2, pf3, pf4, pf5, pf6, pf7⟩ := cells8 Kp
  obtain ⟨⟨m0, m1, m2, m3, m4⟩, mf0, mf1, mf2, mf3, mf4⟩ := cells5 Km
  rw [HV.out] at p0 p1 p2 p3 p4 p5 p6 p7 pf0 pf1 pf2 pf3 pf4 pf5 pf6 pf7 m0 m1 m2 m3 m4 mf0 mf1 mf2 mf3 mf4
  obtain ⟨W13, hW13, KN, hP⟩ := c_put Kp (.slice a9 ln9 cap9) c9.ep (c9.nest : Int) c9.err c9.pos
  have hP13 := hP
  replace Krc := hP.blk Krc (by omega)
  replace Krn := hP.blk Krn (by omega)
  replace Kt := hP.blk Kt (by omega)
  replace Km := hP.blk Km (by omega)
  replace Rc := hP.row Rc (by omega)
  replace Rq2 := hP.row Rq2 (by omega)
  replace Rq9 := hP.row Rq9 (by omega)
  have hs14 := hP.size
  have hB14 := hP.below _ _ (by omega) hB12
  clear hP hB12
  replace Kp := KN
  clear KN
  obtain ⟨W15, hW15, KN, hP⟩ := n_put (z := zN) Km ⟨dk, dp, dn, dt, dq, dl, dc⟩
  have hP15 := hP
  replace Kp := hP.blk Kp (by omega)
  replace Krc := hP.blk Krc (by omega)
  replace Krn := hP.blk Krn (by omega)
  replace Kt := hP.blk Kt (by omega)
  replace Rc := hP.row Rc (by omega)
  replace Rq2 := hP.row Rq2 (by omega)
  replace Rq9 := hP.row Rq9 (by omega)
  have hs16 := hP.size
  have hB16 := hP.below _ _ (by omega) hB14
  clear hP hB14
  dsimp only [zN] at hW15 KN
  replace Km := KN
  clear KN
  go_upto_region 3 with fail
  rw [← HV.out, ← hW13, ← hW15]
  replace Td := Td.keeps (w' := W15) ⟨by omega, fun q hq hql => (hP15.other q (by omega)).trans ((hP13.other q (by omega)).trans (hA11.block q hql))⟩
  clear HV hW13 hW15 hP13 hP15 hA11 p0 p1 p2 p3 p4 p5 p6 p7 pf0 pf1 pf2 pf3 pf4 pf5 pf6 pf7 m0 m1 m2 m3 m4 mf0 mf1 mf2 mf3 mf4
  have n1 : W2.heap.size ≠ w.heap.size := by omega
  have n2 : W2.heap.size ≠ w.heap.size + 1 := by omega
  have n3 : W2.heap.size ≠ w.heap.size + 1 + 1 := by omega
  have n4 : W9.heap.size ≠ w.heap.size + 1 := by omega
  have n5 : W9.heap.size ≠ w.heap.size + 1 + 1 := by omega
  have ltp : w.heap.size < W15.heap.size := by omega
  have ltrc : w.heap.size + 1 < W15.heap.size := by omega
  have ltrn : w.heap.size + 1 + 1 < W15.heap.size := by omega
  have ltt : W2.heap.size < W15.heap.size := by omega
  have ltm : W9.heap.size < W15.heap.size := by omega
  obtain ⟨⟨p0, p1, p2, p3, p4, p5, p6, p7⟩, pf0, pf1, pf2, pf3, pf4, pf5, pf6, pf7⟩ := cells8 Kp
  obtain ⟨⟨rc0, rc1, rc2, rc3, rc4, rc5, rc6, rc7⟩, rcf0, rcf1, rcf2, rcf3, rcf4, rcf5, rcf6, rcf7⟩ := cells8 Krc
  obtain ⟨⟨rn0, rn1, rn2, rn3, rn4⟩, rnf0, rnf1, rnf2, rnf3, rnf4⟩ := cells5 Krn
  obtain ⟨t0, t1, t2, t3⟩ := cells4 Kt
  obtain ⟨⟨m0, m1, m2, m3, m4⟩, mf0, mf1, mf2, mf3, mf4⟩ := cells5 Km
  obtain ⟨W17, hW17, KN, hP⟩ := c_put Krc (.slice a9 ln9 cap9) c9.ep (c9.nest : Int) c9.err c9.pos
  replace Kp := hP.blk Kp (by omega)
  replace Krn := hP.blk Krn (by omega)
  replace Kt := hP.blk Kt (by omega)
  replace Km := hP.blk Km (by omega)
  replace Td := hP.node Td (by omega)
  replace Rc := hP.row Rc (by omega)
  replace Rq2 := hP.row Rq2 (by omega)
  replace Rq9 := hP.row Rq9 (by omega)
  have hs18 := hP.size
  have hB18 := hP.below _ _ (by omega) hB16
  clear hP hB16
  replace Krc := KN
  clear KN
  obtain ⟨W19, hW19, KN, hP⟩ := n_put (z := zN) Krn ⟨3, tp, 0, tt, some ⟨W15.heap.size, 0, none⟩, 1, 1⟩
  replace Kp := hP.blk Kp (by omega)
  replace Krc := hP.blk Krc (by omega)
  replace Kt := hP.blk Kt (by omega)
  replace Km := hP.blk Km (by omega)
  replace Td := hP.node Td (by omega)
  replace Rc := hP.row Rc (by omega)
  replace Rq2 := hP.row Rq2 (by omega)
  replace Rq9 := hP.row Rq9 (by omega)
  have hs20 := hP.size
  have hB20 := hP.below _ _ (by omega) hB18
  clear hP hB18
  dsimp only [zN] at hW19 KN
  replace Krn := KN
  clear KN
  have hs : W19.heap.size = W15.heap.size := by rw [hW19, hW17]; simp
  obtain ⟨W21, hV⟩ : ∃ x, x = W19.alloc (.cells #[.int .i64 dk, .int .i64 dp, .int .i64 dn, .string ⟨dt.toArray⟩, .slice dq dl dc] 25) := ⟨_, rfl⟩
  have hB : Below W19.heap.size W19 W21 := by rw [hV]; exact (Below.refl _ _).alloc (Nat.le_refl _) _
  have KL : Blk W21 W15.heap.size #[.int .i64 dk, .int .i64 dp, .int .i64 dn, .string ⟨dt.toArray⟩, .slice dq dl dc] 25 := by rw [hV]; have h0 := Blk.new W19 #[.int .i64 dk, .int .i64 dp, .int .i64 dn, .string ⟨dt.toArray⟩, .slice dq dl dc] 25; rw [hs] at h0; exact h0
  have HV := Lib.hid hV
  clear hV
  replace Kp := Kp.later hB
  replace Krc := Krc.later hB
  replace Krn := Krn.later hB
  replace Kt := Kt.later hB
  replace Km := Km.later hB
  replace Td := Td.keeps (w' := W21) ⟨hB.size, fun k hk hkl => hB.block k hkl⟩
  replace Rc := Rc.below (hB.mono (Nat.le_trans hn hB20.size))
  replace Rq2 := Rq2.below (hB.mono (Nat.le_trans hn hB20.size))
  replace Rq9 := Rq9.below (hB.mono (Nat.le_trans hn hB20.size))
  have hs22 := hB.size
  have hB22 := hB20.trans (hB.mono hB20.size)
  clear hB hB20
  have hz21 : W15.heap.size + 1 ≤ W21.heap.size := by rw [HV.out]; simp [hs]
  have TT := one_node KL (S := fun q => w.heap.size + 1 + 1 + 1 ≤ q) (by omega) (Td.mono fun q hq _ => by omega) 3 tp 0 tt
  go_region
  rw [← hW17, ← hW19, ← HV.out]
  clear HV hW17 hW19 p0 p1 p2 p3 p4 p5 p6 p7 pf0 pf1 pf2 pf3 pf4 pf5 pf6 pf7 rc0 rc1 rc2 rc3 rc4 rc5 rc6 rc7 rcf0 rcf1 rcf2 rcf3 rcf4 rcf5 rcf6 rcf7 rn0 rn1 rn2 rn3 rn4 rnf0 rnf1 rnf2 rnf3 rnf4 t0 t1 t2 t3 m0 m1 m2 m3 m4 mf0 mf1 mf2 mf3 mf4
  obtain ⟨W23, hW23⟩ : ∃ x, x = W21.drew := ⟨_, rfl⟩
  have hB : Below W21.heap.size W21 W23 := by rw [hW23]; exact (Below.refl _ _).drew
  rw [← hW23]
  clear hW23
  replace Kp := Kp.later hB
  replace Krc := Krc.later hB
  replace Krn := Krn.later hB
  replace Kt := Kt.later hB
  replace Km := Km.later hB
  replace TT := TT.keeps (w' := W23) ⟨hB.size, fun k hk hkl => hB.block k hkl⟩
  replace Rc := Rc.below (hB.mono (Nat.le_trans hn hB22.size))
  replace Rq2 := Rq2.below (hB.mono (Nat.le_trans hn hB22.size))
  replace Rq9 := Rq9.below (hB.mono (Nat.le_trans hn hB22.size))
  have hs24 := hB.size
  have hB24 := hB22.trans (hB.mono hB22.size)
  clear hB hB22
  go_wp2_with fail
  obtain ⟨⟨y0, y1, y2, y3, y4, y5, y6, y7⟩, -⟩ := cells8 Krc
  obtain ⟨⟨z0, z1, z2, z3, z4⟩, -⟩ := cells5 Krn
  refine bodyPost_ret (v := .tuple #[.agg (refC (.slice a9 ln9 cap9) c9.ep (c9.nest : Int) c9.err c9.pos), NC.val ⟨3, tp, 0, tt, some ⟨W15.heap.size, 0, none⟩, 1, 1⟩]) (by simp [results, Try.results49, go_sem, y0, y1, y2, y3, y4, y5, y6, y7, z0, z1, z2, z3, z4, NC.val]) rfl ⟨_, ⟨3, tp, 0, tt, some ⟨W15.heap.size, 0, none⟩, 1, 1⟩, rfl, ?_, ?_, hB24⟩
  · rw [HQ.out]; exact RefIs.mk Rq9
  · rw [HQ.out]; exact TT.mono fun q hq _ => by omega
end Go.Proofs.Ytlammclbnihopaa.N7
