/- The document's readers: types. -/
import Derived.Test.YtlammclbnihopaaPtyRefB
namespace Go.Proofs.Ytlammclbnihopaa.N7
open Go.RowKit N5 N6

attribute [local go_sem] fld0 fld1
theorem two_node {S : Nat → Prop} {W : World} {g : Nat} {d e : NC} {t u : Nd} (h : Blk W g #[.int .i64 d.kind, .int .i64 d.pos, .int .i64 d.num, .string ⟨d.text.toArray⟩, .slice d.kp d.kl d.kc, .int .i64 e.kind, .int .i64 e.pos, .int .i64 e.num, .string ⟨e.text.toArray⟩, .slice e.kp e.kl e.kc] 25) (hg : S g)
    (hd : NodeAt S W d t) (he : NodeAt S W e u) (kd ps nm : Int) (tx : List UInt8) : NodeAt S W ⟨kd, ps, nm, tx, some ⟨g, 0, none⟩, 2, 2⟩ (.mk kd ps nm tx [t, u]) := by
  refine .mk _ _ [d, e] rfl rfl rfl rfl rfl ⟨_, _, rfl, Nat.le_refl _, .inr ⟨g, 0, rfl, hg, h.lt, fun j u hj => ?_⟩⟩ fun i a b => ?_
  · rw [h.cell, Nat.zero_add]
    simpa [encN] using hj
  · match i, a with
    | 0, _ => exact hd
    | 1, _ => exact he
def atBody (rr : Cu × Nd) (wr : Cu → Cu × Nd) : Cu × Nd := if rr.1.is [45, 62] = true then ((wr (rr.1.take [45, 62])).1.leave, .mk 2 rr.2.pos 0 [45, 62] [rr.2, (wr (rr.1.take [45, 62])).2]) else (rr.1.leave, rr.2)
set_option maxRecDepth 100000 in
set_option maxHeartbeats 4000000 in
theorem refat_body {rr : Cu × Nd} {wr : Cu → Cu × Nd} {n : Nat} {w : World} {x : Value} {c : Cu} (h : RefIs n w x c) (hn : n ≤ w.heap.size) (hok : CuOk c) (hrow : ∀ (W : World) (x : Value), RefIs n W x c.enter → n ≤ W.heap.size → Calls Try.prog 51 #[x] W (RefRead n rr W)) (hro : CuOk rr.1) (hwh : rr.1.is [45, 62] = true → ∀ (W : World) (x : Value), RefIs n W x (rr.1.take [45, 62]) → n ≤ W.heap.size → Calls Try.prog 21 #[x] W (RefRead n (wr (rr.1.take [45, 62])) W)) (hwo : rr.1.is [45, 62] = true → CuOk (wr (rr.1.take [45, 62])).1) : Calls Try.prog 21 #[x] w (RefRead n (atBody rr wr) w) := by
  obtain ⟨r1, r2⟩ := rr
  dsimp only at hrow hro hwh hwo
  have HWH := Lib.hid hwh
  have HRO := Lib.hid hro
  have HOK := Lib.hid hok
  have HWO := Lib.hid hwo
  have HROW := Lib.hid hrow
  clear hwh hro hok hwo hrow
  obtain ⟨a, ln, cap, rfl, hr, -⟩ := h.shape
  clear h
  obtain ⟨W1, hW1⟩ : ∃ W1, W1 = (((w.alloc (.cells (refC (.slice a ln cap) c.ep (c.nest : Int) c.err c.pos) 39)).alloc (.cells (refC (.slice none 0 0) 0 0 0 0) 39)).alloc (.cells #[.int .i64 0, .int .i64 0, .int .i64 0, .string ⟨#[]⟩, .slice none 0 0] 25)) := ⟨_, rfl⟩
  have hsz : w.heap.size + 1 + 1 + 1 ≤ W1.heap.size := by rw [hW1]; simp
  have Kp : Blk W1 (w.heap.size) (refC (.slice a ln cap) c.ep (c.nest : Int) c.err c.pos) 39 := by rw [hW1]; have h0 := Blk.new w (refC (.slice a ln cap) c.ep (c.nest : Int) c.err c.pos) 39; (try simp only [World.size_alloc] at h0); exact ((h0.later ((Below.refl _ _).alloc (Nat.le_refl _) _)).later ((Below.refl _ _).alloc (Nat.le_refl _) _))
  have Krc : Blk W1 (w.heap.size + 1) (refC (.slice none 0 0) 0 0 0 0) 39 := by rw [hW1]; have h0 := Blk.new (w.alloc (.cells (refC (.slice a ln cap) c.ep (c.nest : Int) c.err c.pos) 39)) (refC (.slice none 0 0) 0 0 0 0) 39; (try simp only [World.size_alloc] at h0); exact (h0.later ((Below.refl _ _).alloc (Nat.le_refl _) _))
  have Krn : Blk W1 (w.heap.size + 1 + 1) #[.int .i64 0, .int .i64 0, .int .i64 0, .string ⟨#[]⟩, .slice none 0 0] 25 := by rw [hW1]; have h0 := Blk.new ((w.alloc (.cells (refC (.slice a ln cap) c.ep (c.nest : Int) c.err c.pos) 39)).alloc (.cells (refC (.slice none 0 0) 0 0 0 0) 39)) #[.int .i64 0, .int .i64 0, .int .i64 0, .string ⟨#[]⟩, .slice none 0 0] 25; (try simp only [World.size_alloc] at h0); exact h0
  have hB1 : Below w.heap.size w W1 := by rw [hW1]; exact ((((Below.refl _ w).alloc (by simp; try omega) _).alloc (by simp; try omega) _).alloc (by simp; try omega) _)
  have Rc : WRow n W1 (.slice a ln cap) (c.ws.drop c.at') := hr.out.below (hB1.mono hn)
  have HW1 := Lib.hid hW1
  clear hW1 hr
  go_enter Try.func21, Try.ntmps21
  go_upto_region 1 with fail
  rw [← HW1.out]
  clear HW1
  have HC := refenter_any (RefIs.mk Rc) (Nat.le_trans hn hB1.size) HOK.out
  obtain ⟨c2, hE⟩ : ∃ q, q = c.enter := ⟨_, rfl⟩
  rw [← hE] at HC
  have E2 := Lib.hid hE
  clear hE
  obtain ⟨⟨p0, p1, p2, p3, p4, p5, p6, p7⟩, pf0, pf1, pf2, pf3, pf4, pf5, pf6, pf7⟩ := cells8 Kp
  obtain ⟨⟨rc0, rc1, rc2, rc3, rc4, rc5, rc6, rc7⟩, rcf0, rcf1, rcf2, rcf3, rcf4, rcf5, rcf6, rcf7⟩ := cells8 Krc
  obtain ⟨⟨rn0, rn1, rn2, rn3, rn4⟩, rnf0, rnf1, rnf2, rnf3, rnf4⟩ := cells5 Krn
  go_wp2_with fail
  refine HC.mono ?_; rintro e W2 ⟨x', rfl, hx, hB⟩
  clear HC
  obtain ⟨a2, ln2, cap2, rfl, hRq, -⟩ := hx.shape
  have Rq2 := hRq.out
  clear hx hRq
  clear p0 p1 p2 p3 p4 p5 p6 p7 pf0 pf1 pf2 pf3 pf4 pf5 pf6 pf7 rc0 rc1 rc2 rc3 rc4 rc5 rc6 rc7 rcf0 rcf1 rcf2 rcf3 rcf4 rcf5 rcf6 rcf7 rn0 rn1 rn2 rn3 rn4 rnf0 rnf1 rnf2 rnf3 rnf4
  replace Kp := Kp.later hB
  replace Krc := Krc.later hB
  replace Krn := Krn.later hB
  replace Rc := Rc.below (hB.mono (Nat.le_trans hn hB1.size))
  have hs3 := hB.size
  have hB3 := hB1.trans (hB.mono hB1.size)
  clear hB hB1
  rw [← E2.out] at HROW
  obtain ⟨⟨p0, p1, p2, p3, p4, p5, p6, p7⟩, pf0, pf1, pf2, pf3, pf4, pf5, pf6, pf7⟩ := cells8 Kp
  obtain ⟨⟨rc0, rc1, rc2, rc3, rc4, rc5, rc6, rc7⟩, rcf0, rcf1, rcf2, rcf3, rcf4, rcf5, rcf6, rcf7⟩ := cells8 Krc
  obtain ⟨⟨rn0, rn1, rn2, rn3, rn4⟩, rnf0, rnf1, rnf2, rnf3, rnf4⟩ := cells5 Krn
  obtain ⟨W4, hW4, KN, hP⟩ := c_put Kp (.slice a2 ln2 cap2) c2.ep (c2.nest : Int) c2.err c2.pos
  replace Krc := hP.blk Krc (by omega)
  replace Krn := hP.blk Krn (by omega)
  replace Rc := hP.row Rc (by omega)
  replace Rq2 := hP.row Rq2 (by omega)
  have hs5 := hP.size
  have hB5 := hP.below _ _ (by omega) hB3
  clear hP hB3
  replace Kp := KN
  clear KN
  go_upto_region 2 with fail
  rw [← hW4]
  clear hW4
  clear p0 p1 p2 p3 p4 p5 p6 p7 pf0 pf1 pf2 pf3 pf4 pf5 pf6 pf7 rc0 rc1 rc2 rc3 rc4 rc5 rc6 rc7 rcf0 rcf1 rcf2 rcf3 rcf4 rcf5 rcf6 rcf7 rn0 rn1 rn2 rn3 rn4 rnf0 rnf1 rnf2 rnf3 rnf4
  have HC := HROW.out _ _ (RefIs.mk Rq2) (Nat.le_trans hn hB5.size)
  obtain ⟨⟨p0, p1, p2, p3, p4, p5, p6, p7⟩, pf0, pf1, pf2, pf3, pf4, pf5, pf6, pf7⟩ := cells8 Kp
  obtain ⟨⟨rc0, rc1, rc2, rc3, rc4, rc5, rc6, rc7⟩, rcf0, rcf1, rcf2, rcf3, rcf4, rcf5, rcf6, rcf7⟩ := cells8 Krc
  obtain ⟨⟨rn0, rn1, rn2, rn3, rn4⟩, rnf0, rnf1, rnf2, rnf3, rnf4⟩ := cells5 Krn
  go_wp2_with fail
  refine HC.mono ?_; rintro e W6 ⟨x', d, rfl, hx, hd, hB⟩
  clear HC
  obtain ⟨a6, ln6, cap6, rfl, hRq, -⟩ := hx.shape
  have Rq6 := hRq.out
  clear hx hRq
  clear p0 p1 p2 p3 p4 p5 p6 p7 pf0 pf1 pf2 pf3 pf4 pf5 pf6 pf7 rc0 rc1 rc2 rc3 rc4 rc5 rc6 rc7 rcf0 rcf1 rcf2 rcf3 rcf4 rcf5 rcf6 rcf7 rn0 rn1 rn2 rn3 rn4 rnf0 rnf1 rnf2 rnf3 rnf4
  replace Kp := Kp.later hB
  replace Krc := Krc.later hB
  replace Krn := Krn.later hB
  replace Rc := Rc.below (hB.mono (Nat.le_trans hn hB5.size))
  replace Rq2 := Rq2.below (hB.mono (Nat.le_trans hn hB5.size))
  have hs7 := hB.size
  have hB7 := hB5.trans (hB.mono hB5.size)
  clear hB hB5
  dsimp only at hd
  clear HROW
  obtain ⟨dk, dp, dn, dt, dq, dl, dc⟩ := d
  unfold NC.val
  have Td := hd.mono (S' := (fun q => w.heap.size + 1 + 1 + 1 ≤ q)) fun q hq hl => (by omega)
  clear hd
  have hp : dp = r2.pos := Td.pos
  subst hp
  replace Td := Td.mono (S' := (fun q => w.heap.size + 1 + 1 + 1 ≤ q ∧ q ≠ W6.heap.size)) fun q hq hl => ⟨by omega, by omega⟩
  obtain ⟨W8, hW8⟩ : ∃ x, x = W6.alloc (.cells #[.int .i64 0, .int .i64 0, .int .i64 0, .string ⟨#[]⟩, .slice none 0 0] 25) := ⟨_, rfl⟩
  have hB : Below W6.heap.size W6 W8 := by rw [hW8]; exact (Below.refl _ _).alloc (Nat.le_refl _) _
  have KN : Blk W8 W6.heap.size #[.int .i64 0, .int .i64 0, .int .i64 0, .string ⟨#[]⟩, .slice none 0 0] 25 := by rw [hW8]; exact Blk.new W6 _ _
  have hA8 := hB
  have hz8 : W6.heap.size + 1 ≤ W8.heap.size := by rw [hW8]; simp
  replace Kp := Kp.later hB
  replace Krc := Krc.later hB
  replace Krn := Krn.later hB
  replace Rc := Rc.below (hB.mono (Nat.le_trans hn hB7.size))
  replace Rq2 := Rq2.below (hB.mono (Nat.le_trans hn hB7.size))
  replace Rq6 := Rq6.below (hB.mono (Nat.le_trans hn hB7.size))
  have hs9 := hB.size
  have hB9 := hB7.trans (hB.mono hB7.size)
  clear hB hB7
  have Km := KN
  clear KN
  have HV := Lib.hid hW8
  clear hW8
  have np : W6.heap.size ≠ w.heap.size := by omega
  have op : w.heap.size ≠ W6.heap.size := by omega
  have nrc : W6.heap.size ≠ w.heap.size + 1 := by omega
  have orc : w.heap.size + 1 ≠ W6.heap.size := by omega
  have nrn : W6.heap.size ≠ w.heap.size + 1 + 1 := by omega
  have orn : w.heap.size + 1 + 1 ≠ W6.heap.size := by omega
  obtain ⟨⟨p0, p1, p2, p3, p4, p5, p6, p7⟩, pf0, pf1, pf2, pf3, pf4, pf5, pf6, pf7⟩ := cells8 Kp
  obtain ⟨⟨m0, m1, m2, m3, m4⟩, mf0, mf1, mf2, mf3, mf4⟩ := cells5 Km
  rw [HV.out] at p0 p1 p2 p3 p4 p5 p6 p7 pf0 pf1 pf2 pf3 pf4 pf5 pf6 pf7 m0 m1 m2 m3 m4 mf0 mf1 mf2 mf3 mf4
  obtain ⟨W10, hW10, KN, hP⟩ := c_put Kp (.slice a6 ln6 cap6) r1.ep (r1.nest : Int) r1.err r1.pos
  have hP10 := hP
  replace Krc := hP.blk Krc (by omega)
  replace Krn := hP.blk Krn (by omega)
  replace Km := hP.blk Km (by omega)
  replace Rc := hP.row Rc (by omega)
  replace Rq2 := hP.row Rq2 (by omega)
  replace Rq6 := hP.row Rq6 (by omega)
  have hs11 := hP.size
  have hB11 := hP.below _ _ (by omega) hB9
  clear hP hB9
  replace Kp := KN
  clear KN
  obtain ⟨W12, hW12, KN, hP⟩ := n_put (z := zN) Km ⟨dk, r2.pos, dn, dt, dq, dl, dc⟩
  have hP12 := hP
  replace Kp := hP.blk Kp (by omega)
  replace Krc := hP.blk Krc (by omega)
  replace Krn := hP.blk Krn (by omega)
  replace Rc := hP.row Rc (by omega)
  replace Rq2 := hP.row Rq2 (by omega)
  replace Rq6 := hP.row Rq6 (by omega)
  have hs13 := hP.size
  have hB13 := hP.below _ _ (by omega) hB11
  clear hP hB11
  dsimp only [zN] at hW12 KN
  replace Km := KN
  clear KN
  go_upto_region 3 with fail
  rw [← HV.out, ← hW10, ← hW12]
  replace Td := Td.keeps (w' := W12) ⟨by omega, fun q hq hql => (hP12.other q (by omega)).trans ((hP10.other q (by omega)).trans (hA8.block q hql))⟩
  clear HV hW10 hW12 hP10 hP12 hA8 p0 p1 p2 p3 p4 p5 p6 p7 pf0 pf1 pf2 pf3 pf4 pf5 pf6 pf7 m0 m1 m2 m3 m4 mf0 mf1 mf2 mf3 mf4
  cases hi : r1.is [45, 62] with
  | false =>
    have HQ : Hid (atBody (r1, r2) wr = (r1.leave, r2)) := by show _ = _; unfold atBody; dsimp only; rw [hi]; rfl
    have HC := reftake_l (RefIs.mk Rq6) (Nat.le_trans hn hB13.size) [45, 62]
    rw [hi] at HC
    rw [take_not (by rw [hi]; decide)] at HC
    obtain ⟨⟨p0, p1, p2, p3, p4, p5, p6, p7⟩, pf0, pf1, pf2, pf3, pf4, pf5, pf6, pf7⟩ := cells8 Kp
    obtain ⟨⟨rc0, rc1, rc2, rc3, rc4, rc5, rc6, rc7⟩, rcf0, rcf1, rcf2, rcf3, rcf4, rcf5, rcf6, rcf7⟩ := cells8 Krc
    obtain ⟨⟨rn0, rn1, rn2, rn3, rn4⟩, rnf0, rnf1, rnf2, rnf3, rnf4⟩ := cells5 Krn
    obtain ⟨⟨m0, m1, m2, m3, m4⟩, mf0, mf1, mf2, mf3, mf4⟩ := cells5 Km
    go_wp2_with fail
    refine HC.mono ?_; rintro e W14 ⟨x', rfl, hx, hB⟩
    clear HC
    obtain ⟨a14, ln14, cap14, rfl, hRq, -⟩ := hx.shape
    have Rq14 := hRq.out
    clear hx hRq
    clear p0 p1 p2 p3 p4 p5 p6 p7 pf0 pf1 pf2 pf3 pf4 pf5 pf6 pf7 rc0 rc1 rc2 rc3 rc4 rc5 rc6 rc7 rcf0 rcf1 rcf2 rcf3 rcf4 rcf5 rcf6 rcf7 rn0 rn1 rn2 rn3 rn4 rnf0 rnf1 rnf2 rnf3 rnf4 m0 m1 m2 m3 m4 mf0 mf1 mf2 mf3 mf4
    replace Kp := Kp.later hB
    replace Krc := Krc.later hB
    replace Krn := Krn.later hB
    replace Km := Km.later hB
    replace Td := Td.keeps (w' := W14) ⟨hB.size, fun k hk hkl => hB.block k hkl⟩
    replace Rc := Rc.below (hB.mono (Nat.le_trans hn hB13.size))
    replace Rq2 := Rq2.below (hB.mono (Nat.le_trans hn hB13.size))
    replace Rq6 := Rq6.below (hB.mono (Nat.le_trans hn hB13.size))
    have hs15 := hB.size
    have hB15 := hB13.trans (hB.mono hB13.size)
    clear hB hB13
    clear hi
    go_upto_region 4 with fail
    replace Td := Td.mono (S' := (fun q => w.heap.size + 1 + 1 + 1 ≤ q ∧ q ≠ W6.heap.size ∧ q ≠ W14.heap.size)) fun q hq hl => ⟨by omega, by omega, by omega⟩
    obtain ⟨W16, hW16⟩ : ∃ x, x = W14.alloc (.cells (refC (.slice a14 ln14 cap14) r1.ep (r1.nest : Int) r1.err r1.pos) 39) := ⟨_, rfl⟩
    rw [← hW16]
    have hB : Below W14.heap.size W14 W16 := by rw [hW16]; exact (Below.refl _ _).alloc (Nat.le_refl _) _
    have KN : Blk W16 W14.heap.size (refC (.slice a14 ln14 cap14) r1.ep (r1.nest : Int) r1.err r1.pos) 39 := by rw [hW16]; exact Blk.new W14 _ _
    have hz16 : W14.heap.size + 1 ≤ W16.heap.size := by rw [hW16]; simp
    clear hW16
    replace Kp := Kp.later hB
    replace Krc := Krc.later hB
    replace Krn := Krn.later hB
    replace Km := Km.later hB
    replace Td := Td.keeps (w' := W16) ⟨hB.size, fun k hk hkl => hB.block k hkl⟩
    replace Rc := Rc.below (hB.mono (Nat.le_trans hn hB15.size))
    replace Rq2 := Rq2.below (hB.mono (Nat.le_trans hn hB15.size))
    replace Rq6 := Rq6.below (hB.mono (Nat.le_trans hn hB15.size))
    replace Rq14 := Rq14.below (hB.mono (Nat.le_trans hn hB15.size))
    have hs17 := hB.size
    have hB17 := hB15.trans (hB.mono hB15.size)
    clear hB hB15
    have Kq := KN
    clear KN
    obtain ⟨⟨p0, p1, p2, p3, p4, p5, p6, p7⟩, pf0, pf1, pf2, pf3, pf4, pf5, pf6, pf7⟩ := cells8 Kp
    obtain ⟨⟨rc0, rc1, rc2, rc3, rc4, rc5, rc6, rc7⟩, rcf0, rcf1, rcf2, rcf3, rcf4, rcf5, rcf6, rcf7⟩ := cells8 Krc
    obtain ⟨⟨rn0, rn1, rn2, rn3, rn4⟩, rnf0, rnf1, rnf2, rnf3, rnf4⟩ := cells5 Krn
    obtain ⟨⟨m0, m1, m2, m3, m4⟩, mf0, mf1, mf2, mf3, mf4⟩ := cells5 Km
    obtain ⟨⟨q0, q1, q2, q3, q4, q5, q6, q7⟩, qf0, qf1, qf2, qf3, qf4, qf5, qf6, qf7⟩ := cells8 Kq
    go_upto_region 8 with fail
    clear p0 p1 p2 p3 p4 p5 p6 p7 pf0 pf1 pf2 pf3 pf4 pf5 pf6 pf7 rc0 rc1 rc2 rc3 rc4 rc5 rc6 rc7 rcf0 rcf1 rcf2 rcf3 rcf4 rcf5 rcf6 rcf7 rn0 rn1 rn2 rn3 rn4 rnf0 rnf1 rnf2 rnf3 rnf4 m0 m1 m2 m3 m4 mf0 mf1 mf2 mf3 mf4 q0 q1 q2 q3 q4 q5 q6 q7 qf0 qf1 qf2 qf3 qf4 qf5 qf6 qf7
    obtain ⟨cL, hE⟩ : ∃ q, q = r1.leave := ⟨_, rfl⟩
    rw [← hE] at HQ
    have HL : ∀ wx, Below W16.heap.size W16 wx → Calls Try.prog 45 #[.agg (refC (.slice a14 ln14 cap14) r1.ep (r1.nest : Int) r1.err r1.pos)] wx (fun e w' => ∃ a5 ln5 cap5, e = .returned (.agg (refC (.slice a5 ln5 cap5) cL.ep (cL.nest : Int) cL.err cL.pos)) ∧ Hid (WRow n w' (.slice a5 ln5 cap5) (cL.ws.drop cL.at')) ∧ Below W16.heap.size W16 w') := by
      intro wx hb
      have hs := hB17.size
      have := refleave_any (RefIs.mk (Rq14.below (hb.mono (Nat.le_trans hn hs)))) (Nat.le_trans (Nat.le_trans hn hs) hb.size) HRO.out
      rw [← hE] at this
      refine this.mono ?_
      rintro e w5 ⟨x5, rfl, hx, hB⟩
      obtain ⟨a5, ln5, cap5, rfl, hr5, -⟩ := hx.shape
      exact ⟨a5, ln5, cap5, rfl, hr5, hb.trans (hB.mono hb.size)⟩
    have EL := Lib.hid hE
    clear hE
    obtain ⟨⟨p0, p1, p2, p3, p4, p5, p6, p7⟩, pf0, pf1, pf2, pf3, pf4, pf5, pf6, pf7⟩ := cells8 Kp
    obtain ⟨⟨rc0, rc1, rc2, rc3, rc4, rc5, rc6, rc7⟩, rcf0, rcf1, rcf2, rcf3, rcf4, rcf5, rcf6, rcf7⟩ := cells8 Krc
    obtain ⟨⟨rn0, rn1, rn2, rn3, rn4⟩, rnf0, rnf1, rnf2, rnf3, rnf4⟩ := cells5 Krn
    obtain ⟨⟨m0, m1, m2, m3, m4⟩, mf0, mf1, mf2, mf3, mf4⟩ := cells5 Km
    obtain ⟨⟨q0, q1, q2, q3, q4, q5, q6, q7⟩, qf0, qf1, qf2, qf3, qf4, qf5, qf6, qf7⟩ := cells8 Kq
    have dmrc : W6.heap.size ≠ w.heap.size + 1 := by omega
    have emrc : w.heap.size + 1 ≠ W6.heap.size := by omega
    have dmrn : W6.heap.size ≠ w.heap.size + 1 + 1 := by omega
    have emrn : w.heap.size + 1 + 1 ≠ W6.heap.size := by omega
    have drcrn : w.heap.size + 1 ≠ w.heap.size + 1 + 1 := by omega
    have ercrn : w.heap.size + 1 + 1 ≠ w.heap.size + 1 := by omega
    go_region_with (go_at_call 45; refine (HL _ ?_).mono ?_; (first | exact Below.refl _ _ | exact (Below.refl _ _).drew); rintro e w5 ⟨a5, ln5, cap5, rfl, hr5, hacc⟩; obtain ⟨⟨rcq0, rcq1, rcq2, rcq3, rcq4, rcq5, rcq6, rcq7⟩, rcqf0, rcqf1, rcqf2, rcqf3, rcqf4, rcqf5, rcqf6, rcqf7⟩ := cells8 (Krc.later hacc); obtain ⟨⟨rnq0, rnq1, rnq2, rnq3, rnq4⟩, rnqf0, rnqf1, rnqf2, rnqf3, rnqf4⟩ := cells5 (Krn.later hacc); obtain ⟨⟨mq0, mq1, mq2, mq3, mq4⟩, mqf0, mqf1, mqf2, mqf3, mqf4⟩ := cells5 (Km.later hacc))
    all_goals (
      obtain ⟨V7, hV7, KC, hP7⟩ := c_put (Krc.later hacc) (.slice a5 ln5 cap5) cL.ep (cL.nest : Int) cL.err cL.pos
      obtain ⟨V8, hV8, KN, hP8⟩ := n_put (z := zN) (hP7.blk (Krn.later hacc) (by omega)) ⟨dk, r2.pos, dn, dt, dq, dl, dc⟩
      dsimp only [zN] at hV8 KN
      rw [← hV7, ← hV8]
      have KC := hP8.blk KC (by omega)
      clear hV7 hV8 p0 p1 p2 p3 p4 p5 p6 p7 pf0 pf1 pf2 pf3 pf4 pf5 pf6 pf7 rc0 rc1 rc2 rc3 rc4 rc5 rc6 rc7 rcf0 rcf1 rcf2 rcf3 rcf4 rcf5 rcf6 rcf7 rn0 rn1 rn2 rn3 rn4 rnf0 rnf1 rnf2 rnf3 rnf4 m0 m1 m2 m3 m4 mf0 mf1 mf2 mf3 mf4 q0 q1 q2 q3 q4 q5 q6 q7 qf0 qf1 qf2 qf3 qf4 qf5 qf6 qf7
      go_wp2_with fail
      obtain ⟨⟨y0, y1, y2, y3, y4, y5, y6, y7⟩, -⟩ := cells8 KC
      obtain ⟨⟨z0, z1, z2, z3, z4⟩, -⟩ := cells5 KN
      refine bodyPost_ret (v := .tuple #[.agg (refC (.slice a5 ln5 cap5) cL.ep (cL.nest : Int) cL.err cL.pos), NC.val ⟨dk, r2.pos, dn, dt, dq, dl, dc⟩]) (by simp [results, Try.results21, go_sem, y0, y1, y2, y3, y4, y5, y6, y7, z0, z1, z2, z3, z4, NC.val]) rfl ⟨_, ⟨dk, r2.pos, dn, dt, dq, dl, dc⟩, rfl, ?_, ?_, hP8.below _ _ (by omega) (hP7.below _ _ (by omega) (hB17.trans (hacc.mono hB17.size)))⟩
      · rw [HQ.out]; exact RefIs.mk (hP8.row (hP7.row hr5.out (by omega)) (by omega))
      · rw [HQ.out]; exact (hP8.node (hP7.node (Td.keeps ⟨hacc.size, fun q hq hql => hacc.block q hql⟩) (by omega)) (by omega)).mono fun q hq _ => by omega)
  | true =>
    have HQ : Hid (atBody (r1, r2) wr = ((wr (r1.take [45, 62])).1.leave, .mk 2 r2.pos 0 [45, 62] [r2, (wr (r1.take [45, 62])).2])) := by show _ = _; unfold atBody; dsimp only; rw [if_pos hi]
    have HA := Lib.hid (HWH.out hi)
    have HO := Lib.hid (HWO.out hi)
    have HC := reftake_l (RefIs.mk Rq6) (Nat.le_trans hn hB13.size) [45, 62]
    obtain ⟨c18, hE⟩ : ∃ q, q = r1.take [45, 62] := ⟨_, rfl⟩
    rw [← hE] at HC
    rw [hi] at HC
    have E18 := Lib.hid hE
    clear hE
    obtain ⟨⟨p0, p1, p2, p3, p4, p5, p6, p7⟩, pf0, pf1, pf2, pf3, pf4, pf5, pf6, pf7⟩ := cells8 Kp
    obtain ⟨⟨rc0, rc1, rc2, rc3, rc4, rc5, rc6, rc7⟩, rcf0, rcf1, rcf2, rcf3, rcf4, rcf5, rcf6, rcf7⟩ := cells8 Krc
    obtain ⟨⟨rn0, rn1, rn2, rn3, rn4⟩, rnf0, rnf1, rnf2, rnf3, rnf4⟩ := cells5 Krn
    obtain ⟨⟨m0, m1, m2, m3, m4⟩, mf0, mf1, mf2, mf3, mf4⟩ := cells5 Km
    go_wp2_with fail
    refine HC.mono ?_; rintro e W18 ⟨x', rfl, hx, hB⟩
    clear HC
    obtain ⟨a18, ln18, cap18, rfl, hRq, -⟩ := hx.shape
    have Rq18 := hRq.out
    clear hx hRq
    clear p0 p1 p2 p3 p4 p5 p6 p7 pf0 pf1 pf2 pf3 pf4 pf5 pf6 pf7 rc0 rc1 rc2 rc3 rc4 rc5 rc6 rc7 rcf0 rcf1 rcf2 rcf3 rcf4 rcf5 rcf6 rcf7 rn0 rn1 rn2 rn3 rn4 rnf0 rnf1 rnf2 rnf3 rnf4 m0 m1 m2 m3 m4 mf0 mf1 mf2 mf3 mf4
    replace Kp := Kp.later hB
    replace Krc := Krc.later hB
    replace Krn := Krn.later hB
    replace Km := Km.later hB
    replace Td := Td.keeps (w' := W18) ⟨hB.size, fun k hk hkl => hB.block k hkl⟩
    replace Rc := Rc.below (hB.mono (Nat.le_trans hn hB13.size))
    replace Rq2 := Rq2.below (hB.mono (Nat.le_trans hn hB13.size))
    replace Rq6 := Rq6.below (hB.mono (Nat.le_trans hn hB13.size))
    have hs19 := hB.size
    have hB19 := hB13.trans (hB.mono hB13.size)
    clear hB hB13
    clear hi
    rw [← E18.out] at HQ HA HO
    go_upto_region 4 with fail
    replace Td := Td.mono (S' := (fun q => w.heap.size + 1 + 1 + 1 ≤ q ∧ q ≠ W6.heap.size ∧ q ≠ W18.heap.size)) fun q hq hl => ⟨by omega, by omega, by omega⟩
    obtain ⟨W20, hW20⟩ : ∃ x, x = W18.alloc (.cells (refC (.slice a18 ln18 cap18) c18.ep (c18.nest : Int) c18.err c18.pos) 39) := ⟨_, rfl⟩
    rw [← hW20]
    have hB : Below W18.heap.size W18 W20 := by rw [hW20]; exact (Below.refl _ _).alloc (Nat.le_refl _) _
    have KN : Blk W20 W18.heap.size (refC (.slice a18 ln18 cap18) c18.ep (c18.nest : Int) c18.err c18.pos) 39 := by rw [hW20]; exact Blk.new W18 _ _
    have hz20 : W18.heap.size + 1 ≤ W20.heap.size := by rw [hW20]; simp
    clear hW20
    replace Kp := Kp.later hB
    replace Krc := Krc.later hB
    replace Krn := Krn.later hB
    replace Km := Km.later hB
    replace Td := Td.keeps (w' := W20) ⟨hB.size, fun k hk hkl => hB.block k hkl⟩
    replace Rc := Rc.below (hB.mono (Nat.le_trans hn hB19.size))
    replace Rq2 := Rq2.below (hB.mono (Nat.le_trans hn hB19.size))
    replace Rq6 := Rq6.below (hB.mono (Nat.le_trans hn hB19.size))
    replace Rq18 := Rq18.below (hB.mono (Nat.le_trans hn hB19.size))
    have hs21 := hB.size
    have hB21 := hB19.trans (hB.mono hB19.size)
    clear hB hB19
    have Kq := KN
    clear KN
    have HC := HA.out _ _ (RefIs.mk Rq18) (Nat.le_trans hn hB21.size)
    obtain ⟨c22, hE⟩ : ∃ q, q = (wr c18).1 := ⟨_, rfl⟩
    have E22 := Lib.hid hE
    clear hE
    obtain ⟨⟨p0, p1, p2, p3, p4, p5, p6, p7⟩, pf0, pf1, pf2, pf3, pf4, pf5, pf6, pf7⟩ := cells8 Kp
    obtain ⟨⟨rc0, rc1, rc2, rc3, rc4, rc5, rc6, rc7⟩, rcf0, rcf1, rcf2, rcf3, rcf4, rcf5, rcf6, rcf7⟩ := cells8 Krc
    obtain ⟨⟨rn0, rn1, rn2, rn3, rn4⟩, rnf0, rnf1, rnf2, rnf3, rnf4⟩ := cells5 Krn
    obtain ⟨⟨m0, m1, m2, m3, m4⟩, mf0, mf1, mf2, mf3, mf4⟩ := cells5 Km
    obtain ⟨⟨q0, q1, q2, q3, q4, q5, q6, q7⟩, qf0, qf1, qf2, qf3, qf4, qf5, qf6, qf7⟩ := cells8 Kq
    go_wp2_with fail
    refine HC.mono ?_; rintro e W22 ⟨x', e, rfl, hx, he, hB⟩
    clear HC
    rw [← E22.out] at hx
    obtain ⟨a22, ln22, cap22, rfl, hRq, -⟩ := hx.shape
    have Rq22 := hRq.out
    clear hx hRq
    clear p0 p1 p2 p3 p4 p5 p6 p7 pf0 pf1 pf2 pf3 pf4 pf5 pf6 pf7 rc0 rc1 rc2 rc3 rc4 rc5 rc6 rc7 rcf0 rcf1 rcf2 rcf3 rcf4 rcf5 rcf6 rcf7 rn0 rn1 rn2 rn3 rn4 rnf0 rnf1 rnf2 rnf3 rnf4 m0 m1 m2 m3 m4 mf0 mf1 mf2 mf3 mf4 q0 q1 q2 q3 q4 q5 q6 q7 qf0 qf1 qf2 qf3 qf4 qf5 qf6 qf7
    replace Kp := Kp.later hB
    replace Krc := Krc.later hB
    replace Krn := Krn.later hB
    replace Km := Km.later hB
    replace Kq := Kq.later hB
    replace Td := Td.keeps (w' := W22) ⟨hB.size, fun k hk hkl => hB.block k hkl⟩
    replace Rc := Rc.below (hB.mono (Nat.le_trans hn hB21.size))
    replace Rq2 := Rq2.below (hB.mono (Nat.le_trans hn hB21.size))
    replace Rq6 := Rq6.below (hB.mono (Nat.le_trans hn hB21.size))
    replace Rq18 := Rq18.below (hB.mono (Nat.le_trans hn hB21.size))
    have hs23 := hB.size
    have hB23 := hB21.trans (hB.mono hB21.size)
    clear hB hB21
    rw [← E22.out] at HQ HO
    obtain ⟨ek, ep, en, et, eq, el, ec⟩ := e
    unfold NC.val
    have Te := he.mono (S' := (fun q => w.heap.size + 1 + 1 + 1 ≤ q ∧ q ≠ W6.heap.size ∧ q ≠ W18.heap.size)) fun q hq hl => ⟨by omega, by omega, by omega⟩
    clear he
    go_upto_region 6 with fail
    replace Td := Td.mono (S' := (fun q => w.heap.size + 1 + 1 + 1 ≤ q ∧ q ≠ W6.heap.size ∧ q ≠ W18.heap.size ∧ q ≠ W22.heap.size ∧ q ≠ W22.heap.size + 1)) fun q hq hl => ⟨by omega, by omega, by omega, by omega, by omega⟩
    replace Te := Te.mono (S' := (fun q => w.heap.size + 1 + 1 + 1 ≤ q ∧ q ≠ W6.heap.size ∧ q ≠ W18.heap.size ∧ q ≠ W22.heap.size ∧ q ≠ W22.heap.size + 1)) fun q hq hl => ⟨by omega, by omega, by omega, by omega, by omega⟩
    obtain ⟨W24, hV⟩ : ∃ x, x = (W22.alloc (.cells (refC (.slice a22 ln22 cap22) c22.ep (c22.nest : Int) c22.err c22.pos) 39)).alloc (.cells #[.int .i64 ek, .int .i64 ep, .int .i64 en, .string ⟨et.toArray⟩, .slice eq el ec] 25) := ⟨_, rfl⟩
    rw [← hV]
    have hB : Below W22.heap.size W22 W24 := by rw [hV]; exact ((Below.refl _ _).alloc (Nat.le_refl _) _).alloc (by simp) _
    have KC0 : Blk W24 (W22.heap.size) (refC (.slice a22 ln22 cap22) c22.ep (c22.nest : Int) c22.err c22.pos) 39 := by rw [hV]; exact (Blk.new W22 _ _).later ((Below.refl _ _).alloc (Nat.le_refl _) _)
    have KN0 : Blk W24 (W22.heap.size + 1) #[.int .i64 ek, .int .i64 ep, .int .i64 en, .string ⟨et.toArray⟩, .slice eq el ec] 25 := by rw [hV]; have h0 := Blk.new (W22.alloc (.cells (refC (.slice a22 ln22 cap22) c22.ep (c22.nest : Int) c22.err c22.pos) 39)) #[.int .i64 ek, .int .i64 ep, .int .i64 en, .string ⟨et.toArray⟩, .slice eq el ec] 25; simp only [World.size_alloc] at h0; exact h0
    have hz24 : W22.heap.size + 1 + 1 ≤ W24.heap.size := by rw [hV]; simp
    clear hV
    replace Kp := Kp.later hB
    replace Krc := Krc.later hB
    replace Krn := Krn.later hB
    replace Km := Km.later hB
    replace Kq := Kq.later hB
    replace Td := Td.keeps (w' := W24) ⟨hB.size, fun k hk hkl => hB.block k hkl⟩
    replace Te := Te.keeps (w' := W24) ⟨hB.size, fun k hk hkl => hB.block k hkl⟩
    replace Rc := Rc.below (hB.mono (Nat.le_trans hn hB23.size))
    replace Rq2 := Rq2.below (hB.mono (Nat.le_trans hn hB23.size))
    replace Rq6 := Rq6.below (hB.mono (Nat.le_trans hn hB23.size))
    replace Rq18 := Rq18.below (hB.mono (Nat.le_trans hn hB23.size))
    replace Rq22 := Rq22.below (hB.mono (Nat.le_trans hn hB23.size))
    have hs25 := hB.size
    have hB25 := hB23.trans (hB.mono hB23.size)
    clear hB hB23
    have Kg := KC0
    clear KC0
    have Km2 := KN0
    clear KN0
    obtain ⟨⟨p0, p1, p2, p3, p4, p5, p6, p7⟩, pf0, pf1, pf2, pf3, pf4, pf5, pf6, pf7⟩ := cells8 Kp
    obtain ⟨⟨rc0, rc1, rc2, rc3, rc4, rc5, rc6, rc7⟩, rcf0, rcf1, rcf2, rcf3, rcf4, rcf5, rcf6, rcf7⟩ := cells8 Krc
    obtain ⟨⟨rn0, rn1, rn2, rn3, rn4⟩, rnf0, rnf1, rnf2, rnf3, rnf4⟩ := cells5 Krn
    obtain ⟨⟨m0, m1, m2, m3, m4⟩, mf0, mf1, mf2, mf3, mf4⟩ := cells5 Km
    obtain ⟨⟨q0, q1, q2, q3, q4, q5, q6, q7⟩, qf0, qf1, qf2, qf3, qf4, qf5, qf6, qf7⟩ := cells8 Kq
    obtain ⟨⟨g0, g1, g2, g3, g4, g5, g6, g7⟩, gf0, gf1, gf2, gf3, gf4, gf5, gf6, gf7⟩ := cells8 Kg
    obtain ⟨⟨m20, m21, m22, m23, m24⟩, m2f0, m2f1, m2f2, m2f3, m2f4⟩ := cells5 Km2
    obtain ⟨W26, hW26, KN, hP⟩ := c_put Kq (.slice a22 ln22 cap22) c22.ep (c22.nest : Int) c22.err c22.pos
    replace Kp := hP.blk Kp (by omega)
    replace Krc := hP.blk Krc (by omega)
    replace Krn := hP.blk Krn (by omega)
    replace Km := hP.blk Km (by omega)
    replace Kg := hP.blk Kg (by omega)
    replace Km2 := hP.blk Km2 (by omega)
    replace Td := hP.node Td (by omega)
    replace Te := hP.node Te (by omega)
    replace Rc := hP.row Rc (by omega)
    replace Rq2 := hP.row Rq2 (by omega)
    replace Rq6 := hP.row Rq6 (by omega)
    replace Rq18 := hP.row Rq18 (by omega)
    replace Rq22 := hP.row Rq22 (by omega)
    have hs27 := hP.size
    have hB27 := hP.below _ _ (by omega) hB25
    clear hP hB25
    replace Kq := KN
    clear KN
    go_upto_region 7 with fail
    rw [← hW26]
    clear hW26
    clear p0 p1 p2 p3 p4 p5 p6 p7 pf0 pf1 pf2 pf3 pf4 pf5 pf6 pf7 rc0 rc1 rc2 rc3 rc4 rc5 rc6 rc7 rcf0 rcf1 rcf2 rcf3 rcf4 rcf5 rcf6 rcf7 rn0 rn1 rn2 rn3 rn4 rnf0 rnf1 rnf2 rnf3 rnf4 m0 m1 m2 m3 m4 mf0 mf1 mf2 mf3 mf4 q0 q1 q2 q3 q4 q5 q6 q7 qf0 qf1 qf2 qf3 qf4 qf5 qf6 qf7 g0 g1 g2 g3 g4 g5 g6 g7 gf0 gf1 gf2 gf3 gf4 gf5 gf6 gf7 m20 m21 m22 m23 m24 m2f0 m2f1 m2f2 m2f3 m2f4
    obtain ⟨⟨p0, p1, p2, p3, p4, p5, p6, p7⟩, pf0, pf1, pf2, pf3, pf4, pf5, pf6, pf7⟩ := cells8 Kp
    obtain ⟨⟨rc0, rc1, rc2, rc3, rc4, rc5, rc6, rc7⟩, rcf0, rcf1, rcf2, rcf3, rcf4, rcf5, rcf6, rcf7⟩ := cells8 Krc
    obtain ⟨⟨rn0, rn1, rn2, rn3, rn4⟩, rnf0, rnf1, rnf2, rnf3, rnf4⟩ := cells5 Krn
    obtain ⟨⟨m0, m1, m2, m3, m4⟩, mf0, mf1, mf2, mf3, mf4⟩ := cells5 Km
    obtain ⟨⟨q0, q1, q2, q3, q4, q5, q6, q7⟩, qf0, qf1, qf2, qf3, qf4, qf5, qf6, qf7⟩ := cells8 Kq
    obtain ⟨⟨g0, g1, g2, g3, g4, g5, g6, g7⟩, gf0, gf1, gf2, gf3, gf4, gf5, gf6, gf7⟩ := cells8 Kg
    obtain ⟨⟨m20, m21, m22, m23, m24⟩, m2f0, m2f1, m2f2, m2f3, m2f4⟩ := cells5 Km2
    obtain ⟨W28, hV⟩ : ∃ x, x = W26.alloc (.cells #[.int .i64 dk, .int .i64 r2.pos, .int .i64 dn, .string ⟨dt.toArray⟩, .slice dq dl dc, .int .i64 ek, .int .i64 ep, .int .i64 en, .string ⟨et.toArray⟩, .slice eq el ec] 25) := ⟨_, rfl⟩
    have hB : Below W26.heap.size W26 W28 := by rw [hV]; exact (Below.refl _ _).alloc (Nat.le_refl _) _
    have KL : Blk W28 W26.heap.size #[.int .i64 dk, .int .i64 r2.pos, .int .i64 dn, .string ⟨dt.toArray⟩, .slice dq dl dc, .int .i64 ek, .int .i64 ep, .int .i64 en, .string ⟨et.toArray⟩, .slice eq el ec] 25 := by rw [hV]; exact Blk.new W26 _ _
    have hz28 : W26.heap.size + 1 ≤ W28.heap.size := by rw [hV]; simp
    have HV := Lib.hid hV
    clear hV
    replace Kp := Kp.later hB
    replace Krc := Krc.later hB
    replace Krn := Krn.later hB
    replace Km := Km.later hB
    replace Kq := Kq.later hB
    replace Kg := Kg.later hB
    replace Km2 := Km2.later hB
    replace Td := Td.keeps (w' := W28) ⟨hB.size, fun k hk hkl => hB.block k hkl⟩
    replace Te := Te.keeps (w' := W28) ⟨hB.size, fun k hk hkl => hB.block k hkl⟩
    replace Rc := Rc.below (hB.mono (Nat.le_trans hn hB27.size))
    replace Rq2 := Rq2.below (hB.mono (Nat.le_trans hn hB27.size))
    replace Rq6 := Rq6.below (hB.mono (Nat.le_trans hn hB27.size))
    replace Rq18 := Rq18.below (hB.mono (Nat.le_trans hn hB27.size))
    replace Rq22 := Rq22.below (hB.mono (Nat.le_trans hn hB27.size))
    have hs29 := hB.size
    have hB29 := hB27.trans (hB.mono hB27.size)
    clear hB hB27
    have TT := two_node KL (S := (fun q => w.heap.size + 1 + 1 + 1 ≤ q ∧ q ≠ W6.heap.size ∧ q ≠ W18.heap.size ∧ q ≠ W22.heap.size ∧ q ≠ W22.heap.size + 1)) ⟨by omega, by omega, by omega, by omega, by omega⟩ Td Te 2 r2.pos 0 [45, 62]
    have Mm := Km
    rw [HV.out] at Mm
    obtain ⟨⟨m0', m1', m2', m3', m4'⟩, mf0', mf1', mf2', mf3', mf4'⟩ := cells5 Mm
    obtain ⟨W98, hW98, KN, hP⟩ := n_put (z := ⟨dk, r2.pos, dn, dt, dq, dl, dc⟩) Km ⟨2, r2.pos, 0, [45, 62], some ⟨W26.heap.size, 0, none⟩, 2, 2⟩
    dsimp only at hW98 KN
    have TT := hP.node TT (by omega)
    replace Kp := hP.blk Kp (by omega)
    replace Krc := hP.blk Krc (by omega)
    replace Krn := hP.blk Krn (by omega)
    replace Kq := hP.blk Kq (by omega)
    replace Kg := hP.blk Kg (by omega)
    replace Km2 := hP.blk Km2 (by omega)
    replace Rc := hP.row Rc (by omega)
    replace Rq2 := hP.row Rq2 (by omega)
    replace Rq6 := hP.row Rq6 (by omega)
    replace Rq18 := hP.row Rq18 (by omega)
    replace Rq22 := hP.row Rq22 (by omega)
    have hs30 := hP.size
    have hB30 := hP.below _ _ (by omega) hB29
    clear hP hB29
    replace Km := KN
    clear KN
    go_upto_region 8 with fail
    rw [← HV.out, ← hW98]
    clear HV hW98 Mm KL m0' m1' m2' m3' m4' mf0' mf1' mf2' mf3' mf4' p0 p1 p2 p3 p4 p5 p6 p7 pf0 pf1 pf2 pf3 pf4 pf5 pf6 pf7 rc0 rc1 rc2 rc3 rc4 rc5 rc6 rc7 rcf0 rcf1 rcf2 rcf3 rcf4 rcf5 rcf6 rcf7 rn0 rn1 rn2 rn3 rn4 rnf0 rnf1 rnf2 rnf3 rnf4 m0 m1 m2 m3 m4 mf0 mf1 mf2 mf3 mf4 q0 q1 q2 q3 q4 q5 q6 q7 qf0 qf1 qf2 qf3 qf4 qf5 qf6 qf7 g0 g1 g2 g3 g4 g5 g6 g7 gf0 gf1 gf2 gf3 gf4 gf5 gf6 gf7 m20 m21 m22 m23 m24 m2f0 m2f1 m2f2 m2f3 m2f4
    obtain ⟨cL, hE⟩ : ∃ q, q = c22.leave := ⟨_, rfl⟩
    rw [← hE] at HQ
    have HL : ∀ wx, Below W98.heap.size W98 wx → Calls Try.prog 45 #[.agg (refC (.slice a22 ln22 cap22) c22.ep (c22.nest : Int) c22.err c22.pos)] wx (fun e w' => ∃ a5 ln5 cap5, e = .returned (.agg (refC (.slice a5 ln5 cap5) cL.ep (cL.nest : Int) cL.err cL.pos)) ∧ Hid (WRow n w' (.slice a5 ln5 cap5) (cL.ws.drop cL.at')) ∧ Below W98.heap.size W98 w') := by
      intro wx hb
      have hs := hB30.size
      have := refleave_any (RefIs.mk (Rq22.below (hb.mono (Nat.le_trans hn hs)))) (Nat.le_trans (Nat.le_trans hn hs) hb.size) HO.out
      rw [← hE] at this
      refine this.mono ?_
      rintro e w5 ⟨x5, rfl, hx, hB⟩
      obtain ⟨a5, ln5, cap5, rfl, hr5, -⟩ := hx.shape
      exact ⟨a5, ln5, cap5, rfl, hr5, hb.trans (hB.mono hb.size)⟩
    have EL := Lib.hid hE
    clear hE
    obtain ⟨⟨p0, p1, p2, p3, p4, p5, p6, p7⟩, pf0, pf1, pf2, pf3, pf4, pf5, pf6, pf7⟩ := cells8 Kp
    obtain ⟨⟨rc0, rc1, rc2, rc3, rc4, rc5, rc6, rc7⟩, rcf0, rcf1, rcf2, rcf3, rcf4, rcf5, rcf6, rcf7⟩ := cells8 Krc
    obtain ⟨⟨rn0, rn1, rn2, rn3, rn4⟩, rnf0, rnf1, rnf2, rnf3, rnf4⟩ := cells5 Krn
    obtain ⟨⟨m0, m1, m2, m3, m4⟩, mf0, mf1, mf2, mf3, mf4⟩ := cells5 Km
    obtain ⟨⟨q0, q1, q2, q3, q4, q5, q6, q7⟩, qf0, qf1, qf2, qf3, qf4, qf5, qf6, qf7⟩ := cells8 Kq
    obtain ⟨⟨g0, g1, g2, g3, g4, g5, g6, g7⟩, gf0, gf1, gf2, gf3, gf4, gf5, gf6, gf7⟩ := cells8 Kg
    obtain ⟨⟨m20, m21, m22, m23, m24⟩, m2f0, m2f1, m2f2, m2f3, m2f4⟩ := cells5 Km2
    have dmrc : W6.heap.size ≠ w.heap.size + 1 := by omega
    have emrc : w.heap.size + 1 ≠ W6.heap.size := by omega
    have dmrn : W6.heap.size ≠ w.heap.size + 1 + 1 := by omega
    have emrn : w.heap.size + 1 + 1 ≠ W6.heap.size := by omega
    have drcrn : w.heap.size + 1 ≠ w.heap.size + 1 + 1 := by omega
    have ercrn : w.heap.size + 1 + 1 ≠ w.heap.size + 1 := by omega
    go_region_with (go_at_call 45; refine (HL _ ?_).mono ?_; (first | exact Below.refl _ _ | exact (Below.refl _ _).drew); rintro e w5 ⟨a5, ln5, cap5, rfl, hr5, hacc⟩; obtain ⟨⟨rcq0, rcq1, rcq2, rcq3, rcq4, rcq5, rcq6, rcq7⟩, rcqf0, rcqf1, rcqf2, rcqf3, rcqf4, rcqf5, rcqf6, rcqf7⟩ := cells8 (Krc.later hacc); obtain ⟨⟨rnq0, rnq1, rnq2, rnq3, rnq4⟩, rnqf0, rnqf1, rnqf2, rnqf3, rnqf4⟩ := cells5 (Krn.later hacc); obtain ⟨⟨mq0, mq1, mq2, mq3, mq4⟩, mqf0, mqf1, mqf2, mqf3, mqf4⟩ := cells5 (Km.later hacc))
    all_goals (
      obtain ⟨V7, hV7, KC, hP7⟩ := c_put (Krc.later hacc) (.slice a5 ln5 cap5) cL.ep (cL.nest : Int) cL.err cL.pos
      obtain ⟨V8, hV8, KN, hP8⟩ := n_put (z := zN) (hP7.blk (Krn.later hacc) (by omega)) ⟨2, r2.pos, 0, [45, 62], some ⟨W26.heap.size, 0, none⟩, 2, 2⟩
      dsimp only [zN] at hV8 KN
      rw [← hV7, ← hV8]
      have KC := hP8.blk KC (by omega)
      clear hV7 hV8 p0 p1 p2 p3 p4 p5 p6 p7 pf0 pf1 pf2 pf3 pf4 pf5 pf6 pf7 rc0 rc1 rc2 rc3 rc4 rc5 rc6 rc7 rcf0 rcf1 rcf2 rcf3 rcf4 rcf5 rcf6 rcf7 rn0 rn1 rn2 rn3 rn4 rnf0 rnf1 rnf2 rnf3 rnf4 m0 m1 m2 m3 m4 mf0 mf1 mf2 mf3 mf4 q0 q1 q2 q3 q4 q5 q6 q7 qf0 qf1 qf2 qf3 qf4 qf5 qf6 qf7 g0 g1 g2 g3 g4 g5 g6 g7 gf0 gf1 gf2 gf3 gf4 gf5 gf6 gf7 m20 m21 m22 m23 m24 m2f0 m2f1 m2f2 m2f3 m2f4
      go_wp2_with fail
      obtain ⟨⟨y0, y1, y2, y3, y4, y5, y6, y7⟩, -⟩ := cells8 KC
      obtain ⟨⟨z0, z1, z2, z3, z4⟩, -⟩ := cells5 KN
      refine bodyPost_ret (v := .tuple #[.agg (refC (.slice a5 ln5 cap5) cL.ep (cL.nest : Int) cL.err cL.pos), NC.val ⟨2, r2.pos, 0, [45, 62], some ⟨W26.heap.size, 0, none⟩, 2, 2⟩]) (by simp [results, Try.results21, go_sem, y0, y1, y2, y3, y4, y5, y6, y7, z0, z1, z2, z3, z4, NC.val]) rfl ⟨_, ⟨2, r2.pos, 0, [45, 62], some ⟨W26.heap.size, 0, none⟩, 2, 2⟩, rfl, ?_, ?_, hP8.below _ _ (by omega) (hP7.below _ _ (by omega) (hB30.trans (hacc.mono hB30.size)))⟩
      · rw [HQ.out]; exact RefIs.mk (hP8.row (hP7.row hr5.out (by omega)) (by omega))
      · rw [HQ.out]; exact (hP8.node (hP7.node (TT.keeps ⟨hacc.size, fun q hq hql => hacc.block q hql⟩) (by omega)) (by omega)).mono fun q hq _ => by omega)
end Go.Proofs.Ytlammclbnihopaa.N7
