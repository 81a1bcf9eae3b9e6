/- The document's readers: atoms. -/
import Derived.Test.YtlammclbnihopaaPtyRefA
namespace Go.Proofs.Ytlammclbnihopaa.N7
open Go.RowKit N5 N6

attribute [local go_sem] fld0 fld1
set_option maxRecDepth 100000 in
set_option maxHeartbeats 4000000 in
theorem refatom_any {wr : Cu → Cu × Nd} {n k : Nat} {w : World} {x : Value} {c : Cu} (h : RefIs n w x c) (hn : n ≤ w.heap.size) (hok : CuOk c) (hf : ∀ c, 200 ≤ c.nest + k ∨ c.err ≠ 0 → Fine c (wr c).1) (hwh : c.err = 0 → ∀ (c : Cu) (W : World) (x : Value), 200 ≤ c.nest + k ∨ c.err ≠ 0 → CuOk c → RefIs n W x c → n ≤ W.heap.size → Calls Try.prog 21 #[x] W (RefRead n (wr c) W)) (hk : 200 ≤ c.nest + (k + 1) ∨ c.err ≠ 0) : Calls Try.prog 17 #[x] w (RefRead n (atomR wr c) w) := by
  have HWH := Lib.hid hwh
  have HK := Lib.hid hk
  have HOK := Lib.hid hok
  replace hf := Lib.hid hf
  clear hwh hk hok
  obtain ⟨a, ln, cap, rfl, hr, -⟩ := h.shape
  clear h
  obtain ⟨W1, hW1⟩ : ∃ W1, W1 = (((w.alloc (.cells (refC (.slice a ln cap) c.ep (c.nest : Int) c.err c.pos) 39)).alloc (.cells (refC (.slice none 0 0) 0 0 0 0) 39)).alloc (.cells #[.int .i64 0, .int .i64 0, .int .i64 0, .string ⟨#[]⟩, .slice none 0 0] 25)) := ⟨_, rfl⟩
  have hsz : w.heap.size + 1 + 1 + 1 ≤ W1.heap.size := by rw [hW1]; simp
  have Kp : Blk W1 (w.heap.size) (refC (.slice a ln cap) c.ep (c.nest : Int) c.err c.pos) 39 := by rw [hW1]; have h0 := Blk.new w (refC (.slice a ln cap) c.ep (c.nest : Int) c.err c.pos) 39; (try simp only [World.size_alloc] at h0); exact ((h0.later ((Below.refl _ _).alloc (Nat.le_refl _) _)).later ((Below.refl _ _).alloc (Nat.le_refl _) _))
  have Krc : Blk W1 (w.heap.size + 1) (refC (.slice none 0 0) 0 0 0 0) 39 := by rw [hW1]; have h0 := Blk.new (w.alloc (.cells (refC (.slice a ln cap) c.ep (c.nest : Int) c.err c.pos) 39)) (refC (.slice none 0 0) 0 0 0 0) 39; (try simp only [World.size_alloc] at h0); exact (h0.later ((Below.refl _ _).alloc (Nat.le_refl _) _))
  have Krn : Blk W1 (w.heap.size + 1 + 1) #[.int .i64 0, .int .i64 0, .int .i64 0, .string ⟨#[]⟩, .slice none 0 0] 25 := by rw [hW1]; have h0 := Blk.new ((w.alloc (.cells (refC (.slice a ln cap) c.ep (c.nest : Int) c.err c.pos) 39)).alloc (.cells (refC (.slice none 0 0) 0 0 0 0) 39)) #[.int .i64 0, .int .i64 0, .int .i64 0, .string ⟨#[]⟩, .slice none 0 0] 25; (try simp only [World.size_alloc] at h0); exact h0
  have hB1 : Below w.heap.size w W1 := by rw [hW1]; exact ((((Below.refl _ w).alloc (by simp; try omega) _).alloc (by simp; try omega) _).alloc (by simp; try omega) _)
  have Rc : WRow n W1 (.slice a ln cap) (c.ws.drop c.at') := hr.out.below (hB1.mono hn)
  have HW1 := Lib.hid hW1
  clear hW1 hr
  go_enter Try.func17, Try.ntmps17
  go_upto_region 1 with fail
  rw [← HW1.out]
  clear HW1
  obtain ⟨⟨tk, tp, tn, tt⟩, hT⟩ : ∃ t, t = c.peek := ⟨_, rfl⟩
  have HT := Lib.hid hT
  clear hT
  have HC := refpeek_l (RefIs.mk Rc) (Nat.le_trans hn hB1.size)
  rw [← HT.out] at HC
  obtain ⟨⟨p0, p1, p2, p3, p4, p5, p6, p7⟩, pf0, pf1, pf2, pf3, pf4, pf5, pf6, pf7⟩ := cells8 Kp
  obtain ⟨⟨rc0, rc1, rc2, rc3, rc4, rc5, rc6, rc7⟩, rcf0, rcf1, rcf2, rcf3, rcf4, rcf5, rcf6, rcf7⟩ := cells8 Krc
  obtain ⟨⟨rn0, rn1, rn2, rn3, rn4⟩, rnf0, rnf1, rnf2, rnf3, rnf4⟩ := cells5 Krn
  go_wp2_with fail
  refine HC.mono ?_; rintro e W2 ⟨rfl, hB⟩
  clear HC
  clear p0 p1 p2 p3 p4 p5 p6 p7 pf0 pf1 pf2 pf3 pf4 pf5 pf6 pf7 rc0 rc1 rc2 rc3 rc4 rc5 rc6 rc7 rcf0 rcf1 rcf2 rcf3 rcf4 rcf5 rcf6 rcf7 rn0 rn1 rn2 rn3 rn4 rnf0 rnf1 rnf2 rnf3 rnf4
  replace Kp := Kp.later hB
  replace Krc := Krc.later hB
  replace Krn := Krn.later hB
  replace Rc := Rc.below (hB.mono (Nat.le_trans hn hB1.size))
  have hs3 := hB.size
  have hB3 := hB1.trans (hB.mono hB1.size)
  clear hB hB1
  go_upto_region 2 with fail
  obtain ⟨W4, hW4⟩ : ∃ x, x = W2.alloc (.cells #[.int .i64 tk, .int .i64 tp, .int .i64 tn, .string ⟨tt.toArray⟩] 37) := ⟨_, rfl⟩
  rw [← hW4]
  have hB : Below W2.heap.size W2 W4 := by rw [hW4]; exact (Below.refl _ _).alloc (Nat.le_refl _) _
  have KN : Blk W4 W2.heap.size #[.int .i64 tk, .int .i64 tp, .int .i64 tn, .string ⟨tt.toArray⟩] 37 := by rw [hW4]; exact Blk.new W2 _ _
  have hz4 : W2.heap.size + 1 ≤ W4.heap.size := by rw [hW4]; simp
  clear hW4
  replace Kp := Kp.later hB
  replace Krc := Krc.later hB
  replace Krn := Krn.later hB
  replace Rc := Rc.below (hB.mono (Nat.le_trans hn hB3.size))
  have hs5 := hB.size
  have hB5 := hB3.trans (hB.mono hB3.size)
  clear hB hB3
  have Kt := KN
  clear KN
  by_cases he : c.err = 0
  case neg =>
    have hb : (c.err != 0) = true := by rw [bne_iff_ne]; exact he
    have HQ : Hid (atomR wr c = (c, zNd)) := by show _ = _; unfold atomR; rw [if_pos he]
    clear he
    obtain ⟨⟨p0, p1, p2, p3, p4, p5, p6, p7⟩, pf0, pf1, pf2, pf3, pf4, pf5, pf6, pf7⟩ := cells8 Kp
    obtain ⟨⟨rc0, rc1, rc2, rc3, rc4, rc5, rc6, rc7⟩, rcf0, rcf1, rcf2, rcf3, rcf4, rcf5, rcf6, rcf7⟩ := cells8 Krc
    obtain ⟨⟨rn0, rn1, rn2, rn3, rn4⟩, rnf0, rnf1, rnf2, rnf3, rnf4⟩ := cells5 Krn
    obtain ⟨t0, t1, t2, t3⟩ := cells4 Kt
    obtain ⟨W6, hW6, KN, hP⟩ := c_put Krc (.slice a ln cap) c.ep (c.nest : Int) c.err c.pos
    replace Kp := hP.blk Kp (by omega)
    replace Krn := hP.blk Krn (by omega)
    replace Kt := hP.blk Kt (by omega)
    replace Rc := hP.row Rc (by omega)
    have hs7 := hP.size
    have hB7 := hP.below _ _ (by omega) hB5
    clear hP hB5
    replace Krc := KN
    clear KN
    obtain ⟨W8, hW8, KN, hP⟩ := n_put (z := zN) Krn zN
    replace Kp := hP.blk Kp (by omega)
    replace Krc := hP.blk Krc (by omega)
    replace Kt := hP.blk Kt (by omega)
    replace Rc := hP.row Rc (by omega)
    have hs9 := hP.size
    have hB9 := hP.below _ _ (by omega) hB7
    clear hP hB7
    dsimp only [zN] at hW8 KN
    replace Krn := KN
    clear KN
    go_wp2_with fail
    rw [← hW6, ← hW8]
    obtain ⟨⟨y0, y1, y2, y3, y4, y5, y6, y7⟩, -⟩ := cells8 Krc
    obtain ⟨⟨z0, z1, z2, z3, z4⟩, -⟩ := cells5 Krn
    refine bodyPost_ret (v := .tuple #[.agg (refC (.slice a ln cap) c.ep (c.nest : Int) c.err c.pos), NC.val zN]) (by simp [results, Try.results17, go_sem, y0, y1, y2, y3, y4, y5, y6, y7, z0, z1, z2, z3, z4, NC.val, zN]) rfl ⟨_, zN, rfl, ?_, ?_, hB9⟩
    · rw [HQ.out]; exact RefIs.mk Rc
    · rw [HQ.out]; exact leaf_in _ _ 0 0 0 []
  case pos =>
    have hb : (c.err != 0) = false := by rw [he]; rfl
    have HE := Lib.hid he
    clear he
    by_cases h1 : tk = 1
    case pos =>
      subst h1
      have HQ : Hid (atomR wr c = (c.adv, .mk 1 tp 0 tt [])) := by show _ = _; unfold atomR; rw [← HT.out, if_neg (fun q => q HE.out)]; rfl
      have HC := refnext_l (RefIs.mk Rc) (Nat.le_trans hn hB5.size)
      obtain ⟨c10, hE⟩ : ∃ q, q = c.adv := ⟨_, rfl⟩
      rw [← hE] at HC
      rw [← HT.out] at HC
      have E10 := Lib.hid hE
      clear hE
      obtain ⟨⟨p0, p1, p2, p3, p4, p5, p6, p7⟩, pf0, pf1, pf2, pf3, pf4, pf5, pf6, pf7⟩ := cells8 Kp
      obtain ⟨⟨rc0, rc1, rc2, rc3, rc4, rc5, rc6, rc7⟩, rcf0, rcf1, rcf2, rcf3, rcf4, rcf5, rcf6, rcf7⟩ := cells8 Krc
      obtain ⟨⟨rn0, rn1, rn2, rn3, rn4⟩, rnf0, rnf1, rnf2, rnf3, rnf4⟩ := cells5 Krn
      obtain ⟨t0, t1, t2, t3⟩ := cells4 Kt
      go_wp2_with fail
      refine HC.mono ?_; rintro e W10 ⟨x', rfl, hx, hB⟩
      clear HC
      obtain ⟨a10, ln10, cap10, rfl, hRq, -⟩ := hx.shape
      have Rq10 := hRq.out
      clear hx hRq
      clear p0 p1 p2 p3 p4 p5 p6 p7 pf0 pf1 pf2 pf3 pf4 pf5 pf6 pf7 rc0 rc1 rc2 rc3 rc4 rc5 rc6 rc7 rcf0 rcf1 rcf2 rcf3 rcf4 rcf5 rcf6 rcf7 rn0 rn1 rn2 rn3 rn4 rnf0 rnf1 rnf2 rnf3 rnf4 t0 t1 t2 t3
      replace Kp := Kp.later hB
      replace Krc := Krc.later hB
      replace Krn := Krn.later hB
      replace Kt := Kt.later hB
      replace Rc := Rc.below (hB.mono (Nat.le_trans hn hB5.size))
      have hs11 := hB.size
      have hB11 := hB5.trans (hB.mono hB5.size)
      clear hB hB5
      rw [← E10.out] at HQ
      obtain ⟨⟨p0, p1, p2, p3, p4, p5, p6, p7⟩, pf0, pf1, pf2, pf3, pf4, pf5, pf6, pf7⟩ := cells8 Kp
      obtain ⟨⟨rc0, rc1, rc2, rc3, rc4, rc5, rc6, rc7⟩, rcf0, rcf1, rcf2, rcf3, rcf4, rcf5, rcf6, rcf7⟩ := cells8 Krc
      obtain ⟨⟨rn0, rn1, rn2, rn3, rn4⟩, rnf0, rnf1, rnf2, rnf3, rnf4⟩ := cells5 Krn
      obtain ⟨t0, t1, t2, t3⟩ := cells4 Kt
      obtain ⟨W12, hW12, KN, hP⟩ := c_put Kp (.slice a10 ln10 cap10) c10.ep (c10.nest : Int) c10.err c10.pos
      replace Krc := hP.blk Krc (by omega)
      replace Krn := hP.blk Krn (by omega)
      replace Kt := hP.blk Kt (by omega)
      replace Rc := hP.row Rc (by omega)
      replace Rq10 := hP.row Rq10 (by omega)
      have hs13 := hP.size
      have hB13 := hP.below _ _ (by omega) hB11
      clear hP hB11
      replace Kp := KN
      clear KN
      go_upto_region 6 with fail
      rw [← hW12]
      clear hW12
      clear p0 p1 p2 p3 p4 p5 p6 p7 pf0 pf1 pf2 pf3 pf4 pf5 pf6 pf7 rc0 rc1 rc2 rc3 rc4 rc5 rc6 rc7 rcf0 rcf1 rcf2 rcf3 rcf4 rcf5 rcf6 rcf7 rn0 rn1 rn2 rn3 rn4 rnf0 rnf1 rnf2 rnf3 rnf4 t0 t1 t2 t3
      have n1 : W2.heap.size ≠ w.heap.size := by omega
      have n2 : W2.heap.size ≠ w.heap.size + 1 := by omega
      have n3 : W2.heap.size ≠ w.heap.size + 1 + 1 := by omega
      obtain ⟨⟨p0, p1, p2, p3, p4, p5, p6, p7⟩, pf0, pf1, pf2, pf3, pf4, pf5, pf6, pf7⟩ := cells8 Kp
      obtain ⟨⟨rc0, rc1, rc2, rc3, rc4, rc5, rc6, rc7⟩, rcf0, rcf1, rcf2, rcf3, rcf4, rcf5, rcf6, rcf7⟩ := cells8 Krc
      obtain ⟨⟨rn0, rn1, rn2, rn3, rn4⟩, rnf0, rnf1, rnf2, rnf3, rnf4⟩ := cells5 Krn
      obtain ⟨t0, t1, t2, t3⟩ := cells4 Kt
      obtain ⟨W14, hW14, KN, hP⟩ := c_put Krc (.slice a10 ln10 cap10) c10.ep (c10.nest : Int) c10.err c10.pos
      replace Kp := hP.blk Kp (by omega)
      replace Krn := hP.blk Krn (by omega)
      replace Kt := hP.blk Kt (by omega)
      replace Rc := hP.row Rc (by omega)
      replace Rq10 := hP.row Rq10 (by omega)
      have hs15 := hP.size
      have hB15 := hP.below _ _ (by omega) hB13
      clear hP hB13
      replace Krc := KN
      clear KN
      obtain ⟨W16, hW16, KN, hP⟩ := n_put (z := zN) Krn ⟨1, tp, 0, tt, none, 0, 0⟩
      replace Kp := hP.blk Kp (by omega)
      replace Krc := hP.blk Krc (by omega)
      replace Kt := hP.blk Kt (by omega)
      replace Rc := hP.row Rc (by omega)
      replace Rq10 := hP.row Rq10 (by omega)
      have hs17 := hP.size
      have hB17 := hP.below _ _ (by omega) hB15
      clear hP hB15
      dsimp only [zN] at hW16 KN
      replace Krn := KN
      clear KN
      go_region
      rw [← hW14, ← hW16]
      clear p0 p1 p2 p3 p4 p5 p6 p7 pf0 pf1 pf2 pf3 pf4 pf5 pf6 pf7 rc0 rc1 rc2 rc3 rc4 rc5 rc6 rc7 rcf0 rcf1 rcf2 rcf3 rcf4 rcf5 rcf6 rcf7 rn0 rn1 rn2 rn3 rn4 rnf0 rnf1 rnf2 rnf3 rnf4 t0 t1 t2 t3
      obtain ⟨W18, hW18⟩ : ∃ x, x = W16.drew := ⟨_, rfl⟩
      have hB : Below W16.heap.size W16 W18 := by rw [hW18]; exact (Below.refl _ _).drew
      rw [← hW18]
      clear hW18
      replace Kp := Kp.later hB
      replace Krc := Krc.later hB
      replace Krn := Krn.later hB
      replace Kt := Kt.later hB
      replace Rc := Rc.below (hB.mono (Nat.le_trans hn hB17.size))
      replace Rq10 := Rq10.below (hB.mono (Nat.le_trans hn hB17.size))
      have hs19 := hB.size
      have hB19 := hB17.trans (hB.mono hB17.size)
      clear hB hB17
      go_wp2_with fail
      obtain ⟨⟨y0, y1, y2, y3, y4, y5, y6, y7⟩, -⟩ := cells8 Krc
      obtain ⟨⟨z0, z1, z2, z3, z4⟩, -⟩ := cells5 Krn
      refine bodyPost_ret (v := .tuple #[.agg (refC (.slice a10 ln10 cap10) c10.ep (c10.nest : Int) c10.err c10.pos), NC.val ⟨1, tp, 0, tt, none, 0, 0⟩]) (by simp [results, Try.results17, go_sem, y0, y1, y2, y3, y4, y5, y6, y7, z0, z1, z2, z3, z4, NC.val]) rfl ⟨_, ⟨1, tp, 0, tt, none, 0, 0⟩, rfl, ?_, ?_, hB19⟩
      · rw [HQ.out]; exact RefIs.mk Rq10
      · rw [HQ.out]; exact leaf_in _ _ 1 tp 0 tt
    case neg =>
      by_cases h2 : tk = 2
      case pos =>
        subst h2
        have HQ : Hid (atomR wr c = (c.adv, .mk 2 tp 0 tt [])) := by show _ = _; unfold atomR; rw [← HT.out, if_neg (fun q => q HE.out)]; rfl
        have HC := refnext_l (RefIs.mk Rc) (Nat.le_trans hn hB5.size)
        obtain ⟨c20, hE⟩ : ∃ q, q = c.adv := ⟨_, rfl⟩
        rw [← hE] at HC
        rw [← HT.out] at HC
        have E20 := Lib.hid hE
        clear hE
        obtain ⟨⟨p0, p1, p2, p3, p4, p5, p6, p7⟩, pf0, pf1, pf2, pf3, pf4, pf5, pf6, pf7⟩ := cells8 Kp
        obtain ⟨⟨rc0, rc1, rc2, rc3, rc4, rc5, rc6, rc7⟩, rcf0, rcf1, rcf2, rcf3, rcf4, rcf5, rcf6, rcf7⟩ := cells8 Krc
        obtain ⟨⟨rn0, rn1, rn2, rn3, rn4⟩, rnf0, rnf1, rnf2, rnf3, rnf4⟩ := cells5 Krn
        obtain ⟨t0, t1, t2, t3⟩ := cells4 Kt
        go_wp2_with fail
        refine HC.mono ?_; rintro e W20 ⟨x', rfl, hx, hB⟩
        clear HC
        obtain ⟨a20, ln20, cap20, rfl, hRq, -⟩ := hx.shape
        have Rq20 := hRq.out
        clear hx hRq
        clear p0 p1 p2 p3 p4 p5 p6 p7 pf0 pf1 pf2 pf3 pf4 pf5 pf6 pf7 rc0 rc1 rc2 rc3 rc4 rc5 rc6 rc7 rcf0 rcf1 rcf2 rcf3 rcf4 rcf5 rcf6 rcf7 rn0 rn1 rn2 rn3 rn4 rnf0 rnf1 rnf2 rnf3 rnf4 t0 t1 t2 t3
        replace Kp := Kp.later hB
        replace Krc := Krc.later hB
        replace Krn := Krn.later hB
        replace Kt := Kt.later hB
        replace Rc := Rc.below (hB.mono (Nat.le_trans hn hB5.size))
        have hs21 := hB.size
        have hB21 := hB5.trans (hB.mono hB5.size)
        clear hB hB5
        rw [← E20.out] at HQ
        obtain ⟨⟨p0, p1, p2, p3, p4, p5, p6, p7⟩, pf0, pf1, pf2, pf3, pf4, pf5, pf6, pf7⟩ := cells8 Kp
        obtain ⟨⟨rc0, rc1, rc2, rc3, rc4, rc5, rc6, rc7⟩, rcf0, rcf1, rcf2, rcf3, rcf4, rcf5, rcf6, rcf7⟩ := cells8 Krc
        obtain ⟨⟨rn0, rn1, rn2, rn3, rn4⟩, rnf0, rnf1, rnf2, rnf3, rnf4⟩ := cells5 Krn
        obtain ⟨t0, t1, t2, t3⟩ := cells4 Kt
        obtain ⟨W22, hW22, KN, hP⟩ := c_put Kp (.slice a20 ln20 cap20) c20.ep (c20.nest : Int) c20.err c20.pos
        replace Krc := hP.blk Krc (by omega)
        replace Krn := hP.blk Krn (by omega)
        replace Kt := hP.blk Kt (by omega)
        replace Rc := hP.row Rc (by omega)
        replace Rq20 := hP.row Rq20 (by omega)
        have hs23 := hP.size
        have hB23 := hP.below _ _ (by omega) hB21
        clear hP hB21
        replace Kp := KN
        clear KN
        go_upto_region 9 with fail
        rw [← hW22]
        clear hW22
        clear p0 p1 p2 p3 p4 p5 p6 p7 pf0 pf1 pf2 pf3 pf4 pf5 pf6 pf7 rc0 rc1 rc2 rc3 rc4 rc5 rc6 rc7 rcf0 rcf1 rcf2 rcf3 rcf4 rcf5 rcf6 rcf7 rn0 rn1 rn2 rn3 rn4 rnf0 rnf1 rnf2 rnf3 rnf4 t0 t1 t2 t3
        have n1 : W2.heap.size ≠ w.heap.size := by omega
        have n2 : W2.heap.size ≠ w.heap.size + 1 := by omega
        have n3 : W2.heap.size ≠ w.heap.size + 1 + 1 := by omega
        obtain ⟨⟨p0, p1, p2, p3, p4, p5, p6, p7⟩, pf0, pf1, pf2, pf3, pf4, pf5, pf6, pf7⟩ := cells8 Kp
        obtain ⟨⟨rc0, rc1, rc2, rc3, rc4, rc5, rc6, rc7⟩, rcf0, rcf1, rcf2, rcf3, rcf4, rcf5, rcf6, rcf7⟩ := cells8 Krc
        obtain ⟨⟨rn0, rn1, rn2, rn3, rn4⟩, rnf0, rnf1, rnf2, rnf3, rnf4⟩ := cells5 Krn
        obtain ⟨t0, t1, t2, t3⟩ := cells4 Kt
        obtain ⟨W24, hW24, KN, hP⟩ := c_put Krc (.slice a20 ln20 cap20) c20.ep (c20.nest : Int) c20.err c20.pos
        replace Kp := hP.blk Kp (by omega)
        replace Krn := hP.blk Krn (by omega)
        replace Kt := hP.blk Kt (by omega)
        replace Rc := hP.row Rc (by omega)
        replace Rq20 := hP.row Rq20 (by omega)
        have hs25 := hP.size
        have hB25 := hP.below _ _ (by omega) hB23
        clear hP hB23
        replace Krc := KN
        clear KN
        obtain ⟨W26, hW26, KN, hP⟩ := n_put (z := zN) Krn ⟨2, tp, 0, tt, none, 0, 0⟩
        replace Kp := hP.blk Kp (by omega)
        replace Krc := hP.blk Krc (by omega)
        replace Kt := hP.blk Kt (by omega)
        replace Rc := hP.row Rc (by omega)
        replace Rq20 := hP.row Rq20 (by omega)
        have hs27 := hP.size
        have hB27 := hP.below _ _ (by omega) hB25
        clear hP hB25
        dsimp only [zN] at hW26 KN
        replace Krn := KN
        clear KN
        go_region
        rw [← hW24, ← hW26]
        clear p0 p1 p2 p3 p4 p5 p6 p7 pf0 pf1 pf2 pf3 pf4 pf5 pf6 pf7 rc0 rc1 rc2 rc3 rc4 rc5 rc6 rc7 rcf0 rcf1 rcf2 rcf3 rcf4 rcf5 rcf6 rcf7 rn0 rn1 rn2 rn3 rn4 rnf0 rnf1 rnf2 rnf3 rnf4 t0 t1 t2 t3
        obtain ⟨W28, hW28⟩ : ∃ x, x = W26.drew := ⟨_, rfl⟩
        have hB : Below W26.heap.size W26 W28 := by rw [hW28]; exact (Below.refl _ _).drew
        rw [← hW28]
        clear hW28
        replace Kp := Kp.later hB
        replace Krc := Krc.later hB
        replace Krn := Krn.later hB
        replace Kt := Kt.later hB
        replace Rc := Rc.below (hB.mono (Nat.le_trans hn hB27.size))
        replace Rq20 := Rq20.below (hB.mono (Nat.le_trans hn hB27.size))
        have hs29 := hB.size
        have hB29 := hB27.trans (hB.mono hB27.size)
        clear hB hB27
        go_wp2_with fail
        obtain ⟨⟨y0, y1, y2, y3, y4, y5, y6, y7⟩, -⟩ := cells8 Krc
        obtain ⟨⟨z0, z1, z2, z3, z4⟩, -⟩ := cells5 Krn
        refine bodyPost_ret (v := .tuple #[.agg (refC (.slice a20 ln20 cap20) c20.ep (c20.nest : Int) c20.err c20.pos), NC.val ⟨2, tp, 0, tt, none, 0, 0⟩]) (by simp [results, Try.results17, go_sem, y0, y1, y2, y3, y4, y5, y6, y7, z0, z1, z2, z3, z4, NC.val]) rfl ⟨_, ⟨2, tp, 0, tt, none, 0, 0⟩, rfl, ?_, ?_, hB29⟩
        · rw [HQ.out]; exact RefIs.mk Rq20
        · rw [HQ.out]; exact leaf_in _ _ 2 tp 0 tt
      case neg =>
        cases hi : c.is [40] with
        | false =>
          have HQ : Hid (atomR wr c = (c.fail 5, zNd)) := by show _ = _; unfold atomR; rw [← HT.out, if_neg (fun q => q HE.out), if_neg h1, if_neg h2, hi]; rfl
          have HC := refis_l (RefIs.mk Rc) (Nat.le_trans hn hB5.size) [40]
          rw [hi] at HC
          obtain ⟨⟨p0, p1, p2, p3, p4, p5, p6, p7⟩, pf0, pf1, pf2, pf3, pf4, pf5, pf6, pf7⟩ := cells8 Kp
          obtain ⟨⟨rc0, rc1, rc2, rc3, rc4, rc5, rc6, rc7⟩, rcf0, rcf1, rcf2, rcf3, rcf4, rcf5, rcf6, rcf7⟩ := cells8 Krc
          obtain ⟨⟨rn0, rn1, rn2, rn3, rn4⟩, rnf0, rnf1, rnf2, rnf3, rnf4⟩ := cells5 Krn
          obtain ⟨t0, t1, t2, t3⟩ := cells4 Kt
          go_wp2_with fail
          refine HC.mono ?_; rintro e W30 ⟨rfl, hB⟩
          clear HC
          clear p0 p1 p2 p3 p4 p5 p6 p7 pf0 pf1 pf2 pf3 pf4 pf5 pf6 pf7 rc0 rc1 rc2 rc3 rc4 rc5 rc6 rc7 rcf0 rcf1 rcf2 rcf3 rcf4 rcf5 rcf6 rcf7 rn0 rn1 rn2 rn3 rn4 rnf0 rnf1 rnf2 rnf3 rnf4 t0 t1 t2 t3
          replace Kp := Kp.later hB
          replace Krc := Krc.later hB
          replace Krn := Krn.later hB
          replace Kt := Kt.later hB
          replace Rc := Rc.below (hB.mono (Nat.le_trans hn hB5.size))
          have hs31 := hB.size
          have hB31 := hB5.trans (hB.mono hB5.size)
          clear hB hB5
          have HC := reffail_any (RefIs.mk Rc) (Nat.le_trans hn hB31.size) 5
          obtain ⟨c32, hE⟩ : ∃ q, q = c.fail 5 := ⟨_, rfl⟩
          rw [← hE] at HC
          have E32 := Lib.hid hE
          clear hE
          obtain ⟨⟨p0, p1, p2, p3, p4, p5, p6, p7⟩, pf0, pf1, pf2, pf3, pf4, pf5, pf6, pf7⟩ := cells8 Kp
          obtain ⟨⟨rc0, rc1, rc2, rc3, rc4, rc5, rc6, rc7⟩, rcf0, rcf1, rcf2, rcf3, rcf4, rcf5, rcf6, rcf7⟩ := cells8 Krc
          obtain ⟨⟨rn0, rn1, rn2, rn3, rn4⟩, rnf0, rnf1, rnf2, rnf3, rnf4⟩ := cells5 Krn
          obtain ⟨t0, t1, t2, t3⟩ := cells4 Kt
          go_wp2_with fail
          refine HC.mono ?_; rintro e W32 ⟨x', rfl, hx, hB⟩
          clear HC
          obtain ⟨a32, ln32, cap32, rfl, hRq, -⟩ := hx.shape
          have Rq32 := hRq.out
          clear hx hRq
          clear p0 p1 p2 p3 p4 p5 p6 p7 pf0 pf1 pf2 pf3 pf4 pf5 pf6 pf7 rc0 rc1 rc2 rc3 rc4 rc5 rc6 rc7 rcf0 rcf1 rcf2 rcf3 rcf4 rcf5 rcf6 rcf7 rn0 rn1 rn2 rn3 rn4 rnf0 rnf1 rnf2 rnf3 rnf4 t0 t1 t2 t3
          replace Kp := Kp.later hB
          replace Krc := Krc.later hB
          replace Krn := Krn.later hB
          replace Kt := Kt.later hB
          replace Rc := Rc.below (hB.mono (Nat.le_trans hn hB31.size))
          have hs33 := hB.size
          have hB33 := hB31.trans (hB.mono hB31.size)
          clear hB hB31
          rw [← E32.out] at HQ
          obtain ⟨⟨p0, p1, p2, p3, p4, p5, p6, p7⟩, pf0, pf1, pf2, pf3, pf4, pf5, pf6, pf7⟩ := cells8 Kp
          obtain ⟨⟨rc0, rc1, rc2, rc3, rc4, rc5, rc6, rc7⟩, rcf0, rcf1, rcf2, rcf3, rcf4, rcf5, rcf6, rcf7⟩ := cells8 Krc
          obtain ⟨⟨rn0, rn1, rn2, rn3, rn4⟩, rnf0, rnf1, rnf2, rnf3, rnf4⟩ := cells5 Krn
          obtain ⟨t0, t1, t2, t3⟩ := cells4 Kt
          obtain ⟨W34, hW34, KN, hP⟩ := c_put Krc (.slice a32 ln32 cap32) c32.ep (c32.nest : Int) c32.err c32.pos
          replace Kp := hP.blk Kp (by omega)
          replace Krn := hP.blk Krn (by omega)
          replace Kt := hP.blk Kt (by omega)
          replace Rc := hP.row Rc (by omega)
          replace Rq32 := hP.row Rq32 (by omega)
          have hs35 := hP.size
          have hB35 := hP.below _ _ (by omega) hB33
          clear hP hB33
          replace Krc := KN
          clear KN
          obtain ⟨W36, hW36, KN, hP⟩ := n_put (z := zN) Krn zN
          replace Kp := hP.blk Kp (by omega)
          replace Krc := hP.blk Krc (by omega)
          replace Kt := hP.blk Kt (by omega)
          replace Rc := hP.row Rc (by omega)
          replace Rq32 := hP.row Rq32 (by omega)
          have hs37 := hP.size
          have hB37 := hP.below _ _ (by omega) hB35
          clear hP hB35
          dsimp only [zN] at hW36 KN
          replace Krn := KN
          clear KN
          go_wp2_with fail
          rw [← hW34, ← hW36]
          obtain ⟨⟨y0, y1, y2, y3, y4, y5, y6, y7⟩, -⟩ := cells8 Krc
          obtain ⟨⟨z0, z1, z2, z3, z4⟩, -⟩ := cells5 Krn
          refine bodyPost_ret (v := .tuple #[.agg (refC (.slice a32 ln32 cap32) c32.ep (c32.nest : Int) c32.err c32.pos), NC.val zN]) (by simp [results, Try.results17, go_sem, y0, y1, y2, y3, y4, y5, y6, y7, z0, z1, z2, z3, z4, NC.val, zN]) rfl ⟨_, zN, rfl, ?_, ?_, hB37⟩
          · rw [HQ.out]; exact RefIs.mk Rq32
          · rw [HQ.out]; exact leaf_in _ _ 0 0 0 []
        | true =>
          have HC := refis_l (RefIs.mk Rc) (Nat.le_trans hn hB5.size) [40]
          rw [hi] at HC
          obtain ⟨⟨p0, p1, p2, p3, p4, p5, p6, p7⟩, pf0, pf1, pf2, pf3, pf4, pf5, pf6, pf7⟩ := cells8 Kp
          obtain ⟨⟨rc0, rc1, rc2, rc3, rc4, rc5, rc6, rc7⟩, rcf0, rcf1, rcf2, rcf3, rcf4, rcf5, rcf6, rcf7⟩ := cells8 Krc
          obtain ⟨⟨rn0, rn1, rn2, rn3, rn4⟩, rnf0, rnf1, rnf2, rnf3, rnf4⟩ := cells5 Krn
          obtain ⟨t0, t1, t2, t3⟩ := cells4 Kt
          go_wp2_with fail
          refine HC.mono ?_; rintro e W38 ⟨rfl, hB⟩
          clear HC
          clear p0 p1 p2 p3 p4 p5 p6 p7 pf0 pf1 pf2 pf3 pf4 pf5 pf6 pf7 rc0 rc1 rc2 rc3 rc4 rc5 rc6 rc7 rcf0 rcf1 rcf2 rcf3 rcf4 rcf5 rcf6 rcf7 rn0 rn1 rn2 rn3 rn4 rnf0 rnf1 rnf2 rnf3 rnf4 t0 t1 t2 t3
          replace Kp := Kp.later hB
          replace Krc := Krc.later hB
          replace Krn := Krn.later hB
          replace Kt := Kt.later hB
          replace Rc := Rc.below (hB.mono (Nat.le_trans hn hB5.size))
          have hs39 := hB.size
          have hB39 := hB5.trans (hB.mono hB5.size)
          clear hB hB5
          have HQ : Hid (atomR wr c = (((wr (c.enter.want [40])).1.want [41]).leave, (wr (c.enter.want [40])).2)) := by show _ = _; unfold atomR; rw [← HT.out, if_neg (fun q => q HE.out), if_neg h1, if_neg h2, if_pos hi]
          have HX := Lib.hid (in_atom HE.out hi HK.out)
          have HO := Lib.hid ((fine_want c.enter [40]).ok (ok_enter HOK.out))
          clear hi h1 h2
          have HC := refenter_any (RefIs.mk Rc) (Nat.le_trans hn hB39.size) HOK.out
          obtain ⟨c40, hE⟩ : ∃ q, q = c.enter := ⟨_, rfl⟩
          rw [← hE] at HC
          have E40 := Lib.hid hE
          clear hE
          obtain ⟨⟨p0, p1, p2, p3, p4, p5, p6, p7⟩, pf0, pf1, pf2, pf3, pf4, pf5, pf6, pf7⟩ := cells8 Kp
          obtain ⟨⟨rc0, rc1, rc2, rc3, rc4, rc5, rc6, rc7⟩, rcf0, rcf1, rcf2, rcf3, rcf4, rcf5, rcf6, rcf7⟩ := cells8 Krc
          obtain ⟨⟨rn0, rn1, rn2, rn3, rn4⟩, rnf0, rnf1, rnf2, rnf3, rnf4⟩ := cells5 Krn
          obtain ⟨t0, t1, t2, t3⟩ := cells4 Kt
          go_wp2_with fail
          refine HC.mono ?_; rintro e W40 ⟨x', rfl, hx, hB⟩
          clear HC
          obtain ⟨a40, ln40, cap40, rfl, hRq, -⟩ := hx.shape
          have Rq40 := hRq.out
          clear hx hRq
          clear p0 p1 p2 p3 p4 p5 p6 p7 pf0 pf1 pf2 pf3 pf4 pf5 pf6 pf7 rc0 rc1 rc2 rc3 rc4 rc5 rc6 rc7 rcf0 rcf1 rcf2 rcf3 rcf4 rcf5 rcf6 rcf7 rn0 rn1 rn2 rn3 rn4 rnf0 rnf1 rnf2 rnf3 rnf4 t0 t1 t2 t3
          replace Kp := Kp.later hB
          replace Krc := Krc.later hB
          replace Krn := Krn.later hB
          replace Kt := Kt.later hB
          replace Rc := Rc.below (hB.mono (Nat.le_trans hn hB39.size))
          have hs41 := hB.size
          have hB41 := hB39.trans (hB.mono hB39.size)
          clear hB hB39
          rw [← E40.out] at HQ HX HO
          obtain ⟨⟨p0, p1, p2, p3, p4, p5, p6, p7⟩, pf0, pf1, pf2, pf3, pf4, pf5, pf6, pf7⟩ := cells8 Kp
          obtain ⟨⟨rc0, rc1, rc2, rc3, rc4, rc5, rc6, rc7⟩, rcf0, rcf1, rcf2, rcf3, rcf4, rcf5, rcf6, rcf7⟩ := cells8 Krc
          obtain ⟨⟨rn0, rn1, rn2, rn3, rn4⟩, rnf0, rnf1, rnf2, rnf3, rnf4⟩ := cells5 Krn
          obtain ⟨t0, t1, t2, t3⟩ := cells4 Kt
          obtain ⟨W42, hW42, KN, hP⟩ := c_put Kp (.slice a40 ln40 cap40) c40.ep (c40.nest : Int) c40.err c40.pos
          replace Krc := hP.blk Krc (by omega)
          replace Krn := hP.blk Krn (by omega)
          replace Kt := hP.blk Kt (by omega)
          replace Rc := hP.row Rc (by omega)
          replace Rq40 := hP.row Rq40 (by omega)
          have hs43 := hP.size
          have hB43 := hP.below _ _ (by omega) hB41
          clear hP hB41
          replace Kp := KN
          clear KN
          go_upto_region 13 with fail
          rw [← hW42]
          clear hW42
          clear p0 p1 p2 p3 p4 p5 p6 p7 pf0 pf1 pf2 pf3 pf4 pf5 pf6 pf7 rc0 rc1 rc2 rc3 rc4 rc5 rc6 rc7 rcf0 rcf1 rcf2 rcf3 rcf4 rcf5 rcf6 rcf7 rn0 rn1 rn2 rn3 rn4 rnf0 rnf1 rnf2 rnf3 rnf4 t0 t1 t2 t3
          have HC := refwant_l (RefIs.mk Rq40) (Nat.le_trans hn hB43.size) [40]
          obtain ⟨c44, hE⟩ : ∃ q, q = c40.want [40] := ⟨_, rfl⟩
          rw [← hE] at HC
          have E44 := Lib.hid hE
          clear hE
          obtain ⟨⟨p0, p1, p2, p3, p4, p5, p6, p7⟩, pf0, pf1, pf2, pf3, pf4, pf5, pf6, pf7⟩ := cells8 Kp
          obtain ⟨⟨rc0, rc1, rc2, rc3, rc4, rc5, rc6, rc7⟩, rcf0, rcf1, rcf2, rcf3, rcf4, rcf5, rcf6, rcf7⟩ := cells8 Krc
          obtain ⟨⟨rn0, rn1, rn2, rn3, rn4⟩, rnf0, rnf1, rnf2, rnf3, rnf4⟩ := cells5 Krn
          obtain ⟨t0, t1, t2, t3⟩ := cells4 Kt
          go_wp2_with fail
          refine HC.mono ?_; rintro e W44 ⟨x', rfl, hx, hB⟩
          clear HC
          obtain ⟨a44, ln44, cap44, rfl, hRq, -⟩ := hx.shape
          have Rq44 := hRq.out
          clear hx hRq
          clear p0 p1 p2 p3 p4 p5 p6 p7 pf0 pf1 pf2 pf3 pf4 pf5 pf6 pf7 rc0 rc1 rc2 rc3 rc4 rc5 rc6 rc7 rcf0 rcf1 rcf2 rcf3 rcf4 rcf5 rcf6 rcf7 rn0 rn1 rn2 rn3 rn4 rnf0 rnf1 rnf2 rnf3 rnf4 t0 t1 t2 t3
          replace Kp := Kp.later hB
          replace Krc := Krc.later hB
          replace Krn := Krn.later hB
          replace Kt := Kt.later hB
          replace Rc := Rc.below (hB.mono (Nat.le_trans hn hB43.size))
          replace Rq40 := Rq40.below (hB.mono (Nat.le_trans hn hB43.size))
          have hs45 := hB.size
          have hB45 := hB43.trans (hB.mono hB43.size)
          clear hB hB43
          rw [← E44.out] at HQ HX HO
          obtain ⟨⟨p0, p1, p2, p3, p4, p5, p6, p7⟩, pf0, pf1, pf2, pf3, pf4, pf5, pf6, pf7⟩ := cells8 Kp
          obtain ⟨⟨rc0, rc1, rc2, rc3, rc4, rc5, rc6, rc7⟩, rcf0, rcf1, rcf2, rcf3, rcf4, rcf5, rcf6, rcf7⟩ := cells8 Krc
          obtain ⟨⟨rn0, rn1, rn2, rn3, rn4⟩, rnf0, rnf1, rnf2, rnf3, rnf4⟩ := cells5 Krn
          obtain ⟨t0, t1, t2, t3⟩ := cells4 Kt
          obtain ⟨W46, hW46, KN, hP⟩ := c_put Kp (.slice a44 ln44 cap44) c44.ep (c44.nest : Int) c44.err c44.pos
          replace Krc := hP.blk Krc (by omega)
          replace Krn := hP.blk Krn (by omega)
          replace Kt := hP.blk Kt (by omega)
          replace Rc := hP.row Rc (by omega)
          replace Rq40 := hP.row Rq40 (by omega)
          replace Rq44 := hP.row Rq44 (by omega)
          have hs47 := hP.size
          have hB47 := hP.below _ _ (by omega) hB45
          clear hP hB45
          replace Kp := KN
          clear KN
          go_upto_region 14 with fail
          rw [← hW46]
          clear hW46
          clear p0 p1 p2 p3 p4 p5 p6 p7 pf0 pf1 pf2 pf3 pf4 pf5 pf6 pf7 rc0 rc1 rc2 rc3 rc4 rc5 rc6 rc7 rcf0 rcf1 rcf2 rcf3 rcf4 rcf5 rcf6 rcf7 rn0 rn1 rn2 rn3 rn4 rnf0 rnf1 rnf2 rnf3 rnf4 t0 t1 t2 t3
          have HC := HWH.out HE.out _ _ _ HX.out HO.out (RefIs.mk Rq44) (Nat.le_trans hn hB47.size)
          obtain ⟨c48, hE⟩ : ∃ q, q = (wr c44).1 := ⟨_, rfl⟩
          have E48 := Lib.hid hE
          clear hE
          obtain ⟨⟨p0, p1, p2, p3, p4, p5, p6, p7⟩, pf0, pf1, pf2, pf3, pf4, pf5, pf6, pf7⟩ := cells8 Kp
          obtain ⟨⟨rc0, rc1, rc2, rc3, rc4, rc5, rc6, rc7⟩, rcf0, rcf1, rcf2, rcf3, rcf4, rcf5, rcf6, rcf7⟩ := cells8 Krc
          obtain ⟨⟨rn0, rn1, rn2, rn3, rn4⟩, rnf0, rnf1, rnf2, rnf3, rnf4⟩ := cells5 Krn
          obtain ⟨t0, t1, t2, t3⟩ := cells4 Kt
          go_wp2_with fail
          refine HC.mono ?_; rintro e W48 ⟨x', d, rfl, hx, hd, hB⟩
          clear HC
          rw [← E48.out] at hx
          obtain ⟨a48, ln48, cap48, rfl, hRq, -⟩ := hx.shape
          have Rq48 := hRq.out
          clear hx hRq
          clear p0 p1 p2 p3 p4 p5 p6 p7 pf0 pf1 pf2 pf3 pf4 pf5 pf6 pf7 rc0 rc1 rc2 rc3 rc4 rc5 rc6 rc7 rcf0 rcf1 rcf2 rcf3 rcf4 rcf5 rcf6 rcf7 rn0 rn1 rn2 rn3 rn4 rnf0 rnf1 rnf2 rnf3 rnf4 t0 t1 t2 t3
          replace Kp := Kp.later hB
          replace Krc := Krc.later hB
          replace Krn := Krn.later hB
          replace Kt := Kt.later hB
          replace Rc := Rc.below (hB.mono (Nat.le_trans hn hB47.size))
          replace Rq40 := Rq40.below (hB.mono (Nat.le_trans hn hB47.size))
          replace Rq44 := Rq44.below (hB.mono (Nat.le_trans hn hB47.size))
          have hs49 := hB.size
          have hB49 := hB47.trans (hB.mono hB47.size)
          clear hB hB47
          obtain ⟨dk, dp, dn, dt, dq, dl, dc⟩ := d
          unfold NC.val
          have Td := hd.mono (S' := (fun q => w.heap.size + 1 + 1 + 1 ≤ q ∧ q ≠ W2.heap.size)) fun q hq hl => ⟨by omega, by omega⟩
          clear hd
          replace Td := Td.mono (S' := (fun q => w.heap.size + 1 + 1 + 1 ≤ q ∧ q ≠ W2.heap.size ∧ q ≠ W48.heap.size)) fun q hq hl => ⟨by omega, by omega, by omega⟩
          obtain ⟨W50, hW50⟩ : ∃ x, x = W48.alloc (.cells #[.int .i64 0, .int .i64 0, .int .i64 0, .string ⟨#[]⟩, .slice none 0 0] 25) := ⟨_, rfl⟩
          have hB : Below W48.heap.size W48 W50 := by rw [hW50]; exact (Below.refl _ _).alloc (Nat.le_refl _) _
          have KN : Blk W50 W48.heap.size #[.int .i64 0, .int .i64 0, .int .i64 0, .string ⟨#[]⟩, .slice none 0 0] 25 := by rw [hW50]; exact Blk.new W48 _ _
          have hA50 := hB
          have hz50 : W48.heap.size + 1 ≤ W50.heap.size := by rw [hW50]; simp
          replace Kp := Kp.later hB
          replace Krc := Krc.later hB
          replace Krn := Krn.later hB
          replace Kt := Kt.later hB
          replace Rc := Rc.below (hB.mono (Nat.le_trans hn hB49.size))
          replace Rq40 := Rq40.below (hB.mono (Nat.le_trans hn hB49.size))
          replace Rq44 := Rq44.below (hB.mono (Nat.le_trans hn hB49.size))
          replace Rq48 := Rq48.below (hB.mono (Nat.le_trans hn hB49.size))
          have hs51 := hB.size
          have hB51 := hB49.trans (hB.mono hB49.size)
          clear hB hB49
          have Km := KN
          clear KN
          have HV := Lib.hid hW50
          clear hW50
          have np : W48.heap.size ≠ w.heap.size := by omega
          have op : w.heap.size ≠ W48.heap.size := by omega
          have nrc : W48.heap.size ≠ w.heap.size + 1 := by omega
          have orc : w.heap.size + 1 ≠ W48.heap.size := by omega
          have nrn : W48.heap.size ≠ w.heap.size + 1 + 1 := by omega
          have orn : w.heap.size + 1 + 1 ≠ W48.heap.size := by omega
          have nt : W48.heap.size ≠ W2.heap.size := by omega
          have ot : W2.heap.size ≠ W48.heap.size := by omega
          obtain ⟨⟨p0, p1, p2, p3, p4, p5, p6, p7⟩, pf0, pf1, pf2, pf3, pf4, pf5, pf6, pf7⟩ := cells8 Kp
          obtain ⟨⟨m0, m1, m2, m3, m4⟩, mf0, mf1, mf2, mf3, mf4⟩ := cells5 Km
          rw [HV.out] at p0 p1 p2 p3 p4 p5 p6 p7 pf0 pf1 pf2 pf3 pf4 pf5 pf6 pf7 m0 m1 m2 m3 m4 mf0 mf1 mf2 mf3 mf4
          obtain ⟨W52, hW52, KN, hP⟩ := c_put Kp (.slice a48 ln48 cap48) c48.ep (c48.nest : Int) c48.err c48.pos
          have hP52 := hP
          replace Krc := hP.blk Krc (by omega)
          replace Krn := hP.blk Krn (by omega)
          replace Kt := hP.blk Kt (by omega)
          replace Km := hP.blk Km (by omega)
          replace Rc := hP.row Rc (by omega)
          replace Rq40 := hP.row Rq40 (by omega)
          replace Rq44 := hP.row Rq44 (by omega)
          replace Rq48 := hP.row Rq48 (by omega)
          have hs53 := hP.size
          have hB53 := hP.below _ _ (by omega) hB51
          clear hP hB51
          replace Kp := KN
          clear KN
          obtain ⟨W54, hW54, KN, hP⟩ := n_put (z := zN) Km ⟨dk, dp, dn, dt, dq, dl, dc⟩
          have hP54 := hP
          replace Kp := hP.blk Kp (by omega)
          replace Krc := hP.blk Krc (by omega)
          replace Krn := hP.blk Krn (by omega)
          replace Kt := hP.blk Kt (by omega)
          replace Rc := hP.row Rc (by omega)
          replace Rq40 := hP.row Rq40 (by omega)
          replace Rq44 := hP.row Rq44 (by omega)
          replace Rq48 := hP.row Rq48 (by omega)
          have hs55 := hP.size
          have hB55 := hP.below _ _ (by omega) hB53
          clear hP hB53
          dsimp only [zN] at hW54 KN
          replace Km := KN
          clear KN
          go_upto_region 15 with fail
          rw [← HV.out, ← hW52, ← hW54]
          replace Td := Td.keeps (w' := W54) ⟨by omega, fun q hq hql => (hP54.other q (by omega)).trans ((hP52.other q (by omega)).trans (hA50.block q hql))⟩
          clear HV hW52 hW54 hP52 hP54 hA50 p0 p1 p2 p3 p4 p5 p6 p7 pf0 pf1 pf2 pf3 pf4 pf5 pf6 pf7 m0 m1 m2 m3 m4 mf0 mf1 mf2 mf3 mf4
          have HC := refwant_l (RefIs.mk Rq48) (Nat.le_trans hn hB55.size) [41]
          obtain ⟨c56, hE⟩ : ∃ q, q = c48.want [41] := ⟨_, rfl⟩
          rw [← hE] at HC
          have E56 := Lib.hid hE
          clear hE
          obtain ⟨⟨p0, p1, p2, p3, p4, p5, p6, p7⟩, pf0, pf1, pf2, pf3, pf4, pf5, pf6, pf7⟩ := cells8 Kp
          obtain ⟨⟨rc0, rc1, rc2, rc3, rc4, rc5, rc6, rc7⟩, rcf0, rcf1, rcf2, rcf3, rcf4, rcf5, rcf6, rcf7⟩ := cells8 Krc
          obtain ⟨⟨rn0, rn1, rn2, rn3, rn4⟩, rnf0, rnf1, rnf2, rnf3, rnf4⟩ := cells5 Krn
          obtain ⟨t0, t1, t2, t3⟩ := cells4 Kt
          obtain ⟨⟨m0, m1, m2, m3, m4⟩, mf0, mf1, mf2, mf3, mf4⟩ := cells5 Km
          go_wp2_with fail
          refine HC.mono ?_; rintro e W56 ⟨x', rfl, hx, hB⟩
          clear HC
          obtain ⟨a56, ln56, cap56, rfl, hRq, -⟩ := hx.shape
          have Rq56 := hRq.out
          clear hx hRq
          clear p0 p1 p2 p3 p4 p5 p6 p7 pf0 pf1 pf2 pf3 pf4 pf5 pf6 pf7 rc0 rc1 rc2 rc3 rc4 rc5 rc6 rc7 rcf0 rcf1 rcf2 rcf3 rcf4 rcf5 rcf6 rcf7 rn0 rn1 rn2 rn3 rn4 rnf0 rnf1 rnf2 rnf3 rnf4 t0 t1 t2 t3 m0 m1 m2 m3 m4 mf0 mf1 mf2 mf3 mf4
          replace Kp := Kp.later hB
          replace Krc := Krc.later hB
          replace Krn := Krn.later hB
          replace Kt := Kt.later hB
          replace Km := Km.later hB
          replace Td := Td.keeps (w' := W56) ⟨hB.size, fun k hk hkl => hB.block k hkl⟩
          replace Rc := Rc.below (hB.mono (Nat.le_trans hn hB55.size))
          replace Rq40 := Rq40.below (hB.mono (Nat.le_trans hn hB55.size))
          replace Rq44 := Rq44.below (hB.mono (Nat.le_trans hn hB55.size))
          replace Rq48 := Rq48.below (hB.mono (Nat.le_trans hn hB55.size))
          have hs57 := hB.size
          have hB57 := hB55.trans (hB.mono hB55.size)
          clear hB hB55
          rw [← E48.out, ← E56.out] at HQ
          obtain ⟨⟨p0, p1, p2, p3, p4, p5, p6, p7⟩, pf0, pf1, pf2, pf3, pf4, pf5, pf6, pf7⟩ := cells8 Kp
          obtain ⟨⟨rc0, rc1, rc2, rc3, rc4, rc5, rc6, rc7⟩, rcf0, rcf1, rcf2, rcf3, rcf4, rcf5, rcf6, rcf7⟩ := cells8 Krc
          obtain ⟨⟨rn0, rn1, rn2, rn3, rn4⟩, rnf0, rnf1, rnf2, rnf3, rnf4⟩ := cells5 Krn
          obtain ⟨t0, t1, t2, t3⟩ := cells4 Kt
          obtain ⟨⟨m0, m1, m2, m3, m4⟩, mf0, mf1, mf2, mf3, mf4⟩ := cells5 Km
          obtain ⟨W58, hW58, KN, hP⟩ := c_put Kp (.slice a56 ln56 cap56) c56.ep (c56.nest : Int) c56.err c56.pos
          replace Krc := hP.blk Krc (by omega)
          replace Krn := hP.blk Krn (by omega)
          replace Kt := hP.blk Kt (by omega)
          replace Km := hP.blk Km (by omega)
          replace Td := hP.node Td (by omega)
          replace Rc := hP.row Rc (by omega)
          replace Rq40 := hP.row Rq40 (by omega)
          replace Rq44 := hP.row Rq44 (by omega)
          replace Rq48 := hP.row Rq48 (by omega)
          replace Rq56 := hP.row Rq56 (by omega)
          have hs59 := hP.size
          have hB59 := hP.below _ _ (by omega) hB57
          clear hP hB57
          replace Kp := KN
          clear KN
          go_upto_region 16 with fail
          rw [← hW58]
          clear hW58
          clear p0 p1 p2 p3 p4 p5 p6 p7 pf0 pf1 pf2 pf3 pf4 pf5 pf6 pf7 rc0 rc1 rc2 rc3 rc4 rc5 rc6 rc7 rcf0 rcf1 rcf2 rcf3 rcf4 rcf5 rcf6 rcf7 rn0 rn1 rn2 rn3 rn4 rnf0 rnf1 rnf2 rnf3 rnf4 t0 t1 t2 t3 m0 m1 m2 m3 m4 mf0 mf1 mf2 mf3 mf4
          have HO2 := Lib.hid ((fine_want c48 [41]).ok (by rw [E48.out]; exact (hf.out _ HX.out).ok HO.out))
          rw [← E56.out] at HO2
          obtain ⟨cL, hE⟩ : ∃ q, q = c56.leave := ⟨_, rfl⟩
          rw [← hE] at HQ
          have HL : ∀ wx, Below W58.heap.size W58 wx → Calls Try.prog 45 #[.agg (refC (.slice a56 ln56 cap56) c56.ep (c56.nest : Int) c56.err c56.pos)] wx (fun e w' => ∃ a5 ln5 cap5, e = .returned (.agg (refC (.slice a5 ln5 cap5) cL.ep (cL.nest : Int) cL.err cL.pos)) ∧ Hid (WRow n w' (.slice a5 ln5 cap5) (cL.ws.drop cL.at')) ∧ Below W58.heap.size W58 w') := by
            intro wx hb
            have hs := hB59.size
            have := refleave_any (RefIs.mk (Rq56.below (hb.mono (Nat.le_trans hn hs)))) (Nat.le_trans (Nat.le_trans hn hs) hb.size) HO2.out
            rw [← hE] at this
            refine this.mono ?_
            rintro e w5 ⟨x5, rfl, hx, hB⟩
            obtain ⟨a5, ln5, cap5, rfl, hr5, -⟩ := hx.shape
            exact ⟨a5, ln5, cap5, rfl, hr5, hb.trans (hB.mono hb.size)⟩
          have EL := Lib.hid hE
          clear hE
          obtain ⟨⟨p0, p1, p2, p3, p4, p5, p6, p7⟩, pf0, pf1, pf2, pf3, pf4, pf5, pf6, pf7⟩ := cells8 Kp
          obtain ⟨⟨rc0, rc1, rc2, rc3, rc4, rc5, rc6, rc7⟩, rcf0, rcf1, rcf2, rcf3, rcf4, rcf5, rcf6, rcf7⟩ := cells8 Krc
          obtain ⟨⟨rn0, rn1, rn2, rn3, rn4⟩, rnf0, rnf1, rnf2, rnf3, rnf4⟩ := cells5 Krn
          obtain ⟨t0, t1, t2, t3⟩ := cells4 Kt
          obtain ⟨⟨m0, m1, m2, m3, m4⟩, mf0, mf1, mf2, mf3, mf4⟩ := cells5 Km
          have dmrc : W48.heap.size ≠ w.heap.size + 1 := by omega
          have emrc : w.heap.size + 1 ≠ W48.heap.size := by omega
          have dmrn : W48.heap.size ≠ w.heap.size + 1 + 1 := by omega
          have emrn : w.heap.size + 1 + 1 ≠ W48.heap.size := by omega
          have drcrn : w.heap.size + 1 ≠ w.heap.size + 1 + 1 := by omega
          have ercrn : w.heap.size + 1 + 1 ≠ w.heap.size + 1 := by omega
          go_region_with (go_at_call 45; refine (HL _ ?_).mono ?_; (first | exact Below.refl _ _ | exact (Below.refl _ _).drew); rintro e w5 ⟨a5, ln5, cap5, rfl, hr5, hacc⟩; obtain ⟨⟨rcq0, rcq1, rcq2, rcq3, rcq4, rcq5, rcq6, rcq7⟩, rcqf0, rcqf1, rcqf2, rcqf3, rcqf4, rcqf5, rcqf6, rcqf7⟩ := cells8 (Krc.later hacc); obtain ⟨⟨rnq0, rnq1, rnq2, rnq3, rnq4⟩, rnqf0, rnqf1, rnqf2, rnqf3, rnqf4⟩ := cells5 (Krn.later hacc); obtain ⟨⟨mq0, mq1, mq2, mq3, mq4⟩, mqf0, mqf1, mqf2, mqf3, mqf4⟩ := cells5 (Km.later hacc))
          all_goals (
            obtain ⟨V7, hV7, KC, hP7⟩ := c_put (Krc.later hacc) (.slice a5 ln5 cap5) cL.ep (cL.nest : Int) cL.err cL.pos
            obtain ⟨V8, hV8, KN, hP8⟩ := n_put (z := zN) (hP7.blk (Krn.later hacc) (by omega)) ⟨dk, dp, dn, dt, dq, dl, dc⟩
            dsimp only [zN] at hV8 KN
            rw [← hV7, ← hV8]
            have KC := hP8.blk KC (by omega)
            clear hV7 hV8 p0 p1 p2 p3 p4 p5 p6 p7 pf0 pf1 pf2 pf3 pf4 pf5 pf6 pf7 rc0 rc1 rc2 rc3 rc4 rc5 rc6 rc7 rcf0 rcf1 rcf2 rcf3 rcf4 rcf5 rcf6 rcf7 rn0 rn1 rn2 rn3 rn4 rnf0 rnf1 rnf2 rnf3 rnf4 t0 t1 t2 t3 m0 m1 m2 m3 m4 mf0 mf1 mf2 mf3 mf4
            go_wp2_with fail
            obtain ⟨⟨y0, y1, y2, y3, y4, y5, y6, y7⟩, -⟩ := cells8 KC
            obtain ⟨⟨z0, z1, z2, z3, z4⟩, -⟩ := cells5 KN
            refine bodyPost_ret (v := .tuple #[.agg (refC (.slice a5 ln5 cap5) cL.ep (cL.nest : Int) cL.err cL.pos), NC.val ⟨dk, dp, dn, dt, dq, dl, dc⟩]) (by simp [results, Try.results17, go_sem, y0, y1, y2, y3, y4, y5, y6, y7, z0, z1, z2, z3, z4, NC.val]) rfl ⟨_, ⟨dk, dp, dn, dt, dq, dl, dc⟩, rfl, ?_, ?_, hP8.below _ _ (by omega) (hP7.below _ _ (by omega) (hB59.trans (hacc.mono hB59.size)))⟩
            · rw [HQ.out]; exact RefIs.mk (hP8.row (hP7.row hr5.out (by omega)) (by omega))
            · rw [HQ.out]; exact (hP8.node (hP7.node (Td.keeps ⟨hacc.size, fun q hq hql => hacc.block q hql⟩) (by omega)) (by omega)).mono fun q hq _ => by omega)
end Go.Proofs.Ytlammclbnihopaa.N7
