import Derived.Test.YtdjomhbmhooceaaGreatF26
import Derived.Test.YtdjomhbmhooceaaGreatF27
import Derived.Test.YtdjomhbmhooceaaGreatF25
set_option maxHeartbeats 4000000
set_option maxRecDepth 100000
set_option linter.unusedVariables false
set_option linter.unusedSimpArgs false
namespace Go.Proofs.YtdjomhbmhooceaaGreat.N7
open Go.RowKit N5 N6
attribute [local go_sem] xB xA
theorem bJ {rd : Cu -> Cu × Nd} {f : Nat} {c : Cu} {l : List Nd} (h : wI c = false) : sX rd f c l = (c, l) := by
 cases f with
 | zero => rfl
 | succ f => show (if _ then _ else _) = _; rw [h]; rfl
theorem fA {rd : Cu -> Cu × Nd} {f : Nat} {c : Cu} {l : List Nd} (h : wI c = true) : sX rd (f + 1) c l = sX rd f (rd c).1 (l ++ [(rd c).2]) := by
 show (if _ then _ else _) = _; rw [if_pos h]
structure AaS (n : Nat) (w : World) (mb LB F k : Nat) (rf : Cu -> Cu × Nd) (c : Cu) (tp : Int) (tt : List UInt8) (gk : Nat) (d : Cu) (ks : List Nd) (u : Value) (kp : Option Addr) (kl kc : Nat) (W : World) : Prop where
 eq : sX (zO rf) gk d ks = sX (zO rf) F c.adv []
 few : wI d = true -> d.ws.length - d.at' < gk
 fine : zY c.adv d
 sum : ks.length + gk <= F
 bel : Below w.heap.size w W
 low : LB <= W.heap.size
 pb : zW W w.heap.size (zK u d.ep (d.nest : Int) d.err d.pos) 40
 rcb : zW W (w.heap.size + 1) (zK (.slice none 0 0) 0 0 0 0) 40
 rnb : zW W (w.heap.size + 1 + 1) #[.int .i64 0, .int .i64 0, .int .i64 0, .string ⟨#[]⟩, .slice none 0 0] 25
 nb : zW W mb #[.int .i64 2, .int .i64 tp, .int .i64 0, .string ⟨tt.toArray⟩, .slice kp kl kc] 25
 row : xW n W u (d.ws.drop d.at')
 own : zR LB W (.slice kp kl kc) ks
theorem rD {n : Nat} {W W' : World} {o : Option Nat} (hg : W.grownBy W' o) (ho : ∀ b, o = some b -> n <= b) (hs : n <= W.heap.size) : Below n W W' := by
 cases o with
 | none => exact (tO hg).mono hs
 | some b => exact vL hg (ho b rfl) hs
theorem nL {rf : Cu -> Cu × Nd} {n k : Nat} {w : World} {x : Value} {c : Cu} (h : zF n w x c) (hn : n <= w.heap.size) (hok : yZ c) (hf : ∀ c, 200 <= c.nest + k \/ c.err ≠ 0 -> zY c (rf c).1) (hfa : ∀ c, 200 <= c.nest + (k + 1) \/ c.err ≠ 0 -> zY c (zO rf c).1) (hat : ∀ c, 200 <= c.nest + (k + 1) -> (zO rf c).1.err = 0 -> c.at' < (zO rf c).1.at') (hwh : c.err = 0 -> ∀ (c : Cu) (W : World) (x : Value), 200 <= c.nest + k \/ c.err ≠ 0 -> yZ c -> zF n W x c -> n <= W.heap.size -> Calls Tryz.prog 64 #[x] W (yE n (rf c) W)) (hk : 200 <= c.nest + (k + 1) \/ c.err ≠ 0) : Calls Tryz.prog 95 #[x] w (yE n (xV rf c) w) := by
 have HWH := Lib.hid hwh;have HK := Lib.hid hk;have HOK := Lib.hid hok;have HF := Lib.hid hf;have HFA := Lib.hid hfa;have HAT := Lib.hid hat;obtain ⟨i0, hi0, hz0, hz1, hz2⟩ := info_parts wS;clear hwh hk hok hf hfa hat;obtain ⟨a, ln, cap, rfl, hr, -⟩ := h.shape;clear h;obtain ⟨W1, hW1, Kp, Krc, Krn, hB1, hsz⟩ := qE w ((zK (.slice a ln cap) c.ep (c.nest : Int) c.err c.pos)) 40 ((zK (.slice none 0 0) 0 0 0 0)) 40 #[.int .i64 0, .int .i64 0, .int .i64 0, .string ⟨#[]⟩, .slice none 0 0] 25;have Rc : xW n W1 (.slice a ln cap) (c.ws.drop c.at') := hr.out.below (hB1.mono hn);have HW1 := Lib.hid hW1;clear hW1 hr;go_enter Tryz.func95, Tryz.ntmps95;go_upto_region 1 with fail;rw [<- HW1.out];clear HW1;obtain ⟨⟨tk, tp, tn, tt⟩, hT⟩ : ∃ t, t = c.peek := ⟨_, rfl⟩;have HT := Lib.hid hT;clear hT;have HC := xU (zF.mk Rc) (Nat.le_trans hn hB1.size);rw [<- HT.out] at HC;obtain ⟨⟨p0, p1, p2, p3, p4, p5, p6, p7⟩, pf0, pf1, pf2, pf3, pf4, pf5, pf6, pf7⟩ := zB Kp;have f_rc := yH (zB Krc) (zA Krn);go_wp2_with fail;refine HC.mono ?_; rintro e W2 ⟨rfl, hB⟩;clear HC;clear p0 p1 p2 p3 p4 p5 p6 p7 pf0 pf1 pf2 pf3 pf4 pf5 pf6 pf7 f_rc;obtain ⟨Kp, Krc, Krn⟩ := vK hB Kp Krc Krn;replace Rc := Rc.bl hB hn hB1;have hs3 := hB.size;have hB3 := zS hB1 hB;clear hB hB1;go_upto_region 2 with fail;obtain ⟨W4, hW4, KN, hB, hz4⟩ := zT W2 #[.int .i64 tk, .int .i64 tp, .int .i64 tn, .string ⟨tt.toArray⟩] 38;rw [<- hW4];clear hW4;obtain ⟨Kp, Krc, Krn⟩ := vK hB Kp Krc Krn;replace Rc := Rc.bl hB hn hB3;have hs5 := hB.size;have hB5 := zS hB3 hB;clear hB hB3;have Kt := KN;clear KN;by_cases h2 : tk = 2
 case neg =>
  have hb : (tk != 2) = true := by rw [bne_iff_ne]; exact h2
  have HQ : Hid (xV rf c = zO rf c) := by show _ = _; unfold xV; rw [<- HT.out, if_neg h2]
  clear h2;have HC := wT (zF.mk Rc) (Nat.le_trans hn hB5.size) HOK.out HF.out HWH.out HK.out;obtain ⟨c6, hE⟩ : ∃ q, q = (zO rf c).1 := ⟨_, rfl⟩;have E6 := Lib.hid hE;clear hE;obtain ⟨⟨p0, p1, p2, p3, p4, p5, p6, p7⟩, pf0, pf1, pf2, pf3, pf4, pf5, pf6, pf7⟩ := zB Kp;have f_rc := xZ (zB Krc) (zA Krn) (zD Kt);go_wp2_with fail;refine HC.mono ?_; rintro e W6 ⟨x', d, rfl, hx, hd, hB⟩;clear HC;rw [<- E6.out] at hx;obtain ⟨a6, ln6, cap6, rfl, hRq, -⟩ := hx.shape;have Rq6 := hRq.out;clear hx hRq;clear p0 p1 p2 p3 p4 p5 p6 p7 pf0 pf1 pf2 pf3 pf4 pf5 pf6 pf7 f_rc;obtain ⟨Kp, Krc, Krn, Kt⟩ := wP hB Kp Krc Krn Kt;replace Rc := Rc.bl hB hn hB5;have hs7 := hB.size;have hB7 := zS hB5 hB;clear hB hB5;obtain ⟨dk, dp, dn, dt, dq, dl, dc⟩ := d;unfold NC.val;have Td := hd.mono (S' := (fun q => w.heap.size + 1 + 1 + 1 <= q /\ q ≠ W2.heap.size)) fun q hq hl => ⟨by omega, by omega⟩
  clear hd;have HQ1 : Hid ((xV rf c).1 = c6) := by show _ = _; rw [HQ.out, E6.out]
  have HQ2 : Hid ((xV rf c).2 = (zO rf c).2) := by show _ = _; rw [HQ.out]
  obtain ⟨⟨p0, p1, p2, p3, p4, p5, p6, p7⟩, pf0, pf1, pf2, pf3, pf4, pf5, pf6, pf7⟩ := zB Kp;have f_rc := xZ (zB Krc) (zA Krn) (zD Kt);obtain ⟨W8, hW8, KN, hP⟩ := zQ Krc (.slice a6 ln6 cap6) c6.ep (c6.nest : Int) c6.err c6.pos;obtain ⟨Kp, Krn, Kt⟩ := vD hP Kp Krn Kt (by omega);replace Td := hP.node Td (by omega);replace Rc := hP.row Rc (by omega);replace Rq6 := hP.row Rq6 (by omega);have hs9 := hP.size;have hB9 := hP.below _ _ (by omega) hB7;clear hP hB7;replace Krc := KN;clear KN;obtain ⟨W10, hW10, KN, hP⟩ := zZ (z := zN) Krn ⟨dk, dp, dn, dt, dq, dl, dc⟩;obtain ⟨Kp, Krc, Kt⟩ := vD hP Kp Krc Kt (by omega);replace Td := hP.node Td (by omega);replace Rc := hP.row Rc (by omega);replace Rq6 := hP.row Rq6 (by omega);have hs11 := hP.size;have hB11 := hP.below _ _ (by omega) hB9;clear hP hB9;dsimp only [zN] at hW10 KN;replace Krn := KN;clear KN;go_wp2_with fail;rw [<- hW8, <- hW10];obtain ⟨⟨y0, y1, y2, y3, y4, y5, y6, y7⟩, -⟩ := zB Krc;obtain ⟨⟨z0, z1, z2, z3, z4⟩, -⟩ := zA Krn;refine bodyPost_ret (v := .tuple #[.agg (zK (.slice a6 ln6 cap6) c6.ep (c6.nest : Int) c6.err c6.pos), NC.val ⟨dk, dp, dn, dt, dq, dl, dc⟩]) (by simp [results, Tryz.results95, go_sem, y0, y1, y2, y3, y4, y5, y6, y7, z0, z1, z2, z3, z4, NC.val]) rfl ⟨_, ⟨dk, dp, dn, dt, dq, dl, dc⟩, rfl, ?_, ?_, hB11⟩
  ·
   rw [HQ1.out]; exact zF.mk Rq6
  ·
   rw [HQ2.out]; exact Td.mono fun q hq _ => by omega
 case pos =>
  subst h2;have HE : Hid (c.err = 0) := vZ (by rw [<- HT.out]; show (2 : Int) ≠ 0; decide);have hb : ((2 : Int) != 2) = false := rfl;have HR : Hid (xV rf c = ((sX (zO rf) (c.ws.length + 1) c.adv []).1, .mk 2 tp 0 tt (sX (zO rf) (c.ws.length + 1) c.adv []).2)) := by show _ = _; unfold xV; rw [<- HT.out]; rfl
  have HC := tQ (zF.mk Rc) (Nat.le_trans hn hB5.size);obtain ⟨c12, hE⟩ : ∃ q, q = c.adv := ⟨_, rfl⟩;rw [<- hE] at HC;rw [<- HT.out] at HC;have E12 := Lib.hid hE;clear hE;obtain ⟨⟨p0, p1, p2, p3, p4, p5, p6, p7⟩, pf0, pf1, pf2, pf3, pf4, pf5, pf6, pf7⟩ := zB Kp;have f_rc := xZ (zB Krc) (zA Krn) (zD Kt);go_wp2_with fail;refine HC.mono ?_; rintro e W12 ⟨x', rfl, hx, hB⟩;clear HC;obtain ⟨a12, ln12, cap12, rfl, hRq, -⟩ := hx.shape;have Rq12 := hRq.out;clear hx hRq;clear p0 p1 p2 p3 p4 p5 p6 p7 pf0 pf1 pf2 pf3 pf4 pf5 pf6 pf7 f_rc;obtain ⟨Kp, Krc, Krn, Kt⟩ := wP hB Kp Krc Krn Kt;replace Rc := Rc.bl hB hn hB5;have hs13 := hB.size;have hB13 := zS hB5 hB;clear hB hB5;obtain ⟨⟨p0, p1, p2, p3, p4, p5, p6, p7⟩, pf0, pf1, pf2, pf3, pf4, pf5, pf6, pf7⟩ := zB Kp;have f_rc := xZ (zB Krc) (zA Krn) (zD Kt);obtain ⟨W14, hW14, KN, hP⟩ := zQ Kp (.slice a12 ln12 cap12) c12.ep (c12.nest : Int) c12.err c12.pos;obtain ⟨Krc, Krn, Kt⟩ := vD hP Krc Krn Kt (by omega);replace Rc := hP.row Rc (by omega);replace Rq12 := hP.row Rq12 (by omega);have hs15 := hP.size;have hB15 := hP.below _ _ (by omega) hB13;clear hP hB13;replace Kp := KN;clear KN;go_upto_region 5 with fail;rw [<- hW14];clear hW14;clear p0 p1 p2 p3 p4 p5 p6 p7 pf0 pf1 pf2 pf3 pf4 pf5 pf6 pf7 f_rc;obtain ⟨⟨p0, p1, p2, p3, p4, p5, p6, p7⟩, pf0, pf1, pf2, pf3, pf4, pf5, pf6, pf7⟩ := zB Kp;have f_rc := xZ (zB Krc) (zA Krn) (zD Kt);go_wp2_with fail;clear p0 p1 p2 p3 p4 p5 p6 p7 pf0 pf1 pf2 pf3 pf4 pf5 pf6 pf7 f_rc;obtain ⟨W16, hW16, KN, hB, hz16⟩ := zT W14 #[.int .i64 2, .int .i64 tp, .int .i64 0, .string ⟨tt.toArray⟩, .slice none 0 0] 25;obtain ⟨Kp, Krc, Krn, Kt⟩ := wP hB Kp Krc Krn Kt;replace Rc := Rc.bl hB hn hB15;replace Rq12 := Rq12.bl hB hn hB15;have hs17 := hB.size;have hB17 := zS hB15 hB;clear hB hB15;have Km := KN;clear KN;rw [<- hW16];clear hW16;have hfw := HOK.out.few;go_loopg [28] (c.ws.length + 1) (fun gk q wr => ∃ (d : Cu) (ks : List Nd) (a5 : Option Addr) (ln5 cap5 : Nat) (kp : Option Addr) (kl kc : Nat), AaS n w (W14.heap.size) (W16.heap.size) (c.ws.length + 1) k rf c tp tt gk d ks (.slice a5 ln5 cap5) kp kl kc wr)
  case atStart => exact ⟨c12, [], a12, ln12, cap12, none, 0, 0, ⟨by rw [E12.out], fun _ => by rw [E12.out, (xH c).ws]; omega, by rw [E12.out]; exact .refl _, by simp, hB17, Nat.le_refl _, Kp, Krc, Krn, Km, Rq12, zR.nil⟩⟩
  case round =>
   obtain ⟨d, ks, a5, ln5, cap5, kp, kl, kc, HS⟩ := hrel;clear Kp Krc Krn Km Rc Rq12 hB17;have Kp := HS.pb;have Krc := HS.rcb;have Krn := HS.rnb;have Km := HS.nb;have hBw := HS.bel;have hlow := HS.low;have hsum := HS.sum;have Rd := HS.row;have Oo := HS.own;have HM := Lib.hid HS.eq;have HFW := Lib.hid HS.few;have HFN := Lib.hid HS.fine;clear HS;have HOD := Lib.hid (HFN.out.ok ((xH c).ok HOK.out));have HKC : Hid (200 <= c.nest + (k + 1)) := HK.out.resolve_right fun q => q HE.out
   have HKE : Hid (d.err = 0 -> 200 <= d.nest + (k + 1)) := fun he => by rw [HFN.out.nest he, (xH c).nest (by rw [vE]; exact HE.out)]; exact HKC.out
   have HKD : Hid (200 <= d.nest + (k + 1) \/ d.err ≠ 0) := by by_cases he : d.err = 0; exact .inl (HKE.out he); exact .inr he
   cases hb : wI d with
   | false =>
    have HQ : Hid (xV rf c = (d, .mk 2 tp 0 tt ks)) := by show _ = _; rw [HR.out, <- HM.out, bJ hb]
    have Tl := Oo.node 2 tp 0 tt;clear Oo;have HC := yS (zF.mk Rd) (Nat.le_trans hn hBw.size);rw [hb] at HC;obtain ⟨⟨p0, p1, p2, p3, p4, p5, p6, p7⟩, pf0, pf1, pf2, pf3, pf4, pf5, pf6, pf7⟩ := zB Kp;have f_rc := yH (zB Krc) (zA Krn);obtain ⟨⟨m0, m1, m2, m3, m4⟩, mf0, mf1, mf2, mf3, mf4⟩ := zA Km;go_wp2_with fail;refine HC.mono ?_; rintro e W18 ⟨rfl, hB⟩;clear HC;clear p0 p1 p2 p3 p4 p5 p6 p7 pf0 pf1 pf2 pf3 pf4 pf5 pf6 pf7 f_rc m0 m1 m2 m3 m4 mf0 mf1 mf2 mf3 mf4;obtain ⟨Kp, Krc, Krn, Km⟩ := wP hB Kp Krc Krn Km;replace Tl := Tl.keeps (.of_below hB);replace Rd := Rd.bl hB hn hBw;have hs19 := hB.size;have hB19 := zS hBw hB;clear hB hBw;obtain ⟨⟨p0, p1, p2, p3, p4, p5, p6, p7⟩, pf0, pf1, pf2, pf3, pf4, pf5, pf6, pf7⟩ := zB Kp;have f_rc := yH (zB Krc) (zA Krn);obtain ⟨⟨m0, m1, m2, m3, m4⟩, mf0, mf1, mf2, mf3, mf4⟩ := zA Km;go_upto_region 10 with fail;clear p0 p1 p2 p3 p4 p5 p6 p7 pf0 pf1 pf2 pf3 pf4 pf5 pf6 pf7 f_rc m0 m1 m2 m3 m4 mf0 mf1 mf2 mf3 mf4;obtain ⟨⟨p0, p1, p2, p3, p4, p5, p6, p7⟩, pf0, pf1, pf2, pf3, pf4, pf5, pf6, pf7⟩ := zB Kp;have f_rc := yH (zB Krc) (zA Krn);obtain ⟨⟨m0, m1, m2, m3, m4⟩, mf0, mf1, mf2, mf3, mf4⟩ := zA Km;obtain ⟨W20, hW20, KN, hP⟩ := zQ Krc (.slice a5 ln5 cap5) d.ep (d.nest : Int) d.err d.pos;obtain ⟨Kp, Krn, Km⟩ := vD hP Kp Krn Km (by omega);replace Tl := hP.node Tl (by omega);replace Rd := hP.row Rd (by omega);have hs21 := hP.size;have hB21 := hP.below _ _ (by omega) hB19;clear hP hB19;replace Krc := KN;clear KN;obtain ⟨W22, hW22, KN, hP⟩ := zZ (z := zN) Krn ⟨2, tp, 0, tt, kp, kl, kc⟩;obtain ⟨Kp, Krc, Km⟩ := vD hP Kp Krc Km (by omega);replace Tl := hP.node Tl (by omega);replace Rd := hP.row Rd (by omega);have hs23 := hP.size;have hB23 := hP.below _ _ (by omega) hB21;clear hP hB21;dsimp only [zN] at hW22 KN;replace Krn := KN;clear KN;go_region;rw [<- hW20, <- hW22];clear p0 p1 p2 p3 p4 p5 p6 p7 pf0 pf1 pf2 pf3 pf4 pf5 pf6 pf7 f_rc m0 m1 m2 m3 m4 mf0 mf1 mf2 mf3 mf4;obtain ⟨W24, hW24⟩ : ∃ x, x = W22.drew := ⟨_, rfl⟩;have hB : Below W22.heap.size W22 W24 := by rw [hW24]; exact (Below.refl _ _).drew
    rw [<- hW24];clear hW24;obtain ⟨Kp, Krc, Krn, Km⟩ := wP hB Kp Krc Krn Km;replace Tl := Tl.keeps (.of_below hB);replace Rd := Rd.bl hB hn hB23;have hs25 := hB.size;have hB25 := zS hB23 hB;clear hB hB23;go_wp2_with fail;obtain ⟨⟨y0, y1, y2, y3, y4, y5, y6, y7⟩, -⟩ := zB Krc;obtain ⟨⟨z0, z1, z2, z3, z4⟩, -⟩ := zA Krn;refine bodyPost_ret (v := .tuple #[.agg (zK (.slice a5 ln5 cap5) d.ep (d.nest : Int) d.err d.pos), NC.val ⟨2, tp, 0, tt, kp, kl, kc⟩]) (by simp [results, Tryz.results95, go_sem, y0, y1, y2, y3, y4, y5, y6, y7, z0, z1, z2, z3, z4, NC.val]) rfl ⟨_, ⟨2, tp, 0, tt, kp, kl, kc⟩, rfl, ?_, ?_, hB25⟩
    ·
     rw [HQ.out]; exact zF.mk Rd
    ·
     rw [HQ.out]; exact Tl.mono fun q hq _ => by omega
   | true =>
    cases gk with
    | zero => exact absurd (HFW.out hb) (Nat.not_lt_zero _)
    | succ gf =>
     have HC := yS (zF.mk Rd) (Nat.le_trans hn hBw.size);rw [hb] at HC;obtain ⟨⟨p0, p1, p2, p3, p4, p5, p6, p7⟩, pf0, pf1, pf2, pf3, pf4, pf5, pf6, pf7⟩ := zB Kp;have f_rc := yH (zB Krc) (zA Krn);obtain ⟨⟨m0, m1, m2, m3, m4⟩, mf0, mf1, mf2, mf3, mf4⟩ := zA Km;go_wp2_with fail;refine HC.mono ?_; rintro e W26 ⟨rfl, hB⟩;clear HC;clear p0 p1 p2 p3 p4 p5 p6 p7 pf0 pf1 pf2 pf3 pf4 pf5 pf6 pf7 f_rc m0 m1 m2 m3 m4 mf0 mf1 mf2 mf3 mf4;obtain ⟨Kp, Krc, Krn, Km⟩ := wP hB Kp Krc Krn Km;replace Oo := Oo.keep (zE hB (some w.heap.size)) (by omega);replace Rd := Rd.bl hB hn hBw;have hs27 := hB.size;have hB27 := zS hBw hB;clear hB hBw;have HBK : Hid (∀ b, (Value.slice kp kl kc).ownBlock = some b -> W16.heap.size <= b /\ b < W26.heap.size) := by obtain ⟨ds, _, q, _⟩ := Oo; exact fun b hb => q.lt b hb
     have HC := wT (zF.mk Rd) (Nat.le_trans hn hB27.size) HOD.out HF.out (fun _ => HWH.out HE.out) HKD.out;obtain ⟨c28, hE⟩ : ∃ q, q = (zO rf d).1 := ⟨_, rfl⟩;have E28 := Lib.hid hE;clear hE;obtain ⟨⟨p0, p1, p2, p3, p4, p5, p6, p7⟩, pf0, pf1, pf2, pf3, pf4, pf5, pf6, pf7⟩ := zB Kp;have f_rc := yH (zB Krc) (zA Krn);obtain ⟨⟨m0, m1, m2, m3, m4⟩, mf0, mf1, mf2, mf3, mf4⟩ := zA Km;go_wp2_with fail;refine HC.mono ?_; rintro e W28 ⟨x', e, rfl, hx, he, hB⟩;clear HC;rw [<- E28.out] at hx;obtain ⟨a28, ln28, cap28, rfl, hRq, -⟩ := hx.shape;have Rq28 := hRq.out;clear hx hRq;clear p0 p1 p2 p3 p4 p5 p6 p7 pf0 pf1 pf2 pf3 pf4 pf5 pf6 pf7 f_rc m0 m1 m2 m3 m4 mf0 mf1 mf2 mf3 mf4;obtain ⟨Kp, Krc, Krn, Km⟩ := wP hB Kp Krc Krn Km;replace Oo := Oo.keep (zE hB (some w.heap.size)) (by omega);replace Rd := Rd.bl hB hn hB27;have hs29 := hB.size;have hB29 := zS hB27 hB;clear hB hB27;obtain ⟨ek, ep, en, et, eq, el, ec⟩ := e;unfold NC.val;have Te := he.mono (S' := (fun q => W26.heap.size <= q)) fun q hq hl => (by omega)
     clear he;go_upto_region 8 with fail;replace Te := Te.mono (S' := (fun q => W26.heap.size <= q /\ q ≠ W28.heap.size /\ q ≠ W28.heap.size + 1)) fun q hq hl => ⟨by omega, by omega, by omega⟩
     obtain ⟨W30, hV, KC0, KN0, hB, hz30⟩ := vC W28 ((zK (.slice a28 ln28 cap28) c28.ep (c28.nest : Int) c28.err c28.pos)) 40 #[.int .i64 ek, .int .i64 ep, .int .i64 en, .string ⟨et.toArray⟩, .slice eq el ec] 25;rw [<- hV];clear hV;obtain ⟨Kp, Krc, Krn, Km⟩ := wP hB Kp Krc Krn Km;replace Te := Te.keeps (.of_below hB);replace Oo := Oo.keep (zE hB (some w.heap.size)) (by omega);replace Rd := Rd.bl hB hn hB29;replace Rq28 := Rq28.bl hB hn hB29;have hs31 := hB.size;have hB31 := zS hB29 hB;clear hB hB29;have Kg := KC0;clear KC0;have Km2 := KN0;clear KN0;obtain ⟨⟨p0, p1, p2, p3, p4, p5, p6, p7⟩, pf0, pf1, pf2, pf3, pf4, pf5, pf6, pf7⟩ := zB Kp;have f_rc := yH (zB Krc) (zA Krn);obtain ⟨⟨m0, m1, m2, m3, m4⟩, mf0, mf1, mf2, mf3, mf4⟩ := zA Km;obtain ⟨⟨g0, g1, g2, g3, g4, g5, g6, g7⟩, gf0, gf1, gf2, gf3, gf4, gf5, gf6, gf7⟩ := zB Kg;have f_m := zA Km2;obtain ⟨W32, hW32, KN, hP⟩ := zQ Kp (.slice a28 ln28 cap28) c28.ep (c28.nest : Int) c28.err c28.pos;obtain ⟨Krc, Krn, Km, Kg, Km2⟩ := gq5 hP Krc Krn Km Kg Km2 (by omega);replace Te := hP.node Te (by omega);replace Oo := Oo.keep hP.grown (by omega);replace Rd := hP.row Rd (by omega);replace Rq28 := hP.row Rq28 (by omega);have hs33 := hP.size;have hB33 := hP.below _ _ (by omega) hB31;clear hP hB31;replace Kp := KN;clear KN;go_upto_region 9 with fail;rw [<- hW32];clear hW32;clear p0 p1 p2 p3 p4 p5 p6 p7 pf0 pf1 pf2 pf3 pf4 pf5 pf6 pf7 f_rc m0 m1 m2 m3 m4 mf0 mf1 mf2 mf3 mf4 g0 g1 g2 g3 g4 g5 g6 g7 gf0 gf1 gf2 gf3 gf4 gf5 gf6 gf7 f_m;obtain ⟨⟨p0, p1, p2, p3, p4, p5, p6, p7⟩, pf0, pf1, pf2, pf3, pf4, pf5, pf6, pf7⟩ := zB Kp;have f_rc := yH (zB Krc) (zA Krn);obtain ⟨⟨m0, m1, m2, m3, m4⟩, mf0, mf1, mf2, mf3, mf4⟩ := zA Km;obtain ⟨⟨g0, g1, g2, g3, g4, g5, g6, g7⟩, gf0, gf1, gf2, gf3, gf4, gf5, gf6, gf7⟩ := zB Kg;have f_m := zA Km2;obtain ⟨ds, e1, e2, e3⟩ := Oo;have HE3 := Lib.hid e3;have HE1 := Lib.hid e1;clear e3 e1;go_wp2_with (at_builtin; refine yB rfl _ _ 23 rfl (W16.heap.size) 25 i0 _ 5 64 Tryz.underlying23 hi0 hz0 hz1 hz2 rfl (by decide) _ _ _ rfl (e2.alloc _) ⟨_, 0, none⟩ 1 1 (yJ ⟨ek, ep, en, et, eq, el, ec⟩) rfl rfl (cells_of_new _ _ _ _ rfl) (wD _) ?_ ?_ ?_ ?_; (unfold maxLen; omega); omega; (simp; omega); intro v3 w3 ho3 hg3 hat3; have hal := (World.grownBy_alloc W32 (.cells #[.int .i64 ek, .int .i64 ep, .int .i64 en, .string ⟨et.toArray⟩, .slice eq el ec] 25) (Value.slice kp kl kc).ownBlock).andThen hg3 (fun j hj => .inr hj); have hat4 : v3.ownBlock = (Value.slice kp kl kc).ownBlock \/ ∃ n, v3.ownBlock = some n /\ W32.heap.size <= n := hat3.imp id fun e => ⟨_, e, by simp⟩; have HO3 := zR.snoc HE1.out HE3.out (Te.mono fun b hb _ => ⟨by omega, fun e => by have := (HBK.out b e).2; omega⟩) ho3 hal hat4; obtain ⟨p3, cap3, q0⟩ := HO3.shape; have q3 : v3 = .slice p3 (ks.length + 1) cap3 := q0.trans (by rw [List.length_append]; rfl); clear q0; subst q3; have KM := (Km.later (w' := W32.alloc (.cells #[.int .i64 ek, .int .i64 ep, .int .i64 en, .string ⟨et.toArray⟩, .slice eq el ec] 25)) ((Below.refl _ _).alloc (Nat.le_refl _) _)).kept hg3 (fun e => by have := (HBK.out _ e.symm).1; omega); obtain ⟨⟨m0, m1, m2, m3, m4⟩, mf0, mf1, mf2, mf3, mf4⟩ := zA KM);have HB3 : Below w.heap.size W32 w3 := rD hal (fun b hb => by have := (HBK.out b hb).1; omega) (by omega);have hP := wE.one w3 (W14.heap.size) 4 (.slice p3 (ks.length + 1) cap3);have KM2 := KM.set 4 (.slice p3 (ks.length + 1) cap3);replace Kp := hP.blk (Kp.kept hal (fun e => by have := (HBK.out _ e.symm).1; omega)) (by omega);replace Krc := hP.blk (Krc.kept hal (fun e => by have := (HBK.out _ e.symm).1; omega)) (by omega);replace Krn := hP.blk (Krn.kept hal (fun e => by have := (HBK.out _ e.symm).1; omega)) (by omega);have HX6 := Lib.hid (HFW.out hb);have hsz3 := hal.size;have hsz4 := hP.size;go_roundg gf
     case measure => omega
     case rel =>
      refine ⟨c28, ks ++ [(zO rf d).2], a28, ln28, cap28, p3, _, cap3, ⟨?_, fun hb2 => ?_, ?_, ?_, hP.below _ _ (by omega) (hB33.trans HB3), by omega, Kp, Krc, Krn, KM2, hP.row (Rq28.below (HB3.mono hn)) (by omega), HO3.keep hP.grown (by omega)⟩⟩
      ·
       rw [E28.out, <- HM.out, fA hb]
      ·
       have g1 := yC (by rw [<- vP]; exact hb2);have g2 := wB (by rw [<- vP]; exact hb);have g3 := yC (by rw [<- vP]; exact hb);have g4 := HAT.out d (HKE.out g3) (by rw [<- E28.out]; exact g1);have g5 := (HFA.out d HKD.out).ws;rw [<- E28.out] at g4 g5;have g6 := HX6.out;rw [g5];omega
      ·
       rw [E28.out]; exact HFN.out.trans (HFA.out d HKD.out)
      ·
       simp; omega
end Go.Proofs.YtdjomhbmhooceaaGreat.N7
namespace Go.Proofs.YtdjomhbmhooceaaGreat.N7
open Go.RowKit N5 N6
theorem tE {wr : Cu -> Cu × Nd} {c : Cu} (h : c.err ≠ 0) : zO wr c = (c, tZ) := by unfold zO; rw [if_pos h]
theorem vN {wr : Cu -> Cu × Nd} {c : Cu} (h : c.err ≠ 0) : xV wr c = (c, tZ) := by
 unfold xV;rw [if_neg (by rw [wM h]; decide)];exact tE h
theorem fine_at (m : Nat) (c : Cu) (h : 200 <= c.nest + m \/ c.err ≠ 0) : zY c (atR m c).1 := by
 by_cases he : c.err = 0
 ·
  exact (pair_whole m c (h.resolve_right fun q => q he)).fine
 ·
  rw [atR_stuck m he]; exact .refl c
theorem rK (m : Nat) (c : Cu) (h : 200 <= c.nest + (m + 1) \/ c.err ≠ 0) : zY c (zO (atR m) c).1 := by
 by_cases he : c.err = 0
 ·
  exact (xN (pair_whole m) c (h.resolve_right fun q => q he)).fine
 ·
  rw [tE he]; exact .refl c
theorem AbG (m : Nat) (c : Cu) (h : 200 <= c.nest + (m + 1) \/ c.err ≠ 0) : zY c (xV (atR m) c).1 := by
 by_cases he : c.err = 0
 ·
  exact (qF (pair_whole m) c (h.resolve_right fun q => q he)).fine
 ·
  rw [vN he]; exact .refl c
theorem AaV (m : Nat) (c : Cu) : atR (m + 1) c = qP (xV (atR m) c.enter) (atR m) := rfl
def eC (n m : Nat) : Prop := ∀ (c : Cu) (W : World) (x : Value), 200 <= c.nest + m \/ c.err ≠ 0 -> yZ c -> zF n W x c -> n <= W.heap.size -> Calls Tryz.prog 64 #[x] W (yE n (atR m c) W)
theorem refat_any (n : Nat) : ∀ m, eC n m
 | 0 => fun c W x h hok hx hn => by
  have he : c.enter.err ≠ 0 := by
   by_cases he : c.enters = true
   ·
    obtain ⟨h1, h2⟩ := yF.1 he;have := h.resolve_right fun q => q h1
    omega
   ·
    exact (xC he).1
  have hb : qP (xV (atR 0) c.enter) (atR 0) = atR 0 c := by
   rw [vN he];unfold qP;dsimp only;rw [xM he, yO he];rfl
  rw [<- hb];refine uB hx hn hok (fun W x hx hn => nL hx hn (uC hok) (fine_at 0) (rK 0) (fun c hk h => vV (pair_whole 0) c hk h) (fun q => absurd q he) (.inr he)) ?_ (fun q => ?_) (fun q => ?_)
  ·
   rw [vN he]; exact uC hok
  ·
   rw [vN he, xM he] at q; exact absurd q (by decide)
  ·
   rw [vN he, xM he] at q; exact absurd q (by decide)
 | m + 1 => fun c W x h hok hx hn => by
  have IH := refat_any n m;rw [AaV];have hc : 200 <= c.enter.nest + (m + 1) \/ c.enter.err ≠ 0 := by
   by_cases he : c.enters = true
   ·
    have h1 := (yF.1 he).1;rw [yR he];exact .inl (by have := h.resolve_right fun q => q h1; show 200 <= c.nest + 1 + (m + 1); omega)
   ·
    exact .inr (xC he).1
  have hf := AbG m c.enter hc;have ht : (xV (atR m) c.enter).1.is [45, 62] = true -> 200 <= ((xV (atR m) c.enter).1.take [45, 62]).nest + m \/ ((xV (atR m) c.enter).1.take [45, 62]).err ≠ 0 := fun q => by
   have e1 := vT q;have e2 := hf.err e1;have e3 : c.enters = true := Decidable.byContradiction fun k => (xC k).1 e2
   have h1 := (yF.1 e3).1;refine .inl ?_;rw [(yD _ _).nest (by rw [uE]; exact e1), hf.nest e1, yR e3];have := h.resolve_right fun q => q h1
   show 200 <= c.nest + 1 + m;omega
  have ho : yZ ((xV (atR m) c.enter).1) := hf.ok (uC hok);exact uB hx hn hok (fun W x hx hn => nL hx hn (uC hok) (fine_at m) (rK m) (fun c hk h => vV (pair_whole m) c hk h) (fun _ c W x h1 h2 h3 h4 => IH c W x h1 h2 h3 h4) hc) ho
   (fun q W x hx hn => IH _ W x (ht q) ((yD _ _).ok ho) hx hn) (fun q => (fine_at m _ (ht q)).ok ((yD _ _).ok ho))
end Go.Proofs.YtdjomhbmhooceaaGreat.N7
namespace Go.Proofs.YtdjomhbmhooceaaGreat.N7
open Go.RowKit N5 N6
attribute [local go_sem] xB xA
end Go.Proofs.YtdjomhbmhooceaaGreat.N7
namespace Go.Proofs.YtdjomhbmhooceaaGreat.N7
open Go.RowKit N5 N6
attribute [local go_sem] xB xA
theorem dH {W : World} {v : Value} {xs : List Tk} (h : tL W v xs) : xW W.heap.size W v xs := by
 rcases h with ⟨h1, h2⟩ | ⟨a, cap, h1, h2, h3⟩
 ·
  exact ⟨none, 0, by rw [h1, h2]; rfl, by rw [h2]; exact Nat.le_refl _, .inl h2⟩
 ·
  refine ⟨some a, cap, h1, h2, ?_⟩;rcases h3 with h3 | ⟨g, o, h4, h5, h6⟩
  ·
   exact .inl h3
  ·
   exact .inr ⟨g, o, by rw [h4], h5, h6⟩
theorem AaI (xs : List Tk) (h : xs.length <= 4000) : yZ (uL xs) := ⟨Nat.zero_le _, by show (xs.take (endL xs)).length <= 4000; rw [List.length_take]; omega, oO xs, Nat.zero_le _⟩
end Go.Proofs.YtdjomhbmhooceaaGreat.N7
