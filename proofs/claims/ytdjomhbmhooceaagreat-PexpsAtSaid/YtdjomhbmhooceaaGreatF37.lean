import Derived.Test.YtdjomhbmhooceaaGreatF35
import Derived.Test.YtdjomhbmhooceaaGreatF36
set_option maxHeartbeats 4000000
set_option maxRecDepth 100000
set_option linter.unusedVariables false
set_option linter.unusedSimpArgs false
namespace Go.Proofs.YtdjomhbmhooceaaGreat.N9
open Go.RowKit N5 N6 N7
attribute [local go_sem] xB xA
theorem lQ {n : Nat} {w : World} {x : Value} {c : Cu} (h : zF n w x c) (hn : n <= w.heap.size) : Calls Tryz.prog 103 #[x] w (fun e w' => ∃ x', e = .returned (.tuple #[x', .bool (vQ c)]) /\ zF n w' x' (c.take [59]) /\ Below w.heap.size w w') := jH h hn
theorem fU {rd : Cu -> Cu × Nd} {f : Nat} {c : Cu} {l : List Nd} : wJ rd (f + 1) c l = if vQ (rd c).1 = true then wJ rd f ((rd c).1.take [59]) (l ++ [(rd c).2]) else ((rd c).1.take [59], l ++ [(rd c).2]) := rfl
theorem dM {c : Cu} (h : vQ c = true) : c.is [59] = true := by unfold vQ at h; simp only [Bool.and_eq_true] at h; exact h.1
structure RowsRSt (n : Nat) (w : World) (mb LB F : Nat) (rd : Cu -> Cu × Nd) (c0 : Cu) (l0 : List Nd) (kd ps : Int) (gk : Nat) (d : Cu) (ks : List Nd) (mo : Bool) (u : Value) (kp : Option Addr) (kl kc : Nat) (W : World) : Prop where
 eq : (if mo = true then wJ rd gk d ks else (d, ks)) = wJ rd F c0 l0
 few : mo = true -> d.ws.length - d.at' < gk
 fine : zY c0 d
 sum : ks.length + gk <= F + 1
 bel : Below w.heap.size w W
 low : LB <= W.heap.size
 pb : zW W w.heap.size (zK u d.ep (d.nest : Int) d.err d.pos) 40
 rcb : zW W (w.heap.size + 1) (zK (.slice none 0 0) 0 0 0 0) 40
 rnb : zW W (w.heap.size + 1 + 1) #[.int .i64 0, .int .i64 0, .int .i64 0, .string ⟨#[]⟩, .slice none 0 0] 25
 nb : zW W mb #[.int .i64 kd, .int .i64 ps, .int .i64 0, .string ⟨#[]⟩, .slice kp kl kc] 25
 row : xW n W u (d.ws.drop d.at')
 own : zR LB W (.slice kp kl kc) ks
theorem gO {rf : Cu -> Cu × Nd} {n k : Nat} {w : World} {x : Value} {c : Cu} (h : zF n w x c) (hn : n <= w.heap.size) (hok : yZ c) (hf : rS k rf) (hat : pB n k rf) (hk : 200 <= c.nest + k \/ c.err ≠ 0) (ps : Int) (hb : ∀ (d : Cu) (W : World) (x : Value), 200 <= d.nest + k \/ d.err ≠ 0 -> yZ d -> zF n W x d -> n <= W.heap.size -> Calls Tryz.prog 13 #[x] W (yE n (wR rf d) W)) (hfb : rS k (wR rf)) : Calls Tryz.prog 68 #[x, .int .i64 ps] w (yE n (mT rf c ps) w) := by
 have HFEW := Lib.hid hok.few;have HBN := Lib.hid hb;have HFB := Lib.hid hfb;obtain ⟨i0, hi0, hy0, hy1, hy2⟩ := info_parts wS;clear hb hfb;have HF := Lib.hid hf;have HAT := Lib.hid hat;have O0 := Lib.hid hok;have K0 := Lib.hid hk;clear hf hat hok hk;obtain ⟨a, ln, cap, rfl, hr, -⟩ := h.shape;clear h;obtain ⟨W1, hW1, Kp, Krc, Krn, hB1, hsz⟩ := qE w ((zK (.slice a ln cap) c.ep (c.nest : Int) c.err c.pos)) 40 ((zK (.slice none 0 0) 0 0 0 0)) 40 #[.int .i64 0, .int .i64 0, .int .i64 0, .string ⟨#[]⟩, .slice none 0 0] 25;have Rc : xW n W1 (.slice a ln cap) (c.ws.drop c.at') := hr.out.below (hB1.mono hn);have HW1 := Lib.hid hW1;clear hW1 hr;go_enter Tryz.func68, Tryz.ntmps68;go_upto_region 1 with fail;rw [<- HW1.out];clear HW1;have f_p := xZ (zB Kp) (zB Krc) (zA Krn);go_upto_region 2 with fail;obtain ⟨W2, hW2, KN, hB, hz2⟩ := zT W1 #[.int .i64 26, .int .i64 ps, .int .i64 0, .string ⟨#[]⟩, .slice none 0 0] 25;rw [<- hW2];clear hW2;obtain ⟨Kp, Krc, Krn⟩ := vK hB Kp Krc Krn;replace Rc := Rc.bl hB hn hB1;have hs3 := hB.size;have hB3 := zS hB1 hB;clear hB hB1;have Km := KN;clear KN;have HC := yK (zF.mk Rc) (Nat.le_trans hn hB3.size) [123];obtain ⟨c4, hE⟩ : ∃ q, q = c.want [123] := ⟨_, rfl⟩;rw [<- hE] at HC;have E4 := Lib.hid hE;clear hE;have f_p := xZ (zB Kp) (zB Krc) (zA Krn);obtain ⟨⟨m0, m1, m2, m3, m4⟩, mf0, mf1, mf2, mf3, mf4⟩ := zA Km;go_wp2_with fail;refine HC.mono ?_; rintro e W4 ⟨x', rfl, hx, hB⟩;clear HC;obtain ⟨a4, ln4, cap4, rfl, hRq, -⟩ := hx.shape;have Rq4 := hRq.out;clear hx hRq;clear f_p m0 m1 m2 m3 m4 mf0 mf1 mf2 mf3 mf4;obtain ⟨Kp, Krc, Krn, Km⟩ := wP hB Kp Krc Krn Km;replace Rc := Rc.bl hB hn hB3;have hs5 := hB.size;have hB5 := zS hB3 hB;clear hB hB3;have F4 : Hid (zY c c4) := by show zY _ _; rw [E4.out]; exact zL _ _
 have O4 := Lib.hid (F4.out.ok O0.out);have K4 := Lib.hid (wH K0.out F4.out);have f_p := xZ (zB Kp) (zB Krc) (zA Krn);obtain ⟨⟨m0, m1, m2, m3, m4⟩, mf0, mf1, mf2, mf3, mf4⟩ := zA Km;obtain ⟨W6, hW6, KN, hP⟩ := zQ Kp (.slice a4 ln4 cap4) c4.ep (c4.nest : Int) c4.err c4.pos;obtain ⟨Krc, Krn, Km⟩ := vD hP Krc Krn Km (by omega);replace Rc := hP.row Rc (by omega);replace Rq4 := hP.row Rq4 (by omega);have hs7 := hP.size;have hB7 := hP.below _ _ (by omega) hB5;clear hP hB5;replace Kp := KN;clear KN;go_upto_region 3 with fail;rw [<- hW6];clear hW6;clear f_p m0 m1 m2 m3 m4 mf0 mf1 mf2 mf3 mf4;obtain ⟨F, hF⟩ : ∃ F, F = c.ws.length + 2 := ⟨_, rfl⟩;have HR : Hid (mT rf c ps = ((rf (((wJ (wR rf) F c4 []).1.want [125]).want [105, 110])).1, .mk 26 ps 0 [] ((wJ (wR rf) F c4 []).2 ++ [(rf (((wJ (wR rf) F c4 []).1.want [125]).want [105, 110])).2]))) := by show _ = _; rw [hF, E4.out]; rfl
 have hF1 : F <= 4002 := by have := HFEW.out; omega
 have hF2 : c4.ws.length - c4.at' < F := by rw [F4.out.ws]; omega
 clear hF;have hLB : W1.heap.size < W6.heap.size := by omega
 have hMB : w.heap.size + 1 + 1 < W1.heap.size := by omega
 have f_p := xZ (zB Kp) (zB Krc) (zA Krn);obtain ⟨⟨m0, m1, m2, m3, m4⟩, mf0, mf1, mf2, mf3, mf4⟩ := zA Km;go_wp2_with fail;clear f_p m0 m1 m2 m3 m4 mf0 mf1 mf2 mf3 mf4;go_loopg [7] F (fun gk q wr => ∃ (d : Cu) (ks : List Nd) (mo : Bool) (a5 : Option Addr) (ln5 cap5 : Nat) (kp : Option Addr) (kl kc : Nat), q = .bool mo /\ RowsRSt n w (W1.heap.size) (W6.heap.size) F (wR rf) c4 [] 26 ps gk d ks mo (.slice a5 ln5 cap5) kp kl kc wr)
 case atStart => exact ⟨c4, [], true, a4, ln4, cap4, none, 0, 0, rfl, ⟨rfl, fun _ => hF2, .refl _, by simp, hB7, Nat.le_refl _, Kp, Krc, Krn, Km, Rq4, zR.nil⟩⟩
 case round =>
  obtain ⟨d, ks, mo, a5, ln5, cap5, kp, kl, kc, rfl, HS⟩ := hrel;clear Kp Krc Krn Km Rc hB7;try clear Rq4
  have Kp := HS.pb;have Krc := HS.rcb;have Krn := HS.rnb;have Km := HS.nb;have hBw := HS.bel;have hlow := HS.low;have hsum := HS.sum;have Rd := HS.row;have Oo := HS.own;have HM := Lib.hid HS.eq;have HFW := Lib.hid HS.few;have FD := Lib.hid HS.fine;clear HS;have OD := Lib.hid (FD.out.ok O4.out);have KD := Lib.hid (wH K4.out FD.out);cases mo with
  | false =>
   have HMM : Hid (wJ (wR rf) F c4 [] = (d, ks)) := by show _ = _; rw [<- HM.out]; rfl
   have HQ : Hid (mT rf c ps = ((rf ((d.want [125]).want [105, 110])).1, .mk 26 ps 0 [] (ks ++ [(rf ((d.want [125]).want [105, 110])).2]))) := by show _ = _; rw [HR.out, HMM.out]
   clear HMM HM;have HC := yK (zF.mk Rd) (Nat.le_trans hn hBw.size) [125];obtain ⟨c8, hE⟩ : ∃ q, q = d.want [125] := ⟨_, rfl⟩;rw [<- hE] at HC;have E8 := Lib.hid hE;clear hE;have f_p := xZ (zB Kp) (zB Krc) (zA Krn);obtain ⟨⟨m0, m1, m2, m3, m4⟩, mf0, mf1, mf2, mf3, mf4⟩ := zA Km;go_wp2_with fail;refine HC.mono ?_; rintro e W8 ⟨x', rfl, hx, hB⟩;clear HC;obtain ⟨a8, ln8, cap8, rfl, hRq, -⟩ := hx.shape;have Rq8 := hRq.out;clear hx hRq;clear f_p m0 m1 m2 m3 m4 mf0 mf1 mf2 mf3 mf4;obtain ⟨Kp, Krc, Krn, Km⟩ := wP hB Kp Krc Krn Km;replace Oo := Oo.keep (zE hB (some w.heap.size)) (by omega);replace Rd := Rd.bl hB hn hBw;have hs9 := hB.size;have hB9 := zS hBw hB;clear hB hBw;have F8 : Hid (zY d c8) := by show zY _ _; rw [E8.out]; exact zL _ _
   have O8 := Lib.hid (F8.out.ok OD.out);have K8 := Lib.hid (wH KD.out F8.out);rw [<- E8.out] at HQ;have f_p := xZ (zB Kp) (zB Krc) (zA Krn);obtain ⟨⟨m0, m1, m2, m3, m4⟩, mf0, mf1, mf2, mf3, mf4⟩ := zA Km;obtain ⟨W10, hW10, KN, hP⟩ := zQ Kp (.slice a8 ln8 cap8) c8.ep (c8.nest : Int) c8.err c8.pos;obtain ⟨Krc, Krn, Km⟩ := vD hP Krc Krn Km (by omega);replace Oo := Oo.keep hP.grown (by omega);replace Rd := hP.row Rd (by omega);replace Rq8 := hP.row Rq8 (by omega);have hs11 := hP.size;have hB11 := hP.below _ _ (by omega) hB9;clear hP hB9;replace Kp := KN;clear KN;go_upto_region 9 with fail;rw [<- hW10];clear hW10;clear f_p m0 m1 m2 m3 m4 mf0 mf1 mf2 mf3 mf4;have HC := yK (zF.mk Rq8) (Nat.le_trans hn hB11.size) [105, 110];obtain ⟨c12, hE⟩ : ∃ q, q = c8.want [105, 110] := ⟨_, rfl⟩;rw [<- hE] at HC;have E12 := Lib.hid hE;clear hE;have f_p := xZ (zB Kp) (zB Krc) (zA Krn);obtain ⟨⟨m0, m1, m2, m3, m4⟩, mf0, mf1, mf2, mf3, mf4⟩ := zA Km;go_wp2_with fail;refine HC.mono ?_; rintro e W12 ⟨x', rfl, hx, hB⟩;clear HC;obtain ⟨a12, ln12, cap12, rfl, hRq, -⟩ := hx.shape;have Rq12 := hRq.out;clear hx hRq;clear f_p m0 m1 m2 m3 m4 mf0 mf1 mf2 mf3 mf4;obtain ⟨Kp, Krc, Krn, Km⟩ := wP hB Kp Krc Krn Km;replace Oo := Oo.keep (zE hB (some w.heap.size)) (by omega);replace Rd := Rd.bl hB hn hB11;replace Rq8 := Rq8.bl hB hn hB11;have hs13 := hB.size;have hB13 := zS hB11 hB;clear hB hB11;have F12 : Hid (zY c8 c12) := by show zY _ _; rw [E12.out]; exact zL _ _
   have O12 := Lib.hid (F12.out.ok O8.out);have K12 := Lib.hid (wH K8.out F12.out);rw [<- E12.out] at HQ;have f_p := xZ (zB Kp) (zB Krc) (zA Krn);obtain ⟨⟨m0, m1, m2, m3, m4⟩, mf0, mf1, mf2, mf3, mf4⟩ := zA Km;obtain ⟨W14, hW14, KN, hP⟩ := zQ Kp (.slice a12 ln12 cap12) c12.ep (c12.nest : Int) c12.err c12.pos;obtain ⟨Krc, Krn, Km⟩ := vD hP Krc Krn Km (by omega);replace Oo := Oo.keep hP.grown (by omega);replace Rd := hP.row Rd (by omega);replace Rq8 := hP.row Rq8 (by omega);replace Rq12 := hP.row Rq12 (by omega);have hs15 := hP.size;have hB15 := hP.below _ _ (by omega) hB13;clear hP hB13;replace Kp := KN;clear KN;go_upto_region 10 with fail;rw [<- hW14];clear hW14;clear f_p m0 m1 m2 m3 m4 mf0 mf1 mf2 mf3 mf4;have HBK : Hid (∀ b, (Value.slice kp kl kc).ownBlock = some b -> W6.heap.size <= b /\ b < W14.heap.size) := by obtain ⟨ds, _, q, _⟩ := Oo; exact fun b hb => q.lt b hb
   have HC := HAT.out _ _ _ K12.out O12.out (zF.mk Rq12) (Nat.le_trans hn hB15.size);obtain ⟨c16, hE⟩ : ∃ q, q = (rf c12).1 := ⟨_, rfl⟩;have E16 := Lib.hid hE;clear hE;have f_p := xZ (zB Kp) (zB Krc) (zA Krn);obtain ⟨⟨m0, m1, m2, m3, m4⟩, mf0, mf1, mf2, mf3, mf4⟩ := zA Km;go_wp2_with fail;refine HC.mono ?_; rintro e W16 ⟨x', e, rfl, hx, he, hB⟩;clear HC;rw [<- E16.out] at hx;obtain ⟨a16, ln16, cap16, rfl, hRq, -⟩ := hx.shape;have Rq16 := hRq.out;clear hx hRq;clear f_p m0 m1 m2 m3 m4 mf0 mf1 mf2 mf3 mf4;obtain ⟨Kp, Krc, Krn, Km⟩ := wP hB Kp Krc Krn Km;replace Oo := Oo.keep (zE hB (some w.heap.size)) (by omega);replace Rd := Rd.bl hB hn hB15;replace Rq8 := Rq8.bl hB hn hB15;replace Rq12 := Rq12.bl hB hn hB15;have hs17 := hB.size;have hB17 := zS hB15 hB;clear hB hB15;have F16 : Hid (zY c12 c16) := by show zY _ _; rw [E16.out]; exact HF.out _ K12.out
   have O16 := Lib.hid (F16.out.ok O12.out);have K16 := Lib.hid (wH K12.out F16.out);obtain ⟨ek, ep, en, et, eq, el, ec⟩ := e;unfold NC.val;have Te := he.mono (S' := (fun q => W14.heap.size <= q)) fun q hq hl => (by omega)
   clear he;rw [<- E16.out] at HQ;have HBV : Hid (∀ b, (Value.slice kp kl kc).ownBlock = some b -> b < W16.heap.size) := fun b hb => by have := (HBK.out b hb).2; omega
   replace Te := Te.mono (S' := (fun q => W14.heap.size <= q /\ q ≠ W16.heap.size)) fun q hq hl => ⟨by omega, by omega⟩
   obtain ⟨W18, hW18, KN, hB, -⟩ := zT W16 #[.int .i64 0, .int .i64 0, .int .i64 0, .string ⟨#[]⟩, .slice none 0 0] 25;have hA18 := hB;have hz18 : W16.heap.size + 1 <= W18.heap.size := by rw [hW18]; simp
   obtain ⟨Kp, Krc, Krn, Km⟩ := wP hB Kp Krc Krn Km;replace Rd := Rd.bl hB hn hB17;replace Rq8 := Rq8.bl hB hn hB17;replace Rq12 := Rq12.bl hB hn hB17;replace Rq16 := Rq16.bl hB hn hB17;have hs19 := hB.size;have hB19 := zS hB17 hB;clear hB hB17;have Km3 := KN;clear KN;have HV := Lib.hid hW18;clear hW18;have np : W16.heap.size ≠ w.heap.size := by omega
   have op : w.heap.size ≠ W16.heap.size := by omega
   have nrc : W16.heap.size ≠ w.heap.size + 1 := by omega
   have orc : w.heap.size + 1 ≠ W16.heap.size := by omega
   have nrn : W16.heap.size ≠ w.heap.size + 1 + 1 := by omega
   have orn : w.heap.size + 1 + 1 ≠ W16.heap.size := by omega
   have nm : W16.heap.size ≠ W1.heap.size := by omega
   have om : W1.heap.size ≠ W16.heap.size := by omega
   have f_p := yH (zB Kp) (zA Km3);rw [HV.out] at f_p;obtain ⟨W20, hW20, KN, hP⟩ := zQ Kp (.slice a16 ln16 cap16) c16.ep (c16.nest : Int) c16.err c16.pos;have hP20 := hP;obtain ⟨Krc, Krn, Km, Km3⟩ := lY hP Krc Krn Km Km3 (by omega);replace Rd := hP.row Rd (by omega);replace Rq8 := hP.row Rq8 (by omega);replace Rq12 := hP.row Rq12 (by omega);replace Rq16 := hP.row Rq16 (by omega);have hs21 := hP.size;have hB21 := hP.below _ _ (by omega) hB19;clear hP hB19;replace Kp := KN;clear KN;obtain ⟨W22, hW22, KN, hP⟩ := zZ (z := zN) Km3 ⟨ek, ep, en, et, eq, el, ec⟩;have hP22 := hP;obtain ⟨Kp, Krc, Krn, Km⟩ := lY hP Kp Krc Krn Km (by omega);replace Rd := hP.row Rd (by omega);replace Rq8 := hP.row Rq8 (by omega);replace Rq12 := hP.row Rq12 (by omega);replace Rq16 := hP.row Rq16 (by omega);have hs23 := hP.size;have hB23 := hP.below _ _ (by omega) hB21;clear hP hB21;dsimp only [zN] at hW22 KN;replace Km3 := KN;clear KN;go_upto_region 11 with fail;rw [<- HV.out, <- hW20, <- hW22];replace Te := Te.keeps (w' := W22) ⟨by omega, fun q hq hql => (hP22.other q (by omega)).trans ((hP20.other q (by omega)).trans (hA18.block q hql))⟩;have hOG : W16.grownBy W22 (some w.heap.size) := ⟨hP22.grown.os.trans (hP20.grown.os.trans hA18.os), hP22.grown.tape.trans (hP20.grown.tape.trans hA18.tape), hP22.grown.output.trans (hP20.grown.output.trans hA18.output), by omega, fun q hq hne => (hP22.other q (by omega)).trans ((hP20.other q (fun e => hne (by rw [e]))).trans (hA18.block q hq))⟩;replace Oo := Oo.keep hOG (by omega);clear hOG;clear HV hW20 hW22 hP20 hP22 hA18 f_p;have f_p := zB Kp;have f_rc := zB Krc;have f_rn := zA Krn;obtain ⟨⟨m0, m1, m2, m3, m4⟩, mf0, mf1, mf2, mf3, mf4⟩ := zA Km;have f_m := zA Km3;obtain ⟨ds, e1, e2, e3⟩ := Oo;have HE3 := Lib.hid e3;have HE1 := Lib.hid e1;clear e3 e1;go_upto_region 12 with (at_builtin; refine yB rfl _ _ 23 rfl (W6.heap.size) 25 i0 _ 5 64 Tryz.underlying23 hi0 hy0 hy1 hy2 rfl (by decide) _ _ _ rfl (e2.alloc _) ⟨_, 0, none⟩ 1 1 (yJ ⟨ek, ep, en, et, eq, el, ec⟩) rfl rfl (cells_of_new _ _ _ _ rfl) (wD _) ?_ ?_ ?_ ?_; (unfold maxLen; omega); omega; (simp; omega); intro v3 w3 ho3 hg3 hat3; have hal := (World.grownBy_alloc W22 (.cells #[.int .i64 ek, .int .i64 ep, .int .i64 en, .string ⟨et.toArray⟩, .slice eq el ec] 25) (Value.slice kp kl kc).ownBlock).andThen hg3 (fun j hj => .inr hj); have hat4 : v3.ownBlock = (Value.slice kp kl kc).ownBlock \/ ∃ n, v3.ownBlock = some n /\ W22.heap.size <= n := hat3.imp id fun e => ⟨_, e, by simp⟩; have HO3 := zR.snoc HE1.out HE3.out (Te.mono fun b hb _ => ⟨by omega, fun e => by have := (HBK.out b e).2; omega⟩) ho3 hal hat4; obtain ⟨pz3, capz3, q0⟩ := HO3.shape; have q3 : v3 = .slice pz3 (ks.length + 1) capz3 := q0.trans (by rw [List.length_append]; rfl); clear q0; subst q3; have KM := (Km.later (w' := W22.alloc (.cells #[.int .i64 ek, .int .i64 ep, .int .i64 en, .string ⟨et.toArray⟩, .slice eq el ec] 25)) ((Below.refl _ _).alloc (Nat.le_refl _) _)).kept hg3 (fun e => by have := (HBK.out _ e.symm).1; omega); obtain ⟨⟨m0, m1, m2, m3, m4⟩, mf0, mf1, mf2, mf3, mf4⟩ := zA KM);have HB3 : Below w.heap.size W22 w3 := rT hal (fun b hb => by have := (HBK.out b hb).1; omega) (by omega);have hP := wE.one w3 (W1.heap.size) 4 (.slice pz3 (ks.length + 1) capz3);have KM2 := KM.set 4 (.slice pz3 (ks.length + 1) capz3);have hsz3 := hal.size;try clear hg3
   try clear hat3
   try clear hat4
   try clear ho3
   try clear e2
   try clear HE1
   try clear HE3
   try clear KM
   try clear m0
   try clear m1
   try clear m2
   try clear m3
   try clear m4
   try clear mf0
   try clear mf1
   try clear mf2
   try clear mf3
   try clear mf4
   try clear Km
   try clear f_p
   try clear f_p
   try clear f_p
   try clear f_p
   try clear f_p
   try clear f_p
   try clear f_p
   try clear f_p
   try clear f_p
   try clear f_p
   try clear f_p
   try clear f_p
   try clear f_p
   try clear f_p
   try clear f_p
   try clear f_p
   try clear f_rc
   try clear f_rc
   try clear f_rc
   try clear f_rc
   try clear f_rc
   try clear f_rc
   try clear f_rc
   try clear f_rc
   try clear f_rc
   try clear f_rc
   try clear f_rc
   try clear f_rc
   try clear f_rc
   try clear f_rc
   try clear f_rc
   try clear f_rc
   try clear f_rn
   try clear f_rn
   try clear f_rn
   try clear f_rn
   try clear f_rn
   try clear f_rn
   try clear f_rn
   try clear f_rn
   try clear f_rn
   try clear f_rn
   try clear m0
   try clear m1
   try clear m2
   try clear m3
   try clear m4
   try clear mf0
   try clear mf1
   try clear mf2
   try clear mf3
   try clear mf4
   try clear f_m
   try clear f_m
   try clear f_m
   try clear f_m
   try clear f_m
   try clear f_m
   try clear f_m
   try clear f_m
   try clear f_m
   try clear f_m
   obtain ⟨W24, hWS⟩ : ∃ x, x = w3.setCell ⟨W1.heap.size, 4, none⟩ (.slice pz3 (ks.length + 1) capz3) := ⟨_, rfl⟩;rw [<- hWS] at hP KM2 ⊢;replace Kp := hP.blk (Kp.kept hal (fun e => by have := (HBK.out _ e.symm); omega)) (by omega);replace Krc := hP.blk (Krc.kept hal (fun e => by have := (HBK.out _ e.symm); omega)) (by omega);replace Krn := hP.blk (Krn.kept hal (fun e => by have := (HBK.out _ e.symm); omega)) (by omega);replace Km3 := hP.blk (Km3.kept hal (fun e => by have := (HBK.out _ e.symm); omega)) (by omega);have Km := KM2;clear KM2;replace Rd := hP.row (Rd.below (HB3.mono hn)) (by omega);replace Rq8 := hP.row (Rq8.below (HB3.mono hn)) (by omega);replace Rq12 := hP.row (Rq12.below (HB3.mono hn)) (by omega);replace Rq16 := hP.row (Rq16.below (HB3.mono hn)) (by omega);have hB24 := hP.below _ _ (by omega) (hB23.trans HB3);have hs24 := hP.size;have Oo := HO3.keep hP.grown (by omega);clear HO3 HB3 hal hWS hP hB23 Te;clear Km3;have Tl := Oo.node 26 ps 0 [];clear Oo;have na_m : W1.heap.size ≠ w.heap.size + 1 := by omega
   have nb_m : W1.heap.size ≠ w.heap.size + 1 + 1 := by omega
   have f_p := xZ (zB Kp) (zB Krc) (zA Krn);obtain ⟨⟨m0, m1, m2, m3, m4⟩, mf0, mf1, mf2, mf3, mf4⟩ := zA Km;clear f_p m0 m1 m2 m3 m4 mf0 mf1 mf2 mf3 mf4;have f_p := xZ (zB Kp) (zB Krc) (zA Krn);obtain ⟨⟨m0, m1, m2, m3, m4⟩, mf0, mf1, mf2, mf3, mf4⟩ := zA Km;obtain ⟨W25, hW25, KN, hP⟩ := zQ Krc (.slice a16 ln16 cap16) c16.ep (c16.nest : Int) c16.err c16.pos;obtain ⟨Kp, Krn, Km⟩ := vD hP Kp Krn Km (by omega);replace Tl := hP.node Tl (by omega);replace Rd := hP.row Rd (by omega);replace Rq8 := hP.row Rq8 (by omega);replace Rq12 := hP.row Rq12 (by omega);replace Rq16 := hP.row Rq16 (by omega);have hs26 := hP.size;have hB26 := hP.below _ _ (by omega) hB24;clear hP hB24;replace Krc := KN;clear KN;obtain ⟨W27, hW27, KN, hP⟩ := zZ (z := zN) Krn ⟨26, ps, 0, [], pz3, ks.length + 1, capz3⟩;obtain ⟨Kp, Krc, Km⟩ := vD hP Kp Krc Km (by omega);replace Tl := hP.node Tl (by omega);replace Rd := hP.row Rd (by omega);replace Rq8 := hP.row Rq8 (by omega);replace Rq12 := hP.row Rq12 (by omega);replace Rq16 := hP.row Rq16 (by omega);have hs28 := hP.size;have hB28 := hP.below _ _ (by omega) hB26;clear hP hB26;dsimp only [zN] at hW27 KN;replace Krn := KN;clear KN;go_region;rw [<- hW25, <- hW27];clear f_p m0 m1 m2 m3 m4 mf0 mf1 mf2 mf3 mf4;obtain ⟨W29, hW29⟩ : ∃ x, x = W27.drew := ⟨_, rfl⟩;have hB : Below W27.heap.size W27 W29 := by rw [hW29]; exact (Below.refl _ _).drew
   rw [<- hW29];clear hW29;obtain ⟨Kp, Krc, Krn, Km⟩ := wP hB Kp Krc Krn Km;replace Tl := Tl.keeps (.of_below hB);replace Rd := Rd.bl hB hn hB28;replace Rq8 := Rq8.bl hB hn hB28;replace Rq12 := Rq12.bl hB hn hB28;replace Rq16 := Rq16.bl hB hn hB28;have hs30 := hB.size;have hB30 := zS hB28 hB;clear hB hB28;go_wp2_with fail;obtain ⟨⟨y0, y1, y2, y3, y4, y5, y6, y7⟩, -⟩ := zB Krc;obtain ⟨⟨z0, z1, z2, z3, z4⟩, -⟩ := zA Krn;refine bodyPost_ret (v := .tuple #[.agg (zK (.slice a16 ln16 cap16) c16.ep (c16.nest : Int) c16.err c16.pos), NC.val ⟨26, ps, 0, [], pz3, ks.length + 1, capz3⟩]) (by simp [results, Tryz.results68, go_sem, y0, y1, y2, y3, y4, y5, y6, y7, z0, z1, z2, z3, z4, NC.val]) rfl ⟨_, ⟨26, ps, 0, [], pz3, ks.length + 1, capz3⟩, rfl, ?_, ?_, hB30⟩
   ·
    rw [HQ.out]; exact zF.mk Rq16
   ·
    rw [HQ.out]; exact Tl.mono fun q hq _ => by omega
  | true =>
   cases gk with
   | zero => exact absurd (HFW.out rfl) (Nat.not_lt_zero _)
   | succ gf =>
    have HX7 := Lib.hid (HFW.out rfl);have HM7 := Lib.hid (show wJ (wR rf) (gf + 1) d ks = _ from HM.out);have HBK : Hid (∀ b, (Value.slice kp kl kc).ownBlock = some b -> W6.heap.size <= b /\ b < wr.heap.size) := by obtain ⟨ds, _, q, _⟩ := Oo; exact fun b hb => q.lt b hb
    have HC := HBN.out _ _ _ KD.out OD.out (zF.mk Rd) (Nat.le_trans hn hBw.size);obtain ⟨c31, hE⟩ : ∃ q, q = (wR rf d).1 := ⟨_, rfl⟩;have E31 := Lib.hid hE;clear hE;have f_p := xZ (zB Kp) (zB Krc) (zA Krn);obtain ⟨⟨m0, m1, m2, m3, m4⟩, mf0, mf1, mf2, mf3, mf4⟩ := zA Km;go_wp2_with fail;refine HC.mono ?_; rintro e W31 ⟨x', e, rfl, hx, he, hB⟩;clear HC;rw [<- E31.out] at hx;obtain ⟨a31, ln31, cap31, rfl, hRq, -⟩ := hx.shape;have Rq31 := hRq.out;clear hx hRq;clear f_p m0 m1 m2 m3 m4 mf0 mf1 mf2 mf3 mf4;obtain ⟨Kp, Krc, Krn, Km⟩ := wP hB Kp Krc Krn Km;replace Oo := Oo.keep (zE hB (some w.heap.size)) (by omega);replace Rd := Rd.bl hB hn hBw;have hs32 := hB.size;have hB32 := zS hBw hB;clear hB hBw;have F31 : Hid (zY d c31) := by show zY _ _; rw [E31.out]; exact HFB.out _ KD.out
    have O31 := Lib.hid (F31.out.ok OD.out);have K31 := Lib.hid (wH KD.out F31.out);obtain ⟨ek, ep, en, et, eq, el, ec⟩ := e;unfold NC.val;have Te := he.mono (S' := (fun q => wr.heap.size <= q)) fun q hq hl => (by omega)
    clear he;go_upto_region 6 with fail;replace Te := Te.mono (S' := (fun q => wr.heap.size <= q /\ q ≠ W31.heap.size /\ q ≠ W31.heap.size + 1)) fun q hq hl => ⟨by omega, by omega, by omega⟩
    obtain ⟨W33, hV, KC0, KN0, hB, hz33⟩ := vC W31 ((zK (.slice a31 ln31 cap31) c31.ep (c31.nest : Int) c31.err c31.pos)) 40 #[.int .i64 ek, .int .i64 ep, .int .i64 en, .string ⟨et.toArray⟩, .slice eq el ec] 25;rw [<- hV];clear hV;obtain ⟨Kp, Krc, Krn, Km⟩ := wP hB Kp Krc Krn Km;replace Te := Te.keeps (.of_below hB);replace Oo := Oo.keep (zE hB (some w.heap.size)) (by omega);replace Rd := Rd.bl hB hn hB32;replace Rq31 := Rq31.bl hB hn hB32;have hs34 := hB.size;have hB34 := zS hB32 hB;clear hB hB32;have Kg := KC0;clear KC0;have Km2 := KN0;clear KN0;have f_p := zB Kp;have f_rc := zB Krc;have f_rn := zA Krn;obtain ⟨⟨m0, m1, m2, m3, m4⟩, mf0, mf1, mf2, mf3, mf4⟩ := zA Km;have f_g := zB Kg;have f_m := zA Km2;obtain ⟨ds, e1, e2, e3⟩ := Oo;have HE3 := Lib.hid e3;have HE1 := Lib.hid e1;clear e3 e1;go_upto_region 7 with (at_builtin; refine yB rfl _ _ 23 rfl (W6.heap.size) 25 i0 _ 5 64 Tryz.underlying23 hi0 hy0 hy1 hy2 rfl (by decide) _ _ _ rfl (e2.alloc _) ⟨_, 0, none⟩ 1 1 (yJ ⟨ek, ep, en, et, eq, el, ec⟩) rfl rfl (cells_of_new _ _ _ _ rfl) (wD _) ?_ ?_ ?_ ?_; (unfold maxLen; omega); omega; (simp; omega); intro v3 w3 ho3 hg3 hat3; have hal := (World.grownBy_alloc W33 (.cells #[.int .i64 ek, .int .i64 ep, .int .i64 en, .string ⟨et.toArray⟩, .slice eq el ec] 25) (Value.slice kp kl kc).ownBlock).andThen hg3 (fun j hj => .inr hj); have hat4 : v3.ownBlock = (Value.slice kp kl kc).ownBlock \/ ∃ n, v3.ownBlock = some n /\ W33.heap.size <= n := hat3.imp id fun e => ⟨_, e, by simp⟩; have HO3 := zR.snoc HE1.out HE3.out (Te.mono fun b hb _ => ⟨by omega, fun e => by have := (HBK.out b e).2; omega⟩) ho3 hal hat4; obtain ⟨pz3, capz3, q0⟩ := HO3.shape; have q3 : v3 = .slice pz3 (ks.length + 1) capz3 := q0.trans (by rw [List.length_append]; rfl); clear q0; subst q3; have KM := (Km.later (w' := W33.alloc (.cells #[.int .i64 ek, .int .i64 ep, .int .i64 en, .string ⟨et.toArray⟩, .slice eq el ec] 25)) ((Below.refl _ _).alloc (Nat.le_refl _) _)).kept hg3 (fun e => by have := (HBK.out _ e.symm).1; omega); obtain ⟨⟨m0, m1, m2, m3, m4⟩, mf0, mf1, mf2, mf3, mf4⟩ := zA KM);have HB3 : Below w.heap.size W33 w3 := rT hal (fun b hb => by have := (HBK.out b hb).1; omega) (by omega);have hP := wE.one w3 (W1.heap.size) 4 (.slice pz3 (ks.length + 1) capz3);have KM2 := KM.set 4 (.slice pz3 (ks.length + 1) capz3);have hsz3 := hal.size;try clear hg3
    try clear hat3
    try clear hat4
    try clear ho3
    try clear e2
    try clear HE1
    try clear HE3
    try clear KM
    try clear m0
    try clear m1
    try clear m2
    try clear m3
    try clear m4
    try clear mf0
    try clear mf1
    try clear mf2
    try clear mf3
    try clear mf4
    try clear Km
    try clear f_p
    try clear f_p
    try clear f_p
    try clear f_p
    try clear f_p
    try clear f_p
    try clear f_p
    try clear f_p
    try clear f_p
    try clear f_p
    try clear f_p
    try clear f_p
    try clear f_p
    try clear f_p
    try clear f_p
    try clear f_p
    try clear f_rc
    try clear f_rc
    try clear f_rc
    try clear f_rc
    try clear f_rc
    try clear f_rc
    try clear f_rc
    try clear f_rc
    try clear f_rc
    try clear f_rc
    try clear f_rc
    try clear f_rc
    try clear f_rc
    try clear f_rc
    try clear f_rc
    try clear f_rc
    try clear f_rn
    try clear f_rn
    try clear f_rn
    try clear f_rn
    try clear f_rn
    try clear f_rn
    try clear f_rn
    try clear f_rn
    try clear f_rn
    try clear f_rn
    try clear m0
    try clear m1
    try clear m2
    try clear m3
    try clear m4
    try clear mf0
    try clear mf1
    try clear mf2
    try clear mf3
    try clear mf4
    try clear f_g
    try clear f_g
    try clear f_g
    try clear f_g
    try clear f_g
    try clear f_g
    try clear f_g
    try clear f_g
    try clear f_g
    try clear f_g
    try clear f_g
    try clear f_g
    try clear f_g
    try clear f_g
    try clear f_g
    try clear f_g
    try clear f_m
    try clear f_m
    try clear f_m
    try clear f_m
    try clear f_m
    try clear f_m
    try clear f_m
    try clear f_m
    try clear f_m
    try clear f_m
    obtain ⟨W35, hWS⟩ : ∃ x, x = w3.setCell ⟨W1.heap.size, 4, none⟩ (.slice pz3 (ks.length + 1) capz3) := ⟨_, rfl⟩;rw [<- hWS] at hP KM2 ⊢;replace Kp := hP.blk (Kp.kept hal (fun e => by have := (HBK.out _ e.symm); omega)) (by omega);replace Krc := hP.blk (Krc.kept hal (fun e => by have := (HBK.out _ e.symm); omega)) (by omega);replace Krn := hP.blk (Krn.kept hal (fun e => by have := (HBK.out _ e.symm); omega)) (by omega);replace Kg := hP.blk (Kg.kept hal (fun e => by have := (HBK.out _ e.symm); omega)) (by omega);replace Km2 := hP.blk (Km2.kept hal (fun e => by have := (HBK.out _ e.symm); omega)) (by omega);have Km := KM2;clear KM2;replace Rd := hP.row (Rd.below (HB3.mono hn)) (by omega);replace Rq31 := hP.row (Rq31.below (HB3.mono hn)) (by omega);have hB35 := hP.below _ _ (by omega) (hB34.trans HB3);have hs35 := hP.size;have Oo := HO3.keep hP.grown (by omega);clear HO3 HB3 hal hWS hP hB34 Te;obtain ⟨mo2, hmo⟩ : ∃ b, b = vQ c31 := ⟨_, rfl⟩;have HMO := Lib.hid hmo;have HC := lQ (zF.mk Rq31) (Nat.le_trans hn hB35.size);obtain ⟨c36, hE⟩ : ∃ q, q = c31.take [59] := ⟨_, rfl⟩;rw [<- hE] at HC;rw [<- hmo] at HC;have E36 := Lib.hid hE;clear hE;have f_p := xZ (zB Kp) (zB Krc) (zA Krn);obtain ⟨⟨m0, m1, m2, m3, m4⟩, mf0, mf1, mf2, mf3, mf4⟩ := zA Km;have f_g := yH (zB Kg) (zA Km2);go_wp2_with fail;refine HC.mono ?_; rintro e W36 ⟨x', rfl, hx, hB⟩;clear HC;obtain ⟨a36, ln36, cap36, rfl, hRq, -⟩ := hx.shape;have Rq36 := hRq.out;clear hx hRq;clear f_p m0 m1 m2 m3 m4 mf0 mf1 mf2 mf3 mf4 f_g;obtain ⟨Kp, Krc, Krn, Km, Kg, Km2⟩ := gl6 hB Kp Krc Krn Km Kg Km2;replace Oo := Oo.keep (zE hB (some w.heap.size)) (by omega);replace Rd := Rd.bl hB hn hB35;replace Rq31 := Rq31.bl hB hn hB35;have hs37 := hB.size;have hB37 := zS hB35 hB;clear hB hB35;clear hmo;have F36 : Hid (zY c31 c36) := by show zY _ _; rw [E36.out]; exact yD _ _
    have O36 := Lib.hid (F36.out.ok O31.out);have K36 := Lib.hid (wH K31.out F36.out);have f_p := xZ (zB Kp) (zB Krc) (zA Krn);obtain ⟨⟨m0, m1, m2, m3, m4⟩, mf0, mf1, mf2, mf3, mf4⟩ := zA Km;have f_g := yH (zB Kg) (zA Km2);obtain ⟨W38, hW38, KN, hP⟩ := zQ Kp (.slice a36 ln36 cap36) c36.ep (c36.nest : Int) c36.err c36.pos;obtain ⟨Krc, Krn, Km, Kg, Km2⟩ := gq5 hP Krc Krn Km Kg Km2 (by omega);replace Oo := Oo.keep hP.grown (by omega);replace Rd := hP.row Rd (by omega);replace Rq31 := hP.row Rq31 (by omega);replace Rq36 := hP.row Rq36 (by omega);have hs39 := hP.size;have hB39 := hP.below _ _ (by omega) hB37;clear hP hB37;replace Kp := KN;clear KN;go_wp2_with fail;go_roundg gf
    case measure => omega
    case rel =>
     rw [<- hW38];refine ⟨c36, ks ++ [(wR rf d).2], mo2, a36, ln36, cap36, pz3, _, capz3, rfl, ⟨?_, fun hm => ?_, FD.out.trans (F31.out.trans F36.out), by simp; omega, hB39, by omega, Kp, Krc, Krn, Km, Rq36, Oo⟩⟩
     ·
      rw [<- HM7.out, E36.out, HMO.out, E31.out]; rfl
     ·
      have h1 := dM (HMO.out ▸ hm);have h2 := (wU h1).2;have h3 := F31.out.at';have h4 := F31.out.ws;have h5 : c36.at' = c31.at' + 1 := by rw [E36.out]; unfold Cu.take; rw [if_pos h1]
      have h6 := F36.out.ws;have h7 := HX7.out;rw [h4] at h2;rw [h6, h4, h5];omega
end Go.Proofs.YtdjomhbmhooceaaGreat.N9
