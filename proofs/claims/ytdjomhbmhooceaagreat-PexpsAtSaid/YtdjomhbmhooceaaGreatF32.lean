import Derived.Test.YtdjomhbmhooceaaGreatF31
import Derived.Test.YtdjomhbmhooceaaGreatF14
import Derived.Test.YtdjomhbmhooceaaGreatF12
set_option maxHeartbeats 4000000
set_option maxRecDepth 100000
set_option linter.unusedVariables false
set_option linter.unusedSimpArgs false
namespace Go.Proofs.YtdjomhbmhooceaaGreat.N9
open Go.RowKit N5 N6 N7
attribute [local go_sem] xB xA
theorem uB {rf : Cu -> Cu × Nd} {n : Nat} {w : World} {x : Value} {c : Cu} (h : zF n w x c) (hn : n <= w.heap.size) (hok : yZ c) {cE : Cu} (hce : cE = c.enter) (hop : ∀ (W : World) (x : Value), zF n W x cE -> n <= W.heap.size -> Calls Tryz.prog 37 #[x] W (yE n (xO rf cE) W)) (hfo : zY cE (xO rf cE).1) : Calls Tryz.prog 15 #[x] w (yE n ((xO rf cE).1.leave, (xO rf cE).2) w) := by
 have HOP := Lib.hid hop;have HFO := Lib.hid hfo;have HOK : Hid (yZ cE) := by show yZ _; rw [hce]; exact uC hok
 have HCE := Lib.hid hce;have HOK0 := Lib.hid hok;clear hop hfo hok hce;obtain ⟨a, ln, cap, rfl, hr, -⟩ := h.shape;clear h;obtain ⟨W1, hW1, Kp, Krc, Krn, hB1, hsz⟩ := qE w ((zK (.slice a ln cap) c.ep (c.nest : Int) c.err c.pos)) 40 ((zK (.slice none 0 0) 0 0 0 0)) 40 #[.int .i64 0, .int .i64 0, .int .i64 0, .string ⟨#[]⟩, .slice none 0 0] 25;have Rc : xW n W1 (.slice a ln cap) (c.ws.drop c.at') := hr.out.below (hB1.mono hn);have HW1 := Lib.hid hW1;clear hW1 hr;go_enter Tryz.func15, Tryz.ntmps15;go_upto_region 1 with fail;rw [<- HW1.out];clear HW1;have HC := uF (zF.mk Rc) (Nat.le_trans hn hB1.size) HOK0.out;rw [<- HCE.out] at HC;have f_p := xZ (zB Kp) (zB Krc) (zA Krn);go_wp2_with fail;refine HC.mono ?_; rintro e W2 ⟨x', rfl, hx, hB⟩;clear HC;obtain ⟨a2, ln2, cap2, rfl, hRq, -⟩ := hx.shape;have Rq2 := hRq.out;clear hx hRq;clear f_p;obtain ⟨Kp, Krc, Krn⟩ := vK hB Kp Krc Krn;replace Rc := Rc.bl hB hn hB1;have hs3 := hB.size;have hB3 := zS hB1 hB;clear hB hB1;have f_p := xZ (zB Kp) (zB Krc) (zA Krn);obtain ⟨W4, hW4, KN, hP⟩ := zQ Kp (.slice a2 ln2 cap2) cE.ep (cE.nest : Int) cE.err cE.pos;obtain ⟨Krc, Krn⟩ := oJ hP Krc Krn (by omega);replace Rc := hP.row Rc (by omega);replace Rq2 := hP.row Rq2 (by omega);have hs5 := hP.size;have hB5 := hP.below _ _ (by omega) hB3;clear hP hB3;replace Kp := KN;clear KN;go_upto_region 2 with fail;rw [<- hW4];clear hW4;clear f_p;have HC := HOP.out _ _ (zF.mk Rq2) (Nat.le_trans hn hB5.size);obtain ⟨c6, hE⟩ : ∃ q, q = (xO rf cE).1 := ⟨_, rfl⟩;have E6 := Lib.hid hE;clear hE;have f_p := xZ (zB Kp) (zB Krc) (zA Krn);go_wp2_with fail;refine HC.mono ?_; rintro e W6 ⟨x', e, rfl, hx, he, hB⟩;clear HC;rw [<- E6.out] at hx;obtain ⟨a6, ln6, cap6, rfl, hRq, -⟩ := hx.shape;have Rq6 := hRq.out;clear hx hRq;clear f_p;obtain ⟨Kp, Krc, Krn⟩ := vK hB Kp Krc Krn;replace Rc := Rc.bl hB hn hB5;replace Rq2 := Rq2.bl hB hn hB5;have hs7 := hB.size;have hB7 := zS hB5 hB;clear hB hB5;obtain ⟨ek, ep, en, et, eq, el, ec⟩ := e;unfold NC.val;have Te := he.mono (S' := (fun q => w.heap.size + 1 + 1 + 1 <= q)) fun q hq hl => (by omega)
 clear he;replace Te := Te.mono (S' := (fun q => w.heap.size + 1 + 1 + 1 <= q /\ q ≠ W6.heap.size)) fun q hq hl => ⟨by omega, by omega⟩
 obtain ⟨W8, hW8, KN, hB, -⟩ := zT W6 #[.int .i64 0, .int .i64 0, .int .i64 0, .string ⟨#[]⟩, .slice none 0 0] 25;have hA8 := hB;have hz8 : W6.heap.size + 1 <= W8.heap.size := by rw [hW8]; simp
 obtain ⟨Kp, Krc, Krn⟩ := vK hB Kp Krc Krn;replace Rc := Rc.bl hB hn hB7;replace Rq2 := Rq2.bl hB hn hB7;replace Rq6 := Rq6.bl hB hn hB7;have hs9 := hB.size;have hB9 := zS hB7 hB;clear hB hB7;have Km := KN;clear KN;have HV := Lib.hid hW8;clear hW8;have np : W6.heap.size ≠ w.heap.size := by omega
 have op : w.heap.size ≠ W6.heap.size := by omega
 have nrc : W6.heap.size ≠ w.heap.size + 1 := by omega
 have orc : w.heap.size + 1 ≠ W6.heap.size := by omega
 have nrn : W6.heap.size ≠ w.heap.size + 1 + 1 := by omega
 have orn : w.heap.size + 1 + 1 ≠ W6.heap.size := by omega
 have f_p := yH (zB Kp) (zA Km);rw [HV.out] at f_p;obtain ⟨W10, hW10, KN, hP⟩ := zQ Kp (.slice a6 ln6 cap6) c6.ep (c6.nest : Int) c6.err c6.pos;have hP10 := hP;obtain ⟨Krc, Krn, Km⟩ := vD hP Krc Krn Km (by omega);replace Rc := hP.row Rc (by omega);replace Rq2 := hP.row Rq2 (by omega);replace Rq6 := hP.row Rq6 (by omega);have hs11 := hP.size;have hB11 := hP.below _ _ (by omega) hB9;clear hP hB9;replace Kp := KN;clear KN;obtain ⟨W12, hW12, KN, hP⟩ := zZ (z := zN) Km ⟨ek, ep, en, et, eq, el, ec⟩;have hP12 := hP;obtain ⟨Kp, Krc, Krn⟩ := vD hP Kp Krc Krn (by omega);replace Rc := hP.row Rc (by omega);replace Rq2 := hP.row Rq2 (by omega);replace Rq6 := hP.row Rq6 (by omega);have hs13 := hP.size;have hB13 := hP.below _ _ (by omega) hB11;clear hP hB11;dsimp only [zN] at hW12 KN;replace Km := KN;clear KN;go_upto_region 3 with fail;rw [<- HV.out, <- hW10, <- hW12];replace Te := Te.keeps (w' := W12) ⟨by omega, fun q hq hql => (hP12.other q (by omega)).trans ((hP10.other q (by omega)).trans (hA8.block q hql))⟩;clear HV hW10 hW12 hP10 hP12 hA8 f_p;have HQ : Hid (((xO rf cE).1.leave, (xO rf cE).2) = (c6.leave, (xO rf cE).2)) := by show _ = _; rw [E6.out]
 have HO2 : Hid (yZ c6) := by show yZ _; rw [E6.out]; exact HFO.out.ok HOK.out
 obtain ⟨cL, hE⟩ : ∃ q, q = c6.leave := ⟨_, rfl⟩;rw [<- hE] at HQ;have HL : ∀ wx, Below W12.heap.size W12 wx -> Calls Tryz.prog 38 #[.agg (zK (.slice a6 ln6 cap6) c6.ep (c6.nest : Int) c6.err c6.pos)] wx (fun e w' => ∃ a5 ln5 cap5, e = .returned (.agg (zK (.slice a5 ln5 cap5) cL.ep (cL.nest : Int) cL.err cL.pos)) /\ Hid (xW n w' (.slice a5 ln5 cap5) (cL.ws.drop cL.at')) /\ Below W12.heap.size W12 w') := by
  intro wx hb;have hs := hB13.size;have := wW (zF.mk (Rq6.below (hb.mono (Nat.le_trans hn hs)))) (Nat.le_trans (Nat.le_trans hn hs) hb.size) HO2.out;rw [<- hE] at this;refine this.mono ?_;rintro e w5 ⟨x5, rfl, hx, hB⟩;obtain ⟨a5, ln5, cap5, rfl, hr5, -⟩ := hx.shape;exact ⟨a5, ln5, cap5, rfl, hr5, hb.trans (hB.mono hb.size)⟩
 have EL := Lib.hid hE;clear hE;have f_p := vX (zB Kp) (zB Krc) (zA Krn) (zA Km);have dmrc : W6.heap.size ≠ w.heap.size + 1 := by omega
 have emrc : w.heap.size + 1 ≠ W6.heap.size := by omega
 have dmrn : W6.heap.size ≠ w.heap.size + 1 + 1 := by omega
 have emrn : w.heap.size + 1 + 1 ≠ W6.heap.size := by omega
 have drcrn : w.heap.size + 1 ≠ w.heap.size + 1 + 1 := by omega
 have ercrn : w.heap.size + 1 + 1 ≠ w.heap.size + 1 := by omega
 go_region_with (go_at_call 38; refine (HL _ ?_).mono ?_; (first | exact Below.refl _ _ | exact (Below.refl _ _).drew); rintro e w5 ⟨a5, ln5, cap5, rfl, hr5, hacc⟩; obtain ⟨⟨rcq0, rcq1, rcq2, rcq3, rcq4, rcq5, rcq6, rcq7⟩, rcqf0, rcqf1, rcqf2, rcqf3, rcqf4, rcqf5, rcqf6, rcqf7⟩ := zB (Krc.later hacc); obtain ⟨⟨rnq0, rnq1, rnq2, rnq3, rnq4⟩, rnqf0, rnqf1, rnqf2, rnqf3, rnqf4⟩ := zA (Krn.later hacc); obtain ⟨⟨mq0, mq1, mq2, mq3, mq4⟩, mqf0, mqf1, mqf2, mqf3, mqf4⟩ := zA (Km.later hacc));all_goals (
  obtain ⟨V7, hV7, KC, hP7⟩ := zQ (Krc.later hacc) (.slice a5 ln5 cap5) cL.ep (cL.nest : Int) cL.err cL.pos
  obtain ⟨V8, hV8, KN, hP8⟩ := zZ (z := zN) (hP7.blk (Krn.later hacc) (by omega)) ⟨ek, ep, en, et, eq, el, ec⟩
  dsimp only [zN] at hV8 KN
  rw [<- hV7, <- hV8]
  have KC := hP8.blk KC (by omega)
  clear hV7 hV8 f_p
  go_wp2_with fail
  obtain ⟨⟨y0, y1, y2, y3, y4, y5, y6, y7⟩, -⟩ := zB KC
  obtain ⟨⟨z0, z1, z2, z3, z4⟩, -⟩ := zA KN
  refine bodyPost_ret (v := .tuple #[.agg (zK (.slice a5 ln5 cap5) cL.ep (cL.nest : Int) cL.err cL.pos), NC.val ⟨ek, ep, en, et, eq, el, ec⟩]) (by simp [results, Tryz.results15, go_sem, y0, y1, y2, y3, y4, y5, y6, y7, z0, z1, z2, z3, z4, NC.val]) rfl ⟨_, ⟨ek, ep, en, et, eq, el, ec⟩, rfl, ?_, ?_, hP8.below _ _ (by omega) (hP7.below _ _ (by omega) (hB13.trans (hacc.mono hB13.size)))⟩
  ·
   rw [HQ.out]; exact zF.mk (hP8.row (hP7.row hr5.out (by omega)) (by omega))
  ·
   rw [HQ.out]; exact (hP8.node (hP7.node (Te.keeps ⟨hacc.size, fun q hq hql => hacc.block q hql⟩) (by omega)) (by omega)).mono fun q hq _ => by omega)
end Go.Proofs.YtdjomhbmhooceaaGreat.N9
namespace Go.Proofs.YtdjomhbmhooceaaGreat.N9
open Go.RowKit N5 N6 N7
attribute [local go_sem] xB xA
def RefVars (n : Nat) (o : Cu × List Tk) (w : World) (e : Ending) (w' : World) : Prop :=
 ∃ (x v : Value), e = .returned (.tuple #[x, v]) /\ zF n w' x o.1 /\ wG w.heap.size w' v o.2 /\ Below w.heap.size w w'
theorem rT {n : Nat} {W W' : World} {o : Option Nat} (hg : W.grownBy W' o) (ho : ∀ b, o = some b -> n <= b) (hs : n <= W.heap.size) : Below n W W' := by
 cases o with
 | none => exact (tO hg).mono hs
 | some b => exact vL hg (ho b rfl) hs
structure RVarSt (n : Nat) (w : World) (LB F : Nat) (c : Cu) (gk : Nat) (d : Cu) (l : List Tk) (u val : Value) (W : World) : Prop where
 eq : xY F c = ((xY gk d).1, l ++ (xY gk d).2)
 few : d.ws.length - d.at' < gk
 sum : l.length + gk <= F
 bel : Below w.heap.size w W
 low : LB <= W.heap.size
 pb : zW W w.heap.size (zK u d.ep (d.nest : Int) d.err d.pos) 40
 rcb : zW W (w.heap.size + 1) (zK (.slice none 0 0) 0 0 0 0) 40
 row : xW n W u (d.ws.drop d.at')
 own : wG LB W val l
theorem oP {n : Nat} {w : World} {x : Value} {c : Cu} (h : zF n w x c) (hn : n <= w.heap.size) (hok : yZ c) : Calls Tryz.prog 32 #[x] w (RefVars n (yW c) w) := by
 have HFEW := Lib.hid hok.few;obtain ⟨i0, hi0, hz0, hz1, hz2⟩ := info_parts kI;clear hok;obtain ⟨a, ln, cap, rfl, hr, -⟩ := h.shape;clear h;obtain ⟨W1, hW1, Kp, Krc, hB1, hsz⟩ := vC w ((zK (.slice a ln cap) c.ep (c.nest : Int) c.err c.pos)) 40 ((zK (.slice none 0 0) 0 0 0 0)) 40;have Rc : xW n W1 (.slice a ln cap) (c.ws.drop c.at') := hr.out.below (hB1.mono hn);have HW1 := Lib.hid hW1;clear hW1 hr;go_enter Tryz.func32, Tryz.ntmps32;go_upto_region 1 with fail;rw [<- HW1.out];clear HW1;obtain ⟨F, hF⟩ : ∃ F, F = c.ws.length - c.at' + 1 := ⟨_, rfl⟩;have HF : Hid (yW c = xY F c) := by show _ = _; rw [hF]; rfl
 have hF1 : F <= 4001 := by have := HFEW.out; omega
 have hF2 : c.ws.length - c.at' < F := by omega
 clear hF;have f_p := yH (zB Kp) (zB Krc);go_wp2_with fail;clear f_p;go_loopg [4] F (fun gk q wr => ∃ (d : Cu) (l : List Tk) (a5 : Option Addr) (ln5 cap5 : Nat) (val : Value), val = q /\ RVarSt n w (W1.heap.size) F c gk d l (.slice a5 ln5 cap5) val wr)
 case atStart => exact ⟨c, [], a, ln, cap, _, rfl, ⟨rfl, hF2, by simp, hB1, Nat.le_refl _, Kp, Krc, Rc, World.ownsRow_nil _ _ _ _⟩⟩
 case round =>
  obtain ⟨d, l, a5, ln5, cap5, val, hval, HS⟩ := hrel;subst hval;clear Kp Krc Rc hB1;have Kp := HS.pb;have Krc := HS.rcb;have hBw := HS.bel;have hlow := HS.low;have hsum := HS.sum;have Rd := HS.row;have Oo := HS.own;have hfw2 := HS.few;have HM := Lib.hid HS.eq;clear HS;cases gk with
  | zero => exact absurd hfw2 (Nat.not_lt_zero _)
  | succ gf =>
   by_cases he : d.err = 0
   case neg =>
    have hb : (d.err == 0) = false := by rw [beq_eq_false_iff_ne]; exact he
    have HQ : Hid (yW c = (d, l)) := by show _ = _; rw [HF.out]; exact nV HM.out (by rw [wM he]; decide)
    clear he;have f_p := yH (zB Kp) (zB Krc);obtain ⟨W2, hW2, KN, hP⟩ := zQ Krc (.slice a5 ln5 cap5) d.ep (d.nest : Int) d.err d.pos;replace Kp := hP.blk Kp (by omega);replace Oo := Oo.keep hP.grown (by omega);replace Rd := hP.row Rd (by omega);have hs3 := hP.size;have hB3 := hP.below _ _ (by omega) hBw;clear hP hBw;replace Krc := KN;clear KN;go_wp2_with fail;rw [<- hW2];obtain ⟨⟨y0, y1, y2, y3, y4, y5, y6, y7⟩, -⟩ := zB Krc;refine bodyPost_ret (v := .tuple #[.agg (zK (.slice a5 ln5 cap5) d.ep (d.nest : Int) d.err d.pos), val]) (by simp [results, Tryz.results32, go_sem, y0, y1, y2, y3, y4, y5, y6, y7]) rfl ⟨_, _, rfl, ?_, ?_, hB3⟩
    ·
     rw [HQ.out]; exact zF.mk Rd
    ·
     rw [HQ.out]; exact Oo.mono (by omega)
   case pos =>
    have hb : (d.err == 0) = true := by rw [he]; rfl
    clear he;obtain ⟨⟨tk, tp, tn, tt⟩, hT⟩ : ∃ t, t = d.peek := ⟨_, rfl⟩;have HT := Lib.hid hT;clear hT;have HC := xU (zF.mk Rd) (Nat.le_trans hn hBw.size);rw [<- HT.out] at HC;have f_p := yH (zB Kp) (zB Krc);go_wp2_with fail;refine HC.mono ?_; rintro e W4 ⟨rfl, hB⟩;clear HC;clear f_p;obtain ⟨Kp, Krc⟩ := gN hB Kp Krc;replace Oo := Oo.keep (zE hB (some w.heap.size)) (by omega);replace Rd := Rd.bl hB hn hBw;have hs5 := hB.size;have hB5 := zS hBw hB;clear hB hBw;by_cases h1 : tk = 1
    case neg =>
     have HQ : Hid (yW c = (d, l)) := by show _ = _; rw [HF.out]; exact nV HM.out (by rw [<- HT.out]; exact h1)
     have g1 : (tk == 1) = false := by rw [beq_eq_false_iff_ne]; exact h1
     have f_p := yH (zB Kp) (zB Krc);obtain ⟨W6, hW6, KN, hP⟩ := zQ Krc (.slice a5 ln5 cap5) d.ep (d.nest : Int) d.err d.pos;replace Kp := hP.blk Kp (by omega);replace Oo := Oo.keep hP.grown (by omega);replace Rd := hP.row Rd (by omega);have hs7 := hP.size;have hB7 := hP.below _ _ (by omega) hB5;clear hP hB5;replace Krc := KN;clear KN;go_wp2_with fail;rw [<- hW6];obtain ⟨⟨y0, y1, y2, y3, y4, y5, y6, y7⟩, -⟩ := zB Krc;refine bodyPost_ret (v := .tuple #[.agg (zK (.slice a5 ln5 cap5) d.ep (d.nest : Int) d.err d.pos), val]) (by simp [results, Tryz.results32, go_sem, y0, y1, y2, y3, y4, y5, y6, y7]) rfl ⟨_, _, rfl, ?_, ?_, hB7⟩
     ·
      rw [HQ.out]; exact zF.mk Rd
     ·
      rw [HQ.out]; exact Oo.mono (by omega)
    case pos =>
     subst h1;have HN := Lib.hid (dJ HM.out (by rw [<- HT.out]) hfw2);have HC := tQ (zF.mk Rd) (Nat.le_trans hn hB5.size);obtain ⟨c8, hE⟩ : ∃ q, q = d.adv := ⟨_, rfl⟩;rw [<- hE] at HC;rw [<- HT.out] at HC;have E8 := Lib.hid hE;clear hE;have f_p := yH (zB Kp) (zB Krc);go_wp2_with fail;refine HC.mono ?_; rintro e W8 ⟨x', rfl, hx, hB⟩;clear HC;obtain ⟨a8, ln8, cap8, rfl, hRq, -⟩ := hx.shape;have Rq8 := hRq.out;clear hx hRq;clear f_p;obtain ⟨Kp, Krc⟩ := gN hB Kp Krc;replace Oo := Oo.keep (zE hB (some w.heap.size)) (by omega);replace Rd := Rd.bl hB hn hB5;have hs9 := hB.size;have hB9 := zS hB5 hB;clear hB hB5;go_upto_region 4 with fail;obtain ⟨W10, hV, KC0, KN0, hB, hz10⟩ := vC W8 ((zK (.slice a8 ln8 cap8) c8.ep (c8.nest : Int) c8.err c8.pos)) 40 #[.int .i64 1, .int .i64 tp, .int .i64 tn, .string ⟨tt.toArray⟩] 38;rw [<- hV];clear hV;obtain ⟨Kp, Krc⟩ := gN hB Kp Krc;replace Oo := Oo.keep (zE hB (some w.heap.size)) (by omega);replace Rd := Rd.bl hB hn hB9;replace Rq8 := Rq8.bl hB hn hB9;have hs11 := hB.size;have hB11 := zS hB9 hB;clear hB hB9;have Kg := KC0;clear KC0;have Kt := KN0;clear KN0;have f_p := yH (zB Kp) (zB Krc);obtain ⟨⟨g0, g1, g2, g3, g4, g5, g6, g7⟩, gf0, gf1, gf2, gf3, gf4, gf5, gf6, gf7⟩ := zB Kg;have f_t := zD Kt;obtain ⟨W12, hW12, KN, hP⟩ := zQ Kp (.slice a8 ln8 cap8) c8.ep (c8.nest : Int) c8.err c8.pos;obtain ⟨Krc, Kg, Kt⟩ := vD hP Krc Kg Kt (by omega);replace Oo := Oo.keep hP.grown (by omega);replace Rd := hP.row Rd (by omega);replace Rq8 := hP.row Rq8 (by omega);have hs13 := hP.size;have hB13 := hP.below _ _ (by omega) hB11;clear hP hB11;replace Kp := KN;clear KN;go_upto_region 5 with fail;rw [<- hW12];clear hW12;clear f_p g0 g1 g2 g3 g4 g5 g6 g7 gf0 gf1 gf2 gf3 gf4 gf5 gf6 gf7 f_t;have HBK : Hid (∀ b, val.ownBlock = some b -> W1.heap.size <= b /\ b < W12.heap.size) := fun b hb => World.ownsRow.lt Oo b hb
     have hLW : W1.heap.size <= W12.heap.size := by omega
     have f_p := yH (zB Kp) (zB Krc);obtain ⟨⟨g0, g1, g2, g3, g4, g5, g6, g7⟩, gf0, gf1, gf2, gf3, gf4, gf5, gf6, gf7⟩ := zB Kg;have f_t := zD Kt;go_wp2_with (at_builtin; refine yB rfl _ _ 34 rfl (W1.heap.size) 38 i0 _ 4 40 Tryz.underlying34 hi0 hz0 hz1 hz2 rfl (by decide) _ _ _ rfl (World.ownsRow.alloc Oo _) ⟨_, 0, none⟩ 1 1 (Tk.cells ⟨1, tp, tn, tt⟩) rfl rfl (cells_of_new _ _ _ _ rfl) (nE _) ?_ ?_ ?_ ?_; (unfold maxLen; omega); omega; (simp; omega); intro v3 w3 ho3 hg3 hat3);have hal := (World.grownBy_alloc W12 (.cells #[.int .i64 1, .int .i64 tp, .int .i64 tn, .string ⟨tt.toArray⟩] 38) val.ownBlock).andThen hg3 (fun j hj => .inr hj);have hsz3 := hal.size;have HB3 : Below w.heap.size W12 w3 := rT hal (fun b hb => by have := (HBK.out b hb).1; omega) (by omega);replace Kp := Kp.kept hal (fun e => by have := (HBK.out _ e.symm).1; omega);replace Krc := Krc.kept hal (fun e => by have := (HBK.out _ e.symm).1; omega);have HO3 : wG (W1.heap.size) w3 v3 (l ++ [⟨1, tp, tn, tt⟩]) := by unfold wG; rw [List.length_append, List.flatMap_append]; simpa using ho3
     go_roundg gf
     case measure => omega
     case rel =>
      refine ⟨c8, l ++ [⟨1, tp, tn, tt⟩], a8, ln8, cap8, _, rfl, ⟨by rw [E8.out, HT.out]; exact HN.out.1, by rw [E8.out]; exact HN.out.2, by simp; omega, hB13.trans HB3, by omega, Kp, Krc, Rq8.below (HB3.mono hn), HO3⟩⟩
end Go.Proofs.YtdjomhbmhooceaaGreat.N9
namespace Go.Proofs.YtdjomhbmhooceaaGreat.N9
open Go.RowKit N5 N6 N7
attribute [local go_sem] xB xA
theorem oW {m : Nat} {v : Value} {l : List Tk} {d : NC} {n : Nd} {w : World} (hr : yY w.heap.size w Tk.cells v l) (hl : l.length <= 1000000) (hm : m <= w.heap.size) (ht : zG (fun b => m <= b) w d n) :
  Calls Tryz.prog 34 #[v, d.val] w (aM m (vB l n) w) := by
 have HR := Lib.hid hr
 obtain ⟨p, cap, rfl, -, -⟩ := hr
 obtain ⟨W1, hW1, KN, -, hB1, -⟩ := vC w #[.int .i64 d.kind, .int .i64 d.pos, .int .i64 d.num, .string ⟨d.text.toArray⟩, .slice d.kp d.kl d.kc] 25 #[.int .i64 0, .int .i64 0, .int .i64 0, .string ⟨#[]⟩, .slice none 0 0] 25
 have hs1 : W1.heap.size = w.heap.size + 1 + 1 := by rw [hW1]; simp
 have KZ : zW W1 (w.heap.size + 1) #[.int .i64 0, .int .i64 0, .int .i64 0, .string ⟨#[]⟩, .slice none 0 0] 25 := by
  rw [hW1];have h0 := zW.new (w.alloc (.cells #[.int .i64 d.kind, .int .i64 d.pos, .int .i64 d.num, .string ⟨d.text.toArray⟩, .slice d.kp d.kl d.kc] 25)) #[.int .i64 0, .int .i64 0, .int .i64 0, .string ⟨#[]⟩, .slice none 0 0] 25;simp only [World.size_alloc] at h0;exact h0
 have TN : Hid (zG (fun b => m <= b /\ b ≠ w.heap.size /\ b ≠ w.heap.size + 1) W1 d n) := (ht.mono (S' := fun b => m <= b /\ b ≠ w.heap.size /\ b ≠ w.heap.size + 1) fun k hk hl => ⟨hk, by omega, by omega⟩).later hB1
 generalize hn : l.length = len at *
 have HX := Lib.hid hn
 have HW1 := Lib.hid hW1
 clear hn hW1 ht
 unfold NC.val
 go_enter Tryz.func34, Tryz.ntmps34
 go_upto_region 1 with fail
 rw [<- HW1.out]
 clear HW1
 go_wp2_with fail
 go_loopw [5] (fun i wr => ∃ (k : Nat) (e : NC) (z : Int), k <= len /\ i = .int .i64 z /\ z = (k : Int) - 1 /\ zW wr w.heap.size #[.int .i64 e.kind, .int .i64 e.pos, .int .i64 e.num, .string ⟨e.text.toArray⟩, .slice e.kp e.kl e.kc] 25 /\ zW wr (w.heap.size + 1) #[.int .i64 0, .int .i64 0, .int .i64 0, .string ⟨#[]⟩, .slice none 0 0] 25 /\
  Hid (zG (fun b => m <= b /\ b ≠ w.heap.size /\ b ≠ w.heap.size + 1) wr e (vB (l.drop k) n)) /\ Below w.heap.size w wr /\ w.heap.size + 1 + 1 <= wr.heap.size) (fun i _ => (intOf i + 1).toNat)
 case atStart => exact ⟨len, d, (len : Int) - 1, Nat.le_refl _, rfl, rfl, KN, KZ, by rw [List.drop_of_length_le (by rw [HX.out]; exact Nat.le_refl _)]; exact TN, hB1, by omega⟩
 case round =>
  clear KN KZ TN hB1 hs1;obtain ⟨k, ⟨ek, ep, en, et, eq, el, ec⟩, z, hk, rfl, hz, KN, KZ, HT, hB, hlo⟩ := hrel;dsimp only at KN;cases k with
  | zero =>
   have hz0 : ¬ (0 : Int) <= z := by omega
   clear hz;have HT0 : zG (fun b => m <= b /\ b ≠ w.heap.size /\ b ≠ w.heap.size + 1) wr ⟨ek, ep, en, et, eq, el, ec⟩ (vB l n) := HT.out;obtain ⟨⟨x0, x1, x2, x3, x4⟩, -⟩ := zA KN;have f_z := zA KZ;obtain ⟨W7, hW7, K7, hP⟩ := zZ (z := zN) KZ ⟨ek, ep, en, et, eq, el, ec⟩;dsimp only [zN] at hW7 K7;have hB7 := hP.below _ _ (by omega) hB;have hT7 := (hP.node HT0 (fun q => q.2.2 rfl)).mono (S' := fun b => m <= b) fun q hq _ => hq.1
   clear HT0 HT hP;go_wp2_with fail;rw [<- hW7];obtain ⟨⟨y0, y1, y2, y3, y4⟩, -⟩ := zA K7;exact bodyPost_ret (v := NC.val ⟨ek, ep, en, et, eq, el, ec⟩) (by simp [results, Tryz.results34, go_sem, y0, y1, y2, y3, y4, NC.val]) rfl ⟨_, rfl, hB7, hT7⟩
  | succ j =>
   obtain rfl : z = (j : Int) := by omega
   clear hz;have hjl : j < l.length := by rw [HX.out]; omega
   obtain ⟨g, o, cap', hv, -, hg, -, hc⟩ := HR.out.at (by omega);have hp : p = some ⟨g, o, none⟩ := by injection hv
   subst hp;clear hv;have hlt : (j : Int) < (len : Int) := by omega
   have c1 : wr.cell? ⟨g, o + j * 4 + 1, none⟩ = some (.int .i64 l[j].pos) := (hB.cell (p := ⟨g, o + j * 4 + 1, none⟩) hg).trans (hc (j * 4 + 1) _ (by rw [qU wC l j hjl 1 (by omega)]; rfl));have c3 : wr.cell? ⟨g, o + j * 4 + 3, none⟩ = some (.string ⟨l[j].text.toArray⟩) := (hB.cell (p := ⟨g, o + j * 4 + 3, none⟩) hg).trans (hc (j * 4 + 3) _ (by rw [qU wC l j hjl 3 (by omega)]; rfl));have HWR := Lib.hid (lZ hjl n);clear hc;generalize l[j] = t at *;obtain ⟨tk, tp, tn, tt⟩ := t;dsimp only at c1 c3 HWR;go_wp2_with fail;have f_x := zA KN;obtain ⟨W7, hW7, K7, hP⟩ := zZ (z := ⟨ek, ep, en, et, eq, el, ec⟩) KN ⟨25, tp, 0, tt, some ⟨wr.heap.size, 0, none⟩, 1, 1⟩;have hs : W7.heap.size = wr.heap.size := by rw [hW7]; simp
   have KZ7 := hP.blk KZ (by omega);have T7 := hP.node HT.out (fun q => q.2.1 rfl);have hB7 := hP.below _ _ (Nat.le_refl _) hB;have hlw : w.heap.size < wr.heap.size := by omega
   have hgw : g < wr.heap.size := by omega
   obtain ⟨V, hV, -, hBV, -⟩ := zT W7 #[.int .i64 ek, .int .i64 ep, .int .i64 en, .string ⟨et.toArray⟩, .slice eq el ec] 25;have KL : zW V wr.heap.size #[.int .i64 ek, .int .i64 ep, .int .i64 en, .string ⟨et.toArray⟩, .slice eq el ec] 25 := by
    rw [hV];have h0 := zW.new W7 #[.int .i64 ek, .int .i64 ep, .int .i64 en, .string ⟨et.toArray⟩, .slice eq el ec] 25;rw [hs] at h0; exact h0
   have TT := tD (d := ⟨ek, ep, en, et, eq, el, ec⟩) KL (S := fun b => m <= b /\ b ≠ w.heap.size /\ b ≠ w.heap.size + 1) ⟨by omega, by omega, by omega⟩ (T7.later hBV) 25 tp 0 tt;rw [<- HWR.out] at TT;have KNV := (K7.later hBV);have KZV := (KZ7.later hBV);have hBt := zS hB7 hBV;have hsV : wr.heap.size + 1 <= V.heap.size := by rw [hV]; simp [hs]
   dsimp only at hW7;have HV := Lib.hid hV;have HTT := Lib.hid TT;have HKN := Lib.hid KNV;have HKZ := Lib.hid KZV;clear hV TT KNV KZV KZ7 K7 T7 KL hP HT HWR KN KZ hB7 hBV hs;go_region;rw [<- hW7, <- HV.out];clear HV hW7 f_x c1 c3;have hD : Below V.heap.size V V.drew := (Below.refl _ _).drew;go_wp2;go_roundw
   case rel => exact ⟨j, ⟨25, tp, 0, tt, some ⟨wr.heap.size, 0, none⟩, 1, 1⟩, (j : Int) - 1, by omega, rfl, rfl, HKN.out.later hD, HKZ.out.later hD, HTT.out.later hD, hBt.trans (hD.mono hBt.size), by have := hD.size; omega⟩
   case measure => simp [intOf]
end Go.Proofs.YtdjomhbmhooceaaGreat.N9
