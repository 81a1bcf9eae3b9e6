import Derived.Test.YtdjomhbmhooceaaGreatF29
set_option maxHeartbeats 4000000
set_option maxRecDepth 100000
set_option linter.unusedVariables false
set_option linter.unusedSimpArgs false
namespace Go.Proofs.YtdjomhbmhooceaaGreat.N8
open Go.RowKit N5 N6 N7
attribute [local go_sem] xB xA
theorem yS {n : Nat} {w : World} {x : Value} {c : Cu} (h : zF n w x c) (hn : n <= w.heap.size) : Calls Tryz.prog 121 #[x] w (N5.RunsTo (zI c) w) := by
 obtain ⟨a, ln, cap, rfl, hr, -⟩ := h.shape;clear h;have hB1 : Below w.heap.size w (w.alloc (tG (.slice a ln cap) c)) := (Below.refl _ w).alloc (Nat.le_refl _) _;have HP := xU (n := n) (w := w.alloc (tG (.slice a ln cap) c)) (c := c) ⟨_, rfl, hr.out.below (hB1.mono hn)⟩ (by simp; omega);obtain ⟨⟨tk, tp, tn, tt⟩, hT⟩ : ∃ t, t = c.peek := ⟨_, rfl⟩;rw [<- hT] at HP;have HS : Hid (zI c = (decide (c.err = 0) && (decide (tk = 1) || (decide (tk = 2) || (decide (tk = 3) || (c.is [95] || c.is [40])))))) := by show _ = _; rw [<- vP]; unfold wI zI; rw [<- hT]
 clear hT;go_enter Tryz.func121, Tryz.ntmps121;go_wp2_with fail;refine HP.mono ?_; rintro e w2 ⟨rfl, hB2⟩;have hB := zS hB1 hB2;have K : zW w2 w.heap.size (zK (.slice a ln cap) c.ep (c.nest : Int) c.err c.pos) 40 := (zW.new w _ _).later hB2;have HR := Lib.hid (hr.out.below (hB.mono hn));have HI := uK (n := n) (w := w2) (c := c) ⟨_, rfl, HR.out⟩ (Nat.le_trans hn hB.size) [95];have K0 := Lib.hid K;obtain ⟨⟨x0, x1, x2, x3, x4, x5, x6, x7⟩, -⟩ := zB K;clear HP hr K;by_cases he : c.err = 0
 ·
  have hb : (c.err == 0) = true := by rw [he]; rfl
  rw [he] at HS;clear he;by_cases h1 : tk = 1
  ·
   subst h1;clear HI;go_wp2_with fail;go_ret;exact ⟨by rw [HS.out]; rfl, hB⟩
  ·
   by_cases h2 : tk = 2
   ·
    subst h2;clear HI;go_wp2_with fail;go_ret;exact ⟨by rw [HS.out]; rfl, hB⟩
   ·
    by_cases h3 : tk = 3
    ·
     subst h3;clear HI;go_wp2_with fail;go_ret;exact ⟨by rw [HS.out]; rfl, hB⟩
    ·
     have g1 : (tk == 1) = false := by rw [beq_eq_false_iff_ne]; exact h1
     have g2 : (tk == 2) = false := by rw [beq_eq_false_iff_ne]; exact h2
     have g3 : (tk == 3) = false := by rw [beq_eq_false_iff_ne]; exact h3
     have HS2 : Hid (zI c = (c.is [95] || c.is [40])) := by show _ = _; rw [HS.out]; simp [h1, h2, h3]
     clear HS;cases h9 : c.is [95] with
     | true =>
      rw [h9] at HI;go_wp2_with fail;refine HI.mono ?_; rintro e w3 ⟨rfl, hB3⟩;go_wp2_with fail;go_ret;exact ⟨by rw [HS2.out, h9]; rfl, hB.trans (hB3.mono hB.size)⟩
     | false =>
      rw [h9] at HI;go_wp2_with fail;refine HI.mono ?_; rintro e w3 ⟨rfl, hB3⟩;have hB4 := zS hB hB3;have HI4 := uK (n := n) (w := w3) (c := c) ⟨_, rfl, HR.out.bl hB3 hn hB⟩ (Nat.le_trans hn hB4.size) [40];obtain ⟨⟨z0, z1, z2, z3, z4, z5, z6, z7⟩, -⟩ := zB (K0.out.later hB3);clear HI x0 x1 x2 x3 x4 x5 x6 x7;go_wp2_with fail;refine HI4.mono ?_; rintro e w4 ⟨rfl, hB5⟩;go_wp2_with fail;go_ret;exact ⟨by rw [HS2.out, h9]; simp, hB4.trans (hB5.mono hB4.size)⟩
 ·
  have hb : (c.err == 0) = false := by rw [beq_eq_false_iff_ne]; exact he
  have HS2 : Hid (zI c = false) := by show _ = _; rw [HS.out]; simp [he]
  clear HI HS;go_wp2_with fail;go_ret;exact ⟨by rw [HS2.out]; rfl, hB⟩
theorem wT {wr : Cu -> Cu × Nd} {n k : Nat} {w : World} {x : Value} {c : Cu} (h : zF n w x c) (hn : n <= w.heap.size) (hok : yZ c) (hf : ∀ c, 200 <= c.nest + k \/ c.err ≠ 0 -> zY c (wr c).1) (hwh : c.err = 0 -> ∀ (c : Cu) (W : World) (x : Value), 200 <= c.nest + k \/ c.err ≠ 0 -> yZ c -> zF n W x c -> n <= W.heap.size -> Calls Tryz.prog 104 #[x] W (yE n (wr c) W)) (hk : 200 <= c.nest + (k + 1) \/ c.err ≠ 0) : Calls Tryz.prog 120 #[x] w (yE n (zO wr c) w) := by
 have HWH := Lib.hid hwh;have HK := Lib.hid hk;have HOK := Lib.hid hok;replace hf := Lib.hid hf;clear hwh hk hok;obtain ⟨a, ln, cap, rfl, hr, -⟩ := h.shape;clear h;obtain ⟨W1, hW1, Kp, Krc, Krn, hB1, hsz⟩ := qE w ((zK (.slice a ln cap) c.ep (c.nest : Int) c.err c.pos)) 40 ((zK (.slice none 0 0) 0 0 0 0)) 40 #[.int .i64 0, .int .i64 0, .int .i64 0, .string ⟨#[]⟩, .slice none 0 0] 25;have Rc : xW n W1 (.slice a ln cap) (c.ws.drop c.at') := hr.out.below (hB1.mono hn);have HW1 := Lib.hid hW1;clear hW1 hr;go_enter Tryz.func120, Tryz.ntmps120;go_upto_region 1 with fail;rw [<- HW1.out];clear HW1;obtain ⟨⟨tk, tp, tn, tt⟩, hT⟩ : ∃ t, t = c.peek := ⟨_, rfl⟩;have HT := Lib.hid hT;clear hT;have HC := xU (zF.mk Rc) (Nat.le_trans hn hB1.size);rw [<- HT.out] at HC;have f_p := xZ (zB Kp) (zB Krc) (zA Krn);go_wp2_with fail;refine HC.mono ?_; rintro e W2 ⟨rfl, hB⟩;clear HC;clear f_p;obtain ⟨Kp, Krc, Krn⟩ := vK hB Kp Krc Krn;replace Rc := Rc.bl hB hn hB1;have hs3 := hB.size;have hB3 := zS hB1 hB;clear hB hB1;go_upto_region 2 with fail;obtain ⟨W4, hW4, KN, hB, hz4⟩ := zT W2 #[.int .i64 tk, .int .i64 tp, .int .i64 tn, .string ⟨tt.toArray⟩] 38;rw [<- hW4];clear hW4;obtain ⟨Kp, Krc, Krn⟩ := vK hB Kp Krc Krn;replace Rc := Rc.bl hB hn hB3;have hs5 := hB.size;have hB5 := zS hB3 hB;clear hB hB3;have Kt := KN;clear KN;cases hb : zI c with
 | false =>
  have HQ : Hid (zO wr c = (c.fail 5, tZ)) := by show _ = _; unfold zO; rw [hb]; rfl
  have HC := yS (zF.mk Rc) (Nat.le_trans hn hB5.size);rw [hb] at HC;have f_p := vX (zB Kp) (zB Krc) (zA Krn) (zD Kt);go_wp2_with fail;refine HC.mono ?_; rintro e W6 ⟨rfl, hB⟩;clear HC;clear f_p;obtain ⟨Kp, Krc, Krn, Kt⟩ := wP hB Kp Krc Krn Kt;replace Rc := Rc.bl hB hn hB5;have hs7 := hB.size;have hB7 := zS hB5 hB;clear hB hB5;have HC := uD (zF.mk Rc) (Nat.le_trans hn hB7.size) 5;obtain ⟨c8, hE⟩ : ∃ q, q = c.fail 5 := ⟨_, rfl⟩;rw [<- hE] at HC;have E8 := Lib.hid hE;clear hE;have f_p := vX (zB Kp) (zB Krc) (zA Krn) (zD Kt);go_wp2_with fail;refine HC.mono ?_; rintro e W8 ⟨x', rfl, hx, hB⟩;clear HC;obtain ⟨a8, ln8, cap8, rfl, hRq, -⟩ := hx.shape;have Rq8 := hRq.out;clear hx hRq;clear f_p;obtain ⟨Kp, Krc, Krn, Kt⟩ := wP hB Kp Krc Krn Kt;replace Rc := Rc.bl hB hn hB7;have hs9 := hB.size;have hB9 := zS hB7 hB;clear hB hB7;rw [<- E8.out] at HQ;have f_p := vX (zB Kp) (zB Krc) (zA Krn) (zD Kt);obtain ⟨W10, hW10, KN, hP⟩ := zQ Krc (.slice a8 ln8 cap8) c8.ep (c8.nest : Int) c8.err c8.pos;obtain ⟨Kp, Krn, Kt⟩ := vD hP Kp Krn Kt (by omega);replace Rc := hP.row Rc (by omega);replace Rq8 := hP.row Rq8 (by omega);have hs11 := hP.size;have hB11 := hP.below _ _ (by omega) hB9;clear hP hB9;replace Krc := KN;clear KN;obtain ⟨W12, hW12, KN, hP⟩ := zZ (z := zN) Krn zN;obtain ⟨Kp, Krc, Kt⟩ := vD hP Kp Krc Kt (by omega);replace Rc := hP.row Rc (by omega);replace Rq8 := hP.row Rq8 (by omega);have hs13 := hP.size;have hB13 := hP.below _ _ (by omega) hB11;clear hP hB11;dsimp only [zN] at hW12 KN;replace Krn := KN;clear KN;go_wp2_with fail;rw [<- hW10, <- hW12];obtain ⟨⟨y0, y1, y2, y3, y4, y5, y6, y7⟩, -⟩ := zB Krc;obtain ⟨⟨z0, z1, z2, z3, z4⟩, -⟩ := zA Krn;refine bodyPost_ret (v := .tuple #[.agg (zK (.slice a8 ln8 cap8) c8.ep (c8.nest : Int) c8.err c8.pos), NC.val zN]) (by simp [results, Tryz.results120, go_sem, y0, y1, y2, y3, y4, y5, y6, y7, z0, z1, z2, z3, z4, NC.val, zN]) rfl ⟨_, zN, rfl, ?_, ?_, hB13⟩
  ·
   rw [HQ.out]; exact zF.mk Rq8
  ·
   rw [HQ.out]; exact yL _ _ 0 0 0 []
 | true =>
  have HE : Hid (c.err = 0) := yC hb;have HQ0 : Hid (zO wr c = if c.is [40] = true then rU wr c else (c.adv, sF c.peek)) := by show _ = _; unfold zO; rw [if_pos hb]
  have HC := yS (zF.mk Rc) (Nat.le_trans hn hB5.size);rw [hb] at HC;have f_p := vX (zB Kp) (zB Krc) (zA Krn) (zD Kt);go_wp2_with fail;refine HC.mono ?_; rintro e W14 ⟨rfl, hB⟩;clear HC;clear f_p;obtain ⟨Kp, Krc, Krn, Kt⟩ := wP hB Kp Krc Krn Kt;replace Rc := Rc.bl hB hn hB5;have hs15 := hB.size;have hB15 := zS hB5 hB;clear hB hB5;cases hi : c.is [40] with
  | true =>
   have HC := uK (zF.mk Rc) (Nat.le_trans hn hB15.size) [40];rw [hi] at HC;have f_p := vX (zB Kp) (zB Krc) (zA Krn) (zD Kt);go_wp2_with fail;refine HC.mono ?_; rintro e W16 ⟨rfl, hB⟩;clear HC;clear f_p;obtain ⟨Kp, Krc, Krn, Kt⟩ := wP hB Kp Krc Krn Kt;replace Rc := Rc.bl hB hn hB15;have hs17 := hB.size;have hB17 := zS hB15 hB;clear hB hB15;have HQ : Hid (zO wr c = (((wr (c.enter.want [40])).1.want [41]).leave, (wr (c.enter.want [40])).2)) := by show _ = _; rw [HQ0.out, if_pos hi]; rfl
   have HX := Lib.hid (kN HE.out hi HK.out);have HO := Lib.hid ((zL c.enter [40]).ok (uC HOK.out));clear hi hb;have HC := uF (zF.mk Rc) (Nat.le_trans hn hB17.size) HOK.out;obtain ⟨c18, hE⟩ : ∃ q, q = c.enter := ⟨_, rfl⟩;rw [<- hE] at HC;have E18 := Lib.hid hE;clear hE;have f_p := vX (zB Kp) (zB Krc) (zA Krn) (zD Kt);go_wp2_with fail;refine HC.mono ?_; rintro e W18 ⟨x', rfl, hx, hB⟩;clear HC;obtain ⟨a18, ln18, cap18, rfl, hRq, -⟩ := hx.shape;have Rq18 := hRq.out;clear hx hRq;clear f_p;obtain ⟨Kp, Krc, Krn, Kt⟩ := wP hB Kp Krc Krn Kt;replace Rc := Rc.bl hB hn hB17;have hs19 := hB.size;have hB19 := zS hB17 hB;clear hB hB17;rw [<- E18.out] at HQ HX HO;have f_p := vX (zB Kp) (zB Krc) (zA Krn) (zD Kt);obtain ⟨W20, hW20, KN, hP⟩ := zQ Kp (.slice a18 ln18 cap18) c18.ep (c18.nest : Int) c18.err c18.pos;obtain ⟨Krc, Krn, Kt⟩ := vD hP Krc Krn Kt (by omega);replace Rc := hP.row Rc (by omega);replace Rq18 := hP.row Rq18 (by omega);have hs21 := hP.size;have hB21 := hP.below _ _ (by omega) hB19;clear hP hB19;replace Kp := KN;clear KN;go_upto_region 6 with fail;rw [<- hW20];clear hW20;clear f_p;have HC := yK (zF.mk Rq18) (Nat.le_trans hn hB21.size) [40];obtain ⟨c22, hE⟩ : ∃ q, q = c18.want [40] := ⟨_, rfl⟩;rw [<- hE] at HC;have E22 := Lib.hid hE;clear hE;have f_p := vX (zB Kp) (zB Krc) (zA Krn) (zD Kt);go_wp2_with fail;refine HC.mono ?_; rintro e W22 ⟨x', rfl, hx, hB⟩;clear HC;obtain ⟨a22, ln22, cap22, rfl, hRq, -⟩ := hx.shape;have Rq22 := hRq.out;clear hx hRq;clear f_p;obtain ⟨Kp, Krc, Krn, Kt⟩ := wP hB Kp Krc Krn Kt;replace Rc := Rc.bl hB hn hB21;replace Rq18 := Rq18.bl hB hn hB21;have hs23 := hB.size;have hB23 := zS hB21 hB;clear hB hB21;rw [<- E22.out] at HQ HX HO;have f_p := vX (zB Kp) (zB Krc) (zA Krn) (zD Kt);obtain ⟨W24, hW24, KN, hP⟩ := zQ Kp (.slice a22 ln22 cap22) c22.ep (c22.nest : Int) c22.err c22.pos;obtain ⟨Krc, Krn, Kt⟩ := vD hP Krc Krn Kt (by omega);replace Rc := hP.row Rc (by omega);replace Rq18 := hP.row Rq18 (by omega);replace Rq22 := hP.row Rq22 (by omega);have hs25 := hP.size;have hB25 := hP.below _ _ (by omega) hB23;clear hP hB23;replace Kp := KN;clear KN;go_upto_region 7 with fail;rw [<- hW24];clear hW24;clear f_p;have HC := HWH.out HE.out _ _ _ HX.out HO.out (zF.mk Rq22) (Nat.le_trans hn hB25.size);obtain ⟨c26, hE⟩ : ∃ q, q = (wr c22).1 := ⟨_, rfl⟩;have E26 := Lib.hid hE;clear hE;have f_p := vX (zB Kp) (zB Krc) (zA Krn) (zD Kt);go_wp2_with fail;refine HC.mono ?_; rintro e W26 ⟨x', e, rfl, hx, he, hB⟩;clear HC;rw [<- E26.out] at hx;obtain ⟨a26, ln26, cap26, rfl, hRq, -⟩ := hx.shape;have Rq26 := hRq.out;clear hx hRq;clear f_p;obtain ⟨Kp, Krc, Krn, Kt⟩ := wP hB Kp Krc Krn Kt;replace Rc := Rc.bl hB hn hB25;replace Rq18 := Rq18.bl hB hn hB25;replace Rq22 := Rq22.bl hB hn hB25;have hs27 := hB.size;have hB27 := zS hB25 hB;clear hB hB25;obtain ⟨ek, ep, en, et, eq, el, ec⟩ := e;unfold NC.val;have Te := he.mono (S' := (fun q => w.heap.size + 1 + 1 + 1 <= q /\ q ≠ W2.heap.size)) fun q hq hl => ⟨by omega, by omega⟩
   clear he;go_upto_region 8 with fail;replace Te := Te.mono (S' := (fun q => w.heap.size + 1 + 1 + 1 <= q /\ q ≠ W2.heap.size /\ q ≠ W26.heap.size /\ q ≠ W26.heap.size + 1)) fun q hq hl => ⟨by omega, by omega, by omega, by omega⟩
   obtain ⟨W28, hV, KC0, KN0, hB, hz28⟩ := vC W26 ((zK (.slice a26 ln26 cap26) c26.ep (c26.nest : Int) c26.err c26.pos)) 40 #[.int .i64 ek, .int .i64 ep, .int .i64 en, .string ⟨et.toArray⟩, .slice eq el ec] 25;rw [<- hV];clear hV;obtain ⟨Kp, Krc, Krn, Kt⟩ := wP hB Kp Krc Krn Kt;replace Te := Te.keeps (.of_below hB);replace Rc := Rc.bl hB hn hB27;replace Rq18 := Rq18.bl hB hn hB27;replace Rq22 := Rq22.bl hB hn hB27;replace Rq26 := Rq26.bl hB hn hB27;have hs29 := hB.size;have hB29 := zS hB27 hB;clear hB hB27;have Kg := KC0;clear KC0;have Km := KN0;clear KN0;have HC := yK (zF.mk Rq26) (Nat.le_trans hn hB29.size) [41];obtain ⟨c30, hE⟩ : ∃ q, q = c26.want [41] := ⟨_, rfl⟩;rw [<- hE] at HC;have E30 := Lib.hid hE;clear hE;have f_p := ga6 (zB Kp) (zB Krc) (zA Krn) (zD Kt) (zB Kg) (zA Km);go_wp2_with fail;refine HC.mono ?_; rintro e W30 ⟨x', rfl, hx, hB⟩;clear HC;obtain ⟨a30, ln30, cap30, rfl, hRq, -⟩ := hx.shape;have Rq30 := hRq.out;clear hx hRq;clear f_p;obtain ⟨Kp, Krc, Krn, Kt, Kg, Km⟩ := gl6 hB Kp Krc Krn Kt Kg Km;replace Te := Te.keeps (.of_below hB);replace Rc := Rc.bl hB hn hB29;replace Rq18 := Rq18.bl hB hn hB29;replace Rq22 := Rq22.bl hB hn hB29;replace Rq26 := Rq26.bl hB hn hB29;have hs31 := hB.size;have hB31 := zS hB29 hB;clear hB hB29;rw [<- E26.out, <- E30.out] at HQ;have f_p := ga6 (zB Kp) (zB Krc) (zA Krn) (zD Kt) (zB Kg) (zA Km);obtain ⟨W32, hW32, KN, hP⟩ := zQ Kg (.slice a30 ln30 cap30) c30.ep (c30.nest : Int) c30.err c30.pos;obtain ⟨Kp, Krc, Krn, Kt, Km⟩ := gq5 hP Kp Krc Krn Kt Km (by omega);replace Te := hP.node Te (by omega);replace Rc := hP.row Rc (by omega);replace Rq18 := hP.row Rq18 (by omega);replace Rq22 := hP.row Rq22 (by omega);replace Rq26 := hP.row Rq26 (by omega);replace Rq30 := hP.row Rq30 (by omega);have hs33 := hP.size;have hB33 := hP.below _ _ (by omega) hB31;clear hP hB31;replace Kg := KN;clear KN;go_upto_region 9 with fail;rw [<- hW32];clear hW32;clear f_p;have HO2 := Lib.hid ((zL c26 [41]).ok (by rw [E26.out]; exact (hf.out _ HX.out).ok HO.out));rw [<- E30.out] at HO2;obtain ⟨cL, hE⟩ : ∃ q, q = c30.leave := ⟨_, rfl⟩;rw [<- hE] at HQ;have HL : ∀ wx, Below W32.heap.size W32 wx -> Calls Tryz.prog 38 #[.agg (zK (.slice a30 ln30 cap30) c30.ep (c30.nest : Int) c30.err c30.pos)] wx (fun e w' => ∃ a5 ln5 cap5, e = .returned (.agg (zK (.slice a5 ln5 cap5) cL.ep (cL.nest : Int) cL.err cL.pos)) /\ Hid (xW n w' (.slice a5 ln5 cap5) (cL.ws.drop cL.at')) /\ Below W32.heap.size W32 w') := by
    intro wx hb;have hs := hB33.size;have := wW (zF.mk (Rq30.below (hb.mono (Nat.le_trans hn hs)))) (Nat.le_trans (Nat.le_trans hn hs) hb.size) HO2.out;rw [<- hE] at this;refine this.mono ?_;rintro e w5 ⟨x5, rfl, hx, hB⟩;obtain ⟨a5, ln5, cap5, rfl, hr5, -⟩ := hx.shape;exact ⟨a5, ln5, cap5, rfl, hr5, hb.trans (hB.mono hb.size)⟩
   have EL := Lib.hid hE;clear hE;have f_p := ga6 (zB Kp) (zB Krc) (zA Krn) (zD Kt) (zB Kg) (zA Km);have dmrc : W26.heap.size + 1 ≠ w.heap.size + 1 := by omega
   have emrc : w.heap.size + 1 ≠ W26.heap.size + 1 := by omega
   have dmrn : W26.heap.size + 1 ≠ w.heap.size + 1 + 1 := by omega
   have emrn : w.heap.size + 1 + 1 ≠ W26.heap.size + 1 := by omega
   have drcrn : w.heap.size + 1 ≠ w.heap.size + 1 + 1 := by omega
   have ercrn : w.heap.size + 1 + 1 ≠ w.heap.size + 1 := by omega
   go_region_with (go_at_call 38; refine (HL _ ?_).mono ?_; (first | exact Below.refl _ _ | exact (Below.refl _ _).drew); rintro e w5 ⟨a5, ln5, cap5, rfl, hr5, hacc⟩; obtain ⟨⟨rcq0, rcq1, rcq2, rcq3, rcq4, rcq5, rcq6, rcq7⟩, rcqf0, rcqf1, rcqf2, rcqf3, rcqf4, rcqf5, rcqf6, rcqf7⟩ := zB (Krc.later hacc); obtain ⟨⟨rnq0, rnq1, rnq2, rnq3, rnq4⟩, rnqf0, rnqf1, rnqf2, rnqf3, rnqf4⟩ := zA (Krn.later hacc); obtain ⟨⟨mq0, mq1, mq2, mq3, mq4⟩, mqf0, mqf1, mqf2, mqf3, mqf4⟩ := zA (Km.later hacc));all_goals (
    obtain ⟨V7, hV7, KC, hP7⟩ := zQ (Krc.later hacc) (.slice a5 ln5 cap5) cL.ep (cL.nest : Int) cL.err cL.pos
    obtain ⟨V8, hV8, KN, hP8⟩ := zZ (z := zN) (hP7.blk (Krn.later hacc) (by omega)) ⟨ek, ep, en, et, eq, el, ec⟩
    dsimp only [zN] at hV8 KN
    rw [<- hV7, <- hV8]
    have KC := hP8.blk KC (by omega)
    clear hV7 hV8 f_p
    go_wp2_with fail
    obtain ⟨⟨y0, y1, y2, y3, y4, y5, y6, y7⟩, -⟩ := zB KC
    obtain ⟨⟨z0, z1, z2, z3, z4⟩, -⟩ := zA KN
    refine bodyPost_ret (v := .tuple #[.agg (zK (.slice a5 ln5 cap5) cL.ep (cL.nest : Int) cL.err cL.pos), NC.val ⟨ek, ep, en, et, eq, el, ec⟩]) (by simp [results, Tryz.results120, go_sem, y0, y1, y2, y3, y4, y5, y6, y7, z0, z1, z2, z3, z4, NC.val]) rfl ⟨_, ⟨ek, ep, en, et, eq, el, ec⟩, rfl, ?_, ?_, hP8.below _ _ (by omega) (hP7.below _ _ (by omega) (hB33.trans (hacc.mono hB33.size)))⟩
    ·
     rw [HQ.out]; exact zF.mk (hP8.row (hP7.row hr5.out (by omega)) (by omega))
    ·
     rw [HQ.out]; exact (hP8.node (hP7.node (Te.keeps ⟨hacc.size, fun q hq hql => hacc.block q hql⟩) (by omega)) (by omega)).mono fun q hq _ => by omega)
  | false =>
   have HQ1 : Hid (zO wr c = (c.adv, sF c.peek)) := by show _ = _; rw [HQ0.out, if_neg (by rw [hi]; decide)]
   have HC := uK (zF.mk Rc) (Nat.le_trans hn hB15.size) [40];rw [hi] at HC;have f_p := vX (zB Kp) (zB Krc) (zA Krn) (zD Kt);go_wp2_with fail;refine HC.mono ?_; rintro e W34 ⟨rfl, hB⟩;clear HC;clear f_p;obtain ⟨Kp, Krc, Krn, Kt⟩ := wP hB Kp Krc Krn Kt;replace Rc := Rc.bl hB hn hB15;have hs35 := hB.size;have hB35 := zS hB15 hB;clear hB hB15;have HC := tQ (zF.mk Rc) (Nat.le_trans hn hB35.size);obtain ⟨c36, hE⟩ : ∃ q, q = c.adv := ⟨_, rfl⟩;rw [<- hE] at HC;rw [<- HT.out] at HC;have E36 := Lib.hid hE;clear hE;have f_p := vX (zB Kp) (zB Krc) (zA Krn) (zD Kt);go_wp2_with fail;refine HC.mono ?_; rintro e W36 ⟨x', rfl, hx, hB⟩;clear HC;obtain ⟨a36, ln36, cap36, rfl, hRq, -⟩ := hx.shape;have Rq36 := hRq.out;clear hx hRq;clear f_p;obtain ⟨Kp, Krc, Krn, Kt⟩ := wP hB Kp Krc Krn Kt;replace Rc := Rc.bl hB hn hB35;have hs37 := hB.size;have hB37 := zS hB35 hB;clear hB hB35;rw [<- E36.out] at HQ1;have f_p := vX (zB Kp) (zB Krc) (zA Krn) (zD Kt);obtain ⟨W38, hW38, KN, hP⟩ := zQ Kp (.slice a36 ln36 cap36) c36.ep (c36.nest : Int) c36.err c36.pos;obtain ⟨Krc, Krn, Kt⟩ := vD hP Krc Krn Kt (by omega);replace Rc := hP.row Rc (by omega);replace Rq36 := hP.row Rq36 (by omega);have hs39 := hP.size;have hB39 := hP.below _ _ (by omega) hB37;clear hP hB37;replace Kp := KN;clear KN;go_upto_region 11 with fail;rw [<- hW38];clear hW38;clear f_p;by_cases h1 : tk = 1
   case pos =>
    subst h1;have HQ : Hid (zO wr c = (c36, .mk 11 tp 0 tt [])) := by show _ = _; rw [HQ1.out, <- HT.out]; rfl
    have f_p := vX (zB Kp) (zB Krc) (zA Krn) (zD Kt);go_upto_region 13 with fail;clear f_p;have n1 : W2.heap.size ≠ w.heap.size := by omega
    have n2 : W2.heap.size ≠ w.heap.size + 1 := by omega
    have n3 : W2.heap.size ≠ w.heap.size + 1 + 1 := by omega
    have f_p := vX (zB Kp) (zB Krc) (zA Krn) (zD Kt);obtain ⟨W40, hW40, KN, hP⟩ := zQ Krc (.slice a36 ln36 cap36) c36.ep (c36.nest : Int) c36.err c36.pos;obtain ⟨Kp, Krn, Kt⟩ := vD hP Kp Krn Kt (by omega);replace Rc := hP.row Rc (by omega);replace Rq36 := hP.row Rq36 (by omega);have hs41 := hP.size;have hB41 := hP.below _ _ (by omega) hB39;clear hP hB39;replace Krc := KN;clear KN;obtain ⟨W42, hW42, KN, hP⟩ := zZ (z := zN) Krn ⟨11, tp, 0, tt, none, 0, 0⟩;obtain ⟨Kp, Krc, Kt⟩ := vD hP Kp Krc Kt (by omega);replace Rc := hP.row Rc (by omega);replace Rq36 := hP.row Rq36 (by omega);have hs43 := hP.size;have hB43 := hP.below _ _ (by omega) hB41;clear hP hB41;dsimp only [zN] at hW42 KN;replace Krn := KN;clear KN;go_region;rw [<- hW40, <- hW42];clear f_p;obtain ⟨W44, hW44⟩ : ∃ x, x = W42.drew := ⟨_, rfl⟩;have hB : Below W42.heap.size W42 W44 := by rw [hW44]; exact (Below.refl _ _).drew
    rw [<- hW44];clear hW44;obtain ⟨Kp, Krc, Krn, Kt⟩ := wP hB Kp Krc Krn Kt;replace Rc := Rc.bl hB hn hB43;replace Rq36 := Rq36.bl hB hn hB43;have hs45 := hB.size;have hB45 := zS hB43 hB;clear hB hB43;go_wp2_with fail;obtain ⟨⟨y0, y1, y2, y3, y4, y5, y6, y7⟩, -⟩ := zB Krc;obtain ⟨⟨z0, z1, z2, z3, z4⟩, -⟩ := zA Krn;refine bodyPost_ret (v := .tuple #[.agg (zK (.slice a36 ln36 cap36) c36.ep (c36.nest : Int) c36.err c36.pos), NC.val ⟨11, tp, 0, tt, none, 0, 0⟩]) (by simp [results, Tryz.results120, go_sem, y0, y1, y2, y3, y4, y5, y6, y7, z0, z1, z2, z3, z4, NC.val]) rfl ⟨_, ⟨11, tp, 0, tt, none, 0, 0⟩, rfl, ?_, ?_, hB45⟩
    ·
     rw [HQ.out]; exact zF.mk Rq36
    ·
     rw [HQ.out]; exact yL _ _ 11 tp 0 tt
   case neg =>
    by_cases h2 : tk = 2
    case pos =>
     subst h2;have HQ : Hid (zO wr c = (c36, .mk 14 tp 0 tt [])) := by show _ = _; rw [HQ1.out, <- HT.out]; rfl
     have f_p := vX (zB Kp) (zB Krc) (zA Krn) (zD Kt);go_upto_region 15 with fail;clear f_p;have n1 : W2.heap.size ≠ w.heap.size := by omega
     have n2 : W2.heap.size ≠ w.heap.size + 1 := by omega
     have n3 : W2.heap.size ≠ w.heap.size + 1 + 1 := by omega
     have f_p := vX (zB Kp) (zB Krc) (zA Krn) (zD Kt);obtain ⟨W46, hW46, KN, hP⟩ := zQ Krc (.slice a36 ln36 cap36) c36.ep (c36.nest : Int) c36.err c36.pos;obtain ⟨Kp, Krn, Kt⟩ := vD hP Kp Krn Kt (by omega);replace Rc := hP.row Rc (by omega);replace Rq36 := hP.row Rq36 (by omega);have hs47 := hP.size;have hB47 := hP.below _ _ (by omega) hB39;clear hP hB39;replace Krc := KN;clear KN;obtain ⟨W48, hW48, KN, hP⟩ := zZ (z := zN) Krn ⟨14, tp, 0, tt, none, 0, 0⟩;obtain ⟨Kp, Krc, Kt⟩ := vD hP Kp Krc Kt (by omega);replace Rc := hP.row Rc (by omega);replace Rq36 := hP.row Rq36 (by omega);have hs49 := hP.size;have hB49 := hP.below _ _ (by omega) hB47;clear hP hB47;dsimp only [zN] at hW48 KN;replace Krn := KN;clear KN;go_region;rw [<- hW46, <- hW48];clear f_p;obtain ⟨W50, hW50⟩ : ∃ x, x = W48.drew := ⟨_, rfl⟩;have hB : Below W48.heap.size W48 W50 := by rw [hW50]; exact (Below.refl _ _).drew
     rw [<- hW50];clear hW50;obtain ⟨Kp, Krc, Krn, Kt⟩ := wP hB Kp Krc Krn Kt;replace Rc := Rc.bl hB hn hB49;replace Rq36 := Rq36.bl hB hn hB49;have hs51 := hB.size;have hB51 := zS hB49 hB;clear hB hB49;go_wp2_with fail;obtain ⟨⟨y0, y1, y2, y3, y4, y5, y6, y7⟩, -⟩ := zB Krc;obtain ⟨⟨z0, z1, z2, z3, z4⟩, -⟩ := zA Krn;refine bodyPost_ret (v := .tuple #[.agg (zK (.slice a36 ln36 cap36) c36.ep (c36.nest : Int) c36.err c36.pos), NC.val ⟨14, tp, 0, tt, none, 0, 0⟩]) (by simp [results, Tryz.results120, go_sem, y0, y1, y2, y3, y4, y5, y6, y7, z0, z1, z2, z3, z4, NC.val]) rfl ⟨_, ⟨14, tp, 0, tt, none, 0, 0⟩, rfl, ?_, ?_, hB51⟩
     ·
      rw [HQ.out]; exact zF.mk Rq36
     ·
      rw [HQ.out]; exact yL _ _ 14 tp 0 tt
    case neg =>
     by_cases h3 : tk = 3
     case pos =>
      subst h3;have HQ : Hid (zO wr c = (c36, .mk 13 tp tn [] [])) := by show _ = _; rw [HQ1.out, <- HT.out]; rfl
      have f_p := vX (zB Kp) (zB Krc) (zA Krn) (zD Kt);go_upto_region 17 with fail;clear f_p;have n1 : W2.heap.size ≠ w.heap.size := by omega
      have n2 : W2.heap.size ≠ w.heap.size + 1 := by omega
      have n3 : W2.heap.size ≠ w.heap.size + 1 + 1 := by omega
      have f_p := vX (zB Kp) (zB Krc) (zA Krn) (zD Kt);obtain ⟨W52, hW52, KN, hP⟩ := zQ Krc (.slice a36 ln36 cap36) c36.ep (c36.nest : Int) c36.err c36.pos;obtain ⟨Kp, Krn, Kt⟩ := vD hP Kp Krn Kt (by omega);replace Rc := hP.row Rc (by omega);replace Rq36 := hP.row Rq36 (by omega);have hs53 := hP.size;have hB53 := hP.below _ _ (by omega) hB39;clear hP hB39;replace Krc := KN;clear KN;obtain ⟨W54, hW54, KN, hP⟩ := zZ (z := zN) Krn ⟨13, tp, tn, [], none, 0, 0⟩;obtain ⟨Kp, Krc, Kt⟩ := vD hP Kp Krc Kt (by omega);replace Rc := hP.row Rc (by omega);replace Rq36 := hP.row Rq36 (by omega);have hs55 := hP.size;have hB55 := hP.below _ _ (by omega) hB53;clear hP hB53;dsimp only [zN] at hW54 KN;replace Krn := KN;clear KN;go_region;rw [<- hW52, <- hW54];clear f_p;obtain ⟨W56, hW56⟩ : ∃ x, x = W54.drew := ⟨_, rfl⟩;have hB : Below W54.heap.size W54 W56 := by rw [hW56]; exact (Below.refl _ _).drew
      rw [<- hW56];clear hW56;obtain ⟨Kp, Krc, Krn, Kt⟩ := wP hB Kp Krc Krn Kt;replace Rc := Rc.bl hB hn hB55;replace Rq36 := Rq36.bl hB hn hB55;have hs57 := hB.size;have hB57 := zS hB55 hB;clear hB hB55;go_wp2_with fail;obtain ⟨⟨y0, y1, y2, y3, y4, y5, y6, y7⟩, -⟩ := zB Krc;obtain ⟨⟨z0, z1, z2, z3, z4⟩, -⟩ := zA Krn;refine bodyPost_ret (v := .tuple #[.agg (zK (.slice a36 ln36 cap36) c36.ep (c36.nest : Int) c36.err c36.pos), NC.val ⟨13, tp, tn, [], none, 0, 0⟩]) (by simp [results, Tryz.results120, go_sem, y0, y1, y2, y3, y4, y5, y6, y7, z0, z1, z2, z3, z4, NC.val]) rfl ⟨_, ⟨13, tp, tn, [], none, 0, 0⟩, rfl, ?_, ?_, hB57⟩
      ·
       rw [HQ.out]; exact zF.mk Rq36
      ·
       rw [HQ.out]; exact yL _ _ 13 tp tn []
     case neg =>
      have HQ : Hid (zO wr c = (c36, .mk 12 tp 0 [] [])) := by show _ = _; rw [HQ1.out, <- HT.out]; unfold sF; rw [if_neg h1, if_neg h2, if_neg h3]
      have f_p := vX (zB Kp) (zB Krc) (zA Krn) (zD Kt);go_upto_region 18 with fail;clear f_p;have n1 : W2.heap.size ≠ w.heap.size := by omega
      have n2 : W2.heap.size ≠ w.heap.size + 1 := by omega
      have n3 : W2.heap.size ≠ w.heap.size + 1 + 1 := by omega
      have f_p := vX (zB Kp) (zB Krc) (zA Krn) (zD Kt);obtain ⟨W58, hW58, KN, hP⟩ := zQ Krc (.slice a36 ln36 cap36) c36.ep (c36.nest : Int) c36.err c36.pos;obtain ⟨Kp, Krn, Kt⟩ := vD hP Kp Krn Kt (by omega);replace Rc := hP.row Rc (by omega);replace Rq36 := hP.row Rq36 (by omega);have hs59 := hP.size;have hB59 := hP.below _ _ (by omega) hB39;clear hP hB39;replace Krc := KN;clear KN;obtain ⟨W60, hW60, KN, hP⟩ := zZ (z := zN) Krn ⟨12, tp, 0, [], none, 0, 0⟩;obtain ⟨Kp, Krc, Kt⟩ := vD hP Kp Krc Kt (by omega);replace Rc := hP.row Rc (by omega);replace Rq36 := hP.row Rq36 (by omega);have hs61 := hP.size;have hB61 := hP.below _ _ (by omega) hB59;clear hP hB59;dsimp only [zN] at hW60 KN;replace Krn := KN;clear KN;go_region;rw [<- hW58, <- hW60];clear f_p;obtain ⟨W62, hW62⟩ : ∃ x, x = W60.drew := ⟨_, rfl⟩;have hB : Below W60.heap.size W60 W62 := by rw [hW62]; exact (Below.refl _ _).drew
      rw [<- hW62];clear hW62;obtain ⟨Kp, Krc, Krn, Kt⟩ := wP hB Kp Krc Krn Kt;replace Rc := Rc.bl hB hn hB61;replace Rq36 := Rq36.bl hB hn hB61;have hs63 := hB.size;have hB63 := zS hB61 hB;clear hB hB61;go_wp2_with fail;obtain ⟨⟨y0, y1, y2, y3, y4, y5, y6, y7⟩, -⟩ := zB Krc;obtain ⟨⟨z0, z1, z2, z3, z4⟩, -⟩ := zA Krn;refine bodyPost_ret (v := .tuple #[.agg (zK (.slice a36 ln36 cap36) c36.ep (c36.nest : Int) c36.err c36.pos), NC.val ⟨12, tp, 0, [], none, 0, 0⟩]) (by simp [results, Tryz.results120, go_sem, y0, y1, y2, y3, y4, y5, y6, y7, z0, z1, z2, z3, z4, NC.val]) rfl ⟨_, ⟨12, tp, 0, [], none, 0, 0⟩, rfl, ?_, ?_, hB63⟩
      ·
       rw [HQ.out]; exact zF.mk Rq36
      ·
       rw [HQ.out]; exact yL _ _ 12 tp 0 []
end Go.Proofs.YtdjomhbmhooceaaGreat.N8
