import Derived.Test.YtdjomhbmhooceaaGreatF33
import Derived.Test.YtdjomhbmhooceaaGreatF44
import Derived.Deep.RegionHeld3
set_option maxHeartbeats 4000000
set_option maxRecDepth 100000
set_option linter.unusedVariables false
set_option linter.unusedSimpArgs false
namespace Go.Proofs.YtdjomhbmhooceaaGreat.N7
open Go.RowKit N5 N6
attribute [local go_sem] xB xA
structure Nr (W : World) (rc rn : Nat) (cs : Array Value) (z : NC) (wx : World) : Prop where
 size : W.heap.size <= wx.heap.size
 other : ∀ k, k < W.heap.size -> k ≠ rc -> k ≠ rn -> wx.heap[k]? = W.heap[k]?
 rcb : zW wx rc cs 40
 rnb : zW wx rn #[.int .i64 z.kind, .int .i64 z.pos, .int .i64 z.num, .string ⟨z.text.toArray⟩, .slice z.kp z.kl z.kc] 25
 bel : ∀ m w0, m <= rc -> m <= rn -> Below m w0 W -> Below m w0 wx
section
variable {W wx w3 : World} {rc rn : Nat} {cs : Array Value} {z : NC}
theorem Nr.refl (h1 : zW W rc cs 40) (h2 : zW W rn #[.int .i64 z.kind, .int .i64 z.pos, .int .i64 z.num, .string ⟨z.text.toArray⟩, .slice z.kp z.kl z.kc] 25) : Nr W rc rn cs z W := ⟨Nat.le_refl _, fun _ _ _ _ => rfl, h1, h2, fun _ _ _ _ h => h⟩
theorem Nr.near (h : Nr W rc rn cs z wx) (hB : Below wx.heap.size wx w3) : Nr W rc rn cs z w3 :=
 ⟨Nat.le_trans h.size hB.size, fun k hk h1 h2 => (hB.block k (Nat.lt_of_lt_of_le hk h.size)).trans (h.other k hk h1 h2), h.rcb.later hB, h.rnb.later hB, fun m w0 h1 h2 hb => (h.bel m w0 h1 h2 hb).trans (hB.mono (Nat.le_trans h1 (Nat.le_of_lt h.rcb.lt)))⟩
theorem Nr.drew (h : Nr W rc rn cs z wx) : Nr W rc rn cs z wx.drew := h.near ((Below.refl _ _).drew)
theorem Nr.alloc (h : Nr W rc rn cs z wx) (o : Obj) : Nr W rc rn cs z (wx.alloc o) := h.near ((Below.refl _ _).alloc (Nat.le_refl _) _)
theorem Nr.grow {v : Value} {k : Nat} {xs : List Value} {e : TypeId} (h : Nr W rc rn cs z wx) (h1 : rc < W.heap.size) (h2 : rn < W.heap.size) (ho : wx.ownsRow W.heap.size e 5 v k xs) (hg : wx.grownBy w3 v.ownBlock) : Nr W rc rn cs z w3 := by
 have hlt : ∀ b, v.ownBlock = some b -> W.heap.size <= b := fun b e => (ho.lt b e).1
 have hB : Below W.heap.size wx w3 := rD hg hlt h.size;exact ⟨Nat.le_trans h.size hB.size, fun k hk h1 h2 => (hB.block k hk).trans (h.other k hk h1 h2), (hB.block rc h1).trans h.rcb, (hB.block rn h2).trans h.rnb, fun m w0 h3 h4 hb => (h.bel m w0 h3 h4 hb).trans (hB.mono (Nat.le_trans h3 (Nat.le_of_lt h1)))⟩
theorem Nr.put8 {uz : Value} {e0 e1 e2 e3 : Int} (hne : rc ≠ rn) (h : Nr W rc rn (zK uz e0 e1 e2 e3) z wx) (u : Value) (ep nest err pos : Int) : Nr W rc rn (zK u ep nest err pos) z ((((((((wx.setCell ⟨rc, 0, none⟩ u).setCell ⟨rc, 1, none⟩ (.int .i64 0)).setCell ⟨rc, 2, none⟩ (.int .i64 ep)).setCell ⟨rc, 3, none⟩ (.int .i64 0)).setCell ⟨rc, 4, none⟩ (.string ⟨#[]⟩)).setCell ⟨rc, 5, none⟩ (.int .i64 nest)).setCell ⟨rc, 6, none⟩ (.int .i64 err)).setCell ⟨rc, 7, none⟩ (.int .i64 pos)) := by
 obtain ⟨W7, hW, hb, hp⟩ := zQ h.rcb u ep nest err pos;rw [<- hW];exact ⟨Nat.le_trans h.size hp.size, fun k hk h1 h2 => (hp.other k h1).trans (h.other k hk h1 h2), hb, hp.blk h.rnb hne.symm, fun m w0 h3 h4 hb => hp.below m w0 h3 (h.bel m w0 h3 h4 hb)⟩
theorem Nr.put5 (hne : rc ≠ rn) (h : Nr W rc rn cs z wx) (kd ps nm : Int) (tx : List UInt8) (kp : Option Addr) (kl kc : Nat) : Nr W rc rn cs ⟨kd, ps, nm, tx, kp, kl, kc⟩ (((((wx.setCell ⟨rn, 0, none⟩ (.int .i64 kd)).setCell ⟨rn, 1, none⟩ (.int .i64 ps)).setCell ⟨rn, 2, none⟩ (.int .i64 nm)).setCell ⟨rn, 3, none⟩ (.string ⟨tx.toArray⟩)).setCell ⟨rn, 4, none⟩ (.slice kp kl kc)) := by
 obtain ⟨W7, hW, hb, hp⟩ := zZ h.rnb ⟨kd, ps, nm, tx, kp, kl, kc⟩;dsimp only at hW;rw [<- hW];exact ⟨Nat.le_trans h.size hp.size, fun k hk h1 h2 => (hp.other k h2).trans (h.other k hk h1 h2), hp.blk h.rcb hne, hb, fun m w0 h3 h4 hb => hp.below m w0 h4 (h.bel m w0 h3 h4 hb)⟩
theorem Nr.keeps {S : Nat -> Prop} (h : Nr W rc rn cs z wx) (hS : ∀ b, S b -> b ≠ rc /\ b ≠ rn) : uO S W wx := ⟨h.size, fun k hk hl => h.other k hl (hS k hk).1 (hS k hk).2⟩
theorem Nr.blk (h : Nr W rc rn cs z wx) {k : Nat} {ds : Array Value} {ty : TypeId} (hk : zW W k ds ty) (h1 : k ≠ rc) (h2 : k ≠ rn) : zW wx k ds ty := (h.other k hk.lt h1 h2).trans hk
theorem jU {o : Oper} {a : Act} {K : Act -> World -> Prop} {Q : Exit -> Act -> World -> Prop} (s x : Operand) (ho : o.op = .call { callee := .builtin .append, args := #[s, x], argTypes := #[23, 23] })
  {lv : Value} {ds : List NC} {S : Nat -> Prop} (hs : a.eval s = .slice none 0 0) (hx : a.eval x = lv) (hR : sQ S W yJ lv ds) (hS : ∀ b, S b -> b ≠ rc /\ b ≠ rn) (hl : ds.length <= 5000) (N : Nr W rc rn cs z wx)
  (h : ∀ v' w', w'.ownsRow W.heap.size 25 5 v' ds.length (ds.flatMap yJ) -> Nr W rc rn cs z w' -> Below wx.heap.size wx w' -> K (a.put o.dst v') w') : o.wp Tryz.prog a wx K Q := by
 obtain ⟨i0, hi0, hz0, hz1, hz2⟩ := info_parts wS
 refine tR s x 23 ho W.heap.size 25 i0 _ 64 Tryz.underlying23 hi0 hz0 hz1 hz2 rfl (by decide) tK wD [] (v := .slice none 0 0) hs (World.ownsRow_nil _ _ _ _) hx (hR.keeps (N.keeps hS)).at (by simp; unfold maxLen; omega) (by simp; omega) N.size ?_
 intro v3 w3 ho3 hg3
 exact h v3 w3 (by simpa using ho3) (N.near (tO hg3)) (tO hg3)
theorem aU {o : Oper} {a : Act} {K : Act -> World -> Prop} {Q : Exit -> Act -> World -> Prop} (s x : Operand) (ho : o.op = .call { callee := .builtin .append, args := #[s, x], argTypes := #[23, 23] })
  {lv : Value} {ds : List NC} {S : Nat -> Prop} {g : Nat} {cr : Array Value} {ty : TypeId} (hs : a.eval s = .slice none 0 0) (hx : a.eval x = lv) (hR : sQ S W yJ lv ds) (hS : ∀ b, S b -> b ≠ rc /\ b ≠ rn) (hl : ds.length <= 5000) (hg : zW wx g cr ty) (N : Nr W rc rn cs z wx)
  (h : ∀ v' w', w'.ownsRow W.heap.size 25 5 v' ds.length (ds.flatMap yJ) -> Nr W rc rn cs z w' -> zW w' g cr ty -> K (a.put o.dst v') w') : o.wp Tryz.prog a wx K Q :=
 jU s x ho hs hx hR hS hl N fun v' w' h1 h2 h3 => h v' w' h1 h2 (hg.later h3)
theorem iO {o : Oper} {a : Act} {K : Act -> World -> Prop} {Q : Exit -> Act -> World -> Prop} (s x : Operand) (ho : o.op = .call { callee := .builtin .append, args := #[s, x], argTypes := #[23, 23] })
  {v3 : Value} {k g : Nat} {xs : List Value} {d : NC} (hs : a.eval s = v3) (hx : a.eval x = .slice (some ⟨g, 0, none⟩) 1 1) (hl : k <= 5000) (h1 : rc < W.heap.size) (h2 : rn < W.heap.size) (hown : wx.ownsRow W.heap.size 25 5 v3 k xs)
  (hg : zW wx g #[.int .i64 d.kind, .int .i64 d.pos, .int .i64 d.num, .string ⟨d.text.toArray⟩, .slice d.kp d.kl d.kc] 25) (N : Nr W rc rn cs z wx)
  (h : ∀ p cap w', w'.ownsRow W.heap.size 25 5 (.slice p (k + 1) cap) (k + 1) (xs ++ yJ d) -> Nr W rc rn cs z w' -> K (a.put o.dst (.slice p (k + 1) cap)) w') : o.wp Tryz.prog a wx K Q := by
 obtain ⟨i0, hi0, hz0, hz1, hz2⟩ := info_parts wS
 refine wp_append_at s x 23 ho W.heap.size 25 i0 _ 5 64 Tryz.underlying23 hi0 hz0 hz1 hz2 rfl (by decide) v3 k xs hs hown ⟨g, 0, none⟩ 1 1 (yJ d) hx rfl (fun j u hj => ?_) (wD _) (by unfold maxLen; omega) (by omega) N.size ?_
 ·
  rw [Addr.add_lit, Nat.zero_add, hg.cell];simpa [yJ] using hj
 ·
  intro v4 w4 ho4 hg4 _;have N4 := N.grow h1 h2 hown hg4;obtain ⟨p, cap, rfl⟩ : ∃ p cap, v4 = .slice p (k + 1) cap := by
   rcases ho4.2 with ⟨_, e0⟩ | ⟨g, cap, cur, e1, _⟩
   ·
    omega
   ·
    exact ⟨_, _, e1⟩
  exact h p cap w4 ho4 N4
theorem own8 {v : Value} {k base : Nat} {xs : List Value} {e : TypeId} (hb : rc < base) (ho : wx.ownsRow base e 5 v k xs) (x0 x1 x2 x3 x4 x5 x6 x7 : Value) : ((((((((wx.setCell ⟨rc, 0, none⟩ x0).setCell ⟨rc, 1, none⟩ x1).setCell ⟨rc, 2, none⟩ x2).setCell ⟨rc, 3, none⟩ x3).setCell ⟨rc, 4, none⟩ x4).setCell ⟨rc, 5, none⟩ x5).setCell ⟨rc, 6, none⟩ x6).setCell ⟨rc, 7, none⟩ x7).ownsRow base e 5 v k xs :=
 ownsRow_setCell_below (ownsRow_setCell_below (ownsRow_setCell_below (ownsRow_setCell_below (ownsRow_setCell_below (ownsRow_setCell_below (ownsRow_setCell_below (ownsRow_setCell_below ho (a := ⟨rc, 0, none⟩) hb _) (a := ⟨rc, 1, none⟩) hb _) (a := ⟨rc, 2, none⟩) hb _) (a := ⟨rc, 3, none⟩) hb _) (a := ⟨rc, 4, none⟩) hb _) (a := ⟨rc, 5, none⟩) hb _) (a := ⟨rc, 6, none⟩) hb _) (a := ⟨rc, 7, none⟩) hb _
theorem own5 {v : Value} {k base : Nat} {xs : List Value} {e : TypeId} (hb : rn < base) (ho : wx.ownsRow base e 5 v k xs) (x0 x1 x2 x3 x4 : Value) : (((((wx.setCell ⟨rn, 0, none⟩ x0).setCell ⟨rn, 1, none⟩ x1).setCell ⟨rn, 2, none⟩ x2).setCell ⟨rn, 3, none⟩ x3).setCell ⟨rn, 4, none⟩ x4).ownsRow base e 5 v k xs :=
 ownsRow_setCell_below (ownsRow_setCell_below (ownsRow_setCell_below (ownsRow_setCell_below (ownsRow_setCell_below ho (a := ⟨rn, 0, none⟩) hb _) (a := ⟨rn, 1, none⟩) hb _) (a := ⟨rn, 2, none⟩) hb _) (a := ⟨rn, 3, none⟩) hb _) (a := ⟨rn, 4, none⟩) hb _
theorem blk8 {g : Nat} {ds : Array Value} {ty : TypeId} (hb : g ≠ rc) (h : zW wx g ds ty) (x0 x1 x2 x3 x4 x5 x6 x7 : Value) : zW ((((((((wx.setCell ⟨rc, 0, none⟩ x0).setCell ⟨rc, 1, none⟩ x1).setCell ⟨rc, 2, none⟩ x2).setCell ⟨rc, 3, none⟩ x3).setCell ⟨rc, 4, none⟩ x4).setCell ⟨rc, 5, none⟩ x5).setCell ⟨rc, 6, none⟩ x6).setCell ⟨rc, 7, none⟩ x7) g ds ty :=
 (((((((((wE.one _ rc 0 x0).trans (wE.one _ _ 1 x1)).trans (wE.one _ _ 2 x2)).trans (wE.one _ _ 3 x3)).trans (wE.one _ _ 4 x4)).trans (wE.one _ _ 5 x5)).trans (wE.one _ _ 6 x6)).trans (wE.one _ _ 7 x7))).blk h hb
theorem cS {S : Nat -> Prop} {B : Nat} {ds : List NC} {ls : List Nd} {d : NC} {t : Nd} {p : Option Addr} {cap : Nat} (tp : Int) (hdl : ds.length = ls.length) (ho : w3.ownsRow W.heap.size 25 5 (.slice p (ls.length + 1) cap) (ls.length + 1) (ds.flatMap yJ ++ yJ d)) (hK : uO S W w3) (hS : ∀ b, S b -> B <= b) (hB : B <= W.heap.size)
  (hks : ∀ i (h : i < ls.length) (h' : i < ds.length), zG S W ds[i] ls[i]) (hd : zG S W d t) : zG (fun b => B <= b) w3 ⟨4, tp, 0, [], p, ls.length + 1, cap⟩ (.mk 4 tp 0 [] (ls ++ [t])) := by
 refine jZ (base := W.heap.size) (B := B) (ds := ds ++ [d]) (k := ls.length + 1) (ks := ls ++ [t]) (by simpa using ho) hB rfl rfl (by simp [hdl]) rfl rfl rfl rfl fun j a b => ?_
 by_cases hj : j < ds.length
 ·
  rw [List.getElem_append_left hj, List.getElem_append_left (by omega)];exact ((hks j (by omega) hj).keeps hK).mono fun k hk _ => hS k hk
 ·
  have e : j = ds.length := by rw [List.length_append] at a; simp at a; omega
  subst e;rw [List.getElem_append_right (by omega), List.getElem_append_right (by omega)];simp only [hdl, Nat.sub_self, List.getElem_singleton];exact (hd.keeps hK).mono fun k hk _ => hS k hk
theorem kZ {g : Nat} {ds : Array Value} {ty : TypeId} (hg : g = wx.heap.size) : zW (wx.alloc (.cells ds ty)) g ds ty := by subst hg; exact zW.new _ _ _
theorem mG {g : Nat} {ds : Array Value} {ty : TypeId} (h : zW wx g ds ty) : zW wx.drew g ds ty := h.later (Below.refl _ _).drew
end
theorem jN {wr : Cu -> Cu × Nd} {n : Nat} {w : World} {x : Value} {c : Cu} (h : zF n w x c) (hn : n <= w.heap.size) (hpreds : ∀ (W : World) (x : Value), zF n W x c -> n <= W.heap.size -> Calls Tryz.prog 63 #[x] W (mB n (xG wr c) W)) (hlen : (xG wr c).2.length <= 5000) (hat : ∀ (W : World) (x : Value), zF n W x (xG wr c).1 -> n <= W.heap.size -> Calls Tryz.prog 64 #[x] W (yE n (wr (xG wr c).1) W)) : Calls Tryz.prog 31 #[x] w (yE n (rX wr c) w) := by
 have HQ : Hid (rX wr c = ((wr (xG wr c).1).1, .mk 4 c.peek.pos 0 [] ((xG wr c).2 ++ [(wr (xG wr c).1).2]))) := rfl;obtain ⟨⟨ca, ls⟩, hp⟩ : ∃ q, q = xG wr c := ⟨_, rfl⟩;rw [<- hp] at hpreds hlen hat HQ;dsimp only at hpreds hlen hat HQ;obtain ⟨⟨cb, tb⟩, hq⟩ : ∃ q, q = wr ca := ⟨_, rfl⟩;rw [<- hq] at hat HQ;dsimp only at hat HQ;clear hp hq;have HP := Lib.hid hpreds;have HA := Lib.hid hat;clear hpreds hat;obtain ⟨a, ln, cap, rfl, hr, -⟩ := h.shape;clear h;obtain ⟨W1, hW1, Kp, Krc, Krn, hB1, hsz⟩ := qE w ((zK (.slice a ln cap) c.ep (c.nest : Int) c.err c.pos)) 40 ((zK (.slice none 0 0) 0 0 0 0)) 40 #[.int .i64 0, .int .i64 0, .int .i64 0, .string ⟨#[]⟩, .slice none 0 0] 25;have Rc : xW n W1 (.slice a ln cap) (c.ws.drop c.at') := hr.out.below (hB1.mono hn);have HW1 := Lib.hid hW1;clear hW1 hr;go_enter Tryz.func31, Tryz.ntmps31;go_upto_region 1 with fail;rw [<- HW1.out];clear HW1;obtain ⟨⟨tk, tp, tn, tt⟩, hT⟩ : ∃ t, t = c.peek := ⟨_, rfl⟩;rw [<- hT] at HQ;dsimp only at HQ;have HC := xU (zF.mk Rc) (Nat.le_trans hn hB1.size);rw [<- hT] at HC;obtain ⟨⟨p0, p1, p2, p3, p4, p5, p6, p7⟩, pf0, pf1, pf2, pf3, pf4, pf5, pf6, pf7⟩ := zB Kp;have f_rc := yH (zB Krc) (zA Krn);go_wp2_with fail;refine HC.mono ?_; rintro e W2 ⟨rfl, hB⟩;clear HC;clear p0 p1 p2 p3 p4 p5 p6 p7 pf0 pf1 pf2 pf3 pf4 pf5 pf6 pf7 f_rc;obtain ⟨Kp, Krc, Krn⟩ := vK hB Kp Krc Krn;replace Rc := Rc.bl hB hn hB1;have hs3 := hB.size;have hB3 := zS hB1 hB;clear hB hB1;clear hT;have HC := HP.out _ _ (zF.mk Rc) (Nat.le_trans hn hB3.size);obtain ⟨⟨p0, p1, p2, p3, p4, p5, p6, p7⟩, pf0, pf1, pf2, pf3, pf4, pf5, pf6, pf7⟩ := zB Kp;have f_rc := yH (zB Krc) (zA Krn);go_wp2_with fail;refine HC.mono ?_; rintro e W4 ⟨x', lv, rfl, hx, hd, hB⟩;clear HC;obtain ⟨a4, ln4, cap4, rfl, hRq, -⟩ := hx.shape;have Rq4 := hRq.out;clear hx hRq;clear p0 p1 p2 p3 p4 p5 p6 p7 pf0 pf1 pf2 pf3 pf4 pf5 pf6 pf7 f_rc;obtain ⟨Kp, Krc, Krn⟩ := vK hB Kp Krc Krn;replace Rc := Rc.bl hB hn hB3;have hs5 := hB.size;have hB5 := zS hB3 hB;clear hB hB3;dsimp only at hd;obtain ⟨lp, lcap, rfl⟩ := hd.shape;have Tl := (hd.node 0 0 0 []).mono (S' := (fun q => w.heap.size + 1 + 1 + 1 <= q)) fun q hq hl => (by omega)
 clear hd;obtain ⟨⟨p0, p1, p2, p3, p4, p5, p6, p7⟩, pf0, pf1, pf2, pf3, pf4, pf5, pf6, pf7⟩ := zB Kp;have f_rc := yH (zB Krc) (zA Krn);obtain ⟨W6, hW6, KN, hP⟩ := zQ Kp (.slice a4 ln4 cap4) ca.ep (ca.nest : Int) ca.err ca.pos;obtain ⟨Krc, Krn⟩ := oJ hP Krc Krn (by omega);replace Tl := hP.node Tl (by omega);replace Rc := hP.row Rc (by omega);replace Rq4 := hP.row Rq4 (by omega);have hs7 := hP.size;have hB7 := hP.below _ _ (by omega) hB5;clear hP hB5;replace Kp := KN;clear KN;go_upto_region 3 with fail;rw [<- hW6];clear hW6;clear p0 p1 p2 p3 p4 p5 p6 p7 pf0 pf1 pf2 pf3 pf4 pf5 pf6 pf7 f_rc;have HC := HA.out _ _ (zF.mk Rq4) (Nat.le_trans hn hB7.size);obtain ⟨⟨p0, p1, p2, p3, p4, p5, p6, p7⟩, pf0, pf1, pf2, pf3, pf4, pf5, pf6, pf7⟩ := zB Kp;have f_rc := yH (zB Krc) (zA Krn);go_wp2_with fail;refine HC.mono ?_; rintro e W8 ⟨x', d, rfl, hx, hd, hB⟩;clear HC;obtain ⟨a8, ln8, cap8, rfl, hRq, -⟩ := hx.shape;have Rq8 := hRq.out;clear hx hRq;clear p0 p1 p2 p3 p4 p5 p6 p7 pf0 pf1 pf2 pf3 pf4 pf5 pf6 pf7 f_rc;obtain ⟨Kp, Krc, Krn⟩ := vK hB Kp Krc Krn;replace Tl := Tl.keeps (.of_below hB);replace Rc := Rc.bl hB hn hB7;replace Rq4 := Rq4.bl hB hn hB7;have hs9 := hB.size;have hB9 := zS hB7 hB;clear hB hB7;obtain ⟨dk, dp, dn, dt, dq, dl, dc⟩ := d;unfold NC.val;have Td := hd.mono (S' := (fun q => w.heap.size + 1 + 1 + 1 <= q)) fun q hq hl => (by omega)
 clear hd;dsimp only at Td;replace Tl := Tl.mono (S' := (fun q => w.heap.size + 1 + 1 + 1 <= q /\ q ≠ W8.heap.size)) fun q hq hl => ⟨by omega, by omega⟩
 replace Td := Td.mono (S' := (fun q => w.heap.size + 1 + 1 + 1 <= q /\ q ≠ W8.heap.size)) fun q hq hl => ⟨by omega, by omega⟩
 obtain ⟨W10, hW10, KN, hB, -⟩ := zT W8 #[.int .i64 0, .int .i64 0, .int .i64 0, .string ⟨#[]⟩, .slice none 0 0] 25;have hA10 := hB;have hz10 : W8.heap.size + 1 <= W10.heap.size := by rw [hW10]; simp
 obtain ⟨Kp, Krc, Krn⟩ := vK hB Kp Krc Krn;replace Rc := Rc.bl hB hn hB9;replace Rq4 := Rq4.bl hB hn hB9;replace Rq8 := Rq8.bl hB hn hB9;have hs11 := hB.size;have hB11 := zS hB9 hB;clear hB hB9;have Km := KN;clear KN;have HV := Lib.hid hW10;clear hW10;have np : W8.heap.size ≠ w.heap.size := by omega
 have op : w.heap.size ≠ W8.heap.size := by omega
 have nrc : W8.heap.size ≠ w.heap.size + 1 := by omega
 have orc : w.heap.size + 1 ≠ W8.heap.size := by omega
 have nrn : W8.heap.size ≠ w.heap.size + 1 + 1 := by omega
 have orn : w.heap.size + 1 + 1 ≠ W8.heap.size := by omega
 obtain ⟨⟨p0, p1, p2, p3, p4, p5, p6, p7⟩, pf0, pf1, pf2, pf3, pf4, pf5, pf6, pf7⟩ := zB Kp;have f_m := zA Km;rw [HV.out] at p0 p1 p2 p3 p4 p5 p6 p7 pf0 pf1 pf2 pf3 pf4 pf5 pf6 pf7 f_m;obtain ⟨W12, hW12, KN, hP⟩ := zQ Kp (.slice a8 ln8 cap8) cb.ep (cb.nest : Int) cb.err cb.pos;have hP12 := hP;obtain ⟨Krc, Krn, Km⟩ := vD hP Krc Krn Km (by omega);replace Rc := hP.row Rc (by omega);replace Rq4 := hP.row Rq4 (by omega);replace Rq8 := hP.row Rq8 (by omega);have hs13 := hP.size;have hB13 := hP.below _ _ (by omega) hB11;clear hP hB11;replace Kp := KN;clear KN;obtain ⟨W14, hW14, KN, hP⟩ := zZ (z := zN) Km ⟨dk, dp, dn, dt, dq, dl, dc⟩;have hP14 := hP;obtain ⟨Kp, Krc, Krn⟩ := vD hP Kp Krc Krn (by omega);replace Rc := hP.row Rc (by omega);replace Rq4 := hP.row Rq4 (by omega);replace Rq8 := hP.row Rq8 (by omega);have hs15 := hP.size;have hB15 := hP.below _ _ (by omega) hB13;clear hP hB13;dsimp only [zN] at hW14 KN;replace Km := KN;clear KN;go_upto_region 4 with fail;rw [<- HV.out, <- hW12, <- hW14];replace Tl := Tl.keeps (w' := W14) ⟨by omega, fun q hq hql => (hP14.other q (by omega)).trans ((hP12.other q (by omega)).trans (hA10.block q hql))⟩;replace Td := Td.keeps (w' := W14) ⟨by omega, fun q hq hql => (hP14.other q (by omega)).trans ((hP12.other q (by omega)).trans (hA10.block q hql))⟩;clear HV hW12 hW14 hP12 hP14 hA10 p0 p1 p2 p3 p4 p5 p6 p7 pf0 pf1 pf2 pf3 pf4 pf5 pf6 pf7 f_m;obtain ⟨ds, hdl, hR, hks⟩ := Tl.row;replace hdl : ds.length = ls.length := hdl;clear Tl;have hl : ds.length <= 5000 := by rw [hdl]; exact hlen
 have HR := Lib.hid hR;have HKS := Lib.hid hks;have HTD := Lib.hid Td;clear hR hks Td;have HS : Hid (∀ b, (fun q => w.heap.size + 1 + 1 + 1 <= q /\ q ≠ W8.heap.size) b -> b ≠ w.heap.size + 1 /\ b ≠ w.heap.size + 1 + 1) := fun b hb => ⟨by omega, by omega⟩
 have h1 : w.heap.size + 1 < W14.heap.size := by omega
 have h2 : w.heap.size + 1 + 1 < W14.heap.size := by omega
 have hne : w.heap.size + 1 ≠ w.heap.size + 1 + 1 := by omega
 have hne2 : w.heap.size + 1 + 1 ≠ w.heap.size + 1 := by omega
 have ltp : w.heap.size < W14.heap.size := by omega
 have ltrc : w.heap.size + 1 < W14.heap.size := by omega
 have ltrn : w.heap.size + 1 + 1 < W14.heap.size := by omega
 have ltm : W8.heap.size < W14.heap.size := by omega
 have N0 : Nr W14 (w.heap.size + 1) (w.heap.size + 1 + 1) (zK (.slice none 0 0) 0 0 0 0) zN W14 := Nr.refl Krc Krn;have KEEP : Hid (∀ cs z wx, Nr W14 (w.heap.size + 1) (w.heap.size + 1 + 1) cs z wx -> wx.cell? ⟨w.heap.size, 0, none⟩ = some ((.slice a8 ln8 cap8)) /\ wx.cell? ⟨w.heap.size, 1, none⟩ = some (.int .i64 0) /\ wx.cell? ⟨w.heap.size, 2, none⟩ = some (.int .i64 cb.ep) /\ wx.cell? ⟨w.heap.size, 3, none⟩ = some (.int .i64 0) /\ wx.cell? ⟨w.heap.size, 4, none⟩ = some (.string ⟨#[]⟩) /\ wx.cell? ⟨w.heap.size, 5, none⟩ = some (.int .i64 (cb.nest : Int)) /\ wx.cell? ⟨w.heap.size, 6, none⟩ = some (.int .i64 cb.err) /\ wx.cell? ⟨w.heap.size, 7, none⟩ = some (.int .i64 cb.pos) /\ wx.cell? ⟨W8.heap.size, 0, none⟩ = some (.int .i64 dk) /\ wx.cell? ⟨W8.heap.size, 1, none⟩ = some (.int .i64 dp) /\ wx.cell? ⟨W8.heap.size, 2, none⟩ = some (.int .i64 dn) /\ wx.cell? ⟨W8.heap.size, 3, none⟩ = some (.string ⟨dt.toArray⟩) /\ wx.cell? ⟨W8.heap.size, 4, none⟩ = some (.slice dq dl dc)) := fun cs z wx h => by
  obtain ⟨⟨a0, a1, a2, a3, a4, a5, a6, a7⟩, -⟩ := zB (h.blk Kp (by omega) (by omega));obtain ⟨⟨b0, b1, b2, b3, b4⟩, -⟩ := zA (h.blk Km (by omega) (by omega));exact ⟨a0, a1, a2, a3, a4, a5, a6, a7, b0, b1, b2, b3, b4⟩
 obtain ⟨⟨p0, p1, p2, p3, p4, p5, p6, p7⟩, pf0, pf1, pf2, pf3, pf4, pf5, pf6, pf7⟩ := zB Kp;have f_rc := xZ (zB Krc) (zA Krn) (zA Km);go_region_held3 (fun wx => wx.cell? ⟨w.heap.size, 0, none⟩ = some ((.slice a8 ln8 cap8)) /\ wx.cell? ⟨w.heap.size, 1, none⟩ = some (.int .i64 0) /\ wx.cell? ⟨w.heap.size, 2, none⟩ = some (.int .i64 cb.ep) /\ wx.cell? ⟨w.heap.size, 3, none⟩ = some (.int .i64 0) /\ wx.cell? ⟨w.heap.size, 4, none⟩ = some (.string ⟨#[]⟩) /\ wx.cell? ⟨w.heap.size, 5, none⟩ = some (.int .i64 (cb.nest : Int)) /\ wx.cell? ⟨w.heap.size, 6, none⟩ = some (.int .i64 cb.err) /\ wx.cell? ⟨w.heap.size, 7, none⟩ = some (.int .i64 cb.pos) /\ wx.cell? ⟨W8.heap.size, 0, none⟩ = some (.int .i64 dk) /\ wx.cell? ⟨W8.heap.size, 1, none⟩ = some (.int .i64 dp) /\ wx.cell? ⟨W8.heap.size, 2, none⟩ = some (.int .i64 dn) /\ wx.cell? ⟨W8.heap.size, 3, none⟩ = some (.string ⟨dt.toArray⟩) /\ wx.cell? ⟨W8.heap.size, 4, none⟩ = some (.slice dq dl dc))
  (first | (apply KEEP.out; repeat (with_reducible first | exact N4 | exact N3 | exact N0 | apply Nr.drew | apply Nr.alloc | apply Nr.put8 hne | apply Nr.put5 hne)))
  (first
  | (refine sJ rfl ?_; refine' aU (W := W14) (rc := (w.heap.size + 1)) (rn := (w.heap.size + 1 + 1)) (g := W14.heap.size) (cr := #[.int .i64 dk, .int .i64 dp, .int .i64 dn, .string ⟨dt.toArray⟩, .slice dq dl dc]) (ty := 25) _ _ rfl rfl rfl HR.out HS.out hl ?cg ?cn ?ck; (case cg => (repeat (with_reducible first | exact B3 | exact kZ rfl | apply mG | apply blk8 (Nat.ne_of_gt h1)))); (case cn => (repeat (with_reducible first | exact N4 | exact N3 | exact N0 | apply Nr.drew | apply Nr.alloc | apply Nr.put8 hne | apply Nr.put5 hne))); intro v3 w3 ho3 N3 B3; obtain ⟨⟨u0, u1, u2, u3, u4, u5, u6, u7⟩, uf0, uf1, uf2, uf3, uf4, uf5, uf6, uf7⟩ := zB N3.rcb; obtain ⟨⟨t0, t1, t2, t3, t4⟩, tf0, tf1, tf2, tf3, tf4⟩ := zA N3.rnb; have l1 : w.heap.size + 1 < w3.heap.size := Nat.lt_of_lt_of_le h1 N3.size; have l2 : w.heap.size + 1 + 1 < w3.heap.size := Nat.lt_of_lt_of_le h2 N3.size)
  | (refine sJ rfl ?_; refine' jU (W := W14) (rc := (w.heap.size + 1)) (rn := (w.heap.size + 1 + 1)) _ _ rfl rfl rfl HR.out HS.out hl ?qn ?qk; (case qn => (repeat (with_reducible first | exact N4 | exact N3 | exact N0 | apply Nr.drew | apply Nr.alloc | apply Nr.put8 hne | apply Nr.put5 hne))); intro v3 w3 ho3 N3 hg3; obtain ⟨⟨u0, u1, u2, u3, u4, u5, u6, u7⟩, uf0, uf1, uf2, uf3, uf4, uf5, uf6, uf7⟩ := zB N3.rcb; obtain ⟨⟨t0, t1, t2, t3, t4⟩, tf0, tf1, tf2, tf3, tf4⟩ := zA N3.rnb; have l1 : w.heap.size + 1 < w3.heap.size := Nat.lt_of_lt_of_le h1 N3.size; have l2 : w.heap.size + 1 + 1 < w3.heap.size := Nat.lt_of_lt_of_le h2 N3.size)
  | (refine sJ rfl ?_; refine' iO (W := W14) (rc := (w.heap.size + 1)) (rn := (w.heap.size + 1 + 1)) (d := ⟨dk, dp, dn, dt, dq, dl, dc⟩) (v3 := v3) (xs := ds.flatMap yJ) _ _ rfl rfl rfl hl h1 h2 ?yo ?yg ?yn ?yk; (case yo => (repeat (with_reducible first | exact ho3 | apply World.ownsRow.alloc | apply own8 h1))); (case yg => (repeat (with_reducible first | exact B3 | exact kZ rfl | apply mG | apply blk8 (Nat.ne_of_gt h1)))); (case yn => (repeat (with_reducible first | exact N4 | exact N3 | exact N0 | apply Nr.drew | apply Nr.alloc | apply Nr.put8 hne | apply Nr.put5 hne))); intro p4 cap4 w4 ho4 N4; obtain ⟨⟨x0, x1, x2, x3, x4, x5, x6, x7⟩, xf0, xf1, xf2, xf3, xf4, xf5, xf6, xf7⟩ := zB N4.rcb; obtain ⟨⟨y0, y1, y2, y3, y4⟩, yf0, yf1, yf2, yf3, yf4⟩ := zA N4.rnb; have l3 : w.heap.size + 1 < w4.heap.size := Nat.lt_of_lt_of_le h1 N4.size; have l4 : w.heap.size + 1 + 1 < w4.heap.size := Nat.lt_of_lt_of_le h2 N4.size)
  | (refine sJ rfl ?_; refine' iO (W := W14) (rc := (w.heap.size + 1)) (rn := (w.heap.size + 1 + 1)) (d := ⟨dk, dp, dn, dt, dq, dl, dc⟩) (v3 := v3) (xs := ds.flatMap yJ) _ _ rfl rfl rfl hl h1 h2 ?xo ?xg ?xn ?xk; (case xo => (repeat (with_reducible first | exact ho3 | apply World.ownsRow.alloc | apply own8 h1))); (case xg => (repeat (with_reducible first | exact B3 | exact kZ rfl | apply mG | apply blk8 (Nat.ne_of_gt h1)))); (case xn => (repeat (with_reducible first | exact N4 | exact N3 | exact N0 | apply Nr.drew | apply Nr.alloc | apply Nr.put8 hne | apply Nr.put5 hne))); intro p4 cap4 w4 ho4 N4; obtain ⟨⟨x0, x1, x2, x3, x4, x5, x6, x7⟩, xf0, xf1, xf2, xf3, xf4, xf5, xf6, xf7⟩ := zB N4.rcb; obtain ⟨⟨y0, y1, y2, y3, y4⟩, yf0, yf1, yf2, yf3, yf4⟩ := zA N4.rnb; have l3 : w.heap.size + 1 < w4.heap.size := Nat.lt_of_lt_of_le h1 N4.size; have l4 : w.heap.size + 1 + 1 < w4.heap.size := Nat.lt_of_lt_of_le h2 N4.size))
 all_goals (
  rw [hdl] at ho4
  have RQ := Rq8.below (N4.bel n W14 (by omega) (by omega) (Below.refl _ _))
  obtain ⟨V7, hV7, KC, hP7⟩ := zQ N4.rcb (.slice a8 ln8 cap8) cb.ep (cb.nest : Int) cb.err cb.pos
  obtain ⟨V8, hV8, KN, hP8⟩ := zZ (hP7.blk N4.rnb hne2) ⟨4, tp, 0, [], p4, ls.length + 1, cap4⟩
  dsimp only at hV8 KN
  have ho8 : V8.ownsRow W14.heap.size 25 5 (.slice p4 (ls.length + 1) cap4) (ls.length + 1) (ds.flatMap yJ ++ yJ ⟨dk, dp, dn, dt, dq, dl, dc⟩) := by rw [hV8, hV7]; exact own5 h2 (own8 h1 ho4 _ _ _ _ _ _ _ _) _ _ _ _ _
  have hK8 : uO (fun q => w.heap.size + 1 + 1 + 1 <= q /\ q ≠ W8.heap.size) W14 V8 := ⟨Nat.le_trans N4.size (Nat.le_trans hP7.size hP8.size), fun k hk hl => (hP8.other k (HS.out k hk).2).trans ((hP7.other k (HS.out k hk).1).trans (N4.other k hl (HS.out k hk).1 (HS.out k hk).2))⟩
  have TT := cS (B := w.heap.size) tp hdl ho8 hK8 (fun b hb => by omega) (by omega) HKS.out HTD.out
  rw [<- hV7, <- hV8]
  have KC := hP8.blk KC hne
  clear hV7 hV8
  go_wp2_with fail
  obtain ⟨⟨y0, y1, y2, y3, y4, y5, y6, y7⟩, -⟩ := zB KC
  obtain ⟨⟨z0, z1, z2, z3, z4⟩, -⟩ := zA KN
  refine bodyPost_ret (v := .tuple #[.agg (zK (.slice a8 ln8 cap8) cb.ep (cb.nest : Int) cb.err cb.pos), NC.val ⟨4, tp, 0, [], p4, ls.length + 1, cap4⟩]) (by simp [results, Tryz.results31, go_sem, y0, y1, y2, y3, y4, y5, y6, y7, z0, z1, z2, z3, z4, NC.val]) rfl ⟨_, ⟨4, tp, 0, [], p4, ls.length + 1, cap4⟩, rfl, ?_, ?_, hP8.below _ _ (by omega) (hP7.below _ _ (by omega) (N4.bel _ _ (by omega) (by omega) hB15))⟩
  ·
   rw [HQ.out]; exact zF.mk (hP8.row (hP7.row RQ (by omega)) (by omega))
  ·
   rw [HQ.out]; exact TT)
end Go.Proofs.YtdjomhbmhooceaaGreat.N7
