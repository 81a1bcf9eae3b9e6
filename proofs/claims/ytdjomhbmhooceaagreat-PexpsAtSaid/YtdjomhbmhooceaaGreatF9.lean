import Derived.Test.YtdjomhbmhooceaaGreatF8
set_option maxHeartbeats 4000000
set_option maxRecDepth 100000
set_option linter.unusedVariables false
set_option linter.unusedSimpArgs false
namespace Go.Proofs.YtdjomhbmhooceaaGreat.N7
open Go.RowKit N5 N6
structure wE (b : Nat) (W W7 : World) : Prop where
 size : W.heap.size <= W7.heap.size
 other : ∀ k, k ≠ b -> W7.heap[k]? = W.heap[k]?
 below : ∀ n w, n <= b -> Below n w W -> Below n w W7
 grown : W.grownBy W7 (some b)
section
variable {b : Nat} {W W7 : World}
theorem wE.blk (h : wE b W W7) {k : Nat} {cs : Array Value} {ty : TypeId} (hk : zW W k cs ty) (hne : k ≠ b) : zW W7 k cs ty := (h.other k hne).trans hk
theorem oJ {w w' : World} {b : Nat} {b0 : Nat} {c0 : Array Value} {t0 : TypeId} {b1 : Nat} {c1 : Array Value} {t1 : TypeId} (hP : wE b w w') (h0 : zW w b0 c0 t0) (h1 : zW w b1 c1 t1) (hn : b0 ≠ b /\ b1 ≠ b) : zW w' b0 c0 t0 /\ zW w' b1 c1 t1 := ⟨hP.blk h0 hn.1, hP.blk h1 hn.2⟩
theorem vD {w w' : World} {b : Nat} {b0 : Nat} {c0 : Array Value} {t0 : TypeId} {b1 : Nat} {c1 : Array Value} {t1 : TypeId} {b2 : Nat} {c2 : Array Value} {t2 : TypeId} (hP : wE b w w') (h0 : zW w b0 c0 t0) (h1 : zW w b1 c1 t1) (h2 : zW w b2 c2 t2) (hn : b0 ≠ b /\ b1 ≠ b /\ b2 ≠ b) : zW w' b0 c0 t0 /\ zW w' b1 c1 t1 /\ zW w' b2 c2 t2 := ⟨hP.blk h0 hn.1, hP.blk h1 hn.2.1, hP.blk h2 hn.2.2⟩
theorem lY {w w' : World} {b : Nat} {b0 : Nat} {c0 : Array Value} {t0 : TypeId} {b1 : Nat} {c1 : Array Value} {t1 : TypeId} {b2 : Nat} {c2 : Array Value} {t2 : TypeId} {b3 : Nat} {c3 : Array Value} {t3 : TypeId} (hP : wE b w w') (h0 : zW w b0 c0 t0) (h1 : zW w b1 c1 t1) (h2 : zW w b2 c2 t2) (h3 : zW w b3 c3 t3) (hn : b0 ≠ b /\ b1 ≠ b /\ b2 ≠ b /\ b3 ≠ b) : zW w' b0 c0 t0 /\ zW w' b1 c1 t1 /\ zW w' b2 c2 t2 /\ zW w' b3 c3 t3 := ⟨hP.blk h0 hn.1, hP.blk h1 hn.2.1, hP.blk h2 hn.2.2.1, hP.blk h3 hn.2.2.2⟩
theorem gq5 {w w' : World} {b : Nat} {b0 : Nat} {c0 : Array Value} {t0 : TypeId} {b1 : Nat} {c1 : Array Value} {t1 : TypeId} {b2 : Nat} {c2 : Array Value} {t2 : TypeId} {b3 : Nat} {c3 : Array Value} {t3 : TypeId} {b4 : Nat} {c4 : Array Value} {t4 : TypeId} (hP : wE b w w') (h0 : zW w b0 c0 t0) (h1 : zW w b1 c1 t1) (h2 : zW w b2 c2 t2) (h3 : zW w b3 c3 t3) (h4 : zW w b4 c4 t4) (hn : b0 ≠ b /\ b1 ≠ b /\ b2 ≠ b /\ b3 ≠ b /\ b4 ≠ b) : zW w' b0 c0 t0 /\ zW w' b1 c1 t1 /\ zW w' b2 c2 t2 /\ zW w' b3 c3 t3 /\ zW w' b4 c4 t4 := ⟨hP.blk h0 hn.1, hP.blk h1 hn.2.1, hP.blk h2 hn.2.2.1, hP.blk h3 hn.2.2.2.1, hP.blk h4 hn.2.2.2.2⟩
theorem gq6 {w w' : World} {b : Nat} {b0 : Nat} {c0 : Array Value} {t0 : TypeId} {b1 : Nat} {c1 : Array Value} {t1 : TypeId} {b2 : Nat} {c2 : Array Value} {t2 : TypeId} {b3 : Nat} {c3 : Array Value} {t3 : TypeId} {b4 : Nat} {c4 : Array Value} {t4 : TypeId} {b5 : Nat} {c5 : Array Value} {t5 : TypeId} (hP : wE b w w') (h0 : zW w b0 c0 t0) (h1 : zW w b1 c1 t1) (h2 : zW w b2 c2 t2) (h3 : zW w b3 c3 t3) (h4 : zW w b4 c4 t4) (h5 : zW w b5 c5 t5) (hn : b0 ≠ b /\ b1 ≠ b /\ b2 ≠ b /\ b3 ≠ b /\ b4 ≠ b /\ b5 ≠ b) : zW w' b0 c0 t0 /\ zW w' b1 c1 t1 /\ zW w' b2 c2 t2 /\ zW w' b3 c3 t3 /\ zW w' b4 c4 t4 /\ zW w' b5 c5 t5 := ⟨hP.blk h0 hn.1, hP.blk h1 hn.2.1, hP.blk h2 hn.2.2.1, hP.blk h3 hn.2.2.2.1, hP.blk h4 hn.2.2.2.2.1, hP.blk h5 hn.2.2.2.2.2⟩
theorem wE.node (h : wE b W W7) {S : Nat -> Prop} {x : NC} {t : Nd} (hx : zG S W x t) (hS : ¬ S b) : zG S W7 x t := hx.keeps ⟨h.size, fun k hk _ => h.other k fun e => hS (e ▸ hk)⟩
theorem wE.row (h : wE b W W7) {n : Nat} {v : Value} {xs : List Tk} (hr : xW n W v xs) (hb : n <= b) : xW n W7 v xs := hr.below (h.below n W hb (Below.refl _ _))
theorem wE.one (W : World) (b i : Nat) (x : Value) : wE b W (W.setCell ⟨b, i, none⟩ x) :=
 ⟨by simp, fun k hk => Below.heap_setCell _ _ _ _ hk, fun _ _ hn hB => hB.setCell hn _, uY W b i x⟩
theorem wE.trans {W8 : World} (h : wE b W W7) (g : wE b W7 W8) : wE b W W8 :=
 ⟨Nat.le_trans h.size g.size, fun k hk => (g.other k hk).trans (h.other k hk), fun n w hn hB => g.below n w hn (h.below n w hn hB), xF h.grown g.grown⟩
end
theorem set8 {b : Nat} {W : World} {ty : TypeId} {y0 y1 y2 y3 y4 y5 y6 y7 x0 x1 x2 x3 x4 x5 x6 x7 : Value} (h : zW W b #[y0, y1, y2, y3, y4, y5, y6, y7] ty) :
  zW (((((((((W.setCell ⟨b, 0, none⟩ x0).setCell ⟨b, 1, none⟩ x1).setCell ⟨b, 2, none⟩ x2).setCell ⟨b, 3, none⟩ x3).setCell ⟨b, 4, none⟩ x4).setCell ⟨b, 5, none⟩ x5).setCell ⟨b, 6, none⟩ x6).setCell ⟨b, 7, none⟩ x7)) b #[x0, x1, x2, x3, x4, x5, x6, x7] ty := by
 have h : zW (W.setCell ⟨b, 0, none⟩ x0) b #[x0, y1, y2, y3, y4, y5, y6, y7] ty := h.set 0 x0
 have h : zW ((W.setCell ⟨b, 0, none⟩ x0).setCell ⟨b, 1, none⟩ x1) b #[x0, x1, y2, y3, y4, y5, y6, y7] ty := h.set 1 x1
 have h : zW (((W.setCell ⟨b, 0, none⟩ x0).setCell ⟨b, 1, none⟩ x1).setCell ⟨b, 2, none⟩ x2) b #[x0, x1, x2, y3, y4, y5, y6, y7] ty := h.set 2 x2
 have h : zW ((((W.setCell ⟨b, 0, none⟩ x0).setCell ⟨b, 1, none⟩ x1).setCell ⟨b, 2, none⟩ x2).setCell ⟨b, 3, none⟩ x3) b #[x0, x1, x2, x3, y4, y5, y6, y7] ty := h.set 3 x3
 have h : zW (((((W.setCell ⟨b, 0, none⟩ x0).setCell ⟨b, 1, none⟩ x1).setCell ⟨b, 2, none⟩ x2).setCell ⟨b, 3, none⟩ x3).setCell ⟨b, 4, none⟩ x4) b #[x0, x1, x2, x3, x4, y5, y6, y7] ty := h.set 4 x4
 have h : zW ((((((W.setCell ⟨b, 0, none⟩ x0).setCell ⟨b, 1, none⟩ x1).setCell ⟨b, 2, none⟩ x2).setCell ⟨b, 3, none⟩ x3).setCell ⟨b, 4, none⟩ x4).setCell ⟨b, 5, none⟩ x5) b #[x0, x1, x2, x3, x4, x5, y6, y7] ty := h.set 5 x5
 have h : zW (((((((W.setCell ⟨b, 0, none⟩ x0).setCell ⟨b, 1, none⟩ x1).setCell ⟨b, 2, none⟩ x2).setCell ⟨b, 3, none⟩ x3).setCell ⟨b, 4, none⟩ x4).setCell ⟨b, 5, none⟩ x5).setCell ⟨b, 6, none⟩ x6) b #[x0, x1, x2, x3, x4, x5, x6, y7] ty := h.set 6 x6
 have h : zW ((((((((W.setCell ⟨b, 0, none⟩ x0).setCell ⟨b, 1, none⟩ x1).setCell ⟨b, 2, none⟩ x2).setCell ⟨b, 3, none⟩ x3).setCell ⟨b, 4, none⟩ x4).setCell ⟨b, 5, none⟩ x5).setCell ⟨b, 6, none⟩ x6).setCell ⟨b, 7, none⟩ x7) b #[x0, x1, x2, x3, x4, x5, x6, x7] ty := h.set 7 x7
 exact h
theorem zQ {b : Nat} {W : World} {ty : TypeId} {uz : Value} {e0 e1 e2 e3 : Int} (hz : zW W b (zK uz e0 e1 e2 e3) ty) (u : Value) (ep nest err pos : Int) :
  ∃ W7, W7 = ((((((((W.setCell ⟨b, 0, none⟩ u).setCell ⟨b, 1, none⟩ (.int .i64 0)).setCell ⟨b, 2, none⟩ (.int .i64 ep)).setCell ⟨b, 3, none⟩ (.int .i64 0)).setCell ⟨b, 4, none⟩ (.string ⟨#[]⟩)).setCell ⟨b, 5, none⟩ (.int .i64 nest)).setCell ⟨b, 6, none⟩ (.int .i64 err)).setCell ⟨b, 7, none⟩ (.int .i64 pos)) /\
   zW W7 b (zK u ep nest err pos) ty /\ wE b W W7 := by
 refine ⟨_, rfl, ?_, ((((((((wE.one _ _ _ _).trans (wE.one _ _ _ _)).trans (wE.one _ _ _ _)).trans (wE.one _ _ _ _)).trans (wE.one _ _ _ _)).trans (wE.one _ _ _ _)).trans (wE.one _ _ _ _)).trans (wE.one _ _ _ _))⟩
 exact set8 hz
theorem zZ {b : Nat} {W : World} {ty : TypeId} {z : NC} (hz : zW W b #[.int .i64 z.kind, .int .i64 z.pos, .int .i64 z.num, .string ⟨z.text.toArray⟩, .slice z.kp z.kl z.kc] ty) (d : NC) :
  ∃ W7, W7 = (((((W.setCell ⟨b, 0, none⟩ (.int .i64 d.kind)).setCell ⟨b, 1, none⟩ (.int .i64 d.pos)).setCell ⟨b, 2, none⟩ (.int .i64 d.num)).setCell ⟨b, 3, none⟩ (.string ⟨d.text.toArray⟩)).setCell ⟨b, 4, none⟩ (.slice d.kp d.kl d.kc)) /\
   zW W7 b #[.int .i64 d.kind, .int .i64 d.pos, .int .i64 d.num, .string ⟨d.text.toArray⟩, .slice d.kp d.kl d.kc] ty /\ wE b W W7 := by
 refine ⟨_, rfl, ?_, ((((wE.one _ _ _ _).trans (wE.one _ _ _ _)).trans (wE.one _ _ _ _)).trans (wE.one _ _ _ _)).trans (wE.one _ _ _ _)⟩
 exact ((((hz.set 0 _).set 1 _).set 2 _).set 3 _).set 4 _
theorem zF.mk {n : Nat} {W : World} {a : Option Addr} {ln cap : Nat} {c : Cu} (h : xW n W (.slice a ln cap) (c.ws.drop c.at')) : zF n W (.agg (zK (.slice a ln cap) c.ep (c.nest : Int) c.err c.pos)) c := ⟨_, rfl, h⟩
def yE (n : Nat) (o : Cu × Nd) (w : World) (e : Ending) (w' : World) : Prop :=
 ∃ (x : Value) (d : NC), e = .returned (.tuple #[x, d.val]) /\ zF n w' x o.1 /\ zG (fun b => w.heap.size <= b) w' d o.2 /\ Below w.heap.size w w'
theorem xU {n : Nat} {w : World} {x : Value} {c : Cu} (h : zF n w x c) (hn : n <= w.heap.size) : Calls Tryz.prog 19 #[x] w fun e w' => e = .returned (.agg #[.int .i64 c.peek.kind, .int .i64 c.peek.pos, .int .i64 c.peek.num, .string ⟨c.peek.text.toArray⟩]) /\ Below w.heap.size w w' := tW h hn
theorem tQ {n : Nat} {w : World} {x : Value} {c : Cu} (h : zF n w x c) (hn : n <= w.heap.size) : Calls Tryz.prog 61 #[x] w (nZ n c.adv (.agg #[.int .i64 c.peek.kind, .int .i64 c.peek.pos, .int .i64 c.peek.num, .string ⟨c.peek.text.toArray⟩]) w) := qL h hn
theorem uK {n : Nat} {w : World} {x : Value} {c : Cu} (h : zF n w x c) (hn : n <= w.heap.size) (l : List UInt8) : Calls Tryz.prog 62 #[x, .string ⟨l.toArray⟩] w (N5.RunsTo (c.is l) w) := by
 have := lU h hn ⟨l.toArray⟩;simpa using this
theorem xD {n : Nat} {w : World} {x : Value} {c : Cu} (h : zF n w x c) (hn : n <= w.heap.size) (l : List UInt8) : Calls Tryz.prog 30 #[x, .string ⟨l.toArray⟩] w (nZ n (c.take l) (.bool (c.is l)) w) := by
 have := oQ h hn ⟨l.toArray⟩;simpa using this
theorem yK {n : Nat} {w : World} {x : Value} {c : Cu} (h : zF n w x c) (hn : n <= w.heap.size) (l : List UInt8) : Calls Tryz.prog 33 #[x, .string ⟨l.toArray⟩] w (nZ n (c.want l) (.bool (c.is l)) w) := by
 have := iQ h hn ⟨l.toArray⟩;simpa using this
theorem uC {c : Cu} (h : yZ c) : yZ c.enter := by
 by_cases he : c.enters = true
 ·
  rw [yR he]; exact ⟨h.le, h.few, h.kinds, by have := (yF.1 he).2; show c.nest + 1 <= 200; omega⟩
 ·
  exact (xC he).2.ok h
theorem kN {c : Cu} {k : Nat} (he : c.err = 0) (hi : c.is [40] = true) (hk : 200 <= c.nest + (k + 1) \/ c.err ≠ 0) : 200 <= (c.enter.want [40]).nest + k \/ (c.enter.want [40]).err ≠ 0 := by
 have hk : 200 <= c.nest + (k + 1) := hk.resolve_right fun q => q he
 by_cases h4 : c.enters = true
 ·
  have h5 : c.enter.is [40] = true := by rw [yR h4]; exact hi
  rw [nD h4 h5];exact .inl (by omega)
 ·
  have h5 := (xC h4).1;rw [(zL c.enter [40]).stuck h5];exact .inr h5
attribute [local go_sem] xB xA
theorem yS {n : Nat} {w : World} {x : Value} {c : Cu} (h : zF n w x c) (hn : n <= w.heap.size) : Calls Tryz.prog 115 #[x] w (N5.RunsTo (wI c) w) := by
 obtain ⟨a, ln, cap, rfl, hr, -⟩ := h.shape;clear h;have hB1 : Below w.heap.size w (w.alloc (tG (.slice a ln cap) c)) := (Below.refl _ w).alloc (Nat.le_refl _) _;have HP := xU (n := n) (w := w.alloc (tG (.slice a ln cap) c)) (c := c) ⟨_, rfl, hr.out.below (hB1.mono hn)⟩ (by simp; omega);obtain ⟨⟨tk, tp, tn, tt⟩, hT⟩ : ∃ t, t = c.peek := ⟨_, rfl⟩;rw [<- hT] at HP;have HS : Hid (wI c = (decide (c.err = 0) && (decide (tk = 1) || (decide (tk = 2) || c.is [40])))) := by show _ = _; unfold wI zI; rw [<- hT]
 clear hT;go_enter Tryz.func115, Tryz.ntmps115;go_wp2_with fail;refine HP.mono ?_; rintro e w2 ⟨rfl, hB2⟩;have hB := zS hB1 hB2;have K : zW w2 w.heap.size (zK (.slice a ln cap) c.ep (c.nest : Int) c.err c.pos) 40 := (zW.new w _ _).later hB2;have HI := uK (n := n) (w := w2) (c := c) ⟨_, rfl, hr.out.below (hB.mono hn)⟩ (Nat.le_trans hn hB.size) [40];obtain ⟨⟨x0, x1, x2, x3, x4, x5, x6, x7⟩, -⟩ := zB K;clear HP hr K;by_cases he : c.err = 0
 ·
  have hb : (c.err == 0) = true := by rw [he]; rfl
  rw [he] at HS;clear he;by_cases h1 : tk = 1
  ·
   subst h1;clear HI;go_wp2_with fail;go_ret;exact ⟨by rw [HS.out]; rfl, hB⟩
  ·
   by_cases h2 : tk = 2
   ·
    subst h2;clear HI;go_wp2_with fail;go_ret;exact ⟨by rw [HS.out]; rfl, hB⟩
   ·
    have HS2 : Hid (wI c = c.is [40]) := by show _ = _; rw [HS.out]; simp [h1, h2]
    clear HS;go_wp2_with fail;refine HI.mono ?_; rintro e w3 ⟨rfl, hB3⟩;go_wp2_with fail;go_ret;exact ⟨by rw [HS2.out]; simp [h1, h2], hB.trans (hB3.mono hB.size)⟩
 ·
  have hb : (c.err == 0) = false := by rw [beq_eq_false_iff_ne]; exact he
  have HS2 : Hid (wI c = false) := by show _ = _; rw [HS.out]; simp [he]
  clear HI HS;go_wp2_with fail;go_ret;exact ⟨by rw [HS2.out]; rfl, hB⟩
end Go.Proofs.YtdjomhbmhooceaaGreat.N7
