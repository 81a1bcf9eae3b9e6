import Derived.Test.YtdjomhbmhooceaaGreatE8
set_option maxHeartbeats 4000000
set_option maxRecDepth 100000
set_option linter.unusedVariables false
set_option linter.unusedSimpArgs false
namespace Go.Proofs.YtdjomhbmhooceaaGreat.N7
open Go.RowKit N5 N6
structure wN (b : Nat) (W W7 : World) : Prop where
 size : W.heap.size <= W7.heap.size
 other : ∀ k, k ≠ b -> W7.heap[k]? = W.heap[k]?
 below : ∀ n w, n <= b -> Below n w W -> Below n w W7
 grown : W.grownBy W7 (some b)
section
variable {b : Nat} {W W7 : World}
theorem wN.blk (h : wN b W W7) {k : Nat} {cs : Array Value} {ty : TypeId} (hk : zU W k cs ty) (hne : k ≠ b) : zU W7 k cs ty := (h.other k hne).trans hk
theorem dV {w w' : World} {b : Nat} {b0 : Nat} {c0 : Array Value} {t0 : TypeId} {b1 : Nat} {c1 : Array Value} {t1 : TypeId} (hP : wN b w w') (h0 : zU w b0 c0 t0) (h1 : zU w b1 c1 t1) (hn : b0 ≠ b /\ b1 ≠ b) : zU w' b0 c0 t0 /\ zU w' b1 c1 t1 := ⟨hP.blk h0 hn.1, hP.blk h1 hn.2⟩
theorem vP {w w' : World} {b : Nat} {b0 : Nat} {c0 : Array Value} {t0 : TypeId} {b1 : Nat} {c1 : Array Value} {t1 : TypeId} {b2 : Nat} {c2 : Array Value} {t2 : TypeId} (hP : wN b w w') (h0 : zU w b0 c0 t0) (h1 : zU w b1 c1 t1) (h2 : zU w b2 c2 t2) (hn : b0 ≠ b /\ b1 ≠ b /\ b2 ≠ b) : zU w' b0 c0 t0 /\ zU w' b1 c1 t1 /\ zU w' b2 c2 t2 := ⟨hP.blk h0 hn.1, hP.blk h1 hn.2.1, hP.blk h2 hn.2.2⟩
theorem jO {w w' : World} {b : Nat} {b0 : Nat} {c0 : Array Value} {t0 : TypeId} {b1 : Nat} {c1 : Array Value} {t1 : TypeId} {b2 : Nat} {c2 : Array Value} {t2 : TypeId} {b3 : Nat} {c3 : Array Value} {t3 : TypeId} (hP : wN b w w') (h0 : zU w b0 c0 t0) (h1 : zU w b1 c1 t1) (h2 : zU w b2 c2 t2) (h3 : zU w b3 c3 t3) (hn : b0 ≠ b /\ b1 ≠ b /\ b2 ≠ b /\ b3 ≠ b) : zU w' b0 c0 t0 /\ zU w' b1 c1 t1 /\ zU w' b2 c2 t2 /\ zU w' b3 c3 t3 := ⟨hP.blk h0 hn.1, hP.blk h1 hn.2.1, hP.blk h2 hn.2.2.1, hP.blk h3 hn.2.2.2⟩
theorem gq5 {w w' : World} {b : Nat} {b0 : Nat} {c0 : Array Value} {t0 : TypeId} {b1 : Nat} {c1 : Array Value} {t1 : TypeId} {b2 : Nat} {c2 : Array Value} {t2 : TypeId} {b3 : Nat} {c3 : Array Value} {t3 : TypeId} {b4 : Nat} {c4 : Array Value} {t4 : TypeId} (hP : wN b w w') (h0 : zU w b0 c0 t0) (h1 : zU w b1 c1 t1) (h2 : zU w b2 c2 t2) (h3 : zU w b3 c3 t3) (h4 : zU w b4 c4 t4) (hn : b0 ≠ b /\ b1 ≠ b /\ b2 ≠ b /\ b3 ≠ b /\ b4 ≠ b) : zU w' b0 c0 t0 /\ zU w' b1 c1 t1 /\ zU w' b2 c2 t2 /\ zU w' b3 c3 t3 /\ zU w' b4 c4 t4 := ⟨hP.blk h0 hn.1, hP.blk h1 hn.2.1, hP.blk h2 hn.2.2.1, hP.blk h3 hn.2.2.2.1, hP.blk h4 hn.2.2.2.2⟩
theorem gq6 {w w' : World} {b : Nat} {b0 : Nat} {c0 : Array Value} {t0 : TypeId} {b1 : Nat} {c1 : Array Value} {t1 : TypeId} {b2 : Nat} {c2 : Array Value} {t2 : TypeId} {b3 : Nat} {c3 : Array Value} {t3 : TypeId} {b4 : Nat} {c4 : Array Value} {t4 : TypeId} {b5 : Nat} {c5 : Array Value} {t5 : TypeId} (hP : wN b w w') (h0 : zU w b0 c0 t0) (h1 : zU w b1 c1 t1) (h2 : zU w b2 c2 t2) (h3 : zU w b3 c3 t3) (h4 : zU w b4 c4 t4) (h5 : zU w b5 c5 t5) (hn : b0 ≠ b /\ b1 ≠ b /\ b2 ≠ b /\ b3 ≠ b /\ b4 ≠ b /\ b5 ≠ b) : zU w' b0 c0 t0 /\ zU w' b1 c1 t1 /\ zU w' b2 c2 t2 /\ zU w' b3 c3 t3 /\ zU w' b4 c4 t4 /\ zU w' b5 c5 t5 := ⟨hP.blk h0 hn.1, hP.blk h1 hn.2.1, hP.blk h2 hn.2.2.1, hP.blk h3 hn.2.2.2.1, hP.blk h4 hn.2.2.2.2.1, hP.blk h5 hn.2.2.2.2.2⟩
theorem wN.node (h : wN b W W7) {S : Nat -> Prop} {x : NC} {t : Nd} (hx : zG S W x t) (hS : ¬ S b) : zG S W7 x t := hx.keeps ⟨h.size, fun k hk _ => h.other k fun e => hS (e ▸ hk)⟩
theorem wN.row (h : wN b W W7) {n : Nat} {v : Value} {xs : List Tk} (hr : wA n W v xs) (hb : n <= b) : wA n W7 v xs := hr.below (h.below n W hb (Below.refl _ _))
theorem wN.one (W : World) (b i : Nat) (x : Value) : wN b W (W.setCell ⟨b, i, none⟩ x) :=
 ⟨by simp, fun k hk => Below.heap_setCell _ _ _ _ hk, fun _ _ hn hB => hB.setCell hn _, tL W b i x⟩
theorem wN.trans {W8 : World} (h : wN b W W7) (g : wN b W7 W8) : wN b W W8 :=
 ⟨Nat.le_trans h.size g.size, fun k hk => (g.other k hk).trans (h.other k hk), fun n w hn hB => g.below n w hn (h.below n w hn hB), xO h.grown g.grown⟩
end
theorem set8 {b : Nat} {W : World} {ty : TypeId} {y0 y1 y2 y3 y4 y5 y6 y7 x0 x1 x2 x3 x4 x5 x6 x7 : Value} (h : zU W b #[y0, y1, y2, y3, y4, y5, y6, y7] ty) :
  zU (((((((((W.setCell ⟨b, 0, none⟩ x0).setCell ⟨b, 1, none⟩ x1).setCell ⟨b, 2, none⟩ x2).setCell ⟨b, 3, none⟩ x3).setCell ⟨b, 4, none⟩ x4).setCell ⟨b, 5, none⟩ x5).setCell ⟨b, 6, none⟩ x6).setCell ⟨b, 7, none⟩ x7)) b #[x0, x1, x2, x3, x4, x5, x6, x7] ty := by
 have h : zU (W.setCell ⟨b, 0, none⟩ x0) b #[x0, y1, y2, y3, y4, y5, y6, y7] ty := h.set 0 x0
 have h : zU ((W.setCell ⟨b, 0, none⟩ x0).setCell ⟨b, 1, none⟩ x1) b #[x0, x1, y2, y3, y4, y5, y6, y7] ty := h.set 1 x1
 have h : zU (((W.setCell ⟨b, 0, none⟩ x0).setCell ⟨b, 1, none⟩ x1).setCell ⟨b, 2, none⟩ x2) b #[x0, x1, x2, y3, y4, y5, y6, y7] ty := h.set 2 x2
 have h : zU ((((W.setCell ⟨b, 0, none⟩ x0).setCell ⟨b, 1, none⟩ x1).setCell ⟨b, 2, none⟩ x2).setCell ⟨b, 3, none⟩ x3) b #[x0, x1, x2, x3, y4, y5, y6, y7] ty := h.set 3 x3
 have h : zU (((((W.setCell ⟨b, 0, none⟩ x0).setCell ⟨b, 1, none⟩ x1).setCell ⟨b, 2, none⟩ x2).setCell ⟨b, 3, none⟩ x3).setCell ⟨b, 4, none⟩ x4) b #[x0, x1, x2, x3, x4, y5, y6, y7] ty := h.set 4 x4
 have h : zU ((((((W.setCell ⟨b, 0, none⟩ x0).setCell ⟨b, 1, none⟩ x1).setCell ⟨b, 2, none⟩ x2).setCell ⟨b, 3, none⟩ x3).setCell ⟨b, 4, none⟩ x4).setCell ⟨b, 5, none⟩ x5) b #[x0, x1, x2, x3, x4, x5, y6, y7] ty := h.set 5 x5
 have h : zU (((((((W.setCell ⟨b, 0, none⟩ x0).setCell ⟨b, 1, none⟩ x1).setCell ⟨b, 2, none⟩ x2).setCell ⟨b, 3, none⟩ x3).setCell ⟨b, 4, none⟩ x4).setCell ⟨b, 5, none⟩ x5).setCell ⟨b, 6, none⟩ x6) b #[x0, x1, x2, x3, x4, x5, x6, y7] ty := h.set 6 x6
 have h : zU ((((((((W.setCell ⟨b, 0, none⟩ x0).setCell ⟨b, 1, none⟩ x1).setCell ⟨b, 2, none⟩ x2).setCell ⟨b, 3, none⟩ x3).setCell ⟨b, 4, none⟩ x4).setCell ⟨b, 5, none⟩ x5).setCell ⟨b, 6, none⟩ x6).setCell ⟨b, 7, none⟩ x7) b #[x0, x1, x2, x3, x4, x5, x6, x7] ty := h.set 7 x7
 exact h
theorem zP {b : Nat} {W : World} {ty : TypeId} {uz : Value} {e0 e1 e2 e3 : Int} (hz : zU W b (zL uz e0 e1 e2 e3) ty) (u : Value) (ep nest err pos : Int) :
  ∃ W7, W7 = ((((((((W.setCell ⟨b, 0, none⟩ u).setCell ⟨b, 1, none⟩ (.int .i64 0)).setCell ⟨b, 2, none⟩ (.int .i64 ep)).setCell ⟨b, 3, none⟩ (.int .i64 0)).setCell ⟨b, 4, none⟩ (.string ⟨#[]⟩)).setCell ⟨b, 5, none⟩ (.int .i64 nest)).setCell ⟨b, 6, none⟩ (.int .i64 err)).setCell ⟨b, 7, none⟩ (.int .i64 pos)) /\
   zU W7 b (zL u ep nest err pos) ty /\ wN b W W7 := by
 refine ⟨_, rfl, ?_, ((((((((wN.one _ _ _ _).trans (wN.one _ _ _ _)).trans (wN.one _ _ _ _)).trans (wN.one _ _ _ _)).trans (wN.one _ _ _ _)).trans (wN.one _ _ _ _)).trans (wN.one _ _ _ _)).trans (wN.one _ _ _ _))⟩
 exact set8 hz
theorem yE {b : Nat} {W : World} {ty : TypeId} {z : NC} (hz : zU W b #[.int .i64 z.kind, .int .i64 z.pos, .int .i64 z.num, .string ⟨z.text.toArray⟩, .slice z.kp z.kl z.kc] ty) (d : NC) :
  ∃ W7, W7 = (((((W.setCell ⟨b, 0, none⟩ (.int .i64 d.kind)).setCell ⟨b, 1, none⟩ (.int .i64 d.pos)).setCell ⟨b, 2, none⟩ (.int .i64 d.num)).setCell ⟨b, 3, none⟩ (.string ⟨d.text.toArray⟩)).setCell ⟨b, 4, none⟩ (.slice d.kp d.kl d.kc)) /\
   zU W7 b #[.int .i64 d.kind, .int .i64 d.pos, .int .i64 d.num, .string ⟨d.text.toArray⟩, .slice d.kp d.kl d.kc] ty /\ wN b W W7 := by
 refine ⟨_, rfl, ?_, ((((wN.one _ _ _ _).trans (wN.one _ _ _ _)).trans (wN.one _ _ _ _)).trans (wN.one _ _ _ _)).trans (wN.one _ _ _ _)⟩
 exact ((((hz.set 0 _).set 1 _).set 2 _).set 3 _).set 4 _
theorem zF.mk {n : Nat} {W : World} {a : Option Addr} {ln cap : Nat} {c : Cu} (h : wA n W (.slice a ln cap) (c.ws.drop c.at')) : zF n W (.agg (zL (.slice a ln cap) c.ep (c.nest : Int) c.err c.pos)) c := ⟨_, rfl, h⟩
def yD (n : Nat) (o : Cu × Nd) (w : World) (e : Ending) (w' : World) : Prop :=
 ∃ (x : Value) (d : NC), e = .returned (.tuple #[x, d.val]) /\ zF n w' x o.1 /\ zG (fun b => w.heap.size <= b) w' d o.2 /\ Below w.heap.size w w'
theorem vD {n : Nat} {w : World} {x : Value} {c : Cu} (h : zF n w x c) (hn : n <= w.heap.size) : Calls Tryz.prog 19 #[x] w fun e w' => e = .returned (.agg #[.int .i64 c.peek.kind, .int .i64 c.peek.pos, .int .i64 c.peek.num, .string ⟨c.peek.text.toArray⟩]) /\ Below w.heap.size w w' := sL h hn
theorem sF {n : Nat} {w : World} {x : Value} {c : Cu} (h : zF n w x c) (hn : n <= w.heap.size) : Calls Tryz.prog 61 #[x] w (lX n c.adv (.agg #[.int .i64 c.peek.kind, .int .i64 c.peek.pos, .int .i64 c.peek.num, .string ⟨c.peek.text.toArray⟩]) w) := pX h hn
theorem uW {n : Nat} {w : World} {x : Value} {c : Cu} (h : zF n w x c) (hn : n <= w.heap.size) (l : List UInt8) : Calls Tryz.prog 62 #[x, .string ⟨l.toArray⟩] w (N5.RunsTo (c.is l) w) := by
 have := jQ h hn ⟨l.toArray⟩;simpa using this
theorem xJ {n : Nat} {w : World} {x : Value} {c : Cu} (h : zF n w x c) (hn : n <= w.heap.size) (l : List UInt8) : Calls Tryz.prog 30 #[x, .string ⟨l.toArray⟩] w (lX n (c.take l) (.bool (c.is l)) w) := by
 have := mJ h hn ⟨l.toArray⟩;simpa using this
theorem yO {n : Nat} {w : World} {x : Value} {c : Cu} (h : zF n w x c) (hn : n <= w.heap.size) (l : List UInt8) : Calls Tryz.prog 33 #[x, .string ⟨l.toArray⟩] w (lX n (c.want l) (.bool (c.is l)) w) := by
 have := eV h hn ⟨l.toArray⟩;simpa using this
theorem uR {c : Cu} (h : xA c) : xA c.enter := by
 by_cases he : c.enters = true
 ·
  rw [yY he]; exact ⟨h.le, h.few, h.kinds, by have := (yF.1 he).2; show c.nest + 1 <= 200; omega⟩
 ·
  exact (xK he).2.ok h
theorem iV {c : Cu} {k : Nat} (he : c.err = 0) (hi : c.is [40] = true) (hk : 200 <= c.nest + (k + 1) \/ c.err ≠ 0) : 200 <= (c.enter.want [40]).nest + k \/ (c.enter.want [40]).err ≠ 0 := by
 have hk : 200 <= c.nest + (k + 1) := hk.resolve_right fun q => q he
 by_cases h4 : c.enters = true
 ·
  have h5 : c.enter.is [40] = true := by rw [yY h4]; exact hi
  rw [lD h4 h5];exact .inl (by omega)
 ·
  have h5 := (xK h4).1;rw [(zI c.enter [40]).stuck h5];exact .inr h5
attribute [local go_sem] xG xE
theorem yZ {n : Nat} {w : World} {x : Value} {c : Cu} (h : zF n w x c) (hn : n <= w.heap.size) : Calls Tryz.prog 115 #[x] w (N5.RunsTo (wO c) w) := by
 obtain ⟨a, ln, cap, rfl, hr, -⟩ := h.shape;clear h;have hB1 : Below w.heap.size w (w.alloc (tU (.slice a ln cap) c)) := (Below.refl _ w).alloc (Nat.le_refl _) _;have HP := vD (n := n) (w := w.alloc (tU (.slice a ln cap) c)) (c := c) ⟨_, rfl, hr.out.below (hB1.mono hn)⟩ (by simp; omega);obtain ⟨⟨tk, tp, tn, tt⟩, hT⟩ : ∃ t, t = c.peek := ⟨_, rfl⟩;rw [<- hT] at HP;have HS : Hid (wO c = (decide (c.err = 0) && (decide (tk = 1) || (decide (tk = 2) || c.is [40])))) := by show _ = _; unfold wO begins; rw [<- hT]
 clear hT;go_enter Tryz.func115, Tryz.ntmps115;go_wp2_with fail;refine HP.mono ?_; rintro e w2 ⟨rfl, hB2⟩;have hB := zS hB1 hB2;have K : zU w2 w.heap.size (zL (.slice a ln cap) c.ep (c.nest : Int) c.err c.pos) 40 := (zU.new w _ _).later hB2;have HI := uW (n := n) (w := w2) (c := c) ⟨_, rfl, hr.out.below (hB.mono hn)⟩ (Nat.le_trans hn hB.size) [40];obtain ⟨⟨x0, x1, x2, x3, x4, x5, x6, x7⟩, -⟩ := zB K;clear HP hr K;by_cases he : c.err = 0
 ·
  have hb : (c.err == 0) = true := by rw [he]; rfl
  rw [he] at HS;clear he;by_cases h1 : tk = 1
  ·
   subst h1;clear HI;go_wp2_with fail;go_ret;exact ⟨by rw [HS.out]; rfl, hB⟩
  ·
   by_cases h2 : tk = 2
   ·
    subst h2;clear HI;go_wp2_with fail;go_ret;exact ⟨by rw [HS.out]; rfl, hB⟩
   ·
    have HS2 : Hid (wO c = c.is [40]) := by show _ = _; rw [HS.out]; simp [h1, h2]
    clear HS;go_wp2_with fail;refine HI.mono ?_; rintro e w3 ⟨rfl, hB3⟩;go_wp2_with fail;go_ret;exact ⟨by rw [HS2.out]; simp [h1, h2], hB.trans (hB3.mono hB.size)⟩
 ·
  have hb : (c.err == 0) = false := by rw [beq_eq_false_iff_ne]; exact he
  have HS2 : Hid (wO c = false) := by show _ = _; rw [HS.out]; simp [he]
  clear HI HS;go_wp2_with fail;go_ret;exact ⟨by rw [HS2.out]; rfl, hB⟩
end Go.Proofs.YtdjomhbmhooceaaGreat.N7
