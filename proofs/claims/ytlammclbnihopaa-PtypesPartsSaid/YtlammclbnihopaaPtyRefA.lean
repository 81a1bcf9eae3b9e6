/- The document's readers: the boxes. -/
import Derived.Test.YtlammclbnihopaaPtyA
namespace Go.Proofs.Ytlammclbnihopaa.N7
open Go.RowKit N5 N6

/-- a store into block b, and no more -/
structure Put (b : Nat) (W W7 : World) : Prop where
  size : W.heap.size ≤ W7.heap.size
  other : ∀ k, k ≠ b → W7.heap[k]? = W.heap[k]?
  below : ∀ n w, n ≤ b → Below n w W → Below n w W7
  grown : W.grownBy W7 (some b)
section
variable {b : Nat} {W W7 : World}
theorem Put.blk (h : Put b W W7) {k : Nat} {cs : Array Value} {ty : TypeId} (hk : Blk W k cs ty) (hne : k ≠ b) : Blk W7 k cs ty := (h.other k hne).trans hk
theorem Put.node (h : Put b W W7) {S : Nat → Prop} {x : NC} {t : Nd} (hx : NodeAt S W x t) (hS : ¬ S b) : NodeAt S W7 x t := hx.keeps ⟨h.size, fun k hk _ => h.other k fun e => hS (e ▸ hk)⟩
theorem Put.row (h : Put b W W7) {n : Nat} {v : Value} {xs : List Tk} (hr : WRow n W v xs) (hb : n ≤ b) : WRow n W7 v xs := hr.below (h.below n W hb (Below.refl _ _))
theorem Put.one (W : World) (b i : Nat) (x : Value) : Put b W (W.setCell ⟨b, i, none⟩ x) :=
  ⟨by simp, fun k hk => Below.heap_setCell _ _ _ _ hk, fun _ _ hn hB => hB.setCell hn _, grownBy_set W b i x⟩
theorem Put.trans {W8 : World} (h : Put b W W7) (g : Put b W7 W8) : Put b W W8 :=
  ⟨Nat.le_trans h.size g.size, fun k hk => (g.other k hk).trans (h.other k hk), fun n w hn hB => g.below n w hn (h.below n w hn hB), grownBy_trans h.grown g.grown⟩
end
theorem set8 {b : Nat} {W : World} {ty : TypeId} {y0 y1 y2 y3 y4 y5 y6 y7 x0 x1 x2 x3 x4 x5 x6 x7 : Value} (h : Blk W b #[y0, y1, y2, y3, y4, y5, y6, y7] ty) :
    Blk (((((((((W.setCell ⟨b, 0, none⟩ x0).setCell ⟨b, 1, none⟩ x1).setCell ⟨b, 2, none⟩ x2).setCell ⟨b, 3, none⟩ x3).setCell ⟨b, 4, none⟩ x4).setCell ⟨b, 5, none⟩ x5).setCell ⟨b, 6, none⟩ x6).setCell ⟨b, 7, none⟩ x7)) b #[x0, x1, x2, x3, x4, x5, x6, x7] ty := by
  have h : Blk (W.setCell ⟨b, 0, none⟩ x0) b #[x0, y1, y2, y3, y4, y5, y6, y7] ty := h.set 0 x0
  have h : Blk ((W.setCell ⟨b, 0, none⟩ x0).setCell ⟨b, 1, none⟩ x1) b #[x0, x1, y2, y3, y4, y5, y6, y7] ty := h.set 1 x1
  have h : Blk (((W.setCell ⟨b, 0, none⟩ x0).setCell ⟨b, 1, none⟩ x1).setCell ⟨b, 2, none⟩ x2) b #[x0, x1, x2, y3, y4, y5, y6, y7] ty := h.set 2 x2
  have h : Blk ((((W.setCell ⟨b, 0, none⟩ x0).setCell ⟨b, 1, none⟩ x1).setCell ⟨b, 2, none⟩ x2).setCell ⟨b, 3, none⟩ x3) b #[x0, x1, x2, x3, y4, y5, y6, y7] ty := h.set 3 x3
  have h : Blk (((((W.setCell ⟨b, 0, none⟩ x0).setCell ⟨b, 1, none⟩ x1).setCell ⟨b, 2, none⟩ x2).setCell ⟨b, 3, none⟩ x3).setCell ⟨b, 4, none⟩ x4) b #[x0, x1, x2, x3, x4, y5, y6, y7] ty := h.set 4 x4
  have h : Blk ((((((W.setCell ⟨b, 0, none⟩ x0).setCell ⟨b, 1, none⟩ x1).setCell ⟨b, 2, none⟩ x2).setCell ⟨b, 3, none⟩ x3).setCell ⟨b, 4, none⟩ x4).setCell ⟨b, 5, none⟩ x5) b #[x0, x1, x2, x3, x4, x5, y6, y7] ty := h.set 5 x5
  have h : Blk (((((((W.setCell ⟨b, 0, none⟩ x0).setCell ⟨b, 1, none⟩ x1).setCell ⟨b, 2, none⟩ x2).setCell ⟨b, 3, none⟩ x3).setCell ⟨b, 4, none⟩ x4).setCell ⟨b, 5, none⟩ x5).setCell ⟨b, 6, none⟩ x6) b #[x0, x1, x2, x3, x4, x5, x6, y7] ty := h.set 6 x6
  have h : Blk ((((((((W.setCell ⟨b, 0, none⟩ x0).setCell ⟨b, 1, none⟩ x1).setCell ⟨b, 2, none⟩ x2).setCell ⟨b, 3, none⟩ x3).setCell ⟨b, 4, none⟩ x4).setCell ⟨b, 5, none⟩ x5).setCell ⟨b, 6, none⟩ x6).setCell ⟨b, 7, none⟩ x7) b #[x0, x1, x2, x3, x4, x5, x6, x7] ty := h.set 7 x7
  exact h
theorem c_put {b : Nat} {W : World} {ty : TypeId} {uz : Value} {e0 e1 e2 e3 : Int} (hz : Blk W b (refC uz e0 e1 e2 e3) ty) (u : Value) (ep nest err pos : Int) :
    ∃ W7, W7 = ((((((((W.setCell ⟨b, 0, none⟩ u).setCell ⟨b, 1, none⟩ (.int .i64 0)).setCell ⟨b, 2, none⟩ (.int .i64 ep)).setCell ⟨b, 3, none⟩ (.int .i64 0)).setCell ⟨b, 4, none⟩ (.string ⟨#[]⟩)).setCell ⟨b, 5, none⟩ (.int .i64 nest)).setCell ⟨b, 6, none⟩ (.int .i64 err)).setCell ⟨b, 7, none⟩ (.int .i64 pos)) ∧
      Blk W7 b (refC u ep nest err pos) ty ∧ Put b W W7 := by
  refine ⟨_, rfl, ?_, ((((((((Put.one _ _ _ _).trans (Put.one _ _ _ _)).trans (Put.one _ _ _ _)).trans (Put.one _ _ _ _)).trans (Put.one _ _ _ _)).trans (Put.one _ _ _ _)).trans (Put.one _ _ _ _)).trans (Put.one _ _ _ _))⟩
  exact set8 hz
theorem n_put {b : Nat} {W : World} {ty : TypeId} {z : NC} (hz : Blk W b #[.int .i64 z.kind, .int .i64 z.pos, .int .i64 z.num, .string ⟨z.text.toArray⟩, .slice z.kp z.kl z.kc] ty) (d : NC) :
    ∃ W7, W7 = (((((W.setCell ⟨b, 0, none⟩ (.int .i64 d.kind)).setCell ⟨b, 1, none⟩ (.int .i64 d.pos)).setCell ⟨b, 2, none⟩ (.int .i64 d.num)).setCell ⟨b, 3, none⟩ (.string ⟨d.text.toArray⟩)).setCell ⟨b, 4, none⟩ (.slice d.kp d.kl d.kc)) ∧
      Blk W7 b #[.int .i64 d.kind, .int .i64 d.pos, .int .i64 d.num, .string ⟨d.text.toArray⟩, .slice d.kp d.kl d.kc] ty ∧ Put b W W7 := by
  refine ⟨_, rfl, ?_, ((((Put.one _ _ _ _).trans (Put.one _ _ _ _)).trans (Put.one _ _ _ _)).trans (Put.one _ _ _ _)).trans (Put.one _ _ _ _)⟩
  exact ((((hz.set 0 _).set 1 _).set 2 _).set 3 _).set 4 _
theorem RefIs.mk {n : Nat} {W : World} {a : Option Addr} {ln cap : Nat} {c : Cu} (h : WRow n W (.slice a ln cap) (c.ws.drop c.at')) : RefIs n W (.agg (refC (.slice a ln cap) c.ep (c.nest : Int) c.err c.pos)) c := ⟨_, rfl, h⟩
/-- what a reader of the document leaves: a state, a tree in blocks that are new -/
def RefRead (n : Nat) (o : Cu × Nd) (w : World) (e : Ending) (w' : World) : Prop :=
  ∃ (x : Value) (d : NC), e = .returned (.tuple #[x, d.val]) ∧ RefIs n w' x o.1 ∧ NodeAt (fun b => w.heap.size ≤ b) w' d o.2 ∧ Below w.heap.size w w'
theorem refpeek_l {n : Nat} {w : World} {x : Value} {c : Cu} (h : RefIs n w x c) (hn : n ≤ w.heap.size) : Calls Try.prog 27 #[x] w fun e w' => e = .returned (.agg #[.int .i64 c.peek.kind, .int .i64 c.peek.pos, .int .i64 c.peek.num, .string ⟨c.peek.text.toArray⟩]) ∧ Below w.heap.size w w' := refpeek_any h hn
theorem refnext_l {n : Nat} {w : World} {x : Value} {c : Cu} (h : RefIs n w x c) (hn : n ≤ w.heap.size) : Calls Try.prog 40 #[x] w (RefTo n c.adv (.agg #[.int .i64 c.peek.kind, .int .i64 c.peek.pos, .int .i64 c.peek.num, .string ⟨c.peek.text.toArray⟩]) w) := refnext_any h hn
theorem refis_l {n : Nat} {w : World} {x : Value} {c : Cu} (h : RefIs n w x c) (hn : n ≤ w.heap.size) (l : List UInt8) : Calls Try.prog 41 #[x, .string ⟨l.toArray⟩] w (N5.RunsTo (c.is l) w) := by
  have := refis_any h hn ⟨l.toArray⟩
  simpa using this
theorem reftake_l {n : Nat} {w : World} {x : Value} {c : Cu} (h : RefIs n w x c) (hn : n ≤ w.heap.size) (l : List UInt8) : Calls Try.prog 48 #[x, .string ⟨l.toArray⟩] w (RefTo n (c.take l) (.bool (c.is l)) w) := by
  have := reftake_any h hn ⟨l.toArray⟩
  simpa using this
theorem refwant_l {n : Nat} {w : World} {x : Value} {c : Cu} (h : RefIs n w x c) (hn : n ≤ w.heap.size) (l : List UInt8) : Calls Try.prog 44 #[x, .string ⟨l.toArray⟩] w (RefTo n (c.want l) (.bool (c.is l)) w) := by
  have := refwant_any h hn ⟨l.toArray⟩
  simpa using this
theorem ok_enter {c : Cu} (h : CuOk c) : CuOk c.enter := by
  by_cases he : c.enters = true
  · rw [enter_of he]; exact ⟨h.le, h.few, h.kinds, by have := (enters_iff.1 he).2; show c.nest + 1 ≤ 200; omega⟩
  · exact (enter_not he).2.ok h
theorem ok_leave {c : Cu} (h : CuOk c) : CuOk c.leave := by
  unfold Cu.leave
  split
  · exact ⟨h.le, h.few, h.kinds, by have := h.deep; show c.nest - 1 ≤ 200; omega⟩
  · exact h
theorem in_atom {c : Cu} {k : Nat} (he : c.err = 0) (hi : c.is [40] = true) (hk : 200 ≤ c.nest + (k + 1) ∨ c.err ≠ 0) : 200 ≤ (c.enter.want [40]).nest + k ∨ (c.enter.want [40]).err ≠ 0 := by
  have hk : 200 ≤ c.nest + (k + 1) := hk.resolve_right fun q => q he
  by_cases h4 : c.enters = true
  · have h5 : c.enter.is [40] = true := by rw [enter_of h4]; exact hi
    rw [nest_in h4 h5]
    exact .inl (by omega)
  · have h5 := (enter_not h4).1
    rw [(fine_want c.enter [40]).stuck h5]
    exact .inr h5
attribute [local go_sem] fld0 fld1
set_option maxRecDepth 100000 in
set_option maxHeartbeats 4000000 in
theorem refbegins_any {n : Nat} {w : World} {x : Value} {c : Cu} (h : RefIs n w x c) (hn : n ≤ w.heap.size) : Calls Try.prog 79 #[x] w (N5.RunsTo (beginsR c) w) := by
  obtain ⟨a, ln, cap, rfl, hr, -⟩ := h.shape
  clear h
  have hB1 : Below w.heap.size w (w.alloc (refO (.slice a ln cap) c)) := (Below.refl _ w).alloc (Nat.le_refl _) _
  have HP := refpeek_l (n := n) (w := w.alloc (refO (.slice a ln cap) c)) (c := c) ⟨_, rfl, hr.out.below (hB1.mono hn)⟩ (by simp; omega)
  obtain ⟨⟨tk, tp, tn, tt⟩, hT⟩ : ∃ t, t = c.peek := ⟨_, rfl⟩
  rw [← hT] at HP
  have HS : Hid (beginsR c = (decide (c.err = 0) && (decide (tk = 1) || (decide (tk = 2) || c.is [40])))) := by show _ = _; unfold beginsR begins; rw [← hT]
  clear hT
  go_enter Try.func79, Try.ntmps79
  go_wp2_with fail
  refine HP.mono ?_; rintro e w2 ⟨rfl, hB2⟩
  have hB := hB1.trans (hB2.mono hB1.size)
  have K : Blk w2 w.heap.size (refC (.slice a ln cap) c.ep (c.nest : Int) c.err c.pos) 39 := (Blk.new w _ _).later hB2
  have HI := refis_l (n := n) (w := w2) (c := c) ⟨_, rfl, hr.out.below (hB.mono hn)⟩ (Nat.le_trans hn hB.size) [40]
  obtain ⟨⟨x0, x1, x2, x3, x4, x5, x6, x7⟩, -⟩ := cells8 K
  clear HP hr K
  by_cases he : c.err = 0
  · have hb : (c.err == 0) = true := by rw [he]; rfl
    rw [he] at HS
    clear he
    by_cases h1 : tk = 1
    · subst h1
      clear HI
      go_wp2_with fail
      go_ret
      exact ⟨by rw [HS.out]; rfl, hB⟩
    · by_cases h2 : tk = 2
      · subst h2
        clear HI
        go_wp2_with fail
        go_ret
        exact ⟨by rw [HS.out]; rfl, hB⟩
      · have HS2 : Hid (beginsR c = c.is [40]) := by show _ = _; rw [HS.out]; simp [h1, h2]
        clear HS
        go_wp2_with fail
        refine HI.mono ?_; rintro e w3 ⟨rfl, hB3⟩
        go_wp2_with fail
        go_ret
        exact ⟨by rw [HS2.out]; simp [h1, h2], hB.trans (hB3.mono hB.size)⟩
  · have hb : (c.err == 0) = false := by rw [beq_eq_false_iff_ne]; exact he
    have HS2 : Hid (beginsR c = false) := by show _ = _; rw [HS.out]; simp [he]
    clear HI HS
    go_wp2_with fail
    go_ret
    exact ⟨by rw [HS2.out]; rfl, hB⟩
end Go.Proofs.Ytlammclbnihopaa.N7
