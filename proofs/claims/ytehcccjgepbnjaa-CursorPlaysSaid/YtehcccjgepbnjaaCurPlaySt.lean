/- What a round of the law CursorPlays keeps. -/
import Derived.Test.YtehcccjgepbnjaaCurRef7
import Derived.Test.YtehcccjgepbnjaaCurRef8
namespace Go.Proofs.Ytehcccjgepbnjaa
open Go.RowKit

theorem take_ws (c : Cu) (x : List UInt8) : (c.take x).ws = c.ws := by unfold Cu.take; split <;> rfl
theorem want_ws (c : Cu) (x : List UInt8) : (c.want x).ws = c.ws := by unfold Cu.want; split; exact take_ws c x; exact fail_ws c 5
theorem enter_ws (c : Cu) : c.enter.ws = c.ws := by unfold Cu.enter; split; (split; exact fail_ws c 2; rfl); rfl
theorem leave_ws (c : Cu) : c.leave.ws = c.ws := by unfold Cu.leave; split <;> rfl
theorem kind_ws (c : Cu) (k : Int) : (c.kind k).ws = c.ws := by unfold Cu.kind; split; (split; exact adv_ws c; exact fail_ws c 5); rfl
/-- what a round keeps: the cursor (c); the local that holds the document's state (e) -/
structure St (w0 : World) (n B X : Nat) (v1 : Value) (c e : Cu) (a : Option Addr) (ln cap : Nat) (W : World) : Prop where
  cur : CurAt W B v1 c
  blk : W.heap[X]? = some (.cells (refC (.slice a ln cap) e.ep (e.nest : Int) e.err e.pos) 31 (0, 0))
  row : WRow n W (.slice a ln cap) (e.ws.drop e.at')
  bel : Below n w0 W
  far : c.ws ≠ [] → ∀ g o m k, v1 = .slice (some ⟨g, o, none⟩) m k → g ≠ X
  neB : B ≠ X
  le : n ≤ B
  leX : n ≤ X
theorem St.size {w0 : World} {n B X : Nat} {v1 : Value} {c e : Cu} {a : Option Addr} {ln cap : Nat} {W : World} (h : St w0 n B X v1 c e a ln cap W) : n ≤ W.heap.size :=
  Nat.le_trans h.le (Nat.le_of_lt h.cur.lt)
theorem St.below {w0 : World} {n B X : Nat} {v1 : Value} {c e : Cu} {a : Option Addr} {ln cap : Nat} {W W' : World} (h : St w0 n B X v1 c e a ln cap W) (hB : Below W.heap.size W W') : St w0 n B X v1 c e a ln cap W' :=
  ⟨h.cur.below hB, (hB.block _ (Array.getElem?_eq_some_iff.1 h.blk).1).trans h.blk, h.row.below (hB.mono h.size), h.bel.trans (hB.mono h.size), h.far, h.neB, h.le, h.leX⟩
theorem St.moved {w0 : World} {n B X : Nat} {v1 : Value} {c e c' : Cu} {a : Option Addr} {ln cap : Nat} {W W' : World} (h : St w0 n B X v1 c e a ln cap W) (hc : CurAt W' B v1 c') (hg : W.grownBy W' (some B)) (hws : c'.ws = c.ws) : St w0 n B X v1 c' e a ln cap W' :=
  have hb : Below n W W' := below_grown hg h.le h.size
  ⟨hc, (hg.block _ (Array.getElem?_eq_some_iff.1 h.blk).1 (fun q => h.neB (by injection q with q; exact q.symm))).trans h.blk, h.row.below hb, h.bel.trans hb, by rw [hws]; exact h.far, h.neB, h.le, h.leX⟩
theorem heap_put (W : World) (b i : Nat) (x : Value) (cs : Array Value) (ty : TypeId) (h : W.heap[b]? = some (.cells cs ty (0, 0))) : (W.setCell ⟨b, i, none⟩ x).heap[b]? = some (.cells (cs.setIfInBounds i x) ty (0, 0)) := by
  show (W.heap.modify b _)[b]? = _
  rw [Array.getElem?_modify, if_pos rfl, h]
  rfl
theorem put8 (W : World) (X : Nat) (ty : TypeId) (y0 y1 y2 y3 y4 y5 y6 y7 x0 x1 x2 x3 x4 x5 x6 x7 : Value) (h : W.heap[X]? = some (.cells #[y0, y1, y2, y3, y4, y5, y6, y7] ty (0, 0))) :
    ((((((((W.setCell ⟨X, 0, none⟩ x0).setCell ⟨X, 1, none⟩ x1).setCell ⟨X, 2, none⟩ x2).setCell ⟨X, 3, none⟩ x3).setCell ⟨X, 4, none⟩ x4).setCell ⟨X, 5, none⟩ x5).setCell ⟨X, 6, none⟩ x6).setCell ⟨X, 7, none⟩ x7).heap[X]? = some (.cells #[x0, x1, x2, x3, x4, x5, x6, x7] ty (0, 0)) := by
  have h : (W.setCell ⟨X, 0, none⟩ x0).heap[X]? = some (.cells #[x0, y1, y2, y3, y4, y5, y6, y7] ty (0, 0)) := heap_put _ X 0 x0 _ _ h
  have h : (((W.setCell ⟨X, 0, none⟩ x0)).setCell ⟨X, 1, none⟩ x1).heap[X]? = some (.cells #[x0, x1, y2, y3, y4, y5, y6, y7] ty (0, 0)) := heap_put _ X 1 x1 _ _ h
  have h : (((((W.setCell ⟨X, 0, none⟩ x0)).setCell ⟨X, 1, none⟩ x1)).setCell ⟨X, 2, none⟩ x2).heap[X]? = some (.cells #[x0, x1, x2, y3, y4, y5, y6, y7] ty (0, 0)) := heap_put _ X 2 x2 _ _ h
  have h : (((((((W.setCell ⟨X, 0, none⟩ x0)).setCell ⟨X, 1, none⟩ x1)).setCell ⟨X, 2, none⟩ x2)).setCell ⟨X, 3, none⟩ x3).heap[X]? = some (.cells #[x0, x1, x2, x3, y4, y5, y6, y7] ty (0, 0)) := heap_put _ X 3 x3 _ _ h
  have h : (((((((((W.setCell ⟨X, 0, none⟩ x0)).setCell ⟨X, 1, none⟩ x1)).setCell ⟨X, 2, none⟩ x2)).setCell ⟨X, 3, none⟩ x3)).setCell ⟨X, 4, none⟩ x4).heap[X]? = some (.cells #[x0, x1, x2, x3, x4, y5, y6, y7] ty (0, 0)) := heap_put _ X 4 x4 _ _ h
  have h : (((((((((((W.setCell ⟨X, 0, none⟩ x0)).setCell ⟨X, 1, none⟩ x1)).setCell ⟨X, 2, none⟩ x2)).setCell ⟨X, 3, none⟩ x3)).setCell ⟨X, 4, none⟩ x4)).setCell ⟨X, 5, none⟩ x5).heap[X]? = some (.cells #[x0, x1, x2, x3, x4, x5, y6, y7] ty (0, 0)) := heap_put _ X 5 x5 _ _ h
  have h : (((((((((((((W.setCell ⟨X, 0, none⟩ x0)).setCell ⟨X, 1, none⟩ x1)).setCell ⟨X, 2, none⟩ x2)).setCell ⟨X, 3, none⟩ x3)).setCell ⟨X, 4, none⟩ x4)).setCell ⟨X, 5, none⟩ x5)).setCell ⟨X, 6, none⟩ x6).heap[X]? = some (.cells #[x0, x1, x2, x3, x4, x5, x6, y7] ty (0, 0)) := heap_put _ X 6 x6 _ _ h
  have h : (((((((((((((((W.setCell ⟨X, 0, none⟩ x0)).setCell ⟨X, 1, none⟩ x1)).setCell ⟨X, 2, none⟩ x2)).setCell ⟨X, 3, none⟩ x3)).setCell ⟨X, 4, none⟩ x4)).setCell ⟨X, 5, none⟩ x5)).setCell ⟨X, 6, none⟩ x6)).setCell ⟨X, 7, none⟩ x7).heap[X]? = some (.cells #[x0, x1, x2, x3, x4, x5, x6, x7] ty (0, 0)) := heap_put _ X 7 x7 _ _ h
  exact h
/-- the local's cells are stored anew -/
def putC (W : World) (X : Nat) (u ep nest err pos : Value) : World :=
  (((((((W.setCell ⟨X, 0, none⟩ u).setCell ⟨X, 1, none⟩ (.int .i64 0)).setCell ⟨X, 2, none⟩ ep).setCell ⟨X, 3, none⟩ (.int .i64 0)).setCell ⟨X, 4, none⟩ (.string ⟨#[]⟩)).setCell ⟨X, 5, none⟩ nest).setCell ⟨X, 6, none⟩ err).setCell ⟨X, 7, none⟩ pos
set_option maxHeartbeats 2000000 in
theorem putC_cur {n B X : Nat} {v1 : Value} {c : Cu} {W : World} (hc : CurAt W B v1 c) (far : c.ws ≠ [] → ∀ g o m k, v1 = .slice (some ⟨g, o, none⟩) m k → g ≠ X) (neB : B ≠ X) (leX : n ≤ X) (u ep nest err pos : Value) :
    CurAt (putC W X u ep nest err pos) B v1 c ∧ Below n W (putC W X u ep nest err pos) := by
  have one : ∀ (V : World) (i : Nat) (x : Value), (CurAt V B v1 c ∧ Below n W V) → (CurAt (V.setCell ⟨X, i, none⟩ x) B v1 c ∧ Below n W (V.setCell ⟨X, i, none⟩ x)) := fun V i x hV =>
    ⟨hV.1.kept (grownBy_set V X i x) neB far, hV.2.setCell leX x⟩
  unfold putC
  exact one _ 7 _ (one _ 6 _ (one _ 5 _ (one _ 4 _ (one _ 3 _ (one _ 2 _ (one _ 1 _ (one W 0 _ ⟨hc, Below.refl n W⟩)))))))
theorem putC_blk (W : World) (X : Nat) (ty : TypeId) (u ep nest err pos y0 y2 y5 y6 y7 : Value) (h : W.heap[X]? = some (.cells #[y0, .int .i64 0, y2, .int .i64 0, .string ⟨#[]⟩, y5, y6, y7] ty (0, 0))) :
    (putC W X u ep nest err pos).heap[X]? = some (.cells #[u, .int .i64 0, ep, .int .i64 0, .string ⟨#[]⟩, nest, err, pos] ty (0, 0)) := by
  unfold putC
  exact put8 W X ty _ _ _ _ _ _ _ _ _ _ _ _ _ _ _ _ h
theorem St.store {w0 : World} {n B X : Nat} {v1 : Value} {c e e' : Cu} {a a' : Option Addr} {ln cap ln' cap' : Nat} {W : World} (h : St w0 n B X v1 c e a ln cap W) (hr : WRow n W (.slice a' ln' cap') (e'.ws.drop e'.at')) :
    St w0 n B X v1 c e' a' ln' cap' (putC W X (.slice a' ln' cap') (.int .i64 e'.ep) (.int .i64 (e'.nest : Int)) (.int .i64 e'.err) (.int .i64 e'.pos)) := by
  have hall := putC_cur (n := n) h.cur h.far h.neB h.leX (.slice a' ln' cap') (.int .i64 e'.ep) (.int .i64 (e'.nest : Int)) (.int .i64 e'.err) (.int .i64 e'.pos)
  have hb := putC_blk W X _ (.slice a' ln' cap') (.int .i64 e'.ep) (.int .i64 (e'.nest : Int)) (.int .i64 e'.err) (.int .i64 e'.pos) _ _ _ _ _ h.blk
  generalize putC W X (.slice a' ln' cap') (.int .i64 e'.ep) (.int .i64 (e'.nest : Int)) (.int .i64 e'.err) (.int .i64 e'.pos) = V at *
  exact ⟨hall.1, hb, hr.below hall.2, h.bel.trans hall.2, h.far, h.neB, h.le, h.leX⟩
theorem four_cells {w : World} {b : Nat} {ty : TypeId} {x0 x1 x2 x3 : Value} (e : w.heap[b]? = some (.cells #[x0, x1, x2, x3] ty (0, 0))) :
    w.cell? ⟨b, 0, none⟩ = some x0 ∧ w.cell? ⟨b, 1, none⟩ = some x1 ∧ w.cell? ⟨b, 2, none⟩ = some x2 ∧ w.cell? ⟨b, 3, none⟩ = some x3 := by
  refine ⟨?_, ?_, ?_, ?_⟩ <;> simp [World.cell?, e]
/-- in the midst of a round: the deed's box beside it -/
structure Pl (w0 : World) (n B X D : Nat) (v1 : Value) (d : Dd) (c e : Cu) (a : Option Addr) (ln cap : Nat) (W : World) : Prop where
  st : St w0 n B X v1 c e a ln cap W
  dd : W.heap[D]? = some (.cells #[.int .i64 d.kind, .int .i64 d.num, .string d.text] 34 (0, 0))
  dX : D ≠ X
  dB : D ≠ B
section
variable {w0 : World} {n B X D : Nat} {v1 : Value} {d : Dd} {c e c' e' : Cu} {a a' : Option Addr} {ln cap ln' cap' : Nat} {W W' : World}
theorem Pl.below (h : Pl w0 n B X D v1 d c e a ln cap W) (hB : Below W.heap.size W W') : Pl w0 n B X D v1 d c e a ln cap W' :=
  ⟨h.st.below hB, (hB.block _ (Array.getElem?_eq_some_iff.1 h.dd).1).trans h.dd, h.dX, h.dB⟩
theorem Pl.moved (h : Pl w0 n B X D v1 d c e a ln cap W) (hc : CurAt W' B v1 c') (hg : W.grownBy W' (some B)) (hws : c'.ws = c.ws) : Pl w0 n B X D v1 d c' e a ln cap W' :=
  ⟨h.st.moved hc hg hws, (hg.block _ (Array.getElem?_eq_some_iff.1 h.dd).1 (fun q => h.dB (by injection q))).trans h.dd, h.dX, h.dB⟩
theorem putC_far (W : World) (X D : Nat) (u ep nest err pos : Value) (h : D ≠ X) : (putC W X u ep nest err pos).heap[D]? = W.heap[D]? := by
  unfold putC
  have one : ∀ (V : World) (i : Nat) (x : Value), (V.setCell ⟨X, i, none⟩ x).heap[D]? = V.heap[D]? := fun V i x => Below.heap_setCell _ _ _ D h
  rw [one, one, one, one, one, one, one, one]
theorem Pl.store (h : Pl w0 n B X D v1 d c e a ln cap W) (hr : WRow n W (.slice a' ln' cap') (e'.ws.drop e'.at')) :
    Pl w0 n B X D v1 d c e' a' ln' cap' (putC W X (.slice a' ln' cap') (.int .i64 e'.ep) (.int .i64 (e'.nest : Int)) (.int .i64 e'.err) (.int .i64 e'.pos)) :=
  ⟨h.st.store hr, (putC_far _ _ _ _ _ _ _ _ h.dX).trans h.dd, h.dX, h.dB⟩
theorem Pl.deed (h : Pl w0 n B X D v1 d c e a ln cap W) : W.cell? ⟨D, 0, none⟩ = some (.int .i64 d.kind) ∧ W.cell? ⟨D, 1, none⟩ = some (.int .i64 d.num) ∧ W.cell? ⟨D, 2, none⟩ = some (.string d.text) := by
  have e := h.dd
  refine ⟨?_, ?_, ?_⟩ <;> simp [World.cell?, e]
end
end Go.Proofs.Ytehcccjgepbnjaa
