/- Rows of rows of ints. -/
import Derived.Test.YtbkiamecdangpaaDoorGraNext
set_option linter.unusedVariables false
set_option linter.unusedSimpArgs false
namespace Go.Proofs.YtbkiamecdangpaaDoor.N13
open Go.RowKit

section
variable {w w' w1 : World} {v v' q : Value} {xs : List Nat} {G : List (List Nat)}
theorem own_apart {b1 b2 k1 k2 n1 n2 : Nat} {e1 e2 : TypeId} {x1 x2 : List Value} (h1 : w.ownsRow b1 e1 k1 v n1 x1) (h2 : w.ownsRow b2 e2 k2 v' n2 x2) (hne : e1 ≠ e2) : v.ownBlock = none ∨ v.ownBlock ≠ v'.ownBlock := by
  rcases h1.2 with ⟨rfl, _⟩ | ⟨g, cap, cur, rfl, _, hg, _⟩
  · exact .inl rfl
  · rcases h2.2 with ⟨rfl, _⟩ | ⟨g', cap', cur', rfl, _, hg', _⟩
    · exact .inr (by simp [Value.ownBlock])
    · refine .inr fun e => ?_
      simp only [Value.ownBlock, Option.some.injEq] at e
      subst e
      rw [hg] at hg'
      injection hg' with e
      injection e with _ e
      exact hne e
theorem own_far {b k n g : Nat} {e ty : TypeId} {x : List Value} {cs : Array Value} (h : w.ownsRow b e k v n x) (hb : Blk w g cs ty) (hne : e ≠ ty) : v.ownBlock = none ∨ v.ownBlock ≠ some g := by
  rcases h.2 with ⟨rfl, _⟩ | ⟨g', cap, cur, rfl, _, hg, _⟩
  · exact .inl rfl
  · refine .inr fun e => ?_
    simp only [Value.ownBlock, Option.some.injEq] at e
    subst e
    have hb' : w.heap[g']? = some (.cells cs ty (0, 0)) := hb
    rw [hg] at hb'
    injection hb' with e
    injection e with _ e
    exact hne e
theorem put_grown {b : Nat} (hP : Put b w w') (hB : Below 0 w w') : w.grownBy w' (some b) := ⟨hB.os, hB.tape, hB.output, hP.size, fun k _ hk => hP.other k fun e => hk (by rw [e])⟩
theorem Put.zero {b : Nat} (hP : Put b w w') : Below 0 w w' := hP.below 0 w (Nat.zero_le _) (Below.refl _ _)
theorem RowI.put {g n : Nat} {M : Ms} (h : RowI w v xs) (hm : MarksAt w g n M) (hP : Put g w w') : RowI w' v xs := by
  obtain ⟨cs, hb, _⟩ := hm
  exact World.ownsRow.kept h (put_grown hP hP.zero) (own_far h hb (by decide))
/-- a row of rows -/
def Each (w : World) (vs : List Value) (G : List (List Nat)) : Prop := ∀ (i : Nat) (q : Value) (xs : List Nat), vs[i]? = some q → G[i]? = some xs → RowI w q xs
def RowsI (w : World) (v : Value) (G : List (List Nat)) : Prop := ∃ vs : List Value, vs.length = G.length ∧ w.ownsRow 0 31 1 v vs.length vs ∧ Each w vs G
theorem RowsI.nil (w : World) : RowsI w (.slice none 0 0) [] := ⟨[], rfl, World.ownsRow_nil _ _ _ _, fun i q xs h => by simp at h⟩
theorem RowsI.later (h : RowsI w v G) (hB : Below w.heap.size w w') : RowsI w' v G := by
  obtain ⟨vs, hl, ho, he⟩ := h
  exact ⟨vs, hl, own_later ho hB, fun i q xs h1 h2 => (he i q xs h1 h2).later hB⟩
theorem RowsI.put {g n : Nat} {M : Ms} (h : RowsI w v G) (hm : MarksAt w g n M) (hP : Put g w w') : RowsI w' v G := by
  obtain ⟨vs, hl, ho, he⟩ := h
  have hm' := hm
  obtain ⟨cs, hb, _⟩ := hm'
  exact ⟨vs, hl, ho.kept (put_grown hP hP.zero) (own_far ho hb (by decide)), fun i q xs h1 h2 => (he i q xs h1 h2).put hm hP⟩
theorem RowsI.drew (h : RowsI w v G) : RowsI w.drew v G := h.later (below_drew _ _)
/-- what is kept by an append to a row of rows: rows of ints, marks -/
theorem RowI.past {o : Obj} {b k n : Nat} {x : List Value} (h : RowI w q xs) (ho : w.ownsRow b 31 k v n x) (hg : (w.alloc o).grownBy w1 v.ownBlock) : RowI w1 q xs :=
  World.ownsRow.kept (World.ownsRow.alloc h o) hg (own_apart h ho (by decide))
theorem MarksAt.past {o : Obj} {b k n g m : Nat} {M : Ms} {x : List Value} (h : MarksAt w g m M) (ho : w.ownsRow b 31 k v n x) (hg : (w.alloc o).grownBy w1 v.ownBlock) : MarksAt w1 g m M := by
  have h2 : MarksAt (w.alloc o) g m M := h.later ((Below.refl _ _).alloc (Nat.le_refl _) _)
  have hlt := h2.lt
  obtain ⟨cs, hb, _⟩ := h
  have hf := own_far ho hb (by decide)
  refine h2.same (hg.block g hlt fun e => ?_)
  rcases hf with hf | hf
  · rw [hf] at e; cases e
  · exact hf e.symm
/-- a row of rows that the call makes, in blocks from B on -/
def OwnR (B : Nat) (v : Value) (G : List (List Nat)) (w : World) : Prop := ∃ vs : List Value, vs.length = G.length ∧ w.ownsRow B 31 1 v vs.length vs ∧ Each w vs G
theorem OwnR.rows {B : Nat} (h : OwnR B v G w) : RowsI w v G := by
  obtain ⟨vs, hl, ho, he⟩ := h
  exact ⟨vs, hl, ho.mono (Nat.zero_le _), he⟩
theorem OwnR.nil (B : Nat) (w : World) : OwnR B (.slice none 0 0) [] w := ⟨[], rfl, World.ownsRow_nil _ _ _ _, fun i q xs h => by simp at h⟩
theorem OwnR.later {B : Nat} (h : OwnR B v G w) (hB : Below w.heap.size w w') : OwnR B v G w' := by
  obtain ⟨vs, hl, ho, he⟩ := h
  exact ⟨vs, hl, own_later ho hB, fun i q xs h1 h2 => (he i q xs h1 h2).later hB⟩
theorem OwnR.put {B g n : Nat} {M : Ms} (h : OwnR B v G w) (hm : MarksAt w g n M) (hP : Put g w w') : OwnR B v G w' := by
  obtain ⟨vs, hl, ho, he⟩ := h
  have hm' := hm
  obtain ⟨cs, hb, _⟩ := hm'
  exact ⟨vs, hl, ho.kept (put_grown hP hP.zero) (own_far ho hb (by decide)), fun i q xs h1 h2 => (he i q xs h1 h2).put hm hP⟩
theorem OwnR.push {B : Nat} {o : Obj} {vs : List Value} (hl : vs.length = G.length) (ho : w.ownsRow B 31 1 v vs.length vs) (he : Each w vs G) (hq : RowI w q xs)
    (h1 : w1.ownsRow B 31 1 v' (vs.length + 1) (vs ++ [q])) (h2 : (w.alloc o).grownBy w1 v.ownBlock) : OwnR B v' (G ++ [xs]) w1 := by
  refine ⟨vs ++ [q], by simp [hl], by rw [List.length_append]; exact h1, fun i p ys g1 g2 => ?_⟩
  by_cases hi : i < vs.length
  · rw [List.getElem?_append_left hi] at g1
    rw [List.getElem?_append_left (by omega)] at g2
    exact (he i p ys g1 g2).past ho h2
  · have hi' : i = vs.length := by
      have := (List.getElem?_eq_some_iff.1 g1).1
      rw [List.length_append, List.length_singleton] at this
      omega
    rw [hi', List.getElem?_append_right (Nat.le_refl _), Nat.sub_self] at g1
    rw [hi', hl, List.getElem?_append_right (Nat.le_refl _), Nat.sub_self] at g2
    simp at g1 g2
    subst g1 g2
    exact hq.past ho h2
theorem info_ints : (Tryd.prog.info? 31).map (fun i => (i.zero, i.size, i.bytes)) = some (some (.slice none 0 0), 1, 24) := by kernel_rfl
/-- one element -/
theorem RowI.at {p : Option Addr} {l cap : Nat} (h : RowI w (.slice p l cap) xs) {k : Nat} (hk : k < xs.length) : ∃ g, p = some ⟨g, 0, none⟩ ∧ g < w.heap.size ∧ w.cell? ⟨g, k, none⟩ = some (.int .i64 (xs[k] : Int)) := by
  have hlt := World.ownsRow.lt h
  rcases h.2 with ⟨e, h0⟩ | ⟨g, c, cur, e, _⟩
  · omega
  · injection e with e1 e2 e3
    subst e1
    refine ⟨g, rfl, (hlt g rfl).2, ?_⟩
    have := World.ownsRow.cells h (g := g) rfl k (iv xs[k]) (by rw [List.getElem?_map, List.getElem?_eq_getElem hk]; rfl)
    rw [Addr.add_lit, Nat.zero_add] at this
    exact this
theorem RowI.slice (h : RowI w v xs) : ∃ p cap, v = .slice p xs.length cap := by
  rcases h.2 with ⟨rfl, h0⟩ | ⟨g, cap, cur, rfl, _⟩
  · exact ⟨none, 0, by rw [h0]⟩
  · exact ⟨_, _, rfl⟩
theorem RowsI.slice (h : RowsI w v G) : ∃ p cap, v = .slice p G.length cap := by
  obtain ⟨vs, hl, ho, _⟩ := h
  rcases ho.2 with ⟨rfl, h0⟩ | ⟨g, cap, cur, rfl, _⟩
  · exact ⟨none, 0, by rw [← hl, h0]⟩
  · exact ⟨_, _, by rw [← hl]⟩
theorem RowsI.at {p : Option Addr} {l cap : Nat} (h : RowsI w (.slice p l cap) G) {k : Nat} (hk : k < G.length) : ∃ g q, p = some ⟨g, 0, none⟩ ∧ g < w.heap.size ∧ w.cell? ⟨g, k, none⟩ = some q ∧ RowI w q G[k] := by
  obtain ⟨vs, hl, ho, he⟩ := h
  have hlt := ho.lt
  rcases ho.2 with ⟨e, h0⟩ | ⟨g, c, cur, e, _⟩
  · omega
  · injection e with e1 e2 e3
    subst e1
    have hv : k < vs.length := by omega
    refine ⟨g, vs[k], rfl, (hlt g rfl).2, ?_, he k _ _ (List.getElem?_eq_getElem hv) (List.getElem?_eq_getElem hk)⟩
    have := ho.cells (g := g) rfl k vs[k] (List.getElem?_eq_getElem hv)
    rw [Addr.add_lit, Nat.zero_add] at this
    exact this
end
end Go.Proofs.YtbkiamecdangpaaDoor.N13
