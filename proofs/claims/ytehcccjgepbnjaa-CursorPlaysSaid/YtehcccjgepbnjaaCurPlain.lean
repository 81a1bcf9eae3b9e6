/- Cursors: their states, how they lie in memory, plain facts. -/
import Derived.Test.YtehcccjgepbnjaaIntsPlain
import Derived.Shelf.Abstract
import Derived.OwnWalk
import Derived.Laws.AppendOwn
import Derived.RangeFuncBox
import Derived.BigQuiet
import Derived.Deep.QuietTactic
import Derived.Lib.Strings
import Derived.StillTailTactics
import Derived.BigRegion
namespace Go.Proofs.Ytehcccjgepbnjaa
open Go.RowKit

def RunsTo (b : Bool) (w : World) (e : Ending) (w' : World) : Prop := e = .returned (.bool b) ∧ Below w.heap.size w w'
/-- a word with its place -/
structure Tk where
  kind : Int
  pos : Int
  num : Int
  text : List UInt8
def Tk.val (t : Tk) : Value := .agg #[.int .i64 t.kind, .int .i64 t.pos, .int .i64 t.num, .string ⟨t.text.toArray⟩]
def zeroT : Tk := ⟨0, 0, 0, []⟩
/-- word j of a row lies where it should -/
def TkAt (w : World) (g o j : Nat) (t : Tk) : Prop :=
  w.cell? ⟨g, o + j * 4, none⟩ = some (.int .i64 t.kind) ∧ w.cell? ⟨g, o + j * 4 + 1, none⟩ = some (.int .i64 t.pos) ∧ w.cell? ⟨g, o + j * 4 + 2, none⟩ = some (.int .i64 t.num) ∧ w.cell? ⟨g, o + j * 4 + 3, none⟩ = some (.string ⟨t.text.toArray⟩)
theorem TkAt.kept {w w' : World} {g o j : Nat} {t : Tk} {row : Option Nat} (h : TkAt w g o j t) (hg : w.grownBy w' row) (hne : some g ≠ row) : TkAt w' g o j t :=
  ⟨hg.cell (a := ⟨g, o + j * 4, none⟩) h.1 hne, hg.cell (a := ⟨g, o + j * 4 + 1, none⟩) h.2.1 hne, hg.cell (a := ⟨g, o + j * 4 + 2, none⟩) h.2.2.1 hne, hg.cell (a := ⟨g, o + j * 4 + 3, none⟩) h.2.2.2 hne⟩
/-- a slice of words: where its cells lie, outside of block B, or it is empty -/
def RowAt (w : World) (B : Nat) (v : Value) (xs : List Tk) : Prop :=
  ∃ (a : Option Addr) (cap : Nat), v = .slice a xs.length cap ∧ xs.length ≤ cap ∧ (xs = [] ∨ ∃ g o, a = some ⟨g, o, none⟩ ∧ g < w.heap.size ∧ g ≠ B ∧ ∀ j (hj : j < xs.length), TkAt w g o j xs[j])
theorem RowAt.kept {w w' : World} {B : Nat} {v : Value} {xs : List Tk} (h : RowAt w B v xs) (hg : w.grownBy w' (some B)) : RowAt w' B v xs := by
  obtain ⟨a, cap, h1, hc, h2 | ⟨g, o, h3, h4, h6, h5⟩⟩ := h
  · exact ⟨a, cap, h1, hc, .inl h2⟩
  · exact ⟨a, cap, h1, hc, .inr ⟨g, o, h3, Nat.lt_of_lt_of_le h4 hg.size, h6, fun j hj => (h5 j hj).kept hg (fun e => h6 (by injection e))⟩⟩
theorem grownBy_below {w w' : World} (h : Below w.heap.size w w') (row : Option Nat) : w.grownBy w' row := ⟨h.os, h.tape, h.output, h.size, fun k hk _ => h.block k hk⟩
theorem grownBy_trans {a b c : World} {row : Option Nat} (h : a.grownBy b row) (k : b.grownBy c row) : a.grownBy c row :=
  ⟨k.os.trans h.os, k.tape.trans h.tape, k.output.trans h.output, Nat.le_trans h.size k.size, fun i hi hne => (k.block i (Nat.lt_of_lt_of_le hi h.size) hne).trans (h.block i hi hne)⟩
theorem below_grown {w w' : World} {n B : Nat} (h : w.grownBy w' (some B)) (hn : n ≤ B) (hs : n ≤ w.heap.size) : Below n w w' := (Below.refl n w).grown h hs (fun j e => by injection e with e; omega)

/-- a cursor: the words ahead of the end, the end's place; how far, how deep; where it failed, and how -/
structure Cu where
  ws : List Tk
  ep : Int
  at' : Nat
  nest : Nat
  pos : Int
  err : Int
/-- the word at a place, or the end -/
def Cu.tok (c : Cu) (k : Nat) : Tk := c.ws.getD k ⟨0, c.ep, 0, []⟩
/-- a cursor lies in block B -/
structure CurAt (w : World) (B : Nat) (v : Value) (c : Cu) : Prop where
  cells : w.heap[B]? = some (.cells #[v, .int .i64 0, .int .i64 c.ep, .int .i64 0, .string ⟨#[]⟩, .int .i64 (c.at' : Int), .int .i64 (c.nest : Int), .int .i64 c.pos, .int .i64 c.err] 61 (0, 0))
  row : RowAt w B v c.ws
  le : c.at' ≤ c.ws.length
  few : c.ws.length ≤ 1000
  kinds : ∀ t ∈ c.ws, t.kind ≠ 0
  deep : c.nest ≤ 200
theorem CurAt.lt {w : World} {B : Nat} {v : Value} {c : Cu} (h : CurAt w B v c) : B < w.heap.size := (Array.getElem?_eq_some_iff.1 h.cells).1
theorem CurAt.below {w w' : World} {B : Nat} {v : Value} {c : Cu} (h : CurAt w B v c) (hB : Below w.heap.size w w') : CurAt w' B v c :=
  ⟨(hB.block _ h.lt).trans h.cells, h.row.kept (grownBy_below hB _), h.le, h.few, h.kinds, h.deep⟩
theorem CurAt.kept {w w' : World} {B B' : Nat} {v : Value} {c : Cu} (h : CurAt w B v c) (hg : w.grownBy w' (some B')) (hne : B ≠ B') (hr : c.ws ≠ [] → ∀ g o n cap, v = .slice (some ⟨g, o, none⟩) n cap → g ≠ B') : CurAt w' B v c := by
  refine ⟨(hg.block _ h.lt (fun e => hne (by injection e))).trans h.cells, ?_, h.le, h.few, h.kinds, h.deep⟩
  obtain ⟨a, cap, h1, hc, h2⟩ := h.row
  by_cases h0 : c.ws = []
  · exact ⟨a, cap, h1, hc, .inl h0⟩
  · rcases h2 with h2 | ⟨g, o, h3, h4, h6, h5⟩
    · exact absurd h2 h0
    · have hgB := hr h0 g o _ _ (by rw [h1, h3])
      exact ⟨a, cap, h1, hc, .inr ⟨g, o, h3, Nat.lt_of_lt_of_le h4 hg.size, h6, fun j hj => (h5 j hj).kept hg (fun e => hgB (by injection e))⟩⟩
theorem grownBy_set (W : World) (b i : Nat) (x : Value) : W.grownBy (W.setCell ⟨b, i, none⟩ x) (some b) :=
  ⟨rfl, rfl, rfl, by simp, fun k _ hk => Below.heap_setCell _ _ _ k (fun e => hk (by rw [e]))⟩
/-- a store into a block of the call's own -/
theorem CurAt.put {w X : World} {B b : Nat} {v : Value} {c c' : Cu} (h : CurAt w B v c) (hws : c'.ws = c.ws) (hb : w.heap.size ≤ b) (hX : CurAt X B v c' ∧ w.grownBy X (some B)) (i : Nat) (x : Value) :
    CurAt (X.setCell ⟨b, i, none⟩ x) B v c' ∧ w.grownBy (X.setCell ⟨b, i, none⟩ x) (some B) := by
  have hlt := h.lt
  obtain ⟨hX, hg⟩ := hX
  refine ⟨hX.kept (grownBy_set X b i x) (by omega) (fun h0 g o n cap hv e => ?_), ⟨hg.os, hg.tape, hg.output, by rw [show (X.setCell ⟨b, i, none⟩ x).heap.size = X.heap.size by simp]; exact hg.size, fun k hk hne => ?_⟩⟩
  · obtain ⟨a, cap', h1, _, h2⟩ := h.row
    rcases h2 with h2 | ⟨g', o', h3, h4, _, _⟩
    · rw [hws] at h0; exact h0 h2
    · rw [h1, h3] at hv
      injection hv with hv
      injection hv with hv
      injection hv with hv
      omega
  · exact ((grownBy_set X b i x).block k (Nat.lt_of_lt_of_le hk hg.size) (fun e => by injection e; omega)).trans (hg.block k hk hne)
/-- all cells of a cursor, for the walk -/
theorem CurAt.all {w : World} {B : Nat} {v : Value} {c : Cu} (h : CurAt w B v c) :
    (w.cell? ⟨B, 0, none⟩ = some v ∧ w.cell? ⟨B, 1, none⟩ = some (.int .i64 0) ∧ w.cell? ⟨B, 2, none⟩ = some (.int .i64 c.ep) ∧ w.cell? ⟨B, 3, none⟩ = some (.int .i64 0) ∧ w.cell? ⟨B, 4, none⟩ = some (.string ⟨#[]⟩) ∧
      w.cell? ⟨B, 5, none⟩ = some (.int .i64 (c.at' : Int)) ∧ w.cell? ⟨B, 6, none⟩ = some (.int .i64 (c.nest : Int)) ∧ w.cell? ⟨B, 7, none⟩ = some (.int .i64 c.pos) ∧ w.cell? ⟨B, 8, none⟩ = some (.int .i64 c.err)) ∧
    w.frozen? ⟨B, 5, none⟩ = false ∧ w.frozen? ⟨B, 6, none⟩ = false ∧ w.frozen? ⟨B, 7, none⟩ = false ∧ w.frozen? ⟨B, 8, none⟩ = false := by
  have hc := h.cells
  refine ⟨⟨?_, ?_, ?_, ?_, ?_, ?_, ?_, ?_, ?_⟩, ?_, ?_, ?_, ?_⟩ <;> simp [World.cell?, World.frozen?, hc]
theorem below_one {w w3 : World} {x0 x1 x2 x3 : Value} {ty : TypeId} (hB : Below (w.alloc (.cells #[x0, x1, x2, x3] ty)).heap.size (w.alloc (.cells #[x0, x1, x2, x3] ty)) w3) :
    w3.cell? ⟨w.heap.size, 0, none⟩ = some x0 ∧ w3.cell? ⟨w.heap.size, 1, none⟩ = some x1 ∧ w3.cell? ⟨w.heap.size, 2, none⟩ = some x2 ∧ w3.cell? ⟨w.heap.size, 3, none⟩ = some x3 ∧
    w3.frozen? ⟨w.heap.size, 0, none⟩ = false ∧ w3.frozen? ⟨w.heap.size, 1, none⟩ = false ∧ w3.frozen? ⟨w.heap.size, 2, none⟩ = false ∧ w3.frozen? ⟨w.heap.size, 3, none⟩ = false := by
  have l0 : w.heap.size < (w.alloc (.cells #[x0, x1, x2, x3] ty)).heap.size := by simp
  have cx : ∀ j, w3.cell? ⟨w.heap.size, j, none⟩ = (#[x0, x1, x2, x3] : Array Value)[j]? := fun j => by
    rw [hB.cell (p := ⟨w.heap.size, j, none⟩) l0, World.cell?_alloc_at _ _ _ _ rfl]
  have fx : ∀ j, w3.frozen? ⟨w.heap.size, j, none⟩ = false := fun j => by
    rw [hB.frozen (p := ⟨w.heap.size, j, none⟩) l0, World.frozen?_alloc_at _ _ _ _ rfl]
  exact ⟨cx 0, cx 1, cx 2, cx 3, fx 0, fx 1, fx 2, fx 3⟩
end Go.Proofs.Ytehcccjgepbnjaa
