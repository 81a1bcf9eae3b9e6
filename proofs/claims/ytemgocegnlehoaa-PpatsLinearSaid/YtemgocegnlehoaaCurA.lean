/- Cursors: their states, how they lie in memory, plain facts. The contracts of a cursor's functions that only read. The contracts of isOneOf and what it calls; of Is and Done. The contracts of a cursor's functions that turn it: Is, Fail, Next, Take, Want. The contracts of a cursor's functions that turn it: Next, Take, Want, Enter, Leave. The contracts of a cursor's Kind and Done. The contract of a cursor's Ahead. The contract of cursor.New. The contract of cursor.New. -/
import Derived.Test.YtemgocegnlehoaaIntsPlain
import Derived.Test.YtemgocegnlehoaaTok
import Derived.Shelf.Abstract
import Derived.OwnWalk
import Derived.Laws.AppendOwn
import Derived.RangeFuncBox
import Derived.BigQuiet
import Derived.Deep.QuietTactic
import Derived.Lib.Strings
import Derived.StillTailTactics
import Derived.BigRegion
namespace Go.Proofs.Ytemgocegnlehoaa.N5
open Go.RowKit

def RunsTo (b : Bool) (w : World) (e : Ending) (w' : World) : Prop := e = .returned (.bool b) ∧ Below w.heap.size w w'
/-- word j of a row lies where it should -/
def TkAt (w : World) (g o j : Nat) (t : Tk) : Prop :=
  w.cell? ⟨g, o + j * 4, none⟩ = some (.int .i64 t.kind) ∧ w.cell? ⟨g, o + j * 4 + 1, none⟩ = some (.int .i64 t.pos) ∧ w.cell? ⟨g, o + j * 4 + 2, none⟩ = some (.int .i64 t.num) ∧ w.cell? ⟨g, o + j * 4 + 3, none⟩ = some (.string ⟨t.text.toArray⟩)
theorem TkAt.kept {w w' : World} {g o j : Nat} {t : Tk} {row : Option Nat} (h : TkAt w g o j t) (hg : w.grownBy w' row) (hne : some g ≠ row) : TkAt w' g o j t :=
  ⟨hg.cell (a := ⟨g, o + j * 4, none⟩) h.1 hne, hg.cell (a := ⟨g, o + j * 4 + 1, none⟩) h.2.1 hne, hg.cell (a := ⟨g, o + j * 4 + 2, none⟩) h.2.2.1 hne, hg.cell (a := ⟨g, o + j * 4 + 3, none⟩) h.2.2.2 hne⟩
/-- a slice of words: where its cells lie, outside of block B, or it is empty -/
def RowAt (w : World) (B : Nat) (v : Value) (xs : List Tk) : Prop :=
  ∃ (a : Option Addr) (cap : Nat), v = .slice a xs.length cap ∧ xs.length ≤ cap ∧ (xs = [] ∨ ∃ g o, a = some ⟨g, o, none⟩ ∧ g < w.heap.size ∧ g ≠ B ∧ ∀ j (hj : j < xs.length), TkAt w g o j xs[j])
theorem RowAt.kept {w w' : World} {B : Nat} {v : Value} {xs : List Tk} (h : RowAt w B v xs) (hg : w.grownBy w' (some B)) : RowAt w' B v xs := by
  obtain ⟨a, cap, h1, hc, h2 | ⟨g, o, h3, h4, h6, h5⟩⟩ := h
  · exact ⟨a, cap, h1, hc, .inl h2⟩
  · exact ⟨a, cap, h1, hc, .inr ⟨g, o, h3, Nat.lt_of_lt_of_le h4 hg.size, h6, fun j hj => (h5 j hj).kept hg (fun e => h6 (by injection e))⟩⟩
theorem grownBy_below {w w' : World} (h : Below w.heap.size w w') (row : Option Nat) : w.grownBy w' row := ⟨h.os, h.tape, h.output, h.size, fun k hk _ => h.block k hk⟩
theorem grownBy_trans {a b c : World} {row : Option Nat} (h : a.grownBy b row) (k : b.grownBy c row) : a.grownBy c row :=
  ⟨k.os.trans h.os, k.tape.trans h.tape, k.output.trans h.output, Nat.le_trans h.size k.size, fun i hi hne => (k.block i (Nat.lt_of_lt_of_le hi h.size) hne).trans (h.block i hi hne)⟩
theorem below_grown {w w' : World} {n B : Nat} (h : w.grownBy w' (some B)) (hn : n ≤ B) (hs : n ≤ w.heap.size) : Below n w w' := (Below.refl n w).grown h hs (fun j e => by injection e with e; omega)

/-- a cursor: the words ahead of the end, the end's place; how far, how deep; where it failed, and how -/
structure Cu where
  ws : List Tk
  ep : Int
  at' : Nat
  nest : Nat
  pos : Int
  err : Int
/-- the word at a place, or the end -/
def Cu.tok (c : Cu) (k : Nat) : Tk := c.ws.getD k ⟨0, c.ep, 0, []⟩
/-- a cursor lies in block B -/
structure CurAt (w : World) (B : Nat) (v : Value) (c : Cu) : Prop where
  cells : w.heap[B]? = some (.cells #[v, .int .i64 0, .int .i64 c.ep, .int .i64 0, .string ⟨#[]⟩, .int .i64 (c.at' : Int), .int .i64 (c.nest : Int), .int .i64 c.pos, .int .i64 c.err] 92 (0, 0))
  row : RowAt w B v c.ws
  le : c.at' ≤ c.ws.length
  few : c.ws.length ≤ 4000
  kinds : ∀ t ∈ c.ws, t.kind ≠ 0
  deep : c.nest ≤ 200
theorem CurAt.lt {w : World} {B : Nat} {v : Value} {c : Cu} (h : CurAt w B v c) : B < w.heap.size := (Array.getElem?_eq_some_iff.1 h.cells).1
theorem CurAt.below {w w' : World} {B : Nat} {v : Value} {c : Cu} (h : CurAt w B v c) (hB : Below w.heap.size w w') : CurAt w' B v c :=
  ⟨(hB.block _ h.lt).trans h.cells, h.row.kept (grownBy_below hB _), h.le, h.few, h.kinds, h.deep⟩
theorem CurAt.kept {w w' : World} {B B' : Nat} {v : Value} {c : Cu} (h : CurAt w B v c) (hg : w.grownBy w' (some B')) (hne : B ≠ B') (hr : c.ws ≠ [] → ∀ g o n cap, v = .slice (some ⟨g, o, none⟩) n cap → g ≠ B') : CurAt w' B v c := by
  refine ⟨(hg.block _ h.lt (fun e => hne (by injection e))).trans h.cells, ?_, h.le, h.few, h.kinds, h.deep⟩
  obtain ⟨a, cap, h1, hc, h2⟩ := h.row
  by_cases h0 : c.ws = []
  · exact ⟨a, cap, h1, hc, .inl h0⟩
  · rcases h2 with h2 | ⟨g, o, h3, h4, h6, h5⟩
    · exact absurd h2 h0
    · have hgB := hr h0 g o _ _ (by rw [h1, h3])
      exact ⟨a, cap, h1, hc, .inr ⟨g, o, h3, Nat.lt_of_lt_of_le h4 hg.size, h6, fun j hj => (h5 j hj).kept hg (fun e => hgB (by injection e))⟩⟩
theorem grownBy_set (W : World) (b i : Nat) (x : Value) : W.grownBy (W.setCell ⟨b, i, none⟩ x) (some b) :=
  ⟨rfl, rfl, rfl, by simp, fun k _ hk => Below.heap_setCell _ _ _ k (fun e => hk (by rw [e]))⟩
/-- a store into a block of the call's own -/
theorem CurAt.put {w X : World} {B b : Nat} {v : Value} {c c' : Cu} (h : CurAt w B v c) (hws : c'.ws = c.ws) (hb : w.heap.size ≤ b) (hX : CurAt X B v c' ∧ w.grownBy X (some B)) (i : Nat) (x : Value) :
    CurAt (X.setCell ⟨b, i, none⟩ x) B v c' ∧ w.grownBy (X.setCell ⟨b, i, none⟩ x) (some B) := by
  have hlt := h.lt
  obtain ⟨hX, hg⟩ := hX
  refine ⟨hX.kept (grownBy_set X b i x) (by omega) (fun h0 g o n cap hv e => ?_), ⟨hg.os, hg.tape, hg.output, by rw [show (X.setCell ⟨b, i, none⟩ x).heap.size = X.heap.size by simp]; exact hg.size, fun k hk hne => ?_⟩⟩
  · obtain ⟨a, cap', h1, _, h2⟩ := h.row
    rcases h2 with h2 | ⟨g', o', h3, h4, _, _⟩
    · rw [hws] at h0; exact h0 h2
    · rw [h1, h3] at hv
      injection hv with hv
      injection hv with hv
      injection hv with hv
      omega
  · exact ((grownBy_set X b i x).block k (Nat.lt_of_lt_of_le hk hg.size) (fun e => by injection e; omega)).trans (hg.block k hk hne)
/-- all cells of a cursor, for the walk -/
theorem CurAt.all {w : World} {B : Nat} {v : Value} {c : Cu} (h : CurAt w B v c) :
    (w.cell? ⟨B, 0, none⟩ = some v ∧ w.cell? ⟨B, 1, none⟩ = some (.int .i64 0) ∧ w.cell? ⟨B, 2, none⟩ = some (.int .i64 c.ep) ∧ w.cell? ⟨B, 3, none⟩ = some (.int .i64 0) ∧ w.cell? ⟨B, 4, none⟩ = some (.string ⟨#[]⟩) ∧
      w.cell? ⟨B, 5, none⟩ = some (.int .i64 (c.at' : Int)) ∧ w.cell? ⟨B, 6, none⟩ = some (.int .i64 (c.nest : Int)) ∧ w.cell? ⟨B, 7, none⟩ = some (.int .i64 c.pos) ∧ w.cell? ⟨B, 8, none⟩ = some (.int .i64 c.err)) ∧
    w.frozen? ⟨B, 5, none⟩ = false ∧ w.frozen? ⟨B, 6, none⟩ = false ∧ w.frozen? ⟨B, 7, none⟩ = false ∧ w.frozen? ⟨B, 8, none⟩ = false := by
  have hc := h.cells
  refine ⟨⟨?_, ?_, ?_, ?_, ?_, ?_, ?_, ?_, ?_⟩, ?_, ?_, ?_, ?_⟩ <;> simp [World.cell?, World.frozen?, hc]
theorem below_one {w w3 : World} {x0 x1 x2 x3 : Value} {ty : TypeId} (hB : Below (w.alloc (.cells #[x0, x1, x2, x3] ty)).heap.size (w.alloc (.cells #[x0, x1, x2, x3] ty)) w3) :
    w3.cell? ⟨w.heap.size, 0, none⟩ = some x0 ∧ w3.cell? ⟨w.heap.size, 1, none⟩ = some x1 ∧ w3.cell? ⟨w.heap.size, 2, none⟩ = some x2 ∧ w3.cell? ⟨w.heap.size, 3, none⟩ = some x3 ∧
    w3.frozen? ⟨w.heap.size, 0, none⟩ = false ∧ w3.frozen? ⟨w.heap.size, 1, none⟩ = false ∧ w3.frozen? ⟨w.heap.size, 2, none⟩ = false ∧ w3.frozen? ⟨w.heap.size, 3, none⟩ = false := by
  have l0 : w.heap.size < (w.alloc (.cells #[x0, x1, x2, x3] ty)).heap.size := by simp
  have cx : ∀ j, w3.cell? ⟨w.heap.size, j, none⟩ = (#[x0, x1, x2, x3] : Array Value)[j]? := fun j => by
    rw [hB.cell (p := ⟨w.heap.size, j, none⟩) l0, World.cell?_alloc_at _ _ _ _ rfl]
  have fx : ∀ j, w3.frozen? ⟨w.heap.size, j, none⟩ = false := fun j => by
    rw [hB.frozen (p := ⟨w.heap.size, j, none⟩) l0, World.frozen?_alloc_at _ _ _ _ rfl]
  exact ⟨cx 0, cx 1, cx 2, cx 3, fx 0, fx 1, fx 2, fx 3⟩
end Go.Proofs.Ytemgocegnlehoaa.N5
namespace Go.Proofs.Ytemgocegnlehoaa.N5
open Go.RowKit

theorem fld0 (a b c : Int) (d : ByteArray) (w : World) : (Instr.field 47 (.agg #[.int .i64 a, .int .i64 b, .int .i64 c, .string d]) 0).run Try.prog w = .ok (.int .i64 a) w := by kernel_rfl
theorem fld1 (a b c : Int) (d : ByteArray) (w : World) : (Instr.field 47 (.agg #[.int .i64 a, .int .i64 b, .int .i64 c, .string d]) 1).run Try.prog w = .ok (.int .i64 b) w := by kernel_rfl
set_option maxRecDepth 100000 in
set_option maxHeartbeats 1600000 in
theorem failed_none (w : World) : Calls Try.prog 87 #[.pointer none] w fun e w' => e = .returned (.bool true) ∧ w = w' := by
  go_enter Try.func87, Try.ntmps87
  go_wp2
  go_ret
  exact ⟨rfl, rfl⟩
set_option maxRecDepth 100000 in
set_option maxHeartbeats 1600000 in
theorem failed_any {w : World} {B : Nat} {v : Value} {c : Cu} (h : CurAt w B v c) : Calls Try.prog 87 #[.pointer (some ⟨B, 0, none⟩)] w fun e w' => e = .returned (.bool (c.err != 0)) ∧ w = w' := by
  obtain ⟨⟨c0, c1, c2, c3, c4, c5, c6, c7, c8⟩, _⟩ := h.all
  go_enter Try.func87, Try.ntmps87
  go_wp2
  go_ret
  exact ⟨rfl, rfl⟩
/-- the cells of the word at a place -/
theorem tok_cells {w : World} {B : Nat} {v : Value} {c : Cu} (h : CurAt w B v c) (hk : c.at' < c.ws.length) : ∃ g o cap, v = .slice (some ⟨g, o, none⟩) c.ws.length cap ∧ g < w.heap.size ∧ TkAt w g o c.at' (c.tok c.at') := by
  obtain ⟨a, cap, rfl, _, hr⟩ := h.row
  rcases hr with h0 | ⟨g, o, rfl, hg, _, hc⟩
  · rw [h0] at hk; simp at hk
  · refine ⟨g, o, cap, rfl, hg, ?_⟩
    have := hc c.at' hk
    unfold Cu.tok
    rw [List.getD_eq_getElem?_getD, List.getElem?_eq_getElem hk]; exact this
theorem tok_end {c : Cu} (h : c.ws.length ≤ c.at') : c.tok c.at' = ⟨0, c.ep, 0, []⟩ := by
  unfold Cu.tok
  rw [List.getD_eq_getElem?_getD, List.getElem?_eq_none h]; rfl
abbrev zeroC : Obj := .cells #[.int .i64 0, .int .i64 0, .int .i64 0, .string ⟨#[]⟩] 47
set_option maxRecDepth 100000 in
set_option maxHeartbeats 1600000 in
theorem word_any {w : World} {B : Nat} {v : Value} {c : Cu} (h : CurAt w B v c) : Calls Try.prog 50 #[.pointer (some ⟨B, 0, none⟩), .int .i64 (c.at' : Int)] w fun e w' => e = .returned (c.tok c.at').val ∧ Below w.heap.size w w' := by
  have hlt := h.lt
  have hle := h.le
  have hBa := (Below.refl _ w).alloc (Nat.le_refl _) zeroC
  have hal := h.below hBa
  obtain ⟨⟨c0, c1, c2, c3, c4, -, -, -, -⟩, -⟩ := hal.all
  by_cases hkl : c.ws.length ≤ c.at'
  · obtain ⟨a, cap, rfl, -, -⟩ := h.row
    have ht := tok_end hkl
    clear hal
    go_enter Try.func50, Try.ntmps50
    go_wp2
    refine bodyPost_ret (v := .agg #[.int .i64 0, .int .i64 c.ep, .int .i64 0, .string ⟨#[]⟩]) (by simp [results, Try.results50, go_sem]) rfl ⟨by rw [ht]; rfl, ?_⟩
    exact (Below.refl _ w).alloc (Nat.le_refl _) _
  · have hkl' : c.at' < c.ws.length := by omega
    obtain ⟨g, o, cap, rfl, hg, t0⟩ := tok_cells h hkl'
    obtain ⟨t0, t1, t2, t3⟩ := t0.kept (grownBy_below hBa none) (by simp)
    have hv : Hid ((c.tok c.at').val = .agg #[.int .i64 (c.tok c.at').kind, .int .i64 (c.tok c.at').pos, .int .i64 (c.tok c.at').num, .string ⟨(c.tok c.at').text.toArray⟩]) := by show _ = _; rfl
    generalize c.tok c.at' = tk at *
    clear hal c1 c2 c3 c4
    go_enter Try.func50, Try.ntmps50
    go_wp2
    refine bodyPost_ret (v := .agg #[.int .i64 tk.kind, .int .i64 tk.pos, .int .i64 tk.num, .string ⟨tk.text.toArray⟩]) (by simp [results, Try.results50, go_sem]) rfl ⟨by rw [hv.out], ?_⟩
    exact (Below.refl _ w).alloc (Nat.le_refl _) _
def Cu.peek (c : Cu) : Tk := if c.err = 0 then c.tok c.at' else zeroT
set_option maxRecDepth 100000 in
set_option maxHeartbeats 1600000 in
theorem peek_any {w : World} {B : Nat} {v : Value} {c : Cu} (h : CurAt w B v c) : Calls Try.prog 72 #[.pointer (some ⟨B, 0, none⟩)] w fun e w' => e = .returned c.peek.val ∧ Below w.heap.size w w' := by
  have hlt := h.lt
  have hBa := (Below.refl _ w).alloc (Nat.le_refl _) zeroC
  have hal := h.below hBa
  obtain ⟨⟨-, -, -, -, -, c5, -, -, -⟩, -⟩ := hal.all
  have HF := failed_any hal
  have HW := word_any hal
  have hpv : Hid (c.peek.val = if c.err = 0 then (c.tok c.at').val else zeroT.val) := by show _ = _; unfold Cu.peek; split <;> rfl
  have htv : Hid ((c.tok c.at').val = .agg #[.int .i64 (c.tok c.at').kind, .int .i64 (c.tok c.at').pos, .int .i64 (c.tok c.at').num, .string ⟨(c.tok c.at').text.toArray⟩]) := rfl
  rw [htv.out] at HW hpv
  generalize c.tok c.at' = tk at *
  clear hal htv
  go_enter Try.func72, Try.ntmps72
  by_cases he : c.err = 0
  · have hb : (c.err != 0) = false := by rw [he]; rfl
    rw [hb] at HF
    go_wp2_with fail
    refine HF.mono ?_; rintro e w1 ⟨rfl, rfl⟩
    go_wp2_with fail
    refine HW.mono ?_; rintro e w2 ⟨rfl, hB2⟩
    have hB := hBa.trans (hB2.mono hBa.size)
    obtain ⟨d0, d1, d2, d3, f0, f1, f2, f3⟩ := below_one hB2
    go_wp2_with fail
    refine bodyPost_ret (v := .agg #[.int .i64 tk.kind, .int .i64 tk.pos, .int .i64 tk.num, .string ⟨tk.text.toArray⟩]) (by simp [results, Try.results72, go_sem, d0, d1, d2, d3]) rfl ⟨by rw [hpv.out, if_pos he], ?_⟩
    repeat refine Below.setCell ?_ (by simp) _
    exact hB
  · have hb : (c.err != 0) = true := by rw [bne_iff_ne]; exact he
    rw [hb] at HF
    go_wp2_with fail
    refine HF.mono ?_; rintro e w1 ⟨rfl, rfl⟩
    go_wp2_with fail
    refine bodyPost_ret (v := zeroT.val) (by simp [results, Try.results72, go_sem, zeroT, Tk.val]) rfl ⟨by rw [hpv.out, if_neg he], ?_⟩
    exact (Below.refl _ w).alloc (Nat.le_refl _) _
end Go.Proofs.Ytemgocegnlehoaa.N5
namespace Go.Proofs.Ytemgocegnlehoaa.N5
open Go.RowKit

/-- a row of texts lies at a block -/
def TxAt (w : World) (g : Nat) (ss : List (List UInt8)) : Prop := ∀ j (hj : j < ss.length), w.cell? ⟨g, j, none⟩ = some (.string ⟨ss[j].toArray⟩)
theorem text_eq (x y : List UInt8) : ((⟨x.toArray⟩ : ByteArray).toList == (⟨y.toArray⟩ : ByteArray).toList) = decide (x = y) := by
  rw [Lib.toList_data, Lib.toList_data]
  by_cases h : x = y
  · subst h; simp
  · simp [h]
def hasT (ss : List (List UInt8)) (x : List UInt8) : Bool := ss.contains x
def IdxIs (b : Bool) (w : World) (e : Ending) (w' : World) : Prop := ∃ i : Int, e = .returned (.int .i64 i) ∧ decide (0 ≤ i) = b ∧ w = w'
set_option maxRecDepth 100000 in
set_option maxHeartbeats 1600000 in
theorem index_any (g c n : Nat) (ss : List (List UInt8)) (x : List UInt8) (w : World) (hn : n = ss.length) (hn9 : n ≤ 4000) (h1 : TxAt w g ss) :
    Calls Try.prog 101 #[.slice (some ⟨g, 0, none⟩) n c, .string ⟨x.toArray⟩] w (IdxIs (hasT ss x) w) := by
  have HN : Hid (n = ss.length) := hn
  have H1 : Hid (TxAt w g ss) := h1
  clear hn h1
  go_enter Try.func101, Try.ntmps101
  go_wp2_with fail
  go_loop [8] (fun i => ∃ k : Nat, k ≤ n ∧ i = .int .i64 (k : Int) ∧ Hid (∀ j (hj : j < ss.length), j < k → ss[j] ≠ x)) (fun i => n - (intOf i).toNat)
  case atStart => exact ⟨0, Nat.zero_le _, rfl, fun j _ h => absurd h (Nat.not_lt_zero _)⟩
  case round =>
    obtain ⟨k, hk, rfl, HK⟩ := hrel
    by_cases hkn : k < n
    · have hkn' : (k : Int) < n := by omega
      have hks : k < ss.length := by rw [← HN.out]; exact hkn
      have hc := H1.out k hks
      have ht := text_eq x ss[k]
      by_cases he : x = ss[k]
      · have hm : Hid (decide (0 ≤ (k : Int)) = hasT ss x) := by
          show _ = ss.contains x
          rw [he]
          simp
        simp only [he, decide_true] at ht
        rw [← he] at ht hc
        generalize (⟨x.toArray⟩ : ByteArray) = y at *
        clear he
        go_wp2_with fail
        try rw [Exit.noGoto_ret]
        go_ret
        exact ⟨_, rfl, hm.out, rfl⟩
      · have HK2 : Hid (∀ j (hj : j < ss.length), j < k + 1 → ss[j] ≠ x) := fun j hj h => by
          rcases Nat.lt_or_ge j k with h' | h'
          · exact HK.out j hj h'
          · obtain rfl : j = k := by omega
            exact fun e => he e.symm
        simp only [he, decide_false] at ht
        generalize (⟨x.toArray⟩ : ByteArray) = y at *
        generalize (⟨ss[k].toArray⟩ : ByteArray) = z at *
        clear he
        go_wp2_with fail
        go_round
        case rel => exact ⟨k + 1, by omega, by go_num, HK2⟩
        case measure => simp [intOf]; omega
    · obtain rfl : k = n := by omega
      have hm : Hid (decide (0 ≤ (-1 : Int)) = hasT ss x) := by
        show _ = ss.contains x
        symm
        rw [show decide (0 ≤ (-1 : Int)) = false from rfl, ← Bool.not_eq_true, List.contains_iff_mem]
        intro h
        obtain ⟨j, hj, he⟩ := List.mem_iff_getElem.1 h
        exact HK.out j hj (by rw [HN.out]; exact hj) he
      go_wp2_with fail
      try rw [Exit.noGoto_ret]
      go_ret
      exact ⟨_, rfl, hm.out, rfl⟩
set_option maxRecDepth 100000 in
set_option maxHeartbeats 1600000 in
theorem contains_of (v : Value) (y : ByteArray) (b : Bool) (w : World) (HI : Calls Try.prog 101 #[v, .string y] w (IdxIs b w)) :
    Calls Try.prog 99 #[v, .string y] w fun e w' => e = .returned (.bool b) ∧ w = w' := by
  go_enter Try.func99, Try.ntmps99
  go_wp2_with fail
  refine HI.mono ?_; rintro e w1 ⟨i, rfl, hb, rfl⟩
  go_wp2
  go_ret
  exact ⟨by rw [← hb]; rfl, rfl⟩
theorem contains_any (g c n : Nat) (ss : List (List UInt8)) (x : List UInt8) (w : World) (hn : n = ss.length) (hn9 : n ≤ 4000) (h1 : TxAt w g ss) :
    Calls Try.prog 99 #[.slice (some ⟨g, 0, none⟩) n c, .string ⟨x.toArray⟩] w fun e w' => e = .returned (.bool (hasT ss x)) ∧ w = w' :=
  contains_of _ _ _ w (index_any g c n ss x w hn hn9 h1)
/-- is a word a reserved word or a mark, and one of these? -/
def isOne (t : Tk) (ss : List (List UInt8)) : Bool := (decide (t.kind = 4) || decide (t.kind = 5)) && hasT ss t.text
set_option maxRecDepth 100000 in
set_option maxHeartbeats 1600000 in
theorem isOneOf_any (t : Tk) (g c n : Nat) (ss : List (List UInt8)) (w : World) (hn : n = ss.length) (hn9 : n ≤ 4000) (hg : g < w.heap.size) (h1 : TxAt w g ss) :
    Calls Try.prog 95 #[t.val, .slice (some ⟨g, 0, none⟩) n c] w (RunsTo (isOne t ss) w) := by
  have hB : Below w.heap.size w (w.alloc (.cells #[.int .i64 t.kind, .int .i64 t.pos, .int .i64 t.num, .string ⟨t.text.toArray⟩] 47)) := (Below.refl _ w).alloc (Nat.le_refl _) _
  have HC := contains_any g c n ss t.text _ hn hn9 (fun j hj => (hB.cell (p := ⟨g, j, none⟩) hg).trans (h1 j hj))
  have hv : t.val = .agg #[.int .i64 t.kind, .int .i64 t.pos, .int .i64 t.num, .string ⟨t.text.toArray⟩] := rfl
  have HO : Hid (isOne t ss = ((decide (t.kind = 4) || decide (t.kind = 5)) && hasT ss t.text)) := rfl
  rw [hv]
  generalize hasT ss t.text = b at *
  generalize (⟨t.text.toArray⟩ : ByteArray) = y at *
  clear hv h1 hn
  go_enter Try.func95, Try.ntmps95
  have hcase : ((t.kind == 4) = true ∧ Hid (isOne t ss = b)) ∨ ((t.kind == 4) = false ∧ (t.kind == 5) = true ∧ Hid (isOne t ss = b)) ∨ ((t.kind == 4) = false ∧ (t.kind == 5) = false ∧ Hid (isOne t ss = false)) := by
    by_cases h4 : t.kind = 4
    · exact .inl ⟨by rw [h4]; rfl, by show _ = _; rw [HO.out]; simp [h4]⟩
    · by_cases h5 : t.kind = 5
      · exact .inr (.inl ⟨by rw [beq_eq_false_iff_ne]; exact h4, by rw [h5]; rfl, by show _ = _; rw [HO.out]; simp [h5]⟩)
      · exact .inr (.inr ⟨by rw [beq_eq_false_iff_ne]; exact h4, by rw [beq_eq_false_iff_ne]; exact h5, by show _ = _; rw [HO.out]; simp [h4, h5]⟩)
  clear HO
  generalize t.kind = tk at *
  rcases hcase with ⟨q4, hR⟩ | ⟨q4, q5, hR⟩ | ⟨q4, q5, hR⟩
  · go_wp2_with fail
    refine HC.mono ?_; rintro e w1 ⟨rfl, rfl⟩
    go_wp2
    go_ret
    exact ⟨by rw [hR.out]; rfl, hB⟩
  · go_wp2_with fail
    refine HC.mono ?_; rintro e w1 ⟨rfl, rfl⟩
    go_wp2
    go_ret
    exact ⟨by rw [hR.out]; rfl, hB⟩
  · go_wp2_with fail
    go_ret
    exact ⟨by rw [hR.out]; rfl, hB⟩
end Go.Proofs.Ytemgocegnlehoaa.N5
namespace Go.Proofs.Ytemgocegnlehoaa.N5
open Go.RowKit
attribute [local go_sem] fld0 fld1

def CurTo (B : Nat) (v : Value) (c : Cu) (r : Value) (w : World) (e : Ending) (w' : World) : Prop := e = .returned r ∧ CurAt w' B v c ∧ w.grownBy w' (some B)
theorem CurTo.of_below {B : Nat} {v : Value} {c : Cu} {r : Value} {w w' : World} (h : CurAt w B v c) (hB : Below w.heap.size w w') : CurTo B v c r w (.returned r) w' := ⟨rfl, h.below hB, grownBy_below hB _⟩
def Cu.is (c : Cu) (x : List UInt8) : Bool := decide (c.err = 0) && isOne (c.tok c.at') [x]
theorem tx_one {w : World} {g : Nat} {y : ByteArray} (h : w.cell? ⟨g, 0, none⟩ = some (.string y)) : TxAt w g [y.data.toList] := fun j hj => by
  obtain rfl : j = 0 := by simpa using hj
  rw [h]; rfl
theorem cell_new1 (w : World) (v : Value) (ty : TypeId) : (w.alloc (.cells #[v] ty)).cell? ⟨w.heap.size, 0, none⟩ = some v := by
  rw [World.cell?_alloc_at _ _ _ _ rfl]; rfl
set_option maxRecDepth 100000 in
set_option maxHeartbeats 1600000 in
theorem is_any {w : World} {B : Nat} {v : Value} {c : Cu} (h : CurAt w B v c) (y : ByteArray) : Calls Try.prog 89 #[.pointer (some ⟨B, 0, none⟩), .string y] w (RunsTo (c.is y.data.toList) w) := by
  have HF := failed_any h
  have HW := word_any h
  have HI : Hid (c.is y.data.toList = (decide (c.err = 0) && isOne (c.tok c.at') [y.data.toList])) := rfl
  have HO := fun w2 : World => isOneOf_any (c.tok c.at') w2.heap.size 1 1 [y.data.toList] (w2.alloc (.cells #[.string y] 9)) rfl (by decide) (by simp) (tx_one (cell_new1 _ _ _))
  obtain ⟨⟨-, -, -, -, -, c5, -, -, -⟩, -⟩ := h.all
  generalize isOne (c.tok c.at') [y.data.toList] = b at *
  generalize (c.tok c.at').val = tv at *
  by_cases he : c.err = 0
  · have hb : (c.err != 0) = false := by rw [he]; rfl
    rw [hb] at HF
    have hR : Hid (c.is y.data.toList = b) := by show _ = _; rw [HI.out]; simp [he]
    clear HI he hb
    go_enter Try.func89, Try.ntmps89
    go_wp2_with fail
    refine HF.mono ?_; rintro e w1 ⟨rfl, rfl⟩
    go_wp2_with fail
    refine HW.mono ?_; rintro e w2 ⟨rfl, hB2⟩
    go_wp2_with fail
    refine (HO w2).mono ?_; rintro e w3 ⟨rfl, hB3⟩
    go_wp2
    go_ret
    exact ⟨by rw [hR.out]; rfl, (hB2.alloc hB2.size _).trans (hB3.mono (by have := hB2.size; simp; omega))⟩
  · have hb : (c.err != 0) = true := by rw [bne_iff_ne]; exact he
    rw [hb] at HF
    have hR : Hid (c.is y.data.toList = false) := by show _ = _; rw [HI.out]; simp [he]
    clear HI he hb
    go_enter Try.func89, Try.ntmps89
    go_wp2_with fail
    refine HF.mono ?_; rintro e w1 ⟨rfl, rfl⟩
    go_wp2
    go_ret
    exact ⟨by rw [hR.out]; rfl, Below.refl _ _⟩

def Cu.fail (c : Cu) (x : Int) : Cu := if c.err = 0 then { c with pos := (c.tok c.at').pos, err := if x = 0 then 1 else x } else c
theorem heap_set {w : World} {B i : Nat} {cs : Array Value} {ty : TypeId} (h : w.heap[B]? = some (.cells cs ty (0, 0))) (x : Value) : (w.setCell ⟨B, i, none⟩ x).heap[B]? = some (.cells (cs.setIfInBounds i x) ty (0, 0)) := by
  obtain ⟨hlt, hk⟩ := Array.getElem?_eq_some_iff.1 h
  show (w.heap.modify B _)[B]? = _
  rw [Array.getElem?_eq_getElem (by rw [Array.size_modify]; exact hlt), Array.getElem_modify_self, hk]
  rfl
/-- behind the stores of a failure -/
theorem CurAt.failed {w : World} {B : Nat} {v : Value} {c : Cu} (h : CurAt w B v c) (p x : Int) :
    CurAt ((w.setCell ⟨B, 7, none⟩ (.int .i64 p)).setCell ⟨B, 8, none⟩ (.int .i64 x)) B v { c with pos := p, err := x } ∧ w.grownBy ((w.setCell ⟨B, 7, none⟩ (.int .i64 p)).setCell ⟨B, 8, none⟩ (.int .i64 x)) (some B) := by
  have hg : w.grownBy ((w.setCell ⟨B, 7, none⟩ (.int .i64 p)).setCell ⟨B, 8, none⟩ (.int .i64 x)) (some B) := by
    refine ⟨rfl, rfl, rfl, by simp, fun k hk hne => ?_⟩
    have hkB : k ≠ B := fun e => hne (by rw [e])
    rw [Below.heap_setCell _ _ _ k hkB, Below.heap_setCell _ _ _ k hkB]
  refine ⟨⟨?_, h.row.kept hg, h.le, h.few, h.kinds, h.deep⟩, hg⟩
  exact heap_set (heap_set h.cells _) _
set_option maxRecDepth 100000 in
set_option maxHeartbeats 1600000 in
theorem fail_any {w : World} {B : Nat} {v : Value} {c : Cu} (h : CurAt w B v c) (x : Int) : Calls Try.prog 88 #[.pointer (some ⟨B, 0, none⟩), .int .i64 x] w (CurTo B v (c.fail x) (.bool false) w) := by
  have HF := failed_any h
  have HW := word_any h
  obtain ⟨⟨-, -, -, -, -, c5, -, -, -⟩, -⟩ := h.all
  by_cases he : c.err = 0
  · have hb : (c.err != 0) = false := by rw [he]; rfl
    rw [hb] at HF
    have hR : Hid (c.fail x = { c with pos := (c.tok c.at').pos, err := if x = 0 then 1 else x }) := by show _ = _; unfold Cu.fail; rw [if_pos he]
    have hv : (c.tok c.at').val = .agg #[.int .i64 (c.tok c.at').kind, .int .i64 (c.tok c.at').pos, .int .i64 (c.tok c.at').num, .string ⟨(c.tok c.at').text.toArray⟩] := rfl
    rw [hv] at HW
    generalize c.tok c.at' = t at *
    clear hv he hb
    have fin : ∀ (x' : Int), x' = (if x = 0 then 1 else x) → ∀ w2, Below w.heap.size w w2 → CurTo B v (c.fail x) (.bool false) w (.returned (.bool false)) ((w2.setCell ⟨B, 7, none⟩ (.int .i64 t.pos)).setCell ⟨B, 8, none⟩ (.int .i64 x')) := fun x' hx w2 hB2 => by
      obtain ⟨k1, k2⟩ := (h.below hB2).failed t.pos x'
      refine ⟨rfl, ?_, grownBy_trans (grownBy_below hB2 _) k2⟩
      rw [hR.out, ← hx]; exact k1
    by_cases hx : x = 0
    · have hxb : (x == 0) = true := by rw [hx]; rfl
      have fin := fin 1 (by rw [if_pos hx])
      clear hR hx
      go_enter Try.func88, Try.ntmps88
      go_wp2_with fail
      refine HF.mono ?_; rintro e w1 ⟨rfl, rfl⟩
      go_wp2_with fail
      refine HW.mono ?_; rintro e w2 ⟨rfl, hB2⟩
      obtain ⟨⟨-, -, -, -, -, -, -, d7, d8⟩, -, -, f7, f8⟩ := (h.below hB2).all
      go_wp2
      go_ret
      exact fin w2 hB2
    · have hxb : (x == 0) = false := by rw [beq_eq_false_iff_ne]; exact hx
      have fin := fin x (by rw [if_neg hx])
      clear hR hx
      go_enter Try.func88, Try.ntmps88
      go_wp2_with fail
      refine HF.mono ?_; rintro e w1 ⟨rfl, rfl⟩
      go_wp2_with fail
      refine HW.mono ?_; rintro e w2 ⟨rfl, hB2⟩
      obtain ⟨⟨-, -, -, -, -, -, -, d7, d8⟩, -, -, f7, f8⟩ := (h.below hB2).all
      go_wp2
      go_ret
      exact fin w2 hB2
  · have hb : (c.err != 0) = true := by rw [bne_iff_ne]; exact he
    rw [hb] at HF
    have hR : Hid (c.fail x = c) := by show _ = _; unfold Cu.fail; rw [if_neg he]
    clear he hb
    go_enter Try.func88, Try.ntmps88
    go_wp2_with fail
    refine HF.mono ?_; rintro e w1 ⟨rfl, rfl⟩
    go_wp2
    go_ret
    rw [hR.out]
    exact CurTo.of_below h (Below.refl _ _)
end Go.Proofs.Ytemgocegnlehoaa.N5
namespace Go.Proofs.Ytemgocegnlehoaa.N5
open Go.RowKit
attribute [local go_sem] fld0 fld1

def Cu.adv (c : Cu) : Cu := if c.err = 0 ∧ c.at' < c.ws.length then { c with at' := c.at' + 1 } else c
theorem peek_kind {w : World} {B : Nat} {v : Value} {c : Cu} (h : CurAt w B v c) : (c.peek.kind ≠ 0 ↔ c.err = 0 ∧ c.at' < c.ws.length) := by
  unfold Cu.peek
  by_cases he : c.err = 0
  · rw [if_pos he]
    by_cases hl : c.at' < c.ws.length
    · have : c.tok c.at' = c.ws[c.at'] := by unfold Cu.tok; rw [List.getD_eq_getElem?_getD, List.getElem?_eq_getElem hl]; rfl
      rw [this]
      exact ⟨fun _ => ⟨he, hl⟩, fun _ => h.kinds _ (List.getElem_mem hl)⟩
    · rw [tok_end (by omega)]
      exact ⟨fun q => absurd rfl q, fun q => absurd q.2 hl⟩
  · rw [if_neg he]
    exact ⟨fun q => absurd rfl q, fun q => absurd q.1 he⟩
/-- behind the store of the place -/
theorem CurAt.moved {w : World} {B : Nat} {v : Value} {c : Cu} (h : CurAt w B v c) (hl : c.at' < c.ws.length) :
    CurAt (w.setCell ⟨B, 5, none⟩ (.int .i64 ((c.at' : Int) + 1))) B v { c with at' := c.at' + 1 } ∧ w.grownBy (w.setCell ⟨B, 5, none⟩ (.int .i64 ((c.at' : Int) + 1))) (some B) := by
  have hg : w.grownBy (w.setCell ⟨B, 5, none⟩ (.int .i64 ((c.at' : Int) + 1))) (some B) := by
    refine ⟨rfl, rfl, rfl, by simp, fun k hk hne => ?_⟩
    rw [Below.heap_setCell _ _ _ k (fun e => hne (by rw [e]))]
  exact ⟨⟨heap_set h.cells _, h.row.kept hg, hl, h.few, h.kinds, h.deep⟩, hg⟩
theorem CurAt.deeper {w : World} {B : Nat} {v : Value} {c : Cu} (h : CurAt w B v c) (x : Int) (n : Nat) (hx : x = n) (hn : n ≤ 200) :
    CurAt (w.setCell ⟨B, 6, none⟩ (.int .i64 x)) B v { c with nest := n } ∧ w.grownBy (w.setCell ⟨B, 6, none⟩ (.int .i64 x)) (some B) := by
  have hg : w.grownBy (w.setCell ⟨B, 6, none⟩ (.int .i64 x)) (some B) := by
    refine ⟨rfl, rfl, rfl, by simp, fun k hk hne => ?_⟩
    rw [Below.heap_setCell _ _ _ k (fun e => hne (by rw [e]))]
  subst hx
  exact ⟨⟨heap_set h.cells _, h.row.kept hg, h.le, h.few, h.kinds, hn⟩, hg⟩
/-- stores into a block that is no cursor's -/
theorem CurAt.beside {w : World} {B : Nat} {v : Value} {c : Cu} (h : CurAt w B v c) {n : Nat} (hn : n = w.heap.size) {w' : World} (hB : Below n w w') : CurAt w' B v c := by
  subst hn; exact h.below hB

set_option maxRecDepth 100000 in
set_option maxHeartbeats 1600000 in
theorem next_any {w : World} {B : Nat} {v : Value} {c : Cu} (h : CurAt w B v c) : Calls Try.prog 74 #[.pointer (some ⟨B, 0, none⟩)] w (CurTo B v c.adv c.peek.val w) := by
  have hlt := h.lt
  have hBa := (Below.refl _ w).alloc (Nat.le_refl _) zeroC
  have hal := h.below hBa
  have HP := peek_any hal
  have hk := peek_kind h
  have hle := h.few
  have hv : Hid (c.peek.val = .agg #[.int .i64 c.peek.kind, .int .i64 c.peek.pos, .int .i64 c.peek.num, .string ⟨c.peek.text.toArray⟩]) := rfl
  rw [hv.out] at HP
  by_cases hkind : c.peek.kind = 0
  · have hadv : Hid (c.adv = c) := by show _ = _; unfold Cu.adv; rw [if_neg (fun q => (hk.2 q) hkind)]
    have hb : (c.peek.kind != 0) = false := by rw [hkind]; rfl
    clear hk hkind
    generalize c.peek = t at *
    go_enter Try.func74, Try.ntmps74
    go_wp2_with fail
    refine HP.mono ?_; rintro e w2 ⟨rfl, hB2⟩
    have hBt := hB2.alloc hB2.size (.cells #[.int .i64 t.kind, .int .i64 t.pos, .int .i64 t.num, .string ⟨t.text.toArray⟩] 47)
    obtain ⟨d0, d1, d2, d3, f0, f1, f2, f3⟩ := below_one hBt
    go_wp2_with fail
    refine bodyPost_ret (v := .agg #[.int .i64 t.kind, .int .i64 t.pos, .int .i64 t.num, .string ⟨t.text.toArray⟩]) (by simp [results, Try.results74, go_sem, d0, d1, d2, d3]) rfl ?_
    rw [hadv.out, hv.out]
    refine CurTo.of_below h ?_
    repeat refine Below.setCell ?_ (by simp) _
    exact hBa.trans (hBt.mono hBa.size)
  · have hp := hk.1 hkind
    have hadv : Hid (c.adv = { c with at' := c.at' + 1 }) := by show _ = _; unfold Cu.adv; rw [if_pos hp]
    have hb : (c.peek.kind != 0) = true := by rw [bne_iff_ne]; exact hkind
    have hl := hp.2
    clear hk hkind hp
    generalize c.peek = t at *
    go_enter Try.func74, Try.ntmps74
    go_wp2_with fail
    refine HP.mono ?_; rintro e w2 ⟨rfl, hB2⟩
    have hBt := hB2.alloc hB2.size (.cells #[.int .i64 t.kind, .int .i64 t.pos, .int .i64 t.num, .string ⟨t.text.toArray⟩] 47)
    obtain ⟨d0, d1, d2, d3, f0, f1, f2, f3⟩ := below_one hBt
    have hcur := hal.below hBt
    obtain ⟨⟨-, -, -, -, -, c5, -, -, -⟩, g5, -, -, -⟩ := hcur.all
    obtain ⟨k1, k2⟩ := hcur.moved hl
    go_wp2_with fail
    refine bodyPost_ret (v := .agg #[.int .i64 t.kind, .int .i64 t.pos, .int .i64 t.num, .string ⟨t.text.toArray⟩]) (by simp [results, Try.results74, go_sem, d0, d1, d2, d3]) rfl ?_
    rw [hadv.out, hv.out]
    refine ⟨rfl, ?_⟩
    repeat refine CurAt.put h (by rfl) (Nat.le_refl _) ?_ _ _
    exact ⟨k1, grownBy_trans (grownBy_below (hBa.trans (hBt.mono hBa.size)) _) k2⟩

def Cu.take (c : Cu) (x : List UInt8) : Cu := if c.is x = true then { c with at' := c.at' + 1 } else c
theorem is_kind {c : Cu} {x : List UInt8} (h : c.is x = true) : c.err = 0 ∧ c.at' < c.ws.length := by
  unfold Cu.is isOne at h
  simp only [Bool.and_eq_true, decide_eq_true_eq, Bool.or_eq_true] at h
  refine ⟨h.1, ?_⟩
  rcases Nat.lt_or_ge c.at' c.ws.length with hl | hl
  · exact hl
  · have := h.2.1
    rw [tok_end hl] at this
    simp at this
set_option maxRecDepth 100000 in
set_option maxHeartbeats 1600000 in
theorem take_any {w : World} {B : Nat} {v : Value} {c : Cu} (h : CurAt w B v c) (y : ByteArray) : Calls Try.prog 100 #[.pointer (some ⟨B, 0, none⟩), .string y] w (CurTo B v (c.take y.data.toList) (.bool (c.is y.data.toList)) w) := by
  have HI := is_any h y
  have hle := h.few
  cases hi : c.is y.data.toList with
  | false =>
    have hR : Hid (c.take y.data.toList = c) := by show _ = _; unfold Cu.take; rw [hi]; rfl
    rw [hi] at HI
    clear hi
    go_enter Try.func100, Try.ntmps100
    go_wp2_with fail
    refine HI.mono ?_; rintro e w1 ⟨rfl, hB⟩
    go_wp2
    go_ret
    rw [hR.out]
    exact CurTo.of_below h hB
  | true =>
    have hR : Hid (c.take y.data.toList = { c with at' := c.at' + 1 }) := by show _ = _; unfold Cu.take; rw [hi]; rfl
    have hl := (is_kind hi).2
    rw [hi] at HI
    clear hi
    go_enter Try.func100, Try.ntmps100
    go_wp2_with fail
    refine HI.mono ?_; rintro e w1 ⟨rfl, hB⟩
    have hcur := h.below hB
    obtain ⟨⟨-, -, -, -, -, c5, -, -, -⟩, g5, -, -, -⟩ := hcur.all
    obtain ⟨k1, k2⟩ := hcur.moved hl
    go_wp2
    go_ret
    rw [hR.out]
    exact ⟨rfl, k1, grownBy_trans (grownBy_below hB _) k2⟩

def Cu.want (c : Cu) (x : List UInt8) : Cu := if c.is x = true then c.take x else c.fail 5
set_option maxRecDepth 100000 in
set_option maxHeartbeats 1600000 in
theorem want_any {w : World} {B : Nat} {v : Value} {c : Cu} (h : CurAt w B v c) (y : ByteArray) : Calls Try.prog 97 #[.pointer (some ⟨B, 0, none⟩), .string y] w (CurTo B v (c.want y.data.toList) (.bool (c.is y.data.toList)) w) := by
  have HT := take_any h y
  cases hi : c.is y.data.toList with
  | false =>
    have hR : Hid (c.want y.data.toList = c.fail 5) := by show _ = _; unfold Cu.want; rw [hi]; rfl
    have hT : c.take y.data.toList = c := by unfold Cu.take; rw [hi]; rfl
    rw [hi, hT] at HT
    clear hi hT
    go_enter Try.func97, Try.ntmps97
    go_wp2_with fail
    refine HT.mono ?_; rintro e w1 ⟨rfl, hc, hg⟩
    go_wp2_with fail
    refine (fail_any hc 5).mono ?_; rintro e w2 ⟨rfl, hc2, hg2⟩
    go_wp2
    go_ret
    rw [hR.out]
    exact ⟨rfl, hc2, grownBy_trans hg hg2⟩
  | true =>
    have hR : Hid (c.want y.data.toList = c.take y.data.toList) := by show _ = _; unfold Cu.want; rw [hi]; rfl
    rw [hi] at HT
    clear hi
    go_enter Try.func97, Try.ntmps97
    go_wp2_with fail
    refine HT.mono ?_; rintro e w1 ⟨rfl, hc, hg⟩
    go_wp2
    go_ret
    rw [hR.out]
    exact ⟨rfl, hc, hg⟩

def Cu.enter (c : Cu) : Cu := if c.err = 0 then (if 200 ≤ c.nest then c.fail 2 else { c with nest := c.nest + 1 }) else c
def Cu.enters (c : Cu) : Bool := decide (c.err = 0) && decide (c.nest < 200)
set_option maxRecDepth 100000 in
set_option maxHeartbeats 1600000 in
theorem enter_any {w : World} {B : Nat} {v : Value} {c : Cu} (h : CurAt w B v c) : Calls Try.prog 70 #[.pointer (some ⟨B, 0, none⟩)] w (CurTo B v c.enter (.bool c.enters) w) := by
  have HF := failed_any h
  obtain ⟨⟨-, -, -, -, -, -, c6, -, -⟩, -, f6, -, -⟩ := h.all
  by_cases he : c.err = 0
  · have hb : (c.err != 0) = false := by rw [he]; rfl
    rw [hb] at HF
    by_cases hn : 200 ≤ c.nest
    · have hR : Hid (c.enter = c.fail 2) := by show _ = _; unfold Cu.enter; rw [if_pos he, if_pos hn]
      have hE : Hid (c.enters = false) := by show _ = _; unfold Cu.enters; simp; omega
      have hd : decide ((200 : Int) ≤ c.nest) = true := by simp; omega
      have hFl := fail_any h 2
      clear he hb hn
      go_enter Try.func70, Try.ntmps70
      go_wp2_with fail
      refine HF.mono ?_; rintro e w1 ⟨rfl, rfl⟩
      go_wp2_with fail
      refine hFl.mono ?_; rintro e w2 ⟨rfl, hc2, hg2⟩
      go_wp2
      go_ret
      rw [hR.out, hE.out]
      exact ⟨rfl, hc2, hg2⟩
    · have hR : Hid (c.enter = { c with nest := c.nest + 1 }) := by show _ = _; unfold Cu.enter; rw [if_pos he, if_neg hn]
      have hE : Hid (c.enters = true) := by show _ = _; unfold Cu.enters; simp [he]; omega
      have hd : decide ((200 : Int) ≤ c.nest) = false := by simp; omega
      have hn' : c.nest < 200 := by omega
      obtain ⟨k1, k2⟩ := h.deeper ((c.nest : Int) + 1) (c.nest + 1) (by omega) (by omega)
      clear he hb hn
      go_enter Try.func70, Try.ntmps70
      go_wp2_with fail
      refine HF.mono ?_; rintro e w1 ⟨rfl, rfl⟩
      go_wp2_with fail
      go_ret
      rw [hR.out, hE.out]
      exact ⟨rfl, k1, k2⟩
  · have hb : (c.err != 0) = true := by rw [bne_iff_ne]; exact he
    rw [hb] at HF
    have hR : Hid (c.enter = c) := by show _ = _; unfold Cu.enter; rw [if_neg he]
    have hE : Hid (c.enters = false) := by show _ = _; unfold Cu.enters; simp [he]
    clear he hb
    go_enter Try.func70, Try.ntmps70
    go_wp2_with fail
    refine HF.mono ?_; rintro e w1 ⟨rfl, rfl⟩
    go_wp2
    go_ret
    rw [hR.out, hE.out]
    exact CurTo.of_below h (Below.refl _ _)

def Cu.leave (c : Cu) : Cu := if c.err = 0 then { c with nest := c.nest - 1 } else c
def CurLeft (B : Nat) (v : Value) (c : Cu) (w : World) (e : Ending) (w' : World) : Prop := (∃ r, e = .returned r) ∧ CurAt w' B v c ∧ w.grownBy w' (some B)
set_option maxRecDepth 100000 in
set_option maxHeartbeats 1600000 in
theorem leave_any {w : World} {B : Nat} {v : Value} {c : Cu} (h : CurAt w B v c) : Calls Try.prog 71 #[.pointer (some ⟨B, 0, none⟩)] w (CurLeft B v c.leave w) := by
  have HF := failed_any h
  obtain ⟨⟨-, -, -, -, -, -, c6, -, -⟩, -, f6, -, -⟩ := h.all
  by_cases he : c.err = 0
  · have hb : (c.err != 0) = false := by rw [he]; rfl
    rw [hb] at HF
    have hR : Hid (c.leave = { c with nest := c.nest - 1 }) := by show _ = _; unfold Cu.leave; rw [if_pos he]
    by_cases hn : 0 < c.nest
    · have hd : decide ((0 : Int) < c.nest) = true := by simp; omega
      obtain ⟨k1, k2⟩ := h.deeper ((c.nest : Int) - 1) (c.nest - 1) (by omega) (by have := h.deep; omega)
      clear he hb
      have hn9 := h.deep
      go_enter Try.func71, Try.ntmps71
      go_wp2_with fail
      refine HF.mono ?_; rintro e w1 ⟨rfl, rfl⟩
      go_wp2_with fail
      go_end0
      rw [hR.out]
      exact ⟨⟨_, rfl⟩, k1, k2⟩
    · have hn0 : c.nest = 0 := by omega
      have hd : decide (0 < c.nest) = false := by simp; omega
      have hR2 : Hid (c.leave = c) := by
        show _ = _
        rw [hR.out, hn0]
        show ({ c with nest := 0 } : Cu) = c
        rw [← hn0]
      clear he hb hn hn0
      go_enter Try.func71, Try.ntmps71
      go_wp2_with fail
      refine HF.mono ?_; rintro e w1 ⟨rfl, rfl⟩
      go_wp2_with fail
      go_end0
      rw [hR2.out]
      exact ⟨⟨_, rfl⟩, h, grownBy_below (Below.refl _ _) _⟩
  · have hb : (c.err != 0) = true := by rw [bne_iff_ne]; exact he
    rw [hb] at HF
    have hR : Hid (c.leave = c) := by show _ = _; unfold Cu.leave; rw [if_neg he]
    clear he hb
    go_enter Try.func71, Try.ntmps71
    go_wp2_with fail
    refine HF.mono ?_; rintro e w1 ⟨rfl, rfl⟩
    go_wp2
    go_end0
    rw [hR.out]
    exact ⟨⟨_, rfl⟩, h, grownBy_below (Below.refl _ _) _⟩
end Go.Proofs.Ytemgocegnlehoaa.N5
namespace Go.Proofs.Ytemgocegnlehoaa.N5
open Go.RowKit
attribute [local go_sem] fld0 fld1

def Cu.kind (c : Cu) (k : Int) : Cu := if c.err = 0 then (if (c.tok c.at').kind = k then c.adv else c.fail 5) else c
def Cu.kindT (c : Cu) (k : Int) : Tk := if c.err = 0 ∧ (c.tok c.at').kind = k then c.tok c.at' else zeroT
def Cu.kindOk (c : Cu) (k : Int) : Bool := decide (c.err = 0) && decide ((c.tok c.at').kind = k)
theorem zero_val : zeroT.val = .agg #[.int .i64 0, .int .i64 0, .int .i64 0, .string ⟨#[]⟩] := rfl
theorem CurAt.put0 {w X : World} {B b : Nat} {v : Value} {c c' : Cu} (h : CurAt w B v c) (hws : c'.ws = c.ws) (hb : w.heap.size ≤ b) (hX : CurAt X B v c' ∧ w.grownBy X (some B)) (i : Nat) (x : Value) :
    CurAt (X.setCell ⟨b, i, none⟩ x) B v c' ∧ w.grownBy (X.setCell ⟨b, i, none⟩ x) (some B) := CurAt.put h hws hb hX i x
theorem fail_ws (c : Cu) (x : Int) : (c.fail x).ws = c.ws := by unfold Cu.fail; split <;> rfl
theorem adv_ws (c : Cu) : c.adv.ws = c.ws := by unfold Cu.adv; split <;> rfl
/-- a block of the call's own, behind a turn of the cursor -/
theorem own_block {w w' : World} {B : Nat} {cs : Array Value} {ty : TypeId} (hg : (w.alloc (.cells cs ty)).grownBy w' (some B)) (hB : B < w.heap.size) (j : Nat) :
    w'.cell? ⟨w.heap.size, j, none⟩ = cs[j]? ∧ w'.frozen? ⟨w.heap.size, j, none⟩ = false := by
  have h1 : w'.heap[w.heap.size]? = some (.cells cs ty (0, 0)) := (hg.block _ (by simp) (fun e => by injection e; omega)).trans (World.alloc_heap_new w _)
  constructor
  · simp [World.cell?, h1]
  · simp [World.frozen?, h1]
theorem own_four {w w' : World} {B : Nat} {x0 x1 x2 x3 : Value} {ty : TypeId} (hg : (w.alloc (.cells #[x0, x1, x2, x3] ty)).grownBy w' (some B)) (hB : B < w.heap.size) :
    w'.cell? ⟨w.heap.size, 0, none⟩ = some x0 ∧ w'.cell? ⟨w.heap.size, 1, none⟩ = some x1 ∧ w'.cell? ⟨w.heap.size, 2, none⟩ = some x2 ∧ w'.cell? ⟨w.heap.size, 3, none⟩ = some x3 ∧
    w'.frozen? ⟨w.heap.size, 0, none⟩ = false ∧ w'.frozen? ⟨w.heap.size, 1, none⟩ = false ∧ w'.frozen? ⟨w.heap.size, 2, none⟩ = false ∧ w'.frozen? ⟨w.heap.size, 3, none⟩ = false :=
  ⟨(own_block hg hB 0).1, (own_block hg hB 1).1, (own_block hg hB 2).1, (own_block hg hB 3).1, (own_block hg hB 0).2, (own_block hg hB 1).2, (own_block hg hB 2).2, (own_block hg hB 3).2⟩
def Cu.doneP (c : Cu) : Int := if c.err = 0 then (c.tok c.at').pos else c.pos
def Cu.doneE (c : Cu) : Int := if c.err = 0 then (if (c.tok c.at').kind = 0 then 0 else 5) else c.err
def DoneIs (p x : Int) (w : World) (e : Ending) (w' : World) : Prop := e = .returned (.tuple #[.int .i64 p, .int .i64 x]) ∧ Below w.heap.size w w'
set_option maxRecDepth 100000 in
set_option maxHeartbeats 3200000 in
theorem done_any {w : World} {B : Nat} {v : Value} {c : Cu} (h : CurAt w B v c) : Calls Try.prog 27 #[.pointer (some ⟨B, 0, none⟩)] w (DoneIs c.doneP c.doneE w) := by
  have hlt := h.lt
  have HW := word_any h
  have hv : Hid ((c.tok c.at').val = .agg #[.int .i64 (c.tok c.at').kind, .int .i64 (c.tok c.at').pos, .int .i64 (c.tok c.at').num, .string ⟨(c.tok c.at').text.toArray⟩]) := rfl
  rw [hv.out] at HW
  obtain ⟨⟨-, -, -, -, -, c5, -, c7, c8⟩, -⟩ := h.all
  by_cases he : c.err = 0
  · have hb : (c.err != 0) = false := by rw [he]; rfl
    have hP : Hid (c.doneP = (c.tok c.at').pos) := by show _ = _; unfold Cu.doneP; rw [if_pos he]
    have hE : Hid (c.doneE = if (c.tok c.at').kind = 0 then 0 else 5) := by show _ = _; unfold Cu.doneE; rw [if_pos he]
    generalize c.tok c.at' = t at *
    clear he hv
    by_cases hk : t.kind = 0
    · have hkb : (t.kind != 0) = false := by rw [hk]; rfl
      have hE : Hid (c.doneE = 0) := by show _ = _; rw [hE.out, if_pos hk]
      clear hk
      go_enter Try.func27, Try.ntmps27
      go_wp2_with fail
      refine HW.mono ?_; rintro e w2 ⟨rfl, hB2⟩
      go_wp2_with fail
      refine bodyPost_ret (v := .tuple #[.int .i64 t.pos, .int .i64 0]) (by simp [results, Try.results27, go_sem]) rfl ⟨by rw [hP.out, hE.out], hB2.alloc hB2.size _⟩
    · have hkb : (t.kind != 0) = true := by rw [bne_iff_ne]; exact hk
      have hE : Hid (c.doneE = 5) := by show _ = _; rw [hE.out, if_neg hk]
      clear hk
      go_enter Try.func27, Try.ntmps27
      go_wp2_with fail
      refine HW.mono ?_; rintro e w2 ⟨rfl, hB2⟩
      go_wp2_with fail
      refine bodyPost_ret (v := .tuple #[.int .i64 t.pos, .int .i64 5]) (by simp [results, Try.results27, go_sem]) rfl ⟨by rw [hP.out, hE.out], hB2.alloc hB2.size _⟩
  · have hb : (c.err != 0) = true := by rw [bne_iff_ne]; exact he
    have hP : Hid (c.doneP = c.pos) := by show _ = _; unfold Cu.doneP; rw [if_neg he]
    have hE : Hid (c.doneE = c.err) := by show _ = _; unfold Cu.doneE; rw [if_neg he]
    clear he hv HW
    go_enter Try.func27, Try.ntmps27
    go_wp2_with fail
    go_quiet (fail)
    go_wp2_with fail
    refine bodyPost_ret (v := .tuple #[.int .i64 c.pos, .int .i64 c.err]) (by simp [results, Try.results27, go_sem]) rfl ⟨by rw [hP.out, hE.out], _root_.Go.below_drewN (Below.refl _ _) _⟩
end Go.Proofs.Ytemgocegnlehoaa.N5
namespace Go.Proofs.Ytemgocegnlehoaa.N5
open Go.RowKit
attribute [local go_sem] fld0 fld1

/-- does a word stand ahead at this depth? -/
def aheadF (x : List UInt8) : Nat → List Tk → Bool
  | _, [] => false
  | d, t :: r =>
    if isOne t [[40], [123]] = true then aheadF x (d + 1) r
    else if isOne t [[41], [125]] = true then (if d = 0 then false else aheadF x (d - 1) r)
    else if 0 < d then aheadF x d r
    else if isOne t [[59]] = true then false
    else if isOne t [x] = true then true
    else aheadF x d r
def Cu.ahead (c : Cu) (x : List UInt8) : Bool := decide (c.err = 0) && aheadF x 0 (c.ws.drop c.at')
theorem tx_two {w : World} (a b : ByteArray) : TxAt (w.alloc (.cells #[.string a, .string b] 9)) w.heap.size [a.data.toList, b.data.toList] := fun j hj => by
  rw [World.cell?_alloc_at _ _ _ _ rfl]
  match j, hj with
  | 0, _ => rfl
  | 1, _ => rfl
theorem isOne_two (t : Tk) (a b : ByteArray) (w : World) (n : Nat) (hn : n = w.heap.size) : Calls Try.prog 95 #[t.val, .slice (some ⟨n, 0, none⟩) 2 2] (w.alloc (.cells #[.string a, .string b] 9)) (RunsTo (isOne t [a.data.toList, b.data.toList]) (w.alloc (.cells #[.string a, .string b] 9))) := by
  subst hn
  exact isOneOf_any t w.heap.size 2 2 _ _ rfl (by decide) (by simp) (tx_two a b)
theorem isOne_one (t : Tk) (a : ByteArray) (w : World) (n : Nat) (hn : n = w.heap.size) : Calls Try.prog 95 #[t.val, .slice (some ⟨n, 0, none⟩) 1 1] (w.alloc (.cells #[.string a] 9)) (RunsTo (isOne t [a.data.toList]) (w.alloc (.cells #[.string a] 9))) := by
  subst hn
  exact isOneOf_any t w.heap.size 1 1 _ _ rfl (by decide) (by simp) (tx_one (cell_new1 _ _ _))

end Go.Proofs.Ytemgocegnlehoaa.N5
namespace Go.Proofs.Ytemgocegnlehoaa.N5
open Go.RowKit
attribute [local go_sem] fld0 fld1

/-- a slice of words that came in -/
def ArgRow (w : World) (v : Value) (xs : List Tk) : Prop :=
  (v = .slice none 0 0 ∧ xs = []) ∨ ∃ a cap, v = .slice (some a) xs.length cap ∧ xs.length ≤ cap ∧ (xs = [] ∨ ∃ g o, a = ⟨g, o, none⟩ ∧ g < w.heap.size ∧ ∀ j (hj : j < xs.length), TkAt w g o j xs[j])
theorem ArgRow.below {w w' : World} {v : Value} {xs : List Tk} (h : ArgRow w v xs) (hB : Below w.heap.size w w') : ArgRow w' v xs := by
  rcases h with h | ⟨a, cap, h1, hc, h2 | ⟨g, o, h3, h4, h5⟩⟩
  · exact .inl h
  · exact .inr ⟨a, cap, h1, hc, .inl h2⟩
  · exact .inr ⟨a, cap, h1, hc, .inr ⟨g, o, h3, Nat.lt_of_lt_of_le h4 hB.size, fun j hj => (h5 j hj).kept (grownBy_below hB none) (by simp)⟩⟩
/-- how many words stand ahead of the first end -/
def endL : List Tk → Nat
  | [] => 0
  | t :: r => if t.kind = 0 then 0 else endL r + 1
theorem endL_le : ∀ l : List Tk, endL l ≤ l.length
  | [] => Nat.le_refl _
  | t :: r => by rw [endL]; split <;> simp; exact endL_le r
theorem endL_ahead : ∀ (l : List Tk) (j : Nat) (hj : j < l.length), j < endL l → l[j].kind ≠ 0
  | t :: r, 0, _, h => by rw [endL] at h; split at h <;> simp_all
  | t :: r, j + 1, hj, h => by
    rw [endL] at h
    split at h
    · omega
    · exact endL_ahead r j (by simpa using hj) (by omega)
theorem endL_at : ∀ (l : List Tk) (h : endL l < l.length), l[endL l].kind = 0
  | t :: r, h => by
    by_cases h0 : t.kind = 0
    · have e : endL (t :: r) = 0 := by rw [endL, if_pos h0]
      simp only [e]; exact h0
    · have e : endL (t :: r) = endL r + 1 := by rw [endL, if_neg h0]
      simp only [e]
      exact endL_at r (by rw [e] at h; simpa using h)
theorem endL_of : ∀ (l : List Tk) (k : Nat), k ≤ l.length → (∀ j (hj : j < l.length), j < k → l[j].kind ≠ 0) → (∀ h : k < l.length, l[k].kind = 0) → endL l = k
  | [], k, h, _, _ => by simp at h; rw [endL]; omega
  | t :: r, 0, _, _, h => by have h0 : t.kind = 0 := h (by simp); rw [endL, if_pos h0]
  | t :: r, k + 1, hk, h1, h2 => by
    have h0 : t.kind ≠ 0 := h1 0 (by simp) (by omega)
    rw [endL, if_neg h0, endL_of r k (by simpa using hk) (fun j hj hjk => h1 (j + 1) (by simpa using hj) (by omega)) (fun h => h2 (by simpa using h))]

theorem isEnd_any (t : Tk) (w : World) : Calls Try.prog 48 #[.agg #[.int .i64 t.kind, .int .i64 t.pos, .int .i64 t.num, .string ⟨t.text.toArray⟩]] w (RunsTo (t.kind == 0) w) := by
  go_enter Try.func48, Try.ntmps48
  go_wp2
  go_ret
  exact ⟨rfl, (Below.refl _ w).alloc (Nat.le_refl _) _⟩
def FoundIs (xs : List Tk) (w : World) (e : Ending) (w' : World) : Prop := e = .returned (.int .i64 (if endL xs < xs.length then (endL xs : Int) else -1)) ∧ Below w.heap.size w w'
set_option maxRecDepth 100000 in
set_option maxHeartbeats 1600000 in
theorem find_any (v : Value) (xs : List Tk) (w : World) (h : ArgRow w v xs) (hn : xs.length ≤ 4000) : Calls Try.prog 47 #[v, .func (.func 48) #[] #[]] w (FoundIs xs w) := by
  obtain ⟨a, cap, n, rfl, hN, HC⟩ : ∃ a cap n, v = .slice a n cap ∧ Hid (n = xs.length) ∧ Hid (xs = [] ∨ ∃ g o, a = some ⟨g, o, none⟩ ∧ g < w.heap.size ∧ ∀ j (hj : j < xs.length), TkAt w g o j xs[j]) := by
    rcases h with ⟨rfl, rfl⟩ | ⟨a, cap, rfl, _, h2 | ⟨g, o, rfl, h4, h5⟩⟩
    · exact ⟨none, 0, 0, rfl, rfl, .inl rfl⟩
    · exact ⟨some a, cap, _, rfl, rfl, .inl h2⟩
    · exact ⟨_, cap, _, rfl, rfl, .inr ⟨g, o, rfl, h4, h5⟩⟩
  rw [← hN.out] at hn
  clear h
  go_enter Try.func47, Try.ntmps47
  go_wp2_with fail
  go_loopw [8] (fun i wr => ∃ k : Nat, k ≤ n ∧ i = .int .i64 (k : Int) ∧ Hid (∀ j (hj : j < xs.length), j < k → xs[j].kind ≠ 0) ∧ Below w.heap.size w wr) (fun i _ => n - (intOf i).toNat)
  case atStart => exact ⟨0, Nat.zero_le _, rfl, fun j _ h => absurd h (Nat.not_lt_zero _), Below.refl _ _⟩
  case round =>
    obtain ⟨k, hk, rfl, HK, hB⟩ := hrel
    by_cases hkn : k < n
    · have hkn' : (k : Int) < n := by omega
      have hkX : k < xs.length := by rw [← hN.out]; exact hkn
      obtain ⟨g, o, rfl, hg, hc⟩ : ∃ g o, a = some ⟨g, o, none⟩ ∧ g < w.heap.size ∧ ∀ j (hj : j < xs.length), TkAt w g o j xs[j] := by
        rcases HC.out with h | h
        · rw [h] at hkX; simp at hkX
        · exact h
      obtain ⟨a0, a1, a2, a3⟩ := (hc k hkX).kept (grownBy_below hB none) (by simp)
      have P := fun w2 => isEnd_any xs[k] w2
      by_cases hz : xs[k].kind = 0
      · have hzb : (xs[k].kind == 0) = true := by rw [hz]; rfl
        have he : endL xs = k := endL_of xs k (by omega) HK.out (fun _ => hz)
        have HF : Hid ((if endL xs < xs.length then (endL xs : Int) else -1) = k) := by show _ = _; rw [he, if_pos hkX]
        rw [hzb] at P
        generalize xs[k] = t at *
        clear hz hzb he hc
        go_wp2_with fail
        refine (P _).mono ?_; rintro e w2 ⟨rfl, hB2⟩
        go_wp2_with fail
        try rw [Exit.noGoto_ret]
        go_ret
        exact ⟨by rw [HF.out]; rfl, hB.trans (hB2.mono hB.size)⟩
      · have hzb : (xs[k].kind == 0) = false := by rw [beq_eq_false_iff_ne]; exact hz
        have HK2 : Hid (∀ j (hj : j < xs.length), j < k + 1 → xs[j].kind ≠ 0) := fun j hj h => by
          rcases Nat.lt_or_ge j k with h' | h'
          · exact HK.out j hj h'
          · obtain rfl : j = k := by omega
            exact hz
        rw [hzb] at P
        generalize xs[k] = t at *
        clear hz hzb hc
        go_wp2_with fail
        refine (P _).mono ?_; rintro e w2 ⟨rfl, hB2⟩
        go_wp2_with fail
        go_roundw
        case rel => exact ⟨k + 1, by omega, by go_num, HK2, hB.trans (hB2.mono hB.size)⟩
        case measure => simp [intOf]; omega
    · obtain rfl : k = n := by omega
      have he : endL xs = k := endL_of xs k (by rw [hN.out]; exact Nat.le_refl _) HK.out (fun h => by rw [hN.out] at h; omega)
      have HF : Hid ((if endL xs < xs.length then (endL xs : Int) else -1) = -1) := by show _ = _; rw [he, if_neg (by rw [hN.out]; omega)]
      clear he
      go_wp2_with fail
      try rw [Exit.noGoto_ret]
      go_ret
      exact ⟨by rw [HF.out]; rfl, hB⟩

def cellsL (l : List Tk) : List Value := l.flatMap fun t => [.int .i64 t.kind, .int .i64 t.pos, .int .i64 t.num, .string ⟨t.text.toArray⟩]
theorem cellsL_length (l : List Tk) : (cellsL l).length = l.length * 4 := by
  induction l with
  | nil => rfl
  | cons t r ih => simp only [cellsL, List.flatMap_cons, List.length_append, List.length_cons] at ih ⊢; rw [ih]; simp; omega
theorem cellsL_get : ∀ (l : List Tk) (j : Nat) (hj : j < l.length) (i : Nat), i < 4 → (cellsL l)[j * 4 + i]? = ([Value.int .i64 l[j].kind, .int .i64 l[j].pos, .int .i64 l[j].num, .string ⟨l[j].text.toArray⟩])[i]? := by
  intro l
  induction l with
  | nil => intro j hj; simp at hj
  | cons t r ih =>
    intro j hj i hi
    show ([Value.int .i64 t.kind, .int .i64 t.pos, .int .i64 t.num, .string ⟨t.text.toArray⟩] ++ cellsL r)[j * 4 + i]? = _
    cases j with
    | zero => rw [List.getElem?_append_left (by simp; omega)]; simp
    | succ j =>
      rw [List.getElem?_append_right (by simp; omega), show (j + 1) * 4 + i - ([Value.int .i64 t.kind, .int .i64 t.pos, .int .i64 t.num, .string ⟨t.text.toArray⟩] : List Value).length = j * 4 + i by simp; omega, ih j (by simpa using hj) i hi]
      rfl
/-- the cells of a row of words -/
theorem cells_of {w : World} {g o : Nat} {xs : List Tk} (h : ∀ j (hj : j < xs.length), TkAt w g o j xs[j]) : ∀ i u, (cellsL xs)[i]? = some u → w.cell? (Addr.add ⟨g, o, none⟩ i) = some u := fun i u hu => by
  have hi : i < (cellsL xs).length := (List.getElem?_eq_some_iff.1 hu).1
  rw [cellsL_length] at hi
  have e : i = i / 4 * 4 + i % 4 := by omega
  have hj : i / 4 < xs.length := by omega
  have ha : ∀ i, Addr.add ⟨g, o, none⟩ i = ⟨g, o + i, none⟩ := fun i => Addr.add_lit g o i
  rw [ha i]
  obtain ⟨h0, h1, h2, h3⟩ := h (i / 4) hj
  rw [e, cellsL_get xs (i / 4) hj (i % 4) (by omega)] at hu
  rw [e]
  have hm : i % 4 = 0 ∨ i % 4 = 1 ∨ i % 4 = 2 ∨ i % 4 = 3 := by omega
  rcases hm with hm | hm | hm | hm <;> rw [hm] at hu ⊢ <;> simp at hu <;> subst hu
  · exact h0
  · exact h1
  · exact h2
  · exact h3
theorem info_tok : (Try.prog.info? 47).map (fun i => (i.zero, i.size, i.bytes)) = some (some (.agg #[.int .i64 0, .int .i64 0, .int .i64 0, .string ⟨#[]⟩]), 4, 40) := by kernel_rfl
theorem row_of_owns {w : World} {base B : Nat} {v : Value} {xs : List Tk} (h : w.ownsRow base 47 4 v xs.length (cellsL xs)) (hB : B < base) : RowAt w B v xs := by
  rcases h.2 with ⟨rfl, hn⟩ | ⟨g, cap, cur, rfl, hb, hg, hle, hm, hcs, htake⟩
  · have : xs = [] := List.length_eq_zero_iff.1 hn
    subst this
    exact ⟨none, 0, rfl, Nat.le_refl _, .inl rfl⟩
  · refine ⟨_, cap, rfl, hle, .inr ⟨g, 0, rfl, (Array.getElem?_eq_some_iff.1 hg).1, by omega, fun j hj => ?_⟩⟩
    have hget : ∀ i, i < 4 → w.cell? ⟨g, j * 4 + i, none⟩ = ([Value.int .i64 xs[j].kind, .int .i64 xs[j].pos, .int .i64 xs[j].num, .string ⟨xs[j].text.toArray⟩])[i]? := fun i hi => by
      have h1 : w.cell? ⟨g, j * 4 + i, none⟩ = cur[j * 4 + i]? := by simp [World.cell?, hg]
      have h2 : cur[j * 4 + i]? = (cellsL xs)[j * 4 + i]? := by rw [← htake, List.getElem?_take_of_lt (by omega), Array.getElem?_toList]
      rw [h1, h2, cellsL_get xs j hj i hi]
    unfold TkAt
    rw [Nat.zero_add]
    exact ⟨hget 0 (by omega), hget 1 (by omega), hget 2 (by omega), hget 3 (by omega)⟩
theorem eq_nil (w : World) : (binOp .eql 43 (.slice none 0 0) (.slice none 0 0)).run Try.prog w = .ok (.bool true) w := by kernel_rfl
theorem eq_some (a : Addr) (n cap : Nat) (w : World) : (binOp .eql 43 (.slice (some a) n cap) (.slice none 0 0)).run Try.prog w = .ok (.bool false) w := by kernel_rfl
attribute [local go_sem] eq_nil eq_some
def ClonedIs (B : Nat) (xs : List Tk) (w : World) (e : Ending) (w' : World) : Prop := ∃ v, e = .returned v ∧ RowAt w' B v xs ∧ Below w.heap.size w w' ∧ ∀ g o n cap, v = .slice (some ⟨g, o, none⟩) n cap → w.heap.size ≤ g
set_option maxRecDepth 100000 in
set_option maxHeartbeats 1600000 in
theorem clone_any (v : Value) (xs : List Tk) (w : World) (B : Nat) (hB : B < w.heap.size) (h : ArgRow w v xs) (hn : xs.length ≤ 4000) : Calls Try.prog 49 #[v] w (ClonedIs B xs w) := by
  obtain ⟨i0, hi, hz0, hz1, hz2⟩ := info_parts info_tok
  rcases h with ⟨rfl, rfl⟩ | ⟨a, cap, rfl, hcap, h2⟩
  · go_enter Try.func49, Try.ntmps49
    go_wp2_with fail
    go_ret
    exact ⟨_, rfl, ⟨none, 0, rfl, Nat.le_refl _, .inl rfl⟩, Below.refl _ _, fun _ _ _ _ h => by cases h⟩
  · have hcells : ∀ w' : World, Below w.heap.size w w' → ∀ i u, (cellsL xs)[i]? = some u → w'.cell? (a.add i) = some u := fun w' hb => by
      rcases h2 with rfl | ⟨g, o, rfl, hg, hc⟩
      · intro i u hu; simp [cellsL] at hu
      · exact cells_of (fun j hj => (hc j hj).kept (grownBy_below hb none) (by simp))
    have hone : ∀ u ∈ cellsL xs, u.oneCell' = true := fun u hu => by
      simp only [cellsL, List.mem_flatMap] at hu
      obtain ⟨t, _, hu⟩ := hu
      simp at hu
      rcases hu with rfl | rfl | rfl | rfl <;> rfl
    have hlen := cellsL_length xs
    obtain ⟨n, hn2⟩ : ∃ n, n = xs.length := ⟨_, rfl⟩
    have HN : Hid (n = xs.length) := hn2
    have hown : (w.alloc (.cells #[] 47)).ownsRow w.heap.size 47 4 (.slice (some ⟨w.heap.size, 0, none⟩) 0 0) 0 [] :=
      ⟨by simp, .inr ⟨w.heap.size, 0, #[], rfl, Nat.le_refl _, World.alloc_heap_new w _, Nat.le_refl _, by unfold maxLen; omega, rfl, rfl⟩⟩
    rw [← hn2] at hn hlen ⊢
    clear h2 hn2 hcap
    go_enter Try.func49, Try.ntmps49
    go_wp2_with (first
      | (at_builtin; refine wpList_append_own _ rfl _ _ 43 rfl w.heap.size 47 i0 (.agg #[.int .i64 0, .int .i64 0, .int .i64 0, .string ⟨#[]⟩]) 4 40 Try.underlying43 hi hz0 hz1 hz2 rfl (by decide) _ _ _ rfl hown a n cap (cellsL xs) rfl hlen (hcells _ ((Below.refl _ w).alloc (Nat.le_refl _) _)) hone (by unfold maxLen; omega) (by omega) (by simp) ?_; intro v' w3 hown3 hgrow3 hnil3)
      | fail)
    rw [Nat.zero_add, List.nil_append, HN.out] at hown3
    go_ret
    exact ⟨v', rfl, row_of_owns hown3 hB, ((Below.refl _ w).alloc (Nat.le_refl _) _).grown hgrow3 (by simp) (fun j e => by cases e; exact Nat.le_refl _), fun g o n cap h => (hown3.lt g (by rw [h]; rfl)).1⟩
end Go.Proofs.Ytemgocegnlehoaa.N5
namespace Go.Proofs.Ytemgocegnlehoaa.N5
open Go.RowKit
attribute [local go_sem] fld0 fld1

def newCu (xs : List Tk) : Cu := ⟨xs.take (endL xs), if h : endL xs < xs.length then xs[endL xs].pos else 0, 0, 0, 0, 0⟩
abbrev curC (v : Value) (ep at' nest pos err : Int) : Array Value := #[v, .int .i64 0, .int .i64 ep, .int .i64 0, .string ⟨#[]⟩, .int .i64 at', .int .i64 nest, .int .i64 pos, .int .i64 err]
theorem ahead_kinds (xs : List Tk) : ∀ t ∈ xs.take (endL xs), t.kind ≠ 0 := fun t ht => by
  obtain ⟨j, hj, rfl⟩ := List.mem_iff_getElem.1 ht
  rw [List.getElem_take]
  rw [List.length_take] at hj
  exact endL_ahead xs j (by omega) (by omega)
def MadeIs (c : Cu) (w : World) (e : Ending) (w' : World) : Prop := ∃ v, e = .returned (.pointer (some ⟨w.heap.size, 0, none⟩)) ∧ CurAt w' w.heap.size v c ∧ Below w.heap.size w w' ∧ ∀ g o n cap, v = .slice (some ⟨g, o, none⟩) n cap → w.heap.size < g
set_option maxRecDepth 100000 in
set_option maxHeartbeats 3200000 in
theorem new_any (v : Value) (xs : List Tk) (w : World) (h : ArgRow w v xs) (hn : xs.length ≤ 4000) : Calls Try.prog 26 #[v] w (MadeIs (newCu xs) w) := by
  have hBa := (Below.refl _ w).alloc (Nat.le_refl _) (.cells (curC (.slice none 0 0) 0 0 0 0 0) 92)
  have HF := find_any v xs _ (h.below hBa) hn
  have hle := endL_le xs
  have fin : ∀ (ep : Int) (w2 w3 : World) (v' : Value), (newCu xs).ep = ep → w2.heap[w.heap.size]? = some (.cells (curC (.slice none 0 0) ep 0 0 0 0) 92 (0, 0)) → Below w.heap.size w w2 →
      Below w2.heap.size w2 w3 → RowAt w3 w.heap.size v' (xs.take (endL xs)) → CurAt (w3.setCell ⟨w.heap.size, 0, none⟩ v') w.heap.size v' (newCu xs) ∧ Below w.heap.size w (w3.setCell ⟨w.heap.size, 0, none⟩ v') ∧ w3.cell? ⟨w.heap.size, 0, none⟩ = some (.slice none 0 0) ∧ w3.frozen? ⟨w.heap.size, 0, none⟩ = false := fun ep w2 w3 v' hep e1 h2 h3 hr => by
    have hlt : w.heap.size < w2.heap.size := (Array.getElem?_eq_some_iff.1 e1).1
    have e2 := (h3.block _ hlt).trans e1
    refine ⟨⟨?_, hr.kept (grownBy_set w3 w.heap.size 0 v'), Nat.zero_le _, ?_, ahead_kinds xs, Nat.zero_le _⟩, ?_, by simp [World.cell?, e2], by simp [World.frozen?, e2]⟩
    · rw [hep]
      exact heap_set (i := 0) e2 v'
    · show (xs.take (endL xs)).length ≤ 4000
      rw [List.length_take]; omega
    · refine Below.setCell (p := ⟨w.heap.size, 0, none⟩) ?_ (Nat.le_refl _) _
      exact h2.trans (h3.mono (Nat.le_of_lt hlt))
  have blk : ∀ w2, Below (w.alloc (.cells (curC (.slice none 0 0) 0 0 0 0 0) 92)).heap.size (w.alloc (.cells (curC (.slice none 0 0) 0 0 0 0 0) 92)) w2 → w2.heap[w.heap.size]? = some (.cells (curC (.slice none 0 0) 0 0 0 0 0) 92 (0, 0)) := fun w2 h2 => (h2.block _ (by simp)).trans (World.alloc_heap_new w _)
  by_cases hf : endL xs < xs.length
  · obtain ⟨k, hk⟩ : ∃ k, k = endL xs := ⟨_, rfl⟩
    have hep : (newCu xs).ep = xs[endL xs].pos := by show (if h : endL xs < xs.length then _ else _) = _; rw [dif_pos hf]
    have hFI : Hid ((if endL xs < xs.length then (endL xs : Int) else -1) = k) := by show _ = _; rw [if_pos hf, hk]
    obtain ⟨g, o, cap, n, rfl, hnc, hkn, hg, hc⟩ : ∃ g o cap n, v = .slice (some ⟨g, o, none⟩) n cap ∧ n ≤ cap ∧ k < n ∧ g < w.heap.size ∧ ∀ j (hj : j < xs.length), TkAt w g o j xs[j] := by
      rcases h with ⟨_, rfl⟩ | ⟨a, cap, rfl, hcap, h2 | ⟨g, o, rfl, h4, h5⟩⟩
      · simp at hf
      · rw [h2] at hf; simp at hf
      · exact ⟨g, o, cap, _, rfl, hcap, by omega, h4, h5⟩
    have htl : (xs.take (endL xs)).length = k := by rw [List.length_take]; omega
    have HC := fun w2 (hb : Below w.heap.size w w2) (hl : w.heap.size < w2.heap.size) => clone_any (.slice (some ⟨g, o, none⟩) k cap) (xs.take (endL xs)) w2 w.heap.size hl (.inr ⟨_, cap, by rw [htl], by rw [htl]; omega, .inr ⟨g, o, rfl, Nat.lt_of_lt_of_le hg hb.size, fun j hj => by
      rw [List.getElem_take]
      exact (hc j (by rw [List.length_take] at hj; omega)).kept (grownBy_below hb none) (by simp)⟩⟩) (by rw [htl]; omega)
    obtain ⟨-, a1, -, -⟩ := hc (endL xs) hf
    generalize xs[endL xs].pos = ep at *
    rw [← hk] at a1
    unfold FoundIs at HF
    rw [hFI.out] at HF
    have hn9 : n ≤ 4000 ∨ True := .inr trivial
    clear h hc hk htl hle hn hf hn9
    go_enter Try.func26, Try.ntmps26
    go_wp2_with fail
    refine HF.mono ?_; rintro e w2 ⟨rfl, hB2⟩
    have hb2 := hBa.trans (hB2.mono hBa.size)
    have e2 := blk w2 hB2
    have hl2 := (Array.getElem?_eq_some_iff.1 e2).1
    have d2 : w2.cell? ⟨w.heap.size, 2, none⟩ = some (.int .i64 0) := by simp [World.cell?, e2]
    have f2 : w2.frozen? ⟨w.heap.size, 2, none⟩ = false := by simp [World.frozen?, e2]
    have a2 := (hb2.cell (p := ⟨g, o + k * 4 + 1, none⟩) hg).trans a1
    have b3 : Below w.heap.size w (w2.setCell ⟨w.heap.size, 2, none⟩ (.int .i64 ep)) := hb2.setCell (p := ⟨w.heap.size, 2, none⟩) (Nat.le_refl _) _
    have HC := HC _ b3 (by simp; exact hl2)
    have e3 : (w2.setCell ⟨w.heap.size, 2, none⟩ (.int .i64 ep)).heap[w.heap.size]? = some (.cells (curC (.slice none 0 0) ep 0 0 0 0) 92 (0, 0)) := heap_set (i := 2) e2 (.int .i64 ep)
    have fin := fin ep (w2.setCell ⟨w.heap.size, 2, none⟩ (.int .i64 ep))
    clear HF a1 e2
    go_wp2_with fail
    refine HC.mono ?_; rintro e w3 ⟨v', rfl, hr, hB3, hfar⟩
    obtain ⟨k1, k2, d0, f0⟩ := fin w3 v' hep e3 b3 hB3 hr
    obtain ⟨a', cap', hv', -⟩ := hr
    subst hv'
    generalize (xs.take (endL xs)).length = ln at *
    go_wp2_with fail
    go_ret
    exact ⟨_, rfl, k1, k2, fun g o n cap h => by have h1 := hfar g o n cap h; have h2 : (w2.setCell ⟨w.heap.size, 2, none⟩ (.int .i64 ep)).heap.size = w2.heap.size := by simp
                                                 omega⟩
  · have hep : (newCu xs).ep = 0 := by show (if h : endL xs < xs.length then _ else _) = _; rw [dif_neg hf]
    have hFI : Hid ((if endL xs < xs.length then (endL xs : Int) else -1) = -1) := by show _ = _; rw [if_neg hf]
    have htk : xs.take (endL xs) = xs := List.take_of_length_le (by omega)
    have HC := fun w2 (hb : Below w.heap.size w w2) (hl : w.heap.size < w2.heap.size) => clone_any v xs w2 w.heap.size hl (h.below hb) hn
    rw [htk] at fin
    obtain ⟨a, cap, n, rfl, hN, hnn⟩ : ∃ a cap n, v = .slice a n cap ∧ n ≤ cap ∧ (a = none → n = 0 ∧ cap = 0) := by
      rcases h with ⟨rfl, _⟩ | ⟨a, cap, rfl, hc, _⟩
      · exact ⟨none, 0, 0, rfl, Nat.le_refl _, fun _ => ⟨rfl, rfl⟩⟩
      · exact ⟨some a, cap, _, rfl, hc, fun h => by cases h⟩
    unfold FoundIs at HF
    rw [hFI.out] at HF
    clear h hle hn hf htk hFI
    go_enter Try.func26, Try.ntmps26
    go_wp2_with fail
    refine HF.mono ?_; rintro e w2 ⟨rfl, hB2⟩
    have hb2 := hBa.trans (hB2.mono hBa.size)
    have e2 := blk w2 hB2
    have HC := HC _ hb2 (Array.getElem?_eq_some_iff.1 e2).1
    have fin := fin 0 w2
    clear HF
    go_wp2_with fail
    refine HC.mono ?_; rintro e w3 ⟨v', rfl, hr, hB3, hfar⟩
    obtain ⟨k1, k2, d0, f0⟩ := fin w3 v' hep e2 hb2 hB3 hr
    obtain ⟨a', cap', hv', -⟩ := hr
    subst hv'
    go_wp2_with fail
    go_ret
    exact ⟨_, rfl, k1, k2, fun g o n cap h => by have h1 := hfar g o n cap h; have h2 := (Array.getElem?_eq_some_iff.1 e2).1; omega⟩
end Go.Proofs.Ytemgocegnlehoaa.N5
