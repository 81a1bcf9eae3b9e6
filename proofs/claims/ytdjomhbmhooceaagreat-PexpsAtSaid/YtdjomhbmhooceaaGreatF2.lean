import Derived.Test.YtdjomhbmhooceaaGreatF1
import Derived.Shelf.Abstract
import Derived.OwnWalk
import Derived.Laws.AppendOwn
import Derived.RangeFuncBox
import Derived.BigQuiet
import Derived.Deep.QuietTactic
import Derived.Lib.Strings
import Derived.StillTailTactics
import Derived.BigRegion
set_option maxHeartbeats 4000000
set_option maxRecDepth 100000
set_option linter.unusedVariables false
set_option linter.unusedSimpArgs false
namespace Go.Proofs.YtdjomhbmhooceaaGreat.N5
open Go.RowKit
def RunsTo (b : Bool) (w : World) (e : Ending) (w' : World) : Prop := e = .returned (.bool b) /\ Below w.heap.size w w'
def tX (w : World) (g o j : Nat) (t : Tk) : Prop :=
 w.cell? ⟨g, o + j * 4, none⟩ = some (.int .i64 t.kind) /\ w.cell? ⟨g, o + j * 4 + 1, none⟩ = some (.int .i64 t.pos) /\ w.cell? ⟨g, o + j * 4 + 2, none⟩ = some (.int .i64 t.num) /\ w.cell? ⟨g, o + j * 4 + 3, none⟩ = some (.string ⟨t.text.toArray⟩)
theorem tX.kept {w w' : World} {g o j : Nat} {t : Tk} {row : Option Nat} (h : tX w g o j t) (hg : w.grownBy w' row) (hne : some g ≠ row) : tX w' g o j t :=
 ⟨hg.cell (a := ⟨g, o + j * 4, none⟩) h.1 hne, hg.cell (a := ⟨g, o + j * 4 + 1, none⟩) h.2.1 hne, hg.cell (a := ⟨g, o + j * 4 + 2, none⟩) h.2.2.1 hne, hg.cell (a := ⟨g, o + j * 4 + 3, none⟩) h.2.2.2 hne⟩
def yY (w : World) (B : Nat) (v : Value) (xs : List Tk) : Prop :=
 ∃ (a : Option Addr) (cap : Nat), v = .slice a xs.length cap /\ xs.length <= cap /\ (xs = [] \/ ∃ g o, a = some ⟨g, o, none⟩ /\ g < w.heap.size /\ g ≠ B /\ ∀ j (hj : j < xs.length), tX w g o j xs[j])
theorem yY.kept {w w' : World} {B : Nat} {v : Value} {xs : List Tk} (h : yY w B v xs) (hg : w.grownBy w' (some B)) : yY w' B v xs := by
 obtain ⟨a, cap, h1, hc, h2 | ⟨g, o, h3, h4, h6, h5⟩⟩ := h
 ·
  exact ⟨a, cap, h1, hc, .inl h2⟩
 ·
  exact ⟨a, cap, h1, hc, .inr ⟨g, o, h3, Nat.lt_of_lt_of_le h4 hg.size, h6, fun j hj => (h5 j hj).kept hg (fun e => h6 (by injection e))⟩⟩
theorem zE {w w' : World} (h : Below w.heap.size w w') (row : Option Nat) : w.grownBy w' row := ⟨h.os, h.tape, h.output, h.size, fun k hk _ => h.block k hk⟩
theorem xF {a b c : World} {row : Option Nat} (h : a.grownBy b row) (k : b.grownBy c row) : a.grownBy c row :=
 ⟨k.os.trans h.os, k.tape.trans h.tape, k.output.trans h.output, Nat.le_trans h.size k.size, fun i hi hne => (k.block i (Nat.lt_of_lt_of_le hi h.size) hne).trans (h.block i hi hne)⟩
theorem vL {w w' : World} {n B : Nat} (h : w.grownBy w' (some B)) (hn : n <= B) (hs : n <= w.heap.size) : Below n w w' := (Below.refl n w).grown h hs (fun j e => by injection e with e; omega)
structure Cu where
 ws : List Tk
 ep : Int
 at' : Nat
 nest : Nat
 pos : Int
 err : Int
def Cu.tok (c : Cu) (k : Nat) : Tk := c.ws.getD k ⟨0, c.ep, 0, []⟩
structure zJ (w : World) (B : Nat) (v : Value) (c : Cu) : Prop where
 cells : w.heap[B]? = some (.cells #[v, .int .i64 0, .int .i64 c.ep, .int .i64 0, .string ⟨#[]⟩, .int .i64 (c.at' : Int), .int .i64 (c.nest : Int), .int .i64 c.pos, .int .i64 c.err] 58 (0, 0))
 row : yY w B v c.ws
 le : c.at' <= c.ws.length
 few : c.ws.length <= 4000
 kinds : ∀ t ∈ c.ws, t.kind ≠ 0
 deep : c.nest <= 200
theorem zJ.lt {w : World} {B : Nat} {v : Value} {c : Cu} (h : zJ w B v c) : B < w.heap.size := (Array.getElem?_eq_some_iff.1 h.cells).1
theorem zJ.below {w w' : World} {B : Nat} {v : Value} {c : Cu} (h : zJ w B v c) (hB : Below w.heap.size w w') : zJ w' B v c :=
 ⟨(hB.block _ h.lt).trans h.cells, h.row.kept (zE hB _), h.le, h.few, h.kinds, h.deep⟩
theorem zJ.kept {w w' : World} {B B' : Nat} {v : Value} {c : Cu} (h : zJ w B v c) (hg : w.grownBy w' (some B')) (hne : B ≠ B') (hr : c.ws ≠ [] -> ∀ g o n cap, v = .slice (some ⟨g, o, none⟩) n cap -> g ≠ B') : zJ w' B v c := by
 refine ⟨(hg.block _ h.lt (fun e => hne (by injection e))).trans h.cells, ?_, h.le, h.few, h.kinds, h.deep⟩;obtain ⟨a, cap, h1, hc, h2⟩ := h.row;by_cases h0 : c.ws = []
 ·
  exact ⟨a, cap, h1, hc, .inl h0⟩
 ·
  rcases h2 with h2 | ⟨g, o, h3, h4, h6, h5⟩
  ·
   exact absurd h2 h0
  ·
   have hgB := hr h0 g o _ _ (by rw [h1, h3]);exact ⟨a, cap, h1, hc, .inr ⟨g, o, h3, Nat.lt_of_lt_of_le h4 hg.size, h6, fun j hj => (h5 j hj).kept hg (fun e => hgB (by injection e))⟩⟩
theorem uY (W : World) (b i : Nat) (x : Value) : W.grownBy (W.setCell ⟨b, i, none⟩ x) (some b) :=
 ⟨rfl, rfl, rfl, by simp, fun k _ hk => Below.heap_setCell _ _ _ k (fun e => hk (by rw [e]))⟩
theorem zJ.put {w X : World} {B b : Nat} {v : Value} {c c' : Cu} (h : zJ w B v c) (hws : c'.ws = c.ws) (hb : w.heap.size <= b) (hX : zJ X B v c' /\ w.grownBy X (some B)) (i : Nat) (x : Value) :
  zJ (X.setCell ⟨b, i, none⟩ x) B v c' /\ w.grownBy (X.setCell ⟨b, i, none⟩ x) (some B) := by
 have hlt := h.lt
 obtain ⟨hX, hg⟩ := hX
 refine ⟨hX.kept (uY X b i x) (by omega) (fun h0 g o n cap hv e => ?_), ⟨hg.os, hg.tape, hg.output, by rw [show (X.setCell ⟨b, i, none⟩ x).heap.size = X.heap.size by simp]; exact hg.size, fun k hk hne => ?_⟩⟩
 ·
  obtain ⟨a, cap', h1, _, h2⟩ := h.row;rcases h2 with h2 | ⟨g', o', h3, h4, _, _⟩
  ·
   rw [hws] at h0; exact h0 h2
  ·
   rw [h1, h3] at hv;injection hv with hv
   injection hv with hv
   injection hv with hv
   omega
 ·
  exact ((uY X b i x).block k (Nat.lt_of_lt_of_le hk hg.size) (fun e => by injection e; omega)).trans (hg.block k hk hne)
theorem zJ.all {w : World} {B : Nat} {v : Value} {c : Cu} (h : zJ w B v c) :
  (w.cell? ⟨B, 0, none⟩ = some v /\ w.cell? ⟨B, 1, none⟩ = some (.int .i64 0) /\ w.cell? ⟨B, 2, none⟩ = some (.int .i64 c.ep) /\ w.cell? ⟨B, 3, none⟩ = some (.int .i64 0) /\ w.cell? ⟨B, 4, none⟩ = some (.string ⟨#[]⟩) /\
   w.cell? ⟨B, 5, none⟩ = some (.int .i64 (c.at' : Int)) /\ w.cell? ⟨B, 6, none⟩ = some (.int .i64 (c.nest : Int)) /\ w.cell? ⟨B, 7, none⟩ = some (.int .i64 c.pos) /\ w.cell? ⟨B, 8, none⟩ = some (.int .i64 c.err)) /\
  w.frozen? ⟨B, 5, none⟩ = false /\ w.frozen? ⟨B, 6, none⟩ = false /\ w.frozen? ⟨B, 7, none⟩ = false /\ w.frozen? ⟨B, 8, none⟩ = false := by
 have hc := h.cells
 refine ⟨⟨?_, ?_, ?_, ?_, ?_, ?_, ?_, ?_, ?_⟩, ?_, ?_, ?_, ?_⟩ <;> simp [World.cell?, World.frozen?, hc]
theorem zP {w w3 : World} {x0 x1 x2 x3 : Value} {ty : TypeId} (hB : Below (w.alloc (.cells #[x0, x1, x2, x3] ty)).heap.size (w.alloc (.cells #[x0, x1, x2, x3] ty)) w3) :
  w3.cell? ⟨w.heap.size, 0, none⟩ = some x0 /\ w3.cell? ⟨w.heap.size, 1, none⟩ = some x1 /\ w3.cell? ⟨w.heap.size, 2, none⟩ = some x2 /\ w3.cell? ⟨w.heap.size, 3, none⟩ = some x3 /\
  w3.frozen? ⟨w.heap.size, 0, none⟩ = false /\ w3.frozen? ⟨w.heap.size, 1, none⟩ = false /\ w3.frozen? ⟨w.heap.size, 2, none⟩ = false /\ w3.frozen? ⟨w.heap.size, 3, none⟩ = false := by
 have l0 : w.heap.size < (w.alloc (.cells #[x0, x1, x2, x3] ty)).heap.size := by simp
 have cx : ∀ j, w3.cell? ⟨w.heap.size, j, none⟩ = (#[x0, x1, x2, x3] : Array Value)[j]? := fun j => by
  rw [hB.cell (p := ⟨w.heap.size, j, none⟩) l0, World.cell?_alloc_at _ _ _ _ rfl]
 have fx : ∀ j, w3.frozen? ⟨w.heap.size, j, none⟩ = false := fun j => by
  rw [hB.frozen (p := ⟨w.heap.size, j, none⟩) l0, World.frozen?_alloc_at _ _ _ _ rfl]
 exact ⟨cx 0, cx 1, cx 2, cx 3, fx 0, fx 1, fx 2, fx 3⟩
end Go.Proofs.YtdjomhbmhooceaaGreat.N5
namespace Go.Proofs.YtdjomhbmhooceaaGreat.N5
open Go.RowKit
theorem xB (a b c : Int) (d : ByteArray) (w : World) : (Instr.field 38 (.agg #[.int .i64 a, .int .i64 b, .int .i64 c, .string d]) 0).run Tryz.prog w = .ok (.int .i64 a) w := by kernel_rfl
theorem xA (a b c : Int) (d : ByteArray) (w : World) : (Instr.field 38 (.agg #[.int .i64 a, .int .i64 b, .int .i64 c, .string d]) 1).run Tryz.prog w = .ok (.int .i64 b) w := by kernel_rfl
theorem uV {w : World} {B : Nat} {v : Value} {c : Cu} (h : zJ w B v c) : Calls Tryz.prog 40 #[.pointer (some ⟨B, 0, none⟩)] w fun e w' => e = .returned (.bool (c.err != 0)) /\ w = w' := by
 obtain ⟨⟨c0, c1, c2, c3, c4, c5, c6, c7, c8⟩, _⟩ := h.all;go_enter Tryz.func40, Tryz.ntmps40;go_wp2;go_ret;exact ⟨rfl, rfl⟩
theorem cT {w : World} {B : Nat} {v : Value} {c : Cu} (h : zJ w B v c) (hk : c.at' < c.ws.length) : ∃ g o cap, v = .slice (some ⟨g, o, none⟩) c.ws.length cap /\ g < w.heap.size /\ tX w g o c.at' (c.tok c.at') := by
 obtain ⟨a, cap, rfl, _, hr⟩ := h.row;rcases hr with h0 | ⟨g, o, rfl, hg, _, hc⟩
 ·
  rw [h0] at hk; simp at hk
 ·
  refine ⟨g, o, cap, rfl, hg, ?_⟩;have := hc c.at' hk;unfold Cu.tok;rw [List.getD_eq_getElem?_getD, List.getElem?_eq_getElem hk]; exact this
theorem qW {c : Cu} (h : c.ws.length <= c.at') : c.tok c.at' = ⟨0, c.ep, 0, []⟩ := by
 unfold Cu.tok;rw [List.getD_eq_getElem?_getD, List.getElem?_eq_none h]; rfl
abbrev sA : Obj := .cells #[.int .i64 0, .int .i64 0, .int .i64 0, .string ⟨#[]⟩] 38
theorem qC {w : World} {B : Nat} {v : Value} {c : Cu} (h : zJ w B v c) : Calls Tryz.prog 39 #[.pointer (some ⟨B, 0, none⟩), .int .i64 (c.at' : Int)] w fun e w' => e = .returned (c.tok c.at').val /\ Below w.heap.size w w' := by
 have hlt := h.lt;have hle := h.le;have hBa := (Below.refl _ w).alloc (Nat.le_refl _) sA;have hal := h.below hBa;obtain ⟨⟨c0, c1, c2, c3, c4, -, -, -, -⟩, -⟩ := hal.all;by_cases hkl : c.ws.length <= c.at'
 ·
  obtain ⟨a, cap, rfl, -, -⟩ := h.row;have ht := qW hkl;clear hal;go_enter Tryz.func39, Tryz.ntmps39;go_wp2;refine bodyPost_ret (v := .agg #[.int .i64 0, .int .i64 c.ep, .int .i64 0, .string ⟨#[]⟩]) (by simp [results, Tryz.results39, go_sem]) rfl ⟨by rw [ht]; rfl, ?_⟩;exact (Below.refl _ w).alloc (Nat.le_refl _) _
 ·
  have hkl' : c.at' < c.ws.length := by omega
  obtain ⟨g, o, cap, rfl, hg, t0⟩ := cT h hkl';obtain ⟨t0, t1, t2, t3⟩ := t0.kept (zE hBa none) (by simp);have hv : Hid ((c.tok c.at').val = .agg #[.int .i64 (c.tok c.at').kind, .int .i64 (c.tok c.at').pos, .int .i64 (c.tok c.at').num, .string ⟨(c.tok c.at').text.toArray⟩]) := by show _ = _; rfl
  generalize c.tok c.at' = tk at *;clear hal c1 c2 c3 c4;go_enter Tryz.func39, Tryz.ntmps39;go_wp2;refine bodyPost_ret (v := .agg #[.int .i64 tk.kind, .int .i64 tk.pos, .int .i64 tk.num, .string ⟨tk.text.toArray⟩]) (by simp [results, Tryz.results39, go_sem]) rfl ⟨by rw [hv.out], ?_⟩;exact (Below.refl _ w).alloc (Nat.le_refl _) _
def Cu.peek (c : Cu) : Tk := if c.err = 0 then c.tok c.at' else rW
theorem rJ {w : World} {B : Nat} {v : Value} {c : Cu} (h : zJ w B v c) : Calls Tryz.prog 18 #[.pointer (some ⟨B, 0, none⟩)] w fun e w' => e = .returned c.peek.val /\ Below w.heap.size w w' := by
 have hlt := h.lt;have hBa := (Below.refl _ w).alloc (Nat.le_refl _) sA;have hal := h.below hBa;obtain ⟨⟨-, -, -, -, -, c5, -, -, -⟩, -⟩ := hal.all;have HF := uV hal;have HW := qC hal;have hpv : Hid (c.peek.val = if c.err = 0 then (c.tok c.at').val else rW.val) := by show _ = _; unfold Cu.peek; split <;> rfl
 have htv : Hid ((c.tok c.at').val = .agg #[.int .i64 (c.tok c.at').kind, .int .i64 (c.tok c.at').pos, .int .i64 (c.tok c.at').num, .string ⟨(c.tok c.at').text.toArray⟩]) := rfl;rw [htv.out] at HW hpv;generalize c.tok c.at' = tk at *;clear hal htv;go_enter Tryz.func18, Tryz.ntmps18;by_cases he : c.err = 0
 ·
  have hb : (c.err != 0) = false := by rw [he]; rfl
  rw [hb] at HF;go_wp2_with fail;refine HF.mono ?_; rintro e w1 ⟨rfl, rfl⟩;go_wp2_with fail;refine HW.mono ?_; rintro e w2 ⟨rfl, hB2⟩;have hB := zS hBa hB2;obtain ⟨d0, d1, d2, d3, f0, f1, f2, f3⟩ := zP hB2;go_wp2_with fail;refine bodyPost_ret (v := .agg #[.int .i64 tk.kind, .int .i64 tk.pos, .int .i64 tk.num, .string ⟨tk.text.toArray⟩]) (by simp [results, Tryz.results18, go_sem, d0, d1, d2, d3]) rfl ⟨by rw [hpv.out, if_pos he], ?_⟩;repeat refine Below.setCell ?_ (by simp) _
  exact hB
 ·
  have hb : (c.err != 0) = true := by rw [bne_iff_ne]; exact he
  rw [hb] at HF;go_wp2_with fail;refine HF.mono ?_; rintro e w1 ⟨rfl, rfl⟩;go_wp2_with fail;refine bodyPost_ret (v := rW.val) (by simp [results, Tryz.results18, go_sem, rW, Tk.val]) rfl ⟨by rw [hpv.out, if_neg he], ?_⟩;exact (Below.refl _ w).alloc (Nat.le_refl _) _
end Go.Proofs.YtdjomhbmhooceaaGreat.N5
namespace Go.Proofs.YtdjomhbmhooceaaGreat.N5
open Go.RowKit
def aA (w : World) (g : Nat) (ss : List (List UInt8)) : Prop := ∀ j (hj : j < ss.length), w.cell? ⟨g, j, none⟩ = some (.string ⟨ss[j].toArray⟩)
theorem eY (x y : List UInt8) : ((⟨x.toArray⟩ : ByteArray).toList == (⟨y.toArray⟩ : ByteArray).toList) = decide (x = y) := by
 rw [Lib.toList_data, Lib.toList_data];by_cases h : x = y
 ·
  subst h; simp
 ·
  simp [h]
def hasT (ss : List (List UInt8)) (x : List UInt8) : Bool := ss.contains x
def IdxIs (b : Bool) (w : World) (e : Ending) (w' : World) : Prop := ∃ i : Int, e = .returned (.int .i64 i) /\ decide (0 <= i) = b /\ w = w'
theorem bZ (g c n : Nat) (ss : List (List UInt8)) (x : List UInt8) (w : World) (hn : n = ss.length) (hn9 : n <= 4000) (h1 : aA w g ss) :
  Calls Tryz.prog 143 #[.slice (some ⟨g, 0, none⟩) n c, .string ⟨x.toArray⟩] w (IdxIs (hasT ss x) w) := by
 have HN : Hid (n = ss.length) := hn
 have H1 : Hid (aA w g ss) := h1
 clear hn h1
 go_enter Tryz.func143, Tryz.ntmps143
 go_wp2_with fail
 go_loop [8] (fun i => ∃ k : Nat, k <= n /\ i = .int .i64 (k : Int) /\ Hid (∀ j (hj : j < ss.length), j < k -> ss[j] ≠ x)) (fun i => n - (intOf i).toNat)
 case atStart => exact ⟨0, Nat.zero_le _, rfl, fun j _ h => absurd h (Nat.not_lt_zero _)⟩
 case round =>
  obtain ⟨k, hk, rfl, HK⟩ := hrel;by_cases hkn : k < n
  ·
   have hkn' : (k : Int) < n := by omega
   have hks : k < ss.length := by rw [<- HN.out]; exact hkn
   have hc := H1.out k hks;have ht := eY x ss[k];by_cases he : x = ss[k]
   ·
    have hm : Hid (decide (0 <= (k : Int)) = hasT ss x) := by
     show _ = ss.contains x;rw [he];simp
    simp only [he, decide_true] at ht;rw [<- he] at ht hc;generalize (⟨x.toArray⟩ : ByteArray) = y at *;clear he;go_wp2_with fail;try rw [Exit.noGoto_ret]
    go_ret;exact ⟨_, rfl, hm.out, rfl⟩
   ·
    have HK2 : Hid (∀ j (hj : j < ss.length), j < k + 1 -> ss[j] ≠ x) := fun j hj h => by
     rcases Nat.lt_or_ge j k with h' | h'
     ·
      exact HK.out j hj h'
     ·
      obtain rfl : j = k := by omega
      exact fun e => he e.symm
    simp only [he, decide_false] at ht;generalize (⟨x.toArray⟩ : ByteArray) = y at *;generalize (⟨ss[k].toArray⟩ : ByteArray) = z at *;clear he;go_wp2_with fail;go_round
    case rel => exact ⟨k + 1, by omega, by go_num, HK2⟩
    case measure => simp [intOf]; omega
  ·
   obtain rfl : k = n := by omega
   have hm : Hid (decide (0 <= (-1 : Int)) = hasT ss x) := by
    show _ = ss.contains x;symm;rw [show decide (0 <= (-1 : Int)) = false from rfl, <- Bool.not_eq_true, List.contains_iff_mem];intro h;obtain ⟨j, hj, he⟩ := List.mem_iff_getElem.1 h;exact HK.out j hj (by rw [HN.out]; exact hj) he
   go_wp2_with fail;try rw [Exit.noGoto_ret]
   go_ret;exact ⟨_, rfl, hm.out, rfl⟩
theorem iS (v : Value) (y : ByteArray) (b : Bool) (w : World) (HI : Calls Tryz.prog 143 #[v, .string y] w (IdxIs b w)) :
  Calls Tryz.prog 131 #[v, .string y] w fun e w' => e = .returned (.bool b) /\ w = w' := by
 go_enter Tryz.func131, Tryz.ntmps131
 go_wp2_with fail
 refine HI.mono ?_; rintro e w1 ⟨i, rfl, hb, rfl⟩
 go_wp2
 go_ret
 exact ⟨by rw [<- hb]; rfl, rfl⟩
theorem kK (g c n : Nat) (ss : List (List UInt8)) (x : List UInt8) (w : World) (hn : n = ss.length) (hn9 : n <= 4000) (h1 : aA w g ss) :
  Calls Tryz.prog 131 #[.slice (some ⟨g, 0, none⟩) n c, .string ⟨x.toArray⟩] w fun e w' => e = .returned (.bool (hasT ss x)) /\ w = w' :=
 iS _ _ _ w (bZ g c n ss x w hn hn9 h1)
def isOne (t : Tk) (ss : List (List UInt8)) : Bool := (decide (t.kind = 4) || decide (t.kind = 5)) && hasT ss t.text
theorem qT (t : Tk) (g c n : Nat) (ss : List (List UInt8)) (w : World) (hn : n = ss.length) (hn9 : n <= 4000) (hg : g < w.heap.size) (h1 : aA w g ss) :
  Calls Tryz.prog 111 #[t.val, .slice (some ⟨g, 0, none⟩) n c] w (RunsTo (isOne t ss) w) := by
 have hB : Below w.heap.size w (w.alloc (.cells #[.int .i64 t.kind, .int .i64 t.pos, .int .i64 t.num, .string ⟨t.text.toArray⟩] 38)) := (Below.refl _ w).alloc (Nat.le_refl _) _
 have HC := kK g c n ss t.text _ hn hn9 (fun j hj => (hB.cell (p := ⟨g, j, none⟩) hg).trans (h1 j hj))
 have hv : t.val = .agg #[.int .i64 t.kind, .int .i64 t.pos, .int .i64 t.num, .string ⟨t.text.toArray⟩] := rfl
 have HO : Hid (isOne t ss = ((decide (t.kind = 4) || decide (t.kind = 5)) && hasT ss t.text)) := rfl
 rw [hv]
 generalize hasT ss t.text = b at *
 generalize (⟨t.text.toArray⟩ : ByteArray) = y at *
 clear hv h1 hn
 go_enter Tryz.func111, Tryz.ntmps111
 have hcase : ((t.kind == 4) = true /\ Hid (isOne t ss = b)) \/ ((t.kind == 4) = false /\ (t.kind == 5) = true /\ Hid (isOne t ss = b)) \/ ((t.kind == 4) = false /\ (t.kind == 5) = false /\ Hid (isOne t ss = false)) := by
  by_cases h4 : t.kind = 4
  ·
   exact .inl ⟨by rw [h4]; rfl, by show _ = _; rw [HO.out]; simp [h4]⟩
  ·
   by_cases h5 : t.kind = 5
   ·
    exact .inr (.inl ⟨by rw [beq_eq_false_iff_ne]; exact h4, by rw [h5]; rfl, by show _ = _; rw [HO.out]; simp [h5]⟩)
   ·
    exact .inr (.inr ⟨by rw [beq_eq_false_iff_ne]; exact h4, by rw [beq_eq_false_iff_ne]; exact h5, by show _ = _; rw [HO.out]; simp [h4, h5]⟩)
 clear HO
 generalize t.kind = tk at *
 rcases hcase with ⟨q4, hR⟩ | ⟨q4, q5, hR⟩ | ⟨q4, q5, hR⟩
 ·
  go_wp2_with fail;refine HC.mono ?_; rintro e w1 ⟨rfl, rfl⟩;go_wp2;go_ret;exact ⟨by rw [hR.out]; rfl, hB⟩
 ·
  go_wp2_with fail;refine HC.mono ?_; rintro e w1 ⟨rfl, rfl⟩;go_wp2;go_ret;exact ⟨by rw [hR.out]; rfl, hB⟩
 ·
  go_wp2_with fail;go_ret;exact ⟨by rw [hR.out]; rfl, hB⟩
end Go.Proofs.YtdjomhbmhooceaaGreat.N5
namespace Go.Proofs.YtdjomhbmhooceaaGreat.N5
open Go.RowKit
attribute [local go_sem] xB xA
def tN (B : Nat) (v : Value) (c : Cu) (r : Value) (w : World) (e : Ending) (w' : World) : Prop := e = .returned r /\ zJ w' B v c /\ w.grownBy w' (some B)
theorem tN.of_below {B : Nat} {v : Value} {c : Cu} {r : Value} {w w' : World} (h : zJ w B v c) (hB : Below w.heap.size w w') : tN B v c r w (.returned r) w' := ⟨rfl, h.below hB, zE hB _⟩
def Cu.is (c : Cu) (x : List UInt8) : Bool := decide (c.err = 0) && isOne (c.tok c.at') [x]
theorem aR {w : World} {g : Nat} {y : ByteArray} (h : w.cell? ⟨g, 0, none⟩ = some (.string y)) : aA w g [y.data.toList] := fun j hj => by
 obtain rfl : j = 0 := by simpa using hj
 rw [h]; rfl
theorem lK (w : World) (v : Value) (ty : TypeId) : (w.alloc (.cells #[v] ty)).cell? ⟨w.heap.size, 0, none⟩ = some v := by
 rw [World.cell?_alloc_at _ _ _ _ rfl]; rfl
theorem AaK {w : World} {B : Nat} {v : Value} {c : Cu} (h : zJ w B v c) (y : ByteArray) : Calls Tryz.prog 90 #[.pointer (some ⟨B, 0, none⟩), .string y] w (RunsTo (c.is y.data.toList) w) := by
 have HF := uV h;have HW := qC h;have HI : Hid (c.is y.data.toList = (decide (c.err = 0) && isOne (c.tok c.at') [y.data.toList])) := rfl;have HO := fun w2 : World => qT (c.tok c.at') w2.heap.size 1 1 [y.data.toList] (w2.alloc (.cells #[.string y] 9)) rfl (by decide) (by simp) (aR (lK _ _ _))
 obtain ⟨⟨-, -, -, -, -, c5, -, -, -⟩, -⟩ := h.all;generalize isOne (c.tok c.at') [y.data.toList] = b at *;generalize (c.tok c.at').val = tv at *;by_cases he : c.err = 0
 ·
  have hb : (c.err != 0) = false := by rw [he]; rfl
  rw [hb] at HF;have hR : Hid (c.is y.data.toList = b) := by show _ = _; rw [HI.out]; simp [he]
  clear HI he hb;go_enter Tryz.func90, Tryz.ntmps90;go_wp2_with fail;refine HF.mono ?_; rintro e w1 ⟨rfl, rfl⟩;go_wp2_with fail;refine HW.mono ?_; rintro e w2 ⟨rfl, hB2⟩;go_wp2_with fail;refine (HO w2).mono ?_; rintro e w3 ⟨rfl, hB3⟩;go_wp2;go_ret;exact ⟨by rw [hR.out]; rfl, (hB2.alloc hB2.size _).trans (hB3.mono (by have := hB2.size; simp; omega))⟩
 ·
  have hb : (c.err != 0) = true := by rw [bne_iff_ne]; exact he
  rw [hb] at HF;have hR : Hid (c.is y.data.toList = false) := by show _ = _; rw [HI.out]; simp [he]
  clear HI he hb;go_enter Tryz.func90, Tryz.ntmps90;go_wp2_with fail;refine HF.mono ?_; rintro e w1 ⟨rfl, rfl⟩;go_wp2;go_ret;exact ⟨by rw [hR.out]; rfl, Below.refl _ _⟩
def Cu.fail (c : Cu) (x : Int) : Cu := if c.err = 0 then { c with pos := (c.tok c.at').pos, err := if x = 0 then 1 else x } else c
theorem sP {w : World} {B i : Nat} {cs : Array Value} {ty : TypeId} (h : w.heap[B]? = some (.cells cs ty (0, 0))) (x : Value) : (w.setCell ⟨B, i, none⟩ x).heap[B]? = some (.cells (cs.setIfInBounds i x) ty (0, 0)) := by
 obtain ⟨hlt, hk⟩ := Array.getElem?_eq_some_iff.1 h;show (w.heap.modify B _)[B]? = _;rw [Array.getElem?_eq_getElem (by rw [Array.size_modify]; exact hlt), Array.getElem_modify_self, hk];rfl
theorem zJ.failed {w : World} {B : Nat} {v : Value} {c : Cu} (h : zJ w B v c) (p x : Int) :
  zJ ((w.setCell ⟨B, 7, none⟩ (.int .i64 p)).setCell ⟨B, 8, none⟩ (.int .i64 x)) B v { c with pos := p, err := x } /\ w.grownBy ((w.setCell ⟨B, 7, none⟩ (.int .i64 p)).setCell ⟨B, 8, none⟩ (.int .i64 x)) (some B) := by
 have hg : w.grownBy ((w.setCell ⟨B, 7, none⟩ (.int .i64 p)).setCell ⟨B, 8, none⟩ (.int .i64 x)) (some B) := by
  refine ⟨rfl, rfl, rfl, by simp, fun k hk hne => ?_⟩;have hkB : k ≠ B := fun e => hne (by rw [e])
  rw [Below.heap_setCell _ _ _ k hkB, Below.heap_setCell _ _ _ k hkB]
 refine ⟨⟨?_, h.row.kept hg, h.le, h.few, h.kinds, h.deep⟩, hg⟩
 exact sP (sP h.cells _) _
theorem rC {w : World} {B : Nat} {v : Value} {c : Cu} (h : zJ w B v c) (x : Int) : Calls Tryz.prog 88 #[.pointer (some ⟨B, 0, none⟩), .int .i64 x] w (tN B v (c.fail x) (.bool false) w) := by
 have HF := uV h;have HW := qC h;obtain ⟨⟨-, -, -, -, -, c5, -, -, -⟩, -⟩ := h.all;by_cases he : c.err = 0
 ·
  have hb : (c.err != 0) = false := by rw [he]; rfl
  rw [hb] at HF;have hR : Hid (c.fail x = { c with pos := (c.tok c.at').pos, err := if x = 0 then 1 else x }) := by show _ = _; unfold Cu.fail; rw [if_pos he]
  have hv : (c.tok c.at').val = .agg #[.int .i64 (c.tok c.at').kind, .int .i64 (c.tok c.at').pos, .int .i64 (c.tok c.at').num, .string ⟨(c.tok c.at').text.toArray⟩] := rfl;rw [hv] at HW;generalize c.tok c.at' = t at *;clear hv he hb;have fin : ∀ (x' : Int), x' = (if x = 0 then 1 else x) -> ∀ w2, Below w.heap.size w w2 -> tN B v (c.fail x) (.bool false) w (.returned (.bool false)) ((w2.setCell ⟨B, 7, none⟩ (.int .i64 t.pos)).setCell ⟨B, 8, none⟩ (.int .i64 x')) := fun x' hx w2 hB2 => by
   obtain ⟨k1, k2⟩ := (h.below hB2).failed t.pos x';refine ⟨rfl, ?_, xF (zE hB2 _) k2⟩;rw [hR.out, <- hx]; exact k1
  by_cases hx : x = 0
  ·
   have hxb : (x == 0) = true := by rw [hx]; rfl
   have fin := fin 1 (by rw [if_pos hx]);clear hR hx;go_enter Tryz.func88, Tryz.ntmps88;go_wp2_with fail;refine HF.mono ?_; rintro e w1 ⟨rfl, rfl⟩;go_wp2_with fail;refine HW.mono ?_; rintro e w2 ⟨rfl, hB2⟩;obtain ⟨⟨-, -, -, -, -, -, -, d7, d8⟩, -, -, f7, f8⟩ := (h.below hB2).all;go_wp2;go_ret;exact fin w2 hB2
  ·
   have hxb : (x == 0) = false := by rw [beq_eq_false_iff_ne]; exact hx
   have fin := fin x (by rw [if_neg hx]);clear hR hx;go_enter Tryz.func88, Tryz.ntmps88;go_wp2_with fail;refine HF.mono ?_; rintro e w1 ⟨rfl, rfl⟩;go_wp2_with fail;refine HW.mono ?_; rintro e w2 ⟨rfl, hB2⟩;obtain ⟨⟨-, -, -, -, -, -, -, d7, d8⟩, -, -, f7, f8⟩ := (h.below hB2).all;go_wp2;go_ret;exact fin w2 hB2
 ·
  have hb : (c.err != 0) = true := by rw [bne_iff_ne]; exact he
  rw [hb] at HF;have hR : Hid (c.fail x = c) := by show _ = _; unfold Cu.fail; rw [if_neg he]
  clear he hb;go_enter Tryz.func88, Tryz.ntmps88;go_wp2_with fail;refine HF.mono ?_; rintro e w1 ⟨rfl, rfl⟩;go_wp2;go_ret;rw [hR.out];exact tN.of_below h (Below.refl _ _)
end Go.Proofs.YtdjomhbmhooceaaGreat.N5
namespace Go.Proofs.YtdjomhbmhooceaaGreat.N5
open Go.RowKit
attribute [local go_sem] xB xA
def Cu.adv (c : Cu) : Cu := if c.err = 0 /\ c.at' < c.ws.length then { c with at' := c.at' + 1 } else c
theorem bC {w : World} {B : Nat} {v : Value} {c : Cu} (h : zJ w B v c) : (c.peek.kind ≠ 0 ↔ c.err = 0 /\ c.at' < c.ws.length) := by
 unfold Cu.peek;by_cases he : c.err = 0
 ·
  rw [if_pos he];by_cases hl : c.at' < c.ws.length
  ·
   have : c.tok c.at' = c.ws[c.at'] := by unfold Cu.tok; rw [List.getD_eq_getElem?_getD, List.getElem?_eq_getElem hl]; rfl
   rw [this];exact ⟨fun _ => ⟨he, hl⟩, fun _ => h.kinds _ (List.getElem_mem hl)⟩
  ·
   rw [qW (by omega)];exact ⟨fun q => absurd rfl q, fun q => absurd q.2 hl⟩
 ·
  rw [if_neg he];exact ⟨fun q => absurd rfl q, fun q => absurd q.1 he⟩
theorem zJ.moved {w : World} {B : Nat} {v : Value} {c : Cu} (h : zJ w B v c) (hl : c.at' < c.ws.length) :
  zJ (w.setCell ⟨B, 5, none⟩ (.int .i64 ((c.at' : Int) + 1))) B v { c with at' := c.at' + 1 } /\ w.grownBy (w.setCell ⟨B, 5, none⟩ (.int .i64 ((c.at' : Int) + 1))) (some B) := by
 have hg : w.grownBy (w.setCell ⟨B, 5, none⟩ (.int .i64 ((c.at' : Int) + 1))) (some B) := by
  refine ⟨rfl, rfl, rfl, by simp, fun k hk hne => ?_⟩;rw [Below.heap_setCell _ _ _ k (fun e => hne (by rw [e]))]
 exact ⟨⟨sP h.cells _, h.row.kept hg, hl, h.few, h.kinds, h.deep⟩, hg⟩
theorem zJ.deeper {w : World} {B : Nat} {v : Value} {c : Cu} (h : zJ w B v c) (x : Int) (n : Nat) (hx : x = n) (hn : n <= 200) :
  zJ (w.setCell ⟨B, 6, none⟩ (.int .i64 x)) B v { c with nest := n } /\ w.grownBy (w.setCell ⟨B, 6, none⟩ (.int .i64 x)) (some B) := by
 have hg : w.grownBy (w.setCell ⟨B, 6, none⟩ (.int .i64 x)) (some B) := by
  refine ⟨rfl, rfl, rfl, by simp, fun k hk hne => ?_⟩;rw [Below.heap_setCell _ _ _ k (fun e => hne (by rw [e]))]
 subst hx
 exact ⟨⟨sP h.cells _, h.row.kept hg, h.le, h.few, h.kinds, hn⟩, hg⟩
theorem gB {w : World} {B : Nat} {v : Value} {c : Cu} (h : zJ w B v c) : Calls Tryz.prog 89 #[.pointer (some ⟨B, 0, none⟩)] w (tN B v c.adv c.peek.val w) := by
 have hlt := h.lt;have hBa := (Below.refl _ w).alloc (Nat.le_refl _) sA;have hal := h.below hBa;have HP := rJ hal;have hk := bC h;have hle := h.few;have hv : Hid (c.peek.val = .agg #[.int .i64 c.peek.kind, .int .i64 c.peek.pos, .int .i64 c.peek.num, .string ⟨c.peek.text.toArray⟩]) := rfl;rw [hv.out] at HP;by_cases hkind : c.peek.kind = 0
 ·
  have hadv : Hid (c.adv = c) := by show _ = _; unfold Cu.adv; rw [if_neg (fun q => (hk.2 q) hkind)]
  have hb : (c.peek.kind != 0) = false := by rw [hkind]; rfl
  clear hk hkind;generalize c.peek = t at *;go_enter Tryz.func89, Tryz.ntmps89;go_wp2_with fail;refine HP.mono ?_; rintro e w2 ⟨rfl, hB2⟩;have hBt := hB2.alloc hB2.size (.cells #[.int .i64 t.kind, .int .i64 t.pos, .int .i64 t.num, .string ⟨t.text.toArray⟩] 38);obtain ⟨d0, d1, d2, d3, f0, f1, f2, f3⟩ := zP hBt;go_wp2_with fail;refine bodyPost_ret (v := .agg #[.int .i64 t.kind, .int .i64 t.pos, .int .i64 t.num, .string ⟨t.text.toArray⟩]) (by simp [results, Tryz.results89, go_sem, d0, d1, d2, d3]) rfl ?_;rw [hadv.out, hv.out];refine tN.of_below h ?_;repeat refine Below.setCell ?_ (by simp) _
  exact hBa.trans (hBt.mono hBa.size)
 ·
  have hp := hk.1 hkind;have hadv : Hid (c.adv = { c with at' := c.at' + 1 }) := by show _ = _; unfold Cu.adv; rw [if_pos hp]
  have hb : (c.peek.kind != 0) = true := by rw [bne_iff_ne]; exact hkind
  have hl := hp.2;clear hk hkind hp;generalize c.peek = t at *;go_enter Tryz.func89, Tryz.ntmps89;go_wp2_with fail;refine HP.mono ?_; rintro e w2 ⟨rfl, hB2⟩;have hBt := hB2.alloc hB2.size (.cells #[.int .i64 t.kind, .int .i64 t.pos, .int .i64 t.num, .string ⟨t.text.toArray⟩] 38);obtain ⟨d0, d1, d2, d3, f0, f1, f2, f3⟩ := zP hBt;have hcur := hal.below hBt;obtain ⟨⟨-, -, -, -, -, c5, -, -, -⟩, g5, -, -, -⟩ := hcur.all;obtain ⟨k1, k2⟩ := hcur.moved hl;go_wp2_with fail;refine bodyPost_ret (v := .agg #[.int .i64 t.kind, .int .i64 t.pos, .int .i64 t.num, .string ⟨t.text.toArray⟩]) (by simp [results, Tryz.results89, go_sem, d0, d1, d2, d3]) rfl ?_;rw [hadv.out, hv.out];refine ⟨rfl, ?_⟩;repeat refine zJ.put h (by rfl) (Nat.le_refl _) ?_ _ _
  exact ⟨k1, xF (zE (hBa.trans (hBt.mono hBa.size)) _) k2⟩
def Cu.take (c : Cu) (x : List UInt8) : Cu := if c.is x = true then { c with at' := c.at' + 1 } else c
theorem wU {c : Cu} {x : List UInt8} (h : c.is x = true) : c.err = 0 /\ c.at' < c.ws.length := by
 unfold Cu.is isOne at h;simp only [Bool.and_eq_true, decide_eq_true_eq, Bool.or_eq_true] at h;refine ⟨h.1, ?_⟩;rcases Nat.lt_or_ge c.at' c.ws.length with hl | hl
 ·
  exact hl
 ·
  have := h.2.1;rw [qW hl] at this;simp at this
theorem jD {w : World} {B : Nat} {v : Value} {c : Cu} (h : zJ w B v c) (y : ByteArray) : Calls Tryz.prog 54 #[.pointer (some ⟨B, 0, none⟩), .string y] w (tN B v (c.take y.data.toList) (.bool (c.is y.data.toList)) w) := by
 have HI := AaK h y;have hle := h.few;cases hi : c.is y.data.toList with
 | false =>
  have hR : Hid (c.take y.data.toList = c) := by show _ = _; unfold Cu.take; rw [hi]; rfl
  rw [hi] at HI;clear hi;go_enter Tryz.func54, Tryz.ntmps54;go_wp2_with fail;refine HI.mono ?_; rintro e w1 ⟨rfl, hB⟩;go_wp2;go_ret;rw [hR.out];exact tN.of_below h hB
 | true =>
  have hR : Hid (c.take y.data.toList = { c with at' := c.at' + 1 }) := by show _ = _; unfold Cu.take; rw [hi]; rfl
  have hl := (wU hi).2;rw [hi] at HI;clear hi;go_enter Tryz.func54, Tryz.ntmps54;go_wp2_with fail;refine HI.mono ?_; rintro e w1 ⟨rfl, hB⟩;have hcur := h.below hB;obtain ⟨⟨-, -, -, -, -, c5, -, -, -⟩, g5, -, -, -⟩ := hcur.all;obtain ⟨k1, k2⟩ := hcur.moved hl;go_wp2;go_ret;rw [hR.out];exact ⟨rfl, k1, xF (zE hB _) k2⟩
def Cu.want (c : Cu) (x : List UInt8) : Cu := if c.is x = true then c.take x else c.fail 5
theorem AbA {w : World} {B : Nat} {v : Value} {c : Cu} (h : zJ w B v c) (y : ByteArray) : Calls Tryz.prog 58 #[.pointer (some ⟨B, 0, none⟩), .string y] w (tN B v (c.want y.data.toList) (.bool (c.is y.data.toList)) w) := by
 have HT := jD h y;cases hi : c.is y.data.toList with
 | false =>
  have hR : Hid (c.want y.data.toList = c.fail 5) := by show _ = _; unfold Cu.want; rw [hi]; rfl
  have hT : c.take y.data.toList = c := by unfold Cu.take; rw [hi]; rfl
  rw [hi, hT] at HT;clear hi hT;go_enter Tryz.func58, Tryz.ntmps58;go_wp2_with fail;refine HT.mono ?_; rintro e w1 ⟨rfl, hc, hg⟩;go_wp2_with fail;refine (rC hc 5).mono ?_; rintro e w2 ⟨rfl, hc2, hg2⟩;go_wp2;go_ret;rw [hR.out];exact ⟨rfl, hc2, xF hg hg2⟩
 | true =>
  have hR : Hid (c.want y.data.toList = c.take y.data.toList) := by show _ = _; unfold Cu.want; rw [hi]; rfl
  rw [hi] at HT;clear hi;go_enter Tryz.func58, Tryz.ntmps58;go_wp2_with fail;refine HT.mono ?_; rintro e w1 ⟨rfl, hc, hg⟩;go_wp2;go_ret;rw [hR.out];exact ⟨rfl, hc, hg⟩
def Cu.enter (c : Cu) : Cu := if c.err = 0 then (if 200 <= c.nest then c.fail 2 else { c with nest := c.nest + 1 }) else c
def Cu.enters (c : Cu) : Bool := decide (c.err = 0) && decide (c.nest < 200)
theorem lO {w : World} {B : Nat} {v : Value} {c : Cu} (h : zJ w B v c) : Calls Tryz.prog 96 #[.pointer (some ⟨B, 0, none⟩)] w (tN B v c.enter (.bool c.enters) w) := by
 have HF := uV h;obtain ⟨⟨-, -, -, -, -, -, c6, -, -⟩, -, f6, -, -⟩ := h.all;by_cases he : c.err = 0
 ·
  have hb : (c.err != 0) = false := by rw [he]; rfl
  rw [hb] at HF;by_cases hn : 200 <= c.nest
  ·
   have hR : Hid (c.enter = c.fail 2) := by show _ = _; unfold Cu.enter; rw [if_pos he, if_pos hn]
   have hE : Hid (c.enters = false) := by show _ = _; unfold Cu.enters; simp; omega
   have hd : decide ((200 : Int) <= c.nest) = true := by simp; omega
   have hFl := rC h 2;clear he hb hn;go_enter Tryz.func96, Tryz.ntmps96;go_wp2_with fail;refine HF.mono ?_; rintro e w1 ⟨rfl, rfl⟩;go_wp2_with fail;refine hFl.mono ?_; rintro e w2 ⟨rfl, hc2, hg2⟩;go_wp2;go_ret;rw [hR.out, hE.out];exact ⟨rfl, hc2, hg2⟩
  ·
   have hR : Hid (c.enter = { c with nest := c.nest + 1 }) := by show _ = _; unfold Cu.enter; rw [if_pos he, if_neg hn]
   have hE : Hid (c.enters = true) := by show _ = _; unfold Cu.enters; simp [he]; omega
   have hd : decide ((200 : Int) <= c.nest) = false := by simp; omega
   have hn' : c.nest < 200 := by omega
   obtain ⟨k1, k2⟩ := h.deeper ((c.nest : Int) + 1) (c.nest + 1) (by omega) (by omega);clear he hb hn;go_enter Tryz.func96, Tryz.ntmps96;go_wp2_with fail;refine HF.mono ?_; rintro e w1 ⟨rfl, rfl⟩;go_wp2_with fail;go_ret;rw [hR.out, hE.out];exact ⟨rfl, k1, k2⟩
 ·
  have hb : (c.err != 0) = true := by rw [bne_iff_ne]; exact he
  rw [hb] at HF;have hR : Hid (c.enter = c) := by show _ = _; unfold Cu.enter; rw [if_neg he]
  have hE : Hid (c.enters = false) := by show _ = _; unfold Cu.enters; simp [he]
  clear he hb;go_enter Tryz.func96, Tryz.ntmps96;go_wp2_with fail;refine HF.mono ?_; rintro e w1 ⟨rfl, rfl⟩;go_wp2;go_ret;rw [hR.out, hE.out];exact tN.of_below h (Below.refl _ _)
def Cu.leave (c : Cu) : Cu := if c.err = 0 then { c with nest := c.nest - 1 } else c
def CurLeft (B : Nat) (v : Value) (c : Cu) (w : World) (e : Ending) (w' : World) : Prop := (∃ r, e = .returned r) /\ zJ w' B v c /\ w.grownBy w' (some B)
theorem lI {w : World} {B : Nat} {v : Value} {c : Cu} (h : zJ w B v c) : Calls Tryz.prog 97 #[.pointer (some ⟨B, 0, none⟩)] w (CurLeft B v c.leave w) := by
 have HF := uV h;obtain ⟨⟨-, -, -, -, -, -, c6, -, -⟩, -, f6, -, -⟩ := h.all;by_cases he : c.err = 0
 ·
  have hb : (c.err != 0) = false := by rw [he]; rfl
  rw [hb] at HF;have hR : Hid (c.leave = { c with nest := c.nest - 1 }) := by show _ = _; unfold Cu.leave; rw [if_pos he]
  by_cases hn : 0 < c.nest
  ·
   have hd : decide ((0 : Int) < c.nest) = true := by simp; omega
   obtain ⟨k1, k2⟩ := h.deeper ((c.nest : Int) - 1) (c.nest - 1) (by omega) (by have := h.deep; omega);clear he hb;have hn9 := h.deep;go_enter Tryz.func97, Tryz.ntmps97;go_wp2_with fail;refine HF.mono ?_; rintro e w1 ⟨rfl, rfl⟩;go_wp2_with fail;go_end0;rw [hR.out];exact ⟨⟨_, rfl⟩, k1, k2⟩
  ·
   have hn0 : c.nest = 0 := by omega
   have hd : decide (0 < c.nest) = false := by simp; omega
   have hR2 : Hid (c.leave = c) := by
    show _ = _;rw [hR.out, hn0];show ({ c with nest := 0 } : Cu) = c;rw [<- hn0]
   clear he hb hn hn0;go_enter Tryz.func97, Tryz.ntmps97;go_wp2_with fail;refine HF.mono ?_; rintro e w1 ⟨rfl, rfl⟩;go_wp2_with fail;go_end0;rw [hR2.out];exact ⟨⟨_, rfl⟩, h, zE (Below.refl _ _) _⟩
 ·
  have hb : (c.err != 0) = true := by rw [bne_iff_ne]; exact he
  rw [hb] at HF;have hR : Hid (c.leave = c) := by show _ = _; unfold Cu.leave; rw [if_neg he]
  clear he hb;go_enter Tryz.func97, Tryz.ntmps97;go_wp2_with fail;refine HF.mono ?_; rintro e w1 ⟨rfl, rfl⟩;go_wp2;go_end0;rw [hR.out];exact ⟨⟨_, rfl⟩, h, zE (Below.refl _ _) _⟩
end Go.Proofs.YtdjomhbmhooceaaGreat.N5
namespace Go.Proofs.YtdjomhbmhooceaaGreat.N5
open Go.RowKit
attribute [local go_sem] xB xA
def Cu.kind (c : Cu) (k : Int) : Cu := if c.err = 0 then (if (c.tok c.at').kind = k then c.adv else c.fail 5) else c
def Cu.kindT (c : Cu) (k : Int) : Tk := if c.err = 0 /\ (c.tok c.at').kind = k then c.tok c.at' else rW
def Cu.kindOk (c : Cu) (k : Int) : Bool := decide (c.err = 0) && decide ((c.tok c.at').kind = k)
theorem jW : rW.val = .agg #[.int .i64 0, .int .i64 0, .int .i64 0, .string ⟨#[]⟩] := rfl
theorem fail_ws (c : Cu) (x : Int) : (c.fail x).ws = c.ws := by unfold Cu.fail; split <;> rfl
theorem adv_ws (c : Cu) : c.adv.ws = c.ws := by unfold Cu.adv; split <;> rfl
theorem tB {w w' : World} {B : Nat} {cs : Array Value} {ty : TypeId} (hg : (w.alloc (.cells cs ty)).grownBy w' (some B)) (hB : B < w.heap.size) (j : Nat) :
  w'.cell? ⟨w.heap.size, j, none⟩ = cs[j]? /\ w'.frozen? ⟨w.heap.size, j, none⟩ = false := by
 have h1 : w'.heap[w.heap.size]? = some (.cells cs ty (0, 0)) := (hg.block _ (by simp) (fun e => by injection e; omega)).trans (World.alloc_heap_new w _)
 constructor
 ·
  simp [World.cell?, h1]
 ·
  simp [World.frozen?, h1]
theorem iP {w w' : World} {B : Nat} {x0 x1 x2 x3 : Value} {ty : TypeId} (hg : (w.alloc (.cells #[x0, x1, x2, x3] ty)).grownBy w' (some B)) (hB : B < w.heap.size) :
  w'.cell? ⟨w.heap.size, 0, none⟩ = some x0 /\ w'.cell? ⟨w.heap.size, 1, none⟩ = some x1 /\ w'.cell? ⟨w.heap.size, 2, none⟩ = some x2 /\ w'.cell? ⟨w.heap.size, 3, none⟩ = some x3 /\
  w'.frozen? ⟨w.heap.size, 0, none⟩ = false /\ w'.frozen? ⟨w.heap.size, 1, none⟩ = false /\ w'.frozen? ⟨w.heap.size, 2, none⟩ = false /\ w'.frozen? ⟨w.heap.size, 3, none⟩ = false :=
 ⟨(tB hg hB 0).1, (tB hg hB 1).1, (tB hg hB 2).1, (tB hg hB 3).1, (tB hg hB 0).2, (tB hg hB 1).2, (tB hg hB 2).2, (tB hg hB 3).2⟩
theorem aL {w : World} {B : Nat} {v : Value} {c : Cu} (h : zJ w B v c) (k : Int) : Calls Tryz.prog 53 #[.pointer (some ⟨B, 0, none⟩), .int .i64 k] w (tN B v (c.kind k) (.tuple #[(c.kindT k).val, .bool (c.kindOk k)]) w) := by
 have hlt := h.lt;have hBa := (Below.refl _ w).alloc (Nat.le_refl _) sA;have hal := h.below hBa;have HF := uV hal;have HW := qC hal;have hv : Hid ((c.tok c.at').val = .agg #[.int .i64 (c.tok c.at').kind, .int .i64 (c.tok c.at').pos, .int .i64 (c.tok c.at').num, .string ⟨(c.tok c.at').text.toArray⟩]) := rfl;rw [hv.out] at HW;obtain ⟨⟨-, -, -, -, -, c5, -, -, -⟩, -⟩ := hal.all;by_cases he : c.err = 0
 ·
  have hb : (c.err != 0) = false := by rw [he]; rfl
  rw [hb] at HF;by_cases hk : (c.tok c.at').kind = k
  ·
   have hkb : ((c.tok c.at').kind != k) = false := by rw [hk]; simp
   have hR1 : Hid (c.kind k = c.adv) := by show _ = _; unfold Cu.kind; rw [if_pos he, if_pos hk]
   have hR2 : Hid (c.kindT k = c.tok c.at') := by show _ = _; unfold Cu.kindT; rw [if_pos ⟨he, hk⟩]
   have hR3 : Hid (c.kindOk k = true) := by show _ = _; unfold Cu.kindOk; simp [he, hk]
   have hpk : c.peek = c.tok c.at' := by unfold Cu.peek; rw [if_pos he]
   have HN := fun w2 (hB : Below (w.alloc sA).heap.size (w.alloc sA) w2) => gB (hal.below hB)
   rw [hpk, hv.out] at HN;generalize c.tok c.at' = t at *;clear he hb hk hpk;go_enter Tryz.func53, Tryz.ntmps53;go_wp2_with fail;refine HF.mono ?_; rintro e w1 ⟨rfl, rfl⟩;go_wp2_with fail;refine HW.mono ?_; rintro e w2 ⟨rfl, hB2⟩;go_wp2_with fail;refine (HN w2 hB2).mono ?_; rintro e w3 ⟨rfl, k1, k2⟩;have hg3 := xF (zE hB2 (some B)) k2;obtain ⟨d0, d1, d2, d3, f0, f1, f2, f3⟩ := iP hg3 hlt;go_wp2_with fail;refine bodyPost_ret (v := .tuple #[.agg #[.int .i64 t.kind, .int .i64 t.pos, .int .i64 t.num, .string ⟨t.text.toArray⟩], .bool true]) (by simp [results, Tryz.results53, go_sem, d0, d1, d2, d3]) rfl ?_;rw [hR1.out, hR2.out, hR3.out, hv.out];refine ⟨rfl, ?_⟩;repeat refine zJ.put h (adv_ws c) (Nat.le_refl _) ?_ _ _
   exact ⟨k1, xF (zE hBa _) hg3⟩
  ·
   have hkb : ((c.tok c.at').kind != k) = true := by rw [bne_iff_ne]; exact hk
   have hR1 : Hid (c.kind k = c.fail 5) := by show _ = _; unfold Cu.kind; rw [if_pos he, if_neg hk]
   have hR2 : Hid (c.kindT k = rW) := by show _ = _; unfold Cu.kindT; rw [if_neg (fun q => hk q.2)]
   have hR3 : Hid (c.kindOk k = false) := by show _ = _; unfold Cu.kindOk; simp [hk]
   have HN := fun w2 (hB : Below (w.alloc sA).heap.size (w.alloc sA) w2) => rC (hal.below hB) 5
   generalize c.tok c.at' = t at *;clear he hb hk;go_enter Tryz.func53, Tryz.ntmps53;go_wp2_with fail;refine HF.mono ?_; rintro e w1 ⟨rfl, rfl⟩;go_wp2_with fail;refine HW.mono ?_; rintro e w2 ⟨rfl, hB2⟩;go_wp2_with fail;refine (HN w2 hB2).mono ?_; rintro e w3 ⟨rfl, k1, k2⟩;have hg3 := xF (zE hB2 (some B)) k2;obtain ⟨d0, d1, d2, d3, f0, f1, f2, f3⟩ := iP hg3 hlt;go_wp2_with fail;refine bodyPost_ret (v := .tuple #[.agg #[.int .i64 0, .int .i64 0, .int .i64 0, .string ⟨#[]⟩], .bool false]) (by simp [results, Tryz.results53, go_sem, d0, d1, d2, d3]) rfl ?_;rw [hR1.out, hR2.out, hR3.out, jW];refine ⟨rfl, ?_⟩;repeat refine zJ.put h (fail_ws c 5) (Nat.le_refl _) ?_ _ _
   exact ⟨k1, xF (zE hBa _) hg3⟩
 ·
  have hb : (c.err != 0) = true := by rw [bne_iff_ne]; exact he
  rw [hb] at HF;have hR1 : Hid (c.kind k = c) := by show _ = _; unfold Cu.kind; rw [if_neg he]
  have hR2 : Hid (c.kindT k = rW) := by show _ = _; unfold Cu.kindT; rw [if_neg (fun q => he q.1)]
  have hR3 : Hid (c.kindOk k = false) := by show _ = _; unfold Cu.kindOk; simp [he]
  clear he hb;go_enter Tryz.func53, Tryz.ntmps53;go_wp2_with fail;refine HF.mono ?_; rintro e w1 ⟨rfl, rfl⟩;go_wp2_with fail;refine bodyPost_ret (v := .tuple #[.agg #[.int .i64 0, .int .i64 0, .int .i64 0, .string ⟨#[]⟩], .bool false]) (by simp [results, Tryz.results53, go_sem]) rfl ?_;rw [hR1.out, hR2.out, hR3.out, jW];exact tN.of_below h hBa
def Cu.doneP (c : Cu) : Int := if c.err = 0 then (c.tok c.at').pos else c.pos
def Cu.doneE (c : Cu) : Int := if c.err = 0 then (if (c.tok c.at').kind = 0 then 0 else 5) else c.err
def aW (p x : Int) (w : World) (e : Ending) (w' : World) : Prop := e = .returned (.tuple #[.int .i64 p, .int .i64 x]) /\ Below w.heap.size w w'
theorem qO {w : World} {B : Nat} {v : Value} {c : Cu} (h : zJ w B v c) : Calls Tryz.prog 16 #[.pointer (some ⟨B, 0, none⟩)] w (aW c.doneP c.doneE w) := by
 have hlt := h.lt;have HW := qC h;have hv : Hid ((c.tok c.at').val = .agg #[.int .i64 (c.tok c.at').kind, .int .i64 (c.tok c.at').pos, .int .i64 (c.tok c.at').num, .string ⟨(c.tok c.at').text.toArray⟩]) := rfl;rw [hv.out] at HW;obtain ⟨⟨-, -, -, -, -, c5, -, c7, c8⟩, -⟩ := h.all;by_cases he : c.err = 0
 ·
  have hb : (c.err != 0) = false := by rw [he]; rfl
  have hP : Hid (c.doneP = (c.tok c.at').pos) := by show _ = _; unfold Cu.doneP; rw [if_pos he]
  have hE : Hid (c.doneE = if (c.tok c.at').kind = 0 then 0 else 5) := by show _ = _; unfold Cu.doneE; rw [if_pos he]
  generalize c.tok c.at' = t at *;clear he hv;by_cases hk : t.kind = 0
  ·
   have hkb : (t.kind != 0) = false := by rw [hk]; rfl
   have hE : Hid (c.doneE = 0) := by show _ = _; rw [hE.out, if_pos hk]
   clear hk;go_enter Tryz.func16, Tryz.ntmps16;go_wp2_with fail;refine HW.mono ?_; rintro e w2 ⟨rfl, hB2⟩;go_wp2_with fail;refine bodyPost_ret (v := .tuple #[.int .i64 t.pos, .int .i64 0]) (by simp [results, Tryz.results16, go_sem]) rfl ⟨by rw [hP.out, hE.out], hB2.alloc hB2.size _⟩
  ·
   have hkb : (t.kind != 0) = true := by rw [bne_iff_ne]; exact hk
   have hE : Hid (c.doneE = 5) := by show _ = _; rw [hE.out, if_neg hk]
   clear hk;go_enter Tryz.func16, Tryz.ntmps16;go_wp2_with fail;refine HW.mono ?_; rintro e w2 ⟨rfl, hB2⟩;go_wp2_with fail;refine bodyPost_ret (v := .tuple #[.int .i64 t.pos, .int .i64 5]) (by simp [results, Tryz.results16, go_sem]) rfl ⟨by rw [hP.out, hE.out], hB2.alloc hB2.size _⟩
 ·
  have hb : (c.err != 0) = true := by rw [bne_iff_ne]; exact he
  have hP : Hid (c.doneP = c.pos) := by show _ = _; unfold Cu.doneP; rw [if_neg he]
  have hE : Hid (c.doneE = c.err) := by show _ = _; unfold Cu.doneE; rw [if_neg he]
  clear he hv HW;go_enter Tryz.func16, Tryz.ntmps16;go_wp2_with fail;go_quiet (fail);go_wp2_with fail;refine bodyPost_ret (v := .tuple #[.int .i64 c.pos, .int .i64 c.err]) (by simp [results, Tryz.results16, go_sem]) rfl ⟨by rw [hP.out, hE.out], _root_.Go.below_drewN (Below.refl _ _) _⟩
end Go.Proofs.YtdjomhbmhooceaaGreat.N5
namespace Go.Proofs.YtdjomhbmhooceaaGreat.N5
open Go.RowKit
attribute [local go_sem] xB xA
def uU (x : List UInt8) : Nat -> List Tk -> Bool
 | _, [] => false
 | d, t :: r =>
  if isOne t [[40], [123]] = true then uU x (d + 1) r
  else if isOne t [[41], [125]] = true then (if d = 0 then false else uU x (d - 1) r)
  else if 0 < d then uU x d r
  else if isOne t [[59]] = true then false
  else if isOne t [x] = true then true
  else uU x d r
def Cu.ahead (c : Cu) (x : List UInt8) : Bool := decide (c.err = 0) && uU x 0 (c.ws.drop c.at')
theorem tx_two {w : World} (a b : ByteArray) : aA (w.alloc (.cells #[.string a, .string b] 9)) w.heap.size [a.data.toList, b.data.toList] := fun j hj => by
 rw [World.cell?_alloc_at _ _ _ _ rfl];match j, hj with
 | 0, _ => rfl
 | 1, _ => rfl
theorem lG (t : Tk) (a b : ByteArray) (w : World) (n : Nat) (hn : n = w.heap.size) : Calls Tryz.prog 111 #[t.val, .slice (some ⟨n, 0, none⟩) 2 2] (w.alloc (.cells #[.string a, .string b] 9)) (RunsTo (isOne t [a.data.toList, b.data.toList]) (w.alloc (.cells #[.string a, .string b] 9))) := by
 subst hn;exact qT t w.heap.size 2 2 _ _ rfl (by decide) (by simp) (tx_two a b)
theorem lH (t : Tk) (a : ByteArray) (w : World) (n : Nat) (hn : n = w.heap.size) : Calls Tryz.prog 111 #[t.val, .slice (some ⟨n, 0, none⟩) 1 1] (w.alloc (.cells #[.string a] 9)) (RunsTo (isOne t [a.data.toList]) (w.alloc (.cells #[.string a] 9))) := by
 subst hn;exact qT t w.heap.size 1 1 _ _ rfl (by decide) (by simp) (aR (lK _ _ _))
theorem bU {w : World} {B : Nat} {v : Value} {c : Cu} (h : zJ w B v c) (y : ByteArray) : Calls Tryz.prog 132 #[.pointer (some ⟨B, 0, none⟩), .string y] w (RunsTo (c.ahead y.data.toList) w) := by
 have hlt := h.lt;have HF := uV h;by_cases he : c.err = 0
 ·
  have hb : (c.err != 0) = false := by rw [he]; rfl
  rw [hb] at HF;have hR : Hid (c.ahead y.data.toList = uU y.data.toList 0 (c.ws.drop c.at')) := by show _ = _; unfold Cu.ahead; simp [he]
  have hle := h.le;have hfew := h.few;obtain ⟨⟨c0, -, -, -, -, c5, -, -, -⟩, -⟩ := h.all;obtain ⟨a, cap, rfl, hcap, hrow⟩ := h.row;obtain ⟨n, hn⟩ : ∃ n, n = c.ws.length := ⟨_, rfl⟩;have HN : Hid (n = c.ws.length) := hn;rw [<- hn] at c0 hle hfew hcap;obtain ⟨k0, hk0⟩ : ∃ k0, k0 = c.at' := ⟨_, rfl⟩;rw [<- hk0] at c5 hle hR;clear he hb hn;clear hk0;by_cases hkn : k0 = n
  ·
   subst hkn;have hR : Hid (c.ahead y.data.toList = false) := by
    show _ = _;rw [hR.out, List.drop_of_length_le (by rw [HN.out]; exact Nat.le_refl _)]; rfl
   clear hrow;rcases Nat.decEq cap k0 with hck | hck
   all_goals (
    go_enter Tryz.func132, Tryz.ntmps132
    go_wp2_with fail
    refine HF.mono ?_; rintro e w1 ⟨rfl, rfl⟩
    go_wp2_with fail
    go_quiet (fail)
    go_wp2_with fail
    refine wp_loop_rounds 1 ?_
    rw [rounds_succ]
    go_wp2
    try rw [Exit.noGoto_ret]
    go_ret
    rw [hR.out]
    exact ⟨rfl, _root_.Go.below_drewN (Below.refl _ _) _⟩)
  ·
   have hlt0 : k0 < n := by omega
   have hck : ¬ cap = k0 := by omega
   obtain ⟨g, o, rfl, hg, hgB, hc⟩ : ∃ g o, a = some ⟨g, o, none⟩ /\ g < w.heap.size /\ g ≠ B /\ ∀ (j : Nat) (hj : j < c.ws.length), tX w g o j c.ws[j] := by
    rcases hrow with h0 | h0
    ·
     rw [h0] at HN; have := HN.out; simp at this; omega
    ·
     exact h0
   have HC : Hid (∀ (j : Nat) (hj : j < c.ws.length), tX w g o j c.ws[j]) := hc;clear hc hrow hkn;go_enter Tryz.func132, Tryz.ntmps132;go_wp2_with fail;refine HF.mono ?_; rintro e w1 ⟨rfl, rfl⟩;go_wp2_with fail;go_quiet (fail);go_wp2_with fail;generalize hm : n - k0 = m;have hm9 : m <= 4000 := by omega
   have hB0 := _root_.Go.below_drewN (Below.refl w.heap.size w) nq;generalize w.drewN nq = w0 at *;clear c0 c5 HF;go_loopw [5, 20] (fun d i wr => ∃ k q : Nat, k <= m /\ i = .int .i64 (k : Int) /\ d = .int .i64 (q : Int) /\ q <= k /\ Hid (uU y.data.toList q (c.ws.drop (k0 + k)) = c.ahead y.data.toList) /\ Below w.heap.size w wr) (fun _ i _ => m - (intOf i).toNat)
   case atStart => exact ⟨0, 0, Nat.zero_le _, rfl, rfl, Nat.le_refl _, hR.out.symm, hB0⟩
   case round =>
    obtain ⟨k, q, hk, rfl, rfl, hq, HK, hB⟩ := hrel;clear hR hB0;by_cases hkm : k < m
    ·
     have hkm' : (k : Int) < m := by omega
     have hkX : k0 + k < c.ws.length := by rw [<- HN.out]; omega
     have hK := HK.out;rw [List.drop_eq_getElem_cons hkX] at hK;obtain ⟨a0, a1, a2, a3⟩ := (HC.out (k0 + k) hkX).kept (zE hB none) (by simp);have e4 : o + (k0 + k) * 4 = o + k0 * 4 + k * 4 := by omega
     rw [e4] at a0 a1 a2 a3;generalize c.ws[k0 + k] = t at *;have hv : t.val = .agg #[.int .i64 t.kind, .int .i64 t.pos, .int .i64 t.num, .string ⟨t.text.toArray⟩] := rfl;have P1 := fun (w2 : World) n hn => lG t ⟨#[40]⟩ ⟨#[123]⟩ w2 n hn
     have P2 := fun (w2 : World) n hn => lG t ⟨#[41]⟩ ⟨#[125]⟩ w2 n hn
     have P3 := fun (w2 : World) n hn => lH t ⟨#[59]⟩ w2 n hn
     have P4 := fun (w2 : World) n hn => lH t y w2 n hn
     rw [hv] at P1 P2 P3 P4;have P1 := fun w2 n hn => (P1 w2 n hn).mono (R' := RunsTo (isOne t [[40], [123]]) _) (fun _ _ h => h)
     have P2 := fun w2 n hn => (P2 w2 n hn).mono (R' := RunsTo (isOne t [[41], [125]]) _) (fun _ _ h => h)
     have P3 := fun w2 n hn => (P3 w2 n hn).mono (R' := RunsTo (isOne t [[59]]) _) (fun _ _ h => h)
     rw [uU] at hK;have HB1 : ∀ w9, Below (wr.alloc (.cells #[.int .i64 t.kind, .int .i64 t.pos, .int .i64 t.num, .string ⟨t.text.toArray⟩] 38)).heap.size (wr.alloc (.cells #[.int .i64 t.kind, .int .i64 t.pos, .int .i64 t.num, .string ⟨t.text.toArray⟩] 38)) w9 -> Below w.heap.size w w9 := fun w9 h9 => (hB.alloc hB.size _).trans (h9.mono (hB.alloc hB.size _).size)
     have HB0 := Below.refl (wr.alloc (.cells #[.int .i64 t.kind, .int .i64 t.pos, .int .i64 t.num, .string ⟨t.text.toArray⟩] 38)).heap.size (wr.alloc (.cells #[.int .i64 t.kind, .int .i64 t.pos, .int .i64 t.num, .string ⟨t.text.toArray⟩] 38));have nextR : ∀ q', uU y.data.toList q' (c.ws.drop (k0 + k + 1)) = c.ahead y.data.toList -> Hid (uU y.data.toList q' (c.ws.drop (k0 + (k + 1))) = c.ahead y.data.toList) := fun q' h => h
     cases b1 : isOne t [[40], [123]] with
     | true =>
      rw [if_pos b1] at hK;have HX := nextR _ hK;rw [b1] at P1;clear hK nextR P2 P3 P4 hv b1;go_wp2_with fail;refine (P1 (wr.alloc (.cells #[.int .i64 t.kind, .int .i64 t.pos, .int .i64 t.num, .string ⟨t.text.toArray⟩] 38)) (wr.heap.size + 1) (by simp)).mono ?_; rintro e w2 ⟨rfl, hB2⟩;have hB2 := (HB0.alloc (Nat.le_refl _) _).trans (hB2.mono (HB0.alloc (Nat.le_refl _) _).size);go_wp2_with fail;go_roundw
      case rel => exact ⟨k + 1, q + 1, by omega, by go_num, by go_num, by omega, HX, HB1 _ hB2⟩
      case measure => simp [intOf]; omega
     | false =>
      rw [if_neg (by rw [b1]; simp)] at hK;rw [b1] at P1;cases b2 : isOne t [[41], [125]] with
      | true =>
       rw [if_pos b2] at hK;rw [b2] at P2;by_cases hq0 : q = 0
       ·
        subst hq0;have HX : Hid (false = c.ahead y.data.toList) := hK;clear hK nextR P3 P4 hv b1 b2;go_wp2_with fail;refine (P1 (wr.alloc (.cells #[.int .i64 t.kind, .int .i64 t.pos, .int .i64 t.num, .string ⟨t.text.toArray⟩] 38)) (wr.heap.size + 1) (by simp)).mono ?_; rintro e w2 ⟨rfl, hB2⟩;have hB2 := (HB0.alloc (Nat.le_refl _) _).trans (hB2.mono (HB0.alloc (Nat.le_refl _) _).size);obtain ⟨d0, d1, d2, d3, -, -, -, -⟩ := zP hB2;go_wp2_with fail;refine (P2 w2 w2.heap.size rfl).mono ?_; rintro e w3 ⟨rfl, hB3⟩;have hB3 := (hB2.alloc hB2.size _).trans (hB3.mono (hB2.alloc hB2.size _).size);go_wp2_with fail;try rw [Exit.noGoto_ret]
        go_ret;rw [<- HX.out];exact ⟨rfl, HB1 _ hB3⟩
       ·
        have hq1 : 0 < q := by omega
        rw [if_neg hq0] at hK;have HX := nextR _ hK;clear hK nextR P3 P4 hv b1 b2 hq0;go_wp2_with fail;refine (P1 (wr.alloc (.cells #[.int .i64 t.kind, .int .i64 t.pos, .int .i64 t.num, .string ⟨t.text.toArray⟩] 38)) (wr.heap.size + 1) (by simp)).mono ?_; rintro e w2 ⟨rfl, hB2⟩;have hB2 := (HB0.alloc (Nat.le_refl _) _).trans (hB2.mono (HB0.alloc (Nat.le_refl _) _).size);obtain ⟨d0, d1, d2, d3, -, -, -, -⟩ := zP hB2;go_wp2_with fail;refine (P2 w2 w2.heap.size rfl).mono ?_; rintro e w3 ⟨rfl, hB3⟩;have hB3 := (hB2.alloc hB2.size _).trans (hB3.mono (hB2.alloc hB2.size _).size);go_wp2_with fail;go_roundw
        case rel => exact ⟨k + 1, q - 1, by omega, by go_num, by congr 1; omega, by omega, HX, HB1 _ hB3⟩
        case measure => simp [intOf]; omega
      | false =>
       rw [if_neg (by rw [b2]; simp)] at hK;rw [b2] at P2;by_cases hq0 : 0 < q
       ·
        rw [if_pos hq0] at hK;have HX := nextR _ hK;clear hK nextR P3 P4 hv b1 b2;go_wp2_with fail;refine (P1 (wr.alloc (.cells #[.int .i64 t.kind, .int .i64 t.pos, .int .i64 t.num, .string ⟨t.text.toArray⟩] 38)) (wr.heap.size + 1) (by simp)).mono ?_; rintro e w2 ⟨rfl, hB2⟩;have hB2 := (HB0.alloc (Nat.le_refl _) _).trans (hB2.mono (HB0.alloc (Nat.le_refl _) _).size);obtain ⟨d0, d1, d2, d3, -, -, -, -⟩ := zP hB2;go_wp2_with fail;refine (P2 w2 w2.heap.size rfl).mono ?_; rintro e w3 ⟨rfl, hB3⟩;have hB3 := (hB2.alloc hB2.size _).trans (hB3.mono (hB2.alloc hB2.size _).size);go_wp2_with fail;go_roundw
        case rel => exact ⟨k + 1, q, by omega, by go_num, rfl, by omega, HX, HB1 _ hB3⟩
        case measure => simp [intOf]; omega
       ·
        rw [if_neg hq0] at hK;obtain rfl : q = 0 := by omega
        cases b3 : isOne t [[59]] with
        | true =>
        rw [if_pos b3] at hK;rw [b3] at P3;have HX : Hid (false = c.ahead y.data.toList) := hK;clear hK nextR P4 hv b1 b2 b3 hq0;go_wp2_with fail;refine (P1 (wr.alloc (.cells #[.int .i64 t.kind, .int .i64 t.pos, .int .i64 t.num, .string ⟨t.text.toArray⟩] 38)) (wr.heap.size + 1) (by simp)).mono ?_; rintro e w2 ⟨rfl, hB2⟩;have hB2 := (HB0.alloc (Nat.le_refl _) _).trans (hB2.mono (HB0.alloc (Nat.le_refl _) _).size);obtain ⟨d0, d1, d2, d3, -, -, -, -⟩ := zP hB2;go_wp2_with fail;refine (P2 w2 w2.heap.size rfl).mono ?_; rintro e w3 ⟨rfl, hB3⟩;have hB3 := (hB2.alloc hB2.size _).trans (hB3.mono (hB2.alloc hB2.size _).size);obtain ⟨f0, f1, f2, f3, -, -, -, -⟩ := zP hB3;clear d0 d1 d2 d3;go_wp2_with fail;refine (P3 w3 w3.heap.size rfl).mono ?_; rintro e w4 ⟨rfl, hB4⟩;have hB4 := (hB3.alloc hB3.size _).trans (hB4.mono (hB3.alloc hB3.size _).size);go_wp2_with fail;try rw [Exit.noGoto_ret]
        go_ret;rw [<- HX.out];exact ⟨rfl, HB1 _ hB4⟩
        | false =>
        rw [if_neg (by rw [b3]; simp)] at hK;rw [b3] at P3;cases b4 : isOne t [y.data.toList] with
        | true =>
        rw [if_pos b4] at hK;rw [b4] at P4;have HX : Hid (true = c.ahead y.data.toList) := hK;clear hK nextR hv b1 b2 b3 b4 hq0;go_wp2_with fail;refine (P1 (wr.alloc (.cells #[.int .i64 t.kind, .int .i64 t.pos, .int .i64 t.num, .string ⟨t.text.toArray⟩] 38)) (wr.heap.size + 1) (by simp)).mono ?_; rintro e w2 ⟨rfl, hB2⟩;have hB2 := (HB0.alloc (Nat.le_refl _) _).trans (hB2.mono (HB0.alloc (Nat.le_refl _) _).size);obtain ⟨d0, d1, d2, d3, -, -, -, -⟩ := zP hB2;go_wp2_with fail;refine (P2 w2 w2.heap.size rfl).mono ?_; rintro e w3 ⟨rfl, hB3⟩;have hB3 := (hB2.alloc hB2.size _).trans (hB3.mono (hB2.alloc hB2.size _).size);obtain ⟨f0, f1, f2, f3, -, -, -, -⟩ := zP hB3;clear d0 d1 d2 d3;go_wp2_with fail;refine (P3 w3 w3.heap.size rfl).mono ?_; rintro e w4 ⟨rfl, hB4⟩;have hB4 := (hB3.alloc hB3.size _).trans (hB4.mono (hB3.alloc hB3.size _).size);obtain ⟨d0, d1, d2, d3, -, -, -, -⟩ := zP hB4;clear f0 f1 f2 f3;go_wp2_with fail;refine (P4 w4 w4.heap.size rfl).mono ?_; rintro e w5 ⟨rfl, hB5⟩;have hB5 := (hB4.alloc hB4.size _).trans (hB5.mono (hB4.alloc hB4.size _).size);go_wp2_with fail;try rw [Exit.noGoto_ret]
        go_ret;rw [<- HX.out];exact ⟨rfl, HB1 _ hB5⟩
        | false =>
        rw [if_neg (by rw [b4]; simp)] at hK;rw [b4] at P4;have HX := nextR _ hK;clear hK nextR hv b1 b2 b3 b4 hq0;go_wp2_with fail;refine (P1 (wr.alloc (.cells #[.int .i64 t.kind, .int .i64 t.pos, .int .i64 t.num, .string ⟨t.text.toArray⟩] 38)) (wr.heap.size + 1) (by simp)).mono ?_; rintro e w2 ⟨rfl, hB2⟩;have hB2 := (HB0.alloc (Nat.le_refl _) _).trans (hB2.mono (HB0.alloc (Nat.le_refl _) _).size);obtain ⟨d0, d1, d2, d3, -, -, -, -⟩ := zP hB2;go_wp2_with fail;refine (P2 w2 w2.heap.size rfl).mono ?_; rintro e w3 ⟨rfl, hB3⟩;have hB3 := (hB2.alloc hB2.size _).trans (hB3.mono (hB2.alloc hB2.size _).size);obtain ⟨f0, f1, f2, f3, -, -, -, -⟩ := zP hB3;clear d0 d1 d2 d3;go_wp2_with fail;refine (P3 w3 w3.heap.size rfl).mono ?_; rintro e w4 ⟨rfl, hB4⟩;have hB4 := (hB3.alloc hB3.size _).trans (hB4.mono (hB3.alloc hB3.size _).size);obtain ⟨d0, d1, d2, d3, -, -, -, -⟩ := zP hB4;clear f0 f1 f2 f3;go_wp2_with fail;refine (P4 w4 w4.heap.size rfl).mono ?_; rintro e w5 ⟨rfl, hB5⟩;have hB5 := (hB4.alloc hB4.size _).trans (hB5.mono (hB4.alloc hB4.size _).size);go_wp2_with fail;go_roundw
        case rel => exact ⟨k + 1, 0, by omega, by go_num, rfl, by omega, HX, HB1 _ hB5⟩
        case measure => simp [intOf]; omega
    ·
     obtain rfl : k = m := by omega
     have hX := HK.out;rw [List.drop_of_length_le (by rw [<- HN.out]; omega)] at hX;have HX : Hid (false = c.ahead y.data.toList) := hX;clear hX;go_wp2_with fail;try rw [Exit.noGoto_ret]
     go_ret;rw [<- HX.out];exact ⟨rfl, hB⟩
 ·
  have hb : (c.err != 0) = true := by rw [bne_iff_ne]; exact he
  rw [hb] at HF;have hR : Hid (c.ahead y.data.toList = false) := by show _ = _; unfold Cu.ahead; simp [he]
  clear he hb;go_enter Tryz.func132, Tryz.ntmps132;go_wp2_with fail;refine HF.mono ?_; rintro e w1 ⟨rfl, rfl⟩;go_wp2;go_ret;rw [hR.out];exact ⟨rfl, Below.refl _ _⟩
end Go.Proofs.YtdjomhbmhooceaaGreat.N5
namespace Go.Proofs.YtdjomhbmhooceaaGreat.N5
open Go.RowKit
attribute [local go_sem] xB xA
def tL (w : World) (v : Value) (xs : List Tk) : Prop :=
 (v = .slice none 0 0 /\ xs = []) \/ ∃ a cap, v = .slice (some a) xs.length cap /\ xs.length <= cap /\ (xs = [] \/ ∃ g o, a = ⟨g, o, none⟩ /\ g < w.heap.size /\ ∀ j (hj : j < xs.length), tX w g o j xs[j])
theorem tL.below {w w' : World} {v : Value} {xs : List Tk} (h : tL w v xs) (hB : Below w.heap.size w w') : tL w' v xs := by
 rcases h with h | ⟨a, cap, h1, hc, h2 | ⟨g, o, h3, h4, h5⟩⟩
 ·
  exact .inl h
 ·
  exact .inr ⟨a, cap, h1, hc, .inl h2⟩
 ·
  exact .inr ⟨a, cap, h1, hc, .inr ⟨g, o, h3, Nat.lt_of_lt_of_le h4 hB.size, fun j hj => (h5 j hj).kept (zE hB none) (by simp)⟩⟩
def endL : List Tk -> Nat
 | [] => 0
 | t :: r => if t.kind = 0 then 0 else endL r + 1
theorem dK : ∀ l : List Tk, endL l <= l.length
 | [] => Nat.le_refl _
 | t :: r => by rw [endL]; split <;> simp; exact dK r
theorem nT : ∀ (l : List Tk) (j : Nat) (hj : j < l.length), j < endL l -> l[j].kind ≠ 0
 | t :: r, 0, _, h => by rw [endL] at h; split at h <;> simp_all
 | t :: r, j + 1, hj, h => by
  rw [endL] at h;split at h
  ·
   omega
  ·
   exact nT r j (by simpa using hj) (by omega)
theorem pT : ∀ (l : List Tk) (k : Nat), k <= l.length -> (∀ j (hj : j < l.length), j < k -> l[j].kind ≠ 0) -> (∀ h : k < l.length, l[k].kind = 0) -> endL l = k
 | [], k, h, _, _ => by simp at h; rw [endL]; omega
 | t :: r, 0, _, _, h => by have h0 : t.kind = 0 := h (by simp); rw [endL, if_pos h0]
 | t :: r, k + 1, hk, h1, h2 => by
  have h0 : t.kind ≠ 0 := h1 0 (by simp) (by omega);rw [endL, if_neg h0, pT r k (by simpa using hk) (fun j hj hjk => h1 (j + 1) (by simpa using hj) (by omega)) (fun h => h2 (by simpa using h))]
theorem bM (t : Tk) (w : World) : Calls Tryz.prog 26 #[.agg #[.int .i64 t.kind, .int .i64 t.pos, .int .i64 t.num, .string ⟨t.text.toArray⟩]] w (RunsTo (t.kind == 0) w) := by
 go_enter Tryz.func26, Tryz.ntmps26;go_wp2;go_ret;exact ⟨rfl, (Below.refl _ w).alloc (Nat.le_refl _) _⟩
def kU (xs : List Tk) (w : World) (e : Ending) (w' : World) : Prop := e = .returned (.int .i64 (if endL xs < xs.length then (endL xs : Int) else -1)) /\ Below w.heap.size w w'
theorem AaR (v : Value) (xs : List Tk) (w : World) (h : tL w v xs) (hn : xs.length <= 4000) : Calls Tryz.prog 25 #[v, .func (.func 26) #[] #[]] w (kU xs w) := by
 obtain ⟨a, cap, n, rfl, hN, HC⟩ : ∃ a cap n, v = .slice a n cap /\ Hid (n = xs.length) /\ Hid (xs = [] \/ ∃ g o, a = some ⟨g, o, none⟩ /\ g < w.heap.size /\ ∀ j (hj : j < xs.length), tX w g o j xs[j]) := by
  rcases h with ⟨rfl, rfl⟩ | ⟨a, cap, rfl, _, h2 | ⟨g, o, rfl, h4, h5⟩⟩
  ·
   exact ⟨none, 0, 0, rfl, rfl, .inl rfl⟩
  ·
   exact ⟨some a, cap, _, rfl, rfl, .inl h2⟩
  ·
   exact ⟨_, cap, _, rfl, rfl, .inr ⟨g, o, rfl, h4, h5⟩⟩
 rw [<- hN.out] at hn;clear h;go_enter Tryz.func25, Tryz.ntmps25;go_wp2_with fail;go_loopw [8] (fun i wr => ∃ k : Nat, k <= n /\ i = .int .i64 (k : Int) /\ Hid (∀ j (hj : j < xs.length), j < k -> xs[j].kind ≠ 0) /\ Below w.heap.size w wr) (fun i _ => n - (intOf i).toNat)
 case atStart => exact ⟨0, Nat.zero_le _, rfl, fun j _ h => absurd h (Nat.not_lt_zero _), Below.refl _ _⟩
 case round =>
  obtain ⟨k, hk, rfl, HK, hB⟩ := hrel;by_cases hkn : k < n
  ·
   have hkn' : (k : Int) < n := by omega
   have hkX : k < xs.length := by rw [<- hN.out]; exact hkn
   obtain ⟨g, o, rfl, hg, hc⟩ : ∃ g o, a = some ⟨g, o, none⟩ /\ g < w.heap.size /\ ∀ j (hj : j < xs.length), tX w g o j xs[j] := by
    rcases HC.out with h | h
    ·
     rw [h] at hkX; simp at hkX
    ·
     exact h
   obtain ⟨a0, a1, a2, a3⟩ := (hc k hkX).kept (zE hB none) (by simp);have P := fun w2 => bM xs[k] w2
   by_cases hz : xs[k].kind = 0
   ·
    have hzb : (xs[k].kind == 0) = true := by rw [hz]; rfl
    have he : endL xs = k := pT xs k (by omega) HK.out (fun _ => hz);have HF : Hid ((if endL xs < xs.length then (endL xs : Int) else -1) = k) := by show _ = _; rw [he, if_pos hkX]
    rw [hzb] at P;generalize xs[k] = t at *;clear hz hzb he hc;go_wp2_with fail;refine (P _).mono ?_; rintro e w2 ⟨rfl, hB2⟩;go_wp2_with fail;try rw [Exit.noGoto_ret]
    go_ret;exact ⟨by rw [HF.out]; rfl, hB.trans (hB2.mono hB.size)⟩
   ·
    have hzb : (xs[k].kind == 0) = false := by rw [beq_eq_false_iff_ne]; exact hz
    have HK2 : Hid (∀ j (hj : j < xs.length), j < k + 1 -> xs[j].kind ≠ 0) := fun j hj h => by
     rcases Nat.lt_or_ge j k with h' | h'
     ·
      exact HK.out j hj h'
     ·
      obtain rfl : j = k := by omega
      exact hz
    rw [hzb] at P;generalize xs[k] = t at *;clear hz hzb hc;go_wp2_with fail;refine (P _).mono ?_; rintro e w2 ⟨rfl, hB2⟩;go_wp2_with fail;go_roundw
    case rel => exact ⟨k + 1, by omega, by go_num, HK2, hB.trans (hB2.mono hB.size)⟩
    case measure => simp [intOf]; omega
  ·
   obtain rfl : k = n := by omega
   have he : endL xs = k := pT xs k (by rw [hN.out]; exact Nat.le_refl _) HK.out (fun h => by rw [hN.out] at h; omega);have HF : Hid ((if endL xs < xs.length then (endL xs : Int) else -1) = -1) := by show _ = _; rw [he, if_neg (by rw [hN.out]; omega)]
   clear he;go_wp2_with fail;try rw [Exit.noGoto_ret]
   go_ret;exact ⟨by rw [HF.out]; rfl, hB⟩
def cellsL (l : List Tk) : List Value := l.flatMap fun t => [.int .i64 t.kind, .int .i64 t.pos, .int .i64 t.num, .string ⟨t.text.toArray⟩]
theorem rB (l : List Tk) : (cellsL l).length = l.length * 4 := by
 induction l with
 | nil => rfl
 | cons t r ih => simp only [cellsL, List.flatMap_cons, List.length_append, List.length_cons] at ih ⊢; rw [ih]; simp; omega
theorem mI : ∀ (l : List Tk) (j : Nat) (hj : j < l.length) (i : Nat), i < 4 -> (cellsL l)[j * 4 + i]? = ([Value.int .i64 l[j].kind, .int .i64 l[j].pos, .int .i64 l[j].num, .string ⟨l[j].text.toArray⟩])[i]? := by
 intro l;induction l with
 | nil => intro j hj; simp at hj
 | cons t r ih =>
  intro j hj i hi;show ([Value.int .i64 t.kind, .int .i64 t.pos, .int .i64 t.num, .string ⟨t.text.toArray⟩] ++ cellsL r)[j * 4 + i]? = _;cases j with
  | zero => rw [List.getElem?_append_left (by simp; omega)]; simp
  | succ j =>
   rw [List.getElem?_append_right (by simp; omega), show (j + 1) * 4 + i - ([Value.int .i64 t.kind, .int .i64 t.pos, .int .i64 t.num, .string ⟨t.text.toArray⟩] : List Value).length = j * 4 + i by simp; omega, ih j (by simpa using hj) i hi];rfl
theorem AaU {w : World} {g o : Nat} {xs : List Tk} (h : ∀ j (hj : j < xs.length), tX w g o j xs[j]) : ∀ i u, (cellsL xs)[i]? = some u -> w.cell? (Addr.add ⟨g, o, none⟩ i) = some u := fun i u hu => by
 have hi : i < (cellsL xs).length := (List.getElem?_eq_some_iff.1 hu).1;rw [rB] at hi;have e : i = i / 4 * 4 + i % 4 := by omega
 have hj : i / 4 < xs.length := by omega
 have ha : ∀ i, Addr.add ⟨g, o, none⟩ i = ⟨g, o + i, none⟩ := fun i => Addr.add_lit g o i
 rw [ha i];obtain ⟨h0, h1, h2, h3⟩ := h (i / 4) hj;rw [e, mI xs (i / 4) hj (i % 4) (by omega)] at hu;rw [e];have hm : i % 4 = 0 \/ i % 4 = 1 \/ i % 4 = 2 \/ i % 4 = 3 := by omega
 rcases hm with hm | hm | hm | hm <;> rw [hm] at hu ⊢ <;> simp at hu <;> subst hu
 ·
  exact h0
 ·
  exact h1
 ·
  exact h2
 ·
  exact h3
theorem mA : (Tryz.prog.info? 38).map (fun i => (i.zero, i.size, i.bytes)) = some (some (.agg #[.int .i64 0, .int .i64 0, .int .i64 0, .string ⟨#[]⟩]), 4, 40) := by kernel_rfl
theorem iL {w : World} {base B : Nat} {v : Value} {xs : List Tk} (h : w.ownsRow base 38 4 v xs.length (cellsL xs)) (hB : B < base) : yY w B v xs := by
 rcases h.2 with ⟨rfl, hn⟩ | ⟨g, cap, cur, rfl, hb, hg, hle, hm, hcs, htake⟩
 ·
  have : xs = [] := List.length_eq_zero_iff.1 hn;subst this;exact ⟨none, 0, rfl, Nat.le_refl _, .inl rfl⟩
 ·
  refine ⟨_, cap, rfl, hle, .inr ⟨g, 0, rfl, (Array.getElem?_eq_some_iff.1 hg).1, by omega, fun j hj => ?_⟩⟩;have hget : ∀ i, i < 4 -> w.cell? ⟨g, j * 4 + i, none⟩ = ([Value.int .i64 xs[j].kind, .int .i64 xs[j].pos, .int .i64 xs[j].num, .string ⟨xs[j].text.toArray⟩])[i]? := fun i hi => by
   have h1 : w.cell? ⟨g, j * 4 + i, none⟩ = cur[j * 4 + i]? := by simp [World.cell?, hg]
   have h2 : cur[j * 4 + i]? = (cellsL xs)[j * 4 + i]? := by rw [<- htake, List.getElem?_take_of_lt (by omega), Array.getElem?_toList]
   rw [h1, h2, mI xs j hj i hi]
  unfold tX;rw [Nat.zero_add];exact ⟨hget 0 (by omega), hget 1 (by omega), hget 2 (by omega), hget 3 (by omega)⟩
theorem eq_nil (w : World) : (binOp .eql 34 (.slice none 0 0) (.slice none 0 0)).run Tryz.prog w = .ok (.bool true) w := by kernel_rfl
theorem eq_some (a : Addr) (n cap : Nat) (w : World) : (binOp .eql 34 (.slice (some a) n cap) (.slice none 0 0)).run Tryz.prog w = .ok (.bool false) w := by kernel_rfl
attribute [local go_sem] eq_nil eq_some
def AaP (B : Nat) (xs : List Tk) (w : World) (e : Ending) (w' : World) : Prop := ∃ v, e = .returned v /\ yY w' B v xs /\ Below w.heap.size w w' /\ ∀ g o n cap, v = .slice (some ⟨g, o, none⟩) n cap -> w.heap.size <= g
theorem lN (v : Value) (xs : List Tk) (w : World) (B : Nat) (hB : B < w.heap.size) (h : tL w v xs) (hn : xs.length <= 4000) : Calls Tryz.prog 27 #[v] w (AaP B xs w) := by
 obtain ⟨i0, hi, hz0, hz1, hz2⟩ := info_parts mA;rcases h with ⟨rfl, rfl⟩ | ⟨a, cap, rfl, hcap, h2⟩
 ·
  go_enter Tryz.func27, Tryz.ntmps27;go_wp2_with fail;go_ret;exact ⟨_, rfl, ⟨none, 0, rfl, Nat.le_refl _, .inl rfl⟩, Below.refl _ _, fun _ _ _ _ h => by cases h⟩
 ·
  have hcells : ∀ w' : World, Below w.heap.size w w' -> ∀ i u, (cellsL xs)[i]? = some u -> w'.cell? (a.add i) = some u := fun w' hb => by
   rcases h2 with rfl | ⟨g, o, rfl, hg, hc⟩
   ·
    intro i u hu; simp [cellsL] at hu
   ·
    exact AaU (fun j hj => (hc j hj).kept (zE hb none) (by simp))
  have hone : ∀ u ∈ cellsL xs, u.oneCell' = true := fun u hu => by
   simp only [cellsL, List.mem_flatMap] at hu;obtain ⟨t, _, hu⟩ := hu;simp at hu;rcases hu with rfl | rfl | rfl | rfl <;> rfl
  have hlen := rB xs;obtain ⟨n, hn2⟩ : ∃ n, n = xs.length := ⟨_, rfl⟩;have HN : Hid (n = xs.length) := hn2;have hown : (w.alloc (.cells #[] 38)).ownsRow w.heap.size 38 4 (.slice (some ⟨w.heap.size, 0, none⟩) 0 0) 0 [] :=
   ⟨by simp, .inr ⟨w.heap.size, 0, #[], rfl, Nat.le_refl _, World.alloc_heap_new w _, Nat.le_refl _, by unfold maxLen; omega, rfl, rfl⟩⟩
  rw [<- hn2] at hn hlen ⊢;clear h2 hn2 hcap;go_enter Tryz.func27, Tryz.ntmps27;go_wp2_with (first
   | (at_builtin; refine wpList_append_own _ rfl _ _ 34 rfl w.heap.size 38 i0 (.agg #[.int .i64 0, .int .i64 0, .int .i64 0, .string ⟨#[]⟩]) 4 40 Tryz.underlying34 hi hz0 hz1 hz2 rfl (by decide) _ _ _ rfl hown a n cap (cellsL xs) rfl hlen (hcells _ ((Below.refl _ w).alloc (Nat.le_refl _) _)) hone (by unfold maxLen; omega) (by omega) (by simp) ?_; intro v' w3 hown3 hgrow3 hnil3)
   | fail)
  rw [Nat.zero_add, List.nil_append, HN.out] at hown3;go_ret;exact ⟨v', rfl, iL hown3 hB, ((Below.refl _ w).alloc (Nat.le_refl _) _).grown hgrow3 (by simp) (fun j e => by cases e; exact Nat.le_refl _), fun g o n cap h => (hown3.lt g (by rw [h]; rfl)).1⟩
end Go.Proofs.YtdjomhbmhooceaaGreat.N5
namespace Go.Proofs.YtdjomhbmhooceaaGreat.N5
open Go.RowKit
attribute [local go_sem] xB xA
def uL (xs : List Tk) : Cu := ⟨xs.take (endL xs), if h : endL xs < xs.length then xs[endL xs].pos else 0, 0, 0, 0, 0⟩
abbrev dR (v : Value) (ep at' nest pos err : Int) : Array Value := #[v, .int .i64 0, .int .i64 ep, .int .i64 0, .string ⟨#[]⟩, .int .i64 at', .int .i64 nest, .int .i64 pos, .int .i64 err]
theorem oO (xs : List Tk) : ∀ t ∈ xs.take (endL xs), t.kind ≠ 0 := fun t ht => by
 obtain ⟨j, hj, rfl⟩ := List.mem_iff_getElem.1 ht;rw [List.getElem_take];rw [List.length_take] at hj;exact nT xs j (by omega) (by omega)
def MadeIs (c : Cu) (w : World) (e : Ending) (w' : World) : Prop := ∃ v, e = .returned (.pointer (some ⟨w.heap.size, 0, none⟩)) /\ zJ w' w.heap.size v c /\ Below w.heap.size w w' /\ ∀ g o n cap, v = .slice (some ⟨g, o, none⟩) n cap -> w.heap.size < g
theorem kE (v : Value) (xs : List Tk) (w : World) (h : tL w v xs) (hn : xs.length <= 4000) : Calls Tryz.prog 10 #[v] w (MadeIs (uL xs) w) := by
 have hBa := (Below.refl _ w).alloc (Nat.le_refl _) (.cells (dR (.slice none 0 0) 0 0 0 0 0) 58);have HF := AaR v xs _ (h.below hBa) hn;have hle := dK xs;have fin : ∀ (ep : Int) (w2 w3 : World) (v' : Value), (uL xs).ep = ep -> w2.heap[w.heap.size]? = some (.cells (dR (.slice none 0 0) ep 0 0 0 0) 58 (0, 0)) -> Below w.heap.size w w2 ->
   Below w2.heap.size w2 w3 -> yY w3 w.heap.size v' (xs.take (endL xs)) -> zJ (w3.setCell ⟨w.heap.size, 0, none⟩ v') w.heap.size v' (uL xs) /\ Below w.heap.size w (w3.setCell ⟨w.heap.size, 0, none⟩ v') /\ w3.cell? ⟨w.heap.size, 0, none⟩ = some (.slice none 0 0) /\ w3.frozen? ⟨w.heap.size, 0, none⟩ = false := fun ep w2 w3 v' hep e1 h2 h3 hr => by
  have hlt : w.heap.size < w2.heap.size := (Array.getElem?_eq_some_iff.1 e1).1
  have e2 := (h3.block _ hlt).trans e1
  refine ⟨⟨?_, hr.kept (uY w3 w.heap.size 0 v'), Nat.zero_le _, ?_, oO xs, Nat.zero_le _⟩, ?_, by simp [World.cell?, e2], by simp [World.frozen?, e2]⟩
  ·
   rw [hep];exact sP (i := 0) e2 v'
  ·
   show (xs.take (endL xs)).length <= 4000;rw [List.length_take]; omega
  ·
   refine Below.setCell (p := ⟨w.heap.size, 0, none⟩) ?_ (Nat.le_refl _) _;exact h2.trans (h3.mono (Nat.le_of_lt hlt))
 have blk : ∀ w2, Below (w.alloc (.cells (dR (.slice none 0 0) 0 0 0 0 0) 58)).heap.size (w.alloc (.cells (dR (.slice none 0 0) 0 0 0 0 0) 58)) w2 -> w2.heap[w.heap.size]? = some (.cells (dR (.slice none 0 0) 0 0 0 0 0) 58 (0, 0)) := fun w2 h2 => (h2.block _ (by simp)).trans (World.alloc_heap_new w _)
 by_cases hf : endL xs < xs.length
 ·
  obtain ⟨k, hk⟩ : ∃ k, k = endL xs := ⟨_, rfl⟩;have hep : (uL xs).ep = xs[endL xs].pos := by show (if h : endL xs < xs.length then _ else _) = _; rw [dif_pos hf]
  have hFI : Hid ((if endL xs < xs.length then (endL xs : Int) else -1) = k) := by show _ = _; rw [if_pos hf, hk]
  obtain ⟨g, o, cap, n, rfl, hnc, hkn, hg, hc⟩ : ∃ g o cap n, v = .slice (some ⟨g, o, none⟩) n cap /\ n <= cap /\ k < n /\ g < w.heap.size /\ ∀ j (hj : j < xs.length), tX w g o j xs[j] := by
   rcases h with ⟨_, rfl⟩ | ⟨a, cap, rfl, hcap, h2 | ⟨g, o, rfl, h4, h5⟩⟩
   ·
    simp at hf
   ·
    rw [h2] at hf; simp at hf
   ·
    exact ⟨g, o, cap, _, rfl, hcap, by omega, h4, h5⟩
  have htl : (xs.take (endL xs)).length = k := by rw [List.length_take]; omega
  have HC := fun w2 (hb : Below w.heap.size w w2) (hl : w.heap.size < w2.heap.size) => lN (.slice (some ⟨g, o, none⟩) k cap) (xs.take (endL xs)) w2 w.heap.size hl (.inr ⟨_, cap, by rw [htl], by rw [htl]; omega, .inr ⟨g, o, rfl, Nat.lt_of_lt_of_le hg hb.size, fun j hj => by
   rw [List.getElem_take];exact (hc j (by rw [List.length_take] at hj; omega)).kept (zE hb none) (by simp)⟩⟩) (by rw [htl]; omega)
  obtain ⟨-, a1, -, -⟩ := hc (endL xs) hf;generalize xs[endL xs].pos = ep at *;rw [<- hk] at a1;unfold kU at HF;rw [hFI.out] at HF;have hn9 : n <= 4000 \/ True := .inr trivial;clear h hc hk htl hle hn hf hn9;go_enter Tryz.func10, Tryz.ntmps10;go_wp2_with fail;refine HF.mono ?_; rintro e w2 ⟨rfl, hB2⟩;have hb2 := zS hBa hB2;have e2 := blk w2 hB2;have hl2 := (Array.getElem?_eq_some_iff.1 e2).1;have d2 : w2.cell? ⟨w.heap.size, 2, none⟩ = some (.int .i64 0) := by simp [World.cell?, e2]
  have f2 : w2.frozen? ⟨w.heap.size, 2, none⟩ = false := by simp [World.frozen?, e2]
  have a2 := (hb2.cell (p := ⟨g, o + k * 4 + 1, none⟩) hg).trans a1;have b3 : Below w.heap.size w (w2.setCell ⟨w.heap.size, 2, none⟩ (.int .i64 ep)) := hb2.setCell (p := ⟨w.heap.size, 2, none⟩) (Nat.le_refl _) _;have HC := HC _ b3 (by simp; exact hl2);have e3 : (w2.setCell ⟨w.heap.size, 2, none⟩ (.int .i64 ep)).heap[w.heap.size]? = some (.cells (dR (.slice none 0 0) ep 0 0 0 0) 58 (0, 0)) := sP (i := 2) e2 (.int .i64 ep);have fin := fin ep (w2.setCell ⟨w.heap.size, 2, none⟩ (.int .i64 ep));clear HF a1 e2;go_wp2_with fail;refine HC.mono ?_; rintro e w3 ⟨v', rfl, hr, hB3, hfar⟩;obtain ⟨k1, k2, d0, f0⟩ := fin w3 v' hep e3 b3 hB3 hr;obtain ⟨a', cap', hv', -⟩ := hr;subst hv';generalize (xs.take (endL xs)).length = ln at *;go_wp2_with fail;go_ret;exact ⟨_, rfl, k1, k2, fun g o n cap h => by
   have h1 := hfar g o n cap h; have h2 : (w2.setCell ⟨w.heap.size, 2, none⟩ (.int .i64 ep)).heap.size = w2.heap.size := by simp
   omega⟩
 ·
  have hep : (uL xs).ep = 0 := by show (if h : endL xs < xs.length then _ else _) = _; rw [dif_neg hf]
  have hFI : Hid ((if endL xs < xs.length then (endL xs : Int) else -1) = -1) := by show _ = _; rw [if_neg hf]
  have htk : xs.take (endL xs) = xs := List.take_of_length_le (by omega);have HC := fun w2 (hb : Below w.heap.size w w2) (hl : w.heap.size < w2.heap.size) => lN v xs w2 w.heap.size hl (h.below hb) hn
  rw [htk] at fin;obtain ⟨a, cap, n, rfl, hN, hnn⟩ : ∃ a cap n, v = .slice a n cap /\ n <= cap /\ (a = none -> n = 0 /\ cap = 0) := by
   rcases h with ⟨rfl, _⟩ | ⟨a, cap, rfl, hc, _⟩
   ·
    exact ⟨none, 0, 0, rfl, Nat.le_refl _, fun _ => ⟨rfl, rfl⟩⟩
   ·
    exact ⟨some a, cap, _, rfl, hc, fun h => by cases h⟩
  unfold kU at HF;rw [hFI.out] at HF;clear h hle hn hf htk hFI;go_enter Tryz.func10, Tryz.ntmps10;go_wp2_with fail;refine HF.mono ?_; rintro e w2 ⟨rfl, hB2⟩;have hb2 := zS hBa hB2;have e2 := blk w2 hB2;have HC := HC _ hb2 (Array.getElem?_eq_some_iff.1 e2).1;have fin := fin 0 w2;clear HF;go_wp2_with fail;refine HC.mono ?_; rintro e w3 ⟨v', rfl, hr, hB3, hfar⟩;obtain ⟨k1, k2, d0, f0⟩ := fin w3 v' hep e2 hb2 hB3 hr;obtain ⟨a', cap', hv', -⟩ := hr;subst hv';go_wp2_with fail;go_ret;exact ⟨_, rfl, k1, k2, fun g o n cap h => by have h1 := hfar g o n cap h; have h2 := (Array.getElem?_eq_some_iff.1 e2).1; omega⟩
end Go.Proofs.YtdjomhbmhooceaaGreat.N5
