import Derived.Test.YtdjomhbmhooceaaGreatF5
import Derived.Test.YtdjomhbmhooceaaGreatF4
import Derived.Test.YtdjomhbmhooceaaGreatF3
set_option maxHeartbeats 4000000
set_option maxRecDepth 100000
set_option linter.unusedVariables false
set_option linter.unusedSimpArgs false
namespace Go.Proofs.YtdjomhbmhooceaaGreat.N7
open Go.RowKit N5 N6
def zW (w : World) (b : Nat) (cs : Array Value) (ty : TypeId) : Prop := w.heap[b]? = some (.cells cs ty (0, 0))
section
variable {w w' : World} {b : Nat} {cs : Array Value} {ty : TypeId}
theorem zW.lt (h : zW w b cs ty) : b < w.heap.size := (Array.getElem?_eq_some_iff.1 h).1
theorem zW.kept {row : Option Nat} (h : zW w b cs ty) (hg : w.grownBy w' row) (hne : some b ≠ row) : zW w' b cs ty := (hg.block b h.lt hne).trans h
theorem zW.kg {B : Nat} (h : zW w b cs ty) (hg : w.grownBy w' (some B)) (hne : b ≠ B) : zW w' b cs ty := h.kept hg (fun e => hne (by injection e))
theorem zW.later (h : zW w b cs ty) (hB : Below w.heap.size w w') : zW w' b cs ty := (hB.block b h.lt).trans h
theorem zW.new (w : World) (cs : Array Value) (ty : TypeId) : zW (w.alloc (.cells cs ty)) w.heap.size cs ty := World.alloc_heap_new w _
theorem zW.cell (h : zW w b cs ty) (i : Nat) : w.cell? ⟨b, i, none⟩ = cs[i]? := by
 have h' : w.heap[b]? = some (.cells cs ty (0, 0)) := h;simp [World.cell?, h']
theorem zW.frozen (h : zW w b cs ty) (i : Nat) : w.frozen? ⟨b, i, none⟩ = false := by
 have h' : w.heap[b]? = some (.cells cs ty (0, 0)) := h;simp [World.frozen?, h']
theorem zW.box {d : NC} (h : zW w b #[.int .i64 d.kind, .int .i64 d.pos, .int .i64 d.num, .string ⟨d.text.toArray⟩, .slice d.kp d.kl d.kc] ty) : sO w b d := ⟨h.cell 0, h.cell 1, h.cell 2, h.cell 3, h.cell 4⟩
theorem zW.set (h : zW w b cs ty) (i : Nat) (x : Value) : zW (w.setCell ⟨b, i, none⟩ x) b (cs.setIfInBounds i x) ty := sP h x
end
theorem zA {w : World} {b : Nat} {x0 x1 x2 x3 x4 : Value} {ty : TypeId} (h : zW w b #[x0, x1, x2, x3, x4] ty) :
  (w.cell? ⟨b, 0, none⟩ = some x0 /\ w.cell? ⟨b, 1, none⟩ = some x1 /\ w.cell? ⟨b, 2, none⟩ = some x2 /\ w.cell? ⟨b, 3, none⟩ = some x3 /\ w.cell? ⟨b, 4, none⟩ = some x4) /\
  (w.frozen? ⟨b, 0, none⟩ = false /\ w.frozen? ⟨b, 1, none⟩ = false /\ w.frozen? ⟨b, 2, none⟩ = false /\ w.frozen? ⟨b, 3, none⟩ = false /\ w.frozen? ⟨b, 4, none⟩ = false) :=
 ⟨⟨h.cell 0, h.cell 1, h.cell 2, h.cell 3, h.cell 4⟩, h.frozen 0, h.frozen 1, h.frozen 2, h.frozen 3, h.frozen 4⟩
theorem zD {w : World} {b : Nat} {x0 x1 x2 x3 : Value} {ty : TypeId} (h : zW w b #[x0, x1, x2, x3] ty) :
  w.cell? ⟨b, 0, none⟩ = some x0 /\ w.cell? ⟨b, 1, none⟩ = some x1 /\ w.cell? ⟨b, 2, none⟩ = some x2 /\ w.cell? ⟨b, 3, none⟩ = some x3 := ⟨h.cell 0, h.cell 1, h.cell 2, h.cell 3⟩
theorem zC {w : World} {b : Nat} {x0 : Value} {ty : TypeId} (h : zW w b #[x0] ty) : w.cell? ⟨b, 0, none⟩ = some x0 := h.cell 0
theorem yH {p0 p1 : Prop} (h0 : p0) (h1 : p1) : p0 /\ p1 := ⟨h0, h1⟩
theorem xZ {p0 p1 p2 : Prop} (h0 : p0) (h1 : p1) (h2 : p2) : p0 /\ p1 /\ p2 := ⟨h0, h1, h2⟩
theorem vX {p0 p1 p2 p3 : Prop} (h0 : p0) (h1 : p1) (h2 : p2) (h3 : p3) : p0 /\ p1 /\ p2 /\ p3 := ⟨h0, h1, h2, h3⟩
theorem aC {p0 p1 p2 p3 p4 : Prop} (h0 : p0) (h1 : p1) (h2 : p2) (h3 : p3) (h4 : p4) : p0 /\ p1 /\ p2 /\ p3 /\ p4 := ⟨h0, h1, h2, h3, h4⟩
theorem ga6 {p0 p1 p2 p3 p4 p5 : Prop} (h0 : p0) (h1 : p1) (h2 : p2) (h3 : p3) (h4 : p4) (h5 : p5) : p0 /\ p1 /\ p2 /\ p3 /\ p4 /\ p5 := ⟨h0, h1, h2, h3, h4, h5⟩
theorem gN {w w' : World} {b0 : Nat} {c0 : Array Value} {t0 : TypeId} {b1 : Nat} {c1 : Array Value} {t1 : TypeId} (hB : Below w.heap.size w w') (h0 : zW w b0 c0 t0) (h1 : zW w b1 c1 t1) : zW w' b0 c0 t0 /\ zW w' b1 c1 t1 := ⟨h0.later hB, h1.later hB⟩
theorem vK {w w' : World} {b0 : Nat} {c0 : Array Value} {t0 : TypeId} {b1 : Nat} {c1 : Array Value} {t1 : TypeId} {b2 : Nat} {c2 : Array Value} {t2 : TypeId} (hB : Below w.heap.size w w') (h0 : zW w b0 c0 t0) (h1 : zW w b1 c1 t1) (h2 : zW w b2 c2 t2) : zW w' b0 c0 t0 /\ zW w' b1 c1 t1 /\ zW w' b2 c2 t2 := ⟨h0.later hB, h1.later hB, h2.later hB⟩
theorem wP {w w' : World} {b0 : Nat} {c0 : Array Value} {t0 : TypeId} {b1 : Nat} {c1 : Array Value} {t1 : TypeId} {b2 : Nat} {c2 : Array Value} {t2 : TypeId} {b3 : Nat} {c3 : Array Value} {t3 : TypeId} (hB : Below w.heap.size w w') (h0 : zW w b0 c0 t0) (h1 : zW w b1 c1 t1) (h2 : zW w b2 c2 t2) (h3 : zW w b3 c3 t3) : zW w' b0 c0 t0 /\ zW w' b1 c1 t1 /\ zW w' b2 c2 t2 /\ zW w' b3 c3 t3 := ⟨h0.later hB, h1.later hB, h2.later hB, h3.later hB⟩
theorem gM {w w' : World} {b0 : Nat} {c0 : Array Value} {t0 : TypeId} {b1 : Nat} {c1 : Array Value} {t1 : TypeId} {b2 : Nat} {c2 : Array Value} {t2 : TypeId} {b3 : Nat} {c3 : Array Value} {t3 : TypeId} {b4 : Nat} {c4 : Array Value} {t4 : TypeId} (hB : Below w.heap.size w w') (h0 : zW w b0 c0 t0) (h1 : zW w b1 c1 t1) (h2 : zW w b2 c2 t2) (h3 : zW w b3 c3 t3) (h4 : zW w b4 c4 t4) : zW w' b0 c0 t0 /\ zW w' b1 c1 t1 /\ zW w' b2 c2 t2 /\ zW w' b3 c3 t3 /\ zW w' b4 c4 t4 := ⟨h0.later hB, h1.later hB, h2.later hB, h3.later hB, h4.later hB⟩
theorem gl6 {w w' : World} {b0 : Nat} {c0 : Array Value} {t0 : TypeId} {b1 : Nat} {c1 : Array Value} {t1 : TypeId} {b2 : Nat} {c2 : Array Value} {t2 : TypeId} {b3 : Nat} {c3 : Array Value} {t3 : TypeId} {b4 : Nat} {c4 : Array Value} {t4 : TypeId} {b5 : Nat} {c5 : Array Value} {t5 : TypeId} (hB : Below w.heap.size w w') (h0 : zW w b0 c0 t0) (h1 : zW w b1 c1 t1) (h2 : zW w b2 c2 t2) (h3 : zW w b3 c3 t3) (h4 : zW w b4 c4 t4) (h5 : zW w b5 c5 t5) : zW w' b0 c0 t0 /\ zW w' b1 c1 t1 /\ zW w' b2 c2 t2 /\ zW w' b3 c3 t3 /\ zW w' b4 c4 t4 /\ zW w' b5 c5 t5 := ⟨h0.later hB, h1.later hB, h2.later hB, h3.later hB, h4.later hB, h5.later hB⟩
theorem zT (w : World) (a : Array Value) (s : TypeId) : ∃ V, V = w.alloc (.cells a s) /\ zW V w.heap.size a s /\ Below w.heap.size w V /\ w.heap.size + 1 <= V.heap.size :=
 ⟨_, rfl, zW.new w a s, (Below.refl _ _).alloc (Nat.le_refl _) _, by simp⟩
theorem vC (w : World) (a : Array Value) (s : TypeId) (b : Array Value) (t : TypeId) : ∃ V, V = (w.alloc (.cells a s)).alloc (.cells b t) /\ zW V w.heap.size a s /\ zW V (w.heap.size + 1) b t /\ Below w.heap.size w V /\ w.heap.size + 1 + 1 <= V.heap.size := by
 obtain ⟨U, hU, h1, hB, hz⟩ := zT w a s;obtain ⟨V, hV, h2, hC, hy⟩ := zT U b t;have hs : U.heap.size = w.heap.size + 1 := by rw [hU]; simp
 rw [hU] at hV;exact ⟨V, hV, h1.later hC, hs ▸ h2, zS hB hC, by omega⟩
theorem qE (w : World) (a : Array Value) (s : TypeId) (b : Array Value) (t : TypeId) (c : Array Value) (u : TypeId) : ∃ V, V = ((w.alloc (.cells a s)).alloc (.cells b t)).alloc (.cells c u) /\ zW V w.heap.size a s /\ zW V (w.heap.size + 1) b t /\ zW V (w.heap.size + 1 + 1) c u /\ Below w.heap.size w V /\ w.heap.size + 1 + 1 + 1 <= V.heap.size := by
 obtain ⟨U, hU, h1, h2, hB, hz⟩ := vC w a s b t;obtain ⟨V, hV, h3, hC, hy⟩ := zT U c u;have hs : U.heap.size = w.heap.size + 1 + 1 := by rw [hU]; simp
 rw [hU] at hV;exact ⟨V, hV, h1.later hC, h2.later hC, hs ▸ h3, zS hB hC, by omega⟩
structure yT (B : Nat) (v : Value) (c : Cu) (w W : World) : Prop where
 cur : zJ W B v c
 grown : w.grownBy W (some B)
 lt : B < w.heap.size
 far : ∀ g o n cap, v = .slice (some ⟨g, o, none⟩) n cap -> n ≠ 0 -> g < w.heap.size
section
variable {B : Nat} {v : Value} {c c' : Cu} {w W W' : World}
theorem yT.of (h : zJ w B v c) : yT B v c w w := by
 refine ⟨h, World.grownBy.refl _ _, h.lt, fun g o n cap hv hn => ?_⟩;obtain ⟨a, cap', h1, _, h2⟩ := h.row;rw [h1] at hv;injection hv with e1 e2 e3
 rcases h2 with h2 | ⟨g', o', h3, h4, _, _⟩
 ·
  rw [h2] at e2; exact absurd e2.symm hn
 ·
  rw [h3] at e1; injection e1 with e1; injection e1 with e1; omega
theorem yT.size (h : yT B v c w W) : w.heap.size <= W.heap.size := h.grown.size
theorem yT.below (h : yT B v c w W) (hB : Below W.heap.size W W') : yT B v c w W' := ⟨h.cur.below hB, xF h.grown (zE hB _), h.lt, h.far⟩
theorem yT.alloc (h : yT B v c w W) (o : Obj) : yT B v c w (W.alloc o) := h.below ((Below.refl _ W).alloc (Nat.le_refl _) o)
theorem yT.to (h : yT B v c w W) (hc : zJ W' B v c') (hg : W.grownBy W' (some B)) : yT B v c' w W' := ⟨hc, xF h.grown hg, h.lt, h.far⟩
theorem yT.trans (h : yT B v c w W) (g : yT B v c' W W') : yT B v c' w W' := h.to g.cur g.grown
theorem yT.put (h : yT B v c w W) {b : Nat} (hb : w.heap.size <= b) (i : Nat) (x : Value) : yT B v c w (W.setCell ⟨b, i, none⟩ x) := by
 have hlt := h.lt;refine ⟨h.cur.kept (uY W b i x) (by omega) (fun h0 g o n cap hv e => ?_), ⟨h.grown.os, h.grown.tape, h.grown.output, by rw [show (W.setCell ⟨b, i, none⟩ x).heap.size = W.heap.size by simp]; exact h.grown.size, fun k hk hne => ?_⟩, hlt, h.far⟩
 ·
  obtain ⟨a, cap', h1, _, _⟩ := h.cur.row;have hv' := hv;rw [h1] at hv;injection hv with _ e2 _
  have := h.far g o n cap hv' (fun e0 => h0 (List.eq_nil_of_length_eq_zero (by omega)));omega
 ·
  exact ((uY W b i x).block k (Nat.lt_of_lt_of_le hk h.grown.size) (fun e => by injection e; omega)).trans (h.grown.block k hk hne)
theorem zW.past {w W : World} {B b : Nat} {v : Value} {c : Cu} {cs : Array Value} {ty : TypeId} (h : zW w b cs ty) (hA : yT B v c w W) (hne : b ≠ B) : zW W b cs ty := h.kept hA.grown (fun e => hne (by injection e))
theorem zH {b : Nat} {z : NC} {ty : TypeId} (h : yT B v c w W) (hb : w.heap.size <= b) (hz : zW W b #[.int .i64 z.kind, .int .i64 z.pos, .int .i64 z.num, .string ⟨z.text.toArray⟩, .slice z.kp z.kl z.kc] ty) (d : NC) :
  ∃ W7, W7 = (((((W.setCell ⟨b, 0, none⟩ (.int .i64 d.kind)).setCell ⟨b, 1, none⟩ (.int .i64 d.pos)).setCell ⟨b, 2, none⟩ (.int .i64 d.num)).setCell ⟨b, 3, none⟩ (.string ⟨d.text.toArray⟩)).setCell ⟨b, 4, none⟩ (.slice d.kp d.kl d.kc)) /\
   sO W7 b d /\ yT B v c w W7 /\ ∀ (S : Nat -> Prop) (x : NC) (t : Nd), zG S W x t -> ¬ S b -> zG S W7 x t := by
 refine ⟨_, rfl, sO.put hz.box d, ((((h.put hb 0 _).put hb 1 _).put hb 2 _).put hb 3 _).put hb 4 _, fun S x t hx hS => hx.keeps ⟨by simp, fun k hk _ => ?_⟩⟩
 have hne : k ≠ b := fun e => hS (e ▸ hk)
 rw [Below.heap_setCell _ _ _ _ hne, Below.heap_setCell _ _ _ _ hne, Below.heap_setCell _ _ _ _ hne, Below.heap_setCell _ _ _ _ hne, Below.heap_setCell _ _ _ _ hne]
end
abbrev eR (n : Nat) (w : World) (d : NC) (x : Option Nd) : Prop := match x with
 | some t => zG (fun b => n <= b) w d t
 | none => d = zN
def zU (B : Nat) (v : Value) (o : yM Nd) (w : World) (e : Ending) (w' : World) : Prop :=
 ∃ d : NC, e = .returned (.tuple #[d.val, .bool o.2.isSome]) /\ yT B v o.1 w w' /\ eR w.heap.size w' d o.2
theorem xE {x : Option Nd} {n m b : Nat} {W W7 : World} {d : NC} (hm : eR n W d x) (hn7 : ∀ (S : Nat -> Prop) (x : NC) (t : Nd), zG S W x t -> ¬ S b -> zG S W7 x t) (hb : b < n) (hle : m <= n) : eR m W7 d x := by
 cases x with
 | none => exact hm
 | some t => exact (hn7 _ _ _ hm (by omega)).mono fun k hk _ => by omega
theorem yL (S : Nat -> Prop) (w : World) (k p n : Int) (t : List UInt8) : zG S w ⟨k, p, n, t, none, 0, 0⟩ (.mk k p n t []) :=
 .mk _ _ [] rfl rfl rfl rfl rfl (sQ.nil _ _) fun i h => absurd h (Nat.not_lt_zero _)
theorem nD {c : Cu} (he : c.enters = true) (hi : c.enter.is [40] = true) : (c.enter.want [40]).nest = c.nest + 1 := by
 rw [(zL c.enter [40]).nest (yN.2 hi), yR he]
theorem tY {w : World} {B : Nat} {v : Value} {c : Cu} (h : zJ w B v c) : Calls Tryz.prog 18 #[.pointer (some ⟨B, 0, none⟩)] w fun e w' => e = .returned (.agg #[.int .i64 c.peek.kind, .int .i64 c.peek.pos, .int .i64 c.peek.num, .string ⟨c.peek.text.toArray⟩]) /\ Below w.heap.size w w' := rJ h
theorem uW {w : World} {B : Nat} {v : Value} {c : Cu} (h : zJ w B v c) : Calls Tryz.prog 89 #[.pointer (some ⟨B, 0, none⟩)] w (tN B v c.adv (.agg #[.int .i64 c.peek.kind, .int .i64 c.peek.pos, .int .i64 c.peek.num, .string ⟨c.peek.text.toArray⟩]) w) := gB h
theorem xQ {w : World} {B : Nat} {v : Value} {c : Cu} (h : zJ w B v c) (l : List UInt8) : Calls Tryz.prog 58 #[.pointer (some ⟨B, 0, none⟩), .string ⟨l.toArray⟩] w (tN B v (c.want l) (.bool (c.is l)) w) := by
 have := AbA h ⟨l.toArray⟩;simpa using this
theorem sT {w : World} {B : Nat} {v : Value} {c : Cu} (h : zJ w B v c) (l : List UInt8) : Calls Tryz.prog 54 #[.pointer (some ⟨B, 0, none⟩), .string ⟨l.toArray⟩] w (tN B v (c.take l) (.bool (c.is l)) w) := by
 have := jD h ⟨l.toArray⟩;simpa using this
theorem sN {w : World} {B : Nat} {v : Value} {c : Cu} (h : zJ w B v c) (l : List UInt8) : Calls Tryz.prog 90 #[.pointer (some ⟨B, 0, none⟩), .string ⟨l.toArray⟩] w (N5.RunsTo (c.is l) w) := by
 have := AaK h ⟨l.toArray⟩;simpa using this
theorem dP {w : World} {B : Nat} {v : Value} {c : Cu} (h : zJ w B v c) (l : List UInt8) : Calls Tryz.prog 132 #[.pointer (some ⟨B, 0, none⟩), .string ⟨l.toArray⟩] w (N5.RunsTo (c.ahead l) w) := by
 have := bU h ⟨l.toArray⟩;simpa using this
end Go.Proofs.YtdjomhbmhooceaaGreat.N7
namespace Go.Proofs.YtdjomhbmhooceaaGreat.N7
open Go.RowKit N5 N6
theorem pG {f : Nat} {x : Value} (eg : ∀ args w, (callFunc f args).run Tryz.prog w = .ok (.enter f args) w) {rd : Cu -> yM Nd} {w : World} {B : Nat} {v : Value} {c : Cu} (h : zJ w B v c)
  (hrd : c.enters = true -> ∀ W, yT B v c.enter w W -> Calls Tryz.prog f #[x] W (zU B v (rd c.enter) W)) :
  Calls Tryz.prog 65 #[.pointer (some ⟨B, 0, none⟩), .func (.func f) #[x] #[]] w (zU B v (deeper rd c) w) := by
 obtain ⟨W1, hW1, hK, -, -⟩ := zT w #[.int .i64 0, .int .i64 0, .int .i64 0, .string ⟨#[]⟩, .slice none 0 0] 25
 have hA : yT B v c w W1 := by rw [hW1]; exact (yT.of h).alloc _
 have hsz : W1.heap.size = w.heap.size + 1 := by rw [hW1]; simp
 have HE := lO hA.cur
 have hlt := h.lt
 have HRD := Lib.hid hrd
 have HW1 := Lib.hid hW1
 clear hW1 hrd h
 go_enter Tryz.func65, Tryz.ntmps65
 go_upto_region 1 with fail
 rw [<- HW1.out]
 clear HW1
 cases he : c.enters with
 | false =>
  have HQ : Hid (deeper rd c = (c.enter, none)) := by show _ = _; unfold deeper; rw [he]; rfl
  rw [he] at HE;go_wp2_with fail;refine HE.mono ?_; rintro e W2 ⟨rfl, hc2, hg2⟩;have hA2 := hA.to hc2 hg2;have hK2 := hK.kept hg2 (fun e => by injection e; omega);have f_x := zA hK2;obtain ⟨W7, hW7, hb7, hA7, -⟩ := zH hA2 (Nat.le_refl _) (z := zN) hK2 zN;dsimp only [zN] at hW7 hb7;clear HE;go_wp2_with fail;rw [<- hW7];obtain ⟨z0, z1, z2, z3, z4⟩ := hb7;dsimp only at z0 z1 z2 z3 z4;refine bodyPost_ret (v := .tuple #[zN.val, .bool false]) (by simp [results, Tryz.results65, go_sem, z0, z1, z2, z3, z4, NC.val, zN]) rfl ⟨zN, by rw [HQ.out]; rfl, by rw [HQ.out]; exact hA7, by rw [HQ.out]⟩
 | true =>
  rw [he] at HE;go_wp2_with fail;refine HE.mono ?_; rintro e W2 ⟨rfl, hc2, hg2⟩;have hA2 := hA.to hc2 hg2;have hK2 := hK.kept hg2 (fun e => by injection e; omega);have HC := HRD.out he W2 hA2;clear HE;go_wp2_with fail;refine HC.mono ?_; rintro e W3 ⟨d, rfl, hA3, hm⟩;have hs23 := hA3.size;have hs2 := hA2.size;have hK3 := hK2.past hA3 (by omega);have hA3 := hA2.trans hA3;obtain ⟨dk, dp, dn, dt, dq, dl, dc⟩ := d;clear HC;cases ho : (rd c.enter).2 with
  | none =>
   have HQ : Hid (deeper rd c = ((rd c.enter).1, none)) := by
    show _ = _; unfold deeper; rw [if_pos he];cases hq : rd c.enter with
    | mk p q => rw [hq] at ho; dsimp only at ho; subst ho; rfl
   rw [ho] at hm;have hd : (⟨dk, dp, dn, dt, dq, dl, dc⟩ : NC) = zN := hm;unfold NC.val;simp only [Option.isSome_none];clear hm;go_upto_region 4 with fail;obtain ⟨V, hV⟩ : ∃ V, V = W3.alloc (.cells #[.int .i64 dk, .int .i64 dp, .int .i64 dn, .string ⟨dt.toArray⟩, .slice dq dl dc] 25) := ⟨_, rfl⟩;rw [<- hV];have hAV : yT B v (rd c.enter).1 w V := by rw [hV]; exact hA3.alloc _
   have hKV := hK3.later (w' := V) (by rw [hV]; exact (Below.refl _ _).alloc (Nat.le_refl _) _);have f_x := zA hKV;obtain ⟨W7, hW7, hb7, hA7, -⟩ := zH hAV (Nat.le_refl _) (z := zN) hKV zN;dsimp only [zN] at hW7 hb7;clear hV;go_wp2_with fail;rw [<- hW7];obtain ⟨z0, z1, z2, z3, z4⟩ := hb7;dsimp only at z0 z1 z2 z3 z4;refine bodyPost_ret (v := .tuple #[zN.val, .bool false]) (by simp [results, Tryz.results65, go_sem, z0, z1, z2, z3, z4, NC.val, zN]) rfl ⟨zN, by rw [HQ.out]; rfl, by rw [HQ.out]; exact hA7, by rw [HQ.out]⟩
  | some t =>
   have HQ : Hid (deeper rd c = ((rd c.enter).1.leave, some t)) := by
    show _ = _; unfold deeper; rw [if_pos he];cases hq : rd c.enter with
    | mk p q => rw [hq] at ho; dsimp only at ho; subst ho; rfl
   rw [ho] at hm;have hd : zG (fun b => W2.heap.size <= b) W3 ⟨dk, dp, dn, dt, dq, dl, dc⟩ t := hm;unfold NC.val;simp only [Option.isSome_some];clear hm;go_upto_region 4 with fail;obtain ⟨V, hV, hKd, hBV, -⟩ := zT W3 #[.int .i64 dk, .int .i64 dp, .int .i64 dn, .string ⟨dt.toArray⟩, .slice dq dl dc] 25;rw [<- hV];have hAV := hA3.below hBV;have hKV := hK3.later hBV;have hdV := hd.later hBV;have HL := lI hAV.cur;have hsV := hBV.size;have hltB := hA3.lt;clear hV;go_wp2_with fail;refine HL.mono ?_; rintro e W4 ⟨⟨r, rfl⟩, hc4, hg4⟩;have hA4 := hAV.to hc4 hg4;have hK4 := hKV.kept hg4 (fun e => by injection e; omega);have hKd4 := hKd.kept hg4 (fun e => by injection e; omega);have hd4 : zG (fun b => W2.heap.size <= b) W4 ⟨dk, dp, dn, dt, dq, dl, dc⟩ t := hdV.keeps ⟨hg4.size, fun k hk hkl => hg4.block k hkl (fun e => by injection e; omega)⟩;have f_x := zA hK4;obtain ⟨⟨y0, y1, y2, y3, y4⟩, -⟩ := zA hKd4;obtain ⟨W7, hW7, hb7, hA7, hn7⟩ := zH hA4 (Nat.le_refl _) (z := zN) hK4 ⟨dk, dp, dn, dt, dq, dl, dc⟩;have hg2s := hg2.size;have hd7 := (hn7 _ _ _ hd4 (by omega)).mono (S' := fun b => w.heap.size <= b) fun k hk _ => by omega
   dsimp only at hW7 hb7;clear HL;go_wp2_with fail;rw [<- hW7];obtain ⟨z0, z1, z2, z3, z4⟩ := hb7;dsimp only at z0 z1 z2 z3 z4;refine bodyPost_ret (v := .tuple #[NC.val ⟨dk, dp, dn, dt, dq, dl, dc⟩, .bool true]) (by simp [results, Tryz.results65, go_sem, z0, z1, z2, z3, z4, NC.val]) rfl ⟨_, by rw [HQ.out]; rfl, by rw [HQ.out]; exact hA7, by rw [HQ.out]; exact hd7⟩
theorem eI {f : Nat} {x y : Value} (eg : ∀ args w, (callFunc f args).run Tryz.prog w = .ok (.enter f args) w) {rd : Cu -> yM Nd} {w : World} {B : Nat} {v : Value} {c : Cu} (h : zJ w B v c)
  (hrd : c.enters = true -> ∀ W, yT B v c.enter w W -> Calls Tryz.prog f #[x, y] W (zU B v (rd c.enter) W)) :
  Calls Tryz.prog 65 #[.pointer (some ⟨B, 0, none⟩), .func (.func f) #[] #[x, y]] w (zU B v (deeper rd c) w) := by
 obtain ⟨W1, hW1, hK, -, -⟩ := zT w #[.int .i64 0, .int .i64 0, .int .i64 0, .string ⟨#[]⟩, .slice none 0 0] 25
 have hA : yT B v c w W1 := by rw [hW1]; exact (yT.of h).alloc _
 have hsz : W1.heap.size = w.heap.size + 1 := by rw [hW1]; simp
 have HE := lO hA.cur
 have hlt := h.lt
 have HRD := Lib.hid hrd
 have HW1 := Lib.hid hW1
 clear hW1 hrd h
 go_enter Tryz.func65, Tryz.ntmps65
 go_upto_region 1 with fail
 rw [<- HW1.out]
 clear HW1
 cases he : c.enters with
 | false =>
  have HQ : Hid (deeper rd c = (c.enter, none)) := by show _ = _; unfold deeper; rw [he]; rfl
  rw [he] at HE;go_wp2_with fail;refine HE.mono ?_; rintro e W2 ⟨rfl, hc2, hg2⟩;have hA2 := hA.to hc2 hg2;have hK2 := hK.kept hg2 (fun e => by injection e; omega);have f_x := zA hK2;obtain ⟨W7, hW7, hb7, hA7, -⟩ := zH hA2 (Nat.le_refl _) (z := zN) hK2 zN;dsimp only [zN] at hW7 hb7;clear HE;go_wp2_with fail;rw [<- hW7];obtain ⟨z0, z1, z2, z3, z4⟩ := hb7;dsimp only at z0 z1 z2 z3 z4;refine bodyPost_ret (v := .tuple #[zN.val, .bool false]) (by simp [results, Tryz.results65, go_sem, z0, z1, z2, z3, z4, NC.val, zN]) rfl ⟨zN, by rw [HQ.out]; rfl, by rw [HQ.out]; exact hA7, by rw [HQ.out]⟩
 | true =>
  rw [he] at HE;go_wp2_with fail;refine HE.mono ?_; rintro e W2 ⟨rfl, hc2, hg2⟩;have hA2 := hA.to hc2 hg2;have hK2 := hK.kept hg2 (fun e => by injection e; omega);have HC := HRD.out he W2 hA2;clear HE;go_wp2_with fail;refine HC.mono ?_; rintro e W3 ⟨d, rfl, hA3, hm⟩;have hs23 := hA3.size;have hs2 := hA2.size;have hK3 := hK2.past hA3 (by omega);have hA3 := hA2.trans hA3;obtain ⟨dk, dp, dn, dt, dq, dl, dc⟩ := d;clear HC;cases ho : (rd c.enter).2 with
  | none =>
   have HQ : Hid (deeper rd c = ((rd c.enter).1, none)) := by
    show _ = _; unfold deeper; rw [if_pos he];cases hq : rd c.enter with
    | mk p q => rw [hq] at ho; dsimp only at ho; subst ho; rfl
   rw [ho] at hm;have hd : (⟨dk, dp, dn, dt, dq, dl, dc⟩ : NC) = zN := hm;unfold NC.val;simp only [Option.isSome_none];clear hm;go_upto_region 4 with fail;obtain ⟨V, hV⟩ : ∃ V, V = W3.alloc (.cells #[.int .i64 dk, .int .i64 dp, .int .i64 dn, .string ⟨dt.toArray⟩, .slice dq dl dc] 25) := ⟨_, rfl⟩;rw [<- hV];have hAV : yT B v (rd c.enter).1 w V := by rw [hV]; exact hA3.alloc _
   have hKV := hK3.later (w' := V) (by rw [hV]; exact (Below.refl _ _).alloc (Nat.le_refl _) _);have f_x := zA hKV;obtain ⟨W7, hW7, hb7, hA7, -⟩ := zH hAV (Nat.le_refl _) (z := zN) hKV zN;dsimp only [zN] at hW7 hb7;clear hV;go_wp2_with fail;rw [<- hW7];obtain ⟨z0, z1, z2, z3, z4⟩ := hb7;dsimp only at z0 z1 z2 z3 z4;refine bodyPost_ret (v := .tuple #[zN.val, .bool false]) (by simp [results, Tryz.results65, go_sem, z0, z1, z2, z3, z4, NC.val, zN]) rfl ⟨zN, by rw [HQ.out]; rfl, by rw [HQ.out]; exact hA7, by rw [HQ.out]⟩
  | some t =>
   have HQ : Hid (deeper rd c = ((rd c.enter).1.leave, some t)) := by
    show _ = _; unfold deeper; rw [if_pos he];cases hq : rd c.enter with
    | mk p q => rw [hq] at ho; dsimp only at ho; subst ho; rfl
   rw [ho] at hm;have hd : zG (fun b => W2.heap.size <= b) W3 ⟨dk, dp, dn, dt, dq, dl, dc⟩ t := hm;unfold NC.val;simp only [Option.isSome_some];clear hm;go_upto_region 4 with fail;obtain ⟨V, hV, hKd, hBV, -⟩ := zT W3 #[.int .i64 dk, .int .i64 dp, .int .i64 dn, .string ⟨dt.toArray⟩, .slice dq dl dc] 25;rw [<- hV];have hAV := hA3.below hBV;have hKV := hK3.later hBV;have hdV := hd.later hBV;have HL := lI hAV.cur;have hsV := hBV.size;have hltB := hA3.lt;clear hV;go_wp2_with fail;refine HL.mono ?_; rintro e W4 ⟨⟨r, rfl⟩, hc4, hg4⟩;have hA4 := hAV.to hc4 hg4;have hK4 := hKV.kept hg4 (fun e => by injection e; omega);have hKd4 := hKd.kept hg4 (fun e => by injection e; omega);have hd4 : zG (fun b => W2.heap.size <= b) W4 ⟨dk, dp, dn, dt, dq, dl, dc⟩ t := hdV.keeps ⟨hg4.size, fun k hk hkl => hg4.block k hkl (fun e => by injection e; omega)⟩;have f_x := zA hK4;obtain ⟨⟨y0, y1, y2, y3, y4⟩, -⟩ := zA hKd4;obtain ⟨W7, hW7, hb7, hA7, hn7⟩ := zH hA4 (Nat.le_refl _) (z := zN) hK4 ⟨dk, dp, dn, dt, dq, dl, dc⟩;have hg2s := hg2.size;have hd7 := (hn7 _ _ _ hd4 (by omega)).mono (S' := fun b => w.heap.size <= b) fun k hk _ => by omega
   dsimp only at hW7 hb7;clear HL;go_wp2_with fail;rw [<- hW7];obtain ⟨z0, z1, z2, z3, z4⟩ := hb7;dsimp only at z0 z1 z2 z3 z4;refine bodyPost_ret (v := .tuple #[NC.val ⟨dk, dp, dn, dt, dq, dl, dc⟩, .bool true]) (by simp [results, Tryz.results65, go_sem, z0, z1, z2, z3, z4, NC.val]) rfl ⟨_, by rw [HQ.out]; rfl, by rw [HQ.out]; exact hA7, by rw [HQ.out]; exact hd7⟩
end Go.Proofs.YtdjomhbmhooceaaGreat.N7
namespace Go.Proofs.YtdjomhbmhooceaaGreat.N7
open Go.RowKit N5 N6
theorem fT {f : Nat} {x : Value} (eg : ∀ args w, (callFunc f args).run Tryz.prog w = .ok (.enter f args) w) {wh : Cu -> yM Nd} {w : World} {B : Nat} {v : Value} {c : Cu} {p q : Nat} (h : zJ w B v c) (Kp : zW w p #[.pointer (some ⟨B, 0, none⟩)] 35) (Kq : zW w q #[.func (.func f) #[x] #[]] 64) (hp : p ≠ B) (hq : q ≠ B)
  (hwh : c.is [40] = true -> ∀ W, yT B v (c.want [40]) w W -> Calls Tryz.prog f #[x] W (zU B v (wh (c.want [40])) W)) :
  Calls Tryz.prog 149 #[.pointer (some ⟨p, 0, none⟩), .pointer (some ⟨q, 0, none⟩)] w (zU B v (wA wh c) w) := by
 have HWH := Lib.hid hwh
 clear hwh
 obtain ⟨W1, hW1, Kr, -, -⟩ := zT w #[.int .i64 0, .int .i64 0, .int .i64 0, .string ⟨#[]⟩, .slice none 0 0] 25
 have hsz : W1.heap.size = w.heap.size + 1 := by rw [hW1]; simp
 have hA1 : yT B v c w W1 := by rw [hW1]; exact (yT.of h).alloc _
 have Kp := Kp.later (w' := W1) (by rw [hW1]; exact (Below.refl _ w).alloc (Nat.le_refl _) _)
 have Kq := Kq.later (w' := W1) (by rw [hW1]; exact (Below.refl _ w).alloc (Nat.le_refl _) _)
 have hlt := h.lt
 have HW1 := Lib.hid hW1
 clear hW1 h
 go_enter Tryz.func149, Tryz.ntmps149
 go_upto_region 1 with fail
 rw [<- HW1.out]
 clear HW1
 have f_r := zA Kr
 have p0 := zC Kp
 have q0 := zC Kq
 cases hi : c.is [40] with
 | false =>
  have HQ : Hid (wA wh c = (c.want [40], none)) := by show _ = _; unfold wA; rw [hi]; rfl
  have HC := xQ hA1.cur [40];rw [hi] at HC;go_wp2_with fail;refine HC.mono ?_; rintro e W2 ⟨rfl, hc, hg⟩;clear HC;clear f_r p0 q0;have hA2 := hA1.to hc hg;have Kr := Kr.kg hg (by omega);have Kp := Kp.kg hg (by omega);have Kq := Kq.kg hg (by omega);have hs3 := hg.size;clear hA1 hc hg;obtain ⟨W7, hW7, hb7, hA7, hn7⟩ := zH hA2 (b := w.heap.size) (by omega) (z := zN) Kr zN;dsimp only [zN] at hW7 hb7;clear hn7;have f_r := zA Kr;have p0 := zC Kp;have q0 := zC Kq;go_wp2_with fail;rw [<- hW7];obtain ⟨z0, z1, z2, z3, z4⟩ := hb7;dsimp only at z0 z1 z2 z3 z4;refine bodyPost_ret (v := .tuple #[NC.val zN, .bool false]) (by simp [results, Tryz.results149, go_sem, z0, z1, z2, z3, z4, NC.val, zN]) rfl ⟨zN, by rw [HQ.out]; rfl, by rw [HQ.out]; exact hA7, by rw [HQ.out]⟩
 | true =>
  have HC := xQ hA1.cur [40];rw [hi] at HC;go_wp2_with fail;refine HC.mono ?_; rintro e W4 ⟨rfl, hc, hg⟩;clear HC;clear f_r p0 q0;have hA4 := hA1.to hc hg;have Kr := Kr.kg hg (by omega);have Kp := Kp.kg hg (by omega);have Kq := Kq.kg hg (by omega);have hs5 := hg.size;clear hA1 hc hg;have f_r := zA Kr;have p0 := zC Kp;have q0 := zC Kq;have HC := HWH.out hi W4 hA4;go_wp2_with fail;refine HC.mono ?_; rintro e W6 ⟨d, rfl, hAc, hm⟩;clear HC;clear f_r p0 q0;have hA6 := hA4.trans hAc;have Kr := Kr.kg hAc.grown (by omega);have Kp := Kp.kg hAc.grown (by omega);have Kq := Kq.kg hAc.grown (by omega);have hs7 := hAc.grown.size;clear hA4 hAc;cases ho : (wh (c.want [40])).2 with
  | none =>
   have HQ : Hid (wA wh c = ((wh (c.want [40])).1, none)) := by
    show _ = _; unfold wA; rw [if_pos hi];cases hq : wh (c.want [40]) with
    | mk p q => rw [hq] at ho; dsimp only at ho; subst ho; rfl
   rw [ho] at hm;obtain ⟨dk, dp, dn, dt, dq, dl, dc⟩ := d;unfold NC.val;simp only [Option.isSome_none];clear hm;have f_r := zA Kr;have p0 := zC Kp;have q0 := zC Kq;go_upto_region 4 with fail;obtain ⟨W8, hW8, Kd, hB, hz8⟩ := zT W6 #[.int .i64 dk, .int .i64 dp, .int .i64 dn, .string ⟨dt.toArray⟩, .slice dq dl dc] 25;rw [<- hW8];clear hW8;clear f_r p0 q0;have hA8 := hA6.below hB;have Kr := Kr.later hB;have Kp := Kp.later hB;have Kq := Kq.later hB;have hs9 := hB.size;clear hA6 hB;obtain ⟨W7, hW7, hb7, hA7, hn7⟩ := zH hA8 (b := w.heap.size) (by omega) (z := zN) Kr zN;dsimp only [zN] at hW7 hb7;clear hn7;have f_r := zA Kr;have p0 := zC Kp;have q0 := zC Kq;obtain ⟨⟨d0, d1, d2, d3, d4⟩, -⟩ := zA Kd;go_wp2_with fail;rw [<- hW7];obtain ⟨z0, z1, z2, z3, z4⟩ := hb7;dsimp only at z0 z1 z2 z3 z4;refine bodyPost_ret (v := .tuple #[NC.val zN, .bool false]) (by simp [results, Tryz.results149, go_sem, z0, z1, z2, z3, z4, NC.val, zN]) rfl ⟨zN, by rw [HQ.out]; rfl, by rw [HQ.out]; exact hA7, by rw [HQ.out]⟩
  | some t =>
   rw [ho] at hm;have Td : zG _ _ d t := hm;clear hm;cases hj : (wh (c.want [40])).1.is [41] with
   | false =>
    have HQ : Hid (wA wh c = ((wh (c.want [40])).1.want [41], none)) := by
     show _ = _; unfold wA; rw [if_pos hi];cases hq : wh (c.want [40]) with
     | mk p q => rw [hq] at ho hj; dsimp only at ho hj; subst ho; dsimp only; rw [hj]; rfl
    obtain ⟨dk, dp, dn, dt, dq, dl, dc⟩ := d;unfold NC.val;simp only [Option.isSome_some];have f_r := zA Kr;have p0 := zC Kp;have q0 := zC Kq;go_upto_region 4 with fail;obtain ⟨W10, hW10, Kd, hB, hz10⟩ := zT W6 #[.int .i64 dk, .int .i64 dp, .int .i64 dn, .string ⟨dt.toArray⟩, .slice dq dl dc] 25;rw [<- hW10];clear hW10;clear f_r p0 q0;have hA10 := hA6.below hB;have Kr := Kr.later hB;have Kp := Kp.later hB;have Kq := Kq.later hB;have Td := Td.keeps (.of_below hB);have hs11 := hB.size;clear hA6 hB;have f_r := zA Kr;have p0 := zC Kp;have q0 := zC Kq;obtain ⟨⟨d0, d1, d2, d3, d4⟩, -⟩ := zA Kd;have HC := xQ hA10.cur [41];rw [hj] at HC;go_wp2_with fail;refine HC.mono ?_; rintro e W12 ⟨rfl, hc, hg⟩;clear HC;clear f_r p0 q0 d0 d1 d2 d3 d4;have hA12 := hA10.to hc hg;have Kr := Kr.kg hg (by omega);have Kp := Kp.kg hg (by omega);have Kq := Kq.kg hg (by omega);have Kd := Kd.kg hg (by omega);have Td := Td.keeps (w' := W12) ⟨hg.size, fun k hk hkl => hg.block k hkl (fun e => by injection e; omega)⟩;have hs13 := hg.size;clear hA10 hc hg;obtain ⟨W7, hW7, hb7, hA7, hn7⟩ := zH hA12 (b := w.heap.size) (by omega) (z := zN) Kr zN;dsimp only [zN] at hW7 hb7;clear hn7;have f_r := zA Kr;have p0 := zC Kp;have q0 := zC Kq;obtain ⟨⟨d0, d1, d2, d3, d4⟩, -⟩ := zA Kd;go_wp2_with fail;rw [<- hW7];obtain ⟨z0, z1, z2, z3, z4⟩ := hb7;dsimp only at z0 z1 z2 z3 z4;refine bodyPost_ret (v := .tuple #[NC.val zN, .bool false]) (by simp [results, Tryz.results149, go_sem, z0, z1, z2, z3, z4, NC.val, zN]) rfl ⟨zN, by rw [HQ.out]; rfl, by rw [HQ.out]; exact hA7, by rw [HQ.out]⟩
   | true =>
    have HQ : Hid (wA wh c = ((wh (c.want [40])).1.want [41], some t)) := by
     show _ = _; unfold wA; rw [if_pos hi];cases hq : wh (c.want [40]) with
     | mk p q => rw [hq] at ho hj; dsimp only at ho hj; subst ho; dsimp only; rw [hj]; rfl
    obtain ⟨dk, dp, dn, dt, dq, dl, dc⟩ := d;unfold NC.val;simp only [Option.isSome_some];have f_r := zA Kr;have p0 := zC Kp;have q0 := zC Kq;go_upto_region 4 with fail;obtain ⟨W14, hW14, Kd, hB, hz14⟩ := zT W6 #[.int .i64 dk, .int .i64 dp, .int .i64 dn, .string ⟨dt.toArray⟩, .slice dq dl dc] 25;rw [<- hW14];clear hW14;clear f_r p0 q0;have hA14 := hA6.below hB;have Kr := Kr.later hB;have Kp := Kp.later hB;have Kq := Kq.later hB;have Td := Td.keeps (.of_below hB);have hs15 := hB.size;clear hA6 hB;have f_r := zA Kr;have p0 := zC Kp;have q0 := zC Kq;obtain ⟨⟨d0, d1, d2, d3, d4⟩, -⟩ := zA Kd;have HC := xQ hA14.cur [41];rw [hj] at HC;go_wp2_with fail;refine HC.mono ?_; rintro e W16 ⟨rfl, hc, hg⟩;clear HC;clear f_r p0 q0 d0 d1 d2 d3 d4;have hA16 := hA14.to hc hg;have Kr := Kr.kg hg (by omega);have Kp := Kp.kg hg (by omega);have Kq := Kq.kg hg (by omega);have Kd := Kd.kg hg (by omega);have Td := Td.keeps (w' := W16) ⟨hg.size, fun k hk hkl => hg.block k hkl (fun e => by injection e; omega)⟩;have hs17 := hg.size;clear hA14 hc hg;obtain ⟨W7, hW7, hb7, hA7, hn7⟩ := zH hA16 (b := w.heap.size) (by omega) (z := zN) Kr ⟨dk, dp, dn, dt, dq, dl, dc⟩;dsimp only [zN] at hW7 hb7;have hd7 := (hn7 _ _ _ Td (by omega)).mono (S' := fun b => w.heap.size <= b) fun k hk _ => by omega
    have f_r := zA Kr;have p0 := zC Kp;have q0 := zC Kq;obtain ⟨⟨d0, d1, d2, d3, d4⟩, -⟩ := zA Kd;go_wp2_with fail;rw [<- hW7];obtain ⟨z0, z1, z2, z3, z4⟩ := hb7;dsimp only at z0 z1 z2 z3 z4;refine bodyPost_ret (v := .tuple #[NC.val ⟨dk, dp, dn, dt, dq, dl, dc⟩, .bool true]) (by simp [results, Tryz.results149, go_sem, z0, z1, z2, z3, z4, NC.val, zN]) rfl ⟨⟨dk, dp, dn, dt, dq, dl, dc⟩, by rw [HQ.out]; rfl, by rw [HQ.out]; exact hA7, by rw [HQ.out]; exact hd7⟩
end Go.Proofs.YtdjomhbmhooceaaGreat.N7
namespace Go.Proofs.YtdjomhbmhooceaaGreat.N7
open Go.RowKit N5 N6
def zR (n : Nat) (w : World) (val : Value) (ks : List Nd) : Prop :=
 ∃ ds : List NC, ds.length = ks.length /\ w.ownsRow n 25 5 val ks.length (ds.flatMap yJ) /\ ∀ j (h : j < ds.length) (h' : j < ks.length), zG (fun b => n <= b /\ val.ownBlock ≠ some b) w ds[j] ks[j]
section
variable {n m : Nat} {w w' : World} {val : Value} {ks : List Nd} {B : Nat}
theorem zR.keep (h : zR n w val ks) (hg : w.grownBy w' (some B)) (hB : B < n) : zR n w' val ks := by
 obtain ⟨ds, h1, h2, h3⟩ := h;refine ⟨ds, h1, h2.kept hg ?_, fun j a b => (h3 j a b).keeps ⟨hg.size, fun k hk hkl => hg.block k hkl (fun e => by injection e; omega)⟩⟩;cases ho : val.ownBlock with
 | none => exact .inl rfl
 | some b => exact .inr (fun e => by injection e with e; have := (h2.lt b ho).1; omega)
theorem zR.mono (h : zR n w val ks) (hm : m <= n) : zR m w val ks := by
 obtain ⟨ds, h1, h2, h3⟩ := h;refine ⟨ds, h1, ⟨h2.1, ?_⟩, fun j a b => (h3 j a b).mono fun k hk _ => ⟨by omega, hk.2⟩⟩;rcases h2.2 with e | ⟨g, cap, cur, e1, e2, e3⟩
 ·
  exact .inl e
 ·
  exact .inr ⟨g, cap, cur, e1, by omega, e3⟩
theorem zR.shape (h : zR n w val ks) : ∃ p cap, val = .slice p ks.length cap := by
 obtain ⟨ds, h1, h2, -⟩ := h;rcases h2.2 with ⟨e, e0⟩ | ⟨g, cap, cur, e1, -⟩
 ·
  exact ⟨none, 0, by rw [e, e0]⟩
 ·
  exact ⟨_, _, e1⟩
theorem zR.nil : zR n w (.slice none 0 0) [] := ⟨[], rfl, World.ownsRow_nil _ _ _ _, fun j h => absurd h (Nat.not_lt_zero _)⟩
theorem zR.node {p : Option Addr} {k cap : Nat} (h : zR n w (.slice p k cap) ks) (kd ps nm : Int) (tx : List UInt8) : zG (fun b => n <= b) w ⟨kd, ps, nm, tx, p, k, cap⟩ (.mk kd ps nm tx ks) := by
 have hk : k = ks.length := by obtain ⟨p', cap', e⟩ := h.shape; injection e
 obtain ⟨ds, h1, h2, h3⟩ := h;subst hk;exact jZ h2 (Nat.le_refl _) rfl rfl h1 rfl rfl rfl rfl fun j a b => (h3 j a b).mono fun k hk _ => hk.1
theorem pP {g : Nat} {cs : List Value} {k : Nat} (h : zW w g cs.toArray 25) (hn : n <= g) (hk : cs.length = k * 5) (hm : k <= maxLen) : w.ownsRow n 25 5 (.slice (some ⟨g, 0, none⟩) k k) k cs :=
 ⟨hk, .inr ⟨g, k, cs.toArray, rfl, hn, h, Nat.le_refl _, hm, by simpa using hk, by rw [<- hk]; simp⟩⟩
theorem zR.one {g : Nat} {d : NC} {t : Nd} (h : zW w g #[.int .i64 d.kind, .int .i64 d.pos, .int .i64 d.num, .string ⟨d.text.toArray⟩, .slice d.kp d.kl d.kc] 25) (hn : n <= g) (hd : zG (fun b => n <= b /\ b ≠ g) w d t) :
  zR n w (.slice (some ⟨g, 0, none⟩) 1 1) [t] := by
 refine ⟨[d], rfl, pP (cs := yJ d) h hn rfl (by unfold maxLen; omega), fun j a b => ?_⟩
 match j, a with
 | 0, _ => exact hd.mono fun k hk _ => ⟨hk.1, fun e => hk.2 (by injection e with e; exact e.symm)⟩
theorem zR.two {g : Nat} {d e : NC} {t u : Nd} (h : zW w g #[.int .i64 d.kind, .int .i64 d.pos, .int .i64 d.num, .string ⟨d.text.toArray⟩, .slice d.kp d.kl d.kc, .int .i64 e.kind, .int .i64 e.pos, .int .i64 e.num, .string ⟨e.text.toArray⟩, .slice e.kp e.kl e.kc] 25) (hn : n <= g)
  (hd : zG (fun b => n <= b /\ b ≠ g) w d t) (he : zG (fun b => n <= b /\ b ≠ g) w e u) : zR n w (.slice (some ⟨g, 0, none⟩) 2 2) [t, u] := by
 refine ⟨[d, e], rfl, pP (cs := yJ d ++ yJ e) h hn rfl (by unfold maxLen; omega), fun j a b => ?_⟩
 match j, a with
 | 0, _ => exact hd.mono fun k hk _ => ⟨hk.1, fun e => hk.2 (by injection e with e; exact e.symm)⟩
 | 1, _ => exact he.mono fun k hk _ => ⟨hk.1, fun e => hk.2 (by injection e with e; exact e.symm)⟩
theorem zR.snoc {w2 w3 : World} {v3 : Value} {d : NC} {t : Nd} {ds : List NC} (h1 : ds.length = ks.length) (h3 : ∀ j (h : j < ds.length) (h' : j < ks.length), zG (fun b => n <= b /\ val.ownBlock ≠ some b) w2 ds[j] ks[j])
  (hd : zG (fun b => n <= b /\ val.ownBlock ≠ some b) w2 d t) (ho : w3.ownsRow n 25 5 v3 (ks.length + 1) (ds.flatMap yJ ++ yJ d))
  (hal : w2.grownBy w3 val.ownBlock) (hat : v3.ownBlock = val.ownBlock \/ ∃ n, v3.ownBlock = some n /\ w2.heap.size <= n) : zR n w3 v3 (ks ++ [t]) := by
 refine ⟨ds ++ [d], by simp [h1], ?_, fun j a b => ?_⟩
 ·
  rw [List.length_append, List.flatMap_append, List.flatMap_cons, List.flatMap_nil, List.append_nil];exact ho
 ·
  by_cases hj : j < ds.length
  ·
   rw [List.getElem_append_left hj, List.getElem_append_left (by omega)];exact mF (h3 j hj (by omega)) (fun b hb _ => hb) hal hat
  ·
   have e : j = ds.length := by rw [List.length_append] at a; simp at a; omega
   subst e;rw [List.getElem_append_right (by omega), List.getElem_append_right (by omega)];simp only [h1, Nat.sub_self, List.getElem_singleton];exact mF hd (fun b hb _ => hb) hal hat
end
theorem yT.row {B : Nat} {v : Value} {c : Cu} {w W W' : World} (h : yT B v c w W) {o : Option Nat} (hg : W.grownBy W' o) (ho : ∀ b, o = some b -> w.heap.size <= b) : yT B v c w W' := by
 cases o with
 | none => exact h.below (tO hg)
 | some b =>
  have hb := ho b rfl;have hlt := h.lt;refine ⟨h.cur.kept hg (by omega) fun h0 g o n cap hv e => ?_, ⟨hg.os.trans h.grown.os, hg.tape.trans h.grown.tape, hg.output.trans h.grown.output, Nat.le_trans h.grown.size hg.size, fun k hk hne => (hg.block k (Nat.lt_of_lt_of_le hk h.grown.size) (fun e => by injection e; omega)).trans (h.grown.block k hk hne)⟩, hlt, h.far⟩;obtain ⟨a, cap', h1, _, _⟩ := h.cur.row;have hv' := hv;rw [h1] at hv;injection hv with _ e2 _
  have := h.far g o n cap hv' (fun e0 => h0 (List.eq_nil_of_length_eq_zero (by omega)));omega
def AbI (n : Nat) (w : World) (val : Value) : Option (List Nd) -> Prop
 | some ks => zR n w val ks
 | none => val = .slice none 0 0
def fV (B : Nat) (v : Value) (o : yM (List Nd)) (w : World) (e : Ending) (w' : World) : Prop :=
 ∃ val, e = .returned (.tuple #[val, .bool o.2.isSome]) /\ yT B v o.1 w w' /\ AbI w.heap.size w' val o.2
abbrev wF (B : Nat) : Value := .agg #[.pointer (some ⟨B, 0, none⟩)]
theorem oM {go : Cu -> Bool} {nx : Cu -> Cu} {rd : Cu -> yM Nd} {f : Nat} {c d : Cu} {n : Nd} {l : List Nd} (h : go c = true) (hr : rd (nx c) = (d, some n)) : yA go nx rd (f + 1) c l = yA go nx rd f d (l ++ [n]) := by
 show (if _ then _ else _) = _; rw [if_pos h, hr]
theorem oC {go : Cu -> Bool} {nx : Cu -> Cu} {rd : Cu -> yM Nd} {f : Nat} {c d : Cu} {l : List Nd} (h : go c = true) (hr : rd (nx c) = (d, none)) : yA go nx rd (f + 1) c l = (d, none) := by
 show (if _ then _ else _) = _; rw [if_pos h, hr]
theorem rF {go : Cu -> Bool} {nx : Cu -> Cu} {rd : Cu -> yM Nd} {f : Nat} {c : Cu} {l : List Nd} (h : go c = false) : yA go nx rd (f + 1) c l = (nx c, some l) := by
 show (if _ then _ else _) = _; rw [h]; rfl
theorem zM {α : Type} {o : yM α} {x : Option α} (h : o.2 = x) : o = (o.1, x) := by cases o; dsimp only at h; rw [h]
theorem jG {g f : Nat} (eg : ∀ args w, (callFunc g args).run Tryz.prog w = .ok (.enter g args) w) (ef : ∀ args w, (callFunc f args).run Tryz.prog w = .ok (.enter f args) w) {go : Cu -> Bool} {nx : Cu -> Cu} {rd : Cu -> yM Nd} (inv : Cu -> Prop)
  {w : World} {B : Nat} {v : Value} {c : Cu} (F : Nat) (hF : F <= 10000) (h : zJ w B v c) (h0 : inv c) (hf : c.ws.length - c.at' < F)
  (hgo : ∀ c' W, inv c' -> zJ W B v c' -> Calls Tryz.prog g #[wF B] W fun e w' => e = .returned (.bool (go c')) /\ yT B v (nx c') W w')
  (hrd : ∀ c' W, inv c' -> go c' = true -> zJ W B v (nx c') -> Calls Tryz.prog f #[wF B] W (zU B v (rd (nx c')) W))
  (hst : ∀ c' d n, inv c' -> go c' = true -> rd (nx c') = (d, some n) -> inv d /\ d.ws.length - d.at' < c'.ws.length - c'.at') :
  Calls Tryz.prog 145 #[wF B, .func (.func g) #[wF B] #[], .func (.func f) #[wF B] #[]] w (fV B v (yA go nx rd F c []) w) := by
 obtain ⟨W1, hW1⟩ : ∃ W1, W1 = w.alloc (.cells #[.pointer (some ⟨B, 0, none⟩)] 112) := ⟨_, rfl⟩
 have hA : yT B v c w W1 := by rw [hW1]; exact (yT.of h).alloc _
 have hsz : W1.heap.size = w.heap.size + 1 := by rw [hW1]; simp
 have hlt := h.lt
 have HGO := Lib.hid hgo
 have HRD := Lib.hid hrd
 have HST := Lib.hid hst
 have HW1 := Lib.hid hW1
 have H0 := Lib.hid h0
 obtain ⟨i0, hi0, hz0, hz1, hz2⟩ := info_parts wS
 clear hW1 hgo hrd hst h h0
 unfold wF
 go_enter Tryz.func145, Tryz.ntmps145
 go_upto_region 1 with fail
 rw [<- HW1.out]
 clear HW1
 go_wp2_with fail
 go_loopg [8] F (fun gk q wr => ∃ (c' : Cu) (ks : List Nd), Hid (yA go nx rd gk c' ks = yA go nx rd F c []) /\ Hid (inv c') /\ Hid (c'.ws.length - c'.at' < gk) /\ ks.length + gk <= F /\ yT B v c' w wr /\ zR W1.heap.size wr q ks /\ W1.heap.size <= wr.heap.size)
 case atStart => exact ⟨c, [], rfl, H0, hf, by simp, hA, zR.nil, Nat.le_refl _⟩
 case round =>
  obtain ⟨c', ks, HM, HI, HF, hkg, hA2, hO, hw1⟩ := hrel;cases gk with
  | zero => exact absurd HF.out (Nat.not_lt_zero _)
  | succ gf =>
   have HC := HGO.out c' wr HI.out hA2.cur;cases hb : go c' with
   | false =>
    have HQ : Hid (yA go nx rd F c [] = (nx c', some ks)) := by show _ = _; rw [<- HM.out]; exact rF hb
    rw [hb] at HC;go_wp2_with fail;refine HC.mono ?_; rintro e W2 ⟨rfl, hAc⟩;have hO2 := (hO.keep hAc.grown (by omega)).mono (m := w.heap.size) (by omega);have hA3 := hA2.trans hAc;clear HC hO hA2;go_wp2_with fail;go_ret2;exact ⟨_, by rw [HQ.out]; rfl, by rw [HQ.out]; exact hA3, by rw [HQ.out]; exact hO2⟩
   | true =>
    rw [hb] at HC;go_wp2_with fail;refine HC.mono ?_; rintro e W2 ⟨rfl, hAc⟩;have hO2 := hO.keep hAc.grown (by omega);have HC2 := HRD.out c' W2 HI.out hb hAc.cur;have HBK : Hid (∀ b, u8.ownBlock = some b -> W1.heap.size <= b /\ b < W2.heap.size) := by obtain ⟨ds, _, q, _⟩ := hO2; exact fun b hb => q.lt b hb
    have hA3 := hA2.trans hAc;have hs2 := hA2.size;have hs3 := hAc.size;clear HC hO hAc;unfold wF at HC2;go_wp2_with fail;refine HC2.mono ?_; rintro e W3 ⟨d, rfl, hAd, hm⟩;have hO3 := hO2.keep hAd.grown (by omega);have hA4 := hA3.trans hAd;have hs4 := hAd.size;clear HC2 hO2 hAd;obtain ⟨dk, dp, dn, dt, dq, dl, dc⟩ := d;cases ho : (rd (nx c')).2 with
    | none =>
     have HQ : Hid (yA go nx rd F c [] = ((rd (nx c')).1, none)) := by show _ = _; rw [<- HM.out]; exact oC hb (zM ho)
     unfold NC.val;simp only [Option.isSome_none];clear hm;go_wp2_with fail;go_ret2;exact ⟨_, by rw [HQ.out]; rfl, by rw [HQ.out]; exact hA4.below ((Below.refl _ _).alloc (Nat.le_refl _) _), by rw [HQ.out]; exact rfl⟩
    | some t =>
     have HM2 : Hid (yA go nx rd gf (rd (nx c')).1 (ks ++ [t]) = yA go nx rd F c []) := by show _ = _; rw [<- HM.out]; exact (oM hb (zM ho)).symm
     have HS := Lib.hid (HST.out c' (rd (nx c')).1 t HI.out hb (zM ho));rw [ho] at hm;have hd : zG (fun b => W2.heap.size <= b) W3 ⟨dk, dp, dn, dt, dq, dl, dc⟩ t := hm;clear hm;unfold NC.val;simp only [Option.isSome_some];go_upto_region 4 with fail;obtain ⟨V, hV, hKd, hBV, hVs⟩ := zT W3 #[.int .i64 dk, .int .i64 dp, .int .i64 dn, .string ⟨dt.toArray⟩, .slice dq dl dc] 25;rw [<- hV];have hAV := hA4.below hBV;have hOV := hO3.keep (zE hBV (some B)) (by omega);have hdV := hd.later hBV;obtain ⟨⟨y0, y1, y2, y3, y4⟩, -⟩ := zA hKd;obtain ⟨ds, e1, e2, e3⟩ := hOV;have HE3 := Lib.hid e3;have HE1 := Lib.hid e1;clear hV hO3 e3 e1 hBV hKd hd;go_wp2_with (at_builtin; refine yB rfl _ _ 23 rfl W1.heap.size 25 i0 _ 5 64 Tryz.underlying23 hi0 hz0 hz1 hz2 rfl (by decide) _ _ _ rfl (e2.alloc _) ⟨_, 0, none⟩ 1 1 (yJ ⟨dk, dp, dn, dt, dq, dl, dc⟩) rfl rfl (cells_of_new _ _ _ _ rfl) (wD _) ?_ ?_ ?_ ?_; (unfold maxLen; omega); omega; (simp; omega); intro v3 w3 ho3 hg3 hat3);have hal := (World.grownBy_alloc V _ u8.ownBlock).andThen hg3 (fun j hj => .inr hj);have hat4 : v3.ownBlock = u8.ownBlock \/ ∃ n, v3.ownBlock = some n /\ V.heap.size <= n := hat3.imp id fun e => ⟨_, e, by simp⟩
     have HO3 : Hid (zR W1.heap.size w3 v3 (ks ++ [t])) := zR.snoc HE1.out HE3.out (hdV.mono fun b hb _ => ⟨by omega, fun e => by have := (HBK.out b e).2; omega⟩) ho3 hal hat4;go_roundg gf
     case measure => omega
     case rel => exact ⟨_, ks ++ [t], HM2, HS.out.1, Nat.lt_of_lt_of_le HS.out.2 (Nat.le_of_lt_succ HF.out), by simp; omega, hAV.row hal (fun b hb => by have := (HBK.out b hb).1; omega), HO3.out, by have := hal.size; omega⟩
end Go.Proofs.YtdjomhbmhooceaaGreat.N7
namespace Go.Proofs.YtdjomhbmhooceaaGreat.N7
open Go.RowKit N5 N6
attribute [local go_sem] xB xA
theorem oI {f : Nat} {x : Value} (eg : ∀ args w, (callFunc f args).run Tryz.prog w = .ok (.enter f args) w) {wh : Cu -> yM Nd} {w : World} {B : Nat} {v : Value} {c : Cu} (h : zJ w B v c) (hwh : c.enters = true -> c.enter.is [40] = true -> ∀ W, zJ W B v (c.enter.want [40]) -> Calls Tryz.prog f #[x] W (zU B v (wh (c.enter.want [40])) W)) : Calls Tryz.prog 138 #[.pointer (some ⟨B, 0, none⟩), .func (.func f) #[x] #[]] w (zU B v (deeper (wA wh) c) w) := by
 have HWH := Lib.hid hwh;clear hwh;obtain ⟨W1, hW1, Kp, Kq, Kr, -, -⟩ := qE w #[.pointer (some ⟨B, 0, none⟩)] 35 #[.func (.func f) #[x] #[]] 64 #[.int .i64 0, .int .i64 0, .int .i64 0, .string ⟨#[]⟩, .slice none 0 0] 25;have hsz : W1.heap.size = w.heap.size + 1 + 1 + 1 := by rw [hW1]; simp
 have hA1 : yT B v c w W1 := by rw [hW1]; exact (yT.of h).alloc _ |>.alloc _ |>.alloc _
 have hlt := h.lt;have HW1 := Lib.hid hW1;clear hW1 h;go_enter Tryz.func138, Tryz.ntmps138;go_upto_region 1 with fail;rw [<- HW1.out];clear HW1;have p0 := zC Kp;have q0 := zC Kq;have f_r := zA Kr;have HC := eI (rd := wA wh) (enters_of Tryz.func149 (by kernel_rfl) rfl) hA1.cur (fun he W hA => fT eg hA.cur (Kp.past hA (by omega)) (Kq.past hA (by omega)) (by omega) (by omega) (fun hi W2 hA2 => HWH.out he hi W2 hA2.cur));go_wp2_with fail;refine HC.mono ?_; rintro e W2 ⟨d, rfl, hAc, hm⟩;clear HC;clear p0 q0 f_r;have hA2 := hA1.trans hAc;have Kp := Kp.kg hAc.grown (by omega);have Kq := Kq.kg hAc.grown (by omega);have Kr := Kr.kg hAc.grown (by omega);have hs3 := hAc.grown.size;clear hA1 hAc;obtain ⟨dk, dp, dn, dt, dq, dl, dc⟩ := d;obtain ⟨W7, hW7, hb7, hA7, hn7⟩ := zH hA2 (b := w.heap.size + 1 + 1) (by omega) (z := zN) Kr ⟨dk, dp, dn, dt, dq, dl, dc⟩;dsimp only [zN] at hW7 hb7;have hm7 := xE (m := w.heap.size) hm hn7 (by omega) (by omega);clear hn7;unfold NC.val;have p0 := zC Kp;have q0 := zC Kq;have f_r := zA Kr;go_wp2_with fail;rw [<- hW7];obtain ⟨z0, z1, z2, z3, z4⟩ := hb7;dsimp only at z0 z1 z2 z3 z4;exact bodyPost_ret (v := .tuple #[NC.val ⟨dk, dp, dn, dt, dq, dl, dc⟩, .bool (deeper (wA wh) c).2.isSome]) (by simp [results, Tryz.results138, go_sem, z0, z1, z2, z3, z4, NC.val, zN]) rfl ⟨_, rfl, hA7, hm7⟩
theorem tI {wh : Cu -> yM Nd} {k : Nat} {w : World} {B : Nat} {v : Value} {c : Cu} (h : zJ w B v c) (hwh : ∀ (c : Cu) (W : World), 200 <= c.nest + k -> zJ W B v c -> Calls Tryz.prog 113 #[wF B] W (zU B v (wh c) W)) (hk : 200 <= c.nest + (k + 1)) : Calls Tryz.prog 151 #[wF B] w (zU B v (zV wh c) w) := by
 have HWH := Lib.hid hwh;have HK := Lib.hid hk;clear hwh hk;unfold wF;obtain ⟨W1, hW1, Kp, Kr, -, -⟩ := vC w #[.pointer (some ⟨B, 0, none⟩)] 112 #[.int .i64 0, .int .i64 0, .int .i64 0, .string ⟨#[]⟩, .slice none 0 0] 25;have hsz : W1.heap.size = w.heap.size + 1 + 1 := by rw [hW1]; simp
 have hA1 : yT B v c w W1 := by rw [hW1]; exact (yT.of h).alloc _ |>.alloc _
 have hlt := h.lt;have HW1 := Lib.hid hW1;clear hW1 h;go_enter Tryz.func151, Tryz.ntmps151;go_upto_region 1 with fail;rw [<- HW1.out];clear HW1;have p0 := zC Kp;have f_r := zA Kr;obtain ⟨⟨tk, tp, tn, tt⟩, hT⟩ : ∃ t, t = c.peek := ⟨_, rfl⟩;have HT := Lib.hid hT;clear hT;have HC := tY hA1.cur;rw [<- HT.out] at HC;go_wp2_with fail;refine HC.mono ?_; rintro e W2 ⟨rfl, hB⟩;clear HC;clear p0 f_r;have hA2 := hA1.below hB;have Kp := Kp.later hB;have Kr := Kr.later hB;have hs3 := hB.size;clear hA1 hB;go_upto_region 2 with fail;obtain ⟨W4, hW4, Kt, hB, hz4⟩ := zT W2 #[.int .i64 tk, .int .i64 tp, .int .i64 tn, .string ⟨tt.toArray⟩] 38;rw [<- hW4];clear hW4;have hA4 := hA2.below hB;have Kp := Kp.later hB;have Kr := Kr.later hB;have hs5 := hB.size;clear hA2 hB;by_cases h1 : tk = 1
 case pos =>
  subst h1;have HQ : Hid (zV wh c = (c.adv, some (.mk 1 tp 0 tt []))) := by show _ = _; unfold zV; rw [<- HT.out]; rfl
  have p0 := zC Kp;have f_r := yH (zA Kr) (zD Kt);have HC := uW hA4.cur;go_wp2_with fail;refine HC.mono ?_; rintro e W6 ⟨rfl, hc, hg⟩;clear HC;clear p0 f_r;have hA6 := hA4.to hc hg;have Kp := Kp.kg hg (by omega);have Kr := Kr.kg hg (by omega);have Kt := Kt.kg hg (by omega);have hs7 := hg.size;clear hA4 hc hg;obtain ⟨W7, hW7, hb7, hA7, hn7⟩ := zH hA6 (b := w.heap.size + 1) (by omega) (z := zN) Kr ⟨1, tp, 0, tt, none, 0, 0⟩;dsimp only [zN] at hW7 hb7;have hd7 := (hn7 _ _ _ (yL (fun b => w.heap.size + 1 + 1 <= b) _ 1 tp 0 tt) (by omega)).mono (S' := fun b => w.heap.size <= b) fun k hk _ => by omega
  have p0 := zC Kp;have f_r := yH (zA Kr) (zD Kt);go_wp2_with fail;rw [<- hW7];obtain ⟨z0, z1, z2, z3, z4⟩ := hb7;dsimp only at z0 z1 z2 z3 z4;refine bodyPost_ret (v := .tuple #[NC.val ⟨1, tp, 0, tt, none, 0, 0⟩, .bool true]) (by simp [results, Tryz.results151, go_sem, z0, z1, z2, z3, z4, NC.val, zN]) rfl ⟨⟨1, tp, 0, tt, none, 0, 0⟩, by rw [HQ.out]; rfl, by rw [HQ.out]; exact hA7, by rw [HQ.out]; exact hd7⟩
 case neg =>
  by_cases h2 : tk = 2
  case pos =>
   subst h2;have HQ : Hid (zV wh c = (c.adv, some (.mk 2 tp 0 tt []))) := by show _ = _; unfold zV; rw [<- HT.out]; rfl
   have p0 := zC Kp;have f_r := yH (zA Kr) (zD Kt);have HC := uW hA4.cur;go_wp2_with fail;refine HC.mono ?_; rintro e W8 ⟨rfl, hc, hg⟩;clear HC;clear p0 f_r;have hA8 := hA4.to hc hg;have Kp := Kp.kg hg (by omega);have Kr := Kr.kg hg (by omega);have Kt := Kt.kg hg (by omega);have hs9 := hg.size;clear hA4 hc hg;obtain ⟨W7, hW7, hb7, hA7, hn7⟩ := zH hA8 (b := w.heap.size + 1) (by omega) (z := zN) Kr ⟨2, tp, 0, tt, none, 0, 0⟩;dsimp only [zN] at hW7 hb7;have hd7 := (hn7 _ _ _ (yL (fun b => w.heap.size + 1 + 1 <= b) _ 2 tp 0 tt) (by omega)).mono (S' := fun b => w.heap.size <= b) fun k hk _ => by omega
   have p0 := zC Kp;have f_r := yH (zA Kr) (zD Kt);go_wp2_with fail;rw [<- hW7];obtain ⟨z0, z1, z2, z3, z4⟩ := hb7;dsimp only at z0 z1 z2 z3 z4;refine bodyPost_ret (v := .tuple #[NC.val ⟨2, tp, 0, tt, none, 0, 0⟩, .bool true]) (by simp [results, Tryz.results151, go_sem, z0, z1, z2, z3, z4, NC.val, zN]) rfl ⟨⟨2, tp, 0, tt, none, 0, 0⟩, by rw [HQ.out]; rfl, by rw [HQ.out]; exact hA7, by rw [HQ.out]; exact hd7⟩
  case neg =>
   cases hi : c.is [40] with
   | false =>
    have HQ : Hid (zV wh c = (c.fail 5, none)) := by show _ = _; unfold zV; rw [<- HT.out, if_neg h1, if_neg h2, hi]; rfl
    have p0 := zC Kp;have f_r := yH (zA Kr) (zD Kt);have HC := sN hA4.cur [40];rw [hi] at HC;go_wp2_with fail;refine HC.mono ?_; rintro e W10 ⟨rfl, hB⟩;clear HC;clear p0 f_r;have hA10 := hA4.below hB;have Kp := Kp.later hB;have Kr := Kr.later hB;have Kt := Kt.later hB;have hs11 := hB.size;clear hA4 hB;have p0 := zC Kp;have f_r := yH (zA Kr) (zD Kt);have HC := rC hA10.cur 5;go_wp2_with fail;refine HC.mono ?_; rintro e W12 ⟨rfl, hc, hg⟩;clear HC;clear p0 f_r;have hA12 := hA10.to hc hg;have Kp := Kp.kg hg (by omega);have Kr := Kr.kg hg (by omega);have Kt := Kt.kg hg (by omega);have hs13 := hg.size;clear hA10 hc hg;obtain ⟨W7, hW7, hb7, hA7, hn7⟩ := zH hA12 (b := w.heap.size + 1) (by omega) (z := zN) Kr zN;dsimp only [zN] at hW7 hb7;clear hn7;have p0 := zC Kp;have f_r := yH (zA Kr) (zD Kt);go_wp2_with fail;rw [<- hW7];obtain ⟨z0, z1, z2, z3, z4⟩ := hb7;dsimp only at z0 z1 z2 z3 z4;refine bodyPost_ret (v := .tuple #[NC.val zN, .bool false]) (by simp [results, Tryz.results151, go_sem, z0, z1, z2, z3, z4, NC.val, zN]) rfl ⟨zN, by rw [HQ.out]; rfl, by rw [HQ.out]; exact hA7, by rw [HQ.out]⟩
   | true =>
    have HQ : Hid (zV wh c = deeper (wA wh) c) := by show _ = _; unfold zV; rw [<- HT.out, if_neg h1, if_neg h2, if_pos hi]
    have p0 := zC Kp;have f_r := yH (zA Kr) (zD Kt);have HC := sN hA4.cur [40];rw [hi] at HC;go_wp2_with fail;refine HC.mono ?_; rintro e W14 ⟨rfl, hB⟩;clear HC;clear p0 f_r;have hA14 := hA4.below hB;have Kp := Kp.later hB;have Kr := Kr.later hB;have Kt := Kt.later hB;have hs15 := hB.size;clear hA4 hB;have p0 := zC Kp;have f_r := yH (zA Kr) (zD Kt);have HC := oI (x := wF B) (wh := wh) (enters_of Tryz.func113 (by kernel_rfl) rfl) hA14.cur (fun he hi W hc => HWH.out _ W (by rw [nD he hi]; have := HK.out; omega) hc);go_wp2_with fail;refine HC.mono ?_; rintro e W16 ⟨d, rfl, hAc, hm⟩;clear HC;clear p0 f_r;have hA16 := hA14.trans hAc;have Kp := Kp.kg hAc.grown (by omega);have Kr := Kr.kg hAc.grown (by omega);have Kt := Kt.kg hAc.grown (by omega);have hs17 := hAc.grown.size;clear hA14 hAc;obtain ⟨dk, dp, dn, dt, dq, dl, dc⟩ := d;obtain ⟨W7, hW7, hb7, hA7, hn7⟩ := zH hA16 (b := w.heap.size + 1) (by omega) (z := zN) Kr ⟨dk, dp, dn, dt, dq, dl, dc⟩;dsimp only [zN] at hW7 hb7;have hm7 := xE (m := w.heap.size) hm hn7 (by omega) (by omega);clear hn7;unfold NC.val;have p0 := zC Kp;have f_r := yH (zA Kr) (zD Kt);go_wp2_with fail;rw [<- hW7];obtain ⟨z0, z1, z2, z3, z4⟩ := hb7;dsimp only at z0 z1 z2 z3 z4;exact bodyPost_ret (v := .tuple #[NC.val ⟨dk, dp, dn, dt, dq, dl, dc⟩, .bool (deeper (wA wh) c).2.isSome]) (by simp [results, Tryz.results151, go_sem, z0, z1, z2, z3, z4, NC.val, zN]) rfl ⟨_, by rw [HQ.out], by rw [HQ.out]; exact hA7, by rw [HQ.out]; exact hm7⟩
end Go.Proofs.YtdjomhbmhooceaaGreat.N7
