import Derived.Test.YtdjomhbmhooceaaGreatE5
import Derived.Test.YtdjomhbmhooceaaGreatE4
import Derived.Test.YtdjomhbmhooceaaGreatE3
set_option maxHeartbeats 4000000
set_option maxRecDepth 100000
set_option linter.unusedVariables false
set_option linter.unusedSimpArgs false
namespace Go.Proofs.YtdjomhbmhooceaaGreat.N7
open Go.RowKit N5 N6
def zU (w : World) (b : Nat) (cs : Array Value) (ty : TypeId) : Prop := w.heap[b]? = some (.cells cs ty (0, 0))
section
variable {w w' : World} {b : Nat} {cs : Array Value} {ty : TypeId}
theorem zU.lt (h : zU w b cs ty) : b < w.heap.size := (Array.getElem?_eq_some_iff.1 h).1
theorem zU.kept {row : Option Nat} (h : zU w b cs ty) (hg : w.grownBy w' row) (hne : some b ≠ row) : zU w' b cs ty := (hg.block b h.lt hne).trans h
theorem zU.kg {B : Nat} (h : zU w b cs ty) (hg : w.grownBy w' (some B)) (hne : b ≠ B) : zU w' b cs ty := h.kept hg (fun e => hne (by injection e))
theorem zU.later (h : zU w b cs ty) (hB : Below w.heap.size w w') : zU w' b cs ty := (hB.block b h.lt).trans h
theorem zU.new (w : World) (cs : Array Value) (ty : TypeId) : zU (w.alloc (.cells cs ty)) w.heap.size cs ty := World.alloc_heap_new w _
theorem zU.cell (h : zU w b cs ty) (i : Nat) : w.cell? ⟨b, i, none⟩ = cs[i]? := by
 have h' : w.heap[b]? = some (.cells cs ty (0, 0)) := h;simp [World.cell?, h']
theorem zU.frozen (h : zU w b cs ty) (i : Nat) : w.frozen? ⟨b, i, none⟩ = false := by
 have h' : w.heap[b]? = some (.cells cs ty (0, 0)) := h;simp [World.frozen?, h']
theorem zU.box {d : NC} (h : zU w b #[.int .i64 d.kind, .int .i64 d.pos, .int .i64 d.num, .string ⟨d.text.toArray⟩, .slice d.kp d.kl d.kc] ty) : wX w b d := ⟨h.cell 0, h.cell 1, h.cell 2, h.cell 3, h.cell 4⟩
theorem zU.set (h : zU w b cs ty) (i : Nat) (x : Value) : zU (w.setCell ⟨b, i, none⟩ x) b (cs.setIfInBounds i x) ty := rK h x
end
theorem zA {w : World} {b : Nat} {x0 x1 x2 x3 x4 : Value} {ty : TypeId} (h : zU w b #[x0, x1, x2, x3, x4] ty) :
  (w.cell? ⟨b, 0, none⟩ = some x0 /\ w.cell? ⟨b, 1, none⟩ = some x1 /\ w.cell? ⟨b, 2, none⟩ = some x2 /\ w.cell? ⟨b, 3, none⟩ = some x3 /\ w.cell? ⟨b, 4, none⟩ = some x4) /\
  (w.frozen? ⟨b, 0, none⟩ = false /\ w.frozen? ⟨b, 1, none⟩ = false /\ w.frozen? ⟨b, 2, none⟩ = false /\ w.frozen? ⟨b, 3, none⟩ = false /\ w.frozen? ⟨b, 4, none⟩ = false) :=
 ⟨⟨h.cell 0, h.cell 1, h.cell 2, h.cell 3, h.cell 4⟩, h.frozen 0, h.frozen 1, h.frozen 2, h.frozen 3, h.frozen 4⟩
theorem zD {w : World} {b : Nat} {x0 x1 x2 x3 : Value} {ty : TypeId} (h : zU w b #[x0, x1, x2, x3] ty) :
  w.cell? ⟨b, 0, none⟩ = some x0 /\ w.cell? ⟨b, 1, none⟩ = some x1 /\ w.cell? ⟨b, 2, none⟩ = some x2 /\ w.cell? ⟨b, 3, none⟩ = some x3 := ⟨h.cell 0, h.cell 1, h.cell 2, h.cell 3⟩
theorem zC {w : World} {b : Nat} {x0 : Value} {ty : TypeId} (h : zU w b #[x0] ty) : w.cell? ⟨b, 0, none⟩ = some x0 := h.cell 0
theorem yV {p0 p1 : Prop} (h0 : p0) (h1 : p1) : p0 /\ p1 := ⟨h0, h1⟩
theorem wC {p0 p1 p2 : Prop} (h0 : p0) (h1 : p1) (h2 : p2) : p0 /\ p1 /\ p2 := ⟨h0, h1, h2⟩
theorem uP {p0 p1 p2 p3 : Prop} (h0 : p0) (h1 : p1) (h2 : p2) (h3 : p3) : p0 /\ p1 /\ p2 /\ p3 := ⟨h0, h1, h2, h3⟩
theorem ga5 {p0 p1 p2 p3 p4 : Prop} (h0 : p0) (h1 : p1) (h2 : p2) (h3 : p3) (h4 : p4) : p0 /\ p1 /\ p2 /\ p3 /\ p4 := ⟨h0, h1, h2, h3, h4⟩
theorem ga6 {p0 p1 p2 p3 p4 p5 : Prop} (h0 : p0) (h1 : p1) (h2 : p2) (h3 : p3) (h4 : p4) (h5 : p5) : p0 /\ p1 /\ p2 /\ p3 /\ p4 /\ p5 := ⟨h0, h1, h2, h3, h4, h5⟩
theorem dT {w w' : World} {b0 : Nat} {c0 : Array Value} {t0 : TypeId} {b1 : Nat} {c1 : Array Value} {t1 : TypeId} (hB : Below w.heap.size w w') (h0 : zU w b0 c0 t0) (h1 : zU w b1 c1 t1) : zU w' b0 c0 t0 /\ zU w' b1 c1 t1 := ⟨h0.later hB, h1.later hB⟩
theorem uN {w w' : World} {b0 : Nat} {c0 : Array Value} {t0 : TypeId} {b1 : Nat} {c1 : Array Value} {t1 : TypeId} {b2 : Nat} {c2 : Array Value} {t2 : TypeId} (hB : Below w.heap.size w w') (h0 : zU w b0 c0 t0) (h1 : zU w b1 c1 t1) (h2 : zU w b2 c2 t2) : zU w' b0 c0 t0 /\ zU w' b1 c1 t1 /\ zU w' b2 c2 t2 := ⟨h0.later hB, h1.later hB, h2.later hB⟩
theorem vB {w w' : World} {b0 : Nat} {c0 : Array Value} {t0 : TypeId} {b1 : Nat} {c1 : Array Value} {t1 : TypeId} {b2 : Nat} {c2 : Array Value} {t2 : TypeId} {b3 : Nat} {c3 : Array Value} {t3 : TypeId} (hB : Below w.heap.size w w') (h0 : zU w b0 c0 t0) (h1 : zU w b1 c1 t1) (h2 : zU w b2 c2 t2) (h3 : zU w b3 c3 t3) : zU w' b0 c0 t0 /\ zU w' b1 c1 t1 /\ zU w' b2 c2 t2 /\ zU w' b3 c3 t3 := ⟨h0.later hB, h1.later hB, h2.later hB, h3.later hB⟩
theorem dU {w w' : World} {b0 : Nat} {c0 : Array Value} {t0 : TypeId} {b1 : Nat} {c1 : Array Value} {t1 : TypeId} {b2 : Nat} {c2 : Array Value} {t2 : TypeId} {b3 : Nat} {c3 : Array Value} {t3 : TypeId} {b4 : Nat} {c4 : Array Value} {t4 : TypeId} (hB : Below w.heap.size w w') (h0 : zU w b0 c0 t0) (h1 : zU w b1 c1 t1) (h2 : zU w b2 c2 t2) (h3 : zU w b3 c3 t3) (h4 : zU w b4 c4 t4) : zU w' b0 c0 t0 /\ zU w' b1 c1 t1 /\ zU w' b2 c2 t2 /\ zU w' b3 c3 t3 /\ zU w' b4 c4 t4 := ⟨h0.later hB, h1.later hB, h2.later hB, h3.later hB, h4.later hB⟩
theorem gl6 {w w' : World} {b0 : Nat} {c0 : Array Value} {t0 : TypeId} {b1 : Nat} {c1 : Array Value} {t1 : TypeId} {b2 : Nat} {c2 : Array Value} {t2 : TypeId} {b3 : Nat} {c3 : Array Value} {t3 : TypeId} {b4 : Nat} {c4 : Array Value} {t4 : TypeId} {b5 : Nat} {c5 : Array Value} {t5 : TypeId} (hB : Below w.heap.size w w') (h0 : zU w b0 c0 t0) (h1 : zU w b1 c1 t1) (h2 : zU w b2 c2 t2) (h3 : zU w b3 c3 t3) (h4 : zU w b4 c4 t4) (h5 : zU w b5 c5 t5) : zU w' b0 c0 t0 /\ zU w' b1 c1 t1 /\ zU w' b2 c2 t2 /\ zU w' b3 c3 t3 /\ zU w' b4 c4 t4 /\ zU w' b5 c5 t5 := ⟨h0.later hB, h1.later hB, h2.later hB, h3.later hB, h4.later hB, h5.later hB⟩
theorem zR (w : World) (a : Array Value) (s : TypeId) : ∃ V, V = w.alloc (.cells a s) /\ zU V w.heap.size a s /\ Below w.heap.size w V /\ w.heap.size + 1 <= V.heap.size :=
 ⟨_, rfl, zU.new w a s, (Below.refl _ _).alloc (Nat.le_refl _) _, by simp⟩
theorem vW (w : World) (a : Array Value) (s : TypeId) (b : Array Value) (t : TypeId) : ∃ V, V = (w.alloc (.cells a s)).alloc (.cells b t) /\ zU V w.heap.size a s /\ zU V (w.heap.size + 1) b t /\ Below w.heap.size w V /\ w.heap.size + 1 + 1 <= V.heap.size := by
 obtain ⟨U, hU, h1, hB, hz⟩ := zR w a s;obtain ⟨V, hV, h2, hC, hy⟩ := zR U b t;have hs : U.heap.size = w.heap.size + 1 := by rw [hU]; simp
 rw [hU] at hV;exact ⟨V, hV, h1.later hC, hs ▸ h2, zS hB hC, by omega⟩
theorem pF (w : World) (a : Array Value) (s : TypeId) (b : Array Value) (t : TypeId) (c : Array Value) (u : TypeId) : ∃ V, V = ((w.alloc (.cells a s)).alloc (.cells b t)).alloc (.cells c u) /\ zU V w.heap.size a s /\ zU V (w.heap.size + 1) b t /\ zU V (w.heap.size + 1 + 1) c u /\ Below w.heap.size w V /\ w.heap.size + 1 + 1 + 1 <= V.heap.size := by
 obtain ⟨U, hU, h1, h2, hB, hz⟩ := vW w a s b t;obtain ⟨V, hV, h3, hC, hy⟩ := zR U c u;have hs : U.heap.size = w.heap.size + 1 + 1 := by rw [hU]; simp
 rw [hU] at hV;exact ⟨V, hV, h1.later hC, h2.later hC, hs ▸ h3, zS hB hC, by omega⟩
structure xF (B : Nat) (v : Value) (c : Cu) (w W : World) : Prop where
 cur : zJ W B v c
 grown : w.grownBy W (some B)
 lt : B < w.heap.size
 far : ∀ g o n cap, v = .slice (some ⟨g, o, none⟩) n cap -> n ≠ 0 -> g < w.heap.size
section
variable {B : Nat} {v : Value} {c c' : Cu} {w W W' : World}
theorem xF.of (h : zJ w B v c) : xF B v c w w := by
 refine ⟨h, World.grownBy.refl _ _, h.lt, fun g o n cap hv hn => ?_⟩;obtain ⟨a, cap', h1, _, h2⟩ := h.row;rw [h1] at hv;injection hv with e1 e2 e3
 rcases h2 with h2 | ⟨g', o', h3, h4, _, _⟩
 ·
  rw [h2] at e2; exact absurd e2.symm hn
 ·
  rw [h3] at e1; injection e1 with e1; injection e1 with e1; omega
theorem xF.size (h : xF B v c w W) : w.heap.size <= W.heap.size := h.grown.size
theorem xF.below (h : xF B v c w W) (hB : Below W.heap.size W W') : xF B v c w W' := ⟨h.cur.below hB, xO h.grown (zE hB _), h.lt, h.far⟩
theorem xF.alloc (h : xF B v c w W) (o : Obj) : xF B v c w (W.alloc o) := h.below ((Below.refl _ W).alloc (Nat.le_refl _) o)
theorem xF.to (h : xF B v c w W) (hc : zJ W' B v c') (hg : W.grownBy W' (some B)) : xF B v c' w W' := ⟨hc, xO h.grown hg, h.lt, h.far⟩
theorem xF.trans (h : xF B v c w W) (g : xF B v c' W W') : xF B v c' w W' := h.to g.cur g.grown
theorem xF.put (h : xF B v c w W) {b : Nat} (hb : w.heap.size <= b) (i : Nat) (x : Value) : xF B v c w (W.setCell ⟨b, i, none⟩ x) := by
 have hlt := h.lt;refine ⟨h.cur.kept (tL W b i x) (by omega) (fun h0 g o n cap hv e => ?_), ⟨h.grown.os, h.grown.tape, h.grown.output, by rw [show (W.setCell ⟨b, i, none⟩ x).heap.size = W.heap.size by simp]; exact h.grown.size, fun k hk hne => ?_⟩, hlt, h.far⟩
 ·
  obtain ⟨a, cap', h1, _, _⟩ := h.cur.row;have hv' := hv;rw [h1] at hv;injection hv with _ e2 _
  have := h.far g o n cap hv' (fun e0 => h0 (List.eq_nil_of_length_eq_zero (by omega)));omega
 ·
  exact ((tL W b i x).block k (Nat.lt_of_lt_of_le hk h.grown.size) (fun e => by injection e; omega)).trans (h.grown.block k hk hne)
theorem zU.past {w W : World} {B b : Nat} {v : Value} {c : Cu} {cs : Array Value} {ty : TypeId} (h : zU w b cs ty) (hA : xF B v c w W) (hne : b ≠ B) : zU W b cs ty := h.kept hA.grown (fun e => hne (by injection e))
theorem zH {b : Nat} {z : NC} {ty : TypeId} (h : xF B v c w W) (hb : w.heap.size <= b) (hz : zU W b #[.int .i64 z.kind, .int .i64 z.pos, .int .i64 z.num, .string ⟨z.text.toArray⟩, .slice z.kp z.kl z.kc] ty) (d : NC) :
  ∃ W7, W7 = (((((W.setCell ⟨b, 0, none⟩ (.int .i64 d.kind)).setCell ⟨b, 1, none⟩ (.int .i64 d.pos)).setCell ⟨b, 2, none⟩ (.int .i64 d.num)).setCell ⟨b, 3, none⟩ (.string ⟨d.text.toArray⟩)).setCell ⟨b, 4, none⟩ (.slice d.kp d.kl d.kc)) /\
   wX W7 b d /\ xF B v c w W7 /\ ∀ (S : Nat -> Prop) (x : NC) (t : Nd), zG S W x t -> ¬ S b -> zG S W7 x t := by
 refine ⟨_, rfl, wX.put hz.box d, ((((h.put hb 0 _).put hb 1 _).put hb 2 _).put hb 3 _).put hb 4 _, fun S x t hx hS => hx.keeps ⟨by simp, fun k hk _ => ?_⟩⟩
 have hne : k ≠ b := fun e => hS (e ▸ hk)
 rw [Below.heap_setCell _ _ _ _ hne, Below.heap_setCell _ _ _ _ hne, Below.heap_setCell _ _ _ _ hne, Below.heap_setCell _ _ _ _ hne, Below.heap_setCell _ _ _ _ hne]
end
abbrev cG (n : Nat) (w : World) (d : NC) (x : Option Nd) : Prop := match x with
 | some t => zG (fun b => n <= b) w d t
 | none => d = zN
def zT (B : Nat) (v : Value) (o : yJ Nd) (w : World) (e : Ending) (w' : World) : Prop :=
 ∃ d : NC, e = .returned (.tuple #[d.val, .bool o.2.isSome]) /\ xF B v o.1 w w' /\ cG w.heap.size w' d o.2
theorem xS {x : Option Nd} {n m b : Nat} {W W7 : World} {d : NC} (hm : cG n W d x) (hn7 : ∀ (S : Nat -> Prop) (x : NC) (t : Nd), zG S W x t -> ¬ S b -> zG S W7 x t) (hb : b < n) (hle : m <= n) : cG m W7 d x := by
 cases x with
 | none => exact hm
 | some t => exact (hn7 _ _ _ hm (by omega)).mono fun k hk _ => by omega
theorem yW (S : Nat -> Prop) (w : World) (k p n : Int) (t : List UInt8) : zG S w ⟨k, p, n, t, none, 0, 0⟩ (.mk k p n t []) :=
 .mk _ _ [] rfl rfl rfl rfl rfl (rG.nil _ _) fun i h => absurd h (Nat.not_lt_zero _)
theorem lD {c : Cu} (he : c.enters = true) (hi : c.enter.is [40] = true) : (c.enter.want [40]).nest = c.nest + 1 := by
 rw [(zI c.enter [40]).nest (yS.2 hi), yY he]
theorem sR {w : World} {B : Nat} {v : Value} {c : Cu} (h : zJ w B v c) : Calls Tryz.prog 18 #[.pointer (some ⟨B, 0, none⟩)] w fun e w' => e = .returned (.agg #[.int .i64 c.peek.kind, .int .i64 c.peek.pos, .int .i64 c.peek.num, .string ⟨c.peek.text.toArray⟩]) /\ Below w.heap.size w w' := eZ h
theorem tK {w : World} {B : Nat} {v : Value} {c : Cu} (h : zJ w B v c) : Calls Tryz.prog 89 #[.pointer (some ⟨B, 0, none⟩)] w (sB B v c.adv (.agg #[.int .i64 c.peek.kind, .int .i64 c.peek.pos, .int .i64 c.peek.num, .string ⟨c.peek.text.toArray⟩]) w) := fX h
theorem xW {w : World} {B : Nat} {v : Value} {c : Cu} (h : zJ w B v c) (l : List UInt8) : Calls Tryz.prog 58 #[.pointer (some ⟨B, 0, none⟩), .string ⟨l.toArray⟩] w (sB B v (c.want l) (.bool (c.is l)) w) := by
 have := AeO h ⟨l.toArray⟩;simpa using this
theorem rL {w : World} {B : Nat} {v : Value} {c : Cu} (h : zJ w B v c) (l : List UInt8) : Calls Tryz.prog 54 #[.pointer (some ⟨B, 0, none⟩), .string ⟨l.toArray⟩] w (sB B v (c.take l) (.bool (c.is l)) w) := by
 have := gY h ⟨l.toArray⟩;simpa using this
theorem rI {w : World} {B : Nat} {v : Value} {c : Cu} (h : zJ w B v c) (l : List UInt8) : Calls Tryz.prog 90 #[.pointer (some ⟨B, 0, none⟩), .string ⟨l.toArray⟩] w (N5.RunsTo (c.is l) w) := by
 have := AdI h ⟨l.toArray⟩;simpa using this
theorem aN {w : World} {B : Nat} {v : Value} {c : Cu} (h : zJ w B v c) (l : List UInt8) : Calls Tryz.prog 132 #[.pointer (some ⟨B, 0, none⟩), .string ⟨l.toArray⟩] w (N5.RunsTo (c.ahead l) w) := by
 have := AaK h ⟨l.toArray⟩;simpa using this
end Go.Proofs.YtdjomhbmhooceaaGreat.N7
namespace Go.Proofs.YtdjomhbmhooceaaGreat.N7
open Go.RowKit N5 N6
theorem oT {f : Nat} {x : Value} (eg : ∀ args w, (callFunc f args).run Tryz.prog w = .ok (.enter f args) w) {rd : Cu -> yJ Nd} {w : World} {B : Nat} {v : Value} {c : Cu} (h : zJ w B v c)
  (hrd : c.enters = true -> ∀ W, xF B v c.enter w W -> Calls Tryz.prog f #[x] W (zT B v (rd c.enter) W)) :
  Calls Tryz.prog 65 #[.pointer (some ⟨B, 0, none⟩), .func (.func f) #[x] #[]] w (zT B v (deeper rd c) w) := by
 obtain ⟨W1, hW1, hK, -, -⟩ := zR w #[.int .i64 0, .int .i64 0, .int .i64 0, .string ⟨#[]⟩, .slice none 0 0] 25
 have hA : xF B v c w W1 := by rw [hW1]; exact (xF.of h).alloc _
 have hsz : W1.heap.size = w.heap.size + 1 := by rw [hW1]; simp
 have HE := iP hA.cur
 have hlt := h.lt
 have HRD := Lib.hid hrd
 have HW1 := Lib.hid hW1
 clear hW1 hrd h
 go_enter Tryz.func65, Tryz.ntmps65
 go_upto_region 1 with fail
 rw [<- HW1.out]
 clear HW1
 cases he : c.enters with
 | false =>
  have HQ : Hid (deeper rd c = (c.enter, none)) := by show _ = _; unfold deeper; rw [he]; rfl
  rw [he] at HE;go_wp2_with fail;refine HE.mono ?_; rintro e W2 ⟨rfl, hc2, hg2⟩;have hA2 := hA.to hc2 hg2;have hK2 := hK.kept hg2 (fun e => by injection e; omega);have f_x := zA hK2;obtain ⟨W7, hW7, hb7, hA7, -⟩ := zH hA2 (Nat.le_refl _) (z := zN) hK2 zN;dsimp only [zN] at hW7 hb7;clear HE;go_wp2_with fail;rw [<- hW7];obtain ⟨z0, z1, z2, z3, z4⟩ := hb7;dsimp only at z0 z1 z2 z3 z4;refine bodyPost_ret (v := .tuple #[zN.val, .bool false]) (by simp [results, Tryz.results65, go_sem, z0, z1, z2, z3, z4, NC.val, zN]) rfl ⟨zN, by rw [HQ.out]; rfl, by rw [HQ.out]; exact hA7, by rw [HQ.out]⟩
 | true =>
  rw [he] at HE;go_wp2_with fail;refine HE.mono ?_; rintro e W2 ⟨rfl, hc2, hg2⟩;have hA2 := hA.to hc2 hg2;have hK2 := hK.kept hg2 (fun e => by injection e; omega);have HC := HRD.out he W2 hA2;clear HE;go_wp2_with fail;refine HC.mono ?_; rintro e W3 ⟨d, rfl, hA3, hm⟩;have hs23 := hA3.size;have hs2 := hA2.size;have hK3 := hK2.past hA3 (by omega);have hA3 := hA2.trans hA3;obtain ⟨dk, dp, dn, dt, dq, dl, dc⟩ := d;clear HC;cases ho : (rd c.enter).2 with
  | none =>
   have HQ : Hid (deeper rd c = ((rd c.enter).1, none)) := by
    show _ = _; unfold deeper; rw [if_pos he];cases hq : rd c.enter with
    | mk p q => rw [hq] at ho; dsimp only at ho; subst ho; rfl
   rw [ho] at hm;have hd : (⟨dk, dp, dn, dt, dq, dl, dc⟩ : NC) = zN := hm;unfold NC.val;simp only [Option.isSome_none];clear hm;go_upto_region 4 with fail;obtain ⟨V, hV⟩ : ∃ V, V = W3.alloc (.cells #[.int .i64 dk, .int .i64 dp, .int .i64 dn, .string ⟨dt.toArray⟩, .slice dq dl dc] 25) := ⟨_, rfl⟩;rw [<- hV];have hAV : xF B v (rd c.enter).1 w V := by rw [hV]; exact hA3.alloc _
   have hKV := hK3.later (w' := V) (by rw [hV]; exact (Below.refl _ _).alloc (Nat.le_refl _) _);have f_x := zA hKV;obtain ⟨W7, hW7, hb7, hA7, -⟩ := zH hAV (Nat.le_refl _) (z := zN) hKV zN;dsimp only [zN] at hW7 hb7;clear hV;go_wp2_with fail;rw [<- hW7];obtain ⟨z0, z1, z2, z3, z4⟩ := hb7;dsimp only at z0 z1 z2 z3 z4;refine bodyPost_ret (v := .tuple #[zN.val, .bool false]) (by simp [results, Tryz.results65, go_sem, z0, z1, z2, z3, z4, NC.val, zN]) rfl ⟨zN, by rw [HQ.out]; rfl, by rw [HQ.out]; exact hA7, by rw [HQ.out]⟩
  | some t =>
   have HQ : Hid (deeper rd c = ((rd c.enter).1.leave, some t)) := by
    show _ = _; unfold deeper; rw [if_pos he];cases hq : rd c.enter with
    | mk p q => rw [hq] at ho; dsimp only at ho; subst ho; rfl
   rw [ho] at hm;have hd : zG (fun b => W2.heap.size <= b) W3 ⟨dk, dp, dn, dt, dq, dl, dc⟩ t := hm;unfold NC.val;simp only [Option.isSome_some];clear hm;go_upto_region 4 with fail;obtain ⟨V, hV, hKd, hBV, -⟩ := zR W3 #[.int .i64 dk, .int .i64 dp, .int .i64 dn, .string ⟨dt.toArray⟩, .slice dq dl dc] 25;rw [<- hV];have hAV := hA3.below hBV;have hKV := hK3.later hBV;have hdV := hd.later hBV;have HL := jU hAV.cur;have hsV := hBV.size;have hltB := hA3.lt;clear hV;go_wp2_with fail;refine HL.mono ?_; rintro e W4 ⟨⟨r, rfl⟩, hc4, hg4⟩;have hA4 := hAV.to hc4 hg4;have hK4 := hKV.kept hg4 (fun e => by injection e; omega);have hKd4 := hKd.kept hg4 (fun e => by injection e; omega);have hd4 : zG (fun b => W2.heap.size <= b) W4 ⟨dk, dp, dn, dt, dq, dl, dc⟩ t := hdV.keeps ⟨hg4.size, fun k hk hkl => hg4.block k hkl (fun e => by injection e; omega)⟩;have f_x := zA hK4;obtain ⟨⟨y0, y1, y2, y3, y4⟩, -⟩ := zA hKd4;obtain ⟨W7, hW7, hb7, hA7, hn7⟩ := zH hA4 (Nat.le_refl _) (z := zN) hK4 ⟨dk, dp, dn, dt, dq, dl, dc⟩;have hg2s := hg2.size;have hd7 := (hn7 _ _ _ hd4 (by omega)).mono (S' := fun b => w.heap.size <= b) fun k hk _ => by omega
   dsimp only at hW7 hb7;clear HL;go_wp2_with fail;rw [<- hW7];obtain ⟨z0, z1, z2, z3, z4⟩ := hb7;dsimp only at z0 z1 z2 z3 z4;refine bodyPost_ret (v := .tuple #[NC.val ⟨dk, dp, dn, dt, dq, dl, dc⟩, .bool true]) (by simp [results, Tryz.results65, go_sem, z0, z1, z2, z3, z4, NC.val]) rfl ⟨_, by rw [HQ.out]; rfl, by rw [HQ.out]; exact hA7, by rw [HQ.out]; exact hd7⟩
theorem bM {f : Nat} {x y : Value} (eg : ∀ args w, (callFunc f args).run Tryz.prog w = .ok (.enter f args) w) {rd : Cu -> yJ Nd} {w : World} {B : Nat} {v : Value} {c : Cu} (h : zJ w B v c)
  (hrd : c.enters = true -> ∀ W, xF B v c.enter w W -> Calls Tryz.prog f #[x, y] W (zT B v (rd c.enter) W)) :
  Calls Tryz.prog 65 #[.pointer (some ⟨B, 0, none⟩), .func (.func f) #[] #[x, y]] w (zT B v (deeper rd c) w) := by
 obtain ⟨W1, hW1, hK, -, -⟩ := zR w #[.int .i64 0, .int .i64 0, .int .i64 0, .string ⟨#[]⟩, .slice none 0 0] 25
 have hA : xF B v c w W1 := by rw [hW1]; exact (xF.of h).alloc _
 have hsz : W1.heap.size = w.heap.size + 1 := by rw [hW1]; simp
 have HE := iP hA.cur
 have hlt := h.lt
 have HRD := Lib.hid hrd
 have HW1 := Lib.hid hW1
 clear hW1 hrd h
 go_enter Tryz.func65, Tryz.ntmps65
 go_upto_region 1 with fail
 rw [<- HW1.out]
 clear HW1
 cases he : c.enters with
 | false =>
  have HQ : Hid (deeper rd c = (c.enter, none)) := by show _ = _; unfold deeper; rw [he]; rfl
  rw [he] at HE;go_wp2_with fail;refine HE.mono ?_; rintro e W2 ⟨rfl, hc2, hg2⟩;have hA2 := hA.to hc2 hg2;have hK2 := hK.kept hg2 (fun e => by injection e; omega);have f_x := zA hK2;obtain ⟨W7, hW7, hb7, hA7, -⟩ := zH hA2 (Nat.le_refl _) (z := zN) hK2 zN;dsimp only [zN] at hW7 hb7;clear HE;go_wp2_with fail;rw [<- hW7];obtain ⟨z0, z1, z2, z3, z4⟩ := hb7;dsimp only at z0 z1 z2 z3 z4;refine bodyPost_ret (v := .tuple #[zN.val, .bool false]) (by simp [results, Tryz.results65, go_sem, z0, z1, z2, z3, z4, NC.val, zN]) rfl ⟨zN, by rw [HQ.out]; rfl, by rw [HQ.out]; exact hA7, by rw [HQ.out]⟩
 | true =>
  rw [he] at HE;go_wp2_with fail;refine HE.mono ?_; rintro e W2 ⟨rfl, hc2, hg2⟩;have hA2 := hA.to hc2 hg2;have hK2 := hK.kept hg2 (fun e => by injection e; omega);have HC := HRD.out he W2 hA2;clear HE;go_wp2_with fail;refine HC.mono ?_; rintro e W3 ⟨d, rfl, hA3, hm⟩;have hs23 := hA3.size;have hs2 := hA2.size;have hK3 := hK2.past hA3 (by omega);have hA3 := hA2.trans hA3;obtain ⟨dk, dp, dn, dt, dq, dl, dc⟩ := d;clear HC;cases ho : (rd c.enter).2 with
  | none =>
   have HQ : Hid (deeper rd c = ((rd c.enter).1, none)) := by
    show _ = _; unfold deeper; rw [if_pos he];cases hq : rd c.enter with
    | mk p q => rw [hq] at ho; dsimp only at ho; subst ho; rfl
   rw [ho] at hm;have hd : (⟨dk, dp, dn, dt, dq, dl, dc⟩ : NC) = zN := hm;unfold NC.val;simp only [Option.isSome_none];clear hm;go_upto_region 4 with fail;obtain ⟨V, hV⟩ : ∃ V, V = W3.alloc (.cells #[.int .i64 dk, .int .i64 dp, .int .i64 dn, .string ⟨dt.toArray⟩, .slice dq dl dc] 25) := ⟨_, rfl⟩;rw [<- hV];have hAV : xF B v (rd c.enter).1 w V := by rw [hV]; exact hA3.alloc _
   have hKV := hK3.later (w' := V) (by rw [hV]; exact (Below.refl _ _).alloc (Nat.le_refl _) _);have f_x := zA hKV;obtain ⟨W7, hW7, hb7, hA7, -⟩ := zH hAV (Nat.le_refl _) (z := zN) hKV zN;dsimp only [zN] at hW7 hb7;clear hV;go_wp2_with fail;rw [<- hW7];obtain ⟨z0, z1, z2, z3, z4⟩ := hb7;dsimp only at z0 z1 z2 z3 z4;refine bodyPost_ret (v := .tuple #[zN.val, .bool false]) (by simp [results, Tryz.results65, go_sem, z0, z1, z2, z3, z4, NC.val, zN]) rfl ⟨zN, by rw [HQ.out]; rfl, by rw [HQ.out]; exact hA7, by rw [HQ.out]⟩
  | some t =>
   have HQ : Hid (deeper rd c = ((rd c.enter).1.leave, some t)) := by
    show _ = _; unfold deeper; rw [if_pos he];cases hq : rd c.enter with
    | mk p q => rw [hq] at ho; dsimp only at ho; subst ho; rfl
   rw [ho] at hm;have hd : zG (fun b => W2.heap.size <= b) W3 ⟨dk, dp, dn, dt, dq, dl, dc⟩ t := hm;unfold NC.val;simp only [Option.isSome_some];clear hm;go_upto_region 4 with fail;obtain ⟨V, hV, hKd, hBV, -⟩ := zR W3 #[.int .i64 dk, .int .i64 dp, .int .i64 dn, .string ⟨dt.toArray⟩, .slice dq dl dc] 25;rw [<- hV];have hAV := hA3.below hBV;have hKV := hK3.later hBV;have hdV := hd.later hBV;have HL := jU hAV.cur;have hsV := hBV.size;have hltB := hA3.lt;clear hV;go_wp2_with fail;refine HL.mono ?_; rintro e W4 ⟨⟨r, rfl⟩, hc4, hg4⟩;have hA4 := hAV.to hc4 hg4;have hK4 := hKV.kept hg4 (fun e => by injection e; omega);have hKd4 := hKd.kept hg4 (fun e => by injection e; omega);have hd4 : zG (fun b => W2.heap.size <= b) W4 ⟨dk, dp, dn, dt, dq, dl, dc⟩ t := hdV.keeps ⟨hg4.size, fun k hk hkl => hg4.block k hkl (fun e => by injection e; omega)⟩;have f_x := zA hK4;obtain ⟨⟨y0, y1, y2, y3, y4⟩, -⟩ := zA hKd4;obtain ⟨W7, hW7, hb7, hA7, hn7⟩ := zH hA4 (Nat.le_refl _) (z := zN) hK4 ⟨dk, dp, dn, dt, dq, dl, dc⟩;have hg2s := hg2.size;have hd7 := (hn7 _ _ _ hd4 (by omega)).mono (S' := fun b => w.heap.size <= b) fun k hk _ => by omega
   dsimp only at hW7 hb7;clear HL;go_wp2_with fail;rw [<- hW7];obtain ⟨z0, z1, z2, z3, z4⟩ := hb7;dsimp only at z0 z1 z2 z3 z4;refine bodyPost_ret (v := .tuple #[NC.val ⟨dk, dp, dn, dt, dq, dl, dc⟩, .bool true]) (by simp [results, Tryz.results65, go_sem, z0, z1, z2, z3, z4, NC.val]) rfl ⟨_, by rw [HQ.out]; rfl, by rw [HQ.out]; exact hA7, by rw [HQ.out]; exact hd7⟩
end Go.Proofs.YtdjomhbmhooceaaGreat.N7
namespace Go.Proofs.YtdjomhbmhooceaaGreat.N7
open Go.RowKit N5 N6
theorem dW {f : Nat} {x : Value} (eg : ∀ args w, (callFunc f args).run Tryz.prog w = .ok (.enter f args) w) {wh : Cu -> yJ Nd} {w : World} {B : Nat} {v : Value} {c : Cu} {p q : Nat} (h : zJ w B v c) (Kp : zU w p #[.pointer (some ⟨B, 0, none⟩)] 35) (Kq : zU w q #[.func (.func f) #[x] #[]] 64) (hp : p ≠ B) (hq : q ≠ B)
  (hwh : c.is [40] = true -> ∀ W, xF B v (c.want [40]) w W -> Calls Tryz.prog f #[x] W (zT B v (wh (c.want [40])) W)) :
  Calls Tryz.prog 149 #[.pointer (some ⟨p, 0, none⟩), .pointer (some ⟨q, 0, none⟩)] w (zT B v (xV wh c) w) := by
 have HWH := Lib.hid hwh
 clear hwh
 obtain ⟨W1, hW1, Kr, -, -⟩ := zR w #[.int .i64 0, .int .i64 0, .int .i64 0, .string ⟨#[]⟩, .slice none 0 0] 25
 have hsz : W1.heap.size = w.heap.size + 1 := by rw [hW1]; simp
 have hA1 : xF B v c w W1 := by rw [hW1]; exact (xF.of h).alloc _
 have Kp := Kp.later (w' := W1) (by rw [hW1]; exact (Below.refl _ w).alloc (Nat.le_refl _) _)
 have Kq := Kq.later (w' := W1) (by rw [hW1]; exact (Below.refl _ w).alloc (Nat.le_refl _) _)
 have hlt := h.lt
 have HW1 := Lib.hid hW1
 clear hW1 h
 go_enter Tryz.func149, Tryz.ntmps149
 go_upto_region 1 with fail
 rw [<- HW1.out]
 clear HW1
 have f_r := zA Kr
 have p0 := zC Kp
 have q0 := zC Kq
 cases hi : c.is [40] with
 | false =>
  have HQ : Hid (xV wh c = (c.want [40], none)) := by show _ = _; unfold xV; rw [hi]; rfl
  have HC := xW hA1.cur [40];rw [hi] at HC;go_wp2_with fail;refine HC.mono ?_; rintro e W2 ⟨rfl, hc, hg⟩;clear HC;clear f_r p0 q0;have hA2 := hA1.to hc hg;have Kr := Kr.kg hg (by omega);have Kp := Kp.kg hg (by omega);have Kq := Kq.kg hg (by omega);have hs3 := hg.size;clear hA1 hc hg;obtain ⟨W7, hW7, hb7, hA7, hn7⟩ := zH hA2 (b := w.heap.size) (by omega) (z := zN) Kr zN;dsimp only [zN] at hW7 hb7;clear hn7;have f_r := zA Kr;have p0 := zC Kp;have q0 := zC Kq;go_wp2_with fail;rw [<- hW7];obtain ⟨z0, z1, z2, z3, z4⟩ := hb7;dsimp only at z0 z1 z2 z3 z4;refine bodyPost_ret (v := .tuple #[NC.val zN, .bool false]) (by simp [results, Tryz.results149, go_sem, z0, z1, z2, z3, z4, NC.val, zN]) rfl ⟨zN, by rw [HQ.out]; rfl, by rw [HQ.out]; exact hA7, by rw [HQ.out]⟩
 | true =>
  have HC := xW hA1.cur [40];rw [hi] at HC;go_wp2_with fail;refine HC.mono ?_; rintro e W4 ⟨rfl, hc, hg⟩;clear HC;clear f_r p0 q0;have hA4 := hA1.to hc hg;have Kr := Kr.kg hg (by omega);have Kp := Kp.kg hg (by omega);have Kq := Kq.kg hg (by omega);have hs5 := hg.size;clear hA1 hc hg;have f_r := zA Kr;have p0 := zC Kp;have q0 := zC Kq;have HC := HWH.out hi W4 hA4;go_wp2_with fail;refine HC.mono ?_; rintro e W6 ⟨d, rfl, hAc, hm⟩;clear HC;clear f_r p0 q0;have hA6 := hA4.trans hAc;have Kr := Kr.kg hAc.grown (by omega);have Kp := Kp.kg hAc.grown (by omega);have Kq := Kq.kg hAc.grown (by omega);have hs7 := hAc.grown.size;clear hA4 hAc;cases ho : (wh (c.want [40])).2 with
  | none =>
   have HQ : Hid (xV wh c = ((wh (c.want [40])).1, none)) := by
    show _ = _; unfold xV; rw [if_pos hi];cases hq : wh (c.want [40]) with
    | mk p q => rw [hq] at ho; dsimp only at ho; subst ho; rfl
   rw [ho] at hm;obtain ⟨dk, dp, dn, dt, dq, dl, dc⟩ := d;unfold NC.val;simp only [Option.isSome_none];clear hm;have f_r := zA Kr;have p0 := zC Kp;have q0 := zC Kq;go_upto_region 4 with fail;obtain ⟨W8, hW8, Kd, hB, hz8⟩ := zR W6 #[.int .i64 dk, .int .i64 dp, .int .i64 dn, .string ⟨dt.toArray⟩, .slice dq dl dc] 25;rw [<- hW8];clear hW8;clear f_r p0 q0;have hA8 := hA6.below hB;have Kr := Kr.later hB;have Kp := Kp.later hB;have Kq := Kq.later hB;have hs9 := hB.size;clear hA6 hB;obtain ⟨W7, hW7, hb7, hA7, hn7⟩ := zH hA8 (b := w.heap.size) (by omega) (z := zN) Kr zN;dsimp only [zN] at hW7 hb7;clear hn7;have f_r := zA Kr;have p0 := zC Kp;have q0 := zC Kq;obtain ⟨⟨d0, d1, d2, d3, d4⟩, -⟩ := zA Kd;go_wp2_with fail;rw [<- hW7];obtain ⟨z0, z1, z2, z3, z4⟩ := hb7;dsimp only at z0 z1 z2 z3 z4;refine bodyPost_ret (v := .tuple #[NC.val zN, .bool false]) (by simp [results, Tryz.results149, go_sem, z0, z1, z2, z3, z4, NC.val, zN]) rfl ⟨zN, by rw [HQ.out]; rfl, by rw [HQ.out]; exact hA7, by rw [HQ.out]⟩
  | some t =>
   rw [ho] at hm;have Td : zG _ _ d t := hm;clear hm;cases hj : (wh (c.want [40])).1.is [41] with
   | false =>
    have HQ : Hid (xV wh c = ((wh (c.want [40])).1.want [41], none)) := by
     show _ = _; unfold xV; rw [if_pos hi];cases hq : wh (c.want [40]) with
     | mk p q => rw [hq] at ho hj; dsimp only at ho hj; subst ho; dsimp only; rw [hj]; rfl
    obtain ⟨dk, dp, dn, dt, dq, dl, dc⟩ := d;unfold NC.val;simp only [Option.isSome_some];have f_r := zA Kr;have p0 := zC Kp;have q0 := zC Kq;go_upto_region 4 with fail;obtain ⟨W10, hW10, Kd, hB, hz10⟩ := zR W6 #[.int .i64 dk, .int .i64 dp, .int .i64 dn, .string ⟨dt.toArray⟩, .slice dq dl dc] 25;rw [<- hW10];clear hW10;clear f_r p0 q0;have hA10 := hA6.below hB;have Kr := Kr.later hB;have Kp := Kp.later hB;have Kq := Kq.later hB;have Td := Td.keeps (.of_below hB);have hs11 := hB.size;clear hA6 hB;have f_r := zA Kr;have p0 := zC Kp;have q0 := zC Kq;obtain ⟨⟨d0, d1, d2, d3, d4⟩, -⟩ := zA Kd;have HC := xW hA10.cur [41];rw [hj] at HC;go_wp2_with fail;refine HC.mono ?_; rintro e W12 ⟨rfl, hc, hg⟩;clear HC;clear f_r p0 q0 d0 d1 d2 d3 d4;have hA12 := hA10.to hc hg;have Kr := Kr.kg hg (by omega);have Kp := Kp.kg hg (by omega);have Kq := Kq.kg hg (by omega);have Kd := Kd.kg hg (by omega);have Td := Td.keeps (w' := W12) ⟨hg.size, fun k hk hkl => hg.block k hkl (fun e => by injection e; omega)⟩;have hs13 := hg.size;clear hA10 hc hg;obtain ⟨W7, hW7, hb7, hA7, hn7⟩ := zH hA12 (b := w.heap.size) (by omega) (z := zN) Kr zN;dsimp only [zN] at hW7 hb7;clear hn7;have f_r := zA Kr;have p0 := zC Kp;have q0 := zC Kq;obtain ⟨⟨d0, d1, d2, d3, d4⟩, -⟩ := zA Kd;go_wp2_with fail;rw [<- hW7];obtain ⟨z0, z1, z2, z3, z4⟩ := hb7;dsimp only at z0 z1 z2 z3 z4;refine bodyPost_ret (v := .tuple #[NC.val zN, .bool false]) (by simp [results, Tryz.results149, go_sem, z0, z1, z2, z3, z4, NC.val, zN]) rfl ⟨zN, by rw [HQ.out]; rfl, by rw [HQ.out]; exact hA7, by rw [HQ.out]⟩
   | true =>
    have HQ : Hid (xV wh c = ((wh (c.want [40])).1.want [41], some t)) := by
     show _ = _; unfold xV; rw [if_pos hi];cases hq : wh (c.want [40]) with
     | mk p q => rw [hq] at ho hj; dsimp only at ho hj; subst ho; dsimp only; rw [hj]; rfl
    obtain ⟨dk, dp, dn, dt, dq, dl, dc⟩ := d;unfold NC.val;simp only [Option.isSome_some];have f_r := zA Kr;have p0 := zC Kp;have q0 := zC Kq;go_upto_region 4 with fail;obtain ⟨W14, hW14, Kd, hB, hz14⟩ := zR W6 #[.int .i64 dk, .int .i64 dp, .int .i64 dn, .string ⟨dt.toArray⟩, .slice dq dl dc] 25;rw [<- hW14];clear hW14;clear f_r p0 q0;have hA14 := hA6.below hB;have Kr := Kr.later hB;have Kp := Kp.later hB;have Kq := Kq.later hB;have Td := Td.keeps (.of_below hB);have hs15 := hB.size;clear hA6 hB;have f_r := zA Kr;have p0 := zC Kp;have q0 := zC Kq;obtain ⟨⟨d0, d1, d2, d3, d4⟩, -⟩ := zA Kd;have HC := xW hA14.cur [41];rw [hj] at HC;go_wp2_with fail;refine HC.mono ?_; rintro e W16 ⟨rfl, hc, hg⟩;clear HC;clear f_r p0 q0 d0 d1 d2 d3 d4;have hA16 := hA14.to hc hg;have Kr := Kr.kg hg (by omega);have Kp := Kp.kg hg (by omega);have Kq := Kq.kg hg (by omega);have Kd := Kd.kg hg (by omega);have Td := Td.keeps (w' := W16) ⟨hg.size, fun k hk hkl => hg.block k hkl (fun e => by injection e; omega)⟩;have hs17 := hg.size;clear hA14 hc hg;obtain ⟨W7, hW7, hb7, hA7, hn7⟩ := zH hA16 (b := w.heap.size) (by omega) (z := zN) Kr ⟨dk, dp, dn, dt, dq, dl, dc⟩;dsimp only [zN] at hW7 hb7;have hd7 := (hn7 _ _ _ Td (by omega)).mono (S' := fun b => w.heap.size <= b) fun k hk _ => by omega
    have f_r := zA Kr;have p0 := zC Kp;have q0 := zC Kq;obtain ⟨⟨d0, d1, d2, d3, d4⟩, -⟩ := zA Kd;go_wp2_with fail;rw [<- hW7];obtain ⟨z0, z1, z2, z3, z4⟩ := hb7;dsimp only at z0 z1 z2 z3 z4;refine bodyPost_ret (v := .tuple #[NC.val ⟨dk, dp, dn, dt, dq, dl, dc⟩, .bool true]) (by simp [results, Tryz.results149, go_sem, z0, z1, z2, z3, z4, NC.val, zN]) rfl ⟨⟨dk, dp, dn, dt, dq, dl, dc⟩, by rw [HQ.out]; rfl, by rw [HQ.out]; exact hA7, by rw [HQ.out]; exact hd7⟩
end Go.Proofs.YtdjomhbmhooceaaGreat.N7
namespace Go.Proofs.YtdjomhbmhooceaaGreat.N7
open Go.RowKit N5 N6
def zQ (n : Nat) (w : World) (val : Value) (ks : List Nd) : Prop :=
 ∃ ds : List NC, ds.length = ks.length /\ w.ownsRow n 25 5 val ks.length (ds.flatMap yL) /\ ∀ j (h : j < ds.length) (h' : j < ks.length), zG (fun b => n <= b /\ val.ownBlock ≠ some b) w ds[j] ks[j]
section
variable {n m : Nat} {w w' : World} {val : Value} {ks : List Nd} {B : Nat}
theorem zQ.keep (h : zQ n w val ks) (hg : w.grownBy w' (some B)) (hB : B < n) : zQ n w' val ks := by
 obtain ⟨ds, h1, h2, h3⟩ := h;refine ⟨ds, h1, h2.kept hg ?_, fun j a b => (h3 j a b).keeps ⟨hg.size, fun k hk hkl => hg.block k hkl (fun e => by injection e; omega)⟩⟩;cases ho : val.ownBlock with
 | none => exact .inl rfl
 | some b => exact .inr (fun e => by injection e with e; have := (h2.lt b ho).1; omega)
theorem zQ.mono (h : zQ n w val ks) (hm : m <= n) : zQ m w val ks := by
 obtain ⟨ds, h1, h2, h3⟩ := h;refine ⟨ds, h1, ⟨h2.1, ?_⟩, fun j a b => (h3 j a b).mono fun k hk _ => ⟨by omega, hk.2⟩⟩;rcases h2.2 with e | ⟨g, cap, cur, e1, e2, e3⟩
 ·
  exact .inl e
 ·
  exact .inr ⟨g, cap, cur, e1, by omega, e3⟩
theorem zQ.shape (h : zQ n w val ks) : ∃ p cap, val = .slice p ks.length cap := by
 obtain ⟨ds, h1, h2, -⟩ := h;rcases h2.2 with ⟨e, e0⟩ | ⟨g, cap, cur, e1, -⟩
 ·
  exact ⟨none, 0, by rw [e, e0]⟩
 ·
  exact ⟨_, _, e1⟩
theorem zQ.nil : zQ n w (.slice none 0 0) [] := ⟨[], rfl, World.ownsRow_nil _ _ _ _, fun j h => absurd h (Nat.not_lt_zero _)⟩
theorem zQ.node {p : Option Addr} {k cap : Nat} (h : zQ n w (.slice p k cap) ks) (kd ps nm : Int) (tx : List UInt8) : zG (fun b => n <= b) w ⟨kd, ps, nm, tx, p, k, cap⟩ (.mk kd ps nm tx ks) := by
 have hk : k = ks.length := by obtain ⟨p', cap', e⟩ := h.shape; injection e
 obtain ⟨ds, h1, h2, h3⟩ := h;subst hk;exact dM h2 (Nat.le_refl _) rfl rfl h1 rfl rfl rfl rfl fun j a b => (h3 j a b).mono fun k hk _ => hk.1
theorem nS {g : Nat} {cs : List Value} {k : Nat} (h : zU w g cs.toArray 25) (hn : n <= g) (hk : cs.length = k * 5) (hm : k <= maxLen) : w.ownsRow n 25 5 (.slice (some ⟨g, 0, none⟩) k k) k cs :=
 ⟨hk, .inr ⟨g, k, cs.toArray, rfl, hn, h, Nat.le_refl _, hm, by simpa using hk, by rw [<- hk]; simp⟩⟩
theorem zQ.one {g : Nat} {d : NC} {t : Nd} (h : zU w g #[.int .i64 d.kind, .int .i64 d.pos, .int .i64 d.num, .string ⟨d.text.toArray⟩, .slice d.kp d.kl d.kc] 25) (hn : n <= g) (hd : zG (fun b => n <= b /\ b ≠ g) w d t) :
  zQ n w (.slice (some ⟨g, 0, none⟩) 1 1) [t] := by
 refine ⟨[d], rfl, nS (cs := yL d) h hn rfl (by unfold maxLen; omega), fun j a b => ?_⟩
 match j, a with
 | 0, _ => exact hd.mono fun k hk _ => ⟨hk.1, fun e => hk.2 (by injection e with e; exact e.symm)⟩
theorem zQ.two {g : Nat} {d e : NC} {t u : Nd} (h : zU w g #[.int .i64 d.kind, .int .i64 d.pos, .int .i64 d.num, .string ⟨d.text.toArray⟩, .slice d.kp d.kl d.kc, .int .i64 e.kind, .int .i64 e.pos, .int .i64 e.num, .string ⟨e.text.toArray⟩, .slice e.kp e.kl e.kc] 25) (hn : n <= g)
  (hd : zG (fun b => n <= b /\ b ≠ g) w d t) (he : zG (fun b => n <= b /\ b ≠ g) w e u) : zQ n w (.slice (some ⟨g, 0, none⟩) 2 2) [t, u] := by
 refine ⟨[d, e], rfl, nS (cs := yL d ++ yL e) h hn rfl (by unfold maxLen; omega), fun j a b => ?_⟩
 match j, a with
 | 0, _ => exact hd.mono fun k hk _ => ⟨hk.1, fun e => hk.2 (by injection e with e; exact e.symm)⟩
 | 1, _ => exact he.mono fun k hk _ => ⟨hk.1, fun e => hk.2 (by injection e with e; exact e.symm)⟩
theorem zQ.snoc {w2 w3 : World} {v3 : Value} {d : NC} {t : Nd} {ds : List NC} (h1 : ds.length = ks.length) (h3 : ∀ j (h : j < ds.length) (h' : j < ks.length), zG (fun b => n <= b /\ val.ownBlock ≠ some b) w2 ds[j] ks[j])
  (hd : zG (fun b => n <= b /\ val.ownBlock ≠ some b) w2 d t) (ho : w3.ownsRow n 25 5 v3 (ks.length + 1) (ds.flatMap yL ++ yL d))
  (hal : w2.grownBy w3 val.ownBlock) (hat : v3.ownBlock = val.ownBlock \/ ∃ n, v3.ownBlock = some n /\ w2.heap.size <= n) : zQ n w3 v3 (ks ++ [t]) := by
 refine ⟨ds ++ [d], by simp [h1], ?_, fun j a b => ?_⟩
 ·
  rw [List.length_append, List.flatMap_append, List.flatMap_cons, List.flatMap_nil, List.append_nil];exact ho
 ·
  by_cases hj : j < ds.length
  ·
   rw [List.getElem_append_left hj, List.getElem_append_left (by omega)];exact lV (h3 j hj (by omega)) (fun b hb _ => hb) hal hat
  ·
   have e : j = ds.length := by rw [List.length_append] at a; simp at a; omega
   subst e;rw [List.getElem_append_right (by omega), List.getElem_append_right (by omega)];simp only [h1, Nat.sub_self, List.getElem_singleton];exact lV hd (fun b hb _ => hb) hal hat
end
theorem xF.row {B : Nat} {v : Value} {c : Cu} {w W W' : World} (h : xF B v c w W) {o : Option Nat} (hg : W.grownBy W' o) (ho : ∀ b, o = some b -> w.heap.size <= b) : xF B v c w W' := by
 cases o with
 | none => exact h.below (sE hg)
 | some b =>
  have hb := ho b rfl;have hlt := h.lt;refine ⟨h.cur.kept hg (by omega) fun h0 g o n cap hv e => ?_, ⟨hg.os.trans h.grown.os, hg.tape.trans h.grown.tape, hg.output.trans h.grown.output, Nat.le_trans h.grown.size hg.size, fun k hk hne => (hg.block k (Nat.lt_of_lt_of_le hk h.grown.size) (fun e => by injection e; omega)).trans (h.grown.block k hk hne)⟩, hlt, h.far⟩;obtain ⟨a, cap', h1, _, _⟩ := h.cur.row;have hv' := hv;rw [h1] at hv;injection hv with _ e2 _
  have := h.far g o n cap hv' (fun e0 => h0 (List.eq_nil_of_length_eq_zero (by omega)));omega
def AdJ (n : Nat) (w : World) (val : Value) : Option (List Nd) -> Prop
 | some ks => zQ n w val ks
 | none => val = .slice none 0 0
def cI (B : Nat) (v : Value) (o : yJ (List Nd)) (w : World) (e : Ending) (w' : World) : Prop :=
 ∃ val, e = .returned (.tuple #[val, .bool o.2.isSome]) /\ xF B v o.1 w w' /\ AdJ w.heap.size w' val o.2
abbrev wL (B : Nat) : Value := .agg #[.pointer (some ⟨B, 0, none⟩)]
theorem nU {go : Cu -> Bool} {nx : Cu -> Cu} {rd : Cu -> yJ Nd} {f : Nat} {c d : Cu} {n : Nd} {l : List Nd} (h : go c = true) (hr : rd (nx c) = (d, some n)) : zY go nx rd (f + 1) c l = zY go nx rd f d (l ++ [n]) := by
 show (if _ then _ else _) = _; rw [if_pos h, hr]
theorem nW {go : Cu -> Bool} {nx : Cu -> Cu} {rd : Cu -> yJ Nd} {f : Nat} {c d : Cu} {l : List Nd} (h : go c = true) (hr : rd (nx c) = (d, none)) : zY go nx rd (f + 1) c l = (d, none) := by
 show (if _ then _ else _) = _; rw [if_pos h, hr]
theorem qG {go : Cu -> Bool} {nx : Cu -> Cu} {rd : Cu -> yJ Nd} {f : Nat} {c : Cu} {l : List Nd} (h : go c = false) : zY go nx rd (f + 1) c l = (nx c, some l) := by
 show (if _ then _ else _) = _; rw [h]; rfl
theorem zK {α : Type} {o : yJ α} {x : Option α} (h : o.2 = x) : o = (o.1, x) := by cases o; dsimp only at h; rw [h]
theorem fE {g f : Nat} (eg : ∀ args w, (callFunc g args).run Tryz.prog w = .ok (.enter g args) w) (ef : ∀ args w, (callFunc f args).run Tryz.prog w = .ok (.enter f args) w) {go : Cu -> Bool} {nx : Cu -> Cu} {rd : Cu -> yJ Nd} (inv : Cu -> Prop)
  {w : World} {B : Nat} {v : Value} {c : Cu} (F : Nat) (hF : F <= 10000) (h : zJ w B v c) (h0 : inv c) (hf : c.ws.length - c.at' < F)
  (hgo : ∀ c' W, inv c' -> zJ W B v c' -> Calls Tryz.prog g #[wL B] W fun e w' => e = .returned (.bool (go c')) /\ xF B v (nx c') W w')
  (hrd : ∀ c' W, inv c' -> go c' = true -> zJ W B v (nx c') -> Calls Tryz.prog f #[wL B] W (zT B v (rd (nx c')) W))
  (hst : ∀ c' d n, inv c' -> go c' = true -> rd (nx c') = (d, some n) -> inv d /\ d.ws.length - d.at' < c'.ws.length - c'.at') :
  Calls Tryz.prog 145 #[wL B, .func (.func g) #[wL B] #[], .func (.func f) #[wL B] #[]] w (cI B v (zY go nx rd F c []) w) := by
 obtain ⟨W1, hW1⟩ : ∃ W1, W1 = w.alloc (.cells #[.pointer (some ⟨B, 0, none⟩)] 112) := ⟨_, rfl⟩
 have hA : xF B v c w W1 := by rw [hW1]; exact (xF.of h).alloc _
 have hsz : W1.heap.size = w.heap.size + 1 := by rw [hW1]; simp
 have hlt := h.lt
 have HGO := Lib.hid hgo
 have HRD := Lib.hid hrd
 have HST := Lib.hid hst
 have HW1 := Lib.hid hW1
 have H0 := Lib.hid h0
 obtain ⟨i0, hi0, hz0, hz1, hz2⟩ := info_parts vI
 clear hW1 hgo hrd hst h h0
 unfold wL
 go_enter Tryz.func145, Tryz.ntmps145
 go_upto_region 1 with fail
 rw [<- HW1.out]
 clear HW1
 go_wp2_with fail
 go_loopg [8] F (fun gk q wr => ∃ (c' : Cu) (ks : List Nd), Hid (zY go nx rd gk c' ks = zY go nx rd F c []) /\ Hid (inv c') /\ Hid (c'.ws.length - c'.at' < gk) /\ ks.length + gk <= F /\ xF B v c' w wr /\ zQ W1.heap.size wr q ks /\ W1.heap.size <= wr.heap.size)
 case atStart => exact ⟨c, [], rfl, H0, hf, by simp, hA, zQ.nil, Nat.le_refl _⟩
 case round =>
  obtain ⟨c', ks, HM, HI, HF, hkg, hA2, hO, hw1⟩ := hrel;cases gk with
  | zero => exact absurd HF.out (Nat.not_lt_zero _)
  | succ gf =>
   have HC := HGO.out c' wr HI.out hA2.cur;cases hb : go c' with
   | false =>
    have HQ : Hid (zY go nx rd F c [] = (nx c', some ks)) := by show _ = _; rw [<- HM.out]; exact qG hb
    rw [hb] at HC;go_wp2_with fail;refine HC.mono ?_; rintro e W2 ⟨rfl, hAc⟩;have hO2 := (hO.keep hAc.grown (by omega)).mono (m := w.heap.size) (by omega);have hA3 := hA2.trans hAc;clear HC hO hA2;go_wp2_with fail;go_ret2;exact ⟨_, by rw [HQ.out]; rfl, by rw [HQ.out]; exact hA3, by rw [HQ.out]; exact hO2⟩
   | true =>
    rw [hb] at HC;go_wp2_with fail;refine HC.mono ?_; rintro e W2 ⟨rfl, hAc⟩;have hO2 := hO.keep hAc.grown (by omega);have HC2 := HRD.out c' W2 HI.out hb hAc.cur;have HBK : Hid (∀ b, u8.ownBlock = some b -> W1.heap.size <= b /\ b < W2.heap.size) := by obtain ⟨ds, _, q, _⟩ := hO2; exact fun b hb => q.lt b hb
    have hA3 := hA2.trans hAc;have hs2 := hA2.size;have hs3 := hAc.size;clear HC hO hAc;unfold wL at HC2;go_wp2_with fail;refine HC2.mono ?_; rintro e W3 ⟨d, rfl, hAd, hm⟩;have hO3 := hO2.keep hAd.grown (by omega);have hA4 := hA3.trans hAd;have hs4 := hAd.size;clear HC2 hO2 hAd;obtain ⟨dk, dp, dn, dt, dq, dl, dc⟩ := d;cases ho : (rd (nx c')).2 with
    | none =>
     have HQ : Hid (zY go nx rd F c [] = ((rd (nx c')).1, none)) := by show _ = _; rw [<- HM.out]; exact nW hb (zK ho)
     unfold NC.val;simp only [Option.isSome_none];clear hm;go_wp2_with fail;go_ret2;exact ⟨_, by rw [HQ.out]; rfl, by rw [HQ.out]; exact hA4.below ((Below.refl _ _).alloc (Nat.le_refl _) _), by rw [HQ.out]; exact rfl⟩
    | some t =>
     have HM2 : Hid (zY go nx rd gf (rd (nx c')).1 (ks ++ [t]) = zY go nx rd F c []) := by show _ = _; rw [<- HM.out]; exact (nU hb (zK ho)).symm
     have HS := Lib.hid (HST.out c' (rd (nx c')).1 t HI.out hb (zK ho));rw [ho] at hm;have hd : zG (fun b => W2.heap.size <= b) W3 ⟨dk, dp, dn, dt, dq, dl, dc⟩ t := hm;clear hm;unfold NC.val;simp only [Option.isSome_some];go_upto_region 4 with fail;obtain ⟨V, hV, hKd, hBV, hVs⟩ := zR W3 #[.int .i64 dk, .int .i64 dp, .int .i64 dn, .string ⟨dt.toArray⟩, .slice dq dl dc] 25;rw [<- hV];have hAV := hA4.below hBV;have hOV := hO3.keep (zE hBV (some B)) (by omega);have hdV := hd.later hBV;obtain ⟨⟨y0, y1, y2, y3, y4⟩, -⟩ := zA hKd;obtain ⟨ds, e1, e2, e3⟩ := hOV;have HE3 := Lib.hid e3;have HE1 := Lib.hid e1;clear hV hO3 e3 e1 hBV hKd hd;go_wp2_with (at_builtin; refine yA rfl _ _ 23 rfl W1.heap.size 25 i0 _ 5 64 Tryz.underlying23 hi0 hz0 hz1 hz2 rfl (by decide) _ _ _ rfl (e2.alloc _) ⟨_, 0, none⟩ 1 1 (yL ⟨dk, dp, dn, dt, dq, dl, dc⟩) rfl rfl (cells_of_new _ _ _ _ rfl) (wJ _) ?_ ?_ ?_ ?_; (unfold maxLen; omega); omega; (simp; omega); intro v3 w3 ho3 hg3 hat3);have hal := (World.grownBy_alloc V _ u8.ownBlock).andThen hg3 (fun j hj => .inr hj);have hat4 : v3.ownBlock = u8.ownBlock \/ ∃ n, v3.ownBlock = some n /\ V.heap.size <= n := hat3.imp id fun e => ⟨_, e, by simp⟩
     have HO3 : Hid (zQ W1.heap.size w3 v3 (ks ++ [t])) := zQ.snoc HE1.out HE3.out (hdV.mono fun b hb _ => ⟨by omega, fun e => by have := (HBK.out b e).2; omega⟩) ho3 hal hat4;go_roundg gf
     case measure => omega
     case rel => exact ⟨_, ks ++ [t], HM2, HS.out.1, Nat.lt_of_lt_of_le HS.out.2 (Nat.le_of_lt_succ HF.out), by simp; omega, hAV.row hal (fun b hb => by have := (HBK.out b hb).1; omega), HO3.out, by have := hal.size; omega⟩
end Go.Proofs.YtdjomhbmhooceaaGreat.N7
namespace Go.Proofs.YtdjomhbmhooceaaGreat.N7
open Go.RowKit N5 N6
attribute [local go_sem] xG xE
theorem mE {f : Nat} {x : Value} (eg : ∀ args w, (callFunc f args).run Tryz.prog w = .ok (.enter f args) w) {wh : Cu -> yJ Nd} {w : World} {B : Nat} {v : Value} {c : Cu} (h : zJ w B v c) (hwh : c.enters = true -> c.enter.is [40] = true -> ∀ W, zJ W B v (c.enter.want [40]) -> Calls Tryz.prog f #[x] W (zT B v (wh (c.enter.want [40])) W)) : Calls Tryz.prog 138 #[.pointer (some ⟨B, 0, none⟩), .func (.func f) #[x] #[]] w (zT B v (deeper (xV wh) c) w) := by
 have HWH := Lib.hid hwh;clear hwh;obtain ⟨W1, hW1, Kp, Kq, Kr, -, -⟩ := pF w #[.pointer (some ⟨B, 0, none⟩)] 35 #[.func (.func f) #[x] #[]] 64 #[.int .i64 0, .int .i64 0, .int .i64 0, .string ⟨#[]⟩, .slice none 0 0] 25;have hsz : W1.heap.size = w.heap.size + 1 + 1 + 1 := by rw [hW1]; simp
 have hA1 : xF B v c w W1 := by rw [hW1]; exact (xF.of h).alloc _ |>.alloc _ |>.alloc _
 have hlt := h.lt;have HW1 := Lib.hid hW1;clear hW1 h;go_enter Tryz.func138, Tryz.ntmps138;go_upto_region 1 with fail;rw [<- HW1.out];clear HW1;have p0 := zC Kp;have q0 := zC Kq;have f_r := zA Kr;have HC := bM (rd := xV wh) (enters_of Tryz.func149 (by kernel_rfl) rfl) hA1.cur (fun he W hA => dW eg hA.cur (Kp.past hA (by omega)) (Kq.past hA (by omega)) (by omega) (by omega) (fun hi W2 hA2 => HWH.out he hi W2 hA2.cur));go_wp2_with fail;refine HC.mono ?_; rintro e W2 ⟨d, rfl, hAc, hm⟩;clear HC;clear p0 q0 f_r;have hA2 := hA1.trans hAc;have Kp := Kp.kg hAc.grown (by omega);have Kq := Kq.kg hAc.grown (by omega);have Kr := Kr.kg hAc.grown (by omega);have hs3 := hAc.grown.size;clear hA1 hAc;obtain ⟨dk, dp, dn, dt, dq, dl, dc⟩ := d;obtain ⟨W7, hW7, hb7, hA7, hn7⟩ := zH hA2 (b := w.heap.size + 1 + 1) (by omega) (z := zN) Kr ⟨dk, dp, dn, dt, dq, dl, dc⟩;dsimp only [zN] at hW7 hb7;have hm7 := xS (m := w.heap.size) hm hn7 (by omega) (by omega);clear hn7;unfold NC.val;have p0 := zC Kp;have q0 := zC Kq;have f_r := zA Kr;go_wp2_with fail;rw [<- hW7];obtain ⟨z0, z1, z2, z3, z4⟩ := hb7;dsimp only at z0 z1 z2 z3 z4;exact bodyPost_ret (v := .tuple #[NC.val ⟨dk, dp, dn, dt, dq, dl, dc⟩, .bool (deeper (xV wh) c).2.isSome]) (by simp [results, Tryz.results138, go_sem, z0, z1, z2, z3, z4, NC.val, zN]) rfl ⟨_, rfl, hA7, hm7⟩
theorem tZ {wh : Cu -> yJ Nd} {k : Nat} {w : World} {B : Nat} {v : Value} {c : Cu} (h : zJ w B v c) (hwh : ∀ (c : Cu) (W : World), 200 <= c.nest + k -> zJ W B v c -> Calls Tryz.prog 113 #[wL B] W (zT B v (wh c) W)) (hk : 200 <= c.nest + (k + 1)) : Calls Tryz.prog 151 #[wL B] w (zT B v (atomP wh c) w) := by
 have HWH := Lib.hid hwh;have HK := Lib.hid hk;clear hwh hk;unfold wL;obtain ⟨W1, hW1, Kp, Kr, -, -⟩ := vW w #[.pointer (some ⟨B, 0, none⟩)] 112 #[.int .i64 0, .int .i64 0, .int .i64 0, .string ⟨#[]⟩, .slice none 0 0] 25;have hsz : W1.heap.size = w.heap.size + 1 + 1 := by rw [hW1]; simp
 have hA1 : xF B v c w W1 := by rw [hW1]; exact (xF.of h).alloc _ |>.alloc _
 have hlt := h.lt;have HW1 := Lib.hid hW1;clear hW1 h;go_enter Tryz.func151, Tryz.ntmps151;go_upto_region 1 with fail;rw [<- HW1.out];clear HW1;have p0 := zC Kp;have f_r := zA Kr;obtain ⟨⟨tk, tp, tn, tt⟩, hT⟩ : ∃ t, t = c.peek := ⟨_, rfl⟩;have HT := Lib.hid hT;clear hT;have HC := sR hA1.cur;rw [<- HT.out] at HC;go_wp2_with fail;refine HC.mono ?_; rintro e W2 ⟨rfl, hB⟩;clear HC;clear p0 f_r;have hA2 := hA1.below hB;have Kp := Kp.later hB;have Kr := Kr.later hB;have hs3 := hB.size;clear hA1 hB;go_upto_region 2 with fail;obtain ⟨W4, hW4, Kt, hB, hz4⟩ := zR W2 #[.int .i64 tk, .int .i64 tp, .int .i64 tn, .string ⟨tt.toArray⟩] 38;rw [<- hW4];clear hW4;have hA4 := hA2.below hB;have Kp := Kp.later hB;have Kr := Kr.later hB;have hs5 := hB.size;clear hA2 hB;by_cases h1 : tk = 1
 case pos =>
  subst h1;have HQ : Hid (atomP wh c = (c.adv, some (.mk 1 tp 0 tt []))) := by show _ = _; unfold atomP; rw [<- HT.out]; rfl
  have p0 := zC Kp;have f_r := yV (zA Kr) (zD Kt);have HC := tK hA4.cur;go_wp2_with fail;refine HC.mono ?_; rintro e W6 ⟨rfl, hc, hg⟩;clear HC;clear p0 f_r;have hA6 := hA4.to hc hg;have Kp := Kp.kg hg (by omega);have Kr := Kr.kg hg (by omega);have Kt := Kt.kg hg (by omega);have hs7 := hg.size;clear hA4 hc hg;obtain ⟨W7, hW7, hb7, hA7, hn7⟩ := zH hA6 (b := w.heap.size + 1) (by omega) (z := zN) Kr ⟨1, tp, 0, tt, none, 0, 0⟩;dsimp only [zN] at hW7 hb7;have hd7 := (hn7 _ _ _ (yW (fun b => w.heap.size + 1 + 1 <= b) _ 1 tp 0 tt) (by omega)).mono (S' := fun b => w.heap.size <= b) fun k hk _ => by omega
  have p0 := zC Kp;have f_r := yV (zA Kr) (zD Kt);go_wp2_with fail;rw [<- hW7];obtain ⟨z0, z1, z2, z3, z4⟩ := hb7;dsimp only at z0 z1 z2 z3 z4;refine bodyPost_ret (v := .tuple #[NC.val ⟨1, tp, 0, tt, none, 0, 0⟩, .bool true]) (by simp [results, Tryz.results151, go_sem, z0, z1, z2, z3, z4, NC.val, zN]) rfl ⟨⟨1, tp, 0, tt, none, 0, 0⟩, by rw [HQ.out]; rfl, by rw [HQ.out]; exact hA7, by rw [HQ.out]; exact hd7⟩
 case neg =>
  by_cases h2 : tk = 2
  case pos =>
   subst h2;have HQ : Hid (atomP wh c = (c.adv, some (.mk 2 tp 0 tt []))) := by show _ = _; unfold atomP; rw [<- HT.out]; rfl
   have p0 := zC Kp;have f_r := yV (zA Kr) (zD Kt);have HC := tK hA4.cur;go_wp2_with fail;refine HC.mono ?_; rintro e W8 ⟨rfl, hc, hg⟩;clear HC;clear p0 f_r;have hA8 := hA4.to hc hg;have Kp := Kp.kg hg (by omega);have Kr := Kr.kg hg (by omega);have Kt := Kt.kg hg (by omega);have hs9 := hg.size;clear hA4 hc hg;obtain ⟨W7, hW7, hb7, hA7, hn7⟩ := zH hA8 (b := w.heap.size + 1) (by omega) (z := zN) Kr ⟨2, tp, 0, tt, none, 0, 0⟩;dsimp only [zN] at hW7 hb7;have hd7 := (hn7 _ _ _ (yW (fun b => w.heap.size + 1 + 1 <= b) _ 2 tp 0 tt) (by omega)).mono (S' := fun b => w.heap.size <= b) fun k hk _ => by omega
   have p0 := zC Kp;have f_r := yV (zA Kr) (zD Kt);go_wp2_with fail;rw [<- hW7];obtain ⟨z0, z1, z2, z3, z4⟩ := hb7;dsimp only at z0 z1 z2 z3 z4;refine bodyPost_ret (v := .tuple #[NC.val ⟨2, tp, 0, tt, none, 0, 0⟩, .bool true]) (by simp [results, Tryz.results151, go_sem, z0, z1, z2, z3, z4, NC.val, zN]) rfl ⟨⟨2, tp, 0, tt, none, 0, 0⟩, by rw [HQ.out]; rfl, by rw [HQ.out]; exact hA7, by rw [HQ.out]; exact hd7⟩
  case neg =>
   cases hi : c.is [40] with
   | false =>
    have HQ : Hid (atomP wh c = (c.fail 5, none)) := by show _ = _; unfold atomP; rw [<- HT.out, if_neg h1, if_neg h2, hi]; rfl
    have p0 := zC Kp;have f_r := yV (zA Kr) (zD Kt);have HC := rI hA4.cur [40];rw [hi] at HC;go_wp2_with fail;refine HC.mono ?_; rintro e W10 ⟨rfl, hB⟩;clear HC;clear p0 f_r;have hA10 := hA4.below hB;have Kp := Kp.later hB;have Kr := Kr.later hB;have Kt := Kt.later hB;have hs11 := hB.size;clear hA4 hB;have p0 := zC Kp;have f_r := yV (zA Kr) (zD Kt);have HC := qF hA10.cur 5;go_wp2_with fail;refine HC.mono ?_; rintro e W12 ⟨rfl, hc, hg⟩;clear HC;clear p0 f_r;have hA12 := hA10.to hc hg;have Kp := Kp.kg hg (by omega);have Kr := Kr.kg hg (by omega);have Kt := Kt.kg hg (by omega);have hs13 := hg.size;clear hA10 hc hg;obtain ⟨W7, hW7, hb7, hA7, hn7⟩ := zH hA12 (b := w.heap.size + 1) (by omega) (z := zN) Kr zN;dsimp only [zN] at hW7 hb7;clear hn7;have p0 := zC Kp;have f_r := yV (zA Kr) (zD Kt);go_wp2_with fail;rw [<- hW7];obtain ⟨z0, z1, z2, z3, z4⟩ := hb7;dsimp only at z0 z1 z2 z3 z4;refine bodyPost_ret (v := .tuple #[NC.val zN, .bool false]) (by simp [results, Tryz.results151, go_sem, z0, z1, z2, z3, z4, NC.val, zN]) rfl ⟨zN, by rw [HQ.out]; rfl, by rw [HQ.out]; exact hA7, by rw [HQ.out]⟩
   | true =>
    have HQ : Hid (atomP wh c = deeper (xV wh) c) := by show _ = _; unfold atomP; rw [<- HT.out, if_neg h1, if_neg h2, if_pos hi]
    have p0 := zC Kp;have f_r := yV (zA Kr) (zD Kt);have HC := rI hA4.cur [40];rw [hi] at HC;go_wp2_with fail;refine HC.mono ?_; rintro e W14 ⟨rfl, hB⟩;clear HC;clear p0 f_r;have hA14 := hA4.below hB;have Kp := Kp.later hB;have Kr := Kr.later hB;have Kt := Kt.later hB;have hs15 := hB.size;clear hA4 hB;have p0 := zC Kp;have f_r := yV (zA Kr) (zD Kt);have HC := mE (x := wL B) (wh := wh) (enters_of Tryz.func113 (by kernel_rfl) rfl) hA14.cur (fun he hi W hc => HWH.out _ W (by rw [lD he hi]; have := HK.out; omega) hc);go_wp2_with fail;refine HC.mono ?_; rintro e W16 ⟨d, rfl, hAc, hm⟩;clear HC;clear p0 f_r;have hA16 := hA14.trans hAc;have Kp := Kp.kg hAc.grown (by omega);have Kr := Kr.kg hAc.grown (by omega);have Kt := Kt.kg hAc.grown (by omega);have hs17 := hAc.grown.size;clear hA14 hAc;obtain ⟨dk, dp, dn, dt, dq, dl, dc⟩ := d;obtain ⟨W7, hW7, hb7, hA7, hn7⟩ := zH hA16 (b := w.heap.size + 1) (by omega) (z := zN) Kr ⟨dk, dp, dn, dt, dq, dl, dc⟩;dsimp only [zN] at hW7 hb7;have hm7 := xS (m := w.heap.size) hm hn7 (by omega) (by omega);clear hn7;unfold NC.val;have p0 := zC Kp;have f_r := yV (zA Kr) (zD Kt);go_wp2_with fail;rw [<- hW7];obtain ⟨z0, z1, z2, z3, z4⟩ := hb7;dsimp only at z0 z1 z2 z3 z4;exact bodyPost_ret (v := .tuple #[NC.val ⟨dk, dp, dn, dt, dq, dl, dc⟩, .bool (deeper (xV wh) c).2.isSome]) (by simp [results, Tryz.results151, go_sem, z0, z1, z2, z3, z4, NC.val, zN]) rfl ⟨_, by rw [HQ.out], by rw [HQ.out]; exact hA7, by rw [HQ.out]; exact hm7⟩
end Go.Proofs.YtdjomhbmhooceaaGreat.N7
