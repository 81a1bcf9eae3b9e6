/- Readers: boxes, and what a reader's call leaves. Readers: reading.Deeper. Readers: reading.Bracketed. Readers: rows of trees, and reader.many. Readers: atoms, rows, types. -/
import Derived.Test.YtemgocegnlehoaaPtySpec
import Derived.Test.YtemgocegnlehoaaNodeA
import Derived.Test.YtemgocegnlehoaaCurB
namespace Go.Proofs.Ytemgocegnlehoaa.N7
open Go.RowKit N5 N6

/-- a block that holds just these cells -/
def Blk (w : World) (b : Nat) (cs : Array Value) (ty : TypeId) : Prop := w.heap[b]? = some (.cells cs ty (0, 0))
section
variable {w w' : World} {b : Nat} {cs : Array Value} {ty : TypeId}
theorem Blk.lt (h : Blk w b cs ty) : b < w.heap.size := (Array.getElem?_eq_some_iff.1 h).1
theorem Blk.kept {row : Option Nat} (h : Blk w b cs ty) (hg : w.grownBy w' row) (hne : some b ≠ row) : Blk w' b cs ty := (hg.block b h.lt hne).trans h
theorem Blk.later (h : Blk w b cs ty) (hB : Below w.heap.size w w') : Blk w' b cs ty := (hB.block b h.lt).trans h
theorem Blk.new (w : World) (cs : Array Value) (ty : TypeId) : Blk (w.alloc (.cells cs ty)) w.heap.size cs ty := World.alloc_heap_new w _
theorem Blk.cell (h : Blk w b cs ty) (i : Nat) : w.cell? ⟨b, i, none⟩ = cs[i]? := by
  have h' : w.heap[b]? = some (.cells cs ty (0, 0)) := h
  simp [World.cell?, h']
theorem Blk.frozen (h : Blk w b cs ty) (i : Nat) : w.frozen? ⟨b, i, none⟩ = false := by
  have h' : w.heap[b]? = some (.cells cs ty (0, 0)) := h
  simp [World.frozen?, h']
theorem Blk.box {d : NC} (h : Blk w b #[.int .i64 d.kind, .int .i64 d.pos, .int .i64 d.num, .string ⟨d.text.toArray⟩, .slice d.kp d.kl d.kc] ty) : NBox w b d := ⟨h.cell 0, h.cell 1, h.cell 2, h.cell 3, h.cell 4⟩
theorem Blk.set (h : Blk w b cs ty) (i : Nat) (x : Value) : Blk (w.setCell ⟨b, i, none⟩ x) b (cs.setIfInBounds i x) ty := heap_set h x
end
theorem cells5 {w : World} {b : Nat} {x0 x1 x2 x3 x4 : Value} {ty : TypeId} (h : Blk w b #[x0, x1, x2, x3, x4] ty) :
    (w.cell? ⟨b, 0, none⟩ = some x0 ∧ w.cell? ⟨b, 1, none⟩ = some x1 ∧ w.cell? ⟨b, 2, none⟩ = some x2 ∧ w.cell? ⟨b, 3, none⟩ = some x3 ∧ w.cell? ⟨b, 4, none⟩ = some x4) ∧
    (w.frozen? ⟨b, 0, none⟩ = false ∧ w.frozen? ⟨b, 1, none⟩ = false ∧ w.frozen? ⟨b, 2, none⟩ = false ∧ w.frozen? ⟨b, 3, none⟩ = false ∧ w.frozen? ⟨b, 4, none⟩ = false) :=
  ⟨⟨h.cell 0, h.cell 1, h.cell 2, h.cell 3, h.cell 4⟩, h.frozen 0, h.frozen 1, h.frozen 2, h.frozen 3, h.frozen 4⟩
theorem cells4 {w : World} {b : Nat} {x0 x1 x2 x3 : Value} {ty : TypeId} (h : Blk w b #[x0, x1, x2, x3] ty) :
    w.cell? ⟨b, 0, none⟩ = some x0 ∧ w.cell? ⟨b, 1, none⟩ = some x1 ∧ w.cell? ⟨b, 2, none⟩ = some x2 ∧ w.cell? ⟨b, 3, none⟩ = some x3 := ⟨h.cell 0, h.cell 1, h.cell 2, h.cell 3⟩
theorem cells1 {w : World} {b : Nat} {x0 : Value} {ty : TypeId} (h : Blk w b #[x0] ty) : w.cell? ⟨b, 0, none⟩ = some x0 := h.cell 0
/-- a world that stands where a reader left it: the cursor's block apart, all is as it was below w -/
structure At7 (B : Nat) (v : Value) (c : Cu) (w W : World) : Prop where
  cur : CurAt W B v c
  grown : w.grownBy W (some B)
  lt : B < w.heap.size
  far : ∀ g o n cap, v = .slice (some ⟨g, o, none⟩) n cap → n ≠ 0 → g < w.heap.size
section
variable {B : Nat} {v : Value} {c c' : Cu} {w W W' : World}
theorem At7.of (h : CurAt w B v c) : At7 B v c w w := by
  refine ⟨h, World.grownBy.refl _ _, h.lt, fun g o n cap hv hn => ?_⟩
  obtain ⟨a, cap', h1, _, h2⟩ := h.row
  rw [h1] at hv
  injection hv with e1 e2 e3
  rcases h2 with h2 | ⟨g', o', h3, h4, _, _⟩
  · rw [h2] at e2; exact absurd e2.symm hn
  · rw [h3] at e1; injection e1 with e1; injection e1 with e1; omega
theorem At7.size (h : At7 B v c w W) : w.heap.size ≤ W.heap.size := h.grown.size
theorem At7.below (h : At7 B v c w W) (hB : Below W.heap.size W W') : At7 B v c w W' := ⟨h.cur.below hB, grownBy_trans h.grown (grownBy_below hB _), h.lt, h.far⟩
theorem At7.alloc (h : At7 B v c w W) (o : Obj) : At7 B v c w (W.alloc o) := h.below ((Below.refl _ W).alloc (Nat.le_refl _) o)
theorem At7.to (h : At7 B v c w W) (hc : CurAt W' B v c') (hg : W.grownBy W' (some B)) : At7 B v c' w W' := ⟨hc, grownBy_trans h.grown hg, h.lt, h.far⟩
theorem At7.trans (h : At7 B v c w W) (g : At7 B v c' W W') : At7 B v c' w W' := h.to g.cur g.grown
/-- a store into a block that the call made -/
theorem At7.put (h : At7 B v c w W) {b : Nat} (hb : w.heap.size ≤ b) (i : Nat) (x : Value) : At7 B v c w (W.setCell ⟨b, i, none⟩ x) := by
  have hlt := h.lt
  refine ⟨h.cur.kept (grownBy_set W b i x) (by omega) (fun h0 g o n cap hv e => ?_), ⟨h.grown.os, h.grown.tape, h.grown.output, by rw [show (W.setCell ⟨b, i, none⟩ x).heap.size = W.heap.size by simp]; exact h.grown.size, fun k hk hne => ?_⟩, hlt, h.far⟩
  · obtain ⟨a, cap', h1, _, _⟩ := h.cur.row
    have hv' := hv
    rw [h1] at hv
    injection hv with _ e2 _
    have := h.far g o n cap hv' (fun e0 => h0 (List.eq_nil_of_length_eq_zero (by omega)))
    omega
  · exact ((grownBy_set W b i x).block k (Nat.lt_of_lt_of_le hk h.grown.size) (fun e => by injection e; omega)).trans (h.grown.block k hk hne)
theorem Blk.past {w W : World} {B b : Nat} {v : Value} {c : Cu} {cs : Array Value} {ty : TypeId} (h : Blk w b cs ty) (hA : At7 B v c w W) (hne : b ≠ B) : Blk W b cs ty := h.kept hA.grown (fun e => hne (by injection e))
/-- the end of a reader: the tree's cells into the result's box -/
theorem read_end {b : Nat} {z : NC} {ty : TypeId} (h : At7 B v c w W) (hb : w.heap.size ≤ b) (hz : Blk W b #[.int .i64 z.kind, .int .i64 z.pos, .int .i64 z.num, .string ⟨z.text.toArray⟩, .slice z.kp z.kl z.kc] ty) (d : NC) :
    ∃ W7, W7 = (((((W.setCell ⟨b, 0, none⟩ (.int .i64 d.kind)).setCell ⟨b, 1, none⟩ (.int .i64 d.pos)).setCell ⟨b, 2, none⟩ (.int .i64 d.num)).setCell ⟨b, 3, none⟩ (.string ⟨d.text.toArray⟩)).setCell ⟨b, 4, none⟩ (.slice d.kp d.kl d.kc)) ∧
      NBox W7 b d ∧ At7 B v c w W7 ∧ ∀ (S : Nat → Prop) (x : NC) (t : Nd), NodeAt S W x t → ¬ S b → NodeAt S W7 x t := by
  refine ⟨_, rfl, NBox.put hz.box d, ((((h.put hb 0 _).put hb 1 _).put hb 2 _).put hb 3 _).put hb 4 _, fun S x t hx hS => hx.keeps ⟨by simp, fun k hk _ => ?_⟩⟩
  have hne : k ≠ b := fun e => hS (e ▸ hk)
  rw [Below.heap_setCell _ _ _ _ hne, Below.heap_setCell _ _ _ _ hne, Below.heap_setCell _ _ _ _ hne, Below.heap_setCell _ _ _ _ hne, Below.heap_setCell _ _ _ _ hne]
end
/-- a tree in blocks from n on, or the zero node -/
abbrev TreeOr (n : Nat) (w : World) (d : NC) (x : Option Nd) : Prop := match x with
  | some t => NodeAt (fun b => n ≤ b) w d t
  | none => d = zN
/-- what a reader of trees leaves: the cursor, the tree in blocks that are new -/
def ReadTo (B : Nat) (v : Value) (o : Out Nd) (w : World) (e : Ending) (w' : World) : Prop :=
  ∃ d : NC, e = .returned (.tuple #[d.val, .bool o.2.isSome]) ∧ At7 B v o.1 w w' ∧ TreeOr w.heap.size w' d o.2
theorem tree_pass {x : Option Nd} {n m b : Nat} {W W7 : World} {d : NC} (hm : TreeOr n W d x) (hn7 : ∀ (S : Nat → Prop) (x : NC) (t : Nd), NodeAt S W x t → ¬ S b → NodeAt S W7 x t) (hb : b < n) (hle : m ≤ n) : TreeOr m W7 d x := by
  cases x with
  | none => exact hm
  | some t => exact (hn7 _ _ _ hm (by omega)).mono fun k hk _ => by omega
theorem leaf_in (S : Nat → Prop) (w : World) (k p n : Int) (t : List UInt8) : NodeAt S w ⟨k, p, n, t, none, 0, 0⟩ (.mk k p n t []) :=
  .mk _ _ [] rfl rfl rfl rfl rfl (RowIn.nil _ _) fun i h => absurd h (Nat.not_lt_zero _)
theorem nest_in {c : Cu} (he : c.enters = true) (hi : c.enter.is [40] = true) : (c.enter.want [40]).nest = c.nest + 1 := by
  rw [(fine_want c.enter [40]).nest (want_err.2 hi), enter_of he]
theorem peek_l {w : World} {B : Nat} {v : Value} {c : Cu} (h : CurAt w B v c) : Calls Try.prog 72 #[.pointer (some ⟨B, 0, none⟩)] w fun e w' => e = .returned (.agg #[.int .i64 c.peek.kind, .int .i64 c.peek.pos, .int .i64 c.peek.num, .string ⟨c.peek.text.toArray⟩]) ∧ Below w.heap.size w w' := peek_any h
theorem next_l {w : World} {B : Nat} {v : Value} {c : Cu} (h : CurAt w B v c) : Calls Try.prog 74 #[.pointer (some ⟨B, 0, none⟩)] w (CurTo B v c.adv (.agg #[.int .i64 c.peek.kind, .int .i64 c.peek.pos, .int .i64 c.peek.num, .string ⟨c.peek.text.toArray⟩]) w) := next_any h
theorem want_l {w : World} {B : Nat} {v : Value} {c : Cu} (h : CurAt w B v c) (l : List UInt8) : Calls Try.prog 97 #[.pointer (some ⟨B, 0, none⟩), .string ⟨l.toArray⟩] w (CurTo B v (c.want l) (.bool (c.is l)) w) := by
  have := want_any h ⟨l.toArray⟩
  simpa using this
theorem take_l {w : World} {B : Nat} {v : Value} {c : Cu} (h : CurAt w B v c) (l : List UInt8) : Calls Try.prog 100 #[.pointer (some ⟨B, 0, none⟩), .string ⟨l.toArray⟩] w (CurTo B v (c.take l) (.bool (c.is l)) w) := by
  have := take_any h ⟨l.toArray⟩
  simpa using this
theorem is_l {w : World} {B : Nat} {v : Value} {c : Cu} (h : CurAt w B v c) (l : List UInt8) : Calls Try.prog 89 #[.pointer (some ⟨B, 0, none⟩), .string ⟨l.toArray⟩] w (N5.RunsTo (c.is l) w) := by
  have := is_any h ⟨l.toArray⟩
  simpa using this
end Go.Proofs.Ytemgocegnlehoaa.N7
namespace Go.Proofs.Ytemgocegnlehoaa.N7
open Go.RowKit N5 N6

set_option maxRecDepth 100000 in
set_option maxHeartbeats 4000000 in
theorem deeper_any {f : Nat} {x : Value} (eg : ∀ args w, (callFunc f args).run Try.prog w = .ok (.enter f args) w) {rd : Cu → Out Nd} {w : World} {B : Nat} {v : Value} {c : Cu} (h : CurAt w B v c)
    (hrd : c.enters = true → ∀ W, At7 B v c.enter w W → Calls Try.prog f #[x] W (ReadTo B v (rd c.enter) W)) :
    Calls Try.prog 51 #[.pointer (some ⟨B, 0, none⟩), .func (.func f) #[x] #[]] w (ReadTo B v (deeper rd c) w) := by
  obtain ⟨W1, hW1⟩ : ∃ W1, W1 = w.alloc (.cells #[.int .i64 0, .int .i64 0, .int .i64 0, .string ⟨#[]⟩, .slice none 0 0] 25) := ⟨_, rfl⟩
  have hK : Blk W1 w.heap.size #[.int .i64 0, .int .i64 0, .int .i64 0, .string ⟨#[]⟩, .slice none 0 0] 25 := by rw [hW1]; exact Blk.new w _ _
  have hA : At7 B v c w W1 := by rw [hW1]; exact (At7.of h).alloc _
  have hsz : W1.heap.size = w.heap.size + 1 := by rw [hW1]; simp
  have HE := enter_any hA.cur
  have hlt := h.lt
  have HRD := Lib.hid hrd
  have HW1 := Lib.hid hW1
  clear hW1 hrd h
  go_enter Try.func51, Try.ntmps51
  go_upto_region 1 with fail
  rw [← HW1.out]
  clear HW1
  cases he : c.enters with
  | false =>
    have HQ : Hid (deeper rd c = (c.enter, none)) := by show _ = _; unfold deeper; rw [he]; rfl
    rw [he] at HE
    go_wp2_with fail
    refine HE.mono ?_; rintro e W2 ⟨rfl, hc2, hg2⟩
    have hA2 := hA.to hc2 hg2
    have hK2 := hK.kept hg2 (fun e => by injection e; omega)
    obtain ⟨⟨x0, x1, x2, x3, x4⟩, f0, f1, f2, f3, f4⟩ := cells5 hK2
    obtain ⟨W7, hW7, hb7, hA7, -⟩ := read_end hA2 (Nat.le_refl _) (z := zN) hK2 zN
    dsimp only [zN] at hW7 hb7
    clear HE
    go_wp2_with fail
    rw [← hW7]
    obtain ⟨z0, z1, z2, z3, z4⟩ := hb7
    dsimp only at z0 z1 z2 z3 z4
    refine bodyPost_ret (v := .tuple #[zN.val, .bool false]) (by simp [results, Try.results51, go_sem, z0, z1, z2, z3, z4, NC.val, zN]) rfl ⟨zN, by rw [HQ.out]; rfl, by rw [HQ.out]; exact hA7, by rw [HQ.out]⟩
  | true =>
    rw [he] at HE
    go_wp2_with fail
    refine HE.mono ?_; rintro e W2 ⟨rfl, hc2, hg2⟩
    have hA2 := hA.to hc2 hg2
    have hK2 := hK.kept hg2 (fun e => by injection e; omega)
    have HC := HRD.out he W2 hA2
    clear HE
    go_wp2_with fail
    refine HC.mono ?_; rintro e W3 ⟨d, rfl, hA3, hm⟩
    have hs23 := hA3.size
    have hs2 := hA2.size
    have hK3 := hK2.past hA3 (by omega)
    have hA3 := hA2.trans hA3
    obtain ⟨dk, dp, dn, dt, dq, dl, dc⟩ := d
    clear HC
    cases ho : (rd c.enter).2 with
    | none =>
      have HQ : Hid (deeper rd c = ((rd c.enter).1, none)) := by
        show _ = _; unfold deeper; rw [if_pos he]
        cases hq : rd c.enter with
        | mk p q => rw [hq] at ho; dsimp only at ho; subst ho; rfl
      rw [ho] at hm
      have hd : (⟨dk, dp, dn, dt, dq, dl, dc⟩ : NC) = zN := hm
      unfold NC.val
      simp only [Option.isSome_none]
      clear hm
      go_upto_region 4 with fail
      obtain ⟨V, hV⟩ : ∃ V, V = W3.alloc (.cells #[.int .i64 dk, .int .i64 dp, .int .i64 dn, .string ⟨dt.toArray⟩, .slice dq dl dc] 25) := ⟨_, rfl⟩
      rw [← hV]
      have hAV : At7 B v (rd c.enter).1 w V := by rw [hV]; exact hA3.alloc _
      have hKV := hK3.later (w' := V) (by rw [hV]; exact (Below.refl _ _).alloc (Nat.le_refl _) _)
      obtain ⟨⟨x0, x1, x2, x3, x4⟩, f0, f1, f2, f3, f4⟩ := cells5 hKV
      obtain ⟨W7, hW7, hb7, hA7, -⟩ := read_end hAV (Nat.le_refl _) (z := zN) hKV zN
      dsimp only [zN] at hW7 hb7
      clear hV
      go_wp2_with fail
      rw [← hW7]
      obtain ⟨z0, z1, z2, z3, z4⟩ := hb7
      dsimp only at z0 z1 z2 z3 z4
      refine bodyPost_ret (v := .tuple #[zN.val, .bool false]) (by simp [results, Try.results51, go_sem, z0, z1, z2, z3, z4, NC.val, zN]) rfl ⟨zN, by rw [HQ.out]; rfl, by rw [HQ.out]; exact hA7, by rw [HQ.out]⟩
    | some t =>
      have HQ : Hid (deeper rd c = ((rd c.enter).1.leave, some t)) := by
        show _ = _; unfold deeper; rw [if_pos he]
        cases hq : rd c.enter with
        | mk p q => rw [hq] at ho; dsimp only at ho; subst ho; rfl
      rw [ho] at hm
      have hd : NodeAt (fun b => W2.heap.size ≤ b) W3 ⟨dk, dp, dn, dt, dq, dl, dc⟩ t := hm
      unfold NC.val
      simp only [Option.isSome_some]
      clear hm
      go_upto_region 4 with fail
      obtain ⟨V, hV⟩ : ∃ V, V = W3.alloc (.cells #[.int .i64 dk, .int .i64 dp, .int .i64 dn, .string ⟨dt.toArray⟩, .slice dq dl dc] 25) := ⟨_, rfl⟩
      rw [← hV]
      have hBV : Below W3.heap.size W3 V := by rw [hV]; exact (Below.refl _ _).alloc (Nat.le_refl _) _
      have hKd : Blk V W3.heap.size #[.int .i64 dk, .int .i64 dp, .int .i64 dn, .string ⟨dt.toArray⟩, .slice dq dl dc] 25 := by rw [hV]; exact Blk.new W3 _ _
      have hAV := hA3.below hBV
      have hKV := hK3.later hBV
      have hdV := hd.later hBV
      have HL := leave_any hAV.cur
      have hsV := hBV.size
      have hltB := hA3.lt
      clear hV
      go_wp2_with fail
      refine HL.mono ?_; rintro e W4 ⟨⟨r, rfl⟩, hc4, hg4⟩
      have hA4 := hAV.to hc4 hg4
      have hK4 := hKV.kept hg4 (fun e => by injection e; omega)
      have hKd4 := hKd.kept hg4 (fun e => by injection e; omega)
      have hd4 : NodeAt (fun b => W2.heap.size ≤ b) W4 ⟨dk, dp, dn, dt, dq, dl, dc⟩ t := hdV.keeps ⟨hg4.size, fun k hk hkl => hg4.block k hkl (fun e => by injection e; omega)⟩
      obtain ⟨⟨x0, x1, x2, x3, x4⟩, f0, f1, f2, f3, f4⟩ := cells5 hK4
      obtain ⟨⟨y0, y1, y2, y3, y4⟩, -⟩ := cells5 hKd4
      obtain ⟨W7, hW7, hb7, hA7, hn7⟩ := read_end hA4 (Nat.le_refl _) (z := zN) hK4 ⟨dk, dp, dn, dt, dq, dl, dc⟩
      have hg2s := hg2.size
      have hd7 := (hn7 _ _ _ hd4 (by omega)).mono (S' := fun b => w.heap.size ≤ b) fun k hk _ => by omega
      dsimp only at hW7 hb7
      clear HL
      go_wp2_with fail
      rw [← hW7]
      obtain ⟨z0, z1, z2, z3, z4⟩ := hb7
      dsimp only at z0 z1 z2 z3 z4
      refine bodyPost_ret (v := .tuple #[NC.val ⟨dk, dp, dn, dt, dq, dl, dc⟩, .bool true]) (by simp [results, Try.results51, go_sem, z0, z1, z2, z3, z4, NC.val]) rfl ⟨_, by rw [HQ.out]; rfl, by rw [HQ.out]; exact hA7, by rw [HQ.out]; exact hd7⟩
set_option maxRecDepth 100000 in
set_option maxHeartbeats 4000000 in
theorem deeper_clo {f : Nat} {x y : Value} (eg : ∀ args w, (callFunc f args).run Try.prog w = .ok (.enter f args) w) {rd : Cu → Out Nd} {w : World} {B : Nat} {v : Value} {c : Cu} (h : CurAt w B v c)
    (hrd : c.enters = true → ∀ W, At7 B v c.enter w W → Calls Try.prog f #[x, y] W (ReadTo B v (rd c.enter) W)) :
    Calls Try.prog 51 #[.pointer (some ⟨B, 0, none⟩), .func (.func f) #[] #[x, y]] w (ReadTo B v (deeper rd c) w) := by
  obtain ⟨W1, hW1⟩ : ∃ W1, W1 = w.alloc (.cells #[.int .i64 0, .int .i64 0, .int .i64 0, .string ⟨#[]⟩, .slice none 0 0] 25) := ⟨_, rfl⟩
  have hK : Blk W1 w.heap.size #[.int .i64 0, .int .i64 0, .int .i64 0, .string ⟨#[]⟩, .slice none 0 0] 25 := by rw [hW1]; exact Blk.new w _ _
  have hA : At7 B v c w W1 := by rw [hW1]; exact (At7.of h).alloc _
  have hsz : W1.heap.size = w.heap.size + 1 := by rw [hW1]; simp
  have HE := enter_any hA.cur
  have hlt := h.lt
  have HRD := Lib.hid hrd
  have HW1 := Lib.hid hW1
  clear hW1 hrd h
  go_enter Try.func51, Try.ntmps51
  go_upto_region 1 with fail
  rw [← HW1.out]
  clear HW1
  cases he : c.enters with
  | false =>
    have HQ : Hid (deeper rd c = (c.enter, none)) := by show _ = _; unfold deeper; rw [he]; rfl
    rw [he] at HE
    go_wp2_with fail
    refine HE.mono ?_; rintro e W2 ⟨rfl, hc2, hg2⟩
    have hA2 := hA.to hc2 hg2
    have hK2 := hK.kept hg2 (fun e => by injection e; omega)
    obtain ⟨⟨x0, x1, x2, x3, x4⟩, f0, f1, f2, f3, f4⟩ := cells5 hK2
    obtain ⟨W7, hW7, hb7, hA7, -⟩ := read_end hA2 (Nat.le_refl _) (z := zN) hK2 zN
    dsimp only [zN] at hW7 hb7
    clear HE
    go_wp2_with fail
    rw [← hW7]
    obtain ⟨z0, z1, z2, z3, z4⟩ := hb7
    dsimp only at z0 z1 z2 z3 z4
    refine bodyPost_ret (v := .tuple #[zN.val, .bool false]) (by simp [results, Try.results51, go_sem, z0, z1, z2, z3, z4, NC.val, zN]) rfl ⟨zN, by rw [HQ.out]; rfl, by rw [HQ.out]; exact hA7, by rw [HQ.out]⟩
  | true =>
    rw [he] at HE
    go_wp2_with fail
    refine HE.mono ?_; rintro e W2 ⟨rfl, hc2, hg2⟩
    have hA2 := hA.to hc2 hg2
    have hK2 := hK.kept hg2 (fun e => by injection e; omega)
    have HC := HRD.out he W2 hA2
    clear HE
    go_wp2_with fail
    refine HC.mono ?_; rintro e W3 ⟨d, rfl, hA3, hm⟩
    have hs23 := hA3.size
    have hs2 := hA2.size
    have hK3 := hK2.past hA3 (by omega)
    have hA3 := hA2.trans hA3
    obtain ⟨dk, dp, dn, dt, dq, dl, dc⟩ := d
    clear HC
    cases ho : (rd c.enter).2 with
    | none =>
      have HQ : Hid (deeper rd c = ((rd c.enter).1, none)) := by
        show _ = _; unfold deeper; rw [if_pos he]
        cases hq : rd c.enter with
        | mk p q => rw [hq] at ho; dsimp only at ho; subst ho; rfl
      rw [ho] at hm
      have hd : (⟨dk, dp, dn, dt, dq, dl, dc⟩ : NC) = zN := hm
      unfold NC.val
      simp only [Option.isSome_none]
      clear hm
      go_upto_region 4 with fail
      obtain ⟨V, hV⟩ : ∃ V, V = W3.alloc (.cells #[.int .i64 dk, .int .i64 dp, .int .i64 dn, .string ⟨dt.toArray⟩, .slice dq dl dc] 25) := ⟨_, rfl⟩
      rw [← hV]
      have hAV : At7 B v (rd c.enter).1 w V := by rw [hV]; exact hA3.alloc _
      have hKV := hK3.later (w' := V) (by rw [hV]; exact (Below.refl _ _).alloc (Nat.le_refl _) _)
      obtain ⟨⟨x0, x1, x2, x3, x4⟩, f0, f1, f2, f3, f4⟩ := cells5 hKV
      obtain ⟨W7, hW7, hb7, hA7, -⟩ := read_end hAV (Nat.le_refl _) (z := zN) hKV zN
      dsimp only [zN] at hW7 hb7
      clear hV
      go_wp2_with fail
      rw [← hW7]
      obtain ⟨z0, z1, z2, z3, z4⟩ := hb7
      dsimp only at z0 z1 z2 z3 z4
      refine bodyPost_ret (v := .tuple #[zN.val, .bool false]) (by simp [results, Try.results51, go_sem, z0, z1, z2, z3, z4, NC.val, zN]) rfl ⟨zN, by rw [HQ.out]; rfl, by rw [HQ.out]; exact hA7, by rw [HQ.out]⟩
    | some t =>
      have HQ : Hid (deeper rd c = ((rd c.enter).1.leave, some t)) := by
        show _ = _; unfold deeper; rw [if_pos he]
        cases hq : rd c.enter with
        | mk p q => rw [hq] at ho; dsimp only at ho; subst ho; rfl
      rw [ho] at hm
      have hd : NodeAt (fun b => W2.heap.size ≤ b) W3 ⟨dk, dp, dn, dt, dq, dl, dc⟩ t := hm
      unfold NC.val
      simp only [Option.isSome_some]
      clear hm
      go_upto_region 4 with fail
      obtain ⟨V, hV⟩ : ∃ V, V = W3.alloc (.cells #[.int .i64 dk, .int .i64 dp, .int .i64 dn, .string ⟨dt.toArray⟩, .slice dq dl dc] 25) := ⟨_, rfl⟩
      rw [← hV]
      have hBV : Below W3.heap.size W3 V := by rw [hV]; exact (Below.refl _ _).alloc (Nat.le_refl _) _
      have hKd : Blk V W3.heap.size #[.int .i64 dk, .int .i64 dp, .int .i64 dn, .string ⟨dt.toArray⟩, .slice dq dl dc] 25 := by rw [hV]; exact Blk.new W3 _ _
      have hAV := hA3.below hBV
      have hKV := hK3.later hBV
      have hdV := hd.later hBV
      have HL := leave_any hAV.cur
      have hsV := hBV.size
      have hltB := hA3.lt
      clear hV
      go_wp2_with fail
      refine HL.mono ?_; rintro e W4 ⟨⟨r, rfl⟩, hc4, hg4⟩
      have hA4 := hAV.to hc4 hg4
      have hK4 := hKV.kept hg4 (fun e => by injection e; omega)
      have hKd4 := hKd.kept hg4 (fun e => by injection e; omega)
      have hd4 : NodeAt (fun b => W2.heap.size ≤ b) W4 ⟨dk, dp, dn, dt, dq, dl, dc⟩ t := hdV.keeps ⟨hg4.size, fun k hk hkl => hg4.block k hkl (fun e => by injection e; omega)⟩
      obtain ⟨⟨x0, x1, x2, x3, x4⟩, f0, f1, f2, f3, f4⟩ := cells5 hK4
      obtain ⟨⟨y0, y1, y2, y3, y4⟩, -⟩ := cells5 hKd4
      obtain ⟨W7, hW7, hb7, hA7, hn7⟩ := read_end hA4 (Nat.le_refl _) (z := zN) hK4 ⟨dk, dp, dn, dt, dq, dl, dc⟩
      have hg2s := hg2.size
      have hd7 := (hn7 _ _ _ hd4 (by omega)).mono (S' := fun b => w.heap.size ≤ b) fun k hk _ => by omega
      dsimp only at hW7 hb7
      clear HL
      go_wp2_with fail
      rw [← hW7]
      obtain ⟨z0, z1, z2, z3, z4⟩ := hb7
      dsimp only at z0 z1 z2 z3 z4
      refine bodyPost_ret (v := .tuple #[NC.val ⟨dk, dp, dn, dt, dq, dl, dc⟩, .bool true]) (by simp [results, Try.results51, go_sem, z0, z1, z2, z3, z4, NC.val]) rfl ⟨_, by rw [HQ.out]; rfl, by rw [HQ.out]; exact hA7, by rw [HQ.out]; exact hd7⟩
end Go.Proofs.Ytemgocegnlehoaa.N7
namespace Go.Proofs.Ytemgocegnlehoaa.N7
open Go.RowKit N5 N6

set_option maxRecDepth 100000 in
set_option maxHeartbeats 4000000 in
theorem inside_any {f : Nat} {x : Value} (eg : ∀ args w, (callFunc f args).run Try.prog w = .ok (.enter f args) w) {wh : Cu → Out Nd} {w : World} {B : Nat} {v : Value} {c : Cu} {p q : Nat} (h : CurAt w B v c) (Kp : Blk w p #[.pointer (some ⟨B, 0, none⟩)] 63) (Kq : Blk w q #[.func (.func f) #[x] #[]] 70) (hp : p ≠ B) (hq : q ≠ B)
    (hwh : c.is [40] = true → ∀ W, At7 B v (c.want [40]) w W → Calls Try.prog f #[x] W (ReadTo B v (wh (c.want [40])) W)) :
    Calls Try.prog 96 #[.pointer (some ⟨p, 0, none⟩), .pointer (some ⟨q, 0, none⟩)] w (ReadTo B v (inside wh c) w) := by
  have HWH := Lib.hid hwh
  clear hwh
  obtain ⟨W1, hW1⟩ : ∃ W1, W1 = (w.alloc (.cells #[.int .i64 0, .int .i64 0, .int .i64 0, .string ⟨#[]⟩, .slice none 0 0] 25)) := ⟨_, rfl⟩
  have hsz : W1.heap.size = w.heap.size + 1 := by rw [hW1]; simp
  have Kr : Blk W1 (w.heap.size) #[.int .i64 0, .int .i64 0, .int .i64 0, .string ⟨#[]⟩, .slice none 0 0] 25 := by rw [hW1]; have h0 := Blk.new w #[.int .i64 0, .int .i64 0, .int .i64 0, .string ⟨#[]⟩, .slice none 0 0] 25; (try simp only [World.size_alloc] at h0); exact h0
  have hA1 : At7 B v c w W1 := by rw [hW1]; exact (At7.of h).alloc _
  have Kp := Kp.later (w' := W1) (by rw [hW1]; exact (Below.refl _ w).alloc (Nat.le_refl _) _)
  have Kq := Kq.later (w' := W1) (by rw [hW1]; exact (Below.refl _ w).alloc (Nat.le_refl _) _)
  have hlt := h.lt
  have HW1 := Lib.hid hW1
  clear hW1 h
  go_enter Try.func96, Try.ntmps96
  go_upto_region 1 with fail
  rw [← HW1.out]
  clear HW1
  obtain ⟨⟨r0, r1, r2, r3, r4⟩, rf0, rf1, rf2, rf3, rf4⟩ := cells5 Kr
  have p0 := cells1 Kp
  have q0 := cells1 Kq
  cases hi : c.is [40] with
  | false =>
    have HQ : Hid (inside wh c = (c.want [40], none)) := by show _ = _; unfold inside; rw [hi]; rfl
    have HC := want_l hA1.cur [40]
    rw [hi] at HC
    go_wp2_with fail
    refine HC.mono ?_; rintro e W2 ⟨rfl, hc, hg⟩
    clear HC
    clear r0 r1 r2 r3 r4 rf0 rf1 rf2 rf3 rf4 p0 q0
    have hA2 := hA1.to hc hg
    have Kr := Kr.kept hg (fun e => by injection e; omega)
    have Kp := Kp.kept hg (fun e => by injection e; omega)
    have Kq := Kq.kept hg (fun e => by injection e; omega)
    have hs3 := hg.size
    clear hA1 hc hg
    obtain ⟨W7, hW7, hb7, hA7, hn7⟩ := read_end hA2 (b := w.heap.size) (by omega) (z := zN) Kr zN
    dsimp only [zN] at hW7 hb7
    clear hn7
    obtain ⟨⟨r0, r1, r2, r3, r4⟩, rf0, rf1, rf2, rf3, rf4⟩ := cells5 Kr
    have p0 := cells1 Kp
    have q0 := cells1 Kq
    go_wp2_with fail
    rw [← hW7]
    obtain ⟨z0, z1, z2, z3, z4⟩ := hb7
    dsimp only at z0 z1 z2 z3 z4
    refine bodyPost_ret (v := .tuple #[NC.val zN, .bool false]) (by simp [results, Try.results96, go_sem, z0, z1, z2, z3, z4, NC.val, zN]) rfl ⟨zN, by rw [HQ.out]; rfl, by rw [HQ.out]; exact hA7, by rw [HQ.out]⟩
  | true =>
    have HC := want_l hA1.cur [40]
    rw [hi] at HC
    go_wp2_with fail
    refine HC.mono ?_; rintro e W4 ⟨rfl, hc, hg⟩
    clear HC
    clear r0 r1 r2 r3 r4 rf0 rf1 rf2 rf3 rf4 p0 q0
    have hA4 := hA1.to hc hg
    have Kr := Kr.kept hg (fun e => by injection e; omega)
    have Kp := Kp.kept hg (fun e => by injection e; omega)
    have Kq := Kq.kept hg (fun e => by injection e; omega)
    have hs5 := hg.size
    clear hA1 hc hg
    obtain ⟨⟨r0, r1, r2, r3, r4⟩, rf0, rf1, rf2, rf3, rf4⟩ := cells5 Kr
    have p0 := cells1 Kp
    have q0 := cells1 Kq
    have HC := HWH.out hi W4 hA4
    go_wp2_with fail
    refine HC.mono ?_; rintro e W6 ⟨d, rfl, hAc, hm⟩
    clear HC
    clear r0 r1 r2 r3 r4 rf0 rf1 rf2 rf3 rf4 p0 q0
    have hA6 := hA4.trans hAc
    have Kr := Kr.kept hAc.grown (fun e => by injection e; omega)
    have Kp := Kp.kept hAc.grown (fun e => by injection e; omega)
    have Kq := Kq.kept hAc.grown (fun e => by injection e; omega)
    have hs7 := hAc.grown.size
    clear hA4 hAc
    cases ho : (wh (c.want [40])).2 with
    | none =>
      have HQ : Hid (inside wh c = ((wh (c.want [40])).1, none)) := by
        show _ = _; unfold inside; rw [if_pos hi]
        cases hq : wh (c.want [40]) with
        | mk p q => rw [hq] at ho; dsimp only at ho; subst ho; rfl
      rw [ho] at hm
      obtain ⟨dk, dp, dn, dt, dq, dl, dc⟩ := d
      unfold NC.val
      simp only [Option.isSome_none]
      clear hm
      obtain ⟨⟨r0, r1, r2, r3, r4⟩, rf0, rf1, rf2, rf3, rf4⟩ := cells5 Kr
      have p0 := cells1 Kp
      have q0 := cells1 Kq
      go_upto_region 4 with fail
      obtain ⟨W8, hW8⟩ : ∃ x, x = W6.alloc (.cells #[.int .i64 dk, .int .i64 dp, .int .i64 dn, .string ⟨dt.toArray⟩, .slice dq dl dc] 25) := ⟨_, rfl⟩
      rw [← hW8]
      have hB : Below W6.heap.size W6 W8 := by rw [hW8]; exact (Below.refl _ _).alloc (Nat.le_refl _) _
      have Kd : Blk W8 W6.heap.size #[.int .i64 dk, .int .i64 dp, .int .i64 dn, .string ⟨dt.toArray⟩, .slice dq dl dc] 25 := by rw [hW8]; exact Blk.new W6 _ _
      have hz8 : W6.heap.size + 1 ≤ W8.heap.size := by rw [hW8]; simp
      clear hW8
      clear r0 r1 r2 r3 r4 rf0 rf1 rf2 rf3 rf4 p0 q0
      have hA8 := hA6.below hB
      have Kr := Kr.kept (grownBy_below hB (some B)) (fun e => by injection e; omega)
      have Kp := Kp.kept (grownBy_below hB (some B)) (fun e => by injection e; omega)
      have Kq := Kq.kept (grownBy_below hB (some B)) (fun e => by injection e; omega)
      have hs9 := (grownBy_below hB (some B)).size
      clear hA6 hB
      obtain ⟨W7, hW7, hb7, hA7, hn7⟩ := read_end hA8 (b := w.heap.size) (by omega) (z := zN) Kr zN
      dsimp only [zN] at hW7 hb7
      clear hn7
      obtain ⟨⟨r0, r1, r2, r3, r4⟩, rf0, rf1, rf2, rf3, rf4⟩ := cells5 Kr
      have p0 := cells1 Kp
      have q0 := cells1 Kq
      obtain ⟨⟨d0, d1, d2, d3, d4⟩, -⟩ := cells5 Kd
      go_wp2_with fail
      rw [← hW7]
      obtain ⟨z0, z1, z2, z3, z4⟩ := hb7
      dsimp only at z0 z1 z2 z3 z4
      refine bodyPost_ret (v := .tuple #[NC.val zN, .bool false]) (by simp [results, Try.results96, go_sem, z0, z1, z2, z3, z4, NC.val, zN]) rfl ⟨zN, by rw [HQ.out]; rfl, by rw [HQ.out]; exact hA7, by rw [HQ.out]⟩
    | some t =>
      rw [ho] at hm
      have Td : NodeAt _ _ d t := hm
      clear hm
      cases hj : (wh (c.want [40])).1.is [41] with
      | false =>
        have HQ : Hid (inside wh c = ((wh (c.want [40])).1.want [41], none)) := by
          show _ = _; unfold inside; rw [if_pos hi]
          cases hq : wh (c.want [40]) with
          | mk p q => rw [hq] at ho hj; dsimp only at ho hj; subst ho; dsimp only; rw [hj]; rfl
        obtain ⟨dk, dp, dn, dt, dq, dl, dc⟩ := d
        unfold NC.val
        simp only [Option.isSome_some]
        obtain ⟨⟨r0, r1, r2, r3, r4⟩, rf0, rf1, rf2, rf3, rf4⟩ := cells5 Kr
        have p0 := cells1 Kp
        have q0 := cells1 Kq
        go_upto_region 4 with fail
        obtain ⟨W10, hW10⟩ : ∃ x, x = W6.alloc (.cells #[.int .i64 dk, .int .i64 dp, .int .i64 dn, .string ⟨dt.toArray⟩, .slice dq dl dc] 25) := ⟨_, rfl⟩
        rw [← hW10]
        have hB : Below W6.heap.size W6 W10 := by rw [hW10]; exact (Below.refl _ _).alloc (Nat.le_refl _) _
        have Kd : Blk W10 W6.heap.size #[.int .i64 dk, .int .i64 dp, .int .i64 dn, .string ⟨dt.toArray⟩, .slice dq dl dc] 25 := by rw [hW10]; exact Blk.new W6 _ _
        have hz10 : W6.heap.size + 1 ≤ W10.heap.size := by rw [hW10]; simp
        clear hW10
        clear r0 r1 r2 r3 r4 rf0 rf1 rf2 rf3 rf4 p0 q0
        have hA10 := hA6.below hB
        have Kr := Kr.kept (grownBy_below hB (some B)) (fun e => by injection e; omega)
        have Kp := Kp.kept (grownBy_below hB (some B)) (fun e => by injection e; omega)
        have Kq := Kq.kept (grownBy_below hB (some B)) (fun e => by injection e; omega)
        have Td := Td.keeps (w' := W10) ⟨(grownBy_below hB (some B)).size, fun k hk hkl => (grownBy_below hB (some B)).block k hkl (fun e => by injection e; omega)⟩
        have hs11 := (grownBy_below hB (some B)).size
        clear hA6 hB
        obtain ⟨⟨r0, r1, r2, r3, r4⟩, rf0, rf1, rf2, rf3, rf4⟩ := cells5 Kr
        have p0 := cells1 Kp
        have q0 := cells1 Kq
        obtain ⟨⟨d0, d1, d2, d3, d4⟩, -⟩ := cells5 Kd
        have HC := want_l hA10.cur [41]
        rw [hj] at HC
        go_wp2_with fail
        refine HC.mono ?_; rintro e W12 ⟨rfl, hc, hg⟩
        clear HC
        clear r0 r1 r2 r3 r4 rf0 rf1 rf2 rf3 rf4 p0 q0 d0 d1 d2 d3 d4
        have hA12 := hA10.to hc hg
        have Kr := Kr.kept hg (fun e => by injection e; omega)
        have Kp := Kp.kept hg (fun e => by injection e; omega)
        have Kq := Kq.kept hg (fun e => by injection e; omega)
        have Kd := Kd.kept hg (fun e => by injection e; omega)
        have Td := Td.keeps (w' := W12) ⟨hg.size, fun k hk hkl => hg.block k hkl (fun e => by injection e; omega)⟩
        have hs13 := hg.size
        clear hA10 hc hg
        obtain ⟨W7, hW7, hb7, hA7, hn7⟩ := read_end hA12 (b := w.heap.size) (by omega) (z := zN) Kr zN
        dsimp only [zN] at hW7 hb7
        clear hn7
        obtain ⟨⟨r0, r1, r2, r3, r4⟩, rf0, rf1, rf2, rf3, rf4⟩ := cells5 Kr
        have p0 := cells1 Kp
        have q0 := cells1 Kq
        obtain ⟨⟨d0, d1, d2, d3, d4⟩, -⟩ := cells5 Kd
        go_wp2_with fail
        rw [← hW7]
        obtain ⟨z0, z1, z2, z3, z4⟩ := hb7
        dsimp only at z0 z1 z2 z3 z4
        refine bodyPost_ret (v := .tuple #[NC.val zN, .bool false]) (by simp [results, Try.results96, go_sem, z0, z1, z2, z3, z4, NC.val, zN]) rfl ⟨zN, by rw [HQ.out]; rfl, by rw [HQ.out]; exact hA7, by rw [HQ.out]⟩
      | true =>
        have HQ : Hid (inside wh c = ((wh (c.want [40])).1.want [41], some t)) := by
          show _ = _; unfold inside; rw [if_pos hi]
          cases hq : wh (c.want [40]) with
          | mk p q => rw [hq] at ho hj; dsimp only at ho hj; subst ho; dsimp only; rw [hj]; rfl
        obtain ⟨dk, dp, dn, dt, dq, dl, dc⟩ := d
        unfold NC.val
        simp only [Option.isSome_some]
        obtain ⟨⟨r0, r1, r2, r3, r4⟩, rf0, rf1, rf2, rf3, rf4⟩ := cells5 Kr
        have p0 := cells1 Kp
        have q0 := cells1 Kq
        go_upto_region 4 with fail
        obtain ⟨W14, hW14⟩ : ∃ x, x = W6.alloc (.cells #[.int .i64 dk, .int .i64 dp, .int .i64 dn, .string ⟨dt.toArray⟩, .slice dq dl dc] 25) := ⟨_, rfl⟩
        rw [← hW14]
        have hB : Below W6.heap.size W6 W14 := by rw [hW14]; exact (Below.refl _ _).alloc (Nat.le_refl _) _
        have Kd : Blk W14 W6.heap.size #[.int .i64 dk, .int .i64 dp, .int .i64 dn, .string ⟨dt.toArray⟩, .slice dq dl dc] 25 := by rw [hW14]; exact Blk.new W6 _ _
        have hz14 : W6.heap.size + 1 ≤ W14.heap.size := by rw [hW14]; simp
        clear hW14
        clear r0 r1 r2 r3 r4 rf0 rf1 rf2 rf3 rf4 p0 q0
        have hA14 := hA6.below hB
        have Kr := Kr.kept (grownBy_below hB (some B)) (fun e => by injection e; omega)
        have Kp := Kp.kept (grownBy_below hB (some B)) (fun e => by injection e; omega)
        have Kq := Kq.kept (grownBy_below hB (some B)) (fun e => by injection e; omega)
        have Td := Td.keeps (w' := W14) ⟨(grownBy_below hB (some B)).size, fun k hk hkl => (grownBy_below hB (some B)).block k hkl (fun e => by injection e; omega)⟩
        have hs15 := (grownBy_below hB (some B)).size
        clear hA6 hB
        obtain ⟨⟨r0, r1, r2, r3, r4⟩, rf0, rf1, rf2, rf3, rf4⟩ := cells5 Kr
        have p0 := cells1 Kp
        have q0 := cells1 Kq
        obtain ⟨⟨d0, d1, d2, d3, d4⟩, -⟩ := cells5 Kd
        have HC := want_l hA14.cur [41]
        rw [hj] at HC
        go_wp2_with fail
        refine HC.mono ?_; rintro e W16 ⟨rfl, hc, hg⟩
        clear HC
        clear r0 r1 r2 r3 r4 rf0 rf1 rf2 rf3 rf4 p0 q0 d0 d1 d2 d3 d4
        have hA16 := hA14.to hc hg
        have Kr := Kr.kept hg (fun e => by injection e; omega)
        have Kp := Kp.kept hg (fun e => by injection e; omega)
        have Kq := Kq.kept hg (fun e => by injection e; omega)
        have Kd := Kd.kept hg (fun e => by injection e; omega)
        have Td := Td.keeps (w' := W16) ⟨hg.size, fun k hk hkl => hg.block k hkl (fun e => by injection e; omega)⟩
        have hs17 := hg.size
        clear hA14 hc hg
        obtain ⟨W7, hW7, hb7, hA7, hn7⟩ := read_end hA16 (b := w.heap.size) (by omega) (z := zN) Kr ⟨dk, dp, dn, dt, dq, dl, dc⟩
        dsimp only [zN] at hW7 hb7
        have hd7 := (hn7 _ _ _ Td (by omega)).mono (S' := fun b => w.heap.size ≤ b) fun k hk _ => by omega
        obtain ⟨⟨r0, r1, r2, r3, r4⟩, rf0, rf1, rf2, rf3, rf4⟩ := cells5 Kr
        have p0 := cells1 Kp
        have q0 := cells1 Kq
        obtain ⟨⟨d0, d1, d2, d3, d4⟩, -⟩ := cells5 Kd
        go_wp2_with fail
        rw [← hW7]
        obtain ⟨z0, z1, z2, z3, z4⟩ := hb7
        dsimp only at z0 z1 z2 z3 z4
        refine bodyPost_ret (v := .tuple #[NC.val ⟨dk, dp, dn, dt, dq, dl, dc⟩, .bool true]) (by simp [results, Try.results96, go_sem, z0, z1, z2, z3, z4, NC.val, zN]) rfl ⟨⟨dk, dp, dn, dt, dq, dl, dc⟩, by rw [HQ.out]; rfl, by rw [HQ.out]; exact hA7, by rw [HQ.out]; exact hd7⟩
end Go.Proofs.Ytemgocegnlehoaa.N7
namespace Go.Proofs.Ytemgocegnlehoaa.N7
open Go.RowKit N5 N6

/-- a row of trees of the call's own -/
def OwnRows (n : Nat) (w : World) (val : Value) (ks : List Nd) : Prop :=
  ∃ ds : List NC, ds.length = ks.length ∧ w.ownsRow n 25 5 val ks.length (ds.flatMap encN) ∧ ∀ j (h : j < ds.length) (h' : j < ks.length), NodeAt (fun b => n ≤ b ∧ val.ownBlock ≠ some b) w ds[j] ks[j]
section
variable {n m : Nat} {w w' : World} {val : Value} {ks : List Nd} {B : Nat}
theorem OwnRows.keep (h : OwnRows n w val ks) (hg : w.grownBy w' (some B)) (hB : B < n) : OwnRows n w' val ks := by
  obtain ⟨ds, h1, h2, h3⟩ := h
  refine ⟨ds, h1, h2.kept hg ?_, fun j a b => (h3 j a b).keeps ⟨hg.size, fun k hk hkl => hg.block k hkl (fun e => by injection e; omega)⟩⟩
  cases ho : val.ownBlock with
  | none => exact .inl rfl
  | some b => exact .inr (fun e => by injection e with e; have := (h2.lt b ho).1; omega)
theorem OwnRows.mono (h : OwnRows n w val ks) (hm : m ≤ n) : OwnRows m w val ks := by
  obtain ⟨ds, h1, h2, h3⟩ := h
  refine ⟨ds, h1, ⟨h2.1, ?_⟩, fun j a b => (h3 j a b).mono fun k hk _ => ⟨by omega, hk.2⟩⟩
  rcases h2.2 with e | ⟨g, cap, cur, e1, e2, e3⟩
  · exact .inl e
  · exact .inr ⟨g, cap, cur, e1, by omega, e3⟩
theorem OwnRows.shape (h : OwnRows n w val ks) : ∃ p cap, val = .slice p ks.length cap := by
  obtain ⟨ds, h1, h2, -⟩ := h
  rcases h2.2 with ⟨e, e0⟩ | ⟨g, cap, cur, e1, -⟩
  · exact ⟨none, 0, by rw [e, e0]⟩
  · exact ⟨_, _, e1⟩
theorem OwnRows.nil : OwnRows n w (.slice none 0 0) [] := ⟨[], rfl, World.ownsRow_nil _ _ _ _, fun j h => absurd h (Nat.not_lt_zero _)⟩
theorem OwnRows.node {p : Option Addr} {k cap : Nat} (h : OwnRows n w (.slice p k cap) ks) (kd ps nm : Int) (tx : List UInt8) : NodeAt (fun b => n ≤ b) w ⟨kd, ps, nm, tx, p, k, cap⟩ (.mk kd ps nm tx ks) := by
  have hk : k = ks.length := by obtain ⟨p', cap', e⟩ := h.shape; injection e
  obtain ⟨ds, h1, h2, h3⟩ := h
  subst hk
  exact kids_own h2 (Nat.le_refl _) rfl rfl h1 rfl rfl rfl rfl fun j a b => (h3 j a b).mono fun k hk _ => hk.1
/-- a literal of one, of two -/
theorem own_lit {g : Nat} {cs : List Value} {k : Nat} (h : Blk w g cs.toArray 25) (hn : n ≤ g) (hk : cs.length = k * 5) (hm : k ≤ maxLen) : w.ownsRow n 25 5 (.slice (some ⟨g, 0, none⟩) k k) k cs :=
  ⟨hk, .inr ⟨g, k, cs.toArray, rfl, hn, h, Nat.le_refl _, hm, by simpa using hk, by rw [← hk]; simp⟩⟩
theorem OwnRows.one {g : Nat} {d : NC} {t : Nd} (h : Blk w g #[.int .i64 d.kind, .int .i64 d.pos, .int .i64 d.num, .string ⟨d.text.toArray⟩, .slice d.kp d.kl d.kc] 25) (hn : n ≤ g) (hd : NodeAt (fun b => n ≤ b ∧ b ≠ g) w d t) :
    OwnRows n w (.slice (some ⟨g, 0, none⟩) 1 1) [t] := by
  refine ⟨[d], rfl, own_lit (cs := encN d) h hn rfl (by unfold maxLen; omega), fun j a b => ?_⟩
  match j, a with
  | 0, _ => exact hd.mono fun k hk _ => ⟨hk.1, fun e => hk.2 (by injection e with e; exact e.symm)⟩
theorem OwnRows.two {g : Nat} {d e : NC} {t u : Nd} (h : Blk w g #[.int .i64 d.kind, .int .i64 d.pos, .int .i64 d.num, .string ⟨d.text.toArray⟩, .slice d.kp d.kl d.kc, .int .i64 e.kind, .int .i64 e.pos, .int .i64 e.num, .string ⟨e.text.toArray⟩, .slice e.kp e.kl e.kc] 25) (hn : n ≤ g)
    (hd : NodeAt (fun b => n ≤ b ∧ b ≠ g) w d t) (he : NodeAt (fun b => n ≤ b ∧ b ≠ g) w e u) : OwnRows n w (.slice (some ⟨g, 0, none⟩) 2 2) [t, u] := by
  refine ⟨[d, e], rfl, own_lit (cs := encN d ++ encN e) h hn rfl (by unfold maxLen; omega), fun j a b => ?_⟩
  match j, a with
  | 0, _ => exact hd.mono fun k hk _ => ⟨hk.1, fun e => hk.2 (by injection e with e; exact e.symm)⟩
  | 1, _ => exact he.mono fun k hk _ => ⟨hk.1, fun e => hk.2 (by injection e with e; exact e.symm)⟩
/-- the row grows by one -/
theorem OwnRows.snoc {w2 w3 : World} {v3 : Value} {d : NC} {t : Nd} {ds : List NC} (h1 : ds.length = ks.length) (h3 : ∀ j (h : j < ds.length) (h' : j < ks.length), NodeAt (fun b => n ≤ b ∧ val.ownBlock ≠ some b) w2 ds[j] ks[j])
    (hd : NodeAt (fun b => n ≤ b ∧ val.ownBlock ≠ some b) w2 d t) (ho : w3.ownsRow n 25 5 v3 (ks.length + 1) (ds.flatMap encN ++ encN d))
    (hal : w2.grownBy w3 val.ownBlock) (hat : v3.ownBlock = val.ownBlock ∨ ∃ n, v3.ownBlock = some n ∧ w2.heap.size ≤ n) : OwnRows n w3 v3 (ks ++ [t]) := by
  refine ⟨ds ++ [d], by simp [h1], ?_, fun j a b => ?_⟩
  · rw [List.length_append, List.flatMap_append, List.flatMap_cons, List.flatMap_nil, List.append_nil]
    exact ho
  · by_cases hj : j < ds.length
    · rw [List.getElem_append_left hj, List.getElem_append_left (by omega)]
      exact node_grown (h3 j hj (by omega)) (fun b hb _ => hb) hal hat
    · have e : j = ds.length := by rw [List.length_append] at a; simp at a; omega
      subst e
      rw [List.getElem_append_right (by omega), List.getElem_append_right (by omega)]
      simp only [h1, Nat.sub_self, List.getElem_singleton]
      exact node_grown hd (fun b hb _ => hb) hal hat
end
theorem At7.row {B : Nat} {v : Value} {c : Cu} {w W W' : World} (h : At7 B v c w W) {o : Option Nat} (hg : W.grownBy W' o) (ho : ∀ b, o = some b → w.heap.size ≤ b) : At7 B v c w W' := by
  cases o with
  | none => exact h.below (grown_none hg)
  | some b =>
    have hb := ho b rfl
    have hlt := h.lt
    refine ⟨h.cur.kept hg (by omega) fun h0 g o n cap hv e => ?_, ⟨hg.os.trans h.grown.os, hg.tape.trans h.grown.tape, hg.output.trans h.grown.output, Nat.le_trans h.grown.size hg.size, fun k hk hne => (hg.block k (Nat.lt_of_lt_of_le hk h.grown.size) (fun e => by injection e; omega)).trans (h.grown.block k hk hne)⟩, hlt, h.far⟩
    obtain ⟨a, cap', h1, _, _⟩ := h.cur.row
    have hv' := hv
    rw [h1] at hv
    injection hv with _ e2 _
    have := h.far g o n cap hv' (fun e0 => h0 (List.eq_nil_of_length_eq_zero (by omega)))
    omega
def RowsOr (n : Nat) (w : World) (val : Value) : Option (List Nd) → Prop
  | some ks => OwnRows n w val ks
  | none => val = .slice none 0 0
/-- what a reader of rows leaves -/
def RowsTo (B : Nat) (v : Value) (o : Out (List Nd)) (w : World) (e : Ending) (w' : World) : Prop :=
  ∃ val, e = .returned (.tuple #[val, .bool o.2.isSome]) ∧ At7 B v o.1 w w' ∧ RowsOr w.heap.size w' val o.2
abbrev rdr (B : Nat) : Value := .agg #[.pointer (some ⟨B, 0, none⟩)]

theorem many_some {go : Cu → Bool} {nx : Cu → Cu} {rd : Cu → Out Nd} {f : Nat} {c d : Cu} {n : Nd} {l : List Nd} (h : go c = true) (hr : rd (nx c) = (d, some n)) : manyP go nx rd (f + 1) c l = manyP go nx rd f d (l ++ [n]) := by
  show (if _ then _ else _) = _; rw [if_pos h, hr]
theorem many_none {go : Cu → Bool} {nx : Cu → Cu} {rd : Cu → Out Nd} {f : Nat} {c d : Cu} {l : List Nd} (h : go c = true) (hr : rd (nx c) = (d, none)) : manyP go nx rd (f + 1) c l = (d, none) := by
  show (if _ then _ else _) = _; rw [if_pos h, hr]
theorem many_end {go : Cu → Bool} {nx : Cu → Cu} {rd : Cu → Out Nd} {f : Nat} {c : Cu} {l : List Nd} (h : go c = false) : manyP go nx rd (f + 1) c l = (nx c, some l) := by
  show (if _ then _ else _) = _; rw [h]; rfl
theorem out_eq {α : Type} {o : Out α} {x : Option α} (h : o.2 = x) : o = (o.1, x) := by cases o; dsimp only at h; rw [h]
end Go.Proofs.Ytemgocegnlehoaa.N7
namespace Go.Proofs.Ytemgocegnlehoaa.N7
open Go.RowKit N5 N6

attribute [local go_sem] fld0 fld1
set_option maxRecDepth 100000 in
set_option maxHeartbeats 4000000 in
theorem brack_any {f : Nat} {x : Value} (eg : ∀ args w, (callFunc f args).run Try.prog w = .ok (.enter f args) w) {wh : Cu → Out Nd} {w : World} {B : Nat} {v : Value} {c : Cu} (h : CurAt w B v c) (hwh : c.enters = true → c.enter.is [40] = true → ∀ W, CurAt W B v (c.enter.want [40]) → Calls Try.prog f #[x] W (ReadTo B v (wh (c.enter.want [40])) W)) : Calls Try.prog 90 #[.pointer (some ⟨B, 0, none⟩), .func (.func f) #[x] #[]] w (ReadTo B v (deeper (inside wh) c) w) := by
  have HWH := Lib.hid hwh
  clear hwh
  obtain ⟨W1, hW1⟩ : ∃ W1, W1 = (((w.alloc (.cells #[.pointer (some ⟨B, 0, none⟩)] 63)).alloc (.cells #[.func (.func f) #[x] #[]] 70)).alloc (.cells #[.int .i64 0, .int .i64 0, .int .i64 0, .string ⟨#[]⟩, .slice none 0 0] 25)) := ⟨_, rfl⟩
  have hsz : W1.heap.size = w.heap.size + 1 + 1 + 1 := by rw [hW1]; simp
  have Kp : Blk W1 (w.heap.size) #[.pointer (some ⟨B, 0, none⟩)] 63 := by rw [hW1]; have h0 := Blk.new w #[.pointer (some ⟨B, 0, none⟩)] 63; (try simp only [World.size_alloc] at h0); exact ((h0.later ((Below.refl _ _).alloc (Nat.le_refl _) _)).later ((Below.refl _ _).alloc (Nat.le_refl _) _))
  have Kq : Blk W1 (w.heap.size + 1) #[.func (.func f) #[x] #[]] 70 := by rw [hW1]; have h0 := Blk.new (w.alloc (.cells #[.pointer (some ⟨B, 0, none⟩)] 63)) #[.func (.func f) #[x] #[]] 70; (try simp only [World.size_alloc] at h0); exact (h0.later ((Below.refl _ _).alloc (Nat.le_refl _) _))
  have Kr : Blk W1 (w.heap.size + 1 + 1) #[.int .i64 0, .int .i64 0, .int .i64 0, .string ⟨#[]⟩, .slice none 0 0] 25 := by rw [hW1]; have h0 := Blk.new ((w.alloc (.cells #[.pointer (some ⟨B, 0, none⟩)] 63)).alloc (.cells #[.func (.func f) #[x] #[]] 70)) #[.int .i64 0, .int .i64 0, .int .i64 0, .string ⟨#[]⟩, .slice none 0 0] 25; (try simp only [World.size_alloc] at h0); exact h0
  have hA1 : At7 B v c w W1 := by rw [hW1]; exact (At7.of h).alloc _ |>.alloc _ |>.alloc _
  have hlt := h.lt
  have HW1 := Lib.hid hW1
  clear hW1 h
  go_enter Try.func90, Try.ntmps90
  go_upto_region 1 with fail
  rw [← HW1.out]
  clear HW1
  have p0 := cells1 Kp
  have q0 := cells1 Kq
  obtain ⟨⟨r0, r1, r2, r3, r4⟩, rf0, rf1, rf2, rf3, rf4⟩ := cells5 Kr
  have HC := deeper_clo (rd := inside wh) (enters_of Try.func96 (by kernel_rfl) rfl) hA1.cur (fun he W hA => inside_any eg hA.cur (Kp.past hA (by omega)) (Kq.past hA (by omega)) (by omega) (by omega) (fun hi W2 hA2 => HWH.out he hi W2 hA2.cur))
  go_wp2_with fail
  refine HC.mono ?_; rintro e W2 ⟨d, rfl, hAc, hm⟩
  clear HC
  clear p0 q0 r0 r1 r2 r3 r4 rf0 rf1 rf2 rf3 rf4
  have hA2 := hA1.trans hAc
  have Kp := Kp.kept hAc.grown (fun e => by injection e; omega)
  have Kq := Kq.kept hAc.grown (fun e => by injection e; omega)
  have Kr := Kr.kept hAc.grown (fun e => by injection e; omega)
  have hs3 := hAc.grown.size
  clear hA1 hAc
  obtain ⟨dk, dp, dn, dt, dq, dl, dc⟩ := d
  obtain ⟨W7, hW7, hb7, hA7, hn7⟩ := read_end hA2 (b := w.heap.size + 1 + 1) (by omega) (z := zN) Kr ⟨dk, dp, dn, dt, dq, dl, dc⟩
  dsimp only [zN] at hW7 hb7
  have hm7 := tree_pass (m := w.heap.size) hm hn7 (by omega) (by omega)
  clear hn7
  unfold NC.val
  have p0 := cells1 Kp
  have q0 := cells1 Kq
  obtain ⟨⟨r0, r1, r2, r3, r4⟩, rf0, rf1, rf2, rf3, rf4⟩ := cells5 Kr
  go_wp2_with fail
  rw [← hW7]
  obtain ⟨z0, z1, z2, z3, z4⟩ := hb7
  dsimp only at z0 z1 z2 z3 z4
  exact bodyPost_ret (v := .tuple #[NC.val ⟨dk, dp, dn, dt, dq, dl, dc⟩, .bool (deeper (inside wh) c).2.isSome]) (by simp [results, Try.results90, go_sem, z0, z1, z2, z3, z4, NC.val, zN]) rfl ⟨_, rfl, hA7, hm7⟩
end Go.Proofs.Ytemgocegnlehoaa.N7
