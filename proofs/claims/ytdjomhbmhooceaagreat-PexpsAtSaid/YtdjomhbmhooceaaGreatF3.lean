import Derived.Test.YtdjomhbmhooceaaGreatF2
set_option maxHeartbeats 3200000
set_option maxRecDepth 100000
set_option linter.unusedVariables false
set_option linter.unusedSimpArgs false
namespace Go.Proofs.YtdjomhbmhooceaaGreat.N5
open Go.RowKit
attribute [local go_sem] xB xA
def xW (n : Nat) (w : World) (v : Value) (xs : List Tk) : Prop :=
 ∃ (a : Option Addr) (cap : Nat), v = .slice a xs.length cap /\ xs.length <= cap /\ (xs = [] \/ ∃ g o, a = some ⟨g, o, none⟩ /\ g < n /\ ∀ j (hj : j < xs.length), tX w g o j xs[j])
theorem tX.under {w w' : World} {n g o j : Nat} {t : Tk} (h : tX w g o j t) (hB : Below n w w') (l : g < n) : tX w' g o j t :=
 ⟨(hB.cell (p := ⟨g, o + j * 4, none⟩) l).trans h.1, (hB.cell (p := ⟨g, o + j * 4 + 1, none⟩) l).trans h.2.1, (hB.cell (p := ⟨g, o + j * 4 + 2, none⟩) l).trans h.2.2.1, (hB.cell (p := ⟨g, o + j * 4 + 3, none⟩) l).trans h.2.2.2⟩
theorem xW.below {n : Nat} {w w' : World} {v : Value} {xs : List Tk} (h : xW n w v xs) (hB : Below n w w') : xW n w' v xs := by
 obtain ⟨a, cap, h1, hc, h2 | ⟨g, o, h3, h4, h5⟩⟩ := h
 ·
  exact ⟨a, cap, h1, hc, .inl h2⟩
 ·
  exact ⟨a, cap, h1, hc, .inr ⟨g, o, h3, h4, fun j hj => (h5 j hj).under hB h4⟩⟩
theorem xW.bl {n : Nat} {w0 w w' : World} {v : Value} {xs : List Tk} (h : xW n w v xs) (hB : Below w.heap.size w w') (hn : n <= w0.heap.size) (h1 : Below w0.heap.size w0 w) : xW n w' v xs := h.below (hB.mono (Nat.le_trans hn h1.size))
abbrev zK (u : Value) (ep nest err pos : Int) : Array Value := #[u, .int .i64 0, .int .i64 ep, .int .i64 0, .string ⟨#[]⟩, .int .i64 nest, .int .i64 err, .int .i64 pos]
def zF (n : Nat) (w : World) (x : Value) (c : Cu) : Prop := ∃ u, x = .agg (zK u c.ep (c.nest : Int) c.err c.pos) /\ xW n w u (c.ws.drop c.at')
structure yZ (c : Cu) : Prop where
 le : c.at' <= c.ws.length
 few : c.ws.length <= 4000
 kinds : ∀ t ∈ c.ws, t.kind ≠ 0
 deep : c.nest <= 200
theorem zJ.ok {w : World} {B : Nat} {v : Value} {c : Cu} (h : zJ w B v c) : yZ c := ⟨h.le, h.few, h.kinds, h.deep⟩
theorem tok_nil {c : Cu} (h : c.ws.drop c.at' = []) : c.tok c.at' = ⟨0, c.ep, 0, []⟩ := qW (List.drop_eq_nil_iff.1 h)
theorem AaH {c : Cu} {t : Tk} {r : List Tk} (h : c.ws.drop c.at' = t :: r) : c.tok c.at' = t := by
 unfold Cu.tok;have := congrArg (fun l => l[0]?) h;simp at this;rw [List.getD_eq_getElem?_getD, this]; rfl
theorem eight {w w' : World} {n : Nat} {x0 x1 x2 x3 x4 x5 x6 x7 : Value} {ty : TypeId} (hB : Below n (w.alloc (.cells #[x0, x1, x2, x3, x4, x5, x6, x7] ty)) w') (hn : w.heap.size < n) :
  w'.cell? ⟨w.heap.size, 0, none⟩ = some x0 /\ w'.cell? ⟨w.heap.size, 1, none⟩ = some x1 /\ w'.cell? ⟨w.heap.size, 2, none⟩ = some x2 /\ w'.cell? ⟨w.heap.size, 3, none⟩ = some x3 /\ w'.cell? ⟨w.heap.size, 4, none⟩ = some x4 /\ w'.cell? ⟨w.heap.size, 5, none⟩ = some x5 /\ w'.cell? ⟨w.heap.size, 6, none⟩ = some x6 /\ w'.cell? ⟨w.heap.size, 7, none⟩ = some x7 := by
 have e : w'.heap[w.heap.size]? = some (.cells #[x0, x1, x2, x3, x4, x5, x6, x7] ty (0, 0)) := (hB.block _ hn).trans (World.alloc_heap_new w _)
 refine ⟨?_, ?_, ?_, ?_, ?_, ?_, ?_, ?_⟩ <;> simp [World.cell?, e]
theorem tW {n : Nat} {w : World} {x : Value} {c : Cu} (h : zF n w x c) (hn : n <= w.heap.size) : Calls Tryz.prog 19 #[x] w fun e w' => e = .returned c.peek.val /\ Below w.heap.size w w' := by
 obtain ⟨u, rfl, a, cap, rfl, hcap, hr⟩ := h;by_cases he : c.err = 0
 ·
  have hb : (c.err != 0) = false := by rw [he]; rfl
  have hp : c.peek = c.tok c.at' := by unfold Cu.peek; rw [if_pos he]
  cases hd : c.ws.drop c.at' with
  | nil =>
   have hv : Hid (c.peek.val = .agg #[.int .i64 0, .int .i64 c.ep, .int .i64 0, .string ⟨#[]⟩]) := by show _ = _; rw [hp, tok_nil hd]; rfl
   clear hr hcap hp hd he;go_enter Tryz.func19, Tryz.ntmps19;go_wp2_with fail;refine bodyPost_ret (v := .agg #[.int .i64 0, .int .i64 c.ep, .int .i64 0, .string ⟨#[]⟩]) (by simp [results, Tryz.results19, go_sem]) rfl ⟨by rw [hv.out], ?_⟩;exact ((Below.refl _ w).alloc (Nat.le_refl _) _).alloc (by simp) _
  | cons t r =>
   rw [hd] at hr hcap;have hv : Hid (c.peek.val = .agg #[.int .i64 t.kind, .int .i64 t.pos, .int .i64 t.num, .string ⟨t.text.toArray⟩]) := by show _ = _; rw [hp, AaH hd]; rfl
   obtain ⟨g, o, rfl, hg, hc⟩ : ∃ g o, a = some ⟨g, o, none⟩ /\ g < n /\ ∀ j (hj : j < (t :: r).length), tX w g o j (t :: r)[j] := by
    rcases hr with h0 | h0
    ·
     cases h0
    ·
     exact h0
   obtain ⟨a0, a1, a2, a3⟩ := hc 0 (by simp);simp only [Nat.zero_mul, Nat.add_zero, List.getElem_cons_zero] at a0 a1 a2 a3;have hgl : g < w.heap.size := Nat.lt_of_lt_of_le hg hn;have hl : Hid ((t :: r).length = r.length + 1) := by show _ = _; simp
   rw [hl.out] at hcap ⊢;have hne : ((r.length + 1 : Nat) == 0) = false := by simp
   clear hc hp hd he;have hbx : Below w.heap.size w ((w.alloc (.cells (zK (.slice (some ⟨g, o, none⟩) (r.length + 1) cap) c.ep c.nest c.err c.pos) 40)).alloc sA) := ((Below.refl _ w).alloc (Nat.le_refl _) _).alloc (by simp) _;have b0 := (hbx.cell (p := ⟨g, o, none⟩) hgl).trans a0;have b1 := (hbx.cell (p := ⟨g, o + 1, none⟩) hgl).trans a1;have b2 := (hbx.cell (p := ⟨g, o + 2, none⟩) hgl).trans a2;have b3 := (hbx.cell (p := ⟨g, o + 3, none⟩) hgl).trans a3;clear hbx a0 a1 a2 a3;go_enter Tryz.func19, Tryz.ntmps19;go_wp2_with fail;refine bodyPost_ret (v := .agg #[.int .i64 t.kind, .int .i64 t.pos, .int .i64 t.num, .string ⟨t.text.toArray⟩]) (by simp [results, Tryz.results19, go_sem]) rfl ⟨by rw [hv.out], ?_⟩;exact ((Below.refl _ w).alloc (Nat.le_refl _) _).alloc (by simp) _
 ·
  have hb : (c.err != 0) = true := by rw [bne_iff_ne]; exact he
  have hv : Hid (c.peek.val = rW.val) := by show _ = _; unfold Cu.peek; rw [if_neg he]
  clear hr hcap he;go_enter Tryz.func19, Tryz.ntmps19;go_wp2_with fail;refine bodyPost_ret (v := .agg #[.int .i64 0, .int .i64 0, .int .i64 0, .string ⟨#[]⟩]) (by simp [results, Tryz.results19, go_sem]) rfl ⟨by rw [hv.out]; rfl, ?_⟩;exact ((Below.refl _ w).alloc (Nat.le_refl _) _).alloc (by simp) _
theorem vJ (t : Tk) (y : ByteArray) (w : World) : Calls Tryz.prog 92 #[t.val, .string y] w (RunsTo (isOne t [y.data.toList]) w) := by
 have hB : Below w.heap.size w (w.alloc (.cells #[.int .i64 t.kind, .int .i64 t.pos, .int .i64 t.num, .string ⟨t.text.toArray⟩] 38)) := (Below.refl _ w).alloc (Nat.le_refl _) _;have hv : t.val = .agg #[.int .i64 t.kind, .int .i64 t.pos, .int .i64 t.num, .string ⟨t.text.toArray⟩] := rfl;have ht : ((⟨t.text.toArray⟩ : ByteArray).toList == y.toList) = decide (t.text = y.data.toList) := by
  have := eY t.text y.data.toList;rwa [show (⟨y.data.toList.toArray⟩ : ByteArray) = y from rfl] at this
 have HO : isOne t [y.data.toList] = ((decide (t.kind = 4) || decide (t.kind = 5)) && decide (t.text = y.data.toList)) := by
  unfold isOne hasT;congr 1;by_cases h : t.text = y.data.toList <;> simp [h]
 rw [hv];generalize (⟨t.text.toArray⟩ : ByteArray) = z at *;generalize decide (t.text = y.data.toList) = b at *;have hcase : ((t.kind == 4) = true /\ Hid (isOne t [y.data.toList] = b)) \/ ((t.kind == 4) = false /\ (t.kind == 5) = true /\ Hid (isOne t [y.data.toList] = b)) \/ ((t.kind == 4) = false /\ (t.kind == 5) = false /\ Hid (isOne t [y.data.toList] = false)) := by
  by_cases h4 : t.kind = 4
  ·
   exact .inl ⟨by rw [h4]; rfl, by show _ = _; rw [HO]; simp [h4]⟩
  ·
   by_cases h5 : t.kind = 5
   ·
    exact .inr (.inl ⟨by rw [beq_eq_false_iff_ne]; exact h4, by rw [h5]; rfl, by show _ = _; rw [HO]; simp [h5]⟩)
   ·
    exact .inr (.inr ⟨by rw [beq_eq_false_iff_ne]; exact h4, by rw [beq_eq_false_iff_ne]; exact h5, by show _ = _; rw [HO]; simp [h4, h5]⟩)
 clear HO hv;generalize isOne t [y.data.toList] = R at *;generalize t.kind = tk at *;rcases hcase with ⟨q4, hR⟩ | ⟨q4, q5, hR⟩ | ⟨q4, q5, hR⟩
 all_goals (
  go_enter Tryz.func92, Tryz.ntmps92
  go_wp2_with fail
  go_ret
  exact ⟨by rw [hR.out]; first | rfl | (rw [<- ht]; rfl), hB⟩)
end Go.Proofs.YtdjomhbmhooceaaGreat.N5
namespace Go.Proofs.YtdjomhbmhooceaaGreat.N5
open Go.RowKit
attribute [local go_sem] xB xA
abbrev tG (u : Value) (c : Cu) : Obj := .cells (zK u c.ep (c.nest : Int) c.err c.pos) 40
abbrev qR : Obj := .cells (zK (.slice none 0 0) 0 0 0 0) 40
theorem zF.shape {n : Nat} {w : World} {x : Value} {c : Cu} (h : zF n w x c) : ∃ a ln cap, x = .agg (zK (.slice a ln cap) c.ep (c.nest : Int) c.err c.pos) /\ Hid (xW n w (.slice a ln cap) (c.ws.drop c.at')) /\ Hid (ln = (c.ws.drop c.at').length) := by
 obtain ⟨u, rfl, a, cap, rfl, hcap, hr⟩ := h;exact ⟨a, _, cap, rfl, ⟨a, cap, rfl, hcap, hr⟩, rfl⟩
theorem lU {n : Nat} {w : World} {x : Value} {c : Cu} (h : zF n w x c) (hn : n <= w.heap.size) (y : ByteArray) : Calls Tryz.prog 62 #[x, .string y] w (RunsTo (c.is y.data.toList) w) := by
 obtain ⟨a, ln, cap, rfl, hr, -⟩ := h.shape;clear h;have hBa : Below w.heap.size w (w.alloc (tG (.slice a ln cap) c)) := (Below.refl _ w).alloc (Nat.le_refl _) _;have HP := tW (n := n) (w := w.alloc (tG (.slice a ln cap) c)) (c := c) ⟨_, rfl, hr.out.below (hBa.mono hn)⟩ (by simp; omega);by_cases he : c.err = 0
 ·
  have hb : (c.err == 0) = true := by rw [he]; rfl
  have hp : c.peek = c.tok c.at' := by unfold Cu.peek; rw [if_pos he]
  have HW := fun w2 => vJ (c.tok c.at') y w2
  have hR : Hid (c.is y.data.toList = isOne (c.tok c.at') [y.data.toList]) := by show _ = _; unfold Cu.is; simp [he]
  rw [hp] at HP;generalize isOne (c.tok c.at') [y.data.toList] = R at *;generalize (c.tok c.at').val = tv at *;clear he hp hr;go_enter Tryz.func62, Tryz.ntmps62;go_wp2_with fail;refine HP.mono ?_; rintro e w2 ⟨rfl, hB2⟩;go_wp2_with fail;refine (HW w2).mono ?_; rintro e w3 ⟨rfl, hB3⟩;have hB2 := zS hBa hB2;go_wp2;go_ret;exact ⟨by rw [hR.out]; rfl, hB2.trans (hB3.mono hB2.size)⟩
 ·
  have hb : (c.err == 0) = false := by rw [beq_eq_false_iff_ne]; exact he
  have hR : Hid (c.is y.data.toList = false) := by show _ = _; unfold Cu.is; simp [he]
  clear he hr HP;go_enter Tryz.func62, Tryz.ntmps62;go_wp2_with fail;go_ret;exact ⟨by rw [hR.out]; rfl, hBa⟩
theorem rN {w : World} {b0 b1 b2 : Nat} {t0 t1 t2 : TypeId} {x0 x1 x2 x3 x4 x5 x6 x7 y0 y1 y2 y3 y4 y5 y6 y7 z0 z1 z2 z3 : Value}
  (h0 : w.heap[b0]? = some (.cells #[x0, x1, x2, x3, x4, x5, x6, x7] t0 (0, 0))) (h1 : w.heap[b1]? = some (.cells #[y0, y1, y2, y3, y4, y5, y6, y7] t1 (0, 0))) (h2 : w.heap[b2]? = some (.cells #[z0, z1, z2, z3] t2 (0, 0))) :
  (w.cell? ⟨b0, 0, none⟩ = some x0 /\ w.cell? ⟨b0, 1, none⟩ = some x1 /\ w.cell? ⟨b0, 2, none⟩ = some x2 /\ w.cell? ⟨b0, 3, none⟩ = some x3 /\ w.cell? ⟨b0, 4, none⟩ = some x4 /\ w.cell? ⟨b0, 5, none⟩ = some x5 /\ w.cell? ⟨b0, 6, none⟩ = some x6 /\ w.cell? ⟨b0, 7, none⟩ = some x7) /\
  (w.cell? ⟨b1, 0, none⟩ = some y0 /\ w.cell? ⟨b1, 1, none⟩ = some y1 /\ w.cell? ⟨b1, 2, none⟩ = some y2 /\ w.cell? ⟨b1, 3, none⟩ = some y3 /\ w.cell? ⟨b1, 4, none⟩ = some y4 /\ w.cell? ⟨b1, 5, none⟩ = some y5 /\ w.cell? ⟨b1, 6, none⟩ = some y6 /\ w.cell? ⟨b1, 7, none⟩ = some y7) /\
  (w.cell? ⟨b2, 0, none⟩ = some z0 /\ w.cell? ⟨b2, 1, none⟩ = some z1 /\ w.cell? ⟨b2, 2, none⟩ = some z2 /\ w.cell? ⟨b2, 3, none⟩ = some z3) := by
 refine ⟨⟨?_, ?_, ?_, ?_, ?_, ?_, ?_, ?_⟩, ⟨?_, ?_, ?_, ?_, ?_, ?_, ?_, ?_⟩, ⟨?_, ?_, ?_, ?_⟩⟩ <;> simp [World.cell?, h0, h1, h2]
theorem tV {w : World} {b1 b2 : Nat} {t1 t2 : TypeId} {ys zs : Array Value} (h1 : w.heap[b1]? = some (.cells ys t1 (0, 0))) (h2 : w.heap[b2]? = some (.cells zs t2 (0, 0))) :
  (w.frozen? ⟨b1, 0, none⟩ = false /\ w.frozen? ⟨b1, 1, none⟩ = false /\ w.frozen? ⟨b1, 2, none⟩ = false /\ w.frozen? ⟨b1, 3, none⟩ = false /\ w.frozen? ⟨b1, 4, none⟩ = false /\ w.frozen? ⟨b1, 5, none⟩ = false /\ w.frozen? ⟨b1, 6, none⟩ = false /\ w.frozen? ⟨b1, 7, none⟩ = false) /\
  (w.frozen? ⟨b2, 0, none⟩ = false /\ w.frozen? ⟨b2, 1, none⟩ = false /\ w.frozen? ⟨b2, 2, none⟩ = false /\ w.frozen? ⟨b2, 3, none⟩ = false) := by
 refine ⟨⟨?_, ?_, ?_, ?_, ?_, ?_, ?_, ?_⟩, ⟨?_, ?_, ?_, ?_⟩⟩ <;> simp [World.frozen?, h1, h2]
theorem xW.tail {n : Nat} {w : World} {g o k cap : Nat} {xs : List Tk} (h : xW n w (.slice (some ⟨g, o, none⟩) (k + 1) cap) xs) : xW n w (.slice (some ⟨g, o + 4, none⟩) k (cap - 1)) (xs.drop 1) := by
 obtain ⟨a, cap', h1, hc, h2⟩ := h;injection h1 with h3 h4 h5
 subst h5;have hl : k = (xs.drop 1).length := by rw [List.length_drop]; omega
 refine ⟨_, cap - 1, by rw [hl], by omega, ?_⟩;rcases h2 with h2 | ⟨g', o', h6, h7, h8⟩
 ·
  rw [h2] at h4; simp at h4
 ·
  rw [h6] at h3; injection h3 with h3; injection h3 with h9 h10
  subst h9 h10;refine .inr ⟨g, o + 4, rfl, h7, fun j hj => ?_⟩;have hj' : j + 1 < xs.length := by rw [List.length_drop] at hj; omega
  have := h8 (j + 1) hj';unfold tX at this ⊢;rw [show o + (j + 1) * 4 = o + 4 + j * 4 by omega] at this;rw [List.getElem_drop];simpa [Nat.add_comm] using this
theorem zX {P Q : Prop} (h : P) (k : P -> Q) : Q := k h
def nZ (n : Nat) (c : Cu) (r : Value) (w : World) (e : Ending) (w' : World) : Prop := ∃ x, e = .returned (.tuple #[x, r]) /\ zF n w' x c /\ Below w.heap.size w w'
def eH (n : Nat) (c : Cu) (w : World) (e : Ending) (w' : World) : Prop := ∃ x, e = .returned x /\ zF n w' x c /\ Below w.heap.size w w'
theorem qL {n : Nat} {w : World} {x : Value} {c : Cu} (h : zF n w x c) (hn : n <= w.heap.size) : Calls Tryz.prog 61 #[x] w (nZ n c.adv c.peek.val w) := by
 obtain ⟨a, ln, cap, rfl, hr, hln⟩ := h.shape;clear h;have hBa : Below w.heap.size w (((w.alloc (tG (.slice a ln cap) c)).alloc qR).alloc sA) := (((Below.refl _ w).alloc (Nat.le_refl _) _).alloc (by simp) _).alloc (by simp; omega) _;have HP := tW (n := n) (w := ((w.alloc (tG (.slice a ln cap) c)).alloc qR).alloc sA) (c := c) ⟨_, rfl, hr.out.below (hBa.mono hn)⟩ (by simp; omega);have hv : c.peek.val = .agg #[.int .i64 c.peek.kind, .int .i64 c.peek.pos, .int .i64 c.peek.num, .string ⟨c.peek.text.toArray⟩] := rfl;rw [hv] at HP ⊢;generalize c.peek = t at *;have own : ∀ w9, Below (((w.alloc (tG (.slice a ln cap) c)).alloc qR).alloc sA).heap.size (((w.alloc (tG (.slice a ln cap) c)).alloc qR).alloc sA) w9 -> w9.heap[w.heap.size]? = some (.cells (zK (.slice a ln cap) c.ep (c.nest : Int) c.err c.pos) 40 (0, 0)) /\ w9.heap[w.heap.size + 1]? = some (.cells (zK (.slice none 0 0) 0 0 0 0) 40 (0, 0)) /\ w9.heap[w.heap.size + 1 + 1]? = some (.cells #[.int .i64 0, .int .i64 0, .int .i64 0, .string ⟨#[]⟩] 38 (0, 0)) := fun w9 h9 => by
  refine ⟨(h9.block _ (by simp; omega)).trans ?_, (h9.block _ (by simp)).trans ?_, (h9.block _ (by simp)).trans ?_⟩
  ·
   exact ((Below.heap_alloc _ _ _ (by simp; omega)).trans (Below.heap_alloc _ _ _ (by simp))).trans (World.alloc_heap_new w _)
  ·
   refine (Below.heap_alloc _ _ _ (by simp)).trans ?_;have := World.alloc_heap_new (w.alloc (tG (.slice a ln cap) c)) qR;rwa [World.size_alloc] at this
  ·
   have := World.alloc_heap_new ((w.alloc (tG (.slice a ln cap) c)).alloc qR) sA;rwa [World.size_alloc, World.size_alloc] at this
 have hcase : (((c.err == 0) = false \/ ((c.err == 0) = true /\ decide (0 < ln) = false)) /\ Hid (c.adv = c)) \/ ((c.err == 0) = true /\ c.err = 0 /\ 0 < ln) := by
  by_cases he : c.err = 0
  ·
   by_cases hl : 0 < ln
   ·
    exact .inr ⟨by rw [he]; rfl, he, hl⟩
   ·
    refine .inl ⟨.inr ⟨by rw [he]; rfl, by simp; omega⟩, ?_⟩;show _ = _;unfold Cu.adv;rw [if_neg];intro q;have := hln.out;rw [List.length_drop] at this;omega
  ·
   refine .inl ⟨.inl (by rw [beq_eq_false_iff_ne]; exact he), ?_⟩;show _ = _;unfold Cu.adv;rw [if_neg (fun q => he q.1)]
 rcases hcase with ⟨hb, hR⟩ | ⟨hb, he, hl⟩
 ·
  clear hv hln;rcases hb with hb | ⟨hb, hb2⟩
  all_goals (
   go_enter Tryz.func61, Tryz.ntmps61
   go_wp2_with fail
   refine HP.mono ?_; rintro e w2 ⟨rfl, hB2⟩
   clear HP
   have hBt := hB2.alloc hB2.size (.cells #[.int .i64 t.kind, .int .i64 t.pos, .int .i64 t.num, .string ⟨t.text.toArray⟩] 38)
   obtain ⟨o1, o2, o3⟩ := own _ hBt
   obtain ⟨⟨x0, x1, x2, x3, x4, x5, x6, x7⟩, ⟨y0, y1, y2, y3, y4, y5, y6, y7⟩, ⟨z0, z1, z2, z3⟩⟩ := rN o1 o2 o3
   obtain ⟨⟨g0, g1, g2, g3, g4, g5, g6, g7⟩, ⟨f0, f1, f2, f3⟩⟩ := tV o2 o3
   have hfin := zS hBa hBt
   have hT3 : w.heap.size + 1 + 1 < w2.heap.size := by have := hB2.size; simp at this; omega
   have u0 : (w2.alloc (.cells #[.int .i64 t.kind, .int .i64 t.pos, .int .i64 t.num, .string ⟨t.text.toArray⟩] 38)).cell? ⟨w2.heap.size, 0, none⟩ = some (.int .i64 t.kind) := by rw [World.cell?_alloc_at _ _ _ _ rfl]; rfl
   have u1 : (w2.alloc (.cells #[.int .i64 t.kind, .int .i64 t.pos, .int .i64 t.num, .string ⟨t.text.toArray⟩] 38)).cell? ⟨w2.heap.size, 1, none⟩ = some (.int .i64 t.pos) := by rw [World.cell?_alloc_at _ _ _ _ rfl]; rfl
   have u2 : (w2.alloc (.cells #[.int .i64 t.kind, .int .i64 t.pos, .int .i64 t.num, .string ⟨t.text.toArray⟩] 38)).cell? ⟨w2.heap.size, 2, none⟩ = some (.int .i64 t.num) := by rw [World.cell?_alloc_at _ _ _ _ rfl]; rfl
   have u3 : (w2.alloc (.cells #[.int .i64 t.kind, .int .i64 t.pos, .int .i64 t.num, .string ⟨t.text.toArray⟩] 38)).cell? ⟨w2.heap.size, 3, none⟩ = some (.string ⟨t.text.toArray⟩) := by rw [World.cell?_alloc_at _ _ _ _ rfl]; rfl
   clear o1 o2 o3 own hBt hB2
   go_wp2_with fail
   generalize (w2.alloc (.cells #[.int .i64 t.kind, .int .i64 t.pos, .int .i64 t.num, .string ⟨t.text.toArray⟩] 38)) = W at *
   generalize w2.heap.size = T at *
   have n1 : T ≠ w.heap.size + 1 := by omega
   have n2 : T ≠ w.heap.size + 1 + 1 := by omega
   have n3 : w.heap.size + 1 ≠ T := by omega
   have n4 : w.heap.size + 1 + 1 ≠ T := by omega
   have n5 : T ≠ w.heap.size := by omega
   go_region
   all_goals (
    go_wp2_with fail
    refine bodyPost_ret (v := .tuple #[.agg (zK (.slice a ln cap) c.ep c.nest c.err c.pos), .agg #[.int .i64 t.kind, .int .i64 t.pos, .int .i64 t.num, .string ⟨t.text.toArray⟩]]) (by simp [results, Tryz.results61, go_sem, y0, y1, y2, y3, y4, y5, y6, y7, z0, z1, z2, z3]) rfl ?_
    refine zX (P := Below w.heap.size w _) ?_ fun hF => ⟨_, rfl, ?_, hF⟩
    ·
     refine Below.drew ?_;repeat refine Below.setCell ?_ (by dsimp only; omega) _
     exact hfin
    ·
     rw [hR.out];exact ⟨_, rfl, hr.out.below (hF.mono hn)⟩))
 ·
  have hadv : Hid (c.adv = { c with at' := c.at' + 1 }) := by
   show _ = _;unfold Cu.adv;rw [if_pos];have := hln.out;rw [List.length_drop] at this;exact ⟨he, by omega⟩
  obtain ⟨k, rfl⟩ : ∃ k, ln = k + 1 := ⟨ln - 1, by omega⟩;obtain ⟨g, o, rfl⟩ : ∃ g o, a = some ⟨g, o, none⟩ := by
   obtain ⟨a', cap', h1, _, h2⟩ := hr.out;rcases h2 with h2 | ⟨g, o, h3, _⟩
   ·
    rw [h2] at hln; have := hln.out; simp at this
   ·
    injection h1 with h1; exact ⟨g, o, by rw [h1, h3]⟩
  have hk1 : decide (0 < k + 1) = true := by simp
  clear he hl hv;have hcap : k + 1 <= cap := by
   obtain ⟨a', cap', h1, h2, _⟩ := hr.out;injection h1 with _ h3 h4
   omega
  rcases Nat.decEq cap 1 with hc1 | hc1
  ·
   go_enter Tryz.func61, Tryz.ntmps61;go_wp2_with fail;refine HP.mono ?_; rintro e w2 ⟨rfl, hB2⟩;clear HP;have hBt := hB2.alloc hB2.size (.cells #[.int .i64 t.kind, .int .i64 t.pos, .int .i64 t.num, .string ⟨t.text.toArray⟩] 38);obtain ⟨o1, o2, o3⟩ := own _ hBt;obtain ⟨⟨x0, x1, x2, x3, x4, x5, x6, x7⟩, ⟨y0, y1, y2, y3, y4, y5, y6, y7⟩, ⟨z0, z1, z2, z3⟩⟩ := rN o1 o2 o3;obtain ⟨⟨g0, g1, g2, g3, g4, g5, g6, g7⟩, ⟨f0, f1, f2, f3⟩⟩ := tV o2 o3;have q0 := (tV o1 o3).1.1;have hfin := zS hBa hBt;have hT3 : w.heap.size + 1 + 1 < w2.heap.size := by have := hB2.size; simp at this; omega
   have u0 : (w2.alloc (.cells #[.int .i64 t.kind, .int .i64 t.pos, .int .i64 t.num, .string ⟨t.text.toArray⟩] 38)).cell? ⟨w2.heap.size, 0, none⟩ = some (.int .i64 t.kind) := by rw [World.cell?_alloc_at _ _ _ _ rfl]; rfl
   have u1 : (w2.alloc (.cells #[.int .i64 t.kind, .int .i64 t.pos, .int .i64 t.num, .string ⟨t.text.toArray⟩] 38)).cell? ⟨w2.heap.size, 1, none⟩ = some (.int .i64 t.pos) := by rw [World.cell?_alloc_at _ _ _ _ rfl]; rfl
   have u2 : (w2.alloc (.cells #[.int .i64 t.kind, .int .i64 t.pos, .int .i64 t.num, .string ⟨t.text.toArray⟩] 38)).cell? ⟨w2.heap.size, 2, none⟩ = some (.int .i64 t.num) := by rw [World.cell?_alloc_at _ _ _ _ rfl]; rfl
   have u3 : (w2.alloc (.cells #[.int .i64 t.kind, .int .i64 t.pos, .int .i64 t.num, .string ⟨t.text.toArray⟩] 38)).cell? ⟨w2.heap.size, 3, none⟩ = some (.string ⟨t.text.toArray⟩) := by rw [World.cell?_alloc_at _ _ _ _ rfl]; rfl
   clear o1 o2 o3 own hBt hB2;go_wp2_with fail;generalize (w2.alloc (.cells #[.int .i64 t.kind, .int .i64 t.pos, .int .i64 t.num, .string ⟨t.text.toArray⟩] 38)) = W at *;generalize w2.heap.size = T at *;have n1 : T ≠ w.heap.size + 1 := by omega
   have n2 : T ≠ w.heap.size + 1 + 1 := by omega
   have n3 : w.heap.size + 1 ≠ T := by omega
   have n4 : w.heap.size + 1 + 1 ≠ T := by omega
   have n5 : T ≠ w.heap.size := by omega
   have n6 : w.heap.size ≠ T := by omega
   go_region;all_goals (
    go_wp2_with fail
    refine bodyPost_ret (v := .tuple #[.agg (zK (.slice (some ⟨g, o + 4, none⟩) k (cap - 1)) c.ep c.nest c.err c.pos), .agg #[.int .i64 t.kind, .int .i64 t.pos, .int .i64 t.num, .string ⟨t.text.toArray⟩]]) (by simp [results, Tryz.results61, go_sem, y0, y1, y2, y3, y4, y5, y6, y7, z0, z1, z2, z3]) rfl ?_
    refine zX (P := Below w.heap.size w _) ?_ fun hF => ⟨_, rfl, ?_, hF⟩
    ·
     refine Below.drew ?_;repeat refine Below.setCell ?_ (by dsimp only; omega) _
     exact hfin
    ·
     rw [hadv.out];refine ⟨_, rfl, xW.below ?_ (hF.mono hn)⟩;have := hr.out.tail;rwa [List.drop_drop] at this)
  ·
   obtain rfl : k = 0 := by omega
   subst hc1;go_enter Tryz.func61, Tryz.ntmps61;go_wp2_with fail;refine HP.mono ?_; rintro e w2 ⟨rfl, hB2⟩;clear HP;have hBt := hB2.alloc hB2.size (.cells #[.int .i64 t.kind, .int .i64 t.pos, .int .i64 t.num, .string ⟨t.text.toArray⟩] 38);obtain ⟨o1, o2, o3⟩ := own _ hBt;obtain ⟨⟨x0, x1, x2, x3, x4, x5, x6, x7⟩, ⟨y0, y1, y2, y3, y4, y5, y6, y7⟩, ⟨z0, z1, z2, z3⟩⟩ := rN o1 o2 o3;obtain ⟨⟨g0, g1, g2, g3, g4, g5, g6, g7⟩, ⟨f0, f1, f2, f3⟩⟩ := tV o2 o3;have q0 := (tV o1 o3).1.1;have hfin := zS hBa hBt;have hT3 : w.heap.size + 1 + 1 < w2.heap.size := by have := hB2.size; simp at this; omega
   have u0 : (w2.alloc (.cells #[.int .i64 t.kind, .int .i64 t.pos, .int .i64 t.num, .string ⟨t.text.toArray⟩] 38)).cell? ⟨w2.heap.size, 0, none⟩ = some (.int .i64 t.kind) := by rw [World.cell?_alloc_at _ _ _ _ rfl]; rfl
   have u1 : (w2.alloc (.cells #[.int .i64 t.kind, .int .i64 t.pos, .int .i64 t.num, .string ⟨t.text.toArray⟩] 38)).cell? ⟨w2.heap.size, 1, none⟩ = some (.int .i64 t.pos) := by rw [World.cell?_alloc_at _ _ _ _ rfl]; rfl
   have u2 : (w2.alloc (.cells #[.int .i64 t.kind, .int .i64 t.pos, .int .i64 t.num, .string ⟨t.text.toArray⟩] 38)).cell? ⟨w2.heap.size, 2, none⟩ = some (.int .i64 t.num) := by rw [World.cell?_alloc_at _ _ _ _ rfl]; rfl
   have u3 : (w2.alloc (.cells #[.int .i64 t.kind, .int .i64 t.pos, .int .i64 t.num, .string ⟨t.text.toArray⟩] 38)).cell? ⟨w2.heap.size, 3, none⟩ = some (.string ⟨t.text.toArray⟩) := by rw [World.cell?_alloc_at _ _ _ _ rfl]; rfl
   clear o1 o2 o3 own hBt hB2;go_wp2_with fail;generalize (w2.alloc (.cells #[.int .i64 t.kind, .int .i64 t.pos, .int .i64 t.num, .string ⟨t.text.toArray⟩] 38)) = W at *;generalize w2.heap.size = T at *;have n1 : T ≠ w.heap.size + 1 := by omega
   have n2 : T ≠ w.heap.size + 1 + 1 := by omega
   have n3 : w.heap.size + 1 ≠ T := by omega
   have n4 : w.heap.size + 1 + 1 ≠ T := by omega
   have n5 : T ≠ w.heap.size := by omega
   have n6 : w.heap.size ≠ T := by omega
   go_region;all_goals (
    go_wp2_with fail
    refine bodyPost_ret (v := .tuple #[.agg (zK (.slice (some ⟨g, o, none⟩) 0 0) c.ep c.nest c.err c.pos), .agg #[.int .i64 t.kind, .int .i64 t.pos, .int .i64 t.num, .string ⟨t.text.toArray⟩]]) (by simp [results, Tryz.results61, go_sem, y0, y1, y2, y3, y4, y5, y6, y7, z0, z1, z2, z3]) rfl ?_
    refine zX (P := Below w.heap.size w _) ?_ fun hF => ⟨_, rfl, ?_, hF⟩
    ·
     refine Below.drew ?_;repeat refine Below.setCell ?_ (by dsimp only; omega) _
     exact hfin
    ·
     rw [hadv.out];refine ⟨_, rfl, xW.below ?_ (hF.mono hn)⟩;have hd := hln.out;rw [List.length_drop] at hd;have : c.ws.drop (c.at' + 1) = [] := List.drop_eq_nil_iff.2 (by omega);show xW n w _ (c.ws.drop (c.at' + 1));rw [this];exact ⟨_, 0, rfl, Nat.le_refl _, .inl rfl⟩)
end Go.Proofs.YtdjomhbmhooceaaGreat.N5
namespace Go.Proofs.YtdjomhbmhooceaaGreat.N5
open Go.RowKit
attribute [local go_sem] xB xA
theorem vA {w w9 : World} {xs ys : Array Value} {t0 t1 : TypeId} {n : Nat} (h9 : Below n ((w.alloc (.cells xs t0)).alloc (.cells ys t1)) w9) (hn : w.heap.size + 1 < n) : w9.heap[w.heap.size]? = some (.cells xs t0 (0, 0)) /\ w9.heap[w.heap.size + 1]? = some (.cells ys t1 (0, 0)) := by
 refine ⟨(h9.block _ (by omega)).trans ?_, (h9.block _ hn).trans ?_⟩
 ·
  exact (Below.heap_alloc _ _ _ (by simp)).trans (World.alloc_heap_new w _)
 ·
  have := World.alloc_heap_new (w.alloc (.cells xs t0)) (.cells ys t1);rwa [World.size_alloc] at this
theorem zB {w : World} {b0 : Nat} {t0 : TypeId} {x0 x1 x2 x3 x4 x5 x6 x7 : Value} (h0 : w.heap[b0]? = some (.cells #[x0, x1, x2, x3, x4, x5, x6, x7] t0 (0, 0))) :
  (w.cell? ⟨b0, 0, none⟩ = some x0 /\ w.cell? ⟨b0, 1, none⟩ = some x1 /\ w.cell? ⟨b0, 2, none⟩ = some x2 /\ w.cell? ⟨b0, 3, none⟩ = some x3 /\ w.cell? ⟨b0, 4, none⟩ = some x4 /\ w.cell? ⟨b0, 5, none⟩ = some x5 /\ w.cell? ⟨b0, 6, none⟩ = some x6 /\ w.cell? ⟨b0, 7, none⟩ = some x7) /\
  (w.frozen? ⟨b0, 0, none⟩ = false /\ w.frozen? ⟨b0, 1, none⟩ = false /\ w.frozen? ⟨b0, 2, none⟩ = false /\ w.frozen? ⟨b0, 3, none⟩ = false /\ w.frozen? ⟨b0, 4, none⟩ = false /\ w.frozen? ⟨b0, 5, none⟩ = false /\ w.frozen? ⟨b0, 6, none⟩ = false /\ w.frozen? ⟨b0, 7, none⟩ = false) := by
 refine ⟨⟨?_, ?_, ?_, ?_, ?_, ?_, ?_, ?_⟩, ⟨?_, ?_, ?_, ?_, ?_, ?_, ?_, ?_⟩⟩ <;> simp [World.cell?, World.frozen?, h0]
theorem uD {n : Nat} {w : World} {x : Value} {c : Cu} (h : zF n w x c) (hn : n <= w.heap.size) (k : Int) : Calls Tryz.prog 60 #[x, .int .i64 k] w (eH n (c.fail k) w) := by
 obtain ⟨a, ln, cap, rfl, hr, -⟩ := h.shape;clear h;have hBa : Below w.heap.size w ((w.alloc (tG (.slice a ln cap) c)).alloc qR) := ((Below.refl _ w).alloc (Nat.le_refl _) _).alloc (by simp) _;have HP := tW (n := n) (w := (w.alloc (tG (.slice a ln cap) c)).alloc qR) (c := c) ⟨_, rfl, hr.out.below (hBa.mono hn)⟩ (by simp; omega);by_cases he : c.err = 0
 ·
  have hb : (c.err != 0) = false := by rw [he]; rfl
  have hpk : c.peek = c.tok c.at' := by unfold Cu.peek; rw [if_pos he]
  have hv : (c.tok c.at').val = .agg #[.int .i64 (c.tok c.at').kind, .int .i64 (c.tok c.at').pos, .int .i64 (c.tok c.at').num, .string ⟨(c.tok c.at').text.toArray⟩] := rfl;rw [hpk, hv] at HP;have hR : Hid (c.fail k = { c with pos := (c.tok c.at').pos, err := if k = 0 then 1 else k }) := by show _ = _; unfold Cu.fail; rw [if_pos he]
  generalize c.tok c.at' = t at *;clear he hpk hv;have hcase : ∃ k', Hid ((if k = 0 then 1 else k) = k') /\ (((k == 0) = true /\ k' = 1) \/ ((k == 0) = false /\ k' = k)) := by
   by_cases h0 : k = 0
   ·
    exact ⟨1, by show _ = _; rw [if_pos h0], .inl ⟨by rw [h0]; rfl, rfl⟩⟩
   ·
    exact ⟨k, by show _ = _; rw [if_neg h0], .inr ⟨by rw [beq_eq_false_iff_ne]; exact h0, rfl⟩⟩
  obtain ⟨k', hk', hcase⟩ := hcase;rcases hcase with ⟨hkb, rfl⟩ | ⟨hkb, rfl⟩
  all_goals (
   go_enter Tryz.func60, Tryz.ntmps60
   go_wp2_with fail
   refine HP.mono ?_; rintro e w2 ⟨rfl, hB2⟩
   clear HP
   obtain ⟨o1, o2⟩ := vA hB2 (by simp)
   obtain ⟨⟨x0, x1, x2, x3, x4, x5, x6, x7⟩, ⟨-, -, -, -, -, -, f6, f7⟩⟩ := zB o1
   obtain ⟨⟨y0, y1, y2, y3, y4, y5, y6, y7⟩, ⟨g0, g1, g2, g3, g4, g5, g6, g7⟩⟩ := zB o2
   have hfin := zS hBa hB2
   clear o1 o2 hB2
   go_wp2_with fail
   refine bodyPost_ret (v := .agg (zK (.slice a ln cap) c.ep c.nest _ t.pos)) (by simp [results, Tryz.results60, go_sem, y0, y1, y2, y3, y4, y5, y6, y7]; rfl) rfl ?_
   refine zX (P := Below w.heap.size w _) ?_ fun hF => ⟨_, rfl, ?_, hF⟩
   ·
    repeat refine Below.setCell ?_ (by dsimp only; omega) _
    exact hfin
   ·
    rw [hR.out, hk'.out];exact ⟨_, rfl, hr.out.below (hF.mono hn)⟩)
 ·
  have hb : (c.err != 0) = true := by rw [bne_iff_ne]; exact he
  have hR : Hid (c.fail k = c) := by show _ = _; unfold Cu.fail; rw [if_neg he]
  clear he HP;go_enter Tryz.func60, Tryz.ntmps60;go_wp2_with fail;refine bodyPost_ret (v := .agg (zK (.slice a ln cap) c.ep c.nest c.err c.pos)) (by simp [results, Tryz.results60, go_sem]) rfl ?_;refine zX (P := Below w.heap.size w _) ?_ fun hF => ⟨_, rfl, ?_, hF⟩
  ·
   exact ((Below.refl _ w).alloc (Nat.le_refl _) _).alloc (by simp) _
  ·
   rw [hR.out];exact ⟨_, rfl, hr.out.below (hF.mono hn)⟩
end Go.Proofs.YtdjomhbmhooceaaGreat.N5
namespace Go.Proofs.YtdjomhbmhooceaaGreat.N5
open Go.RowKit
attribute [local go_sem] xB xA
theorem wW {n : Nat} {w : World} {x : Value} {c : Cu} (h : zF n w x c) (hn : n <= w.heap.size) (hok : yZ c) : Calls Tryz.prog 38 #[x] w (eH n c.leave w) := by
 obtain ⟨a, ln, cap, rfl, hr, -⟩ := h.shape;have hdeep := hok.deep;clear h hok;have hcase : (((c.err == 0) = false \/ ((c.err == 0) = true /\ decide (0 < c.nest) = false)) /\ Hid (c.leave = c)) \/ ((c.err == 0) = true /\ decide (0 < c.nest) = true /\ 0 < c.nest /\ Hid (c.leave = { c with nest := c.nest - 1 })) := by
  by_cases he : c.err = 0
  ·
   by_cases hl : 0 < c.nest
   ·
    exact .inr ⟨by rw [he]; rfl, by simp [hl], hl, by show _ = _; unfold Cu.leave; rw [if_pos he]⟩
   ·
    refine .inl ⟨.inr ⟨by rw [he]; rfl, by simp; omega⟩, ?_⟩;show _ = _;have h0 : c.nest = 0 := by omega
    unfold Cu.leave; rw [if_pos he, h0];show ({ c with nest := 0 } : Cu) = c;rw [<- h0]
  ·
   exact .inl ⟨.inl (by rw [beq_eq_false_iff_ne]; exact he), by show _ = _; unfold Cu.leave; rw [if_neg he]⟩
 rcases hcase with ⟨hb, hR⟩ | ⟨hb, hb2, hl, hR⟩
 ·
  rcases hb with hb | ⟨hb, hb2⟩
  all_goals (
   go_enter Tryz.func38, Tryz.ntmps38
   go_wp2_with fail
   refine bodyPost_ret (v := .agg (zK (.slice a ln cap) c.ep c.nest c.err c.pos)) (by simp [results, Tryz.results38, go_sem]) rfl ?_
   refine zX (P := Below w.heap.size w _) ?_ fun hF => ⟨_, rfl, ?_, hF⟩
   ·
    exact ((Below.refl _ w).alloc (Nat.le_refl _) _).alloc (by simp) _
   ·
    rw [hR.out];exact ⟨_, rfl, hr.out.below (hF.mono hn)⟩)
 ·
  have hc1 : ((c.nest : Int) - 1) = ((c.nest - 1 : Nat) : Int) := by omega
  go_enter Tryz.func38, Tryz.ntmps38;go_wp2_with fail;refine bodyPost_ret (v := .agg (zK (.slice a ln cap) c.ep ((c.nest - 1 : Nat) : Int) c.err c.pos)) (by simp [results, Tryz.results38, go_sem]) rfl ?_;refine zX (P := Below w.heap.size w _) ?_ fun hF => ⟨_, rfl, ?_, hF⟩
  ·
   exact ((Below.refl _ w).alloc (Nat.le_refl _) _).alloc (by simp) _
  ·
   rw [hR.out];exact ⟨_, rfl, hr.out.below (hF.mono hn)⟩
theorem sZ {n : Nat} {w : World} {x : Value} {c : Cu} (h : zF n w x c) (hn : n <= w.heap.size) (hok : yZ c) : Calls Tryz.prog 17 #[x] w (aW c.doneP c.doneE w) := by
 obtain ⟨a, ln, cap, rfl, hr, hln⟩ := h.shape;clear h;have hBa : Below w.heap.size w (w.alloc (tG (.slice a ln cap) c)) := (Below.refl _ w).alloc (Nat.le_refl _) _;by_cases he : c.err = 0
 ·
  have hb : (c.err != 0) = false := by rw [he]; rfl
  by_cases hl : c.at' < c.ws.length
  ·
   have hP : Hid (c.doneP = (c.tok c.at').pos) := by show _ = _; unfold Cu.doneP; rw [if_pos he]
   have ht : c.tok c.at' = c.ws[c.at'] := by unfold Cu.tok; rw [List.getD_eq_getElem?_getD, List.getElem?_eq_getElem hl]; rfl
   have hE : Hid (c.doneE = 5) := by show _ = _; unfold Cu.doneE; rw [if_pos he, ht, if_neg (hok.kinds _ (List.getElem_mem hl))]
   have hlen : (c.ws.drop c.at').length = c.ws.length - c.at' := List.length_drop;obtain ⟨k, rfl⟩ : ∃ k, ln = k + 1 := ⟨ln - 1, by have := hln.out; omega⟩;obtain ⟨g, o, rfl, hg, hc⟩ : ∃ g o, a = some ⟨g, o, none⟩ /\ g < n /\ tX w g o 0 (c.ws[c.at']) := by
    obtain ⟨a', cap', h1, _, h2⟩ := hr.out;rcases h2 with h2 | ⟨g, o, h3, h4, h5⟩
    ·
     rw [h2] at hln; have := hln.out; simp at this
    ·
     injection h1 with h1
     refine ⟨g, o, by rw [h1, h3], h4, ?_⟩;have := h5 0 (by omega);rwa [List.getElem_drop] at this
   obtain ⟨-, a1, -, -⟩ := hc;rw [Nat.zero_mul, Nat.add_zero] at a1;rw [ht] at hP;have b1 := (hBa.cell (p := ⟨g, o + 1, none⟩) (Nat.lt_of_lt_of_le hg hn)).trans a1;have hk1 : decide (0 < k + 1) = true := by simp
   generalize c.ws[c.at'].pos = p at *;clear he hl ht hr hln a1 hlen hok;go_enter Tryz.func17, Tryz.ntmps17;go_wp2_with fail;refine bodyPost_ret (v := .tuple #[.int .i64 p, .int .i64 5]) (by simp [results, Tryz.results17, go_sem]) rfl ⟨by rw [hP.out, hE.out], hBa⟩
  ·
   have hP : Hid (c.doneP = c.ep) := by show _ = _; unfold Cu.doneP; rw [if_pos he, qW (by omega)]
   have hE : Hid (c.doneE = 0) := by show _ = _; unfold Cu.doneE; rw [if_pos he, qW (by omega)]; rfl
   obtain rfl : ln = 0 := by have := hln.out; rw [List.length_drop] at this; omega
   clear he hl hr hln hok;go_enter Tryz.func17, Tryz.ntmps17;go_wp2_with fail;refine bodyPost_ret (v := .tuple #[.int .i64 c.ep, .int .i64 0]) (by simp [results, Tryz.results17, go_sem]) rfl ⟨by rw [hP.out, hE.out], hBa⟩
 ·
  have hb : (c.err != 0) = true := by rw [bne_iff_ne]; exact he
  have hP : Hid (c.doneP = c.pos) := by show _ = _; unfold Cu.doneP; rw [if_neg he]
  have hE : Hid (c.doneE = c.err) := by show _ = _; unfold Cu.doneE; rw [if_neg he]
  clear he hr hln hok;go_enter Tryz.func17, Tryz.ntmps17;go_wp2_with fail;go_quiet (fail);go_wp2_with fail;refine bodyPost_ret (v := .tuple #[.int .i64 c.pos, .int .i64 c.err]) (by simp [results, Tryz.results17, go_sem]) rfl ⟨by rw [hP.out, hE.out], _root_.Go.below_drewN hBa _⟩
end Go.Proofs.YtdjomhbmhooceaaGreat.N5
namespace Go.Proofs.YtdjomhbmhooceaaGreat.N5
open Go.RowKit
theorem gX (c : Cu) (he : c.err = 0) (hn : 200 <= c.nest) : c.enter = c.fail 2 := by unfold Cu.enter; rw [if_pos he, if_pos hn]
theorem jQ (c : Cu) (hn : 200 <= c.nest) : c.enters = false := by unfold Cu.enters; simp; omega
attribute [local go_sem] xB xA
theorem uF {n : Nat} {w : World} {x : Value} {c : Cu} (h : zF n w x c) (hn : n <= w.heap.size) (hok : yZ c) : Calls Tryz.prog 36 #[x] w (nZ n c.enter (.bool c.enters) w) := by
 obtain ⟨a, ln, cap, rfl, hr, -⟩ := h.shape;have hdeep := hok.deep;clear h hok;have hBa : Below w.heap.size w ((w.alloc (tG (.slice a ln cap) c)).alloc qR) := ((Below.refl _ w).alloc (Nat.le_refl _) _).alloc (by simp) _;by_cases he : c.err = 0
 ·
  have hb : (c.err != 0) = false := by rw [he]; rfl
  by_cases hf : 200 <= c.nest
  ·
   have hd : decide ((200 : Int) <= c.nest) = true := by simp; omega
   have hR : Hid (c.enter = c.fail 2) := gX c he hf;have hE : Hid (c.enters = false) := jQ c hf;have HF := uD (n := n) (w := (w.alloc (tG (.slice a ln cap) c)).alloc qR) (c := c) ⟨_, rfl, hr.out.below (hBa.mono hn)⟩ (by simp; omega) 2;clear he hf;go_enter Tryz.func36, Tryz.ntmps36;go_wp2_with fail;refine HF.mono ?_; rintro e w2 ⟨x', rfl, hx, hB2⟩;clear HF;obtain ⟨a', ln', cap', rfl, hr', -⟩ := hx.shape;obtain ⟨o1, o2⟩ := vA hB2 (by simp);obtain ⟨⟨y0, y1, y2, y3, y4, y5, y6, y7⟩, ⟨g0, g1, g2, g3, g4, g5, g6, g7⟩⟩ := zB o2;have hfin := zS hBa hB2;clear o1 o2 hB2 hx;go_wp2_with fail;refine bodyPost_ret (v := .tuple #[.agg (zK (.slice a' ln' cap') (c.fail 2).ep (c.fail 2).nest (c.fail 2).err (c.fail 2).pos), .bool false]) (by simp [results, Tryz.results36, go_sem, y0, y1, y2, y3, y4, y5, y6, y7]) rfl ?_;rw [hR.out, hE.out];have hB3 : Below w2.heap.size w2 w2 := Below.refl _ _;refine zX (P := Below n w2 _) ?_ fun hG => zX (P := Below w.heap.size w _) ?_ fun hF => ⟨_, rfl, ⟨_, rfl, hr'.out.below hG⟩, hF⟩
   ·
    repeat refine Below.setCell ?_ (by dsimp only; omega) _
    exact Below.refl _ _
   ·
    repeat refine Below.setCell ?_ (by dsimp only; omega) _
    exact hfin
  ·
   have hd : decide ((200 : Int) <= c.nest) = false := by simp; omega
   have hR : Hid (c.enter = { c with nest := c.nest + 1 }) := by show _ = _; unfold Cu.enter; rw [if_pos he, if_neg hf]
   have hE : Hid (c.enters = true) := by show _ = _; unfold Cu.enters; simp [he]; omega
   have hf' : c.nest < 200 := by omega
   clear he hf;go_enter Tryz.func36, Tryz.ntmps36;go_wp2_with fail;refine bodyPost_ret (v := .tuple #[.agg (zK (.slice a ln cap) c.ep ((c.nest + 1 : Nat) : Int) c.err c.pos), .bool true]) (by simp [results, Tryz.results36, go_sem]) rfl ?_;rw [hR.out, hE.out];refine zX (P := Below w.heap.size w _) ?_ fun hF => ⟨_, rfl, ⟨_, rfl, hr.out.below (hF.mono hn)⟩, hF⟩
   exact ((Below.refl _ w).alloc (Nat.le_refl _) _).alloc (by simp) _
 ·
  have hb : (c.err != 0) = true := by rw [bne_iff_ne]; exact he
  have hR : Hid (c.enter = c) := by show _ = _; unfold Cu.enter; rw [if_neg he]
  have hE : Hid (c.enters = false) := by show _ = _; unfold Cu.enters; simp [he]
  clear he;go_enter Tryz.func36, Tryz.ntmps36;go_wp2_with fail;refine bodyPost_ret (v := .tuple #[.agg (zK (.slice a ln cap) c.ep c.nest c.err c.pos), .bool false]) (by simp [results, Tryz.results36, go_sem]) rfl ?_;rw [hR.out, hE.out];refine zX (P := Below w.heap.size w _) ?_ fun hF => ⟨_, rfl, ⟨_, rfl, hr.out.below (hF.mono hn)⟩, hF⟩
  exact ((Below.refl _ w).alloc (Nat.le_refl _) _).alloc (by simp) _
theorem oQ {n : Nat} {w : World} {x : Value} {c : Cu} (h : zF n w x c) (hn : n <= w.heap.size) (y : ByteArray) : Calls Tryz.prog 30 #[x, .string y] w (nZ n (c.take y.data.toList) (.bool (c.is y.data.toList)) w) := by
 obtain ⟨a, ln, cap, rfl, hr, -⟩ := h.shape;clear h;have hBa : Below w.heap.size w ((w.alloc (tG (.slice a ln cap) c)).alloc qR) := ((Below.refl _ w).alloc (Nat.le_refl _) _).alloc (by simp) _;have HI := lU (n := n) (w := (w.alloc (tG (.slice a ln cap) c)).alloc qR) (c := c) ⟨_, rfl, hr.out.below (hBa.mono hn)⟩ (by simp; omega) y;cases hi : c.is y.data.toList with
 | false =>
  have hR : Hid (c.take y.data.toList = c) := by show _ = _; unfold Cu.take; rw [hi]; rfl
  rw [hi] at HI;clear hi;go_enter Tryz.func30, Tryz.ntmps30;go_wp2_with fail;refine HI.mono ?_; rintro e w2 ⟨rfl, hB2⟩;obtain ⟨o1, o2⟩ := vA hB2 (by simp);obtain ⟨⟨x0, x1, x2, x3, x4, x5, x6, x7⟩, -⟩ := zB o1;obtain ⟨⟨y0, y1, y2, y3, y4, y5, y6, y7⟩, ⟨g0, g1, g2, g3, g4, g5, g6, g7⟩⟩ := zB o2;have hfin := zS hBa hB2;clear o1 o2 hB2 HI;go_wp2_with fail;refine bodyPost_ret (v := .tuple #[.agg (zK (.slice a ln cap) c.ep c.nest c.err c.pos), .bool false]) (by simp [results, Tryz.results30, go_sem, y0, y1, y2, y3, y4, y5, y6, y7]) rfl ?_;rw [hR.out];refine zX (P := Below w.heap.size w _) ?_ fun hF => ⟨_, rfl, ⟨_, rfl, hr.out.below (hF.mono hn)⟩, hF⟩
  repeat refine Below.setCell ?_ (by dsimp only; omega) _
  exact hfin
 | true =>
  have hR : Hid (c.take y.data.toList = c.adv) := by show _ = _; unfold Cu.take Cu.adv; rw [hi, if_pos (wU hi)]; rfl
  rw [hi] at HI;clear hi;go_enter Tryz.func30, Tryz.ntmps30;go_wp2_with fail;refine HI.mono ?_; rintro e w2 ⟨rfl, hB2⟩;have hfin := zS hBa hB2;have HN := qL (n := n) (w := w2) (c := c) ⟨_, rfl, hr.out.below (hfin.mono hn)⟩ (Nat.le_trans hn hfin.size);obtain ⟨o1, o2⟩ := vA hB2 (by simp);obtain ⟨⟨x0, x1, x2, x3, x4, x5, x6, x7⟩, -⟩ := zB o1;clear o1 o2 HI;have hv : c.peek.val = .agg #[.int .i64 c.peek.kind, .int .i64 c.peek.pos, .int .i64 c.peek.num, .string ⟨c.peek.text.toArray⟩] := rfl;rw [hv] at HN;generalize c.peek = t at *;generalize c.adv = c' at *;clear hv;go_wp2_with fail;refine HN.mono ?_; rintro e w3 ⟨x', rfl, hx, hB3⟩;have hB23 := zS hB2 hB3;obtain ⟨a', ln', cap', rfl, hr', -⟩ := hx.shape;have hB4 := (hB23.alloc hB23.size (.cells (zK (.slice a' ln' cap') c'.ep c'.nest c'.err c'.pos) 40)).alloc (by have := hB23.size; simp at this ⊢; omega) (.cells #[.int .i64 t.kind, .int .i64 t.pos, .int .i64 t.num, .string ⟨t.text.toArray⟩] 38);have hB34 : Below w3.heap.size w3 ((w3.alloc (.cells (zK (.slice a' ln' cap') c'.ep c'.nest c'.err c'.pos) 40)).alloc (.cells #[.int .i64 t.kind, .int .i64 t.pos, .int .i64 t.num, .string ⟨t.text.toArray⟩] 38)) := ((Below.refl _ w3).alloc (Nat.le_refl _) _).alloc (by simp) _;obtain ⟨-, o2⟩ := vA hB4 (by simp);obtain ⟨⟨y0, y1, y2, y3, y4, y5, y6, y7⟩, ⟨g0, g1, g2, g3, g4, g5, g6, g7⟩⟩ := zB o2;obtain ⟨o3, -⟩ := vA (w := w3) (n := w3.heap.size + 2) (Below.refl _ ((w3.alloc (.cells (zK (.slice a' ln' cap') c'.ep c'.nest c'.err c'.pos) 40)).alloc (.cells #[.int .i64 t.kind, .int .i64 t.pos, .int .i64 t.num, .string ⟨t.text.toArray⟩] 38))) (by omega);obtain ⟨⟨u0, u1, u2, u3, u4, u5, u6, u7⟩, -⟩ := zB o3;have hfin2 := zS hBa hB4;have hn4 : n <= w3.heap.size := by have := hB23.size; simp at this; omega
  have hl3 : w.heap.size + 1 < w3.heap.size := by have := hB23.size; simp at this; omega
  clear o2 o3 x0 x1 x2 x3 x4 x5 x6 x7 HN hB4 hB23 hB2 hB3 hfin hx;go_wp2_with fail;refine bodyPost_ret (v := .tuple #[.agg (zK (.slice a' ln' cap') c'.ep c'.nest c'.err c'.pos), .bool true]) (by simp [results, Tryz.results30, go_sem, y0, y1, y2, y3, y4, y5, y6, y7]) rfl ?_;rw [hR.out];refine zX (P := Below n w3 _) ?_ fun hG => zX (P := Below w.heap.size w _) ?_ fun hF => ⟨_, rfl, ⟨_, rfl, hr'.out.below hG⟩, hF⟩
  ·
   repeat refine Below.setCell ?_ (by dsimp only; omega) _
   exact hB34.mono hn4
  ·
   repeat refine Below.setCell ?_ (by dsimp only; omega) _
   exact hfin2
end Go.Proofs.YtdjomhbmhooceaaGreat.N5
namespace Go.Proofs.YtdjomhbmhooceaaGreat.N5
open Go.RowKit
attribute [local go_sem] xB xA
theorem iQ {n : Nat} {w : World} {x : Value} {c : Cu} (h : zF n w x c) (hn : n <= w.heap.size) (y : ByteArray) : Calls Tryz.prog 33 #[x, .string y] w (nZ n (c.want y.data.toList) (.bool (c.is y.data.toList)) w) := by
 obtain ⟨a, ln, cap, rfl, hr, -⟩ := h.shape;clear h;have hBa : Below w.heap.size w ((w.alloc (tG (.slice a ln cap) c)).alloc qR) := ((Below.refl _ w).alloc (Nat.le_refl _) _).alloc (by simp) _;have HT := oQ (n := n) (w := (w.alloc (tG (.slice a ln cap) c)).alloc qR) (c := c) ⟨_, rfl, hr.out.below (hBa.mono hn)⟩ (by simp; omega) y;cases hi : c.is y.data.toList with
 | false =>
  have hR : Hid (c.want y.data.toList = c.fail 5) := by show _ = _; unfold Cu.want; rw [hi]; rfl
  rw [hi] at HT;clear hi;generalize c.take y.data.toList = c' at *;go_enter Tryz.func33, Tryz.ntmps33;go_wp2_with fail;refine HT.mono ?_; rintro e w2 ⟨x', rfl, hx, hB2⟩;obtain ⟨a', ln', cap', rfl, -, -⟩ := hx.shape;have hB4 := hB2.alloc hB2.size (.cells (zK (.slice a' ln' cap') c'.ep c'.nest c'.err c'.pos) 40);have hfin := zS hBa hB4;have HF := uD (n := n) (w := w2.alloc (.cells (zK (.slice a' ln' cap') c'.ep c'.nest c'.err c'.pos) 40)) (c := c) ⟨_, rfl, hr.out.below (hfin.mono hn)⟩ (Nat.le_trans hn hfin.size) 5;obtain ⟨o1, o2⟩ := vA hB4 (by simp);obtain ⟨⟨x0, x1, x2, x3, x4, x5, x6, x7⟩, -⟩ := zB o1;clear o1 o2 HT hx;go_wp2_with fail;refine HF.mono ?_; rintro e w3 ⟨x'', rfl, hx, hB3⟩;obtain ⟨a3, ln3, cap3, rfl, hr3, -⟩ := hx.shape;generalize c.fail 5 = cf at *;obtain ⟨-, o2⟩ := vA (hB4.trans (hB3.mono hB4.size)) (by simp);obtain ⟨⟨y0, y1, y2, y3, y4, y5, y6, y7⟩, ⟨g0, g1, g2, g3, g4, g5, g6, g7⟩⟩ := zB o2;have hfin3 := zS hfin hB3;clear o2 HF hx x0 x1 x2 x3 x4 x5 x6 x7 hB2 hB3 hB4;go_wp2_with fail;refine bodyPost_ret (v := .tuple #[.agg (zK (.slice a3 ln3 cap3) cf.ep cf.nest cf.err cf.pos), .bool false]) (by simp [results, Tryz.results33, go_sem, y0, y1, y2, y3, y4, y5, y6, y7]) rfl ?_;rw [hR.out];refine zX (P := Below n w3 _) ?_ fun hG => zX (P := Below w.heap.size w _) ?_ fun hF => ⟨_, rfl, ⟨_, rfl, hr3.out.below hG⟩, hF⟩
  ·
   repeat refine Below.setCell ?_ (by dsimp only; omega) _
   exact Below.refl _ _
  ·
   repeat refine Below.setCell ?_ (by dsimp only; omega) _
   exact hfin3
 | true =>
  have hR : Hid (c.want y.data.toList = c.take y.data.toList) := by show _ = _; unfold Cu.want; rw [hi]; rfl
  rw [hi] at HT;clear hi;generalize c.take y.data.toList = c' at *;go_enter Tryz.func33, Tryz.ntmps33;go_wp2_with fail;refine HT.mono ?_; rintro e w2 ⟨x', rfl, hx, hB2⟩;obtain ⟨a', ln', cap', rfl, hr', -⟩ := hx.shape;have hB4 := hB2.alloc hB2.size (.cells (zK (.slice a' ln' cap') c'.ep c'.nest c'.err c'.pos) 40);have hB24 : Below w2.heap.size w2 (w2.alloc (.cells (zK (.slice a' ln' cap') c'.ep c'.nest c'.err c'.pos) 40)) := (Below.refl _ w2).alloc (Nat.le_refl _) _;have hfin := zS hBa hB4;obtain ⟨-, o2⟩ := vA hB4 (by simp);obtain ⟨⟨y0, y1, y2, y3, y4, y5, y6, y7⟩, ⟨g0, g1, g2, g3, g4, g5, g6, g7⟩⟩ := zB o2;obtain ⟨⟨u0, u1, u2, u3, u4, u5, u6, u7⟩, -⟩ := zB (World.alloc_heap_new w2 (.cells (zK (.slice a' ln' cap') c'.ep c'.nest c'.err c'.pos) 40));have hn2 : n <= w2.heap.size := by have := hB2.size; simp at this; omega
  clear o2 HT hx hB2 hB4;go_wp2_with fail;refine bodyPost_ret (v := .tuple #[.agg (zK (.slice a' ln' cap') c'.ep c'.nest c'.err c'.pos), .bool true]) (by simp [results, Tryz.results33, go_sem, y0, y1, y2, y3, y4, y5, y6, y7]) rfl ?_;rw [hR.out];refine zX (P := Below n w2 _) ?_ fun hG => zX (P := Below w.heap.size w _) ?_ fun hF => ⟨_, rfl, ⟨_, rfl, hr'.out.below hG⟩, hF⟩
  ·
   repeat refine Below.setCell ?_ (by dsimp only; omega) _
   exact hB24.mono hn2
  ·
   repeat refine Below.setCell ?_ (by dsimp only; omega) _
   exact hfin
theorem tH {w w9 : World} {xs ys zs : Array Value} {t0 t1 t2 : TypeId} {n : Nat} (h9 : Below n (((w.alloc (.cells xs t0)).alloc (.cells ys t1)).alloc (.cells zs t2)) w9) (hn : w.heap.size + 1 + 1 < n) : w9.heap[w.heap.size]? = some (.cells xs t0 (0, 0)) /\ w9.heap[w.heap.size + 1]? = some (.cells ys t1 (0, 0)) /\ w9.heap[w.heap.size + 1 + 1]? = some (.cells zs t2 (0, 0)) := by
 refine ⟨(h9.block _ (by omega)).trans ?_, (h9.block _ (by omega)).trans ?_, (h9.block _ hn).trans ?_⟩
 ·
  exact ((Below.heap_alloc _ _ _ (by simp; omega)).trans (Below.heap_alloc _ _ _ (by simp))).trans (World.alloc_heap_new w _)
 ·
  refine (Below.heap_alloc _ _ _ (by simp)).trans ?_;have := World.alloc_heap_new (w.alloc (.cells xs t0)) (.cells ys t1);rwa [World.size_alloc] at this
 ·
  have := World.alloc_heap_new ((w.alloc (.cells xs t0)).alloc (.cells ys t1)) (.cells zs t2);rwa [World.size_alloc, World.size_alloc] at this
theorem iY {n : Nat} {w : World} {x : Value} {c : Cu} (h : zF n w x c) (hn : n <= w.heap.size) (k : Int) : Calls Tryz.prog 29 #[x, .int .i64 k] w fun e w' => ∃ x', e = .returned (.tuple #[x', (c.kindT k).val, .bool (c.kindOk k)]) /\ zF n w' x' (c.kind k) /\ Below w.heap.size w w' := by
 obtain ⟨a, ln, cap, rfl, hr, -⟩ := h.shape;clear h;have hBa : Below w.heap.size w (((w.alloc (tG (.slice a ln cap) c)).alloc qR).alloc sA) := (((Below.refl _ w).alloc (Nat.le_refl _) _).alloc (by simp) _).alloc (by simp; omega) _;have HP := tW (n := n) (w := ((w.alloc (tG (.slice a ln cap) c)).alloc qR).alloc sA) (c := c) ⟨_, rfl, hr.out.below (hBa.mono hn)⟩ (by simp; omega);have HFl := fun w2 (hb : Below w.heap.size w w2) => uD (n := n) (w := w2) (c := c) ⟨_, rfl, hr.out.below (hb.mono hn)⟩ (Nat.le_trans hn hb.size) 5
 have HNx := fun w2 (hb : Below w.heap.size w w2) => qL (n := n) (w := w2) (c := c) ⟨_, rfl, hr.out.below (hb.mono hn)⟩ (Nat.le_trans hn hb.size)
 have hpk : ∀ h0 : c.err = 0, c.peek = c.tok c.at' := fun h0 => by unfold Cu.peek; rw [if_pos h0]
 have hv : c.peek.val = .agg #[.int .i64 c.peek.kind, .int .i64 c.peek.pos, .int .i64 c.peek.num, .string ⟨c.peek.text.toArray⟩] := rfl;rw [hv] at HP HNx;have hcase : ((c.err != 0) = true /\ Hid (c.kind k = c.fail 5 /\ c.kindT k = rW /\ c.kindOk k = false)) \/ ((c.err != 0) = false /\ (c.peek.kind != k) = true /\ Hid (c.kind k = c.fail 5 /\ c.kindT k = rW /\ c.kindOk k = false)) \/ ((c.err != 0) = false /\ (c.peek.kind != k) = false /\ Hid (c.kind k = c.adv /\ c.kindT k = c.peek /\ c.kindOk k = true)) := by
  by_cases he : c.err = 0
  ·
   have hp := hpk he;by_cases hk : (c.tok c.at').kind = k
   ·
    exact .inr (.inr ⟨by rw [he]; rfl, by rw [hp, hk]; simp, by unfold Cu.kind; rw [if_pos he, if_pos hk], by unfold Cu.kindT; rw [if_pos ⟨he, hk⟩, hp], by unfold Cu.kindOk; simp [he, hk]⟩)
   ·
    exact .inr (.inl ⟨by rw [he]; rfl, by rw [hp, bne_iff_ne]; exact hk, by unfold Cu.kind; rw [if_pos he, if_neg hk], by unfold Cu.kindT; rw [if_neg (fun q => hk q.2)], by unfold Cu.kindOk; simp [hk]⟩)
  ·
   exact .inl ⟨by rw [bne_iff_ne]; exact he, by unfold Cu.kind Cu.fail; rw [if_neg he, if_neg he], by unfold Cu.kindT; rw [if_neg (fun q => he q.1)], by unfold Cu.kindOk; simp [he]⟩
 clear hpk hv;generalize c.peek = t at *;generalize c.fail 5 = cf at *;generalize c.adv = ca at *;rcases hcase with ⟨hb, hR⟩ | ⟨hb, hb2, hR⟩ | ⟨hb, hb2, hR⟩
 ·
  clear HNx HP;have HF := HFl _ hBa;go_enter Tryz.func29, Tryz.ntmps29;go_wp2_with fail;refine HF.mono ?_; rintro e w3 ⟨x'', rfl, hx, hB3⟩;obtain ⟨a3, ln3, cap3, rfl, hr3, -⟩ := hx.shape;obtain ⟨-, o2, o3⟩ := tH hB3 (by simp);obtain ⟨⟨y0, y1, y2, y3, y4, y5, y6, y7⟩, ⟨z0, z1, z2, z3⟩⟩ := (rN o2 o2 o3).2;obtain ⟨⟨g0, g1, g2, g3, g4, g5, g6, g7⟩, ⟨f0, f1, f2, f3⟩⟩ := tV o2 o3;have hfin3 := zS hBa hB3;clear o2 o3 HF HFl hx hB3;go_wp2_with fail;refine bodyPost_ret (v := .tuple #[.agg (zK (.slice a3 ln3 cap3) cf.ep cf.nest cf.err cf.pos), .agg #[.int .i64 0, .int .i64 0, .int .i64 0, .string ⟨#[]⟩], .bool false]) (by simp [results, Tryz.results29, go_sem, y0, y1, y2, y3, y4, y5, y6, y7, z0, z1, z2, z3]) rfl ?_;rw [hR.out.1, hR.out.2.1, hR.out.2.2];refine zX (P := Below n w3 _) ?_ fun hG => zX (P := Below w.heap.size w _) ?_ fun hF => ⟨_, rfl, ⟨_, rfl, hr3.out.below hG⟩, hF⟩
  ·
   repeat refine Below.setCell ?_ (by dsimp only; omega) _
   exact Below.refl _ _
  ·
   repeat refine Below.setCell ?_ (by dsimp only; omega) _
   exact hfin3
 ·
  clear HNx;go_enter Tryz.func29, Tryz.ntmps29;go_wp2_with fail;refine HP.mono ?_; rintro e w2 ⟨rfl, hB2⟩;have hfin2 := zS hBa hB2;have HF := HFl w2 hfin2;obtain ⟨o1, o2, o3⟩ := tH hB2 (by simp);obtain ⟨⟨x0, x1, x2, x3, x4, x5, x6, x7⟩, -⟩ := zB o1;clear o1 o2 o3 HP HFl;go_wp2_with fail;refine HF.mono ?_; rintro e w3 ⟨x'', rfl, hx, hB3⟩;obtain ⟨a3, ln3, cap3, rfl, hr3, -⟩ := hx.shape;obtain ⟨-, o2, o3⟩ := tH (hB2.trans (hB3.mono hB2.size)) (by simp);clear x0 x1 x2 x3 x4 x5 x6 x7;obtain ⟨⟨y0, y1, y2, y3, y4, y5, y6, y7⟩, ⟨z0, z1, z2, z3⟩⟩ := (rN o2 o2 o3).2;obtain ⟨⟨g0, g1, g2, g3, g4, g5, g6, g7⟩, ⟨f0, f1, f2, f3⟩⟩ := tV o2 o3;have hfin3 := zS hfin2 hB3;clear o2 o3 HF hx hB3 hB2;go_wp2_with fail;refine bodyPost_ret (v := .tuple #[.agg (zK (.slice a3 ln3 cap3) cf.ep cf.nest cf.err cf.pos), .agg #[.int .i64 0, .int .i64 0, .int .i64 0, .string ⟨#[]⟩], .bool false]) (by simp [results, Tryz.results29, go_sem, y0, y1, y2, y3, y4, y5, y6, y7, z0, z1, z2, z3]) rfl ?_;rw [hR.out.1, hR.out.2.1, hR.out.2.2];refine zX (P := Below n w3 _) ?_ fun hG => zX (P := Below w.heap.size w _) ?_ fun hF => ⟨_, rfl, ⟨_, rfl, hr3.out.below hG⟩, hF⟩
  ·
   repeat refine Below.setCell ?_ (by dsimp only; omega) _
   exact Below.refl _ _
  ·
   repeat refine Below.setCell ?_ (by dsimp only; omega) _
   exact hfin3
 ·
  clear HFl;go_enter Tryz.func29, Tryz.ntmps29;go_wp2_with fail;refine HP.mono ?_; rintro e w2 ⟨rfl, hB2⟩;have hfin2 := zS hBa hB2;have HF := HNx w2 hfin2;obtain ⟨o1, o2, o3⟩ := tH hB2 (by simp);obtain ⟨⟨x0, x1, x2, x3, x4, x5, x6, x7⟩, -⟩ := zB o1;clear o1 o2 o3 HP HNx;go_wp2_with fail;refine HF.mono ?_; rintro e w3 ⟨x'', rfl, hx, hB3⟩;obtain ⟨a3, ln3, cap3, rfl, hr3, -⟩ := hx.shape;have hB23 := zS hB2 hB3;have hB4 := (hB23.alloc hB23.size (.cells (zK (.slice a3 ln3 cap3) ca.ep ca.nest ca.err ca.pos) 40)).alloc (by have := hB23.size; simp at this ⊢; omega) (.cells #[.int .i64 t.kind, .int .i64 t.pos, .int .i64 t.num, .string ⟨t.text.toArray⟩] 38);obtain ⟨-, o2, o3⟩ := tH hB4 (by simp);clear x0 x1 x2 x3 x4 x5 x6 x7;obtain ⟨⟨y0, y1, y2, y3, y4, y5, y6, y7⟩, ⟨z0, z1, z2, z3⟩⟩ := (rN o2 o2 o3).2;obtain ⟨⟨g0, g1, g2, g3, g4, g5, g6, g7⟩, ⟨f0, f1, f2, f3⟩⟩ := tV o2 o3;obtain ⟨p1, p2⟩ := vA (w := w3) (n := w3.heap.size + 2) (Below.refl _ ((w3.alloc (.cells (zK (.slice a3 ln3 cap3) ca.ep ca.nest ca.err ca.pos) 40)).alloc (.cells #[.int .i64 t.kind, .int .i64 t.pos, .int .i64 t.num, .string ⟨t.text.toArray⟩] 38))) (by omega);obtain ⟨⟨u0, u1, u2, u3, u4, u5, u6, u7⟩, -⟩ := zB p1;obtain ⟨v0, v1, v2, v3⟩ := (rN p1 p1 p2).2.2;have hfin3 := zS hBa hB4;have hB34 : Below w3.heap.size w3 ((w3.alloc (.cells (zK (.slice a3 ln3 cap3) ca.ep ca.nest ca.err ca.pos) 40)).alloc (.cells #[.int .i64 t.kind, .int .i64 t.pos, .int .i64 t.num, .string ⟨t.text.toArray⟩] 38)) := ((Below.refl _ w3).alloc (Nat.le_refl _) _).alloc (by simp) _;have hn4 : n <= w3.heap.size := by have := hB23.size; simp at this; omega
  have hT : w.heap.size + 1 + 1 < w3.heap.size := by have := hB23.size; simp at this; omega
  clear o2 o3 p1 p2 HF hx hB3 hB2 hB23 hB4;go_wp2_with fail;generalize ((w3.alloc (.cells (zK (.slice a3 ln3 cap3) ca.ep ca.nest ca.err ca.pos) 40)).alloc (.cells #[.int .i64 t.kind, .int .i64 t.pos, .int .i64 t.num, .string ⟨t.text.toArray⟩] 38)) = W at *;generalize hTT : w3.heap.size = T at *;have n1 : T ≠ w.heap.size + 1 := by omega
  have n2 : T ≠ w.heap.size + 1 + 1 := by omega
  have n3 : w.heap.size + 1 ≠ T := by omega
  have n4 : w.heap.size + 1 + 1 ≠ T := by omega
  have n5 : T + 1 ≠ w.heap.size + 1 := by omega
  have n6 : T + 1 ≠ w.heap.size + 1 + 1 := by omega
  have n7 : w.heap.size + 1 ≠ T + 1 := by omega
  have n8 : w.heap.size + 1 + 1 ≠ T + 1 := by omega
  go_region;all_goals (
   go_wp2_with fail
   refine bodyPost_ret (v := .tuple #[.agg (zK (.slice a3 ln3 cap3) ca.ep ca.nest ca.err ca.pos), .agg #[.int .i64 t.kind, .int .i64 t.pos, .int .i64 t.num, .string ⟨t.text.toArray⟩], .bool true]) (by simp [results, Tryz.results29, go_sem, y0, y1, y2, y3, y4, y5, y6, y7, z0, z1, z2, z3]) rfl ?_
   rw [hR.out.1, hR.out.2.1, hR.out.2.2]
   refine zX (P := Below n w3 _) ?_ fun hG => zX (P := Below w.heap.size w _) ?_ fun hF => ⟨_, rfl, ⟨_, rfl, hr3.out.below hG⟩, hF⟩
   ·
    refine Below.drew ?_;repeat refine Below.setCell ?_ (by dsimp only; omega) _
    exact hB34.mono hn4
   ·
    refine Below.drew ?_;repeat refine Below.setCell ?_ (by dsimp only; omega) _
    exact hfin3)
end Go.Proofs.YtdjomhbmhooceaaGreat.N5
namespace Go.Proofs.YtdjomhbmhooceaaGreat.N5
open Go.RowKit
attribute [local go_sem] xB xA
theorem nK (n : Nat) (v : Value) (xs : List Tk) (w : World) (h : xW n w v xs) (hnw : n <= w.heap.size) (hn : xs.length <= 4000) : Calls Tryz.prog 11 #[v] w (eH n (uL xs) w) := by
 obtain ⟨a, ln, cap, rfl, hln, hcap, HC⟩ : ∃ a ln cap, v = .slice a ln cap /\ Hid (ln = xs.length) /\ ln <= cap /\ Hid (xs = [] \/ ∃ g o, a = some ⟨g, o, none⟩ /\ g < n /\ ∀ j (hj : j < xs.length), tX w g o j xs[j]) := by
  obtain ⟨a, cap, rfl, hc, h2⟩ := h;exact ⟨a, _, cap, rfl, rfl, hc, h2⟩
 rw [<- hln.out] at hn;clear h;have hBa : Below w.heap.size w (w.alloc qR) := (Below.refl _ w).alloc (Nat.le_refl _) _;go_enter Tryz.func11, Tryz.ntmps11;go_wp2_with fail;go_loop [3] (fun i => ∃ k : Nat, k <= ln /\ i = .int .i64 (k : Int) /\ Hid (∀ j (hj : j < xs.length), j < k -> xs[j].kind ≠ 0)) (fun i => ln - (intOf i).toNat)
 case atStart => exact ⟨0, Nat.zero_le _, rfl, fun j _ h => absurd h (Nat.not_lt_zero _)⟩
 case round =>
  obtain ⟨k, hk, rfl, HK⟩ := hrel;by_cases hkn : k < ln
  ·
   have hkn' : (k : Int) < ln := by omega
   have hkX : k < xs.length := by rw [<- hln.out]; exact hkn
   obtain ⟨g, o, rfl, hg, hc⟩ : ∃ g o, a = some ⟨g, o, none⟩ /\ g < n /\ ∀ j (hj : j < xs.length), tX w g o j xs[j] := by
    rcases HC.out with h | h
    ·
     rw [h] at hkX; simp at hkX
    ·
     exact h
   obtain ⟨a0, a1, -, -⟩ := (hc k hkX).under (hBa.mono hnw) hg;by_cases hz : xs[k].kind = 0
   ·
    have hzb : (xs[k].kind == 0) = true := by rw [hz]; rfl
    have he : endL xs = k := pT xs k (by omega) HK.out (fun _ => hz);have hep : Hid ((uL xs).ep = xs[k].pos) := by
     show (if h : endL xs < xs.length then xs[endL xs].pos else 0) = _;rw [dif_pos (by omega)];simp only [he]
    have HR : Hid (∀ w9, Below w.heap.size w w9 -> xW n w9 (.slice (some ⟨g, o, none⟩) k cap) ((uL xs).ws.drop (uL xs).at')) := fun w9 h9 => by
     show xW _ _ _ ((xs.take (endL xs)).drop 0);rw [List.drop_zero, he];have hl : (xs.take k).length = k := by rw [List.length_take]; omega
     refine ⟨_, cap, by rw [hl], by omega, .inr ⟨g, o, rfl, hg, fun j hj => ?_⟩⟩;rw [List.getElem_take];exact (hc j (by omega)).under (h9.mono hnw) hg
    generalize xs[k].kind = kd at *;generalize xs[k].pos = ep at *;clear hz he hc;go_wp2_with fail;go_region;all_goals (
     go_wp2_with fail
     try rw [Exit.noGoto_ret]
     refine bodyPost_ret (v := .agg (zK (.slice (some ⟨g, o, none⟩) k cap) ep 0 0 0)) (by simp [results, Tryz.results11, go_sem]) rfl ?_
     refine zX (P := Below w.heap.size w _) ?_ fun hF => ⟨_, rfl, ⟨_, by rw [hep.out]; rfl, HR.out _ hF⟩, hF⟩
     refine Below.drew ?_
     exact (Below.refl _ w).alloc (Nat.le_refl _) _)
   ·
    have hzb : (xs[k].kind == 0) = false := by rw [beq_eq_false_iff_ne]; exact hz
    have HK2 : Hid (∀ j (hj : j < xs.length), j < k + 1 -> xs[j].kind ≠ 0) := fun j hj h => by
     rcases Nat.lt_or_ge j k with h' | h'
     ·
      exact HK.out j hj h'
     ·
      obtain rfl : j = k := by omega
      exact hz
    generalize xs[k].kind = kd at *;clear hz hc;go_wp2_with fail;go_round
    case rel => exact ⟨k + 1, by omega, by go_num, HK2⟩
    case measure => simp [intOf]; omega
  ·
   obtain rfl : k = ln := by omega
   have he : endL xs = k := pT xs k (by rw [hln.out]; exact Nat.le_refl _) HK.out (fun h => by rw [hln.out] at h; omega);have hep : Hid ((uL xs).ep = 0) := by
    show (if h : endL xs < xs.length then xs[endL xs].pos else 0) = _;rw [dif_neg (by rw [he, hln.out]; omega)]
   have HR : Hid (∀ w9, Below w.heap.size w w9 -> xW n w9 (.slice a k cap) ((uL xs).ws.drop (uL xs).at')) := fun w9 h9 => by
    show xW _ _ _ ((xs.take (endL xs)).drop 0);rw [List.drop_zero, he, hln.out, List.take_length];refine ⟨a, cap, rfl, by rw [<- hln.out]; exact hcap, ?_⟩;rcases HC.out with h0 | ⟨g, o, h1, h2, h3⟩
    ·
     exact .inl h0
    ·
     exact .inr ⟨g, o, h1, h2, fun j hj => (h3 j hj).under (h9.mono hnw) h2⟩
   clear he;go_wp2_with fail;try rw [Exit.noGoto_ret]
   refine bodyPost_ret (v := .agg (zK (.slice a k cap) 0 0 0 0)) (by simp [results, Tryz.results11, go_sem]) rfl ?_;refine zX (P := Below w.heap.size w _) ?_ fun hF => ⟨_, rfl, ⟨_, by rw [hep.out]; rfl, HR.out _ hF⟩, hF⟩
   exact (Below.refl _ w).alloc (Nat.le_refl _) _
end Go.Proofs.YtdjomhbmhooceaaGreat.N5
