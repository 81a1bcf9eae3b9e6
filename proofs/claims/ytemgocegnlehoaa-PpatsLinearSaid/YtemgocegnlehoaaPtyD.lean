/- The document's readers: the boxes. The document's readers: atoms. The document's readers: the whole of it. The document's readers: texts. -/
import Derived.Test.YtemgocegnlehoaaPtyA
import Derived.Test.YtemgocegnlehoaaPtyT
namespace Go.Proofs.Ytemgocegnlehoaa.N7
open Go.RowKit N5 N6

/-- a store into block b, and no more -/
structure Put (b : Nat) (W W7 : World) : Prop where
  size : W.heap.size ≤ W7.heap.size
  other : ∀ k, k ≠ b → W7.heap[k]? = W.heap[k]?
  below : ∀ n w, n ≤ b → Below n w W → Below n w W7
  grown : W.grownBy W7 (some b)
section
variable {b : Nat} {W W7 : World}
theorem Put.blk (h : Put b W W7) {k : Nat} {cs : Array Value} {ty : TypeId} (hk : Blk W k cs ty) (hne : k ≠ b) : Blk W7 k cs ty := (h.other k hne).trans hk
theorem Put.node (h : Put b W W7) {S : Nat → Prop} {x : NC} {t : Nd} (hx : NodeAt S W x t) (hS : ¬ S b) : NodeAt S W7 x t := hx.keeps ⟨h.size, fun k hk _ => h.other k fun e => hS (e ▸ hk)⟩
theorem Put.row (h : Put b W W7) {n : Nat} {v : Value} {xs : List Tk} (hr : WRow n W v xs) (hb : n ≤ b) : WRow n W7 v xs := hr.below (h.below n W hb (Below.refl _ _))
theorem Put.one (W : World) (b i : Nat) (x : Value) : Put b W (W.setCell ⟨b, i, none⟩ x) :=
  ⟨by simp, fun k hk => Below.heap_setCell _ _ _ _ hk, fun _ _ hn hB => hB.setCell hn _, grownBy_set W b i x⟩
theorem Put.trans {W8 : World} (h : Put b W W7) (g : Put b W7 W8) : Put b W W8 :=
  ⟨Nat.le_trans h.size g.size, fun k hk => (g.other k hk).trans (h.other k hk), fun n w hn hB => g.below n w hn (h.below n w hn hB), grownBy_trans h.grown g.grown⟩
end
theorem set8 {b : Nat} {W : World} {ty : TypeId} {y0 y1 y2 y3 y4 y5 y6 y7 x0 x1 x2 x3 x4 x5 x6 x7 : Value} (h : Blk W b #[y0, y1, y2, y3, y4, y5, y6, y7] ty) :
    Blk (((((((((W.setCell ⟨b, 0, none⟩ x0).setCell ⟨b, 1, none⟩ x1).setCell ⟨b, 2, none⟩ x2).setCell ⟨b, 3, none⟩ x3).setCell ⟨b, 4, none⟩ x4).setCell ⟨b, 5, none⟩ x5).setCell ⟨b, 6, none⟩ x6).setCell ⟨b, 7, none⟩ x7)) b #[x0, x1, x2, x3, x4, x5, x6, x7] ty := by
  have h : Blk (W.setCell ⟨b, 0, none⟩ x0) b #[x0, y1, y2, y3, y4, y5, y6, y7] ty := h.set 0 x0
  have h : Blk ((W.setCell ⟨b, 0, none⟩ x0).setCell ⟨b, 1, none⟩ x1) b #[x0, x1, y2, y3, y4, y5, y6, y7] ty := h.set 1 x1
  have h : Blk (((W.setCell ⟨b, 0, none⟩ x0).setCell ⟨b, 1, none⟩ x1).setCell ⟨b, 2, none⟩ x2) b #[x0, x1, x2, y3, y4, y5, y6, y7] ty := h.set 2 x2
  have h : Blk ((((W.setCell ⟨b, 0, none⟩ x0).setCell ⟨b, 1, none⟩ x1).setCell ⟨b, 2, none⟩ x2).setCell ⟨b, 3, none⟩ x3) b #[x0, x1, x2, x3, y4, y5, y6, y7] ty := h.set 3 x3
  have h : Blk (((((W.setCell ⟨b, 0, none⟩ x0).setCell ⟨b, 1, none⟩ x1).setCell ⟨b, 2, none⟩ x2).setCell ⟨b, 3, none⟩ x3).setCell ⟨b, 4, none⟩ x4) b #[x0, x1, x2, x3, x4, y5, y6, y7] ty := h.set 4 x4
  have h : Blk ((((((W.setCell ⟨b, 0, none⟩ x0).setCell ⟨b, 1, none⟩ x1).setCell ⟨b, 2, none⟩ x2).setCell ⟨b, 3, none⟩ x3).setCell ⟨b, 4, none⟩ x4).setCell ⟨b, 5, none⟩ x5) b #[x0, x1, x2, x3, x4, x5, y6, y7] ty := h.set 5 x5
  have h : Blk (((((((W.setCell ⟨b, 0, none⟩ x0).setCell ⟨b, 1, none⟩ x1).setCell ⟨b, 2, none⟩ x2).setCell ⟨b, 3, none⟩ x3).setCell ⟨b, 4, none⟩ x4).setCell ⟨b, 5, none⟩ x5).setCell ⟨b, 6, none⟩ x6) b #[x0, x1, x2, x3, x4, x5, x6, y7] ty := h.set 6 x6
  have h : Blk ((((((((W.setCell ⟨b, 0, none⟩ x0).setCell ⟨b, 1, none⟩ x1).setCell ⟨b, 2, none⟩ x2).setCell ⟨b, 3, none⟩ x3).setCell ⟨b, 4, none⟩ x4).setCell ⟨b, 5, none⟩ x5).setCell ⟨b, 6, none⟩ x6).setCell ⟨b, 7, none⟩ x7) b #[x0, x1, x2, x3, x4, x5, x6, x7] ty := h.set 7 x7
  exact h
theorem c_put {b : Nat} {W : World} {ty : TypeId} {uz : Value} {e0 e1 e2 e3 : Int} (hz : Blk W b (refC uz e0 e1 e2 e3) ty) (u : Value) (ep nest err pos : Int) :
    ∃ W7, W7 = ((((((((W.setCell ⟨b, 0, none⟩ u).setCell ⟨b, 1, none⟩ (.int .i64 0)).setCell ⟨b, 2, none⟩ (.int .i64 ep)).setCell ⟨b, 3, none⟩ (.int .i64 0)).setCell ⟨b, 4, none⟩ (.string ⟨#[]⟩)).setCell ⟨b, 5, none⟩ (.int .i64 nest)).setCell ⟨b, 6, none⟩ (.int .i64 err)).setCell ⟨b, 7, none⟩ (.int .i64 pos)) ∧
      Blk W7 b (refC u ep nest err pos) ty ∧ Put b W W7 := by
  refine ⟨_, rfl, ?_, ((((((((Put.one _ _ _ _).trans (Put.one _ _ _ _)).trans (Put.one _ _ _ _)).trans (Put.one _ _ _ _)).trans (Put.one _ _ _ _)).trans (Put.one _ _ _ _)).trans (Put.one _ _ _ _)).trans (Put.one _ _ _ _))⟩
  exact set8 hz
theorem n_put {b : Nat} {W : World} {ty : TypeId} {z : NC} (hz : Blk W b #[.int .i64 z.kind, .int .i64 z.pos, .int .i64 z.num, .string ⟨z.text.toArray⟩, .slice z.kp z.kl z.kc] ty) (d : NC) :
    ∃ W7, W7 = (((((W.setCell ⟨b, 0, none⟩ (.int .i64 d.kind)).setCell ⟨b, 1, none⟩ (.int .i64 d.pos)).setCell ⟨b, 2, none⟩ (.int .i64 d.num)).setCell ⟨b, 3, none⟩ (.string ⟨d.text.toArray⟩)).setCell ⟨b, 4, none⟩ (.slice d.kp d.kl d.kc)) ∧
      Blk W7 b #[.int .i64 d.kind, .int .i64 d.pos, .int .i64 d.num, .string ⟨d.text.toArray⟩, .slice d.kp d.kl d.kc] ty ∧ Put b W W7 := by
  refine ⟨_, rfl, ?_, ((((Put.one _ _ _ _).trans (Put.one _ _ _ _)).trans (Put.one _ _ _ _)).trans (Put.one _ _ _ _)).trans (Put.one _ _ _ _)⟩
  exact ((((hz.set 0 _).set 1 _).set 2 _).set 3 _).set 4 _
theorem RefIs.mk {n : Nat} {W : World} {a : Option Addr} {ln cap : Nat} {c : Cu} (h : WRow n W (.slice a ln cap) (c.ws.drop c.at')) : RefIs n W (.agg (refC (.slice a ln cap) c.ep (c.nest : Int) c.err c.pos)) c := ⟨_, rfl, h⟩
/-- what a reader of the document leaves: a state, a tree in blocks that are new -/
def RefRead (n : Nat) (o : Cu × Nd) (w : World) (e : Ending) (w' : World) : Prop :=
  ∃ (x : Value) (d : NC), e = .returned (.tuple #[x, d.val]) ∧ RefIs n w' x o.1 ∧ NodeAt (fun b => w.heap.size ≤ b) w' d o.2 ∧ Below w.heap.size w w'
theorem refpeek_l {n : Nat} {w : World} {x : Value} {c : Cu} (h : RefIs n w x c) (hn : n ≤ w.heap.size) : Calls Try.prog 33 #[x] w fun e w' => e = .returned (.agg #[.int .i64 c.peek.kind, .int .i64 c.peek.pos, .int .i64 c.peek.num, .string ⟨c.peek.text.toArray⟩]) ∧ Below w.heap.size w w' := refpeek_any h hn
theorem refnext_l {n : Nat} {w : World} {x : Value} {c : Cu} (h : RefIs n w x c) (hn : n ≤ w.heap.size) : Calls Try.prog 36 #[x] w (RefTo n c.adv (.agg #[.int .i64 c.peek.kind, .int .i64 c.peek.pos, .int .i64 c.peek.num, .string ⟨c.peek.text.toArray⟩]) w) := refnext_any h hn
theorem refis_l {n : Nat} {w : World} {x : Value} {c : Cu} (h : RefIs n w x c) (hn : n ≤ w.heap.size) (l : List UInt8) : Calls Try.prog 61 #[x, .string ⟨l.toArray⟩] w (N5.RunsTo (c.is l) w) := by
  have := refis_any h hn ⟨l.toArray⟩
  simpa using this
theorem reftake_l {n : Nat} {w : World} {x : Value} {c : Cu} (h : RefIs n w x c) (hn : n ≤ w.heap.size) (l : List UInt8) : Calls Try.prog 77 #[x, .string ⟨l.toArray⟩] w (RefTo n (c.take l) (.bool (c.is l)) w) := by
  have := reftake_any h hn ⟨l.toArray⟩
  simpa using this
theorem refwant_l {n : Nat} {w : World} {x : Value} {c : Cu} (h : RefIs n w x c) (hn : n ≤ w.heap.size) (l : List UInt8) : Calls Try.prog 62 #[x, .string ⟨l.toArray⟩] w (RefTo n (c.want l) (.bool (c.is l)) w) := by
  have := refwant_any h hn ⟨l.toArray⟩
  simpa using this
theorem ok_enter {c : Cu} (h : CuOk c) : CuOk c.enter := by
  by_cases he : c.enters = true
  · rw [enter_of he]; exact ⟨h.le, h.few, h.kinds, by have := (enters_iff.1 he).2; show c.nest + 1 ≤ 200; omega⟩
  · exact (enter_not he).2.ok h
theorem ok_leave {c : Cu} (h : CuOk c) : CuOk c.leave := by
  unfold Cu.leave
  split
  · exact ⟨h.le, h.few, h.kinds, by have := h.deep; show c.nest - 1 ≤ 200; omega⟩
  · exact h
theorem in_atom {c : Cu} {k : Nat} (he : c.err = 0) (hi : c.is [40] = true) (hk : 200 ≤ c.nest + (k + 1) ∨ c.err ≠ 0) : 200 ≤ (c.enter.want [40]).nest + k ∨ (c.enter.want [40]).err ≠ 0 := by
  have hk : 200 ≤ c.nest + (k + 1) := hk.resolve_right fun q => q he
  by_cases h4 : c.enters = true
  · have h5 : c.enter.is [40] = true := by rw [enter_of h4]; exact hi
    rw [nest_in h4 h5]
    exact .inl (by omega)
  · have h5 := (enter_not h4).1
    rw [(fine_want c.enter [40]).stuck h5]
    exact .inr h5
attribute [local go_sem] fld0 fld1
end Go.Proofs.Ytemgocegnlehoaa.N7
namespace Go.Proofs.Ytemgocegnlehoaa.N7
open Go.RowKit N5 N6

attribute [local go_sem] fld0 fld1
end Go.Proofs.Ytemgocegnlehoaa.N7
namespace Go.Proofs.Ytemgocegnlehoaa.N7
open Go.RowKit N5 N6

attribute [local go_sem] fld0 fld1
def wholeO (c : Cu) (t : Nd) : Nd × Int × Int := if c.doneE = 0 then (if t.depth ≤ 100 then (t, 0, 0) else (zNd, t.pos, 2)) else (zNd, c.doneP, c.doneE)
def WholeTo (c : Cu) (d : NC) (t : Nd) (w : World) (e : Ending) (w' : World) : Prop :=
  ∃ d' : NC, e = .returned (.tuple #[d'.val, .int .i64 (wholeO c t).2.1, .int .i64 (wholeO c t).2.2]) ∧ ((d' = d ∧ (wholeO c t).1 = t) ∨ (d' = zN ∧ (wholeO c t).1 = zNd)) ∧ Below w.heap.size w w'
set_option maxRecDepth 100000 in
set_option maxHeartbeats 4000000 in
theorem refwhole_any {n : Nat} {S : Nat → Prop} {w : World} {x : Value} {c : Cu} {d : NC} {t : Nd} (h : RefIs n w x c) (hn : n ≤ w.heap.size) (hok : CuOk c) (ht : NodeAt S w d t) (hsz : c.doneE = 0 → t.size ≤ 1000000) : Calls Try.prog 20 #[x, d.val] w (WholeTo c d t w) := by
  have HSZ := Lib.hid hsz
  have HOK := Lib.hid hok
  clear hsz hok
  obtain ⟨a, ln, cap, rfl, hr, -⟩ := h.shape
  clear h
  obtain ⟨dk, dp, dn, dt, dq, dl, dc⟩ := d
  unfold NC.val
  have hp : dp = t.pos := ht.pos
  subst hp
  obtain ⟨tps, hps⟩ : ∃ q, q = t.pos := ⟨_, rfl⟩
  rw [← hps] at ht ⊢
  have HPS := Lib.hid hps
  clear hps
  obtain ⟨W1, hW1⟩ : ∃ W1, W1 = (((w.alloc (.cells (refC (.slice a ln cap) c.ep (c.nest : Int) c.err c.pos) 49)).alloc (.cells #[.int .i64 dk, .int .i64 tps, .int .i64 dn, .string ⟨dt.toArray⟩, .slice dq dl dc] 25)).alloc (.cells #[.int .i64 0, .int .i64 0, .int .i64 0, .string ⟨#[]⟩, .slice none 0 0] 25)) := ⟨_, rfl⟩
  have hsz : w.heap.size + 1 + 1 + 1 ≤ W1.heap.size := by rw [hW1]; simp
  have Kp : Blk W1 (w.heap.size) (refC (.slice a ln cap) c.ep (c.nest : Int) c.err c.pos) 49 := by rw [hW1]; have h0 := Blk.new w (refC (.slice a ln cap) c.ep (c.nest : Int) c.err c.pos) 49; (try simp only [World.size_alloc] at h0); exact ((h0.later ((Below.refl _ _).alloc (Nat.le_refl _) _)).later ((Below.refl _ _).alloc (Nat.le_refl _) _))
  have Km : Blk W1 (w.heap.size + 1) #[.int .i64 dk, .int .i64 tps, .int .i64 dn, .string ⟨dt.toArray⟩, .slice dq dl dc] 25 := by rw [hW1]; have h0 := Blk.new (w.alloc (.cells (refC (.slice a ln cap) c.ep (c.nest : Int) c.err c.pos) 49)) #[.int .i64 dk, .int .i64 tps, .int .i64 dn, .string ⟨dt.toArray⟩, .slice dq dl dc] 25; (try simp only [World.size_alloc] at h0); exact (h0.later ((Below.refl _ _).alloc (Nat.le_refl _) _))
  have Krn : Blk W1 (w.heap.size + 1 + 1) #[.int .i64 0, .int .i64 0, .int .i64 0, .string ⟨#[]⟩, .slice none 0 0] 25 := by rw [hW1]; have h0 := Blk.new ((w.alloc (.cells (refC (.slice a ln cap) c.ep (c.nest : Int) c.err c.pos) 49)).alloc (.cells #[.int .i64 dk, .int .i64 tps, .int .i64 dn, .string ⟨dt.toArray⟩, .slice dq dl dc] 25)) #[.int .i64 0, .int .i64 0, .int .i64 0, .string ⟨#[]⟩, .slice none 0 0] 25; (try simp only [World.size_alloc] at h0); exact h0
  have hB1 : Below w.heap.size w W1 := by rw [hW1]; exact ((((Below.refl _ w).alloc (by simp; try omega) _).alloc (by simp; try omega) _).alloc (by simp; try omega) _)
  have Rc : WRow n W1 (.slice a ln cap) (c.ws.drop c.at') := hr.out.below (hB1.mono hn)
  have HW1 := Lib.hid hW1
  clear hW1 hr
  go_enter Try.func20, Try.ntmps20
  go_upto_region 1 with fail
  rw [← HW1.out]
  clear HW1
  have Td := ht.keeps (w' := W1) ⟨hB1.size, fun k hk hkl => hB1.block k hkl⟩
  clear ht
  obtain ⟨dP, hdP⟩ : ∃ q, q = c.doneP := ⟨_, rfl⟩
  obtain ⟨dE, hdE⟩ : ∃ q, q = c.doneE := ⟨_, rfl⟩
  have HDP := Lib.hid hdP
  have HDE := Lib.hid hdE
  have HC := refdone_any (RefIs.mk Rc) (Nat.le_trans hn hB1.size) HOK.out
  rw [← hdP] at HC
  rw [← hdE] at HC
  obtain ⟨⟨p0, p1, p2, p3, p4, p5, p6, p7⟩, pf0, pf1, pf2, pf3, pf4, pf5, pf6, pf7⟩ := cells8 Kp
  obtain ⟨⟨m0, m1, m2, m3, m4⟩, -⟩ := cells5 Km
  obtain ⟨⟨rn0, rn1, rn2, rn3, rn4⟩, rnf0, rnf1, rnf2, rnf3, rnf4⟩ := cells5 Krn
  go_wp2_with fail
  refine HC.mono ?_; rintro e W2 ⟨rfl, hB⟩
  clear HC
  clear p0 p1 p2 p3 p4 p5 p6 p7 pf0 pf1 pf2 pf3 pf4 pf5 pf6 pf7 m0 m1 m2 m3 m4 rn0 rn1 rn2 rn3 rn4 rnf0 rnf1 rnf2 rnf3 rnf4
  replace Kp := Kp.later hB
  replace Km := Km.later hB
  replace Krn := Krn.later hB
  replace Td := Td.keeps (w' := W2) ⟨hB.size, fun k hk hkl => hB.block k hkl⟩
  replace Rc := Rc.below (hB.mono (Nat.le_trans hn hB1.size))
  have hs3 := hB.size
  have hB3 := hB1.trans (hB.mono hB1.size)
  clear hB hB1
  clear hdP hdE
  by_cases he : dE = 0
  case neg =>
    have hb : (dE != 0) = true := by rw [bne_iff_ne]; exact he
    have HQ : Hid (wholeO c t = (zNd, dP, dE)) := by show _ = _; unfold wholeO; rw [← HDE.out, ← HDP.out, if_neg he]
    clear he
    obtain ⟨⟨p0, p1, p2, p3, p4, p5, p6, p7⟩, pf0, pf1, pf2, pf3, pf4, pf5, pf6, pf7⟩ := cells8 Kp
    obtain ⟨⟨m0, m1, m2, m3, m4⟩, -⟩ := cells5 Km
    obtain ⟨⟨rn0, rn1, rn2, rn3, rn4⟩, rnf0, rnf1, rnf2, rnf3, rnf4⟩ := cells5 Krn
    obtain ⟨W4, hW4, KN, hP⟩ := n_put (z := zN) Krn zN
    replace Kp := hP.blk Kp (by omega)
    replace Km := hP.blk Km (by omega)
    replace Rc := hP.row Rc (by omega)
    have hs5 := hP.size
    have hB5 := hP.below _ _ (by omega) hB3
    clear hP hB3
    dsimp only [zN] at hW4 KN
    replace Krn := KN
    clear KN
    go_wp2_with fail
    rw [← hW4]
    obtain ⟨⟨z0, z1, z2, z3, z4⟩, -⟩ := cells5 Krn
    refine bodyPost_ret (v := .tuple #[NC.val zN, .int .i64 dP, .int .i64 dE]) (by simp [results, Try.results20, go_sem, z0, z1, z2, z3, z4, NC.val, zN]) rfl ⟨zN, by rw [HQ.out], by rw [HQ.out]; exact .inr ⟨rfl, rfl⟩, hB5⟩
  case pos =>
    subst he
    have hb : ((0 : Int) != 0) = false := rfl
    have HD := refdepth_any t S _ _ Td (HSZ.out HDE.out.symm)
    unfold NC.val at HD
    by_cases hd : t.depth ≤ 100
    case pos =>
      have HQ : Hid (wholeO c t = (t, 0, 0)) := by show _ = _; unfold wholeO; rw [← HDE.out, if_pos rfl, if_pos hd]
      have hd1 : ¬ (100 : Int) < (t.depth : Int) := by omega
      have hd2 : decide ((100 : Int) < (t.depth : Int)) = false := by simp [hd1]
      have HC := HD
      obtain ⟨⟨p0, p1, p2, p3, p4, p5, p6, p7⟩, pf0, pf1, pf2, pf3, pf4, pf5, pf6, pf7⟩ := cells8 Kp
      obtain ⟨⟨m0, m1, m2, m3, m4⟩, -⟩ := cells5 Km
      obtain ⟨⟨rn0, rn1, rn2, rn3, rn4⟩, rnf0, rnf1, rnf2, rnf3, rnf4⟩ := cells5 Krn
      go_wp2_with fail
      refine HC.mono ?_; rintro e W6 ⟨rfl, hB⟩
      clear HC
      clear p0 p1 p2 p3 p4 p5 p6 p7 pf0 pf1 pf2 pf3 pf4 pf5 pf6 pf7 m0 m1 m2 m3 m4 rn0 rn1 rn2 rn3 rn4 rnf0 rnf1 rnf2 rnf3 rnf4
      replace Kp := Kp.later hB
      replace Km := Km.later hB
      replace Krn := Krn.later hB
      replace Td := Td.keeps (w' := W6) ⟨hB.size, fun k hk hkl => hB.block k hkl⟩
      replace Rc := Rc.below (hB.mono (Nat.le_trans hn hB3.size))
      have hs7 := hB.size
      have hB7 := hB3.trans (hB.mono hB3.size)
      clear hB hB3
      obtain ⟨⟨p0, p1, p2, p3, p4, p5, p6, p7⟩, pf0, pf1, pf2, pf3, pf4, pf5, pf6, pf7⟩ := cells8 Kp
      obtain ⟨⟨m0, m1, m2, m3, m4⟩, -⟩ := cells5 Km
      obtain ⟨⟨rn0, rn1, rn2, rn3, rn4⟩, rnf0, rnf1, rnf2, rnf3, rnf4⟩ := cells5 Krn
      obtain ⟨W8, hW8, KN, hP⟩ := n_put (z := zN) Krn ⟨dk, tps, dn, dt, dq, dl, dc⟩
      replace Kp := hP.blk Kp (by omega)
      replace Km := hP.blk Km (by omega)
      replace Rc := hP.row Rc (by omega)
      have hs9 := hP.size
      have hB9 := hP.below _ _ (by omega) hB7
      clear hP hB7
      dsimp only [zN] at hW8 KN
      replace Krn := KN
      clear KN
      go_wp2_with fail
      rw [← hW8]
      obtain ⟨⟨z0, z1, z2, z3, z4⟩, -⟩ := cells5 Krn
      refine bodyPost_ret (v := .tuple #[NC.val ⟨dk, tps, dn, dt, dq, dl, dc⟩, .int .i64 0, .int .i64 0]) (by simp [results, Try.results20, go_sem, z0, z1, z2, z3, z4, NC.val]) rfl ⟨⟨dk, tps, dn, dt, dq, dl, dc⟩, by rw [HQ.out], by rw [HQ.out]; exact .inl ⟨rfl, rfl⟩, hB9⟩
    case neg =>
      have HQ : Hid (wholeO c t = (zNd, tps, 2)) := by show _ = _; unfold wholeO; rw [← HDE.out, if_pos rfl, if_neg hd, HPS.out]
      have hd1 : (100 : Int) < (t.depth : Int) := by omega
      have hd2 : decide ((100 : Int) < (t.depth : Int)) = true := by simp [hd1]
      have HC := HD
      obtain ⟨⟨p0, p1, p2, p3, p4, p5, p6, p7⟩, pf0, pf1, pf2, pf3, pf4, pf5, pf6, pf7⟩ := cells8 Kp
      obtain ⟨⟨m0, m1, m2, m3, m4⟩, -⟩ := cells5 Km
      obtain ⟨⟨rn0, rn1, rn2, rn3, rn4⟩, rnf0, rnf1, rnf2, rnf3, rnf4⟩ := cells5 Krn
      go_wp2_with fail
      refine HC.mono ?_; rintro e W10 ⟨rfl, hB⟩
      clear HC
      clear p0 p1 p2 p3 p4 p5 p6 p7 pf0 pf1 pf2 pf3 pf4 pf5 pf6 pf7 m0 m1 m2 m3 m4 rn0 rn1 rn2 rn3 rn4 rnf0 rnf1 rnf2 rnf3 rnf4
      replace Kp := Kp.later hB
      replace Km := Km.later hB
      replace Krn := Krn.later hB
      replace Td := Td.keeps (w' := W10) ⟨hB.size, fun k hk hkl => hB.block k hkl⟩
      replace Rc := Rc.below (hB.mono (Nat.le_trans hn hB3.size))
      have hs11 := hB.size
      have hB11 := hB3.trans (hB.mono hB3.size)
      clear hB hB3
      have n1 : w.heap.size + 1 ≠ w.heap.size + 1 + 1 := by omega
      obtain ⟨⟨p0, p1, p2, p3, p4, p5, p6, p7⟩, pf0, pf1, pf2, pf3, pf4, pf5, pf6, pf7⟩ := cells8 Kp
      obtain ⟨⟨m0, m1, m2, m3, m4⟩, -⟩ := cells5 Km
      obtain ⟨⟨rn0, rn1, rn2, rn3, rn4⟩, rnf0, rnf1, rnf2, rnf3, rnf4⟩ := cells5 Krn
      go_upto_region 5 with fail
      obtain ⟨W12, hW12, KN, hP⟩ := n_put (z := zN) Krn zN
      replace Kp := hP.blk Kp (by omega)
      replace Km := hP.blk Km (by omega)
      replace Rc := hP.row Rc (by omega)
      have hs13 := hP.size
      have hB13 := hP.below _ _ (by omega) hB11
      clear hP hB11
      dsimp only [zN] at hW12 KN
      replace Krn := KN
      clear KN
      go_region
      rw [← hW12]
      clear p0 p1 p2 p3 p4 p5 p6 p7 pf0 pf1 pf2 pf3 pf4 pf5 pf6 pf7 m0 m1 m2 m3 m4 rn0 rn1 rn2 rn3 rn4 rnf0 rnf1 rnf2 rnf3 rnf4
      obtain ⟨W14, hW14⟩ : ∃ x, x = W12.drew := ⟨_, rfl⟩
      have hB : Below W12.heap.size W12 W14 := by rw [hW14]; exact (Below.refl _ _).drew
      rw [← hW14]
      clear hW14
      replace Kp := Kp.later hB
      replace Km := Km.later hB
      replace Krn := Krn.later hB
      replace Rc := Rc.below (hB.mono (Nat.le_trans hn hB13.size))
      have hs15 := hB.size
      have hB15 := hB13.trans (hB.mono hB13.size)
      clear hB hB13
      go_wp2_with fail
      obtain ⟨⟨z0, z1, z2, z3, z4⟩, -⟩ := cells5 Krn
      refine bodyPost_ret (v := .tuple #[NC.val zN, .int .i64 tps, .int .i64 2]) (by simp [results, Try.results20, go_sem, z0, z1, z2, z3, z4, NC.val, zN]) rfl ⟨zN, by rw [HQ.out], by rw [HQ.out]; exact .inr ⟨rfl, rfl⟩, hB15⟩
end Go.Proofs.Ytemgocegnlehoaa.N7
namespace Go.Proofs.Ytemgocegnlehoaa.N7
open Go.RowKit N5 N6

attribute [local go_sem] fld0 fld1
def readR (rr : Cu → Cu × Nd) (s : ByteArray) : Nd × Int × Int :=
  match N4.lexAll s with
  | .error (k, x) => (zNd, (k : Int), x)
  | .ok r => wholeO (rr (newCu (r ++ [N4.endTk s]))).1 (rr (newCu (r ++ [N4.endTk s]))).2
theorem done_err {c : Cu} (h : c.doneE = 0) : c.err = 0 := by
  unfold Cu.doneE at h
  by_cases k : c.err = 0
  · exact k
  · rw [if_neg k] at h; exact h
theorem readR_eq {rd : Cu → Out Nd} {rr : Cu → Cu × Nd} (h : ∀ c, c.nest = 0 → Rel c (rd c) (rr c)) (s : ByteArray) : readR rr s = readL rd s := by
  unfold readR readL
  cases N4.lexAll s with
  | error kx => rfl
  | ok r =>
    dsimp only
    unfold wholeO
    rcases (h (newCu (r ++ [N4.endTk s])) rfl).cases with ⟨e1, e2⟩ | ⟨e1, e2⟩
    · rw [e2]; rfl
    · rw [e2]
      have : ¬ (rr (newCu (r ++ [N4.endTk s]))).1.doneE = 0 := fun q => e1 (done_err q)
      dsimp only
      rw [if_neg this, if_neg this]
theorem wrow_of {W : World} {v : Value} {xs : List Tk} (h : ArgRow W v xs) : WRow W.heap.size W v xs := by
  rcases h with ⟨h1, h2⟩ | ⟨a, cap, h1, h2, h3⟩
  · exact ⟨none, 0, by rw [h1, h2]; rfl, by rw [h2]; exact Nat.le_refl _, .inl h2⟩
  · refine ⟨some a, cap, h1, h2, ?_⟩
    rcases h3 with h3 | ⟨g, o, h4, h5, h6⟩
    · exact .inl h3
    · exact .inr ⟨g, o, by rw [h4], h5, h6⟩
theorem ok_new (xs : List Tk) (h : xs.length ≤ 4000) : CuOk (newCu xs) := ⟨Nat.zero_le _, by show (xs.take (endL xs)).length ≤ 4000; rw [List.length_take]; omega, ahead_kinds xs, Nat.zero_le _⟩
end Go.Proofs.Ytemgocegnlehoaa.N7
