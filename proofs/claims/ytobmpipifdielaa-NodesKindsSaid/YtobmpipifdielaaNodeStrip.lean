/- Trees with all Pos 0: nodes.Strip, and the document's own. -/
import Derived.Test.YtobmpipifdielaaNodeSame
import Derived.Deep.CutBlock
import Derived.Laws.OwnMore
import Derived.Laws.IdiomCopy
namespace Go.Proofs.Ytobmpipifdielaa
open Go.RowKit

/-- a node comes back, that is a tree, in blocks that are new -/
def NewNode (t : Nd) (w : World) (e : Ending) (w' : World) : Prop := ∃ d : NC, e = .returned d.val ∧ NodeAt (fun b => w.heap.size ≤ b) w' d t ∧ Below w.heap.size w w'
def zN : NC := ⟨0, 0, 0, [], none, 0, 0⟩
theorem infoNode : (Try.prog.info? 24).map (fun i => (i.zero, i.size, i.bytes)) = some (some zN.val, 5, 64) := by kernel_rfl

theorem wpList_append_at {P : Program} {ops : Array Oper} {rest : List Oper} {w : World} {o : Oper} {a : Act} {Q : Exit → Act → World → Prop} (hgd : o.guard = none) (s x : Operand) (t : TypeId)
    (ho : o.op = .call { callee := .builtin .append, args := #[s, x], argTypes := #[t, t] })
    (base : Nat) (e : TypeId) (i : TypeInfo) (z : Value) (size bytes : Nat) (ht : P.underlying t = some (.slice e)) (hi : P.info? e = some i) (hz : i.zero = some z)
    (hsize : i.size = size) (hby : i.bytes = bytes) (hzs : z.cells.size = size) (hsz : 0 < size)
    (v : Value) (n : Nat) (xs : List Value) (hs : a.eval s = v) (hown : w.ownsRow base e size v n xs)
    (ad : Addr) (m c : Nat) (news : List Value) (hx : a.eval x = .slice (some ad) m c) (hl : news.length = m * size) (hnews : ∀ j u, news[j]? = some u → w.cell? (ad.add j) = some u) (h1 : ∀ u ∈ news, u.oneCell' = true)
    (h63 : n + m ≤ maxLen) (hbytes : (n + m) * bytes ≤ 140737488355328) (hbase : base ≤ w.heap.size)
    (h : ∀ v' w', w'.ownsRow base e size v' (n + m) (xs ++ news) → w.grownBy w' v.ownBlock → (v'.ownBlock = v.ownBlock ∨ v'.ownBlock = some w.heap.size) → wpList P ops Q rest (a.put o.dst v') w') : wpList P ops Q (o :: rest) a w :=
  wpList_plain hgd fun _ hK => wp_append_at s x t ho base e i z size bytes ht hi hz hsize hby hzs hsz v n xs hs hown ad m c news hx hl hnews h1 h63 hbytes hbase fun v' w' h2 h3 h4 => hK _ _ (h v' w' h2 h3 h4)

/-- five stores into a box -/
theorem NBox.put {W : World} {b : Nat} {c : NC} (h : NBox W b c) (d : NC) : NBox (((((W.setCell ⟨b, 0, none⟩ (.int .i64 d.kind)).setCell ⟨b, 1, none⟩ (.int .i64 d.pos)).setCell ⟨b, 2, none⟩ (.int .i64 d.num)).setCell ⟨b, 3, none⟩ (.string ⟨d.text.toArray⟩)).setCell ⟨b, 4, none⟩ (.slice d.kp d.kl d.kc)) b d := by
  have hs : ∀ j, j < (encN d).length → (W.cell? ⟨b, 0 + j, none⟩).isSome = true := fun j hj => by
    obtain ⟨h0, h1, h2, h3, h4⟩ := h
    rw [Nat.zero_add]
    match j, hj with
    | 0, _ => rw [h0]; rfl
    | 1, _ => rw [h1]; rfl
    | 2, _ => rw [h2]; rfl
    | 3, _ => rw [h3]; rfl
    | 4, _ => rw [h4]; rfl
  have hc := World.cell?_setCells_in b (encN d) 0 W hs
  exact ⟨hc 0 (by simp [encN]), hc 1 (by simp [encN]), hc 2 (by simp [encN]), hc 3 (by simp [encN]), hc 4 (by simp [encN])⟩
def Thawed (W : World) (b : Nat) : Prop := W.frozen? ⟨b, 0, none⟩ = false ∧ W.frozen? ⟨b, 1, none⟩ = false ∧ W.frozen? ⟨b, 2, none⟩ = false ∧ W.frozen? ⟨b, 3, none⟩ = false ∧ W.frozen? ⟨b, 4, none⟩ = false
theorem Thawed.same {W W' : World} {b : Nat} (h : Thawed W b) (hb : W'.heap[b]? = W.heap[b]?) : Thawed W' b := by
  have e : ∀ i, W'.frozen? ⟨b, i, none⟩ = W.frozen? ⟨b, i, none⟩ := fun i => by simp [World.frozen?, hb]
  unfold Thawed
  rw [e, e, e, e, e]; exact h
theorem two_thawed {w W : World} (cs ds : Array Value) (ty ty' : TypeId) (h : W = (w.alloc (.cells cs ty)).alloc (.cells ds ty')) : Thawed W w.heap.size ∧ Thawed W (w.heap.size + 1) := by
  have h1 := World.alloc_heap_new w (.cells cs ty)
  have h2 := World.alloc_heap_new (w.alloc (.cells cs ty)) (.cells ds ty')
  have h3 : W.heap[w.heap.size]? = some (.cells cs ty) := by rw [h]; exact (Below.heap_alloc _ _ _ (by simp)).trans h1
  have h4 : W.heap[w.heap.size + 1]? = some (.cells ds ty') := by rw [h]; simpa using h2
  have e1 : ∀ i, W.frozen? ⟨w.heap.size, i, none⟩ = false := fun i => by simp [World.frozen?, h3]
  have e2 : ∀ i, W.frozen? ⟨w.heap.size + 1, i, none⟩ = false := fun i => by simp [World.frozen?, h4]
  exact ⟨⟨e1 0, e1 1, e1 2, e1 3, e1 4⟩, ⟨e2 0, e2 1, e2 2, e2 3, e2 4⟩⟩
/-- a row of one's own, as the kids of a tree -/
theorem kids_own {w : World} {base B : Nat} {p : Value} {ds : List NC} {k : Nat} {c : NC} {t : Nd} {ks : List Nd} (h : w.ownsRow base 24 5 p k (ds.flatMap encN)) (hB : B ≤ base)
    (hp : p = .slice c.kp c.kl c.kc) (hk : t.kids = ks) (hl : ds.length = ks.length) (h1 : c.kind = t.kind) (h2 : c.pos = t.pos) (h3 : c.num = t.num) (h4 : c.text = t.text)
    (hd : ∀ j (h : j < ds.length) (h' : j < ks.length), NodeAt (fun b => B ≤ b) w ds[j] ks[j]) : NodeAt (fun b => B ≤ b) w c t := by
  have hr := RowAt.of_owns encN_len (by omega) h
  have hlt := h.lt
  subst hp hk
  obtain ⟨p, cap, e, hle, hc⟩ := hr
  have e' := e
  injection e with e1 e2 e3
  refine .mk c t ds h1 h2 h3 h4 (by omega) ⟨p, cap, e', hle, hc.imp id ?_⟩ fun i hi hi' => hd i hi' hi
  rintro ⟨g, o, rfl, hg, hg', hcell⟩
  exact ⟨g, o, rfl, (by
    rcases h.2 with ⟨h1, h2⟩ | ⟨g', cap', cur, h1, h2, h3, h4, h5, h6, h7⟩
    · rw [e1] at h1; cases h1
    · rw [e1] at h1; injection h1 with h1; injection h1 with h1; injection h1 with h1; omega), hg', hcell⟩

theorem node_grown {w2 w3 : World} {B : Nat} {u3 v3 : Value} {d : NC} {t : Nd} {S : Nat → Prop} (h : NodeAt S w2 d t) (hS : ∀ b, S b → b < w2.heap.size → B ≤ b ∧ u3.ownBlock ≠ some b) (hal : w2.grownBy w3 u3.ownBlock)
    (hat : v3.ownBlock = u3.ownBlock ∨ ∃ n, v3.ownBlock = some n ∧ w2.heap.size ≤ n) : NodeAt (fun b => B ≤ b ∧ v3.ownBlock ≠ some b) w3 d t := by
  have h1 : NodeAt (fun b => b < w2.heap.size ∧ B ≤ b ∧ u3.ownBlock ≠ some b) w2 d t := h.mono fun b hb hl => ⟨hl, hS b hb hl⟩
  have h2 := h1.keeps (w' := w3) ⟨hal.size, fun b hb hl => hal.block b hl (fun e => hb.2.2 e.symm)⟩
  refine h2.mono fun b hb _ => ⟨hb.2.1, fun e => ?_⟩
  rcases hat with e2 | ⟨n, e2, hn⟩
  · exact hb.2.2 (e2 ▸ e)
  · rw [e2] at e; injection e with e; have := hb.1; omega

/-- the end of both: the kids into the box, the box into the result -/
theorem strip_end {w W wr : World} {c z : NC} {t : Nd} {ds : List NC} {q : Option Addr} {cap : Nat} (hWs : W.heap.size = w.heap.size + 2) (hy : NBox wr (w.heap.size + 1) z) (hBW : Below w.heap.size w W) (hB : Below W.heap.size W wr)
    (hown : wr.ownsRow W.heap.size 24 5 (.slice q c.kl cap) c.kl (ds.flatMap encN)) (hd : ds.length = c.kl) (hl : c.kl = t.kids.length) (hf : c.kind = t.kind ∧ c.num = t.num ∧ c.text = t.text)
    (hk : ∀ j (h : j < ds.length) (h' : j < t.kids.length), NodeAt (fun b => W.heap.size ≤ b) wr ds[j] t.kids[j].strip) :
    ∃ W7, W7 = ((((((wr.setCell ⟨w.heap.size, 4, none⟩ (.slice q c.kl cap)).setCell ⟨w.heap.size + 1, 0, none⟩ (.int .i64 c.kind)).setCell ⟨w.heap.size + 1, 1, none⟩ (.int .i64 0)).setCell ⟨w.heap.size + 1, 2, none⟩ (.int .i64 c.num)).setCell
      ⟨w.heap.size + 1, 3, none⟩ (.string ⟨c.text.toArray⟩)).setCell ⟨w.heap.size + 1, 4, none⟩ (.slice q c.kl cap)) ∧
      NBox W7 (w.heap.size + 1) ⟨c.kind, 0, c.num, c.text, q, c.kl, cap⟩ ∧ NodeAt (fun b => w.heap.size ≤ b) W7 ⟨c.kind, 0, c.num, c.text, q, c.kl, cap⟩ t.strip ∧ Below w.heap.size w W7 := by
  have hy1 : NBox (wr.setCell ⟨w.heap.size, 4, none⟩ (.slice q c.kl cap)) (w.heap.size + 1) z := hy.same (Below.heap_setCell _ _ _ _ (by simp))
  refine ⟨_, rfl, hy1.put ⟨c.kind, 0, c.num, c.text, q, c.kl, cap⟩, ?_, ?_⟩
  · have hown7 := ownsRow_setCell_below (ownsRow_setCell_below (ownsRow_setCell_below (ownsRow_setCell_below (ownsRow_setCell_below (ownsRow_setCell_below hown (a := ⟨w.heap.size, 4, none⟩) (by show w.heap.size < _; omega) (.slice q c.kl cap))
      (a := ⟨w.heap.size + 1, 0, none⟩) (by show w.heap.size + 1 < _; omega) (.int .i64 c.kind)) (a := ⟨w.heap.size + 1, 1, none⟩) (by show w.heap.size + 1 < _; omega) (.int .i64 0)) (a := ⟨w.heap.size + 1, 2, none⟩) (by show w.heap.size + 1 < _; omega) (.int .i64 c.num))
      (a := ⟨w.heap.size + 1, 3, none⟩) (by show w.heap.size + 1 < _; omega) (.string ⟨c.text.toArray⟩)) (a := ⟨w.heap.size + 1, 4, none⟩) (by show w.heap.size + 1 < _; omega) (.slice q c.kl cap)
    have hkeep : Keeps (fun b => W.heap.size ≤ b) wr (((((((wr.setCell ⟨w.heap.size, 4, none⟩ (.slice q c.kl cap)).setCell ⟨w.heap.size + 1, 0, none⟩ (.int .i64 c.kind)).setCell ⟨w.heap.size + 1, 1, none⟩ (.int .i64 0)).setCell ⟨w.heap.size + 1, 2, none⟩ (.int .i64 c.num)).setCell
      ⟨w.heap.size + 1, 3, none⟩ (.string ⟨c.text.toArray⟩)).setCell ⟨w.heap.size + 1, 4, none⟩ (.slice q c.kl cap))) := by
      refine ⟨by simp, fun k hk _ => ?_⟩
      have h0 : k ≠ w.heap.size := by omega
      have h1 : k ≠ w.heap.size + 1 := by omega
      rw [Below.heap_setCell _ _ _ _ (by simpa using h1), Below.heap_setCell _ _ _ _ (by simpa using h1), Below.heap_setCell _ _ _ _ (by simpa using h1), Below.heap_setCell _ _ _ _ (by simpa using h1), Below.heap_setCell _ _ _ _ (by simpa using h1), Below.heap_setCell _ _ _ _ (by simpa using h0)]
    refine kids_own hown7 (B := w.heap.size) (ks := Nd.strips t.kids) (by omega) rfl (by rw [Nd.strip_eq]; rfl) (by rw [Nd.strips_len]; omega) ?_ ?_ ?_ ?_ fun j h h' => ?_
    · rw [Nd.strip_eq]; exact hf.1
    · rw [Nd.strip_eq]; rfl
    · rw [Nd.strip_eq]; exact hf.2.1
    · rw [Nd.strip_eq]; exact hf.2.2
    · rw [Nd.strips_at _ _ _ (by omega)]
      exact ((hk j h (by omega)).keeps hkeep).mono fun k hk _ => by omega
  · repeat refine Below.setCell ?_ (by simp) _
    exact hBW.trans (hB.mono (by omega))

set_option maxRecDepth 100000 in
set_option maxHeartbeats 4000000 in
theorem refstrip_any (t : Nd) : ∀ (S : Nat → Prop) (c : NC) (w : World), NodeAt S w c t → t.size ≤ 1000000 → Calls Try.prog 17 #[c.val] w (NewNode t.strip w) := by
  induction t using Nd.by_size with
  | h t ih =>
    intro S c w h hsz
    have HN := Lib.hid h
    have HLN := Lib.hid h.len
    have HI := Lib.hid ih
    have HT := Lib.hid hsz
    have hk6 := Nd.len_le t
    have hk6 : c.kl ≤ 1000000 := by have := h.len; omega
    have hkc : c.kl ≤ c.kc := by obtain ⟨ncs, -, ⟨p, cap, e, hl, -⟩, -⟩ := h.row; injection e; omega
    have HF := Lib.hid (⟨h.kind, h.num, h.text⟩ : c.kind = t.kind ∧ c.num = t.num ∧ c.text = t.text)
    obtain ⟨W, hW, hWs, hbx, hby, hBW⟩ := two_boxes w ⟨c.kind, 0, c.num, c.text, c.kp, c.kl, c.kc⟩ zN
    clear h ih hsz
    dsimp only [zN] at hW hby
    have HTW := Lib.hid (two_thawed _ _ _ _ hW)
    unfold NC.val
    obtain ⟨i0, hi0, hz0, hz1, hz2⟩ := info_parts infoNode
    go_enter Try.func17, Try.ntmps17
    go_upto_block 0 with fail
    rw [← hW]
    clear hW
    have HBX := Lib.hid hbx
    have HBY := Lib.hid hby
    have HBW := Lib.hid hBW
    clear hBW hbx hby
    go_wp2_with fail
    go_loopg [3, 4] c.kl (fun g p i wr => ∃ (k : Nat) (ds : List NC), k + g = c.kl ∧ i = .int .i64 (k : Int) ∧ Hid (ds.length = k) ∧ wr.ownsRow W.heap.size 24 5 p k (ds.flatMap encN) ∧
      Hid (∀ j (h : j < ds.length) (h' : j < t.kids.length), NodeAt (fun b => W.heap.size ≤ b ∧ p.ownBlock ≠ some b) wr ds[j] t.kids[j].strip) ∧ Below W.heap.size W wr)
    case atStart => exact ⟨0, [], by omega, rfl, rfl, World.ownsRow_nil _ _ _ _, fun j h => absurd h (Nat.not_lt_zero _), Below.refl _ _⟩
    case round =>
      obtain ⟨k, ds, hkg, rfl, HD, hown, HK, hB⟩ := hrel
      obtain ⟨x0, x1, x2, x3, x4⟩ := HBX.out.same (hB.block w.heap.size (by omega))
      dsimp only at x0 x1 x2 x3 x4
      cases gk with
      | zero =>
        obtain rfl : k = c.kl := by omega
        obtain ⟨y0, y1, y2, y3, y4⟩ := HBY.out.same (hB.block (w.heap.size + 1) (by omega))
        dsimp only [zN] at y0 y1 y2 y3 y4
        obtain ⟨q, cap, rfl⟩ : ∃ q cap, u3 = .slice q c.kl cap := by
          obtain ⟨q, cap, e, -⟩ := RowAt.of_owns encN_len (by omega) hown
          exact ⟨q, cap, by rw [e, HD.out]⟩
        have HOWN := Lib.hid hown
        clear hown
        obtain ⟨f0, f1, f2, f3, f4⟩ := HTW.out.1.same (hB.block w.heap.size (by omega))
        obtain ⟨e0, e1, e2, e3, e4⟩ := HTW.out.2.same (hB.block (w.heap.size + 1) (by omega))
        have HY := HBY.out.same (hB.block (w.heap.size + 1) (by omega))
        obtain ⟨W7, hW7, hb7, hn7, hB7⟩ := strip_end hWs HY HBW.out hB HOWN.out HD.out HLN.out HF.out fun j h h' => (HK.out j h h').mono fun k hk _ => hk.1
        go_wp2_with fail
        rw [← hW7]
        obtain ⟨z0, z1, z2, z3, z4⟩ := hb7
        dsimp only at z0 z1 z2 z3 z4
        refine bodyPost_ret (v := NC.val ⟨c.kind, 0, c.num, c.text, q, c.kl, cap⟩) (by simp [results, Try.results17, go_sem, z0, z1, z2, z3, z4, NC.val]) rfl ⟨_, rfl, hn7, hB7⟩
      | succ g =>
        have hlt : k < c.kl := by omega
        have hlt' : (k : Int) < c.kl := by omega
        have hkt : k < t.kids.length := by rw [← HLN.out]; exact hlt
        obtain ⟨kc, g1, o1, hp1, -, hg1, -, -, hK1, hcell1⟩ := HN.out.kid k hkt
        have hBw : Below w.heap.size w wr := HBW.out.trans (hB.mono (by omega))
        have HC := HI.out _ (Nd.kid_at hkt) S kc wr (hK1.later hBw) (by have := Nd.kid_at hkt; have := HT.out; omega)
        obtain ⟨p0, p1, p2, p3, p4⟩ := hcell1 wr (hBw.block _ hg1)
        rw [hp1] at x4
        have HBw := Lib.hid hBw
        have HOWN := Lib.hid hown
        clear hp1 hcell1 hK1 hBw hown
        unfold NC.val at HC
        go_wp2_with fail
        refine HC.mono ?_; rintro e w2 ⟨d, rfl, hd, hB3⟩
        have hown2 := own_later HOWN.out hB3
        have HD3 := Lib.hid hd
        unfold NC.val
        clear hd
        go_wp2_with (at_builtin; refine wpList_append_at rfl _ _ 22 rfl W.heap.size 24 i0 _ 5 64 Try.underlying22 hi0 hz0 hz1 hz2 rfl (by decide) _ _ _ rfl (hown2.alloc _) ⟨_, 0, none⟩ 1 1 (encN d) rfl rfl (cells_of_new _ _ _ _ rfl) (encN_one d) ?_ ?_ ?_ ?_; (unfold maxLen; omega); omega; (have := hB.size; have := hB3.size; simp; omega); intro v3 w3 ho3 hg3 hat3)
        have hszw := hB.size
        have hsz2 := hB3.size
        have hal := (World.grownBy_alloc w2 _ u3.ownBlock).andThen hg3 (fun j hj => .inr hj)
        have hat4 : v3.ownBlock = u3.ownBlock ∨ ∃ n, v3.ownBlock = some n ∧ w2.heap.size ≤ n := hat3.imp id fun e => ⟨_, e, by simp⟩
        have HR2 : Hid (∀ j (h : j < (ds ++ [d]).length) (h' : j < t.kids.length), NodeAt (fun b => W.heap.size ≤ b ∧ v3.ownBlock ≠ some b) w3 (ds ++ [d])[j] t.kids[j].strip) := by
          intro j h h'
          by_cases hj : j < ds.length
          · rw [List.getElem_append_left hj]
            exact node_grown ((HK.out j hj h').later hB3) (fun b hb _ => hb) hal hat4
          · have e : j = k := by rw [List.length_append, HD.out] at h; rw [HD.out] at hj; simp at h; omega
            subst e
            rw [List.getElem_append_right (by omega)]
            simp only [HD.out, Nat.sub_self, List.getElem_singleton]
            exact node_grown HD3.out (fun b hb _ => ⟨by omega, fun e => by have := (HOWN.out.lt b e).2; omega⟩) hal hat4
        go_roundg g
        case measure => omega
        case rel =>
          refine ⟨k + 1, ds ++ [d], by omega, by go_num, (by show (ds ++ [d]).length = k + 1; rw [List.length_append, HD.out]; rfl), by rw [List.flatMap_append, List.flatMap_cons, List.flatMap_nil, List.append_nil]; exact ho3, HR2, ?_⟩
          exact hB.trans (hB3.mono hszw |>.trans ⟨hal.os, hal.tape, hal.output, hal.size, fun b hb => hal.block b (by omega) (fun e => by have := (HOWN.out.lt b e.symm).1; omega)⟩)
theorem split_five : ∀ (l : List Value), 5 ≤ l.length → ∃ x0 x1 x2 x3 x4 r, l = x0 :: x1 :: x2 :: x3 :: x4 :: r
  | a :: b :: c :: d :: e :: r, _ => ⟨a, b, c, d, e, r, rfl⟩
  | [], h => by simp at h
  | [_], h => by simp at h
  | [_, _], h => by simp at h
  | [_, _, _], h => by simp at h
  | [_, _, _, _], h => by simp at h
/-- five cells of a row set -/
theorem take_five {cs pre : List Value} {k : Nat} (h : cs.take (k * 5) = pre) (hl : k * 5 + 5 ≤ cs.length) (a b c d e : Value) :
    (((((cs.set (k * 5) a).set (k * 5 + 1) b).set (k * 5 + 2) c).set (k * 5 + 3) d).set (k * 5 + 4) e).take ((k + 1) * 5) = pre ++ [a, b, c, d, e] := by
  have hpl : pre.length = k * 5 := by rw [← h, List.length_take]; omega
  obtain ⟨x0, x1, x2, x3, x4, r, hr⟩ := split_five (cs.drop (k * 5)) (by rw [List.length_drop]; omega)
  have hcs : cs = pre ++ x0 :: x1 :: x2 :: x3 :: x4 :: r := by rw [← h, ← hr, List.take_append_drop]
  have hset : ∀ (l : List Value) (m : Nat) (v : Value), (pre ++ l).set (k * 5 + m) v = pre ++ l.set m v := fun l m v => by
    rw [List.set_append_right _ _ (by omega), hpl, Nat.add_sub_cancel_left]
  have hset0 : ∀ (l : List Value) (v : Value), (pre ++ l).set (k * 5) v = pre ++ l.set 0 v := fun l v => hset l 0 v
  rw [hcs, hset0, hset, hset, hset, hset, List.take_append, hpl, List.take_of_length_le (by omega)]
  have e5 : (k + 1) * 5 - k * 5 = 5 := by omega
  rw [e5]
  rfl

set_option maxRecDepth 100000 in
set_option maxHeartbeats 4000000 in
theorem strip_any (t : Nd) : ∀ (S : Nat → Prop) (c : NC) (w : World), NodeAt S w c t → t.size ≤ 1000000 → Calls Try.prog 13 #[c.val] w (NewNode t.strip w) := by
  induction t using Nd.by_size with
  | h t ih =>
    intro S c w h hsz
    have HN := Lib.hid h
    have HLN := Lib.hid h.len
    have HI := Lib.hid ih
    have HT := Lib.hid hsz
    have hk6 := Nd.len_le t
    have hk6 : c.kl ≤ 1000000 := by have := h.len; omega
    have hkc : c.kl ≤ c.kc := by obtain ⟨ncs, -, ⟨p, cap, e, hl, -⟩, -⟩ := h.row; injection e; omega
    have HF := Lib.hid (⟨h.kind, h.num, h.text⟩ : c.kind = t.kind ∧ c.num = t.num ∧ c.text = t.text)
    obtain ⟨W, hW, hWs, hbx, hby, hBW⟩ := two_boxes w ⟨c.kind, 0, c.num, c.text, c.kp, c.kl, c.kc⟩ zN
    clear h ih hsz
    dsimp only [zN] at hW hby
    have HTW := Lib.hid (two_thawed _ _ _ _ hW)
    unfold NC.val
    obtain ⟨i0, hi0, hz0, hz1, hz2⟩ := info_parts infoNode
    obtain ⟨Wm, hmk, hownm, hgm⟩ := run_makeSlice_full (P := Try.prog) W W.heap.size 22 24 i0 _ 5 Try.underlying22 hi0 hz0 hz1 .i64 .i64 c.kl (by omega) (by rw [hz2]; omega) (by unfold maxLen; omega) (Nat.le_refl _)
    have hBm := grown_none hgm
    have hBm5 := hownm.lt W.heap.size rfl
    have HWS := Lib.hid hWs
    clear hWs
    go_enter Try.func13, Try.ntmps13
    go_upto_region 2 with fail
    rw [← hW]
    clear hW
    have HBX := Lib.hid hbx
    have HBY := Lib.hid hby
    have HBW := Lib.hid hBW
    have HBM := Lib.hid hBm
    have HOWM := Lib.hid hownm
    obtain ⟨x0, x1, x2, x3, x4⟩ := HBX.out
    obtain ⟨v0, v1, v2, v3, v4⟩ := HBX.out.same (hBm.block w.heap.size (by have := HWS.out; omega))
    dsimp only at x0 x1 x2 x3 x4 v0 v1 v2 v3 v4
    clear hBW hbx hby hgm hownm
    go_wp2_with fail
    go_loopg [14] c.kl (fun g i wr => ∃ (k : Nat) (ds : List NC) (cs : List Value), k + g = c.kl ∧ i = .int .i64 (k : Int) ∧ Hid (ds.length = k) ∧ Hid (cs.take (k * 5) = ds.flatMap encN) ∧ wr.ownsRow W.heap.size 24 5 (.slice (some ⟨W.heap.size, 0, none⟩) c.kl c.kl) c.kl cs ∧
      Hid (∀ j (h : j < ds.length) (h' : j < t.kids.length), NodeAt (fun b => W.heap.size < b) wr ds[j] t.kids[j].strip) ∧ Below W.heap.size W wr ∧ W.heap.size < wr.heap.size)
    case atStart => exact ⟨0, [], _, by omega, rfl, rfl, by show _ = _; rw [Nat.zero_mul]; rfl, HOWM.out, fun j h => absurd h (Nat.not_lt_zero _), hBm, hBm5.2⟩
    case round =>
      obtain ⟨k, ds, cs, hkg, rfl, HD, HC5, hown, HK, hB, hsz⟩ := hrel
      have hcl := hown.1
      clear x0 x1 x2 x3 x4 v0 v1 v2 v3 v4
      cases gk with
      | zero =>
        obtain rfl : k = c.kl := by omega
        obtain rfl : cs = ds.flatMap encN := by rw [← HC5.out, List.take_of_length_le (by omega)]
        obtain ⟨x0, x1, x2, x3, x4⟩ := HBX.out.same (hB.block w.heap.size (by have := HWS.out; omega))
        dsimp only at x0 x1 x2 x3 x4
        obtain ⟨y0, y1, y2, y3, y4⟩ := HBY.out.same (hB.block (w.heap.size + 1) (by have := HWS.out; omega))
        dsimp only [zN] at y0 y1 y2 y3 y4
        have HOWN := Lib.hid hown
        clear hown hcl
        obtain ⟨f0, f1, f2, f3, f4⟩ := HTW.out.1.same (hB.block w.heap.size (by have := HWS.out; omega))
        obtain ⟨e0, e1, e2, e3, e4⟩ := HTW.out.2.same (hB.block (w.heap.size + 1) (by have := HWS.out; omega))
        have HY := HBY.out.same (hB.block (w.heap.size + 1) (by have := HWS.out; omega))
        obtain ⟨W7, hW7, hb7, hn7, hB7⟩ := strip_end HWS.out HY HBW.out hB HOWN.out HD.out HLN.out HF.out fun j h h' => (HK.out j h h').mono fun k hk _ => Nat.le_of_lt hk
        go_wp2_with fail
        rw [← hW7]
        obtain ⟨z0, z1, z2, z3, z4⟩ := hb7
        dsimp only at z0 z1 z2 z3 z4
        refine bodyPost_ret (v := NC.val ⟨c.kind, 0, c.num, c.text, _, c.kl, c.kl⟩) (by simp [results, Try.results13, go_sem, z0, z1, z2, z3, z4, NC.val]) rfl ⟨_, rfl, hn7, hB7⟩
      | succ g =>
        have hlt : k < c.kl := by omega
        have hlt' : (k : Int) < c.kl := by omega
        have hkt : k < t.kids.length := by rw [← HLN.out]; exact hlt
        obtain ⟨kc, g1, o1, hp1, -, hg1, -, -, hK1, hcell1⟩ := HN.out.kid k hkt
        have hBw : Below w.heap.size w wr := HBW.out.trans (hB.mono (by have := HWS.out; omega))
        have hB1 : Below wr.heap.size wr (wr.alloc (.cells #[.int .i64 kc.kind, .int .i64 kc.pos, .int .i64 kc.num, .string ⟨kc.text.toArray⟩, .slice kc.kp kc.kl kc.kc] 24)) := (Below.refl _ wr).alloc (Nat.le_refl _) _
        have HC := HI.out _ (Nd.kid_at hkt) S kc _ ((hK1.later hBw).later hB1) (by have := Nd.kid_at hkt; have := HT.out; omega)
        obtain ⟨p0, p1, p2, p3, p4⟩ := hcell1 wr (hBw.block _ hg1)
        have HKP := Lib.hid hp1
        have HBw := Lib.hid hBw
        have HOWN := Lib.hid hown
        have HB1 := Lib.hid hB1
        clear hcell1 hK1 hBw hown hB1 hcl
        unfold NC.val at HC
        go_wp2_with fail
        refine HC.mono ?_; rintro e w2 ⟨d, rfl, hd, hB3⟩
        have hB4 : Below wr.heap.size wr w2 := HB1.out.trans (hB3.mono (by simp))
        have hown2 := own_later HOWN.out hB4
        have hcl := HOWN.out.1
        have q0 := hown2.frozenAt (k * 5)
        have q1 := hown2.frozenAt (k * 5 + 1)
        have q2 := hown2.frozenAt (k * 5 + 2)
        have q3 := hown2.frozenAt (k * 5 + 3)
        have q4 := hown2.frozenAt (k * 5 + 4)
        have s1 := hown2.stored (k * 5) (.int .i64 d.kind)
        have s2 := s1.1.stored (k * 5 + 1) (.int .i64 d.pos)
        have s3 := s2.1.stored (k * 5 + 2) (.int .i64 d.num)
        have s4 := s3.1.stored (k * 5 + 3) (.string ⟨d.text.toArray⟩)
        have s5 := s4.1.stored (k * 5 + 4) (.slice d.kp d.kl d.kc)
        have HT5 := Lib.hid (take_five HC5.out (by omega) (.int .i64 d.kind) (.int .i64 d.pos) (.int .i64 d.num) (.string ⟨d.text.toArray⟩) (.slice d.kp d.kl d.kc))
        have exc : ∀ j, j < c.kl * 5 → ∃ z, w2.cell? ⟨W.heap.size, j, none⟩ = some z := fun j hj => ⟨_, (hown2.cellAt j hj).trans (List.getElem?_eq_getElem (by omega))⟩
        obtain ⟨z0, c0⟩ := exc (k * 5) (by omega)
        obtain ⟨z1, c1⟩ := exc (k * 5 + 1) (by omega)
        obtain ⟨z2, c2⟩ := exc (k * 5 + 2) (by omega)
        obtain ⟨z3, c3⟩ := exc (k * 5 + 3) (by omega)
        obtain ⟨z4, c4⟩ := exc (k * 5 + 4) (by omega)
        have HO7 := Lib.hid s5.1
        have HG7 : Hid (w2.grownBy _ (some W.heap.size)) := (((s1.2.andThen s2.2 (fun j hj => .inr hj)).andThen s3.2 (fun j hj => .inr hj)).andThen s4.2 (fun j hj => .inr hj)).andThen s5.2 (fun j hj => .inr hj)
        have HD3 := Lib.hid hd
        unfold NC.val
        clear hd s1 s2 s3 s4 s5 hown2 hcl exc hp1
        go_wp2_with fail
        have hwr := hB4.size
        have HR2 : Hid (∀ j (h : j < (ds ++ [d]).length) (h' : j < t.kids.length), NodeAt (fun b => W.heap.size < b) (((((w2.setCell ⟨W.heap.size, k * 5, none⟩ (.int .i64 d.kind)).setCell ⟨W.heap.size, k * 5 + 1, none⟩ (.int .i64 d.pos)).setCell ⟨W.heap.size, k * 5 + 2, none⟩ (.int .i64 d.num)).setCell
            ⟨W.heap.size, k * 5 + 3, none⟩ (.string ⟨d.text.toArray⟩)).setCell ⟨W.heap.size, k * 5 + 4, none⟩ (.slice d.kp d.kl d.kc)) (ds ++ [d])[j] t.kids[j].strip) := by
          have hkeep : ∀ W8, w2.grownBy W8 (some W.heap.size) → Keeps (fun b => W.heap.size < b) w2 W8 := fun W8 hg => ⟨hg.size, fun b hb hl => hg.block b hl (fun e => by injection e with e; omega)⟩
          intro j h h'
          by_cases hj : j < ds.length
          · rw [List.getElem_append_left hj]
            exact ((HK.out j hj h').later hB4).keeps (hkeep _ HG7.out)
          · have e : j = k := by rw [List.length_append, HD.out] at h; rw [HD.out] at hj; simp at h; omega
            subst e
            rw [List.getElem_append_right (by omega)]
            simp only [HD.out, Nat.sub_self, List.getElem_singleton]
            exact (HD3.out.mono fun b hb _ => by simp at hb; omega).keeps (hkeep _ HG7.out)
        go_roundg g
        case measure => omega
        case rel =>
          refine ⟨k + 1, ds ++ [d], _, by omega, by go_num, (by show (ds ++ [d]).length = k + 1; rw [List.length_append, HD.out]; rfl), (by show _ = _; rw [List.flatMap_append, List.flatMap_cons, List.flatMap_nil, List.append_nil]; exact HT5.out), HO7.out, HR2, ?_, by simp; omega⟩
          repeat refine Below.setCell ?_ (by simp) _
          exact hB.trans (hB4.mono (by omega))
end Go.Proofs.Ytobmpipifdielaa
