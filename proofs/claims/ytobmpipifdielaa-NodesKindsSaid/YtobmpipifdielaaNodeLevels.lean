/- The contract of the closure that nodes.levels hands back. -/
import Derived.Test.YtobmpipifdielaaNodeWalk
import Derived.Test.YtobmpipifdielaaIterLow
import Derived.Deep.LoopGhost
import Derived.Deep.Cut
import Derived.Deep.RegionHeld3
import Derived.Maps.AppendAt
namespace Go.Proofs.Ytobmpipifdielaa
open Go.RowKit Go.Shelf

attribute [local go_sem] Oper.semAt_some

def encsT (x : Td) : Array Value := #[.int .i64 x.level, x.cells.val]
theorem infoTodo : (Try.prog.info? 37).map (fun i => (i.zero, i.size, i.bytes)) = some (some (.agg #[.int .i64 0, .int .i64 0, .int .i64 0, .int .i64 0, .string ⟨#[]⟩, .slice none 0 0]), 6, 72) := by kernel_rfl
/-- a row of the call's own, one shorter -/
theorem own_pop {w : World} {base : Nat} {e : TypeId} {k : Nat} {g n cap : Nat} {cs ds : List Value} (h : w.ownsRow base e k (.slice (some ⟨g, 0, none⟩) (n + 1) cap) (n + 1) (cs ++ ds)) (hc : cs.length = n * k) : w.ownsRow base e k (.slice (some ⟨g, 0, none⟩) n cap) n cs := by
  refine ⟨hc, ?_⟩
  rcases h.2 with ⟨h1, _⟩ | ⟨g', cap', cur, h1, h2, h3, h4, h5, h6, h7⟩
  · simp at h1
  · simp only [Value.slice.injEq, Option.some.injEq, Addr.mk.injEq, and_true, true_and] at h1
    obtain ⟨rfl, rfl⟩ := h1
    refine .inr ⟨g, cap, cur, rfl, h2, h3, by omega, h5, h6, ?_⟩
    have e1 : cur.toList.take (n * k) = (cur.toList.take ((n + 1) * k)).take (n * k) := by
      rw [List.take_take, Nat.min_eq_left (Nat.mul_le_mul_right k (by omega))]
    rw [e1, h7, ← hc, List.take_left']
    rfl
theorem own_cap {w : World} {base : Nat} {e : TypeId} {k : Nat} {p : Option Addr} {n m cap : Nat} {cs : List Value} (h : w.ownsRow base e k (.slice p m cap) n cs) : n ≤ cap := by
  rcases h.2 with ⟨h1, h2⟩ | ⟨g', cap', cur, h1, h2, h3, h4, h5, h6, h7⟩
  · omega
  · simp only [Value.slice.injEq] at h1
    omega
/-- the last one's cells -/
theorem own_last {w : World} {base : Nat} {e : TypeId} {g n cap : Nat} {cs : List Value} {x : Td} (h : w.ownsRow base e 6 (.slice (some ⟨g, 0, none⟩) (n + 1) cap) (n + 1) (cs ++ encT x)) (hc : cs.length = n * 6) :
    w.cell? ⟨g, n * 6, none⟩ = some (.int .i64 x.level) ∧ w.cell? ⟨g, n * 6 + 1, none⟩ = some (.int .i64 x.cells.kind) ∧ w.cell? ⟨g, n * 6 + 2, none⟩ = some (.int .i64 x.cells.pos) ∧ w.cell? ⟨g, n * 6 + 3, none⟩ = some (.int .i64 x.cells.num) ∧
      w.cell? ⟨g, n * 6 + 4, none⟩ = some (.string ⟨x.cells.text.toArray⟩) ∧ w.cell? ⟨g, n * 6 + 5, none⟩ = some (.slice x.cells.kp x.cells.kl x.cells.kc) := by
  have at' : ∀ m u, (encT x)[m]? = some u → w.cell? ⟨g, n * 6 + m, none⟩ = some u := fun m u hu => by
    have := h.cells (g := g) rfl (n * 6 + m) u (by rw [List.getElem?_append_right (by omega), hc, Nat.add_sub_cancel_left]; exact hu)
    rw [Addr.add_lit, Nat.zero_add] at this
    exact this
  exact ⟨at' 0 _ rfl, at' 1 _ rfl, at' 2 _ rfl, at' 3 _ rfl, at' 4 _ rfl, at' 5 _ rfl⟩
theorem cells_of_new (w : World) (cs : Array Value) (ty : TypeId) (l : List Value) (h : cs.toList = l) : ∀ j u, l[j]? = some u → (w.alloc (.cells cs ty)).cell? ((⟨w.heap.size, 0, none⟩ : Addr).add j) = some u := fun j u hu => by
  rw [Addr.add_lit, Nat.zero_add, World.cell?_alloc_at _ _ _ _ rfl]
  rw [← h] at hu
  have : cs[j]? = some u := by rw [← Array.getElem?_toList]; exact hu
  simpa using this
theorem wp_append_at {P : Program} {w : World} {o : Oper} {a : Act} {K : Act → World → Prop} {Q : Exit → Act → World → Prop} (s x : Operand) (t : TypeId)
    (ho : o.op = .call { callee := .builtin .append, args := #[s, x], argTypes := #[t, t] })
    (base : Nat) (e : TypeId) (i : TypeInfo) (z : Value) (size bytes : Nat) (ht : P.underlying t = some (.slice e)) (hi : P.info? e = some i) (hz : i.zero = some z)
    (hsize : i.size = size) (hby : i.bytes = bytes) (hzs : z.cells.size = size) (hsz : 0 < size)
    (v : Value) (n : Nat) (xs : List Value) (hs : a.eval s = v) (hown : w.ownsRow base e size v n xs)
    (ad : Addr) (m c : Nat) (news : List Value) (hx : a.eval x = .slice (some ad) m c) (hl : news.length = m * size) (hnews : ∀ j u, news[j]? = some u → w.cell? (ad.add j) = some u) (h1 : ∀ u ∈ news, u.oneCell' = true)
    (h63 : n + m ≤ maxLen) (hbytes : (n + m) * bytes ≤ 140737488355328) (hbase : base ≤ w.heap.size)
    (h : ∀ v' w', w'.ownsRow base e size v' (n + m) (xs ++ news) → w.grownBy w' v.ownBlock → (v'.ownBlock = v.ownBlock ∨ v'.ownBlock = some w.heap.size) → K (a.put o.dst v') w') : o.wp P a w K Q := by
  obtain ⟨v', w', hr, h2, h3, -, h5⟩ := run_append_own_at (P := P) w base t o.type e i z size bytes ht hi hz hsize hby hzs hsz v n xs hown ad m c news hl hnews h1 h63 hbytes hbase
  unfold Oper.wp
  simp [execOp, ho, resolve, invoke, builtin, hs, hx, hr, Result.andThen]
  exact h v' w' h2 h3 h5
theorem below_of_own {w w' : World} {base B n size : Nat} {e : TypeId} {v : Value} {cs : List Value} (ho : w.ownsRow base e size v n cs) (hg : w.drew.grownBy w' v.ownBlock) (hB : B ≤ w.heap.size) (hb : base ≤ B) : Below base w w' :=
  ⟨hg.os, hg.tape, hg.output, hg.size, fun k hk => hg.block k (show k < w.heap.size by omega) (fun e => by have := (ho.lt k e.symm).1; omega)⟩
/-- a block of six cells -/
def TBox (w : World) (b : Nat) (x : Td) : Prop := w.cell? ⟨b, 0, none⟩ = some (.int .i64 x.level) ∧ w.cell? ⟨b, 1, none⟩ = some (.int .i64 x.cells.kind) ∧ w.cell? ⟨b, 2, none⟩ = some (.int .i64 x.cells.pos) ∧ w.cell? ⟨b, 3, none⟩ = some (.int .i64 x.cells.num) ∧
      w.cell? ⟨b, 4, none⟩ = some (.string ⟨x.cells.text.toArray⟩) ∧ w.cell? ⟨b, 5, none⟩ = some (.slice x.cells.kp x.cells.kl x.cells.kc)
theorem TBox.new (w : World) (x : Td) (ty : TypeId) : TBox (w.alloc (.cells #[.int .i64 x.level, .int .i64 x.cells.kind, .int .i64 x.cells.pos, .int .i64 x.cells.num, .string ⟨x.cells.text.toArray⟩, .slice x.cells.kp x.cells.kl x.cells.kc] ty)) w.heap.size x := by
  unfold TBox
  simp only [World.cell?_alloc_at _ _ _ _ rfl]
  exact ⟨rfl, rfl, rfl, rfl, rfl, rfl⟩
theorem TBox.same {w w' : World} {b : Nat} {x : Td} (h : TBox w b x) (hb : w'.heap[b]? = w.heap[b]?) : TBox w' b x := by
  unfold TBox at h ⊢
  have e : ∀ i, w'.cell? ⟨b, i, none⟩ = w.cell? ⟨b, i, none⟩ := fun i => World.cell?_of_block (a := ⟨b, i, none⟩) hb
  rw [e, e, e, e, e, e]; exact h
theorem own_same {w w' : World} {base n size : Nat} {e : TypeId} {v : Value} {cs : List Value} (h : w.ownsRow base e size v n cs) (hs : ∀ g, v.ownBlock = some g → w'.heap[g]? = w.heap[g]?) : w'.ownsRow base e size v n cs := by
  refine ⟨h.1, h.2.imp id ?_⟩
  rintro ⟨g, cap, cur, rfl, h2, h3, rest⟩
  exact ⟨g, cap, cur, rfl, h2, (hs g rfl).trans h3, rest⟩
theorem tbox_at {w : World} {b : Nat} {x : Td} (h : TBox w b x) : ∀ j u, (encT x)[j]? = some u → w.cell? ((⟨b, 0, none⟩ : Addr).add j) = some u := fun j u hu => by
  rw [Addr.add_lit, Nat.zero_add]
  obtain ⟨h0, h1, h2, h3, h4, h5⟩ := h
  match j, hu with
  | 0, hu => cases hu; exact h0
  | 1, hu => cases hu; exact h1
  | 2, hu => cases hu; exact h2
  | 3, hu => cases hu; exact h3
  | 4, hu => cases hu; exact h4
  | 5, hu => cases hu; exact h5

set_option maxRecDepth 100000 in
set_option maxHeartbeats 8000000 in
theorem levels1_gives (n : Nat) (hn : 1 ≤ n) (S C : Nat → Prop) (w : World) (h : Nat) (c : NC) (t : Nd) (xs : List Td) (hb : NBox w h c) (hh : h < w.heap.size) (hCh : ¬ C h) (hCw : ∀ k, C k → k < w.heap.size) (hCS : ∀ k, S k → ¬ C k) (hSw : ∀ k, S k → k < w.heap.size)
    (hc : Comes S w [⟨1, c, t⟩] xs) (hsz : t.size ≤ 1000000) :
    GivesLow n Try.prog 39 #[.pointer (some ⟨h, 0, none⟩)] encsT xs C w := by
  intro l J Jx W hW hl1 hl2 hJ hJx hY h0
  have hbW := hb.same (hW.block h hh)
  have hcW := hc.kept (.of_below (S := S) hW)
  have hn1 : NodeAt S W c t := by cases hcW; assumption
  have HC0 := Lib.hid hcW
  have HY := Lib.hid hY
  have HJ := Lib.hid hJ
  have HJx := Lib.hid hJx
  have HS := Lib.hid (fun k => hCS k)
  have HSW := Lib.hid (fun k (hk : S k) => (⟨Nat.lt_of_lt_of_le (hSw k hk) hW.size, fun e => by have := hSw k hk; omega⟩ : k < W.heap.size ∧ ¬ k = l))
  have hw0 := hc.length
  simp only [weight] at hw0
  have HLX : Hid (xs.length ≤ 1000000) := by show _ ≤ _; omega
  have HLV : Hid (∀ y ∈ xs, y.level ≤ 1000000) := by
    have hd := hc.deepest
    have h2 := t.depth_le
    have h3 : ∀ (l : List Td) (y : Td), y ∈ l → y.level ≤ deepest l := fun l y hy => by
      induction l with
      | nil => cases hy
      | cons z l ih =>
        show y.level ≤ max z.level (deepest l)
        rcases List.mem_cons.1 hy with rfl | hy
        · omega
        · have := ih hy; omega
    intro y hy
    have := h3 xs y hy
    rw [hd] at this
    simp only [reach] at this
    omega
  have hWs := hW.size
  have hhl : h ≠ l := by omega
  clear hJ hJx hY hb hc hcW hCS hSw hw0 hn1
  obtain ⟨i0, hi0, hz0, hz1, hz2⟩ := info_parts infoTodo
  obtain ⟨hb0, hb1, hb2, hb3, hb4⟩ := hbW
  have HBX : Hid (NBox W h c) := ⟨hb0, hb1, hb2, hb3, hb4⟩
  have hCW := Lib.hid (fun k (hk : C k) => Nat.lt_of_lt_of_le (hCw k hk) hW.size)
  refine callsIn_wide.2 ?_
  change Calls Try.prog 39 #[.func (.yield l) #[] #[], .pointer (some ⟨h, 0, none⟩)] W _
  clear hCw
  have hlit : Hid ((W.alloc (.cells #[.int .i64 1, .int .i64 c.kind, .int .i64 c.pos, .int .i64 c.num, .string ⟨c.text.toArray⟩, .slice c.kp c.kl c.kc] 37)).ownsRow W.heap.size 37 6 (.slice (some ⟨W.heap.size, 0, none⟩) 1 1) 1 ([⟨1, c, t⟩].reverse.flatMap encT)) :=
    World.ownsRow_lit W _ 1 (Nat.le_refl _) (by unfold maxLen; omega) rfl
  go_enter Try.func39, Try.ntmps39
  go_wp2_with fail
  go_loopg [3] xs.length (fun k p wr => ∃ (st rest pre : List Td), k = rest.length ∧ Hid (xs = pre ++ rest) ∧ Hid (Comes S wr st rest) ∧ wr.ownsRow W.heap.size 37 6 p st.length (st.reverse.flatMap encT) ∧ J pre wr ∧ W.heap.size ≤ wr.heap.size ∧ Hid (∀ k, ¬ (C k ∨ k = l) → k < W.heap.size → wr.heap[k]? = W.heap[k]?))
  case atStart =>
    exact ⟨[⟨1, c, t⟩], xs, [], rfl, rfl, HC0.out.kept (.of_below ((Below.refl _ W).alloc (Nat.le_refl _) _)), hlit.out, HJ.out _ _ _ h0 ((Below.refl _ W).alloc (Nat.le_refl _) _), by simp, fun k _ hk => Below.heap_alloc _ _ _ hk⟩
  case round =>
    obtain ⟨wo, rfl⟩ : ∃ wo : World, wo = wr := ⟨_, rfl⟩
    obtain ⟨st, rest, pre, rfl, HX, HCM, hown, hJr, hsz, HK⟩ := hrel
    clear hb0 hb1 hb2 hb3 hb4
    cases st with
    | nil =>
      have hr : rest = [] := by have := HCM.out; cases this; rfl
      subst hr
      have HP : Hid (J xs wo) := by show J xs wo; rw [HX.out]; simpa using hJr
      rcases hown.2 with ⟨rfl, _⟩ | ⟨g, cap, cur, rfl, -⟩
      · clear hown hJr
        go_wp2
        go_end0
        exact ⟨⟨_, rfl⟩, .inl HP.out⟩
      · clear hown hJr
        go_wp2
        go_end0
        exact ⟨⟨_, rfl⟩, .inl HP.out⟩
    | cons x st =>
      obtain ⟨ks, out, hr, hnx, hks, hcm⟩ : ∃ ks out, rest = x :: out ∧ NodeAt S wo x.cells x.tree ∧ KidsOf S wo x ks ∧ Comes S wo (ks ++ st) out := by
        have := HCM.out
        cases this with
        | cons h1 h2 h3 => exact ⟨_, _, rfl, h1, h2, h3⟩
      subst hr
      have HCM2 := Lib.hid hcm
      have hol := hcm.length
      have hwl := weight_len (ks ++ st)
      have HKS := Lib.hid hks
      have hkl := hks.1
      have hnl := hnx.len
      have HXL : Hid (pre.length + (out.length + 1) = xs.length) := by show _ = _; rw [HX.out]; simp
      have hX6 := HLX.out
      have hX7 := HXL.out
      have hkst : ks.length + st.length ≤ 1000000 := by rw [List.length_append] at hwl; omega
      have HKC : Hid (x.cells.kl ≤ x.cells.kc) := by obtain ⟨ncs, -, ⟨p, cap, e, hl, -⟩, -⟩ := hnx.row; injection e; show _ ≤ _; omega
      have HKL : Hid (x.cells.kl = ks.length) := by show _ = _; omega
      have hk6 : x.cells.kl ≤ 1000000 := by omega
      clear HCM hcm hks hnx hol hwl hX6 hX7 hkl hnl
      -- the row
      have hcells : (x :: st).reverse.flatMap encT = st.reverse.flatMap encT ++ encT x := by simp
      rw [hcells, List.length_cons] at hown
      obtain ⟨g, cap, rfl⟩ := ownsRow_succ hown
      have hc6 : (st.reverse.flatMap encT).length = st.length * 6 := by rw [flat_len encT_len, List.length_reverse]
      obtain ⟨c0, c1, c2, c3, c4, c5⟩ := own_last hown hc6
      have hpop := own_pop hown hc6
      have hgb := (hown.lt g rfl)
      have hcap := own_cap hown
      have HPOP := Lib.hid hpop
      clear hown hcells hpop hc6
      -- the block of the one that comes
      have hbl : Below W.heap.size wo (wo.alloc (.cells #[.int .i64 x.level, .int .i64 x.cells.kind, .int .i64 x.cells.pos, .int .i64 x.cells.num, .string ⟨x.cells.text.toArray⟩, .slice x.cells.kp x.cells.kl x.cells.kc] 37)) := (Below.refl _ wo).alloc hsz _
      have hT := TBox.new wo x 37
      have HT := Lib.hid hT
      obtain ⟨t0, t1, t2, t3, t4, t5⟩ := hT
      have hJ1 := HJ.out _ _ _ hJr hbl
      obtain ⟨fn, tmps, assign, body, hy, hR⟩ := HY.out pre x _ hJ1 ⟨out, by rw [HX.out]; simp⟩
      have HR := Lib.hid hR
      dsimp only [encsT, NC.val] at hy
      have HBL := Lib.hid hbl
      clear hJ1 hR hbl
      have e1 : ((st.length : Int) + 1 - 1) = (st.length : Int) := by omega
      go_upto_region 4 with fail
      refine (wpIn_wide (n := n)).1 ?_
      gi_wp2_with fail
      refine (HR.out).mono ?_
      rintro e W3 (⟨rfl, hJ3, hk3⟩ | ⟨rfl, hJx3⟩)
      · have hTl : wo.heap.size < (wo.alloc (.cells #[.int .i64 x.level, .int .i64 x.cells.kind, .int .i64 x.cells.pos, .int .i64 x.cells.num, .string ⟨x.cells.text.toArray⟩, .slice x.cells.kp x.cells.kl x.cells.kc] 37)).heap.size := by simp
        have hfar : ∀ k, W.heap.size ≤ k → ¬ (C k ∨ k = l) := fun k hk hc => by rcases hc with hc | hc; (have := hCW.out k hc; omega); omega
        have hT3 : TBox W3 wo.heap.size x := HT.out.same (hk3.same _ (hfar _ hsz) hTl)
        have hown3 : W3.ownsRow W.heap.size 37 6 (.slice (some ⟨g, 0, none⟩) st.length cap) st.length (st.reverse.flatMap encT) := own_same HPOP.out fun g' hg' => by
          have hg'' : g = g' := by simpa [Value.ownBlock] using hg'
          subst hg''
          exact (hk3.same g (hfar _ hgb.1) (by omega)).trans (Below.heap_alloc _ _ _ hgb.2)
        have hsz3 : W.heap.size ≤ W3.heap.size := Nat.le_trans HBL.out.size hk3.size |> Nat.le_trans hsz
        have hK3 : ∀ k, ¬ (C k ∨ k = l) → k < wo.heap.size → W3.heap[k]? = wo.heap[k]? := fun k hk hl => (hk3.same k hk (by omega)).trans (Below.heap_alloc _ _ _ hl)
        have HK3 := Lib.hid hK3
        have HT3 := Lib.hid hT3
        have HOWN3 := Lib.hid hown3
        have hltT : wo.heap.size < W3.heap.size := Nat.lt_of_lt_of_le hTl hk3.size
        obtain ⟨t0', t1', t2', t3', t4', t5'⟩ := hT3
        clear t0 t1 t2 t3 t4 t5 c0 c1 c2 c3 c4 c5 hy HR hk3 hK3 hfar hTl hown3
        gi_wp2_with fail
        go_wp2_with fail
        go_loopw [3, 5] (fun p i wi => ∃ (m : Nat) (q : Int), m ≤ ks.length ∧ Hid (q = (m : Int) - 1) ∧ i = .int .i64 q ∧ wi.ownsRow W.heap.size 37 6 p (ks.drop m ++ st).length ((ks.drop m ++ st).reverse.flatMap encT) ∧ Hid (p.ownBlock ≠ some wo.heap.size) ∧ Below W.heap.size W3 wi ∧ Hid (wi.heap[wo.heap.size]? = W3.heap[wo.heap.size]?))
          (fun _ i _ => (intOf i + 1).toNat)
        case atStart => exact ⟨ks.length, x.cells.kl - 1, Nat.le_refl _, (by show (x.cells.kl : Int) - 1 = (ks.length : Int) - 1; rw [HKL.out]), rfl, by rw [List.drop_length, List.nil_append]; exact HOWN3.out, (by show (some g : Option Nat) ≠ some wo.heap.size; intro e; injection e with e; omega), Below.refl _ _, rfl⟩
        case round =>
          obtain ⟨m, q, hm, HQ, rfl, hw, HNE, hBi, HTi⟩ := hrel
          have HWI := Lib.hid hw
          clear t0' t1' t2' t3' t4' t5'
          by_cases hq : 0 ≤ q
          · obtain ⟨j, rfl⟩ : ∃ j : Nat, q = j := ⟨q.toNat, by omega⟩
            have hmj : m = j + 1 := by have := HQ.out; omega
            subst hmj
            have hj' : j < x.tree.kids.length := by rw [← HKS.out.1]; exact hm
            obtain ⟨hlv, -, -, gk, o, hkp, hSg, hgl, hcell⟩ := HKS.out.2 j hm hj'
            obtain ⟨k0, k1, k2, k3, k4⟩ := hcell wr ((hBi.block gk (HSW.out gk hSg).1).trans (HK3.out gk (fun e => by rcases e with e | e; exact HS.out gk hSg e; exact (HSW.out gk hSg).2 e) hgl))
            obtain ⟨t0, t1, t2, t3, t4, t5⟩ := HT3.out.same HTi.out
            rw [hkp] at t5
            have hxl : x.level ≤ 1000000 := HLV.out x (by rw [HX.out]; simp)
            have hwr : IntKind.i64.wrap ((x.level : Int) + 1) = (x.level : Int) + 1 := IntWalk.i64_in _ (by omega)
            have HE : Hid (encT ks[j] = [.int .i64 ((x.level : Int) + 1), .int .i64 ks[j].cells.kind, .int .i64 ks[j].cells.pos, .int .i64 ks[j].cells.num, .string ⟨ks[j].cells.text.toArray⟩, .slice ks[j].cells.kp ks[j].cells.kl ks[j].cells.kc]) := by
              show _ = _
              unfold encT
              rw [hlv]
              rfl
            have HD : Hid (ks.drop j = ks[j] :: ks.drop (j + 1)) := List.drop_eq_getElem_cons hm
            have hjk : j < x.cells.kl := by rw [HKL.out]; exact hm
            have hkc : x.cells.kl ≤ x.cells.kc := HKC.out
            have hll : (ks.drop (j + 1) ++ st).length + 1 ≤ 1000000 := by rw [List.length_append, List.length_drop]; omega
            generalize ks[j] = y at *
            generalize hL : ks.drop (j + 1) ++ st = L at *
            have HL := Lib.hid hL
            have hszi := hBi.size
            have KEEP : Hid (∀ wx : World, wr.drew.grownBy wx u3.ownBlock → wx.cell? ⟨wo.heap.size, 0, none⟩ = some (.int .i64 x.level) ∧ wx.cell? ⟨wo.heap.size, 5, none⟩ = some (.slice (some ⟨gk, o, none⟩) x.cells.kl x.cells.kc) ∧ wx.cell? ⟨gk, o + j * 5, none⟩ = some (.int .i64 y.cells.kind) ∧ wx.cell? ⟨gk, o + j * 5 + 1, none⟩ = some (.int .i64 y.cells.pos) ∧ wx.cell? ⟨gk, o + j * 5 + 2, none⟩ = some (.int .i64 y.cells.num) ∧ wx.cell? ⟨gk, o + j * 5 + 3, none⟩ = some (.string ⟨y.cells.text.toArray⟩) ∧ wx.cell? ⟨gk, o + j * 5 + 4, none⟩ = some (.slice y.cells.kp y.cells.kl y.cells.kc)) := fun wx hg =>
              have far : some gk ≠ u3.ownBlock := fun e => by have := (hw.lt gk e.symm).1; have := (HSW.out gk hSg).1; omega
              ⟨hg.cell t0 (fun e => HNE.out e.symm), hg.cell t5 (fun e => HNE.out e.symm), hg.cell k0 far, hg.cell k1 far, hg.cell k2 far, hg.cell k3 far, hg.cell k4 far⟩
            clear hkp hcell hlv hL
            have hi1 : (0 : Int) ≤ (j : Int) := by omega
            have hi2 : (j : Int) < (x.cells.kl : Int) := by omega
            go_wp2_with fail
            go_region_held3 (fun wx => wx.cell? ⟨wo.heap.size, 0, none⟩ = some (.int .i64 x.level) ∧ wx.cell? ⟨wo.heap.size, 5, none⟩ = some (.slice (some ⟨gk, o, none⟩) x.cells.kl x.cells.kc) ∧ wx.cell? ⟨gk, o + j * 5, none⟩ = some (.int .i64 y.cells.kind) ∧ wx.cell? ⟨gk, o + j * 5 + 1, none⟩ = some (.int .i64 y.cells.pos) ∧ wx.cell? ⟨gk, o + j * 5 + 2, none⟩ = some (.int .i64 y.cells.num) ∧ wx.cell? ⟨gk, o + j * 5 + 3, none⟩ = some (.string ⟨y.cells.text.toArray⟩) ∧ wx.cell? ⟨gk, o + j * 5 + 4, none⟩ = some (.slice y.cells.kp y.cells.kl y.cells.kc))
              (first | exact KEEP.out _ (World.grownBy.refl _ _) | exact KEEP.out _ (World.grownBy_alloc _ _ _) | exact KEEP.out _ hg5)
              (first
              | (refine step_in rfl ?_; refine wp_append_at _ _ 38 rfl W.heap.size 37 i0 _ 6 72 Try.underlying38 hi0 hz0 hz1 hz2 rfl (by decide) u3 _ _ rfl (hw.drew.alloc _) ⟨_, 0, none⟩ 1 1 [.int .i64 ((x.level : Int) + 1), .int .i64 y.cells.kind, .int .i64 y.cells.pos, .int .i64 y.cells.num, .string ⟨y.cells.text.toArray⟩, .slice y.cells.kp y.cells.kl y.cells.kc] rfl rfl (cells_of_new _ _ _ _ rfl) ?_ ?_ ?_ ?_ ?_; (rw [← HE.out]; exact encT_one y); (unfold maxLen; omega); omega; (simp; omega); intro v' w5 ho5 hg5 hat; have hg5 := (World.grownBy_alloc wr.drew _ u3.ownBlock).andThen hg5 (fun j hj => .inr hj)))
            go_wp2_with fail
            go_roundw
            case rel =>
              refine ⟨j, (j : Int) - 1, by omega, rfl, by go_num, ?_, ?_, ?_, ?_⟩
              · rw [HD.out, List.cons_append, HL.out, List.reverse_cons, List.flatMap_append, List.flatMap_cons, List.flatMap_nil, List.append_nil, HE.out, List.length_cons]
                exact ho5
              · show _ ≠ _
                rcases hat with e | e
                · rw [e]; exact HNE.out
                · rw [e]; intro e2; injection e2 with e2; simp at e2; try omega
              · refine hBi.trans (below_of_own hw hg5 hszi hsz3)
              · show _ = _
                exact (hg5.block _ (by have := hBi.size; show wo.heap.size < wr.heap.size; omega) (fun e => HNE.out e.symm)).trans HTi.out
            case measure => simp [intOf] <;> omega
          · have hm0 : m = 0 := by have := HQ.out; omega
            subst hm0
            have HCF : Hid (Comes S wr (ks ++ st) out) := HCM2.out.kept ⟨Nat.le_trans (Nat.le_of_lt hltT) hBi.size, fun k hk hkl => (hBi.block k (HSW.out k hk).1).trans (HK3.out k (fun e => by rcases e with e | e; exact HS.out k hk e; exact (HSW.out k hk).2 e) hkl)⟩
            have HJF : Hid (J (pre ++ [x]) wr) := HJ.out _ _ _ hJ3 hBi
            have HXF : Hid (xs = (pre ++ [x]) ++ out) := by show _ = _; rw [HX.out]; simp
            have HKF : Hid (∀ k, ¬ (C k ∨ k = l) → k < W.heap.size → wr.heap[k]? = W.heap[k]?) := fun k hk hkl => (hBi.block k hkl).trans ((HK3.out k hk (by omega)).trans (HK.out k hk hkl))
            rw [List.drop_zero] at hw
            have HWF := Lib.hid hw
            clear hw HWI hJ3 hJr
            go_wp2_with fail
            go_roundg out.length
            case rel => exact ⟨ks ++ st, out, pre ++ [x], rfl, HXF, HCF, HWF.out, HJF.out, Nat.le_trans hsz3 hBi.size, HKF⟩
            case measure => simp
      · have hpre : Hid (pre ++ [x] <+: xs) := ⟨out, by rw [HX.out]; simp⟩
        clear hy HR
        gi_wp2_with fail
        go_wp2_with fail
        refine bodyPost_ret (results_none rfl _ _ _) rfl ?_
        exact ⟨⟨_, rfl⟩, .inr ⟨_, hpre.out, hJx3⟩⟩
end Go.Proofs.Ytobmpipifdielaa
