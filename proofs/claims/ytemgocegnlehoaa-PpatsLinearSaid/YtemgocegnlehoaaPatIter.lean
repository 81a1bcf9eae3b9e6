/- The contract of the closure that ppats.variables hands back. -/
import Derived.Test.YtemgocegnlehoaaPatVars
import Derived.Test.YtemgocegnlehoaaNodeA
import Derived.Test.YtemgocegnlehoaaIterOwn
import Derived.Deep.LoopGhost
import Derived.Deep.Cut
import Derived.Deep.RegionHeld3
import Derived.Maps.AppendAt
namespace Go.Proofs.Ytemgocegnlehoaa.N6
open Go.RowKit Go.Shelf

attribute [local go_sem] Oper.semAt_some

def encsV (x : Td) : Array Value := #[x.cells.val]
/-- the last one's cells -/
theorem own_last5 {w : World} {base : Nat} {e : TypeId} {g n cap : Nat} {cs : List Value} {x : Td} (h : w.ownsRow base e 5 (.slice (some ⟨g, 0, none⟩) (n + 1) cap) (n + 1) (cs ++ encV x)) (hc : cs.length = n * 5) :
    w.cell? ⟨g, n * 5, none⟩ = some (.int .i64 x.cells.kind) ∧ w.cell? ⟨g, n * 5 + 1, none⟩ = some (.int .i64 x.cells.pos) ∧ w.cell? ⟨g, n * 5 + 2, none⟩ = some (.int .i64 x.cells.num) ∧
      w.cell? ⟨g, n * 5 + 3, none⟩ = some (.string ⟨x.cells.text.toArray⟩) ∧ w.cell? ⟨g, n * 5 + 4, none⟩ = some (.slice x.cells.kp x.cells.kl x.cells.kc) := by
  have at' : ∀ m u, (encV x)[m]? = some u → w.cell? ⟨g, n * 5 + m, none⟩ = some u := fun m u hu => by
    have := h.cells (g := g) rfl (n * 5 + m) u (by rw [List.getElem?_append_right (by omega), hc, Nat.add_sub_cancel_left]; exact hu)
    rw [Addr.add_lit, Nat.zero_add] at this
    exact this
  exact ⟨at' 0 _ rfl, at' 1 _ rfl, at' 2 _ rfl, at' 3 _ rfl, at' 4 _ rfl⟩

set_option maxRecDepth 100000 in
set_option maxHeartbeats 8000000 in
theorem vars1_gives (n : Nat) (hn : 1 ≤ n) (S C : Nat → Prop) (w : World) (h : Nat) (c : NC) (t : Nd) (xs : List Td) (m0 : Nat) (hb : NBox w h c) (hh : h < w.heap.size) (hCh : ¬ C h) (hCw : ∀ k, C k → k < w.heap.size) (hCS : ∀ k, S k → ¬ C k) (hSw : ∀ k, S k → k < w.heap.size)
    (hc : Goes S w [⟨1, c, t⟩] xs m0) (hsz : t.size ≤ 1000000) :
    GivesOwn n Try.prog 45 #[.pointer (some ⟨h, 0, none⟩)] encsV xs C w := by
  intro l J Jx W hW hl1 hl2 hJ hY h0
  have hbW := hb.same (hW.block h hh)
  have hcW := hc.kept (.of_below (S := S) hW)
  have HC0 := Lib.hid hcW
  have HY := Lib.hid hY
  have HJ := Lib.hid hJ
  have HS := Lib.hid (fun k => hCS k)
  have HSW := Lib.hid (fun k (hk : S k) => (⟨Nat.lt_of_lt_of_le (hSw k hk) hW.size, fun e => by have := hSw k hk; omega⟩ : k < W.heap.size ∧ ¬ k = l))
  have hw0 : weight [⟨1, c, t⟩] ≤ 1000000 := by simp only [weight]; omega
  have HW0 := Lib.hid hw0
  have hWs := hW.size
  have hhl : h ≠ l := by omega
  clear hJ hY hb hc hcW hCS hSw hw0
  obtain ⟨i0, hi0, hz0, hz1, hz2⟩ := info_parts infoNode
  obtain ⟨hb0, hb1, hb2, hb3, hb4⟩ := hbW
  have hCW := Lib.hid (fun k (hk : C k) => Nat.lt_of_lt_of_le (hCw k hk) hW.size)
  refine callsIn_wide.2 ?_
  change Calls Try.prog 45 #[.func (.yield l) #[] #[], .pointer (some ⟨h, 0, none⟩)] W _
  clear hCw
  have hlit : Hid ((W.alloc (.cells #[.int .i64 c.kind, .int .i64 c.pos, .int .i64 c.num, .string ⟨c.text.toArray⟩, .slice c.kp c.kl c.kc] 25)).ownsRow W.heap.size 25 5 (.slice (some ⟨W.heap.size, 0, none⟩) 1 1) 1 (([⟨1, c, t⟩] : List Td).reverse.flatMap encV)) :=
    World.ownsRow_lit W _ 1 (Nat.le_refl _) (by unfold maxLen; omega) rfl
  go_enter Try.func45, Try.ntmps45
  go_wp2_with fail
  go_step3
  go_wp2_with fail
  go_step3
  go_wp2_with fail
  go_loopg [3] m0 (fun k p wr => ∃ (st rest pre : List Td) (D : Nat → Prop), Hid (xs = pre ++ rest) ∧ Hid (Goes S wr st rest k) ∧ Hid (weight st ≤ 1000000) ∧ wr.ownsRow W.heap.size 25 5 p st.length (st.reverse.flatMap encV) ∧ J pre D wr ∧ Hid (∀ k, D k → W.heap.size ≤ k ∧ k < wr.heap.size) ∧ Hid (∀ b, p.ownBlock = some b → ¬ D b) ∧ W.heap.size ≤ wr.heap.size ∧ Hid (∀ k, ¬ (C k ∨ k = l) → k < W.heap.size → wr.heap[k]? = W.heap[k]?))
  case atStart =>
    exact ⟨[⟨1, c, t⟩], xs, [], fun _ => False, rfl, HC0.out.kept (.of_below ((Below.refl _ W).alloc (Nat.le_refl _) _)), HW0, hlit.out, HJ.out _ _ _ _ h0 (.of_below ((Below.refl _ W).alloc (Nat.le_refl _) _)), (fun k hk => hk.elim), (fun b _ q => q), by simp, fun k _ hk => Below.heap_alloc _ _ _ hk⟩
  case round =>
    obtain ⟨wo, rfl⟩ : ∃ wo : World, wo = wr := ⟨_, rfl⟩
    obtain ⟨st, rest, pre, D, HX, HCM, HWT, hown, hJr, HDB, HDO, hsz, HK⟩ := hrel
    clear hb0 hb1 hb2 hb3 hb4
    cases st with
    | nil =>
      have hr : rest = [] := by have := HCM.out; cases this; rfl
      subst hr
      have HP : Hid (J xs D wo) := by show J xs D wo; rw [HX.out]; simpa using hJr
      rcases hown.2 with ⟨rfl, _⟩ | ⟨g, cap, cur, rfl, -⟩
      · clear hown hJr
        go_wp2
        try rw [Exit.noGoto_normal]
        go_end0
        exact ⟨⟨_, rfl⟩, .inl ⟨_, HP.out⟩⟩
      · clear hown hJr
        go_wp2
        try rw [Exit.noGoto_normal]
        go_end0
        exact ⟨⟨_, rfl⟩, .inl ⟨_, HP.out⟩⟩
    | cons x st =>
      have hnx : NodeAt S wo x.cells x.tree := by have := HCM.out; cases this <;> assumption
      have hgk : ∃ gf, gk = gf + 1 := by have := HCM.out; cases this <;> exact ⟨_, rfl⟩
      obtain ⟨gf, rfl⟩ := hgk
      have hwt := HWT.out
      have hwl := weight_len st
      have hsp := x.tree.size_pos
      rw [weight] at hwt
      have hst : st.length ≤ 1000000 := by omega
      have HKC : Hid (x.cells.kl ≤ x.cells.kc) := by obtain ⟨ncs, -, ⟨p, cap, e, hl, -⟩, -⟩ := hnx.row; injection e; show _ ≤ _; omega
      have HKD : Hid (x.cells.kind = x.tree.kind) := hnx.kind
      have HNX := Lib.hid hnx
      have hklen := hnx.len
      have HKL : Hid (x.cells.kl = x.tree.kids.length) := hklen
      have hk6 : x.cells.kl ≤ 1000000 := by
        have h1 := x.tree.len_le
        omega
      have HWX := Lib.hid hwt
      clear hnx hwl hsp hwt hklen
      -- the row
      have hcells : (x :: st).reverse.flatMap encV = st.reverse.flatMap encV ++ encV x := by simp
      rw [hcells, List.length_cons] at hown
      obtain ⟨g, cap, rfl⟩ := ownsRow_succ hown
      have hc6 : (st.reverse.flatMap encV).length = st.length * 5 := by rw [flat_len encV_len, List.length_reverse]
      obtain ⟨c0, c1, c2, c3, c4⟩ := own_last5 hown hc6
      have hpop := own_pop hown hc6
      have hgb := (hown.lt g rfl)
      have hcap := own_cap hown
      have HPOP := Lib.hid hpop
      clear hown hcells hpop hc6
      -- the block of the one that comes
      have hbl : Below W.heap.size wo (wo.alloc (.cells #[.int .i64 x.cells.kind, .int .i64 x.cells.pos, .int .i64 x.cells.num, .string ⟨x.cells.text.toArray⟩, .slice x.cells.kp x.cells.kl x.cells.kc] 25)) := (Below.refl _ wo).alloc hsz _
      have hT := NBox.new wo x.cells 25
      have HT := Lib.hid hT
      obtain ⟨t0, t1, t2, t3, t4⟩ := hT
      have hJ1 := HJ.out _ _ _ _ hJr (.of_below ((Below.refl _ wo).alloc (Nat.le_refl _) (.cells #[.int .i64 x.cells.kind, .int .i64 x.cells.pos, .int .i64 x.cells.num, .string ⟨x.cells.text.toArray⟩, .slice x.cells.kp x.cells.kl x.cells.kc] 25)))
      have HBL := Lib.hid hbl
      have e1 : ((st.length : Int) + 1 - 1) = (st.length : Int) := by omega
      by_cases hkd : x.cells.kind = 11
      · -- a variable: it is given
        obtain ⟨out, hr, hcm⟩ : ∃ out, rest = x :: out ∧ Goes S wo st out gf := by
          have := HCM.out
          cases this with
          | var h1 h2 h3 => exact ⟨_, rfl, h3⟩
          | node h1 h2 h3 h4 => exact absurd (HKD.out.symm.trans hkd) h2
        subst hr
        have HCM2 := Lib.hid hcm
        have hkb : (x.cells.kind == 11) = true := by rw [hkd]; rfl
        have HKK := Lib.hid hkd
        clear hkd
        have HGD : Hid (¬ D g) := HDO.out g rfl
        obtain ⟨fn, tmps, assign, body, hy, hR⟩ := HY.out pre x D _ hJ1 (Nat.le_trans hsz hbl.size) (fun k hk => ⟨(HDB.out k hk).1, by have := (HDB.out k hk).2; simp; omega⟩) ⟨out, by rw [HX.out]; simp⟩
        have HR := Lib.hid hR
        dsimp only [encsV, NC.val] at hy
        clear hJ1 hR hbl HCM hcm
        go_upto_region 5 with fail
        refine (wpIn_wide (n := n)).1 ?_
        gi_wp2_with fail
        refine (HR.out).mono ?_
        rintro e W3 (⟨rfl, D', hJ3, hk3, hD3⟩ | ⟨rfl, hJx3⟩)
        · have hTl : wo.heap.size < (wo.alloc (.cells #[.int .i64 x.cells.kind, .int .i64 x.cells.pos, .int .i64 x.cells.num, .string ⟨x.cells.text.toArray⟩, .slice x.cells.kp x.cells.kl x.cells.kc] 25)).heap.size := by simp
          have hfar : ∀ k, W.heap.size ≤ k → ¬ D k → ¬ (C k ∨ k = l ∨ D k) := fun k hk hd hc => by rcases hc with hc | hc | hc; (have := hCW.out k hc; omega); omega; exact hd hc
          have hown3 : W3.ownsRow W.heap.size 25 5 (.slice (some ⟨g, 0, none⟩) st.length cap) st.length (st.reverse.flatMap encV) := own_same HPOP.out fun g' hg' => by
            have hg'' : g = g' := by simpa [Value.ownBlock] using hg'
            subst hg''
            exact (hk3.same g (hfar _ hgb.1 HGD.out) (by omega)).trans (Below.heap_alloc _ _ _ hgb.2)
          have hsz3 : W.heap.size ≤ W3.heap.size := Nat.le_trans HBL.out.size hk3.size |> Nat.le_trans hsz
          have hK3 : ∀ k, ¬ (C k ∨ k = l) → k < W.heap.size → W3.heap[k]? = wo.heap[k]? := fun k hk hl => (hk3.same k (fun q => by rcases q with q | q | q; exact hk (.inl q); exact hk (.inr q); have := (HDB.out k q).1; omega) (by omega)).trans (Below.heap_alloc _ _ _ (by omega))
          have hlt3 : wo.heap.size ≤ W3.heap.size := Nat.le_trans (Nat.le_of_lt hTl) hk3.size
          have HCF : Hid (Goes S W3 st out gf) := HCM2.out.kept ⟨hlt3, fun k hk hkl => hK3 k (fun e => by rcases e with e | e; exact HS.out k hk e; exact (HSW.out k hk).2 e) (HSW.out k hk).1⟩
          have HXF : Hid (xs = (pre ++ [x]) ++ out) := by show _ = _; rw [HX.out]; simp
          have HKF : Hid (∀ k, ¬ (C k ∨ k = l) → k < W.heap.size → W3.heap[k]? = W.heap[k]?) := fun k hk hkl => (hK3 k hk hkl).trans (HK.out k hk hkl)
          have HDB3 : Hid (∀ k, D' k → W.heap.size ≤ k ∧ k < W3.heap.size) := fun k hk => by
            rcases hD3 k hk with q | q
            · have := HDB.out k q; omega
            · omega
          have HDO3 : Hid (∀ b, (Value.slice (some ⟨g, 0, none⟩) st.length cap).ownBlock = some b → ¬ D' b) := fun b hb q => by
            have hb' : g = b := by simpa [Value.ownBlock] using hb
            subst hb'
            rcases hD3 g q with q | q
            · exact HGD.out q
            · have := hgb.2; omega
          have HWF := Lib.hid hown3
          have HJF := Lib.hid hJ3
          clear t0 t1 t2 t3 t4 c0 c1 c2 c3 c4 hy HR hk3 hK3 hfar hTl hown3 hJ3 hJr hD3
          gi_wp2_with fail
          go_wp2_with fail
          go_roundg gf
          case rel => exact ⟨st, out, pre ++ [x], D', HXF, HCF, (by have := HWX.out; show _ ≤ _; omega), HWF.out, HJF.out, HDB3, HDO3, hsz3, HKF⟩
          case measure => simp
        · have hpre : Hid (pre ++ [x] <+: xs) := ⟨out, by rw [HX.out]; simp⟩
          clear hy HR
          gi_wp2_with fail
          go_wp2_with fail
          try rw [Exit.noGoto_ret]
          refine bodyPost_ret (results_none rfl _ _ _) rfl ?_
          exact ⟨⟨_, rfl⟩, .inr ⟨_, hpre.out, hJx3⟩⟩
      · -- not a variable: its kids come
        obtain ⟨ks, hks, hcm⟩ : ∃ ks, KidsOf S wo x ks ∧ Goes S wo (ks ++ st) rest gf := by
          have := HCM.out
          cases this with
          | var h1 h2 h3 => exact absurd (HKD.out.trans h2) hkd
          | node h1 h2 h3 h4 => exact ⟨_, h3, h4⟩
        have HCM2 := Lib.hid hcm
        have HKS := Lib.hid hks
        have hkb : (x.cells.kind == 11) = false := by rw [beq_eq_false_iff_ne]; exact hkd
        have hkn : ¬ x.cells.kind = 11 := hkd
        have hwk := hks.weight
        have HWK : Hid (weight (ks ++ st) ≤ 1000000) := by have := HWX.out; show _ ≤ _; rw [weight_append]; omega
        have hlk := weight_len (ks ++ st)
        have hkst : ks.length + st.length ≤ 1000000 := by have := HWK.out; rw [List.length_append] at hlk; omega
        have HKL2 : Hid (x.cells.kl = ks.length) := by have := HKL.out; have := hks.1; show _ = _; omega
        have HJ2 : Hid (J pre D (wo.alloc (.cells #[.int .i64 x.cells.kind, .int .i64 x.cells.pos, .int .i64 x.cells.num, .string ⟨x.cells.text.toArray⟩, .slice x.cells.kp x.cells.kl x.cells.kc] 25))) := hJ1
        obtain ⟨W3, hW3⟩ : ∃ W3, W3 = wo.alloc (.cells #[.int .i64 x.cells.kind, .int .i64 x.cells.pos, .int .i64 x.cells.num, .string ⟨x.cells.text.toArray⟩, .slice x.cells.kp x.cells.kl x.cells.kc] 25) := ⟨_, rfl⟩
        have HW3 := Lib.hid hW3
        have HT3 : Hid (NBox W3 wo.heap.size x.cells) := by show NBox _ _ _; rw [hW3]; exact HT.out
        have hsz3 : W.heap.size ≤ W3.heap.size := by rw [hW3]; simp; omega
        have hltT : wo.heap.size < W3.heap.size := by rw [hW3]; simp
        have HOWN3 : Hid (W3.ownsRow W.heap.size 25 5 (.slice (some ⟨g, 0, none⟩) st.length cap) st.length (st.reverse.flatMap encV)) := by show W3.ownsRow _ _ _ _ _ _; rw [hW3]; exact HPOP.out.alloc _
        have HK3 : Hid (∀ k, k < wo.heap.size → W3.heap[k]? = wo.heap[k]?) := fun k hk => by rw [hW3]; exact Below.heap_alloc _ _ _ hk
        have HJ3 : Hid (J pre D W3) := by show J _ _ _; rw [hW3]; exact HJ2.out
        have HGD : Hid (¬ D g) := HDO.out g rfl
        clear hJ1 HCM hcm hks hwk hlk HJ2 hW3 hJr hbl
        go_upto_region 6 with fail
        rw [← HW3.out]
        obtain ⟨t0', t1', t2', t3', t4'⟩ := HT3.out
        clear t0 t1 t2 t3 t4 c0 c1 c2 c3 c4
        go_wp2_with fail
        go_loopw [3, 5] (fun p i wi => ∃ (m : Nat) (q : Int), m ≤ ks.length ∧ Hid (q = (m : Int) - 1) ∧ i = .int .i64 q ∧ wi.ownsRow W.heap.size 25 5 p (ks.drop m ++ st).length ((ks.drop m ++ st).reverse.flatMap encV) ∧ Hid (p.ownBlock ≠ some wo.heap.size) ∧ Below W.heap.size W3 wi ∧ Hid (wi.heap[wo.heap.size]? = W3.heap[wo.heap.size]?) ∧ Hid (Keeps (fun k => k < W.heap.size ∨ D k) W3 wi) ∧ Hid (∀ b, p.ownBlock = some b → ¬ D b))
          (fun _ i _ => (intOf i + 1).toNat)
        case atStart => exact ⟨ks.length, x.cells.kl - 1, Nat.le_refl _, (by show (x.cells.kl : Int) - 1 = (ks.length : Int) - 1; rw [HKL2.out]), rfl, by rw [List.drop_length, List.nil_append]; exact HOWN3.out, (by show (some g : Option Nat) ≠ some wo.heap.size; intro e; injection e with e; omega), Below.refl _ _, rfl, Keeps.refl _ _, fun b hb => by have hb' : g = b := (by simpa [Value.ownBlock] using hb); subst hb'; exact HGD.out⟩
        case round =>
          obtain ⟨m, q, hm, HQ, rfl, hw, HNE, hBi, HTi, HKI, HDI⟩ := hrel
          have HWI := Lib.hid hw
          clear t0' t1' t2' t3' t4'
          by_cases hq : 0 ≤ q
          · obtain ⟨j, rfl⟩ : ∃ j : Nat, q = j := ⟨q.toNat, by omega⟩
            have hmj : m = j + 1 := by have := HQ.out; omega
            subst hmj
            have hj' : j < x.tree.kids.length := by rw [← HKS.out.1]; exact hm
            obtain ⟨-, -, -, gk, o, hkp, hSg, hgl, hcell⟩ := HKS.out.2 j hm hj'
            obtain ⟨k0, k1, k2, k3, k4⟩ := hcell wr ((hBi.block gk (HSW.out gk hSg).1).trans (HK3.out gk hgl))
            obtain ⟨t0, t1, t2, t3, t4⟩ := HT3.out.same HTi.out
            rw [hkp] at t4
            have HE : Hid (encV ks[j] = [.int .i64 ks[j].cells.kind, .int .i64 ks[j].cells.pos, .int .i64 ks[j].cells.num, .string ⟨ks[j].cells.text.toArray⟩, .slice ks[j].cells.kp ks[j].cells.kl ks[j].cells.kc]) := rfl
            have HD : Hid (ks.drop j = ks[j] :: ks.drop (j + 1)) := List.drop_eq_getElem_cons hm
            have hjk : j < x.cells.kl := by rw [HKL2.out]; exact hm
            have hkc : x.cells.kl ≤ x.cells.kc := HKC.out
            have hll : (ks.drop (j + 1) ++ st).length + 1 ≤ 1000000 := by rw [List.length_append, List.length_drop]; omega
            generalize ks[j] = y at *
            generalize hL : ks.drop (j + 1) ++ st = L at *
            have HL := Lib.hid hL
            have hszi := hBi.size
            clear hkp hcell hL
            have hi1 : (0 : Int) ≤ (j : Int) := by omega
            have hi2 : (j : Int) < (x.cells.kl : Int) := by omega
            go_wp2_with (at_builtin; refine wpList_append_at rfl _ _ 23 rfl W.heap.size 25 i0 _ 5 64 Try.underlying23 hi0 hz0 hz1 hz2 rfl (by decide) u3 _ _ rfl (hw.alloc _) ⟨_, 0, none⟩ 1 1 (encV y) rfl rfl (cells_of_new _ _ _ _ rfl) (encV_one y) ?_ ?_ ?_ ?_; (unfold maxLen; omega); omega; (simp; omega); intro v' w5 ho5 hg5 hat; have hg5 := (World.grownBy_alloc wr _ u3.ownBlock).andThen hg5 (fun j hj => .inr hj))
            go_roundw
            case rel =>
              refine ⟨j, (j : Int) - 1, by omega, rfl, by go_num, ?_, ?_, ?_, ?_, ?_, ?_⟩
              · rw [HD.out, List.cons_append, HL.out, List.reverse_cons, List.flatMap_append, List.flatMap_cons, List.flatMap_nil, List.append_nil, List.length_cons]
                exact ho5
              · show _ ≠ _
                rcases hat with e | e
                · rw [e]; exact HNE.out
                · rw [e]; intro e2; injection e2 with e2; simp at e2; try omega
              · exact hBi.trans (own_below (Nat.le_trans hsz3 hszi) hw hg5)
              · show _ = _
                exact (hg5.block _ (by have := hBi.size; show wo.heap.size < wr.heap.size; omega) (fun e => HNE.out e.symm)).trans HTi.out
              · exact HKI.out.trans ⟨hg5.size, fun k hk hkl => hg5.block k hkl (fun e => by rcases hk with q | q; (have := (hw.lt k e.symm).1; omega); exact HDI.out k e.symm q)⟩
              · intro b hb hd
                rcases hat with e | e
                · rw [e] at hb; exact HDI.out b hb hd
                · rw [e] at hb; injection hb with hb; have h1 := (HDB.out b hd).2; have h2 := hBi.size; rw [← hb] at h1; simp at h1; omega
            case measure => simp [intOf] <;> omega
          · have hm0 : m = 0 := by have := HQ.out; omega
            subst hm0
            have HCF : Hid (Goes S wr (ks ++ st) rest gf) := HCM2.out.kept ⟨Nat.le_trans (Nat.le_of_lt hltT) hBi.size, fun k hk hkl => (hBi.block k (HSW.out k hk).1).trans (HK3.out k hkl)⟩
            have HJF : Hid (J pre D wr) := HJ.out _ _ _ _ HJ3.out (.of hBi HKI.out)
            have HDB3 : Hid (∀ k, D k → W.heap.size ≤ k ∧ k < wr.heap.size) := fun k hk => by have := HDB.out k hk; have := hBi.size; omega
            have HKF : Hid (∀ k, ¬ (C k ∨ k = l) → k < W.heap.size → wr.heap[k]? = W.heap[k]?) := fun k hk hkl => (hBi.block k hkl).trans ((HK3.out k (by omega)).trans (HK.out k hk hkl))
            rw [List.drop_zero] at hw
            have HWF := Lib.hid hw
            clear hw HWI
            go_wp2_with fail
            go_roundg gf
            case rel => exact ⟨ks ++ st, rest, pre, D, HX, HCF, HWK, HWF.out, HJF.out, HDB3, HDI, Nat.le_trans hsz3 hBi.size, HKF⟩
            case measure => simp
end Go.Proofs.Ytemgocegnlehoaa.N6
