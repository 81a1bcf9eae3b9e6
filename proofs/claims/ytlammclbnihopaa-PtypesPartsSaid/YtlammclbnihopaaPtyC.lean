/- Readers: contexts. Readers: contexts, contexts and types. -/
import Derived.Test.YtlammclbnihopaaPtyB
namespace Go.Proofs.Ytlammclbnihopaa.N7
open Go.RowKit N5 N6

attribute [local go_sem] fld0 fld1
theorem kind0 {c : Cu} (ho : CuOk c) (h : c.peek.kind = 0) : c.kind 0 = c ∧ c.kindOk 0 = decide (c.err = 0) := by
  unfold Cu.kind Cu.kindOk
  by_cases he : c.err = 0
  · have hk : (c.tok c.at').kind = 0 := by unfold Cu.peek at h; rw [if_pos he] at h; exact h
    rw [if_pos he, if_pos hk]
    refine ⟨?_, by simp [he, hk]⟩
    unfold Cu.adv
    rw [if_neg]
    rintro ⟨_, hl⟩
    unfold Cu.tok at hk
    rw [List.getD_eq_getElem?_getD, List.getElem?_eq_getElem hl] at hk
    exact ho.kinds _ (List.getElem_mem hl) hk
  · rw [if_neg he]
    exact ⟨rfl, by simp [he]⟩
theorem OwnRows.cons {n g : Nat} {w3 V : World} {v3 : Value} {d : NC} {t : Nd} {ks : List Nd} {ds : List NC} (h1 : ds.length = ks.length) (ho : w3.ownsRow g 25 5 v3 ([d] ++ ds).length (([d] ++ ds).flatMap encN)) (hg : V.grownBy w3 (some g))
    (hd : NodeAt (fun b => n ≤ b ∧ b < g) V d t) (hk : ∀ j (h : j < ds.length) (h' : j < ks.length), NodeAt (fun b => n ≤ b ∧ b < g) V ds[j] ks[j]) (hn : n ≤ g) : OwnRows n w3 v3 (t :: ks) := by
  have keep : ∀ (x : NC) (u : Nd), NodeAt (fun b => n ≤ b ∧ b < g) V x u → NodeAt (fun b => n ≤ b ∧ v3.ownBlock ≠ some b) w3 x u := fun x u h =>
    (h.keeps ⟨hg.size, fun k hk hkl => hg.block k hkl (fun e => by injection e with e; have := hk.2; omega)⟩).mono fun k hk _ => ⟨hk.1, fun e => by have := (ho.lt k e).1; have := hk.2; omega⟩
  refine ⟨d :: ds, by simp [h1], ?_, fun j a b => ?_⟩
  · have e : ([d] ++ ds).length = (t :: ks).length := by simp [h1]
    rw [e] at ho
    refine ⟨ho.1, ?_⟩
    rcases ho.2 with e | ⟨g', cap, cur, e1, e2, e3⟩
    · exact .inl e
    · exact .inr ⟨g', cap, cur, e1, by omega, e3⟩
  · cases j with
    | zero => exact keep _ _ hd
    | succ j => exact keep _ _ (hk j (by simpa using a) (by simpa using b))
set_option maxRecDepth 100000 in
set_option maxHeartbeats 4000000 in
theorem failed_l {w : World} {B : Nat} {v : Value} {c : Cu} (h : CurAt w B v c) : Calls Try.prog 73 #[.pointer (some ⟨B, 0, none⟩)] w fun e w' => e = .returned (.bool (!decide (c.err = 0))) ∧ At7 B v c w w' := by
  have HOK := Lib.hid h.ok
  have hA1 := At7.of h
  have hlt := h.lt
  clear h
  obtain ⟨⟨tk, tp, tn, tt⟩, hT⟩ : ∃ t, t = c.peek := ⟨_, rfl⟩
  have HT := Lib.hid hT
  clear hT
  go_enter Try.func73, Try.ntmps73
  have HC := peek_l hA1.cur
  rw [← HT.out] at HC
  go_wp2_with fail
  refine HC.mono ?_; rintro e W2 ⟨rfl, hB⟩
  clear HC
  have hA2 := hA1.below hB
  have hs3 := (grownBy_below hB (some B)).size
  clear hA1 hB
  by_cases h0 : tk = 0
  case neg =>
    have HQ : Hid (c.err = 0) := peek_err (by rw [← HT.out]; exact h0)
    go_wp2_with fail
    go_ret
    exact ⟨by rw [HQ.out]; rfl, hA2⟩
  case pos =>
    subst h0
    obtain ⟨k1, k2⟩ := kind0 HOK.out (by rw [← HT.out])
    have HC := kind_l hA2.cur 0
    rw [k1] at HC
    rw [k2] at HC
    go_wp2_with fail
    refine HC.mono ?_; rintro e W4 ⟨rfl, hc, hg⟩
    clear HC
    have hA4 := hA2.to hc hg
    have hs5 := hg.size
    clear hA2 hc hg
    go_wp2_with fail
    go_ret
    exact ⟨by cases decide (c.err = 0) <;> rfl, (hA4.below ((Below.refl _ _).alloc (Nat.le_refl _) _))⟩
set_option maxRecDepth 100000 in
set_option maxHeartbeats 4000000 in
theorem preds_any {wh : Cu → Out Nd} {wr : Cu → Cu × Nd} {k : Nat} {w : World} {B : Nat} {v : Value} {c : Cu} (h : CurAt w B v c) (HP : Pair k wh wr) (hwh : ∀ (c : Cu) (W : World), 200 ≤ c.nest + k → CurAt W B v c → Calls Try.prog 50 #[rdr B] W (ReadTo B v (wh c) W)) (hk : 200 ≤ c.nest + (k + 1)) : Calls Try.prog 74 #[rdr B] w (RowsTo B v (predsP wh c) w) := by
  have HWH := Lib.hid hwh
  have HK := Lib.hid hk
  have HFEW := Lib.hid h.few
  obtain ⟨i0, hi0, hz0, hz1, hz2⟩ := info_parts infoNode
  clear hwh hk
  unfold rdr
  obtain ⟨W1, hW1⟩ : ∃ W1, W1 = (w.alloc (.cells #[.pointer (some ⟨B, 0, none⟩)] 69)) := ⟨_, rfl⟩
  have hsz : W1.heap.size = w.heap.size + 1 := by rw [hW1]; simp
  have Kp : Blk W1 (w.heap.size) #[.pointer (some ⟨B, 0, none⟩)] 69 := by rw [hW1]; have h0 := Blk.new w #[.pointer (some ⟨B, 0, none⟩)] 69; (try simp only [World.size_alloc] at h0); exact h0
  have hA1 : At7 B v c w W1 := by rw [hW1]; exact (At7.of h).alloc _
  have hlt := h.lt
  have HW1 := Lib.hid hW1
  clear hW1 h
  go_enter Try.func74, Try.ntmps74
  go_upto_region 1 with fail
  rw [← HW1.out]
  clear HW1
  have p0 := cells1 Kp
  cases h4 : c.is [40] with
  | false =>
    have H0 : Hid (c.take [40] = c) := take_not (by rw [h4]; decide)
    have HC := take_l hA1.cur [40]
    rw [h4] at HC
    go_wp2_with fail
    refine HC.mono ?_; rintro e W2 ⟨rfl, hc, hg⟩
    clear HC
    clear p0
    have hA2 := hA1.to hc hg
    have Kp := Kp.kept hg (fun e => by injection e; omega)
    have hs3 := hg.size
    clear hA1 hc hg
    have p0 := cells1 Kp
    have HC := pred_any hA2.cur HP HWH.out (by rw [H0.out]; exact HK.out)
    go_wp2_with fail
    refine HC.mono ?_; rintro e W4 ⟨d, rfl, hAc, hm⟩
    clear HC
    clear p0
    have hA4 := hA2.trans hAc
    have Kp := Kp.kept hAc.grown (fun e => by injection e; omega)
    have hs5 := hAc.grown.size
    clear hA2 hAc
    obtain ⟨dk, dp, dn, dt, dq, dl, dc⟩ := d
    cases ho : (predP wh (c.take [40])).2 with
    | none =>
      have HQ : Hid (predsP wh c = ((predP wh (c.take [40])).1, none)) := by show _ = _; unfold predsP; rw [h4]; rw [if_neg (by decide), out_eq ho]
      rw [ho] at hm
      unfold NC.val
      simp only [Option.isSome_none]
      have hm : NC.mk dk dp dn dt dq dl dc = NC.mk 0 0 0 [] none 0 0 := hm
      injection hm with q1 q2 q3 q4 q5 q6 q7
      subst q1 q2 q3 q4 q5 q6 q7
      have p0 := cells1 Kp
      go_upto_region 3 with fail
      obtain ⟨W6, hW6⟩ : ∃ x, x = W4.alloc (.cells #[.int .i64 0, .int .i64 0, .int .i64 0, .string ⟨#[]⟩, .slice none 0 0] 25) := ⟨_, rfl⟩
      rw [← hW6]
      have hB : Below W4.heap.size W4 W6 := by rw [hW6]; exact (Below.refl _ _).alloc (Nat.le_refl _) _
      have Kd : Blk W6 W4.heap.size #[.int .i64 0, .int .i64 0, .int .i64 0, .string ⟨#[]⟩, .slice none 0 0] 25 := by rw [hW6]; exact Blk.new W4 _ _
      have hz6 : W4.heap.size + 1 ≤ W6.heap.size := by rw [hW6]; simp
      clear hW6
      clear p0
      have hA6 := hA4.below hB
      have Kp := Kp.kept (grownBy_below hB (some B)) (fun e => by injection e; omega)
      have hs7 := (grownBy_below hB (some B)).size
      clear hA4 hB
      have p0 := cells1 Kp
      obtain ⟨⟨d0, d1, d2, d3, d4⟩, -⟩ := cells5 Kd
      go_wp2_with fail
      go_ret2
      exact ⟨_, by rw [HQ.out]; rfl, by rw [HQ.out]; exact hA6, by rw [HQ.out]; exact rfl⟩
    | some t =>
      have HQ : Hid (predsP wh c = ((predP wh (c.take [40])).1, some [t])) := by show _ = _; unfold predsP; rw [h4]; rw [if_neg (by decide), out_eq ho]
      rw [ho] at hm
      have Td : NodeAt _ _ _ t := hm
      clear hm
      unfold NC.val
      simp only [Option.isSome_some]
      have p0 := cells1 Kp
      go_upto_region 3 with fail
      obtain ⟨W8, hW8⟩ : ∃ x, x = W4.alloc (.cells #[.int .i64 dk, .int .i64 dp, .int .i64 dn, .string ⟨dt.toArray⟩, .slice dq dl dc] 25) := ⟨_, rfl⟩
      rw [← hW8]
      have hB : Below W4.heap.size W4 W8 := by rw [hW8]; exact (Below.refl _ _).alloc (Nat.le_refl _) _
      have Kd : Blk W8 W4.heap.size #[.int .i64 dk, .int .i64 dp, .int .i64 dn, .string ⟨dt.toArray⟩, .slice dq dl dc] 25 := by rw [hW8]; exact Blk.new W4 _ _
      have hz8 : W4.heap.size + 1 ≤ W8.heap.size := by rw [hW8]; simp
      clear hW8
      clear p0
      have hA8 := hA4.below hB
      have Kp := Kp.kept (grownBy_below hB (some B)) (fun e => by injection e; omega)
      have Td := Td.keeps (w' := W8) ⟨(grownBy_below hB (some B)).size, fun k hk hkl => (grownBy_below hB (some B)).block k hkl (fun e => by injection e; omega)⟩
      have hs9 := (grownBy_below hB (some B)).size
      clear hA4 hB
      have p0 := cells1 Kp
      obtain ⟨⟨d0, d1, d2, d3, d4⟩, -⟩ := cells5 Kd
      clear p0 d0 d1 d2 d3 d4
      obtain ⟨W10, hV10⟩ : ∃ x, x = W8.alloc (.cells #[.int .i64 dk, .int .i64 dp, .int .i64 dn, .string ⟨dt.toArray⟩, .slice dq dl dc] 25) := ⟨_, rfl⟩
      have HV := Lib.hid hV10
      have hB : Below W8.heap.size W8 W10 := by rw [hV10]; exact (Below.refl _ _).alloc (Nat.le_refl _) _
      have KL : Blk W10 W8.heap.size #[.int .i64 dk, .int .i64 dp, .int .i64 dn, .string ⟨dt.toArray⟩, .slice dq dl dc] 25 := by rw [hV10]; exact Blk.new W8 _ _
      have hz10 : W8.heap.size + 1 ≤ W10.heap.size := by rw [hV10]; simp
      clear hV10
      have hA11 := hA8.below hB
      have Lp := Kp.kept (grownBy_below hB (some B)) (fun e => by injection e; omega)
      have Ld := Kd.kept (grownBy_below hB (some B)) (fun e => by injection e; omega)
      have Td := (Td.mono (S' := fun k => w.heap.size + 1 ≤ k ∧ k ≠ W8.heap.size) fun k hk hl => ⟨by omega, by omega⟩).keeps (w' := W10) ⟨hB.size, fun k hk hkl => hB.block k hkl⟩
      have hs12 := hB.size
      have hO := (OwnRows.one (n := w.heap.size + 1) (d := ⟨dk, dp, dn, dt, dq, dl, dc⟩) KL (by omega) Td).mono (m := w.heap.size) (by omega)
      have p0 := cells1 Kp
      obtain ⟨⟨d0, d1, d2, d3, d4⟩, -⟩ := cells5 Kd
      go_wp2_with fail
      rw [← HV.out]
      go_ret2
      exact ⟨_, by rw [HQ.out]; rfl, by rw [HQ.out]; exact hA11, by rw [HQ.out]; exact hO⟩
  | true =>
    have H0 : Hid ((c.take [40]).nest = c.nest ∧ (c.take [40]).ws = c.ws) := ⟨(fine_take c [40]).nest (by rw [take_err]; exact is_err h4), (fine_take c [40]).ws⟩
    have HC := take_l hA1.cur [40]
    rw [h4] at HC
    go_wp2_with fail
    refine HC.mono ?_; rintro e W13 ⟨rfl, hc, hg⟩
    clear HC
    clear p0
    have hA13 := hA1.to hc hg
    have Kp := Kp.kept hg (fun e => by injection e; omega)
    have hs14 := hg.size
    clear hA1 hc hg
    cases h5 : (c.take [40]).is [41] with
    | true =>
      have HQ : Hid (predsP wh c = ((c.take [40]).take [41], some [])) := by show _ = _; unfold predsP; rw [if_pos h4, if_pos h5]
      have p0 := cells1 Kp
      have HC := take_l hA13.cur [41]
      rw [h5] at HC
      go_wp2_with fail
      refine HC.mono ?_; rintro e W15 ⟨rfl, hc, hg⟩
      clear HC
      clear p0
      have hA15 := hA13.to hc hg
      have Kp := Kp.kept hg (fun e => by injection e; omega)
      have hs16 := hg.size
      clear hA13 hc hg
      have p0 := cells1 Kp
      go_wp2_with fail
      go_ret2
      exact ⟨_, by rw [HQ.out]; rfl, by rw [HQ.out]; exact hA15, by rw [HQ.out]; exact OwnRows.nil⟩
    | false =>
      have H1 : Hid ((c.take [40]).take [41] = c.take [40]) := take_not (by rw [h5]; decide)
      have p0 := cells1 Kp
      have HC := take_l hA13.cur [41]
      rw [h5] at HC
      rw [H1.out] at HC
      go_wp2_with fail
      refine HC.mono ?_; rintro e W17 ⟨rfl, hc, hg⟩
      clear HC
      clear p0
      have hA17 := hA13.to hc hg
      have Kp := Kp.kept hg (fun e => by injection e; omega)
      have hs18 := hg.size
      clear hA13 hc hg
      have p0 := cells1 Kp
      have HC := pred_any hA17.cur HP HWH.out (by rw [H0.out.1]; exact HK.out)
      go_wp2_with fail
      refine HC.mono ?_; rintro e W19 ⟨d, rfl, hAc, hm⟩
      clear HC
      clear p0
      have hA19 := hA17.trans hAc
      have Kp := Kp.kept hAc.grown (fun e => by injection e; omega)
      have hs20 := hAc.grown.size
      clear hA17 hAc
      obtain ⟨dk, dp, dn, dt, dq, dl, dc⟩ := d
      cases ho : (predP wh (c.take [40])).2 with
      | none =>
        have HQ : Hid (predsP wh c = ((predP wh (c.take [40])).1, none)) := by show _ = _; unfold predsP; rw [if_pos h4, if_neg (by rw [h5]; decide), H1.out, out_eq ho]
        rw [ho] at hm
        unfold NC.val
        simp only [Option.isSome_none]
        have hm : NC.mk dk dp dn dt dq dl dc = NC.mk 0 0 0 [] none 0 0 := hm
        injection hm with q1 q2 q3 q4 q5 q6 q7
        subst q1 q2 q3 q4 q5 q6 q7
        have p0 := cells1 Kp
        go_upto_region 9 with fail
        obtain ⟨W21, hW21⟩ : ∃ x, x = W19.alloc (.cells #[.int .i64 0, .int .i64 0, .int .i64 0, .string ⟨#[]⟩, .slice none 0 0] 25) := ⟨_, rfl⟩
        rw [← hW21]
        have hB : Below W19.heap.size W19 W21 := by rw [hW21]; exact (Below.refl _ _).alloc (Nat.le_refl _) _
        have Kd : Blk W21 W19.heap.size #[.int .i64 0, .int .i64 0, .int .i64 0, .string ⟨#[]⟩, .slice none 0 0] 25 := by rw [hW21]; exact Blk.new W19 _ _
        have hz21 : W19.heap.size + 1 ≤ W21.heap.size := by rw [hW21]; simp
        clear hW21
        clear p0
        have hA21 := hA19.below hB
        have Kp := Kp.kept (grownBy_below hB (some B)) (fun e => by injection e; omega)
        have hs22 := (grownBy_below hB (some B)).size
        clear hA19 hB
        have p0 := cells1 Kp
        obtain ⟨⟨d0, d1, d2, d3, d4⟩, -⟩ := cells5 Kd
        go_wp2_with fail
        go_ret2
        exact ⟨_, by rw [HQ.out]; rfl, by rw [HQ.out]; exact hA21, by rw [HQ.out]; exact rfl⟩
      | some t =>
        rw [ho] at hm
        have Td : NodeAt _ _ _ t := hm
        clear hm
        unfold NC.val
        simp only [Option.isSome_some]
        have HN := Lib.hid ((pair_pred HP (c.take [40]) (by rw [H0.out.1]; exact HK.out)).nest_of (out_eq ho))
        have p0 := cells1 Kp
        go_upto_region 9 with fail
        obtain ⟨W23, hW23⟩ : ∃ x, x = W19.alloc (.cells #[.int .i64 dk, .int .i64 dp, .int .i64 dn, .string ⟨dt.toArray⟩, .slice dq dl dc] 25) := ⟨_, rfl⟩
        rw [← hW23]
        have hB : Below W19.heap.size W19 W23 := by rw [hW23]; exact (Below.refl _ _).alloc (Nat.le_refl _) _
        have Kd : Blk W23 W19.heap.size #[.int .i64 dk, .int .i64 dp, .int .i64 dn, .string ⟨dt.toArray⟩, .slice dq dl dc] 25 := by rw [hW23]; exact Blk.new W19 _ _
        have hz23 : W19.heap.size + 1 ≤ W23.heap.size := by rw [hW23]; simp
        clear hW23
        clear p0
        have hA23 := hA19.below hB
        have Kp := Kp.kept (grownBy_below hB (some B)) (fun e => by injection e; omega)
        have Td := Td.keeps (w' := W23) ⟨(grownBy_below hB (some B)).size, fun k hk hkl => (grownBy_below hB (some B)).block k hkl (fun e => by injection e; omega)⟩
        have hs24 := (grownBy_below hB (some B)).size
        clear hA19 hB
        have p0 := cells1 Kp
        obtain ⟨⟨d0, d1, d2, d3, d4⟩, -⟩ := cells5 Kd
        have HC := many_any (enters_of Try.func101 (by kernel_rfl) rfl) (enters_of Try.func99 (by kernel_rfl) rfl) (go := fun c => c.is [44]) (nx := fun c => c.take [44]) (rd := predP wh) (fun d => 200 ≤ d.nest + (k + 1)) (c.ws.length + 1) (by have := HFEW.out; omega) hA23.cur (by rw [HN.out.1, H0.out.1]; exact HK.out) (by rw [HN.out.2.1, H0.out.2]; omega) (fun d W _ hd => comma_any hd) (fun d W hi hb hd => pred_any hd HP HWH.out (by rw [(fine_take d [44]).nest (by rw [take_err]; exact is_err hb)]; exact hi)) (fun d e n hi hb he => comma_step HP hi hb he)
        go_wp2_with fail
        refine HC.mono ?_; rintro e W25 ⟨val, rfl, hAc, hm⟩
        clear HC
        clear p0 d0 d1 d2 d3 d4
        have hA25 := hA23.trans hAc
        have Kp := Kp.kept hAc.grown (fun e => by injection e; omega)
        have Kd := Kd.kept hAc.grown (fun e => by injection e; omega)
        have Td := Td.keeps (w' := W25) ⟨hAc.grown.size, fun k hk hkl => hAc.grown.block k hkl (fun e => by injection e; omega)⟩
        have hs26 := hAc.grown.size
        clear hA23 hAc
        cases hp : (manyP (fun c => c.is [44]) (fun c => c.take [44]) (predP wh) (c.ws.length + 1) (predP wh (c.take [40])).1 []).2 with
        | none =>
          have HQ : Hid (predsP wh c = ((manyP (fun c => c.is [44]) (fun c => c.take [44]) (predP wh) (c.ws.length + 1) (predP wh (c.take [40])).1 []).1, none)) := by show _ = _; unfold predsP; rw [if_pos h4, if_neg (by rw [h5]; decide), H1.out, out_eq ho]; dsimp only; rw [out_eq hp]
          rw [hp] at hm
          obtain rfl : val = .slice none 0 0 := hm
          simp only [Option.isSome_none]
          have p0 := cells1 Kp
          obtain ⟨⟨d0, d1, d2, d3, d4⟩, -⟩ := cells5 Kd
          go_wp2_with fail
          go_ret2
          exact ⟨_, by rw [HQ.out]; rfl, by rw [HQ.out]; exact hA25, by rw [HQ.out]; exact rfl⟩
        | some ks =>
          rw [hp] at hm
          have Ro : OwnRows _ _ val ks := hm
          clear hm
          simp only [Option.isSome_some]
          cases hi : (manyP (fun c => c.is [44]) (fun c => c.take [44]) (predP wh) (c.ws.length + 1) (predP wh (c.take [40])).1 []).1.is [41] with
          | false =>
            have HQ : Hid (predsP wh c = ((manyP (fun c => c.is [44]) (fun c => c.take [44]) (predP wh) (c.ws.length + 1) (predP wh (c.take [40])).1 []).1.want [41], none)) := by show _ = _; unfold predsP; rw [if_pos h4, if_neg (by rw [h5]; decide), H1.out, out_eq ho]; dsimp only; rw [out_eq hp]; dsimp only; rw [hi]; rfl
            have p0 := cells1 Kp
            obtain ⟨⟨d0, d1, d2, d3, d4⟩, -⟩ := cells5 Kd
            have HC := want_l hA25.cur [41]
            rw [hi] at HC
            go_wp2_with fail
            refine HC.mono ?_; rintro e W27 ⟨rfl, hc, hg⟩
            clear HC
            clear p0 d0 d1 d2 d3 d4
            have hA27 := hA25.to hc hg
            have Kp := Kp.kept hg (fun e => by injection e; omega)
            have Kd := Kd.kept hg (fun e => by injection e; omega)
            have Td := Td.keeps (w' := W27) ⟨hg.size, fun k hk hkl => hg.block k hkl (fun e => by injection e; omega)⟩
            have Ro := Ro.keep hg (by omega)
            have hs28 := hg.size
            clear hA25 hc hg
            have p0 := cells1 Kp
            obtain ⟨⟨d0, d1, d2, d3, d4⟩, -⟩ := cells5 Kd
            go_wp2_with fail
            go_ret2
            exact ⟨_, by rw [HQ.out]; rfl, by rw [HQ.out]; exact hA27, by rw [HQ.out]; exact rfl⟩
          | true =>
            have HQ : Hid (predsP wh c = ((manyP (fun c => c.is [44]) (fun c => c.take [44]) (predP wh) (c.ws.length + 1) (predP wh (c.take [40])).1 []).1.want [41], some (t :: ks))) := by show _ = _; unfold predsP; rw [if_pos h4, if_neg (by rw [h5]; decide), H1.out, out_eq ho]; dsimp only; rw [out_eq hp]; dsimp only; rw [if_pos hi]
            have p0 := cells1 Kp
            obtain ⟨⟨d0, d1, d2, d3, d4⟩, -⟩ := cells5 Kd
            have HC := want_l hA25.cur [41]
            rw [hi] at HC
            go_wp2_with fail
            refine HC.mono ?_; rintro e W29 ⟨rfl, hc, hg⟩
            clear HC
            clear p0 d0 d1 d2 d3 d4
            have hA29 := hA25.to hc hg
            have Kp := Kp.kept hg (fun e => by injection e; omega)
            have Kd := Kd.kept hg (fun e => by injection e; omega)
            have Td := Td.keeps (w' := W29) ⟨hg.size, fun k hk hkl => hg.block k hkl (fun e => by injection e; omega)⟩
            have Ro := Ro.keep hg (by omega)
            have hs30 := hg.size
            clear hA25 hc hg
            obtain ⟨ds, e1, e2, e3⟩ := Ro
            have HR := RowAt.of_owns encN_len (by omega) e2
            have HFW := hA29.cur.few
            have hbs : W29.heap.size ≤ W29.heap.size := Nat.le_refl _
            have HD1 := Lib.hid (Td.mono (S' := fun b => w.heap.size ≤ b ∧ b < W29.heap.size) fun k hk hl => ⟨by omega, hl⟩)
            have HD2 := Lib.hid (fun j (a : j < ds.length) (b : j < ks.length) => (e3 j a b).mono (S' := fun b => w.heap.size ≤ b ∧ b < W29.heap.size) fun k hk hl => ⟨by omega, hl⟩)
            have HE1 := Lib.hid e1
            have HAZ := Lib.hid hA29
            clear e3 e2 Td
            have p0 := cells1 Kp
            obtain ⟨⟨d0, d1, d2, d3, d4⟩, -⟩ := cells5 Kd
            have HLEN := Lib.hid (many_len _ _ _ _ _ (out_eq hp))
            go_wp2_with (at_builtin; refine wpList_append_row rfl _ _ 23 rfl W29.heap.size 25 i0 _ 64 Try.underlying23 hi0 hz0 hz1 hz2 rfl (by decide) encN_len encN_one [⟨dk, dp, dn, dt, dq, dl, dc⟩] rfl (own_lit (cs := encN ⟨dk, dp, dn, dt, dq, dl, dc⟩) (k := 1) (Blk.new _ _ _) (Nat.le_refl _) rfl (by unfold maxLen; omega)) rfl (HR.later ((Below.refl _ _).alloc (Nat.le_refl _) _)) ?_ ?_ ?_ ?_; (have := HLEN.out; have := HFEW.out; have := HE1.out; simp at *; unfold maxLen; omega); (have := HLEN.out; have := HFEW.out; have := HE1.out; simp at *; omega); (simp); intro v3 w3 ho3 hg3)
            have hO := OwnRows.cons (n := w.heap.size) HE1.out ho3 hg3 (HD1.out.keeps ⟨by simp, fun k hk hkl => Below.heap_alloc _ _ _ hk.2⟩) (fun j a b => (HD2.out j a b).keeps ⟨by simp, fun k hk hkl => Below.heap_alloc _ _ _ hk.2⟩) (by omega)
            have hA := (HAZ.out.alloc _).row hg3 (fun b hb => by have hb2 : some W29.heap.size = some b := hb; injection hb2 with e; omega)
            go_ret2
            exact ⟨_, by rw [HQ.out]; rfl, by rw [HQ.out]; exact hA, by rw [HQ.out]; exact hO⟩
end Go.Proofs.Ytlammclbnihopaa.N7
namespace Go.Proofs.Ytlammclbnihopaa.N7
open Go.RowKit N5 N6

attribute [local go_sem] fld0 fld1
set_option maxRecDepth 100000 in
set_option maxHeartbeats 4000000 in
theorem context_any {wh : Cu → Out Nd} {wr : Cu → Cu × Nd} {k : Nat} {w : World} {B : Nat} {v : Value} {c : Cu} (h : CurAt w B v c) (HP : Pair k wh wr) (hwh : ∀ (c : Cu) (W : World), 200 ≤ c.nest + k → CurAt W B v c → Calls Try.prog 50 #[rdr B] W (ReadTo B v (wh c) W)) (hk : 200 ≤ c.nest + (k + 1)) : Calls Try.prog 46 #[rdr B] w (RowsTo B v (contextP wh c) w) := by
  have HWH := Lib.hid hwh
  have HK := Lib.hid hk
  clear hwh hk
  unfold rdr
  obtain ⟨W1, hW1⟩ : ∃ W1, W1 = (w.alloc (.cells #[.pointer (some ⟨B, 0, none⟩)] 69)) := ⟨_, rfl⟩
  have hsz : W1.heap.size = w.heap.size + 1 := by rw [hW1]; simp
  have Kp : Blk W1 (w.heap.size) #[.pointer (some ⟨B, 0, none⟩)] 69 := by rw [hW1]; have h0 := Blk.new w #[.pointer (some ⟨B, 0, none⟩)] 69; (try simp only [World.size_alloc] at h0); exact h0
  have hA1 : At7 B v c w W1 := by rw [hW1]; exact (At7.of h).alloc _
  have hlt := h.lt
  have HW1 := Lib.hid hW1
  clear hW1 h
  go_enter Try.func46, Try.ntmps46
  go_upto_region 1 with fail
  rw [← HW1.out]
  clear HW1
  have p0 := cells1 Kp
  cases ha : c.ahead [61, 62] with
  | false =>
    have HQ : Hid (contextP wh c = (c, if c.err = 0 then some [] else none)) := by show _ = _; unfold contextP; rw [ha]; rfl
    have HC := ahead_l hA1.cur [61, 62]
    rw [ha] at HC
    go_wp2_with fail
    refine HC.mono ?_; rintro e W2 ⟨rfl, hB⟩
    clear HC
    clear p0
    have hA2 := hA1.below hB
    have Kp := Kp.kept (grownBy_below hB (some B)) (fun e => by injection e; omega)
    have hs3 := (grownBy_below hB (some B)).size
    clear hA1 hB
    have p0 := cells1 Kp
    have HC := failed_l hA2.cur
    go_wp2_with fail
    refine HC.mono ?_; rintro e W4 ⟨rfl, hAc⟩
    clear HC
    clear p0
    have hA4 := hA2.trans hAc
    have Kp := Kp.kept hAc.grown (fun e => by injection e; omega)
    have hs5 := hAc.grown.size
    clear hA2 hAc
    have p0 := cells1 Kp
    by_cases he : c.err = 0
    case pos =>
      have HE : Hid (decide (c.err = 0) = true) := by show _ = _; simp [he]
      have HE2 : Hid ((if c.err = 0 then some [] else none : Option (List Nd)) = some []) := by show _ = _; simp [he]
      clear he
      go_wp2_with fail
      go_ret2
      exact ⟨_, by rw [HQ.out, HE2.out, HE.out]; rfl, by rw [HQ.out]; exact hA4, by rw [HQ.out, HE2.out]; exact OwnRows.nil⟩
    case neg =>
      have HE : Hid (decide (c.err = 0) = false) := by show _ = _; simp [he]
      have HE2 : Hid ((if c.err = 0 then some [] else none : Option (List Nd)) = none) := by show _ = _; simp [he]
      clear he
      go_wp2_with fail
      go_ret2
      exact ⟨_, by rw [HQ.out, HE2.out, HE.out]; rfl, by rw [HQ.out]; exact hA4, by rw [HQ.out, HE2.out]; exact rfl⟩
  | true =>
    have HC := ahead_l hA1.cur [61, 62]
    rw [ha] at HC
    go_wp2_with fail
    refine HC.mono ?_; rintro e W6 ⟨rfl, hB⟩
    clear HC
    clear p0
    have hA6 := hA1.below hB
    have Kp := Kp.kept (grownBy_below hB (some B)) (fun e => by injection e; omega)
    have hs7 := (grownBy_below hB (some B)).size
    clear hA1 hB
    have p0 := cells1 Kp
    have HC := preds_any hA6.cur HP HWH.out HK.out
    go_wp2_with fail
    refine HC.mono ?_; rintro e W8 ⟨val, rfl, hAc, hm⟩
    clear HC
    clear p0
    have hA8 := hA6.trans hAc
    have Kp := Kp.kept hAc.grown (fun e => by injection e; omega)
    have hs9 := hAc.grown.size
    clear hA6 hAc
    cases ho : (predsP wh c).2 with
    | none =>
      have HQ : Hid (contextP wh c = ((predsP wh c).1, none)) := by show _ = _; unfold contextP; rw [if_pos ha, out_eq ho]
      rw [ho] at hm
      obtain rfl : val = .slice none 0 0 := hm
      simp only [Option.isSome_none]
      have p0 := cells1 Kp
      go_wp2_with fail
      go_ret2
      exact ⟨_, by rw [HQ.out]; rfl, by rw [HQ.out]; exact hA8, by rw [HQ.out]; exact rfl⟩
    | some ks =>
      rw [ho] at hm
      have Ro : OwnRows _ _ val ks := hm
      clear hm
      simp only [Option.isSome_some]
      cases hi : (predsP wh c).1.is [61, 62] with
      | false =>
        have HQ : Hid (contextP wh c = ((predsP wh c).1.want [61, 62], none)) := by show _ = _; unfold contextP; rw [if_pos ha, out_eq ho]; dsimp only; rw [hi]; rfl
        have p0 := cells1 Kp
        have HC := want_l hA8.cur [61, 62]
        rw [hi] at HC
        go_wp2_with fail
        refine HC.mono ?_; rintro e W10 ⟨rfl, hc, hg⟩
        clear HC
        clear p0
        have hA10 := hA8.to hc hg
        have Kp := Kp.kept hg (fun e => by injection e; omega)
        have Ro := Ro.keep hg (by omega)
        have hs11 := hg.size
        clear hA8 hc hg
        have p0 := cells1 Kp
        go_wp2_with fail
        go_ret2
        exact ⟨_, by rw [HQ.out]; rfl, by rw [HQ.out]; exact hA10, by rw [HQ.out]; exact rfl⟩
      | true =>
        have HQ : Hid (contextP wh c = ((predsP wh c).1.want [61, 62], some ks)) := by show _ = _; unfold contextP; rw [if_pos ha, out_eq ho]; dsimp only; rw [if_pos hi]
        have p0 := cells1 Kp
        have HC := want_l hA8.cur [61, 62]
        rw [hi] at HC
        go_wp2_with fail
        refine HC.mono ?_; rintro e W12 ⟨rfl, hc, hg⟩
        clear HC
        clear p0
        have hA12 := hA8.to hc hg
        have Kp := Kp.kept hg (fun e => by injection e; omega)
        have Ro := Ro.keep hg (by omega)
        have hs13 := hg.size
        clear hA8 hc hg
        have p0 := cells1 Kp
        go_wp2_with fail
        go_ret2
        exact ⟨_, by rw [HQ.out]; rfl, by rw [HQ.out]; exact hA12, by rw [HQ.out]; exact Ro.mono (by omega)⟩
set_option maxRecDepth 100000 in
set_option maxHeartbeats 4000000 in
theorem qual_any {wh : Cu → Out Nd} {wr : Cu → Cu × Nd} {k : Nat} {w : World} {B : Nat} {v : Value} {c : Cu} (h : CurAt w B v c) (HP : Pair k wh wr) (hwh : ∀ (c : Cu) (W : World), 200 ≤ c.nest + k → CurAt W B v c → Calls Try.prog 50 #[rdr B] W (ReadTo B v (wh c) W)) (hk : 200 ≤ c.nest + k) : Calls Try.prog 52 #[rdr B] w (ReadTo B v (qualP wh c) w) := by
  have HWH := Lib.hid hwh
  have HK := Lib.hid hk
  have HFEW := Lib.hid h.few
  obtain ⟨i0, hi0, hz0, hz1, hz2⟩ := info_parts infoNode
  clear hwh hk
  unfold rdr
  obtain ⟨W1, hW1⟩ : ∃ W1, W1 = ((w.alloc (.cells #[.pointer (some ⟨B, 0, none⟩)] 69)).alloc (.cells #[.int .i64 0, .int .i64 0, .int .i64 0, .string ⟨#[]⟩, .slice none 0 0] 25)) := ⟨_, rfl⟩
  have hsz : W1.heap.size = w.heap.size + 1 + 1 := by rw [hW1]; simp
  have Kp : Blk W1 (w.heap.size) #[.pointer (some ⟨B, 0, none⟩)] 69 := by rw [hW1]; have h0 := Blk.new w #[.pointer (some ⟨B, 0, none⟩)] 69; (try simp only [World.size_alloc] at h0); exact (h0.later ((Below.refl _ _).alloc (Nat.le_refl _) _))
  have Kr : Blk W1 (w.heap.size + 1) #[.int .i64 0, .int .i64 0, .int .i64 0, .string ⟨#[]⟩, .slice none 0 0] 25 := by rw [hW1]; have h0 := Blk.new (w.alloc (.cells #[.pointer (some ⟨B, 0, none⟩)] 69)) #[.int .i64 0, .int .i64 0, .int .i64 0, .string ⟨#[]⟩, .slice none 0 0] 25; (try simp only [World.size_alloc] at h0); exact h0
  have hA1 : At7 B v c w W1 := by rw [hW1]; exact (At7.of h).alloc _ |>.alloc _
  have hlt := h.lt
  have HW1 := Lib.hid hW1
  clear hW1 h
  go_enter Try.func52, Try.ntmps52
  go_upto_region 1 with fail
  rw [← HW1.out]
  clear HW1
  have p0 := cells1 Kp
  obtain ⟨⟨r0, r1, r2, r3, r4⟩, rf0, rf1, rf2, rf3, rf4⟩ := cells5 Kr
  obtain ⟨⟨tk, tp, tn, tt⟩, hT⟩ : ∃ t, t = c.peek := ⟨_, rfl⟩
  have HT := Lib.hid hT
  clear hT
  have HC := peek_l hA1.cur
  rw [← HT.out] at HC
  go_wp2_with fail
  refine HC.mono ?_; rintro e W2 ⟨rfl, hB⟩
  clear HC
  clear p0 r0 r1 r2 r3 r4 rf0 rf1 rf2 rf3 rf4
  have hA2 := hA1.below hB
  have Kp := Kp.kept (grownBy_below hB (some B)) (fun e => by injection e; omega)
  have Kr := Kr.kept (grownBy_below hB (some B)) (fun e => by injection e; omega)
  have hs3 := (grownBy_below hB (some B)).size
  clear hA1 hB
  have p0 := cells1 Kp
  obtain ⟨⟨r0, r1, r2, r3, r4⟩, rf0, rf1, rf2, rf3, rf4⟩ := cells5 Kr
  have HC := context_any hA2.cur HP HWH.out (by have := HK.out; omega)
  go_wp2_with fail
  refine HC.mono ?_; rintro e W4 ⟨val, rfl, hAc, hm⟩
  clear HC
  clear p0 r0 r1 r2 r3 r4 rf0 rf1 rf2 rf3 rf4
  have hA4 := hA2.trans hAc
  have Kp := Kp.kept hAc.grown (fun e => by injection e; omega)
  have Kr := Kr.kept hAc.grown (fun e => by injection e; omega)
  have hs5 := hAc.grown.size
  clear hA2 hAc
  cases ho : (contextP wh c).2 with
  | none =>
    have HQ : Hid (qualP wh c = ((contextP wh c).1, none)) := by show _ = _; unfold qualP; rw [out_eq ho]
    rw [ho] at hm
    obtain rfl : val = .slice none 0 0 := hm
    simp only [Option.isSome_none]
    have p0 := cells1 Kp
    obtain ⟨⟨r0, r1, r2, r3, r4⟩, rf0, rf1, rf2, rf3, rf4⟩ := cells5 Kr
    obtain ⟨W7, hW7, hb7, hA7, hn7⟩ := read_end hA4 (b := w.heap.size + 1) (by omega) (z := zN) Kr zN
    dsimp only [zN] at hW7 hb7
    clear hn7
    have p0 := cells1 Kp
    obtain ⟨⟨r0, r1, r2, r3, r4⟩, rf0, rf1, rf2, rf3, rf4⟩ := cells5 Kr
    go_wp2_with fail
    rw [← hW7]
    obtain ⟨z0, z1, z2, z3, z4⟩ := hb7
    dsimp only at z0 z1 z2 z3 z4
    refine bodyPost_ret (v := .tuple #[NC.val zN, .bool false]) (by simp [results, Try.results52, go_sem, z0, z1, z2, z3, z4, NC.val, zN]) rfl ⟨zN, by rw [HQ.out]; rfl, by rw [HQ.out]; exact hA7, by rw [HQ.out]⟩
  | some l =>
    rw [ho] at hm
    have Ro : OwnRows _ _ val l := hm
    clear hm
    simp only [Option.isSome_some]
    have HN := Lib.hid ((pair_context HP c (by have := HK.out; omega)).nest_of (out_eq ho))
    have HLEN := Lib.hid (context_len (out_eq ho))
    have HBK : Hid (∀ b, val.ownBlock = some b → W2.heap.size ≤ b ∧ b < W4.heap.size) := by obtain ⟨ds, _, q, _⟩ := Ro; exact fun b hb => q.lt b hb
    have p0 := cells1 Kp
    obtain ⟨⟨r0, r1, r2, r3, r4⟩, rf0, rf1, rf2, rf3, rf4⟩ := cells5 Kr
    have HC := HWH.out (contextP wh c).1 W4 (by rw [HN.out.1]; exact HK.out) hA4.cur
    go_wp2_with fail
    refine HC.mono ?_; rintro e W6 ⟨d, rfl, hAc, hm⟩
    clear HC
    clear p0 r0 r1 r2 r3 r4 rf0 rf1 rf2 rf3 rf4
    have hA6 := hA4.trans hAc
    have Kp := Kp.kept hAc.grown (fun e => by injection e; omega)
    have Kr := Kr.kept hAc.grown (fun e => by injection e; omega)
    have Ro := Ro.keep hAc.grown (by omega)
    have hs7 := hAc.grown.size
    clear hA4 hAc
    obtain ⟨dk, dp, dn, dt, dq, dl, dc⟩ := d
    cases hp : (wh (contextP wh c).1).2 with
    | none =>
      have HQ : Hid (qualP wh c = ((wh (contextP wh c).1).1, none)) := by show _ = _; unfold qualP; rw [out_eq ho]; dsimp only; rw [out_eq hp]
      rw [hp] at hm
      unfold NC.val
      simp only [Option.isSome_none]
      have hm : NC.mk dk dp dn dt dq dl dc = NC.mk 0 0 0 [] none 0 0 := hm
      injection hm with q1 q2 q3 q4 q5 q6 q7
      subst q1 q2 q3 q4 q5 q6 q7
      have p0 := cells1 Kp
      obtain ⟨⟨r0, r1, r2, r3, r4⟩, rf0, rf1, rf2, rf3, rf4⟩ := cells5 Kr
      go_upto_region 6 with fail
      obtain ⟨W8, hW8⟩ : ∃ x, x = W6.alloc (.cells #[.int .i64 0, .int .i64 0, .int .i64 0, .string ⟨#[]⟩, .slice none 0 0] 25) := ⟨_, rfl⟩
      rw [← hW8]
      have hB : Below W6.heap.size W6 W8 := by rw [hW8]; exact (Below.refl _ _).alloc (Nat.le_refl _) _
      have Kd : Blk W8 W6.heap.size #[.int .i64 0, .int .i64 0, .int .i64 0, .string ⟨#[]⟩, .slice none 0 0] 25 := by rw [hW8]; exact Blk.new W6 _ _
      have hz8 : W6.heap.size + 1 ≤ W8.heap.size := by rw [hW8]; simp
      clear hW8
      clear p0 r0 r1 r2 r3 r4 rf0 rf1 rf2 rf3 rf4
      have hA8 := hA6.below hB
      have Kp := Kp.kept (grownBy_below hB (some B)) (fun e => by injection e; omega)
      have Kr := Kr.kept (grownBy_below hB (some B)) (fun e => by injection e; omega)
      have Ro := Ro.keep (grownBy_below hB (some B)) (by omega)
      have hs9 := (grownBy_below hB (some B)).size
      clear hA6 hB
      obtain ⟨W7, hW7, hb7, hA7, hn7⟩ := read_end hA8 (b := w.heap.size + 1) (by omega) (z := zN) Kr zN
      dsimp only [zN] at hW7 hb7
      clear hn7
      have p0 := cells1 Kp
      obtain ⟨⟨r0, r1, r2, r3, r4⟩, rf0, rf1, rf2, rf3, rf4⟩ := cells5 Kr
      obtain ⟨⟨d0, d1, d2, d3, d4⟩, -⟩ := cells5 Kd
      go_wp2_with fail
      rw [← hW7]
      obtain ⟨z0, z1, z2, z3, z4⟩ := hb7
      dsimp only at z0 z1 z2 z3 z4
      refine bodyPost_ret (v := .tuple #[NC.val zN, .bool false]) (by simp [results, Try.results52, go_sem, z0, z1, z2, z3, z4, NC.val, zN]) rfl ⟨zN, by rw [HQ.out]; rfl, by rw [HQ.out]; exact hA7, by rw [HQ.out]⟩
    | some t =>
      have HQ : Hid (qualP wh c = ((wh (contextP wh c).1).1, some (.mk 4 tp 0 [] (l ++ [t])))) := by show _ = _; unfold qualP; rw [out_eq ho]; dsimp only; rw [out_eq hp, ← HT.out]
      rw [hp] at hm
      have Td : NodeAt _ _ _ t := hm
      clear hm
      unfold NC.val
      simp only [Option.isSome_some]
      have p0 := cells1 Kp
      obtain ⟨⟨r0, r1, r2, r3, r4⟩, rf0, rf1, rf2, rf3, rf4⟩ := cells5 Kr
      go_upto_region 6 with fail
      obtain ⟨W10, hW10⟩ : ∃ x, x = W6.alloc (.cells #[.int .i64 dk, .int .i64 dp, .int .i64 dn, .string ⟨dt.toArray⟩, .slice dq dl dc] 25) := ⟨_, rfl⟩
      rw [← hW10]
      have hB : Below W6.heap.size W6 W10 := by rw [hW10]; exact (Below.refl _ _).alloc (Nat.le_refl _) _
      have Kd : Blk W10 W6.heap.size #[.int .i64 dk, .int .i64 dp, .int .i64 dn, .string ⟨dt.toArray⟩, .slice dq dl dc] 25 := by rw [hW10]; exact Blk.new W6 _ _
      have hz10 : W6.heap.size + 1 ≤ W10.heap.size := by rw [hW10]; simp
      clear hW10
      clear p0 r0 r1 r2 r3 r4 rf0 rf1 rf2 rf3 rf4
      have hA10 := hA6.below hB
      have Kp := Kp.kept (grownBy_below hB (some B)) (fun e => by injection e; omega)
      have Kr := Kr.kept (grownBy_below hB (some B)) (fun e => by injection e; omega)
      have Td := Td.keeps (w' := W10) ⟨(grownBy_below hB (some B)).size, fun k hk hkl => (grownBy_below hB (some B)).block k hkl (fun e => by injection e; omega)⟩
      have Ro := Ro.keep (grownBy_below hB (some B)) (by omega)
      have hs11 := (grownBy_below hB (some B)).size
      clear hA6 hB
      have p0 := cells1 Kp
      obtain ⟨⟨r0, r1, r2, r3, r4⟩, rf0, rf1, rf2, rf3, rf4⟩ := cells5 Kr
      obtain ⟨⟨d0, d1, d2, d3, d4⟩, -⟩ := cells5 Kd
      obtain ⟨ds, e1, e2, e3⟩ := Ro
      have HE3 := Lib.hid e3
      have HE1 := Lib.hid e1
      have HAZ := Lib.hid hA10
      have HTD := Lib.hid Td
      have HKR := Lib.hid Kr
      clear e3 e1 Td
      go_wp2_with (at_builtin; refine wpList_append_at rfl _ _ 23 rfl W2.heap.size 25 i0 _ 5 64 Try.underlying23 hi0 hz0 hz1 hz2 rfl (by decide) _ _ _ rfl (e2.alloc _) ⟨_, 0, none⟩ 1 1 (encN ⟨dk, dp, dn, dt, dq, dl, dc⟩) rfl rfl (cells_of_new _ _ _ _ rfl) (encN_one _) ?_ ?_ ?_ ?_; (have := HLEN.out; have := HFEW.out; unfold maxLen; omega); (have := HLEN.out; have := HFEW.out; omega); (simp; omega); intro v3 w3 ho3 hg3 hat3; have hal := (World.grownBy_alloc W10 _ val.ownBlock).andThen hg3 (fun j hj => .inr hj); have K3 := HKR.out.kept hal (fun e => by have := (HBK.out _ e.symm).1; omega); have hO := OwnRows.snoc HE1.out HE3.out (HTD.out.mono fun b hb _ => ⟨by omega, fun e => by have := (HBK.out b e).2; omega⟩) ho3 hal (hat3.imp id fun e => ⟨_, e, by simp⟩); have hA3 := HAZ.out.row hal (fun b hb => by have := (HBK.out b hb).1; omega); have hs3 := hal.size; clear ho3 hg3 hat3 hal; obtain ⟨q, cap, rfl⟩ := hO.shape; have HO3 := Lib.hid hO; have HA3 := Lib.hid hA3; have HK3 := Lib.hid K3; obtain ⟨⟨m0, m1, m2, m3, m4⟩, n0, n1, n2, n3, n4⟩ := cells5 K3; clear hO hA3 K3)
      have HO4 := HO3.out
      rw [show (l ++ [t]).length = l.length + 1 from by simp] at HO4
      obtain ⟨W7, hW7, hb7, hA7, hn7⟩ := read_end HA3.out (b := w.heap.size + 1) (by omega) (z := zN) HK3.out ⟨4, tp, 0, [], q, l.length + 1, cap⟩
      dsimp only at hW7 hb7
      have hd7 := (hn7 _ _ _ (HO4.node 4 tp 0 []) (by omega)).mono (S' := fun b => w.heap.size ≤ b) fun k hk _ => by omega
      rw [← hW7]
      obtain ⟨z0, z1, z2, z3, z4⟩ := hb7
      dsimp only at z0 z1 z2 z3 z4
      refine bodyPost_ret (v := .tuple #[NC.val ⟨4, tp, 0, [], q, l.length + 1, cap⟩, .bool true]) (by simp [results, Try.results52, go_sem, z0, z1, z2, z3, z4, NC.val, zN]) rfl ⟨_, by rw [HQ.out]; rfl, by rw [HQ.out]; exact hA7, by rw [HQ.out]; exact hd7⟩
end Go.Proofs.Ytlammclbnihopaa.N7
