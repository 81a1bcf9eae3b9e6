/- Patterns: atoms. -/
import Derived.Test.YtemgocegnlehoaaPatBase
namespace Go.Proofs.Ytemgocegnlehoaa.N8
open Go.RowKit N5 N6 N7
attribute [local go_sem] fld0 fld1

set_option maxRecDepth 100000 in
set_option maxHeartbeats 4000000 in
theorem atom_any {wh : Cu → Out Nd} {k : Nat} {w : World} {B : Nat} {v : Value} {c : Cu} (h : CurAt w B v c) (hwh : ∀ (c : Cu) (W : World), 200 ≤ c.nest + k → CurAt W B v c → Calls Try.prog 29 #[rdr B] W (ReadTo B v (wh c) W)) (hk : 200 ≤ c.nest + (k + 1)) : Calls Try.prog 73 #[rdr B] w (ReadTo B v (atomP wh c) w) := by
  have HWH := Lib.hid hwh
  have HK := Lib.hid hk
  clear hwh hk
  unfold rdr
  obtain ⟨W1, hW1⟩ : ∃ W1, W1 = ((w.alloc (.cells #[.pointer (some ⟨B, 0, none⟩)] 69)).alloc (.cells #[.int .i64 0, .int .i64 0, .int .i64 0, .string ⟨#[]⟩, .slice none 0 0] 25)) := ⟨_, rfl⟩
  have hsz : W1.heap.size = w.heap.size + 1 + 1 := by rw [hW1]; simp
  have Kp : Blk W1 (w.heap.size) #[.pointer (some ⟨B, 0, none⟩)] 69 := by rw [hW1]; have h0 := Blk.new w #[.pointer (some ⟨B, 0, none⟩)] 69; (try simp only [World.size_alloc] at h0); exact (h0.later ((Below.refl _ _).alloc (Nat.le_refl _) _))
  have Kr : Blk W1 (w.heap.size + 1) #[.int .i64 0, .int .i64 0, .int .i64 0, .string ⟨#[]⟩, .slice none 0 0] 25 := by rw [hW1]; have h0 := Blk.new (w.alloc (.cells #[.pointer (some ⟨B, 0, none⟩)] 69)) #[.int .i64 0, .int .i64 0, .int .i64 0, .string ⟨#[]⟩, .slice none 0 0] 25; (try simp only [World.size_alloc] at h0); exact h0
  have hA1 : At7 B v c w W1 := by rw [hW1]; exact (At7.of h).alloc _ |>.alloc _
  have hlt := h.lt
  have HW1 := Lib.hid hW1
  clear hW1 h
  go_enter Try.func73, Try.ntmps73
  go_upto_region 1 with fail
  rw [← HW1.out]
  clear HW1
  have p0 := cells1 Kp
  obtain ⟨⟨r0, r1, r2, r3, r4⟩, rf0, rf1, rf2, rf3, rf4⟩ := cells5 Kr
  cases hi : c.is [40] with
  | true =>
    have HQ : Hid (atomP wh c = deeper (inside wh) c) := by show _ = _; unfold atomP; rw [if_pos hi]
    have HC := is_l hA1.cur [40]
    rw [hi] at HC
    go_wp2_with fail
    refine HC.mono ?_; rintro e W2 ⟨rfl, hB⟩
    clear HC
    clear p0 r0 r1 r2 r3 r4 rf0 rf1 rf2 rf3 rf4
    have hA2 := hA1.below hB
    have Kp := Kp.kept (grownBy_below hB (some B)) (fun e => by injection e; omega)
    have Kr := Kr.kept (grownBy_below hB (some B)) (fun e => by injection e; omega)
    have hs3 := (grownBy_below hB (some B)).size
    clear hA1 hB
    have p0 := cells1 Kp
    obtain ⟨⟨r0, r1, r2, r3, r4⟩, rf0, rf1, rf2, rf3, rf4⟩ := cells5 Kr
    have HC := brack_any (x := rdr B) (wh := wh) (enters_of Try.func29 (by kernel_rfl) rfl) hA2.cur (fun he hi W hc => HWH.out _ W (by rw [nest_in he hi]; have := HK.out; omega) hc)
    go_wp2_with fail
    refine HC.mono ?_; rintro e W4 ⟨d, rfl, hAc, hm⟩
    clear HC
    clear p0 r0 r1 r2 r3 r4 rf0 rf1 rf2 rf3 rf4
    have hA4 := hA2.trans hAc
    have Kp := Kp.kept hAc.grown (fun e => by injection e; omega)
    have Kr := Kr.kept hAc.grown (fun e => by injection e; omega)
    have hs5 := hAc.grown.size
    clear hA2 hAc
    obtain ⟨dk, dp, dn, dt, dq, dl, dc⟩ := d
    obtain ⟨W7, hW7, hb7, hA7, hn7⟩ := read_end hA4 (b := w.heap.size + 1) (by omega) (z := zN) Kr ⟨dk, dp, dn, dt, dq, dl, dc⟩
    dsimp only [zN] at hW7 hb7
    have hm7 := tree_pass (m := w.heap.size) hm hn7 (by omega) (by omega)
    clear hn7
    unfold NC.val
    have p0 := cells1 Kp
    obtain ⟨⟨r0, r1, r2, r3, r4⟩, rf0, rf1, rf2, rf3, rf4⟩ := cells5 Kr
    go_wp2_with fail
    rw [← hW7]
    obtain ⟨z0, z1, z2, z3, z4⟩ := hb7
    dsimp only at z0 z1 z2 z3 z4
    exact bodyPost_ret (v := .tuple #[NC.val ⟨dk, dp, dn, dt, dq, dl, dc⟩, .bool (deeper (inside wh) c).2.isSome]) (by simp [results, Try.results73, go_sem, z0, z1, z2, z3, z4, NC.val, zN]) rfl ⟨_, by rw [HQ.out], by rw [HQ.out]; exact hA7, by rw [HQ.out]; exact hm7⟩
  | false =>
    have HA : Hid (atomP wh c = if begins c = true then (c.adv, some (leaf c.peek)) else (c.fail 5, none)) := by show _ = _; unfold atomP; rw [if_neg (by rw [hi]; decide)]
    have HC := is_l hA1.cur [40]
    rw [hi] at HC
    go_wp2_with fail
    refine HC.mono ?_; rintro e W6 ⟨rfl, hB⟩
    clear HC
    clear p0 r0 r1 r2 r3 r4 rf0 rf1 rf2 rf3 rf4
    have hA6 := hA1.below hB
    have Kp := Kp.kept (grownBy_below hB (some B)) (fun e => by injection e; omega)
    have Kr := Kr.kept (grownBy_below hB (some B)) (fun e => by injection e; omega)
    have hs7 := (grownBy_below hB (some B)).size
    clear hA1 hB
    have p0 := cells1 Kp
    obtain ⟨⟨r0, r1, r2, r3, r4⟩, rf0, rf1, rf2, rf3, rf4⟩ := cells5 Kr
    obtain ⟨⟨tk, tp, tn, tt⟩, hT⟩ : ∃ t, t = c.peek := ⟨_, rfl⟩
    have HT := Lib.hid hT
    clear hT
    have HC := peek_l hA6.cur
    rw [← HT.out] at HC
    go_wp2_with fail
    refine HC.mono ?_; rintro e W8 ⟨rfl, hB⟩
    clear HC
    clear p0 r0 r1 r2 r3 r4 rf0 rf1 rf2 rf3 rf4
    have hA8 := hA6.below hB
    have Kp := Kp.kept (grownBy_below hB (some B)) (fun e => by injection e; omega)
    have Kr := Kr.kept (grownBy_below hB (some B)) (fun e => by injection e; omega)
    have hs9 := (grownBy_below hB (some B)).size
    clear hA6 hB
    go_upto_region 4 with fail
    obtain ⟨W10, hW10⟩ : ∃ x, x = W8.alloc (.cells #[.int .i64 tk, .int .i64 tp, .int .i64 tn, .string ⟨tt.toArray⟩] 47) := ⟨_, rfl⟩
    rw [← hW10]
    have hB : Below W8.heap.size W8 W10 := by rw [hW10]; exact (Below.refl _ _).alloc (Nat.le_refl _) _
    have Kt : Blk W10 W8.heap.size #[.int .i64 tk, .int .i64 tp, .int .i64 tn, .string ⟨tt.toArray⟩] 47 := by rw [hW10]; exact Blk.new W8 _ _
    have hz10 : W8.heap.size + 1 ≤ W10.heap.size := by rw [hW10]; simp
    clear hW10
    have hA10 := hA8.below hB
    have Kp := Kp.kept (grownBy_below hB (some B)) (fun e => by injection e; omega)
    have Kr := Kr.kept (grownBy_below hB (some B)) (fun e => by injection e; omega)
    have hs11 := (grownBy_below hB (some B)).size
    clear hA8 hB
    have p0 := cells1 Kp
    obtain ⟨⟨r0, r1, r2, r3, r4⟩, rf0, rf1, rf2, rf3, rf4⟩ := cells5 Kr
    obtain ⟨t0, t1, t2, t3⟩ := cells4 Kt
    go_upto_region 6 with fail
    obtain ⟨W12, hW12⟩ : ∃ x, x = W10.alloc (.cells #[.int .i64 0, .int .i64 tp, .int .i64 0, .string ⟨#[]⟩, .slice none 0 0] 25) := ⟨_, rfl⟩
    rw [← hW12]
    have hB : Below W10.heap.size W10 W12 := by rw [hW12]; exact (Below.refl _ _).alloc (Nat.le_refl _) _
    have Km : Blk W12 W10.heap.size #[.int .i64 0, .int .i64 tp, .int .i64 0, .string ⟨#[]⟩, .slice none 0 0] 25 := by rw [hW12]; exact Blk.new W10 _ _
    have hz12 : W10.heap.size + 1 ≤ W12.heap.size := by rw [hW12]; simp
    clear hW12
    clear p0 r0 r1 r2 r3 r4 rf0 rf1 rf2 rf3 rf4 t0 t1 t2 t3
    have hA12 := hA10.below hB
    have Kp := Kp.kept (grownBy_below hB (some B)) (fun e => by injection e; omega)
    have Kr := Kr.kept (grownBy_below hB (some B)) (fun e => by injection e; omega)
    have Kt := Kt.kept (grownBy_below hB (some B)) (fun e => by injection e; omega)
    have hs13 := (grownBy_below hB (some B)).size
    clear hA10 hB
    by_cases h1 : tk = 1
    case pos =>
      subst h1
      have HQ : Hid (atomP wh c = (c.adv, some (.mk 11 tp 0 tt []))) := by show _ = _; rw [HA.out, if_pos (by unfold begins; rw [← HT.out]; simp)]; unfold leaf; rw [← HT.out]; rfl
      have p0 := cells1 Kp
      obtain ⟨⟨r0, r1, r2, r3, r4⟩, rf0, rf1, rf2, rf3, rf4⟩ := cells5 Kr
      obtain ⟨t0, t1, t2, t3⟩ := cells4 Kt
      obtain ⟨⟨m0, m1, m2, m3, m4⟩, mf0, mf1, mf2, mf3, mf4⟩ := cells5 Km
      go_upto_region 7 with fail
      clear p0 r0 r1 r2 r3 r4 rf0 rf1 rf2 rf3 rf4 t0 t1 t2 t3 m0 m1 m2 m3 m4 mf0 mf1 mf2 mf3 mf4
      have p0 := cells1 Kp
      obtain ⟨⟨r0, r1, r2, r3, r4⟩, rf0, rf1, rf2, rf3, rf4⟩ := cells5 Kr
      obtain ⟨t0, t1, t2, t3⟩ := cells4 Kt
      obtain ⟨⟨m0, m1, m2, m3, m4⟩, mf0, mf1, mf2, mf3, mf4⟩ := cells5 Km
      obtain ⟨W14, hV⟩ : ∃ x, x = ((W12.setCell ⟨W10.heap.size, 0, none⟩ (.int .i64 11)).setCell ⟨W10.heap.size, 3, none⟩ (.string ⟨tt.toArray⟩)) := ⟨_, rfl⟩
      have KN := ((Km.set 0 (.int .i64 11)).set 3 (.string ⟨tt.toArray⟩))
      rw [← hV] at KN
      have hP : Put W10.heap.size W12 W14 := by rw [hV]; exact (Put.one _ _ _ _).trans (Put.one _ _ _ _)
      go_region
      rw [← hV]
      clear hV p0 r0 r1 r2 r3 r4 rf0 rf1 rf2 rf3 rf4 t0 t1 t2 t3 m0 m1 m2 m3 m4 mf0 mf1 mf2 mf3 mf4
      replace Kp := hP.blk Kp (by omega)
      replace Kr := hP.blk Kr (by omega)
      replace Kt := hP.blk Kt (by omega)
      have Km := KN
      clear KN
      have hA15 := at7_putb hA12 (by omega) hP
      have hs15 := hP.size
      clear hP
      obtain ⟨W16, hD⟩ : ∃ x, x = W14.drew := ⟨_, rfl⟩
      rw [← hD]
      have hB : Below W14.heap.size W14 W16 := by rw [hD]; exact (Below.refl _ _).drew
      clear hD
      have hA16 := hA15.below hB
      have Kp := Kp.kept (grownBy_below hB (some B)) (fun e => by injection e; omega)
      have Kr := Kr.kept (grownBy_below hB (some B)) (fun e => by injection e; omega)
      have Kt := Kt.kept (grownBy_below hB (some B)) (fun e => by injection e; omega)
      have Km := Km.kept (grownBy_below hB (some B)) (fun e => by injection e; omega)
      have hs17 := (grownBy_below hB (some B)).size
      clear hB
      have p0 := cells1 Kp
      obtain ⟨⟨r0, r1, r2, r3, r4⟩, rf0, rf1, rf2, rf3, rf4⟩ := cells5 Kr
      obtain ⟨t0, t1, t2, t3⟩ := cells4 Kt
      obtain ⟨⟨m0, m1, m2, m3, m4⟩, mf0, mf1, mf2, mf3, mf4⟩ := cells5 Km
      have HC := next_l hA16.cur
      go_wp2_with fail
      refine HC.mono ?_; rintro e W18 ⟨rfl, hc, hg⟩
      clear HC
      clear p0 r0 r1 r2 r3 r4 rf0 rf1 rf2 rf3 rf4 t0 t1 t2 t3 m0 m1 m2 m3 m4 mf0 mf1 mf2 mf3 mf4
      have hA18 := hA16.to hc hg
      have Kp := Kp.kept hg (fun e => by injection e; omega)
      have Kr := Kr.kept hg (fun e => by injection e; omega)
      have Kt := Kt.kept hg (fun e => by injection e; omega)
      have Km := Km.kept hg (fun e => by injection e; omega)
      have hs19 := hg.size
      clear hA16 hc hg
      obtain ⟨W7, hW7, hb7, hA7, hn7⟩ := read_end hA18 (b := w.heap.size + 1) (by omega) (z := zN) Kr ⟨11, tp, 0, tt, none, 0, 0⟩
      dsimp only [zN] at hW7 hb7
      have hd7 := (hn7 _ _ _ (leaf_in (fun b => w.heap.size + 1 + 1 ≤ b) _ 11 tp 0 tt) (by omega)).mono (S' := fun b => w.heap.size ≤ b) fun k hk _ => by omega
      have p0 := cells1 Kp
      obtain ⟨⟨r0, r1, r2, r3, r4⟩, rf0, rf1, rf2, rf3, rf4⟩ := cells5 Kr
      obtain ⟨t0, t1, t2, t3⟩ := cells4 Kt
      obtain ⟨⟨m0, m1, m2, m3, m4⟩, mf0, mf1, mf2, mf3, mf4⟩ := cells5 Km
      go_wp2_with fail
      rw [← hW7]
      obtain ⟨z0, z1, z2, z3, z4⟩ := hb7
      dsimp only at z0 z1 z2 z3 z4
      refine bodyPost_ret (v := .tuple #[NC.val ⟨11, tp, 0, tt, none, 0, 0⟩, .bool true]) (by simp [results, Try.results73, go_sem, z0, z1, z2, z3, z4, NC.val, zN]) rfl ⟨⟨11, tp, 0, tt, none, 0, 0⟩, by rw [HQ.out]; rfl, by rw [HQ.out]; exact hA7, by rw [HQ.out]; exact hd7⟩
    case neg =>
      by_cases h2 : tk = 2
      case pos =>
        subst h2
        have HQ : Hid (atomP wh c = (c.adv, some (.mk 14 tp 0 tt []))) := by show _ = _; rw [HA.out, if_pos (by unfold begins; rw [← HT.out]; simp)]; unfold leaf; rw [← HT.out]; rfl
        have p0 := cells1 Kp
        obtain ⟨⟨r0, r1, r2, r3, r4⟩, rf0, rf1, rf2, rf3, rf4⟩ := cells5 Kr
        obtain ⟨t0, t1, t2, t3⟩ := cells4 Kt
        obtain ⟨⟨m0, m1, m2, m3, m4⟩, mf0, mf1, mf2, mf3, mf4⟩ := cells5 Km
        go_upto_region 9 with fail
        clear p0 r0 r1 r2 r3 r4 rf0 rf1 rf2 rf3 rf4 t0 t1 t2 t3 m0 m1 m2 m3 m4 mf0 mf1 mf2 mf3 mf4
        have p0 := cells1 Kp
        obtain ⟨⟨r0, r1, r2, r3, r4⟩, rf0, rf1, rf2, rf3, rf4⟩ := cells5 Kr
        obtain ⟨t0, t1, t2, t3⟩ := cells4 Kt
        obtain ⟨⟨m0, m1, m2, m3, m4⟩, mf0, mf1, mf2, mf3, mf4⟩ := cells5 Km
        obtain ⟨W20, hV⟩ : ∃ x, x = ((W12.setCell ⟨W10.heap.size, 0, none⟩ (.int .i64 14)).setCell ⟨W10.heap.size, 3, none⟩ (.string ⟨tt.toArray⟩)) := ⟨_, rfl⟩
        have KN := ((Km.set 0 (.int .i64 14)).set 3 (.string ⟨tt.toArray⟩))
        rw [← hV] at KN
        have hP : Put W10.heap.size W12 W20 := by rw [hV]; exact (Put.one _ _ _ _).trans (Put.one _ _ _ _)
        go_region
        rw [← hV]
        clear hV p0 r0 r1 r2 r3 r4 rf0 rf1 rf2 rf3 rf4 t0 t1 t2 t3 m0 m1 m2 m3 m4 mf0 mf1 mf2 mf3 mf4
        replace Kp := hP.blk Kp (by omega)
        replace Kr := hP.blk Kr (by omega)
        replace Kt := hP.blk Kt (by omega)
        have Km := KN
        clear KN
        have hA21 := at7_putb hA12 (by omega) hP
        have hs21 := hP.size
        clear hP
        obtain ⟨W22, hD⟩ : ∃ x, x = W20.drew := ⟨_, rfl⟩
        rw [← hD]
        have hB : Below W20.heap.size W20 W22 := by rw [hD]; exact (Below.refl _ _).drew
        clear hD
        have hA22 := hA21.below hB
        have Kp := Kp.kept (grownBy_below hB (some B)) (fun e => by injection e; omega)
        have Kr := Kr.kept (grownBy_below hB (some B)) (fun e => by injection e; omega)
        have Kt := Kt.kept (grownBy_below hB (some B)) (fun e => by injection e; omega)
        have Km := Km.kept (grownBy_below hB (some B)) (fun e => by injection e; omega)
        have hs23 := (grownBy_below hB (some B)).size
        clear hB
        have p0 := cells1 Kp
        obtain ⟨⟨r0, r1, r2, r3, r4⟩, rf0, rf1, rf2, rf3, rf4⟩ := cells5 Kr
        obtain ⟨t0, t1, t2, t3⟩ := cells4 Kt
        obtain ⟨⟨m0, m1, m2, m3, m4⟩, mf0, mf1, mf2, mf3, mf4⟩ := cells5 Km
        have HC := next_l hA22.cur
        go_wp2_with fail
        refine HC.mono ?_; rintro e W24 ⟨rfl, hc, hg⟩
        clear HC
        clear p0 r0 r1 r2 r3 r4 rf0 rf1 rf2 rf3 rf4 t0 t1 t2 t3 m0 m1 m2 m3 m4 mf0 mf1 mf2 mf3 mf4
        have hA24 := hA22.to hc hg
        have Kp := Kp.kept hg (fun e => by injection e; omega)
        have Kr := Kr.kept hg (fun e => by injection e; omega)
        have Kt := Kt.kept hg (fun e => by injection e; omega)
        have Km := Km.kept hg (fun e => by injection e; omega)
        have hs25 := hg.size
        clear hA22 hc hg
        obtain ⟨W7, hW7, hb7, hA7, hn7⟩ := read_end hA24 (b := w.heap.size + 1) (by omega) (z := zN) Kr ⟨14, tp, 0, tt, none, 0, 0⟩
        dsimp only [zN] at hW7 hb7
        have hd7 := (hn7 _ _ _ (leaf_in (fun b => w.heap.size + 1 + 1 ≤ b) _ 14 tp 0 tt) (by omega)).mono (S' := fun b => w.heap.size ≤ b) fun k hk _ => by omega
        have p0 := cells1 Kp
        obtain ⟨⟨r0, r1, r2, r3, r4⟩, rf0, rf1, rf2, rf3, rf4⟩ := cells5 Kr
        obtain ⟨t0, t1, t2, t3⟩ := cells4 Kt
        obtain ⟨⟨m0, m1, m2, m3, m4⟩, mf0, mf1, mf2, mf3, mf4⟩ := cells5 Km
        go_wp2_with fail
        rw [← hW7]
        obtain ⟨z0, z1, z2, z3, z4⟩ := hb7
        dsimp only at z0 z1 z2 z3 z4
        refine bodyPost_ret (v := .tuple #[NC.val ⟨14, tp, 0, tt, none, 0, 0⟩, .bool true]) (by simp [results, Try.results73, go_sem, z0, z1, z2, z3, z4, NC.val, zN]) rfl ⟨⟨14, tp, 0, tt, none, 0, 0⟩, by rw [HQ.out]; rfl, by rw [HQ.out]; exact hA7, by rw [HQ.out]; exact hd7⟩
      case neg =>
        by_cases h3 : tk = 3
        case pos =>
          subst h3
          have HQ : Hid (atomP wh c = (c.adv, some (.mk 13 tp tn [] []))) := by show _ = _; rw [HA.out, if_pos (by unfold begins; rw [← HT.out]; simp)]; unfold leaf; rw [← HT.out]; rfl
          have p0 := cells1 Kp
          obtain ⟨⟨r0, r1, r2, r3, r4⟩, rf0, rf1, rf2, rf3, rf4⟩ := cells5 Kr
          obtain ⟨t0, t1, t2, t3⟩ := cells4 Kt
          obtain ⟨⟨m0, m1, m2, m3, m4⟩, mf0, mf1, mf2, mf3, mf4⟩ := cells5 Km
          go_upto_region 11 with fail
          clear p0 r0 r1 r2 r3 r4 rf0 rf1 rf2 rf3 rf4 t0 t1 t2 t3 m0 m1 m2 m3 m4 mf0 mf1 mf2 mf3 mf4
          have p0 := cells1 Kp
          obtain ⟨⟨r0, r1, r2, r3, r4⟩, rf0, rf1, rf2, rf3, rf4⟩ := cells5 Kr
          obtain ⟨t0, t1, t2, t3⟩ := cells4 Kt
          obtain ⟨⟨m0, m1, m2, m3, m4⟩, mf0, mf1, mf2, mf3, mf4⟩ := cells5 Km
          obtain ⟨W26, hV⟩ : ∃ x, x = ((W12.setCell ⟨W10.heap.size, 0, none⟩ (.int .i64 13)).setCell ⟨W10.heap.size, 2, none⟩ (.int .i64 tn)) := ⟨_, rfl⟩
          have KN := ((Km.set 0 (.int .i64 13)).set 2 (.int .i64 tn))
          rw [← hV] at KN
          have hP : Put W10.heap.size W12 W26 := by rw [hV]; exact (Put.one _ _ _ _).trans (Put.one _ _ _ _)
          go_region
          rw [← hV]
          clear hV p0 r0 r1 r2 r3 r4 rf0 rf1 rf2 rf3 rf4 t0 t1 t2 t3 m0 m1 m2 m3 m4 mf0 mf1 mf2 mf3 mf4
          replace Kp := hP.blk Kp (by omega)
          replace Kr := hP.blk Kr (by omega)
          replace Kt := hP.blk Kt (by omega)
          have Km := KN
          clear KN
          have hA27 := at7_putb hA12 (by omega) hP
          have hs27 := hP.size
          clear hP
          obtain ⟨W28, hD⟩ : ∃ x, x = W26.drew := ⟨_, rfl⟩
          rw [← hD]
          have hB : Below W26.heap.size W26 W28 := by rw [hD]; exact (Below.refl _ _).drew
          clear hD
          have hA28 := hA27.below hB
          have Kp := Kp.kept (grownBy_below hB (some B)) (fun e => by injection e; omega)
          have Kr := Kr.kept (grownBy_below hB (some B)) (fun e => by injection e; omega)
          have Kt := Kt.kept (grownBy_below hB (some B)) (fun e => by injection e; omega)
          have Km := Km.kept (grownBy_below hB (some B)) (fun e => by injection e; omega)
          have hs29 := (grownBy_below hB (some B)).size
          clear hB
          have p0 := cells1 Kp
          obtain ⟨⟨r0, r1, r2, r3, r4⟩, rf0, rf1, rf2, rf3, rf4⟩ := cells5 Kr
          obtain ⟨t0, t1, t2, t3⟩ := cells4 Kt
          obtain ⟨⟨m0, m1, m2, m3, m4⟩, mf0, mf1, mf2, mf3, mf4⟩ := cells5 Km
          have HC := next_l hA28.cur
          go_wp2_with fail
          refine HC.mono ?_; rintro e W30 ⟨rfl, hc, hg⟩
          clear HC
          clear p0 r0 r1 r2 r3 r4 rf0 rf1 rf2 rf3 rf4 t0 t1 t2 t3 m0 m1 m2 m3 m4 mf0 mf1 mf2 mf3 mf4
          have hA30 := hA28.to hc hg
          have Kp := Kp.kept hg (fun e => by injection e; omega)
          have Kr := Kr.kept hg (fun e => by injection e; omega)
          have Kt := Kt.kept hg (fun e => by injection e; omega)
          have Km := Km.kept hg (fun e => by injection e; omega)
          have hs31 := hg.size
          clear hA28 hc hg
          obtain ⟨W7, hW7, hb7, hA7, hn7⟩ := read_end hA30 (b := w.heap.size + 1) (by omega) (z := zN) Kr ⟨13, tp, tn, [], none, 0, 0⟩
          dsimp only [zN] at hW7 hb7
          have hd7 := (hn7 _ _ _ (leaf_in (fun b => w.heap.size + 1 + 1 ≤ b) _ 13 tp tn []) (by omega)).mono (S' := fun b => w.heap.size ≤ b) fun k hk _ => by omega
          have p0 := cells1 Kp
          obtain ⟨⟨r0, r1, r2, r3, r4⟩, rf0, rf1, rf2, rf3, rf4⟩ := cells5 Kr
          obtain ⟨t0, t1, t2, t3⟩ := cells4 Kt
          obtain ⟨⟨m0, m1, m2, m3, m4⟩, mf0, mf1, mf2, mf3, mf4⟩ := cells5 Km
          go_wp2_with fail
          rw [← hW7]
          obtain ⟨z0, z1, z2, z3, z4⟩ := hb7
          dsimp only at z0 z1 z2 z3 z4
          refine bodyPost_ret (v := .tuple #[NC.val ⟨13, tp, tn, [], none, 0, 0⟩, .bool true]) (by simp [results, Try.results73, go_sem, z0, z1, z2, z3, z4, NC.val, zN]) rfl ⟨⟨13, tp, tn, [], none, 0, 0⟩, by rw [HQ.out]; rfl, by rw [HQ.out]; exact hA7, by rw [HQ.out]; exact hd7⟩
        case neg =>
          have g1 : (tk == 1) = false := by rw [beq_eq_false_iff_ne]; exact h1
          have g2 : (tk == 2) = false := by rw [beq_eq_false_iff_ne]; exact h2
          have g3 : (tk == 3) = false := by rw [beq_eq_false_iff_ne]; exact h3
          cases h9 : c.is [95] with
          | true =>
            have HQ : Hid (atomP wh c = (c.adv, some (.mk 12 tp 0 [] []))) := by show _ = _; rw [HA.out, if_pos (by unfold begins; simp [h9])]; unfold leaf; rw [← HT.out]; rw [if_neg h1, if_neg h2, if_neg h3]
            have p0 := cells1 Kp
            obtain ⟨⟨r0, r1, r2, r3, r4⟩, rf0, rf1, rf2, rf3, rf4⟩ := cells5 Kr
            obtain ⟨t0, t1, t2, t3⟩ := cells4 Kt
            obtain ⟨⟨m0, m1, m2, m3, m4⟩, mf0, mf1, mf2, mf3, mf4⟩ := cells5 Km
            have HC := is_l hA12.cur [95]
            rw [h9] at HC
            go_wp2_with fail
            refine HC.mono ?_; rintro e W32 ⟨rfl, hB⟩
            clear HC
            clear p0 r0 r1 r2 r3 r4 rf0 rf1 rf2 rf3 rf4 t0 t1 t2 t3 m0 m1 m2 m3 m4 mf0 mf1 mf2 mf3 mf4
            have hA32 := hA12.below hB
            have Kp := Kp.kept (grownBy_below hB (some B)) (fun e => by injection e; omega)
            have Kr := Kr.kept (grownBy_below hB (some B)) (fun e => by injection e; omega)
            have Kt := Kt.kept (grownBy_below hB (some B)) (fun e => by injection e; omega)
            have Km := Km.kept (grownBy_below hB (some B)) (fun e => by injection e; omega)
            have hs33 := (grownBy_below hB (some B)).size
            clear hA12 hB
            have p0 := cells1 Kp
            obtain ⟨⟨r0, r1, r2, r3, r4⟩, rf0, rf1, rf2, rf3, rf4⟩ := cells5 Kr
            obtain ⟨t0, t1, t2, t3⟩ := cells4 Kt
            obtain ⟨⟨m0, m1, m2, m3, m4⟩, mf0, mf1, mf2, mf3, mf4⟩ := cells5 Km
            obtain ⟨W34, hV⟩ : ∃ x, x = (W32.setCell ⟨W10.heap.size, 0, none⟩ (.int .i64 12)) := ⟨_, rfl⟩
            have KN := (Km.set 0 (.int .i64 12))
            rw [← hV] at KN
            have hP : Put W10.heap.size W32 W34 := by rw [hV]; exact Put.one _ _ _ _
            go_upto_region 14 with fail
            rw [← hV]
            clear hV p0 r0 r1 r2 r3 r4 rf0 rf1 rf2 rf3 rf4 t0 t1 t2 t3 m0 m1 m2 m3 m4 mf0 mf1 mf2 mf3 mf4
            replace Kp := hP.blk Kp (by omega)
            replace Kr := hP.blk Kr (by omega)
            replace Kt := hP.blk Kt (by omega)
            have Km := KN
            clear KN
            have hA35 := at7_putb hA32 (by omega) hP
            have hs35 := hP.size
            clear hP
            have p0 := cells1 Kp
            obtain ⟨⟨r0, r1, r2, r3, r4⟩, rf0, rf1, rf2, rf3, rf4⟩ := cells5 Kr
            obtain ⟨t0, t1, t2, t3⟩ := cells4 Kt
            obtain ⟨⟨m0, m1, m2, m3, m4⟩, mf0, mf1, mf2, mf3, mf4⟩ := cells5 Km
            have HC := next_l hA35.cur
            go_wp2_with fail
            refine HC.mono ?_; rintro e W36 ⟨rfl, hc, hg⟩
            clear HC
            clear p0 r0 r1 r2 r3 r4 rf0 rf1 rf2 rf3 rf4 t0 t1 t2 t3 m0 m1 m2 m3 m4 mf0 mf1 mf2 mf3 mf4
            have hA36 := hA35.to hc hg
            have Kp := Kp.kept hg (fun e => by injection e; omega)
            have Kr := Kr.kept hg (fun e => by injection e; omega)
            have Kt := Kt.kept hg (fun e => by injection e; omega)
            have Km := Km.kept hg (fun e => by injection e; omega)
            have hs37 := hg.size
            clear hA35 hc hg
            obtain ⟨W7, hW7, hb7, hA7, hn7⟩ := read_end hA36 (b := w.heap.size + 1) (by omega) (z := zN) Kr ⟨12, tp, 0, [], none, 0, 0⟩
            dsimp only [zN] at hW7 hb7
            have hd7 := (hn7 _ _ _ (leaf_in (fun b => w.heap.size + 1 + 1 ≤ b) _ 12 tp 0 []) (by omega)).mono (S' := fun b => w.heap.size ≤ b) fun k hk _ => by omega
            have p0 := cells1 Kp
            obtain ⟨⟨r0, r1, r2, r3, r4⟩, rf0, rf1, rf2, rf3, rf4⟩ := cells5 Kr
            obtain ⟨t0, t1, t2, t3⟩ := cells4 Kt
            obtain ⟨⟨m0, m1, m2, m3, m4⟩, mf0, mf1, mf2, mf3, mf4⟩ := cells5 Km
            go_wp2_with fail
            rw [← hW7]
            obtain ⟨z0, z1, z2, z3, z4⟩ := hb7
            dsimp only at z0 z1 z2 z3 z4
            refine bodyPost_ret (v := .tuple #[NC.val ⟨12, tp, 0, [], none, 0, 0⟩, .bool true]) (by simp [results, Try.results73, go_sem, z0, z1, z2, z3, z4, NC.val, zN]) rfl ⟨⟨12, tp, 0, [], none, 0, 0⟩, by rw [HQ.out]; rfl, by rw [HQ.out]; exact hA7, by rw [HQ.out]; exact hd7⟩
          | false =>
            have HQ : Hid (atomP wh c = (c.fail 5, none)) := by show _ = _; rw [HA.out, if_neg (by unfold begins; rw [← HT.out]; simp [h1, h2, h3, h9, hi])]
            have p0 := cells1 Kp
            obtain ⟨⟨r0, r1, r2, r3, r4⟩, rf0, rf1, rf2, rf3, rf4⟩ := cells5 Kr
            obtain ⟨t0, t1, t2, t3⟩ := cells4 Kt
            obtain ⟨⟨m0, m1, m2, m3, m4⟩, mf0, mf1, mf2, mf3, mf4⟩ := cells5 Km
            have HC := is_l hA12.cur [95]
            rw [h9] at HC
            go_wp2_with fail
            refine HC.mono ?_; rintro e W38 ⟨rfl, hB⟩
            clear HC
            clear p0 r0 r1 r2 r3 r4 rf0 rf1 rf2 rf3 rf4 t0 t1 t2 t3 m0 m1 m2 m3 m4 mf0 mf1 mf2 mf3 mf4
            have hA38 := hA12.below hB
            have Kp := Kp.kept (grownBy_below hB (some B)) (fun e => by injection e; omega)
            have Kr := Kr.kept (grownBy_below hB (some B)) (fun e => by injection e; omega)
            have Kt := Kt.kept (grownBy_below hB (some B)) (fun e => by injection e; omega)
            have Km := Km.kept (grownBy_below hB (some B)) (fun e => by injection e; omega)
            have hs39 := (grownBy_below hB (some B)).size
            clear hA12 hB
            have p0 := cells1 Kp
            obtain ⟨⟨r0, r1, r2, r3, r4⟩, rf0, rf1, rf2, rf3, rf4⟩ := cells5 Kr
            obtain ⟨t0, t1, t2, t3⟩ := cells4 Kt
            obtain ⟨⟨m0, m1, m2, m3, m4⟩, mf0, mf1, mf2, mf3, mf4⟩ := cells5 Km
            have HC := fail_any hA38.cur 5
            go_wp2_with fail
            refine HC.mono ?_; rintro e W40 ⟨rfl, hc, hg⟩
            clear HC
            clear p0 r0 r1 r2 r3 r4 rf0 rf1 rf2 rf3 rf4 t0 t1 t2 t3 m0 m1 m2 m3 m4 mf0 mf1 mf2 mf3 mf4
            have hA40 := hA38.to hc hg
            have Kp := Kp.kept hg (fun e => by injection e; omega)
            have Kr := Kr.kept hg (fun e => by injection e; omega)
            have Kt := Kt.kept hg (fun e => by injection e; omega)
            have Km := Km.kept hg (fun e => by injection e; omega)
            have hs41 := hg.size
            clear hA38 hc hg
            obtain ⟨W7, hW7, hb7, hA7, hn7⟩ := read_end hA40 (b := w.heap.size + 1) (by omega) (z := zN) Kr zN
            dsimp only [zN] at hW7 hb7
            clear hn7
            have p0 := cells1 Kp
            obtain ⟨⟨r0, r1, r2, r3, r4⟩, rf0, rf1, rf2, rf3, rf4⟩ := cells5 Kr
            obtain ⟨t0, t1, t2, t3⟩ := cells4 Kt
            obtain ⟨⟨m0, m1, m2, m3, m4⟩, mf0, mf1, mf2, mf3, mf4⟩ := cells5 Km
            go_wp2_with fail
            rw [← hW7]
            obtain ⟨z0, z1, z2, z3, z4⟩ := hb7
            dsimp only at z0 z1 z2 z3 z4
            refine bodyPost_ret (v := .tuple #[NC.val zN, .bool false]) (by simp [results, Try.results73, go_sem, z0, z1, z2, z3, z4, NC.val, zN]) rfl ⟨zN, by rw [HQ.out]; rfl, by rw [HQ.out]; exact hA7, by rw [HQ.out]⟩
end Go.Proofs.Ytemgocegnlehoaa.N8
