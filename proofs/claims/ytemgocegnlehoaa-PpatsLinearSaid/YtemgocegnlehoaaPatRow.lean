/- Patterns: rows. -/
import Derived.Test.YtemgocegnlehoaaPatAtom
namespace Go.Proofs.Ytemgocegnlehoaa.N8
open Go.RowKit N5 N6 N7
attribute [local go_sem] fld0 fld1

set_option maxRecDepth 100000 in
set_option maxHeartbeats 4000000 in
theorem begins_any {w : World} {B : Nat} {v : Value} {c : Cu} (h : CurAt w B v c) : Calls Try.prog 75 #[rdr B] w (fun e w' => e = .returned (.bool (begins c)) ∧ At7 B v (c) w w') := by
  unfold rdr
  obtain ⟨W1, hW1⟩ : ∃ W1, W1 = (w.alloc (.cells #[.pointer (some ⟨B, 0, none⟩)] 69)) := ⟨_, rfl⟩
  have hsz : W1.heap.size = w.heap.size + 1 := by rw [hW1]; simp
  have Kp : Blk W1 (w.heap.size) #[.pointer (some ⟨B, 0, none⟩)] 69 := by rw [hW1]; have h0 := Blk.new w #[.pointer (some ⟨B, 0, none⟩)] 69; (try simp only [World.size_alloc] at h0); exact h0
  have hA1 : At7 B v c w W1 := by rw [hW1]; exact (At7.of h).alloc _
  have hlt := h.lt
  have HW1 := Lib.hid hW1
  clear hW1 h
  go_enter Try.func75, Try.ntmps75
  go_upto_region 1 with fail
  rw [← HW1.out]
  clear HW1
  have p0 := cells1 Kp
  obtain ⟨⟨tk, tp, tn, tt⟩, hT⟩ : ∃ t, t = c.peek := ⟨_, rfl⟩
  have HT := Lib.hid hT
  clear hT
  have HC := peek_l hA1.cur
  rw [← HT.out] at HC
  go_wp2_with fail
  refine HC.mono ?_; rintro e W2 ⟨rfl, hB⟩
  clear HC
  clear p0
  have hA2 := hA1.below hB
  have Kp := Kp.kept (grownBy_below hB (some B)) (fun e => by injection e; omega)
  have hs3 := (grownBy_below hB (some B)).size
  clear hA1 hB
  by_cases h1 : tk = 1
  case pos =>
    subst h1
    have HQ : Hid (begins c = true) := by show _ = _; unfold begins; rw [← HT.out]; rfl
    have p0 := cells1 Kp
    go_wp2_with fail
    go_ret
    exact ⟨by rw [HQ.out]; rfl, hA2⟩
  case neg =>
    by_cases h2 : tk = 2
    case pos =>
      subst h2
      have HQ : Hid (begins c = true) := by show _ = _; unfold begins; rw [← HT.out]; rfl
      have p0 := cells1 Kp
      go_wp2_with fail
      go_ret
      exact ⟨by rw [HQ.out]; rfl, hA2⟩
    case neg =>
      by_cases h3 : tk = 3
      case pos =>
        subst h3
        have HQ : Hid (begins c = true) := by show _ = _; unfold begins; rw [← HT.out]; rfl
        have p0 := cells1 Kp
        go_wp2_with fail
        go_ret
        exact ⟨by rw [HQ.out]; rfl, hA2⟩
      case neg =>
        have g1 : (tk == 1) = false := by rw [beq_eq_false_iff_ne]; exact h1
        have g2 : (tk == 2) = false := by rw [beq_eq_false_iff_ne]; exact h2
        have g3 : (tk == 3) = false := by rw [beq_eq_false_iff_ne]; exact h3
        have HX : Hid (begins c = (c.is [95] || c.is [40])) := by show _ = _; unfold begins; rw [← HT.out]; simp [h1, h2, h3]
        cases h9 : c.is [95] with
        | true =>
          have p0 := cells1 Kp
          have HC := is_l hA2.cur [95]
          rw [h9] at HC
          go_wp2_with fail
          refine HC.mono ?_; rintro e W4 ⟨rfl, hB⟩
          clear HC
          clear p0
          have hA4 := hA2.below hB
          have Kp := Kp.kept (grownBy_below hB (some B)) (fun e => by injection e; omega)
          have hs5 := (grownBy_below hB (some B)).size
          clear hA2 hB
          have p0 := cells1 Kp
          go_wp2_with fail
          go_ret
          exact ⟨by rw [HX.out, h9]; rfl, hA4⟩
        | false =>
          have p0 := cells1 Kp
          have HC := is_l hA2.cur [95]
          rw [h9] at HC
          go_wp2_with fail
          refine HC.mono ?_; rintro e W6 ⟨rfl, hB⟩
          clear HC
          clear p0
          have hA6 := hA2.below hB
          have Kp := Kp.kept (grownBy_below hB (some B)) (fun e => by injection e; omega)
          have hs7 := (grownBy_below hB (some B)).size
          clear hA2 hB
          have p0 := cells1 Kp
          have HC := is_l hA6.cur [40]
          go_wp2_with fail
          refine HC.mono ?_; rintro e W8 ⟨rfl, hB⟩
          clear HC
          clear p0
          have hA8 := hA6.below hB
          have Kp := Kp.kept (grownBy_below hB (some B)) (fun e => by injection e; omega)
          have hs9 := (grownBy_below hB (some B)).size
          clear hA6 hB
          go_wp2_with fail
          go_ret
          exact ⟨by rw [HX.out, h9]; simp, hA8⟩
/-- what the loop of row keeps -/
structure RowSt (B : Nat) (v : Value) (w : World) (mb LB F k : Nat) (wh : Cu → Out Nd) (c : Cu) (tp : Int) (tt : List UInt8) (gk : Nat) (d : Cu) (ks : List Nd) (kp : Option Addr) (kl kc : Nat) (W : World) : Prop where
  eq : manyP begins id (atomP wh) gk d ks = manyP begins id (atomP wh) F c.adv []
  inv : 200 ≤ d.nest + (k + 1)
  few : d.ws.length - d.at' < gk
  sum : ks.length + gk ≤ F
  cur : At7 B v d w W
  low : LB ≤ W.heap.size
  pb : Blk W w.heap.size #[.pointer (some ⟨B, 0, none⟩)] 69
  rb : Blk W (w.heap.size + 1) #[.int .i64 0, .int .i64 0, .int .i64 0, .string ⟨#[]⟩, .slice none 0 0] 25
  nb : Blk W mb #[.int .i64 14, .int .i64 tp, .int .i64 0, .string ⟨tt.toArray⟩, .slice kp kl kc] 25
  own : OwnRows LB W (.slice kp kl kc) ks
set_option maxRecDepth 100000 in
set_option maxHeartbeats 4000000 in
theorem row_any {wh : Cu → Out Nd} {rf : Cu → Cu × Nd} {k : Nat} {w : World} {B : Nat} {v : Value} {c : Cu} (h : CurAt w B v c) (HP : Pair k wh rf) (hwh : ∀ (c : Cu) (W : World), 200 ≤ c.nest + k → CurAt W B v c → Calls Try.prog 29 #[rdr B] W (ReadTo B v (wh c) W)) (hk : 200 ≤ c.nest + (k + 1)) : Calls Try.prog 52 #[rdr B] w (ReadTo B v (rowP wh c) w) := by
  have HWH := Lib.hid hwh
  have HK := Lib.hid hk
  have HFEW := Lib.hid h.few
  obtain ⟨i0, hi0, hz0, hz1, hz2⟩ := info_parts infoNode
  clear hwh hk
  unfold rdr
  obtain ⟨W1, hW1⟩ : ∃ W1, W1 = ((w.alloc (.cells #[.pointer (some ⟨B, 0, none⟩)] 69)).alloc (.cells #[.int .i64 0, .int .i64 0, .int .i64 0, .string ⟨#[]⟩, .slice none 0 0] 25)) := ⟨_, rfl⟩
  have hsz : W1.heap.size = w.heap.size + 1 + 1 := by rw [hW1]; simp
  have Kp : Blk W1 (w.heap.size) #[.pointer (some ⟨B, 0, none⟩)] 69 := by rw [hW1]; have h0 := Blk.new w #[.pointer (some ⟨B, 0, none⟩)] 69; (try simp only [World.size_alloc] at h0); exact (h0.later ((Below.refl _ _).alloc (Nat.le_refl _) _))
  have Kr : Blk W1 (w.heap.size + 1) #[.int .i64 0, .int .i64 0, .int .i64 0, .string ⟨#[]⟩, .slice none 0 0] 25 := by rw [hW1]; have h0 := Blk.new (w.alloc (.cells #[.pointer (some ⟨B, 0, none⟩)] 69)) #[.int .i64 0, .int .i64 0, .int .i64 0, .string ⟨#[]⟩, .slice none 0 0] 25; (try simp only [World.size_alloc] at h0); exact h0
  have hA1 : At7 B v c w W1 := by rw [hW1]; exact (At7.of h).alloc _ |>.alloc _
  have hlt := h.lt
  have HW1 := Lib.hid hW1
  clear hW1 h
  go_enter Try.func52, Try.ntmps52
  go_upto_region 1 with fail
  rw [← HW1.out]
  clear HW1
  have p0 := cells1 Kp
  obtain ⟨⟨r0, r1, r2, r3, r4⟩, rf0, rf1, rf2, rf3, rf4⟩ := cells5 Kr
  obtain ⟨⟨tk, tp, tn, tt⟩, hT⟩ : ∃ t, t = c.peek := ⟨_, rfl⟩
  have HT := Lib.hid hT
  clear hT
  have HC := peek_l hA1.cur
  rw [← HT.out] at HC
  go_wp2_with fail
  refine HC.mono ?_; rintro e W2 ⟨rfl, hB⟩
  clear HC
  clear p0 r0 r1 r2 r3 r4 rf0 rf1 rf2 rf3 rf4
  have hA2 := hA1.below hB
  have Kp := Kp.kept (grownBy_below hB (some B)) (fun e => by injection e; omega)
  have Kr := Kr.kept (grownBy_below hB (some B)) (fun e => by injection e; omega)
  have hs3 := (grownBy_below hB (some B)).size
  clear hA1 hB
  by_cases h2 : tk = 2
  case neg =>
    have hb : (tk != 2) = true := by rw [bne_iff_ne]; exact h2
    have HQ : Hid (rowP wh c = atomP wh c) := by show _ = _; unfold rowP; rw [← HT.out, if_neg h2]
    have p0 := cells1 Kp
    obtain ⟨⟨r0, r1, r2, r3, r4⟩, rf0, rf1, rf2, rf3, rf4⟩ := cells5 Kr
    have HC := atom_any hA2.cur HWH.out HK.out
    go_wp2_with fail
    refine HC.mono ?_; rintro e W4 ⟨d, rfl, hAc, hm⟩
    clear HC
    clear p0 r0 r1 r2 r3 r4 rf0 rf1 rf2 rf3 rf4
    have hA4 := hA2.trans hAc
    have Kp := Kp.kept hAc.grown (fun e => by injection e; omega)
    have Kr := Kr.kept hAc.grown (fun e => by injection e; omega)
    have hs5 := hAc.grown.size
    clear hA2 hAc
    obtain ⟨dk, dp, dn, dt, dq, dl, dc⟩ := d
    obtain ⟨W7, hW7, hb7, hA7, hn7⟩ := read_end hA4 (b := w.heap.size + 1) (by omega) (z := zN) Kr ⟨dk, dp, dn, dt, dq, dl, dc⟩
    dsimp only [zN] at hW7 hb7
    have hm7 := tree_pass (m := w.heap.size) hm hn7 (by omega) (by omega)
    clear hn7
    unfold NC.val
    have p0 := cells1 Kp
    obtain ⟨⟨r0, r1, r2, r3, r4⟩, rf0, rf1, rf2, rf3, rf4⟩ := cells5 Kr
    go_wp2_with fail
    rw [← hW7]
    obtain ⟨z0, z1, z2, z3, z4⟩ := hb7
    dsimp only at z0 z1 z2 z3 z4
    exact bodyPost_ret (v := .tuple #[NC.val ⟨dk, dp, dn, dt, dq, dl, dc⟩, .bool (atomP wh c).2.isSome]) (by simp [results, Try.results52, go_sem, z0, z1, z2, z3, z4, NC.val, zN]) rfl ⟨_, by rw [HQ.out], by rw [HQ.out]; exact hA7, by rw [HQ.out]; exact hm7⟩
  case pos =>
    subst h2
    have h0 : c.err = 0 := peek_err (by rw [← HT.out]; exact (by decide : (2 : Int) ≠ 0))
    have fa := fine_adv c
    have ea : c.adv.err = 0 := by rw [adv_err]; exact h0
    have H0 := Lib.hid (⟨fa.nest ea, fa.ws⟩ : c.adv.nest = c.nest ∧ c.adv.ws = c.ws)
    clear h0 fa ea
    have HR : Hid (rowP wh c = match manyP begins id (atomP wh) (c.ws.length + 1) c.adv [] with | (d, none) => (d, none) | (d, some ks) => (d, some (.mk 14 tp 0 tt ks))) := by show _ = _; unfold rowP; rw [← HT.out, if_pos rfl]; rfl
    have p0 := cells1 Kp
    obtain ⟨⟨r0, r1, r2, r3, r4⟩, rf0, rf1, rf2, rf3, rf4⟩ := cells5 Kr
    have HC := next_l hA2.cur
    rw [← HT.out] at HC
    go_wp2_with fail
    refine HC.mono ?_; rintro e W6 ⟨rfl, hc, hg⟩
    clear HC
    clear p0 r0 r1 r2 r3 r4 rf0 rf1 rf2 rf3 rf4
    have hA6 := hA2.to hc hg
    have Kp := Kp.kept hg (fun e => by injection e; omega)
    have Kr := Kr.kept hg (fun e => by injection e; omega)
    have hs7 := hg.size
    clear hA2 hc hg
    go_upto_region 4 with fail
    obtain ⟨W8, hW8⟩ : ∃ x, x = W6.alloc (.cells #[.int .i64 2, .int .i64 tp, .int .i64 tn, .string ⟨tt.toArray⟩] 47) := ⟨_, rfl⟩
    rw [← hW8]
    have hB : Below W6.heap.size W6 W8 := by rw [hW8]; exact (Below.refl _ _).alloc (Nat.le_refl _) _
    have Kt : Blk W8 W6.heap.size #[.int .i64 2, .int .i64 tp, .int .i64 tn, .string ⟨tt.toArray⟩] 47 := by rw [hW8]; exact Blk.new W6 _ _
    have hz8 : W6.heap.size + 1 ≤ W8.heap.size := by rw [hW8]; simp
    clear hW8
    have hA8 := hA6.below hB
    have Kp := Kp.kept (grownBy_below hB (some B)) (fun e => by injection e; omega)
    have Kr := Kr.kept (grownBy_below hB (some B)) (fun e => by injection e; omega)
    have hs9 := (grownBy_below hB (some B)).size
    clear hA6 hB
    have p0 := cells1 Kp
    obtain ⟨⟨r0, r1, r2, r3, r4⟩, rf0, rf1, rf2, rf3, rf4⟩ := cells5 Kr
    obtain ⟨t0, t1, t2, t3⟩ := cells4 Kt
    go_wp2_with fail
    clear p0 r0 r1 r2 r3 r4 rf0 rf1 rf2 rf3 rf4 t0 t1 t2 t3
    obtain ⟨W10, hV⟩ : ∃ x, x = W8.alloc (.cells #[.int .i64 14, .int .i64 tp, .int .i64 0, .string ⟨tt.toArray⟩, .slice none 0 0] 25) := ⟨_, rfl⟩
    rw [← hV]
    have hB : Below W8.heap.size W8 W10 := by rw [hV]; exact (Below.refl _ _).alloc (Nat.le_refl _) _
    have Km : Blk W10 W8.heap.size #[.int .i64 14, .int .i64 tp, .int .i64 0, .string ⟨tt.toArray⟩, .slice none 0 0] 25 := by rw [hV]; exact Blk.new W8 _ _
    have hz10 : W8.heap.size + 1 ≤ W10.heap.size := by rw [hV]; simp
    clear hV
    have hA10 := hA8.below hB
    have Kp := Kp.kept (grownBy_below hB (some B)) (fun e => by injection e; omega)
    have Kr := Kr.kept (grownBy_below hB (some B)) (fun e => by injection e; omega)
    have Kt := Kt.kept (grownBy_below hB (some B)) (fun e => by injection e; omega)
    have hs11 := (grownBy_below hB (some B)).size
    clear hA8 hB
    have hfw := HFEW.out
    have hlo : w.heap.size + 1 + 1 ≤ W8.heap.size := by omega
    go_loopg [26] (c.ws.length + 1) (fun gk q wr => ∃ (d : Cu) (ks : List Nd) (kp : Option Addr) (kl kc : Nat), RowSt B v w (W8.heap.size) (W10.heap.size) (c.ws.length + 1) k wh c tp tt gk d ks kp kl kc wr)
    case atStart => exact ⟨c.adv, [], none, 0, 0, ⟨rfl, by rw [H0.out.1]; exact HK.out, by rw [H0.out.2]; omega, by simp, hA10, Nat.le_refl _, Kp, Kr, Km, OwnRows.nil⟩⟩
    case round =>
      obtain ⟨d, ks, kp, kl, kc, HS⟩ := hrel
      clear Kp Kr Km Kt hA10
      have Kp := HS.pb
      have Kr := HS.rb
      have Km := HS.nb
      have hAl := HS.cur
      have hlow := HS.low
      have hsum := HS.sum
      have Ro := HS.own
      have hfw2 := HS.few
      have HM := Lib.hid HS.eq
      have HI := Lib.hid HS.inv
      clear HS
      cases gk with
      | zero => exact absurd hfw2 (Nat.not_lt_zero _)
      | succ gf =>
        cases hb : begins d with
        | false =>
          have HQ : Hid (rowP wh c = (d, some (.mk 14 tp 0 tt ks))) := by show _ = _; rw [HR.out, ← HM.out, many_end hb]; rfl
          have Tl := Ro.node 14 tp 0 tt
          clear Ro
          have p0 := cells1 Kp
          obtain ⟨⟨r0, r1, r2, r3, r4⟩, rf0, rf1, rf2, rf3, rf4⟩ := cells5 Kr
          obtain ⟨⟨m0, m1, m2, m3, m4⟩, mf0, mf1, mf2, mf3, mf4⟩ := cells5 Km
          have HC := begins_any hAl.cur
          rw [hb] at HC
          go_wp2_with fail
          refine HC.mono ?_; rintro e W12 ⟨rfl, hAc⟩
          clear HC
          clear p0 r0 r1 r2 r3 r4 rf0 rf1 rf2 rf3 rf4 m0 m1 m2 m3 m4 mf0 mf1 mf2 mf3 mf4
          have hA12 := hAl.trans hAc
          have Kp := Kp.kept hAc.grown (fun e => by injection e; omega)
          have Kr := Kr.kept hAc.grown (fun e => by injection e; omega)
          have Km := Km.kept hAc.grown (fun e => by injection e; omega)
          have Tl := Tl.keeps (w' := W12) ⟨hAc.grown.size, fun k hk hkl => hAc.grown.block k hkl (fun e => by injection e; omega)⟩
          have hs13 := hAc.grown.size
          clear hAl hAc
          obtain ⟨W7, hW7, hb7, hA7, hn7⟩ := read_end hA12 (b := w.heap.size + 1) (by omega) (z := zN) Kr ⟨14, tp, 0, tt, kp, kl, kc⟩
          dsimp only [zN] at hW7 hb7
          have hd7 := (hn7 _ _ _ Tl (by omega)).mono (S' := fun b => w.heap.size ≤ b) fun k hk _ => by omega
          have p0 := cells1 Kp
          obtain ⟨⟨r0, r1, r2, r3, r4⟩, rf0, rf1, rf2, rf3, rf4⟩ := cells5 Kr
          obtain ⟨⟨m0, m1, m2, m3, m4⟩, mf0, mf1, mf2, mf3, mf4⟩ := cells5 Km
          go_wp2_with fail
          rw [← hW7]
          obtain ⟨z0, z1, z2, z3, z4⟩ := hb7
          dsimp only at z0 z1 z2 z3 z4
          refine bodyPost_ret (v := .tuple #[NC.val ⟨14, tp, 0, tt, kp, kl, kc⟩, .bool true]) (by simp [results, Try.results52, go_sem, z0, z1, z2, z3, z4, NC.val, zN]) rfl ⟨⟨14, tp, 0, tt, kp, kl, kc⟩, by rw [HQ.out]; rfl, by rw [HQ.out]; exact hA7, by rw [HQ.out]; exact hd7⟩
        | true =>
          have HBK : Hid (∀ b, (Value.slice kp kl kc).ownBlock = some b → W10.heap.size ≤ b ∧ b < wr.heap.size) := by obtain ⟨ds, _, q, _⟩ := Ro; exact fun b hb => q.lt b hb
          have p0 := cells1 Kp
          obtain ⟨⟨r0, r1, r2, r3, r4⟩, rf0, rf1, rf2, rf3, rf4⟩ := cells5 Kr
          obtain ⟨⟨m0, m1, m2, m3, m4⟩, mf0, mf1, mf2, mf3, mf4⟩ := cells5 Km
          have HC := begins_any hAl.cur
          rw [hb] at HC
          go_wp2_with fail
          refine HC.mono ?_; rintro e W14 ⟨rfl, hAc⟩
          clear HC
          clear p0 r0 r1 r2 r3 r4 rf0 rf1 rf2 rf3 rf4 m0 m1 m2 m3 m4 mf0 mf1 mf2 mf3 mf4
          have hA14 := hAl.trans hAc
          have Kp := Kp.kept hAc.grown (fun e => by injection e; omega)
          have Kr := Kr.kept hAc.grown (fun e => by injection e; omega)
          have Km := Km.kept hAc.grown (fun e => by injection e; omega)
          have Ro := Ro.keep hAc.grown (by omega)
          have hs15 := hAc.grown.size
          clear hAl hAc
          have p0 := cells1 Kp
          obtain ⟨⟨r0, r1, r2, r3, r4⟩, rf0, rf1, rf2, rf3, rf4⟩ := cells5 Kr
          obtain ⟨⟨m0, m1, m2, m3, m4⟩, mf0, mf1, mf2, mf3, mf4⟩ := cells5 Km
          have HC := atom_any hA14.cur HWH.out HI.out
          go_wp2_with fail
          refine HC.mono ?_; rintro e W16 ⟨dx, rfl, hAc, hm⟩
          clear HC
          clear p0 r0 r1 r2 r3 r4 rf0 rf1 rf2 rf3 rf4 m0 m1 m2 m3 m4 mf0 mf1 mf2 mf3 mf4
          have hA16 := hA14.trans hAc
          have Kp := Kp.kept hAc.grown (fun e => by injection e; omega)
          have Kr := Kr.kept hAc.grown (fun e => by injection e; omega)
          have Km := Km.kept hAc.grown (fun e => by injection e; omega)
          have Ro := Ro.keep hAc.grown (by omega)
          have hs17 := hAc.grown.size
          clear hA14 hAc
          cases ho : (atomP wh d).2 with
          | none =>
            have HQ : Hid (rowP wh c = ((atomP wh d).1, none)) := by show _ = _; rw [HR.out, ← HM.out, many_none hb (out_eq ho)]; rfl
            rw [ho] at hm
            clear Ro
            obtain ⟨dk, dp, dn, dt, dq, dl, dc⟩ := dx
            unfold NC.val
            simp only [Option.isSome_none]
            clear hm
            have p0 := cells1 Kp
            obtain ⟨⟨r0, r1, r2, r3, r4⟩, rf0, rf1, rf2, rf3, rf4⟩ := cells5 Kr
            obtain ⟨⟨m0, m1, m2, m3, m4⟩, mf0, mf1, mf2, mf3, mf4⟩ := cells5 Km
            go_upto_region 7 with fail
            obtain ⟨W18, hW18⟩ : ∃ x, x = W16.alloc (.cells #[.int .i64 dk, .int .i64 dp, .int .i64 dn, .string ⟨dt.toArray⟩, .slice dq dl dc] 25) := ⟨_, rfl⟩
            rw [← hW18]
            have hB : Below W16.heap.size W16 W18 := by rw [hW18]; exact (Below.refl _ _).alloc (Nat.le_refl _) _
            have Kd : Blk W18 W16.heap.size #[.int .i64 dk, .int .i64 dp, .int .i64 dn, .string ⟨dt.toArray⟩, .slice dq dl dc] 25 := by rw [hW18]; exact Blk.new W16 _ _
            have hz18 : W16.heap.size + 1 ≤ W18.heap.size := by rw [hW18]; simp
            clear hW18
            clear p0 r0 r1 r2 r3 r4 rf0 rf1 rf2 rf3 rf4 m0 m1 m2 m3 m4 mf0 mf1 mf2 mf3 mf4
            have hA18 := hA16.below hB
            have Kp := Kp.kept (grownBy_below hB (some B)) (fun e => by injection e; omega)
            have Kr := Kr.kept (grownBy_below hB (some B)) (fun e => by injection e; omega)
            have Km := Km.kept (grownBy_below hB (some B)) (fun e => by injection e; omega)
            have hs19 := (grownBy_below hB (some B)).size
            clear hA16 hB
            obtain ⟨W7, hW7, hb7, hA7, hn7⟩ := read_end hA18 (b := w.heap.size + 1) (by omega) (z := zN) Kr zN
            dsimp only [zN] at hW7 hb7
            clear hn7
            have p0 := cells1 Kp
            obtain ⟨⟨r0, r1, r2, r3, r4⟩, rf0, rf1, rf2, rf3, rf4⟩ := cells5 Kr
            obtain ⟨⟨m0, m1, m2, m3, m4⟩, mf0, mf1, mf2, mf3, mf4⟩ := cells5 Km
            obtain ⟨⟨d0, d1, d2, d3, d4⟩, -⟩ := cells5 Kd
            go_wp2_with fail
            rw [← hW7]
            obtain ⟨z0, z1, z2, z3, z4⟩ := hb7
            dsimp only at z0 z1 z2 z3 z4
            refine bodyPost_ret (v := .tuple #[NC.val zN, .bool false]) (by simp [results, Try.results52, go_sem, z0, z1, z2, z3, z4, NC.val, zN]) rfl ⟨zN, by rw [HQ.out]; rfl, by rw [HQ.out]; exact hA7, by rw [HQ.out]⟩
          | some t =>
            rw [ho] at hm
            have Td : NodeAt _ _ _ t := hm
            clear hm
            have HST := Lib.hid (atom_step HP HI.out hb (out_eq ho))
            have HM2 : Hid (manyP begins id (atomP wh) gf (atomP wh d).1 (ks ++ [t]) = manyP begins id (atomP wh) (c.ws.length + 1) c.adv []) := by show _ = _; rw [← HM.out, many_some hb (out_eq ho)]; rfl
            obtain ⟨dk, dp, dn, dt, dq, dl, dc⟩ := dx
            unfold NC.val
            simp only [Option.isSome_some]
            have p0 := cells1 Kp
            obtain ⟨⟨r0, r1, r2, r3, r4⟩, rf0, rf1, rf2, rf3, rf4⟩ := cells5 Kr
            obtain ⟨⟨m0, m1, m2, m3, m4⟩, mf0, mf1, mf2, mf3, mf4⟩ := cells5 Km
            go_upto_region 9 with fail
            obtain ⟨W20, hW20⟩ : ∃ x, x = W16.alloc (.cells #[.int .i64 dk, .int .i64 dp, .int .i64 dn, .string ⟨dt.toArray⟩, .slice dq dl dc] 25) := ⟨_, rfl⟩
            rw [← hW20]
            have hB : Below W16.heap.size W16 W20 := by rw [hW20]; exact (Below.refl _ _).alloc (Nat.le_refl _) _
            have Kd : Blk W20 W16.heap.size #[.int .i64 dk, .int .i64 dp, .int .i64 dn, .string ⟨dt.toArray⟩, .slice dq dl dc] 25 := by rw [hW20]; exact Blk.new W16 _ _
            have hz20 : W16.heap.size + 1 ≤ W20.heap.size := by rw [hW20]; simp
            clear hW20
            clear p0 r0 r1 r2 r3 r4 rf0 rf1 rf2 rf3 rf4 m0 m1 m2 m3 m4 mf0 mf1 mf2 mf3 mf4
            have hA20 := hA16.below hB
            have Kp := Kp.kept (grownBy_below hB (some B)) (fun e => by injection e; omega)
            have Kr := Kr.kept (grownBy_below hB (some B)) (fun e => by injection e; omega)
            have Km := Km.kept (grownBy_below hB (some B)) (fun e => by injection e; omega)
            have Td := Td.keeps (w' := W20) ⟨(grownBy_below hB (some B)).size, fun k hk hkl => (grownBy_below hB (some B)).block k hkl (fun e => by injection e; omega)⟩
            have Ro := Ro.keep (grownBy_below hB (some B)) (by omega)
            have hs21 := (grownBy_below hB (some B)).size
            clear hA16 hB
            have p0 := cells1 Kp
            obtain ⟨⟨r0, r1, r2, r3, r4⟩, rf0, rf1, rf2, rf3, rf4⟩ := cells5 Kr
            obtain ⟨⟨m0, m1, m2, m3, m4⟩, mf0, mf1, mf2, mf3, mf4⟩ := cells5 Km
            obtain ⟨⟨d0, d1, d2, d3, d4⟩, -⟩ := cells5 Kd
            obtain ⟨ds, e1, e2, e3⟩ := Ro
            have HE3 := Lib.hid e3
            have HE1 := Lib.hid e1
            clear e3 e1
            go_wp2_with (at_builtin; refine wpList_append_at rfl _ _ 23 rfl (W10.heap.size) 25 i0 _ 5 64 Try.underlying23 hi0 hz0 hz1 hz2 rfl (by decide) _ _ _ rfl (e2.alloc _) ⟨_, 0, none⟩ 1 1 (encN ⟨dk, dp, dn, dt, dq, dl, dc⟩) rfl rfl (cells_of_new _ _ _ _ rfl) (encN_one _) ?_ ?_ ?_ ?_; (unfold maxLen; omega); omega; (simp; omega); intro v3 w3 ho3 hg3 hat3; have hal := (World.grownBy_alloc W20 (.cells #[.int .i64 dk, .int .i64 dp, .int .i64 dn, .string ⟨dt.toArray⟩, .slice dq dl dc] 25) (Value.slice kp kl kc).ownBlock).andThen hg3 (fun j hj => .inr hj); have hat4 : v3.ownBlock = (Value.slice kp kl kc).ownBlock ∨ ∃ n, v3.ownBlock = some n ∧ W20.heap.size ≤ n := hat3.imp id fun e => ⟨_, e, by simp⟩; have HO3 := OwnRows.snoc HE1.out HE3.out (Td.mono fun b hb _ => ⟨by omega, fun e => by have := (HBK.out b e).2; omega⟩) ho3 hal hat4; obtain ⟨p3, cap3, q0⟩ := HO3.shape; have q3 : v3 = .slice p3 (ks.length + 1) cap3 := q0.trans (by rw [List.length_append]; rfl); clear q0; subst q3; have KM := (Km.later (w' := W20.alloc (.cells #[.int .i64 dk, .int .i64 dp, .int .i64 dn, .string ⟨dt.toArray⟩, .slice dq dl dc] 25)) ((Below.refl _ _).alloc (Nat.le_refl _) _)).kept hg3 (fun e => by have := (HBK.out _ e.symm).1; omega); obtain ⟨⟨m0, m1, m2, m3, m4⟩, mf0, mf1, mf2, mf3, mf4⟩ := cells5 KM)
            have hAn := hA20.row hal (fun b hb => by have := (HBK.out b hb).1; omega)
            have hP := Put.one w3 (W8.heap.size) 4 (.slice p3 (ks.length + 1) cap3)
            have KM2 := KM.set 4 (.slice p3 (ks.length + 1) cap3)
            replace Kp := hP.blk (Kp.kept hal (fun e => by have := (HBK.out _ e.symm).1; omega)) (by omega)
            replace Kr := hP.blk (Kr.kept hal (fun e => by have := (HBK.out _ e.symm).1; omega)) (by omega)
            have hsz3 := hal.size
            have hsz4 := hP.size
            go_roundg gf
            case measure => omega
            case rel =>
              refine ⟨(atomP wh d).1, ks ++ [t], p3, _, cap3, ⟨HM2.out, HST.out.1, by have := HST.out.2; omega, by simp; omega, at7_putb hAn (by omega) hP, by omega, Kp, Kr, KM2, HO3.keep hP.grown (by omega)⟩⟩
end Go.Proofs.Ytemgocegnlehoaa.N8
