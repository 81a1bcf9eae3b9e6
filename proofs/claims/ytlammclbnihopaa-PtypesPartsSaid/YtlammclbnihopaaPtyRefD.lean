/- The document's readers: rows. -/
import Derived.Test.YtlammclbnihopaaPtyRefB
namespace Go.Proofs.Ytlammclbnihopaa.N7
open Go.RowKit N5 N6

attribute [local go_sem] fld0 fld1
theorem manyR_end {rd : Cu → Cu × Nd} {f : Nat} {c : Cu} {l : List Nd} (h : beginsR c = false) : manyR rd f c l = (c, l) := by
  cases f with
  | zero => rfl
  | succ f => show (if _ then _ else _) = _; rw [h]; rfl
theorem manyR_step {rd : Cu → Cu × Nd} {f : Nat} {c : Cu} {l : List Nd} (h : beginsR c = true) : manyR rd (f + 1) c l = manyR rd f (rd c).1 (l ++ [(rd c).2]) := by
  show (if _ then _ else _) = _; rw [if_pos h]
/-- what the loop of row keeps -/
structure RowSt (n : Nat) (w : World) (mb LB F k : Nat) (rf : Cu → Cu × Nd) (c : Cu) (tp : Int) (tt : List UInt8) (gk : Nat) (d : Cu) (ks : List Nd) (u : Value) (kp : Option Addr) (kl kc : Nat) (W : World) : Prop where
  eq : manyR (atomR rf) gk d ks = manyR (atomR rf) F c.adv []
  few : beginsR d = true → d.ws.length - d.at' < gk
  fine : Fine c.adv d
  sum : ks.length + gk ≤ F
  bel : Below w.heap.size w W
  low : LB ≤ W.heap.size
  pb : Blk W w.heap.size (refC u d.ep (d.nest : Int) d.err d.pos) 39
  rcb : Blk W (w.heap.size + 1) (refC (.slice none 0 0) 0 0 0 0) 39
  rnb : Blk W (w.heap.size + 1 + 1) #[.int .i64 0, .int .i64 0, .int .i64 0, .string ⟨#[]⟩, .slice none 0 0] 25
  nb : Blk W mb #[.int .i64 2, .int .i64 tp, .int .i64 0, .string ⟨tt.toArray⟩, .slice kp kl kc] 25
  row : WRow n W u (d.ws.drop d.at')
  own : OwnRows LB W (.slice kp kl kc) ks
theorem below_own {n : Nat} {W W' : World} {o : Option Nat} (hg : W.grownBy W' o) (ho : ∀ b, o = some b → n ≤ b) (hs : n ≤ W.heap.size) : Below n W W' := by
  cases o with
  | none => exact (grown_none hg).mono hs
  | some b => exact below_grown hg (ho b rfl) hs
set_option maxRecDepth 100000 in
set_option maxHeartbeats 4000000 in
theorem refrow_any {rf : Cu → Cu × Nd} {n k : Nat} {w : World} {x : Value} {c : Cu} (h : RefIs n w x c) (hn : n ≤ w.heap.size) (hok : CuOk c) (hf : ∀ c, 200 ≤ c.nest + k ∨ c.err ≠ 0 → Fine c (rf c).1) (hfa : ∀ c, 200 ≤ c.nest + (k + 1) ∨ c.err ≠ 0 → Fine c (atomR rf c).1) (hat : ∀ c, 200 ≤ c.nest + (k + 1) → (atomR rf c).1.err = 0 → c.at' < (atomR rf c).1.at') (hwh : c.err = 0 → ∀ (c : Cu) (W : World) (x : Value), 200 ≤ c.nest + k ∨ c.err ≠ 0 → CuOk c → RefIs n W x c → n ≤ W.heap.size → Calls Try.prog 21 #[x] W (RefRead n (rf c) W)) (hk : 200 ≤ c.nest + (k + 1) ∨ c.err ≠ 0) : Calls Try.prog 51 #[x] w (RefRead n (rowR rf c) w) := by
  have HWH := Lib.hid hwh
  have HK := Lib.hid hk
  have HOK := Lib.hid hok
  have HF := Lib.hid hf
  have HFA := Lib.hid hfa
  have HAT := Lib.hid hat
  obtain ⟨i0, hi0, hz0, hz1, hz2⟩ := info_parts infoNode
  clear hwh hk hok hf hfa hat
  obtain ⟨a, ln, cap, rfl, hr, -⟩ := h.shape
  clear h
  obtain ⟨W1, hW1⟩ : ∃ W1, W1 = (((w.alloc (.cells (refC (.slice a ln cap) c.ep (c.nest : Int) c.err c.pos) 39)).alloc (.cells (refC (.slice none 0 0) 0 0 0 0) 39)).alloc (.cells #[.int .i64 0, .int .i64 0, .int .i64 0, .string ⟨#[]⟩, .slice none 0 0] 25)) := ⟨_, rfl⟩
  have hsz : w.heap.size + 1 + 1 + 1 ≤ W1.heap.size := by rw [hW1]; simp
  have Kp : Blk W1 (w.heap.size) (refC (.slice a ln cap) c.ep (c.nest : Int) c.err c.pos) 39 := by rw [hW1]; have h0 := Blk.new w (refC (.slice a ln cap) c.ep (c.nest : Int) c.err c.pos) 39; (try simp only [World.size_alloc] at h0); exact ((h0.later ((Below.refl _ _).alloc (Nat.le_refl _) _)).later ((Below.refl _ _).alloc (Nat.le_refl _) _))
  have Krc : Blk W1 (w.heap.size + 1) (refC (.slice none 0 0) 0 0 0 0) 39 := by rw [hW1]; have h0 := Blk.new (w.alloc (.cells (refC (.slice a ln cap) c.ep (c.nest : Int) c.err c.pos) 39)) (refC (.slice none 0 0) 0 0 0 0) 39; (try simp only [World.size_alloc] at h0); exact (h0.later ((Below.refl _ _).alloc (Nat.le_refl _) _))
  have Krn : Blk W1 (w.heap.size + 1 + 1) #[.int .i64 0, .int .i64 0, .int .i64 0, .string ⟨#[]⟩, .slice none 0 0] 25 := by rw [hW1]; have h0 := Blk.new ((w.alloc (.cells (refC (.slice a ln cap) c.ep (c.nest : Int) c.err c.pos) 39)).alloc (.cells (refC (.slice none 0 0) 0 0 0 0) 39)) #[.int .i64 0, .int .i64 0, .int .i64 0, .string ⟨#[]⟩, .slice none 0 0] 25; (try simp only [World.size_alloc] at h0); exact h0
  have hB1 : Below w.heap.size w W1 := by rw [hW1]; exact ((((Below.refl _ w).alloc (by simp; try omega) _).alloc (by simp; try omega) _).alloc (by simp; try omega) _)
  have Rc : WRow n W1 (.slice a ln cap) (c.ws.drop c.at') := hr.out.below (hB1.mono hn)
  have HW1 := Lib.hid hW1
  clear hW1 hr
  go_enter Try.func51, Try.ntmps51
  go_upto_region 1 with fail
  rw [← HW1.out]
  clear HW1
  obtain ⟨⟨tk, tp, tn, tt⟩, hT⟩ : ∃ t, t = c.peek := ⟨_, rfl⟩
  have HT := Lib.hid hT
  clear hT
  have HC := refpeek_l (RefIs.mk Rc) (Nat.le_trans hn hB1.size)
  rw [← HT.out] at HC
  obtain ⟨⟨p0, p1, p2, p3, p4, p5, p6, p7⟩, pf0, pf1, pf2, pf3, pf4, pf5, pf6, pf7⟩ := cells8 Kp
  obtain ⟨⟨rc0, rc1, rc2, rc3, rc4, rc5, rc6, rc7⟩, rcf0, rcf1, rcf2, rcf3, rcf4, rcf5, rcf6, rcf7⟩ := cells8 Krc
  obtain ⟨⟨rn0, rn1, rn2, rn3, rn4⟩, rnf0, rnf1, rnf2, rnf3, rnf4⟩ := cells5 Krn
  go_wp2_with fail
  refine HC.mono ?_; rintro e W2 ⟨rfl, hB⟩
  clear HC
  clear p0 p1 p2 p3 p4 p5 p6 p7 pf0 pf1 pf2 pf3 pf4 pf5 pf6 pf7 rc0 rc1 rc2 rc3 rc4 rc5 rc6 rc7 rcf0 rcf1 rcf2 rcf3 rcf4 rcf5 rcf6 rcf7 rn0 rn1 rn2 rn3 rn4 rnf0 rnf1 rnf2 rnf3 rnf4
  replace Kp := Kp.later hB
  replace Krc := Krc.later hB
  replace Krn := Krn.later hB
  replace Rc := Rc.below (hB.mono (Nat.le_trans hn hB1.size))
  have hs3 := hB.size
  have hB3 := hB1.trans (hB.mono hB1.size)
  clear hB hB1
  go_upto_region 2 with fail
  obtain ⟨W4, hW4⟩ : ∃ x, x = W2.alloc (.cells #[.int .i64 tk, .int .i64 tp, .int .i64 tn, .string ⟨tt.toArray⟩] 37) := ⟨_, rfl⟩
  rw [← hW4]
  have hB : Below W2.heap.size W2 W4 := by rw [hW4]; exact (Below.refl _ _).alloc (Nat.le_refl _) _
  have KN : Blk W4 W2.heap.size #[.int .i64 tk, .int .i64 tp, .int .i64 tn, .string ⟨tt.toArray⟩] 37 := by rw [hW4]; exact Blk.new W2 _ _
  have hz4 : W2.heap.size + 1 ≤ W4.heap.size := by rw [hW4]; simp
  clear hW4
  replace Kp := Kp.later hB
  replace Krc := Krc.later hB
  replace Krn := Krn.later hB
  replace Rc := Rc.below (hB.mono (Nat.le_trans hn hB3.size))
  have hs5 := hB.size
  have hB5 := hB3.trans (hB.mono hB3.size)
  clear hB hB3
  have Kt := KN
  clear KN
  by_cases h2 : tk = 2
  case neg =>
    have hb : (tk != 2) = true := by rw [bne_iff_ne]; exact h2
    have HQ : Hid (rowR rf c = atomR rf c) := by show _ = _; unfold rowR; rw [← HT.out, if_neg h2]
    clear h2
    have HC := refatom_any (RefIs.mk Rc) (Nat.le_trans hn hB5.size) HOK.out HF.out HWH.out HK.out
    obtain ⟨c6, hE⟩ : ∃ q, q = (atomR rf c).1 := ⟨_, rfl⟩
    have E6 := Lib.hid hE
    clear hE
    obtain ⟨⟨p0, p1, p2, p3, p4, p5, p6, p7⟩, pf0, pf1, pf2, pf3, pf4, pf5, pf6, pf7⟩ := cells8 Kp
    obtain ⟨⟨rc0, rc1, rc2, rc3, rc4, rc5, rc6, rc7⟩, rcf0, rcf1, rcf2, rcf3, rcf4, rcf5, rcf6, rcf7⟩ := cells8 Krc
    obtain ⟨⟨rn0, rn1, rn2, rn3, rn4⟩, rnf0, rnf1, rnf2, rnf3, rnf4⟩ := cells5 Krn
    obtain ⟨t0, t1, t2, t3⟩ := cells4 Kt
    go_wp2_with fail
    refine HC.mono ?_; rintro e W6 ⟨x', d, rfl, hx, hd, hB⟩
    clear HC
    rw [← E6.out] at hx
    obtain ⟨a6, ln6, cap6, rfl, hRq, -⟩ := hx.shape
    have Rq6 := hRq.out
    clear hx hRq
    clear p0 p1 p2 p3 p4 p5 p6 p7 pf0 pf1 pf2 pf3 pf4 pf5 pf6 pf7 rc0 rc1 rc2 rc3 rc4 rc5 rc6 rc7 rcf0 rcf1 rcf2 rcf3 rcf4 rcf5 rcf6 rcf7 rn0 rn1 rn2 rn3 rn4 rnf0 rnf1 rnf2 rnf3 rnf4 t0 t1 t2 t3
    replace Kp := Kp.later hB
    replace Krc := Krc.later hB
    replace Krn := Krn.later hB
    replace Kt := Kt.later hB
    replace Rc := Rc.below (hB.mono (Nat.le_trans hn hB5.size))
    have hs7 := hB.size
    have hB7 := hB5.trans (hB.mono hB5.size)
    clear hB hB5
    obtain ⟨dk, dp, dn, dt, dq, dl, dc⟩ := d
    unfold NC.val
    have Td := hd.mono (S' := (fun q => w.heap.size + 1 + 1 + 1 ≤ q ∧ q ≠ W2.heap.size)) fun q hq hl => ⟨by omega, by omega⟩
    clear hd
    have HQ1 : Hid ((rowR rf c).1 = c6) := by show _ = _; rw [HQ.out, E6.out]
    have HQ2 : Hid ((rowR rf c).2 = (atomR rf c).2) := by show _ = _; rw [HQ.out]
    obtain ⟨⟨p0, p1, p2, p3, p4, p5, p6, p7⟩, pf0, pf1, pf2, pf3, pf4, pf5, pf6, pf7⟩ := cells8 Kp
    obtain ⟨⟨rc0, rc1, rc2, rc3, rc4, rc5, rc6, rc7⟩, rcf0, rcf1, rcf2, rcf3, rcf4, rcf5, rcf6, rcf7⟩ := cells8 Krc
    obtain ⟨⟨rn0, rn1, rn2, rn3, rn4⟩, rnf0, rnf1, rnf2, rnf3, rnf4⟩ := cells5 Krn
    obtain ⟨t0, t1, t2, t3⟩ := cells4 Kt
    obtain ⟨W8, hW8, KN, hP⟩ := c_put Krc (.slice a6 ln6 cap6) c6.ep (c6.nest : Int) c6.err c6.pos
    replace Kp := hP.blk Kp (by omega)
    replace Krn := hP.blk Krn (by omega)
    replace Kt := hP.blk Kt (by omega)
    replace Td := hP.node Td (by omega)
    replace Rc := hP.row Rc (by omega)
    replace Rq6 := hP.row Rq6 (by omega)
    have hs9 := hP.size
    have hB9 := hP.below _ _ (by omega) hB7
    clear hP hB7
    replace Krc := KN
    clear KN
    obtain ⟨W10, hW10, KN, hP⟩ := n_put (z := zN) Krn ⟨dk, dp, dn, dt, dq, dl, dc⟩
    replace Kp := hP.blk Kp (by omega)
    replace Krc := hP.blk Krc (by omega)
    replace Kt := hP.blk Kt (by omega)
    replace Td := hP.node Td (by omega)
    replace Rc := hP.row Rc (by omega)
    replace Rq6 := hP.row Rq6 (by omega)
    have hs11 := hP.size
    have hB11 := hP.below _ _ (by omega) hB9
    clear hP hB9
    dsimp only [zN] at hW10 KN
    replace Krn := KN
    clear KN
    go_wp2_with fail
    rw [← hW8, ← hW10]
    obtain ⟨⟨y0, y1, y2, y3, y4, y5, y6, y7⟩, -⟩ := cells8 Krc
    obtain ⟨⟨z0, z1, z2, z3, z4⟩, -⟩ := cells5 Krn
    refine bodyPost_ret (v := .tuple #[.agg (refC (.slice a6 ln6 cap6) c6.ep (c6.nest : Int) c6.err c6.pos), NC.val ⟨dk, dp, dn, dt, dq, dl, dc⟩]) (by simp [results, Try.results51, go_sem, y0, y1, y2, y3, y4, y5, y6, y7, z0, z1, z2, z3, z4, NC.val]) rfl ⟨_, ⟨dk, dp, dn, dt, dq, dl, dc⟩, rfl, ?_, ?_, hB11⟩
    · rw [HQ1.out]; exact RefIs.mk Rq6
    · rw [HQ2.out]; exact Td.mono fun q hq _ => by omega
  case pos =>
    subst h2
    have HE : Hid (c.err = 0) := peek_err (by rw [← HT.out]; show (2 : Int) ≠ 0; decide)
    have hb : ((2 : Int) != 2) = false := rfl
    have HR : Hid (rowR rf c = ((manyR (atomR rf) (c.ws.length + 1) c.adv []).1, .mk 2 tp 0 tt (manyR (atomR rf) (c.ws.length + 1) c.adv []).2)) := by show _ = _; unfold rowR; rw [← HT.out]; rfl
    have HC := refnext_l (RefIs.mk Rc) (Nat.le_trans hn hB5.size)
    obtain ⟨c12, hE⟩ : ∃ q, q = c.adv := ⟨_, rfl⟩
    rw [← hE] at HC
    rw [← HT.out] at HC
    have E12 := Lib.hid hE
    clear hE
    obtain ⟨⟨p0, p1, p2, p3, p4, p5, p6, p7⟩, pf0, pf1, pf2, pf3, pf4, pf5, pf6, pf7⟩ := cells8 Kp
    obtain ⟨⟨rc0, rc1, rc2, rc3, rc4, rc5, rc6, rc7⟩, rcf0, rcf1, rcf2, rcf3, rcf4, rcf5, rcf6, rcf7⟩ := cells8 Krc
    obtain ⟨⟨rn0, rn1, rn2, rn3, rn4⟩, rnf0, rnf1, rnf2, rnf3, rnf4⟩ := cells5 Krn
    obtain ⟨t0, t1, t2, t3⟩ := cells4 Kt
    go_wp2_with fail
    refine HC.mono ?_; rintro e W12 ⟨x', rfl, hx, hB⟩
    clear HC
    obtain ⟨a12, ln12, cap12, rfl, hRq, -⟩ := hx.shape
    have Rq12 := hRq.out
    clear hx hRq
    clear p0 p1 p2 p3 p4 p5 p6 p7 pf0 pf1 pf2 pf3 pf4 pf5 pf6 pf7 rc0 rc1 rc2 rc3 rc4 rc5 rc6 rc7 rcf0 rcf1 rcf2 rcf3 rcf4 rcf5 rcf6 rcf7 rn0 rn1 rn2 rn3 rn4 rnf0 rnf1 rnf2 rnf3 rnf4 t0 t1 t2 t3
    replace Kp := Kp.later hB
    replace Krc := Krc.later hB
    replace Krn := Krn.later hB
    replace Kt := Kt.later hB
    replace Rc := Rc.below (hB.mono (Nat.le_trans hn hB5.size))
    have hs13 := hB.size
    have hB13 := hB5.trans (hB.mono hB5.size)
    clear hB hB5
    obtain ⟨⟨p0, p1, p2, p3, p4, p5, p6, p7⟩, pf0, pf1, pf2, pf3, pf4, pf5, pf6, pf7⟩ := cells8 Kp
    obtain ⟨⟨rc0, rc1, rc2, rc3, rc4, rc5, rc6, rc7⟩, rcf0, rcf1, rcf2, rcf3, rcf4, rcf5, rcf6, rcf7⟩ := cells8 Krc
    obtain ⟨⟨rn0, rn1, rn2, rn3, rn4⟩, rnf0, rnf1, rnf2, rnf3, rnf4⟩ := cells5 Krn
    obtain ⟨t0, t1, t2, t3⟩ := cells4 Kt
    obtain ⟨W14, hW14, KN, hP⟩ := c_put Kp (.slice a12 ln12 cap12) c12.ep (c12.nest : Int) c12.err c12.pos
    replace Krc := hP.blk Krc (by omega)
    replace Krn := hP.blk Krn (by omega)
    replace Kt := hP.blk Kt (by omega)
    replace Rc := hP.row Rc (by omega)
    replace Rq12 := hP.row Rq12 (by omega)
    have hs15 := hP.size
    have hB15 := hP.below _ _ (by omega) hB13
    clear hP hB13
    replace Kp := KN
    clear KN
    go_upto_region 5 with fail
    rw [← hW14]
    clear hW14
    clear p0 p1 p2 p3 p4 p5 p6 p7 pf0 pf1 pf2 pf3 pf4 pf5 pf6 pf7 rc0 rc1 rc2 rc3 rc4 rc5 rc6 rc7 rcf0 rcf1 rcf2 rcf3 rcf4 rcf5 rcf6 rcf7 rn0 rn1 rn2 rn3 rn4 rnf0 rnf1 rnf2 rnf3 rnf4 t0 t1 t2 t3
    obtain ⟨⟨p0, p1, p2, p3, p4, p5, p6, p7⟩, pf0, pf1, pf2, pf3, pf4, pf5, pf6, pf7⟩ := cells8 Kp
    obtain ⟨⟨rc0, rc1, rc2, rc3, rc4, rc5, rc6, rc7⟩, rcf0, rcf1, rcf2, rcf3, rcf4, rcf5, rcf6, rcf7⟩ := cells8 Krc
    obtain ⟨⟨rn0, rn1, rn2, rn3, rn4⟩, rnf0, rnf1, rnf2, rnf3, rnf4⟩ := cells5 Krn
    obtain ⟨t0, t1, t2, t3⟩ := cells4 Kt
    go_wp2_with fail
    clear p0 p1 p2 p3 p4 p5 p6 p7 pf0 pf1 pf2 pf3 pf4 pf5 pf6 pf7 rc0 rc1 rc2 rc3 rc4 rc5 rc6 rc7 rcf0 rcf1 rcf2 rcf3 rcf4 rcf5 rcf6 rcf7 rn0 rn1 rn2 rn3 rn4 rnf0 rnf1 rnf2 rnf3 rnf4 t0 t1 t2 t3
    obtain ⟨W16, hW16⟩ : ∃ x, x = W14.alloc (.cells #[.int .i64 2, .int .i64 tp, .int .i64 0, .string ⟨tt.toArray⟩, .slice none 0 0] 25) := ⟨_, rfl⟩
    have hB : Below W14.heap.size W14 W16 := by rw [hW16]; exact (Below.refl _ _).alloc (Nat.le_refl _) _
    have KN : Blk W16 W14.heap.size #[.int .i64 2, .int .i64 tp, .int .i64 0, .string ⟨tt.toArray⟩, .slice none 0 0] 25 := by rw [hW16]; exact Blk.new W14 _ _
    have hz16 : W14.heap.size + 1 ≤ W16.heap.size := by rw [hW16]; simp
    replace Kp := Kp.later hB
    replace Krc := Krc.later hB
    replace Krn := Krn.later hB
    replace Kt := Kt.later hB
    replace Rc := Rc.below (hB.mono (Nat.le_trans hn hB15.size))
    replace Rq12 := Rq12.below (hB.mono (Nat.le_trans hn hB15.size))
    have hs17 := hB.size
    have hB17 := hB15.trans (hB.mono hB15.size)
    clear hB hB15
    have Km := KN
    clear KN
    rw [← hW16]
    clear hW16
    have hfw := HOK.out.few
    go_loopg [28] (c.ws.length + 1) (fun gk q wr => ∃ (d : Cu) (ks : List Nd) (a5 : Option Addr) (ln5 cap5 : Nat) (kp : Option Addr) (kl kc : Nat), RowSt n w (W14.heap.size) (W16.heap.size) (c.ws.length + 1) k rf c tp tt gk d ks (.slice a5 ln5 cap5) kp kl kc wr)
    case atStart => exact ⟨c12, [], a12, ln12, cap12, none, 0, 0, ⟨by rw [E12.out], fun _ => by rw [E12.out, (fine_adv c).ws]; omega, by rw [E12.out]; exact .refl _, by simp, hB17, Nat.le_refl _, Kp, Krc, Krn, Km, Rq12, OwnRows.nil⟩⟩
    case round =>
      obtain ⟨d, ks, a5, ln5, cap5, kp, kl, kc, HS⟩ := hrel
      clear Kp Krc Krn Km Rc Rq12 hB17
      have Kp := HS.pb
      have Krc := HS.rcb
      have Krn := HS.rnb
      have Km := HS.nb
      have hBw := HS.bel
      have hlow := HS.low
      have hsum := HS.sum
      have Rd := HS.row
      have Oo := HS.own
      have HM := Lib.hid HS.eq
      have HFW := Lib.hid HS.few
      have HFN := Lib.hid HS.fine
      clear HS
      have HOD := Lib.hid (HFN.out.ok ((fine_adv c).ok HOK.out))
      have HKC : Hid (200 ≤ c.nest + (k + 1)) := HK.out.resolve_right fun q => q HE.out
      have HKE : Hid (d.err = 0 → 200 ≤ d.nest + (k + 1)) := fun he => by rw [HFN.out.nest he, (fine_adv c).nest (by rw [adv_err]; exact HE.out)]; exact HKC.out
      have HKD : Hid (200 ≤ d.nest + (k + 1) ∨ d.err ≠ 0) := by by_cases he : d.err = 0; exact .inl (HKE.out he); exact .inr he
      cases hb : beginsR d with
      | false =>
        have HQ : Hid (rowR rf c = (d, .mk 2 tp 0 tt ks)) := by show _ = _; rw [HR.out, ← HM.out, manyR_end hb]
        have Tl := Oo.node 2 tp 0 tt
        clear Oo
        have HC := refbegins_any (RefIs.mk Rd) (Nat.le_trans hn hBw.size)
        rw [hb] at HC
        obtain ⟨⟨p0, p1, p2, p3, p4, p5, p6, p7⟩, pf0, pf1, pf2, pf3, pf4, pf5, pf6, pf7⟩ := cells8 Kp
        obtain ⟨⟨rc0, rc1, rc2, rc3, rc4, rc5, rc6, rc7⟩, rcf0, rcf1, rcf2, rcf3, rcf4, rcf5, rcf6, rcf7⟩ := cells8 Krc
        obtain ⟨⟨rn0, rn1, rn2, rn3, rn4⟩, rnf0, rnf1, rnf2, rnf3, rnf4⟩ := cells5 Krn
        obtain ⟨⟨m0, m1, m2, m3, m4⟩, mf0, mf1, mf2, mf3, mf4⟩ := cells5 Km
        go_wp2_with fail
        refine HC.mono ?_; rintro e W18 ⟨rfl, hB⟩
        clear HC
        clear p0 p1 p2 p3 p4 p5 p6 p7 pf0 pf1 pf2 pf3 pf4 pf5 pf6 pf7 rc0 rc1 rc2 rc3 rc4 rc5 rc6 rc7 rcf0 rcf1 rcf2 rcf3 rcf4 rcf5 rcf6 rcf7 rn0 rn1 rn2 rn3 rn4 rnf0 rnf1 rnf2 rnf3 rnf4 m0 m1 m2 m3 m4 mf0 mf1 mf2 mf3 mf4
        replace Kp := Kp.later hB
        replace Krc := Krc.later hB
        replace Krn := Krn.later hB
        replace Km := Km.later hB
        replace Tl := Tl.keeps (w' := W18) ⟨hB.size, fun k hk hkl => hB.block k hkl⟩
        replace Rd := Rd.below (hB.mono (Nat.le_trans hn hBw.size))
        have hs19 := hB.size
        have hB19 := hBw.trans (hB.mono hBw.size)
        clear hB hBw
        obtain ⟨⟨p0, p1, p2, p3, p4, p5, p6, p7⟩, pf0, pf1, pf2, pf3, pf4, pf5, pf6, pf7⟩ := cells8 Kp
        obtain ⟨⟨rc0, rc1, rc2, rc3, rc4, rc5, rc6, rc7⟩, rcf0, rcf1, rcf2, rcf3, rcf4, rcf5, rcf6, rcf7⟩ := cells8 Krc
        obtain ⟨⟨rn0, rn1, rn2, rn3, rn4⟩, rnf0, rnf1, rnf2, rnf3, rnf4⟩ := cells5 Krn
        obtain ⟨⟨m0, m1, m2, m3, m4⟩, mf0, mf1, mf2, mf3, mf4⟩ := cells5 Km
        go_upto_region 10 with fail
        clear p0 p1 p2 p3 p4 p5 p6 p7 pf0 pf1 pf2 pf3 pf4 pf5 pf6 pf7 rc0 rc1 rc2 rc3 rc4 rc5 rc6 rc7 rcf0 rcf1 rcf2 rcf3 rcf4 rcf5 rcf6 rcf7 rn0 rn1 rn2 rn3 rn4 rnf0 rnf1 rnf2 rnf3 rnf4 m0 m1 m2 m3 m4 mf0 mf1 mf2 mf3 mf4
        obtain ⟨⟨p0, p1, p2, p3, p4, p5, p6, p7⟩, pf0, pf1, pf2, pf3, pf4, pf5, pf6, pf7⟩ := cells8 Kp
        obtain ⟨⟨rc0, rc1, rc2, rc3, rc4, rc5, rc6, rc7⟩, rcf0, rcf1, rcf2, rcf3, rcf4, rcf5, rcf6, rcf7⟩ := cells8 Krc
        obtain ⟨⟨rn0, rn1, rn2, rn3, rn4⟩, rnf0, rnf1, rnf2, rnf3, rnf4⟩ := cells5 Krn
        obtain ⟨⟨m0, m1, m2, m3, m4⟩, mf0, mf1, mf2, mf3, mf4⟩ := cells5 Km
        obtain ⟨W20, hW20, KN, hP⟩ := c_put Krc (.slice a5 ln5 cap5) d.ep (d.nest : Int) d.err d.pos
        replace Kp := hP.blk Kp (by omega)
        replace Krn := hP.blk Krn (by omega)
        replace Km := hP.blk Km (by omega)
        replace Tl := hP.node Tl (by omega)
        replace Rd := hP.row Rd (by omega)
        have hs21 := hP.size
        have hB21 := hP.below _ _ (by omega) hB19
        clear hP hB19
        replace Krc := KN
        clear KN
        obtain ⟨W22, hW22, KN, hP⟩ := n_put (z := zN) Krn ⟨2, tp, 0, tt, kp, kl, kc⟩
        replace Kp := hP.blk Kp (by omega)
        replace Krc := hP.blk Krc (by omega)
        replace Km := hP.blk Km (by omega)
        replace Tl := hP.node Tl (by omega)
        replace Rd := hP.row Rd (by omega)
        have hs23 := hP.size
        have hB23 := hP.below _ _ (by omega) hB21
        clear hP hB21
        dsimp only [zN] at hW22 KN
        replace Krn := KN
        clear KN
        go_region
        rw [← hW20, ← hW22]
        clear p0 p1 p2 p3 p4 p5 p6 p7 pf0 pf1 pf2 pf3 pf4 pf5 pf6 pf7 rc0 rc1 rc2 rc3 rc4 rc5 rc6 rc7 rcf0 rcf1 rcf2 rcf3 rcf4 rcf5 rcf6 rcf7 rn0 rn1 rn2 rn3 rn4 rnf0 rnf1 rnf2 rnf3 rnf4 m0 m1 m2 m3 m4 mf0 mf1 mf2 mf3 mf4
        obtain ⟨W24, hW24⟩ : ∃ x, x = W22.drew := ⟨_, rfl⟩
        have hB : Below W22.heap.size W22 W24 := by rw [hW24]; exact (Below.refl _ _).drew
        rw [← hW24]
        clear hW24
        replace Kp := Kp.later hB
        replace Krc := Krc.later hB
        replace Krn := Krn.later hB
        replace Km := Km.later hB
        replace Tl := Tl.keeps (w' := W24) ⟨hB.size, fun k hk hkl => hB.block k hkl⟩
        replace Rd := Rd.below (hB.mono (Nat.le_trans hn hB23.size))
        have hs25 := hB.size
        have hB25 := hB23.trans (hB.mono hB23.size)
        clear hB hB23
        go_wp2_with fail
        obtain ⟨⟨y0, y1, y2, y3, y4, y5, y6, y7⟩, -⟩ := cells8 Krc
        obtain ⟨⟨z0, z1, z2, z3, z4⟩, -⟩ := cells5 Krn
        refine bodyPost_ret (v := .tuple #[.agg (refC (.slice a5 ln5 cap5) d.ep (d.nest : Int) d.err d.pos), NC.val ⟨2, tp, 0, tt, kp, kl, kc⟩]) (by simp [results, Try.results51, go_sem, y0, y1, y2, y3, y4, y5, y6, y7, z0, z1, z2, z3, z4, NC.val]) rfl ⟨_, ⟨2, tp, 0, tt, kp, kl, kc⟩, rfl, ?_, ?_, hB25⟩
        · rw [HQ.out]; exact RefIs.mk Rd
        · rw [HQ.out]; exact Tl.mono fun q hq _ => by omega
      | true =>
        cases gk with
        | zero => exact absurd (HFW.out hb) (Nat.not_lt_zero _)
        | succ gf =>
          have HC := refbegins_any (RefIs.mk Rd) (Nat.le_trans hn hBw.size)
          rw [hb] at HC
          obtain ⟨⟨p0, p1, p2, p3, p4, p5, p6, p7⟩, pf0, pf1, pf2, pf3, pf4, pf5, pf6, pf7⟩ := cells8 Kp
          obtain ⟨⟨rc0, rc1, rc2, rc3, rc4, rc5, rc6, rc7⟩, rcf0, rcf1, rcf2, rcf3, rcf4, rcf5, rcf6, rcf7⟩ := cells8 Krc
          obtain ⟨⟨rn0, rn1, rn2, rn3, rn4⟩, rnf0, rnf1, rnf2, rnf3, rnf4⟩ := cells5 Krn
          obtain ⟨⟨m0, m1, m2, m3, m4⟩, mf0, mf1, mf2, mf3, mf4⟩ := cells5 Km
          go_wp2_with fail
          refine HC.mono ?_; rintro e W26 ⟨rfl, hB⟩
          clear HC
          clear p0 p1 p2 p3 p4 p5 p6 p7 pf0 pf1 pf2 pf3 pf4 pf5 pf6 pf7 rc0 rc1 rc2 rc3 rc4 rc5 rc6 rc7 rcf0 rcf1 rcf2 rcf3 rcf4 rcf5 rcf6 rcf7 rn0 rn1 rn2 rn3 rn4 rnf0 rnf1 rnf2 rnf3 rnf4 m0 m1 m2 m3 m4 mf0 mf1 mf2 mf3 mf4
          replace Kp := Kp.later hB
          replace Krc := Krc.later hB
          replace Krn := Krn.later hB
          replace Km := Km.later hB
          replace Oo := Oo.keep (grownBy_below hB (some w.heap.size)) (by omega)
          replace Rd := Rd.below (hB.mono (Nat.le_trans hn hBw.size))
          have hs27 := hB.size
          have hB27 := hBw.trans (hB.mono hBw.size)
          clear hB hBw
          have HBK : Hid (∀ b, (Value.slice kp kl kc).ownBlock = some b → W16.heap.size ≤ b ∧ b < W26.heap.size) := by obtain ⟨ds, _, q, _⟩ := Oo; exact fun b hb => q.lt b hb
          have HC := refatom_any (RefIs.mk Rd) (Nat.le_trans hn hB27.size) HOD.out HF.out (fun _ => HWH.out HE.out) HKD.out
          obtain ⟨c28, hE⟩ : ∃ q, q = (atomR rf d).1 := ⟨_, rfl⟩
          have E28 := Lib.hid hE
          clear hE
          obtain ⟨⟨p0, p1, p2, p3, p4, p5, p6, p7⟩, pf0, pf1, pf2, pf3, pf4, pf5, pf6, pf7⟩ := cells8 Kp
          obtain ⟨⟨rc0, rc1, rc2, rc3, rc4, rc5, rc6, rc7⟩, rcf0, rcf1, rcf2, rcf3, rcf4, rcf5, rcf6, rcf7⟩ := cells8 Krc
          obtain ⟨⟨rn0, rn1, rn2, rn3, rn4⟩, rnf0, rnf1, rnf2, rnf3, rnf4⟩ := cells5 Krn
          obtain ⟨⟨m0, m1, m2, m3, m4⟩, mf0, mf1, mf2, mf3, mf4⟩ := cells5 Km
          go_wp2_with fail
          refine HC.mono ?_; rintro e W28 ⟨x', e, rfl, hx, he, hB⟩
          clear HC
          rw [← E28.out] at hx
          obtain ⟨a28, ln28, cap28, rfl, hRq, -⟩ := hx.shape
          have Rq28 := hRq.out
          clear hx hRq
          clear p0 p1 p2 p3 p4 p5 p6 p7 pf0 pf1 pf2 pf3 pf4 pf5 pf6 pf7 rc0 rc1 rc2 rc3 rc4 rc5 rc6 rc7 rcf0 rcf1 rcf2 rcf3 rcf4 rcf5 rcf6 rcf7 rn0 rn1 rn2 rn3 rn4 rnf0 rnf1 rnf2 rnf3 rnf4 m0 m1 m2 m3 m4 mf0 mf1 mf2 mf3 mf4
          replace Kp := Kp.later hB
          replace Krc := Krc.later hB
          replace Krn := Krn.later hB
          replace Km := Km.later hB
          replace Oo := Oo.keep (grownBy_below hB (some w.heap.size)) (by omega)
          replace Rd := Rd.below (hB.mono (Nat.le_trans hn hB27.size))
          have hs29 := hB.size
          have hB29 := hB27.trans (hB.mono hB27.size)
          clear hB hB27
          obtain ⟨ek, ep, en, et, eq, el, ec⟩ := e
          unfold NC.val
          have Te := he.mono (S' := (fun q => W26.heap.size ≤ q)) fun q hq hl => (by omega)
          clear he
          go_upto_region 8 with fail
          replace Te := Te.mono (S' := (fun q => W26.heap.size ≤ q ∧ q ≠ W28.heap.size ∧ q ≠ W28.heap.size + 1)) fun q hq hl => ⟨by omega, by omega, by omega⟩
          obtain ⟨W30, hV⟩ : ∃ x, x = (W28.alloc (.cells (refC (.slice a28 ln28 cap28) c28.ep (c28.nest : Int) c28.err c28.pos) 39)).alloc (.cells #[.int .i64 ek, .int .i64 ep, .int .i64 en, .string ⟨et.toArray⟩, .slice eq el ec] 25) := ⟨_, rfl⟩
          rw [← hV]
          have hB : Below W28.heap.size W28 W30 := by rw [hV]; exact ((Below.refl _ _).alloc (Nat.le_refl _) _).alloc (by simp) _
          have KC0 : Blk W30 (W28.heap.size) (refC (.slice a28 ln28 cap28) c28.ep (c28.nest : Int) c28.err c28.pos) 39 := by rw [hV]; exact (Blk.new W28 _ _).later ((Below.refl _ _).alloc (Nat.le_refl _) _)
          have KN0 : Blk W30 (W28.heap.size + 1) #[.int .i64 ek, .int .i64 ep, .int .i64 en, .string ⟨et.toArray⟩, .slice eq el ec] 25 := by rw [hV]; have h0 := Blk.new (W28.alloc (.cells (refC (.slice a28 ln28 cap28) c28.ep (c28.nest : Int) c28.err c28.pos) 39)) #[.int .i64 ek, .int .i64 ep, .int .i64 en, .string ⟨et.toArray⟩, .slice eq el ec] 25; simp only [World.size_alloc] at h0; exact h0
          have hz30 : W28.heap.size + 1 + 1 ≤ W30.heap.size := by rw [hV]; simp
          clear hV
          replace Kp := Kp.later hB
          replace Krc := Krc.later hB
          replace Krn := Krn.later hB
          replace Km := Km.later hB
          replace Te := Te.keeps (w' := W30) ⟨hB.size, fun k hk hkl => hB.block k hkl⟩
          replace Oo := Oo.keep (grownBy_below hB (some w.heap.size)) (by omega)
          replace Rd := Rd.below (hB.mono (Nat.le_trans hn hB29.size))
          replace Rq28 := Rq28.below (hB.mono (Nat.le_trans hn hB29.size))
          have hs31 := hB.size
          have hB31 := hB29.trans (hB.mono hB29.size)
          clear hB hB29
          have Kg := KC0
          clear KC0
          have Km2 := KN0
          clear KN0
          obtain ⟨⟨p0, p1, p2, p3, p4, p5, p6, p7⟩, pf0, pf1, pf2, pf3, pf4, pf5, pf6, pf7⟩ := cells8 Kp
          obtain ⟨⟨rc0, rc1, rc2, rc3, rc4, rc5, rc6, rc7⟩, rcf0, rcf1, rcf2, rcf3, rcf4, rcf5, rcf6, rcf7⟩ := cells8 Krc
          obtain ⟨⟨rn0, rn1, rn2, rn3, rn4⟩, rnf0, rnf1, rnf2, rnf3, rnf4⟩ := cells5 Krn
          obtain ⟨⟨m0, m1, m2, m3, m4⟩, mf0, mf1, mf2, mf3, mf4⟩ := cells5 Km
          obtain ⟨⟨g0, g1, g2, g3, g4, g5, g6, g7⟩, gf0, gf1, gf2, gf3, gf4, gf5, gf6, gf7⟩ := cells8 Kg
          obtain ⟨⟨m20, m21, m22, m23, m24⟩, m2f0, m2f1, m2f2, m2f3, m2f4⟩ := cells5 Km2
          obtain ⟨W32, hW32, KN, hP⟩ := c_put Kp (.slice a28 ln28 cap28) c28.ep (c28.nest : Int) c28.err c28.pos
          replace Krc := hP.blk Krc (by omega)
          replace Krn := hP.blk Krn (by omega)
          replace Km := hP.blk Km (by omega)
          replace Kg := hP.blk Kg (by omega)
          replace Km2 := hP.blk Km2 (by omega)
          replace Te := hP.node Te (by omega)
          replace Oo := Oo.keep hP.grown (by omega)
          replace Rd := hP.row Rd (by omega)
          replace Rq28 := hP.row Rq28 (by omega)
          have hs33 := hP.size
          have hB33 := hP.below _ _ (by omega) hB31
          clear hP hB31
          replace Kp := KN
          clear KN
          go_upto_region 9 with fail
          rw [← hW32]
          clear hW32
          clear p0 p1 p2 p3 p4 p5 p6 p7 pf0 pf1 pf2 pf3 pf4 pf5 pf6 pf7 rc0 rc1 rc2 rc3 rc4 rc5 rc6 rc7 rcf0 rcf1 rcf2 rcf3 rcf4 rcf5 rcf6 rcf7 rn0 rn1 rn2 rn3 rn4 rnf0 rnf1 rnf2 rnf3 rnf4 m0 m1 m2 m3 m4 mf0 mf1 mf2 mf3 mf4 g0 g1 g2 g3 g4 g5 g6 g7 gf0 gf1 gf2 gf3 gf4 gf5 gf6 gf7 m20 m21 m22 m23 m24 m2f0 m2f1 m2f2 m2f3 m2f4
          obtain ⟨⟨p0, p1, p2, p3, p4, p5, p6, p7⟩, pf0, pf1, pf2, pf3, pf4, pf5, pf6, pf7⟩ := cells8 Kp
          obtain ⟨⟨rc0, rc1, rc2, rc3, rc4, rc5, rc6, rc7⟩, rcf0, rcf1, rcf2, rcf3, rcf4, rcf5, rcf6, rcf7⟩ := cells8 Krc
          obtain ⟨⟨rn0, rn1, rn2, rn3, rn4⟩, rnf0, rnf1, rnf2, rnf3, rnf4⟩ := cells5 Krn
          obtain ⟨⟨m0, m1, m2, m3, m4⟩, mf0, mf1, mf2, mf3, mf4⟩ := cells5 Km
          obtain ⟨⟨g0, g1, g2, g3, g4, g5, g6, g7⟩, gf0, gf1, gf2, gf3, gf4, gf5, gf6, gf7⟩ := cells8 Kg
          obtain ⟨⟨m20, m21, m22, m23, m24⟩, m2f0, m2f1, m2f2, m2f3, m2f4⟩ := cells5 Km2
          obtain ⟨ds, e1, e2, e3⟩ := Oo
          have HE3 := Lib.hid e3
          have HE1 := Lib.hid e1
          clear e3 e1
          go_wp2_with (at_builtin; refine wpList_append_at rfl _ _ 23 rfl (W16.heap.size) 25 i0 _ 5 64 Try.underlying23 hi0 hz0 hz1 hz2 rfl (by decide) _ _ _ rfl (e2.alloc _) ⟨_, 0, none⟩ 1 1 (encN ⟨ek, ep, en, et, eq, el, ec⟩) rfl rfl (cells_of_new _ _ _ _ rfl) (encN_one _) ?_ ?_ ?_ ?_; (unfold maxLen; omega); omega; (simp; omega); intro v3 w3 ho3 hg3 hat3; have hal := (World.grownBy_alloc W32 (.cells #[.int .i64 ek, .int .i64 ep, .int .i64 en, .string ⟨et.toArray⟩, .slice eq el ec] 25) (Value.slice kp kl kc).ownBlock).andThen hg3 (fun j hj => .inr hj); have hat4 : v3.ownBlock = (Value.slice kp kl kc).ownBlock ∨ ∃ n, v3.ownBlock = some n ∧ W32.heap.size ≤ n := hat3.imp id fun e => ⟨_, e, by simp⟩; have HO3 := OwnRows.snoc HE1.out HE3.out (Te.mono fun b hb _ => ⟨by omega, fun e => by have := (HBK.out b e).2; omega⟩) ho3 hal hat4; obtain ⟨p3, cap3, q0⟩ := HO3.shape; have q3 : v3 = .slice p3 (ks.length + 1) cap3 := q0.trans (by rw [List.length_append]; rfl); clear q0; subst q3; have KM := (Km.later (w' := W32.alloc (.cells #[.int .i64 ek, .int .i64 ep, .int .i64 en, .string ⟨et.toArray⟩, .slice eq el ec] 25)) ((Below.refl _ _).alloc (Nat.le_refl _) _)).kept hg3 (fun e => by have := (HBK.out _ e.symm).1; omega); obtain ⟨⟨m0, m1, m2, m3, m4⟩, mf0, mf1, mf2, mf3, mf4⟩ := cells5 KM)
          have HB3 : Below w.heap.size W32 w3 := below_own hal (fun b hb => by have := (HBK.out b hb).1; omega) (by omega)
          have hP := Put.one w3 (W14.heap.size) 4 (.slice p3 (ks.length + 1) cap3)
          have KM2 := KM.set 4 (.slice p3 (ks.length + 1) cap3)
          replace Kp := hP.blk (Kp.kept hal (fun e => by have := (HBK.out _ e.symm).1; omega)) (by omega)
          replace Krc := hP.blk (Krc.kept hal (fun e => by have := (HBK.out _ e.symm).1; omega)) (by omega)
          replace Krn := hP.blk (Krn.kept hal (fun e => by have := (HBK.out _ e.symm).1; omega)) (by omega)
          have HX6 := Lib.hid (HFW.out hb)
          have hsz3 := hal.size
          have hsz4 := hP.size
          go_roundg gf
          case measure => omega
          case rel =>
            refine ⟨c28, ks ++ [(atomR rf d).2], a28, ln28, cap28, p3, _, cap3, ⟨?_, fun hb2 => ?_, ?_, ?_, hP.below _ _ (by omega) (hB33.trans HB3), by omega, Kp, Krc, Krn, KM2, hP.row (Rq28.below (HB3.mono hn)) (by omega), HO3.keep hP.grown (by omega)⟩⟩
            · rw [E28.out, ← HM.out, manyR_step hb]
            · have g1 := begins_err (by rw [← beginsR_eq]; exact hb2)
              have g2 := begins_lt (by rw [← beginsR_eq]; exact hb)
              have g3 := begins_err (by rw [← beginsR_eq]; exact hb)
              have g4 := HAT.out d (HKE.out g3) (by rw [← E28.out]; exact g1)
              have g5 := (HFA.out d HKD.out).ws
              rw [← E28.out] at g4 g5
              have g6 := HX6.out
              rw [g5]
              omega
            · rw [E28.out]; exact HFN.out.trans (HFA.out d HKD.out)
            · simp; omega
end Go.Proofs.Ytlammclbnihopaa.N7
