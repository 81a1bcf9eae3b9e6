/- The document's readers: the whole of it. -/
import Derived.Test.YtlammclbnihopaaPtyRefE
namespace Go.Proofs.Ytlammclbnihopaa.N7
open Go.RowKit N5 N6

attribute [local go_sem] fld0 fld1
def wholeO (c : Cu) (t : Nd) : Nd × Int × Int := if c.doneE = 0 then (if t.depth ≤ 100 then (t, 0, 0) else (zNd, t.pos, 2)) else (zNd, c.doneP, c.doneE)
def WholeTo (c : Cu) (d : NC) (t : Nd) (w : World) (e : Ending) (w' : World) : Prop :=
  ∃ d' : NC, e = .returned (.tuple #[d'.val, .int .i64 (wholeO c t).2.1, .int .i64 (wholeO c t).2.2]) ∧ ((d' = d ∧ (wholeO c t).1 = t) ∨ (d' = zN ∧ (wholeO c t).1 = zNd)) ∧ Below w.heap.size w w'
set_option maxRecDepth 100000 in
set_option maxHeartbeats 4000000 in
theorem refwhole_any {n : Nat} {S : Nat → Prop} {w : World} {x : Value} {c : Cu} {d : NC} {t : Nd} (h : RefIs n w x c) (hn : n ≤ w.heap.size) (hok : CuOk c) (ht : NodeAt S w d t) (hsz : c.doneE = 0 → t.size ≤ 1000000) : Calls Try.prog 35 #[x, d.val] w (WholeTo c d t w) := by
  have HSZ := Lib.hid hsz
  have HOK := Lib.hid hok
  clear hsz hok
  obtain ⟨a, ln, cap, rfl, hr, -⟩ := h.shape
  clear h
  obtain ⟨dk, dp, dn, dt, dq, dl, dc⟩ := d
  unfold NC.val
  have hp : dp = t.pos := ht.pos
  subst hp
  obtain ⟨tps, hps⟩ : ∃ q, q = t.pos := ⟨_, rfl⟩
  rw [← hps] at ht ⊢
  have HPS := Lib.hid hps
  clear hps
  obtain ⟨W1, hW1⟩ : ∃ W1, W1 = (((w.alloc (.cells (refC (.slice a ln cap) c.ep (c.nest : Int) c.err c.pos) 39)).alloc (.cells #[.int .i64 dk, .int .i64 tps, .int .i64 dn, .string ⟨dt.toArray⟩, .slice dq dl dc] 25)).alloc (.cells #[.int .i64 0, .int .i64 0, .int .i64 0, .string ⟨#[]⟩, .slice none 0 0] 25)) := ⟨_, rfl⟩
  have hsz : w.heap.size + 1 + 1 + 1 ≤ W1.heap.size := by rw [hW1]; simp
  have Kp : Blk W1 (w.heap.size) (refC (.slice a ln cap) c.ep (c.nest : Int) c.err c.pos) 39 := by rw [hW1]; have h0 := Blk.new w (refC (.slice a ln cap) c.ep (c.nest : Int) c.err c.pos) 39; (try simp only [World.size_alloc] at h0); exact ((h0.later ((Below.refl _ _).alloc (Nat.le_refl _) _)).later ((Below.refl _ _).alloc (Nat.le_refl _) _))
  have Km : Blk W1 (w.heap.size + 1) #[.int .i64 dk, .int .i64 tps, .int .i64 dn, .string ⟨dt.toArray⟩, .slice dq dl dc] 25 := by rw [hW1]; have h0 := Blk.new (w.alloc (.cells (refC (.slice a ln cap) c.ep (c.nest : Int) c.err c.pos) 39)) #[.int .i64 dk, .int .i64 tps, .int .i64 dn, .string ⟨dt.toArray⟩, .slice dq dl dc] 25; (try simp only [World.size_alloc] at h0); exact (h0.later ((Below.refl _ _).alloc (Nat.le_refl _) _))
  have Krn : Blk W1 (w.heap.size + 1 + 1) #[.int .i64 0, .int .i64 0, .int .i64 0, .string ⟨#[]⟩, .slice none 0 0] 25 := by rw [hW1]; have h0 := Blk.new ((w.alloc (.cells (refC (.slice a ln cap) c.ep (c.nest : Int) c.err c.pos) 39)).alloc (.cells #[.int .i64 dk, .int .i64 tps, .int .i64 dn, .string ⟨dt.toArray⟩, .slice dq dl dc] 25)) #[.int .i64 0, .int .i64 0, .int .i64 0, .string ⟨#[]⟩, .slice none 0 0] 25; (try simp only [World.size_alloc] at h0); exact h0
  have hB1 : Below w.heap.size w W1 := by rw [hW1]; exact ((((Below.refl _ w).alloc (by simp; try omega) _).alloc (by simp; try omega) _).alloc (by simp; try omega) _)
  have Rc : WRow n W1 (.slice a ln cap) (c.ws.drop c.at') := hr.out.below (hB1.mono hn)
  have HW1 := Lib.hid hW1
  clear hW1 hr
  go_enter Try.func35, Try.ntmps35
  go_upto_region 1 with fail
  rw [← HW1.out]
  clear HW1
  have Td := ht.keeps (w' := W1) ⟨hB1.size, fun k hk hkl => hB1.block k hkl⟩
  clear ht
  obtain ⟨dP, hdP⟩ : ∃ q, q = c.doneP := ⟨_, rfl⟩
  obtain ⟨dE, hdE⟩ : ∃ q, q = c.doneE := ⟨_, rfl⟩
  have HDP := Lib.hid hdP
  have HDE := Lib.hid hdE
  have HC := refdone_any (RefIs.mk Rc) (Nat.le_trans hn hB1.size) HOK.out
  rw [← hdP] at HC
  rw [← hdE] at HC
  obtain ⟨⟨p0, p1, p2, p3, p4, p5, p6, p7⟩, pf0, pf1, pf2, pf3, pf4, pf5, pf6, pf7⟩ := cells8 Kp
  obtain ⟨⟨m0, m1, m2, m3, m4⟩, -⟩ := cells5 Km
  obtain ⟨⟨rn0, rn1, rn2, rn3, rn4⟩, rnf0, rnf1, rnf2, rnf3, rnf4⟩ := cells5 Krn
  go_wp2_with fail
  refine HC.mono ?_; rintro e W2 ⟨rfl, hB⟩
  clear HC
  clear p0 p1 p2 p3 p4 p5 p6 p7 pf0 pf1 pf2 pf3 pf4 pf5 pf6 pf7 m0 m1 m2 m3 m4 rn0 rn1 rn2 rn3 rn4 rnf0 rnf1 rnf2 rnf3 rnf4
  replace Kp := Kp.later hB
  replace Km := Km.later hB
  replace Krn := Krn.later hB
  replace Td := Td.keeps (w' := W2) ⟨hB.size, fun k hk hkl => hB.block k hkl⟩
  replace Rc := Rc.below (hB.mono (Nat.le_trans hn hB1.size))
  have hs3 := hB.size
  have hB3 := hB1.trans (hB.mono hB1.size)
  clear hB hB1
  clear hdP hdE
  by_cases he : dE = 0
  case neg =>
    have hb : (dE != 0) = true := by rw [bne_iff_ne]; exact he
    have HQ : Hid (wholeO c t = (zNd, dP, dE)) := by show _ = _; unfold wholeO; rw [← HDE.out, ← HDP.out, if_neg he]
    clear he
    obtain ⟨⟨p0, p1, p2, p3, p4, p5, p6, p7⟩, pf0, pf1, pf2, pf3, pf4, pf5, pf6, pf7⟩ := cells8 Kp
    obtain ⟨⟨m0, m1, m2, m3, m4⟩, -⟩ := cells5 Km
    obtain ⟨⟨rn0, rn1, rn2, rn3, rn4⟩, rnf0, rnf1, rnf2, rnf3, rnf4⟩ := cells5 Krn
    obtain ⟨W4, hW4, KN, hP⟩ := n_put (z := zN) Krn zN
    replace Kp := hP.blk Kp (by omega)
    replace Km := hP.blk Km (by omega)
    replace Rc := hP.row Rc (by omega)
    have hs5 := hP.size
    have hB5 := hP.below _ _ (by omega) hB3
    clear hP hB3
    dsimp only [zN] at hW4 KN
    replace Krn := KN
    clear KN
    go_wp2_with fail
    rw [← hW4]
    obtain ⟨⟨z0, z1, z2, z3, z4⟩, -⟩ := cells5 Krn
    refine bodyPost_ret (v := .tuple #[NC.val zN, .int .i64 dP, .int .i64 dE]) (by simp [results, Try.results35, go_sem, z0, z1, z2, z3, z4, NC.val, zN]) rfl ⟨zN, by rw [HQ.out], by rw [HQ.out]; exact .inr ⟨rfl, rfl⟩, hB5⟩
  case pos =>
    subst he
    have hb : ((0 : Int) != 0) = false := rfl
    have HD := refdepth_any t S _ _ Td (HSZ.out HDE.out.symm)
    unfold NC.val at HD
    by_cases hd : t.depth ≤ 100
    case pos =>
      have HQ : Hid (wholeO c t = (t, 0, 0)) := by show _ = _; unfold wholeO; rw [← HDE.out, if_pos rfl, if_pos hd]
      have hd1 : ¬ (100 : Int) < (t.depth : Int) := by omega
      have hd2 : decide ((100 : Int) < (t.depth : Int)) = false := by simp [hd1]
      have HC := HD
      obtain ⟨⟨p0, p1, p2, p3, p4, p5, p6, p7⟩, pf0, pf1, pf2, pf3, pf4, pf5, pf6, pf7⟩ := cells8 Kp
      obtain ⟨⟨m0, m1, m2, m3, m4⟩, -⟩ := cells5 Km
      obtain ⟨⟨rn0, rn1, rn2, rn3, rn4⟩, rnf0, rnf1, rnf2, rnf3, rnf4⟩ := cells5 Krn
      go_wp2_with fail
      refine HC.mono ?_; rintro e W6 ⟨rfl, hB⟩
      clear HC
      clear p0 p1 p2 p3 p4 p5 p6 p7 pf0 pf1 pf2 pf3 pf4 pf5 pf6 pf7 m0 m1 m2 m3 m4 rn0 rn1 rn2 rn3 rn4 rnf0 rnf1 rnf2 rnf3 rnf4
      replace Kp := Kp.later hB
      replace Km := Km.later hB
      replace Krn := Krn.later hB
      replace Td := Td.keeps (w' := W6) ⟨hB.size, fun k hk hkl => hB.block k hkl⟩
      replace Rc := Rc.below (hB.mono (Nat.le_trans hn hB3.size))
      have hs7 := hB.size
      have hB7 := hB3.trans (hB.mono hB3.size)
      clear hB hB3
      obtain ⟨⟨p0, p1, p2, p3, p4, p5, p6, p7⟩, pf0, pf1, pf2, pf3, pf4, pf5, pf6, pf7⟩ := cells8 Kp
      obtain ⟨⟨m0, m1, m2, m3, m4⟩, -⟩ := cells5 Km
      obtain ⟨⟨rn0, rn1, rn2, rn3, rn4⟩, rnf0, rnf1, rnf2, rnf3, rnf4⟩ := cells5 Krn
      obtain ⟨W8, hW8, KN, hP⟩ := n_put (z := zN) Krn ⟨dk, tps, dn, dt, dq, dl, dc⟩
      replace Kp := hP.blk Kp (by omega)
      replace Km := hP.blk Km (by omega)
      replace Rc := hP.row Rc (by omega)
      have hs9 := hP.size
      have hB9 := hP.below _ _ (by omega) hB7
      clear hP hB7
      dsimp only [zN] at hW8 KN
      replace Krn := KN
      clear KN
      go_wp2_with fail
      rw [← hW8]
      obtain ⟨⟨z0, z1, z2, z3, z4⟩, -⟩ := cells5 Krn
      refine bodyPost_ret (v := .tuple #[NC.val ⟨dk, tps, dn, dt, dq, dl, dc⟩, .int .i64 0, .int .i64 0]) (by simp [results, Try.results35, go_sem, z0, z1, z2, z3, z4, NC.val]) rfl ⟨⟨dk, tps, dn, dt, dq, dl, dc⟩, by rw [HQ.out], by rw [HQ.out]; exact .inl ⟨rfl, rfl⟩, hB9⟩
    case neg =>
      have HQ : Hid (wholeO c t = (zNd, tps, 2)) := by show _ = _; unfold wholeO; rw [← HDE.out, if_pos rfl, if_neg hd, HPS.out]
      have hd1 : (100 : Int) < (t.depth : Int) := by omega
      have hd2 : decide ((100 : Int) < (t.depth : Int)) = true := by simp [hd1]
      have HC := HD
      obtain ⟨⟨p0, p1, p2, p3, p4, p5, p6, p7⟩, pf0, pf1, pf2, pf3, pf4, pf5, pf6, pf7⟩ := cells8 Kp
      obtain ⟨⟨m0, m1, m2, m3, m4⟩, -⟩ := cells5 Km
      obtain ⟨⟨rn0, rn1, rn2, rn3, rn4⟩, rnf0, rnf1, rnf2, rnf3, rnf4⟩ := cells5 Krn
      go_wp2_with fail
      refine HC.mono ?_; rintro e W10 ⟨rfl, hB⟩
      clear HC
      clear p0 p1 p2 p3 p4 p5 p6 p7 pf0 pf1 pf2 pf3 pf4 pf5 pf6 pf7 m0 m1 m2 m3 m4 rn0 rn1 rn2 rn3 rn4 rnf0 rnf1 rnf2 rnf3 rnf4
      replace Kp := Kp.later hB
      replace Km := Km.later hB
      replace Krn := Krn.later hB
      replace Td := Td.keeps (w' := W10) ⟨hB.size, fun k hk hkl => hB.block k hkl⟩
      replace Rc := Rc.below (hB.mono (Nat.le_trans hn hB3.size))
      have hs11 := hB.size
      have hB11 := hB3.trans (hB.mono hB3.size)
      clear hB hB3
      have n1 : w.heap.size + 1 ≠ w.heap.size + 1 + 1 := by omega
      obtain ⟨⟨p0, p1, p2, p3, p4, p5, p6, p7⟩, pf0, pf1, pf2, pf3, pf4, pf5, pf6, pf7⟩ := cells8 Kp
      obtain ⟨⟨m0, m1, m2, m3, m4⟩, -⟩ := cells5 Km
      obtain ⟨⟨rn0, rn1, rn2, rn3, rn4⟩, rnf0, rnf1, rnf2, rnf3, rnf4⟩ := cells5 Krn
      go_upto_region 5 with fail
      obtain ⟨W12, hW12, KN, hP⟩ := n_put (z := zN) Krn zN
      replace Kp := hP.blk Kp (by omega)
      replace Km := hP.blk Km (by omega)
      replace Rc := hP.row Rc (by omega)
      have hs13 := hP.size
      have hB13 := hP.below _ _ (by omega) hB11
      clear hP hB11
      dsimp only [zN] at hW12 KN
      replace Krn := KN
      clear KN
      go_region
      rw [← hW12]
      clear p0 p1 p2 p3 p4 p5 p6 p7 pf0 pf1 pf2 pf3 pf4 pf5 pf6 pf7 m0 m1 m2 m3 m4 rn0 rn1 rn2 rn3 rn4 rnf0 rnf1 rnf2 rnf3 rnf4
      obtain ⟨W14, hW14⟩ : ∃ x, x = W12.drew := ⟨_, rfl⟩
      have hB : Below W12.heap.size W12 W14 := by rw [hW14]; exact (Below.refl _ _).drew
      rw [← hW14]
      clear hW14
      replace Kp := Kp.later hB
      replace Km := Km.later hB
      replace Krn := Krn.later hB
      replace Rc := Rc.below (hB.mono (Nat.le_trans hn hB13.size))
      have hs15 := hB.size
      have hB15 := hB13.trans (hB.mono hB13.size)
      clear hB hB13
      go_wp2_with fail
      obtain ⟨⟨z0, z1, z2, z3, z4⟩, -⟩ := cells5 Krn
      refine bodyPost_ret (v := .tuple #[NC.val zN, .int .i64 tps, .int .i64 2]) (by simp [results, Try.results35, go_sem, z0, z1, z2, z3, z4, NC.val, zN]) rfl ⟨zN, by rw [HQ.out], by rw [HQ.out]; exact .inr ⟨rfl, rfl⟩, hB15⟩
end Go.Proofs.Ytlammclbnihopaa.N7
