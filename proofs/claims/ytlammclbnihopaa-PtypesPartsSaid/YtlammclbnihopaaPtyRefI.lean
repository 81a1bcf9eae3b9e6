/- The document's readers: contexts. -/
import Derived.Test.YtlammclbnihopaaPtyRefD
import Derived.Test.YtlammclbnihopaaCurC
namespace Go.Proofs.Ytlammclbnihopaa.N7
open Go.RowKit N5 N6

attribute [local go_sem] fld0 fld1
/-- what a reader of rows of the document leaves: a state, a row of trees of its own -/
def RefReadL (n : Nat) (o : Cu × List Nd) (w : World) (e : Ending) (w' : World) : Prop :=
  ∃ (x v : Value), e = .returned (.tuple #[x, v]) ∧ RefIs n w' x o.1 ∧ OwnRows w.heap.size w' v o.2 ∧ Below w.heap.size w w'
theorem refahead_l {n : Nat} {w : World} {x : Value} {c : Cu} (h : RefIs n w x c) (hn : n ≤ w.heap.size) (hok : CuOk c) (l : List UInt8) : Calls Try.prog 47 #[x, .string ⟨l.toArray⟩] w (N5.RunsTo (c.ahead l) w) := by
  have := refahead_any h hn hok ⟨l.toArray⟩
  simpa using this
/-- what the loop of Preds keeps -/
structure PredSt (n : Nat) (w : World) (qb LB F k : Nat) (rf : Cu → Cu × Nd) (c : Cu) (gk : Nat) (d : Cu) (ks : List Nd) (mo : Bool) (u val : Value) (W : World) : Prop where
  eq : (if mo = true then commasR (predR rf) gk d ks else (d, ks)) = commasR (predR rf) F (c.take [40]) []
  few : mo = true → d.ws.length - d.at' < gk
  fine : Fine (c.take [40]) d
  sum : ks.length + gk ≤ F
  bel : Below w.heap.size w W
  low : LB ≤ W.heap.size
  rcb : Blk W (w.heap.size + 1) (refC (.slice none 0 0) 0 0 0 0) 39
  qqb : Blk W qb (refC u d.ep (d.nest : Int) d.err d.pos) 39
  row : WRow n W u (d.ws.drop d.at')
  own : OwnRows LB W val ks
theorem commasR_step {rd : Cu → Cu × Nd} {f : Nat} {c : Cu} {l : List Nd} : commasR rd (f + 1) c l = if (rd c).1.is [44] = true then commasR rd f ((rd c).1.take [44]) (l ++ [(rd c).2]) else ((rd c).1, l ++ [(rd c).2]) := rfl
set_option maxRecDepth 100000 in
set_option maxHeartbeats 4000000 in
theorem refpreds_any {rf : Cu → Cu × Nd} {n k : Nat} {w : World} {x : Value} {c : Cu} (h : RefIs n w x c) (hn : n ≤ w.heap.size) (hok : CuOk c) (hfp : ∀ d, 200 ≤ d.nest + (k + 1) ∨ d.err ≠ 0 → Fine d (predR rf d).1) (hpred : ∀ (d : Cu) (W : World) (x : Value), 200 ≤ d.nest + (k + 1) ∨ d.err ≠ 0 → CuOk d → RefIs n W x d → n ≤ W.heap.size → Calls Try.prog 49 #[x] W (RefRead n (predR rf d) W)) (hk : 200 ≤ c.nest + (k + 1) ∨ c.err ≠ 0) : Calls Try.prog 19 #[x] w (RefReadL n (predsR rf c) w) := by
  have HP := Lib.hid hpred
  have HK := Lib.hid hk
  have HOK := Lib.hid hok
  have HF := Lib.hid hfp
  obtain ⟨i0, hi0, hz0, hz1, hz2⟩ := info_parts infoNode
  have hfw := hok.few
  clear hpred hk hok hfp
  obtain ⟨a, ln, cap, rfl, hr, -⟩ := h.shape
  clear h
  obtain ⟨W1, hW1⟩ : ∃ W1, W1 = ((w.alloc (.cells (refC (.slice a ln cap) c.ep (c.nest : Int) c.err c.pos) 39)).alloc (.cells (refC (.slice none 0 0) 0 0 0 0) 39)) := ⟨_, rfl⟩
  have hsz : w.heap.size + 1 + 1 ≤ W1.heap.size := by rw [hW1]; simp
  have Kp : Blk W1 (w.heap.size) (refC (.slice a ln cap) c.ep (c.nest : Int) c.err c.pos) 39 := by rw [hW1]; have h0 := Blk.new w (refC (.slice a ln cap) c.ep (c.nest : Int) c.err c.pos) 39; (try simp only [World.size_alloc] at h0); exact (h0.later ((Below.refl _ _).alloc (Nat.le_refl _) _))
  have Krc : Blk W1 (w.heap.size + 1) (refC (.slice none 0 0) 0 0 0 0) 39 := by rw [hW1]; have h0 := Blk.new (w.alloc (.cells (refC (.slice a ln cap) c.ep (c.nest : Int) c.err c.pos) 39)) (refC (.slice none 0 0) 0 0 0 0) 39; (try simp only [World.size_alloc] at h0); exact h0
  have hB1 : Below w.heap.size w W1 := by rw [hW1]; exact (((Below.refl _ w).alloc (by simp; try omega) _).alloc (by simp; try omega) _)
  have Rc : WRow n W1 (.slice a ln cap) (c.ws.drop c.at') := hr.out.below (hB1.mono hn)
  have HW1 := Lib.hid hW1
  clear hW1 hr
  go_enter Try.func19, Try.ntmps19
  go_upto_region 1 with fail
  rw [← HW1.out]
  clear HW1
  cases ha : c.ahead [61, 62] with
  | false =>
    have HQ : Hid (predsR rf c = (c, [])) := by show _ = _; unfold predsR; rw [ha]; rfl
    have HC := refahead_l (RefIs.mk Rc) (Nat.le_trans hn hB1.size) HOK.out [61, 62]
    rw [ha] at HC
    obtain ⟨⟨p0, p1, p2, p3, p4, p5, p6, p7⟩, pf0, pf1, pf2, pf3, pf4, pf5, pf6, pf7⟩ := cells8 Kp
    obtain ⟨⟨rc0, rc1, rc2, rc3, rc4, rc5, rc6, rc7⟩, rcf0, rcf1, rcf2, rcf3, rcf4, rcf5, rcf6, rcf7⟩ := cells8 Krc
    go_wp2_with fail
    refine HC.mono ?_; rintro e W2 ⟨rfl, hB⟩
    clear HC
    clear p0 p1 p2 p3 p4 p5 p6 p7 pf0 pf1 pf2 pf3 pf4 pf5 pf6 pf7 rc0 rc1 rc2 rc3 rc4 rc5 rc6 rc7 rcf0 rcf1 rcf2 rcf3 rcf4 rcf5 rcf6 rcf7
    replace Kp := Kp.later hB
    replace Krc := Krc.later hB
    replace Rc := Rc.below (hB.mono (Nat.le_trans hn hB1.size))
    have hs3 := hB.size
    have hB3 := hB1.trans (hB.mono hB1.size)
    clear hB hB1
    obtain ⟨⟨p0, p1, p2, p3, p4, p5, p6, p7⟩, pf0, pf1, pf2, pf3, pf4, pf5, pf6, pf7⟩ := cells8 Kp
    obtain ⟨⟨rc0, rc1, rc2, rc3, rc4, rc5, rc6, rc7⟩, rcf0, rcf1, rcf2, rcf3, rcf4, rcf5, rcf6, rcf7⟩ := cells8 Krc
    obtain ⟨W4, hW4, KN, hP⟩ := c_put Krc (.slice a ln cap) c.ep (c.nest : Int) c.err c.pos
    replace Kp := hP.blk Kp (by omega)
    replace Rc := hP.row Rc (by omega)
    have hs5 := hP.size
    have hB5 := hP.below _ _ (by omega) hB3
    clear hP hB3
    replace Krc := KN
    clear KN
    go_wp2_with fail
    rw [← hW4]
    obtain ⟨⟨y0, y1, y2, y3, y4, y5, y6, y7⟩, -⟩ := cells8 Krc
    refine bodyPost_ret (v := .tuple #[.agg (refC (.slice a ln cap) c.ep (c.nest : Int) c.err c.pos), .slice none 0 0]) (by simp [results, Try.results19, go_sem, y0, y1, y2, y3, y4, y5, y6, y7]) rfl ⟨_, _, rfl, ?_, ?_, hB5⟩
    · rw [HQ.out]; exact RefIs.mk Rc
    · rw [HQ.out]; exact .nil
  | true =>
    have HA : Hid (predsR rf c = ((predsR0 rf c).1.want [61, 62], (predsR0 rf c).2)) := by show _ = _; unfold predsR; rw [if_pos ha]
    have HC := refahead_l (RefIs.mk Rc) (Nat.le_trans hn hB1.size) HOK.out [61, 62]
    rw [ha] at HC
    obtain ⟨⟨p0, p1, p2, p3, p4, p5, p6, p7⟩, pf0, pf1, pf2, pf3, pf4, pf5, pf6, pf7⟩ := cells8 Kp
    obtain ⟨⟨rc0, rc1, rc2, rc3, rc4, rc5, rc6, rc7⟩, rcf0, rcf1, rcf2, rcf3, rcf4, rcf5, rcf6, rcf7⟩ := cells8 Krc
    go_wp2_with fail
    refine HC.mono ?_; rintro e W6 ⟨rfl, hB⟩
    clear HC
    clear p0 p1 p2 p3 p4 p5 p6 p7 pf0 pf1 pf2 pf3 pf4 pf5 pf6 pf7 rc0 rc1 rc2 rc3 rc4 rc5 rc6 rc7 rcf0 rcf1 rcf2 rcf3 rcf4 rcf5 rcf6 rcf7
    replace Kp := Kp.later hB
    replace Krc := Krc.later hB
    replace Rc := Rc.below (hB.mono (Nat.le_trans hn hB1.size))
    have hs7 := hB.size
    have hB7 := hB1.trans (hB.mono hB1.size)
    clear hB hB1
    cases hi : c.is [40] with
    | false =>
      have HQ : Hid (predsR rf c = ((predR rf c).1.want [61, 62], [(predR rf c).2])) := by show _ = _; rw [HA.out]; unfold predsR0; rw [if_neg (by rw [hi]; decide)]
      have HC := reftake_l (RefIs.mk Rc) (Nat.le_trans hn hB7.size) [40]
      rw [hi] at HC
      rw [take_not (by rw [hi]; decide)] at HC
      obtain ⟨⟨p0, p1, p2, p3, p4, p5, p6, p7⟩, pf0, pf1, pf2, pf3, pf4, pf5, pf6, pf7⟩ := cells8 Kp
      obtain ⟨⟨rc0, rc1, rc2, rc3, rc4, rc5, rc6, rc7⟩, rcf0, rcf1, rcf2, rcf3, rcf4, rcf5, rcf6, rcf7⟩ := cells8 Krc
      go_wp2_with fail
      refine HC.mono ?_; rintro e W8 ⟨x', rfl, hx, hB⟩
      clear HC
      obtain ⟨a8, ln8, cap8, rfl, hRq, -⟩ := hx.shape
      have Rq8 := hRq.out
      clear hx hRq
      clear p0 p1 p2 p3 p4 p5 p6 p7 pf0 pf1 pf2 pf3 pf4 pf5 pf6 pf7 rc0 rc1 rc2 rc3 rc4 rc5 rc6 rc7 rcf0 rcf1 rcf2 rcf3 rcf4 rcf5 rcf6 rcf7
      replace Kp := Kp.later hB
      replace Krc := Krc.later hB
      replace Rc := Rc.below (hB.mono (Nat.le_trans hn hB7.size))
      have hs9 := hB.size
      have hB9 := hB7.trans (hB.mono hB7.size)
      clear hB hB7
      clear hi
      go_upto_region 6 with fail
      obtain ⟨W10, hW10⟩ : ∃ x, x = W8.alloc (.cells (refC (.slice a8 ln8 cap8) c.ep (c.nest : Int) c.err c.pos) 39) := ⟨_, rfl⟩
      rw [← hW10]
      have hB : Below W8.heap.size W8 W10 := by rw [hW10]; exact (Below.refl _ _).alloc (Nat.le_refl _) _
      have KN : Blk W10 W8.heap.size (refC (.slice a8 ln8 cap8) c.ep (c.nest : Int) c.err c.pos) 39 := by rw [hW10]; exact Blk.new W8 _ _
      have hz10 : W8.heap.size + 1 ≤ W10.heap.size := by rw [hW10]; simp
      clear hW10
      replace Kp := Kp.later hB
      replace Krc := Krc.later hB
      replace Rc := Rc.below (hB.mono (Nat.le_trans hn hB9.size))
      replace Rq8 := Rq8.below (hB.mono (Nat.le_trans hn hB9.size))
      have hs11 := hB.size
      have hB11 := hB9.trans (hB.mono hB9.size)
      clear hB hB9
      have Kq := KN
      clear KN
      have HC := HP.out _ _ _ HK.out HOK.out (RefIs.mk Rc) (Nat.le_trans hn hB11.size)
      obtain ⟨c12, hE⟩ : ∃ q, q = (predR rf c).1 := ⟨_, rfl⟩
      have E12 := Lib.hid hE
      clear hE
      obtain ⟨⟨p0, p1, p2, p3, p4, p5, p6, p7⟩, pf0, pf1, pf2, pf3, pf4, pf5, pf6, pf7⟩ := cells8 Kp
      obtain ⟨⟨rc0, rc1, rc2, rc3, rc4, rc5, rc6, rc7⟩, rcf0, rcf1, rcf2, rcf3, rcf4, rcf5, rcf6, rcf7⟩ := cells8 Krc
      obtain ⟨⟨q0, q1, q2, q3, q4, q5, q6, q7⟩, qf0, qf1, qf2, qf3, qf4, qf5, qf6, qf7⟩ := cells8 Kq
      go_wp2_with fail
      refine HC.mono ?_; rintro e W12 ⟨x', e, rfl, hx, he, hB⟩
      clear HC
      rw [← E12.out] at hx
      obtain ⟨a12, ln12, cap12, rfl, hRq, -⟩ := hx.shape
      have Rq12 := hRq.out
      clear hx hRq
      clear p0 p1 p2 p3 p4 p5 p6 p7 pf0 pf1 pf2 pf3 pf4 pf5 pf6 pf7 rc0 rc1 rc2 rc3 rc4 rc5 rc6 rc7 rcf0 rcf1 rcf2 rcf3 rcf4 rcf5 rcf6 rcf7 q0 q1 q2 q3 q4 q5 q6 q7 qf0 qf1 qf2 qf3 qf4 qf5 qf6 qf7
      replace Kp := Kp.later hB
      replace Krc := Krc.later hB
      replace Kq := Kq.later hB
      replace Rq8 := Rq8.below (hB.mono (Nat.le_trans hn hB11.size))
      replace Rc := Rc.below (hB.mono (Nat.le_trans hn hB11.size))
      have hs13 := hB.size
      have hB13 := hB11.trans (hB.mono hB11.size)
      clear hB hB11
      rw [← E12.out] at HQ
      obtain ⟨ek, ep, en, et, eq, el, ec⟩ := e
      unfold NC.val
      have Te := he.mono (S' := (fun q => w.heap.size + 1 + 1 ≤ q ∧ q ≠ W8.heap.size)) fun q hq hl => ⟨by omega, by omega⟩
      clear he
      go_upto_region 7 with fail
      replace Te := Te.mono (S' := (fun q => w.heap.size + 1 + 1 ≤ q ∧ q ≠ W8.heap.size ∧ q ≠ W12.heap.size ∧ q ≠ W12.heap.size + 1)) fun q hq hl => ⟨by omega, by omega, by omega, by omega⟩
      obtain ⟨W14, hV⟩ : ∃ x, x = (W12.alloc (.cells (refC (.slice a12 ln12 cap12) c12.ep (c12.nest : Int) c12.err c12.pos) 39)).alloc (.cells #[.int .i64 ek, .int .i64 ep, .int .i64 en, .string ⟨et.toArray⟩, .slice eq el ec] 25) := ⟨_, rfl⟩
      rw [← hV]
      have hB : Below W12.heap.size W12 W14 := by rw [hV]; exact ((Below.refl _ _).alloc (Nat.le_refl _) _).alloc (by simp) _
      have KC0 : Blk W14 (W12.heap.size) (refC (.slice a12 ln12 cap12) c12.ep (c12.nest : Int) c12.err c12.pos) 39 := by rw [hV]; exact (Blk.new W12 _ _).later ((Below.refl _ _).alloc (Nat.le_refl _) _)
      have KN0 : Blk W14 (W12.heap.size + 1) #[.int .i64 ek, .int .i64 ep, .int .i64 en, .string ⟨et.toArray⟩, .slice eq el ec] 25 := by rw [hV]; have h0 := Blk.new (W12.alloc (.cells (refC (.slice a12 ln12 cap12) c12.ep (c12.nest : Int) c12.err c12.pos) 39)) #[.int .i64 ek, .int .i64 ep, .int .i64 en, .string ⟨et.toArray⟩, .slice eq el ec] 25; simp only [World.size_alloc] at h0; exact h0
      have hz14 : W12.heap.size + 1 + 1 ≤ W14.heap.size := by rw [hV]; simp
      clear hV
      replace Kp := Kp.later hB
      replace Krc := Krc.later hB
      replace Kq := Kq.later hB
      replace Te := Te.keeps (w' := W14) ⟨hB.size, fun k hk hkl => hB.block k hkl⟩
      replace Rq8 := Rq8.below (hB.mono (Nat.le_trans hn hB13.size))
      replace Rc := Rc.below (hB.mono (Nat.le_trans hn hB13.size))
      replace Rq12 := Rq12.below (hB.mono (Nat.le_trans hn hB13.size))
      have hs15 := hB.size
      have hB15 := hB13.trans (hB.mono hB13.size)
      clear hB hB13
      have Kg := KC0
      clear KC0
      have Km2 := KN0
      clear KN0
      have HC := refwant_l (RefIs.mk Rq12) (Nat.le_trans hn hB15.size) [61, 62]
      obtain ⟨c16, hE⟩ : ∃ q, q = c12.want [61, 62] := ⟨_, rfl⟩
      rw [← hE] at HC
      have E16 := Lib.hid hE
      clear hE
      obtain ⟨⟨p0, p1, p2, p3, p4, p5, p6, p7⟩, pf0, pf1, pf2, pf3, pf4, pf5, pf6, pf7⟩ := cells8 Kp
      obtain ⟨⟨rc0, rc1, rc2, rc3, rc4, rc5, rc6, rc7⟩, rcf0, rcf1, rcf2, rcf3, rcf4, rcf5, rcf6, rcf7⟩ := cells8 Krc
      obtain ⟨⟨q0, q1, q2, q3, q4, q5, q6, q7⟩, qf0, qf1, qf2, qf3, qf4, qf5, qf6, qf7⟩ := cells8 Kq
      obtain ⟨⟨g0, g1, g2, g3, g4, g5, g6, g7⟩, gf0, gf1, gf2, gf3, gf4, gf5, gf6, gf7⟩ := cells8 Kg
      obtain ⟨⟨m20, m21, m22, m23, m24⟩, m2f0, m2f1, m2f2, m2f3, m2f4⟩ := cells5 Km2
      go_wp2_with fail
      refine HC.mono ?_; rintro e W16 ⟨x', rfl, hx, hB⟩
      clear HC
      obtain ⟨a16, ln16, cap16, rfl, hRq, -⟩ := hx.shape
      have Rq16 := hRq.out
      clear hx hRq
      clear p0 p1 p2 p3 p4 p5 p6 p7 pf0 pf1 pf2 pf3 pf4 pf5 pf6 pf7 rc0 rc1 rc2 rc3 rc4 rc5 rc6 rc7 rcf0 rcf1 rcf2 rcf3 rcf4 rcf5 rcf6 rcf7 q0 q1 q2 q3 q4 q5 q6 q7 qf0 qf1 qf2 qf3 qf4 qf5 qf6 qf7 g0 g1 g2 g3 g4 g5 g6 g7 gf0 gf1 gf2 gf3 gf4 gf5 gf6 gf7 m20 m21 m22 m23 m24 m2f0 m2f1 m2f2 m2f3 m2f4
      replace Kp := Kp.later hB
      replace Krc := Krc.later hB
      replace Kq := Kq.later hB
      replace Kg := Kg.later hB
      replace Km2 := Km2.later hB
      replace Te := Te.keeps (w' := W16) ⟨hB.size, fun k hk hkl => hB.block k hkl⟩
      replace Rq8 := Rq8.below (hB.mono (Nat.le_trans hn hB15.size))
      replace Rc := Rc.below (hB.mono (Nat.le_trans hn hB15.size))
      replace Rq12 := Rq12.below (hB.mono (Nat.le_trans hn hB15.size))
      have hs17 := hB.size
      have hB17 := hB15.trans (hB.mono hB15.size)
      clear hB hB15
      rw [← E16.out] at HQ
      obtain ⟨⟨p0, p1, p2, p3, p4, p5, p6, p7⟩, pf0, pf1, pf2, pf3, pf4, pf5, pf6, pf7⟩ := cells8 Kp
      obtain ⟨⟨rc0, rc1, rc2, rc3, rc4, rc5, rc6, rc7⟩, rcf0, rcf1, rcf2, rcf3, rcf4, rcf5, rcf6, rcf7⟩ := cells8 Krc
      obtain ⟨⟨q0, q1, q2, q3, q4, q5, q6, q7⟩, qf0, qf1, qf2, qf3, qf4, qf5, qf6, qf7⟩ := cells8 Kq
      obtain ⟨⟨g0, g1, g2, g3, g4, g5, g6, g7⟩, gf0, gf1, gf2, gf3, gf4, gf5, gf6, gf7⟩ := cells8 Kg
      obtain ⟨⟨m20, m21, m22, m23, m24⟩, m2f0, m2f1, m2f2, m2f3, m2f4⟩ := cells5 Km2
      obtain ⟨W18, hW18, KN, hP⟩ := c_put Kg (.slice a16 ln16 cap16) c16.ep (c16.nest : Int) c16.err c16.pos
      replace Kp := hP.blk Kp (by omega)
      replace Krc := hP.blk Krc (by omega)
      replace Kq := hP.blk Kq (by omega)
      replace Km2 := hP.blk Km2 (by omega)
      replace Te := hP.node Te (by omega)
      replace Rq8 := hP.row Rq8 (by omega)
      replace Rc := hP.row Rc (by omega)
      replace Rq12 := hP.row Rq12 (by omega)
      replace Rq16 := hP.row Rq16 (by omega)
      have hs19 := hP.size
      have hB19 := hP.below _ _ (by omega) hB17
      clear hP hB17
      replace Kg := KN
      clear KN
      go_upto_region 8 with fail
      rw [← hW18]
      clear hW18
      clear p0 p1 p2 p3 p4 p5 p6 p7 pf0 pf1 pf2 pf3 pf4 pf5 pf6 pf7 rc0 rc1 rc2 rc3 rc4 rc5 rc6 rc7 rcf0 rcf1 rcf2 rcf3 rcf4 rcf5 rcf6 rcf7 q0 q1 q2 q3 q4 q5 q6 q7 qf0 qf1 qf2 qf3 qf4 qf5 qf6 qf7 g0 g1 g2 g3 g4 g5 g6 g7 gf0 gf1 gf2 gf3 gf4 gf5 gf6 gf7 m20 m21 m22 m23 m24 m2f0 m2f1 m2f2 m2f3 m2f4
      have ltp : w.heap.size < W18.heap.size := by omega
      have ltrc : w.heap.size + 1 < W18.heap.size := by omega
      have ltq : W8.heap.size < W18.heap.size := by omega
      have ltg : W12.heap.size < W18.heap.size := by omega
      have ltm2 : W12.heap.size + 1 < W18.heap.size := by omega
      have d2 : W12.heap.size ≠ w.heap.size + 1 := by omega
      have d3 : W12.heap.size + 1 ≠ w.heap.size + 1 := by omega
      obtain ⟨⟨p0, p1, p2, p3, p4, p5, p6, p7⟩, pf0, pf1, pf2, pf3, pf4, pf5, pf6, pf7⟩ := cells8 Kp
      obtain ⟨⟨rc0, rc1, rc2, rc3, rc4, rc5, rc6, rc7⟩, rcf0, rcf1, rcf2, rcf3, rcf4, rcf5, rcf6, rcf7⟩ := cells8 Krc
      obtain ⟨⟨q0, q1, q2, q3, q4, q5, q6, q7⟩, qf0, qf1, qf2, qf3, qf4, qf5, qf6, qf7⟩ := cells8 Kq
      obtain ⟨⟨g0, g1, g2, g3, g4, g5, g6, g7⟩, gf0, gf1, gf2, gf3, gf4, gf5, gf6, gf7⟩ := cells8 Kg
      obtain ⟨⟨m20, m21, m22, m23, m24⟩, m2f0, m2f1, m2f2, m2f3, m2f4⟩ := cells5 Km2
      obtain ⟨W20, hW20, KN, hP⟩ := c_put Krc (.slice a16 ln16 cap16) c16.ep (c16.nest : Int) c16.err c16.pos
      replace Kp := hP.blk Kp (by omega)
      replace Kq := hP.blk Kq (by omega)
      replace Kg := hP.blk Kg (by omega)
      replace Km2 := hP.blk Km2 (by omega)
      replace Te := hP.node Te (by omega)
      replace Rq8 := hP.row Rq8 (by omega)
      replace Rc := hP.row Rc (by omega)
      replace Rq12 := hP.row Rq12 (by omega)
      replace Rq16 := hP.row Rq16 (by omega)
      have hs21 := hP.size
      have hB21 := hP.below _ _ (by omega) hB19
      clear hP hB19
      replace Krc := KN
      clear KN
      replace Te := Te.mono (S' := fun q => w.heap.size + 1 + 1 ≤ q ∧ q < W20.heap.size) fun q hq hl => ⟨by omega, hl⟩
      obtain ⟨W22, hW22⟩ : ∃ x, x = W20.alloc (.cells #[.int .i64 ek, .int .i64 ep, .int .i64 en, .string ⟨et.toArray⟩, .slice eq el ec] 25) := ⟨_, rfl⟩
      have hB : Below W20.heap.size W20 W22 := by rw [hW22]; exact (Below.refl _ _).alloc (Nat.le_refl _) _
      have KL : Blk W22 W20.heap.size #[.int .i64 ek, .int .i64 ep, .int .i64 en, .string ⟨et.toArray⟩, .slice eq el ec] 25 := by rw [hW22]; exact Blk.new W20 _ _
      have hs : W20.heap.size = W18.heap.size := by rw [hW20]; simp
      replace Kp := Kp.later hB
      replace Krc := Krc.later hB
      replace Kq := Kq.later hB
      replace Kg := Kg.later hB
      replace Km2 := Km2.later hB
      replace Te := Te.keeps (w' := W22) ⟨hB.size, fun k hk hkl => hB.block k hkl⟩
      replace Rq8 := Rq8.below (hB.mono (Nat.le_trans hn hB21.size))
      replace Rc := Rc.below (hB.mono (Nat.le_trans hn hB21.size))
      replace Rq12 := Rq12.below (hB.mono (Nat.le_trans hn hB21.size))
      replace Rq16 := Rq16.below (hB.mono (Nat.le_trans hn hB21.size))
      have hs23 := hB.size
      have hB23 := hB21.trans (hB.mono hB21.size)
      clear hB hB21
      go_region
      rw [← hW20, ← hW22]
      obtain ⟨W24, hV⟩ : ∃ x, x = W22.drew := ⟨_, rfl⟩
      have hB : Below W22.heap.size W22 W24 := by rw [hV]; exact (Below.refl _ _).drew
      rw [← hV]
      clear hV
      replace KL := KL.later hB
      replace Kp := Kp.later hB
      replace Krc := Krc.later hB
      replace Kq := Kq.later hB
      replace Kg := Kg.later hB
      replace Km2 := Km2.later hB
      replace Te := Te.keeps (w' := W24) ⟨hB.size, fun k hk hkl => hB.block k hkl⟩
      replace Rq8 := Rq8.below (hB.mono (Nat.le_trans hn hB23.size))
      replace Rc := Rc.below (hB.mono (Nat.le_trans hn hB23.size))
      replace Rq12 := Rq12.below (hB.mono (Nat.le_trans hn hB23.size))
      replace Rq16 := Rq16.below (hB.mono (Nat.le_trans hn hB23.size))
      have hs25 := hB.size
      have hB25 := hB23.trans (hB.mono hB23.size)
      clear hB hB23
      go_wp2_with fail
      obtain ⟨⟨y0, y1, y2, y3, y4, y5, y6, y7⟩, -⟩ := cells8 Krc
      refine bodyPost_ret (v := .tuple #[.agg (refC (.slice a16 ln16 cap16) c16.ep (c16.nest : Int) c16.err c16.pos), .slice (some ⟨W18.heap.size, 0, none⟩) 1 1]) (by simp [results, Try.results19, go_sem, y0, y1, y2, y3, y4, y5, y6, y7]) rfl ⟨_, _, rfl, ?_, ?_, hB25⟩
      · rw [HQ.out]; exact RefIs.mk Rq16
      · rw [HQ.out]; rw [hs] at KL; exact OwnRows.one KL (by omega) (Te.mono fun q hq _ => ⟨by omega, by omega⟩)
    | true =>
      have HC := reftake_l (RefIs.mk Rc) (Nat.le_trans hn hB7.size) [40]
      obtain ⟨c26, hE⟩ : ∃ q, q = c.take [40] := ⟨_, rfl⟩
      rw [← hE] at HC
      rw [hi] at HC
      have E26 := Lib.hid hE
      clear hE
      obtain ⟨⟨p0, p1, p2, p3, p4, p5, p6, p7⟩, pf0, pf1, pf2, pf3, pf4, pf5, pf6, pf7⟩ := cells8 Kp
      obtain ⟨⟨rc0, rc1, rc2, rc3, rc4, rc5, rc6, rc7⟩, rcf0, rcf1, rcf2, rcf3, rcf4, rcf5, rcf6, rcf7⟩ := cells8 Krc
      go_wp2_with fail
      refine HC.mono ?_; rintro e W26 ⟨x', rfl, hx, hB⟩
      clear HC
      obtain ⟨a26, ln26, cap26, rfl, hRq, -⟩ := hx.shape
      have Rq26 := hRq.out
      clear hx hRq
      clear p0 p1 p2 p3 p4 p5 p6 p7 pf0 pf1 pf2 pf3 pf4 pf5 pf6 pf7 rc0 rc1 rc2 rc3 rc4 rc5 rc6 rc7 rcf0 rcf1 rcf2 rcf3 rcf4 rcf5 rcf6 rcf7
      replace Kp := Kp.later hB
      replace Krc := Krc.later hB
      replace Rc := Rc.below (hB.mono (Nat.le_trans hn hB7.size))
      have hs27 := hB.size
      have hB27 := hB7.trans (hB.mono hB7.size)
      clear hB hB7
      go_upto_region 9 with fail
      obtain ⟨W28, hW28⟩ : ∃ x, x = W26.alloc (.cells (refC (.slice a26 ln26 cap26) c26.ep (c26.nest : Int) c26.err c26.pos) 39) := ⟨_, rfl⟩
      rw [← hW28]
      have hB : Below W26.heap.size W26 W28 := by rw [hW28]; exact (Below.refl _ _).alloc (Nat.le_refl _) _
      have KN : Blk W28 W26.heap.size (refC (.slice a26 ln26 cap26) c26.ep (c26.nest : Int) c26.err c26.pos) 39 := by rw [hW28]; exact Blk.new W26 _ _
      have hz28 : W26.heap.size + 1 ≤ W28.heap.size := by rw [hW28]; simp
      clear hW28
      replace Kp := Kp.later hB
      replace Krc := Krc.later hB
      replace Rc := Rc.below (hB.mono (Nat.le_trans hn hB27.size))
      replace Rq26 := Rq26.below (hB.mono (Nat.le_trans hn hB27.size))
      have hs29 := hB.size
      have hB29 := hB27.trans (hB.mono hB27.size)
      clear hB hB27
      have Kq := KN
      clear KN
      cases h3 : c26.is [41] with
      | true =>
        have HQ : Hid (predsR rf c = ((c26.want [41]).want [61, 62], [])) := by show _ = _; rw [HA.out]; unfold predsR0; rw [if_pos hi, ← E26.out, if_pos h3]
        have HC := refis_l (RefIs.mk Rq26) (Nat.le_trans hn hB29.size) [41]
        rw [h3] at HC
        obtain ⟨⟨p0, p1, p2, p3, p4, p5, p6, p7⟩, pf0, pf1, pf2, pf3, pf4, pf5, pf6, pf7⟩ := cells8 Kp
        obtain ⟨⟨rc0, rc1, rc2, rc3, rc4, rc5, rc6, rc7⟩, rcf0, rcf1, rcf2, rcf3, rcf4, rcf5, rcf6, rcf7⟩ := cells8 Krc
        obtain ⟨⟨q0, q1, q2, q3, q4, q5, q6, q7⟩, qf0, qf1, qf2, qf3, qf4, qf5, qf6, qf7⟩ := cells8 Kq
        go_wp2_with fail
        refine HC.mono ?_; rintro e W30 ⟨rfl, hB⟩
        clear HC
        clear p0 p1 p2 p3 p4 p5 p6 p7 pf0 pf1 pf2 pf3 pf4 pf5 pf6 pf7 rc0 rc1 rc2 rc3 rc4 rc5 rc6 rc7 rcf0 rcf1 rcf2 rcf3 rcf4 rcf5 rcf6 rcf7 q0 q1 q2 q3 q4 q5 q6 q7 qf0 qf1 qf2 qf3 qf4 qf5 qf6 qf7
        replace Kp := Kp.later hB
        replace Krc := Krc.later hB
        replace Kq := Kq.later hB
        replace Rc := Rc.below (hB.mono (Nat.le_trans hn hB29.size))
        replace Rq26 := Rq26.below (hB.mono (Nat.le_trans hn hB29.size))
        have hs31 := hB.size
        have hB31 := hB29.trans (hB.mono hB29.size)
        clear hB hB29
        have HC := refwant_l (RefIs.mk Rq26) (Nat.le_trans hn hB31.size) [41]
        obtain ⟨c32, hE⟩ : ∃ q, q = c26.want [41] := ⟨_, rfl⟩
        rw [← hE] at HC
        have E32 := Lib.hid hE
        clear hE
        obtain ⟨⟨p0, p1, p2, p3, p4, p5, p6, p7⟩, pf0, pf1, pf2, pf3, pf4, pf5, pf6, pf7⟩ := cells8 Kp
        obtain ⟨⟨rc0, rc1, rc2, rc3, rc4, rc5, rc6, rc7⟩, rcf0, rcf1, rcf2, rcf3, rcf4, rcf5, rcf6, rcf7⟩ := cells8 Krc
        obtain ⟨⟨q0, q1, q2, q3, q4, q5, q6, q7⟩, qf0, qf1, qf2, qf3, qf4, qf5, qf6, qf7⟩ := cells8 Kq
        go_wp2_with fail
        refine HC.mono ?_; rintro e W32 ⟨x', rfl, hx, hB⟩
        clear HC
        obtain ⟨a32, ln32, cap32, rfl, hRq, -⟩ := hx.shape
        have Rq32 := hRq.out
        clear hx hRq
        clear p0 p1 p2 p3 p4 p5 p6 p7 pf0 pf1 pf2 pf3 pf4 pf5 pf6 pf7 rc0 rc1 rc2 rc3 rc4 rc5 rc6 rc7 rcf0 rcf1 rcf2 rcf3 rcf4 rcf5 rcf6 rcf7 q0 q1 q2 q3 q4 q5 q6 q7 qf0 qf1 qf2 qf3 qf4 qf5 qf6 qf7
        replace Kp := Kp.later hB
        replace Krc := Krc.later hB
        replace Kq := Kq.later hB
        replace Rc := Rc.below (hB.mono (Nat.le_trans hn hB31.size))
        replace Rq26 := Rq26.below (hB.mono (Nat.le_trans hn hB31.size))
        have hs33 := hB.size
        have hB33 := hB31.trans (hB.mono hB31.size)
        clear hB hB31
        rw [← E32.out] at HQ
        obtain ⟨⟨p0, p1, p2, p3, p4, p5, p6, p7⟩, pf0, pf1, pf2, pf3, pf4, pf5, pf6, pf7⟩ := cells8 Kp
        obtain ⟨⟨rc0, rc1, rc2, rc3, rc4, rc5, rc6, rc7⟩, rcf0, rcf1, rcf2, rcf3, rcf4, rcf5, rcf6, rcf7⟩ := cells8 Krc
        obtain ⟨⟨q0, q1, q2, q3, q4, q5, q6, q7⟩, qf0, qf1, qf2, qf3, qf4, qf5, qf6, qf7⟩ := cells8 Kq
        obtain ⟨W34, hW34, KN, hP⟩ := c_put Kq (.slice a32 ln32 cap32) c32.ep (c32.nest : Int) c32.err c32.pos
        replace Kp := hP.blk Kp (by omega)
        replace Krc := hP.blk Krc (by omega)
        replace Rc := hP.row Rc (by omega)
        replace Rq26 := hP.row Rq26 (by omega)
        replace Rq32 := hP.row Rq32 (by omega)
        have hs35 := hP.size
        have hB35 := hP.below _ _ (by omega) hB33
        clear hP hB33
        replace Kq := KN
        clear KN
        go_upto_region 16 with fail
        rw [← hW34]
        clear hW34
        clear p0 p1 p2 p3 p4 p5 p6 p7 pf0 pf1 pf2 pf3 pf4 pf5 pf6 pf7 rc0 rc1 rc2 rc3 rc4 rc5 rc6 rc7 rcf0 rcf1 rcf2 rcf3 rcf4 rcf5 rcf6 rcf7 q0 q1 q2 q3 q4 q5 q6 q7 qf0 qf1 qf2 qf3 qf4 qf5 qf6 qf7
        have HC := refwant_l (RefIs.mk Rq32) (Nat.le_trans hn hB35.size) [61, 62]
        obtain ⟨c36, hE⟩ : ∃ q, q = c32.want [61, 62] := ⟨_, rfl⟩
        rw [← hE] at HC
        have E36 := Lib.hid hE
        clear hE
        obtain ⟨⟨p0, p1, p2, p3, p4, p5, p6, p7⟩, pf0, pf1, pf2, pf3, pf4, pf5, pf6, pf7⟩ := cells8 Kp
        obtain ⟨⟨rc0, rc1, rc2, rc3, rc4, rc5, rc6, rc7⟩, rcf0, rcf1, rcf2, rcf3, rcf4, rcf5, rcf6, rcf7⟩ := cells8 Krc
        obtain ⟨⟨q0, q1, q2, q3, q4, q5, q6, q7⟩, qf0, qf1, qf2, qf3, qf4, qf5, qf6, qf7⟩ := cells8 Kq
        go_wp2_with fail
        refine HC.mono ?_; rintro e W36 ⟨x', rfl, hx, hB⟩
        clear HC
        obtain ⟨a36, ln36, cap36, rfl, hRq, -⟩ := hx.shape
        have Rq36 := hRq.out
        clear hx hRq
        clear p0 p1 p2 p3 p4 p5 p6 p7 pf0 pf1 pf2 pf3 pf4 pf5 pf6 pf7 rc0 rc1 rc2 rc3 rc4 rc5 rc6 rc7 rcf0 rcf1 rcf2 rcf3 rcf4 rcf5 rcf6 rcf7 q0 q1 q2 q3 q4 q5 q6 q7 qf0 qf1 qf2 qf3 qf4 qf5 qf6 qf7
        replace Kp := Kp.later hB
        replace Krc := Krc.later hB
        replace Kq := Kq.later hB
        replace Rc := Rc.below (hB.mono (Nat.le_trans hn hB35.size))
        replace Rq26 := Rq26.below (hB.mono (Nat.le_trans hn hB35.size))
        replace Rq32 := Rq32.below (hB.mono (Nat.le_trans hn hB35.size))
        have hs37 := hB.size
        have hB37 := hB35.trans (hB.mono hB35.size)
        clear hB hB35
        rw [← E36.out] at HQ
        obtain ⟨⟨p0, p1, p2, p3, p4, p5, p6, p7⟩, pf0, pf1, pf2, pf3, pf4, pf5, pf6, pf7⟩ := cells8 Kp
        obtain ⟨⟨rc0, rc1, rc2, rc3, rc4, rc5, rc6, rc7⟩, rcf0, rcf1, rcf2, rcf3, rcf4, rcf5, rcf6, rcf7⟩ := cells8 Krc
        obtain ⟨⟨q0, q1, q2, q3, q4, q5, q6, q7⟩, qf0, qf1, qf2, qf3, qf4, qf5, qf6, qf7⟩ := cells8 Kq
        obtain ⟨W38, hW38, KN, hP⟩ := c_put Kq (.slice a36 ln36 cap36) c36.ep (c36.nest : Int) c36.err c36.pos
        replace Kp := hP.blk Kp (by omega)
        replace Krc := hP.blk Krc (by omega)
        replace Rc := hP.row Rc (by omega)
        replace Rq26 := hP.row Rq26 (by omega)
        replace Rq32 := hP.row Rq32 (by omega)
        replace Rq36 := hP.row Rq36 (by omega)
        have hs39 := hP.size
        have hB39 := hP.below _ _ (by omega) hB37
        clear hP hB37
        replace Kq := KN
        clear KN
        go_upto_region 17 with fail
        rw [← hW38]
        clear hW38
        clear p0 p1 p2 p3 p4 p5 p6 p7 pf0 pf1 pf2 pf3 pf4 pf5 pf6 pf7 rc0 rc1 rc2 rc3 rc4 rc5 rc6 rc7 rcf0 rcf1 rcf2 rcf3 rcf4 rcf5 rcf6 rcf7 q0 q1 q2 q3 q4 q5 q6 q7 qf0 qf1 qf2 qf3 qf4 qf5 qf6 qf7
        obtain ⟨⟨p0, p1, p2, p3, p4, p5, p6, p7⟩, pf0, pf1, pf2, pf3, pf4, pf5, pf6, pf7⟩ := cells8 Kp
        obtain ⟨⟨rc0, rc1, rc2, rc3, rc4, rc5, rc6, rc7⟩, rcf0, rcf1, rcf2, rcf3, rcf4, rcf5, rcf6, rcf7⟩ := cells8 Krc
        obtain ⟨⟨q0, q1, q2, q3, q4, q5, q6, q7⟩, qf0, qf1, qf2, qf3, qf4, qf5, qf6, qf7⟩ := cells8 Kq
        obtain ⟨W40, hW40, KN, hP⟩ := c_put Krc (.slice a36 ln36 cap36) c36.ep (c36.nest : Int) c36.err c36.pos
        replace Kp := hP.blk Kp (by omega)
        replace Kq := hP.blk Kq (by omega)
        replace Rc := hP.row Rc (by omega)
        replace Rq26 := hP.row Rq26 (by omega)
        replace Rq32 := hP.row Rq32 (by omega)
        replace Rq36 := hP.row Rq36 (by omega)
        have hs41 := hP.size
        have hB41 := hP.below _ _ (by omega) hB39
        clear hP hB39
        replace Krc := KN
        clear KN
        go_wp2_with fail
        rw [← hW40]
        obtain ⟨⟨y0, y1, y2, y3, y4, y5, y6, y7⟩, -⟩ := cells8 Krc
        refine bodyPost_ret (v := .tuple #[.agg (refC (.slice a36 ln36 cap36) c36.ep (c36.nest : Int) c36.err c36.pos), .slice none 0 0]) (by simp [results, Try.results19, go_sem, y0, y1, y2, y3, y4, y5, y6, y7]) rfl ⟨_, _, rfl, ?_, ?_, hB41⟩
        · rw [HQ.out]; exact RefIs.mk Rq36
        · rw [HQ.out]; exact .nil
      | false =>
        have HQ : Hid (predsR rf c = (((commasR (predR rf) (c.ws.length + 2) c26 []).1.want [41]).want [61, 62], (commasR (predR rf) (c.ws.length + 2) c26 []).2)) := by show _ = _; rw [HA.out]; unfold predsR0; rw [if_pos hi, ← E26.out, if_neg (by rw [h3]; decide)]
        have HF0 : Hid (Fine c c26) := by show Fine _ _; rw [E26.out]; exact fine_take c [40]
        have HC := refis_l (RefIs.mk Rq26) (Nat.le_trans hn hB29.size) [41]
        rw [h3] at HC
        obtain ⟨⟨p0, p1, p2, p3, p4, p5, p6, p7⟩, pf0, pf1, pf2, pf3, pf4, pf5, pf6, pf7⟩ := cells8 Kp
        obtain ⟨⟨rc0, rc1, rc2, rc3, rc4, rc5, rc6, rc7⟩, rcf0, rcf1, rcf2, rcf3, rcf4, rcf5, rcf6, rcf7⟩ := cells8 Krc
        obtain ⟨⟨q0, q1, q2, q3, q4, q5, q6, q7⟩, qf0, qf1, qf2, qf3, qf4, qf5, qf6, qf7⟩ := cells8 Kq
        go_wp2_with fail
        refine HC.mono ?_; rintro e W42 ⟨rfl, hB⟩
        clear HC
        clear p0 p1 p2 p3 p4 p5 p6 p7 pf0 pf1 pf2 pf3 pf4 pf5 pf6 pf7 rc0 rc1 rc2 rc3 rc4 rc5 rc6 rc7 rcf0 rcf1 rcf2 rcf3 rcf4 rcf5 rcf6 rcf7 q0 q1 q2 q3 q4 q5 q6 q7 qf0 qf1 qf2 qf3 qf4 qf5 qf6 qf7
        replace Kp := Kp.later hB
        replace Krc := Krc.later hB
        replace Kq := Kq.later hB
        replace Rc := Rc.below (hB.mono (Nat.le_trans hn hB29.size))
        replace Rq26 := Rq26.below (hB.mono (Nat.le_trans hn hB29.size))
        have hs43 := hB.size
        have hB43 := hB29.trans (hB.mono hB29.size)
        clear hB hB29
        go_wp2_with fail
        go_loopg [4, 9] (c.ws.length + 2) (fun gk v mv wr => ∃ (d : Cu) (ks : List Nd) (mo : Bool) (a5 : Option Addr) (ln5 cap5 : Nat), mv = .bool mo ∧ PredSt n w (W26.heap.size) (W42.heap.size) (c.ws.length + 2) k rf c gk d ks mo (.slice a5 ln5 cap5) v wr)
        case atStart => exact ⟨c26, [], true, a26, ln26, cap26, rfl, ⟨by rw [E26.out]; rfl, fun _ => by rw [HF0.out.ws]; omega, by rw [E26.out]; exact .refl _, by simp, hB43, Nat.le_refl _, Krc, Kq, Rq26, OwnRows.nil⟩⟩
        case round =>
          obtain ⟨d, ks, mo, a5, ln5, cap5, rfl, HS⟩ := hrel
          clear Kp Krc Kq Rc Rq26 hB43
          have Krc := HS.rcb
          have Kq := HS.qqb
          have hBw := HS.bel
          have hlow := HS.low
          have hsum := HS.sum
          have Rd := HS.row
          have Oo := HS.own
          have HM := Lib.hid HS.eq
          have HFW := Lib.hid HS.few
          have HFN := Lib.hid HS.fine
          clear HS
          rw [← E26.out] at HM HFN
          have HOD := Lib.hid (HFN.out.ok (HF0.out.ok HOK.out))
          have HKD : Hid (200 ≤ d.nest + (k + 1) ∨ d.err ≠ 0) := by
            by_cases he : d.err = 0
            · exact .inl (by rw [HFN.out.nest he, HF0.out.nest (HFN.out.err he)]; exact HK.out.resolve_right fun q => q (HF0.out.err (HFN.out.err he)))
            · exact .inr he
          cases mo with
          | false =>
            have HE : Hid (predsR rf c = ((d.want [41]).want [61, 62], ks)) := by show _ = _; rw [HQ.out, ← HM.out]; rfl
            have HC := refwant_l (RefIs.mk Rd) (Nat.le_trans hn hBw.size) [41]
            obtain ⟨c44, hE⟩ : ∃ q, q = d.want [41] := ⟨_, rfl⟩
            rw [← hE] at HC
            have E44 := Lib.hid hE
            clear hE
            obtain ⟨⟨rc0, rc1, rc2, rc3, rc4, rc5, rc6, rc7⟩, rcf0, rcf1, rcf2, rcf3, rcf4, rcf5, rcf6, rcf7⟩ := cells8 Krc
            obtain ⟨⟨q0, q1, q2, q3, q4, q5, q6, q7⟩, qf0, qf1, qf2, qf3, qf4, qf5, qf6, qf7⟩ := cells8 Kq
            go_wp2_with fail
            refine HC.mono ?_; rintro e W44 ⟨x', rfl, hx, hB⟩
            clear HC
            obtain ⟨a44, ln44, cap44, rfl, hRq, -⟩ := hx.shape
            have Rq44 := hRq.out
            clear hx hRq
            clear rc0 rc1 rc2 rc3 rc4 rc5 rc6 rc7 rcf0 rcf1 rcf2 rcf3 rcf4 rcf5 rcf6 rcf7 q0 q1 q2 q3 q4 q5 q6 q7 qf0 qf1 qf2 qf3 qf4 qf5 qf6 qf7
            replace Krc := Krc.later hB
            replace Kq := Kq.later hB
            replace Oo := Oo.keep (grownBy_below hB (some w.heap.size)) (by omega)
            replace Rd := Rd.below (hB.mono (Nat.le_trans hn hBw.size))
            have hs45 := hB.size
            have hB45 := hBw.trans (hB.mono hBw.size)
            clear hB hBw
            rw [← E44.out] at HE
            obtain ⟨⟨rc0, rc1, rc2, rc3, rc4, rc5, rc6, rc7⟩, rcf0, rcf1, rcf2, rcf3, rcf4, rcf5, rcf6, rcf7⟩ := cells8 Krc
            obtain ⟨⟨q0, q1, q2, q3, q4, q5, q6, q7⟩, qf0, qf1, qf2, qf3, qf4, qf5, qf6, qf7⟩ := cells8 Kq
            obtain ⟨W46, hW46, KN, hP⟩ := c_put Kq (.slice a44 ln44 cap44) c44.ep (c44.nest : Int) c44.err c44.pos
            replace Krc := hP.blk Krc (by omega)
            replace Oo := Oo.keep hP.grown (by omega)
            replace Rd := hP.row Rd (by omega)
            replace Rq44 := hP.row Rq44 (by omega)
            have hs47 := hP.size
            have hB47 := hP.below _ _ (by omega) hB45
            clear hP hB45
            replace Kq := KN
            clear KN
            go_upto_region 16 with fail
            rw [← hW46]
            clear hW46
            clear rc0 rc1 rc2 rc3 rc4 rc5 rc6 rc7 rcf0 rcf1 rcf2 rcf3 rcf4 rcf5 rcf6 rcf7 q0 q1 q2 q3 q4 q5 q6 q7 qf0 qf1 qf2 qf3 qf4 qf5 qf6 qf7
            have HC := refwant_l (RefIs.mk Rq44) (Nat.le_trans hn hB47.size) [61, 62]
            obtain ⟨c48, hE⟩ : ∃ q, q = c44.want [61, 62] := ⟨_, rfl⟩
            rw [← hE] at HC
            have E48 := Lib.hid hE
            clear hE
            obtain ⟨⟨rc0, rc1, rc2, rc3, rc4, rc5, rc6, rc7⟩, rcf0, rcf1, rcf2, rcf3, rcf4, rcf5, rcf6, rcf7⟩ := cells8 Krc
            obtain ⟨⟨q0, q1, q2, q3, q4, q5, q6, q7⟩, qf0, qf1, qf2, qf3, qf4, qf5, qf6, qf7⟩ := cells8 Kq
            go_wp2_with fail
            refine HC.mono ?_; rintro e W48 ⟨x', rfl, hx, hB⟩
            clear HC
            obtain ⟨a48, ln48, cap48, rfl, hRq, -⟩ := hx.shape
            have Rq48 := hRq.out
            clear hx hRq
            clear rc0 rc1 rc2 rc3 rc4 rc5 rc6 rc7 rcf0 rcf1 rcf2 rcf3 rcf4 rcf5 rcf6 rcf7 q0 q1 q2 q3 q4 q5 q6 q7 qf0 qf1 qf2 qf3 qf4 qf5 qf6 qf7
            replace Krc := Krc.later hB
            replace Kq := Kq.later hB
            replace Oo := Oo.keep (grownBy_below hB (some w.heap.size)) (by omega)
            replace Rd := Rd.below (hB.mono (Nat.le_trans hn hB47.size))
            replace Rq44 := Rq44.below (hB.mono (Nat.le_trans hn hB47.size))
            have hs49 := hB.size
            have hB49 := hB47.trans (hB.mono hB47.size)
            clear hB hB47
            rw [← E48.out] at HE
            obtain ⟨⟨rc0, rc1, rc2, rc3, rc4, rc5, rc6, rc7⟩, rcf0, rcf1, rcf2, rcf3, rcf4, rcf5, rcf6, rcf7⟩ := cells8 Krc
            obtain ⟨⟨q0, q1, q2, q3, q4, q5, q6, q7⟩, qf0, qf1, qf2, qf3, qf4, qf5, qf6, qf7⟩ := cells8 Kq
            obtain ⟨W50, hW50, KN, hP⟩ := c_put Kq (.slice a48 ln48 cap48) c48.ep (c48.nest : Int) c48.err c48.pos
            replace Krc := hP.blk Krc (by omega)
            replace Oo := Oo.keep hP.grown (by omega)
            replace Rd := hP.row Rd (by omega)
            replace Rq44 := hP.row Rq44 (by omega)
            replace Rq48 := hP.row Rq48 (by omega)
            have hs51 := hP.size
            have hB51 := hP.below _ _ (by omega) hB49
            clear hP hB49
            replace Kq := KN
            clear KN
            go_upto_region 17 with fail
            rw [← hW50]
            clear hW50
            clear rc0 rc1 rc2 rc3 rc4 rc5 rc6 rc7 rcf0 rcf1 rcf2 rcf3 rcf4 rcf5 rcf6 rcf7 q0 q1 q2 q3 q4 q5 q6 q7 qf0 qf1 qf2 qf3 qf4 qf5 qf6 qf7
            obtain ⟨⟨rc0, rc1, rc2, rc3, rc4, rc5, rc6, rc7⟩, rcf0, rcf1, rcf2, rcf3, rcf4, rcf5, rcf6, rcf7⟩ := cells8 Krc
            obtain ⟨⟨q0, q1, q2, q3, q4, q5, q6, q7⟩, qf0, qf1, qf2, qf3, qf4, qf5, qf6, qf7⟩ := cells8 Kq
            obtain ⟨W52, hW52, KN, hP⟩ := c_put Krc (.slice a48 ln48 cap48) c48.ep (c48.nest : Int) c48.err c48.pos
            replace Kq := hP.blk Kq (by omega)
            replace Oo := Oo.keep hP.grown (by omega)
            replace Rd := hP.row Rd (by omega)
            replace Rq44 := hP.row Rq44 (by omega)
            replace Rq48 := hP.row Rq48 (by omega)
            have hs53 := hP.size
            have hB53 := hP.below _ _ (by omega) hB51
            clear hP hB51
            replace Krc := KN
            clear KN
            go_wp2_with fail
            rw [← hW52]
            obtain ⟨⟨y0, y1, y2, y3, y4, y5, y6, y7⟩, -⟩ := cells8 Krc
            refine bodyPost_ret (v := .tuple #[.agg (refC (.slice a48 ln48 cap48) c48.ep (c48.nest : Int) c48.err c48.pos), u4]) (by simp [results, Try.results19, go_sem, y0, y1, y2, y3, y4, y5, y6, y7]) rfl ⟨_, _, rfl, ?_, ?_, hB53⟩
            · rw [HE.out]; exact RefIs.mk Rq48
            · rw [HE.out]; exact Oo.mono (by omega)
          | true =>
            cases gk with
            | zero => exact absurd (HFW.out rfl) (Nat.not_lt_zero _)
            | succ gf =>
              have HX6 := Lib.hid (HFW.out rfl)
              clear HFW
              have HBK : Hid (∀ b, u4.ownBlock = some b → W42.heap.size ≤ b ∧ b < wr.heap.size) := by obtain ⟨ds, _, q, _⟩ := Oo; exact fun b hb => q.lt b hb
              have HC := HP.out _ _ _ HKD.out HOD.out (RefIs.mk Rd) (Nat.le_trans hn hBw.size)
              obtain ⟨c54, hE⟩ : ∃ q, q = (predR rf d).1 := ⟨_, rfl⟩
              have E54 := Lib.hid hE
              clear hE
              obtain ⟨⟨rc0, rc1, rc2, rc3, rc4, rc5, rc6, rc7⟩, rcf0, rcf1, rcf2, rcf3, rcf4, rcf5, rcf6, rcf7⟩ := cells8 Krc
              obtain ⟨⟨q0, q1, q2, q3, q4, q5, q6, q7⟩, qf0, qf1, qf2, qf3, qf4, qf5, qf6, qf7⟩ := cells8 Kq
              go_wp2_with fail
              refine HC.mono ?_; rintro e W54 ⟨x', e, rfl, hx, he, hB⟩
              clear HC
              rw [← E54.out] at hx
              obtain ⟨a54, ln54, cap54, rfl, hRq, -⟩ := hx.shape
              have Rq54 := hRq.out
              clear hx hRq
              clear rc0 rc1 rc2 rc3 rc4 rc5 rc6 rc7 rcf0 rcf1 rcf2 rcf3 rcf4 rcf5 rcf6 rcf7 q0 q1 q2 q3 q4 q5 q6 q7 qf0 qf1 qf2 qf3 qf4 qf5 qf6 qf7
              replace Krc := Krc.later hB
              replace Kq := Kq.later hB
              replace Oo := Oo.keep (grownBy_below hB (some w.heap.size)) (by omega)
              replace Rd := Rd.below (hB.mono (Nat.le_trans hn hBw.size))
              have hs55 := hB.size
              have hB55 := hBw.trans (hB.mono hBw.size)
              clear hB hBw
              obtain ⟨ek, ep, en, et, eq, el, ec⟩ := e
              unfold NC.val
              have Te := he.mono (S' := (fun q => wr.heap.size ≤ q)) fun q hq hl => (by omega)
              clear he
              go_upto_region 13 with fail
              replace Te := Te.mono (S' := (fun q => wr.heap.size ≤ q ∧ q ≠ W54.heap.size ∧ q ≠ W54.heap.size + 1)) fun q hq hl => ⟨by omega, by omega, by omega⟩
              obtain ⟨W56, hV⟩ : ∃ x, x = (W54.alloc (.cells (refC (.slice a54 ln54 cap54) c54.ep (c54.nest : Int) c54.err c54.pos) 39)).alloc (.cells #[.int .i64 ek, .int .i64 ep, .int .i64 en, .string ⟨et.toArray⟩, .slice eq el ec] 25) := ⟨_, rfl⟩
              rw [← hV]
              have hB : Below W54.heap.size W54 W56 := by rw [hV]; exact ((Below.refl _ _).alloc (Nat.le_refl _) _).alloc (by simp) _
              have KC0 : Blk W56 (W54.heap.size) (refC (.slice a54 ln54 cap54) c54.ep (c54.nest : Int) c54.err c54.pos) 39 := by rw [hV]; exact (Blk.new W54 _ _).later ((Below.refl _ _).alloc (Nat.le_refl _) _)
              have KN0 : Blk W56 (W54.heap.size + 1) #[.int .i64 ek, .int .i64 ep, .int .i64 en, .string ⟨et.toArray⟩, .slice eq el ec] 25 := by rw [hV]; have h0 := Blk.new (W54.alloc (.cells (refC (.slice a54 ln54 cap54) c54.ep (c54.nest : Int) c54.err c54.pos) 39)) #[.int .i64 ek, .int .i64 ep, .int .i64 en, .string ⟨et.toArray⟩, .slice eq el ec] 25; simp only [World.size_alloc] at h0; exact h0
              have hz56 : W54.heap.size + 1 + 1 ≤ W56.heap.size := by rw [hV]; simp
              clear hV
              replace Krc := Krc.later hB
              replace Kq := Kq.later hB
              replace Te := Te.keeps (w' := W56) ⟨hB.size, fun k hk hkl => hB.block k hkl⟩
              replace Oo := Oo.keep (grownBy_below hB (some w.heap.size)) (by omega)
              replace Rd := Rd.below (hB.mono (Nat.le_trans hn hB55.size))
              replace Rq54 := Rq54.below (hB.mono (Nat.le_trans hn hB55.size))
              have hs57 := hB.size
              have hB57 := hB55.trans (hB.mono hB55.size)
              clear hB hB55
              have Kg := KC0
              clear KC0
              have Km2 := KN0
              clear KN0
              obtain ⟨⟨rc0, rc1, rc2, rc3, rc4, rc5, rc6, rc7⟩, rcf0, rcf1, rcf2, rcf3, rcf4, rcf5, rcf6, rcf7⟩ := cells8 Krc
              obtain ⟨⟨q0, q1, q2, q3, q4, q5, q6, q7⟩, qf0, qf1, qf2, qf3, qf4, qf5, qf6, qf7⟩ := cells8 Kq
              obtain ⟨⟨g0, g1, g2, g3, g4, g5, g6, g7⟩, gf0, gf1, gf2, gf3, gf4, gf5, gf6, gf7⟩ := cells8 Kg
              obtain ⟨⟨m20, m21, m22, m23, m24⟩, m2f0, m2f1, m2f2, m2f3, m2f4⟩ := cells5 Km2
              obtain ⟨ds, e1, e2, e3⟩ := Oo
              have HE3 := Lib.hid e3
              have HE1 := Lib.hid e1
              clear e3 e1
              go_upto_region 14 with (at_builtin; refine wpList_append_at rfl _ _ 23 rfl (W42.heap.size) 25 i0 _ 5 64 Try.underlying23 hi0 hz0 hz1 hz2 rfl (by decide) _ _ _ rfl (e2.alloc _) ⟨_, 0, none⟩ 1 1 (encN ⟨ek, ep, en, et, eq, el, ec⟩) rfl rfl (cells_of_new _ _ _ _ rfl) (encN_one _) ?_ ?_ ?_ ?_; (unfold maxLen; omega); omega; (simp; omega); intro v3 w3 ho3 hg3 hat3)
              have hal := (World.grownBy_alloc W56 (.cells #[.int .i64 ek, .int .i64 ep, .int .i64 en, .string ⟨et.toArray⟩, .slice eq el ec] 25) u4.ownBlock).andThen hg3 (fun j hj => .inr hj)
              have hat4 : v3.ownBlock = u4.ownBlock ∨ ∃ n, v3.ownBlock = some n ∧ W56.heap.size ≤ n := hat3.imp id fun e => ⟨_, e, by simp⟩
              have HO3 := OwnRows.snoc HE1.out HE3.out (Te.mono fun b hb _ => ⟨by omega, fun e => by have := (HBK.out b e).2; omega⟩) ho3 hal hat4
              have HB3 : Below w.heap.size W56 w3 := below_own hal (fun b hb => by have := (HBK.out b hb).1; omega) (by omega)
              replace Krc := Krc.kept hal (fun e => by have := (HBK.out _ e.symm).1; omega)
              replace Kq := Kq.kept hal (fun e => by have := (HBK.out _ e.symm).1; omega)
              replace Kg := Kg.kept hal (fun e => by have := (HBK.out _ e.symm).2; omega)
              have R3 := Rq54.below (HB3.mono hn)
              have hsz3 := hal.size
              have hB58 := hB57.trans HB3
              clear hg3 hat3 hat4 ho3 e2 HE1 HE3 Te Km2 Rq54 Rd hal rc0 rc1 rc2 rc3 rc4 rc5 rc6 rc7 rcf0 rcf1 rcf2 rcf3 rcf4 rcf5 rcf6 rcf7 q0 q1 q2 q3 q4 q5 q6 q7 qf0 qf1 qf2 qf3 qf4 qf5 qf6 qf7 g0 g1 g2 g3 g4 g5 g6 g7 gf0 gf1 gf2 gf3 gf4 gf5 gf6 gf7 m20 m21 m22 m23 m24 m2f0 m2f1 m2f2 m2f3 m2f4
              have Oo := HO3
              clear HO3
              have HFD := Lib.hid (HF.out d HKD.out)
              rw [← E54.out] at HFD
              have HM2 : Hid ((if c54.is [44] = true then commasR (predR rf) gf (c54.take [44]) (ks ++ [(predR rf d).2]) else (c54, ks ++ [(predR rf d).2])) = commasR (predR rf) (c.ws.length + 2) c26 []) := by show _ = _; rw [← HM.out, E54.out]; rfl
              cases h4 : c54.is [44] with
              | true =>
                rw [if_pos h4] at HM2
                have HL4 := Lib.hid (is_kind h4).2
                have HC := reftake_l (RefIs.mk R3) (Nat.le_trans hn hB58.size) [44]
                obtain ⟨c59, hE⟩ : ∃ q, q = c54.take [44] := ⟨_, rfl⟩
                rw [← hE] at HC
                rw [h4] at HC
                have E59 := Lib.hid hE
                clear hE
                obtain ⟨⟨rc0, rc1, rc2, rc3, rc4, rc5, rc6, rc7⟩, rcf0, rcf1, rcf2, rcf3, rcf4, rcf5, rcf6, rcf7⟩ := cells8 Krc
                obtain ⟨⟨q0, q1, q2, q3, q4, q5, q6, q7⟩, qf0, qf1, qf2, qf3, qf4, qf5, qf6, qf7⟩ := cells8 Kq
                obtain ⟨⟨g0, g1, g2, g3, g4, g5, g6, g7⟩, gf0, gf1, gf2, gf3, gf4, gf5, gf6, gf7⟩ := cells8 Kg
                go_wp2_with fail
                refine HC.mono ?_; rintro e W59 ⟨x', rfl, hx, hB⟩
                clear HC
                obtain ⟨a59, ln59, cap59, rfl, hRq, -⟩ := hx.shape
                have Rq59 := hRq.out
                clear hx hRq
                clear rc0 rc1 rc2 rc3 rc4 rc5 rc6 rc7 rcf0 rcf1 rcf2 rcf3 rcf4 rcf5 rcf6 rcf7 q0 q1 q2 q3 q4 q5 q6 q7 qf0 qf1 qf2 qf3 qf4 qf5 qf6 qf7 g0 g1 g2 g3 g4 g5 g6 g7 gf0 gf1 gf2 gf3 gf4 gf5 gf6 gf7
                replace Krc := Krc.later hB
                replace Kq := Kq.later hB
                replace Kg := Kg.later hB
                replace Oo := Oo.keep (grownBy_below hB (some w.heap.size)) (by omega)
                replace R3 := R3.below (hB.mono (Nat.le_trans hn hB58.size))
                have hs60 := hB.size
                have hB60 := hB58.trans (hB.mono hB58.size)
                clear hB hB58
                rw [← E59.out] at HM2
                have HT8 : Hid (c59.ws = c54.ws ∧ c59.at' = c54.at' + 1) := by show _ ∧ _; rw [E59.out]; unfold Cu.take; rw [if_pos h4]; exact ⟨rfl, rfl⟩
                have HF8 : Hid (Fine c54 c59) := by show Fine _ _; rw [E59.out]; exact fine_take _ _
                clear h4
                obtain ⟨⟨rc0, rc1, rc2, rc3, rc4, rc5, rc6, rc7⟩, rcf0, rcf1, rcf2, rcf3, rcf4, rcf5, rcf6, rcf7⟩ := cells8 Krc
                obtain ⟨⟨q0, q1, q2, q3, q4, q5, q6, q7⟩, qf0, qf1, qf2, qf3, qf4, qf5, qf6, qf7⟩ := cells8 Kq
                obtain ⟨⟨g0, g1, g2, g3, g4, g5, g6, g7⟩, gf0, gf1, gf2, gf3, gf4, gf5, gf6, gf7⟩ := cells8 Kg
                obtain ⟨W61, hW61, KN, hP⟩ := c_put Kq (.slice a59 ln59 cap59) c59.ep (c59.nest : Int) c59.err c59.pos
                replace Krc := hP.blk Krc (by omega)
                replace Kg := hP.blk Kg (by omega)
                replace Oo := Oo.keep hP.grown (by omega)
                replace R3 := hP.row R3 (by omega)
                replace Rq59 := hP.row Rq59 (by omega)
                have hs62 := hP.size
                have hB62 := hP.below _ _ (by omega) hB60
                clear hP hB60
                replace Kq := KN
                clear KN
                go_wp2_with fail
                go_roundg gf
                case measure => omega
                case rel =>
                  rw [← hW61]
                  refine ⟨c59, ks ++ [(predR rf d).2], true, a59, ln59, cap59, rfl, ⟨?_, fun _ => ?_, ?_, ?_, hB62, by omega, Krc, Kq, Rq59, Oo⟩⟩
                  · rw [← E26.out, ← HM2.out]; rfl
                  · have g1 := HX6.out
                    have g2 := HFD.out.ws
                    have g3 := HFD.out.at'
                    have g4 := HL4.out
                    have g5 := HT8.out
                    rw [g2] at g4
                    rw [g5.1, g5.2, g2]
                    omega
                  · rw [← E26.out]; exact HFN.out.trans (HFD.out.trans HF8.out)
                  · simp; omega
              | false =>
                rw [if_neg (by rw [h4]; decide)] at HM2
                have HC := reftake_l (RefIs.mk R3) (Nat.le_trans hn hB58.size) [44]
                rw [h4] at HC
                rw [take_not (by rw [h4]; decide)] at HC
                obtain ⟨⟨rc0, rc1, rc2, rc3, rc4, rc5, rc6, rc7⟩, rcf0, rcf1, rcf2, rcf3, rcf4, rcf5, rcf6, rcf7⟩ := cells8 Krc
                obtain ⟨⟨q0, q1, q2, q3, q4, q5, q6, q7⟩, qf0, qf1, qf2, qf3, qf4, qf5, qf6, qf7⟩ := cells8 Kq
                obtain ⟨⟨g0, g1, g2, g3, g4, g5, g6, g7⟩, gf0, gf1, gf2, gf3, gf4, gf5, gf6, gf7⟩ := cells8 Kg
                go_wp2_with fail
                refine HC.mono ?_; rintro e W63 ⟨x', rfl, hx, hB⟩
                clear HC
                obtain ⟨a63, ln63, cap63, rfl, hRq, -⟩ := hx.shape
                have Rq63 := hRq.out
                clear hx hRq
                clear rc0 rc1 rc2 rc3 rc4 rc5 rc6 rc7 rcf0 rcf1 rcf2 rcf3 rcf4 rcf5 rcf6 rcf7 q0 q1 q2 q3 q4 q5 q6 q7 qf0 qf1 qf2 qf3 qf4 qf5 qf6 qf7 g0 g1 g2 g3 g4 g5 g6 g7 gf0 gf1 gf2 gf3 gf4 gf5 gf6 gf7
                replace Krc := Krc.later hB
                replace Kq := Kq.later hB
                replace Kg := Kg.later hB
                replace Oo := Oo.keep (grownBy_below hB (some w.heap.size)) (by omega)
                replace R3 := R3.below (hB.mono (Nat.le_trans hn hB58.size))
                have hs64 := hB.size
                have hB64 := hB58.trans (hB.mono hB58.size)
                clear hB hB58
                have HF8 := Lib.hid (Fine.refl c54)
                clear h4
                obtain ⟨⟨rc0, rc1, rc2, rc3, rc4, rc5, rc6, rc7⟩, rcf0, rcf1, rcf2, rcf3, rcf4, rcf5, rcf6, rcf7⟩ := cells8 Krc
                obtain ⟨⟨q0, q1, q2, q3, q4, q5, q6, q7⟩, qf0, qf1, qf2, qf3, qf4, qf5, qf6, qf7⟩ := cells8 Kq
                obtain ⟨⟨g0, g1, g2, g3, g4, g5, g6, g7⟩, gf0, gf1, gf2, gf3, gf4, gf5, gf6, gf7⟩ := cells8 Kg
                obtain ⟨W65, hW65, KN, hP⟩ := c_put Kq (.slice a63 ln63 cap63) c54.ep (c54.nest : Int) c54.err c54.pos
                replace Krc := hP.blk Krc (by omega)
                replace Kg := hP.blk Kg (by omega)
                replace Oo := Oo.keep hP.grown (by omega)
                replace R3 := hP.row R3 (by omega)
                replace Rq63 := hP.row Rq63 (by omega)
                have hs66 := hP.size
                have hB66 := hP.below _ _ (by omega) hB64
                clear hP hB64
                replace Kq := KN
                clear KN
                go_wp2_with fail
                go_roundg gf
                case measure => omega
                case rel =>
                  rw [← hW65]
                  refine ⟨c54, ks ++ [(predR rf d).2], false, a63, ln63, cap63, rfl, ⟨?_, (fun q => by cases q), ?_, ?_, hB66, by omega, Krc, Kq, Rq63, Oo⟩⟩
                  · rw [← E26.out, ← HM2.out]; rfl
                  · rw [← E26.out]; exact HFN.out.trans (HFD.out.trans HF8.out)
                  · simp; omega
end Go.Proofs.Ytlammclbnihopaa.N7
