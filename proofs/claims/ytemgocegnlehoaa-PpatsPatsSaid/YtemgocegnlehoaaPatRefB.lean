/- Patterns, the document's readers: patterns. -/
import Derived.Test.YtemgocegnlehoaaPatRefA
namespace Go.Proofs.Ytemgocegnlehoaa.N8
open Go.RowKit N5 N6 N7

attribute [local go_sem] fld0 fld1
theorem many_end {bg : Cu → Bool} {rd : Cu → Cu × Nd} {f : Nat} {c : Cu} {l : List Nd} (h : bg c = false) : manyD bg rd f c l = (c, l) := by
  cases f with
  | zero => rfl
  | succ f => show (if _ then _ else _) = _; rw [h]; rfl
theorem many_step {bg : Cu → Bool} {rd : Cu → Cu × Nd} {f : Nat} {c : Cu} {l : List Nd} (h : bg c = true) : manyD bg rd (f + 1) c l = manyD bg rd f (rd c).1 (l ++ [(rd c).2]) := by
  show (if _ then _ else _) = _; rw [if_pos h]
/-- what the loop of At keeps -/
structure AtSt (n : Nat) (w : World) (mb LB F k : Nat) (rf : Cu → Cu × Nd) (c : Cu) (tp : Int) (tt : List UInt8) (gk : Nat) (d : Cu) (ks : List Nd) (u : Value) (kp : Option Addr) (kl kc : Nat) (W : World) : Prop where
  eq : manyD begins (atomR rf) gk d ks = manyD begins (atomR rf) F c.adv []
  few : begins d = true → d.ws.length - d.at' < gk
  fine : Fine c.adv d
  sum : ks.length + gk ≤ F
  bel : Below w.heap.size w W
  low : LB ≤ W.heap.size
  pb : Blk W w.heap.size (refC u d.ep (d.nest : Int) d.err d.pos) 49
  rcb : Blk W (w.heap.size + 1) (refC (.slice none 0 0) 0 0 0 0) 49
  rnb : Blk W (w.heap.size + 1 + 1) #[.int .i64 0, .int .i64 0, .int .i64 0, .string ⟨#[]⟩, .slice none 0 0] 25
  nb : Blk W mb #[.int .i64 14, .int .i64 tp, .int .i64 0, .string ⟨tt.toArray⟩, .slice kp kl kc] 25
  row : WRow n W u (d.ws.drop d.at')
  own : OwnRows LB W (.slice kp kl kc) ks
theorem below_own {n : Nat} {W W' : World} {o : Option Nat} (hg : W.grownBy W' o) (ho : ∀ b, o = some b → n ≤ b) (hs : n ≤ W.heap.size) : Below n W W' := by
  cases o with
  | none => exact (grown_none hg).mono hs
  | some b => exact below_grown hg (ho b rfl) hs
theorem t_put {b : Nat} {W : World} {ty : TypeId} {y0 y1 y2 y3 : Value} (hz : Blk W b #[y0, y1, y2, y3] ty) (x0 x1 x2 x3 : Value) :
    ∃ W7, W7 = ((((W.setCell ⟨b, 0, none⟩ x0).setCell ⟨b, 1, none⟩ x1).setCell ⟨b, 2, none⟩ x2).setCell ⟨b, 3, none⟩ x3) ∧ Blk W7 b #[x0, x1, x2, x3] ty ∧ Put b W W7 :=
  ⟨_, rfl, (((hz.set 0 _).set 1 _).set 2 _).set 3 _, (((Put.one _ _ _ _).trans (Put.one _ _ _ _)).trans (Put.one _ _ _ _)).trans (Put.one _ _ _ _)⟩
set_option maxRecDepth 100000 in
set_option maxHeartbeats 4000000 in
theorem refat_body {rf : Cu → Cu × Nd} {n k : Nat} {w : World} {x : Value} {c : Cu} (h : RefIs n w x c) (hn : n ≤ w.heap.size) (hok : CuOk c) {cE : Cu} (hce : cE = c.enter) (hatom : ∀ (d : Cu) (W : World) (x : Value), (cE.err ≠ 0 → d.err ≠ 0) → 200 ≤ d.nest + (k + 1) ∨ d.err ≠ 0 → CuOk d → RefIs n W x d → n ≤ W.heap.size → Calls Try.prog 34 #[x] W (RefRead n (atomR rf d) W)) (hfa : ∀ c, 200 ≤ c.nest + (k + 1) ∨ c.err ≠ 0 → Fine c (atomR rf c).1) (hat : ∀ c, 200 ≤ c.nest + (k + 1) → (atomR rf c).1.err = 0 → c.at' < (atomR rf c).1.at') (hk : 200 ≤ cE.nest + (k + 1) ∨ cE.err ≠ 0) : Calls Try.prog 18 #[x] w (RefRead n ((rowR rf cE).1.leave, (rowR rf cE).2) w) := by
  have HATM := Lib.hid hatom
  have HK := Lib.hid hk
  have HOK : Hid (CuOk cE) := by show CuOk _; rw [hce]; exact ok_enter hok
  have HCE := Lib.hid hce
  have HOK0 := Lib.hid hok
  have HFA := Lib.hid hfa
  have HAT := Lib.hid hat
  obtain ⟨i0, hi0, hz0, hz1, hz2⟩ := info_parts infoNode
  clear hatom hk hok hfa hat hce
  obtain ⟨a, ln, cap, rfl, hr, -⟩ := h.shape
  clear h
  obtain ⟨W1, hW1⟩ : ∃ W1, W1 = (((w.alloc (.cells (refC (.slice a ln cap) c.ep (c.nest : Int) c.err c.pos) 49)).alloc (.cells (refC (.slice none 0 0) 0 0 0 0) 49)).alloc (.cells #[.int .i64 0, .int .i64 0, .int .i64 0, .string ⟨#[]⟩, .slice none 0 0] 25)) := ⟨_, rfl⟩
  have hsz : w.heap.size + 1 + 1 + 1 ≤ W1.heap.size := by rw [hW1]; simp
  have Kp : Blk W1 (w.heap.size) (refC (.slice a ln cap) c.ep (c.nest : Int) c.err c.pos) 49 := by rw [hW1]; have h0 := Blk.new w (refC (.slice a ln cap) c.ep (c.nest : Int) c.err c.pos) 49; (try simp only [World.size_alloc] at h0); exact ((h0.later ((Below.refl _ _).alloc (Nat.le_refl _) _)).later ((Below.refl _ _).alloc (Nat.le_refl _) _))
  have Krc : Blk W1 (w.heap.size + 1) (refC (.slice none 0 0) 0 0 0 0) 49 := by rw [hW1]; have h0 := Blk.new (w.alloc (.cells (refC (.slice a ln cap) c.ep (c.nest : Int) c.err c.pos) 49)) (refC (.slice none 0 0) 0 0 0 0) 49; (try simp only [World.size_alloc] at h0); exact (h0.later ((Below.refl _ _).alloc (Nat.le_refl _) _))
  have Krn : Blk W1 (w.heap.size + 1 + 1) #[.int .i64 0, .int .i64 0, .int .i64 0, .string ⟨#[]⟩, .slice none 0 0] 25 := by rw [hW1]; have h0 := Blk.new ((w.alloc (.cells (refC (.slice a ln cap) c.ep (c.nest : Int) c.err c.pos) 49)).alloc (.cells (refC (.slice none 0 0) 0 0 0 0) 49)) #[.int .i64 0, .int .i64 0, .int .i64 0, .string ⟨#[]⟩, .slice none 0 0] 25; (try simp only [World.size_alloc] at h0); exact h0
  have hB1 : Below w.heap.size w W1 := by rw [hW1]; exact ((((Below.refl _ w).alloc (by simp; try omega) _).alloc (by simp; try omega) _).alloc (by simp; try omega) _)
  have Rc : WRow n W1 (.slice a ln cap) (c.ws.drop c.at') := hr.out.below (hB1.mono hn)
  have HW1 := Lib.hid hW1
  clear hW1 hr
  go_enter Try.func18, Try.ntmps18
  go_upto_region 1 with fail
  rw [← HW1.out]
  clear HW1
  have HC := refenter_any (RefIs.mk Rc) (Nat.le_trans hn hB1.size) HOK0.out
  rw [← HCE.out] at HC
  obtain ⟨⟨p0, p1, p2, p3, p4, p5, p6, p7⟩, pf0, pf1, pf2, pf3, pf4, pf5, pf6, pf7⟩ := cells8 Kp
  obtain ⟨⟨rc0, rc1, rc2, rc3, rc4, rc5, rc6, rc7⟩, rcf0, rcf1, rcf2, rcf3, rcf4, rcf5, rcf6, rcf7⟩ := cells8 Krc
  obtain ⟨⟨rn0, rn1, rn2, rn3, rn4⟩, rnf0, rnf1, rnf2, rnf3, rnf4⟩ := cells5 Krn
  go_wp2_with fail
  refine HC.mono ?_; rintro e W2 ⟨x', rfl, hx, hB⟩
  clear HC
  obtain ⟨a2, ln2, cap2, rfl, hRq, -⟩ := hx.shape
  have Rq2 := hRq.out
  clear hx hRq
  clear p0 p1 p2 p3 p4 p5 p6 p7 pf0 pf1 pf2 pf3 pf4 pf5 pf6 pf7 rc0 rc1 rc2 rc3 rc4 rc5 rc6 rc7 rcf0 rcf1 rcf2 rcf3 rcf4 rcf5 rcf6 rcf7 rn0 rn1 rn2 rn3 rn4 rnf0 rnf1 rnf2 rnf3 rnf4
  replace Kp := Kp.later hB
  replace Krc := Krc.later hB
  replace Krn := Krn.later hB
  replace Rc := Rc.below (hB.mono (Nat.le_trans hn hB1.size))
  have hs3 := hB.size
  have hB3 := hB1.trans (hB.mono hB1.size)
  clear hB hB1
  obtain ⟨⟨p0, p1, p2, p3, p4, p5, p6, p7⟩, pf0, pf1, pf2, pf3, pf4, pf5, pf6, pf7⟩ := cells8 Kp
  obtain ⟨⟨rc0, rc1, rc2, rc3, rc4, rc5, rc6, rc7⟩, rcf0, rcf1, rcf2, rcf3, rcf4, rcf5, rcf6, rcf7⟩ := cells8 Krc
  obtain ⟨⟨rn0, rn1, rn2, rn3, rn4⟩, rnf0, rnf1, rnf2, rnf3, rnf4⟩ := cells5 Krn
  obtain ⟨W4, hW4, KN, hP⟩ := c_put Kp (.slice a2 ln2 cap2) cE.ep (cE.nest : Int) cE.err cE.pos
  replace Krc := hP.blk Krc (by omega)
  replace Krn := hP.blk Krn (by omega)
  replace Rc := hP.row Rc (by omega)
  replace Rq2 := hP.row Rq2 (by omega)
  have hs5 := hP.size
  have hB5 := hP.below _ _ (by omega) hB3
  clear hP hB3
  replace Kp := KN
  clear KN
  go_upto_region 2 with fail
  rw [← hW4]
  clear hW4
  clear p0 p1 p2 p3 p4 p5 p6 p7 pf0 pf1 pf2 pf3 pf4 pf5 pf6 pf7 rc0 rc1 rc2 rc3 rc4 rc5 rc6 rc7 rcf0 rcf1 rcf2 rcf3 rcf4 rcf5 rcf6 rcf7 rn0 rn1 rn2 rn3 rn4 rnf0 rnf1 rnf2 rnf3 rnf4
  obtain ⟨⟨tk, tp, tn, tt⟩, hT⟩ : ∃ t, t = cE.peek := ⟨_, rfl⟩
  have HT := Lib.hid hT
  clear hT
  have HC := refpeek_l (RefIs.mk Rq2) (Nat.le_trans hn hB5.size)
  rw [← HT.out] at HC
  obtain ⟨⟨p0, p1, p2, p3, p4, p5, p6, p7⟩, pf0, pf1, pf2, pf3, pf4, pf5, pf6, pf7⟩ := cells8 Kp
  obtain ⟨⟨rc0, rc1, rc2, rc3, rc4, rc5, rc6, rc7⟩, rcf0, rcf1, rcf2, rcf3, rcf4, rcf5, rcf6, rcf7⟩ := cells8 Krc
  obtain ⟨⟨rn0, rn1, rn2, rn3, rn4⟩, rnf0, rnf1, rnf2, rnf3, rnf4⟩ := cells5 Krn
  go_wp2_with fail
  refine HC.mono ?_; rintro e W6 ⟨rfl, hB⟩
  clear HC
  clear p0 p1 p2 p3 p4 p5 p6 p7 pf0 pf1 pf2 pf3 pf4 pf5 pf6 pf7 rc0 rc1 rc2 rc3 rc4 rc5 rc6 rc7 rcf0 rcf1 rcf2 rcf3 rcf4 rcf5 rcf6 rcf7 rn0 rn1 rn2 rn3 rn4 rnf0 rnf1 rnf2 rnf3 rnf4
  replace Kp := Kp.later hB
  replace Krc := Krc.later hB
  replace Krn := Krn.later hB
  replace Rc := Rc.below (hB.mono (Nat.le_trans hn hB5.size))
  replace Rq2 := Rq2.below (hB.mono (Nat.le_trans hn hB5.size))
  have hs7 := hB.size
  have hB7 := hB5.trans (hB.mono hB5.size)
  clear hB hB5
  by_cases h2 : tk = 2
  case neg =>
    have hb : (tk != 2) = true := by rw [bne_iff_ne]; exact h2
    have HQ : Hid (rowR rf cE = atomR rf cE) := by show _ = _; unfold rowR; rw [← HT.out, if_neg h2]
    clear h2
    have HC := HATM.out _ _ _ (fun q => q) HK.out HOK.out (RefIs.mk Rq2) (Nat.le_trans hn hB7.size)
    obtain ⟨c8, hE⟩ : ∃ q, q = (atomR rf cE).1 := ⟨_, rfl⟩
    have E8 := Lib.hid hE
    clear hE
    obtain ⟨⟨p0, p1, p2, p3, p4, p5, p6, p7⟩, pf0, pf1, pf2, pf3, pf4, pf5, pf6, pf7⟩ := cells8 Kp
    obtain ⟨⟨rc0, rc1, rc2, rc3, rc4, rc5, rc6, rc7⟩, rcf0, rcf1, rcf2, rcf3, rcf4, rcf5, rcf6, rcf7⟩ := cells8 Krc
    obtain ⟨⟨rn0, rn1, rn2, rn3, rn4⟩, rnf0, rnf1, rnf2, rnf3, rnf4⟩ := cells5 Krn
    go_wp2_with fail
    refine HC.mono ?_; rintro e W8 ⟨x', e, rfl, hx, he, hB⟩
    clear HC
    rw [← E8.out] at hx
    obtain ⟨a8, ln8, cap8, rfl, hRq, -⟩ := hx.shape
    have Rq8 := hRq.out
    clear hx hRq
    clear p0 p1 p2 p3 p4 p5 p6 p7 pf0 pf1 pf2 pf3 pf4 pf5 pf6 pf7 rc0 rc1 rc2 rc3 rc4 rc5 rc6 rc7 rcf0 rcf1 rcf2 rcf3 rcf4 rcf5 rcf6 rcf7 rn0 rn1 rn2 rn3 rn4 rnf0 rnf1 rnf2 rnf3 rnf4
    replace Kp := Kp.later hB
    replace Krc := Krc.later hB
    replace Krn := Krn.later hB
    replace Rc := Rc.below (hB.mono (Nat.le_trans hn hB7.size))
    replace Rq2 := Rq2.below (hB.mono (Nat.le_trans hn hB7.size))
    have hs9 := hB.size
    have hB9 := hB7.trans (hB.mono hB7.size)
    clear hB hB7
    obtain ⟨ek, ep, en, et, eq, el, ec⟩ := e
    unfold NC.val
    have Te := he.mono (S' := (fun q => w.heap.size + 1 + 1 + 1 ≤ q)) fun q hq hl => (by omega)
    clear he
    go_upto_region 4 with fail
    replace Te := Te.mono (S' := (fun q => w.heap.size + 1 + 1 + 1 ≤ q ∧ q ≠ W8.heap.size ∧ q ≠ W8.heap.size + 1)) fun q hq hl => ⟨by omega, by omega, by omega⟩
    obtain ⟨W10, hV⟩ : ∃ x, x = (W8.alloc (.cells (refC (.slice a8 ln8 cap8) c8.ep (c8.nest : Int) c8.err c8.pos) 49)).alloc (.cells #[.int .i64 ek, .int .i64 ep, .int .i64 en, .string ⟨et.toArray⟩, .slice eq el ec] 25) := ⟨_, rfl⟩
    rw [← hV]
    have hB : Below W8.heap.size W8 W10 := by rw [hV]; exact ((Below.refl _ _).alloc (Nat.le_refl _) _).alloc (by simp) _
    have KC0 : Blk W10 (W8.heap.size) (refC (.slice a8 ln8 cap8) c8.ep (c8.nest : Int) c8.err c8.pos) 49 := by rw [hV]; exact (Blk.new W8 _ _).later ((Below.refl _ _).alloc (Nat.le_refl _) _)
    have KN0 : Blk W10 (W8.heap.size + 1) #[.int .i64 ek, .int .i64 ep, .int .i64 en, .string ⟨et.toArray⟩, .slice eq el ec] 25 := by rw [hV]; have h0 := Blk.new (W8.alloc (.cells (refC (.slice a8 ln8 cap8) c8.ep (c8.nest : Int) c8.err c8.pos) 49)) #[.int .i64 ek, .int .i64 ep, .int .i64 en, .string ⟨et.toArray⟩, .slice eq el ec] 25; simp only [World.size_alloc] at h0; exact h0
    have hz10 : W8.heap.size + 1 + 1 ≤ W10.heap.size := by rw [hV]; simp
    clear hV
    replace Kp := Kp.later hB
    replace Krc := Krc.later hB
    replace Krn := Krn.later hB
    replace Te := Te.keeps (w' := W10) ⟨hB.size, fun k hk hkl => hB.block k hkl⟩
    replace Rc := Rc.below (hB.mono (Nat.le_trans hn hB9.size))
    replace Rq2 := Rq2.below (hB.mono (Nat.le_trans hn hB9.size))
    replace Rq8 := Rq8.below (hB.mono (Nat.le_trans hn hB9.size))
    have hs11 := hB.size
    have hB11 := hB9.trans (hB.mono hB9.size)
    clear hB hB9
    have Kg := KC0
    clear KC0
    have Km := KN0
    clear KN0
    have HQ2 : Hid (((rowR rf cE).1.leave, (rowR rf cE).2) = (c8.leave, (atomR rf cE).2)) := by show _ = _; rw [HQ.out, E8.out]
    have HO2 : Hid (CuOk c8) := by show CuOk _; rw [E8.out]; exact (HFA.out _ HK.out).ok HOK.out
    clear HQ
    have HQ := HQ2
    clear HQ2
    obtain ⟨cL, hE⟩ : ∃ q, q = c8.leave := ⟨_, rfl⟩
    rw [← hE] at HQ
    have HL : ∀ wr, Below W10.heap.size W10 wr → Calls Try.prog 35 #[.agg (refC (.slice a8 ln8 cap8) c8.ep (c8.nest : Int) c8.err c8.pos)] wr (fun e w' => ∃ a5 ln5 cap5, e = .returned (.agg (refC (.slice a5 ln5 cap5) cL.ep (cL.nest : Int) cL.err cL.pos)) ∧ Hid (WRow n w' (.slice a5 ln5 cap5) (cL.ws.drop cL.at')) ∧ Below W10.heap.size W10 w') := by
      intro wr hb
      have hs := hB11.size
      have := refleave_any (RefIs.mk (Rq8.below (hb.mono (Nat.le_trans hn hs)))) (Nat.le_trans (Nat.le_trans hn hs) hb.size) HO2.out
      rw [← hE] at this
      refine this.mono ?_
      rintro e w5 ⟨x5, rfl, hx, hB⟩
      obtain ⟨a5, ln5, cap5, rfl, hr5, -⟩ := hx.shape
      exact ⟨a5, ln5, cap5, rfl, hr5, hb.trans (hB.mono hb.size)⟩
    have EL := Lib.hid hE
    clear hE
    obtain ⟨⟨p0, p1, p2, p3, p4, p5, p6, p7⟩, pf0, pf1, pf2, pf3, pf4, pf5, pf6, pf7⟩ := cells8 Kp
    obtain ⟨⟨rc0, rc1, rc2, rc3, rc4, rc5, rc6, rc7⟩, rcf0, rcf1, rcf2, rcf3, rcf4, rcf5, rcf6, rcf7⟩ := cells8 Krc
    obtain ⟨⟨rn0, rn1, rn2, rn3, rn4⟩, rnf0, rnf1, rnf2, rnf3, rnf4⟩ := cells5 Krn
    obtain ⟨⟨g0, g1, g2, g3, g4, g5, g6, g7⟩, gf0, gf1, gf2, gf3, gf4, gf5, gf6, gf7⟩ := cells8 Kg
    obtain ⟨⟨m0, m1, m2, m3, m4⟩, mf0, mf1, mf2, mf3, mf4⟩ := cells5 Km
    have dmrc : W8.heap.size + 1 ≠ w.heap.size + 1 := by omega
    have emrc : w.heap.size + 1 ≠ W8.heap.size + 1 := by omega
    have dmrn : W8.heap.size + 1 ≠ w.heap.size + 1 + 1 := by omega
    have emrn : w.heap.size + 1 + 1 ≠ W8.heap.size + 1 := by omega
    have drcrn : w.heap.size + 1 ≠ w.heap.size + 1 + 1 := by omega
    have ercrn : w.heap.size + 1 + 1 ≠ w.heap.size + 1 := by omega
    go_region_with (go_at_call 35; refine (HL _ ?_).mono ?_; (first | exact Below.refl _ _ | exact (Below.refl _ _).drew); rintro e w5 ⟨a5, ln5, cap5, rfl, hr5, hacc⟩; obtain ⟨⟨rcq0, rcq1, rcq2, rcq3, rcq4, rcq5, rcq6, rcq7⟩, rcqf0, rcqf1, rcqf2, rcqf3, rcqf4, rcqf5, rcqf6, rcqf7⟩ := cells8 (Krc.later hacc); obtain ⟨⟨rnq0, rnq1, rnq2, rnq3, rnq4⟩, rnqf0, rnqf1, rnqf2, rnqf3, rnqf4⟩ := cells5 (Krn.later hacc); obtain ⟨⟨mq0, mq1, mq2, mq3, mq4⟩, mqf0, mqf1, mqf2, mqf3, mqf4⟩ := cells5 (Km.later hacc))
    all_goals (
      obtain ⟨V7, hV7, KC, hP7⟩ := c_put (Krc.later hacc) (.slice a5 ln5 cap5) cL.ep (cL.nest : Int) cL.err cL.pos
      obtain ⟨V8, hV8, KN, hP8⟩ := n_put (z := zN) (hP7.blk (Krn.later hacc) (by omega)) ⟨ek, ep, en, et, eq, el, ec⟩
      dsimp only [zN] at hV8 KN
      rw [← hV7, ← hV8]
      have KC := hP8.blk KC (by omega)
      clear hV7 hV8 p0 p1 p2 p3 p4 p5 p6 p7 pf0 pf1 pf2 pf3 pf4 pf5 pf6 pf7 rc0 rc1 rc2 rc3 rc4 rc5 rc6 rc7 rcf0 rcf1 rcf2 rcf3 rcf4 rcf5 rcf6 rcf7 rn0 rn1 rn2 rn3 rn4 rnf0 rnf1 rnf2 rnf3 rnf4 g0 g1 g2 g3 g4 g5 g6 g7 gf0 gf1 gf2 gf3 gf4 gf5 gf6 gf7 m0 m1 m2 m3 m4 mf0 mf1 mf2 mf3 mf4
      go_wp2_with fail
      obtain ⟨⟨y0, y1, y2, y3, y4, y5, y6, y7⟩, -⟩ := cells8 KC
      obtain ⟨⟨z0, z1, z2, z3, z4⟩, -⟩ := cells5 KN
      refine bodyPost_ret (v := .tuple #[.agg (refC (.slice a5 ln5 cap5) cL.ep (cL.nest : Int) cL.err cL.pos), NC.val ⟨ek, ep, en, et, eq, el, ec⟩]) (by simp [results, Try.results18, go_sem, y0, y1, y2, y3, y4, y5, y6, y7, z0, z1, z2, z3, z4, NC.val]) rfl ⟨_, ⟨ek, ep, en, et, eq, el, ec⟩, rfl, ?_, ?_, hP8.below _ _ (by omega) (hP7.below _ _ (by omega) (hB11.trans (hacc.mono hB11.size)))⟩
      · rw [HQ.out]; exact RefIs.mk (hP8.row (hP7.row hr5.out (by omega)) (by omega))
      · rw [HQ.out]; exact (hP8.node (hP7.node (Te.keeps ⟨hacc.size, fun q hq hql => hacc.block q hql⟩) (by omega)) (by omega)).mono fun q hq _ => by omega)
  case pos =>
    subst h2
    have HE : Hid (cE.err = 0) := peek_err (by rw [← HT.out]; show (2 : Int) ≠ 0; decide)
    have hb : ((2 : Int) != 2) = false := rfl
    have HR : Hid (rowR rf cE = ((manyD begins (atomR rf) (cE.ws.length + 1) cE.adv []).1, .mk 14 tp 0 tt (manyD begins (atomR rf) (cE.ws.length + 1) cE.adv []).2)) := by show _ = _; unfold rowR; rw [← HT.out]; rfl
    have HC := refnext_l (RefIs.mk Rq2) (Nat.le_trans hn hB7.size)
    obtain ⟨c12, hE⟩ : ∃ q, q = cE.adv := ⟨_, rfl⟩
    rw [← hE] at HC
    rw [← HT.out] at HC
    have E12 := Lib.hid hE
    clear hE
    obtain ⟨⟨p0, p1, p2, p3, p4, p5, p6, p7⟩, pf0, pf1, pf2, pf3, pf4, pf5, pf6, pf7⟩ := cells8 Kp
    obtain ⟨⟨rc0, rc1, rc2, rc3, rc4, rc5, rc6, rc7⟩, rcf0, rcf1, rcf2, rcf3, rcf4, rcf5, rcf6, rcf7⟩ := cells8 Krc
    obtain ⟨⟨rn0, rn1, rn2, rn3, rn4⟩, rnf0, rnf1, rnf2, rnf3, rnf4⟩ := cells5 Krn
    go_wp2_with fail
    refine HC.mono ?_; rintro e W12 ⟨x', rfl, hx, hB⟩
    clear HC
    obtain ⟨a12, ln12, cap12, rfl, hRq, -⟩ := hx.shape
    have Rq12 := hRq.out
    clear hx hRq
    clear p0 p1 p2 p3 p4 p5 p6 p7 pf0 pf1 pf2 pf3 pf4 pf5 pf6 pf7 rc0 rc1 rc2 rc3 rc4 rc5 rc6 rc7 rcf0 rcf1 rcf2 rcf3 rcf4 rcf5 rcf6 rcf7 rn0 rn1 rn2 rn3 rn4 rnf0 rnf1 rnf2 rnf3 rnf4
    replace Kp := Kp.later hB
    replace Krc := Krc.later hB
    replace Krn := Krn.later hB
    replace Rc := Rc.below (hB.mono (Nat.le_trans hn hB7.size))
    replace Rq2 := Rq2.below (hB.mono (Nat.le_trans hn hB7.size))
    have hs13 := hB.size
    have hB13 := hB7.trans (hB.mono hB7.size)
    clear hB hB7
    obtain ⟨W14, hV⟩ : ∃ x, x = W12.alloc (.cells #[.int .i64 0, .int .i64 0, .int .i64 0, .string ⟨#[]⟩] 47) := ⟨_, rfl⟩
    have hB : Below W12.heap.size W12 W14 := by rw [hV]; exact (Below.refl _ _).alloc (Nat.le_refl _) _
    have KN0 : Blk W14 W12.heap.size #[.int .i64 0, .int .i64 0, .int .i64 0, .string ⟨#[]⟩] 47 := by rw [hV]; exact Blk.new W12 _ _
    have hz14 : W12.heap.size + 1 ≤ W14.heap.size := by rw [hV]; simp
    have HV := Lib.hid hV
    clear hV
    replace Kp := Kp.later hB
    replace Krc := Krc.later hB
    replace Krn := Krn.later hB
    replace Rc := Rc.below (hB.mono (Nat.le_trans hn hB13.size))
    replace Rq2 := Rq2.below (hB.mono (Nat.le_trans hn hB13.size))
    replace Rq12 := Rq12.below (hB.mono (Nat.le_trans hn hB13.size))
    have hs15 := hB.size
    have hB15 := hB13.trans (hB.mono hB13.size)
    clear hB hB13
    have Kt := KN0
    clear KN0
    have nt : W12.heap.size ≠ w.heap.size := by omega
    have ot : w.heap.size ≠ W12.heap.size := by omega
    obtain ⟨⟨p0, p1, p2, p3, p4, p5, p6, p7⟩, pf0, pf1, pf2, pf3, pf4, pf5, pf6, pf7⟩ := cells8 Kp
    obtain ⟨t0, t1, t2, t3⟩ := cells4 Kt
    have tf0 := Kt.frozen 0
    have tf1 := Kt.frozen 1
    have tf2 := Kt.frozen 2
    have tf3 := Kt.frozen 3
    rw [HV.out] at p0 p1 p2 p3 p4 p5 p6 p7 pf0 pf1 pf2 pf3 pf4 pf5 pf6 pf7 t0 t1 t2 t3 tf0 tf1 tf2 tf3
    obtain ⟨W16, hW16, KN, hP⟩ := c_put Kp (.slice a12 ln12 cap12) c12.ep (c12.nest : Int) c12.err c12.pos
    replace Krc := hP.blk Krc (by omega)
    replace Krn := hP.blk Krn (by omega)
    replace Kt := hP.blk Kt (by omega)
    replace Rc := hP.row Rc (by omega)
    replace Rq2 := hP.row Rq2 (by omega)
    replace Rq12 := hP.row Rq12 (by omega)
    have hs17 := hP.size
    have hB17 := hP.below _ _ (by omega) hB15
    clear hP hB15
    replace Kp := KN
    clear KN
    obtain ⟨W97, hW97, KN, hP⟩ := t_put Kt (.int .i64 2) (.int .i64 tp) (.int .i64 tn) (.string ⟨tt.toArray⟩)
    replace Kp := hP.blk Kp (by omega)
    replace Krc := hP.blk Krc (by omega)
    replace Krn := hP.blk Krn (by omega)
    replace Rc := hP.row Rc (by omega)
    replace Rq2 := hP.row Rq2 (by omega)
    replace Rq12 := hP.row Rq12 (by omega)
    have hs18 := hP.size
    have hB18 := hP.below _ _ (by omega) hB17
    clear hP hB17
    replace Kt := KN
    clear KN
    go_upto_region 6 with fail
    rw [← HV.out, ← hW16, ← hW97]
    clear HV hW16 hW97 p0 p1 p2 p3 p4 p5 p6 p7 pf0 pf1 pf2 pf3 pf4 pf5 pf6 pf7 t0 t1 t2 t3 tf0 tf1 tf2 tf3
    obtain ⟨⟨p0, p1, p2, p3, p4, p5, p6, p7⟩, pf0, pf1, pf2, pf3, pf4, pf5, pf6, pf7⟩ := cells8 Kp
    obtain ⟨⟨rc0, rc1, rc2, rc3, rc4, rc5, rc6, rc7⟩, rcf0, rcf1, rcf2, rcf3, rcf4, rcf5, rcf6, rcf7⟩ := cells8 Krc
    obtain ⟨⟨rn0, rn1, rn2, rn3, rn4⟩, rnf0, rnf1, rnf2, rnf3, rnf4⟩ := cells5 Krn
    obtain ⟨t0, t1, t2, t3⟩ := cells4 Kt
    go_wp2_with fail
    clear p0 p1 p2 p3 p4 p5 p6 p7 pf0 pf1 pf2 pf3 pf4 pf5 pf6 pf7 rc0 rc1 rc2 rc3 rc4 rc5 rc6 rc7 rcf0 rcf1 rcf2 rcf3 rcf4 rcf5 rcf6 rcf7 rn0 rn1 rn2 rn3 rn4 rnf0 rnf1 rnf2 rnf3 rnf4 t0 t1 t2 t3
    obtain ⟨W19, hW19⟩ : ∃ x, x = W97.alloc (.cells #[.int .i64 14, .int .i64 tp, .int .i64 0, .string ⟨tt.toArray⟩, .slice none 0 0] 25) := ⟨_, rfl⟩
    have hB : Below W97.heap.size W97 W19 := by rw [hW19]; exact (Below.refl _ _).alloc (Nat.le_refl _) _
    have KN : Blk W19 W97.heap.size #[.int .i64 14, .int .i64 tp, .int .i64 0, .string ⟨tt.toArray⟩, .slice none 0 0] 25 := by rw [hW19]; exact Blk.new W97 _ _
    have hz19 : W97.heap.size + 1 ≤ W19.heap.size := by rw [hW19]; simp
    replace Kp := Kp.later hB
    replace Krc := Krc.later hB
    replace Krn := Krn.later hB
    replace Kt := Kt.later hB
    replace Rc := Rc.below (hB.mono (Nat.le_trans hn hB18.size))
    replace Rq2 := Rq2.below (hB.mono (Nat.le_trans hn hB18.size))
    replace Rq12 := Rq12.below (hB.mono (Nat.le_trans hn hB18.size))
    have hs20 := hB.size
    have hB20 := hB18.trans (hB.mono hB18.size)
    clear hB hB18
    have Km := KN
    clear KN
    rw [← hW19]
    clear hW19
    have hfw := HOK.out.few
    go_loopg [38] (cE.ws.length + 1) (fun gk q wr => ∃ (d : Cu) (ks : List Nd) (a5 : Option Addr) (ln5 cap5 : Nat) (kp : Option Addr) (kl kc : Nat), AtSt n w (W97.heap.size) (W19.heap.size) (cE.ws.length + 1) k rf cE tp tt gk d ks (.slice a5 ln5 cap5) kp kl kc wr)
    case atStart => exact ⟨c12, [], a12, ln12, cap12, none, 0, 0, ⟨by rw [E12.out], fun _ => by rw [E12.out, (fine_adv cE).ws]; omega, by rw [E12.out]; exact .refl _, by simp, hB20, Nat.le_refl _, Kp, Krc, Krn, Km, Rq12, OwnRows.nil⟩⟩
    case round =>
      obtain ⟨d, ks, a5, ln5, cap5, kp, kl, kc, HS⟩ := hrel
      clear Kp Krc Krn Km Kt Rc hB20
      try clear Rq12
      have Kp := HS.pb
      have Krc := HS.rcb
      have Krn := HS.rnb
      have Km := HS.nb
      have hBw := HS.bel
      have hlow := HS.low
      have hsum := HS.sum
      have Rd := HS.row
      have Oo := HS.own
      have HM := Lib.hid HS.eq
      have HFW := Lib.hid HS.few
      have HFN := Lib.hid HS.fine
      clear HS
      have HOD := Lib.hid (HFN.out.ok ((fine_adv cE).ok HOK.out))
      have HKC : Hid (200 ≤ cE.nest + (k + 1)) := HK.out.resolve_right fun q => q HE.out
      have HKE : Hid (d.err = 0 → 200 ≤ d.nest + (k + 1)) := fun he => by rw [HFN.out.nest he, (fine_adv cE).nest (by rw [adv_err]; exact HE.out)]; exact HKC.out
      have HKD : Hid (200 ≤ d.nest + (k + 1) ∨ d.err ≠ 0) := by by_cases he : d.err = 0; exact .inl (HKE.out he); exact .inr he
      cases hb : begins d with
      | false =>
        have HQ : Hid (((rowR rf cE).1.leave, (rowR rf cE).2) = (d.leave, .mk 14 tp 0 tt ks)) := by show _ = _; rw [HR.out, ← HM.out, many_end hb]
        have Tl := Oo.node 14 tp 0 tt
        clear Oo
        have HC := refbegins_any (RefIs.mk Rd) (Nat.le_trans hn hBw.size)
        rw [hb] at HC
        obtain ⟨⟨p0, p1, p2, p3, p4, p5, p6, p7⟩, pf0, pf1, pf2, pf3, pf4, pf5, pf6, pf7⟩ := cells8 Kp
        obtain ⟨⟨rc0, rc1, rc2, rc3, rc4, rc5, rc6, rc7⟩, rcf0, rcf1, rcf2, rcf3, rcf4, rcf5, rcf6, rcf7⟩ := cells8 Krc
        obtain ⟨⟨rn0, rn1, rn2, rn3, rn4⟩, rnf0, rnf1, rnf2, rnf3, rnf4⟩ := cells5 Krn
        obtain ⟨⟨m0, m1, m2, m3, m4⟩, mf0, mf1, mf2, mf3, mf4⟩ := cells5 Km
        go_wp2_with fail
        refine HC.mono ?_; rintro e W21 ⟨rfl, hB⟩
        clear HC
        clear p0 p1 p2 p3 p4 p5 p6 p7 pf0 pf1 pf2 pf3 pf4 pf5 pf6 pf7 rc0 rc1 rc2 rc3 rc4 rc5 rc6 rc7 rcf0 rcf1 rcf2 rcf3 rcf4 rcf5 rcf6 rcf7 rn0 rn1 rn2 rn3 rn4 rnf0 rnf1 rnf2 rnf3 rnf4 m0 m1 m2 m3 m4 mf0 mf1 mf2 mf3 mf4
        replace Kp := Kp.later hB
        replace Krc := Krc.later hB
        replace Krn := Krn.later hB
        replace Km := Km.later hB
        replace Tl := Tl.keeps (w' := W21) ⟨hB.size, fun k hk hkl => hB.block k hkl⟩
        replace Rd := Rd.below (hB.mono (Nat.le_trans hn hBw.size))
        have hs22 := hB.size
        have hB22 := hBw.trans (hB.mono hBw.size)
        clear hB hBw
        obtain ⟨⟨p0, p1, p2, p3, p4, p5, p6, p7⟩, pf0, pf1, pf2, pf3, pf4, pf5, pf6, pf7⟩ := cells8 Kp
        obtain ⟨⟨rc0, rc1, rc2, rc3, rc4, rc5, rc6, rc7⟩, rcf0, rcf1, rcf2, rcf3, rcf4, rcf5, rcf6, rcf7⟩ := cells8 Krc
        obtain ⟨⟨rn0, rn1, rn2, rn3, rn4⟩, rnf0, rnf1, rnf2, rnf3, rnf4⟩ := cells5 Krn
        obtain ⟨⟨m0, m1, m2, m3, m4⟩, mf0, mf1, mf2, mf3, mf4⟩ := cells5 Km
        go_upto_region 11 with fail
        clear p0 p1 p2 p3 p4 p5 p6 p7 pf0 pf1 pf2 pf3 pf4 pf5 pf6 pf7 rc0 rc1 rc2 rc3 rc4 rc5 rc6 rc7 rcf0 rcf1 rcf2 rcf3 rcf4 rcf5 rcf6 rcf7 rn0 rn1 rn2 rn3 rn4 rnf0 rnf1 rnf2 rnf3 rnf4 m0 m1 m2 m3 m4 mf0 mf1 mf2 mf3 mf4
        obtain ⟨cL, hE⟩ : ∃ q, q = d.leave := ⟨_, rfl⟩
        rw [← hE] at HQ
        have HL : ∀ wr, Below W21.heap.size W21 wr → Calls Try.prog 35 #[.agg (refC (.slice a5 ln5 cap5) d.ep (d.nest : Int) d.err d.pos)] wr (fun e w' => ∃ a5 ln5 cap5, e = .returned (.agg (refC (.slice a5 ln5 cap5) cL.ep (cL.nest : Int) cL.err cL.pos)) ∧ Hid (WRow n w' (.slice a5 ln5 cap5) (cL.ws.drop cL.at')) ∧ Below W21.heap.size W21 w') := by
          intro wr hb
          have hs := hB22.size
          have := refleave_any (RefIs.mk (Rd.below (hb.mono (Nat.le_trans hn hs)))) (Nat.le_trans (Nat.le_trans hn hs) hb.size) HOD.out
          rw [← hE] at this
          refine this.mono ?_
          rintro e w5 ⟨x5, rfl, hx, hB⟩
          obtain ⟨a5, ln5, cap5, rfl, hr5, -⟩ := hx.shape
          exact ⟨a5, ln5, cap5, rfl, hr5, hb.trans (hB.mono hb.size)⟩
        have EL := Lib.hid hE
        clear hE
        obtain ⟨⟨p0, p1, p2, p3, p4, p5, p6, p7⟩, pf0, pf1, pf2, pf3, pf4, pf5, pf6, pf7⟩ := cells8 Kp
        obtain ⟨⟨rc0, rc1, rc2, rc3, rc4, rc5, rc6, rc7⟩, rcf0, rcf1, rcf2, rcf3, rcf4, rcf5, rcf6, rcf7⟩ := cells8 Krc
        obtain ⟨⟨rn0, rn1, rn2, rn3, rn4⟩, rnf0, rnf1, rnf2, rnf3, rnf4⟩ := cells5 Krn
        obtain ⟨⟨m0, m1, m2, m3, m4⟩, mf0, mf1, mf2, mf3, mf4⟩ := cells5 Km
        have dmrc : W97.heap.size ≠ w.heap.size + 1 := by omega
        have emrc : w.heap.size + 1 ≠ W97.heap.size := by omega
        have dmrn : W97.heap.size ≠ w.heap.size + 1 + 1 := by omega
        have emrn : w.heap.size + 1 + 1 ≠ W97.heap.size := by omega
        have drcrn : w.heap.size + 1 ≠ w.heap.size + 1 + 1 := by omega
        have ercrn : w.heap.size + 1 + 1 ≠ w.heap.size + 1 := by omega
        go_region_with (go_at_call 35; refine (HL _ ?_).mono ?_; (first | exact Below.refl _ _ | exact (Below.refl _ _).drew); rintro e w5 ⟨a5, ln5, cap5, rfl, hr5, hacc⟩; obtain ⟨⟨rcq0, rcq1, rcq2, rcq3, rcq4, rcq5, rcq6, rcq7⟩, rcqf0, rcqf1, rcqf2, rcqf3, rcqf4, rcqf5, rcqf6, rcqf7⟩ := cells8 (Krc.later hacc); obtain ⟨⟨rnq0, rnq1, rnq2, rnq3, rnq4⟩, rnqf0, rnqf1, rnqf2, rnqf3, rnqf4⟩ := cells5 (Krn.later hacc); obtain ⟨⟨mq0, mq1, mq2, mq3, mq4⟩, mqf0, mqf1, mqf2, mqf3, mqf4⟩ := cells5 (Km.later hacc))
        all_goals (
          obtain ⟨V7, hV7, KC, hP7⟩ := c_put (Krc.later hacc) (.slice a5 ln5 cap5) cL.ep (cL.nest : Int) cL.err cL.pos
          obtain ⟨V8, hV8, KN, hP8⟩ := n_put (z := zN) (hP7.blk (Krn.later hacc) (by omega)) ⟨14, tp, 0, tt, kp, kl, kc⟩
          dsimp only [zN] at hV8 KN
          rw [← hV7, ← hV8]
          have KC := hP8.blk KC (by omega)
          clear hV7 hV8 p0 p1 p2 p3 p4 p5 p6 p7 pf0 pf1 pf2 pf3 pf4 pf5 pf6 pf7 rc0 rc1 rc2 rc3 rc4 rc5 rc6 rc7 rcf0 rcf1 rcf2 rcf3 rcf4 rcf5 rcf6 rcf7 rn0 rn1 rn2 rn3 rn4 rnf0 rnf1 rnf2 rnf3 rnf4 m0 m1 m2 m3 m4 mf0 mf1 mf2 mf3 mf4
          go_wp2_with fail
          obtain ⟨⟨y0, y1, y2, y3, y4, y5, y6, y7⟩, -⟩ := cells8 KC
          obtain ⟨⟨z0, z1, z2, z3, z4⟩, -⟩ := cells5 KN
          refine bodyPost_ret (v := .tuple #[.agg (refC (.slice a5 ln5 cap5) cL.ep (cL.nest : Int) cL.err cL.pos), NC.val ⟨14, tp, 0, tt, kp, kl, kc⟩]) (by simp [results, Try.results18, go_sem, y0, y1, y2, y3, y4, y5, y6, y7, z0, z1, z2, z3, z4, NC.val]) rfl ⟨_, ⟨14, tp, 0, tt, kp, kl, kc⟩, rfl, ?_, ?_, hP8.below _ _ (by omega) (hP7.below _ _ (by omega) (hB22.trans (hacc.mono hB22.size)))⟩
          · rw [HQ.out]; exact RefIs.mk (hP8.row (hP7.row hr5.out (by omega)) (by omega))
          · rw [HQ.out]; exact (hP8.node (hP7.node (Tl.keeps ⟨hacc.size, fun q hq hql => hacc.block q hql⟩) (by omega)) (by omega)).mono fun q hq _ => by omega)
      | true =>
        cases gk with
        | zero => exact absurd (HFW.out hb) (Nat.not_lt_zero _)
        | succ gf =>
          have HC := refbegins_any (RefIs.mk Rd) (Nat.le_trans hn hBw.size)
          rw [hb] at HC
          obtain ⟨⟨p0, p1, p2, p3, p4, p5, p6, p7⟩, pf0, pf1, pf2, pf3, pf4, pf5, pf6, pf7⟩ := cells8 Kp
          obtain ⟨⟨rc0, rc1, rc2, rc3, rc4, rc5, rc6, rc7⟩, rcf0, rcf1, rcf2, rcf3, rcf4, rcf5, rcf6, rcf7⟩ := cells8 Krc
          obtain ⟨⟨rn0, rn1, rn2, rn3, rn4⟩, rnf0, rnf1, rnf2, rnf3, rnf4⟩ := cells5 Krn
          obtain ⟨⟨m0, m1, m2, m3, m4⟩, mf0, mf1, mf2, mf3, mf4⟩ := cells5 Km
          go_wp2_with fail
          refine HC.mono ?_; rintro e W23 ⟨rfl, hB⟩
          clear HC
          clear p0 p1 p2 p3 p4 p5 p6 p7 pf0 pf1 pf2 pf3 pf4 pf5 pf6 pf7 rc0 rc1 rc2 rc3 rc4 rc5 rc6 rc7 rcf0 rcf1 rcf2 rcf3 rcf4 rcf5 rcf6 rcf7 rn0 rn1 rn2 rn3 rn4 rnf0 rnf1 rnf2 rnf3 rnf4 m0 m1 m2 m3 m4 mf0 mf1 mf2 mf3 mf4
          replace Kp := Kp.later hB
          replace Krc := Krc.later hB
          replace Krn := Krn.later hB
          replace Km := Km.later hB
          replace Oo := Oo.keep (grownBy_below hB (some w.heap.size)) (by omega)
          replace Rd := Rd.below (hB.mono (Nat.le_trans hn hBw.size))
          have hs24 := hB.size
          have hB24 := hBw.trans (hB.mono hBw.size)
          clear hB hBw
          have HBK : Hid (∀ b, (Value.slice kp kl kc).ownBlock = some b → W19.heap.size ≤ b ∧ b < W23.heap.size) := by obtain ⟨ds, _, q, _⟩ := Oo; exact fun b hb => q.lt b hb
          have HC := HATM.out _ _ _ (fun q => absurd HE.out q) HKD.out HOD.out (RefIs.mk Rd) (Nat.le_trans hn hB24.size)
          obtain ⟨c25, hE⟩ : ∃ q, q = (atomR rf d).1 := ⟨_, rfl⟩
          have E25 := Lib.hid hE
          clear hE
          obtain ⟨⟨p0, p1, p2, p3, p4, p5, p6, p7⟩, pf0, pf1, pf2, pf3, pf4, pf5, pf6, pf7⟩ := cells8 Kp
          obtain ⟨⟨rc0, rc1, rc2, rc3, rc4, rc5, rc6, rc7⟩, rcf0, rcf1, rcf2, rcf3, rcf4, rcf5, rcf6, rcf7⟩ := cells8 Krc
          obtain ⟨⟨rn0, rn1, rn2, rn3, rn4⟩, rnf0, rnf1, rnf2, rnf3, rnf4⟩ := cells5 Krn
          obtain ⟨⟨m0, m1, m2, m3, m4⟩, mf0, mf1, mf2, mf3, mf4⟩ := cells5 Km
          go_wp2_with fail
          refine HC.mono ?_; rintro e W25 ⟨x', e, rfl, hx, he, hB⟩
          clear HC
          rw [← E25.out] at hx
          obtain ⟨a25, ln25, cap25, rfl, hRq, -⟩ := hx.shape
          have Rq25 := hRq.out
          clear hx hRq
          clear p0 p1 p2 p3 p4 p5 p6 p7 pf0 pf1 pf2 pf3 pf4 pf5 pf6 pf7 rc0 rc1 rc2 rc3 rc4 rc5 rc6 rc7 rcf0 rcf1 rcf2 rcf3 rcf4 rcf5 rcf6 rcf7 rn0 rn1 rn2 rn3 rn4 rnf0 rnf1 rnf2 rnf3 rnf4 m0 m1 m2 m3 m4 mf0 mf1 mf2 mf3 mf4
          replace Kp := Kp.later hB
          replace Krc := Krc.later hB
          replace Krn := Krn.later hB
          replace Km := Km.later hB
          replace Oo := Oo.keep (grownBy_below hB (some w.heap.size)) (by omega)
          replace Rd := Rd.below (hB.mono (Nat.le_trans hn hB24.size))
          have hs26 := hB.size
          have hB26 := hB24.trans (hB.mono hB24.size)
          clear hB hB24
          obtain ⟨ek, ep, en, et, eq, el, ec⟩ := e
          unfold NC.val
          have Te := he.mono (S' := (fun q => W23.heap.size ≤ q)) fun q hq hl => (by omega)
          clear he
          go_upto_region 9 with fail
          replace Te := Te.mono (S' := (fun q => W23.heap.size ≤ q ∧ q ≠ W25.heap.size ∧ q ≠ W25.heap.size + 1)) fun q hq hl => ⟨by omega, by omega, by omega⟩
          obtain ⟨W27, hV⟩ : ∃ x, x = (W25.alloc (.cells (refC (.slice a25 ln25 cap25) c25.ep (c25.nest : Int) c25.err c25.pos) 49)).alloc (.cells #[.int .i64 ek, .int .i64 ep, .int .i64 en, .string ⟨et.toArray⟩, .slice eq el ec] 25) := ⟨_, rfl⟩
          rw [← hV]
          have hB : Below W25.heap.size W25 W27 := by rw [hV]; exact ((Below.refl _ _).alloc (Nat.le_refl _) _).alloc (by simp) _
          have KC0 : Blk W27 (W25.heap.size) (refC (.slice a25 ln25 cap25) c25.ep (c25.nest : Int) c25.err c25.pos) 49 := by rw [hV]; exact (Blk.new W25 _ _).later ((Below.refl _ _).alloc (Nat.le_refl _) _)
          have KN0 : Blk W27 (W25.heap.size + 1) #[.int .i64 ek, .int .i64 ep, .int .i64 en, .string ⟨et.toArray⟩, .slice eq el ec] 25 := by rw [hV]; have h0 := Blk.new (W25.alloc (.cells (refC (.slice a25 ln25 cap25) c25.ep (c25.nest : Int) c25.err c25.pos) 49)) #[.int .i64 ek, .int .i64 ep, .int .i64 en, .string ⟨et.toArray⟩, .slice eq el ec] 25; simp only [World.size_alloc] at h0; exact h0
          have hz27 : W25.heap.size + 1 + 1 ≤ W27.heap.size := by rw [hV]; simp
          clear hV
          replace Kp := Kp.later hB
          replace Krc := Krc.later hB
          replace Krn := Krn.later hB
          replace Km := Km.later hB
          replace Te := Te.keeps (w' := W27) ⟨hB.size, fun k hk hkl => hB.block k hkl⟩
          replace Oo := Oo.keep (grownBy_below hB (some w.heap.size)) (by omega)
          replace Rd := Rd.below (hB.mono (Nat.le_trans hn hB26.size))
          replace Rq25 := Rq25.below (hB.mono (Nat.le_trans hn hB26.size))
          have hs28 := hB.size
          have hB28 := hB26.trans (hB.mono hB26.size)
          clear hB hB26
          have Kg := KC0
          clear KC0
          have Km2 := KN0
          clear KN0
          obtain ⟨⟨p0, p1, p2, p3, p4, p5, p6, p7⟩, pf0, pf1, pf2, pf3, pf4, pf5, pf6, pf7⟩ := cells8 Kp
          obtain ⟨⟨rc0, rc1, rc2, rc3, rc4, rc5, rc6, rc7⟩, rcf0, rcf1, rcf2, rcf3, rcf4, rcf5, rcf6, rcf7⟩ := cells8 Krc
          obtain ⟨⟨rn0, rn1, rn2, rn3, rn4⟩, rnf0, rnf1, rnf2, rnf3, rnf4⟩ := cells5 Krn
          obtain ⟨⟨m0, m1, m2, m3, m4⟩, mf0, mf1, mf2, mf3, mf4⟩ := cells5 Km
          obtain ⟨⟨g0, g1, g2, g3, g4, g5, g6, g7⟩, gf0, gf1, gf2, gf3, gf4, gf5, gf6, gf7⟩ := cells8 Kg
          obtain ⟨⟨m20, m21, m22, m23, m24⟩, m2f0, m2f1, m2f2, m2f3, m2f4⟩ := cells5 Km2
          obtain ⟨W29, hW29, KN, hP⟩ := c_put Kp (.slice a25 ln25 cap25) c25.ep (c25.nest : Int) c25.err c25.pos
          replace Krc := hP.blk Krc (by omega)
          replace Krn := hP.blk Krn (by omega)
          replace Km := hP.blk Km (by omega)
          replace Kg := hP.blk Kg (by omega)
          replace Km2 := hP.blk Km2 (by omega)
          replace Te := hP.node Te (by omega)
          replace Oo := Oo.keep hP.grown (by omega)
          replace Rd := hP.row Rd (by omega)
          replace Rq25 := hP.row Rq25 (by omega)
          have hs30 := hP.size
          have hB30 := hP.below _ _ (by omega) hB28
          clear hP hB28
          replace Kp := KN
          clear KN
          go_upto_region 10 with fail
          rw [← hW29]
          clear hW29
          clear p0 p1 p2 p3 p4 p5 p6 p7 pf0 pf1 pf2 pf3 pf4 pf5 pf6 pf7 rc0 rc1 rc2 rc3 rc4 rc5 rc6 rc7 rcf0 rcf1 rcf2 rcf3 rcf4 rcf5 rcf6 rcf7 rn0 rn1 rn2 rn3 rn4 rnf0 rnf1 rnf2 rnf3 rnf4 m0 m1 m2 m3 m4 mf0 mf1 mf2 mf3 mf4 g0 g1 g2 g3 g4 g5 g6 g7 gf0 gf1 gf2 gf3 gf4 gf5 gf6 gf7 m20 m21 m22 m23 m24 m2f0 m2f1 m2f2 m2f3 m2f4
          obtain ⟨⟨p0, p1, p2, p3, p4, p5, p6, p7⟩, pf0, pf1, pf2, pf3, pf4, pf5, pf6, pf7⟩ := cells8 Kp
          obtain ⟨⟨rc0, rc1, rc2, rc3, rc4, rc5, rc6, rc7⟩, rcf0, rcf1, rcf2, rcf3, rcf4, rcf5, rcf6, rcf7⟩ := cells8 Krc
          obtain ⟨⟨rn0, rn1, rn2, rn3, rn4⟩, rnf0, rnf1, rnf2, rnf3, rnf4⟩ := cells5 Krn
          obtain ⟨⟨m0, m1, m2, m3, m4⟩, mf0, mf1, mf2, mf3, mf4⟩ := cells5 Km
          obtain ⟨⟨g0, g1, g2, g3, g4, g5, g6, g7⟩, gf0, gf1, gf2, gf3, gf4, gf5, gf6, gf7⟩ := cells8 Kg
          obtain ⟨⟨m20, m21, m22, m23, m24⟩, m2f0, m2f1, m2f2, m2f3, m2f4⟩ := cells5 Km2
          obtain ⟨ds, e1, e2, e3⟩ := Oo
          have HE3 := Lib.hid e3
          have HE1 := Lib.hid e1
          clear e3 e1
          go_wp2_with (at_builtin; refine wpList_append_at rfl _ _ 23 rfl (W19.heap.size) 25 i0 _ 5 64 Try.underlying23 hi0 hz0 hz1 hz2 rfl (by decide) _ _ _ rfl (e2.alloc _) ⟨_, 0, none⟩ 1 1 (encN ⟨ek, ep, en, et, eq, el, ec⟩) rfl rfl (cells_of_new _ _ _ _ rfl) (encN_one _) ?_ ?_ ?_ ?_; (unfold maxLen; omega); omega; (simp; omega); intro v3 w3 ho3 hg3 hat3; have hal := (World.grownBy_alloc W29 (.cells #[.int .i64 ek, .int .i64 ep, .int .i64 en, .string ⟨et.toArray⟩, .slice eq el ec] 25) (Value.slice kp kl kc).ownBlock).andThen hg3 (fun j hj => .inr hj); have hat4 : v3.ownBlock = (Value.slice kp kl kc).ownBlock ∨ ∃ n, v3.ownBlock = some n ∧ W29.heap.size ≤ n := hat3.imp id fun e => ⟨_, e, by simp⟩; have HO3 := OwnRows.snoc HE1.out HE3.out (Te.mono fun b hb _ => ⟨by omega, fun e => by have := (HBK.out b e).2; omega⟩) ho3 hal hat4; obtain ⟨p3, cap3, q0⟩ := HO3.shape; have q3 : v3 = .slice p3 (ks.length + 1) cap3 := q0.trans (by rw [List.length_append]; rfl); clear q0; subst q3; have KM := (Km.later (w' := W29.alloc (.cells #[.int .i64 ek, .int .i64 ep, .int .i64 en, .string ⟨et.toArray⟩, .slice eq el ec] 25)) ((Below.refl _ _).alloc (Nat.le_refl _) _)).kept hg3 (fun e => by have := (HBK.out _ e.symm).1; omega); obtain ⟨⟨m0, m1, m2, m3, m4⟩, mf0, mf1, mf2, mf3, mf4⟩ := cells5 KM)
          have HB3 : Below w.heap.size W29 w3 := below_own hal (fun b hb => by have := (HBK.out b hb).1; omega) (by omega)
          have hP := Put.one w3 (W97.heap.size) 4 (.slice p3 (ks.length + 1) cap3)
          have KM2 := KM.set 4 (.slice p3 (ks.length + 1) cap3)
          replace Kp := hP.blk (Kp.kept hal (fun e => by have := (HBK.out _ e.symm).1; omega)) (by omega)
          replace Krc := hP.blk (Krc.kept hal (fun e => by have := (HBK.out _ e.symm).1; omega)) (by omega)
          replace Krn := hP.blk (Krn.kept hal (fun e => by have := (HBK.out _ e.symm).1; omega)) (by omega)
          have HX6 := Lib.hid (HFW.out hb)
          have hsz3 := hal.size
          have hsz4 := hP.size
          go_roundg gf
          case measure => omega
          case rel =>
            refine ⟨c25, ks ++ [(atomR rf d).2], a25, ln25, cap25, p3, _, cap3, ⟨?_, fun hb2 => ?_, ?_, ?_, hP.below _ _ (by omega) (hB30.trans HB3), by omega, Kp, Krc, Krn, KM2, hP.row (Rq25.below (HB3.mono hn)) (by omega), HO3.keep hP.grown (by omega)⟩⟩
            · rw [E25.out, ← HM.out, many_step hb]
            · have g1 := begins_err hb2
              have g2 := begins_lt hb
              have g3 := begins_err hb
              have g4 := HAT.out d (HKE.out g3) (by rw [← E25.out]; exact g1)
              have g5 := (HFA.out d HKD.out).ws
              rw [← E25.out] at g4 g5
              have g6 := HX6.out
              rw [g5]
              omega
            · rw [E25.out]; exact HFN.out.trans (HFA.out d HKD.out)
            · simp; omega
end Go.Proofs.Ytemgocegnlehoaa.N8
