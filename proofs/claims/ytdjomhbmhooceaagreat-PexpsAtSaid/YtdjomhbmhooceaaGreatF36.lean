import Derived.Test.YtdjomhbmhooceaaGreatF31
set_option maxHeartbeats 4000000
set_option maxRecDepth 100000
set_option linter.unusedVariables false
set_option linter.unusedSimpArgs false
namespace Go.Proofs.YtdjomhbmhooceaaGreat.N9
open Go.RowKit N5 N6 N7
attribute [local go_sem] xB xA
def RefMore (n : Nat) (c : Cu) (w : World) (e : Ending) (w' : World) : Prop := ∃ x', e = .returned (.tuple #[x', .bool (vQ c)]) /\ zF n w' x' (c.take [59]) /\ Below w.heap.size w w'
theorem jH {n : Nat} {w : World} {x : Value} {c : Cu} (h : zF n w x c) (hn : n <= w.heap.size) : Calls Tryz.prog 103 #[x] w (RefMore n c w) := by
 obtain ⟨a, ln, cap, rfl, hr, -⟩ := h.shape;clear h;obtain ⟨W1, hW1, Kp, Krc, hB1, hsz⟩ := vC w ((zK (.slice a ln cap) c.ep (c.nest : Int) c.err c.pos)) 40 ((zK (.slice none 0 0) 0 0 0 0)) 40;have Rc : xW n W1 (.slice a ln cap) (c.ws.drop c.at') := hr.out.below (hB1.mono hn);have HW1 := Lib.hid hW1;clear hW1 hr;go_enter Tryz.func103, Tryz.ntmps103;go_upto_region 1 with fail;rw [<- HW1.out];clear HW1;cases hi : c.is [59] with
 | false =>
  have HQ : Hid (vQ c = false) := by show (c.is [59] && _) = false; rw [hi]; rfl
  have HC := xD (zF.mk Rc) (Nat.le_trans hn hB1.size) [59];obtain ⟨c2, hE⟩ : ∃ q, q = c.take [59] := ⟨_, rfl⟩;rw [<- hE] at HC;rw [hi] at HC;have E2 := Lib.hid hE;clear hE;have f_p := yH (zB Kp) (zB Krc);go_wp2_with fail;refine HC.mono ?_; rintro e W2 ⟨x', rfl, hx, hB⟩;clear HC;obtain ⟨a2, ln2, cap2, rfl, hRq, -⟩ := hx.shape;have Rq2 := hRq.out;clear hx hRq;clear f_p;obtain ⟨Kp, Krc⟩ := gN hB Kp Krc;replace Rc := Rc.bl hB hn hB1;have hs3 := hB.size;have hB3 := zS hB1 hB;clear hB hB1;have f_p := yH (zB Kp) (zB Krc);obtain ⟨W4, hW4, KN, hP⟩ := zQ Kp (.slice a2 ln2 cap2) c2.ep (c2.nest : Int) c2.err c2.pos;replace Krc := hP.blk Krc (by omega);replace Rc := hP.row Rc (by omega);replace Rq2 := hP.row Rq2 (by omega);have hs5 := hP.size;have hB5 := hP.below _ _ (by omega) hB3;clear hP hB3;replace Kp := KN;clear KN;go_upto_region 2 with fail;rw [<- hW4];clear hW4;clear f_p;have f_p := yH (zB Kp) (zB Krc);have ltp : w.heap.size < W4.heap.size := by omega
  have ltrc : w.heap.size + 1 < W4.heap.size := by omega
  go_wp2_with fail;go_region;all_goals (
   obtain ⟨V7, hV7, KC, hP7⟩ := zQ Krc (.slice a2 ln2 cap2) c2.ep (c2.nest : Int) c2.err c2.pos
   rw [<- hV7]
   have hacc : Below V7.heap.size V7 V7.drew := (Below.refl _ _).drew
   replace KC := KC.later hacc
   clear hV7 f_p
   go_wp2_with fail
   obtain ⟨⟨y0, y1, y2, y3, y4, y5, y6, y7⟩, -⟩ := zB KC
   refine bodyPost_ret (v := .tuple #[.agg (zK (.slice a2 ln2 cap2) c2.ep (c2.nest : Int) c2.err c2.pos), .bool (false)]) (by simp [results, Tryz.results103, go_sem, y0, y1, y2, y3, y4, y5, y6, y7]) rfl ⟨_, by rw [HQ.out], ?_, (hP7.below _ _ (by omega) hB5).trans (hacc.mono (hP7.below _ _ (by omega) hB5).size)⟩
   rw [<- E2.out]
   exact zF.mk ((hP7.row Rq2 (by omega)).below (hacc.mono (Nat.le_trans hn (hP7.below _ _ (by omega) hB5).size))))
 | true =>
  have HQ : Hid (vQ c = !(c.take [59]).is [125]) := by show (c.is [59] && _) = _; rw [hi]; rfl
  have HC := xD (zF.mk Rc) (Nat.le_trans hn hB1.size) [59];obtain ⟨c6, hE⟩ : ∃ q, q = c.take [59] := ⟨_, rfl⟩;rw [<- hE] at HC;rw [hi] at HC;have E6 := Lib.hid hE;clear hE;have f_p := yH (zB Kp) (zB Krc);go_wp2_with fail;refine HC.mono ?_; rintro e W6 ⟨x', rfl, hx, hB⟩;clear HC;obtain ⟨a6, ln6, cap6, rfl, hRq, -⟩ := hx.shape;have Rq6 := hRq.out;clear hx hRq;clear f_p;obtain ⟨Kp, Krc⟩ := gN hB Kp Krc;replace Rc := Rc.bl hB hn hB1;have hs7 := hB.size;have hB7 := zS hB1 hB;clear hB hB1;have f_p := yH (zB Kp) (zB Krc);obtain ⟨W8, hW8, KN, hP⟩ := zQ Kp (.slice a6 ln6 cap6) c6.ep (c6.nest : Int) c6.err c6.pos;replace Krc := hP.blk Krc (by omega);replace Rc := hP.row Rc (by omega);replace Rq6 := hP.row Rq6 (by omega);have hs9 := hP.size;have hB9 := hP.below _ _ (by omega) hB7;clear hP hB7;replace Kp := KN;clear KN;go_upto_region 2 with fail;rw [<- hW8];clear hW8;clear f_p;obtain ⟨b, hb⟩ : ∃ b, b = c6.is [125] := ⟨_, rfl⟩;rw [<- E6.out, <- hb] at HQ;have HI : ∀ wx, Below W8.heap.size W8 wx -> Calls Tryz.prog 62 #[.agg (zK (.slice a6 ln6 cap6) c6.ep (c6.nest : Int) c6.err c6.pos), .string ⟨#[125]⟩] wx (fun e w' => e = .returned (.bool b) /\ Below W8.heap.size W8 w') := by
   intro wx hB;have hs := hB9.size;have := uK (zF.mk (Rq6.below (hB.mono (Nat.le_trans hn hs)))) (Nat.le_trans (Nat.le_trans hn hs) hB.size) [125];rw [<- hb] at this;exact this.mono fun e w2 q => ⟨q.1, hB.trans (q.2.mono hB.size)⟩
  clear hb;have f_p := yH (zB Kp) (zB Krc);have ltp : w.heap.size < W8.heap.size := by omega
  have ltrc : w.heap.size + 1 < W8.heap.size := by omega
  go_wp2_with fail;go_region_with (go_at_call 62; refine (HI _ ?_).mono ?_; (first | exact Below.refl _ _ | exact (Below.refl _ _).drew); rintro e w5 ⟨rfl, hacc⟩; obtain ⟨⟨pq0, pq1, pq2, pq3, pq4, pq5, pq6, pq7⟩, pqf0, pqf1, pqf2, pqf3, pqf4, pqf5, pqf6, pqf7⟩ := zB (Kp.later hacc); obtain ⟨⟨rq0, rq1, rq2, rq3, rq4, rq5, rq6, rq7⟩, rqf0, rqf1, rqf2, rqf3, rqf4, rqf5, rqf6, rqf7⟩ := zB (Krc.later hacc));all_goals (
   obtain ⟨V7, hV7, KC, hP7⟩ := zQ (Krc.later hacc) (.slice a6 ln6 cap6) c6.ep (c6.nest : Int) c6.err c6.pos
   rw [<- hV7]
   clear hV7 f_p
   go_wp2_with fail
   obtain ⟨⟨y0, y1, y2, y3, y4, y5, y6, y7⟩, -⟩ := zB KC
   refine bodyPost_ret (v := .tuple #[.agg (zK (.slice a6 ln6 cap6) c6.ep (c6.nest : Int) c6.err c6.pos), .bool (!b)]) (by simp [results, Tryz.results103, go_sem, y0, y1, y2, y3, y4, y5, y6, y7]) rfl ⟨_, by rw [HQ.out], ?_, hP7.below _ _ (by omega) (hB9.trans (hacc.mono hB9.size))⟩
   rw [<- E6.out]
   exact zF.mk (hP7.row (Rq6.bl hacc hn hB9) (by omega)))
end Go.Proofs.YtdjomhbmhooceaaGreat.N9
