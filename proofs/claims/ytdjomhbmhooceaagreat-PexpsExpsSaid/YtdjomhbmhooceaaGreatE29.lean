import Derived.Test.YtdjomhbmhooceaaGreatE28
import Derived.Test.YtdjomhbmhooceaaGreatE25
set_option maxHeartbeats 4000000
set_option maxRecDepth 100000
set_option linter.unusedVariables false
set_option linter.unusedSimpArgs false
namespace Go.Proofs.YtdjomhbmhooceaaGreat.N7
open Go.RowKit N5 N6
attribute [local go_sem] xG xE
def tA (c : Cu) (t : Nd) : Nd × Int × Int := if c.doneE = 0 then (if t.depth <= 100 then (t, 0, 0) else (sH, t.pos, 2)) else (sH, c.doneP, c.doneE)
def WholeTo (c : Cu) (d : NC) (t : Nd) (w : World) (e : Ending) (w' : World) : Prop :=
 ∃ d' : NC, e = .returned (.tuple #[d'.val, .int .i64 (tA c t).2.1, .int .i64 (tA c t).2.2]) /\ ((d' = d /\ (tA c t).1 = t) \/ (d' = zN /\ (tA c t).1 = sH)) /\ Below w.heap.size w w'
theorem gD {n : Nat} {S : Nat -> Prop} {w : World} {x : Value} {c : Cu} {d : NC} {t : Nd} (h : zF n w x c) (hn : n <= w.heap.size) (hok : xA c) (ht : zG S w d t) (hsz : c.doneE = 0 -> t.size <= 1000000) : Calls Tryz.prog 22 #[x, d.val] w (WholeTo c d t w) := by
 have HSZ := Lib.hid hsz;have HOK := Lib.hid hok;clear hsz hok;obtain ⟨a, ln, cap, rfl, hr, -⟩ := h.shape;clear h;obtain ⟨dk, dp, dn, dt, dq, dl, dc⟩ := d;unfold NC.val;have hp : dp = t.pos := ht.pos;subst hp;obtain ⟨tps, hps⟩ : ∃ q, q = t.pos := ⟨_, rfl⟩;rw [<- hps] at ht ⊢;have HPS := Lib.hid hps;clear hps;obtain ⟨W1, hW1, Kp, Km, Krn, hB1, hsz⟩ := pF w ((zL (.slice a ln cap) c.ep (c.nest : Int) c.err c.pos)) 40 #[.int .i64 dk, .int .i64 tps, .int .i64 dn, .string ⟨dt.toArray⟩, .slice dq dl dc] 25 #[.int .i64 0, .int .i64 0, .int .i64 0, .string ⟨#[]⟩, .slice none 0 0] 25;have Rc : wA n W1 (.slice a ln cap) (c.ws.drop c.at') := hr.out.below (hB1.mono hn);have HW1 := Lib.hid hW1;clear hW1 hr;go_enter Tryz.func22, Tryz.ntmps22;go_upto_region 1 with fail;rw [<- HW1.out];clear HW1;have Td := ht.keeps (.of_below hB1);clear ht;obtain ⟨dP, hdP⟩ : ∃ q, q = c.doneP := ⟨_, rfl⟩;obtain ⟨dE, hdE⟩ : ∃ q, q = c.doneE := ⟨_, rfl⟩;have HDP := Lib.hid hdP;have HDE := Lib.hid hdE;have HC := dC (zF.mk Rc) (Nat.le_trans hn hB1.size) HOK.out;rw [<- hdP] at HC;rw [<- hdE] at HC;have f_p := zB Kp;obtain ⟨⟨m0, m1, m2, m3, m4⟩, -⟩ := zA Km;have f_rn := zA Krn;go_wp2_with fail;refine HC.mono ?_; rintro e W2 ⟨rfl, hB⟩;clear HC;clear f_p m0 m1 m2 m3 m4 f_rn;obtain ⟨Kp, Km, Krn⟩ := uN hB Kp Km Krn;replace Td := Td.keeps (.of_below hB);replace Rc := Rc.bl hB hn hB1;have hs3 := hB.size;have hB3 := zS hB1 hB;clear hB hB1;clear hdP hdE;by_cases he : dE = 0
 case neg =>
  have hb : (dE != 0) = true := by rw [bne_iff_ne]; exact he
  have HQ : Hid (tA c t = (sH, dP, dE)) := by show _ = _; unfold tA; rw [<- HDE.out, <- HDP.out, if_neg he]
  clear he;have f_p := zB Kp;obtain ⟨⟨m0, m1, m2, m3, m4⟩, -⟩ := zA Km;have f_rn := zA Krn;obtain ⟨W4, hW4, KN, hP⟩ := yE (z := zN) Krn zN;obtain ⟨Kp, Km⟩ := dV hP Kp Km (by omega);replace Rc := hP.row Rc (by omega);have hs5 := hP.size;have hB5 := hP.below _ _ (by omega) hB3;clear hP hB3;dsimp only [zN] at hW4 KN;replace Krn := KN;clear KN;go_wp2_with fail;rw [<- hW4];obtain ⟨⟨z0, z1, z2, z3, z4⟩, -⟩ := zA Krn;refine bodyPost_ret (v := .tuple #[NC.val zN, .int .i64 dP, .int .i64 dE]) (by simp [results, Tryz.results22, go_sem, z0, z1, z2, z3, z4, NC.val, zN]) rfl ⟨zN, by rw [HQ.out], by rw [HQ.out]; exact .inr ⟨rfl, rfl⟩, hB5⟩
 case pos =>
  subst he;have hb : ((0 : Int) != 0) = false := rfl;have HD := gU t S _ _ Td (HSZ.out HDE.out.symm);unfold NC.val at HD;by_cases hd : t.depth <= 100
  case pos =>
   have HQ : Hid (tA c t = (t, 0, 0)) := by show _ = _; unfold tA; rw [<- HDE.out, if_pos rfl, if_pos hd]
   have hd1 : ¬ (100 : Int) < (t.depth : Int) := by omega
   have hd2 : decide ((100 : Int) < (t.depth : Int)) = false := by simp [hd1]
   have HC := HD;have f_p := zB Kp;obtain ⟨⟨m0, m1, m2, m3, m4⟩, -⟩ := zA Km;have f_rn := zA Krn;go_wp2_with fail;refine HC.mono ?_; rintro e W6 ⟨rfl, hB⟩;clear HC;clear f_p m0 m1 m2 m3 m4 f_rn;obtain ⟨Kp, Km, Krn⟩ := uN hB Kp Km Krn;replace Td := Td.keeps (.of_below hB);replace Rc := Rc.bl hB hn hB3;have hs7 := hB.size;have hB7 := zS hB3 hB;clear hB hB3;have f_p := zB Kp;obtain ⟨⟨m0, m1, m2, m3, m4⟩, -⟩ := zA Km;have f_rn := zA Krn;obtain ⟨W8, hW8, KN, hP⟩ := yE (z := zN) Krn ⟨dk, tps, dn, dt, dq, dl, dc⟩;obtain ⟨Kp, Km⟩ := dV hP Kp Km (by omega);replace Rc := hP.row Rc (by omega);have hs9 := hP.size;have hB9 := hP.below _ _ (by omega) hB7;clear hP hB7;dsimp only [zN] at hW8 KN;replace Krn := KN;clear KN;go_wp2_with fail;rw [<- hW8];obtain ⟨⟨z0, z1, z2, z3, z4⟩, -⟩ := zA Krn;refine bodyPost_ret (v := .tuple #[NC.val ⟨dk, tps, dn, dt, dq, dl, dc⟩, .int .i64 0, .int .i64 0]) (by simp [results, Tryz.results22, go_sem, z0, z1, z2, z3, z4, NC.val]) rfl ⟨⟨dk, tps, dn, dt, dq, dl, dc⟩, by rw [HQ.out], by rw [HQ.out]; exact .inl ⟨rfl, rfl⟩, hB9⟩
  case neg =>
   have HQ : Hid (tA c t = (sH, tps, 2)) := by show _ = _; unfold tA; rw [<- HDE.out, if_pos rfl, if_neg hd, HPS.out]
   have hd1 : (100 : Int) < (t.depth : Int) := by omega
   have hd2 : decide ((100 : Int) < (t.depth : Int)) = true := by simp [hd1]
   have HC := HD;have f_p := zB Kp;obtain ⟨⟨m0, m1, m2, m3, m4⟩, -⟩ := zA Km;have f_rn := zA Krn;go_wp2_with fail;refine HC.mono ?_; rintro e W10 ⟨rfl, hB⟩;clear HC;clear f_p m0 m1 m2 m3 m4 f_rn;obtain ⟨Kp, Km, Krn⟩ := uN hB Kp Km Krn;replace Td := Td.keeps (.of_below hB);replace Rc := Rc.bl hB hn hB3;have hs11 := hB.size;have hB11 := zS hB3 hB;clear hB hB3;have n1 : w.heap.size + 1 ≠ w.heap.size + 1 + 1 := by omega
   have f_p := zB Kp;obtain ⟨⟨m0, m1, m2, m3, m4⟩, -⟩ := zA Km;have f_rn := zA Krn;go_upto_region 5 with fail;obtain ⟨W12, hW12, KN, hP⟩ := yE (z := zN) Krn zN;obtain ⟨Kp, Km⟩ := dV hP Kp Km (by omega);replace Rc := hP.row Rc (by omega);have hs13 := hP.size;have hB13 := hP.below _ _ (by omega) hB11;clear hP hB11;dsimp only [zN] at hW12 KN;replace Krn := KN;clear KN;go_region;rw [<- hW12];clear f_p m0 m1 m2 m3 m4 f_rn;obtain ⟨W14, hW14⟩ : ∃ x, x = W12.drew := ⟨_, rfl⟩;have hB : Below W12.heap.size W12 W14 := by rw [hW14]; exact (Below.refl _ _).drew
   rw [<- hW14];clear hW14;obtain ⟨Kp, Km, Krn⟩ := uN hB Kp Km Krn;replace Rc := Rc.bl hB hn hB13;have hs15 := hB.size;have hB15 := zS hB13 hB;clear hB hB13;go_wp2_with fail;obtain ⟨⟨z0, z1, z2, z3, z4⟩, -⟩ := zA Krn;refine bodyPost_ret (v := .tuple #[NC.val zN, .int .i64 tps, .int .i64 2]) (by simp [results, Tryz.results22, go_sem, z0, z1, z2, z3, z4, NC.val, zN]) rfl ⟨zN, by rw [HQ.out], by rw [HQ.out]; exact .inr ⟨rfl, rfl⟩, hB15⟩
end Go.Proofs.YtdjomhbmhooceaaGreat.N7
namespace Go.Proofs.YtdjomhbmhooceaaGreat.N7
open Go.RowKit N5 N6
attribute [local go_sem] xG xE
def kG (rr : Cu -> Cu × Nd) (s : ByteArray) : Nd × Int × Int :=
 match N4.lexAll s with
 | .error (k, x) => (sH, (k : Int), x)
 | .ok r => tA (rr (newCu (r ++ [N4.endTk s]))).1 (rr (newCu (r ++ [N4.endTk s]))).2
theorem kN {c : Cu} (h : c.doneE = 0) : c.err = 0 := by
 unfold Cu.doneE at h;by_cases k : c.err = 0
 ·
  exact k
 ·
  rw [if_neg k] at h; exact h
theorem fK {rd : Cu -> yJ Nd} {rr : Cu -> Cu × Nd} (h : ∀ c, c.nest = 0 -> uO c (rd c) (rr c)) (s : ByteArray) : kG rr s = rJ rd s := by
 unfold kG rJ;cases N4.lexAll s with
 | error kx => rfl
 | ok r =>
  dsimp only;unfold tA;rcases (h (newCu (r ++ [N4.endTk s])) rfl).cases with ⟨e1, e2⟩ | ⟨e1, e2⟩
  ·
   rw [e2]; rfl
  ·
   rw [e2];have : ¬ (rr (newCu (r ++ [N4.endTk s]))).1.doneE = 0 := fun q => e1 (kN q)
   dsimp only;rw [if_neg this, if_neg this]
theorem wrow_of {W : World} {v : Value} {xs : List Tk} (h : rZ W v xs) : wA W.heap.size W v xs := by
 rcases h with ⟨h1, h2⟩ | ⟨a, cap, h1, h2, h3⟩
 ·
  exact ⟨none, 0, by rw [h1, h2]; rfl, by rw [h2]; exact Nat.le_refl _, .inl h2⟩
 ·
  refine ⟨some a, cap, h1, h2, ?_⟩;rcases h3 with h3 | ⟨g, o, h4, h5, h6⟩
  ·
   exact .inl h3
  ·
   exact .inr ⟨g, o, by rw [h4], h5, h6⟩
theorem AeH (xs : List Tk) (h : xs.length <= 4000) : xA (newCu xs) := ⟨Nat.zero_le _, by show (xs.take (endL xs)).length <= 4000; rw [List.length_take]; omega, pO xs, Nat.zero_le _⟩
end Go.Proofs.YtdjomhbmhooceaaGreat.N7
