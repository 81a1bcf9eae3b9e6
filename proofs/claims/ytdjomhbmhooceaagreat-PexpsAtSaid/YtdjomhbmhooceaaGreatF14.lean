import Derived.Test.YtdjomhbmhooceaaGreatF13
import Derived.Test.YtdjomhbmhooceaaGreatF10
set_option maxHeartbeats 4000000
set_option maxRecDepth 100000
set_option linter.unusedVariables false
set_option linter.unusedSimpArgs false
namespace Go.Proofs.YtdjomhbmhooceaaGreat.N9
open Go.RowKit N5 N6 N7
attribute [local go_sem] xB xA
def Rows2 (B : Nat) (v : Value) (w0 : World) (m : Nat) (o : yM (List Nd)) (e : Ending) (w' : World) : Prop := ∃ val, e = .returned (.tuple #[val, .bool o.2.isSome]) /\ yT B v o.1 w0 w' /\ AbI m w' val o.2
structure RowsSt (B : Nat) (v : Value) (w0 : World) (m n s f k F : Nat) (item : Cu -> yM Nd) (e0 : Cu) (l0 : List Nd) (gk : Nat) (d : Cu) (ks : List Nd) (val : Value) (W : World) : Prop where
 eq : yA vQ (fun c => c.take [59]) item gk d ks = yA vQ (fun c => c.take [59]) item F e0 l0
 few : d.ws.length - d.at' < gk
 inv : 200 <= d.nest + k
 sum : ks.length + gk <= 10000
 st : AaM B v w0 m n s f d ks val W
theorem dI {item : Cu -> yM Nd} {c g : Cu} {l ks : List Nd} {n : Nd} {F : Nat} (h1 : c.is [123] = true) (ho : (item (c.want [123])).2 = some n) (hF : F = c.ws.length + 1) (hm : yA vQ (fun c => c.take [59]) item F (item (c.want [123])).1 (l ++ [n]) = (g, some ks)) : wK item c l = wantO g [125] fun g => (g, some ks) := by
 subst hF;unfold wK;rw [show wantO c [123] (fun d => yG (item d) fun e n => yG (yA vQ (fun c => c.take [59]) item (c.ws.length + 1) e (l ++ [n])) fun g ks => wantO g [125] fun g => (g, some ks)) = yG (item (c.want [123])) fun e n => yG (yA vQ (fun c => c.take [59]) item (c.ws.length + 1) e (l ++ [n])) fun g ks => wantO g [125] fun g => (g, some ks) from if_pos h1, zM ho];show yG (yA vQ (fun c => c.take [59]) item (c.ws.length + 1) _ (l ++ [n])) _ = _;rw [hm]; rfl
theorem AbL {item : Cu -> yM Nd} {c : Cu} {l : List Nd} (h1 : c.is [123] = false) : wK item c l = (c.want [123], none) := if_neg (by rw [h1]; decide)
theorem cG {item : Cu -> yM Nd} {c : Cu} {l : List Nd} (h1 : c.is [123] = true) (ho : (item (c.want [123])).2 = none) : wK item c l = ((item (c.want [123])).1, none) := by
 unfold wK;rw [show wantO c [123] (fun d => yG (item d) fun e n => yG (yA vQ (fun c => c.take [59]) item (c.ws.length + 1) e (l ++ [n])) fun g ks => wantO g [125] fun g => (g, some ks)) = yG (item (c.want [123])) fun e n => yG (yA vQ (fun c => c.take [59]) item (c.ws.length + 1) e (l ++ [n])) fun g ks => wantO g [125] fun g => (g, some ks) from if_pos h1, zM ho];rfl
theorem bI {item : Cu -> yM Nd} {c g : Cu} {l : List Nd} {n : Nd} {F : Nat} (h1 : c.is [123] = true) (ho : (item (c.want [123])).2 = some n) (hF : F = c.ws.length + 1) (hm : yA vQ (fun c => c.take [59]) item F (item (c.want [123])).1 (l ++ [n]) = (g, none)) : wK item c l = (g, none) := by
 subst hF;unfold wK;rw [show wantO c [123] (fun d => yG (item d) fun e n => yG (yA vQ (fun c => c.take [59]) item (c.ws.length + 1) e (l ++ [n])) fun g ks => wantO g [125] fun g => (g, some ks)) = yG (item (c.want [123])) fun e n => yG (yA vQ (fun c => c.take [59]) item (c.ws.length + 1) e (l ++ [n])) fun g ks => wantO g [125] fun g => (g, some ks) from if_pos h1, zM ho];show yG (yA vQ (fun c => c.take [59]) item (c.ws.length + 1) _ (l ++ [n])) _ = _;rw [hm]; rfl
theorem gG {f : Nat} (eg : ∀ args w, (callFunc f args).run Tryz.prog w = .ok (.enter f args) w) {item : Cu -> yM Nd} {k : Nat} {w0 w : World} {B m : Nat} {v val : Value} {c : Cu} {l : List Nd} (hA : yT B v c w0 w) (hmB : B < m) (hm : m <= w0.heap.size) (hR : wO m w0.heap.size w.heap.size w val l) (hln : l.length <= 1) (hk : 200 <= c.nest + k)
  (hit : ∀ d W, 200 <= d.nest + k -> zJ W B v d -> Calls Tryz.prog f #[wF B] W (zU B v (item d) W)) (hst : ∀ d e n, 200 <= d.nest + k -> item d = (e, some n) -> e.nest = d.nest /\ e.ws = d.ws /\ d.at' <= e.at') :
  Calls Tryz.prog 116 #[wF B, val, .func (.func f) #[wF B] #[]] w (Rows2 B v w0 m (wK item c l)) := by
 obtain ⟨p, cap, rfl⟩ := hR.shape
 have HIT := Lib.hid hit
 have HST := Lib.hid hst
 have HFEW := Lib.hid hA.cur.few
 have HK := Lib.hid hk
 have hsz0 := hA.size
 have hlt := hA.lt
 clear hit hst hk
 obtain ⟨W1, hW1, Kp, -, -, hB, -⟩ := qE w #[.pointer (some ⟨B, 0, none⟩)] 63 #[.func (.func f) #[wF B] #[]] 64 #[.slice p l.length cap] 23
 have hsz : W1.heap.size = w.heap.size + 1 + 1 + 1 := by rw [hW1]; simp
 have Ki : zW W1 (w.heap.size + 1) #[.func (.func f) #[wF B] #[]] 64 := by
  rw [hW1];have h0 := zW.new (w.alloc (.cells #[.pointer (some ⟨B, 0, none⟩)] 63)) #[.func (.func f) #[wF B] #[]] 64;simp only [World.size_alloc] at h0;exact h0.later ((Below.refl _ _).alloc (Nat.le_refl _) _)
 have Kl : zW W1 (w.heap.size + 1 + 1) #[.slice p l.length cap] 23 := by
  rw [hW1];have h0 := zW.new ((w.alloc (.cells #[.pointer (some ⟨B, 0, none⟩)] 63)).alloc (.cells #[.func (.func f) #[wF B] #[]] 64)) #[.slice p l.length cap] 23;simp only [World.size_alloc] at h0;exact h0
 have Ro : wO m w0.heap.size w.heap.size W1 (.slice p l.length cap) l := hR.keep (zE hB (some B)) hm (.inl hmB)
 have hA1 := hA.below hB
 have HW1 := Lib.hid hW1
 clear hW1 hR hA hB
 unfold wF at HIT Ki HW1 ⊢
 go_enter Tryz.func116, Tryz.ntmps116
 go_upto_region 2 with fail
 rw [<- HW1.out]
 clear HW1
 have p0 := zC Kp
 cases h1 : c.is [123] with
 | false =>
  have HQ := Lib.hid (AbL (item := item) (l := l) h1);have HC := xQ hA1.cur [123];rw [h1] at HC;go_wp2_with fail;refine HC.mono ?_; rintro e W2 ⟨rfl, hc, hg⟩;clear HC p0;have hA2 := hA1.to hc hg;go_wp2_with fail;go_ret2;exact ⟨_, by rw [HQ.out]; rfl, by rw [HQ.out]; exact hA2, by rw [HQ.out]; rfl⟩
 | true =>
  have HNE : Hid (200 <= (c.want [123]).nest + k) := by show 200 <= _; rw [(zL _ _).nest (yN.2 h1)]; exact HK.out
  have HLEN : Hid (l.length <= 20000) := by show l.length <= _; omega
  have HC := xQ hA1.cur [123];rw [h1] at HC;go_wp2_with fail;refine HC.mono ?_; rintro e W2 ⟨rfl, hc, hg⟩;clear HC p0;have HA := hA1.to hc hg;have Kp := Kp.kg hg (by omega);have Ki := Ki.kg hg (by omega);have Kl := Kl.kg hg (by omega);have Ro := Ro.keep hg hm (.inl hmB);have hsHA := hg.size;clear hc hg hA1;have HC := lD eg (s := w.heap.size) ⟨HA, Kp, Ki, Kl, Ro⟩ hmB hm (by omega) (Nat.le_refl _) hsz0 hsz0 HLEN.out (fun W hc => HIT.out _ W HNE.out hc);cases ho : (item (c.want [123])).2 with
  | none =>
   have HQ := Lib.hid (cG (l := l) h1 ho);go_wp2_with fail;refine HC.mono ?_; rintro e W4 ⟨rfl, hno, -⟩;have hA4 := hno ho;rw [ho];clear HC hno;go_wp2_with fail;go_ret2;exact ⟨_, by rw [HQ.out]; rfl, by rw [HQ.out]; exact hA4, by rw [HQ.out]; rfl⟩
  | some n =>
   have HE := Lib.hid (HST.out _ _ _ HNE.out (zM ho));have HO := Lib.hid ho;go_wp2_with fail;refine HC.mono ?_; rintro e W4 ⟨rfl, -, hyes⟩;obtain ⟨v1, HS⟩ := hyes n ho;rw [ho];clear HC hyes ho;obtain ⟨F, hF⟩ : ∃ F, F = c.ws.length + 1 := ⟨_, rfl⟩;have HF := Lib.hid hF;clear hF;have p0 := zC HS.pb;go_wp2_with fail;clear p0;go_loopg [24] F (fun gk q wr => ∃ (d : Cu) (ks : List Nd) (vl : Value), RowsSt B v w0 m w0.heap.size w.heap.size f k F item (item (c.want [123])).1 (l ++ [n]) gk d ks vl wr)
   case atStart =>
    refine ⟨_, _, v1, rfl, ?_, ?_, ?_, HS⟩
    ·
     rw [HF.out, HE.out.2.1, (zL _ _).ws]; omega
    ·
     rw [HE.out.1]; exact HNE.out
    ·
     rw [HF.out]; have := HFEW.out; simp; omega
   case round =>
    clear HS Kp Ki Kl Ro HA HNE HLEN;obtain ⟨d, ks, vl, HS⟩ := hrel;have HM := Lib.hid HS.eq;have HNE := Lib.hid HS.inv;have hfw := HS.few;have hsum := HS.sum;obtain ⟨HA, Kp, Ki, Kl, Ro⟩ := HS.st;clear HS;have HLEN : Hid (ks.length <= 20000) := by show ks.length <= _; omega
    cases gk with
    | zero => exact absurd hfw (Nat.not_lt_zero _)
    | succ gf =>
     have p0 := zC Kp;cases hi : d.is [59] with
     | false =>
      have HC := sT HA.cur [59];rw [hi] at HC;go_wp2_with fail;refine HC.mono ?_; rintro e W6 ⟨rfl, hc, hg⟩;clear HC p0;have HB := HA.to hc hg;have Kp := Kp.kg hg (by omega);have Ki := Ki.kg hg (by omega);have Kl := Kl.kg hg (by omega);have Ro := Ro.keep hg hm (.inl hmB);have hsHB := hg.size;clear hc hg HA;have HME := Lib.hid (rF (nx := fun c => c.take [59]) (rd := item) (f := gf) (l := ks) (c := d) (go := vQ) (by show (d.is [59] && _) = false; rw [hi]; rfl));have HMM : Hid (yA vQ (fun c => c.take [59]) item F (item (c.want [123])).1 (l ++ [n]) = (d.take [59], some ks)) := by show _ = _; rw [<- HM.out]; exact HME.out
      have HRO := Lib.hid (dI h1 HO.out HF.out HMM.out);cases hx : (d.take [59]).is [125] with
      | false =>
       have HQ : Hid (wK item c l = ((d.take [59]).want [125], none)) := by show _ = _; rw [HRO.out]; exact if_neg (by rw [hx]; decide)
       have p0 := zC Kp;have HC := xQ HB.cur [125];rw [hx] at HC;go_wp2_with fail;refine HC.mono ?_; rintro e W8 ⟨rfl, hc, hg⟩;clear HC p0;have hA8 := HB.to hc hg;have hs8 := hg.size;go_wp2_with fail;go_ret2;exact ⟨_, by rw [HQ.out]; rfl, by rw [HQ.out]; exact hA8, by rw [HQ.out]; rfl⟩
      | true =>
       have HQ : Hid (wK item c l = ((d.take [59]).want [125], some ks)) := by show _ = _; rw [HRO.out]; exact if_pos hx
       have p0 := zC Kp;have HC := xQ HB.cur [125];rw [hx] at HC;go_wp2_with fail;refine HC.mono ?_; rintro e W8 ⟨rfl, hc, hg⟩;clear HC p0;have hA8 := HB.to hc hg;have hs8 := hg.size;have Kl8 := Kl.kg hg (by omega);have Ro8 := Ro.keep hg hm (.inl hmB);have l0 := zC Kl8;go_wp2_with fail;go_ret2;exact ⟨_, by rw [HQ.out]; rfl, by rw [HQ.out]; exact hA8, by rw [HQ.out]; exact Ro8.plain hm⟩
     | true =>
      have HC := sT HA.cur [59];rw [hi] at HC;go_wp2_with fail;refine HC.mono ?_; rintro e W6 ⟨rfl, hc, hg⟩;clear HC p0;have HB := HA.to hc hg;have Kp := Kp.kg hg (by omega);have Ki := Ki.kg hg (by omega);have Kl := Kl.kg hg (by omega);have Ro := Ro.keep hg hm (.inl hmB);have hsHB := hg.size;clear hc hg HA;have p0 := zC Kp;cases hj : (d.take [59]).is [125] with
      | true =>
       have HC := sN HB.cur [125];rw [hj] at HC;go_wp2_with fail;refine HC.mono ?_; rintro e W7 ⟨rfl, hB⟩;clear HC p0;have HA := HB.below hB;have hg := zE hB (some B);have Kp := Kp.kg hg (by omega);have Ki := Ki.kg hg (by omega);have Kl := Kl.kg hg (by omega);have Ro := Ro.keep hg hm (.inl hmB);have hs7 := hg.size;clear hB hg HB;have HME := Lib.hid (rF (nx := fun c => c.take [59]) (rd := item) (f := gf) (l := ks) (c := d) (go := vQ) (by show (d.is [59] && !(d.take [59]).is [125]) = false; rw [hi, hj]; rfl));have HMM : Hid (yA vQ (fun c => c.take [59]) item F (item (c.want [123])).1 (l ++ [n]) = (d.take [59], some ks)) := by show _ = _; rw [<- HM.out]; exact HME.out
       have HRO := Lib.hid (dI h1 HO.out HF.out HMM.out);cases hx : (d.take [59]).is [125] with
       | false =>
        have HQ : Hid (wK item c l = ((d.take [59]).want [125], none)) := by show _ = _; rw [HRO.out]; exact if_neg (by rw [hx]; decide)
        have p0 := zC Kp;have HC := xQ HA.cur [125];rw [hx] at HC;go_wp2_with fail;refine HC.mono ?_; rintro e W8 ⟨rfl, hc, hg⟩;clear HC p0;have hA8 := HA.to hc hg;have hs8 := hg.size;go_wp2_with fail;go_ret2;exact ⟨_, by rw [HQ.out]; rfl, by rw [HQ.out]; exact hA8, by rw [HQ.out]; rfl⟩
       | true =>
        have HQ : Hid (wK item c l = ((d.take [59]).want [125], some ks)) := by show _ = _; rw [HRO.out]; exact if_pos hx
        have p0 := zC Kp;have HC := xQ HA.cur [125];rw [hx] at HC;go_wp2_with fail;refine HC.mono ?_; rintro e W8 ⟨rfl, hc, hg⟩;clear HC p0;have hA8 := HA.to hc hg;have hs8 := hg.size;have Kl8 := Kl.kg hg (by omega);have Ro8 := Ro.keep hg hm (.inl hmB);have l0 := zC Kl8;go_wp2_with fail;go_ret2;exact ⟨_, by rw [HQ.out]; rfl, by rw [HQ.out]; exact hA8, by rw [HQ.out]; exact Ro8.plain hm⟩
      | false =>
       have HC := sN HB.cur [125];rw [hj] at HC;go_wp2_with fail;refine HC.mono ?_; rintro e W7 ⟨rfl, hB⟩;clear HC p0;have HA := HB.below hB;have hg := zE hB (some B);have Kp := Kp.kg hg (by omega);have Ki := Ki.kg hg (by omega);have Kl := Kl.kg hg (by omega);have Ro := Ro.keep hg hm (.inl hmB);have hs7 := hg.size;clear hB hg HB;have HSE : Hid (vQ d = true) := by show (d.is [59] && !(d.take [59]).is [125]) = true; rw [hi, hj]; rfl
       have HDE := Lib.hid (vT hi);have HLT := Lib.hid (wU hi).2;have HAT : Hid ((d.take [59]).at' = d.at' + 1) := by show _ = _; unfold Cu.take; rw [if_pos hi]
       have HWS := Lib.hid (yD d [59]).ws;replace HNE : Hid (200 <= (d.take [59]).nest + k) := by show 200 <= _; rw [(yD d [59]).nest (by rw [uE]; exact HDE.out)]; exact HNE.out
       have HC := lD eg (s := w.heap.size) ⟨HA, Kp, Ki, Kl, Ro⟩ hmB hm (by omega) (Nat.le_refl _) hsz0 hsz0 HLEN.out (fun W hc => HIT.out _ W HNE.out hc);cases ho : (item (d.take [59])).2 with
       | none =>
        have HMM : Hid (yA vQ (fun c => c.take [59]) item F (item (c.want [123])).1 (l ++ [n]) = ((item (d.take [59])).1, none)) := by show _ = _; rw [<- HM.out]; exact oC HSE.out (zM ho)
        have HQ := Lib.hid (bI h1 HO.out HF.out HMM.out);go_wp2_with fail;refine HC.mono ?_; rintro e W9 ⟨rfl, hno, -⟩;have hA4 := hno ho;rw [ho];clear HC hno;go_wp2_with fail;go_ret2;exact ⟨_, by rw [HQ.out]; rfl, by rw [HQ.out]; exact hA4, by rw [HQ.out]; rfl⟩
       | some t =>
        have HM2 : Hid (yA vQ (fun c => c.take [59]) item gf (item (d.take [59])).1 (ks ++ [t]) = yA vQ (fun c => c.take [59]) item F (item (c.want [123])).1 (l ++ [n])) := by show _ = _; rw [<- HM.out]; exact (oM (nx := fun c => c.take [59]) HSE.out (zM ho)).symm
        have HE2 := Lib.hid (HST.out _ _ _ HNE.out (zM ho));go_wp2_with fail;refine HC.mono ?_; rintro e W9 ⟨rfl, -, hyes⟩;obtain ⟨v2, HS2⟩ := hyes t ho;rw [ho];clear HC hyes ho;go_wp2_with fail;go_roundg gf
        case measure => omega
        case rel =>
         refine ⟨_, _, v2, ⟨HM2.out, ?_, by rw [HE2.out.1]; exact HNE.out, by simp; omega, HS2⟩⟩;rw [HE2.out.2.1, HWS.out];have := HE2.out.2.2;have := HAT.out;have := HLT.out;omega
end Go.Proofs.YtdjomhbmhooceaaGreat.N9
namespace Go.Proofs.YtdjomhbmhooceaaGreat.N9
open Go.RowKit N5 N6 N7
attribute [local go_sem] xB xA
theorem iB (d : NC) (ok : Bool) (w : World) : Calls Tryz.prog 56 #[d.val, .bool ok] w (fun e w' => e = .returned (.tuple #[(if ok = true then d else zN).val, .bool ok]) /\ Below w.heap.size w w') := by
 obtain ⟨dk, dp, dn, dt, dq, dl, dc⟩ := d;obtain ⟨W1, hW1, KN, -, hB1, -⟩ := vC w #[.int .i64 dk, .int .i64 dp, .int .i64 dn, .string ⟨dt.toArray⟩, .slice dq dl dc] 25 #[.int .i64 0, .int .i64 0, .int .i64 0, .string ⟨#[]⟩, .slice none 0 0] 25;have hs1 : W1.heap.size = w.heap.size + 1 + 1 := by rw [hW1]; simp
 have KZ : zW W1 (w.heap.size + 1) #[.int .i64 0, .int .i64 0, .int .i64 0, .string ⟨#[]⟩, .slice none 0 0] 25 := by
  rw [hW1];have h0 := zW.new (w.alloc (.cells #[.int .i64 dk, .int .i64 dp, .int .i64 dn, .string ⟨dt.toArray⟩, .slice dq dl dc] 25)) #[.int .i64 0, .int .i64 0, .int .i64 0, .string ⟨#[]⟩, .slice none 0 0] 25;simp only [World.size_alloc] at h0;exact h0
 have f_z := zA KZ;obtain ⟨⟨x0, x1, x2, x3, x4⟩, -⟩ := zA KN;have HW1 := Lib.hid hW1;clear hW1 KN;unfold NC.val;cases ok with
 | true =>
  obtain ⟨W7, hW7, K7, hP⟩ := zZ (z := zN) KZ ⟨dk, dp, dn, dt, dq, dl, dc⟩;dsimp only [zN] at hW7 K7;have hB7 := hP.below _ _ (by omega) hB1;clear hP hB1;go_enter Tryz.func56, Tryz.ntmps56;go_upto_region 1 with fail;rw [<- HW1.out];go_wp2_with fail;rw [<- hW7];obtain ⟨⟨y0, y1, y2, y3, y4⟩, -⟩ := zA K7;exact bodyPost_ret (v := .tuple #[NC.val ⟨dk, dp, dn, dt, dq, dl, dc⟩, .bool true]) (by simp [results, Tryz.results56, go_sem, y0, y1, y2, y3, y4, NC.val]) rfl ⟨rfl, hB7⟩
 | false =>
  obtain ⟨W7, hW7, K7, hP⟩ := zZ (z := zN) KZ zN;dsimp only [zN] at hW7 K7;have hB7 := hP.below _ _ (by omega) hB1;clear hP hB1;go_enter Tryz.func56, Tryz.ntmps56;go_upto_region 1 with fail;rw [<- HW1.out];go_wp2_with fail;rw [<- hW7];obtain ⟨⟨y0, y1, y2, y3, y4⟩, -⟩ := zA K7;exact bodyPost_ret (v := .tuple #[NC.val zN, .bool false]) (by simp [results, Tryz.results56, go_sem, y0, y1, y2, y3, y4, NC.val, zN]) rfl ⟨rfl, hB7⟩
theorem uA {rd : Cu -> yM Nd} {w : World} {B : Nat} {v : Value} {c : Cu} (h : zJ w B v c) (hrd : c.enters = true -> ∀ W, zJ W B v c.enter -> Calls Tryz.prog 66 #[wF B] W (zU B v (rd c.enter) W)) : Calls Tryz.prog 35 #[wF B] w (zU B v (deeper rd c) w) := by
 have HRD := Lib.hid hrd;clear hrd;unfold wF;obtain ⟨W1, hW1, Kp, Kr, -, -⟩ := vC w #[.pointer (some ⟨B, 0, none⟩)] 63 #[.int .i64 0, .int .i64 0, .int .i64 0, .string ⟨#[]⟩, .slice none 0 0] 25;have hsz : W1.heap.size = w.heap.size + 1 + 1 := by rw [hW1]; simp
 have hA1 : yT B v c w W1 := by rw [hW1]; exact (yT.of h).alloc _ |>.alloc _
 have hlt := h.lt;have HW1 := Lib.hid hW1;clear hW1 h;go_enter Tryz.func35, Tryz.ntmps35;go_upto_region 1 with fail;rw [<- HW1.out];clear HW1;have p0 := zC Kp;have f_r := zA Kr;have HC := pG (x := wF B) (rd := rd) (enters_of Tryz.func66 (by kernel_rfl) rfl) hA1.cur (fun he W hA => HRD.out he W hA.cur);go_wp2_with fail;refine HC.mono ?_; rintro e W2 ⟨d, rfl, hAc, hm⟩;clear HC;clear p0 f_r;have hA2 := hA1.trans hAc;have Kp := Kp.kg hAc.grown (by omega);have Kr := Kr.kg hAc.grown (by omega);have hs3 := hAc.grown.size;clear hA1 hAc;obtain ⟨dk, dp, dn, dt, dq, dl, dc⟩ := d;obtain ⟨W7, hW7, hb7, hA7, hn7⟩ := zH hA2 (b := w.heap.size + 1) (by omega) (z := zN) Kr ⟨dk, dp, dn, dt, dq, dl, dc⟩;dsimp only [zN] at hW7 hb7;have hm7 := xE (m := w.heap.size) hm hn7 (by omega) (by omega);clear hn7;unfold NC.val;have p0 := zC Kp;have f_r := zA Kr;go_wp2_with fail;rw [<- hW7];obtain ⟨z0, z1, z2, z3, z4⟩ := hb7;dsimp only at z0 z1 z2 z3 z4;exact bodyPost_ret (v := .tuple #[NC.val ⟨dk, dp, dn, dt, dq, dl, dc⟩, .bool (deeper rd c).2.isSome]) (by simp [results, Tryz.results35, go_sem, z0, z1, z2, z3, z4, NC.val, zN]) rfl ⟨_, rfl, hA7, hm7⟩
end Go.Proofs.YtdjomhbmhooceaaGreat.N9
namespace Go.Proofs.YtdjomhbmhooceaaGreat.N9
open Go.RowKit N5 N6 N7
attribute [local go_sem] xB xA
def wG (n : Nat) (w : World) (val : Value) (l : List Tk) : Prop := w.ownsRow n 38 4 val l.length (l.flatMap Tk.cells)
theorem wG.keep {n B : Nat} {w w' : World} {val : Value} {l : List Tk} (h : wG n w val l) (hg : w.grownBy w' (some B)) (hB : B < n) : wG n w' val l := by
 refine World.ownsRow.kept h hg ?_;cases ho : val.ownBlock with
 | none => exact .inl rfl
 | some b => exact .inr (fun e => by injection e with e; have := (World.ownsRow.lt h b ho).1; omega)
theorem wG.mono {n m : Nat} {w : World} {val : Value} {l : List Tk} (h : wG n w val l) (hm : m <= n) : wG m w val l := by
 refine ⟨h.1, ?_⟩;rcases h.2 with e | ⟨g, cap, cur, e1, e2, e3⟩
 ·
  exact .inl e
 ·
  exact .inr ⟨g, cap, cur, e1, by omega, e3⟩
theorem nE (t : Tk) : ∀ u ∈ t.cells, u.oneCell' = true := fun u hu => by
 simp only [Tk.cells, List.mem_cons, List.not_mem_nil, or_false] at hu;rcases hu with rfl | rfl | rfl | rfl <;> rfl
theorem kI : (Tryz.prog.info? 38).map (fun i => (i.zero, i.size, i.bytes)) = some (some rW.val, 4, 40) := by kernel_rfl
theorem dJ {F gf : Nat} {c d : Cu} {l : List Tk} (h : xY F c = ((xY (gf + 1) d).1, l ++ (xY (gf + 1) d).2)) (hp : d.peek.kind = 1) (hf : d.ws.length - d.at' < gf + 1) : xY F c = ((xY gf d.adv).1, (l ++ [d.peek]) ++ (xY gf d.adv).2) /\ d.adv.ws.length - d.adv.at' < gf := by
 have e : xY (gf + 1) d = ((xY gf d.adv).1, d.peek :: (xY gf d.adv).2) := by
  show (if _ then _ else _) = _;rw [if_pos hp]
 rw [e] at h;refine ⟨by rw [h, List.append_assoc]; rfl, ?_⟩;have h0 := vZ (c := d) (by rw [hp]; decide);have h1 := uJ (c := d) (by rw [hp]; decide);unfold Cu.adv;rw [if_pos ⟨h0, h1⟩];show d.ws.length - (d.at' + 1) < gf;omega
theorem nV {F gf : Nat} {c d : Cu} {l : List Tk} (h : xY F c = ((xY (gf + 1) d).1, l ++ (xY (gf + 1) d).2)) (hp : ¬ d.peek.kind = 1) : xY F c = (d, l) := by
 have e : xY (gf + 1) d = (d, []) := by
  show (if _ then _ else _) = _;rw [if_neg hp]
 rw [e, List.append_nil] at h;exact h
structure VarSt (B : Nat) (v : Value) (w : World) (LB F : Nat) (c : Cu) (gk : Nat) (d : Cu) (l : List Tk) (val : Value) (W : World) : Prop where
 eq : xY F c = ((xY gk d).1, l ++ (xY gk d).2)
 few : d.ws.length - d.at' < gk
 sum : l.length + gk <= F
 cur : yT B v d w W
 low : LB <= W.heap.size
 pb : zW W w.heap.size #[.pointer (some ⟨B, 0, none⟩)] 63
 own : wG LB W val l
def AbE (B : Nat) (v : Value) (o : Cu × List Tk) (w : World) (e : Ending) (w' : World) : Prop := ∃ val, e = .returned val /\ yT B v o.1 w w' /\ wG w.heap.size w' val o.2
theorem iG  {w : World} {B : Nat} {v : Value} {c : Cu} (h : zJ w B v c)  : Calls Tryz.prog 57 #[wF B] w (AbE B v (yW c) w) := by
 have HFEW := Lib.hid h.few;obtain ⟨i0, hi0, hz0, hz1, hz2⟩ := info_parts kI;unfold wF;obtain ⟨W1, hW1, Kp, -, -⟩ := zT w #[.pointer (some ⟨B, 0, none⟩)] 63;have hsz : W1.heap.size = w.heap.size + 1 := by rw [hW1]; simp
 have hA1 : yT B v c w W1 := by rw [hW1]; exact (yT.of h).alloc _
 have hlt := h.lt;have HW1 := Lib.hid hW1;clear hW1 h;go_enter Tryz.func57, Tryz.ntmps57;go_upto_region 1 with fail;rw [<- HW1.out];clear HW1;have p0 := zC Kp;obtain ⟨F, hF⟩ : ∃ F, F = c.ws.length - c.at' + 1 := ⟨_, rfl⟩;have HF : Hid (yW c = xY F c) := by show _ = _; rw [hF]; rfl
 have hF1 : F <= 4001 := by have := HFEW.out; omega
 have hF2 : c.ws.length - c.at' < F := by omega
 clear hF;go_wp2_with fail;clear p0;go_loopg [3] F (fun gk q wx => ∃ (d : Cu) (l : List Tk) (val : Value), val = q /\ VarSt B v w (W1.heap.size) F c gk d l val wx)
 case atStart => exact ⟨c, [], _, rfl, ⟨rfl, hF2, by simp, hA1, Nat.le_refl _, Kp, World.ownsRow_nil _ _ _ _⟩⟩
 case round =>
  obtain ⟨d, l, val, hval, HS⟩ := hrel;subst hval;clear Kp hA1;have Kp := HS.pb;have hAl := HS.cur;have hlow := HS.low;have hsum := HS.sum;have Ro := HS.own;have hfw2 := HS.few;have HM := Lib.hid HS.eq;clear HS;cases gk with
  | zero => exact absurd hfw2 (Nat.not_lt_zero _)
  | succ gf =>
   obtain ⟨⟨tk, tp, tn, tt⟩, hT⟩ : ∃ t, t = d.peek := ⟨_, rfl⟩;have HT := Lib.hid hT;clear hT;have p0 := zC Kp;have HC := tY hAl.cur;rw [<- HT.out] at HC;go_wp2_with fail;refine HC.mono ?_; rintro e W2 ⟨rfl, hB⟩;clear HC;clear p0;have hA2 := hAl.below hB;have Kp := Kp.later hB;have Ro := Ro.keep (zE hB (some B)) (by omega);have hs3 := hB.size;clear hAl hB;by_cases h1 : tk = 1
   case neg =>
    have HQ : Hid (yW c = (d, l)) := by show _ = _; rw [HF.out]; exact nV HM.out (by rw [<- HT.out]; exact h1)
    have g1 : (tk == 1) = false := by rw [beq_eq_false_iff_ne]; exact h1
    go_wp2_with fail;go_ret;exact ⟨_, rfl, by rw [HQ.out]; exact hA2, by rw [HQ.out]; exact Ro.mono (by omega)⟩
   case pos =>
    subst h1;have HN := Lib.hid (dJ HM.out (by rw [<- HT.out]) hfw2);have p0 := zC Kp;have HC := uW hA2.cur;rw [<- HT.out] at HC;go_wp2_with fail;refine HC.mono ?_; rintro e W4 ⟨rfl, hc, hg⟩;clear HC;clear p0;have hA4 := hA2.to hc hg;have Kp := Kp.kg hg (by omega);have Ro := Ro.keep hg (by omega);have hs5 := hg.size;clear hA2 hc hg;have HBK : Hid (∀ b, val.ownBlock = some b -> W1.heap.size <= b /\ b < W4.heap.size) := fun b hb => World.ownsRow.lt Ro b hb
    have hLW : W1.heap.size <= W4.heap.size := by omega
    go_wp2_with (at_builtin; refine yB rfl _ _ 34 rfl (W1.heap.size) 38 i0 _ 4 40 Tryz.underlying34 hi0 hz0 hz1 hz2 rfl (by decide) _ _ _ rfl (World.ownsRow.alloc Ro _) ⟨_, 0, none⟩ 1 1 (Tk.cells ⟨1, tp, tn, tt⟩) rfl rfl (cells_of_new _ _ _ _ rfl) (nE _) ?_ ?_ ?_ ?_; (unfold maxLen; omega); omega; (simp; omega); intro v3 w3 ho3 hg3 hat3);have hal := (World.grownBy_alloc W4 (.cells #[.int .i64 1, .int .i64 tp, .int .i64 tn, .string ⟨tt.toArray⟩] 38) val.ownBlock).andThen hg3 (fun j hj => .inr hj);have hAn := hA4.row hal (fun b hb => by have := (HBK.out b hb).1; omega);have hsz3 := hal.size;replace Kp := Kp.kept hal (fun e => by have := (HBK.out _ e.symm).1; omega);have HO3 : wG (W1.heap.size) w3 v3 (l ++ [⟨1, tp, tn, tt⟩]) := by unfold wG; rw [List.length_append, List.flatMap_append]; simpa using ho3
    go_roundg gf
    case measure => omega
    case rel =>
     refine ⟨d.adv, l ++ [⟨1, tp, tn, tt⟩], _, rfl, ⟨by rw [HT.out]; exact HN.out.1, HN.out.2, by simp; omega, hAn, by omega, Kp, HO3⟩⟩
end Go.Proofs.YtdjomhbmhooceaaGreat.N9
