import Derived.Test.YtdjomhbmhooceaaGreatF37
import Derived.Test.YtdjomhbmhooceaaGreatF7
import Derived.Test.YtdjomhbmhooceaaGreatF20
import Derived.Test.YtdjomhbmhooceaaGreatF40
set_option maxHeartbeats 4000000
set_option maxRecDepth 100000
set_option linter.unusedVariables false
set_option linter.unusedSimpArgs false
namespace Go.Proofs.YtdjomhbmhooceaaGreat.N9
open Go.RowKit N5 N6 N7
attribute [local go_sem] xB xA
def vU (m n mb : Nat) (w : World) (val : Value) (ks : List Nd) : Prop :=
 ∃ ds : List NC, ds.length = ks.length /\ w.ownsRow n 25 5 val ks.length (ds.flatMap yJ) /\ (∀ b, val.ownBlock = some b -> b ≠ mb) /\
  ∀ j (h : j < ds.length) (h' : j < ks.length), zG (fun b => m <= b /\ b ≠ mb /\ val.ownBlock ≠ some b) w ds[j] ks[j]
section
variable {m n mb B : Nat} {w w' : World} {val : Value} {ks : List Nd}
theorem vU.keep (h : vU m n mb w val ks) (hg : w.grownBy w' (some B)) (hB : (B < m /\ B < n) \/ B = mb) : vU m n mb w' val ks := by
 obtain ⟨ds, h1, h2, h3, h4⟩ := h;refine ⟨ds, h1, h2.kept hg ?_, h3, fun j a b => (h4 j a b).keeps ⟨hg.size, fun k hk hkl => hg.block k hkl (fun e => by injection e; omega)⟩⟩;cases ho : val.ownBlock with
 | none => exact .inl rfl
 | some b => exact .inr (fun e => by injection e with e; have := (h2.lt b ho).1; have := h3 b ho; omega)
theorem vU.shape (h : vU m n mb w val ks) : ∃ p cap, val = .slice p ks.length cap := by
 obtain ⟨ds, h1, h2, -⟩ := h;rcases h2.2 with ⟨e, e0⟩ | ⟨g, cap, cur, e1, -⟩
 ·
  exact ⟨none, 0, by rw [e, e0]⟩
 ·
  exact ⟨_, _, e1⟩
theorem vU.plain (h : vU m n mb w val ks) (hm : m <= n) : zR m w val ks := by
 obtain ⟨ds, h1, h2, h3, h4⟩ := h;refine ⟨ds, h1, ⟨h2.1, ?_⟩, fun j a b => (h4 j a b).mono fun k hk _ => ⟨hk.1, hk.2.2⟩⟩;rcases h2.2 with e | ⟨g, cap, cur, e1, e2, e3⟩
 ·
  exact .inl e
 ·
  exact .inr ⟨g, cap, cur, e1, by omega, e3⟩
theorem vU.one {g : Nat} {d : NC} {t : Nd} (h : zW w g #[.int .i64 d.kind, .int .i64 d.pos, .int .i64 d.num, .string ⟨d.text.toArray⟩, .slice d.kp d.kl d.kc] 25) (hn : n <= g) (hs : g < mb) (hd : zG (fun b => m <= b /\ b < g) w d t) :
  vU m n mb w (.slice (some ⟨g, 0, none⟩) 1 1) [t] := by
 refine ⟨[d], rfl, pP (cs := yJ d) h hn rfl (by unfold maxLen; omega), fun b hb => ?_, fun j a b => ?_⟩
 ·
  have hb : (some g : Option Nat) = some b := hb;injection hb with hb; omega
 ·
  match j, a with
  | 0, _ => exact hd.mono fun k hk _ => ⟨hk.1, by omega, fun e => by have e : (some g : Option Nat) = some k := e; injection e with e; omega⟩
theorem vU.snoc {w2 w3 : World} {v3 : Value} {d : NC} {t : Nd} {ds : List NC} (h1 : ds.length = ks.length) (h3 : ∀ j (h : j < ds.length) (h' : j < ks.length), zG (fun b => m <= b /\ b ≠ mb /\ val.ownBlock ≠ some b) w2 ds[j] ks[j])
  (hf : ∀ b, val.ownBlock = some b -> b ≠ mb) (hs : mb < w2.heap.size)
  (hd : zG (fun b => m <= b /\ b ≠ mb /\ val.ownBlock ≠ some b) w2 d t) (ho : w3.ownsRow n 25 5 v3 (ks.length + 1) (ds.flatMap yJ ++ yJ d))
  (hal : w2.grownBy w3 val.ownBlock) (hat : v3.ownBlock = val.ownBlock \/ ∃ n, v3.ownBlock = some n /\ w2.heap.size <= n) : vU m n mb w3 v3 (ks ++ [t]) := by
 have far : ∀ b, v3.ownBlock = some b -> b ≠ mb := fun b hb => by
  rcases hat with e | ⟨k, e, hk⟩
  ·
   exact hf b (e ▸ hb)
  ·
   rw [e] at hb; injection hb with hb; omega
 have keep : ∀ (x : NC) (u : Nd), zG (fun b => m <= b /\ b ≠ mb /\ val.ownBlock ≠ some b) w2 x u -> zG (fun b => m <= b /\ b ≠ mb /\ v3.ownBlock ≠ some b) w3 x u := fun x u h => by
  have h1 : zG (fun b => b < w2.heap.size /\ m <= b /\ b ≠ mb /\ val.ownBlock ≠ some b) w2 x u := h.mono fun b hb hl => ⟨hl, hb⟩
  have h2 := h1.keeps (w' := w3) ⟨hal.size, fun b hb hl => hal.block b hl (fun e => hb.2.2.2 e.symm)⟩;refine h2.mono fun b hb _ => ⟨hb.2.1, hb.2.2.1, fun e => ?_⟩
  rcases hat with e2 | ⟨k, e2, hk⟩
  ·
   exact hb.2.2.2 (e2 ▸ e)
  ·
   rw [e2] at e; injection e with e; have := hb.1; omega
 refine ⟨ds ++ [d], by simp [h1], ?_, far, fun j a b => ?_⟩
 ·
  rw [List.length_append, List.flatMap_append, List.flatMap_cons, List.flatMap_nil, List.append_nil];exact ho
 ·
  by_cases hj : j < ds.length
  ·
   rw [List.getElem_append_left hj, List.getElem_append_left (by omega)];exact keep _ _ (h3 j hj (by omega))
  ·
   have e : j = ds.length := by rw [List.length_append] at a; simp at a; omega
   subst e;rw [List.getElem_append_right (by omega), List.getElem_append_right (by omega)];simp only [h1, Nat.sub_self, List.getElem_singleton];exact keep _ _ hd
end
theorem aQ (d : Cu) : zY d (N8.atR 200 d).1 := N8.fine_at 200 d (.inl (by omega))
structure CaseSt (n : Nat) (w : World) (mb LB F : Nat) (rd : Cu -> Cu × Nd) (c0 : Cu) (l0 : List Nd) (ps : Int) (gk : Nat) (d : Cu) (ks : List Nd) (mo : Bool) (u : Value) (kp : Option Addr) (kl kc : Nat) (W : World) : Prop where
 eq : (if mo = true then wJ rd gk d ks else (d, ks)) = wJ rd F c0 l0
 few : mo = true -> d.ws.length - d.at' < gk
 fine : zY c0 d
 sum : ks.length + gk <= F + 1
 bel : Below w.heap.size w W
 low : LB + 1 + 1 <= W.heap.size
 pb : zW W w.heap.size (zK u d.ep (d.nest : Int) d.err d.pos) 40
 rcb : zW W (w.heap.size + 1) (zK (.slice none 0 0) 0 0 0 0) 40
 rnb : zW W (w.heap.size + 1 + 1) #[.int .i64 0, .int .i64 0, .int .i64 0, .string ⟨#[]⟩, .slice none 0 0] 25
 nb : zW W mb #[.int .i64 27, .int .i64 ps, .int .i64 0, .string ⟨#[]⟩, .slice kp kl kc] 25
 row : xW n W u (d.ws.drop d.at')
 own : vU (w.heap.size + 1 + 1 + 1) LB mb W (.slice kp kl kc) ks
theorem kH {rf : Cu -> Cu × Nd} {n k : Nat} {w : World} {x : Value} {c : Cu} (h : zF n w x c) (hn : n <= w.heap.size) (hok : yZ c) (hf : rS k rf) (hat : pB n k rf) (hk : 200 <= c.nest + k \/ c.err ≠ 0) (ps : Int) (hp : ∀ (d : Cu) (W : World) (x : Value), yZ d -> zF n W x d -> n <= W.heap.size -> Calls Tryz.prog 104 #[x] W (yE n (N8.atR 200 d) W)) : Calls Tryz.prog 69 #[x, .int .i64 ps] w (yE n (pC rf c ps) w) := by
 have HFEW := Lib.hid hok.few;have HPT := Lib.hid hp;obtain ⟨i0, hi0, hy0, hy1, hy2⟩ := info_parts wS;clear hp;have HF := Lib.hid hf;have HAT := Lib.hid hat;have O0 := Lib.hid hok;have K0 := Lib.hid hk;clear hf hat hok hk;obtain ⟨a, ln, cap, rfl, hr, -⟩ := h.shape;clear h;obtain ⟨W1, hW1, Kp, Krc, Krn, hB1, hsz⟩ := qE w ((zK (.slice a ln cap) c.ep (c.nest : Int) c.err c.pos)) 40 ((zK (.slice none 0 0) 0 0 0 0)) 40 #[.int .i64 0, .int .i64 0, .int .i64 0, .string ⟨#[]⟩, .slice none 0 0] 25;have Rc : xW n W1 (.slice a ln cap) (c.ws.drop c.at') := hr.out.below (hB1.mono hn);have HW1 := Lib.hid hW1;clear hW1 hr;go_enter Tryz.func69, Tryz.ntmps69;go_upto_region 1 with fail;rw [<- HW1.out];clear HW1;have HC := HAT.out _ _ _ K0.out O0.out (zF.mk Rc) (Nat.le_trans hn hB1.size);obtain ⟨c2, hE⟩ : ∃ q, q = (rf c).1 := ⟨_, rfl⟩;have E2 := Lib.hid hE;clear hE;have f_p := zB Kp;go_wp2_with fail;refine HC.mono ?_; rintro e W2 ⟨x', d, rfl, hx, hd, hB⟩;clear HC;rw [<- E2.out] at hx;obtain ⟨a2, ln2, cap2, rfl, hRq, -⟩ := hx.shape;have Rq2 := hRq.out;clear hx hRq;clear f_p;obtain ⟨Kp, Krc, Krn⟩ := vK hB Kp Krc Krn;replace Rc := Rc.bl hB hn hB1;have hs3 := hB.size;have hB3 := zS hB1 hB;clear hB hB1;have F2 : Hid (zY c c2) := by show zY _ _; rw [E2.out]; exact HF.out _ K0.out
 have O2 := Lib.hid (F2.out.ok O0.out);have K2 := Lib.hid (wH K0.out F2.out);obtain ⟨dk, dp, dn, dt, dq, dl, dc⟩ := d;unfold NC.val;have Td := hd.mono (S' := (fun q => w.heap.size + 1 + 1 + 1 <= q)) fun q hq hl => (by omega)
 clear hd;replace Td := Td.mono (S' := (fun q => w.heap.size + 1 + 1 + 1 <= q /\ q ≠ W2.heap.size)) fun q hq hl => ⟨by omega, by omega⟩
 obtain ⟨W4, hW4, KN, hB, -⟩ := zT W2 #[.int .i64 0, .int .i64 0, .int .i64 0, .string ⟨#[]⟩, .slice none 0 0] 25;have hA4 := hB;have hz4 : W2.heap.size + 1 <= W4.heap.size := by rw [hW4]; simp
 obtain ⟨Kp, Krc, Krn⟩ := vK hB Kp Krc Krn;replace Rc := Rc.bl hB hn hB3;replace Rq2 := Rq2.bl hB hn hB3;have hs5 := hB.size;have hB5 := zS hB3 hB;clear hB hB3;have Km1 := KN;clear KN;have HV := Lib.hid hW4;clear hW4;have np : W2.heap.size ≠ w.heap.size := by omega
 have op : w.heap.size ≠ W2.heap.size := by omega
 have f_p := yH (zB Kp) (zA Km1);rw [HV.out] at f_p;obtain ⟨W6, hW6, KN, hP⟩ := zQ Kp (.slice a2 ln2 cap2) c2.ep (c2.nest : Int) c2.err c2.pos;have hP6 := hP;obtain ⟨Krc, Krn, Km1⟩ := vD hP Krc Krn Km1 (by omega);replace Rc := hP.row Rc (by omega);replace Rq2 := hP.row Rq2 (by omega);have hs7 := hP.size;have hB7 := hP.below _ _ (by omega) hB5;clear hP hB5;replace Kp := KN;clear KN;obtain ⟨W8, hW8, KN, hP⟩ := zZ (z := zN) Km1 ⟨dk, dp, dn, dt, dq, dl, dc⟩;have hP8 := hP;obtain ⟨Kp, Krc, Krn⟩ := vD hP Kp Krc Krn (by omega);replace Rc := hP.row Rc (by omega);replace Rq2 := hP.row Rq2 (by omega);have hs9 := hP.size;have hB9 := hP.below _ _ (by omega) hB7;clear hP hB7;dsimp only [zN] at hW8 KN;replace Km1 := KN;clear KN;go_upto_region 2 with fail;rw [<- HV.out, <- hW6, <- hW8];replace Td := Td.keeps (w' := W8) ⟨by omega, fun q hq hql => (hP8.other q (by omega)).trans ((hP6.other q (by omega)).trans (hA4.block q hql))⟩;clear HV hW6 hW8 hP6 hP8 hA4 np op f_p;have f_p := yH (zB Kp) (zA Km1);go_upto_region 3 with fail;clear f_p;obtain ⟨W10, hV, KL, KN0, hB, hz10⟩ := vC W8 #[.int .i64 dk, .int .i64 dp, .int .i64 dn, .string ⟨dt.toArray⟩, .slice dq dl dc] 25 #[.int .i64 27, .int .i64 ps, .int .i64 0, .string ⟨#[]⟩, .slice (some ⟨W8.heap.size, 0, none⟩) 1 1] 25;rw [<- hV];clear hV;have TL := Td.mono (S' := fun b => w.heap.size + 1 + 1 + 1 <= b /\ b < W8.heap.size) fun b hb hl => ⟨by omega, hl⟩
 have hLB3 : w.heap.size + 1 + 1 + 1 <= W8.heap.size := by omega
 clear Td;replace TL := TL.keeps (.of_below hB);obtain ⟨Kp, Krc, Krn, Km1⟩ := wP hB Kp Krc Krn Km1;replace Rc := Rc.bl hB hn hB9;replace Rq2 := Rq2.bl hB hn hB9;have hs11 := hB.size;have hB11 := zS hB9 hB;clear hB hB9;have Oo := vU.one (n := W8.heap.size) (mb := W8.heap.size + 1) (d := ⟨dk, dp, dn, dt, dq, dl, dc⟩) KL (Nat.le_refl _) (by omega) TL;have Km := KN0;clear KN0 KL TL;clear Km1;have HC := yK (zF.mk Rq2) (Nat.le_trans hn hB11.size) [111, 102];obtain ⟨c12, hE⟩ : ∃ q, q = c2.want [111, 102] := ⟨_, rfl⟩;rw [<- hE] at HC;have E12 := Lib.hid hE;clear hE;have f_p := zB Kp;obtain ⟨⟨m0, m1, m2, m3, m4⟩, mf0, mf1, mf2, mf3, mf4⟩ := zA Km;go_wp2_with fail;refine HC.mono ?_; rintro e W12 ⟨x', rfl, hx, hB⟩;clear HC;obtain ⟨a12, ln12, cap12, rfl, hRq, -⟩ := hx.shape;have Rq12 := hRq.out;clear hx hRq;clear f_p m0 m1 m2 m3 m4 mf0 mf1 mf2 mf3 mf4;obtain ⟨Kp, Krc, Krn, Km⟩ := wP hB Kp Krc Krn Km;replace Oo := Oo.keep (zE hB (some w.heap.size)) (by omega);replace Rc := Rc.bl hB hn hB11;replace Rq2 := Rq2.bl hB hn hB11;have hs13 := hB.size;have hB13 := zS hB11 hB;clear hB hB11;have F12 : Hid (zY c2 c12) := by show zY _ _; rw [E12.out]; exact zL _ _
 have O12 := Lib.hid (F12.out.ok O2.out);have K12 := Lib.hid (wH K2.out F12.out);have f_p := zB Kp;obtain ⟨⟨m0, m1, m2, m3, m4⟩, mf0, mf1, mf2, mf3, mf4⟩ := zA Km;obtain ⟨W14, hW14, KN, hP⟩ := zQ Kp (.slice a12 ln12 cap12) c12.ep (c12.nest : Int) c12.err c12.pos;obtain ⟨Krc, Krn, Km⟩ := vD hP Krc Krn Km (by omega);replace Oo := Oo.keep hP.grown (by omega);replace Rc := hP.row Rc (by omega);replace Rq2 := hP.row Rq2 (by omega);replace Rq12 := hP.row Rq12 (by omega);have hs15 := hP.size;have hB15 := hP.below _ _ (by omega) hB13;clear hP hB13;replace Kp := KN;clear KN;go_upto_region 4 with fail;rw [<- hW14];clear hW14;clear f_p m0 m1 m2 m3 m4 mf0 mf1 mf2 mf3 mf4;have HC := yK (zF.mk Rq12) (Nat.le_trans hn hB15.size) [123];obtain ⟨c16, hE⟩ : ∃ q, q = c12.want [123] := ⟨_, rfl⟩;rw [<- hE] at HC;have E16 := Lib.hid hE;clear hE;have f_p := zB Kp;obtain ⟨⟨m0, m1, m2, m3, m4⟩, mf0, mf1, mf2, mf3, mf4⟩ := zA Km;go_wp2_with fail;refine HC.mono ?_; rintro e W16 ⟨x', rfl, hx, hB⟩;clear HC;obtain ⟨a16, ln16, cap16, rfl, hRq, -⟩ := hx.shape;have Rq16 := hRq.out;clear hx hRq;clear f_p m0 m1 m2 m3 m4 mf0 mf1 mf2 mf3 mf4;obtain ⟨Kp, Krc, Krn, Km⟩ := wP hB Kp Krc Krn Km;replace Oo := Oo.keep (zE hB (some w.heap.size)) (by omega);replace Rc := Rc.bl hB hn hB15;replace Rq2 := Rq2.bl hB hn hB15;replace Rq12 := Rq12.bl hB hn hB15;have hs17 := hB.size;have hB17 := zS hB15 hB;clear hB hB15;have F16 : Hid (zY c12 c16) := by show zY _ _; rw [E16.out]; exact zL _ _
 have O16 := Lib.hid (F16.out.ok O12.out);have K16 := Lib.hid (wH K12.out F16.out);have f_p := zB Kp;obtain ⟨⟨m0, m1, m2, m3, m4⟩, mf0, mf1, mf2, mf3, mf4⟩ := zA Km;obtain ⟨W18, hW18, KN, hP⟩ := zQ Kp (.slice a16 ln16 cap16) c16.ep (c16.nest : Int) c16.err c16.pos;obtain ⟨Krc, Krn, Km⟩ := vD hP Krc Krn Km (by omega);replace Oo := Oo.keep hP.grown (by omega);replace Rc := hP.row Rc (by omega);replace Rq2 := hP.row Rq2 (by omega);replace Rq12 := hP.row Rq12 (by omega);replace Rq16 := hP.row Rq16 (by omega);have hs19 := hP.size;have hB19 := hP.below _ _ (by omega) hB17;clear hP hB17;replace Kp := KN;clear KN;go_upto_region 5 with fail;rw [<- hW18];clear hW18;clear f_p m0 m1 m2 m3 m4 mf0 mf1 mf2 mf3 mf4;obtain ⟨F, hF⟩ : ∃ F, F = c12.ws.length + 2 := ⟨_, rfl⟩;obtain ⟨t0, ht0⟩ : ∃ t, t = (rf c).2 := ⟨_, rfl⟩;rw [<- ht0] at Oo;have HR : Hid (pC rf c ps = ((wJ (oA rf) F c16 [t0]).1.want [125], .mk 27 ps 0 [] (wJ (oA rf) F c16 [t0]).2)) := by show _ = _; rw [hF, ht0, E16.out, E12.out, E2.out]; rfl
 have hF1 : F <= 4002 := by have := HFEW.out; rw [hF, F12.out.ws, F2.out.ws]; omega
 have hF2 : c16.ws.length - c16.at' < F := by rw [F16.out.ws]; omega
 clear hF ht0;have hLB : w.heap.size + 1 + 1 < W8.heap.size := by omega
 have hLW : W8.heap.size + 1 + 1 <= W18.heap.size := by omega
 have f_p := zB Kp;obtain ⟨⟨m0, m1, m2, m3, m4⟩, mf0, mf1, mf2, mf3, mf4⟩ := zA Km;go_wp2_with fail;clear f_p m0 m1 m2 m3 m4 mf0 mf1 mf2 mf3 mf4;go_loopg [8] F (fun gk q wr => ∃ (d : Cu) (ks : List Nd) (mo : Bool) (a5 : Option Addr) (ln5 cap5 : Nat) (kp : Option Addr) (kl kc : Nat), q = .bool mo /\ CaseSt n w (W8.heap.size + 1) (W8.heap.size) F (oA rf) c16 [t0] ps gk d ks mo (.slice a5 ln5 cap5) kp kl kc wr)
 case atStart => exact ⟨c16, [t0], true, a16, ln16, cap16, _, _, _, rfl, ⟨rfl, fun _ => hF2, .refl _, by simp; omega, hB19, hLW, Kp, Krc, Krn, Km, Rq16, Oo⟩⟩
 case round =>
  clear Oo;obtain ⟨d, ks, mo, a5, ln5, cap5, kp, kl, kc, rfl, HS⟩ := hrel;clear Kp Krc Krn Km Rc hB19;try clear Rq16
  have Kp := HS.pb;have Krc := HS.rcb;have Krn := HS.rnb;have Km := HS.nb;have hBw := HS.bel;have hlow := HS.low;have hsum := HS.sum;have Rd := HS.row;have Oo := HS.own;have HM := Lib.hid HS.eq;have HFW := Lib.hid HS.few;have FD := Lib.hid HS.fine;clear HS;have OD := Lib.hid (FD.out.ok O16.out);have KD := Lib.hid (wH K16.out FD.out);have HBK : Hid (∀ b, (Value.slice kp kl kc).ownBlock = some b -> W8.heap.size <= b /\ b < wr.heap.size /\ b ≠ W8.heap.size + 1) := by obtain ⟨ds, _, q, h3, _⟩ := Oo; exact fun b hb => ⟨(q.lt b hb).1, (q.lt b hb).2, h3 b hb⟩
  cases mo with
  | false =>
   have HMM : Hid (wJ (oA rf) F c16 [t0] = (d, ks)) := by show _ = _; rw [<- HM.out]; rfl
   have HQ : Hid (pC rf c ps = (d.want [125], .mk 27 ps 0 [] ks)) := by show _ = _; rw [HR.out, HMM.out]
   clear HMM HM;have HC := yK (zF.mk Rd) (Nat.le_trans hn hBw.size) [125];obtain ⟨c20, hE⟩ : ∃ q, q = d.want [125] := ⟨_, rfl⟩;rw [<- hE] at HC;have E20 := Lib.hid hE;clear hE;have f_p := zB Kp;obtain ⟨⟨m0, m1, m2, m3, m4⟩, mf0, mf1, mf2, mf3, mf4⟩ := zA Km;go_wp2_with fail;refine HC.mono ?_; rintro e W20 ⟨x', rfl, hx, hB⟩;clear HC;obtain ⟨a20, ln20, cap20, rfl, hRq, -⟩ := hx.shape;have Rq20 := hRq.out;clear hx hRq;clear f_p m0 m1 m2 m3 m4 mf0 mf1 mf2 mf3 mf4;obtain ⟨Kp, Krc, Krn, Km⟩ := wP hB Kp Krc Krn Km;replace Oo := Oo.keep (zE hB (some w.heap.size)) (by omega);replace Rd := Rd.bl hB hn hBw;have hs21 := hB.size;have hB21 := zS hBw hB;clear hB hBw;rw [<- E20.out] at HQ;have f_p := zB Kp;obtain ⟨⟨m0, m1, m2, m3, m4⟩, mf0, mf1, mf2, mf3, mf4⟩ := zA Km;obtain ⟨W22, hW22, KN, hP⟩ := zQ Kp (.slice a20 ln20 cap20) c20.ep (c20.nest : Int) c20.err c20.pos;obtain ⟨Krc, Krn, Km⟩ := vD hP Krc Krn Km (by omega);replace Oo := Oo.keep hP.grown (by omega);replace Rd := hP.row Rd (by omega);replace Rq20 := hP.row Rq20 (by omega);have hs23 := hP.size;have hB23 := hP.below _ _ (by omega) hB21;clear hP hB21;replace Kp := KN;clear KN;go_upto_region 13 with fail;rw [<- hW22];clear hW22;clear f_p m0 m1 m2 m3 m4 mf0 mf1 mf2 mf3 mf4;obtain ⟨qz, capz, q0⟩ := Oo.shape;have Tl := (Oo.plain (by omega));rw [q0] at Tl;have Tl := Tl.node 27 ps 0 [];clear Oo;have hkl : (.slice kp kl kc : Value) = .slice qz ks.length capz := q0;obtain ⟨rfl, rfl, rfl⟩ : kp = qz /\ kl = ks.length /\ kc = capz := by injection hkl with x1 x2 x3; exact ⟨x1, x2, x3⟩
   clear q0 hkl;have na_m : W8.heap.size + 1 ≠ w.heap.size + 1 := by omega
   have nb_m : W8.heap.size + 1 ≠ w.heap.size + 1 + 1 := by omega
   have f_p := xZ (zB Kp) (zB Krc) (zA Krn);obtain ⟨⟨m0, m1, m2, m3, m4⟩, mf0, mf1, mf2, mf3, mf4⟩ := zA Km;obtain ⟨W24, hW24, KN, hP⟩ := zQ Krc (.slice a20 ln20 cap20) c20.ep (c20.nest : Int) c20.err c20.pos;obtain ⟨Kp, Krn, Km⟩ := vD hP Kp Krn Km (by omega);replace Tl := hP.node Tl (by omega);replace Rd := hP.row Rd (by omega);replace Rq20 := hP.row Rq20 (by omega);have hs25 := hP.size;have hB25 := hP.below _ _ (by omega) hB23;clear hP hB23;replace Krc := KN;clear KN;obtain ⟨W26, hW26, KN, hP⟩ := zZ (z := zN) Krn ⟨27, ps, 0, [], kp, ks.length, kc⟩;obtain ⟨Kp, Krc, Km⟩ := vD hP Kp Krc Km (by omega);replace Tl := hP.node Tl (by omega);replace Rd := hP.row Rd (by omega);replace Rq20 := hP.row Rq20 (by omega);have hs27 := hP.size;have hB27 := hP.below _ _ (by omega) hB25;clear hP hB25;dsimp only [zN] at hW26 KN;replace Krn := KN;clear KN;go_region;rw [<- hW24, <- hW26];clear f_p m0 m1 m2 m3 m4 mf0 mf1 mf2 mf3 mf4;obtain ⟨W28, hW28⟩ : ∃ x, x = W26.drew := ⟨_, rfl⟩;have hB : Below W26.heap.size W26 W28 := by rw [hW28]; exact (Below.refl _ _).drew
   rw [<- hW28];clear hW28;obtain ⟨Kp, Krc, Krn, Km⟩ := wP hB Kp Krc Krn Km;replace Tl := Tl.keeps (.of_below hB);replace Rd := Rd.bl hB hn hB27;replace Rq20 := Rq20.bl hB hn hB27;have hs29 := hB.size;have hB29 := zS hB27 hB;clear hB hB27;go_wp2_with fail;obtain ⟨⟨y0, y1, y2, y3, y4, y5, y6, y7⟩, -⟩ := zB Krc;obtain ⟨⟨z0, z1, z2, z3, z4⟩, -⟩ := zA Krn;refine bodyPost_ret (v := .tuple #[.agg (zK (.slice a20 ln20 cap20) c20.ep (c20.nest : Int) c20.err c20.pos), NC.val ⟨27, ps, 0, [], kp, ks.length, kc⟩]) (by simp [results, Tryz.results69, go_sem, y0, y1, y2, y3, y4, y5, y6, y7, z0, z1, z2, z3, z4, NC.val]) rfl ⟨_, ⟨27, ps, 0, [], kp, ks.length, kc⟩, rfl, ?_, ?_, hB29⟩
   ·
    rw [HQ.out]; exact zF.mk Rq20
   ·
    rw [HQ.out]; exact Tl.mono fun q hq _ => by omega
  | true =>
   cases gk with
   | zero => exact absurd (HFW.out rfl) (Nat.not_lt_zero _)
   | succ gf =>
    have HX7 := Lib.hid (HFW.out rfl);have HM7 := Lib.hid (show wJ (oA rf) (gf + 1) d ks = _ from HM.out);have hX0 : Below wr.heap.size wr wr := Below.refl _ _;have HC := HPT.out _ _ _ OD.out (zF.mk Rd) (Nat.le_trans hn hBw.size);obtain ⟨c30, hE⟩ : ∃ q, q = (N8.atR 200 d).1 := ⟨_, rfl⟩;have E30 := Lib.hid hE;clear hE;have f_p := zB Kp;go_wp2_with fail;refine HC.mono ?_; rintro e W30 ⟨x', d1, rfl, hx, hd, hB⟩;clear HC;rw [<- E30.out] at hx;obtain ⟨a30, ln30, cap30, rfl, hRq, -⟩ := hx.shape;have Rq30 := hRq.out;clear hx hRq;clear f_p;have hX31 := zS hX0 hB;obtain ⟨Kp, Krc, Krn, Km⟩ := wP hB Kp Krc Krn Km;replace Rd := Rd.bl hB hn hBw;have hs32 := hB.size;have hB32 := zS hBw hB;clear hB hBw;have F30 : Hid (zY d c30) := by show zY _ _; rw [E30.out]; exact aQ d
    have O30 := Lib.hid (F30.out.ok OD.out);have K30 := Lib.hid (wH KD.out F30.out);obtain ⟨dk, dp, dn, dt, dq, dl, dc⟩ := d1;unfold NC.val;have HDP := Lib.hid (show dp = (N8.atR 200 d).2.pos from hd.pos);have Td := hd.mono (S' := (fun q => wr.heap.size <= q)) fun q hq hl => (by omega)
    clear hd;go_upto_region 8 with fail;replace Td := Td.mono (S' := (fun q => wr.heap.size <= q /\ q ≠ W30.heap.size /\ q ≠ W30.heap.size + 1)) fun q hq hl => ⟨by omega, by omega, by omega⟩
    obtain ⟨W33, hV, KC0, KN0, hB, hz33⟩ := vC W30 ((zK (.slice a30 ln30 cap30) c30.ep (c30.nest : Int) c30.err c30.pos)) 40 #[.int .i64 dk, .int .i64 dp, .int .i64 dn, .string ⟨dt.toArray⟩, .slice dq dl dc] 25;rw [<- hV];clear hV;have hX34 := zS hX31 hB;obtain ⟨Kp, Krc, Krn, Km⟩ := wP hB Kp Krc Krn Km;replace Td := Td.keeps (.of_below hB);replace Rd := Rd.bl hB hn hB32;replace Rq30 := Rq30.bl hB hn hB32;have hs35 := hB.size;have hB35 := zS hB32 hB;clear hB hB32;have Kg := KC0;clear KC0;have Km2 := KN0;clear KN0;have HC := yK (zF.mk Rq30) (Nat.le_trans hn hB35.size) [45, 62];obtain ⟨c36, hE⟩ : ∃ q, q = c30.want [45, 62] := ⟨_, rfl⟩;rw [<- hE] at HC;have E36 := Lib.hid hE;clear hE;have f_g := zB Kg;go_wp2_with fail;refine HC.mono ?_; rintro e W36 ⟨x', rfl, hx, hB⟩;clear HC;obtain ⟨a36, ln36, cap36, rfl, hRq, -⟩ := hx.shape;have Rq36 := hRq.out;clear hx hRq;clear f_g;have hX37 := zS hX34 hB;obtain ⟨Kp, Krc, Krn, Km, Kg, Km2⟩ := gl6 hB Kp Krc Krn Km Kg Km2;replace Td := Td.keeps (.of_below hB);replace Rd := Rd.bl hB hn hB35;replace Rq30 := Rq30.bl hB hn hB35;have hs38 := hB.size;have hB38 := zS hB35 hB;clear hB hB35;have F36 : Hid (zY c30 c36) := by show zY _ _; rw [E36.out]; exact zL _ _
    have O36 := Lib.hid (F36.out.ok O30.out);have K36 := Lib.hid (wH K30.out F36.out);have f_g := zB Kg;obtain ⟨W39, hW39, KN, hP⟩ := zQ Kg (.slice a36 ln36 cap36) c36.ep (c36.nest : Int) c36.err c36.pos;have hX40 := hP.below _ _ (by omega) hX37;obtain ⟨Kp, Krc, Krn, Km, Km2⟩ := gq5 hP Kp Krc Krn Km Km2 (by omega);replace Td := hP.node Td (by omega);replace Rd := hP.row Rd (by omega);replace Rq30 := hP.row Rq30 (by omega);replace Rq36 := hP.row Rq36 (by omega);have hs41 := hP.size;have hB41 := hP.below _ _ (by omega) hB38;clear hP hB38;replace Kg := KN;clear KN;go_upto_region 9 with fail;rw [<- hW39];clear hW39;clear f_g;have HC := HAT.out _ _ _ K36.out O36.out (zF.mk Rq36) (Nat.le_trans hn hB41.size);obtain ⟨c42, hE⟩ : ∃ q, q = (rf c36).1 := ⟨_, rfl⟩;have E42 := Lib.hid hE;clear hE;have f_g := zB Kg;go_wp2_with fail;refine HC.mono ?_; rintro e W42 ⟨x', e, rfl, hx, he, hB⟩;clear HC;rw [<- E42.out] at hx;obtain ⟨a42, ln42, cap42, rfl, hRq, -⟩ := hx.shape;have Rq42 := hRq.out;clear hx hRq;clear f_g;have hX43 := zS hX40 hB;obtain ⟨Kp, Krc, Krn, Km, Kg, Km2⟩ := gl6 hB Kp Krc Krn Km Kg Km2;replace Td := Td.keeps (.of_below hB);replace Rd := Rd.bl hB hn hB41;replace Rq30 := Rq30.bl hB hn hB41;replace Rq36 := Rq36.bl hB hn hB41;have hs44 := hB.size;have hB44 := zS hB41 hB;clear hB hB41;have F42 : Hid (zY c36 c42) := by show zY _ _; rw [E42.out]; exact HF.out _ K36.out
    have O42 := Lib.hid (F42.out.ok O36.out);have K42 := Lib.hid (wH K36.out F42.out);obtain ⟨ek, ep, en, et, eq, el, ec⟩ := e;unfold NC.val;have Te := he.mono (S' := (fun q => wr.heap.size <= q /\ q ≠ W30.heap.size /\ q ≠ W30.heap.size + 1)) fun q hq hl => ⟨by omega, by omega, by omega⟩
    clear he;replace Td := Td.mono (S' := (fun q => wr.heap.size <= q /\ q ≠ W30.heap.size /\ q ≠ W30.heap.size + 1 /\ q ≠ W42.heap.size)) fun q hq hl => ⟨by omega, by omega, by omega, by omega⟩
    replace Te := Te.mono (S' := (fun q => wr.heap.size <= q /\ q ≠ W30.heap.size /\ q ≠ W30.heap.size + 1 /\ q ≠ W42.heap.size)) fun q hq hl => ⟨by omega, by omega, by omega, by omega⟩
    obtain ⟨W45, hW45, KN, hB, -⟩ := zT W42 #[.int .i64 0, .int .i64 0, .int .i64 0, .string ⟨#[]⟩, .slice none 0 0] 25;have hA45 := hB;have hz45 : W42.heap.size + 1 <= W45.heap.size := by rw [hW45]; simp
    have hX46 := zS hX43 hB;obtain ⟨Kp, Krc, Krn, Km, Kg, Km2⟩ := gl6 hB Kp Krc Krn Km Kg Km2;replace Rd := Rd.bl hB hn hB44;replace Rq30 := Rq30.bl hB hn hB44;replace Rq36 := Rq36.bl hB hn hB44;replace Rq42 := Rq42.bl hB hn hB44;have hs47 := hB.size;have hB47 := zS hB44 hB;clear hB hB44;have Km3 := KN;clear KN;have HV := Lib.hid hW45;clear hW45;have ng : W42.heap.size ≠ W30.heap.size := by omega
    have og : W30.heap.size ≠ W42.heap.size := by omega
    have f_g := yH (zB Kg) (zA Km3);rw [HV.out] at f_g;obtain ⟨W48, hW48, KN, hP⟩ := zQ Kg (.slice a42 ln42 cap42) c42.ep (c42.nest : Int) c42.err c42.pos;have hP48 := hP;have hX49 := hP.below _ _ (by omega) hX46;obtain ⟨Kp, Krc, Krn, Km, Km2, Km3⟩ := gq6 hP Kp Krc Krn Km Km2 Km3 (by omega);replace Rd := hP.row Rd (by omega);replace Rq30 := hP.row Rq30 (by omega);replace Rq36 := hP.row Rq36 (by omega);replace Rq42 := hP.row Rq42 (by omega);have hs50 := hP.size;have hB50 := hP.below _ _ (by omega) hB47;clear hP hB47;replace Kg := KN;clear KN;obtain ⟨W51, hW51, KN, hP⟩ := zZ (z := zN) Km3 ⟨ek, ep, en, et, eq, el, ec⟩;have hP51 := hP;have hX52 := hP.below _ _ (by omega) hX49;obtain ⟨Kp, Krc, Krn, Km, Kg, Km2⟩ := gq6 hP Kp Krc Krn Km Kg Km2 (by omega);replace Rd := hP.row Rd (by omega);replace Rq30 := hP.row Rq30 (by omega);replace Rq36 := hP.row Rq36 (by omega);replace Rq42 := hP.row Rq42 (by omega);have hs53 := hP.size;have hB53 := hP.below _ _ (by omega) hB50;clear hP hB50;dsimp only [zN] at hW51 KN;replace Km3 := KN;clear KN;go_upto_region 10 with fail;rw [<- HV.out, <- hW48, <- hW51];replace Td := Td.keeps (w' := W51) ⟨by omega, fun q hq hql => (hP51.other q (by omega)).trans ((hP48.other q (by omega)).trans (hA45.block q hql))⟩;replace Te := Te.keeps (w' := W51) ⟨by omega, fun q hq hql => (hP51.other q (by omega)).trans ((hP48.other q (by omega)).trans (hA45.block q hql))⟩;clear HV hW48 hW51 hP48 hP51 hA45 ng og f_g;have Oo := Oo.keep (zE hX52 (some w.heap.size)) (by omega);obtain ⟨WL, hWL, KL, hBL, -⟩ := zT W51 #[.int .i64 dk, .int .i64 dp, .int .i64 dn, .string ⟨dt.toArray⟩, .slice dq dl dc, .int .i64 ek, .int .i64 ep, .int .i64 en, .string ⟨et.toArray⟩, .slice eq el ec] 25;have hsL : WL.heap.size = W51.heap.size + 1 := by rw [hWL]; simp
    have TA := mR (d := ⟨dk, dp, dn, dt, dq, dl, dc⟩) (e := ⟨ek, ep, en, et, eq, el, ec⟩) KL (S := fun b => wr.heap.size <= b) (by omega) ((Td.mono fun b hb _ => by omega).keeps ⟨hBL.size, fun k hk hkl => hBL.block k hkl⟩) ((Te.mono fun b hb _ => by omega).keeps ⟨hBL.size, fun k hk hkl => hBL.block k hkl⟩) 15 dp 0 [];obtain ⟨ds, e1, e2, e4, e3⟩ := Oo;have HE3 := Lib.hid (fun j (a : j < ds.length) (b : j < ks.length) => (e3 j a b).keeps (.of_below hBL));have HE1 := Lib.hid e1;have HE4 := Lib.hid e4;have HAL : Hid (∀ w3, ((W51.alloc (.cells #[.int .i64 dk, .int .i64 dp, .int .i64 dn, .string ⟨dt.toArray⟩, .slice dq dl dc, .int .i64 ek, .int .i64 ep, .int .i64 en, .string ⟨et.toArray⟩, .slice eq el ec] 25)).alloc (.cells #[.int .i64 15, .int .i64 dp, .int .i64 0, .string ⟨#[]⟩, .slice (some ⟨W51.heap.size, 0, none⟩) 2 2] 25)).grownBy w3 (Value.slice kp kl kc).ownBlock -> WL.grownBy w3 (Value.slice kp kl kc).ownBlock /\ W51.grownBy w3 (Value.slice kp kl kc).ownBlock) := fun w3 hg => by have h1 := (World.grownBy_alloc (W51.alloc (.cells #[.int .i64 dk, .int .i64 dp, .int .i64 dn, .string ⟨dt.toArray⟩, .slice dq dl dc, .int .i64 ek, .int .i64 ep, .int .i64 en, .string ⟨et.toArray⟩, .slice eq el ec] 25)) (.cells #[.int .i64 15, .int .i64 dp, .int .i64 0, .string ⟨#[]⟩, .slice (some ⟨W51.heap.size, 0, none⟩) 2 2] 25) (Value.slice kp kl kc).ownBlock).andThen hg (fun j hj => .inr hj); exact ⟨by rw [hWL]; exact h1, (World.grownBy_alloc W51 _ _).andThen h1 (fun j hj => .inr hj)⟩
    have HTA := Lib.hid TA;have HCL : Hid (∀ j u, (yJ ⟨15, dp, 0, [], some ⟨W51.heap.size, 0, none⟩, 2, 2⟩)[j]? = some u -> ((W51.alloc (.cells #[.int .i64 dk, .int .i64 dp, .int .i64 dn, .string ⟨dt.toArray⟩, .slice dq dl dc, .int .i64 ek, .int .i64 ep, .int .i64 en, .string ⟨et.toArray⟩, .slice eq el ec] 25)).alloc (.cells #[.int .i64 15, .int .i64 dp, .int .i64 0, .string ⟨#[]⟩, .slice (some ⟨W51.heap.size, 0, none⟩) 2 2] 25)).cell? ((⟨W51.heap.size + 1, 0, none⟩ : Addr).add j) = some u) := fun j u h => by have h0 := N6.cells_of_new (W51.alloc (.cells #[.int .i64 dk, .int .i64 dp, .int .i64 dn, .string ⟨dt.toArray⟩, .slice dq dl dc, .int .i64 ek, .int .i64 ep, .int .i64 en, .string ⟨et.toArray⟩, .slice eq el ec] 25)) #[.int .i64 15, .int .i64 dp, .int .i64 0, .string ⟨#[]⟩, .slice (some ⟨W51.heap.size, 0, none⟩) 2 2] 25 (yJ ⟨15, dp, 0, [], some ⟨W51.heap.size, 0, none⟩, 2, 2⟩) rfl j u h; simp only [World.size_alloc] at h0; exact h0
    clear e1 e3 e4 hWL KL TA Td Te;obtain ⟨⟨m0, m1, m2, m3, m4⟩, mf0, mf1, mf2, mf3, mf4⟩ := zA Km;have f_m := yH (zA Km2) (zA Km3);have lt_p : w.heap.size < W51.heap.size := by omega
    have lt_rc : w.heap.size + 1 < W51.heap.size := by omega
    have lt_rn : w.heap.size + 1 + 1 < W51.heap.size := by omega
    have lt_m : W8.heap.size + 1 < W51.heap.size := by omega
    have lt_g : W30.heap.size < W51.heap.size := by omega
    have lt_m2 : W30.heap.size + 1 < W51.heap.size := by omega
    have lt_m3 : W42.heap.size < W51.heap.size := by omega
    go_upto_region 11 with (at_builtin; refine yB rfl _ _ 23 rfl (W8.heap.size) 25 i0 _ 5 64 Tryz.underlying23 hi0 hy0 hy1 hy2 rfl (by decide) _ _ _ rfl ((e2.alloc _).alloc _) ⟨W51.heap.size + 1, 0, none⟩ 1 1 (yJ ⟨15, dp, 0, [], some ⟨W51.heap.size, 0, none⟩, 2, 2⟩) rfl rfl HCL.out (wD _) ?_ ?_ ?_ ?_; (unfold maxLen; omega); omega; (simp <;> omega); intro v3 w3 ho3 hg3 hat3; obtain ⟨hal, halW⟩ := HAL.out w3 hg3; have hat4 : v3.ownBlock = (Value.slice kp kl kc).ownBlock \/ ∃ n, v3.ownBlock = some n /\ WL.heap.size <= n := hat3.imp id fun e => ⟨_, e, by simp [hsL]⟩; have HO3 := vU.snoc (m := w.heap.size + 1 + 1 + 1) (mb := W8.heap.size + 1) HE1.out HE3.out HE4.out (by omega) (HTA.out.mono fun b hb _ => ⟨by omega, by omega, fun e => by have := (HBK.out b e).2.1; omega⟩) ho3 hal hat4; obtain ⟨pz3, capz3, q0⟩ := HO3.shape; have q3 : v3 = .slice pz3 (ks.length + 1) capz3 := q0.trans (by rw [List.length_append]; rfl); clear q0; subst q3; have KM := Km.kept halW (fun e => by have := (HBK.out _ e.symm).2.2; omega); obtain ⟨⟨m0, m1, m2, m3, m4⟩, mf0, mf1, mf2, mf3, mf4⟩ := zA KM);have HB3 : Below w.heap.size W51 w3 := rT halW (fun b hb => by have := (HBK.out b hb).1; omega) (by omega);have hP := wE.one w3 (W8.heap.size + 1) 4 (.slice pz3 (ks.length + 1) capz3);have KM2 := KM.set 4 (.slice pz3 (ks.length + 1) capz3);have hsz3 := halW.size;try clear hg3
    try clear hat3
    try clear hat4
    try clear ho3
    try clear e2
    try clear HE1
    try clear HE3
    try clear HE4
    try clear KM
    try clear m0
    try clear m1
    try clear m2
    try clear m3
    try clear m4
    try clear mf0
    try clear mf1
    try clear mf2
    try clear mf3
    try clear mf4
    try clear Km
    try clear HAL
    try clear HTA
    try clear hal
    try clear m0
    try clear m1
    try clear m2
    try clear m3
    try clear m4
    try clear mf0
    try clear mf1
    try clear mf2
    try clear mf3
    try clear mf4
    try clear f_m
    try clear f_m
    try clear f_m
    try clear f_m
    try clear f_m
    try clear f_m
    try clear f_m
    try clear f_m
    try clear f_m
    try clear f_m
    try clear f_m
    try clear f_m
    try clear f_m
    try clear f_m
    try clear f_m
    try clear f_m
    try clear f_m
    try clear f_m
    try clear f_m
    try clear f_m
    try clear lt_p
    try clear lt_rc
    try clear lt_rn
    try clear lt_m
    try clear lt_g
    try clear lt_m2
    try clear lt_m3
    obtain ⟨W54, hWS⟩ : ∃ x, x = w3.setCell ⟨W8.heap.size + 1, 4, none⟩ (.slice pz3 (ks.length + 1) capz3) := ⟨_, rfl⟩;rw [<- hWS] at hP KM2 ⊢;clear Km2 Km3;replace Kp := hP.blk (Kp.kept halW (fun e => by have := (HBK.out _ e.symm); omega)) (by omega);replace Krc := hP.blk (Krc.kept halW (fun e => by have := (HBK.out _ e.symm); omega)) (by omega);replace Krn := hP.blk (Krn.kept halW (fun e => by have := (HBK.out _ e.symm); omega)) (by omega);replace Kg := hP.blk (Kg.kept halW (fun e => by have := (HBK.out _ e.symm); omega)) (by omega);have Km := KM2;clear KM2;replace Rd := hP.row (Rd.below (HB3.mono hn)) (by omega);replace Rq30 := hP.row (Rq30.below (HB3.mono hn)) (by omega);replace Rq36 := hP.row (Rq36.below (HB3.mono hn)) (by omega);replace Rq42 := hP.row (Rq42.below (HB3.mono hn)) (by omega);have hB54 := hP.below _ _ (by omega) (hB53.trans HB3);have hs54 := hP.size;have Oo := HO3.keep hP.grown (.inr rfl);clear HO3 HB3 halW hWS hP hB53;obtain ⟨mo2, hmo⟩ : ∃ b, b = vQ c42 := ⟨_, rfl⟩;have HMO := Lib.hid hmo;have HC := lQ (zF.mk Rq42) (Nat.le_trans hn hB54.size);obtain ⟨c55, hE⟩ : ∃ q, q = c42.take [59] := ⟨_, rfl⟩;rw [<- hE] at HC;rw [<- hmo] at HC;have E55 := Lib.hid hE;clear hE;have f_p := yH (zB Kp) (zB Kg);go_wp2_with fail;refine HC.mono ?_; rintro e W55 ⟨x', rfl, hx, hB⟩;clear HC;obtain ⟨a55, ln55, cap55, rfl, hRq, -⟩ := hx.shape;have Rq55 := hRq.out;clear hx hRq;clear f_p;obtain ⟨Kp, Krc, Krn, Km, Kg⟩ := gM hB Kp Krc Krn Km Kg;replace Oo := Oo.keep (zE hB (some w.heap.size)) (by omega);replace Rd := Rd.bl hB hn hB54;replace Rq30 := Rq30.bl hB hn hB54;replace Rq36 := Rq36.bl hB hn hB54;replace Rq42 := Rq42.bl hB hn hB54;have hs56 := hB.size;have hB56 := zS hB54 hB;clear hB hB54;clear hmo;have F55 : Hid (zY c42 c55) := by show zY _ _; rw [E55.out]; exact yD _ _
    have O55 := Lib.hid (F55.out.ok O42.out);have K55 := Lib.hid (wH K42.out F55.out);have f_p := yH (zB Kp) (zB Kg);obtain ⟨W57, hW57, KN, hP⟩ := zQ Kp (.slice a55 ln55 cap55) c55.ep (c55.nest : Int) c55.err c55.pos;obtain ⟨Krc, Krn, Km, Kg⟩ := lY hP Krc Krn Km Kg (by omega);replace Oo := Oo.keep hP.grown (by omega);replace Rd := hP.row Rd (by omega);replace Rq30 := hP.row Rq30 (by omega);replace Rq36 := hP.row Rq36 (by omega);replace Rq42 := hP.row Rq42 (by omega);replace Rq55 := hP.row Rq55 (by omega);have hs58 := hP.size;have hB58 := hP.below _ _ (by omega) hB56;clear hP hB56;replace Kp := KN;clear KN;go_wp2_with fail;go_roundg gf
    case measure => omega
    case rel =>
     rw [<- hW57];have HAE : oA rf d = (c42, .mk 15 (N8.atR 200 d).2.pos 0 [] [(N8.atR 200 d).2, (rf c36).2]) := by rw [E42.out, E36.out, E30.out]; rfl
     refine ⟨c55, ks ++ [.mk 15 dp 0 [] [(N8.atR 200 d).2, (rf c36).2]], mo2, a55, ln55, cap55, pz3, _, capz3, rfl, ⟨?_, fun hm => ?_, FD.out.trans (F30.out.trans (F36.out.trans (F42.out.trans F55.out))), by simp; omega, hB58, by omega, Kp, Krc, Krn, Km, Rq55, Oo⟩⟩
     ·
      rw [<- HM7.out, fU, HAE, E55.out, HMO.out, HDP.out]
     ·
      have h1 := dM (HMO.out ▸ hm);have h2 := (wU h1).2;have h3 := (F30.out.trans (F36.out.trans F42.out)).at';have h4 := (F30.out.trans (F36.out.trans F42.out)).ws;have h5 : c55.at' = c42.at' + 1 := by rw [E55.out]; unfold Cu.take; rw [if_pos h1]
      have h6 := F55.out.ws;have h7 := HX7.out;rw [h4] at h2;rw [h6, h4, h5];omega
end Go.Proofs.YtdjomhbmhooceaaGreat.N9
