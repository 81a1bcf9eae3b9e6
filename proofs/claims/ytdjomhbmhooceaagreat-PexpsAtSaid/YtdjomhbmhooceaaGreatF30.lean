import Derived.Test.YtdjomhbmhooceaaGreatF19
import Derived.Test.YtdjomhbmhooceaaGreatF20
import Derived.Test.YtdjomhbmhooceaaGreatF25
import Derived.Test.YtdjomhbmhooceaaGreatF29
set_option maxHeartbeats 8000000
set_option maxRecDepth 100000
set_option linter.unusedVariables false
set_option linter.unusedSimpArgs false
namespace Go.Proofs.YtdjomhbmhooceaaGreat.N9
open Go.RowKit N5 N6 N7
attribute [local go_sem] xB xA
theorem uH {B : Nat} {v : Value} : ∀ (n : Nat) (c : Cu) (W : World), 200 <= c.nest + n -> zJ W B v c -> Calls Tryz.prog 35 #[wF B] W (zU B v (wholeP n c) W)
 | 0, c, W, hk, h => by
  have hne : ¬ c.enters = true := fun q => by have := (yF.1 q).2; omega
  have := uA (rd := fun c => (c, none)) h (fun he => absurd he hne);unfold deeper at this;rw [if_neg hne] at this;exact this
 | n + 1, c, W, hk, h => uA (rd := qA (wholeP n)) h fun he W hc => by
  have hn : 200 <= c.enter.nest + n := by rw [yR he]; show 200 <= c.nest + 1 + n; omega
  have HW : ∀ (c : Cu) (W : World), 200 <= c.nest + n -> zJ W B v c -> Calls Tryz.prog 35 #[wF B] W (zU B v (wholeP n c) W) := fun c W hk h => uH n c W hk h
  have HQ : ∀ (c : Cu) (W : World), zJ W B v c -> Calls Tryz.prog 55 #[.pointer (some ⟨B, 0, none⟩)] W (zU B v (tA (N7.wholeP 200) c) W) := fun c W h => mQ h
  have HP : ∀ (c : Cu) (W : World), zJ W B v c -> Calls Tryz.prog 137 #[.pointer (some ⟨B, 0, none⟩)] W (zU B v (N8.wholeP 200 c) W) := fun c W h => N8.at_any h
  exact AaZ hc (fun W h => fZ h HW hn) (fun W h => let_any h (pair_whole n) (qI n) HQ HW hn) (fun W h => fJ h (pair_whole n) (qI n) HP HW hn) (fun W h => gQ h (pair_whole n) HW hn) (fun W h => aK h (pair_whole n) HW (by omega))
theorem at_any  {w : World} {B : Nat} {v : Value} {c : Cu} (h : zJ w B v c)  : Calls Tryz.prog 14 #[.pointer (some ⟨B, 0, none⟩)] w (zU B v (wholeP 200 c) w) := by
 obtain ⟨W1, hW1, Kr, -, -⟩ := zT w #[.int .i64 0, .int .i64 0, .int .i64 0, .string ⟨#[]⟩, .slice none 0 0] 25;have hsz : W1.heap.size = w.heap.size + 1 := by rw [hW1]; simp
 have hA1 : yT B v c w W1 := by rw [hW1]; exact (yT.of h).alloc _
 have hlt := h.lt;have HW1 := Lib.hid hW1;clear hW1 h;go_enter Tryz.func14, Tryz.ntmps14;go_upto_region 1 with fail;rw [<- HW1.out];clear HW1;have f_r := zA Kr;have HC := uH 200 c W1 (by omega) hA1.cur;go_wp2_with fail;refine HC.mono ?_; rintro e W2 ⟨d, rfl, hAc, hm⟩;clear HC;clear f_r;have hA2 := hA1.trans hAc;have Kr := Kr.kg hAc.grown (by omega);have hs3 := hAc.grown.size;clear hA1 hAc;obtain ⟨dk, dp, dn, dt, dq, dl, dc⟩ := d;obtain ⟨W7, hW7, hb7, hA7, hn7⟩ := zH hA2 (b := w.heap.size) (by omega) (z := zN) Kr ⟨dk, dp, dn, dt, dq, dl, dc⟩;dsimp only [zN] at hW7 hb7;have hm7 := xE (m := w.heap.size) hm hn7 (by omega) (by omega);clear hn7;unfold NC.val;have f_r := zA Kr;go_wp2_with fail;rw [<- hW7];obtain ⟨z0, z1, z2, z3, z4⟩ := hb7;dsimp only at z0 z1 z2 z3 z4;exact bodyPost_ret (v := .tuple #[NC.val ⟨dk, dp, dn, dt, dq, dl, dc⟩, .bool (wholeP 200 c).2.isSome]) (by simp [results, Tryz.results14, go_sem, z0, z1, z2, z3, z4, NC.val, zN]) rfl ⟨_, rfl, hA7, hm7⟩
theorem fL  {w : World} {B : Nat} {v : Value} {c : Cu} (h : zJ w B v c)  : Calls Tryz.prog 12 #[.pointer (some ⟨B, 0, none⟩)] w (zU B v (wQ (wholeP 200) c) w) := by
 obtain ⟨W1, hW1, Kr, -, -⟩ := zT w #[.int .i64 0, .int .i64 0, .int .i64 0, .string ⟨#[]⟩, .slice none 0 0] 25;have hsz : W1.heap.size = w.heap.size + 1 := by rw [hW1]; simp
 have hA1 : yT B v c w W1 := by rw [hW1]; exact (yT.of h).alloc _
 have hlt := h.lt;have HW1 := Lib.hid hW1;clear hW1 h;go_enter Tryz.func12, Tryz.ntmps12;go_upto_region 1 with fail;rw [<- HW1.out];clear HW1;have f_r := zA Kr;have HC := iR hA1.cur (fun c W h => mQ h) (fun c W hk h => uH 200 c W hk h) (by omega);go_wp2_with fail;refine HC.mono ?_; rintro e W2 ⟨d, rfl, hAc, hm⟩;clear HC;clear f_r;have hA2 := hA1.trans hAc;have Kr := Kr.kg hAc.grown (by omega);have hs3 := hAc.grown.size;clear hA1 hAc;obtain ⟨dk, dp, dn, dt, dq, dl, dc⟩ := d;obtain ⟨W7, hW7, hb7, hA7, hn7⟩ := zH hA2 (b := w.heap.size) (by omega) (z := zN) Kr ⟨dk, dp, dn, dt, dq, dl, dc⟩;dsimp only [zN] at hW7 hb7;have hm7 := xE (m := w.heap.size) hm hn7 (by omega) (by omega);clear hn7;unfold NC.val;have f_r := zA Kr;go_wp2_with fail;rw [<- hW7];obtain ⟨z0, z1, z2, z3, z4⟩ := hb7;dsimp only at z0 z1 z2 z3 z4;exact bodyPost_ret (v := .tuple #[NC.val ⟨dk, dp, dn, dt, dq, dl, dc⟩, .bool (wQ (wholeP 200) c).2.isSome]) (by simp [results, Tryz.results12, go_sem, z0, z1, z2, z3, z4, NC.val, zN]) rfl ⟨_, rfl, hA7, hm7⟩
end Go.Proofs.YtdjomhbmhooceaaGreat.N9
namespace Go.Proofs.YtdjomhbmhooceaaGreat.N9
open Go.RowKit N5 N6 N7
attribute [local go_sem] xB xA
def nC (s : ByteArray) : Nd × Int × Int := pE (wholeP 200) s
theorem mC (s : ByteArray) (hs : s.size <= 3000) (w : World) : Calls Tryz.prog 6 #[.string s] w (AaE (nC s) w) := by
 obtain ⟨W1, hW1, hK, hB1, hs1⟩ := zT w #[.int .i64 0, .int .i64 0, .int .i64 0, .string ⟨#[]⟩, .slice none 0 0] 25;have HC := gT (f := 14) (enters_of Tryz.func14 (by kernel_rfl) rfl) (rd := wholeP 200) (fun c h0 h => mH h0 h) (fun c d t e => by have := whole_sized 200 c d t e; omega) (fun B v c W h => at_any h) s hs W1;have HW1 := Lib.hid hW1;clear hW1;go_enter Tryz.func6, Tryz.ntmps6;go_upto_region 1 with fail;rw [<- HW1.out];clear HW1;go_wp2_with fail;refine HC.mono ?_; rintro e W2 ⟨⟨dk, dp, dn, dt, dq, dl, dc⟩, rfl, hd, hB⟩;have hK2 := hK.later hB;obtain ⟨W7, hW7, hb7, hB7, hd7⟩ := cI (hd.mono fun k hk _ => by omega) (hB1.trans (hB.mono (by omega))) hK2;have f_x := zA hK2;dsimp only at hW7 hb7;unfold NC.val;clear HC;go_wp2_with fail;rw [<- hW7];obtain ⟨z0, z1, z2, z3, z4⟩ := hb7;dsimp only at z0 z1 z2 z3 z4;exact bodyPost_ret (v := .tuple #[NC.val ⟨dk, dp, dn, dt, dq, dl, dc⟩, .int .i64 (nC s).2.1, .int .i64 (nC s).2.2]) (by simp [results, Tryz.results6, go_sem, z0, z1, z2, z3, z4, NC.val, nC]) rfl ⟨_, rfl, hd7, hB7⟩
end Go.Proofs.YtdjomhbmhooceaaGreat.N9
namespace Go.Proofs.YtdjomhbmhooceaaGreat.N9
open Go.RowKit N5 N6 N7
attribute [local go_sem] xB xA
def ex1 : ByteArray := ⟨#[102, 32, 120, 32, 49]⟩
def ex2 : ByteArray := ⟨(List.append [92, 32, 120, 32, 121, 32, 45, 62, 32, 108, 101, 116, 32, 123, 32, 103, 32, 122, 32, 61, 32, 122, 59, 32, 125, 32, 105, 110, 32, 99, 97, 115, 101, 32] [120, 32, 111, 102, 32, 123, 32, 75, 32, 97, 32, 45, 62, 32, 105, 102, 32, 97, 32, 116, 104, 101, 110, 32, 121, 32, 101, 108, 115, 101, 32, 50, 32, 125]).toArray⟩
def ex3 : ByteArray := ⟨#[108, 101, 116, 32, 123, 32, 125, 32, 105, 110, 32, 120]⟩
def tr1 : Nd := .mk 24 0 0 [] [.mk 24 0 0 [] [.mk 21 0 0 [102] [], .mk 21 2 0 [120] []], .mk 23 4 1 [] []]
theorem read1 : nC ex1 = (tr1, 0, 0) := by kernel_rfl
theorem read2e : (nC ex2).2.2 = 0 := by kernel_rfl
theorem read2k : (nC ex2).1.kind = 25 := by kernel_rfl
theorem read2t : (nC ex2).1.text = [120] := by kernel_rfl
theorem read2l : (nC ex2).1.kids.length = 1 := by kernel_rfl
theorem read2u : ((nC ex2).1.kids.headD tZ).text = [121] := by kernel_rfl
theorem read3 : nC ex3 = (tZ, 6, 5) := by kernel_rfl
theorem AbB {l : List Nd} (h : 0 < l.length) : l.headD tZ = l[0] := by cases l with
 | nil => cases h
 | cons a b => rfl
theorem rM (w : World) : Calls Tryz.prog 5 #[] w (nS true w) := by
 have H1 := fun w => mC ex1 (by decide) w
 have H2 := fun w => mC ex2 (by decide) w
 have H3 := fun w => mC ex3 (by decide) w
 rw [read1] at H1;rw [read3] at H3;obtain ⟨⟨t2, p2, x2⟩, ho2⟩ : ∃ o, o = nC ex2 := ⟨_, rfl⟩;have r1 := read2e;have r2 := read2k;have r3 := read2t;have r4 := read2l;have r5 := read2u;rw [<- ho2] at H2 r1 r2 r3 r4 r5;dsimp only at r1 r2 r3 r4 r5;subst r1;clear ho2;have R2 := Lib.hid r2;have R3 := Lib.hid r3;have R4 := Lib.hid r4;have R5 := Lib.hid r5;clear r2 r3 r4 r5;unfold ex1 at H1; unfold ex2 at H2; unfold ex3 at H3;go_enter Tryz.func5, Tryz.ntmps5;go_wp2_with fail;refine (H1 _).mono ?_; rintro e W1 ⟨⟨dk, dp, dn, dt, dq, dl, dc⟩, rfl, hd, hB1⟩;obtain rfl : dk = 24 := hd.kind;obtain rfl : dl = 2 := hd.len;have hd := hd.mono (S' := fun _ => True) fun _ _ _ => trivial
 unfold NC.val;dsimp only;go_upto_region 2 with fail;obtain ⟨V1, hV, K1, hBV, -⟩ := zT W1 #[.int .i64 24, .int .i64 dp, .int .i64 dn, .string ⟨dt.toArray⟩, .slice dq 2 dc] 25;rw [<- hV];have T1 := hd.later hBV;have hBt := zS hB1 hBV;clear hV hd hB1 hBV;go_wp2_with fail;refine (H2 _).mono ?_; rintro e W2 ⟨⟨qk, qp, qn, qt, qq, ql, qc⟩, rfl, hd, hB⟩;have hd := hd.mono (S' := fun _ => True) fun _ _ _ => trivial
 obtain rfl : qk = 25 := hd.kind.trans R2.out;obtain rfl : qt = [120] := hd.text.trans R3.out;obtain rfl : ql = 1 := hd.len.trans R4.out;have K1 := K1.later hB;have T1 := T1.later hB;have hBt := zS hBt hB;unfold NC.val;dsimp only;go_upto_region 3 with fail;obtain ⟨V2, hV, K2, hBV, -⟩ := zT W2 #[.int .i64 25, .int .i64 qp, .int .i64 qn, .string ⟨#[120]⟩, .slice qq 1 qc] 25;rw [<- hV];have K1 := K1.later hBV;have T1 := T1.later hBV;have T2 := hd.later hBV;have hBt := zS hBt hBV;clear hV hd hB hBV;go_wp2_with fail;refine (H3 _).mono ?_; rintro e W3 ⟨⟨rk, rp, rn, rt, rq, rl, rc⟩, rfl, -, hB⟩;have K1 := K1.later hB;have T1 := T1.later hB;have K2 := K2.later hB;have T2 := T2.later hB;have hBt := zS hBt hB;unfold NC.val;dsimp only;go_upto_region 4 with fail;obtain ⟨V3, hV, K3, hBV, -⟩ := zT W3 #[.int .i64 rk, .int .i64 rp, .int .i64 rn, .string ⟨rt.toArray⟩, .slice rq rl rc] 25;rw [<- hV];have K1 := K1.later hBV;have T1 := T1.later hBV;have K2 := K2.later hBV;have T2 := T2.later hBV;have hBt := zS hBt hBV;clear hV hB hBV H1 H2 H3 K3;obtain ⟨⟨uk, up, un, ut, uq, ul, uc⟩, ug, uo, hup, -, -, -, hule, huk, huc⟩ := T2.kid 0 (by rw [R4.out]; decide);have hut : ut = [121] := huk.text.trans (by rw [<- AbB]; exact R5.out);subst hut;obtain ⟨⟨jk, jp, jn, jt, jq, jl, jc⟩, jg, jo, hjp, -, -, -, hjle, hjk, hjc⟩ := T1.kid 0 (by decide);obtain ⟨⟨kk, kp, kn, kt, kq, kl, kc⟩, g, o, hp, -, -, -, hle, hk, hc⟩ := T1.kid 1 (by decide);obtain rfl : jk = 24 := hjk.kind;obtain rfl : kn = 1 := hk.num;have hp : dq = some ⟨g, o, none⟩ := hp;have hle : 2 <= dc := hle;have hjp : dq = some ⟨jg, jo, none⟩ := hjp;have hup : qq = some ⟨ug, uo, none⟩ := hup;have hule : 1 <= qc := hule;obtain ⟨rfl, rfl⟩ : jg = g /\ jo = o := by
  have := hjp.symm.trans hp;injection this with this
  injection this with a b
  exact ⟨a, b⟩
 subst hp hup;obtain ⟨a0, a1, a2, a3, a4⟩ := hc V3 rfl;obtain ⟨b0, b1, b2, b3, b4⟩ := hjc V3 rfl;obtain ⟨c0, c1, c2, c3, c4⟩ := huc V3 rfl;obtain ⟨⟨x0, x1, x2, x3, x4⟩, -⟩ := zA K1;obtain ⟨⟨y0, y1, y2, y3, y4⟩, -⟩ := zA K2;simp only [Nat.one_mul, Nat.zero_mul, Nat.add_zero, Nat.add_assoc, Nat.reduceAdd] at a0 a1 a2 a3 a4 b0 b1 b2 b3 b4 c0 c1 c2 c3 c4;clear hc hjc huc hk hjk huk K1 K2 T1 T2;go_wp2_with fail;go_ret;exact ⟨rfl, hBt⟩
end Go.Proofs.YtdjomhbmhooceaaGreat.N9
