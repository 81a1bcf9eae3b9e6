import Derived.Test.YtdjomhbmhooceaaGreatE29
import Derived.Test.YtdjomhbmhooceaaGreatE46
import Derived.Test.YtdjomhbmhooceaaGreatE33
import Derived.Test.YtdjomhbmhooceaaGreatE35
import Derived.Test.YtdjomhbmhooceaaGreatE42
import Derived.Test.YtdjomhbmhooceaaGreatE43
import Derived.Test.YtdjomhbmhooceaaGreatE31
set_option maxHeartbeats 4000000
set_option maxRecDepth 100000
set_option linter.unusedVariables false
set_option linter.unusedSimpArgs false
namespace Go.Proofs.YtdjomhbmhooceaaGreat.N7
open Go.RowKit N5 N6
attribute [local go_sem] xG xE
theorem qK {c : Cu} (k : Int) (h : c.err ≠ 0) : c.kind k = c := by unfold Cu.kind; rw [if_neg h]
theorem fT {wr : Cu -> Cu × Nd} {c : Cu} (h : c.err ≠ 0) : (wB wr c).1 = c := by unfold wB; rw [qK 2 h, tP h]
theorem AbR (m : Nat) (c : Cu) (h : 200 <= c.nest + (m + 1) \/ c.err ≠ 0) : zZ c (wB (atR m) c).1 := by
 by_cases he : c.err = 0
 ·
  exact (sD (pair_whole m) c (h.resolve_right fun q => q he)).fine
 ·
  rw [fT he]; exact .refl c
theorem eU {c : Cu} {x : List UInt8} (h : c.err ≠ 0) : c.ahead x = false := by unfold Cu.ahead; simp [h]
theorem gV {wr : Cu -> Cu × Nd} {c : Cu} (h : c.err ≠ 0) : xM wr c = (c, []) := by unfold xM; rw [eU h]; rfl
theorem bZ (m : Nat) (c : Cu) (h : 200 <= c.nest + (m + 1) \/ c.err ≠ 0) : zZ c (xM (atR m) c).1 := by
 by_cases he : c.err = 0
 ·
  exact (qV (pair_whole m) c (h.resolve_right fun q => q he)).fine
 ·
  rw [gV he]; exact .refl c
theorem mK (rd : Cu -> Cu × Nd) : ∀ (f : Nat) (c : Cu) (l : List Nd), (vG rd f c l).2.length <= l.length + f
 | 0, c, l => Nat.le_refl _
 | f + 1, c, l => by
  rw [gR];split
  ·
   have := mK rd f ((rd c).1.take [44]) (l ++ [(rd c).2]);rw [List.length_append, List.length_singleton] at this;omega
  ·
   show (l ++ [(rd c).2]).length <= _;rw [List.length_append, List.length_singleton];omega
theorem bO (wr : Cu -> Cu × Nd) (c : Cu) : (xM wr c).2.length <= c.ws.length + 2 := by
 unfold xM;split
 ·
  show (tD wr c).2.length <= _;unfold tD;split
  ·
   split
   ·
    simp
   ·
    have := mK (wB wr) (c.ws.length + 2) (c.take [40]) [];simpa using this
  ·
   simp
 ·
  simp
theorem bT (n m : Nat) (c : Cu) (W : World) (x : Value) (h : 200 <= c.nest + (m + 1) \/ c.err ≠ 0) (hok : xA c) (hx : zF n W x c) (hn : n <= W.heap.size) : Calls Tryz.prog 94 #[x] W (yD n (wB (atR m) c) W) := by
 refine fI hx hn hok (fine_at m) (fun _ c W x h1 h2 h3 h4 => refat_any n m c W x h1 h2 h3 h4) ?_;by_cases he : c.err = 0
 ·
  by_cases hk : (c.kind 2).err = 0
  ·
   exact .inl (by rw [(vC c 2).nest hk]; exact h.resolve_right fun q => q he)
  ·
   exact .inr hk
 ·
  exact .inr (by rw [qK 2 he]; exact he)
theorem eX (n m : Nat) (c : Cu) (W : World) (x : Value) (h : 200 <= c.nest + (m + 1) \/ c.err ≠ 0) (hok : xA c) (hx : zF n W x c) (hn : n <= W.heap.size) : Calls Tryz.prog 63 #[x] W (lH n (xM (atR m) c) W) :=
 gH hx hn hok (AbR m) (fun d W x h1 h2 h3 h4 => bT n m d W x h1 h2 h3 h4) h
theorem refqual_at (n m : Nat) (c : Cu) (W : World) (x : Value) (h : 200 <= c.nest + m \/ c.err ≠ 0) (hok : xA c) (hx : zF n W x c) (hn : n <= W.heap.size) : Calls Tryz.prog 31 #[x] W (yD n (pD (atR m) c) W) := by
 have h1 : 200 <= c.nest + (m + 1) \/ c.err ≠ 0 := h.imp (fun q => by omega) id;have hf := bZ m c h1;refine fP hx hn (fun W x hx hn => eX n m c W x h1 hok hx hn) (by have := bO (atR m) c; have := hok.few; omega) (fun W x hx hn => refat_any n m _ W x ?_ (hf.ok hok) hx hn);by_cases he : (xM (atR m) c).1.err = 0
 ·
  exact .inl (by rw [hf.nest he]; exact h.resolve_right fun q => q (hf.err he))
 ·
  exact .inr he
end Go.Proofs.YtdjomhbmhooceaaGreat.N7
namespace Go.Proofs.YtdjomhbmhooceaaGreat.N9
open Go.RowKit N5 N6 N7
theorem fV (rf : Cu -> Cu × Nd) {c : Cu} (h : c.err ≠ 0) : xR rf c = (c, sH) := by
 unfold xR;rw [if_neg (by rw [xT h]; decide), if_neg (by rw [xT h]; decide), if_neg (by rw [xT h]; decide), if_neg (by rw [xT h]; decide)];have e : zM rf c = (c, sH) := by
  unfold zM;rw [if_neg (fun q => h (yC q)), (vR c 5).stuck h]
 rw [e];exact lG rf _ _ h
theorem kV (m : Nat) (d : Cu) (h : 200 <= d.nest + (m + 1) \/ d.err ≠ 0) : zZ d (zM (atR m) d).1 := iU (xU (pair_whole m)) (eY _) d h
theorem aD (m : Nat) : qW m (vO (atR m)) := fun d h => iU (oK (pair_whole m) (oX m)) (lQ (oX m)) d h
theorem kO (m : Nat) (d : Cu) (h : 200 <= d.nest + m \/ d.err ≠ 0) : zZ d (xR (atR m) d).1 := iU (gX (pair_whole m) (oX m)) (lM _) d h
theorem qual9 (n : Nat) (d : Cu) (W : World) (x : Value) (hok : xA d) (hx : zF n W x d) (hn : n <= W.heap.size) : Calls Tryz.prog 31 #[x] W (yD n (pD (N7.atR 200) d) W) := N7.refqual_at n 200 d W x (.inl (by omega)) hok hx hn
theorem bind9 {n m : Nat} (IH : oN n m (atR m)) (d : Cu) (W : World) (x : Value) (h : 200 <= d.nest + m \/ d.err ≠ 0) (hok : xA d) (hx : zF n W x d) (hn : n <= W.heap.size) : Calls Tryz.prog 13 #[x] W (yD n (vO (atR m) d) W) :=
 fJ hx hn hok (fine_at m) IH h (qual9 n)
theorem sub9 {n m : Nat} (IH : oN n m (atR m)) : AdM n m (atR m) :=
 ⟨fun c W x h hok hx hn => bF hx hn hok (fine_at m) IH h,
  fun c ps W x h hok hx hn => aE hx hn hok (fine_at m) IH h ps (bind9 IH) (aD m),
  fun c ps W x h hok hx hn => gW hx hn hok (fine_at m) IH h ps (fun d W x hok hx hn => N8.refat_any n 200 d W x (.inl (by omega)) hok hx hn),
  fun c ps W x h hok hx hn => bQ hx hn hok (fine_at m) IH h ps⟩
theorem jT (n : Nat) : ∀ m, oN n m (atR m)
 | 0 => fun c W x h hok hx hn => by
  have he : c.enter.err ≠ 0 := by
   by_cases he : c.enters = true
   ·
    obtain ⟨h1, h2⟩ := yF.1 he;have := h.resolve_right fun q => q h1
    omega
   ·
    exact (xK he).1
  have hb : ((xR (atR 0) c.enter).1.leave, (xR (atR 0) c.enter).2) = atR 0 c := by
   rw [fV _ he];dsimp only;rw [yU he];rfl
  rw [<- hb];exact uS hx hn hok rfl (fun W x hx hn => mP hx hn (uR hok) (fine_at 0) (fun q => absurd q he) (fun q => absurd q he) (kV 0) (fun d hk h => uM (pair_whole 0) d hk h) (.inr he)) (kO 0 _ (.inr he))
 | m + 1 => fun c W x h hok hx hn => by
  have IH := jT n m;have hk : 200 <= c.enter.nest + m \/ c.enter.err ≠ 0 := by
   by_cases he : c.enters = true
   ·
    have h1 := (yF.1 he).1;rw [yY he];exact .inl (by have := h.resolve_right fun q => q h1; show 200 <= c.nest + 1 + m; omega)
   ·
    exact .inr (xK he).1
  exact uS (rf := atR m) hx hn hok rfl (fun W x hx hn => mP hx hn (uR hok) (fine_at m) (fun _ => IH) (fun _ => sub9 IH) (kV m) (fun d hk h => uM (pair_whole m) d hk h) hk) (kO m _ hk)
end Go.Proofs.YtdjomhbmhooceaaGreat.N9
namespace Go.Proofs.YtdjomhbmhooceaaGreat.N9
open Go.RowKit N5 N6 N7
attribute [local go_sem] xG xE
theorem dL {rd : Cu -> yJ Nd} {rr : Cu -> Cu × Nd} (hrel : ∀ c, c.nest = 0 -> uO c (rd c) (rr c)) (hsz : ∀ c d t, rd c = (d, some t) -> t.size <= 2 * d.at' + 1)
  (hrd : ∀ (n : Nat) (c : Cu) (W : World) (x : Value), c.nest = 0 -> xA c -> zF n W x c -> n <= W.heap.size -> Calls Tryz.prog 15 #[x] W (yD n (rr c) W)) (s : ByteArray) (hs : s.size <= 3000) (w : World) :
  Calls Tryz.prog 7 #[.string s] w (iT (rJ rd s) w) := by
 obtain ⟨W1, hW1, hK, hB1, hs1⟩ := zR w #[.int .i64 0, .int .i64 0, .int .i64 0, .string ⟨#[]⟩, .slice none 0 0] 25
 rw [<- fK hrel]
 have HRD := Lib.hid hrd
 have HREL := Lib.hid hrel
 have HSZ := Lib.hid hsz
 have HLX := N4.reflex_any s W1 (by omega)
 have HW1 := Lib.hid hW1
 clear hW1 hrd hrel hsz
 go_enter Tryz.func7, Tryz.ntmps7
 go_upto_region 1 with fail
 rw [<- HW1.out]
 clear HW1
 cases hl : N4.lexAll s with
 | error kx =>
  obtain ⟨k, x⟩ := kx;have HQ : Hid (kG rr s = (sH, (k : Int), x)) := by show _ = _; unfold kG; rw [hl]
  have hx := nC hl;have hx2 : ¬ (x = 0) := hx;unfold N4.LexIs at HLX;rw [hl] at HLX;go_wp2_with fail;refine HLX.mono ?_; rintro e W2 ⟨rfl, hB⟩;have hK2 := hK.later hB;have hB2 := hB1.trans (hB.mono (by omega));obtain ⟨⟨x0, x1, x2, x3, x4⟩, f0, f1, f2, f3, f4⟩ := zA hK2;obtain ⟨W7, hW7, hb7, hB7, -⟩ := qC hB2 (Nat.le_refl _) (z := zN) hK2 zN;dsimp only [zN] at hW7 hb7;clear HLX;go_wp2_with fail;rw [<- hW7];obtain ⟨z0, z1, z2, z3, z4⟩ := hb7;dsimp only at z0 z1 z2 z3 z4;refine bodyPost_ret (v := .tuple #[zN.val, .int .i64 (k : Int), .int .i64 x]) (by simp [results, Tryz.results7, go_sem, z0, z1, z2, z3, z4, NC.val, zN]) rfl ⟨zN, by rw [HQ.out], by rw [HQ.out]; exact yW _ _ _ _ _ _, hB7⟩
 | ok r =>
  obtain ⟨c0, hc0⟩ : ∃ c0, c0 = newCu (r ++ [N4.endTk s]) := ⟨_, rfl⟩;have HQ : Hid (kG rr s = tA (rr c0).1 (rr c0).2) := by show _ = _; unfold kG; rw [hl, hc0]
  have hlen := pA hl;have HO0 : Hid (xA c0) := by show xA _; rw [hc0]; exact AeH _ (by simp; omega)
  have HN0 : Hid (c0.nest = 0) := by show _ = _; rw [hc0]; rfl
  unfold N4.LexIs at HLX;rw [hl] at HLX;go_wp2_with fail;refine HLX.mono ?_; rintro e W2 ⟨vr, rfl, hrow, hB⟩;have hAR : rZ W2 vr (r ++ [N4.endTk s]) := by
   have e1 : (r ++ [N4.endTk s]).length = r.length + 1 := by simp
   rw [<- e1] at hrow;exact AdY hrow
  have HN := cV W2.heap.size vr _ W2 (wrow_of hAR) (Nat.le_refl _) (by simp; omega);rw [<- hc0] at HN;have hK2 := hK.later hB;have hB2 := hB1.trans (hB.mono (by omega));have hs2 := hB.size;clear HLX hrow hAR hK hB1 hB hc0;go_wp2_with fail;refine HN.mono ?_; rintro e W3 ⟨x3, rfl, hx3, hB⟩;have hK3 := hK2.later hB;have hB3 := hB2.trans (hB.mono (by omega));have hs3 := hB.size;have HC := HRD.out W2.heap.size c0 W3 x3 HN0.out HO0.out hx3 hs3;clear HN hK2 hB2 hB hx3;go_wp2_with fail;refine HC.mono ?_; rintro e W4 ⟨x4, d, rfl, hx4, hd, hB⟩;obtain ⟨c4, hc4⟩ : ∃ q, q = (rr c0).1 := ⟨_, rfl⟩;obtain ⟨t4, ht4⟩ : ∃ q, q = (rr c0).2 := ⟨_, rfl⟩;have HO4 : Hid (xA c4) := by show xA _; rw [hc4]; exact (HREL.out c0 HN0.out).fine.ok HO0.out
  have HS4 : Hid (c4.doneE = 0 -> t4.size <= 1000000) := fun q => by
   have e := kN q;have k1 := (HREL.out c0 HN0.out).yes (by rw [<- hc4]; exact e);have k2 := HSZ.out c0 (rd c0).1 t4 (by rw [ht4]; exact zK k1);rw [(HREL.out c0 HN0.out).cur, <- hc4] at k2;have k3 := HO4.out.le;have k4 := HO4.out.few;omega
  rw [<- hc4, <- ht4] at HQ;rw [<- hc4] at hx4;rw [<- ht4] at hd;obtain ⟨a4, ln4, cap4, rfl, hr4, -⟩ := hx4.shape;have Rq := hr4.out;obtain ⟨dk, dp, dn, dt, dq, dl, dc⟩ := d;unfold NC.val;have hK4 := hK3.later hB;have hB4 := hB3.trans (hB.mono (by omega));have hs4 := hB.size;clear HC hK3 hB3 hB hx4 hr4 hc4 ht4;go_upto_region 5 with fail;obtain ⟨V, hV, KC0, KN0, hB, -⟩ := vW W4 ((zL (.slice a4 ln4 cap4) c4.ep (c4.nest : Int) c4.err c4.pos)) 40 #[.int .i64 dk, .int .i64 dp, .int .i64 dn, .string ⟨dt.toArray⟩, .slice dq dl dc] 25;rw [<- hV];clear hV;have hK5 := hK4.later hB;have hB5 := hB4.trans (hB.mono (by omega));have hd5 := hd.later hB;have hs5 := hB.size;have HWH := gD (zF.mk (Rq.below (hB.mono (by omega)))) (Nat.le_trans (Nat.le_trans hs3 hs4) hs5) HO4.out hd5 HS4.out;unfold NC.val at HWH;obtain ⟨⟨p0, p1, p2, p3, p4, p5, p6, p7⟩, -⟩ := zB KC0;obtain ⟨⟨m0, m1, m2, m3, m4⟩, -⟩ := zA KN0;clear KC0 KN0 hK4 hB4 hd hB Rq;go_wp2_with fail;refine HWH.mono ?_; rintro e W6 ⟨d', rfl, hor, hB⟩;have hK6 := hK5.later hB;have hB6 := hB5.trans (hB.mono (by omega));have hd6 : zG (fun b => w.heap.size + 1 <= b) W6 d' (tA c4 t4).1 := by
   rcases hor with ⟨h1, h2⟩ | ⟨h1, h2⟩
   ·
    rw [h1, h2]; exact (hd5.later hB).mono fun k hk _ => by omega
   ·
    rw [h1, h2]; exact yW _ _ _ _ _ _
  obtain ⟨W7, hW7, hb7, hB7, hd7⟩ := iD hd6 hB6 hK6;obtain ⟨⟨x0, x1, x2, x3, x4⟩, f0, f1, f2, f3, f4⟩ := zA hK6;clear p0 p1 p2 p3 p4 p5 p6 p7 m0 m1 m2 m3 m4 HWH hK5 hB5 hd5 hor;generalize hO : tA c4 t4 = o at *;have HO := Lib.hid hO;clear hO;obtain ⟨ek, ep, en, et, eq, el, ec⟩ := d';dsimp only at hW7 hb7;unfold NC.val;go_wp2_with fail;rw [<- hW7];obtain ⟨z0, z1, z2, z3, z4⟩ := hb7;dsimp only at z0 z1 z2 z3 z4;exact bodyPost_ret (v := .tuple #[NC.val ⟨ek, ep, en, et, eq, el, ec⟩, .int .i64 o.2.1, .int .i64 o.2.2]) (by simp [results, Tryz.results7, go_sem, z0, z1, z2, z3, z4, NC.val]) rfl ⟨_, by rw [HQ.out], by rw [HQ.out]; exact hd7, hB7⟩
theorem cQ (s : ByteArray) (hs : s.size <= 3000) (w : World) : Calls Tryz.prog 7 #[.string s] w (iT (rQ s) w) :=
 dL (fun c h => pair_whole 200 c (by omega)) (fun c d t h => by have := whole_sized 200 c d t h; omega) (fun n c W x h hok hx hn => jT n 200 c W x (.inl (by omega)) hok hx hn) s hs w
end Go.Proofs.YtdjomhbmhooceaaGreat.N9
