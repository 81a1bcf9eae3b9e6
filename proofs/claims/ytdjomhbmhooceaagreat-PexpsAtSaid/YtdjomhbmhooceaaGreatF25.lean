import Derived.Test.YtdjomhbmhooceaaGreatF21
import Derived.Test.YtdjomhbmhooceaaGreatF6
import Derived.Test.YtdjomhbmhooceaaGreatF24
import Derived.Test.YtdjomhbmhooceaaGreatF4
set_option maxHeartbeats 4000000
set_option maxRecDepth 100000
set_option linter.unusedVariables false
set_option linter.unusedSimpArgs false
namespace Go.Proofs.YtdjomhbmhooceaaGreat.N7
open Go.RowKit N5 N6
attribute [local go_sem] xB xA
theorem mQ  {w : World} {B : Nat} {v : Value} {c : Cu} (h : zJ w B v c) : Calls Tryz.prog 55 #[.pointer (some ⟨B, 0, none⟩)] w (zU B v (tA (wholeP 200) c) w) := by
 obtain ⟨W1, hW1, Kr, -, -⟩ := zT w #[.int .i64 0, .int .i64 0, .int .i64 0, .string ⟨#[]⟩, .slice none 0 0] 25;have hsz : W1.heap.size = w.heap.size + 1 := by rw [hW1]; simp
 have hA1 : yT B v c w W1 := by rw [hW1]; exact (yT.of h).alloc _
 have hlt := h.lt;have HW1 := Lib.hid hW1;clear hW1 h;go_enter Tryz.func55, Tryz.ntmps55;go_upto_region 1 with fail;rw [<- HW1.out];clear HW1;have f_r := zA Kr;have HC := AbC (k := 200) hA1.cur (pair_whole 200) (fun c W hk h => uH 200 c W hk h) (by omega);go_wp2_with fail;refine HC.mono ?_; rintro e W2 ⟨d, rfl, hAc, hm⟩;clear HC;clear f_r;have hA2 := hA1.trans hAc;have Kr := Kr.kg hAc.grown (by omega);have hs3 := hAc.grown.size;clear hA1 hAc;obtain ⟨dk, dp, dn, dt, dq, dl, dc⟩ := d;obtain ⟨W7, hW7, hb7, hA7, hn7⟩ := zH hA2 (b := w.heap.size) (by omega) (z := zN) Kr ⟨dk, dp, dn, dt, dq, dl, dc⟩;dsimp only [zN] at hW7 hb7;have hm7 := xE (m := w.heap.size) hm hn7 (by omega) (by omega);clear hn7;unfold NC.val;have f_r := zA Kr;go_wp2_with fail;rw [<- hW7];obtain ⟨z0, z1, z2, z3, z4⟩ := hb7;dsimp only at z0 z1 z2 z3 z4;exact bodyPost_ret (v := .tuple #[NC.val ⟨dk, dp, dn, dt, dq, dl, dc⟩, .bool (tA (wholeP 200) c).2.isSome]) (by simp [results, Tryz.results55, go_sem, z0, z1, z2, z3, z4, NC.val, zN]) rfl ⟨_, rfl, hA7, hm7⟩
end Go.Proofs.YtdjomhbmhooceaaGreat.N7
namespace Go.Proofs.YtdjomhbmhooceaaGreat.N7
open Go.RowKit N5 N6
attribute [local go_sem] xB xA
theorem gF (s : ByteArray) : ∀ (f k a : Nat) (x : Int), N4.lexF s f k = .error (a, x) -> ¬ x = 0
 | 0, k, a, x, h => by cases h
 | f + 1, k, a, x, h => by
  rw [N4.lexF] at h;split at h
  ·
   cases h
  ·
   cases hw : N4.wordL (s.data.toList.drop k) with
   | error y => rw [hw] at h; injection h with h; injection h with _ h; subst h; exact N4.word_err hw
   | ok d =>
    rw [hw] at h;dsimp only at h;cases hr : N4.lexF s f (N4.skipAt s (k + d.text.length)) with
    | error e => rw [hr] at h; injection h with h; subst h; exact gF s f _ a x hr
    | ok r => rw [hr] at h; cases h
theorem fE {s : ByteArray} {a : Nat} {x : Int} (h : N4.lexAll s = .error (a, x)) : ¬ x = 0 := gF s _ _ _ _ h
theorem gW {s : ByteArray} {r : List Tk} (h : N4.lexAll s = .ok r) : r.length <= s.size := by
 rw [N4.lexAll_lexR] at h;have := (N4.lexR_short _ _ _ _ h).2;rw [Array.length_toList] at this;exact this
theorem arg_of {w : World} {base : Nat} {e : TypeId} {v : Value} {xs : List Tk} (h : w.ownsRow base e 4 v xs.length (N4.cellsL xs)) : tL w v xs := by
 have hle : ∀ g cap, v = .slice (some ⟨g, 0, none⟩) xs.length cap -> xs.length <= cap := fun g cap e => by
  rcases h.2 with ⟨e0, _⟩ | ⟨g', cap', cur, e1, _, _, h4, _⟩
  ·
   rw [e0] at e; cases e
  ·
   rw [e1] at e; injection e with _ _ e3; omega
 rcases N4.row_cells h with h | ⟨g, cap, hv, hb, hg, hc⟩
 ·
  exact .inl h
 ·
  refine .inr ⟨_, cap, hv, hle g cap hv, .inr ⟨g, 0, rfl, hg, fun j hj => ?_⟩⟩;unfold tX;simp only [Nat.zero_add];exact hc j hj
def pE (rd : Cu -> yM Nd) (s : ByteArray) : Nd × Int × Int :=
 match N4.lexAll s with
 | .error (k, x) => (tZ, (k : Int), x)
 | .ok r =>
  if (rd (uL (r ++ [N4.endTk s]))).1.doneE = 0 then
   (if ((rd (uL (r ++ [N4.endTk s]))).2.getD tZ).depth <= 100 then ((rd (uL (r ++ [N4.endTk s]))).2.getD tZ, 0, 0) else (tZ, ((rd (uL (r ++ [N4.endTk s]))).2.getD tZ).pos, 2))
  else (tZ, (rd (uL (r ++ [N4.endTk s]))).1.doneP, (rd (uL (r ++ [N4.endTk s]))).1.doneE)
def AaE (o : Nd × Int × Int) (w : World) (e : Ending) (w' : World) : Prop :=
 ∃ d : NC, e = .returned (.tuple #[d.val, .int .i64 o.2.1, .int .i64 o.2.2]) /\ zG (fun b => w.heap.size <= b) w' d o.1 /\ Below w.heap.size w w'
theorem cM {w W : World} (h : Below w.heap.size w W) {b : Nat} (hb : w.heap.size <= b) (d : NC) (i : Nat) :
  Below w.heap.size w (((((W.setCell ⟨b, 0, none⟩ (.int .i64 d.kind)).setCell ⟨b, 1, none⟩ (.int .i64 d.pos)).setCell ⟨b, 2, none⟩ (.int .i64 d.num)).setCell ⟨b, 3, none⟩ (.string ⟨d.text.toArray⟩)).setCell ⟨b, 4, none⟩ (.slice d.kp d.kl d.kc)) := by
 repeat refine Below.setCell ?_ (by simpa using hb) _
 exact h
theorem qH {w W : World} {b : Nat} {z : NC} {ty : TypeId} (h : Below w.heap.size w W) (hb : w.heap.size <= b) (hz : zW W b #[.int .i64 z.kind, .int .i64 z.pos, .int .i64 z.num, .string ⟨z.text.toArray⟩, .slice z.kp z.kl z.kc] ty) (d : NC) :
  ∃ W7, W7 = (((((W.setCell ⟨b, 0, none⟩ (.int .i64 d.kind)).setCell ⟨b, 1, none⟩ (.int .i64 d.pos)).setCell ⟨b, 2, none⟩ (.int .i64 d.num)).setCell ⟨b, 3, none⟩ (.string ⟨d.text.toArray⟩)).setCell ⟨b, 4, none⟩ (.slice d.kp d.kl d.kc)) /\
   sO W7 b d /\ Below w.heap.size w W7 /\ ∀ (S : Nat -> Prop) (x : NC) (t : Nd), zG S W x t -> ¬ S b -> zG S W7 x t := by
 refine ⟨_, rfl, sO.put hz.box d, cM h hb d 0, fun S x t hx hS => hx.keeps ⟨by simp, fun k hk _ => ?_⟩⟩
 have hne : k ≠ b := fun e => hS (e ▸ hk)
 rw [Below.heap_setCell _ _ _ _ hne, Below.heap_setCell _ _ _ _ hne, Below.heap_setCell _ _ _ _ hne, Below.heap_setCell _ _ _ _ hne, Below.heap_setCell _ _ _ _ hne]
theorem gT {f : Nat} (eg : ∀ args w, (callFunc f args).run Tryz.prog w = .ok (.enter f args) w) {rd : Cu -> yM Nd} (hok : ∀ c, c.nest = 0 -> (rd c).1.err = 0 -> ∃ t, (rd c).2 = some t) (hsz : ∀ c d t, rd c = (d, some t) -> t.size <= 2 * d.at' + 1)
  (hrd : ∀ (B : Nat) (v : Value) (c : Cu) (W : World), zJ W B v c -> Calls Tryz.prog f #[.pointer (some ⟨B, 0, none⟩)] W (zU B v (rd c) W)) (s : ByteArray) (hs : s.size <= 3000) (w : World) :
  Calls Tryz.prog 20 #[.string s, .func (.func f) #[] #[]] w (AaE (pE rd s) w) := by
 obtain ⟨W1, hW1, hK, hB1, hs1⟩ := zT w #[.int .i64 0, .int .i64 0, .int .i64 0, .string ⟨#[]⟩, .slice none 0 0] 25
 have HRD := Lib.hid hrd
 have HOK := Lib.hid hok
 have HSZ := Lib.hid hsz
 have HLX := N4.lex_any s (by omega) W1
 have HW1 := Lib.hid hW1
 clear hW1 hrd hok hsz
 go_enter Tryz.func20, Tryz.ntmps20
 go_upto_region 1 with fail
 rw [<- HW1.out]
 clear HW1
 cases hl : N4.lexAll s with
 | error kx =>
  obtain ⟨k, x⟩ := kx;have HQ : Hid (pE rd s = (tZ, (k : Int), x)) := by show _ = _; unfold pE; rw [hl]
  have hx := fE hl;have hx2 : ¬ (x = 0) := hx;unfold N4.LexIs at HLX;rw [hl] at HLX;go_wp2_with fail;refine HLX.mono ?_; rintro e W2 ⟨rfl, hB⟩;have hK2 := hK.later hB;have hB2 := hB1.trans (hB.mono (by omega));have f_x := zA hK2;obtain ⟨W7, hW7, hb7, hB7, -⟩ := qH hB2 (Nat.le_refl _) (z := zN) hK2 zN;dsimp only [zN] at hW7 hb7;clear HLX;go_wp2_with fail;rw [<- hW7];obtain ⟨z0, z1, z2, z3, z4⟩ := hb7;dsimp only at z0 z1 z2 z3 z4;refine bodyPost_ret (v := .tuple #[zN.val, .int .i64 (k : Int), .int .i64 x]) (by simp [results, Tryz.results20, go_sem, z0, z1, z2, z3, z4, NC.val, zN]) rfl ⟨zN, by rw [HQ.out], by rw [HQ.out]; exact yL _ _ _ _ _ _, hB7⟩
 | ok r =>
  obtain ⟨c0, hc0⟩ : ∃ c0, c0 = uL (r ++ [N4.endTk s]) := ⟨_, rfl⟩;have HQ : Hid (pE rd s = if (rd c0).1.doneE = 0 then (if ((rd c0).2.getD tZ).depth <= 100 then ((rd c0).2.getD tZ, 0, 0) else (tZ, ((rd c0).2.getD tZ).pos, 2)) else (tZ, (rd c0).1.doneP, (rd c0).1.doneE)) := by show _ = _; unfold pE; rw [hl, hc0]
  have hlen := gW hl;unfold N4.LexIs at HLX;rw [hl] at HLX;go_wp2_with fail;refine HLX.mono ?_; rintro e W2 ⟨vr, rfl, hrow, hB⟩;have hAR : tL W2 vr (r ++ [N4.endTk s]) := by
   have e1 : (r ++ [N4.endTk s]).length = r.length + 1 := by simp
   rw [<- e1] at hrow;exact arg_of hrow
  have HN := kE vr _ W2 hAR (by simp; omega);rw [<- hc0] at HN;have hK2 := hK.later hB;have hB2 := hB1.trans (hB.mono (by omega));have hs2 := hB.size;have HC0 : Hid (c0.nest = 0) := by show _ = _; rw [hc0]; rfl
  clear HLX hrow hAR hK hB1 hB hc0;go_wp2_with fail;refine HN.mono ?_; rintro e W3 ⟨v3, rfl, hc3, hB, -⟩;have hK3 := hK2.later hB;have hB3 := hB2.trans (hB.mono (by omega));have hs3 := hB.size;have hlt3 := hc3.lt;have HC := HRD.out _ _ _ _ hc3;have hA0 := yT.of hc3;clear HN hK2 hB2 hB hc3;go_wp2_with fail;refine HC.mono ?_; rintro e W4 ⟨d, rfl, hA4, hm⟩;have hK4 := hK3.past hA4 (by omega);have hB4 : Below w.heap.size w W4 := hB3.trans (vL hA4.grown (by omega) (by omega));have hs4 := hA4.size;obtain ⟨dk, dp, dn, dt, dq, dl, dc⟩ := d;unfold NC.val;clear HC hK3 hB3;go_upto_region 6 with fail;obtain ⟨V, hV, hKd, hBV, hsV⟩ := zT W4 #[.int .i64 dk, .int .i64 dp, .int .i64 dn, .string ⟨dt.toArray⟩, .slice dq dl dc] 25;rw [<- hV];have hKV := hK4.later hBV;have hB5 := hB4.trans (hBV.mono (by omega));have HD := qO (hA4.cur.below hBV);have HLE := Lib.hid hA4.cur.le;have HFW := Lib.hid hA4.cur.few;clear hV hK4 hB4 hA0 hA4;cases hE : decide ((rd c0).1.doneE = 0) with
  | false =>
   have hE' : ¬ (rd c0).1.doneE = 0 := by simpa using hE
   have HQ2 : Hid (pE rd s = (tZ, (rd c0).1.doneP, (rd c0).1.doneE)) := by show _ = _; rw [HQ.out, if_neg hE']
   clear HQ hm hE;generalize (rd c0).1.doneE = x at *;generalize (rd c0).1.doneP = p at *;go_wp2_with fail;refine HD.mono ?_; rintro e W6 ⟨rfl, hB⟩;have hK6 := hKV.later hB;have hB6 := hB5.trans (hB.mono (by omega));have f_x := zA hK6;obtain ⟨W7, hW7, hb7, hB7, -⟩ := qH hB6 (Nat.le_refl _) (z := zN) hK6 zN;dsimp only [zN] at hW7 hb7;clear HD;go_wp2_with fail;rw [<- hW7];obtain ⟨z0, z1, z2, z3, z4⟩ := hb7;dsimp only at z0 z1 z2 z3 z4;refine bodyPost_ret (v := .tuple #[zN.val, .int .i64 p, .int .i64 x]) (by simp [results, Tryz.results20, go_sem, z0, z1, z2, z3, z4, NC.val, zN]) rfl ⟨zN, by rw [HQ2.out], by rw [HQ2.out]; exact yL _ _ _ _ _ _, hB7⟩
  | true =>
   have hE' : (rd c0).1.doneE = 0 := by simpa using hE
   have he : (rd c0).1.err = 0 := by
    unfold Cu.doneE at hE';by_cases h : (rd c0).1.err = 0
    ·
     exact h
    ·
     rw [if_neg h] at hE'; exact absurd hE' h
   obtain ⟨t, ht⟩ := HOK.out c0 HC0.out he;have hsize : t.size <= 1000000 := by have := HSZ.out c0 _ t (zM ht); have := HLE.out; have := HFW.out; omega
   have HQ2 : Hid (pE rd s = if t.depth <= 100 then (t, 0, 0) else (tZ, t.pos, 2)) := by show _ = _; rw [HQ.out, if_pos hE', ht]; rfl
   rw [ht] at hm;have hd : zG (fun b => W3.heap.size <= b) W4 ⟨dk, dp, dn, dt, dq, dl, dc⟩ t := hm;have hdV := hd.later hBV;obtain rfl : dp = t.pos := hd.pos;rw [hE'] at HD;clear HQ hm hE hE' hd ht hBV;generalize (rd c0).1.doneP = p at *;go_wp2_with fail;refine HD.mono ?_; rintro e W6 ⟨rfl, hB⟩;have hK6 := hKV.later hB;have hKd6 := hKd.later hB;have hd6 := hdV.later hB;have hB6 := hB5.trans (hB.mono (by omega));have hs6 := hB.size;have HDP := cH (hd6.mono (S' := fun _ => True) fun _ _ _ => trivial) hsize;obtain ⟨⟨y0, y1, y2, y3, y4⟩, -⟩ := zA hKd6;clear HD hKV hKd hdV hB5 hB;unfold NC.val at HDP;dsimp only at HDP;have HDD : Hid ((t.depth : Int) <= 100 ↔ t.depth <= 100) := by show _ ↔ _; omega
   go_wp2_with fail;refine HDP.mono ?_; rintro e W8 ⟨rfl, hB⟩;have hK8 := hK6.later hB;have hKd8 := hKd6.later hB;have hd8 := hd6.later hB;have hB8 := hB6.trans (hB.mono (by omega));have hs8 := hB.size;have f_x := zA hK8;clear y0 y1 y2 y3 y4 HDP;obtain ⟨⟨y0, y1, y2, y3, y4⟩, -⟩ := zA hKd8;by_cases hdp : t.depth <= 100
   ·
    have hdp' : ¬ (100 : Int) < (t.depth : Int) := by omega
    have HQ3 : Hid (pE rd s = (t, 0, 0)) := by show _ = _; rw [HQ2.out, if_pos hdp]
    obtain ⟨W7, hW7, hb7, hB7, hn7⟩ := qH hB8 (Nat.le_refl _) (z := zN) hK8 ⟨dk, t.pos, dn, dt, dq, dl, dc⟩;have hd7 := (hn7 _ _ _ hd8 (by omega)).mono (S' := fun b => w.heap.size <= b) fun k hk _ => by omega
    dsimp only at hW7 hb7;clear hdp;go_wp2_with fail;rw [<- hW7];obtain ⟨z0, z1, z2, z3, z4⟩ := hb7;dsimp only at z0 z1 z2 z3 z4;refine bodyPost_ret (v := .tuple #[NC.val ⟨dk, t.pos, dn, dt, dq, dl, dc⟩, .int .i64 0, .int .i64 0]) (by simp [results, Tryz.results20, go_sem, z0, z1, z2, z3, z4, NC.val]) rfl ⟨_, by rw [HQ3.out], by rw [HQ3.out]; exact hd7, hB7⟩
   ·
    have hdp' : (100 : Int) < (t.depth : Int) := by omega
    have HQ3 : Hid (pE rd s = (tZ, t.pos, 2)) := by show _ = _; rw [HQ2.out, if_neg hdp]
    obtain ⟨W7, hW7, hb7, hB7, -⟩ := qH hB8 (Nat.le_refl _) (z := zN) hK8 zN;dsimp only [zN] at hW7 hb7;clear hdp;go_wp2_with fail;go_region;all_goals
     rw [<- hW7];obtain ⟨z0, z1, z2, z3, z4⟩ := hb7;dsimp only at z0 z1 z2 z3 z4;go_wp2_with fail;refine bodyPost_ret (v := .tuple #[zN.val, .int .i64 t.pos, .int .i64 2]) (by simp [results, Tryz.results20, go_sem, z0, z1, z2, z3, z4, NC.val, zN]) rfl ⟨zN, by rw [HQ3.out], by rw [HQ3.out]; exact yL _ _ _ _ _ _, hB7.drew⟩
theorem mH {c : Cu} (h0 : c.nest = 0) (h : (wholeP 200 c).1.err = 0) : ∃ t, (wholeP 200 c).2 = some t := by
 have hr := pair_whole 200 c (by omega);rcases hr.cases with ⟨e1, e2⟩ | ⟨e1, e2⟩
 ·
  exact ⟨_, by rw [e2]⟩
 ·
  rw [e2] at h; exact absurd h e1
theorem cI {w W2 : World} {d : NC} {o : Nd × Int × Int} (hd : zG (fun b => w.heap.size + 1 <= b) W2 d o.1) (hB : Below w.heap.size w W2) (hK : zW W2 w.heap.size #[.int .i64 0, .int .i64 0, .int .i64 0, .string ⟨#[]⟩, .slice none 0 0] 25) :
  ∃ W7, W7 = (((((W2.setCell ⟨w.heap.size, 0, none⟩ (.int .i64 d.kind)).setCell ⟨w.heap.size, 1, none⟩ (.int .i64 d.pos)).setCell ⟨w.heap.size, 2, none⟩ (.int .i64 d.num)).setCell ⟨w.heap.size, 3, none⟩ (.string ⟨d.text.toArray⟩)).setCell ⟨w.heap.size, 4, none⟩ (.slice d.kp d.kl d.kc)) /\
   sO W7 w.heap.size d /\ Below w.heap.size w W7 /\ zG (fun b => w.heap.size <= b) W7 d o.1 := by
 obtain ⟨W7, h1, h2, h3, h4⟩ := qH hB (Nat.le_refl _) (z := zN) hK d
 exact ⟨W7, h1, h2, h3, (h4 _ _ _ hd (by omega)).mono fun k hk _ => by omega⟩
end Go.Proofs.YtdjomhbmhooceaaGreat.N7
