import Derived.Test.YtdjomhbmhooceaaGreatF7
import Derived.Test.YtdjomhbmhooceaaGreatF9
set_option maxHeartbeats 4000000
set_option maxRecDepth 100000
set_option linter.unusedVariables false
set_option linter.unusedSimpArgs false
namespace Go.Proofs.YtdjomhbmhooceaaGreat.N9
open Go.RowKit N5 N6 N7
attribute [local go_sem] xB xA
theorem wC (t : Tk) : t.cells.length = 4 := rfl
def aM (m : Nat) (t : Nd) (w : World) (e : Ending) (w' : World) : Prop := ∃ d : NC, e = .returned d.val /\ Below w.heap.size w w' /\ zG (fun b => m <= b) w' d t
theorem tD {S : Nat -> Prop} {W : World} {g : Nat} {d : NC} {t : Nd} (h : zW W g #[.int .i64 d.kind, .int .i64 d.pos, .int .i64 d.num, .string ⟨d.text.toArray⟩, .slice d.kp d.kl d.kc] 25) (hg : S g)
  (hd : zG S W d t) (kd ps nm : Int) (tx : List UInt8) : zG S W ⟨kd, ps, nm, tx, some ⟨g, 0, none⟩, 1, 1⟩ (.mk kd ps nm tx [t]) := by
 refine .mk _ _ [d] rfl rfl rfl rfl rfl ⟨_, _, rfl, Nat.le_refl _, .inr ⟨g, 0, rfl, hg, h.lt, fun j u hj => ?_⟩⟩ fun i a b => ?_
 ·
  rw [h.cell, Nat.zero_add];simpa [yJ] using hj
 ·
  match i, a with
  | 0, _ => exact hd
theorem lZ {l : List Tk} {j : Nat} (h : j < l.length) (n : Nd) : vB (l.drop j) n = .mk 25 l[j].pos 0 l[j].text [vB (l.drop (j + 1)) n] := by
 rw [List.drop_eq_getElem_cons h]; rfl
theorem qN {m : Nat} {v : Value} {l : List Tk} {d : NC} {n : Nd} {w : World} (hr : yY w.heap.size w Tk.cells v l) (hl : l.length <= 1000000) (hm : m <= w.heap.size) (ht : zG (fun b => m <= b) w d n) :
  Calls Tryz.prog 59 #[v, d.val] w (aM m (vB l n) w) := by
 have HR := Lib.hid hr
 obtain ⟨p, cap, rfl, -, -⟩ := hr
 obtain ⟨W1, hW1, KN, -, hB1, -⟩ := vC w #[.int .i64 d.kind, .int .i64 d.pos, .int .i64 d.num, .string ⟨d.text.toArray⟩, .slice d.kp d.kl d.kc] 25 #[.int .i64 0, .int .i64 0, .int .i64 0, .string ⟨#[]⟩, .slice none 0 0] 25
 have hs1 : W1.heap.size = w.heap.size + 1 + 1 := by rw [hW1]; simp
 have KZ : zW W1 (w.heap.size + 1) #[.int .i64 0, .int .i64 0, .int .i64 0, .string ⟨#[]⟩, .slice none 0 0] 25 := by
  rw [hW1];have h0 := zW.new (w.alloc (.cells #[.int .i64 d.kind, .int .i64 d.pos, .int .i64 d.num, .string ⟨d.text.toArray⟩, .slice d.kp d.kl d.kc] 25)) #[.int .i64 0, .int .i64 0, .int .i64 0, .string ⟨#[]⟩, .slice none 0 0] 25;simp only [World.size_alloc] at h0;exact h0
 have TN : Hid (zG (fun b => m <= b /\ b ≠ w.heap.size /\ b ≠ w.heap.size + 1) W1 d n) := (ht.mono (S' := fun b => m <= b /\ b ≠ w.heap.size /\ b ≠ w.heap.size + 1) fun k hk hl => ⟨hk, by omega, by omega⟩).later hB1
 generalize hn : l.length = len at *
 have HX := Lib.hid hn
 have HW1 := Lib.hid hW1
 clear hn hW1 ht
 unfold NC.val
 go_enter Tryz.func59, Tryz.ntmps59
 go_upto_region 1 with fail
 rw [<- HW1.out]
 clear HW1
 go_wp2_with fail
 go_loopw [5] (fun i wr => ∃ (k : Nat) (e : NC) (z : Int), k <= len /\ i = .int .i64 z /\ z = (k : Int) - 1 /\ zW wr w.heap.size #[.int .i64 e.kind, .int .i64 e.pos, .int .i64 e.num, .string ⟨e.text.toArray⟩, .slice e.kp e.kl e.kc] 25 /\ zW wr (w.heap.size + 1) #[.int .i64 0, .int .i64 0, .int .i64 0, .string ⟨#[]⟩, .slice none 0 0] 25 /\
  Hid (zG (fun b => m <= b /\ b ≠ w.heap.size /\ b ≠ w.heap.size + 1) wr e (vB (l.drop k) n)) /\ Below w.heap.size w wr /\ w.heap.size + 1 + 1 <= wr.heap.size) (fun i _ => (intOf i + 1).toNat)
 case atStart => exact ⟨len, d, (len : Int) - 1, Nat.le_refl _, rfl, rfl, KN, KZ, by rw [List.drop_of_length_le (by rw [HX.out]; exact Nat.le_refl _)]; exact TN, hB1, by omega⟩
 case round =>
  clear KN KZ TN hB1 hs1;obtain ⟨k, ⟨ek, ep, en, et, eq, el, ec⟩, z, hk, rfl, hz, KN, KZ, HT, hB, hlo⟩ := hrel;dsimp only at KN;cases k with
  | zero =>
   have hz0 : ¬ (0 : Int) <= z := by omega
   clear hz;have HT0 : zG (fun b => m <= b /\ b ≠ w.heap.size /\ b ≠ w.heap.size + 1) wr ⟨ek, ep, en, et, eq, el, ec⟩ (vB l n) := HT.out;obtain ⟨⟨x0, x1, x2, x3, x4⟩, -⟩ := zA KN;have f_z := zA KZ;obtain ⟨W7, hW7, K7, hP⟩ := zZ (z := zN) KZ ⟨ek, ep, en, et, eq, el, ec⟩;dsimp only [zN] at hW7 K7;have hB7 := hP.below _ _ (by omega) hB;have hT7 := (hP.node HT0 (fun q => q.2.2 rfl)).mono (S' := fun b => m <= b) fun q hq _ => hq.1
   clear HT0 HT hP;go_wp2_with fail;rw [<- hW7];obtain ⟨⟨y0, y1, y2, y3, y4⟩, -⟩ := zA K7;exact bodyPost_ret (v := NC.val ⟨ek, ep, en, et, eq, el, ec⟩) (by simp [results, Tryz.results59, go_sem, y0, y1, y2, y3, y4, NC.val]) rfl ⟨_, rfl, hB7, hT7⟩
  | succ j =>
   obtain rfl : z = (j : Int) := by omega
   clear hz;have hjl : j < l.length := by rw [HX.out]; omega
   obtain ⟨g, o, cap', hv, -, hg, -, hc⟩ := HR.out.at (by omega);have hp : p = some ⟨g, o, none⟩ := by injection hv
   subst hp;clear hv;have hlt : (j : Int) < (len : Int) := by omega
   have c1 : wr.cell? ⟨g, o + j * 4 + 1, none⟩ = some (.int .i64 l[j].pos) := (hB.cell (p := ⟨g, o + j * 4 + 1, none⟩) hg).trans (hc (j * 4 + 1) _ (by rw [qU wC l j hjl 1 (by omega)]; rfl));have c3 : wr.cell? ⟨g, o + j * 4 + 3, none⟩ = some (.string ⟨l[j].text.toArray⟩) := (hB.cell (p := ⟨g, o + j * 4 + 3, none⟩) hg).trans (hc (j * 4 + 3) _ (by rw [qU wC l j hjl 3 (by omega)]; rfl));have HWR := Lib.hid (lZ hjl n);clear hc;generalize l[j] = t at *;obtain ⟨tk, tp, tn, tt⟩ := t;dsimp only at c1 c3 HWR;go_wp2_with fail;have f_x := zA KN;obtain ⟨W7, hW7, K7, hP⟩ := zZ (z := ⟨ek, ep, en, et, eq, el, ec⟩) KN ⟨25, tp, 0, tt, some ⟨wr.heap.size, 0, none⟩, 1, 1⟩;have hs : W7.heap.size = wr.heap.size := by rw [hW7]; simp
   have KZ7 := hP.blk KZ (by omega);have T7 := hP.node HT.out (fun q => q.2.1 rfl);have hB7 := hP.below _ _ (Nat.le_refl _) hB;have hlw : w.heap.size < wr.heap.size := by omega
   have hgw : g < wr.heap.size := by omega
   obtain ⟨V, hV, -, hBV, -⟩ := zT W7 #[.int .i64 ek, .int .i64 ep, .int .i64 en, .string ⟨et.toArray⟩, .slice eq el ec] 25;have KL : zW V wr.heap.size #[.int .i64 ek, .int .i64 ep, .int .i64 en, .string ⟨et.toArray⟩, .slice eq el ec] 25 := by
    rw [hV];have h0 := zW.new W7 #[.int .i64 ek, .int .i64 ep, .int .i64 en, .string ⟨et.toArray⟩, .slice eq el ec] 25;rw [hs] at h0; exact h0
   have TT := tD (d := ⟨ek, ep, en, et, eq, el, ec⟩) KL (S := fun b => m <= b /\ b ≠ w.heap.size /\ b ≠ w.heap.size + 1) ⟨by omega, by omega, by omega⟩ (T7.later hBV) 25 tp 0 tt;rw [<- HWR.out] at TT;have KNV := (K7.later hBV);have KZV := (KZ7.later hBV);have hBt := zS hB7 hBV;have hsV : wr.heap.size + 1 <= V.heap.size := by rw [hV]; simp [hs]
   dsimp only at hW7;have HV := Lib.hid hV;have HTT := Lib.hid TT;have HKN := Lib.hid KNV;have HKZ := Lib.hid KZV;clear hV TT KNV KZV KZ7 K7 T7 KL hP HT HWR KN KZ hB7 hBV hs;go_region;rw [<- hW7, <- HV.out];clear HV hW7 f_x c1 c3;have hD : Below V.heap.size V V.drew := (Below.refl _ _).drew;go_wp2;go_roundw
   case rel => exact ⟨j, ⟨25, tp, 0, tt, some ⟨wr.heap.size, 0, none⟩, 1, 1⟩, (j : Int) - 1, by omega, rfl, rfl, HKN.out.later hD, HKZ.out.later hD, HTT.out.later hD, hBt.trans (hD.mono hBt.size), by have := hD.size; omega⟩
   case measure => simp [intOf]
end Go.Proofs.YtdjomhbmhooceaaGreat.N9
