import Derived.Test.YtdjomhbmhooceaaGreatF6
set_option linter.unusedVariables false
set_option linter.unusedSimpArgs false
namespace Go.Proofs.YtdjomhbmhooceaaGreat.N9
open Go.RowKit N5 N6 N7
def yG {α β : Type} (o : yM α) (f : Cu -> α -> yM β) : yM β := match o with
 | (d, none) => (d, none)
 | (d, some n) => f d n
def wantO {β : Type} (c : Cu) (x : List UInt8) (f : Cu -> yM β) : yM β := if c.is x = true then f (c.want x) else (c.want x, none)
def St {α : Type} (r : Cu -> Cu × α) : Prop := ∀ d, d.err ≠ 0 -> (r d).1 = d
theorem uG.bind {α β : Type} {c : Cu} {o : yM α} {r : Cu × α} {f : Cu -> α -> yM β} {g : Cu × β} (h : uG c o r) (hs : r.1.err ≠ 0 -> g.1 = r.1) (hg : r.1.err = 0 -> r.1.nest = c.nest -> uG r.1 (f r.1 r.2) g) : uG c (yG o f) g := by
 rcases h.cases with ⟨e1, e2⟩ | ⟨e1, e2⟩
 ·
  have h2 := hg e1 (h.fine.nest e1);rw [e2];exact ⟨h2.cur, h2.yes, h2.no, h.fine.trans h2.fine⟩
 ·
  have h2 := hs e1;rw [e2];refine ⟨h2.symm, fun k => absurd (h2 ▸ k) e1, fun _ => rfl, h2.symm ▸ h.fine⟩
theorem uG.map {α β : Type} {c : Cu} {o : yM α} {r : Cu × α} (f : α -> β) (h : uG c o r) : uG c (yG o fun d n => (d, some (f n))) (r.1, f r.2) :=
 uG.bind h (fun _ => rfl) fun e _ => .good (.refl _) e
theorem uG.wantO {β : Type} {c : Cu} {x : List UInt8} {f : Cu -> yM β} {g : Cu × β} (hs : (c.want x).err ≠ 0 -> g.1 = c.want x) (hg : (c.want x).err = 0 -> (c.want x).nest = c.nest -> uG (c.want x) (f (c.want x)) g) : uG c (wantO c x f) g := by
 unfold N9.wantO;have fw := zL c x;by_cases h : c.is x = true
 ·
  rw [if_pos h];have e := yN.2 h;have h2 := hg e (fw.nest e);exact ⟨h2.cur, h2.yes, h2.no, fw.trans h2.fine⟩
 ·
  rw [if_neg h];have e : (c.want x).err ≠ 0 := fun q => h (yN.1 q)
  have h2 := hs e;refine ⟨h2.symm, fun k => absurd (h2 ▸ k) e, fun _ => rfl, h2.symm ▸ fw⟩
theorem xJ {c : Cu} (x : List UInt8) (h : c.err ≠ 0) : c.want x = c := (zL c x).stuck h
theorem fC {c : Cu} (x : List UInt8) (h : c.err ≠ 0) : c.take x = c := (yD c x).stuck h
theorem sS {c : Cu} {x : List UInt8} (h : c.is x = true) : c.take x = c.adv := by
 have := wU h;unfold Cu.take Cu.adv;rw [if_pos h, if_pos this]
theorem bH {c : Cu} {x : List UInt8} (h : c.is x = true) : c.want x = c.take x := by unfold Cu.want; rw [if_pos h]
def xY : Nat -> Cu -> Cu × List Tk
 | 0, c => (c, [])
 | f + 1, c => if c.peek.kind = 1 then ((xY f c.adv).1, c.peek :: (xY f c.adv).2) else (c, [])
def yW (c : Cu) : Cu × List Tk := xY (c.ws.length - c.at' + 1) c
theorem bK {c : Cu} (h : c.peek.kind = 1) : yW c = ((yW c.adv).1, c.peek :: (yW c.adv).2) := by
 have h0 := vZ (c := c) (by rw [h]; decide);have h1 := uJ (c := c) (by rw [h]; decide);have e : c.adv.ws.length - c.adv.at' + 1 = c.ws.length - c.at' := by
  unfold Cu.adv;rw [if_pos ⟨h0, h1⟩];show c.ws.length - (c.at' + 1) + 1 = _;omega
 unfold yW;rw [e];show (if _ then _ else _) = _;rw [if_pos h]
theorem dT {c : Cu} (h : ¬ c.peek.kind = 1) : yW c = (c, []) := by
 show (if _ then _ else _) = _;rw [if_neg h]
theorem mL {c : Cu} (h : c.err ≠ 0) : yW c = (c, []) := dT (by rw [wM h]; decide)
theorem eE (f : Nat) : ∀ c, zY c (xY f c).1 := by
 induction f with
 | zero => intro c; exact .refl c
 | succ f ih =>
  intro c;unfold xY;split
  ·
   exact (xH c).trans (ih _)
  ·
   exact .refl c
theorem sK (c : Cu) : zY c (yW c).1 := eE _ c
theorem cN (f : Nat) : ∀ c, c.err = 0 -> (xY f c).1.err = 0 := by
 induction f with
 | zero => intro c h; exact h
 | succ f ih =>
  intro c h;unfold xY;split
  ·
   exact ih _ (by rw [vE]; exact h)
  ·
   exact h
theorem pU {c : Cu} (h : c.err = 0) : (yW c).1.err = 0 := cN _ c h
def vB (l : List Tk) (n : Nd) : Nd := l.foldr (fun t n => .mk 25 t.pos 0 t.text [n]) n
def zI (c : Cu) : Bool := decide (c.peek.kind = 1) || (decide (c.peek.kind = 2) || (decide (c.peek.kind = 3) || c.is [40]))
def sF (t : Tk) : Nd := if t.kind = 1 then .mk 21 t.pos 0 t.text [] else if t.kind = 2 then .mk 22 t.pos 0 t.text [] else .mk 23 t.pos t.num [] []
def zV (wh : Cu -> yM Nd) (c : Cu) : yM Nd :=
 if c.is [40] = true then deeper (wA wh) c
 else if zI c = true then (c.adv, some (sF c.peek)) else (c.fail 5, none)
def qD (wh : Cu -> yM Nd) : Nat -> Cu -> Nd -> yM Nd
 | 0, c, _ => (c, none)
 | f + 1, c, n => if zI c = true then yG (zV wh c) fun d k => qD wh f d (.mk 24 n.pos 0 [] [n, k]) else (c, some n)
def sC (wh : Cu -> yM Nd) (c : Cu) : yM Nd := yG (zV wh c) fun d n => qD wh (c.ws.length + 1) d n
def wX (wh : Cu -> yM Nd) (c : Cu) : yM Nd :=
 if c.adv.kindOk 1 = true then wantO (yW (c.adv.kind 1)).1 [45, 62] fun d => yG (wh d) fun e n => (e, some (vB (c.adv.kindT 1 :: (yW (c.adv.kind 1)).2) n))
 else (c.adv.kind 1, none)
def vQ (c : Cu) : Bool := c.is [59] && !(c.take [59]).is [125]
def wK (item : Cu -> yM Nd) (c : Cu) (l : List Nd) : yM (List Nd) :=
 wantO c [123] fun d => yG (item d) fun e n => yG (yA vQ (fun c => c.take [59]) item (c.ws.length + 1) e (l ++ [n])) fun g ks => wantO g [125] fun g => (g, some ks)
def wQ (wh : Cu -> yM Nd) (c : Cu) : yM Nd :=
 if c.kindOk 1 = true then
  (if (c.kind 1).is [58, 58] = true then yG (tA (N7.wholeP 200) ((c.kind 1).take [58, 58])) fun d n => (d, some (.mk 32 (c.kindT 1).pos 0 (c.kindT 1).text [n]))
  else wantO (yW ((c.kind 1).take [58, 58])).1 [61] fun d => yG (wh d) fun e n => (e, some (.mk 31 (c.kindT 1).pos 0 (c.kindT 1).text [vB (yW ((c.kind 1).take [58, 58])).2 n])))
 else (c.kind 1, none)
def qY (wh : Cu -> yM Nd) (c : Cu) : yM Nd :=
 yG (wK (wQ wh) c.adv []) fun d ks => wantO d [105, 110] fun d => yG (wh d) fun e n => (e, some (.mk 26 c.peek.pos 0 [] (ks ++ [n])))
def rY (wh : Cu -> yM Nd) (c : Cu) : yM Nd :=
 yG (N8.wholeP 200 c) fun d p => wantO d [45, 62] fun d => yG (wh d) fun e n => (e, some (.mk 15 p.pos 0 [] [p, n]))
def sB (wh : Cu -> yM Nd) (c : Cu) : yM Nd :=
 yG (wh c.adv) fun d n => wantO d [111, 102] fun d => yG (wK (rY wh) d [n]) fun e ks => (e, some (.mk 27 c.peek.pos 0 [] ks))
def nG (wh : Cu -> yM Nd) (c : Cu) : yM Nd :=
 wantO c [105, 102] fun d => yG (wh d) fun d x => wantO d [116, 104, 101, 110] fun d => yG (wh d) fun d y => wantO d [101, 108, 115, 101] fun d => yG (wh d) fun d z => (d, some (.mk 28 c.peek.pos 0 [] [x, y, z]))
def qA (wh : Cu -> yM Nd) (c : Cu) : yM Nd :=
 if c.is [92] = true then wX wh c
 else if c.is [108, 101, 116] = true then qY wh c
 else if c.is [99, 97, 115, 101] = true then sB wh c
 else if c.is [105, 102] = true then nG wh c
 else sC wh c
def wholeP : Nat -> Cu -> yM Nd
 | 0, c => (c.enter, none)
 | n + 1, c => deeper (qA (wholeP n)) c
def wI (c : Cu) : Bool := decide (c.err = 0) && zI c
def zO (wr : Cu -> Cu × Nd) (c : Cu) : Cu × Nd :=
 if zI c = true then (if c.is [40] = true then rU wr c else (c.adv, sF c.peek)) else (c.fail 5, tZ)
def qZ (wr : Cu -> Cu × Nd) : Nat -> Cu -> Nd -> Cu × Nd
 | 0, c, n => (c, n)
 | f + 1, c, n => if zI c = true then qZ wr f (zO wr c).1 (.mk 24 n.pos 0 [] [n, (zO wr c).2]) else (c, n)
def oY (wr : Cu -> Cu × Nd) (c : Cu) : Cu × Nd :=
 if c.peek.kind = 1 then ((wr ((yW c).1.want [45, 62])).1, vB (yW c).2 (wr ((yW c).1.want [45, 62])).2) else (c.fail 5, tZ)
def wJ (rd : Cu -> Cu × Nd) : Nat -> Cu -> List Nd -> Cu × List Nd
 | 0, c, l => (c, l)
 | f + 1, c, l => if vQ (rd c).1 = true then wJ rd f ((rd c).1.take [59]) (l ++ [(rd c).2]) else ((rd c).1.take [59], l ++ [(rd c).2])
def sD (rd : Cu -> Cu × Nd) (c : Cu) (l : List Nd) : Cu × List Nd :=
 ((wJ rd (c.ws.length + 2) (c.want [123]) l).1.want [125], (wJ rd (c.ws.length + 2) (c.want [123]) l).2)
def wR (wr : Cu -> Cu × Nd) (c : Cu) : Cu × Nd :=
 if (c.kind 1).is [58, 58] = true then ((rX (N7.atR 200) ((c.kind 1).take [58, 58])).1, .mk 32 (c.kindT 1).pos 0 (c.kindT 1).text [(rX (N7.atR 200) ((c.kind 1).take [58, 58])).2])
 else ((wr ((yW (c.kind 1)).1.want [61])).1, .mk 31 (c.kindT 1).pos 0 (c.kindT 1).text [vB (yW (c.kind 1)).2 (wr ((yW (c.kind 1)).1.want [61])).2])
def mT (wr : Cu -> Cu × Nd) (c : Cu) (pos : Int) : Cu × Nd :=
 ((wr ((sD (wR wr) c []).1.want [105, 110])).1, .mk 26 pos 0 [] ((sD (wR wr) c []).2 ++ [(wr ((sD (wR wr) c []).1.want [105, 110])).2]))
def oA (wr : Cu -> Cu × Nd) (c : Cu) : Cu × Nd :=
 ((wr ((N8.atR 200 c).1.want [45, 62])).1, .mk 15 (N8.atR 200 c).2.pos 0 [] [(N8.atR 200 c).2, (wr ((N8.atR 200 c).1.want [45, 62])).2])
def pC (wr : Cu -> Cu × Nd) (c : Cu) (pos : Int) : Cu × Nd :=
 ((sD (oA wr) ((wr c).1.want [111, 102]) [(wr c).2]).1, .mk 27 pos 0 [] (sD (oA wr) ((wr c).1.want [111, 102]) [(wr c).2]).2)
def ifR (wr : Cu -> Cu × Nd) (c : Cu) (pos : Int) : Cu × Nd :=
 ((wr ((wr ((wr c).1.want [116, 104, 101, 110])).1.want [101, 108, 115, 101])).1, .mk 28 pos 0 [] [(wr c).2, (wr ((wr c).1.want [116, 104, 101, 110])).2, (wr ((wr ((wr c).1.want [116, 104, 101, 110])).1.want [101, 108, 115, 101])).2])
def xO (wr : Cu -> Cu × Nd) (c : Cu) : Cu × Nd :=
 if c.is [92] = true then oY wr (c.take [92])
 else if c.is [108, 101, 116] = true then mT wr (c.take [108, 101, 116]) c.peek.pos
 else if c.is [99, 97, 115, 101] = true then pC wr (c.take [99, 97, 115, 101]) c.peek.pos
 else if c.is [105, 102] = true then ifR wr (c.take [105, 102]) c.peek.pos
 else qZ wr (c.ws.length + 1) (zO wr c).1 (zO wr c).2
def atR : Nat -> Cu -> Cu × Nd
 | 0, c => (c.enter, tZ)
 | n + 1, c => ((xO (atR n) c.enter).1.leave, (xO (atR n) c.enter).2)
theorem yC {c : Cu} (h : zI c = true) : c.err = 0 := by
 unfold zI at h;refine Decidable.byContradiction fun k => ?_
 rw [wM k, xM k] at h;simp at h
theorem wB {c : Cu} (h : zI c = true) : c.at' < c.ws.length := by
 unfold zI at h;simp only [Bool.or_eq_true, decide_eq_true_eq] at h;rcases h with h | h | h | h
 ·
  exact uJ (by rw [h]; decide)
 ·
  exact uJ (by rw [h]; decide)
 ·
  exact uJ (by rw [h]; decide)
 ·
  exact (wU h).2
theorem vP (c : Cu) : wI c = zI c := by
 unfold wI;cases h : zI c with
 | true => simp [yC h]
 | false => simp
theorem rR {c : Cu} (h : c.is [40] = true) : zI c = true := by unfold zI; simp [h]
theorem jR (wr : Cu -> Cu × Nd) : St (zO wr) := fun c h => by
 unfold zO;rw [if_neg (fun q => h (yC q)), (vG c 5).stuck h]
theorem nF (wr : Cu -> Cu × Nd) (f : Nat) {c : Cu} (n : Nd) (h : c.err ≠ 0) : qZ wr f c n = (c, n) := by
 cases f with
 | zero => rfl
 | succ f => unfold qZ; rw [if_neg (fun q => h (yC q))]
theorem rQ {c : Cu} (x : Int) (h : c.err ≠ 0) : c.kind x = c := (uI c x).stuck h
theorem gY {c : Cu} (h : c.err ≠ 0) : ¬ vQ c = true := by unfold vQ; rw [xM h]; simp
theorem qK {r : Cu -> Cu × Nd} {c : Cu} (f : Nat) (l : List Nd) (h : (r c).1.err ≠ 0) : wJ r (f + 1) c l = ((r c).1, l ++ [(r c).2]) := by
 show (if _ then _ else _) = _;rw [if_neg (gY h), fC _ h]
theorem lE {r : Cu -> Cu × Nd} (hr : St r) (f : Nat) {c : Cu} (l : List Nd) (h : c.err ≠ 0) : (wJ r f c l).1 = c := by
 cases f with
 | zero => rfl
 | succ f =>
  have e := hr c h;rw [qK f l (by rw [e]; exact h)];exact e
theorem jO {r : Cu -> Cu × Nd} (hr : St r) {c : Cu} (l : List Nd) (h : c.err ≠ 0) : (sD r c l).1 = c := by
 unfold sD;rw [xJ _ h];show (wJ r _ c l).1.want [125] = c;rw [lE hr _ l h, xJ _ h]
theorem mO {wr : Cu -> Cu × Nd} (hw : St wr) : St (wR wr) := fun c h => by
 unfold wR;rw [rQ 1 h, if_neg (by rw [xM h]; decide), mL h];show (wr (c.want [61])).1 = c;rw [xJ _ h, hw c h]
theorem kQ {wr : Cu -> Cu × Nd} (hw : St wr) : St (oA wr) := fun c h => by
 unfold oA;rw [N8.atR_stuck 200 h];show (wr (c.want [45, 62])).1 = c;rw [xJ _ h, hw c h]
theorem mN (wr : Cu -> Cu × Nd) : St (xO wr) := fun c h => by
 unfold xO;rw [if_neg (by rw [xM h]; decide), if_neg (by rw [xM h]; decide), if_neg (by rw [xM h]; decide), if_neg (by rw [xM h]; decide)];have e := jR wr c h;rw [nF wr _ _ (by rw [e]; exact h)];exact e
theorem qI (n : Nat) : St (atR n) := by
 induction n with
 | zero => exact fun c h => tF h
 | succ n _ =>
  intro c h;show (xO (atR n) c.enter).1.leave = c;rw [tF h, mN _ c h, yO h]
section
variable {k : Nat} {wh : Cu -> yM Nd} {wr : Cu -> Cu × Nd}
theorem xN (H : xI k wh wr) : xI (k + 1) (zV wh) (zO wr) := by
 intro c hk;unfold zV zO;by_cases h3 : c.is [40] = true
 ·
  rw [if_pos h3, if_pos (rR h3), if_pos h3];exact mJ H c hk h3
 ·
  rw [if_neg h3];by_cases hb : zI c = true
  ·
   rw [if_pos hb, if_pos hb, if_neg h3];exact .good (xH c) (by rw [vE]; exact yC hb)
  ·
   rw [if_neg hb, if_neg hb];exact .fail (vG c 5) (vR c 5)
theorem vV (H : xI k wh wr) (c : Cu) (hk : 200 <= c.nest + (k + 1)) (h : (zO wr c).1.err = 0) : c.at' < (zO wr c).1.at' := by
 unfold zO at h ⊢;by_cases hb : zI c = true
 ·
  rw [if_pos hb] at h ⊢;by_cases h3 : c.is [40] = true
  ·
   rw [if_pos h3] at h ⊢;exact gH H c hk h3 h
  ·
   rw [if_neg h3] at h ⊢;exact AaQ (yC hb) (wB hb)
 ·
  rw [if_neg hb] at h;exact absurd h (vR c 5)
theorem rel_app (H : xI k wh wr) (f : Nat) : ∀ (c : Cu) (n : Nd), 200 <= c.nest + (k + 1) -> c.err = 0 -> c.ws.length - c.at' < f -> uG c (qD wh f c n) (qZ wr f c n) := by
 induction f with
 | zero => intro c n _ _ h; omega
 | succ f ih =>
  intro c n hk he hf;unfold qD qZ;by_cases hb : zI c = true
  ·
   rw [if_pos hb, if_pos hb];have hr := xN H c hk;refine uG.bind hr (fun e => by rw [nF wr f _ e]) fun e hn => ?_
   have h1 := vV H c hk e;have h2 := wB hb;exact ih _ _ (by rw [hn]; exact hk) e (by rw [hr.fine.ws]; omega)
  ·
   rw [if_neg hb, if_neg hb]; exact .good (.refl c) he
theorem bD (H : xI k wh wr) (c : Cu) (hk : 200 <= c.nest + (k + 1)) : uG c (sC wh c) (qZ wr (c.ws.length + 1) (zO wr c).1 (zO wr c).2) := by
 unfold sC;have hr := xN H c hk;refine uG.bind hr (fun e => by rw [nF wr _ _ e]) fun e hn => ?_
 exact rel_app H _ _ _ (by rw [hn]; exact hk) e (by rw [hr.fine.ws]; omega)
theorem cF {p : Cu -> yM Nd} {r : Cu -> Cu × Nd} (H : xI k p r) (f : Nat) : ∀ (c : Cu) (l : List Nd), 200 <= c.nest + k -> (r c).1.err = 0 -> (r c).1.ws.length - (r c).1.at' < f ->
  uG c (yA vQ (fun c => c.take [59]) p f (r c).1 (l ++ [(r c).2])) (wJ r (f + 1) c l) := by
 induction f with
 | zero => intro c l _ _ h; omega
 | succ f ih =>
  intro c l hk he hf;have hr := H c hk;rw [show wJ r (f + 1 + 1) c l = (if vQ (r c).1 = true then wJ r (f + 1) ((r c).1.take [59]) (l ++ [(r c).2]) else ((r c).1.take [59], l ++ [(r c).2])) from rfl];unfold yA;have ft := yD (r c).1 [59];have et : ((r c).1.take [59]).err = 0 := by rw [uE]; exact he
  by_cases h : vQ (r c).1 = true
  ·
   rw [if_pos h, if_pos h];have hi : (r c).1.is [59] = true := by unfold vQ at h; simp only [Bool.and_eq_true] at h; exact h.1
   have hn : 200 <= ((r c).1.take [59]).nest + k := by rw [ft.nest et, hr.fine.nest he]; exact hk
   have h2 := H _ hn;rcases h2.cases with ⟨e1, e2⟩ | ⟨e1, e2⟩
   ·
    rw [e2];dsimp only;have a1 := h2.fine.at';have a2 : (r c).1.at' < ((r c).1.take [59]).at' := by unfold Cu.take; rw [if_pos hi]; exact Nat.lt_succ_self _
    have a3 := (wU hi).2;have := ih ((r c).1.take [59]) (l ++ [(r c).2]) hn e1 (by rw [h2.fine.ws, ft.ws]; omega);exact ⟨this.cur, this.yes, this.no, hr.fine.trans (ft.trans this.fine)⟩
   ·
    rw [e2];dsimp only;rw [qK f _ e1];exact .fail (hr.fine.trans (ft.trans h2.fine)) e1
  ·
   rw [if_neg h, if_neg h];exact .good (hr.fine.trans ft) et
theorem mD {p : Cu -> yM Nd} {r : Cu -> Cu × Nd} (H : xI k p r) (hst : St r) (c : Cu) (l : List Nd) (hk : 200 <= c.nest + k) : uG c (wK p c l) (sD r c l) := by
 unfold wK sD;refine uG.wantO (fun e => ?_) fun e hn => ?_
 ·
  show (wJ r _ (c.want [123]) l).1.want [125] = _;rw [lE hst _ l e, xJ _ e]
 ·
  have fw := zL c [123];have hr := H (c.want [123]) (by rw [hn]; exact hk);rcases hr.cases with ⟨e1, e2⟩ | ⟨e1, e2⟩
  ·
   rw [e2];have hc := cF H (c.ws.length + 1) (c.want [123]) l (by rw [hn]; exact hk) e1 (by rw [hr.fine.ws, fw.ws]; omega);show uG (c.want [123]) (yG (yA vQ (fun c => c.take [59]) p (c.ws.length + 1) (r (c.want [123])).1 (l ++ [(r (c.want [123])).2])) fun g ks => wantO g [125] fun g => (g, some ks)) _;refine uG.bind hc (fun e => xJ _ e) fun e3 _ => ?_
   exact uG.wantO (fun e => rfl) fun e4 _ => .good (.refl _) e4
  ·
   rw [e2];rw [qK (c.ws.length + 1) l e1];show uG _ ((r (c.want [123])).1, none) ((r (c.want [123])).1.want [125], _);rw [xJ _ e1];exact .fail hr.fine e1
theorem fY (H : xI k wh wr) (hst : St wr) (c : Cu) (hk : 200 <= c.nest + k) (hi : c.is [92] = true) : uG c (wX wh c) (oY wr (c.take [92])) := by
 unfold wX oY;rw [sS hi];have h0 := vT hi;have e0 : c.adv.err = 0 := by rw [vE]; exact h0
 have fa := xH c;have ep : c.adv.peek = c.adv.tok c.adv.at' := by unfold Cu.peek; rw [if_pos e0]
 by_cases h : c.adv.peek.kind = 1
 ·
  have ok : c.adv.kindOk 1 = true := by unfold Cu.kindOk; rw [<- ep, e0, h]; rfl
  have eT : c.adv.kindT 1 = c.adv.peek := by unfold Cu.kindT; rw [if_pos ⟨e0, by rw [<- ep]; exact h⟩, ep]
  have eK : c.adv.kind 1 = c.adv.adv := by unfold Cu.kind; rw [if_pos e0, if_pos (by rw [<- ep]; exact h)]
  rw [if_pos ok, if_pos h, eT, eK, bK h];have fz := (fa.trans (xH c.adv)).trans (sK c.adv.adv);have ez : (yW c.adv.adv).1.err = 0 := pU (by rw [vE]; exact e0);have hz := fz.nest ez;have hr : uG (yW c.adv.adv).1 (wantO (yW c.adv.adv).1 [45, 62] fun d => yG (wh d) fun e n => (e, some (vB (c.adv.peek :: (yW c.adv.adv).2) n))) ((wr ((yW c.adv.adv).1.want [45, 62])).1, vB (c.adv.peek :: (yW c.adv.adv).2) (wr ((yW c.adv.adv).1.want [45, 62])).2) := by
   refine uG.wantO (fun e => hst _ e) fun e hn => ?_
   exact uG.map (vB (c.adv.peek :: (yW c.adv.adv).2)) (H _ (by rw [hn, hz]; exact hk))
  exact ⟨hr.cur, hr.yes, hr.no, fz.trans hr.fine⟩
 ·
  have ok : ¬ c.adv.kindOk 1 = true := fun q => h (by unfold Cu.kindOk at q; simp only [Bool.and_eq_true, decide_eq_true_eq] at q; rw [ep]; exact q.2)
  have eK : c.adv.kind 1 = c.adv.fail 5 := by unfold Cu.kind; rw [if_pos e0, if_neg (by rw [<- ep]; exact h)]
  rw [if_neg ok, if_neg h, eK];exact .fail (fa.trans (vG _ 5)) (vR _ 5)
theorem rH (H : xI k wh wr) (hst : St wr) : xI k (wQ wh) (wR wr) := by
 intro c hk;unfold wQ wR;have fk := uI c 1;by_cases h : c.kindOk 1 = true
 ·
  rw [if_pos h];have h0 := rV.1 h;have hn := fk.nest h0;by_cases h2 : (c.kind 1).is [58, 58] = true
  ·
   rw [if_pos h2, if_pos h2];have ft := yD (c.kind 1) [58, 58];have hr := bB (N7.pair_whole 200) (fun d hd => by rw [N7.atR_stuck 200 hd]) ((c.kind 1).take [58, 58]) (by omega);have hm := uG.map (fun n => Nd.mk 32 (c.kindT 1).pos 0 (c.kindT 1).text [n]) hr;exact ⟨hm.cur, hm.yes, hm.no, fk.trans (ft.trans hm.fine)⟩
  ·
   rw [if_neg h2, if_neg h2, xL h2];have fv := sK (c.kind 1);have ev := pU h0;have hr : uG (yW (c.kind 1)).1 (wantO (yW (c.kind 1)).1 [61] fun d => yG (wh d) fun e n => (e, some (Nd.mk 31 (c.kindT 1).pos 0 (c.kindT 1).text [vB (yW (c.kind 1)).2 n]))) ((wr ((yW (c.kind 1)).1.want [61])).1, .mk 31 (c.kindT 1).pos 0 (c.kindT 1).text [vB (yW (c.kind 1)).2 (wr ((yW (c.kind 1)).1.want [61])).2]) := by
    refine uG.wantO (fun e => hst _ e) fun e he => ?_
    exact uG.map (fun n => Nd.mk 31 (c.kindT 1).pos 0 (c.kindT 1).text [vB (yW (c.kind 1)).2 n]) (H _ (by rw [he, fv.nest ev, hn]; exact hk))
   exact ⟨hr.cur, hr.yes, hr.no, fk.trans (fv.trans hr.fine)⟩
 ·
  rw [if_neg h];have h0 : (c.kind 1).err ≠ 0 := fun q => h (rV.2 q)
  rw [if_neg (by rw [xM h0]; decide), mL h0];show uG c (c.kind 1, none) ((wr ((c.kind 1).want [61])).1, _);rw [xJ _ h0, hst _ h0];exact .fail fk h0
theorem hZ (H : xI k wh wr) (hst : St wr) : xI k (rY wh) (oA wr) := by
 intro c hk;unfold rY oA;have hp := N8.pair_whole 200 c (by omega);refine uG.bind hp (fun e => ?_) fun e hn => ?_
 ·
  show (wr ((N8.atR 200 c).1.want [45, 62])).1 = _;rw [xJ _ e, hst _ e]
 ·
  refine uG.wantO (fun e => hst _ e) fun e2 hn2 => ?_
  exact uG.map (fun n => Nd.mk 15 (N8.atR 200 c).2.pos 0 [] [(N8.atR 200 c).2, n]) (H _ (by rw [hn2, hn]; exact hk))
theorem rel_let (H : xI k wh wr) (hst : St wr) (c : Cu) (hk : 200 <= c.nest + k) (h0 : c.err = 0) (pos : Int) (hpos : pos = c.peek.pos) : uG c (qY wh c) (mT wr c.adv pos) := by
 subst hpos;unfold qY mT;have fa := xH c;have e0 : c.adv.err = 0 := by rw [vE]; exact h0
 have hn0 := fa.nest e0;have hr := mD (rH H hst) (mO hst) c.adv [] (by rw [hn0]; exact hk);have hz : uG c.adv (yG (wK (wQ wh) c.adv []) fun d ks => wantO d [105, 110] fun d => yG (wh d) fun e n => (e, some (Nd.mk 26 c.peek.pos 0 [] (ks ++ [n])))) ((wr ((sD (wR wr) c.adv []).1.want [105, 110])).1, .mk 26 c.peek.pos 0 [] ((sD (wR wr) c.adv []).2 ++ [(wr ((sD (wR wr) c.adv []).1.want [105, 110])).2])) := by
  refine uG.bind hr (fun e => ?_) fun e hn => ?_
  ·
   show (wr (_)).1 = _;rw [xJ _ e, hst _ e]
  ·
   refine uG.wantO (fun e => hst _ e) fun e2 hn2 => ?_
   exact uG.map (fun n => Nd.mk 26 c.peek.pos 0 [] ((sD (wR wr) c.adv []).2 ++ [n])) (H _ (by rw [hn2, hn, hn0]; exact hk))
 exact ⟨hz.cur, hz.yes, hz.no, fa.trans hz.fine⟩
theorem aO (H : xI k wh wr) (hst : St wr) (c : Cu) (hk : 200 <= c.nest + k) (h0 : c.err = 0) (pos : Int) (hpos : pos = c.peek.pos) : uG c (sB wh c) (pC wr c.adv pos) := by
 subst hpos;unfold sB pC;have fa := xH c;have e0 : c.adv.err = 0 := by rw [vE]; exact h0
 have hn0 := fa.nest e0;have hr := H c.adv (by rw [hn0]; exact hk);have hz : uG c.adv (yG (wh c.adv) fun d n => wantO d [111, 102] fun d => yG (wK (rY wh) d [n]) fun e ks => (e, some (Nd.mk 27 c.peek.pos 0 [] ks))) ((sD (oA wr) ((wr c.adv).1.want [111, 102]) [(wr c.adv).2]).1, .mk 27 c.peek.pos 0 [] (sD (oA wr) ((wr c.adv).1.want [111, 102]) [(wr c.adv).2]).2) := by
  refine uG.bind hr (fun e => ?_) fun e hn => ?_
  ·
   show (sD _ ((wr c.adv).1.want [111, 102]) _).1 = _;rw [xJ _ e, jO (kQ hst) _ e]
  ·
   refine uG.wantO (fun e => jO (kQ hst) _ e) fun e2 hn2 => ?_
   exact uG.map (fun ks => Nd.mk 27 c.peek.pos 0 [] ks) (mD (hZ H hst) (kQ hst) _ _ (by rw [hn2, hn, hn0]; exact hk))
 exact ⟨hz.cur, hz.yes, hz.no, fa.trans hz.fine⟩
theorem rel_if (H : xI k wh wr) (hst : St wr) (c : Cu) (hk : 200 <= c.nest + k) (hi : c.is [105, 102] = true) (pos : Int) (hpos : pos = c.peek.pos) : uG c (nG wh c) (ifR wr (c.take [105, 102]) pos) := by
 subst hpos;unfold nG ifR;rw [<- bH hi];have hs3 : ∀ d : Cu, d.err ≠ 0 -> (wr d).1 = d := hst;refine uG.wantO (fun e => ?_) fun e hn => ?_
 ·
  exact absurd (yN.2 hi) e
 ·
  refine uG.bind (H _ (by rw [hn]; exact hk)) (fun e => ?_) fun e2 hn2 => ?_
  ·
   show (wr ((wr ((wr (c.want [105, 102])).1.want _)).1.want _)).1 = _;rw [xJ _ e, hst _ e, xJ _ e, hst _ e]
  ·
   refine uG.wantO (fun e => ?_) fun e3 hn3 => ?_
   ·
    show (wr ((wr _).1.want _)).1 = _;rw [hst _ e, xJ _ e, hst _ e]
   ·
    refine uG.bind (H _ (by rw [hn3, hn2, hn]; exact hk)) (fun e => ?_) fun e4 hn4 => ?_
    ·
     show (wr (_)).1 = _;rw [xJ _ e, hst _ e]
    ·
     refine uG.wantO (fun e => hst _ e) fun e5 hn5 => ?_
     exact uG.map (fun z => Nd.mk 28 c.peek.pos 0 [] [(wr (c.want [105, 102])).2, (wr ((wr (c.want [105, 102])).1.want [116, 104, 101, 110])).2, z]) (H _ (by rw [hn5, hn4, hn3, hn2, hn]; exact hk))
theorem hQ (H : xI k wh wr) (hst : St wr) : xI k (qA wh) (xO wr) := by
 intro c hk;unfold qA xO;by_cases h1 : c.is [92] = true
 ·
  rw [if_pos h1, if_pos h1]; exact fY H hst c hk h1
 rw [if_neg h1, if_neg h1];by_cases h2 : c.is [108, 101, 116] = true
 ·
  rw [if_pos h2, if_pos h2, sS h2]; exact rel_let H hst c hk (vT h2) _ rfl
 rw [if_neg h2, if_neg h2];by_cases h3 : c.is [99, 97, 115, 101] = true
 ·
  rw [if_pos h3, if_pos h3, sS h3]; exact aO H hst c hk (vT h3) _ rfl
 rw [if_neg h3, if_neg h3];by_cases h4 : c.is [105, 102] = true
 ·
  rw [if_pos h4, if_pos h4]; exact rel_if H hst c hk h4 _ rfl
 rw [if_neg h4, if_neg h4];exact bD H c (by omega)
end
theorem pair_whole : ∀ n, xI n (wholeP n) (atR n)
 | 0 => fun c hk => by
  have h4 : ¬ c.enters = true := fun q => by have := (yF.1 q).2; omega
  obtain ⟨h5, h6⟩ := xC h4;exact .fail h6 h5
 | n + 1 => fun c hk => lX (hQ (pair_whole n) (qI n)) (mN (atR n)) c (by omega)
end Go.Proofs.YtdjomhbmhooceaaGreat.N9
namespace Go.Proofs.YtdjomhbmhooceaaGreat.N8
open Go.RowKit N5 N6 N7
theorem oD (t : Tk) : (sF t).size = 1 := by
 unfold sF;split
 ·
  rfl
 ·
  split
  ·
   rfl
  ·
   split <;> rfl
theorem qB {c : Cu} (h : zI c = true) : c.adv.at' = c.at' + 1 := by
 unfold Cu.adv;rw [if_pos ⟨yC h, wB h⟩]
section
variable {wh : Cu -> yM Nd}
theorem vO (H : tM wh) : tM (zV wh) := by
 intro c d t e;unfold zV at e;split at e
 ·
  refine sH (fun d t e => ?_) e;unfold wA at e;split at e
  ·
   rename_i hi;cases hr : wh (c.enter.want [40]) with
   | mk a o =>
    rw [hr] at e;cases o with
    | none => cases e
    | some n =>
     have := H _ _ _ hr;rw [wN hi, rE] at this;dsimp only at e;split at e
     ·
      rename_i hj;injection e with e1 e2; injection e2 with e2
      rw [<- e1, <- e2, wN hj]; omega
     ·
      cases e
  ·
   cases e
 ·
  split at e
  ·
   rename_i h;injection e with e1 e2; injection e2 with e2
   rw [<- e1, <- e2, oD, qB h]; omega
  ·
   cases e
theorem oG (H : tM wh) : tM (vY wh) := by
 intro c d t e;unfold vY at e;split at e
 ·
  rename_i h;cases hm : yA zI id (zV wh) (c.ws.length + 1) c.adv [] with
  | mk a o =>
   rw [hm] at e;cases o with
   | none => cases e
   | some ks =>
    have := pI (vO H) (fun c => Nat.le_refl _) _ _ _ _ _ hm;rw [oE (by rw [h]; decide)] at this;injection e with e1 e2; injection e2 with e2
    rw [<- e1, <- e2, Nd.size_eq];show Nd.sizes ks + 1 + _ <= _;have : Nd.sizes ([] : List Nd) = 0 := rfl;omega
 ·
  exact vO H _ _ _ e
end
theorem whole_sized : ∀ n, tM (wholeP n)
 | 0 => fun c d t e => by cases e
 | n + 1 => fun c d t e => sH (fun d t e => by have := oG (whole_sized n) _ _ _ e; rw [rE] at this; exact this) e
theorem mH {c : Cu} (h0 : c.nest = 0) (h : (wholeP 200 c).1.err = 0) : ∃ t, (wholeP 200 c).2 = some t := by
 have hr := pair_whole 200 c (by omega);rcases hr.cases with ⟨e1, e2⟩ | ⟨e1, e2⟩
 ·
  exact ⟨_, by rw [e2]⟩
 ·
  rw [e2] at h; exact absurd h e1
theorem fine_at (m : Nat) (c : Cu) (h : 200 <= c.nest + m \/ c.err ≠ 0) : zY c (atR m c).1 := by
 by_cases he : c.err = 0
 ·
  exact (pair_whole m c (h.resolve_right fun q => q he)).fine
 ·
  rw [atR_stuck m he]; exact .refl c
theorem rK (m : Nat) (c : Cu) (h : 200 <= c.nest + (m + 1) \/ c.err ≠ 0) : zY c (zO (atR m) c).1 := by
 by_cases he : c.err = 0
 ·
  exact (xN (pair_whole m) c (h.resolve_right fun q => q he)).fine
 ·
  rw [tE he]; exact .refl c
end Go.Proofs.YtdjomhbmhooceaaGreat.N8
