import Derived.Test.YtdjomhbmhooceaaGreatE6
set_option linter.unusedVariables false
set_option linter.unusedSimpArgs false
namespace Go.Proofs.YtdjomhbmhooceaaGreat.N9
open Go.RowKit N5 N6 N7
def yH {α β : Type} (o : yJ α) (f : Cu -> α -> yJ β) : yJ β := match o with
 | (d, none) => (d, none)
 | (d, some n) => f d n
def wantO {β : Type} (c : Cu) (x : List UInt8) (f : Cu -> yJ β) : yJ β := if c.is x = true then f (c.want x) else (c.want x, none)
def St {α : Type} (r : Cu -> Cu × α) : Prop := ∀ d, d.err ≠ 0 -> (r d).1 = d
theorem uO.bind {α β : Type} {c : Cu} {o : yJ α} {r : Cu × α} {f : Cu -> α -> yJ β} {g : Cu × β} (h : uO c o r) (hs : r.1.err ≠ 0 -> g.1 = r.1) (hg : r.1.err = 0 -> r.1.nest = c.nest -> uO r.1 (f r.1 r.2) g) : uO c (yH o f) g := by
 rcases h.cases with ⟨e1, e2⟩ | ⟨e1, e2⟩
 ·
  have h2 := hg e1 (h.fine.nest e1);rw [e2];exact ⟨h2.cur, h2.yes, h2.no, h.fine.trans h2.fine⟩
 ·
  have h2 := hs e1;rw [e2];refine ⟨h2.symm, fun k => absurd (h2 ▸ k) e1, fun _ => rfl, h2.symm ▸ h.fine⟩
theorem uO.map {α β : Type} {c : Cu} {o : yJ α} {r : Cu × α} (f : α -> β) (h : uO c o r) : uO c (yH o fun d n => (d, some (f n))) (r.1, f r.2) :=
 uO.bind h (fun _ => rfl) fun e _ => .good (.refl _) e
theorem uO.wantO {β : Type} {c : Cu} {x : List UInt8} {f : Cu -> yJ β} {g : Cu × β} (hs : (c.want x).err ≠ 0 -> g.1 = c.want x) (hg : (c.want x).err = 0 -> (c.want x).nest = c.nest -> uO (c.want x) (f (c.want x)) g) : uO c (wantO c x f) g := by
 unfold N9.wantO;have fw := zI c x;by_cases h : c.is x = true
 ·
  rw [if_pos h];have e := yS.2 h;have h2 := hg e (fw.nest e);exact ⟨h2.cur, h2.yes, h2.no, fw.trans h2.fine⟩
 ·
  rw [if_neg h];have e : (c.want x).err ≠ 0 := fun q => h (yS.1 q)
  have h2 := hs e;refine ⟨h2.symm, fun k => absurd (h2 ▸ k) e, fun _ => rfl, h2.symm ▸ fw⟩
theorem xQ {c : Cu} (x : List UInt8) (h : c.err ≠ 0) : c.want x = c := (zI c x).stuck h
theorem cY {c : Cu} (x : List UInt8) (h : c.err ≠ 0) : c.take x = c := (zX c x).stuck h
theorem rH {c : Cu} {x : List UInt8} (h : c.is x = true) : c.take x = c.adv := by
 have := vH h;unfold Cu.take Cu.adv;rw [if_pos h, if_pos this]
theorem AbO {c : Cu} {x : List UInt8} (h : c.is x = true) : c.want x = c.take x := by unfold Cu.want; rw [if_pos h]
def xY : Nat -> Cu -> Cu × List Tk
 | 0, c => (c, [])
 | f + 1, c => if c.peek.kind = 1 then ((xY f c.adv).1, c.peek :: (xY f c.adv).2) else (c, [])
def yX (c : Cu) : Cu × List Tk := xY (c.ws.length - c.at' + 1) c
theorem AbD {c : Cu} (h : c.peek.kind = 1) : yX c = ((yX c.adv).1, c.peek :: (yX c.adv).2) := by
 have h0 := vT (c := c) (by rw [h]; decide);have h1 := uC (c := c) (by rw [h]; decide);have e : c.adv.ws.length - c.adv.at' + 1 = c.ws.length - c.at' := by
  unfold Cu.adv;rw [if_pos ⟨h0, h1⟩];show c.ws.length - (c.at' + 1) + 1 = _;omega
 unfold yX;rw [e];show (if _ then _ else _) = _;rw [if_pos h]
theorem AaU {c : Cu} (h : ¬ c.peek.kind = 1) : yX c = (c, []) := by
 show (if _ then _ else _) = _;rw [if_neg h]
theorem lU {c : Cu} (h : c.err ≠ 0) : yX c = (c, []) := AaU (by rw [wW h]; decide)
theorem dY (f : Nat) : ∀ c, zZ c (xY f c).1 := by
 induction f with
 | zero => intro c; exact .refl c
 | succ f ih =>
  intro c;unfold xY;split
  ·
   exact (yG c).trans (ih _)
  ·
   exact .refl c
theorem tM (c : Cu) : zZ c (yX c).1 := dY _ c
theorem AbS (f : Nat) : ∀ c, c.err = 0 -> (xY f c).1.err = 0 := by
 induction f with
 | zero => intro c h; exact h
 | succ f ih =>
  intro c h;unfold xY;split
  ·
   exact ih _ (by rw [vQ]; exact h)
  ·
   exact h
theorem nO {c : Cu} (h : c.err = 0) : (yX c).1.err = 0 := AbS _ c h
def wK (l : List Tk) (n : Nd) : Nd := l.foldr (fun t n => .mk 25 t.pos 0 t.text [n]) n
def begins (c : Cu) : Bool := decide (c.peek.kind = 1) || (decide (c.peek.kind = 2) || (decide (c.peek.kind = 3) || c.is [40]))
def leaf (t : Tk) : Nd := if t.kind = 1 then .mk 21 t.pos 0 t.text [] else if t.kind = 2 then .mk 22 t.pos 0 t.text [] else .mk 23 t.pos t.num [] []
def atomP (wh : Cu -> yJ Nd) (c : Cu) : yJ Nd :=
 if c.is [40] = true then deeper (xV wh) c
 else if begins c = true then (c.adv, some (leaf c.peek)) else (c.fail 5, none)
def qO (wh : Cu -> yJ Nd) : Nat -> Cu -> Nd -> yJ Nd
 | 0, c, _ => (c, none)
 | f + 1, c, n => if begins c = true then yH (atomP wh c) fun d k => qO wh f d (.mk 24 n.pos 0 [] [n, k]) else (c, some n)
def sM (wh : Cu -> yJ Nd) (c : Cu) : yJ Nd := yH (atomP wh c) fun d n => qO wh (c.ws.length + 1) d n
def wU (wh : Cu -> yJ Nd) (c : Cu) : yJ Nd :=
 if c.adv.kindOk 1 = true then wantO (yX (c.adv.kind 1)).1 [45, 62] fun d => yH (wh d) fun e n => (e, some (wK (c.adv.kindT 1 :: (yX (c.adv.kind 1)).2) n))
 else (c.adv.kind 1, none)
def uF (c : Cu) : Bool := c.is [59] && !(c.take [59]).is [125]
def wS (item : Cu -> yJ Nd) (c : Cu) (l : List Nd) : yJ (List Nd) :=
 wantO c [123] fun d => yH (item d) fun e n => yH (zY uF (fun c => c.take [59]) item (c.ws.length + 1) e (l ++ [n])) fun g ks => wantO g [125] fun g => (g, some ks)
def vA (wh : Cu -> yJ Nd) (c : Cu) : yJ Nd :=
 if c.kindOk 1 = true then
  (if (c.kind 1).is [58, 58] = true then yH (uZ (N7.wholeP 200) ((c.kind 1).take [58, 58])) fun d n => (d, some (.mk 32 (c.kindT 1).pos 0 (c.kindT 1).text [n]))
  else wantO (yX ((c.kind 1).take [58, 58])).1 [61] fun d => yH (wh d) fun e n => (e, some (.mk 31 (c.kindT 1).pos 0 (c.kindT 1).text [wK (yX ((c.kind 1).take [58, 58])).2 n])))
 else (c.kind 1, none)
def pG (wh : Cu -> yJ Nd) (c : Cu) : yJ Nd :=
 yH (wS (vA wh) c.adv []) fun d ks => wantO d [105, 110] fun d => yH (wh d) fun e n => (e, some (.mk 26 c.peek.pos 0 [] (ks ++ [n])))
def qE (wh : Cu -> yJ Nd) (c : Cu) : yJ Nd :=
 yH (N8.wholeP 200 c) fun d p => wantO d [45, 62] fun d => yH (wh d) fun e n => (e, some (.mk 15 p.pos 0 [] [p, n]))
def sC (wh : Cu -> yJ Nd) (c : Cu) : yJ Nd :=
 yH (wh c.adv) fun d n => wantO d [111, 102] fun d => yH (wS (qE wh) d [n]) fun e ks => (e, some (.mk 27 c.peek.pos 0 [] ks))
def mV (wh : Cu -> yJ Nd) (c : Cu) : yJ Nd :=
 wantO c [105, 102] fun d => yH (wh d) fun d x => wantO d [116, 104, 101, 110] fun d => yH (wh d) fun d y => wantO d [101, 108, 115, 101] fun d => yH (wh d) fun d z => (d, some (.mk 28 c.peek.pos 0 [] [x, y, z]))
def qS (wh : Cu -> yJ Nd) (c : Cu) : yJ Nd :=
 if c.is [92] = true then wU wh c
 else if c.is [108, 101, 116] = true then pG wh c
 else if c.is [99, 97, 115, 101] = true then sC wh c
 else if c.is [105, 102] = true then mV wh c
 else sM wh c
def wholeP : Nat -> Cu -> yJ Nd
 | 0, c => (c.enter, none)
 | n + 1, c => deeper (qS (wholeP n)) c
def wO (c : Cu) : Bool := decide (c.err = 0) && begins c
def zM (wr : Cu -> Cu × Nd) (c : Cu) : Cu × Nd :=
 if begins c = true then (if c.is [40] = true then qL wr c else (c.adv, leaf c.peek)) else (c.fail 5, sH)
def oL (wr : Cu -> Cu × Nd) : Nat -> Cu -> Nd -> Cu × Nd
 | 0, c, n => (c, n)
 | f + 1, c, n => if begins c = true then oL wr f (zM wr c).1 (.mk 24 n.pos 0 [] [n, (zM wr c).2]) else (c, n)
def mY (wr : Cu -> Cu × Nd) (c : Cu) : Cu × Nd :=
 if c.peek.kind = 1 then ((wr ((yX c).1.want [45, 62])).1, wK (yX c).2 (wr ((yX c).1.want [45, 62])).2) else (c.fail 5, sH)
def wT (rd : Cu -> Cu × Nd) : Nat -> Cu -> List Nd -> Cu × List Nd
 | 0, c, l => (c, l)
 | f + 1, c, l => if uF (rd c).1 = true then wT rd f ((rd c).1.take [59]) (l ++ [(rd c).2]) else ((rd c).1.take [59], l ++ [(rd c).2])
def sV (rd : Cu -> Cu × Nd) (c : Cu) (l : List Nd) : Cu × List Nd :=
 ((wT rd (c.ws.length + 2) (c.want [123]) l).1.want [125], (wT rd (c.ws.length + 2) (c.want [123]) l).2)
def vO (wr : Cu -> Cu × Nd) (c : Cu) : Cu × Nd :=
 if (c.kind 1).is [58, 58] = true then ((pD (N7.atR 200) ((c.kind 1).take [58, 58])).1, .mk 32 (c.kindT 1).pos 0 (c.kindT 1).text [(pD (N7.atR 200) ((c.kind 1).take [58, 58])).2])
 else ((wr ((yX (c.kind 1)).1.want [61])).1, .mk 31 (c.kindT 1).pos 0 (c.kindT 1).text [wK (yX (c.kind 1)).2 (wr ((yX (c.kind 1)).1.want [61])).2])
def kX (wr : Cu -> Cu × Nd) (c : Cu) (pos : Int) : Cu × Nd :=
 ((wr ((sV (vO wr) c []).1.want [105, 110])).1, .mk 26 pos 0 [] ((sV (vO wr) c []).2 ++ [(wr ((sV (vO wr) c []).1.want [105, 110])).2]))
def nH (wr : Cu -> Cu × Nd) (c : Cu) : Cu × Nd :=
 ((wr ((N8.atR 200 c).1.want [45, 62])).1, .mk 15 (N8.atR 200 c).2.pos 0 [] [(N8.atR 200 c).2, (wr ((N8.atR 200 c).1.want [45, 62])).2])
def oM (wr : Cu -> Cu × Nd) (c : Cu) (pos : Int) : Cu × Nd :=
 ((sV (nH wr) ((wr c).1.want [111, 102]) [(wr c).2]).1, .mk 27 pos 0 [] (sV (nH wr) ((wr c).1.want [111, 102]) [(wr c).2]).2)
def ifR (wr : Cu -> Cu × Nd) (c : Cu) (pos : Int) : Cu × Nd :=
 ((wr ((wr ((wr c).1.want [116, 104, 101, 110])).1.want [101, 108, 115, 101])).1, .mk 28 pos 0 [] [(wr c).2, (wr ((wr c).1.want [116, 104, 101, 110])).2, (wr ((wr ((wr c).1.want [116, 104, 101, 110])).1.want [101, 108, 115, 101])).2])
def xR (wr : Cu -> Cu × Nd) (c : Cu) : Cu × Nd :=
 if c.is [92] = true then mY wr (c.take [92])
 else if c.is [108, 101, 116] = true then kX wr (c.take [108, 101, 116]) c.peek.pos
 else if c.is [99, 97, 115, 101] = true then oM wr (c.take [99, 97, 115, 101]) c.peek.pos
 else if c.is [105, 102] = true then ifR wr (c.take [105, 102]) c.peek.pos
 else oL wr (c.ws.length + 1) (zM wr c).1 (zM wr c).2
def atR : Nat -> Cu -> Cu × Nd
 | 0, c => (c.enter, sH)
 | n + 1, c => ((xR (atR n) c.enter).1.leave, (xR (atR n) c.enter).2)
theorem yC {c : Cu} (h : begins c = true) : c.err = 0 := by
 unfold begins at h;refine Decidable.byContradiction fun k => ?_
 rw [wW k, xT k] at h;simp at h
theorem wH {c : Cu} (h : begins c = true) : c.at' < c.ws.length := by
 unfold begins at h;simp only [Bool.or_eq_true, decide_eq_true_eq] at h;rcases h with h | h | h | h
 ·
  exact uC (by rw [h]; decide)
 ·
  exact uC (by rw [h]; decide)
 ·
  exact uC (by rw [h]; decide)
 ·
  exact (vH h).2
theorem uA (c : Cu) : wO c = begins c := by
 unfold wO;cases h : begins c with
 | true => simp [yC h]
 | false => simp
theorem qR {c : Cu} (h : c.is [40] = true) : begins c = true := by unfold begins; simp [h]
theorem eY (wr : Cu -> Cu × Nd) : St (zM wr) := fun c h => by
 unfold zM;rw [if_neg (fun q => h (yC q)), (vR c 5).stuck h]
theorem lG (wr : Cu -> Cu × Nd) (f : Nat) {c : Cu} (n : Nd) (h : c.err ≠ 0) : oL wr f c n = (c, n) := by
 cases f with
 | zero => rfl
 | succ f => unfold oL; rw [if_neg (fun q => h (yC q))]
theorem qK {c : Cu} (x : Int) (h : c.err ≠ 0) : c.kind x = c := (vC c x).stuck h
theorem bN {c : Cu} (h : c.err ≠ 0) : ¬ uF c = true := by unfold uF; rw [xT h]; simp
theorem pK {r : Cu -> Cu × Nd} {c : Cu} (f : Nat) (l : List Nd) (h : (r c).1.err ≠ 0) : wT r (f + 1) c l = ((r c).1, l ++ [(r c).2]) := by
 show (if _ then _ else _) = _;rw [if_neg (bN h), cY _ h]
theorem iG {r : Cu -> Cu × Nd} (hr : St r) (f : Nat) {c : Cu} (l : List Nd) (h : c.err ≠ 0) : (wT r f c l).1 = c := by
 cases f with
 | zero => rfl
 | succ f =>
  have e := hr c h;rw [pK f l (by rw [e]; exact h)];exact e
theorem dI {r : Cu -> Cu × Nd} (hr : St r) {c : Cu} (l : List Nd) (h : c.err ≠ 0) : (sV r c l).1 = c := by
 unfold sV;rw [xQ _ h];show (wT r _ c l).1.want [125] = c;rw [iG hr _ l h, xQ _ h]
theorem lQ {wr : Cu -> Cu × Nd} (hw : St wr) : St (vO wr) := fun c h => by
 unfold vO;rw [qK 1 h, if_neg (by rw [xT h]; decide), lU h];show (wr (c.want [61])).1 = c;rw [xQ _ h, hw c h]
theorem gT {wr : Cu -> Cu × Nd} (hw : St wr) : St (nH wr) := fun c h => by
 unfold nH;rw [N8.atR_stuck 200 h];show (wr (c.want [45, 62])).1 = c;rw [xQ _ h, hw c h]
theorem lM (wr : Cu -> Cu × Nd) : St (xR wr) := fun c h => by
 unfold xR;rw [if_neg (by rw [xT h]; decide), if_neg (by rw [xT h]; decide), if_neg (by rw [xT h]; decide), if_neg (by rw [xT h]; decide)];have e := eY wr c h;rw [lG wr _ _ (by rw [e]; exact h)];exact e
theorem oX (n : Nat) : St (atR n) := by
 induction n with
 | zero => exact fun c h => tQ h
 | succ n _ =>
  intro c h;show (xR (atR n) c.enter).1.leave = c;rw [tQ h, lM _ c h, yU h]
section
variable {k : Nat} {wh : Cu -> yJ Nd} {wr : Cu -> Cu × Nd}
theorem xU (H : xP k wh wr) : xP (k + 1) (atomP wh) (zM wr) := by
 intro c hk;unfold atomP zM;by_cases h3 : c.is [40] = true
 ·
  rw [if_pos h3, if_pos (qR h3), if_pos h3];exact lP H c hk h3
 ·
  rw [if_neg h3];by_cases hb : begins c = true
  ·
   rw [if_pos hb, if_pos hb, if_neg h3];exact .good (yG c) (by rw [vQ]; exact yC hb)
  ·
   rw [if_neg hb, if_neg hb];exact .fail (vR c 5) (uG c 5)
theorem uM (H : xP k wh wr) (c : Cu) (hk : 200 <= c.nest + (k + 1)) (h : (zM wr c).1.err = 0) : c.at' < (zM wr c).1.at' := by
 unfold zM at h ⊢;by_cases hb : begins c = true
 ·
  rw [if_pos hb] at h ⊢;by_cases h3 : c.is [40] = true
  ·
   rw [if_pos h3] at h ⊢;exact eI H c hk h3 h
  ·
   rw [if_neg h3] at h ⊢;exact AdP (yC hb) (wH hb)
 ·
  rw [if_neg hb] at h;exact absurd h (uG c 5)
theorem rel_app (H : xP k wh wr) (f : Nat) : ∀ (c : Cu) (n : Nd), 200 <= c.nest + (k + 1) -> c.err = 0 -> c.ws.length - c.at' < f -> uO c (qO wh f c n) (oL wr f c n) := by
 induction f with
 | zero => intro c n _ _ h; omega
 | succ f ih =>
  intro c n hk he hf;unfold qO oL;by_cases hb : begins c = true
  ·
   rw [if_pos hb, if_pos hb];have hr := xU H c hk;refine uO.bind hr (fun e => by rw [lG wr f _ e]) fun e hn => ?_
   have h1 := uM H c hk e;have h2 := wH hb;exact ih _ _ (by rw [hn]; exact hk) e (by rw [hr.fine.ws]; omega)
  ·
   rw [if_neg hb, if_neg hb]; exact .good (.refl c) he
theorem AbZ (H : xP k wh wr) (c : Cu) (hk : 200 <= c.nest + (k + 1)) : uO c (sM wh c) (oL wr (c.ws.length + 1) (zM wr c).1 (zM wr c).2) := by
 unfold sM;have hr := xU H c hk;refine uO.bind hr (fun e => by rw [lG wr _ _ e]) fun e hn => ?_
 exact rel_app H _ _ _ (by rw [hn]; exact hk) e (by rw [hr.fine.ws]; omega)
theorem AcN {p : Cu -> yJ Nd} {r : Cu -> Cu × Nd} (H : xP k p r) (f : Nat) : ∀ (c : Cu) (l : List Nd), 200 <= c.nest + k -> (r c).1.err = 0 -> (r c).1.ws.length - (r c).1.at' < f ->
  uO c (zY uF (fun c => c.take [59]) p f (r c).1 (l ++ [(r c).2])) (wT r (f + 1) c l) := by
 induction f with
 | zero => intro c l _ _ h; omega
 | succ f ih =>
  intro c l hk he hf;have hr := H c hk;rw [show wT r (f + 1 + 1) c l = (if uF (r c).1 = true then wT r (f + 1) ((r c).1.take [59]) (l ++ [(r c).2]) else ((r c).1.take [59], l ++ [(r c).2])) from rfl];unfold zY;have ft := zX (r c).1 [59];have et : ((r c).1.take [59]).err = 0 := by rw [uQ]; exact he
  by_cases h : uF (r c).1 = true
  ·
   rw [if_pos h, if_pos h];have hi : (r c).1.is [59] = true := by unfold uF at h; simp only [Bool.and_eq_true] at h; exact h.1
   have hn : 200 <= ((r c).1.take [59]).nest + k := by rw [ft.nest et, hr.fine.nest he]; exact hk
   have h2 := H _ hn;rcases h2.cases with ⟨e1, e2⟩ | ⟨e1, e2⟩
   ·
    rw [e2];dsimp only;have a1 := h2.fine.at';have a2 : (r c).1.at' < ((r c).1.take [59]).at' := by unfold Cu.take; rw [if_pos hi]; exact Nat.lt_succ_self _
    have a3 := (vH hi).2;have := ih ((r c).1.take [59]) (l ++ [(r c).2]) hn e1 (by rw [h2.fine.ws, ft.ws]; omega);exact ⟨this.cur, this.yes, this.no, hr.fine.trans (ft.trans this.fine)⟩
   ·
    rw [e2];dsimp only;rw [pK f _ e1];exact .fail (hr.fine.trans (ft.trans h2.fine)) e1
  ·
   rw [if_neg h, if_neg h];exact .good (hr.fine.trans ft) et
theorem kR {p : Cu -> yJ Nd} {r : Cu -> Cu × Nd} (H : xP k p r) (hst : St r) (c : Cu) (l : List Nd) (hk : 200 <= c.nest + k) : uO c (wS p c l) (sV r c l) := by
 unfold wS sV;refine uO.wantO (fun e => ?_) fun e hn => ?_
 ·
  show (wT r _ (c.want [123]) l).1.want [125] = _;rw [iG hst _ l e, xQ _ e]
 ·
  have fw := zI c [123];have hr := H (c.want [123]) (by rw [hn]; exact hk);rcases hr.cases with ⟨e1, e2⟩ | ⟨e1, e2⟩
  ·
   rw [e2];have hc := AcN H (c.ws.length + 1) (c.want [123]) l (by rw [hn]; exact hk) e1 (by rw [hr.fine.ws, fw.ws]; omega);show uO (c.want [123]) (yH (zY uF (fun c => c.take [59]) p (c.ws.length + 1) (r (c.want [123])).1 (l ++ [(r (c.want [123])).2])) fun g ks => wantO g [125] fun g => (g, some ks)) _;refine uO.bind hc (fun e => xQ _ e) fun e3 _ => ?_
   exact uO.wantO (fun e => rfl) fun e4 _ => .good (.refl _) e4
  ·
   rw [e2];rw [pK (c.ws.length + 1) l e1];show uO _ ((r (c.want [123])).1, none) ((r (c.want [123])).1.want [125], _);rw [xQ _ e1];exact .fail hr.fine e1
theorem bA (H : xP k wh wr) (hst : St wr) (c : Cu) (hk : 200 <= c.nest + k) (hi : c.is [92] = true) : uO c (wU wh c) (mY wr (c.take [92])) := by
 unfold wU mY;rw [rH hi];have h0 := uJ hi;have e0 : c.adv.err = 0 := by rw [vQ]; exact h0
 have fa := yG c;have ep : c.adv.peek = c.adv.tok c.adv.at' := by unfold Cu.peek; rw [if_pos e0]
 by_cases h : c.adv.peek.kind = 1
 ·
  have ok : c.adv.kindOk 1 = true := by unfold Cu.kindOk; rw [<- ep, e0, h]; rfl
  have eT : c.adv.kindT 1 = c.adv.peek := by unfold Cu.kindT; rw [if_pos ⟨e0, by rw [<- ep]; exact h⟩, ep]
  have eK : c.adv.kind 1 = c.adv.adv := by unfold Cu.kind; rw [if_pos e0, if_pos (by rw [<- ep]; exact h)]
  rw [if_pos ok, if_pos h, eT, eK, AbD h];have fz := (fa.trans (yG c.adv)).trans (tM c.adv.adv);have ez : (yX c.adv.adv).1.err = 0 := nO (by rw [vQ]; exact e0);have hz := fz.nest ez;have hr : uO (yX c.adv.adv).1 (wantO (yX c.adv.adv).1 [45, 62] fun d => yH (wh d) fun e n => (e, some (wK (c.adv.peek :: (yX c.adv.adv).2) n))) ((wr ((yX c.adv.adv).1.want [45, 62])).1, wK (c.adv.peek :: (yX c.adv.adv).2) (wr ((yX c.adv.adv).1.want [45, 62])).2) := by
   refine uO.wantO (fun e => hst _ e) fun e hn => ?_
   exact uO.map (wK (c.adv.peek :: (yX c.adv.adv).2)) (H _ (by rw [hn, hz]; exact hk))
  exact ⟨hr.cur, hr.yes, hr.no, fz.trans hr.fine⟩
 ·
  have ok : ¬ c.adv.kindOk 1 = true := fun q => h (by unfold Cu.kindOk at q; simp only [Bool.and_eq_true, decide_eq_true_eq] at q; rw [ep]; exact q.2)
  have eK : c.adv.kind 1 = c.adv.fail 5 := by unfold Cu.kind; rw [if_pos e0, if_neg (by rw [<- ep]; exact h)]
  rw [if_neg ok, if_neg h, eK];exact .fail (fa.trans (vR _ 5)) (uG _ 5)
theorem oK (H : xP k wh wr) (hst : St wr) : xP k (vA wh) (vO wr) := by
 intro c hk;unfold vA vO;have fk := vC c 1;by_cases h : c.kindOk 1 = true
 ·
  rw [if_pos h];have h0 := qT.1 h;have hn := fk.nest h0;by_cases h2 : (c.kind 1).is [58, 58] = true
  ·
   rw [if_pos h2, if_pos h2];have ft := zX (c.kind 1) [58, 58];have hr := AaS (N7.pair_whole 200) (fun d hd => by rw [N7.atR_stuck 200 hd]) ((c.kind 1).take [58, 58]) (by omega);have hm := uO.map (fun n => Nd.mk 32 (c.kindT 1).pos 0 (c.kindT 1).text [n]) hr;exact ⟨hm.cur, hm.yes, hm.no, fk.trans (ft.trans hm.fine)⟩
  ·
   rw [if_neg h2, if_neg h2, xL h2];have fv := tM (c.kind 1);have ev := nO h0;have hr : uO (yX (c.kind 1)).1 (wantO (yX (c.kind 1)).1 [61] fun d => yH (wh d) fun e n => (e, some (Nd.mk 31 (c.kindT 1).pos 0 (c.kindT 1).text [wK (yX (c.kind 1)).2 n]))) ((wr ((yX (c.kind 1)).1.want [61])).1, .mk 31 (c.kindT 1).pos 0 (c.kindT 1).text [wK (yX (c.kind 1)).2 (wr ((yX (c.kind 1)).1.want [61])).2]) := by
    refine uO.wantO (fun e => hst _ e) fun e he => ?_
    exact uO.map (fun n => Nd.mk 31 (c.kindT 1).pos 0 (c.kindT 1).text [wK (yX (c.kind 1)).2 n]) (H _ (by rw [he, fv.nest ev, hn]; exact hk))
   exact ⟨hr.cur, hr.yes, hr.no, fk.trans (fv.trans hr.fine)⟩
 ·
  rw [if_neg h];have h0 : (c.kind 1).err ≠ 0 := fun q => h (qT.2 q)
  rw [if_neg (by rw [xT h0]; decide), lU h0];show uO c (c.kind 1, none) ((wr ((c.kind 1).want [61])).1, _);rw [xQ _ h0, hst _ h0];exact .fail fk h0
theorem fW (H : xP k wh wr) (hst : St wr) : xP k (qE wh) (nH wr) := by
 intro c hk;unfold qE nH;have hp := N8.pair_whole 200 c (by omega);refine uO.bind hp (fun e => ?_) fun e hn => ?_
 ·
  show (wr ((N8.atR 200 c).1.want [45, 62])).1 = _;rw [xQ _ e, hst _ e]
 ·
  refine uO.wantO (fun e => hst _ e) fun e2 hn2 => ?_
  exact uO.map (fun n => Nd.mk 15 (N8.atR 200 c).2.pos 0 [] [(N8.atR 200 c).2, n]) (H _ (by rw [hn2, hn]; exact hk))
theorem rel_let (H : xP k wh wr) (hst : St wr) (c : Cu) (hk : 200 <= c.nest + k) (h0 : c.err = 0) (pos : Int) (hpos : pos = c.peek.pos) : uO c (pG wh c) (kX wr c.adv pos) := by
 subst hpos;unfold pG kX;have fa := yG c;have e0 : c.adv.err = 0 := by rw [vQ]; exact h0
 have hn0 := fa.nest e0;have hr := kR (oK H hst) (lQ hst) c.adv [] (by rw [hn0]; exact hk);have hz : uO c.adv (yH (wS (vA wh) c.adv []) fun d ks => wantO d [105, 110] fun d => yH (wh d) fun e n => (e, some (Nd.mk 26 c.peek.pos 0 [] (ks ++ [n])))) ((wr ((sV (vO wr) c.adv []).1.want [105, 110])).1, .mk 26 c.peek.pos 0 [] ((sV (vO wr) c.adv []).2 ++ [(wr ((sV (vO wr) c.adv []).1.want [105, 110])).2])) := by
  refine uO.bind hr (fun e => ?_) fun e hn => ?_
  ·
   show (wr (_)).1 = _;rw [xQ _ e, hst _ e]
  ·
   refine uO.wantO (fun e => hst _ e) fun e2 hn2 => ?_
   exact uO.map (fun n => Nd.mk 26 c.peek.pos 0 [] ((sV (vO wr) c.adv []).2 ++ [n])) (H _ (by rw [hn2, hn, hn0]; exact hk))
 exact ⟨hz.cur, hz.yes, hz.no, fa.trans hz.fine⟩
theorem AdU (H : xP k wh wr) (hst : St wr) (c : Cu) (hk : 200 <= c.nest + k) (h0 : c.err = 0) (pos : Int) (hpos : pos = c.peek.pos) : uO c (sC wh c) (oM wr c.adv pos) := by
 subst hpos;unfold sC oM;have fa := yG c;have e0 : c.adv.err = 0 := by rw [vQ]; exact h0
 have hn0 := fa.nest e0;have hr := H c.adv (by rw [hn0]; exact hk);have hz : uO c.adv (yH (wh c.adv) fun d n => wantO d [111, 102] fun d => yH (wS (qE wh) d [n]) fun e ks => (e, some (Nd.mk 27 c.peek.pos 0 [] ks))) ((sV (nH wr) ((wr c.adv).1.want [111, 102]) [(wr c.adv).2]).1, .mk 27 c.peek.pos 0 [] (sV (nH wr) ((wr c.adv).1.want [111, 102]) [(wr c.adv).2]).2) := by
  refine uO.bind hr (fun e => ?_) fun e hn => ?_
  ·
   show (sV _ ((wr c.adv).1.want [111, 102]) _).1 = _;rw [xQ _ e, dI (gT hst) _ e]
  ·
   refine uO.wantO (fun e => dI (gT hst) _ e) fun e2 hn2 => ?_
   exact uO.map (fun ks => Nd.mk 27 c.peek.pos 0 [] ks) (kR (fW H hst) (gT hst) _ _ (by rw [hn2, hn, hn0]; exact hk))
 exact ⟨hz.cur, hz.yes, hz.no, fa.trans hz.fine⟩
theorem rel_if (H : xP k wh wr) (hst : St wr) (c : Cu) (hk : 200 <= c.nest + k) (hi : c.is [105, 102] = true) (pos : Int) (hpos : pos = c.peek.pos) : uO c (mV wh c) (ifR wr (c.take [105, 102]) pos) := by
 subst hpos;unfold mV ifR;rw [<- AbO hi];have hs3 : ∀ d : Cu, d.err ≠ 0 -> (wr d).1 = d := hst;refine uO.wantO (fun e => ?_) fun e hn => ?_
 ·
  exact absurd (yS.2 hi) e
 ·
  refine uO.bind (H _ (by rw [hn]; exact hk)) (fun e => ?_) fun e2 hn2 => ?_
  ·
   show (wr ((wr ((wr (c.want [105, 102])).1.want _)).1.want _)).1 = _;rw [xQ _ e, hst _ e, xQ _ e, hst _ e]
  ·
   refine uO.wantO (fun e => ?_) fun e3 hn3 => ?_
   ·
    show (wr ((wr _).1.want _)).1 = _;rw [hst _ e, xQ _ e, hst _ e]
   ·
    refine uO.bind (H _ (by rw [hn3, hn2, hn]; exact hk)) (fun e => ?_) fun e4 hn4 => ?_
    ·
     show (wr (_)).1 = _;rw [xQ _ e, hst _ e]
    ·
     refine uO.wantO (fun e => hst _ e) fun e5 hn5 => ?_
     exact uO.map (fun z => Nd.mk 28 c.peek.pos 0 [] [(wr (c.want [105, 102])).2, (wr ((wr (c.want [105, 102])).1.want [116, 104, 101, 110])).2, z]) (H _ (by rw [hn5, hn4, hn3, hn2, hn]; exact hk))
theorem gX (H : xP k wh wr) (hst : St wr) : xP k (qS wh) (xR wr) := by
 intro c hk;unfold qS xR;by_cases h1 : c.is [92] = true
 ·
  rw [if_pos h1, if_pos h1]; exact bA H hst c hk h1
 rw [if_neg h1, if_neg h1];by_cases h2 : c.is [108, 101, 116] = true
 ·
  rw [if_pos h2, if_pos h2, rH h2]; exact rel_let H hst c hk (uJ h2) _ rfl
 rw [if_neg h2, if_neg h2];by_cases h3 : c.is [99, 97, 115, 101] = true
 ·
  rw [if_pos h3, if_pos h3, rH h3]; exact AdU H hst c hk (uJ h3) _ rfl
 rw [if_neg h3, if_neg h3];by_cases h4 : c.is [105, 102] = true
 ·
  rw [if_pos h4, if_pos h4]; exact rel_if H hst c hk h4 _ rfl
 rw [if_neg h4, if_neg h4];exact AbZ H c (by omega)
end
theorem pair_whole : ∀ n, xP n (wholeP n) (atR n)
 | 0 => fun c hk => by
  have h4 : ¬ c.enters = true := fun q => by have := (yF.1 q).2; omega
  obtain ⟨h5, h6⟩ := xK h4;exact .fail h6 h5
 | n + 1 => fun c hk => iJ (gX (pair_whole n) (oX n)) (lM (atR n)) c (by omega)
end Go.Proofs.YtdjomhbmhooceaaGreat.N9
namespace Go.Proofs.YtdjomhbmhooceaaGreat.N8
open Go.RowKit N5 N6 N7
theorem nV (t : Tk) : (leaf t).size = 1 := by
 unfold leaf;split
 ·
  rfl
 ·
  split
  ·
   rfl
  ·
   split <;> rfl
theorem pT {c : Cu} (h : begins c = true) : c.adv.at' = c.at' + 1 := by
 unfold Cu.adv;rw [if_pos ⟨yC h, wH h⟩]
section
variable {wh : Cu -> yJ Nd}
theorem uE (H : sA wh) : sA (atomP wh) := by
 intro c d t e;unfold atomP at e;split at e
 ·
  refine sX (fun d t e => ?_) e;unfold xV at e;split at e
  ·
   rename_i hi;cases hr : wh (c.enter.want [40]) with
   | mk a o =>
    rw [hr] at e;cases o with
    | none => cases e
    | some n =>
     have := H _ _ _ hr;rw [wZ hi, qB] at this;dsimp only at e;split at e
     ·
      rename_i hj;injection e with e1 e2; injection e2 with e2
      rw [<- e1, <- e2, wZ hj]; omega
     ·
      cases e
  ·
   cases e
 ·
  split at e
  ·
   rename_i h;injection e with e1 e2; injection e2 with e2
   rw [<- e1, <- e2, nV, pT h]; omega
  ·
   cases e
theorem mB (H : sA wh) : sA (vY wh) := by
 intro c d t e;unfold vY at e;split at e
 ·
  rename_i h;cases hm : zY begins id (atomP wh) (c.ws.length + 1) c.adv [] with
  | mk a o =>
   rw [hm] at e;cases o with
   | none => cases e
   | some ks =>
    have := nA (uE H) (fun c => Nat.le_refl _) _ _ _ _ _ hm;rw [mF (by rw [h]; decide)] at this;injection e with e1 e2; injection e2 with e2
    rw [<- e1, <- e2, Nd.size_eq];show Nd.sizes ks + 1 + _ <= _;have : Nd.sizes ([] : List Nd) = 0 := rfl;omega
 ·
  exact uE H _ _ _ e
end
theorem whole_sized : ∀ n, sA (wholeP n)
 | 0 => fun c d t e => by cases e
 | n + 1 => fun c d t e => sX (fun d t e => by have := mB (whole_sized n) _ _ _ e; rw [qB] at this; exact this) e
theorem whole_ok {c : Cu} (h0 : c.nest = 0) (h : (wholeP 200 c).1.err = 0) : ∃ t, (wholeP 200 c).2 = some t := by
 have hr := pair_whole 200 c (by omega);rcases hr.cases with ⟨e1, e2⟩ | ⟨e1, e2⟩
 ·
  exact ⟨_, by rw [e2]⟩
 ·
  rw [e2] at h; exact absurd h e1
theorem fine_at (m : Nat) (c : Cu) (h : 200 <= c.nest + m \/ c.err ≠ 0) : zZ c (atR m c).1 := by
 by_cases he : c.err = 0
 ·
  exact (pair_whole m c (h.resolve_right fun q => q he)).fine
 ·
  rw [atR_stuck m he]; exact .refl c
theorem qD (m : Nat) (c : Cu) (h : 200 <= c.nest + (m + 1) \/ c.err ≠ 0) : zZ c (zM (atR m) c).1 := by
 by_cases he : c.err = 0
 ·
  exact (xU (pair_whole m) c (h.resolve_right fun q => q he)).fine
 ·
  rw [tP he]; exact .refl c
end Go.Proofs.YtdjomhbmhooceaaGreat.N8
