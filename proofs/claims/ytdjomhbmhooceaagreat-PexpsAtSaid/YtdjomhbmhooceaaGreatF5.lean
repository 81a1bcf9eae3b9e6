import Derived.Test.YtdjomhbmhooceaaGreatF3
import Derived.Test.YtdjomhbmhooceaaGreatF4
set_option linter.unusedVariables false
set_option linter.unusedSimpArgs false
namespace Go.Proofs.YtdjomhbmhooceaaGreat.N7
open Go.RowKit N5 N6
def tZ : Nd := .mk 0 0 0 [] []
abbrev yM (α : Type) := Cu × Option α
def deeper {α : Type} (rd : Cu -> yM α) (c : Cu) : yM α :=
 if c.enters = true then (match rd c.enter with
  | (d, none) => (d, none)
  | (d, some n) => (d.leave, some n)) else (c.enter, none)
def wA {α : Type} (wh : Cu -> yM α) (c : Cu) : yM α :=
 if c.is [40] = true then (match wh (c.want [40]) with
  | (d, none) => (d, none)
  | (d, some n) => if d.is [41] = true then (d.want [41], some n) else (d.want [41], none)) else (c.want [40], none)
def zV (wh : Cu -> yM Nd) (c : Cu) : yM Nd :=
 if c.peek.kind = 1 then (c.adv, some (.mk 1 c.peek.pos 0 c.peek.text []))
 else if c.peek.kind = 2 then (c.adv, some (.mk 2 c.peek.pos 0 c.peek.text []))
 else if c.is [40] = true then deeper (wA wh) c
 else (c.fail 5, none)
def zI (c : Cu) : Bool := decide (c.peek.kind = 1) || (decide (c.peek.kind = 2) || c.is [40])
def yA (go : Cu -> Bool) (nx : Cu -> Cu) (rd : Cu -> yM Nd) : Nat -> Cu -> List Nd -> yM (List Nd)
 | 0, c, _ => (c, none)
 | f + 1, c, l => if go c = true then (match rd (nx c) with
   | (d, none) => (d, none)
   | (d, some n) => yA go nx rd f d (l ++ [n])) else (nx c, some l)
def vY (wh : Cu -> yM Nd) (c : Cu) : yM Nd :=
 if c.peek.kind = 2 then (match yA zI id (zV wh) (c.ws.length + 1) c.adv [] with
  | (d, none) => (d, none)
  | (d, some ks) => (d, some (.mk 2 c.peek.pos 0 c.peek.text ks))) else zV wh c
def uM (wh : Cu -> yM Nd) (c : Cu) : yM Nd :=
 match vY wh c with
 | (d, none) => (d, none)
 | (d, some n) => if d.is [45, 62] = true then (match wh (d.take [45, 62]) with
   | (e, none) => (e, none)
   | (e, some m) => (e, some (.mk 2 n.pos 0 [45, 62] [n, m]))) else (d.take [45, 62], some n)
def wholeP : Nat -> Cu -> yM Nd
 | 0, c => (c.enter, none)
 | n + 1, c => deeper (uM (wholeP n)) c
def xK (wh : Cu -> yM Nd) (c : Cu) : yM Nd :=
 if c.kindOk 2 = true then (match zV wh (c.kind 2) with
  | (d, none) => (d, none)
  | (d, some n) => (d, some (.mk 3 (c.kindT 2).pos 0 (c.kindT 2).text [n]))) else (c.kind 2, none)
def xT (wh : Cu -> yM Nd) (c : Cu) : yM (List Nd) :=
 if c.is [40] = true then
  (if (c.take [40]).is [41] = true then ((c.take [40]).take [41], some [])
   else match xK wh ((c.take [40]).take [41]) with
   | (d, none) => (d, none)
   | (d, some n) => match yA (fun c => c.is [44]) (fun c => c.take [44]) (xK wh) (c.ws.length + 1) d [] with
    | (e, none) => (e, none)
    | (e, some ks) => if e.is [41] = true then (e.want [41], some (n :: ks)) else (e.want [41], none))
 else match xK wh (c.take [40]) with
  | (d, none) => (d, none)
  | (d, some n) => (d, some [n])
def yQ (wh : Cu -> yM Nd) (c : Cu) : yM (List Nd) :=
 if c.ahead [61, 62] = true then (match xT wh c with
  | (d, none) => (d, none)
  | (d, some l) => if d.is [61, 62] = true then (d.want [61, 62], some l) else (d.want [61, 62], none))
 else (c, if c.err = 0 then some [] else none)
def tA (wh : Cu -> yM Nd) (c : Cu) : yM Nd :=
 match yQ wh c with
 | (d, none) => (d, none)
 | (d, some l) => match wh d with
  | (e, none) => (e, none)
  | (e, some n) => (e, some (.mk 4 c.peek.pos 0 [] (l ++ [n])))
def zO (at' : Cu -> Cu × Nd) (c : Cu) : Cu × Nd :=
 if c.err ≠ 0 then (c, tZ)
 else if c.peek.kind = 1 then (c.adv, .mk 1 c.peek.pos 0 c.peek.text [])
 else if c.peek.kind = 2 then (c.adv, .mk 2 c.peek.pos 0 c.peek.text [])
 else if c.is [40] = true then (((at' (c.enter.want [40])).1.want [41]).leave, (at' (c.enter.want [40])).2)
 else (c.fail 5, tZ)
def wI (c : Cu) : Bool := decide (c.err = 0) && zI c
def sX (rd : Cu -> Cu × Nd) : Nat -> Cu -> List Nd -> Cu × List Nd
 | 0, c, l => (c, l)
 | f + 1, c, l => if wI c = true then sX rd f (rd c).1 (l ++ [(rd c).2]) else (c, l)
def xV (at' : Cu -> Cu × Nd) (c : Cu) : Cu × Nd :=
 if c.peek.kind = 2 then ((sX (zO at') (c.ws.length + 1) c.adv []).1, .mk 2 c.peek.pos 0 c.peek.text (sX (zO at') (c.ws.length + 1) c.adv []).2) else zO at' c
def atR : Nat -> Cu -> Cu × Nd
 | 0, c => (c.enter, tZ)
 | n + 1, c =>
  if (xV (atR n) c.enter).1.is [45, 62] = true then ((atR n ((xV (atR n) c.enter).1.take [45, 62])).1.leave, .mk 2 (xV (atR n) c.enter).2.pos 0 [45, 62] [(xV (atR n) c.enter).2, (atR n ((xV (atR n) c.enter).1.take [45, 62])).2])
  else ((xV (atR n) c.enter).1.leave, (xV (atR n) c.enter).2)
def xX (at' : Cu -> Cu × Nd) (c : Cu) : Cu × Nd := ((zO at' (c.kind 2)).1, .mk 3 (c.kindT 2).pos 0 (c.kindT 2).text [(zO at' (c.kind 2)).2])
def wV (rd : Cu -> Cu × Nd) : Nat -> Cu -> List Nd -> Cu × List Nd
 | 0, c, l => (c, l)
 | f + 1, c, l => if (rd c).1.is [44] = true then wV rd f ((rd c).1.take [44]) (l ++ [(rd c).2]) else ((rd c).1, l ++ [(rd c).2])
def uT (at' : Cu -> Cu × Nd) (c : Cu) : Cu × List Nd :=
 if c.is [40] = true then
  (if (c.take [40]).is [41] = true then ((c.take [40]).want [41], [])
   else ((wV (xX at') (c.ws.length + 2) (c.take [40]) []).1.want [41], (wV (xX at') (c.ws.length + 2) (c.take [40]) []).2))
 else ((xX at' c).1, [(xX at' c).2])
def xG (at' : Cu -> Cu × Nd) (c : Cu) : Cu × List Nd :=
 if c.ahead [61, 62] = true then ((uT at' c).1.want [61, 62], (uT at' c).2) else (c, [])
def rX (at' : Cu -> Cu × Nd) (c : Cu) : Cu × Nd := ((at' (xG at' c).1).1, .mk 4 c.peek.pos 0 [] ((xG at' c).2 ++ [(at' (xG at' c).1).2]))
def Posd (c : Cu) : Prop := c.err ≠ 0 -> ∃ k, c.pos = (c.tok k).pos
structure zY (c d : Cu) : Prop where
 ws : d.ws = c.ws
 ep : d.ep = c.ep
 at' : c.at' <= d.at'
 err : d.err = 0 -> c.err = 0
 nest : d.err = 0 -> d.nest = c.nest
 stuck : c.err ≠ 0 -> d = c
 ok : yZ c -> yZ d
 posd : Posd c -> Posd d
theorem zY.refl (c : Cu) : zY c c := ⟨rfl, rfl, Nat.le_refl _, id, fun _ => rfl, fun _ => rfl, id, id⟩
theorem zY.trans {c d e : Cu} (h : zY c d) (g : zY d e) : zY c e :=
 ⟨g.ws.trans h.ws, g.ep.trans h.ep, Nat.le_trans h.at' g.at', fun k => h.err (g.err k), fun k => (g.nest k).trans (h.nest (g.err k)), fun k => by
  have e1 := h.stuck k;have e2 := g.stuck (by rw [e1]; exact k);rw [e2, e1], fun k => g.ok (h.ok k), fun k => g.posd (h.posd k)⟩
theorem xH (c : Cu) : zY c c.adv := by
 unfold Cu.adv;split
 ·
  rename_i h;exact ⟨rfl, rfl, Nat.le_succ _, fun _ => h.1, fun _ => rfl, fun k => absurd h.1 k, fun k => ⟨h.2, k.few, k.kinds, k.deep⟩, fun _ k => absurd h.1 k⟩
 ·
  exact .refl c
theorem vR (c : Cu) (x : Int) : (c.fail x).err ≠ 0 := by
 unfold Cu.fail;split
 ·
  show (if x = 0 then (1 : Int) else x) ≠ 0;split
  ·
   decide
  ·
   assumption
 ·
  assumption
theorem vG (c : Cu) (x : Int) : zY c (c.fail x) := by
 refine ⟨?_, ?_, ?_, fun k => absurd k (vR c x), fun k => absurd k (vR c x), fun k => ?_, fun k => ?_, fun k => ?_⟩ <;> unfold Cu.fail
 ·
  split <;> rfl
 ·
  split <;> rfl
 ·
  split <;> exact Nat.le_refl _
 ·
  rw [if_neg k]
 ·
  split
  ·
   exact ⟨k.le, k.few, k.kinds, k.deep⟩
  ·
   exact k
 ·
  split
  ·
   exact fun _ => ⟨c.at', rfl⟩
  ·
   exact k
theorem yD (c : Cu) (x : List UInt8) : zY c (c.take x) := by
 unfold Cu.take;split
 ·
  rename_i h;obtain ⟨h1, h2⟩ := wU h;exact ⟨rfl, rfl, Nat.le_succ _, fun _ => h1, fun _ => rfl, fun k => absurd h1 k, fun k => ⟨h2, k.few, k.kinds, k.deep⟩, fun _ k => absurd h1 k⟩
 ·
  exact .refl c
theorem zL (c : Cu) (x : List UInt8) : zY c (c.want x) := by
 unfold Cu.want;split
 ·
  exact yD c x
 ·
  exact vG c 5
theorem uI (c : Cu) (k : Int) : zY c (c.kind k) := by
 unfold Cu.kind;split
 ·
  split
  ·
   exact xH c
  ·
   exact vG c 5
 ·
  exact .refl c
theorem yN {c : Cu} {x : List UInt8} : (c.want x).err = 0 ↔ c.is x = true := by
 unfold Cu.want;by_cases h : c.is x = true
 ·
  rw [if_pos h];have h1 := (wU h).1;unfold Cu.take;rw [if_pos h];exact ⟨fun _ => h, fun _ => h1⟩
 ·
  rw [if_neg h];exact ⟨fun k => absurd k (vR c 5), fun k => absurd k h⟩
theorem xL {c : Cu} {x : List UInt8} (h : ¬ c.is x = true) : c.take x = c := by unfold Cu.take; rw [if_neg h]
theorem vT {c : Cu} {x : List UInt8} (h : c.is x = true) : c.err = 0 := (wU h).1
theorem xM {c : Cu} {x : List UInt8} (h : c.err ≠ 0) : c.is x = false := by unfold Cu.is; simp [h]
theorem uE {c : Cu} {x : List UInt8} : (c.take x).err = c.err := by unfold Cu.take; split <;> rfl
theorem wM {c : Cu} (h : c.err ≠ 0) : c.peek.kind = 0 := by unfold Cu.peek; rw [if_neg h]; rfl
theorem vZ {c : Cu} (h : c.peek.kind ≠ 0) : c.err = 0 := Decidable.byContradiction fun k => h (wM k)
theorem uJ {c : Cu} (h : c.peek.kind ≠ 0) : c.at' < c.ws.length := by
 unfold Cu.peek at h;rw [if_pos (vZ h)] at h;unfold Cu.tok at h;refine Decidable.byContradiction fun k => h ?_
 rw [List.getD_eq_getElem?_getD, List.getElem?_eq_none (by omega)];rfl
theorem vE (c : Cu) : c.adv.err = c.err := by unfold Cu.adv; split <;> rfl
theorem yC {c : Cu} (h : zI c = true) : c.err = 0 := by
 unfold zI at h;refine Decidable.byContradiction fun k => ?_
 rw [wM k, xM k] at h;simp at h
theorem wB {c : Cu} (h : zI c = true) : c.at' < c.ws.length := by
 unfold zI at h;simp only [Bool.or_eq_true, decide_eq_true_eq] at h;rcases h with h | h | h
 ·
  exact uJ (by rw [h]; decide)
 ·
  exact uJ (by rw [h]; decide)
 ·
  exact (wU h).2
theorem vP (c : Cu) : wI c = zI c := by
 unfold wI;cases h : zI c with
 | true => simp [yC h]
 | false => simp
theorem yF {c : Cu} : c.enters = true ↔ c.err = 0 /\ c.nest < 200 := by unfold Cu.enters; simp
theorem yR {c : Cu} (h : c.enters = true) : c.enter = { c with nest := c.nest + 1 } := by
 obtain ⟨h1, h2⟩ := yF.1 h;unfold Cu.enter;rw [if_pos h1, if_neg (by omega)]
theorem xC {c : Cu} (h : ¬ c.enters = true) : c.enter.err ≠ 0 /\ zY c c.enter := by
 unfold Cu.enter;by_cases h1 : c.err = 0
 ·
  have h2 : 200 <= c.nest := Decidable.byContradiction fun k => h (yF.2 ⟨h1, by omega⟩)
  rw [if_pos h1, if_pos h2];exact ⟨vR c 2, vG c 2⟩
 ·
  rw [if_neg h1];exact ⟨h1, .refl c⟩
theorem sW {c d : Cu} (h : c.enters = true) (g : zY c.enter d) : zY c d.leave := by
 obtain ⟨h1, h2⟩ := yF.1 h;rw [yR h] at g;unfold Cu.leave;split
 ·
  rename_i h3;refine ⟨g.ws, g.ep, g.at', fun _ => h1, fun _ => ?_, fun k => absurd h1 k, fun k => ?_, fun _ k => absurd h3 k⟩
  ·
   have := g.nest h3;show d.nest - 1 = c.nest;rw [this]; rfl
  ·
   have := g.ok ⟨k.le, k.few, k.kinds, by show c.nest + 1 <= 200; omega⟩;exact ⟨this.le, this.few, this.kinds, by have := this.deep; show d.nest - 1 <= 200; omega⟩
 ·
  rename_i h3;exact ⟨g.ws, g.ep, g.at', fun _ => h1, fun k => absurd k h3, fun k => absurd h1 k, fun k => g.ok ⟨k.le, k.few, k.kinds, by show c.nest + 1 <= 200; omega⟩, fun _ => g.posd fun k => absurd h1 k⟩
theorem sL (c : Cu) : c.leave.err = c.err := by unfold Cu.leave; split <;> rfl
theorem yO {c : Cu} (h : c.err ≠ 0) : c.leave = c := by unfold Cu.leave; rw [if_neg h]
theorem tF {c : Cu} (h : c.err ≠ 0) : c.enter = c := by unfold Cu.enter; rw [if_neg h]
structure uG {α : Type} (c : Cu) (o : yM α) (r : Cu × α) : Prop where
 cur : o.1 = r.1
 yes : r.1.err = 0 -> o.2 = some r.2
 no : r.1.err ≠ 0 -> o.2 = none
 fine : zY c r.1
theorem uG.fail {α : Type} {c d : Cu} {x : α} (h : zY c d) (he : d.err ≠ 0) : uG c (d, none) (d, x) := ⟨rfl, fun k => absurd k he, fun _ => rfl, h⟩
theorem uG.good {α : Type} {c d : Cu} {x : α} (h : zY c d) (he : d.err = 0) : uG c (d, some x) (d, x) := ⟨rfl, fun _ => rfl, fun k => absurd he k, h⟩
def xI {α : Type} (k : Nat) (p : Cu -> yM α) (r : Cu -> Cu × α) : Prop := ∀ c, 200 <= c.nest + k -> uG c (p c) (r c)
theorem uG.cases {α : Type} {c : Cu} {o : yM α} {r : Cu × α} (h : uG c o r) : (r.1.err = 0 /\ o = (r.1, some r.2)) \/ (r.1.err ≠ 0 /\ o = (r.1, none)) := by
 obtain ⟨o1, o2⟩ := o;have e := h.cur;dsimp only at e;by_cases k : r.1.err = 0
 ·
  have := h.yes k; dsimp only at this; exact .inl ⟨k, by rw [e, this]⟩
 ·
  have := h.no k; dsimp only at this; exact .inr ⟨k, by rw [e, this]⟩
section
variable {k : Nat} {wh : Cu -> yM Nd} {wr : Cu -> Cu × Nd}
theorem xN (H : xI k wh wr) : xI (k + 1) (zV wh) (zO wr) := by
 intro c hk;unfold zV zO;by_cases h0 : c.err = 0
 ·
  rw [if_neg (show ¬ (c.err ≠ 0) from fun q => q h0)];by_cases h1 : c.peek.kind = 1
  ·
   rw [if_pos h1, if_pos h1]; exact .good (xH c) (by rw [vE]; exact h0)
  ·
   rw [if_neg h1, if_neg h1];by_cases h2 : c.peek.kind = 2
   ·
    rw [if_pos h2, if_pos h2]; exact .good (xH c) (by rw [vE]; exact h0)
   ·
    rw [if_neg h2, if_neg h2];by_cases h3 : c.is [40] = true
    ·
     rw [if_pos h3, if_pos h3];unfold deeper;by_cases h4 : c.enters = true
     ·
      rw [if_pos h4];have h5 : c.enter.is [40] = true := by rw [yR h4]; exact h3
      have h6 := (yN (c := c.enter)).2 h5;have fw := zL c.enter [40];have hn : 200 <= (c.enter.want [40]).nest + k := by rw [fw.nest h6, yR h4]; show 200 <= c.nest + 1 + k; omega
      have hr := H (c.enter.want [40]) hn;have fz : zY c (((wr (c.enter.want [40])).1.want [41]).leave) := sW h4 (fw.trans (hr.fine.trans (zL _ _)));unfold wA;rw [if_pos h5];rcases hr.cases with ⟨e1, e2⟩ | ⟨e1, e2⟩
      ·
       rw [e2];dsimp only;by_cases h7 : (wr (c.enter.want [40])).1.is [41] = true
       ·
        rw [if_pos h7];exact .good fz (by rw [sL]; exact yN.2 h7)
       ·
        rw [if_neg h7];have h8 : ((wr (c.enter.want [40])).1.want [41]).err ≠ 0 := fun q => h7 (yN.1 q)
        rw [yO h8] at fz ⊢;exact .fail fz h8
      ·
       rw [e2];have h8 : (wr (c.enter.want [40])).1.want [41] = (wr (c.enter.want [40])).1 := (zL _ _).stuck e1;rw [h8, yO e1] at fz ⊢;exact .fail fz e1
     ·
      rw [if_neg h4];obtain ⟨h5, h6⟩ := xC h4;have e1 : c.enter.want [40] = c.enter := (zL _ _).stuck h5;rw [e1];have hr : (wr c.enter).1 = c.enter := by
       by_cases hn : 200 <= c.enter.nest + k
       ·
        exact (H c.enter hn).fine.stuck h5
       ·
        exfalso;have : c.enter.nest = c.nest := by
         unfold Cu.enter;rw [if_pos h0];have h2 : 200 <= c.nest := Decidable.byContradiction fun q => h4 (yF.2 ⟨h0, by omega⟩)
         rw [if_pos h2]; unfold Cu.fail; rw [if_pos h0]
        have h2 : 200 <= c.nest := Decidable.byContradiction fun q => h4 (yF.2 ⟨h0, by omega⟩)
        omega
      rw [hr, (zL c.enter [41]).stuck h5, yO h5];exact .fail h6 h5
    ·
     rw [if_neg h3, if_neg h3]; exact .fail (vG c 5) (vR c 5)
 ·
  rw [if_pos (show c.err ≠ 0 from h0), if_neg (show ¬ c.peek.kind = 1 by rw [wM h0]; decide), if_neg (show ¬ c.peek.kind = 2 by rw [wM h0]; decide), if_neg (show ¬ c.is [40] = true by rw [xM h0]; decide), (vG c 5).stuck h0];exact .fail (.refl c) h0
theorem aI {p : Cu -> yM Nd} {r : Cu -> Cu × Nd} (H : xI k p r) (f : Nat) : ∀ (c : Cu) (l : List Nd), 200 <= c.nest + k -> c.err = 0 -> c.ws.length - c.at' < f -> (∀ c, zI c = true -> 200 <= c.nest + k -> (r c).1.err = 0 -> c.at' < (r c).1.at') ->
  uG c (yA zI id p f c l) (sX r f c l) := by
 induction f with
 | zero => intro c l _ _ h _; omega
 | succ f ih =>
  intro c l hk he hf hp;unfold yA sX;rw [vP];by_cases hb : zI c = true
  ·
   rw [if_pos hb, if_pos hb];have hr := H c hk;rcases hr.cases with ⟨e1, e2⟩ | ⟨e1, e2⟩
   ·
    rw [id, e2];dsimp only;have h1 := hp c hb hk e1;have h2 := wB hb;have := ih (r c).1 (l ++ [(r c).2]) (by rw [hr.fine.nest e1]; exact hk) e1 (by rw [hr.fine.ws]; omega) hp;exact ⟨this.cur, this.yes, this.no, hr.fine.trans this.fine⟩
   ·
    rw [id, e2];dsimp only;have : sX r f (r c).1 (l ++ [(r c).2]) = ((r c).1, l ++ [(r c).2]) := by
     cases f with
     | zero => rfl
     | succ f =>
      unfold sX;rw [vP, if_neg (fun q => e1 (yC q))]
    rw [this];exact .fail hr.fine e1
  ·
   rw [if_neg hb, if_neg hb]; exact .good (.refl c) he
theorem vV (H : xI k wh wr) (c : Cu) (hk : 200 <= c.nest + (k + 1)) (h : (zO wr c).1.err = 0) : c.at' < (zO wr c).1.at' := by
 have hr := xN H c hk;have h0 := hr.fine.err h;unfold zO at h ⊢;rw [if_neg (show ¬ (c.err ≠ 0) from fun q => q h0)] at h ⊢;by_cases h1 : c.peek.kind = 1
 ·
  rw [if_pos h1] at h ⊢;show c.at' < c.adv.at';unfold Cu.adv; rw [if_pos ⟨h0, uJ (by rw [h1]; decide)⟩]; exact Nat.lt_succ_self _
 ·
  rw [if_neg h1] at h ⊢;by_cases h2 : c.peek.kind = 2
  ·
   rw [if_pos h2] at h ⊢;show c.at' < c.adv.at';unfold Cu.adv; rw [if_pos ⟨h0, uJ (by rw [h2]; decide)⟩]; exact Nat.lt_succ_self _
  ·
   rw [if_neg h2] at h ⊢;by_cases h3 : c.is [40] = true
   ·
    rw [if_pos h3] at h ⊢;dsimp only at h ⊢;have h8 : ((wr (c.enter.want [40])).1.want [41]).err = 0 := by rw [sL] at h; exact h
    have h7 := (zL _ _).err h8;by_cases h4 : c.enters = true
    ·
     have h5 : c.enter.is [40] = true := by rw [yR h4]; exact h3
     have h6 := (yN (c := c.enter)).2 h5;have fw := zL c.enter [40];have hn : 200 <= (c.enter.want [40]).nest + k := by rw [fw.nest h6, yR h4]; show 200 <= c.nest + 1 + k; omega
     have a1 := (H _ hn).fine.at';have a2 := (zL (wr (c.enter.want [40])).1 [41]).at';have a3 : c.at' < (c.enter.want [40]).at' := by
      unfold Cu.want; rw [if_pos h5]; unfold Cu.take; rw [if_pos h5, yR h4]; exact Nat.lt_succ_self _
     have a4 : ∀ d : Cu, d.leave.at' = d.at' := fun d => by unfold Cu.leave; split <;> rfl
     rw [a4];omega
    ·
     obtain ⟨h5, _⟩ := xC h4;have e1 : c.enter.want [40] = c.enter := (zL _ _).stuck h5;rw [e1] at h7;exfalso;by_cases hn : 200 <= c.enter.nest + k
     ·
      exact h5 ((H c.enter hn).fine.err h7)
     ·
      have h2' : 200 <= c.nest := Decidable.byContradiction fun q => h4 (yF.2 ⟨h0, by omega⟩)
      have : c.enter.nest = c.nest := by
       unfold Cu.enter;rw [if_pos h0, if_pos h2']; unfold Cu.fail; rw [if_pos h0]
      omega
   ·
    rw [if_neg h3] at h; exact absurd h (vR c 5)
theorem qF (H : xI k wh wr) : xI (k + 1) (vY wh) (xV wr) := by
 intro c hk;unfold vY xV;by_cases h : c.peek.kind = 2
 ·
  rw [if_pos h, if_pos h];have h0 := vZ (c := c) (by rw [h]; decide);have fa := xH c;have ea : c.adv.err = 0 := by rw [vE]; exact h0
  have hr := aI (xN H) (c.ws.length + 1) c.adv [] (by rw [fa.nest ea]; exact hk) ea (by rw [fa.ws]; omega) fun d _ hd he => vV H d hd he
  rcases hr.cases with ⟨e1, e2⟩ | ⟨e1, e2⟩
  ·
   rw [e2]; exact .good (fa.trans hr.fine) e1
  ·
   rw [e2]; exact .fail (fa.trans hr.fine) e1
 ·
  rw [if_neg h, if_neg h]; exact xN H c hk
def qJ (wr : Cu -> Cu × Nd) (c : Cu) : Cu × Nd :=
 if (xV wr c).1.is [45, 62] = true then ((wr ((xV wr c).1.take [45, 62])).1, .mk 2 (xV wr c).2.pos 0 [45, 62] [(xV wr c).2, (wr ((xV wr c).1.take [45, 62])).2]) else xV wr c
theorem fW (H : xI k wh wr) : xI k (uM wh) (qJ wr) := by
 intro c hk;unfold uM qJ;have hr := qF H c (by omega);rcases hr.cases with ⟨e1, e2⟩ | ⟨e1, e2⟩
 ·
  rw [e2];dsimp only;by_cases h : (xV wr c).1.is [45, 62] = true
  ·
   rw [if_pos h, if_pos h];have ft := yD (xV wr c).1 [45, 62];have hn : 200 <= ((xV wr c).1.take [45, 62]).nest + k := by rw [ft.nest (by rw [uE]; exact e1), hr.fine.nest e1]; exact hk
   have hw := H _ hn;have f := hr.fine.trans (ft.trans hw.fine);rcases hw.cases with ⟨e3, e4⟩ | ⟨e3, e4⟩
   ·
    rw [e4]; exact .good f e3
   ·
    rw [e4]; exact .fail f e3
  ·
   rw [if_neg h, if_neg h, xL h]; exact .good hr.fine e1
 ·
  rw [e2, if_neg (fun q => e1 (vT q))]; exact .fail hr.fine e1
theorem pX (wr : Cu -> Cu × Nd) {c : Cu} (h : c.err ≠ 0) : qJ wr c = (c, tZ) := by
 have hz : xV wr c = (c, tZ) := by
  unfold xV;rw [if_neg (show ¬ c.peek.kind = 2 by rw [wM h]; decide)];unfold zO;rw [if_pos h]
 unfold qJ;rw [hz, if_neg (show ¬ (c, tZ).1.is [45, 62] = true by rw [xM h]; decide)]
theorem AbJ (n : Nat) (c : Cu) : atR (n + 1) c = ((qJ (atR n) c.enter).1.leave, (qJ (atR n) c.enter).2) := by
 show (if _ then _ else _) = _;unfold qJ;split <;> rfl
theorem pair_whole : ∀ n, xI n (wholeP n) (atR n)
 | 0 => fun c hk => by
  have h4 : ¬ c.enters = true := fun q => by have := (yF.1 q).2; omega
  obtain ⟨h5, h6⟩ := xC h4;exact .fail h6 h5
 | n + 1 => fun c hk => by
  have H := fW (pair_whole n);rw [AbJ];show uG c (deeper (uM (wholeP n)) c) _;unfold deeper;by_cases h4 : c.enters = true
  ·
   rw [if_pos h4];have hr := H c.enter (by rw [yR h4]; show 200 <= c.nest + 1 + n; omega);have f := sW h4 hr.fine;rcases hr.cases with ⟨e1, e2⟩ | ⟨e1, e2⟩
   ·
    rw [e2]; exact .good f (by rw [sL]; exact e1)
   ·
    rw [e2, yO e1] at *; exact .fail f e1
  ·
   rw [if_neg h4];obtain ⟨h5, h6⟩ := xC h4;have e : (qJ (atR n) c.enter).1 = c.enter := by rw [pX _ h5]
   rw [e, yO h5];exact .fail h6 h5
theorem atR_stuck (n : Nat) {c : Cu} (h : c.err ≠ 0) : atR n c = (c, tZ) := by
 cases n with
 | zero => show (c.enter, tZ) = _; rw [tF h]
 | succ n =>
  rw [AbJ, tF h];have hz := pX (atR n) h;rw [hz, yO h]
theorem rV {c : Cu} {x : Int} : c.kindOk x = true ↔ (c.kind x).err = 0 := by
 unfold Cu.kindOk Cu.kind;by_cases h : c.err = 0
 ·
  rw [if_pos h];by_cases h2 : (c.tok c.at').kind = x
  ·
   rw [if_pos h2, vE]; simp [h, h2]
  ·
   rw [if_neg h2]; simp [h2, vR]
 ·
  rw [if_neg h]; simp [h]
theorem tP (H : xI k wh wr) : xI (k + 1) (xK wh) (xX wr) := by
 intro c hk;unfold xK xX;have fk := uI c 2;by_cases h : c.kindOk 2 = true
 ·
  rw [if_pos h];have h0 := rV.1 h;have hr := xN H (c.kind 2) (by rw [fk.nest h0]; exact hk);rcases hr.cases with ⟨e1, e2⟩ | ⟨e1, e2⟩
  ·
   rw [e2]; exact .good (fk.trans hr.fine) e1
  ·
   rw [e2]; exact .fail (fk.trans hr.fine) e1
 ·
  rw [if_neg h];have h0 : (c.kind 2).err ≠ 0 := fun q => h (rV.2 q)
  have hz : zO wr (c.kind 2) = (c.kind 2, tZ) := by unfold zO; rw [if_pos h0]
  rw [hz]; exact .fail fk h0
theorem cQ {go : Cu -> Bool} {nx : Cu -> Cu} {rd : Cu -> yM Nd} (f : Nat) : ∀ (c : Cu) (n : Nd) (l : List Nd), yA go nx rd f c (n :: l) = ((yA go nx rd f c l).1, (yA go nx rd f c l).2.map (n :: ·)) := by
 induction f with
 | zero => intro c n l; rfl
 | succ f ih =>
  intro c n l;unfold yA;by_cases h : go c = true
  ·
   rw [if_pos h, if_pos h];cases rd (nx c) with
   | mk d o =>
    cases o with
    | none => rfl
    | some m => dsimp only; rw [List.cons_append, ih]
  ·
   rw [if_neg h, if_neg h]; rfl
abbrev eU (p : Cu -> yM Nd) : Nat -> Cu -> List Nd -> yM (List Nd) := yA (fun c => c.is [44]) (fun c => c.take [44]) p
theorem eB {p : Cu -> yM Nd} {r : Cu -> Cu × Nd} (H : xI k p r) (f : Nat) : ∀ (c : Cu) (l : List Nd), 200 <= c.nest + k -> (r c).1.err = 0 -> (r c).1.ws.length - (r c).1.at' < f ->
  uG c (eU p f (r c).1 (l ++ [(r c).2])) (wV r (f + 1) c l) := by
 induction f with
 | zero => intro c l _ _ h; omega
 | succ f ih =>
  intro c l hk he hf;have hr := H c hk;rw [show wV r (f + 1 + 1) c l = (if (r c).1.is [44] = true then wV r (f + 1) ((r c).1.take [44]) (l ++ [(r c).2]) else ((r c).1, l ++ [(r c).2])) from rfl];unfold eU yA;by_cases h : (r c).1.is [44] = true
  ·
   rw [if_pos h, if_pos h];have ft := yD (r c).1 [44];have et : ((r c).1.take [44]).err = 0 := by rw [uE]; exact he
   have hn : 200 <= ((r c).1.take [44]).nest + k := by rw [ft.nest et, hr.fine.nest he]; exact hk
   have h2 := H _ hn;rcases h2.cases with ⟨e1, e2⟩ | ⟨e1, e2⟩
   ·
    rw [e2];dsimp only;have a1 := h2.fine.at';have a2 : (r c).1.at' < ((r c).1.take [44]).at' := by unfold Cu.take; rw [if_pos h]; exact Nat.lt_succ_self _
    have a3 := (wU h).2;have := ih ((r c).1.take [44]) (l ++ [(r c).2]) hn e1 (by rw [h2.fine.ws, ft.ws]; omega);exact ⟨this.cur, this.yes, this.no, hr.fine.trans (ft.trans this.fine)⟩
   ·
    rw [e2];dsimp only;rw [show wV r (f + 1) ((r c).1.take [44]) (l ++ [(r c).2]) = ((r ((r c).1.take [44])).1, l ++ [(r c).2] ++ [(r ((r c).1.take [44])).2]) from by
     show (if _ then _ else _) = _;rw [if_neg (fun q => e1 (vT q))]]
    exact .fail (hr.fine.trans (ft.trans h2.fine)) e1
  ·
   rw [if_neg h, if_neg h];show uG c ((r c).1.take [44], _) _;rw [xL h];exact .good hr.fine he
theorem fP (H : xI k wh wr) : xI (k + 1) (xT wh) (uT wr) := by
 intro c hk;unfold xT uT;by_cases h : c.is [40] = true
 ·
  rw [if_pos h, if_pos h];have ft := yD c [40];have et : (c.take [40]).err = 0 := by rw [uE]; exact vT h
  by_cases h2 : (c.take [40]).is [41] = true
  ·
   rw [if_pos h2, if_pos h2];have e : (c.take [40]).want [41] = (c.take [40]).take [41] := by unfold Cu.want; rw [if_pos h2]
   rw [e];exact .good (ft.trans (yD _ _)) (by rw [uE]; exact et)
  ·
   rw [if_neg h2, if_neg h2, xL h2];have hn : 200 <= (c.take [40]).nest + (k + 1) := by rw [ft.nest et]; exact hk
   have hr := tP H (c.take [40]) hn;rcases hr.cases with ⟨e1, e2⟩ | ⟨e1, e2⟩
   ·
    rw [e2];dsimp only;have hc := eB (tP H) (c.ws.length + 1) (c.take [40]) [] hn e1 (by rw [hr.fine.ws, ft.ws]; omega);have hm := cQ (go := fun c => c.is [44]) (nx := fun c => c.take [44]) (rd := xK wh) (c.ws.length + 1) (xX wr (c.take [40])).1 (xX wr (c.take [40])).2 [];rw [List.nil_append] at hc;unfold eU at hc;rw [hm] at hc;rcases hc.cases with ⟨e3, e4⟩ | ⟨e3, e4⟩
    ·
     cases hx : yA (fun c => c.is [44]) (fun c => c.take [44]) (xK wh) (c.ws.length + 1) (xX wr (c.take [40])).1 [] with
     | mk d o =>
      rw [hx] at e4;cases o with
      | none => simp at e4
      | some ks =>
       simp only [Option.map_some, Prod.mk.injEq, Option.some.injEq] at e4;obtain ⟨e5, e6⟩ := e4;dsimp only;rw [<- e5, <- e6];rw [<- e5] at e3;have fz := ft.trans (hc.fine.trans (zL _ [41]));rw [<- e5] at fz;by_cases h7 : d.is [41] = true
       ·
        rw [if_pos h7]; exact .good fz (yN.2 h7)
       ·
        rw [if_neg h7]; exact .fail fz (fun q => h7 (yN.1 q))
    ·
     cases hx : yA (fun c => c.is [44]) (fun c => c.take [44]) (xK wh) (c.ws.length + 1) (xX wr (c.take [40])).1 [] with
     | mk d o =>
      rw [hx] at e4;cases o with
      | some ks => simp at e4
      | none =>
       simp only [Option.map_none, Prod.mk.injEq] at e4;dsimp only;have e5 := e4.1;have fz := ft.trans hc.fine;rw [(zL _ [41]).stuck e3, <- e5];rw [<- e5] at fz e3;exact .fail fz e3
   ·
    rw [e2];dsimp only;have e : wV (xX wr) (c.ws.length + 2) (c.take [40]) [] = ((xX wr (c.take [40])).1, [(xX wr (c.take [40])).2]) := by
     show (if _ then _ else _) = _;rw [if_neg (fun q => e1 (vT q))]; rfl
    rw [e, (zL _ [41]).stuck e1];exact .fail (ft.trans hr.fine) e1
 ·
  rw [if_neg h, if_neg h, xL h];have hr := tP H c hk;rcases hr.cases with ⟨e1, e2⟩ | ⟨e1, e2⟩
  ·
   rw [e2]; exact .good hr.fine e1
  ·
   rw [e2]; exact .fail hr.fine e1
theorem rP (H : xI k wh wr) : xI (k + 1) (yQ wh) (xG wr) := by
 intro c hk;unfold yQ xG;by_cases h : c.ahead [61, 62] = true
 ·
  rw [if_pos h, if_pos h];have hr := fP H c hk;have fz := hr.fine.trans (zL _ [61, 62]);rcases hr.cases with ⟨e1, e2⟩ | ⟨e1, e2⟩
  ·
   rw [e2];dsimp only;by_cases h7 : (uT wr c).1.is [61, 62] = true
   ·
    rw [if_pos h7]; exact .good fz (yN.2 h7)
   ·
    rw [if_neg h7]; exact .fail fz (fun q => h7 (yN.1 q))
  ·
   rw [e2, (zL _ [61, 62]).stuck e1]; exact .fail hr.fine e1
 ·
  rw [if_neg h, if_neg h];by_cases h0 : c.err = 0
  ·
   rw [if_pos h0]; exact .good (.refl c) h0
  ·
   rw [if_neg h0]; exact .fail (.refl c) h0
theorem bB (H : xI k wh wr) (hst : ∀ d, d.err ≠ 0 -> (wr d).1 = d) : xI k (tA wh) (rX wr) := by
 intro c hk;unfold tA rX;have hr := rP H c (by omega);rcases hr.cases with ⟨e1, e2⟩ | ⟨e1, e2⟩
 ·
  rw [e2];dsimp only;have hw := H (xG wr c).1 (by rw [hr.fine.nest e1]; exact hk);rcases hw.cases with ⟨e3, e4⟩ | ⟨e3, e4⟩
  ·
   rw [e4]; exact .good (hr.fine.trans hw.fine) e3
  ·
   rw [e4]; exact .fail (hr.fine.trans hw.fine) e3
 ·
  rw [e2];dsimp only;have hs : (wr (xG wr c).1).1 = (xG wr c).1 := hst _ e1;rw [hs];exact .fail hr.fine e1
end
section
variable {k : Nat} {wh : Cu -> yM Nd} {wr : Cu -> Cu × Nd}
theorem uG.some_of {α : Type} {c d : Cu} {o : yM α} {r : Cu × α} {n : α} (h : uG c o r) (e : o = (d, some n)) : r.1 = d /\ r.2 = n /\ d.err = 0 := by
 rcases h.cases with ⟨e1, e2⟩ | ⟨e1, e2⟩
 ·
  rw [e] at e2;injection e2 with e3 e4
  injection e4 with e4
  exact ⟨e3.symm, e4.symm, by rw [e3]; exact e1⟩
 ·
  rw [e] at e2;injection e2 with _ e4
  cases e4
theorem uG.nest_of {α : Type} {c d : Cu} {o : yM α} {r : Cu × α} {n : α} (h : uG c o r) (e : o = (d, some n)) : d.nest = c.nest /\ d.ws = c.ws /\ d.err = 0 /\ c.err = 0 := by
 obtain ⟨e1, e2, e3⟩ := h.some_of e;rw [<- e1] at e3 ⊢;exact ⟨h.fine.nest e3, h.fine.ws, e3, h.fine.err e3⟩
theorem rL (H : xI k wh wr) {c d : Cu} {n : Nd} (hk : 200 <= c.nest + (k + 1)) (hb : zI c = true) (h : zV wh c = (d, some n)) : 200 <= d.nest + (k + 1) /\ d.ws.length - d.at' < c.ws.length - c.at' := by
 have hr := xN H c hk;obtain ⟨h1, h2, h3, h4⟩ := hr.nest_of h;obtain ⟨e1, e2, e3⟩ := hr.some_of h;have a := vV H c hk (by rw [e1]; exact e3);have b := wB hb;rw [e1] at a;rw [h1, h2];exact ⟨hk, by omega⟩
theorem pred_at (H : xI k wh wr) {c d : Cu} {n : Nd} (hk : 200 <= c.nest + (k + 1)) (h : xK wh c = (d, some n)) : c.at' <= d.at' := by
 have hr := tP H c hk;obtain ⟨e1, -, -⟩ := hr.some_of h;rw [<- e1]; exact hr.fine.at'
theorem gU (H : xI k wh wr) {c d : Cu} {n : Nd} (hk : 200 <= c.nest + (k + 1)) (hb : c.is [44] = true) (h : xK wh (c.take [44]) = (d, some n)) : 200 <= d.nest + (k + 1) /\ d.ws.length - d.at' < c.ws.length - c.at' := by
 have ft := yD c [44];have et : (c.take [44]).err = 0 := by rw [uE]; exact vT hb
 have hk2 : 200 <= (c.take [44]).nest + (k + 1) := by rw [ft.nest et]; exact hk
 have hr := tP H (c.take [44]) hk2;obtain ⟨h1, h2, h3, h4⟩ := hr.nest_of h;have a := pred_at H hk2 h;have b := (wU hb).2;have e : (c.take [44]).at' = c.at' + 1 := by unfold Cu.take; rw [if_pos hb]
 rw [h1, ft.nest et, h2, ft.ws];exact ⟨hk, by omega⟩
end
theorem nH {go : Cu -> Bool} {nx : Cu -> Cu} {rd : Cu -> yM Nd} (f : Nat) : ∀ (c d : Cu) (l ks : List Nd), yA go nx rd f c l = (d, some ks) -> ks.length <= l.length + f := by
 induction f with
 | zero => intro c d l ks h; cases h
 | succ f ih =>
  intro c d l ks h;unfold yA at h;split at h
  ·
   cases hr : rd (nx c) with
   | mk e o =>
    rw [hr] at h;cases o with
    | none => cases h
    | some n => have := ih e d (l ++ [n]) ks h; simp at this; omega
  ·
   injection h with _ h
   injection h with h
   rw [<- h]; omega
theorem cX {wh : Cu -> yM Nd} {c d : Cu} {l : List Nd} (h : xT wh c = (d, some l)) : l.length <= c.ws.length + 2 := by
 unfold xT at h;split at h
 ·
  split at h
  ·
   injection h with _ h; injection h with h; rw [<- h]; simp
  ·
   cases hr : xK wh ((c.take [40]).take [41]) with
   | mk e o =>
    rw [hr] at h;cases o with
    | none => cases h
    | some n =>
     dsimp only at h;cases hm : yA (fun c => c.is [44]) (fun c => c.take [44]) (xK wh) (c.ws.length + 1) e [] with
     | mk e2 o2 =>
      rw [hm] at h;cases o2 with
      | none => cases h
      | some ks =>
       have := nH _ _ _ _ _ hm;dsimp only at h;split at h
       ·
        injection h with _ h; injection h with h; rw [<- h]; simp at this ⊢; omega
       ·
        cases h
 ·
  cases hr : xK wh (c.take [40]) with
  | mk e o =>
   rw [hr] at h;cases o with
   | none => cases h
   | some n => injection h with _ h; injection h with h; rw [<- h]; simp
theorem gJ {wh : Cu -> yM Nd} {c d : Cu} {l : List Nd} (h : yQ wh c = (d, some l)) : l.length <= c.ws.length + 2 := by
 unfold yQ at h;split at h
 ·
  cases hr : xT wh c with
  | mk e o =>
   rw [hr] at h;cases o with
   | none => cases h
   | some ks =>
    have := cX hr;dsimp only at h;split at h
    ·
     injection h with _ h; injection h with h; rw [<- h]; exact this
    ·
     cases h
 ·
  injection h with _ h
  split at h
  ·
   injection h with h; rw [<- h]; simp
  ·
   cases h
end Go.Proofs.YtdjomhbmhooceaaGreat.N7
