import Derived.Test.YtdjomhbmhooceaaGreatE3
import Derived.Test.YtdjomhbmhooceaaGreatE4
set_option linter.unusedVariables false
set_option linter.unusedSimpArgs false
namespace Go.Proofs.YtdjomhbmhooceaaGreat.N7
open Go.RowKit N5 N6
def sH : Nd := .mk 0 0 0 [] []
abbrev yJ (α : Type) := Cu × Option α
def deeper {α : Type} (rd : Cu -> yJ α) (c : Cu) : yJ α :=
 if c.enters = true then (match rd c.enter with
  | (d, none) => (d, none)
  | (d, some n) => (d.leave, some n)) else (c.enter, none)
def xV {α : Type} (wh : Cu -> yJ α) (c : Cu) : yJ α :=
 if c.is [40] = true then (match wh (c.want [40]) with
  | (d, none) => (d, none)
  | (d, some n) => if d.is [41] = true then (d.want [41], some n) else (d.want [41], none)) else (c.want [40], none)
def atomP (wh : Cu -> yJ Nd) (c : Cu) : yJ Nd :=
 if c.peek.kind = 1 then (c.adv, some (.mk 1 c.peek.pos 0 c.peek.text []))
 else if c.peek.kind = 2 then (c.adv, some (.mk 2 c.peek.pos 0 c.peek.text []))
 else if c.is [40] = true then deeper (xV wh) c
 else (c.fail 5, none)
def begins (c : Cu) : Bool := decide (c.peek.kind = 1) || (decide (c.peek.kind = 2) || c.is [40])
def zY (go : Cu -> Bool) (nx : Cu -> Cu) (rd : Cu -> yJ Nd) : Nat -> Cu -> List Nd -> yJ (List Nd)
 | 0, c, _ => (c, none)
 | f + 1, c, l => if go c = true then (match rd (nx c) with
   | (d, none) => (d, none)
   | (d, some n) => zY go nx rd f d (l ++ [n])) else (nx c, some l)
def vY (wh : Cu -> yJ Nd) (c : Cu) : yJ Nd :=
 if c.peek.kind = 2 then (match zY begins id (atomP wh) (c.ws.length + 1) c.adv [] with
  | (d, none) => (d, none)
  | (d, some ks) => (d, some (.mk 2 c.peek.pos 0 c.peek.text ks))) else atomP wh c
def uI (wh : Cu -> yJ Nd) (c : Cu) : yJ Nd :=
 match vY wh c with
 | (d, none) => (d, none)
 | (d, some n) => if d.is [45, 62] = true then (match wh (d.take [45, 62]) with
   | (e, none) => (e, none)
   | (e, some m) => (e, some (.mk 2 n.pos 0 [45, 62] [n, m]))) else (d.take [45, 62], some n)
def wholeP : Nat -> Cu -> yJ Nd
 | 0, c => (c.enter, none)
 | n + 1, c => deeper (uI (wholeP n)) c
def xB (wh : Cu -> yJ Nd) (c : Cu) : yJ Nd :=
 if c.kindOk 2 = true then (match atomP wh (c.kind 2) with
  | (d, none) => (d, none)
  | (d, some n) => (d, some (.mk 3 (c.kindT 2).pos 0 (c.kindT 2).text [n]))) else (c.kind 2, none)
def xN (wh : Cu -> yJ Nd) (c : Cu) : yJ (List Nd) :=
 if c.is [40] = true then
  (if (c.take [40]).is [41] = true then ((c.take [40]).take [41], some [])
   else match xB wh ((c.take [40]).take [41]) with
   | (d, none) => (d, none)
   | (d, some n) => match zY (fun c => c.is [44]) (fun c => c.take [44]) (xB wh) (c.ws.length + 1) d [] with
    | (e, none) => (e, none)
    | (e, some ks) => if e.is [41] = true then (e.want [41], some (n :: ks)) else (e.want [41], none))
 else match xB wh (c.take [40]) with
  | (d, none) => (d, none)
  | (d, some n) => (d, some [n])
def yN (wh : Cu -> yJ Nd) (c : Cu) : yJ (List Nd) :=
 if c.ahead [61, 62] = true then (match xN wh c with
  | (d, none) => (d, none)
  | (d, some l) => if d.is [61, 62] = true then (d.want [61, 62], some l) else (d.want [61, 62], none))
 else (c, if c.err = 0 then some [] else none)
def uZ (wh : Cu -> yJ Nd) (c : Cu) : yJ Nd :=
 match yN wh c with
 | (d, none) => (d, none)
 | (d, some l) => match wh d with
  | (e, none) => (e, none)
  | (e, some n) => (e, some (.mk 4 c.peek.pos 0 [] (l ++ [n])))
def zM (at' : Cu -> Cu × Nd) (c : Cu) : Cu × Nd :=
 if c.err ≠ 0 then (c, sH)
 else if c.peek.kind = 1 then (c.adv, .mk 1 c.peek.pos 0 c.peek.text [])
 else if c.peek.kind = 2 then (c.adv, .mk 2 c.peek.pos 0 c.peek.text [])
 else if c.is [40] = true then (((at' (c.enter.want [40])).1.want [41]).leave, (at' (c.enter.want [40])).2)
 else (c.fail 5, sH)
def wO (c : Cu) : Bool := decide (c.err = 0) && begins c
def rS (rd : Cu -> Cu × Nd) : Nat -> Cu -> List Nd -> Cu × List Nd
 | 0, c, l => (c, l)
 | f + 1, c, l => if wO c = true then rS rd f (rd c).1 (l ++ [(rd c).2]) else (c, l)
def xZ (at' : Cu -> Cu × Nd) (c : Cu) : Cu × Nd :=
 if c.peek.kind = 2 then ((rS (zM at') (c.ws.length + 1) c.adv []).1, .mk 2 c.peek.pos 0 c.peek.text (rS (zM at') (c.ws.length + 1) c.adv []).2) else zM at' c
def atR : Nat -> Cu -> Cu × Nd
 | 0, c => (c.enter, sH)
 | n + 1, c =>
  if (xZ (atR n) c.enter).1.is [45, 62] = true then ((atR n ((xZ (atR n) c.enter).1.take [45, 62])).1.leave, .mk 2 (xZ (atR n) c.enter).2.pos 0 [45, 62] [(xZ (atR n) c.enter).2, (atR n ((xZ (atR n) c.enter).1.take [45, 62])).2])
  else ((xZ (atR n) c.enter).1.leave, (xZ (atR n) c.enter).2)
def wB (at' : Cu -> Cu × Nd) (c : Cu) : Cu × Nd := ((zM at' (c.kind 2)).1, .mk 3 (c.kindT 2).pos 0 (c.kindT 2).text [(zM at' (c.kind 2)).2])
def vG (rd : Cu -> Cu × Nd) : Nat -> Cu -> List Nd -> Cu × List Nd
 | 0, c, l => (c, l)
 | f + 1, c, l => if (rd c).1.is [44] = true then vG rd f ((rd c).1.take [44]) (l ++ [(rd c).2]) else ((rd c).1, l ++ [(rd c).2])
def tD (at' : Cu -> Cu × Nd) (c : Cu) : Cu × List Nd :=
 if c.is [40] = true then
  (if (c.take [40]).is [41] = true then ((c.take [40]).want [41], [])
   else ((vG (wB at') (c.ws.length + 2) (c.take [40]) []).1.want [41], (vG (wB at') (c.ws.length + 2) (c.take [40]) []).2))
 else ((wB at' c).1, [(wB at' c).2])
def xM (at' : Cu -> Cu × Nd) (c : Cu) : Cu × List Nd :=
 if c.ahead [61, 62] = true then ((tD at' c).1.want [61, 62], (tD at' c).2) else (c, [])
def pD (at' : Cu -> Cu × Nd) (c : Cu) : Cu × Nd := ((at' (xM at' c).1).1, .mk 4 c.peek.pos 0 [] ((xM at' c).2 ++ [(at' (xM at' c).1).2]))
def Posd (c : Cu) : Prop := c.err ≠ 0 -> ∃ k, c.pos = (c.tok k).pos
structure zZ (c d : Cu) : Prop where
 ws : d.ws = c.ws
 ep : d.ep = c.ep
 at' : c.at' <= d.at'
 err : d.err = 0 -> c.err = 0
 nest : d.err = 0 -> d.nest = c.nest
 stuck : c.err ≠ 0 -> d = c
 ok : xA c -> xA d
 posd : Posd c -> Posd d
theorem zZ.refl (c : Cu) : zZ c c := ⟨rfl, rfl, Nat.le_refl _, id, fun _ => rfl, fun _ => rfl, id, id⟩
theorem zZ.trans {c d e : Cu} (h : zZ c d) (g : zZ d e) : zZ c e :=
 ⟨g.ws.trans h.ws, g.ep.trans h.ep, Nat.le_trans h.at' g.at', fun k => h.err (g.err k), fun k => (g.nest k).trans (h.nest (g.err k)), fun k => by
  have e1 := h.stuck k;have e2 := g.stuck (by rw [e1]; exact k);rw [e2, e1], fun k => g.ok (h.ok k), fun k => g.posd (h.posd k)⟩
theorem yG (c : Cu) : zZ c c.adv := by
 unfold Cu.adv;split
 ·
  rename_i h;exact ⟨rfl, rfl, Nat.le_succ _, fun _ => h.1, fun _ => rfl, fun k => absurd h.1 k, fun k => ⟨h.2, k.few, k.kinds, k.deep⟩, fun _ k => absurd h.1 k⟩
 ·
  exact .refl c
theorem uG (c : Cu) (x : Int) : (c.fail x).err ≠ 0 := by
 unfold Cu.fail;split
 ·
  show (if x = 0 then (1 : Int) else x) ≠ 0;split
  ·
   decide
  ·
   assumption
 ·
  assumption
theorem vR (c : Cu) (x : Int) : zZ c (c.fail x) := by
 refine ⟨?_, ?_, ?_, fun k => absurd k (uG c x), fun k => absurd k (uG c x), fun k => ?_, fun k => ?_, fun k => ?_⟩ <;> unfold Cu.fail
 ·
  split <;> rfl
 ·
  split <;> rfl
 ·
  split <;> exact Nat.le_refl _
 ·
  rw [if_neg k]
 ·
  split
  ·
   exact ⟨k.le, k.few, k.kinds, k.deep⟩
  ·
   exact k
 ·
  split
  ·
   exact fun _ => ⟨c.at', rfl⟩
  ·
   exact k
theorem zX (c : Cu) (x : List UInt8) : zZ c (c.take x) := by
 unfold Cu.take;split
 ·
  rename_i h;obtain ⟨h1, h2⟩ := vH h;exact ⟨rfl, rfl, Nat.le_succ _, fun _ => h1, fun _ => rfl, fun k => absurd h1 k, fun k => ⟨h2, k.few, k.kinds, k.deep⟩, fun _ k => absurd h1 k⟩
 ·
  exact .refl c
theorem zI (c : Cu) (x : List UInt8) : zZ c (c.want x) := by
 unfold Cu.want;split
 ·
  exact zX c x
 ·
  exact vR c 5
theorem vC (c : Cu) (k : Int) : zZ c (c.kind k) := by
 unfold Cu.kind;split
 ·
  split
  ·
   exact yG c
  ·
   exact vR c 5
 ·
  exact .refl c
theorem yS {c : Cu} {x : List UInt8} : (c.want x).err = 0 ↔ c.is x = true := by
 unfold Cu.want;by_cases h : c.is x = true
 ·
  rw [if_pos h];have h1 := (vH h).1;unfold Cu.take;rw [if_pos h];exact ⟨fun _ => h, fun _ => h1⟩
 ·
  rw [if_neg h];exact ⟨fun k => absurd k (uG c 5), fun k => absurd k h⟩
theorem xL {c : Cu} {x : List UInt8} (h : ¬ c.is x = true) : c.take x = c := by unfold Cu.take; rw [if_neg h]
theorem uJ {c : Cu} {x : List UInt8} (h : c.is x = true) : c.err = 0 := (vH h).1
theorem xT {c : Cu} {x : List UInt8} (h : c.err ≠ 0) : c.is x = false := by unfold Cu.is; simp [h]
theorem uQ {c : Cu} {x : List UInt8} : (c.take x).err = c.err := by unfold Cu.take; split <;> rfl
theorem wW {c : Cu} (h : c.err ≠ 0) : c.peek.kind = 0 := by unfold Cu.peek; rw [if_neg h]; rfl
theorem vT {c : Cu} (h : c.peek.kind ≠ 0) : c.err = 0 := Decidable.byContradiction fun k => h (wW k)
theorem uC {c : Cu} (h : c.peek.kind ≠ 0) : c.at' < c.ws.length := by
 unfold Cu.peek at h;rw [if_pos (vT h)] at h;unfold Cu.tok at h;refine Decidable.byContradiction fun k => h ?_
 rw [List.getD_eq_getElem?_getD, List.getElem?_eq_none (by omega)];rfl
theorem vQ (c : Cu) : c.adv.err = c.err := by unfold Cu.adv; split <;> rfl
theorem yC {c : Cu} (h : begins c = true) : c.err = 0 := by
 unfold begins at h;refine Decidable.byContradiction fun k => ?_
 rw [wW k, xT k] at h;simp at h
theorem wH {c : Cu} (h : begins c = true) : c.at' < c.ws.length := by
 unfold begins at h;simp only [Bool.or_eq_true, decide_eq_true_eq] at h;rcases h with h | h | h
 ·
  exact uC (by rw [h]; decide)
 ·
  exact uC (by rw [h]; decide)
 ·
  exact (vH h).2
theorem uA (c : Cu) : wO c = begins c := by
 unfold wO;cases h : begins c with
 | true => simp [yC h]
 | false => simp
theorem yF {c : Cu} : c.enters = true ↔ c.err = 0 /\ c.nest < 200 := by unfold Cu.enters; simp
theorem yY {c : Cu} (h : c.enters = true) : c.enter = { c with nest := c.nest + 1 } := by
 obtain ⟨h1, h2⟩ := yF.1 h;unfold Cu.enter;rw [if_pos h1, if_neg (by omega)]
theorem xK {c : Cu} (h : ¬ c.enters = true) : c.enter.err ≠ 0 /\ zZ c c.enter := by
 unfold Cu.enter;by_cases h1 : c.err = 0
 ·
  have h2 : 200 <= c.nest := Decidable.byContradiction fun k => h (yF.2 ⟨h1, by omega⟩)
  rw [if_pos h1, if_pos h2];exact ⟨uG c 2, vR c 2⟩
 ·
  rw [if_neg h1];exact ⟨h1, .refl c⟩
theorem rV {c d : Cu} (h : c.enters = true) (g : zZ c.enter d) : zZ c d.leave := by
 obtain ⟨h1, h2⟩ := yF.1 h;rw [yY h] at g;unfold Cu.leave;split
 ·
  rename_i h3;refine ⟨g.ws, g.ep, g.at', fun _ => h1, fun _ => ?_, fun k => absurd h1 k, fun k => ?_, fun _ k => absurd h3 k⟩
  ·
   have := g.nest h3;show d.nest - 1 = c.nest;rw [this]; rfl
  ·
   have := g.ok ⟨k.le, k.few, k.kinds, by show c.nest + 1 <= 200; omega⟩;exact ⟨this.le, this.few, this.kinds, by have := this.deep; show d.nest - 1 <= 200; omega⟩
 ·
  rename_i h3;exact ⟨g.ws, g.ep, g.at', fun _ => h1, fun k => absurd k h3, fun k => absurd h1 k, fun k => g.ok ⟨k.le, k.few, k.kinds, by show c.nest + 1 <= 200; omega⟩, fun _ => g.posd fun k => absurd h1 k⟩
theorem rE (c : Cu) : c.leave.err = c.err := by unfold Cu.leave; split <;> rfl
theorem yU {c : Cu} (h : c.err ≠ 0) : c.leave = c := by unfold Cu.leave; rw [if_neg h]
theorem tQ {c : Cu} (h : c.err ≠ 0) : c.enter = c := by unfold Cu.enter; rw [if_neg h]
structure uO {α : Type} (c : Cu) (o : yJ α) (r : Cu × α) : Prop where
 cur : o.1 = r.1
 yes : r.1.err = 0 -> o.2 = some r.2
 no : r.1.err ≠ 0 -> o.2 = none
 fine : zZ c r.1
theorem uO.fail {α : Type} {c d : Cu} {x : α} (h : zZ c d) (he : d.err ≠ 0) : uO c (d, none) (d, x) := ⟨rfl, fun k => absurd k he, fun _ => rfl, h⟩
theorem uO.good {α : Type} {c d : Cu} {x : α} (h : zZ c d) (he : d.err = 0) : uO c (d, some x) (d, x) := ⟨rfl, fun _ => rfl, fun k => absurd he k, h⟩
def xP {α : Type} (k : Nat) (p : Cu -> yJ α) (r : Cu -> Cu × α) : Prop := ∀ c, 200 <= c.nest + k -> uO c (p c) (r c)
theorem uO.cases {α : Type} {c : Cu} {o : yJ α} {r : Cu × α} (h : uO c o r) : (r.1.err = 0 /\ o = (r.1, some r.2)) \/ (r.1.err ≠ 0 /\ o = (r.1, none)) := by
 obtain ⟨o1, o2⟩ := o;have e := h.cur;dsimp only at e;by_cases k : r.1.err = 0
 ·
  have := h.yes k; dsimp only at this; exact .inl ⟨k, by rw [e, this]⟩
 ·
  have := h.no k; dsimp only at this; exact .inr ⟨k, by rw [e, this]⟩
section
variable {k : Nat} {wh : Cu -> yJ Nd} {wr : Cu -> Cu × Nd}
theorem xU (H : xP k wh wr) : xP (k + 1) (atomP wh) (zM wr) := by
 intro c hk;unfold atomP zM;by_cases h0 : c.err = 0
 ·
  rw [if_neg (show ¬ (c.err ≠ 0) from fun q => q h0)];by_cases h1 : c.peek.kind = 1
  ·
   rw [if_pos h1, if_pos h1]; exact .good (yG c) (by rw [vQ]; exact h0)
  ·
   rw [if_neg h1, if_neg h1];by_cases h2 : c.peek.kind = 2
   ·
    rw [if_pos h2, if_pos h2]; exact .good (yG c) (by rw [vQ]; exact h0)
   ·
    rw [if_neg h2, if_neg h2];by_cases h3 : c.is [40] = true
    ·
     rw [if_pos h3, if_pos h3];unfold deeper;by_cases h4 : c.enters = true
     ·
      rw [if_pos h4];have h5 : c.enter.is [40] = true := by rw [yY h4]; exact h3
      have h6 := (yS (c := c.enter)).2 h5;have fw := zI c.enter [40];have hn : 200 <= (c.enter.want [40]).nest + k := by rw [fw.nest h6, yY h4]; show 200 <= c.nest + 1 + k; omega
      have hr := H (c.enter.want [40]) hn;have fz : zZ c (((wr (c.enter.want [40])).1.want [41]).leave) := rV h4 (fw.trans (hr.fine.trans (zI _ _)));unfold xV;rw [if_pos h5];rcases hr.cases with ⟨e1, e2⟩ | ⟨e1, e2⟩
      ·
       rw [e2];dsimp only;by_cases h7 : (wr (c.enter.want [40])).1.is [41] = true
       ·
        rw [if_pos h7];exact .good fz (by rw [rE]; exact yS.2 h7)
       ·
        rw [if_neg h7];have h8 : ((wr (c.enter.want [40])).1.want [41]).err ≠ 0 := fun q => h7 (yS.1 q)
        rw [yU h8] at fz ⊢;exact .fail fz h8
      ·
       rw [e2];have h8 : (wr (c.enter.want [40])).1.want [41] = (wr (c.enter.want [40])).1 := (zI _ _).stuck e1;rw [h8, yU e1] at fz ⊢;exact .fail fz e1
     ·
      rw [if_neg h4];obtain ⟨h5, h6⟩ := xK h4;have e1 : c.enter.want [40] = c.enter := (zI _ _).stuck h5;rw [e1];have hr : (wr c.enter).1 = c.enter := by
       by_cases hn : 200 <= c.enter.nest + k
       ·
        exact (H c.enter hn).fine.stuck h5
       ·
        exfalso;have : c.enter.nest = c.nest := by
         unfold Cu.enter;rw [if_pos h0];have h2 : 200 <= c.nest := Decidable.byContradiction fun q => h4 (yF.2 ⟨h0, by omega⟩)
         rw [if_pos h2]; unfold Cu.fail; rw [if_pos h0]
        have h2 : 200 <= c.nest := Decidable.byContradiction fun q => h4 (yF.2 ⟨h0, by omega⟩)
        omega
      rw [hr, (zI c.enter [41]).stuck h5, yU h5];exact .fail h6 h5
    ·
     rw [if_neg h3, if_neg h3]; exact .fail (vR c 5) (uG c 5)
 ·
  rw [if_pos (show c.err ≠ 0 from h0), if_neg (show ¬ c.peek.kind = 1 by rw [wW h0]; decide), if_neg (show ¬ c.peek.kind = 2 by rw [wW h0]; decide), if_neg (show ¬ c.is [40] = true by rw [xT h0]; decide), (vR c 5).stuck h0];exact .fail (.refl c) h0
theorem AfD {p : Cu -> yJ Nd} {r : Cu -> Cu × Nd} (H : xP k p r) (f : Nat) : ∀ (c : Cu) (l : List Nd), 200 <= c.nest + k -> c.err = 0 -> c.ws.length - c.at' < f -> (∀ c, begins c = true -> 200 <= c.nest + k -> (r c).1.err = 0 -> c.at' < (r c).1.at') ->
  uO c (zY begins id p f c l) (rS r f c l) := by
 induction f with
 | zero => intro c l _ _ h _; omega
 | succ f ih =>
  intro c l hk he hf hp;unfold zY rS;rw [uA];by_cases hb : begins c = true
  ·
   rw [if_pos hb, if_pos hb];have hr := H c hk;rcases hr.cases with ⟨e1, e2⟩ | ⟨e1, e2⟩
   ·
    rw [id, e2];dsimp only;have h1 := hp c hb hk e1;have h2 := wH hb;have := ih (r c).1 (l ++ [(r c).2]) (by rw [hr.fine.nest e1]; exact hk) e1 (by rw [hr.fine.ws]; omega) hp;exact ⟨this.cur, this.yes, this.no, hr.fine.trans this.fine⟩
   ·
    rw [id, e2];dsimp only;have : rS r f (r c).1 (l ++ [(r c).2]) = ((r c).1, l ++ [(r c).2]) := by
     cases f with
     | zero => rfl
     | succ f =>
      unfold rS;rw [uA, if_neg (fun q => e1 (yC q))]
    rw [this];exact .fail hr.fine e1
  ·
   rw [if_neg hb, if_neg hb]; exact .good (.refl c) he
theorem uM (H : xP k wh wr) (c : Cu) (hk : 200 <= c.nest + (k + 1)) (h : (zM wr c).1.err = 0) : c.at' < (zM wr c).1.at' := by
 have hr := xU H c hk;have h0 := hr.fine.err h;unfold zM at h ⊢;rw [if_neg (show ¬ (c.err ≠ 0) from fun q => q h0)] at h ⊢;by_cases h1 : c.peek.kind = 1
 ·
  rw [if_pos h1] at h ⊢;show c.at' < c.adv.at';unfold Cu.adv; rw [if_pos ⟨h0, uC (by rw [h1]; decide)⟩]; exact Nat.lt_succ_self _
 ·
  rw [if_neg h1] at h ⊢;by_cases h2 : c.peek.kind = 2
  ·
   rw [if_pos h2] at h ⊢;show c.at' < c.adv.at';unfold Cu.adv; rw [if_pos ⟨h0, uC (by rw [h2]; decide)⟩]; exact Nat.lt_succ_self _
  ·
   rw [if_neg h2] at h ⊢;by_cases h3 : c.is [40] = true
   ·
    rw [if_pos h3] at h ⊢;dsimp only at h ⊢;have h8 : ((wr (c.enter.want [40])).1.want [41]).err = 0 := by rw [rE] at h; exact h
    have h7 := (zI _ _).err h8;by_cases h4 : c.enters = true
    ·
     have h5 : c.enter.is [40] = true := by rw [yY h4]; exact h3
     have h6 := (yS (c := c.enter)).2 h5;have fw := zI c.enter [40];have hn : 200 <= (c.enter.want [40]).nest + k := by rw [fw.nest h6, yY h4]; show 200 <= c.nest + 1 + k; omega
     have a1 := (H _ hn).fine.at';have a2 := (zI (wr (c.enter.want [40])).1 [41]).at';have a3 : c.at' < (c.enter.want [40]).at' := by
      unfold Cu.want; rw [if_pos h5]; unfold Cu.take; rw [if_pos h5, yY h4]; exact Nat.lt_succ_self _
     have a4 : ∀ d : Cu, d.leave.at' = d.at' := fun d => by unfold Cu.leave; split <;> rfl
     rw [a4];omega
    ·
     obtain ⟨h5, _⟩ := xK h4;have e1 : c.enter.want [40] = c.enter := (zI _ _).stuck h5;rw [e1] at h7;exfalso;by_cases hn : 200 <= c.enter.nest + k
     ·
      exact h5 ((H c.enter hn).fine.err h7)
     ·
      have h2' : 200 <= c.nest := Decidable.byContradiction fun q => h4 (yF.2 ⟨h0, by omega⟩)
      have : c.enter.nest = c.nest := by
       unfold Cu.enter;rw [if_pos h0, if_pos h2']; unfold Cu.fail; rw [if_pos h0]
      omega
   ·
    rw [if_neg h3] at h; exact absurd h (uG c 5)
theorem pV (H : xP k wh wr) : xP (k + 1) (vY wh) (xZ wr) := by
 intro c hk;unfold vY xZ;by_cases h : c.peek.kind = 2
 ·
  rw [if_pos h, if_pos h];have h0 := vT (c := c) (by rw [h]; decide);have fa := yG c;have ea : c.adv.err = 0 := by rw [vQ]; exact h0
  have hr := AfD (xU H) (c.ws.length + 1) c.adv [] (by rw [fa.nest ea]; exact hk) ea (by rw [fa.ws]; omega) fun d _ hd he => uM H d hd he
  rcases hr.cases with ⟨e1, e2⟩ | ⟨e1, e2⟩
  ·
   rw [e2]; exact .good (fa.trans hr.fine) e1
  ·
   rw [e2]; exact .fail (fa.trans hr.fine) e1
 ·
  rw [if_neg h, if_neg h]; exact xU H c hk
def pZ (wr : Cu -> Cu × Nd) (c : Cu) : Cu × Nd :=
 if (xZ wr c).1.is [45, 62] = true then ((wr ((xZ wr c).1.take [45, 62])).1, .mk 2 (xZ wr c).2.pos 0 [45, 62] [(xZ wr c).2, (wr ((xZ wr c).1.take [45, 62])).2]) else xZ wr c
theorem cH (H : xP k wh wr) : xP k (uI wh) (pZ wr) := by
 intro c hk;unfold uI pZ;have hr := pV H c (by omega);rcases hr.cases with ⟨e1, e2⟩ | ⟨e1, e2⟩
 ·
  rw [e2];dsimp only;by_cases h : (xZ wr c).1.is [45, 62] = true
  ·
   rw [if_pos h, if_pos h];have ft := zX (xZ wr c).1 [45, 62];have hn : 200 <= ((xZ wr c).1.take [45, 62]).nest + k := by rw [ft.nest (by rw [uQ]; exact e1), hr.fine.nest e1]; exact hk
   have hw := H _ hn;have f := hr.fine.trans (ft.trans hw.fine);rcases hw.cases with ⟨e3, e4⟩ | ⟨e3, e4⟩
   ·
    rw [e4]; exact .good f e3
   ·
    rw [e4]; exact .fail f e3
  ·
   rw [if_neg h, if_neg h, xL h]; exact .good hr.fine e1
 ·
  rw [e2, if_neg (fun q => e1 (uJ q))]; exact .fail hr.fine e1
theorem nE (wr : Cu -> Cu × Nd) {c : Cu} (h : c.err ≠ 0) : pZ wr c = (c, sH) := by
 have hz : xZ wr c = (c, sH) := by
  unfold xZ;rw [if_neg (show ¬ c.peek.kind = 2 by rw [wW h]; decide)];unfold zM;rw [if_pos h]
 unfold pZ;rw [hz, if_neg (show ¬ (c, sH).1.is [45, 62] = true by rw [xT h]; decide)]
theorem AcZ (n : Nat) (c : Cu) : atR (n + 1) c = ((pZ (atR n) c.enter).1.leave, (pZ (atR n) c.enter).2) := by
 show (if _ then _ else _) = _;unfold pZ;split <;> rfl
theorem pair_whole : ∀ n, xP n (wholeP n) (atR n)
 | 0 => fun c hk => by
  have h4 : ¬ c.enters = true := fun q => by have := (yF.1 q).2; omega
  obtain ⟨h5, h6⟩ := xK h4;exact .fail h6 h5
 | n + 1 => fun c hk => by
  have H := cH (pair_whole n);rw [AcZ];show uO c (deeper (uI (wholeP n)) c) _;unfold deeper;by_cases h4 : c.enters = true
  ·
   rw [if_pos h4];have hr := H c.enter (by rw [yY h4]; show 200 <= c.nest + 1 + n; omega);have f := rV h4 hr.fine;rcases hr.cases with ⟨e1, e2⟩ | ⟨e1, e2⟩
   ·
    rw [e2]; exact .good f (by rw [rE]; exact e1)
   ·
    rw [e2, yU e1] at *; exact .fail f e1
  ·
   rw [if_neg h4];obtain ⟨h5, h6⟩ := xK h4;have e : (pZ (atR n) c.enter).1 = c.enter := by rw [nE _ h5]
   rw [e, yU h5];exact .fail h6 h5
theorem atR_stuck (n : Nat) {c : Cu} (h : c.err ≠ 0) : atR n c = (c, sH) := by
 cases n with
 | zero => show (c.enter, sH) = _; rw [tQ h]
 | succ n =>
  rw [AcZ, tQ h];have hz := nE (atR n) h;rw [hz, yU h]
theorem qT {c : Cu} {x : Int} : c.kindOk x = true ↔ (c.kind x).err = 0 := by
 unfold Cu.kindOk Cu.kind;by_cases h : c.err = 0
 ·
  rw [if_pos h];by_cases h2 : (c.tok c.at').kind = x
  ·
   rw [if_pos h2, vQ]; simp [h, h2]
  ·
   rw [if_neg h2]; simp [h2, uG]
 ·
  rw [if_neg h]; simp [h]
theorem sD (H : xP k wh wr) : xP (k + 1) (xB wh) (wB wr) := by
 intro c hk;unfold xB wB;have fk := vC c 2;by_cases h : c.kindOk 2 = true
 ·
  rw [if_pos h];have h0 := qT.1 h;have hr := xU H (c.kind 2) (by rw [fk.nest h0]; exact hk);rcases hr.cases with ⟨e1, e2⟩ | ⟨e1, e2⟩
  ·
   rw [e2]; exact .good (fk.trans hr.fine) e1
  ·
   rw [e2]; exact .fail (fk.trans hr.fine) e1
 ·
  rw [if_neg h];have h0 : (c.kind 2).err ≠ 0 := fun q => h (qT.2 q)
  have hz : zM wr (c.kind 2) = (c.kind 2, sH) := by unfold zM; rw [if_pos h0]
  rw [hz]; exact .fail fk h0
theorem AcA {go : Cu -> Bool} {nx : Cu -> Cu} {rd : Cu -> yJ Nd} (f : Nat) : ∀ (c : Cu) (n : Nd) (l : List Nd), zY go nx rd f c (n :: l) = ((zY go nx rd f c l).1, (zY go nx rd f c l).2.map (n :: ·)) := by
 induction f with
 | zero => intro c n l; rfl
 | succ f ih =>
  intro c n l;unfold zY;by_cases h : go c = true
  ·
   rw [if_pos h, if_pos h];cases rd (nx c) with
   | mk d o =>
    cases o with
    | none => rfl
    | some m => dsimp only; rw [List.cons_append, ih]
  ·
   rw [if_neg h, if_neg h]; rfl
abbrev cW (p : Cu -> yJ Nd) : Nat -> Cu -> List Nd -> yJ (List Nd) := zY (fun c => c.is [44]) (fun c => c.take [44]) p
theorem cR {p : Cu -> yJ Nd} {r : Cu -> Cu × Nd} (H : xP k p r) (f : Nat) : ∀ (c : Cu) (l : List Nd), 200 <= c.nest + k -> (r c).1.err = 0 -> (r c).1.ws.length - (r c).1.at' < f ->
  uO c (cW p f (r c).1 (l ++ [(r c).2])) (vG r (f + 1) c l) := by
 induction f with
 | zero => intro c l _ _ h; omega
 | succ f ih =>
  intro c l hk he hf;have hr := H c hk;rw [show vG r (f + 1 + 1) c l = (if (r c).1.is [44] = true then vG r (f + 1) ((r c).1.take [44]) (l ++ [(r c).2]) else ((r c).1, l ++ [(r c).2])) from rfl];unfold cW zY;by_cases h : (r c).1.is [44] = true
  ·
   rw [if_pos h, if_pos h];have ft := zX (r c).1 [44];have et : ((r c).1.take [44]).err = 0 := by rw [uQ]; exact he
   have hn : 200 <= ((r c).1.take [44]).nest + k := by rw [ft.nest et, hr.fine.nest he]; exact hk
   have h2 := H _ hn;rcases h2.cases with ⟨e1, e2⟩ | ⟨e1, e2⟩
   ·
    rw [e2];dsimp only;have a1 := h2.fine.at';have a2 : (r c).1.at' < ((r c).1.take [44]).at' := by unfold Cu.take; rw [if_pos h]; exact Nat.lt_succ_self _
    have a3 := (vH h).2;have := ih ((r c).1.take [44]) (l ++ [(r c).2]) hn e1 (by rw [h2.fine.ws, ft.ws]; omega);exact ⟨this.cur, this.yes, this.no, hr.fine.trans (ft.trans this.fine)⟩
   ·
    rw [e2];dsimp only;rw [show vG r (f + 1) ((r c).1.take [44]) (l ++ [(r c).2]) = ((r ((r c).1.take [44])).1, l ++ [(r c).2] ++ [(r ((r c).1.take [44])).2]) from by
     show (if _ then _ else _) = _;rw [if_neg (fun q => e1 (uJ q))]]
    exact .fail (hr.fine.trans (ft.trans h2.fine)) e1
  ·
   rw [if_neg h, if_neg h];show uO c ((r c).1.take [44], _) _;rw [xL h];exact .good hr.fine he
theorem bK (H : xP k wh wr) : xP (k + 1) (xN wh) (tD wr) := by
 intro c hk;unfold xN tD;by_cases h : c.is [40] = true
 ·
  rw [if_pos h, if_pos h];have ft := zX c [40];have et : (c.take [40]).err = 0 := by rw [uQ]; exact uJ h
  by_cases h2 : (c.take [40]).is [41] = true
  ·
   rw [if_pos h2, if_pos h2];have e : (c.take [40]).want [41] = (c.take [40]).take [41] := by unfold Cu.want; rw [if_pos h2]
   rw [e];exact .good (ft.trans (zX _ _)) (by rw [uQ]; exact et)
  ·
   rw [if_neg h2, if_neg h2, xL h2];have hn : 200 <= (c.take [40]).nest + (k + 1) := by rw [ft.nest et]; exact hk
   have hr := sD H (c.take [40]) hn;rcases hr.cases with ⟨e1, e2⟩ | ⟨e1, e2⟩
   ·
    rw [e2];dsimp only;have hc := cR (sD H) (c.ws.length + 1) (c.take [40]) [] hn e1 (by rw [hr.fine.ws, ft.ws]; omega);have hm := AcA (go := fun c => c.is [44]) (nx := fun c => c.take [44]) (rd := xB wh) (c.ws.length + 1) (wB wr (c.take [40])).1 (wB wr (c.take [40])).2 [];rw [List.nil_append] at hc;unfold cW at hc;rw [hm] at hc;rcases hc.cases with ⟨e3, e4⟩ | ⟨e3, e4⟩
    ·
     cases hx : zY (fun c => c.is [44]) (fun c => c.take [44]) (xB wh) (c.ws.length + 1) (wB wr (c.take [40])).1 [] with
     | mk d o =>
      rw [hx] at e4;cases o with
      | none => simp at e4
      | some ks =>
       simp only [Option.map_some, Prod.mk.injEq, Option.some.injEq] at e4;obtain ⟨e5, e6⟩ := e4;dsimp only;rw [<- e5, <- e6];rw [<- e5] at e3;have fz := ft.trans (hc.fine.trans (zI _ [41]));rw [<- e5] at fz;by_cases h7 : d.is [41] = true
       ·
        rw [if_pos h7]; exact .good fz (yS.2 h7)
       ·
        rw [if_neg h7]; exact .fail fz (fun q => h7 (yS.1 q))
    ·
     cases hx : zY (fun c => c.is [44]) (fun c => c.take [44]) (xB wh) (c.ws.length + 1) (wB wr (c.take [40])).1 [] with
     | mk d o =>
      rw [hx] at e4;cases o with
      | some ks => simp at e4
      | none =>
       simp only [Option.map_none, Prod.mk.injEq] at e4;dsimp only;have e5 := e4.1;have fz := ft.trans hc.fine;rw [(zI _ [41]).stuck e3, <- e5];rw [<- e5] at fz e3;exact .fail fz e3
   ·
    rw [e2];dsimp only;have e : vG (wB wr) (c.ws.length + 2) (c.take [40]) [] = ((wB wr (c.take [40])).1, [(wB wr (c.take [40])).2]) := by
     show (if _ then _ else _) = _;rw [if_neg (fun q => e1 (uJ q))]; rfl
    rw [e, (zI _ [41]).stuck e1];exact .fail (ft.trans hr.fine) e1
 ·
  rw [if_neg h, if_neg h, xL h];have hr := sD H c hk;rcases hr.cases with ⟨e1, e2⟩ | ⟨e1, e2⟩
  ·
   rw [e2]; exact .good hr.fine e1
  ·
   rw [e2]; exact .fail hr.fine e1
theorem qV (H : xP k wh wr) : xP (k + 1) (yN wh) (xM wr) := by
 intro c hk;unfold yN xM;by_cases h : c.ahead [61, 62] = true
 ·
  rw [if_pos h, if_pos h];have hr := bK H c hk;have fz := hr.fine.trans (zI _ [61, 62]);rcases hr.cases with ⟨e1, e2⟩ | ⟨e1, e2⟩
  ·
   rw [e2];dsimp only;by_cases h7 : (tD wr c).1.is [61, 62] = true
   ·
    rw [if_pos h7]; exact .good fz (yS.2 h7)
   ·
    rw [if_neg h7]; exact .fail fz (fun q => h7 (yS.1 q))
  ·
   rw [e2, (zI _ [61, 62]).stuck e1]; exact .fail hr.fine e1
 ·
  rw [if_neg h, if_neg h];by_cases h0 : c.err = 0
  ·
   rw [if_pos h0]; exact .good (.refl c) h0
  ·
   rw [if_neg h0]; exact .fail (.refl c) h0
theorem AaS (H : xP k wh wr) (hst : ∀ d, d.err ≠ 0 -> (wr d).1 = d) : xP k (uZ wh) (pD wr) := by
 intro c hk;unfold uZ pD;have hr := qV H c (by omega);rcases hr.cases with ⟨e1, e2⟩ | ⟨e1, e2⟩
 ·
  rw [e2];dsimp only;have hw := H (xM wr c).1 (by rw [hr.fine.nest e1]; exact hk);rcases hw.cases with ⟨e3, e4⟩ | ⟨e3, e4⟩
  ·
   rw [e4]; exact .good (hr.fine.trans hw.fine) e3
  ·
   rw [e4]; exact .fail (hr.fine.trans hw.fine) e3
 ·
  rw [e2];dsimp only;have hs : (wr (xM wr c).1).1 = (xM wr c).1 := hst _ e1;rw [hs];exact .fail hr.fine e1
end
section
variable {k : Nat} {wh : Cu -> yJ Nd} {wr : Cu -> Cu × Nd}
theorem uO.some_of {α : Type} {c d : Cu} {o : yJ α} {r : Cu × α} {n : α} (h : uO c o r) (e : o = (d, some n)) : r.1 = d /\ r.2 = n /\ d.err = 0 := by
 rcases h.cases with ⟨e1, e2⟩ | ⟨e1, e2⟩
 ·
  rw [e] at e2;injection e2 with e3 e4
  injection e4 with e4
  exact ⟨e3.symm, e4.symm, by rw [e3]; exact e1⟩
 ·
  rw [e] at e2;injection e2 with _ e4
  cases e4
theorem uO.nest_of {α : Type} {c d : Cu} {o : yJ α} {r : Cu × α} {n : α} (h : uO c o r) (e : o = (d, some n)) : d.nest = c.nest /\ d.ws = c.ws /\ d.err = 0 /\ c.err = 0 := by
 obtain ⟨e1, e2, e3⟩ := h.some_of e;rw [<- e1] at e3 ⊢;exact ⟨h.fine.nest e3, h.fine.ws, e3, h.fine.err e3⟩
theorem qI (H : xP k wh wr) {c d : Cu} {n : Nd} (hk : 200 <= c.nest + (k + 1)) (hb : begins c = true) (h : atomP wh c = (d, some n)) : 200 <= d.nest + (k + 1) /\ d.ws.length - d.at' < c.ws.length - c.at' := by
 have hr := xU H c hk;obtain ⟨h1, h2, h3, h4⟩ := hr.nest_of h;obtain ⟨e1, e2, e3⟩ := hr.some_of h;have a := uM H c hk (by rw [e1]; exact e3);have b := wH hb;rw [e1] at a;rw [h1, h2];exact ⟨hk, by omega⟩
theorem pred_at (H : xP k wh wr) {c d : Cu} {n : Nd} (hk : 200 <= c.nest + (k + 1)) (h : xB wh c = (d, some n)) : c.at' <= d.at' := by
 have hr := sD H c hk;obtain ⟨e1, -, -⟩ := hr.some_of h;rw [<- e1]; exact hr.fine.at'
theorem bW (H : xP k wh wr) {c d : Cu} {n : Nd} (hk : 200 <= c.nest + (k + 1)) (hb : c.is [44] = true) (h : xB wh (c.take [44]) = (d, some n)) : 200 <= d.nest + (k + 1) /\ d.ws.length - d.at' < c.ws.length - c.at' := by
 have ft := zX c [44];have et : (c.take [44]).err = 0 := by rw [uQ]; exact uJ hb
 have hk2 : 200 <= (c.take [44]).nest + (k + 1) := by rw [ft.nest et]; exact hk
 have hr := sD H (c.take [44]) hk2;obtain ⟨h1, h2, h3, h4⟩ := hr.nest_of h;have a := pred_at H hk2 h;have b := (vH hb).2;have e : (c.take [44]).at' = c.at' + 1 := by unfold Cu.take; rw [if_pos hb]
 rw [h1, ft.nest et, h2, ft.ws];exact ⟨hk, by omega⟩
end
theorem lN {go : Cu -> Bool} {nx : Cu -> Cu} {rd : Cu -> yJ Nd} (f : Nat) : ∀ (c d : Cu) (l ks : List Nd), zY go nx rd f c l = (d, some ks) -> ks.length <= l.length + f := by
 induction f with
 | zero => intro c d l ks h; cases h
 | succ f ih =>
  intro c d l ks h;unfold zY at h;split at h
  ·
   cases hr : rd (nx c) with
   | mk e o =>
    rw [hr] at h;cases o with
    | none => cases h
    | some n => have := ih e d (l ++ [n]) ks h; simp at this; omega
  ·
   injection h with _ h
   injection h with h
   rw [<- h]; omega
theorem AbW {wh : Cu -> yJ Nd} {c d : Cu} {l : List Nd} (h : xN wh c = (d, some l)) : l.length <= c.ws.length + 2 := by
 unfold xN at h;split at h
 ·
  split at h
  ·
   injection h with _ h; injection h with h; rw [<- h]; simp
  ·
   cases hr : xB wh ((c.take [40]).take [41]) with
   | mk e o =>
    rw [hr] at h;cases o with
    | none => cases h
    | some n =>
     dsimp only at h;cases hm : zY (fun c => c.is [44]) (fun c => c.take [44]) (xB wh) (c.ws.length + 1) e [] with
     | mk e2 o2 =>
      rw [hm] at h;cases o2 with
      | none => cases h
      | some ks =>
       have := lN _ _ _ _ _ hm;dsimp only at h;split at h
       ·
        injection h with _ h; injection h with h; rw [<- h]; simp at this ⊢; omega
       ·
        cases h
 ·
  cases hr : xB wh (c.take [40]) with
  | mk e o =>
   rw [hr] at h;cases o with
   | none => cases h
   | some n => injection h with _ h; injection h with h; rw [<- h]; simp
theorem eM {wh : Cu -> yJ Nd} {c d : Cu} {l : List Nd} (h : yN wh c = (d, some l)) : l.length <= c.ws.length + 2 := by
 unfold yN at h;split at h
 ·
  cases hr : xN wh c with
  | mk e o =>
   rw [hr] at h;cases o with
   | none => cases h
   | some ks =>
    have := AbW hr;dsimp only at h;split at h
    ·
     injection h with _ h; injection h with h; rw [<- h]; exact this
    ·
     cases h
 ·
  injection h with _ h
  split at h
  ·
   injection h with h; rw [<- h]; simp
  ·
   cases h
end Go.Proofs.YtdjomhbmhooceaaGreat.N7
