import Derived.Test.YtdjomhbmhooceaaGreatF5
set_option linter.unusedVariables false
set_option linter.unusedSimpArgs false
namespace Go.Proofs.YtdjomhbmhooceaaGreat.N7
open Go.RowKit N5 N6
section
variable {k : Nat} {wh : Cu -> yM Nd} {wr : Cu -> Cu × Nd}
def rU (wr : Cu -> Cu × Nd) (c : Cu) : Cu × Nd := (((wr (c.enter.want [40])).1.want [41]).leave, (wr (c.enter.want [40])).2)
theorem mJ (H : xI k wh wr) (c : Cu) (hk : 200 <= c.nest + (k + 1)) (h3 : c.is [40] = true) : uG c (deeper (wA wh) c) (rU wr c) := by
 have h0 := vT h3;unfold rU deeper;by_cases h4 : c.enters = true
 ·
  rw [if_pos h4];have h5 : c.enter.is [40] = true := by rw [yR h4]; exact h3
  have h6 := (yN (c := c.enter)).2 h5;have fw := zL c.enter [40];have hn : 200 <= (c.enter.want [40]).nest + k := by rw [fw.nest h6, yR h4]; show 200 <= c.nest + 1 + k; omega
  have hr := H (c.enter.want [40]) hn;have fz : zY c (((wr (c.enter.want [40])).1.want [41]).leave) := sW h4 (fw.trans (hr.fine.trans (zL _ _)));unfold wA;rw [if_pos h5];rcases hr.cases with ⟨e1, e2⟩ | ⟨e1, e2⟩
  ·
   rw [e2];dsimp only;by_cases h7 : (wr (c.enter.want [40])).1.is [41] = true
   ·
    rw [if_pos h7];exact .good fz (by rw [sL]; exact yN.2 h7)
   ·
    rw [if_neg h7];have h8 : ((wr (c.enter.want [40])).1.want [41]).err ≠ 0 := fun q => h7 (yN.1 q)
    rw [yO h8] at fz ⊢;exact .fail fz h8
  ·
   rw [e2];have h8 : (wr (c.enter.want [40])).1.want [41] = (wr (c.enter.want [40])).1 := (zL _ _).stuck e1;rw [h8, yO e1] at fz ⊢;exact .fail fz e1
 ·
  rw [if_neg h4];obtain ⟨h5, h6⟩ := xC h4;have e1 : c.enter.want [40] = c.enter := (zL _ _).stuck h5;rw [e1];have hr : (wr c.enter).1 = c.enter := by
   by_cases hn : 200 <= c.enter.nest + k
   ·
    exact (H c.enter hn).fine.stuck h5
   ·
    exfalso;have : c.enter.nest = c.nest := by
     unfold Cu.enter;rw [if_pos h0];have h2 : 200 <= c.nest := Decidable.byContradiction fun q => h4 (yF.2 ⟨h0, by omega⟩)
     rw [if_pos h2]; unfold Cu.fail; rw [if_pos h0]
    have h2 : 200 <= c.nest := Decidable.byContradiction fun q => h4 (yF.2 ⟨h0, by omega⟩)
    omega
  rw [hr, (zL c.enter [41]).stuck h5, yO h5];exact .fail h6 h5
theorem gH (H : xI k wh wr) (c : Cu) (hk : 200 <= c.nest + (k + 1)) (h3 : c.is [40] = true) (h : (rU wr c).1.err = 0) : c.at' < (rU wr c).1.at' := by
 have h0 := vT h3;unfold rU at h ⊢;dsimp only at h ⊢;have h8 : ((wr (c.enter.want [40])).1.want [41]).err = 0 := by rw [sL] at h; exact h
 have h7 := (zL _ _).err h8;by_cases h4 : c.enters = true
 ·
  have h5 : c.enter.is [40] = true := by rw [yR h4]; exact h3
  have h6 := (yN (c := c.enter)).2 h5;have fw := zL c.enter [40];have hn : 200 <= (c.enter.want [40]).nest + k := by rw [fw.nest h6, yR h4]; show 200 <= c.nest + 1 + k; omega
  have a1 := (H _ hn).fine.at';have a2 := (zL (wr (c.enter.want [40])).1 [41]).at';have a3 : c.at' < (c.enter.want [40]).at' := by
   unfold Cu.want; rw [if_pos h5]; unfold Cu.take; rw [if_pos h5, yR h4]; exact Nat.lt_succ_self _
  have a4 : ∀ d : Cu, d.leave.at' = d.at' := fun d => by unfold Cu.leave; split <;> rfl
  rw [a4];omega
 ·
  obtain ⟨h5, _⟩ := xC h4;have e1 : c.enter.want [40] = c.enter := (zL _ _).stuck h5;rw [e1] at h7;exfalso;by_cases hn : 200 <= c.enter.nest + k
  ·
   exact h5 ((H c.enter hn).fine.err h7)
  ·
   have h2' : 200 <= c.nest := Decidable.byContradiction fun q => h4 (yF.2 ⟨h0, by omega⟩)
   have : c.enter.nest = c.nest := by
    unfold Cu.enter;rw [if_pos h0, if_pos h2']; unfold Cu.fail; rw [if_pos h0]
   omega
theorem AaQ {c : Cu} (h0 : c.err = 0) (h : c.at' < c.ws.length) : c.at' < c.adv.at' := by unfold Cu.adv; rw [if_pos ⟨h0, h⟩]; exact Nat.lt_succ_self _
def sV (bg : Cu -> Bool) (rd : Cu -> Cu × Nd) : Nat -> Cu -> List Nd -> Cu × List Nd
 | 0, c, l => (c, l)
 | f + 1, c, l => if bg c = true then sV bg rd f (rd c).1 (l ++ [(rd c).2]) else (c, l)
theorem gD {bg : Cu -> Bool} (hb : ∀ c, bg c = true -> c.err = 0) {r : Cu -> Cu × Nd} (f : Nat) {c : Cu} (l : List Nd) (h : c.err ≠ 0) : sV bg r f c l = (c, l) := by
 cases f with
 | zero => rfl
 | succ f => unfold sV; rw [if_neg (fun q => h (hb c q))]
theorem bA {bg : Cu -> Bool} (hb0 : ∀ c, bg c = true -> c.err = 0) (hb1 : ∀ c, bg c = true -> c.at' < c.ws.length) {p : Cu -> yM Nd} {r : Cu -> Cu × Nd} (H : xI k p r) (f : Nat) : ∀ (c : Cu) (l : List Nd), 200 <= c.nest + k -> c.err = 0 -> c.ws.length - c.at' < f -> (∀ c, bg c = true -> 200 <= c.nest + k -> (r c).1.err = 0 -> c.at' < (r c).1.at') ->
  uG c (yA bg id p f c l) (sV bg r f c l) := by
 induction f with
 | zero => intro c l _ _ h _; omega
 | succ f ih =>
  intro c l hk he hf hp;unfold yA sV;by_cases hb : bg c = true
  ·
   rw [if_pos hb, if_pos hb];have hr := H c hk;rcases hr.cases with ⟨e1, e2⟩ | ⟨e1, e2⟩
   ·
    rw [id, e2];dsimp only;have h1 := hp c hb hk e1;have h2 := hb1 c hb;have := ih (r c).1 (l ++ [(r c).2]) (by rw [hr.fine.nest e1]; exact hk) e1 (by rw [hr.fine.ws]; omega) hp;exact ⟨this.cur, this.yes, this.no, hr.fine.trans this.fine⟩
   ·
    rw [id, e2];dsimp only;rw [gD hb0 f _ e1];exact .fail hr.fine e1
  ·
   rw [if_neg hb, if_neg hb]; exact .good (.refl c) he
theorem lX {rd : Cu -> yM Nd} {rr : Cu -> Cu × Nd} {m : Nat} (H : xI m rd rr) (hst : ∀ d, d.err ≠ 0 -> (rr d).1 = d) (c : Cu) (hk : 200 <= c.nest + 1 + m) : uG c (deeper rd c) ((rr c.enter).1.leave, (rr c.enter).2) := by
 unfold deeper;by_cases h4 : c.enters = true
 ·
  rw [if_pos h4];have hr := H c.enter (by rw [yR h4]; exact hk);have f := sW h4 hr.fine;rcases hr.cases with ⟨e1, e2⟩ | ⟨e1, e2⟩
  ·
   rw [e2]; exact .good f (by rw [sL]; exact e1)
  ·
   rw [e2, yO e1] at *; exact .fail f e1
 ·
  rw [if_neg h4];obtain ⟨h5, h6⟩ := xC h4;rw [hst _ h5, yO h5];exact .fail h6 h5
end
end Go.Proofs.YtdjomhbmhooceaaGreat.N7
namespace Go.Proofs.YtdjomhbmhooceaaGreat.N8
open Go.RowKit N5 N6 N7
def zI (c : Cu) : Bool := decide (c.peek.kind = 1) || (decide (c.peek.kind = 2) || (decide (c.peek.kind = 3) || (c.is [95] || c.is [40])))
def sF (t : Tk) : Nd := if t.kind = 1 then .mk 11 t.pos 0 t.text [] else if t.kind = 2 then .mk 14 t.pos 0 t.text [] else if t.kind = 3 then .mk 13 t.pos t.num [] [] else .mk 12 t.pos 0 [] []
def zV (wh : Cu -> yM Nd) (c : Cu) : yM Nd :=
 if c.is [40] = true then deeper (wA wh) c
 else if zI c = true then (c.adv, some (sF c.peek)) else (c.fail 5, none)
def vY (wh : Cu -> yM Nd) (c : Cu) : yM Nd :=
 if c.peek.kind = 2 then (match yA zI id (zV wh) (c.ws.length + 1) c.adv [] with
  | (d, none) => (d, none)
  | (d, some ks) => (d, some (.mk 14 c.peek.pos 0 c.peek.text ks))) else zV wh c
def wholeP : Nat -> Cu -> yM Nd
 | 0, c => (c.enter, none)
 | n + 1, c => deeper (vY (wholeP n)) c
def wI (c : Cu) : Bool := decide (c.err = 0) && zI c
def zO (wr : Cu -> Cu × Nd) (c : Cu) : Cu × Nd :=
 if zI c = true then (if c.is [40] = true then rU wr c else (c.adv, sF c.peek)) else (c.fail 5, tZ)
def xV (wr : Cu -> Cu × Nd) (c : Cu) : Cu × Nd :=
 if c.peek.kind = 2 then ((sV zI (zO wr) (c.ws.length + 1) c.adv []).1, .mk 14 c.peek.pos 0 c.peek.text (sV zI (zO wr) (c.ws.length + 1) c.adv []).2) else zO wr c
def atR : Nat -> Cu -> Cu × Nd
 | 0, c => (c.enter, tZ)
 | n + 1, c => ((xV (atR n) c.enter).1.leave, (xV (atR n) c.enter).2)
theorem yC {c : Cu} (h : zI c = true) : c.err = 0 := by
 unfold zI at h;refine Decidable.byContradiction fun k => ?_
 rw [wM k, xM k, xM k] at h;simp at h
theorem wB {c : Cu} (h : zI c = true) : c.at' < c.ws.length := by
 unfold zI at h;simp only [Bool.or_eq_true, decide_eq_true_eq] at h;rcases h with h | h | h | h | h
 ·
  exact uJ (by rw [h]; decide)
 ·
  exact uJ (by rw [h]; decide)
 ·
  exact uJ (by rw [h]; decide)
 ·
  exact (wU h).2
 ·
  exact (wU h).2
theorem vP (c : Cu) : wI c = zI c := by
 unfold wI;cases h : zI c with
 | true => simp [yC h]
 | false => simp
theorem rR {c : Cu} (h : c.is [40] = true) : zI c = true := by unfold zI; simp [h]
theorem tE {wr : Cu -> Cu × Nd} {c : Cu} (h : c.err ≠ 0) : zO wr c = (c, tZ) := by
 unfold zO;rw [if_neg (fun q => h (yC q)), (vG c 5).stuck h]
theorem vN {wr : Cu -> Cu × Nd} {c : Cu} (h : c.err ≠ 0) : xV wr c = (c, tZ) := by
 unfold xV;rw [if_neg (by rw [wM h]; decide)];exact tE h
theorem atR_stuck (n : Nat) {c : Cu} (h : c.err ≠ 0) : atR n c = (c, tZ) := by
 cases n with
 | zero => show (c.enter, tZ) = _; rw [tF h]
 | succ n => show ((xV (atR n) c.enter).1.leave, _) = _; rw [tF h, vN h, yO h]
section
variable {k : Nat} {wh : Cu -> yM Nd} {wr : Cu -> Cu × Nd}
theorem xN (H : xI k wh wr) : xI (k + 1) (zV wh) (zO wr) := by
 intro c hk;unfold zV zO;by_cases h3 : c.is [40] = true
 ·
  rw [if_pos h3, if_pos (rR h3), if_pos h3];exact mJ H c hk h3
 ·
  rw [if_neg h3];by_cases hb : zI c = true
  ·
   rw [if_pos hb, if_pos hb, if_neg h3];exact .good (xH c) (by rw [vE]; exact yC hb)
  ·
   rw [if_neg hb, if_neg hb];exact .fail (vG c 5) (vR c 5)
theorem vV (H : xI k wh wr) (c : Cu) (hk : 200 <= c.nest + (k + 1)) (h : (zO wr c).1.err = 0) : c.at' < (zO wr c).1.at' := by
 unfold zO at h ⊢;by_cases hb : zI c = true
 ·
  rw [if_pos hb] at h ⊢;by_cases h3 : c.is [40] = true
  ·
   rw [if_pos h3] at h ⊢;exact gH H c hk h3 h
  ·
   rw [if_neg h3] at h ⊢;exact AaQ (yC hb) (wB hb)
 ·
  rw [if_neg hb] at h;exact absurd h (vR c 5)
theorem qF (H : xI k wh wr) : xI (k + 1) (vY wh) (xV wr) := by
 intro c hk;unfold vY xV;by_cases h : c.peek.kind = 2
 ·
  rw [if_pos h, if_pos h];have h0 := vZ (c := c) (by rw [h]; decide);have fa := xH c;have ea : c.adv.err = 0 := by rw [vE]; exact h0
  have hr := bA (fun _ => yC) (fun _ => wB) (xN H) (c.ws.length + 1) c.adv [] (by rw [fa.nest ea]; exact hk) ea (by rw [fa.ws]; omega) fun d _ hd he => vV H d hd he
  rcases hr.cases with ⟨e1, e2⟩ | ⟨e1, e2⟩
  ·
   rw [e2]; exact .good (fa.trans hr.fine) e1
  ·
   rw [e2]; exact .fail (fa.trans hr.fine) e1
 ·
  rw [if_neg h, if_neg h]; exact xN H c hk
theorem rL (H : xI k wh wr) {c d : Cu} {n : Nd} (hk : 200 <= c.nest + (k + 1)) (hb : zI c = true) (h : zV wh c = (d, some n)) : 200 <= d.nest + (k + 1) /\ d.ws.length - d.at' < c.ws.length - c.at' := by
 have hr := xN H c hk;obtain ⟨h1, h2, h3, h4⟩ := hr.nest_of h;obtain ⟨e1, e2, e3⟩ := hr.some_of h;have a := vV H c hk (by rw [e1]; exact e3);have b := wB hb;rw [e1] at a;rw [h1, h2];exact ⟨hk, by omega⟩
end
theorem pair_whole : ∀ n, xI n (wholeP n) (atR n)
 | 0 => fun c hk => by
  have h4 : ¬ c.enters = true := fun q => by have := (yF.1 q).2; omega
  obtain ⟨h5, h6⟩ := xC h4;exact .fail h6 h5
 | n + 1 => fun c hk => lX (qF (pair_whole n)) (fun d hd => by rw [vN hd]) c (by omega)
end Go.Proofs.YtdjomhbmhooceaaGreat.N8
namespace Go.Proofs.YtdjomhbmhooceaaGreat.N7
open Go.RowKit N5 N6
theorem jM (c : Cu) : c.leave.at' = c.at' := by unfold Cu.leave; split <;> rfl
theorem rE (c : Cu) : c.enter.at' = c.at' := by
 unfold Cu.enter;split
 ·
  split
  ·
   unfold Cu.fail; split <;> rfl
  ·
   rfl
 ·
  rfl
theorem oE {c : Cu} (h : c.peek.kind ≠ 0) : c.adv.at' = c.at' + 1 := by unfold Cu.adv; rw [if_pos ⟨vZ h, uJ h⟩]
theorem sG {c : Cu} {x : List UInt8} (h : c.is x = true) : (c.take x).at' = c.at' + 1 := by unfold Cu.take; rw [if_pos h]
theorem wN {c : Cu} {x : List UInt8} (h : c.is x = true) : (c.want x).at' = c.at' + 1 := by unfold Cu.want; rw [if_pos h]; exact sG h
theorem kP {c : Cu} {k : Int} (hk : k ≠ 0) (h : c.kindOk k = true) : (c.kind k).at' = c.at' + 1 := by
 unfold Cu.kindOk at h;simp only [Bool.and_eq_true, decide_eq_true_eq] at h;unfold Cu.kind;rw [if_pos h.1, if_pos h.2];exact oE (by unfold Cu.peek; rw [if_pos h.1, h.2]; exact hk)
def tM (p : Cu -> yM Nd) : Prop := ∀ c d t, p c = (d, some t) -> t.size + c.at' <= d.at'
theorem sH {rd : Cu -> yM Nd} {c : Cu} (h : ∀ d t, rd c.enter = (d, some t) -> t.size + c.at' <= d.at') {d : Cu} {t : Nd} (e : deeper rd c = (d, some t)) : t.size + c.at' <= d.at' := by
 unfold deeper at e;split at e
 ·
  cases hr : rd c.enter with
  | mk a o =>
   rw [hr] at e;cases o with
   | none => cases e
   | some n =>
    injection e with e1 e2
    injection e2 with e2
    have := h a n hr;rw [<- e1, <- e2, jM]; exact this
 ·
  cases e
section
variable {wh : Cu -> yM Nd}
theorem vO (H : tM wh) : tM (zV wh) := by
 intro c d t e;unfold zV at e;split at e
 ·
  rename_i h;injection e with e1 e2; injection e2 with e2
  rw [<- e1, <- e2, oE (by rw [h]; decide)];show 1 + c.at' <= _; omega
 ·
  split at e
  ·
   rename_i h;injection e with e1 e2; injection e2 with e2
   rw [<- e1, <- e2, oE (by rw [h]; decide)];show 1 + c.at' <= _; omega
  ·
   split at e
   ·
    refine sH (fun d t e => ?_) e;unfold wA at e;split at e
    ·
     rename_i hi;cases hr : wh (c.enter.want [40]) with
     | mk a o =>
      rw [hr] at e;cases o with
      | none => cases e
      | some n =>
       have := H _ _ _ hr;rw [wN hi, rE] at this;dsimp only at e;split at e
       ·
        rename_i hj;injection e with e1 e2; injection e2 with e2
        rw [<- e1, <- e2, wN hj]; omega
       ·
        cases e
    ·
     cases e
   ·
    cases e
theorem pI {go : Cu -> Bool} {nx : Cu -> Cu} {rd : Cu -> yM Nd} (H : tM rd) (hn : ∀ c, c.at' <= (nx c).at') (f : Nat) : ∀ (c d : Cu) (l ks : List Nd), yA go nx rd f c l = (d, some ks) -> Nd.sizes ks + c.at' <= d.at' + Nd.sizes l := by
 induction f with
 | zero => intro c d l ks h; cases h
 | succ f ih =>
  intro c d l ks h;unfold yA at h;split at h
  ·
   cases hr : rd (nx c) with
   | mk e o =>
    rw [hr] at h;cases o with
    | none => cases h
    | some n =>
     have h1 := ih e d (l ++ [n]) ks h;have h2 := H _ _ _ hr;have h3 := hn c;rw [Nd.sizes_append] at h1;have h4 : Nd.sizes [n] = n.size := by show n.size + 0 = _; omega
     omega
  ·
   injection h with h1 h2
   injection h2 with h2
   have := hn c;rw [<- h1, <- h2]; omega
theorem oG (H : tM wh) : tM (vY wh) := by
 intro c d t e;unfold vY at e;split at e
 ·
  rename_i h;cases hm : yA zI id (zV wh) (c.ws.length + 1) c.adv [] with
  | mk a o =>
   rw [hm] at e;cases o with
   | none => cases e
   | some ks =>
    have := pI (vO H) (fun c => Nat.le_refl _) _ _ _ _ _ hm;rw [oE (by rw [h]; decide)] at this;injection e with e1 e2; injection e2 with e2
    rw [<- e1, <- e2, Nd.size_eq];show Nd.sizes ks + 1 + _ <= _;have : Nd.sizes ([] : List Nd) = 0 := rfl;omega
 ·
  exact vO H _ _ _ e
theorem gL (H : tM wh) : tM (uM wh) := by
 intro c d t e;unfold uM at e;cases hr : vY wh c with
 | mk a o =>
  rw [hr] at e;cases o with
  | none => cases e
  | some n =>
   have h1 := oG H _ _ _ hr;dsimp only at e;split at e
   ·
    rename_i hi;cases hw : wh (a.take [45, 62]) with
    | mk b o =>
     rw [hw] at e;cases o with
     | none => cases e
     | some m =>
      have h2 := H _ _ _ hw;rw [sG hi] at h2;injection e with e1 e2; injection e2 with e2
      rw [<- e1, <- e2, Nd.size_eq];show n.size + (m.size + 0) + 1 + _ <= _;omega
   ·
    injection e with e1 e2; injection e2 with e2
    rename_i hi;rw [<- e1, <- e2, xL hi]; exact h1
end
theorem whole_sized : ∀ n, tM (wholeP n)
 | 0 => fun c d t e => by cases e
 | n + 1 => fun c d t e => sH (fun d t e => by have := gL (whole_sized n) _ _ _ e; rw [rE] at this; exact this) e
theorem pJ {wh : Cu -> yM Nd} (H : tM wh) : tM (xK wh) := by
 intro c d t e;unfold xK at e;split at e
 ·
  rename_i h;cases hr : zV wh (c.kind 2) with
  | mk a o =>
   rw [hr] at e;cases o with
   | none => cases e
   | some n =>
    have := vO H _ _ _ hr;rw [kP (by decide) h] at this;injection e with e1 e2; injection e2 with e2
    rw [<- e1, <- e2, Nd.size_eq];show n.size + 0 + 1 + _ <= _;omega
 ·
  cases e
theorem iM {wh : Cu -> yM Nd} (H : tM wh) {c d : Cu} {l : List Nd} (e : xT wh c = (d, some l)) : Nd.sizes l + c.at' <= d.at' := by
 unfold xT at e;split at e
 ·
  rename_i h;split at e
  ·
   rename_i h2;injection e with e1 e2; injection e2 with e2
   rw [<- e1, <- e2, sG h2, sG h];show 0 + _ <= _; omega
  ·
   rename_i h2;rw [xL h2] at e;cases hr : xK wh (c.take [40]) with
   | mk a o =>
    rw [hr] at e;cases o with
    | none => cases e
    | some n =>
     have h3 := pJ H _ _ _ hr;rw [sG h] at h3;dsimp only at e;cases hm : yA (fun c => c.is [44]) (fun c => c.take [44]) (xK wh) (c.ws.length + 1) a [] with
     | mk b o =>
      rw [hm] at e;cases o with
      | none => cases e
      | some ks =>
       have h4 := pI (pJ H) (fun c => by unfold Cu.take; split <;> (first | exact Nat.le_succ _ | exact Nat.le_refl _)) _ _ _ _ _ hm;dsimp only at e;split at e
       ·
        rename_i hi;injection e with e1 e2; injection e2 with e2
        rw [<- e1, <- e2, wN hi, Nd.sizes_cons];have : Nd.sizes ([] : List Nd) = 0 := rfl;omega
       ·
        cases e
 ·
  rename_i h;rw [xL h] at e;cases hr : xK wh c with
  | mk a o =>
   rw [hr] at e;cases o with
   | none => cases e
   | some n =>
    have h3 := pJ H _ _ _ hr;injection e with e1 e2; injection e2 with e2
    rw [<- e1, <- e2];show n.size + 0 + _ <= _;omega
theorem mW {wh : Cu -> yM Nd} (H : tM wh) {c d : Cu} {l : List Nd} (e : yQ wh c = (d, some l)) : Nd.sizes l + c.at' <= d.at' := by
 unfold yQ at e;split at e
 ·
  cases hr : xT wh c with
  | mk a o =>
   rw [hr] at e;cases o with
   | none => cases e
   | some ks =>
    have := iM H hr;dsimp only at e;split at e
    ·
     rename_i hi;injection e with e1 e2; injection e2 with e2
     rw [<- e1, <- e2, wN hi]; omega
    ·
     cases e
 ·
  injection e with e1 e2
  split at e2
  ·
   injection e2 with e2
   rw [<- e1, <- e2]; show 0 + _ <= _; omega
  ·
   cases e2
theorem gR {wh : Cu -> yM Nd} (H : tM wh) {c d : Cu} {t : Nd} (e : tA wh c = (d, some t)) : t.size + c.at' <= d.at' + 1 := by
 unfold tA at e;cases hr : yQ wh c with
 | mk a o =>
  rw [hr] at e;cases o with
  | none => cases e
  | some l =>
   have h1 := mW H hr;dsimp only at e;cases hw : wh a with
   | mk b o =>
    rw [hw] at e;cases o with
    | none => cases e
    | some n =>
     have h2 := H _ _ _ hw;injection e with e1 e2; injection e2 with e2
     rw [<- e1, <- e2, Nd.size_eq];show Nd.sizes (l ++ [n]) + 1 + _ <= _;rw [Nd.sizes_append];have h4 : Nd.sizes [n] = n.size := by show n.size + 0 = _; omega
     omega
end Go.Proofs.YtdjomhbmhooceaaGreat.N7
