import Derived.Test.YtdjomhbmhooceaaGreatE5
set_option linter.unusedVariables false
set_option linter.unusedSimpArgs false
namespace Go.Proofs.YtdjomhbmhooceaaGreat.N7
open Go.RowKit N5 N6
section
variable {k : Nat} {wh : Cu -> yJ Nd} {wr : Cu -> Cu × Nd}
def qL (wr : Cu -> Cu × Nd) (c : Cu) : Cu × Nd := (((wr (c.enter.want [40])).1.want [41]).leave, (wr (c.enter.want [40])).2)
theorem lP (H : xP k wh wr) (c : Cu) (hk : 200 <= c.nest + (k + 1)) (h3 : c.is [40] = true) : uO c (deeper (xV wh) c) (qL wr c) := by
 have h0 := uJ h3;unfold qL deeper;by_cases h4 : c.enters = true
 ·
  rw [if_pos h4];have h5 : c.enter.is [40] = true := by rw [yY h4]; exact h3
  have h6 := (yS (c := c.enter)).2 h5;have fw := zI c.enter [40];have hn : 200 <= (c.enter.want [40]).nest + k := by rw [fw.nest h6, yY h4]; show 200 <= c.nest + 1 + k; omega
  have hr := H (c.enter.want [40]) hn;have fz : zZ c (((wr (c.enter.want [40])).1.want [41]).leave) := rV h4 (fw.trans (hr.fine.trans (zI _ _)));unfold xV;rw [if_pos h5];rcases hr.cases with ⟨e1, e2⟩ | ⟨e1, e2⟩
  ·
   rw [e2];dsimp only;by_cases h7 : (wr (c.enter.want [40])).1.is [41] = true
   ·
    rw [if_pos h7];exact .good fz (by rw [rE]; exact yS.2 h7)
   ·
    rw [if_neg h7];have h8 : ((wr (c.enter.want [40])).1.want [41]).err ≠ 0 := fun q => h7 (yS.1 q)
    rw [yU h8] at fz ⊢;exact .fail fz h8
  ·
   rw [e2];have h8 : (wr (c.enter.want [40])).1.want [41] = (wr (c.enter.want [40])).1 := (zI _ _).stuck e1;rw [h8, yU e1] at fz ⊢;exact .fail fz e1
 ·
  rw [if_neg h4];obtain ⟨h5, h6⟩ := xK h4;have e1 : c.enter.want [40] = c.enter := (zI _ _).stuck h5;rw [e1];have hr : (wr c.enter).1 = c.enter := by
   by_cases hn : 200 <= c.enter.nest + k
   ·
    exact (H c.enter hn).fine.stuck h5
   ·
    exfalso;have : c.enter.nest = c.nest := by
     unfold Cu.enter;rw [if_pos h0];have h2 : 200 <= c.nest := Decidable.byContradiction fun q => h4 (yF.2 ⟨h0, by omega⟩)
     rw [if_pos h2]; unfold Cu.fail; rw [if_pos h0]
    have h2 : 200 <= c.nest := Decidable.byContradiction fun q => h4 (yF.2 ⟨h0, by omega⟩)
    omega
  rw [hr, (zI c.enter [41]).stuck h5, yU h5];exact .fail h6 h5
theorem eI (H : xP k wh wr) (c : Cu) (hk : 200 <= c.nest + (k + 1)) (h3 : c.is [40] = true) (h : (qL wr c).1.err = 0) : c.at' < (qL wr c).1.at' := by
 have h0 := uJ h3;unfold qL at h ⊢;dsimp only at h ⊢;have h8 : ((wr (c.enter.want [40])).1.want [41]).err = 0 := by rw [rE] at h; exact h
 have h7 := (zI _ _).err h8;by_cases h4 : c.enters = true
 ·
  have h5 : c.enter.is [40] = true := by rw [yY h4]; exact h3
  have h6 := (yS (c := c.enter)).2 h5;have fw := zI c.enter [40];have hn : 200 <= (c.enter.want [40]).nest + k := by rw [fw.nest h6, yY h4]; show 200 <= c.nest + 1 + k; omega
  have a1 := (H _ hn).fine.at';have a2 := (zI (wr (c.enter.want [40])).1 [41]).at';have a3 : c.at' < (c.enter.want [40]).at' := by
   unfold Cu.want; rw [if_pos h5]; unfold Cu.take; rw [if_pos h5, yY h4]; exact Nat.lt_succ_self _
  have a4 : ∀ d : Cu, d.leave.at' = d.at' := fun d => by unfold Cu.leave; split <;> rfl
  rw [a4];omega
 ·
  obtain ⟨h5, _⟩ := xK h4;have e1 : c.enter.want [40] = c.enter := (zI _ _).stuck h5;rw [e1] at h7;exfalso;by_cases hn : 200 <= c.enter.nest + k
  ·
   exact h5 ((H c.enter hn).fine.err h7)
  ·
   have h2' : 200 <= c.nest := Decidable.byContradiction fun q => h4 (yF.2 ⟨h0, by omega⟩)
   have : c.enter.nest = c.nest := by
    unfold Cu.enter;rw [if_pos h0, if_pos h2']; unfold Cu.fail; rw [if_pos h0]
   omega
theorem AdP {c : Cu} (h0 : c.err = 0) (h : c.at' < c.ws.length) : c.at' < c.adv.at' := by unfold Cu.adv; rw [if_pos ⟨h0, h⟩]; exact Nat.lt_succ_self _
def rR (bg : Cu -> Bool) (rd : Cu -> Cu × Nd) : Nat -> Cu -> List Nd -> Cu × List Nd
 | 0, c, l => (c, l)
 | f + 1, c, l => if bg c = true then rR bg rd f (rd c).1 (l ++ [(rd c).2]) else (c, l)
theorem eH {bg : Cu -> Bool} (hb : ∀ c, bg c = true -> c.err = 0) {r : Cu -> Cu × Nd} (f : Nat) {c : Cu} (l : List Nd) (h : c.err ≠ 0) : rR bg r f c l = (c, l) := by
 cases f with
 | zero => rfl
 | succ f => unfold rR; rw [if_neg (fun q => h (hb c q))]
theorem AcG {bg : Cu -> Bool} (hb0 : ∀ c, bg c = true -> c.err = 0) (hb1 : ∀ c, bg c = true -> c.at' < c.ws.length) {p : Cu -> yJ Nd} {r : Cu -> Cu × Nd} (H : xP k p r) (f : Nat) : ∀ (c : Cu) (l : List Nd), 200 <= c.nest + k -> c.err = 0 -> c.ws.length - c.at' < f -> (∀ c, bg c = true -> 200 <= c.nest + k -> (r c).1.err = 0 -> c.at' < (r c).1.at') ->
  uO c (zY bg id p f c l) (rR bg r f c l) := by
 induction f with
 | zero => intro c l _ _ h _; omega
 | succ f ih =>
  intro c l hk he hf hp;unfold zY rR;by_cases hb : bg c = true
  ·
   rw [if_pos hb, if_pos hb];have hr := H c hk;rcases hr.cases with ⟨e1, e2⟩ | ⟨e1, e2⟩
   ·
    rw [id, e2];dsimp only;have h1 := hp c hb hk e1;have h2 := hb1 c hb;have := ih (r c).1 (l ++ [(r c).2]) (by rw [hr.fine.nest e1]; exact hk) e1 (by rw [hr.fine.ws]; omega) hp;exact ⟨this.cur, this.yes, this.no, hr.fine.trans this.fine⟩
   ·
    rw [id, e2];dsimp only;rw [eH hb0 f _ e1];exact .fail hr.fine e1
  ·
   rw [if_neg hb, if_neg hb]; exact .good (.refl c) he
theorem iJ {rd : Cu -> yJ Nd} {rr : Cu -> Cu × Nd} {m : Nat} (H : xP m rd rr) (hst : ∀ d, d.err ≠ 0 -> (rr d).1 = d) (c : Cu) (hk : 200 <= c.nest + 1 + m) : uO c (deeper rd c) ((rr c.enter).1.leave, (rr c.enter).2) := by
 unfold deeper;by_cases h4 : c.enters = true
 ·
  rw [if_pos h4];have hr := H c.enter (by rw [yY h4]; exact hk);have f := rV h4 hr.fine;rcases hr.cases with ⟨e1, e2⟩ | ⟨e1, e2⟩
  ·
   rw [e2]; exact .good f (by rw [rE]; exact e1)
  ·
   rw [e2, yU e1] at *; exact .fail f e1
 ·
  rw [if_neg h4];obtain ⟨h5, h6⟩ := xK h4;rw [hst _ h5, yU h5];exact .fail h6 h5
end
end Go.Proofs.YtdjomhbmhooceaaGreat.N7
namespace Go.Proofs.YtdjomhbmhooceaaGreat.N8
open Go.RowKit N5 N6 N7
def begins (c : Cu) : Bool := decide (c.peek.kind = 1) || (decide (c.peek.kind = 2) || (decide (c.peek.kind = 3) || (c.is [95] || c.is [40])))
def leaf (t : Tk) : Nd := if t.kind = 1 then .mk 11 t.pos 0 t.text [] else if t.kind = 2 then .mk 14 t.pos 0 t.text [] else if t.kind = 3 then .mk 13 t.pos t.num [] [] else .mk 12 t.pos 0 [] []
def atomP (wh : Cu -> yJ Nd) (c : Cu) : yJ Nd :=
 if c.is [40] = true then deeper (xV wh) c
 else if begins c = true then (c.adv, some (leaf c.peek)) else (c.fail 5, none)
def vY (wh : Cu -> yJ Nd) (c : Cu) : yJ Nd :=
 if c.peek.kind = 2 then (match zY begins id (atomP wh) (c.ws.length + 1) c.adv [] with
  | (d, none) => (d, none)
  | (d, some ks) => (d, some (.mk 14 c.peek.pos 0 c.peek.text ks))) else atomP wh c
def wholeP : Nat -> Cu -> yJ Nd
 | 0, c => (c.enter, none)
 | n + 1, c => deeper (vY (wholeP n)) c
def wO (c : Cu) : Bool := decide (c.err = 0) && begins c
def zM (wr : Cu -> Cu × Nd) (c : Cu) : Cu × Nd :=
 if begins c = true then (if c.is [40] = true then qL wr c else (c.adv, leaf c.peek)) else (c.fail 5, sH)
def xZ (wr : Cu -> Cu × Nd) (c : Cu) : Cu × Nd :=
 if c.peek.kind = 2 then ((rR begins (zM wr) (c.ws.length + 1) c.adv []).1, .mk 14 c.peek.pos 0 c.peek.text (rR begins (zM wr) (c.ws.length + 1) c.adv []).2) else zM wr c
def atR : Nat -> Cu -> Cu × Nd
 | 0, c => (c.enter, sH)
 | n + 1, c => ((xZ (atR n) c.enter).1.leave, (xZ (atR n) c.enter).2)
theorem yC {c : Cu} (h : begins c = true) : c.err = 0 := by
 unfold begins at h;refine Decidable.byContradiction fun k => ?_
 rw [wW k, xT k, xT k] at h;simp at h
theorem wH {c : Cu} (h : begins c = true) : c.at' < c.ws.length := by
 unfold begins at h;simp only [Bool.or_eq_true, decide_eq_true_eq] at h;rcases h with h | h | h | h | h
 ·
  exact uC (by rw [h]; decide)
 ·
  exact uC (by rw [h]; decide)
 ·
  exact uC (by rw [h]; decide)
 ·
  exact (vH h).2
 ·
  exact (vH h).2
theorem uA (c : Cu) : wO c = begins c := by
 unfold wO;cases h : begins c with
 | true => simp [yC h]
 | false => simp
theorem qR {c : Cu} (h : c.is [40] = true) : begins c = true := by unfold begins; simp [h]
theorem tP {wr : Cu -> Cu × Nd} {c : Cu} (h : c.err ≠ 0) : zM wr c = (c, sH) := by
 unfold zM;rw [if_neg (fun q => h (yC q)), (vR c 5).stuck h]
theorem uB {wr : Cu -> Cu × Nd} {c : Cu} (h : c.err ≠ 0) : xZ wr c = (c, sH) := by
 unfold xZ;rw [if_neg (by rw [wW h]; decide)];exact tP h
theorem atR_stuck (n : Nat) {c : Cu} (h : c.err ≠ 0) : atR n c = (c, sH) := by
 cases n with
 | zero => show (c.enter, sH) = _; rw [tQ h]
 | succ n => show ((xZ (atR n) c.enter).1.leave, _) = _; rw [tQ h, uB h, yU h]
section
variable {k : Nat} {wh : Cu -> yJ Nd} {wr : Cu -> Cu × Nd}
theorem xU (H : xP k wh wr) : xP (k + 1) (atomP wh) (zM wr) := by
 intro c hk;unfold atomP zM;by_cases h3 : c.is [40] = true
 ·
  rw [if_pos h3, if_pos (qR h3), if_pos h3];exact lP H c hk h3
 ·
  rw [if_neg h3];by_cases hb : begins c = true
  ·
   rw [if_pos hb, if_pos hb, if_neg h3];exact .good (yG c) (by rw [vQ]; exact yC hb)
  ·
   rw [if_neg hb, if_neg hb];exact .fail (vR c 5) (uG c 5)
theorem uM (H : xP k wh wr) (c : Cu) (hk : 200 <= c.nest + (k + 1)) (h : (zM wr c).1.err = 0) : c.at' < (zM wr c).1.at' := by
 unfold zM at h ⊢;by_cases hb : begins c = true
 ·
  rw [if_pos hb] at h ⊢;by_cases h3 : c.is [40] = true
  ·
   rw [if_pos h3] at h ⊢;exact eI H c hk h3 h
  ·
   rw [if_neg h3] at h ⊢;exact AdP (yC hb) (wH hb)
 ·
  rw [if_neg hb] at h;exact absurd h (uG c 5)
theorem pV (H : xP k wh wr) : xP (k + 1) (vY wh) (xZ wr) := by
 intro c hk;unfold vY xZ;by_cases h : c.peek.kind = 2
 ·
  rw [if_pos h, if_pos h];have h0 := vT (c := c) (by rw [h]; decide);have fa := yG c;have ea : c.adv.err = 0 := by rw [vQ]; exact h0
  have hr := AcG (fun _ => yC) (fun _ => wH) (xU H) (c.ws.length + 1) c.adv [] (by rw [fa.nest ea]; exact hk) ea (by rw [fa.ws]; omega) fun d _ hd he => uM H d hd he
  rcases hr.cases with ⟨e1, e2⟩ | ⟨e1, e2⟩
  ·
   rw [e2]; exact .good (fa.trans hr.fine) e1
  ·
   rw [e2]; exact .fail (fa.trans hr.fine) e1
 ·
  rw [if_neg h, if_neg h]; exact xU H c hk
theorem qI (H : xP k wh wr) {c d : Cu} {n : Nd} (hk : 200 <= c.nest + (k + 1)) (hb : begins c = true) (h : atomP wh c = (d, some n)) : 200 <= d.nest + (k + 1) /\ d.ws.length - d.at' < c.ws.length - c.at' := by
 have hr := xU H c hk;obtain ⟨h1, h2, h3, h4⟩ := hr.nest_of h;obtain ⟨e1, e2, e3⟩ := hr.some_of h;have a := uM H c hk (by rw [e1]; exact e3);have b := wH hb;rw [e1] at a;rw [h1, h2];exact ⟨hk, by omega⟩
end
theorem pair_whole : ∀ n, xP n (wholeP n) (atR n)
 | 0 => fun c hk => by
  have h4 : ¬ c.enters = true := fun q => by have := (yF.1 q).2; omega
  obtain ⟨h5, h6⟩ := xK h4;exact .fail h6 h5
 | n + 1 => fun c hk => iJ (pV (pair_whole n)) (fun d hd => by rw [uB hd]) c (by omega)
end Go.Proofs.YtdjomhbmhooceaaGreat.N8
namespace Go.Proofs.YtdjomhbmhooceaaGreat.N7
open Go.RowKit N5 N6
theorem dA (c : Cu) : c.leave.at' = c.at' := by unfold Cu.leave; split <;> rfl
theorem qB (c : Cu) : c.enter.at' = c.at' := by
 unfold Cu.enter;split
 ·
  split
  ·
   unfold Cu.fail; split <;> rfl
  ·
   rfl
 ·
  rfl
theorem mF {c : Cu} (h : c.peek.kind ≠ 0) : c.adv.at' = c.at' + 1 := by unfold Cu.adv; rw [if_pos ⟨vT h, uC h⟩]
theorem rB {c : Cu} {x : List UInt8} (h : c.is x = true) : (c.take x).at' = c.at' + 1 := by unfold Cu.take; rw [if_pos h]
theorem wZ {c : Cu} {x : List UInt8} (h : c.is x = true) : (c.want x).at' = c.at' + 1 := by unfold Cu.want; rw [if_pos h]; exact rB h
theorem gC {c : Cu} {k : Int} (hk : k ≠ 0) (h : c.kindOk k = true) : (c.kind k).at' = c.at' + 1 := by
 unfold Cu.kindOk at h;simp only [Bool.and_eq_true, decide_eq_true_eq] at h;unfold Cu.kind;rw [if_pos h.1, if_pos h.2];exact mF (by unfold Cu.peek; rw [if_pos h.1, h.2]; exact hk)
def sA (p : Cu -> yJ Nd) : Prop := ∀ c d t, p c = (d, some t) -> t.size + c.at' <= d.at'
theorem sX {rd : Cu -> yJ Nd} {c : Cu} (h : ∀ d t, rd c.enter = (d, some t) -> t.size + c.at' <= d.at') {d : Cu} {t : Nd} (e : deeper rd c = (d, some t)) : t.size + c.at' <= d.at' := by
 unfold deeper at e;split at e
 ·
  cases hr : rd c.enter with
  | mk a o =>
   rw [hr] at e;cases o with
   | none => cases e
   | some n =>
    injection e with e1 e2
    injection e2 with e2
    have := h a n hr;rw [<- e1, <- e2, dA]; exact this
 ·
  cases e
section
variable {wh : Cu -> yJ Nd}
theorem uE (H : sA wh) : sA (atomP wh) := by
 intro c d t e;unfold atomP at e;split at e
 ·
  rename_i h;injection e with e1 e2; injection e2 with e2
  rw [<- e1, <- e2, mF (by rw [h]; decide)];show 1 + c.at' <= _; omega
 ·
  split at e
  ·
   rename_i h;injection e with e1 e2; injection e2 with e2
   rw [<- e1, <- e2, mF (by rw [h]; decide)];show 1 + c.at' <= _; omega
  ·
   split at e
   ·
    refine sX (fun d t e => ?_) e;unfold xV at e;split at e
    ·
     rename_i hi;cases hr : wh (c.enter.want [40]) with
     | mk a o =>
      rw [hr] at e;cases o with
      | none => cases e
      | some n =>
       have := H _ _ _ hr;rw [wZ hi, qB] at this;dsimp only at e;split at e
       ·
        rename_i hj;injection e with e1 e2; injection e2 with e2
        rw [<- e1, <- e2, wZ hj]; omega
       ·
        cases e
    ·
     cases e
   ·
    cases e
theorem nA {go : Cu -> Bool} {nx : Cu -> Cu} {rd : Cu -> yJ Nd} (H : sA rd) (hn : ∀ c, c.at' <= (nx c).at') (f : Nat) : ∀ (c d : Cu) (l ks : List Nd), zY go nx rd f c l = (d, some ks) -> Nd.sizes ks + c.at' <= d.at' + Nd.sizes l := by
 induction f with
 | zero => intro c d l ks h; cases h
 | succ f ih =>
  intro c d l ks h;unfold zY at h;split at h
  ·
   cases hr : rd (nx c) with
   | mk e o =>
    rw [hr] at h;cases o with
    | none => cases h
    | some n =>
     have h1 := ih e d (l ++ [n]) ks h;have h2 := H _ _ _ hr;have h3 := hn c;rw [Nd.sizes_append] at h1;have h4 : Nd.sizes [n] = n.size := by show n.size + 0 = _; omega
     omega
  ·
   injection h with h1 h2
   injection h2 with h2
   have := hn c;rw [<- h1, <- h2]; omega
theorem mB (H : sA wh) : sA (vY wh) := by
 intro c d t e;unfold vY at e;split at e
 ·
  rename_i h;cases hm : zY begins id (atomP wh) (c.ws.length + 1) c.adv [] with
  | mk a o =>
   rw [hm] at e;cases o with
   | none => cases e
   | some ks =>
    have := nA (uE H) (fun c => Nat.le_refl _) _ _ _ _ _ hm;rw [mF (by rw [h]; decide)] at this;injection e with e1 e2; injection e2 with e2
    rw [<- e1, <- e2, Nd.size_eq];show Nd.sizes ks + 1 + _ <= _;have : Nd.sizes ([] : List Nd) = 0 := rfl;omega
 ·
  exact uE H _ _ _ e
theorem dS (H : sA wh) : sA (uI wh) := by
 intro c d t e;unfold uI at e;cases hr : vY wh c with
 | mk a o =>
  rw [hr] at e;cases o with
  | none => cases e
  | some n =>
   have h1 := mB H _ _ _ hr;dsimp only at e;split at e
   ·
    rename_i hi;cases hw : wh (a.take [45, 62]) with
    | mk b o =>
     rw [hw] at e;cases o with
     | none => cases e
     | some m =>
      have h2 := H _ _ _ hw;rw [rB hi] at h2;injection e with e1 e2; injection e2 with e2
      rw [<- e1, <- e2, Nd.size_eq];show n.size + (m.size + 0) + 1 + _ <= _;omega
   ·
    injection e with e1 e2; injection e2 with e2
    rename_i hi;rw [<- e1, <- e2, xL hi]; exact h1
end
theorem whole_sized : ∀ n, sA (wholeP n)
 | 0 => fun c d t e => by cases e
 | n + 1 => fun c d t e => sX (fun d t e => by have := dS (whole_sized n) _ _ _ e; rw [qB] at this; exact this) e
theorem nD {wh : Cu -> yJ Nd} (H : sA wh) : sA (xB wh) := by
 intro c d t e;unfold xB at e;split at e
 ·
  rename_i h;cases hr : atomP wh (c.kind 2) with
  | mk a o =>
   rw [hr] at e;cases o with
   | none => cases e
   | some n =>
    have := uE H _ _ _ hr;rw [gC (by decide) h] at this;injection e with e1 e2; injection e2 with e2
    rw [<- e1, <- e2, Nd.size_eq];show n.size + 0 + 1 + _ <= _;omega
 ·
  cases e
theorem eL {wh : Cu -> yJ Nd} (H : sA wh) {c d : Cu} {l : List Nd} (e : xN wh c = (d, some l)) : Nd.sizes l + c.at' <= d.at' := by
 unfold xN at e;split at e
 ·
  rename_i h;split at e
  ·
   rename_i h2;injection e with e1 e2; injection e2 with e2
   rw [<- e1, <- e2, rB h2, rB h];show 0 + _ <= _; omega
  ·
   rename_i h2;rw [xL h2] at e;cases hr : xB wh (c.take [40]) with
   | mk a o =>
    rw [hr] at e;cases o with
    | none => cases e
    | some n =>
     have h3 := nD H _ _ _ hr;rw [rB h] at h3;dsimp only at e;cases hm : zY (fun c => c.is [44]) (fun c => c.take [44]) (xB wh) (c.ws.length + 1) a [] with
     | mk b o =>
      rw [hm] at e;cases o with
      | none => cases e
      | some ks =>
       have h4 := nA (nD H) (fun c => by unfold Cu.take; split <;> (first | exact Nat.le_succ _ | exact Nat.le_refl _)) _ _ _ _ _ hm;dsimp only at e;split at e
       ·
        rename_i hi;injection e with e1 e2; injection e2 with e2
        rw [<- e1, <- e2, wZ hi, Nd.sizes_cons];have : Nd.sizes ([] : List Nd) = 0 := rfl;omega
       ·
        cases e
 ·
  rename_i h;rw [xL h] at e;cases hr : xB wh c with
  | mk a o =>
   rw [hr] at e;cases o with
   | none => cases e
   | some n =>
    have h3 := nD H _ _ _ hr;injection e with e1 e2; injection e2 with e2
    rw [<- e1, <- e2];show n.size + 0 + _ <= _;omega
theorem kZ {wh : Cu -> yJ Nd} (H : sA wh) {c d : Cu} {l : List Nd} (e : yN wh c = (d, some l)) : Nd.sizes l + c.at' <= d.at' := by
 unfold yN at e;split at e
 ·
  cases hr : xN wh c with
  | mk a o =>
   rw [hr] at e;cases o with
   | none => cases e
   | some ks =>
    have := eL H hr;dsimp only at e;split at e
    ·
     rename_i hi;injection e with e1 e2; injection e2 with e2
     rw [<- e1, <- e2, wZ hi]; omega
    ·
     cases e
 ·
  injection e with e1 e2
  split at e2
  ·
   injection e2 with e2
   rw [<- e1, <- e2]; show 0 + _ <= _; omega
  ·
   cases e2
theorem aG {wh : Cu -> yJ Nd} (H : sA wh) {c d : Cu} {t : Nd} (e : uZ wh c = (d, some t)) : t.size + c.at' <= d.at' + 1 := by
 unfold uZ at e;cases hr : yN wh c with
 | mk a o =>
  rw [hr] at e;cases o with
  | none => cases e
  | some l =>
   have h1 := kZ H hr;dsimp only at e;cases hw : wh a with
   | mk b o =>
    rw [hw] at e;cases o with
    | none => cases e
    | some n =>
     have h2 := H _ _ _ hw;injection e with e1 e2; injection e2 with e2
     rw [<- e1, <- e2, Nd.size_eq];show Nd.sizes (l ++ [n]) + 1 + _ <= _;rw [Nd.sizes_append];have h4 : Nd.sizes [n] = n.size := by show n.size + 0 = _; omega
     omega
end Go.Proofs.YtdjomhbmhooceaaGreat.N7
