import Derived.Test.YtdjomhbmhooceaaGreatE25
import Derived.Test.YtdjomhbmhooceaaGreatE48
import Derived.Test.YtdjomhbmhooceaaGreatE30
set_option linter.unusedVariables false
set_option linter.unusedSimpArgs false
namespace Go.Proofs.YtdjomhbmhooceaaGreat.N7
open Go.RowKit N5 N6
end Go.Proofs.YtdjomhbmhooceaaGreat.N7
namespace Go.Proofs.YtdjomhbmhooceaaGreat.N7
open Go.RowKit N5 N6
theorem mW {c : UInt8} (h : smallB c = true) : greatB c = false := by
 unfold smallB at h; unfold greatB;simp only [Bool.or_eq_true, decide_eq_true_eq] at h;simp only [decide_eq_false_iff_not];omega
theorem iL {t : Tk} (h : N4.Good t) : (t.kind = 1 -> qX t.text = true) /\ (t.kind = 2 -> sQ t.text = true) := by
 obtain ⟨k, p, n, l⟩ := t;unfold N4.Good at h;dsimp only at h ⊢;match l, h with
 | c :: r, h =>
  unfold N4.wordL at h;dsimp only at h;split at h
  ·
   split at h
   ·
    injection h with h; injection h with h1; subst h1; exact ⟨fun q => absurd q (by decide), fun q => absurd q (by decide)⟩
   ·
    cases h
  ·
   split at h
   ·
    rename_i hd hsg;injection h with h
    injection h with h1 h2 h3
    have hk := h1;rw [h3] at hk;have hall : (c :: r).all uH = true := by
     rw [<- h3];exact List.all_takeWhile
    unfold N4.nameKind at hk;split at hk
    ·
     subst hk; exact ⟨fun q => absurd q (by decide), fun q => absurd q (by decide)⟩
    ·
     rename_i hu;split at hk
     ·
      subst hk; exact ⟨fun q => absurd q (by decide), fun q => absurd q (by decide)⟩
     ·
      rename_i hr;split at hk
      ·
       rename_i hc;subst hk;exact ⟨fun q => absurd q (by decide), fun _ => hc⟩
      ·
       rename_i hc;subst hk;refine ⟨fun _ => ?_, fun q => absurd q (by decide)⟩;have hs : smallB c = true := by
        rcases hsg with h | h
        ·
         exact h
        ·
         exfalso;refine hc ?_;unfold sQ;dsimp only;rw [h, <- mH (r := r) h];exact hall
       unfold qX;dsimp only;have e3 : restOnB (c :: r) = true := by rw [<- mO hs]; exact hall
       simp [hs, e3, hr];exact Classical.or_iff_not_imp_left.2 fun q e => hu (by rw [Classical.not_not.1 q, e])
   ·
    split at h
    ·
     cases h
    ·
     injection h with h; injection h with h1; subst h1; exact ⟨fun q => absurd q (by decide), fun q => absurd q (by decide)⟩
end Go.Proofs.YtdjomhbmhooceaaGreat.N7
namespace Go.Proofs.YtdjomhbmhooceaaGreat.N7
open Go.RowKit N5 N6
structure jS (t : Tk) : Prop where
 var : t.kind = 1 -> qX t.text = true
 con : t.kind = 2 -> sQ t.text = true
 len : t.text.length <= maxLen
def tW (c : Cu) : Prop := ∀ t ∈ c.ws, jS t
theorem vX {c : Cu} (h : tW c) (hk : c.peek.kind ≠ 0) : jS c.peek := by
 have hl := uC hk;have he := vT hk;unfold Cu.peek;rw [if_pos he];unfold Cu.tok;rw [List.getD_eq_getElem?_getD, List.getElem?_eq_getElem hl];exact h _ (List.getElem_mem hl)
theorem kU (c : Cu) : c.leave.ws = c.ws := by unfold Cu.leave; split <;> rfl
theorem tX (c : Cu) : c.enter.ws = c.ws := by
 unfold Cu.enter;split
 ·
  split
  ·
   unfold Cu.fail; split <;> rfl
  ·
   rfl
 ·
  rfl
theorem xD {k p n : Int} {t : List UInt8} {ks : List Nd} (h : t.length <= maxLen) (hk : ∀ x ∈ ks, Nd.short x) : (Nd.mk k p n t ks).short := by
 refine ⟨h, ?_⟩;induction ks with
 | nil => trivial
 | cons x xs ih => exact ⟨hk x List.mem_cons_self, ih fun y hy => hk y (List.mem_cons_of_mem _ hy)⟩
def rU (q : Nd -> Bool) (p : Cu -> yJ Nd) : Prop := ∀ c d t, tW c -> p c = (d, some t) -> d.ws = c.ws /\ q t = true /\ t.short
abbrev typ? (t : Nd) : Bool := t.kinds.typ
theorem nI {q : Nd -> Bool} {rd : Cu -> yJ Nd} {c d : Cu} {t : Nd} (H : ∀ a n, rd c.enter = (a, some n) -> a.ws = c.ws /\ q n = true /\ n.short) (e : deeper rd c = (d, some t)) : d.ws = c.ws /\ q t = true /\ t.short := by
 unfold deeper at e;split at e
 ·
  cases hr : rd c.enter with
  | mk a o =>
   rw [hr] at e;cases o with
   | none => cases e
   | some n =>
    injection e with e1 e2; injection e2 with e2
    have := H a n hr;rw [<- e1, <- e2, kU]; exact this
 ·
  cases e
section
variable {wh : Cu -> yJ Nd}
theorem nB (H : rU typ? wh) : rU typ? (atomP wh) := by
 intro c d t hg e;unfold atomP at e;split at e
 ·
  rename_i h;have hp := vX hg (by rw [h]; decide);injection e with e1 e2; injection e2 with e2
  rw [<- e1, <- e2];refine ⟨(yG c).ws, ?_, xD hp.len fun x hx => by cases hx⟩;show (Nd.kinds _).typ = true;rw [Nd.kinds_eq];show rX 1 0 c.peek.text [] = true;unfold rX yQ;simp [hp.var h]
 ·
  split at e
  ·
   rename_i h;have hp := vX hg (by rw [h]; decide);injection e with e1 e2; injection e2 with e2
   rw [<- e1, <- e2];refine ⟨(yG c).ws, ?_, xD hp.len fun x hx => by cases hx⟩;show (Nd.kinds _).typ = true;rw [Nd.kinds_eq];show rX 2 0 c.peek.text [] = true;unfold rX;simp [hp.con h]
  ·
   split at e
   ·
    refine nI (fun a n e => ?_) e;unfold xV at e;split at e
    ·
     rename_i hi;cases hr : wh (c.enter.want [40]) with
     | mk b o =>
      rw [hr] at e;cases o with
      | none => cases e
      | some m =>
       have hw : (c.enter.want [40]).ws = c.ws := (zI _ _).ws.trans (tX c);have := H _ _ _ (by unfold tW; rw [hw]; exact hg) hr;dsimp only at e;split at e
       ·
        injection e with e1 e2; injection e2 with e2
        rw [<- e1, <- e2];exact ⟨(zI _ _).ws.trans (this.1.trans hw), this.2⟩
       ·
        cases e
    ·
     cases e
   ·
    cases e
theorem kI {q : Nd -> Bool} {go : Cu -> Bool} {nx : Cu -> Cu} {rd : Cu -> yJ Nd} (H : rU q rd) (hn : ∀ c, (nx c).ws = c.ws) (f : Nat) : ∀ (c d : Cu) (l ks : List Nd), tW c -> (∀ x ∈ l, q x = true /\ x.short) -> zY go nx rd f c l = (d, some ks) -> d.ws = c.ws /\ ∀ x ∈ ks, q x = true /\ x.short := by
 induction f with
 | zero => intro c d l ks _ _ h; cases h
 | succ f ih =>
  intro c d l ks hg hl h;unfold zY at h;split at h
  ·
   cases hr : rd (nx c) with
   | mk e o =>
    rw [hr] at h;cases o with
    | none => cases h
    | some n =>
     have h1 := H _ _ _ (by unfold tW; rw [hn]; exact hg) hr;have hw := h1.1.trans (hn c);have := ih e d (l ++ [n]) ks (by unfold tW; rw [hw]; exact hg) (fun x hx => by
      rcases List.mem_append.1 hx with hx | hx
      ·
       exact hl x hx
      ·
       rw [List.mem_singleton.1 hx]; exact h1.2) h
     exact ⟨this.1.trans hw, this.2⟩
  ·
   injection h with h1 h2; injection h2 with h2
   rw [<- h1, <- h2]; exact ⟨hn c, hl⟩
theorem aW {ks : List Nd} (h : ∀ x ∈ ks, typ? x = true /\ x.short) : (ks.map Nd.kinds).all (·.typ) = true := by
 rw [all_map];exact List.all_eq_true.2 fun x hx => (h x hx).1
theorem AaM (H : rU typ? wh) : rU typ? (vY wh) := by
 intro c d t hg e;unfold vY at e;split at e
 ·
  rename_i h;have hp := vX hg (by rw [h]; decide);cases hm : zY begins id (atomP wh) (c.ws.length + 1) c.adv [] with
  | mk a o =>
   rw [hm] at e;cases o with
   | none => cases e
   | some ks =>
    have hw := (yG c).ws;have := kI (nB H) (fun c => rfl) _ _ _ _ _ (by unfold tW; rw [hw]; exact hg) (fun x hx => by cases hx) hm;injection e with e1 e2; injection e2 with e2
    rw [<- e1, <- e2];refine ⟨this.1.trans hw, ?_, xD hp.len fun x hx => (this.2 x hx).2⟩;show (Nd.kinds _).typ = true;rw [Nd.kinds_eq];show rX 2 0 c.peek.text (ks.map Nd.kinds) = true;unfold rX;rw [if_neg (by decide), if_pos rfl, hp.con h, aW this.2];simp
 ·
  exact nB H _ _ _ hg e
theorem fQ (H : rU typ? wh) : rU typ? (uI wh) := by
 intro c d t hg e;unfold uI at e;cases hr : vY wh c with
 | mk a o =>
  rw [hr] at e;cases o with
  | none => cases e
  | some n =>
   have h1 := AaM H _ _ _ hg hr;dsimp only at e;split at e
   ·
    cases hw : wh (a.take [45, 62]) with
    | mk b o =>
     rw [hw] at e;cases o with
     | none => cases e
     | some m =>
      have hta : (a.take [45, 62]).ws = c.ws := (zX _ _).ws.trans h1.1;have h2 := H _ _ _ (by unfold tW; rw [hta]; exact hg) hw;injection e with e1 e2; injection e2 with e2
      rw [<- e1, <- e2];have hall : ∀ x ∈ [n, m], typ? x = true /\ x.short := fun x hx => by
       rcases List.mem_cons.1 hx with rfl | hx
       ·
        exact h1.2
       ·
        rw [List.mem_singleton.1 hx]; exact h2.2
      refine ⟨h2.1.trans hta, ?_, xD (by unfold maxLen; decide) fun x hx => (hall x hx).2⟩;show (Nd.kinds _).typ = true;rw [Nd.kinds_eq];show rX 2 0 [45, 62] ([n, m].map Nd.kinds) = true;unfold rX;rw [if_neg (by decide), if_pos rfl, aW hall];simp [sT]
   ·
    injection e with e1 e2; injection e2 with e2
    rw [<- e1, <- e2];exact ⟨(zX _ _).ws.trans h1.1, h1.2⟩
end
theorem whole_typed : ∀ n, rU typ? (wholeP n)
 | 0 => fun c d t _ e => by cases e
 | n + 1 => fun c d t hg e => nI (fun a m e => by
   have := fQ (whole_typed n) _ _ _ (by unfold tW; rw [tX]; exact hg) e;exact ⟨this.1.trans (tX c), this.2⟩) e
theorem oZ {wh : Cu -> yJ Nd} (H : rU typ? wh) : rU (fun t => t.kinds.pred) (xB wh) := by
 intro c d t hg e;unfold xB at e;split at e
 ·
  rename_i h;have hw := (vC c 2).ws;have hk : c.err = 0 /\ (c.tok c.at').kind = 2 := by unfold Cu.kindOk at h; simpa using h
  have hT : c.kindT 2 = c.peek := by unfold Cu.kindT Cu.peek; rw [if_pos hk, if_pos hk.1]
  have hp := vX hg (by unfold Cu.peek; rw [if_pos hk.1, hk.2]; decide);have hp2 := hp.con (by unfold Cu.peek; rw [if_pos hk.1]; exact hk.2);rw [<- hT] at hp hp2;cases hr : atomP wh (c.kind 2) with
  | mk a o =>
   rw [hr] at e;cases o with
   | none => cases e
   | some n =>
    have h1 := nB H _ _ _ (by unfold tW; rw [hw]; exact hg) hr;injection e with e1 e2; injection e2 with e2
    rw [<- e1, <- e2];refine ⟨h1.1.trans hw, ?_, xD hp.len fun x hx => by rw [List.mem_singleton.1 hx]; exact h1.2.2⟩;show (Nd.kinds _).pred = true;rw [Nd.kinds_eq];show oO 3 0 (c.kindT 2).text [n.kinds] = true;unfold oO sW;have := h1.2.1;simp [hp2, this]
 ·
  cases e
theorem eA {wh : Cu -> yJ Nd} (H : rU typ? wh) {c d : Cu} {l : List Nd} (hg : tW c) (e : xN wh c = (d, some l)) : d.ws = c.ws /\ ∀ x ∈ l, x.kinds.pred = true /\ x.short := by
 unfold xN at e;have ht := (zX c [40]).ws;split at e
 ·
  split at e
  ·
   injection e with e1 e2; injection e2 with e2
   rw [<- e1, <- e2]; exact ⟨(zX _ _).ws.trans ht, fun x hx => by cases hx⟩
  ·
   rename_i h2;rw [xL h2] at e;cases hr : xB wh (c.take [40]) with
   | mk a o =>
    rw [hr] at e;cases o with
    | none => cases e
    | some n =>
     have h3 := oZ H _ _ _ (by unfold tW; rw [ht]; exact hg) hr;have hwa := h3.1.trans ht;dsimp only at e;cases hm : zY (fun c => c.is [44]) (fun c => c.take [44]) (xB wh) (c.ws.length + 1) a [] with
     | mk b o =>
      rw [hm] at e;cases o with
      | none => cases e
      | some ks =>
       have h4 := kI (oZ H) (fun c => (zX c [44]).ws) _ _ _ _ _ (by unfold tW; rw [hwa]; exact hg) (fun x hx => by cases hx) hm;dsimp only at e;split at e
       ·
        injection e with e1 e2; injection e2 with e2
        rw [<- e1, <- e2];refine ⟨(zI _ _).ws.trans (h4.1.trans hwa), fun x hx => ?_⟩;rcases List.mem_cons.1 hx with rfl | hx
        ·
         exact h3.2
        ·
         exact h4.2 x hx
       ·
        cases e
 ·
  cases hr : xB wh (c.take [40]) with
  | mk a o =>
   rw [hr] at e;cases o with
   | none => cases e
   | some n =>
    have h3 := oZ H _ _ _ (by unfold tW; rw [ht]; exact hg) hr;injection e with e1 e2; injection e2 with e2
    rw [<- e1, <- e2];exact ⟨h3.1.trans ht, fun x hx => by rw [List.mem_singleton.1 hx]; exact h3.2⟩
theorem jI {wh : Cu -> yJ Nd} (H : rU typ? wh) {c d : Cu} {l : List Nd} (hg : tW c) (e : yN wh c = (d, some l)) : d.ws = c.ws /\ ∀ x ∈ l, x.kinds.pred = true /\ x.short := by
 unfold yN at e;split at e
 ·
  cases hr : xN wh c with
  | mk a o =>
   rw [hr] at e;cases o with
   | none => cases e
   | some ks =>
    have := eA H hg hr;dsimp only at e;split at e
    ·
     injection e with e1 e2; injection e2 with e2
     rw [<- e1, <- e2]; exact ⟨(zI _ _).ws.trans this.1, this.2⟩
    ·
     cases e
 ·
  injection e with e1 e2
  split at e2
  ·
   injection e2 with e2
   rw [<- e1, <- e2]; exact ⟨rfl, fun x hx => by cases hx⟩
  ·
   cases e2
theorem bV {wh : Cu -> yJ Nd} (H : rU typ? wh) : rU (fun t => t.kinds.qual) (uZ wh) := by
 intro c d t hg e;unfold uZ at e;cases hr : yN wh c with
 | mk a o =>
  rw [hr] at e;cases o with
  | none => cases e
  | some l =>
   have h1 := jI H hg hr;dsimp only at e;cases hw : wh a with
   | mk b o =>
    rw [hw] at e;cases o with
    | none => cases e
    | some n =>
     have h2 := H _ _ _ (by unfold tW; rw [h1.1]; exact hg) hw;injection e with e1 e2; injection e2 with e2
     rw [<- e1, <- e2];refine ⟨h2.1.trans h1.1, ?_, xD (by unfold maxLen; decide) fun x hx => ?_⟩
     ·
      show (Nd.kinds _).qual = true;rw [Nd.kinds_eq];show pH 4 0 [] ((l ++ [n]).map Nd.kinds) = true;have hn : n.kinds.typ = true := h2.2.1;have hl : (l.map Nd.kinds).all (·.pred) = true := by rw [all_map]; exact List.all_eq_true.2 fun x hx => (h1.2 x hx).1
      unfold pH vZ sW;simp [List.map_append, hn];intro x hx;exact (h1.2 x hx).1
     ·
      rcases List.mem_append.1 hx with hx | hx
      ·
       exact (h1.2 x hx).2
      ·
       rw [List.mem_singleton.1 hx]; exact h2.2.2
theorem fD : ∀ (l : List (List UInt8)) (t : List UInt8), t ∈ l -> t.length <= (N4.joinW l).length
 | [], t, h => by cases h
 | [x], t, h => by rw [List.mem_singleton.1 h]; exact Nat.le_refl _
 | x :: y :: r, t, h => by
  show _ <= (x ++ 32 :: N4.joinW (y :: r)).length;rw [List.length_append, List.length_cons];rcases List.mem_cons.1 h with rfl | h
  ·
   omega
  ·
   have := fD (y :: r) t h; omega
theorem good_of {s : ByteArray} {r : List Tk} (hs : s.size <= 3000) (h : N4.lexAll s = .ok r) : tW (newCu (r ++ [N4.endTk s])) := by
 intro t ht;have ht : t ∈ r ++ [N4.endTk s] := List.mem_of_mem_take (show t ∈ (r ++ [N4.endTk s]).take _ from ht);rcases List.mem_append.1 ht with ht | ht
 ·
  rw [N4.lexAll_lexR] at h;have hg := N4.lexR_good _ _ _ _ h t ht;have hl := (N4.lexR_short _ _ _ _ h).1;have := fD _ _ (List.mem_map.2 ⟨t, ht, rfl⟩ : t.text ∈ r.map (·.text));have e : s.data.toList.length = s.data.size := Array.length_toList;have hs' : s.data.size <= 3000 := hs;exact ⟨(iL hg).1, (iL hg).2, by unfold maxLen; omega⟩
 ·
  rw [List.mem_singleton.1 ht];exact ⟨fun q => absurd (show (0 : Int) = 1 from q) (by decide), fun q => absurd (show (0 : Int) = 2 from q) (by decide), by unfold maxLen; show 0 <= _; omega⟩
end Go.Proofs.YtdjomhbmhooceaaGreat.N7
namespace Go.Proofs.YtdjomhbmhooceaaGreat.N8
open Go.RowKit N5 N6 N7
theorem AaT (l : List UInt8) : 0 <= readN l := by
 unfold readN;split
 ·
  exact Int.le_refl _
 ·
  split
  ·
   exact Int.natCast_nonneg _
  ·
   exact Int.le_refl _
theorem AdE {t : Tk} (h : N4.Good t) : t.kind = 3 -> 0 <= t.num := by
 obtain ⟨k, p, n, l⟩ := t;unfold N4.Good at h;dsimp only at h ⊢;match l, h with
 | c :: r, h =>
  unfold N4.wordL at h;dsimp only at h;split at h
  ·
   split at h
   ·
    injection h with h; injection h with h1 h2; rw [<- h2]; exact fun _ => AaT _
   ·
    cases h
  ·
   split at h
   ·
    injection h with h
    injection h with h1 h2 h3
    intro _;rw [<- h2]; exact Int.le_refl _
   ·
    split at h
    ·
     cases h
    ·
     injection h with h; injection h with h1 h2; rw [<- h2]; exact fun _ => Int.le_refl _
def rO (c : Cu) : Prop := tW c /\ ∀ t ∈ c.ws, t.kind = 3 -> 0 <= t.num
theorem dF {c : Cu} (h : rO c) (hk : c.peek.kind ≠ 0) : c.peek.kind = 3 -> 0 <= c.peek.num := by
 have hl := uC hk;have he := vT hk;unfold Cu.peek;rw [if_pos he];unfold Cu.tok;rw [List.getD_eq_getElem?_getD, List.getElem?_eq_getElem hl];exact h.2 _ (List.getElem_mem hl)
theorem rO.of {c d : Cu} (h : rO c) (hw : d.ws = c.ws) : rO d := ⟨by unfold tW; rw [hw]; exact h.1, by rw [hw]; exact h.2⟩
def mD (p : Cu -> yJ Nd) : Prop := ∀ c d t, rO c -> p c = (d, some t) -> d.ws = c.ws /\ t.kinds.pat = true /\ t.short
theorem oR {rd : Cu -> yJ Nd} {c d : Cu} {t : Nd} (H : ∀ a n, rd c.enter = (a, some n) -> a.ws = c.ws /\ n.kinds.pat = true /\ n.short) (e : deeper rd c = (d, some t)) : d.ws = c.ws /\ t.kinds.pat = true /\ t.short := by
 unfold deeper at e;split at e
 ·
  cases hr : rd c.enter with
  | mk a o =>
   rw [hr] at e;cases o with
   | none => cases e
   | some n =>
    injection e with e1 e2; injection e2 with e2
    have := H a n hr;rw [<- e1, <- e2, kU]; exact this
 ·
  cases e
theorem AeW {c : Cu} (hg : rO c) (hb : begins c = true) : (leaf c.peek).kinds.pat = true /\ (leaf c.peek).short := by
 have z : (maxLen : Nat) ≥ 0 := Nat.zero_le _;unfold leaf;split
 ·
  rename_i h;have hp := vX hg.1 (by rw [h]; decide);refine ⟨?_, xD hp.len fun x hx => by cases hx⟩;rw [Nd.kinds_eq];show sJ 11 0 c.peek.text [] = true;unfold sJ yQ;simp [hp.var h]
 ·
  split
  ·
   rename_i h;have hp := vX hg.1 (by rw [h]; decide);refine ⟨?_, xD hp.len fun x hx => by cases hx⟩;rw [Nd.kinds_eq];show sJ 14 0 c.peek.text [] = true;unfold sJ;simp [hp.con h]
  ·
   split
   ·
    rename_i h;have hp := dF hg (by rw [h]; decide) h;refine ⟨?_, xD (Nat.zero_le _) fun x hx => by cases hx⟩;rw [Nd.kinds_eq];show sJ 13 c.peek.num [] [] = true;unfold sJ;simp [hp]
   ·
    refine ⟨?_, xD (Nat.zero_le _) fun x hx => by cases hx⟩;rw [Nd.kinds_eq];show sJ 12 0 [] [] = true;unfold sJ vZ;simp
section
variable {wh : Cu -> yJ Nd}
theorem mI (H : mD wh) : mD (atomP wh) := by
 intro c d t hg e;unfold atomP at e;split at e
 ·
  refine oR (fun a n e => ?_) e;unfold xV at e;split at e
  ·
   rename_i hi;cases hr : wh (c.enter.want [40]) with
   | mk b o =>
    rw [hr] at e;cases o with
    | none => cases e
    | some m =>
     have hw : (c.enter.want [40]).ws = c.ws := (zI _ _).ws.trans (tX c);have := H _ _ _ (hg.of hw) hr;dsimp only at e;split at e
     ·
      injection e with e1 e2; injection e2 with e2
      rw [<- e1, <- e2];exact ⟨(zI _ _).ws.trans (this.1.trans hw), this.2⟩
     ·
      cases e
  ·
   cases e
 ·
  split at e
  ·
   rename_i hb;injection e with e1 e2; injection e2 with e2
   rw [<- e1, <- e2];exact ⟨(yG c).ws, AeW hg hb⟩
  ·
   cases e
theorem eG {go : Cu -> Bool} {nx : Cu -> Cu} {rd : Cu -> yJ Nd} (H : mD rd) (hn : ∀ c, (nx c).ws = c.ws) (f : Nat) : ∀ (c d : Cu) (l ks : List Nd), rO c -> (∀ x ∈ l, x.kinds.pat = true /\ x.short) -> zY go nx rd f c l = (d, some ks) -> d.ws = c.ws /\ ∀ x ∈ ks, x.kinds.pat = true /\ x.short := by
 induction f with
 | zero => intro c d l ks _ _ h; cases h
 | succ f ih =>
  intro c d l ks hg hl h;unfold zY at h;split at h
  ·
   cases hr : rd (nx c) with
   | mk e o =>
    rw [hr] at h;cases o with
    | none => cases h
    | some n =>
     have h1 := H _ _ _ (hg.of (hn c)) hr;have hw := h1.1.trans (hn c);have := ih e d (l ++ [n]) ks (hg.of hw) (fun x hx => by
      rcases List.mem_append.1 hx with hx | hx
      ·
       exact hl x hx
      ·
       rw [List.mem_singleton.1 hx]; exact h1.2) h
     exact ⟨this.1.trans hw, this.2⟩
  ·
   injection h with h1 h2; injection h2 with h2
   rw [<- h1, <- h2]; exact ⟨hn c, hl⟩
theorem cS (H : mD wh) : mD (vY wh) := by
 intro c d t hg e;unfold vY at e;split at e
 ·
  rename_i h;have hp := vX hg.1 (by rw [h]; decide);cases hm : zY begins id (atomP wh) (c.ws.length + 1) c.adv [] with
  | mk a o =>
   rw [hm] at e;cases o with
   | none => cases e
   | some ks =>
    have hw := (yG c).ws;have := eG (mI H) (fun c => rfl) _ _ _ _ _ (hg.of hw) (fun x hx => by cases hx) hm;injection e with e1 e2; injection e2 with e2
    rw [<- e1, <- e2];refine ⟨this.1.trans hw, ?_, xD hp.len fun x hx => (this.2 x hx).2⟩;rw [Nd.kinds_eq];show sJ 14 0 c.peek.text (ks.map Nd.kinds) = true;have hall : (ks.map Nd.kinds).all (·.pat) = true := by
     rw [all_map];exact List.all_eq_true.2 fun x hx => (this.2 x hx).1
    unfold sJ;rw [if_neg (by decide), if_neg (by decide), if_neg (by decide), if_pos rfl, hp.con h, hall];simp
 ·
  exact mI H _ _ _ hg e
end
theorem whole_patted : ∀ n, mD (wholeP n)
 | 0 => fun c d t _ e => by cases e
 | n + 1 => fun c d t hg e => oR (fun a m e => by
   have := cS (whole_patted n) _ _ _ (hg.of (tX c)) e;exact ⟨this.1.trans (tX c), this.2⟩) e
theorem AfF {s : ByteArray} {r : List Tk} (hs : s.size <= 3000) (h : N4.lexAll s = .ok r) : rO (newCu (r ++ [N4.endTk s])) := by
 refine ⟨good_of hs h, fun t ht => ?_⟩;have ht : t ∈ r ++ [N4.endTk s] := List.mem_of_mem_take (show t ∈ (r ++ [N4.endTk s]).take _ from ht);rcases List.mem_append.1 ht with ht | ht
 ·
  rw [N4.lexAll_lexR] at h;exact AdE (N4.lexR_good _ _ _ _ h t ht)
 ·
  rw [List.mem_singleton.1 ht];exact fun q => absurd (show (0 : Int) = 3 from q) (by decide)
end Go.Proofs.YtdjomhbmhooceaaGreat.N8
