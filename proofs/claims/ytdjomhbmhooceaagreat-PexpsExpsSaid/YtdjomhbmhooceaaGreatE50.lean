import Derived.Test.YtdjomhbmhooceaaGreatE20
import Derived.Test.YtdjomhbmhooceaaGreatE31
import Derived.Test.YtdjomhbmhooceaaGreatE49
import Derived.Test.YtdjomhbmhooceaaGreatE47
set_option maxHeartbeats 8000000
set_option maxRecDepth 100000
set_option linter.unusedVariables false
set_option linter.unusedSimpArgs false
namespace Go.Proofs.YtdjomhbmhooceaaGreat.N9
open Go.RowKit N5 N6 N7 N8
def Kd (q : vU -> Bool) (p : Cu -> yJ Nd) : Prop := ∀ c d t, rO c -> p c = (d, some t) -> d.ws = c.ws /\ q t.kinds = true /\ t.short
theorem jX {q : vU -> Bool} {rd : Cu -> yJ Nd} {c d : Cu} {t : Nd} (H : ∀ a n, rd c.enter = (a, some n) -> a.ws = c.ws /\ q n.kinds = true /\ n.short) (e : deeper rd c = (d, some t)) : d.ws = c.ws /\ q t.kinds = true /\ t.short := by
 unfold deeper at e;split at e
 ·
  cases hr : rd c.enter with
  | mk a o =>
   rw [hr] at e;cases o with
   | none => cases e
   | some n =>
    injection e with e1 e2; injection e2 with e2
    have := H a n hr;rw [<- e1, <- e2, kU]; exact this
 ·
  cases e
theorem AeS {c : Cu} (hg : rO c) (hb : N9.begins c = true) (hi : ¬ c.is [40] = true) : (N9.leaf c.peek).kinds.exp = true /\ (N9.leaf c.peek).short := by
 unfold N9.leaf;split
 ·
  rename_i h;have hp := vX hg.1 (by rw [h]; decide);refine ⟨?_, xD hp.len fun x hx => by cases hx⟩;rw [Nd.kinds_eq];show wM 21 0 c.peek.text [] = true;unfold wM yQ;simp [hp.var h]
 ·
  split
  ·
   rename_i h;have hp := vX hg.1 (by rw [h]; decide);refine ⟨?_, xD hp.len fun x hx => by cases hx⟩;rw [Nd.kinds_eq];show wM 22 0 c.peek.text [] = true;unfold wM;simp [hp.con h]
  ·
   rename_i h1 h2;have h3 : c.peek.kind = 3 := by
    unfold N9.begins at hb;simp [h1, h2, hi] at hb;exact hb
   have hp := dF hg (by rw [h3]; decide) h3;refine ⟨?_, xD (Nat.zero_le _) fun x hx => by cases hx⟩;rw [Nd.kinds_eq];show wM 23 c.peek.num [] [] = true;unfold wM;simp [hp]
theorem iO (f : Nat) : ∀ c, rO c -> ∀ t ∈ (xY f c).2, t.kind = 1 /\ jS t := by
 induction f with
 | zero => intro c _ t h; cases h
 | succ f ih =>
  intro c hg t h;unfold xY at h;split at h
  ·
   rename_i hk;rcases List.mem_cons.1 h with h | h
   ·
    rw [h]; exact ⟨hk, vX hg.1 (by rw [hk]; decide)⟩
   ·
    exact ih _ (hg.of (yG c).ws) t h
  ·
   cases h
theorem fA {l : List Tk} {n : Nd} (hl : ∀ t ∈ l, t.kind = 1 /\ jS t) (hn : n.kinds.exp = true /\ n.short) : (wK l n).kinds.exp = true /\ (wK l n).short := by
 induction l with
 | nil => exact hn
 | cons t l ih =>
  have h := ih fun x hx => hl x (List.mem_cons_of_mem _ hx)
  have ht := hl t List.mem_cons_self;show (Nd.mk 25 t.pos 0 t.text [wK l n]).kinds.exp = true /\ (Nd.mk 25 t.pos 0 t.text [wK l n]).short;refine ⟨?_, xD ht.2.len fun x hx => by rw [List.mem_singleton.1 hx]; exact h.2⟩;rw [Nd.kinds_eq];show wM 25 0 t.text [(wK l n).kinds] = true;unfold wM yQ sW;simp [ht.2.var ht.1, h.1]
section
variable {wh : Cu -> yJ Nd}
theorem aU (H : Kd (·.exp) wh) : Kd (·.exp) (N9.atomP wh) := by
 intro c d t hg e;unfold N9.atomP at e;split at e
 ·
  refine jX (fun a n e => ?_) e;unfold xV at e;split at e
  ·
   cases hr : wh (c.enter.want [40]) with
   | mk b o =>
    rw [hr] at e;cases o with
    | none => cases e
    | some m =>
     have hw : (c.enter.want [40]).ws = c.ws := (zI _ _).ws.trans (tX c);have := H _ _ _ (hg.of hw) hr;dsimp only at e;split at e
     ·
      injection e with e1 e2; injection e2 with e2
      rw [<- e1, <- e2];exact ⟨(zI _ _).ws.trans (this.1.trans hw), this.2⟩
     ·
      cases e
  ·
   cases e
 ·
  rename_i hi;split at e
  ·
   rename_i hb;injection e with e1 e2; injection e2 with e2
   rw [<- e1, <- e2];exact ⟨(yG c).ws, AeS hg hb hi⟩
  ·
   cases e
theorem app_kd (H : Kd (·.exp) wh) (f : Nat) : ∀ c d n t, rO c -> n.kinds.exp = true /\ n.short -> qO wh f c n = (d, some t) -> d.ws = c.ws /\ t.kinds.exp = true /\ t.short := by
 induction f with
 | zero => intro c d n t _ _ e; cases e
 | succ f ih =>
  intro c d n t hg hn e;unfold qO at e;split at e
  ·
   obtain ⟨a, k, e1, e⟩ := zW e;have h := aU H _ _ _ hg e1;have := ih a d _ t (hg.of h.1) ⟨?_, xD (Nat.zero_le _) fun x hx => ?_⟩ e
   ·
    exact ⟨this.1.trans h.1, this.2⟩
   ·
    rw [Nd.kinds_eq];show wM 24 0 [] [n.kinds, k.kinds] = true;unfold wM vZ;simp [hn.1, h.2.1]
   ·
    simp only [List.mem_cons, List.not_mem_nil, or_false] at hx;rcases hx with rfl | rfl
    ·
     exact hn.2
    ·
     exact h.2.2
  ·
   obtain ⟨e1, e2⟩ := wI e;rw [<- e1, <- e2];exact ⟨rfl, hn⟩
theorem apps_kd (H : Kd (·.exp) wh) : Kd (·.exp) (sM wh) := by
 intro c d t hg e;obtain ⟨a, n, e1, e⟩ := zW e;have h := aU H _ _ _ hg e1;have := app_kd H _ _ _ _ _ (hg.of h.1) h.2 e;exact ⟨this.1.trans h.1, this.2⟩
theorem lJ {c : Cu} (hg : rO c) (h : c.kindOk 1 = true) : (c.kindT 1).kind = 1 /\ jS (c.kindT 1) := by
 unfold Cu.kindOk at h;simp only [Bool.and_eq_true, decide_eq_true_eq] at h;have hp : c.peek = c.tok c.at' := by unfold Cu.peek; rw [if_pos h.1]
 have e : c.kindT 1 = c.peek := by unfold Cu.kindT; rw [if_pos h, hp]
 rw [e];have hk : c.peek.kind = 1 := by rw [hp]; exact h.2
 exact ⟨hk, vX hg.1 (by rw [hk]; decide)⟩
theorem AcJ (H : Kd (·.exp) wh) : Kd (·.exp) (wU wh) := by
 intro c d t hg e;unfold wU at e;split at e
 ·
  rename_i hk;obtain ⟨h1, e⟩ := yM e;obtain ⟨a, n, e1, e⟩ := zW e;obtain ⟨e2, e3⟩ := wI e;have hw0 := (yG c).ws;have hw1 := (vC c.adv 1).ws.trans hw0;have hw : ((yX (c.adv.kind 1)).1.want [45, 62]).ws = c.ws := (zI _ _).ws.trans ((tM _).ws.trans hw1);have h := H _ _ _ (hg.of hw) e1;have hv : ∀ x ∈ c.adv.kindT 1 :: (yX (c.adv.kind 1)).2, x.kind = 1 /\ jS x := fun x hx => by
   rcases List.mem_cons.1 hx with hx | hx
   ·
    rw [hx]; exact lJ (hg.of hw0) hk
   ·
    exact iO _ _ (hg.of hw1) x hx
  rw [<- e2, <- e3];exact ⟨h.1.trans hw, fA hv h.2⟩
 ·
  cases e
theorem many_kd {q : vU -> Bool} {go : Cu -> Bool} {nx : Cu -> Cu} {rd : Cu -> yJ Nd} (H : Kd q rd) (hn : ∀ c, (nx c).ws = c.ws) (f : Nat) : ∀ (c d : Cu) (l0 l ks : List Nd), rO c -> (∀ x ∈ l, q x.kinds = true /\ x.short) -> zY go nx rd f c (l0 ++ l) = (d, some ks) -> d.ws = c.ws /\ ∃ l1, ks = l0 ++ l1 /\ ∀ x ∈ l1, q x.kinds = true /\ x.short := by
 induction f with
 | zero => intro c d l0 l ks _ _ h; cases h
 | succ f ih =>
  intro c d l0 l ks hg hl h;unfold zY at h;split at h
  ·
   cases hr : rd (nx c) with
   | mk e o =>
    rw [hr] at h;cases o with
    | none => cases h
    | some n =>
     have h1 := H _ _ _ (hg.of (hn c)) hr;have hw := h1.1.trans (hn c);dsimp only at h;rw [List.append_assoc] at h;have := ih e d l0 (l ++ [n]) ks (hg.of hw) (fun x hx => by
      rcases List.mem_append.1 hx with hx | hx
      ·
       exact hl x hx
      ·
       rw [List.mem_singleton.1 hx]; exact h1.2) h
     exact ⟨this.1.trans hw, this.2⟩
  ·
   injection h with h1 h2; injection h2 with h2
   rw [<- h1, <- h2]; exact ⟨hn c, l, rfl, hl⟩
theorem AaE {q : vU -> Bool} {rd : Cu -> yJ Nd} (H : Kd q rd) {c d : Cu} {l ks : List Nd} (hg : rO c) (e : wS rd c l = (d, some ks)) : d.ws = c.ws /\ ∃ l1, ks = l ++ l1 /\ 0 < l1.length /\ ∀ x ∈ l1, q x.kinds = true /\ x.short := by
 unfold wS at e;obtain ⟨h1, e⟩ := yM e;obtain ⟨a, n, e1, e⟩ := zW e;obtain ⟨b, ks2, e2, e⟩ := zW e;obtain ⟨h2, e⟩ := yM e;obtain ⟨e3, e4⟩ := wI e;have hw := (zI c [123]).ws;have h := H _ _ _ (hg.of hw) e1;have hm := many_kd (q := q) H (fun c => (zX c [59]).ws) _ a b (l ++ [n]) [] ks2 (hg.of (h.1.trans hw)) (fun x hx => by cases hx) (by rw [List.append_nil]; exact e2);obtain ⟨hw2, l1, hl1, hl2⟩ := hm;rw [<- e3, <- e4];refine ⟨(zI _ _).ws.trans (hw2.trans (h.1.trans hw)), n :: l1, by rw [hl1, List.append_assoc]; rfl, by simp, fun x hx => ?_⟩;rcases List.mem_cons.1 hx with hx | hx
 ·
  rw [hx]; exact h.2
 ·
  exact hl2 x hx
theorem bind_kd (H : Kd (·.exp) wh) : Kd (fun k => k.bind || k.sig) (vA wh) := by
 intro c d t hg e;unfold vA at e;split at e
 ·
  rename_i hk;have hw0 := (vC c 1).ws;have ht := lJ hg hk;split at e
  ·
   obtain ⟨a, n, e1, e⟩ := zW e;obtain ⟨e2, e3⟩ := wI e;have hw := (zX (c.kind 1) [58, 58]).ws.trans hw0;have h := bV (N7.whole_typed 200) _ _ _ (hg.of hw).1 e1;rw [<- e2, <- e3];refine ⟨h.1.trans hw, ?_, xD ht.2.len fun x hx => by rw [List.mem_singleton.1 hx]; exact h.2.2⟩;rw [Nd.kinds_eq];show (oS 32 0 (c.kindT 1).text [n.kinds] || gE 32 0 (c.kindT 1).text [n.kinds]) = true;unfold gE yQ sW;have hq : n.kinds.qual = true := h.2.1;simp [ht.2.var ht.1, hq]
  ·
   obtain ⟨h1, e⟩ := yM e;obtain ⟨a, n, e1, e⟩ := zW e;obtain ⟨e2, e3⟩ := wI e;have hw1 := (zX (c.kind 1) [58, 58]).ws.trans hw0;have hw : ((yX ((c.kind 1).take [58, 58])).1.want [61]).ws = c.ws := (zI _ _).ws.trans ((tM _).ws.trans hw1);have h := H _ _ _ (hg.of hw) e1;have hx := fA (l := (yX ((c.kind 1).take [58, 58])).2) (fun t ht => iO _ _ (hg.of hw1) t ht) h.2;rw [<- e2, <- e3];refine ⟨h.1.trans hw, ?_, xD ht.2.len fun x hx2 => by rw [List.mem_singleton.1 hx2]; exact hx.2⟩;rw [Nd.kinds_eq];show (oS 31 0 (c.kindT 1).text [(wK (yX ((c.kind 1).take [58, 58])).2 n).kinds] || _) = true;unfold oS yQ sW;have hq : (wK (yX ((c.kind 1).take [58, 58])).2 n).kinds.exp = true := hx.1;simp [ht.2.var ht.1, hq]
 ·
  cases e
theorem let_kd (H : Kd (·.exp) wh) : Kd (·.exp) (pG wh) := by
 intro c d t hg e;unfold pG at e;obtain ⟨a, ks, e1, e⟩ := zW e;obtain ⟨h1, e⟩ := yM e;obtain ⟨b, n, e2, e⟩ := zW e;obtain ⟨e3, e4⟩ := wI e;have hw0 := (yG c).ws;obtain ⟨hw1, l1, hl1, hl0, hl2⟩ := AaE (bind_kd H) (hg.of hw0) e1;rw [List.nil_append] at hl1;subst hl1;have hw := (zI a [105, 110]).ws.trans (hw1.trans hw0);have h := H _ _ _ (hg.of hw) e2;rw [<- e3, <- e4];refine ⟨h.1.trans hw, ?_, xD (Nat.zero_le _) fun x hx => ?_⟩
 ·
  rw [Nd.kinds_eq];show wM 26 0 [] ((ks ++ [n]).map Nd.kinds) = true;have ha : ((ks ++ [n]).map Nd.kinds).take (((ks ++ [n]).map Nd.kinds).length - 1) = ks.map Nd.kinds := by simp
  have hb : ((ks ++ [n]).map Nd.kinds)[((ks ++ [n]).map Nd.kinds).length - 1]? = some n.kinds := by simp
  have hall : (ks.map Nd.kinds).all (fun x => x.bind || x.sig) = true := by
   rw [all_map];exact List.all_eq_true.2 fun x hx => (hl2 x hx).1
  unfold wM vZ sW;rw [ha, hb, hall];have hq : n.kinds.exp = true := h.2.1;simp [hq];omega
 ·
  rcases List.mem_append.1 hx with hx | hx
  ·
   exact (hl2 x hx).2
  ·
   rw [List.mem_singleton.1 hx]; exact h.2.2
theorem alt_kd (H : Kd (·.exp) wh) : Kd (·.alt) (qE wh) := by
 intro c d t hg e;unfold qE at e;obtain ⟨a, p, e1, e⟩ := zW e;obtain ⟨h1, e⟩ := yM e;obtain ⟨b, n, e2, e⟩ := zW e;obtain ⟨e3, e4⟩ := wI e;have h0 := N8.whole_patted 200 _ _ _ hg e1;have hw := (zI a [45, 62]).ws.trans h0.1;have h := H _ _ _ (hg.of hw) e2;rw [<- e3, <- e4];refine ⟨h.1.trans hw, ?_, xD (Nat.zero_le _) fun x hx => ?_⟩
 ·
  rw [Nd.kinds_eq];show jC 15 0 [] [p.kinds, n.kinds] = true;unfold jC vZ sW;have hq : n.kinds.exp = true := h.2.1;have hp : p.kinds.pat = true := h0.2.1;simp [hq, hp]
 ·
  simp only [List.mem_cons, List.not_mem_nil, or_false] at hx;rcases hx with rfl | rfl
  ·
   exact h0.2.2
  ·
   exact h.2.2
theorem case_kd (H : Kd (·.exp) wh) : Kd (·.exp) (sC wh) := by
 intro c d t hg e;unfold sC at e;obtain ⟨a, n, e1, e⟩ := zW e;obtain ⟨h1, e⟩ := yM e;obtain ⟨b, ks, e2, e⟩ := zW e;obtain ⟨e3, e4⟩ := wI e;have hw0 := (yG c).ws;have h := H _ _ _ (hg.of hw0) e1;have hw := (zI a [111, 102]).ws.trans (h.1.trans hw0);obtain ⟨hw1, l1, hl1, hl0, hl2⟩ := AaE (alt_kd H) (hg.of hw) e2;subst hl1;rw [<- e3, <- e4];refine ⟨hw1.trans hw, ?_, xD (Nat.zero_le _) fun x hx => ?_⟩
 ·
  rw [Nd.kinds_eq];show wM 27 0 [] (n.kinds :: l1.map Nd.kinds) = true;have hall : (l1.map Nd.kinds).all (·.alt) = true := by
   rw [all_map];exact List.all_eq_true.2 fun x hx => (hl2 x hx).1
  unfold wM vZ sW;have hq : n.kinds.exp = true := h.2.1;simp only [List.drop_succ_cons, List.drop_zero, hall];simp [hq];omega
 ·
  rcases List.mem_cons.1 hx with hx | hx
  ·
   rw [hx]; exact h.2.2
  ·
   exact (hl2 x hx).2
theorem if_kd (H : Kd (·.exp) wh) : Kd (·.exp) (mV wh) := by
 intro c d t hg e;unfold mV at e;obtain ⟨h1, e⟩ := yM e;obtain ⟨a, x, e1, e⟩ := zW e;obtain ⟨h2, e⟩ := yM e;obtain ⟨b, y, e2, e⟩ := zW e;obtain ⟨h3, e⟩ := yM e;obtain ⟨g, z, e3, e⟩ := zW e;obtain ⟨e4, e5⟩ := wI e;have w1 := (zI c [105, 102]).ws;have k1 := H _ _ _ (hg.of w1) e1;have w2 := (zI a [116, 104, 101, 110]).ws.trans (k1.1.trans w1);have k2 := H _ _ _ (hg.of w2) e2;have w3 := (zI b [101, 108, 115, 101]).ws.trans (k2.1.trans w2);have k3 := H _ _ _ (hg.of w3) e3;rw [<- e4, <- e5];refine ⟨k3.1.trans w3, ?_, xD (Nat.zero_le _) fun u hu => ?_⟩
 ·
  rw [Nd.kinds_eq];show wM 28 0 [] [x.kinds, y.kinds, z.kinds] = true;unfold wM vZ;have q1 : x.kinds.exp = true := k1.2.1;have q2 : y.kinds.exp = true := k2.2.1;have q3 : z.kinds.exp = true := k3.2.1;simp [q1, q2, q3]
 ·
  simp only [List.mem_cons, List.not_mem_nil, or_false] at hu;rcases hu with rfl | rfl | rfl
  ·
   exact k1.2.2
  ·
   exact k2.2.2
  ·
   exact k3.2.2
theorem any_kd (H : Kd (·.exp) wh) : Kd (·.exp) (qS wh) := by
 intro c d t hg e;unfold qS at e;split at e
 ·
  exact AcJ H _ _ _ hg e
 split at e
 ·
  exact let_kd H _ _ _ hg e
 split at e
 ·
  exact case_kd H _ _ _ hg e
 split at e
 ·
  exact if_kd H _ _ _ hg e
 ·
  exact apps_kd H _ _ _ hg e
end
theorem dN : ∀ n, Kd (·.exp) (N9.wholeP n)
 | 0 => fun c d t _ e => by cases e
 | n + 1 => fun c d t hg e => jX (fun a m e => by
   have := any_kd (dN n) _ _ _ (hg.of (tX c)) e;exact ⟨this.1.trans (tX c), this.2⟩) e
theorem AbL {s : ByteArray} (hs : s.size <= 3000) (h : (rQ s).2.2 = 0) : (rQ s).1.isExp = true /\ Nd.Fit (rQ s).1 := by
 unfold rQ rJ at h ⊢;cases hl : N4.lexAll s with
 | error kx => rw [hl] at h; exact absurd h (nC hl)
 | ok r =>
  rw [hl] at h;dsimp only at h ⊢;have hg := AfF hs hl;have hlen := pA hl;have hco : xA (newCu (r ++ [N4.endTk s])) := ⟨Nat.zero_le _, by show ((r ++ [N4.endTk s]).take _).length <= 4000; rw [List.length_take]; simp; omega, pO _, Nat.zero_le _⟩;have hn0 : (newCu (r ++ [N4.endTk s])).nest = 0 := rfl;generalize newCu (r ++ [N4.endTk s]) = c0 at *;split
  ·
   rename_i h1;rw [if_pos h1] at h;have he : (N9.wholeP 200 c0).1.err = 0 := by
    unfold Cu.doneE at h1;by_cases h : (N9.wholeP 200 c0).1.err = 0
    ·
     exact h
    ·
     rw [if_neg h] at h1; exact absurd h1 h
   split
   ·
    rename_i h2;obtain ⟨t, ht⟩ := N9.whole_ok hn0 he;rw [ht] at h2 ⊢;have h3 := dN 200 c0 _ t hg (zK ht);have hr := N9.pair_whole 200 c0 (by omega);have hd := hr.fine.ok hco;obtain ⟨e1, -, -⟩ := hr.some_of (zK ht);rw [e1] at hd;have h4 := N9.whole_sized 200 c0 _ t (zK ht);have h5 := hd.le;have h6 := hd.few;refine ⟨?_, by show t.size <= 1000000; omega, h3.2.2⟩;show (t.low && t.kinds.exp) = true;have q : t.kinds.exp = true := h3.2.1;rw [q, Bool.and_true];unfold Nd.low;exact decide_eq_true h2
   ·
    rename_i h2;rw [if_neg h2] at h;cases h
  ·
   rename_i h1;rw [if_neg h1] at h;exact absurd h h1
end Go.Proofs.YtdjomhbmhooceaaGreat.N9
namespace Go.Proofs.YtdjomhbmhooceaaGreat.N9
open Go.RowKit N5 N6 N7
attribute [local go_sem] xG xE
theorem bG {rd : Cu -> yJ Nd} {rr : Cu -> Cu × Nd} (hrel : ∀ c, c.nest = 0 -> uO c (rd c) (rr c)) (hsz : ∀ c d t, rd c = (d, some t) -> t.size <= 2 * d.at' + 1) (s : ByteArray) (hs : s.size <= 3000) : (rJ rd s).1.size <= 1000000 := by
 have hz : sH.size <= 1000000 := by decide
 rw [<- fK hrel];unfold kG;cases hl : N4.lexAll s with
 | error kx => exact hz
 | ok r =>
  have hlen := pA hl;obtain ⟨c0, hc0⟩ : ∃ c0, c0 = newCu (r ++ [N4.endTk s]) := ⟨_, rfl⟩;have ho : xA c0 := by rw [hc0]; exact AeH _ (by simp; omega)
  have hn : c0.nest = 0 := by rw [hc0]; rfl
  dsimp only;rw [<- hc0];unfold tA;by_cases h : (rr c0).1.doneE = 0
  ·
   rw [if_pos h];by_cases h2 : (rr c0).2.depth <= 100
   ·
    rw [if_pos h2];have hr := hrel c0 hn;have k1 := hr.yes (kN h);have k2 := hsz c0 (rd c0).1 (rr c0).2 (zK k1);rw [hr.cur] at k2;have k3 := hr.fine.ok ho;have k4 := k3.le;have k5 := k3.few;show (rr c0).2.size <= 1000000;omega
   ·
    rw [if_neg h2]; exact hz
  ·
   rw [if_neg h]; exact hz
theorem walk_PexpsExps (s : ByteArray) (w : World) (_h63 : s.size <= maxLen) : Calls Tryz.prog 3 #[.string s] w (sO true w) := by
 by_cases hs : s.size <= 3000
 case neg =>
  have hs' : (3000 : Int) < (s.size : Int) := by omega
  have HA := iB w;clear hs;go_enter Tryz.func3, Tryz.ntmps3;go_wp2_with fail;refine HA.mono ?_; rintro e W2 ⟨rfl, hB⟩;go_wp2_with fail;go_ret;exact ⟨rfl, hB⟩
 case pos =>
 have hs' : ¬ (3000 : Int) < (s.size : Int) := by omega
 have HT := nM s hs w;have HR := fun w => cQ s hs w
 have hz : (rQ s).1.size <= 1000000 := bG (rr := atR 200) (fun c h => pair_whole 200 c (by omega)) (fun c d t h => by have := whole_sized 200 c d t h; omega) s hs;have F1 : (rQ s).2.2 = 0 -> (rQ s).1.isExp = true /\ Nd.Fit (rQ s).1 := fun h => AbL hs h
 obtain ⟨⟨t, p, x⟩, ho⟩ : ∃ o, o = rQ s := ⟨_, rfl⟩;rw [<- ho] at HT HR hz F1;dsimp only at hz F1;have HF := Lib.hid F1;have HZ := Lib.hid hz;clear ho hs hz F1;go_enter Tryz.func3, Tryz.ntmps3;go_wp2_with fail;refine HT.mono ?_; rintro e W1 ⟨⟨dk, dp, dn, dt, dq, dl, dc⟩, rfl, hd, hB1⟩;unfold NC.val;dsimp only at hd ⊢;go_upto_region 4 with fail;obtain ⟨V1, hV, K1, hBV, -⟩ := zR W1 #[.int .i64 dk, .int .i64 dp, .int .i64 dn, .string ⟨dt.toArray⟩, .slice dq dl dc] 25;rw [<- hV];have hBt := zS hB1 hBV;have hd1 := hd.later hBV;have HR1 := HR V1;clear hV hBV hB1 HT HR hd;go_wp2_with fail;refine HR1.mono ?_; rintro e W2 ⟨⟨ek, ep, en, et, eq, el, ec⟩, rfl, he, hB2⟩;unfold NC.val;dsimp only at he ⊢;have K1 := K1.later hB2;have hd2 := hd1.later hB2;have hBt := zS hBt hB2;clear HR1 hd1 hB2;go_upto_region 5 with fail;obtain ⟨V2, hV, K2, hBV, -⟩ := zR W2 #[.int .i64 ek, .int .i64 ep, .int .i64 en, .string ⟨et.toArray⟩, .slice eq el ec] 25;rw [<- hV];have K1 := K1.later hBV;have hBt := zS hBt hBV;have K2b := K2;have HJ := AeD t _ _ t _ _ V2 (hd2.later hBV) (he.later hBV) HZ.out;rw [Nd.just_self] at HJ;unfold NC.val at HJ;dsimp only at HJ;have HA := fun W => iB W
 have Td := (hd2.later hBV).mono (S' := fun _ => True) fun _ _ _ => trivial
 obtain ⟨⟨x0, x1, x2, x3, x4⟩, -⟩ := zA K1;obtain ⟨⟨y0, y1, y2, y3, y4⟩, -⟩ := zA K2;clear hV hBV hd2 he K2 K2b;by_cases hx : x = 0
 ·
  subst hx;go_wp2_with fail;refine HJ.mono ?_; rintro e W3 ⟨rfl, hB⟩;have hBt := zS hBt hB;have K1 := K1.later hB;have Td := Td.later hB;have HP := exp_any t (HF.out trivial).2 _ W3 Td;rw [(HF.out trivial).1] at HP;unfold NC.val at HP;dsimp only at HP;clear HJ hB x0 x1 x2 x3 x4 y0 y1 y2 y3 y4;obtain ⟨⟨x0, x1, x2, x3, x4⟩, -⟩ := zA K1;go_wp2_with fail;refine HP.mono ?_; rintro e W4 ⟨rfl, hB⟩;have hBt := zS hBt hB;clear HP hB x0 x1 x2 x3 x4 K1 Td;go_wp2_with fail;refine (HA W4).mono ?_; rintro e W5 ⟨rfl, hB⟩;go_wp2_with fail;go_ret;exact ⟨rfl, hBt.trans (hB.mono hBt.size)⟩
 ·
  have hxb : (x != 0) = true := by rw [bne_iff_ne]; exact hx
  go_wp2_with fail;refine HJ.mono ?_; rintro e W3 ⟨rfl, hB⟩;have hBt := zS hBt hB;clear HJ hB x0 x1 x2 x3 x4 y0 y1 y2 y3 y4 K1 Td;go_wp2_with fail;refine (HA W3).mono ?_; rintro e W4 ⟨rfl, hB⟩;go_wp2_with fail;go_ret;exact ⟨rfl, hBt.trans (hB.mono hBt.size)⟩
end Go.Proofs.YtdjomhbmhooceaaGreat.N9
