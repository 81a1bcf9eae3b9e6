import Derived.Test.YtdjomhbmhooceaaGreatE7
set_option linter.unusedVariables false
set_option linter.unusedSimpArgs false
namespace Go.Proofs.YtdjomhbmhooceaaGreat.N9
open Go.RowKit N5 N6 N7
theorem zW {α β : Type} {o : yJ α} {f : Cu -> α -> yJ β} {d : Cu} {t : β} (h : yH o f = (d, some t)) : ∃ e n, o = (e, some n) /\ f e n = (d, some t) := by
 obtain ⟨e, _ | n⟩ := o
 ·
  cases h
 ·
  exact ⟨e, n, rfl, h⟩
theorem yM {β : Type} {c d : Cu} {x : List UInt8} {f : Cu -> yJ β} {t : β} (h : wantO c x f = (d, some t)) : c.is x = true /\ f (c.want x) = (d, some t) := by
 unfold wantO at h;split at h
 ·
  exact ⟨by assumption, h⟩
 ·
  cases h
theorem wI {α : Type} {d e : Cu} {t n : α} (h : ((e, some n) : yJ α) = (d, some t)) : e = d /\ n = t := by
 injection h with h1 h2; injection h2 with h2; exact ⟨h1, h2⟩
def uD (p : Cu -> yJ Nd) : Prop := ∀ c d t, p c = (d, some t) -> t.size + 2 * c.at' + 1 <= 2 * d.at'
theorem oQ {rd : Cu -> yJ Nd} {c : Cu} (h : ∀ d t, rd c.enter = (d, some t) -> t.size + 2 * c.at' + 1 <= 2 * d.at') {d : Cu} {t : Nd} (e : deeper rd c = (d, some t)) : t.size + 2 * c.at' + 1 <= 2 * d.at' := by
 unfold deeper at e;split at e
 ·
  cases hr : rd c.enter with
  | mk a o =>
   rw [hr] at e;cases o with
   | none => cases e
   | some n =>
    obtain ⟨e1, e2⟩ := wI e;have := h a n hr;rw [<- e1, <- e2, dA]; exact this
 ·
  cases e
theorem nV (t : Tk) : (leaf t).size = 1 := by
 unfold leaf;split
 ·
  rfl
 ·
  split <;> rfl
theorem pT {c : Cu} (h : begins c = true) : c.adv.at' = c.at' + 1 := by
 unfold Cu.adv;rw [if_pos ⟨yC h, wH h⟩]
theorem fH {go : Cu -> Bool} {nx : Cu -> Cu} {rd : Cu -> yJ Nd} (H : uD rd) (hn : ∀ c, c.at' <= (nx c).at') (f : Nat) : ∀ (c d : Cu) (l ks : List Nd), zY go nx rd f c l = (d, some ks) -> Nd.sizes ks + 2 * c.at' <= 2 * d.at' + Nd.sizes l := by
 induction f with
 | zero => intro c d l ks h; cases h
 | succ f ih =>
  intro c d l ks h;unfold zY at h;split at h
  ·
   cases hr : rd (nx c) with
   | mk e o =>
    rw [hr] at h;cases o with
    | none => cases h
    | some n =>
     have h1 := ih e d (l ++ [n]) ks h;have h2 := H _ _ _ hr;have h3 := hn c;rw [Nd.sizes_append] at h1;have h4 : Nd.sizes [n] = n.size := by show n.size + 0 = _; omega
     omega
  ·
   injection h with h1 h2
   injection h2 with h2
   have := hn c;rw [<- h1, <- h2]; omega
theorem nX : ∀ (l : List Tk) (n : Nd), (wK l n).size = l.length + n.size
 | [], n => by show n.size = _; simp
 | t :: l, n => by
  show (Nd.mk 25 t.pos 0 t.text [wK l n]).size = _;rw [Nd.size_eq];show (wK l n).size + 0 + 1 = _;rw [nX l n, List.length_cons]; omega
theorem AcU (f : Nat) : ∀ c, (xY f c).1.at' = c.at' + (xY f c).2.length := by
 induction f with
 | zero => intro c; rfl
 | succ f ih =>
  intro c;unfold xY;split
  ·
   rename_i h;show (xY f c.adv).1.at' = c.at' + ((xY f c.adv).2.length + 1);rw [ih, mF (by rw [h]; decide)]; omega
  ·
   rfl
theorem aO (c : Cu) : (yX c).1.at' = c.at' + (yX c).2.length := AcU _ c
theorem take_le (c : Cu) (x : List UInt8) : c.at' <= (c.take x).at' := (zX c x).at'
section
variable {wh : Cu -> yJ Nd}
theorem uE (H : uD wh) : uD (atomP wh) := by
 intro c d t e;unfold atomP at e;split at e
 ·
  refine oQ (fun d t e => ?_) e;unfold xV at e;split at e
  ·
   rename_i hi;cases hr : wh (c.enter.want [40]) with
   | mk a o =>
    rw [hr] at e;cases o with
    | none => cases e
    | some n =>
     have := H _ _ _ hr;rw [wZ hi, qB] at this;dsimp only at e;split at e
     ·
      rename_i hj;obtain ⟨e1, e2⟩ := wI e;rw [<- e1, <- e2, wZ hj]; omega
     ·
      cases e
  ·
   cases e
 ·
  split at e
  ·
   rename_i h;obtain ⟨e1, e2⟩ := wI e;rw [<- e1, <- e2, nV, pT h]; omega
  ·
   cases e
theorem AaY (H : uD wh) (f : Nat) : ∀ (c d : Cu) (n t : Nd), qO wh f c n = (d, some t) -> t.size + 2 * c.at' <= 2 * d.at' + n.size := by
 induction f with
 | zero => intro c d n t e; cases e
 | succ f ih =>
  intro c d n t e;unfold qO at e;split at e
  ·
   obtain ⟨a, k, e1, e2⟩ := zW e;have h1 := uE H _ _ _ e1;have h2 := ih _ _ _ _ e2;rw [Nd.size_eq (.mk 24 n.pos 0 [] [n, k])] at h2;have h3 : Nd.sizes (Nd.mk 24 n.pos 0 [] [n, k]).kids = n.size + (k.size + 0) := rfl;omega
  ·
   obtain ⟨e1, e2⟩ := wI e;rw [<- e1, <- e2]; omega
theorem cX (H : uD wh) : uD (sM wh) := by
 intro c d t e;obtain ⟨a, n, e1, e2⟩ := zW e;have h1 := uE H _ _ _ e1;have h2 := AaY H _ _ _ _ _ e2;omega
theorem gA (H : uD wh) : ∀ c d t, c.is [92] = true -> wU wh c = (d, some t) -> t.size + 2 * c.at' + 1 <= 2 * d.at' := by
 intro c d t hi e;unfold wU at e;split at e
 ·
  rename_i h;obtain ⟨h2, e⟩ := yM e;obtain ⟨a, n, e1, e2⟩ := zW e;obtain ⟨e3, e4⟩ := wI e2;have h3 := H _ _ _ e1;rw [wZ h2, aO, gC (by decide) h, <- rH hi, rB hi] at h3;rw [<- e3, <- e4, nX, List.length_cons];rw [<- rH hi] at *;omega
 ·
  cases e
theorem kK {p : Cu -> yJ Nd} (H : uD p) {c d : Cu} {l ks : List Nd} (e : wS p c l = (d, some ks)) : Nd.sizes ks + 2 * c.at' + 5 <= 2 * d.at' + Nd.sizes l := by
 obtain ⟨h1, e⟩ := yM e;obtain ⟨a, n, e1, e⟩ := zW e;obtain ⟨b, l2, e2, e⟩ := zW e;obtain ⟨h2, e⟩ := yM e;obtain ⟨e3, e4⟩ := wI e;have h3 := H _ _ _ e1;have h4 := fH H (fun c => take_le c [59]) _ _ _ _ _ e2;rw [wZ h1] at h3;rw [Nd.sizes_append] at h4;have h5 : Nd.sizes [n] = n.size := by show n.size + 0 = _; omega
 rw [<- e3, <- e4, wZ h2];omega
theorem cU (H : uD wh) : uD (vA wh) := by
 intro c d t e;unfold vA at e;split at e
 ·
  rename_i h;have hk := gC (by decide) h;split at e
  ·
   rename_i h2;obtain ⟨a, n, e1, e⟩ := zW e;obtain ⟨e3, e4⟩ := wI e;have h3 := aG (N7.whole_sized 200) e1;rw [rB h2, hk] at h3;rw [<- e3, <- e4, Nd.size_eq];show n.size + 0 + 1 + _ + 1 <= _;omega
  ·
   rename_i h2;rw [xL h2] at e;obtain ⟨h3, e⟩ := yM e;obtain ⟨a, n, e1, e⟩ := zW e;obtain ⟨e3, e4⟩ := wI e;have h4 := H _ _ _ e1;rw [wZ h3, aO, hk] at h4;rw [<- e3, <- e4, Nd.size_eq];show (wK _ n).size + 0 + 1 + _ + 1 <= _;rw [nX];omega
 ·
  cases e
theorem AbI (H : uD wh) : uD (qE wh) := by
 intro c d t e;obtain ⟨a, p, e1, e⟩ := zW e;obtain ⟨h3, e⟩ := yM e;obtain ⟨b, n, e2, e⟩ := zW e;obtain ⟨e3, e4⟩ := wI e;have h1 := N8.whole_sized 200 _ _ _ e1;have h2 := H _ _ _ e2;rw [wZ h3] at h2;rw [<- e3, <- e4, Nd.size_eq];show p.size + (n.size + 0) + 1 + _ + 1 <= _;omega
theorem AcD (H : uD wh) : ∀ c d t, c.is [108, 101, 116] = true -> pG wh c = (d, some t) -> t.size + 2 * c.at' + 1 <= 2 * d.at' := by
 intro c d t hi e;obtain ⟨a, ks, e1, e⟩ := zW e;obtain ⟨h2, e⟩ := yM e;obtain ⟨b, n, e2, e⟩ := zW e;obtain ⟨e3, e4⟩ := wI e;have h3 := kK (cU H) e1;have h4 := H _ _ _ e2;rw [wZ h2] at h4;rw [<- rH hi, rB hi] at h3;rw [<- e3, <- e4, Nd.size_eq];show Nd.sizes (ks ++ [n]) + 1 + _ + 1 <= _;rw [Nd.sizes_append];have h5 : Nd.sizes [n] = n.size := by show n.size + 0 = _; omega
 have h6 : Nd.sizes ([] : List Nd) = 0 := rfl;omega
theorem cN (H : uD wh) : ∀ c d t, c.is [99, 97, 115, 101] = true -> sC wh c = (d, some t) -> t.size + 2 * c.at' + 1 <= 2 * d.at' := by
 intro c d t hi e;obtain ⟨a, n, e1, e⟩ := zW e;obtain ⟨h2, e⟩ := yM e;obtain ⟨b, ks, e2, e⟩ := zW e;obtain ⟨e3, e4⟩ := wI e;have h3 := H _ _ _ e1;have h4 := kK (AbI H) e2;rw [wZ h2] at h4;rw [<- rH hi, rB hi] at h3;rw [<- e3, <- e4, Nd.size_eq];show Nd.sizes ks + 1 + _ + 1 <= _;have h5 : Nd.sizes [n] = n.size := by show n.size + 0 = _; omega
 omega
theorem AeR (H : uD wh) : uD (mV wh) := by
 intro c d t e;obtain ⟨h1, e⟩ := yM e;obtain ⟨a, x, e1, e⟩ := zW e;obtain ⟨h2, e⟩ := yM e;obtain ⟨b, y, e2, e⟩ := zW e;obtain ⟨h3, e⟩ := yM e;obtain ⟨g, z, e3, e⟩ := zW e;obtain ⟨e4, e5⟩ := wI e;have k1 := H _ _ _ e1;have k2 := H _ _ _ e2;have k3 := H _ _ _ e3;rw [wZ h1] at k1;rw [wZ h2] at k2;rw [wZ h3] at k3;rw [<- e4, <- e5, Nd.size_eq];show x.size + (y.size + (z.size + 0)) + 1 + _ + 1 <= _;omega
theorem AbU (H : uD wh) : uD (qS wh) := by
 intro c d t e;unfold qS at e;split at e
 ·
  exact gA H _ _ _ (by assumption) e
 split at e
 ·
  exact AcD H _ _ _ (by assumption) e
 split at e
 ·
  exact cN H _ _ _ (by assumption) e
 split at e
 ·
  exact AeR H _ _ _ e
 ·
  exact cX H _ _ _ e
end
theorem whole_sized : ∀ n, uD (wholeP n)
 | 0 => fun c d t e => by cases e
 | n + 1 => fun c d t e => oQ (fun d t e => by have := AbU (whole_sized n) _ _ _ e; rw [qB] at this; exact this) e
theorem whole_ok {c : Cu} (h0 : c.nest = 0) (h : (wholeP 200 c).1.err = 0) : ∃ t, (wholeP 200 c).2 = some t := by
 have hr := pair_whole 200 c (by omega);rcases hr.cases with ⟨e1, e2⟩ | ⟨e1, e2⟩
 ·
  exact ⟨_, by rw [e2]⟩
 ·
  rw [e2] at h; exact absurd h e1
theorem fine_at (m : Nat) (c : Cu) (h : 200 <= c.nest + m \/ c.err ≠ 0) : zZ c (atR m c).1 := by
 by_cases he : c.err = 0
 ·
  exact (pair_whole m c (h.resolve_right fun q => q he)).fine
 ·
  rw [oX m c he]; exact .refl c
theorem iU {α : Type} {m : Nat} {p : Cu -> yJ α} {r : Cu -> Cu × α} (H : xP m p r) (hst : St r) (c : Cu) (h : 200 <= c.nest + m \/ c.err ≠ 0) : zZ c (r c).1 := by
 by_cases he : c.err = 0
 ·
  exact (H c (h.resolve_right fun q => q he)).fine
 ·
  rw [hst c he]; exact .refl c
end Go.Proofs.YtdjomhbmhooceaaGreat.N9
