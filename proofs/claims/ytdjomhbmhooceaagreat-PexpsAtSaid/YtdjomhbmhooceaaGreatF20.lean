import Derived.Test.YtdjomhbmhooceaaGreatF7
set_option linter.unusedVariables false
set_option linter.unusedSimpArgs false
namespace Go.Proofs.YtdjomhbmhooceaaGreat.N9
open Go.RowKit N5 N6 N7
theorem yX {α β : Type} {o : yM α} {f : Cu -> α -> yM β} {d : Cu} {t : β} (h : yG o f = (d, some t)) : ∃ e n, o = (e, some n) /\ f e n = (d, some t) := by
 obtain ⟨e, _ | n⟩ := o
 ·
  cases h
 ·
  exact ⟨e, n, rfl, h⟩
theorem wY {β : Type} {c d : Cu} {x : List UInt8} {f : Cu -> yM β} {t : β} (h : wantO c x f = (d, some t)) : c.is x = true /\ f (c.want x) = (d, some t) := by
 unfold wantO at h;split at h
 ·
  exact ⟨by assumption, h⟩
 ·
  cases h
theorem uP {α : Type} {d e : Cu} {t n : α} (h : ((e, some n) : yM α) = (d, some t)) : e = d /\ n = t := by
 injection h with h1 h2; injection h2 with h2; exact ⟨h1, h2⟩
def vM (p : Cu -> yM Nd) : Prop := ∀ c d t, p c = (d, some t) -> t.size + 2 * c.at' + 1 <= 2 * d.at'
theorem pF {rd : Cu -> yM Nd} {c : Cu} (h : ∀ d t, rd c.enter = (d, some t) -> t.size + 2 * c.at' + 1 <= 2 * d.at') {d : Cu} {t : Nd} (e : deeper rd c = (d, some t)) : t.size + 2 * c.at' + 1 <= 2 * d.at' := by
 unfold deeper at e;split at e
 ·
  cases hr : rd c.enter with
  | mk a o =>
   rw [hr] at e;cases o with
   | none => cases e
   | some n =>
    obtain ⟨e1, e2⟩ := uP e;have := h a n hr;rw [<- e1, <- e2, jM]; exact this
 ·
  cases e
theorem oD (t : Tk) : (sF t).size = 1 := by
 unfold sF;split
 ·
  rfl
 ·
  split <;> rfl
theorem qB {c : Cu} (h : zI c = true) : c.adv.at' = c.at' + 1 := by
 unfold Cu.adv;rw [if_pos ⟨yC h, wB h⟩]
theorem gC {go : Cu -> Bool} {nx : Cu -> Cu} {rd : Cu -> yM Nd} (H : vM rd) (hn : ∀ c, c.at' <= (nx c).at') (f : Nat) : ∀ (c d : Cu) (l ks : List Nd), yA go nx rd f c l = (d, some ks) -> Nd.sizes ks + 2 * c.at' <= 2 * d.at' + Nd.sizes l := by
 induction f with
 | zero => intro c d l ks h; cases h
 | succ f ih =>
  intro c d l ks h;unfold yA at h;split at h
  ·
   cases hr : rd (nx c) with
   | mk e o =>
    rw [hr] at h;cases o with
    | none => cases h
    | some n =>
     have h1 := ih e d (l ++ [n]) ks h;have h2 := H _ _ _ hr;have h3 := hn c;rw [Nd.sizes_append] at h1;have h4 : Nd.sizes [n] = n.size := by show n.size + 0 = _; omega
     omega
  ·
   injection h with h1 h2
   injection h2 with h2
   have := hn c;rw [<- h1, <- h2]; omega
theorem oL : ∀ (l : List Tk) (n : Nd), (vB l n).size = l.length + n.size
 | [], n => by show n.size = _; simp
 | t :: l, n => by
  show (Nd.mk 25 t.pos 0 t.text [vB l n]).size = _;rw [Nd.size_eq];show (vB l n).size + 0 + 1 = _;rw [oL l n, List.length_cons]; omega
theorem AaN (f : Nat) : ∀ c, (xY f c).1.at' = c.at' + (xY f c).2.length := by
 induction f with
 | zero => intro c; rfl
 | succ f ih =>
  intro c;unfold xY;split
  ·
   rename_i h;show (xY f c.adv).1.at' = c.at' + ((xY f c.adv).2.length + 1);rw [ih, oE (by rw [h]; decide)]; omega
  ·
   rfl
theorem eX (c : Cu) : (yW c).1.at' = c.at' + (yW c).2.length := AaN _ c
theorem take_le (c : Cu) (x : List UInt8) : c.at' <= (c.take x).at' := (yD c x).at'
section
variable {wh : Cu -> yM Nd}
theorem vO (H : vM wh) : vM (zV wh) := by
 intro c d t e;unfold zV at e;split at e
 ·
  refine pF (fun d t e => ?_) e;unfold wA at e;split at e
  ·
   rename_i hi;cases hr : wh (c.enter.want [40]) with
   | mk a o =>
    rw [hr] at e;cases o with
    | none => cases e
    | some n =>
     have := H _ _ _ hr;rw [wN hi, rE] at this;dsimp only at e;split at e
     ·
      rename_i hj;obtain ⟨e1, e2⟩ := uP e;rw [<- e1, <- e2, wN hj]; omega
     ·
      cases e
  ·
   cases e
 ·
  split at e
  ·
   rename_i h;obtain ⟨e1, e2⟩ := uP e;rw [<- e1, <- e2, oD, qB h]; omega
  ·
   cases e
theorem bW (H : vM wh) (f : Nat) : ∀ (c d : Cu) (n t : Nd), qD wh f c n = (d, some t) -> t.size + 2 * c.at' <= 2 * d.at' + n.size := by
 induction f with
 | zero => intro c d n t e; cases e
 | succ f ih =>
  intro c d n t e;unfold qD at e;split at e
  ·
   obtain ⟨a, k, e1, e2⟩ := yX e;have h1 := vO H _ _ _ e1;have h2 := ih _ _ _ _ e2;rw [Nd.size_eq (.mk 24 n.pos 0 [] [n, k])] at h2;have h3 : Nd.sizes (Nd.mk 24 n.pos 0 [] [n, k]).kids = n.size + (k.size + 0) := rfl;omega
  ·
   obtain ⟨e1, e2⟩ := uP e;rw [<- e1, <- e2]; omega
theorem fK (H : vM wh) : vM (sC wh) := by
 intro c d t e;obtain ⟨a, n, e1, e2⟩ := yX e;have h1 := vO H _ _ _ e1;have h2 := bW H _ _ _ _ _ e2;omega
theorem kY (H : vM wh) : ∀ c d t, c.is [92] = true -> wX wh c = (d, some t) -> t.size + 2 * c.at' + 1 <= 2 * d.at' := by
 intro c d t hi e;unfold wX at e;split at e
 ·
  rename_i h;obtain ⟨h2, e⟩ := wY e;obtain ⟨a, n, e1, e2⟩ := yX e;obtain ⟨e3, e4⟩ := uP e2;have h3 := H _ _ _ e1;rw [wN h2, eX, kP (by decide) h, <- sS hi, sG hi] at h3;rw [<- e3, <- e4, oL, List.length_cons];rw [<- sS hi] at *;omega
 ·
  cases e
theorem nN {p : Cu -> yM Nd} (H : vM p) {c d : Cu} {l ks : List Nd} (e : wK p c l = (d, some ks)) : Nd.sizes ks + 2 * c.at' + 5 <= 2 * d.at' + Nd.sizes l := by
 obtain ⟨h1, e⟩ := wY e;obtain ⟨a, n, e1, e⟩ := yX e;obtain ⟨b, l2, e2, e⟩ := yX e;obtain ⟨h2, e⟩ := wY e;obtain ⟨e3, e4⟩ := uP e;have h3 := H _ _ _ e1;have h4 := gC H (fun c => take_le c [59]) _ _ _ _ _ e2;rw [wN h1] at h3;rw [Nd.sizes_append] at h4;have h5 : Nd.sizes [n] = n.size := by show n.size + 0 = _; omega
 rw [<- e3, <- e4, wN h2];omega
theorem mP (H : vM wh) : vM (wQ wh) := by
 intro c d t e;unfold wQ at e;split at e
 ·
  rename_i h;have hk := kP (by decide) h;split at e
  ·
   rename_i h2;obtain ⟨a, n, e1, e⟩ := yX e;obtain ⟨e3, e4⟩ := uP e;have h3 := gR (N7.whole_sized 200) e1;rw [sG h2, hk] at h3;rw [<- e3, <- e4, Nd.size_eq];show n.size + 0 + 1 + _ + 1 <= _;omega
  ·
   rename_i h2;rw [xL h2] at e;obtain ⟨h3, e⟩ := wY e;obtain ⟨a, n, e1, e⟩ := yX e;obtain ⟨e3, e4⟩ := uP e;have h4 := H _ _ _ e1;rw [wN h3, eX, hk] at h4;rw [<- e3, <- e4, Nd.size_eq];show (vB _ n).size + 0 + 1 + _ + 1 <= _;rw [oL];omega
 ·
  cases e
theorem cK (H : vM wh) : vM (rY wh) := by
 intro c d t e;obtain ⟨a, p, e1, e⟩ := yX e;obtain ⟨h3, e⟩ := wY e;obtain ⟨b, n, e2, e⟩ := yX e;obtain ⟨e3, e4⟩ := uP e;have h1 := N8.whole_sized 200 _ _ _ e1;have h2 := H _ _ _ e2;rw [wN h3] at h2;rw [<- e3, <- e4, Nd.size_eq];show p.size + (n.size + 0) + 1 + _ + 1 <= _;omega
theorem dV (H : vM wh) : ∀ c d t, c.is [108, 101, 116] = true -> qY wh c = (d, some t) -> t.size + 2 * c.at' + 1 <= 2 * d.at' := by
 intro c d t hi e;obtain ⟨a, ks, e1, e⟩ := yX e;obtain ⟨h2, e⟩ := wY e;obtain ⟨b, n, e2, e⟩ := yX e;obtain ⟨e3, e4⟩ := uP e;have h3 := nN (mP H) e1;have h4 := H _ _ _ e2;rw [wN h2] at h4;rw [<- sS hi, sG hi] at h3;rw [<- e3, <- e4, Nd.size_eq];show Nd.sizes (ks ++ [n]) + 1 + _ + 1 <= _;rw [Nd.sizes_append];have h5 : Nd.sizes [n] = n.size := by show n.size + 0 = _; omega
 have h6 : Nd.sizes ([] : List Nd) = 0 := rfl;omega
theorem eF (H : vM wh) : ∀ c d t, c.is [99, 97, 115, 101] = true -> sB wh c = (d, some t) -> t.size + 2 * c.at' + 1 <= 2 * d.at' := by
 intro c d t hi e;obtain ⟨a, n, e1, e⟩ := yX e;obtain ⟨h2, e⟩ := wY e;obtain ⟨b, ks, e2, e⟩ := yX e;obtain ⟨e3, e4⟩ := uP e;have h3 := H _ _ _ e1;have h4 := nN (cK H) e2;rw [wN h2] at h4;rw [<- sS hi, sG hi] at h3;rw [<- e3, <- e4, Nd.size_eq];show Nd.sizes ks + 1 + _ + 1 <= _;have h5 : Nd.sizes [n] = n.size := by show n.size + 0 = _; omega
 omega
theorem aE (H : vM wh) : vM (nG wh) := by
 intro c d t e;obtain ⟨h1, e⟩ := wY e;obtain ⟨a, x, e1, e⟩ := yX e;obtain ⟨h2, e⟩ := wY e;obtain ⟨b, y, e2, e⟩ := yX e;obtain ⟨h3, e⟩ := wY e;obtain ⟨g, z, e3, e⟩ := yX e;obtain ⟨e4, e5⟩ := uP e;have k1 := H _ _ _ e1;have k2 := H _ _ _ e2;have k3 := H _ _ _ e3;rw [wN h1] at k1;rw [wN h2] at k2;rw [wN h3] at k3;rw [<- e4, <- e5, Nd.size_eq];show x.size + (y.size + (z.size + 0)) + 1 + _ + 1 <= _;omega
theorem dZ (H : vM wh) : vM (qA wh) := by
 intro c d t e;unfold qA at e;split at e
 ·
  exact kY H _ _ _ (by assumption) e
 split at e
 ·
  exact dV H _ _ _ (by assumption) e
 split at e
 ·
  exact eF H _ _ _ (by assumption) e
 split at e
 ·
  exact aE H _ _ _ e
 ·
  exact fK H _ _ _ e
end
theorem whole_sized : ∀ n, vM (wholeP n)
 | 0 => fun c d t e => by cases e
 | n + 1 => fun c d t e => pF (fun d t e => by have := dZ (whole_sized n) _ _ _ e; rw [rE] at this; exact this) e
theorem mH {c : Cu} (h0 : c.nest = 0) (h : (wholeP 200 c).1.err = 0) : ∃ t, (wholeP 200 c).2 = some t := by
 have hr := pair_whole 200 c (by omega);rcases hr.cases with ⟨e1, e2⟩ | ⟨e1, e2⟩
 ·
  exact ⟨_, by rw [e2]⟩
 ·
  rw [e2] at h; exact absurd h e1
theorem fine_at (m : Nat) (c : Cu) (h : 200 <= c.nest + m \/ c.err ≠ 0) : zY c (atR m c).1 := by
 by_cases he : c.err = 0
 ·
  exact (pair_whole m c (h.resolve_right fun q => q he)).fine
 ·
  rw [qI m c he]; exact .refl c
theorem jC {α : Type} {m : Nat} {p : Cu -> yM α} {r : Cu -> Cu × α} (H : xI m p r) (hst : St r) (c : Cu) (h : 200 <= c.nest + m \/ c.err ≠ 0) : zY c (r c).1 := by
 by_cases he : c.err = 0
 ·
  exact (H c (h.resolve_right fun q => q he)).fine
 ·
  rw [hst c he]; exact .refl c
end Go.Proofs.YtdjomhbmhooceaaGreat.N9
