import Derived.Test.YtdjomhbmhooceaaGreatF12
import Derived.Test.YtdjomhbmhooceaaGreatF10
set_option maxHeartbeats 4000000
set_option maxRecDepth 100000
set_option linter.unusedVariables false
set_option linter.unusedSimpArgs false
namespace Go.Proofs.YtdjomhbmhooceaaGreat.N9
open Go.RowKit N5 N6 N7
attribute [local go_sem] xB xA
def wO (m n s : Nat) (w : World) (val : Value) (ks : List Nd) : Prop :=
 ∃ ds : List NC, ds.length = ks.length /\ w.ownsRow n 25 5 val ks.length (ds.flatMap yJ) /\ (∀ b, val.ownBlock = some b -> b < s \/ s + 2 < b) /\
  ∀ j (h : j < ds.length) (h' : j < ks.length), zG (fun b => m <= b /\ (b < s \/ s + 2 < b) /\ val.ownBlock ≠ some b) w ds[j] ks[j]
section
variable {m n s B : Nat} {w w' : World} {val : Value} {ks : List Nd}
theorem wO.keep (h : wO m n s w val ks) (hg : w.grownBy w' (some B)) (hm : m <= n) (hB : B < m \/ (s <= B /\ B <= s + 2)) : wO m n s w' val ks := by
 obtain ⟨ds, h1, h2, h3, h4⟩ := h;refine ⟨ds, h1, h2.kept hg ?_, h3, fun j a b => (h4 j a b).keeps ⟨hg.size, fun k hk hkl => hg.block k hkl (fun e => by injection e; omega)⟩⟩;cases ho : val.ownBlock with
 | none => exact .inl rfl
 | some b => exact .inr (fun e => by injection e with e; have := (h2.lt b ho).1; have := h3 b ho; omega)
theorem wO.shape (h : wO m n s w val ks) : ∃ p cap, val = .slice p ks.length cap := by
 obtain ⟨ds, h1, h2, -⟩ := h;rcases h2.2 with ⟨e, e0⟩ | ⟨g, cap, cur, e1, -⟩
 ·
  exact ⟨none, 0, by rw [e, e0]⟩
 ·
  exact ⟨_, _, e1⟩
theorem wO.nil : wO m n s w (.slice none 0 0) [] := ⟨[], rfl, World.ownsRow_nil _ _ _ _, fun b h => by simp [Value.ownBlock] at h, fun j h => absurd h (Nat.not_lt_zero _)⟩
theorem wO.plain (h : wO m n s w val ks) (hm : m <= n) : zR m w val ks := by
 obtain ⟨ds, h1, h2, h3, h4⟩ := h;refine ⟨ds, h1, ⟨h2.1, ?_⟩, fun j a b => (h4 j a b).mono fun k hk _ => ⟨hk.1, hk.2.2⟩⟩;rcases h2.2 with e | ⟨g, cap, cur, e1, e2, e3⟩
 ·
  exact .inl e
 ·
  exact .inr ⟨g, cap, cur, e1, by omega, e3⟩
theorem wO.snoc {w2 w3 : World} {v3 : Value} {d : NC} {t : Nd} {ds : List NC} (h1 : ds.length = ks.length) (h3 : ∀ j (h : j < ds.length) (h' : j < ks.length), zG (fun b => m <= b /\ (b < s \/ s + 2 < b) /\ val.ownBlock ≠ some b) w2 ds[j] ks[j])
  (hf : ∀ b, val.ownBlock = some b -> b < s \/ s + 2 < b) (hs : s + 2 < w2.heap.size)
  (hd : zG (fun b => m <= b /\ (b < s \/ s + 2 < b) /\ val.ownBlock ≠ some b) w2 d t) (ho : w3.ownsRow n 25 5 v3 (ks.length + 1) (ds.flatMap yJ ++ yJ d))
  (hal : w2.grownBy w3 val.ownBlock) (hat : v3.ownBlock = val.ownBlock \/ ∃ n, v3.ownBlock = some n /\ w2.heap.size <= n) : wO m n s w3 v3 (ks ++ [t]) := by
 have far : ∀ b, v3.ownBlock = some b -> b < s \/ s + 2 < b := fun b hb => by
  rcases hat with e | ⟨k, e, hk⟩
  ·
   exact hf b (e ▸ hb)
  ·
   rw [e] at hb; injection hb with hb; omega
 have keep : ∀ (x : NC) (u : Nd), zG (fun b => m <= b /\ (b < s \/ s + 2 < b) /\ val.ownBlock ≠ some b) w2 x u -> zG (fun b => m <= b /\ (b < s \/ s + 2 < b) /\ v3.ownBlock ≠ some b) w3 x u := fun x u h => by
  have h1 : zG (fun b => b < w2.heap.size /\ m <= b /\ (b < s \/ s + 2 < b) /\ val.ownBlock ≠ some b) w2 x u := h.mono fun b hb hl => ⟨hl, hb⟩
  have h2 := h1.keeps (w' := w3) ⟨hal.size, fun b hb hl => hal.block b hl (fun e => hb.2.2.2 e.symm)⟩;refine h2.mono fun b hb _ => ⟨hb.2.1, hb.2.2.1, fun e => ?_⟩
  rcases hat with e2 | ⟨k, e2, hk⟩
  ·
   exact hb.2.2.2 (e2 ▸ e)
  ·
   rw [e2] at e; injection e with e; have := hb.1; omega
 refine ⟨ds ++ [d], by simp [h1], ?_, far, fun j a b => ?_⟩
 ·
  rw [List.length_append, List.flatMap_append, List.flatMap_cons, List.flatMap_nil, List.append_nil];exact ho
 ·
  by_cases hj : j < ds.length
  ·
   rw [List.getElem_append_left hj, List.getElem_append_left (by omega)];exact keep _ _ (h3 j hj (by omega))
  ·
   have e : j = ds.length := by rw [List.length_append] at a; simp at a; omega
   subst e;rw [List.getElem_append_right (by omega), List.getElem_append_right (by omega)];simp only [h1, Nat.sub_self, List.getElem_singleton];exact keep _ _ hd
end
theorem AaY {cur : Array Value} {xs zs ys rest : List Value} (h : cur.toList = xs ++ (zs ++ rest)) (hz : zs.length = 5) {y0 y1 y2 y3 y4 : Value} (hy : ys = [y0, y1, y2, y3, y4]) :
  (((((cur.setIfInBounds xs.length y0).setIfInBounds (xs.length + 1) y1).setIfInBounds (xs.length + 2) y2).setIfInBounds (xs.length + 3) y3).setIfInBounds (xs.length + 4) y4).toList = xs ++ (ys ++ rest) := by
 match zs, hz with
 | [a, b, c, d, e], _ =>
  subst hy;simp only [Array.toList_setIfInBounds, h];simp [List.set_append]
structure OwnEnd (w3 : World) (n k g cap : Nat) (xs : List Value) : Prop where
 low : n <= g
 room : k + 1 <= cap
 c0 : ∃ u, w3.cell? ⟨g, k * 5, none⟩ = some u
 c1 : ∃ u, w3.cell? ⟨g, k * 5 + 1, none⟩ = some u
 c2 : ∃ u, w3.cell? ⟨g, k * 5 + 2, none⟩ = some u
 c3 : ∃ u, w3.cell? ⟨g, k * 5 + 3, none⟩ = some u
 c4 : ∃ u, w3.cell? ⟨g, k * 5 + 4, none⟩ = some u
 fz : ∀ i, w3.frozen? ⟨g, i, none⟩ = false
 lt : g < w3.heap.size
 set : ∀ y : NC, (((((w3.setCell ⟨g, k * 5, none⟩ (.int .i64 y.kind)).setCell ⟨g, k * 5 + 1, none⟩ (.int .i64 y.pos)).setCell ⟨g, k * 5 + 2, none⟩ (.int .i64 y.num)).setCell ⟨g, k * 5 + 3, none⟩ (.string ⟨y.text.toArray⟩)).setCell ⟨g, k * 5 + 4, none⟩ (.slice y.kp y.kl y.kc)).ownsRow n 25 5 (.slice (some ⟨g, 0, none⟩) (k + 1) cap) (k + 1) (xs ++ yJ y)
theorem kL {w3 : World} {n k : Nat} {v3 : Value} {xs : List Value} (ho : w3.ownsRow n 25 5 v3 (k + 1) (xs ++ yJ zN)) (hx : xs.length = k * 5) :
  ∃ g cap, v3 = .slice (some ⟨g, 0, none⟩) (k + 1) cap /\ OwnEnd w3 n k g cap xs := by
 obtain ⟨h1, ⟨-, h⟩ | ⟨g, cap, cur, e1, e2, e3, e4, e5, e6, e7⟩⟩ := ho
 ·
  omega
 ·
  refine ⟨g, cap, e1, ?_⟩;have hB : zW w3 g cur 25 := e3;have hsz : k * 5 + 5 <= cur.size := by rw [e6]; omega
  have hc : ∀ i, i < cur.size -> ∃ u, w3.cell? ⟨g, i, none⟩ = some u := fun i hi => ⟨_, by rw [hB.cell]; exact Array.getElem?_eq_getElem hi⟩
  refine ⟨e2, e4, hc _ (by omega), hc _ (by omega), hc _ (by omega), hc _ (by omega), hc _ (by omega), fun i => hB.frozen i, hB.lt, fun y => ?_⟩;have hB5 := ((((hB.set (k * 5) (.int .i64 y.kind)).set (k * 5 + 1) (.int .i64 y.pos)).set (k * 5 + 2) (.int .i64 y.num)).set (k * 5 + 3) (.string ⟨y.text.toArray⟩)).set (k * 5 + 4) (.slice y.kp y.kl y.kc);refine ⟨by simp [hx, tK]; omega, .inr ⟨g, cap, _, rfl, e2, hB5, e4, e5, by simpa using e6, ?_⟩⟩;have hd : cur.toList = xs ++ (yJ zN ++ cur.toList.drop ((k + 1) * 5)) := by
   rw [<- List.append_assoc, <- e7, List.take_append_drop]
  have := AaY hd rfl (ys := yJ y) rfl;rw [hx] at this;rw [this, <- List.append_assoc];refine List.take_left' ?_;simp [hx, tK]; omega
structure AaM (B : Nat) (v : Value) (w0 : World) (m n s f : Nat) (d : Cu) (ks : List Nd) (val : Value) (W : World) : Prop where
 cur : yT B v d w0 W
 pb : zW W s #[.pointer (some ⟨B, 0, none⟩)] 63
 ib : zW W (s + 1) #[.func (.func f) #[wF B] #[]] 64
 lb : zW W (s + 2) #[val] 23
 row : wO m n s W val ks
def ItTo (B : Nat) (v : Value) (w0 : World) (m n s f : Nat) (o : yM Nd) (ks : List Nd) (e : Ending) (w' : World) : Prop :=
 e = .returned (.bool o.2.isSome) /\ (o.2 = none -> yT B v o.1 w0 w') /\ ∀ t, o.2 = some t -> ∃ val', AaM B v w0 m n s f o.1 (ks ++ [t]) val' w'
theorem bV {B m n s f : Nat} {v : Value} {w0 V w3 W7 : World} {c' : Cu} {ks : List Nd} {t : Nd} {p : Option Addr} {cap g3 cap3 : Nat} {ds : List NC} {dk dp dn : Int} {dt : List UInt8} {dq : Option Addr} {dl dc : Nat} (hmB : B < m) (hmn : m <= n) (hms : m <= s) (h0n : w0.heap.size <= n) (h0s : w0.heap.size <= s) (hsV : s + 2 < V.heap.size)
  (hA : yT B v c' w0 V) (Kp : zW V s #[.pointer (some ⟨B, 0, none⟩)] 63) (Ki : zW V (s + 1) #[.func (.func f) #[wF B] #[]] 64)
  (e1 : ds.length = ks.length) (e2 : ∀ b, (Value.slice p ks.length cap).ownBlock = some b -> n <= b /\ b < V.heap.size) (e3 : ∀ b, (Value.slice p ks.length cap).ownBlock = some b -> b < s \/ s + 2 < b)
  (e4 : ∀ j (h : j < ds.length) (h' : j < ks.length), zG (fun b => m <= b /\ (b < s \/ s + 2 < b) /\ (Value.slice p ks.length cap).ownBlock ≠ some b) V ds[j] ks[j])
  (ht : zG (fun b => m <= b /\ (b < s \/ s + 2 < b) /\ (Value.slice p ks.length cap).ownBlock ≠ some b) V ⟨dk, dp, dn, dt, dq, dl, dc⟩ t)
  (hal : V.grownBy w3 (Value.slice p ks.length cap).ownBlock) (hat : (Value.slice (some ⟨g3, 0, none⟩) (ks.length + 1) cap3).ownBlock = (Value.slice p ks.length cap).ownBlock \/ ∃ n, (Value.slice (some ⟨g3, 0, none⟩) (ks.length + 1) cap3).ownBlock = some n /\ V.heap.size <= n) (hng : g3 ≠ s + 2)
  (KL : zW w3 (s + 2) #[.slice p ks.length cap] 23) (ho3 : w3.ownsRow n 25 5 (.slice (some ⟨g3, 0, none⟩) (ks.length + 1) cap3) (ks.length + 1) (ds.flatMap yJ ++ yJ zN))
  (hW : W7 = (((((w3.setCell ⟨g3, ks.length * 5, none⟩ (.int .i64 dk)).setCell ⟨g3, ks.length * 5 + 1, none⟩ (.int .i64 dp)).setCell ⟨g3, ks.length * 5 + 2, none⟩ (.int .i64 dn)).setCell ⟨g3, ks.length * 5 + 3, none⟩ (.string ⟨dt.toArray⟩)).setCell ⟨g3, ks.length * 5 + 4, none⟩ (.slice dq dl dc)).setCell ⟨s + 2, 0, none⟩ (.slice (some ⟨g3, 0, none⟩) (ks.length + 1) cap3) \/
   W7 = (((((w3.setCell ⟨s + 2, 0, none⟩ (.slice (some ⟨g3, 0, none⟩) (ks.length + 1) cap3)).setCell ⟨g3, ks.length * 5, none⟩ (.int .i64 dk)).setCell ⟨g3, ks.length * 5 + 1, none⟩ (.int .i64 dp)).setCell ⟨g3, ks.length * 5 + 2, none⟩ (.int .i64 dn)).setCell ⟨g3, ks.length * 5 + 3, none⟩ (.string ⟨dt.toArray⟩)).setCell ⟨g3, ks.length * 5 + 4, none⟩ (.slice dq dl dc)) :
  ∃ val', AaM B v w0 m n s f c' (ks ++ [t]) val' W7 := by
 have hx : (ds.flatMap yJ).length = ks.length * 5 := by rw [qQ tK, e1]
 have hgV : g3 = (Value.slice (some ⟨g3, 0, none⟩) (ks.length + 1) cap3).ownBlock.getD 0 := rfl
 have hg0 : (Value.slice p ks.length cap).ownBlock = some g3 \/ V.heap.size <= g3 := by
  rcases hat with e | ⟨k, e, hk⟩
  ·
   exact .inl e.symm
  ·
   have e : (some g3 : Option Nat) = some k := e;injection e with e; exact .inr (e ▸ hk)
 have hgn : n <= g3 := (ho3.lt g3 rfl).1
 have hgf : g3 < s \/ s + 2 < g3 := by
  rcases hg0 with e | e
  ·
   exact e3 _ e
  ·
   omega
 have hpo : ∀ b, b < s \/ s + 2 < b -> True := fun _ _ => trivial
 have hA3 := hA.row hal (fun b hb => Nat.le_trans h0n (e2 b hb).1)
 have hlt := hA.lt
 have Kp3 := Kp.kept hal (fun e => by have := e3 _ e.symm; omega)
 have Ki3 := Ki.kept hal (fun e => by have := e3 _ e.symm; omega)
 have hown : W7.ownsRow n 25 5 (.slice (some ⟨g3, 0, none⟩) (ks.length + 1) cap3) (ks.length + 1) (ds.flatMap yJ ++ yJ ⟨dk, dp, dn, dt, dq, dl, dc⟩) /\ zW W7 (s + 2) #[.slice (some ⟨g3, 0, none⟩) (ks.length + 1) cap3] 23 /\ (∀ k, k ≠ g3 -> k ≠ s + 2 -> W7.heap[k]? = w3.heap[k]?) /\ w3.heap.size <= W7.heap.size /\ yT B v c' w0 W7 := by
  rcases hW with rfl | rfl
  ·
   obtain ⟨g, cp, e, HO⟩ := kL ho3 hx;have e : g3 = g /\ cap3 = cp := by simpa using e
   obtain ⟨rfl, rfl⟩ := e;have hP5 : wE g3 w3 _ := (((((wE.one w3 g3 (ks.length * 5) (.int .i64 dk)).trans (wE.one _ _ (ks.length * 5 + 1) (.int .i64 dp))).trans (wE.one _ _ (ks.length * 5 + 2) (.int .i64 dn))).trans (wE.one _ _ (ks.length * 5 + 3) (.string ⟨dt.toArray⟩))).trans (wE.one _ _ (ks.length * 5 + 4) (.slice dq dl dc)));have hP6 := wE.one ((((((w3.setCell ⟨g3, ks.length * 5, none⟩ (.int .i64 dk)).setCell ⟨g3, ks.length * 5 + 1, none⟩ (.int .i64 dp)).setCell ⟨g3, ks.length * 5 + 2, none⟩ (.int .i64 dn)).setCell ⟨g3, ks.length * 5 + 3, none⟩ (.string ⟨dt.toArray⟩)).setCell ⟨g3, ks.length * 5 + 4, none⟩ (.slice dq dl dc))) (s + 2) 0 (.slice (some ⟨g3, 0, none⟩) (ks.length + 1) cap3);refine ⟨(HO.set ⟨dk, dp, dn, dt, dq, dl, dc⟩).kept hP6.grown (.inr (fun e => hng (by injection e with e))), ?_, fun k h1 h2 => (hP6.other k h2).trans (hP5.other k h1), Nat.le_trans hP5.size hP6.size, yV (yV hA3 (by omega) hP5) (by omega) hP6⟩;exact (hP5.blk KL (Ne.symm hng)).set 0 (.slice (some ⟨g3, 0, none⟩) (ks.length + 1) cap3)
  ·
   have hP6 := wE.one w3 (s + 2) 0 (.slice (some ⟨g3, 0, none⟩) (ks.length + 1) cap3);have ho4 := ho3.kept hP6.grown (.inr (fun e => hng (by injection e with e)));obtain ⟨g, cp, e, HO⟩ := kL ho4 hx;have e : g3 = g /\ cap3 = cp := by simpa using e
   obtain ⟨rfl, rfl⟩ := e;have hP5 : wE g3 (w3.setCell ⟨s + 2, 0, none⟩ (.slice (some ⟨g3, 0, none⟩) (ks.length + 1) cap3)) _ := (((((wE.one _ g3 (ks.length * 5) (.int .i64 dk)).trans (wE.one _ _ (ks.length * 5 + 1) (.int .i64 dp))).trans (wE.one _ _ (ks.length * 5 + 2) (.int .i64 dn))).trans (wE.one _ _ (ks.length * 5 + 3) (.string ⟨dt.toArray⟩))).trans (wE.one _ _ (ks.length * 5 + 4) (.slice dq dl dc)));refine ⟨HO.set ⟨dk, dp, dn, dt, dq, dl, dc⟩, hP5.blk ?_ (Ne.symm hng), fun k h1 h2 => (hP5.other k h1).trans (hP6.other k h2), Nat.le_trans hP6.size hP5.size, yV (yV hA3 (by omega) hP6) (by omega) hP5⟩;exact KL.set 0 (.slice (some ⟨g3, 0, none⟩) (ks.length + 1) cap3)
 clear hW
 obtain ⟨o1, o2, o3, o4, o5⟩ := hown
 have hsz3 := hal.size
 have far : ∀ b, (Value.slice (some ⟨g3, 0, none⟩) (ks.length + 1) cap3).ownBlock = some b -> b < s \/ s + 2 < b := fun b hb => by
  have hb : (some g3 : Option Nat) = some b := hb;injection hb with hb; omega
 have keep : ∀ (x : NC) (u : Nd), zG (fun b => m <= b /\ (b < s \/ s + 2 < b) /\ (Value.slice p ks.length cap).ownBlock ≠ some b) V x u -> zG (fun b => m <= b /\ (b < s \/ s + 2 < b) /\ (Value.slice (some ⟨g3, 0, none⟩) (ks.length + 1) cap3).ownBlock ≠ some b) W7 x u := fun x u h => by
  have hne : ∀ b, (b < V.heap.size /\ m <= b /\ (b < s \/ s + 2 < b) /\ (Value.slice p ks.length cap).ownBlock ≠ some b) -> b ≠ g3 := fun b hb e => by
   subst e;rcases hg0 with q | q
   ·
    exact hb.2.2.2 q
   ·
    omega
  have h1 : zG (fun b => b < V.heap.size /\ m <= b /\ (b < s \/ s + 2 < b) /\ (Value.slice p ks.length cap).ownBlock ≠ some b) V x u := h.mono fun b hb hl => ⟨hl, hb⟩
  have h2 := h1.keeps (w' := W7) ⟨by omega, fun b hb hl => by rw [o3 b (hne b hb) (by omega)]; exact hal.block b hl (fun e => hb.2.2.2 e.symm)⟩;refine h2.mono fun b hb _ => ⟨hb.2.1, hb.2.2.1, fun e => ?_⟩
  have e : (some g3 : Option Nat) = some b := e;injection e with e; exact hne b hb e.symm
 refine ⟨_, o5, ?_, ?_, o2, ds ++ [⟨dk, dp, dn, dt, dq, dl, dc⟩], by simp [e1], ?_, far, fun j a b => ?_⟩
 ·
  exact (o3 s (by omega) (by omega)).trans Kp3
 ·
  exact (o3 (s + 1) (by omega) (by omega)).trans Ki3
 ·
  rw [List.length_append, List.flatMap_append, List.flatMap_cons, List.flatMap_nil, List.append_nil];exact o1
 ·
  by_cases hj : j < ds.length
  ·
   rw [List.getElem_append_left hj, List.getElem_append_left (by omega)];exact keep _ _ (e4 j hj (by omega))
  ·
   have e : j = ds.length := by rw [List.length_append] at a; simp at a; omega
   subst e;rw [List.getElem_append_right (by omega), List.getElem_append_right (by omega)];simp only [e1, Nat.sub_self, List.getElem_singleton];exact keep _ _ ht
theorem lD {f : Nat} (eg : ∀ args w, (callFunc f args).run Tryz.prog w = .ok (.enter f args) w) {item : Cu -> yM Nd} {w0 w : World} {B m n s : Nat} {v val : Value} {d : Cu} {ks : List Nd} (hS : AaM B v w0 m n s f d ks val w)
  (hmB : B < m) (hmn : m <= n) (hms : m <= s) (h0n : w0.heap.size <= n) (h0s : w0.heap.size <= s) (hns : n <= s) (hlen : ks.length <= 20000)
  (hit : ∀ W, zJ W B v d -> Calls Tryz.prog f #[wF B] W (zU B v (item d) W)) :
  Calls Tryz.prog 136 #[.pointer (some ⟨s + 1, 0, none⟩), .pointer (some ⟨s + 2, 0, none⟩)] w (ItTo B v w0 m n s f (item d) ks) := by
 obtain ⟨hA, Kp, Ki, Kl, Ro⟩ := hS
 have hbw : ∀ b, val.ownBlock = some b -> b < w.heap.size := by obtain ⟨ds, -, h, -⟩ := Ro; exact fun b hb => (h.lt b hb).2
 have hlow := Kl.lt
 have HC := hit w hA.cur
 clear hit
 have i0 := zC Ki
 go_enter Tryz.func136, Tryz.ntmps136
 go_wp2_with fail
 refine HC.mono ?_; rintro e W2 ⟨⟨dk, dp, dn, dt, dq, dl, dc⟩, rfl, hAc, hm⟩
 clear HC i0
 have hs2 := hAc.size
 have hA2 := hA.trans hAc
 have Kp := Kp.kg hAc.grown (by omega)
 have Ki := Ki.kg hAc.grown (by omega)
 have Kl := Kl.kg hAc.grown (by omega)
 have Ro := Ro.keep hAc.grown hmn (.inl hmB)
 clear hA hAc
 unfold NC.val
 obtain ⟨V, hV, Kd, hB, -⟩ := zT W2 #[.int .i64 dk, .int .i64 dp, .int .i64 dn, .string ⟨dt.toArray⟩, .slice dq dl dc] 25
 have hsV : V.heap.size = W2.heap.size + 1 := by rw [hV]; simp
 cases ho : (item d).2 with
 | none =>
  simp only [Option.isSome_none];go_upto_region 2 with fail;rw [<- hV];go_wp2_with fail;go_ret;exact ⟨by rw [ho]; rfl, fun _ => hA2.below hB, fun t h => by rw [ho] at h; cases h⟩
 | some t =>
  simp only [Option.isSome_some];rw [ho] at hm;have Td : zG _ _ _ t := hm;clear hm;go_upto_region 2 with fail;rw [<- hV];replace Td := (Td.mono (S' := fun b => w.heap.size <= b /\ b < W2.heap.size) fun k hk hl => ⟨hk, hl⟩).later hB;have hAV := hA2.below hB;have Kp := Kp.later hB;have Ki := Ki.later hB;have Kl := Kl.later hB;have Ro := Ro.keep (zE hB (some B)) hmn (.inl hmB);clear hA2 hB hV;obtain ⟨p, cap, rfl⟩ := Ro.shape;obtain ⟨ds, e1, e2, e3, e4⟩ := Ro;obtain ⟨i0, hi0, hz0, hz1, hz2⟩ := info_parts wS;have HE2 : Hid ((V.alloc (.cells #[.int .i64 0, .int .i64 0, .int .i64 0, .string ⟨#[]⟩, .slice none 0 0] 25)).drew.ownsRow n 25 5 (.slice p ks.length cap) ks.length (ds.flatMap yJ)) := World.ownsRow.alloc e2 _;have HCL : Hid (∀ j u, (yJ zN)[j]? = some u -> (V.alloc (.cells #[.int .i64 0, .int .i64 0, .int .i64 0, .string ⟨#[]⟩, .slice none 0 0] 25)).drew.cell? ((⟨W2.heap.size + 1, 0, none⟩ : Addr).add j) = some u) := by
   intro j u h;rw [<- hsV];exact N6.cells_of_new V _ _ (yJ zN) rfl j u h
  have HKL := Lib.hid Kl;have HKD := Lib.hid Kd;have HX : Hid ((ds.flatMap yJ).length = ks.length * 5) := by show _ = _; rw [qQ tK, e1]
  have HBK := Lib.hid (fun b hb => e2.lt b hb);have HBW : Hid (∀ b, (Value.slice p ks.length cap).ownBlock = some b -> b < w.heap.size) := fun b hb => hbw b hb
  clear e2;have l0 := zC Kl;have lf := Kl.frozen 0;have f_d := zA Kd;go_wp2_with fail;have q1 : s + 2 < W2.heap.size + 1 := by omega
  have q2 : ¬ s + 2 = W2.heap.size + 1 := by omega
  have hlt1 : (ks.length : Int) < (ks.length : Int) + 1 := by omega
  have HGOAL : Hid (∀ X : World, (∃ val', AaM B v w0 m n s f (item d).1 (ks ++ [t]) val' X) -> ItTo B v w0 m n s f (item d) ks (.returned (.bool true)) X) := fun X hX => ⟨(by rw [ho]; rfl), (fun h => by rw [ho] at h; cases h), (fun t' h => by rw [ho] at h; injection h with h; subst h; exact hX)⟩
  have HAL : Hid (∀ w3, (V.alloc (.cells #[.int .i64 0, .int .i64 0, .int .i64 0, .string ⟨#[]⟩, .slice none 0 0] 25)).drew.grownBy w3 (Value.slice p ks.length cap).ownBlock -> V.grownBy w3 (Value.slice p ks.length cap).ownBlock) := fun w3 h => (World.grownBy_alloc V _ _).andThen ⟨h.os, h.tape, h.output, h.size, h.block⟩ (fun j hj => .inr hj)
  have HK3 : Hid (∀ w3, V.grownBy w3 (Value.slice p ks.length cap).ownBlock -> zW w3 (s + 2) #[.slice p ks.length cap] 23) := fun w3 h => HKL.out.kept h (fun e => by have := e3 _ e.symm; omega)
  have HG3 : Hid (∀ g3 cap3, ((Value.slice (some ⟨g3, 0, none⟩) (ks.length + 1) cap3).ownBlock = (Value.slice p ks.length cap).ownBlock \/ (Value.slice (some ⟨g3, 0, none⟩) (ks.length + 1) cap3).ownBlock = some (V.alloc (.cells #[.int .i64 0, .int .i64 0, .int .i64 0, .string ⟨#[]⟩, .slice none 0 0] 25)).drew.heap.size) -> g3 ≠ s + 2) := by
   intro g3 cap3 h e;rcases h with q | q
   ·
    have := e3 g3 (by rw [<- q]; rfl); omega
   ·
    have q2 : (some g3 : Option Nat) = some (V.alloc (.cells #[.int .i64 0, .int .i64 0, .int .i64 0, .string ⟨#[]⟩, .slice none 0 0] 25)).drew.heap.size := q;injection q2 with q2
    simp at q2;omega
  have e3' := Lib.hid e3;clear e3;have hlt1 : (ks.length : Int) < (ks.length : Int) + 1 := by omega
  go_region_law (refine sJ rfl ?_; refine N6.wp_append_at _ _ 23 rfl n 25 i0 _ 5 64 Tryz.underlying23 hi0 hz0 hz1 hz2 rfl (by decide) _ _ _ rfl HE2.out ⟨W2.heap.size + 1, 0, none⟩ 1 1 (yJ zN) rfl rfl HCL.out (wD _) ?_ ?_ ?_ ?_; (unfold maxLen; omega); omega; (simp <;> omega); intro v3 w3 ho3 hg3 hat3; obtain ⟨g3, cap3, rfl, HO⟩ := kL ho3 HX.out; obtain ⟨u0, g0⟩ := HO.c0; obtain ⟨u1, g1⟩ := HO.c1; obtain ⟨u2, g2⟩ := HO.c2; obtain ⟨u3, g3'⟩ := HO.c3; obtain ⟨u4, g4⟩ := HO.c4; have hz := HO.fz; have KL3 := HK3.out w3 (HAL.out w3 hg3); have ll0 := zC KL3; have llf := KL3.frozen 0; have hlow3 := KL3.lt; have hng3 := HG3.out g3 cap3 hat3; have hg3lt := HO.lt);all_goals
   go_wp2_with fail;go_ret;refine HGOAL.out _ ?_;have hat4 := hat3.imp id (fun e => (⟨_, e, by simp <;> omega⟩ : ∃ n, (Value.slice (some ⟨g3, 0, none⟩) (ks.length + 1) cap3).ownBlock = some n /\ V.heap.size <= n));refine bV hmB hmn hms h0n h0s (by omega) hAV Kp Ki e1 HBK.out e3'.out e4 (Td.mono fun b hb _ => ⟨by omega, by omega, fun e => ?_⟩) (HAL.out w3 hg3) hat4 hng3 KL3 ho3 ?_
   ·
    have := HBW.out b e; omega
   ·
    first | exact .inl (by with_reducible rfl) | exact .inr (by with_reducible rfl)
end Go.Proofs.YtdjomhbmhooceaaGreat.N9
