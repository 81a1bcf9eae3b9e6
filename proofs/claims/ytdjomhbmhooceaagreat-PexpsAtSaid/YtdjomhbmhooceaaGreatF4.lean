import Derived.Test.YtdjomhbmhooceaaGreatF1
import Derived.Lib.Strings
import Derived.WalkLawsBesides
import Derived.RangeFuncNested
import Derived.RangeFuncBound
import Derived.RangeFuncCalls
import Derived.RangeFuncLeaves
import Derived.Shelf.Abstract
import Derived.Shelf.RegionOpen
import Derived.OwnWalkIn
import Derived.TacticsInMore
import Derived.LoopNIn
import Derived.LoopIn
import Derived.Deep.LoopGhost
import Derived.Deep.Cut
import Derived.Deep.RegionHeld3
import Derived.Maps.AppendAt
import Derived.Deep.QuietTactic
import Derived.BigQuiet
import Derived.StillTailTactics
import Derived.Deep.CutBlock
import Derived.Laws.OwnMore
import Derived.Laws.IdiomCopy
set_option maxHeartbeats 8000000
set_option maxRecDepth 100000
set_option linter.unusedVariables false
set_option linter.unusedSimpArgs false
namespace Go.Proofs.YtdjomhbmhooceaaGreat.N6
open Go.RowKit
def sQ {α : Type} (S : Nat -> Prop) (w : World) (enc : α -> List Value) (v : Value) (xs : List α) : Prop :=
 ∃ (p : Option Addr) (cap : Nat), v = .slice p xs.length cap /\ xs.length <= cap /\
  (xs = [] \/ ∃ g o, p = some ⟨g, o, none⟩ /\ S g /\ g < w.heap.size /\ ∀ j u, (xs.flatMap enc)[j]? = some u -> w.cell? ⟨g, o + j, none⟩ = some u)
structure uO (S : Nat -> Prop) (w w' : World) : Prop where
 size : w.heap.size <= w'.heap.size
 same : ∀ k, S k -> k < w.heap.size -> w'.heap[k]? = w.heap[k]?
theorem uO.of_below {S : Nat -> Prop} {w w' : World} (h : Below w.heap.size w w') : uO S w w' := ⟨h.size, fun k _ hl => h.block k hl⟩
theorem uO.trans {S : Nat -> Prop} {a b c : World} (h : uO S a b) (g : uO S b c) : uO S a c :=
 ⟨Nat.le_trans h.size g.size, fun k hk hl => (g.same k hk (Nat.lt_of_lt_of_le hl h.size)).trans (h.same k hk hl)⟩
theorem uO.refl (S : Nat -> Prop) (w : World) : uO S w w := ⟨Nat.le_refl _, fun _ _ _ => rfl⟩
section
variable {α : Type} {S S' : Nat -> Prop} {w w' : World} {enc : α -> List Value} {v : Value} {xs : List α}
theorem sQ.keeps (h : sQ S w enc v xs) (hk : uO S w w') : sQ S w' enc v xs := by
 obtain ⟨p, cap, rfl, hl, h⟩ := h;refine ⟨p, cap, rfl, hl, h.imp id ?_⟩;rintro ⟨g, o, rfl, hs, hg, hc⟩;refine ⟨g, o, rfl, hs, Nat.lt_of_lt_of_le hg hk.size, fun j u hu => ?_⟩;exact (World.cell?_of_block (a := ⟨g, o + j, none⟩) (hk.same g hs hg)).trans (hc j u hu)
theorem sQ.mono (h : sQ S w enc v xs) (hS : ∀ k, S k -> k < w.heap.size -> S' k) : sQ S' w enc v xs := by
 obtain ⟨p, cap, rfl, hl, h⟩ := h;refine ⟨p, cap, rfl, hl, h.imp id ?_⟩;rintro ⟨g, o, rfl, hs, hg, hc⟩;exact ⟨g, o, rfl, hS g hs hg, hg, hc⟩
theorem sQ.at (h : sQ S w enc v xs) : yY w.heap.size w enc v xs := by
 obtain ⟨p, cap, rfl, hl, h⟩ := h;refine ⟨p, cap, rfl, hl, h.imp id ?_⟩;rintro ⟨g, o, rfl, hs, hg, hc⟩;exact ⟨g, o, rfl, hg, hg, hc⟩
theorem sQ.nil (p : Option Addr) (cap : Nat) : sQ S w enc (.slice p 0 cap) ([] : List α) := ⟨p, cap, rfl, Nat.zero_le _, .inl rfl⟩
end
structure NC where
 kind : Int
 pos : Int
 num : Int
 text : List UInt8
 kp : Option Addr
 kl : Nat
 kc : Nat
def NC.kids (c : NC) : Value := .slice c.kp c.kl c.kc
def yJ (c : NC) : List Value := [.int .i64 c.kind, .int .i64 c.pos, .int .i64 c.num, .string ⟨c.text.toArray⟩, .slice c.kp c.kl c.kc]
def NC.val (c : NC) : Value := .agg #[.int .i64 c.kind, .int .i64 c.pos, .int .i64 c.num, .string ⟨c.text.toArray⟩, .slice c.kp c.kl c.kc]
theorem tK (c : NC) : (yJ c).length = 5 := rfl
theorem wD : ∀ c : NC, ∀ u ∈ yJ c, u.oneCell' = true := fun c u hu => by
 simp only [yJ, List.mem_cons, List.not_mem_nil, or_false] at hu;rcases hu with rfl | rfl | rfl | rfl | rfl <;> rfl
inductive Nd where
 | mk (kind pos num : Int) (text : List UInt8) (kids : List Nd)
namespace Nd
def kind : Nd -> Int | mk k _ _ _ _ => k
def pos : Nd -> Int | mk _ p _ _ _ => p
def num : Nd -> Int | mk _ _ n _ _ => n
def text : Nd -> List UInt8 | mk _ _ _ t _ => t
def kids : Nd -> List Nd | mk _ _ _ _ ks => ks
mutual
def size : Nd -> Nat
 | mk _ _ _ _ ks => sizes ks + 1
def sizes : List Nd -> Nat
 | [] => 0
 | k :: ks => k.size + sizes ks
end
theorem size_eq (t : Nd) : t.size = sizes t.kids + 1 := by cases t; rfl
theorem sizes_cons (k : Nd) (ks : List Nd) : sizes (k :: ks) = k.size + sizes ks := rfl
theorem sizes_append (a b : List Nd) : sizes (a ++ b) = sizes a + sizes b := by
 induction a with
 | nil => simp [sizes]
 | cons k ks ih => rw [List.cons_append, sizes_cons, sizes_cons, ih]; omega
theorem size_pos (t : Nd) : 0 < t.size := by rw [size_eq]; omega
theorem dX {t : Nd} {l : List Nd} (h : t ∈ l) : t.size <= sizes l := by
 induction l with
 | nil => cases h
 | cons k ks ih =>
  rw [sizes_cons];rcases List.mem_cons.1 h with rfl | h
  ·
   omega
  ·
   have := ih h; omega
theorem fX {t k : Nd} (h : k ∈ t.kids) : k.size < t.size := by have e := size_eq t; have := dX h; omega
theorem kid_at {t : Nd} {i : Nat} (h : i < t.kids.length) : t.kids[i].size < t.size := fX (List.getElem_mem h)
theorem len_le (t : Nd) : t.kids.length < t.size := by
 rw [size_eq];have : ∀ l : List Nd, l.length <= sizes l := fun l => by
  induction l with
  | nil => exact Nat.zero_le _
  | cons k ks ih => rw [sizes_cons, List.length_cons]; have := size_pos k; omega
 have := this t.kids; omega
mutual
def depth : Nd -> Nat
 | mk _ _ _ _ ks => depths ks + 1
def depths : List Nd -> Nat
 | [] => 0
 | k :: ks => max k.depth (depths ks)
end
theorem depth_eq (t : Nd) : t.depth = depths t.kids + 1 := by cases t; rfl
theorem depths_cons (k : Nd) (ks : List Nd) : depths (k :: ks) = max k.depth (depths ks) := rfl
theorem by_size {P : Nd -> Prop} (h : ∀ t, (∀ k, k.size < t.size -> P k) -> P t) (t : Nd) : P t := by
 have : ∀ n t, size t <= n -> P t := by
  intro n;induction n with
  | zero => intro t ht; have := size_pos t; omega
  | succ n ih => intro t ht; exact h t fun k hk => ih k (by omega)
 exact this _ t (Nat.le_refl _)
theorem depth_le (t : Nd) : t.depth <= t.size := by
 induction t using by_size with
 | h t ih =>
  have hl : ∀ l : List Nd, (∀ k ∈ l, k.depth <= k.size) -> depths l <= sizes l := fun l => by
   induction l with
   | nil => intro _; exact Nat.le_refl _
   | cons k ks ih2 =>
    intro h;have h1 := h k List.mem_cons_self;have h2 := ih2 fun x hx => h x (List.mem_cons_of_mem _ hx)
    rw [depths_cons, sizes_cons]; omega
  have := hl t.kids fun k hk => ih k (fX hk)
  have e1 := size_eq t;have e2 := depth_eq t;omega
end Nd
inductive zG (S : Nat -> Prop) (w : World) : NC -> Nd -> Prop where
 | mk (c : NC) (t : Nd) (ncs : List NC) : c.kind = t.kind -> c.pos = t.pos -> c.num = t.num -> c.text = t.text -> c.kl = t.kids.length -> sQ S w yJ (.slice c.kp c.kl c.kc) ncs ->
   (∀ i (h : i < t.kids.length) (h' : i < ncs.length), zG S w ncs[i] t.kids[i]) -> zG S w c t
section
variable {S S' : Nat -> Prop} {w w' : World} {c : NC} {t : Nd}
theorem zG.kind (h : zG S w c t) : c.kind = t.kind := by cases h; assumption
theorem zG.pos (h : zG S w c t) : c.pos = t.pos := by cases h; assumption
theorem zG.num (h : zG S w c t) : c.num = t.num := by cases h; assumption
theorem zG.text (h : zG S w c t) : c.text = t.text := by cases h; assumption
theorem zG.len (h : zG S w c t) : c.kl = t.kids.length := by cases h; assumption
theorem zG.row (h : zG S w c t) : ∃ ncs, ncs.length = t.kids.length /\ sQ S w yJ (.slice c.kp c.kl c.kc) ncs /\ ∀ i (h : i < t.kids.length) (h' : i < ncs.length), zG S w ncs[i] t.kids[i] := by
 cases h with
 | mk c t ncs h1 h2 h3 h4 h5 h6 h7 =>
  refine ⟨ncs, ?_, h6, h7⟩;obtain ⟨p, cap, e, -⟩ := h6;injection e with _ e _
  omega
theorem zG.keeps (h : zG S w c t) (hk : uO S w w') : zG S w' c t := by
 induction h with
 | mk c t ncs h1 h2 h3 h4 h5 h6 h7 ih => exact .mk c t ncs h1 h2 h3 h4 h5 (h6.keeps hk) ih
theorem zG.mono (h : zG S w c t) (hS : ∀ k, S k -> k < w.heap.size -> S' k) : zG S' w c t := by
 induction h with
 | mk c t ncs h1 h2 h3 h4 h5 h6 h7 ih => exact .mk c t ncs h1 h2 h3 h4 h5 (h6.mono hS) ih
theorem zG.later (h : zG S w c t) (hB : Below w.heap.size w w') : zG S w' c t := h.keeps (.of_below hB)
theorem zG.kid (h : zG S w c t) (i : Nat) (hi : i < t.kids.length) : ∃ (k : NC) (g o : Nat), c.kp = some ⟨g, o, none⟩ /\ S g /\ g < w.heap.size /\ i < c.kl /\ c.kl <= c.kc /\ zG S w k t.kids[i] /\
  (∀ w' : World, w'.heap[g]? = w.heap[g]? -> w'.cell? ⟨g, o + i * 5, none⟩ = some (.int .i64 k.kind) /\ w'.cell? ⟨g, o + i * 5 + 1, none⟩ = some (.int .i64 k.pos) /\ w'.cell? ⟨g, o + i * 5 + 2, none⟩ = some (.int .i64 k.num) /\
   w'.cell? ⟨g, o + i * 5 + 3, none⟩ = some (.string ⟨k.text.toArray⟩) /\ w'.cell? ⟨g, o + i * 5 + 4, none⟩ = some (.slice k.kp k.kl k.kc)) := by
 obtain ⟨ncs, hn, ⟨p, cap, e, hl, hc⟩, hk⟩ := h.row
 have hi' : i < ncs.length := by omega
 injection e with e1 e2 e3
 rcases hc with rfl | ⟨g, o, rfl, hs, hg, hc⟩
 ·
  simp at hi'
 ·
  refine ⟨ncs[i], g, o, e1, hs, hg, by omega, by omega, hk i hi hi', fun w' hw' => ?_⟩;have at' : ∀ m u, m < 5 -> (yJ ncs[i])[m]? = some u -> w'.cell? ⟨g, o + i * 5 + m, none⟩ = some u := fun m u hm hu => by
   have := qU tK ncs i hi' m hm;rw [hu] at this;have := hc _ _ this;rw [<- Nat.add_assoc] at this;exact (World.cell?_of_block (a := ⟨g, o + i * 5 + m, none⟩) hw').trans this
  exact ⟨at' 0 _ (by omega) rfl, at' 1 _ (by omega) rfl, at' 2 _ (by omega) rfl, at' 3 _ (by omega) rfl, at' 4 _ (by omega) rfl⟩
def sO (w : World) (b : Nat) (c : NC) : Prop := w.cell? ⟨b, 0, none⟩ = some (.int .i64 c.kind) /\ w.cell? ⟨b, 1, none⟩ = some (.int .i64 c.pos) /\ w.cell? ⟨b, 2, none⟩ = some (.int .i64 c.num) /\
 w.cell? ⟨b, 3, none⟩ = some (.string ⟨c.text.toArray⟩) /\ w.cell? ⟨b, 4, none⟩ = some (.slice c.kp c.kl c.kc)
theorem sO.new (w : World) (c : NC) (ty : TypeId) : sO (w.alloc (.cells #[.int .i64 c.kind, .int .i64 c.pos, .int .i64 c.num, .string ⟨c.text.toArray⟩, .slice c.kp c.kl c.kc] ty)) w.heap.size c := by
 unfold sO;simp only [World.cell?_alloc_at _ _ _ _ rfl];exact ⟨rfl, rfl, rfl, rfl, rfl⟩
theorem sO.same {b : Nat} (h : sO w b c) (hb : w'.heap[b]? = w.heap[b]?) : sO w' b c := by
 unfold sO at h ⊢;have e : ∀ i, w'.cell? ⟨b, i, none⟩ = w.cell? ⟨b, i, none⟩ := fun i => World.cell?_of_block (a := ⟨b, i, none⟩) hb
 rw [e, e, e, e, e]; exact h
end
end Go.Proofs.YtdjomhbmhooceaaGreat.N6
namespace Go.Proofs.YtdjomhbmhooceaaGreat.N6
open Go.RowKit
def IntIs (n : Int) (w : World) (e : Ending) (w' : World) : Prop := e = .returned (.int .i64 n) /\ Below w.heap.size w w'
def nS (b : Bool) (w : World) (e : Ending) (w' : World) : Prop := e = .returned (.bool b) /\ Below w.heap.size w w'
def left (n : Int) (s : Nat) : Int := if (s : Int) <= n then n - s else -1
end Go.Proofs.YtdjomhbmhooceaaGreat.N6
namespace Go.Proofs.YtdjomhbmhooceaaGreat.N6
open Go.RowKit
structure Td where
 level : Nat
 cells : NC
 tree : Nd
def sU (x : Td) : List Value := [.int .i64 x.level, .int .i64 x.cells.kind, .int .i64 x.cells.pos, .int .i64 x.cells.num, .string ⟨x.cells.text.toArray⟩, .slice x.cells.kp x.cells.kl x.cells.kc]
theorem aV (x : Td) : (sU x).length = 6 := rfl
theorem AbK : ∀ c : Td, ∀ u ∈ sU c, u.oneCell' = true := fun c u hu => by
 simp only [sU, List.mem_cons, List.not_mem_nil, or_false] at hu;rcases hu with rfl | rfl | rfl | rfl | rfl | rfl <;> rfl
def nJ (S : Nat -> Prop) (w : World) (x : Td) (ks : List Td) : Prop :=
 ks.length = x.tree.kids.length /\ ∀ i (h : i < ks.length) (h' : i < x.tree.kids.length), ks[i].level = x.level + 1 /\ ks[i].tree = x.tree.kids[i] /\ zG S w ks[i].cells ks[i].tree /\
  ∃ g o, x.cells.kp = some ⟨g, o, none⟩ /\ S g /\ g < w.heap.size /\ ∀ w' : World, w'.heap[g]? = w.heap[g]? ->
   w'.cell? ⟨g, o + i * 5, none⟩ = some (.int .i64 ks[i].cells.kind) /\ w'.cell? ⟨g, o + i * 5 + 1, none⟩ = some (.int .i64 ks[i].cells.pos) /\ w'.cell? ⟨g, o + i * 5 + 2, none⟩ = some (.int .i64 ks[i].cells.num) /\
   w'.cell? ⟨g, o + i * 5 + 3, none⟩ = some (.string ⟨ks[i].cells.text.toArray⟩) /\ w'.cell? ⟨g, o + i * 5 + 4, none⟩ = some (.slice ks[i].cells.kp ks[i].cells.kl ks[i].cells.kc)
theorem kids_of {S : Nat -> Prop} {w : World} {x : Td} (h : zG S w x.cells x.tree) : ∃ ks, nJ S w x ks := by
 have : ∀ i (hi : i < x.tree.kids.length), ∃ k : Td, k.level = x.level + 1 /\ k.tree = x.tree.kids[i] /\ zG S w k.cells k.tree /\
  ∃ g o, x.cells.kp = some ⟨g, o, none⟩ /\ S g /\ g < w.heap.size /\ ∀ w' : World, w'.heap[g]? = w.heap[g]? ->
   w'.cell? ⟨g, o + i * 5, none⟩ = some (.int .i64 k.cells.kind) /\ w'.cell? ⟨g, o + i * 5 + 1, none⟩ = some (.int .i64 k.cells.pos) /\ w'.cell? ⟨g, o + i * 5 + 2, none⟩ = some (.int .i64 k.cells.num) /\
   w'.cell? ⟨g, o + i * 5 + 3, none⟩ = some (.string ⟨k.cells.text.toArray⟩) /\ w'.cell? ⟨g, o + i * 5 + 4, none⟩ = some (.slice k.cells.kp k.cells.kl k.cells.kc) := fun i hi => by
  obtain ⟨k, g, o, h1, h2, h3, -, -, h4, h5⟩ := h.kid i hi
  exact ⟨⟨x.level + 1, k, x.tree.kids[i]⟩, rfl, rfl, h4, g, o, h1, h2, h3, h5⟩
 by_cases h0 : x.tree.kids.length = 0
 ·
  exact ⟨[], by simp [h0], fun i hi => by simp at hi⟩
 ·
  obtain ⟨k0, -⟩ := this 0 (by omega);refine ⟨(List.range x.tree.kids.length).map fun i => if hi : i < x.tree.kids.length then Classical.choose (this i hi) else k0, by simp, fun i hi hi' => ?_⟩;rw [List.getElem_map, List.getElem_range, dif_pos hi'];exact Classical.choose_spec (this i hi')
inductive sR (S : Nat -> Prop) (w : World) : List Td -> List Td -> Prop where
 | nil : sR S w [] []
 | cons {x : Td} {st ks out : List Td} : zG S w x.cells x.tree -> nJ S w x ks -> sR S w (ks ++ st) out -> sR S w (x :: st) (x :: out)
def weight : List Td -> Nat
 | [] => 0
 | x :: st => x.tree.size + weight st
theorem pA (a b : List Td) : weight (a ++ b) = weight a + weight b := by
 induction a with
 | nil => simp [weight]
 | cons x st ih => rw [List.cons_append, weight, weight, ih]; omega
theorem pY : ∀ (ks : List Td) (l : List Nd), ks.length = l.length -> (∀ i (h : i < ks.length) (h' : i < l.length), ks[i].tree = l[i]) -> weight ks = Nd.sizes l
 | [], [], _, _ => rfl
 | [], _ :: _, h, _ => by simp at h
 | _ :: _, [], h, _ => by simp at h
 | k :: ks, t :: l, h, e => by
  have h0 := e 0 (by simp) (by simp);simp only [List.getElem_cons_zero] at h0;rw [weight, Nd.sizes_cons, h0, pY ks l (by simpa using h) fun i hi hi' => by have := e (i + 1) (by simpa using hi) (by simpa using hi'); simpa using this]
theorem nJ.weight {S : Nat -> Prop} {w : World} {x : Td} {ks : List Td} (h : nJ S w x ks) : weight ks + 1 = x.tree.size := by
 rw [Nd.size_eq, pY ks _ h.1 fun i hi hi' => (h.2 i hi hi').2.1]
theorem jX {S : Nat -> Prop} {w : World} : ∀ (n : Nat) (st : List Td), weight st <= n -> (∀ x ∈ st, zG S w x.cells x.tree) -> ∃ out, sR S w st out
 | _, [], _, _ => ⟨[], .nil⟩
 | 0, x :: st, h, _ => by have := x.tree.size_pos; rw [weight] at h; omega
 | n + 1, x :: st, h, hn => by
  obtain ⟨ks, hks⟩ := kids_of (hn x List.mem_cons_self);have hw := hks.weight;rw [weight] at h;obtain ⟨out, ho⟩ := jX n (ks ++ st) (by rw [pA]; omega) fun y hy => by
   rcases List.mem_append.1 hy with hy | hy
   ·
    obtain ⟨i, hi, rfl⟩ := List.mem_iff_getElem.1 hy;exact (hks.2 i hi (by rw [<- hks.1]; exact hi)).2.2.1
   ·
    exact hn y (List.mem_cons_of_mem _ hy)
  exact ⟨x :: out, .cons (hn x List.mem_cons_self) hks ho⟩
theorem sR.length {S : Nat -> Prop} {w : World} {st out : List Td} (h : sR S w st out) : out.length = weight st := by
 induction h with
 | nil => rfl
 | cons h1 h2 h3 ih => rw [List.length_cons, ih, weight, pA]; have := h2.weight; omega
theorem fN (st : List Td) : st.length <= weight st := by
 induction st with
 | nil => exact Nat.zero_le _
 | cons x st ih => rw [weight, List.length_cons]; have := x.tree.size_pos; omega
def deepest (l : List Td) : Nat := l.foldr (fun x d => max x.level d) 0
def rG : List Td -> Nat
 | [] => 0
 | x :: st => max (x.level + x.tree.depth - 1) (rG st)
theorem kC (a b : List Td) : rG (a ++ b) = max (rG a) (rG b) := by
 induction a with
 | nil => simp [rG]
 | cons x st ih => rw [List.cons_append, rG, rG, ih]; omega
theorem oT (n : Nat) : ∀ (ks : List Td) (l : List Nd), ks.length = l.length -> (∀ i (h : i < ks.length) (h' : i < l.length), ks[i].tree = l[i] /\ ks[i].level = n) -> rG ks = if l = [] then 0 else n + Nd.depths l - 1
 | [], [], _, _ => rfl
 | [], _ :: _, h, _ => by simp at h
 | _ :: _, [], h, _ => by simp at h
 | k :: ks, t :: l, h, e => by
  have h0 := e 0 (by simp) (by simp);simp only [List.getElem_cons_zero] at h0;rw [rG, Nd.depths_cons, h0.1, h0.2, oT n ks l (by simpa using h) fun i hi hi' => by have := e (i + 1) (by simpa using hi) (by simpa using hi'); simpa using this];have ht : 0 < t.depth := by rw [Nd.depth_eq]; omega
  by_cases hl : l = []
  ·
   subst hl; simp [Nd.depths]
  ·
   rw [if_neg hl, if_neg (by simp)];have : 0 < Nd.depths l := by
    cases l with
    | nil => exact absurd rfl hl
    | cons t' l' =>
     rw [Nd.depths_cons]; have : 0 < t'.depth := by rw [Nd.depth_eq]; omega
     omega
   omega
theorem sR.deepest {S : Nat -> Prop} {w : World} {st out : List Td} (h : sR S w st out) : deepest out = rG st := by
 induction h with
 | nil => rfl
 | @cons x st ks out h1 h2 h3 ih =>
  show max x.level (Go.Proofs.YtdjomhbmhooceaaGreat.N6.deepest out) = _;rw [ih, rG, kC, oT (x.level + 1) ks x.tree.kids h2.1 fun i hi hi' => ⟨(h2.2 i hi hi').2.1, (h2.2 i hi hi').1⟩, Nd.depth_eq];split
  ·
   rename_i e; rw [e]; simp [Nd.depths]
  ·
   rename_i e;have : 0 < Nd.depths x.tree.kids := by
    cases hk : x.tree.kids with
    | nil => exact absurd hk e
    | cons t' l' =>
     rw [Nd.depths_cons]; have : 0 < t'.depth := by rw [Nd.depth_eq]; omega
     omega
   omega
theorem sR.kept {S : Nat -> Prop} {w w' : World} {st out : List Td} (h : sR S w st out) (hk : uO S w w') : sR S w' st out := by
 induction h with
 | nil => exact .nil
 | cons h1 h2 h3 ih =>
  refine .cons (h1.keeps hk) ⟨h2.1, fun i hi hi' => ?_⟩ ih;obtain ⟨q1, q2, q3, g, o, q4, q5, q6, q7⟩ := h2.2 i hi hi';exact ⟨q1, q2, q3.keeps hk, g, o, q4, q5, Nat.lt_of_lt_of_le q6 hk.size, fun w'' e => q7 w'' (e.trans (hk.same g q5 q6))⟩
end Go.Proofs.YtdjomhbmhooceaaGreat.N6
namespace Go.Proofs.YtdjomhbmhooceaaGreat.N6
open Go.RowKit Go.Shelf
structure xP (C : Nat -> Prop) (W W' : World) : Prop where
 size : W.heap.size <= W'.heap.size
 same : ∀ k, ¬ C k -> k < W.heap.size -> W'.heap[k]? = W.heap[k]?
theorem xP.refl (C : Nat -> Prop) (W : World) : xP C W W := ⟨Nat.le_refl _, fun _ _ _ => rfl⟩
theorem xP.trans {C : Nat -> Prop} {A B D : World} (h : xP C A B) (g : xP C B D) : xP C A D :=
 ⟨Nat.le_trans h.size g.size, fun k hk hl => (g.same k hk (Nat.lt_of_lt_of_le hl h.size)).trans (h.same k hk hl)⟩
theorem xP.of_below {C : Nat -> Prop} {A B : World} (h : Below A.heap.size A B) : xP C A B := ⟨h.size, fun k _ hl => h.block k hl⟩
theorem xP.mono {C C' : Nat -> Prop} {A B : World} (h : xP C A B) (hc : ∀ k, C k -> C' k) : xP C' A B := ⟨h.size, fun k hk => h.same k (fun c => hk (hc k c))⟩
theorem xP.put {C : Nat -> Prop} (W : World) (l : Nat) (o : Obj) (hl : C l) : xP C W (W.putObj l o) :=
 ⟨by simp [World.putObj], fun k hk _ => World.putObj_heap_other (fun e => hk (by rw [e]; exact hl))⟩
theorem xP.setCell {C : Nat -> Prop} (W : World) (b i : Nat) (v : Value) (hl : C b) : xP C W (W.setCell ⟨b, i, none⟩ v) :=
 ⟨by simp, fun k hk _ => Below.heap_setCell W ⟨b, i, none⟩ v k (fun e => hk (by rw [e]; exact hl))⟩
def mE {α : Type} (n : Nat) (P : Program) (gf : Nat) (lb : Array Value) (encs : α -> Array Value) (xs : List α) (C : Nat -> Prop) (w : World) : Prop :=
 ∀ (l : Nat) (J Jx : List α -> World -> Prop) (W : World), Below w.heap.size w W -> w.heap.size <= l -> l < W.heap.size ->
  (∀ pre A B, J pre A -> Below W.heap.size A B -> J pre B) -> (∀ pre A B, Jx pre A -> Below W.heap.size A B -> Jx pre B) ->
  (∀ pre x W1, J pre W1 -> pre ++ [x] <+: xs -> YieldAt Fence.wide (n - 1) P l (encs x) W1 fun e W' =>
   (e = .returned (.bool true) /\ J (pre ++ [x]) W' /\ xP (fun k => C k \/ k = l) W1 W') \/ (e = .returned (.bool false) /\ Jx (pre ++ [x]) W')) ->
  J [] W ->
  CallsIn Fence.wide n P gf (#[.func (.yield l) #[] #[]] ++ lb) W fun e W' => (∃ v, e = .returned v) /\ (J xs W' \/ ∃ pre, pre <+: xs /\ Jx pre W')
def lowPost {α : Type} (C : Nat -> Prop) (I : List α -> World -> Prop) (Ix : Code -> List α -> World -> Prop) (ys : List α) (W : World) : Exit -> Act -> World -> Prop
 | .normal, _, W' => xP C W W' /\ I ys W'
 | .ret, _, W' => xP C W W' /\ Ix .ret ys W'
 | .exit id, _, W' => xP C W W' /\ Ix (.exit id) ys W'
 | _, _, _ => False
theorem pL {α : Type} {P : Program} {n : Nat} {g : Operand} {ps : Array Tmp} {assign body : Code} {Q : Exit -> Act -> World -> Prop} {a : Act} {w : World}
  {gf : Nat} {lb : Array Value} (hg : a.eval g = .func (.func gf) #[] lb) (eg : ∀ args w, (callFunc gf args).run P w = .ok (.enter gf args) w)
  {encs : α -> Array Value} {xs : List α} {C : Nat -> Prop} (hseq : mE (n - 1) P gf lb encs xs C w) (hC : ∀ k, C k -> k < w.heap.size) (hps : ∀ x, (encs x).size = ps.size)
  (I : List α -> World -> Prop) (Ix : Code -> List α -> World -> Prop) (hI : ∀ pre A B, I pre A -> Below w.heap.size A B -> I pre B) (hIx : ∀ c pre A B, Ix c pre A -> Below w.heap.size A B -> Ix c pre B) (h0 : I [] w) (a1 : α -> Act)
  (hassign : ∀ (l : Nat) (x : α) (W : World) (K : Act -> World -> Prop), K (a1 x) W ->
   assign.wpIn (Fence.wide.inRound l) (n - 1 - 1) P (Exit.then K (fun _ _ _ => False)) { tmps := (ps.zip (encs x)).foldl (fun t (p, v) => t.setIfInBounds p v) a.tmps, defers := [] } W)
  (hbody : ∀ (l : Nat) (pre : List α) (x : α) (W : World), I pre W -> pre ++ [x] <+: xs -> w.heap.size <= W.heap.size -> body.wpIn (Fence.wide.inRound l) (n - 1 - 1) P (lowPost C I Ix (pre ++ [x]) W) (a1 x) W)
  (hdone : ∀ (D : Nat) (W : World), w.heap.size <= D -> D < W.heap.size -> I xs W -> W.heap[D]? = some (.deferred (some [])) -> Q .normal { a with defers := { target := .collected D, args := #[] } :: a.defers } W)
  (hstop : ∀ (D : Nat) (c : Code) (pre : List α) (W : World), w.heap.size <= D -> D < W.heap.size -> pre <+: xs -> Ix c pre W -> W.heap[D]? = some (.deferred (some [])) -> c.wpIn Fence.wide n P Q { a with defers := { target := .collected D, args := #[] } :: a.defers } W) :
  (Code.rangeFunc g ps assign body).wpIn Fence.wide n P Q a w := by
 refine wpIn_rangeFunc ?_
 intro fn hfn
 generalize hrec : (fun (st : LoopState) (pe : Option Code) => ({ state := st, pending := pe, fn, tmps := a.tmps, params := ps, assign, body, defers := w.heap.size } : Loop)) = rec
 have hrec' : ∀ st pe, rec st pe = { state := st, pending := pe, fn, tmps := a.tmps, params := ps, assign, body, defers := w.heap.size } := fun st pe => by rw [<- hrec]
 clear hrec
 have hdl : (w.alloc (.deferred (some []))).heap.size = w.heap.size + 1 := by simp
 obtain ⟨V, hV⟩ : ∃ V, V = (w.alloc (.deferred (some []))).alloc (.loop (rec .ready none)) := ⟨_, rfl⟩
 have hwV : Below w.heap.size w V := by rw [hV]; exact ((Below.refl _ w).alloc (Nat.le_refl _) _).alloc (by simp) _
 have hVs : V.heap.size = w.heap.size + 2 := by rw [hV]; simp
 have hlV : V.heap[w.heap.size + 1]? = some (.loop (rec .ready none)) := by
  have := World.alloc_heap_new (w.alloc (.deferred (some []))) (.loop (rec .ready none));rw [hdl] at this; rw [hV]; exact this
 have hdV : V.heap[w.heap.size]? = some (.deferred (some [])) := by
  rw [hV]; exact (Below.heap_alloc _ _ _ (by simp)).trans (World.alloc_heap_new w _)
 refine ⟨w.heap.size + 1, [{ target := .collected w.heap.size, args := #[] }], V, { target := .fn (.func gf) lb, args := #[.func (.yield (w.heap.size + 1)) #[] #[]] }, V, gf,
  #[.func (.yield (w.heap.size + 1)) #[] #[]] ++ lb, V, ?_, ?_, ?_, ?_, ?_, ?_⟩
 ·
  rw [hV, hrec']; exact run_enterLoop_outer _ _ _ _ _
 ·
  simp only [resolve, hg];simp [go_sem]
 ·
  intro f' _; trivial
 ·
  simp [invoke, go_sem, eg]
 ·
  intro h; cases h
 have keep : ∀ {A B : World} {k : Nat} {o : Obj}, k < V.heap.size -> A.heap[k]? = some o -> Below V.heap.size A B -> B.heap[k]? = some o := fun hk ho hb => (hb.block _ hk).trans ho
 have put : ∀ (W3 : World) (r : Loop), Below w.heap.size W3 (W3.putObj (w.heap.size + 1) (.loop r)) := fun W3 r =>
  ⟨rfl, rfl, rfl, by simp [World.putObj], fun k hk => World.putObj_heap_other (by omega)⟩
 refine (hseq (w.heap.size + 1) (fun pre W => I pre W /\ W.heap[w.heap.size + 1]? = some (.loop (rec .ready none)) /\ W.heap[w.heap.size]? = some (.deferred (some [])))
  (fun pre W => ∃ c, Ix c pre W /\ W.heap[w.heap.size + 1]? = some (.loop (rec .done (some c))) /\ W.heap[w.heap.size]? = some (.deferred (some []))) V hwV (by omega) (by omega) ?_ ?_ ?_ ?_).mono ?_
 ·
  rintro pre A B ⟨h1, h2, h3⟩ hb;exact ⟨hI pre A B h1 (hb.mono (by omega)), keep (by omega) h2 hb, keep (by omega) h3 hb⟩
 ·
  rintro pre A B ⟨c, h1, h2, h3⟩ hb;exact ⟨c, hIx c pre A B h1 (hb.mono (by omega)), keep (by omega) h2 hb, keep (by omega) h3 hb⟩
 ·
  rintro pre x W ⟨hi, hl, hd⟩ hx;have hlt : w.heap.size + 1 < W.heap.size := (Array.getElem?_eq_some_iff.1 hl).1;have hy := run_yield (P := P) (args := encs x) hl (by rw [hrec']; exact hps x);rw [hrec'] at hy;refine ⟨fn, _, assign, body, hy, roundIn_of_wpIn hfn (hassign _ x W _ ?_)⟩;refine ⟨_, run_beginRound hl (by rw [hrec']), ?_⟩;generalize hbusy : ({ rec .ready none with state := .busy } : Loop) = rb;have hl2 : (W.putObj (w.heap.size + 1) (.loop rb)).heap[w.heap.size + 1]? = some (.loop rb) := World.putObj_heap_same hlt;have hd2 : (W.putObj (w.heap.size + 1) (.loop rb)).heap[w.heap.size]? = some (.deferred (some [])) := (World.putObj_heap_other (by omega)).trans hd;refine wpIn_mono (hbody _ pre x _ (hI _ _ _ hi (put W rb)) hx (by simp [World.putObj]; omega)) ?_;have fin : ∀ (jump : Option Code) (W3 : World), xP C (W.putObj (w.heap.size + 1) (.loop rb)) W3 -> ∃ W4, (Instr.endRound (w.heap.size + 1) jump).run P W3 = .ok (.bool jump.isNone) W4 /\ Below w.heap.size W3 W4 /\
    W4.heap[w.heap.size + 1]? = some (.loop (rec (if jump.isNone then .ready else .done) jump)) /\ W4.heap[w.heap.size]? = some (.deferred (some [])) /\ xP (fun k => C k \/ k = w.heap.size + 1) W W4 := fun jump W3 hk => by
   have hl3 : W3.heap[w.heap.size + 1]? = some (.loop rb) := (hk.same _ (fun h => by have := hC _ h; omega) (by simp [World.putObj]; omega)).trans hl2
   have hd3 : W3.heap[w.heap.size]? = some (.deferred (some [])) := (hk.same _ (fun h => by have := hC _ h; omega) (by simp [World.putObj]; omega)).trans hd2
   have h4 := run_endRound (P := P) jump hl3
   refine ⟨_, h4, put _ _, ?_, (World.putObj_heap_other (by omega)).trans hd3, ?_⟩
   ·
    rw [World.putObj_heap_same (Array.getElem?_eq_some_iff.1 hl3).1, <- hbusy, hrec', hrec']
   ·
    exact ((xP.put W _ _ (.inr rfl)).trans (hk.mono fun k h => .inl h)).trans (xP.put W3 _ _ (.inr rfl))
  rintro e a3 W3 hp;cases e with
  | normal =>
   obtain ⟨W4, r1, r2, r3, r4, r5⟩ := fin none W3 hp.1;exact ⟨_, _, r1, .inl ⟨rfl, ⟨hI _ _ _ hp.2 r2, r3, r4⟩, r5⟩⟩
  | ret =>
   obtain ⟨W4, r1, r2, r3, r4, r5⟩ := fin (some .ret) W3 hp.1;exact ⟨_, _, r1, .inr ⟨rfl, .ret, hIx _ _ _ _ hp.2 r2, r3, r4⟩⟩
  | exit id =>
   obtain ⟨W4, r1, r2, r3, r4, r5⟩ := fin (some (.exit id)) W3 hp.1;exact ⟨_, _, r1, .inr ⟨rfl, .exit id, hIx _ _ _ _ hp.2 r2, r3, r4⟩⟩
  | goto t => exact hp.elim
  | panic ch => exact hp.elim
  | outgrown => exact hp.elim
 ·
  exact ⟨hI _ _ _ h0 hwV, hlV, hdV⟩
 ·
  rintro e W2 ⟨⟨v, rfl⟩, (⟨hi, hl, hd⟩ | ⟨pre, hpre, c, hi, hl, hd⟩)⟩
  ·
   have h4 := run_endLoop (P := P) hl (by rw [hrec']; simp);have hlt := (Array.getElem?_eq_some_iff.1 hl).1;refine ⟨none, _, by rw [hrec'] at h4; exact h4, hdone _ _ (Nat.le_refl _) (by simp [World.putObj]; omega) (hI _ _ _ hi (put _ _)) ((World.putObj_heap_other (by omega)).trans hd)⟩
  ·
   have h4 := run_endLoop (P := P) hl (by rw [hrec']; simp);have hlt := (Array.getElem?_eq_some_iff.1 hl).1;refine ⟨some c, _, by rw [hrec'] at h4; exact h4, hstop _ c pre _ (Nat.le_refl _) (by simp [World.putObj]; omega) hpre (hIx _ _ _ _ hi (put _ _)) ((World.putObj_heap_other (by omega)).trans hd)⟩
end Go.Proofs.YtdjomhbmhooceaaGreat.N6
namespace Go.Proofs.YtdjomhbmhooceaaGreat.N6
open Go.RowKit Go.Shelf
attribute [local go_sem] Oper.semAt_some
def dB (x : Td) : Array Value := #[.int .i64 x.level, x.cells.val]
theorem AaC : (Tryz.prog.info? 108).map (fun i => (i.zero, i.size, i.bytes)) = some (some (.agg #[.int .i64 0, .int .i64 0, .int .i64 0, .int .i64 0, .string ⟨#[]⟩, .slice none 0 0]), 6, 72) := by kernel_rfl
theorem own_pop {w : World} {base : Nat} {e : TypeId} {k : Nat} {g n cap : Nat} {cs ds : List Value} (h : w.ownsRow base e k (.slice (some ⟨g, 0, none⟩) (n + 1) cap) (n + 1) (cs ++ ds)) (hc : cs.length = n * k) : w.ownsRow base e k (.slice (some ⟨g, 0, none⟩) n cap) n cs := by
 refine ⟨hc, ?_⟩;rcases h.2 with ⟨h1, _⟩ | ⟨g', cap', cur, h1, h2, h3, h4, h5, h6, h7⟩
 ·
  simp at h1
 ·
  simp only [Value.slice.injEq, Option.some.injEq, Addr.mk.injEq, and_true, true_and] at h1;obtain ⟨rfl, rfl⟩ := h1;refine .inr ⟨g, cap, cur, rfl, h2, h3, by omega, h5, h6, ?_⟩;have e1 : cur.toList.take (n * k) = (cur.toList.take ((n + 1) * k)).take (n * k) := by
   rw [List.take_take, Nat.min_eq_left (Nat.mul_le_mul_right k (by omega))]
  rw [e1, h7, <- hc, List.take_left'];rfl
theorem own_cap {w : World} {base : Nat} {e : TypeId} {k : Nat} {p : Option Addr} {n m cap : Nat} {cs : List Value} (h : w.ownsRow base e k (.slice p m cap) n cs) : n <= cap := by
 rcases h.2 with ⟨h1, h2⟩ | ⟨g', cap', cur, h1, h2, h3, h4, h5, h6, h7⟩
 ·
  omega
 ·
  simp only [Value.slice.injEq] at h1;omega
theorem aG {w : World} {base : Nat} {e : TypeId} {g n cap : Nat} {cs : List Value} {x : Td} (h : w.ownsRow base e 6 (.slice (some ⟨g, 0, none⟩) (n + 1) cap) (n + 1) (cs ++ sU x)) (hc : cs.length = n * 6) :
  w.cell? ⟨g, n * 6, none⟩ = some (.int .i64 x.level) /\ w.cell? ⟨g, n * 6 + 1, none⟩ = some (.int .i64 x.cells.kind) /\ w.cell? ⟨g, n * 6 + 2, none⟩ = some (.int .i64 x.cells.pos) /\ w.cell? ⟨g, n * 6 + 3, none⟩ = some (.int .i64 x.cells.num) /\
   w.cell? ⟨g, n * 6 + 4, none⟩ = some (.string ⟨x.cells.text.toArray⟩) /\ w.cell? ⟨g, n * 6 + 5, none⟩ = some (.slice x.cells.kp x.cells.kl x.cells.kc) := by
 have at' : ∀ m u, (sU x)[m]? = some u -> w.cell? ⟨g, n * 6 + m, none⟩ = some u := fun m u hu => by
  have := h.cells (g := g) rfl (n * 6 + m) u (by rw [List.getElem?_append_right (by omega), hc, Nat.add_sub_cancel_left]; exact hu);rw [Addr.add_lit, Nat.zero_add] at this;exact this
 exact ⟨at' 0 _ rfl, at' 1 _ rfl, at' 2 _ rfl, at' 3 _ rfl, at' 4 _ rfl, at' 5 _ rfl⟩
theorem cells_of_new (w : World) (cs : Array Value) (ty : TypeId) (l : List Value) (h : cs.toList = l) : ∀ j u, l[j]? = some u -> (w.alloc (.cells cs ty)).cell? ((⟨w.heap.size, 0, none⟩ : Addr).add j) = some u := fun j u hu => by
 rw [Addr.add_lit, Nat.zero_add, World.cell?_alloc_at _ _ _ _ rfl];rw [<- h] at hu;have : cs[j]? = some u := by rw [<- Array.getElem?_toList]; exact hu
 simpa using this
theorem wp_append_at {P : Program} {w : World} {o : Oper} {a : Act} {K : Act -> World -> Prop} {Q : Exit -> Act -> World -> Prop} (s x : Operand) (t : TypeId)
  (ho : o.op = .call { callee := .builtin .append, args := #[s, x], argTypes := #[t, t] })
  (base : Nat) (e : TypeId) (i : TypeInfo) (z : Value) (size bytes : Nat) (ht : P.underlying t = some (.slice e)) (hi : P.info? e = some i) (hz : i.zero = some z)
  (hsize : i.size = size) (hby : i.bytes = bytes) (hzs : z.cells.size = size) (hsz : 0 < size)
  (v : Value) (n : Nat) (xs : List Value) (hs : a.eval s = v) (hown : w.ownsRow base e size v n xs)
  (ad : Addr) (m c : Nat) (news : List Value) (hx : a.eval x = .slice (some ad) m c) (hl : news.length = m * size) (hnews : ∀ j u, news[j]? = some u -> w.cell? (ad.add j) = some u) (h1 : ∀ u ∈ news, u.oneCell' = true)
  (h63 : n + m <= maxLen) (hbytes : (n + m) * bytes <= 140737488355328) (hbase : base <= w.heap.size)
  (h : ∀ v' w', w'.ownsRow base e size v' (n + m) (xs ++ news) -> w.grownBy w' v.ownBlock -> (v'.ownBlock = v.ownBlock \/ v'.ownBlock = some w.heap.size) -> K (a.put o.dst v') w') : o.wp P a w K Q := by
 obtain ⟨v', w', hr, h2, h3, -, h5⟩ := run_append_own_at (P := P) w base t o.type e i z size bytes ht hi hz hsize hby hzs hsz v n xs hown ad m c news hl hnews h1 h63 hbytes hbase
 unfold Oper.wp
 simp [execOp, ho, resolve, invoke, builtin, hs, hx, hr, Result.andThen]
 exact h v' w' h2 h3 h5
theorem kG {w w' : World} {base B n size : Nat} {e : TypeId} {v : Value} {cs : List Value} (ho : w.ownsRow base e size v n cs) (hg : w.drew.grownBy w' v.ownBlock) (hB : B <= w.heap.size) (hb : base <= B) : Below base w w' :=
 ⟨hg.os, hg.tape, hg.output, hg.size, fun k hk => hg.block k (show k < w.heap.size by omega) (fun e => by have := (ho.lt k e.symm).1; omega)⟩
def kO (w : World) (b : Nat) (x : Td) : Prop := w.cell? ⟨b, 0, none⟩ = some (.int .i64 x.level) /\ w.cell? ⟨b, 1, none⟩ = some (.int .i64 x.cells.kind) /\ w.cell? ⟨b, 2, none⟩ = some (.int .i64 x.cells.pos) /\ w.cell? ⟨b, 3, none⟩ = some (.int .i64 x.cells.num) /\
   w.cell? ⟨b, 4, none⟩ = some (.string ⟨x.cells.text.toArray⟩) /\ w.cell? ⟨b, 5, none⟩ = some (.slice x.cells.kp x.cells.kl x.cells.kc)
theorem kO.new (w : World) (x : Td) (ty : TypeId) : kO (w.alloc (.cells #[.int .i64 x.level, .int .i64 x.cells.kind, .int .i64 x.cells.pos, .int .i64 x.cells.num, .string ⟨x.cells.text.toArray⟩, .slice x.cells.kp x.cells.kl x.cells.kc] ty)) w.heap.size x := by
 unfold kO;simp only [World.cell?_alloc_at _ _ _ _ rfl];exact ⟨rfl, rfl, rfl, rfl, rfl, rfl⟩
theorem kO.same {w w' : World} {b : Nat} {x : Td} (h : kO w b x) (hb : w'.heap[b]? = w.heap[b]?) : kO w' b x := by
 unfold kO at h ⊢;have e : ∀ i, w'.cell? ⟨b, i, none⟩ = w.cell? ⟨b, i, none⟩ := fun i => World.cell?_of_block (a := ⟨b, i, none⟩) hb
 rw [e, e, e, e, e, e]; exact h
theorem AaB {w w' : World} {base n size : Nat} {e : TypeId} {v : Value} {cs : List Value} (h : w.ownsRow base e size v n cs) (hs : ∀ g, v.ownBlock = some g -> w'.heap[g]? = w.heap[g]?) : w'.ownsRow base e size v n cs := by
 refine ⟨h.1, h.2.imp id ?_⟩;rintro ⟨g, cap, cur, rfl, h2, h3, rest⟩;exact ⟨g, cap, cur, rfl, h2, (hs g rfl).trans h3, rest⟩
theorem mZ (n : Nat) (hn : 1 <= n) (S C : Nat -> Prop) (w : World) (h : Nat) (c : NC) (t : Nd) (xs : List Td) (hb : sO w h c) (hh : h < w.heap.size) (hCh : ¬ C h) (hCw : ∀ k, C k -> k < w.heap.size) (hCS : ∀ k, S k -> ¬ C k) (hSw : ∀ k, S k -> k < w.heap.size)
  (hc : sR S w [⟨1, c, t⟩] xs) (hsz : t.size <= 1000000) :
  mE n Tryz.prog 81 #[.pointer (some ⟨h, 0, none⟩)] dB xs C w := by
 intro l J Jx W hW hl1 hl2 hJ hJx hY h0
 have hbW := hb.same (hW.block h hh)
 have hcW := hc.kept (.of_below (S := S) hW)
 have hn1 : zG S W c t := by cases hcW; assumption
 have HC0 := Lib.hid hcW
 have HY := Lib.hid hY
 have HJ := Lib.hid hJ
 have HJx := Lib.hid hJx
 have HS := Lib.hid (fun k => hCS k)
 have HSW := Lib.hid (fun k (hk : S k) => (⟨Nat.lt_of_lt_of_le (hSw k hk) hW.size, fun e => by have := hSw k hk; omega⟩ : k < W.heap.size /\ ¬ k = l))
 have hw0 := hc.length
 simp only [weight] at hw0
 have HLX : Hid (xs.length <= 1000000) := by show _ <= _; omega
 have HLV : Hid (∀ y ∈ xs, y.level <= 1000000) := by
  have hd := hc.deepest;have h2 := t.depth_le;have h3 : ∀ (l : List Td) (y : Td), y ∈ l -> y.level <= deepest l := fun l y hy => by
   induction l with
   | nil => cases hy
   | cons z l ih =>
    show y.level <= max z.level (deepest l);rcases List.mem_cons.1 hy with rfl | hy
    ·
     omega
    ·
     have := ih hy; omega
  intro y hy;have := h3 xs y hy;rw [hd] at this;simp only [rG] at this;omega
 have hWs := hW.size
 have hhl : h ≠ l := by omega
 clear hJ hJx hY hb hc hcW hCS hSw hw0 hn1
 obtain ⟨i0, hi0, hz0, hz1, hz2⟩ := info_parts AaC
 obtain ⟨hb0, hb1, hb2, hb3, hb4⟩ := hbW
 have HBX : Hid (sO W h c) := ⟨hb0, hb1, hb2, hb3, hb4⟩
 have hCW := Lib.hid (fun k (hk : C k) => Nat.lt_of_lt_of_le (hCw k hk) hW.size)
 refine callsIn_wide.2 ?_
 change Calls Tryz.prog 81 #[.func (.yield l) #[] #[], .pointer (some ⟨h, 0, none⟩)] W _
 clear hCw
 have hlit : Hid ((W.alloc (.cells #[.int .i64 1, .int .i64 c.kind, .int .i64 c.pos, .int .i64 c.num, .string ⟨c.text.toArray⟩, .slice c.kp c.kl c.kc] 108)).ownsRow W.heap.size 108 6 (.slice (some ⟨W.heap.size, 0, none⟩) 1 1) 1 ([⟨1, c, t⟩].reverse.flatMap sU)) :=
  World.ownsRow_lit W _ 1 (Nat.le_refl _) (by unfold maxLen; omega) rfl
 go_enter Tryz.func81, Tryz.ntmps81
 go_wp2_with fail
 go_loopg [3] xs.length (fun k p wr => ∃ (st rest pre : List Td), k = rest.length /\ Hid (xs = pre ++ rest) /\ Hid (sR S wr st rest) /\ wr.ownsRow W.heap.size 108 6 p st.length (st.reverse.flatMap sU) /\ J pre wr /\ W.heap.size <= wr.heap.size /\ Hid (∀ k, ¬ (C k \/ k = l) -> k < W.heap.size -> wr.heap[k]? = W.heap[k]?))
 case atStart =>
  exact ⟨[⟨1, c, t⟩], xs, [], rfl, rfl, HC0.out.kept (.of_below ((Below.refl _ W).alloc (Nat.le_refl _) _)), hlit.out, HJ.out _ _ _ h0 ((Below.refl _ W).alloc (Nat.le_refl _) _), by simp, fun k _ hk => Below.heap_alloc _ _ _ hk⟩
 case round =>
  obtain ⟨wo, rfl⟩ : ∃ wo : World, wo = wr := ⟨_, rfl⟩;obtain ⟨st, rest, pre, rfl, HX, HCM, hown, hJr, hsz, HK⟩ := hrel;clear hb0 hb1 hb2 hb3 hb4;cases st with
  | nil =>
   have hr : rest = [] := by have := HCM.out; cases this; rfl
   subst hr;have HP : Hid (J xs wo) := by show J xs wo; rw [HX.out]; simpa using hJr
   rcases hown.2 with ⟨rfl, _⟩ | ⟨g, cap, cur, rfl, -⟩
   ·
    clear hown hJr;go_wp2;go_end0;exact ⟨⟨_, rfl⟩, .inl HP.out⟩
   ·
    clear hown hJr;go_wp2;go_end0;exact ⟨⟨_, rfl⟩, .inl HP.out⟩
  | cons x st =>
   obtain ⟨ks, out, hr, hnx, hks, hcm⟩ : ∃ ks out, rest = x :: out /\ zG S wo x.cells x.tree /\ nJ S wo x ks /\ sR S wo (ks ++ st) out := by
    have := HCM.out;cases this with
    | cons h1 h2 h3 => exact ⟨_, _, rfl, h1, h2, h3⟩
   subst hr;have HCM2 := Lib.hid hcm;have hol := hcm.length;have hwl := fN (ks ++ st);have HKS := Lib.hid hks;have hkl := hks.1;have hnl := hnx.len;have HXL : Hid (pre.length + (out.length + 1) = xs.length) := by show _ = _; rw [HX.out]; simp
   have hX6 := HLX.out;have hX7 := HXL.out;have hkst : ks.length + st.length <= 1000000 := by rw [List.length_append] at hwl; omega
   have HKC : Hid (x.cells.kl <= x.cells.kc) := by obtain ⟨ncs, -, ⟨p, cap, e, hl, -⟩, -⟩ := hnx.row; injection e; show _ <= _; omega
   have HKL : Hid (x.cells.kl = ks.length) := by show _ = _; omega
   have hk6 : x.cells.kl <= 1000000 := by omega
   clear HCM hcm hks hnx hol hwl hX6 hX7 hkl hnl;have hcells : (x :: st).reverse.flatMap sU = st.reverse.flatMap sU ++ sU x := by simp
   rw [hcells, List.length_cons] at hown;obtain ⟨g, cap, rfl⟩ := ownsRow_succ hown;have hc6 : (st.reverse.flatMap sU).length = st.length * 6 := by rw [qQ aV, List.length_reverse]
   obtain ⟨c0, c1, c2, c3, c4, c5⟩ := aG hown hc6;have hpop := own_pop hown hc6;have hgb := (hown.lt g rfl);have hcap := own_cap hown;have HPOP := Lib.hid hpop;clear hown hcells hpop hc6;have hbl : Below W.heap.size wo (wo.alloc (.cells #[.int .i64 x.level, .int .i64 x.cells.kind, .int .i64 x.cells.pos, .int .i64 x.cells.num, .string ⟨x.cells.text.toArray⟩, .slice x.cells.kp x.cells.kl x.cells.kc] 108)) := (Below.refl _ wo).alloc hsz _;have hT := kO.new wo x 108;have HT := Lib.hid hT;obtain ⟨t0, t1, t2, t3, t4, t5⟩ := hT;have hJ1 := HJ.out _ _ _ hJr hbl;obtain ⟨fn, tmps, assign, body, hy, hR⟩ := HY.out pre x _ hJ1 ⟨out, by rw [HX.out]; simp⟩;have HR := Lib.hid hR;dsimp only [dB, NC.val] at hy;have HBL := Lib.hid hbl;clear hJ1 hR hbl;have e1 : ((st.length : Int) + 1 - 1) = (st.length : Int) := by omega
   go_upto_region 4 with fail;refine (wpIn_wide (n := n)).1 ?_;gi_wp2_with fail;refine (HR.out).mono ?_;rintro e W3 (⟨rfl, hJ3, hk3⟩ | ⟨rfl, hJx3⟩)
   ·
    have hTl : wo.heap.size < (wo.alloc (.cells #[.int .i64 x.level, .int .i64 x.cells.kind, .int .i64 x.cells.pos, .int .i64 x.cells.num, .string ⟨x.cells.text.toArray⟩, .slice x.cells.kp x.cells.kl x.cells.kc] 108)).heap.size := by simp
    have hfar : ∀ k, W.heap.size <= k -> ¬ (C k \/ k = l) := fun k hk hc => by rcases hc with hc | hc; (have := hCW.out k hc; omega); omega
    have hT3 : kO W3 wo.heap.size x := HT.out.same (hk3.same _ (hfar _ hsz) hTl);have hown3 : W3.ownsRow W.heap.size 108 6 (.slice (some ⟨g, 0, none⟩) st.length cap) st.length (st.reverse.flatMap sU) := AaB HPOP.out fun g' hg' => by
     have hg'' : g = g' := by simpa [Value.ownBlock] using hg'
     subst hg'';exact (hk3.same g (hfar _ hgb.1) (by omega)).trans (Below.heap_alloc _ _ _ hgb.2)
    have hsz3 : W.heap.size <= W3.heap.size := Nat.le_trans HBL.out.size hk3.size |> Nat.le_trans hsz
    have hK3 : ∀ k, ¬ (C k \/ k = l) -> k < wo.heap.size -> W3.heap[k]? = wo.heap[k]? := fun k hk hl => (hk3.same k hk (by omega)).trans (Below.heap_alloc _ _ _ hl)
    have HK3 := Lib.hid hK3;have HT3 := Lib.hid hT3;have HOWN3 := Lib.hid hown3;have hltT : wo.heap.size < W3.heap.size := Nat.lt_of_lt_of_le hTl hk3.size;obtain ⟨t0', t1', t2', t3', t4', t5'⟩ := hT3;clear t0 t1 t2 t3 t4 t5 c0 c1 c2 c3 c4 c5 hy HR hk3 hK3 hfar hTl hown3;gi_wp2_with fail;go_wp2_with fail;go_loopw [3, 5] (fun p i wi => ∃ (m : Nat) (q : Int), m <= ks.length /\ Hid (q = (m : Int) - 1) /\ i = .int .i64 q /\ wi.ownsRow W.heap.size 108 6 p (ks.drop m ++ st).length ((ks.drop m ++ st).reverse.flatMap sU) /\ Hid (p.ownBlock ≠ some wo.heap.size) /\ Below W.heap.size W3 wi /\ Hid (wi.heap[wo.heap.size]? = W3.heap[wo.heap.size]?))
     (fun _ i _ => (intOf i + 1).toNat)
    case atStart => exact ⟨ks.length, x.cells.kl - 1, Nat.le_refl _, (by show (x.cells.kl : Int) - 1 = (ks.length : Int) - 1; rw [HKL.out]), rfl, by rw [List.drop_length, List.nil_append]; exact HOWN3.out, (by show (some g : Option Nat) ≠ some wo.heap.size; intro e; injection e with e; omega), Below.refl _ _, rfl⟩
    case round =>
     obtain ⟨m, q, hm, HQ, rfl, hw, HNE, hBi, HTi⟩ := hrel;have HWI := Lib.hid hw;clear t0' t1' t2' t3' t4' t5';by_cases hq : 0 <= q
     ·
      obtain ⟨j, rfl⟩ : ∃ j : Nat, q = j := ⟨q.toNat, by omega⟩;have hmj : m = j + 1 := by have := HQ.out; omega
      subst hmj;have hj' : j < x.tree.kids.length := by rw [<- HKS.out.1]; exact hm
      obtain ⟨hlv, -, -, gk, o, hkp, hSg, hgl, hcell⟩ := HKS.out.2 j hm hj';obtain ⟨k0, k1, k2, k3, k4⟩ := hcell wr ((hBi.block gk (HSW.out gk hSg).1).trans (HK3.out gk (fun e => by rcases e with e | e; exact HS.out gk hSg e; exact (HSW.out gk hSg).2 e) hgl));obtain ⟨t0, t1, t2, t3, t4, t5⟩ := HT3.out.same HTi.out;rw [hkp] at t5;have hxl : x.level <= 1000000 := HLV.out x (by rw [HX.out]; simp);have hwr : IntKind.i64.wrap ((x.level : Int) + 1) = (x.level : Int) + 1 := IntWalk.i64_in _ (by omega);have HE : Hid (sU ks[j] = [.int .i64 ((x.level : Int) + 1), .int .i64 ks[j].cells.kind, .int .i64 ks[j].cells.pos, .int .i64 ks[j].cells.num, .string ⟨ks[j].cells.text.toArray⟩, .slice ks[j].cells.kp ks[j].cells.kl ks[j].cells.kc]) := by
       show _ = _;unfold sU;rw [hlv];rfl
      have HD : Hid (ks.drop j = ks[j] :: ks.drop (j + 1)) := List.drop_eq_getElem_cons hm;have hjk : j < x.cells.kl := by rw [HKL.out]; exact hm
      have hkc : x.cells.kl <= x.cells.kc := HKC.out;have hll : (ks.drop (j + 1) ++ st).length + 1 <= 1000000 := by rw [List.length_append, List.length_drop]; omega
      generalize ks[j] = y at *;generalize hL : ks.drop (j + 1) ++ st = L at *;have HL := Lib.hid hL;have hszi := hBi.size;have KEEP : Hid (∀ wx : World, wr.drew.grownBy wx u3.ownBlock -> wx.cell? ⟨wo.heap.size, 0, none⟩ = some (.int .i64 x.level) /\ wx.cell? ⟨wo.heap.size, 5, none⟩ = some (.slice (some ⟨gk, o, none⟩) x.cells.kl x.cells.kc) /\ wx.cell? ⟨gk, o + j * 5, none⟩ = some (.int .i64 y.cells.kind) /\ wx.cell? ⟨gk, o + j * 5 + 1, none⟩ = some (.int .i64 y.cells.pos) /\ wx.cell? ⟨gk, o + j * 5 + 2, none⟩ = some (.int .i64 y.cells.num) /\ wx.cell? ⟨gk, o + j * 5 + 3, none⟩ = some (.string ⟨y.cells.text.toArray⟩) /\ wx.cell? ⟨gk, o + j * 5 + 4, none⟩ = some (.slice y.cells.kp y.cells.kl y.cells.kc)) := fun wx hg =>
       have far : some gk ≠ u3.ownBlock := fun e => by have := (hw.lt gk e.symm).1; have := (HSW.out gk hSg).1; omega
       ⟨hg.cell t0 (fun e => HNE.out e.symm), hg.cell t5 (fun e => HNE.out e.symm), hg.cell k0 far, hg.cell k1 far, hg.cell k2 far, hg.cell k3 far, hg.cell k4 far⟩
      clear hkp hcell hlv hL;have hi1 : (0 : Int) <= (j : Int) := by omega
      have hi2 : (j : Int) < (x.cells.kl : Int) := by omega
      go_wp2_with fail;go_region_held3 (fun wx => wx.cell? ⟨wo.heap.size, 0, none⟩ = some (.int .i64 x.level) /\ wx.cell? ⟨wo.heap.size, 5, none⟩ = some (.slice (some ⟨gk, o, none⟩) x.cells.kl x.cells.kc) /\ wx.cell? ⟨gk, o + j * 5, none⟩ = some (.int .i64 y.cells.kind) /\ wx.cell? ⟨gk, o + j * 5 + 1, none⟩ = some (.int .i64 y.cells.pos) /\ wx.cell? ⟨gk, o + j * 5 + 2, none⟩ = some (.int .i64 y.cells.num) /\ wx.cell? ⟨gk, o + j * 5 + 3, none⟩ = some (.string ⟨y.cells.text.toArray⟩) /\ wx.cell? ⟨gk, o + j * 5 + 4, none⟩ = some (.slice y.cells.kp y.cells.kl y.cells.kc))
       (first | exact KEEP.out _ (World.grownBy.refl _ _) | exact KEEP.out _ (World.grownBy_alloc _ _ _) | exact KEEP.out _ hg5)
       (first
       | (refine sJ rfl ?_; refine wp_append_at _ _ 109 rfl W.heap.size 108 i0 _ 6 72 Tryz.underlying109 hi0 hz0 hz1 hz2 rfl (by decide) u3 _ _ rfl (hw.drew.alloc _) ⟨_, 0, none⟩ 1 1 [.int .i64 ((x.level : Int) + 1), .int .i64 y.cells.kind, .int .i64 y.cells.pos, .int .i64 y.cells.num, .string ⟨y.cells.text.toArray⟩, .slice y.cells.kp y.cells.kl y.cells.kc] rfl rfl (cells_of_new _ _ _ _ rfl) ?_ ?_ ?_ ?_ ?_; (rw [<- HE.out]; exact AbK y); (unfold maxLen; omega); omega; (simp; omega); intro v' w5 ho5 hg5 hat; have hg5 := (World.grownBy_alloc wr.drew _ u3.ownBlock).andThen hg5 (fun j hj => .inr hj)))
      go_wp2_with fail;go_roundw
      case rel =>
       refine ⟨j, (j : Int) - 1, by omega, rfl, by go_num, ?_, ?_, ?_, ?_⟩
       ·
        rw [HD.out, List.cons_append, HL.out, List.reverse_cons, List.flatMap_append, List.flatMap_cons, List.flatMap_nil, List.append_nil, HE.out, List.length_cons];exact ho5
       ·
        show _ ≠ _;rcases hat with e | e
        ·
         rw [e]; exact HNE.out
        ·
         rw [e]; intro e2; injection e2 with e2; simp at e2; try omega
       ·
        refine hBi.trans (kG hw hg5 hszi hsz3)
       ·
        show _ = _;exact (hg5.block _ (by have := hBi.size; show wo.heap.size < wr.heap.size; omega) (fun e => HNE.out e.symm)).trans HTi.out
      case measure => simp [intOf] <;> omega
     ·
      have hm0 : m = 0 := by have := HQ.out; omega
      subst hm0;have HCF : Hid (sR S wr (ks ++ st) out) := HCM2.out.kept ⟨Nat.le_trans (Nat.le_of_lt hltT) hBi.size, fun k hk hkl => (hBi.block k (HSW.out k hk).1).trans (HK3.out k (fun e => by rcases e with e | e; exact HS.out k hk e; exact (HSW.out k hk).2 e) hkl)⟩;have HJF : Hid (J (pre ++ [x]) wr) := HJ.out _ _ _ hJ3 hBi;have HXF : Hid (xs = (pre ++ [x]) ++ out) := by show _ = _; rw [HX.out]; simp
      have HKF : Hid (∀ k, ¬ (C k \/ k = l) -> k < W.heap.size -> wr.heap[k]? = W.heap[k]?) := fun k hk hkl => (hBi.block k hkl).trans ((HK3.out k hk (by omega)).trans (HK.out k hk hkl))
      rw [List.drop_zero] at hw;have HWF := Lib.hid hw;clear hw HWI hJ3 hJr;go_wp2_with fail;go_roundg out.length
      case rel => exact ⟨ks ++ st, out, pre ++ [x], rfl, HXF, HCF, HWF.out, HJF.out, Nat.le_trans hsz3 hBi.size, HKF⟩
      case measure => simp
   ·
    have hpre : Hid (pre ++ [x] <+: xs) := ⟨out, by rw [HX.out]; simp⟩;clear hy HR;gi_wp2_with fail;go_wp2_with fail;refine bodyPost_ret (results_none rfl _ _ _) rfl ?_;exact ⟨⟨_, rfl⟩, .inr ⟨_, hpre.out, hJx3⟩⟩
end Go.Proofs.YtdjomhbmhooceaaGreat.N6
namespace Go.Proofs.YtdjomhbmhooceaaGreat.N6
open Go.RowKit Go.Shelf
attribute [local go_sem] Oper.semAt_some
theorem gZ (n : Nat) (c : NC) (w : World) : CallsIn Fence.wide n Tryz.prog 46 #[c.val] w fun e w' => e = .returned (.func (.func 81) #[] #[.pointer (some ⟨w.heap.size, 0, none⟩)]) /\
  w' = w.alloc (.cells #[.int .i64 c.kind, .int .i64 c.pos, .int .i64 c.num, .string ⟨c.text.toArray⟩, .slice c.kp c.kl c.kc] 25) := by
 refine callsIn_wide.2 ?_
 unfold NC.val
 go_enter Tryz.func46, Tryz.ntmps46
 go_wp2
 go_ret
 exact ⟨rfl, rfl⟩
theorem lR {A B : World} {b i : Nat} {v : Value} {m : Nat} (h : A.cell? ⟨b, i, none⟩ = some v) (hB : Below m A B) (hb : b < m) : B.cell? ⟨b, i, none⟩ = some v := (hB.cell (p := ⟨b, i, none⟩) hb).trans h
theorem oR {A B : World} {b i : Nat} {v : Bool} {m : Nat} (h : A.frozen? ⟨b, i, none⟩ = v) (hB : Below m A B) (hb : b < m) : B.frozen? ⟨b, i, none⟩ = v := (hB.frozen (p := ⟨b, i, none⟩) hb).trans h
theorem iZ {c : NC} {t : Nd} {w V3 : World} (h : zG (fun _ => True) w c t) (hsz : t.size <= 1000000) (v0 : Value) (ty : TypeId)
  (hV : V3 = ((w.alloc (.cells #[.int .i64 c.kind, .int .i64 c.pos, .int .i64 c.num, .string ⟨c.text.toArray⟩, .slice c.kp c.kl c.kc] 25)).alloc (.cells #[v0] ty)).alloc (.cells #[.int .i64 c.kind, .int .i64 c.pos, .int .i64 c.num, .string ⟨c.text.toArray⟩, .slice c.kp c.kl c.kc] 25)) :
  ∃ xs : List Td, xs.length = t.size /\ deepest xs = t.depth /\ V3.heap.size = w.heap.size + 3 /\ V3.cell? ⟨w.heap.size + 1, 0, none⟩ = some v0 /\ V3.frozen? ⟨w.heap.size + 1, 0, none⟩ = false /\ Below w.heap.size w V3 /\
   mE 4 Tryz.prog 81 #[.pointer (some ⟨w.heap.size + 2, 0, none⟩)] dB xs (fun k => k = w.heap.size + 1) V3 := by
 have hin : zG (fun b => b < w.heap.size) w c t := h.mono fun k _ hk => hk
 have hB1 : Below w.heap.size w (w.alloc (.cells #[.int .i64 c.kind, .int .i64 c.pos, .int .i64 c.num, .string ⟨c.text.toArray⟩, .slice c.kp c.kl c.kc] 25)) := (Below.refl _ w).alloc (Nat.le_refl _) _
 generalize hV1 : w.alloc (.cells #[.int .i64 c.kind, .int .i64 c.pos, .int .i64 c.num, .string ⟨c.text.toArray⟩, .slice c.kp c.kl c.kc] 25) = V1 at *
 have hs1 : V1.heap.size = w.heap.size + 1 := by rw [<- hV1]; simp
 have hB2 : Below w.heap.size w (V1.alloc (.cells #[v0] ty)) := hB1.alloc (by omega) _
 have hc2 : (V1.alloc (.cells #[v0] ty)).cell? ⟨w.heap.size + 1, 0, none⟩ = some v0 := by rw [<- hs1, World.cell?_alloc_at _ _ _ _ rfl]; rfl
 have hf2 : (V1.alloc (.cells #[v0] ty)).frozen? ⟨w.heap.size + 1, 0, none⟩ = false := by
  have := World.alloc_heap_new V1 (.cells #[v0] ty);rw [hs1] at this;simp [World.frozen?, this]
 generalize hV2 : V1.alloc (.cells #[v0] ty) = V2 at *
 have hs2 : V2.heap.size = w.heap.size + 2 := by rw [<- hV2]; simp [hs1]
 have hB3 : Below w.heap.size w (V2.alloc (.cells #[.int .i64 c.kind, .int .i64 c.pos, .int .i64 c.num, .string ⟨c.text.toArray⟩, .slice c.kp c.kl c.kc] 25)) := hB2.alloc (by omega) _
 have hB23 : Below V2.heap.size V2 (V2.alloc (.cells #[.int .i64 c.kind, .int .i64 c.pos, .int .i64 c.num, .string ⟨c.text.toArray⟩, .slice c.kp c.kl c.kc] 25)) := (Below.refl _ V2).alloc (Nat.le_refl _) _
 have hc3 := lR hc2 hB23 (by omega)
 have hf3 := oR hf2 hB23 (by omega)
 have hN3 := sO.new V2 c 25
 rw [hs2] at hN3
 have hs3 : (V2.alloc (.cells #[.int .i64 c.kind, .int .i64 c.pos, .int .i64 c.num, .string ⟨c.text.toArray⟩, .slice c.kp c.kl c.kc] 25)).heap.size = w.heap.size + 3 := by simp [hs2]
 rw [<- hV] at hc3 hf3 hN3 hs3 hB3
 have hn3 : zG (fun b => b < w.heap.size) V3 c t := hin.keeps ⟨hB3.size, fun k hk _ => hB3.block k hk⟩
 obtain ⟨xs, hxs⟩ := jX (S := fun b => b < w.heap.size) (w := V3) t.size [⟨1, c, t⟩] (by simp [weight]) (fun x hx => by rw [List.mem_singleton.1 hx]; exact hn3)
 have hxl := hxs.length
 simp only [weight, Nat.add_zero] at hxl
 have hd := hxs.deepest
 have ht : 0 < t.depth := by rw [Nd.depth_eq]; omega
 simp only [rG] at hd
 exact ⟨xs, hxl, by omega, hs3, hc3, hf3, hB3, mZ 4 (by omega) (fun b => b < w.heap.size) (fun k => k = w.heap.size + 1) V3 (w.heap.size + 2) c t xs hN3 (by omega) (by omega) (by intro k hk; omega) (by intro k hk e; omega) (by intro k hk; omega) hxs hsz⟩
theorem dU (l : List Td) (d : Nat) : l.foldr (fun x d => max x.level d) d = max (l.foldr (fun x d => max x.level d) 0) d := by
 induction l with
 | nil => simp
 | cons y l ih => rw [List.foldr_cons, List.foldr_cons, ih]; omega
theorem pV (l : List Td) (x : Td) : deepest (l ++ [x]) = max (deepest l) x.level := by
 unfold deepest;rw [List.foldr_append, dU];simp
theorem iJ {l m : List Td} (h : l <+: m) : deepest l <= deepest m := by
 obtain ⟨r, rfl⟩ := h;unfold deepest;induction l with
 | nil => exact Nat.zero_le _
 | cons y l ih => simp only [List.foldr_cons, List.cons_append]; omega
theorem cH {c : NC} {t : Nd} {w : World} (h : zG (fun _ => True) w c t) (hsz : t.size <= 1000000) : Calls Tryz.prog 42 #[c.val] w (IntIs t.depth w) := by
 have HP := fun V3 hV => iZ (V3 := V3) h hsz (.int .i64 0) 3 hV
 have hdl := t.depth_le;refine (callsIn_wide (n := 5)).1 ?_;refine callsIn_of_wp_marks Tryz.func42 rfl trivial ?_ rfl;simp only [Tryz.ntmps42, NC.val, List.size_toArray, List.length_cons, List.length_nil, Nat.reduceAdd, Nat.reduceSub, Array.replicate_succ, Array.replicate_zero, List.push_toArray, List.append_toArray, List.nil_append, List.cons_append];have HLV := fun w2 => gZ 4 c w2
 unfold NC.val at HLV;gi_wp2_with fail;refine ⟨trivial, ?_⟩;gi_at_call 46;refine (HLV _).mono ?_;rintro e w' ⟨rfl, rfl⟩;gi_wp2_with fail;obtain ⟨xs, hxl, hxd, hs3, hc3, hf3, hB3, hG⟩ := HP _ rfl;generalize ((w.alloc (.cells #[.int .i64 c.kind, .int .i64 c.pos, .int .i64 c.num, .string ⟨c.text.toArray⟩, .slice c.kp c.kl c.kc] 25)).alloc (.cells #[.int .i64 0] 3)).alloc (.cells #[.int .i64 c.kind, .int .i64 c.pos, .int .i64 c.num, .string ⟨c.text.toArray⟩, .slice c.kp c.kl c.kc] 25) = V3 at *;have HX := Lib.hid hxl;have HXD := Lib.hid hxd;clear HP HLV h hxl hxd;refine pL (gf := 81) (lb := #[.pointer (some ⟨w.heap.size + 2, 0, none⟩)]) rfl (enters_of Tryz.func81 (by kernel_rfl) rfl) hG (by intro k hk; omega) (fun _ => rfl)
  (fun pre W => W.cell? ⟨w.heap.size + 1, 0, none⟩ = some (.int .i64 (deepest pre : Nat)) /\ W.frozen? ⟨w.heap.size + 1, 0, none⟩ = false /\ Below w.heap.size w W)
  (fun _ _ _ => False)
  (fun pre A B h hb => ⟨lR h.1 hb (by omega), oR h.2.1 hb (by omega), h.2.2.trans (hb.mono (by omega))⟩)
  (fun _ _ _ _ h _ => h) (⟨hc3, hf3, hB3⟩)
  (fun x => { tmps := #[.agg #[.int .i64 c.kind, .int .i64 c.pos, .int .i64 c.num, .string ⟨c.text.toArray⟩, .slice c.kp c.kl c.kc], .pointer (some ⟨w.heap.size, 0, none⟩), .int .i64 0, .pointer (some ⟨w.heap.size + 1, 0, none⟩), .int .i64 x.level, .agg #[.int .i64 c.kind, .int .i64 c.pos, .int .i64 c.num, .string ⟨c.text.toArray⟩, .slice c.kp c.kl c.kc], .func (.func 81) #[] #[.pointer (some ⟨w.heap.size + 2, 0, none⟩)], .int .i64 x.level, x.cells.val, undef, undef, undef, undef], defers := [] })
  ?assign ?body ?done ?stop
 case assign =>
  intro l x W K hK;simp [dB];gi_wp2;exact hK
 case body =>
  rintro l pre x W ⟨h1, h2, h3⟩ hpre hsW;have hlen : deepest pre <= 1000000 /\ x.level <= 1000000 := by
   have := iJ hpre;rw [pV, HXD.out] at this;omega
  obtain ⟨hl1, hl2⟩ := hlen;gi_wp2;all_goals
   refine ⟨xP.setCell _ _ _ _ rfl, ?_, ?_, h3.setCell (by simp) _⟩
   ·
    rw [World.cell?_setCell_same' _ _ _ (by rw [h1]; rfl), pV];simp only [Option.some.injEq, Value.int.injEq, true_and];omega
   ·
    rw [World.frozen?_setCell]; exact h2
 case done =>
  rintro D W hD hDl ⟨h1, h2, h3⟩ hK;rw [HXD.out] at h1;gi_wp2;refine ⟨by simp, .inl ⟨_, _, rfl, run_takeDeferred hK, ?_⟩⟩;exact ⟨_, results_tmp rfl _ _ _, rfl, h3.trans (belowK_b (w := w) (Nat.le_refl _) W D _ _ (by omega) hK rfl rfl)⟩
 case stop =>
  rintro D c' pre W _ _ _ h _;exact h.elim
end Go.Proofs.YtdjomhbmhooceaaGreat.N6
namespace Go.Proofs.YtdjomhbmhooceaaGreat.N6
open Go.RowKit
namespace Nd
mutual
def same : Nd -> Nd -> Bool
 | mk k _ n t ks, mk k' _ n' t' ks' => decide (k = k') && (decide (n = n') && (decide (t = t') && sames ks ks'))
def sames : List Nd -> List Nd -> Bool
 | [], [] => true
 | [], _ :: _ => false
 | _ :: _, [] => false
 | k :: ks, k' :: ks' => same k k' && sames ks ks'
end
mutual
def just : Nd -> Nd -> Bool
 | mk k p n t ks, mk k' p' n' t' ks' => decide (p = p') && (decide (k = k') && (decide (n = n') && (decide (t = t') && justs ks ks')))
def justs : List Nd -> List Nd -> Bool
 | [], [] => true
 | [], _ :: _ => false
 | _ :: _, [] => false
 | k :: ks, k' :: ks' => just k k' && justs ks ks'
end
theorem dF (a b : Nd) : just a b = (decide (a.pos = b.pos) && (decide (a.kind = b.kind) && (decide (a.num = b.num) && (decide (a.text = b.text) && justs a.kids b.kids)))) := by cases a; cases b; rfl
theorem just_eq2 (a b : Nd) : just a b = (decide (a.pos = b.pos) && (decide (a.kind = b.kind) && (decide (a.text = b.text) && (decide (a.num = b.num) && justs a.kids b.kids)))) := by rw [dF, Bool.and_left_comm (decide (a.num = b.num))]
theorem pH (k k' : Nd) (ks ks' : List Nd) : justs (k :: ks) (k' :: ks') = (just k k' && justs ks ks') := rfl
theorem justs_len : ∀ (l m : List Nd), justs l m = true -> l.length = m.length
 | [], [], _ => rfl
 | [], _ :: _, h => by simp [justs] at h
 | _ :: _, [], h => by simp [justs] at h
 | k :: ks, k' :: ks', h => by
  rw [pH, Bool.and_eq_true] at h;simp [justs_len ks ks' h.2]
theorem justs_drop (l m : List Nd) (i : Nat) (h : i < l.length) (h' : i < m.length) : justs (l.drop i) (m.drop i) = (just l[i] m[i] && justs (l.drop (i + 1)) (m.drop (i + 1))) := by
 rw [List.drop_eq_getElem_cons h, List.drop_eq_getElem_cons h', pH]
theorem just_self (t : Nd) : just t t = true := by
 induction t using by_size with
 | h t ih =>
  have : ∀ l : List Nd, (∀ k ∈ l, just k k = true) -> justs l l = true := fun l => by
   induction l with
   | nil => intro _; rfl
   | cons k ks ih2 =>
    intro h;rw [pH, h k List.mem_cons_self, ih2 fun x hx => h x (List.mem_cons_of_mem _ hx)]; rfl
  rw [dF, this t.kids fun k hk => ih k (fX hk)];simp
end Nd
theorem text_ne {a b : List UInt8} (h : a ≠ b) : ¬ ((⟨a.toArray⟩ : ByteArray) = ⟨b.toArray⟩) := fun e => h (by injection e with e; simpa using e)
theorem bG (w : World) (c d : NC) : ∃ W : World, W = (w.alloc (.cells #[.int .i64 c.kind, .int .i64 c.pos, .int .i64 c.num, .string ⟨c.text.toArray⟩, .slice c.kp c.kl c.kc] 25)).alloc (.cells #[.int .i64 d.kind, .int .i64 d.pos, .int .i64 d.num, .string ⟨d.text.toArray⟩, .slice d.kp d.kl d.kc] 25) /\
  W.heap.size = w.heap.size + 2 /\ sO W w.heap.size c /\ sO W (w.heap.size + 1) d /\ Below w.heap.size w W := by
 have h1 := sO.new w c 25
 have hB0 : Below w.heap.size w (w.alloc (.cells #[.int .i64 c.kind, .int .i64 c.pos, .int .i64 c.num, .string ⟨c.text.toArray⟩, .slice c.kp c.kl c.kc] 25)) := (Below.refl _ w).alloc (Nat.le_refl _) _
 obtain ⟨W1, hW1⟩ : ∃ W1, W1 = w.alloc (.cells #[.int .i64 c.kind, .int .i64 c.pos, .int .i64 c.num, .string ⟨c.text.toArray⟩, .slice c.kp c.kl c.kc] 25) := ⟨_, rfl⟩
 have hs1 : W1.heap.size = w.heap.size + 1 := by rw [hW1]; simp
 rw [<- hW1] at h1 hB0
 have h2 := sO.new W1 d 25
 have hB1 : Below W1.heap.size W1 (W1.alloc (.cells #[.int .i64 d.kind, .int .i64 d.pos, .int .i64 d.num, .string ⟨d.text.toArray⟩, .slice d.kp d.kl d.kc] 25)) := (Below.refl _ W1).alloc (Nat.le_refl _) _
 rw [hs1] at h2
 rw [<- hW1]
 exact ⟨_, rfl, by simp [hs1], h1.same (hB1.block _ (by omega)), h2, hB0.trans (hB1.mono (by omega))⟩
theorem pQ (t : Nd) : ∀ (S S' : Nat -> Prop) (u : Nd) (c d : NC) (w : World), zG S w c t -> zG S' w d u -> t.size <= 1000000 -> Calls Tryz.prog 8 #[c.val, d.val] w (nS (Nd.just t u) w) := by
 induction t using Nd.by_size with
 | h t ih =>
  intro S S' u c d w h h' hsz;have HN := Lib.hid h;have HM := Lib.hid h';have HLN := Lib.hid h.len;have HLM := Lib.hid h'.len;have HI := Lib.hid ih;have HT := Lib.hid hsz;have hk6 := Nd.len_le t;have hk6 : c.kl <= 1000000 := by have := h.len; omega
  have hkc : c.kl <= c.kc := by obtain ⟨ncs, -, ⟨p, cap, e, hl, -⟩, -⟩ := h.row; injection e; omega
  have hkd : d.kl <= d.kc := by obtain ⟨ncs, -, ⟨p, cap, e, hl, -⟩, -⟩ := h'.row; injection e; omega
  have HQ : Hid (Nd.just t u = (decide (c.pos = d.pos) && (decide (c.kind = d.kind) && (decide (c.text = d.text) && (decide (c.num = d.num) && Nd.justs t.kids u.kids))))) := by show _ = _; rw [Nd.just_eq2, h.pos, h'.pos, h.kind, h'.kind, h.text, h'.text, h.num, h'.num]
  obtain ⟨W, hW, hWs, hbx, hby, hBW⟩ := bG w c d;clear h h' ih hsz;unfold NC.val;go_enter Tryz.func8, Tryz.ntmps8;go_upto_region 1 with fail;rw [<- hW];clear hW;have HBX := Lib.hid hbx;have HBY := Lib.hid hby;have HBW := Lib.hid hBW;obtain ⟨x0, x1, x2, x3, x4⟩ := hbx;obtain ⟨y0, y1, y2, y3, y4⟩ := hby;clear hBW;have HL : ¬ c.kl = d.kl -> Hid (Nd.justs t.kids u.kids = false) := fun e => by
   show _ = _;cases hh : Nd.justs t.kids u.kids with
   | false => rfl
   | true => exact absurd (Nd.justs_len _ _ hh) (by rw [<- HLN.out, <- HLM.out]; exact e)
  by_cases h0 : c.pos = d.pos
  case neg =>
   have HR : Hid (Nd.just t u = false) := by show _ = _; rw [HQ.out]; simp [h0]
   clear HL;go_wp2_with fail;try rw [Exit.noGoto_ret]
   go_ret;exact ⟨by rw [HR.out]; rfl, HBW.out⟩
  by_cases h1 : c.kind = d.kind
  case neg =>
   have HR : Hid (Nd.just t u = false) := by show _ = _; rw [HQ.out]; simp [h1]
   clear HL;go_wp2_with fail;try rw [Exit.noGoto_ret]
   go_ret;exact ⟨by rw [HR.out]; rfl, HBW.out⟩
  by_cases h2 : c.text = d.text
  case neg =>
   have HR : Hid (Nd.just t u = false) := by show _ = _; rw [HQ.out]; simp [h2]
   have h2 := text_ne h2;clear HL;go_wp2_with fail;try rw [Exit.noGoto_ret]
   go_ret;exact ⟨by rw [HR.out]; rfl, HBW.out⟩
  have hx2 : (⟨c.text.toArray⟩ : ByteArray) = ⟨d.text.toArray⟩ := by rw [h2]
  by_cases h3 : c.num = d.num
  case neg =>
   have HR : Hid (Nd.just t u = false) := by show _ = _; rw [HQ.out]; simp [h3]
   clear HL;go_wp2_with fail;try rw [Exit.noGoto_ret]
   go_ret;exact ⟨by rw [HR.out]; rfl, HBW.out⟩
  by_cases hl : c.kl = d.kl
  case neg =>
   have HR : Hid (Nd.just t u = false) := by show _ = _; rw [HQ.out, (HL hl).out]; simp
   clear HL;have hl : ¬ (c.kl : Int) = (d.kl : Int) := by omega
   go_wp2_with fail;try rw [Exit.noGoto_ret]
   go_ret;exact ⟨by rw [HR.out]; rfl, HBW.out⟩
  have HR : Hid (Nd.just t u = Nd.justs t.kids u.kids) := by show _ = _; rw [HQ.out]; simp [h0, h1, h2, h3]
  have hlx : (c.kl : Int) = (d.kl : Int) := by omega
  have HKL := Lib.hid hl;clear HL HQ hl;go_wp2_with fail;clear h0 h1 h2 h3 hx2;go_loopg [5] c.kl (fun g i wx => ∃ k : Nat, k + g = c.kl /\ i = .int .i64 (k : Int) /\ Hid (Nd.justs (t.kids.drop k) (u.kids.drop k) = Nd.justs t.kids u.kids) /\ Below W.heap.size W wx)
  case atStart => exact ⟨0, by omega, rfl, rfl, Below.refl _ _⟩
  case round =>
   obtain ⟨k, hkg, rfl, HA, hB⟩ := hrel;obtain ⟨x0, x1, x2, x3, x4⟩ := HBX.out.same (hB.block w.heap.size (by omega));obtain ⟨y0, y1, y2, y3, y4⟩ := HBY.out.same (hB.block (w.heap.size + 1) (by omega));cases gk with
   | zero =>
    obtain rfl : k = c.kl := by omega
    have HF : Hid (Nd.just t u = true) := by
     show _ = _;rw [HR.out, <- HA.out, List.drop_eq_nil_of_le (by rw [HLN.out]; exact Nat.le_refl _), List.drop_eq_nil_of_le (by rw [HKL.out, HLM.out]; exact Nat.le_refl _)];rfl
    go_wp2_with fail;try rw [Exit.noGoto_ret]
    go_ret;exact ⟨by rw [HF.out]; rfl, HBW.out.trans (hB.mono (by omega))⟩
   | succ g =>
    have hlt : k < c.kl := by omega
    have hlt' : (k : Int) < c.kl := by omega
    have hkt : k < t.kids.length := by rw [<- HLN.out]; exact hlt
    have hku : k < u.kids.length := by rw [<- HLM.out, <- HKL.out]; exact hlt
    have hltd : (k : Int) < d.kl := by omega
    have HX : Hid (Nd.just t u = (Nd.just t.kids[k] u.kids[k] && Nd.justs (t.kids.drop (k + 1)) (u.kids.drop (k + 1)))) := by
     show _ = _;rw [HR.out, <- HA.out, Nd.justs_drop _ _ k hkt hku]
    obtain ⟨kc, g1, o1, hp1, -, hg1, -, -, hK1, hcell1⟩ := HN.out.kid k hkt;obtain ⟨kd, g2, o2, hp2, -, hg2, -, -, hK2, hcell2⟩ := HM.out.kid k hku;have hBw : Below w.heap.size w wr.drew := (HBW.out.trans (hB.mono (by omega))).trans (nR _ _);have HC := HI.out _ (Nd.kid_at hkt) S S' u.kids[k] kc kd wr.drew (hK1.later hBw) (hK2.later hBw) (by have := Nd.kid_at hkt; have := HT.out; omega);obtain ⟨p0, p1, p2, p3, p4⟩ := hcell1 wr (hBw.block _ hg1);obtain ⟨q0, q1, q2, q3, q4⟩ := hcell2 wr (hBw.block _ hg2);rw [hp1] at x4;rw [hp2] at y4;have HBw := Lib.hid hBw;clear hp1 hp2 hcell1 hcell2 hK1 hK2 hBw;unfold NC.val at HC;go_wp2_with fail;go_still_tail 10, (by kernel_rfl);go_wp2_with fail;by_cases hs : Nd.just t.kids[k] u.kids[k] = true
    ·
     have HX2 : Hid (Nd.justs (t.kids.drop (k + 1)) (u.kids.drop (k + 1)) = Nd.justs t.kids u.kids) := by
      show _ = _;have := HX.out;rw [hs, Bool.true_and, HR.out] at this;exact this.symm
     rw [hs] at HC;refine HC.mono ?_; rintro e w2 ⟨rfl, hB3⟩;clear HC hs;go_wp2_with fail;go_roundg g
     case measure => omega
     case rel => exact ⟨k + 1, by omega, by go_num, HX2, (hB.trans (nR _ _)).trans (hB3.mono hB.size)⟩
    ·
     have hs : Nd.just t.kids[k] u.kids[k] = false := by simpa using hs
     have HX2 : Hid (Nd.just t u = false) := by
      show _ = _;rw [HX.out, hs]; rfl
     rw [hs] at HC;refine HC.mono ?_; rintro e w2 ⟨rfl, hB3⟩;clear HC hs;go_wp2_with fail;try rw [Exit.noGoto_ret]
     go_ret;exact ⟨by rw [HX2.out]; rfl, HBw.out.trans (hB3.mono HBw.out.size)⟩
end Go.Proofs.YtdjomhbmhooceaaGreat.N6
namespace Go.Proofs.YtdjomhbmhooceaaGreat.N6
open Go.RowKit
def zN : NC := ⟨0, 0, 0, [], none, 0, 0⟩
theorem wS : (Tryz.prog.info? 25).map (fun i => (i.zero, i.size, i.bytes)) = some (some zN.val, 5, 64) := by kernel_rfl
theorem yB {P : Program} {ops : Array Oper} {rest : List Oper} {w : World} {o : Oper} {a : Act} {Q : Exit -> Act -> World -> Prop} (hgd : o.guard = none) (s x : Operand) (t : TypeId)
  (ho : o.op = .call { callee := .builtin .append, args := #[s, x], argTypes := #[t, t] })
  (base : Nat) (e : TypeId) (i : TypeInfo) (z : Value) (size bytes : Nat) (ht : P.underlying t = some (.slice e)) (hi : P.info? e = some i) (hz : i.zero = some z)
  (hsize : i.size = size) (hby : i.bytes = bytes) (hzs : z.cells.size = size) (hsz : 0 < size)
  (v : Value) (n : Nat) (xs : List Value) (hs : a.eval s = v) (hown : w.ownsRow base e size v n xs)
  (ad : Addr) (m c : Nat) (news : List Value) (hx : a.eval x = .slice (some ad) m c) (hl : news.length = m * size) (hnews : ∀ j u, news[j]? = some u -> w.cell? (ad.add j) = some u) (h1 : ∀ u ∈ news, u.oneCell' = true)
  (h63 : n + m <= maxLen) (hbytes : (n + m) * bytes <= 140737488355328) (hbase : base <= w.heap.size)
  (h : ∀ v' w', w'.ownsRow base e size v' (n + m) (xs ++ news) -> w.grownBy w' v.ownBlock -> (v'.ownBlock = v.ownBlock \/ v'.ownBlock = some w.heap.size) -> wpList P ops Q rest (a.put o.dst v') w') : wpList P ops Q (o :: rest) a w :=
 wpList_plain hgd fun _ hK => wp_append_at s x t ho base e i z size bytes ht hi hz hsize hby hzs hsz v n xs hs hown ad m c news hx hl hnews h1 h63 hbytes hbase fun v' w' h2 h3 h4 => hK _ _ (h v' w' h2 h3 h4)
theorem sO.put {W : World} {b : Nat} {c : NC} (h : sO W b c) (d : NC) : sO (((((W.setCell ⟨b, 0, none⟩ (.int .i64 d.kind)).setCell ⟨b, 1, none⟩ (.int .i64 d.pos)).setCell ⟨b, 2, none⟩ (.int .i64 d.num)).setCell ⟨b, 3, none⟩ (.string ⟨d.text.toArray⟩)).setCell ⟨b, 4, none⟩ (.slice d.kp d.kl d.kc)) b d := by
 have hs : ∀ j, j < (yJ d).length -> (W.cell? ⟨b, 0 + j, none⟩).isSome = true := fun j hj => by
  obtain ⟨h0, h1, h2, h3, h4⟩ := h;rw [Nat.zero_add];match j, hj with
  | 0, _ => rw [h0]; rfl
  | 1, _ => rw [h1]; rfl
  | 2, _ => rw [h2]; rfl
  | 3, _ => rw [h3]; rfl
  | 4, _ => rw [h4]; rfl
 have hc := World.cell?_setCells_in b (yJ d) 0 W hs;exact ⟨hc 0 (by simp [yJ]), hc 1 (by simp [yJ]), hc 2 (by simp [yJ]), hc 3 (by simp [yJ]), hc 4 (by simp [yJ])⟩
def kW (W : World) (b : Nat) : Prop := W.frozen? ⟨b, 0, none⟩ = false /\ W.frozen? ⟨b, 1, none⟩ = false /\ W.frozen? ⟨b, 2, none⟩ = false /\ W.frozen? ⟨b, 3, none⟩ = false /\ W.frozen? ⟨b, 4, none⟩ = false
theorem kW.same {W W' : World} {b : Nat} (h : kW W b) (hb : W'.heap[b]? = W.heap[b]?) : kW W' b := by
 have e : ∀ i, W'.frozen? ⟨b, i, none⟩ = W.frozen? ⟨b, i, none⟩ := fun i => by simp [World.frozen?, hb]
 unfold kW;rw [e, e, e, e, e]; exact h
theorem jZ {w : World} {base B : Nat} {p : Value} {ds : List NC} {k : Nat} {c : NC} {t : Nd} {ks : List Nd} (h : w.ownsRow base 25 5 p k (ds.flatMap yJ)) (hB : B <= base)
  (hp : p = .slice c.kp c.kl c.kc) (hk : t.kids = ks) (hl : ds.length = ks.length) (h1 : c.kind = t.kind) (h2 : c.pos = t.pos) (h3 : c.num = t.num) (h4 : c.text = t.text)
  (hd : ∀ j (h : j < ds.length) (h' : j < ks.length), zG (fun b => B <= b) w ds[j] ks[j]) : zG (fun b => B <= b) w c t := by
 have hr := yY.of_owns tK (by omega) h
 have hlt := h.lt
 subst hp hk
 obtain ⟨p, cap, e, hle, hc⟩ := hr
 have e' := e
 injection e with e1 e2 e3
 refine .mk c t ds h1 h2 h3 h4 (by omega) ⟨p, cap, e', hle, hc.imp id ?_⟩ fun i hi hi' => hd i hi' hi
 rintro ⟨g, o, rfl, hg, hg', hcell⟩
 exact ⟨g, o, rfl, (by
  rcases h.2 with ⟨h1, h2⟩ | ⟨g', cap', cur, h1, h2, h3, h4, h5, h6, h7⟩
  ·
   rw [e1] at h1; cases h1
  ·
   rw [e1] at h1; injection h1 with h1; injection h1 with h1; injection h1 with h1; omega), hg', hcell⟩
theorem mF {w2 w3 : World} {B : Nat} {u3 v3 : Value} {d : NC} {t : Nd} {S : Nat -> Prop} (h : zG S w2 d t) (hS : ∀ b, S b -> b < w2.heap.size -> B <= b /\ u3.ownBlock ≠ some b) (hal : w2.grownBy w3 u3.ownBlock)
  (hat : v3.ownBlock = u3.ownBlock \/ ∃ n, v3.ownBlock = some n /\ w2.heap.size <= n) : zG (fun b => B <= b /\ v3.ownBlock ≠ some b) w3 d t := by
 have h1 : zG (fun b => b < w2.heap.size /\ B <= b /\ u3.ownBlock ≠ some b) w2 d t := h.mono fun b hb hl => ⟨hl, hS b hb hl⟩
 have h2 := h1.keeps (w' := w3) ⟨hal.size, fun b hb hl => hal.block b hl (fun e => hb.2.2 e.symm)⟩
 refine h2.mono fun b hb _ => ⟨hb.2.1, fun e => ?_⟩
 rcases hat with e2 | ⟨n, e2, hn⟩
 ·
  exact hb.2.2 (e2 ▸ e)
 ·
  rw [e2] at e; injection e with e; have := hb.1; omega
end Go.Proofs.YtdjomhbmhooceaaGreat.N6
