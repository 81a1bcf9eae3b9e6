/- A tree's nodes, a node ahead of its kids, each with its level: as plain data. -/
import Derived.Test.YtobmpipifdielaaNodeRead
namespace Go.Proofs.Ytobmpipifdielaa
open Go.RowKit

/-- a node on the way: its level, its cells, its tree -/
structure Td where
  level : Nat
  cells : NC
  tree : Nd
def encT (x : Td) : List Value := [.int .i64 x.level, .int .i64 x.cells.kind, .int .i64 x.cells.pos, .int .i64 x.cells.num, .string ⟨x.cells.text.toArray⟩, .slice x.cells.kp x.cells.kl x.cells.kc]
theorem encT_len (x : Td) : (encT x).length = 6 := rfl
theorem encT_one : ∀ c : Td, ∀ u ∈ encT c, u.oneCell' = true := fun c u hu => by
  simp only [encT, List.mem_cons, List.not_mem_nil, or_false] at hu
  rcases hu with rfl | rfl | rfl | rfl | rfl | rfl <;> rfl

/-- the kids of one, as they lie -/
def KidsOf (S : Nat → Prop) (w : World) (x : Td) (ks : List Td) : Prop :=
  ks.length = x.tree.kids.length ∧ ∀ i (h : i < ks.length) (h' : i < x.tree.kids.length), ks[i].level = x.level + 1 ∧ ks[i].tree = x.tree.kids[i] ∧ NodeAt S w ks[i].cells ks[i].tree ∧
    ∃ g o, x.cells.kp = some ⟨g, o, none⟩ ∧ S g ∧ g < w.heap.size ∧ ∀ w' : World, w'.heap[g]? = w.heap[g]? →
      w'.cell? ⟨g, o + i * 5, none⟩ = some (.int .i64 ks[i].cells.kind) ∧ w'.cell? ⟨g, o + i * 5 + 1, none⟩ = some (.int .i64 ks[i].cells.pos) ∧ w'.cell? ⟨g, o + i * 5 + 2, none⟩ = some (.int .i64 ks[i].cells.num) ∧
      w'.cell? ⟨g, o + i * 5 + 3, none⟩ = some (.string ⟨ks[i].cells.text.toArray⟩) ∧ w'.cell? ⟨g, o + i * 5 + 4, none⟩ = some (.slice ks[i].cells.kp ks[i].cells.kl ks[i].cells.kc)
theorem kids_of {S : Nat → Prop} {w : World} {x : Td} (h : NodeAt S w x.cells x.tree) : ∃ ks, KidsOf S w x ks := by
  have : ∀ i (hi : i < x.tree.kids.length), ∃ k : Td, k.level = x.level + 1 ∧ k.tree = x.tree.kids[i] ∧ NodeAt S w k.cells k.tree ∧
    ∃ g o, x.cells.kp = some ⟨g, o, none⟩ ∧ S g ∧ g < w.heap.size ∧ ∀ w' : World, w'.heap[g]? = w.heap[g]? →
      w'.cell? ⟨g, o + i * 5, none⟩ = some (.int .i64 k.cells.kind) ∧ w'.cell? ⟨g, o + i * 5 + 1, none⟩ = some (.int .i64 k.cells.pos) ∧ w'.cell? ⟨g, o + i * 5 + 2, none⟩ = some (.int .i64 k.cells.num) ∧
      w'.cell? ⟨g, o + i * 5 + 3, none⟩ = some (.string ⟨k.cells.text.toArray⟩) ∧ w'.cell? ⟨g, o + i * 5 + 4, none⟩ = some (.slice k.cells.kp k.cells.kl k.cells.kc) := fun i hi => by
    obtain ⟨k, g, o, h1, h2, h3, -, -, h4, h5⟩ := h.kid i hi
    exact ⟨⟨x.level + 1, k, x.tree.kids[i]⟩, rfl, rfl, h4, g, o, h1, h2, h3, h5⟩
  by_cases h0 : x.tree.kids.length = 0
  · exact ⟨[], by simp [h0], fun i hi => by simp at hi⟩
  · obtain ⟨k0, -⟩ := this 0 (by omega)
    refine ⟨(List.range x.tree.kids.length).map fun i => if hi : i < x.tree.kids.length then Classical.choose (this i hi) else k0, by simp, fun i hi hi' => ?_⟩
    rw [List.getElem_map, List.getElem_range, dif_pos hi']
    exact Classical.choose_spec (this i hi')

/-- what comes, of what is left -/
inductive Comes (S : Nat → Prop) (w : World) : List Td → List Td → Prop where
  | nil : Comes S w [] []
  | cons {x : Td} {st ks out : List Td} : NodeAt S w x.cells x.tree → KidsOf S w x ks → Comes S w (ks ++ st) out → Comes S w (x :: st) (x :: out)
def weight : List Td → Nat
  | [] => 0
  | x :: st => x.tree.size + weight st
theorem weight_append (a b : List Td) : weight (a ++ b) = weight a + weight b := by
  induction a with
  | nil => simp [weight]
  | cons x st ih => rw [List.cons_append, weight, weight, ih]; omega
theorem weight_trees : ∀ (ks : List Td) (l : List Nd), ks.length = l.length → (∀ i (h : i < ks.length) (h' : i < l.length), ks[i].tree = l[i]) → weight ks = Nd.sizes l
  | [], [], _, _ => rfl
  | [], _ :: _, h, _ => by simp at h
  | _ :: _, [], h, _ => by simp at h
  | k :: ks, t :: l, h, e => by
    have h0 := e 0 (by simp) (by simp)
    simp only [List.getElem_cons_zero] at h0
    rw [weight, Nd.sizes_cons, h0, weight_trees ks l (by simpa using h) fun i hi hi' => by have := e (i + 1) (by simpa using hi) (by simpa using hi'); simpa using this]
theorem KidsOf.weight {S : Nat → Prop} {w : World} {x : Td} {ks : List Td} (h : KidsOf S w x ks) : weight ks + 1 = x.tree.size := by
  rw [Nd.size_eq, weight_trees ks _ h.1 fun i hi hi' => (h.2 i hi hi').2.1]
theorem comes_of {S : Nat → Prop} {w : World} : ∀ (n : Nat) (st : List Td), weight st ≤ n → (∀ x ∈ st, NodeAt S w x.cells x.tree) → ∃ out, Comes S w st out
  | _, [], _, _ => ⟨[], .nil⟩
  | 0, x :: st, h, _ => by have := x.tree.size_pos; rw [weight] at h; omega
  | n + 1, x :: st, h, hn => by
    obtain ⟨ks, hks⟩ := kids_of (hn x List.mem_cons_self)
    have hw := hks.weight
    rw [weight] at h
    obtain ⟨out, ho⟩ := comes_of n (ks ++ st) (by rw [weight_append]; omega) fun y hy => by
      rcases List.mem_append.1 hy with hy | hy
      · obtain ⟨i, hi, rfl⟩ := List.mem_iff_getElem.1 hy
        exact (hks.2 i hi (by rw [← hks.1]; exact hi)).2.2.1
      · exact hn y (List.mem_cons_of_mem _ hy)
    exact ⟨x :: out, .cons (hn x List.mem_cons_self) hks ho⟩
theorem Comes.length {S : Nat → Prop} {w : World} {st out : List Td} (h : Comes S w st out) : out.length = weight st := by
  induction h with
  | nil => rfl
  | cons h1 h2 h3 ih => rw [List.length_cons, ih, weight, weight_append]; have := h2.weight; omega
theorem weight_len (st : List Td) : st.length ≤ weight st := by
  induction st with
  | nil => exact Nat.zero_le _
  | cons x st ih => rw [weight, List.length_cons]; have := x.tree.size_pos; omega
/-- how deep what comes goes -/
def deepest (l : List Td) : Nat := l.foldr (fun x d => max x.level d) 0
def reach : List Td → Nat
  | [] => 0
  | x :: st => max (x.level + x.tree.depth - 1) (reach st)
theorem reach_append (a b : List Td) : reach (a ++ b) = max (reach a) (reach b) := by
  induction a with
  | nil => simp [reach]
  | cons x st ih => rw [List.cons_append, reach, reach, ih]; omega
theorem reach_trees (n : Nat) : ∀ (ks : List Td) (l : List Nd), ks.length = l.length → (∀ i (h : i < ks.length) (h' : i < l.length), ks[i].tree = l[i] ∧ ks[i].level = n) → reach ks = if l = [] then 0 else n + Nd.depths l - 1
  | [], [], _, _ => rfl
  | [], _ :: _, h, _ => by simp at h
  | _ :: _, [], h, _ => by simp at h
  | k :: ks, t :: l, h, e => by
    have h0 := e 0 (by simp) (by simp)
    simp only [List.getElem_cons_zero] at h0
    rw [reach, Nd.depths_cons, h0.1, h0.2, reach_trees n ks l (by simpa using h) fun i hi hi' => by have := e (i + 1) (by simpa using hi) (by simpa using hi'); simpa using this]
    have ht : 0 < t.depth := by rw [Nd.depth_eq]; omega
    by_cases hl : l = []
    · subst hl; simp [Nd.depths]
    · rw [if_neg hl, if_neg (by simp)]
      have : 0 < Nd.depths l := by
        cases l with
        | nil => exact absurd rfl hl
        | cons t' l' => rw [Nd.depths_cons]; have : 0 < t'.depth := by rw [Nd.depth_eq]; omega
                        omega
      omega
theorem Comes.deepest {S : Nat → Prop} {w : World} {st out : List Td} (h : Comes S w st out) : deepest out = reach st := by
  induction h with
  | nil => rfl
  | @cons x st ks out h1 h2 h3 ih =>
    show max x.level (Go.Proofs.Ytobmpipifdielaa.deepest out) = _
    rw [ih, reach, reach_append, reach_trees (x.level + 1) ks x.tree.kids h2.1 fun i hi hi' => ⟨(h2.2 i hi hi').2.1, (h2.2 i hi hi').1⟩, Nd.depth_eq]
    split
    · rename_i e; rw [e]; simp [Nd.depths]
    · rename_i e
      have : 0 < Nd.depths x.tree.kids := by
        cases hk : x.tree.kids with
        | nil => exact absurd hk e
        | cons t' l' => rw [Nd.depths_cons]; have : 0 < t'.depth := by rw [Nd.depth_eq]; omega
                        omega
      omega
theorem Comes.kept {S : Nat → Prop} {w w' : World} {st out : List Td} (h : Comes S w st out) (hk : Keeps S w w') : Comes S w' st out := by
  induction h with
  | nil => exact .nil
  | cons h1 h2 h3 ih =>
    refine .cons (h1.keeps hk) ⟨h2.1, fun i hi hi' => ?_⟩ ih
    obtain ⟨q1, q2, q3, g, o, q4, q5, q6, q7⟩ := h2.2 i hi hi'
    exact ⟨q1, q2, q3.keeps hk, g, o, q4, q5, Nat.lt_of_lt_of_le q6 hk.size, fun w'' e => q7 w'' (e.trans (hk.same g q5 q6))⟩
end Go.Proofs.Ytobmpipifdielaa
