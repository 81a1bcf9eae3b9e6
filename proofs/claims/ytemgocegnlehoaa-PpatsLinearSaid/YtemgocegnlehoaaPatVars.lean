/- The variables of a pattern, from left to right: as plain data, and as a row of what is left brings them. -/
import Derived.Test.YtemgocegnlehoaaPatSpec
import Derived.Test.YtemgocegnlehoaaNodeA
namespace Go.Proofs.Ytemgocegnlehoaa.N6
open Go.RowKit
namespace Nd
mutual
def varsN : Nd → List Nd
  | mk k p n t ks => if k = 11 then [mk k p n t ks] else varsK ks
def varsK : List Nd → List Nd
  | [] => []
  | k :: ks => varsN k ++ varsK ks
end
theorem varsN_var {t : Nd} (h : t.kind = 11) : varsN t = [t] := by cases t; unfold varsN; exact if_pos h
theorem varsN_node {t : Nd} (h : ¬ t.kind = 11) : varsN t = varsK t.kids := by cases t; unfold varsN; exact if_neg h
theorem varsK_cons (k : Nd) (ks : List Nd) : varsK (k :: ks) = varsN k ++ varsK ks := rfl
theorem varsK_append (a b : List Nd) : varsK (a ++ b) = varsK a ++ varsK b := by
  induction a with
  | nil => rfl
  | cons k ks ih => rw [List.cons_append, varsK_cons, varsK_cons, ih, List.append_assoc]
end Nd
def encV (x : Td) : List Value := encN x.cells
theorem encV_len (x : Td) : (encV x).length = 5 := rfl
theorem encV_one (x : Td) : ∀ u ∈ encV x, u.oneCell' = true := encN_one x.cells
/-- what comes, of what is left; so many steps -/
inductive Goes (S : Nat → Prop) (w : World) : List Td → List Td → Nat → Prop where
  | nil : Goes S w [] [] 0
  | var {x : Td} {st out : List Td} {n : Nat} : NodeAt S w x.cells x.tree → x.tree.kind = 11 → Goes S w st out n → Goes S w (x :: st) (x :: out) (n + 1)
  | node {x : Td} {st ks out : List Td} {n : Nat} : NodeAt S w x.cells x.tree → ¬ x.tree.kind = 11 → KidsOf S w x ks → Goes S w (ks ++ st) out n → Goes S w (x :: st) out (n + 1)
theorem goes_of {S : Nat → Prop} {w : World} : ∀ (n : Nat) (st : List Td), weight st ≤ n → (∀ x ∈ st, NodeAt S w x.cells x.tree) → ∃ out m, Goes S w st out m
  | _, [], _, _ => ⟨[], 0, .nil⟩
  | 0, x :: st, h, _ => by have := x.tree.size_pos; rw [weight] at h; omega
  | n + 1, x :: st, h, hn => by
    have hx := hn x List.mem_cons_self
    by_cases hk : x.tree.kind = 11
    · have := x.tree.size_pos
      rw [weight] at h
      obtain ⟨out, m, ho⟩ := goes_of n st (by omega) fun y hy => hn y (List.mem_cons_of_mem _ hy)
      exact ⟨x :: out, m + 1, .var hx hk ho⟩
    · obtain ⟨ks, hks⟩ := kids_of hx
      have hw := hks.weight
      rw [weight] at h
      obtain ⟨out, m, ho⟩ := goes_of n (ks ++ st) (by rw [weight_append]; omega) fun y hy => by
        rcases List.mem_append.1 hy with hy | hy
        · obtain ⟨i, hi, rfl⟩ := List.mem_iff_getElem.1 hy
          exact (hks.2 i hi (by rw [← hks.1]; exact hi)).2.2.1
        · exact hn y (List.mem_cons_of_mem _ hy)
      exact ⟨out, m + 1, .node hx hk hks ho⟩
theorem KidsOf.trees {S : Nat → Prop} {w : World} {x : Td} {ks : List Td} (h : KidsOf S w x ks) : ks.map (·.tree) = x.tree.kids := by
  refine List.ext_getElem (by rw [List.length_map]; exact h.1) fun i hi hi' => ?_
  rw [List.getElem_map]
  exact (h.2 i (by simpa using hi) hi').2.1
theorem Goes.trees {S : Nat → Prop} {w : World} {st out : List Td} {n : Nat} (h : Goes S w st out n) : out.map (·.tree) = Nd.varsK (st.map (·.tree)) := by
  induction h with
  | nil => rfl
  | var h1 h2 h3 ih => rw [List.map_cons, List.map_cons, Nd.varsK_cons, Nd.varsN_var h2, ih]; rfl
  | node h1 h2 h3 h4 ih => rw [ih, List.map_append, Nd.varsK_append, List.map_cons, Nd.varsK_cons, Nd.varsN_node h2, h3.trees]
theorem Goes.few {S : Nat → Prop} {w : World} {st out : List Td} {n : Nat} (h : Goes S w st out n) : out.length ≤ weight st := by
  induction h with
  | nil => exact Nat.le_refl _
  | @var x st out n h1 h2 h3 ih => rw [List.length_cons, weight]; have := x.tree.size_pos; omega
  | node h1 h2 h3 h4 ih => rw [weight_append] at ih; rw [weight]; have := h3.weight; omega
theorem Goes.kept {S : Nat → Prop} {w w' : World} {st out : List Td} {n : Nat} (h : Goes S w st out n) (hk : Keeps S w w') : Goes S w' st out n := by
  induction h with
  | nil => exact .nil
  | var h1 h2 h3 ih => exact .var (h1.keeps hk) h2 ih
  | node h1 h2 h3 h4 ih =>
    refine .node (h1.keeps hk) h2 ⟨h3.1, fun i hi hi' => ?_⟩ ih
    obtain ⟨q1, q2, q3, g, o, q4, q5, q6, q7⟩ := h3.2 i hi hi'
    exact ⟨q1, q2, q3.keeps hk, g, o, q4, q5, Nat.lt_of_lt_of_le q6 hk.size, fun w'' e => q7 w'' (e.trans (hk.same g q5 q6))⟩
theorem Goes.nodes {S : Nat → Prop} {w : World} {st out : List Td} {n : Nat} (h : Goes S w st out n) : ∀ x ∈ out, NodeAt S w x.cells x.tree ∧ x.tree.kind = 11 := by
  induction h with
  | nil => intro x hx; cases hx
  | var h1 h2 h3 ih =>
    intro y hy
    rcases List.mem_cons.1 hy with rfl | hy
    · exact ⟨h1, h2⟩
    · exact ih y hy
  | node h1 h2 h3 h4 ih => exact ih
end Go.Proofs.Ytemgocegnlehoaa.N6
