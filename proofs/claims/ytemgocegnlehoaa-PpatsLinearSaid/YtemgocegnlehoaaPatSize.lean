/- Patterns that are read are not greater than their words. -/
import Derived.Test.YtemgocegnlehoaaPatSpec
import Derived.Test.YtemgocegnlehoaaPtySize
namespace Go.Proofs.Ytemgocegnlehoaa.N8
open Go.RowKit N5 N6 N7
theorem leaf_size (t : Tk) : (leaf t).size = 1 := by
  unfold leaf
  split
  · rfl
  · split
    · rfl
    · split <;> rfl
theorem peek_begins {c : Cu} (h : begins c = true) : c.adv.at' = c.at' + 1 := by
  unfold Cu.adv
  rw [if_pos ⟨begins_err h, begins_lt h⟩]
section
variable {wh : Cu → Out Nd}
theorem atom_sized (H : Sized wh) : Sized (atomP wh) := by
  intro c d t e
  unfold atomP at e
  split at e
  · refine deeper_sized (fun d t e => ?_) e
    unfold inside at e
    split at e
    · rename_i hi
      cases hr : wh (c.enter.want [40]) with
      | mk a o =>
        rw [hr] at e
        cases o with
        | none => cases e
        | some n =>
          have := H _ _ _ hr
          rw [at_want hi, at_enter] at this
          dsimp only at e
          split at e
          · rename_i hj
            injection e with e1 e2; injection e2 with e2
            rw [← e1, ← e2, at_want hj]; omega
          · cases e
    · cases e
  · split at e
    · rename_i h
      injection e with e1 e2; injection e2 with e2
      rw [← e1, ← e2, leaf_size, peek_begins h]; omega
    · cases e
theorem row_sized (H : Sized wh) : Sized (rowP wh) := by
  intro c d t e
  unfold rowP at e
  split at e
  · rename_i h
    cases hm : manyP begins id (atomP wh) (c.ws.length + 1) c.adv [] with
    | mk a o =>
      rw [hm] at e
      cases o with
      | none => cases e
      | some ks =>
        have := many_sized (atom_sized H) (fun c => Nat.le_refl _) _ _ _ _ _ hm
        rw [at_adv (by rw [h]; decide)] at this
        injection e with e1 e2; injection e2 with e2
        rw [← e1, ← e2, Nd.size_eq]
        show Nd.sizes ks + 1 + _ ≤ _
        have : Nd.sizes ([] : List Nd) = 0 := rfl
        omega
  · exact atom_sized H _ _ _ e
end
theorem whole_sized : ∀ n, Sized (wholeP n)
  | 0 => fun c d t e => by cases e
  | n + 1 => fun c d t e => deeper_sized (fun d t e => by have := row_sized (whole_sized n) _ _ _ e; rw [at_enter] at this; exact this) e
theorem whole_ok {c : Cu} (h0 : c.nest = 0) (h : (wholeP 200 c).1.err = 0) : ∃ t, (wholeP 200 c).2 = some t := by
  have hr := pair_whole 200 c (by omega)
  rcases hr.cases with ⟨e1, e2⟩ | ⟨e1, e2⟩
  · exact ⟨_, by rw [e2]⟩
  · rw [e2] at h; exact absurd h e1
theorem fine_at (m : Nat) (c : Cu) (h : 200 ≤ c.nest + m ∨ c.err ≠ 0) : Fine c (atR m c).1 := by
  by_cases he : c.err = 0
  · exact (pair_whole m c (h.resolve_right fun q => q he)).fine
  · rw [atR_stuck m he]; exact .refl c
theorem fine_atom (m : Nat) (c : Cu) (h : 200 ≤ c.nest + (m + 1) ∨ c.err ≠ 0) : Fine c (atomR (atR m) c).1 := by
  by_cases he : c.err = 0
  · exact (pair_atom (pair_whole m) c (h.resolve_right fun q => q he)).fine
  · rw [atomR_stuck he]; exact .refl c
theorem enter_more {c : Cu} {m : Nat} (h : 200 ≤ c.nest + m ∨ c.err ≠ 0) : 200 ≤ c.enter.nest + (m + 1) ∨ c.enter.err ≠ 0 := by
  by_cases he : c.enters = true
  · have h1 := (enters_iff.1 he).1
    rw [enter_of he]
    exact .inl (by have := h.resolve_right fun q => q h1; show 200 ≤ c.nest + 1 + (m + 1); omega)
  · exact .inr (enter_not he).1
end Go.Proofs.Ytemgocegnlehoaa.N8
