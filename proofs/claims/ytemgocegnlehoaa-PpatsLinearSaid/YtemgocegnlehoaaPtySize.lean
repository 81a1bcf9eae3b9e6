/- Types that are read are not greater than their words. -/
import Derived.Test.YtemgocegnlehoaaPtySpec
namespace Go.Proofs.Ytemgocegnlehoaa.N7
open Go.RowKit N5 N6

theorem at_leave (c : Cu) : c.leave.at' = c.at' := by unfold Cu.leave; split <;> rfl
theorem at_enter (c : Cu) : c.enter.at' = c.at' := by
  unfold Cu.enter
  split
  · split
    · unfold Cu.fail; split <;> rfl
    · rfl
  · rfl
theorem at_adv {c : Cu} (h : c.peek.kind ≠ 0) : c.adv.at' = c.at' + 1 := by unfold Cu.adv; rw [if_pos ⟨peek_err h, peek_lt h⟩]
theorem at_take {c : Cu} {x : List UInt8} (h : c.is x = true) : (c.take x).at' = c.at' + 1 := by unfold Cu.take; rw [if_pos h]
theorem at_want {c : Cu} {x : List UInt8} (h : c.is x = true) : (c.want x).at' = c.at' + 1 := by unfold Cu.want; rw [if_pos h]; exact at_take h
theorem at_kind {c : Cu} {k : Int} (hk : k ≠ 0) (h : c.kindOk k = true) : (c.kind k).at' = c.at' + 1 := by
  unfold Cu.kindOk at h
  simp only [Bool.and_eq_true, decide_eq_true_eq] at h
  unfold Cu.kind
  rw [if_pos h.1, if_pos h.2]
  exact at_adv (by unfold Cu.peek; rw [if_pos h.1, h.2]; exact hk)
/-- a reader whose trees are not greater than what it reads -/
def Sized (p : Cu → Out Nd) : Prop := ∀ c d t, p c = (d, some t) → t.size + c.at' ≤ d.at'
theorem deeper_sized {rd : Cu → Out Nd} {c : Cu} (h : ∀ d t, rd c.enter = (d, some t) → t.size + c.at' ≤ d.at') {d : Cu} {t : Nd} (e : deeper rd c = (d, some t)) : t.size + c.at' ≤ d.at' := by
  unfold deeper at e
  split at e
  · cases hr : rd c.enter with
    | mk a o =>
      rw [hr] at e
      cases o with
      | none => cases e
      | some n =>
        injection e with e1 e2
        injection e2 with e2
        have := h a n hr
        rw [← e1, ← e2, at_leave]; exact this
  · cases e
section
variable {wh : Cu → Out Nd}
theorem atom_sized (H : Sized wh) : Sized (atomP wh) := by
  intro c d t e
  unfold atomP at e
  split at e
  · rename_i h
    injection e with e1 e2; injection e2 with e2
    rw [← e1, ← e2, at_adv (by rw [h]; decide)]
    show 1 + c.at' ≤ _; omega
  · split at e
    · rename_i h
      injection e with e1 e2; injection e2 with e2
      rw [← e1, ← e2, at_adv (by rw [h]; decide)]
      show 1 + c.at' ≤ _; omega
    · split at e
      · refine deeper_sized (fun d t e => ?_) e
        unfold inside at e
        split at e
        · rename_i hi
          cases hr : wh (c.enter.want [40]) with
          | mk a o =>
            rw [hr] at e
            cases o with
            | none => cases e
            | some n =>
              have := H _ _ _ hr
              rw [at_want hi, at_enter] at this
              dsimp only at e
              split at e
              · rename_i hj
                injection e with e1 e2; injection e2 with e2
                rw [← e1, ← e2, at_want hj]; omega
              · cases e
        · cases e
      · cases e
theorem many_sized {go : Cu → Bool} {nx : Cu → Cu} {rd : Cu → Out Nd} (H : Sized rd) (hn : ∀ c, c.at' ≤ (nx c).at') (f : Nat) : ∀ (c d : Cu) (l ks : List Nd), manyP go nx rd f c l = (d, some ks) → Nd.sizes ks + c.at' ≤ d.at' + Nd.sizes l := by
  induction f with
  | zero => intro c d l ks h; cases h
  | succ f ih =>
    intro c d l ks h
    unfold manyP at h
    split at h
    · cases hr : rd (nx c) with
      | mk e o =>
        rw [hr] at h
        cases o with
        | none => cases h
        | some n =>
          have h1 := ih e d (l ++ [n]) ks h
          have h2 := H _ _ _ hr
          have h3 := hn c
          rw [Nd.sizes_append] at h1
          have h4 : Nd.sizes [n] = n.size := by show n.size + 0 = _; omega
          omega
    · injection h with h1 h2
      injection h2 with h2
      have := hn c
      rw [← h1, ← h2]; omega
theorem row_sized (H : Sized wh) : Sized (rowP wh) := by
  intro c d t e
  unfold rowP at e
  split at e
  · rename_i h
    cases hm : manyP begins id (atomP wh) (c.ws.length + 1) c.adv [] with
    | mk a o =>
      rw [hm] at e
      cases o with
      | none => cases e
      | some ks =>
        have := many_sized (atom_sized H) (fun c => Nat.le_refl _) _ _ _ _ _ hm
        rw [at_adv (by rw [h]; decide)] at this
        injection e with e1 e2; injection e2 with e2
        rw [← e1, ← e2, Nd.size_eq]
        show Nd.sizes ks + 1 + _ ≤ _
        have : Nd.sizes ([] : List Nd) = 0 := rfl
        omega
  · exact atom_sized H _ _ _ e
theorem arrow_sized (H : Sized wh) : Sized (arrowP wh) := by
  intro c d t e
  unfold arrowP at e
  cases hr : rowP wh c with
  | mk a o =>
    rw [hr] at e
    cases o with
    | none => cases e
    | some n =>
      have h1 := row_sized H _ _ _ hr
      dsimp only at e
      split at e
      · rename_i hi
        cases hw : wh (a.take [45, 62]) with
        | mk b o =>
          rw [hw] at e
          cases o with
          | none => cases e
          | some m =>
            have h2 := H _ _ _ hw
            rw [at_take hi] at h2
            injection e with e1 e2; injection e2 with e2
            rw [← e1, ← e2, Nd.size_eq]
            show n.size + (m.size + 0) + 1 + _ ≤ _
            omega
      · injection e with e1 e2; injection e2 with e2
        rename_i hi
        rw [← e1, ← e2, take_not hi]; exact h1
end
theorem whole_sized : ∀ n, Sized (wholeP n)
  | 0 => fun c d t e => by cases e
  | n + 1 => fun c d t e => deeper_sized (fun d t e => by have := arrow_sized (whole_sized n) _ _ _ e; rw [at_enter] at this; exact this) e
theorem pred_sized {wh : Cu → Out Nd} (H : Sized wh) : Sized (predP wh) := by
  intro c d t e
  unfold predP at e
  split at e
  · rename_i h
    cases hr : atomP wh (c.kind 2) with
    | mk a o =>
      rw [hr] at e
      cases o with
      | none => cases e
      | some n =>
        have := atom_sized H _ _ _ hr
        rw [at_kind (by decide) h] at this
        injection e with e1 e2; injection e2 with e2
        rw [← e1, ← e2, Nd.size_eq]
        show n.size + 0 + 1 + _ ≤ _
        omega
  · cases e
theorem preds_sized {wh : Cu → Out Nd} (H : Sized wh) {c d : Cu} {l : List Nd} (e : predsP wh c = (d, some l)) : Nd.sizes l + c.at' ≤ d.at' := by
  unfold predsP at e
  split at e
  · rename_i h
    split at e
    · rename_i h2
      injection e with e1 e2; injection e2 with e2
      rw [← e1, ← e2, at_take h2, at_take h]
      show 0 + _ ≤ _; omega
    · rename_i h2
      rw [take_not h2] at e
      cases hr : predP wh (c.take [40]) with
      | mk a o =>
        rw [hr] at e
        cases o with
        | none => cases e
        | some n =>
          have h3 := pred_sized H _ _ _ hr
          rw [at_take h] at h3
          dsimp only at e
          cases hm : manyP (fun c => c.is [44]) (fun c => c.take [44]) (predP wh) (c.ws.length + 1) a [] with
          | mk b o =>
            rw [hm] at e
            cases o with
            | none => cases e
            | some ks =>
              have h4 := many_sized (pred_sized H) (fun c => by unfold Cu.take; split <;> (first | exact Nat.le_succ _ | exact Nat.le_refl _)) _ _ _ _ _ hm
              dsimp only at e
              split at e
              · rename_i hi
                injection e with e1 e2; injection e2 with e2
                rw [← e1, ← e2, at_want hi, Nd.sizes_cons]
                have : Nd.sizes ([] : List Nd) = 0 := rfl
                omega
              · cases e
  · rename_i h
    rw [take_not h] at e
    cases hr : predP wh c with
    | mk a o =>
      rw [hr] at e
      cases o with
      | none => cases e
      | some n =>
        have h3 := pred_sized H _ _ _ hr
        injection e with e1 e2; injection e2 with e2
        rw [← e1, ← e2]
        show n.size + 0 + _ ≤ _
        omega
theorem context_sized {wh : Cu → Out Nd} (H : Sized wh) {c d : Cu} {l : List Nd} (e : contextP wh c = (d, some l)) : Nd.sizes l + c.at' ≤ d.at' := by
  unfold contextP at e
  split at e
  · cases hr : predsP wh c with
    | mk a o =>
      rw [hr] at e
      cases o with
      | none => cases e
      | some ks =>
        have := preds_sized H hr
        dsimp only at e
        split at e
        · rename_i hi
          injection e with e1 e2; injection e2 with e2
          rw [← e1, ← e2, at_want hi]; omega
        · cases e
  · injection e with e1 e2
    split at e2
    · injection e2 with e2
      rw [← e1, ← e2]; show 0 + _ ≤ _; omega
    · cases e2
theorem qual_sized {wh : Cu → Out Nd} (H : Sized wh) {c d : Cu} {t : Nd} (e : qualP wh c = (d, some t)) : t.size + c.at' ≤ d.at' + 1 := by
  unfold qualP at e
  cases hr : contextP wh c with
  | mk a o =>
    rw [hr] at e
    cases o with
    | none => cases e
    | some l =>
      have h1 := context_sized H hr
      dsimp only at e
      cases hw : wh a with
      | mk b o =>
        rw [hw] at e
        cases o with
        | none => cases e
        | some n =>
          have h2 := H _ _ _ hw
          injection e with e1 e2; injection e2 with e2
          rw [← e1, ← e2, Nd.size_eq]
          show Nd.sizes (l ++ [n]) + 1 + _ ≤ _
          rw [Nd.sizes_append]
          have h4 : Nd.sizes [n] = n.size := by show n.size + 0 = _; omega
          omega
end Go.Proofs.Ytemgocegnlehoaa.N7
