/- Plain facts on the first name that is free; the contract of the document's own Has. -/
import Derived.Test.YtnepcledbjnolabDoorNamesAwake
namespace Go.Proofs.YtnepcledbjnolabDoor
open Go.RowKit

def hasB (ss : List ByteArray) (s : ByteArray) : Bool := (ss.map (·.data.toList)).contains s.data.toList
theorem hasB_iff (ss : List ByteArray) (s : ByteArray) : hasB ss s = true ↔ s ∈ ss := by
  unfold hasB
  rw [List.contains_iff_mem, List.mem_map]
  exact ⟨fun ⟨x, h, e⟩ => by rwa [← byte_same e], fun h => ⟨s, h, rfl⟩⟩

theorem textOf_inj {i j : Int} (h0 : 0 ≤ i) (h1 : i ≤ 9223372036854775807) (g0 : 0 ≤ j) (g1 : j ≤ 9223372036854775807) (h : (textOf i).data.toList = (textOf j).data.toList) : i = j := by
  have a := atoi_itoa i h0 h1
  have b := atoi_itoa j g0 g1
  have h' : Lib.itoa i = Lib.itoa j := h
  rw [h', b] at a
  injection a with a
  exact a.symm
theorem cand_inj (base : ByteArray) {i j : Nat} (hi : i ≤ 9223372036854775807) (hj : j ≤ 9223372036854775807) (h : cand base i = cand base j) : i = j := by
  have hne : ∀ k : Nat, (textOf (k : Int)).data.toList ≠ [] := fun k => itoa_ne (k : Int)
  unfold cand at h
  split at h <;> split at h
  · omega
  · exfalso
    have := congrArg (fun x => x.data.toList) h
    simp only [ByteArray.data_append, Array.toList_append] at this
    exact hne j (by simpa using this)
  · exfalso
    have := congrArg (fun x => x.data.toList) h
    simp only [ByteArray.data_append, Array.toList_append] at this
    exact hne i (by simpa using this)
  · have := congrArg (fun x => x.data.toList) h
    simp only [ByteArray.data_append, Array.toList_append] at this
    have := textOf_inj (i := (i : Int)) (j := (j : Int)) (by omega) (by omega) (by omega) (by omega) (List.append_cancel_left this)
    omega
theorem sub_len {α : Type} : ∀ (l m : List α), l.Nodup → (∀ x ∈ l, x ∈ m) → l.length ≤ m.length
  | [], _, _, _ => Nat.zero_le _
  | a :: t, m, hn, hs => by
    obtain ⟨m1, m2, rfl⟩ := List.append_of_mem (hs a List.mem_cons_self)
    rw [List.nodup_cons] at hn
    have := sub_len t (m1 ++ m2) hn.2 (fun x hx => by
      have h := hs x (List.mem_cons_of_mem _ hx)
      simp only [List.mem_append, List.mem_cons] at h ⊢
      rcases h with h | rfl | h
      · exact .inl h
      · exact absurd hx hn.1
      · exact .inr h)
    simp only [List.length_cons, List.length_append] at this ⊢
    omega
theorem least_of {P : Nat → Prop} : ∀ n, P n → ∃ K, K ≤ n ∧ P K ∧ ∀ i, i < K → ¬ P i := by
  intro n
  induction n using Nat.strongRecOn with
  | _ n ih =>
    intro h
    by_cases hx : ∃ i, i < n ∧ P i
    · obtain ⟨i, hi, hp⟩ := hx
      obtain ⟨K, h1, h2, h3⟩ := ih i hi hp
      exact ⟨K, by omega, h2, h3⟩
    · exact ⟨n, Nat.le_refl _, h, fun i hi hp => hx ⟨i, hi, hp⟩⟩
theorem fresh_exists (ss : List ByteArray) (base : ByteArray) (hl : ss.length ≤ 1000000000) : ∃ K, K ≤ ss.length ∧ Tries ss base K := by
  have hx : ∃ n, n ≤ ss.length ∧ cand base n ∉ ss := by
    apply Classical.byContradiction
    intro hno
    have hall : ∀ n, n ≤ ss.length → cand base n ∈ ss := fun n hn => Classical.byContradiction fun h => hno ⟨n, hn, h⟩
    have := sub_len ((List.range (ss.length + 1)).map (cand base)) ss (by
      rw [List.Nodup, List.pairwise_map]
      refine List.Pairwise.imp_of_mem ?_ List.nodup_range
      intro a b ha hb hab h
      rw [List.mem_range] at ha hb
      exact hab (cand_inj base (by omega) (by omega) h)) (fun x hx => by
      obtain ⟨n, hn, rfl⟩ := List.mem_map.1 hx
      rw [List.mem_range] at hn
      exact hall n (by omega))
    simp at this
    omega
  obtain ⟨n, hn, hp⟩ := hx
  obtain ⟨K, h1, h2, h3⟩ := least_of (P := fun n => cand base n ∉ ss) n hp
  exact ⟨K, by omega, h2, fun i hi => Classical.byContradiction fun h => h3 i hi h⟩
end Go.Proofs.YtnepcledbjnolabDoor
