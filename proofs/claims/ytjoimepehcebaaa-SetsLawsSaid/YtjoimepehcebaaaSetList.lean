/- The contract of List: all texts of a set, rising. -/
import Derived.Test.YtjoimepehcebaaaSetNew
import Derived.Test.YtjoimepehcebaaaShelfIter
import Derived.Shelf.AbstractIn
namespace Go.Proofs.Ytjoimepehcebaaa
open Go.RowKit Go.Maps Go.Sort Go.Shelf

theorem sortsA (m : Nat) : AnyZ.SortsIn Try.prog Try.sortedA_ren Fence.wide m :=
  ⟨fun blk off cap ss W hH hblk hsz => callsIn_wide.2 (AnyM.slices_Sort_string Try.sortA blk off cap ss W hH hblk hsz),
   fun p cap W => callsIn_wide.2 (AnyM.slices_Sort_string_none Try.sortA p cap W)⟩
theorem flat_map (xs : List Tx) : xs.flatMap encS = xs.map encStr := by
  induction xs with
  | nil => rfl
  | cons x t ih => rw [List.flatMap_cons, ih]; rfl

/-- a new row of texts -/
def RowTo {α : Type} (enc : α → List Value) (xs : List α) (w : World) (e : Ending) (w' : World) : Prop := ∃ v, e = .returned v ∧ RowAt w'.heap.size w' enc v xs ∧ Below w.heap.size w w'
set_option maxHeartbeats 1000000 in
theorem list_any {w : World} {bs bm n : Nat} {xs : List Tx} (h : SetAt w bs bm n xs) (hl : n ≤ 1000000000) :
    Calls Try.prog 18 #[.pointer (some ⟨bs, 0, none⟩)] w (RowTo encS xs w) := by
  have hc := h.cell
  have hn := h.canon
  have hr := Lib.hid h.rises
  have hown := h.own
  have hmax : Maps.size (setD xs) ≤ maxLen := by rw [size_setD]; unfold maxLen; omega
  have hbytes : Maps.size (setD xs) * 16 ≤ 140737488355328 := by rw [size_setD]; omega
  refine (callsIn_wide (n := 6)).1 ?_
  have hbl := hown.lt
  have hseq : SeqGives Fence.wide 2 Try.prog 29 #[.pointer (some ⟨w.heap.size, 0, none⟩)] encStr (fun ss => ss.Perm (strKeys (setD xs))) (Maps.size (setD xs)) (w.alloc (.cells #[.map (some bm)] 41)) :=
    AnyZ.keys_gives (ρ := Try.keysA_ren) { Try.keysA with } Fence.wide _ trivial rfl (by omega) w.heap.size bm n (setD xs) _ (by simp) (by simp) (by
      obtain ⟨es, clock, hb, Ft, hs, hD⟩ := hown
      exact ⟨es, clock, (Below.heap_alloc _ _ bm hbl).trans hb, Ft, hs, hD⟩)
  have cK : ∀ mb W, CallsIn Fence.wide 5 Try.prog 25 #[.map mb] W fun e w' => e = .returned (.func (.func 29) #[] #[.pointer (some ⟨W.heap.size, 0, none⟩)]) ∧ w' = W.alloc (.cells #[.map mb] 41) := fun mb W => AnyZ.keys_in Try.keysA Fence.wide 5 trivial rfl mb W
  have cS := AnyZ.sorted_in Try.sortedA Fence.wide 5 trivial trivial trivial trivial rfl (by omega) (sortsA _) (enters_of Try.func28 (by kernel_rfl) rfl) 29 #[.pointer (some ⟨w.heap.size, 0, none⟩)] trivial (enters_of Try.func29 (by kernel_rfl) rfl) _ _ hmax hbytes _ hseq
  change CallsIn _ _ Try.prog 24 _ _ _ at cS
  have hfK : Fence.wide.fn 25 := trivial
  have hfS : Fence.wide.fn 24 := trivial
  have hfin : ∀ (ss : List Tx) (v : Value) (w' : World), ss.Perm (strKeys (setD xs)) → w'.ownsRow (w.alloc (.cells #[.map (some bm)] 41)).heap.size 9 1 v ss.length ((ss.mergeSort (fun x y => decide (x ≤ y))).map encStr) → RowAt w'.heap.size w' encS v xs := by
    intro ss v w' hp ho
    rw [keys_setD] at hp
    rw [sort_rises hr.out hp, ← flat_map] at ho
    exact RowAt.of_owns encS_len (by omega) ho
  clear hown h hseq hmax hbytes
  refine callsIn_of_wp Try.func18 rfl trivial ?_ rfl
  simp only [Try.ntmps18, List.size_toArray, List.length_cons, List.length_nil, Nat.reduceAdd, Nat.reduceSub, Array.replicate_succ, Array.replicate_zero, List.push_toArray, List.append_toArray, List.nil_append, List.cons_append]
  gi_wp2_with (first
    | (gi_at_call 25; refine (cK _ _).mono ?_; rintro e w' ⟨rfl, rfl⟩)
    | (gi_at_call 24; refine cS.mono ?_; rintro e w' ⟨v, ss, rfl, hS, hrow, hnil, hb⟩))
  go_ret
  exact ⟨v, rfl, hfin ss v _ hS hrow, ((Below.refl _ w).alloc (Nat.le_refl _) _).trans (hb.mono (by simp))⟩
theorem list_nil (w : World) : Calls Try.prog 18 #[.pointer none] w (fun e w' => e = .returned (.slice none 0 0) ∧ w = w') := by
  go_enter Try.func18, Try.ntmps18
  go_wp2
  go_ret
  exact ⟨rfl, rfl⟩
end Go.Proofs.Ytjoimepehcebaaa
