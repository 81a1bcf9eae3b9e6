/- The document's own Add. -/
import Derived.Test.YtjoimepehcebaaaSetRef
namespace Go.Proofs.Ytjoimepehcebaaa
open Go.RowKit Go.Maps

theorem infoStr : (Try.prog.info? 9).map (fun i => (i.zero, i.size, i.bytes)) = some (some (.string ⟨#[]⟩), 1, 16) := by kernel_rfl
theorem encS_one : ∀ x : Tx, ∀ u ∈ encS x, u.oneCell' = true := fun x u hu => by
  simp only [encS, List.mem_singleton] at hu
  subst hu; rfl
theorem sizeStr (w : World) : (sizeOf 9).run Try.prog w = .ok 1 w := by kernel_rfl
theorem freshS (x : Tx) (w : World) : RowAt (w.alloc (.cells #[.string ⟨x.toArray⟩] 9)).heap.size (w.alloc (.cells #[.string ⟨x.toArray⟩] 9)) encS (.slice (some ⟨w.heap.size, 0, none⟩) 1 1) [x] :=
  (RowAt.fresh (xs := [x]) #[.string ⟨x.toArray⟩] 9 1 (by simp) rfl).top
/-- the result of Add, of Remove -/
def RowBool (xs : List Tx) (b : Bool) (w : World) (e : Ending) (w' : World) : Prop := ∃ v, e = .returned (.tuple #[v, .bool b]) ∧ RowAt w'.heap.size w' encS v xs ∧ Below w.heap.size w w'
set_option maxHeartbeats 1600000 in
theorem refadd_any {w : World} {v : Value} {xs : List Tx} (h : RowAt w.heap.size w encS v xs) (hl : xs.length ≤ 1000000000) (x : Tx) :
    Calls Try.prog 10 #[v, .string ⟨x.toArray⟩] w (RowBool (insT x xs) (!there x xs) w) := by
  have HF := find_any h hl x
  have hpl := pos_le x xs
  cases ht : there x xs with
  | true =>
    rw [ht] at HF
    have hi : insT x xs = xs := by unfold insT; rw [if_pos ht]
    rw [hi]
    go_enter Try.func10, Try.ntmps10
    go_wp2_with fail
    refine HF.mono ?_; rintro e w1 ⟨rfl, hB⟩
    go_wp2
    go_ret2
    exact ⟨v, rfl, h.later hB, hB⟩
  | false =>
    rw [ht] at HF
    have hi : insT x xs = xs.take (pos x xs) ++ [x] ++ xs.drop (pos x xs) := by unfold insT; rw [ht]; rfl
    rw [hi]
    obtain ⟨v1, hr1, -, hs1, -⟩ := h.slice_run 22 9 Try.underlying22 sizeStr encS_len 0 (pos x xs) (Nat.zero_le _) hpl
    obtain ⟨v2, hr2, -, -, hs2⟩ := h.slice_run 22 9 Try.underlying22 sizeStr encS_len (pos x xs) xs.length hpl (Nat.le_refl _)
    have hs1 := hs1 rfl
    have hs2 := hs2 rfl
    rw [List.drop_zero] at hr1
    rw [List.take_length] at hr2
    obtain ⟨i0, hi0, hz0, hz1, hz2⟩ := info_parts infoStr
    have HL : Hid (xs.length = (xs.take (pos x xs)).length + (xs.drop (pos x xs)).length) := by show _ = _; rw [List.length_take, List.length_drop]; omega
    clear h hi ht
    generalize xs.take (pos x xs) = a1 at *
    generalize xs.drop (pos x xs) = a2 at *
    have hl1 : a1.length ≤ 1000000000 := by have := HL.out; omega
    have hl2 : a1.length + a2.length ≤ 1000000000 := by have := HL.out; omega
    clear HL
    generalize pos x xs = n at *
    go_enter Try.func10, Try.ntmps10
    go_wp2_with fail
    refine HF.mono ?_; rintro e w1 ⟨rfl, hB⟩
    have hr1 := hr1.below hB
    have hr2 := hr2.below hB
    go_wp2_with fail
    have D1 := below_drew w1.heap.size w1
    have D2 : ∀ o, Below w1.heap.size w1 (w1.drew.alloc o) := fun o => (below_drew w1.heap.size w1).alloc (Nat.le_refl _) o
    have hr1 := hr1.mono hB.size
    have hr2 := hr2.mono hB.size
    have hpos : 0 < 1 := by decide
    go_region_law (first
      | (refine step_in rfl ?_; refine wp_append_row _ _ 22 rfl w1.heap.size 9 i0 _ 16 Try.underlying22 hi0 hz0 hz1 hz2 rfl hpos encS_len encS_one [] (v := .slice none 0 0) rfl (World.ownsRow_nil _ _ _ _) (vx := v1) rfl (hr1.below ?_).top ?_ ?_ ?_ ?_; (first | exact D1 | exact D2 _); (simp; unfold maxLen; omega); (simp; omega); (simp); intro v3 w3 ho3 hg3; have hsz3 := hg3.size; have hB3 : Below w1.heap.size w1 w3 := ?_; rotate_left; (first | exact D1.trans (grown_none hg3) | exact (D2 _).trans ((grown_none hg3).mono (by simp))))
      | (refine step_in rfl ?_; refine wp_append_row _ _ 22 rfl w1.heap.size 9 i0 _ 16 Try.underlying22 hi0 hz0 hz1 hz2 rfl hpos encS_len encS_one ([] ++ a1) (v := v3) rfl ?_ (ys := [x]) rfl ?_ ?_ ?_ ?_ ?_; (first | exact ho3 | exact ho3.alloc _); (first | exact freshS x w3 | exact ((freshS x w1.drew).below (grown_none hg3)).top); (simp; unfold maxLen; omega); (simp; omega); (simp at hsz3 ⊢; omega); intro v4 w4 ho4 hg4; have hB4 : Below w1.heap.size w1 w4 := ?_; rotate_left; (first | exact hB3.trans (own_below hB3.size ho3 hg4) | exact (hB3.alloc hB3.size _).trans (own_below (hB3.alloc hB3.size _).size (ho3.alloc _) hg4)))
      | (refine step_in rfl ?_; refine wp_append_row _ _ 22 rfl w1.heap.size 9 i0 _ 16 Try.underlying22 hi0 hz0 hz1 hz2 rfl hpos encS_len encS_one ([] ++ a1 ++ [x]) (v := v4) rfl ho4 (vx := v2) rfl (hr2.below hB4).top ?_ ?_ hB4.size ?_; (simp; unfold maxLen; omega); (simp; omega); intro v5 w5 ho5 hg5; have hB5 : Below w1.heap.size w1 w5 := hB4.trans (own_below hB4.size ho4 hg5)))
    all_goals
      go_wp2
      go_ret2
      have hr := RowAt.of_owns encS_len (by omega) ho5
      exact ⟨v5, rfl, by simpa using hr, hB.trans (hB5.mono hB.size)⟩
set_option maxHeartbeats 1600000 in
theorem refremove_any {w : World} {v : Value} {xs : List Tx} (h : RowAt w.heap.size w encS v xs) (hl : xs.length ≤ 1000000000) (x : Tx) :
    Calls Try.prog 12 #[v, .string ⟨x.toArray⟩] w (RowBool (delT x xs) (there x xs) w) := by
  have HF := find_any h hl x
  have hpl := pos_le x xs
  cases ht : there x xs with
  | false =>
    rw [ht] at HF
    have hi : delT x xs = xs := by unfold delT; rw [ht]; rfl
    rw [hi]
    go_enter Try.func12, Try.ntmps12
    go_wp2_with fail
    refine HF.mono ?_; rintro e w1 ⟨rfl, hB⟩
    go_wp2
    go_ret2
    exact ⟨v, rfl, h.later hB, hB⟩
  | true =>
    rw [ht] at HF
    have hi : delT x xs = xs.take (pos x xs) ++ xs.drop (pos x xs + 1) := by unfold delT; rw [if_pos ht]
    have hp1 : pos x xs + 1 ≤ xs.length := by
      unfold there at ht
      rw [decide_eq_true_eq] at ht
      exact (List.getElem?_eq_some_iff.1 ht).1
    rw [hi]
    obtain ⟨v1, hr1, -, hs1, -⟩ := h.slice_run 22 9 Try.underlying22 sizeStr encS_len 0 (pos x xs) (Nat.zero_le _) hpl
    obtain ⟨v2, hr2, -, -, hs2⟩ := h.slice_run 22 9 Try.underlying22 sizeStr encS_len (pos x xs + 1) xs.length hp1 (Nat.le_refl _)
    have hs1 := hs1 rfl
    have hs2 := hs2 rfl
    rw [List.drop_zero] at hr1
    rw [List.take_length] at hr2
    obtain ⟨i0, hi0, hz0, hz1, hz2⟩ := info_parts infoStr
    have HL : Hid (xs.length - 1 = (xs.take (pos x xs)).length + (xs.drop (pos x xs + 1)).length) := by show _ - 1 = _; rw [List.length_take, List.length_drop]; omega
    have hs2 : ∀ w, (Instr.sliceAt 22 v (some (.int .i64 ((pos x xs : Int) + 1))) none none).run Try.prog w = .ok v2 w := hs2
    clear h hi ht
    generalize xs.take (pos x xs) = a1 at *
    generalize xs.drop (pos x xs + 1) = a2 at *
    have hl1 : a1.length ≤ 1000000000 := by have := HL.out; omega
    have hl2 : a1.length + a2.length ≤ 1000000000 := by have := HL.out; omega
    clear HL
    generalize pos x xs = n at *
    have hwr : IntKind.i64.wrap ((n : Int) + 1) = (n : Int) + 1 := IntWalk.i64_in _ (by omega)
    go_enter Try.func12, Try.ntmps12
    go_wp2_with fail
    refine HF.mono ?_; rintro e w1 ⟨rfl, hB⟩
    have hr1 := hr1.below hB
    have hr2 := hr2.below hB
    go_wp2_with fail
    have D1 := below_drew w1.heap.size w1
    have D2 : ∀ o, Below w1.heap.size w1 (w1.drew.alloc o) := fun o => (below_drew w1.heap.size w1).alloc (Nat.le_refl _) o
    have hr1 := hr1.mono hB.size
    have hr2 := hr2.mono hB.size
    have hpos : 0 < 1 := by decide
    go_region_law (first
      | (refine step_in rfl ?_; refine wp_append_row _ _ 22 rfl w1.heap.size 9 i0 _ 16 Try.underlying22 hi0 hz0 hz1 hz2 rfl hpos encS_len encS_one [] (v := .slice none 0 0) rfl (World.ownsRow_nil _ _ _ _) (vx := v1) rfl (hr1.below ?_).top ?_ ?_ ?_ ?_; (first | exact D1 | exact D2 _); (simp; unfold maxLen; omega); (simp; omega); (simp); intro v3 w3 ho3 hg3; have hsz3 := hg3.size; have hB3 : Below w1.heap.size w1 w3 := ?_; rotate_left; (first | exact D1.trans (grown_none hg3) | exact (D2 _).trans ((grown_none hg3).mono (by simp))))
      | (refine step_in rfl ?_; refine wp_append_row _ _ 22 rfl w1.heap.size 9 i0 _ 16 Try.underlying22 hi0 hz0 hz1 hz2 rfl hpos encS_len encS_one ([] ++ a1) (v := v3) rfl ho3 (vx := v2) rfl (hr2.below hB3).top ?_ ?_ hB3.size ?_; (simp; unfold maxLen; omega); (simp; omega); intro v5 w5 ho5 hg5; have hB5 : Below w1.heap.size w1 w5 := hB3.trans (own_below hB3.size ho3 hg5)))
    all_goals
      go_wp2
      go_ret2
      have hr := RowAt.of_owns encS_len (by omega) ho5
      exact ⟨v5, rfl, by simpa using hr, hB.trans (hB5.mono hB.size)⟩
end Go.Proofs.Ytjoimepehcebaaa
