/- The contract of sets.New. -/
import Derived.Test.YtjoimepehcebaaaSetOps
namespace Go.Proofs.Ytjoimepehcebaaa
open Go.RowKit Go.Maps

def encS (x : Tx) : List Value := [.string ⟨x.toArray⟩]
theorem encS_len (x : Tx) : (encS x).length = 1 := rfl
def bigs (xs : List Tx) : Prop := ∀ x ∈ xs, x.length ≤ maxLen

/-- a new set -/
def NewSet (n : Nat) (xs : List Tx) (w : World) (e : Ending) (w' : World) : Prop :=
  ∃ bs bm, e = .returned (.pointer (some ⟨bs, 0, none⟩)) ∧ SetAt w' bs bm n xs ∧ w.heap.size ≤ bs ∧ w.heap.size ≤ bm ∧ Below w.heap.size w w'

theorem setAt_made (w : World) : SetAt ((w.alloc (.map #[] 0)).alloc (.cells #[.map (some w.heap.size)] 43)) (w.heap.size + 1) w.heap.size 0 [] :=
  ⟨by rw [World.cell?_alloc_at _ _ _ _ (by simp)]; rfl, by simp, by omega, (World.ownsMap_made w _ _ _).alloc _, List.Pairwise.nil⟩
theorem row_string {B : Nat} {w : World} {p : Option Addr} {n cap : Nat} {xs : List Tx} (h : RowAt B w encS (.slice p n cap) xs) (i : Nat) (hi : i < xs.length) :
    ∃ g o, p = some ⟨g, o, none⟩ ∧ g < B ∧ g < w.heap.size ∧ w.cell? ⟨g, o + i, none⟩ = some (.string ⟨(xs[i]).toArray⟩) := RowAt.cell1 (f := fun x : Tx => .string ⟨x.toArray⟩) h i hi
theorem makeHint (w : World) (n : Int) : (Instr.makeMap 41 (some (.int .i64 n))).run Try.prog w = .ok (.map (some w.heap.size)) (w.alloc (.map #[] 0)) := by kernel_rfl
set_option maxHeartbeats 1600000 in
theorem new_any (w : World) (v : Value) (xs : List Tx) (h : RowAt w.heap.size w encS v xs) (hb : bigs xs) (hl : xs.length ≤ 1000000000) :
    Calls Try.prog 8 #[v] w (NewSet xs.length (ofT xs) w) := by
  have H := Lib.hid h
  have HB := Lib.hid hb
  obtain ⟨p, cap, rfl, -, -⟩ := h
  clear hb
  generalize hn : xs.length = len at *
  have HN := Lib.hid hn
  clear hn
  have hmm := fun w => makeHint w (len : Int)
  have hm := setAt_made w
  have hbel := ((Below.refl _ w).alloc (Nat.le_refl _) (.map #[] 0)).alloc (by simp) (.cells #[.map (some w.heap.size)] 43)
  have HM := Lib.hid hm
  have HBL := Lib.hid hbel
  clear hm hbel
  go_enter Try.func8, Try.ntmps8
  go_wp2_with fail
  go_loopw [13] (fun i wr => ∃ k : Nat, k ≤ len ∧ i = .int .i64 k ∧ SetAt wr (w.heap.size + 1) w.heap.size k (ofT (xs.take k)) ∧ Below w.heap.size w wr) (fun i _ => len - (intOf i).toNat)
  case atStart => exact ⟨0, Nat.zero_le _, rfl, HM.out, HBL.out⟩
  case round =>
    obtain ⟨k, hk, rfl, hs, hB⟩ := hrel
    have HS := Lib.hid hs
    by_cases hlt : k < len
    · have hlx : k < xs.length := by rw [HN.out]; exact hlt
      obtain ⟨g, o, rfl, hg, -, hc⟩ := row_string (H.out) k hlx
      have hc := (hB.cell (p := ⟨g, o + k, none⟩) hg).trans hc
      have HA := add_any hs xs[k] (HB.out _ (List.getElem_mem hlx)) (by unfold maxLen; omega)
      have e1 := ofT_take xs k hlx
      rw [← e1] at HA
      clear hs e1
      generalize there xs[k] (ofT (xs.take k)) = b at *
      generalize xs[k] = x at *
      go_wp2_with fail
      refine HA.mono ?_; rintro e w1 ⟨rfl, h1, g1⟩
      have hB1 := hB.trans (below_of_grown g1 (Nat.le_refl _) hB.size)
      clear HA
      go_wp2
      go_roundw
      case rel => exact ⟨k + 1, by omega, by go_num, h1, hB1⟩
      case measure => simp [intOf]; omega
    · obtain rfl : k = len := by omega
      clear hs
      go_wp2
      go_ret
      have hs := HS.out
      rw [List.take_of_length_le (by rw [HN.out]; exact Nat.le_refl _)] at hs
      exact ⟨_, _, rfl, hs, by omega, Nat.le_refl _, hB⟩
theorem new_none (w : World) : Calls Try.prog 8 #[.slice none 0 0] w (NewSet 0 [] w) :=
  new_any w (.slice none 0 0) [] (RowAt.nil _ _) (fun _ h => by cases h) (by simp)
end Go.Proofs.Ytjoimepehcebaaa
