/- The document's own Of and Minus; Texts and Has of the layers ahead. -/
import Derived.Test.YtjoimepehcebaaaSetRef2
namespace Go.Proofs.Ytjoimepehcebaaa
open Go.RowKit Go.Maps

set_option maxHeartbeats 1600000 in
theorem refof_any {w : World} {v : Value} {xs : List Tx} (h : RowAt w.heap.size w encS v xs) (hl : xs.length ≤ 1000000000) :
    Calls Try.prog 9 #[v] w (RowTo encS (ofT xs) w) := by
  have H := Lib.hid h
  obtain ⟨p, cap, rfl, -, -⟩ := h
  generalize hn : xs.length = len at *
  have HN := Lib.hid hn
  clear hn
  go_enter Try.func9, Try.ntmps9
  go_wp2_with fail
  go_loopw [3, 4] (fun o i wr => ∃ k : Nat, k ≤ len ∧ i = .int .i64 k ∧ RowAt wr.heap.size wr encS o (ofT (xs.take k)) ∧ Below w.heap.size w wr) (fun _ i _ => len - (intOf i).toNat)
  case atStart => exact ⟨0, Nat.zero_le _, rfl, RowAt.nil _ _, Below.refl _ _⟩
  case round =>
    obtain ⟨k, hk, rfl, hs, hB⟩ := hrel
    have HS := Lib.hid hs
    by_cases hlt : k < len
    · have hlx : k < xs.length := by rw [HN.out]; exact hlt
      obtain ⟨g, o, rfl, hg, -, hc⟩ := row_string (H.out) k hlx
      have hc := (hB.cell (p := ⟨g, o + k, none⟩) hg).trans hc
      have HA := refadd_any hs (by have := ofT_len (xs.take k); rw [List.length_take] at this; omega) xs[k]
      have e1 := ofT_take xs k hlx
      rw [← e1] at HA
      clear hs e1
      generalize there xs[k] (ofT (xs.take k)) = b at *
      generalize xs[k] = x at *
      go_wp2_with fail
      refine HA.mono ?_; rintro e w1 ⟨v1, rfl, h1, hB1⟩
      have hB1 := hB.trans (hB1.mono hB.size)
      clear HA
      go_wp2
      go_roundw
      case rel => exact ⟨k + 1, by omega, by go_num, h1, hB1⟩
      case measure => simp [intOf]; omega
    · obtain rfl : k = len := by omega
      clear hs
      go_wp2
      go_ret
      have hs := HS.out
      rw [List.take_of_length_le (by rw [HN.out]; exact Nat.le_refl _)] at hs
      exact ⟨_, rfl, hs, hB⟩

theorem minusT_take (xs ys : List Tx) (k : Nat) (h : k < xs.length) : minusT (xs.take (k + 1)) ys = minusT (xs.take k) ys ++ (if there xs[k] ys then [] else [xs[k]]) := by
  rw [List.take_succ_eq_append_getElem h]
  unfold minusT
  rw [List.filter_append]
  cases ht : there xs[k] ys <;> simp [ht]
set_option maxHeartbeats 1600000 in
theorem refminus_any {w : World} {v u : Value} {xs ys : List Tx} (h : RowAt w.heap.size w encS v xs) (hu : RowAt w.heap.size w encS u ys) (hl : xs.length ≤ 1000000000) (hl2 : ys.length ≤ 1000000000) :
    Calls Try.prog 21 #[v, u] w (RowTo encS (minusT xs ys) w) := by
  have H := Lib.hid h
  obtain ⟨p, cap, rfl, -, -⟩ := h
  generalize hn : xs.length = len at *
  have HN := Lib.hid hn
  have HU := Lib.hid hu
  clear hn hu
  obtain ⟨i0, hi0, hz0, hz1, hz2⟩ := info_parts infoStr
  have hpos : 0 < 1 := by decide
  go_enter Try.func21, Try.ntmps21
  go_wp2_with fail
  go_loopw [5, 6] (fun o i wr => ∃ k : Nat, k ≤ len ∧ i = .int .i64 k ∧ wr.ownsRow w.heap.size 9 1 o (minusT (xs.take k) ys).length ((minusT (xs.take k) ys).flatMap encS) ∧ Below w.heap.size w wr) (fun _ i _ => len - (intOf i).toNat)
  case atStart => exact ⟨0, Nat.zero_le _, rfl, World.ownsRow_nil _ _ _ _, Below.refl _ _⟩
  case round =>
    obtain ⟨k, hk, rfl, hs, hB⟩ := hrel
    have HS := Lib.hid hs
    by_cases hlt : k < len
    · have hlx : k < xs.length := by rw [HN.out]; exact hlt
      have hml : (minusT (xs.take k) ys).length ≤ k := by
        have := List.length_filter_le (fun x => !there x ys) (xs.take k)
        rw [List.length_take] at this
        exact Nat.le_trans this (Nat.min_le_left _ _)
      obtain ⟨g, o, rfl, hg, -, hc⟩ := row_string (H.out) k hlx
      have HC : Hid (∀ wx, Below w.heap.size w wx → wx.cell? ⟨g, o + k, none⟩ = some (.string ⟨(xs[k]).toArray⟩)) := fun wx hx => (hx.cell (p := ⟨g, o + k, none⟩) hg).trans hc
      have hc := HC.out wr hB
      have HF := find_any ((HU.out).below hB) hl2 xs[k]
      have e1 := minusT_take xs ys k hlx
      cases ht : there xs[k] ys with
      | true =>
        rw [ht, if_pos rfl, List.append_nil] at e1
        rw [ht] at HF
        rw [← e1] at hs
        have hs := Lib.hid hs
        rename_i hs0
        clear hs0 e1 ht hml
        generalize pos xs[k] ys = n at *
        generalize xs[k] = x at *
        go_wp2_with fail
        refine HF.mono ?_; rintro e w1 ⟨rfl, hB1⟩
        clear HF
        go_wp2
        go_roundw
        case rel => exact ⟨k + 1, by omega, by go_num, own_later hs.out hB1, hB.trans (hB1.mono hB.size)⟩
        case measure => simp [intOf]; omega
      | false =>
        rw [ht] at e1 HF
        rw [if_neg (by simp)] at e1
        clear ht
        generalize pos xs[k] ys = n at *
        generalize minusT (xs.take k) ys = ms at *
        generalize xs[k] = x at *
        have HE := Lib.hid e1
        clear e1
        go_wp2_with fail
        refine HF.mono ?_; rintro e w1 ⟨rfl, hB1⟩
        clear HF hc
        have hB2 := hB.trans (hB1.mono hB.size)
        have hc := HC.out w1 hB2
        have hs1 := own_later hs hB1
        clear hs
        go_wp2_with (at_builtin; refine wpList_append_row rfl _ _ 22 rfl w.heap.size 9 i0 _ 16 Try.underlying22 hi0 hz0 hz1 hz2 rfl hpos encS_len encS_one ms rfl (hs1.alloc _) (ys := [x]) rfl (freshS x _) ?_ ?_ ?_ ?_; (simp; unfold maxLen; omega); (simp; omega); (have := hB2.size; simp; omega); intro v3 w3 ho3 hg3)
        have hB3 : Below w.heap.size w w3 := (hB2.alloc hB2.size _).trans (own_below (hB2.alloc hB2.size _).size (hs1.alloc _) hg3)
        go_roundw
        case rel => exact ⟨k + 1, by omega, by go_num, by rw [HE.out]; exact ho3, hB3⟩
        case measure => simp [intOf]; omega
    · obtain rfl : k = len := by omega
      clear hs
      go_wp2
      go_ret
      have hs := HS.out
      rw [List.take_of_length_le (by rw [HN.out]; exact Nat.le_refl _)] at hs
      exact ⟨_, rfl, RowAt.of_owns encS_len (by omega) hs, hB⟩
end Go.Proofs.Ytjoimepehcebaaa
