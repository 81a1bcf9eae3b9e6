/- The contract of lexer.Text. -/
import Derived.Test.YtbcgaficnlfilaaLexText
import Derived.Shelf.Strings.OnBuilder
import Derived.OwnWalk
namespace Go.Proofs.Ytbcgaficnlfilaa
open Go.RowKit

theorem join_extra : Builder.Extra Try.prog Try.lays156_ren where
  sizeBuilder := by kernel_rfl
  liesBuilder := by kernel_rfl
  t5 := Try.underlying5
  a5 := Try.isAgg5
  z5 := Try.sizeOf5
  v5 := Try.zeroValue5
  infoByte := by kernel_rfl
  cellsByte := by kernel_rfl
  sizeByte := by kernel_rfl
  neB5 := by decide
theorem info_str : (Try.prog.info? 9).map (fun i => (i.zero, i.size, i.bytes)) = some (some (.string ⟨#[]⟩), 1, 16) := by kernel_rfl
def strV (t : Tk) : Value := .string ⟨t.text.toArray⟩
theorem lens_le (M : Nat) : ∀ l : List Tk, (∀ t ∈ l, t.text.length ≤ M) → (joinT l).length ≤ l.length * (M + 1)
  | [], _ => by simp [joinT, Lib.join]
  | x :: r, h => by
    unfold joinT
    rw [List.map_cons, Lib.join_cons, List.length_append]
    have h1 : ∀ q : List Tk, (∀ t ∈ q, t.text.length ≤ M) → (Lib.joinTail [32] (q.map (·.text))).length ≤ q.length * (M + 1) := by
      intro q
      induction q with
      | nil => intro _; simp [Lib.joinTail]
      | cons y q ih =>
        intro hq
        have h2 := ih (fun t ht => hq t (List.mem_cons_of_mem _ ht))
        have h3 := hq y List.mem_cons_self
        simp only [Lib.joinTail, List.map_cons, List.flatten_cons, List.length_append, List.length_cons] at h2 ⊢
        rw [Nat.add_mul]; simp at h2 ⊢; omega
    have h4 := h1 r (fun t ht => h t (List.mem_cons_of_mem _ ht))
    have h5 := h x List.mem_cons_self
    rw [List.length_cons, Nat.add_mul]; omega

theorem join_row (base : Nat) (v : Value) (ys : List Tk) (w : World) (h : w.ownsRow base 9 1 v ys.length (ys.map strV)) (hl : (joinT ys).length ≤ 1000000000) (hn : ys.length ≤ 1000000000) :
    Calls Try.prog 19 #[v, .string ⟨#[32]⟩] w fun e w' => e = .returned (.string ⟨(joinT ys).toArray⟩) ∧ Below w.heap.size w w' := by
  have hmap : (ys.map (fun t => (⟨t.text.toArray⟩ : ByteArray))).map (·.data.toList) = ys.map (·.text) := by rw [List.map_map]; rfl
  rcases h.2 with ⟨rfl, hn0⟩ | ⟨g, cap, cur, rfl, hb, hg, hle, hm, hcs, htake⟩
  · have hy : ys = [] := List.length_eq_zero_iff.1 hn0
    subst hy
    exact (Any.strings_Join_none Try.lays156 join_extra none 0 ⟨#[32]⟩ w).mono fun e w' ⟨he, hw⟩ => ⟨he, hw ▸ Below.refl _ _⟩
  · have hgl : g < w.heap.size := by
      rcases Nat.lt_or_ge g w.heap.size with h' | h'
      · exact h'
      · simp [Array.getElem?_eq_none h'] at hg
    have hj := Any.strings_Join Try.lays156 join_extra g 0 cap (ys.map (fun t => (⟨t.text.toArray⟩ : ByteArray))) ⟨#[32]⟩ w (fun j x hx => by
      rw [Nat.zero_add]
      have h1 : w.cell? ⟨g, j, none⟩ = cur[j]? := by simp [World.cell?, hg]
      have hjl : j < ys.length := by
        have := (List.getElem?_eq_some_iff.1 hx).1
        simpa using this
      have h2 : cur[j]? = (ys.map strV)[j]? := by rw [← htake, List.getElem?_take_of_lt (by omega), Array.getElem?_toList]
      rw [h1, h2, List.getElem?_map]
      rw [List.getElem?_map] at hx
      cases hy : ys[j]? with
      | none => rw [hy] at hx; cases hx
      | some t => rw [hy] at hx; injection hx with hx; rw [← hx]; rfl) hgl (by simp; omega) (by simpa using hle) (by rw [hmap]; exact Nat.le_trans hl (by decide))
    rw [hmap, List.length_map] at hj
    exact hj

set_option maxHeartbeats 4000000 in
theorem text_row (g o c n M : Nat) (xs : List Tk) (w : World) (hn : n = xs.length) (hg : g < w.heap.size) (hM : n * (M + 1) ≤ 1000000000) (h1 : ∀ j (hj : j < xs.length), TkAt w g o j xs[j]) (hs : ∀ j (hj : j < xs.length), xs[j].text.length ≤ M) :
    Calls Try.prog 12 #[.slice (some ⟨g, o, none⟩) n c] w fun e w' => e = .returned (.string ⟨(joinT (aheadL xs)).toArray⟩) ∧ Below w.heap.size w w' := by
  obtain ⟨i0, hi, hz0, hz1, hz2⟩ := info_parts info_str
  have HN : Hid (n = xs.length) := hn
  have H1 : Hid (∀ j (hj : j < xs.length), TkAt w g o j xs[j]) := h1
  have HS : Hid (∀ j (hj : j < xs.length), xs[j].text.length ≤ M) := hs
  have hn9 : n ≤ 1000000000 := Nat.le_trans (Nat.le_mul_of_pos_right n (by omega)) hM
  clear hn h1 hs
  go_enter Try.func12, Try.ntmps12
  go_wp2_with fail
  go_loopw [3, 8] (fun v i wr => ∃ (k : Nat), k ≤ n ∧ i = .int .i64 (k : Int) ∧ wr.ownsRow w.heap.size 9 1 v (xs.take k).length ((xs.take k).map strV) ∧ Below w.heap.size w wr ∧ Hid ((xs.take k).all (fun t => !decide (t.kind = 0)) = true)) (fun _ i _ => n - (intOf i).toNat)
  case atStart => exact ⟨0, Nat.zero_le _, rfl, World.ownsRow_nil _ _ _ _, Below.refl _ _, (by rfl : (xs.take 0).all _ = true)⟩
  case round =>
    obtain ⟨k, hk, rfl, hown, hnx, HA⟩ := hrel
    by_cases hlt : k < n
    · have hlt' : (k : Int) < n := by omega
      have hkl : k < xs.length := by rw [← HN.out]; exact hlt
      have hlen : (xs.take k).length = k := by rw [List.length_take]; omega
      obtain ⟨a0, a1, a2, a3⟩ := (H1.out k hkl).below hnx hg
      by_cases hz : xs[k].kind = 0
      · have hzb : (xs[k].kind == 0) = true := by rw [hz]; rfl
        have hw : aheadL xs = xs.take k := whileT_end _ k HA.out (fun h => by simp [hz])
        have HW : Hid (aheadL xs = xs.take k) := hw
        have hjl := lens_le M (xs.take k) (fun t ht => by
          obtain ⟨j, hj, rfl⟩ := List.mem_iff_getElem.1 ht
          rw [List.getElem_take]; exact HS.out j _)
        have hmk : (xs.take k).length * (M + 1) ≤ n * (M + 1) := Nat.mul_le_mul_right _ (by rw [List.length_take]; omega)
        have HJ := fun w' (h : wr.grownBy w' none) => join_row w.heap.size u3 (xs.take k) w' (hown.kept h (Classical.em _)) (by omega) (by omega)
        rw [← hw] at HJ
        clear hw hjl hmk hz hlen
        obtain ⟨r, hr⟩ : ∃ r : ByteArray, r = ⟨(joinT (aheadL xs)).toArray⟩ := ⟨_, rfl⟩
        have HR9 : Hid (r = ⟨(joinT (aheadL xs)).toArray⟩) := hr
        rw [← hr] at HJ
        clear hr
        generalize xs[k].kind = x0 at *
        generalize xs[k].pos = x1 at *
        generalize xs[k].num = x2 at *
        generalize (⟨xs[k].text.toArray⟩ : ByteArray) = t at *
        go_wp2_with fail
        refine (HJ _ (World.grownBy_alloc _ _ _)).mono ?_; rintro e w2 ⟨rfl, hB2⟩
        go_wp2
        go_ret
        exact ⟨by rw [← HR9.out]; rfl, (hnx.alloc hnx.size _).trans (hB2.mono (hnx.alloc hnx.size _).size)⟩
      · have hzb : (xs[k].kind == 0) = false := by rw [beq_eq_false_iff_ne]; exact hz
        have htk : xs.take (k + 1) = xs.take k ++ [xs[k]] := List.take_succ_eq_append_getElem hkl
        have HA2 : Hid ((xs.take (k + 1)).all (fun t => !decide (t.kind = 0)) = true) := by
          show _ = _
          rw [htk, List.all_append, HA.out]; simp [hz]
        have HO : Hid ((xs.take (k + 1)).map strV = (xs.take k).map strV ++ [.string ⟨xs[k].text.toArray⟩] ∧ (xs.take (k + 1)).length = k + 1) := by
          refine ⟨?_, ?_⟩
          · rw [htk, List.map_append]; rfl
          · rw [List.length_take]; omega
        rw [hlen] at hown
        have hfar := far_block hown
        clear hz htk hlen
        generalize xs[k].kind = x0 at *
        generalize xs[k].pos = x1 at *
        generalize xs[k].num = x2 at *
        generalize (⟨xs[k].text.toArray⟩ : ByteArray) = t at *
        clear hkl
        go_wp2_with (first
          | (at_builtin; refine wpList_append_own _ rfl _ _ 40 rfl w.heap.size 9 i0 (.string ⟨#[]⟩) 1 16 Try.underlying40 hi hz0 hz1 hz2 rfl (by decide) _ _ _ rfl ((hown.alloc _).alloc _) ⟨wr.heap.size + 1, 0, none⟩ 1 1 [.string t] rfl rfl (cells_new (by simp)) (by intro u hu; simp at hu; subst hu; rfl) (by unfold maxLen; omega) (by omega) (by have := hnx.size; simp; omega) ?_; intro v' w3 hown3 hgrow3 hnil3; have hg3 := (show World.grownBy _ w3 u3.ownBlock from hgrow3))
          | fail)
        have hB3 : Below w.heap.size w w3 := ((hnx.alloc hnx.size _).alloc (by have := hnx.size; simp; omega) _).grown hg3 (by have := hnx.size; simp; omega) (fun j hj => (hown.lt j hj).1)
        clear hgrow3 hnil3
        go_roundw
        case rel => exact ⟨k + 1, by omega, by go_num, by rw [HO.out.1, HO.out.2]; exact hown3, hB3, HA2⟩
        case measure => simp [intOf]; omega
    · obtain rfl : k = n := by omega
      have hw : aheadL xs = xs.take k := whileT_end _ k HA.out (fun h => by rw [HN.out] at h; omega)
      have HW : Hid (aheadL xs = xs.take k) := hw
      have hjl := lens_le M (xs.take k) (fun t ht => by
        obtain ⟨j, hj, rfl⟩ := List.mem_iff_getElem.1 ht
        rw [List.getElem_take]; exact HS.out j _)
      have hmk : (xs.take k).length * (M + 1) ≤ k * (M + 1) := Nat.mul_le_mul_right _ (by rw [List.length_take]; omega)
      have HJ := join_row w.heap.size u3 (xs.take k) wr hown (by omega) (by rw [List.length_take]; omega)
      rw [← hw] at HJ
      clear hw hjl hmk
      obtain ⟨r, hr⟩ : ∃ r : ByteArray, r = ⟨(joinT (aheadL xs)).toArray⟩ := ⟨_, rfl⟩
      have HR9 : Hid (r = ⟨(joinT (aheadL xs)).toArray⟩) := hr
      rw [← hr] at HJ
      clear hr
      go_wp2_with fail
      refine HJ.mono ?_; rintro e w2 ⟨rfl, hB2⟩
      go_wp2
      go_ret
      exact ⟨by rw [← HR9.out]; rfl, hnx.trans (hB2.mono hnx.size)⟩
end Go.Proofs.Ytbcgaficnlfilaa
