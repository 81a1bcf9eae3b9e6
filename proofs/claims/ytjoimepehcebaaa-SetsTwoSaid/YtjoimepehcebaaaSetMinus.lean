/- The contracts of Union of none, of Minus, of Within. -/
import Derived.Test.YtjoimepehcebaaaSetTwo
namespace Go.Proofs.Ytjoimepehcebaaa
open Go.RowKit Go.Maps

theorem ptrEqNil (w : World) : (binOp .neq 25 (.pointer none) (.pointer none)).run Try.prog w = .ok (.bool false) w := by kernel_rfl
set_option maxHeartbeats 4000000 in
theorem union_none {w : World} {bt bn m : Nat} {ys : List Tx} (ht : SetAt w bt bn m ys) (hl : ys.length ≤ 1000000000) :
    Calls Try.prog 19 #[.pointer none, .pointer (some ⟨bt, 0, none⟩)] w (NewSet ys.length ys w) := by
  have i0 := fun w => indexTwo0 (.pointer none) (.pointer (some ⟨bt, 0, none⟩)) w
  have i1 := fun w => indexTwo1 (.pointer none) (.pointer (some ⟨bt, 0, none⟩)) w
  go_enter Try.func19, Try.ntmps19
  go_wp2_with fail
  refine (new_none w).mono ?_; rintro e w1 ⟨bu, bo, rfl, hu, hbu, hbo, hB⟩
  have ht1 := ht.below hB
  have hc1 := hu.cell
  have hc2 := ht1.cell
  have hnt := ht.own.lt
  have HC := copy_any bo bn 0 m [] ys w1.drew hu.own.drew ht1.own.drew List.Pairwise.nil (by omega) (by omega)
  go_wp2_with fail
  refine wp_loop_rounds 3 ?_
  rw [rounds_succ]
  go_wp2_with fail
  rw [rounds_succ]
  go_wp2_with fail
  go_still_tail 8, (by kernel_rfl)
  go_wp2_with fail
  refine HC.mono ?_; rintro e w2 ⟨rfl, ho2, hg2⟩
  have hg2 := undrew hg2
  rw [union_nil ys ht.rises] at ho2
  have hu2 := hu.copied ho2 ht.rises hg2
  clear HC
  go_wp2_with fail
  rw [rounds_succ]
  go_wp2
  go_ret
  refine ⟨bu, bo, rfl, hu2.more (by omega), hbu, hbo, ?_⟩
  exact hB.trans (below_of_grown hg2 hbo hB.size)

/-- those of xs of which q does not hold, that have come -/
def Left (q : Tx → Bool) (zs xs : List Tx) (left : Lit → Bool) : Prop := Rises zs ∧ ∀ x, x ∈ zs ↔ (x ∈ xs ∧ left (.string x) = false) ∧ q x = false
theorem left_start (q : Tx → Bool) (xs : List Tx) : Left q [] xs (Maps.has (setD xs)) := ⟨List.Pairwise.nil, fun x => by rw [has_setD]; simp⟩
theorem same_text (x y : Tx) : ((Lit.string y).sameKey (.string x)) = decide (y = x) := by
  rw [Bool.eq_iff_iff, WideAt.sameKey_iff (by trivial), decide_eq_true_eq]
  exact ⟨fun e => by injection e, fun e => by rw [e]⟩
theorem left_in {q : Tx → Bool} {zs xs : List Tx} {left : Lit → Bool} (h : Left q zs xs left) (x : Tx) (hx : x ∈ xs) (hq : q x = false) : Left q (insT x zs) xs (fun z => left z && !z.sameKey (.string x)) := by
  refine ⟨rises_insT h.1, fun y => ?_⟩
  rw [mem_insT h.1, h.2]
  dsimp only
  rw [same_text]
  by_cases e : y = x
  · subst e; simp [hx, hq]
  · simp [e]
theorem left_out {q : Tx → Bool} {zs xs : List Tx} {left : Lit → Bool} (h : Left q zs xs left) (x : Tx) (hq : q x = true) : Left q zs xs (fun z => left z && !z.sameKey (.string x)) := by
  refine ⟨h.1, fun y => ?_⟩
  rw [h.2]
  dsimp only
  rw [same_text]
  by_cases e : y = x
  · subst e; simp [hq]
  · simp [e]
theorem left_end {q : Tx → Bool} {zs xs : List Tx} {left : Lit → Bool} (h : Left q zs xs left) (hx : Rises xs) (hl : ∀ kl, left kl = false) : zs = xs.filter fun x => !q x :=
  rises_ext h.1 (hx.filter _) fun x => by rw [h.2, List.mem_filter, hl]; simp

set_option maxHeartbeats 4000000 in
set_option maxRecDepth 100000 in
theorem minus_any {w : World} {bs bm n : Nat} {xs : List Tx} (tv : Value) (q : Tx → Bool) (hs : SetAt w bs bm n xs) (hl : n ≤ 1000000000)
    (hq : ∀ x W, x.length ≤ maxLen → Below w.heap.size w W → Calls Try.prog 14 #[tv, .string ⟨x.toArray⟩] W (SaysW (q x) W)) :
    Calls Try.prog 20 #[.pointer (some ⟨bs, 0, none⟩), tv] w (NewSet n (xs.filter fun x => !q x) w) := by
  have HX := Lib.hid (size_setD xs)
  have HR := Lib.hid hs.rises
  have HQ := Lib.hid hq
  have hxn := hs.canon
  clear hq
  go_enter Try.func20, Try.ntmps20
  go_wp2_with fail
  refine (new_none w).mono ?_; rintro e w1 ⟨bu, bo, rfl, hu, hbu, hbo, hB⟩
  have hs1 := hs.below hB
  have hc1 := hs1.cell
  have hown := hs1.own
  have hbm := hs.own.lt
  have hbo1 := hu.own.lt
  have hbu1 := hu.lt
  have hbs1 := hs1.own.lt
  clear hs
  go_wp2_with (at_range; refine wpList_range_own _ rfl _ 41 rfl 9 46 keyedS Try.underlying41 unitElem bm n _ rfl hown ?_; intro w0 hrg0 hg0 hs0)
  go_frame
  have hB0 : Below w.heap.size w w0 := hB.trans ⟨hg0.os, hg0.tape, hg0.output, hg0.size, fun k hk => hg0.block k (Nat.lt_of_lt_of_le hk hB.size) (by simp)⟩
  have hu0 := hu.kept hg0 (by simp) (by simp)
  have hl0 := left_start q xs
  have HL0 := Lib.hid hl0
  clear hl0 hg0 hu hown hc1
  go_loopw [16] (fun _ wr => ∃ (left : Lit → Bool) (cnt : Nat) (zs : List Tx), wr.ranges Try.prog 9 unitElem bm w1.heap.size n (setD xs) left cnt ∧ cnt ≤ xs.length ∧
      SetAt wr bu bo (xs.length - cnt) zs ∧ Hid (Left q zs xs left) ∧ Below w.heap.size w wr)
    (fun _ wr => wr.rangeLeft bm w1.heap.size)
  case atStart =>
    exact ⟨_, _, [], hrg0, by rw [HX.out]; exact Nat.le_refl _, hu0.more (by omega), HL0, hB0⟩
  case round =>
    obtain ⟨left, cnt, zs, hrg, hcs, hu, hM, hB⟩ := hrel
    clear hu0 hrg0 hB0 HL0
    go_wp2_with (at_next; refine wpList_next_ranges _ rfl _ rfl 9 keyedS unitElem (fun x : Tx => Value.string ⟨x.toArray⟩) (fun _ : Unit => Value.agg #[]) (fun _ _ h => keyS_text h) (fun v y h => ⟨(), (unitElem_inv h).1⟩) bm w1.heap.size n _ _ _ rfl hrg ?_ ?_)
    · intro hc0 hl0
      have hE : Hid (zs = xs.filter fun x => !q x) := left_end hM.out HR.out hl0
      clear hl0
      go_wp2
      go_ret
      have e := hE.out
      subst e
      exact ⟨bu, bo, rfl, hu.more (by omega), hbu, hbo, hB⟩
    · intro x kl yd yp w2 cnt1 hkey hlx hv hat hrg1 hlt hg1 hs1 hen
      obtain ⟨rfl, hxl⟩ := keyS_inv hkey
      have e0 : (⟨x.toArray⟩ : ByteArray).data.toList = x := by simp
      rw [e0] at hkey hlx hat hrg1
      clear e0
      have hxl : x.length ≤ maxLen := by have : x.toArray.size ≤ maxLen := hxl; simpa using this
      have hxm : x ∈ xs := by
        have := has_true_of_atKey hat
        rw [has_setD, decide_eq_true_eq] at this
        exact this
      have hB2 : Below w.heap.size w w2 := hB.trans (below_of_grown hg1 (by omega) hB.size)
      have hu2 := hu.kept hg1 (fun e => by have := Option.some.inj e; omega) (fun e => by have := Option.some.inj e; omega)
      have HH := HQ.out x w2 hxl hB2
      cases hqx : q x with
      | true =>
        have hM2 := Lib.hid (left_out hM.out x hqx)
        rw [hqx] at HH
        clear hqx hxm hat hlx hkey hv
        go_wp2_with fail
        refine HH.mono ?_; rintro e w3 ⟨rfl, hB3⟩
        clear HH
        go_wp2
        have hg3 := grown_of_below hB3 none
        have hrg3 := hrg1.kept hg3 (by simp) (by simp)
        go_roundw
        case rel => exact ⟨_, cnt1, _, hrg3, by omega, (hu2.below hB3).more (by omega), hM2, hB2.trans (hB3.mono hB2.size)⟩
        case measure => rw [hrg3.left_eq, hrg.left_eq]; exact hlt
      | false =>
        have hM2 := Lib.hid (left_in hM.out x hxm hqx)
        rw [hqx] at HH
        clear hqx hxm hat hlx hkey hv
        go_wp2_with fail
        refine HH.mono ?_; rintro e w3 ⟨rfl, hB3⟩
        clear HH
        have hu3 := hu2.below hB3
        have hg3 := grown_of_below hB3 none
        have hrg3 := hrg1.kept hg3 (by simp) (by simp)
        have HA := add_any hu3 x hxl (by unfold maxLen; omega)
        generalize there x zs = b at HA
        go_wp2_with fail
        refine HA.mono ?_; rintro e w4 ⟨rfl, hu4, hg4⟩
        clear HA
        go_wp2
        have hrg4 := hrg3.kept hg4 (fun e => by have := Option.some.inj e; omega) (fun e => by have := Option.some.inj e; omega)
        have hB4 := hB2.trans (hB3.mono hB2.size)
        go_roundw
        case rel => exact ⟨_, cnt1, _, hrg4, by omega, hu4.more (by omega), hM2, hB4.trans (below_of_grown hg4 hbo hB4.size)⟩
        case measure => rw [hrg4.left_eq, hrg.left_eq]; exact hlt
theorem minus_none (w : World) (tv : Value) : Calls Try.prog 20 #[.pointer none, tv] w (NewSet 0 [] w) := by
  go_enter Try.func20, Try.ntmps20
  go_wp2_with fail
  refine (new_none w).mono ?_; rintro e w1 ⟨bu, bo, rfl, hu, hbu, hbo, hB⟩
  go_wp2
  go_ret
  exact ⟨bu, bo, rfl, hu, hbu, hbo, hB⟩
theorem minus_some {w : World} {bs bm n bt bn m : Nat} {xs ys : List Tx} (hs : SetAt w bs bm n xs) (ht : SetAt w bt bn m ys) (hl : n ≤ 1000000000) :
    Calls Try.prog 20 #[.pointer (some ⟨bs, 0, none⟩), .pointer (some ⟨bt, 0, none⟩)] w (NewSet n (minusT xs ys) w) :=
  minus_any _ (fun x => there x ys) hs hl (fun x _ hx hB => has_any (ht.below hB) x hx)
theorem minus_nil {w : World} {bs bm n : Nat} {xs : List Tx} (hs : SetAt w bs bm n xs) (hl : n ≤ 1000000000) :
    Calls Try.prog 20 #[.pointer (some ⟨bs, 0, none⟩), .pointer none] w (NewSet n xs w) := by
  have h := minus_any (.pointer none) (fun _ => false) hs hl (fun x W _ _ => has_nil W _)
  have e : (xs.filter fun _ => !false) = xs := List.filter_eq_self.2 fun _ _ => rfl
  rw [e] at h
  exact h
theorem within_of {w : World} {sv tv : Value} {n : Nat} {zs : List Tx} (H : Calls Try.prog 20 #[sv, tv] w (NewSet n zs w)) :
    Calls Try.prog 22 #[sv, tv] w (SaysW (decide (zs = [])) w) := by
  have hz : decide (zs = []) = ((zs.length : Int) == 0) := by
    cases zs with
    | nil => rfl
    | cons x t =>
      rw [decide_eq_false (by simp)]
      symm
      rw [beq_eq_false_iff_ne]
      simp
      omega
  rw [hz]
  have HZ := Lib.hid hz
  clear hz
  go_enter Try.func22, Try.ntmps22
  go_wp2_with fail
  refine H.mono ?_; rintro e w1 ⟨bu, bo, rfl, hu, hbu, hbo, hB⟩
  go_wp2_with fail
  refine (len_any hu).mono ?_; rintro e w2 ⟨rfl, rfl⟩
  go_wp2
  go_ret
  exact ⟨rfl, hB⟩
end Go.Proofs.Ytjoimepehcebaaa
