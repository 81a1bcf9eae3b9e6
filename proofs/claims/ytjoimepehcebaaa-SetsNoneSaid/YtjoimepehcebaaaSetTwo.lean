/- The contracts of maps.Copy at sets, of Union, Minus, Within. -/
import Derived.Test.YtjoimepehcebaaaSetList
import Derived.Maps.RangeWalk
import Derived.Laws.IdiomRangeMap
import Derived.Sort.MapsRangeIn
import Derived.StillTailTactics
namespace Go.Proofs.Ytjoimepehcebaaa
open Go.RowKit Go.Maps

theorem keyS_inv {s : ByteArray} {kl : Lit} (h : keyOf Try.prog 9 (.string s) = some kl) : kl = .string s.data.toList ∧ s.size ≤ maxLen := by
  by_cases hs : s.size ≤ maxLen
  · have := WideMaps.keyOf_string_mk (P := Try.prog) Try.underlying9 hs
    rw [this] at h
    injection h with h
    exact ⟨h.symm, hs⟩
  · exfalso
    have : keyOf Try.prog 9 (.string s) = none := by
      unfold keyOf
      simp [mapKey, Try.underlying9, hs]
    rw [this] at h; cases h
theorem keyS_text {key : Value} {kl : Lit} (h : keyOf Try.prog 9 key = some kl) : ∃ x : Tx, key = .string ⟨x.toArray⟩ := by
  obtain ⟨s, rfl⟩ := Maps.keyOf_string_inv Try.underlying9 h
  exact ⟨s.data.toList, by simp⟩
/-- what has come of xs beside ys -/
def Come (zs ys xs : List Tx) (left : Lit → Bool) : Prop := Rises zs ∧ ∀ x, x ∈ zs ↔ x ∈ ys ∨ (x ∈ xs ∧ left (.string x) = false)
theorem come_start {ys xs : List Tx} (hy : Rises ys) : Come ys ys xs (Maps.has (setD xs)) := ⟨hy, fun x => by rw [has_setD]; simp⟩
theorem come_step {zs ys xs : List Tx} {left : Lit → Bool} (h : Come zs ys xs left) (x : Tx) (hx : x ∈ xs) : Come (insT x zs) ys xs (fun z => left z && !z.sameKey (.string x)) := by
  refine ⟨rises_insT h.1, fun y => ?_⟩
  rw [mem_insT h.1, h.2]
  have hs : ((Lit.string y).sameKey (.string x)) = decide (y = x) := by
    rw [Bool.eq_iff_iff, WideAt.sameKey_iff (by trivial), decide_eq_true_eq]
    exact ⟨fun e => by injection e, fun e => by rw [e]⟩
  dsimp only
  rw [hs]
  by_cases e : y = x
  · subst e; simp [hx]
  · simp [e]
theorem come_end {zs ys xs : List Tx} {left : Lit → Bool} (h : Come zs ys xs left) (hl : ∀ kl, left kl = false) : zs = unionT ys xs :=
  rises_ext h.1 (rises_unionT _ _) fun x => by rw [h.2, mem_unionT, hl]; simp

set_option maxHeartbeats 4000000 in
set_option maxRecDepth 100000 in
theorem copy_any (bd bs nd ns : Nat) (ys xs : List Tx) (w : World) (hd : w.ownsMap Try.prog 9 unitElem bd nd (setD ys)) (hs : w.ownsMap Try.prog 9 unitElem bs ns (setD xs)) (hy : Rises ys) (hne : bd ≠ bs) (hroom : nd + xs.length ≤ 1000000000) :
    Calls Try.prog 26 #[.map (some bd), .map (some bs)] w fun e w' => e = .returned (.tuple #[]) ∧ w'.ownsMap Try.prog 9 unitElem bd (nd + xs.length) (setD (unionT ys xs)) ∧ w.grownBy w' (some bd) := by
  have hbd := hd.lt
  have hbs := hs.lt
  have HX := Lib.hid (size_setD xs)
  go_enter Try.func26, Try.ntmps26
  go_wp2_with (at_range; refine wpList_range_own _ rfl _ 41 rfl 9 46 keyedS Try.underlying41 unitElem bs ns _ rfl hs ?_; intro w0 hrg0 hg0 hs0)
  go_frame
  go_loopw [8] (fun _ wr => ∃ (left : Lit → Bool) (cnt : Nat) (zs : List Tx), wr.ranges Try.prog 9 unitElem bs w.heap.size ns (setD xs) left cnt ∧ cnt ≤ xs.length ∧
      wr.ownsMap Try.prog 9 unitElem bd (nd + (xs.length - cnt)) (setD zs) ∧ Hid (Come zs ys xs left) ∧ w.grownBy wr (some bd))
    (fun _ wr => wr.rangeLeft bs w.heap.size)
  case atStart =>
    exact ⟨_, _, ys, hrg0, by rw [HX.out]; exact Nat.le_refl _, (hd.kept hg0 (by simp)).mono (by omega), come_start hy, hg0.but _⟩
  case round =>
    obtain ⟨left, cnt, zs, hrg, hcs, hout, hM, hgw⟩ := hrel
    go_wp2_with (at_next; refine wpList_next_ranges _ rfl _ rfl 9 keyedS unitElem (fun x : Tx => Value.string ⟨x.toArray⟩) (fun _ : Unit => Value.agg #[]) (fun _ _ h => keyS_text h) (fun v y h => ⟨(), (unitElem_inv h).1⟩) bs w.heap.size ns _ _ _ rfl hrg ?_ ?_)
    · intro hc0 hl0
      have hE : Hid (zs = unionT ys xs) := come_end hM.out hl0
      clear hl0
      go_wp2
      go_end0
      have e := hE.out
      subst e
      subst hc0
      exact ⟨rfl, by simpa using hout, hgw⟩
    · intro x kl yd yp w1 cnt1 hkey hlx hv hat hrg1 hlt hg1 hs1 hen
      obtain ⟨rfl, hxl⟩ := keyS_inv hkey
      obtain ⟨-, hv2⟩ := unitElem_inv hv
      injection hv2 with e1 e2
      subst e1 e2
      clear hv
      have e0 : (⟨x.toArray⟩ : ByteArray).data.toList = x := by simp
      rw [e0] at hkey hlx hat hrg1
      clear e0
      have hxm : x ∈ xs := by
        have := has_true_of_atKey hat
        rw [has_setD, decide_eq_true_eq] at this
        exact this
      have hout1 := hout.kept hg1 (fun e => by have := Option.some.inj e; omega)
      have hM2 := Lib.hid (come_step hM.out x hxm)
      have HR := Lib.hid hM.out.1
      clear hxm hat hlx
      go_wp2_with (at_mapUpdate; refine wpList_mapUpdate_own _ rfl _ _ _ 41 rfl 9 46 keyedS Try.underlying41 unitElem bd _ _ rfl (hout1.alloc _) (by unfold maxLen; omega) _ _ _ rfl rfl hkey (.agg []) [] unitElem_mk ?_; intro w2 hout2 hg2; go_frame)
      rw [setD_put HR.out x (hout2.canon keyedS)] at hout2
      have hrg2 := (hrg1.alloc (.cells #[] 46)).kept hg2 (fun e => hne (Option.some.inj e).symm) (fun e => by have := Option.some.inj e; omega)
      have hgw2 : w.grownBy w2 (some bd) := ((hgw.andThen hg1 (fun j hj => .inl (by cases hj; exact Nat.le_refl _))).andThen (World.grownBy_alloc w1 (.cells #[] 46) none) (fun j hj => by cases hj)).andThen hg2 (fun j hj => .inr hj)
      refine ⟨⟨_, cnt1, _, hrg2, by omega, hout2.mono (by omega), hM2, hgw2⟩, ?_⟩
      rw [hrg2.left_eq, hrg.left_eq]; exact hlt

/-- what the copy of a set leaves -/
theorem SetAt.copied {w w' : World} {bs bm n n' : Nat} {xs zs : List Tx} (h : SetAt w bs bm n xs) (ho : w'.ownsMap Try.prog 9 unitElem bm n' (setD zs)) (hz : Rises zs) (hg : w.grownBy w' (some bm)) : SetAt w' bs bm n' zs :=
  ⟨hg.cell h.cell (fun e => h.ne (by injection e)), Nat.lt_of_lt_of_le h.lt hg.size, h.ne, ho, hz⟩
theorem ptrNeNil (w : World) (b : Nat) : (binOp .neq 25 (.pointer (some ⟨b, 0, none⟩)) (.pointer none)).run Try.prog w = .ok (.bool true) w := by kernel_rfl
theorem indexTwo0 (x y : Value) (w : World) : (Instr.index 52 (.agg #[x, y]) (.int .i64 0)).run Try.prog w = .ok x w := by kernel_rfl
theorem indexTwo1 (x y : Value) (w : World) : (Instr.index 52 (.agg #[x, y]) (.int .i64 1)).run Try.prog w = .ok y w := by kernel_rfl
theorem union_nil (xs : List Tx) (h : Rises xs) : unionT [] xs = xs := rises_ext (rises_unionT _ _) h fun x => by rw [mem_unionT]; simp

theorem undrew {w w' : World} {row : Option Nat} (h : w.drew.grownBy w' row) : w.grownBy w' row := ⟨h.os, h.tape, h.output, h.size, h.block⟩
set_option maxHeartbeats 4000000 in
theorem union_some {w : World} {bs bm n bt bn m : Nat} {xs ys : List Tx} (hs : SetAt w bs bm n xs) (ht : SetAt w bt bn m ys) (hl : xs.length + ys.length ≤ 1000000000) :
    Calls Try.prog 19 #[.pointer (some ⟨bs, 0, none⟩), .pointer (some ⟨bt, 0, none⟩)] w (NewSet (xs.length + ys.length) (unionT xs ys) w) := by
  have i0 := fun w => indexTwo0 (.pointer (some ⟨bs, 0, none⟩)) (.pointer (some ⟨bt, 0, none⟩)) w
  have i1 := fun w => indexTwo1 (.pointer (some ⟨bs, 0, none⟩)) (.pointer (some ⟨bt, 0, none⟩)) w
  go_enter Try.func19, Try.ntmps19
  go_wp2_with fail
  refine (new_none w).mono ?_; rintro e w1 ⟨bu, bo, rfl, hu, hbu, hbo, hB⟩
  have hs1 := hs.below hB
  have ht1 := ht.below hB
  have hc1 := hu.cell
  have hc2 := hs1.cell
  have hns := hs.own.lt
  have hnt := ht.own.lt
  have HC := copy_any bo bm 0 n [] xs w1.drew hu.own.drew hs1.own.drew List.Pairwise.nil (by omega) (by omega)
  go_wp2_with fail
  refine wp_loop_rounds 3 ?_
  rw [rounds_succ]
  go_wp2_with fail
  go_still_tail 8, (by kernel_rfl)
  go_wp2_with fail
  refine HC.mono ?_; rintro e w2 ⟨rfl, ho2, hg2⟩
  have hg2 := undrew hg2
  rw [union_nil xs hs.rises] at ho2
  have hu2 := hu.copied ho2 hs.rises hg2
  have ht2 := ht1.kept hg2 (fun e => by have := Option.some.inj e; have := ht.lt; omega) (fun e => by have := Option.some.inj e; omega)
  have hd1 := hu2.cell
  have hd2 := ht2.cell
  have HC2 := copy_any bo bn _ m xs ys w2.drew ho2.drew ht2.own.drew hs.rises (by omega) (by omega)
  clear HC hc1 hc2
  go_wp2_with fail
  rw [rounds_succ]
  go_wp2_with fail
  go_still_tail 8, (by kernel_rfl)
  go_wp2_with fail
  refine HC2.mono ?_; rintro e w3 ⟨rfl, ho3, hg3⟩
  have hg3 := undrew hg3
  have hu3 := hu2.copied ho3 (rises_unionT _ _) hg3
  clear HC2
  go_wp2_with fail
  rw [rounds_succ]
  go_wp2
  go_ret
  refine ⟨bu, bo, rfl, hu3.more (by omega), hbu, hbo, ?_⟩
  exact hB.trans ((below_of_grown hg2 hbo hB.size).trans (below_of_grown hg3 hbo (Nat.le_trans hB.size hg2.size)))
end Go.Proofs.Ytjoimepehcebaaa
