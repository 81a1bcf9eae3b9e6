/- A set in memory; the contracts of Has, Add, Remove, Len over it. -/
import Derived.Test.YtjoimepehcebaaaSetPlain
import Derived.Sort.Walk0
import Derived.WalkSpells
namespace Go.Proofs.Ytjoimepehcebaaa
open Go.RowKit Go.Maps

/-- the block bs holds a map in block bm that reads as the texts xs, at most n -/
structure SetAt (w : World) (bs bm n : Nat) (xs : List Tx) : Prop where
  cell : w.cell? ⟨bs, 0, none⟩ = some (.map (some bm))
  lt : bs < w.heap.size
  ne : bs ≠ bm
  own : w.ownsMap Try.prog 9 unitElem bm n (setD xs)
  rises : Rises xs
theorem keyedS : Keyed Try.prog 9 := string_keyed Try.underlying9
theorem keyS (x : Tx) (h : x.length ≤ maxLen) : keyOf Try.prog 9 (.string ⟨x.toArray⟩) = some (.string x) := by
  have := WideMaps.keyOf_string_mk (P := Try.prog) Try.underlying9 (s := ⟨x.toArray⟩) (by show x.toArray.size ≤ maxLen; simpa using h)
  simpa using this
theorem zeroU (w : World) : (zeroValue 46).run Try.prog w = .ok (.agg #[]) w := by kernel_rfl
theorem SetAt.kept {w w' : World} {bs bm n : Nat} {xs : List Tx} (h : SetAt w bs bm n xs) {row : Option Nat} (hg : w.grownBy w' row) (h1 : row ≠ some bs) (h2 : row ≠ some bm) : SetAt w' bs bm n xs :=
  ⟨hg.cell h.cell (Ne.symm h1), Nat.lt_of_lt_of_le h.lt hg.size, h.ne, h.own.kept hg (Ne.symm h2), h.rises⟩
theorem grown_of_below {w w' : World} (h : Below w.heap.size w w') (row : Option Nat) : w.grownBy w' row := ⟨h.os, h.tape, h.output, h.size, fun k hk _ => h.block k hk⟩
theorem below_of_grown {w w' : World} {B b : Nat} (h : w.grownBy w' (some b)) (hb : B ≤ b) (hw : B ≤ w.heap.size) : Below B w w' := ⟨h.os, h.tape, h.output, h.size, fun k hk => h.block k (by omega) (fun e => by injection e with e; omega)⟩
theorem SetAt.below {w w' : World} {bs bm n : Nat} {xs : List Tx} (h : SetAt w bs bm n xs) (hB : Below w.heap.size w w') : SetAt w' bs bm n xs :=
  h.kept (grown_of_below hB none) (by simp) (by simp)
theorem SetAt.more {w : World} {bs bm n n' : Nat} {xs : List Tx} (h : SetAt w bs bm n xs) (hn : n ≤ n') : SetAt w bs bm n' xs := ⟨h.cell, h.lt, h.ne, h.own.mono hn, h.rises⟩
theorem SetAt.canon {w : World} {bs bm n : Nat} {xs : List Tx} (h : SetAt w bs bm n xs) : xs.length ≤ n := by
  have := h.own.size_le; rwa [size_setD] at this
theorem SetAt.has {w : World} {bs bm n : Nat} {xs : List Tx} (h : SetAt w bs bm n xs) (x : Tx) : Maps.has (setD xs) (.string x) = there x xs := by
  rw [has_setD, Bool.eq_iff_iff, decide_eq_true_eq, there_iff h.rises]

def SaysW (b : Bool) (w : World) (e : Ending) (w' : World) : Prop := e = .returned (.bool b) ∧ Below w.heap.size w w'
set_option maxHeartbeats 800000 in
theorem has_any {w : World} {bs bm n : Nat} {xs : List Tx} (h : SetAt w bs bm n xs) (x : Tx) (hx : x.length ≤ maxLen) :
    Calls Try.prog 14 #[.pointer (some ⟨bs, 0, none⟩), .string ⟨x.toArray⟩] w (SaysW (there x xs) w) := by
  have hc := h.cell
  have hk := keyS x hx
  have hh := h.has x
  have hown := h.own
  go_enter Try.func14, Try.ntmps14
  go_wp2_with (at_lookup; refine wpList_lookup_own_unit _ rfl _ _ 41 rfl 9 46 keyedS Try.underlying41 (zeroU _) bm n _ rfl hown _ _ rfl hk ?_; rw [hh])
  go_ret
  exact ⟨rfl, (Below.refl _ _).alloc (Nat.le_refl _) _⟩
theorem has_nil (w : World) (x : ByteArray) : Calls Try.prog 14 #[.pointer none, .string x] w (SaysW false w) := by
  go_enter Try.func14, Try.ntmps14
  go_wp2
  go_ret
  exact ⟨rfl, Below.refl _ _⟩

/-- a call that turns the set in the blocks bs, bm, and nothing else that was there -/
def SetTo (bs bm n : Nat) (xs : List Tx) (b : Bool) (w : World) (e : Ending) (w' : World) : Prop := e = .returned (.bool b) ∧ SetAt w' bs bm n xs ∧ w.grownBy w' (some bm)
theorem SetAt.put {w w' : World} {bs bm n n' : Nat} {xs : List Tx} (h : SetAt w bs bm n xs) (x : Tx) (ho : w'.ownsMap Try.prog 9 unitElem bm n' ((setD xs).put (.string x) (.agg []))) (hg : w.grownBy w' (some bm)) : SetAt w' bs bm n' (insT x xs) := by
  have e := setD_put h.rises x (ho.canon keyedS)
  rw [e] at ho
  exact ⟨hg.cell h.cell (fun e => h.ne (by injection e)), Nat.lt_of_lt_of_le h.lt hg.size, h.ne, ho, rises_insT h.rises⟩
theorem SetAt.del {w w' : World} {bs bm n n' : Nat} {xs : List Tx} (h : SetAt w bs bm n xs) (x : Tx) (ho : w'.ownsMap Try.prog 9 unitElem bm n' ((setD xs).del (.string x))) (hg : w.grownBy w' (some bm)) : SetAt w' bs bm n' (delT x xs) := by
  have e := setD_del h.rises x (ho.canon keyedS)
  rw [e] at ho
  exact ⟨hg.cell h.cell (fun e => h.ne (by injection e)), Nat.lt_of_lt_of_le h.lt hg.size, h.ne, ho, rises_delT h.rises⟩
theorem neqMapNil (w : World) (b : Nat) : (binOp .eql 41 (.map (some b)) (.map none)).run Try.prog w = .ok (.bool false) w := by kernel_rfl
set_option maxHeartbeats 1600000 in
theorem add_any {w : World} {bs bm n : Nat} {xs : List Tx} (h : SetAt w bs bm n xs) (x : Tx) (hx : x.length ≤ maxLen) (hn : n < maxLen) :
    Calls Try.prog 11 #[.pointer (some ⟨bs, 0, none⟩), .string ⟨x.toArray⟩] w (SetTo bs bm (n + 1) (insT x xs) (!there x xs) w) := by
  have hk := keyS x hx
  have H1 := has_any h x hx
  cases ht : there x xs with
  | true =>
    rw [ht] at H1
    have hi : insT x xs = xs := by unfold insT; rw [if_pos ht]
    rw [hi]
    go_enter Try.func11, Try.ntmps11
    go_wp2_with fail
    refine H1.mono ?_; rintro e w1 ⟨rfl, hB⟩
    go_wp2
    go_ret
    exact ⟨rfl, (h.below hB).more (by omega), grown_of_below hB _⟩
  | false =>
    rw [ht] at H1
    clear ht
    go_enter Try.func11, Try.ntmps11
    go_wp2_with fail
    refine H1.mono ?_; rintro e w1 ⟨rfl, hB⟩
    have h1 := h.below hB
    have hc := h1.cell
    have hown := h1.own
    have hnil := neqMapNil w1 bm
    go_wp2_with (at_mapUpdate; refine wpList_mapUpdate_own _ rfl _ _ _ 41 rfl 9 46 keyedS Try.underlying41 unitElem bm n _ rfl hown hn _ _ _ rfl rfl hk (.agg []) [] unitElem_mk ?_; intro w2 hown2 hg2)
    go_ret
    exact ⟨rfl, h1.put x hown2 hg2, (grown_of_below hB _).andThen hg2 (fun j hj => .inr hj)⟩
theorem add_nil (w : World) (x : ByteArray) : Calls Try.prog 11 #[.pointer none, .string x] w (SaysW false w) := by
  go_enter Try.func11, Try.ntmps11
  go_wp2_with fail
  go_ret
  exact ⟨rfl, Below.refl _ _⟩
set_option maxHeartbeats 1600000 in
theorem remove_any {w : World} {bs bm n : Nat} {xs : List Tx} (h : SetAt w bs bm n xs) (x : Tx) (hx : x.length ≤ maxLen) :
    Calls Try.prog 13 #[.pointer (some ⟨bs, 0, none⟩), .string ⟨x.toArray⟩] w (SetTo bs bm n (delT x xs) (there x xs) w) := by
  have hk := keyS x hx
  have H1 := has_any h x hx
  cases ht : there x xs with
  | false =>
    rw [ht] at H1
    have hi : delT x xs = xs := by unfold delT; rw [ht]; rfl
    rw [hi]
    go_enter Try.func13, Try.ntmps13
    go_wp2_with fail
    refine H1.mono ?_; rintro e w1 ⟨rfl, hB⟩
    go_wp2
    go_ret
    exact ⟨rfl, h.below hB, grown_of_below hB _⟩
  | true =>
    rw [ht] at H1
    clear ht
    go_enter Try.func13, Try.ntmps13
    go_wp2_with fail
    refine H1.mono ?_; rintro e w1 ⟨rfl, hB⟩
    have h1 := h.below hB
    have hc := h1.cell
    have hown := h1.own
    go_wp2_with (at_delete; refine wpList_delete_own _ rfl _ _ 41 9 rfl 46 keyedS Try.underlying41 unitElem bm n _ rfl hown _ _ rfl hk ?_; intro w2 hown2 hg2)
    go_ret
    exact ⟨rfl, h1.del x hown2 hg2.grown, (grown_of_below hB _).andThen hg2.grown (fun j hj => .inr hj)⟩
theorem remove_nil (w : World) (x : ByteArray) : Calls Try.prog 13 #[.pointer none, .string x] w (SaysW false w) := by
  have H1 := has_nil w x
  go_enter Try.func13, Try.ntmps13
  go_wp2_with fail
  refine H1.mono ?_; rintro e w1 ⟨rfl, hB⟩
  go_wp2
  go_ret
  exact ⟨rfl, hB⟩
theorem len_any {w : World} {bs bm n : Nat} {xs : List Tx} (h : SetAt w bs bm n xs) :
    Calls Try.prog 16 #[.pointer (some ⟨bs, 0, none⟩)] w (fun e w' => e = .returned (.int .i64 (xs.length : Int)) ∧ w = w') := by
  have hc := h.cell
  have hown := h.own
  have hs := size_setD xs
  go_enter Try.func16, Try.ntmps16
  go_wp2_with (at_len; refine wpList_len_own _ rfl _ 41 rfl 9 46 Try.underlying41 unitElem bm n _ rfl hown ?_; rw [hs])
  go_ret
  exact ⟨rfl, rfl⟩
theorem len_nil (w : World) : Calls Try.prog 16 #[.pointer none] w (fun e w' => e = .returned (.int .i64 0) ∧ w = w') := by
  go_enter Try.func16, Try.ntmps16
  go_wp2
  go_ret
  exact ⟨rfl, rfl⟩
end Go.Proofs.Ytjoimepehcebaaa
