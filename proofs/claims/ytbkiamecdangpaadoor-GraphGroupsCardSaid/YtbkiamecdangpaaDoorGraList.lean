/- Marks: join, list. -/
import Derived.Test.YtbkiamecdangpaaDoorGraMarks
import Derived.Test.YtbkiamecdangpaaDoorRow
import Derived.Deep.Onto
set_option linter.unusedVariables false
set_option linter.unusedSimpArgs false
namespace Go.Proofs.YtbkiamecdangpaaDoor.N13
open Go.RowKit

/-- the table of math/bits lies as its initialiser lays it, now and later -/
def Tabs (w : World) : Prop := ∀ w', Below w.heap.size w w' → TabAt 0 Lib.deBruijn64tab w'
theorem Tabs.later {w W : World} (h : Tabs w) (hB : Below w.heap.size w W) : Tabs W := fun w' hB' => h w' (hB.trans (hB'.mono hB.size))
theorem tz_any (x : Nat) (hx : x < 18446744073709551616) (w : World) (hT : Tabs w) : Calls Tryd.prog 33 #[.int .u64 x] w (fun e w' => e = .returned (.int .i64 (Lib.ctz 64 x)) ∧ w' = w) :=
  Any7.bits_TrailingZeros64 Tryd.lays29 x hx w (fun _ => hT w (Below.refl _ _))

section
variable {w w' : World} {g n : Nat} {M : Ms}
def curM (M : Ms) (a b k : Nat) : Ms := if k = 0 then M else joinM M a b
theorem join_step (M : Ms) (a b k : Nat) (hk : k < 16) (kk : Nat) : cellM (joinM M a b) kk = if kk = a * 16 + k then (cellM (curM M a b k) (a * 16 + k) ||| cellM (curM M a b k) (b * 16 + k)) else cellM (curM M a b k) kk := by
  unfold curM
  by_cases h : k = 0
  · subst h
    rw [if_pos rfl, Nat.add_zero, Nat.add_zero, cell_row, cell_row]
    exact cell_upd M a _ kk
  · rw [if_neg h, cell_rest _ a k (by omega) hk, cell_rest _ b k (by omega) hk]
    by_cases e : kk = a * 16 + k
    · subst e; rw [if_pos rfl, cell_rest _ a k (by omega) hk]; rfl
    · rw [if_neg e]
theorem cur_lt {a b : Nat} (hM : ∀ a, M a < 18446744073709551616) (k : Nat) : ∀ kk, cellM (curM M a b k) kk < 18446744073709551616 := by
  intro kk
  have hj : ∀ x, joinM M a b x < 18446744073709551616 := fun x => by
    unfold joinM; split
    · have h1 : M a < 2 ^ 64 := hM a
      have h2 : M b < 2 ^ 64 := hM b
      exact Nat.or_lt_two_pow h1 h2
    · exact hM x
  unfold cellM curM
  split
  · split
    · exact hM _
    · exact hj _
  · decide
set_option maxRecDepth 100000 in
set_option maxHeartbeats 4000000 in
theorem join_any {a b oa ob : Nat} (h : MarksAt w g n M) (ha : a < n) (hb : b < n) (hM : ∀ a, M a < 18446744073709551616) (hoa : oa = a * 16) (hob : ob = b * 16) :
    Calls Tryd.prog 31 #[.pointer (some ⟨g, oa, none⟩), .pointer (some ⟨g, ob, none⟩)] w (fun e w' => e = .returned (.tuple #[]) ∧ MarksAt w' g n (joinM M a b) ∧ Put g w w') := by
  have HM := Lib.hid hM
  have HOA := Lib.hid hoa
  have HOB := Lib.hid hob
  clear hM hoa hob
  go_enter Tryd.func31, Tryd.ntmps31
  go_wp2
  go_loopw [5] (fun i wr => ∃ k : Nat, k ≤ 16 ∧ i = .int .i64 k ∧ MarksAt wr g n (curM M a b k) ∧ Put g w wr) (fun i _ => 16 - (intOf i).toNat)
  case atStart => exact ⟨0, by omega, rfl, h, Put.refl _ _⟩
  case round =>
    obtain ⟨k, hk, rfl, hm, hP⟩ := hrel
    by_cases hlt : k < 16
    · have HS := Lib.hid (join_step M a b k hlt)
      have HL := cur_lt (a := a) (b := b) HM.out k
      have ca := hm.cell (k := oa + k) (by rw [HOA.out]; omega)
      have cb := hm.cell (k := ob + k) (by rw [HOB.out]; omega)
      have fa := hm.frozen (oa + k)
      have hor := u64_or_nat _ _ (HL (oa + k)) (HL (ob + k))
      have HN : Hid (∀ x, x = cellM (curM M a b k) (oa + k) ||| cellM (curM M a b k) (ob + k) → MarksAt (wr.setCell ⟨g, oa + k, none⟩ (.int .u64 (x : Int))) g n (joinM M a b)) := fun x hx => by
        refine hm.set fun kk _ => ?_
        rw [hx, HOA.out, HOB.out]
        exact HS.out kk
      have HMM := Lib.hid hm
      generalize cellM (curM M a b k) (oa + k) = xa at *
      generalize cellM (curM M a b k) (ob + k) = xb at *
      clear HL hm HS
      go_wp2_with fail
      go_region
      have N2 : MarksAt (wr.setCell ⟨g, oa + k, none⟩ (.int .u64 ((xa ||| xb : Nat) : Int))).drew g n (curM M a b (k + 1)) := by
        have := HN.out _ rfl
        unfold curM
        rw [if_neg (by omega)]
        exact this.drewN 1
      have P2 : Put g w (wr.setCell ⟨g, oa + k, none⟩ (.int .u64 ((xa ||| xb : Nat) : Int))).drew := (hP.trans (Put.one _ _ _ _)).drewN 1
      go_wp2
      go_roundw
      case rel => exact ⟨k + 1, by omega, by go_num, N2, P2⟩
      case measure => simp [intOf]; omega
    · have e : k = 16 := by omega
      subst e
      have e : curM M a b 16 = joinM M a b := rfl
      rw [e] at hm
      go_wp2
      go_end0
      exact ⟨rfl, hm, hP⟩

theorem info_int : (Tryd.prog.info? 3).map (fun i => (i.zero, i.size, i.bytes)) = some (some (.int .i64 0), 1, 8) := by kernel_rfl
/-- a vertex, as a value -/
def iv (x : Nat) : Value := .int .i64 (x : Int)
/-- a row of ints that the call has made -/
def OwnI (B : Nat) (w0 : World) (v : Value) (xs : List Nat) (w : World) : Prop := w.ownsRow B 3 1 v xs.length (xs.map iv) ∧ Below B w0 w
theorem OwnI.start (w : World) : OwnI w.heap.size w (.slice none 0 0) [] w := ⟨World.ownsRow_nil _ _ _ _, Below.refl _ _⟩
theorem OwnI.push {B : Nat} {w0 w w1 : World} {v v' : Value} {xs : List Nat} {x : Nat} {o : Obj} (h : OwnI B w0 v xs w) (hB : B ≤ w.heap.size)
    (h1 : w1.ownsRow B 3 1 v' (xs.length + 1) (xs.map iv ++ [.int .i64 (x : Int)])) (h2 : (w.alloc o).grownBy w1 v.ownBlock) : OwnI B w0 v' (xs ++ [x]) w1 :=
  ⟨by rw [List.map_append, List.length_append]; exact h1, (h.2.alloc hB o).grown h2 (by simp; omega) (fun k hk => (h.1.lt k hk).1)⟩
/-- a row of ints that reads -/
def IntsAt (w : World) (v : Value) (xs : List Nat) : Prop := RowAt w.heap.size w (fun x : Nat => [iv x]) v xs
theorem IntsAt.later {v : Value} {xs : List Nat} (h : IntsAt w v xs) (hB : Below w.heap.size w w') : IntsAt w' v xs := RowAt.later h hB
theorem flat_one {α : Type} (f : α → Value) : ∀ xs : List α, xs.map f = xs.flatMap fun x => [f x]
  | [] => rfl
  | x :: t => by rw [List.map_cons, List.flatMap_cons, flat_one f t]; rfl
theorem OwnI.reads {B : Nat} {w0 w : World} {v : Value} {xs : List Nat} (h : OwnI B w0 v xs w) : IntsAt w v xs := by
  have h1 := h.1
  rw [flat_one] at h1
  exact RowAt.of_owns (k := 1) (fun _ => rfl) (by omega) h1
/-- a row of ints, wherever -/
def RowI (w : World) (v : Value) (xs : List Nat) : Prop := w.ownsRow 0 3 1 v xs.length (xs.map iv)
theorem OwnI.row {B : Nat} {w0 w : World} {v : Value} {xs : List Nat} (h : OwnI B w0 v xs w) : RowI w v xs := h.1.mono (Nat.zero_le _)
theorem RowI.reads {w : World} {v : Value} {xs : List Nat} (h : RowI w v xs) : IntsAt w v xs := by
  unfold RowI at h
  rw [flat_one] at h
  exact RowAt.of_owns (k := 1) (fun _ => rfl) (by omega) h
theorem RowI.later {v : Value} {xs : List Nat} (h : RowI w v xs) (hB : Below w.heap.size w w') : RowI w' v xs := own_later h hB
theorem RowI.nil (w : World) : RowI w (.slice none 0 0) [] := World.ownsRow_nil _ _ _ _
/-- the words of one vertex, told one by one -/
def wordsP (M : Ms) (a i : Nat) : List Nat := (List.range i).flatMap fun j => (bitsP (cellM M (a * 16 + j))).map fun b => j * 64 + b
theorem words_zero (M : Ms) (a : Nat) : wordsP M a 0 = [] := rfl
theorem words_succ (M : Ms) (a i : Nat) : wordsP M a (i + 1) = wordsP M a i ++ (bitsP (cellM M (a * 16 + i))).map fun b => i * 64 + b := by
  unfold wordsP; rw [List.range_succ, List.flatMap_append]; simp
theorem words_one (M : Ms) (a : Nat) : ∀ i, i < 16 → wordsP M a (i + 1) = bitsP (M a)
  | 0, _ => by rw [words_succ, words_zero, Nat.add_zero, cell_row]; simp
  | i + 1, h => by rw [words_succ, words_one M a i (by omega), cell_rest M a (i + 1) (by omega) h, bits_zero]; simp
theorem words_len (M : Ms) (a i : Nat) (h : i ≤ 16) : (wordsP M a i).length ≤ 64 := by
  have hb : ∀ w, (bitsP w).length ≤ 64 := fun w => by
    have := List.length_filter_le w.testBit (List.range 64)
    rwa [List.length_range] at this
  match i with
  | 0 => simp [words_zero]
  | i + 1 => rw [words_one M a i (by omega)]; exact hb _

set_option maxRecDepth 100000 in
set_option maxHeartbeats 4000000 in
theorem list_any {a oa : Nat} (h : MarksAt w g n M) (ha : a < n) (hM : ∀ a, M a < 18446744073709551616) (hoa : oa = a * 16) (hT : Tabs w) :
    Calls Tryd.prog 29 #[.pointer (some ⟨g, oa, none⟩)] w (fun e w' => ∃ v, e = .returned v ∧ RowI w' v (bitsP (M a)) ∧ Below w.heap.size w w') := by
  have HM := Lib.hid hM
  have HOA := Lib.hid hoa
  have HH := Lib.hid h
  have HT := Lib.hid hT
  obtain ⟨i0, hi, hz0, hz1, hz2⟩ := info_parts info_int
  clear hM hoa hT h
  go_enter Tryd.func29, Tryd.ntmps29
  go_wp2
  go_loopw [3, 7] (fun v i wr => ∃ (k : Nat) (q : Value), k ≤ 16 ∧ i = .int .i64 k ∧ q = v ∧ OwnI w.heap.size w q (wordsP M a k) wr) (fun _ i _ => 16 - (intOf i).toNat)
  case atStart => exact ⟨0, _, by omega, rfl, rfl, OwnI.start w⟩
  case round =>
    obtain ⟨k, q, hk, rfl, rfl, hown⟩ := hrel
    by_cases hlt : k < 16
    · have hm := HH.out.later hown.2
      have ca := hm.cell (k := oa + k) (by rw [HOA.out]; omega)
      have HW := Lib.hid (words_succ M a k)
      have HL := Lib.hid (words_len M a (k + 1) (by omega))
      have hw0 : cellM M (oa + k) < 18446744073709551616 := by unfold cellM; split; exact HM.out _; decide
      have HC : Hid (cellM M (a * 16 + k) = cellM M (oa + k)) := by show _ = _; rw [HOA.out]
      clear hm
      go_wp2_with fail
      go_region
      have hown2 : OwnI w.heap.size w q (wordsP M a k) wr.drew := ⟨hown.1.drew, hown.2.drew⟩
      have HB0 : Hid (wordsP M a k ++ (bitsP (cellM M (oa + k))).map (fun b => k * 64 + b) = wordsP M a (k + 1)) := by show _ = _; rw [HW.out, HC.out]
      clear HW HC hown
      generalize cellM M (oa + k) = W0 at *
      generalize wordsP M a k = ys at *
      generalize wr.drew = wd at *
      go_wp2_with fail
      go_loopw [3, 5] (fun v u wr => ∃ (W : Nat) (xs : List Nat) (z : Value), u = .int .u64 W ∧ W < 18446744073709551616 ∧ z = v ∧ OwnI w.heap.size w z xs wr ∧ Hid (xs ++ (bitsP W).map (fun b => k * 64 + b) = wordsP M a (k + 1))) (fun _ u _ => (intOf u).toNat)
      case atStart => exact ⟨W0, ys, _, rfl, hw0, rfl, hown2, HB0⟩
      case round =>
        obtain ⟨W, xs, z, rfl, hW, rfl, hown, HI⟩ := hrel
        by_cases h0 : W = 0
        · subst h0
          have e := HI.out
          rw [bits_zero, List.map_nil, List.append_nil] at e
          rw [e] at hown
          clear e HI hown2 HB0
          go_wp2
          go_roundw
          case rel => exact ⟨k + 1, _, by omega, by go_num, rfl, hown⟩
          case measure => simp [intOf]; omega
        · have hne : ((W : Int) != 0) = true := by rw [bne_iff_ne]; omega
          have hne2 : ((W : Int) == 0) = false := by rw [beq_eq_false_iff_ne]; omega
          have hp := and_pred W hW h0
          have hpl := pred_lt W hW
          have hpf := pred_fewer W h0
          have HTZ := tz_any W hW wr (HT.out.later hown.2)
          have hcl := ctz_lt W hW h0
          have HI2 := HI.out
          rw [bits_cons W hW h0, List.map_cons] at HI2
          have hxl : xs.length < 64 := by
            have := congrArg List.length HI2
            rw [List.length_append, List.length_cons] at this
            have := HL.out
            omega
          generalize Lib.ctz 64 W = c at *
          generalize hq : W &&& (W - 1) = W2 at *
          have HI3 : Hid ((xs ++ [k * 64 + c]) ++ (bitsP W2).map (fun b => k * 64 + b) = wordsP M a (k + 1)) := by show _ = _; rw [← HI2]; simp
          have hB := hown.2.size
          clear HI HI2 hown2 HB0 hq
          go_wp2_with fail
          refine HTZ.mono ?_; rintro e w2 ⟨rfl, rfl⟩
          clear HTZ
          go_wp2_with (at_builtin; refine wpList_append_own _ rfl _ _ 31 rfl w.heap.size 3 i0 (.int .i64 0) 1 8 Tryd.underlying31 hi hz0 hz1 hz2 rfl (by decide) _ _ _ rfl (hown.1.alloc _) ⟨w2.heap.size, 0, none⟩ 1 1 [.int .i64 ((k * 64 + c : Nat) : Int)] rfl rfl ?c1 ?c2 ?c3 ?c4 ?c5 ?_)
          case c1 =>
            intro j u hj
            match j, hj with
            | 0, hj => simp at hj; subst hj; simp [Addr.add]
          case c2 => intro u hu; simp at hu; subst hu; rfl
          case c3 => unfold maxLen; omega
          case c4 => omega
          case c5 => simp; omega
          intro v' w1 hown' hgrow _
          have R := hown.push hB hown' hgrow
          clear hown' hgrow hown
          go_wp2
          go_roundw
          case rel => exact ⟨W2, rfl, hpl, _, R, HI3⟩
          case measure => simp [intOf]; omega
    · have e : k = 16 := by omega
      subst e
      have R := hown.row
      rw [words_one M a 15 (by omega)] at R
      have hB := hown.2
      clear hown
      go_wp2
      go_ret
      exact ⟨_, rfl, R, hB⟩
end
end Go.Proofs.YtbkiamecdangpaaDoor.N13
