/- The walk of the law CursorFails. -/
import Derived.Test.YtehcccjgepbnjaaCurLaws2
namespace Go.Proofs.Ytehcccjgepbnjaa
open Go.RowKit
attribute [local go_sem] fld0 fld1

/-- a deed -/
structure Dd where
  kind : Int
  num : Int
  text : ByteArray
def DdAt (w : World) (g o j : Nat) (d : Dd) : Prop :=
  w.cell? ⟨g, o + j * 3, none⟩ = some (.int .i64 d.kind) ∧ w.cell? ⟨g, o + j * 3 + 1, none⟩ = some (.int .i64 d.num) ∧ w.cell? ⟨g, o + j * 3 + 2, none⟩ = some (.string d.text)
theorem DdAt.below {w w' : World} {n g o j : Nat} {d : Dd} (h : DdAt w g o j d) (hB : Below n w w') (l : g < n) : DdAt w' g o j d :=
  ⟨(hB.cell (p := ⟨g, o + j * 3, none⟩) l).trans h.1, (hB.cell (p := ⟨g, o + j * 3 + 1, none⟩) l).trans h.2.1, (hB.cell (p := ⟨g, o + j * 3 + 2, none⟩) l).trans h.2.2⟩
def DRow (w : World) (v : Value) (ds : List Dd) : Prop :=
  ∃ (a : Option Addr) (cap : Nat), v = .slice a ds.length cap ∧ (ds = [] ∨ ∃ g o, a = some ⟨g, o, none⟩ ∧ g < w.heap.size ∧ ∀ j (hj : j < ds.length), DdAt w g o j ds[j])
theorem own_three {w w' : World} {B : Nat} {x0 x1 x2 : Value} {ty : TypeId} (hg : (w.alloc (.cells #[x0, x1, x2] ty)).grownBy w' (some B)) (hB : B < w.heap.size) :
    w'.cell? ⟨w.heap.size, 0, none⟩ = some x0 ∧ w'.cell? ⟨w.heap.size, 1, none⟩ = some x1 ∧ w'.cell? ⟨w.heap.size, 2, none⟩ = some x2 :=
  ⟨(own_block hg hB 0).1, (own_block hg hB 1).1, (own_block hg hB 2).1⟩
/-- a cursor that has failed stays as it is -/
theorem dead_facts (c : Cu) (h : c.err ≠ 0) (x : List UInt8) (k : Int) : c.kind k = c ∧ c.kindT k = zeroT ∧ c.kindOk k = false ∧ c.adv = c ∧ c.peek = zeroT ∧ c.is x = false ∧ c.take x = c ∧ c.want x = c ∧ c.ahead x = false ∧ c.enter = c ∧ c.enters = false ∧ c.fail k = c ∧ c.leave = c ∧ c.doneP = c.pos ∧ c.doneE = c.err := by
  have hi : c.is x = false := by unfold Cu.is; simp [h]
  have hf : ∀ y, c.fail y = c := fun y => by unfold Cu.fail; rw [if_neg h]
  refine ⟨by unfold Cu.kind; rw [if_neg h], by unfold Cu.kindT; rw [if_neg (fun q => h q.1)], by unfold Cu.kindOk; simp [h], by unfold Cu.adv; rw [if_neg (fun q => h q.1)], by unfold Cu.peek; rw [if_neg h], hi, ?_, ?_, by unfold Cu.ahead; simp [h], by unfold Cu.enter; rw [if_neg h], by unfold Cu.enters; simp [h], hf k, by unfold Cu.leave; rw [if_neg h], by unfold Cu.doneP; rw [if_neg h], by unfold Cu.doneE; rw [if_neg h]⟩
  · unfold Cu.take; rw [hi]; rfl
  · unfold Cu.want; rw [hi]; exact hf 5
theorem fail_to {w : World} {B : Nat} {v : Value} {c c' : Cu} (h : CurAt w B v c) (x : Int) (e1 : c.fail x = c') : Calls Try.prog 28 #[.pointer (some ⟨B, 0, none⟩), .int .i64 x] w (CurTo B v c' (.bool false) w) := by
  subst e1; exact fail_any h x
theorem leave_to {w : World} {B : Nat} {v : Value} {c c' : Cu} (h : CurAt w B v c) (e1 : c.leave = c') : Calls Try.prog 25 #[.pointer (some ⟨B, 0, none⟩)] w (CurLeft B v c' w) := by
  subst e1; exact leave_any h
theorem fail_err (c : Cu) (h : c.err = 0) (x : Int) : (c.fail x).err ≠ 0 := by
  unfold Cu.fail; rw [if_pos h]
  show (if x = 0 then 1 else x) ≠ 0
  split
  · decide
  · assumption

set_option maxRecDepth 100000 in
set_option maxHeartbeats 8000000 in
theorem walk_CursorFails (v u : Value) (xs : List Tk) (ds : List Dd) (x : Int) (w : World) (h : ArgRow w v xs) (hd : DRow w u ds) : Calls Try.prog 5 #[v, u, .int .i64 x] w (RunsTo true w) := by
  obtain ⟨a, n, cap, rfl, hn⟩ : ∃ a n cap, v = .slice a n cap ∧ n = xs.length := by
    rcases h with ⟨rfl, rfl⟩ | ⟨a, cap, rfl, _⟩
    · exact ⟨none, 0, 0, rfl, rfl⟩
    · exact ⟨some a, _, cap, rfl, rfl⟩
  obtain ⟨b, cb, rfl, hdr⟩ := hd
  obtain ⟨m, hm⟩ : ∃ m, m = ds.length := ⟨_, rfl⟩
  have HM : Hid (m = ds.length) := hm
  have HD : Hid (ds = [] ∨ ∃ g o, b = some ⟨g, o, none⟩ ∧ g < w.heap.size ∧ ∀ j (hj : j < ds.length), DdAt w g o j ds[j]) := hdr
  rw [← hm]
  clear hdr hm
  have HFew := few_any a b n m cap cb w
  by_cases hbig : n ≤ 100 ∧ m ≤ 300
  · rw [show (decide (n ≤ 100) && decide (m ≤ 300)) = true by simp [hbig.1, hbig.2]] at HFew
    have HN := new_any _ xs w h (by omega)
    have hm9 := hbig.2
    have hf0 : ∀ w2 B v2, CurAt w2 B v2 (newCu xs) → Calls Try.prog 28 #[.pointer (some ⟨B, 0, none⟩), .int .i64 x] w2 (CurTo B v2 ((newCu xs).fail x) (.bool false) w2) := fun w2 B v2 hc => fail_any hc x
    have hdead : ((newCu xs).fail x).err ≠ 0 := fail_err _ rfl x
    generalize newCu xs = c0 at *
    generalize c0.fail x = c at *
    obtain ⟨p, hp⟩ : ∃ p, p = c.pos := ⟨_, rfl⟩
    obtain ⟨q, hq⟩ : ∃ q, q = c.err := ⟨_, rfl⟩
    have hqb : (q != 0) = true := by rw [bne_iff_ne, hq]; exact hdead
    have F := dead_facts c hdead
    rw [← hp, ← hq] at F
    have FD : ∀ w2 B v2, CurAt w2 B v2 c → Calls Try.prog 29 #[.pointer (some ⟨B, 0, none⟩)] w2 (DoneIs p q w2) := fun w2 B v2 hc => done_to hc (F [] 0).2.2.2.2.2.2.2.2.2.2.2.2.2.1 (F [] 0).2.2.2.2.2.2.2.2.2.2.2.2.2.2
    have F1 : ∀ w2 B v2 (k : Int), CurAt w2 B v2 c → Calls Try.prog 20 #[.pointer (some ⟨B, 0, none⟩), .int .i64 k] w2 (CurTo B v2 c (.tuple #[.agg #[.int .i64 0, .int .i64 0, .int .i64 0, .string ⟨#[]⟩], .bool false]) w2) := fun w2 B v2 (k : Int) (hc : CurAt w2 B v2 c) => kind_to hc k (F [] k).1 (F [] k).2.1 (F [] k).2.2.1
    have F2 : ∀ w2 B v2, CurAt w2 B v2 c → Calls Try.prog 12 #[.pointer (some ⟨B, 0, none⟩)] w2 (CurTo B v2 c (.agg #[.int .i64 0, .int .i64 0, .int .i64 0, .string ⟨#[]⟩]) w2) := fun w2 B v2 (hc : CurAt w2 B v2 c) => next_to hc (F [] 0).2.2.2.1 (F [] 0).2.2.2.2.1
    have F3 := fun w2 B v2 (y : ByteArray) (hc : CurAt w2 B v2 c) => is_to hc y (F y.data.toList 0).2.2.2.2.2.1
    have F4 := fun w2 B v2 (y : ByteArray) (hc : CurAt w2 B v2 c) => take_to hc y (F y.data.toList 0).2.2.2.2.2.2.1 (F y.data.toList 0).2.2.2.2.2.1
    have F5 := fun w2 B v2 (y : ByteArray) (hc : CurAt w2 B v2 c) => want_to hc y (F y.data.toList 0).2.2.2.2.2.2.2.1 (F y.data.toList 0).2.2.2.2.2.1
    have F6 := fun w2 B v2 (y : ByteArray) (hc : CurAt w2 B v2 c) => ahead_to hc y (F y.data.toList 0).2.2.2.2.2.2.2.2.1
    have F7 := fun w2 B v2 (hc : CurAt w2 B v2 c) => enter_to hc (F [] 0).2.2.2.2.2.2.2.2.2.1 (F [] 0).2.2.2.2.2.2.2.2.2.2.1
    have F8 := fun w2 B v2 (k : Int) (hc : CurAt w2 B v2 c) => fail_to hc k (F [] k).2.2.2.2.2.2.2.2.2.2.2.1
    have F9 := fun w2 B v2 (hc : CurAt w2 B v2 c) => leave_to hc (F [] 0).2.2.2.2.2.2.2.2.2.2.2.2.1
    clear F hp hq hdead hn h hbig
    obtain ⟨B, hBn⟩ : ∃ B, B = w.heap.size := ⟨_, rfl⟩
    have HBn : Hid (B = w.heap.size) := hBn
    have hBw : B ≤ w.heap.size := by omega
    go_enter Try.func5, Try.ntmps5
    go_wp2_with fail
    refine HFew.mono ?_; rintro e w1 ⟨rfl, rfl⟩
    go_wp2_with fail
    refine HN.mono ?_; rintro e w1 ⟨v1, rfl, hc, hB, -⟩
    rw [← hBn] at hc hB ⊢
    clear HN HFew hBn
    go_wp2_with fail
    refine (hf0 _ _ _ hc).mono ?_; rintro e w2 ⟨rfl, hc, g2⟩
    have hB := hB.trans (below_grown g2 (Nat.le_refl _) (Nat.le_trans hBw hB.size))
    clear g2 hf0
    go_wp2_with fail
    refine (FD _ _ _ hc).mono ?_; rintro e w3 ⟨rfl, hB3⟩
    have hc := hc.below hB3
    have hB := hB.trans (hB3.mono (Nat.le_trans hBw hB.size))
    clear hB3
    go_wp2_with fail
    go_loopw [10] (fun i wr => ∃ j : Nat, j ≤ m ∧ i = .int .i64 (j : Int) ∧ CurAt wr B v1 c ∧ Below B w wr) (fun i _ => m - (intOf i).toNat)
    case atStart => exact ⟨0, Nat.zero_le _, rfl, hc, hB⟩
    case round =>
      clear hc hB
      obtain ⟨j, hj, rfl, hc, hB⟩ := hrel
      by_cases hjm : j < m
      · have hjm' : (j : Int) < m := by omega
        have hjd : j < ds.length := by rw [← HM.out]; exact hjm
        obtain ⟨g, o, rfl, hg, hcell⟩ : ∃ g o, b = some ⟨g, o, none⟩ ∧ g < w.heap.size ∧ ∀ j (hj : j < ds.length), DdAt w g o j ds[j] := by
          rcases HD.out with h | h
          · rw [h] at hjd; simp at hjd
          · exact h
        obtain ⟨a0, a1, a2⟩ := (hcell j hjd).below hB (by rw [HBn.out]; exact hg)
        generalize ds[j] = d at *
        have hl := hc.lt
        have hbd : Below wr.heap.size wr (wr.alloc (.cells #[.int .i64 d.kind, .int .i64 d.num, .string d.text] 34)) := (Below.refl _ wr).alloc (Nat.le_refl _) _
        have hc := hc.below hbd
        have q0 : (wr.alloc (.cells #[.int .i64 d.kind, .int .i64 d.num, .string d.text] 34)).grownBy (wr.alloc (.cells #[.int .i64 d.kind, .int .i64 d.num, .string d.text] 34)) (some B) := grownBy_below (Below.refl _ _) _
        have fin : ∀ w9, (wr.alloc (.cells #[.int .i64 d.kind, .int .i64 d.num, .string d.text] 34)).grownBy w9 (some B) → Below B w w9 := fun w9 h9 => (hB.trans (hbd.mono (Nat.le_trans hBw hB.size))).trans (below_grown h9 (Nat.le_refl _) (Nat.le_trans hBw (Nat.le_trans hB.size hbd.size)))
        have dd := fun w9 (h9 : (wr.alloc (.cells #[.int .i64 d.kind, .int .i64 d.num, .string d.text] 34)).grownBy w9 (some B)) => own_three h9 hl
        clear hbd hcell
        obtain ⟨x0, x1, x2⟩ := dd _ q0
        go_wp2_with fail
        refine (F1 _ _ _ d.num hc).mono ?_; rintro e w2 ⟨rfl, hc, g2⟩
        have q := grownBy_trans q0 g2
        have hbt : Below w2.heap.size w2 (w2.alloc (.cells #[.int .i64 0, .int .i64 0, .int .i64 0, .string ⟨#[]⟩] 29)) := (Below.refl _ w2).alloc (Nat.le_refl _) _
        have hc := hc.below hbt
        have q := grownBy_trans q (grownBy_below hbt (some B))
        clear x0 x1 x2 g2 hbt q0 a0 a1 a2
        go_wp2_with fail
        refine (F2 _ _ _ hc).mono ?_; rintro e w3 ⟨rfl, hc, g3⟩
        have q := grownBy_trans q g3
        clear g3
        obtain ⟨x0, x1, x2⟩ := dd _ q
        go_wp2_with fail
        refine (F3 _ _ _ d.text hc).mono ?_; rintro e w4 ⟨rfl, hB4⟩
        have q := grownBy_trans q (grownBy_below hB4 (some B))
        have hc := hc.below hB4
        clear x0 x1 x2 hB4
        obtain ⟨x0, x1, x2⟩ := dd _ q
        go_wp2_with fail
        refine (F4 _ _ _ d.text hc).mono ?_; rintro e w5 ⟨rfl, hc, g5⟩
        have q := grownBy_trans q g5
        clear x0 x1 x2 g5
        obtain ⟨x0, x1, x2⟩ := dd _ q
        go_wp2_with fail
        refine (F5 _ _ _ d.text hc).mono ?_; rintro e w6 ⟨rfl, hc, g6⟩
        have q := grownBy_trans q g6
        clear x0 x1 x2 g6
        obtain ⟨x0, x1, x2⟩ := dd _ q
        go_wp2_with fail
        refine (F6 _ _ _ d.text hc).mono ?_; rintro e w7 ⟨rfl, hB7⟩
        have q := grownBy_trans q (grownBy_below hB7 (some B))
        have hc := hc.below hB7
        clear x0 x1 x2 hB7
        obtain ⟨x0, x1, x2⟩ := dd _ q
        go_wp2_with fail
        refine (F7 _ _ _ hc).mono ?_; rintro e w8 ⟨rfl, hc, g8⟩
        have q := grownBy_trans q g8
        clear x0 x1 x2 g8
        obtain ⟨x0, x1, x2⟩ := dd _ q
        go_wp2_with fail
        refine (F8 _ _ _ d.num hc).mono ?_; rintro e w9 ⟨rfl, hc, g9⟩
        have q := grownBy_trans q g9
        clear x0 x1 x2 g9
        go_wp2_with fail
        refine (F9 _ _ _ hc).mono ?_; rintro e wa ⟨⟨r, rfl⟩, hc, ga⟩
        have q := grownBy_trans q ga
        clear ga
        go_wp2_with fail
        go_roundw
        case rel => exact ⟨j + 1, by omega, by go_num, hc, fin _ q⟩
        case measure => simp [intOf]; omega
      · obtain rfl : j = m := by omega
        go_wp2_with fail
        refine (FD _ _ _ hc).mono ?_; rintro e w3 ⟨rfl, hB3⟩
        have hB := hB.trans (hB3.mono (Nat.le_trans hBw hB.size))
        clear hB3
        go_wp2_with fail
        refine (awake_any _).mono ?_; rintro e w6 ⟨rfl, hB6⟩
        go_wp2
        try rw [Exit.noGoto_ret]
        go_ret
        have hX := hB.trans (hB6.mono (Nat.le_trans hBw hB.size))
        rw [HBn.out] at hX
        exact ⟨rfl, hX⟩
  · have hbf : (decide (n ≤ 100) && decide (m ≤ 300)) = false := by
      rw [Bool.and_eq_false_iff]
      by_cases h1 : n ≤ 100
      · exact .inr (by simp; omega)
      · exact .inl (by simp; omega)
    rw [hbf] at HFew
    clear h hbig hn hbf HD HM
    go_enter Try.func5, Try.ntmps5
    go_wp2_with fail
    refine HFew.mono ?_; rintro e w1 ⟨rfl, rfl⟩
    go_wp2_with fail
    refine (awake_any _).mono ?_; rintro e w2 ⟨rfl, hB⟩
    go_wp2
    go_ret
    exact ⟨rfl, hB⟩
end Go.Proofs.Ytehcccjgepbnjaa
