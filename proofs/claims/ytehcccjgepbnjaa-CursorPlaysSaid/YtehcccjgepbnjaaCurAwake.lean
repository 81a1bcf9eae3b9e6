/- awake of layer 5: the document's own example. -/
import Derived.Test.YtehcccjgepbnjaaCurNil
namespace Go.Proofs.Ytehcccjgepbnjaa
open Go.RowKit
attribute [local go_sem] fld0 fld1

theorem want_to {w : World} {B : Nat} {v : Value} {c c' : Cu} {b : Bool} (h : CurAt w B v c) (y : ByteArray) (e1 : c.want y.data.toList = c') (e2 : c.is y.data.toList = b) : Calls Try.prog 18 #[.pointer (some ⟨B, 0, none⟩), .string y] w (CurTo B v c' (.bool b) w) := by
  subst e1 e2; exact want_any h y
theorem take_to {w : World} {B : Nat} {v : Value} {c c' : Cu} {b : Bool} (h : CurAt w B v c) (y : ByteArray) (e1 : c.take y.data.toList = c') (e2 : c.is y.data.toList = b) : Calls Try.prog 16 #[.pointer (some ⟨B, 0, none⟩), .string y] w (CurTo B v c' (.bool b) w) := by
  subst e1 e2; exact take_any h y
theorem kind_to {w : World} {B : Nat} {v : Value} {c c' : Cu} {t : Tk} {b : Bool} (h : CurAt w B v c) (k : Int) (e1 : c.kind k = c') (e2 : c.kindT k = t) (e3 : c.kindOk k = b) : Calls Try.prog 20 #[.pointer (some ⟨B, 0, none⟩), .int .i64 k] w (CurTo B v c' (.tuple #[.agg #[.int .i64 t.kind, .int .i64 t.pos, .int .i64 t.num, .string ⟨t.text.toArray⟩], .bool b]) w) := by
  subst e1 e2 e3; exact kind_any h k
theorem enter_to {w : World} {B : Nat} {v : Value} {c c' : Cu} {b : Bool} (h : CurAt w B v c) (e1 : c.enter = c') (e2 : c.enters = b) : Calls Try.prog 24 #[.pointer (some ⟨B, 0, none⟩)] w (CurTo B v c' (.bool b) w) := by
  subst e1 e2; exact enter_any h
theorem next_to {w : World} {B : Nat} {v : Value} {c c' : Cu} {t : Tk} (h : CurAt w B v c) (e1 : c.adv = c') (e2 : c.peek = t) : Calls Try.prog 12 #[.pointer (some ⟨B, 0, none⟩)] w (CurTo B v c' (.agg #[.int .i64 t.kind, .int .i64 t.pos, .int .i64 t.num, .string ⟨t.text.toArray⟩]) w) := by
  subst e1 e2; exact next_any h
theorem peek_to {w : World} {B : Nat} {v : Value} {c : Cu} {t : Tk} (h : CurAt w B v c) (e2 : c.peek = t) : Calls Try.prog 31 #[.pointer (some ⟨B, 0, none⟩)] w fun e w' => e = .returned (.agg #[.int .i64 t.kind, .int .i64 t.pos, .int .i64 t.num, .string ⟨t.text.toArray⟩]) ∧ Below w.heap.size w w' := by
  subst e2; exact peek_any h
theorem is_to {w : World} {B : Nat} {v : Value} {c : Cu} {b : Bool} (h : CurAt w B v c) (y : ByteArray) (e2 : c.is y.data.toList = b) : Calls Try.prog 13 #[.pointer (some ⟨B, 0, none⟩), .string y] w (RunsTo b w) := by
  subst e2; exact is_any h y
theorem ahead_to {w : World} {B : Nat} {v : Value} {c : Cu} {b : Bool} (h : CurAt w B v c) (y : ByteArray) (e2 : c.ahead y.data.toList = b) : Calls Try.prog 21 #[.pointer (some ⟨B, 0, none⟩), .string y] w (RunsTo b w) := by
  subst e2; exact ahead_any h y
theorem done_to {w : World} {B : Nat} {v : Value} {c : Cu} {p x : Int} (h : CurAt w B v c) (e1 : c.doneP = p) (e2 : c.doneE = x) : Calls Try.prog 29 #[.pointer (some ⟨B, 0, none⟩)] w (DoneIs p x w) := by
  subst e1 e2; exact done_any h

def exL : List Tk := [⟨1, 2, 0, [97]⟩, ⟨5, 4, 0, [59]⟩, ⟨0, 5, 0, []⟩]
def exW : List Tk := [⟨1, 2, 0, [97]⟩, ⟨5, 4, 0, [59]⟩]
def cu (at' nest : Nat) (pos err : Int) : Cu := ⟨exW, 5, at', nest, pos, err⟩
theorem ex_new : newCu exL = cu 0 0 0 0 := by kernel_rfl

set_option maxRecDepth 100000 in
set_option maxHeartbeats 8000000 in
theorem awake_any (w : World) : Calls Try.prog 8 #[] w (RunsTo true w) := by
  have hBl := (Below.refl _ w).alloc (Nat.le_refl _) (.cells #[.int .i64 1, .int .i64 2, .int .i64 0, .string ⟨#[97]⟩, .int .i64 5, .int .i64 4, .int .i64 0, .string ⟨#[59]⟩, .int .i64 0, .int .i64 5, .int .i64 0, .string ⟨#[]⟩] 29)
  have hrow : ArgRow (w.alloc (.cells #[.int .i64 1, .int .i64 2, .int .i64 0, .string ⟨#[97]⟩, .int .i64 5, .int .i64 4, .int .i64 0, .string ⟨#[59]⟩, .int .i64 0, .int .i64 5, .int .i64 0, .string ⟨#[]⟩] 29)) (.slice (some ⟨w.heap.size, 0, none⟩) 3 3) exL := by
    refine .inr ⟨_, 3, rfl, by decide, .inr ⟨w.heap.size, 0, rfl, by simp, fun j hj => ?_⟩⟩
    unfold TkAt
    simp only [World.cell?_alloc_at _ _ _ _ rfl]
    match j, hj with
    | 0, _ => exact ⟨rfl, rfl, rfl, rfl⟩
    | 1, _ => exact ⟨rfl, rfl, rfl, rfl⟩
    | 2, _ => exact ⟨rfl, rfl, rfl, rfl⟩
  have N1 := new_any _ exL _ hrow (by decide)
  rw [ex_new] at N1
  have N2 := fun w2 hb => new_any _ exL w2 (hrow.below hb) (by decide)
  rw [ex_new] at N2
  clear hrow
  go_enter Try.func8, Try.ntmps8
  go_wp2_with fail
  refine N1.mono ?_; rintro e w1 ⟨v1, rfl, h1, hB1, -⟩
  have hl1 : w.heap.size + 1 < w1.heap.size := by simpa using h1.lt
  go_wp2_with fail
  refine (N2 w1 hB1).mono ?_; rintro e w2 ⟨v2, rfl, h2, hB2, hf2⟩
  clear N1 N2
  have h1 := h1.below hB2
  have hb2 := hBl.trans ((hB1.trans (hB2.mono hB1.size)).mono hBl.size)
  simp only [World.size_alloc] at h1
  generalize w1.heap.size = B2 at *
  go_wp2_with fail
  refine (want_to h1 ⟨#[59]⟩ (c' := cu 0 0 2 5) (b := false) (by kernel_rfl) (by kernel_rfl)).mono ?_; rintro e w3 ⟨rfl, h1, g3⟩
  have h2 := h2.kept g3 (by omega) (fun _ g o n cap h => by have := hf2 g o n cap h; omega)
  have hb3 := below_grown (n := w.heap.size) g3 (by omega) hb2.size
  have hb := hb2.trans hb3
  clear hb2 hb3 g3 hB2 hB1 hBl
  go_wp2_with fail
  refine (want_to h1 ⟨#[59]⟩ (c' := cu 0 0 2 5) (b := false) (by kernel_rfl) (by kernel_rfl)).mono ?_; rintro e w4 ⟨rfl, h1, g3⟩
  have h2 := h2.kept g3 (by omega) (fun _ g o n cap h => by have := hf2 g o n cap h; omega)
  have hb := hb.trans (below_grown (n := w.heap.size) g3 (by omega) hb.size)
  clear g3
  go_wp2_with fail
  refine (done_to h1 (p := 2) (x := 5) (by kernel_rfl) (by kernel_rfl)).mono ?_; rintro e w5 ⟨rfl, hB5⟩
  have h2 := h2.below hB5
  have hb := hb.trans (hB5.mono hb.size)
  clear h1 hB5
  go_wp2_with fail
  refine (kind_to h2 1 (c' := cu 1 0 0 0) (t := ⟨1, 2, 0, [97]⟩) (b := true) (by kernel_rfl) (by kernel_rfl) (by kernel_rfl)).mono ?_; rintro e w6 ⟨rfl, h2, g3⟩
  have hB26 := h2.lt
  have hb := hb.trans (below_grown (n := w.heap.size) g3 (by omega) hb.size)
  clear g3
  have hbt : Below w6.heap.size w6 (w6.alloc (.cells #[.int .i64 1, .int .i64 2, .int .i64 0, .string ⟨#[97]⟩] 29)) := (Below.refl _ w6).alloc (Nat.le_refl _) _
  have h2 := h2.below hbt
  have hb6 := hb.size
  have hb := hb.alloc hb.size (.cells #[.int .i64 1, .int .i64 2, .int .i64 0, .string ⟨#[97]⟩] 29)
  clear hbt
  go_wp2_with fail
  refine (ahead_to h2 ⟨#[59]⟩ (b := false) (by kernel_rfl)).mono ?_; rintro e w7 ⟨rfl, hB7⟩
  have h2 := h2.below hB7
  have hb := hb.trans (hB7.mono hb.size)
  go_wp2_with fail
  refine (take_to h2 ⟨#[59]⟩ (c' := cu 2 0 0 0) (b := true) (by kernel_rfl) (by kernel_rfl)).mono ?_; rintro e w8 ⟨rfl, h2, g8⟩
  have hb := hb.trans (below_grown (n := w.heap.size) g8 (by omega) hb.size)
  have g8 := grownBy_trans (grownBy_below hB7 (some B2)) g8
  clear hB7
  go_wp2_with fail
  refine (done_to h2 (p := 5) (x := 0) (by kernel_rfl) (by kernel_rfl)).mono ?_; rintro e w9 ⟨rfl, hB9⟩
  have h2 := h2.below hB9
  have hb := hb.trans (hB9.mono hb.size)
  have g8 := grownBy_trans g8 (grownBy_below hB9 (some B2))
  clear hB9
  obtain ⟨d0, d1, d2, d3, -, -, -, -⟩ := own_four g8 hB26
  clear d0 d1 d2 g8
  go_wp2_with fail
  refine (enter_to h2 (c' := cu 2 1 0 0) (b := true) (by kernel_rfl) (by kernel_rfl)).mono ?_; rintro e wa ⟨rfl, h2, ga⟩
  have hb := hb.trans (below_grown (n := w.heap.size) ga (by omega) hb.size)
  go_wp2_with fail
  refine (peek_to h2 (t := ⟨0, 5, 0, []⟩) (by kernel_rfl)).mono ?_; rintro e wb ⟨rfl, hBb⟩
  have h2 := h2.below hBb
  have hb := hb.trans (hBb.mono hb.size)
  go_wp2_with fail
  refine (next_to h2 (c' := cu 2 1 0 0) (t := ⟨0, 5, 0, []⟩) (by kernel_rfl) (by kernel_rfl)).mono ?_; rintro e wc ⟨rfl, h2, gc⟩
  have hb := hb.trans (below_grown (n := w.heap.size) gc (by omega) hb.size)
  go_wp2_with fail
  refine (is_to h2 ⟨#[59]⟩ (b := false) (by kernel_rfl)).mono ?_; rintro e wd ⟨rfl, hBd⟩
  go_wp2
  go_ret
  exact ⟨rfl, hb.trans (hBd.mono hb.size)⟩
end Go.Proofs.Ytehcccjgepbnjaa
