/- The contracts of a cursor's Kind and Done. -/
import Derived.Test.YtehcccjgepbnjaaCurOps2
namespace Go.Proofs.Ytehcccjgepbnjaa
open Go.RowKit
attribute [local go_sem] fld0 fld1

def Cu.kind (c : Cu) (k : Int) : Cu := if c.err = 0 then (if (c.tok c.at').kind = k then c.adv else c.fail 5) else c
def Cu.kindT (c : Cu) (k : Int) : Tk := if c.err = 0 ∧ (c.tok c.at').kind = k then c.tok c.at' else zeroT
def Cu.kindOk (c : Cu) (k : Int) : Bool := decide (c.err = 0) && decide ((c.tok c.at').kind = k)
theorem zero_val : zeroT.val = .agg #[.int .i64 0, .int .i64 0, .int .i64 0, .string ⟨#[]⟩] := rfl
theorem CurAt.put0 {w X : World} {B b : Nat} {v : Value} {c c' : Cu} (h : CurAt w B v c) (hws : c'.ws = c.ws) (hb : w.heap.size ≤ b) (hX : CurAt X B v c' ∧ w.grownBy X (some B)) (i : Nat) (x : Value) :
    CurAt (X.setCell ⟨b, i, none⟩ x) B v c' ∧ w.grownBy (X.setCell ⟨b, i, none⟩ x) (some B) := CurAt.put h hws hb hX i x
theorem fail_ws (c : Cu) (x : Int) : (c.fail x).ws = c.ws := by unfold Cu.fail; split <;> rfl
theorem adv_ws (c : Cu) : c.adv.ws = c.ws := by unfold Cu.adv; split <;> rfl
/-- a block of the call's own, behind a turn of the cursor -/
theorem own_block {w w' : World} {B : Nat} {cs : Array Value} {ty : TypeId} (hg : (w.alloc (.cells cs ty)).grownBy w' (some B)) (hB : B < w.heap.size) (j : Nat) :
    w'.cell? ⟨w.heap.size, j, none⟩ = cs[j]? ∧ w'.frozen? ⟨w.heap.size, j, none⟩ = false := by
  have h1 : w'.heap[w.heap.size]? = some (.cells cs ty (0, 0)) := (hg.block _ (by simp) (fun e => by injection e; omega)).trans (World.alloc_heap_new w _)
  constructor
  · simp [World.cell?, h1]
  · simp [World.frozen?, h1]
theorem own_four {w w' : World} {B : Nat} {x0 x1 x2 x3 : Value} {ty : TypeId} (hg : (w.alloc (.cells #[x0, x1, x2, x3] ty)).grownBy w' (some B)) (hB : B < w.heap.size) :
    w'.cell? ⟨w.heap.size, 0, none⟩ = some x0 ∧ w'.cell? ⟨w.heap.size, 1, none⟩ = some x1 ∧ w'.cell? ⟨w.heap.size, 2, none⟩ = some x2 ∧ w'.cell? ⟨w.heap.size, 3, none⟩ = some x3 ∧
    w'.frozen? ⟨w.heap.size, 0, none⟩ = false ∧ w'.frozen? ⟨w.heap.size, 1, none⟩ = false ∧ w'.frozen? ⟨w.heap.size, 2, none⟩ = false ∧ w'.frozen? ⟨w.heap.size, 3, none⟩ = false :=
  ⟨(own_block hg hB 0).1, (own_block hg hB 1).1, (own_block hg hB 2).1, (own_block hg hB 3).1, (own_block hg hB 0).2, (own_block hg hB 1).2, (own_block hg hB 2).2, (own_block hg hB 3).2⟩
set_option maxHeartbeats 3200000 in
theorem kind_any {w : World} {B : Nat} {v : Value} {c : Cu} (h : CurAt w B v c) (k : Int) : Calls Try.prog 20 #[.pointer (some ⟨B, 0, none⟩), .int .i64 k] w (CurTo B v (c.kind k) (.tuple #[(c.kindT k).val, .bool (c.kindOk k)]) w) := by
  have hlt := h.lt
  have hBa := (Below.refl _ w).alloc (Nat.le_refl _) zeroC
  have hal := h.below hBa
  have HF := failed_any hal
  have HW := word_any hal
  have hv : Hid ((c.tok c.at').val = .agg #[.int .i64 (c.tok c.at').kind, .int .i64 (c.tok c.at').pos, .int .i64 (c.tok c.at').num, .string ⟨(c.tok c.at').text.toArray⟩]) := rfl
  rw [hv.out] at HW
  obtain ⟨⟨-, -, -, -, -, c5, -, -, -⟩, -⟩ := hal.all
  by_cases he : c.err = 0
  · have hb : (c.err != 0) = false := by rw [he]; rfl
    rw [hb] at HF
    by_cases hk : (c.tok c.at').kind = k
    · have hkb : ((c.tok c.at').kind != k) = false := by rw [hk]; simp
      have hR1 : Hid (c.kind k = c.adv) := by show _ = _; unfold Cu.kind; rw [if_pos he, if_pos hk]
      have hR2 : Hid (c.kindT k = c.tok c.at') := by show _ = _; unfold Cu.kindT; rw [if_pos ⟨he, hk⟩]
      have hR3 : Hid (c.kindOk k = true) := by show _ = _; unfold Cu.kindOk; simp [he, hk]
      have hpk : c.peek = c.tok c.at' := by unfold Cu.peek; rw [if_pos he]
      have HN := fun w2 (hB : Below (w.alloc zeroC).heap.size (w.alloc zeroC) w2) => next_any (hal.below hB)
      rw [hpk, hv.out] at HN
      generalize c.tok c.at' = t at *
      clear he hb hk hpk
      go_enter Try.func20, Try.ntmps20
      go_wp2_with fail
      refine HF.mono ?_; rintro e w1 ⟨rfl, rfl⟩
      go_wp2_with fail
      refine HW.mono ?_; rintro e w2 ⟨rfl, hB2⟩
      go_wp2_with fail
      refine (HN w2 hB2).mono ?_; rintro e w3 ⟨rfl, k1, k2⟩
      have hg3 := grownBy_trans (grownBy_below hB2 (some B)) k2
      obtain ⟨d0, d1, d2, d3, f0, f1, f2, f3⟩ := own_four hg3 hlt
      go_wp2_with fail
      refine bodyPost_ret (v := .tuple #[.agg #[.int .i64 t.kind, .int .i64 t.pos, .int .i64 t.num, .string ⟨t.text.toArray⟩], .bool true]) (by simp [results, Try.results20, go_sem, d0, d1, d2, d3]) rfl ?_
      rw [hR1.out, hR2.out, hR3.out, hv.out]
      refine ⟨rfl, ?_⟩
      repeat refine CurAt.put h (adv_ws c) (Nat.le_refl _) ?_ _ _
      exact ⟨k1, grownBy_trans (grownBy_below hBa _) hg3⟩
    · have hkb : ((c.tok c.at').kind != k) = true := by rw [bne_iff_ne]; exact hk
      have hR1 : Hid (c.kind k = c.fail 5) := by show _ = _; unfold Cu.kind; rw [if_pos he, if_neg hk]
      have hR2 : Hid (c.kindT k = zeroT) := by show _ = _; unfold Cu.kindT; rw [if_neg (fun q => hk q.2)]
      have hR3 : Hid (c.kindOk k = false) := by show _ = _; unfold Cu.kindOk; simp [hk]
      have HN := fun w2 (hB : Below (w.alloc zeroC).heap.size (w.alloc zeroC) w2) => fail_any (hal.below hB) 5
      generalize c.tok c.at' = t at *
      clear he hb hk
      go_enter Try.func20, Try.ntmps20
      go_wp2_with fail
      refine HF.mono ?_; rintro e w1 ⟨rfl, rfl⟩
      go_wp2_with fail
      refine HW.mono ?_; rintro e w2 ⟨rfl, hB2⟩
      go_wp2_with fail
      refine (HN w2 hB2).mono ?_; rintro e w3 ⟨rfl, k1, k2⟩
      have hg3 := grownBy_trans (grownBy_below hB2 (some B)) k2
      obtain ⟨d0, d1, d2, d3, f0, f1, f2, f3⟩ := own_four hg3 hlt
      go_wp2_with fail
      refine bodyPost_ret (v := .tuple #[.agg #[.int .i64 0, .int .i64 0, .int .i64 0, .string ⟨#[]⟩], .bool false]) (by simp [results, Try.results20, go_sem, d0, d1, d2, d3]) rfl ?_
      rw [hR1.out, hR2.out, hR3.out, zero_val]
      refine ⟨rfl, ?_⟩
      repeat refine CurAt.put h (fail_ws c 5) (Nat.le_refl _) ?_ _ _
      exact ⟨k1, grownBy_trans (grownBy_below hBa _) hg3⟩
  · have hb : (c.err != 0) = true := by rw [bne_iff_ne]; exact he
    rw [hb] at HF
    have hR1 : Hid (c.kind k = c) := by show _ = _; unfold Cu.kind; rw [if_neg he]
    have hR2 : Hid (c.kindT k = zeroT) := by show _ = _; unfold Cu.kindT; rw [if_neg (fun q => he q.1)]
    have hR3 : Hid (c.kindOk k = false) := by show _ = _; unfold Cu.kindOk; simp [he]
    clear he hb
    go_enter Try.func20, Try.ntmps20
    go_wp2_with fail
    refine HF.mono ?_; rintro e w1 ⟨rfl, rfl⟩
    go_wp2_with fail
    refine bodyPost_ret (v := .tuple #[.agg #[.int .i64 0, .int .i64 0, .int .i64 0, .string ⟨#[]⟩], .bool false]) (by simp [results, Try.results20, go_sem]) rfl ?_
    rw [hR1.out, hR2.out, hR3.out, zero_val]
    exact CurTo.of_below h hBa

def Cu.doneP (c : Cu) : Int := if c.err = 0 then (c.tok c.at').pos else c.pos
def Cu.doneE (c : Cu) : Int := if c.err = 0 then (if (c.tok c.at').kind = 0 then 0 else 5) else c.err
def DoneIs (p x : Int) (w : World) (e : Ending) (w' : World) : Prop := e = .returned (.tuple #[.int .i64 p, .int .i64 x]) ∧ Below w.heap.size w w'
set_option maxHeartbeats 3200000 in
theorem done_any {w : World} {B : Nat} {v : Value} {c : Cu} (h : CurAt w B v c) : Calls Try.prog 29 #[.pointer (some ⟨B, 0, none⟩)] w (DoneIs c.doneP c.doneE w) := by
  have hlt := h.lt
  have HW := word_any h
  have hv : Hid ((c.tok c.at').val = .agg #[.int .i64 (c.tok c.at').kind, .int .i64 (c.tok c.at').pos, .int .i64 (c.tok c.at').num, .string ⟨(c.tok c.at').text.toArray⟩]) := rfl
  rw [hv.out] at HW
  obtain ⟨⟨-, -, -, -, -, c5, -, c7, c8⟩, -⟩ := h.all
  by_cases he : c.err = 0
  · have hb : (c.err != 0) = false := by rw [he]; rfl
    have hP : Hid (c.doneP = (c.tok c.at').pos) := by show _ = _; unfold Cu.doneP; rw [if_pos he]
    have hE : Hid (c.doneE = if (c.tok c.at').kind = 0 then 0 else 5) := by show _ = _; unfold Cu.doneE; rw [if_pos he]
    generalize c.tok c.at' = t at *
    clear he hv
    by_cases hk : t.kind = 0
    · have hkb : (t.kind != 0) = false := by rw [hk]; rfl
      have hE : Hid (c.doneE = 0) := by show _ = _; rw [hE.out, if_pos hk]
      clear hk
      go_enter Try.func29, Try.ntmps29
      go_wp2_with fail
      refine HW.mono ?_; rintro e w2 ⟨rfl, hB2⟩
      go_wp2_with fail
      refine bodyPost_ret (v := .tuple #[.int .i64 t.pos, .int .i64 0]) (by simp [results, Try.results29, go_sem]) rfl ⟨by rw [hP.out, hE.out], hB2.alloc hB2.size _⟩
    · have hkb : (t.kind != 0) = true := by rw [bne_iff_ne]; exact hk
      have hE : Hid (c.doneE = 5) := by show _ = _; rw [hE.out, if_neg hk]
      clear hk
      go_enter Try.func29, Try.ntmps29
      go_wp2_with fail
      refine HW.mono ?_; rintro e w2 ⟨rfl, hB2⟩
      go_wp2_with fail
      refine bodyPost_ret (v := .tuple #[.int .i64 t.pos, .int .i64 5]) (by simp [results, Try.results29, go_sem]) rfl ⟨by rw [hP.out, hE.out], hB2.alloc hB2.size _⟩
  · have hb : (c.err != 0) = true := by rw [bne_iff_ne]; exact he
    have hP : Hid (c.doneP = c.pos) := by show _ = _; unfold Cu.doneP; rw [if_neg he]
    have hE : Hid (c.doneE = c.err) := by show _ = _; unfold Cu.doneE; rw [if_neg he]
    clear he hv HW
    go_enter Try.func29, Try.ntmps29
    go_wp2_with fail
    go_quiet (fail)
    go_wp2_with fail
    refine bodyPost_ret (v := .tuple #[.int .i64 c.pos, .int .i64 c.err]) (by simp [results, Try.results29, go_sem]) rfl ⟨by rw [hP.out, hE.out], below_drewN (Below.refl _ _) _⟩
end Go.Proofs.Ytehcccjgepbnjaa
