/- The contracts of a cursor's functions that turn it: Next, Take, Want, Enter, Leave. -/
import Derived.Test.YtehcccjgepbnjaaCurOps
namespace Go.Proofs.Ytehcccjgepbnjaa
open Go.RowKit
attribute [local go_sem] fld0 fld1

def Cu.adv (c : Cu) : Cu := if c.err = 0 ∧ c.at' < c.ws.length then { c with at' := c.at' + 1 } else c
theorem peek_kind {w : World} {B : Nat} {v : Value} {c : Cu} (h : CurAt w B v c) : (c.peek.kind ≠ 0 ↔ c.err = 0 ∧ c.at' < c.ws.length) := by
  unfold Cu.peek
  by_cases he : c.err = 0
  · rw [if_pos he]
    by_cases hl : c.at' < c.ws.length
    · have : c.tok c.at' = c.ws[c.at'] := by unfold Cu.tok; rw [List.getD_eq_getElem?_getD, List.getElem?_eq_getElem hl]; rfl
      rw [this]
      exact ⟨fun _ => ⟨he, hl⟩, fun _ => h.kinds _ (List.getElem_mem hl)⟩
    · rw [tok_end (by omega)]
      exact ⟨fun q => absurd rfl q, fun q => absurd q.2 hl⟩
  · rw [if_neg he]
    exact ⟨fun q => absurd rfl q, fun q => absurd q.1 he⟩
/-- behind the store of the place -/
theorem CurAt.moved {w : World} {B : Nat} {v : Value} {c : Cu} (h : CurAt w B v c) (hl : c.at' < c.ws.length) :
    CurAt (w.setCell ⟨B, 5, none⟩ (.int .i64 ((c.at' : Int) + 1))) B v { c with at' := c.at' + 1 } ∧ w.grownBy (w.setCell ⟨B, 5, none⟩ (.int .i64 ((c.at' : Int) + 1))) (some B) := by
  have hg : w.grownBy (w.setCell ⟨B, 5, none⟩ (.int .i64 ((c.at' : Int) + 1))) (some B) := by
    refine ⟨rfl, rfl, rfl, by simp, fun k hk hne => ?_⟩
    rw [Below.heap_setCell _ _ _ k (fun e => hne (by rw [e]))]
  exact ⟨⟨heap_set h.cells _, h.row.kept hg, hl, h.few, h.kinds, h.deep⟩, hg⟩
theorem CurAt.deeper {w : World} {B : Nat} {v : Value} {c : Cu} (h : CurAt w B v c) (x : Int) (n : Nat) (hx : x = n) (hn : n ≤ 200) :
    CurAt (w.setCell ⟨B, 6, none⟩ (.int .i64 x)) B v { c with nest := n } ∧ w.grownBy (w.setCell ⟨B, 6, none⟩ (.int .i64 x)) (some B) := by
  have hg : w.grownBy (w.setCell ⟨B, 6, none⟩ (.int .i64 x)) (some B) := by
    refine ⟨rfl, rfl, rfl, by simp, fun k hk hne => ?_⟩
    rw [Below.heap_setCell _ _ _ k (fun e => hne (by rw [e]))]
  subst hx
  exact ⟨⟨heap_set h.cells _, h.row.kept hg, h.le, h.few, h.kinds, hn⟩, hg⟩
/-- stores into a block that is no cursor's -/
theorem CurAt.beside {w : World} {B : Nat} {v : Value} {c : Cu} (h : CurAt w B v c) {n : Nat} (hn : n = w.heap.size) {w' : World} (hB : Below n w w') : CurAt w' B v c := by
  subst hn; exact h.below hB

set_option maxHeartbeats 1600000 in
theorem next_any {w : World} {B : Nat} {v : Value} {c : Cu} (h : CurAt w B v c) : Calls Try.prog 12 #[.pointer (some ⟨B, 0, none⟩)] w (CurTo B v c.adv c.peek.val w) := by
  have hlt := h.lt
  have hBa := (Below.refl _ w).alloc (Nat.le_refl _) zeroC
  have hal := h.below hBa
  have HP := peek_any hal
  have hk := peek_kind h
  have hle := h.few
  have hv : Hid (c.peek.val = .agg #[.int .i64 c.peek.kind, .int .i64 c.peek.pos, .int .i64 c.peek.num, .string ⟨c.peek.text.toArray⟩]) := rfl
  rw [hv.out] at HP
  by_cases hkind : c.peek.kind = 0
  · have hadv : Hid (c.adv = c) := by show _ = _; unfold Cu.adv; rw [if_neg (fun q => (hk.2 q) hkind)]
    have hb : (c.peek.kind != 0) = false := by rw [hkind]; rfl
    clear hk hkind
    generalize c.peek = t at *
    go_enter Try.func12, Try.ntmps12
    go_wp2_with fail
    refine HP.mono ?_; rintro e w2 ⟨rfl, hB2⟩
    have hBt := hB2.alloc hB2.size (.cells #[.int .i64 t.kind, .int .i64 t.pos, .int .i64 t.num, .string ⟨t.text.toArray⟩] 29)
    obtain ⟨d0, d1, d2, d3, f0, f1, f2, f3⟩ := below_one hBt
    go_wp2_with fail
    refine bodyPost_ret (v := .agg #[.int .i64 t.kind, .int .i64 t.pos, .int .i64 t.num, .string ⟨t.text.toArray⟩]) (by simp [results, Try.results12, go_sem, d0, d1, d2, d3]) rfl ?_
    rw [hadv.out, hv.out]
    refine CurTo.of_below h ?_
    repeat refine Below.setCell ?_ (by simp) _
    exact hBa.trans (hBt.mono hBa.size)
  · have hp := hk.1 hkind
    have hadv : Hid (c.adv = { c with at' := c.at' + 1 }) := by show _ = _; unfold Cu.adv; rw [if_pos hp]
    have hb : (c.peek.kind != 0) = true := by rw [bne_iff_ne]; exact hkind
    have hl := hp.2
    clear hk hkind hp
    generalize c.peek = t at *
    go_enter Try.func12, Try.ntmps12
    go_wp2_with fail
    refine HP.mono ?_; rintro e w2 ⟨rfl, hB2⟩
    have hBt := hB2.alloc hB2.size (.cells #[.int .i64 t.kind, .int .i64 t.pos, .int .i64 t.num, .string ⟨t.text.toArray⟩] 29)
    obtain ⟨d0, d1, d2, d3, f0, f1, f2, f3⟩ := below_one hBt
    have hcur := hal.below hBt
    obtain ⟨⟨-, -, -, -, -, c5, -, -, -⟩, g5, -, -, -⟩ := hcur.all
    obtain ⟨k1, k2⟩ := hcur.moved hl
    go_wp2_with fail
    refine bodyPost_ret (v := .agg #[.int .i64 t.kind, .int .i64 t.pos, .int .i64 t.num, .string ⟨t.text.toArray⟩]) (by simp [results, Try.results12, go_sem, d0, d1, d2, d3]) rfl ?_
    rw [hadv.out, hv.out]
    refine ⟨rfl, ?_⟩
    repeat refine CurAt.put h (by rfl) (Nat.le_refl _) ?_ _ _
    exact ⟨k1, grownBy_trans (grownBy_below (hBa.trans (hBt.mono hBa.size)) _) k2⟩

def Cu.take (c : Cu) (x : List UInt8) : Cu := if c.is x = true then { c with at' := c.at' + 1 } else c
theorem is_kind {c : Cu} {x : List UInt8} (h : c.is x = true) : c.err = 0 ∧ c.at' < c.ws.length := by
  unfold Cu.is isOne at h
  simp only [Bool.and_eq_true, decide_eq_true_eq, Bool.or_eq_true] at h
  refine ⟨h.1, ?_⟩
  rcases Nat.lt_or_ge c.at' c.ws.length with hl | hl
  · exact hl
  · have := h.2.1
    rw [tok_end hl] at this
    simp at this
set_option maxHeartbeats 1600000 in
theorem take_any {w : World} {B : Nat} {v : Value} {c : Cu} (h : CurAt w B v c) (y : ByteArray) : Calls Try.prog 16 #[.pointer (some ⟨B, 0, none⟩), .string y] w (CurTo B v (c.take y.data.toList) (.bool (c.is y.data.toList)) w) := by
  have HI := is_any h y
  have hle := h.few
  cases hi : c.is y.data.toList with
  | false =>
    have hR : Hid (c.take y.data.toList = c) := by show _ = _; unfold Cu.take; rw [hi]; rfl
    rw [hi] at HI
    clear hi
    go_enter Try.func16, Try.ntmps16
    go_wp2_with fail
    refine HI.mono ?_; rintro e w1 ⟨rfl, hB⟩
    go_wp2
    go_ret
    rw [hR.out]
    exact CurTo.of_below h hB
  | true =>
    have hR : Hid (c.take y.data.toList = { c with at' := c.at' + 1 }) := by show _ = _; unfold Cu.take; rw [hi]; rfl
    have hl := (is_kind hi).2
    rw [hi] at HI
    clear hi
    go_enter Try.func16, Try.ntmps16
    go_wp2_with fail
    refine HI.mono ?_; rintro e w1 ⟨rfl, hB⟩
    have hcur := h.below hB
    obtain ⟨⟨-, -, -, -, -, c5, -, -, -⟩, g5, -, -, -⟩ := hcur.all
    obtain ⟨k1, k2⟩ := hcur.moved hl
    go_wp2
    go_ret
    rw [hR.out]
    exact ⟨rfl, k1, grownBy_trans (grownBy_below hB _) k2⟩

def Cu.want (c : Cu) (x : List UInt8) : Cu := if c.is x = true then c.take x else c.fail 5
set_option maxHeartbeats 1600000 in
theorem want_any {w : World} {B : Nat} {v : Value} {c : Cu} (h : CurAt w B v c) (y : ByteArray) : Calls Try.prog 18 #[.pointer (some ⟨B, 0, none⟩), .string y] w (CurTo B v (c.want y.data.toList) (.bool (c.is y.data.toList)) w) := by
  have HT := take_any h y
  cases hi : c.is y.data.toList with
  | false =>
    have hR : Hid (c.want y.data.toList = c.fail 5) := by show _ = _; unfold Cu.want; rw [hi]; rfl
    have hT : c.take y.data.toList = c := by unfold Cu.take; rw [hi]; rfl
    rw [hi, hT] at HT
    clear hi hT
    go_enter Try.func18, Try.ntmps18
    go_wp2_with fail
    refine HT.mono ?_; rintro e w1 ⟨rfl, hc, hg⟩
    go_wp2_with fail
    refine (fail_any hc 5).mono ?_; rintro e w2 ⟨rfl, hc2, hg2⟩
    go_wp2
    go_ret
    rw [hR.out]
    exact ⟨rfl, hc2, grownBy_trans hg hg2⟩
  | true =>
    have hR : Hid (c.want y.data.toList = c.take y.data.toList) := by show _ = _; unfold Cu.want; rw [hi]; rfl
    rw [hi] at HT
    clear hi
    go_enter Try.func18, Try.ntmps18
    go_wp2_with fail
    refine HT.mono ?_; rintro e w1 ⟨rfl, hc, hg⟩
    go_wp2
    go_ret
    rw [hR.out]
    exact ⟨rfl, hc, hg⟩

def Cu.enter (c : Cu) : Cu := if c.err = 0 then (if 200 ≤ c.nest then c.fail 2 else { c with nest := c.nest + 1 }) else c
def Cu.enters (c : Cu) : Bool := decide (c.err = 0) && decide (c.nest < 200)
set_option maxHeartbeats 1600000 in
theorem enter_any {w : World} {B : Nat} {v : Value} {c : Cu} (h : CurAt w B v c) : Calls Try.prog 24 #[.pointer (some ⟨B, 0, none⟩)] w (CurTo B v c.enter (.bool c.enters) w) := by
  have HF := failed_any h
  obtain ⟨⟨-, -, -, -, -, -, c6, -, -⟩, -, f6, -, -⟩ := h.all
  by_cases he : c.err = 0
  · have hb : (c.err != 0) = false := by rw [he]; rfl
    rw [hb] at HF
    by_cases hn : 200 ≤ c.nest
    · have hR : Hid (c.enter = c.fail 2) := by show _ = _; unfold Cu.enter; rw [if_pos he, if_pos hn]
      have hE : Hid (c.enters = false) := by show _ = _; unfold Cu.enters; simp; omega
      have hd : decide ((200 : Int) ≤ c.nest) = true := by simp; omega
      have hFl := fail_any h 2
      clear he hb hn
      go_enter Try.func24, Try.ntmps24
      go_wp2_with fail
      refine HF.mono ?_; rintro e w1 ⟨rfl, rfl⟩
      go_wp2_with fail
      refine hFl.mono ?_; rintro e w2 ⟨rfl, hc2, hg2⟩
      go_wp2
      go_ret
      rw [hR.out, hE.out]
      exact ⟨rfl, hc2, hg2⟩
    · have hR : Hid (c.enter = { c with nest := c.nest + 1 }) := by show _ = _; unfold Cu.enter; rw [if_pos he, if_neg hn]
      have hE : Hid (c.enters = true) := by show _ = _; unfold Cu.enters; simp [he]; omega
      have hd : decide ((200 : Int) ≤ c.nest) = false := by simp; omega
      have hn' : c.nest < 200 := by omega
      obtain ⟨k1, k2⟩ := h.deeper ((c.nest : Int) + 1) (c.nest + 1) (by omega) (by omega)
      clear he hb hn
      go_enter Try.func24, Try.ntmps24
      go_wp2_with fail
      refine HF.mono ?_; rintro e w1 ⟨rfl, rfl⟩
      go_wp2_with fail
      go_ret
      rw [hR.out, hE.out]
      exact ⟨rfl, k1, k2⟩
  · have hb : (c.err != 0) = true := by rw [bne_iff_ne]; exact he
    rw [hb] at HF
    have hR : Hid (c.enter = c) := by show _ = _; unfold Cu.enter; rw [if_neg he]
    have hE : Hid (c.enters = false) := by show _ = _; unfold Cu.enters; simp [he]
    clear he hb
    go_enter Try.func24, Try.ntmps24
    go_wp2_with fail
    refine HF.mono ?_; rintro e w1 ⟨rfl, rfl⟩
    go_wp2
    go_ret
    rw [hR.out, hE.out]
    exact CurTo.of_below h (Below.refl _ _)

def Cu.leave (c : Cu) : Cu := if c.err = 0 then { c with nest := c.nest - 1 } else c
def CurLeft (B : Nat) (v : Value) (c : Cu) (w : World) (e : Ending) (w' : World) : Prop := (∃ r, e = .returned r) ∧ CurAt w' B v c ∧ w.grownBy w' (some B)
set_option maxHeartbeats 1600000 in
theorem leave_any {w : World} {B : Nat} {v : Value} {c : Cu} (h : CurAt w B v c) : Calls Try.prog 25 #[.pointer (some ⟨B, 0, none⟩)] w (CurLeft B v c.leave w) := by
  have HF := failed_any h
  obtain ⟨⟨-, -, -, -, -, -, c6, -, -⟩, -, f6, -, -⟩ := h.all
  by_cases he : c.err = 0
  · have hb : (c.err != 0) = false := by rw [he]; rfl
    rw [hb] at HF
    have hR : Hid (c.leave = { c with nest := c.nest - 1 }) := by show _ = _; unfold Cu.leave; rw [if_pos he]
    by_cases hn : 0 < c.nest
    · have hd : decide ((0 : Int) < c.nest) = true := by simp; omega
      obtain ⟨k1, k2⟩ := h.deeper ((c.nest : Int) - 1) (c.nest - 1) (by omega) (by have := h.deep; omega)
      clear he hb
      have hn9 := h.deep
      go_enter Try.func25, Try.ntmps25
      go_wp2_with fail
      refine HF.mono ?_; rintro e w1 ⟨rfl, rfl⟩
      go_wp2_with fail
      go_end0
      rw [hR.out]
      exact ⟨⟨_, rfl⟩, k1, k2⟩
    · have hn0 : c.nest = 0 := by omega
      have hd : decide (0 < c.nest) = false := by simp; omega
      have hR2 : Hid (c.leave = c) := by
        show _ = _
        rw [hR.out, hn0]
        show ({ c with nest := 0 } : Cu) = c
        rw [← hn0]
      clear he hb hn hn0
      go_enter Try.func25, Try.ntmps25
      go_wp2_with fail
      refine HF.mono ?_; rintro e w1 ⟨rfl, rfl⟩
      go_wp2_with fail
      go_end0
      rw [hR2.out]
      exact ⟨⟨_, rfl⟩, h, grownBy_below (Below.refl _ _) _⟩
  · have hb : (c.err != 0) = true := by rw [bne_iff_ne]; exact he
    rw [hb] at HF
    have hR : Hid (c.leave = c) := by show _ = _; unfold Cu.leave; rw [if_neg he]
    clear he hb
    go_enter Try.func25, Try.ntmps25
    go_wp2_with fail
    refine HF.mono ?_; rintro e w1 ⟨rfl, rfl⟩
    go_wp2
    go_end0
    rw [hR.out]
    exact ⟨⟨_, rfl⟩, h, grownBy_below (Below.refl _ _) _⟩
end Go.Proofs.Ytehcccjgepbnjaa
