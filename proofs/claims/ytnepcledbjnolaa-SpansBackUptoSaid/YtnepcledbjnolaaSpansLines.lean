/- The contracts of spans.Lines and of envoyref01.Lines. -/
import Derived.Test.YtnepcledbjnolaaSpansPlain
import Derived.WalkKit
import Derived.Below
namespace Go.Proofs.Ytnepcledbjnolaa
open Go.RowKit

theorem info_int : (Try.prog.info? 3).map (fun i => (i.zero, i.size, i.bytes)) = some (some (.int .i64 0), 1, 8) := by kernel_rfl

/-- what a loop that makes a row of ints holds of its row -/
def HoldsInts (B : Nat) (w0 : World) (v : Value) (xs : List Int) (w : World) : Prop :=
  w.ownsRow B 3 1 v xs.length (xs.map (Value.int .i64)) ∧ Below B w0 w

theorem HoldsInts.start (w : World) (x : Int) : HoldsInts w.heap.size w (.slice (some ⟨w.heap.size, 0, none⟩) 1 1) [x] (w.alloc (.cells #[.int .i64 x] 3)) :=
  ⟨World.ownsRow_lit w #[.int .i64 x] 1 (Nat.le_refl _) (by decide) (by rfl), (Below.refl _ _).alloc (Nat.le_refl _) _⟩

theorem HoldsInts.push {B : Nat} {w0 w w1 : World} {v v' : Value} {xs : List Int} {x : Int} {o : Obj} (h : HoldsInts B w0 v xs w) (hB : B ≤ w.heap.size)
    (h1 : w1.ownsRow B 3 1 v' (xs.length + 1) (xs.map (Value.int .i64) ++ [.int .i64 x])) (h2 : (w.alloc o).grownBy w1 v.ownBlock) : HoldsInts B w0 v' (xs ++ [x]) w1 :=
  ⟨by simpa using h1, (h.2.alloc hB o).grown h2 (by simp; omega) (fun k hk => (h.1.lt k hk).1)⟩

theorem HoldsInts.got {w0 w : World} {v : Value} {xs : List Int} (h : HoldsInts w0.heap.size w0 v xs w) (h0 : 0 < xs.length) : GotInts xs w0 (.returned v) w := by
  obtain ⟨h1, h2⟩ := h
  have hl := h1.lt
  rcases h1.2 with ⟨_, h⟩ | ⟨g, cap, cur, rfl, hg, _⟩
  · omega
  · refine ⟨g, cap, rfl, hg, (hl g rfl).2, fun i hi => ?_, h2⟩
    have := h1.cells (g := g) rfl i (.int .i64 (xs.getD i 0)) (by simp [List.getElem?_eq_getElem hi])
    have hadd : (⟨g, 0, none⟩ : Addr).add i = ⟨g, i, none⟩ := by unfold Addr.add; split <;> simp_all
    rwa [hadd] at this

set_option maxHeartbeats 1600000 in
set_option maxRecDepth 100000 in
theorem spans_lines (s : ByteArray) (w : World) (hs : s.size ≤ 1048576) :
    Calls Try.prog 11 #[.string s] w (GotInts (Lk s.data.toList s.size) w) := by
  obtain ⟨i0, hi, hz0, hz1, hz2⟩ := info_parts info_int
  go_enter Try.func11, Try.ntmps11
  go_wp2
  go_loopw [3, 8] (fun v i wr => ∃ k : Nat, k ≤ s.size ∧ i = .int .i64 k ∧ HoldsInts w.heap.size w v (Lk s.data.toList k) wr) (fun _ i _ => s.size - (intOf i).toNat)
  case atStart => exact ⟨0, Nat.zero_le _, rfl, HoldsInts.start w 0⟩
  case round =>
    obtain ⟨k, hk, rfl, hown⟩ := hrel
    have hlen := Lk_len s.data.toList k
    have hB := hown.2.size
    by_cases hlt : k < s.size
    · have hg : s.data.toList.getD k 0 = s[k] := by
        rw [List.getD_eq_getElem?_getD, List.getElem?_eq_getElem (by simpa using hlt)]; rfl
      by_cases hc : s[k] = 10
      · have HE : Hid (Lk s.data.toList (k + 1) = Lk s.data.toList k ++ [(k : Int) + 1]) := Lk_hit (by rw [hg, hc])
        have hb : ((s[k].toNat : Int) == 10) = true := by rw [hc]; rfl
        clear hg hc
        go_wp2_with (at_builtin; refine wpList_append_own _ rfl _ _ 28 rfl w.heap.size 3 i0 (.int .i64 0) 1 8 Try.underlying28 hi hz0 hz1 hz2 rfl (by decide) _ _ _ rfl (hown.1.alloc _) ⟨wr.heap.size, 0, none⟩ 1 1 [.int .i64 ((k : Int) + 1)] rfl rfl ?c1 ?c2 ?c3 ?c4 ?c5 ?_)
        case c1 =>
          intro j u hj
          match j, hj with
          | 0, hj => simp at hj; subst hj; simp [Addr.add]
        case c2 => intro u hu; simp at hu; subst hu; rfl
        case c3 => unfold maxLen; omega
        case c4 => omega
        case c5 => simp; omega
        intro v' w1 hown' hgrow _
        have R := hown.push hB hown' hgrow
        clear hown' hgrow hown
        rw [← HE.out] at R
        go_wp2
        go_roundw
        case rel => exact ⟨k + 1, by omega, by go_num, R⟩
        case measure => simp [intOf]; omega
      · have HE : Hid (Lk s.data.toList (k + 1) = Lk s.data.toList k) := Lk_miss (by rw [hg]; exact hc)
        have hb : ((s[k].toNat : Int) == 10) = false := by
          rw [beq_eq_false_iff_ne]; intro h; exact hc (UInt8.toNat_inj.1 (by have h' : (s[k].toNat : Int) = 10 := h; show s[k].toNat = 10; omega))
        clear hg hc
        rw [← HE.out] at hown
        go_wp2
        go_roundw
        case rel => exact ⟨k + 1, by omega, by go_num, hown⟩
        case measure => simp [intOf]; omega
    · have hks : k = s.size := by omega
      subst hks
      have R := hown.got (by omega)
      clear hown
      go_wp2
      go_ret
      exact R

set_option maxHeartbeats 1600000 in
set_option maxRecDepth 100000 in
theorem ref_lines (s : ByteArray) (w : World) (hs : s.size ≤ 1048576) :
    Calls Try.prog 12 #[.string s] w (GotInts (Lk s.data.toList s.size) w) := by
  obtain ⟨i0, hi, hz0, hz1, hz2⟩ := info_parts info_int
  go_enter Try.func12, Try.ntmps12
  go_wp2
  go_loopw [3, 4] (fun v i wr => ∃ k : Nat, k ≤ s.size ∧ i = .int .i64 k ∧ HoldsInts w.heap.size w v (Lk s.data.toList k) wr) (fun _ i _ => s.size - (intOf i).toNat)
  case atStart => exact ⟨0, Nat.zero_le _, rfl, HoldsInts.start w 0⟩
  case round =>
    obtain ⟨k, hk, rfl, hown⟩ := hrel
    have hlen := Lk_len s.data.toList k
    have hB := hown.2.size
    by_cases hlt : k < s.size
    · have hg : s.data.toList.getD k 0 = s[k] := by
        rw [List.getD_eq_getElem?_getD, List.getElem?_eq_getElem (by simpa using hlt)]; rfl
      by_cases hc : s[k] = 10
      · have HE : Hid (Lk s.data.toList (k + 1) = Lk s.data.toList k ++ [(k : Int) + 1]) := Lk_hit (by rw [hg, hc])
        have hb : ((s[k].toNat : Int) == 10) = true := by rw [hc]; rfl
        clear hg hc
        go_wp2_with (at_builtin; refine wpList_append_own _ rfl _ _ 28 rfl w.heap.size 3 i0 (.int .i64 0) 1 8 Try.underlying28 hi hz0 hz1 hz2 rfl (by decide) _ _ _ rfl (hown.1.alloc _) ⟨wr.heap.size, 0, none⟩ 1 1 [.int .i64 ((k : Int) + 1)] rfl rfl ?c1 ?c2 ?c3 ?c4 ?c5 ?_)
        case c1 =>
          intro j u hj
          match j, hj with
          | 0, hj => simp at hj; subst hj; simp [Addr.add]
        case c2 => intro u hu; simp at hu; subst hu; rfl
        case c3 => unfold maxLen; omega
        case c4 => omega
        case c5 => simp; omega
        intro v' w1 hown' hgrow _
        have R := hown.push hB hown' hgrow
        clear hown' hgrow hown
        rw [← HE.out] at R
        go_wp2
        go_roundw
        case rel => exact ⟨k + 1, by omega, by go_num, R⟩
        case measure => simp [intOf]; omega
      · have HE : Hid (Lk s.data.toList (k + 1) = Lk s.data.toList k) := Lk_miss (by rw [hg]; exact hc)
        have hb : ((s[k].toNat : Int) == 10) = false := by
          rw [beq_eq_false_iff_ne]; intro h; exact hc (UInt8.toNat_inj.1 (by have h' : (s[k].toNat : Int) = 10 := h; show s[k].toNat = 10; omega))
        clear hg hc
        rw [← HE.out] at hown
        go_wp2
        go_roundw
        case rel => exact ⟨k + 1, by omega, by go_num, hown⟩
        case measure => simp [intOf]; omega
    · have hks : k = s.size := by omega
      subst hks
      have R := hown.got (by omega)
      clear hown
      go_wp2
      go_ret
      exact R
end Go.Proofs.Ytnepcledbjnolaa
