/- The contract of the closure that lexer.words hands back. -/
import Derived.Test.YtbcgaficnlfilaaLexSeq
namespace Go.Proofs.Ytbcgaficnlfilaa
open Go.RowKit Go.Shelf

attribute [local go_sem] Oper.semAt_some

theorem pre_lt {s : ByteArray} {pre : List It} {x : It} {rest : List It} (h : seqAll s = pre ++ (x :: rest)) : pre.length < (seqAll s).length := by rw [h]; simp

set_option maxRecDepth 100000 in
set_option maxHeartbeats 4000000 in
/-- **the closure of words, at whatever loop**: all that comes, in its order; or a part, where a round has said 'no more'. -/
theorem words1_in (n : Nat) (hn : 1 ≤ n) (s : ByteArray) (hs : s.size ≤ 1048576) (l h : Nat) (J Jx : List It → World → Prop)
    (hJ : ∀ pre A B, J pre A → A.grownBy B none → J pre B)
    (hY : ∀ pre x W, J pre W → pre.length < (seqAll s).length → YieldAt Fence.wide (n - 1) Try.prog l (encT x) W fun e W' =>
      (e = .returned (.bool true) ∧ J (pre ++ [x]) W' ∧ RowKp h W W') ∨ (e = .returned (.bool false) ∧ Jx (pre ++ [x]) W'))
    (W : World) (hBn : Boxed W (h + 4) 9 (.string s)) (hRow : RowOk h W) (h0 : J [] W) :
    CallsIn Fence.wide n Try.prog 20 #[.func (.yield l) #[] #[], .pointer (some ⟨h + 4, 0, none⟩)] W fun e W' => (∃ v, e = .returned v) ∧
      ((∃ ys, ys = seqAll s ∧ J ys W') ∨ (∃ pre, pre <+: seqAll s ∧ Jx pre W')) := by
  have HK := fun k hk w => (callsIn_wide (n := n - 1)).2 (skip_any s k w (by unfold maxLen; omega) hk)
  have hsk := skipAt_le s 0 (Nat.zero_le _)
  have hc := hBn.cell
  refine callsIn_of_wp Try.func20 rfl trivial ?_ rfl
  simp only [Try.ntmps20, List.size_toArray, List.length_cons, List.length_nil, Nat.reduceAdd, Nat.reduceSub, Array.replicate_succ, Array.replicate_zero, List.push_toArray, List.append_toArray, List.nil_append, List.cons_append]
  gi_wp2_with (first
    | (refine ⟨trivial, ?_⟩; gi_at_call 21; refine (HK 0 (Nat.zero_le _) _).mono ?_; rintro e w' ⟨rfl, rfl⟩)
    | fail)
  gi_loopw [3] (fun a wr => ∃ (k : Nat) (pre : List It), k ≤ s.size ∧ a = .int .i64 (k : Int) ∧ pre.length ≤ k ∧ Hid (seqAll s = pre ++ seqF s (s.size + 1 - pre.length) k) ∧ J pre wr ∧ Boxed wr (h + 4) 9 (.string s) ∧ RowOk h wr) (fun a _ => s.size - (intOf a).toNat)
  case atStart => exact ⟨skipAt s 0, [], hsk, rfl, Nat.zero_le _, rfl, h0, hBn, hRow⟩
  case round =>
    clear hc
    obtain ⟨k, pre, hk, rfl, hpre, HA, hJs, hbx, hRow⟩ := hrel
    have hc := hbx.cell
    have hlt4 := hbx.lt
    clear hsk
    by_cases hlt : k < s.size
    · have hlt' : (k : Int) < s.size := by omega
      have HW := fun w => (callsIn_wide (n := n - 1)).2 (wordat_any s k w (by omega) hlt)
      -- what lies at the call of yield
      have ahead : ∀ (x : It) (w2 : World), Below wr.heap.size wr w2 → ∀ cs, J pre (w2.alloc (.cells cs 32)) ∧ Boxed (w2.alloc (.cells cs 32)) (h + 4) 9 (.string s) ∧ RowOk h (w2.alloc (.cells cs 32)) ∧ rowblk (h + 3) (w2.alloc (.cells cs 32)) ≠ some w2.heap.size := fun x w2 hB cs => by
        have hB' := hB.alloc hB.size (.cells cs 32)
        have hR := (RowKp.below hB' (by omega)).ok hRow
        refine ⟨hJ _ _ _ hJs (grown_of_below2 hB'), (hB'.block _ hlt4).trans hbx, hR, fun e => ?_⟩
        have e2 : rowblk (h + 3) (w2.alloc (.cells cs 32)) = rowblk (h + 3) wr := by
          unfold rowblk
          rw [World.cell?_of_block (a := ⟨h + 3, 0, none⟩) (hB'.block _ (show h + 3 < wr.heap.size by omega))]
        rw [e2] at e
        have := (hRow _ e).2
        have := hB.size
        omega
      cases hw : wordL (s.data.toList.drop k) with
      | error x =>
        have hx := word_err hw
        have HW := fun w => (HW w).mono (R' := TokErr 0 k 0 [] x w) (fun e w' h => by unfold WordIs at h; rw [hw] at h; exact h)
        have HE : Hid (seqAll s = pre ++ [(⟨0, k, 0, []⟩, x)]) := by
          show _ = _
          rw [HA.out, show s.size + 1 - pre.length = (s.size - pre.length) + 1 by omega, seq_err s _ k hlt hw]
        have hxb : (x != 0) = true := by rw [bne_iff_ne]; exact hx
        clear hw
        gi_wp2_with fail
        refine ⟨trivial, ?_⟩
        gi_at_call 22
        refine (HW _).mono ?_
        rintro e w2 ⟨rfl, hB2⟩
        obtain ⟨q1, q2, q3, q4⟩ := ahead (⟨0, k, 0, []⟩, x) w2 hB2 #[.int .i64 0, .int .i64 (k : Int), .int .i64 0, .string ⟨#[]⟩]
        obtain ⟨fn, tmps, assign, body, hy, hR⟩ := hY pre (⟨0, k, 0, []⟩, x) _ q1 (by rw [HE.out]; simp)
        dsimp only [encT] at hy
        gi_wp2_with fail
        refine hR.mono ?_
        clear hR hy
        rintro e W3 (⟨rfl, hJ3, hk3⟩ | ⟨rfl, hJx3⟩)
        · gi_wp2_with fail
          refine bodyPost_ret (results_none rfl _ _ _) rfl ?_
          exact ⟨⟨_, rfl⟩, .inl ⟨_, HE.out.symm, hJ3⟩⟩
        · gi_wp2_with fail
          refine bodyPost_ret (results_none rfl _ _ _) rfl ?_
          exact ⟨⟨_, rfl⟩, .inr ⟨_, ⟨[], by rw [HE.out]; simp⟩, hJx3⟩⟩
      | ok d =>
        have HW := fun w => (HW w).mono (R' := TokErr d.kind k d.num d.text 0 w) (fun e w' h => by unfold WordIs at h; rw [hw] at h; exact h)
        obtain ⟨hd0, hd1⟩ := word_at s k hlt hw
        obtain ⟨R, HR⟩ : ∃ R, Hid (R = seqF s (s.size - pre.length) (skipAt s (k + d.text.length))) := ⟨_, rfl⟩
        have HE : Hid (seqAll s = pre ++ ((⟨d.kind, k, d.num, d.text⟩, 0) :: R)) := by
          show _ = _
          rw [HA.out, show s.size + 1 - pre.length = (s.size - pre.length) + 1 by omega, seq_word s _ k hlt hw, HR.out]
        obtain ⟨t, ht⟩ : ∃ t : ByteArray, t = ⟨d.text.toArray⟩ := ⟨_, rfl⟩
        have htl : d.text.length = t.size := by rw [ht, Lib.size_eq]
        have HTT : Hid (t = ⟨d.text.toArray⟩) := ht
        have e2 : ((k : Int) + (t.size : Int)) = ((k + t.size : Nat) : Int) := by omega
        rw [htl] at hd0 hd1 HR
        have HK2 := fun w => HK (k + t.size) hd1 w
        have hsk := skipAt_le s (k + t.size) hd1
        have hsg := skipAt_ge s (k + t.size)
        rw [← e2] at HK2
        clear hw htl
        gi_wp2_with fail
        refine ⟨trivial, ?_⟩
        gi_at_call 22
        refine (HW _).mono ?_
        rintro e w2 ⟨rfl, hB2⟩
        rw [← ht]
        obtain ⟨q1, q2, q3, q4⟩ := ahead (⟨d.kind, k, d.num, d.text⟩, 0) w2 hB2 #[.int .i64 d.kind, .int .i64 (k : Int), .int .i64 d.num, .string t]
        obtain ⟨fn, tmps, assign, body, hy, hR⟩ := hY pre (⟨d.kind, k, d.num, d.text⟩, 0) _ q1 (by rw [HE.out]; simp)
        dsimp only [encT] at hy
        rw [← ht] at hy
        clear ht HTT e2
        gi_wp2_with fail
        refine hR.mono ?_
        clear hR hy
        rintro e W3 (⟨rfl, hJ3, hk3⟩ | ⟨rfl, hJx3⟩)
        · have b1 : W3.heap[w2.heap.size]? = _ := hk3.same _ _ (World.alloc_heap_new w2 _) rfl (by have := hB2.size; omega) q4
          have b2 : Boxed W3 (h + 4) 9 (.string s) := hk3.same _ _ q2 rfl (by omega) (fun e => by have := (q3 _ e).1; omega)
          have b3 := hk3.ok q3
          have c3 : W3.cell? ⟨w2.heap.size, 3, none⟩ = some (.string t) := by simp [World.cell?, b1]
          have c4 := b2.cell
          clear b1 hk3 hc
          gi_wp2_with fail
          refine ⟨trivial, ?_⟩
          gi_at_call 21
          refine (HK2 _).mono ?_
          rintro e w9 ⟨rfl, rfl⟩
          gi_wp2_with fail
          go_roundw
          case rel => exact ⟨skipAt s (k + t.size), pre ++ [(⟨d.kind, k, d.num, d.text⟩, 0)], hsk, by go_num, by simp; omega, by show _ = _; rw [HE.out, HR.out]; simp <;> congr 2 <;> omega, hJ3, b2, b3⟩
          case measure => simp [intOf]; omega
        · gi_wp2_with fail
          refine bodyPost_ret (results_none rfl _ _ _) rfl ?_
          exact ⟨⟨_, rfl⟩, .inr ⟨_, ⟨R, by rw [HE.out]; simp⟩, hJx3⟩⟩
    · obtain rfl : k = s.size := by omega
      have HE : Hid (seqAll s = pre ++ [(endTk s, 0)]) := by
        show _ = _
        rw [HA.out, show s.size + 1 - pre.length = (s.size - pre.length) + 1 by omega, seq_end s _ _ (Nat.le_refl _)]
      obtain ⟨fn, tmps, assign, body, hy, hR⟩ := hY pre (endTk s, 0) _ hJs (by rw [HE.out]; simp)
      dsimp only [encT, endTk] at hy
      gi_wp2_with fail
      refine hR.mono ?_
      clear hR hy
      rintro e W3 (⟨rfl, hJ3, hk3⟩ | ⟨rfl, hJx3⟩)
      · gi_wp2_with fail
        go_end0
        exact ⟨⟨_, rfl⟩, .inl ⟨_, HE.out.symm, hJ3⟩⟩
      · gi_wp2_with fail
        go_end0
        exact ⟨⟨_, rfl⟩, .inr ⟨_, ⟨[], by rw [HE.out]; simp⟩, hJx3⟩⟩
end Go.Proofs.Ytbcgaficnlfilaa
