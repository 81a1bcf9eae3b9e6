/- The law PpatsLinear, walked. -/
import Derived.Test.YtemgocegnlehoaaPatAwake
import Derived.Test.YtemgocegnlehoaaPatLinear
import Derived.Test.YtemgocegnlehoaaPatTexts
import Derived.Test.YtemgocegnlehoaaKindP
import Derived.BigQuiet
namespace Go.Proofs.Ytemgocegnlehoaa.N8
open Go.RowKit N5 N6 N7
attribute [local go_sem] fld0 fld1

/-- does a text come again? -/
def dupF : List Tx → List Tx → Bool
  | _, [] => false
  | seen, x :: r => decide (x ∈ seen) || dupF (seen ++ [x]) r
theorem lin_dup : ∀ (ts : List Nd) (seen : List Tx), (linF seen ts).2 = !(dupF seen (ts.map Nd.text))
  | [], _ => rfl
  | t :: r, seen => by
    show (if t.text ∈ seen then (t.pos, false) else linF (seen ++ [t.text]) r).2 = !(decide (t.text ∈ seen) || dupF (seen ++ [t.text]) (r.map Nd.text))
    by_cases h : t.text ∈ seen
    · rw [if_pos h, decide_eq_true h]; rfl
    · rw [if_neg h, decide_eq_false h, lin_dup r, Bool.false_or]
theorem dup_step {xs : List Tx} {i : Nat} (h : i < xs.length) : dupF (xs.take i) (xs.drop i) = (decide (xs[i] ∈ xs.take i) || dupF (xs.take (i + 1)) (xs.drop (i + 1))) := by
  rw [List.drop_eq_getElem_cons h, List.take_succ_eq_append_getElem h]; rfl
mutual
theorem short_vars : ∀ (t : Nd), t.short → ∀ x ∈ t.varsN, x.text.length ≤ maxLen
  | .mk k p n s ks, h, x, hx => by
    by_cases hk : k = 11
    · rw [Nd.varsN_var (by exact hk), List.mem_singleton] at hx
      subst hx; exact h.1
    · rw [Nd.varsN_node (by exact hk)] at hx
      exact shorts_vars ks h.2 x hx
theorem shorts_vars : ∀ (ks : List Nd), Nd.shorts ks → ∀ x ∈ Nd.varsK ks, x.text.length ≤ maxLen
  | [], _, x, hx => by cases hx
  | k :: ks, h, x, hx => by
    rw [Nd.varsK_cons, List.mem_append] at hx
    rcases hx with hx | hx
    · exact short_vars k h.1 x hx
    · exact shorts_vars ks h.2 x hx
end
theorem sizeStr (w : World) : (sizeOf 9).run Try.prog w = .ok 1 w := by kernel_rfl
theorem flat_text (ts : List Nd) : (ts.map fun t => Value.string ⟨t.text.toArray⟩) = (ts.map Nd.text).flatMap encS := by
  induction ts with
  | nil => rfl
  | cons t r ih => rw [List.map_cons, List.map_cons, List.flatMap_cons, ih]; rfl
set_option maxRecDepth 100000 in
set_option maxHeartbeats 8000000 in
theorem walk_PpatsLinear {c : NC} {t : Nd} {w : World} (h : TreeAt w c t) (hs : t.short) : Calls Try.prog 4 #[c.val] w (SaysIs true w) := by
  obtain ⟨W1, hW1⟩ : ∃ W1, W1 = w.alloc (.cells #[.int .i64 c.kind, .int .i64 c.pos, .int .i64 c.num, .string ⟨c.text.toArray⟩, .slice c.kp c.kl c.kc] 25) := ⟨_, rfl⟩
  have hb : NBox W1 w.heap.size c := by rw [hW1]; exact NBox.new w c _
  have hB : Below w.heap.size w W1 := by rw [hW1]; exact (Below.refl _ w).alloc (Nat.le_refl _) _
  have hz : W1.heap.size = w.heap.size + 1 := by rw [hW1]; simp
  have HF := few_any (h.later hB)
  have HT := Lib.hid (h.later hB)
  have HX := Lib.hid (short_vars t hs)
  have HA := fun W => awake_any W
  obtain ⟨k, ps, n, txt, kp, kl, kc⟩ := c
  have HBX := Lib.hid hb
  have HZ := Lib.hid hz
  have HB := Lib.hid hB
  obtain ⟨x0, x1, x2, x3, x4⟩ := hb
  dsimp only at x0 x1 x2 x3 x4
  dsimp only [NC.val] at HF hW1 ⊢
  clear hB hz hs h
  go_enter Try.func4, Try.ntmps4
  go_upto_region 1 with fail
  rw [← hW1]
  clear hW1
  by_cases hf : t.size ≤ 3000
  case neg =>
    rw [if_neg hf] at HF
    clear hf
    go_wp2_with fail
    refine HF.mono ?_; rintro e W2 ⟨rfl, hC⟩
    go_wp2_with fail
    refine (HA W2).mono ?_; rintro e W3 ⟨rfl, hC3⟩
    go_wp2_with fail
    go_ret
    exact ⟨rfl, HB.out.trans ((hC.trans (hC3.mono hC.size)).mono (by rw [HZ.out]; omega))⟩
  case pos =>
    rw [if_pos hf] at HF
    have HS := Lib.hid hf
    clear hf
    go_wp2_with fail
    refine HF.mono ?_; rintro e W2 ⟨rfl, hC⟩
    have HBX := Lib.hid (HBX.out.same (hC.block w.heap.size (by rw [HZ.out]; omega)))
    have HT := Lib.hid (HT.out.later hC)
    have HB := Lib.hid (HB.out.trans (hC.mono (by rw [HZ.out]; omega)))
    have HZ2 : Hid (w.heap.size < W2.heap.size) := by show _ < _; have := hC.size; rw [HZ.out] at this; omega
    obtain ⟨x0, x1, x2, x3, x4⟩ := HBX.out
    dsimp only at x0 x1 x2 x3 x4
    have HV := vars_any HT.out (Nat.le_trans HS.out (by decide))
    dsimp only [NC.val] at HV
    clear HF hC HZ
    go_wp2_with fail
    refine HV.mono ?_; rintro e W3 ⟨v, rfl, hown, hC⟩
    have hlen : t.varsN.length ≤ 3000 := by
      obtain ⟨xs, m, -, e1, e2, -⟩ := vars_rows HT.out
      have := congrArg List.length e1
      rw [List.length_map] at this
      have := HS.out
      omega
    have HBX := Lib.hid (HBX.out.same (hC.block w.heap.size HZ2.out))
    have HT := Lib.hid (HT.out.later hC)
    have HB := Lib.hid (HB.out.trans (hC.mono (Nat.le_of_lt HZ2.out)))
    have HZ3 : Hid (w.heap.size < W3.heap.size) := Nat.lt_of_lt_of_le HZ2.out hC.size
    rw [flat_text] at hown
    have hlx : (t.varsN.map Nd.text).length = t.varsN.length := by rw [List.length_map]
    rw [← hlx] at hown hlen
    have hrow := RowAt.of_owns (xs := t.varsN.map Nd.text) encS_len (by omega) hown
    have HD : Hid ((linF [] t.varsN).2 = !(dupF [] (t.varsN.map Nd.text))) := lin_dup _ _
    clear hown hlx HV hC x0 x1 x2 x3 x4 HZ2
    generalize hxs : t.varsN.map Nd.text = xs at *
    clear hxs
    obtain ⟨p, cap, rfl, hcap, hr⟩ := hrow
    have HR : Hid (RowAt W3.heap.size W3 encS (.slice p xs.length cap) xs) := ⟨p, cap, rfl, hcap, hr⟩
    clear hcap hr
    generalize hn : xs.length = len at *
    have HN := Lib.hid hn
    clear hn
    have HL := linear_any HT.out (Nat.le_trans HS.out (by decide)) HX.out
    go_wp2_with fail
    go_loopw [4, 5] (fun tw i wr => ∃ (k : Nat) (b : Bool), k ≤ len ∧ i = .int .i64 (k : Int) ∧ tw = .bool b ∧ Hid (dupF [] xs = (b || dupF (xs.take k) (xs.drop k))) ∧ Below W3.heap.size W3 wr) (fun _ i _ => len - (intOf i).toNat)
    case atStart => exact ⟨0, false, Nat.zero_le _, rfl, rfl, (by rfl : dupF [] xs = (false || dupF (xs.take 0) (xs.drop 0))), Below.refl _ _⟩
    case round =>
      obtain ⟨k, b, hk, rfl, rfl, HE, hB⟩ := hrel
      by_cases hlt : k < len
      · have hlx : k < xs.length := by rw [HN.out]; exact hlt
        have HE2 := dup_step hlx
        cases b with
        | true =>
          have HS : Hid (dupF [] xs = (true || dupF (xs.take (k + 1)) (xs.drop (k + 1)))) := HE.out
          clear HE HE2
          go_wp2_with fail
          go_quiet (fail)
          go_wp2
          go_roundw
          case rel => exact ⟨k + 1, true, by omega, by go_num, rfl, HS, hB.trans (below_drewN _ _ _)⟩
          case measure => simp [intOf]; omega
        | false =>
          have HS : Hid (dupF [] xs = (decide (xs[k] ∈ xs.take k) || dupF (xs.take (k + 1)) (xs.drop (k + 1)))) := by show _ = _; rw [HE.out, Bool.false_or, HE2]
          obtain ⟨g, o, rfl, hg, -, hc⟩ := row_string HR.out k hlx
          have hc := (hB.cell (p := ⟨g, o + k, none⟩) hg).trans hc
          obtain ⟨v', hr', -, hs', -⟩ := RowAt.slice_run (P := Try.prog) 35 9 Try.underlying35 sizeStr encS_len HR.out 0 k (Nat.zero_le _) (Nat.le_of_lt hlx)
          have hs' := hs' rfl
          rw [List.drop_zero] at hr'
          have hr' := hr'.below hB
          have HC : ∀ n, Calls Try.prog 12 #[v', .string ⟨(xs[k]).toArray⟩] (wr.drewN n) fun e w'' => e = .returned (.bool (decide (xs[k] ∈ xs.take k))) ∧ ∃ m, w'' = wr.drewN m := fun n =>
            (hasrow_any (hr'.below (below_drewN _ _ n)) (by rw [List.length_take]; omega) (xs[k])).mono fun e w' ⟨he, hw⟩ => ⟨he, n, hw.symm⟩
          clear HE HE2 hr'
          generalize decide (xs[k] ∈ xs.take k) = d at *
          generalize xs[k] = x at *
          go_wp2_with fail
          go_quiet ((go_at_call 12; exact HC _))
          go_wp2
          go_roundw
          case rel => exact ⟨k + 1, d, by omega, by go_num, rfl, HS, hB.trans (below_drewN _ _ _)⟩
          case measure => simp [intOf]; omega
      · obtain rfl : k = len := by omega
        have hd : dupF [] xs = b := by
          rw [HE.out, List.drop_of_length_le (by rw [HN.out]; exact Nat.le_refl _)]; show (b || false) = b; simp
        have HD : Hid ((linF [] t.varsN).2 = !b) := by show _ = _; rw [HD.out, hd]
        have HL := linear_any (HT.out.later hB) (Nat.le_trans HS.out (by decide)) HX.out
        obtain ⟨x0, x1, x2, x3, x4⟩ := HBX.out.same (hB.block w.heap.size HZ3.out)
        dsimp only at x0 x1 x2 x3 x4
        dsimp only [NC.val] at HL
        rw [HD.out] at HL
        have hbb : ((!b) == (!b)) = true := by cases b <;> rfl
        clear HE hd HD
        go_wp2_with fail
        refine HL.mono ?_; rintro e W4 ⟨rfl, hC4⟩
        have hB := hB.trans (hC4.mono hB.size)
        clear HL hC4 x0 x1 x2 x3 x4
        go_wp2_with fail
        refine (HA W4).mono ?_; rintro e W5 ⟨rfl, hC5⟩
        go_wp2_with fail
        go_ret
        exact ⟨rfl, HB.out.trans ((hB.trans (hC5.mono hB.size)).mono (Nat.le_of_lt HZ3.out))⟩
end Go.Proofs.Ytemgocegnlehoaa.N8
