/- What kind a tree is: nodes' own functions for expressions and declarations. -/
import Derived.Test.YtlammclbnihopaaNodeKindA
namespace Go.Proofs.Ytlammclbnihopaa.N6
open Go.RowKit

set_option maxRecDepth 100000 in
set_option maxHeartbeats 4000000 in
theorem isalt_step (t : Nd) (ht : Nd.Fit t) (ih : ∀ t' ∈ t.kids, Is 107 (fun t => t.kinds.exp) t') : Is 117 (fun t => t.kinds.alt) t := by
  intro c w h
  obtain ⟨k, ps, n, txt, kp, kl, kc⟩ := c
  obtain ⟨L, hL⟩ : ∃ L, L = t.kids.map Nd.kinds := ⟨_, rfl⟩
  have HQ : Hid (t.kinds.alt = (altK k n txt L)) := by
    show _ = _
    try rw [hL]
    rw [Nd.kinds_eq, ← h.kind, ← h.num, ← h.text]; rfl
  have hTx : txt.length ≤ maxLen := by have := h.text; dsimp only at this; rw [this]; exact ht.text
  have HLN : Hid (kl = t.kids.length) := h.len
  have HML : Hid (L.length = kl) := by show _ = _; rw [hL, List.length_map, HLN.out]
  have hk6 : kl ≤ 1000000 := by rw [HLN.out]; exact ht.len
  have hkc : kl ≤ kc := h.fits
  have HTL : Hid (t.kids.length ≤ 1000000) := ht.len
  have HK := Lib.hid h.kids
  have HT := Lib.hid h
  have HNUM : Hid (n = t.num) := h.num
  have HTXT : Hid (txt = t.text) := h.text
  have HL := Lib.hid hL
  dsimp only at HK
  clear h hL
  unfold NC.val
  obtain ⟨W1, hW1⟩ : ∃ W1, W1 = w.alloc (.cells #[.int .i64 k, .int .i64 ps, .int .i64 n, .string ⟨txt.toArray⟩, .slice kp kl kc] 25) := ⟨_, rfl⟩
  have HBX : Hid (NBox W1 w.heap.size ⟨k, ps, n, txt, kp, kl, kc⟩) := by rw [hW1]; exact NBox.new w ⟨k, ps, n, txt, kp, kl, kc⟩ 25
  have HB1 : Hid (Below w.heap.size w W1) := by rw [hW1]; exact (Below.refl _ w).alloc (Nat.le_refl _) _
  have hs1 : W1.heap.size = w.heap.size + 1 := by rw [hW1]; simp
  have HS1 := Lib.hid hs1
  have HW1 := Lib.hid hW1
  clear hW1 hs1
  go_enter Try.func117, Try.ntmps117
  go_upto_region 1 with fail
  rw [← HW1.out]
  clear HW1
  by_cases hk15_0 : k = 15
  case pos =>
    subst hk15_0
    cases hc0 : bareK n txt with
    | true =>
      by_cases hlen2_1 : kl = 2
      case pos =>
        subst hlen2_1
        cases hc1 : atK L 0 (·.pat) with
        | true =>
          obtain ⟨kc_p, g_p, o_p, hp_p, hg_p, ht_p, hc_p⟩ := HK.out.at 0 (by rw [← HLN.out]; omega)
          subst hp_p
          have HG_p := Lib.hid hg_p
          have HT_p := Lib.hid ht_p
          have HC_p := Lib.hid hc_p
          clear hg_p ht_p hc_p
          cases hc2 : atK L 1 (·.exp) with
          | true =>
            obtain ⟨kc_q, g_q, o_q, hp_q, hg_q, ht_q, hc_q⟩ := HK.out.at 1 (by rw [← HLN.out]; omega)
            obtain ⟨rfl, rfl⟩ : g_p = g_q ∧ o_p = o_q := by injection hp_q with h1; injection h1 with h1 h2; exact ⟨h1, h2⟩
            have HG_q := Lib.hid hg_q
            have HT_q := Lib.hid ht_q
            have HC_q := Lib.hid hc_q
            clear hg_q ht_q hc_q
            have HR : Hid (t.kinds.alt = true) := by show _ = _; rw [HQ.out]; simp [altK, HML.out, hc0, hc1, hc2]
            obtain ⟨x0, x1, x2, x3, x4⟩ := HBX.out
            dsimp only at x0 x1 x2 x3 x4
            have hD1 := Below.refl W1.heap.size W1
            have hE1 := HB1.out
            obtain ⟨p0, p1, p2, p3, p4⟩ := HC_p.out W1 (HB1.out.block _ HG_p.out)
            simp only [Nat.zero_mul, Nat.add_zero] at p0 p1 p2 p3 p4
            obtain ⟨q0, q1, q2, q3, q4⟩ := HC_q.out W1 (HB1.out.block _ HG_q.out)
            simp only [Nat.one_mul, Nat.add_assoc, Nat.reduceAdd] at q0 q1 q2 q3 q4
            have HC := bare_any ⟨15, ps, n, txt, (some ⟨g_p, o_p, none⟩), 2, kc⟩ W1
            try dsimp only at HC
            rw [hc0] at HC
            try unfold NC.val at HC
            go_wp2_with fail
            refine HC.mono ?_; rintro e W2 ⟨rfl, hC⟩
            have hD2 := hD1.trans (hC.mono hD1.size)
            have hE2 := HB1.out.trans (hD2.mono (by rw [HS1.out]; omega))
            clear HC hC hD1 hE1 x0 x1 x2 x3 x4 p0 p1 p2 p3 p4 q0 q1 q2 q3 q4
            obtain ⟨x0, x1, x2, x3, x4⟩ := HBX.out.same (hD2.block w.heap.size (by rw [HS1.out]; omega))
            dsimp only at x0 x1 x2 x3 x4
            obtain ⟨p0, p1, p2, p3, p4⟩ := HC_p.out W2 (hE2.block _ HG_p.out)
            simp only [Nat.zero_mul, Nat.add_zero] at p0 p1 p2 p3 p4
            obtain ⟨q0, q1, q2, q3, q4⟩ := HC_q.out W2 (hE2.block _ HG_q.out)
            simp only [Nat.one_mul, Nat.add_assoc, Nat.reduceAdd] at q0 q1 q2 q3 q4
            have HC := (ispat_any _ (ht.kid (List.getElem_mem _))) kc_p W2 (HT_p.out.later hE2)
            try dsimp only at HC
            have hcv : _ = _ := ((atK_map t.kids 0 (·.pat) (by rw [← HLN.out]; omega)).symm.trans (by rw [HL.out]) : (t.kids[0]'(by rw [← HLN.out]; omega)).kinds.pat = atK L 0 (·.pat))
            rw [hcv, hc1] at HC
            try unfold NC.val at HC
            go_wp2_with fail
            refine HC.mono ?_; rintro e W3 ⟨rfl, hC⟩
            have hD3 := hD2.trans (hC.mono hD2.size)
            have hE3 := HB1.out.trans (hD3.mono (by rw [HS1.out]; omega))
            clear HC hC hD2 hE2 x0 x1 x2 x3 x4 hcv p0 p1 p2 p3 p4 q0 q1 q2 q3 q4
            obtain ⟨x0, x1, x2, x3, x4⟩ := HBX.out.same (hD3.block w.heap.size (by rw [HS1.out]; omega))
            dsimp only at x0 x1 x2 x3 x4
            obtain ⟨p0, p1, p2, p3, p4⟩ := HC_p.out W3 (hE3.block _ HG_p.out)
            simp only [Nat.zero_mul, Nat.add_zero] at p0 p1 p2 p3 p4
            obtain ⟨q0, q1, q2, q3, q4⟩ := HC_q.out W3 (hE3.block _ HG_q.out)
            simp only [Nat.one_mul, Nat.add_assoc, Nat.reduceAdd] at q0 q1 q2 q3 q4
            have HC := (ih _ (List.getElem_mem _)) kc_q W3 (HT_q.out.later hE3)
            try dsimp only at HC
            have hcv : _ = _ := ((atK_map t.kids 1 (·.exp) (by rw [← HLN.out]; omega)).symm.trans (by rw [HL.out]) : (t.kids[1]'(by rw [← HLN.out]; omega)).kinds.exp = atK L 1 (·.exp))
            rw [hcv, hc2] at HC
            try unfold NC.val at HC
            go_wp2_with fail
            refine HC.mono ?_; rintro e W4 ⟨rfl, hC⟩
            have hD4 := hD3.trans (hC.mono hD3.size)
            have hE4 := HB1.out.trans (hD4.mono (by rw [HS1.out]; omega))
            clear HC hC hD3 hE3 x0 x1 x2 x3 x4 hcv p0 p1 p2 p3 p4 q0 q1 q2 q3 q4
            obtain ⟨x0, x1, x2, x3, x4⟩ := HBX.out.same (hD4.block w.heap.size (by rw [HS1.out]; omega))
            dsimp only at x0 x1 x2 x3 x4
            obtain ⟨p0, p1, p2, p3, p4⟩ := HC_p.out W4 (hE4.block _ HG_p.out)
            simp only [Nat.zero_mul, Nat.add_zero] at p0 p1 p2 p3 p4
            obtain ⟨q0, q1, q2, q3, q4⟩ := HC_q.out W4 (hE4.block _ HG_q.out)
            simp only [Nat.one_mul, Nat.add_assoc, Nat.reduceAdd] at q0 q1 q2 q3 q4
            go_wp2_with fail
            all_goals
              try rw [Exit.noGoto_ret]
              go_ret
              exact ⟨by rw [HR.out]; first | rfl | (refine congrArg (fun b => Ending.returned (Value.bool b)) (?_ : _ = _); simp <;> first | assumption | omega), hE4⟩
          | false =>
            obtain ⟨kc_q, g_q, o_q, hp_q, hg_q, ht_q, hc_q⟩ := HK.out.at 1 (by rw [← HLN.out]; omega)
            obtain ⟨rfl, rfl⟩ : g_p = g_q ∧ o_p = o_q := by injection hp_q with h1; injection h1 with h1 h2; exact ⟨h1, h2⟩
            have HG_q := Lib.hid hg_q
            have HT_q := Lib.hid ht_q
            have HC_q := Lib.hid hc_q
            clear hg_q ht_q hc_q
            have HR : Hid (t.kinds.alt = false) := by show _ = _; rw [HQ.out]; simp [altK, HML.out, hc0, hc1, hc2]
            obtain ⟨x0, x1, x2, x3, x4⟩ := HBX.out
            dsimp only at x0 x1 x2 x3 x4
            have hD1 := Below.refl W1.heap.size W1
            have hE1 := HB1.out
            obtain ⟨p0, p1, p2, p3, p4⟩ := HC_p.out W1 (HB1.out.block _ HG_p.out)
            simp only [Nat.zero_mul, Nat.add_zero] at p0 p1 p2 p3 p4
            obtain ⟨q0, q1, q2, q3, q4⟩ := HC_q.out W1 (HB1.out.block _ HG_q.out)
            simp only [Nat.one_mul, Nat.add_assoc, Nat.reduceAdd] at q0 q1 q2 q3 q4
            have HC := bare_any ⟨15, ps, n, txt, (some ⟨g_p, o_p, none⟩), 2, kc⟩ W1
            try dsimp only at HC
            rw [hc0] at HC
            try unfold NC.val at HC
            go_wp2_with fail
            refine HC.mono ?_; rintro e W2 ⟨rfl, hC⟩
            have hD2 := hD1.trans (hC.mono hD1.size)
            have hE2 := HB1.out.trans (hD2.mono (by rw [HS1.out]; omega))
            clear HC hC hD1 hE1 x0 x1 x2 x3 x4 p0 p1 p2 p3 p4 q0 q1 q2 q3 q4
            obtain ⟨x0, x1, x2, x3, x4⟩ := HBX.out.same (hD2.block w.heap.size (by rw [HS1.out]; omega))
            dsimp only at x0 x1 x2 x3 x4
            obtain ⟨p0, p1, p2, p3, p4⟩ := HC_p.out W2 (hE2.block _ HG_p.out)
            simp only [Nat.zero_mul, Nat.add_zero] at p0 p1 p2 p3 p4
            obtain ⟨q0, q1, q2, q3, q4⟩ := HC_q.out W2 (hE2.block _ HG_q.out)
            simp only [Nat.one_mul, Nat.add_assoc, Nat.reduceAdd] at q0 q1 q2 q3 q4
            have HC := (ispat_any _ (ht.kid (List.getElem_mem _))) kc_p W2 (HT_p.out.later hE2)
            try dsimp only at HC
            have hcv : _ = _ := ((atK_map t.kids 0 (·.pat) (by rw [← HLN.out]; omega)).symm.trans (by rw [HL.out]) : (t.kids[0]'(by rw [← HLN.out]; omega)).kinds.pat = atK L 0 (·.pat))
            rw [hcv, hc1] at HC
            try unfold NC.val at HC
            go_wp2_with fail
            refine HC.mono ?_; rintro e W3 ⟨rfl, hC⟩
            have hD3 := hD2.trans (hC.mono hD2.size)
            have hE3 := HB1.out.trans (hD3.mono (by rw [HS1.out]; omega))
            clear HC hC hD2 hE2 x0 x1 x2 x3 x4 hcv p0 p1 p2 p3 p4 q0 q1 q2 q3 q4
            obtain ⟨x0, x1, x2, x3, x4⟩ := HBX.out.same (hD3.block w.heap.size (by rw [HS1.out]; omega))
            dsimp only at x0 x1 x2 x3 x4
            obtain ⟨p0, p1, p2, p3, p4⟩ := HC_p.out W3 (hE3.block _ HG_p.out)
            simp only [Nat.zero_mul, Nat.add_zero] at p0 p1 p2 p3 p4
            obtain ⟨q0, q1, q2, q3, q4⟩ := HC_q.out W3 (hE3.block _ HG_q.out)
            simp only [Nat.one_mul, Nat.add_assoc, Nat.reduceAdd] at q0 q1 q2 q3 q4
            have HC := (ih _ (List.getElem_mem _)) kc_q W3 (HT_q.out.later hE3)
            try dsimp only at HC
            have hcv : _ = _ := ((atK_map t.kids 1 (·.exp) (by rw [← HLN.out]; omega)).symm.trans (by rw [HL.out]) : (t.kids[1]'(by rw [← HLN.out]; omega)).kinds.exp = atK L 1 (·.exp))
            rw [hcv, hc2] at HC
            try unfold NC.val at HC
            go_wp2_with fail
            refine HC.mono ?_; rintro e W4 ⟨rfl, hC⟩
            have hD4 := hD3.trans (hC.mono hD3.size)
            have hE4 := HB1.out.trans (hD4.mono (by rw [HS1.out]; omega))
            clear HC hC hD3 hE3 x0 x1 x2 x3 x4 hcv p0 p1 p2 p3 p4 q0 q1 q2 q3 q4
            obtain ⟨x0, x1, x2, x3, x4⟩ := HBX.out.same (hD4.block w.heap.size (by rw [HS1.out]; omega))
            dsimp only at x0 x1 x2 x3 x4
            obtain ⟨p0, p1, p2, p3, p4⟩ := HC_p.out W4 (hE4.block _ HG_p.out)
            simp only [Nat.zero_mul, Nat.add_zero] at p0 p1 p2 p3 p4
            obtain ⟨q0, q1, q2, q3, q4⟩ := HC_q.out W4 (hE4.block _ HG_q.out)
            simp only [Nat.one_mul, Nat.add_assoc, Nat.reduceAdd] at q0 q1 q2 q3 q4
            go_wp2_with fail
            all_goals
              try rw [Exit.noGoto_ret]
              go_ret
              exact ⟨by rw [HR.out]; first | rfl | (refine congrArg (fun b => Ending.returned (Value.bool b)) (?_ : _ = _); simp <;> first | assumption | omega), hE4⟩
        | false =>
          obtain ⟨kc_p, g_p, o_p, hp_p, hg_p, ht_p, hc_p⟩ := HK.out.at 0 (by rw [← HLN.out]; omega)
          subst hp_p
          have HG_p := Lib.hid hg_p
          have HT_p := Lib.hid ht_p
          have HC_p := Lib.hid hc_p
          clear hg_p ht_p hc_p
          have HR : Hid (t.kinds.alt = false) := by show _ = _; rw [HQ.out]; simp [altK, HML.out, hc0, hc1]
          obtain ⟨x0, x1, x2, x3, x4⟩ := HBX.out
          dsimp only at x0 x1 x2 x3 x4
          have hD1 := Below.refl W1.heap.size W1
          have hE1 := HB1.out
          obtain ⟨p0, p1, p2, p3, p4⟩ := HC_p.out W1 (HB1.out.block _ HG_p.out)
          simp only [Nat.zero_mul, Nat.add_zero] at p0 p1 p2 p3 p4
          have HC := bare_any ⟨15, ps, n, txt, (some ⟨g_p, o_p, none⟩), 2, kc⟩ W1
          try dsimp only at HC
          rw [hc0] at HC
          try unfold NC.val at HC
          go_wp2_with fail
          refine HC.mono ?_; rintro e W2 ⟨rfl, hC⟩
          have hD2 := hD1.trans (hC.mono hD1.size)
          have hE2 := HB1.out.trans (hD2.mono (by rw [HS1.out]; omega))
          clear HC hC hD1 hE1 x0 x1 x2 x3 x4 p0 p1 p2 p3 p4
          obtain ⟨x0, x1, x2, x3, x4⟩ := HBX.out.same (hD2.block w.heap.size (by rw [HS1.out]; omega))
          dsimp only at x0 x1 x2 x3 x4
          obtain ⟨p0, p1, p2, p3, p4⟩ := HC_p.out W2 (hE2.block _ HG_p.out)
          simp only [Nat.zero_mul, Nat.add_zero] at p0 p1 p2 p3 p4
          have HC := (ispat_any _ (ht.kid (List.getElem_mem _))) kc_p W2 (HT_p.out.later hE2)
          try dsimp only at HC
          have hcv : _ = _ := ((atK_map t.kids 0 (·.pat) (by rw [← HLN.out]; omega)).symm.trans (by rw [HL.out]) : (t.kids[0]'(by rw [← HLN.out]; omega)).kinds.pat = atK L 0 (·.pat))
          rw [hcv, hc1] at HC
          try unfold NC.val at HC
          go_wp2_with fail
          refine HC.mono ?_; rintro e W3 ⟨rfl, hC⟩
          have hD3 := hD2.trans (hC.mono hD2.size)
          have hE3 := HB1.out.trans (hD3.mono (by rw [HS1.out]; omega))
          clear HC hC hD2 hE2 x0 x1 x2 x3 x4 hcv p0 p1 p2 p3 p4
          obtain ⟨x0, x1, x2, x3, x4⟩ := HBX.out.same (hD3.block w.heap.size (by rw [HS1.out]; omega))
          dsimp only at x0 x1 x2 x3 x4
          obtain ⟨p0, p1, p2, p3, p4⟩ := HC_p.out W3 (hE3.block _ HG_p.out)
          simp only [Nat.zero_mul, Nat.add_zero] at p0 p1 p2 p3 p4
          go_wp2_with fail
          all_goals
            try rw [Exit.noGoto_ret]
            go_ret
            exact ⟨by rw [HR.out]; first | rfl | (refine congrArg (fun b => Ending.returned (Value.bool b)) (?_ : _ = _); simp <;> first | assumption | omega), hE3⟩
      case neg =>
        have hlen2_1' : ¬ (kl : Int) = 2 := by omega
        have HR : Hid (t.kinds.alt = false) := by show _ = _; rw [HQ.out]; simp [altK, HML.out, hc0, hlen2_1]
        obtain ⟨x0, x1, x2, x3, x4⟩ := HBX.out
        dsimp only at x0 x1 x2 x3 x4
        have hD1 := Below.refl W1.heap.size W1
        have hE1 := HB1.out
        have HC := bare_any ⟨15, ps, n, txt, kp, kl, kc⟩ W1
        try dsimp only at HC
        rw [hc0] at HC
        try unfold NC.val at HC
        go_wp2_with fail
        refine HC.mono ?_; rintro e W2 ⟨rfl, hC⟩
        have hD2 := hD1.trans (hC.mono hD1.size)
        have hE2 := HB1.out.trans (hD2.mono (by rw [HS1.out]; omega))
        clear HC hC hD1 hE1 x0 x1 x2 x3 x4
        obtain ⟨x0, x1, x2, x3, x4⟩ := HBX.out.same (hD2.block w.heap.size (by rw [HS1.out]; omega))
        dsimp only at x0 x1 x2 x3 x4
        go_wp2_with fail
        all_goals
          try rw [Exit.noGoto_ret]
          go_ret
          exact ⟨by rw [HR.out]; first | rfl | (refine congrArg (fun b => Ending.returned (Value.bool b)) (?_ : _ = _); simp <;> first | assumption | omega), hE2⟩
    | false =>
      have HR : Hid (t.kinds.alt = false) := by show _ = _; rw [HQ.out]; simp [altK, HML.out, hc0]
      obtain ⟨x0, x1, x2, x3, x4⟩ := HBX.out
      dsimp only at x0 x1 x2 x3 x4
      have hD1 := Below.refl W1.heap.size W1
      have hE1 := HB1.out
      have HC := bare_any ⟨15, ps, n, txt, kp, kl, kc⟩ W1
      try dsimp only at HC
      rw [hc0] at HC
      try unfold NC.val at HC
      go_wp2_with fail
      refine HC.mono ?_; rintro e W2 ⟨rfl, hC⟩
      have hD2 := hD1.trans (hC.mono hD1.size)
      have hE2 := HB1.out.trans (hD2.mono (by rw [HS1.out]; omega))
      clear HC hC hD1 hE1 x0 x1 x2 x3 x4
      obtain ⟨x0, x1, x2, x3, x4⟩ := HBX.out.same (hD2.block w.heap.size (by rw [HS1.out]; omega))
      dsimp only at x0 x1 x2 x3 x4
      go_wp2_with fail
      all_goals
        try rw [Exit.noGoto_ret]
        go_ret
        exact ⟨by rw [HR.out]; first | rfl | (refine congrArg (fun b => Ending.returned (Value.bool b)) (?_ : _ = _); simp <;> first | assumption | omega), hE2⟩
  case neg =>
    have HR : Hid (t.kinds.alt = false) := by show _ = _; rw [HQ.out]; simp [altK, HML.out, hk15_0]
    obtain ⟨x0, x1, x2, x3, x4⟩ := HBX.out
    dsimp only at x0 x1 x2 x3 x4
    have hD1 := Below.refl W1.heap.size W1
    have hE1 := HB1.out
    go_wp2_with fail
    all_goals
      try rw [Exit.noGoto_ret]
      go_ret
      exact ⟨by rw [HR.out]; first | rfl | (refine congrArg (fun b => Ending.returned (Value.bool b)) (?_ : _ = _); simp <;> first | assumption | omega), hE1⟩
set_option maxRecDepth 100000 in
set_option maxHeartbeats 4000000 in
theorem isbind_step (t : Nd) (ht : Nd.Fit t) (ih : ∀ t' ∈ t.kids, Is 107 (fun t => t.kinds.exp) t') : Is 87 (fun t => t.kinds.bind) t := by
  intro c w h
  obtain ⟨k, ps, n, txt, kp, kl, kc⟩ := c
  obtain ⟨L, hL⟩ : ∃ L, L = t.kids.map Nd.kinds := ⟨_, rfl⟩
  have HQ : Hid (t.kinds.bind = (bindK k n txt L)) := by
    show _ = _
    try rw [hL]
    rw [Nd.kinds_eq, ← h.kind, ← h.num, ← h.text]; rfl
  have hTx : txt.length ≤ maxLen := by have := h.text; dsimp only at this; rw [this]; exact ht.text
  have HLN : Hid (kl = t.kids.length) := h.len
  have HML : Hid (L.length = kl) := by show _ = _; rw [hL, List.length_map, HLN.out]
  have hk6 : kl ≤ 1000000 := by rw [HLN.out]; exact ht.len
  have hkc : kl ≤ kc := h.fits
  have HTL : Hid (t.kids.length ≤ 1000000) := ht.len
  have HK := Lib.hid h.kids
  have HT := Lib.hid h
  have HNUM : Hid (n = t.num) := h.num
  have HTXT : Hid (txt = t.text) := h.text
  have HL := Lib.hid hL
  dsimp only at HK
  clear h hL
  unfold NC.val
  obtain ⟨W1, hW1⟩ : ∃ W1, W1 = w.alloc (.cells #[.int .i64 k, .int .i64 ps, .int .i64 n, .string ⟨txt.toArray⟩, .slice kp kl kc] 25) := ⟨_, rfl⟩
  have HBX : Hid (NBox W1 w.heap.size ⟨k, ps, n, txt, kp, kl, kc⟩) := by rw [hW1]; exact NBox.new w ⟨k, ps, n, txt, kp, kl, kc⟩ 25
  have HB1 : Hid (Below w.heap.size w W1) := by rw [hW1]; exact (Below.refl _ w).alloc (Nat.le_refl _) _
  have hs1 : W1.heap.size = w.heap.size + 1 := by rw [hW1]; simp
  have HS1 := Lib.hid hs1
  have HW1 := Lib.hid hW1
  clear hW1 hs1
  go_enter Try.func87, Try.ntmps87
  go_upto_region 1 with fail
  rw [← HW1.out]
  clear HW1
  by_cases hk31_0 : k = 31
  case pos =>
    subst hk31_0
    cases hc0 : decide (n = 0) && (decide (kl = 1) && varB txt) with
    | true =>
      have hz_1 := hc0
      simp only [Bool.and_eq_true, decide_eq_true_eq] at hz_1
      obtain ⟨rfl, rfl, hz_1⟩ := hz_1
      cases hc2 : atK L 0 (·.exp) with
      | true =>
        obtain ⟨kc_p, g_p, o_p, hp_p, hg_p, ht_p, hc_p⟩ := HK.out.at 0 (by rw [← HLN.out]; omega)
        subst hp_p
        have HG_p := Lib.hid hg_p
        have HT_p := Lib.hid ht_p
        have HC_p := Lib.hid hc_p
        clear hg_p ht_p hc_p
        have HR : Hid (t.kinds.bind = true) := by show _ = _; rw [HQ.out]; simp [bindK, varK, HML.out, hc0, hz_1, hc2]
        obtain ⟨x0, x1, x2, x3, x4⟩ := HBX.out
        dsimp only at x0 x1 x2 x3 x4
        have hD1 := Below.refl W1.heap.size W1
        have hE1 := HB1.out
        obtain ⟨p0, p1, p2, p3, p4⟩ := HC_p.out W1 (HB1.out.block _ HG_p.out)
        simp only [Nat.zero_mul, Nat.add_zero] at p0 p1 p2 p3 p4
        have HC := isvar_any ⟨31, ps, 0, txt, (some ⟨g_p, o_p, none⟩), 1, kc⟩ W1 1 (by omega) hTx hk6
        try dsimp only at HC
        rw [hc0] at HC
        try unfold NC.val at HC
        go_wp2_with fail
        refine HC.mono ?_; rintro e W2 ⟨rfl, hC⟩
        have hD2 := hD1.trans (hC.mono hD1.size)
        have hE2 := HB1.out.trans (hD2.mono (by rw [HS1.out]; omega))
        clear HC hC hD1 hE1 x0 x1 x2 x3 x4 p0 p1 p2 p3 p4
        obtain ⟨x0, x1, x2, x3, x4⟩ := HBX.out.same (hD2.block w.heap.size (by rw [HS1.out]; omega))
        dsimp only at x0 x1 x2 x3 x4
        obtain ⟨p0, p1, p2, p3, p4⟩ := HC_p.out W2 (hE2.block _ HG_p.out)
        simp only [Nat.zero_mul, Nat.add_zero] at p0 p1 p2 p3 p4
        have HC := (ih _ (List.getElem_mem _)) kc_p W2 (HT_p.out.later hE2)
        try dsimp only at HC
        have hcv : _ = _ := ((atK_map t.kids 0 (·.exp) (by rw [← HLN.out]; omega)).symm.trans (by rw [HL.out]) : (t.kids[0]'(by rw [← HLN.out]; omega)).kinds.exp = atK L 0 (·.exp))
        rw [hcv, hc2] at HC
        try unfold NC.val at HC
        go_wp2_with fail
        refine HC.mono ?_; rintro e W3 ⟨rfl, hC⟩
        have hD3 := hD2.trans (hC.mono hD2.size)
        have hE3 := HB1.out.trans (hD3.mono (by rw [HS1.out]; omega))
        clear HC hC hD2 hE2 x0 x1 x2 x3 x4 hcv p0 p1 p2 p3 p4
        obtain ⟨x0, x1, x2, x3, x4⟩ := HBX.out.same (hD3.block w.heap.size (by rw [HS1.out]; omega))
        dsimp only at x0 x1 x2 x3 x4
        obtain ⟨p0, p1, p2, p3, p4⟩ := HC_p.out W3 (hE3.block _ HG_p.out)
        simp only [Nat.zero_mul, Nat.add_zero] at p0 p1 p2 p3 p4
        go_wp2_with fail
        all_goals
          try rw [Exit.noGoto_ret]
          go_ret
          exact ⟨by rw [HR.out]; first | rfl | (refine congrArg (fun b => Ending.returned (Value.bool b)) (?_ : _ = _); simp <;> first | assumption | omega), hE3⟩
      | false =>
        obtain ⟨kc_p, g_p, o_p, hp_p, hg_p, ht_p, hc_p⟩ := HK.out.at 0 (by rw [← HLN.out]; omega)
        subst hp_p
        have HG_p := Lib.hid hg_p
        have HT_p := Lib.hid ht_p
        have HC_p := Lib.hid hc_p
        clear hg_p ht_p hc_p
        have HR : Hid (t.kinds.bind = false) := by show _ = _; rw [HQ.out]; simp [bindK, varK, HML.out, hc0, hz_1, hc2]
        obtain ⟨x0, x1, x2, x3, x4⟩ := HBX.out
        dsimp only at x0 x1 x2 x3 x4
        have hD1 := Below.refl W1.heap.size W1
        have hE1 := HB1.out
        obtain ⟨p0, p1, p2, p3, p4⟩ := HC_p.out W1 (HB1.out.block _ HG_p.out)
        simp only [Nat.zero_mul, Nat.add_zero] at p0 p1 p2 p3 p4
        have HC := isvar_any ⟨31, ps, 0, txt, (some ⟨g_p, o_p, none⟩), 1, kc⟩ W1 1 (by omega) hTx hk6
        try dsimp only at HC
        rw [hc0] at HC
        try unfold NC.val at HC
        go_wp2_with fail
        refine HC.mono ?_; rintro e W2 ⟨rfl, hC⟩
        have hD2 := hD1.trans (hC.mono hD1.size)
        have hE2 := HB1.out.trans (hD2.mono (by rw [HS1.out]; omega))
        clear HC hC hD1 hE1 x0 x1 x2 x3 x4 p0 p1 p2 p3 p4
        obtain ⟨x0, x1, x2, x3, x4⟩ := HBX.out.same (hD2.block w.heap.size (by rw [HS1.out]; omega))
        dsimp only at x0 x1 x2 x3 x4
        obtain ⟨p0, p1, p2, p3, p4⟩ := HC_p.out W2 (hE2.block _ HG_p.out)
        simp only [Nat.zero_mul, Nat.add_zero] at p0 p1 p2 p3 p4
        have HC := (ih _ (List.getElem_mem _)) kc_p W2 (HT_p.out.later hE2)
        try dsimp only at HC
        have hcv : _ = _ := ((atK_map t.kids 0 (·.exp) (by rw [← HLN.out]; omega)).symm.trans (by rw [HL.out]) : (t.kids[0]'(by rw [← HLN.out]; omega)).kinds.exp = atK L 0 (·.exp))
        rw [hcv, hc2] at HC
        try unfold NC.val at HC
        go_wp2_with fail
        refine HC.mono ?_; rintro e W3 ⟨rfl, hC⟩
        have hD3 := hD2.trans (hC.mono hD2.size)
        have hE3 := HB1.out.trans (hD3.mono (by rw [HS1.out]; omega))
        clear HC hC hD2 hE2 x0 x1 x2 x3 x4 hcv p0 p1 p2 p3 p4
        obtain ⟨x0, x1, x2, x3, x4⟩ := HBX.out.same (hD3.block w.heap.size (by rw [HS1.out]; omega))
        dsimp only at x0 x1 x2 x3 x4
        obtain ⟨p0, p1, p2, p3, p4⟩ := HC_p.out W3 (hE3.block _ HG_p.out)
        simp only [Nat.zero_mul, Nat.add_zero] at p0 p1 p2 p3 p4
        go_wp2_with fail
        all_goals
          try rw [Exit.noGoto_ret]
          go_ret
          exact ⟨by rw [HR.out]; first | rfl | (refine congrArg (fun b => Ending.returned (Value.bool b)) (?_ : _ = _); simp <;> first | assumption | omega), hE3⟩
    | false =>
      have HR : Hid (t.kinds.bind = false) := by show _ = _; rw [HQ.out]; simp [bindK, varK, HML.out, hc0]
      obtain ⟨x0, x1, x2, x3, x4⟩ := HBX.out
      dsimp only at x0 x1 x2 x3 x4
      have hD1 := Below.refl W1.heap.size W1
      have hE1 := HB1.out
      have HC := isvar_any ⟨31, ps, n, txt, kp, kl, kc⟩ W1 1 (by omega) hTx hk6
      try dsimp only at HC
      rw [hc0] at HC
      try unfold NC.val at HC
      go_wp2_with fail
      refine HC.mono ?_; rintro e W2 ⟨rfl, hC⟩
      have hD2 := hD1.trans (hC.mono hD1.size)
      have hE2 := HB1.out.trans (hD2.mono (by rw [HS1.out]; omega))
      clear HC hC hD1 hE1 x0 x1 x2 x3 x4
      obtain ⟨x0, x1, x2, x3, x4⟩ := HBX.out.same (hD2.block w.heap.size (by rw [HS1.out]; omega))
      dsimp only at x0 x1 x2 x3 x4
      go_wp2_with fail
      all_goals
        try rw [Exit.noGoto_ret]
        go_ret
        exact ⟨by rw [HR.out]; first | rfl | (refine congrArg (fun b => Ending.returned (Value.bool b)) (?_ : _ = _); simp <;> first | assumption | omega), hE2⟩
  case neg =>
    have HR : Hid (t.kinds.bind = false) := by show _ = _; rw [HQ.out]; simp [bindK, varK, HML.out, hk31_0]
    obtain ⟨x0, x1, x2, x3, x4⟩ := HBX.out
    dsimp only at x0 x1 x2 x3 x4
    have hD1 := Below.refl W1.heap.size W1
    have hE1 := HB1.out
    go_wp2_with fail
    all_goals
      try rw [Exit.noGoto_ret]
      go_ret
      exact ⟨by rw [HR.out]; first | rfl | (refine congrArg (fun b => Ending.returned (Value.bool b)) (?_ : _ = _); simp <;> first | assumption | omega), hE1⟩
set_option maxRecDepth 100000 in
set_option maxHeartbeats 4000000 in
theorem issig_any (t : Nd) (ht : Nd.Fit t) : Is 86 (fun t => t.kinds.sig) t := by
  intro c w h
  obtain ⟨k, ps, n, txt, kp, kl, kc⟩ := c
  obtain ⟨L, hL⟩ : ∃ L, L = t.kids.map Nd.kinds := ⟨_, rfl⟩
  have HQ : Hid (t.kinds.sig = (sigK k n txt L)) := by
    show _ = _
    try rw [hL]
    rw [Nd.kinds_eq, ← h.kind, ← h.num, ← h.text]; rfl
  have hTx : txt.length ≤ maxLen := by have := h.text; dsimp only at this; rw [this]; exact ht.text
  have HLN : Hid (kl = t.kids.length) := h.len
  have HML : Hid (L.length = kl) := by show _ = _; rw [hL, List.length_map, HLN.out]
  have hk6 : kl ≤ 1000000 := by rw [HLN.out]; exact ht.len
  have hkc : kl ≤ kc := h.fits
  have HTL : Hid (t.kids.length ≤ 1000000) := ht.len
  have HK := Lib.hid h.kids
  have HT := Lib.hid h
  have HNUM : Hid (n = t.num) := h.num
  have HTXT : Hid (txt = t.text) := h.text
  have HL := Lib.hid hL
  dsimp only at HK
  clear h hL
  unfold NC.val
  obtain ⟨W1, hW1⟩ : ∃ W1, W1 = w.alloc (.cells #[.int .i64 k, .int .i64 ps, .int .i64 n, .string ⟨txt.toArray⟩, .slice kp kl kc] 25) := ⟨_, rfl⟩
  have HBX : Hid (NBox W1 w.heap.size ⟨k, ps, n, txt, kp, kl, kc⟩) := by rw [hW1]; exact NBox.new w ⟨k, ps, n, txt, kp, kl, kc⟩ 25
  have HB1 : Hid (Below w.heap.size w W1) := by rw [hW1]; exact (Below.refl _ w).alloc (Nat.le_refl _) _
  have hs1 : W1.heap.size = w.heap.size + 1 := by rw [hW1]; simp
  have HS1 := Lib.hid hs1
  have HW1 := Lib.hid hW1
  clear hW1 hs1
  go_enter Try.func86, Try.ntmps86
  go_upto_region 1 with fail
  rw [← HW1.out]
  clear HW1
  by_cases hk32_0 : k = 32
  case pos =>
    subst hk32_0
    cases hc0 : decide (n = 0) && (decide (kl = 1) && varB txt) with
    | true =>
      have hz_1 := hc0
      simp only [Bool.and_eq_true, decide_eq_true_eq] at hz_1
      obtain ⟨rfl, rfl, hz_1⟩ := hz_1
      cases hc2 : atK L 0 (·.qual) with
      | true =>
        obtain ⟨kc_p, g_p, o_p, hp_p, hg_p, ht_p, hc_p⟩ := HK.out.at 0 (by rw [← HLN.out]; omega)
        subst hp_p
        have HG_p := Lib.hid hg_p
        have HT_p := Lib.hid ht_p
        have HC_p := Lib.hid hc_p
        clear hg_p ht_p hc_p
        have HR : Hid (t.kinds.sig = true) := by show _ = _; rw [HQ.out]; simp [sigK, varK, HML.out, hc0, hz_1, hc2]
        obtain ⟨x0, x1, x2, x3, x4⟩ := HBX.out
        dsimp only at x0 x1 x2 x3 x4
        have hD1 := Below.refl W1.heap.size W1
        have hE1 := HB1.out
        obtain ⟨p0, p1, p2, p3, p4⟩ := HC_p.out W1 (HB1.out.block _ HG_p.out)
        simp only [Nat.zero_mul, Nat.add_zero] at p0 p1 p2 p3 p4
        have HC := isvar_any ⟨32, ps, 0, txt, (some ⟨g_p, o_p, none⟩), 1, kc⟩ W1 1 (by omega) hTx hk6
        try dsimp only at HC
        rw [hc0] at HC
        try unfold NC.val at HC
        go_wp2_with fail
        refine HC.mono ?_; rintro e W2 ⟨rfl, hC⟩
        have hD2 := hD1.trans (hC.mono hD1.size)
        have hE2 := HB1.out.trans (hD2.mono (by rw [HS1.out]; omega))
        clear HC hC hD1 hE1 x0 x1 x2 x3 x4 p0 p1 p2 p3 p4
        obtain ⟨x0, x1, x2, x3, x4⟩ := HBX.out.same (hD2.block w.heap.size (by rw [HS1.out]; omega))
        dsimp only at x0 x1 x2 x3 x4
        obtain ⟨p0, p1, p2, p3, p4⟩ := HC_p.out W2 (hE2.block _ HG_p.out)
        simp only [Nat.zero_mul, Nat.add_zero] at p0 p1 p2 p3 p4
        have HC := (isqual_any _ (ht.kid (List.getElem_mem _))) kc_p W2 (HT_p.out.later hE2)
        try dsimp only at HC
        have hcv : _ = _ := ((atK_map t.kids 0 (·.qual) (by rw [← HLN.out]; omega)).symm.trans (by rw [HL.out]) : (t.kids[0]'(by rw [← HLN.out]; omega)).kinds.qual = atK L 0 (·.qual))
        rw [hcv, hc2] at HC
        try unfold NC.val at HC
        go_wp2_with fail
        refine HC.mono ?_; rintro e W3 ⟨rfl, hC⟩
        have hD3 := hD2.trans (hC.mono hD2.size)
        have hE3 := HB1.out.trans (hD3.mono (by rw [HS1.out]; omega))
        clear HC hC hD2 hE2 x0 x1 x2 x3 x4 hcv p0 p1 p2 p3 p4
        obtain ⟨x0, x1, x2, x3, x4⟩ := HBX.out.same (hD3.block w.heap.size (by rw [HS1.out]; omega))
        dsimp only at x0 x1 x2 x3 x4
        obtain ⟨p0, p1, p2, p3, p4⟩ := HC_p.out W3 (hE3.block _ HG_p.out)
        simp only [Nat.zero_mul, Nat.add_zero] at p0 p1 p2 p3 p4
        go_wp2_with fail
        all_goals
          try rw [Exit.noGoto_ret]
          go_ret
          exact ⟨by rw [HR.out]; first | rfl | (refine congrArg (fun b => Ending.returned (Value.bool b)) (?_ : _ = _); simp <;> first | assumption | omega), hE3⟩
      | false =>
        obtain ⟨kc_p, g_p, o_p, hp_p, hg_p, ht_p, hc_p⟩ := HK.out.at 0 (by rw [← HLN.out]; omega)
        subst hp_p
        have HG_p := Lib.hid hg_p
        have HT_p := Lib.hid ht_p
        have HC_p := Lib.hid hc_p
        clear hg_p ht_p hc_p
        have HR : Hid (t.kinds.sig = false) := by show _ = _; rw [HQ.out]; simp [sigK, varK, HML.out, hc0, hz_1, hc2]
        obtain ⟨x0, x1, x2, x3, x4⟩ := HBX.out
        dsimp only at x0 x1 x2 x3 x4
        have hD1 := Below.refl W1.heap.size W1
        have hE1 := HB1.out
        obtain ⟨p0, p1, p2, p3, p4⟩ := HC_p.out W1 (HB1.out.block _ HG_p.out)
        simp only [Nat.zero_mul, Nat.add_zero] at p0 p1 p2 p3 p4
        have HC := isvar_any ⟨32, ps, 0, txt, (some ⟨g_p, o_p, none⟩), 1, kc⟩ W1 1 (by omega) hTx hk6
        try dsimp only at HC
        rw [hc0] at HC
        try unfold NC.val at HC
        go_wp2_with fail
        refine HC.mono ?_; rintro e W2 ⟨rfl, hC⟩
        have hD2 := hD1.trans (hC.mono hD1.size)
        have hE2 := HB1.out.trans (hD2.mono (by rw [HS1.out]; omega))
        clear HC hC hD1 hE1 x0 x1 x2 x3 x4 p0 p1 p2 p3 p4
        obtain ⟨x0, x1, x2, x3, x4⟩ := HBX.out.same (hD2.block w.heap.size (by rw [HS1.out]; omega))
        dsimp only at x0 x1 x2 x3 x4
        obtain ⟨p0, p1, p2, p3, p4⟩ := HC_p.out W2 (hE2.block _ HG_p.out)
        simp only [Nat.zero_mul, Nat.add_zero] at p0 p1 p2 p3 p4
        have HC := (isqual_any _ (ht.kid (List.getElem_mem _))) kc_p W2 (HT_p.out.later hE2)
        try dsimp only at HC
        have hcv : _ = _ := ((atK_map t.kids 0 (·.qual) (by rw [← HLN.out]; omega)).symm.trans (by rw [HL.out]) : (t.kids[0]'(by rw [← HLN.out]; omega)).kinds.qual = atK L 0 (·.qual))
        rw [hcv, hc2] at HC
        try unfold NC.val at HC
        go_wp2_with fail
        refine HC.mono ?_; rintro e W3 ⟨rfl, hC⟩
        have hD3 := hD2.trans (hC.mono hD2.size)
        have hE3 := HB1.out.trans (hD3.mono (by rw [HS1.out]; omega))
        clear HC hC hD2 hE2 x0 x1 x2 x3 x4 hcv p0 p1 p2 p3 p4
        obtain ⟨x0, x1, x2, x3, x4⟩ := HBX.out.same (hD3.block w.heap.size (by rw [HS1.out]; omega))
        dsimp only at x0 x1 x2 x3 x4
        obtain ⟨p0, p1, p2, p3, p4⟩ := HC_p.out W3 (hE3.block _ HG_p.out)
        simp only [Nat.zero_mul, Nat.add_zero] at p0 p1 p2 p3 p4
        go_wp2_with fail
        all_goals
          try rw [Exit.noGoto_ret]
          go_ret
          exact ⟨by rw [HR.out]; first | rfl | (refine congrArg (fun b => Ending.returned (Value.bool b)) (?_ : _ = _); simp <;> first | assumption | omega), hE3⟩
    | false =>
      have HR : Hid (t.kinds.sig = false) := by show _ = _; rw [HQ.out]; simp [sigK, varK, HML.out, hc0]
      obtain ⟨x0, x1, x2, x3, x4⟩ := HBX.out
      dsimp only at x0 x1 x2 x3 x4
      have hD1 := Below.refl W1.heap.size W1
      have hE1 := HB1.out
      have HC := isvar_any ⟨32, ps, n, txt, kp, kl, kc⟩ W1 1 (by omega) hTx hk6
      try dsimp only at HC
      rw [hc0] at HC
      try unfold NC.val at HC
      go_wp2_with fail
      refine HC.mono ?_; rintro e W2 ⟨rfl, hC⟩
      have hD2 := hD1.trans (hC.mono hD1.size)
      have hE2 := HB1.out.trans (hD2.mono (by rw [HS1.out]; omega))
      clear HC hC hD1 hE1 x0 x1 x2 x3 x4
      obtain ⟨x0, x1, x2, x3, x4⟩ := HBX.out.same (hD2.block w.heap.size (by rw [HS1.out]; omega))
      dsimp only at x0 x1 x2 x3 x4
      go_wp2_with fail
      all_goals
        try rw [Exit.noGoto_ret]
        go_ret
        exact ⟨by rw [HR.out]; first | rfl | (refine congrArg (fun b => Ending.returned (Value.bool b)) (?_ : _ = _); simp <;> first | assumption | omega), hE2⟩
  case neg =>
    have HR : Hid (t.kinds.sig = false) := by show _ = _; rw [HQ.out]; simp [sigK, varK, HML.out, hk32_0]
    obtain ⟨x0, x1, x2, x3, x4⟩ := HBX.out
    dsimp only at x0 x1 x2 x3 x4
    have hD1 := Below.refl W1.heap.size W1
    have hE1 := HB1.out
    go_wp2_with fail
    all_goals
      try rw [Exit.noGoto_ret]
      go_ret
      exact ⟨by rw [HR.out]; first | rfl | (refine congrArg (fun b => Ending.returned (Value.bool b)) (?_ : _ = _); simp <;> first | assumption | omega), hE1⟩
set_option maxRecDepth 100000 in
set_option maxHeartbeats 4000000 in
theorem isbos_step (t : Nd) (ht : Nd.Fit t) (ih : ∀ t' ∈ t.kids, Is 107 (fun t => t.kinds.exp) t') : Is 81 (fun t => t.kinds.bind || t.kinds.sig) t := by
  intro c w h
  obtain ⟨k, ps, n, txt, kp, kl, kc⟩ := c
  obtain ⟨L, hL⟩ : ∃ L, L = t.kids.map Nd.kinds := ⟨_, rfl⟩
  have HQ : Hid ((t.kinds.bind || t.kinds.sig) = (t.kinds.bind || t.kinds.sig)) := by
    show _ = _
    rfl
  have hTx : txt.length ≤ maxLen := by have := h.text; dsimp only at this; rw [this]; exact ht.text
  have HLN : Hid (kl = t.kids.length) := h.len
  have HML : Hid (L.length = kl) := by show _ = _; rw [hL, List.length_map, HLN.out]
  have hk6 : kl ≤ 1000000 := by rw [HLN.out]; exact ht.len
  have hkc : kl ≤ kc := h.fits
  have HTL : Hid (t.kids.length ≤ 1000000) := ht.len
  have HK := Lib.hid h.kids
  have HT := Lib.hid h
  have HNUM : Hid (n = t.num) := h.num
  have HTXT : Hid (txt = t.text) := h.text
  have HL := Lib.hid hL
  dsimp only at HK
  clear h hL
  unfold NC.val
  obtain ⟨W1, hW1⟩ : ∃ W1, W1 = w.alloc (.cells #[.int .i64 k, .int .i64 ps, .int .i64 n, .string ⟨txt.toArray⟩, .slice kp kl kc] 25) := ⟨_, rfl⟩
  have HBX : Hid (NBox W1 w.heap.size ⟨k, ps, n, txt, kp, kl, kc⟩) := by rw [hW1]; exact NBox.new w ⟨k, ps, n, txt, kp, kl, kc⟩ 25
  have HB1 : Hid (Below w.heap.size w W1) := by rw [hW1]; exact (Below.refl _ w).alloc (Nat.le_refl _) _
  have hs1 : W1.heap.size = w.heap.size + 1 := by rw [hW1]; simp
  have HS1 := Lib.hid hs1
  have HW1 := Lib.hid hW1
  clear hW1 hs1
  go_enter Try.func81, Try.ntmps81
  go_upto_region 1 with fail
  rw [← HW1.out]
  clear HW1
  cases hc0 : t.kinds.bind with
  | true =>
    have HR : Hid ((t.kinds.bind || t.kinds.sig) = true) := by show _ = _; rw [HQ.out]; simp [HML.out, hc0]
    obtain ⟨x0, x1, x2, x3, x4⟩ := HBX.out
    dsimp only at x0 x1 x2 x3 x4
    have hD1 := Below.refl W1.heap.size W1
    have hE1 := HB1.out
    have HC := isbind_step t ht ih ⟨k, ps, n, txt, kp, kl, kc⟩ W1 (HT.out.later hE1)
    try dsimp only at HC
    rw [hc0] at HC
    try unfold NC.val at HC
    go_wp2_with fail
    refine HC.mono ?_; rintro e W2 ⟨rfl, hC⟩
    have hD2 := hD1.trans (hC.mono hD1.size)
    have hE2 := HB1.out.trans (hD2.mono (by rw [HS1.out]; omega))
    clear HC hC hD1 hE1 x0 x1 x2 x3 x4
    obtain ⟨x0, x1, x2, x3, x4⟩ := HBX.out.same (hD2.block w.heap.size (by rw [HS1.out]; omega))
    dsimp only at x0 x1 x2 x3 x4
    go_wp2_with fail
    all_goals
      try rw [Exit.noGoto_ret]
      go_ret
      exact ⟨by rw [HR.out]; first | rfl | (refine congrArg (fun b => Ending.returned (Value.bool b)) (?_ : _ = _); simp <;> first | assumption | omega), hE2⟩
  | false =>
    cases hc1 : t.kinds.sig with
    | true =>
      have HR : Hid ((t.kinds.bind || t.kinds.sig) = true) := by show _ = _; rw [HQ.out]; simp [HML.out, hc0, hc1]
      obtain ⟨x0, x1, x2, x3, x4⟩ := HBX.out
      dsimp only at x0 x1 x2 x3 x4
      have hD1 := Below.refl W1.heap.size W1
      have hE1 := HB1.out
      have HC := isbind_step t ht ih ⟨k, ps, n, txt, kp, kl, kc⟩ W1 (HT.out.later hE1)
      try dsimp only at HC
      rw [hc0] at HC
      try unfold NC.val at HC
      go_wp2_with fail
      refine HC.mono ?_; rintro e W2 ⟨rfl, hC⟩
      have hD2 := hD1.trans (hC.mono hD1.size)
      have hE2 := HB1.out.trans (hD2.mono (by rw [HS1.out]; omega))
      clear HC hC hD1 hE1 x0 x1 x2 x3 x4
      obtain ⟨x0, x1, x2, x3, x4⟩ := HBX.out.same (hD2.block w.heap.size (by rw [HS1.out]; omega))
      dsimp only at x0 x1 x2 x3 x4
      have HC := issig_any t ht ⟨k, ps, n, txt, kp, kl, kc⟩ W2 (HT.out.later hE2)
      try dsimp only at HC
      rw [hc1] at HC
      try unfold NC.val at HC
      go_wp2_with fail
      refine HC.mono ?_; rintro e W3 ⟨rfl, hC⟩
      have hD3 := hD2.trans (hC.mono hD2.size)
      have hE3 := HB1.out.trans (hD3.mono (by rw [HS1.out]; omega))
      clear HC hC hD2 hE2 x0 x1 x2 x3 x4
      obtain ⟨x0, x1, x2, x3, x4⟩ := HBX.out.same (hD3.block w.heap.size (by rw [HS1.out]; omega))
      dsimp only at x0 x1 x2 x3 x4
      go_wp2_with fail
      all_goals
        try rw [Exit.noGoto_ret]
        go_ret
        exact ⟨by rw [HR.out]; first | rfl | (refine congrArg (fun b => Ending.returned (Value.bool b)) (?_ : _ = _); simp <;> first | assumption | omega), hE3⟩
    | false =>
      have HR : Hid ((t.kinds.bind || t.kinds.sig) = false) := by show _ = _; rw [HQ.out]; simp [HML.out, hc0, hc1]
      obtain ⟨x0, x1, x2, x3, x4⟩ := HBX.out
      dsimp only at x0 x1 x2 x3 x4
      have hD1 := Below.refl W1.heap.size W1
      have hE1 := HB1.out
      have HC := isbind_step t ht ih ⟨k, ps, n, txt, kp, kl, kc⟩ W1 (HT.out.later hE1)
      try dsimp only at HC
      rw [hc0] at HC
      try unfold NC.val at HC
      go_wp2_with fail
      refine HC.mono ?_; rintro e W2 ⟨rfl, hC⟩
      have hD2 := hD1.trans (hC.mono hD1.size)
      have hE2 := HB1.out.trans (hD2.mono (by rw [HS1.out]; omega))
      clear HC hC hD1 hE1 x0 x1 x2 x3 x4
      obtain ⟨x0, x1, x2, x3, x4⟩ := HBX.out.same (hD2.block w.heap.size (by rw [HS1.out]; omega))
      dsimp only at x0 x1 x2 x3 x4
      have HC := issig_any t ht ⟨k, ps, n, txt, kp, kl, kc⟩ W2 (HT.out.later hE2)
      try dsimp only at HC
      rw [hc1] at HC
      try unfold NC.val at HC
      go_wp2_with fail
      refine HC.mono ?_; rintro e W3 ⟨rfl, hC⟩
      have hD3 := hD2.trans (hC.mono hD2.size)
      have hE3 := HB1.out.trans (hD3.mono (by rw [HS1.out]; omega))
      clear HC hC hD2 hE2 x0 x1 x2 x3 x4
      obtain ⟨x0, x1, x2, x3, x4⟩ := HBX.out.same (hD3.block w.heap.size (by rw [HS1.out]; omega))
      dsimp only at x0 x1 x2 x3 x4
      go_wp2_with fail
      all_goals
        try rw [Exit.noGoto_ret]
        go_ret
        exact ⟨by rw [HR.out]; first | rfl | (refine congrArg (fun b => Ending.returned (Value.bool b)) (?_ : _ = _); simp <;> first | assumption | omega), hE3⟩
set_option maxRecDepth 100000 in
set_option maxHeartbeats 4000000 in
theorem isexp_step (t : Nd) (ht : Nd.Fit t) (ih : ∀ k, k.size < t.size → Nd.Fit k → Is 107 (fun t => t.kinds.exp) k) : Is 107 (fun t => t.kinds.exp) t := by
  intro c w h
  obtain ⟨k, ps, n, txt, kp, kl, kc⟩ := c
  obtain ⟨L, hL⟩ : ∃ L, L = t.kids.map Nd.kinds := ⟨_, rfl⟩
  have HQ : Hid (t.kinds.exp = (expK k n txt L)) := by
    show _ = _
    try rw [hL]
    rw [Nd.kinds_eq, ← h.kind, ← h.num, ← h.text]; rfl
  have hTx : txt.length ≤ maxLen := by have := h.text; dsimp only at this; rw [this]; exact ht.text
  have HLN : Hid (kl = t.kids.length) := h.len
  have HML : Hid (L.length = kl) := by show _ = _; rw [hL, List.length_map, HLN.out]
  have hk6 : kl ≤ 1000000 := by rw [HLN.out]; exact ht.len
  have hkc : kl ≤ kc := h.fits
  have HTL : Hid (t.kids.length ≤ 1000000) := ht.len
  have HK := Lib.hid h.kids
  have HT := Lib.hid h
  have HNUM : Hid (n = t.num) := h.num
  have HTXT : Hid (txt = t.text) := h.text
  have HL := Lib.hid hL
  dsimp only at HK
  clear h hL
  unfold NC.val
  obtain ⟨W1, hW1⟩ : ∃ W1, W1 = w.alloc (.cells #[.int .i64 k, .int .i64 ps, .int .i64 n, .string ⟨txt.toArray⟩, .slice kp kl kc] 25) := ⟨_, rfl⟩
  have HBX : Hid (NBox W1 w.heap.size ⟨k, ps, n, txt, kp, kl, kc⟩) := by rw [hW1]; exact NBox.new w ⟨k, ps, n, txt, kp, kl, kc⟩ 25
  have HB1 : Hid (Below w.heap.size w W1) := by rw [hW1]; exact (Below.refl _ w).alloc (Nat.le_refl _) _
  have hs1 : W1.heap.size = w.heap.size + 1 := by rw [hW1]; simp
  have HS1 := Lib.hid hs1
  have HW1 := Lib.hid hW1
  clear hW1 hs1
  go_enter Try.func107, Try.ntmps107
  go_upto_region 1 with fail
  rw [← HW1.out]
  clear HW1
  by_cases hk21_0 : k = 21
  case pos =>
    subst hk21_0
    cases hc0 : decide (n = 0) && (decide (kl = 0) && varB txt) with
    | true =>
      have HR : Hid (t.kinds.exp = true) := by show _ = _; rw [HQ.out]; simp [expK, varK, -List.drop_one, HML.out, hc0]
      obtain ⟨x0, x1, x2, x3, x4⟩ := HBX.out
      dsimp only at x0 x1 x2 x3 x4
      have hD1 := Below.refl W1.heap.size W1
      have hE1 := HB1.out
      have HC := isvar_any ⟨21, ps, n, txt, kp, kl, kc⟩ W1 0 (by omega) hTx hk6
      try dsimp only at HC
      rw [hc0] at HC
      try unfold NC.val at HC
      go_wp2_with fail
      refine HC.mono ?_; rintro e W2 ⟨rfl, hC⟩
      have hD2 := hD1.trans (hC.mono hD1.size)
      have hE2 := HB1.out.trans (hD2.mono (by rw [HS1.out]; omega))
      clear HC hC hD1 hE1 x0 x1 x2 x3 x4
      obtain ⟨x0, x1, x2, x3, x4⟩ := HBX.out.same (hD2.block w.heap.size (by rw [HS1.out]; omega))
      dsimp only at x0 x1 x2 x3 x4
      go_wp2_with fail
      all_goals
        try rw [Exit.noGoto_ret]
        go_ret
        exact ⟨by rw [HR.out]; first | rfl | (refine congrArg (fun b => Ending.returned (Value.bool b)) (?_ : _ = _); simp <;> first | assumption | omega), hE2⟩
    | false =>
      have HR : Hid (t.kinds.exp = false) := by show _ = _; rw [HQ.out]; simp [expK, varK, -List.drop_one, HML.out, hc0]
      obtain ⟨x0, x1, x2, x3, x4⟩ := HBX.out
      dsimp only at x0 x1 x2 x3 x4
      have hD1 := Below.refl W1.heap.size W1
      have hE1 := HB1.out
      have HC := isvar_any ⟨21, ps, n, txt, kp, kl, kc⟩ W1 0 (by omega) hTx hk6
      try dsimp only at HC
      rw [hc0] at HC
      try unfold NC.val at HC
      go_wp2_with fail
      refine HC.mono ?_; rintro e W2 ⟨rfl, hC⟩
      have hD2 := hD1.trans (hC.mono hD1.size)
      have hE2 := HB1.out.trans (hD2.mono (by rw [HS1.out]; omega))
      clear HC hC hD1 hE1 x0 x1 x2 x3 x4
      obtain ⟨x0, x1, x2, x3, x4⟩ := HBX.out.same (hD2.block w.heap.size (by rw [HS1.out]; omega))
      dsimp only at x0 x1 x2 x3 x4
      go_wp2_with fail
      all_goals
        try rw [Exit.noGoto_ret]
        go_ret
        exact ⟨by rw [HR.out]; first | rfl | (refine congrArg (fun b => Ending.returned (Value.bool b)) (?_ : _ = _); simp <;> first | assumption | omega), hE2⟩
  case neg =>
    by_cases hk22_1 : k = 22
    case pos =>
      subst hk22_1
      by_cases hn0_1 : n = 0
      case pos =>
        subst hn0_1
        cases hc1 : conB txt with
        | true =>
          by_cases hlen0_2 : kl = 0
          case pos =>
            subst hlen0_2
            have HR : Hid (t.kinds.exp = true) := by show _ = _; rw [HQ.out]; simp [expK, varK, -List.drop_one, HML.out, hk21_0, hc1]
            obtain ⟨x0, x1, x2, x3, x4⟩ := HBX.out
            dsimp only at x0 x1 x2 x3 x4
            have hD1 := Below.refl W1.heap.size W1
            have hE1 := HB1.out
            have HC := con_text txt W1 hTx
            try dsimp only at HC
            rw [hc1] at HC
            try unfold NC.val at HC
            go_wp2_with fail
            refine HC.mono ?_; rintro e W2 ⟨rfl, hC⟩
            have hD2 := hD1.trans (hC.mono hD1.size)
            have hE2 := HB1.out.trans (hD2.mono (by rw [HS1.out]; omega))
            clear HC hC hD1 hE1 x0 x1 x2 x3 x4
            obtain ⟨x0, x1, x2, x3, x4⟩ := HBX.out.same (hD2.block w.heap.size (by rw [HS1.out]; omega))
            dsimp only at x0 x1 x2 x3 x4
            go_wp2_with fail
            all_goals
              try rw [Exit.noGoto_ret]
              go_ret
              exact ⟨by rw [HR.out]; first | rfl | (refine congrArg (fun b => Ending.returned (Value.bool b)) (?_ : _ = _); simp <;> first | assumption | omega), hE2⟩
          case neg =>
            have hlen0_2' : ¬ (kl : Int) = 0 := by omega
            have HR : Hid (t.kinds.exp = false) := by show _ = _; rw [HQ.out]; simp [expK, varK, -List.drop_one, HML.out, hk21_0, hc1, hlen0_2]
            obtain ⟨x0, x1, x2, x3, x4⟩ := HBX.out
            dsimp only at x0 x1 x2 x3 x4
            have hD1 := Below.refl W1.heap.size W1
            have hE1 := HB1.out
            have HC := con_text txt W1 hTx
            try dsimp only at HC
            rw [hc1] at HC
            try unfold NC.val at HC
            go_wp2_with fail
            refine HC.mono ?_; rintro e W2 ⟨rfl, hC⟩
            have hD2 := hD1.trans (hC.mono hD1.size)
            have hE2 := HB1.out.trans (hD2.mono (by rw [HS1.out]; omega))
            clear HC hC hD1 hE1 x0 x1 x2 x3 x4
            obtain ⟨x0, x1, x2, x3, x4⟩ := HBX.out.same (hD2.block w.heap.size (by rw [HS1.out]; omega))
            dsimp only at x0 x1 x2 x3 x4
            go_wp2_with fail
            all_goals
              try rw [Exit.noGoto_ret]
              go_ret
              exact ⟨by rw [HR.out]; first | rfl | (refine congrArg (fun b => Ending.returned (Value.bool b)) (?_ : _ = _); simp <;> first | assumption | omega), hE2⟩
        | false =>
          have HR : Hid (t.kinds.exp = false) := by show _ = _; rw [HQ.out]; simp [expK, varK, -List.drop_one, HML.out, hk21_0, hc1]
          obtain ⟨x0, x1, x2, x3, x4⟩ := HBX.out
          dsimp only at x0 x1 x2 x3 x4
          have hD1 := Below.refl W1.heap.size W1
          have hE1 := HB1.out
          have HC := con_text txt W1 hTx
          try dsimp only at HC
          rw [hc1] at HC
          try unfold NC.val at HC
          go_wp2_with fail
          refine HC.mono ?_; rintro e W2 ⟨rfl, hC⟩
          have hD2 := hD1.trans (hC.mono hD1.size)
          have hE2 := HB1.out.trans (hD2.mono (by rw [HS1.out]; omega))
          clear HC hC hD1 hE1 x0 x1 x2 x3 x4
          obtain ⟨x0, x1, x2, x3, x4⟩ := HBX.out.same (hD2.block w.heap.size (by rw [HS1.out]; omega))
          dsimp only at x0 x1 x2 x3 x4
          go_wp2_with fail
          all_goals
            try rw [Exit.noGoto_ret]
            go_ret
            exact ⟨by rw [HR.out]; first | rfl | (refine congrArg (fun b => Ending.returned (Value.bool b)) (?_ : _ = _); simp <;> first | assumption | omega), hE2⟩
      case neg =>
        have HR : Hid (t.kinds.exp = false) := by show _ = _; rw [HQ.out]; simp [expK, varK, -List.drop_one, HML.out, hk21_0, hn0_1]
        obtain ⟨x0, x1, x2, x3, x4⟩ := HBX.out
        dsimp only at x0 x1 x2 x3 x4
        have hD1 := Below.refl W1.heap.size W1
        have hE1 := HB1.out
        go_wp2_with fail
        all_goals
          try rw [Exit.noGoto_ret]
          go_ret
          exact ⟨by rw [HR.out]; first | rfl | (refine congrArg (fun b => Ending.returned (Value.bool b)) (?_ : _ = _); simp <;> first | assumption | omega), hE1⟩
    case neg =>
      by_cases hk23_2 : k = 23
      case pos =>
        subst hk23_2
        by_cases hnge_2 : 0 ≤ n
        case pos =>
          by_cases htxt0_3 : txt = []
          case pos =>
            by_cases hlen0_4 : kl = 0
            case pos =>
              subst hlen0_4
              have HR : Hid (t.kinds.exp = true) := by show _ = _; rw [HQ.out]; simp [expK, varK, -List.drop_one, HML.out, hk21_0, hk22_1, hnge_2, htxt0_3]
              obtain ⟨x0, x1, x2, x3, x4⟩ := HBX.out
              dsimp only at x0 x1 x2 x3 x4
              have hD1 := Below.refl W1.heap.size W1
              have hE1 := HB1.out
              go_wp2_with fail
              all_goals
                try rw [Exit.noGoto_ret]
                go_ret
                exact ⟨by rw [HR.out]; first | rfl | (refine congrArg (fun b => Ending.returned (Value.bool b)) (?_ : _ = _); simp <;> first | assumption | omega), hE1⟩
            case neg =>
              have hlen0_4' : ¬ (kl : Int) = 0 := by omega
              have HR : Hid (t.kinds.exp = false) := by show _ = _; rw [HQ.out]; simp [expK, varK, -List.drop_one, HML.out, hk21_0, hk22_1, hnge_2, htxt0_3, hlen0_4]
              obtain ⟨x0, x1, x2, x3, x4⟩ := HBX.out
              dsimp only at x0 x1 x2 x3 x4
              have hD1 := Below.refl W1.heap.size W1
              have hE1 := HB1.out
              go_wp2_with fail
              all_goals
                try rw [Exit.noGoto_ret]
                go_ret
                exact ⟨by rw [HR.out]; first | rfl | (refine congrArg (fun b => Ending.returned (Value.bool b)) (?_ : _ = _); simp <;> first | assumption | omega), hE1⟩
          case neg =>
            have HR : Hid (t.kinds.exp = false) := by show _ = _; rw [HQ.out]; simp [expK, varK, -List.drop_one, HML.out, hk21_0, hk22_1, hnge_2, htxt0_3]
            obtain ⟨x0, x1, x2, x3, x4⟩ := HBX.out
            dsimp only at x0 x1 x2 x3 x4
            have hD1 := Below.refl W1.heap.size W1
            have hE1 := HB1.out
            go_wp2_with fail
            all_goals
              try rw [Exit.noGoto_ret]
              go_ret
              exact ⟨by rw [HR.out]; first | rfl | (refine congrArg (fun b => Ending.returned (Value.bool b)) (?_ : _ = _); simp <;> first | assumption | omega), hE1⟩
        case neg =>
          have HR : Hid (t.kinds.exp = false) := by show _ = _; rw [HQ.out]; simp [expK, varK, -List.drop_one, HML.out, hk21_0, hk22_1, hnge_2]
          obtain ⟨x0, x1, x2, x3, x4⟩ := HBX.out
          dsimp only at x0 x1 x2 x3 x4
          have hD1 := Below.refl W1.heap.size W1
          have hE1 := HB1.out
          go_wp2_with fail
          all_goals
            try rw [Exit.noGoto_ret]
            go_ret
            exact ⟨by rw [HR.out]; first | rfl | (refine congrArg (fun b => Ending.returned (Value.bool b)) (?_ : _ = _); simp <;> first | assumption | omega), hE1⟩
      case neg =>
        by_cases hk24_3 : k = 24
        case pos =>
          subst hk24_3
          cases hc3 : bareK n txt with
          | true =>
            by_cases hlen2_4 : kl = 2
            case pos =>
              subst hlen2_4
              cases hc4 : L.all (·.exp) with
              | true =>
                have HR : Hid (t.kinds.exp = true) := by show _ = _; rw [HQ.out]; simp [expK, varK, -List.drop_one, HML.out, hk21_0, hk22_1, hk23_2, hc3, hc4]
                obtain ⟨x0, x1, x2, x3, x4⟩ := HBX.out
                dsimp only at x0 x1 x2 x3 x4
                have hD1 := Below.refl W1.heap.size W1
                have hE1 := HB1.out
                have HC := bare_any ⟨24, ps, n, txt, kp, 2, kc⟩ W1
                try dsimp only at HC
                rw [hc3] at HC
                try unfold NC.val at HC
                go_wp2_with fail
                refine HC.mono ?_; rintro e W2 ⟨rfl, hC⟩
                have hD2 := hD1.trans (hC.mono hD1.size)
                have hE2 := HB1.out.trans (hD2.mono (by rw [HS1.out]; omega))
                clear HC hC hD1 hE1 x0 x1 x2 x3 x4
                obtain ⟨x0, x1, x2, x3, x4⟩ := HBX.out.same (hD2.block w.heap.size (by rw [HS1.out]; omega))
                dsimp only at x0 x1 x2 x3 x4
                have HC := every_any (f := 107) (p := fun t => t.kinds.exp) (enters_of Try.func107 (by kernel_rfl) rfl) (HK.out.later hE2) HTL.out (fun t' h => ih t' (Nd.kid_lt h) (ht.kid h))
                try dsimp only at HC
                have hcv : _ = _ := ((all_map t.kids (·.exp)).symm.trans (by rw [HL.out]) : (t.kids.all fun t => t.kinds.exp) = L.all (·.exp))
                rw [hcv, hc4] at HC
                try unfold NC.val at HC
                go_wp2_with fail
                refine HC.mono ?_; rintro e W3 ⟨rfl, hC⟩
                have hD3 := hD2.trans (hC.mono hD2.size)
                have hE3 := HB1.out.trans (hD3.mono (by rw [HS1.out]; omega))
                clear HC hC hD2 hE2 x0 x1 x2 x3 x4 hcv
                obtain ⟨x0, x1, x2, x3, x4⟩ := HBX.out.same (hD3.block w.heap.size (by rw [HS1.out]; omega))
                dsimp only at x0 x1 x2 x3 x4
                go_wp2_with fail
                all_goals
                  try rw [Exit.noGoto_ret]
                  go_ret
                  exact ⟨by rw [HR.out]; first | rfl | (refine congrArg (fun b => Ending.returned (Value.bool b)) (?_ : _ = _); simp <;> first | assumption | omega), hE3⟩
              | false =>
                have HR : Hid (t.kinds.exp = false) := by show _ = _; rw [HQ.out]; simp [expK, varK, -List.drop_one, HML.out, hk21_0, hk22_1, hk23_2, hc3, hc4]
                obtain ⟨x0, x1, x2, x3, x4⟩ := HBX.out
                dsimp only at x0 x1 x2 x3 x4
                have hD1 := Below.refl W1.heap.size W1
                have hE1 := HB1.out
                have HC := bare_any ⟨24, ps, n, txt, kp, 2, kc⟩ W1
                try dsimp only at HC
                rw [hc3] at HC
                try unfold NC.val at HC
                go_wp2_with fail
                refine HC.mono ?_; rintro e W2 ⟨rfl, hC⟩
                have hD2 := hD1.trans (hC.mono hD1.size)
                have hE2 := HB1.out.trans (hD2.mono (by rw [HS1.out]; omega))
                clear HC hC hD1 hE1 x0 x1 x2 x3 x4
                obtain ⟨x0, x1, x2, x3, x4⟩ := HBX.out.same (hD2.block w.heap.size (by rw [HS1.out]; omega))
                dsimp only at x0 x1 x2 x3 x4
                have HC := every_any (f := 107) (p := fun t => t.kinds.exp) (enters_of Try.func107 (by kernel_rfl) rfl) (HK.out.later hE2) HTL.out (fun t' h => ih t' (Nd.kid_lt h) (ht.kid h))
                try dsimp only at HC
                have hcv : _ = _ := ((all_map t.kids (·.exp)).symm.trans (by rw [HL.out]) : (t.kids.all fun t => t.kinds.exp) = L.all (·.exp))
                rw [hcv, hc4] at HC
                try unfold NC.val at HC
                go_wp2_with fail
                refine HC.mono ?_; rintro e W3 ⟨rfl, hC⟩
                have hD3 := hD2.trans (hC.mono hD2.size)
                have hE3 := HB1.out.trans (hD3.mono (by rw [HS1.out]; omega))
                clear HC hC hD2 hE2 x0 x1 x2 x3 x4 hcv
                obtain ⟨x0, x1, x2, x3, x4⟩ := HBX.out.same (hD3.block w.heap.size (by rw [HS1.out]; omega))
                dsimp only at x0 x1 x2 x3 x4
                go_wp2_with fail
                all_goals
                  try rw [Exit.noGoto_ret]
                  go_ret
                  exact ⟨by rw [HR.out]; first | rfl | (refine congrArg (fun b => Ending.returned (Value.bool b)) (?_ : _ = _); simp <;> first | assumption | omega), hE3⟩
            case neg =>
              have hlen2_4' : ¬ (kl : Int) = 2 := by omega
              have HR : Hid (t.kinds.exp = false) := by show _ = _; rw [HQ.out]; simp [expK, varK, -List.drop_one, HML.out, hk21_0, hk22_1, hk23_2, hc3, hlen2_4]
              obtain ⟨x0, x1, x2, x3, x4⟩ := HBX.out
              dsimp only at x0 x1 x2 x3 x4
              have hD1 := Below.refl W1.heap.size W1
              have hE1 := HB1.out
              have HC := bare_any ⟨24, ps, n, txt, kp, kl, kc⟩ W1
              try dsimp only at HC
              rw [hc3] at HC
              try unfold NC.val at HC
              go_wp2_with fail
              refine HC.mono ?_; rintro e W2 ⟨rfl, hC⟩
              have hD2 := hD1.trans (hC.mono hD1.size)
              have hE2 := HB1.out.trans (hD2.mono (by rw [HS1.out]; omega))
              clear HC hC hD1 hE1 x0 x1 x2 x3 x4
              obtain ⟨x0, x1, x2, x3, x4⟩ := HBX.out.same (hD2.block w.heap.size (by rw [HS1.out]; omega))
              dsimp only at x0 x1 x2 x3 x4
              go_wp2_with fail
              all_goals
                try rw [Exit.noGoto_ret]
                go_ret
                exact ⟨by rw [HR.out]; first | rfl | (refine congrArg (fun b => Ending.returned (Value.bool b)) (?_ : _ = _); simp <;> first | assumption | omega), hE2⟩
          | false =>
            have HR : Hid (t.kinds.exp = false) := by show _ = _; rw [HQ.out]; simp [expK, varK, -List.drop_one, HML.out, hk21_0, hk22_1, hk23_2, hc3]
            obtain ⟨x0, x1, x2, x3, x4⟩ := HBX.out
            dsimp only at x0 x1 x2 x3 x4
            have hD1 := Below.refl W1.heap.size W1
            have hE1 := HB1.out
            have HC := bare_any ⟨24, ps, n, txt, kp, kl, kc⟩ W1
            try dsimp only at HC
            rw [hc3] at HC
            try unfold NC.val at HC
            go_wp2_with fail
            refine HC.mono ?_; rintro e W2 ⟨rfl, hC⟩
            have hD2 := hD1.trans (hC.mono hD1.size)
            have hE2 := HB1.out.trans (hD2.mono (by rw [HS1.out]; omega))
            clear HC hC hD1 hE1 x0 x1 x2 x3 x4
            obtain ⟨x0, x1, x2, x3, x4⟩ := HBX.out.same (hD2.block w.heap.size (by rw [HS1.out]; omega))
            dsimp only at x0 x1 x2 x3 x4
            go_wp2_with fail
            all_goals
              try rw [Exit.noGoto_ret]
              go_ret
              exact ⟨by rw [HR.out]; first | rfl | (refine congrArg (fun b => Ending.returned (Value.bool b)) (?_ : _ = _); simp <;> first | assumption | omega), hE2⟩
        case neg =>
          by_cases hk25_4 : k = 25
          case pos =>
            subst hk25_4
            cases hc4 : decide (n = 0) && (decide (kl = 1) && varB txt) with
            | true =>
              have hz_5 := hc4
              simp only [Bool.and_eq_true, decide_eq_true_eq] at hz_5
              obtain ⟨rfl, rfl, hz_5⟩ := hz_5
              cases hc6 : atK L 0 (·.exp) with
              | true =>
                obtain ⟨kc_p, g_p, o_p, hp_p, hg_p, ht_p, hc_p⟩ := HK.out.at 0 (by rw [← HLN.out]; omega)
                subst hp_p
                have HG_p := Lib.hid hg_p
                have HT_p := Lib.hid ht_p
                have HC_p := Lib.hid hc_p
                clear hg_p ht_p hc_p
                have HR : Hid (t.kinds.exp = true) := by show _ = _; rw [HQ.out]; simp [expK, varK, -List.drop_one, HML.out, hk21_0, hk22_1, hk23_2, hk24_3, hc4, hz_5, hc6]
                obtain ⟨x0, x1, x2, x3, x4⟩ := HBX.out
                dsimp only at x0 x1 x2 x3 x4
                have hD1 := Below.refl W1.heap.size W1
                have hE1 := HB1.out
                obtain ⟨p0, p1, p2, p3, p4⟩ := HC_p.out W1 (HB1.out.block _ HG_p.out)
                simp only [Nat.zero_mul, Nat.add_zero] at p0 p1 p2 p3 p4
                have HC := isvar_any ⟨25, ps, 0, txt, (some ⟨g_p, o_p, none⟩), 1, kc⟩ W1 1 (by omega) hTx hk6
                try dsimp only at HC
                rw [hc4] at HC
                try unfold NC.val at HC
                go_wp2_with fail
                refine HC.mono ?_; rintro e W2 ⟨rfl, hC⟩
                have hD2 := hD1.trans (hC.mono hD1.size)
                have hE2 := HB1.out.trans (hD2.mono (by rw [HS1.out]; omega))
                clear HC hC hD1 hE1 x0 x1 x2 x3 x4 p0 p1 p2 p3 p4
                obtain ⟨x0, x1, x2, x3, x4⟩ := HBX.out.same (hD2.block w.heap.size (by rw [HS1.out]; omega))
                dsimp only at x0 x1 x2 x3 x4
                obtain ⟨p0, p1, p2, p3, p4⟩ := HC_p.out W2 (hE2.block _ HG_p.out)
                simp only [Nat.zero_mul, Nat.add_zero] at p0 p1 p2 p3 p4
                have HC := (ih _ (Nd.kid_lt (List.getElem_mem _)) (ht.kid (List.getElem_mem _))) kc_p W2 (HT_p.out.later hE2)
                try dsimp only at HC
                have hcv : _ = _ := ((atK_map t.kids 0 (·.exp) (by rw [← HLN.out]; omega)).symm.trans (by rw [HL.out]) : (t.kids[0]'(by rw [← HLN.out]; omega)).kinds.exp = atK L 0 (·.exp))
                rw [hcv, hc6] at HC
                try unfold NC.val at HC
                go_wp2_with fail
                refine HC.mono ?_; rintro e W3 ⟨rfl, hC⟩
                have hD3 := hD2.trans (hC.mono hD2.size)
                have hE3 := HB1.out.trans (hD3.mono (by rw [HS1.out]; omega))
                clear HC hC hD2 hE2 x0 x1 x2 x3 x4 hcv p0 p1 p2 p3 p4
                obtain ⟨x0, x1, x2, x3, x4⟩ := HBX.out.same (hD3.block w.heap.size (by rw [HS1.out]; omega))
                dsimp only at x0 x1 x2 x3 x4
                obtain ⟨p0, p1, p2, p3, p4⟩ := HC_p.out W3 (hE3.block _ HG_p.out)
                simp only [Nat.zero_mul, Nat.add_zero] at p0 p1 p2 p3 p4
                go_wp2_with fail
                all_goals
                  try rw [Exit.noGoto_ret]
                  go_ret
                  exact ⟨by rw [HR.out]; first | rfl | (refine congrArg (fun b => Ending.returned (Value.bool b)) (?_ : _ = _); simp <;> first | assumption | omega), hE3⟩
              | false =>
                obtain ⟨kc_p, g_p, o_p, hp_p, hg_p, ht_p, hc_p⟩ := HK.out.at 0 (by rw [← HLN.out]; omega)
                subst hp_p
                have HG_p := Lib.hid hg_p
                have HT_p := Lib.hid ht_p
                have HC_p := Lib.hid hc_p
                clear hg_p ht_p hc_p
                have HR : Hid (t.kinds.exp = false) := by show _ = _; rw [HQ.out]; simp [expK, varK, -List.drop_one, HML.out, hk21_0, hk22_1, hk23_2, hk24_3, hc4, hz_5, hc6]
                obtain ⟨x0, x1, x2, x3, x4⟩ := HBX.out
                dsimp only at x0 x1 x2 x3 x4
                have hD1 := Below.refl W1.heap.size W1
                have hE1 := HB1.out
                obtain ⟨p0, p1, p2, p3, p4⟩ := HC_p.out W1 (HB1.out.block _ HG_p.out)
                simp only [Nat.zero_mul, Nat.add_zero] at p0 p1 p2 p3 p4
                have HC := isvar_any ⟨25, ps, 0, txt, (some ⟨g_p, o_p, none⟩), 1, kc⟩ W1 1 (by omega) hTx hk6
                try dsimp only at HC
                rw [hc4] at HC
                try unfold NC.val at HC
                go_wp2_with fail
                refine HC.mono ?_; rintro e W2 ⟨rfl, hC⟩
                have hD2 := hD1.trans (hC.mono hD1.size)
                have hE2 := HB1.out.trans (hD2.mono (by rw [HS1.out]; omega))
                clear HC hC hD1 hE1 x0 x1 x2 x3 x4 p0 p1 p2 p3 p4
                obtain ⟨x0, x1, x2, x3, x4⟩ := HBX.out.same (hD2.block w.heap.size (by rw [HS1.out]; omega))
                dsimp only at x0 x1 x2 x3 x4
                obtain ⟨p0, p1, p2, p3, p4⟩ := HC_p.out W2 (hE2.block _ HG_p.out)
                simp only [Nat.zero_mul, Nat.add_zero] at p0 p1 p2 p3 p4
                have HC := (ih _ (Nd.kid_lt (List.getElem_mem _)) (ht.kid (List.getElem_mem _))) kc_p W2 (HT_p.out.later hE2)
                try dsimp only at HC
                have hcv : _ = _ := ((atK_map t.kids 0 (·.exp) (by rw [← HLN.out]; omega)).symm.trans (by rw [HL.out]) : (t.kids[0]'(by rw [← HLN.out]; omega)).kinds.exp = atK L 0 (·.exp))
                rw [hcv, hc6] at HC
                try unfold NC.val at HC
                go_wp2_with fail
                refine HC.mono ?_; rintro e W3 ⟨rfl, hC⟩
                have hD3 := hD2.trans (hC.mono hD2.size)
                have hE3 := HB1.out.trans (hD3.mono (by rw [HS1.out]; omega))
                clear HC hC hD2 hE2 x0 x1 x2 x3 x4 hcv p0 p1 p2 p3 p4
                obtain ⟨x0, x1, x2, x3, x4⟩ := HBX.out.same (hD3.block w.heap.size (by rw [HS1.out]; omega))
                dsimp only at x0 x1 x2 x3 x4
                obtain ⟨p0, p1, p2, p3, p4⟩ := HC_p.out W3 (hE3.block _ HG_p.out)
                simp only [Nat.zero_mul, Nat.add_zero] at p0 p1 p2 p3 p4
                go_wp2_with fail
                all_goals
                  try rw [Exit.noGoto_ret]
                  go_ret
                  exact ⟨by rw [HR.out]; first | rfl | (refine congrArg (fun b => Ending.returned (Value.bool b)) (?_ : _ = _); simp <;> first | assumption | omega), hE3⟩
            | false =>
              have HR : Hid (t.kinds.exp = false) := by show _ = _; rw [HQ.out]; simp [expK, varK, -List.drop_one, HML.out, hk21_0, hk22_1, hk23_2, hk24_3, hc4]
              obtain ⟨x0, x1, x2, x3, x4⟩ := HBX.out
              dsimp only at x0 x1 x2 x3 x4
              have hD1 := Below.refl W1.heap.size W1
              have hE1 := HB1.out
              have HC := isvar_any ⟨25, ps, n, txt, kp, kl, kc⟩ W1 1 (by omega) hTx hk6
              try dsimp only at HC
              rw [hc4] at HC
              try unfold NC.val at HC
              go_wp2_with fail
              refine HC.mono ?_; rintro e W2 ⟨rfl, hC⟩
              have hD2 := hD1.trans (hC.mono hD1.size)
              have hE2 := HB1.out.trans (hD2.mono (by rw [HS1.out]; omega))
              clear HC hC hD1 hE1 x0 x1 x2 x3 x4
              obtain ⟨x0, x1, x2, x3, x4⟩ := HBX.out.same (hD2.block w.heap.size (by rw [HS1.out]; omega))
              dsimp only at x0 x1 x2 x3 x4
              go_wp2_with fail
              all_goals
                try rw [Exit.noGoto_ret]
                go_ret
                exact ⟨by rw [HR.out]; first | rfl | (refine congrArg (fun b => Ending.returned (Value.bool b)) (?_ : _ = _); simp <;> first | assumption | omega), hE2⟩
          case neg =>
            by_cases hk26_5 : k = 26
            case pos =>
              subst hk26_5
              rcases kl with _ | m
              case zero =>
                cases hc5 : bareK n txt with
                | true =>
                  have HR : Hid (t.kinds.exp = false) := by show _ = _; rw [HQ.out]; simp [expK, varK, -List.drop_one, HML.out, hk21_0, hk22_1, hk23_2, hk24_3, hk25_4, hc5]
                  obtain ⟨x0, x1, x2, x3, x4⟩ := HBX.out
                  dsimp only at x0 x1 x2 x3 x4
                  have hD1 := Below.refl W1.heap.size W1
                  have hE1 := HB1.out
                  have HC := bare_any ⟨26, ps, n, txt, kp, 0, kc⟩ W1
                  try dsimp only at HC
                  rw [hc5] at HC
                  try unfold NC.val at HC
                  go_wp2_with fail
                  refine HC.mono ?_; rintro e W2 ⟨rfl, hC⟩
                  have hD2 := hD1.trans (hC.mono hD1.size)
                  have hE2 := HB1.out.trans (hD2.mono (by rw [HS1.out]; omega))
                  clear HC hC hD1 hE1 x0 x1 x2 x3 x4
                  obtain ⟨x0, x1, x2, x3, x4⟩ := HBX.out.same (hD2.block w.heap.size (by rw [HS1.out]; omega))
                  dsimp only at x0 x1 x2 x3 x4
                  go_wp2_with fail
                  all_goals
                    try rw [Exit.noGoto_ret]
                    go_ret
                    exact ⟨by rw [HR.out]; first | rfl | (refine congrArg (fun b => Ending.returned (Value.bool b)) (?_ : _ = _); simp <;> first | assumption | omega), hE2⟩
                | false =>
                  have HR : Hid (t.kinds.exp = false) := by show _ = _; rw [HQ.out]; simp [expK, varK, -List.drop_one, HML.out, hk21_0, hk22_1, hk23_2, hk24_3, hk25_4, hc5]
                  obtain ⟨x0, x1, x2, x3, x4⟩ := HBX.out
                  dsimp only at x0 x1 x2 x3 x4
                  have hD1 := Below.refl W1.heap.size W1
                  have hE1 := HB1.out
                  have HC := bare_any ⟨26, ps, n, txt, kp, 0, kc⟩ W1
                  try dsimp only at HC
                  rw [hc5] at HC
                  try unfold NC.val at HC
                  go_wp2_with fail
                  refine HC.mono ?_; rintro e W2 ⟨rfl, hC⟩
                  have hD2 := hD1.trans (hC.mono hD1.size)
                  have hE2 := HB1.out.trans (hD2.mono (by rw [HS1.out]; omega))
                  clear HC hC hD1 hE1 x0 x1 x2 x3 x4
                  obtain ⟨x0, x1, x2, x3, x4⟩ := HBX.out.same (hD2.block w.heap.size (by rw [HS1.out]; omega))
                  dsimp only at x0 x1 x2 x3 x4
                  go_wp2_with fail
                  all_goals
                    try rw [Exit.noGoto_ret]
                    go_ret
                    exact ⟨by rw [HR.out]; first | rfl | (refine congrArg (fun b => Ending.returned (Value.bool b)) (?_ : _ = _); simp <;> first | assumption | omega), hE2⟩
              case succ =>
                have e1 : (m : Int) + 1 - 1 = (m : Int) := by omega
                have hmk : (m : Int) < (m : Int) + 1 := by omega
                cases hc5 : bareK n txt with
                | true =>
                  by_cases hmpos_6 : 0 < m
                  case pos =>
                    have hmpos_6' : (1 : Int) ≤ (m : Int) := by omega
                    obtain ⟨vs, hvs, -, es, -⟩ := HK.out.slice 0 m (Nat.zero_le _) (by rw [← HLN.out]; omega)
                    replace es := es rfl
                    rw [List.drop_zero] at hvs
                    have HVS := Lib.hid hvs
                    clear hvs
                    cases hc7 : (L.take m).all (fun x => x.bind || x.sig) with
                    | true =>
                      cases hc8 : atK L m (·.exp) with
                      | true =>
                        obtain ⟨kc_p, g_p, o_p, hp_p, hg_p, ht_p, hc_p⟩ := HK.out.at m (by rw [← HLN.out]; omega)
                        subst hp_p
                        have HG_p := Lib.hid hg_p
                        have HT_p := Lib.hid ht_p
                        have HC_p := Lib.hid hc_p
                        clear hg_p ht_p hc_p
                        have HR : Hid (t.kinds.exp = true) := by show _ = _; rw [HQ.out]; simp [expK, varK, -List.drop_one, HML.out, hk21_0, hk22_1, hk23_2, hk24_3, hk25_4, hc5, hmpos_6, hc7, hc8]
                        obtain ⟨x0, x1, x2, x3, x4⟩ := HBX.out
                        dsimp only at x0 x1 x2 x3 x4
                        have hD1 := Below.refl W1.heap.size W1
                        have hE1 := HB1.out
                        obtain ⟨p0, p1, p2, p3, p4⟩ := HC_p.out W1 (HB1.out.block _ HG_p.out)
                        have HC := bare_any ⟨26, ps, n, txt, (some ⟨g_p, o_p, none⟩), (m + 1), kc⟩ W1
                        try dsimp only at HC
                        rw [hc5] at HC
                        try unfold NC.val at HC
                        go_wp2_with fail
                        refine HC.mono ?_; rintro e W2 ⟨rfl, hC⟩
                        have hD2 := hD1.trans (hC.mono hD1.size)
                        have hE2 := HB1.out.trans (hD2.mono (by rw [HS1.out]; omega))
                        clear HC hC hD1 hE1 x0 x1 x2 x3 x4 p0 p1 p2 p3 p4
                        obtain ⟨x0, x1, x2, x3, x4⟩ := HBX.out.same (hD2.block w.heap.size (by rw [HS1.out]; omega))
                        dsimp only at x0 x1 x2 x3 x4
                        obtain ⟨p0, p1, p2, p3, p4⟩ := HC_p.out W2 (hE2.block _ HG_p.out)
                        have HC := every_any (f := 81) (p := fun t => t.kinds.bind || t.kinds.sig) (enters_of Try.func81 (by kernel_rfl) rfl) (HVS.out.later hE2) (by rw [List.length_take]; have := HTL.out; omega) (fun t' h => (fun h => isbos_step t' (ht.kid h) fun k hk => ih k (Nat.lt_trans (Nd.kid_lt hk) (Nd.kid_lt h)) ((ht.kid h).kid hk)) (List.mem_of_mem_take h))
                        try dsimp only at HC
                        have hcv : _ = _ := ((all_take_map t.kids m (fun x => x.bind || x.sig)).symm.trans (by rw [HL.out]) : ((t.kids.take m).all (fun t => t.kinds.bind || t.kinds.sig)) = (L.take m).all (fun x => x.bind || x.sig))
                        rw [hcv, hc7] at HC
                        try unfold NC.val at HC
                        go_wp2_with fail
                        refine HC.mono ?_; rintro e W3 ⟨rfl, hC⟩
                        have hD3 := hD2.trans (hC.mono hD2.size)
                        have hE3 := HB1.out.trans (hD3.mono (by rw [HS1.out]; omega))
                        clear HC hC hD2 hE2 x0 x1 x2 x3 x4 hcv p0 p1 p2 p3 p4
                        obtain ⟨x0, x1, x2, x3, x4⟩ := HBX.out.same (hD3.block w.heap.size (by rw [HS1.out]; omega))
                        dsimp only at x0 x1 x2 x3 x4
                        obtain ⟨p0, p1, p2, p3, p4⟩ := HC_p.out W3 (hE3.block _ HG_p.out)
                        have HC := (ih _ (Nd.kid_lt (List.getElem_mem _)) (ht.kid (List.getElem_mem _))) kc_p W3 (HT_p.out.later hE3)
                        try dsimp only at HC
                        have hcv : _ = _ := ((atK_map t.kids m (·.exp) (by rw [← HLN.out]; omega)).symm.trans (by rw [HL.out]) : (t.kids[m]'(by rw [← HLN.out]; omega)).kinds.exp = atK L m (·.exp))
                        rw [hcv, hc8] at HC
                        try unfold NC.val at HC
                        go_wp2_with fail
                        refine HC.mono ?_; rintro e W4 ⟨rfl, hC⟩
                        have hD4 := hD3.trans (hC.mono hD3.size)
                        have hE4 := HB1.out.trans (hD4.mono (by rw [HS1.out]; omega))
                        clear HC hC hD3 hE3 x0 x1 x2 x3 x4 hcv p0 p1 p2 p3 p4
                        obtain ⟨x0, x1, x2, x3, x4⟩ := HBX.out.same (hD4.block w.heap.size (by rw [HS1.out]; omega))
                        dsimp only at x0 x1 x2 x3 x4
                        obtain ⟨p0, p1, p2, p3, p4⟩ := HC_p.out W4 (hE4.block _ HG_p.out)
                        go_wp2_with fail
                        all_goals
                          try rw [Exit.noGoto_ret]
                          go_ret
                          exact ⟨by rw [HR.out]; first | rfl | (refine congrArg (fun b => Ending.returned (Value.bool b)) (?_ : _ = _); simp <;> first | assumption | omega), hE4⟩
                      | false =>
                        obtain ⟨kc_p, g_p, o_p, hp_p, hg_p, ht_p, hc_p⟩ := HK.out.at m (by rw [← HLN.out]; omega)
                        subst hp_p
                        have HG_p := Lib.hid hg_p
                        have HT_p := Lib.hid ht_p
                        have HC_p := Lib.hid hc_p
                        clear hg_p ht_p hc_p
                        have HR : Hid (t.kinds.exp = false) := by show _ = _; rw [HQ.out]; simp [expK, varK, -List.drop_one, HML.out, hk21_0, hk22_1, hk23_2, hk24_3, hk25_4, hc5, hmpos_6, hc7, hc8]
                        obtain ⟨x0, x1, x2, x3, x4⟩ := HBX.out
                        dsimp only at x0 x1 x2 x3 x4
                        have hD1 := Below.refl W1.heap.size W1
                        have hE1 := HB1.out
                        obtain ⟨p0, p1, p2, p3, p4⟩ := HC_p.out W1 (HB1.out.block _ HG_p.out)
                        have HC := bare_any ⟨26, ps, n, txt, (some ⟨g_p, o_p, none⟩), (m + 1), kc⟩ W1
                        try dsimp only at HC
                        rw [hc5] at HC
                        try unfold NC.val at HC
                        go_wp2_with fail
                        refine HC.mono ?_; rintro e W2 ⟨rfl, hC⟩
                        have hD2 := hD1.trans (hC.mono hD1.size)
                        have hE2 := HB1.out.trans (hD2.mono (by rw [HS1.out]; omega))
                        clear HC hC hD1 hE1 x0 x1 x2 x3 x4 p0 p1 p2 p3 p4
                        obtain ⟨x0, x1, x2, x3, x4⟩ := HBX.out.same (hD2.block w.heap.size (by rw [HS1.out]; omega))
                        dsimp only at x0 x1 x2 x3 x4
                        obtain ⟨p0, p1, p2, p3, p4⟩ := HC_p.out W2 (hE2.block _ HG_p.out)
                        have HC := every_any (f := 81) (p := fun t => t.kinds.bind || t.kinds.sig) (enters_of Try.func81 (by kernel_rfl) rfl) (HVS.out.later hE2) (by rw [List.length_take]; have := HTL.out; omega) (fun t' h => (fun h => isbos_step t' (ht.kid h) fun k hk => ih k (Nat.lt_trans (Nd.kid_lt hk) (Nd.kid_lt h)) ((ht.kid h).kid hk)) (List.mem_of_mem_take h))
                        try dsimp only at HC
                        have hcv : _ = _ := ((all_take_map t.kids m (fun x => x.bind || x.sig)).symm.trans (by rw [HL.out]) : ((t.kids.take m).all (fun t => t.kinds.bind || t.kinds.sig)) = (L.take m).all (fun x => x.bind || x.sig))
                        rw [hcv, hc7] at HC
                        try unfold NC.val at HC
                        go_wp2_with fail
                        refine HC.mono ?_; rintro e W3 ⟨rfl, hC⟩
                        have hD3 := hD2.trans (hC.mono hD2.size)
                        have hE3 := HB1.out.trans (hD3.mono (by rw [HS1.out]; omega))
                        clear HC hC hD2 hE2 x0 x1 x2 x3 x4 hcv p0 p1 p2 p3 p4
                        obtain ⟨x0, x1, x2, x3, x4⟩ := HBX.out.same (hD3.block w.heap.size (by rw [HS1.out]; omega))
                        dsimp only at x0 x1 x2 x3 x4
                        obtain ⟨p0, p1, p2, p3, p4⟩ := HC_p.out W3 (hE3.block _ HG_p.out)
                        have HC := (ih _ (Nd.kid_lt (List.getElem_mem _)) (ht.kid (List.getElem_mem _))) kc_p W3 (HT_p.out.later hE3)
                        try dsimp only at HC
                        have hcv : _ = _ := ((atK_map t.kids m (·.exp) (by rw [← HLN.out]; omega)).symm.trans (by rw [HL.out]) : (t.kids[m]'(by rw [← HLN.out]; omega)).kinds.exp = atK L m (·.exp))
                        rw [hcv, hc8] at HC
                        try unfold NC.val at HC
                        go_wp2_with fail
                        refine HC.mono ?_; rintro e W4 ⟨rfl, hC⟩
                        have hD4 := hD3.trans (hC.mono hD3.size)
                        have hE4 := HB1.out.trans (hD4.mono (by rw [HS1.out]; omega))
                        clear HC hC hD3 hE3 x0 x1 x2 x3 x4 hcv p0 p1 p2 p3 p4
                        obtain ⟨x0, x1, x2, x3, x4⟩ := HBX.out.same (hD4.block w.heap.size (by rw [HS1.out]; omega))
                        dsimp only at x0 x1 x2 x3 x4
                        obtain ⟨p0, p1, p2, p3, p4⟩ := HC_p.out W4 (hE4.block _ HG_p.out)
                        go_wp2_with fail
                        all_goals
                          try rw [Exit.noGoto_ret]
                          go_ret
                          exact ⟨by rw [HR.out]; first | rfl | (refine congrArg (fun b => Ending.returned (Value.bool b)) (?_ : _ = _); simp <;> first | assumption | omega), hE4⟩
                    | false =>
                      have HR : Hid (t.kinds.exp = false) := by show _ = _; rw [HQ.out]; simp [expK, varK, -List.drop_one, HML.out, hk21_0, hk22_1, hk23_2, hk24_3, hk25_4, hc5, hmpos_6, hc7]
                      obtain ⟨x0, x1, x2, x3, x4⟩ := HBX.out
                      dsimp only at x0 x1 x2 x3 x4
                      have hD1 := Below.refl W1.heap.size W1
                      have hE1 := HB1.out
                      have HC := bare_any ⟨26, ps, n, txt, kp, (m + 1), kc⟩ W1
                      try dsimp only at HC
                      rw [hc5] at HC
                      try unfold NC.val at HC
                      go_wp2_with fail
                      refine HC.mono ?_; rintro e W2 ⟨rfl, hC⟩
                      have hD2 := hD1.trans (hC.mono hD1.size)
                      have hE2 := HB1.out.trans (hD2.mono (by rw [HS1.out]; omega))
                      clear HC hC hD1 hE1 x0 x1 x2 x3 x4
                      obtain ⟨x0, x1, x2, x3, x4⟩ := HBX.out.same (hD2.block w.heap.size (by rw [HS1.out]; omega))
                      dsimp only at x0 x1 x2 x3 x4
                      have HC := every_any (f := 81) (p := fun t => t.kinds.bind || t.kinds.sig) (enters_of Try.func81 (by kernel_rfl) rfl) (HVS.out.later hE2) (by rw [List.length_take]; have := HTL.out; omega) (fun t' h => (fun h => isbos_step t' (ht.kid h) fun k hk => ih k (Nat.lt_trans (Nd.kid_lt hk) (Nd.kid_lt h)) ((ht.kid h).kid hk)) (List.mem_of_mem_take h))
                      try dsimp only at HC
                      have hcv : _ = _ := ((all_take_map t.kids m (fun x => x.bind || x.sig)).symm.trans (by rw [HL.out]) : ((t.kids.take m).all (fun t => t.kinds.bind || t.kinds.sig)) = (L.take m).all (fun x => x.bind || x.sig))
                      rw [hcv, hc7] at HC
                      try unfold NC.val at HC
                      go_wp2_with fail
                      refine HC.mono ?_; rintro e W3 ⟨rfl, hC⟩
                      have hD3 := hD2.trans (hC.mono hD2.size)
                      have hE3 := HB1.out.trans (hD3.mono (by rw [HS1.out]; omega))
                      clear HC hC hD2 hE2 x0 x1 x2 x3 x4 hcv
                      obtain ⟨x0, x1, x2, x3, x4⟩ := HBX.out.same (hD3.block w.heap.size (by rw [HS1.out]; omega))
                      dsimp only at x0 x1 x2 x3 x4
                      go_wp2_with fail
                      all_goals
                        try rw [Exit.noGoto_ret]
                        go_ret
                        exact ⟨by rw [HR.out]; first | rfl | (refine congrArg (fun b => Ending.returned (Value.bool b)) (?_ : _ = _); simp <;> first | assumption | omega), hE3⟩
                  case neg =>
                    have hmpos_6' : ¬ (1 : Int) ≤ (m : Int) := by omega
                    have HR : Hid (t.kinds.exp = false) := by show _ = _; rw [HQ.out]; simp [expK, varK, -List.drop_one, HML.out, hk21_0, hk22_1, hk23_2, hk24_3, hk25_4, hc5, hmpos_6]
                    obtain ⟨x0, x1, x2, x3, x4⟩ := HBX.out
                    dsimp only at x0 x1 x2 x3 x4
                    have hD1 := Below.refl W1.heap.size W1
                    have hE1 := HB1.out
                    have HC := bare_any ⟨26, ps, n, txt, kp, (m + 1), kc⟩ W1
                    try dsimp only at HC
                    rw [hc5] at HC
                    try unfold NC.val at HC
                    go_wp2_with fail
                    refine HC.mono ?_; rintro e W2 ⟨rfl, hC⟩
                    have hD2 := hD1.trans (hC.mono hD1.size)
                    have hE2 := HB1.out.trans (hD2.mono (by rw [HS1.out]; omega))
                    clear HC hC hD1 hE1 x0 x1 x2 x3 x4
                    obtain ⟨x0, x1, x2, x3, x4⟩ := HBX.out.same (hD2.block w.heap.size (by rw [HS1.out]; omega))
                    dsimp only at x0 x1 x2 x3 x4
                    go_wp2_with fail
                    all_goals
                      try rw [Exit.noGoto_ret]
                      go_ret
                      exact ⟨by rw [HR.out]; first | rfl | (refine congrArg (fun b => Ending.returned (Value.bool b)) (?_ : _ = _); simp <;> first | assumption | omega), hE2⟩
                | false =>
                  have HR : Hid (t.kinds.exp = false) := by show _ = _; rw [HQ.out]; simp [expK, varK, -List.drop_one, HML.out, hk21_0, hk22_1, hk23_2, hk24_3, hk25_4, hc5]
                  obtain ⟨x0, x1, x2, x3, x4⟩ := HBX.out
                  dsimp only at x0 x1 x2 x3 x4
                  have hD1 := Below.refl W1.heap.size W1
                  have hE1 := HB1.out
                  have HC := bare_any ⟨26, ps, n, txt, kp, (m + 1), kc⟩ W1
                  try dsimp only at HC
                  rw [hc5] at HC
                  try unfold NC.val at HC
                  go_wp2_with fail
                  refine HC.mono ?_; rintro e W2 ⟨rfl, hC⟩
                  have hD2 := hD1.trans (hC.mono hD1.size)
                  have hE2 := HB1.out.trans (hD2.mono (by rw [HS1.out]; omega))
                  clear HC hC hD1 hE1 x0 x1 x2 x3 x4
                  obtain ⟨x0, x1, x2, x3, x4⟩ := HBX.out.same (hD2.block w.heap.size (by rw [HS1.out]; omega))
                  dsimp only at x0 x1 x2 x3 x4
                  go_wp2_with fail
                  all_goals
                    try rw [Exit.noGoto_ret]
                    go_ret
                    exact ⟨by rw [HR.out]; first | rfl | (refine congrArg (fun b => Ending.returned (Value.bool b)) (?_ : _ = _); simp <;> first | assumption | omega), hE2⟩
            case neg =>
              by_cases hk27_6 : k = 27
              case pos =>
                subst hk27_6
                cases hc6 : bareK n txt with
                | true =>
                  by_cases hlenge2_7 : 2 ≤ kl
                  case pos =>
                    have hlenge2_7' : (2 : Int) ≤ (kl : Int) := by omega
                    have h0l : (0 : Int) < (kl : Int) := by omega
                    have h1l : (1 : Int) ≤ (kl : Int) := by omega
                    cases hc8 : atK L 0 (·.exp) with
                    | true =>
                      obtain ⟨kc_p, g_p, o_p, hp_p, hg_p, ht_p, hc_p⟩ := HK.out.at 0 (by rw [← HLN.out]; omega)
                      subst hp_p
                      have HG_p := Lib.hid hg_p
                      have HT_p := Lib.hid ht_p
                      have HC_p := Lib.hid hc_p
                      clear hg_p ht_p hc_p
                      obtain ⟨vs, hvs, -, -, es⟩ := HK.out.slice 1 t.kids.length (by rw [← HLN.out]; omega) (Nat.le_refl _)
                      replace es := es rfl
                      push_cast at es
                      rw [List.take_of_length_le (Nat.le_refl _)] at hvs
                      have HVS := Lib.hid hvs
                      clear hvs
                      cases hc9 : (L.drop 1).all (·.alt) with
                      | true =>
                        have HR : Hid (t.kinds.exp = true) := by show _ = _; rw [HQ.out]; simp [expK, varK, -List.drop_one, HML.out, hk21_0, hk22_1, hk23_2, hk24_3, hk25_4, hk26_5, hc6, hlenge2_7, hc8, hc9]
                        obtain ⟨x0, x1, x2, x3, x4⟩ := HBX.out
                        dsimp only at x0 x1 x2 x3 x4
                        have hD1 := Below.refl W1.heap.size W1
                        have hE1 := HB1.out
                        obtain ⟨p0, p1, p2, p3, p4⟩ := HC_p.out W1 (HB1.out.block _ HG_p.out)
                        simp only [Nat.zero_mul, Nat.add_zero] at p0 p1 p2 p3 p4
                        have HC := bare_any ⟨27, ps, n, txt, (some ⟨g_p, o_p, none⟩), kl, kc⟩ W1
                        try dsimp only at HC
                        rw [hc6] at HC
                        try unfold NC.val at HC
                        go_wp2_with fail
                        refine HC.mono ?_; rintro e W2 ⟨rfl, hC⟩
                        have hD2 := hD1.trans (hC.mono hD1.size)
                        have hE2 := HB1.out.trans (hD2.mono (by rw [HS1.out]; omega))
                        clear HC hC hD1 hE1 x0 x1 x2 x3 x4 p0 p1 p2 p3 p4
                        obtain ⟨x0, x1, x2, x3, x4⟩ := HBX.out.same (hD2.block w.heap.size (by rw [HS1.out]; omega))
                        dsimp only at x0 x1 x2 x3 x4
                        obtain ⟨p0, p1, p2, p3, p4⟩ := HC_p.out W2 (hE2.block _ HG_p.out)
                        simp only [Nat.zero_mul, Nat.add_zero] at p0 p1 p2 p3 p4
                        have HC := (ih _ (Nd.kid_lt (List.getElem_mem _)) (ht.kid (List.getElem_mem _))) kc_p W2 (HT_p.out.later hE2)
                        try dsimp only at HC
                        have hcv : _ = _ := ((atK_map t.kids 0 (·.exp) (by rw [← HLN.out]; omega)).symm.trans (by rw [HL.out]) : (t.kids[0]'(by rw [← HLN.out]; omega)).kinds.exp = atK L 0 (·.exp))
                        rw [hcv, hc8] at HC
                        try unfold NC.val at HC
                        go_wp2_with fail
                        refine HC.mono ?_; rintro e W3 ⟨rfl, hC⟩
                        have hD3 := hD2.trans (hC.mono hD2.size)
                        have hE3 := HB1.out.trans (hD3.mono (by rw [HS1.out]; omega))
                        clear HC hC hD2 hE2 x0 x1 x2 x3 x4 hcv p0 p1 p2 p3 p4
                        obtain ⟨x0, x1, x2, x3, x4⟩ := HBX.out.same (hD3.block w.heap.size (by rw [HS1.out]; omega))
                        dsimp only at x0 x1 x2 x3 x4
                        obtain ⟨p0, p1, p2, p3, p4⟩ := HC_p.out W3 (hE3.block _ HG_p.out)
                        simp only [Nat.zero_mul, Nat.add_zero] at p0 p1 p2 p3 p4
                        have HC := every_any (f := 117) (p := fun t => t.kinds.alt) (enters_of Try.func117 (by kernel_rfl) rfl) (HVS.out.later hE3) (by rw [List.length_drop]; have := HTL.out; omega) (fun t' h => (fun h => isalt_step t' (ht.kid h) fun k hk => ih k (Nat.lt_trans (Nd.kid_lt hk) (Nd.kid_lt h)) ((ht.kid h).kid hk)) (List.mem_of_mem_drop h))
                        try dsimp only at HC
                        have hcv : _ = _ := ((all_drop_map t.kids 1 (·.alt)).symm.trans (by rw [HL.out]) : ((t.kids.drop 1).all fun t => t.kinds.alt) = (L.drop 1).all (·.alt))
                        rw [hcv, hc9] at HC
                        try unfold NC.val at HC
                        go_wp2_with fail
                        refine HC.mono ?_; rintro e W4 ⟨rfl, hC⟩
                        have hD4 := hD3.trans (hC.mono hD3.size)
                        have hE4 := HB1.out.trans (hD4.mono (by rw [HS1.out]; omega))
                        clear HC hC hD3 hE3 x0 x1 x2 x3 x4 hcv p0 p1 p2 p3 p4
                        obtain ⟨x0, x1, x2, x3, x4⟩ := HBX.out.same (hD4.block w.heap.size (by rw [HS1.out]; omega))
                        dsimp only at x0 x1 x2 x3 x4
                        obtain ⟨p0, p1, p2, p3, p4⟩ := HC_p.out W4 (hE4.block _ HG_p.out)
                        simp only [Nat.zero_mul, Nat.add_zero] at p0 p1 p2 p3 p4
                        go_wp2_with fail
                        all_goals
                          try rw [Exit.noGoto_ret]
                          go_ret
                          exact ⟨by rw [HR.out]; first | rfl | (refine congrArg (fun b => Ending.returned (Value.bool b)) (?_ : _ = _); simp <;> first | assumption | omega), hE4⟩
                      | false =>
                        have HR : Hid (t.kinds.exp = false) := by show _ = _; rw [HQ.out]; simp [expK, varK, -List.drop_one, HML.out, hk21_0, hk22_1, hk23_2, hk24_3, hk25_4, hk26_5, hc6, hlenge2_7, hc8, hc9]
                        obtain ⟨x0, x1, x2, x3, x4⟩ := HBX.out
                        dsimp only at x0 x1 x2 x3 x4
                        have hD1 := Below.refl W1.heap.size W1
                        have hE1 := HB1.out
                        obtain ⟨p0, p1, p2, p3, p4⟩ := HC_p.out W1 (HB1.out.block _ HG_p.out)
                        simp only [Nat.zero_mul, Nat.add_zero] at p0 p1 p2 p3 p4
                        have HC := bare_any ⟨27, ps, n, txt, (some ⟨g_p, o_p, none⟩), kl, kc⟩ W1
                        try dsimp only at HC
                        rw [hc6] at HC
                        try unfold NC.val at HC
                        go_wp2_with fail
                        refine HC.mono ?_; rintro e W2 ⟨rfl, hC⟩
                        have hD2 := hD1.trans (hC.mono hD1.size)
                        have hE2 := HB1.out.trans (hD2.mono (by rw [HS1.out]; omega))
                        clear HC hC hD1 hE1 x0 x1 x2 x3 x4 p0 p1 p2 p3 p4
                        obtain ⟨x0, x1, x2, x3, x4⟩ := HBX.out.same (hD2.block w.heap.size (by rw [HS1.out]; omega))
                        dsimp only at x0 x1 x2 x3 x4
                        obtain ⟨p0, p1, p2, p3, p4⟩ := HC_p.out W2 (hE2.block _ HG_p.out)
                        simp only [Nat.zero_mul, Nat.add_zero] at p0 p1 p2 p3 p4
                        have HC := (ih _ (Nd.kid_lt (List.getElem_mem _)) (ht.kid (List.getElem_mem _))) kc_p W2 (HT_p.out.later hE2)
                        try dsimp only at HC
                        have hcv : _ = _ := ((atK_map t.kids 0 (·.exp) (by rw [← HLN.out]; omega)).symm.trans (by rw [HL.out]) : (t.kids[0]'(by rw [← HLN.out]; omega)).kinds.exp = atK L 0 (·.exp))
                        rw [hcv, hc8] at HC
                        try unfold NC.val at HC
                        go_wp2_with fail
                        refine HC.mono ?_; rintro e W3 ⟨rfl, hC⟩
                        have hD3 := hD2.trans (hC.mono hD2.size)
                        have hE3 := HB1.out.trans (hD3.mono (by rw [HS1.out]; omega))
                        clear HC hC hD2 hE2 x0 x1 x2 x3 x4 hcv p0 p1 p2 p3 p4
                        obtain ⟨x0, x1, x2, x3, x4⟩ := HBX.out.same (hD3.block w.heap.size (by rw [HS1.out]; omega))
                        dsimp only at x0 x1 x2 x3 x4
                        obtain ⟨p0, p1, p2, p3, p4⟩ := HC_p.out W3 (hE3.block _ HG_p.out)
                        simp only [Nat.zero_mul, Nat.add_zero] at p0 p1 p2 p3 p4
                        have HC := every_any (f := 117) (p := fun t => t.kinds.alt) (enters_of Try.func117 (by kernel_rfl) rfl) (HVS.out.later hE3) (by rw [List.length_drop]; have := HTL.out; omega) (fun t' h => (fun h => isalt_step t' (ht.kid h) fun k hk => ih k (Nat.lt_trans (Nd.kid_lt hk) (Nd.kid_lt h)) ((ht.kid h).kid hk)) (List.mem_of_mem_drop h))
                        try dsimp only at HC
                        have hcv : _ = _ := ((all_drop_map t.kids 1 (·.alt)).symm.trans (by rw [HL.out]) : ((t.kids.drop 1).all fun t => t.kinds.alt) = (L.drop 1).all (·.alt))
                        rw [hcv, hc9] at HC
                        try unfold NC.val at HC
                        go_wp2_with fail
                        refine HC.mono ?_; rintro e W4 ⟨rfl, hC⟩
                        have hD4 := hD3.trans (hC.mono hD3.size)
                        have hE4 := HB1.out.trans (hD4.mono (by rw [HS1.out]; omega))
                        clear HC hC hD3 hE3 x0 x1 x2 x3 x4 hcv p0 p1 p2 p3 p4
                        obtain ⟨x0, x1, x2, x3, x4⟩ := HBX.out.same (hD4.block w.heap.size (by rw [HS1.out]; omega))
                        dsimp only at x0 x1 x2 x3 x4
                        obtain ⟨p0, p1, p2, p3, p4⟩ := HC_p.out W4 (hE4.block _ HG_p.out)
                        simp only [Nat.zero_mul, Nat.add_zero] at p0 p1 p2 p3 p4
                        go_wp2_with fail
                        all_goals
                          try rw [Exit.noGoto_ret]
                          go_ret
                          exact ⟨by rw [HR.out]; first | rfl | (refine congrArg (fun b => Ending.returned (Value.bool b)) (?_ : _ = _); simp <;> first | assumption | omega), hE4⟩
                    | false =>
                      obtain ⟨kc_p, g_p, o_p, hp_p, hg_p, ht_p, hc_p⟩ := HK.out.at 0 (by rw [← HLN.out]; omega)
                      subst hp_p
                      have HG_p := Lib.hid hg_p
                      have HT_p := Lib.hid ht_p
                      have HC_p := Lib.hid hc_p
                      clear hg_p ht_p hc_p
                      have HR : Hid (t.kinds.exp = false) := by show _ = _; rw [HQ.out]; simp [expK, varK, -List.drop_one, HML.out, hk21_0, hk22_1, hk23_2, hk24_3, hk25_4, hk26_5, hc6, hlenge2_7, hc8]
                      obtain ⟨x0, x1, x2, x3, x4⟩ := HBX.out
                      dsimp only at x0 x1 x2 x3 x4
                      have hD1 := Below.refl W1.heap.size W1
                      have hE1 := HB1.out
                      obtain ⟨p0, p1, p2, p3, p4⟩ := HC_p.out W1 (HB1.out.block _ HG_p.out)
                      simp only [Nat.zero_mul, Nat.add_zero] at p0 p1 p2 p3 p4
                      have HC := bare_any ⟨27, ps, n, txt, (some ⟨g_p, o_p, none⟩), kl, kc⟩ W1
                      try dsimp only at HC
                      rw [hc6] at HC
                      try unfold NC.val at HC
                      go_wp2_with fail
                      refine HC.mono ?_; rintro e W2 ⟨rfl, hC⟩
                      have hD2 := hD1.trans (hC.mono hD1.size)
                      have hE2 := HB1.out.trans (hD2.mono (by rw [HS1.out]; omega))
                      clear HC hC hD1 hE1 x0 x1 x2 x3 x4 p0 p1 p2 p3 p4
                      obtain ⟨x0, x1, x2, x3, x4⟩ := HBX.out.same (hD2.block w.heap.size (by rw [HS1.out]; omega))
                      dsimp only at x0 x1 x2 x3 x4
                      obtain ⟨p0, p1, p2, p3, p4⟩ := HC_p.out W2 (hE2.block _ HG_p.out)
                      simp only [Nat.zero_mul, Nat.add_zero] at p0 p1 p2 p3 p4
                      have HC := (ih _ (Nd.kid_lt (List.getElem_mem _)) (ht.kid (List.getElem_mem _))) kc_p W2 (HT_p.out.later hE2)
                      try dsimp only at HC
                      have hcv : _ = _ := ((atK_map t.kids 0 (·.exp) (by rw [← HLN.out]; omega)).symm.trans (by rw [HL.out]) : (t.kids[0]'(by rw [← HLN.out]; omega)).kinds.exp = atK L 0 (·.exp))
                      rw [hcv, hc8] at HC
                      try unfold NC.val at HC
                      go_wp2_with fail
                      refine HC.mono ?_; rintro e W3 ⟨rfl, hC⟩
                      have hD3 := hD2.trans (hC.mono hD2.size)
                      have hE3 := HB1.out.trans (hD3.mono (by rw [HS1.out]; omega))
                      clear HC hC hD2 hE2 x0 x1 x2 x3 x4 hcv p0 p1 p2 p3 p4
                      obtain ⟨x0, x1, x2, x3, x4⟩ := HBX.out.same (hD3.block w.heap.size (by rw [HS1.out]; omega))
                      dsimp only at x0 x1 x2 x3 x4
                      obtain ⟨p0, p1, p2, p3, p4⟩ := HC_p.out W3 (hE3.block _ HG_p.out)
                      simp only [Nat.zero_mul, Nat.add_zero] at p0 p1 p2 p3 p4
                      go_wp2_with fail
                      all_goals
                        try rw [Exit.noGoto_ret]
                        go_ret
                        exact ⟨by rw [HR.out]; first | rfl | (refine congrArg (fun b => Ending.returned (Value.bool b)) (?_ : _ = _); simp <;> first | assumption | omega), hE3⟩
                  case neg =>
                    have hlenge2_7' : ¬ (2 : Int) ≤ (kl : Int) := by omega
                    have HR : Hid (t.kinds.exp = false) := by show _ = _; rw [HQ.out]; simp [expK, varK, -List.drop_one, HML.out, hk21_0, hk22_1, hk23_2, hk24_3, hk25_4, hk26_5, hc6, hlenge2_7]
                    obtain ⟨x0, x1, x2, x3, x4⟩ := HBX.out
                    dsimp only at x0 x1 x2 x3 x4
                    have hD1 := Below.refl W1.heap.size W1
                    have hE1 := HB1.out
                    have HC := bare_any ⟨27, ps, n, txt, kp, kl, kc⟩ W1
                    try dsimp only at HC
                    rw [hc6] at HC
                    try unfold NC.val at HC
                    go_wp2_with fail
                    refine HC.mono ?_; rintro e W2 ⟨rfl, hC⟩
                    have hD2 := hD1.trans (hC.mono hD1.size)
                    have hE2 := HB1.out.trans (hD2.mono (by rw [HS1.out]; omega))
                    clear HC hC hD1 hE1 x0 x1 x2 x3 x4
                    obtain ⟨x0, x1, x2, x3, x4⟩ := HBX.out.same (hD2.block w.heap.size (by rw [HS1.out]; omega))
                    dsimp only at x0 x1 x2 x3 x4
                    go_wp2_with fail
                    all_goals
                      try rw [Exit.noGoto_ret]
                      go_ret
                      exact ⟨by rw [HR.out]; first | rfl | (refine congrArg (fun b => Ending.returned (Value.bool b)) (?_ : _ = _); simp <;> first | assumption | omega), hE2⟩
                | false =>
                  have HR : Hid (t.kinds.exp = false) := by show _ = _; rw [HQ.out]; simp [expK, varK, -List.drop_one, HML.out, hk21_0, hk22_1, hk23_2, hk24_3, hk25_4, hk26_5, hc6]
                  obtain ⟨x0, x1, x2, x3, x4⟩ := HBX.out
                  dsimp only at x0 x1 x2 x3 x4
                  have hD1 := Below.refl W1.heap.size W1
                  have hE1 := HB1.out
                  have HC := bare_any ⟨27, ps, n, txt, kp, kl, kc⟩ W1
                  try dsimp only at HC
                  rw [hc6] at HC
                  try unfold NC.val at HC
                  go_wp2_with fail
                  refine HC.mono ?_; rintro e W2 ⟨rfl, hC⟩
                  have hD2 := hD1.trans (hC.mono hD1.size)
                  have hE2 := HB1.out.trans (hD2.mono (by rw [HS1.out]; omega))
                  clear HC hC hD1 hE1 x0 x1 x2 x3 x4
                  obtain ⟨x0, x1, x2, x3, x4⟩ := HBX.out.same (hD2.block w.heap.size (by rw [HS1.out]; omega))
                  dsimp only at x0 x1 x2 x3 x4
                  go_wp2_with fail
                  all_goals
                    try rw [Exit.noGoto_ret]
                    go_ret
                    exact ⟨by rw [HR.out]; first | rfl | (refine congrArg (fun b => Ending.returned (Value.bool b)) (?_ : _ = _); simp <;> first | assumption | omega), hE2⟩
              case neg =>
                by_cases hk28_7 : k = 28
                case pos =>
                  subst hk28_7
                  cases hc7 : bareK n txt with
                  | true =>
                    by_cases hlen3_8 : kl = 3
                    case pos =>
                      subst hlen3_8
                      cases hc8 : L.all (·.exp) with
                      | true =>
                        have HR : Hid (t.kinds.exp = true) := by show _ = _; rw [HQ.out]; simp [expK, varK, -List.drop_one, HML.out, hk21_0, hk22_1, hk23_2, hk24_3, hk25_4, hk26_5, hk27_6, hc7, hc8]
                        obtain ⟨x0, x1, x2, x3, x4⟩ := HBX.out
                        dsimp only at x0 x1 x2 x3 x4
                        have hD1 := Below.refl W1.heap.size W1
                        have hE1 := HB1.out
                        have HC := bare_any ⟨28, ps, n, txt, kp, 3, kc⟩ W1
                        try dsimp only at HC
                        rw [hc7] at HC
                        try unfold NC.val at HC
                        go_wp2_with fail
                        refine HC.mono ?_; rintro e W2 ⟨rfl, hC⟩
                        have hD2 := hD1.trans (hC.mono hD1.size)
                        have hE2 := HB1.out.trans (hD2.mono (by rw [HS1.out]; omega))
                        clear HC hC hD1 hE1 x0 x1 x2 x3 x4
                        obtain ⟨x0, x1, x2, x3, x4⟩ := HBX.out.same (hD2.block w.heap.size (by rw [HS1.out]; omega))
                        dsimp only at x0 x1 x2 x3 x4
                        have HC := every_any (f := 107) (p := fun t => t.kinds.exp) (enters_of Try.func107 (by kernel_rfl) rfl) (HK.out.later hE2) HTL.out (fun t' h => ih t' (Nd.kid_lt h) (ht.kid h))
                        try dsimp only at HC
                        have hcv : _ = _ := ((all_map t.kids (·.exp)).symm.trans (by rw [HL.out]) : (t.kids.all fun t => t.kinds.exp) = L.all (·.exp))
                        rw [hcv, hc8] at HC
                        try unfold NC.val at HC
                        go_wp2_with fail
                        refine HC.mono ?_; rintro e W3 ⟨rfl, hC⟩
                        have hD3 := hD2.trans (hC.mono hD2.size)
                        have hE3 := HB1.out.trans (hD3.mono (by rw [HS1.out]; omega))
                        clear HC hC hD2 hE2 x0 x1 x2 x3 x4 hcv
                        obtain ⟨x0, x1, x2, x3, x4⟩ := HBX.out.same (hD3.block w.heap.size (by rw [HS1.out]; omega))
                        dsimp only at x0 x1 x2 x3 x4
                        go_wp2_with fail
                        all_goals
                          try rw [Exit.noGoto_ret]
                          go_ret
                          exact ⟨by rw [HR.out]; first | rfl | (refine congrArg (fun b => Ending.returned (Value.bool b)) (?_ : _ = _); simp <;> first | assumption | omega), hE3⟩
                      | false =>
                        have HR : Hid (t.kinds.exp = false) := by show _ = _; rw [HQ.out]; simp [expK, varK, -List.drop_one, HML.out, hk21_0, hk22_1, hk23_2, hk24_3, hk25_4, hk26_5, hk27_6, hc7, hc8]
                        obtain ⟨x0, x1, x2, x3, x4⟩ := HBX.out
                        dsimp only at x0 x1 x2 x3 x4
                        have hD1 := Below.refl W1.heap.size W1
                        have hE1 := HB1.out
                        have HC := bare_any ⟨28, ps, n, txt, kp, 3, kc⟩ W1
                        try dsimp only at HC
                        rw [hc7] at HC
                        try unfold NC.val at HC
                        go_wp2_with fail
                        refine HC.mono ?_; rintro e W2 ⟨rfl, hC⟩
                        have hD2 := hD1.trans (hC.mono hD1.size)
                        have hE2 := HB1.out.trans (hD2.mono (by rw [HS1.out]; omega))
                        clear HC hC hD1 hE1 x0 x1 x2 x3 x4
                        obtain ⟨x0, x1, x2, x3, x4⟩ := HBX.out.same (hD2.block w.heap.size (by rw [HS1.out]; omega))
                        dsimp only at x0 x1 x2 x3 x4
                        have HC := every_any (f := 107) (p := fun t => t.kinds.exp) (enters_of Try.func107 (by kernel_rfl) rfl) (HK.out.later hE2) HTL.out (fun t' h => ih t' (Nd.kid_lt h) (ht.kid h))
                        try dsimp only at HC
                        have hcv : _ = _ := ((all_map t.kids (·.exp)).symm.trans (by rw [HL.out]) : (t.kids.all fun t => t.kinds.exp) = L.all (·.exp))
                        rw [hcv, hc8] at HC
                        try unfold NC.val at HC
                        go_wp2_with fail
                        refine HC.mono ?_; rintro e W3 ⟨rfl, hC⟩
                        have hD3 := hD2.trans (hC.mono hD2.size)
                        have hE3 := HB1.out.trans (hD3.mono (by rw [HS1.out]; omega))
                        clear HC hC hD2 hE2 x0 x1 x2 x3 x4 hcv
                        obtain ⟨x0, x1, x2, x3, x4⟩ := HBX.out.same (hD3.block w.heap.size (by rw [HS1.out]; omega))
                        dsimp only at x0 x1 x2 x3 x4
                        go_wp2_with fail
                        all_goals
                          try rw [Exit.noGoto_ret]
                          go_ret
                          exact ⟨by rw [HR.out]; first | rfl | (refine congrArg (fun b => Ending.returned (Value.bool b)) (?_ : _ = _); simp <;> first | assumption | omega), hE3⟩
                    case neg =>
                      have hlen3_8' : ¬ (kl : Int) = 3 := by omega
                      have HR : Hid (t.kinds.exp = false) := by show _ = _; rw [HQ.out]; simp [expK, varK, -List.drop_one, HML.out, hk21_0, hk22_1, hk23_2, hk24_3, hk25_4, hk26_5, hk27_6, hc7, hlen3_8]
                      obtain ⟨x0, x1, x2, x3, x4⟩ := HBX.out
                      dsimp only at x0 x1 x2 x3 x4
                      have hD1 := Below.refl W1.heap.size W1
                      have hE1 := HB1.out
                      have HC := bare_any ⟨28, ps, n, txt, kp, kl, kc⟩ W1
                      try dsimp only at HC
                      rw [hc7] at HC
                      try unfold NC.val at HC
                      go_wp2_with fail
                      refine HC.mono ?_; rintro e W2 ⟨rfl, hC⟩
                      have hD2 := hD1.trans (hC.mono hD1.size)
                      have hE2 := HB1.out.trans (hD2.mono (by rw [HS1.out]; omega))
                      clear HC hC hD1 hE1 x0 x1 x2 x3 x4
                      obtain ⟨x0, x1, x2, x3, x4⟩ := HBX.out.same (hD2.block w.heap.size (by rw [HS1.out]; omega))
                      dsimp only at x0 x1 x2 x3 x4
                      go_wp2_with fail
                      all_goals
                        try rw [Exit.noGoto_ret]
                        go_ret
                        exact ⟨by rw [HR.out]; first | rfl | (refine congrArg (fun b => Ending.returned (Value.bool b)) (?_ : _ = _); simp <;> first | assumption | omega), hE2⟩
                  | false =>
                    have HR : Hid (t.kinds.exp = false) := by show _ = _; rw [HQ.out]; simp [expK, varK, -List.drop_one, HML.out, hk21_0, hk22_1, hk23_2, hk24_3, hk25_4, hk26_5, hk27_6, hc7]
                    obtain ⟨x0, x1, x2, x3, x4⟩ := HBX.out
                    dsimp only at x0 x1 x2 x3 x4
                    have hD1 := Below.refl W1.heap.size W1
                    have hE1 := HB1.out
                    have HC := bare_any ⟨28, ps, n, txt, kp, kl, kc⟩ W1
                    try dsimp only at HC
                    rw [hc7] at HC
                    try unfold NC.val at HC
                    go_wp2_with fail
                    refine HC.mono ?_; rintro e W2 ⟨rfl, hC⟩
                    have hD2 := hD1.trans (hC.mono hD1.size)
                    have hE2 := HB1.out.trans (hD2.mono (by rw [HS1.out]; omega))
                    clear HC hC hD1 hE1 x0 x1 x2 x3 x4
                    obtain ⟨x0, x1, x2, x3, x4⟩ := HBX.out.same (hD2.block w.heap.size (by rw [HS1.out]; omega))
                    dsimp only at x0 x1 x2 x3 x4
                    go_wp2_with fail
                    all_goals
                      try rw [Exit.noGoto_ret]
                      go_ret
                      exact ⟨by rw [HR.out]; first | rfl | (refine congrArg (fun b => Ending.returned (Value.bool b)) (?_ : _ = _); simp <;> first | assumption | omega), hE2⟩
                case neg =>
                  have HR : Hid (t.kinds.exp = false) := by show _ = _; rw [HQ.out]; simp [expK, varK, -List.drop_one, HML.out, hk21_0, hk22_1, hk23_2, hk24_3, hk25_4, hk26_5, hk27_6, hk28_7]
                  obtain ⟨x0, x1, x2, x3, x4⟩ := HBX.out
                  dsimp only at x0 x1 x2 x3 x4
                  have hD1 := Below.refl W1.heap.size W1
                  have hE1 := HB1.out
                  go_wp2_with fail
                  all_goals
                    try rw [Exit.noGoto_ret]
                    go_ret
                    exact ⟨by rw [HR.out]; first | rfl | (refine congrArg (fun b => Ending.returned (Value.bool b)) (?_ : _ = _); simp <;> first | assumption | omega), hE1⟩
theorem isexp_any (t : Nd) : Nd.Fit t → Is 107 (fun t => t.kinds.exp) t := by
  induction t using Nd.by_size with
  | h t ih => exact fun ht => isexp_step t ht ih
theorem isbind_any (t : Nd) (ht : Nd.Fit t) : Is 87 (fun t => t.kinds.bind) t := isbind_step t ht fun t' h => isexp_any t' (ht.kid h)
theorem isbos_any (t : Nd) (ht : Nd.Fit t) : Is 81 (fun t => t.kinds.bind || t.kinds.sig) t := isbos_step t ht fun t' h => isexp_any t' (ht.kid h)
end Go.Proofs.Ytlammclbnihopaa.N6
