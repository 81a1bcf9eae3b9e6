/- What kind a tree is: the document's own functions for expressions. -/
import Derived.Test.YtobmpipifdielaaNodeRefB
namespace Go.Proofs.Ytobmpipifdielaa
open Go.RowKit

set_option maxRecDepth 100000 in
set_option maxHeartbeats 4000000 in
theorem ralt_step (t : Nd) (ht : Nd.Fit t) (ih : ∀ t' ∈ t.kids, Is 35 (fun t => t.kinds.exp) t') : Is 69 (fun t => t.kinds.alt) t := by
  intro c w h
  obtain ⟨k, ps, n, txt, kp, kl, kc⟩ := c
  obtain ⟨L, hL⟩ : ∃ L, L = t.kids.map Nd.kinds := ⟨_, rfl⟩
  have HQ : Hid (t.kinds.alt = (altK k n txt L)) := by
    show _ = _
    try rw [hL]
    rw [Nd.kinds_eq, ← h.kind, ← h.num, ← h.text]; rfl
  have hTx : txt.length ≤ maxLen := by have := h.text; dsimp only at this; rw [this]; exact ht.text
  have HLN : Hid (kl = t.kids.length) := h.len
  have HML : Hid (L.length = kl) := by show _ = _; rw [hL, List.length_map, HLN.out]
  have hk6 : kl ≤ 1000000 := by rw [HLN.out]; exact ht.len
  have hkc : kl ≤ kc := h.fits
  have HTL : Hid (t.kids.length ≤ 1000000) := ht.len
  have HK := Lib.hid h.kids
  have HT := Lib.hid h
  have HNUM : Hid (n = t.num) := h.num
  have HTXT : Hid (txt = t.text) := h.text
  have HL := Lib.hid hL
  dsimp only at HK
  clear h hL
  unfold NC.val
  obtain ⟨W1, hW1⟩ : ∃ W1, W1 = w.alloc (.cells #[.int .i64 k, .int .i64 ps, .int .i64 n, .string ⟨txt.toArray⟩, .slice kp kl kc] 24) := ⟨_, rfl⟩
  have HBX : Hid (NBox W1 w.heap.size ⟨k, ps, n, txt, kp, kl, kc⟩) := by rw [hW1]; exact NBox.new w ⟨k, ps, n, txt, kp, kl, kc⟩ 24
  have HB1 : Hid (Below w.heap.size w W1) := by rw [hW1]; exact (Below.refl _ w).alloc (Nat.le_refl _) _
  have hs1 : W1.heap.size = w.heap.size + 1 := by rw [hW1]; simp
  have HS1 := Lib.hid hs1
  have HW1 := Lib.hid hW1
  clear hW1 hs1
  go_enter Try.func69, Try.ntmps69
  go_upto_region 1 with fail
  rw [← HW1.out]
  clear HW1
  by_cases hk15_0 : k = 15
  case pos =>
    subst hk15_0
    by_cases htxt0_0 : txt = []
    case pos =>
      subst htxt0_0
      cases hc0 : decide (n = 0) && decide (kl = 2) with
      | true =>
        have hz_1 := hc0
        simp only [Bool.and_eq_true, decide_eq_true_eq] at hz_1
        obtain ⟨rfl, rfl⟩ := hz_1
        clear hc0
        cases hc0 : atK L 0 (·.pat) with
        | true =>
          obtain ⟨kc_p, g_p, o_p, hp_p, hg_p, ht_p, hc_p⟩ := HK.out.at 0 (by rw [← HLN.out]; omega)
          subst hp_p
          have HG_p := Lib.hid hg_p
          have HT_p := Lib.hid ht_p
          have HC_p := Lib.hid hc_p
          clear hg_p ht_p hc_p
          cases hc1 : atK L 1 (·.exp) with
          | true =>
            obtain ⟨kc_q, g_q, o_q, hp_q, hg_q, ht_q, hc_q⟩ := HK.out.at 1 (by rw [← HLN.out]; omega)
            obtain ⟨rfl, rfl⟩ : g_p = g_q ∧ o_p = o_q := by injection hp_q with h1; injection h1 with h1 h2; exact ⟨h1, h2⟩
            have HG_q := Lib.hid hg_q
            have HT_q := Lib.hid ht_q
            have HC_q := Lib.hid hc_q
            clear hg_q ht_q hc_q
            have HR : Hid (t.kinds.alt = true) := by show _ = _; rw [HQ.out]; simp [altK, bareK, HML.out, hc0, hc1]
            have hD1 := Below.refl W1.heap.size W1
            have hE1 := HB1.out
            obtain ⟨x0, x1, x2, x3, x4⟩ := HBX.out
            dsimp only at x0 x1 x2 x3 x4
            obtain ⟨p0, p1, p2, p3, p4⟩ := HC_p.out W1 (hE1.block _ HG_p.out)
            simp only [Nat.zero_mul, Nat.add_zero] at p0 p1 p2 p3 p4
            obtain ⟨q0, q1, q2, q3, q4⟩ := HC_q.out W1 (hE1.block _ HG_q.out)
            simp only [Nat.one_mul, Nat.add_assoc, Nat.reduceAdd] at q0 q1 q2 q3 q4
            have HC := plain_yes ⟨15, ps, 0, [], (some ⟨g_p, o_p, none⟩), 2, kc⟩ W1 2 (by omega) hk6 rfl rfl
            try dsimp only at HC
            try unfold NC.val at HC
            go_wp2_with fail
            refine HC.mono ?_; rintro e W2 ⟨rfl, hC⟩
            have hD2 := hD1.trans (hC.mono hD1.size)
            have hE2 := HB1.out.trans (hD2.mono (by rw [HS1.out]; omega))
            clear HC hC hD1 hE1 x0 x1 x2 x3 x4 p0 p1 p2 p3 p4 q0 q1 q2 q3 q4
            obtain ⟨x0, x1, x2, x3, x4⟩ := HBX.out.same (hD2.block w.heap.size (by rw [HS1.out]; omega))
            dsimp only at x0 x1 x2 x3 x4
            obtain ⟨p0, p1, p2, p3, p4⟩ := HC_p.out W2 (hE2.block _ HG_p.out)
            simp only [Nat.zero_mul, Nat.add_zero] at p0 p1 p2 p3 p4
            obtain ⟨q0, q1, q2, q3, q4⟩ := HC_q.out W2 (hE2.block _ HG_q.out)
            simp only [Nat.one_mul, Nat.add_assoc, Nat.reduceAdd] at q0 q1 q2 q3 q4
            have HC := (rispat_any _ (ht.kid (List.getElem_mem _))) kc_p W2 (HT_p.out.later hE2)
            try dsimp only at HC
            have hcv : _ = _ := ((atK_map t.kids 0 (·.pat) (by rw [← HLN.out]; omega)).symm.trans (by rw [HL.out]) : (t.kids[0]'(by rw [← HLN.out]; omega)).kinds.pat = atK L 0 (·.pat))
            rw [hcv, hc0] at HC
            try unfold NC.val at HC
            go_wp2_with fail
            refine HC.mono ?_; rintro e W3 ⟨rfl, hC⟩
            have hD3 := hD2.trans (hC.mono hD2.size)
            have hE3 := HB1.out.trans (hD3.mono (by rw [HS1.out]; omega))
            clear HC hC hD2 hE2 x0 x1 x2 x3 x4 hcv p0 p1 p2 p3 p4 q0 q1 q2 q3 q4
            obtain ⟨x0, x1, x2, x3, x4⟩ := HBX.out.same (hD3.block w.heap.size (by rw [HS1.out]; omega))
            dsimp only at x0 x1 x2 x3 x4
            obtain ⟨p0, p1, p2, p3, p4⟩ := HC_p.out W3 (hE3.block _ HG_p.out)
            simp only [Nat.zero_mul, Nat.add_zero] at p0 p1 p2 p3 p4
            obtain ⟨q0, q1, q2, q3, q4⟩ := HC_q.out W3 (hE3.block _ HG_q.out)
            simp only [Nat.one_mul, Nat.add_assoc, Nat.reduceAdd] at q0 q1 q2 q3 q4
            have HC := (ih _ (List.getElem_mem _)) kc_q W3 (HT_q.out.later hE3)
            try dsimp only at HC
            have hcv : _ = _ := ((atK_map t.kids 1 (·.exp) (by rw [← HLN.out]; omega)).symm.trans (by rw [HL.out]) : (t.kids[1]'(by rw [← HLN.out]; omega)).kinds.exp = atK L 1 (·.exp))
            rw [hcv, hc1] at HC
            try unfold NC.val at HC
            go_wp2_with fail
            refine HC.mono ?_; rintro e W4 ⟨rfl, hC⟩
            have hD4 := hD3.trans (hC.mono hD3.size)
            have hE4 := HB1.out.trans (hD4.mono (by rw [HS1.out]; omega))
            clear HC hC hD3 hE3 x0 x1 x2 x3 x4 hcv p0 p1 p2 p3 p4 q0 q1 q2 q3 q4
            obtain ⟨x0, x1, x2, x3, x4⟩ := HBX.out.same (hD4.block w.heap.size (by rw [HS1.out]; omega))
            dsimp only at x0 x1 x2 x3 x4
            obtain ⟨p0, p1, p2, p3, p4⟩ := HC_p.out W4 (hE4.block _ HG_p.out)
            simp only [Nat.zero_mul, Nat.add_zero] at p0 p1 p2 p3 p4
            obtain ⟨q0, q1, q2, q3, q4⟩ := HC_q.out W4 (hE4.block _ HG_q.out)
            simp only [Nat.one_mul, Nat.add_assoc, Nat.reduceAdd] at q0 q1 q2 q3 q4
            go_wp2_with fail
            all_goals
              try rw [Exit.noGoto_ret]
              go_ret
              exact ⟨by rw [HR.out]; first | rfl | (refine congrArg (fun b => Ending.returned (Value.bool b)) (?_ : _ = _); simp <;> first | assumption | omega), hE4⟩
          | false =>
            obtain ⟨kc_q, g_q, o_q, hp_q, hg_q, ht_q, hc_q⟩ := HK.out.at 1 (by rw [← HLN.out]; omega)
            obtain ⟨rfl, rfl⟩ : g_p = g_q ∧ o_p = o_q := by injection hp_q with h1; injection h1 with h1 h2; exact ⟨h1, h2⟩
            have HG_q := Lib.hid hg_q
            have HT_q := Lib.hid ht_q
            have HC_q := Lib.hid hc_q
            clear hg_q ht_q hc_q
            have HR : Hid (t.kinds.alt = false) := by show _ = _; rw [HQ.out]; first | (simp [altK, bareK, HML.out, hc0, hc1]; done) | (have hla := hc1; simp only [Bool.and_eq_false_iff, decide_eq_false_iff_not] at hla; rcases hla with h | h <;> simp [altK, bareK, HML.out, hc0, hc1, h])
            have hD1 := Below.refl W1.heap.size W1
            have hE1 := HB1.out
            obtain ⟨x0, x1, x2, x3, x4⟩ := HBX.out
            dsimp only at x0 x1 x2 x3 x4
            obtain ⟨p0, p1, p2, p3, p4⟩ := HC_p.out W1 (hE1.block _ HG_p.out)
            simp only [Nat.zero_mul, Nat.add_zero] at p0 p1 p2 p3 p4
            obtain ⟨q0, q1, q2, q3, q4⟩ := HC_q.out W1 (hE1.block _ HG_q.out)
            simp only [Nat.one_mul, Nat.add_assoc, Nat.reduceAdd] at q0 q1 q2 q3 q4
            have HC := plain_yes ⟨15, ps, 0, [], (some ⟨g_p, o_p, none⟩), 2, kc⟩ W1 2 (by omega) hk6 rfl rfl
            try dsimp only at HC
            try unfold NC.val at HC
            go_wp2_with fail
            refine HC.mono ?_; rintro e W2 ⟨rfl, hC⟩
            have hD2 := hD1.trans (hC.mono hD1.size)
            have hE2 := HB1.out.trans (hD2.mono (by rw [HS1.out]; omega))
            clear HC hC hD1 hE1 x0 x1 x2 x3 x4 p0 p1 p2 p3 p4 q0 q1 q2 q3 q4
            obtain ⟨x0, x1, x2, x3, x4⟩ := HBX.out.same (hD2.block w.heap.size (by rw [HS1.out]; omega))
            dsimp only at x0 x1 x2 x3 x4
            obtain ⟨p0, p1, p2, p3, p4⟩ := HC_p.out W2 (hE2.block _ HG_p.out)
            simp only [Nat.zero_mul, Nat.add_zero] at p0 p1 p2 p3 p4
            obtain ⟨q0, q1, q2, q3, q4⟩ := HC_q.out W2 (hE2.block _ HG_q.out)
            simp only [Nat.one_mul, Nat.add_assoc, Nat.reduceAdd] at q0 q1 q2 q3 q4
            have HC := (rispat_any _ (ht.kid (List.getElem_mem _))) kc_p W2 (HT_p.out.later hE2)
            try dsimp only at HC
            have hcv : _ = _ := ((atK_map t.kids 0 (·.pat) (by rw [← HLN.out]; omega)).symm.trans (by rw [HL.out]) : (t.kids[0]'(by rw [← HLN.out]; omega)).kinds.pat = atK L 0 (·.pat))
            rw [hcv, hc0] at HC
            try unfold NC.val at HC
            go_wp2_with fail
            refine HC.mono ?_; rintro e W3 ⟨rfl, hC⟩
            have hD3 := hD2.trans (hC.mono hD2.size)
            have hE3 := HB1.out.trans (hD3.mono (by rw [HS1.out]; omega))
            clear HC hC hD2 hE2 x0 x1 x2 x3 x4 hcv p0 p1 p2 p3 p4 q0 q1 q2 q3 q4
            obtain ⟨x0, x1, x2, x3, x4⟩ := HBX.out.same (hD3.block w.heap.size (by rw [HS1.out]; omega))
            dsimp only at x0 x1 x2 x3 x4
            obtain ⟨p0, p1, p2, p3, p4⟩ := HC_p.out W3 (hE3.block _ HG_p.out)
            simp only [Nat.zero_mul, Nat.add_zero] at p0 p1 p2 p3 p4
            obtain ⟨q0, q1, q2, q3, q4⟩ := HC_q.out W3 (hE3.block _ HG_q.out)
            simp only [Nat.one_mul, Nat.add_assoc, Nat.reduceAdd] at q0 q1 q2 q3 q4
            have HC := (ih _ (List.getElem_mem _)) kc_q W3 (HT_q.out.later hE3)
            try dsimp only at HC
            have hcv : _ = _ := ((atK_map t.kids 1 (·.exp) (by rw [← HLN.out]; omega)).symm.trans (by rw [HL.out]) : (t.kids[1]'(by rw [← HLN.out]; omega)).kinds.exp = atK L 1 (·.exp))
            rw [hcv, hc1] at HC
            try unfold NC.val at HC
            go_wp2_with fail
            refine HC.mono ?_; rintro e W4 ⟨rfl, hC⟩
            have hD4 := hD3.trans (hC.mono hD3.size)
            have hE4 := HB1.out.trans (hD4.mono (by rw [HS1.out]; omega))
            clear HC hC hD3 hE3 x0 x1 x2 x3 x4 hcv p0 p1 p2 p3 p4 q0 q1 q2 q3 q4
            obtain ⟨x0, x1, x2, x3, x4⟩ := HBX.out.same (hD4.block w.heap.size (by rw [HS1.out]; omega))
            dsimp only at x0 x1 x2 x3 x4
            obtain ⟨p0, p1, p2, p3, p4⟩ := HC_p.out W4 (hE4.block _ HG_p.out)
            simp only [Nat.zero_mul, Nat.add_zero] at p0 p1 p2 p3 p4
            obtain ⟨q0, q1, q2, q3, q4⟩ := HC_q.out W4 (hE4.block _ HG_q.out)
            simp only [Nat.one_mul, Nat.add_assoc, Nat.reduceAdd] at q0 q1 q2 q3 q4
            go_wp2_with fail
            all_goals
              try rw [Exit.noGoto_ret]
              go_ret
              exact ⟨by rw [HR.out]; first | rfl | (refine congrArg (fun b => Ending.returned (Value.bool b)) (?_ : _ = _); simp <;> first | assumption | omega), hE4⟩
        | false =>
          obtain ⟨kc_p, g_p, o_p, hp_p, hg_p, ht_p, hc_p⟩ := HK.out.at 0 (by rw [← HLN.out]; omega)
          subst hp_p
          have HG_p := Lib.hid hg_p
          have HT_p := Lib.hid ht_p
          have HC_p := Lib.hid hc_p
          clear hg_p ht_p hc_p
          have HR : Hid (t.kinds.alt = false) := by show _ = _; rw [HQ.out]; first | (simp [altK, bareK, HML.out, hc0]; done) | (have hla := hc0; simp only [Bool.and_eq_false_iff, decide_eq_false_iff_not] at hla; rcases hla with h | h <;> simp [altK, bareK, HML.out, hc0, h])
          have hD1 := Below.refl W1.heap.size W1
          have hE1 := HB1.out
          obtain ⟨x0, x1, x2, x3, x4⟩ := HBX.out
          dsimp only at x0 x1 x2 x3 x4
          obtain ⟨p0, p1, p2, p3, p4⟩ := HC_p.out W1 (hE1.block _ HG_p.out)
          simp only [Nat.zero_mul, Nat.add_zero] at p0 p1 p2 p3 p4
          have HC := plain_yes ⟨15, ps, 0, [], (some ⟨g_p, o_p, none⟩), 2, kc⟩ W1 2 (by omega) hk6 rfl rfl
          try dsimp only at HC
          try unfold NC.val at HC
          go_wp2_with fail
          refine HC.mono ?_; rintro e W2 ⟨rfl, hC⟩
          have hD2 := hD1.trans (hC.mono hD1.size)
          have hE2 := HB1.out.trans (hD2.mono (by rw [HS1.out]; omega))
          clear HC hC hD1 hE1 x0 x1 x2 x3 x4 p0 p1 p2 p3 p4
          obtain ⟨x0, x1, x2, x3, x4⟩ := HBX.out.same (hD2.block w.heap.size (by rw [HS1.out]; omega))
          dsimp only at x0 x1 x2 x3 x4
          obtain ⟨p0, p1, p2, p3, p4⟩ := HC_p.out W2 (hE2.block _ HG_p.out)
          simp only [Nat.zero_mul, Nat.add_zero] at p0 p1 p2 p3 p4
          have HC := (rispat_any _ (ht.kid (List.getElem_mem _))) kc_p W2 (HT_p.out.later hE2)
          try dsimp only at HC
          have hcv : _ = _ := ((atK_map t.kids 0 (·.pat) (by rw [← HLN.out]; omega)).symm.trans (by rw [HL.out]) : (t.kids[0]'(by rw [← HLN.out]; omega)).kinds.pat = atK L 0 (·.pat))
          rw [hcv, hc0] at HC
          try unfold NC.val at HC
          go_wp2_with fail
          refine HC.mono ?_; rintro e W3 ⟨rfl, hC⟩
          have hD3 := hD2.trans (hC.mono hD2.size)
          have hE3 := HB1.out.trans (hD3.mono (by rw [HS1.out]; omega))
          clear HC hC hD2 hE2 x0 x1 x2 x3 x4 hcv p0 p1 p2 p3 p4
          obtain ⟨x0, x1, x2, x3, x4⟩ := HBX.out.same (hD3.block w.heap.size (by rw [HS1.out]; omega))
          dsimp only at x0 x1 x2 x3 x4
          obtain ⟨p0, p1, p2, p3, p4⟩ := HC_p.out W3 (hE3.block _ HG_p.out)
          simp only [Nat.zero_mul, Nat.add_zero] at p0 p1 p2 p3 p4
          go_wp2_with fail
          all_goals
            try rw [Exit.noGoto_ret]
            go_ret
            exact ⟨by rw [HR.out]; first | rfl | (refine congrArg (fun b => Ending.returned (Value.bool b)) (?_ : _ = _); simp <;> first | assumption | omega), hE3⟩
      | false =>
        have HR : Hid (t.kinds.alt = false) := by show _ = _; rw [HQ.out]; first | (simp [altK, bareK, HML.out, hc0]; done) | (have hla := hc0; simp only [Bool.and_eq_false_iff, decide_eq_false_iff_not] at hla; rcases hla with h | h <;> simp [altK, bareK, HML.out, hc0, h])
        have hD1 := Below.refl W1.heap.size W1
        have hE1 := HB1.out
        obtain ⟨x0, x1, x2, x3, x4⟩ := HBX.out
        dsimp only at x0 x1 x2 x3 x4
        have HC := plain_any ⟨15, ps, n, [], kp, kl, kc⟩ W1 2 (by omega) hk6
        try dsimp only at HC
        rw [hc0] at HC
        try unfold NC.val at HC
        go_wp2_with fail
        refine HC.mono ?_; rintro e W2 ⟨rfl, hC⟩
        have hD2 := hD1.trans (hC.mono hD1.size)
        have hE2 := HB1.out.trans (hD2.mono (by rw [HS1.out]; omega))
        clear HC hC hD1 hE1 x0 x1 x2 x3 x4
        obtain ⟨x0, x1, x2, x3, x4⟩ := HBX.out.same (hD2.block w.heap.size (by rw [HS1.out]; omega))
        dsimp only at x0 x1 x2 x3 x4
        go_wp2_with fail
        all_goals
          try rw [Exit.noGoto_ret]
          go_ret
          exact ⟨by rw [HR.out]; first | rfl | (refine congrArg (fun b => Ending.returned (Value.bool b)) (?_ : _ = _); simp <;> first | assumption | omega), hE2⟩
    case neg =>
      have HR : Hid (t.kinds.alt = false) := by show _ = _; rw [HQ.out]; simp [altK, bareK, HML.out, htxt0_0]
      have hD1 := Below.refl W1.heap.size W1
      have hE1 := HB1.out
      obtain ⟨x0, x1, x2, x3, x4⟩ := HBX.out
      dsimp only at x0 x1 x2 x3 x4
      go_wp2_with fail
      all_goals
        try rw [Exit.noGoto_ret]
        go_ret
        exact ⟨by rw [HR.out]; first | rfl | (refine congrArg (fun b => Ending.returned (Value.bool b)) (?_ : _ = _); simp <;> first | assumption | omega), hE1⟩
  case neg =>
    have HR : Hid (t.kinds.alt = false) := by show _ = _; rw [HQ.out]; simp [altK, bareK, HML.out, hk15_0]
    have hD1 := Below.refl W1.heap.size W1
    have hE1 := HB1.out
    obtain ⟨x0, x1, x2, x3, x4⟩ := HBX.out
    dsimp only at x0 x1 x2 x3 x4
    go_wp2_with fail
    all_goals
      try rw [Exit.noGoto_ret]
      go_ret
      exact ⟨by rw [HR.out]; first | rfl | (refine congrArg (fun b => Ending.returned (Value.bool b)) (?_ : _ = _); simp <;> first | assumption | omega), hE1⟩
set_option maxRecDepth 100000 in
set_option maxHeartbeats 4000000 in
theorem rbind_step (t : Nd) (ht : Nd.Fit t) (ih : ∀ t' ∈ t.kids, Is 35 (fun t => t.kinds.exp) t') : Is 58 (fun t => t.kinds.bind) t := by
  intro c w h
  obtain ⟨k, ps, n, txt, kp, kl, kc⟩ := c
  obtain ⟨L, hL⟩ : ∃ L, L = t.kids.map Nd.kinds := ⟨_, rfl⟩
  have HQ : Hid (t.kinds.bind = (bindK k n txt L)) := by
    show _ = _
    try rw [hL]
    rw [Nd.kinds_eq, ← h.kind, ← h.num, ← h.text]; rfl
  have hTx : txt.length ≤ maxLen := by have := h.text; dsimp only at this; rw [this]; exact ht.text
  have HLN : Hid (kl = t.kids.length) := h.len
  have HML : Hid (L.length = kl) := by show _ = _; rw [hL, List.length_map, HLN.out]
  have hk6 : kl ≤ 1000000 := by rw [HLN.out]; exact ht.len
  have hkc : kl ≤ kc := h.fits
  have HTL : Hid (t.kids.length ≤ 1000000) := ht.len
  have HK := Lib.hid h.kids
  have HT := Lib.hid h
  have HNUM : Hid (n = t.num) := h.num
  have HTXT : Hid (txt = t.text) := h.text
  have HL := Lib.hid hL
  dsimp only at HK
  clear h hL
  unfold NC.val
  obtain ⟨W1, hW1⟩ : ∃ W1, W1 = w.alloc (.cells #[.int .i64 k, .int .i64 ps, .int .i64 n, .string ⟨txt.toArray⟩, .slice kp kl kc] 24) := ⟨_, rfl⟩
  have HBX : Hid (NBox W1 w.heap.size ⟨k, ps, n, txt, kp, kl, kc⟩) := by rw [hW1]; exact NBox.new w ⟨k, ps, n, txt, kp, kl, kc⟩ 24
  have HB1 : Hid (Below w.heap.size w W1) := by rw [hW1]; exact (Below.refl _ w).alloc (Nat.le_refl _) _
  have hs1 : W1.heap.size = w.heap.size + 1 := by rw [hW1]; simp
  have HS1 := Lib.hid hs1
  have HW1 := Lib.hid hW1
  clear hW1 hs1
  go_enter Try.func58, Try.ntmps58
  go_upto_region 1 with fail
  rw [← HW1.out]
  clear HW1
  by_cases hk31_0 : k = 31
  case pos =>
    subst hk31_0
    cases hc0 : varB txt with
    | true =>
      cases hc1 : decide (n = 0) && decide (kl = 1) with
      | true =>
        have hz_2 := hc1
        simp only [Bool.and_eq_true, decide_eq_true_eq] at hz_2
        obtain ⟨rfl, rfl⟩ := hz_2
        clear hc1
        cases hc1 : atK L 0 (·.exp) with
        | true =>
          obtain ⟨kc_p, g_p, o_p, hp_p, hg_p, ht_p, hc_p⟩ := HK.out.at 0 (by rw [← HLN.out]; omega)
          subst hp_p
          have HG_p := Lib.hid hg_p
          have HT_p := Lib.hid ht_p
          have HC_p := Lib.hid hc_p
          clear hg_p ht_p hc_p
          have HR : Hid (t.kinds.bind = true) := by show _ = _; rw [HQ.out]; simp [bindK, varK, HML.out, hc0, hc1]
          have hD1 := Below.refl W1.heap.size W1
          have hE1 := HB1.out
          obtain ⟨x0, x1, x2, x3, x4⟩ := HBX.out
          dsimp only at x0 x1 x2 x3 x4
          obtain ⟨p0, p1, p2, p3, p4⟩ := HC_p.out W1 (hE1.block _ HG_p.out)
          simp only [Nat.zero_mul, Nat.add_zero] at p0 p1 p2 p3 p4
          have HC := refvar_text txt W1 hTx
          try dsimp only at HC
          rw [hc0] at HC
          try unfold NC.val at HC
          go_wp2_with fail
          refine HC.mono ?_; rintro e W2 ⟨rfl, hC⟩
          have hD2 := hD1.trans (hC.mono hD1.size)
          have hE2 := HB1.out.trans (hD2.mono (by rw [HS1.out]; omega))
          clear HC hC hD1 hE1 x0 x1 x2 x3 x4 p0 p1 p2 p3 p4
          obtain ⟨x0, x1, x2, x3, x4⟩ := HBX.out.same (hD2.block w.heap.size (by rw [HS1.out]; omega))
          dsimp only at x0 x1 x2 x3 x4
          obtain ⟨p0, p1, p2, p3, p4⟩ := HC_p.out W2 (hE2.block _ HG_p.out)
          simp only [Nat.zero_mul, Nat.add_zero] at p0 p1 p2 p3 p4
          have HC := plain_yes ⟨31, ps, 0, txt, (some ⟨g_p, o_p, none⟩), 1, kc⟩ W2 1 (by omega) hk6 rfl rfl
          try dsimp only at HC
          try unfold NC.val at HC
          go_wp2_with fail
          refine HC.mono ?_; rintro e W3 ⟨rfl, hC⟩
          have hD3 := hD2.trans (hC.mono hD2.size)
          have hE3 := HB1.out.trans (hD3.mono (by rw [HS1.out]; omega))
          clear HC hC hD2 hE2 x0 x1 x2 x3 x4 p0 p1 p2 p3 p4
          obtain ⟨x0, x1, x2, x3, x4⟩ := HBX.out.same (hD3.block w.heap.size (by rw [HS1.out]; omega))
          dsimp only at x0 x1 x2 x3 x4
          obtain ⟨p0, p1, p2, p3, p4⟩ := HC_p.out W3 (hE3.block _ HG_p.out)
          simp only [Nat.zero_mul, Nat.add_zero] at p0 p1 p2 p3 p4
          have HC := (ih _ (List.getElem_mem _)) kc_p W3 (HT_p.out.later hE3)
          try dsimp only at HC
          have hcv : _ = _ := ((atK_map t.kids 0 (·.exp) (by rw [← HLN.out]; omega)).symm.trans (by rw [HL.out]) : (t.kids[0]'(by rw [← HLN.out]; omega)).kinds.exp = atK L 0 (·.exp))
          rw [hcv, hc1] at HC
          try unfold NC.val at HC
          go_wp2_with fail
          refine HC.mono ?_; rintro e W4 ⟨rfl, hC⟩
          have hD4 := hD3.trans (hC.mono hD3.size)
          have hE4 := HB1.out.trans (hD4.mono (by rw [HS1.out]; omega))
          clear HC hC hD3 hE3 x0 x1 x2 x3 x4 hcv p0 p1 p2 p3 p4
          obtain ⟨x0, x1, x2, x3, x4⟩ := HBX.out.same (hD4.block w.heap.size (by rw [HS1.out]; omega))
          dsimp only at x0 x1 x2 x3 x4
          obtain ⟨p0, p1, p2, p3, p4⟩ := HC_p.out W4 (hE4.block _ HG_p.out)
          simp only [Nat.zero_mul, Nat.add_zero] at p0 p1 p2 p3 p4
          go_wp2_with fail
          all_goals
            try rw [Exit.noGoto_ret]
            go_ret
            exact ⟨by rw [HR.out]; first | rfl | (refine congrArg (fun b => Ending.returned (Value.bool b)) (?_ : _ = _); simp <;> first | assumption | omega), hE4⟩
        | false =>
          obtain ⟨kc_p, g_p, o_p, hp_p, hg_p, ht_p, hc_p⟩ := HK.out.at 0 (by rw [← HLN.out]; omega)
          subst hp_p
          have HG_p := Lib.hid hg_p
          have HT_p := Lib.hid ht_p
          have HC_p := Lib.hid hc_p
          clear hg_p ht_p hc_p
          have HR : Hid (t.kinds.bind = false) := by show _ = _; rw [HQ.out]; first | (simp [bindK, varK, HML.out, hc0, hc1]; done) | (have hla := hc1; simp only [Bool.and_eq_false_iff, decide_eq_false_iff_not] at hla; rcases hla with h | h <;> simp [bindK, varK, HML.out, hc0, hc1, h])
          have hD1 := Below.refl W1.heap.size W1
          have hE1 := HB1.out
          obtain ⟨x0, x1, x2, x3, x4⟩ := HBX.out
          dsimp only at x0 x1 x2 x3 x4
          obtain ⟨p0, p1, p2, p3, p4⟩ := HC_p.out W1 (hE1.block _ HG_p.out)
          simp only [Nat.zero_mul, Nat.add_zero] at p0 p1 p2 p3 p4
          have HC := refvar_text txt W1 hTx
          try dsimp only at HC
          rw [hc0] at HC
          try unfold NC.val at HC
          go_wp2_with fail
          refine HC.mono ?_; rintro e W2 ⟨rfl, hC⟩
          have hD2 := hD1.trans (hC.mono hD1.size)
          have hE2 := HB1.out.trans (hD2.mono (by rw [HS1.out]; omega))
          clear HC hC hD1 hE1 x0 x1 x2 x3 x4 p0 p1 p2 p3 p4
          obtain ⟨x0, x1, x2, x3, x4⟩ := HBX.out.same (hD2.block w.heap.size (by rw [HS1.out]; omega))
          dsimp only at x0 x1 x2 x3 x4
          obtain ⟨p0, p1, p2, p3, p4⟩ := HC_p.out W2 (hE2.block _ HG_p.out)
          simp only [Nat.zero_mul, Nat.add_zero] at p0 p1 p2 p3 p4
          have HC := plain_yes ⟨31, ps, 0, txt, (some ⟨g_p, o_p, none⟩), 1, kc⟩ W2 1 (by omega) hk6 rfl rfl
          try dsimp only at HC
          try unfold NC.val at HC
          go_wp2_with fail
          refine HC.mono ?_; rintro e W3 ⟨rfl, hC⟩
          have hD3 := hD2.trans (hC.mono hD2.size)
          have hE3 := HB1.out.trans (hD3.mono (by rw [HS1.out]; omega))
          clear HC hC hD2 hE2 x0 x1 x2 x3 x4 p0 p1 p2 p3 p4
          obtain ⟨x0, x1, x2, x3, x4⟩ := HBX.out.same (hD3.block w.heap.size (by rw [HS1.out]; omega))
          dsimp only at x0 x1 x2 x3 x4
          obtain ⟨p0, p1, p2, p3, p4⟩ := HC_p.out W3 (hE3.block _ HG_p.out)
          simp only [Nat.zero_mul, Nat.add_zero] at p0 p1 p2 p3 p4
          have HC := (ih _ (List.getElem_mem _)) kc_p W3 (HT_p.out.later hE3)
          try dsimp only at HC
          have hcv : _ = _ := ((atK_map t.kids 0 (·.exp) (by rw [← HLN.out]; omega)).symm.trans (by rw [HL.out]) : (t.kids[0]'(by rw [← HLN.out]; omega)).kinds.exp = atK L 0 (·.exp))
          rw [hcv, hc1] at HC
          try unfold NC.val at HC
          go_wp2_with fail
          refine HC.mono ?_; rintro e W4 ⟨rfl, hC⟩
          have hD4 := hD3.trans (hC.mono hD3.size)
          have hE4 := HB1.out.trans (hD4.mono (by rw [HS1.out]; omega))
          clear HC hC hD3 hE3 x0 x1 x2 x3 x4 hcv p0 p1 p2 p3 p4
          obtain ⟨x0, x1, x2, x3, x4⟩ := HBX.out.same (hD4.block w.heap.size (by rw [HS1.out]; omega))
          dsimp only at x0 x1 x2 x3 x4
          obtain ⟨p0, p1, p2, p3, p4⟩ := HC_p.out W4 (hE4.block _ HG_p.out)
          simp only [Nat.zero_mul, Nat.add_zero] at p0 p1 p2 p3 p4
          go_wp2_with fail
          all_goals
            try rw [Exit.noGoto_ret]
            go_ret
            exact ⟨by rw [HR.out]; first | rfl | (refine congrArg (fun b => Ending.returned (Value.bool b)) (?_ : _ = _); simp <;> first | assumption | omega), hE4⟩
      | false =>
        have HR : Hid (t.kinds.bind = false) := by show _ = _; rw [HQ.out]; first | (simp [bindK, varK, HML.out, hc0, hc1]; done) | (have hla := hc1; simp only [Bool.and_eq_false_iff, decide_eq_false_iff_not] at hla; rcases hla with h | h <;> simp [bindK, varK, HML.out, hc0, hc1, h])
        have hD1 := Below.refl W1.heap.size W1
        have hE1 := HB1.out
        obtain ⟨x0, x1, x2, x3, x4⟩ := HBX.out
        dsimp only at x0 x1 x2 x3 x4
        have HC := refvar_text txt W1 hTx
        try dsimp only at HC
        rw [hc0] at HC
        try unfold NC.val at HC
        go_wp2_with fail
        refine HC.mono ?_; rintro e W2 ⟨rfl, hC⟩
        have hD2 := hD1.trans (hC.mono hD1.size)
        have hE2 := HB1.out.trans (hD2.mono (by rw [HS1.out]; omega))
        clear HC hC hD1 hE1 x0 x1 x2 x3 x4
        obtain ⟨x0, x1, x2, x3, x4⟩ := HBX.out.same (hD2.block w.heap.size (by rw [HS1.out]; omega))
        dsimp only at x0 x1 x2 x3 x4
        have HC := plain_any ⟨31, ps, n, txt, kp, kl, kc⟩ W2 1 (by omega) hk6
        try dsimp only at HC
        rw [hc1] at HC
        try unfold NC.val at HC
        go_wp2_with fail
        refine HC.mono ?_; rintro e W3 ⟨rfl, hC⟩
        have hD3 := hD2.trans (hC.mono hD2.size)
        have hE3 := HB1.out.trans (hD3.mono (by rw [HS1.out]; omega))
        clear HC hC hD2 hE2 x0 x1 x2 x3 x4
        obtain ⟨x0, x1, x2, x3, x4⟩ := HBX.out.same (hD3.block w.heap.size (by rw [HS1.out]; omega))
        dsimp only at x0 x1 x2 x3 x4
        go_wp2_with fail
        all_goals
          try rw [Exit.noGoto_ret]
          go_ret
          exact ⟨by rw [HR.out]; first | rfl | (refine congrArg (fun b => Ending.returned (Value.bool b)) (?_ : _ = _); simp <;> first | assumption | omega), hE3⟩
    | false =>
      have HR : Hid (t.kinds.bind = false) := by show _ = _; rw [HQ.out]; first | (simp [bindK, varK, HML.out, hc0]; done) | (have hla := hc0; simp only [Bool.and_eq_false_iff, decide_eq_false_iff_not] at hla; rcases hla with h | h <;> simp [bindK, varK, HML.out, hc0, h])
      have hD1 := Below.refl W1.heap.size W1
      have hE1 := HB1.out
      obtain ⟨x0, x1, x2, x3, x4⟩ := HBX.out
      dsimp only at x0 x1 x2 x3 x4
      have HC := refvar_text txt W1 hTx
      try dsimp only at HC
      rw [hc0] at HC
      try unfold NC.val at HC
      go_wp2_with fail
      refine HC.mono ?_; rintro e W2 ⟨rfl, hC⟩
      have hD2 := hD1.trans (hC.mono hD1.size)
      have hE2 := HB1.out.trans (hD2.mono (by rw [HS1.out]; omega))
      clear HC hC hD1 hE1 x0 x1 x2 x3 x4
      obtain ⟨x0, x1, x2, x3, x4⟩ := HBX.out.same (hD2.block w.heap.size (by rw [HS1.out]; omega))
      dsimp only at x0 x1 x2 x3 x4
      go_wp2_with fail
      all_goals
        try rw [Exit.noGoto_ret]
        go_ret
        exact ⟨by rw [HR.out]; first | rfl | (refine congrArg (fun b => Ending.returned (Value.bool b)) (?_ : _ = _); simp <;> first | assumption | omega), hE2⟩
  case neg =>
    have HR : Hid (t.kinds.bind = false) := by show _ = _; rw [HQ.out]; simp [bindK, varK, HML.out, hk31_0]
    have hD1 := Below.refl W1.heap.size W1
    have hE1 := HB1.out
    obtain ⟨x0, x1, x2, x3, x4⟩ := HBX.out
    dsimp only at x0 x1 x2 x3 x4
    go_wp2_with fail
    all_goals
      try rw [Exit.noGoto_ret]
      go_ret
      exact ⟨by rw [HR.out]; first | rfl | (refine congrArg (fun b => Ending.returned (Value.bool b)) (?_ : _ = _); simp <;> first | assumption | omega), hE1⟩
def expsK (j : Nat) (n : Int) (t : List UInt8) (l : List Kinds) : Bool := bareK n t && (decide (l.length = j) && l.all (·.exp))
def letK (n : Int) (t : List UInt8) (l : List Kinds) : Bool := bareK n t && (decide (1 < l.length) && ((l.take (l.length - 1)).all (fun x => x.bind || x.sig) && atK l (l.length - 1) (·.exp)))
def casesK (n : Int) (t : List UInt8) (l : List Kinds) : Bool := bareK n t && (decide (2 ≤ l.length) && (atK l 0 (·.exp) && (l.drop 1).all (·.alt)))
set_option maxRecDepth 100000 in
set_option maxHeartbeats 4000000 in
theorem rexps_step (t : Nd) (ht : Nd.Fit t) (ih : ∀ t' ∈ t.kids, Is 35 (fun t => t.kinds.exp) t') (i : Nat) (hi : i ≤ 1000000) : ∀ (c : NC) (w : World), TreeAt w c t → Calls Try.prog 49 #[c.val, .int .i64 (i : Int)] w (SaysIs (expsK i t.num t.text (t.kids.map Nd.kinds)) w) := by
  intro c w h
  obtain ⟨k, ps, n, txt, kp, kl, kc⟩ := c
  obtain ⟨L, hL⟩ : ∃ L, L = t.kids.map Nd.kinds := ⟨_, rfl⟩
  have HQ : Hid ((expsK i t.num t.text (t.kids.map Nd.kinds)) = (expsK i n txt L)) := by
    show _ = _
    rw [hL, ← h.num, ← h.text]
  have hTx : txt.length ≤ maxLen := by have := h.text; dsimp only at this; rw [this]; exact ht.text
  have HLN : Hid (kl = t.kids.length) := h.len
  have HML : Hid (L.length = kl) := by show _ = _; rw [hL, List.length_map, HLN.out]
  have hk6 : kl ≤ 1000000 := by rw [HLN.out]; exact ht.len
  have hkc : kl ≤ kc := h.fits
  have HTL : Hid (t.kids.length ≤ 1000000) := ht.len
  have HK := Lib.hid h.kids
  have HT := Lib.hid h
  have HNUM : Hid (n = t.num) := h.num
  have HTXT : Hid (txt = t.text) := h.text
  have HL := Lib.hid hL
  dsimp only at HK
  clear h hL
  unfold NC.val
  obtain ⟨W1, hW1⟩ : ∃ W1, W1 = w.alloc (.cells #[.int .i64 k, .int .i64 ps, .int .i64 n, .string ⟨txt.toArray⟩, .slice kp kl kc] 24) := ⟨_, rfl⟩
  have HBX : Hid (NBox W1 w.heap.size ⟨k, ps, n, txt, kp, kl, kc⟩) := by rw [hW1]; exact NBox.new w ⟨k, ps, n, txt, kp, kl, kc⟩ 24
  have HB1 : Hid (Below w.heap.size w W1) := by rw [hW1]; exact (Below.refl _ w).alloc (Nat.le_refl _) _
  have hs1 : W1.heap.size = w.heap.size + 1 := by rw [hW1]; simp
  have HS1 := Lib.hid hs1
  have HW1 := Lib.hid hW1
  clear hW1 hs1
  go_enter Try.func49, Try.ntmps49
  go_upto_region 1 with fail
  rw [← HW1.out]
  clear HW1
  by_cases htxt0_0 : txt = []
  case pos =>
    subst htxt0_0
    cases hc0 : decide (n = 0) && decide (kl = i) with
    | true =>
      cases hc1 : ((L.take kl).drop 0).all (·.exp) with
      | true =>
        have hz1 : L.all (·.exp) = true := by rw [← hc1, List.drop_zero, List.take_of_length_le (by rw [HML.out]; exact Nat.le_refl _)]
        have HR : Hid ((expsK i t.num t.text (t.kids.map Nd.kinds)) = true) := by show _ = _; rw [HQ.out]; simp [expsK, bareK, HML.out, hc0, hz1]
        have hD1 := Below.refl W1.heap.size W1
        have hE1 := HB1.out
        obtain ⟨x0, x1, x2, x3, x4⟩ := HBX.out
        dsimp only at x0 x1 x2 x3 x4
        have HC := plain_any ⟨k, ps, n, [], kp, kl, kc⟩ W1 i (by omega) hk6
        try dsimp only at HC
        rw [hc0] at HC
        try unfold NC.val at HC
        go_wp2_with fail
        refine HC.mono ?_; rintro e W2 ⟨rfl, hC⟩
        have hD2 := hD1.trans (hC.mono hD1.size)
        have hE2 := HB1.out.trans (hD2.mono (by rw [HS1.out]; omega))
        clear HC hC hD1 hE1 x0 x1 x2 x3 x4
        obtain ⟨x0, x1, x2, x3, x4⟩ := HBX.out.same (hD2.block w.heap.size (by rw [HS1.out]; omega))
        dsimp only at x0 x1 x2 x3 x4
        have HLP := Lib.hid hc1
        clear hc1
        go_wp2_with fail
        go_loopg [5] (kl - 0) (fun g q wr => ∃ j : Nat, j + g = kl ∧ 0 ≤ j ∧ q = .int .i64 (j : Int) ∧ Hid (((L.take kl).drop j).all (·.exp) = true) ∧ Below W1.heap.size W1 wr)
        case atStart => exact ⟨0, by omega, Nat.le_refl _, (by first | rfl | go_num), HLP.out, hD2⟩
        case round =>
          obtain ⟨j, hjg, haj, rfl, HJ, hDj⟩ := hrel
          clear hD2 hE2
          obtain ⟨W3, rfl⟩ : ∃ x : World, x = wr := ⟨_, rfl⟩
          have hD3 := hDj
          have hE3 := HB1.out.trans (hDj.mono (by rw [HS1.out]; omega))
          clear hDj x0 x1 x2 x3 x4
          cases gk with
          | zero =>
            have hlt' : ¬ (j : Int) < (kl : Int) := by omega
            clear hjg haj
            obtain ⟨x0, x1, x2, x3, x4⟩ := HBX.out.same (hD3.block w.heap.size (by rw [HS1.out]; omega))
            dsimp only at x0 x1 x2 x3 x4
            go_wp2_with fail
            all_goals
              try rw [Exit.noGoto_ret]
              go_ret
              exact ⟨by rw [HR.out]; first | rfl | (refine congrArg (fun b => Ending.returned (Value.bool b)) (?_ : _ = _); simp <;> first | assumption | omega), hE3⟩
          | succ g =>
            have hlt : j < kl := by omega
            have hlt' : (j : Int) < (kl : Int) := by omega
            have hjk : (j : Int) < (kl : Int) := by omega
            have hjl : j < kl := by omega
            have hj6 : (j : Int) ≤ 1000000 := by omega
            have hjt : j < t.kids.length := by rw [← HLN.out]; exact hjl
            obtain ⟨⟨kk, kps, kn, ktx, kkp, kkl, kkc⟩, gr, or, hpr, hgr, htr, hcr⟩ := HK.out.at j hjt
            have HPR := Lib.hid hpr
            have HGR := Lib.hid hgr
            have HTR := Lib.hid htr
            have HCR := Lib.hid hcr
            have HKK : Hid (kk = t.kids[j].kind ∧ kn = t.kids[j].num ∧ ktx = t.kids[j].text ∧ kkl = t.kids[j].kids.length) := ⟨htr.kind, htr.num, htr.text, htr.len⟩
            have HPS : Hid (((L.take kl).drop j).all (·.exp) = (((·.exp) t.kids[j].kinds) && ((L.take kl).drop (j + 1)).all (·.exp))) := by
              show _ = _
              rw [HL.out, List.drop_eq_getElem_cons (by rw [List.length_take, List.length_map]; omega), List.all_cons, List.getElem_take, List.getElem_map]
            have htK : Nd.Fit t.kids[j] := ht.kid (List.getElem_mem _)
            have hTxK : ktx.length ≤ maxLen := by rw [HKK.out.2.2.1]; exact htK.text
            have hkk6 : kkl ≤ 1000000 := by rw [HKK.out.2.2.2]; exact htK.len
            have HKE : Hid (((·.exp) t.kids[j].kinds) = (t.kids[j].kinds.exp)) := by
              show _ = _
              rfl
            clear hpr hgr htr hcr
            cases hq0 : t.kids[j].kinds.exp with
            | true =>
              have HPv : Hid (((·.exp) t.kids[j].kinds) = true) := by show _ = _; rw [HKE.out]; simp [hq0]
              have HJ2 : Hid (((L.take kl).drop (j + 1)).all (·.exp) = true) := by show _ = _; have h1 := HJ.out; rw [HPS.out, HPv.out, Bool.true_and] at h1; exact h1
              obtain ⟨x0, x1, x2, x3, x4⟩ := HBX.out.same (hD3.block w.heap.size (by rw [HS1.out]; omega))
              dsimp only at x0 x1 x2 x3 x4
              obtain ⟨r0, r1, r2, r3, r4⟩ := HCR.out W3 (hE3.block _ HGR.out)
              try dsimp only at r0 r1 r2 r3 r4
              rw [HPR.out] at x4
              have HC := ih _ (List.getElem_mem hjt) _ W3 (HTR.out.later hE3)
              try dsimp only at HC
              rw [hq0] at HC
              try unfold NC.val at HC
              go_wp2_with fail
              refine HC.mono ?_; rintro e W4 ⟨rfl, hC⟩
              have hD4 := hD3.trans (hC.mono hD3.size)
              have hE4 := HB1.out.trans (hD4.mono (by rw [HS1.out]; omega))
              clear HC hC hD3 hE3 x0 x1 x2 x3 x4 r0 r1 r2 r3 r4
              obtain ⟨x0, x1, x2, x3, x4⟩ := HBX.out.same (hD4.block w.heap.size (by rw [HS1.out]; omega))
              dsimp only at x0 x1 x2 x3 x4
              obtain ⟨r0, r1, r2, r3, r4⟩ := HCR.out W4 (hE4.block _ HGR.out)
              try dsimp only at r0 r1 r2 r3 r4
              rw [HPR.out] at x4
              go_wp2_with fail
              go_roundg g
              case measure => omega
              case rel => exact ⟨j + 1, by omega, by omega, (by go_num), HJ2, hD4⟩
            | false =>
              have HPv : Hid (((·.exp) t.kids[j].kinds) = false) := by show _ = _; rw [HKE.out]; simp [hq0]
              exact absurd HJ.out (by rw [HPS.out, HPv.out]; simp)
      | false =>
        have hz1 : L.all (·.exp) = false := by rw [← hc1, List.drop_zero, List.take_of_length_le (by rw [HML.out]; exact Nat.le_refl _)]
        have HR : Hid ((expsK i t.num t.text (t.kids.map Nd.kinds)) = false) := by show _ = _; rw [HQ.out]; simp [expsK, bareK, HML.out, hc0, hz1]
        have hD1 := Below.refl W1.heap.size W1
        have hE1 := HB1.out
        obtain ⟨x0, x1, x2, x3, x4⟩ := HBX.out
        dsimp only at x0 x1 x2 x3 x4
        have HC := plain_any ⟨k, ps, n, [], kp, kl, kc⟩ W1 i (by omega) hk6
        try dsimp only at HC
        rw [hc0] at HC
        try unfold NC.val at HC
        go_wp2_with fail
        refine HC.mono ?_; rintro e W2 ⟨rfl, hC⟩
        have hD2 := hD1.trans (hC.mono hD1.size)
        have hE2 := HB1.out.trans (hD2.mono (by rw [HS1.out]; omega))
        clear HC hC hD1 hE1 x0 x1 x2 x3 x4
        obtain ⟨x0, x1, x2, x3, x4⟩ := HBX.out.same (hD2.block w.heap.size (by rw [HS1.out]; omega))
        dsimp only at x0 x1 x2 x3 x4
        have HLP := Lib.hid hc1
        clear hc1
        go_wp2_with fail
        go_loopg [5] (kl - 0) (fun g q wr => ∃ j : Nat, j + g = kl ∧ 0 ≤ j ∧ q = .int .i64 (j : Int) ∧ Hid (((L.take kl).drop j).all (·.exp) = false) ∧ Below W1.heap.size W1 wr)
        case atStart => exact ⟨0, by omega, Nat.le_refl _, (by first | rfl | go_num), HLP.out, hD2⟩
        case round =>
          obtain ⟨j, hjg, haj, rfl, HJ, hDj⟩ := hrel
          clear hD2 hE2
          obtain ⟨W3, rfl⟩ : ∃ x : World, x = wr := ⟨_, rfl⟩
          have hD3 := hDj
          have hE3 := HB1.out.trans (hDj.mono (by rw [HS1.out]; omega))
          clear hDj x0 x1 x2 x3 x4
          cases gk with
          | zero =>
            exfalso
            have h0 := HJ.out
            rw [List.drop_eq_nil_of_le (by rw [List.length_take, HML.out]; omega)] at h0
            simp at h0
          | succ g =>
            have hlt : j < kl := by omega
            have hlt' : (j : Int) < (kl : Int) := by omega
            have hjk : (j : Int) < (kl : Int) := by omega
            have hjl : j < kl := by omega
            have hj6 : (j : Int) ≤ 1000000 := by omega
            have hjt : j < t.kids.length := by rw [← HLN.out]; exact hjl
            obtain ⟨⟨kk, kps, kn, ktx, kkp, kkl, kkc⟩, gr, or, hpr, hgr, htr, hcr⟩ := HK.out.at j hjt
            have HPR := Lib.hid hpr
            have HGR := Lib.hid hgr
            have HTR := Lib.hid htr
            have HCR := Lib.hid hcr
            have HKK : Hid (kk = t.kids[j].kind ∧ kn = t.kids[j].num ∧ ktx = t.kids[j].text ∧ kkl = t.kids[j].kids.length) := ⟨htr.kind, htr.num, htr.text, htr.len⟩
            have HPS : Hid (((L.take kl).drop j).all (·.exp) = (((·.exp) t.kids[j].kinds) && ((L.take kl).drop (j + 1)).all (·.exp))) := by
              show _ = _
              rw [HL.out, List.drop_eq_getElem_cons (by rw [List.length_take, List.length_map]; omega), List.all_cons, List.getElem_take, List.getElem_map]
            have htK : Nd.Fit t.kids[j] := ht.kid (List.getElem_mem _)
            have hTxK : ktx.length ≤ maxLen := by rw [HKK.out.2.2.1]; exact htK.text
            have hkk6 : kkl ≤ 1000000 := by rw [HKK.out.2.2.2]; exact htK.len
            have HKE : Hid (((·.exp) t.kids[j].kinds) = (t.kids[j].kinds.exp)) := by
              show _ = _
              rfl
            clear hpr hgr htr hcr
            cases hq0 : t.kids[j].kinds.exp with
            | true =>
              have HPv : Hid (((·.exp) t.kids[j].kinds) = true) := by show _ = _; rw [HKE.out]; simp [hq0]
              have HJ2 : Hid (((L.take kl).drop (j + 1)).all (·.exp) = false) := by show _ = _; have h1 := HJ.out; rw [HPS.out, HPv.out, Bool.true_and] at h1; exact h1
              obtain ⟨x0, x1, x2, x3, x4⟩ := HBX.out.same (hD3.block w.heap.size (by rw [HS1.out]; omega))
              dsimp only at x0 x1 x2 x3 x4
              obtain ⟨r0, r1, r2, r3, r4⟩ := HCR.out W3 (hE3.block _ HGR.out)
              try dsimp only at r0 r1 r2 r3 r4
              rw [HPR.out] at x4
              have HC := ih _ (List.getElem_mem hjt) _ W3 (HTR.out.later hE3)
              try dsimp only at HC
              rw [hq0] at HC
              try unfold NC.val at HC
              go_wp2_with fail
              refine HC.mono ?_; rintro e W4 ⟨rfl, hC⟩
              have hD4 := hD3.trans (hC.mono hD3.size)
              have hE4 := HB1.out.trans (hD4.mono (by rw [HS1.out]; omega))
              clear HC hC hD3 hE3 x0 x1 x2 x3 x4 r0 r1 r2 r3 r4
              obtain ⟨x0, x1, x2, x3, x4⟩ := HBX.out.same (hD4.block w.heap.size (by rw [HS1.out]; omega))
              dsimp only at x0 x1 x2 x3 x4
              obtain ⟨r0, r1, r2, r3, r4⟩ := HCR.out W4 (hE4.block _ HGR.out)
              try dsimp only at r0 r1 r2 r3 r4
              rw [HPR.out] at x4
              go_wp2_with fail
              go_roundg g
              case measure => omega
              case rel => exact ⟨j + 1, by omega, by omega, (by go_num), HJ2, hD4⟩
            | false =>
              have HPv : Hid (((·.exp) t.kids[j].kinds) = false) := by show _ = _; rw [HKE.out]; simp [hq0]
              obtain ⟨x0, x1, x2, x3, x4⟩ := HBX.out.same (hD3.block w.heap.size (by rw [HS1.out]; omega))
              dsimp only at x0 x1 x2 x3 x4
              obtain ⟨r0, r1, r2, r3, r4⟩ := HCR.out W3 (hE3.block _ HGR.out)
              try dsimp only at r0 r1 r2 r3 r4
              rw [HPR.out] at x4
              have HC := ih _ (List.getElem_mem hjt) _ W3 (HTR.out.later hE3)
              try dsimp only at HC
              rw [hq0] at HC
              try unfold NC.val at HC
              go_wp2_with fail
              refine HC.mono ?_; rintro e W4 ⟨rfl, hC⟩
              have hD4 := hD3.trans (hC.mono hD3.size)
              have hE4 := HB1.out.trans (hD4.mono (by rw [HS1.out]; omega))
              clear HC hC hD3 hE3 x0 x1 x2 x3 x4 r0 r1 r2 r3 r4
              obtain ⟨x0, x1, x2, x3, x4⟩ := HBX.out.same (hD4.block w.heap.size (by rw [HS1.out]; omega))
              dsimp only at x0 x1 x2 x3 x4
              obtain ⟨r0, r1, r2, r3, r4⟩ := HCR.out W4 (hE4.block _ HGR.out)
              try dsimp only at r0 r1 r2 r3 r4
              rw [HPR.out] at x4
              go_wp2_with fail
              all_goals
                try rw [Exit.noGoto_ret]
                go_ret
                exact ⟨by rw [HR.out]; first | rfl | (refine congrArg (fun b => Ending.returned (Value.bool b)) (?_ : _ = _); simp <;> first | assumption | omega), hE4⟩
    | false =>
      have HR : Hid ((expsK i t.num t.text (t.kids.map Nd.kinds)) = false) := by show _ = _; rw [HQ.out]; first | (simp [expsK, bareK, HML.out, hc0]; done) | (have hla := hc0; simp only [Bool.and_eq_false_iff, decide_eq_false_iff_not] at hla; rcases hla with h | h <;> simp [expsK, bareK, HML.out, hc0, h])
      have hD1 := Below.refl W1.heap.size W1
      have hE1 := HB1.out
      obtain ⟨x0, x1, x2, x3, x4⟩ := HBX.out
      dsimp only at x0 x1 x2 x3 x4
      have HC := plain_any ⟨k, ps, n, [], kp, kl, kc⟩ W1 i (by omega) hk6
      try dsimp only at HC
      rw [hc0] at HC
      try unfold NC.val at HC
      go_wp2_with fail
      refine HC.mono ?_; rintro e W2 ⟨rfl, hC⟩
      have hD2 := hD1.trans (hC.mono hD1.size)
      have hE2 := HB1.out.trans (hD2.mono (by rw [HS1.out]; omega))
      clear HC hC hD1 hE1 x0 x1 x2 x3 x4
      obtain ⟨x0, x1, x2, x3, x4⟩ := HBX.out.same (hD2.block w.heap.size (by rw [HS1.out]; omega))
      dsimp only at x0 x1 x2 x3 x4
      go_wp2_with fail
      all_goals
        try rw [Exit.noGoto_ret]
        go_ret
        exact ⟨by rw [HR.out]; first | rfl | (refine congrArg (fun b => Ending.returned (Value.bool b)) (?_ : _ = _); simp <;> first | assumption | omega), hE2⟩
  case neg =>
    have HR : Hid ((expsK i t.num t.text (t.kids.map Nd.kinds)) = false) := by show _ = _; rw [HQ.out]; simp [expsK, bareK, HML.out, htxt0_0]
    have hD1 := Below.refl W1.heap.size W1
    have hE1 := HB1.out
    obtain ⟨x0, x1, x2, x3, x4⟩ := HBX.out
    dsimp only at x0 x1 x2 x3 x4
    go_wp2_with fail
    all_goals
      try rw [Exit.noGoto_ret]
      go_ret
      exact ⟨by rw [HR.out]; first | rfl | (refine congrArg (fun b => Ending.returned (Value.bool b)) (?_ : _ = _); simp <;> first | assumption | omega), hE1⟩
set_option maxRecDepth 100000 in
set_option maxHeartbeats 4000000 in
theorem rlet_step (t : Nd) (ht : Nd.Fit t) (ih : ∀ k, k.size < t.size → Nd.Fit k → Is 35 (fun t => t.kinds.exp) k) : ∀ (c : NC) (w : World), TreeAt w c t → Calls Try.prog 50 #[c.val] w (SaysIs (letK t.num t.text (t.kids.map Nd.kinds)) w) := by
  intro c w h
  obtain ⟨k, ps, n, txt, kp, kl, kc⟩ := c
  obtain ⟨L, hL⟩ : ∃ L, L = t.kids.map Nd.kinds := ⟨_, rfl⟩
  have HQ : Hid ((letK t.num t.text (t.kids.map Nd.kinds)) = (letK n txt L)) := by
    show _ = _
    rw [hL, ← h.num, ← h.text]
  have hTx : txt.length ≤ maxLen := by have := h.text; dsimp only at this; rw [this]; exact ht.text
  have HLN : Hid (kl = t.kids.length) := h.len
  have HML : Hid (L.length = kl) := by show _ = _; rw [hL, List.length_map, HLN.out]
  have hk6 : kl ≤ 1000000 := by rw [HLN.out]; exact ht.len
  have hkc : kl ≤ kc := h.fits
  have HTL : Hid (t.kids.length ≤ 1000000) := ht.len
  have HK := Lib.hid h.kids
  have HT := Lib.hid h
  have HNUM : Hid (n = t.num) := h.num
  have HTXT : Hid (txt = t.text) := h.text
  have HL := Lib.hid hL
  dsimp only at HK
  clear h hL
  unfold NC.val
  obtain ⟨W1, hW1⟩ : ∃ W1, W1 = w.alloc (.cells #[.int .i64 k, .int .i64 ps, .int .i64 n, .string ⟨txt.toArray⟩, .slice kp kl kc] 24) := ⟨_, rfl⟩
  have HBX : Hid (NBox W1 w.heap.size ⟨k, ps, n, txt, kp, kl, kc⟩) := by rw [hW1]; exact NBox.new w ⟨k, ps, n, txt, kp, kl, kc⟩ 24
  have HB1 : Hid (Below w.heap.size w W1) := by rw [hW1]; exact (Below.refl _ w).alloc (Nat.le_refl _) _
  have hs1 : W1.heap.size = w.heap.size + 1 := by rw [hW1]; simp
  have HS1 := Lib.hid hs1
  have HW1 := Lib.hid hW1
  clear hW1 hs1
  go_enter Try.func50, Try.ntmps50
  go_upto_region 1 with fail
  rw [← HW1.out]
  clear HW1
  by_cases htxt0_0 : txt = []
  case pos =>
    subst htxt0_0
    by_cases hn0_0 : n = 0
    case pos =>
      subst hn0_0
      rcases kl with _ | m
      case zero =>
        have HR : Hid ((letK t.num t.text (t.kids.map Nd.kinds)) = false) := by show _ = _; rw [HQ.out]; simp [letK, bareK, HML.out]
        have hD1 := Below.refl W1.heap.size W1
        have hE1 := HB1.out
        obtain ⟨x0, x1, x2, x3, x4⟩ := HBX.out
        dsimp only at x0 x1 x2 x3 x4
        go_wp2_with fail
        all_goals
          try rw [Exit.noGoto_ret]
          go_ret
          exact ⟨by rw [HR.out]; first | rfl | (refine congrArg (fun b => Ending.returned (Value.bool b)) (?_ : _ = _); simp <;> first | assumption | omega), hE1⟩
      case succ =>
        have e1 : (m : Int) + 1 - 1 = (m : Int) := by omega
        have hmk : (m : Int) < (m : Int) + 1 := by omega
        by_cases hmpos_0 : 0 < m
        case pos =>
          have hmpos_0' : (1 : Int) ≤ (m : Int) := by omega
          cases hc1 : ((L.take m).drop 0).all (fun x => x.bind || x.sig) with
          | true =>
            have hz1 : (L.take m).all (fun x => x.bind || x.sig) = true := by rw [← hc1, List.drop_zero]
            cases hc2 : atK L m (·.exp) with
            | true =>
              obtain ⟨kc_p, g_p, o_p, hp_p, hg_p, ht_p, hc_p⟩ := HK.out.at m (by rw [← HLN.out]; omega)
              subst hp_p
              have HG_p := Lib.hid hg_p
              have HT_p := Lib.hid ht_p
              have HC_p := Lib.hid hc_p
              clear hg_p ht_p hc_p
              have HR : Hid ((letK t.num t.text (t.kids.map Nd.kinds)) = true) := by show _ = _; rw [HQ.out]; simp [letK, bareK, HML.out, hmpos_0, hz1, hc2]
              have hD1 := Below.refl W1.heap.size W1
              have hE1 := HB1.out
              obtain ⟨x0, x1, x2, x3, x4⟩ := HBX.out
              dsimp only at x0 x1 x2 x3 x4
              obtain ⟨p0, p1, p2, p3, p4⟩ := HC_p.out W1 (hE1.block _ HG_p.out)
              have HLP := Lib.hid hc1
              clear hc1
              go_wp2_with fail
              go_loopg [4] (m - 0) (fun g q wr => ∃ j : Nat, j + g = m ∧ 0 ≤ j ∧ q = .int .i64 (j : Int) ∧ Hid (((L.take m).drop j).all (fun x => x.bind || x.sig) = true) ∧ Below W1.heap.size W1 wr)
              case atStart => exact ⟨0, by omega, Nat.le_refl _, (by first | rfl | go_num), HLP.out, hD1⟩
              case round =>
                obtain ⟨j, hjg, haj, rfl, HJ, hDj⟩ := hrel
                clear hD1 hE1
                obtain ⟨W2, rfl⟩ : ∃ x : World, x = wr := ⟨_, rfl⟩
                have hD2 := hDj
                have hE2 := HB1.out.trans (hDj.mono (by rw [HS1.out]; omega))
                clear hDj x0 x1 x2 x3 x4 p0 p1 p2 p3 p4
                cases gk with
                | zero =>
                  have hlt' : ¬ (j : Int) < (m : Int) := by omega
                  clear hjg haj
                  obtain ⟨x0, x1, x2, x3, x4⟩ := HBX.out.same (hD2.block w.heap.size (by rw [HS1.out]; omega))
                  dsimp only at x0 x1 x2 x3 x4
                  obtain ⟨p0, p1, p2, p3, p4⟩ := HC_p.out W2 (hE2.block _ HG_p.out)
                  have HC := (ih _ (Nd.kid_lt (List.getElem_mem _)) (ht.kid (List.getElem_mem _))) kc_p W2 (HT_p.out.later hE2)
                  try dsimp only at HC
                  have hcv : _ = _ := ((atK_map t.kids m (·.exp) (by rw [← HLN.out]; omega)).symm.trans (by rw [HL.out]) : (t.kids[m]'(by rw [← HLN.out]; omega)).kinds.exp = atK L m (·.exp))
                  rw [hcv, hc2] at HC
                  try unfold NC.val at HC
                  go_wp2_with fail
                  refine HC.mono ?_; rintro e W3 ⟨rfl, hC⟩
                  have hD3 := hD2.trans (hC.mono hD2.size)
                  have hE3 := HB1.out.trans (hD3.mono (by rw [HS1.out]; omega))
                  clear HC hC hD2 hE2 x0 x1 x2 x3 x4 hcv p0 p1 p2 p3 p4
                  obtain ⟨x0, x1, x2, x3, x4⟩ := HBX.out.same (hD3.block w.heap.size (by rw [HS1.out]; omega))
                  dsimp only at x0 x1 x2 x3 x4
                  obtain ⟨p0, p1, p2, p3, p4⟩ := HC_p.out W3 (hE3.block _ HG_p.out)
                  go_wp2_with fail
                  all_goals
                    try rw [Exit.noGoto_ret]
                    go_ret
                    exact ⟨by rw [HR.out]; first | rfl | (refine congrArg (fun b => Ending.returned (Value.bool b)) (?_ : _ = _); simp <;> first | assumption | omega), hE3⟩
                | succ g =>
                  have hlt : j < m := by omega
                  have hlt' : (j : Int) < (m : Int) := by omega
                  have hjk : (j : Int) < ((m + 1) : Int) := by omega
                  have hjl : j < (m + 1) := by omega
                  have hj6 : (j : Int) ≤ 1000000 := by omega
                  have hjt : j < t.kids.length := by rw [← HLN.out]; exact hjl
                  obtain ⟨⟨kk, kps, kn, ktx, kkp, kkl, kkc⟩, gr, or, hpr, hgr, htr, hcr⟩ := HK.out.at j hjt
                  obtain ⟨rfl, rfl⟩ : g_p = gr ∧ o_p = or := by injection hpr with h1; injection h1 with h1 h2; exact ⟨h1, h2⟩
                  have HGR := Lib.hid hgr
                  have HTR := Lib.hid htr
                  have HCR := Lib.hid hcr
                  have HKK : Hid (kk = t.kids[j].kind ∧ kn = t.kids[j].num ∧ ktx = t.kids[j].text ∧ kkl = t.kids[j].kids.length) := ⟨htr.kind, htr.num, htr.text, htr.len⟩
                  have HPS : Hid (((L.take m).drop j).all (fun x => x.bind || x.sig) = (((fun x => x.bind || x.sig) t.kids[j].kinds) && ((L.take m).drop (j + 1)).all (fun x => x.bind || x.sig))) := by
                    show _ = _
                    rw [HL.out, List.drop_eq_getElem_cons (by rw [List.length_take, List.length_map]; omega), List.all_cons, List.getElem_take, List.getElem_map]
                  have htK : Nd.Fit t.kids[j] := ht.kid (List.getElem_mem _)
                  have hTxK : ktx.length ≤ maxLen := by rw [HKK.out.2.2.1]; exact htK.text
                  have hkk6 : kkl ≤ 1000000 := by rw [HKK.out.2.2.2]; exact htK.len
                  have HKE : Hid (((fun x => x.bind || x.sig) t.kids[j].kinds) = (t.kids[j].kinds.bind || t.kids[j].kinds.sig)) := by
                    show _ = _
                    rfl
                  clear  hgr htr hcr
                  cases hq0 : t.kids[j].kinds.bind with
                  | true =>
                    have HPv : Hid (((fun x => x.bind || x.sig) t.kids[j].kinds) = true) := by show _ = _; rw [HKE.out]; simp [hq0]
                    have HJ2 : Hid (((L.take m).drop (j + 1)).all (fun x => x.bind || x.sig) = true) := by show _ = _; have h1 := HJ.out; rw [HPS.out, HPv.out, Bool.true_and] at h1; exact h1
                    obtain ⟨x0, x1, x2, x3, x4⟩ := HBX.out.same (hD2.block w.heap.size (by rw [HS1.out]; omega))
                    dsimp only at x0 x1 x2 x3 x4
                    obtain ⟨p0, p1, p2, p3, p4⟩ := HC_p.out W2 (hE2.block _ HG_p.out)
                    obtain ⟨r0, r1, r2, r3, r4⟩ := HCR.out W2 (hE2.block _ HGR.out)
                    try dsimp only at r0 r1 r2 r3 r4
                    skip
                    have HC := rbind_step _ (ht.kid (List.getElem_mem hjt)) (fun k hk => ih k (Nat.lt_trans (Nd.kid_lt hk) (Nd.kid_lt (List.getElem_mem hjt))) ((ht.kid (List.getElem_mem hjt)).kid hk)) _ W2 (HTR.out.later hE2)
                    try dsimp only at HC
                    rw [hq0] at HC
                    try unfold NC.val at HC
                    go_wp2_with fail
                    refine HC.mono ?_; rintro e W4 ⟨rfl, hC⟩
                    have hD4 := hD2.trans (hC.mono hD2.size)
                    have hE4 := HB1.out.trans (hD4.mono (by rw [HS1.out]; omega))
                    clear HC hC hD2 hE2 x0 x1 x2 x3 x4 p0 p1 p2 p3 p4 r0 r1 r2 r3 r4
                    obtain ⟨x0, x1, x2, x3, x4⟩ := HBX.out.same (hD4.block w.heap.size (by rw [HS1.out]; omega))
                    dsimp only at x0 x1 x2 x3 x4
                    obtain ⟨p0, p1, p2, p3, p4⟩ := HC_p.out W4 (hE4.block _ HG_p.out)
                    obtain ⟨r0, r1, r2, r3, r4⟩ := HCR.out W4 (hE4.block _ HGR.out)
                    try dsimp only at r0 r1 r2 r3 r4
                    skip
                    go_wp2_with fail
                    go_roundg g
                    case measure => omega
                    case rel => exact ⟨j + 1, by omega, by omega, (by go_num), HJ2, hD4⟩
                  | false =>
                    cases hq1 : t.kids[j].kinds.sig with
                    | true =>
                      have HPv : Hid (((fun x => x.bind || x.sig) t.kids[j].kinds) = true) := by show _ = _; rw [HKE.out]; simp [hq0, hq1]
                      have HJ2 : Hid (((L.take m).drop (j + 1)).all (fun x => x.bind || x.sig) = true) := by show _ = _; have h1 := HJ.out; rw [HPS.out, HPv.out, Bool.true_and] at h1; exact h1
                      obtain ⟨x0, x1, x2, x3, x4⟩ := HBX.out.same (hD2.block w.heap.size (by rw [HS1.out]; omega))
                      dsimp only at x0 x1 x2 x3 x4
                      obtain ⟨p0, p1, p2, p3, p4⟩ := HC_p.out W2 (hE2.block _ HG_p.out)
                      obtain ⟨r0, r1, r2, r3, r4⟩ := HCR.out W2 (hE2.block _ HGR.out)
                      try dsimp only at r0 r1 r2 r3 r4
                      skip
                      have HC := rbind_step _ (ht.kid (List.getElem_mem hjt)) (fun k hk => ih k (Nat.lt_trans (Nd.kid_lt hk) (Nd.kid_lt (List.getElem_mem hjt))) ((ht.kid (List.getElem_mem hjt)).kid hk)) _ W2 (HTR.out.later hE2)
                      try dsimp only at HC
                      rw [hq0] at HC
                      try unfold NC.val at HC
                      go_wp2_with fail
                      refine HC.mono ?_; rintro e W4 ⟨rfl, hC⟩
                      have hD4 := hD2.trans (hC.mono hD2.size)
                      have hE4 := HB1.out.trans (hD4.mono (by rw [HS1.out]; omega))
                      clear HC hC hD2 hE2 x0 x1 x2 x3 x4 p0 p1 p2 p3 p4 r0 r1 r2 r3 r4
                      obtain ⟨x0, x1, x2, x3, x4⟩ := HBX.out.same (hD4.block w.heap.size (by rw [HS1.out]; omega))
                      dsimp only at x0 x1 x2 x3 x4
                      obtain ⟨p0, p1, p2, p3, p4⟩ := HC_p.out W4 (hE4.block _ HG_p.out)
                      obtain ⟨r0, r1, r2, r3, r4⟩ := HCR.out W4 (hE4.block _ HGR.out)
                      try dsimp only at r0 r1 r2 r3 r4
                      skip
                      have HC := rsig_any _ (ht.kid (List.getElem_mem hjt)) _ W4 (HTR.out.later hE4)
                      try dsimp only at HC
                      rw [hq1] at HC
                      try unfold NC.val at HC
                      go_wp2_with fail
                      refine HC.mono ?_; rintro e W5 ⟨rfl, hC⟩
                      have hD5 := hD4.trans (hC.mono hD4.size)
                      have hE5 := HB1.out.trans (hD5.mono (by rw [HS1.out]; omega))
                      clear HC hC hD4 hE4 x0 x1 x2 x3 x4 p0 p1 p2 p3 p4 r0 r1 r2 r3 r4
                      obtain ⟨x0, x1, x2, x3, x4⟩ := HBX.out.same (hD5.block w.heap.size (by rw [HS1.out]; omega))
                      dsimp only at x0 x1 x2 x3 x4
                      obtain ⟨p0, p1, p2, p3, p4⟩ := HC_p.out W5 (hE5.block _ HG_p.out)
                      obtain ⟨r0, r1, r2, r3, r4⟩ := HCR.out W5 (hE5.block _ HGR.out)
                      try dsimp only at r0 r1 r2 r3 r4
                      skip
                      go_wp2_with fail
                      go_roundg g
                      case measure => omega
                      case rel => exact ⟨j + 1, by omega, by omega, (by go_num), HJ2, hD5⟩
                    | false =>
                      have HPv : Hid (((fun x => x.bind || x.sig) t.kids[j].kinds) = false) := by show _ = _; rw [HKE.out]; simp [hq0, hq1]
                      exact absurd HJ.out (by rw [HPS.out, HPv.out]; simp)
            | false =>
              obtain ⟨kc_p, g_p, o_p, hp_p, hg_p, ht_p, hc_p⟩ := HK.out.at m (by rw [← HLN.out]; omega)
              subst hp_p
              have HG_p := Lib.hid hg_p
              have HT_p := Lib.hid ht_p
              have HC_p := Lib.hid hc_p
              clear hg_p ht_p hc_p
              have HR : Hid ((letK t.num t.text (t.kids.map Nd.kinds)) = false) := by show _ = _; rw [HQ.out]; first | (simp [letK, bareK, HML.out, hmpos_0, hz1, hc2]; done) | (have hla := hc2; simp only [Bool.and_eq_false_iff, decide_eq_false_iff_not] at hla; rcases hla with h | h <;> simp [letK, bareK, HML.out, hmpos_0, hz1, hc2, h])
              have hD1 := Below.refl W1.heap.size W1
              have hE1 := HB1.out
              obtain ⟨x0, x1, x2, x3, x4⟩ := HBX.out
              dsimp only at x0 x1 x2 x3 x4
              obtain ⟨p0, p1, p2, p3, p4⟩ := HC_p.out W1 (hE1.block _ HG_p.out)
              have HLP := Lib.hid hc1
              clear hc1
              go_wp2_with fail
              go_loopg [4] (m - 0) (fun g q wr => ∃ j : Nat, j + g = m ∧ 0 ≤ j ∧ q = .int .i64 (j : Int) ∧ Hid (((L.take m).drop j).all (fun x => x.bind || x.sig) = true) ∧ Below W1.heap.size W1 wr)
              case atStart => exact ⟨0, by omega, Nat.le_refl _, (by first | rfl | go_num), HLP.out, hD1⟩
              case round =>
                obtain ⟨j, hjg, haj, rfl, HJ, hDj⟩ := hrel
                clear hD1 hE1
                obtain ⟨W2, rfl⟩ : ∃ x : World, x = wr := ⟨_, rfl⟩
                have hD2 := hDj
                have hE2 := HB1.out.trans (hDj.mono (by rw [HS1.out]; omega))
                clear hDj x0 x1 x2 x3 x4 p0 p1 p2 p3 p4
                cases gk with
                | zero =>
                  have hlt' : ¬ (j : Int) < (m : Int) := by omega
                  clear hjg haj
                  obtain ⟨x0, x1, x2, x3, x4⟩ := HBX.out.same (hD2.block w.heap.size (by rw [HS1.out]; omega))
                  dsimp only at x0 x1 x2 x3 x4
                  obtain ⟨p0, p1, p2, p3, p4⟩ := HC_p.out W2 (hE2.block _ HG_p.out)
                  have HC := (ih _ (Nd.kid_lt (List.getElem_mem _)) (ht.kid (List.getElem_mem _))) kc_p W2 (HT_p.out.later hE2)
                  try dsimp only at HC
                  have hcv : _ = _ := ((atK_map t.kids m (·.exp) (by rw [← HLN.out]; omega)).symm.trans (by rw [HL.out]) : (t.kids[m]'(by rw [← HLN.out]; omega)).kinds.exp = atK L m (·.exp))
                  rw [hcv, hc2] at HC
                  try unfold NC.val at HC
                  go_wp2_with fail
                  refine HC.mono ?_; rintro e W3 ⟨rfl, hC⟩
                  have hD3 := hD2.trans (hC.mono hD2.size)
                  have hE3 := HB1.out.trans (hD3.mono (by rw [HS1.out]; omega))
                  clear HC hC hD2 hE2 x0 x1 x2 x3 x4 hcv p0 p1 p2 p3 p4
                  obtain ⟨x0, x1, x2, x3, x4⟩ := HBX.out.same (hD3.block w.heap.size (by rw [HS1.out]; omega))
                  dsimp only at x0 x1 x2 x3 x4
                  obtain ⟨p0, p1, p2, p3, p4⟩ := HC_p.out W3 (hE3.block _ HG_p.out)
                  go_wp2_with fail
                  all_goals
                    try rw [Exit.noGoto_ret]
                    go_ret
                    exact ⟨by rw [HR.out]; first | rfl | (refine congrArg (fun b => Ending.returned (Value.bool b)) (?_ : _ = _); simp <;> first | assumption | omega), hE3⟩
                | succ g =>
                  have hlt : j < m := by omega
                  have hlt' : (j : Int) < (m : Int) := by omega
                  have hjk : (j : Int) < ((m + 1) : Int) := by omega
                  have hjl : j < (m + 1) := by omega
                  have hj6 : (j : Int) ≤ 1000000 := by omega
                  have hjt : j < t.kids.length := by rw [← HLN.out]; exact hjl
                  obtain ⟨⟨kk, kps, kn, ktx, kkp, kkl, kkc⟩, gr, or, hpr, hgr, htr, hcr⟩ := HK.out.at j hjt
                  obtain ⟨rfl, rfl⟩ : g_p = gr ∧ o_p = or := by injection hpr with h1; injection h1 with h1 h2; exact ⟨h1, h2⟩
                  have HGR := Lib.hid hgr
                  have HTR := Lib.hid htr
                  have HCR := Lib.hid hcr
                  have HKK : Hid (kk = t.kids[j].kind ∧ kn = t.kids[j].num ∧ ktx = t.kids[j].text ∧ kkl = t.kids[j].kids.length) := ⟨htr.kind, htr.num, htr.text, htr.len⟩
                  have HPS : Hid (((L.take m).drop j).all (fun x => x.bind || x.sig) = (((fun x => x.bind || x.sig) t.kids[j].kinds) && ((L.take m).drop (j + 1)).all (fun x => x.bind || x.sig))) := by
                    show _ = _
                    rw [HL.out, List.drop_eq_getElem_cons (by rw [List.length_take, List.length_map]; omega), List.all_cons, List.getElem_take, List.getElem_map]
                  have htK : Nd.Fit t.kids[j] := ht.kid (List.getElem_mem _)
                  have hTxK : ktx.length ≤ maxLen := by rw [HKK.out.2.2.1]; exact htK.text
                  have hkk6 : kkl ≤ 1000000 := by rw [HKK.out.2.2.2]; exact htK.len
                  have HKE : Hid (((fun x => x.bind || x.sig) t.kids[j].kinds) = (t.kids[j].kinds.bind || t.kids[j].kinds.sig)) := by
                    show _ = _
                    rfl
                  clear  hgr htr hcr
                  cases hq0 : t.kids[j].kinds.bind with
                  | true =>
                    have HPv : Hid (((fun x => x.bind || x.sig) t.kids[j].kinds) = true) := by show _ = _; rw [HKE.out]; simp [hq0]
                    have HJ2 : Hid (((L.take m).drop (j + 1)).all (fun x => x.bind || x.sig) = true) := by show _ = _; have h1 := HJ.out; rw [HPS.out, HPv.out, Bool.true_and] at h1; exact h1
                    obtain ⟨x0, x1, x2, x3, x4⟩ := HBX.out.same (hD2.block w.heap.size (by rw [HS1.out]; omega))
                    dsimp only at x0 x1 x2 x3 x4
                    obtain ⟨p0, p1, p2, p3, p4⟩ := HC_p.out W2 (hE2.block _ HG_p.out)
                    obtain ⟨r0, r1, r2, r3, r4⟩ := HCR.out W2 (hE2.block _ HGR.out)
                    try dsimp only at r0 r1 r2 r3 r4
                    skip
                    have HC := rbind_step _ (ht.kid (List.getElem_mem hjt)) (fun k hk => ih k (Nat.lt_trans (Nd.kid_lt hk) (Nd.kid_lt (List.getElem_mem hjt))) ((ht.kid (List.getElem_mem hjt)).kid hk)) _ W2 (HTR.out.later hE2)
                    try dsimp only at HC
                    rw [hq0] at HC
                    try unfold NC.val at HC
                    go_wp2_with fail
                    refine HC.mono ?_; rintro e W4 ⟨rfl, hC⟩
                    have hD4 := hD2.trans (hC.mono hD2.size)
                    have hE4 := HB1.out.trans (hD4.mono (by rw [HS1.out]; omega))
                    clear HC hC hD2 hE2 x0 x1 x2 x3 x4 p0 p1 p2 p3 p4 r0 r1 r2 r3 r4
                    obtain ⟨x0, x1, x2, x3, x4⟩ := HBX.out.same (hD4.block w.heap.size (by rw [HS1.out]; omega))
                    dsimp only at x0 x1 x2 x3 x4
                    obtain ⟨p0, p1, p2, p3, p4⟩ := HC_p.out W4 (hE4.block _ HG_p.out)
                    obtain ⟨r0, r1, r2, r3, r4⟩ := HCR.out W4 (hE4.block _ HGR.out)
                    try dsimp only at r0 r1 r2 r3 r4
                    skip
                    go_wp2_with fail
                    go_roundg g
                    case measure => omega
                    case rel => exact ⟨j + 1, by omega, by omega, (by go_num), HJ2, hD4⟩
                  | false =>
                    cases hq1 : t.kids[j].kinds.sig with
                    | true =>
                      have HPv : Hid (((fun x => x.bind || x.sig) t.kids[j].kinds) = true) := by show _ = _; rw [HKE.out]; simp [hq0, hq1]
                      have HJ2 : Hid (((L.take m).drop (j + 1)).all (fun x => x.bind || x.sig) = true) := by show _ = _; have h1 := HJ.out; rw [HPS.out, HPv.out, Bool.true_and] at h1; exact h1
                      obtain ⟨x0, x1, x2, x3, x4⟩ := HBX.out.same (hD2.block w.heap.size (by rw [HS1.out]; omega))
                      dsimp only at x0 x1 x2 x3 x4
                      obtain ⟨p0, p1, p2, p3, p4⟩ := HC_p.out W2 (hE2.block _ HG_p.out)
                      obtain ⟨r0, r1, r2, r3, r4⟩ := HCR.out W2 (hE2.block _ HGR.out)
                      try dsimp only at r0 r1 r2 r3 r4
                      skip
                      have HC := rbind_step _ (ht.kid (List.getElem_mem hjt)) (fun k hk => ih k (Nat.lt_trans (Nd.kid_lt hk) (Nd.kid_lt (List.getElem_mem hjt))) ((ht.kid (List.getElem_mem hjt)).kid hk)) _ W2 (HTR.out.later hE2)
                      try dsimp only at HC
                      rw [hq0] at HC
                      try unfold NC.val at HC
                      go_wp2_with fail
                      refine HC.mono ?_; rintro e W4 ⟨rfl, hC⟩
                      have hD4 := hD2.trans (hC.mono hD2.size)
                      have hE4 := HB1.out.trans (hD4.mono (by rw [HS1.out]; omega))
                      clear HC hC hD2 hE2 x0 x1 x2 x3 x4 p0 p1 p2 p3 p4 r0 r1 r2 r3 r4
                      obtain ⟨x0, x1, x2, x3, x4⟩ := HBX.out.same (hD4.block w.heap.size (by rw [HS1.out]; omega))
                      dsimp only at x0 x1 x2 x3 x4
                      obtain ⟨p0, p1, p2, p3, p4⟩ := HC_p.out W4 (hE4.block _ HG_p.out)
                      obtain ⟨r0, r1, r2, r3, r4⟩ := HCR.out W4 (hE4.block _ HGR.out)
                      try dsimp only at r0 r1 r2 r3 r4
                      skip
                      have HC := rsig_any _ (ht.kid (List.getElem_mem hjt)) _ W4 (HTR.out.later hE4)
                      try dsimp only at HC
                      rw [hq1] at HC
                      try unfold NC.val at HC
                      go_wp2_with fail
                      refine HC.mono ?_; rintro e W5 ⟨rfl, hC⟩
                      have hD5 := hD4.trans (hC.mono hD4.size)
                      have hE5 := HB1.out.trans (hD5.mono (by rw [HS1.out]; omega))
                      clear HC hC hD4 hE4 x0 x1 x2 x3 x4 p0 p1 p2 p3 p4 r0 r1 r2 r3 r4
                      obtain ⟨x0, x1, x2, x3, x4⟩ := HBX.out.same (hD5.block w.heap.size (by rw [HS1.out]; omega))
                      dsimp only at x0 x1 x2 x3 x4
                      obtain ⟨p0, p1, p2, p3, p4⟩ := HC_p.out W5 (hE5.block _ HG_p.out)
                      obtain ⟨r0, r1, r2, r3, r4⟩ := HCR.out W5 (hE5.block _ HGR.out)
                      try dsimp only at r0 r1 r2 r3 r4
                      skip
                      go_wp2_with fail
                      go_roundg g
                      case measure => omega
                      case rel => exact ⟨j + 1, by omega, by omega, (by go_num), HJ2, hD5⟩
                    | false =>
                      have HPv : Hid (((fun x => x.bind || x.sig) t.kids[j].kinds) = false) := by show _ = _; rw [HKE.out]; simp [hq0, hq1]
                      exact absurd HJ.out (by rw [HPS.out, HPv.out]; simp)
          | false =>
            have hz1 : (L.take m).all (fun x => x.bind || x.sig) = false := by rw [← hc1, List.drop_zero]
            have HR : Hid ((letK t.num t.text (t.kids.map Nd.kinds)) = false) := by show _ = _; rw [HQ.out]; simp [letK, bareK, HML.out, hmpos_0, hz1]
            have hD1 := Below.refl W1.heap.size W1
            have hE1 := HB1.out
            obtain ⟨x0, x1, x2, x3, x4⟩ := HBX.out
            dsimp only at x0 x1 x2 x3 x4
            have HLP := Lib.hid hc1
            clear hc1
            go_wp2_with fail
            go_loopg [4] (m - 0) (fun g q wr => ∃ j : Nat, j + g = m ∧ 0 ≤ j ∧ q = .int .i64 (j : Int) ∧ Hid (((L.take m).drop j).all (fun x => x.bind || x.sig) = false) ∧ Below W1.heap.size W1 wr)
            case atStart => exact ⟨0, by omega, Nat.le_refl _, (by first | rfl | go_num), HLP.out, hD1⟩
            case round =>
              obtain ⟨j, hjg, haj, rfl, HJ, hDj⟩ := hrel
              clear hD1 hE1
              obtain ⟨W2, rfl⟩ : ∃ x : World, x = wr := ⟨_, rfl⟩
              have hD2 := hDj
              have hE2 := HB1.out.trans (hDj.mono (by rw [HS1.out]; omega))
              clear hDj x0 x1 x2 x3 x4
              cases gk with
              | zero =>
                exfalso
                have h0 := HJ.out
                rw [List.drop_eq_nil_of_le (by rw [List.length_take, HML.out]; omega)] at h0
                simp at h0
              | succ g =>
                have hlt : j < m := by omega
                have hlt' : (j : Int) < (m : Int) := by omega
                have hjk : (j : Int) < ((m + 1) : Int) := by omega
                have hjl : j < (m + 1) := by omega
                have hj6 : (j : Int) ≤ 1000000 := by omega
                have hjt : j < t.kids.length := by rw [← HLN.out]; exact hjl
                obtain ⟨⟨kk, kps, kn, ktx, kkp, kkl, kkc⟩, gr, or, hpr, hgr, htr, hcr⟩ := HK.out.at j hjt
                have HPR := Lib.hid hpr
                have HGR := Lib.hid hgr
                have HTR := Lib.hid htr
                have HCR := Lib.hid hcr
                have HKK : Hid (kk = t.kids[j].kind ∧ kn = t.kids[j].num ∧ ktx = t.kids[j].text ∧ kkl = t.kids[j].kids.length) := ⟨htr.kind, htr.num, htr.text, htr.len⟩
                have HPS : Hid (((L.take m).drop j).all (fun x => x.bind || x.sig) = (((fun x => x.bind || x.sig) t.kids[j].kinds) && ((L.take m).drop (j + 1)).all (fun x => x.bind || x.sig))) := by
                  show _ = _
                  rw [HL.out, List.drop_eq_getElem_cons (by rw [List.length_take, List.length_map]; omega), List.all_cons, List.getElem_take, List.getElem_map]
                have htK : Nd.Fit t.kids[j] := ht.kid (List.getElem_mem _)
                have hTxK : ktx.length ≤ maxLen := by rw [HKK.out.2.2.1]; exact htK.text
                have hkk6 : kkl ≤ 1000000 := by rw [HKK.out.2.2.2]; exact htK.len
                have HKE : Hid (((fun x => x.bind || x.sig) t.kids[j].kinds) = (t.kids[j].kinds.bind || t.kids[j].kinds.sig)) := by
                  show _ = _
                  rfl
                clear hpr hgr htr hcr
                cases hq0 : t.kids[j].kinds.bind with
                | true =>
                  have HPv : Hid (((fun x => x.bind || x.sig) t.kids[j].kinds) = true) := by show _ = _; rw [HKE.out]; simp [hq0]
                  have HJ2 : Hid (((L.take m).drop (j + 1)).all (fun x => x.bind || x.sig) = false) := by show _ = _; have h1 := HJ.out; rw [HPS.out, HPv.out, Bool.true_and] at h1; exact h1
                  obtain ⟨x0, x1, x2, x3, x4⟩ := HBX.out.same (hD2.block w.heap.size (by rw [HS1.out]; omega))
                  dsimp only at x0 x1 x2 x3 x4
                  obtain ⟨r0, r1, r2, r3, r4⟩ := HCR.out W2 (hE2.block _ HGR.out)
                  try dsimp only at r0 r1 r2 r3 r4
                  rw [HPR.out] at x4
                  have HC := rbind_step _ (ht.kid (List.getElem_mem hjt)) (fun k hk => ih k (Nat.lt_trans (Nd.kid_lt hk) (Nd.kid_lt (List.getElem_mem hjt))) ((ht.kid (List.getElem_mem hjt)).kid hk)) _ W2 (HTR.out.later hE2)
                  try dsimp only at HC
                  rw [hq0] at HC
                  try unfold NC.val at HC
                  go_wp2_with fail
                  refine HC.mono ?_; rintro e W3 ⟨rfl, hC⟩
                  have hD3 := hD2.trans (hC.mono hD2.size)
                  have hE3 := HB1.out.trans (hD3.mono (by rw [HS1.out]; omega))
                  clear HC hC hD2 hE2 x0 x1 x2 x3 x4 r0 r1 r2 r3 r4
                  obtain ⟨x0, x1, x2, x3, x4⟩ := HBX.out.same (hD3.block w.heap.size (by rw [HS1.out]; omega))
                  dsimp only at x0 x1 x2 x3 x4
                  obtain ⟨r0, r1, r2, r3, r4⟩ := HCR.out W3 (hE3.block _ HGR.out)
                  try dsimp only at r0 r1 r2 r3 r4
                  rw [HPR.out] at x4
                  go_wp2_with fail
                  go_roundg g
                  case measure => omega
                  case rel => exact ⟨j + 1, by omega, by omega, (by go_num), HJ2, hD3⟩
                | false =>
                  cases hq1 : t.kids[j].kinds.sig with
                  | true =>
                    have HPv : Hid (((fun x => x.bind || x.sig) t.kids[j].kinds) = true) := by show _ = _; rw [HKE.out]; simp [hq0, hq1]
                    have HJ2 : Hid (((L.take m).drop (j + 1)).all (fun x => x.bind || x.sig) = false) := by show _ = _; have h1 := HJ.out; rw [HPS.out, HPv.out, Bool.true_and] at h1; exact h1
                    obtain ⟨x0, x1, x2, x3, x4⟩ := HBX.out.same (hD2.block w.heap.size (by rw [HS1.out]; omega))
                    dsimp only at x0 x1 x2 x3 x4
                    obtain ⟨r0, r1, r2, r3, r4⟩ := HCR.out W2 (hE2.block _ HGR.out)
                    try dsimp only at r0 r1 r2 r3 r4
                    rw [HPR.out] at x4
                    have HC := rbind_step _ (ht.kid (List.getElem_mem hjt)) (fun k hk => ih k (Nat.lt_trans (Nd.kid_lt hk) (Nd.kid_lt (List.getElem_mem hjt))) ((ht.kid (List.getElem_mem hjt)).kid hk)) _ W2 (HTR.out.later hE2)
                    try dsimp only at HC
                    rw [hq0] at HC
                    try unfold NC.val at HC
                    go_wp2_with fail
                    refine HC.mono ?_; rintro e W3 ⟨rfl, hC⟩
                    have hD3 := hD2.trans (hC.mono hD2.size)
                    have hE3 := HB1.out.trans (hD3.mono (by rw [HS1.out]; omega))
                    clear HC hC hD2 hE2 x0 x1 x2 x3 x4 r0 r1 r2 r3 r4
                    obtain ⟨x0, x1, x2, x3, x4⟩ := HBX.out.same (hD3.block w.heap.size (by rw [HS1.out]; omega))
                    dsimp only at x0 x1 x2 x3 x4
                    obtain ⟨r0, r1, r2, r3, r4⟩ := HCR.out W3 (hE3.block _ HGR.out)
                    try dsimp only at r0 r1 r2 r3 r4
                    rw [HPR.out] at x4
                    have HC := rsig_any _ (ht.kid (List.getElem_mem hjt)) _ W3 (HTR.out.later hE3)
                    try dsimp only at HC
                    rw [hq1] at HC
                    try unfold NC.val at HC
                    go_wp2_with fail
                    refine HC.mono ?_; rintro e W4 ⟨rfl, hC⟩
                    have hD4 := hD3.trans (hC.mono hD3.size)
                    have hE4 := HB1.out.trans (hD4.mono (by rw [HS1.out]; omega))
                    clear HC hC hD3 hE3 x0 x1 x2 x3 x4 r0 r1 r2 r3 r4
                    obtain ⟨x0, x1, x2, x3, x4⟩ := HBX.out.same (hD4.block w.heap.size (by rw [HS1.out]; omega))
                    dsimp only at x0 x1 x2 x3 x4
                    obtain ⟨r0, r1, r2, r3, r4⟩ := HCR.out W4 (hE4.block _ HGR.out)
                    try dsimp only at r0 r1 r2 r3 r4
                    rw [HPR.out] at x4
                    go_wp2_with fail
                    go_roundg g
                    case measure => omega
                    case rel => exact ⟨j + 1, by omega, by omega, (by go_num), HJ2, hD4⟩
                  | false =>
                    have HPv : Hid (((fun x => x.bind || x.sig) t.kids[j].kinds) = false) := by show _ = _; rw [HKE.out]; simp [hq0, hq1]
                    obtain ⟨x0, x1, x2, x3, x4⟩ := HBX.out.same (hD2.block w.heap.size (by rw [HS1.out]; omega))
                    dsimp only at x0 x1 x2 x3 x4
                    obtain ⟨r0, r1, r2, r3, r4⟩ := HCR.out W2 (hE2.block _ HGR.out)
                    try dsimp only at r0 r1 r2 r3 r4
                    rw [HPR.out] at x4
                    have HC := rbind_step _ (ht.kid (List.getElem_mem hjt)) (fun k hk => ih k (Nat.lt_trans (Nd.kid_lt hk) (Nd.kid_lt (List.getElem_mem hjt))) ((ht.kid (List.getElem_mem hjt)).kid hk)) _ W2 (HTR.out.later hE2)
                    try dsimp only at HC
                    rw [hq0] at HC
                    try unfold NC.val at HC
                    go_wp2_with fail
                    refine HC.mono ?_; rintro e W3 ⟨rfl, hC⟩
                    have hD3 := hD2.trans (hC.mono hD2.size)
                    have hE3 := HB1.out.trans (hD3.mono (by rw [HS1.out]; omega))
                    clear HC hC hD2 hE2 x0 x1 x2 x3 x4 r0 r1 r2 r3 r4
                    obtain ⟨x0, x1, x2, x3, x4⟩ := HBX.out.same (hD3.block w.heap.size (by rw [HS1.out]; omega))
                    dsimp only at x0 x1 x2 x3 x4
                    obtain ⟨r0, r1, r2, r3, r4⟩ := HCR.out W3 (hE3.block _ HGR.out)
                    try dsimp only at r0 r1 r2 r3 r4
                    rw [HPR.out] at x4
                    have HC := rsig_any _ (ht.kid (List.getElem_mem hjt)) _ W3 (HTR.out.later hE3)
                    try dsimp only at HC
                    rw [hq1] at HC
                    try unfold NC.val at HC
                    go_wp2_with fail
                    refine HC.mono ?_; rintro e W4 ⟨rfl, hC⟩
                    have hD4 := hD3.trans (hC.mono hD3.size)
                    have hE4 := HB1.out.trans (hD4.mono (by rw [HS1.out]; omega))
                    clear HC hC hD3 hE3 x0 x1 x2 x3 x4 r0 r1 r2 r3 r4
                    obtain ⟨x0, x1, x2, x3, x4⟩ := HBX.out.same (hD4.block w.heap.size (by rw [HS1.out]; omega))
                    dsimp only at x0 x1 x2 x3 x4
                    obtain ⟨r0, r1, r2, r3, r4⟩ := HCR.out W4 (hE4.block _ HGR.out)
                    try dsimp only at r0 r1 r2 r3 r4
                    rw [HPR.out] at x4
                    go_wp2_with fail
                    all_goals
                      try rw [Exit.noGoto_ret]
                      go_ret
                      exact ⟨by rw [HR.out]; first | rfl | (refine congrArg (fun b => Ending.returned (Value.bool b)) (?_ : _ = _); simp <;> first | assumption | omega), hE4⟩
        case neg =>
          have hmpos_0' : ¬ (1 : Int) ≤ (m : Int) := by omega
          have HR : Hid ((letK t.num t.text (t.kids.map Nd.kinds)) = false) := by show _ = _; rw [HQ.out]; simp [letK, bareK, HML.out, hmpos_0]
          have hD1 := Below.refl W1.heap.size W1
          have hE1 := HB1.out
          obtain ⟨x0, x1, x2, x3, x4⟩ := HBX.out
          dsimp only at x0 x1 x2 x3 x4
          go_wp2_with fail
          all_goals
            try rw [Exit.noGoto_ret]
            go_ret
            exact ⟨by rw [HR.out]; first | rfl | (refine congrArg (fun b => Ending.returned (Value.bool b)) (?_ : _ = _); simp <;> first | assumption | omega), hE1⟩
    case neg =>
      have HR : Hid ((letK t.num t.text (t.kids.map Nd.kinds)) = false) := by show _ = _; rw [HQ.out]; simp [letK, bareK, HML.out, hn0_0]
      have hD1 := Below.refl W1.heap.size W1
      have hE1 := HB1.out
      obtain ⟨x0, x1, x2, x3, x4⟩ := HBX.out
      dsimp only at x0 x1 x2 x3 x4
      go_wp2_with fail
      all_goals
        try rw [Exit.noGoto_ret]
        go_ret
        exact ⟨by rw [HR.out]; first | rfl | (refine congrArg (fun b => Ending.returned (Value.bool b)) (?_ : _ = _); simp <;> first | assumption | omega), hE1⟩
  case neg =>
    have HR : Hid ((letK t.num t.text (t.kids.map Nd.kinds)) = false) := by show _ = _; rw [HQ.out]; simp [letK, bareK, HML.out, htxt0_0]
    have hD1 := Below.refl W1.heap.size W1
    have hE1 := HB1.out
    obtain ⟨x0, x1, x2, x3, x4⟩ := HBX.out
    dsimp only at x0 x1 x2 x3 x4
    go_wp2_with fail
    all_goals
      try rw [Exit.noGoto_ret]
      go_ret
      exact ⟨by rw [HR.out]; first | rfl | (refine congrArg (fun b => Ending.returned (Value.bool b)) (?_ : _ = _); simp <;> first | assumption | omega), hE1⟩
set_option maxRecDepth 100000 in
set_option maxHeartbeats 4000000 in
theorem rcases_step (t : Nd) (ht : Nd.Fit t) (ih : ∀ k, k.size < t.size → Nd.Fit k → Is 35 (fun t => t.kinds.exp) k) : ∀ (c : NC) (w : World), TreeAt w c t → Calls Try.prog 51 #[c.val] w (SaysIs (casesK t.num t.text (t.kids.map Nd.kinds)) w) := by
  intro c w h
  obtain ⟨k, ps, n, txt, kp, kl, kc⟩ := c
  obtain ⟨L, hL⟩ : ∃ L, L = t.kids.map Nd.kinds := ⟨_, rfl⟩
  have HQ : Hid ((casesK t.num t.text (t.kids.map Nd.kinds)) = (casesK n txt L)) := by
    show _ = _
    rw [hL, ← h.num, ← h.text]
  have hTx : txt.length ≤ maxLen := by have := h.text; dsimp only at this; rw [this]; exact ht.text
  have HLN : Hid (kl = t.kids.length) := h.len
  have HML : Hid (L.length = kl) := by show _ = _; rw [hL, List.length_map, HLN.out]
  have hk6 : kl ≤ 1000000 := by rw [HLN.out]; exact ht.len
  have hkc : kl ≤ kc := h.fits
  have HTL : Hid (t.kids.length ≤ 1000000) := ht.len
  have HK := Lib.hid h.kids
  have HT := Lib.hid h
  have HNUM : Hid (n = t.num) := h.num
  have HTXT : Hid (txt = t.text) := h.text
  have HL := Lib.hid hL
  dsimp only at HK
  clear h hL
  unfold NC.val
  obtain ⟨W1, hW1⟩ : ∃ W1, W1 = w.alloc (.cells #[.int .i64 k, .int .i64 ps, .int .i64 n, .string ⟨txt.toArray⟩, .slice kp kl kc] 24) := ⟨_, rfl⟩
  have HBX : Hid (NBox W1 w.heap.size ⟨k, ps, n, txt, kp, kl, kc⟩) := by rw [hW1]; exact NBox.new w ⟨k, ps, n, txt, kp, kl, kc⟩ 24
  have HB1 : Hid (Below w.heap.size w W1) := by rw [hW1]; exact (Below.refl _ w).alloc (Nat.le_refl _) _
  have hs1 : W1.heap.size = w.heap.size + 1 := by rw [hW1]; simp
  have HS1 := Lib.hid hs1
  have HW1 := Lib.hid hW1
  clear hW1 hs1
  go_enter Try.func51, Try.ntmps51
  go_upto_region 1 with fail
  rw [← HW1.out]
  clear HW1
  by_cases htxt0_0 : txt = []
  case pos =>
    subst htxt0_0
    by_cases hn0_0 : n = 0
    case pos =>
      subst hn0_0
      by_cases hlenge2_0 : 2 ≤ kl
      case pos =>
        have hlenge2_0' : (2 : Int) ≤ (kl : Int) := by omega
        have h0l : (0 : Int) < (kl : Int) := by omega
        cases hc1 : atK L 0 (·.exp) with
        | true =>
          obtain ⟨kc_p, g_p, o_p, hp_p, hg_p, ht_p, hc_p⟩ := HK.out.at 0 (by rw [← HLN.out]; omega)
          subst hp_p
          have HG_p := Lib.hid hg_p
          have HT_p := Lib.hid ht_p
          have HC_p := Lib.hid hc_p
          clear hg_p ht_p hc_p
          cases hc2 : ((L.take kl).drop 1).all (·.alt) with
          | true =>
            have hz2 : (L.drop 1).all (·.alt) = true := by rw [← hc2, List.take_of_length_le (by rw [HML.out]; exact Nat.le_refl _)]
            have HR : Hid ((casesK t.num t.text (t.kids.map Nd.kinds)) = true) := by show _ = _; rw [HQ.out]; simp [casesK, bareK, -List.drop_one, HML.out, hlenge2_0, hc1, hz2]
            have hD1 := Below.refl W1.heap.size W1
            have hE1 := HB1.out
            obtain ⟨x0, x1, x2, x3, x4⟩ := HBX.out
            dsimp only at x0 x1 x2 x3 x4
            obtain ⟨p0, p1, p2, p3, p4⟩ := HC_p.out W1 (hE1.block _ HG_p.out)
            simp only [Nat.zero_mul, Nat.add_zero] at p0 p1 p2 p3 p4
            have HC := (ih _ (Nd.kid_lt (List.getElem_mem _)) (ht.kid (List.getElem_mem _))) kc_p W1 (HT_p.out.later hE1)
            try dsimp only at HC
            have hcv : _ = _ := ((atK_map t.kids 0 (·.exp) (by rw [← HLN.out]; omega)).symm.trans (by rw [HL.out]) : (t.kids[0]'(by rw [← HLN.out]; omega)).kinds.exp = atK L 0 (·.exp))
            rw [hcv, hc1] at HC
            try unfold NC.val at HC
            go_wp2_with fail
            refine HC.mono ?_; rintro e W2 ⟨rfl, hC⟩
            have hD2 := hD1.trans (hC.mono hD1.size)
            have hE2 := HB1.out.trans (hD2.mono (by rw [HS1.out]; omega))
            clear HC hC hD1 hE1 x0 x1 x2 x3 x4 hcv p0 p1 p2 p3 p4
            obtain ⟨x0, x1, x2, x3, x4⟩ := HBX.out.same (hD2.block w.heap.size (by rw [HS1.out]; omega))
            dsimp only at x0 x1 x2 x3 x4
            obtain ⟨p0, p1, p2, p3, p4⟩ := HC_p.out W2 (hE2.block _ HG_p.out)
            simp only [Nat.zero_mul, Nat.add_zero] at p0 p1 p2 p3 p4
            have HLP := Lib.hid hc2
            clear hc2
            go_wp2_with fail
            go_loopg [3] (kl - 1) (fun g q wr => ∃ j : Nat, j + g = kl ∧ 1 ≤ j ∧ q = .int .i64 (j : Int) ∧ Hid (((L.take kl).drop j).all (·.alt) = true) ∧ Below W1.heap.size W1 wr)
            case atStart => exact ⟨1, by omega, Nat.le_refl _, (by first | rfl | go_num), HLP.out, hD2⟩
            case round =>
              obtain ⟨j, hjg, haj, rfl, HJ, hDj⟩ := hrel
              clear hD2 hE2
              obtain ⟨W3, rfl⟩ : ∃ x : World, x = wr := ⟨_, rfl⟩
              have hD3 := hDj
              have hE3 := HB1.out.trans (hDj.mono (by rw [HS1.out]; omega))
              clear hDj x0 x1 x2 x3 x4 p0 p1 p2 p3 p4
              cases gk with
              | zero =>
                have hlt' : ¬ (j : Int) < (kl : Int) := by omega
                clear hjg haj
                obtain ⟨x0, x1, x2, x3, x4⟩ := HBX.out.same (hD3.block w.heap.size (by rw [HS1.out]; omega))
                dsimp only at x0 x1 x2 x3 x4
                obtain ⟨p0, p1, p2, p3, p4⟩ := HC_p.out W3 (hE3.block _ HG_p.out)
                simp only [Nat.zero_mul, Nat.add_zero] at p0 p1 p2 p3 p4
                go_wp2_with fail
                all_goals
                  try rw [Exit.noGoto_ret]
                  go_ret
                  exact ⟨by rw [HR.out]; first | rfl | (refine congrArg (fun b => Ending.returned (Value.bool b)) (?_ : _ = _); simp <;> first | assumption | omega), hE3⟩
              | succ g =>
                have hlt : j < kl := by omega
                have hlt' : (j : Int) < (kl : Int) := by omega
                have hjk : (j : Int) < (kl : Int) := by omega
                have hjl : j < kl := by omega
                have hj6 : (j : Int) ≤ 1000000 := by omega
                have hjt : j < t.kids.length := by rw [← HLN.out]; exact hjl
                obtain ⟨⟨kk, kps, kn, ktx, kkp, kkl, kkc⟩, gr, or, hpr, hgr, htr, hcr⟩ := HK.out.at j hjt
                obtain ⟨rfl, rfl⟩ : g_p = gr ∧ o_p = or := by injection hpr with h1; injection h1 with h1 h2; exact ⟨h1, h2⟩
                have HGR := Lib.hid hgr
                have HTR := Lib.hid htr
                have HCR := Lib.hid hcr
                have HKK : Hid (kk = t.kids[j].kind ∧ kn = t.kids[j].num ∧ ktx = t.kids[j].text ∧ kkl = t.kids[j].kids.length) := ⟨htr.kind, htr.num, htr.text, htr.len⟩
                have HPS : Hid (((L.take kl).drop j).all (·.alt) = (((·.alt) t.kids[j].kinds) && ((L.take kl).drop (j + 1)).all (·.alt))) := by
                  show _ = _
                  rw [HL.out, List.drop_eq_getElem_cons (by rw [List.length_take, List.length_map]; omega), List.all_cons, List.getElem_take, List.getElem_map]
                have htK : Nd.Fit t.kids[j] := ht.kid (List.getElem_mem _)
                have hTxK : ktx.length ≤ maxLen := by rw [HKK.out.2.2.1]; exact htK.text
                have hkk6 : kkl ≤ 1000000 := by rw [HKK.out.2.2.2]; exact htK.len
                have HKE : Hid (((·.alt) t.kids[j].kinds) = (t.kids[j].kinds.alt)) := by
                  show _ = _
                  rfl
                clear  hgr htr hcr
                cases hq0 : t.kids[j].kinds.alt with
                | true =>
                  have HPv : Hid (((·.alt) t.kids[j].kinds) = true) := by show _ = _; rw [HKE.out]; simp [hq0]
                  have HJ2 : Hid (((L.take kl).drop (j + 1)).all (·.alt) = true) := by show _ = _; have h1 := HJ.out; rw [HPS.out, HPv.out, Bool.true_and] at h1; exact h1
                  obtain ⟨x0, x1, x2, x3, x4⟩ := HBX.out.same (hD3.block w.heap.size (by rw [HS1.out]; omega))
                  dsimp only at x0 x1 x2 x3 x4
                  obtain ⟨p0, p1, p2, p3, p4⟩ := HC_p.out W3 (hE3.block _ HG_p.out)
                  simp only [Nat.zero_mul, Nat.add_zero] at p0 p1 p2 p3 p4
                  obtain ⟨r0, r1, r2, r3, r4⟩ := HCR.out W3 (hE3.block _ HGR.out)
                  try dsimp only at r0 r1 r2 r3 r4
                  skip
                  have HC := ralt_step _ (ht.kid (List.getElem_mem hjt)) (fun k hk => ih k (Nat.lt_trans (Nd.kid_lt hk) (Nd.kid_lt (List.getElem_mem hjt))) ((ht.kid (List.getElem_mem hjt)).kid hk)) _ W3 (HTR.out.later hE3)
                  try dsimp only at HC
                  rw [hq0] at HC
                  try unfold NC.val at HC
                  go_wp2_with fail
                  refine HC.mono ?_; rintro e W4 ⟨rfl, hC⟩
                  have hD4 := hD3.trans (hC.mono hD3.size)
                  have hE4 := HB1.out.trans (hD4.mono (by rw [HS1.out]; omega))
                  clear HC hC hD3 hE3 x0 x1 x2 x3 x4 p0 p1 p2 p3 p4 r0 r1 r2 r3 r4
                  obtain ⟨x0, x1, x2, x3, x4⟩ := HBX.out.same (hD4.block w.heap.size (by rw [HS1.out]; omega))
                  dsimp only at x0 x1 x2 x3 x4
                  obtain ⟨p0, p1, p2, p3, p4⟩ := HC_p.out W4 (hE4.block _ HG_p.out)
                  simp only [Nat.zero_mul, Nat.add_zero] at p0 p1 p2 p3 p4
                  obtain ⟨r0, r1, r2, r3, r4⟩ := HCR.out W4 (hE4.block _ HGR.out)
                  try dsimp only at r0 r1 r2 r3 r4
                  skip
                  go_wp2_with fail
                  go_roundg g
                  case measure => omega
                  case rel => exact ⟨j + 1, by omega, by omega, (by go_num), HJ2, hD4⟩
                | false =>
                  have HPv : Hid (((·.alt) t.kids[j].kinds) = false) := by show _ = _; rw [HKE.out]; simp [hq0]
                  exact absurd HJ.out (by rw [HPS.out, HPv.out]; simp)
          | false =>
            have hz2 : (L.drop 1).all (·.alt) = false := by rw [← hc2, List.take_of_length_le (by rw [HML.out]; exact Nat.le_refl _)]
            have HR : Hid ((casesK t.num t.text (t.kids.map Nd.kinds)) = false) := by show _ = _; rw [HQ.out]; simp [casesK, bareK, -List.drop_one, HML.out, hlenge2_0, hc1, hz2]
            have hD1 := Below.refl W1.heap.size W1
            have hE1 := HB1.out
            obtain ⟨x0, x1, x2, x3, x4⟩ := HBX.out
            dsimp only at x0 x1 x2 x3 x4
            obtain ⟨p0, p1, p2, p3, p4⟩ := HC_p.out W1 (hE1.block _ HG_p.out)
            simp only [Nat.zero_mul, Nat.add_zero] at p0 p1 p2 p3 p4
            have HC := (ih _ (Nd.kid_lt (List.getElem_mem _)) (ht.kid (List.getElem_mem _))) kc_p W1 (HT_p.out.later hE1)
            try dsimp only at HC
            have hcv : _ = _ := ((atK_map t.kids 0 (·.exp) (by rw [← HLN.out]; omega)).symm.trans (by rw [HL.out]) : (t.kids[0]'(by rw [← HLN.out]; omega)).kinds.exp = atK L 0 (·.exp))
            rw [hcv, hc1] at HC
            try unfold NC.val at HC
            go_wp2_with fail
            refine HC.mono ?_; rintro e W2 ⟨rfl, hC⟩
            have hD2 := hD1.trans (hC.mono hD1.size)
            have hE2 := HB1.out.trans (hD2.mono (by rw [HS1.out]; omega))
            clear HC hC hD1 hE1 x0 x1 x2 x3 x4 hcv p0 p1 p2 p3 p4
            obtain ⟨x0, x1, x2, x3, x4⟩ := HBX.out.same (hD2.block w.heap.size (by rw [HS1.out]; omega))
            dsimp only at x0 x1 x2 x3 x4
            obtain ⟨p0, p1, p2, p3, p4⟩ := HC_p.out W2 (hE2.block _ HG_p.out)
            simp only [Nat.zero_mul, Nat.add_zero] at p0 p1 p2 p3 p4
            have HLP := Lib.hid hc2
            clear hc2
            go_wp2_with fail
            go_loopg [3] (kl - 1) (fun g q wr => ∃ j : Nat, j + g = kl ∧ 1 ≤ j ∧ q = .int .i64 (j : Int) ∧ Hid (((L.take kl).drop j).all (·.alt) = false) ∧ Below W1.heap.size W1 wr)
            case atStart => exact ⟨1, by omega, Nat.le_refl _, (by first | rfl | go_num), HLP.out, hD2⟩
            case round =>
              obtain ⟨j, hjg, haj, rfl, HJ, hDj⟩ := hrel
              clear hD2 hE2
              obtain ⟨W3, rfl⟩ : ∃ x : World, x = wr := ⟨_, rfl⟩
              have hD3 := hDj
              have hE3 := HB1.out.trans (hDj.mono (by rw [HS1.out]; omega))
              clear hDj x0 x1 x2 x3 x4 p0 p1 p2 p3 p4
              cases gk with
              | zero =>
                exfalso
                have h0 := HJ.out
                rw [List.drop_eq_nil_of_le (by rw [List.length_take, HML.out]; omega)] at h0
                simp at h0
              | succ g =>
                have hlt : j < kl := by omega
                have hlt' : (j : Int) < (kl : Int) := by omega
                have hjk : (j : Int) < (kl : Int) := by omega
                have hjl : j < kl := by omega
                have hj6 : (j : Int) ≤ 1000000 := by omega
                have hjt : j < t.kids.length := by rw [← HLN.out]; exact hjl
                obtain ⟨⟨kk, kps, kn, ktx, kkp, kkl, kkc⟩, gr, or, hpr, hgr, htr, hcr⟩ := HK.out.at j hjt
                obtain ⟨rfl, rfl⟩ : g_p = gr ∧ o_p = or := by injection hpr with h1; injection h1 with h1 h2; exact ⟨h1, h2⟩
                have HGR := Lib.hid hgr
                have HTR := Lib.hid htr
                have HCR := Lib.hid hcr
                have HKK : Hid (kk = t.kids[j].kind ∧ kn = t.kids[j].num ∧ ktx = t.kids[j].text ∧ kkl = t.kids[j].kids.length) := ⟨htr.kind, htr.num, htr.text, htr.len⟩
                have HPS : Hid (((L.take kl).drop j).all (·.alt) = (((·.alt) t.kids[j].kinds) && ((L.take kl).drop (j + 1)).all (·.alt))) := by
                  show _ = _
                  rw [HL.out, List.drop_eq_getElem_cons (by rw [List.length_take, List.length_map]; omega), List.all_cons, List.getElem_take, List.getElem_map]
                have htK : Nd.Fit t.kids[j] := ht.kid (List.getElem_mem _)
                have hTxK : ktx.length ≤ maxLen := by rw [HKK.out.2.2.1]; exact htK.text
                have hkk6 : kkl ≤ 1000000 := by rw [HKK.out.2.2.2]; exact htK.len
                have HKE : Hid (((·.alt) t.kids[j].kinds) = (t.kids[j].kinds.alt)) := by
                  show _ = _
                  rfl
                clear  hgr htr hcr
                cases hq0 : t.kids[j].kinds.alt with
                | true =>
                  have HPv : Hid (((·.alt) t.kids[j].kinds) = true) := by show _ = _; rw [HKE.out]; simp [hq0]
                  have HJ2 : Hid (((L.take kl).drop (j + 1)).all (·.alt) = false) := by show _ = _; have h1 := HJ.out; rw [HPS.out, HPv.out, Bool.true_and] at h1; exact h1
                  obtain ⟨x0, x1, x2, x3, x4⟩ := HBX.out.same (hD3.block w.heap.size (by rw [HS1.out]; omega))
                  dsimp only at x0 x1 x2 x3 x4
                  obtain ⟨p0, p1, p2, p3, p4⟩ := HC_p.out W3 (hE3.block _ HG_p.out)
                  simp only [Nat.zero_mul, Nat.add_zero] at p0 p1 p2 p3 p4
                  obtain ⟨r0, r1, r2, r3, r4⟩ := HCR.out W3 (hE3.block _ HGR.out)
                  try dsimp only at r0 r1 r2 r3 r4
                  skip
                  have HC := ralt_step _ (ht.kid (List.getElem_mem hjt)) (fun k hk => ih k (Nat.lt_trans (Nd.kid_lt hk) (Nd.kid_lt (List.getElem_mem hjt))) ((ht.kid (List.getElem_mem hjt)).kid hk)) _ W3 (HTR.out.later hE3)
                  try dsimp only at HC
                  rw [hq0] at HC
                  try unfold NC.val at HC
                  go_wp2_with fail
                  refine HC.mono ?_; rintro e W4 ⟨rfl, hC⟩
                  have hD4 := hD3.trans (hC.mono hD3.size)
                  have hE4 := HB1.out.trans (hD4.mono (by rw [HS1.out]; omega))
                  clear HC hC hD3 hE3 x0 x1 x2 x3 x4 p0 p1 p2 p3 p4 r0 r1 r2 r3 r4
                  obtain ⟨x0, x1, x2, x3, x4⟩ := HBX.out.same (hD4.block w.heap.size (by rw [HS1.out]; omega))
                  dsimp only at x0 x1 x2 x3 x4
                  obtain ⟨p0, p1, p2, p3, p4⟩ := HC_p.out W4 (hE4.block _ HG_p.out)
                  simp only [Nat.zero_mul, Nat.add_zero] at p0 p1 p2 p3 p4
                  obtain ⟨r0, r1, r2, r3, r4⟩ := HCR.out W4 (hE4.block _ HGR.out)
                  try dsimp only at r0 r1 r2 r3 r4
                  skip
                  go_wp2_with fail
                  go_roundg g
                  case measure => omega
                  case rel => exact ⟨j + 1, by omega, by omega, (by go_num), HJ2, hD4⟩
                | false =>
                  have HPv : Hid (((·.alt) t.kids[j].kinds) = false) := by show _ = _; rw [HKE.out]; simp [hq0]
                  obtain ⟨x0, x1, x2, x3, x4⟩ := HBX.out.same (hD3.block w.heap.size (by rw [HS1.out]; omega))
                  dsimp only at x0 x1 x2 x3 x4
                  obtain ⟨p0, p1, p2, p3, p4⟩ := HC_p.out W3 (hE3.block _ HG_p.out)
                  simp only [Nat.zero_mul, Nat.add_zero] at p0 p1 p2 p3 p4
                  obtain ⟨r0, r1, r2, r3, r4⟩ := HCR.out W3 (hE3.block _ HGR.out)
                  try dsimp only at r0 r1 r2 r3 r4
                  skip
                  have HC := ralt_step _ (ht.kid (List.getElem_mem hjt)) (fun k hk => ih k (Nat.lt_trans (Nd.kid_lt hk) (Nd.kid_lt (List.getElem_mem hjt))) ((ht.kid (List.getElem_mem hjt)).kid hk)) _ W3 (HTR.out.later hE3)
                  try dsimp only at HC
                  rw [hq0] at HC
                  try unfold NC.val at HC
                  go_wp2_with fail
                  refine HC.mono ?_; rintro e W4 ⟨rfl, hC⟩
                  have hD4 := hD3.trans (hC.mono hD3.size)
                  have hE4 := HB1.out.trans (hD4.mono (by rw [HS1.out]; omega))
                  clear HC hC hD3 hE3 x0 x1 x2 x3 x4 p0 p1 p2 p3 p4 r0 r1 r2 r3 r4
                  obtain ⟨x0, x1, x2, x3, x4⟩ := HBX.out.same (hD4.block w.heap.size (by rw [HS1.out]; omega))
                  dsimp only at x0 x1 x2 x3 x4
                  obtain ⟨p0, p1, p2, p3, p4⟩ := HC_p.out W4 (hE4.block _ HG_p.out)
                  simp only [Nat.zero_mul, Nat.add_zero] at p0 p1 p2 p3 p4
                  obtain ⟨r0, r1, r2, r3, r4⟩ := HCR.out W4 (hE4.block _ HGR.out)
                  try dsimp only at r0 r1 r2 r3 r4
                  skip
                  go_wp2_with fail
                  all_goals
                    try rw [Exit.noGoto_ret]
                    go_ret
                    exact ⟨by rw [HR.out]; first | rfl | (refine congrArg (fun b => Ending.returned (Value.bool b)) (?_ : _ = _); simp <;> first | assumption | omega), hE4⟩
        | false =>
          obtain ⟨kc_p, g_p, o_p, hp_p, hg_p, ht_p, hc_p⟩ := HK.out.at 0 (by rw [← HLN.out]; omega)
          subst hp_p
          have HG_p := Lib.hid hg_p
          have HT_p := Lib.hid ht_p
          have HC_p := Lib.hid hc_p
          clear hg_p ht_p hc_p
          have HR : Hid ((casesK t.num t.text (t.kids.map Nd.kinds)) = false) := by show _ = _; rw [HQ.out]; first | (simp [casesK, bareK, -List.drop_one, HML.out, hlenge2_0, hc1]; done) | (have hla := hc1; simp only [Bool.and_eq_false_iff, decide_eq_false_iff_not] at hla; rcases hla with h | h <;> simp [casesK, bareK, -List.drop_one, HML.out, hlenge2_0, hc1, h])
          have hD1 := Below.refl W1.heap.size W1
          have hE1 := HB1.out
          obtain ⟨x0, x1, x2, x3, x4⟩ := HBX.out
          dsimp only at x0 x1 x2 x3 x4
          obtain ⟨p0, p1, p2, p3, p4⟩ := HC_p.out W1 (hE1.block _ HG_p.out)
          simp only [Nat.zero_mul, Nat.add_zero] at p0 p1 p2 p3 p4
          have HC := (ih _ (Nd.kid_lt (List.getElem_mem _)) (ht.kid (List.getElem_mem _))) kc_p W1 (HT_p.out.later hE1)
          try dsimp only at HC
          have hcv : _ = _ := ((atK_map t.kids 0 (·.exp) (by rw [← HLN.out]; omega)).symm.trans (by rw [HL.out]) : (t.kids[0]'(by rw [← HLN.out]; omega)).kinds.exp = atK L 0 (·.exp))
          rw [hcv, hc1] at HC
          try unfold NC.val at HC
          go_wp2_with fail
          refine HC.mono ?_; rintro e W2 ⟨rfl, hC⟩
          have hD2 := hD1.trans (hC.mono hD1.size)
          have hE2 := HB1.out.trans (hD2.mono (by rw [HS1.out]; omega))
          clear HC hC hD1 hE1 x0 x1 x2 x3 x4 hcv p0 p1 p2 p3 p4
          obtain ⟨x0, x1, x2, x3, x4⟩ := HBX.out.same (hD2.block w.heap.size (by rw [HS1.out]; omega))
          dsimp only at x0 x1 x2 x3 x4
          obtain ⟨p0, p1, p2, p3, p4⟩ := HC_p.out W2 (hE2.block _ HG_p.out)
          simp only [Nat.zero_mul, Nat.add_zero] at p0 p1 p2 p3 p4
          go_wp2_with fail
          all_goals
            try rw [Exit.noGoto_ret]
            go_ret
            exact ⟨by rw [HR.out]; first | rfl | (refine congrArg (fun b => Ending.returned (Value.bool b)) (?_ : _ = _); simp <;> first | assumption | omega), hE2⟩
      case neg =>
        have hlenge2_0' : ¬ (2 : Int) ≤ (kl : Int) := by omega
        have HR : Hid ((casesK t.num t.text (t.kids.map Nd.kinds)) = false) := by show _ = _; rw [HQ.out]; simp [casesK, bareK, -List.drop_one, HML.out, hlenge2_0]
        have hD1 := Below.refl W1.heap.size W1
        have hE1 := HB1.out
        obtain ⟨x0, x1, x2, x3, x4⟩ := HBX.out
        dsimp only at x0 x1 x2 x3 x4
        go_wp2_with fail
        all_goals
          try rw [Exit.noGoto_ret]
          go_ret
          exact ⟨by rw [HR.out]; first | rfl | (refine congrArg (fun b => Ending.returned (Value.bool b)) (?_ : _ = _); simp <;> first | assumption | omega), hE1⟩
    case neg =>
      have HR : Hid ((casesK t.num t.text (t.kids.map Nd.kinds)) = false) := by show _ = _; rw [HQ.out]; simp [casesK, bareK, -List.drop_one, HML.out, hn0_0]
      have hD1 := Below.refl W1.heap.size W1
      have hE1 := HB1.out
      obtain ⟨x0, x1, x2, x3, x4⟩ := HBX.out
      dsimp only at x0 x1 x2 x3 x4
      go_wp2_with fail
      all_goals
        try rw [Exit.noGoto_ret]
        go_ret
        exact ⟨by rw [HR.out]; first | rfl | (refine congrArg (fun b => Ending.returned (Value.bool b)) (?_ : _ = _); simp <;> first | assumption | omega), hE1⟩
  case neg =>
    have HR : Hid ((casesK t.num t.text (t.kids.map Nd.kinds)) = false) := by show _ = _; rw [HQ.out]; simp [casesK, bareK, -List.drop_one, HML.out, htxt0_0]
    have hD1 := Below.refl W1.heap.size W1
    have hE1 := HB1.out
    obtain ⟨x0, x1, x2, x3, x4⟩ := HBX.out
    dsimp only at x0 x1 x2 x3 x4
    go_wp2_with fail
    all_goals
      try rw [Exit.noGoto_ret]
      go_ret
      exact ⟨by rw [HR.out]; first | rfl | (refine congrArg (fun b => Ending.returned (Value.bool b)) (?_ : _ = _); simp <;> first | assumption | omega), hE1⟩
set_option maxRecDepth 100000 in
set_option maxHeartbeats 4000000 in
theorem risexp_step (t : Nd) (ht : Nd.Fit t) (ih : ∀ k, k.size < t.size → Nd.Fit k → Is 35 (fun t => t.kinds.exp) k) : Is 35 (fun t => t.kinds.exp) t := by
  intro c w h
  obtain ⟨k, ps, n, txt, kp, kl, kc⟩ := c
  obtain ⟨L, hL⟩ : ∃ L, L = t.kids.map Nd.kinds := ⟨_, rfl⟩
  have HQ : Hid (t.kinds.exp = (if k = 21 then varK 0 n txt L else if k = 22 then decide (n = 0) && (conB txt && decide (L.length = 0)) else if k = 23 then decide (0 ≤ n) && (decide (txt = []) && decide (L.length = 0))
    else if k = 24 then expsK 2 n txt L else if k = 25 then varK 1 n txt L && atK L 0 (·.exp) else if k = 26 then letK n txt L else if k = 27 then casesK n txt L else if k = 28 then expsK 3 n txt L else false)) := by
    show _ = _
    try rw [hL]
    rw [Nd.kinds_eq, ← h.kind, ← h.num, ← h.text]; rfl
  have hTx : txt.length ≤ maxLen := by have := h.text; dsimp only at this; rw [this]; exact ht.text
  have HLN : Hid (kl = t.kids.length) := h.len
  have HML : Hid (L.length = kl) := by show _ = _; rw [hL, List.length_map, HLN.out]
  have hk6 : kl ≤ 1000000 := by rw [HLN.out]; exact ht.len
  have hkc : kl ≤ kc := h.fits
  have HTL : Hid (t.kids.length ≤ 1000000) := ht.len
  have HK := Lib.hid h.kids
  have HT := Lib.hid h
  have HNUM : Hid (n = t.num) := h.num
  have HTXT : Hid (txt = t.text) := h.text
  have HL := Lib.hid hL
  dsimp only at HK
  clear h hL
  unfold NC.val
  obtain ⟨W1, hW1⟩ : ∃ W1, W1 = w.alloc (.cells #[.int .i64 k, .int .i64 ps, .int .i64 n, .string ⟨txt.toArray⟩, .slice kp kl kc] 24) := ⟨_, rfl⟩
  have HBX : Hid (NBox W1 w.heap.size ⟨k, ps, n, txt, kp, kl, kc⟩) := by rw [hW1]; exact NBox.new w ⟨k, ps, n, txt, kp, kl, kc⟩ 24
  have HB1 : Hid (Below w.heap.size w W1) := by rw [hW1]; exact (Below.refl _ w).alloc (Nat.le_refl _) _
  have hs1 : W1.heap.size = w.heap.size + 1 := by rw [hW1]; simp
  have HS1 := Lib.hid hs1
  have HW1 := Lib.hid hW1
  clear hW1 hs1
  go_enter Try.func35, Try.ntmps35
  go_upto_region 1 with fail
  rw [← HW1.out]
  clear HW1
  by_cases hk21_0 : k = 21
  case pos =>
    subst hk21_0
    cases hc0 : varB txt with
    | true =>
      cases hc1 : decide (n = 0) && decide (kl = 0) with
      | true =>
        have HR : Hid (t.kinds.exp = true) := by show _ = _; rw [HQ.out]; simp [varK, HML.out, hc0, hc1]
        have hD1 := Below.refl W1.heap.size W1
        have hE1 := HB1.out
        obtain ⟨x0, x1, x2, x3, x4⟩ := HBX.out
        dsimp only at x0 x1 x2 x3 x4
        have HC := refvar_text txt W1 hTx
        try dsimp only at HC
        rw [hc0] at HC
        try unfold NC.val at HC
        go_wp2_with fail
        refine HC.mono ?_; rintro e W2 ⟨rfl, hC⟩
        have hD2 := hD1.trans (hC.mono hD1.size)
        have hE2 := HB1.out.trans (hD2.mono (by rw [HS1.out]; omega))
        clear HC hC hD1 hE1 x0 x1 x2 x3 x4
        obtain ⟨x0, x1, x2, x3, x4⟩ := HBX.out.same (hD2.block w.heap.size (by rw [HS1.out]; omega))
        dsimp only at x0 x1 x2 x3 x4
        have HC := plain_any ⟨21, ps, n, txt, kp, kl, kc⟩ W2 0 (by omega) hk6
        try dsimp only at HC
        rw [hc1] at HC
        try unfold NC.val at HC
        go_wp2_with fail
        refine HC.mono ?_; rintro e W3 ⟨rfl, hC⟩
        have hD3 := hD2.trans (hC.mono hD2.size)
        have hE3 := HB1.out.trans (hD3.mono (by rw [HS1.out]; omega))
        clear HC hC hD2 hE2 x0 x1 x2 x3 x4
        obtain ⟨x0, x1, x2, x3, x4⟩ := HBX.out.same (hD3.block w.heap.size (by rw [HS1.out]; omega))
        dsimp only at x0 x1 x2 x3 x4
        go_wp2_with fail
        all_goals
          try rw [Exit.noGoto_ret]
          go_ret
          exact ⟨by rw [HR.out]; first | rfl | (refine congrArg (fun b => Ending.returned (Value.bool b)) (?_ : _ = _); simp <;> first | assumption | omega), hE3⟩
      | false =>
        have HR : Hid (t.kinds.exp = false) := by show _ = _; rw [HQ.out]; first | (simp [varK, HML.out, hc0, hc1]; done) | (have hla := hc1; simp only [Bool.and_eq_false_iff, decide_eq_false_iff_not] at hla; rcases hla with h | h <;> simp [varK, HML.out, hc0, hc1, h])
        have hD1 := Below.refl W1.heap.size W1
        have hE1 := HB1.out
        obtain ⟨x0, x1, x2, x3, x4⟩ := HBX.out
        dsimp only at x0 x1 x2 x3 x4
        have HC := refvar_text txt W1 hTx
        try dsimp only at HC
        rw [hc0] at HC
        try unfold NC.val at HC
        go_wp2_with fail
        refine HC.mono ?_; rintro e W2 ⟨rfl, hC⟩
        have hD2 := hD1.trans (hC.mono hD1.size)
        have hE2 := HB1.out.trans (hD2.mono (by rw [HS1.out]; omega))
        clear HC hC hD1 hE1 x0 x1 x2 x3 x4
        obtain ⟨x0, x1, x2, x3, x4⟩ := HBX.out.same (hD2.block w.heap.size (by rw [HS1.out]; omega))
        dsimp only at x0 x1 x2 x3 x4
        have HC := plain_any ⟨21, ps, n, txt, kp, kl, kc⟩ W2 0 (by omega) hk6
        try dsimp only at HC
        rw [hc1] at HC
        try unfold NC.val at HC
        go_wp2_with fail
        refine HC.mono ?_; rintro e W3 ⟨rfl, hC⟩
        have hD3 := hD2.trans (hC.mono hD2.size)
        have hE3 := HB1.out.trans (hD3.mono (by rw [HS1.out]; omega))
        clear HC hC hD2 hE2 x0 x1 x2 x3 x4
        obtain ⟨x0, x1, x2, x3, x4⟩ := HBX.out.same (hD3.block w.heap.size (by rw [HS1.out]; omega))
        dsimp only at x0 x1 x2 x3 x4
        go_wp2_with fail
        all_goals
          try rw [Exit.noGoto_ret]
          go_ret
          exact ⟨by rw [HR.out]; first | rfl | (refine congrArg (fun b => Ending.returned (Value.bool b)) (?_ : _ = _); simp <;> first | assumption | omega), hE3⟩
    | false =>
      have HR : Hid (t.kinds.exp = false) := by show _ = _; rw [HQ.out]; first | (simp [varK, HML.out, hc0]; done) | (have hla := hc0; simp only [Bool.and_eq_false_iff, decide_eq_false_iff_not] at hla; rcases hla with h | h <;> simp [varK, HML.out, hc0, h])
      have hD1 := Below.refl W1.heap.size W1
      have hE1 := HB1.out
      obtain ⟨x0, x1, x2, x3, x4⟩ := HBX.out
      dsimp only at x0 x1 x2 x3 x4
      have HC := refvar_text txt W1 hTx
      try dsimp only at HC
      rw [hc0] at HC
      try unfold NC.val at HC
      go_wp2_with fail
      refine HC.mono ?_; rintro e W2 ⟨rfl, hC⟩
      have hD2 := hD1.trans (hC.mono hD1.size)
      have hE2 := HB1.out.trans (hD2.mono (by rw [HS1.out]; omega))
      clear HC hC hD1 hE1 x0 x1 x2 x3 x4
      obtain ⟨x0, x1, x2, x3, x4⟩ := HBX.out.same (hD2.block w.heap.size (by rw [HS1.out]; omega))
      dsimp only at x0 x1 x2 x3 x4
      go_wp2_with fail
      all_goals
        try rw [Exit.noGoto_ret]
        go_ret
        exact ⟨by rw [HR.out]; first | rfl | (refine congrArg (fun b => Ending.returned (Value.bool b)) (?_ : _ = _); simp <;> first | assumption | omega), hE2⟩
  case neg =>
    by_cases hk22_1 : k = 22
    case pos =>
      subst hk22_1
      cases hc1 : conB txt with
      | true =>
        cases hc2 : decide (n = 0) && decide (kl = 0) with
        | true =>
          have HR : Hid (t.kinds.exp = true) := by show _ = _; rw [HQ.out]; simp [varK, HML.out, hk21_0, hc1, hc2]
          have hD1 := Below.refl W1.heap.size W1
          have hE1 := HB1.out
          obtain ⟨x0, x1, x2, x3, x4⟩ := HBX.out
          dsimp only at x0 x1 x2 x3 x4
          have HC := refcon_text txt W1 hTx
          try dsimp only at HC
          rw [hc1] at HC
          try unfold NC.val at HC
          go_wp2_with fail
          refine HC.mono ?_; rintro e W2 ⟨rfl, hC⟩
          have hD2 := hD1.trans (hC.mono hD1.size)
          have hE2 := HB1.out.trans (hD2.mono (by rw [HS1.out]; omega))
          clear HC hC hD1 hE1 x0 x1 x2 x3 x4
          obtain ⟨x0, x1, x2, x3, x4⟩ := HBX.out.same (hD2.block w.heap.size (by rw [HS1.out]; omega))
          dsimp only at x0 x1 x2 x3 x4
          have HC := plain_any ⟨22, ps, n, txt, kp, kl, kc⟩ W2 0 (by omega) hk6
          try dsimp only at HC
          rw [hc2] at HC
          try unfold NC.val at HC
          go_wp2_with fail
          refine HC.mono ?_; rintro e W3 ⟨rfl, hC⟩
          have hD3 := hD2.trans (hC.mono hD2.size)
          have hE3 := HB1.out.trans (hD3.mono (by rw [HS1.out]; omega))
          clear HC hC hD2 hE2 x0 x1 x2 x3 x4
          obtain ⟨x0, x1, x2, x3, x4⟩ := HBX.out.same (hD3.block w.heap.size (by rw [HS1.out]; omega))
          dsimp only at x0 x1 x2 x3 x4
          go_wp2_with fail
          all_goals
            try rw [Exit.noGoto_ret]
            go_ret
            exact ⟨by rw [HR.out]; first | rfl | (refine congrArg (fun b => Ending.returned (Value.bool b)) (?_ : _ = _); simp <;> first | assumption | omega), hE3⟩
        | false =>
          have HR : Hid (t.kinds.exp = false) := by show _ = _; rw [HQ.out]; first | (simp [varK, HML.out, hk21_0, hc1, hc2]; done) | (have hla := hc2; simp only [Bool.and_eq_false_iff, decide_eq_false_iff_not] at hla; rcases hla with h | h <;> simp [varK, HML.out, hk21_0, hc1, hc2, h])
          have hD1 := Below.refl W1.heap.size W1
          have hE1 := HB1.out
          obtain ⟨x0, x1, x2, x3, x4⟩ := HBX.out
          dsimp only at x0 x1 x2 x3 x4
          have HC := refcon_text txt W1 hTx
          try dsimp only at HC
          rw [hc1] at HC
          try unfold NC.val at HC
          go_wp2_with fail
          refine HC.mono ?_; rintro e W2 ⟨rfl, hC⟩
          have hD2 := hD1.trans (hC.mono hD1.size)
          have hE2 := HB1.out.trans (hD2.mono (by rw [HS1.out]; omega))
          clear HC hC hD1 hE1 x0 x1 x2 x3 x4
          obtain ⟨x0, x1, x2, x3, x4⟩ := HBX.out.same (hD2.block w.heap.size (by rw [HS1.out]; omega))
          dsimp only at x0 x1 x2 x3 x4
          have HC := plain_any ⟨22, ps, n, txt, kp, kl, kc⟩ W2 0 (by omega) hk6
          try dsimp only at HC
          rw [hc2] at HC
          try unfold NC.val at HC
          go_wp2_with fail
          refine HC.mono ?_; rintro e W3 ⟨rfl, hC⟩
          have hD3 := hD2.trans (hC.mono hD2.size)
          have hE3 := HB1.out.trans (hD3.mono (by rw [HS1.out]; omega))
          clear HC hC hD2 hE2 x0 x1 x2 x3 x4
          obtain ⟨x0, x1, x2, x3, x4⟩ := HBX.out.same (hD3.block w.heap.size (by rw [HS1.out]; omega))
          dsimp only at x0 x1 x2 x3 x4
          go_wp2_with fail
          all_goals
            try rw [Exit.noGoto_ret]
            go_ret
            exact ⟨by rw [HR.out]; first | rfl | (refine congrArg (fun b => Ending.returned (Value.bool b)) (?_ : _ = _); simp <;> first | assumption | omega), hE3⟩
      | false =>
        have HR : Hid (t.kinds.exp = false) := by show _ = _; rw [HQ.out]; first | (simp [varK, HML.out, hk21_0, hc1]; done) | (have hla := hc1; simp only [Bool.and_eq_false_iff, decide_eq_false_iff_not] at hla; rcases hla with h | h <;> simp [varK, HML.out, hk21_0, hc1, h])
        have hD1 := Below.refl W1.heap.size W1
        have hE1 := HB1.out
        obtain ⟨x0, x1, x2, x3, x4⟩ := HBX.out
        dsimp only at x0 x1 x2 x3 x4
        have HC := refcon_text txt W1 hTx
        try dsimp only at HC
        rw [hc1] at HC
        try unfold NC.val at HC
        go_wp2_with fail
        refine HC.mono ?_; rintro e W2 ⟨rfl, hC⟩
        have hD2 := hD1.trans (hC.mono hD1.size)
        have hE2 := HB1.out.trans (hD2.mono (by rw [HS1.out]; omega))
        clear HC hC hD1 hE1 x0 x1 x2 x3 x4
        obtain ⟨x0, x1, x2, x3, x4⟩ := HBX.out.same (hD2.block w.heap.size (by rw [HS1.out]; omega))
        dsimp only at x0 x1 x2 x3 x4
        go_wp2_with fail
        all_goals
          try rw [Exit.noGoto_ret]
          go_ret
          exact ⟨by rw [HR.out]; first | rfl | (refine congrArg (fun b => Ending.returned (Value.bool b)) (?_ : _ = _); simp <;> first | assumption | omega), hE2⟩
    case neg =>
      by_cases hk23_2 : k = 23
      case pos =>
        subst hk23_2
        by_cases htxt0_2 : txt = []
        case pos =>
          subst htxt0_2
          by_cases hnge_2 : 0 ≤ n
          case pos =>
            by_cases hlen0_3 : kl = 0
            case pos =>
              subst hlen0_3
              have HR : Hid (t.kinds.exp = true) := by show _ = _; rw [HQ.out]; simp [varK, HML.out, hk21_0, hk22_1, hnge_2]
              have hD1 := Below.refl W1.heap.size W1
              have hE1 := HB1.out
              obtain ⟨x0, x1, x2, x3, x4⟩ := HBX.out
              dsimp only at x0 x1 x2 x3 x4
              go_wp2_with fail
              all_goals
                try rw [Exit.noGoto_ret]
                go_ret
                exact ⟨by rw [HR.out]; first | rfl | (refine congrArg (fun b => Ending.returned (Value.bool b)) (?_ : _ = _); simp <;> first | assumption | omega), hE1⟩
            case neg =>
              have hlen0_3' : ¬ (kl : Int) = 0 := by omega
              have HR : Hid (t.kinds.exp = false) := by show _ = _; rw [HQ.out]; simp [varK, HML.out, hk21_0, hk22_1, hnge_2, hlen0_3]
              have hD1 := Below.refl W1.heap.size W1
              have hE1 := HB1.out
              obtain ⟨x0, x1, x2, x3, x4⟩ := HBX.out
              dsimp only at x0 x1 x2 x3 x4
              go_wp2_with fail
              all_goals
                try rw [Exit.noGoto_ret]
                go_ret
                exact ⟨by rw [HR.out]; first | rfl | (refine congrArg (fun b => Ending.returned (Value.bool b)) (?_ : _ = _); simp <;> first | assumption | omega), hE1⟩
          case neg =>
            have HR : Hid (t.kinds.exp = false) := by show _ = _; rw [HQ.out]; simp [varK, HML.out, hk21_0, hk22_1, hnge_2]
            have hD1 := Below.refl W1.heap.size W1
            have hE1 := HB1.out
            obtain ⟨x0, x1, x2, x3, x4⟩ := HBX.out
            dsimp only at x0 x1 x2 x3 x4
            go_wp2_with fail
            all_goals
              try rw [Exit.noGoto_ret]
              go_ret
              exact ⟨by rw [HR.out]; first | rfl | (refine congrArg (fun b => Ending.returned (Value.bool b)) (?_ : _ = _); simp <;> first | assumption | omega), hE1⟩
        case neg =>
          have HR : Hid (t.kinds.exp = false) := by show _ = _; rw [HQ.out]; simp [varK, HML.out, hk21_0, hk22_1, htxt0_2]
          have hD1 := Below.refl W1.heap.size W1
          have hE1 := HB1.out
          obtain ⟨x0, x1, x2, x3, x4⟩ := HBX.out
          dsimp only at x0 x1 x2 x3 x4
          go_wp2_with fail
          all_goals
            try rw [Exit.noGoto_ret]
            go_ret
            exact ⟨by rw [HR.out]; first | rfl | (refine congrArg (fun b => Ending.returned (Value.bool b)) (?_ : _ = _); simp <;> first | assumption | omega), hE1⟩
      case neg =>
        by_cases hk24_3 : k = 24
        case pos =>
          subst hk24_3
          cases hc3 : expsK 2 n txt L with
          | true =>
            have HR : Hid (t.kinds.exp = true) := by show _ = _; rw [HQ.out]; simp [varK, HML.out, hk21_0, hk22_1, hk23_2, hc3]
            have hD1 := Below.refl W1.heap.size W1
            have hE1 := HB1.out
            obtain ⟨x0, x1, x2, x3, x4⟩ := HBX.out
            dsimp only at x0 x1 x2 x3 x4
            have HC := rexps_step t ht (fun t' h => ih t' (Nd.kid_lt h) (ht.kid h)) 2 (by omega) ⟨24, ps, n, txt, kp, kl, kc⟩ W1 (HT.out.later hE1)
            try dsimp only at HC
            have hcv : _ = _ := ((by rw [HL.out, HNUM.out, HTXT.out]) : expsK 2 t.num t.text (t.kids.map Nd.kinds) = expsK 2 n txt L)
            rw [hcv, hc3] at HC
            try unfold NC.val at HC
            go_wp2_with fail
            refine HC.mono ?_; rintro e W2 ⟨rfl, hC⟩
            have hD2 := hD1.trans (hC.mono hD1.size)
            have hE2 := HB1.out.trans (hD2.mono (by rw [HS1.out]; omega))
            clear HC hC hD1 hE1 x0 x1 x2 x3 x4 hcv
            obtain ⟨x0, x1, x2, x3, x4⟩ := HBX.out.same (hD2.block w.heap.size (by rw [HS1.out]; omega))
            dsimp only at x0 x1 x2 x3 x4
            go_wp2_with fail
            all_goals
              try rw [Exit.noGoto_ret]
              go_ret
              exact ⟨by rw [HR.out]; first | rfl | (refine congrArg (fun b => Ending.returned (Value.bool b)) (?_ : _ = _); simp <;> first | assumption | omega), hE2⟩
          | false =>
            have HR : Hid (t.kinds.exp = false) := by show _ = _; rw [HQ.out]; first | (simp [varK, HML.out, hk21_0, hk22_1, hk23_2, hc3]; done) | (have hla := hc3; simp only [Bool.and_eq_false_iff, decide_eq_false_iff_not] at hla; rcases hla with h | h <;> simp [varK, HML.out, hk21_0, hk22_1, hk23_2, hc3, h])
            have hD1 := Below.refl W1.heap.size W1
            have hE1 := HB1.out
            obtain ⟨x0, x1, x2, x3, x4⟩ := HBX.out
            dsimp only at x0 x1 x2 x3 x4
            have HC := rexps_step t ht (fun t' h => ih t' (Nd.kid_lt h) (ht.kid h)) 2 (by omega) ⟨24, ps, n, txt, kp, kl, kc⟩ W1 (HT.out.later hE1)
            try dsimp only at HC
            have hcv : _ = _ := ((by rw [HL.out, HNUM.out, HTXT.out]) : expsK 2 t.num t.text (t.kids.map Nd.kinds) = expsK 2 n txt L)
            rw [hcv, hc3] at HC
            try unfold NC.val at HC
            go_wp2_with fail
            refine HC.mono ?_; rintro e W2 ⟨rfl, hC⟩
            have hD2 := hD1.trans (hC.mono hD1.size)
            have hE2 := HB1.out.trans (hD2.mono (by rw [HS1.out]; omega))
            clear HC hC hD1 hE1 x0 x1 x2 x3 x4 hcv
            obtain ⟨x0, x1, x2, x3, x4⟩ := HBX.out.same (hD2.block w.heap.size (by rw [HS1.out]; omega))
            dsimp only at x0 x1 x2 x3 x4
            go_wp2_with fail
            all_goals
              try rw [Exit.noGoto_ret]
              go_ret
              exact ⟨by rw [HR.out]; first | rfl | (refine congrArg (fun b => Ending.returned (Value.bool b)) (?_ : _ = _); simp <;> first | assumption | omega), hE2⟩
        case neg =>
          by_cases hk25_4 : k = 25
          case pos =>
            subst hk25_4
            cases hc4 : varB txt with
            | true =>
              cases hc5 : decide (n = 0) && decide (kl = 1) with
              | true =>
                have hz_6 := hc5
                simp only [Bool.and_eq_true, decide_eq_true_eq] at hz_6
                obtain ⟨rfl, rfl⟩ := hz_6
                clear hc5
                cases hc5 : atK L 0 (·.exp) with
                | true =>
                  obtain ⟨kc_p, g_p, o_p, hp_p, hg_p, ht_p, hc_p⟩ := HK.out.at 0 (by rw [← HLN.out]; omega)
                  subst hp_p
                  have HG_p := Lib.hid hg_p
                  have HT_p := Lib.hid ht_p
                  have HC_p := Lib.hid hc_p
                  clear hg_p ht_p hc_p
                  have HR : Hid (t.kinds.exp = true) := by show _ = _; rw [HQ.out]; simp [varK, HML.out, hk21_0, hk22_1, hk23_2, hk24_3, hc4, hc5]
                  have hD1 := Below.refl W1.heap.size W1
                  have hE1 := HB1.out
                  obtain ⟨x0, x1, x2, x3, x4⟩ := HBX.out
                  dsimp only at x0 x1 x2 x3 x4
                  obtain ⟨p0, p1, p2, p3, p4⟩ := HC_p.out W1 (hE1.block _ HG_p.out)
                  simp only [Nat.zero_mul, Nat.add_zero] at p0 p1 p2 p3 p4
                  have HC := refvar_text txt W1 hTx
                  try dsimp only at HC
                  rw [hc4] at HC
                  try unfold NC.val at HC
                  go_wp2_with fail
                  refine HC.mono ?_; rintro e W2 ⟨rfl, hC⟩
                  have hD2 := hD1.trans (hC.mono hD1.size)
                  have hE2 := HB1.out.trans (hD2.mono (by rw [HS1.out]; omega))
                  clear HC hC hD1 hE1 x0 x1 x2 x3 x4 p0 p1 p2 p3 p4
                  obtain ⟨x0, x1, x2, x3, x4⟩ := HBX.out.same (hD2.block w.heap.size (by rw [HS1.out]; omega))
                  dsimp only at x0 x1 x2 x3 x4
                  obtain ⟨p0, p1, p2, p3, p4⟩ := HC_p.out W2 (hE2.block _ HG_p.out)
                  simp only [Nat.zero_mul, Nat.add_zero] at p0 p1 p2 p3 p4
                  have HC := plain_yes ⟨25, ps, 0, txt, (some ⟨g_p, o_p, none⟩), 1, kc⟩ W2 1 (by omega) hk6 rfl rfl
                  try dsimp only at HC
                  try unfold NC.val at HC
                  go_wp2_with fail
                  refine HC.mono ?_; rintro e W3 ⟨rfl, hC⟩
                  have hD3 := hD2.trans (hC.mono hD2.size)
                  have hE3 := HB1.out.trans (hD3.mono (by rw [HS1.out]; omega))
                  clear HC hC hD2 hE2 x0 x1 x2 x3 x4 p0 p1 p2 p3 p4
                  obtain ⟨x0, x1, x2, x3, x4⟩ := HBX.out.same (hD3.block w.heap.size (by rw [HS1.out]; omega))
                  dsimp only at x0 x1 x2 x3 x4
                  obtain ⟨p0, p1, p2, p3, p4⟩ := HC_p.out W3 (hE3.block _ HG_p.out)
                  simp only [Nat.zero_mul, Nat.add_zero] at p0 p1 p2 p3 p4
                  have HC := (ih _ (Nd.kid_lt (List.getElem_mem _)) (ht.kid (List.getElem_mem _))) kc_p W3 (HT_p.out.later hE3)
                  try dsimp only at HC
                  have hcv : _ = _ := ((atK_map t.kids 0 (·.exp) (by rw [← HLN.out]; omega)).symm.trans (by rw [HL.out]) : (t.kids[0]'(by rw [← HLN.out]; omega)).kinds.exp = atK L 0 (·.exp))
                  rw [hcv, hc5] at HC
                  try unfold NC.val at HC
                  go_wp2_with fail
                  refine HC.mono ?_; rintro e W4 ⟨rfl, hC⟩
                  have hD4 := hD3.trans (hC.mono hD3.size)
                  have hE4 := HB1.out.trans (hD4.mono (by rw [HS1.out]; omega))
                  clear HC hC hD3 hE3 x0 x1 x2 x3 x4 hcv p0 p1 p2 p3 p4
                  obtain ⟨x0, x1, x2, x3, x4⟩ := HBX.out.same (hD4.block w.heap.size (by rw [HS1.out]; omega))
                  dsimp only at x0 x1 x2 x3 x4
                  obtain ⟨p0, p1, p2, p3, p4⟩ := HC_p.out W4 (hE4.block _ HG_p.out)
                  simp only [Nat.zero_mul, Nat.add_zero] at p0 p1 p2 p3 p4
                  go_wp2_with fail
                  all_goals
                    try rw [Exit.noGoto_ret]
                    go_ret
                    exact ⟨by rw [HR.out]; first | rfl | (refine congrArg (fun b => Ending.returned (Value.bool b)) (?_ : _ = _); simp <;> first | assumption | omega), hE4⟩
                | false =>
                  obtain ⟨kc_p, g_p, o_p, hp_p, hg_p, ht_p, hc_p⟩ := HK.out.at 0 (by rw [← HLN.out]; omega)
                  subst hp_p
                  have HG_p := Lib.hid hg_p
                  have HT_p := Lib.hid ht_p
                  have HC_p := Lib.hid hc_p
                  clear hg_p ht_p hc_p
                  have HR : Hid (t.kinds.exp = false) := by show _ = _; rw [HQ.out]; first | (simp [varK, HML.out, hk21_0, hk22_1, hk23_2, hk24_3, hc4, hc5]; done) | (have hla := hc5; simp only [Bool.and_eq_false_iff, decide_eq_false_iff_not] at hla; rcases hla with h | h <;> simp [varK, HML.out, hk21_0, hk22_1, hk23_2, hk24_3, hc4, hc5, h])
                  have hD1 := Below.refl W1.heap.size W1
                  have hE1 := HB1.out
                  obtain ⟨x0, x1, x2, x3, x4⟩ := HBX.out
                  dsimp only at x0 x1 x2 x3 x4
                  obtain ⟨p0, p1, p2, p3, p4⟩ := HC_p.out W1 (hE1.block _ HG_p.out)
                  simp only [Nat.zero_mul, Nat.add_zero] at p0 p1 p2 p3 p4
                  have HC := refvar_text txt W1 hTx
                  try dsimp only at HC
                  rw [hc4] at HC
                  try unfold NC.val at HC
                  go_wp2_with fail
                  refine HC.mono ?_; rintro e W2 ⟨rfl, hC⟩
                  have hD2 := hD1.trans (hC.mono hD1.size)
                  have hE2 := HB1.out.trans (hD2.mono (by rw [HS1.out]; omega))
                  clear HC hC hD1 hE1 x0 x1 x2 x3 x4 p0 p1 p2 p3 p4
                  obtain ⟨x0, x1, x2, x3, x4⟩ := HBX.out.same (hD2.block w.heap.size (by rw [HS1.out]; omega))
                  dsimp only at x0 x1 x2 x3 x4
                  obtain ⟨p0, p1, p2, p3, p4⟩ := HC_p.out W2 (hE2.block _ HG_p.out)
                  simp only [Nat.zero_mul, Nat.add_zero] at p0 p1 p2 p3 p4
                  have HC := plain_yes ⟨25, ps, 0, txt, (some ⟨g_p, o_p, none⟩), 1, kc⟩ W2 1 (by omega) hk6 rfl rfl
                  try dsimp only at HC
                  try unfold NC.val at HC
                  go_wp2_with fail
                  refine HC.mono ?_; rintro e W3 ⟨rfl, hC⟩
                  have hD3 := hD2.trans (hC.mono hD2.size)
                  have hE3 := HB1.out.trans (hD3.mono (by rw [HS1.out]; omega))
                  clear HC hC hD2 hE2 x0 x1 x2 x3 x4 p0 p1 p2 p3 p4
                  obtain ⟨x0, x1, x2, x3, x4⟩ := HBX.out.same (hD3.block w.heap.size (by rw [HS1.out]; omega))
                  dsimp only at x0 x1 x2 x3 x4
                  obtain ⟨p0, p1, p2, p3, p4⟩ := HC_p.out W3 (hE3.block _ HG_p.out)
                  simp only [Nat.zero_mul, Nat.add_zero] at p0 p1 p2 p3 p4
                  have HC := (ih _ (Nd.kid_lt (List.getElem_mem _)) (ht.kid (List.getElem_mem _))) kc_p W3 (HT_p.out.later hE3)
                  try dsimp only at HC
                  have hcv : _ = _ := ((atK_map t.kids 0 (·.exp) (by rw [← HLN.out]; omega)).symm.trans (by rw [HL.out]) : (t.kids[0]'(by rw [← HLN.out]; omega)).kinds.exp = atK L 0 (·.exp))
                  rw [hcv, hc5] at HC
                  try unfold NC.val at HC
                  go_wp2_with fail
                  refine HC.mono ?_; rintro e W4 ⟨rfl, hC⟩
                  have hD4 := hD3.trans (hC.mono hD3.size)
                  have hE4 := HB1.out.trans (hD4.mono (by rw [HS1.out]; omega))
                  clear HC hC hD3 hE3 x0 x1 x2 x3 x4 hcv p0 p1 p2 p3 p4
                  obtain ⟨x0, x1, x2, x3, x4⟩ := HBX.out.same (hD4.block w.heap.size (by rw [HS1.out]; omega))
                  dsimp only at x0 x1 x2 x3 x4
                  obtain ⟨p0, p1, p2, p3, p4⟩ := HC_p.out W4 (hE4.block _ HG_p.out)
                  simp only [Nat.zero_mul, Nat.add_zero] at p0 p1 p2 p3 p4
                  go_wp2_with fail
                  all_goals
                    try rw [Exit.noGoto_ret]
                    go_ret
                    exact ⟨by rw [HR.out]; first | rfl | (refine congrArg (fun b => Ending.returned (Value.bool b)) (?_ : _ = _); simp <;> first | assumption | omega), hE4⟩
              | false =>
                have HR : Hid (t.kinds.exp = false) := by show _ = _; rw [HQ.out]; first | (simp [varK, HML.out, hk21_0, hk22_1, hk23_2, hk24_3, hc4, hc5]; done) | (have hla := hc5; simp only [Bool.and_eq_false_iff, decide_eq_false_iff_not] at hla; rcases hla with h | h <;> simp [varK, HML.out, hk21_0, hk22_1, hk23_2, hk24_3, hc4, hc5, h])
                have hD1 := Below.refl W1.heap.size W1
                have hE1 := HB1.out
                obtain ⟨x0, x1, x2, x3, x4⟩ := HBX.out
                dsimp only at x0 x1 x2 x3 x4
                have HC := refvar_text txt W1 hTx
                try dsimp only at HC
                rw [hc4] at HC
                try unfold NC.val at HC
                go_wp2_with fail
                refine HC.mono ?_; rintro e W2 ⟨rfl, hC⟩
                have hD2 := hD1.trans (hC.mono hD1.size)
                have hE2 := HB1.out.trans (hD2.mono (by rw [HS1.out]; omega))
                clear HC hC hD1 hE1 x0 x1 x2 x3 x4
                obtain ⟨x0, x1, x2, x3, x4⟩ := HBX.out.same (hD2.block w.heap.size (by rw [HS1.out]; omega))
                dsimp only at x0 x1 x2 x3 x4
                have HC := plain_any ⟨25, ps, n, txt, kp, kl, kc⟩ W2 1 (by omega) hk6
                try dsimp only at HC
                rw [hc5] at HC
                try unfold NC.val at HC
                go_wp2_with fail
                refine HC.mono ?_; rintro e W3 ⟨rfl, hC⟩
                have hD3 := hD2.trans (hC.mono hD2.size)
                have hE3 := HB1.out.trans (hD3.mono (by rw [HS1.out]; omega))
                clear HC hC hD2 hE2 x0 x1 x2 x3 x4
                obtain ⟨x0, x1, x2, x3, x4⟩ := HBX.out.same (hD3.block w.heap.size (by rw [HS1.out]; omega))
                dsimp only at x0 x1 x2 x3 x4
                go_wp2_with fail
                all_goals
                  try rw [Exit.noGoto_ret]
                  go_ret
                  exact ⟨by rw [HR.out]; first | rfl | (refine congrArg (fun b => Ending.returned (Value.bool b)) (?_ : _ = _); simp <;> first | assumption | omega), hE3⟩
            | false =>
              have HR : Hid (t.kinds.exp = false) := by show _ = _; rw [HQ.out]; first | (simp [varK, HML.out, hk21_0, hk22_1, hk23_2, hk24_3, hc4]; done) | (have hla := hc4; simp only [Bool.and_eq_false_iff, decide_eq_false_iff_not] at hla; rcases hla with h | h <;> simp [varK, HML.out, hk21_0, hk22_1, hk23_2, hk24_3, hc4, h])
              have hD1 := Below.refl W1.heap.size W1
              have hE1 := HB1.out
              obtain ⟨x0, x1, x2, x3, x4⟩ := HBX.out
              dsimp only at x0 x1 x2 x3 x4
              have HC := refvar_text txt W1 hTx
              try dsimp only at HC
              rw [hc4] at HC
              try unfold NC.val at HC
              go_wp2_with fail
              refine HC.mono ?_; rintro e W2 ⟨rfl, hC⟩
              have hD2 := hD1.trans (hC.mono hD1.size)
              have hE2 := HB1.out.trans (hD2.mono (by rw [HS1.out]; omega))
              clear HC hC hD1 hE1 x0 x1 x2 x3 x4
              obtain ⟨x0, x1, x2, x3, x4⟩ := HBX.out.same (hD2.block w.heap.size (by rw [HS1.out]; omega))
              dsimp only at x0 x1 x2 x3 x4
              go_wp2_with fail
              all_goals
                try rw [Exit.noGoto_ret]
                go_ret
                exact ⟨by rw [HR.out]; first | rfl | (refine congrArg (fun b => Ending.returned (Value.bool b)) (?_ : _ = _); simp <;> first | assumption | omega), hE2⟩
          case neg =>
            by_cases hk26_5 : k = 26
            case pos =>
              subst hk26_5
              cases hc5 : letK n txt L with
              | true =>
                have HR : Hid (t.kinds.exp = true) := by show _ = _; rw [HQ.out]; simp [varK, HML.out, hk21_0, hk22_1, hk23_2, hk24_3, hk25_4, hc5]
                have hD1 := Below.refl W1.heap.size W1
                have hE1 := HB1.out
                obtain ⟨x0, x1, x2, x3, x4⟩ := HBX.out
                dsimp only at x0 x1 x2 x3 x4
                have HC := rlet_step t ht ih ⟨26, ps, n, txt, kp, kl, kc⟩ W1 (HT.out.later hE1)
                try dsimp only at HC
                have hcv : _ = _ := ((by rw [HL.out, HNUM.out, HTXT.out]) : letK t.num t.text (t.kids.map Nd.kinds) = letK n txt L)
                rw [hcv, hc5] at HC
                try unfold NC.val at HC
                go_wp2_with fail
                refine HC.mono ?_; rintro e W2 ⟨rfl, hC⟩
                have hD2 := hD1.trans (hC.mono hD1.size)
                have hE2 := HB1.out.trans (hD2.mono (by rw [HS1.out]; omega))
                clear HC hC hD1 hE1 x0 x1 x2 x3 x4 hcv
                obtain ⟨x0, x1, x2, x3, x4⟩ := HBX.out.same (hD2.block w.heap.size (by rw [HS1.out]; omega))
                dsimp only at x0 x1 x2 x3 x4
                go_wp2_with fail
                all_goals
                  try rw [Exit.noGoto_ret]
                  go_ret
                  exact ⟨by rw [HR.out]; first | rfl | (refine congrArg (fun b => Ending.returned (Value.bool b)) (?_ : _ = _); simp <;> first | assumption | omega), hE2⟩
              | false =>
                have HR : Hid (t.kinds.exp = false) := by show _ = _; rw [HQ.out]; first | (simp [varK, HML.out, hk21_0, hk22_1, hk23_2, hk24_3, hk25_4, hc5]; done) | (have hla := hc5; simp only [Bool.and_eq_false_iff, decide_eq_false_iff_not] at hla; rcases hla with h | h <;> simp [varK, HML.out, hk21_0, hk22_1, hk23_2, hk24_3, hk25_4, hc5, h])
                have hD1 := Below.refl W1.heap.size W1
                have hE1 := HB1.out
                obtain ⟨x0, x1, x2, x3, x4⟩ := HBX.out
                dsimp only at x0 x1 x2 x3 x4
                have HC := rlet_step t ht ih ⟨26, ps, n, txt, kp, kl, kc⟩ W1 (HT.out.later hE1)
                try dsimp only at HC
                have hcv : _ = _ := ((by rw [HL.out, HNUM.out, HTXT.out]) : letK t.num t.text (t.kids.map Nd.kinds) = letK n txt L)
                rw [hcv, hc5] at HC
                try unfold NC.val at HC
                go_wp2_with fail
                refine HC.mono ?_; rintro e W2 ⟨rfl, hC⟩
                have hD2 := hD1.trans (hC.mono hD1.size)
                have hE2 := HB1.out.trans (hD2.mono (by rw [HS1.out]; omega))
                clear HC hC hD1 hE1 x0 x1 x2 x3 x4 hcv
                obtain ⟨x0, x1, x2, x3, x4⟩ := HBX.out.same (hD2.block w.heap.size (by rw [HS1.out]; omega))
                dsimp only at x0 x1 x2 x3 x4
                go_wp2_with fail
                all_goals
                  try rw [Exit.noGoto_ret]
                  go_ret
                  exact ⟨by rw [HR.out]; first | rfl | (refine congrArg (fun b => Ending.returned (Value.bool b)) (?_ : _ = _); simp <;> first | assumption | omega), hE2⟩
            case neg =>
              by_cases hk27_6 : k = 27
              case pos =>
                subst hk27_6
                cases hc6 : casesK n txt L with
                | true =>
                  have HR : Hid (t.kinds.exp = true) := by show _ = _; rw [HQ.out]; simp [varK, HML.out, hk21_0, hk22_1, hk23_2, hk24_3, hk25_4, hk26_5, hc6]
                  have hD1 := Below.refl W1.heap.size W1
                  have hE1 := HB1.out
                  obtain ⟨x0, x1, x2, x3, x4⟩ := HBX.out
                  dsimp only at x0 x1 x2 x3 x4
                  have HC := rcases_step t ht ih ⟨27, ps, n, txt, kp, kl, kc⟩ W1 (HT.out.later hE1)
                  try dsimp only at HC
                  have hcv : _ = _ := ((by rw [HL.out, HNUM.out, HTXT.out]) : casesK t.num t.text (t.kids.map Nd.kinds) = casesK n txt L)
                  rw [hcv, hc6] at HC
                  try unfold NC.val at HC
                  go_wp2_with fail
                  refine HC.mono ?_; rintro e W2 ⟨rfl, hC⟩
                  have hD2 := hD1.trans (hC.mono hD1.size)
                  have hE2 := HB1.out.trans (hD2.mono (by rw [HS1.out]; omega))
                  clear HC hC hD1 hE1 x0 x1 x2 x3 x4 hcv
                  obtain ⟨x0, x1, x2, x3, x4⟩ := HBX.out.same (hD2.block w.heap.size (by rw [HS1.out]; omega))
                  dsimp only at x0 x1 x2 x3 x4
                  go_wp2_with fail
                  all_goals
                    try rw [Exit.noGoto_ret]
                    go_ret
                    exact ⟨by rw [HR.out]; first | rfl | (refine congrArg (fun b => Ending.returned (Value.bool b)) (?_ : _ = _); simp <;> first | assumption | omega), hE2⟩
                | false =>
                  have HR : Hid (t.kinds.exp = false) := by show _ = _; rw [HQ.out]; first | (simp [varK, HML.out, hk21_0, hk22_1, hk23_2, hk24_3, hk25_4, hk26_5, hc6]; done) | (have hla := hc6; simp only [Bool.and_eq_false_iff, decide_eq_false_iff_not] at hla; rcases hla with h | h <;> simp [varK, HML.out, hk21_0, hk22_1, hk23_2, hk24_3, hk25_4, hk26_5, hc6, h])
                  have hD1 := Below.refl W1.heap.size W1
                  have hE1 := HB1.out
                  obtain ⟨x0, x1, x2, x3, x4⟩ := HBX.out
                  dsimp only at x0 x1 x2 x3 x4
                  have HC := rcases_step t ht ih ⟨27, ps, n, txt, kp, kl, kc⟩ W1 (HT.out.later hE1)
                  try dsimp only at HC
                  have hcv : _ = _ := ((by rw [HL.out, HNUM.out, HTXT.out]) : casesK t.num t.text (t.kids.map Nd.kinds) = casesK n txt L)
                  rw [hcv, hc6] at HC
                  try unfold NC.val at HC
                  go_wp2_with fail
                  refine HC.mono ?_; rintro e W2 ⟨rfl, hC⟩
                  have hD2 := hD1.trans (hC.mono hD1.size)
                  have hE2 := HB1.out.trans (hD2.mono (by rw [HS1.out]; omega))
                  clear HC hC hD1 hE1 x0 x1 x2 x3 x4 hcv
                  obtain ⟨x0, x1, x2, x3, x4⟩ := HBX.out.same (hD2.block w.heap.size (by rw [HS1.out]; omega))
                  dsimp only at x0 x1 x2 x3 x4
                  go_wp2_with fail
                  all_goals
                    try rw [Exit.noGoto_ret]
                    go_ret
                    exact ⟨by rw [HR.out]; first | rfl | (refine congrArg (fun b => Ending.returned (Value.bool b)) (?_ : _ = _); simp <;> first | assumption | omega), hE2⟩
              case neg =>
                by_cases hk28_7 : k = 28
                case pos =>
                  subst hk28_7
                  cases hc7 : expsK 3 n txt L with
                  | true =>
                    have HR : Hid (t.kinds.exp = true) := by show _ = _; rw [HQ.out]; simp [varK, HML.out, hk21_0, hk22_1, hk23_2, hk24_3, hk25_4, hk26_5, hk27_6, hc7]
                    have hD1 := Below.refl W1.heap.size W1
                    have hE1 := HB1.out
                    obtain ⟨x0, x1, x2, x3, x4⟩ := HBX.out
                    dsimp only at x0 x1 x2 x3 x4
                    have HC := rexps_step t ht (fun t' h => ih t' (Nd.kid_lt h) (ht.kid h)) 3 (by omega) ⟨28, ps, n, txt, kp, kl, kc⟩ W1 (HT.out.later hE1)
                    try dsimp only at HC
                    have hcv : _ = _ := ((by rw [HL.out, HNUM.out, HTXT.out]) : expsK 3 t.num t.text (t.kids.map Nd.kinds) = expsK 3 n txt L)
                    rw [hcv, hc7] at HC
                    try unfold NC.val at HC
                    go_wp2_with fail
                    refine HC.mono ?_; rintro e W2 ⟨rfl, hC⟩
                    have hD2 := hD1.trans (hC.mono hD1.size)
                    have hE2 := HB1.out.trans (hD2.mono (by rw [HS1.out]; omega))
                    clear HC hC hD1 hE1 x0 x1 x2 x3 x4 hcv
                    obtain ⟨x0, x1, x2, x3, x4⟩ := HBX.out.same (hD2.block w.heap.size (by rw [HS1.out]; omega))
                    dsimp only at x0 x1 x2 x3 x4
                    go_wp2_with fail
                    all_goals
                      try rw [Exit.noGoto_ret]
                      go_ret
                      exact ⟨by rw [HR.out]; first | rfl | (refine congrArg (fun b => Ending.returned (Value.bool b)) (?_ : _ = _); simp <;> first | assumption | omega), hE2⟩
                  | false =>
                    have HR : Hid (t.kinds.exp = false) := by show _ = _; rw [HQ.out]; first | (simp [varK, HML.out, hk21_0, hk22_1, hk23_2, hk24_3, hk25_4, hk26_5, hk27_6, hc7]; done) | (have hla := hc7; simp only [Bool.and_eq_false_iff, decide_eq_false_iff_not] at hla; rcases hla with h | h <;> simp [varK, HML.out, hk21_0, hk22_1, hk23_2, hk24_3, hk25_4, hk26_5, hk27_6, hc7, h])
                    have hD1 := Below.refl W1.heap.size W1
                    have hE1 := HB1.out
                    obtain ⟨x0, x1, x2, x3, x4⟩ := HBX.out
                    dsimp only at x0 x1 x2 x3 x4
                    have HC := rexps_step t ht (fun t' h => ih t' (Nd.kid_lt h) (ht.kid h)) 3 (by omega) ⟨28, ps, n, txt, kp, kl, kc⟩ W1 (HT.out.later hE1)
                    try dsimp only at HC
                    have hcv : _ = _ := ((by rw [HL.out, HNUM.out, HTXT.out]) : expsK 3 t.num t.text (t.kids.map Nd.kinds) = expsK 3 n txt L)
                    rw [hcv, hc7] at HC
                    try unfold NC.val at HC
                    go_wp2_with fail
                    refine HC.mono ?_; rintro e W2 ⟨rfl, hC⟩
                    have hD2 := hD1.trans (hC.mono hD1.size)
                    have hE2 := HB1.out.trans (hD2.mono (by rw [HS1.out]; omega))
                    clear HC hC hD1 hE1 x0 x1 x2 x3 x4 hcv
                    obtain ⟨x0, x1, x2, x3, x4⟩ := HBX.out.same (hD2.block w.heap.size (by rw [HS1.out]; omega))
                    dsimp only at x0 x1 x2 x3 x4
                    go_wp2_with fail
                    all_goals
                      try rw [Exit.noGoto_ret]
                      go_ret
                      exact ⟨by rw [HR.out]; first | rfl | (refine congrArg (fun b => Ending.returned (Value.bool b)) (?_ : _ = _); simp <;> first | assumption | omega), hE2⟩
                case neg =>
                  have HR : Hid (t.kinds.exp = false) := by show _ = _; rw [HQ.out]; simp [varK, HML.out, hk21_0, hk22_1, hk23_2, hk24_3, hk25_4, hk26_5, hk27_6, hk28_7]
                  have hD1 := Below.refl W1.heap.size W1
                  have hE1 := HB1.out
                  obtain ⟨x0, x1, x2, x3, x4⟩ := HBX.out
                  dsimp only at x0 x1 x2 x3 x4
                  go_wp2_with fail
                  all_goals
                    try rw [Exit.noGoto_ret]
                    go_ret
                    exact ⟨by rw [HR.out]; first | rfl | (refine congrArg (fun b => Ending.returned (Value.bool b)) (?_ : _ = _); simp <;> first | assumption | omega), hE1⟩
theorem risexp_any (t : Nd) : Nd.Fit t → Is 35 (fun t => t.kinds.exp) t := by
  induction t using Nd.by_size with
  | h t ih => exact fun ht => risexp_step t ht ih
theorem rbind_any (t : Nd) (ht : Nd.Fit t) : Is 58 (fun t => t.kinds.bind) t := rbind_step t ht fun t' h => risexp_any t' (ht.kid h)
end Go.Proofs.Ytobmpipifdielaa
