/- What kind a tree is: the document's own functions for patterns. -/
import Derived.Test.YtobmpipifdielaaNodeRefA
namespace Go.Proofs.Ytobmpipifdielaa
open Go.RowKit

set_option maxRecDepth 100000 in
set_option maxHeartbeats 4000000 in
theorem rispat_step (t : Nd) (ht : Nd.Fit t) (hPats : ∀ t' ∈ t.kids, Is 33 (fun t => t.kinds.pat) t') : Is 33 (fun t => t.kinds.pat) t := by
  intro c w h
  obtain ⟨k, ps, n, txt, kp, kl, kc⟩ := c
  obtain ⟨L, hL⟩ : ∃ L, L = t.kids.map Nd.kinds := ⟨_, rfl⟩
  have HQ : Hid (t.kinds.pat = (patK k n txt L)) := by
    show _ = _
    try rw [hL]
    rw [Nd.kinds_eq, ← h.kind, ← h.num, ← h.text]; rfl
  have hTx : txt.length ≤ maxLen := by have := h.text; dsimp only at this; rw [this]; exact ht.text
  have HLN : Hid (kl = t.kids.length) := h.len
  have HML : Hid (L.length = kl) := by show _ = _; rw [hL, List.length_map, HLN.out]
  have hk6 : kl ≤ 1000000 := by rw [HLN.out]; exact ht.len
  have hkc : kl ≤ kc := h.fits
  have HTL : Hid (t.kids.length ≤ 1000000) := ht.len
  have HK := Lib.hid h.kids
  have HT := Lib.hid h
  have HNUM : Hid (n = t.num) := h.num
  have HTXT : Hid (txt = t.text) := h.text
  have HL := Lib.hid hL
  dsimp only at HK
  clear h hL
  unfold NC.val
  obtain ⟨W1, hW1⟩ : ∃ W1, W1 = w.alloc (.cells #[.int .i64 k, .int .i64 ps, .int .i64 n, .string ⟨txt.toArray⟩, .slice kp kl kc] 24) := ⟨_, rfl⟩
  have HBX : Hid (NBox W1 w.heap.size ⟨k, ps, n, txt, kp, kl, kc⟩) := by rw [hW1]; exact NBox.new w ⟨k, ps, n, txt, kp, kl, kc⟩ 24
  have HB1 : Hid (Below w.heap.size w W1) := by rw [hW1]; exact (Below.refl _ w).alloc (Nat.le_refl _) _
  have hs1 : W1.heap.size = w.heap.size + 1 := by rw [hW1]; simp
  have HS1 := Lib.hid hs1
  have HW1 := Lib.hid hW1
  clear hW1 hs1
  go_enter Try.func33, Try.ntmps33
  go_upto_region 1 with fail
  rw [← HW1.out]
  clear HW1
  by_cases hk11_0 : k = 11
  case pos =>
    subst hk11_0
    cases hc0 : varB txt with
    | true =>
      cases hc1 : decide (n = 0) && decide (kl = 0) with
      | true =>
        have HR : Hid (t.kinds.pat = true) := by show _ = _; rw [HQ.out]; simp [patK, varK, bareK, HML.out, hc0, hc1]
        have hD1 := Below.refl W1.heap.size W1
        have hE1 := HB1.out
        obtain ⟨x0, x1, x2, x3, x4⟩ := HBX.out
        dsimp only at x0 x1 x2 x3 x4
        have HC := refvar_text txt W1 hTx
        try dsimp only at HC
        rw [hc0] at HC
        try unfold NC.val at HC
        go_wp2_with fail
        refine HC.mono ?_; rintro e W2 ⟨rfl, hC⟩
        have hD2 := hD1.trans (hC.mono hD1.size)
        have hE2 := HB1.out.trans (hD2.mono (by rw [HS1.out]; omega))
        clear HC hC hD1 hE1 x0 x1 x2 x3 x4
        obtain ⟨x0, x1, x2, x3, x4⟩ := HBX.out.same (hD2.block w.heap.size (by rw [HS1.out]; omega))
        dsimp only at x0 x1 x2 x3 x4
        have HC := plain_any ⟨11, ps, n, txt, kp, kl, kc⟩ W2 0 (by omega) hk6
        try dsimp only at HC
        rw [hc1] at HC
        try unfold NC.val at HC
        go_wp2_with fail
        refine HC.mono ?_; rintro e W3 ⟨rfl, hC⟩
        have hD3 := hD2.trans (hC.mono hD2.size)
        have hE3 := HB1.out.trans (hD3.mono (by rw [HS1.out]; omega))
        clear HC hC hD2 hE2 x0 x1 x2 x3 x4
        obtain ⟨x0, x1, x2, x3, x4⟩ := HBX.out.same (hD3.block w.heap.size (by rw [HS1.out]; omega))
        dsimp only at x0 x1 x2 x3 x4
        go_wp2_with fail
        all_goals
          try rw [Exit.noGoto_ret]
          go_ret
          exact ⟨by rw [HR.out]; first | rfl | (refine congrArg (fun b => Ending.returned (Value.bool b)) (?_ : _ = _); simp <;> first | assumption | omega), hE3⟩
      | false =>
        have HR : Hid (t.kinds.pat = false) := by show _ = _; rw [HQ.out]; first | (simp [patK, varK, bareK, HML.out, hc0, hc1]; done) | (have hla := hc1; simp only [Bool.and_eq_false_iff, decide_eq_false_iff_not] at hla; rcases hla with h | h <;> simp [patK, varK, bareK, HML.out, hc0, hc1, h])
        have hD1 := Below.refl W1.heap.size W1
        have hE1 := HB1.out
        obtain ⟨x0, x1, x2, x3, x4⟩ := HBX.out
        dsimp only at x0 x1 x2 x3 x4
        have HC := refvar_text txt W1 hTx
        try dsimp only at HC
        rw [hc0] at HC
        try unfold NC.val at HC
        go_wp2_with fail
        refine HC.mono ?_; rintro e W2 ⟨rfl, hC⟩
        have hD2 := hD1.trans (hC.mono hD1.size)
        have hE2 := HB1.out.trans (hD2.mono (by rw [HS1.out]; omega))
        clear HC hC hD1 hE1 x0 x1 x2 x3 x4
        obtain ⟨x0, x1, x2, x3, x4⟩ := HBX.out.same (hD2.block w.heap.size (by rw [HS1.out]; omega))
        dsimp only at x0 x1 x2 x3 x4
        have HC := plain_any ⟨11, ps, n, txt, kp, kl, kc⟩ W2 0 (by omega) hk6
        try dsimp only at HC
        rw [hc1] at HC
        try unfold NC.val at HC
        go_wp2_with fail
        refine HC.mono ?_; rintro e W3 ⟨rfl, hC⟩
        have hD3 := hD2.trans (hC.mono hD2.size)
        have hE3 := HB1.out.trans (hD3.mono (by rw [HS1.out]; omega))
        clear HC hC hD2 hE2 x0 x1 x2 x3 x4
        obtain ⟨x0, x1, x2, x3, x4⟩ := HBX.out.same (hD3.block w.heap.size (by rw [HS1.out]; omega))
        dsimp only at x0 x1 x2 x3 x4
        go_wp2_with fail
        all_goals
          try rw [Exit.noGoto_ret]
          go_ret
          exact ⟨by rw [HR.out]; first | rfl | (refine congrArg (fun b => Ending.returned (Value.bool b)) (?_ : _ = _); simp <;> first | assumption | omega), hE3⟩
    | false =>
      have HR : Hid (t.kinds.pat = false) := by show _ = _; rw [HQ.out]; first | (simp [patK, varK, bareK, HML.out, hc0]; done) | (have hla := hc0; simp only [Bool.and_eq_false_iff, decide_eq_false_iff_not] at hla; rcases hla with h | h <;> simp [patK, varK, bareK, HML.out, hc0, h])
      have hD1 := Below.refl W1.heap.size W1
      have hE1 := HB1.out
      obtain ⟨x0, x1, x2, x3, x4⟩ := HBX.out
      dsimp only at x0 x1 x2 x3 x4
      have HC := refvar_text txt W1 hTx
      try dsimp only at HC
      rw [hc0] at HC
      try unfold NC.val at HC
      go_wp2_with fail
      refine HC.mono ?_; rintro e W2 ⟨rfl, hC⟩
      have hD2 := hD1.trans (hC.mono hD1.size)
      have hE2 := HB1.out.trans (hD2.mono (by rw [HS1.out]; omega))
      clear HC hC hD1 hE1 x0 x1 x2 x3 x4
      obtain ⟨x0, x1, x2, x3, x4⟩ := HBX.out.same (hD2.block w.heap.size (by rw [HS1.out]; omega))
      dsimp only at x0 x1 x2 x3 x4
      go_wp2_with fail
      all_goals
        try rw [Exit.noGoto_ret]
        go_ret
        exact ⟨by rw [HR.out]; first | rfl | (refine congrArg (fun b => Ending.returned (Value.bool b)) (?_ : _ = _); simp <;> first | assumption | omega), hE2⟩
  case neg =>
    by_cases hk12_1 : k = 12
    case pos =>
      subst hk12_1
      by_cases htxt0_1 : txt = []
      case pos =>
        subst htxt0_1
        cases hc1 : decide (n = 0) && decide (kl = 0) with
        | true =>
          have HR : Hid (t.kinds.pat = true) := by show _ = _; rw [HQ.out]; simp [patK, varK, bareK, HML.out, hk11_0, hc1]
          have hD1 := Below.refl W1.heap.size W1
          have hE1 := HB1.out
          obtain ⟨x0, x1, x2, x3, x4⟩ := HBX.out
          dsimp only at x0 x1 x2 x3 x4
          have HC := plain_any ⟨12, ps, n, [], kp, kl, kc⟩ W1 0 (by omega) hk6
          try dsimp only at HC
          rw [hc1] at HC
          try unfold NC.val at HC
          go_wp2_with fail
          refine HC.mono ?_; rintro e W2 ⟨rfl, hC⟩
          have hD2 := hD1.trans (hC.mono hD1.size)
          have hE2 := HB1.out.trans (hD2.mono (by rw [HS1.out]; omega))
          clear HC hC hD1 hE1 x0 x1 x2 x3 x4
          obtain ⟨x0, x1, x2, x3, x4⟩ := HBX.out.same (hD2.block w.heap.size (by rw [HS1.out]; omega))
          dsimp only at x0 x1 x2 x3 x4
          go_wp2_with fail
          all_goals
            try rw [Exit.noGoto_ret]
            go_ret
            exact ⟨by rw [HR.out]; first | rfl | (refine congrArg (fun b => Ending.returned (Value.bool b)) (?_ : _ = _); simp <;> first | assumption | omega), hE2⟩
        | false =>
          have HR : Hid (t.kinds.pat = false) := by show _ = _; rw [HQ.out]; first | (simp [patK, varK, bareK, HML.out, hk11_0, hc1]; done) | (have hla := hc1; simp only [Bool.and_eq_false_iff, decide_eq_false_iff_not] at hla; rcases hla with h | h <;> simp [patK, varK, bareK, HML.out, hk11_0, hc1, h])
          have hD1 := Below.refl W1.heap.size W1
          have hE1 := HB1.out
          obtain ⟨x0, x1, x2, x3, x4⟩ := HBX.out
          dsimp only at x0 x1 x2 x3 x4
          have HC := plain_any ⟨12, ps, n, [], kp, kl, kc⟩ W1 0 (by omega) hk6
          try dsimp only at HC
          rw [hc1] at HC
          try unfold NC.val at HC
          go_wp2_with fail
          refine HC.mono ?_; rintro e W2 ⟨rfl, hC⟩
          have hD2 := hD1.trans (hC.mono hD1.size)
          have hE2 := HB1.out.trans (hD2.mono (by rw [HS1.out]; omega))
          clear HC hC hD1 hE1 x0 x1 x2 x3 x4
          obtain ⟨x0, x1, x2, x3, x4⟩ := HBX.out.same (hD2.block w.heap.size (by rw [HS1.out]; omega))
          dsimp only at x0 x1 x2 x3 x4
          go_wp2_with fail
          all_goals
            try rw [Exit.noGoto_ret]
            go_ret
            exact ⟨by rw [HR.out]; first | rfl | (refine congrArg (fun b => Ending.returned (Value.bool b)) (?_ : _ = _); simp <;> first | assumption | omega), hE2⟩
      case neg =>
        have HR : Hid (t.kinds.pat = false) := by show _ = _; rw [HQ.out]; simp [patK, varK, bareK, HML.out, hk11_0, htxt0_1]
        have hD1 := Below.refl W1.heap.size W1
        have hE1 := HB1.out
        obtain ⟨x0, x1, x2, x3, x4⟩ := HBX.out
        dsimp only at x0 x1 x2 x3 x4
        go_wp2_with fail
        all_goals
          try rw [Exit.noGoto_ret]
          go_ret
          exact ⟨by rw [HR.out]; first | rfl | (refine congrArg (fun b => Ending.returned (Value.bool b)) (?_ : _ = _); simp <;> first | assumption | omega), hE1⟩
    case neg =>
      by_cases hk13_2 : k = 13
      case pos =>
        subst hk13_2
        by_cases htxt0_2 : txt = []
        case pos =>
          subst htxt0_2
          by_cases hnge_2 : 0 ≤ n
          case pos =>
            by_cases hlen0_3 : kl = 0
            case pos =>
              subst hlen0_3
              have HR : Hid (t.kinds.pat = true) := by show _ = _; rw [HQ.out]; simp [patK, varK, bareK, HML.out, hk11_0, hk12_1, hnge_2]
              have hD1 := Below.refl W1.heap.size W1
              have hE1 := HB1.out
              obtain ⟨x0, x1, x2, x3, x4⟩ := HBX.out
              dsimp only at x0 x1 x2 x3 x4
              go_wp2_with fail
              all_goals
                try rw [Exit.noGoto_ret]
                go_ret
                exact ⟨by rw [HR.out]; first | rfl | (refine congrArg (fun b => Ending.returned (Value.bool b)) (?_ : _ = _); simp <;> first | assumption | omega), hE1⟩
            case neg =>
              have hlen0_3' : ¬ (kl : Int) = 0 := by omega
              have HR : Hid (t.kinds.pat = false) := by show _ = _; rw [HQ.out]; simp [patK, varK, bareK, HML.out, hk11_0, hk12_1, hnge_2, hlen0_3]
              have hD1 := Below.refl W1.heap.size W1
              have hE1 := HB1.out
              obtain ⟨x0, x1, x2, x3, x4⟩ := HBX.out
              dsimp only at x0 x1 x2 x3 x4
              go_wp2_with fail
              all_goals
                try rw [Exit.noGoto_ret]
                go_ret
                exact ⟨by rw [HR.out]; first | rfl | (refine congrArg (fun b => Ending.returned (Value.bool b)) (?_ : _ = _); simp <;> first | assumption | omega), hE1⟩
          case neg =>
            have HR : Hid (t.kinds.pat = false) := by show _ = _; rw [HQ.out]; simp [patK, varK, bareK, HML.out, hk11_0, hk12_1, hnge_2]
            have hD1 := Below.refl W1.heap.size W1
            have hE1 := HB1.out
            obtain ⟨x0, x1, x2, x3, x4⟩ := HBX.out
            dsimp only at x0 x1 x2 x3 x4
            go_wp2_with fail
            all_goals
              try rw [Exit.noGoto_ret]
              go_ret
              exact ⟨by rw [HR.out]; first | rfl | (refine congrArg (fun b => Ending.returned (Value.bool b)) (?_ : _ = _); simp <;> first | assumption | omega), hE1⟩
        case neg =>
          have HR : Hid (t.kinds.pat = false) := by show _ = _; rw [HQ.out]; simp [patK, varK, bareK, HML.out, hk11_0, hk12_1, htxt0_2]
          have hD1 := Below.refl W1.heap.size W1
          have hE1 := HB1.out
          obtain ⟨x0, x1, x2, x3, x4⟩ := HBX.out
          dsimp only at x0 x1 x2 x3 x4
          go_wp2_with fail
          all_goals
            try rw [Exit.noGoto_ret]
            go_ret
            exact ⟨by rw [HR.out]; first | rfl | (refine congrArg (fun b => Ending.returned (Value.bool b)) (?_ : _ = _); simp <;> first | assumption | omega), hE1⟩
      case neg =>
        by_cases hk14_3 : k = 14
        case pos =>
          subst hk14_3
          cases hc3 : ((L.take kl).drop 0).all (·.pat) with
          | true =>
            have hz3 : L.all (·.pat) = true := by rw [← hc3, List.drop_zero, List.take_of_length_le (by rw [HML.out]; exact Nat.le_refl _)]
            cases hc4 : conB txt with
            | true =>
              by_cases hn0_5 : n = 0
              case pos =>
                subst hn0_5
                have HR : Hid (t.kinds.pat = true) := by show _ = _; rw [HQ.out]; simp [patK, varK, bareK, HML.out, hk11_0, hk12_1, hk13_2, hz3, hc4]
                have hD1 := Below.refl W1.heap.size W1
                have hE1 := HB1.out
                obtain ⟨x0, x1, x2, x3, x4⟩ := HBX.out
                dsimp only at x0 x1 x2 x3 x4
                have HLP := Lib.hid hc3
                clear hc3
                go_wp2_with fail
                go_loopg [3] (kl - 0) (fun g q wr => ∃ j : Nat, j + g = kl ∧ 0 ≤ j ∧ q = .int .i64 (j : Int) ∧ Hid (((L.take kl).drop j).all (·.pat) = true) ∧ Below W1.heap.size W1 wr)
                case atStart => exact ⟨0, by omega, Nat.le_refl _, (by first | rfl | go_num), HLP.out, hD1⟩
                case round =>
                  obtain ⟨j, hjg, haj, rfl, HJ, hDj⟩ := hrel
                  clear hD1 hE1
                  obtain ⟨W2, rfl⟩ : ∃ x : World, x = wr := ⟨_, rfl⟩
                  have hD2 := hDj
                  have hE2 := HB1.out.trans (hDj.mono (by rw [HS1.out]; omega))
                  clear hDj x0 x1 x2 x3 x4
                  cases gk with
                  | zero =>
                    have hlt' : ¬ (j : Int) < (kl : Int) := by omega
                    clear hjg haj
                    obtain ⟨x0, x1, x2, x3, x4⟩ := HBX.out.same (hD2.block w.heap.size (by rw [HS1.out]; omega))
                    dsimp only at x0 x1 x2 x3 x4
                    have HC := refcon_text txt W2 hTx
                    try dsimp only at HC
                    rw [hc4] at HC
                    try unfold NC.val at HC
                    go_wp2_with fail
                    refine HC.mono ?_; rintro e W3 ⟨rfl, hC⟩
                    have hD3 := hD2.trans (hC.mono hD2.size)
                    have hE3 := HB1.out.trans (hD3.mono (by rw [HS1.out]; omega))
                    clear HC hC hD2 hE2 x0 x1 x2 x3 x4
                    obtain ⟨x0, x1, x2, x3, x4⟩ := HBX.out.same (hD3.block w.heap.size (by rw [HS1.out]; omega))
                    dsimp only at x0 x1 x2 x3 x4
                    go_wp2_with fail
                    all_goals
                      try rw [Exit.noGoto_ret]
                      go_ret
                      exact ⟨by rw [HR.out]; first | rfl | (refine congrArg (fun b => Ending.returned (Value.bool b)) (?_ : _ = _); simp <;> first | assumption | omega), hE3⟩
                  | succ g =>
                    have hlt : j < kl := by omega
                    have hlt' : (j : Int) < (kl : Int) := by omega
                    have hjk : (j : Int) < (kl : Int) := by omega
                    have hjl : j < kl := by omega
                    have hj6 : (j : Int) ≤ 1000000 := by omega
                    have hjt : j < t.kids.length := by rw [← HLN.out]; exact hjl
                    obtain ⟨⟨kk, kps, kn, ktx, kkp, kkl, kkc⟩, gr, or, hpr, hgr, htr, hcr⟩ := HK.out.at j hjt
                    have HPR := Lib.hid hpr
                    have HGR := Lib.hid hgr
                    have HTR := Lib.hid htr
                    have HCR := Lib.hid hcr
                    have HKK : Hid (kk = t.kids[j].kind ∧ kn = t.kids[j].num ∧ ktx = t.kids[j].text ∧ kkl = t.kids[j].kids.length) := ⟨htr.kind, htr.num, htr.text, htr.len⟩
                    have HPS : Hid (((L.take kl).drop j).all (·.pat) = (((·.pat) t.kids[j].kinds) && ((L.take kl).drop (j + 1)).all (·.pat))) := by
                      show _ = _
                      rw [HL.out, List.drop_eq_getElem_cons (by rw [List.length_take, List.length_map]; omega), List.all_cons, List.getElem_take, List.getElem_map]
                    have htK : Nd.Fit t.kids[j] := ht.kid (List.getElem_mem _)
                    have hTxK : ktx.length ≤ maxLen := by rw [HKK.out.2.2.1]; exact htK.text
                    have hkk6 : kkl ≤ 1000000 := by rw [HKK.out.2.2.2]; exact htK.len
                    have HKE : Hid (((·.pat) t.kids[j].kinds) = (t.kids[j].kinds.pat)) := by
                      show _ = _
                      rfl
                    clear hpr hgr htr hcr
                    cases hq0 : t.kids[j].kinds.pat with
                    | true =>
                      have HPv : Hid (((·.pat) t.kids[j].kinds) = true) := by show _ = _; rw [HKE.out]; simp [hq0]
                      have HJ2 : Hid (((L.take kl).drop (j + 1)).all (·.pat) = true) := by show _ = _; have h1 := HJ.out; rw [HPS.out, HPv.out, Bool.true_and] at h1; exact h1
                      obtain ⟨x0, x1, x2, x3, x4⟩ := HBX.out.same (hD2.block w.heap.size (by rw [HS1.out]; omega))
                      dsimp only at x0 x1 x2 x3 x4
                      obtain ⟨r0, r1, r2, r3, r4⟩ := HCR.out W2 (hE2.block _ HGR.out)
                      try dsimp only at r0 r1 r2 r3 r4
                      rw [HPR.out] at x4
                      have HC := hPats _ (List.getElem_mem hjt) _ W2 (HTR.out.later hE2)
                      try dsimp only at HC
                      rw [hq0] at HC
                      try unfold NC.val at HC
                      go_wp2_with fail
                      refine HC.mono ?_; rintro e W4 ⟨rfl, hC⟩
                      have hD4 := hD2.trans (hC.mono hD2.size)
                      have hE4 := HB1.out.trans (hD4.mono (by rw [HS1.out]; omega))
                      clear HC hC hD2 hE2 x0 x1 x2 x3 x4 r0 r1 r2 r3 r4
                      obtain ⟨x0, x1, x2, x3, x4⟩ := HBX.out.same (hD4.block w.heap.size (by rw [HS1.out]; omega))
                      dsimp only at x0 x1 x2 x3 x4
                      obtain ⟨r0, r1, r2, r3, r4⟩ := HCR.out W4 (hE4.block _ HGR.out)
                      try dsimp only at r0 r1 r2 r3 r4
                      rw [HPR.out] at x4
                      go_wp2_with fail
                      go_roundg g
                      case measure => omega
                      case rel => exact ⟨j + 1, by omega, by omega, (by go_num), HJ2, hD4⟩
                    | false =>
                      have HPv : Hid (((·.pat) t.kids[j].kinds) = false) := by show _ = _; rw [HKE.out]; simp [hq0]
                      exact absurd HJ.out (by rw [HPS.out, HPv.out]; simp)
              case neg =>
                have HR : Hid (t.kinds.pat = false) := by show _ = _; rw [HQ.out]; simp [patK, varK, bareK, HML.out, hk11_0, hk12_1, hk13_2, hz3, hc4, hn0_5]
                have hD1 := Below.refl W1.heap.size W1
                have hE1 := HB1.out
                obtain ⟨x0, x1, x2, x3, x4⟩ := HBX.out
                dsimp only at x0 x1 x2 x3 x4
                have HLP := Lib.hid hc3
                clear hc3
                go_wp2_with fail
                go_loopg [3] (kl - 0) (fun g q wr => ∃ j : Nat, j + g = kl ∧ 0 ≤ j ∧ q = .int .i64 (j : Int) ∧ Hid (((L.take kl).drop j).all (·.pat) = true) ∧ Below W1.heap.size W1 wr)
                case atStart => exact ⟨0, by omega, Nat.le_refl _, (by first | rfl | go_num), HLP.out, hD1⟩
                case round =>
                  obtain ⟨j, hjg, haj, rfl, HJ, hDj⟩ := hrel
                  clear hD1 hE1
                  obtain ⟨W2, rfl⟩ : ∃ x : World, x = wr := ⟨_, rfl⟩
                  have hD2 := hDj
                  have hE2 := HB1.out.trans (hDj.mono (by rw [HS1.out]; omega))
                  clear hDj x0 x1 x2 x3 x4
                  cases gk with
                  | zero =>
                    have hlt' : ¬ (j : Int) < (kl : Int) := by omega
                    clear hjg haj
                    obtain ⟨x0, x1, x2, x3, x4⟩ := HBX.out.same (hD2.block w.heap.size (by rw [HS1.out]; omega))
                    dsimp only at x0 x1 x2 x3 x4
                    have HC := refcon_text txt W2 hTx
                    try dsimp only at HC
                    rw [hc4] at HC
                    try unfold NC.val at HC
                    go_wp2_with fail
                    refine HC.mono ?_; rintro e W3 ⟨rfl, hC⟩
                    have hD3 := hD2.trans (hC.mono hD2.size)
                    have hE3 := HB1.out.trans (hD3.mono (by rw [HS1.out]; omega))
                    clear HC hC hD2 hE2 x0 x1 x2 x3 x4
                    obtain ⟨x0, x1, x2, x3, x4⟩ := HBX.out.same (hD3.block w.heap.size (by rw [HS1.out]; omega))
                    dsimp only at x0 x1 x2 x3 x4
                    go_wp2_with fail
                    all_goals
                      try rw [Exit.noGoto_ret]
                      go_ret
                      exact ⟨by rw [HR.out]; first | rfl | (refine congrArg (fun b => Ending.returned (Value.bool b)) (?_ : _ = _); simp <;> first | assumption | omega), hE3⟩
                  | succ g =>
                    have hlt : j < kl := by omega
                    have hlt' : (j : Int) < (kl : Int) := by omega
                    have hjk : (j : Int) < (kl : Int) := by omega
                    have hjl : j < kl := by omega
                    have hj6 : (j : Int) ≤ 1000000 := by omega
                    have hjt : j < t.kids.length := by rw [← HLN.out]; exact hjl
                    obtain ⟨⟨kk, kps, kn, ktx, kkp, kkl, kkc⟩, gr, or, hpr, hgr, htr, hcr⟩ := HK.out.at j hjt
                    have HPR := Lib.hid hpr
                    have HGR := Lib.hid hgr
                    have HTR := Lib.hid htr
                    have HCR := Lib.hid hcr
                    have HKK : Hid (kk = t.kids[j].kind ∧ kn = t.kids[j].num ∧ ktx = t.kids[j].text ∧ kkl = t.kids[j].kids.length) := ⟨htr.kind, htr.num, htr.text, htr.len⟩
                    have HPS : Hid (((L.take kl).drop j).all (·.pat) = (((·.pat) t.kids[j].kinds) && ((L.take kl).drop (j + 1)).all (·.pat))) := by
                      show _ = _
                      rw [HL.out, List.drop_eq_getElem_cons (by rw [List.length_take, List.length_map]; omega), List.all_cons, List.getElem_take, List.getElem_map]
                    have htK : Nd.Fit t.kids[j] := ht.kid (List.getElem_mem _)
                    have hTxK : ktx.length ≤ maxLen := by rw [HKK.out.2.2.1]; exact htK.text
                    have hkk6 : kkl ≤ 1000000 := by rw [HKK.out.2.2.2]; exact htK.len
                    have HKE : Hid (((·.pat) t.kids[j].kinds) = (t.kids[j].kinds.pat)) := by
                      show _ = _
                      rfl
                    clear hpr hgr htr hcr
                    cases hq0 : t.kids[j].kinds.pat with
                    | true =>
                      have HPv : Hid (((·.pat) t.kids[j].kinds) = true) := by show _ = _; rw [HKE.out]; simp [hq0]
                      have HJ2 : Hid (((L.take kl).drop (j + 1)).all (·.pat) = true) := by show _ = _; have h1 := HJ.out; rw [HPS.out, HPv.out, Bool.true_and] at h1; exact h1
                      obtain ⟨x0, x1, x2, x3, x4⟩ := HBX.out.same (hD2.block w.heap.size (by rw [HS1.out]; omega))
                      dsimp only at x0 x1 x2 x3 x4
                      obtain ⟨r0, r1, r2, r3, r4⟩ := HCR.out W2 (hE2.block _ HGR.out)
                      try dsimp only at r0 r1 r2 r3 r4
                      rw [HPR.out] at x4
                      have HC := hPats _ (List.getElem_mem hjt) _ W2 (HTR.out.later hE2)
                      try dsimp only at HC
                      rw [hq0] at HC
                      try unfold NC.val at HC
                      go_wp2_with fail
                      refine HC.mono ?_; rintro e W4 ⟨rfl, hC⟩
                      have hD4 := hD2.trans (hC.mono hD2.size)
                      have hE4 := HB1.out.trans (hD4.mono (by rw [HS1.out]; omega))
                      clear HC hC hD2 hE2 x0 x1 x2 x3 x4 r0 r1 r2 r3 r4
                      obtain ⟨x0, x1, x2, x3, x4⟩ := HBX.out.same (hD4.block w.heap.size (by rw [HS1.out]; omega))
                      dsimp only at x0 x1 x2 x3 x4
                      obtain ⟨r0, r1, r2, r3, r4⟩ := HCR.out W4 (hE4.block _ HGR.out)
                      try dsimp only at r0 r1 r2 r3 r4
                      rw [HPR.out] at x4
                      go_wp2_with fail
                      go_roundg g
                      case measure => omega
                      case rel => exact ⟨j + 1, by omega, by omega, (by go_num), HJ2, hD4⟩
                    | false =>
                      have HPv : Hid (((·.pat) t.kids[j].kinds) = false) := by show _ = _; rw [HKE.out]; simp [hq0]
                      exact absurd HJ.out (by rw [HPS.out, HPv.out]; simp)
            | false =>
              have HR : Hid (t.kinds.pat = false) := by show _ = _; rw [HQ.out]; first | (simp [patK, varK, bareK, HML.out, hk11_0, hk12_1, hk13_2, hz3, hc4]; done) | (have hla := hc4; simp only [Bool.and_eq_false_iff, decide_eq_false_iff_not] at hla; rcases hla with h | h <;> simp [patK, varK, bareK, HML.out, hk11_0, hk12_1, hk13_2, hz3, hc4, h])
              have hD1 := Below.refl W1.heap.size W1
              have hE1 := HB1.out
              obtain ⟨x0, x1, x2, x3, x4⟩ := HBX.out
              dsimp only at x0 x1 x2 x3 x4
              have HLP := Lib.hid hc3
              clear hc3
              go_wp2_with fail
              go_loopg [3] (kl - 0) (fun g q wr => ∃ j : Nat, j + g = kl ∧ 0 ≤ j ∧ q = .int .i64 (j : Int) ∧ Hid (((L.take kl).drop j).all (·.pat) = true) ∧ Below W1.heap.size W1 wr)
              case atStart => exact ⟨0, by omega, Nat.le_refl _, (by first | rfl | go_num), HLP.out, hD1⟩
              case round =>
                obtain ⟨j, hjg, haj, rfl, HJ, hDj⟩ := hrel
                clear hD1 hE1
                obtain ⟨W2, rfl⟩ : ∃ x : World, x = wr := ⟨_, rfl⟩
                have hD2 := hDj
                have hE2 := HB1.out.trans (hDj.mono (by rw [HS1.out]; omega))
                clear hDj x0 x1 x2 x3 x4
                cases gk with
                | zero =>
                  have hlt' : ¬ (j : Int) < (kl : Int) := by omega
                  clear hjg haj
                  obtain ⟨x0, x1, x2, x3, x4⟩ := HBX.out.same (hD2.block w.heap.size (by rw [HS1.out]; omega))
                  dsimp only at x0 x1 x2 x3 x4
                  have HC := refcon_text txt W2 hTx
                  try dsimp only at HC
                  rw [hc4] at HC
                  try unfold NC.val at HC
                  go_wp2_with fail
                  refine HC.mono ?_; rintro e W3 ⟨rfl, hC⟩
                  have hD3 := hD2.trans (hC.mono hD2.size)
                  have hE3 := HB1.out.trans (hD3.mono (by rw [HS1.out]; omega))
                  clear HC hC hD2 hE2 x0 x1 x2 x3 x4
                  obtain ⟨x0, x1, x2, x3, x4⟩ := HBX.out.same (hD3.block w.heap.size (by rw [HS1.out]; omega))
                  dsimp only at x0 x1 x2 x3 x4
                  go_wp2_with fail
                  all_goals
                    try rw [Exit.noGoto_ret]
                    go_ret
                    exact ⟨by rw [HR.out]; first | rfl | (refine congrArg (fun b => Ending.returned (Value.bool b)) (?_ : _ = _); simp <;> first | assumption | omega), hE3⟩
                | succ g =>
                  have hlt : j < kl := by omega
                  have hlt' : (j : Int) < (kl : Int) := by omega
                  have hjk : (j : Int) < (kl : Int) := by omega
                  have hjl : j < kl := by omega
                  have hj6 : (j : Int) ≤ 1000000 := by omega
                  have hjt : j < t.kids.length := by rw [← HLN.out]; exact hjl
                  obtain ⟨⟨kk, kps, kn, ktx, kkp, kkl, kkc⟩, gr, or, hpr, hgr, htr, hcr⟩ := HK.out.at j hjt
                  have HPR := Lib.hid hpr
                  have HGR := Lib.hid hgr
                  have HTR := Lib.hid htr
                  have HCR := Lib.hid hcr
                  have HKK : Hid (kk = t.kids[j].kind ∧ kn = t.kids[j].num ∧ ktx = t.kids[j].text ∧ kkl = t.kids[j].kids.length) := ⟨htr.kind, htr.num, htr.text, htr.len⟩
                  have HPS : Hid (((L.take kl).drop j).all (·.pat) = (((·.pat) t.kids[j].kinds) && ((L.take kl).drop (j + 1)).all (·.pat))) := by
                    show _ = _
                    rw [HL.out, List.drop_eq_getElem_cons (by rw [List.length_take, List.length_map]; omega), List.all_cons, List.getElem_take, List.getElem_map]
                  have htK : Nd.Fit t.kids[j] := ht.kid (List.getElem_mem _)
                  have hTxK : ktx.length ≤ maxLen := by rw [HKK.out.2.2.1]; exact htK.text
                  have hkk6 : kkl ≤ 1000000 := by rw [HKK.out.2.2.2]; exact htK.len
                  have HKE : Hid (((·.pat) t.kids[j].kinds) = (t.kids[j].kinds.pat)) := by
                    show _ = _
                    rfl
                  clear hpr hgr htr hcr
                  cases hq0 : t.kids[j].kinds.pat with
                  | true =>
                    have HPv : Hid (((·.pat) t.kids[j].kinds) = true) := by show _ = _; rw [HKE.out]; simp [hq0]
                    have HJ2 : Hid (((L.take kl).drop (j + 1)).all (·.pat) = true) := by show _ = _; have h1 := HJ.out; rw [HPS.out, HPv.out, Bool.true_and] at h1; exact h1
                    obtain ⟨x0, x1, x2, x3, x4⟩ := HBX.out.same (hD2.block w.heap.size (by rw [HS1.out]; omega))
                    dsimp only at x0 x1 x2 x3 x4
                    obtain ⟨r0, r1, r2, r3, r4⟩ := HCR.out W2 (hE2.block _ HGR.out)
                    try dsimp only at r0 r1 r2 r3 r4
                    rw [HPR.out] at x4
                    have HC := hPats _ (List.getElem_mem hjt) _ W2 (HTR.out.later hE2)
                    try dsimp only at HC
                    rw [hq0] at HC
                    try unfold NC.val at HC
                    go_wp2_with fail
                    refine HC.mono ?_; rintro e W4 ⟨rfl, hC⟩
                    have hD4 := hD2.trans (hC.mono hD2.size)
                    have hE4 := HB1.out.trans (hD4.mono (by rw [HS1.out]; omega))
                    clear HC hC hD2 hE2 x0 x1 x2 x3 x4 r0 r1 r2 r3 r4
                    obtain ⟨x0, x1, x2, x3, x4⟩ := HBX.out.same (hD4.block w.heap.size (by rw [HS1.out]; omega))
                    dsimp only at x0 x1 x2 x3 x4
                    obtain ⟨r0, r1, r2, r3, r4⟩ := HCR.out W4 (hE4.block _ HGR.out)
                    try dsimp only at r0 r1 r2 r3 r4
                    rw [HPR.out] at x4
                    go_wp2_with fail
                    go_roundg g
                    case measure => omega
                    case rel => exact ⟨j + 1, by omega, by omega, (by go_num), HJ2, hD4⟩
                  | false =>
                    have HPv : Hid (((·.pat) t.kids[j].kinds) = false) := by show _ = _; rw [HKE.out]; simp [hq0]
                    exact absurd HJ.out (by rw [HPS.out, HPv.out]; simp)
          | false =>
            have hz3 : L.all (·.pat) = false := by rw [← hc3, List.drop_zero, List.take_of_length_le (by rw [HML.out]; exact Nat.le_refl _)]
            have HR : Hid (t.kinds.pat = false) := by show _ = _; rw [HQ.out]; simp [patK, varK, bareK, HML.out, hk11_0, hk12_1, hk13_2, hz3]
            have hD1 := Below.refl W1.heap.size W1
            have hE1 := HB1.out
            obtain ⟨x0, x1, x2, x3, x4⟩ := HBX.out
            dsimp only at x0 x1 x2 x3 x4
            have HLP := Lib.hid hc3
            clear hc3
            go_wp2_with fail
            go_loopg [3] (kl - 0) (fun g q wr => ∃ j : Nat, j + g = kl ∧ 0 ≤ j ∧ q = .int .i64 (j : Int) ∧ Hid (((L.take kl).drop j).all (·.pat) = false) ∧ Below W1.heap.size W1 wr)
            case atStart => exact ⟨0, by omega, Nat.le_refl _, (by first | rfl | go_num), HLP.out, hD1⟩
            case round =>
              obtain ⟨j, hjg, haj, rfl, HJ, hDj⟩ := hrel
              clear hD1 hE1
              obtain ⟨W2, rfl⟩ : ∃ x : World, x = wr := ⟨_, rfl⟩
              have hD2 := hDj
              have hE2 := HB1.out.trans (hDj.mono (by rw [HS1.out]; omega))
              clear hDj x0 x1 x2 x3 x4
              cases gk with
              | zero =>
                exfalso
                have h0 := HJ.out
                rw [List.drop_eq_nil_of_le (by rw [List.length_take, HML.out]; omega)] at h0
                simp at h0
              | succ g =>
                have hlt : j < kl := by omega
                have hlt' : (j : Int) < (kl : Int) := by omega
                have hjk : (j : Int) < (kl : Int) := by omega
                have hjl : j < kl := by omega
                have hj6 : (j : Int) ≤ 1000000 := by omega
                have hjt : j < t.kids.length := by rw [← HLN.out]; exact hjl
                obtain ⟨⟨kk, kps, kn, ktx, kkp, kkl, kkc⟩, gr, or, hpr, hgr, htr, hcr⟩ := HK.out.at j hjt
                have HPR := Lib.hid hpr
                have HGR := Lib.hid hgr
                have HTR := Lib.hid htr
                have HCR := Lib.hid hcr
                have HKK : Hid (kk = t.kids[j].kind ∧ kn = t.kids[j].num ∧ ktx = t.kids[j].text ∧ kkl = t.kids[j].kids.length) := ⟨htr.kind, htr.num, htr.text, htr.len⟩
                have HPS : Hid (((L.take kl).drop j).all (·.pat) = (((·.pat) t.kids[j].kinds) && ((L.take kl).drop (j + 1)).all (·.pat))) := by
                  show _ = _
                  rw [HL.out, List.drop_eq_getElem_cons (by rw [List.length_take, List.length_map]; omega), List.all_cons, List.getElem_take, List.getElem_map]
                have htK : Nd.Fit t.kids[j] := ht.kid (List.getElem_mem _)
                have hTxK : ktx.length ≤ maxLen := by rw [HKK.out.2.2.1]; exact htK.text
                have hkk6 : kkl ≤ 1000000 := by rw [HKK.out.2.2.2]; exact htK.len
                have HKE : Hid (((·.pat) t.kids[j].kinds) = (t.kids[j].kinds.pat)) := by
                  show _ = _
                  rfl
                clear hpr hgr htr hcr
                cases hq0 : t.kids[j].kinds.pat with
                | true =>
                  have HPv : Hid (((·.pat) t.kids[j].kinds) = true) := by show _ = _; rw [HKE.out]; simp [hq0]
                  have HJ2 : Hid (((L.take kl).drop (j + 1)).all (·.pat) = false) := by show _ = _; have h1 := HJ.out; rw [HPS.out, HPv.out, Bool.true_and] at h1; exact h1
                  obtain ⟨x0, x1, x2, x3, x4⟩ := HBX.out.same (hD2.block w.heap.size (by rw [HS1.out]; omega))
                  dsimp only at x0 x1 x2 x3 x4
                  obtain ⟨r0, r1, r2, r3, r4⟩ := HCR.out W2 (hE2.block _ HGR.out)
                  try dsimp only at r0 r1 r2 r3 r4
                  rw [HPR.out] at x4
                  have HC := hPats _ (List.getElem_mem hjt) _ W2 (HTR.out.later hE2)
                  try dsimp only at HC
                  rw [hq0] at HC
                  try unfold NC.val at HC
                  go_wp2_with fail
                  refine HC.mono ?_; rintro e W3 ⟨rfl, hC⟩
                  have hD3 := hD2.trans (hC.mono hD2.size)
                  have hE3 := HB1.out.trans (hD3.mono (by rw [HS1.out]; omega))
                  clear HC hC hD2 hE2 x0 x1 x2 x3 x4 r0 r1 r2 r3 r4
                  obtain ⟨x0, x1, x2, x3, x4⟩ := HBX.out.same (hD3.block w.heap.size (by rw [HS1.out]; omega))
                  dsimp only at x0 x1 x2 x3 x4
                  obtain ⟨r0, r1, r2, r3, r4⟩ := HCR.out W3 (hE3.block _ HGR.out)
                  try dsimp only at r0 r1 r2 r3 r4
                  rw [HPR.out] at x4
                  go_wp2_with fail
                  go_roundg g
                  case measure => omega
                  case rel => exact ⟨j + 1, by omega, by omega, (by go_num), HJ2, hD3⟩
                | false =>
                  have HPv : Hid (((·.pat) t.kids[j].kinds) = false) := by show _ = _; rw [HKE.out]; simp [hq0]
                  obtain ⟨x0, x1, x2, x3, x4⟩ := HBX.out.same (hD2.block w.heap.size (by rw [HS1.out]; omega))
                  dsimp only at x0 x1 x2 x3 x4
                  obtain ⟨r0, r1, r2, r3, r4⟩ := HCR.out W2 (hE2.block _ HGR.out)
                  try dsimp only at r0 r1 r2 r3 r4
                  rw [HPR.out] at x4
                  have HC := hPats _ (List.getElem_mem hjt) _ W2 (HTR.out.later hE2)
                  try dsimp only at HC
                  rw [hq0] at HC
                  try unfold NC.val at HC
                  go_wp2_with fail
                  refine HC.mono ?_; rintro e W3 ⟨rfl, hC⟩
                  have hD3 := hD2.trans (hC.mono hD2.size)
                  have hE3 := HB1.out.trans (hD3.mono (by rw [HS1.out]; omega))
                  clear HC hC hD2 hE2 x0 x1 x2 x3 x4 r0 r1 r2 r3 r4
                  obtain ⟨x0, x1, x2, x3, x4⟩ := HBX.out.same (hD3.block w.heap.size (by rw [HS1.out]; omega))
                  dsimp only at x0 x1 x2 x3 x4
                  obtain ⟨r0, r1, r2, r3, r4⟩ := HCR.out W3 (hE3.block _ HGR.out)
                  try dsimp only at r0 r1 r2 r3 r4
                  rw [HPR.out] at x4
                  go_wp2_with fail
                  all_goals
                    try rw [Exit.noGoto_ret]
                    go_ret
                    exact ⟨by rw [HR.out]; first | rfl | (refine congrArg (fun b => Ending.returned (Value.bool b)) (?_ : _ = _); simp <;> first | assumption | omega), hE3⟩
        case neg =>
          have HR : Hid (t.kinds.pat = false) := by show _ = _; rw [HQ.out]; simp [patK, varK, bareK, HML.out, hk11_0, hk12_1, hk13_2, hk14_3]
          have hD1 := Below.refl W1.heap.size W1
          have hE1 := HB1.out
          obtain ⟨x0, x1, x2, x3, x4⟩ := HBX.out
          dsimp only at x0 x1 x2 x3 x4
          go_wp2_with fail
          all_goals
            try rw [Exit.noGoto_ret]
            go_ret
            exact ⟨by rw [HR.out]; first | rfl | (refine congrArg (fun b => Ending.returned (Value.bool b)) (?_ : _ = _); simp <;> first | assumption | omega), hE1⟩
theorem rispat_any (t : Nd) : Nd.Fit t → Is 33 (fun t => t.kinds.pat) t := by
  induction t using Nd.by_size with
  | h t ih => exact fun ht => rispat_step t ht fun t' h => ih t' (Nd.kid_lt h) (ht.kid h)
set_option maxRecDepth 100000 in
set_option maxHeartbeats 4000000 in
theorem rsig_any (t : Nd) (ht : Nd.Fit t) : Is 59 (fun t => t.kinds.sig) t := by
  intro c w h
  obtain ⟨k, ps, n, txt, kp, kl, kc⟩ := c
  obtain ⟨L, hL⟩ : ∃ L, L = t.kids.map Nd.kinds := ⟨_, rfl⟩
  have HQ : Hid (t.kinds.sig = (sigK k n txt L)) := by
    show _ = _
    try rw [hL]
    rw [Nd.kinds_eq, ← h.kind, ← h.num, ← h.text]; rfl
  have hTx : txt.length ≤ maxLen := by have := h.text; dsimp only at this; rw [this]; exact ht.text
  have HLN : Hid (kl = t.kids.length) := h.len
  have HML : Hid (L.length = kl) := by show _ = _; rw [hL, List.length_map, HLN.out]
  have hk6 : kl ≤ 1000000 := by rw [HLN.out]; exact ht.len
  have hkc : kl ≤ kc := h.fits
  have HTL : Hid (t.kids.length ≤ 1000000) := ht.len
  have HK := Lib.hid h.kids
  have HT := Lib.hid h
  have HNUM : Hid (n = t.num) := h.num
  have HTXT : Hid (txt = t.text) := h.text
  have HL := Lib.hid hL
  dsimp only at HK
  clear h hL
  unfold NC.val
  obtain ⟨W1, hW1⟩ : ∃ W1, W1 = w.alloc (.cells #[.int .i64 k, .int .i64 ps, .int .i64 n, .string ⟨txt.toArray⟩, .slice kp kl kc] 24) := ⟨_, rfl⟩
  have HBX : Hid (NBox W1 w.heap.size ⟨k, ps, n, txt, kp, kl, kc⟩) := by rw [hW1]; exact NBox.new w ⟨k, ps, n, txt, kp, kl, kc⟩ 24
  have HB1 : Hid (Below w.heap.size w W1) := by rw [hW1]; exact (Below.refl _ w).alloc (Nat.le_refl _) _
  have hs1 : W1.heap.size = w.heap.size + 1 := by rw [hW1]; simp
  have HS1 := Lib.hid hs1
  have HW1 := Lib.hid hW1
  clear hW1 hs1
  go_enter Try.func59, Try.ntmps59
  go_upto_region 1 with fail
  rw [← HW1.out]
  clear HW1
  by_cases hk32_0 : k = 32
  case pos =>
    subst hk32_0
    cases hc0 : varB txt with
    | true =>
      cases hc1 : decide (n = 0) && decide (kl = 1) with
      | true =>
        have hz_2 := hc1
        simp only [Bool.and_eq_true, decide_eq_true_eq] at hz_2
        obtain ⟨rfl, rfl⟩ := hz_2
        clear hc1
        cases hc1 : atK L 0 (·.qual) with
        | true =>
          obtain ⟨kc_p, g_p, o_p, hp_p, hg_p, ht_p, hc_p⟩ := HK.out.at 0 (by rw [← HLN.out]; omega)
          subst hp_p
          have HG_p := Lib.hid hg_p
          have HT_p := Lib.hid ht_p
          have HC_p := Lib.hid hc_p
          clear hg_p ht_p hc_p
          have HR : Hid (t.kinds.sig = true) := by show _ = _; rw [HQ.out]; simp [sigK, varK, HML.out, hc0, hc1]
          have hD1 := Below.refl W1.heap.size W1
          have hE1 := HB1.out
          obtain ⟨x0, x1, x2, x3, x4⟩ := HBX.out
          dsimp only at x0 x1 x2 x3 x4
          obtain ⟨p0, p1, p2, p3, p4⟩ := HC_p.out W1 (hE1.block _ HG_p.out)
          simp only [Nat.zero_mul, Nat.add_zero] at p0 p1 p2 p3 p4
          have HC := refvar_text txt W1 hTx
          try dsimp only at HC
          rw [hc0] at HC
          try unfold NC.val at HC
          go_wp2_with fail
          refine HC.mono ?_; rintro e W2 ⟨rfl, hC⟩
          have hD2 := hD1.trans (hC.mono hD1.size)
          have hE2 := HB1.out.trans (hD2.mono (by rw [HS1.out]; omega))
          clear HC hC hD1 hE1 x0 x1 x2 x3 x4 p0 p1 p2 p3 p4
          obtain ⟨x0, x1, x2, x3, x4⟩ := HBX.out.same (hD2.block w.heap.size (by rw [HS1.out]; omega))
          dsimp only at x0 x1 x2 x3 x4
          obtain ⟨p0, p1, p2, p3, p4⟩ := HC_p.out W2 (hE2.block _ HG_p.out)
          simp only [Nat.zero_mul, Nat.add_zero] at p0 p1 p2 p3 p4
          have HC := plain_yes ⟨32, ps, 0, txt, (some ⟨g_p, o_p, none⟩), 1, kc⟩ W2 1 (by omega) hk6 rfl rfl
          try dsimp only at HC
          try unfold NC.val at HC
          go_wp2_with fail
          refine HC.mono ?_; rintro e W3 ⟨rfl, hC⟩
          have hD3 := hD2.trans (hC.mono hD2.size)
          have hE3 := HB1.out.trans (hD3.mono (by rw [HS1.out]; omega))
          clear HC hC hD2 hE2 x0 x1 x2 x3 x4 p0 p1 p2 p3 p4
          obtain ⟨x0, x1, x2, x3, x4⟩ := HBX.out.same (hD3.block w.heap.size (by rw [HS1.out]; omega))
          dsimp only at x0 x1 x2 x3 x4
          obtain ⟨p0, p1, p2, p3, p4⟩ := HC_p.out W3 (hE3.block _ HG_p.out)
          simp only [Nat.zero_mul, Nat.add_zero] at p0 p1 p2 p3 p4
          have HC := (rqual_any _ (ht.kid (List.getElem_mem _))) kc_p W3 (HT_p.out.later hE3)
          try dsimp only at HC
          have hcv : _ = _ := ((atK_map t.kids 0 (·.qual) (by rw [← HLN.out]; omega)).symm.trans (by rw [HL.out]) : (t.kids[0]'(by rw [← HLN.out]; omega)).kinds.qual = atK L 0 (·.qual))
          rw [hcv, hc1] at HC
          try unfold NC.val at HC
          go_wp2_with fail
          refine HC.mono ?_; rintro e W4 ⟨rfl, hC⟩
          have hD4 := hD3.trans (hC.mono hD3.size)
          have hE4 := HB1.out.trans (hD4.mono (by rw [HS1.out]; omega))
          clear HC hC hD3 hE3 x0 x1 x2 x3 x4 hcv p0 p1 p2 p3 p4
          obtain ⟨x0, x1, x2, x3, x4⟩ := HBX.out.same (hD4.block w.heap.size (by rw [HS1.out]; omega))
          dsimp only at x0 x1 x2 x3 x4
          obtain ⟨p0, p1, p2, p3, p4⟩ := HC_p.out W4 (hE4.block _ HG_p.out)
          simp only [Nat.zero_mul, Nat.add_zero] at p0 p1 p2 p3 p4
          go_wp2_with fail
          all_goals
            try rw [Exit.noGoto_ret]
            go_ret
            exact ⟨by rw [HR.out]; first | rfl | (refine congrArg (fun b => Ending.returned (Value.bool b)) (?_ : _ = _); simp <;> first | assumption | omega), hE4⟩
        | false =>
          obtain ⟨kc_p, g_p, o_p, hp_p, hg_p, ht_p, hc_p⟩ := HK.out.at 0 (by rw [← HLN.out]; omega)
          subst hp_p
          have HG_p := Lib.hid hg_p
          have HT_p := Lib.hid ht_p
          have HC_p := Lib.hid hc_p
          clear hg_p ht_p hc_p
          have HR : Hid (t.kinds.sig = false) := by show _ = _; rw [HQ.out]; first | (simp [sigK, varK, HML.out, hc0, hc1]; done) | (have hla := hc1; simp only [Bool.and_eq_false_iff, decide_eq_false_iff_not] at hla; rcases hla with h | h <;> simp [sigK, varK, HML.out, hc0, hc1, h])
          have hD1 := Below.refl W1.heap.size W1
          have hE1 := HB1.out
          obtain ⟨x0, x1, x2, x3, x4⟩ := HBX.out
          dsimp only at x0 x1 x2 x3 x4
          obtain ⟨p0, p1, p2, p3, p4⟩ := HC_p.out W1 (hE1.block _ HG_p.out)
          simp only [Nat.zero_mul, Nat.add_zero] at p0 p1 p2 p3 p4
          have HC := refvar_text txt W1 hTx
          try dsimp only at HC
          rw [hc0] at HC
          try unfold NC.val at HC
          go_wp2_with fail
          refine HC.mono ?_; rintro e W2 ⟨rfl, hC⟩
          have hD2 := hD1.trans (hC.mono hD1.size)
          have hE2 := HB1.out.trans (hD2.mono (by rw [HS1.out]; omega))
          clear HC hC hD1 hE1 x0 x1 x2 x3 x4 p0 p1 p2 p3 p4
          obtain ⟨x0, x1, x2, x3, x4⟩ := HBX.out.same (hD2.block w.heap.size (by rw [HS1.out]; omega))
          dsimp only at x0 x1 x2 x3 x4
          obtain ⟨p0, p1, p2, p3, p4⟩ := HC_p.out W2 (hE2.block _ HG_p.out)
          simp only [Nat.zero_mul, Nat.add_zero] at p0 p1 p2 p3 p4
          have HC := plain_yes ⟨32, ps, 0, txt, (some ⟨g_p, o_p, none⟩), 1, kc⟩ W2 1 (by omega) hk6 rfl rfl
          try dsimp only at HC
          try unfold NC.val at HC
          go_wp2_with fail
          refine HC.mono ?_; rintro e W3 ⟨rfl, hC⟩
          have hD3 := hD2.trans (hC.mono hD2.size)
          have hE3 := HB1.out.trans (hD3.mono (by rw [HS1.out]; omega))
          clear HC hC hD2 hE2 x0 x1 x2 x3 x4 p0 p1 p2 p3 p4
          obtain ⟨x0, x1, x2, x3, x4⟩ := HBX.out.same (hD3.block w.heap.size (by rw [HS1.out]; omega))
          dsimp only at x0 x1 x2 x3 x4
          obtain ⟨p0, p1, p2, p3, p4⟩ := HC_p.out W3 (hE3.block _ HG_p.out)
          simp only [Nat.zero_mul, Nat.add_zero] at p0 p1 p2 p3 p4
          have HC := (rqual_any _ (ht.kid (List.getElem_mem _))) kc_p W3 (HT_p.out.later hE3)
          try dsimp only at HC
          have hcv : _ = _ := ((atK_map t.kids 0 (·.qual) (by rw [← HLN.out]; omega)).symm.trans (by rw [HL.out]) : (t.kids[0]'(by rw [← HLN.out]; omega)).kinds.qual = atK L 0 (·.qual))
          rw [hcv, hc1] at HC
          try unfold NC.val at HC
          go_wp2_with fail
          refine HC.mono ?_; rintro e W4 ⟨rfl, hC⟩
          have hD4 := hD3.trans (hC.mono hD3.size)
          have hE4 := HB1.out.trans (hD4.mono (by rw [HS1.out]; omega))
          clear HC hC hD3 hE3 x0 x1 x2 x3 x4 hcv p0 p1 p2 p3 p4
          obtain ⟨x0, x1, x2, x3, x4⟩ := HBX.out.same (hD4.block w.heap.size (by rw [HS1.out]; omega))
          dsimp only at x0 x1 x2 x3 x4
          obtain ⟨p0, p1, p2, p3, p4⟩ := HC_p.out W4 (hE4.block _ HG_p.out)
          simp only [Nat.zero_mul, Nat.add_zero] at p0 p1 p2 p3 p4
          go_wp2_with fail
          all_goals
            try rw [Exit.noGoto_ret]
            go_ret
            exact ⟨by rw [HR.out]; first | rfl | (refine congrArg (fun b => Ending.returned (Value.bool b)) (?_ : _ = _); simp <;> first | assumption | omega), hE4⟩
      | false =>
        have HR : Hid (t.kinds.sig = false) := by show _ = _; rw [HQ.out]; first | (simp [sigK, varK, HML.out, hc0, hc1]; done) | (have hla := hc1; simp only [Bool.and_eq_false_iff, decide_eq_false_iff_not] at hla; rcases hla with h | h <;> simp [sigK, varK, HML.out, hc0, hc1, h])
        have hD1 := Below.refl W1.heap.size W1
        have hE1 := HB1.out
        obtain ⟨x0, x1, x2, x3, x4⟩ := HBX.out
        dsimp only at x0 x1 x2 x3 x4
        have HC := refvar_text txt W1 hTx
        try dsimp only at HC
        rw [hc0] at HC
        try unfold NC.val at HC
        go_wp2_with fail
        refine HC.mono ?_; rintro e W2 ⟨rfl, hC⟩
        have hD2 := hD1.trans (hC.mono hD1.size)
        have hE2 := HB1.out.trans (hD2.mono (by rw [HS1.out]; omega))
        clear HC hC hD1 hE1 x0 x1 x2 x3 x4
        obtain ⟨x0, x1, x2, x3, x4⟩ := HBX.out.same (hD2.block w.heap.size (by rw [HS1.out]; omega))
        dsimp only at x0 x1 x2 x3 x4
        have HC := plain_any ⟨32, ps, n, txt, kp, kl, kc⟩ W2 1 (by omega) hk6
        try dsimp only at HC
        rw [hc1] at HC
        try unfold NC.val at HC
        go_wp2_with fail
        refine HC.mono ?_; rintro e W3 ⟨rfl, hC⟩
        have hD3 := hD2.trans (hC.mono hD2.size)
        have hE3 := HB1.out.trans (hD3.mono (by rw [HS1.out]; omega))
        clear HC hC hD2 hE2 x0 x1 x2 x3 x4
        obtain ⟨x0, x1, x2, x3, x4⟩ := HBX.out.same (hD3.block w.heap.size (by rw [HS1.out]; omega))
        dsimp only at x0 x1 x2 x3 x4
        go_wp2_with fail
        all_goals
          try rw [Exit.noGoto_ret]
          go_ret
          exact ⟨by rw [HR.out]; first | rfl | (refine congrArg (fun b => Ending.returned (Value.bool b)) (?_ : _ = _); simp <;> first | assumption | omega), hE3⟩
    | false =>
      have HR : Hid (t.kinds.sig = false) := by show _ = _; rw [HQ.out]; first | (simp [sigK, varK, HML.out, hc0]; done) | (have hla := hc0; simp only [Bool.and_eq_false_iff, decide_eq_false_iff_not] at hla; rcases hla with h | h <;> simp [sigK, varK, HML.out, hc0, h])
      have hD1 := Below.refl W1.heap.size W1
      have hE1 := HB1.out
      obtain ⟨x0, x1, x2, x3, x4⟩ := HBX.out
      dsimp only at x0 x1 x2 x3 x4
      have HC := refvar_text txt W1 hTx
      try dsimp only at HC
      rw [hc0] at HC
      try unfold NC.val at HC
      go_wp2_with fail
      refine HC.mono ?_; rintro e W2 ⟨rfl, hC⟩
      have hD2 := hD1.trans (hC.mono hD1.size)
      have hE2 := HB1.out.trans (hD2.mono (by rw [HS1.out]; omega))
      clear HC hC hD1 hE1 x0 x1 x2 x3 x4
      obtain ⟨x0, x1, x2, x3, x4⟩ := HBX.out.same (hD2.block w.heap.size (by rw [HS1.out]; omega))
      dsimp only at x0 x1 x2 x3 x4
      go_wp2_with fail
      all_goals
        try rw [Exit.noGoto_ret]
        go_ret
        exact ⟨by rw [HR.out]; first | rfl | (refine congrArg (fun b => Ending.returned (Value.bool b)) (?_ : _ = _); simp <;> first | assumption | omega), hE2⟩
  case neg =>
    have HR : Hid (t.kinds.sig = false) := by show _ = _; rw [HQ.out]; simp [sigK, varK, HML.out, hk32_0]
    have hD1 := Below.refl W1.heap.size W1
    have hE1 := HB1.out
    obtain ⟨x0, x1, x2, x3, x4⟩ := HBX.out
    dsimp only at x0 x1 x2 x3 x4
    go_wp2_with fail
    all_goals
      try rw [Exit.noGoto_ret]
      go_ret
      exact ⟨by rw [HR.out]; first | rfl | (refine congrArg (fun b => Ending.returned (Value.bool b)) (?_ : _ = _); simp <;> first | assumption | omega), hE1⟩
end Go.Proofs.Ytobmpipifdielaa
