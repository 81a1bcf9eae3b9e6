/- What kind a tree is: the document's own functions for declarations, and all. -/
import Derived.Test.YtobmpipifdielaaNodeRefD
import Derived.Test.YtobmpipifdielaaNodeKindD
namespace Go.Proofs.Ytobmpipifdielaa
open Go.RowKit

set_option maxRecDepth 100000 in
set_option maxHeartbeats 4000000 in
theorem risdecl_any (t : Nd) (ht : Nd.Fit t) : Is 38 (fun t => t.kinds.decl) t := by
  intro c w h
  obtain ⟨k, ps, n, txt, kp, kl, kc⟩ := c
  obtain ⟨L, hL⟩ : ∃ L, L = t.kids.map Nd.kinds := ⟨_, rfl⟩
  have HQ : Hid (t.kinds.decl = (if k = 31 then t.kinds.bind else if k = 32 then t.kinds.sig else if k = 33 then dataK n txt L else if k = 35 ∨ k = 36 then classK k n txt L else false)) := by
    show _ = _
    rw [hL, Nd.kinds_eq, ← h.kind, ← h.num, ← h.text]; exact declK_alt _ _ _ _
  have hTx : txt.length ≤ maxLen := by have := h.text; dsimp only at this; rw [this]; exact ht.text
  have HLN : Hid (kl = t.kids.length) := h.len
  have HML : Hid (L.length = kl) := by show _ = _; rw [hL, List.length_map, HLN.out]
  have hk6 : kl ≤ 1000000 := by rw [HLN.out]; exact ht.len
  have hkc : kl ≤ kc := h.fits
  have HTL : Hid (t.kids.length ≤ 1000000) := ht.len
  have HK := Lib.hid h.kids
  have HT := Lib.hid h
  have HNUM : Hid (n = t.num) := h.num
  have HTXT : Hid (txt = t.text) := h.text
  have HL := Lib.hid hL
  dsimp only at HK
  clear h hL
  unfold NC.val
  obtain ⟨W1, hW1⟩ : ∃ W1, W1 = w.alloc (.cells #[.int .i64 k, .int .i64 ps, .int .i64 n, .string ⟨txt.toArray⟩, .slice kp kl kc] 24) := ⟨_, rfl⟩
  have HBX : Hid (NBox W1 w.heap.size ⟨k, ps, n, txt, kp, kl, kc⟩) := by rw [hW1]; exact NBox.new w ⟨k, ps, n, txt, kp, kl, kc⟩ 24
  have HB1 : Hid (Below w.heap.size w W1) := by rw [hW1]; exact (Below.refl _ w).alloc (Nat.le_refl _) _
  have hs1 : W1.heap.size = w.heap.size + 1 := by rw [hW1]; simp
  have HS1 := Lib.hid hs1
  have HW1 := Lib.hid hW1
  clear hW1 hs1
  go_enter Try.func38, Try.ntmps38
  go_upto_region 1 with fail
  rw [← HW1.out]
  clear HW1
  have HKIND : Hid (t.kind = k) := HT.out.kind.symm
  by_cases hk31_0 : k = 31
  case pos =>
    subst hk31_0
    cases hc0 : t.kinds.bind with
    | true =>
      have HR : Hid (t.kinds.decl = true) := by show _ = _; rw [HQ.out]; simp [HML.out, hc0]
      have hD1 := Below.refl W1.heap.size W1
      have hE1 := HB1.out
      obtain ⟨x0, x1, x2, x3, x4⟩ := HBX.out
      dsimp only at x0 x1 x2 x3 x4
      have HC := rbind_any t ht ⟨31, ps, n, txt, kp, kl, kc⟩ W1 (HT.out.later hE1)
      try dsimp only at HC
      rw [hc0] at HC
      try unfold NC.val at HC
      go_wp2_with fail
      refine HC.mono ?_; rintro e W2 ⟨rfl, hC⟩
      have hD2 := hD1.trans (hC.mono hD1.size)
      have hE2 := HB1.out.trans (hD2.mono (by rw [HS1.out]; omega))
      clear HC hC hD1 hE1 x0 x1 x2 x3 x4
      obtain ⟨x0, x1, x2, x3, x4⟩ := HBX.out.same (hD2.block w.heap.size (by rw [HS1.out]; omega))
      dsimp only at x0 x1 x2 x3 x4
      go_wp2_with fail
      all_goals
        try rw [Exit.noGoto_ret]
        go_ret
        exact ⟨by rw [HR.out]; first | rfl | (refine congrArg (fun b => Ending.returned (Value.bool b)) (?_ : _ = _); simp <;> first | assumption | omega), hE2⟩
    | false =>
      have HR : Hid (t.kinds.decl = false) := by show _ = _; rw [HQ.out]; first | (simp [HML.out, hc0]; done) | (have hla := hc0; simp only [Bool.and_eq_false_iff, decide_eq_false_iff_not] at hla; rcases hla with h | h <;> simp [HML.out, hc0, h])
      have hD1 := Below.refl W1.heap.size W1
      have hE1 := HB1.out
      obtain ⟨x0, x1, x2, x3, x4⟩ := HBX.out
      dsimp only at x0 x1 x2 x3 x4
      have HC := rbind_any t ht ⟨31, ps, n, txt, kp, kl, kc⟩ W1 (HT.out.later hE1)
      try dsimp only at HC
      rw [hc0] at HC
      try unfold NC.val at HC
      go_wp2_with fail
      refine HC.mono ?_; rintro e W2 ⟨rfl, hC⟩
      have hD2 := hD1.trans (hC.mono hD1.size)
      have hE2 := HB1.out.trans (hD2.mono (by rw [HS1.out]; omega))
      clear HC hC hD1 hE1 x0 x1 x2 x3 x4
      obtain ⟨x0, x1, x2, x3, x4⟩ := HBX.out.same (hD2.block w.heap.size (by rw [HS1.out]; omega))
      dsimp only at x0 x1 x2 x3 x4
      go_wp2_with fail
      all_goals
        try rw [Exit.noGoto_ret]
        go_ret
        exact ⟨by rw [HR.out]; first | rfl | (refine congrArg (fun b => Ending.returned (Value.bool b)) (?_ : _ = _); simp <;> first | assumption | omega), hE2⟩
  case neg =>
    by_cases hk32_1 : k = 32
    case pos =>
      subst hk32_1
      cases hc1 : t.kinds.sig with
      | true =>
        have HR : Hid (t.kinds.decl = true) := by show _ = _; rw [HQ.out]; simp [HML.out, hk31_0, hc1]
        have hD1 := Below.refl W1.heap.size W1
        have hE1 := HB1.out
        obtain ⟨x0, x1, x2, x3, x4⟩ := HBX.out
        dsimp only at x0 x1 x2 x3 x4
        have HC := rsig_any t ht ⟨32, ps, n, txt, kp, kl, kc⟩ W1 (HT.out.later hE1)
        try dsimp only at HC
        rw [hc1] at HC
        try unfold NC.val at HC
        go_wp2_with fail
        refine HC.mono ?_; rintro e W2 ⟨rfl, hC⟩
        have hD2 := hD1.trans (hC.mono hD1.size)
        have hE2 := HB1.out.trans (hD2.mono (by rw [HS1.out]; omega))
        clear HC hC hD1 hE1 x0 x1 x2 x3 x4
        obtain ⟨x0, x1, x2, x3, x4⟩ := HBX.out.same (hD2.block w.heap.size (by rw [HS1.out]; omega))
        dsimp only at x0 x1 x2 x3 x4
        go_wp2_with fail
        all_goals
          try rw [Exit.noGoto_ret]
          go_ret
          exact ⟨by rw [HR.out]; first | rfl | (refine congrArg (fun b => Ending.returned (Value.bool b)) (?_ : _ = _); simp <;> first | assumption | omega), hE2⟩
      | false =>
        have HR : Hid (t.kinds.decl = false) := by show _ = _; rw [HQ.out]; first | (simp [HML.out, hk31_0, hc1]; done) | (have hla := hc1; simp only [Bool.and_eq_false_iff, decide_eq_false_iff_not] at hla; rcases hla with h | h <;> simp [HML.out, hk31_0, hc1, h])
        have hD1 := Below.refl W1.heap.size W1
        have hE1 := HB1.out
        obtain ⟨x0, x1, x2, x3, x4⟩ := HBX.out
        dsimp only at x0 x1 x2 x3 x4
        have HC := rsig_any t ht ⟨32, ps, n, txt, kp, kl, kc⟩ W1 (HT.out.later hE1)
        try dsimp only at HC
        rw [hc1] at HC
        try unfold NC.val at HC
        go_wp2_with fail
        refine HC.mono ?_; rintro e W2 ⟨rfl, hC⟩
        have hD2 := hD1.trans (hC.mono hD1.size)
        have hE2 := HB1.out.trans (hD2.mono (by rw [HS1.out]; omega))
        clear HC hC hD1 hE1 x0 x1 x2 x3 x4
        obtain ⟨x0, x1, x2, x3, x4⟩ := HBX.out.same (hD2.block w.heap.size (by rw [HS1.out]; omega))
        dsimp only at x0 x1 x2 x3 x4
        go_wp2_with fail
        all_goals
          try rw [Exit.noGoto_ret]
          go_ret
          exact ⟨by rw [HR.out]; first | rfl | (refine congrArg (fun b => Ending.returned (Value.bool b)) (?_ : _ = _); simp <;> first | assumption | omega), hE2⟩
    case neg =>
      by_cases hk33_2 : k = 33
      case pos =>
        subst hk33_2
        cases hc2 : dataK n txt L with
        | true =>
          have HR : Hid (t.kinds.decl = true) := by show _ = _; rw [HQ.out]; simp [HML.out, hk31_0, hk32_1, hc2]
          have hD1 := Below.refl W1.heap.size W1
          have hE1 := HB1.out
          obtain ⟨x0, x1, x2, x3, x4⟩ := HBX.out
          dsimp only at x0 x1 x2 x3 x4
          have HC := rdata_any t ht ⟨33, ps, n, txt, kp, kl, kc⟩ W1 (HT.out.later hE1)
          try dsimp only at HC
          have hcv : _ = _ := ((by rw [HL.out, HNUM.out, HTXT.out]) : dataK t.num t.text (t.kids.map Nd.kinds) = dataK n txt L)
          rw [hcv, hc2] at HC
          try unfold NC.val at HC
          go_wp2_with fail
          refine HC.mono ?_; rintro e W2 ⟨rfl, hC⟩
          have hD2 := hD1.trans (hC.mono hD1.size)
          have hE2 := HB1.out.trans (hD2.mono (by rw [HS1.out]; omega))
          clear HC hC hD1 hE1 x0 x1 x2 x3 x4 hcv
          obtain ⟨x0, x1, x2, x3, x4⟩ := HBX.out.same (hD2.block w.heap.size (by rw [HS1.out]; omega))
          dsimp only at x0 x1 x2 x3 x4
          go_wp2_with fail
          all_goals
            try rw [Exit.noGoto_ret]
            go_ret
            exact ⟨by rw [HR.out]; first | rfl | (refine congrArg (fun b => Ending.returned (Value.bool b)) (?_ : _ = _); simp <;> first | assumption | omega), hE2⟩
        | false =>
          have HR : Hid (t.kinds.decl = false) := by show _ = _; rw [HQ.out]; first | (simp [HML.out, hk31_0, hk32_1, hc2]; done) | (have hla := hc2; simp only [Bool.and_eq_false_iff, decide_eq_false_iff_not] at hla; rcases hla with h | h <;> simp [HML.out, hk31_0, hk32_1, hc2, h])
          have hD1 := Below.refl W1.heap.size W1
          have hE1 := HB1.out
          obtain ⟨x0, x1, x2, x3, x4⟩ := HBX.out
          dsimp only at x0 x1 x2 x3 x4
          have HC := rdata_any t ht ⟨33, ps, n, txt, kp, kl, kc⟩ W1 (HT.out.later hE1)
          try dsimp only at HC
          have hcv : _ = _ := ((by rw [HL.out, HNUM.out, HTXT.out]) : dataK t.num t.text (t.kids.map Nd.kinds) = dataK n txt L)
          rw [hcv, hc2] at HC
          try unfold NC.val at HC
          go_wp2_with fail
          refine HC.mono ?_; rintro e W2 ⟨rfl, hC⟩
          have hD2 := hD1.trans (hC.mono hD1.size)
          have hE2 := HB1.out.trans (hD2.mono (by rw [HS1.out]; omega))
          clear HC hC hD1 hE1 x0 x1 x2 x3 x4 hcv
          obtain ⟨x0, x1, x2, x3, x4⟩ := HBX.out.same (hD2.block w.heap.size (by rw [HS1.out]; omega))
          dsimp only at x0 x1 x2 x3 x4
          go_wp2_with fail
          all_goals
            try rw [Exit.noGoto_ret]
            go_ret
            exact ⟨by rw [HR.out]; first | rfl | (refine congrArg (fun b => Ending.returned (Value.bool b)) (?_ : _ = _); simp <;> first | assumption | omega), hE2⟩
      case neg =>
        by_cases hk35_3 : k = 35
        case pos =>
          subst hk35_3
          cases hc3 : classK 35 n txt L with
          | true =>
            have HR : Hid (t.kinds.decl = true) := by show _ = _; rw [HQ.out]; simp [HML.out, hk31_0, hk32_1, hk33_2, hc3]
            have hD1 := Below.refl W1.heap.size W1
            have hE1 := HB1.out
            obtain ⟨x0, x1, x2, x3, x4⟩ := HBX.out
            dsimp only at x0 x1 x2 x3 x4
            have HC := rclass_any t ht ⟨35, ps, n, txt, kp, kl, kc⟩ W1 (HT.out.later hE1)
            try dsimp only at HC
            have hcv : _ = _ := ((by first | rw [HL.out, HNUM.out, HTXT.out, HKIND.out] | rw [HL.out, HNUM.out, HTXT.out, ← HKIND.out]) : classK t.kind t.num t.text (t.kids.map Nd.kinds) = classK 35 n txt L)
            rw [hcv, hc3] at HC
            try unfold NC.val at HC
            go_wp2_with fail
            refine HC.mono ?_; rintro e W2 ⟨rfl, hC⟩
            have hD2 := hD1.trans (hC.mono hD1.size)
            have hE2 := HB1.out.trans (hD2.mono (by rw [HS1.out]; omega))
            clear HC hC hD1 hE1 x0 x1 x2 x3 x4 hcv
            obtain ⟨x0, x1, x2, x3, x4⟩ := HBX.out.same (hD2.block w.heap.size (by rw [HS1.out]; omega))
            dsimp only at x0 x1 x2 x3 x4
            go_wp2_with fail
            all_goals
              try rw [Exit.noGoto_ret]
              go_ret
              exact ⟨by rw [HR.out]; first | rfl | (refine congrArg (fun b => Ending.returned (Value.bool b)) (?_ : _ = _); simp <;> first | assumption | omega), hE2⟩
          | false =>
            have HR : Hid (t.kinds.decl = false) := by show _ = _; rw [HQ.out]; first | (simp [HML.out, hk31_0, hk32_1, hk33_2, hc3]; done) | (have hla := hc3; simp only [Bool.and_eq_false_iff, decide_eq_false_iff_not] at hla; rcases hla with h | h <;> simp [HML.out, hk31_0, hk32_1, hk33_2, hc3, h])
            have hD1 := Below.refl W1.heap.size W1
            have hE1 := HB1.out
            obtain ⟨x0, x1, x2, x3, x4⟩ := HBX.out
            dsimp only at x0 x1 x2 x3 x4
            have HC := rclass_any t ht ⟨35, ps, n, txt, kp, kl, kc⟩ W1 (HT.out.later hE1)
            try dsimp only at HC
            have hcv : _ = _ := ((by first | rw [HL.out, HNUM.out, HTXT.out, HKIND.out] | rw [HL.out, HNUM.out, HTXT.out, ← HKIND.out]) : classK t.kind t.num t.text (t.kids.map Nd.kinds) = classK 35 n txt L)
            rw [hcv, hc3] at HC
            try unfold NC.val at HC
            go_wp2_with fail
            refine HC.mono ?_; rintro e W2 ⟨rfl, hC⟩
            have hD2 := hD1.trans (hC.mono hD1.size)
            have hE2 := HB1.out.trans (hD2.mono (by rw [HS1.out]; omega))
            clear HC hC hD1 hE1 x0 x1 x2 x3 x4 hcv
            obtain ⟨x0, x1, x2, x3, x4⟩ := HBX.out.same (hD2.block w.heap.size (by rw [HS1.out]; omega))
            dsimp only at x0 x1 x2 x3 x4
            go_wp2_with fail
            all_goals
              try rw [Exit.noGoto_ret]
              go_ret
              exact ⟨by rw [HR.out]; first | rfl | (refine congrArg (fun b => Ending.returned (Value.bool b)) (?_ : _ = _); simp <;> first | assumption | omega), hE2⟩
        case neg =>
          by_cases hk36_4 : k = 36
          case pos =>
            subst hk36_4
            cases hc4 : classK 36 n txt L with
            | true =>
              have HR : Hid (t.kinds.decl = true) := by show _ = _; rw [HQ.out]; simp [HML.out, hk31_0, hk32_1, hk33_2, hk35_3, hc4]
              have hD1 := Below.refl W1.heap.size W1
              have hE1 := HB1.out
              obtain ⟨x0, x1, x2, x3, x4⟩ := HBX.out
              dsimp only at x0 x1 x2 x3 x4
              have HC := rclass_any t ht ⟨36, ps, n, txt, kp, kl, kc⟩ W1 (HT.out.later hE1)
              try dsimp only at HC
              have hcv : _ = _ := ((by first | rw [HL.out, HNUM.out, HTXT.out, HKIND.out] | rw [HL.out, HNUM.out, HTXT.out, ← HKIND.out]) : classK t.kind t.num t.text (t.kids.map Nd.kinds) = classK 36 n txt L)
              rw [hcv, hc4] at HC
              try unfold NC.val at HC
              go_wp2_with fail
              refine HC.mono ?_; rintro e W2 ⟨rfl, hC⟩
              have hD2 := hD1.trans (hC.mono hD1.size)
              have hE2 := HB1.out.trans (hD2.mono (by rw [HS1.out]; omega))
              clear HC hC hD1 hE1 x0 x1 x2 x3 x4 hcv
              obtain ⟨x0, x1, x2, x3, x4⟩ := HBX.out.same (hD2.block w.heap.size (by rw [HS1.out]; omega))
              dsimp only at x0 x1 x2 x3 x4
              go_wp2_with fail
              all_goals
                try rw [Exit.noGoto_ret]
                go_ret
                exact ⟨by rw [HR.out]; first | rfl | (refine congrArg (fun b => Ending.returned (Value.bool b)) (?_ : _ = _); simp <;> first | assumption | omega), hE2⟩
            | false =>
              have HR : Hid (t.kinds.decl = false) := by show _ = _; rw [HQ.out]; first | (simp [HML.out, hk31_0, hk32_1, hk33_2, hk35_3, hc4]; done) | (have hla := hc4; simp only [Bool.and_eq_false_iff, decide_eq_false_iff_not] at hla; rcases hla with h | h <;> simp [HML.out, hk31_0, hk32_1, hk33_2, hk35_3, hc4, h])
              have hD1 := Below.refl W1.heap.size W1
              have hE1 := HB1.out
              obtain ⟨x0, x1, x2, x3, x4⟩ := HBX.out
              dsimp only at x0 x1 x2 x3 x4
              have HC := rclass_any t ht ⟨36, ps, n, txt, kp, kl, kc⟩ W1 (HT.out.later hE1)
              try dsimp only at HC
              have hcv : _ = _ := ((by first | rw [HL.out, HNUM.out, HTXT.out, HKIND.out] | rw [HL.out, HNUM.out, HTXT.out, ← HKIND.out]) : classK t.kind t.num t.text (t.kids.map Nd.kinds) = classK 36 n txt L)
              rw [hcv, hc4] at HC
              try unfold NC.val at HC
              go_wp2_with fail
              refine HC.mono ?_; rintro e W2 ⟨rfl, hC⟩
              have hD2 := hD1.trans (hC.mono hD1.size)
              have hE2 := HB1.out.trans (hD2.mono (by rw [HS1.out]; omega))
              clear HC hC hD1 hE1 x0 x1 x2 x3 x4 hcv
              obtain ⟨x0, x1, x2, x3, x4⟩ := HBX.out.same (hD2.block w.heap.size (by rw [HS1.out]; omega))
              dsimp only at x0 x1 x2 x3 x4
              go_wp2_with fail
              all_goals
                try rw [Exit.noGoto_ret]
                go_ret
                exact ⟨by rw [HR.out]; first | rfl | (refine congrArg (fun b => Ending.returned (Value.bool b)) (?_ : _ = _); simp <;> first | assumption | omega), hE2⟩
          case neg =>
            have HR : Hid (t.kinds.decl = false) := by show _ = _; rw [HQ.out]; simp [HML.out, hk31_0, hk32_1, hk33_2, hk35_3, hk36_4]
            have hD1 := Below.refl W1.heap.size W1
            have hE1 := HB1.out
            obtain ⟨x0, x1, x2, x3, x4⟩ := HBX.out
            dsimp only at x0 x1 x2 x3 x4
            go_wp2_with fail
            all_goals
              try rw [Exit.noGoto_ret]
              go_ret
              exact ⟨by rw [HR.out]; first | rfl | (refine congrArg (fun b => Ending.returned (Value.bool b)) (?_ : _ = _); simp <;> first | assumption | omega), hE1⟩
set_option maxHeartbeats 1600000 in
theorem rlow_any (t : Nd) (ht : Nd.Fit t) : Is 31 Nd.low t := by
  intro c w h
  obtain ⟨W1, hW1, hb, hB, hs⟩ := box_of w c
  have HW1 := Lib.hid hW1
  have HB := Lib.hid hB
  have HC := refdepth_any t _ c W1 (h.later hB) ht.size
  obtain ⟨x0, x1, x2, x3, x4⟩ := hb
  clear h hB hW1
  unfold NC.val at *
  unfold Nd.low
  generalize hg : t.depth = d at *
  clear hg
  by_cases hd : d ≤ 100
  all_goals
    have HR : Hid (decide (d ≤ 100) = decide ((d : Int) ≤ 100)) := by show _ = _; simp only [decide_eq_decide]; omega
    have hd' : (d : Int) ≤ 100 ∨ ¬ (d : Int) ≤ 100 := by omega
    go_enter Try.func31, Try.ntmps31
    go_upto_region 1 with fail
    rw [← HW1.out]
    go_wp2_with fail
    refine HC.mono ?_; rintro e w2 ⟨rfl, hB3⟩
    go_wp2_with fail
    go_ret
    exact ⟨by rw [HR.out]; rfl, HB.out.trans (hB3.mono HB.out.size)⟩
set_option maxRecDepth 100000 in
set_option maxHeartbeats 4000000 in
theorem rtype_any (t : Nd) (ht : Nd.Fit t) : Is 19 Nd.isTyp t := by
  intro c w h
  obtain ⟨k, ps, n, txt, kp, kl, kc⟩ := c
  obtain ⟨L, hL⟩ : ∃ L, L = t.kids.map Nd.kinds := ⟨_, rfl⟩
  have HQ : Hid ((t.isTyp) = (t.low && t.kinds.typ)) := by
    show _ = _
    rfl
  have hTx : txt.length ≤ maxLen := by have := h.text; dsimp only at this; rw [this]; exact ht.text
  have HLN : Hid (kl = t.kids.length) := h.len
  have HML : Hid (L.length = kl) := by show _ = _; rw [hL, List.length_map, HLN.out]
  have hk6 : kl ≤ 1000000 := by rw [HLN.out]; exact ht.len
  have hkc : kl ≤ kc := h.fits
  have HTL : Hid (t.kids.length ≤ 1000000) := ht.len
  have HK := Lib.hid h.kids
  have HT := Lib.hid h
  have HNUM : Hid (n = t.num) := h.num
  have HTXT : Hid (txt = t.text) := h.text
  have HL := Lib.hid hL
  dsimp only at HK
  clear h hL
  unfold NC.val
  obtain ⟨W1, hW1⟩ : ∃ W1, W1 = w.alloc (.cells #[.int .i64 k, .int .i64 ps, .int .i64 n, .string ⟨txt.toArray⟩, .slice kp kl kc] 24) := ⟨_, rfl⟩
  have HBX : Hid (NBox W1 w.heap.size ⟨k, ps, n, txt, kp, kl, kc⟩) := by rw [hW1]; exact NBox.new w ⟨k, ps, n, txt, kp, kl, kc⟩ 24
  have HB1 : Hid (Below w.heap.size w W1) := by rw [hW1]; exact (Below.refl _ w).alloc (Nat.le_refl _) _
  have hs1 : W1.heap.size = w.heap.size + 1 := by rw [hW1]; simp
  have HS1 := Lib.hid hs1
  have HW1 := Lib.hid hW1
  clear hW1 hs1
  go_enter Try.func19, Try.ntmps19
  go_upto_region 1 with fail
  rw [← HW1.out]
  clear HW1
  cases hc0 : t.kinds.typ with
  | true =>
    cases hc1 : t.low with
    | true =>
      have HR : Hid ((t.isTyp) = true) := by show _ = _; rw [HQ.out]; simp [HML.out, hc0, hc1]
      have hD1 := Below.refl W1.heap.size W1
      have hE1 := HB1.out
      obtain ⟨x0, x1, x2, x3, x4⟩ := HBX.out
      dsimp only at x0 x1 x2 x3 x4
      have HC := ristype_any t ht ⟨k, ps, n, txt, kp, kl, kc⟩ W1 (HT.out.later hE1)
      try dsimp only at HC
      rw [hc0] at HC
      try unfold NC.val at HC
      go_wp2_with fail
      refine HC.mono ?_; rintro e W2 ⟨rfl, hC⟩
      have hD2 := hD1.trans (hC.mono hD1.size)
      have hE2 := HB1.out.trans (hD2.mono (by rw [HS1.out]; omega))
      clear HC hC hD1 hE1 x0 x1 x2 x3 x4
      obtain ⟨x0, x1, x2, x3, x4⟩ := HBX.out.same (hD2.block w.heap.size (by rw [HS1.out]; omega))
      dsimp only at x0 x1 x2 x3 x4
      have HC := rlow_any t ht ⟨k, ps, n, txt, kp, kl, kc⟩ W2 (HT.out.later hE2)
      try dsimp only at HC
      rw [hc1] at HC
      try unfold NC.val at HC
      go_wp2_with fail
      refine HC.mono ?_; rintro e W3 ⟨rfl, hC⟩
      have hD3 := hD2.trans (hC.mono hD2.size)
      have hE3 := HB1.out.trans (hD3.mono (by rw [HS1.out]; omega))
      clear HC hC hD2 hE2 x0 x1 x2 x3 x4
      obtain ⟨x0, x1, x2, x3, x4⟩ := HBX.out.same (hD3.block w.heap.size (by rw [HS1.out]; omega))
      dsimp only at x0 x1 x2 x3 x4
      go_wp2_with fail
      all_goals
        try rw [Exit.noGoto_ret]
        go_ret
        exact ⟨by rw [HR.out]; first | rfl | (refine congrArg (fun b => Ending.returned (Value.bool b)) (?_ : _ = _); simp <;> first | assumption | omega), hE3⟩
    | false =>
      have HR : Hid ((t.isTyp) = false) := by show _ = _; rw [HQ.out]; first | (simp [HML.out, hc0, hc1]; done) | (have hla := hc1; simp only [Bool.and_eq_false_iff, decide_eq_false_iff_not] at hla; rcases hla with h | h <;> simp [HML.out, hc0, hc1, h])
      have hD1 := Below.refl W1.heap.size W1
      have hE1 := HB1.out
      obtain ⟨x0, x1, x2, x3, x4⟩ := HBX.out
      dsimp only at x0 x1 x2 x3 x4
      have HC := ristype_any t ht ⟨k, ps, n, txt, kp, kl, kc⟩ W1 (HT.out.later hE1)
      try dsimp only at HC
      rw [hc0] at HC
      try unfold NC.val at HC
      go_wp2_with fail
      refine HC.mono ?_; rintro e W2 ⟨rfl, hC⟩
      have hD2 := hD1.trans (hC.mono hD1.size)
      have hE2 := HB1.out.trans (hD2.mono (by rw [HS1.out]; omega))
      clear HC hC hD1 hE1 x0 x1 x2 x3 x4
      obtain ⟨x0, x1, x2, x3, x4⟩ := HBX.out.same (hD2.block w.heap.size (by rw [HS1.out]; omega))
      dsimp only at x0 x1 x2 x3 x4
      have HC := rlow_any t ht ⟨k, ps, n, txt, kp, kl, kc⟩ W2 (HT.out.later hE2)
      try dsimp only at HC
      rw [hc1] at HC
      try unfold NC.val at HC
      go_wp2_with fail
      refine HC.mono ?_; rintro e W3 ⟨rfl, hC⟩
      have hD3 := hD2.trans (hC.mono hD2.size)
      have hE3 := HB1.out.trans (hD3.mono (by rw [HS1.out]; omega))
      clear HC hC hD2 hE2 x0 x1 x2 x3 x4
      obtain ⟨x0, x1, x2, x3, x4⟩ := HBX.out.same (hD3.block w.heap.size (by rw [HS1.out]; omega))
      dsimp only at x0 x1 x2 x3 x4
      go_wp2_with fail
      all_goals
        try rw [Exit.noGoto_ret]
        go_ret
        exact ⟨by rw [HR.out]; first | rfl | (refine congrArg (fun b => Ending.returned (Value.bool b)) (?_ : _ = _); simp <;> first | assumption | omega), hE3⟩
  | false =>
    have HR : Hid ((t.isTyp) = false) := by show _ = _; rw [HQ.out]; first | (simp [HML.out, hc0]; done) | (have hla := hc0; simp only [Bool.and_eq_false_iff, decide_eq_false_iff_not] at hla; rcases hla with h | h <;> simp [HML.out, hc0, h])
    have hD1 := Below.refl W1.heap.size W1
    have hE1 := HB1.out
    obtain ⟨x0, x1, x2, x3, x4⟩ := HBX.out
    dsimp only at x0 x1 x2 x3 x4
    have HC := ristype_any t ht ⟨k, ps, n, txt, kp, kl, kc⟩ W1 (HT.out.later hE1)
    try dsimp only at HC
    rw [hc0] at HC
    try unfold NC.val at HC
    go_wp2_with fail
    refine HC.mono ?_; rintro e W2 ⟨rfl, hC⟩
    have hD2 := hD1.trans (hC.mono hD1.size)
    have hE2 := HB1.out.trans (hD2.mono (by rw [HS1.out]; omega))
    clear HC hC hD1 hE1 x0 x1 x2 x3 x4
    obtain ⟨x0, x1, x2, x3, x4⟩ := HBX.out.same (hD2.block w.heap.size (by rw [HS1.out]; omega))
    dsimp only at x0 x1 x2 x3 x4
    go_wp2_with fail
    all_goals
      try rw [Exit.noGoto_ret]
      go_ret
      exact ⟨by rw [HR.out]; first | rfl | (refine congrArg (fun b => Ending.returned (Value.bool b)) (?_ : _ = _); simp <;> first | assumption | omega), hE2⟩
set_option maxRecDepth 100000 in
set_option maxHeartbeats 4000000 in
theorem rpat_any (t : Nd) (ht : Nd.Fit t) : Is 21 Nd.isPat t := by
  intro c w h
  obtain ⟨k, ps, n, txt, kp, kl, kc⟩ := c
  obtain ⟨L, hL⟩ : ∃ L, L = t.kids.map Nd.kinds := ⟨_, rfl⟩
  have HQ : Hid ((t.isPat) = (t.low && t.kinds.pat)) := by
    show _ = _
    rfl
  have hTx : txt.length ≤ maxLen := by have := h.text; dsimp only at this; rw [this]; exact ht.text
  have HLN : Hid (kl = t.kids.length) := h.len
  have HML : Hid (L.length = kl) := by show _ = _; rw [hL, List.length_map, HLN.out]
  have hk6 : kl ≤ 1000000 := by rw [HLN.out]; exact ht.len
  have hkc : kl ≤ kc := h.fits
  have HTL : Hid (t.kids.length ≤ 1000000) := ht.len
  have HK := Lib.hid h.kids
  have HT := Lib.hid h
  have HNUM : Hid (n = t.num) := h.num
  have HTXT : Hid (txt = t.text) := h.text
  have HL := Lib.hid hL
  dsimp only at HK
  clear h hL
  unfold NC.val
  obtain ⟨W1, hW1⟩ : ∃ W1, W1 = w.alloc (.cells #[.int .i64 k, .int .i64 ps, .int .i64 n, .string ⟨txt.toArray⟩, .slice kp kl kc] 24) := ⟨_, rfl⟩
  have HBX : Hid (NBox W1 w.heap.size ⟨k, ps, n, txt, kp, kl, kc⟩) := by rw [hW1]; exact NBox.new w ⟨k, ps, n, txt, kp, kl, kc⟩ 24
  have HB1 : Hid (Below w.heap.size w W1) := by rw [hW1]; exact (Below.refl _ w).alloc (Nat.le_refl _) _
  have hs1 : W1.heap.size = w.heap.size + 1 := by rw [hW1]; simp
  have HS1 := Lib.hid hs1
  have HW1 := Lib.hid hW1
  clear hW1 hs1
  go_enter Try.func21, Try.ntmps21
  go_upto_region 1 with fail
  rw [← HW1.out]
  clear HW1
  cases hc0 : t.kinds.pat with
  | true =>
    cases hc1 : t.low with
    | true =>
      have HR : Hid ((t.isPat) = true) := by show _ = _; rw [HQ.out]; simp [HML.out, hc0, hc1]
      have hD1 := Below.refl W1.heap.size W1
      have hE1 := HB1.out
      obtain ⟨x0, x1, x2, x3, x4⟩ := HBX.out
      dsimp only at x0 x1 x2 x3 x4
      have HC := rispat_any t ht ⟨k, ps, n, txt, kp, kl, kc⟩ W1 (HT.out.later hE1)
      try dsimp only at HC
      rw [hc0] at HC
      try unfold NC.val at HC
      go_wp2_with fail
      refine HC.mono ?_; rintro e W2 ⟨rfl, hC⟩
      have hD2 := hD1.trans (hC.mono hD1.size)
      have hE2 := HB1.out.trans (hD2.mono (by rw [HS1.out]; omega))
      clear HC hC hD1 hE1 x0 x1 x2 x3 x4
      obtain ⟨x0, x1, x2, x3, x4⟩ := HBX.out.same (hD2.block w.heap.size (by rw [HS1.out]; omega))
      dsimp only at x0 x1 x2 x3 x4
      have HC := rlow_any t ht ⟨k, ps, n, txt, kp, kl, kc⟩ W2 (HT.out.later hE2)
      try dsimp only at HC
      rw [hc1] at HC
      try unfold NC.val at HC
      go_wp2_with fail
      refine HC.mono ?_; rintro e W3 ⟨rfl, hC⟩
      have hD3 := hD2.trans (hC.mono hD2.size)
      have hE3 := HB1.out.trans (hD3.mono (by rw [HS1.out]; omega))
      clear HC hC hD2 hE2 x0 x1 x2 x3 x4
      obtain ⟨x0, x1, x2, x3, x4⟩ := HBX.out.same (hD3.block w.heap.size (by rw [HS1.out]; omega))
      dsimp only at x0 x1 x2 x3 x4
      go_wp2_with fail
      all_goals
        try rw [Exit.noGoto_ret]
        go_ret
        exact ⟨by rw [HR.out]; first | rfl | (refine congrArg (fun b => Ending.returned (Value.bool b)) (?_ : _ = _); simp <;> first | assumption | omega), hE3⟩
    | false =>
      have HR : Hid ((t.isPat) = false) := by show _ = _; rw [HQ.out]; first | (simp [HML.out, hc0, hc1]; done) | (have hla := hc1; simp only [Bool.and_eq_false_iff, decide_eq_false_iff_not] at hla; rcases hla with h | h <;> simp [HML.out, hc0, hc1, h])
      have hD1 := Below.refl W1.heap.size W1
      have hE1 := HB1.out
      obtain ⟨x0, x1, x2, x3, x4⟩ := HBX.out
      dsimp only at x0 x1 x2 x3 x4
      have HC := rispat_any t ht ⟨k, ps, n, txt, kp, kl, kc⟩ W1 (HT.out.later hE1)
      try dsimp only at HC
      rw [hc0] at HC
      try unfold NC.val at HC
      go_wp2_with fail
      refine HC.mono ?_; rintro e W2 ⟨rfl, hC⟩
      have hD2 := hD1.trans (hC.mono hD1.size)
      have hE2 := HB1.out.trans (hD2.mono (by rw [HS1.out]; omega))
      clear HC hC hD1 hE1 x0 x1 x2 x3 x4
      obtain ⟨x0, x1, x2, x3, x4⟩ := HBX.out.same (hD2.block w.heap.size (by rw [HS1.out]; omega))
      dsimp only at x0 x1 x2 x3 x4
      have HC := rlow_any t ht ⟨k, ps, n, txt, kp, kl, kc⟩ W2 (HT.out.later hE2)
      try dsimp only at HC
      rw [hc1] at HC
      try unfold NC.val at HC
      go_wp2_with fail
      refine HC.mono ?_; rintro e W3 ⟨rfl, hC⟩
      have hD3 := hD2.trans (hC.mono hD2.size)
      have hE3 := HB1.out.trans (hD3.mono (by rw [HS1.out]; omega))
      clear HC hC hD2 hE2 x0 x1 x2 x3 x4
      obtain ⟨x0, x1, x2, x3, x4⟩ := HBX.out.same (hD3.block w.heap.size (by rw [HS1.out]; omega))
      dsimp only at x0 x1 x2 x3 x4
      go_wp2_with fail
      all_goals
        try rw [Exit.noGoto_ret]
        go_ret
        exact ⟨by rw [HR.out]; first | rfl | (refine congrArg (fun b => Ending.returned (Value.bool b)) (?_ : _ = _); simp <;> first | assumption | omega), hE3⟩
  | false =>
    have HR : Hid ((t.isPat) = false) := by show _ = _; rw [HQ.out]; first | (simp [HML.out, hc0]; done) | (have hla := hc0; simp only [Bool.and_eq_false_iff, decide_eq_false_iff_not] at hla; rcases hla with h | h <;> simp [HML.out, hc0, h])
    have hD1 := Below.refl W1.heap.size W1
    have hE1 := HB1.out
    obtain ⟨x0, x1, x2, x3, x4⟩ := HBX.out
    dsimp only at x0 x1 x2 x3 x4
    have HC := rispat_any t ht ⟨k, ps, n, txt, kp, kl, kc⟩ W1 (HT.out.later hE1)
    try dsimp only at HC
    rw [hc0] at HC
    try unfold NC.val at HC
    go_wp2_with fail
    refine HC.mono ?_; rintro e W2 ⟨rfl, hC⟩
    have hD2 := hD1.trans (hC.mono hD1.size)
    have hE2 := HB1.out.trans (hD2.mono (by rw [HS1.out]; omega))
    clear HC hC hD1 hE1 x0 x1 x2 x3 x4
    obtain ⟨x0, x1, x2, x3, x4⟩ := HBX.out.same (hD2.block w.heap.size (by rw [HS1.out]; omega))
    dsimp only at x0 x1 x2 x3 x4
    go_wp2_with fail
    all_goals
      try rw [Exit.noGoto_ret]
      go_ret
      exact ⟨by rw [HR.out]; first | rfl | (refine congrArg (fun b => Ending.returned (Value.bool b)) (?_ : _ = _); simp <;> first | assumption | omega), hE2⟩
set_option maxRecDepth 100000 in
set_option maxHeartbeats 4000000 in
theorem rexp_any (t : Nd) (ht : Nd.Fit t) : Is 23 Nd.isExp t := by
  intro c w h
  obtain ⟨k, ps, n, txt, kp, kl, kc⟩ := c
  obtain ⟨L, hL⟩ : ∃ L, L = t.kids.map Nd.kinds := ⟨_, rfl⟩
  have HQ : Hid ((t.isExp) = (t.low && t.kinds.exp)) := by
    show _ = _
    rfl
  have hTx : txt.length ≤ maxLen := by have := h.text; dsimp only at this; rw [this]; exact ht.text
  have HLN : Hid (kl = t.kids.length) := h.len
  have HML : Hid (L.length = kl) := by show _ = _; rw [hL, List.length_map, HLN.out]
  have hk6 : kl ≤ 1000000 := by rw [HLN.out]; exact ht.len
  have hkc : kl ≤ kc := h.fits
  have HTL : Hid (t.kids.length ≤ 1000000) := ht.len
  have HK := Lib.hid h.kids
  have HT := Lib.hid h
  have HNUM : Hid (n = t.num) := h.num
  have HTXT : Hid (txt = t.text) := h.text
  have HL := Lib.hid hL
  dsimp only at HK
  clear h hL
  unfold NC.val
  obtain ⟨W1, hW1⟩ : ∃ W1, W1 = w.alloc (.cells #[.int .i64 k, .int .i64 ps, .int .i64 n, .string ⟨txt.toArray⟩, .slice kp kl kc] 24) := ⟨_, rfl⟩
  have HBX : Hid (NBox W1 w.heap.size ⟨k, ps, n, txt, kp, kl, kc⟩) := by rw [hW1]; exact NBox.new w ⟨k, ps, n, txt, kp, kl, kc⟩ 24
  have HB1 : Hid (Below w.heap.size w W1) := by rw [hW1]; exact (Below.refl _ w).alloc (Nat.le_refl _) _
  have hs1 : W1.heap.size = w.heap.size + 1 := by rw [hW1]; simp
  have HS1 := Lib.hid hs1
  have HW1 := Lib.hid hW1
  clear hW1 hs1
  go_enter Try.func23, Try.ntmps23
  go_upto_region 1 with fail
  rw [← HW1.out]
  clear HW1
  cases hc0 : t.kinds.exp with
  | true =>
    cases hc1 : t.low with
    | true =>
      have HR : Hid ((t.isExp) = true) := by show _ = _; rw [HQ.out]; simp [HML.out, hc0, hc1]
      have hD1 := Below.refl W1.heap.size W1
      have hE1 := HB1.out
      obtain ⟨x0, x1, x2, x3, x4⟩ := HBX.out
      dsimp only at x0 x1 x2 x3 x4
      have HC := risexp_any t ht ⟨k, ps, n, txt, kp, kl, kc⟩ W1 (HT.out.later hE1)
      try dsimp only at HC
      rw [hc0] at HC
      try unfold NC.val at HC
      go_wp2_with fail
      refine HC.mono ?_; rintro e W2 ⟨rfl, hC⟩
      have hD2 := hD1.trans (hC.mono hD1.size)
      have hE2 := HB1.out.trans (hD2.mono (by rw [HS1.out]; omega))
      clear HC hC hD1 hE1 x0 x1 x2 x3 x4
      obtain ⟨x0, x1, x2, x3, x4⟩ := HBX.out.same (hD2.block w.heap.size (by rw [HS1.out]; omega))
      dsimp only at x0 x1 x2 x3 x4
      have HC := rlow_any t ht ⟨k, ps, n, txt, kp, kl, kc⟩ W2 (HT.out.later hE2)
      try dsimp only at HC
      rw [hc1] at HC
      try unfold NC.val at HC
      go_wp2_with fail
      refine HC.mono ?_; rintro e W3 ⟨rfl, hC⟩
      have hD3 := hD2.trans (hC.mono hD2.size)
      have hE3 := HB1.out.trans (hD3.mono (by rw [HS1.out]; omega))
      clear HC hC hD2 hE2 x0 x1 x2 x3 x4
      obtain ⟨x0, x1, x2, x3, x4⟩ := HBX.out.same (hD3.block w.heap.size (by rw [HS1.out]; omega))
      dsimp only at x0 x1 x2 x3 x4
      go_wp2_with fail
      all_goals
        try rw [Exit.noGoto_ret]
        go_ret
        exact ⟨by rw [HR.out]; first | rfl | (refine congrArg (fun b => Ending.returned (Value.bool b)) (?_ : _ = _); simp <;> first | assumption | omega), hE3⟩
    | false =>
      have HR : Hid ((t.isExp) = false) := by show _ = _; rw [HQ.out]; first | (simp [HML.out, hc0, hc1]; done) | (have hla := hc1; simp only [Bool.and_eq_false_iff, decide_eq_false_iff_not] at hla; rcases hla with h | h <;> simp [HML.out, hc0, hc1, h])
      have hD1 := Below.refl W1.heap.size W1
      have hE1 := HB1.out
      obtain ⟨x0, x1, x2, x3, x4⟩ := HBX.out
      dsimp only at x0 x1 x2 x3 x4
      have HC := risexp_any t ht ⟨k, ps, n, txt, kp, kl, kc⟩ W1 (HT.out.later hE1)
      try dsimp only at HC
      rw [hc0] at HC
      try unfold NC.val at HC
      go_wp2_with fail
      refine HC.mono ?_; rintro e W2 ⟨rfl, hC⟩
      have hD2 := hD1.trans (hC.mono hD1.size)
      have hE2 := HB1.out.trans (hD2.mono (by rw [HS1.out]; omega))
      clear HC hC hD1 hE1 x0 x1 x2 x3 x4
      obtain ⟨x0, x1, x2, x3, x4⟩ := HBX.out.same (hD2.block w.heap.size (by rw [HS1.out]; omega))
      dsimp only at x0 x1 x2 x3 x4
      have HC := rlow_any t ht ⟨k, ps, n, txt, kp, kl, kc⟩ W2 (HT.out.later hE2)
      try dsimp only at HC
      rw [hc1] at HC
      try unfold NC.val at HC
      go_wp2_with fail
      refine HC.mono ?_; rintro e W3 ⟨rfl, hC⟩
      have hD3 := hD2.trans (hC.mono hD2.size)
      have hE3 := HB1.out.trans (hD3.mono (by rw [HS1.out]; omega))
      clear HC hC hD2 hE2 x0 x1 x2 x3 x4
      obtain ⟨x0, x1, x2, x3, x4⟩ := HBX.out.same (hD3.block w.heap.size (by rw [HS1.out]; omega))
      dsimp only at x0 x1 x2 x3 x4
      go_wp2_with fail
      all_goals
        try rw [Exit.noGoto_ret]
        go_ret
        exact ⟨by rw [HR.out]; first | rfl | (refine congrArg (fun b => Ending.returned (Value.bool b)) (?_ : _ = _); simp <;> first | assumption | omega), hE3⟩
  | false =>
    have HR : Hid ((t.isExp) = false) := by show _ = _; rw [HQ.out]; first | (simp [HML.out, hc0]; done) | (have hla := hc0; simp only [Bool.and_eq_false_iff, decide_eq_false_iff_not] at hla; rcases hla with h | h <;> simp [HML.out, hc0, h])
    have hD1 := Below.refl W1.heap.size W1
    have hE1 := HB1.out
    obtain ⟨x0, x1, x2, x3, x4⟩ := HBX.out
    dsimp only at x0 x1 x2 x3 x4
    have HC := risexp_any t ht ⟨k, ps, n, txt, kp, kl, kc⟩ W1 (HT.out.later hE1)
    try dsimp only at HC
    rw [hc0] at HC
    try unfold NC.val at HC
    go_wp2_with fail
    refine HC.mono ?_; rintro e W2 ⟨rfl, hC⟩
    have hD2 := hD1.trans (hC.mono hD1.size)
    have hE2 := HB1.out.trans (hD2.mono (by rw [HS1.out]; omega))
    clear HC hC hD1 hE1 x0 x1 x2 x3 x4
    obtain ⟨x0, x1, x2, x3, x4⟩ := HBX.out.same (hD2.block w.heap.size (by rw [HS1.out]; omega))
    dsimp only at x0 x1 x2 x3 x4
    go_wp2_with fail
    all_goals
      try rw [Exit.noGoto_ret]
      go_ret
      exact ⟨by rw [HR.out]; first | rfl | (refine congrArg (fun b => Ending.returned (Value.bool b)) (?_ : _ = _); simp <;> first | assumption | omega), hE2⟩
set_option maxRecDepth 100000 in
set_option maxHeartbeats 4000000 in
theorem rdecl_any (t : Nd) (ht : Nd.Fit t) : Is 25 Nd.isDcl t := by
  intro c w h
  obtain ⟨k, ps, n, txt, kp, kl, kc⟩ := c
  obtain ⟨L, hL⟩ : ∃ L, L = t.kids.map Nd.kinds := ⟨_, rfl⟩
  have HQ : Hid ((t.isDcl) = (t.low && (if k = 37 then decide (txt = []) && (decide (n = 0) && L.all (·.decl)) else t.kinds.decl))) := by
    show _ = _
    unfold Nd.isDcl; rw [hL, ← h.kind, ← h.num, ← h.text]
  have hTx : txt.length ≤ maxLen := by have := h.text; dsimp only at this; rw [this]; exact ht.text
  have HLN : Hid (kl = t.kids.length) := h.len
  have HML : Hid (L.length = kl) := by show _ = _; rw [hL, List.length_map, HLN.out]
  have hk6 : kl ≤ 1000000 := by rw [HLN.out]; exact ht.len
  have hkc : kl ≤ kc := h.fits
  have HTL : Hid (t.kids.length ≤ 1000000) := ht.len
  have HK := Lib.hid h.kids
  have HT := Lib.hid h
  have HNUM : Hid (n = t.num) := h.num
  have HTXT : Hid (txt = t.text) := h.text
  have HL := Lib.hid hL
  dsimp only at HK
  clear h hL
  unfold NC.val
  obtain ⟨W1, hW1⟩ : ∃ W1, W1 = w.alloc (.cells #[.int .i64 k, .int .i64 ps, .int .i64 n, .string ⟨txt.toArray⟩, .slice kp kl kc] 24) := ⟨_, rfl⟩
  have HBX : Hid (NBox W1 w.heap.size ⟨k, ps, n, txt, kp, kl, kc⟩) := by rw [hW1]; exact NBox.new w ⟨k, ps, n, txt, kp, kl, kc⟩ 24
  have HB1 : Hid (Below w.heap.size w W1) := by rw [hW1]; exact (Below.refl _ w).alloc (Nat.le_refl _) _
  have hs1 : W1.heap.size = w.heap.size + 1 := by rw [hW1]; simp
  have HS1 := Lib.hid hs1
  have HW1 := Lib.hid hW1
  clear hW1 hs1
  go_enter Try.func25, Try.ntmps25
  go_upto_region 1 with fail
  rw [← HW1.out]
  clear HW1
  by_cases hk37_0 : k = 37
  case pos =>
    subst hk37_0
    cases hc0 : ((L.take kl).drop 0).all (·.decl) with
    | true =>
      have hz0 : L.all (·.decl) = true := by rw [← hc0, List.drop_zero, List.take_of_length_le (by rw [HML.out]; exact Nat.le_refl _)]
      by_cases htxt0_1 : txt = []
      case pos =>
        subst htxt0_1
        by_cases hn0_1 : n = 0
        case pos =>
          subst hn0_1
          cases hc1 : t.low with
          | true =>
            have HR : Hid ((t.isDcl) = true) := by show _ = _; rw [HQ.out]; simp [HML.out, hz0, hc1]
            have hD1 := Below.refl W1.heap.size W1
            have hE1 := HB1.out
            obtain ⟨x0, x1, x2, x3, x4⟩ := HBX.out
            dsimp only at x0 x1 x2 x3 x4
            have HLP := Lib.hid hc0
            clear hc0
            go_wp2_with fail
            go_loopg [3] (kl - 0) (fun g q wr => ∃ j : Nat, j + g = kl ∧ 0 ≤ j ∧ q = .int .i64 (j : Int) ∧ Hid (((L.take kl).drop j).all (·.decl) = true) ∧ Below W1.heap.size W1 wr)
            case atStart => exact ⟨0, by omega, Nat.le_refl _, (by first | rfl | go_num), HLP.out, hD1⟩
            case round =>
              obtain ⟨j, hjg, haj, rfl, HJ, hDj⟩ := hrel
              clear hD1 hE1
              obtain ⟨W2, rfl⟩ : ∃ x : World, x = wr := ⟨_, rfl⟩
              have hD2 := hDj
              have hE2 := HB1.out.trans (hDj.mono (by rw [HS1.out]; omega))
              clear hDj x0 x1 x2 x3 x4
              cases gk with
              | zero =>
                have hlt' : ¬ (j : Int) < (kl : Int) := by omega
                clear hjg haj
                obtain ⟨x0, x1, x2, x3, x4⟩ := HBX.out.same (hD2.block w.heap.size (by rw [HS1.out]; omega))
                dsimp only at x0 x1 x2 x3 x4
                have HC := rlow_any t ht ⟨37, ps, 0, [], kp, kl, kc⟩ W2 (HT.out.later hE2)
                try dsimp only at HC
                rw [hc1] at HC
                try unfold NC.val at HC
                go_wp2_with fail
                refine HC.mono ?_; rintro e W3 ⟨rfl, hC⟩
                have hD3 := hD2.trans (hC.mono hD2.size)
                have hE3 := HB1.out.trans (hD3.mono (by rw [HS1.out]; omega))
                clear HC hC hD2 hE2 x0 x1 x2 x3 x4
                obtain ⟨x0, x1, x2, x3, x4⟩ := HBX.out.same (hD3.block w.heap.size (by rw [HS1.out]; omega))
                dsimp only at x0 x1 x2 x3 x4
                go_wp2_with fail
                all_goals
                  try rw [Exit.noGoto_ret]
                  go_ret
                  exact ⟨by rw [HR.out]; first | rfl | (refine congrArg (fun b => Ending.returned (Value.bool b)) (?_ : _ = _); simp <;> first | assumption | omega), hE3⟩
              | succ g =>
                have hlt : j < kl := by omega
                have hlt' : (j : Int) < (kl : Int) := by omega
                have hjk : (j : Int) < (kl : Int) := by omega
                have hjl : j < kl := by omega
                have hj6 : (j : Int) ≤ 1000000 := by omega
                have hjt : j < t.kids.length := by rw [← HLN.out]; exact hjl
                obtain ⟨⟨kk, kps, kn, ktx, kkp, kkl, kkc⟩, gr, or, hpr, hgr, htr, hcr⟩ := HK.out.at j hjt
                have HPR := Lib.hid hpr
                have HGR := Lib.hid hgr
                have HTR := Lib.hid htr
                have HCR := Lib.hid hcr
                have HKK : Hid (kk = t.kids[j].kind ∧ kn = t.kids[j].num ∧ ktx = t.kids[j].text ∧ kkl = t.kids[j].kids.length) := ⟨htr.kind, htr.num, htr.text, htr.len⟩
                have HPS : Hid (((L.take kl).drop j).all (·.decl) = (((·.decl) t.kids[j].kinds) && ((L.take kl).drop (j + 1)).all (·.decl))) := by
                  show _ = _
                  rw [HL.out, List.drop_eq_getElem_cons (by rw [List.length_take, List.length_map]; omega), List.all_cons, List.getElem_take, List.getElem_map]
                have htK : Nd.Fit t.kids[j] := ht.kid (List.getElem_mem _)
                have hTxK : ktx.length ≤ maxLen := by rw [HKK.out.2.2.1]; exact htK.text
                have hkk6 : kkl ≤ 1000000 := by rw [HKK.out.2.2.2]; exact htK.len
                have HKE : Hid (((·.decl) t.kids[j].kinds) = (t.kids[j].kinds.decl)) := by
                  show _ = _
                  rfl
                clear hpr hgr htr hcr
                cases hq0 : t.kids[j].kinds.decl with
                | true =>
                  have HPv : Hid (((·.decl) t.kids[j].kinds) = true) := by show _ = _; rw [HKE.out]; simp [hq0]
                  have HJ2 : Hid (((L.take kl).drop (j + 1)).all (·.decl) = true) := by show _ = _; have h1 := HJ.out; rw [HPS.out, HPv.out, Bool.true_and] at h1; exact h1
                  obtain ⟨x0, x1, x2, x3, x4⟩ := HBX.out.same (hD2.block w.heap.size (by rw [HS1.out]; omega))
                  dsimp only at x0 x1 x2 x3 x4
                  obtain ⟨r0, r1, r2, r3, r4⟩ := HCR.out W2 (hE2.block _ HGR.out)
                  try dsimp only at r0 r1 r2 r3 r4
                  rw [HPR.out] at x4
                  have HC := risdecl_any _ (ht.kid (List.getElem_mem hjt)) _ W2 (HTR.out.later hE2)
                  try dsimp only at HC
                  rw [hq0] at HC
                  try unfold NC.val at HC
                  go_wp2_with fail
                  refine HC.mono ?_; rintro e W4 ⟨rfl, hC⟩
                  have hD4 := hD2.trans (hC.mono hD2.size)
                  have hE4 := HB1.out.trans (hD4.mono (by rw [HS1.out]; omega))
                  clear HC hC hD2 hE2 x0 x1 x2 x3 x4 r0 r1 r2 r3 r4
                  obtain ⟨x0, x1, x2, x3, x4⟩ := HBX.out.same (hD4.block w.heap.size (by rw [HS1.out]; omega))
                  dsimp only at x0 x1 x2 x3 x4
                  obtain ⟨r0, r1, r2, r3, r4⟩ := HCR.out W4 (hE4.block _ HGR.out)
                  try dsimp only at r0 r1 r2 r3 r4
                  rw [HPR.out] at x4
                  go_wp2_with fail
                  go_roundg g
                  case measure => omega
                  case rel => exact ⟨j + 1, by omega, by omega, (by go_num), HJ2, hD4⟩
                | false =>
                  have HPv : Hid (((·.decl) t.kids[j].kinds) = false) := by show _ = _; rw [HKE.out]; simp [hq0]
                  exact absurd HJ.out (by rw [HPS.out, HPv.out]; simp)
          | false =>
            have HR : Hid ((t.isDcl) = false) := by show _ = _; rw [HQ.out]; first | (simp [HML.out, hz0, hc1]; done) | (have hla := hc1; simp only [Bool.and_eq_false_iff, decide_eq_false_iff_not] at hla; rcases hla with h | h <;> simp [HML.out, hz0, hc1, h])
            have hD1 := Below.refl W1.heap.size W1
            have hE1 := HB1.out
            obtain ⟨x0, x1, x2, x3, x4⟩ := HBX.out
            dsimp only at x0 x1 x2 x3 x4
            have HLP := Lib.hid hc0
            clear hc0
            go_wp2_with fail
            go_loopg [3] (kl - 0) (fun g q wr => ∃ j : Nat, j + g = kl ∧ 0 ≤ j ∧ q = .int .i64 (j : Int) ∧ Hid (((L.take kl).drop j).all (·.decl) = true) ∧ Below W1.heap.size W1 wr)
            case atStart => exact ⟨0, by omega, Nat.le_refl _, (by first | rfl | go_num), HLP.out, hD1⟩
            case round =>
              obtain ⟨j, hjg, haj, rfl, HJ, hDj⟩ := hrel
              clear hD1 hE1
              obtain ⟨W2, rfl⟩ : ∃ x : World, x = wr := ⟨_, rfl⟩
              have hD2 := hDj
              have hE2 := HB1.out.trans (hDj.mono (by rw [HS1.out]; omega))
              clear hDj x0 x1 x2 x3 x4
              cases gk with
              | zero =>
                have hlt' : ¬ (j : Int) < (kl : Int) := by omega
                clear hjg haj
                obtain ⟨x0, x1, x2, x3, x4⟩ := HBX.out.same (hD2.block w.heap.size (by rw [HS1.out]; omega))
                dsimp only at x0 x1 x2 x3 x4
                have HC := rlow_any t ht ⟨37, ps, 0, [], kp, kl, kc⟩ W2 (HT.out.later hE2)
                try dsimp only at HC
                rw [hc1] at HC
                try unfold NC.val at HC
                go_wp2_with fail
                refine HC.mono ?_; rintro e W3 ⟨rfl, hC⟩
                have hD3 := hD2.trans (hC.mono hD2.size)
                have hE3 := HB1.out.trans (hD3.mono (by rw [HS1.out]; omega))
                clear HC hC hD2 hE2 x0 x1 x2 x3 x4
                obtain ⟨x0, x1, x2, x3, x4⟩ := HBX.out.same (hD3.block w.heap.size (by rw [HS1.out]; omega))
                dsimp only at x0 x1 x2 x3 x4
                go_wp2_with fail
                all_goals
                  try rw [Exit.noGoto_ret]
                  go_ret
                  exact ⟨by rw [HR.out]; first | rfl | (refine congrArg (fun b => Ending.returned (Value.bool b)) (?_ : _ = _); simp <;> first | assumption | omega), hE3⟩
              | succ g =>
                have hlt : j < kl := by omega
                have hlt' : (j : Int) < (kl : Int) := by omega
                have hjk : (j : Int) < (kl : Int) := by omega
                have hjl : j < kl := by omega
                have hj6 : (j : Int) ≤ 1000000 := by omega
                have hjt : j < t.kids.length := by rw [← HLN.out]; exact hjl
                obtain ⟨⟨kk, kps, kn, ktx, kkp, kkl, kkc⟩, gr, or, hpr, hgr, htr, hcr⟩ := HK.out.at j hjt
                have HPR := Lib.hid hpr
                have HGR := Lib.hid hgr
                have HTR := Lib.hid htr
                have HCR := Lib.hid hcr
                have HKK : Hid (kk = t.kids[j].kind ∧ kn = t.kids[j].num ∧ ktx = t.kids[j].text ∧ kkl = t.kids[j].kids.length) := ⟨htr.kind, htr.num, htr.text, htr.len⟩
                have HPS : Hid (((L.take kl).drop j).all (·.decl) = (((·.decl) t.kids[j].kinds) && ((L.take kl).drop (j + 1)).all (·.decl))) := by
                  show _ = _
                  rw [HL.out, List.drop_eq_getElem_cons (by rw [List.length_take, List.length_map]; omega), List.all_cons, List.getElem_take, List.getElem_map]
                have htK : Nd.Fit t.kids[j] := ht.kid (List.getElem_mem _)
                have hTxK : ktx.length ≤ maxLen := by rw [HKK.out.2.2.1]; exact htK.text
                have hkk6 : kkl ≤ 1000000 := by rw [HKK.out.2.2.2]; exact htK.len
                have HKE : Hid (((·.decl) t.kids[j].kinds) = (t.kids[j].kinds.decl)) := by
                  show _ = _
                  rfl
                clear hpr hgr htr hcr
                cases hq0 : t.kids[j].kinds.decl with
                | true =>
                  have HPv : Hid (((·.decl) t.kids[j].kinds) = true) := by show _ = _; rw [HKE.out]; simp [hq0]
                  have HJ2 : Hid (((L.take kl).drop (j + 1)).all (·.decl) = true) := by show _ = _; have h1 := HJ.out; rw [HPS.out, HPv.out, Bool.true_and] at h1; exact h1
                  obtain ⟨x0, x1, x2, x3, x4⟩ := HBX.out.same (hD2.block w.heap.size (by rw [HS1.out]; omega))
                  dsimp only at x0 x1 x2 x3 x4
                  obtain ⟨r0, r1, r2, r3, r4⟩ := HCR.out W2 (hE2.block _ HGR.out)
                  try dsimp only at r0 r1 r2 r3 r4
                  rw [HPR.out] at x4
                  have HC := risdecl_any _ (ht.kid (List.getElem_mem hjt)) _ W2 (HTR.out.later hE2)
                  try dsimp only at HC
                  rw [hq0] at HC
                  try unfold NC.val at HC
                  go_wp2_with fail
                  refine HC.mono ?_; rintro e W4 ⟨rfl, hC⟩
                  have hD4 := hD2.trans (hC.mono hD2.size)
                  have hE4 := HB1.out.trans (hD4.mono (by rw [HS1.out]; omega))
                  clear HC hC hD2 hE2 x0 x1 x2 x3 x4 r0 r1 r2 r3 r4
                  obtain ⟨x0, x1, x2, x3, x4⟩ := HBX.out.same (hD4.block w.heap.size (by rw [HS1.out]; omega))
                  dsimp only at x0 x1 x2 x3 x4
                  obtain ⟨r0, r1, r2, r3, r4⟩ := HCR.out W4 (hE4.block _ HGR.out)
                  try dsimp only at r0 r1 r2 r3 r4
                  rw [HPR.out] at x4
                  go_wp2_with fail
                  go_roundg g
                  case measure => omega
                  case rel => exact ⟨j + 1, by omega, by omega, (by go_num), HJ2, hD4⟩
                | false =>
                  have HPv : Hid (((·.decl) t.kids[j].kinds) = false) := by show _ = _; rw [HKE.out]; simp [hq0]
                  exact absurd HJ.out (by rw [HPS.out, HPv.out]; simp)
        case neg =>
          have HR : Hid ((t.isDcl) = false) := by show _ = _; rw [HQ.out]; simp [HML.out, hz0, hn0_1]
          have hD1 := Below.refl W1.heap.size W1
          have hE1 := HB1.out
          obtain ⟨x0, x1, x2, x3, x4⟩ := HBX.out
          dsimp only at x0 x1 x2 x3 x4
          have HLP := Lib.hid hc0
          clear hc0
          go_wp2_with fail
          go_loopg [3] (kl - 0) (fun g q wr => ∃ j : Nat, j + g = kl ∧ 0 ≤ j ∧ q = .int .i64 (j : Int) ∧ Hid (((L.take kl).drop j).all (·.decl) = true) ∧ Below W1.heap.size W1 wr)
          case atStart => exact ⟨0, by omega, Nat.le_refl _, (by first | rfl | go_num), HLP.out, hD1⟩
          case round =>
            obtain ⟨j, hjg, haj, rfl, HJ, hDj⟩ := hrel
            clear hD1 hE1
            obtain ⟨W2, rfl⟩ : ∃ x : World, x = wr := ⟨_, rfl⟩
            have hD2 := hDj
            have hE2 := HB1.out.trans (hDj.mono (by rw [HS1.out]; omega))
            clear hDj x0 x1 x2 x3 x4
            cases gk with
            | zero =>
              have hlt' : ¬ (j : Int) < (kl : Int) := by omega
              clear hjg haj
              obtain ⟨x0, x1, x2, x3, x4⟩ := HBX.out.same (hD2.block w.heap.size (by rw [HS1.out]; omega))
              dsimp only at x0 x1 x2 x3 x4
              go_wp2_with fail
              all_goals
                try rw [Exit.noGoto_ret]
                go_ret
                exact ⟨by rw [HR.out]; first | rfl | (refine congrArg (fun b => Ending.returned (Value.bool b)) (?_ : _ = _); simp <;> first | assumption | omega), hE2⟩
            | succ g =>
              have hlt : j < kl := by omega
              have hlt' : (j : Int) < (kl : Int) := by omega
              have hjk : (j : Int) < (kl : Int) := by omega
              have hjl : j < kl := by omega
              have hj6 : (j : Int) ≤ 1000000 := by omega
              have hjt : j < t.kids.length := by rw [← HLN.out]; exact hjl
              obtain ⟨⟨kk, kps, kn, ktx, kkp, kkl, kkc⟩, gr, or, hpr, hgr, htr, hcr⟩ := HK.out.at j hjt
              have HPR := Lib.hid hpr
              have HGR := Lib.hid hgr
              have HTR := Lib.hid htr
              have HCR := Lib.hid hcr
              have HKK : Hid (kk = t.kids[j].kind ∧ kn = t.kids[j].num ∧ ktx = t.kids[j].text ∧ kkl = t.kids[j].kids.length) := ⟨htr.kind, htr.num, htr.text, htr.len⟩
              have HPS : Hid (((L.take kl).drop j).all (·.decl) = (((·.decl) t.kids[j].kinds) && ((L.take kl).drop (j + 1)).all (·.decl))) := by
                show _ = _
                rw [HL.out, List.drop_eq_getElem_cons (by rw [List.length_take, List.length_map]; omega), List.all_cons, List.getElem_take, List.getElem_map]
              have htK : Nd.Fit t.kids[j] := ht.kid (List.getElem_mem _)
              have hTxK : ktx.length ≤ maxLen := by rw [HKK.out.2.2.1]; exact htK.text
              have hkk6 : kkl ≤ 1000000 := by rw [HKK.out.2.2.2]; exact htK.len
              have HKE : Hid (((·.decl) t.kids[j].kinds) = (t.kids[j].kinds.decl)) := by
                show _ = _
                rfl
              clear hpr hgr htr hcr
              cases hq0 : t.kids[j].kinds.decl with
              | true =>
                have HPv : Hid (((·.decl) t.kids[j].kinds) = true) := by show _ = _; rw [HKE.out]; simp [hq0]
                have HJ2 : Hid (((L.take kl).drop (j + 1)).all (·.decl) = true) := by show _ = _; have h1 := HJ.out; rw [HPS.out, HPv.out, Bool.true_and] at h1; exact h1
                obtain ⟨x0, x1, x2, x3, x4⟩ := HBX.out.same (hD2.block w.heap.size (by rw [HS1.out]; omega))
                dsimp only at x0 x1 x2 x3 x4
                obtain ⟨r0, r1, r2, r3, r4⟩ := HCR.out W2 (hE2.block _ HGR.out)
                try dsimp only at r0 r1 r2 r3 r4
                rw [HPR.out] at x4
                have HC := risdecl_any _ (ht.kid (List.getElem_mem hjt)) _ W2 (HTR.out.later hE2)
                try dsimp only at HC
                rw [hq0] at HC
                try unfold NC.val at HC
                go_wp2_with fail
                refine HC.mono ?_; rintro e W3 ⟨rfl, hC⟩
                have hD3 := hD2.trans (hC.mono hD2.size)
                have hE3 := HB1.out.trans (hD3.mono (by rw [HS1.out]; omega))
                clear HC hC hD2 hE2 x0 x1 x2 x3 x4 r0 r1 r2 r3 r4
                obtain ⟨x0, x1, x2, x3, x4⟩ := HBX.out.same (hD3.block w.heap.size (by rw [HS1.out]; omega))
                dsimp only at x0 x1 x2 x3 x4
                obtain ⟨r0, r1, r2, r3, r4⟩ := HCR.out W3 (hE3.block _ HGR.out)
                try dsimp only at r0 r1 r2 r3 r4
                rw [HPR.out] at x4
                go_wp2_with fail
                go_roundg g
                case measure => omega
                case rel => exact ⟨j + 1, by omega, by omega, (by go_num), HJ2, hD3⟩
              | false =>
                have HPv : Hid (((·.decl) t.kids[j].kinds) = false) := by show _ = _; rw [HKE.out]; simp [hq0]
                exact absurd HJ.out (by rw [HPS.out, HPv.out]; simp)
      case neg =>
        have HR : Hid ((t.isDcl) = false) := by show _ = _; rw [HQ.out]; simp [HML.out, hz0, htxt0_1]
        have hD1 := Below.refl W1.heap.size W1
        have hE1 := HB1.out
        obtain ⟨x0, x1, x2, x3, x4⟩ := HBX.out
        dsimp only at x0 x1 x2 x3 x4
        have HLP := Lib.hid hc0
        clear hc0
        go_wp2_with fail
        go_loopg [3] (kl - 0) (fun g q wr => ∃ j : Nat, j + g = kl ∧ 0 ≤ j ∧ q = .int .i64 (j : Int) ∧ Hid (((L.take kl).drop j).all (·.decl) = true) ∧ Below W1.heap.size W1 wr)
        case atStart => exact ⟨0, by omega, Nat.le_refl _, (by first | rfl | go_num), HLP.out, hD1⟩
        case round =>
          obtain ⟨j, hjg, haj, rfl, HJ, hDj⟩ := hrel
          clear hD1 hE1
          obtain ⟨W2, rfl⟩ : ∃ x : World, x = wr := ⟨_, rfl⟩
          have hD2 := hDj
          have hE2 := HB1.out.trans (hDj.mono (by rw [HS1.out]; omega))
          clear hDj x0 x1 x2 x3 x4
          cases gk with
          | zero =>
            have hlt' : ¬ (j : Int) < (kl : Int) := by omega
            clear hjg haj
            obtain ⟨x0, x1, x2, x3, x4⟩ := HBX.out.same (hD2.block w.heap.size (by rw [HS1.out]; omega))
            dsimp only at x0 x1 x2 x3 x4
            go_wp2_with fail
            all_goals
              try rw [Exit.noGoto_ret]
              go_ret
              exact ⟨by rw [HR.out]; first | rfl | (refine congrArg (fun b => Ending.returned (Value.bool b)) (?_ : _ = _); simp <;> first | assumption | omega), hE2⟩
          | succ g =>
            have hlt : j < kl := by omega
            have hlt' : (j : Int) < (kl : Int) := by omega
            have hjk : (j : Int) < (kl : Int) := by omega
            have hjl : j < kl := by omega
            have hj6 : (j : Int) ≤ 1000000 := by omega
            have hjt : j < t.kids.length := by rw [← HLN.out]; exact hjl
            obtain ⟨⟨kk, kps, kn, ktx, kkp, kkl, kkc⟩, gr, or, hpr, hgr, htr, hcr⟩ := HK.out.at j hjt
            have HPR := Lib.hid hpr
            have HGR := Lib.hid hgr
            have HTR := Lib.hid htr
            have HCR := Lib.hid hcr
            have HKK : Hid (kk = t.kids[j].kind ∧ kn = t.kids[j].num ∧ ktx = t.kids[j].text ∧ kkl = t.kids[j].kids.length) := ⟨htr.kind, htr.num, htr.text, htr.len⟩
            have HPS : Hid (((L.take kl).drop j).all (·.decl) = (((·.decl) t.kids[j].kinds) && ((L.take kl).drop (j + 1)).all (·.decl))) := by
              show _ = _
              rw [HL.out, List.drop_eq_getElem_cons (by rw [List.length_take, List.length_map]; omega), List.all_cons, List.getElem_take, List.getElem_map]
            have htK : Nd.Fit t.kids[j] := ht.kid (List.getElem_mem _)
            have hTxK : ktx.length ≤ maxLen := by rw [HKK.out.2.2.1]; exact htK.text
            have hkk6 : kkl ≤ 1000000 := by rw [HKK.out.2.2.2]; exact htK.len
            have HKE : Hid (((·.decl) t.kids[j].kinds) = (t.kids[j].kinds.decl)) := by
              show _ = _
              rfl
            clear hpr hgr htr hcr
            cases hq0 : t.kids[j].kinds.decl with
            | true =>
              have HPv : Hid (((·.decl) t.kids[j].kinds) = true) := by show _ = _; rw [HKE.out]; simp [hq0]
              have HJ2 : Hid (((L.take kl).drop (j + 1)).all (·.decl) = true) := by show _ = _; have h1 := HJ.out; rw [HPS.out, HPv.out, Bool.true_and] at h1; exact h1
              obtain ⟨x0, x1, x2, x3, x4⟩ := HBX.out.same (hD2.block w.heap.size (by rw [HS1.out]; omega))
              dsimp only at x0 x1 x2 x3 x4
              obtain ⟨r0, r1, r2, r3, r4⟩ := HCR.out W2 (hE2.block _ HGR.out)
              try dsimp only at r0 r1 r2 r3 r4
              rw [HPR.out] at x4
              have HC := risdecl_any _ (ht.kid (List.getElem_mem hjt)) _ W2 (HTR.out.later hE2)
              try dsimp only at HC
              rw [hq0] at HC
              try unfold NC.val at HC
              go_wp2_with fail
              refine HC.mono ?_; rintro e W3 ⟨rfl, hC⟩
              have hD3 := hD2.trans (hC.mono hD2.size)
              have hE3 := HB1.out.trans (hD3.mono (by rw [HS1.out]; omega))
              clear HC hC hD2 hE2 x0 x1 x2 x3 x4 r0 r1 r2 r3 r4
              obtain ⟨x0, x1, x2, x3, x4⟩ := HBX.out.same (hD3.block w.heap.size (by rw [HS1.out]; omega))
              dsimp only at x0 x1 x2 x3 x4
              obtain ⟨r0, r1, r2, r3, r4⟩ := HCR.out W3 (hE3.block _ HGR.out)
              try dsimp only at r0 r1 r2 r3 r4
              rw [HPR.out] at x4
              go_wp2_with fail
              go_roundg g
              case measure => omega
              case rel => exact ⟨j + 1, by omega, by omega, (by go_num), HJ2, hD3⟩
            | false =>
              have HPv : Hid (((·.decl) t.kids[j].kinds) = false) := by show _ = _; rw [HKE.out]; simp [hq0]
              exact absurd HJ.out (by rw [HPS.out, HPv.out]; simp)
    | false =>
      have hz0 : L.all (·.decl) = false := by rw [← hc0, List.drop_zero, List.take_of_length_le (by rw [HML.out]; exact Nat.le_refl _)]
      have HR : Hid ((t.isDcl) = false) := by show _ = _; rw [HQ.out]; simp [HML.out, hz0]
      have hD1 := Below.refl W1.heap.size W1
      have hE1 := HB1.out
      obtain ⟨x0, x1, x2, x3, x4⟩ := HBX.out
      dsimp only at x0 x1 x2 x3 x4
      have HLP := Lib.hid hc0
      clear hc0
      go_wp2_with fail
      go_loopg [3] (kl - 0) (fun g q wr => ∃ j : Nat, j + g = kl ∧ 0 ≤ j ∧ q = .int .i64 (j : Int) ∧ Hid (((L.take kl).drop j).all (·.decl) = false) ∧ Below W1.heap.size W1 wr)
      case atStart => exact ⟨0, by omega, Nat.le_refl _, (by first | rfl | go_num), HLP.out, hD1⟩
      case round =>
        obtain ⟨j, hjg, haj, rfl, HJ, hDj⟩ := hrel
        clear hD1 hE1
        obtain ⟨W2, rfl⟩ : ∃ x : World, x = wr := ⟨_, rfl⟩
        have hD2 := hDj
        have hE2 := HB1.out.trans (hDj.mono (by rw [HS1.out]; omega))
        clear hDj x0 x1 x2 x3 x4
        cases gk with
        | zero =>
          exfalso
          have h0 := HJ.out
          rw [List.drop_eq_nil_of_le (by rw [List.length_take, HML.out]; omega)] at h0
          simp at h0
        | succ g =>
          have hlt : j < kl := by omega
          have hlt' : (j : Int) < (kl : Int) := by omega
          have hjk : (j : Int) < (kl : Int) := by omega
          have hjl : j < kl := by omega
          have hj6 : (j : Int) ≤ 1000000 := by omega
          have hjt : j < t.kids.length := by rw [← HLN.out]; exact hjl
          obtain ⟨⟨kk, kps, kn, ktx, kkp, kkl, kkc⟩, gr, or, hpr, hgr, htr, hcr⟩ := HK.out.at j hjt
          have HPR := Lib.hid hpr
          have HGR := Lib.hid hgr
          have HTR := Lib.hid htr
          have HCR := Lib.hid hcr
          have HKK : Hid (kk = t.kids[j].kind ∧ kn = t.kids[j].num ∧ ktx = t.kids[j].text ∧ kkl = t.kids[j].kids.length) := ⟨htr.kind, htr.num, htr.text, htr.len⟩
          have HPS : Hid (((L.take kl).drop j).all (·.decl) = (((·.decl) t.kids[j].kinds) && ((L.take kl).drop (j + 1)).all (·.decl))) := by
            show _ = _
            rw [HL.out, List.drop_eq_getElem_cons (by rw [List.length_take, List.length_map]; omega), List.all_cons, List.getElem_take, List.getElem_map]
          have htK : Nd.Fit t.kids[j] := ht.kid (List.getElem_mem _)
          have hTxK : ktx.length ≤ maxLen := by rw [HKK.out.2.2.1]; exact htK.text
          have hkk6 : kkl ≤ 1000000 := by rw [HKK.out.2.2.2]; exact htK.len
          have HKE : Hid (((·.decl) t.kids[j].kinds) = (t.kids[j].kinds.decl)) := by
            show _ = _
            rfl
          clear hpr hgr htr hcr
          cases hq0 : t.kids[j].kinds.decl with
          | true =>
            have HPv : Hid (((·.decl) t.kids[j].kinds) = true) := by show _ = _; rw [HKE.out]; simp [hq0]
            have HJ2 : Hid (((L.take kl).drop (j + 1)).all (·.decl) = false) := by show _ = _; have h1 := HJ.out; rw [HPS.out, HPv.out, Bool.true_and] at h1; exact h1
            obtain ⟨x0, x1, x2, x3, x4⟩ := HBX.out.same (hD2.block w.heap.size (by rw [HS1.out]; omega))
            dsimp only at x0 x1 x2 x3 x4
            obtain ⟨r0, r1, r2, r3, r4⟩ := HCR.out W2 (hE2.block _ HGR.out)
            try dsimp only at r0 r1 r2 r3 r4
            rw [HPR.out] at x4
            have HC := risdecl_any _ (ht.kid (List.getElem_mem hjt)) _ W2 (HTR.out.later hE2)
            try dsimp only at HC
            rw [hq0] at HC
            try unfold NC.val at HC
            go_wp2_with fail
            refine HC.mono ?_; rintro e W3 ⟨rfl, hC⟩
            have hD3 := hD2.trans (hC.mono hD2.size)
            have hE3 := HB1.out.trans (hD3.mono (by rw [HS1.out]; omega))
            clear HC hC hD2 hE2 x0 x1 x2 x3 x4 r0 r1 r2 r3 r4
            obtain ⟨x0, x1, x2, x3, x4⟩ := HBX.out.same (hD3.block w.heap.size (by rw [HS1.out]; omega))
            dsimp only at x0 x1 x2 x3 x4
            obtain ⟨r0, r1, r2, r3, r4⟩ := HCR.out W3 (hE3.block _ HGR.out)
            try dsimp only at r0 r1 r2 r3 r4
            rw [HPR.out] at x4
            go_wp2_with fail
            go_roundg g
            case measure => omega
            case rel => exact ⟨j + 1, by omega, by omega, (by go_num), HJ2, hD3⟩
          | false =>
            have HPv : Hid (((·.decl) t.kids[j].kinds) = false) := by show _ = _; rw [HKE.out]; simp [hq0]
            obtain ⟨x0, x1, x2, x3, x4⟩ := HBX.out.same (hD2.block w.heap.size (by rw [HS1.out]; omega))
            dsimp only at x0 x1 x2 x3 x4
            obtain ⟨r0, r1, r2, r3, r4⟩ := HCR.out W2 (hE2.block _ HGR.out)
            try dsimp only at r0 r1 r2 r3 r4
            rw [HPR.out] at x4
            have HC := risdecl_any _ (ht.kid (List.getElem_mem hjt)) _ W2 (HTR.out.later hE2)
            try dsimp only at HC
            rw [hq0] at HC
            try unfold NC.val at HC
            go_wp2_with fail
            refine HC.mono ?_; rintro e W3 ⟨rfl, hC⟩
            have hD3 := hD2.trans (hC.mono hD2.size)
            have hE3 := HB1.out.trans (hD3.mono (by rw [HS1.out]; omega))
            clear HC hC hD2 hE2 x0 x1 x2 x3 x4 r0 r1 r2 r3 r4
            obtain ⟨x0, x1, x2, x3, x4⟩ := HBX.out.same (hD3.block w.heap.size (by rw [HS1.out]; omega))
            dsimp only at x0 x1 x2 x3 x4
            obtain ⟨r0, r1, r2, r3, r4⟩ := HCR.out W3 (hE3.block _ HGR.out)
            try dsimp only at r0 r1 r2 r3 r4
            rw [HPR.out] at x4
            go_wp2_with fail
            all_goals
              try rw [Exit.noGoto_ret]
              go_ret
              exact ⟨by rw [HR.out]; first | rfl | (refine congrArg (fun b => Ending.returned (Value.bool b)) (?_ : _ = _); simp <;> first | assumption | omega), hE3⟩
  case neg =>
    cases hc1 : t.kinds.decl with
    | true =>
      cases hc2 : t.low with
      | true =>
        have HR : Hid ((t.isDcl) = true) := by show _ = _; rw [HQ.out]; simp [HML.out, hk37_0, hc1, hc2]
        have hD1 := Below.refl W1.heap.size W1
        have hE1 := HB1.out
        obtain ⟨x0, x1, x2, x3, x4⟩ := HBX.out
        dsimp only at x0 x1 x2 x3 x4
        have HC := risdecl_any t ht ⟨k, ps, n, txt, kp, kl, kc⟩ W1 (HT.out.later hE1)
        try dsimp only at HC
        rw [hc1] at HC
        try unfold NC.val at HC
        go_wp2_with fail
        refine HC.mono ?_; rintro e W2 ⟨rfl, hC⟩
        have hD2 := hD1.trans (hC.mono hD1.size)
        have hE2 := HB1.out.trans (hD2.mono (by rw [HS1.out]; omega))
        clear HC hC hD1 hE1 x0 x1 x2 x3 x4
        obtain ⟨x0, x1, x2, x3, x4⟩ := HBX.out.same (hD2.block w.heap.size (by rw [HS1.out]; omega))
        dsimp only at x0 x1 x2 x3 x4
        have HC := rlow_any t ht ⟨k, ps, n, txt, kp, kl, kc⟩ W2 (HT.out.later hE2)
        try dsimp only at HC
        rw [hc2] at HC
        try unfold NC.val at HC
        go_wp2_with fail
        refine HC.mono ?_; rintro e W3 ⟨rfl, hC⟩
        have hD3 := hD2.trans (hC.mono hD2.size)
        have hE3 := HB1.out.trans (hD3.mono (by rw [HS1.out]; omega))
        clear HC hC hD2 hE2 x0 x1 x2 x3 x4
        obtain ⟨x0, x1, x2, x3, x4⟩ := HBX.out.same (hD3.block w.heap.size (by rw [HS1.out]; omega))
        dsimp only at x0 x1 x2 x3 x4
        go_wp2_with fail
        all_goals
          try rw [Exit.noGoto_ret]
          go_ret
          exact ⟨by rw [HR.out]; first | rfl | (refine congrArg (fun b => Ending.returned (Value.bool b)) (?_ : _ = _); simp <;> first | assumption | omega), hE3⟩
      | false =>
        have HR : Hid ((t.isDcl) = false) := by show _ = _; rw [HQ.out]; first | (simp [HML.out, hk37_0, hc1, hc2]; done) | (have hla := hc2; simp only [Bool.and_eq_false_iff, decide_eq_false_iff_not] at hla; rcases hla with h | h <;> simp [HML.out, hk37_0, hc1, hc2, h])
        have hD1 := Below.refl W1.heap.size W1
        have hE1 := HB1.out
        obtain ⟨x0, x1, x2, x3, x4⟩ := HBX.out
        dsimp only at x0 x1 x2 x3 x4
        have HC := risdecl_any t ht ⟨k, ps, n, txt, kp, kl, kc⟩ W1 (HT.out.later hE1)
        try dsimp only at HC
        rw [hc1] at HC
        try unfold NC.val at HC
        go_wp2_with fail
        refine HC.mono ?_; rintro e W2 ⟨rfl, hC⟩
        have hD2 := hD1.trans (hC.mono hD1.size)
        have hE2 := HB1.out.trans (hD2.mono (by rw [HS1.out]; omega))
        clear HC hC hD1 hE1 x0 x1 x2 x3 x4
        obtain ⟨x0, x1, x2, x3, x4⟩ := HBX.out.same (hD2.block w.heap.size (by rw [HS1.out]; omega))
        dsimp only at x0 x1 x2 x3 x4
        have HC := rlow_any t ht ⟨k, ps, n, txt, kp, kl, kc⟩ W2 (HT.out.later hE2)
        try dsimp only at HC
        rw [hc2] at HC
        try unfold NC.val at HC
        go_wp2_with fail
        refine HC.mono ?_; rintro e W3 ⟨rfl, hC⟩
        have hD3 := hD2.trans (hC.mono hD2.size)
        have hE3 := HB1.out.trans (hD3.mono (by rw [HS1.out]; omega))
        clear HC hC hD2 hE2 x0 x1 x2 x3 x4
        obtain ⟨x0, x1, x2, x3, x4⟩ := HBX.out.same (hD3.block w.heap.size (by rw [HS1.out]; omega))
        dsimp only at x0 x1 x2 x3 x4
        go_wp2_with fail
        all_goals
          try rw [Exit.noGoto_ret]
          go_ret
          exact ⟨by rw [HR.out]; first | rfl | (refine congrArg (fun b => Ending.returned (Value.bool b)) (?_ : _ = _); simp <;> first | assumption | omega), hE3⟩
    | false =>
      have HR : Hid ((t.isDcl) = false) := by show _ = _; rw [HQ.out]; first | (simp [HML.out, hk37_0, hc1]; done) | (have hla := hc1; simp only [Bool.and_eq_false_iff, decide_eq_false_iff_not] at hla; rcases hla with h | h <;> simp [HML.out, hk37_0, hc1, h])
      have hD1 := Below.refl W1.heap.size W1
      have hE1 := HB1.out
      obtain ⟨x0, x1, x2, x3, x4⟩ := HBX.out
      dsimp only at x0 x1 x2 x3 x4
      have HC := risdecl_any t ht ⟨k, ps, n, txt, kp, kl, kc⟩ W1 (HT.out.later hE1)
      try dsimp only at HC
      rw [hc1] at HC
      try unfold NC.val at HC
      go_wp2_with fail
      refine HC.mono ?_; rintro e W2 ⟨rfl, hC⟩
      have hD2 := hD1.trans (hC.mono hD1.size)
      have hE2 := HB1.out.trans (hD2.mono (by rw [HS1.out]; omega))
      clear HC hC hD1 hE1 x0 x1 x2 x3 x4
      obtain ⟨x0, x1, x2, x3, x4⟩ := HBX.out.same (hD2.block w.heap.size (by rw [HS1.out]; omega))
      dsimp only at x0 x1 x2 x3 x4
      go_wp2_with fail
      all_goals
        try rw [Exit.noGoto_ret]
        go_ret
        exact ⟨by rw [HR.out]; first | rfl | (refine congrArg (fun b => Ending.returned (Value.bool b)) (?_ : _ = _); simp <;> first | assumption | omega), hE2⟩
end Go.Proofs.Ytobmpipifdielaa
