/- What kind a tree is: the document's own functions. -/
import Derived.Test.YtobmpipifdielaaNodeKindC
namespace Go.Proofs.Ytobmpipifdielaa
open Go.RowKit

theorem conB_arrow2 : conB [45, 62] = false := conB_arrow
set_option maxHeartbeats 1600000 in
theorem plain_any (c : NC) (w : World) (j : Nat) (hj : j ≤ 1000000) (hk6 : c.kl ≤ 1000000) : Calls Try.prog 43 #[c.val, .int .i64 (j : Int)] w (SaysIs (decide (c.num = 0) && decide (c.kl = j)) w) := by
  unfold NC.val
  by_cases h1 : c.num = 0
  · by_cases h2 : c.kl = j
    · have h2' : (c.kl : Int) = (j : Int) := by omega
      have HR : Hid ((decide (c.num = 0) && decide (c.kl = j)) = true) := by show _ = _; simp [h1, h2]
      clear h2
      go_enter Try.func43, Try.ntmps43
      go_wp2_with fail
      go_ret
      exact ⟨by rw [HR.out]; first | rfl | (refine congrArg (fun b => Ending.returned (Value.bool b)) (?_ : _ = _); simp <;> first | assumption | omega), (Below.refl _ w).alloc (Nat.le_refl _) _⟩
    · have h2' : ¬ (c.kl : Int) = (j : Int) := by omega
      have HR : Hid ((decide (c.num = 0) && decide (c.kl = j)) = false) := by show _ = _; simp [h2]
      clear h2
      go_enter Try.func43, Try.ntmps43
      go_wp2_with fail
      go_ret
      exact ⟨by rw [HR.out]; first | rfl | (refine congrArg (fun b => Ending.returned (Value.bool b)) (?_ : _ = _); simp <;> first | assumption | omega), (Below.refl _ w).alloc (Nat.le_refl _) _⟩
  · have HR : Hid ((decide (c.num = 0) && decide (c.kl = j)) = false) := by show _ = _; simp [h1]
    go_enter Try.func43, Try.ntmps43
    go_wp2_with fail
    go_ret
    exact ⟨by rw [HR.out]; rfl, (Below.refl _ w).alloc (Nat.le_refl _) _⟩
theorem plain_yes (c : NC) (w : World) (j : Nat) (hj : j ≤ 1000000) (hk6 : c.kl ≤ 1000000) (h1 : c.num = 0) (h2 : c.kl = j) : Calls Try.prog 43 #[c.val, .int .i64 (j : Int)] w (SaysIs true w) := by
  have := plain_any c w j hj hk6
  rw [show (decide (c.num = 0) && decide (c.kl = j)) = true from by simp [h1, h2]] at this
  exact this
set_option maxHeartbeats 1600000 in
theorem types_of {w : World} {v : Value} {ts : List Nd} (h : KidsAt w v ts) (hl : ts.length ≤ 1000000) (hall : ∀ t ∈ ts, Is 30 (fun t => t.kinds.typ) t) :
    Calls Try.prog 45 #[v] w (SaysIs (ts.all fun t => t.kinds.typ) w) := by
  obtain ⟨q, cap, rfl, hcap⟩ := h.form
  have HK := Lib.hid h
  have HA := Lib.hid hall
  clear h hall
  generalize hn : ts.length = n at *
  have HN := Lib.hid hn
  clear hn
  go_enter Try.func45, Try.ntmps45
  go_wp2_with fail
  go_loopg [3] n (fun g i wr => ∃ k : Nat, k + g = n ∧ i = .int .i64 (k : Int) ∧ Hid (((ts.drop k).all fun t => t.kinds.typ) = ts.all fun t => t.kinds.typ) ∧ Below w.heap.size w wr)
  case atStart => exact ⟨0, by omega, rfl, rfl, Below.refl _ _⟩
  case round =>
    obtain ⟨k, hkg, rfl, HD, hB⟩ := hrel
    cases gk with
    | zero =>
      obtain rfl : k = n := by omega
      have HR : Hid ((ts.all fun t => t.kinds.typ) = true) := by show _ = _; rw [← HD.out, List.drop_eq_nil_of_le (by rw [HN.out]; exact Nat.le_refl _)]; rfl
      go_wp2_with fail
      try rw [Exit.noGoto_ret]
      go_ret
      exact ⟨by rw [HR.out]; rfl, hB⟩
    | succ g =>
      have hlt : k < n := by omega
      have hlt' : (k : Int) < n := by omega
      have hkt : k < ts.length := by rw [HN.out]; exact hlt
      obtain ⟨kc, g1, o1, hp1, hg1, hK1, hcell1⟩ := HK.out.at k hkt
      obtain ⟨p0, p1, p2, p3, p4⟩ := hcell1 wr (hB.block _ hg1)
      have HC := HA.out ts[k] (List.getElem_mem hkt) kc _ (hK1.later hB)
      have HD2 : Hid ((ts.all fun t => t.kinds.typ) = (ts[k].kinds.typ && (ts.drop (k + 1)).all fun t => t.kinds.typ)) := by show _ = _; rw [← HD.out, all_drop _ _ _ hkt]
      have HB1 := Lib.hid hB
      clear hcell1 hK1 hB
      try dsimp only at HC
      unfold NC.val at HC
      cases hs : ts[k].kinds.typ with
      | true =>
        have HD3 : Hid (((ts.drop (k + 1)).all fun t => t.kinds.typ) = ts.all fun t => t.kinds.typ) := by show _ = _; rw [HD2.out, hs]; rfl
        rw [hs] at HC
        clear hs
        go_wp2_with fail
        refine HC.mono ?_; rintro e w2 ⟨rfl, hB3⟩
        clear HC hp1
        go_wp2_with fail
        go_roundg g
        case measure => omega
        case rel => exact ⟨k + 1, by omega, by go_num, HD3, HB1.out.trans (hB3.mono HB1.out.size)⟩
      | false =>
        have HD3 : Hid ((ts.all fun t => t.kinds.typ) = false) := by show _ = _; rw [HD2.out, hs]; rfl
        rw [hs] at HC
        clear hs
        go_wp2_with fail
        refine HC.mono ?_; rintro e w2 ⟨rfl, hB3⟩
        clear HC hp1
        go_wp2_with fail
        try rw [Exit.noGoto_ret]
        go_ret
        exact ⟨by rw [HD3.out]; rfl, HB1.out.trans (hB3.mono HB1.out.size)⟩
set_option maxRecDepth 100000 in
set_option maxHeartbeats 4000000 in
theorem ristype_step (t : Nd) (ht : Nd.Fit t) (hTypes : ∀ t' ∈ t.kids, Is 30 (fun t => t.kinds.typ) t') : Is 30 (fun t => t.kinds.typ) t := by
  intro c w h
  obtain ⟨k, ps, n, txt, kp, kl, kc⟩ := c
  obtain ⟨L, hL⟩ : ∃ L, L = t.kids.map Nd.kinds := ⟨_, rfl⟩
  have HQ : Hid (t.kinds.typ = (typK k n txt L)) := by
    show _ = _
    try rw [hL]
    rw [Nd.kinds_eq, ← h.kind, ← h.num, ← h.text]; rfl
  have hTx : txt.length ≤ maxLen := by have := h.text; dsimp only at this; rw [this]; exact ht.text
  have HLN : Hid (kl = t.kids.length) := h.len
  have HML : Hid (L.length = kl) := by show _ = _; rw [hL, List.length_map, HLN.out]
  have hk6 : kl ≤ 1000000 := by rw [HLN.out]; exact ht.len
  have hkc : kl ≤ kc := h.fits
  have HTL : Hid (t.kids.length ≤ 1000000) := ht.len
  have HK := Lib.hid h.kids
  have HT := Lib.hid h
  have HNUM : Hid (n = t.num) := h.num
  have HTXT : Hid (txt = t.text) := h.text
  have HL := Lib.hid hL
  dsimp only at HK
  clear h hL
  unfold NC.val
  obtain ⟨W1, hW1⟩ : ∃ W1, W1 = w.alloc (.cells #[.int .i64 k, .int .i64 ps, .int .i64 n, .string ⟨txt.toArray⟩, .slice kp kl kc] 24) := ⟨_, rfl⟩
  have HBX : Hid (NBox W1 w.heap.size ⟨k, ps, n, txt, kp, kl, kc⟩) := by rw [hW1]; exact NBox.new w ⟨k, ps, n, txt, kp, kl, kc⟩ 24
  have HB1 : Hid (Below w.heap.size w W1) := by rw [hW1]; exact (Below.refl _ w).alloc (Nat.le_refl _) _
  have hs1 : W1.heap.size = w.heap.size + 1 := by rw [hW1]; simp
  have HS1 := Lib.hid hs1
  have HW1 := Lib.hid hW1
  clear hW1 hs1
  go_enter Try.func30, Try.ntmps30
  go_upto_region 1 with fail
  rw [← HW1.out]
  clear HW1
  by_cases hk1_0 : k = 1
  case pos =>
    subst hk1_0
    cases hc0 : varB txt with
    | true =>
      cases hc1 : decide (n = 0) && decide (kl = 0) with
      | true =>
        have HR : Hid (t.kinds.typ = true) := by show _ = _; rw [HQ.out]; simp [typK, varK, arrowL, conB_arrow, HML.out, hc0, hc1]
        have hD1 := Below.refl W1.heap.size W1
        have hE1 := HB1.out
        obtain ⟨x0, x1, x2, x3, x4⟩ := HBX.out
        dsimp only at x0 x1 x2 x3 x4
        have HC := refvar_text txt W1 hTx
        try dsimp only at HC
        rw [hc0] at HC
        try unfold NC.val at HC
        go_wp2_with fail
        refine HC.mono ?_; rintro e W2 ⟨rfl, hC⟩
        have hD2 := hD1.trans (hC.mono hD1.size)
        have hE2 := HB1.out.trans (hD2.mono (by rw [HS1.out]; omega))
        clear HC hC hD1 hE1 x0 x1 x2 x3 x4
        obtain ⟨x0, x1, x2, x3, x4⟩ := HBX.out.same (hD2.block w.heap.size (by rw [HS1.out]; omega))
        dsimp only at x0 x1 x2 x3 x4
        have HC := plain_any ⟨1, ps, n, txt, kp, kl, kc⟩ W2 0 (by omega) hk6
        try dsimp only at HC
        rw [hc1] at HC
        try unfold NC.val at HC
        go_wp2_with fail
        refine HC.mono ?_; rintro e W3 ⟨rfl, hC⟩
        have hD3 := hD2.trans (hC.mono hD2.size)
        have hE3 := HB1.out.trans (hD3.mono (by rw [HS1.out]; omega))
        clear HC hC hD2 hE2 x0 x1 x2 x3 x4
        obtain ⟨x0, x1, x2, x3, x4⟩ := HBX.out.same (hD3.block w.heap.size (by rw [HS1.out]; omega))
        dsimp only at x0 x1 x2 x3 x4
        go_wp2_with fail
        all_goals
          try rw [Exit.noGoto_ret]
          go_ret
          exact ⟨by rw [HR.out]; first | rfl | (refine congrArg (fun b => Ending.returned (Value.bool b)) (?_ : _ = _); simp <;> first | assumption | omega), hE3⟩
      | false =>
        have HR : Hid (t.kinds.typ = false) := by show _ = _; rw [HQ.out]; first | (simp [typK, varK, arrowL, conB_arrow, HML.out, hc0, hc1]; done) | (have hla := hc1; simp only [Bool.and_eq_false_iff, decide_eq_false_iff_not] at hla; rcases hla with h | h <;> simp [typK, varK, arrowL, conB_arrow, HML.out, hc0, hc1, h])
        have hD1 := Below.refl W1.heap.size W1
        have hE1 := HB1.out
        obtain ⟨x0, x1, x2, x3, x4⟩ := HBX.out
        dsimp only at x0 x1 x2 x3 x4
        have HC := refvar_text txt W1 hTx
        try dsimp only at HC
        rw [hc0] at HC
        try unfold NC.val at HC
        go_wp2_with fail
        refine HC.mono ?_; rintro e W2 ⟨rfl, hC⟩
        have hD2 := hD1.trans (hC.mono hD1.size)
        have hE2 := HB1.out.trans (hD2.mono (by rw [HS1.out]; omega))
        clear HC hC hD1 hE1 x0 x1 x2 x3 x4
        obtain ⟨x0, x1, x2, x3, x4⟩ := HBX.out.same (hD2.block w.heap.size (by rw [HS1.out]; omega))
        dsimp only at x0 x1 x2 x3 x4
        have HC := plain_any ⟨1, ps, n, txt, kp, kl, kc⟩ W2 0 (by omega) hk6
        try dsimp only at HC
        rw [hc1] at HC
        try unfold NC.val at HC
        go_wp2_with fail
        refine HC.mono ?_; rintro e W3 ⟨rfl, hC⟩
        have hD3 := hD2.trans (hC.mono hD2.size)
        have hE3 := HB1.out.trans (hD3.mono (by rw [HS1.out]; omega))
        clear HC hC hD2 hE2 x0 x1 x2 x3 x4
        obtain ⟨x0, x1, x2, x3, x4⟩ := HBX.out.same (hD3.block w.heap.size (by rw [HS1.out]; omega))
        dsimp only at x0 x1 x2 x3 x4
        go_wp2_with fail
        all_goals
          try rw [Exit.noGoto_ret]
          go_ret
          exact ⟨by rw [HR.out]; first | rfl | (refine congrArg (fun b => Ending.returned (Value.bool b)) (?_ : _ = _); simp <;> first | assumption | omega), hE3⟩
    | false =>
      have HR : Hid (t.kinds.typ = false) := by show _ = _; rw [HQ.out]; first | (simp [typK, varK, arrowL, conB_arrow, HML.out, hc0]; done) | (have hla := hc0; simp only [Bool.and_eq_false_iff, decide_eq_false_iff_not] at hla; rcases hla with h | h <;> simp [typK, varK, arrowL, conB_arrow, HML.out, hc0, h])
      have hD1 := Below.refl W1.heap.size W1
      have hE1 := HB1.out
      obtain ⟨x0, x1, x2, x3, x4⟩ := HBX.out
      dsimp only at x0 x1 x2 x3 x4
      have HC := refvar_text txt W1 hTx
      try dsimp only at HC
      rw [hc0] at HC
      try unfold NC.val at HC
      go_wp2_with fail
      refine HC.mono ?_; rintro e W2 ⟨rfl, hC⟩
      have hD2 := hD1.trans (hC.mono hD1.size)
      have hE2 := HB1.out.trans (hD2.mono (by rw [HS1.out]; omega))
      clear HC hC hD1 hE1 x0 x1 x2 x3 x4
      obtain ⟨x0, x1, x2, x3, x4⟩ := HBX.out.same (hD2.block w.heap.size (by rw [HS1.out]; omega))
      dsimp only at x0 x1 x2 x3 x4
      go_wp2_with fail
      all_goals
        try rw [Exit.noGoto_ret]
        go_ret
        exact ⟨by rw [HR.out]; first | rfl | (refine congrArg (fun b => Ending.returned (Value.bool b)) (?_ : _ = _); simp <;> first | assumption | omega), hE2⟩
  case neg =>
    by_cases hk2_1 : k = 2
    case pos =>
      subst hk2_1
      cases hc1 : conB txt with
      | true =>
        have harr : ¬ txt = [45, 62] := by intro h; subst h; revert hc1; rw [conB_arrow]; simp
        by_cases hn0_2 : n = 0
        case pos =>
          subst hn0_2
          cases hc2 : L.all (·.typ) with
          | true =>
            have HR : Hid (t.kinds.typ = true) := by show _ = _; rw [HQ.out]; simp [typK, varK, arrowL, conB_arrow, HML.out, hk1_0, hc1, hc2]
            have hD1 := Below.refl W1.heap.size W1
            have hE1 := HB1.out
            obtain ⟨x0, x1, x2, x3, x4⟩ := HBX.out
            dsimp only at x0 x1 x2 x3 x4
            have HC := refcon_text txt W1 hTx
            try dsimp only at HC
            rw [hc1] at HC
            try unfold NC.val at HC
            go_wp2_with fail
            refine HC.mono ?_; rintro e W2 ⟨rfl, hC⟩
            have hD2 := hD1.trans (hC.mono hD1.size)
            have hE2 := HB1.out.trans (hD2.mono (by rw [HS1.out]; omega))
            clear HC hC hD1 hE1 x0 x1 x2 x3 x4
            obtain ⟨x0, x1, x2, x3, x4⟩ := HBX.out.same (hD2.block w.heap.size (by rw [HS1.out]; omega))
            dsimp only at x0 x1 x2 x3 x4
            have HC := types_of (HK.out.later hE2) HTL.out hTypes
            try dsimp only at HC
            have hcv : _ = _ := ((all_map t.kids (·.typ)).symm.trans (by rw [HL.out]) : (t.kids.all fun t => t.kinds.typ) = L.all (·.typ))
            rw [hcv, hc2] at HC
            try unfold NC.val at HC
            go_wp2_with fail
            refine HC.mono ?_; rintro e W3 ⟨rfl, hC⟩
            have hD3 := hD2.trans (hC.mono hD2.size)
            have hE3 := HB1.out.trans (hD3.mono (by rw [HS1.out]; omega))
            clear HC hC hD2 hE2 x0 x1 x2 x3 x4 hcv
            obtain ⟨x0, x1, x2, x3, x4⟩ := HBX.out.same (hD3.block w.heap.size (by rw [HS1.out]; omega))
            dsimp only at x0 x1 x2 x3 x4
            go_wp2_with fail
            all_goals
              try rw [Exit.noGoto_ret]
              go_ret
              exact ⟨by rw [HR.out]; first | rfl | (refine congrArg (fun b => Ending.returned (Value.bool b)) (?_ : _ = _); simp <;> first | assumption | omega), hE3⟩
          | false =>
            have HR : Hid (t.kinds.typ = false) := by show _ = _; rw [HQ.out]; first | (simp [typK, varK, arrowL, conB_arrow, HML.out, hk1_0, hc1, hc2]; done) | (have hla := hc2; simp only [Bool.and_eq_false_iff, decide_eq_false_iff_not] at hla; rcases hla with h | h <;> simp [typK, varK, arrowL, conB_arrow, HML.out, hk1_0, hc1, hc2, h])
            have hD1 := Below.refl W1.heap.size W1
            have hE1 := HB1.out
            obtain ⟨x0, x1, x2, x3, x4⟩ := HBX.out
            dsimp only at x0 x1 x2 x3 x4
            have HC := refcon_text txt W1 hTx
            try dsimp only at HC
            rw [hc1] at HC
            try unfold NC.val at HC
            go_wp2_with fail
            refine HC.mono ?_; rintro e W2 ⟨rfl, hC⟩
            have hD2 := hD1.trans (hC.mono hD1.size)
            have hE2 := HB1.out.trans (hD2.mono (by rw [HS1.out]; omega))
            clear HC hC hD1 hE1 x0 x1 x2 x3 x4
            obtain ⟨x0, x1, x2, x3, x4⟩ := HBX.out.same (hD2.block w.heap.size (by rw [HS1.out]; omega))
            dsimp only at x0 x1 x2 x3 x4
            have HC := types_of (HK.out.later hE2) HTL.out hTypes
            try dsimp only at HC
            have hcv : _ = _ := ((all_map t.kids (·.typ)).symm.trans (by rw [HL.out]) : (t.kids.all fun t => t.kinds.typ) = L.all (·.typ))
            rw [hcv, hc2] at HC
            try unfold NC.val at HC
            go_wp2_with fail
            refine HC.mono ?_; rintro e W3 ⟨rfl, hC⟩
            have hD3 := hD2.trans (hC.mono hD2.size)
            have hE3 := HB1.out.trans (hD3.mono (by rw [HS1.out]; omega))
            clear HC hC hD2 hE2 x0 x1 x2 x3 x4 hcv
            obtain ⟨x0, x1, x2, x3, x4⟩ := HBX.out.same (hD3.block w.heap.size (by rw [HS1.out]; omega))
            dsimp only at x0 x1 x2 x3 x4
            go_wp2_with fail
            all_goals
              try rw [Exit.noGoto_ret]
              go_ret
              exact ⟨by rw [HR.out]; first | rfl | (refine congrArg (fun b => Ending.returned (Value.bool b)) (?_ : _ = _); simp <;> first | assumption | omega), hE3⟩
        case neg =>
          have HR : Hid (t.kinds.typ = false) := by show _ = _; rw [HQ.out]; simp [typK, varK, arrowL, conB_arrow, HML.out, hk1_0, hc1, hn0_2]
          have hD1 := Below.refl W1.heap.size W1
          have hE1 := HB1.out
          obtain ⟨x0, x1, x2, x3, x4⟩ := HBX.out
          dsimp only at x0 x1 x2 x3 x4
          have HC := refcon_text txt W1 hTx
          try dsimp only at HC
          rw [hc1] at HC
          try unfold NC.val at HC
          go_wp2_with fail
          refine HC.mono ?_; rintro e W2 ⟨rfl, hC⟩
          have hD2 := hD1.trans (hC.mono hD1.size)
          have hE2 := HB1.out.trans (hD2.mono (by rw [HS1.out]; omega))
          clear HC hC hD1 hE1 x0 x1 x2 x3 x4
          obtain ⟨x0, x1, x2, x3, x4⟩ := HBX.out.same (hD2.block w.heap.size (by rw [HS1.out]; omega))
          dsimp only at x0 x1 x2 x3 x4
          go_wp2_with fail
          all_goals
            try rw [Exit.noGoto_ret]
            go_ret
            exact ⟨by rw [HR.out]; first | rfl | (refine congrArg (fun b => Ending.returned (Value.bool b)) (?_ : _ = _); simp <;> first | assumption | omega), hE2⟩
      | false =>
        by_cases harrow_2 : txt = [45, 62]
        case pos =>
          subst harrow_2
          cases hc2 : decide (n = 0) && decide (kl = 2) with
          | true =>
            have hz_3 := hc2
            simp only [Bool.and_eq_true, decide_eq_true_eq] at hz_3
            obtain ⟨rfl, rfl⟩ := hz_3
            clear hc2
            cases hc2 : L.all (·.typ) with
            | true =>
              have HR : Hid (t.kinds.typ = true) := by show _ = _; rw [HQ.out]; simp [typK, varK, arrowL, conB_arrow, HML.out, hk1_0, hc1, hc2]
              have hD1 := Below.refl W1.heap.size W1
              have hE1 := HB1.out
              obtain ⟨x0, x1, x2, x3, x4⟩ := HBX.out
              dsimp only at x0 x1 x2 x3 x4
              have HC := refcon_text [45, 62] W1 hTx
              try dsimp only at HC
              rw [hc1] at HC
              try unfold NC.val at HC
              go_wp2_with fail
              refine HC.mono ?_; rintro e W2 ⟨rfl, hC⟩
              have hD2 := hD1.trans (hC.mono hD1.size)
              have hE2 := HB1.out.trans (hD2.mono (by rw [HS1.out]; omega))
              clear HC hC hD1 hE1 x0 x1 x2 x3 x4
              obtain ⟨x0, x1, x2, x3, x4⟩ := HBX.out.same (hD2.block w.heap.size (by rw [HS1.out]; omega))
              dsimp only at x0 x1 x2 x3 x4
              have HC := plain_yes ⟨2, ps, 0, [45, 62], kp, 2, kc⟩ W2 2 (by omega) hk6 rfl rfl
              try dsimp only at HC
              try unfold NC.val at HC
              go_wp2_with fail
              refine HC.mono ?_; rintro e W3 ⟨rfl, hC⟩
              have hD3 := hD2.trans (hC.mono hD2.size)
              have hE3 := HB1.out.trans (hD3.mono (by rw [HS1.out]; omega))
              clear HC hC hD2 hE2 x0 x1 x2 x3 x4
              obtain ⟨x0, x1, x2, x3, x4⟩ := HBX.out.same (hD3.block w.heap.size (by rw [HS1.out]; omega))
              dsimp only at x0 x1 x2 x3 x4
              have HC := types_of (HK.out.later hE3) HTL.out hTypes
              try dsimp only at HC
              have hcv : _ = _ := ((all_map t.kids (·.typ)).symm.trans (by rw [HL.out]) : (t.kids.all fun t => t.kinds.typ) = L.all (·.typ))
              rw [hcv, hc2] at HC
              try unfold NC.val at HC
              go_wp2_with fail
              refine HC.mono ?_; rintro e W4 ⟨rfl, hC⟩
              have hD4 := hD3.trans (hC.mono hD3.size)
              have hE4 := HB1.out.trans (hD4.mono (by rw [HS1.out]; omega))
              clear HC hC hD3 hE3 x0 x1 x2 x3 x4 hcv
              obtain ⟨x0, x1, x2, x3, x4⟩ := HBX.out.same (hD4.block w.heap.size (by rw [HS1.out]; omega))
              dsimp only at x0 x1 x2 x3 x4
              go_wp2_with fail
              all_goals
                try rw [Exit.noGoto_ret]
                go_ret
                exact ⟨by rw [HR.out]; first | rfl | (refine congrArg (fun b => Ending.returned (Value.bool b)) (?_ : _ = _); simp <;> first | assumption | omega), hE4⟩
            | false =>
              have HR : Hid (t.kinds.typ = false) := by show _ = _; rw [HQ.out]; first | (simp [typK, varK, arrowL, conB_arrow, HML.out, hk1_0, hc1, hc2]; done) | (have hla := hc2; simp only [Bool.and_eq_false_iff, decide_eq_false_iff_not] at hla; rcases hla with h | h <;> simp [typK, varK, arrowL, conB_arrow, HML.out, hk1_0, hc1, hc2, h])
              have hD1 := Below.refl W1.heap.size W1
              have hE1 := HB1.out
              obtain ⟨x0, x1, x2, x3, x4⟩ := HBX.out
              dsimp only at x0 x1 x2 x3 x4
              have HC := refcon_text [45, 62] W1 hTx
              try dsimp only at HC
              rw [hc1] at HC
              try unfold NC.val at HC
              go_wp2_with fail
              refine HC.mono ?_; rintro e W2 ⟨rfl, hC⟩
              have hD2 := hD1.trans (hC.mono hD1.size)
              have hE2 := HB1.out.trans (hD2.mono (by rw [HS1.out]; omega))
              clear HC hC hD1 hE1 x0 x1 x2 x3 x4
              obtain ⟨x0, x1, x2, x3, x4⟩ := HBX.out.same (hD2.block w.heap.size (by rw [HS1.out]; omega))
              dsimp only at x0 x1 x2 x3 x4
              have HC := plain_yes ⟨2, ps, 0, [45, 62], kp, 2, kc⟩ W2 2 (by omega) hk6 rfl rfl
              try dsimp only at HC
              try unfold NC.val at HC
              go_wp2_with fail
              refine HC.mono ?_; rintro e W3 ⟨rfl, hC⟩
              have hD3 := hD2.trans (hC.mono hD2.size)
              have hE3 := HB1.out.trans (hD3.mono (by rw [HS1.out]; omega))
              clear HC hC hD2 hE2 x0 x1 x2 x3 x4
              obtain ⟨x0, x1, x2, x3, x4⟩ := HBX.out.same (hD3.block w.heap.size (by rw [HS1.out]; omega))
              dsimp only at x0 x1 x2 x3 x4
              have HC := types_of (HK.out.later hE3) HTL.out hTypes
              try dsimp only at HC
              have hcv : _ = _ := ((all_map t.kids (·.typ)).symm.trans (by rw [HL.out]) : (t.kids.all fun t => t.kinds.typ) = L.all (·.typ))
              rw [hcv, hc2] at HC
              try unfold NC.val at HC
              go_wp2_with fail
              refine HC.mono ?_; rintro e W4 ⟨rfl, hC⟩
              have hD4 := hD3.trans (hC.mono hD3.size)
              have hE4 := HB1.out.trans (hD4.mono (by rw [HS1.out]; omega))
              clear HC hC hD3 hE3 x0 x1 x2 x3 x4 hcv
              obtain ⟨x0, x1, x2, x3, x4⟩ := HBX.out.same (hD4.block w.heap.size (by rw [HS1.out]; omega))
              dsimp only at x0 x1 x2 x3 x4
              go_wp2_with fail
              all_goals
                try rw [Exit.noGoto_ret]
                go_ret
                exact ⟨by rw [HR.out]; first | rfl | (refine congrArg (fun b => Ending.returned (Value.bool b)) (?_ : _ = _); simp <;> first | assumption | omega), hE4⟩
          | false =>
            have HR : Hid (t.kinds.typ = false) := by show _ = _; rw [HQ.out]; first | (simp [typK, varK, arrowL, conB_arrow, HML.out, hk1_0, hc1, hc2]; done) | (have hla := hc2; simp only [Bool.and_eq_false_iff, decide_eq_false_iff_not] at hla; rcases hla with h | h <;> simp [typK, varK, arrowL, conB_arrow, HML.out, hk1_0, hc1, hc2, h])
            have hD1 := Below.refl W1.heap.size W1
            have hE1 := HB1.out
            obtain ⟨x0, x1, x2, x3, x4⟩ := HBX.out
            dsimp only at x0 x1 x2 x3 x4
            have HC := refcon_text [45, 62] W1 hTx
            try dsimp only at HC
            rw [hc1] at HC
            try unfold NC.val at HC
            go_wp2_with fail
            refine HC.mono ?_; rintro e W2 ⟨rfl, hC⟩
            have hD2 := hD1.trans (hC.mono hD1.size)
            have hE2 := HB1.out.trans (hD2.mono (by rw [HS1.out]; omega))
            clear HC hC hD1 hE1 x0 x1 x2 x3 x4
            obtain ⟨x0, x1, x2, x3, x4⟩ := HBX.out.same (hD2.block w.heap.size (by rw [HS1.out]; omega))
            dsimp only at x0 x1 x2 x3 x4
            have HC := plain_any ⟨2, ps, n, [45, 62], kp, kl, kc⟩ W2 2 (by omega) hk6
            try dsimp only at HC
            rw [hc2] at HC
            try unfold NC.val at HC
            go_wp2_with fail
            refine HC.mono ?_; rintro e W3 ⟨rfl, hC⟩
            have hD3 := hD2.trans (hC.mono hD2.size)
            have hE3 := HB1.out.trans (hD3.mono (by rw [HS1.out]; omega))
            clear HC hC hD2 hE2 x0 x1 x2 x3 x4
            obtain ⟨x0, x1, x2, x3, x4⟩ := HBX.out.same (hD3.block w.heap.size (by rw [HS1.out]; omega))
            dsimp only at x0 x1 x2 x3 x4
            go_wp2_with fail
            all_goals
              try rw [Exit.noGoto_ret]
              go_ret
              exact ⟨by rw [HR.out]; first | rfl | (refine congrArg (fun b => Ending.returned (Value.bool b)) (?_ : _ = _); simp <;> first | assumption | omega), hE3⟩
        case neg =>
          have HR : Hid (t.kinds.typ = false) := by show _ = _; rw [HQ.out]; simp [typK, varK, arrowL, conB_arrow, HML.out, hk1_0, hc1, harrow_2]
          have hD1 := Below.refl W1.heap.size W1
          have hE1 := HB1.out
          obtain ⟨x0, x1, x2, x3, x4⟩ := HBX.out
          dsimp only at x0 x1 x2 x3 x4
          have HC := refcon_text txt W1 hTx
          try dsimp only at HC
          rw [hc1] at HC
          try unfold NC.val at HC
          go_wp2_with fail
          refine HC.mono ?_; rintro e W2 ⟨rfl, hC⟩
          have hD2 := hD1.trans (hC.mono hD1.size)
          have hE2 := HB1.out.trans (hD2.mono (by rw [HS1.out]; omega))
          clear HC hC hD1 hE1 x0 x1 x2 x3 x4
          obtain ⟨x0, x1, x2, x3, x4⟩ := HBX.out.same (hD2.block w.heap.size (by rw [HS1.out]; omega))
          dsimp only at x0 x1 x2 x3 x4
          go_wp2_with fail
          all_goals
            try rw [Exit.noGoto_ret]
            go_ret
            exact ⟨by rw [HR.out]; first | rfl | (refine congrArg (fun b => Ending.returned (Value.bool b)) (?_ : _ = _); simp <;> first | assumption | omega), hE2⟩
    case neg =>
      have HR : Hid (t.kinds.typ = false) := by show _ = _; rw [HQ.out]; simp [typK, varK, arrowL, conB_arrow, HML.out, hk1_0, hk2_1]
      have hD1 := Below.refl W1.heap.size W1
      have hE1 := HB1.out
      obtain ⟨x0, x1, x2, x3, x4⟩ := HBX.out
      dsimp only at x0 x1 x2 x3 x4
      go_wp2_with fail
      all_goals
        try rw [Exit.noGoto_ret]
        go_ret
        exact ⟨by rw [HR.out]; first | rfl | (refine congrArg (fun b => Ending.returned (Value.bool b)) (?_ : _ = _); simp <;> first | assumption | omega), hE1⟩
theorem ristype_any (t : Nd) : Nd.Fit t → Is 30 (fun t => t.kinds.typ) t := by
  induction t using Nd.by_size with
  | h t ih => exact fun ht => ristype_step t ht fun t' h => ih t' (Nd.kid_lt h) (ht.kid h)
set_option maxHeartbeats 1600000 in
theorem preds_of {w : World} {v : Value} {ts : List Nd} (h : KidsAt w v ts) (hl : ts.length ≤ 1000000) (hall : ∀ t ∈ ts, Is 76 (fun t => t.kinds.pred) t) :
    Calls Try.prog 72 #[v] w (SaysIs (ts.all fun t => t.kinds.pred) w) := by
  obtain ⟨q, cap, rfl, hcap⟩ := h.form
  have HK := Lib.hid h
  have HA := Lib.hid hall
  clear h hall
  generalize hn : ts.length = n at *
  have HN := Lib.hid hn
  clear hn
  go_enter Try.func72, Try.ntmps72
  go_wp2_with fail
  go_loopg [3] n (fun g i wr => ∃ k : Nat, k + g = n ∧ i = .int .i64 (k : Int) ∧ Hid (((ts.drop k).all fun t => t.kinds.pred) = ts.all fun t => t.kinds.pred) ∧ Below w.heap.size w wr)
  case atStart => exact ⟨0, by omega, rfl, rfl, Below.refl _ _⟩
  case round =>
    obtain ⟨k, hkg, rfl, HD, hB⟩ := hrel
    cases gk with
    | zero =>
      obtain rfl : k = n := by omega
      have HR : Hid ((ts.all fun t => t.kinds.pred) = true) := by show _ = _; rw [← HD.out, List.drop_eq_nil_of_le (by rw [HN.out]; exact Nat.le_refl _)]; rfl
      go_wp2_with fail
      try rw [Exit.noGoto_ret]
      go_ret
      exact ⟨by rw [HR.out]; rfl, hB⟩
    | succ g =>
      have hlt : k < n := by omega
      have hlt' : (k : Int) < n := by omega
      have hkt : k < ts.length := by rw [HN.out]; exact hlt
      obtain ⟨kc, g1, o1, hp1, hg1, hK1, hcell1⟩ := HK.out.at k hkt
      obtain ⟨p0, p1, p2, p3, p4⟩ := hcell1 wr (hB.block _ hg1)
      have HC := HA.out ts[k] (List.getElem_mem hkt) kc _ (hK1.later hB)
      have HD2 : Hid ((ts.all fun t => t.kinds.pred) = (ts[k].kinds.pred && (ts.drop (k + 1)).all fun t => t.kinds.pred)) := by show _ = _; rw [← HD.out, all_drop _ _ _ hkt]
      have HB1 := Lib.hid hB
      clear hcell1 hK1 hB
      try dsimp only at HC
      unfold NC.val at HC
      cases hs : ts[k].kinds.pred with
      | true =>
        have HD3 : Hid (((ts.drop (k + 1)).all fun t => t.kinds.pred) = ts.all fun t => t.kinds.pred) := by show _ = _; rw [HD2.out, hs]; rfl
        rw [hs] at HC
        clear hs
        go_wp2_with fail
        refine HC.mono ?_; rintro e w2 ⟨rfl, hB3⟩
        clear HC hp1
        go_wp2_with fail
        go_roundg g
        case measure => omega
        case rel => exact ⟨k + 1, by omega, by go_num, HD3, HB1.out.trans (hB3.mono HB1.out.size)⟩
      | false =>
        have HD3 : Hid ((ts.all fun t => t.kinds.pred) = false) := by show _ = _; rw [HD2.out, hs]; rfl
        rw [hs] at HC
        clear hs
        go_wp2_with fail
        refine HC.mono ?_; rintro e w2 ⟨rfl, hB3⟩
        clear HC hp1
        go_wp2_with fail
        try rw [Exit.noGoto_ret]
        go_ret
        exact ⟨by rw [HD3.out]; rfl, HB1.out.trans (hB3.mono HB1.out.size)⟩
set_option maxRecDepth 100000 in
set_option maxHeartbeats 4000000 in
theorem rpred_any (t : Nd) (ht : Nd.Fit t) : Is 76 (fun t => t.kinds.pred) t := by
  intro c w h
  obtain ⟨k, ps, n, txt, kp, kl, kc⟩ := c
  obtain ⟨L, hL⟩ : ∃ L, L = t.kids.map Nd.kinds := ⟨_, rfl⟩
  have HQ : Hid (t.kinds.pred = (predK k n txt L)) := by
    show _ = _
    try rw [hL]
    rw [Nd.kinds_eq, ← h.kind, ← h.num, ← h.text]; rfl
  have hTx : txt.length ≤ maxLen := by have := h.text; dsimp only at this; rw [this]; exact ht.text
  have HLN : Hid (kl = t.kids.length) := h.len
  have HML : Hid (L.length = kl) := by show _ = _; rw [hL, List.length_map, HLN.out]
  have hk6 : kl ≤ 1000000 := by rw [HLN.out]; exact ht.len
  have hkc : kl ≤ kc := h.fits
  have HTL : Hid (t.kids.length ≤ 1000000) := ht.len
  have HK := Lib.hid h.kids
  have HT := Lib.hid h
  have HNUM : Hid (n = t.num) := h.num
  have HTXT : Hid (txt = t.text) := h.text
  have HL := Lib.hid hL
  dsimp only at HK
  clear h hL
  unfold NC.val
  obtain ⟨W1, hW1⟩ : ∃ W1, W1 = w.alloc (.cells #[.int .i64 k, .int .i64 ps, .int .i64 n, .string ⟨txt.toArray⟩, .slice kp kl kc] 24) := ⟨_, rfl⟩
  have HBX : Hid (NBox W1 w.heap.size ⟨k, ps, n, txt, kp, kl, kc⟩) := by rw [hW1]; exact NBox.new w ⟨k, ps, n, txt, kp, kl, kc⟩ 24
  have HB1 : Hid (Below w.heap.size w W1) := by rw [hW1]; exact (Below.refl _ w).alloc (Nat.le_refl _) _
  have hs1 : W1.heap.size = w.heap.size + 1 := by rw [hW1]; simp
  have HS1 := Lib.hid hs1
  have HW1 := Lib.hid hW1
  clear hW1 hs1
  go_enter Try.func76, Try.ntmps76
  go_upto_region 1 with fail
  rw [← HW1.out]
  clear HW1
  by_cases hk3_0 : k = 3
  case pos =>
    subst hk3_0
    cases hc0 : conB txt with
    | true =>
      cases hc1 : decide (n = 0) && decide (kl = 1) with
      | true =>
        have hz_2 := hc1
        simp only [Bool.and_eq_true, decide_eq_true_eq] at hz_2
        obtain ⟨rfl, rfl⟩ := hz_2
        clear hc1
        cases hc1 : atK L 0 (·.typ) with
        | true =>
          obtain ⟨kc_p, g_p, o_p, hp_p, hg_p, ht_p, hc_p⟩ := HK.out.at 0 (by rw [← HLN.out]; omega)
          subst hp_p
          have HG_p := Lib.hid hg_p
          have HT_p := Lib.hid ht_p
          have HC_p := Lib.hid hc_p
          clear hg_p ht_p hc_p
          have HR : Hid (t.kinds.pred = true) := by show _ = _; rw [HQ.out]; simp [predK, HML.out, hc0, hc1]
          have hD1 := Below.refl W1.heap.size W1
          have hE1 := HB1.out
          obtain ⟨x0, x1, x2, x3, x4⟩ := HBX.out
          dsimp only at x0 x1 x2 x3 x4
          obtain ⟨p0, p1, p2, p3, p4⟩ := HC_p.out W1 (hE1.block _ HG_p.out)
          simp only [Nat.zero_mul, Nat.add_zero] at p0 p1 p2 p3 p4
          have HC := refcon_text txt W1 hTx
          try dsimp only at HC
          rw [hc0] at HC
          try unfold NC.val at HC
          go_wp2_with fail
          refine HC.mono ?_; rintro e W2 ⟨rfl, hC⟩
          have hD2 := hD1.trans (hC.mono hD1.size)
          have hE2 := HB1.out.trans (hD2.mono (by rw [HS1.out]; omega))
          clear HC hC hD1 hE1 x0 x1 x2 x3 x4 p0 p1 p2 p3 p4
          obtain ⟨x0, x1, x2, x3, x4⟩ := HBX.out.same (hD2.block w.heap.size (by rw [HS1.out]; omega))
          dsimp only at x0 x1 x2 x3 x4
          obtain ⟨p0, p1, p2, p3, p4⟩ := HC_p.out W2 (hE2.block _ HG_p.out)
          simp only [Nat.zero_mul, Nat.add_zero] at p0 p1 p2 p3 p4
          have HC := plain_yes ⟨3, ps, 0, txt, (some ⟨g_p, o_p, none⟩), 1, kc⟩ W2 1 (by omega) hk6 rfl rfl
          try dsimp only at HC
          try unfold NC.val at HC
          go_wp2_with fail
          refine HC.mono ?_; rintro e W3 ⟨rfl, hC⟩
          have hD3 := hD2.trans (hC.mono hD2.size)
          have hE3 := HB1.out.trans (hD3.mono (by rw [HS1.out]; omega))
          clear HC hC hD2 hE2 x0 x1 x2 x3 x4 p0 p1 p2 p3 p4
          obtain ⟨x0, x1, x2, x3, x4⟩ := HBX.out.same (hD3.block w.heap.size (by rw [HS1.out]; omega))
          dsimp only at x0 x1 x2 x3 x4
          obtain ⟨p0, p1, p2, p3, p4⟩ := HC_p.out W3 (hE3.block _ HG_p.out)
          simp only [Nat.zero_mul, Nat.add_zero] at p0 p1 p2 p3 p4
          have HC := (ristype_any _ (ht.kid (List.getElem_mem _))) kc_p W3 (HT_p.out.later hE3)
          try dsimp only at HC
          have hcv : _ = _ := ((atK_map t.kids 0 (·.typ) (by rw [← HLN.out]; omega)).symm.trans (by rw [HL.out]) : (t.kids[0]'(by rw [← HLN.out]; omega)).kinds.typ = atK L 0 (·.typ))
          rw [hcv, hc1] at HC
          try unfold NC.val at HC
          go_wp2_with fail
          refine HC.mono ?_; rintro e W4 ⟨rfl, hC⟩
          have hD4 := hD3.trans (hC.mono hD3.size)
          have hE4 := HB1.out.trans (hD4.mono (by rw [HS1.out]; omega))
          clear HC hC hD3 hE3 x0 x1 x2 x3 x4 hcv p0 p1 p2 p3 p4
          obtain ⟨x0, x1, x2, x3, x4⟩ := HBX.out.same (hD4.block w.heap.size (by rw [HS1.out]; omega))
          dsimp only at x0 x1 x2 x3 x4
          obtain ⟨p0, p1, p2, p3, p4⟩ := HC_p.out W4 (hE4.block _ HG_p.out)
          simp only [Nat.zero_mul, Nat.add_zero] at p0 p1 p2 p3 p4
          go_wp2_with fail
          all_goals
            try rw [Exit.noGoto_ret]
            go_ret
            exact ⟨by rw [HR.out]; first | rfl | (refine congrArg (fun b => Ending.returned (Value.bool b)) (?_ : _ = _); simp <;> first | assumption | omega), hE4⟩
        | false =>
          obtain ⟨kc_p, g_p, o_p, hp_p, hg_p, ht_p, hc_p⟩ := HK.out.at 0 (by rw [← HLN.out]; omega)
          subst hp_p
          have HG_p := Lib.hid hg_p
          have HT_p := Lib.hid ht_p
          have HC_p := Lib.hid hc_p
          clear hg_p ht_p hc_p
          have HR : Hid (t.kinds.pred = false) := by show _ = _; rw [HQ.out]; first | (simp [predK, HML.out, hc0, hc1]; done) | (have hla := hc1; simp only [Bool.and_eq_false_iff, decide_eq_false_iff_not] at hla; rcases hla with h | h <;> simp [predK, HML.out, hc0, hc1, h])
          have hD1 := Below.refl W1.heap.size W1
          have hE1 := HB1.out
          obtain ⟨x0, x1, x2, x3, x4⟩ := HBX.out
          dsimp only at x0 x1 x2 x3 x4
          obtain ⟨p0, p1, p2, p3, p4⟩ := HC_p.out W1 (hE1.block _ HG_p.out)
          simp only [Nat.zero_mul, Nat.add_zero] at p0 p1 p2 p3 p4
          have HC := refcon_text txt W1 hTx
          try dsimp only at HC
          rw [hc0] at HC
          try unfold NC.val at HC
          go_wp2_with fail
          refine HC.mono ?_; rintro e W2 ⟨rfl, hC⟩
          have hD2 := hD1.trans (hC.mono hD1.size)
          have hE2 := HB1.out.trans (hD2.mono (by rw [HS1.out]; omega))
          clear HC hC hD1 hE1 x0 x1 x2 x3 x4 p0 p1 p2 p3 p4
          obtain ⟨x0, x1, x2, x3, x4⟩ := HBX.out.same (hD2.block w.heap.size (by rw [HS1.out]; omega))
          dsimp only at x0 x1 x2 x3 x4
          obtain ⟨p0, p1, p2, p3, p4⟩ := HC_p.out W2 (hE2.block _ HG_p.out)
          simp only [Nat.zero_mul, Nat.add_zero] at p0 p1 p2 p3 p4
          have HC := plain_yes ⟨3, ps, 0, txt, (some ⟨g_p, o_p, none⟩), 1, kc⟩ W2 1 (by omega) hk6 rfl rfl
          try dsimp only at HC
          try unfold NC.val at HC
          go_wp2_with fail
          refine HC.mono ?_; rintro e W3 ⟨rfl, hC⟩
          have hD3 := hD2.trans (hC.mono hD2.size)
          have hE3 := HB1.out.trans (hD3.mono (by rw [HS1.out]; omega))
          clear HC hC hD2 hE2 x0 x1 x2 x3 x4 p0 p1 p2 p3 p4
          obtain ⟨x0, x1, x2, x3, x4⟩ := HBX.out.same (hD3.block w.heap.size (by rw [HS1.out]; omega))
          dsimp only at x0 x1 x2 x3 x4
          obtain ⟨p0, p1, p2, p3, p4⟩ := HC_p.out W3 (hE3.block _ HG_p.out)
          simp only [Nat.zero_mul, Nat.add_zero] at p0 p1 p2 p3 p4
          have HC := (ristype_any _ (ht.kid (List.getElem_mem _))) kc_p W3 (HT_p.out.later hE3)
          try dsimp only at HC
          have hcv : _ = _ := ((atK_map t.kids 0 (·.typ) (by rw [← HLN.out]; omega)).symm.trans (by rw [HL.out]) : (t.kids[0]'(by rw [← HLN.out]; omega)).kinds.typ = atK L 0 (·.typ))
          rw [hcv, hc1] at HC
          try unfold NC.val at HC
          go_wp2_with fail
          refine HC.mono ?_; rintro e W4 ⟨rfl, hC⟩
          have hD4 := hD3.trans (hC.mono hD3.size)
          have hE4 := HB1.out.trans (hD4.mono (by rw [HS1.out]; omega))
          clear HC hC hD3 hE3 x0 x1 x2 x3 x4 hcv p0 p1 p2 p3 p4
          obtain ⟨x0, x1, x2, x3, x4⟩ := HBX.out.same (hD4.block w.heap.size (by rw [HS1.out]; omega))
          dsimp only at x0 x1 x2 x3 x4
          obtain ⟨p0, p1, p2, p3, p4⟩ := HC_p.out W4 (hE4.block _ HG_p.out)
          simp only [Nat.zero_mul, Nat.add_zero] at p0 p1 p2 p3 p4
          go_wp2_with fail
          all_goals
            try rw [Exit.noGoto_ret]
            go_ret
            exact ⟨by rw [HR.out]; first | rfl | (refine congrArg (fun b => Ending.returned (Value.bool b)) (?_ : _ = _); simp <;> first | assumption | omega), hE4⟩
      | false =>
        have HR : Hid (t.kinds.pred = false) := by show _ = _; rw [HQ.out]; first | (simp [predK, HML.out, hc0, hc1]; done) | (have hla := hc1; simp only [Bool.and_eq_false_iff, decide_eq_false_iff_not] at hla; rcases hla with h | h <;> simp [predK, HML.out, hc0, hc1, h])
        have hD1 := Below.refl W1.heap.size W1
        have hE1 := HB1.out
        obtain ⟨x0, x1, x2, x3, x4⟩ := HBX.out
        dsimp only at x0 x1 x2 x3 x4
        have HC := refcon_text txt W1 hTx
        try dsimp only at HC
        rw [hc0] at HC
        try unfold NC.val at HC
        go_wp2_with fail
        refine HC.mono ?_; rintro e W2 ⟨rfl, hC⟩
        have hD2 := hD1.trans (hC.mono hD1.size)
        have hE2 := HB1.out.trans (hD2.mono (by rw [HS1.out]; omega))
        clear HC hC hD1 hE1 x0 x1 x2 x3 x4
        obtain ⟨x0, x1, x2, x3, x4⟩ := HBX.out.same (hD2.block w.heap.size (by rw [HS1.out]; omega))
        dsimp only at x0 x1 x2 x3 x4
        have HC := plain_any ⟨3, ps, n, txt, kp, kl, kc⟩ W2 1 (by omega) hk6
        try dsimp only at HC
        rw [hc1] at HC
        try unfold NC.val at HC
        go_wp2_with fail
        refine HC.mono ?_; rintro e W3 ⟨rfl, hC⟩
        have hD3 := hD2.trans (hC.mono hD2.size)
        have hE3 := HB1.out.trans (hD3.mono (by rw [HS1.out]; omega))
        clear HC hC hD2 hE2 x0 x1 x2 x3 x4
        obtain ⟨x0, x1, x2, x3, x4⟩ := HBX.out.same (hD3.block w.heap.size (by rw [HS1.out]; omega))
        dsimp only at x0 x1 x2 x3 x4
        go_wp2_with fail
        all_goals
          try rw [Exit.noGoto_ret]
          go_ret
          exact ⟨by rw [HR.out]; first | rfl | (refine congrArg (fun b => Ending.returned (Value.bool b)) (?_ : _ = _); simp <;> first | assumption | omega), hE3⟩
    | false =>
      have HR : Hid (t.kinds.pred = false) := by show _ = _; rw [HQ.out]; first | (simp [predK, HML.out, hc0]; done) | (have hla := hc0; simp only [Bool.and_eq_false_iff, decide_eq_false_iff_not] at hla; rcases hla with h | h <;> simp [predK, HML.out, hc0, h])
      have hD1 := Below.refl W1.heap.size W1
      have hE1 := HB1.out
      obtain ⟨x0, x1, x2, x3, x4⟩ := HBX.out
      dsimp only at x0 x1 x2 x3 x4
      have HC := refcon_text txt W1 hTx
      try dsimp only at HC
      rw [hc0] at HC
      try unfold NC.val at HC
      go_wp2_with fail
      refine HC.mono ?_; rintro e W2 ⟨rfl, hC⟩
      have hD2 := hD1.trans (hC.mono hD1.size)
      have hE2 := HB1.out.trans (hD2.mono (by rw [HS1.out]; omega))
      clear HC hC hD1 hE1 x0 x1 x2 x3 x4
      obtain ⟨x0, x1, x2, x3, x4⟩ := HBX.out.same (hD2.block w.heap.size (by rw [HS1.out]; omega))
      dsimp only at x0 x1 x2 x3 x4
      go_wp2_with fail
      all_goals
        try rw [Exit.noGoto_ret]
        go_ret
        exact ⟨by rw [HR.out]; first | rfl | (refine congrArg (fun b => Ending.returned (Value.bool b)) (?_ : _ = _); simp <;> first | assumption | omega), hE2⟩
  case neg =>
    have HR : Hid (t.kinds.pred = false) := by show _ = _; rw [HQ.out]; simp [predK, HML.out, hk3_0]
    have hD1 := Below.refl W1.heap.size W1
    have hE1 := HB1.out
    obtain ⟨x0, x1, x2, x3, x4⟩ := HBX.out
    dsimp only at x0 x1 x2 x3 x4
    go_wp2_with fail
    all_goals
      try rw [Exit.noGoto_ret]
      go_ret
      exact ⟨by rw [HR.out]; first | rfl | (refine congrArg (fun b => Ending.returned (Value.bool b)) (?_ : _ = _); simp <;> first | assumption | omega), hE1⟩
set_option maxRecDepth 100000 in
set_option maxHeartbeats 4000000 in
theorem rqual_any (t : Nd) (ht : Nd.Fit t) : Is 71 (fun t => t.kinds.qual) t := by
  intro c w h
  obtain ⟨k, ps, n, txt, kp, kl, kc⟩ := c
  obtain ⟨L, hL⟩ : ∃ L, L = t.kids.map Nd.kinds := ⟨_, rfl⟩
  have HQ : Hid (t.kinds.qual = (qualK k n txt L)) := by
    show _ = _
    try rw [hL]
    rw [Nd.kinds_eq, ← h.kind, ← h.num, ← h.text]; rfl
  have hTx : txt.length ≤ maxLen := by have := h.text; dsimp only at this; rw [this]; exact ht.text
  have HLN : Hid (kl = t.kids.length) := h.len
  have HML : Hid (L.length = kl) := by show _ = _; rw [hL, List.length_map, HLN.out]
  have hk6 : kl ≤ 1000000 := by rw [HLN.out]; exact ht.len
  have hkc : kl ≤ kc := h.fits
  have HTL : Hid (t.kids.length ≤ 1000000) := ht.len
  have HK := Lib.hid h.kids
  have HT := Lib.hid h
  have HNUM : Hid (n = t.num) := h.num
  have HTXT : Hid (txt = t.text) := h.text
  have HL := Lib.hid hL
  dsimp only at HK
  clear h hL
  unfold NC.val
  obtain ⟨W1, hW1⟩ : ∃ W1, W1 = w.alloc (.cells #[.int .i64 k, .int .i64 ps, .int .i64 n, .string ⟨txt.toArray⟩, .slice kp kl kc] 24) := ⟨_, rfl⟩
  have HBX : Hid (NBox W1 w.heap.size ⟨k, ps, n, txt, kp, kl, kc⟩) := by rw [hW1]; exact NBox.new w ⟨k, ps, n, txt, kp, kl, kc⟩ 24
  have HB1 : Hid (Below w.heap.size w W1) := by rw [hW1]; exact (Below.refl _ w).alloc (Nat.le_refl _) _
  have hs1 : W1.heap.size = w.heap.size + 1 := by rw [hW1]; simp
  have HS1 := Lib.hid hs1
  have HW1 := Lib.hid hW1
  clear hW1 hs1
  go_enter Try.func71, Try.ntmps71
  go_upto_region 1 with fail
  rw [← HW1.out]
  clear HW1
  by_cases hk4_0 : k = 4
  case pos =>
    subst hk4_0
    by_cases htxt0_0 : txt = []
    case pos =>
      subst htxt0_0
      by_cases hn0_0 : n = 0
      case pos =>
        subst hn0_0
        rcases kl with _ | m
        case zero =>
          have HR : Hid (t.kinds.qual = false) := by show _ = _; rw [HQ.out]; simp [qualK, bareK, HML.out]
          have hD1 := Below.refl W1.heap.size W1
          have hE1 := HB1.out
          obtain ⟨x0, x1, x2, x3, x4⟩ := HBX.out
          dsimp only at x0 x1 x2 x3 x4
          go_wp2_with fail
          all_goals
            try rw [Exit.noGoto_ret]
            go_ret
            exact ⟨by rw [HR.out]; first | rfl | (refine congrArg (fun b => Ending.returned (Value.bool b)) (?_ : _ = _); simp <;> first | assumption | omega), hE1⟩
        case succ =>
          have e1 : (m : Int) + 1 - 1 = (m : Int) := by omega
          have hmk : (m : Int) < (m : Int) + 1 := by omega
          obtain ⟨vs, hvs, -, es, -⟩ := HK.out.slice 0 m (Nat.zero_le _) (by rw [← HLN.out]; omega)
          replace es := es rfl
          rw [List.drop_zero] at hvs
          have HVS := Lib.hid hvs
          clear hvs
          cases hc0 : (L.take m).all (·.pred) with
          | true =>
            cases hc1 : atK L m (·.typ) with
            | true =>
              obtain ⟨kc_p, g_p, o_p, hp_p, hg_p, ht_p, hc_p⟩ := HK.out.at m (by rw [← HLN.out]; omega)
              subst hp_p
              have HG_p := Lib.hid hg_p
              have HT_p := Lib.hid ht_p
              have HC_p := Lib.hid hc_p
              clear hg_p ht_p hc_p
              have HR : Hid (t.kinds.qual = true) := by show _ = _; rw [HQ.out]; simp [qualK, bareK, HML.out, hc0, hc1]
              have hD1 := Below.refl W1.heap.size W1
              have hE1 := HB1.out
              obtain ⟨x0, x1, x2, x3, x4⟩ := HBX.out
              dsimp only at x0 x1 x2 x3 x4
              obtain ⟨p0, p1, p2, p3, p4⟩ := HC_p.out W1 (hE1.block _ HG_p.out)
              have HC := preds_of (HVS.out.later hE1) (by rw [List.length_take]; have := HTL.out; omega) (fun t' h => rpred_any t' (ht.kid (List.mem_of_mem_take h)))
              try dsimp only at HC
              have hcv : _ = _ := ((all_take_map t.kids m (·.pred)).symm.trans (by rw [HL.out]) : ((t.kids.take m).all fun t => t.kinds.pred) = (L.take m).all (·.pred))
              rw [hcv, hc0] at HC
              try unfold NC.val at HC
              go_wp2_with fail
              refine HC.mono ?_; rintro e W2 ⟨rfl, hC⟩
              have hD2 := hD1.trans (hC.mono hD1.size)
              have hE2 := HB1.out.trans (hD2.mono (by rw [HS1.out]; omega))
              clear HC hC hD1 hE1 x0 x1 x2 x3 x4 hcv p0 p1 p2 p3 p4
              obtain ⟨x0, x1, x2, x3, x4⟩ := HBX.out.same (hD2.block w.heap.size (by rw [HS1.out]; omega))
              dsimp only at x0 x1 x2 x3 x4
              obtain ⟨p0, p1, p2, p3, p4⟩ := HC_p.out W2 (hE2.block _ HG_p.out)
              have HC := (ristype_any _ (ht.kid (List.getElem_mem _))) kc_p W2 (HT_p.out.later hE2)
              try dsimp only at HC
              have hcv : _ = _ := ((atK_map t.kids m (·.typ) (by rw [← HLN.out]; omega)).symm.trans (by rw [HL.out]) : (t.kids[m]'(by rw [← HLN.out]; omega)).kinds.typ = atK L m (·.typ))
              rw [hcv, hc1] at HC
              try unfold NC.val at HC
              go_wp2_with fail
              refine HC.mono ?_; rintro e W3 ⟨rfl, hC⟩
              have hD3 := hD2.trans (hC.mono hD2.size)
              have hE3 := HB1.out.trans (hD3.mono (by rw [HS1.out]; omega))
              clear HC hC hD2 hE2 x0 x1 x2 x3 x4 hcv p0 p1 p2 p3 p4
              obtain ⟨x0, x1, x2, x3, x4⟩ := HBX.out.same (hD3.block w.heap.size (by rw [HS1.out]; omega))
              dsimp only at x0 x1 x2 x3 x4
              obtain ⟨p0, p1, p2, p3, p4⟩ := HC_p.out W3 (hE3.block _ HG_p.out)
              go_wp2_with fail
              all_goals
                try rw [Exit.noGoto_ret]
                go_ret
                exact ⟨by rw [HR.out]; first | rfl | (refine congrArg (fun b => Ending.returned (Value.bool b)) (?_ : _ = _); simp <;> first | assumption | omega), hE3⟩
            | false =>
              obtain ⟨kc_p, g_p, o_p, hp_p, hg_p, ht_p, hc_p⟩ := HK.out.at m (by rw [← HLN.out]; omega)
              subst hp_p
              have HG_p := Lib.hid hg_p
              have HT_p := Lib.hid ht_p
              have HC_p := Lib.hid hc_p
              clear hg_p ht_p hc_p
              have HR : Hid (t.kinds.qual = false) := by show _ = _; rw [HQ.out]; first | (simp [qualK, bareK, HML.out, hc0, hc1]; done) | (have hla := hc1; simp only [Bool.and_eq_false_iff, decide_eq_false_iff_not] at hla; rcases hla with h | h <;> simp [qualK, bareK, HML.out, hc0, hc1, h])
              have hD1 := Below.refl W1.heap.size W1
              have hE1 := HB1.out
              obtain ⟨x0, x1, x2, x3, x4⟩ := HBX.out
              dsimp only at x0 x1 x2 x3 x4
              obtain ⟨p0, p1, p2, p3, p4⟩ := HC_p.out W1 (hE1.block _ HG_p.out)
              have HC := preds_of (HVS.out.later hE1) (by rw [List.length_take]; have := HTL.out; omega) (fun t' h => rpred_any t' (ht.kid (List.mem_of_mem_take h)))
              try dsimp only at HC
              have hcv : _ = _ := ((all_take_map t.kids m (·.pred)).symm.trans (by rw [HL.out]) : ((t.kids.take m).all fun t => t.kinds.pred) = (L.take m).all (·.pred))
              rw [hcv, hc0] at HC
              try unfold NC.val at HC
              go_wp2_with fail
              refine HC.mono ?_; rintro e W2 ⟨rfl, hC⟩
              have hD2 := hD1.trans (hC.mono hD1.size)
              have hE2 := HB1.out.trans (hD2.mono (by rw [HS1.out]; omega))
              clear HC hC hD1 hE1 x0 x1 x2 x3 x4 hcv p0 p1 p2 p3 p4
              obtain ⟨x0, x1, x2, x3, x4⟩ := HBX.out.same (hD2.block w.heap.size (by rw [HS1.out]; omega))
              dsimp only at x0 x1 x2 x3 x4
              obtain ⟨p0, p1, p2, p3, p4⟩ := HC_p.out W2 (hE2.block _ HG_p.out)
              have HC := (ristype_any _ (ht.kid (List.getElem_mem _))) kc_p W2 (HT_p.out.later hE2)
              try dsimp only at HC
              have hcv : _ = _ := ((atK_map t.kids m (·.typ) (by rw [← HLN.out]; omega)).symm.trans (by rw [HL.out]) : (t.kids[m]'(by rw [← HLN.out]; omega)).kinds.typ = atK L m (·.typ))
              rw [hcv, hc1] at HC
              try unfold NC.val at HC
              go_wp2_with fail
              refine HC.mono ?_; rintro e W3 ⟨rfl, hC⟩
              have hD3 := hD2.trans (hC.mono hD2.size)
              have hE3 := HB1.out.trans (hD3.mono (by rw [HS1.out]; omega))
              clear HC hC hD2 hE2 x0 x1 x2 x3 x4 hcv p0 p1 p2 p3 p4
              obtain ⟨x0, x1, x2, x3, x4⟩ := HBX.out.same (hD3.block w.heap.size (by rw [HS1.out]; omega))
              dsimp only at x0 x1 x2 x3 x4
              obtain ⟨p0, p1, p2, p3, p4⟩ := HC_p.out W3 (hE3.block _ HG_p.out)
              go_wp2_with fail
              all_goals
                try rw [Exit.noGoto_ret]
                go_ret
                exact ⟨by rw [HR.out]; first | rfl | (refine congrArg (fun b => Ending.returned (Value.bool b)) (?_ : _ = _); simp <;> first | assumption | omega), hE3⟩
          | false =>
            have HR : Hid (t.kinds.qual = false) := by show _ = _; rw [HQ.out]; first | (simp [qualK, bareK, HML.out, hc0]; done) | (have hla := hc0; simp only [Bool.and_eq_false_iff, decide_eq_false_iff_not] at hla; rcases hla with h | h <;> simp [qualK, bareK, HML.out, hc0, h])
            have hD1 := Below.refl W1.heap.size W1
            have hE1 := HB1.out
            obtain ⟨x0, x1, x2, x3, x4⟩ := HBX.out
            dsimp only at x0 x1 x2 x3 x4
            have HC := preds_of (HVS.out.later hE1) (by rw [List.length_take]; have := HTL.out; omega) (fun t' h => rpred_any t' (ht.kid (List.mem_of_mem_take h)))
            try dsimp only at HC
            have hcv : _ = _ := ((all_take_map t.kids m (·.pred)).symm.trans (by rw [HL.out]) : ((t.kids.take m).all fun t => t.kinds.pred) = (L.take m).all (·.pred))
            rw [hcv, hc0] at HC
            try unfold NC.val at HC
            go_wp2_with fail
            refine HC.mono ?_; rintro e W2 ⟨rfl, hC⟩
            have hD2 := hD1.trans (hC.mono hD1.size)
            have hE2 := HB1.out.trans (hD2.mono (by rw [HS1.out]; omega))
            clear HC hC hD1 hE1 x0 x1 x2 x3 x4 hcv
            obtain ⟨x0, x1, x2, x3, x4⟩ := HBX.out.same (hD2.block w.heap.size (by rw [HS1.out]; omega))
            dsimp only at x0 x1 x2 x3 x4
            go_wp2_with fail
            all_goals
              try rw [Exit.noGoto_ret]
              go_ret
              exact ⟨by rw [HR.out]; first | rfl | (refine congrArg (fun b => Ending.returned (Value.bool b)) (?_ : _ = _); simp <;> first | assumption | omega), hE2⟩
      case neg =>
        have HR : Hid (t.kinds.qual = false) := by show _ = _; rw [HQ.out]; simp [qualK, bareK, HML.out, hn0_0]
        have hD1 := Below.refl W1.heap.size W1
        have hE1 := HB1.out
        obtain ⟨x0, x1, x2, x3, x4⟩ := HBX.out
        dsimp only at x0 x1 x2 x3 x4
        go_wp2_with fail
        all_goals
          try rw [Exit.noGoto_ret]
          go_ret
          exact ⟨by rw [HR.out]; first | rfl | (refine congrArg (fun b => Ending.returned (Value.bool b)) (?_ : _ = _); simp <;> first | assumption | omega), hE1⟩
    case neg =>
      have HR : Hid (t.kinds.qual = false) := by show _ = _; rw [HQ.out]; simp [qualK, bareK, HML.out, htxt0_0]
      have hD1 := Below.refl W1.heap.size W1
      have hE1 := HB1.out
      obtain ⟨x0, x1, x2, x3, x4⟩ := HBX.out
      dsimp only at x0 x1 x2 x3 x4
      go_wp2_with fail
      all_goals
        try rw [Exit.noGoto_ret]
        go_ret
        exact ⟨by rw [HR.out]; first | rfl | (refine congrArg (fun b => Ending.returned (Value.bool b)) (?_ : _ = _); simp <;> first | assumption | omega), hE1⟩
  case neg =>
    have HR : Hid (t.kinds.qual = false) := by show _ = _; rw [HQ.out]; simp [qualK, bareK, HML.out, hk4_0]
    have hD1 := Below.refl W1.heap.size W1
    have hE1 := HB1.out
    obtain ⟨x0, x1, x2, x3, x4⟩ := HBX.out
    dsimp only at x0 x1 x2 x3 x4
    go_wp2_with fail
    all_goals
      try rw [Exit.noGoto_ret]
      go_ret
      exact ⟨by rw [HR.out]; first | rfl | (refine congrArg (fun b => Ending.returned (Value.bool b)) (?_ : _ = _); simp <;> first | assumption | omega), hE1⟩
end Go.Proofs.Ytobmpipifdielaa
