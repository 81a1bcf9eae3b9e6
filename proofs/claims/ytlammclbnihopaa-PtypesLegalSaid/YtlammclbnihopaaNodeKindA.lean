/- What kind a tree is: nodes' own functions. -/
import Derived.Test.YtlammclbnihopaaNodeKind
namespace Go.Proofs.Ytlammclbnihopaa.N6
open Go.RowKit

theorem conB_arrow : conB [45, 62] = false := by decide
theorem con_arrow (w : World) : Calls Try.prog 89 #[.string ⟨#[45, 62]⟩] w (SaysIs false w) := con_text [45, 62] w (by unfold maxLen; decide)
theorem box_of (w : World) (c : NC) : ∃ W1, W1 = w.alloc (.cells #[.int .i64 c.kind, .int .i64 c.pos, .int .i64 c.num, .string ⟨c.text.toArray⟩, .slice c.kp c.kl c.kc] 25) ∧ NBox W1 w.heap.size c ∧ Below w.heap.size w W1 ∧ W1.heap.size = w.heap.size + 1 :=
  ⟨_, rfl, NBox.new w c _, (Below.refl _ w).alloc (Nat.le_refl _) _, by simp⟩
set_option maxRecDepth 100000 in
set_option maxHeartbeats 1600000 in
theorem bare_any (c : NC) (w : World) : Calls Try.prog 116 #[c.val] w (SaysIs (bareK c.num c.text) w) := by
  unfold NC.val
  by_cases h1 : c.num = 0 <;> by_cases h2 : c.text = [] <;>
  · have HR : Hid (bareK c.num c.text = decide (c.num = 0 ∧ c.text = [])) := by show _ = _; unfold bareK; simp [h1, h2]
    go_enter Try.func116, Try.ntmps116
    go_wp2_with fail
    go_ret
    exact ⟨by rw [HR.out]; simp [h1, h2], (Below.refl _ w).alloc (Nat.le_refl _) _⟩
set_option maxRecDepth 100000 in
set_option maxHeartbeats 1600000 in
theorem isvar_any (c : NC) (w : World) (j : Nat) (hj : j ≤ 1000) (hTx : c.text.length ≤ maxLen) (hk6 : c.kl ≤ 1000000) : Calls Try.prog 88 #[c.val, .int .i64 (j : Int)] w (SaysIs (decide (c.num = 0) && (decide (c.kl = j) && varB c.text)) w) := by
  obtain ⟨W1, hW1, hb, hB, hs⟩ := box_of w c
  have HW1 := Lib.hid hW1
  have HB := Lib.hid hB
  obtain ⟨x0, x1, x2, x3, x4⟩ := hb
  have HC := var_text c.text W1 hTx
  clear hB hW1
  unfold NC.val
  go_enter Try.func88, Try.ntmps88
  go_upto_region 1 with fail
  rw [← HW1.out]
  by_cases h1 : c.num = 0
  · by_cases h2 : c.kl = j
    · have h2' : (c.kl : Int) = (j : Int) := by omega
      have HR : Hid ((decide (c.num = 0) && (decide (c.kl = j) && varB c.text)) = varB c.text) := by show _ = _; simp [h1, h2]
      clear h2
      go_wp2_with fail
      refine HC.mono ?_; rintro e w2 ⟨rfl, hB3⟩
      go_wp2_with fail
      go_ret
      exact ⟨by rw [HR.out]; rfl, HB.out.trans (hB3.mono HB.out.size)⟩
    · have h2' : ¬ (c.kl : Int) = (j : Int) := by omega
      have HR : Hid ((decide (c.num = 0) && (decide (c.kl = j) && varB c.text)) = false) := by show _ = _; simp [h2]
      clear h2
      go_wp2_with fail
      go_ret
      exact ⟨by rw [HR.out]; rfl, HB.out⟩
  · have HR : Hid ((decide (c.num = 0) && (decide (c.kl = j) && varB c.text)) = false) := by show _ = _; simp [h1]
    go_wp2_with fail
    go_ret
    exact ⟨by rw [HR.out]; rfl, HB.out⟩
set_option maxRecDepth 100000 in
set_option maxHeartbeats 4000000 in
theorem istype_step (t : Nd) (ht : Nd.Fit t) (ih : ∀ t' ∈ t.kids, Is 58 (fun t => t.kinds.typ) t') : Is 58 (fun t => t.kinds.typ) t := by
  intro c w h
  obtain ⟨k, ps, n, txt, kp, kl, kc⟩ := c
  obtain ⟨L, hL⟩ : ∃ L, L = t.kids.map Nd.kinds := ⟨_, rfl⟩
  have HQ : Hid (t.kinds.typ = (typK k n txt L)) := by
    show _ = _
    try rw [hL]
    rw [Nd.kinds_eq, ← h.kind, ← h.num, ← h.text]; rfl
  have hTx : txt.length ≤ maxLen := by have := h.text; dsimp only at this; rw [this]; exact ht.text
  have HLN : Hid (kl = t.kids.length) := h.len
  have HML : Hid (L.length = kl) := by show _ = _; rw [hL, List.length_map, HLN.out]
  have hk6 : kl ≤ 1000000 := by rw [HLN.out]; exact ht.len
  have hkc : kl ≤ kc := h.fits
  have HTL : Hid (t.kids.length ≤ 1000000) := ht.len
  have HK := Lib.hid h.kids
  have HT := Lib.hid h
  have HNUM : Hid (n = t.num) := h.num
  have HTXT : Hid (txt = t.text) := h.text
  have HL := Lib.hid hL
  dsimp only at HK
  clear h hL
  unfold NC.val
  obtain ⟨W1, hW1⟩ : ∃ W1, W1 = w.alloc (.cells #[.int .i64 k, .int .i64 ps, .int .i64 n, .string ⟨txt.toArray⟩, .slice kp kl kc] 25) := ⟨_, rfl⟩
  have HBX : Hid (NBox W1 w.heap.size ⟨k, ps, n, txt, kp, kl, kc⟩) := by rw [hW1]; exact NBox.new w ⟨k, ps, n, txt, kp, kl, kc⟩ 25
  have HB1 : Hid (Below w.heap.size w W1) := by rw [hW1]; exact (Below.refl _ w).alloc (Nat.le_refl _) _
  have hs1 : W1.heap.size = w.heap.size + 1 := by rw [hW1]; simp
  have HS1 := Lib.hid hs1
  have HW1 := Lib.hid hW1
  clear hW1 hs1
  go_enter Try.func58, Try.ntmps58
  go_upto_region 1 with fail
  rw [← HW1.out]
  clear HW1
  by_cases hk1_0 : k = 1
  case pos =>
    subst hk1_0
    cases hc0 : decide (n = 0) && (decide (kl = 0) && varB txt) with
    | true =>
      have HR : Hid (t.kinds.typ = true) := by show _ = _; rw [HQ.out]; simp [typK, varK, arrowL, conB_arrow, HML.out, hc0]
      obtain ⟨x0, x1, x2, x3, x4⟩ := HBX.out
      dsimp only at x0 x1 x2 x3 x4
      have hD1 := Below.refl W1.heap.size W1
      have hE1 := HB1.out
      have HC := isvar_any ⟨1, ps, n, txt, kp, kl, kc⟩ W1 0 (by omega) hTx hk6
      try dsimp only at HC
      rw [hc0] at HC
      try unfold NC.val at HC
      go_wp2_with fail
      refine HC.mono ?_; rintro e W2 ⟨rfl, hC⟩
      have hD2 := hD1.trans (hC.mono hD1.size)
      have hE2 := HB1.out.trans (hD2.mono (by rw [HS1.out]; omega))
      clear HC hC hD1 hE1 x0 x1 x2 x3 x4
      obtain ⟨x0, x1, x2, x3, x4⟩ := HBX.out.same (hD2.block w.heap.size (by rw [HS1.out]; omega))
      dsimp only at x0 x1 x2 x3 x4
      go_wp2_with fail
      all_goals
        try rw [Exit.noGoto_ret]
        go_ret
        exact ⟨by rw [HR.out]; first | rfl | (refine congrArg (fun b => Ending.returned (Value.bool b)) (?_ : _ = _); simp <;> first | assumption | omega), hE2⟩
    | false =>
      have HR : Hid (t.kinds.typ = false) := by show _ = _; rw [HQ.out]; simp [typK, varK, arrowL, conB_arrow, HML.out, hc0]
      obtain ⟨x0, x1, x2, x3, x4⟩ := HBX.out
      dsimp only at x0 x1 x2 x3 x4
      have hD1 := Below.refl W1.heap.size W1
      have hE1 := HB1.out
      have HC := isvar_any ⟨1, ps, n, txt, kp, kl, kc⟩ W1 0 (by omega) hTx hk6
      try dsimp only at HC
      rw [hc0] at HC
      try unfold NC.val at HC
      go_wp2_with fail
      refine HC.mono ?_; rintro e W2 ⟨rfl, hC⟩
      have hD2 := hD1.trans (hC.mono hD1.size)
      have hE2 := HB1.out.trans (hD2.mono (by rw [HS1.out]; omega))
      clear HC hC hD1 hE1 x0 x1 x2 x3 x4
      obtain ⟨x0, x1, x2, x3, x4⟩ := HBX.out.same (hD2.block w.heap.size (by rw [HS1.out]; omega))
      dsimp only at x0 x1 x2 x3 x4
      go_wp2_with fail
      all_goals
        try rw [Exit.noGoto_ret]
        go_ret
        exact ⟨by rw [HR.out]; first | rfl | (refine congrArg (fun b => Ending.returned (Value.bool b)) (?_ : _ = _); simp <;> first | assumption | omega), hE2⟩
  case neg =>
    by_cases hk2_1 : k = 2
    case pos =>
      subst hk2_1
      by_cases hn0_1 : n = 0
      case pos =>
        subst hn0_1
        by_cases harrow_1 : txt = [45, 62]
        case pos =>
          subst harrow_1
          by_cases hlen2_1 : kl = 2
          case pos =>
            subst hlen2_1
            cases hc1 : L.all (·.typ) with
            | true =>
              have HR : Hid (t.kinds.typ = true) := by show _ = _; rw [HQ.out]; simp [typK, varK, arrowL, conB_arrow, HML.out, hk1_0, hc1]
              obtain ⟨x0, x1, x2, x3, x4⟩ := HBX.out
              dsimp only at x0 x1 x2 x3 x4
              have hD1 := Below.refl W1.heap.size W1
              have hE1 := HB1.out
              have HC := every_any (f := 58) (p := fun t => t.kinds.typ) (enters_of Try.func58 (by kernel_rfl) rfl) (HK.out.later hE1) HTL.out ih
              try dsimp only at HC
              have hcv : _ = _ := ((all_map t.kids (·.typ)).symm.trans (by rw [HL.out]) : (t.kids.all fun t => t.kinds.typ) = L.all (·.typ))
              rw [hcv, hc1] at HC
              try unfold NC.val at HC
              go_wp2_with fail
              refine HC.mono ?_; rintro e W2 ⟨rfl, hC⟩
              have hD2 := hD1.trans (hC.mono hD1.size)
              have hE2 := HB1.out.trans (hD2.mono (by rw [HS1.out]; omega))
              clear HC hC hD1 hE1 x0 x1 x2 x3 x4 hcv
              obtain ⟨x0, x1, x2, x3, x4⟩ := HBX.out.same (hD2.block w.heap.size (by rw [HS1.out]; omega))
              dsimp only at x0 x1 x2 x3 x4
              go_wp2_with fail
              all_goals
                try rw [Exit.noGoto_ret]
                go_ret
                exact ⟨by rw [HR.out]; first | rfl | (refine congrArg (fun b => Ending.returned (Value.bool b)) (?_ : _ = _); simp <;> first | assumption | omega), hE2⟩
            | false =>
              have HR : Hid (t.kinds.typ = false) := by show _ = _; rw [HQ.out]; simp [typK, varK, arrowL, conB_arrow, HML.out, hk1_0, hc1]
              obtain ⟨x0, x1, x2, x3, x4⟩ := HBX.out
              dsimp only at x0 x1 x2 x3 x4
              have hD1 := Below.refl W1.heap.size W1
              have hE1 := HB1.out
              have HC := every_any (f := 58) (p := fun t => t.kinds.typ) (enters_of Try.func58 (by kernel_rfl) rfl) (HK.out.later hE1) HTL.out ih
              try dsimp only at HC
              have hcv : _ = _ := ((all_map t.kids (·.typ)).symm.trans (by rw [HL.out]) : (t.kids.all fun t => t.kinds.typ) = L.all (·.typ))
              rw [hcv, hc1] at HC
              try unfold NC.val at HC
              go_wp2_with fail
              refine HC.mono ?_; rintro e W2 ⟨rfl, hC⟩
              have hD2 := hD1.trans (hC.mono hD1.size)
              have hE2 := HB1.out.trans (hD2.mono (by rw [HS1.out]; omega))
              clear HC hC hD1 hE1 x0 x1 x2 x3 x4 hcv
              obtain ⟨x0, x1, x2, x3, x4⟩ := HBX.out.same (hD2.block w.heap.size (by rw [HS1.out]; omega))
              dsimp only at x0 x1 x2 x3 x4
              go_wp2_with fail
              all_goals
                try rw [Exit.noGoto_ret]
                go_ret
                exact ⟨by rw [HR.out]; first | rfl | (refine congrArg (fun b => Ending.returned (Value.bool b)) (?_ : _ = _); simp <;> first | assumption | omega), hE2⟩
          case neg =>
            have hlen2_1' : ¬ (kl : Int) = 2 := by omega
            have HR : Hid (t.kinds.typ = false) := by show _ = _; rw [HQ.out]; simp [typK, varK, arrowL, conB_arrow, HML.out, hk1_0, hlen2_1]
            obtain ⟨x0, x1, x2, x3, x4⟩ := HBX.out
            dsimp only at x0 x1 x2 x3 x4
            have hD1 := Below.refl W1.heap.size W1
            have hE1 := HB1.out
            have HC := con_arrow W1
            try dsimp only at HC
            try unfold NC.val at HC
            go_wp2_with fail
            refine HC.mono ?_; rintro e W2 ⟨rfl, hC⟩
            have hD2 := hD1.trans (hC.mono hD1.size)
            have hE2 := HB1.out.trans (hD2.mono (by rw [HS1.out]; omega))
            clear HC hC hD1 hE1 x0 x1 x2 x3 x4
            obtain ⟨x0, x1, x2, x3, x4⟩ := HBX.out.same (hD2.block w.heap.size (by rw [HS1.out]; omega))
            dsimp only at x0 x1 x2 x3 x4
            go_wp2_with fail
            all_goals
              try rw [Exit.noGoto_ret]
              go_ret
              exact ⟨by rw [HR.out]; first | rfl | (refine congrArg (fun b => Ending.returned (Value.bool b)) (?_ : _ = _); simp <;> first | assumption | omega), hE2⟩
        case neg =>
          cases hc2 : conB txt with
          | true =>
            cases hc3 : L.all (·.typ) with
            | true =>
              have HR : Hid (t.kinds.typ = true) := by show _ = _; rw [HQ.out]; simp [typK, varK, arrowL, conB_arrow, HML.out, hk1_0, harrow_1, hc2, hc3]
              obtain ⟨x0, x1, x2, x3, x4⟩ := HBX.out
              dsimp only at x0 x1 x2 x3 x4
              have hD1 := Below.refl W1.heap.size W1
              have hE1 := HB1.out
              have HC := con_text txt W1 hTx
              try dsimp only at HC
              rw [hc2] at HC
              try unfold NC.val at HC
              go_wp2_with fail
              refine HC.mono ?_; rintro e W2 ⟨rfl, hC⟩
              have hD2 := hD1.trans (hC.mono hD1.size)
              have hE2 := HB1.out.trans (hD2.mono (by rw [HS1.out]; omega))
              clear HC hC hD1 hE1 x0 x1 x2 x3 x4
              obtain ⟨x0, x1, x2, x3, x4⟩ := HBX.out.same (hD2.block w.heap.size (by rw [HS1.out]; omega))
              dsimp only at x0 x1 x2 x3 x4
              have HC := every_any (f := 58) (p := fun t => t.kinds.typ) (enters_of Try.func58 (by kernel_rfl) rfl) (HK.out.later hE2) HTL.out ih
              try dsimp only at HC
              have hcv : _ = _ := ((all_map t.kids (·.typ)).symm.trans (by rw [HL.out]) : (t.kids.all fun t => t.kinds.typ) = L.all (·.typ))
              rw [hcv, hc3] at HC
              try unfold NC.val at HC
              go_wp2_with fail
              refine HC.mono ?_; rintro e W3 ⟨rfl, hC⟩
              have hD3 := hD2.trans (hC.mono hD2.size)
              have hE3 := HB1.out.trans (hD3.mono (by rw [HS1.out]; omega))
              clear HC hC hD2 hE2 x0 x1 x2 x3 x4 hcv
              obtain ⟨x0, x1, x2, x3, x4⟩ := HBX.out.same (hD3.block w.heap.size (by rw [HS1.out]; omega))
              dsimp only at x0 x1 x2 x3 x4
              go_wp2_with fail
              all_goals
                try rw [Exit.noGoto_ret]
                go_ret
                exact ⟨by rw [HR.out]; first | rfl | (refine congrArg (fun b => Ending.returned (Value.bool b)) (?_ : _ = _); simp <;> first | assumption | omega), hE3⟩
            | false =>
              have HR : Hid (t.kinds.typ = false) := by show _ = _; rw [HQ.out]; simp [typK, varK, arrowL, conB_arrow, HML.out, hk1_0, harrow_1, hc2, hc3]
              obtain ⟨x0, x1, x2, x3, x4⟩ := HBX.out
              dsimp only at x0 x1 x2 x3 x4
              have hD1 := Below.refl W1.heap.size W1
              have hE1 := HB1.out
              have HC := con_text txt W1 hTx
              try dsimp only at HC
              rw [hc2] at HC
              try unfold NC.val at HC
              go_wp2_with fail
              refine HC.mono ?_; rintro e W2 ⟨rfl, hC⟩
              have hD2 := hD1.trans (hC.mono hD1.size)
              have hE2 := HB1.out.trans (hD2.mono (by rw [HS1.out]; omega))
              clear HC hC hD1 hE1 x0 x1 x2 x3 x4
              obtain ⟨x0, x1, x2, x3, x4⟩ := HBX.out.same (hD2.block w.heap.size (by rw [HS1.out]; omega))
              dsimp only at x0 x1 x2 x3 x4
              have HC := every_any (f := 58) (p := fun t => t.kinds.typ) (enters_of Try.func58 (by kernel_rfl) rfl) (HK.out.later hE2) HTL.out ih
              try dsimp only at HC
              have hcv : _ = _ := ((all_map t.kids (·.typ)).symm.trans (by rw [HL.out]) : (t.kids.all fun t => t.kinds.typ) = L.all (·.typ))
              rw [hcv, hc3] at HC
              try unfold NC.val at HC
              go_wp2_with fail
              refine HC.mono ?_; rintro e W3 ⟨rfl, hC⟩
              have hD3 := hD2.trans (hC.mono hD2.size)
              have hE3 := HB1.out.trans (hD3.mono (by rw [HS1.out]; omega))
              clear HC hC hD2 hE2 x0 x1 x2 x3 x4 hcv
              obtain ⟨x0, x1, x2, x3, x4⟩ := HBX.out.same (hD3.block w.heap.size (by rw [HS1.out]; omega))
              dsimp only at x0 x1 x2 x3 x4
              go_wp2_with fail
              all_goals
                try rw [Exit.noGoto_ret]
                go_ret
                exact ⟨by rw [HR.out]; first | rfl | (refine congrArg (fun b => Ending.returned (Value.bool b)) (?_ : _ = _); simp <;> first | assumption | omega), hE3⟩
          | false =>
            have HR : Hid (t.kinds.typ = false) := by show _ = _; rw [HQ.out]; simp [typK, varK, arrowL, conB_arrow, HML.out, hk1_0, harrow_1, hc2]
            obtain ⟨x0, x1, x2, x3, x4⟩ := HBX.out
            dsimp only at x0 x1 x2 x3 x4
            have hD1 := Below.refl W1.heap.size W1
            have hE1 := HB1.out
            have HC := con_text txt W1 hTx
            try dsimp only at HC
            rw [hc2] at HC
            try unfold NC.val at HC
            go_wp2_with fail
            refine HC.mono ?_; rintro e W2 ⟨rfl, hC⟩
            have hD2 := hD1.trans (hC.mono hD1.size)
            have hE2 := HB1.out.trans (hD2.mono (by rw [HS1.out]; omega))
            clear HC hC hD1 hE1 x0 x1 x2 x3 x4
            obtain ⟨x0, x1, x2, x3, x4⟩ := HBX.out.same (hD2.block w.heap.size (by rw [HS1.out]; omega))
            dsimp only at x0 x1 x2 x3 x4
            go_wp2_with fail
            all_goals
              try rw [Exit.noGoto_ret]
              go_ret
              exact ⟨by rw [HR.out]; first | rfl | (refine congrArg (fun b => Ending.returned (Value.bool b)) (?_ : _ = _); simp <;> first | assumption | omega), hE2⟩
      case neg =>
        have HR : Hid (t.kinds.typ = false) := by show _ = _; rw [HQ.out]; simp [typK, varK, arrowL, conB_arrow, HML.out, hk1_0, hn0_1]
        obtain ⟨x0, x1, x2, x3, x4⟩ := HBX.out
        dsimp only at x0 x1 x2 x3 x4
        have hD1 := Below.refl W1.heap.size W1
        have hE1 := HB1.out
        go_wp2_with fail
        all_goals
          try rw [Exit.noGoto_ret]
          go_ret
          exact ⟨by rw [HR.out]; first | rfl | (refine congrArg (fun b => Ending.returned (Value.bool b)) (?_ : _ = _); simp <;> first | assumption | omega), hE1⟩
    case neg =>
      have HR : Hid (t.kinds.typ = false) := by show _ = _; rw [HQ.out]; simp [typK, varK, arrowL, conB_arrow, HML.out, hk1_0, hk2_1]
      obtain ⟨x0, x1, x2, x3, x4⟩ := HBX.out
      dsimp only at x0 x1 x2 x3 x4
      have hD1 := Below.refl W1.heap.size W1
      have hE1 := HB1.out
      go_wp2_with fail
      all_goals
        try rw [Exit.noGoto_ret]
        go_ret
        exact ⟨by rw [HR.out]; first | rfl | (refine congrArg (fun b => Ending.returned (Value.bool b)) (?_ : _ = _); simp <;> first | assumption | omega), hE1⟩
theorem istype_any (t : Nd) : Nd.Fit t → Is 58 (fun t => t.kinds.typ) t := by
  induction t using Nd.by_size with
  | h t ih => exact fun ht => istype_step t ht fun t' h => ih t' (Nd.kid_lt h) (ht.kid h)
set_option maxRecDepth 100000 in
set_option maxHeartbeats 4000000 in
theorem istvar_any (t : Nd) (ht : Nd.Fit t) : Is 83 (fun t => t.kinds.tvar) t := by
  intro c w h
  obtain ⟨k, ps, n, txt, kp, kl, kc⟩ := c
  obtain ⟨L, hL⟩ : ∃ L, L = t.kids.map Nd.kinds := ⟨_, rfl⟩
  have HQ : Hid (t.kinds.tvar = (decide (k = 1) && t.kinds.typ)) := by
    show _ = _
    try rw [hL]
    rw [Nd.kinds_eq, ← h.kind, ← h.num, ← h.text]; rfl
  have hTx : txt.length ≤ maxLen := by have := h.text; dsimp only at this; rw [this]; exact ht.text
  have HLN : Hid (kl = t.kids.length) := h.len
  have HML : Hid (L.length = kl) := by show _ = _; rw [hL, List.length_map, HLN.out]
  have hk6 : kl ≤ 1000000 := by rw [HLN.out]; exact ht.len
  have hkc : kl ≤ kc := h.fits
  have HTL : Hid (t.kids.length ≤ 1000000) := ht.len
  have HK := Lib.hid h.kids
  have HT := Lib.hid h
  have HNUM : Hid (n = t.num) := h.num
  have HTXT : Hid (txt = t.text) := h.text
  have HL := Lib.hid hL
  dsimp only at HK
  clear h hL
  unfold NC.val
  obtain ⟨W1, hW1⟩ : ∃ W1, W1 = w.alloc (.cells #[.int .i64 k, .int .i64 ps, .int .i64 n, .string ⟨txt.toArray⟩, .slice kp kl kc] 25) := ⟨_, rfl⟩
  have HBX : Hid (NBox W1 w.heap.size ⟨k, ps, n, txt, kp, kl, kc⟩) := by rw [hW1]; exact NBox.new w ⟨k, ps, n, txt, kp, kl, kc⟩ 25
  have HB1 : Hid (Below w.heap.size w W1) := by rw [hW1]; exact (Below.refl _ w).alloc (Nat.le_refl _) _
  have hs1 : W1.heap.size = w.heap.size + 1 := by rw [hW1]; simp
  have HS1 := Lib.hid hs1
  have HW1 := Lib.hid hW1
  clear hW1 hs1
  go_enter Try.func83, Try.ntmps83
  go_upto_region 1 with fail
  rw [← HW1.out]
  clear HW1
  by_cases hk1_0 : k = 1
  case pos =>
    subst hk1_0
    cases hc0 : t.kinds.typ with
    | true =>
      have HR : Hid (t.kinds.tvar = true) := by show _ = _; rw [HQ.out]; simp [HML.out, hc0]
      obtain ⟨x0, x1, x2, x3, x4⟩ := HBX.out
      dsimp only at x0 x1 x2 x3 x4
      have hD1 := Below.refl W1.heap.size W1
      have hE1 := HB1.out
      have HC := istype_any t ht ⟨1, ps, n, txt, kp, kl, kc⟩ W1 (HT.out.later hE1)
      try dsimp only at HC
      rw [hc0] at HC
      try unfold NC.val at HC
      go_wp2_with fail
      refine HC.mono ?_; rintro e W2 ⟨rfl, hC⟩
      have hD2 := hD1.trans (hC.mono hD1.size)
      have hE2 := HB1.out.trans (hD2.mono (by rw [HS1.out]; omega))
      clear HC hC hD1 hE1 x0 x1 x2 x3 x4
      obtain ⟨x0, x1, x2, x3, x4⟩ := HBX.out.same (hD2.block w.heap.size (by rw [HS1.out]; omega))
      dsimp only at x0 x1 x2 x3 x4
      go_wp2_with fail
      all_goals
        try rw [Exit.noGoto_ret]
        go_ret
        exact ⟨by rw [HR.out]; first | rfl | (refine congrArg (fun b => Ending.returned (Value.bool b)) (?_ : _ = _); simp <;> first | assumption | omega), hE2⟩
    | false =>
      have HR : Hid (t.kinds.tvar = false) := by show _ = _; rw [HQ.out]; simp [HML.out, hc0]
      obtain ⟨x0, x1, x2, x3, x4⟩ := HBX.out
      dsimp only at x0 x1 x2 x3 x4
      have hD1 := Below.refl W1.heap.size W1
      have hE1 := HB1.out
      have HC := istype_any t ht ⟨1, ps, n, txt, kp, kl, kc⟩ W1 (HT.out.later hE1)
      try dsimp only at HC
      rw [hc0] at HC
      try unfold NC.val at HC
      go_wp2_with fail
      refine HC.mono ?_; rintro e W2 ⟨rfl, hC⟩
      have hD2 := hD1.trans (hC.mono hD1.size)
      have hE2 := HB1.out.trans (hD2.mono (by rw [HS1.out]; omega))
      clear HC hC hD1 hE1 x0 x1 x2 x3 x4
      obtain ⟨x0, x1, x2, x3, x4⟩ := HBX.out.same (hD2.block w.heap.size (by rw [HS1.out]; omega))
      dsimp only at x0 x1 x2 x3 x4
      go_wp2_with fail
      all_goals
        try rw [Exit.noGoto_ret]
        go_ret
        exact ⟨by rw [HR.out]; first | rfl | (refine congrArg (fun b => Ending.returned (Value.bool b)) (?_ : _ = _); simp <;> first | assumption | omega), hE2⟩
  case neg =>
    have HR : Hid (t.kinds.tvar = false) := by show _ = _; rw [HQ.out]; simp [HML.out, hk1_0]
    obtain ⟨x0, x1, x2, x3, x4⟩ := HBX.out
    dsimp only at x0 x1 x2 x3 x4
    have hD1 := Below.refl W1.heap.size W1
    have hE1 := HB1.out
    go_wp2_with fail
    all_goals
      try rw [Exit.noGoto_ret]
      go_ret
      exact ⟨by rw [HR.out]; first | rfl | (refine congrArg (fun b => Ending.returned (Value.bool b)) (?_ : _ = _); simp <;> first | assumption | omega), hE1⟩
set_option maxRecDepth 100000 in
set_option maxHeartbeats 4000000 in
theorem ispred_any (t : Nd) (ht : Nd.Fit t) : Is 85 (fun t => t.kinds.pred) t := by
  intro c w h
  obtain ⟨k, ps, n, txt, kp, kl, kc⟩ := c
  obtain ⟨L, hL⟩ : ∃ L, L = t.kids.map Nd.kinds := ⟨_, rfl⟩
  have HQ : Hid (t.kinds.pred = (predK k n txt L)) := by
    show _ = _
    try rw [hL]
    rw [Nd.kinds_eq, ← h.kind, ← h.num, ← h.text]; rfl
  have hTx : txt.length ≤ maxLen := by have := h.text; dsimp only at this; rw [this]; exact ht.text
  have HLN : Hid (kl = t.kids.length) := h.len
  have HML : Hid (L.length = kl) := by show _ = _; rw [hL, List.length_map, HLN.out]
  have hk6 : kl ≤ 1000000 := by rw [HLN.out]; exact ht.len
  have hkc : kl ≤ kc := h.fits
  have HTL : Hid (t.kids.length ≤ 1000000) := ht.len
  have HK := Lib.hid h.kids
  have HT := Lib.hid h
  have HNUM : Hid (n = t.num) := h.num
  have HTXT : Hid (txt = t.text) := h.text
  have HL := Lib.hid hL
  dsimp only at HK
  clear h hL
  unfold NC.val
  obtain ⟨W1, hW1⟩ : ∃ W1, W1 = w.alloc (.cells #[.int .i64 k, .int .i64 ps, .int .i64 n, .string ⟨txt.toArray⟩, .slice kp kl kc] 25) := ⟨_, rfl⟩
  have HBX : Hid (NBox W1 w.heap.size ⟨k, ps, n, txt, kp, kl, kc⟩) := by rw [hW1]; exact NBox.new w ⟨k, ps, n, txt, kp, kl, kc⟩ 25
  have HB1 : Hid (Below w.heap.size w W1) := by rw [hW1]; exact (Below.refl _ w).alloc (Nat.le_refl _) _
  have hs1 : W1.heap.size = w.heap.size + 1 := by rw [hW1]; simp
  have HS1 := Lib.hid hs1
  have HW1 := Lib.hid hW1
  clear hW1 hs1
  go_enter Try.func85, Try.ntmps85
  go_upto_region 1 with fail
  rw [← HW1.out]
  clear HW1
  by_cases hk3_0 : k = 3
  case pos =>
    subst hk3_0
    by_cases hn0_0 : n = 0
    case pos =>
      subst hn0_0
      cases hc0 : conB txt with
      | true =>
        by_cases hlen1_1 : kl = 1
        case pos =>
          subst hlen1_1
          cases hc1 : atK L 0 (·.typ) with
          | true =>
            obtain ⟨kc_p, g_p, o_p, hp_p, hg_p, ht_p, hc_p⟩ := HK.out.at 0 (by rw [← HLN.out]; omega)
            subst hp_p
            have HG_p := Lib.hid hg_p
            have HT_p := Lib.hid ht_p
            have HC_p := Lib.hid hc_p
            clear hg_p ht_p hc_p
            have HR : Hid (t.kinds.pred = true) := by show _ = _; rw [HQ.out]; simp [predK, HML.out, hc0, hc1]
            obtain ⟨x0, x1, x2, x3, x4⟩ := HBX.out
            dsimp only at x0 x1 x2 x3 x4
            have hD1 := Below.refl W1.heap.size W1
            have hE1 := HB1.out
            obtain ⟨p0, p1, p2, p3, p4⟩ := HC_p.out W1 (HB1.out.block _ HG_p.out)
            simp only [Nat.zero_mul, Nat.add_zero] at p0 p1 p2 p3 p4
            have HC := con_text txt W1 hTx
            try dsimp only at HC
            rw [hc0] at HC
            try unfold NC.val at HC
            go_wp2_with fail
            refine HC.mono ?_; rintro e W2 ⟨rfl, hC⟩
            have hD2 := hD1.trans (hC.mono hD1.size)
            have hE2 := HB1.out.trans (hD2.mono (by rw [HS1.out]; omega))
            clear HC hC hD1 hE1 x0 x1 x2 x3 x4 p0 p1 p2 p3 p4
            obtain ⟨x0, x1, x2, x3, x4⟩ := HBX.out.same (hD2.block w.heap.size (by rw [HS1.out]; omega))
            dsimp only at x0 x1 x2 x3 x4
            obtain ⟨p0, p1, p2, p3, p4⟩ := HC_p.out W2 (hE2.block _ HG_p.out)
            simp only [Nat.zero_mul, Nat.add_zero] at p0 p1 p2 p3 p4
            have HC := (istype_any _ (ht.kid (List.getElem_mem _))) kc_p W2 (HT_p.out.later hE2)
            try dsimp only at HC
            have hcv : _ = _ := ((atK_map t.kids 0 (·.typ) (by rw [← HLN.out]; omega)).symm.trans (by rw [HL.out]) : (t.kids[0]'(by rw [← HLN.out]; omega)).kinds.typ = atK L 0 (·.typ))
            rw [hcv, hc1] at HC
            try unfold NC.val at HC
            go_wp2_with fail
            refine HC.mono ?_; rintro e W3 ⟨rfl, hC⟩
            have hD3 := hD2.trans (hC.mono hD2.size)
            have hE3 := HB1.out.trans (hD3.mono (by rw [HS1.out]; omega))
            clear HC hC hD2 hE2 x0 x1 x2 x3 x4 hcv p0 p1 p2 p3 p4
            obtain ⟨x0, x1, x2, x3, x4⟩ := HBX.out.same (hD3.block w.heap.size (by rw [HS1.out]; omega))
            dsimp only at x0 x1 x2 x3 x4
            obtain ⟨p0, p1, p2, p3, p4⟩ := HC_p.out W3 (hE3.block _ HG_p.out)
            simp only [Nat.zero_mul, Nat.add_zero] at p0 p1 p2 p3 p4
            go_wp2_with fail
            all_goals
              try rw [Exit.noGoto_ret]
              go_ret
              exact ⟨by rw [HR.out]; first | rfl | (refine congrArg (fun b => Ending.returned (Value.bool b)) (?_ : _ = _); simp <;> first | assumption | omega), hE3⟩
          | false =>
            obtain ⟨kc_p, g_p, o_p, hp_p, hg_p, ht_p, hc_p⟩ := HK.out.at 0 (by rw [← HLN.out]; omega)
            subst hp_p
            have HG_p := Lib.hid hg_p
            have HT_p := Lib.hid ht_p
            have HC_p := Lib.hid hc_p
            clear hg_p ht_p hc_p
            have HR : Hid (t.kinds.pred = false) := by show _ = _; rw [HQ.out]; simp [predK, HML.out, hc0, hc1]
            obtain ⟨x0, x1, x2, x3, x4⟩ := HBX.out
            dsimp only at x0 x1 x2 x3 x4
            have hD1 := Below.refl W1.heap.size W1
            have hE1 := HB1.out
            obtain ⟨p0, p1, p2, p3, p4⟩ := HC_p.out W1 (HB1.out.block _ HG_p.out)
            simp only [Nat.zero_mul, Nat.add_zero] at p0 p1 p2 p3 p4
            have HC := con_text txt W1 hTx
            try dsimp only at HC
            rw [hc0] at HC
            try unfold NC.val at HC
            go_wp2_with fail
            refine HC.mono ?_; rintro e W2 ⟨rfl, hC⟩
            have hD2 := hD1.trans (hC.mono hD1.size)
            have hE2 := HB1.out.trans (hD2.mono (by rw [HS1.out]; omega))
            clear HC hC hD1 hE1 x0 x1 x2 x3 x4 p0 p1 p2 p3 p4
            obtain ⟨x0, x1, x2, x3, x4⟩ := HBX.out.same (hD2.block w.heap.size (by rw [HS1.out]; omega))
            dsimp only at x0 x1 x2 x3 x4
            obtain ⟨p0, p1, p2, p3, p4⟩ := HC_p.out W2 (hE2.block _ HG_p.out)
            simp only [Nat.zero_mul, Nat.add_zero] at p0 p1 p2 p3 p4
            have HC := (istype_any _ (ht.kid (List.getElem_mem _))) kc_p W2 (HT_p.out.later hE2)
            try dsimp only at HC
            have hcv : _ = _ := ((atK_map t.kids 0 (·.typ) (by rw [← HLN.out]; omega)).symm.trans (by rw [HL.out]) : (t.kids[0]'(by rw [← HLN.out]; omega)).kinds.typ = atK L 0 (·.typ))
            rw [hcv, hc1] at HC
            try unfold NC.val at HC
            go_wp2_with fail
            refine HC.mono ?_; rintro e W3 ⟨rfl, hC⟩
            have hD3 := hD2.trans (hC.mono hD2.size)
            have hE3 := HB1.out.trans (hD3.mono (by rw [HS1.out]; omega))
            clear HC hC hD2 hE2 x0 x1 x2 x3 x4 hcv p0 p1 p2 p3 p4
            obtain ⟨x0, x1, x2, x3, x4⟩ := HBX.out.same (hD3.block w.heap.size (by rw [HS1.out]; omega))
            dsimp only at x0 x1 x2 x3 x4
            obtain ⟨p0, p1, p2, p3, p4⟩ := HC_p.out W3 (hE3.block _ HG_p.out)
            simp only [Nat.zero_mul, Nat.add_zero] at p0 p1 p2 p3 p4
            go_wp2_with fail
            all_goals
              try rw [Exit.noGoto_ret]
              go_ret
              exact ⟨by rw [HR.out]; first | rfl | (refine congrArg (fun b => Ending.returned (Value.bool b)) (?_ : _ = _); simp <;> first | assumption | omega), hE3⟩
        case neg =>
          have hlen1_1' : ¬ (kl : Int) = 1 := by omega
          have HR : Hid (t.kinds.pred = false) := by show _ = _; rw [HQ.out]; simp [predK, HML.out, hc0, hlen1_1]
          obtain ⟨x0, x1, x2, x3, x4⟩ := HBX.out
          dsimp only at x0 x1 x2 x3 x4
          have hD1 := Below.refl W1.heap.size W1
          have hE1 := HB1.out
          have HC := con_text txt W1 hTx
          try dsimp only at HC
          rw [hc0] at HC
          try unfold NC.val at HC
          go_wp2_with fail
          refine HC.mono ?_; rintro e W2 ⟨rfl, hC⟩
          have hD2 := hD1.trans (hC.mono hD1.size)
          have hE2 := HB1.out.trans (hD2.mono (by rw [HS1.out]; omega))
          clear HC hC hD1 hE1 x0 x1 x2 x3 x4
          obtain ⟨x0, x1, x2, x3, x4⟩ := HBX.out.same (hD2.block w.heap.size (by rw [HS1.out]; omega))
          dsimp only at x0 x1 x2 x3 x4
          go_wp2_with fail
          all_goals
            try rw [Exit.noGoto_ret]
            go_ret
            exact ⟨by rw [HR.out]; first | rfl | (refine congrArg (fun b => Ending.returned (Value.bool b)) (?_ : _ = _); simp <;> first | assumption | omega), hE2⟩
      | false =>
        have HR : Hid (t.kinds.pred = false) := by show _ = _; rw [HQ.out]; simp [predK, HML.out, hc0]
        obtain ⟨x0, x1, x2, x3, x4⟩ := HBX.out
        dsimp only at x0 x1 x2 x3 x4
        have hD1 := Below.refl W1.heap.size W1
        have hE1 := HB1.out
        have HC := con_text txt W1 hTx
        try dsimp only at HC
        rw [hc0] at HC
        try unfold NC.val at HC
        go_wp2_with fail
        refine HC.mono ?_; rintro e W2 ⟨rfl, hC⟩
        have hD2 := hD1.trans (hC.mono hD1.size)
        have hE2 := HB1.out.trans (hD2.mono (by rw [HS1.out]; omega))
        clear HC hC hD1 hE1 x0 x1 x2 x3 x4
        obtain ⟨x0, x1, x2, x3, x4⟩ := HBX.out.same (hD2.block w.heap.size (by rw [HS1.out]; omega))
        dsimp only at x0 x1 x2 x3 x4
        go_wp2_with fail
        all_goals
          try rw [Exit.noGoto_ret]
          go_ret
          exact ⟨by rw [HR.out]; first | rfl | (refine congrArg (fun b => Ending.returned (Value.bool b)) (?_ : _ = _); simp <;> first | assumption | omega), hE2⟩
    case neg =>
      have HR : Hid (t.kinds.pred = false) := by show _ = _; rw [HQ.out]; simp [predK, HML.out, hn0_0]
      obtain ⟨x0, x1, x2, x3, x4⟩ := HBX.out
      dsimp only at x0 x1 x2 x3 x4
      have hD1 := Below.refl W1.heap.size W1
      have hE1 := HB1.out
      go_wp2_with fail
      all_goals
        try rw [Exit.noGoto_ret]
        go_ret
        exact ⟨by rw [HR.out]; first | rfl | (refine congrArg (fun b => Ending.returned (Value.bool b)) (?_ : _ = _); simp <;> first | assumption | omega), hE1⟩
  case neg =>
    have HR : Hid (t.kinds.pred = false) := by show _ = _; rw [HQ.out]; simp [predK, HML.out, hk3_0]
    obtain ⟨x0, x1, x2, x3, x4⟩ := HBX.out
    dsimp only at x0 x1 x2 x3 x4
    have hD1 := Below.refl W1.heap.size W1
    have hE1 := HB1.out
    go_wp2_with fail
    all_goals
      try rw [Exit.noGoto_ret]
      go_ret
      exact ⟨by rw [HR.out]; first | rfl | (refine congrArg (fun b => Ending.returned (Value.bool b)) (?_ : _ = _); simp <;> first | assumption | omega), hE1⟩
set_option maxRecDepth 100000 in
set_option maxHeartbeats 4000000 in
theorem isqual_any (t : Nd) (ht : Nd.Fit t) : Is 106 (fun t => t.kinds.qual) t := by
  intro c w h
  obtain ⟨k, ps, n, txt, kp, kl, kc⟩ := c
  obtain ⟨L, hL⟩ : ∃ L, L = t.kids.map Nd.kinds := ⟨_, rfl⟩
  have HQ : Hid (t.kinds.qual = (qualK k n txt L)) := by
    show _ = _
    try rw [hL]
    rw [Nd.kinds_eq, ← h.kind, ← h.num, ← h.text]; rfl
  have hTx : txt.length ≤ maxLen := by have := h.text; dsimp only at this; rw [this]; exact ht.text
  have HLN : Hid (kl = t.kids.length) := h.len
  have HML : Hid (L.length = kl) := by show _ = _; rw [hL, List.length_map, HLN.out]
  have hk6 : kl ≤ 1000000 := by rw [HLN.out]; exact ht.len
  have hkc : kl ≤ kc := h.fits
  have HTL : Hid (t.kids.length ≤ 1000000) := ht.len
  have HK := Lib.hid h.kids
  have HT := Lib.hid h
  have HNUM : Hid (n = t.num) := h.num
  have HTXT : Hid (txt = t.text) := h.text
  have HL := Lib.hid hL
  dsimp only at HK
  clear h hL
  unfold NC.val
  obtain ⟨W1, hW1⟩ : ∃ W1, W1 = w.alloc (.cells #[.int .i64 k, .int .i64 ps, .int .i64 n, .string ⟨txt.toArray⟩, .slice kp kl kc] 25) := ⟨_, rfl⟩
  have HBX : Hid (NBox W1 w.heap.size ⟨k, ps, n, txt, kp, kl, kc⟩) := by rw [hW1]; exact NBox.new w ⟨k, ps, n, txt, kp, kl, kc⟩ 25
  have HB1 : Hid (Below w.heap.size w W1) := by rw [hW1]; exact (Below.refl _ w).alloc (Nat.le_refl _) _
  have hs1 : W1.heap.size = w.heap.size + 1 := by rw [hW1]; simp
  have HS1 := Lib.hid hs1
  have HW1 := Lib.hid hW1
  clear hW1 hs1
  go_enter Try.func106, Try.ntmps106
  go_upto_region 1 with fail
  rw [← HW1.out]
  clear HW1
  by_cases hk4_0 : k = 4
  case pos =>
    subst hk4_0
    rcases kl with _ | m
    case zero =>
      cases hc0 : bareK n txt with
      | true =>
        have HR : Hid (t.kinds.qual = false) := by show _ = _; rw [HQ.out]; simp [qualK, HML.out, hc0]
        obtain ⟨x0, x1, x2, x3, x4⟩ := HBX.out
        dsimp only at x0 x1 x2 x3 x4
        have hD1 := Below.refl W1.heap.size W1
        have hE1 := HB1.out
        have HC := bare_any ⟨4, ps, n, txt, kp, 0, kc⟩ W1
        try dsimp only at HC
        rw [hc0] at HC
        try unfold NC.val at HC
        go_wp2_with fail
        refine HC.mono ?_; rintro e W2 ⟨rfl, hC⟩
        have hD2 := hD1.trans (hC.mono hD1.size)
        have hE2 := HB1.out.trans (hD2.mono (by rw [HS1.out]; omega))
        clear HC hC hD1 hE1 x0 x1 x2 x3 x4
        obtain ⟨x0, x1, x2, x3, x4⟩ := HBX.out.same (hD2.block w.heap.size (by rw [HS1.out]; omega))
        dsimp only at x0 x1 x2 x3 x4
        go_wp2_with fail
        all_goals
          try rw [Exit.noGoto_ret]
          go_ret
          exact ⟨by rw [HR.out]; first | rfl | (refine congrArg (fun b => Ending.returned (Value.bool b)) (?_ : _ = _); simp <;> first | assumption | omega), hE2⟩
      | false =>
        have HR : Hid (t.kinds.qual = false) := by show _ = _; rw [HQ.out]; simp [qualK, HML.out, hc0]
        obtain ⟨x0, x1, x2, x3, x4⟩ := HBX.out
        dsimp only at x0 x1 x2 x3 x4
        have hD1 := Below.refl W1.heap.size W1
        have hE1 := HB1.out
        have HC := bare_any ⟨4, ps, n, txt, kp, 0, kc⟩ W1
        try dsimp only at HC
        rw [hc0] at HC
        try unfold NC.val at HC
        go_wp2_with fail
        refine HC.mono ?_; rintro e W2 ⟨rfl, hC⟩
        have hD2 := hD1.trans (hC.mono hD1.size)
        have hE2 := HB1.out.trans (hD2.mono (by rw [HS1.out]; omega))
        clear HC hC hD1 hE1 x0 x1 x2 x3 x4
        obtain ⟨x0, x1, x2, x3, x4⟩ := HBX.out.same (hD2.block w.heap.size (by rw [HS1.out]; omega))
        dsimp only at x0 x1 x2 x3 x4
        go_wp2_with fail
        all_goals
          try rw [Exit.noGoto_ret]
          go_ret
          exact ⟨by rw [HR.out]; first | rfl | (refine congrArg (fun b => Ending.returned (Value.bool b)) (?_ : _ = _); simp <;> first | assumption | omega), hE2⟩
    case succ =>
      have e1 : (m : Int) + 1 - 1 = (m : Int) := by omega
      have hmk : (m : Int) < (m : Int) + 1 := by omega
      cases hc0 : bareK n txt with
      | true =>
        obtain ⟨vs, hvs, -, es, -⟩ := HK.out.slice 0 m (Nat.zero_le _) (by rw [← HLN.out]; omega)
        replace es := es rfl
        rw [List.drop_zero] at hvs
        have HVS := Lib.hid hvs
        clear hvs
        cases hc1 : (L.take m).all (·.pred) with
        | true =>
          cases hc2 : atK L m (·.typ) with
          | true =>
            obtain ⟨kc_p, g_p, o_p, hp_p, hg_p, ht_p, hc_p⟩ := HK.out.at m (by rw [← HLN.out]; omega)
            subst hp_p
            have HG_p := Lib.hid hg_p
            have HT_p := Lib.hid ht_p
            have HC_p := Lib.hid hc_p
            clear hg_p ht_p hc_p
            have HR : Hid (t.kinds.qual = true) := by show _ = _; rw [HQ.out]; simp [qualK, HML.out, hc0, hc1, hc2]
            obtain ⟨x0, x1, x2, x3, x4⟩ := HBX.out
            dsimp only at x0 x1 x2 x3 x4
            have hD1 := Below.refl W1.heap.size W1
            have hE1 := HB1.out
            obtain ⟨p0, p1, p2, p3, p4⟩ := HC_p.out W1 (HB1.out.block _ HG_p.out)
            have HC := bare_any ⟨4, ps, n, txt, (some ⟨g_p, o_p, none⟩), (m + 1), kc⟩ W1
            try dsimp only at HC
            rw [hc0] at HC
            try unfold NC.val at HC
            go_wp2_with fail
            refine HC.mono ?_; rintro e W2 ⟨rfl, hC⟩
            have hD2 := hD1.trans (hC.mono hD1.size)
            have hE2 := HB1.out.trans (hD2.mono (by rw [HS1.out]; omega))
            clear HC hC hD1 hE1 x0 x1 x2 x3 x4 p0 p1 p2 p3 p4
            obtain ⟨x0, x1, x2, x3, x4⟩ := HBX.out.same (hD2.block w.heap.size (by rw [HS1.out]; omega))
            dsimp only at x0 x1 x2 x3 x4
            obtain ⟨p0, p1, p2, p3, p4⟩ := HC_p.out W2 (hE2.block _ HG_p.out)
            have HC := every_any (f := 85) (p := fun t => t.kinds.pred) (enters_of Try.func85 (by kernel_rfl) rfl) (HVS.out.later hE2) (by rw [List.length_take]; have := HTL.out; omega) (fun t' h => (fun h => ispred_any t' (ht.kid h)) (List.mem_of_mem_take h))
            try dsimp only at HC
            have hcv : _ = _ := ((all_take_map t.kids m (·.pred)).symm.trans (by rw [HL.out]) : ((t.kids.take m).all (fun t => t.kinds.pred)) = (L.take m).all (·.pred))
            rw [hcv, hc1] at HC
            try unfold NC.val at HC
            go_wp2_with fail
            refine HC.mono ?_; rintro e W3 ⟨rfl, hC⟩
            have hD3 := hD2.trans (hC.mono hD2.size)
            have hE3 := HB1.out.trans (hD3.mono (by rw [HS1.out]; omega))
            clear HC hC hD2 hE2 x0 x1 x2 x3 x4 hcv p0 p1 p2 p3 p4
            obtain ⟨x0, x1, x2, x3, x4⟩ := HBX.out.same (hD3.block w.heap.size (by rw [HS1.out]; omega))
            dsimp only at x0 x1 x2 x3 x4
            obtain ⟨p0, p1, p2, p3, p4⟩ := HC_p.out W3 (hE3.block _ HG_p.out)
            have HC := (istype_any _ (ht.kid (List.getElem_mem _))) kc_p W3 (HT_p.out.later hE3)
            try dsimp only at HC
            have hcv : _ = _ := ((atK_map t.kids m (·.typ) (by rw [← HLN.out]; omega)).symm.trans (by rw [HL.out]) : (t.kids[m]'(by rw [← HLN.out]; omega)).kinds.typ = atK L m (·.typ))
            rw [hcv, hc2] at HC
            try unfold NC.val at HC
            go_wp2_with fail
            refine HC.mono ?_; rintro e W4 ⟨rfl, hC⟩
            have hD4 := hD3.trans (hC.mono hD3.size)
            have hE4 := HB1.out.trans (hD4.mono (by rw [HS1.out]; omega))
            clear HC hC hD3 hE3 x0 x1 x2 x3 x4 hcv p0 p1 p2 p3 p4
            obtain ⟨x0, x1, x2, x3, x4⟩ := HBX.out.same (hD4.block w.heap.size (by rw [HS1.out]; omega))
            dsimp only at x0 x1 x2 x3 x4
            obtain ⟨p0, p1, p2, p3, p4⟩ := HC_p.out W4 (hE4.block _ HG_p.out)
            go_wp2_with fail
            all_goals
              try rw [Exit.noGoto_ret]
              go_ret
              exact ⟨by rw [HR.out]; first | rfl | (refine congrArg (fun b => Ending.returned (Value.bool b)) (?_ : _ = _); simp <;> first | assumption | omega), hE4⟩
          | false =>
            obtain ⟨kc_p, g_p, o_p, hp_p, hg_p, ht_p, hc_p⟩ := HK.out.at m (by rw [← HLN.out]; omega)
            subst hp_p
            have HG_p := Lib.hid hg_p
            have HT_p := Lib.hid ht_p
            have HC_p := Lib.hid hc_p
            clear hg_p ht_p hc_p
            have HR : Hid (t.kinds.qual = false) := by show _ = _; rw [HQ.out]; simp [qualK, HML.out, hc0, hc1, hc2]
            obtain ⟨x0, x1, x2, x3, x4⟩ := HBX.out
            dsimp only at x0 x1 x2 x3 x4
            have hD1 := Below.refl W1.heap.size W1
            have hE1 := HB1.out
            obtain ⟨p0, p1, p2, p3, p4⟩ := HC_p.out W1 (HB1.out.block _ HG_p.out)
            have HC := bare_any ⟨4, ps, n, txt, (some ⟨g_p, o_p, none⟩), (m + 1), kc⟩ W1
            try dsimp only at HC
            rw [hc0] at HC
            try unfold NC.val at HC
            go_wp2_with fail
            refine HC.mono ?_; rintro e W2 ⟨rfl, hC⟩
            have hD2 := hD1.trans (hC.mono hD1.size)
            have hE2 := HB1.out.trans (hD2.mono (by rw [HS1.out]; omega))
            clear HC hC hD1 hE1 x0 x1 x2 x3 x4 p0 p1 p2 p3 p4
            obtain ⟨x0, x1, x2, x3, x4⟩ := HBX.out.same (hD2.block w.heap.size (by rw [HS1.out]; omega))
            dsimp only at x0 x1 x2 x3 x4
            obtain ⟨p0, p1, p2, p3, p4⟩ := HC_p.out W2 (hE2.block _ HG_p.out)
            have HC := every_any (f := 85) (p := fun t => t.kinds.pred) (enters_of Try.func85 (by kernel_rfl) rfl) (HVS.out.later hE2) (by rw [List.length_take]; have := HTL.out; omega) (fun t' h => (fun h => ispred_any t' (ht.kid h)) (List.mem_of_mem_take h))
            try dsimp only at HC
            have hcv : _ = _ := ((all_take_map t.kids m (·.pred)).symm.trans (by rw [HL.out]) : ((t.kids.take m).all (fun t => t.kinds.pred)) = (L.take m).all (·.pred))
            rw [hcv, hc1] at HC
            try unfold NC.val at HC
            go_wp2_with fail
            refine HC.mono ?_; rintro e W3 ⟨rfl, hC⟩
            have hD3 := hD2.trans (hC.mono hD2.size)
            have hE3 := HB1.out.trans (hD3.mono (by rw [HS1.out]; omega))
            clear HC hC hD2 hE2 x0 x1 x2 x3 x4 hcv p0 p1 p2 p3 p4
            obtain ⟨x0, x1, x2, x3, x4⟩ := HBX.out.same (hD3.block w.heap.size (by rw [HS1.out]; omega))
            dsimp only at x0 x1 x2 x3 x4
            obtain ⟨p0, p1, p2, p3, p4⟩ := HC_p.out W3 (hE3.block _ HG_p.out)
            have HC := (istype_any _ (ht.kid (List.getElem_mem _))) kc_p W3 (HT_p.out.later hE3)
            try dsimp only at HC
            have hcv : _ = _ := ((atK_map t.kids m (·.typ) (by rw [← HLN.out]; omega)).symm.trans (by rw [HL.out]) : (t.kids[m]'(by rw [← HLN.out]; omega)).kinds.typ = atK L m (·.typ))
            rw [hcv, hc2] at HC
            try unfold NC.val at HC
            go_wp2_with fail
            refine HC.mono ?_; rintro e W4 ⟨rfl, hC⟩
            have hD4 := hD3.trans (hC.mono hD3.size)
            have hE4 := HB1.out.trans (hD4.mono (by rw [HS1.out]; omega))
            clear HC hC hD3 hE3 x0 x1 x2 x3 x4 hcv p0 p1 p2 p3 p4
            obtain ⟨x0, x1, x2, x3, x4⟩ := HBX.out.same (hD4.block w.heap.size (by rw [HS1.out]; omega))
            dsimp only at x0 x1 x2 x3 x4
            obtain ⟨p0, p1, p2, p3, p4⟩ := HC_p.out W4 (hE4.block _ HG_p.out)
            go_wp2_with fail
            all_goals
              try rw [Exit.noGoto_ret]
              go_ret
              exact ⟨by rw [HR.out]; first | rfl | (refine congrArg (fun b => Ending.returned (Value.bool b)) (?_ : _ = _); simp <;> first | assumption | omega), hE4⟩
        | false =>
          have HR : Hid (t.kinds.qual = false) := by show _ = _; rw [HQ.out]; simp [qualK, HML.out, hc0, hc1]
          obtain ⟨x0, x1, x2, x3, x4⟩ := HBX.out
          dsimp only at x0 x1 x2 x3 x4
          have hD1 := Below.refl W1.heap.size W1
          have hE1 := HB1.out
          have HC := bare_any ⟨4, ps, n, txt, kp, (m + 1), kc⟩ W1
          try dsimp only at HC
          rw [hc0] at HC
          try unfold NC.val at HC
          go_wp2_with fail
          refine HC.mono ?_; rintro e W2 ⟨rfl, hC⟩
          have hD2 := hD1.trans (hC.mono hD1.size)
          have hE2 := HB1.out.trans (hD2.mono (by rw [HS1.out]; omega))
          clear HC hC hD1 hE1 x0 x1 x2 x3 x4
          obtain ⟨x0, x1, x2, x3, x4⟩ := HBX.out.same (hD2.block w.heap.size (by rw [HS1.out]; omega))
          dsimp only at x0 x1 x2 x3 x4
          have HC := every_any (f := 85) (p := fun t => t.kinds.pred) (enters_of Try.func85 (by kernel_rfl) rfl) (HVS.out.later hE2) (by rw [List.length_take]; have := HTL.out; omega) (fun t' h => (fun h => ispred_any t' (ht.kid h)) (List.mem_of_mem_take h))
          try dsimp only at HC
          have hcv : _ = _ := ((all_take_map t.kids m (·.pred)).symm.trans (by rw [HL.out]) : ((t.kids.take m).all (fun t => t.kinds.pred)) = (L.take m).all (·.pred))
          rw [hcv, hc1] at HC
          try unfold NC.val at HC
          go_wp2_with fail
          refine HC.mono ?_; rintro e W3 ⟨rfl, hC⟩
          have hD3 := hD2.trans (hC.mono hD2.size)
          have hE3 := HB1.out.trans (hD3.mono (by rw [HS1.out]; omega))
          clear HC hC hD2 hE2 x0 x1 x2 x3 x4 hcv
          obtain ⟨x0, x1, x2, x3, x4⟩ := HBX.out.same (hD3.block w.heap.size (by rw [HS1.out]; omega))
          dsimp only at x0 x1 x2 x3 x4
          go_wp2_with fail
          all_goals
            try rw [Exit.noGoto_ret]
            go_ret
            exact ⟨by rw [HR.out]; first | rfl | (refine congrArg (fun b => Ending.returned (Value.bool b)) (?_ : _ = _); simp <;> first | assumption | omega), hE3⟩
      | false =>
        have HR : Hid (t.kinds.qual = false) := by show _ = _; rw [HQ.out]; simp [qualK, HML.out, hc0]
        obtain ⟨x0, x1, x2, x3, x4⟩ := HBX.out
        dsimp only at x0 x1 x2 x3 x4
        have hD1 := Below.refl W1.heap.size W1
        have hE1 := HB1.out
        have HC := bare_any ⟨4, ps, n, txt, kp, (m + 1), kc⟩ W1
        try dsimp only at HC
        rw [hc0] at HC
        try unfold NC.val at HC
        go_wp2_with fail
        refine HC.mono ?_; rintro e W2 ⟨rfl, hC⟩
        have hD2 := hD1.trans (hC.mono hD1.size)
        have hE2 := HB1.out.trans (hD2.mono (by rw [HS1.out]; omega))
        clear HC hC hD1 hE1 x0 x1 x2 x3 x4
        obtain ⟨x0, x1, x2, x3, x4⟩ := HBX.out.same (hD2.block w.heap.size (by rw [HS1.out]; omega))
        dsimp only at x0 x1 x2 x3 x4
        go_wp2_with fail
        all_goals
          try rw [Exit.noGoto_ret]
          go_ret
          exact ⟨by rw [HR.out]; first | rfl | (refine congrArg (fun b => Ending.returned (Value.bool b)) (?_ : _ = _); simp <;> first | assumption | omega), hE2⟩
  case neg =>
    have HR : Hid (t.kinds.qual = false) := by show _ = _; rw [HQ.out]; simp [qualK, HML.out, hk4_0]
    obtain ⟨x0, x1, x2, x3, x4⟩ := HBX.out
    dsimp only at x0 x1 x2 x3 x4
    have hD1 := Below.refl W1.heap.size W1
    have hE1 := HB1.out
    go_wp2_with fail
    all_goals
      try rw [Exit.noGoto_ret]
      go_ret
      exact ⟨by rw [HR.out]; first | rfl | (refine congrArg (fun b => Ending.returned (Value.bool b)) (?_ : _ = _); simp <;> first | assumption | omega), hE1⟩
set_option maxRecDepth 100000 in
set_option maxHeartbeats 4000000 in
theorem ispat_step (t : Nd) (ht : Nd.Fit t) (ih : ∀ t' ∈ t.kids, Is 128 (fun t => t.kinds.pat) t') : Is 128 (fun t => t.kinds.pat) t := by
  intro c w h
  obtain ⟨k, ps, n, txt, kp, kl, kc⟩ := c
  obtain ⟨L, hL⟩ : ∃ L, L = t.kids.map Nd.kinds := ⟨_, rfl⟩
  have HQ : Hid (t.kinds.pat = (patK k n txt L)) := by
    show _ = _
    try rw [hL]
    rw [Nd.kinds_eq, ← h.kind, ← h.num, ← h.text]; rfl
  have hTx : txt.length ≤ maxLen := by have := h.text; dsimp only at this; rw [this]; exact ht.text
  have HLN : Hid (kl = t.kids.length) := h.len
  have HML : Hid (L.length = kl) := by show _ = _; rw [hL, List.length_map, HLN.out]
  have hk6 : kl ≤ 1000000 := by rw [HLN.out]; exact ht.len
  have hkc : kl ≤ kc := h.fits
  have HTL : Hid (t.kids.length ≤ 1000000) := ht.len
  have HK := Lib.hid h.kids
  have HT := Lib.hid h
  have HNUM : Hid (n = t.num) := h.num
  have HTXT : Hid (txt = t.text) := h.text
  have HL := Lib.hid hL
  dsimp only at HK
  clear h hL
  unfold NC.val
  obtain ⟨W1, hW1⟩ : ∃ W1, W1 = w.alloc (.cells #[.int .i64 k, .int .i64 ps, .int .i64 n, .string ⟨txt.toArray⟩, .slice kp kl kc] 25) := ⟨_, rfl⟩
  have HBX : Hid (NBox W1 w.heap.size ⟨k, ps, n, txt, kp, kl, kc⟩) := by rw [hW1]; exact NBox.new w ⟨k, ps, n, txt, kp, kl, kc⟩ 25
  have HB1 : Hid (Below w.heap.size w W1) := by rw [hW1]; exact (Below.refl _ w).alloc (Nat.le_refl _) _
  have hs1 : W1.heap.size = w.heap.size + 1 := by rw [hW1]; simp
  have HS1 := Lib.hid hs1
  have HW1 := Lib.hid hW1
  clear hW1 hs1
  go_enter Try.func128, Try.ntmps128
  go_upto_region 1 with fail
  rw [← HW1.out]
  clear HW1
  by_cases hk11_0 : k = 11
  case pos =>
    subst hk11_0
    cases hc0 : decide (n = 0) && (decide (kl = 0) && varB txt) with
    | true =>
      have HR : Hid (t.kinds.pat = true) := by show _ = _; rw [HQ.out]; simp [patK, varK, HML.out, hc0]
      obtain ⟨x0, x1, x2, x3, x4⟩ := HBX.out
      dsimp only at x0 x1 x2 x3 x4
      have hD1 := Below.refl W1.heap.size W1
      have hE1 := HB1.out
      have HC := isvar_any ⟨11, ps, n, txt, kp, kl, kc⟩ W1 0 (by omega) hTx hk6
      try dsimp only at HC
      rw [hc0] at HC
      try unfold NC.val at HC
      go_wp2_with fail
      refine HC.mono ?_; rintro e W2 ⟨rfl, hC⟩
      have hD2 := hD1.trans (hC.mono hD1.size)
      have hE2 := HB1.out.trans (hD2.mono (by rw [HS1.out]; omega))
      clear HC hC hD1 hE1 x0 x1 x2 x3 x4
      obtain ⟨x0, x1, x2, x3, x4⟩ := HBX.out.same (hD2.block w.heap.size (by rw [HS1.out]; omega))
      dsimp only at x0 x1 x2 x3 x4
      go_wp2_with fail
      all_goals
        try rw [Exit.noGoto_ret]
        go_ret
        exact ⟨by rw [HR.out]; first | rfl | (refine congrArg (fun b => Ending.returned (Value.bool b)) (?_ : _ = _); simp <;> first | assumption | omega), hE2⟩
    | false =>
      have HR : Hid (t.kinds.pat = false) := by show _ = _; rw [HQ.out]; simp [patK, varK, HML.out, hc0]
      obtain ⟨x0, x1, x2, x3, x4⟩ := HBX.out
      dsimp only at x0 x1 x2 x3 x4
      have hD1 := Below.refl W1.heap.size W1
      have hE1 := HB1.out
      have HC := isvar_any ⟨11, ps, n, txt, kp, kl, kc⟩ W1 0 (by omega) hTx hk6
      try dsimp only at HC
      rw [hc0] at HC
      try unfold NC.val at HC
      go_wp2_with fail
      refine HC.mono ?_; rintro e W2 ⟨rfl, hC⟩
      have hD2 := hD1.trans (hC.mono hD1.size)
      have hE2 := HB1.out.trans (hD2.mono (by rw [HS1.out]; omega))
      clear HC hC hD1 hE1 x0 x1 x2 x3 x4
      obtain ⟨x0, x1, x2, x3, x4⟩ := HBX.out.same (hD2.block w.heap.size (by rw [HS1.out]; omega))
      dsimp only at x0 x1 x2 x3 x4
      go_wp2_with fail
      all_goals
        try rw [Exit.noGoto_ret]
        go_ret
        exact ⟨by rw [HR.out]; first | rfl | (refine congrArg (fun b => Ending.returned (Value.bool b)) (?_ : _ = _); simp <;> first | assumption | omega), hE2⟩
  case neg =>
    by_cases hk12_1 : k = 12
    case pos =>
      subst hk12_1
      cases hc1 : bareK n txt with
      | true =>
        by_cases hlen0_2 : kl = 0
        case pos =>
          subst hlen0_2
          have HR : Hid (t.kinds.pat = true) := by show _ = _; rw [HQ.out]; simp [patK, varK, HML.out, hk11_0, hc1]
          obtain ⟨x0, x1, x2, x3, x4⟩ := HBX.out
          dsimp only at x0 x1 x2 x3 x4
          have hD1 := Below.refl W1.heap.size W1
          have hE1 := HB1.out
          have HC := bare_any ⟨12, ps, n, txt, kp, 0, kc⟩ W1
          try dsimp only at HC
          rw [hc1] at HC
          try unfold NC.val at HC
          go_wp2_with fail
          refine HC.mono ?_; rintro e W2 ⟨rfl, hC⟩
          have hD2 := hD1.trans (hC.mono hD1.size)
          have hE2 := HB1.out.trans (hD2.mono (by rw [HS1.out]; omega))
          clear HC hC hD1 hE1 x0 x1 x2 x3 x4
          obtain ⟨x0, x1, x2, x3, x4⟩ := HBX.out.same (hD2.block w.heap.size (by rw [HS1.out]; omega))
          dsimp only at x0 x1 x2 x3 x4
          go_wp2_with fail
          all_goals
            try rw [Exit.noGoto_ret]
            go_ret
            exact ⟨by rw [HR.out]; first | rfl | (refine congrArg (fun b => Ending.returned (Value.bool b)) (?_ : _ = _); simp <;> first | assumption | omega), hE2⟩
        case neg =>
          have hlen0_2' : ¬ (kl : Int) = 0 := by omega
          have HR : Hid (t.kinds.pat = false) := by show _ = _; rw [HQ.out]; simp [patK, varK, HML.out, hk11_0, hc1, hlen0_2]
          obtain ⟨x0, x1, x2, x3, x4⟩ := HBX.out
          dsimp only at x0 x1 x2 x3 x4
          have hD1 := Below.refl W1.heap.size W1
          have hE1 := HB1.out
          have HC := bare_any ⟨12, ps, n, txt, kp, kl, kc⟩ W1
          try dsimp only at HC
          rw [hc1] at HC
          try unfold NC.val at HC
          go_wp2_with fail
          refine HC.mono ?_; rintro e W2 ⟨rfl, hC⟩
          have hD2 := hD1.trans (hC.mono hD1.size)
          have hE2 := HB1.out.trans (hD2.mono (by rw [HS1.out]; omega))
          clear HC hC hD1 hE1 x0 x1 x2 x3 x4
          obtain ⟨x0, x1, x2, x3, x4⟩ := HBX.out.same (hD2.block w.heap.size (by rw [HS1.out]; omega))
          dsimp only at x0 x1 x2 x3 x4
          go_wp2_with fail
          all_goals
            try rw [Exit.noGoto_ret]
            go_ret
            exact ⟨by rw [HR.out]; first | rfl | (refine congrArg (fun b => Ending.returned (Value.bool b)) (?_ : _ = _); simp <;> first | assumption | omega), hE2⟩
      | false =>
        have HR : Hid (t.kinds.pat = false) := by show _ = _; rw [HQ.out]; simp [patK, varK, HML.out, hk11_0, hc1]
        obtain ⟨x0, x1, x2, x3, x4⟩ := HBX.out
        dsimp only at x0 x1 x2 x3 x4
        have hD1 := Below.refl W1.heap.size W1
        have hE1 := HB1.out
        have HC := bare_any ⟨12, ps, n, txt, kp, kl, kc⟩ W1
        try dsimp only at HC
        rw [hc1] at HC
        try unfold NC.val at HC
        go_wp2_with fail
        refine HC.mono ?_; rintro e W2 ⟨rfl, hC⟩
        have hD2 := hD1.trans (hC.mono hD1.size)
        have hE2 := HB1.out.trans (hD2.mono (by rw [HS1.out]; omega))
        clear HC hC hD1 hE1 x0 x1 x2 x3 x4
        obtain ⟨x0, x1, x2, x3, x4⟩ := HBX.out.same (hD2.block w.heap.size (by rw [HS1.out]; omega))
        dsimp only at x0 x1 x2 x3 x4
        go_wp2_with fail
        all_goals
          try rw [Exit.noGoto_ret]
          go_ret
          exact ⟨by rw [HR.out]; first | rfl | (refine congrArg (fun b => Ending.returned (Value.bool b)) (?_ : _ = _); simp <;> first | assumption | omega), hE2⟩
    case neg =>
      by_cases hk13_2 : k = 13
      case pos =>
        subst hk13_2
        by_cases hnge_2 : 0 ≤ n
        case pos =>
          by_cases htxt0_3 : txt = []
          case pos =>
            by_cases hlen0_4 : kl = 0
            case pos =>
              subst hlen0_4
              have HR : Hid (t.kinds.pat = true) := by show _ = _; rw [HQ.out]; simp [patK, varK, HML.out, hk11_0, hk12_1, hnge_2, htxt0_3]
              obtain ⟨x0, x1, x2, x3, x4⟩ := HBX.out
              dsimp only at x0 x1 x2 x3 x4
              have hD1 := Below.refl W1.heap.size W1
              have hE1 := HB1.out
              go_wp2_with fail
              all_goals
                try rw [Exit.noGoto_ret]
                go_ret
                exact ⟨by rw [HR.out]; first | rfl | (refine congrArg (fun b => Ending.returned (Value.bool b)) (?_ : _ = _); simp <;> first | assumption | omega), hE1⟩
            case neg =>
              have hlen0_4' : ¬ (kl : Int) = 0 := by omega
              have HR : Hid (t.kinds.pat = false) := by show _ = _; rw [HQ.out]; simp [patK, varK, HML.out, hk11_0, hk12_1, hnge_2, htxt0_3, hlen0_4]
              obtain ⟨x0, x1, x2, x3, x4⟩ := HBX.out
              dsimp only at x0 x1 x2 x3 x4
              have hD1 := Below.refl W1.heap.size W1
              have hE1 := HB1.out
              go_wp2_with fail
              all_goals
                try rw [Exit.noGoto_ret]
                go_ret
                exact ⟨by rw [HR.out]; first | rfl | (refine congrArg (fun b => Ending.returned (Value.bool b)) (?_ : _ = _); simp <;> first | assumption | omega), hE1⟩
          case neg =>
            have HR : Hid (t.kinds.pat = false) := by show _ = _; rw [HQ.out]; simp [patK, varK, HML.out, hk11_0, hk12_1, hnge_2, htxt0_3]
            obtain ⟨x0, x1, x2, x3, x4⟩ := HBX.out
            dsimp only at x0 x1 x2 x3 x4
            have hD1 := Below.refl W1.heap.size W1
            have hE1 := HB1.out
            go_wp2_with fail
            all_goals
              try rw [Exit.noGoto_ret]
              go_ret
              exact ⟨by rw [HR.out]; first | rfl | (refine congrArg (fun b => Ending.returned (Value.bool b)) (?_ : _ = _); simp <;> first | assumption | omega), hE1⟩
        case neg =>
          have HR : Hid (t.kinds.pat = false) := by show _ = _; rw [HQ.out]; simp [patK, varK, HML.out, hk11_0, hk12_1, hnge_2]
          obtain ⟨x0, x1, x2, x3, x4⟩ := HBX.out
          dsimp only at x0 x1 x2 x3 x4
          have hD1 := Below.refl W1.heap.size W1
          have hE1 := HB1.out
          go_wp2_with fail
          all_goals
            try rw [Exit.noGoto_ret]
            go_ret
            exact ⟨by rw [HR.out]; first | rfl | (refine congrArg (fun b => Ending.returned (Value.bool b)) (?_ : _ = _); simp <;> first | assumption | omega), hE1⟩
      case neg =>
        by_cases hk14_3 : k = 14
        case pos =>
          subst hk14_3
          by_cases hn0_3 : n = 0
          case pos =>
            subst hn0_3
            cases hc3 : conB txt with
            | true =>
              cases hc4 : L.all (·.pat) with
              | true =>
                have HR : Hid (t.kinds.pat = true) := by show _ = _; rw [HQ.out]; simp [patK, varK, HML.out, hk11_0, hk12_1, hk13_2, hc3, hc4]
                obtain ⟨x0, x1, x2, x3, x4⟩ := HBX.out
                dsimp only at x0 x1 x2 x3 x4
                have hD1 := Below.refl W1.heap.size W1
                have hE1 := HB1.out
                have HC := con_text txt W1 hTx
                try dsimp only at HC
                rw [hc3] at HC
                try unfold NC.val at HC
                go_wp2_with fail
                refine HC.mono ?_; rintro e W2 ⟨rfl, hC⟩
                have hD2 := hD1.trans (hC.mono hD1.size)
                have hE2 := HB1.out.trans (hD2.mono (by rw [HS1.out]; omega))
                clear HC hC hD1 hE1 x0 x1 x2 x3 x4
                obtain ⟨x0, x1, x2, x3, x4⟩ := HBX.out.same (hD2.block w.heap.size (by rw [HS1.out]; omega))
                dsimp only at x0 x1 x2 x3 x4
                have HC := every_any (f := 128) (p := fun t => t.kinds.pat) (enters_of Try.func128 (by kernel_rfl) rfl) (HK.out.later hE2) HTL.out ih
                try dsimp only at HC
                have hcv : _ = _ := ((all_map t.kids (·.pat)).symm.trans (by rw [HL.out]) : (t.kids.all fun t => t.kinds.pat) = L.all (·.pat))
                rw [hcv, hc4] at HC
                try unfold NC.val at HC
                go_wp2_with fail
                refine HC.mono ?_; rintro e W3 ⟨rfl, hC⟩
                have hD3 := hD2.trans (hC.mono hD2.size)
                have hE3 := HB1.out.trans (hD3.mono (by rw [HS1.out]; omega))
                clear HC hC hD2 hE2 x0 x1 x2 x3 x4 hcv
                obtain ⟨x0, x1, x2, x3, x4⟩ := HBX.out.same (hD3.block w.heap.size (by rw [HS1.out]; omega))
                dsimp only at x0 x1 x2 x3 x4
                go_wp2_with fail
                all_goals
                  try rw [Exit.noGoto_ret]
                  go_ret
                  exact ⟨by rw [HR.out]; first | rfl | (refine congrArg (fun b => Ending.returned (Value.bool b)) (?_ : _ = _); simp <;> first | assumption | omega), hE3⟩
              | false =>
                have HR : Hid (t.kinds.pat = false) := by show _ = _; rw [HQ.out]; simp [patK, varK, HML.out, hk11_0, hk12_1, hk13_2, hc3, hc4]
                obtain ⟨x0, x1, x2, x3, x4⟩ := HBX.out
                dsimp only at x0 x1 x2 x3 x4
                have hD1 := Below.refl W1.heap.size W1
                have hE1 := HB1.out
                have HC := con_text txt W1 hTx
                try dsimp only at HC
                rw [hc3] at HC
                try unfold NC.val at HC
                go_wp2_with fail
                refine HC.mono ?_; rintro e W2 ⟨rfl, hC⟩
                have hD2 := hD1.trans (hC.mono hD1.size)
                have hE2 := HB1.out.trans (hD2.mono (by rw [HS1.out]; omega))
                clear HC hC hD1 hE1 x0 x1 x2 x3 x4
                obtain ⟨x0, x1, x2, x3, x4⟩ := HBX.out.same (hD2.block w.heap.size (by rw [HS1.out]; omega))
                dsimp only at x0 x1 x2 x3 x4
                have HC := every_any (f := 128) (p := fun t => t.kinds.pat) (enters_of Try.func128 (by kernel_rfl) rfl) (HK.out.later hE2) HTL.out ih
                try dsimp only at HC
                have hcv : _ = _ := ((all_map t.kids (·.pat)).symm.trans (by rw [HL.out]) : (t.kids.all fun t => t.kinds.pat) = L.all (·.pat))
                rw [hcv, hc4] at HC
                try unfold NC.val at HC
                go_wp2_with fail
                refine HC.mono ?_; rintro e W3 ⟨rfl, hC⟩
                have hD3 := hD2.trans (hC.mono hD2.size)
                have hE3 := HB1.out.trans (hD3.mono (by rw [HS1.out]; omega))
                clear HC hC hD2 hE2 x0 x1 x2 x3 x4 hcv
                obtain ⟨x0, x1, x2, x3, x4⟩ := HBX.out.same (hD3.block w.heap.size (by rw [HS1.out]; omega))
                dsimp only at x0 x1 x2 x3 x4
                go_wp2_with fail
                all_goals
                  try rw [Exit.noGoto_ret]
                  go_ret
                  exact ⟨by rw [HR.out]; first | rfl | (refine congrArg (fun b => Ending.returned (Value.bool b)) (?_ : _ = _); simp <;> first | assumption | omega), hE3⟩
            | false =>
              have HR : Hid (t.kinds.pat = false) := by show _ = _; rw [HQ.out]; simp [patK, varK, HML.out, hk11_0, hk12_1, hk13_2, hc3]
              obtain ⟨x0, x1, x2, x3, x4⟩ := HBX.out
              dsimp only at x0 x1 x2 x3 x4
              have hD1 := Below.refl W1.heap.size W1
              have hE1 := HB1.out
              have HC := con_text txt W1 hTx
              try dsimp only at HC
              rw [hc3] at HC
              try unfold NC.val at HC
              go_wp2_with fail
              refine HC.mono ?_; rintro e W2 ⟨rfl, hC⟩
              have hD2 := hD1.trans (hC.mono hD1.size)
              have hE2 := HB1.out.trans (hD2.mono (by rw [HS1.out]; omega))
              clear HC hC hD1 hE1 x0 x1 x2 x3 x4
              obtain ⟨x0, x1, x2, x3, x4⟩ := HBX.out.same (hD2.block w.heap.size (by rw [HS1.out]; omega))
              dsimp only at x0 x1 x2 x3 x4
              go_wp2_with fail
              all_goals
                try rw [Exit.noGoto_ret]
                go_ret
                exact ⟨by rw [HR.out]; first | rfl | (refine congrArg (fun b => Ending.returned (Value.bool b)) (?_ : _ = _); simp <;> first | assumption | omega), hE2⟩
          case neg =>
            have HR : Hid (t.kinds.pat = false) := by show _ = _; rw [HQ.out]; simp [patK, varK, HML.out, hk11_0, hk12_1, hk13_2, hn0_3]
            obtain ⟨x0, x1, x2, x3, x4⟩ := HBX.out
            dsimp only at x0 x1 x2 x3 x4
            have hD1 := Below.refl W1.heap.size W1
            have hE1 := HB1.out
            go_wp2_with fail
            all_goals
              try rw [Exit.noGoto_ret]
              go_ret
              exact ⟨by rw [HR.out]; first | rfl | (refine congrArg (fun b => Ending.returned (Value.bool b)) (?_ : _ = _); simp <;> first | assumption | omega), hE1⟩
        case neg =>
          have HR : Hid (t.kinds.pat = false) := by show _ = _; rw [HQ.out]; simp [patK, varK, HML.out, hk11_0, hk12_1, hk13_2, hk14_3]
          obtain ⟨x0, x1, x2, x3, x4⟩ := HBX.out
          dsimp only at x0 x1 x2 x3 x4
          have hD1 := Below.refl W1.heap.size W1
          have hE1 := HB1.out
          go_wp2_with fail
          all_goals
            try rw [Exit.noGoto_ret]
            go_ret
            exact ⟨by rw [HR.out]; first | rfl | (refine congrArg (fun b => Ending.returned (Value.bool b)) (?_ : _ = _); simp <;> first | assumption | omega), hE1⟩
theorem ispat_any (t : Nd) : Nd.Fit t → Is 128 (fun t => t.kinds.pat) t := by
  induction t using Nd.by_size with
  | h t ih => exact fun ht => ispat_step t ht fun t' h => ih t' (Nd.kid_lt h) (ht.kid h)
set_option maxRecDepth 100000 in
set_option maxHeartbeats 4000000 in
theorem iscon_any (t : Nd) (ht : Nd.Fit t) : Is 84 (fun t => t.kinds.con) t := by
  intro c w h
  obtain ⟨k, ps, n, txt, kp, kl, kc⟩ := c
  obtain ⟨L, hL⟩ : ∃ L, L = t.kids.map Nd.kinds := ⟨_, rfl⟩
  have HQ : Hid (t.kinds.con = (conK k n txt L)) := by
    show _ = _
    try rw [hL]
    rw [Nd.kinds_eq, ← h.kind, ← h.num, ← h.text]; rfl
  have hTx : txt.length ≤ maxLen := by have := h.text; dsimp only at this; rw [this]; exact ht.text
  have HLN : Hid (kl = t.kids.length) := h.len
  have HML : Hid (L.length = kl) := by show _ = _; rw [hL, List.length_map, HLN.out]
  have hk6 : kl ≤ 1000000 := by rw [HLN.out]; exact ht.len
  have hkc : kl ≤ kc := h.fits
  have HTL : Hid (t.kids.length ≤ 1000000) := ht.len
  have HK := Lib.hid h.kids
  have HT := Lib.hid h
  have HNUM : Hid (n = t.num) := h.num
  have HTXT : Hid (txt = t.text) := h.text
  have HL := Lib.hid hL
  dsimp only at HK
  clear h hL
  unfold NC.val
  obtain ⟨W1, hW1⟩ : ∃ W1, W1 = w.alloc (.cells #[.int .i64 k, .int .i64 ps, .int .i64 n, .string ⟨txt.toArray⟩, .slice kp kl kc] 25) := ⟨_, rfl⟩
  have HBX : Hid (NBox W1 w.heap.size ⟨k, ps, n, txt, kp, kl, kc⟩) := by rw [hW1]; exact NBox.new w ⟨k, ps, n, txt, kp, kl, kc⟩ 25
  have HB1 : Hid (Below w.heap.size w W1) := by rw [hW1]; exact (Below.refl _ w).alloc (Nat.le_refl _) _
  have hs1 : W1.heap.size = w.heap.size + 1 := by rw [hW1]; simp
  have HS1 := Lib.hid hs1
  have HW1 := Lib.hid hW1
  clear hW1 hs1
  go_enter Try.func84, Try.ntmps84
  go_upto_region 1 with fail
  rw [← HW1.out]
  clear HW1
  by_cases hk34_0 : k = 34
  case pos =>
    subst hk34_0
    by_cases hn0_0 : n = 0
    case pos =>
      subst hn0_0
      cases hc0 : conB txt with
      | true =>
        cases hc1 : L.all (·.typ) with
        | true =>
          have HR : Hid (t.kinds.con = true) := by show _ = _; rw [HQ.out]; simp [conK, HML.out, hc0, hc1]
          obtain ⟨x0, x1, x2, x3, x4⟩ := HBX.out
          dsimp only at x0 x1 x2 x3 x4
          have hD1 := Below.refl W1.heap.size W1
          have hE1 := HB1.out
          have HC := con_text txt W1 hTx
          try dsimp only at HC
          rw [hc0] at HC
          try unfold NC.val at HC
          go_wp2_with fail
          refine HC.mono ?_; rintro e W2 ⟨rfl, hC⟩
          have hD2 := hD1.trans (hC.mono hD1.size)
          have hE2 := HB1.out.trans (hD2.mono (by rw [HS1.out]; omega))
          clear HC hC hD1 hE1 x0 x1 x2 x3 x4
          obtain ⟨x0, x1, x2, x3, x4⟩ := HBX.out.same (hD2.block w.heap.size (by rw [HS1.out]; omega))
          dsimp only at x0 x1 x2 x3 x4
          have HC := every_any (f := 58) (p := fun t => t.kinds.typ) (enters_of Try.func58 (by kernel_rfl) rfl) (HK.out.later hE2) HTL.out (fun t' h => istype_any t' (ht.kid h))
          try dsimp only at HC
          have hcv : _ = _ := ((all_map t.kids (·.typ)).symm.trans (by rw [HL.out]) : (t.kids.all fun t => t.kinds.typ) = L.all (·.typ))
          rw [hcv, hc1] at HC
          try unfold NC.val at HC
          go_wp2_with fail
          refine HC.mono ?_; rintro e W3 ⟨rfl, hC⟩
          have hD3 := hD2.trans (hC.mono hD2.size)
          have hE3 := HB1.out.trans (hD3.mono (by rw [HS1.out]; omega))
          clear HC hC hD2 hE2 x0 x1 x2 x3 x4 hcv
          obtain ⟨x0, x1, x2, x3, x4⟩ := HBX.out.same (hD3.block w.heap.size (by rw [HS1.out]; omega))
          dsimp only at x0 x1 x2 x3 x4
          go_wp2_with fail
          all_goals
            try rw [Exit.noGoto_ret]
            go_ret
            exact ⟨by rw [HR.out]; first | rfl | (refine congrArg (fun b => Ending.returned (Value.bool b)) (?_ : _ = _); simp <;> first | assumption | omega), hE3⟩
        | false =>
          have HR : Hid (t.kinds.con = false) := by show _ = _; rw [HQ.out]; simp [conK, HML.out, hc0, hc1]
          obtain ⟨x0, x1, x2, x3, x4⟩ := HBX.out
          dsimp only at x0 x1 x2 x3 x4
          have hD1 := Below.refl W1.heap.size W1
          have hE1 := HB1.out
          have HC := con_text txt W1 hTx
          try dsimp only at HC
          rw [hc0] at HC
          try unfold NC.val at HC
          go_wp2_with fail
          refine HC.mono ?_; rintro e W2 ⟨rfl, hC⟩
          have hD2 := hD1.trans (hC.mono hD1.size)
          have hE2 := HB1.out.trans (hD2.mono (by rw [HS1.out]; omega))
          clear HC hC hD1 hE1 x0 x1 x2 x3 x4
          obtain ⟨x0, x1, x2, x3, x4⟩ := HBX.out.same (hD2.block w.heap.size (by rw [HS1.out]; omega))
          dsimp only at x0 x1 x2 x3 x4
          have HC := every_any (f := 58) (p := fun t => t.kinds.typ) (enters_of Try.func58 (by kernel_rfl) rfl) (HK.out.later hE2) HTL.out (fun t' h => istype_any t' (ht.kid h))
          try dsimp only at HC
          have hcv : _ = _ := ((all_map t.kids (·.typ)).symm.trans (by rw [HL.out]) : (t.kids.all fun t => t.kinds.typ) = L.all (·.typ))
          rw [hcv, hc1] at HC
          try unfold NC.val at HC
          go_wp2_with fail
          refine HC.mono ?_; rintro e W3 ⟨rfl, hC⟩
          have hD3 := hD2.trans (hC.mono hD2.size)
          have hE3 := HB1.out.trans (hD3.mono (by rw [HS1.out]; omega))
          clear HC hC hD2 hE2 x0 x1 x2 x3 x4 hcv
          obtain ⟨x0, x1, x2, x3, x4⟩ := HBX.out.same (hD3.block w.heap.size (by rw [HS1.out]; omega))
          dsimp only at x0 x1 x2 x3 x4
          go_wp2_with fail
          all_goals
            try rw [Exit.noGoto_ret]
            go_ret
            exact ⟨by rw [HR.out]; first | rfl | (refine congrArg (fun b => Ending.returned (Value.bool b)) (?_ : _ = _); simp <;> first | assumption | omega), hE3⟩
      | false =>
        have HR : Hid (t.kinds.con = false) := by show _ = _; rw [HQ.out]; simp [conK, HML.out, hc0]
        obtain ⟨x0, x1, x2, x3, x4⟩ := HBX.out
        dsimp only at x0 x1 x2 x3 x4
        have hD1 := Below.refl W1.heap.size W1
        have hE1 := HB1.out
        have HC := con_text txt W1 hTx
        try dsimp only at HC
        rw [hc0] at HC
        try unfold NC.val at HC
        go_wp2_with fail
        refine HC.mono ?_; rintro e W2 ⟨rfl, hC⟩
        have hD2 := hD1.trans (hC.mono hD1.size)
        have hE2 := HB1.out.trans (hD2.mono (by rw [HS1.out]; omega))
        clear HC hC hD1 hE1 x0 x1 x2 x3 x4
        obtain ⟨x0, x1, x2, x3, x4⟩ := HBX.out.same (hD2.block w.heap.size (by rw [HS1.out]; omega))
        dsimp only at x0 x1 x2 x3 x4
        go_wp2_with fail
        all_goals
          try rw [Exit.noGoto_ret]
          go_ret
          exact ⟨by rw [HR.out]; first | rfl | (refine congrArg (fun b => Ending.returned (Value.bool b)) (?_ : _ = _); simp <;> first | assumption | omega), hE2⟩
    case neg =>
      have HR : Hid (t.kinds.con = false) := by show _ = _; rw [HQ.out]; simp [conK, HML.out, hn0_0]
      obtain ⟨x0, x1, x2, x3, x4⟩ := HBX.out
      dsimp only at x0 x1 x2 x3 x4
      have hD1 := Below.refl W1.heap.size W1
      have hE1 := HB1.out
      go_wp2_with fail
      all_goals
        try rw [Exit.noGoto_ret]
        go_ret
        exact ⟨by rw [HR.out]; first | rfl | (refine congrArg (fun b => Ending.returned (Value.bool b)) (?_ : _ = _); simp <;> first | assumption | omega), hE1⟩
  case neg =>
    have HR : Hid (t.kinds.con = false) := by show _ = _; rw [HQ.out]; simp [conK, HML.out, hk34_0]
    obtain ⟨x0, x1, x2, x3, x4⟩ := HBX.out
    dsimp only at x0 x1 x2 x3 x4
    have hD1 := Below.refl W1.heap.size W1
    have hE1 := HB1.out
    go_wp2_with fail
    all_goals
      try rw [Exit.noGoto_ret]
      go_ret
      exact ⟨by rw [HR.out]; first | rfl | (refine congrArg (fun b => Ending.returned (Value.bool b)) (?_ : _ = _); simp <;> first | assumption | omega), hE1⟩
end Go.Proofs.Ytlammclbnihopaa.N6
