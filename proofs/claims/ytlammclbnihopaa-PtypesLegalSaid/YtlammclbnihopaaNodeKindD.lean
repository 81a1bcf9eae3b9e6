/- Which trees are types, patterns, expressions, declarations: nodes' own answer. -/
import Derived.Test.YtlammclbnihopaaNodeKindC
namespace Go.Proofs.Ytlammclbnihopaa.N6
open Go.RowKit

namespace Nd
def low (t : Nd) : Bool := decide (t.depth ≤ 100)
def isTyp (t : Nd) : Bool := t.low && t.kinds.typ
def isPat (t : Nd) : Bool := t.low && t.kinds.pat
def isExp (t : Nd) : Bool := t.low && t.kinds.exp
def isDcl (t : Nd) : Bool := t.low && (if t.kind = 37 then decide (t.text = []) && (decide (t.num = 0) && (t.kids.map Nd.kinds).all (·.decl)) else t.kinds.decl)
end Nd
theorem shallow_low {c : NC} {t : Nd} {w : World} (h : TreeAt w c t) (ht : Nd.Fit t) : Calls Try.prog 55 #[c.val] w (SaysIs t.low w) := shallow_any h ht.size
set_option maxRecDepth 100000 in
set_option maxHeartbeats 4000000 in
theorem type_any (t : Nd) (ht : Nd.Fit t) : Is 30 Nd.isTyp t := by
  intro c w h
  obtain ⟨k, ps, n, txt, kp, kl, kc⟩ := c
  obtain ⟨L, hL⟩ : ∃ L, L = t.kids.map Nd.kinds := ⟨_, rfl⟩
  have HQ : Hid ((t.isTyp) = (t.low && t.kinds.typ)) := by
    show _ = _
    rfl
  have hTx : txt.length ≤ maxLen := by have := h.text; dsimp only at this; rw [this]; exact ht.text
  have HLN : Hid (kl = t.kids.length) := h.len
  have HML : Hid (L.length = kl) := by show _ = _; rw [hL, List.length_map, HLN.out]
  have hk6 : kl ≤ 1000000 := by rw [HLN.out]; exact ht.len
  have hkc : kl ≤ kc := h.fits
  have HTL : Hid (t.kids.length ≤ 1000000) := ht.len
  have HK := Lib.hid h.kids
  have HT := Lib.hid h
  have HNUM : Hid (n = t.num) := h.num
  have HTXT : Hid (txt = t.text) := h.text
  have HL := Lib.hid hL
  dsimp only at HK
  clear h hL
  unfold NC.val
  obtain ⟨W1, hW1⟩ : ∃ W1, W1 = w.alloc (.cells #[.int .i64 k, .int .i64 ps, .int .i64 n, .string ⟨txt.toArray⟩, .slice kp kl kc] 25) := ⟨_, rfl⟩
  have HBX : Hid (NBox W1 w.heap.size ⟨k, ps, n, txt, kp, kl, kc⟩) := by rw [hW1]; exact NBox.new w ⟨k, ps, n, txt, kp, kl, kc⟩ 25
  have HB1 : Hid (Below w.heap.size w W1) := by rw [hW1]; exact (Below.refl _ w).alloc (Nat.le_refl _) _
  have hs1 : W1.heap.size = w.heap.size + 1 := by rw [hW1]; simp
  have HS1 := Lib.hid hs1
  have HW1 := Lib.hid hW1
  clear hW1 hs1
  go_enter Try.func30, Try.ntmps30
  go_upto_region 1 with fail
  rw [← HW1.out]
  clear HW1
  cases hc0 : t.low with
  | true =>
    cases hc1 : t.kinds.typ with
    | true =>
      have HR : Hid ((t.isTyp) = true) := by show _ = _; rw [HQ.out]; simp [HML.out, hc0, hc1]
      have hD1 := Below.refl W1.heap.size W1
      have hE1 := HB1.out
      obtain ⟨x0, x1, x2, x3, x4⟩ := HBX.out
      dsimp only at x0 x1 x2 x3 x4
      have HC := shallow_low (c := ⟨k, ps, n, txt, kp, kl, kc⟩) (HT.out.later hE1) ht
      try dsimp only at HC
      rw [hc0] at HC
      try unfold NC.val at HC
      go_wp2_with fail
      refine HC.mono ?_; rintro e W2 ⟨rfl, hC⟩
      have hD2 := hD1.trans (hC.mono hD1.size)
      have hE2 := HB1.out.trans (hD2.mono (by rw [HS1.out]; omega))
      clear HC hC hD1 hE1 x0 x1 x2 x3 x4
      obtain ⟨x0, x1, x2, x3, x4⟩ := HBX.out.same (hD2.block w.heap.size (by rw [HS1.out]; omega))
      dsimp only at x0 x1 x2 x3 x4
      have HC := istype_any t ht ⟨k, ps, n, txt, kp, kl, kc⟩ W2 (HT.out.later hE2)
      try dsimp only at HC
      rw [hc1] at HC
      try unfold NC.val at HC
      go_wp2_with fail
      refine HC.mono ?_; rintro e W3 ⟨rfl, hC⟩
      have hD3 := hD2.trans (hC.mono hD2.size)
      have hE3 := HB1.out.trans (hD3.mono (by rw [HS1.out]; omega))
      clear HC hC hD2 hE2 x0 x1 x2 x3 x4
      obtain ⟨x0, x1, x2, x3, x4⟩ := HBX.out.same (hD3.block w.heap.size (by rw [HS1.out]; omega))
      dsimp only at x0 x1 x2 x3 x4
      go_wp2_with fail
      all_goals
        try rw [Exit.noGoto_ret]
        go_ret
        exact ⟨by rw [HR.out]; first | rfl | (refine congrArg (fun b => Ending.returned (Value.bool b)) (?_ : _ = _); simp <;> first | assumption | omega), hE3⟩
    | false =>
      have HR : Hid ((t.isTyp) = false) := by show _ = _; rw [HQ.out]; first | (simp [HML.out, hc0, hc1]; done) | (have hla := hc1; simp only [Bool.and_eq_false_iff, decide_eq_false_iff_not] at hla; rcases hla with h | h <;> simp [HML.out, hc0, hc1, h])
      have hD1 := Below.refl W1.heap.size W1
      have hE1 := HB1.out
      obtain ⟨x0, x1, x2, x3, x4⟩ := HBX.out
      dsimp only at x0 x1 x2 x3 x4
      have HC := shallow_low (c := ⟨k, ps, n, txt, kp, kl, kc⟩) (HT.out.later hE1) ht
      try dsimp only at HC
      rw [hc0] at HC
      try unfold NC.val at HC
      go_wp2_with fail
      refine HC.mono ?_; rintro e W2 ⟨rfl, hC⟩
      have hD2 := hD1.trans (hC.mono hD1.size)
      have hE2 := HB1.out.trans (hD2.mono (by rw [HS1.out]; omega))
      clear HC hC hD1 hE1 x0 x1 x2 x3 x4
      obtain ⟨x0, x1, x2, x3, x4⟩ := HBX.out.same (hD2.block w.heap.size (by rw [HS1.out]; omega))
      dsimp only at x0 x1 x2 x3 x4
      have HC := istype_any t ht ⟨k, ps, n, txt, kp, kl, kc⟩ W2 (HT.out.later hE2)
      try dsimp only at HC
      rw [hc1] at HC
      try unfold NC.val at HC
      go_wp2_with fail
      refine HC.mono ?_; rintro e W3 ⟨rfl, hC⟩
      have hD3 := hD2.trans (hC.mono hD2.size)
      have hE3 := HB1.out.trans (hD3.mono (by rw [HS1.out]; omega))
      clear HC hC hD2 hE2 x0 x1 x2 x3 x4
      obtain ⟨x0, x1, x2, x3, x4⟩ := HBX.out.same (hD3.block w.heap.size (by rw [HS1.out]; omega))
      dsimp only at x0 x1 x2 x3 x4
      go_wp2_with fail
      all_goals
        try rw [Exit.noGoto_ret]
        go_ret
        exact ⟨by rw [HR.out]; first | rfl | (refine congrArg (fun b => Ending.returned (Value.bool b)) (?_ : _ = _); simp <;> first | assumption | omega), hE3⟩
  | false =>
    have HR : Hid ((t.isTyp) = false) := by show _ = _; rw [HQ.out]; first | (simp [HML.out, hc0]; done) | (have hla := hc0; simp only [Bool.and_eq_false_iff, decide_eq_false_iff_not] at hla; rcases hla with h | h <;> simp [HML.out, hc0, h])
    have hD1 := Below.refl W1.heap.size W1
    have hE1 := HB1.out
    obtain ⟨x0, x1, x2, x3, x4⟩ := HBX.out
    dsimp only at x0 x1 x2 x3 x4
    have HC := shallow_low (c := ⟨k, ps, n, txt, kp, kl, kc⟩) (HT.out.later hE1) ht
    try dsimp only at HC
    rw [hc0] at HC
    try unfold NC.val at HC
    go_wp2_with fail
    refine HC.mono ?_; rintro e W2 ⟨rfl, hC⟩
    have hD2 := hD1.trans (hC.mono hD1.size)
    have hE2 := HB1.out.trans (hD2.mono (by rw [HS1.out]; omega))
    clear HC hC hD1 hE1 x0 x1 x2 x3 x4
    obtain ⟨x0, x1, x2, x3, x4⟩ := HBX.out.same (hD2.block w.heap.size (by rw [HS1.out]; omega))
    dsimp only at x0 x1 x2 x3 x4
    go_wp2_with fail
    all_goals
      try rw [Exit.noGoto_ret]
      go_ret
      exact ⟨by rw [HR.out]; first | rfl | (refine congrArg (fun b => Ending.returned (Value.bool b)) (?_ : _ = _); simp <;> first | assumption | omega), hE2⟩
set_option maxRecDepth 100000 in
set_option maxHeartbeats 4000000 in
theorem decl_any (t : Nd) (ht : Nd.Fit t) : Is 29 Nd.isDcl t := by
  intro c w h
  obtain ⟨k, ps, n, txt, kp, kl, kc⟩ := c
  obtain ⟨L, hL⟩ : ∃ L, L = t.kids.map Nd.kinds := ⟨_, rfl⟩
  have HQ : Hid ((t.isDcl) = (t.low && (if k = 37 then decide (txt = []) && (decide (n = 0) && L.all (·.decl)) else t.kinds.decl))) := by
    show _ = _
    unfold Nd.isDcl; rw [hL, ← h.kind, ← h.num, ← h.text]
  have hTx : txt.length ≤ maxLen := by have := h.text; dsimp only at this; rw [this]; exact ht.text
  have HLN : Hid (kl = t.kids.length) := h.len
  have HML : Hid (L.length = kl) := by show _ = _; rw [hL, List.length_map, HLN.out]
  have hk6 : kl ≤ 1000000 := by rw [HLN.out]; exact ht.len
  have hkc : kl ≤ kc := h.fits
  have HTL : Hid (t.kids.length ≤ 1000000) := ht.len
  have HK := Lib.hid h.kids
  have HT := Lib.hid h
  have HNUM : Hid (n = t.num) := h.num
  have HTXT : Hid (txt = t.text) := h.text
  have HL := Lib.hid hL
  dsimp only at HK
  clear h hL
  unfold NC.val
  obtain ⟨W1, hW1⟩ : ∃ W1, W1 = w.alloc (.cells #[.int .i64 k, .int .i64 ps, .int .i64 n, .string ⟨txt.toArray⟩, .slice kp kl kc] 25) := ⟨_, rfl⟩
  have HBX : Hid (NBox W1 w.heap.size ⟨k, ps, n, txt, kp, kl, kc⟩) := by rw [hW1]; exact NBox.new w ⟨k, ps, n, txt, kp, kl, kc⟩ 25
  have HB1 : Hid (Below w.heap.size w W1) := by rw [hW1]; exact (Below.refl _ w).alloc (Nat.le_refl _) _
  have hs1 : W1.heap.size = w.heap.size + 1 := by rw [hW1]; simp
  have HS1 := Lib.hid hs1
  have HW1 := Lib.hid hW1
  clear hW1 hs1
  go_enter Try.func29, Try.ntmps29
  go_upto_region 1 with fail
  rw [← HW1.out]
  clear HW1
  cases hc0 : t.low with
  | true =>
    by_cases hk37_1 : k = 37
    case pos =>
      subst hk37_1
      by_cases htxt0_1 : txt = []
      case pos =>
        subst htxt0_1
        by_cases hn0_1 : n = 0
        case pos =>
          subst hn0_1
          cases hc1 : L.all (·.decl) with
          | true =>
            have HR : Hid ((t.isDcl) = true) := by show _ = _; rw [HQ.out]; simp [HML.out, hc0, hc1]
            have hD1 := Below.refl W1.heap.size W1
            have hE1 := HB1.out
            obtain ⟨x0, x1, x2, x3, x4⟩ := HBX.out
            dsimp only at x0 x1 x2 x3 x4
            have HC := shallow_low (c := ⟨37, ps, 0, [], kp, kl, kc⟩) (HT.out.later hE1) ht
            try dsimp only at HC
            rw [hc0] at HC
            try unfold NC.val at HC
            go_wp2_with fail
            refine HC.mono ?_; rintro e W2 ⟨rfl, hC⟩
            have hD2 := hD1.trans (hC.mono hD1.size)
            have hE2 := HB1.out.trans (hD2.mono (by rw [HS1.out]; omega))
            clear HC hC hD1 hE1 x0 x1 x2 x3 x4
            obtain ⟨x0, x1, x2, x3, x4⟩ := HBX.out.same (hD2.block w.heap.size (by rw [HS1.out]; omega))
            dsimp only at x0 x1 x2 x3 x4
            have HC := every_any (f := 57) (p := fun t => t.kinds.decl) (enters_of Try.func57 (by kernel_rfl) rfl) (HK.out.later hE2) HTL.out (fun t' h => isdecl_any t' (ht.kid h))
            try dsimp only at HC
            have hcv : _ = _ := ((all_map t.kids (·.decl)).symm.trans (by rw [HL.out]) : (t.kids.all fun t => t.kinds.decl) = L.all (·.decl))
            rw [hcv, hc1] at HC
            try unfold NC.val at HC
            go_wp2_with fail
            refine HC.mono ?_; rintro e W3 ⟨rfl, hC⟩
            have hD3 := hD2.trans (hC.mono hD2.size)
            have hE3 := HB1.out.trans (hD3.mono (by rw [HS1.out]; omega))
            clear HC hC hD2 hE2 x0 x1 x2 x3 x4 hcv
            obtain ⟨x0, x1, x2, x3, x4⟩ := HBX.out.same (hD3.block w.heap.size (by rw [HS1.out]; omega))
            dsimp only at x0 x1 x2 x3 x4
            go_wp2_with fail
            all_goals
              try rw [Exit.noGoto_ret]
              go_ret
              exact ⟨by rw [HR.out]; first | rfl | (refine congrArg (fun b => Ending.returned (Value.bool b)) (?_ : _ = _); simp <;> first | assumption | omega), hE3⟩
          | false =>
            have HR : Hid ((t.isDcl) = false) := by show _ = _; rw [HQ.out]; first | (simp [HML.out, hc0, hc1]; done) | (have hla := hc1; simp only [Bool.and_eq_false_iff, decide_eq_false_iff_not] at hla; rcases hla with h | h <;> simp [HML.out, hc0, hc1, h])
            have hD1 := Below.refl W1.heap.size W1
            have hE1 := HB1.out
            obtain ⟨x0, x1, x2, x3, x4⟩ := HBX.out
            dsimp only at x0 x1 x2 x3 x4
            have HC := shallow_low (c := ⟨37, ps, 0, [], kp, kl, kc⟩) (HT.out.later hE1) ht
            try dsimp only at HC
            rw [hc0] at HC
            try unfold NC.val at HC
            go_wp2_with fail
            refine HC.mono ?_; rintro e W2 ⟨rfl, hC⟩
            have hD2 := hD1.trans (hC.mono hD1.size)
            have hE2 := HB1.out.trans (hD2.mono (by rw [HS1.out]; omega))
            clear HC hC hD1 hE1 x0 x1 x2 x3 x4
            obtain ⟨x0, x1, x2, x3, x4⟩ := HBX.out.same (hD2.block w.heap.size (by rw [HS1.out]; omega))
            dsimp only at x0 x1 x2 x3 x4
            have HC := every_any (f := 57) (p := fun t => t.kinds.decl) (enters_of Try.func57 (by kernel_rfl) rfl) (HK.out.later hE2) HTL.out (fun t' h => isdecl_any t' (ht.kid h))
            try dsimp only at HC
            have hcv : _ = _ := ((all_map t.kids (·.decl)).symm.trans (by rw [HL.out]) : (t.kids.all fun t => t.kinds.decl) = L.all (·.decl))
            rw [hcv, hc1] at HC
            try unfold NC.val at HC
            go_wp2_with fail
            refine HC.mono ?_; rintro e W3 ⟨rfl, hC⟩
            have hD3 := hD2.trans (hC.mono hD2.size)
            have hE3 := HB1.out.trans (hD3.mono (by rw [HS1.out]; omega))
            clear HC hC hD2 hE2 x0 x1 x2 x3 x4 hcv
            obtain ⟨x0, x1, x2, x3, x4⟩ := HBX.out.same (hD3.block w.heap.size (by rw [HS1.out]; omega))
            dsimp only at x0 x1 x2 x3 x4
            go_wp2_with fail
            all_goals
              try rw [Exit.noGoto_ret]
              go_ret
              exact ⟨by rw [HR.out]; first | rfl | (refine congrArg (fun b => Ending.returned (Value.bool b)) (?_ : _ = _); simp <;> first | assumption | omega), hE3⟩
        case neg =>
          have HR : Hid ((t.isDcl) = false) := by show _ = _; rw [HQ.out]; simp [HML.out, hc0, hn0_1]
          have hD1 := Below.refl W1.heap.size W1
          have hE1 := HB1.out
          obtain ⟨x0, x1, x2, x3, x4⟩ := HBX.out
          dsimp only at x0 x1 x2 x3 x4
          have HC := shallow_low (c := ⟨37, ps, n, [], kp, kl, kc⟩) (HT.out.later hE1) ht
          try dsimp only at HC
          rw [hc0] at HC
          try unfold NC.val at HC
          go_wp2_with fail
          refine HC.mono ?_; rintro e W2 ⟨rfl, hC⟩
          have hD2 := hD1.trans (hC.mono hD1.size)
          have hE2 := HB1.out.trans (hD2.mono (by rw [HS1.out]; omega))
          clear HC hC hD1 hE1 x0 x1 x2 x3 x4
          obtain ⟨x0, x1, x2, x3, x4⟩ := HBX.out.same (hD2.block w.heap.size (by rw [HS1.out]; omega))
          dsimp only at x0 x1 x2 x3 x4
          go_wp2_with fail
          all_goals
            try rw [Exit.noGoto_ret]
            go_ret
            exact ⟨by rw [HR.out]; first | rfl | (refine congrArg (fun b => Ending.returned (Value.bool b)) (?_ : _ = _); simp <;> first | assumption | omega), hE2⟩
      case neg =>
        have HR : Hid ((t.isDcl) = false) := by show _ = _; rw [HQ.out]; simp [HML.out, hc0, htxt0_1]
        have hD1 := Below.refl W1.heap.size W1
        have hE1 := HB1.out
        obtain ⟨x0, x1, x2, x3, x4⟩ := HBX.out
        dsimp only at x0 x1 x2 x3 x4
        have HC := shallow_low (c := ⟨37, ps, n, txt, kp, kl, kc⟩) (HT.out.later hE1) ht
        try dsimp only at HC
        rw [hc0] at HC
        try unfold NC.val at HC
        go_wp2_with fail
        refine HC.mono ?_; rintro e W2 ⟨rfl, hC⟩
        have hD2 := hD1.trans (hC.mono hD1.size)
        have hE2 := HB1.out.trans (hD2.mono (by rw [HS1.out]; omega))
        clear HC hC hD1 hE1 x0 x1 x2 x3 x4
        obtain ⟨x0, x1, x2, x3, x4⟩ := HBX.out.same (hD2.block w.heap.size (by rw [HS1.out]; omega))
        dsimp only at x0 x1 x2 x3 x4
        go_wp2_with fail
        all_goals
          try rw [Exit.noGoto_ret]
          go_ret
          exact ⟨by rw [HR.out]; first | rfl | (refine congrArg (fun b => Ending.returned (Value.bool b)) (?_ : _ = _); simp <;> first | assumption | omega), hE2⟩
    case neg =>
      cases hc2 : t.kinds.decl with
      | true =>
        have HR : Hid ((t.isDcl) = true) := by show _ = _; rw [HQ.out]; simp [HML.out, hc0, hk37_1, hc2]
        have hD1 := Below.refl W1.heap.size W1
        have hE1 := HB1.out
        obtain ⟨x0, x1, x2, x3, x4⟩ := HBX.out
        dsimp only at x0 x1 x2 x3 x4
        have HC := shallow_low (c := ⟨k, ps, n, txt, kp, kl, kc⟩) (HT.out.later hE1) ht
        try dsimp only at HC
        rw [hc0] at HC
        try unfold NC.val at HC
        go_wp2_with fail
        refine HC.mono ?_; rintro e W2 ⟨rfl, hC⟩
        have hD2 := hD1.trans (hC.mono hD1.size)
        have hE2 := HB1.out.trans (hD2.mono (by rw [HS1.out]; omega))
        clear HC hC hD1 hE1 x0 x1 x2 x3 x4
        obtain ⟨x0, x1, x2, x3, x4⟩ := HBX.out.same (hD2.block w.heap.size (by rw [HS1.out]; omega))
        dsimp only at x0 x1 x2 x3 x4
        have HC := isdecl_any t ht ⟨k, ps, n, txt, kp, kl, kc⟩ W2 (HT.out.later hE2)
        try dsimp only at HC
        rw [hc2] at HC
        try unfold NC.val at HC
        go_wp2_with fail
        refine HC.mono ?_; rintro e W3 ⟨rfl, hC⟩
        have hD3 := hD2.trans (hC.mono hD2.size)
        have hE3 := HB1.out.trans (hD3.mono (by rw [HS1.out]; omega))
        clear HC hC hD2 hE2 x0 x1 x2 x3 x4
        obtain ⟨x0, x1, x2, x3, x4⟩ := HBX.out.same (hD3.block w.heap.size (by rw [HS1.out]; omega))
        dsimp only at x0 x1 x2 x3 x4
        go_wp2_with fail
        all_goals
          try rw [Exit.noGoto_ret]
          go_ret
          exact ⟨by rw [HR.out]; first | rfl | (refine congrArg (fun b => Ending.returned (Value.bool b)) (?_ : _ = _); simp <;> first | assumption | omega), hE3⟩
      | false =>
        have HR : Hid ((t.isDcl) = false) := by show _ = _; rw [HQ.out]; first | (simp [HML.out, hc0, hk37_1, hc2]; done) | (have hla := hc2; simp only [Bool.and_eq_false_iff, decide_eq_false_iff_not] at hla; rcases hla with h | h <;> simp [HML.out, hc0, hk37_1, hc2, h])
        have hD1 := Below.refl W1.heap.size W1
        have hE1 := HB1.out
        obtain ⟨x0, x1, x2, x3, x4⟩ := HBX.out
        dsimp only at x0 x1 x2 x3 x4
        have HC := shallow_low (c := ⟨k, ps, n, txt, kp, kl, kc⟩) (HT.out.later hE1) ht
        try dsimp only at HC
        rw [hc0] at HC
        try unfold NC.val at HC
        go_wp2_with fail
        refine HC.mono ?_; rintro e W2 ⟨rfl, hC⟩
        have hD2 := hD1.trans (hC.mono hD1.size)
        have hE2 := HB1.out.trans (hD2.mono (by rw [HS1.out]; omega))
        clear HC hC hD1 hE1 x0 x1 x2 x3 x4
        obtain ⟨x0, x1, x2, x3, x4⟩ := HBX.out.same (hD2.block w.heap.size (by rw [HS1.out]; omega))
        dsimp only at x0 x1 x2 x3 x4
        have HC := isdecl_any t ht ⟨k, ps, n, txt, kp, kl, kc⟩ W2 (HT.out.later hE2)
        try dsimp only at HC
        rw [hc2] at HC
        try unfold NC.val at HC
        go_wp2_with fail
        refine HC.mono ?_; rintro e W3 ⟨rfl, hC⟩
        have hD3 := hD2.trans (hC.mono hD2.size)
        have hE3 := HB1.out.trans (hD3.mono (by rw [HS1.out]; omega))
        clear HC hC hD2 hE2 x0 x1 x2 x3 x4
        obtain ⟨x0, x1, x2, x3, x4⟩ := HBX.out.same (hD3.block w.heap.size (by rw [HS1.out]; omega))
        dsimp only at x0 x1 x2 x3 x4
        go_wp2_with fail
        all_goals
          try rw [Exit.noGoto_ret]
          go_ret
          exact ⟨by rw [HR.out]; first | rfl | (refine congrArg (fun b => Ending.returned (Value.bool b)) (?_ : _ = _); simp <;> first | assumption | omega), hE3⟩
  | false =>
    have HR : Hid ((t.isDcl) = false) := by show _ = _; rw [HQ.out]; first | (simp [HML.out, hc0]; done) | (have hla := hc0; simp only [Bool.and_eq_false_iff, decide_eq_false_iff_not] at hla; rcases hla with h | h <;> simp [HML.out, hc0, h])
    have hD1 := Below.refl W1.heap.size W1
    have hE1 := HB1.out
    obtain ⟨x0, x1, x2, x3, x4⟩ := HBX.out
    dsimp only at x0 x1 x2 x3 x4
    have HC := shallow_low (c := ⟨k, ps, n, txt, kp, kl, kc⟩) (HT.out.later hE1) ht
    try dsimp only at HC
    rw [hc0] at HC
    try unfold NC.val at HC
    go_wp2_with fail
    refine HC.mono ?_; rintro e W2 ⟨rfl, hC⟩
    have hD2 := hD1.trans (hC.mono hD1.size)
    have hE2 := HB1.out.trans (hD2.mono (by rw [HS1.out]; omega))
    clear HC hC hD1 hE1 x0 x1 x2 x3 x4
    obtain ⟨x0, x1, x2, x3, x4⟩ := HBX.out.same (hD2.block w.heap.size (by rw [HS1.out]; omega))
    dsimp only at x0 x1 x2 x3 x4
    go_wp2_with fail
    all_goals
      try rw [Exit.noGoto_ret]
      go_ret
      exact ⟨by rw [HR.out]; first | rfl | (refine congrArg (fun b => Ending.returned (Value.bool b)) (?_ : _ = _); simp <;> first | assumption | omega), hE2⟩
end Go.Proofs.Ytlammclbnihopaa.N6
