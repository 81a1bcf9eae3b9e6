/- What kind a tree is: nodes' own functions for declarations. -/
import Derived.Test.YtlammclbnihopaaNodeKindB
namespace Go.Proofs.Ytlammclbnihopaa.N6
open Go.RowKit

theorem headK_neg {n : Int} {t : List UInt8} {l : List Kinds} {p : Kinds → Bool} (h : ¬ 0 ≤ n) : headK n t l p = false := by simp [headK, h]
set_option maxRecDepth 100000 in
set_option maxHeartbeats 4000000 in
theorem headed_any (t : Nd) (ht : Nd.Fit t) {f : Nat} {P : Kinds → Bool} (eg : ∀ args w, (callFunc f args).run Try.prog w = .ok (.enter f args) w) (hall : ∀ t' ∈ t.kids, Is f (fun t => P t.kinds) t') : ∀ (c : NC) (w : World), TreeAt w c t → Calls Try.prog 82 #[c.val, .func (.func f) #[] #[]] w (SaysIs (headK t.num t.text (t.kids.map Nd.kinds) P) w) := by
  intro c w h
  obtain ⟨k, ps, n, txt, kp, kl, kc⟩ := c
  obtain ⟨L, hL⟩ : ∃ L, L = t.kids.map Nd.kinds := ⟨_, rfl⟩
  have HQ : Hid ((headK t.num t.text (t.kids.map Nd.kinds) P) = (headK n txt L P)) := by
    show _ = _
    rw [hL, ← h.num, ← h.text]
  have hTx : txt.length ≤ maxLen := by have := h.text; dsimp only at this; rw [this]; exact ht.text
  have HLN : Hid (kl = t.kids.length) := h.len
  have HML : Hid (L.length = kl) := by show _ = _; rw [hL, List.length_map, HLN.out]
  have hk6 : kl ≤ 1000000 := by rw [HLN.out]; exact ht.len
  have hkc : kl ≤ kc := h.fits
  have HTL : Hid (t.kids.length ≤ 1000000) := ht.len
  have HK := Lib.hid h.kids
  have HT := Lib.hid h
  have HNUM : Hid (n = t.num) := h.num
  have HTXT : Hid (txt = t.text) := h.text
  have HL := Lib.hid hL
  dsimp only at HK
  clear h hL
  unfold NC.val
  obtain ⟨W1, hW1⟩ : ∃ W1, W1 = w.alloc (.cells #[.int .i64 k, .int .i64 ps, .int .i64 n, .string ⟨txt.toArray⟩, .slice kp kl kc] 25) := ⟨_, rfl⟩
  have HBX : Hid (NBox W1 w.heap.size ⟨k, ps, n, txt, kp, kl, kc⟩) := by rw [hW1]; exact NBox.new w ⟨k, ps, n, txt, kp, kl, kc⟩ 25
  have HB1 : Hid (Below w.heap.size w W1) := by rw [hW1]; exact (Below.refl _ w).alloc (Nat.le_refl _) _
  have hs1 : W1.heap.size = w.heap.size + 1 := by rw [hW1]; simp
  have HS1 := Lib.hid hs1
  have HW1 := Lib.hid hW1
  clear hW1 hs1
  go_enter Try.func82, Try.ntmps82
  go_upto_region 1 with fail
  rw [← HW1.out]
  clear HW1
  by_cases hng_0 : 0 ≤ n
  case neg =>
    cases hc1 : conB txt with
    | true =>
      have HR : Hid ((headK t.num t.text (t.kids.map Nd.kinds) P) = false) := by show _ = _; rw [HQ.out]; simp [headK, HML.out, hng_0, hc1]
      obtain ⟨x0, x1, x2, x3, x4⟩ := HBX.out
      dsimp only at x0 x1 x2 x3 x4
      have hD1 := Below.refl W1.heap.size W1
      have hE1 := HB1.out
      have HC := con_text txt W1 hTx
      try dsimp only at HC
      rw [hc1] at HC
      try unfold NC.val at HC
      go_wp2_with fail
      refine HC.mono ?_; rintro e W2 ⟨rfl, hC⟩
      have hD2 := hD1.trans (hC.mono hD1.size)
      have hE2 := HB1.out.trans (hD2.mono (by rw [HS1.out]; omega))
      clear HC hC hD1 hE1 x0 x1 x2 x3 x4
      obtain ⟨x0, x1, x2, x3, x4⟩ := HBX.out.same (hD2.block w.heap.size (by rw [HS1.out]; omega))
      dsimp only at x0 x1 x2 x3 x4
      go_wp2_with fail
      all_goals
        try rw [Exit.noGoto_ret]
        go_ret
        exact ⟨by rw [HR.out]; first | rfl | (refine congrArg (fun b => Ending.returned (Value.bool b)) (?_ : _ = _); simp <;> first | assumption | omega), hE2⟩
    | false =>
      have HR : Hid ((headK t.num t.text (t.kids.map Nd.kinds) P) = false) := by show _ = _; rw [HQ.out]; simp [headK, HML.out, hng_0, hc1]
      obtain ⟨x0, x1, x2, x3, x4⟩ := HBX.out
      dsimp only at x0 x1 x2 x3 x4
      have hD1 := Below.refl W1.heap.size W1
      have hE1 := HB1.out
      have HC := con_text txt W1 hTx
      try dsimp only at HC
      rw [hc1] at HC
      try unfold NC.val at HC
      go_wp2_with fail
      refine HC.mono ?_; rintro e W2 ⟨rfl, hC⟩
      have hD2 := hD1.trans (hC.mono hD1.size)
      have hE2 := HB1.out.trans (hD2.mono (by rw [HS1.out]; omega))
      clear HC hC hD1 hE1 x0 x1 x2 x3 x4
      obtain ⟨x0, x1, x2, x3, x4⟩ := HBX.out.same (hD2.block w.heap.size (by rw [HS1.out]; omega))
      dsimp only at x0 x1 x2 x3 x4
      go_wp2_with fail
      all_goals
        try rw [Exit.noGoto_ret]
        go_ret
        exact ⟨by rw [HR.out]; first | rfl | (refine congrArg (fun b => Ending.returned (Value.bool b)) (?_ : _ = _); simp <;> first | assumption | omega), hE2⟩
  case pos =>
    obtain ⟨m, rfl⟩ : ∃ m : Nat, n = m := ⟨n.toNat, by omega⟩
    clear hng_0
    cases hc0 : conB txt with
    | true =>
      by_cases hmle_1 : m ≤ kl
      case pos =>
        have hmle_1' : (m : Int) ≤ (kl : Int) := by omega
        obtain ⟨vs, hvs, -, es, -⟩ := HK.out.slice 0 m (Nat.zero_le _) (by rw [← HLN.out]; omega)
        replace es := es rfl
        rw [List.drop_zero] at hvs
        have HVS := Lib.hid hvs
        clear hvs
        cases hc2 : (L.take m).all P with
        | true =>
          have HR : Hid ((headK t.num t.text (t.kids.map Nd.kinds) P) = true) := by show _ = _; rw [HQ.out]; simp [headK, HML.out, hc0, hmle_1, hc2]
          obtain ⟨x0, x1, x2, x3, x4⟩ := HBX.out
          dsimp only at x0 x1 x2 x3 x4
          have hD1 := Below.refl W1.heap.size W1
          have hE1 := HB1.out
          have HC := con_text txt W1 hTx
          try dsimp only at HC
          rw [hc0] at HC
          try unfold NC.val at HC
          go_wp2_with fail
          refine HC.mono ?_; rintro e W2 ⟨rfl, hC⟩
          have hD2 := hD1.trans (hC.mono hD1.size)
          have hE2 := HB1.out.trans (hD2.mono (by rw [HS1.out]; omega))
          clear HC hC hD1 hE1 x0 x1 x2 x3 x4
          obtain ⟨x0, x1, x2, x3, x4⟩ := HBX.out.same (hD2.block w.heap.size (by rw [HS1.out]; omega))
          dsimp only at x0 x1 x2 x3 x4
          have HC := every_any (f := f) (p := fun t => P t.kinds) eg (HVS.out.later hE2) (by rw [List.length_take]; have := HTL.out; omega) (fun t' h => hall t' (List.mem_of_mem_take h))
          try dsimp only at HC
          have hcv : _ = _ := ((all_take_map t.kids m P).symm.trans (by rw [HL.out]) : ((t.kids.take m).all fun t => P t.kinds) = (L.take m).all P)
          rw [hcv, hc2] at HC
          try unfold NC.val at HC
          go_wp2_with fail
          refine HC.mono ?_; rintro e W3 ⟨rfl, hC⟩
          have hD3 := hD2.trans (hC.mono hD2.size)
          have hE3 := HB1.out.trans (hD3.mono (by rw [HS1.out]; omega))
          clear HC hC hD2 hE2 x0 x1 x2 x3 x4 hcv
          obtain ⟨x0, x1, x2, x3, x4⟩ := HBX.out.same (hD3.block w.heap.size (by rw [HS1.out]; omega))
          dsimp only at x0 x1 x2 x3 x4
          go_wp2_with fail
          all_goals
            try rw [Exit.noGoto_ret]
            go_ret
            exact ⟨by rw [HR.out]; first | rfl | (refine congrArg (fun b => Ending.returned (Value.bool b)) (?_ : _ = _); simp <;> first | assumption | omega), hE3⟩
        | false =>
          have HR : Hid ((headK t.num t.text (t.kids.map Nd.kinds) P) = false) := by show _ = _; rw [HQ.out]; simp [headK, HML.out, hc0, hmle_1, hc2]
          obtain ⟨x0, x1, x2, x3, x4⟩ := HBX.out
          dsimp only at x0 x1 x2 x3 x4
          have hD1 := Below.refl W1.heap.size W1
          have hE1 := HB1.out
          have HC := con_text txt W1 hTx
          try dsimp only at HC
          rw [hc0] at HC
          try unfold NC.val at HC
          go_wp2_with fail
          refine HC.mono ?_; rintro e W2 ⟨rfl, hC⟩
          have hD2 := hD1.trans (hC.mono hD1.size)
          have hE2 := HB1.out.trans (hD2.mono (by rw [HS1.out]; omega))
          clear HC hC hD1 hE1 x0 x1 x2 x3 x4
          obtain ⟨x0, x1, x2, x3, x4⟩ := HBX.out.same (hD2.block w.heap.size (by rw [HS1.out]; omega))
          dsimp only at x0 x1 x2 x3 x4
          have HC := every_any (f := f) (p := fun t => P t.kinds) eg (HVS.out.later hE2) (by rw [List.length_take]; have := HTL.out; omega) (fun t' h => hall t' (List.mem_of_mem_take h))
          try dsimp only at HC
          have hcv : _ = _ := ((all_take_map t.kids m P).symm.trans (by rw [HL.out]) : ((t.kids.take m).all fun t => P t.kinds) = (L.take m).all P)
          rw [hcv, hc2] at HC
          try unfold NC.val at HC
          go_wp2_with fail
          refine HC.mono ?_; rintro e W3 ⟨rfl, hC⟩
          have hD3 := hD2.trans (hC.mono hD2.size)
          have hE3 := HB1.out.trans (hD3.mono (by rw [HS1.out]; omega))
          clear HC hC hD2 hE2 x0 x1 x2 x3 x4 hcv
          obtain ⟨x0, x1, x2, x3, x4⟩ := HBX.out.same (hD3.block w.heap.size (by rw [HS1.out]; omega))
          dsimp only at x0 x1 x2 x3 x4
          go_wp2_with fail
          all_goals
            try rw [Exit.noGoto_ret]
            go_ret
            exact ⟨by rw [HR.out]; first | rfl | (refine congrArg (fun b => Ending.returned (Value.bool b)) (?_ : _ = _); simp <;> first | assumption | omega), hE3⟩
      case neg =>
        have hmle_1' : ¬ (m : Int) ≤ (kl : Int) := by omega
        have HR : Hid ((headK t.num t.text (t.kids.map Nd.kinds) P) = false) := by show _ = _; rw [HQ.out]; simp [headK, HML.out, hc0, hmle_1]
        obtain ⟨x0, x1, x2, x3, x4⟩ := HBX.out
        dsimp only at x0 x1 x2 x3 x4
        have hD1 := Below.refl W1.heap.size W1
        have hE1 := HB1.out
        have HC := con_text txt W1 hTx
        try dsimp only at HC
        rw [hc0] at HC
        try unfold NC.val at HC
        go_wp2_with fail
        refine HC.mono ?_; rintro e W2 ⟨rfl, hC⟩
        have hD2 := hD1.trans (hC.mono hD1.size)
        have hE2 := HB1.out.trans (hD2.mono (by rw [HS1.out]; omega))
        clear HC hC hD1 hE1 x0 x1 x2 x3 x4
        obtain ⟨x0, x1, x2, x3, x4⟩ := HBX.out.same (hD2.block w.heap.size (by rw [HS1.out]; omega))
        dsimp only at x0 x1 x2 x3 x4
        go_wp2_with fail
        all_goals
          try rw [Exit.noGoto_ret]
          go_ret
          exact ⟨by rw [HR.out]; first | rfl | (refine congrArg (fun b => Ending.returned (Value.bool b)) (?_ : _ = _); simp <;> first | assumption | omega), hE2⟩
    | false =>
      have HR : Hid ((headK t.num t.text (t.kids.map Nd.kinds) P) = false) := by show _ = _; rw [HQ.out]; simp [headK, HML.out, hc0]
      obtain ⟨x0, x1, x2, x3, x4⟩ := HBX.out
      dsimp only at x0 x1 x2 x3 x4
      have hD1 := Below.refl W1.heap.size W1
      have hE1 := HB1.out
      have HC := con_text txt W1 hTx
      try dsimp only at HC
      rw [hc0] at HC
      try unfold NC.val at HC
      go_wp2_with fail
      refine HC.mono ?_; rintro e W2 ⟨rfl, hC⟩
      have hD2 := hD1.trans (hC.mono hD1.size)
      have hE2 := HB1.out.trans (hD2.mono (by rw [HS1.out]; omega))
      clear HC hC hD1 hE1 x0 x1 x2 x3 x4
      obtain ⟨x0, x1, x2, x3, x4⟩ := HBX.out.same (hD2.block w.heap.size (by rw [HS1.out]; omega))
      dsimp only at x0 x1 x2 x3 x4
      go_wp2_with fail
      all_goals
        try rw [Exit.noGoto_ret]
        go_ret
        exact ⟨by rw [HR.out]; first | rfl | (refine congrArg (fun b => Ending.returned (Value.bool b)) (?_ : _ = _); simp <;> first | assumption | omega), hE2⟩
set_option maxRecDepth 100000 in
set_option maxHeartbeats 4000000 in
theorem isdecl_any (t : Nd) (ht : Nd.Fit t) : Is 57 (fun t => t.kinds.decl) t := by
  intro c w h
  obtain ⟨k, ps, n, txt, kp, kl, kc⟩ := c
  obtain ⟨L, hL⟩ : ∃ L, L = t.kids.map Nd.kinds := ⟨_, rfl⟩
  have HQ : Hid (t.kinds.decl = (if k = 31 ∨ k = 32 then t.kinds.bind || t.kinds.sig
    else if k = 33 then headK n txt L (·.tvar) && (decide (n < L.length) && (L.drop n.toNat).all (·.con))
    else if k = 35 then headK n txt L (·.pred) && (decide (n < L.length) && (atK L n.toNat (·.tvar) && (L.drop (n.toNat + 1)).all (·.sig)))
    else if k = 36 then headK n txt L (·.pred) && (decide (n < L.length) && (atK L n.toNat (·.typ) && (L.drop (n.toNat + 1)).all (·.bind)))
    else false)) := by
    show _ = _
    try rw [hL]
    rw [Nd.kinds_eq, ← h.kind, ← h.num, ← h.text]; rfl
  have hTx : txt.length ≤ maxLen := by have := h.text; dsimp only at this; rw [this]; exact ht.text
  have HLN : Hid (kl = t.kids.length) := h.len
  have HML : Hid (L.length = kl) := by show _ = _; rw [hL, List.length_map, HLN.out]
  have hk6 : kl ≤ 1000000 := by rw [HLN.out]; exact ht.len
  have hkc : kl ≤ kc := h.fits
  have HTL : Hid (t.kids.length ≤ 1000000) := ht.len
  have HK := Lib.hid h.kids
  have HT := Lib.hid h
  have HNUM : Hid (n = t.num) := h.num
  have HTXT : Hid (txt = t.text) := h.text
  have HL := Lib.hid hL
  dsimp only at HK
  clear h hL
  unfold NC.val
  obtain ⟨W1, hW1⟩ : ∃ W1, W1 = w.alloc (.cells #[.int .i64 k, .int .i64 ps, .int .i64 n, .string ⟨txt.toArray⟩, .slice kp kl kc] 25) := ⟨_, rfl⟩
  have HBX : Hid (NBox W1 w.heap.size ⟨k, ps, n, txt, kp, kl, kc⟩) := by rw [hW1]; exact NBox.new w ⟨k, ps, n, txt, kp, kl, kc⟩ 25
  have HB1 : Hid (Below w.heap.size w W1) := by rw [hW1]; exact (Below.refl _ w).alloc (Nat.le_refl _) _
  have hs1 : W1.heap.size = w.heap.size + 1 := by rw [hW1]; simp
  have HS1 := Lib.hid hs1
  have HW1 := Lib.hid hW1
  clear hW1 hs1
  go_enter Try.func57, Try.ntmps57
  go_upto_region 1 with fail
  rw [← HW1.out]
  clear HW1
  by_cases hk31_0 : k = 31
  case pos =>
    subst hk31_0
    cases hc0 : (t.kinds.bind || t.kinds.sig) with
    | true =>
      have HR : Hid (t.kinds.decl = true) := by show _ = _; rw [HQ.out]; simp [headK_neg, HML.out, hc0]
      obtain ⟨x0, x1, x2, x3, x4⟩ := HBX.out
      dsimp only at x0 x1 x2 x3 x4
      have hD1 := Below.refl W1.heap.size W1
      have hE1 := HB1.out
      have HC := isbos_any t ht ⟨31, ps, n, txt, kp, kl, kc⟩ W1 (HT.out.later hE1)
      try dsimp only at HC
      rw [hc0] at HC
      try unfold NC.val at HC
      go_wp2_with fail
      refine HC.mono ?_; rintro e W2 ⟨rfl, hC⟩
      have hD2 := hD1.trans (hC.mono hD1.size)
      have hE2 := HB1.out.trans (hD2.mono (by rw [HS1.out]; omega))
      clear HC hC hD1 hE1 x0 x1 x2 x3 x4
      obtain ⟨x0, x1, x2, x3, x4⟩ := HBX.out.same (hD2.block w.heap.size (by rw [HS1.out]; omega))
      dsimp only at x0 x1 x2 x3 x4
      go_wp2_with fail
      all_goals
        try rw [Exit.noGoto_ret]
        go_ret
        exact ⟨by rw [HR.out]; first | rfl | (refine congrArg (fun b => Ending.returned (Value.bool b)) (?_ : _ = _); simp <;> first | assumption | omega), hE2⟩
    | false =>
      have HR : Hid (t.kinds.decl = false) := by show _ = _; rw [HQ.out]; simp [headK_neg, HML.out, hc0]
      obtain ⟨x0, x1, x2, x3, x4⟩ := HBX.out
      dsimp only at x0 x1 x2 x3 x4
      have hD1 := Below.refl W1.heap.size W1
      have hE1 := HB1.out
      have HC := isbos_any t ht ⟨31, ps, n, txt, kp, kl, kc⟩ W1 (HT.out.later hE1)
      try dsimp only at HC
      rw [hc0] at HC
      try unfold NC.val at HC
      go_wp2_with fail
      refine HC.mono ?_; rintro e W2 ⟨rfl, hC⟩
      have hD2 := hD1.trans (hC.mono hD1.size)
      have hE2 := HB1.out.trans (hD2.mono (by rw [HS1.out]; omega))
      clear HC hC hD1 hE1 x0 x1 x2 x3 x4
      obtain ⟨x0, x1, x2, x3, x4⟩ := HBX.out.same (hD2.block w.heap.size (by rw [HS1.out]; omega))
      dsimp only at x0 x1 x2 x3 x4
      go_wp2_with fail
      all_goals
        try rw [Exit.noGoto_ret]
        go_ret
        exact ⟨by rw [HR.out]; first | rfl | (refine congrArg (fun b => Ending.returned (Value.bool b)) (?_ : _ = _); simp <;> first | assumption | omega), hE2⟩
  case neg =>
    by_cases hk32_1 : k = 32
    case pos =>
      subst hk32_1
      cases hc1 : (t.kinds.bind || t.kinds.sig) with
      | true =>
        have HR : Hid (t.kinds.decl = true) := by show _ = _; rw [HQ.out]; simp [headK_neg, HML.out, hk31_0, hc1]
        obtain ⟨x0, x1, x2, x3, x4⟩ := HBX.out
        dsimp only at x0 x1 x2 x3 x4
        have hD1 := Below.refl W1.heap.size W1
        have hE1 := HB1.out
        have HC := isbos_any t ht ⟨32, ps, n, txt, kp, kl, kc⟩ W1 (HT.out.later hE1)
        try dsimp only at HC
        rw [hc1] at HC
        try unfold NC.val at HC
        go_wp2_with fail
        refine HC.mono ?_; rintro e W2 ⟨rfl, hC⟩
        have hD2 := hD1.trans (hC.mono hD1.size)
        have hE2 := HB1.out.trans (hD2.mono (by rw [HS1.out]; omega))
        clear HC hC hD1 hE1 x0 x1 x2 x3 x4
        obtain ⟨x0, x1, x2, x3, x4⟩ := HBX.out.same (hD2.block w.heap.size (by rw [HS1.out]; omega))
        dsimp only at x0 x1 x2 x3 x4
        go_wp2_with fail
        all_goals
          try rw [Exit.noGoto_ret]
          go_ret
          exact ⟨by rw [HR.out]; first | rfl | (refine congrArg (fun b => Ending.returned (Value.bool b)) (?_ : _ = _); simp <;> first | assumption | omega), hE2⟩
      | false =>
        have HR : Hid (t.kinds.decl = false) := by show _ = _; rw [HQ.out]; simp [headK_neg, HML.out, hk31_0, hc1]
        obtain ⟨x0, x1, x2, x3, x4⟩ := HBX.out
        dsimp only at x0 x1 x2 x3 x4
        have hD1 := Below.refl W1.heap.size W1
        have hE1 := HB1.out
        have HC := isbos_any t ht ⟨32, ps, n, txt, kp, kl, kc⟩ W1 (HT.out.later hE1)
        try dsimp only at HC
        rw [hc1] at HC
        try unfold NC.val at HC
        go_wp2_with fail
        refine HC.mono ?_; rintro e W2 ⟨rfl, hC⟩
        have hD2 := hD1.trans (hC.mono hD1.size)
        have hE2 := HB1.out.trans (hD2.mono (by rw [HS1.out]; omega))
        clear HC hC hD1 hE1 x0 x1 x2 x3 x4
        obtain ⟨x0, x1, x2, x3, x4⟩ := HBX.out.same (hD2.block w.heap.size (by rw [HS1.out]; omega))
        dsimp only at x0 x1 x2 x3 x4
        go_wp2_with fail
        all_goals
          try rw [Exit.noGoto_ret]
          go_ret
          exact ⟨by rw [HR.out]; first | rfl | (refine congrArg (fun b => Ending.returned (Value.bool b)) (?_ : _ = _); simp <;> first | assumption | omega), hE2⟩
    case neg =>
      by_cases hk33_2 : k = 33
      case pos =>
        subst hk33_2
        by_cases hng_2 : 0 ≤ n
        case neg =>
          have HR : Hid (t.kinds.decl = false) := by show _ = _; rw [HQ.out]; simp [headK_neg, HML.out, hk31_0, hk32_1, hng_2]
          obtain ⟨x0, x1, x2, x3, x4⟩ := HBX.out
          dsimp only at x0 x1 x2 x3 x4
          have hD1 := Below.refl W1.heap.size W1
          have hE1 := HB1.out
          have HC := headed_any t ht (f := 83) (P := (·.tvar)) (enters_of Try.func83 (by kernel_rfl) rfl) (fun t' h => istvar_any t' (ht.kid h)) ⟨33, ps, n, txt, kp, kl, kc⟩ W1 (HT.out.later hE1)
          try dsimp only at HC
          rw [(show headK t.num t.text (t.kids.map Nd.kinds) (·.tvar) = false from by rw [← HNUM.out]; simp [headK, hng_2])] at HC
          try unfold NC.val at HC
          go_wp2_with fail
          refine HC.mono ?_; rintro e W2 ⟨rfl, hC⟩
          have hD2 := hD1.trans (hC.mono hD1.size)
          have hE2 := HB1.out.trans (hD2.mono (by rw [HS1.out]; omega))
          clear HC hC hD1 hE1 x0 x1 x2 x3 x4
          obtain ⟨x0, x1, x2, x3, x4⟩ := HBX.out.same (hD2.block w.heap.size (by rw [HS1.out]; omega))
          dsimp only at x0 x1 x2 x3 x4
          go_wp2_with fail
          all_goals
            try rw [Exit.noGoto_ret]
            go_ret
            exact ⟨by rw [HR.out]; first | rfl | (refine congrArg (fun b => Ending.returned (Value.bool b)) (?_ : _ = _); simp <;> first | assumption | omega), hE2⟩
        case pos =>
          obtain ⟨m, rfl⟩ : ∃ m : Nat, n = m := ⟨n.toNat, by omega⟩
          clear hng_2
          cases hc2 : headK (m : Int) txt L (·.tvar) with
          | true =>
            by_cases hnlt_3 : m < kl
            case pos =>
              have hnlt_3' : (m : Int) < (kl : Int) := by omega
              obtain ⟨vs, hvs, -, -, es⟩ := HK.out.slice m t.kids.length (by rw [← HLN.out]; omega) (Nat.le_refl _)
              replace es := es rfl
              push_cast at es
              rw [List.take_of_length_le (Nat.le_refl _)] at hvs
              have HVS := Lib.hid hvs
              clear hvs
              cases hc4 : (L.drop m).all (·.con) with
              | true =>
                have HR : Hid (t.kinds.decl = true) := by show _ = _; rw [HQ.out]; simp [headK_neg, HML.out, hk31_0, hk32_1, hc2, hnlt_3, hc4]
                obtain ⟨x0, x1, x2, x3, x4⟩ := HBX.out
                dsimp only at x0 x1 x2 x3 x4
                have hD1 := Below.refl W1.heap.size W1
                have hE1 := HB1.out
                have HC := headed_any t ht (f := 83) (P := (·.tvar)) (enters_of Try.func83 (by kernel_rfl) rfl) (fun t' h => istvar_any t' (ht.kid h)) ⟨33, ps, (m : Int), txt, kp, kl, kc⟩ W1 (HT.out.later hE1)
                try dsimp only at HC
                have hcv : _ = _ := ((by rw [HL.out, HNUM.out, HTXT.out]) : headK t.num t.text (t.kids.map Nd.kinds) (·.tvar) = headK (m : Int) txt L (·.tvar))
                rw [hcv, hc2] at HC
                try unfold NC.val at HC
                go_wp2_with fail
                refine HC.mono ?_; rintro e W2 ⟨rfl, hC⟩
                have hD2 := hD1.trans (hC.mono hD1.size)
                have hE2 := HB1.out.trans (hD2.mono (by rw [HS1.out]; omega))
                clear HC hC hD1 hE1 x0 x1 x2 x3 x4 hcv
                obtain ⟨x0, x1, x2, x3, x4⟩ := HBX.out.same (hD2.block w.heap.size (by rw [HS1.out]; omega))
                dsimp only at x0 x1 x2 x3 x4
                have HC := every_any (f := 84) (p := fun t => t.kinds.con) (enters_of Try.func84 (by kernel_rfl) rfl) (HVS.out.later hE2) (by rw [List.length_drop]; have := HTL.out; omega) (fun t' h => (fun h => iscon_any t' (ht.kid h)) (List.mem_of_mem_drop h))
                try dsimp only at HC
                have hcv : _ = _ := ((all_drop_map t.kids m (·.con)).symm.trans (by rw [HL.out]) : ((t.kids.drop m).all fun t => t.kinds.con) = (L.drop m).all (·.con))
                rw [hcv, hc4] at HC
                try unfold NC.val at HC
                go_wp2_with fail
                refine HC.mono ?_; rintro e W3 ⟨rfl, hC⟩
                have hD3 := hD2.trans (hC.mono hD2.size)
                have hE3 := HB1.out.trans (hD3.mono (by rw [HS1.out]; omega))
                clear HC hC hD2 hE2 x0 x1 x2 x3 x4 hcv
                obtain ⟨x0, x1, x2, x3, x4⟩ := HBX.out.same (hD3.block w.heap.size (by rw [HS1.out]; omega))
                dsimp only at x0 x1 x2 x3 x4
                go_wp2_with fail
                all_goals
                  try rw [Exit.noGoto_ret]
                  go_ret
                  exact ⟨by rw [HR.out]; first | rfl | (refine congrArg (fun b => Ending.returned (Value.bool b)) (?_ : _ = _); simp <;> first | assumption | omega), hE3⟩
              | false =>
                have HR : Hid (t.kinds.decl = false) := by show _ = _; rw [HQ.out]; simp [headK_neg, HML.out, hk31_0, hk32_1, hc2, hnlt_3, hc4]
                obtain ⟨x0, x1, x2, x3, x4⟩ := HBX.out
                dsimp only at x0 x1 x2 x3 x4
                have hD1 := Below.refl W1.heap.size W1
                have hE1 := HB1.out
                have HC := headed_any t ht (f := 83) (P := (·.tvar)) (enters_of Try.func83 (by kernel_rfl) rfl) (fun t' h => istvar_any t' (ht.kid h)) ⟨33, ps, (m : Int), txt, kp, kl, kc⟩ W1 (HT.out.later hE1)
                try dsimp only at HC
                have hcv : _ = _ := ((by rw [HL.out, HNUM.out, HTXT.out]) : headK t.num t.text (t.kids.map Nd.kinds) (·.tvar) = headK (m : Int) txt L (·.tvar))
                rw [hcv, hc2] at HC
                try unfold NC.val at HC
                go_wp2_with fail
                refine HC.mono ?_; rintro e W2 ⟨rfl, hC⟩
                have hD2 := hD1.trans (hC.mono hD1.size)
                have hE2 := HB1.out.trans (hD2.mono (by rw [HS1.out]; omega))
                clear HC hC hD1 hE1 x0 x1 x2 x3 x4 hcv
                obtain ⟨x0, x1, x2, x3, x4⟩ := HBX.out.same (hD2.block w.heap.size (by rw [HS1.out]; omega))
                dsimp only at x0 x1 x2 x3 x4
                have HC := every_any (f := 84) (p := fun t => t.kinds.con) (enters_of Try.func84 (by kernel_rfl) rfl) (HVS.out.later hE2) (by rw [List.length_drop]; have := HTL.out; omega) (fun t' h => (fun h => iscon_any t' (ht.kid h)) (List.mem_of_mem_drop h))
                try dsimp only at HC
                have hcv : _ = _ := ((all_drop_map t.kids m (·.con)).symm.trans (by rw [HL.out]) : ((t.kids.drop m).all fun t => t.kinds.con) = (L.drop m).all (·.con))
                rw [hcv, hc4] at HC
                try unfold NC.val at HC
                go_wp2_with fail
                refine HC.mono ?_; rintro e W3 ⟨rfl, hC⟩
                have hD3 := hD2.trans (hC.mono hD2.size)
                have hE3 := HB1.out.trans (hD3.mono (by rw [HS1.out]; omega))
                clear HC hC hD2 hE2 x0 x1 x2 x3 x4 hcv
                obtain ⟨x0, x1, x2, x3, x4⟩ := HBX.out.same (hD3.block w.heap.size (by rw [HS1.out]; omega))
                dsimp only at x0 x1 x2 x3 x4
                go_wp2_with fail
                all_goals
                  try rw [Exit.noGoto_ret]
                  go_ret
                  exact ⟨by rw [HR.out]; first | rfl | (refine congrArg (fun b => Ending.returned (Value.bool b)) (?_ : _ = _); simp <;> first | assumption | omega), hE3⟩
            case neg =>
              have hnlt_3' : ¬ (m : Int) < (kl : Int) := by omega
              have HR : Hid (t.kinds.decl = false) := by show _ = _; rw [HQ.out]; simp [headK_neg, HML.out, hk31_0, hk32_1, hc2, hnlt_3]
              obtain ⟨x0, x1, x2, x3, x4⟩ := HBX.out
              dsimp only at x0 x1 x2 x3 x4
              have hD1 := Below.refl W1.heap.size W1
              have hE1 := HB1.out
              have HC := headed_any t ht (f := 83) (P := (·.tvar)) (enters_of Try.func83 (by kernel_rfl) rfl) (fun t' h => istvar_any t' (ht.kid h)) ⟨33, ps, (m : Int), txt, kp, kl, kc⟩ W1 (HT.out.later hE1)
              try dsimp only at HC
              have hcv : _ = _ := ((by rw [HL.out, HNUM.out, HTXT.out]) : headK t.num t.text (t.kids.map Nd.kinds) (·.tvar) = headK (m : Int) txt L (·.tvar))
              rw [hcv, hc2] at HC
              try unfold NC.val at HC
              go_wp2_with fail
              refine HC.mono ?_; rintro e W2 ⟨rfl, hC⟩
              have hD2 := hD1.trans (hC.mono hD1.size)
              have hE2 := HB1.out.trans (hD2.mono (by rw [HS1.out]; omega))
              clear HC hC hD1 hE1 x0 x1 x2 x3 x4 hcv
              obtain ⟨x0, x1, x2, x3, x4⟩ := HBX.out.same (hD2.block w.heap.size (by rw [HS1.out]; omega))
              dsimp only at x0 x1 x2 x3 x4
              go_wp2_with fail
              all_goals
                try rw [Exit.noGoto_ret]
                go_ret
                exact ⟨by rw [HR.out]; first | rfl | (refine congrArg (fun b => Ending.returned (Value.bool b)) (?_ : _ = _); simp <;> first | assumption | omega), hE2⟩
          | false =>
            have HR : Hid (t.kinds.decl = false) := by show _ = _; rw [HQ.out]; simp [headK_neg, HML.out, hk31_0, hk32_1, hc2]
            obtain ⟨x0, x1, x2, x3, x4⟩ := HBX.out
            dsimp only at x0 x1 x2 x3 x4
            have hD1 := Below.refl W1.heap.size W1
            have hE1 := HB1.out
            have HC := headed_any t ht (f := 83) (P := (·.tvar)) (enters_of Try.func83 (by kernel_rfl) rfl) (fun t' h => istvar_any t' (ht.kid h)) ⟨33, ps, (m : Int), txt, kp, kl, kc⟩ W1 (HT.out.later hE1)
            try dsimp only at HC
            have hcv : _ = _ := ((by rw [HL.out, HNUM.out, HTXT.out]) : headK t.num t.text (t.kids.map Nd.kinds) (·.tvar) = headK (m : Int) txt L (·.tvar))
            rw [hcv, hc2] at HC
            try unfold NC.val at HC
            go_wp2_with fail
            refine HC.mono ?_; rintro e W2 ⟨rfl, hC⟩
            have hD2 := hD1.trans (hC.mono hD1.size)
            have hE2 := HB1.out.trans (hD2.mono (by rw [HS1.out]; omega))
            clear HC hC hD1 hE1 x0 x1 x2 x3 x4 hcv
            obtain ⟨x0, x1, x2, x3, x4⟩ := HBX.out.same (hD2.block w.heap.size (by rw [HS1.out]; omega))
            dsimp only at x0 x1 x2 x3 x4
            go_wp2_with fail
            all_goals
              try rw [Exit.noGoto_ret]
              go_ret
              exact ⟨by rw [HR.out]; first | rfl | (refine congrArg (fun b => Ending.returned (Value.bool b)) (?_ : _ = _); simp <;> first | assumption | omega), hE2⟩
      case neg =>
        by_cases hk35_3 : k = 35
        case pos =>
          subst hk35_3
          by_cases hng_3 : 0 ≤ n
          case neg =>
            have HR : Hid (t.kinds.decl = false) := by show _ = _; rw [HQ.out]; simp [headK_neg, HML.out, hk31_0, hk32_1, hk33_2, hng_3]
            obtain ⟨x0, x1, x2, x3, x4⟩ := HBX.out
            dsimp only at x0 x1 x2 x3 x4
            have hD1 := Below.refl W1.heap.size W1
            have hE1 := HB1.out
            have HC := headed_any t ht (f := 85) (P := (·.pred)) (enters_of Try.func85 (by kernel_rfl) rfl) (fun t' h => ispred_any t' (ht.kid h)) ⟨35, ps, n, txt, kp, kl, kc⟩ W1 (HT.out.later hE1)
            try dsimp only at HC
            rw [(show headK t.num t.text (t.kids.map Nd.kinds) (·.pred) = false from by rw [← HNUM.out]; simp [headK, hng_3])] at HC
            try unfold NC.val at HC
            go_wp2_with fail
            refine HC.mono ?_; rintro e W2 ⟨rfl, hC⟩
            have hD2 := hD1.trans (hC.mono hD1.size)
            have hE2 := HB1.out.trans (hD2.mono (by rw [HS1.out]; omega))
            clear HC hC hD1 hE1 x0 x1 x2 x3 x4
            obtain ⟨x0, x1, x2, x3, x4⟩ := HBX.out.same (hD2.block w.heap.size (by rw [HS1.out]; omega))
            dsimp only at x0 x1 x2 x3 x4
            go_wp2_with fail
            all_goals
              try rw [Exit.noGoto_ret]
              go_ret
              exact ⟨by rw [HR.out]; first | rfl | (refine congrArg (fun b => Ending.returned (Value.bool b)) (?_ : _ = _); simp <;> first | assumption | omega), hE2⟩
          case pos =>
            obtain ⟨m, rfl⟩ : ∃ m : Nat, n = m := ⟨n.toNat, by omega⟩
            clear hng_3
            cases hc3 : headK (m : Int) txt L (·.pred) with
            | true =>
              by_cases hnlt_4 : m < kl
              case pos =>
                have hnlt_4' : (m : Int) < (kl : Int) := by omega
                have hm1 : (m : Int) + 1 ≤ (kl : Int) := by omega
                cases hc5 : atK L m (·.tvar) with
                | true =>
                  obtain ⟨kc_p, g_p, o_p, hp_p, hg_p, ht_p, hc_p⟩ := HK.out.at m (by rw [← HLN.out]; omega)
                  subst hp_p
                  have HG_p := Lib.hid hg_p
                  have HT_p := Lib.hid ht_p
                  have HC_p := Lib.hid hc_p
                  clear hg_p ht_p hc_p
                  obtain ⟨vs, hvs, -, -, es⟩ := HK.out.slice (m + 1) t.kids.length (by rw [← HLN.out]; omega) (Nat.le_refl _)
                  replace es := es rfl
                  push_cast at es
                  rw [List.take_of_length_le (Nat.le_refl _)] at hvs
                  have HVS := Lib.hid hvs
                  clear hvs
                  cases hc6 : (L.drop (m + 1)).all (·.sig) with
                  | true =>
                    have HR : Hid (t.kinds.decl = true) := by show _ = _; rw [HQ.out]; simp [headK_neg, HML.out, hk31_0, hk32_1, hk33_2, hc3, hnlt_4, hc5, hc6]
                    obtain ⟨x0, x1, x2, x3, x4⟩ := HBX.out
                    dsimp only at x0 x1 x2 x3 x4
                    have hD1 := Below.refl W1.heap.size W1
                    have hE1 := HB1.out
                    obtain ⟨p0, p1, p2, p3, p4⟩ := HC_p.out W1 (HB1.out.block _ HG_p.out)
                    have HC := headed_any t ht (f := 85) (P := (·.pred)) (enters_of Try.func85 (by kernel_rfl) rfl) (fun t' h => ispred_any t' (ht.kid h)) ⟨35, ps, (m : Int), txt, (some ⟨g_p, o_p, none⟩), kl, kc⟩ W1 (HT.out.later hE1)
                    try dsimp only at HC
                    have hcv : _ = _ := ((by rw [HL.out, HNUM.out, HTXT.out]) : headK t.num t.text (t.kids.map Nd.kinds) (·.pred) = headK (m : Int) txt L (·.pred))
                    rw [hcv, hc3] at HC
                    try unfold NC.val at HC
                    go_wp2_with fail
                    refine HC.mono ?_; rintro e W2 ⟨rfl, hC⟩
                    have hD2 := hD1.trans (hC.mono hD1.size)
                    have hE2 := HB1.out.trans (hD2.mono (by rw [HS1.out]; omega))
                    clear HC hC hD1 hE1 x0 x1 x2 x3 x4 hcv p0 p1 p2 p3 p4
                    obtain ⟨x0, x1, x2, x3, x4⟩ := HBX.out.same (hD2.block w.heap.size (by rw [HS1.out]; omega))
                    dsimp only at x0 x1 x2 x3 x4
                    obtain ⟨p0, p1, p2, p3, p4⟩ := HC_p.out W2 (hE2.block _ HG_p.out)
                    have HC := (istvar_any _ (ht.kid (List.getElem_mem _))) kc_p W2 (HT_p.out.later hE2)
                    try dsimp only at HC
                    have hcv : _ = _ := ((atK_map t.kids m (·.tvar) (by rw [← HLN.out]; omega)).symm.trans (by rw [HL.out]) : (t.kids[m]'(by rw [← HLN.out]; omega)).kinds.tvar = atK L m (·.tvar))
                    rw [hcv, hc5] at HC
                    try unfold NC.val at HC
                    go_wp2_with fail
                    refine HC.mono ?_; rintro e W3 ⟨rfl, hC⟩
                    have hD3 := hD2.trans (hC.mono hD2.size)
                    have hE3 := HB1.out.trans (hD3.mono (by rw [HS1.out]; omega))
                    clear HC hC hD2 hE2 x0 x1 x2 x3 x4 hcv p0 p1 p2 p3 p4
                    obtain ⟨x0, x1, x2, x3, x4⟩ := HBX.out.same (hD3.block w.heap.size (by rw [HS1.out]; omega))
                    dsimp only at x0 x1 x2 x3 x4
                    obtain ⟨p0, p1, p2, p3, p4⟩ := HC_p.out W3 (hE3.block _ HG_p.out)
                    have HC := every_any (f := 86) (p := fun t => t.kinds.sig) (enters_of Try.func86 (by kernel_rfl) rfl) (HVS.out.later hE3) (by rw [List.length_drop]; have := HTL.out; omega) (fun t' h => (fun h => issig_any t' (ht.kid h)) (List.mem_of_mem_drop h))
                    try dsimp only at HC
                    have hcv : _ = _ := ((all_drop_map t.kids (m + 1) (·.sig)).symm.trans (by rw [HL.out]) : ((t.kids.drop (m + 1)).all fun t => t.kinds.sig) = (L.drop (m + 1)).all (·.sig))
                    rw [hcv, hc6] at HC
                    try unfold NC.val at HC
                    go_wp2_with fail
                    refine HC.mono ?_; rintro e W4 ⟨rfl, hC⟩
                    have hD4 := hD3.trans (hC.mono hD3.size)
                    have hE4 := HB1.out.trans (hD4.mono (by rw [HS1.out]; omega))
                    clear HC hC hD3 hE3 x0 x1 x2 x3 x4 hcv p0 p1 p2 p3 p4
                    obtain ⟨x0, x1, x2, x3, x4⟩ := HBX.out.same (hD4.block w.heap.size (by rw [HS1.out]; omega))
                    dsimp only at x0 x1 x2 x3 x4
                    obtain ⟨p0, p1, p2, p3, p4⟩ := HC_p.out W4 (hE4.block _ HG_p.out)
                    go_wp2_with fail
                    all_goals
                      try rw [Exit.noGoto_ret]
                      go_ret
                      exact ⟨by rw [HR.out]; first | rfl | (refine congrArg (fun b => Ending.returned (Value.bool b)) (?_ : _ = _); simp <;> first | assumption | omega), hE4⟩
                  | false =>
                    have HR : Hid (t.kinds.decl = false) := by show _ = _; rw [HQ.out]; simp [headK_neg, HML.out, hk31_0, hk32_1, hk33_2, hc3, hnlt_4, hc5, hc6]
                    obtain ⟨x0, x1, x2, x3, x4⟩ := HBX.out
                    dsimp only at x0 x1 x2 x3 x4
                    have hD1 := Below.refl W1.heap.size W1
                    have hE1 := HB1.out
                    obtain ⟨p0, p1, p2, p3, p4⟩ := HC_p.out W1 (HB1.out.block _ HG_p.out)
                    have HC := headed_any t ht (f := 85) (P := (·.pred)) (enters_of Try.func85 (by kernel_rfl) rfl) (fun t' h => ispred_any t' (ht.kid h)) ⟨35, ps, (m : Int), txt, (some ⟨g_p, o_p, none⟩), kl, kc⟩ W1 (HT.out.later hE1)
                    try dsimp only at HC
                    have hcv : _ = _ := ((by rw [HL.out, HNUM.out, HTXT.out]) : headK t.num t.text (t.kids.map Nd.kinds) (·.pred) = headK (m : Int) txt L (·.pred))
                    rw [hcv, hc3] at HC
                    try unfold NC.val at HC
                    go_wp2_with fail
                    refine HC.mono ?_; rintro e W2 ⟨rfl, hC⟩
                    have hD2 := hD1.trans (hC.mono hD1.size)
                    have hE2 := HB1.out.trans (hD2.mono (by rw [HS1.out]; omega))
                    clear HC hC hD1 hE1 x0 x1 x2 x3 x4 hcv p0 p1 p2 p3 p4
                    obtain ⟨x0, x1, x2, x3, x4⟩ := HBX.out.same (hD2.block w.heap.size (by rw [HS1.out]; omega))
                    dsimp only at x0 x1 x2 x3 x4
                    obtain ⟨p0, p1, p2, p3, p4⟩ := HC_p.out W2 (hE2.block _ HG_p.out)
                    have HC := (istvar_any _ (ht.kid (List.getElem_mem _))) kc_p W2 (HT_p.out.later hE2)
                    try dsimp only at HC
                    have hcv : _ = _ := ((atK_map t.kids m (·.tvar) (by rw [← HLN.out]; omega)).symm.trans (by rw [HL.out]) : (t.kids[m]'(by rw [← HLN.out]; omega)).kinds.tvar = atK L m (·.tvar))
                    rw [hcv, hc5] at HC
                    try unfold NC.val at HC
                    go_wp2_with fail
                    refine HC.mono ?_; rintro e W3 ⟨rfl, hC⟩
                    have hD3 := hD2.trans (hC.mono hD2.size)
                    have hE3 := HB1.out.trans (hD3.mono (by rw [HS1.out]; omega))
                    clear HC hC hD2 hE2 x0 x1 x2 x3 x4 hcv p0 p1 p2 p3 p4
                    obtain ⟨x0, x1, x2, x3, x4⟩ := HBX.out.same (hD3.block w.heap.size (by rw [HS1.out]; omega))
                    dsimp only at x0 x1 x2 x3 x4
                    obtain ⟨p0, p1, p2, p3, p4⟩ := HC_p.out W3 (hE3.block _ HG_p.out)
                    have HC := every_any (f := 86) (p := fun t => t.kinds.sig) (enters_of Try.func86 (by kernel_rfl) rfl) (HVS.out.later hE3) (by rw [List.length_drop]; have := HTL.out; omega) (fun t' h => (fun h => issig_any t' (ht.kid h)) (List.mem_of_mem_drop h))
                    try dsimp only at HC
                    have hcv : _ = _ := ((all_drop_map t.kids (m + 1) (·.sig)).symm.trans (by rw [HL.out]) : ((t.kids.drop (m + 1)).all fun t => t.kinds.sig) = (L.drop (m + 1)).all (·.sig))
                    rw [hcv, hc6] at HC
                    try unfold NC.val at HC
                    go_wp2_with fail
                    refine HC.mono ?_; rintro e W4 ⟨rfl, hC⟩
                    have hD4 := hD3.trans (hC.mono hD3.size)
                    have hE4 := HB1.out.trans (hD4.mono (by rw [HS1.out]; omega))
                    clear HC hC hD3 hE3 x0 x1 x2 x3 x4 hcv p0 p1 p2 p3 p4
                    obtain ⟨x0, x1, x2, x3, x4⟩ := HBX.out.same (hD4.block w.heap.size (by rw [HS1.out]; omega))
                    dsimp only at x0 x1 x2 x3 x4
                    obtain ⟨p0, p1, p2, p3, p4⟩ := HC_p.out W4 (hE4.block _ HG_p.out)
                    go_wp2_with fail
                    all_goals
                      try rw [Exit.noGoto_ret]
                      go_ret
                      exact ⟨by rw [HR.out]; first | rfl | (refine congrArg (fun b => Ending.returned (Value.bool b)) (?_ : _ = _); simp <;> first | assumption | omega), hE4⟩
                | false =>
                  obtain ⟨kc_p, g_p, o_p, hp_p, hg_p, ht_p, hc_p⟩ := HK.out.at m (by rw [← HLN.out]; omega)
                  subst hp_p
                  have HG_p := Lib.hid hg_p
                  have HT_p := Lib.hid ht_p
                  have HC_p := Lib.hid hc_p
                  clear hg_p ht_p hc_p
                  have HR : Hid (t.kinds.decl = false) := by show _ = _; rw [HQ.out]; simp [headK_neg, HML.out, hk31_0, hk32_1, hk33_2, hc3, hnlt_4, hc5]
                  obtain ⟨x0, x1, x2, x3, x4⟩ := HBX.out
                  dsimp only at x0 x1 x2 x3 x4
                  have hD1 := Below.refl W1.heap.size W1
                  have hE1 := HB1.out
                  obtain ⟨p0, p1, p2, p3, p4⟩ := HC_p.out W1 (HB1.out.block _ HG_p.out)
                  have HC := headed_any t ht (f := 85) (P := (·.pred)) (enters_of Try.func85 (by kernel_rfl) rfl) (fun t' h => ispred_any t' (ht.kid h)) ⟨35, ps, (m : Int), txt, (some ⟨g_p, o_p, none⟩), kl, kc⟩ W1 (HT.out.later hE1)
                  try dsimp only at HC
                  have hcv : _ = _ := ((by rw [HL.out, HNUM.out, HTXT.out]) : headK t.num t.text (t.kids.map Nd.kinds) (·.pred) = headK (m : Int) txt L (·.pred))
                  rw [hcv, hc3] at HC
                  try unfold NC.val at HC
                  go_wp2_with fail
                  refine HC.mono ?_; rintro e W2 ⟨rfl, hC⟩
                  have hD2 := hD1.trans (hC.mono hD1.size)
                  have hE2 := HB1.out.trans (hD2.mono (by rw [HS1.out]; omega))
                  clear HC hC hD1 hE1 x0 x1 x2 x3 x4 hcv p0 p1 p2 p3 p4
                  obtain ⟨x0, x1, x2, x3, x4⟩ := HBX.out.same (hD2.block w.heap.size (by rw [HS1.out]; omega))
                  dsimp only at x0 x1 x2 x3 x4
                  obtain ⟨p0, p1, p2, p3, p4⟩ := HC_p.out W2 (hE2.block _ HG_p.out)
                  have HC := (istvar_any _ (ht.kid (List.getElem_mem _))) kc_p W2 (HT_p.out.later hE2)
                  try dsimp only at HC
                  have hcv : _ = _ := ((atK_map t.kids m (·.tvar) (by rw [← HLN.out]; omega)).symm.trans (by rw [HL.out]) : (t.kids[m]'(by rw [← HLN.out]; omega)).kinds.tvar = atK L m (·.tvar))
                  rw [hcv, hc5] at HC
                  try unfold NC.val at HC
                  go_wp2_with fail
                  refine HC.mono ?_; rintro e W3 ⟨rfl, hC⟩
                  have hD3 := hD2.trans (hC.mono hD2.size)
                  have hE3 := HB1.out.trans (hD3.mono (by rw [HS1.out]; omega))
                  clear HC hC hD2 hE2 x0 x1 x2 x3 x4 hcv p0 p1 p2 p3 p4
                  obtain ⟨x0, x1, x2, x3, x4⟩ := HBX.out.same (hD3.block w.heap.size (by rw [HS1.out]; omega))
                  dsimp only at x0 x1 x2 x3 x4
                  obtain ⟨p0, p1, p2, p3, p4⟩ := HC_p.out W3 (hE3.block _ HG_p.out)
                  go_wp2_with fail
                  all_goals
                    try rw [Exit.noGoto_ret]
                    go_ret
                    exact ⟨by rw [HR.out]; first | rfl | (refine congrArg (fun b => Ending.returned (Value.bool b)) (?_ : _ = _); simp <;> first | assumption | omega), hE3⟩
              case neg =>
                have hnlt_4' : ¬ (m : Int) < (kl : Int) := by omega
                have HR : Hid (t.kinds.decl = false) := by show _ = _; rw [HQ.out]; simp [headK_neg, HML.out, hk31_0, hk32_1, hk33_2, hc3, hnlt_4]
                obtain ⟨x0, x1, x2, x3, x4⟩ := HBX.out
                dsimp only at x0 x1 x2 x3 x4
                have hD1 := Below.refl W1.heap.size W1
                have hE1 := HB1.out
                have HC := headed_any t ht (f := 85) (P := (·.pred)) (enters_of Try.func85 (by kernel_rfl) rfl) (fun t' h => ispred_any t' (ht.kid h)) ⟨35, ps, (m : Int), txt, kp, kl, kc⟩ W1 (HT.out.later hE1)
                try dsimp only at HC
                have hcv : _ = _ := ((by rw [HL.out, HNUM.out, HTXT.out]) : headK t.num t.text (t.kids.map Nd.kinds) (·.pred) = headK (m : Int) txt L (·.pred))
                rw [hcv, hc3] at HC
                try unfold NC.val at HC
                go_wp2_with fail
                refine HC.mono ?_; rintro e W2 ⟨rfl, hC⟩
                have hD2 := hD1.trans (hC.mono hD1.size)
                have hE2 := HB1.out.trans (hD2.mono (by rw [HS1.out]; omega))
                clear HC hC hD1 hE1 x0 x1 x2 x3 x4 hcv
                obtain ⟨x0, x1, x2, x3, x4⟩ := HBX.out.same (hD2.block w.heap.size (by rw [HS1.out]; omega))
                dsimp only at x0 x1 x2 x3 x4
                go_wp2_with fail
                all_goals
                  try rw [Exit.noGoto_ret]
                  go_ret
                  exact ⟨by rw [HR.out]; first | rfl | (refine congrArg (fun b => Ending.returned (Value.bool b)) (?_ : _ = _); simp <;> first | assumption | omega), hE2⟩
            | false =>
              have HR : Hid (t.kinds.decl = false) := by show _ = _; rw [HQ.out]; simp [headK_neg, HML.out, hk31_0, hk32_1, hk33_2, hc3]
              obtain ⟨x0, x1, x2, x3, x4⟩ := HBX.out
              dsimp only at x0 x1 x2 x3 x4
              have hD1 := Below.refl W1.heap.size W1
              have hE1 := HB1.out
              have HC := headed_any t ht (f := 85) (P := (·.pred)) (enters_of Try.func85 (by kernel_rfl) rfl) (fun t' h => ispred_any t' (ht.kid h)) ⟨35, ps, (m : Int), txt, kp, kl, kc⟩ W1 (HT.out.later hE1)
              try dsimp only at HC
              have hcv : _ = _ := ((by rw [HL.out, HNUM.out, HTXT.out]) : headK t.num t.text (t.kids.map Nd.kinds) (·.pred) = headK (m : Int) txt L (·.pred))
              rw [hcv, hc3] at HC
              try unfold NC.val at HC
              go_wp2_with fail
              refine HC.mono ?_; rintro e W2 ⟨rfl, hC⟩
              have hD2 := hD1.trans (hC.mono hD1.size)
              have hE2 := HB1.out.trans (hD2.mono (by rw [HS1.out]; omega))
              clear HC hC hD1 hE1 x0 x1 x2 x3 x4 hcv
              obtain ⟨x0, x1, x2, x3, x4⟩ := HBX.out.same (hD2.block w.heap.size (by rw [HS1.out]; omega))
              dsimp only at x0 x1 x2 x3 x4
              go_wp2_with fail
              all_goals
                try rw [Exit.noGoto_ret]
                go_ret
                exact ⟨by rw [HR.out]; first | rfl | (refine congrArg (fun b => Ending.returned (Value.bool b)) (?_ : _ = _); simp <;> first | assumption | omega), hE2⟩
        case neg =>
          by_cases hk36_4 : k = 36
          case pos =>
            subst hk36_4
            by_cases hng_4 : 0 ≤ n
            case neg =>
              have HR : Hid (t.kinds.decl = false) := by show _ = _; rw [HQ.out]; simp [headK_neg, HML.out, hk31_0, hk32_1, hk33_2, hk35_3, hng_4]
              obtain ⟨x0, x1, x2, x3, x4⟩ := HBX.out
              dsimp only at x0 x1 x2 x3 x4
              have hD1 := Below.refl W1.heap.size W1
              have hE1 := HB1.out
              have HC := headed_any t ht (f := 85) (P := (·.pred)) (enters_of Try.func85 (by kernel_rfl) rfl) (fun t' h => ispred_any t' (ht.kid h)) ⟨36, ps, n, txt, kp, kl, kc⟩ W1 (HT.out.later hE1)
              try dsimp only at HC
              rw [(show headK t.num t.text (t.kids.map Nd.kinds) (·.pred) = false from by rw [← HNUM.out]; simp [headK, hng_4])] at HC
              try unfold NC.val at HC
              go_wp2_with fail
              refine HC.mono ?_; rintro e W2 ⟨rfl, hC⟩
              have hD2 := hD1.trans (hC.mono hD1.size)
              have hE2 := HB1.out.trans (hD2.mono (by rw [HS1.out]; omega))
              clear HC hC hD1 hE1 x0 x1 x2 x3 x4
              obtain ⟨x0, x1, x2, x3, x4⟩ := HBX.out.same (hD2.block w.heap.size (by rw [HS1.out]; omega))
              dsimp only at x0 x1 x2 x3 x4
              go_wp2_with fail
              all_goals
                try rw [Exit.noGoto_ret]
                go_ret
                exact ⟨by rw [HR.out]; first | rfl | (refine congrArg (fun b => Ending.returned (Value.bool b)) (?_ : _ = _); simp <;> first | assumption | omega), hE2⟩
            case pos =>
              obtain ⟨m, rfl⟩ : ∃ m : Nat, n = m := ⟨n.toNat, by omega⟩
              clear hng_4
              cases hc4 : headK (m : Int) txt L (·.pred) with
              | true =>
                by_cases hnlt_5 : m < kl
                case pos =>
                  have hnlt_5' : (m : Int) < (kl : Int) := by omega
                  have hm1 : (m : Int) + 1 ≤ (kl : Int) := by omega
                  cases hc6 : atK L m (·.typ) with
                  | true =>
                    obtain ⟨kc_p, g_p, o_p, hp_p, hg_p, ht_p, hc_p⟩ := HK.out.at m (by rw [← HLN.out]; omega)
                    subst hp_p
                    have HG_p := Lib.hid hg_p
                    have HT_p := Lib.hid ht_p
                    have HC_p := Lib.hid hc_p
                    clear hg_p ht_p hc_p
                    obtain ⟨vs, hvs, -, -, es⟩ := HK.out.slice (m + 1) t.kids.length (by rw [← HLN.out]; omega) (Nat.le_refl _)
                    replace es := es rfl
                    push_cast at es
                    rw [List.take_of_length_le (Nat.le_refl _)] at hvs
                    have HVS := Lib.hid hvs
                    clear hvs
                    cases hc7 : (L.drop (m + 1)).all (·.bind) with
                    | true =>
                      have HR : Hid (t.kinds.decl = true) := by show _ = _; rw [HQ.out]; simp [headK_neg, HML.out, hk31_0, hk32_1, hk33_2, hk35_3, hc4, hnlt_5, hc6, hc7]
                      obtain ⟨x0, x1, x2, x3, x4⟩ := HBX.out
                      dsimp only at x0 x1 x2 x3 x4
                      have hD1 := Below.refl W1.heap.size W1
                      have hE1 := HB1.out
                      obtain ⟨p0, p1, p2, p3, p4⟩ := HC_p.out W1 (HB1.out.block _ HG_p.out)
                      have HC := headed_any t ht (f := 85) (P := (·.pred)) (enters_of Try.func85 (by kernel_rfl) rfl) (fun t' h => ispred_any t' (ht.kid h)) ⟨36, ps, (m : Int), txt, (some ⟨g_p, o_p, none⟩), kl, kc⟩ W1 (HT.out.later hE1)
                      try dsimp only at HC
                      have hcv : _ = _ := ((by rw [HL.out, HNUM.out, HTXT.out]) : headK t.num t.text (t.kids.map Nd.kinds) (·.pred) = headK (m : Int) txt L (·.pred))
                      rw [hcv, hc4] at HC
                      try unfold NC.val at HC
                      go_wp2_with fail
                      refine HC.mono ?_; rintro e W2 ⟨rfl, hC⟩
                      have hD2 := hD1.trans (hC.mono hD1.size)
                      have hE2 := HB1.out.trans (hD2.mono (by rw [HS1.out]; omega))
                      clear HC hC hD1 hE1 x0 x1 x2 x3 x4 hcv p0 p1 p2 p3 p4
                      obtain ⟨x0, x1, x2, x3, x4⟩ := HBX.out.same (hD2.block w.heap.size (by rw [HS1.out]; omega))
                      dsimp only at x0 x1 x2 x3 x4
                      obtain ⟨p0, p1, p2, p3, p4⟩ := HC_p.out W2 (hE2.block _ HG_p.out)
                      have HC := (istype_any _ (ht.kid (List.getElem_mem _))) kc_p W2 (HT_p.out.later hE2)
                      try dsimp only at HC
                      have hcv : _ = _ := ((atK_map t.kids m (·.typ) (by rw [← HLN.out]; omega)).symm.trans (by rw [HL.out]) : (t.kids[m]'(by rw [← HLN.out]; omega)).kinds.typ = atK L m (·.typ))
                      rw [hcv, hc6] at HC
                      try unfold NC.val at HC
                      go_wp2_with fail
                      refine HC.mono ?_; rintro e W3 ⟨rfl, hC⟩
                      have hD3 := hD2.trans (hC.mono hD2.size)
                      have hE3 := HB1.out.trans (hD3.mono (by rw [HS1.out]; omega))
                      clear HC hC hD2 hE2 x0 x1 x2 x3 x4 hcv p0 p1 p2 p3 p4
                      obtain ⟨x0, x1, x2, x3, x4⟩ := HBX.out.same (hD3.block w.heap.size (by rw [HS1.out]; omega))
                      dsimp only at x0 x1 x2 x3 x4
                      obtain ⟨p0, p1, p2, p3, p4⟩ := HC_p.out W3 (hE3.block _ HG_p.out)
                      have HC := every_any (f := 87) (p := fun t => t.kinds.bind) (enters_of Try.func87 (by kernel_rfl) rfl) (HVS.out.later hE3) (by rw [List.length_drop]; have := HTL.out; omega) (fun t' h => (fun h => isbind_any t' (ht.kid h)) (List.mem_of_mem_drop h))
                      try dsimp only at HC
                      have hcv : _ = _ := ((all_drop_map t.kids (m + 1) (·.bind)).symm.trans (by rw [HL.out]) : ((t.kids.drop (m + 1)).all fun t => t.kinds.bind) = (L.drop (m + 1)).all (·.bind))
                      rw [hcv, hc7] at HC
                      try unfold NC.val at HC
                      go_wp2_with fail
                      refine HC.mono ?_; rintro e W4 ⟨rfl, hC⟩
                      have hD4 := hD3.trans (hC.mono hD3.size)
                      have hE4 := HB1.out.trans (hD4.mono (by rw [HS1.out]; omega))
                      clear HC hC hD3 hE3 x0 x1 x2 x3 x4 hcv p0 p1 p2 p3 p4
                      obtain ⟨x0, x1, x2, x3, x4⟩ := HBX.out.same (hD4.block w.heap.size (by rw [HS1.out]; omega))
                      dsimp only at x0 x1 x2 x3 x4
                      obtain ⟨p0, p1, p2, p3, p4⟩ := HC_p.out W4 (hE4.block _ HG_p.out)
                      go_wp2_with fail
                      all_goals
                        try rw [Exit.noGoto_ret]
                        go_ret
                        exact ⟨by rw [HR.out]; first | rfl | (refine congrArg (fun b => Ending.returned (Value.bool b)) (?_ : _ = _); simp <;> first | assumption | omega), hE4⟩
                    | false =>
                      have HR : Hid (t.kinds.decl = false) := by show _ = _; rw [HQ.out]; simp [headK_neg, HML.out, hk31_0, hk32_1, hk33_2, hk35_3, hc4, hnlt_5, hc6, hc7]
                      obtain ⟨x0, x1, x2, x3, x4⟩ := HBX.out
                      dsimp only at x0 x1 x2 x3 x4
                      have hD1 := Below.refl W1.heap.size W1
                      have hE1 := HB1.out
                      obtain ⟨p0, p1, p2, p3, p4⟩ := HC_p.out W1 (HB1.out.block _ HG_p.out)
                      have HC := headed_any t ht (f := 85) (P := (·.pred)) (enters_of Try.func85 (by kernel_rfl) rfl) (fun t' h => ispred_any t' (ht.kid h)) ⟨36, ps, (m : Int), txt, (some ⟨g_p, o_p, none⟩), kl, kc⟩ W1 (HT.out.later hE1)
                      try dsimp only at HC
                      have hcv : _ = _ := ((by rw [HL.out, HNUM.out, HTXT.out]) : headK t.num t.text (t.kids.map Nd.kinds) (·.pred) = headK (m : Int) txt L (·.pred))
                      rw [hcv, hc4] at HC
                      try unfold NC.val at HC
                      go_wp2_with fail
                      refine HC.mono ?_; rintro e W2 ⟨rfl, hC⟩
                      have hD2 := hD1.trans (hC.mono hD1.size)
                      have hE2 := HB1.out.trans (hD2.mono (by rw [HS1.out]; omega))
                      clear HC hC hD1 hE1 x0 x1 x2 x3 x4 hcv p0 p1 p2 p3 p4
                      obtain ⟨x0, x1, x2, x3, x4⟩ := HBX.out.same (hD2.block w.heap.size (by rw [HS1.out]; omega))
                      dsimp only at x0 x1 x2 x3 x4
                      obtain ⟨p0, p1, p2, p3, p4⟩ := HC_p.out W2 (hE2.block _ HG_p.out)
                      have HC := (istype_any _ (ht.kid (List.getElem_mem _))) kc_p W2 (HT_p.out.later hE2)
                      try dsimp only at HC
                      have hcv : _ = _ := ((atK_map t.kids m (·.typ) (by rw [← HLN.out]; omega)).symm.trans (by rw [HL.out]) : (t.kids[m]'(by rw [← HLN.out]; omega)).kinds.typ = atK L m (·.typ))
                      rw [hcv, hc6] at HC
                      try unfold NC.val at HC
                      go_wp2_with fail
                      refine HC.mono ?_; rintro e W3 ⟨rfl, hC⟩
                      have hD3 := hD2.trans (hC.mono hD2.size)
                      have hE3 := HB1.out.trans (hD3.mono (by rw [HS1.out]; omega))
                      clear HC hC hD2 hE2 x0 x1 x2 x3 x4 hcv p0 p1 p2 p3 p4
                      obtain ⟨x0, x1, x2, x3, x4⟩ := HBX.out.same (hD3.block w.heap.size (by rw [HS1.out]; omega))
                      dsimp only at x0 x1 x2 x3 x4
                      obtain ⟨p0, p1, p2, p3, p4⟩ := HC_p.out W3 (hE3.block _ HG_p.out)
                      have HC := every_any (f := 87) (p := fun t => t.kinds.bind) (enters_of Try.func87 (by kernel_rfl) rfl) (HVS.out.later hE3) (by rw [List.length_drop]; have := HTL.out; omega) (fun t' h => (fun h => isbind_any t' (ht.kid h)) (List.mem_of_mem_drop h))
                      try dsimp only at HC
                      have hcv : _ = _ := ((all_drop_map t.kids (m + 1) (·.bind)).symm.trans (by rw [HL.out]) : ((t.kids.drop (m + 1)).all fun t => t.kinds.bind) = (L.drop (m + 1)).all (·.bind))
                      rw [hcv, hc7] at HC
                      try unfold NC.val at HC
                      go_wp2_with fail
                      refine HC.mono ?_; rintro e W4 ⟨rfl, hC⟩
                      have hD4 := hD3.trans (hC.mono hD3.size)
                      have hE4 := HB1.out.trans (hD4.mono (by rw [HS1.out]; omega))
                      clear HC hC hD3 hE3 x0 x1 x2 x3 x4 hcv p0 p1 p2 p3 p4
                      obtain ⟨x0, x1, x2, x3, x4⟩ := HBX.out.same (hD4.block w.heap.size (by rw [HS1.out]; omega))
                      dsimp only at x0 x1 x2 x3 x4
                      obtain ⟨p0, p1, p2, p3, p4⟩ := HC_p.out W4 (hE4.block _ HG_p.out)
                      go_wp2_with fail
                      all_goals
                        try rw [Exit.noGoto_ret]
                        go_ret
                        exact ⟨by rw [HR.out]; first | rfl | (refine congrArg (fun b => Ending.returned (Value.bool b)) (?_ : _ = _); simp <;> first | assumption | omega), hE4⟩
                  | false =>
                    obtain ⟨kc_p, g_p, o_p, hp_p, hg_p, ht_p, hc_p⟩ := HK.out.at m (by rw [← HLN.out]; omega)
                    subst hp_p
                    have HG_p := Lib.hid hg_p
                    have HT_p := Lib.hid ht_p
                    have HC_p := Lib.hid hc_p
                    clear hg_p ht_p hc_p
                    have HR : Hid (t.kinds.decl = false) := by show _ = _; rw [HQ.out]; simp [headK_neg, HML.out, hk31_0, hk32_1, hk33_2, hk35_3, hc4, hnlt_5, hc6]
                    obtain ⟨x0, x1, x2, x3, x4⟩ := HBX.out
                    dsimp only at x0 x1 x2 x3 x4
                    have hD1 := Below.refl W1.heap.size W1
                    have hE1 := HB1.out
                    obtain ⟨p0, p1, p2, p3, p4⟩ := HC_p.out W1 (HB1.out.block _ HG_p.out)
                    have HC := headed_any t ht (f := 85) (P := (·.pred)) (enters_of Try.func85 (by kernel_rfl) rfl) (fun t' h => ispred_any t' (ht.kid h)) ⟨36, ps, (m : Int), txt, (some ⟨g_p, o_p, none⟩), kl, kc⟩ W1 (HT.out.later hE1)
                    try dsimp only at HC
                    have hcv : _ = _ := ((by rw [HL.out, HNUM.out, HTXT.out]) : headK t.num t.text (t.kids.map Nd.kinds) (·.pred) = headK (m : Int) txt L (·.pred))
                    rw [hcv, hc4] at HC
                    try unfold NC.val at HC
                    go_wp2_with fail
                    refine HC.mono ?_; rintro e W2 ⟨rfl, hC⟩
                    have hD2 := hD1.trans (hC.mono hD1.size)
                    have hE2 := HB1.out.trans (hD2.mono (by rw [HS1.out]; omega))
                    clear HC hC hD1 hE1 x0 x1 x2 x3 x4 hcv p0 p1 p2 p3 p4
                    obtain ⟨x0, x1, x2, x3, x4⟩ := HBX.out.same (hD2.block w.heap.size (by rw [HS1.out]; omega))
                    dsimp only at x0 x1 x2 x3 x4
                    obtain ⟨p0, p1, p2, p3, p4⟩ := HC_p.out W2 (hE2.block _ HG_p.out)
                    have HC := (istype_any _ (ht.kid (List.getElem_mem _))) kc_p W2 (HT_p.out.later hE2)
                    try dsimp only at HC
                    have hcv : _ = _ := ((atK_map t.kids m (·.typ) (by rw [← HLN.out]; omega)).symm.trans (by rw [HL.out]) : (t.kids[m]'(by rw [← HLN.out]; omega)).kinds.typ = atK L m (·.typ))
                    rw [hcv, hc6] at HC
                    try unfold NC.val at HC
                    go_wp2_with fail
                    refine HC.mono ?_; rintro e W3 ⟨rfl, hC⟩
                    have hD3 := hD2.trans (hC.mono hD2.size)
                    have hE3 := HB1.out.trans (hD3.mono (by rw [HS1.out]; omega))
                    clear HC hC hD2 hE2 x0 x1 x2 x3 x4 hcv p0 p1 p2 p3 p4
                    obtain ⟨x0, x1, x2, x3, x4⟩ := HBX.out.same (hD3.block w.heap.size (by rw [HS1.out]; omega))
                    dsimp only at x0 x1 x2 x3 x4
                    obtain ⟨p0, p1, p2, p3, p4⟩ := HC_p.out W3 (hE3.block _ HG_p.out)
                    go_wp2_with fail
                    all_goals
                      try rw [Exit.noGoto_ret]
                      go_ret
                      exact ⟨by rw [HR.out]; first | rfl | (refine congrArg (fun b => Ending.returned (Value.bool b)) (?_ : _ = _); simp <;> first | assumption | omega), hE3⟩
                case neg =>
                  have hnlt_5' : ¬ (m : Int) < (kl : Int) := by omega
                  have HR : Hid (t.kinds.decl = false) := by show _ = _; rw [HQ.out]; simp [headK_neg, HML.out, hk31_0, hk32_1, hk33_2, hk35_3, hc4, hnlt_5]
                  obtain ⟨x0, x1, x2, x3, x4⟩ := HBX.out
                  dsimp only at x0 x1 x2 x3 x4
                  have hD1 := Below.refl W1.heap.size W1
                  have hE1 := HB1.out
                  have HC := headed_any t ht (f := 85) (P := (·.pred)) (enters_of Try.func85 (by kernel_rfl) rfl) (fun t' h => ispred_any t' (ht.kid h)) ⟨36, ps, (m : Int), txt, kp, kl, kc⟩ W1 (HT.out.later hE1)
                  try dsimp only at HC
                  have hcv : _ = _ := ((by rw [HL.out, HNUM.out, HTXT.out]) : headK t.num t.text (t.kids.map Nd.kinds) (·.pred) = headK (m : Int) txt L (·.pred))
                  rw [hcv, hc4] at HC
                  try unfold NC.val at HC
                  go_wp2_with fail
                  refine HC.mono ?_; rintro e W2 ⟨rfl, hC⟩
                  have hD2 := hD1.trans (hC.mono hD1.size)
                  have hE2 := HB1.out.trans (hD2.mono (by rw [HS1.out]; omega))
                  clear HC hC hD1 hE1 x0 x1 x2 x3 x4 hcv
                  obtain ⟨x0, x1, x2, x3, x4⟩ := HBX.out.same (hD2.block w.heap.size (by rw [HS1.out]; omega))
                  dsimp only at x0 x1 x2 x3 x4
                  go_wp2_with fail
                  all_goals
                    try rw [Exit.noGoto_ret]
                    go_ret
                    exact ⟨by rw [HR.out]; first | rfl | (refine congrArg (fun b => Ending.returned (Value.bool b)) (?_ : _ = _); simp <;> first | assumption | omega), hE2⟩
              | false =>
                have HR : Hid (t.kinds.decl = false) := by show _ = _; rw [HQ.out]; simp [headK_neg, HML.out, hk31_0, hk32_1, hk33_2, hk35_3, hc4]
                obtain ⟨x0, x1, x2, x3, x4⟩ := HBX.out
                dsimp only at x0 x1 x2 x3 x4
                have hD1 := Below.refl W1.heap.size W1
                have hE1 := HB1.out
                have HC := headed_any t ht (f := 85) (P := (·.pred)) (enters_of Try.func85 (by kernel_rfl) rfl) (fun t' h => ispred_any t' (ht.kid h)) ⟨36, ps, (m : Int), txt, kp, kl, kc⟩ W1 (HT.out.later hE1)
                try dsimp only at HC
                have hcv : _ = _ := ((by rw [HL.out, HNUM.out, HTXT.out]) : headK t.num t.text (t.kids.map Nd.kinds) (·.pred) = headK (m : Int) txt L (·.pred))
                rw [hcv, hc4] at HC
                try unfold NC.val at HC
                go_wp2_with fail
                refine HC.mono ?_; rintro e W2 ⟨rfl, hC⟩
                have hD2 := hD1.trans (hC.mono hD1.size)
                have hE2 := HB1.out.trans (hD2.mono (by rw [HS1.out]; omega))
                clear HC hC hD1 hE1 x0 x1 x2 x3 x4 hcv
                obtain ⟨x0, x1, x2, x3, x4⟩ := HBX.out.same (hD2.block w.heap.size (by rw [HS1.out]; omega))
                dsimp only at x0 x1 x2 x3 x4
                go_wp2_with fail
                all_goals
                  try rw [Exit.noGoto_ret]
                  go_ret
                  exact ⟨by rw [HR.out]; first | rfl | (refine congrArg (fun b => Ending.returned (Value.bool b)) (?_ : _ = _); simp <;> first | assumption | omega), hE2⟩
          case neg =>
            have HR : Hid (t.kinds.decl = false) := by show _ = _; rw [HQ.out]; simp [headK_neg, HML.out, hk31_0, hk32_1, hk33_2, hk35_3, hk36_4]
            obtain ⟨x0, x1, x2, x3, x4⟩ := HBX.out
            dsimp only at x0 x1 x2 x3 x4
            have hD1 := Below.refl W1.heap.size W1
            have hE1 := HB1.out
            go_wp2_with fail
            all_goals
              try rw [Exit.noGoto_ret]
              go_ret
              exact ⟨by rw [HR.out]; first | rfl | (refine congrArg (fun b => Ending.returned (Value.bool b)) (?_ : _ = _); simp <;> first | assumption | omega), hE1⟩
end Go.Proofs.Ytlammclbnihopaa.N6
