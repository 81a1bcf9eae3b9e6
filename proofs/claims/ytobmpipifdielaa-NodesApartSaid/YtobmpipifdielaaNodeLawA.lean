/- The law NodesApart of layer 6, walked. -/
import Derived.Test.YtobmpipifdielaaNodeAwakeA
import Derived.Test.YtobmpipifdielaaNodeRead
namespace Go.Proofs.Ytobmpipifdielaa
open Go.RowKit

theorem typ_kind {t : Nd} (h : t.isTyp = true) : t.kind = 1 ∨ t.kind = 2 := by
  have h2 : t.kinds.typ = true := by unfold Nd.isTyp at h; simp at h; exact h.2
  rw [Nd.kinds_eq] at h2
  have h3 : typK t.kind t.num t.text (t.kids.map Nd.kinds) = true := h2
  unfold typK at h3
  split at h3
  · exact .inl ‹_›
  · split at h3
    · exact .inr ‹_›
    · cases h3
theorem pat_kind {t : Nd} (h : t.isPat = true) : t.kind = 11 ∨ t.kind = 12 ∨ t.kind = 13 ∨ t.kind = 14 := by
  have h2 : t.kinds.pat = true := by unfold Nd.isPat at h; simp at h; exact h.2
  rw [Nd.kinds_eq] at h2
  have h3 : patK t.kind t.num t.text (t.kids.map Nd.kinds) = true := h2
  unfold patK at h3
  repeat' split at h3
  all_goals first | (cases h3; done) | omega
theorem exp_kind {t : Nd} (h : t.isExp = true) : 21 ≤ t.kind ∧ t.kind ≤ 28 := by
  have h2 : t.kinds.exp = true := by unfold Nd.isExp at h; simp at h; exact h.2
  rw [Nd.kinds_eq] at h2
  have h3 : expK t.kind t.num t.text (t.kids.map Nd.kinds) = true := h2
  unfold expK at h3
  repeat' split at h3
  all_goals first | (cases h3; done) | omega
theorem dcl_kind {t : Nd} (h : t.isDcl = true) : 31 ≤ t.kind ∧ t.kind ≤ 37 := by
  have h2 : (if t.kind = 37 then decide (t.text = []) && (decide (t.num = 0) && (t.kids.map Nd.kinds).all (·.decl)) else t.kinds.decl) = true := by unfold Nd.isDcl at h; simp only [Bool.and_eq_true] at h; exact h.2
  split at h2
  · omega
  · rw [Nd.kinds_eq] at h2
    have h3 : declK t.kind t.num t.text (t.kids.map Nd.kinds) = true := h2
    unfold declK at h3
    repeat' split at h3
    all_goals first | (cases h3; done) | omega
/-- no tree is two of these -/
theorem apart (t : Nd) : (t.isTyp = true ∧ t.isPat = false ∧ t.isExp = false ∧ t.isDcl = false) ∨ (t.isTyp = false ∧ t.isPat = true ∧ t.isExp = false ∧ t.isDcl = false) ∨ (t.isTyp = false ∧ t.isPat = false ∧ t.isExp = true ∧ t.isDcl = false) ∨
    (t.isTyp = false ∧ t.isPat = false ∧ t.isExp = false ∧ t.isDcl = true) ∨ (t.isTyp = false ∧ t.isPat = false ∧ t.isExp = false ∧ t.isDcl = false) := by
  have a1 := @typ_kind t
  have a2 := @pat_kind t
  have a3 := @exp_kind t
  have a4 := @dcl_kind t
  cases h1 : t.isTyp <;> cases h2 : t.isPat <;> cases h3 : t.isExp <;> cases h4 : t.isDcl <;> simp [h1, h2, h3, h4] at a1 a2 a3 a4 ⊢ <;> omega
theorem depths_mem {t : Nd} {l : List Nd} (h : t ∈ l) : t.depth ≤ Nd.depths l := by
  induction l with
  | nil => cases h
  | cons x xs ih =>
    rw [Nd.depths_cons]
    rcases List.mem_cons.1 h with rfl | h
    · exact Nat.le_max_left _ _
    · exact Nat.le_trans (ih h) (Nat.le_max_right _ _)
theorem low_kid {t k : Nd} (h : t.low = true) (hk : k ∈ t.kids) : k.low = true := by
  unfold Nd.low at *
  have := depths_mem hk
  have e := Nd.depth_eq t
  simp at *
  omega
theorem typ_kid {t k : Nd} (h : t.isTyp = true) (hk : k ∈ t.kids) : k.isTyp = true := by
  unfold Nd.isTyp at *
  simp only [Bool.and_eq_true] at *
  refine ⟨low_kid h.1 hk, ?_⟩
  have h2 := h.2
  rw [Nd.kinds_eq] at h2
  have h3 : typK t.kind t.num t.text (t.kids.map Nd.kinds) = true := h2
  have hm : k.kinds ∈ t.kids.map Nd.kinds := List.mem_map.2 ⟨k, hk, rfl⟩
  generalize t.kids.map Nd.kinds = L at *
  unfold typK varK at h3
  split at h3
  · simp only [Bool.and_eq_true, decide_eq_true_eq] at h3
    rw [List.length_eq_zero_iff.1 h3.2.1] at hm; cases hm
  · split at h3
    · simp only [Bool.and_eq_true, List.all_eq_true] at h3
      exact h3.2.2 _ hm
    · cases h3
theorem pat_kid {t k : Nd} (h : t.isPat = true) (hk : k ∈ t.kids) : k.isPat = true := by
  unfold Nd.isPat at *
  simp only [Bool.and_eq_true] at *
  refine ⟨low_kid h.1 hk, ?_⟩
  have h2 := h.2
  rw [Nd.kinds_eq] at h2
  have h3 : patK t.kind t.num t.text (t.kids.map Nd.kinds) = true := h2
  have hm : k.kinds ∈ t.kids.map Nd.kinds := List.mem_map.2 ⟨k, hk, rfl⟩
  generalize t.kids.map Nd.kinds = L at *
  unfold patK varK at h3
  split at h3
  · simp only [Bool.and_eq_true, decide_eq_true_eq] at h3
    rw [List.length_eq_zero_iff.1 h3.2.1] at hm; cases hm
  · split at h3
    · simp only [Bool.and_eq_true, decide_eq_true_eq] at h3
      rw [List.length_eq_zero_iff.1 h3.2] at hm; cases hm
    · split at h3
      · simp only [Bool.and_eq_true, decide_eq_true_eq] at h3
        rw [List.length_eq_zero_iff.1 h3.2.2] at hm; cases hm
      · split at h3
        · simp only [Bool.and_eq_true, List.all_eq_true] at h3
          exact h3.2.2 _ hm
        · cases h3

set_option maxRecDepth 100000 in
set_option maxHeartbeats 8000000 in
theorem walk_NodesApart {c : NC} {t : Nd} {w : World} (h : TreeAt w c t) (hs : t.short) : Calls Try.prog 6 #[c.val] w (SaysIs true w) := by
  obtain ⟨W1, hW1, hb, hB, hz⟩ := box_of w c
  have HF := few_any (h.later hB)
  have h1 := h.later hB
  obtain ⟨k, ps, n, txt, kp, kl, kc⟩ := c
  have HW1 := Lib.hid hW1
  have HB := Lib.hid hB
  have HBX := Lib.hid hb
  have HZ := Lib.hid hz
  have HT := Lib.hid h1
  have HS := Lib.hid hs
  clear hW1 hB hb hz h1 hs h
  obtain ⟨x0, x1, x2, x3, x4⟩ := HBX.out
  dsimp only at x0 x1 x2 x3 x4
  dsimp only [NC.val] at HF ⊢
  go_enter Try.func6, Try.ntmps6
  go_upto_region 1 with fail
  rw [← HW1.out]
  clear HW1
  by_cases hf : t.size ≤ 3000
  case neg =>
    rw [if_neg hf] at HF
    go_wp2_with fail
    refine HF.mono ?_; rintro e W2 ⟨rfl, hC⟩
    have HA := awake_any W2
    go_wp2_with fail
    refine HA.mono ?_; rintro e W3 ⟨rfl, hC3⟩
    go_wp2_with fail
    go_ret
    exact ⟨rfl, HB.out.trans ((hC.trans (hC3.mono hC.size)).mono (by rw [HZ.out]; omega))⟩
  case pos =>
    rw [if_pos hf] at HF
    have ht : Nd.Fit t := ⟨by omega, HS.out⟩
    clear hf
    go_wp2_with fail
    refine HF.mono ?_; rintro e V ⟨rfl, hC⟩
    have HBX := Lib.hid (HBX.out.same (hC.block w.heap.size (by rw [HZ.out]; omega)))
    have HT := Lib.hid (HT.out.later hC)
    have HVB := Lib.hid (HB.out.trans (hC.mono (by rw [HZ.out]; omega)))
    have HVS : Hid (w.heap.size < V.heap.size) := by show _ < _; have := hC.size; rw [HZ.out] at this; omega
    clear HF hC x0 x1 x2 x3 x4
    have HLN : Hid (kl = t.kids.length) := HT.out.len
    have hkc : kl ≤ kc := TreeAt.fits HT.out
    have hk6 : kl ≤ 1000000 := by rw [HLN.out]; exact ht.len
    have HK := Lib.hid (TreeAt.kids HT.out)
    dsimp only at HK
    have hD0 := Below.refl V.heap.size V
    rcases apart t with ⟨h1, h2, h3, h4⟩ | ⟨h1, h2, h3, h4⟩ | ⟨h1, h2, h3, h4⟩ | ⟨h1, h2, h3, h4⟩ | ⟨h1, h2, h3, h4⟩
    ·
      have H1 := Lib.hid h1
      have H2 := Lib.hid h2
      have H3 := Lib.hid h3
      have H4 := Lib.hid h4
      clear h1 h2 h3 h4
      obtain ⟨x0, x1, x2, x3, x4⟩ := HBX.out.same (hD0.block w.heap.size HVS.out)
      dsimp only at x0 x1 x2 x3 x4
      have HC := type_any t ht ⟨k, ps, n, txt, kp, kl, kc⟩ V (HT.out.later hD0)
      rw [H1.out] at HC
      try dsimp only at HC
      try unfold NC.val at HC
      go_wp2_with fail
      refine HC.mono ?_; rintro e W1 ⟨rfl, hC⟩
      have hD1 := hD0.trans (hC.mono hD0.size)
      clear HC hC hD0 x0 x1 x2 x3 x4
      obtain ⟨x0, x1, x2, x3, x4⟩ := HBX.out.same (hD1.block w.heap.size HVS.out)
      dsimp only at x0 x1 x2 x3 x4
      have HC := pat_any t ht ⟨k, ps, n, txt, kp, kl, kc⟩ W1 (HT.out.later hD1)
      rw [H2.out] at HC
      try dsimp only at HC
      try unfold NC.val at HC
      go_wp2_with fail
      refine HC.mono ?_; rintro e W2 ⟨rfl, hC⟩
      have hD2 := hD1.trans (hC.mono hD1.size)
      clear HC hC hD1 x0 x1 x2 x3 x4
      obtain ⟨x0, x1, x2, x3, x4⟩ := HBX.out.same (hD2.block w.heap.size HVS.out)
      dsimp only at x0 x1 x2 x3 x4
      have HC := exp_any t ht ⟨k, ps, n, txt, kp, kl, kc⟩ W2 (HT.out.later hD2)
      rw [H3.out] at HC
      try dsimp only at HC
      try unfold NC.val at HC
      go_wp2_with fail
      refine HC.mono ?_; rintro e W3 ⟨rfl, hC⟩
      have hD3 := hD2.trans (hC.mono hD2.size)
      clear HC hC hD2 x0 x1 x2 x3 x4
      obtain ⟨x0, x1, x2, x3, x4⟩ := HBX.out.same (hD3.block w.heap.size HVS.out)
      dsimp only at x0 x1 x2 x3 x4
      have HC := decl_any t ht ⟨k, ps, n, txt, kp, kl, kc⟩ W3 (HT.out.later hD3)
      rw [H4.out] at HC
      try dsimp only at HC
      try unfold NC.val at HC
      go_wp2_with fail
      refine HC.mono ?_; rintro e W4 ⟨rfl, hC⟩
      have hD4 := hD3.trans (hC.mono hD3.size)
      clear HC hC hD3 x0 x1 x2 x3 x4
      obtain ⟨x0, x1, x2, x3, x4⟩ := HBX.out.same (hD4.block w.heap.size HVS.out)
      dsimp only at x0 x1 x2 x3 x4
      go_wp2_with fail
      go_loopg [4] kl (fun g q wr => ∃ j : Nat, j + g = kl ∧ q = .int .i64 (j : Int) ∧ Below V.heap.size V wr)
      case atStart => exact ⟨0, by omega, rfl, hD4⟩
      case round =>
        obtain ⟨j, hjg, rfl, hDj⟩ := hrel
        clear hD4 x0 x1 x2 x3 x4
        obtain ⟨W9, rfl⟩ : ∃ x : World, x = wr := ⟨_, rfl⟩
        have hD9 := hDj
        clear hDj
        cases gk with
        | zero =>
          have hlt' : ¬ (j : Int) < (kl : Int) := by omega
          clear hjg
          obtain ⟨x0, x1, x2, x3, x4⟩ := HBX.out.same (hD9.block w.heap.size HVS.out)
          dsimp only at x0 x1 x2 x3 x4
          have HC := awake_any W9
          try dsimp only at HC
          try unfold NC.val at HC
          go_wp2_with fail
          refine HC.mono ?_; rintro e W10 ⟨rfl, hC⟩
          have hD10 := hD9.trans (hC.mono hD9.size)
          clear HC hC hD9 x0 x1 x2 x3 x4
          obtain ⟨x0, x1, x2, x3, x4⟩ := HBX.out.same (hD10.block w.heap.size HVS.out)
          dsimp only at x0 x1 x2 x3 x4
          go_wp2_with fail
          all_goals
            try rw [Exit.noGoto_ret]
            go_ret
            exact ⟨by simp, HVB.out.trans (hD10.mono (Nat.le_of_lt HVS.out))⟩
        | succ g =>
          have hlt : j < kl := by omega
          have hlt' : (j : Int) < (kl : Int) := by omega
          have hj6 : (j : Int) ≤ 1000000 := by omega
          have hjt : j < t.kids.length := by rw [← HLN.out]; exact hlt
          obtain ⟨⟨kk, kps, kn, ktx, kkp, kkl, kkc⟩, gr, or, hpr, hgr, htr, hcr⟩ := HK.out.at j hjt
          have HPR := Lib.hid hpr
          have HGR := Lib.hid hgr
          have HTR := Lib.hid htr
          have HCR := Lib.hid hcr
          have htK : Nd.Fit t.kids[j] := ht.kid (List.getElem_mem _)
          clear hpr hgr htr hcr
          obtain ⟨x0, x1, x2, x3, x4⟩ := HBX.out.same (hD9.block w.heap.size HVS.out)
          dsimp only at x0 x1 x2 x3 x4
          rw [HPR.out] at x4
          obtain ⟨r0, r1, r2, r3, r4⟩ := HCR.out _ (hD9.block _ HGR.out)
          try dsimp only at r0 r1 r2 r3 r4
          have HC := type_any t ht ⟨k, ps, n, txt, kp, kl, kc⟩ W9 (HT.out.later hD9)
          rw [H1.out] at HC
          try dsimp only at HC
          rw [HPR.out] at HC
          try unfold NC.val at HC
          go_wp2_with fail
          refine HC.mono ?_; rintro e W10 ⟨rfl, hC⟩
          have hD10 := hD9.trans (hC.mono hD9.size)
          clear HC hC hD9 x0 x1 x2 x3 x4 r0 r1 r2 r3 r4
          obtain ⟨x0, x1, x2, x3, x4⟩ := HBX.out.same (hD10.block w.heap.size HVS.out)
          dsimp only at x0 x1 x2 x3 x4
          rw [HPR.out] at x4
          obtain ⟨r0, r1, r2, r3, r4⟩ := HCR.out _ (hD10.block _ HGR.out)
          try dsimp only at r0 r1 r2 r3 r4
          have HC := type_any _ htK _ W10 (HTR.out.later hD10)
          rw [typ_kid H1.out (List.getElem_mem _)] at HC
          try dsimp only at HC
          try unfold NC.val at HC
          go_wp2_with fail
          refine HC.mono ?_; rintro e W11 ⟨rfl, hC⟩
          have hD11 := hD10.trans (hC.mono hD10.size)
          clear HC hC hD10 x0 x1 x2 x3 x4 r0 r1 r2 r3 r4
          obtain ⟨x0, x1, x2, x3, x4⟩ := HBX.out.same (hD11.block w.heap.size HVS.out)
          dsimp only at x0 x1 x2 x3 x4
          rw [HPR.out] at x4
          obtain ⟨r0, r1, r2, r3, r4⟩ := HCR.out _ (hD11.block _ HGR.out)
          try dsimp only at r0 r1 r2 r3 r4
          have HC := pat_any t ht ⟨k, ps, n, txt, kp, kl, kc⟩ W11 (HT.out.later hD11)
          rw [H2.out] at HC
          try dsimp only at HC
          rw [HPR.out] at HC
          try unfold NC.val at HC
          go_wp2_with fail
          refine HC.mono ?_; rintro e W12 ⟨rfl, hC⟩
          have hD12 := hD11.trans (hC.mono hD11.size)
          clear HC hC hD11 x0 x1 x2 x3 x4 r0 r1 r2 r3 r4
          obtain ⟨x0, x1, x2, x3, x4⟩ := HBX.out.same (hD12.block w.heap.size HVS.out)
          dsimp only at x0 x1 x2 x3 x4
          rw [HPR.out] at x4
          obtain ⟨r0, r1, r2, r3, r4⟩ := HCR.out _ (hD12.block _ HGR.out)
          try dsimp only at r0 r1 r2 r3 r4
          go_wp2_with fail
          go_roundg g
          case measure => omega
          case rel => exact ⟨j + 1, by omega, (by go_num), hD12⟩
    ·
      have H1 := Lib.hid h1
      have H2 := Lib.hid h2
      have H3 := Lib.hid h3
      have H4 := Lib.hid h4
      clear h1 h2 h3 h4
      obtain ⟨x0, x1, x2, x3, x4⟩ := HBX.out.same (hD0.block w.heap.size HVS.out)
      dsimp only at x0 x1 x2 x3 x4
      have HC := type_any t ht ⟨k, ps, n, txt, kp, kl, kc⟩ V (HT.out.later hD0)
      rw [H1.out] at HC
      try dsimp only at HC
      try unfold NC.val at HC
      go_wp2_with fail
      refine HC.mono ?_; rintro e W1 ⟨rfl, hC⟩
      have hD1 := hD0.trans (hC.mono hD0.size)
      clear HC hC hD0 x0 x1 x2 x3 x4
      obtain ⟨x0, x1, x2, x3, x4⟩ := HBX.out.same (hD1.block w.heap.size HVS.out)
      dsimp only at x0 x1 x2 x3 x4
      have HC := pat_any t ht ⟨k, ps, n, txt, kp, kl, kc⟩ W1 (HT.out.later hD1)
      rw [H2.out] at HC
      try dsimp only at HC
      try unfold NC.val at HC
      go_wp2_with fail
      refine HC.mono ?_; rintro e W2 ⟨rfl, hC⟩
      have hD2 := hD1.trans (hC.mono hD1.size)
      clear HC hC hD1 x0 x1 x2 x3 x4
      obtain ⟨x0, x1, x2, x3, x4⟩ := HBX.out.same (hD2.block w.heap.size HVS.out)
      dsimp only at x0 x1 x2 x3 x4
      have HC := exp_any t ht ⟨k, ps, n, txt, kp, kl, kc⟩ W2 (HT.out.later hD2)
      rw [H3.out] at HC
      try dsimp only at HC
      try unfold NC.val at HC
      go_wp2_with fail
      refine HC.mono ?_; rintro e W3 ⟨rfl, hC⟩
      have hD3 := hD2.trans (hC.mono hD2.size)
      clear HC hC hD2 x0 x1 x2 x3 x4
      obtain ⟨x0, x1, x2, x3, x4⟩ := HBX.out.same (hD3.block w.heap.size HVS.out)
      dsimp only at x0 x1 x2 x3 x4
      have HC := decl_any t ht ⟨k, ps, n, txt, kp, kl, kc⟩ W3 (HT.out.later hD3)
      rw [H4.out] at HC
      try dsimp only at HC
      try unfold NC.val at HC
      go_wp2_with fail
      refine HC.mono ?_; rintro e W4 ⟨rfl, hC⟩
      have hD4 := hD3.trans (hC.mono hD3.size)
      clear HC hC hD3 x0 x1 x2 x3 x4
      obtain ⟨x0, x1, x2, x3, x4⟩ := HBX.out.same (hD4.block w.heap.size HVS.out)
      dsimp only at x0 x1 x2 x3 x4
      go_wp2_with fail
      go_loopg [4] kl (fun g q wr => ∃ j : Nat, j + g = kl ∧ q = .int .i64 (j : Int) ∧ Below V.heap.size V wr)
      case atStart => exact ⟨0, by omega, rfl, hD4⟩
      case round =>
        obtain ⟨j, hjg, rfl, hDj⟩ := hrel
        clear hD4 x0 x1 x2 x3 x4
        obtain ⟨W9, rfl⟩ : ∃ x : World, x = wr := ⟨_, rfl⟩
        have hD9 := hDj
        clear hDj
        cases gk with
        | zero =>
          have hlt' : ¬ (j : Int) < (kl : Int) := by omega
          clear hjg
          obtain ⟨x0, x1, x2, x3, x4⟩ := HBX.out.same (hD9.block w.heap.size HVS.out)
          dsimp only at x0 x1 x2 x3 x4
          have HC := awake_any W9
          try dsimp only at HC
          try unfold NC.val at HC
          go_wp2_with fail
          refine HC.mono ?_; rintro e W10 ⟨rfl, hC⟩
          have hD10 := hD9.trans (hC.mono hD9.size)
          clear HC hC hD9 x0 x1 x2 x3 x4
          obtain ⟨x0, x1, x2, x3, x4⟩ := HBX.out.same (hD10.block w.heap.size HVS.out)
          dsimp only at x0 x1 x2 x3 x4
          go_wp2_with fail
          all_goals
            try rw [Exit.noGoto_ret]
            go_ret
            exact ⟨by simp, HVB.out.trans (hD10.mono (Nat.le_of_lt HVS.out))⟩
        | succ g =>
          have hlt : j < kl := by omega
          have hlt' : (j : Int) < (kl : Int) := by omega
          have hj6 : (j : Int) ≤ 1000000 := by omega
          have hjt : j < t.kids.length := by rw [← HLN.out]; exact hlt
          obtain ⟨⟨kk, kps, kn, ktx, kkp, kkl, kkc⟩, gr, or, hpr, hgr, htr, hcr⟩ := HK.out.at j hjt
          have HPR := Lib.hid hpr
          have HGR := Lib.hid hgr
          have HTR := Lib.hid htr
          have HCR := Lib.hid hcr
          have htK : Nd.Fit t.kids[j] := ht.kid (List.getElem_mem _)
          clear hpr hgr htr hcr
          obtain ⟨x0, x1, x2, x3, x4⟩ := HBX.out.same (hD9.block w.heap.size HVS.out)
          dsimp only at x0 x1 x2 x3 x4
          rw [HPR.out] at x4
          obtain ⟨r0, r1, r2, r3, r4⟩ := HCR.out _ (hD9.block _ HGR.out)
          try dsimp only at r0 r1 r2 r3 r4
          have HC := type_any t ht ⟨k, ps, n, txt, kp, kl, kc⟩ W9 (HT.out.later hD9)
          rw [H1.out] at HC
          try dsimp only at HC
          rw [HPR.out] at HC
          try unfold NC.val at HC
          go_wp2_with fail
          refine HC.mono ?_; rintro e W10 ⟨rfl, hC⟩
          have hD10 := hD9.trans (hC.mono hD9.size)
          clear HC hC hD9 x0 x1 x2 x3 x4 r0 r1 r2 r3 r4
          obtain ⟨x0, x1, x2, x3, x4⟩ := HBX.out.same (hD10.block w.heap.size HVS.out)
          dsimp only at x0 x1 x2 x3 x4
          rw [HPR.out] at x4
          obtain ⟨r0, r1, r2, r3, r4⟩ := HCR.out _ (hD10.block _ HGR.out)
          try dsimp only at r0 r1 r2 r3 r4
          have HC := pat_any t ht ⟨k, ps, n, txt, kp, kl, kc⟩ W10 (HT.out.later hD10)
          rw [H2.out] at HC
          try dsimp only at HC
          rw [HPR.out] at HC
          try unfold NC.val at HC
          go_wp2_with fail
          refine HC.mono ?_; rintro e W11 ⟨rfl, hC⟩
          have hD11 := hD10.trans (hC.mono hD10.size)
          clear HC hC hD10 x0 x1 x2 x3 x4 r0 r1 r2 r3 r4
          obtain ⟨x0, x1, x2, x3, x4⟩ := HBX.out.same (hD11.block w.heap.size HVS.out)
          dsimp only at x0 x1 x2 x3 x4
          rw [HPR.out] at x4
          obtain ⟨r0, r1, r2, r3, r4⟩ := HCR.out _ (hD11.block _ HGR.out)
          try dsimp only at r0 r1 r2 r3 r4
          have HC := pat_any _ htK _ W11 (HTR.out.later hD11)
          rw [pat_kid H2.out (List.getElem_mem _)] at HC
          try dsimp only at HC
          try unfold NC.val at HC
          go_wp2_with fail
          refine HC.mono ?_; rintro e W12 ⟨rfl, hC⟩
          have hD12 := hD11.trans (hC.mono hD11.size)
          clear HC hC hD11 x0 x1 x2 x3 x4 r0 r1 r2 r3 r4
          obtain ⟨x0, x1, x2, x3, x4⟩ := HBX.out.same (hD12.block w.heap.size HVS.out)
          dsimp only at x0 x1 x2 x3 x4
          rw [HPR.out] at x4
          obtain ⟨r0, r1, r2, r3, r4⟩ := HCR.out _ (hD12.block _ HGR.out)
          try dsimp only at r0 r1 r2 r3 r4
          go_wp2_with fail
          go_roundg g
          case measure => omega
          case rel => exact ⟨j + 1, by omega, (by go_num), hD12⟩
    ·
      have H1 := Lib.hid h1
      have H2 := Lib.hid h2
      have H3 := Lib.hid h3
      have H4 := Lib.hid h4
      clear h1 h2 h3 h4
      obtain ⟨x0, x1, x2, x3, x4⟩ := HBX.out.same (hD0.block w.heap.size HVS.out)
      dsimp only at x0 x1 x2 x3 x4
      have HC := type_any t ht ⟨k, ps, n, txt, kp, kl, kc⟩ V (HT.out.later hD0)
      rw [H1.out] at HC
      try dsimp only at HC
      try unfold NC.val at HC
      go_wp2_with fail
      refine HC.mono ?_; rintro e W1 ⟨rfl, hC⟩
      have hD1 := hD0.trans (hC.mono hD0.size)
      clear HC hC hD0 x0 x1 x2 x3 x4
      obtain ⟨x0, x1, x2, x3, x4⟩ := HBX.out.same (hD1.block w.heap.size HVS.out)
      dsimp only at x0 x1 x2 x3 x4
      have HC := pat_any t ht ⟨k, ps, n, txt, kp, kl, kc⟩ W1 (HT.out.later hD1)
      rw [H2.out] at HC
      try dsimp only at HC
      try unfold NC.val at HC
      go_wp2_with fail
      refine HC.mono ?_; rintro e W2 ⟨rfl, hC⟩
      have hD2 := hD1.trans (hC.mono hD1.size)
      clear HC hC hD1 x0 x1 x2 x3 x4
      obtain ⟨x0, x1, x2, x3, x4⟩ := HBX.out.same (hD2.block w.heap.size HVS.out)
      dsimp only at x0 x1 x2 x3 x4
      have HC := exp_any t ht ⟨k, ps, n, txt, kp, kl, kc⟩ W2 (HT.out.later hD2)
      rw [H3.out] at HC
      try dsimp only at HC
      try unfold NC.val at HC
      go_wp2_with fail
      refine HC.mono ?_; rintro e W3 ⟨rfl, hC⟩
      have hD3 := hD2.trans (hC.mono hD2.size)
      clear HC hC hD2 x0 x1 x2 x3 x4
      obtain ⟨x0, x1, x2, x3, x4⟩ := HBX.out.same (hD3.block w.heap.size HVS.out)
      dsimp only at x0 x1 x2 x3 x4
      have HC := decl_any t ht ⟨k, ps, n, txt, kp, kl, kc⟩ W3 (HT.out.later hD3)
      rw [H4.out] at HC
      try dsimp only at HC
      try unfold NC.val at HC
      go_wp2_with fail
      refine HC.mono ?_; rintro e W4 ⟨rfl, hC⟩
      have hD4 := hD3.trans (hC.mono hD3.size)
      clear HC hC hD3 x0 x1 x2 x3 x4
      obtain ⟨x0, x1, x2, x3, x4⟩ := HBX.out.same (hD4.block w.heap.size HVS.out)
      dsimp only at x0 x1 x2 x3 x4
      go_wp2_with fail
      go_loopg [4] kl (fun g q wr => ∃ j : Nat, j + g = kl ∧ q = .int .i64 (j : Int) ∧ Below V.heap.size V wr)
      case atStart => exact ⟨0, by omega, rfl, hD4⟩
      case round =>
        obtain ⟨j, hjg, rfl, hDj⟩ := hrel
        clear hD4 x0 x1 x2 x3 x4
        obtain ⟨W9, rfl⟩ : ∃ x : World, x = wr := ⟨_, rfl⟩
        have hD9 := hDj
        clear hDj
        cases gk with
        | zero =>
          have hlt' : ¬ (j : Int) < (kl : Int) := by omega
          clear hjg
          obtain ⟨x0, x1, x2, x3, x4⟩ := HBX.out.same (hD9.block w.heap.size HVS.out)
          dsimp only at x0 x1 x2 x3 x4
          have HC := awake_any W9
          try dsimp only at HC
          try unfold NC.val at HC
          go_wp2_with fail
          refine HC.mono ?_; rintro e W10 ⟨rfl, hC⟩
          have hD10 := hD9.trans (hC.mono hD9.size)
          clear HC hC hD9 x0 x1 x2 x3 x4
          obtain ⟨x0, x1, x2, x3, x4⟩ := HBX.out.same (hD10.block w.heap.size HVS.out)
          dsimp only at x0 x1 x2 x3 x4
          go_wp2_with fail
          all_goals
            try rw [Exit.noGoto_ret]
            go_ret
            exact ⟨by simp, HVB.out.trans (hD10.mono (Nat.le_of_lt HVS.out))⟩
        | succ g =>
          have hlt : j < kl := by omega
          have hlt' : (j : Int) < (kl : Int) := by omega
          have hj6 : (j : Int) ≤ 1000000 := by omega
          have hjt : j < t.kids.length := by rw [← HLN.out]; exact hlt
          obtain ⟨⟨kk, kps, kn, ktx, kkp, kkl, kkc⟩, gr, or, hpr, hgr, htr, hcr⟩ := HK.out.at j hjt
          have HPR := Lib.hid hpr
          have HGR := Lib.hid hgr
          have HTR := Lib.hid htr
          have HCR := Lib.hid hcr
          have htK : Nd.Fit t.kids[j] := ht.kid (List.getElem_mem _)
          clear hpr hgr htr hcr
          obtain ⟨x0, x1, x2, x3, x4⟩ := HBX.out.same (hD9.block w.heap.size HVS.out)
          dsimp only at x0 x1 x2 x3 x4
          rw [HPR.out] at x4
          obtain ⟨r0, r1, r2, r3, r4⟩ := HCR.out _ (hD9.block _ HGR.out)
          try dsimp only at r0 r1 r2 r3 r4
          have HC := type_any t ht ⟨k, ps, n, txt, kp, kl, kc⟩ W9 (HT.out.later hD9)
          rw [H1.out] at HC
          try dsimp only at HC
          rw [HPR.out] at HC
          try unfold NC.val at HC
          go_wp2_with fail
          refine HC.mono ?_; rintro e W10 ⟨rfl, hC⟩
          have hD10 := hD9.trans (hC.mono hD9.size)
          clear HC hC hD9 x0 x1 x2 x3 x4 r0 r1 r2 r3 r4
          obtain ⟨x0, x1, x2, x3, x4⟩ := HBX.out.same (hD10.block w.heap.size HVS.out)
          dsimp only at x0 x1 x2 x3 x4
          rw [HPR.out] at x4
          obtain ⟨r0, r1, r2, r3, r4⟩ := HCR.out _ (hD10.block _ HGR.out)
          try dsimp only at r0 r1 r2 r3 r4
          have HC := pat_any t ht ⟨k, ps, n, txt, kp, kl, kc⟩ W10 (HT.out.later hD10)
          rw [H2.out] at HC
          try dsimp only at HC
          rw [HPR.out] at HC
          try unfold NC.val at HC
          go_wp2_with fail
          refine HC.mono ?_; rintro e W11 ⟨rfl, hC⟩
          have hD11 := hD10.trans (hC.mono hD10.size)
          clear HC hC hD10 x0 x1 x2 x3 x4 r0 r1 r2 r3 r4
          obtain ⟨x0, x1, x2, x3, x4⟩ := HBX.out.same (hD11.block w.heap.size HVS.out)
          dsimp only at x0 x1 x2 x3 x4
          rw [HPR.out] at x4
          obtain ⟨r0, r1, r2, r3, r4⟩ := HCR.out _ (hD11.block _ HGR.out)
          try dsimp only at r0 r1 r2 r3 r4
          go_wp2_with fail
          go_roundg g
          case measure => omega
          case rel => exact ⟨j + 1, by omega, (by go_num), hD11⟩
    ·
      have H1 := Lib.hid h1
      have H2 := Lib.hid h2
      have H3 := Lib.hid h3
      have H4 := Lib.hid h4
      clear h1 h2 h3 h4
      obtain ⟨x0, x1, x2, x3, x4⟩ := HBX.out.same (hD0.block w.heap.size HVS.out)
      dsimp only at x0 x1 x2 x3 x4
      have HC := type_any t ht ⟨k, ps, n, txt, kp, kl, kc⟩ V (HT.out.later hD0)
      rw [H1.out] at HC
      try dsimp only at HC
      try unfold NC.val at HC
      go_wp2_with fail
      refine HC.mono ?_; rintro e W1 ⟨rfl, hC⟩
      have hD1 := hD0.trans (hC.mono hD0.size)
      clear HC hC hD0 x0 x1 x2 x3 x4
      obtain ⟨x0, x1, x2, x3, x4⟩ := HBX.out.same (hD1.block w.heap.size HVS.out)
      dsimp only at x0 x1 x2 x3 x4
      have HC := pat_any t ht ⟨k, ps, n, txt, kp, kl, kc⟩ W1 (HT.out.later hD1)
      rw [H2.out] at HC
      try dsimp only at HC
      try unfold NC.val at HC
      go_wp2_with fail
      refine HC.mono ?_; rintro e W2 ⟨rfl, hC⟩
      have hD2 := hD1.trans (hC.mono hD1.size)
      clear HC hC hD1 x0 x1 x2 x3 x4
      obtain ⟨x0, x1, x2, x3, x4⟩ := HBX.out.same (hD2.block w.heap.size HVS.out)
      dsimp only at x0 x1 x2 x3 x4
      have HC := exp_any t ht ⟨k, ps, n, txt, kp, kl, kc⟩ W2 (HT.out.later hD2)
      rw [H3.out] at HC
      try dsimp only at HC
      try unfold NC.val at HC
      go_wp2_with fail
      refine HC.mono ?_; rintro e W3 ⟨rfl, hC⟩
      have hD3 := hD2.trans (hC.mono hD2.size)
      clear HC hC hD2 x0 x1 x2 x3 x4
      obtain ⟨x0, x1, x2, x3, x4⟩ := HBX.out.same (hD3.block w.heap.size HVS.out)
      dsimp only at x0 x1 x2 x3 x4
      have HC := decl_any t ht ⟨k, ps, n, txt, kp, kl, kc⟩ W3 (HT.out.later hD3)
      rw [H4.out] at HC
      try dsimp only at HC
      try unfold NC.val at HC
      go_wp2_with fail
      refine HC.mono ?_; rintro e W4 ⟨rfl, hC⟩
      have hD4 := hD3.trans (hC.mono hD3.size)
      clear HC hC hD3 x0 x1 x2 x3 x4
      obtain ⟨x0, x1, x2, x3, x4⟩ := HBX.out.same (hD4.block w.heap.size HVS.out)
      dsimp only at x0 x1 x2 x3 x4
      go_wp2_with fail
      go_loopg [4] kl (fun g q wr => ∃ j : Nat, j + g = kl ∧ q = .int .i64 (j : Int) ∧ Below V.heap.size V wr)
      case atStart => exact ⟨0, by omega, rfl, hD4⟩
      case round =>
        obtain ⟨j, hjg, rfl, hDj⟩ := hrel
        clear hD4 x0 x1 x2 x3 x4
        obtain ⟨W9, rfl⟩ : ∃ x : World, x = wr := ⟨_, rfl⟩
        have hD9 := hDj
        clear hDj
        cases gk with
        | zero =>
          have hlt' : ¬ (j : Int) < (kl : Int) := by omega
          clear hjg
          obtain ⟨x0, x1, x2, x3, x4⟩ := HBX.out.same (hD9.block w.heap.size HVS.out)
          dsimp only at x0 x1 x2 x3 x4
          have HC := awake_any W9
          try dsimp only at HC
          try unfold NC.val at HC
          go_wp2_with fail
          refine HC.mono ?_; rintro e W10 ⟨rfl, hC⟩
          have hD10 := hD9.trans (hC.mono hD9.size)
          clear HC hC hD9 x0 x1 x2 x3 x4
          obtain ⟨x0, x1, x2, x3, x4⟩ := HBX.out.same (hD10.block w.heap.size HVS.out)
          dsimp only at x0 x1 x2 x3 x4
          go_wp2_with fail
          all_goals
            try rw [Exit.noGoto_ret]
            go_ret
            exact ⟨by simp, HVB.out.trans (hD10.mono (Nat.le_of_lt HVS.out))⟩
        | succ g =>
          have hlt : j < kl := by omega
          have hlt' : (j : Int) < (kl : Int) := by omega
          have hj6 : (j : Int) ≤ 1000000 := by omega
          have hjt : j < t.kids.length := by rw [← HLN.out]; exact hlt
          obtain ⟨⟨kk, kps, kn, ktx, kkp, kkl, kkc⟩, gr, or, hpr, hgr, htr, hcr⟩ := HK.out.at j hjt
          have HPR := Lib.hid hpr
          have HGR := Lib.hid hgr
          have HTR := Lib.hid htr
          have HCR := Lib.hid hcr
          have htK : Nd.Fit t.kids[j] := ht.kid (List.getElem_mem _)
          clear hpr hgr htr hcr
          obtain ⟨x0, x1, x2, x3, x4⟩ := HBX.out.same (hD9.block w.heap.size HVS.out)
          dsimp only at x0 x1 x2 x3 x4
          rw [HPR.out] at x4
          obtain ⟨r0, r1, r2, r3, r4⟩ := HCR.out _ (hD9.block _ HGR.out)
          try dsimp only at r0 r1 r2 r3 r4
          have HC := type_any t ht ⟨k, ps, n, txt, kp, kl, kc⟩ W9 (HT.out.later hD9)
          rw [H1.out] at HC
          try dsimp only at HC
          rw [HPR.out] at HC
          try unfold NC.val at HC
          go_wp2_with fail
          refine HC.mono ?_; rintro e W10 ⟨rfl, hC⟩
          have hD10 := hD9.trans (hC.mono hD9.size)
          clear HC hC hD9 x0 x1 x2 x3 x4 r0 r1 r2 r3 r4
          obtain ⟨x0, x1, x2, x3, x4⟩ := HBX.out.same (hD10.block w.heap.size HVS.out)
          dsimp only at x0 x1 x2 x3 x4
          rw [HPR.out] at x4
          obtain ⟨r0, r1, r2, r3, r4⟩ := HCR.out _ (hD10.block _ HGR.out)
          try dsimp only at r0 r1 r2 r3 r4
          have HC := pat_any t ht ⟨k, ps, n, txt, kp, kl, kc⟩ W10 (HT.out.later hD10)
          rw [H2.out] at HC
          try dsimp only at HC
          rw [HPR.out] at HC
          try unfold NC.val at HC
          go_wp2_with fail
          refine HC.mono ?_; rintro e W11 ⟨rfl, hC⟩
          have hD11 := hD10.trans (hC.mono hD10.size)
          clear HC hC hD10 x0 x1 x2 x3 x4 r0 r1 r2 r3 r4
          obtain ⟨x0, x1, x2, x3, x4⟩ := HBX.out.same (hD11.block w.heap.size HVS.out)
          dsimp only at x0 x1 x2 x3 x4
          rw [HPR.out] at x4
          obtain ⟨r0, r1, r2, r3, r4⟩ := HCR.out _ (hD11.block _ HGR.out)
          try dsimp only at r0 r1 r2 r3 r4
          go_wp2_with fail
          go_roundg g
          case measure => omega
          case rel => exact ⟨j + 1, by omega, (by go_num), hD11⟩
    ·
      have H1 := Lib.hid h1
      have H2 := Lib.hid h2
      have H3 := Lib.hid h3
      have H4 := Lib.hid h4
      clear h1 h2 h3 h4
      obtain ⟨x0, x1, x2, x3, x4⟩ := HBX.out.same (hD0.block w.heap.size HVS.out)
      dsimp only at x0 x1 x2 x3 x4
      have HC := type_any t ht ⟨k, ps, n, txt, kp, kl, kc⟩ V (HT.out.later hD0)
      rw [H1.out] at HC
      try dsimp only at HC
      try unfold NC.val at HC
      go_wp2_with fail
      refine HC.mono ?_; rintro e W1 ⟨rfl, hC⟩
      have hD1 := hD0.trans (hC.mono hD0.size)
      clear HC hC hD0 x0 x1 x2 x3 x4
      obtain ⟨x0, x1, x2, x3, x4⟩ := HBX.out.same (hD1.block w.heap.size HVS.out)
      dsimp only at x0 x1 x2 x3 x4
      have HC := pat_any t ht ⟨k, ps, n, txt, kp, kl, kc⟩ W1 (HT.out.later hD1)
      rw [H2.out] at HC
      try dsimp only at HC
      try unfold NC.val at HC
      go_wp2_with fail
      refine HC.mono ?_; rintro e W2 ⟨rfl, hC⟩
      have hD2 := hD1.trans (hC.mono hD1.size)
      clear HC hC hD1 x0 x1 x2 x3 x4
      obtain ⟨x0, x1, x2, x3, x4⟩ := HBX.out.same (hD2.block w.heap.size HVS.out)
      dsimp only at x0 x1 x2 x3 x4
      have HC := exp_any t ht ⟨k, ps, n, txt, kp, kl, kc⟩ W2 (HT.out.later hD2)
      rw [H3.out] at HC
      try dsimp only at HC
      try unfold NC.val at HC
      go_wp2_with fail
      refine HC.mono ?_; rintro e W3 ⟨rfl, hC⟩
      have hD3 := hD2.trans (hC.mono hD2.size)
      clear HC hC hD2 x0 x1 x2 x3 x4
      obtain ⟨x0, x1, x2, x3, x4⟩ := HBX.out.same (hD3.block w.heap.size HVS.out)
      dsimp only at x0 x1 x2 x3 x4
      have HC := decl_any t ht ⟨k, ps, n, txt, kp, kl, kc⟩ W3 (HT.out.later hD3)
      rw [H4.out] at HC
      try dsimp only at HC
      try unfold NC.val at HC
      go_wp2_with fail
      refine HC.mono ?_; rintro e W4 ⟨rfl, hC⟩
      have hD4 := hD3.trans (hC.mono hD3.size)
      clear HC hC hD3 x0 x1 x2 x3 x4
      obtain ⟨x0, x1, x2, x3, x4⟩ := HBX.out.same (hD4.block w.heap.size HVS.out)
      dsimp only at x0 x1 x2 x3 x4
      go_wp2_with fail
      go_loopg [4] kl (fun g q wr => ∃ j : Nat, j + g = kl ∧ q = .int .i64 (j : Int) ∧ Below V.heap.size V wr)
      case atStart => exact ⟨0, by omega, rfl, hD4⟩
      case round =>
        obtain ⟨j, hjg, rfl, hDj⟩ := hrel
        clear hD4 x0 x1 x2 x3 x4
        obtain ⟨W9, rfl⟩ : ∃ x : World, x = wr := ⟨_, rfl⟩
        have hD9 := hDj
        clear hDj
        cases gk with
        | zero =>
          have hlt' : ¬ (j : Int) < (kl : Int) := by omega
          clear hjg
          obtain ⟨x0, x1, x2, x3, x4⟩ := HBX.out.same (hD9.block w.heap.size HVS.out)
          dsimp only at x0 x1 x2 x3 x4
          have HC := awake_any W9
          try dsimp only at HC
          try unfold NC.val at HC
          go_wp2_with fail
          refine HC.mono ?_; rintro e W10 ⟨rfl, hC⟩
          have hD10 := hD9.trans (hC.mono hD9.size)
          clear HC hC hD9 x0 x1 x2 x3 x4
          obtain ⟨x0, x1, x2, x3, x4⟩ := HBX.out.same (hD10.block w.heap.size HVS.out)
          dsimp only at x0 x1 x2 x3 x4
          go_wp2_with fail
          all_goals
            try rw [Exit.noGoto_ret]
            go_ret
            exact ⟨by simp, HVB.out.trans (hD10.mono (Nat.le_of_lt HVS.out))⟩
        | succ g =>
          have hlt : j < kl := by omega
          have hlt' : (j : Int) < (kl : Int) := by omega
          have hj6 : (j : Int) ≤ 1000000 := by omega
          have hjt : j < t.kids.length := by rw [← HLN.out]; exact hlt
          obtain ⟨⟨kk, kps, kn, ktx, kkp, kkl, kkc⟩, gr, or, hpr, hgr, htr, hcr⟩ := HK.out.at j hjt
          have HPR := Lib.hid hpr
          have HGR := Lib.hid hgr
          have HTR := Lib.hid htr
          have HCR := Lib.hid hcr
          have htK : Nd.Fit t.kids[j] := ht.kid (List.getElem_mem _)
          clear hpr hgr htr hcr
          obtain ⟨x0, x1, x2, x3, x4⟩ := HBX.out.same (hD9.block w.heap.size HVS.out)
          dsimp only at x0 x1 x2 x3 x4
          rw [HPR.out] at x4
          obtain ⟨r0, r1, r2, r3, r4⟩ := HCR.out _ (hD9.block _ HGR.out)
          try dsimp only at r0 r1 r2 r3 r4
          have HC := type_any t ht ⟨k, ps, n, txt, kp, kl, kc⟩ W9 (HT.out.later hD9)
          rw [H1.out] at HC
          try dsimp only at HC
          rw [HPR.out] at HC
          try unfold NC.val at HC
          go_wp2_with fail
          refine HC.mono ?_; rintro e W10 ⟨rfl, hC⟩
          have hD10 := hD9.trans (hC.mono hD9.size)
          clear HC hC hD9 x0 x1 x2 x3 x4 r0 r1 r2 r3 r4
          obtain ⟨x0, x1, x2, x3, x4⟩ := HBX.out.same (hD10.block w.heap.size HVS.out)
          dsimp only at x0 x1 x2 x3 x4
          rw [HPR.out] at x4
          obtain ⟨r0, r1, r2, r3, r4⟩ := HCR.out _ (hD10.block _ HGR.out)
          try dsimp only at r0 r1 r2 r3 r4
          have HC := pat_any t ht ⟨k, ps, n, txt, kp, kl, kc⟩ W10 (HT.out.later hD10)
          rw [H2.out] at HC
          try dsimp only at HC
          rw [HPR.out] at HC
          try unfold NC.val at HC
          go_wp2_with fail
          refine HC.mono ?_; rintro e W11 ⟨rfl, hC⟩
          have hD11 := hD10.trans (hC.mono hD10.size)
          clear HC hC hD10 x0 x1 x2 x3 x4 r0 r1 r2 r3 r4
          obtain ⟨x0, x1, x2, x3, x4⟩ := HBX.out.same (hD11.block w.heap.size HVS.out)
          dsimp only at x0 x1 x2 x3 x4
          rw [HPR.out] at x4
          obtain ⟨r0, r1, r2, r3, r4⟩ := HCR.out _ (hD11.block _ HGR.out)
          try dsimp only at r0 r1 r2 r3 r4
          go_wp2_with fail
          go_roundg g
          case measure => omega
          case rel => exact ⟨j + 1, by omega, (by go_num), hD11⟩
end Go.Proofs.Ytobmpipifdielaa
